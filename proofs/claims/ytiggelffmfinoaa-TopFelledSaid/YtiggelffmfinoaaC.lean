/-
  Blocks and worlds; ranges of package wind, as they read in a world; the contract of Check for ranges that are valid, over this seat's program.
  What is proved: a valid range has no error; nothing that was there before has turned.
  Conditions: valid ranges.
-/
import Derived.Test.YtiggelffmfinoaaB
import Derived.RangeFuncNested
import Derived.RangeFuncBound
import Derived.RangeFuncCalls
import Derived.RangeFuncLeaves
import Derived.Shelf.Abstract
import Derived.Shelf.RegionOpen
import Derived.OwnWalkIn
import Derived.TacticsInMore
import Derived.LoopNIn
import Derived.LoopIn
import Derived.Maps.AppendAt
import Derived.Deep.RegionHeld3
namespace Go.Proofs.Ytiggelffmfinoaa
open Go.RowKit Go.Shelf
attribute [local go_sem] Oper.semAt_some

theorem blk_setCell {w : World} {B j : Nat} {u : Value} {cur : Array Value} {t : TypeId} (h : w.heap[B]? = some (.cells cur t (0, 0))) : (w.setCell ⟨B, j, none⟩ u).heap[B]? = some (.cells (cur.setIfInBounds j u) t (0, 0)) := by
  have hlt := lt_of_block h
  have h' : w.heap[B] = .cells cur t (0, 0) := by simpa [Array.getElem?_eq_getElem hlt] using h
  show (w.heap.modify B _)[B]? = _
  rw [Array.getElem?_eq_getElem (by simpa using hlt), Array.getElem_modify_self, h']
  rfl
theorem blk_other {w : World} {B C j : Nat} {u : Value} {o : Obj} (h : w.heap[C]? = some o) (hne : C ≠ B) : (w.setCell ⟨B, j, none⟩ u).heap[C]? = some o := (Below.heap_setCell w ⟨B, j, none⟩ u C hne).trans h
theorem blk_below {w w' : World} {B : Nat} {o : Obj} (h : w.heap[B]? = some o) (hb : Below w.heap.size w w') : w'.heap[B]? = some o := (hb.block B (lt_of_block h)).trans h
theorem blk_cell {w : World} {B : Nat} {cur : Array Value} {t : TypeId} (h : w.heap[B]? = some (.cells cur t (0, 0))) (j : Nat) {v : Value} (hv : cur[j]? = some v) : w.cell? ⟨B, j, none⟩ = some v := (cell_of_row w B j _ _ _ h).trans hv
theorem blk_free {w : World} {B j : Nat} {cur : Array Value} {t : TypeId} (h : w.heap[B]? = some (.cells cur t (0, 0))) : w.frozen? ⟨B, j, none⟩ = false := by simp [World.frozen?, h]
/-- An iterator's step: whatever is not its own lies as it lay. -/
structure Apart (own : Nat → Prop) (A B : World) : Prop where
  os : B.os = A.os
  tape : B.tape = A.tape
  output : B.output = A.output
  size : A.heap.size ≤ B.heap.size
  block : ∀ k, k < A.heap.size → ¬ own k → B.heap[k]? = A.heap[k]?
/-- A round's word: whatever is the iterator's own lies as it lay. -/
structure Keeps (own : Nat → Prop) (A B : World) : Prop where
  size : A.heap.size ≤ B.heap.size
  block : ∀ k, k < A.heap.size → own k → B.heap[k]? = A.heap[k]?

theorem Apart.refl (own : Nat → Prop) (A : World) : Apart own A A := ⟨rfl, rfl, rfl, Nat.le_refl _, fun _ _ _ => rfl⟩
theorem Apart.trans {own : Nat → Prop} {A B C : World} (h : Apart own A B) (k : Apart own B C) : Apart own A C :=
  ⟨k.os.trans h.os, k.tape.trans h.tape, k.output.trans h.output, Nat.le_trans h.size k.size, fun i hi ho => (k.block i (Nat.lt_of_lt_of_le hi h.size) ho).trans (h.block i hi ho)⟩
theorem Apart.of_below {own : Nat → Prop} {A B : World} (h : Below A.heap.size A B) : Apart own A B := ⟨h.os, h.tape, h.output, h.size, fun k hk _ => h.block k hk⟩
theorem Apart.setCell {own : Nat → Prop} (A : World) {p : Addr} (hp : own p.block) (u : Value) : Apart own A (A.setCell p u) :=
  ⟨rfl, rfl, rfl, by rw [World.size_setCell]; exact Nat.le_refl _, fun k _ ho => Below.heap_setCell _ _ _ _ (fun e => ho (e ▸ hp))⟩
theorem Keeps.refl (own : Nat → Prop) (A : World) : Keeps own A A := ⟨Nat.le_refl _, fun _ _ _ => rfl⟩
theorem Keeps.trans {own : Nat → Prop} {A B C : World} (h : Keeps own A B) (k : Keeps own B C) : Keeps own A C :=
  ⟨Nat.le_trans h.size k.size, fun i hi ho => (k.block i (Nat.lt_of_lt_of_le hi h.size) ho).trans (h.block i hi ho)⟩
theorem Keeps.of_below {own : Nat → Prop} {A B : World} (h : Below A.heap.size A B) : Keeps own A B := ⟨h.size, fun k hk _ => h.block k hk⟩
theorem Keeps.less {own own' : Nat → Prop} {A B : World} (h : Keeps own A B) (ho : ∀ k, own' k → own k) : Keeps own' A B := ⟨h.size, fun k hk hk' => h.block k hk (ho k hk')⟩
theorem Keeps.blk {own : Nat → Prop} {A B : World} {k : Nat} {o : Obj} (h : Keeps own A B) (ho : own k) (hk : A.heap[k]? = some o) : B.heap[k]? = some o := (h.block k (lt_of_block hk) ho).trans hk

theorem ints_of_block {W : World} {B : Nat} {cur : Array Value} {t : TypeId} {xs : List Int} (h : W.heap[B]? = some (.cells cur t (0, 0))) (hc : cur = (xs.map (Value.int .i64)).toArray) : IntSl W (some ⟨B, 0, none⟩) xs :=
  fun _ => ⟨B, 0, rfl, lt_of_block h, fun j hj => by rw [Nat.zero_add]; exact blk_cell h j (by subst hc; simp [hj])⟩

theorem alloc1 (W : World) (o : Obj) : Below W.heap.size W (W.alloc o) := (Below.refl _ _).alloc (Nat.le_refl _) _
theorem hmf : ∀ (fn : Fn) (first cap : Array Value) (w : World), (Instr.makeFunc fn first cap).run Try.prog w = .ok (.func fn first cap) w := fun _ _ _ _ => rfl

/-- A range of package wind. -/
structure Rg where
  radius : Int
  unit : Int
  clicks : Int
  total : Int
  group : List Int
  drifts : List Int
  first : List Int
  next : List (List Int)
/-- A range as a value: where its lists lie. -/
structure Rv where
  r : Rg
  ag : Option Addr
  cg : Nat
  ad : Option Addr
  cd : Nat
  af : Option Addr
  cf : Nat
  an : Option Addr
  cn : Nat
abbrev Rv.arr (R : Rv) : Array Value := #[.int .i64 R.r.radius, .int .i64 R.r.unit, .int .i64 R.r.clicks, .int .i64 R.r.total, .slice R.ag R.r.group.length R.cg, .slice R.ad R.r.drifts.length R.cd, .slice R.af R.r.first.length R.cf, .slice R.an R.r.next.length R.cn]
abbrev Rv.v (R : Rv) : Value := .agg R.arr
structure RgAt (w : World) (R : Rv) : Prop where
  g : IntSl w R.ag R.r.group
  d : IntSl w R.ad R.r.drifts
  f : IntSl w R.af R.r.first
  n : SlsAt w R.an R.r.next
theorem RgAt.below {w w' : World} {R : Rv} (h : RgAt w R) (hb : Below w.heap.size w w') : RgAt w' R := ⟨h.g.below hb, h.d.below hb, h.f.below hb, h.n.below hb⟩
structure RgOk (r : Rg) : Prop where
  rad : 0 ≤ r.radius ∧ r.radius ≤ 200
  unit : 1 ≤ r.unit ∧ r.unit ≤ 20
  clicks : 0 ≤ r.clicks ∧ r.clicks ≤ 6
  total : 1 ≤ r.total ∧ r.total ≤ 12
  glen : r.group.length % 2 = 1 ∧ r.group.length ≤ 21
  dlen : 1 ≤ r.drifts.length ∧ r.drifts.length ≤ 5
  flen : r.first.length = r.drifts.length
  nlen : r.next.length = r.drifts.length
  nlens : ∀ l ∈ r.next, l.length = r.drifts.length
  drifts : ∀ x ∈ r.drifts, -300 ≤ x ∧ x ≤ 300
  group : ∀ x ∈ r.group, 0 ≤ x ∧ x ≤ 100
  first : ∀ x ∈ r.first, 0 ≤ x ∧ x ≤ r.total
  next : ∀ l ∈ r.next, ∀ x ∈ l, 0 ≤ x ∧ x ≤ r.total
  gsum : 1 ≤ sumI r.group ∧ sumI r.group ≤ 100
  fsum : sumI r.first = r.total
  nsum : ∀ l ∈ r.next, sumI l = r.total

theorem within_of {n lo hi : Int} (h : lo ≤ n ∧ n ≤ hi) : withinB n lo hi = true := by simp [withinB]; omega
theorem all_within {xs : List Int} {lo hi : Int} (h : ∀ x ∈ xs, lo ≤ x ∧ x ≤ hi) : xs.all (fun x => withinB x lo hi) = true := List.all_eq_true.2 (fun x hx => within_of (h x hx))

theorem eg56 : ∀ args w, (callFunc 56 args).run Try.prog w = .ok (.enter 56 args) w := enters_of Try.func56 (by kernel_rfl) rfl
theorem eg57 : ∀ args w, (callFunc 57 args).run Try.prog w = .ok (.enter 57 args) w := enters_of Try.func57 (by kernel_rfl) rfl
theorem eg59 : ∀ args w, (callFunc 59 args).run Try.prog w = .ok (.enter 59 args) w := enters_of Try.func59 (by kernel_rfl) rfl
theorem eg60 : ∀ args w, (callFunc 60 args).run Try.prog w = .ok (.enter 60 args) w := enters_of Try.func60 (by kernel_rfl) rfl
theorem eg61 : ∀ args w, (callFunc 61 args).run Try.prog w = .ok (.enter 61 args) w := enters_of Try.func61 (by kernel_rfl) rfl
theorem eg47 : ∀ args w, (callFunc 44 args).run Try.prog w = .ok (.enter 44 args) w := enters_of Try.func44 (by kernel_rfl) rfl

set_option maxHeartbeats 400000 in
theorem lim60_any (n : Int) (w : World) : Calls Try.prog 60 #[.int .i64 n] w fun e w' => e = .returned (.bool (withinB n (-300) 300)) ∧ w = w' := by
  go_enter Try.func60, Try.ntmps60
  go_wp2_with (go_at_call 30; refine (within_w _ _ _ _).mono ?_; rintro e w' ⟨rfl, rfl⟩)
  go_ret
  exact ⟨rfl, rfl⟩

set_option maxHeartbeats 400000 in
theorem lim61_any (n : Int) (w : World) : Calls Try.prog 61 #[.int .i64 n] w fun e w' => e = .returned (.bool (withinB n 0 100)) ∧ w = w' := by
  go_enter Try.func61, Try.ntmps61
  go_wp2_with (go_at_call 30; refine (within_w _ _ _ _).mono ?_; rintro e w' ⟨rfl, rfl⟩)
  go_ret
  exact ⟨rfl, rfl⟩

set_option maxHeartbeats 400000 in
theorem lim59_any (n : Int) (R : Rv) (B : Nat) (w : World) (hB : w.heap[B]? = some (.cells R.arr 26 (0, 0))) : Calls Try.prog 59 #[.int .i64 n, .pointer (some ⟨B, 0, none⟩)] w fun e w' => e = .returned (.bool (withinB n 0 R.r.total)) ∧ w = w' := by
  have c3 := blk_cell hB 3 rfl
  clear hB
  go_enter Try.func59, Try.ntmps59
  go_wp2_with (go_at_call 30; refine (within_w _ _ _ _).mono ?_; rintro e w' ⟨rfl, rfl⟩)
  go_ret
  exact ⟨rfl, rfl⟩

set_option maxHeartbeats 400000 in
theorem lim57_any (a : Option Addr) (xs : List Int) (cap : Nat) (R : Rv) (B : Nat) (w : World) (hB : w.heap[B]? = some (.cells R.arr 26 (0, 0))) (hx : IntSl w a xs) (hl : xs.length ≤ 1000000) :
    Calls Try.prog 57 #[.slice a xs.length cap, .pointer (some ⟨B, 0, none⟩)] w fun e w' => e = .returned (.bool (xs.all (fun x => withinB x 0 R.r.total))) ∧ Below w.heap.size w w' := by
  have hmf := hmf
  have C := Lib.hid (every_int a xs cap 59 #[.pointer (some ⟨B, 0, none⟩)] (fun x => withinB x 0 R.r.total) w hx hl eg59 (fun x _ W hW => (lim59_any x R B W (blk_below hB hW)).mono (fun e W' h => ⟨h.1, h.2 ▸ Below.refl _ _⟩)))
  clear hB hx
  go_enter Try.func57, Try.ntmps57
  go_wp2_with (fail)
  refine C.out.mono ?_
  rintro e w1 ⟨rfl, hb⟩
  go_wp2
  go_ret
  exact ⟨rfl, hb⟩

set_option maxHeartbeats 400000 in
theorem cnt56_any (a : Option Addr) (n cap : Nat) (R : Rv) (B : Nat) (w : World) (hB : w.heap[B]? = some (.cells R.arr 26 (0, 0))) :
    Calls Try.prog 56 #[.slice a n cap, .pointer (some ⟨B, 0, none⟩)] w fun e w' => e = .returned (.bool (n == R.r.drifts.length)) ∧ w = w' := by
  have c5 := blk_cell hB 5 rfl
  clear hB
  go_enter Try.func56, Try.ntmps56
  go_wp2
  go_ret
  exact ⟨ret_bool (by rw [Bool.eq_iff_iff]; simp; try omega), rfl⟩

set_option maxHeartbeats 400000 in
theorem cer47_any (a : Option Addr) (xs : List Int) (cap : Nat) (R : Rv) (B : Nat) (w : World) (hB : w.heap[B]? = some (.cells R.arr 26 (0, 0))) (hx : IntSl w a xs) (hl : xs.length ≤ 1000000) (hb : ∀ x ∈ xs, 0 ≤ x ∧ x ≤ 1000000000) :
    Calls Try.prog 44 #[.slice a xs.length cap, .pointer (some ⟨B, 0, none⟩)] w fun e w' => e = .returned (.bool (sumI xs == R.r.total)) ∧ Below w.heap.size w w' := by
  have c3 := blk_cell hB 3 rfl
  have hd : Below w.heap.size w w.drew := (Below.refl _ _).drew
  have C := Lib.hid (sum_any a xs cap w.drew (hx.below hd) hl hb)
  clear hB hx hb
  go_enter Try.func44, Try.ntmps44
  go_wp2_with (fail)
  go_region_held3 (fun w' => w'.cell? ⟨B, 3, none⟩ = some (.int .i64 R.r.total)) (go_keep)
    (first | (go_at_call 29; refine C.out.mono ?_; rintro e w1 ⟨rfl, rfl⟩))
  all_goals go_wp2
  all_goals go_ret
  all_goals exact ⟨by first | rfl | exact ret_bool (by rw [Bool.eq_iff_iff]; simp), hd⟩

set_option maxHeartbeats 2000000 in
theorem counted_ok (R : Rv) (w : World) (hA : RgAt w R) (ok : RgOk R.r) : Calls Try.prog 42 #[R.v] w fun e w' => e = .returned (.bool true) ∧ Below w.heap.size w w' := by
  have hmf := hmf
  have hB := heap_alloc_new w (.cells R.arr 26)
  have h0 : Below w.heap.size w (w.alloc (.cells R.arr 26)) := alloc1 w _
  have g1 : withinB (R.r.group.length : Int) 1 21 = true := within_of (by have := ok.glen; omega)
  have g2 : withinB (R.r.drifts.length : Int) 1 5 = true := within_of (by have := ok.dlen; omega)
  have g3 : Int.tmod (R.r.group.length : Int) 2 = 1 := by have := ok.glen.1; rw [Int.tmod_eq_emod_of_nonneg (by omega)]; omega
  have G4 := Lib.hid ok.flen
  have g5 : (R.r.next.length : Int) = R.r.drifts.length := by have := ok.nlen; omega
  have g6 : R.r.next.all (fun l => l.length == R.r.drifts.length) = true := List.all_eq_true.2 (fun l hl => by simpa using ok.nlens l hl)
  have hl : R.r.next.length ≤ 1000000 := by have := ok.dlen; omega
  have C := Lib.hid ((cnt56_any R.af R.r.first.length R.cf R w.heap.size _ hB).mono (fun e W' h => (⟨h.1.trans (by rw [G4.out, beq_self_eq_true]), h.2⟩ : e = .returned (.bool true) ∧ _ = W')))
  have D := Lib.hid (every_ints R.an R.r.next R.cn 56 #[.pointer (some ⟨w.heap.size, 0, none⟩)] (fun l => l.length == R.r.drifts.length) _ (hA.n.below h0) hl eg56 (fun x _ W hW a' cap' _ => (cnt56_any a' x.length cap' R w.heap.size W (blk_below hB hW)).mono (fun e W' h => ⟨h.1, h.2 ▸ Below.refl _ _⟩)))
  clear hA ok hB
  go_enter Try.func42, Try.ntmps42
  go_wp2_with (go_at_call 30; refine (within_w _ _ _ _).mono ?_; rintro e w' ⟨rfl, rfl⟩)
  refine C.out.mono ?_
  rintro e w1 ⟨rfl, rfl⟩
  go_wp2_with (fail)
  refine D.out.mono ?_
  rintro e w2 ⟨rfl, hb2⟩
  go_wp2
  go_ret
  exact ⟨rfl, below_self h0 hb2⟩

set_option maxHeartbeats 4000000 in
theorem limited_ok (R : Rv) (w : World) (hA : RgAt w R) (ok : RgOk R.r) : Calls Try.prog 43 #[R.v] w fun e w' => e = .returned (.bool true) ∧ Below w.heap.size w w' := by
  have hmf := hmf
  have hB := heap_alloc_new w (.cells R.arr 26)
  have h0 : Below w.heap.size w (w.alloc (.cells R.arr 26)) := alloc1 w _
  have g1 := within_of ok.rad
  have g2 := within_of ok.unit
  have g3 := within_of ok.clicks
  have g4 := within_of ok.total
  have D1 := Lib.hid fun W (hW : Below (w.alloc (.cells R.arr 26)).heap.size (w.alloc (.cells R.arr 26)) W) => (every_int R.ad R.r.drifts R.cd 60 #[] (fun x => withinB x (-300) 300) W ((hA.below h0).below hW).d (by have := ok.dlen; omega) eg60 (fun x _ W _ => (lim60_any x W).mono (fun e W' h => ⟨h.1, h.2 ▸ Below.refl _ _⟩))).mono (fun e W' h => (⟨h.1.trans (by rw [all_within ok.drifts]), below_self hW h.2, blk_below hB (below_self hW h.2)⟩ : e = .returned (.bool true) ∧ Below (w.alloc (.cells R.arr 26)).heap.size (w.alloc (.cells R.arr 26)) W' ∧ W'.heap[w.heap.size]? = some (.cells R.arr 26 (0, 0))))
  have D2 := Lib.hid fun W (hW : Below (w.alloc (.cells R.arr 26)).heap.size (w.alloc (.cells R.arr 26)) W) => (every_int R.ag R.r.group R.cg 61 #[] (fun x => withinB x 0 100) W ((hA.below h0).below hW).g (by have := ok.glen; omega) eg61 (fun x _ W _ => (lim61_any x W).mono (fun e W' h => ⟨h.1, h.2 ▸ Below.refl _ _⟩))).mono (fun e W' h => (⟨h.1.trans (by rw [all_within ok.group]), below_self hW h.2, blk_below hB (below_self hW h.2)⟩ : e = .returned (.bool true) ∧ Below (w.alloc (.cells R.arr 26)).heap.size (w.alloc (.cells R.arr 26)) W' ∧ W'.heap[w.heap.size]? = some (.cells R.arr 26 (0, 0))))
  have D3 := Lib.hid fun W (hW : Below (w.alloc (.cells R.arr 26)).heap.size (w.alloc (.cells R.arr 26)) W) => (lim57_any R.af R.r.first R.cf R w.heap.size W (blk_below hB hW) ((hA.below h0).below hW).f (by have := ok.flen; have := ok.dlen; omega)).mono (fun e W' h => (⟨h.1.trans (by rw [all_within ok.first]), below_self hW h.2, blk_below hB (below_self hW h.2)⟩ : e = .returned (.bool true) ∧ Below (w.alloc (.cells R.arr 26)).heap.size (w.alloc (.cells R.arr 26)) W' ∧ W'.heap[w.heap.size]? = some (.cells R.arr 26 (0, 0))))
  have D4 := Lib.hid fun W (hW : Below (w.alloc (.cells R.arr 26)).heap.size (w.alloc (.cells R.arr 26)) W) => (every_ints R.an R.r.next R.cn 57 #[.pointer (some ⟨w.heap.size, 0, none⟩)] (fun l => l.all (fun x => withinB x 0 R.r.total)) W ((hA.below h0).below hW).n (by have := ok.nlen; have := ok.dlen; omega) eg57 (fun x hx W2 hW2 a' cap' hs => lim57_any a' x cap' R w.heap.size W2 (blk_below hB (below_self hW hW2)) hs (by have := ok.nlens x hx; have := ok.dlen; omega))).mono (fun e W' h => (⟨h.1.trans (by rw [List.all_eq_true.2 (fun l hl => all_within (ok.next l hl))]), below_self hW h.2⟩ : e = .returned (.bool true) ∧ Below (w.alloc (.cells R.arr 26)).heap.size (w.alloc (.cells R.arr 26)) W'))
  clear hA ok hB
  go_enter Try.func43, Try.ntmps43
  go_wp2_with (go_at_call 30; refine (within_w _ _ _ _).mono ?_; rintro e w' ⟨rfl, rfl⟩)
  refine (D1.out _ (Below.refl _ _)).mono ?_
  rintro e w1 ⟨rfl, hb1, hB1⟩
  have H1 := Lib.hid hb1
  have c4 := blk_cell hB1 4 rfl
  clear hb1 hB1
  go_wp2_with (fail)
  refine (D2.out _ H1.out).mono ?_
  rintro e w2 ⟨rfl, hb2, hB2⟩
  have H2 := Lib.hid hb2
  have c6 := blk_cell hB2 6 rfl
  clear hb2 hB2 c4
  go_wp2_with (fail)
  refine (D3.out _ H2.out).mono ?_
  rintro e w3 ⟨rfl, hb3, hB3⟩
  have H3 := Lib.hid hb3
  have c7 := blk_cell hB3 7 rfl
  clear hb3 hB3 c6
  go_wp2_with (fail)
  refine (D4.out _ H3.out).mono ?_
  rintro e w4 ⟨rfl, hb4⟩
  go_wp2
  go_ret
  exact ⟨rfl, below_self h0 hb4⟩

set_option maxHeartbeats 4000000 in
theorem check_ok (R : Rv) (w : World) (hA : RgAt w R) (ok : RgOk R.r) : Calls Try.prog 28 #[R.v] w fun e w' => e = .returned (.int .i64 0) ∧ Below w.heap.size w w' := by
  have hmf := hmf
  have hB := heap_alloc_new w (.cells R.arr 26)
  have h0 : Below w.heap.size w (w.alloc (.cells R.arr 26)) := alloc1 w _
  have hA0 := hA.below h0
  obtain ⟨w0, hw0⟩ : ∃ w0, w.alloc (.cells R.arr 26) = w0 := ⟨_, rfl⟩
  rw [hw0] at hB h0 hA0
  have D1 := Lib.hid ((counted_ok R w0 hA0 ok).mono (fun e W' h => (⟨h.1, h.2, blk_below hB h.2⟩ : e = .returned (.bool true) ∧ Below w0.heap.size w0 W' ∧ W'.heap[w.heap.size]? = some (.cells R.arr 26 (0, 0)))))
  have D2 := Lib.hid fun W (hW : Below w0.heap.size w0 W) => (limited_ok R W (hA0.below hW) ok).mono (fun e W' h => (⟨h.1, below_self hW h.2, blk_below hB (below_self hW h.2)⟩ : e = .returned (.bool true) ∧ Below w0.heap.size w0 W' ∧ W'.heap[w.heap.size]? = some (.cells R.arr 26 (0, 0))))
  have gs := within_of ok.gsum
  have D3 := Lib.hid fun W (hW : Below w0.heap.size w0 W) => sum_any R.ag R.r.group R.cg W (hA0.below hW).g (by have := ok.glen; omega) (fun x hx => by have := ok.group x hx; omega)
  have D4 := Lib.hid fun W (hW : Below w0.heap.size w0 W) => (cer47_any R.af R.r.first R.cf R w.heap.size W (blk_below hB hW) (hA0.below hW).f (by have := ok.flen; have := ok.dlen; omega) (fun x hx => by have := ok.first x hx; have := ok.total; omega)).mono (fun e W' h => (⟨h.1.trans (by rw [ok.fsum, beq_self_eq_true]), below_self hW h.2, blk_below hB (below_self hW h.2)⟩ : e = .returned (.bool true) ∧ Below w0.heap.size w0 W' ∧ W'.heap[w.heap.size]? = some (.cells R.arr 26 (0, 0))))
  have D5 := Lib.hid fun W (hW : Below w0.heap.size w0 W) => (every_ints R.an R.r.next R.cn 44 #[.pointer (some ⟨w.heap.size, 0, none⟩)] (fun l => sumI l == R.r.total) W (hA0.below hW).n (by have := ok.nlen; have := ok.dlen; omega) eg47 (fun x hx W2 hW2 a' cap' hs => cer47_any a' x cap' R w.heap.size W2 (blk_below hB (below_self hW hW2)) hs (by have := ok.nlens x hx; have := ok.dlen; omega) (fun y hy => by have := ok.next x hx y hy; have := ok.total; omega))).mono (fun e W' h => (⟨h.1.trans (by rw [List.all_eq_true.2 (fun l hl => by rw [ok.nsum l hl, beq_self_eq_true])]), below_self hW h.2⟩ : e = .returned (.bool true) ∧ Below w0.heap.size w0 W'))
  have c0 := blk_cell hB 0 rfl
  have c1 := blk_cell hB 1 rfl
  have c2 := blk_cell hB 2 rfl
  have c3 := blk_cell hB 3 rfl
  have c4 := blk_cell hB 4 rfl
  have c5 := blk_cell hB 5 rfl
  have c6 := blk_cell hB 6 rfl
  have c7 := blk_cell hB 7 rfl
  clear hA hA0 ok hB
  go_enter Try.func28, Try.ntmps28
  go_wp2_with (fail)
  refine D1.out.mono ?_
  rintro e w1 ⟨rfl, hb1, hB1⟩
  have H1 := Lib.hid hb1
  clear c0 c1 c2 c3 c4 c5 c6 c7
  have c0 := blk_cell hB1 0 rfl
  have c1 := blk_cell hB1 1 rfl
  have c2 := blk_cell hB1 2 rfl
  have c3 := blk_cell hB1 3 rfl
  have c4 := blk_cell hB1 4 rfl
  have c5 := blk_cell hB1 5 rfl
  have c6 := blk_cell hB1 6 rfl
  have c7 := blk_cell hB1 7 rfl
  clear hb1 hB1
  go_wp2_with (fail)
  refine (D2.out _ H1.out).mono ?_
  rintro e w2 ⟨rfl, hb2, hB2⟩
  have H2 := Lib.hid hb2
  clear c0 c1 c2 c3 c4 c5 c6 c7
  have c0 := blk_cell hB2 0 rfl
  have c1 := blk_cell hB2 1 rfl
  have c2 := blk_cell hB2 2 rfl
  have c3 := blk_cell hB2 3 rfl
  have c4 := blk_cell hB2 4 rfl
  have c5 := blk_cell hB2 5 rfl
  have c6 := blk_cell hB2 6 rfl
  have c7 := blk_cell hB2 7 rfl
  clear hb2 hB2
  go_wp2_with (first | (refine (D3.out _ H2.out).mono ?_; rintro e w' ⟨rfl, rfl⟩) | (go_at_call 30; refine (within_w _ _ _ _).mono ?_; rintro e w' ⟨rfl, rfl⟩))
  refine (D4.out _ H2.out).mono ?_
  rintro e w3 ⟨rfl, hb3, hB3⟩
  have H3 := Lib.hid hb3
  clear c0 c1 c2 c3 c4 c5 c6 c7
  have c7 := blk_cell hB3 7 rfl
  clear hb3 hB3
  go_wp2_with (fail)
  refine (D5.out _ H3.out).mono ?_
  rintro e w4 ⟨rfl, hb4⟩
  go_wp2
  go_ret
  exact ⟨rfl, below_self h0 hb4⟩

/-- The block of a range at work. -/
abbrev Rv.warr (R : Rv) : Array Value := #[.int .i64 R.r.radius, .int .i64 R.r.unit, .int .i64 R.r.clicks, .int .i64 R.r.total, .slice R.ag R.r.group.length R.cg, .slice R.ad R.r.drifts.length R.cd, .slice R.af R.r.first.length R.cf, .slice R.an R.r.next.length R.cn, .int .i64 (sumI R.r.group)]
/-- A range at work, as it lies in a world. -/
structure WkAt (w : World) (R : Rv) (B : Nat) : Prop where
  at' : RgAt w R
  b : w.heap[B]? = some (.cells R.warr 56 (0, 0))
theorem WkAt.below {w w' : World} {R : Rv} {B : Nat} (h : WkAt w R B) (hb : Below w.heap.size w w') : WkAt w' R B := ⟨h.at'.below hb, blk_below h.b hb⟩

set_option maxHeartbeats 4000000 in
theorem begin_ok (R : Rv) (w : World) (hA : RgAt w R) (ok : RgOk R.r) : Calls Try.prog 13 #[R.v] w fun e w' => ∃ B, e = .returned (.tuple #[.pointer (some ⟨B, 0, none⟩), .int .i64 0]) ∧ WkAt w' R B ∧ w.heap.size ≤ B ∧ Below w.heap.size w w' := by
  have hB := heap_alloc_new w (.cells R.arr 26)
  have h0 : Below w.heap.size w (w.alloc (.cells R.arr 26)) := alloc1 w _
  have hA0 := hA.below h0
  obtain ⟨w0, hw0⟩ : ∃ w0, w.alloc (.cells R.arr 26) = w0 := ⟨_, rfl⟩
  rw [hw0] at hB h0 hA0
  have D1 := Lib.hid ((check_ok R w0 hA0 ok).mono (fun e W' h => (⟨h.1, h.2, blk_below hB h.2⟩ : e = .returned (.int .i64 0) ∧ Below w0.heap.size w0 W' ∧ W'.heap[w.heap.size]? = some (.cells R.arr 26 (0, 0)))))
  have D3 := Lib.hid fun W (hW : Below w0.heap.size w0 W) => sum_any R.ag R.r.group R.cg W (hA0.below hW).g (by have := ok.glen; omega) (fun x hx => by have := ok.group x hx; omega)
  have HF := Lib.hid (fun (W W' : World) (hW : Below w0.heap.size w0 W) (he : W.alloc (.cells R.warr 56) = W') => (⟨⟨by rw [← he]; exact (hA0.below hW).below (alloc1 W _), by rw [← he]; exact heap_alloc_new W _⟩, Nat.le_trans h0.size hW.size, by rw [← he]; exact (below_self h0 hW).alloc (Nat.le_trans h0.size hW.size) _⟩ : WkAt W' R W.heap.size ∧ w.heap.size ≤ W.heap.size ∧ Below w.heap.size w W'))
  have c0 := blk_cell hB 0 rfl
  have c1 := blk_cell hB 1 rfl
  have c2 := blk_cell hB 2 rfl
  have c3 := blk_cell hB 3 rfl
  have c4 := blk_cell hB 4 rfl
  have c5 := blk_cell hB 5 rfl
  have c6 := blk_cell hB 6 rfl
  have c7 := blk_cell hB 7 rfl
  clear hA hA0 ok hB
  go_enter Try.func13, Try.ntmps13
  go_wp2_with (fail)
  refine D1.out.mono ?_
  rintro e w1 ⟨rfl, hb1, hB1⟩
  have H1 := Lib.hid hb1
  clear c0 c1 c2 c3 c4 c5 c6 c7
  have c0 := blk_cell hB1 0 rfl
  have c1 := blk_cell hB1 1 rfl
  have c2 := blk_cell hB1 2 rfl
  have c3 := blk_cell hB1 3 rfl
  have c4 := blk_cell hB1 4 rfl
  have c5 := blk_cell hB1 5 rfl
  have c6 := blk_cell hB1 6 rfl
  have c7 := blk_cell hB1 7 rfl
  clear hb1 hB1
  go_wp2_with (fail)
  go_region_held3 (fun w' => w'.cell? ⟨w.heap.size, 0, none⟩ = some (.int .i64 R.r.radius) ∧ w'.cell? ⟨w.heap.size, 1, none⟩ = some (.int .i64 R.r.unit) ∧ w'.cell? ⟨w.heap.size, 2, none⟩ = some (.int .i64 R.r.clicks) ∧ w'.cell? ⟨w.heap.size, 3, none⟩ = some (.int .i64 R.r.total) ∧ w'.cell? ⟨w.heap.size, 4, none⟩ = some (.slice R.ag R.r.group.length R.cg) ∧ w'.cell? ⟨w.heap.size, 5, none⟩ = some (.slice R.ad R.r.drifts.length R.cd) ∧ w'.cell? ⟨w.heap.size, 6, none⟩ = some (.slice R.af R.r.first.length R.cf) ∧ w'.cell? ⟨w.heap.size, 7, none⟩ = some (.slice R.an R.r.next.length R.cn)) (go_keep)
    (first | (go_at_call 29; refine (D3.out _ H1.out.drew).mono ?_; rintro e w2 ⟨rfl, rfl⟩))
  all_goals (
    go_wp2
    refine bodyPost_ret (v := .tuple #[.pointer (some ⟨w1.heap.size, 0, none⟩), .int .i64 0]) (by simp [results, Try.results13, go_sem]) rfl ?_
    exact ⟨_, rfl, HF.out w1.drew _ H1.out.drew rfl⟩)
end Go.Proofs.Ytiggelffmfinoaa
