/-
  First of package course at the chapter's winter, over this seat's program: CheckWinter, the worst weather, play and what they call; Short.
-/
import Derived.WalkKit
import Derived.WalkSpells
import Derived.Lib.Hide
import Derived.WalkLawsBesides
import Derived.Outline
import Derived.BigQuiet
import Derived.Deep.QuietTactic
import Derived.Shelf.Abstract
import Derived.Maps.AppendAt
import Derived.Maps.OwnOps
import Derived.Maps.Views
import Derived.Handy
import Derived.Deep.RegionHeld3
import Derived.Deep.DeepCutAuto
import Derived.Lib.SliceRun
import Derived.RangeFuncNested
import Derived.RangeFuncBound
import Derived.RangeFuncCalls
import Derived.RangeFuncLeaves
import Derived.Shelf.RegionOpen
import Derived.OwnWalkIn
import Derived.TacticsInMore
import Derived.LoopNIn
import Derived.LoopIn
import Derived.Laws.EntriesVeiled
import Derived.WalkMore
import Derived.IntWalk
import Derived.Test.YtiggelffmfinoaaG
import Derived.Test.YtiggelffmfinoaaMC
namespace Go.Proofs.Ytiggelffmfinoaa
open Go.RowKit
open Go.RowKit Go.Maps
open Go.RowKit Go.Shelf
attribute [local go_sem] Oper.semAt_some

set_option maxHeartbeats 400000 in
theorem within_any (n lo hi : Int) (w : World) : Calls Try.prog 62 #[.int .i64 n, .int .i64 lo, .int .i64 hi] w fun e w' => e = .returned (.bool (withinB n lo hi)) ∧ w = w' := by
  go_enter Try.func62, Try.ntmps62
  go_wp2
  all_goals go_ret
  all_goals exact ⟨ret_bool (by simp [withinB]; try omega), rfl⟩
set_option maxHeartbeats 400000 in
theorem bounded_any (s : Sp) (m : Int) (w : World) : Calls Try.prog 64 #[s.v, .int .i64 m] w fun e w' => e = .returned (.bool (boundedB s m)) ∧ Below w.heap.size w w' := by
  go_enter Try.func64, Try.ntmps64
  go_wp2
  all_goals go_ret
  all_goals exact ⟨ret_bool (by first | (simp [boundedB, *]; done) | (simp [boundedB, *]; omega)), (Below.refl _ _).alloc (Nat.le_refl _) _⟩
set_option maxHeartbeats 1000000 in
theorem every_day (a : Option Addr) (xs : List Dy) (cap g : Nat) (lb : Array Value) (p : Dy → Bool) (w : World) (hx : Sl 6 Dy.cells w a xs) (hl : xs.length ≤ 1000000)
    (eg : ∀ args w, (callFunc g args).run Try.prog w = .ok (.enter g args) w)
    (hg : ∀ x ∈ xs, ∀ W, Below w.heap.size w W → Calls Try.prog g (#[Dy.v x] ++ lb) W fun e W' => e = .returned (.bool (p x)) ∧ Below W.heap.size W W') :
    Calls Try.prog 65 #[.slice a xs.length cap, .func (.func g) #[] lb] w fun e w' => e = .returned (.bool (xs.all p)) ∧ Below w.heap.size w w' := by
  have Hg := Lib.hid hg
  clear hg
  go_enter Try.func65, Try.ntmps65
  go_wp2
  go_loopw [9] (fun i wr => ∃ k : Nat, k ≤ xs.length ∧ i = .int .i64 k ∧ Hid ((xs.take k).all p = true) ∧ Below w.heap.size w wr) (fun i _ => xs.length - (intOf i).toNat)
  case atStart => exact ⟨0, Nat.zero_le _, rfl, by simp [Hid], Below.refl _ _⟩
  case round =>
    obtain ⟨k, hk, rfl, hall, hbw⟩ := hrel
    by_cases hlt : k < xs.length
    · obtain ⟨b, off, rfl, hbs, hc⟩ := hx (by omega)
      have hc0 := (hbw.cell (p := ⟨b, off + k * 6, none⟩) hbs).trans (hc k xs[k] 0 _ (List.getElem?_eq_getElem hlt) rfl)
      have hc1 := (hbw.cell (p := ⟨b, off + k * 6 + 1, none⟩) hbs).trans (hc k xs[k] 1 _ (List.getElem?_eq_getElem hlt) rfl)
      have hc2 := (hbw.cell (p := ⟨b, off + k * 6 + 2, none⟩) hbs).trans (hc k xs[k] 2 _ (List.getElem?_eq_getElem hlt) rfl)
      have hc3 := (hbw.cell (p := ⟨b, off + k * 6 + 3, none⟩) hbs).trans (hc k xs[k] 3 _ (List.getElem?_eq_getElem hlt) rfl)
      have hc4 := (hbw.cell (p := ⟨b, off + k * 6 + 4, none⟩) hbs).trans (hc k xs[k] 4 _ (List.getElem?_eq_getElem hlt) rfl)
      have hc5 := (hbw.cell (p := ⟨b, off + k * 6 + 5, none⟩) hbs).trans (hc k xs[k] 5 _ (List.getElem?_eq_getElem hlt) rfl)
      clear hc
      go_wp2_with fail
      refine (Hg.out xs[k] (List.getElem_mem hlt) _ (hbw.alloc hbw.size _)).mono ?_
      rintro e w1 ⟨rfl, hb1⟩
      have hb2 := below_self (hbw.alloc hbw.size _) hb1
      clear hbw hc0 hc1 hc2 hc3 hc4 hc5 hb1
      cases hp : p xs[k]
      · have HF := Lib.hid (all_false p xs k hlt hp)
        clear hp
        go_wp2
        go_ret
        exact ⟨by rw [HF.out]; rfl, hb2⟩
      · have HF := Lib.hid ((all_take_succ p xs k hlt).trans (by rw [hall.out, hp]))
        clear hp hall
        go_wp2
        go_roundw
        case rel => exact ⟨k + 1, by omega, by go_num, HF, hb2⟩
        case measure => simp [intOf]; omega
    · have : k = xs.length := by omega
      subst this
      rw [List.take_length] at hall
      go_wp2
      go_ret
      exact ⟨by rw [hall.out]; rfl, hbw⟩
/-- A call that hands back a slice of integers; nothing that was there before it has turned. -/
def OutInts (w : World) (ys : List Int) (e : Ending) (w' : World) : Prop := ∃ a cap, e = .returned (.slice a ys.length cap) ∧ IntSl w' a ys ∧ (∀ p, a = some p → w.heap.size ≤ p.block) ∧ Below w.heap.size w w'
theorem map_take_succ {α β : Type} (h : α → β) (xs : List α) (k : Nat) (hk : k < xs.length) : (xs.take (k + 1)).map h = (xs.take k).map h ++ [h xs[k]] := by
  rw [List.take_add_one, List.getElem?_eq_getElem hk, List.map_append]; rfl
/-- The rules lie in a block. -/
def RuAt (w : World) (B : Nat) (r : Ru) : Prop := w.heap[B]? = some (.cells #[.int .i64 r.laps, .int .i64 r.len.lo, .int .i64 r.len.hi, .int .i64 r.climb.lo, .int .i64 r.climb.hi, .int .i64 r.lap.lo, .int .i64 r.lap.hi, .int .i64 r.wide, .int .i64 r.uses] 26 (0, 0))
theorem RuAt.below {w w' : World} {B : Nat} {r : Ru} (h : RuAt w B r) (hb : Below w.heap.size w w') : RuAt w' B r := (hb.block B (lt_of_block h)).trans h
theorem RuAt.cells {w : World} {B : Nat} {r : Ru} (h : RuAt w B r) : w.cell? ⟨B, 0, none⟩ = some (.int .i64 r.laps) ∧ w.cell? ⟨B, 1, none⟩ = some (.int .i64 r.len.lo) ∧ w.cell? ⟨B, 2, none⟩ = some (.int .i64 r.len.hi) ∧ w.cell? ⟨B, 3, none⟩ = some (.int .i64 r.climb.lo) ∧ w.cell? ⟨B, 4, none⟩ = some (.int .i64 r.climb.hi) ∧ w.cell? ⟨B, 5, none⟩ = some (.int .i64 r.lap.lo) ∧ w.cell? ⟨B, 6, none⟩ = some (.int .i64 r.lap.hi) ∧ w.cell? ⟨B, 7, none⟩ = some (.int .i64 r.wide) ∧ w.cell? ⟨B, 8, none⟩ = some (.int .i64 r.uses) := by
  refine ⟨?_, ?_, ?_, ?_, ?_, ?_, ?_, ?_, ?_⟩ <;> (rw [cell_of_row w B _ _ _ _ h]; rfl)
structure Mk where
  a : Bool
  b : Bool
  c : Bool
  d : Bool
  e : Bool
abbrev Mk.v (m : Mk) : Value := .agg #[.bool m.a, .bool m.b, .bool m.c, .bool m.d, .bool m.e]
/-- What stays as it is while judge runs. -/
structure JEnv (w : World) (a : Option Addr) (n cap : Nat) (r : Ru) (W : World) : Prop where
  b : Below w.heap.size w W
  r : RuAt W (w.heap.size + 1) r
  s : W.heap[w.heap.size]? = some (.cells #[.slice a n cap] 22 (0, 0))
theorem JEnv.below {w W W' : World} {a : Option Addr} {n cap : Nat} {r : Ru} (h : JEnv w a n cap r W) (hb : Below W.heap.size W W') : JEnv w a n cap r W' := ⟨below_self h.b hb, h.r.below hb, blk_below h.s hb⟩
theorem JEnv.set {w W : World} {a : Option Addr} {n cap : Nat} {r : Ru} (h : JEnv w a n cap r W) (j : Nat) (u : Value) : JEnv w a n cap r (W.setCell ⟨w.heap.size + 1 + 1, j, none⟩ u) :=
  ⟨h.b.setCell (p := ⟨w.heap.size + 1 + 1, j, none⟩) (by show w.heap.size ≤ w.heap.size + 1 + 1; omega) _, blk_other h.r (by omega), blk_other h.s (by omega)⟩
/-- The block of a slice holds ints. -/
def Ty3 (W : World) (a : Option Addr) : Prop := ∀ q, a = some q → ∃ cs, W.heap[q.block]? = some (.cells cs 3 (0, 0))
theorem Ty3.below {w w' : World} {a : Option Addr} (h : Ty3 w a) (hb : Below w.heap.size w w') : Ty3 w' a := fun q hq => by
  obtain ⟨cs, h1⟩ := h q hq
  exact ⟨cs, (hb.block _ (lt_of_block h1)).trans h1⟩
/-- What stays while the loop of right's iterator runs. -/
structure RInv (B Bs Br l : Nat) (a : Option Addr) (xs : List Lp) (cap : Nat) (r : Ru) (W : World) : Prop where
  yd : W.heap[B]? = some (.cells #[.func (.yield l) #[] #[]] 137 (0, 0))
  s : W.heap[Bs]? = some (.cells #[.slice a xs.length cap] 22 (0, 0))
  r : RuAt W Br r
  x : Sl 3 Lp.cells W a xs
theorem RInv.below {B Bs Br l : Nat} {a : Option Addr} {xs : List Lp} {cap : Nat} {r : Ru} {W W' : World} (h : RInv B Bs Br l a xs cap r W) (hb : Below W.heap.size W W') : RInv B Bs Br l a xs cap r W' :=
  ⟨blk_below h.yd hb, blk_below h.s hb, h.r.below hb, h.x.below hb⟩
theorem ints_same {A B : World} {a : Option Addr} {c : List Int} (h : IntSl A a c) (hs : A.heap.size ≤ B.heap.size) (hb : ∀ p, a = some p → p.block < A.heap.size → B.heap[p.block]? = A.heap[p.block]?) : IntSl B a c := fun h0 => by
  obtain ⟨b, off, rfl, hbs, hc⟩ := h h0
  exact ⟨b, off, rfl, Nat.lt_of_lt_of_le hbs hs, fun j hj => (World.cell?_of_block (w := A) (a := ⟨b, off + j, none⟩) (hb ⟨b, off, none⟩ rfl hbs)).trans (hc j hj)⟩
theorem alk {A : World} {k : Nat} {o o' : Obj} (h : A.heap[k]? = some o) : (A.alloc o').heap[k]? = some o := (Below.heap_alloc _ _ _ (lt_of_block h)).trans h
theorem new_at {A : World} {k : Nat} {o : Obj} (h : A.heap.size = k) : (A.alloc o).heap[k]? = some o := by subst h; exact heap_alloc_new A o
theorem Keeps.setCell {own : Nat → Prop} (A : World) {q : Addr} (h : ¬ own q.block) (u : Value) : Keeps own A (A.setCell q u) :=
  ⟨by rw [World.size_setCell]; exact Nat.le_refl _, fun k _ hn => Below.heap_setCell _ _ _ _ (fun e => h (e ▸ hn))⟩
theorem Keeps.grown {own : Nat → Prop} {A B : World} {row : Option Nat} (hg : A.grownBy B row) (h : ∀ j, row = some j → ¬ own j) : Keeps own A B :=
  ⟨hg.size, fun k hk hn => hg.block k hk (fun e => h k e.symm hn)⟩
/-- What Cheapest's loop keeps. -/
structure BInv (W0 : World) (st : Option (List Int × Int)) (W : World) : Prop where
  b : Below W0.heap.size W0 W
  best : match st with
    | none => W.heap[W0.heap.size]? = some (.cells #[.slice none 0 0] 136 (0, 0)) ∧ W.heap[W0.heap.size + 1]? = some (.cells #[.int .i64 0] 3 (0, 0))
    | some (c, m) => ∃ (q : Addr) (cap : Nat), W.heap[W0.heap.size]? = some (.cells #[.slice (some q) c.length cap] 136 (0, 0)) ∧ W.heap[W0.heap.size + 1]? = some (.cells #[.int .i64 m] 3 (0, 0)) ∧ IntSl W (some q) c ∧ W0.heap.size + 15 ≤ q.block
theorem BInv.put {w1 W1 w2 : World} {st : Option (List Int × Int)} (hC : BInv w1 st W1) (hb2 : Below W1.heap.size W1 w2) {v0 v1 : Value} (e0 : W1.heap[w1.heap.size]? = some (.cells #[v0] 136 (0, 0))) (e1 : W1.heap[w1.heap.size + 1]? = some (.cells #[v1] 3 (0, 0)))
    {c : List Int} {m : Int} {q : Addr} {cap : Nat} (hI : IntSl w2 (some q) c) (hq : w1.heap.size + 15 ≤ q.block) :
    BInv w1 (some (c, m)) ((w2.setCell ⟨w1.heap.size, 0, none⟩ (.slice (some q) c.length cap)).setCell ⟨w1.heap.size + 1, 0, none⟩ (.int .i64 m)) := by
  refine ⟨((hC.b.trans (hb2.mono hC.b.size)).setCell (p := ⟨w1.heap.size, 0, none⟩) (Nat.le_refl _) _).setCell (p := ⟨w1.heap.size + 1, 0, none⟩) (by show w1.heap.size ≤ w1.heap.size + 1; omega) _, q, cap, blk_other (blk_setCell (blk_below e0 hb2)) (by omega), blk_setCell (blk_other (blk_below e1 hb2) (by omega)), ?_, hq⟩
  refine ints_same hI (by rw [World.size_setCell, World.size_setCell]; exact Nat.le_refl _) (fun p hp _ => ?_)
  cases hp
  exact (Below.heap_setCell _ _ _ _ (by show q.block ≠ w1.heap.size + 1; omega)).trans (Below.heap_setCell _ _ _ _ (by show q.block ≠ w1.heap.size; omega))
abbrev wv (stock store : Int) (a : Option Addr) (n cap : Nat) : Value := .agg #[.int .i64 stock, .int .i64 store, .slice a n cap]
def dayB (d : Dy) : Bool := boundedB d.need 100000 && (boundedB d.make 100000 && boundedB d.loss 100000)
def winE (stock store : Int) (ds : List Dy) : Int := if withinB store 1 1000000 = true then (if withinB stock 0 store = true then (if withinB ds.length 1 60 = true then (if ds.all dayB = true then 0 else 3) else 2) else 3) else 3
set_option maxHeartbeats 400000 in
theorem day_any (d : Dy) (w : World) : Calls Try.prog 63 #[d.v] w fun e w' => e = .returned (.bool (dayB d)) ∧ Below w.heap.size w w' := by
  go_enter Try.func63, Try.ntmps63
  obtain ⟨Wa, hWa⟩ : ∃ Wa, w.alloc (.cells #[.int .i64 d.need.lo, .int .i64 d.need.hi, .int .i64 d.make.lo, .int .i64 d.make.hi, .int .i64 d.loss.lo, .int .i64 d.loss.hi] 90) = Wa := ⟨_, rfl⟩
  have hba : Below w.heap.size w Wa := by rw [← hWa]; exact (Below.refl _ _).alloc (Nat.le_refl _) _
  have h0 : Wa.heap[w.heap.size]? = some (.cells #[.int .i64 d.need.lo, .int .i64 d.need.hi, .int .i64 d.make.lo, .int .i64 d.make.hi, .int .i64 d.loss.lo, .int .i64 d.loss.hi] 90 (0, 0)) := by rw [← hWa]; exact new_at rfl
  have c0 := blk_cell h0 0 rfl
  have c1 := blk_cell h0 1 rfl
  go_wp2_with fail
  clear hWa c0 c1
  refine (bounded_any d.need _ _).mono ?_
  rintro e w1 ⟨rfl, hb⟩
  have h1 := blk_below h0 hb
  have hb1 := below_self hba hb
  have c2 := blk_cell h1 2 rfl
  have c3 := blk_cell h1 3 rfl
  clear hb hba h0
  cases e1 : boundedB d.need 100000
  · have HD := Lib.hid (show dayB d = false by simp [dayB, e1])
    go_wp2
    go_ret
    exact ⟨by rw [HD.out]; rfl, hb1⟩
  · go_wp2_with fail
    refine (bounded_any d.make _ _).mono ?_
    rintro e w2 ⟨rfl, hb⟩
    have h2 := blk_below h1 hb
    have hb2 := below_self hb1 hb
    have c4 := blk_cell h2 4 rfl
    have c5 := blk_cell h2 5 rfl
    clear hb hb1 h1 c2 c3
    cases e2 : boundedB d.make 100000
    · have HD := Lib.hid (show dayB d = false by simp [dayB, e2])
      go_wp2
      go_ret
      exact ⟨by rw [HD.out]; rfl, hb2⟩
    · have HD := Lib.hid (show dayB d = boundedB d.loss 100000 by simp [dayB, e1, e2])
      go_wp2_with fail
      refine (bounded_any d.loss _ _).mono ?_
      rintro e w3 ⟨rfl, hb⟩
      go_wp2
      go_ret
      exact ⟨by rw [HD.out]; rfl, below_self hb2 hb⟩
theorem eg127 : ∀ args w, (callFunc 63 args).run Try.prog w = .ok (.enter 63 args) w := enters_of Try.func63 (by kernel_rfl) rfl
set_option maxHeartbeats 800000 in
theorem checkWinter_any (stock store : Int) (a : Option Addr) (ds : List Dy) (cap : Nat) (w : World) (hx : Sl 6 Dy.cells w a ds) (hl : ds.length ≤ 1000000) :
    Calls Try.prog 46 #[wv stock store a ds.length cap] w fun e w' => e = .returned (.int .i64 (winE stock store ds)) ∧ Below w.heap.size w w' := by
  go_enter Try.func46, Try.ntmps46
  obtain ⟨Wa, hWa⟩ : ∃ Wa, w.alloc (.cells #[.int .i64 stock, .int .i64 store, .slice a ds.length cap] 66) = Wa := ⟨_, rfl⟩
  have hba : Below w.heap.size w Wa := by rw [← hWa]; exact (Below.refl _ _).alloc (Nat.le_refl _) _
  have h0 : Wa.heap[w.heap.size]? = some (.cells #[.int .i64 stock, .int .i64 store, .slice a ds.length cap] 66 (0, 0)) := by rw [← hWa]; exact new_at rfl
  have c0 := blk_cell h0 0 rfl
  have c1 := blk_cell h0 1 rfl
  have c2 := blk_cell h0 2 rfl
  have hlt := lt_of_block h0
  cases e1 : withinB store 1 1000000
  · have HD := Lib.hid (show winE stock store ds = 3 by simp [winE, e1])
    go_wp2_with (go_at_call 62; refine (within_any _ _ _ _).mono ?_; rintro e w' ⟨rfl, rfl⟩)
    go_ret
    exact ⟨by rw [HD.out]; rfl, hba⟩
  · cases e2 : withinB stock 0 store
    · have HD := Lib.hid (show winE stock store ds = 3 by simp [winE, e1, e2])
      go_wp2_with (go_at_call 62; refine (within_any _ _ _ _).mono ?_; rintro e w' ⟨rfl, rfl⟩)
      go_ret
      exact ⟨by rw [HD.out]; rfl, hba⟩
    · cases e3 : withinB ds.length 1 60
      · have HD := Lib.hid (show winE stock store ds = 2 by simp [winE, e1, e2, e3])
        go_wp2_with (go_at_call 62; refine (within_any _ _ _ _).mono ?_; rintro e w' ⟨rfl, rfl⟩)
        go_ret
        exact ⟨by rw [HD.out]; rfl, hba⟩
      · have HD := Lib.hid (show winE stock store ds = (if ds.all dayB = true then 0 else 3) by simp [winE, e1, e2, e3])
        go_wp2_with (go_at_call 62; refine (within_any _ _ _ _).mono ?_; rintro e w' ⟨rfl, rfl⟩)
        refine (every_day a ds cap 63 #[] dayB _ (hx.below hba) hl eg127 (fun x _ W _ => day_any x W)).mono ?_
        rintro e w1 ⟨rfl, hb⟩
        have hb1 := below_self hba hb
        cases e4 : ds.all dayB
        · have HD2 := Lib.hid (show winE stock store ds = 3 by rw [HD.out]; simp [e4])
          go_wp2
          go_ret
          exact ⟨by rw [HD2.out]; rfl, hb1⟩
        · have HD2 := Lib.hid (show winE stock store ds = 0 by rw [HD.out]; simp [e4])
          go_wp2
          go_ret
          exact ⟨by rw [HD2.out]; rfl, hb1⟩
set_option maxHeartbeats 1000000 in
theorem mapped_day (a : Option Addr) (xs : List Dy) (cap g : Nat) (lb : Array Value) (f : Dy → Int) (w : World) (hx : Sl 6 Dy.cells w a xs) (hl : xs.length ≤ 1000000)
    (eg : ∀ args w, (callFunc g args).run Try.prog w = .ok (.enter g args) w)
    (hg : ∀ x ∈ xs, ∀ W, Below w.heap.size w W → Calls Try.prog g (#[Dy.v x] ++ lb) W fun e W' => e = .returned (.int .i64 (f x)) ∧ Below W.heap.size W W') :
    Calls Try.prog 68 #[.slice a xs.length cap, .func (.func g) #[] lb] w (OutInts w (xs.map f)) := by
  have Hg := Lib.hid hg
  clear hg
  obtain ⟨i0, hi, hz0, hz1, hz2⟩ := info_parts Try.info3
  go_enter Try.func68, Try.ntmps68
  go_wp2_with (at_make; refine wpList_make_own _ rfl _ _ 23 rfl w.heap.size 3 i0 (.int .i64 0) 1 Try.underlying23 hi hz0 hz1 _ _ _ xs.length rfl rfl (by omega) ?b2 ?b3 (Nat.le_refl _) ?_)
  case b2 => rw [hz2]; omega
  case b3 => unfold maxLen; omega
  intro w0 hown0 hgrow0
  have hb0 : Below w.heap.size w w0 := (Below.refl _ _).grown hgrow0 (Nat.le_refl _) (fun k h => by cases h)
  clear hgrow0
  go_wp2
  go_loopw [5, 13] (fun v i wr => ∃ k : Nat, k ≤ xs.length ∧ i = .int .i64 k ∧ wr.ownsRow w.heap.size 3 1 v k (((xs.take k).map f).map (Value.int .i64)) ∧ Below w.heap.size w wr) (fun _ i _ => xs.length - (intOf i).toNat)
  case atStart => exact ⟨0, Nat.zero_le _, rfl, hown0, hb0⟩
  case round =>
    obtain ⟨k, hk, rfl, hown, hbw⟩ := hrel
    by_cases hlt : k < xs.length
    · obtain ⟨b, off, rfl, hbs, hc⟩ := hx (by omega)
      have hc0 := (hbw.cell (p := ⟨b, off + k * 6, none⟩) hbs).trans (hc k xs[k] 0 _ (List.getElem?_eq_getElem hlt) rfl)
      have hc1 := (hbw.cell (p := ⟨b, off + k * 6 + 1, none⟩) hbs).trans (hc k xs[k] 1 _ (List.getElem?_eq_getElem hlt) rfl)
      have hc2 := (hbw.cell (p := ⟨b, off + k * 6 + 2, none⟩) hbs).trans (hc k xs[k] 2 _ (List.getElem?_eq_getElem hlt) rfl)
      have hc3 := (hbw.cell (p := ⟨b, off + k * 6 + 3, none⟩) hbs).trans (hc k xs[k] 3 _ (List.getElem?_eq_getElem hlt) rfl)
      have hc4 := (hbw.cell (p := ⟨b, off + k * 6 + 4, none⟩) hbs).trans (hc k xs[k] 4 _ (List.getElem?_eq_getElem hlt) rfl)
      have hc5 := (hbw.cell (p := ⟨b, off + k * 6 + 5, none⟩) hbs).trans (hc k xs[k] 5 _ (List.getElem?_eq_getElem hlt) rfl)
      clear hc
      go_wp2_with fail
      refine (Hg.out _ (List.getElem_mem hlt) _ (hbw.alloc hbw.size _)).mono ?_
      rintro e w1 ⟨rfl, hb1⟩
      have hb2 := below_self (hbw.alloc hbw.size _) hb1
      have hown1 := owns_below (hown.alloc _) hb1
      clear hbw hc0 hc1 hc2 hc3 hc4 hc5 hb1 hown
      go_wp2_with (at_builtin; refine wpList_append_own _ rfl _ _ 23 rfl w.heap.size 3 i0 (.int .i64 0) 1 8 Try.underlying23 hi hz0 hz1 hz2 rfl (by decide) _ _ _ rfl (hown1.alloc _) ⟨w1.heap.size, 0, none⟩ 1 1 [.int .i64 (f xs[k])] rfl rfl ?c1 ?c2 ?c3 ?c4 ?c5 ?_)
      case c1 => exact cell_one_new _ _ _
      case c2 => intro u hu; simp at hu; subst hu; rfl
      case c3 => unfold maxLen; omega
      case c4 => omega
      case c5 => have := hb2.size; simp; omega
      intro v' w2 hown2 hgrow2 _
      have hb3 : Below w.heap.size w w2 := (hb2.alloc hb2.size _).grown hgrow2 (by have := hb2.size; simp; omega) (fun j hj => (hown1.lt j hj).1)
      have hown3 : w2.ownsRow w.heap.size 3 1 v' (k + 1) (((xs.take (k+1)).map f).map (Value.int .i64)) := by
        have e : ((xs.take (k + 1)).map f).map (Value.int .i64) = (xs.map (Value.int .i64 ∘ f)).take k ++ [.int .i64 (f xs[k])] := by
          rw [map_take_succ f xs k hlt, List.map_append]; simp
        rw [e]; exact hown2
      clear hown2 hgrow2 hown1 hb2
      go_wp2
      go_roundw
      case rel => exact ⟨k + 1, by omega, by go_num, hown3, hb3⟩
      case measure => simp [intOf]; omega
    · have : k = xs.length := by omega
      subst this
      rw [List.take_length] at hown
      obtain ⟨a', cap', rfl, hs, hfr⟩ := ints_of_owns hown
      go_wp2
      go_ret
      exact ⟨a', cap', rfl, hs, hfr, hbw⟩
theorem eg129 : ∀ args w, (callFunc 66 args).run Try.prog w = .ok (.enter 66 args) w := enters_of Try.func66 (by kernel_rfl) rfl
theorem eg130 : ∀ args w, (callFunc 67 args).run Try.prog w = .ok (.enter 67 args) w := enters_of Try.func67 (by kernel_rfl) rfl
theorem eg132 : ∀ args w, (callFunc 69 args).run Try.prog w = .ok (.enter 69 args) w := enters_of Try.func69 (by kernel_rfl) rfl
theorem eg133 : ∀ args w, (callFunc 70 args).run Try.prog w = .ok (.enter 70 args) w := enters_of Try.func70 (by kernel_rfl) rfl
theorem eg134 : ∀ args w, (callFunc 71 args).run Try.prog w = .ok (.enter 71 args) w := enters_of Try.func71 (by kernel_rfl) rfl
theorem high_any (s : Sp) (w : World) : Calls Try.prog 66 #[s.v] w fun e w' => e = .returned (.int .i64 s.hi) ∧ Below w.heap.size w w' := by
  go_enter Try.func66, Try.ntmps66
  go_wp2
  go_ret
  exact ⟨rfl, (Below.refl _ _).alloc (Nat.le_refl _) _⟩
theorem low_any (s : Sp) (w : World) : Calls Try.prog 67 #[s.v] w fun e w' => e = .returned (.int .i64 s.lo) ∧ Below w.heap.size w w' := by
  go_enter Try.func67, Try.ntmps67
  go_wp2
  go_ret
  exact ⟨rfl, (Below.refl _ _).alloc (Nat.le_refl _) _⟩
theorem worst_any (w : World) : Calls Try.prog 47 #[] w fun e w' => e = .returned (.agg #[.func (.func 66) #[] #[], .func (.func 67) #[] #[], .func (.func 66) #[] #[]]) ∧ Below w.heap.size w w' := by
  go_enter Try.func47, Try.ntmps47
  obtain ⟨Wa, hWa⟩ : ∃ Wa, w.alloc (.cells #[.func (.func 66) #[] #[], .func (.func 67) #[] #[], .func (.func 66) #[] #[]] 104) = Wa := ⟨_, rfl⟩
  have hba : Below w.heap.size w Wa := by rw [← hWa]; exact (Below.refl _ _).alloc (Nat.le_refl _) _
  have h0 : Wa.heap[w.heap.size]? = some (.cells #[.func (.func 66) #[] #[], .func (.func 67) #[] #[], .func (.func 66) #[] #[]] 104 (0, 0)) := by rw [← hWa]; exact new_at rfl
  have q0 := blk_cell h0 0 rfl
  have q1 := blk_cell h0 1 rfl
  have q2 := blk_cell h0 2 rfl
  go_wp2
  try rw [hWa]
  exact bodyPost_ret (v := .agg #[.func (.func 66) #[] #[], .func (.func 67) #[] #[], .func (.func 66) #[] #[]]) (by simp [results, Try.results47, go_sem, q0, q1, q2]) rfl ⟨rfl, hba⟩
def EndsAt (w : World) (B : Nat) (g1 g2 g3 : Nat) : Prop := w.heap[B]? = some (.cells #[.func (.func g1) #[] #[], .func (.func g2) #[] #[], .func (.func g3) #[] #[]] 104 (0, 0))
/-- A function that answers a number of a span, and leaves what was there. -/
def EndF (g : Nat) (f : Sp → Int) : Prop := (∀ args w, (callFunc g args).run Try.prog w = .ok (.enter g args) w) ∧ ∀ (s : Sp) (w : World), Calls Try.prog g #[s.v] w fun e w' => e = .returned (.int .i64 (f s)) ∧ Below w.heap.size w w'
theorem high_f : EndF 66 Sp.hi := ⟨eg129, high_any⟩
theorem low_f : EndF 67 Sp.lo := ⟨eg130, low_any⟩
theorem spell1_any (d : Dy) (g1 g2 g3 B : Nat) (f : Sp → Int) (hf : EndF g1 f) (w : World) (h : EndsAt w B g1 g2 g3) :
    Calls Try.prog 69 #[d.v, .pointer (some ⟨B, 0, none⟩)] w fun e w' => e = .returned (.int .i64 (f d.need)) ∧ Below w.heap.size w w' := by
  obtain ⟨eg, hc⟩ := hf
  have Hc := Lib.hid hc
  clear hc
  have hB := lt_of_block h
  have hbox : Below w.heap.size w (w.alloc (.cells #[.int .i64 d.need.lo, .int .i64 d.need.hi, .int .i64 d.make.lo, .int .i64 d.make.hi, .int .i64 d.loss.lo, .int .i64 d.loss.hi] 90)) := (Below.refl _ _).alloc (Nat.le_refl _) _
  have c0 := blk_cell h 0 rfl
  have c1 := blk_cell h 1 rfl
  have c2 := blk_cell h 2 rfl
  go_enter Try.func69, Try.ntmps69
  go_wp2_with fail
  refine (Hc.out d.need _).mono ?_
  rintro e w1 ⟨rfl, hb⟩
  go_wp2
  go_ret
  exact ⟨rfl, below_self hbox hb⟩
theorem spell2_any (d : Dy) (g1 g2 g3 B : Nat) (f : Sp → Int) (hf : EndF g2 f) (w : World) (h : EndsAt w B g1 g2 g3) :
    Calls Try.prog 70 #[d.v, .pointer (some ⟨B, 0, none⟩)] w fun e w' => e = .returned (.int .i64 (f d.make)) ∧ Below w.heap.size w w' := by
  obtain ⟨eg, hc⟩ := hf
  have Hc := Lib.hid hc
  clear hc
  have hB := lt_of_block h
  have hbox : Below w.heap.size w (w.alloc (.cells #[.int .i64 d.need.lo, .int .i64 d.need.hi, .int .i64 d.make.lo, .int .i64 d.make.hi, .int .i64 d.loss.lo, .int .i64 d.loss.hi] 90)) := (Below.refl _ _).alloc (Nat.le_refl _) _
  have c0 := blk_cell h 0 rfl
  have c1 := blk_cell h 1 rfl
  have c2 := blk_cell h 2 rfl
  go_enter Try.func70, Try.ntmps70
  go_wp2_with fail
  refine (Hc.out d.make _).mono ?_
  rintro e w1 ⟨rfl, hb⟩
  go_wp2
  go_ret
  exact ⟨rfl, below_self hbox hb⟩
theorem spell3_any (d : Dy) (g1 g2 g3 B : Nat) (f : Sp → Int) (hf : EndF g3 f) (w : World) (h : EndsAt w B g1 g2 g3) :
    Calls Try.prog 71 #[d.v, .pointer (some ⟨B, 0, none⟩)] w fun e w' => e = .returned (.int .i64 (f d.loss)) ∧ Below w.heap.size w w' := by
  obtain ⟨eg, hc⟩ := hf
  have Hc := Lib.hid hc
  clear hc
  have hB := lt_of_block h
  have hbox : Below w.heap.size w (w.alloc (.cells #[.int .i64 d.need.lo, .int .i64 d.need.hi, .int .i64 d.make.lo, .int .i64 d.make.hi, .int .i64 d.loss.lo, .int .i64 d.loss.hi] 90)) := (Below.refl _ _).alloc (Nat.le_refl _) _
  have c0 := blk_cell h 0 rfl
  have c1 := blk_cell h 1 rfl
  have c2 := blk_cell h 2 rfl
  go_enter Try.func71, Try.ntmps71
  go_wp2_with fail
  refine (Hc.out d.loss _).mono ?_
  rintro e w1 ⟨rfl, hb⟩
  go_wp2
  go_ret
  exact ⟨rfl, below_self hbox hb⟩
/-- A spell as a value. -/
abbrev sv (stock store : Int) (a : Option Addr) (n cap : Nat) (an : Option Addr) (nn cn : Nat) (am : Option Addr) (nm cm : Nat) (al : Option Addr) (nl cl : Nat) : Value :=
  .agg #[.int .i64 stock, .int .i64 store, .slice a n cap, .slice an nn cn, .slice am nm cm, .slice al nl cl]
structure OutSpell (w : World) (stock store : Int) (a : Option Addr) (ds : List Dy) (cap : Nat) (f1 f2 f3 : Sp → Int) (e : Ending) (w' : World) : Prop where
  all : ∃ an cn am cm al cl, e = .returned (sv stock store a ds.length cap an ds.length cn am ds.length cm al ds.length cl) ∧ IntSl w' an (ds.map fun d => f1 d.need) ∧ IntSl w' am (ds.map fun d => f2 d.make) ∧ IntSl w' al (ds.map fun d => f3 d.loss) ∧ Below w.heap.size w w'
theorem six_put {w W : World} {B : Nat} {t : TypeId} {u0 u1 u2 u3 u4 u5 v0 v1 v2 v3 v4 v5 : Value} (h : W.heap[B]? = some (.cells #[u0, u1, u2, u3, u4, u5] t (0, 0))) (hB : w.heap.size ≤ B) (k : Below w.heap.size w W) :
    Below w.heap.size w ((((((W.setCell ⟨B, 0, none⟩ v0).setCell ⟨B, 1, none⟩ v1).setCell ⟨B, 2, none⟩ v2).setCell ⟨B, 3, none⟩ v3).setCell ⟨B, 4, none⟩ v4).setCell ⟨B, 5, none⟩ v5) ∧ ((((((W.setCell ⟨B, 0, none⟩ v0).setCell ⟨B, 1, none⟩ v1).setCell ⟨B, 2, none⟩ v2).setCell ⟨B, 3, none⟩ v3).setCell ⟨B, 4, none⟩ v4).setCell ⟨B, 5, none⟩ v5).heap[B]? = some (.cells #[v0, v1, v2, v3, v4, v5] t (0, 0)) ∧ ∀ k, k ≠ B → ((((((W.setCell ⟨B, 0, none⟩ v0).setCell ⟨B, 1, none⟩ v1).setCell ⟨B, 2, none⟩ v2).setCell ⟨B, 3, none⟩ v3).setCell ⟨B, 4, none⟩ v4).setCell ⟨B, 5, none⟩ v5).heap[k]? = W.heap[k]? :=
  ⟨(((((k.setCell (p := ⟨B, 0, none⟩) hB _).setCell (p := ⟨B, 1, none⟩) hB _).setCell (p := ⟨B, 2, none⟩) hB _).setCell (p := ⟨B, 3, none⟩) hB _).setCell (p := ⟨B, 4, none⟩) hB _).setCell (p := ⟨B, 5, none⟩) hB _,
   blk_setCell (j := 5) (u := v5) (blk_setCell (j := 4) (u := v4) (blk_setCell (j := 3) (u := v3) (blk_setCell (j := 2) (u := v2) (blk_setCell (j := 1) (u := v1) (blk_setCell (j := 0) (u := v0) h))))),
   fun _ hk => (Below.heap_setCell _ _ _ _ hk).trans ((Below.heap_setCell _ _ _ _ hk).trans ((Below.heap_setCell _ _ _ _ hk).trans ((Below.heap_setCell _ _ _ _ hk).trans ((Below.heap_setCell _ _ _ _ hk).trans (Below.heap_setCell _ _ _ _ hk)))))⟩
theorem ints_put {w1 w3 W6 : World} {B : Nat} {a : Option Addr} {xs : List Int} (h : IntSl w1 a xs) (hb : Below w1.heap.size w1 w3) (ho : ∀ k, k ≠ B → W6.heap[k]? = w3.heap[k]?) (hz : w3.heap.size ≤ W6.heap.size) (hn : ∀ p, a = some p → B < p.block) : IntSl W6 a xs :=
  ints_same (h.below hb) hz (fun p hp _ => ho _ (by have := hn p hp; omega))
/-- The end of spell. -/
theorem spell_end {stock store : Int} {a : Option Addr} {ds : List Dy} {cap : Nat} {f1 f2 f3 : Sp → Int} {w Wa w1 w2 w3 : World} {an am al : Option Addr} {cn cm cl : Nat} {g1 g2 g3 : Nat}
    (HH : Hid (Below w.heap.size w Wa ∧ EndsAt Wa w.heap.size g1 g2 g3 ∧ Wa.heap[w.heap.size + 1]? = some (.cells #[.int .i64 stock, .int .i64 store, .slice a ds.length cap] 66 (0, 0)) ∧ Wa.heap[w.heap.size + 1 + 1]? = some (.cells #[.int .i64 0, .int .i64 0, .slice none 0 0, .slice none 0 0, .slice none 0 0, .slice none 0 0] 101 (0, 0)) ∧ Sl 6 Dy.cells w a ds ∧ ds.length ≤ 1000000))
    (H1 : Hid (Below w.heap.size w w1 ∧ EndsAt w1 w.heap.size g1 g2 g3 ∧ w1.heap[w.heap.size + 1]? = some (.cells #[.int .i64 stock, .int .i64 store, .slice a ds.length cap] 66 (0, 0)) ∧ w1.heap[w.heap.size + 1 + 1]? = some (.cells #[.int .i64 0, .int .i64 0, .slice none 0 0, .slice none 0 0, .slice none 0 0, .slice none 0 0] 101 (0, 0)) ∧ IntSl w1 an (ds.map fun d => f1 d.need) ∧ (∀ p, an = some p → Wa.heap.size ≤ p.block) ∧ Below Wa.heap.size Wa w1))
    (H2 : Hid (Below w.heap.size w w2 ∧ EndsAt w2 w.heap.size g1 g2 g3 ∧ w2.heap[w.heap.size + 1]? = some (.cells #[.int .i64 stock, .int .i64 store, .slice a ds.length cap] 66 (0, 0)) ∧ w2.heap[w.heap.size + 1 + 1]? = some (.cells #[.int .i64 0, .int .i64 0, .slice none 0 0, .slice none 0 0, .slice none 0 0, .slice none 0 0] 101 (0, 0)) ∧ IntSl w2 am (ds.map fun d => f2 d.make) ∧ (∀ p, am = some p → w1.heap.size ≤ p.block) ∧ Below w1.heap.size w1 w2))
    (H3 : Hid (Below w.heap.size w w3 ∧ w3.heap[w.heap.size + 1 + 1]? = some (.cells #[.int .i64 0, .int .i64 0, .slice none 0 0, .slice none 0 0, .slice none 0 0, .slice none 0 0] 101 (0, 0)) ∧ IntSl w3 al (ds.map fun d => f3 d.loss) ∧ (∀ p, al = some p → w2.heap.size ≤ p.block) ∧ Below w2.heap.size w2 w3))
    (act : Act) (hp : act.tmps[4]? = some (.pointer (some ⟨w.heap.size + 1 + 1, 0, none⟩))) (hd : act.defers = []) :
    Code.wp Try.prog Code.ret (bodyPost Try.prog Try.f48 (OutSpell w stock store a ds cap f1 f2 f3)) act ((((((w3.setCell ⟨w.heap.size + 1 + 1, 0, none⟩ (.int .i64 stock)).setCell ⟨w.heap.size + 1 + 1, 1, none⟩ (.int .i64 store)).setCell ⟨w.heap.size + 1 + 1, 2, none⟩ (.slice a ds.length cap)).setCell ⟨w.heap.size + 1 + 1, 3, none⟩ (.slice an ds.length cn)).setCell ⟨w.heap.size + 1 + 1, 4, none⟩ (.slice am ds.length cm)).setCell ⟨w.heap.size + 1 + 1, 5, none⟩ (.slice al ds.length cl)) := by
  obtain ⟨_, _, _, hr, _, _⟩ := HH.out
  obtain ⟨_, _, _, hr1, hI1, hf1, hb1⟩ := H1.out
  obtain ⟨_, _, _, hr2, hI2, hf2, hb2⟩ := H2.out
  obtain ⟨k3, hr3, hI3, hf3, hb3⟩ := H3.out
  have Z6 : w3.heap.size ≤ ((((((w3.setCell ⟨w.heap.size + 1 + 1, 0, none⟩ (.int .i64 stock)).setCell ⟨w.heap.size + 1 + 1, 1, none⟩ (.int .i64 store)).setCell ⟨w.heap.size + 1 + 1, 2, none⟩ (.slice a ds.length cap)).setCell ⟨w.heap.size + 1 + 1, 3, none⟩ (.slice an ds.length cn)).setCell ⟨w.heap.size + 1 + 1, 4, none⟩ (.slice am ds.length cm)).setCell ⟨w.heap.size + 1 + 1, 5, none⟩ (.slice al ds.length cl)).heap.size := by simp only [World.size_setCell]; exact Nat.le_refl _
  obtain ⟨P6, R6, O6⟩ := six_put (v0 := .int .i64 stock) (v1 := .int .i64 store) (v2 := .slice a ds.length cap) (v3 := .slice an ds.length cn) (v4 := .slice am ds.length cm) (v5 := .slice al ds.length cl) hr3 (show w.heap.size ≤ w.heap.size + 1 + 1 by omega) k3
  generalize ((((((w3.setCell ⟨w.heap.size + 1 + 1, 0, none⟩ (.int .i64 stock)).setCell ⟨w.heap.size + 1 + 1, 1, none⟩ (.int .i64 store)).setCell ⟨w.heap.size + 1 + 1, 2, none⟩ (.slice a ds.length cap)).setCell ⟨w.heap.size + 1 + 1, 3, none⟩ (.slice an ds.length cn)).setCell ⟨w.heap.size + 1 + 1, 4, none⟩ (.slice am ds.length cm)).setCell ⟨w.heap.size + 1 + 1, 5, none⟩ (.slice al ds.length cl)) = W6 at P6 R6 O6 Z6 ⊢
  have q0 := blk_cell R6 0 rfl
  have q1 := blk_cell R6 1 rfl
  have q2 := blk_cell R6 2 rfl
  have q3 := blk_cell R6 3 rfl
  have q4 := blk_cell R6 4 rfl
  have q5 := blk_cell R6 5 rfl
  have hO : OutSpell w stock store a ds cap f1 f2 f3 (.returned (sv stock store a ds.length cap an ds.length cn am ds.length cm al ds.length cl)) W6 :=
    ⟨an, cn, am, cm, al, cl, rfl, ints_put hI1 (hb2.trans (hb3.mono hb2.size)) O6 Z6 (fun p hp => by have := hf1 p hp; have := lt_of_block hr; omega), ints_put hI2 hb3 O6 Z6 (fun p hp => by have := hf2 p hp; have := lt_of_block hr1; omega), ints_put hI3 (Below.refl _ _) O6 Z6 (fun p hp => by have := hf3 p hp; have := lt_of_block hr2; omega), P6⟩
  clear hI1 hI2 hI3 hf1 hf2 hf3 hb1 hb2 hb3 hr hr1 hr2 hr3 O6 Z6 R6 HH H1 H2 H3 k3 P6
  refine wp_ret ?_
  exact bodyPost_ret (v := sv stock store a ds.length cap an ds.length cn am ds.length cm al ds.length cl) (by simp [results, Try.results48, go_sem, hp, q0, q1, q2, q3, q4, q5]) hd hO
set_option maxHeartbeats 1000000 in
theorem spell_any (g1 g2 g3 : Nat) (f1 f2 f3 : Sp → Int) (h1 : EndF g1 f1) (h2 : EndF g2 f2) (h3 : EndF g3 f3) (stock store : Int) (a : Option Addr) (ds : List Dy) (cap : Nat) (w : World) (hx : Sl 6 Dy.cells w a ds) (hl : ds.length ≤ 1000000) :
    Calls Try.prog 48 #[.agg #[.func (.func g1) #[] #[], .func (.func g2) #[] #[], .func (.func g3) #[] #[]], wv stock store a ds.length cap] w (OutSpell w stock store a ds cap f1 f2 f3) := by
  have F1 := Lib.hid h1
  have F2 := Lib.hid h2
  have F3 := Lib.hid h3
  clear h1 h2 h3
  obtain ⟨Wa, hWa⟩ : ∃ Wa, ((w.alloc (.cells #[.func (.func g1) #[] #[], .func (.func g2) #[] #[], .func (.func g3) #[] #[]] 104)).alloc (.cells #[.int .i64 stock, .int .i64 store, .slice a ds.length cap] 66)).alloc (.cells #[.int .i64 0, .int .i64 0, .slice none 0 0, .slice none 0 0, .slice none 0 0, .slice none 0 0] 101) = Wa := ⟨_, rfl⟩
  have hba : Below w.heap.size w Wa := by rw [← hWa]; exact (((Below.refl _ _).alloc (Nat.le_refl _) _).alloc (by simp) _).alloc (by simp <;> omega) _
  have hE : EndsAt Wa w.heap.size g1 g2 g3 := by rw [← hWa]; exact alk (alk (new_at rfl))
  have h0 : Wa.heap[w.heap.size + 1]? = some (.cells #[.int .i64 stock, .int .i64 store, .slice a ds.length cap] 66 (0, 0)) := by rw [← hWa]; exact alk (new_at (by simp))
  have hr : Wa.heap[w.heap.size + 1 + 1]? = some (.cells #[.int .i64 0, .int .i64 0, .slice none 0 0, .slice none 0 0, .slice none 0 0, .slice none 0 0] 101 (0, 0)) := by rw [← hWa]; exact new_at (by simp)
  have c0 := blk_cell h0 0 rfl
  have c1 := blk_cell h0 1 rfl
  have c2 := blk_cell h0 2 rfl
  go_enter Try.func48, Try.ntmps48
  go_wp2_with fail
  clear hWa
  have HH : Hid (Below w.heap.size w Wa ∧ EndsAt Wa w.heap.size g1 g2 g3 ∧ Wa.heap[w.heap.size + 1]? = some (.cells #[.int .i64 stock, .int .i64 store, .slice a ds.length cap] 66 (0, 0)) ∧ Wa.heap[w.heap.size + 1 + 1]? = some (.cells #[.int .i64 0, .int .i64 0, .slice none 0 0, .slice none 0 0, .slice none 0 0, .slice none 0 0] 101 (0, 0)) ∧ Sl 6 Dy.cells w a ds ∧ ds.length ≤ 1000000) := ⟨hba, hE, h0, hr, hx, hl⟩
  clear hba hE h0 hr hx hl
  go_region_held3 (fun w' => w'.cell? ⟨w.heap.size + 1, 0, none⟩ = some (.int .i64 stock) ∧ w'.cell? ⟨w.heap.size + 1, 1, none⟩ = some (.int .i64 store) ∧ w'.cell? ⟨w.heap.size + 1, 2, none⟩ = some (.slice a ds.length cap)) (go_keep)
    (first
      | (go_at_call 68; refine (mapped_day a ds cap 71 #[.pointer (some ⟨w.heap.size, 0, none⟩)] (fun d => f3 d.loss) _ (HH.out.2.2.2.2.1.below H2.out.1) HH.out.2.2.2.2.2 eg134 (fun d hd W hW => spell3_any d g1 g2 g3 w.heap.size f3 F3.out W (blk_below H2.out.2.1 hW))).mono ?_; rintro e w3 ⟨al, cl, rfl, hI3, hf3, hb3⟩; have H3 : Hid (Below w.heap.size w w3 ∧ w3.heap[w.heap.size + 1 + 1]? = some (.cells #[.int .i64 0, .int .i64 0, .slice none 0 0, .slice none 0 0, .slice none 0 0, .slice none 0 0] 101 (0, 0)) ∧ IntSl w3 al (ds.map fun d => f3 d.loss) ∧ (∀ p, al = some p → w2.heap.size ≤ p.block) ∧ Below w2.heap.size w2 w3) := ⟨below_self H2.out.1 hb3, blk_below H2.out.2.2.2.1 hb3, hI3, hf3, hb3⟩; have h03 := blk_below H2.out.2.2.1 hb3; clear hb3 hf3 hI3 u0 u1 u2; have e0 := blk_cell h03 0 rfl; have e1 := blk_cell h03 1 rfl; have e2 := blk_cell h03 2 rfl; clear h03; have hr3 := H3.out.2.1; have m0 := blk_free (j := 0) hr3; have m1 := blk_free (j := 1) hr3; have m2 := blk_free (j := 2) hr3; have m3 := blk_free (j := 3) hr3; have m4 := blk_free (j := 4) hr3; have m5 := blk_free (j := 5) hr3; have n0 := blk_cell hr3 0 rfl; have n1 := blk_cell hr3 1 rfl; have n2 := blk_cell hr3 2 rfl; have n3 := blk_cell hr3 3 rfl; have n4 := blk_cell hr3 4 rfl; have n5 := blk_cell hr3 5 rfl; clear hr3)
      | (go_at_call 68; refine (mapped_day a ds cap 70 #[.pointer (some ⟨w.heap.size, 0, none⟩)] (fun d => f2 d.make) _ (HH.out.2.2.2.2.1.below H1.out.1) HH.out.2.2.2.2.2 eg133 (fun d hd W hW => spell2_any d g1 g2 g3 w.heap.size f2 F2.out W (blk_below H1.out.2.1 hW))).mono ?_; rintro e w2 ⟨am, cm, rfl, hI2, hf2, hb2⟩; have H2 : Hid (Below w.heap.size w w2 ∧ EndsAt w2 w.heap.size g1 g2 g3 ∧ w2.heap[w.heap.size + 1]? = some (.cells #[.int .i64 stock, .int .i64 store, .slice a ds.length cap] 66 (0, 0)) ∧ w2.heap[w.heap.size + 1 + 1]? = some (.cells #[.int .i64 0, .int .i64 0, .slice none 0 0, .slice none 0 0, .slice none 0 0, .slice none 0 0] 101 (0, 0)) ∧ IntSl w2 am (ds.map fun d => f2 d.make) ∧ (∀ p, am = some p → w1.heap.size ≤ p.block) ∧ Below w1.heap.size w1 w2) := ⟨below_self H1.out.1 hb2, blk_below H1.out.2.1 hb2, blk_below H1.out.2.2.1 hb2, blk_below H1.out.2.2.2.1 hb2, hI2, hf2, hb2⟩; have h02 := H2.out.2.2.1; clear hb2 hf2 hI2 d0 d1 d2; have u0 := blk_cell h02 0 rfl; have u1 := blk_cell h02 1 rfl; have u2 := blk_cell h02 2 rfl; clear h02)
      | (go_at_call 68; refine (mapped_day a ds cap 69 #[.pointer (some ⟨w.heap.size, 0, none⟩)] (fun d => f1 d.need) _ (HH.out.2.2.2.2.1.below HH.out.1.drew) HH.out.2.2.2.2.2 eg132 (fun d hd W hW => spell1_any d g1 g2 g3 w.heap.size f1 F1.out W (blk_below (w := Wa.drew) HH.out.2.1 hW))).mono ?_; rintro e w1 ⟨an, cn, rfl, hI1, hf1, hb1⟩; have hb1' : Below Wa.heap.size Wa w1 := ⟨hb1.os, hb1.tape, hb1.output, hb1.size, hb1.block⟩; have H1 : Hid (Below w.heap.size w w1 ∧ EndsAt w1 w.heap.size g1 g2 g3 ∧ w1.heap[w.heap.size + 1]? = some (.cells #[.int .i64 stock, .int .i64 store, .slice a ds.length cap] 66 (0, 0)) ∧ w1.heap[w.heap.size + 1 + 1]? = some (.cells #[.int .i64 0, .int .i64 0, .slice none 0 0, .slice none 0 0, .slice none 0 0, .slice none 0 0] 101 (0, 0)) ∧ IntSl w1 an (ds.map fun d => f1 d.need) ∧ (∀ p, an = some p → Wa.heap.size ≤ p.block) ∧ Below Wa.heap.size Wa w1) := ⟨below_self HH.out.1 hb1', blk_below HH.out.2.1 hb1', blk_below HH.out.2.2.1 hb1', blk_below HH.out.2.2.2.1 hb1', hI1, hf1, hb1'⟩; have h01 := H1.out.2.2.1; clear hb1 hb1' hf1 hI1 c0 c1 c2; have d0 := blk_cell h01 0 rfl; have d1 := blk_cell h01 1 rfl; have d2 := blk_cell h01 2 rfl; clear h01))
  all_goals (
    clear e0 e1 e2 m0 m1 m2 m3 m4 m5 n0 n1 n2 n3 n4 n5
    refine (by assumption : ∀ (a_1 : Act) (w_1 : World), Code.wp Try.prog Code.ret (bodyPost Try.prog Try.f48 (OutSpell w stock store a ds cap f1 f2 f3)) a_1 w_1 → Exit.then _ _ Exit.normal a_1 w_1) _ _ (spell_end HH H1 H2 H3 _ rfl rfl))
theorem Try.info124 : (Try.prog.info? 124).map (fun i => (i.zero, i.size, i.bytes)) = some (some (.agg #[.int .i64 0, .int .i64 0]), 2, 16) := by kernel_rfl
/-- The block of a slice holds piles, none of them frozen. -/
def Ty6 (W : World) (a : Option Addr) : Prop := ∀ q, a = some q → ∃ cs, W.heap[q.block]? = some (.cells cs 124 (0, 0))
theorem Ty6.below {w w' : World} {a : Option Addr} (h : Ty6 w a) (hb : Below w.heap.size w w') : Ty6 w' a := fun q hq => by
  obtain ⟨cs, h1⟩ := h q hq
  exact ⟨cs, (hb.block _ (lt_of_block h1)).trans h1⟩
theorem owns_mono {w : World} {base base' : Nat} {e : TypeId} {size : Nat} {v : Value} {n : Nat} {xs : List Value} (h : w.ownsRow base e size v n xs) (hb : base' ≤ base) : w.ownsRow base' e size v n xs := by
  refine ⟨h.1, ?_⟩
  rcases h.2 with h1 | ⟨g, cap', cur, h1, h2, h3⟩
  · exact .inl h1
  · exact .inr ⟨g, cap', cur, h1, Nat.le_trans hb h2, h3⟩
theorem owns_form {w : World} {base : Nat} {a : Option Addr} {n cap : Nat} {fs : List Int} (h : w.ownsRow base 124 2 (.slice a n cap) n (fs.map (Value.int .i64))) : IntSl w a fs ∧ Ty6 w a ∧ (∀ p, a = some p → base ≤ p.block ∧ p.off = 0 ∧ p.spot = none) ∧ (a = none → n = 0) ∧ n ≤ cap ∧ fs.length = n * 2 := by
  have hl : fs.length = n * 2 := by have := h.1; simpa using this
  rcases h.2 with ⟨h1, rfl⟩ | ⟨g, cap', cur, h1, hb, hg, hnc, hcm, hcs, htake⟩
  · cases h1
    exact ⟨(fun hp => by omega), (fun p hp => by cases hp), (fun p hp => by cases hp), (fun _ => rfl), Nat.le_refl _, hl⟩
  · cases h1
    refine ⟨fun hp => ⟨g, 0, rfl, lt_of_block hg, fun j hj => ?_⟩, fun p hp => ?_, (fun p hp => by cases hp; exact ⟨hb, rfl, rfl⟩), (fun h => by cases h), hnc, hl⟩
    · have hc := h.cells (g := g) rfl j (.int .i64 (fs[j]?.getD 0)) (by simp [hj])
      have : (⟨g, 0, none⟩ : Addr).add j = ⟨g, 0 + j, none⟩ := by unfold Addr.add; split <;> simp_all
      rwa [this] at hc
    · cases hp; exact ⟨cur, hg⟩
theorem owns_set {w : World} {base g n cap : Nat} {fs : List Int} (h : w.ownsRow base 124 2 (.slice (some ⟨g, 0, none⟩) n cap) n (fs.map (Value.int .i64))) (j : Nat) (x : Int) : (w.setCell ⟨g, j, none⟩ (.int .i64 x)).ownsRow base 124 2 (.slice (some ⟨g, 0, none⟩) n cap) n ((fs.set j x).map (Value.int .i64)) := by
  refine ⟨by have := h.1; simpa using this, ?_⟩
  rcases h.2 with ⟨h1, _⟩ | ⟨g', cap', cur, h1, hb, hg, hnc, hcm, hcs, htake⟩
  · cases h1
  · cases h1
    refine .inr ⟨g, cap, _, rfl, hb, blk_setCell hg, hnc, hcm, by rw [Array.size_setIfInBounds]; exact hcs, ?_⟩
    rw [Array.toList_setIfInBounds, List.take_set, htake, List.map_set]
theorem flats_of_owns {w : World} {base : Nat} {v : Value} {n : Nat} {fs : List Int} (h : w.ownsRow base 124 2 v n (fs.map (Value.int .i64))) : ∃ a cap, v = .slice a n cap ∧ IntSl w a fs ∧ Ty6 w a ∧ (∀ p, a = some p → base ≤ p.block) ∧ (a = none → n = 0) ∧ (∀ p, a = some p → p.off = 0 ∧ p.spot = none) := by
  have hl : fs.length = n * 2 := by have := h.1; simpa using this
  rcases h.2 with ⟨rfl, rfl⟩ | ⟨g, cap, cur, rfl, hb, hg, hnc, hcm, hcs, htake⟩
  · exact ⟨none, 0, rfl, (fun hp => by omega), (fun p hp => by cases hp), (fun p hp => by cases hp), (fun _ => rfl), (fun p hp => by cases hp)⟩
  · refine ⟨some ⟨g, 0, none⟩, cap, rfl, fun hp => ⟨g, 0, rfl, lt_of_block hg, fun j hj => ?_⟩, fun p hp => ?_, (fun p hp => by cases hp; exact hb), (fun h => by cases h), (fun p hp => by cases hp; exact ⟨rfl, rfl⟩)⟩
    · have hc := h.cells (g := g) rfl j (.int .i64 (fs[j]?.getD 0)) (by simp [hj])
      have : (⟨g, 0, none⟩ : Addr).add j = ⟨g, 0 + j, none⟩ := by unfold Addr.add; split <;> simp_all
      rwa [this] at hc
    · cases hp; exact ⟨cur, hg⟩
/-- Piles that were handed back: so many, with these numbers, two of each, in memory of their own. -/
def OutPiles (w : World) (n : Nat) (fs : List Int) (e : Ending) (w' : World) : Prop := ∃ a cap, e = .returned (.slice a n cap) ∧ w'.ownsRow w.heap.size 124 2 (.slice a n cap) n (fs.map (Value.int .i64)) ∧ Below w.heap.size w w'
set_option maxHeartbeats 1000000 in
theorem clonePile_any (a : Option Addr) (fs : List Int) (n cap : Nat) (w : World) (hx : IntSl w a fs) (hn : fs.length = n * 2) (hna : a = none → n = 0) (hl : n ≤ 1000) :
    Calls Try.prog 78 #[.slice a n cap] w (OutPiles w n fs) := by
  obtain ⟨i0, hi, hz0, hz1, hz2⟩ := info_parts Try.info124
  have q102 : ∀ (w : World) (a : Option Addr) (n c n' c' : Nat), (binOp .eql 81 (.slice a n c) (.slice none n' c')).run Try.prog w = .ok (.bool a.isNone) w := fun w a n c n' c' => Lib.run_eql_slice_nil w _ _ a n c n' c' Try.underlying81
  cases a with
  | none =>
    have h0 := hna rfl
    subst h0
    have hf : fs = [] := List.length_eq_zero_iff.1 (by omega)
    subst hf
    go_enter Try.func78, Try.ntmps78
    go_wp2
    go_ret
    exact ⟨none, 0, rfl, ⟨rfl, .inl ⟨rfl, rfl⟩⟩, Below.refl _ _⟩
  | some q =>
    have HC : Hid (∀ j u, (fs.map (Value.int .i64))[j]? = some u → (w.alloc (.cells #[] 124)).cell? (q.add j) = some u) := fun j u hu => by
      have hj : j < fs.length := by
        rcases Nat.lt_or_ge j fs.length with h | h
        · exact h
        · rw [List.getElem?_eq_none (by simpa using h)] at hu; cases hu
      obtain ⟨b, off, hab, hbs, hc⟩ := hx (by omega)
      cases hab
      have e : (⟨b, off, none⟩ : Addr).add j = ⟨b, off + j, none⟩ := by unfold Addr.add; split <;> simp_all
      rw [e, World.cell?_alloc_past _ _ _ (by exact hbs), hc j hj]
      simp [hj] at hu ⊢; exact hu
    have HX := Lib.hid hx
    clear hx
    have hn2 : (fs.map (Value.int .i64)).length = n * 2 := by simpa using hn
    have HN := Lib.hid hn
    clear hn
    go_enter Try.func78, Try.ntmps78
    go_wp2_with (at_builtin; refine wpList_append_own _ rfl _ _ 81 rfl w.heap.size 124 i0 (.agg #[.int .i64 0, .int .i64 0]) 2 16 Try.underlying81 hi hz0 hz1 hz2 rfl (by decide) _ _ _ rfl (World.ownsRow_made w #[] 0 (Nat.le_refl _) (Nat.zero_le _) (by simp)) q n cap (fs.map (Value.int .i64)) rfl ?c0 ?c1 ?c2 ?c3 ?c4 ?c5 ?_)
    case c0 => exact hn2
    case c1 => exact HC.out
    case c2 => intro u hu; obtain ⟨x, _, rfl⟩ := List.mem_map.1 hu; rfl
    case c3 => unfold maxLen; omega
    case c4 => omega
    case c5 => simp
    intro v' w2 hown2 hgrow2 _
    have hb3 : Below w.heap.size w w2 := ((Below.refl _ w).alloc (Nat.le_refl _) _).grown hgrow2 (by simp) (fun j hj => by simp [Value.ownBlock] at hj; omega)
    have hown3 : w2.ownsRow w.heap.size 124 2 v' n (fs.map (Value.int .i64)) := by simpa using hown2
    obtain ⟨a', cap', rfl, hs, hT, hfr, hna', hoff⟩ := flats_of_owns hown3
    go_wp2
    go_ret
    exact ⟨a', cap', rfl, hown3, hb3⟩
/-- Some piles that were handed back, no more than so many, in memory of their own. -/
def OutP (w : World) (n : Nat) (e : Ending) (w' : World) : Prop := ∃ n' fs', fs'.length = n' * 2 ∧ n' ≤ n ∧ OutPiles w n' fs' e w'
theorem IntSl.drop {w : World} {b off : Nat} {fs : List Int} (m : Nat) (h : IntSl w (some ⟨b, off, none⟩) fs) : IntSl w (some ⟨b, off + m, none⟩) (fs.drop m) := fun h0 => by
  simp at h0
  obtain ⟨b', off', e, hb, hc⟩ := h (by omega)
  cases e
  exact ⟨b, off + m, rfl, hb, fun j hj => by simp at hj; have := hc (m + j) (by omega); rw [Nat.add_assoc]; simpa [List.getElem?_drop] using this⟩
set_option maxHeartbeats 1000000 in
theorem drained_any (a : Option Addr) (fs : List Int) (n cap : Nat) (much : Int) (w : World) (hx : IntSl w a fs) (hn : fs.length = n * 2) (hna : a = none → n = 0) (hnc : n ≤ cap) (hl : n ≤ 1000) :
    Calls Try.prog 72 #[.slice a n cap, .int .i64 much] w (OutP w n) := by
  have HX := Lib.hid (And.intro hx (And.intro hn hna))
  clear hx hn hna
  go_enter Try.func72, Try.ntmps72
  go_wp2
  go_loopw [1, 5] (fun m i wr => ∃ (k : Nat) (mu : Int), k ≤ n ∧ m = .int .i64 mu ∧ i = .int .i64 k ∧ Below w.heap.size w wr) (fun _ i _ => n - (intOf i).toNat)
  case atStart => exact ⟨0, much, Nat.zero_le _, rfl, rfl, Below.refl _ _⟩
  case round =>
    obtain ⟨k, mu, hk, rfl, rfl, hbw⟩ := hrel
    by_cases hlt : k < n
    · have hn := HX.out.2.1
      obtain ⟨b, off, hab, hbs, hc⟩ := HX.out.1 (by omega)
      subst hab
      have hc1 := (hbw.cell (p := ⟨b, off + (k * 2 + 1), none⟩) hbs).trans (hc (k * 2 + 1) (by omega))
      generalize fs[k * 2 + 1]?.getD 0 = x at hc1
      have hc2 : wr.cell? ⟨b, off + k * 2 + 1, none⟩ = some (.int .i64 x) := by rw [Nat.add_assoc]; exact hc1
      clear hc hc1 hn
      by_cases hle : x ≤ mu
      · go_wp2
        go_roundw
        case rel => exact ⟨k + 1, _, by omega, rfl, by go_num, hbw⟩
        case measure => simp [intOf]; omega
      · have hle2 : decide (x ≤ mu) = false := by simp [hle]
        clear hle
        have hd : (fs.drop (k * 2)).length = (n - k) * 2 := by have := HX.out.2.1; simp; omega
        go_wp2_with fail
        all_goals (first | (exfalso; omega) | skip)
        refine (clonePile_any (some ⟨b, off + k * 2, none⟩) (fs.drop (k * 2)) (n - k) (cap - k) _ ((HX.out.1.below hbw).drop (k * 2)) hd (fun h => by cases h) (by omega)).mono ?_
        rintro e w2 ⟨a2, cap2, rfl, hO2, hb2⟩
        obtain ⟨hI2, hT2, hf2, hn2, hc2', _⟩ := owns_form hO2
        cases a2 with
        | none => exact absurd (hn2 rfl) (by omega)
        | some q =>
          obtain ⟨qb, qo, qs⟩ := q
          obtain ⟨hq1, hq2, hq3⟩ := hf2 _ rfl
          simp only at hq1 hq2 hq3
          subst hq2
          subst hq3
          obtain ⟨cs, hcs⟩ := hT2 _ rfl
          simp only at hcs
          obtain ⟨b3, off3, e3, hb3, hc3⟩ := hI2 (by omega)
          cases e3
          have s1 := hc3 1 (by omega)
          have s2 := blk_free (j := 1) hcs
          have FIN : Hid (OutPiles w (n - k) ((fs.drop (k * 2)).set 1 (wrap64 ((fs.drop (k * 2))[1]?.getD 0 - mu))) (.returned (.slice (some ⟨qb, 0, none⟩) (n - k) cap2)) (w2.setCell ⟨qb, 1, none⟩ (.int .i64 (wrap64 ((fs.drop (k * 2))[1]?.getD 0 - mu))))) :=
            ⟨_, _, rfl, owns_mono (owns_set hO2 1 _) (Nat.le_trans hbw.size (Nat.le_refl _)), (below_self hbw hb2).setCell (p := ⟨qb, 1, none⟩) (Nat.le_trans hbw.size hq1) _⟩
          have HL : Hid (((fs.drop (k * 2)).set 1 (wrap64 ((fs.drop (k * 2))[1]?.getD 0 - mu))).length = (n - k) * 2) := by show _ = _; rw [List.length_set]; exact hd
          generalize (fs.drop (k * 2)).set 1 (wrap64 ((fs.drop (k * 2))[1]?.getD 0 - mu)) = fs2 at FIN HL
          generalize (fs.drop (k * 2))[1]?.getD 0 = x2 at FIN s1
          have hpos : 0 < n - k := by omega
          clear hc3 hI2 hT2 hf2 hn2 hc2' hO2 hcs hd hc2 hle2
          go_wp2
          go_ret
          exact ⟨n - k, fs2, HL.out, by omega, FIN.out⟩
    · have : k = n := by omega
      subst this
      clear hlt
      go_wp2_with fail
      all_goals (refine (clonePile_any _ [] 0 _ _ (fun h => by simp at h) rfl (fun _ => rfl) (by omega)).mono ?_; rintro e w2 ⟨a2, cap2, rfl, hO2, hb2⟩)
      all_goals go_wp2
      all_goals go_ret
      all_goals exact ⟨0, [], rfl, by omega, _, _, rfl, owns_mono hO2 hbw.size, below_self hbw hb2⟩
structure Ps where
  stock : Int
  stocks : List Int
  made : List Int
  fails : Int
  full : Int
def lostD (s l : Int) : Int := min l s
def madeD (store s m l : Int) : Int := min m (store - (s - lostD s l))
def stepP (store : Int) (s : Ps) (k : Nat) (n m l : Int) : Ps :=
  if s.fails = -1 then
    (if s.stock + (madeD store s.stock m l - lostD s.stock l) < n then ⟨s.stock, s.stocks, s.made, k, if madeD store s.stock m l < m then k else s.full⟩
     else ⟨s.stock + (madeD store s.stock m l - lostD s.stock l) - n, s.stocks ++ [s.stock + (madeD store s.stock m l - lostD s.stock l) - n], s.made ++ [madeD store s.stock m l], -1, if madeD store s.stock m l < m then k else s.full⟩)
  else s
def playL (stock store : Int) (N M L : List Int) (k : Nat) : Ps := (List.range k).foldl (fun s i => stepP store s i (N[i]?.getD 0) (M[i]?.getD 0) (L[i]?.getD 0)) ⟨stock, [], [], -1, -1⟩
theorem playL_succ (stock store : Int) (N M L : List Int) (k : Nat) : playL stock store N M L (k + 1) = stepP store (playL stock store N M L k) k (N[k]?.getD 0) (M[k]?.getD 0) (L[k]?.getD 0) := by simp [playL, List.range_succ]
/-- The tale in memory, its rows spelled out. -/
def PT (w : World) (T : Nat) (s : Ps) (k : Nat) (wr : World) (sl ml pl : Value) (np : Nat) (fs : List Int) : Prop :=
  wr.heap[T]? = some (.cells #[sl, ml, pl, .int .i64 s.fails, .int .i64 s.full] 83 (0, 0)) ∧ wr.ownsRow (T + 1) 3 1 sl s.stocks.length (s.stocks.map (Value.int .i64)) ∧ wr.ownsRow (T + 1) 3 1 ml s.made.length (s.made.map (Value.int .i64)) ∧ wr.ownsRow (w.heap.size + 2) 124 2 pl np (fs.map (Value.int .i64)) ∧ np ≤ k + 1 ∧ (∀ i, sl.ownBlock = some i → ml.ownBlock ≠ some i)
/-- What play's memory holds. -/
structure PW (w : World) (T : Nat) (sp : Value) (s : Ps) (k : Nat) (wr : World) : Prop where
  b : Below w.heap.size w wr
  hT : w.heap.size + 2 ≤ T
  sp : wr.heap[w.heap.size]? = some (.cells sp.cells 101 (0, 0))
  rs : wr.heap[w.heap.size + 1]? = some (.cells #[.slice none 0 0, .slice none 0 0, .slice none 0 0, .int .i64 0, .int .i64 0] 83 (0, 0))
  t : ∃ (sl ml pl : Value) (np : Nat) (fs : List Int), PT w T s k wr sl ml pl np fs
/-- What play hands back. -/
def OutTale (w : World) (s : Ps) (e : Ending) (w' : World) : Prop := ∃ sa sc ma mc pa pn pc, e = .returned (.agg #[.slice sa s.stocks.length sc, .slice ma s.made.length mc, .slice pa pn pc, .int .i64 s.fails, .int .i64 s.full]) ∧ IntSl w' sa s.stocks ∧ IntSl w' ma s.made ∧ Below w.heap.size w w'
/-- The same; its lists are new. -/
def OutTaleF (w : World) (s : Ps) (e : Ending) (w' : World) : Prop := ∃ sa sc ma mc pa pn pc, e = .returned (.agg #[.slice sa s.stocks.length sc, .slice ma s.made.length mc, .slice pa pn pc, .int .i64 s.fails, .int .i64 s.full]) ∧ (IntSl w' sa s.stocks ∧ ∀ p, sa = some p → w.heap.size ≤ p.block) ∧ (IntSl w' ma s.made ∧ ∀ p, ma = some p → w.heap.size ≤ p.block) ∧ Below w.heap.size w w'
theorem OutTaleF.tale {w : World} {s : Ps} {e : Ending} {w' : World} (h : OutTaleF w s e w') : OutTale w s e w' := by
  obtain ⟨sa, sc, ma, mc, pa, pn, pc, h1, h2, h3, h4⟩ := h
  exact ⟨sa, sc, ma, mc, pa, pn, pc, h1, h2.1, h3.1, h4⟩
theorem five_put {w W : World} {B : Nat} {t : TypeId} {u0 u1 u2 u3 u4 v0 v1 v2 v3 v4 : Value} (h : W.heap[B]? = some (.cells #[u0, u1, u2, u3, u4] t (0, 0))) (hB : w.heap.size ≤ B) (k : Below w.heap.size w W) :
    Below w.heap.size w (((((W.setCell ⟨B, 0, none⟩ v0).setCell ⟨B, 1, none⟩ v1).setCell ⟨B, 2, none⟩ v2).setCell ⟨B, 3, none⟩ v3).setCell ⟨B, 4, none⟩ v4) ∧ (((((W.setCell ⟨B, 0, none⟩ v0).setCell ⟨B, 1, none⟩ v1).setCell ⟨B, 2, none⟩ v2).setCell ⟨B, 3, none⟩ v3).setCell ⟨B, 4, none⟩ v4).heap[B]? = some (.cells #[v0, v1, v2, v3, v4] t (0, 0)) ∧ (∀ k, k ≠ B → (((((W.setCell ⟨B, 0, none⟩ v0).setCell ⟨B, 1, none⟩ v1).setCell ⟨B, 2, none⟩ v2).setCell ⟨B, 3, none⟩ v3).setCell ⟨B, 4, none⟩ v4).heap[k]? = W.heap[k]?) ∧ W.heap.size ≤ (((((W.setCell ⟨B, 0, none⟩ v0).setCell ⟨B, 1, none⟩ v1).setCell ⟨B, 2, none⟩ v2).setCell ⟨B, 3, none⟩ v3).setCell ⟨B, 4, none⟩ v4).heap.size :=
  ⟨((((k.setCell (p := ⟨B, 0, none⟩) hB _).setCell (p := ⟨B, 1, none⟩) hB _).setCell (p := ⟨B, 2, none⟩) hB _).setCell (p := ⟨B, 3, none⟩) hB _).setCell (p := ⟨B, 4, none⟩) hB _,
   blk_setCell (j := 4) (u := v4) (blk_setCell (j := 3) (u := v3) (blk_setCell (j := 2) (u := v2) (blk_setCell (j := 1) (u := v1) (blk_setCell (j := 0) (u := v0) h)))),
   fun _ hk => (Below.heap_setCell _ _ _ _ hk).trans ((Below.heap_setCell _ _ _ _ hk).trans ((Below.heap_setCell _ _ _ _ hk).trans ((Below.heap_setCell _ _ _ _ hk).trans (Below.heap_setCell _ _ _ _ hk)))), by simp only [World.size_setCell]; exact Nat.le_refl _⟩
/-- What is known of the memory at play's end. -/
theorem PW.end {w : World} {T : Nat} {sp : Value} {s : Ps} {k : Nat} {wr : World} (h : PW w T sp s k wr) : ∃ sa sc ma mc pa pn pc, wr.heap[T]? = some (.cells #[.slice sa s.stocks.length sc, .slice ma s.made.length mc, .slice pa pn pc, .int .i64 s.fails, .int .i64 s.full] 83 (0, 0)) ∧
    Hid (((((((wr.setCell ⟨w.heap.size + 1, 0, none⟩ (.slice sa s.stocks.length sc)).setCell ⟨w.heap.size + 1, 1, none⟩ (.slice ma s.made.length mc)).setCell ⟨w.heap.size + 1, 2, none⟩ (.slice pa pn pc)).setCell ⟨w.heap.size + 1, 3, none⟩ (.int .i64 s.fails)).setCell ⟨w.heap.size + 1, 4, none⟩ (.int .i64 s.full))).heap[w.heap.size + 1]? = some (.cells #[.slice sa s.stocks.length sc, .slice ma s.made.length mc, .slice pa pn pc, .int .i64 s.fails, .int .i64 s.full] 83 (0, 0))) ∧ Hid (OutTaleF w s (.returned (.agg #[.slice sa s.stocks.length sc, .slice ma s.made.length mc, .slice pa pn pc, .int .i64 s.fails, .int .i64 s.full])) (((((wr.setCell ⟨w.heap.size + 1, 0, none⟩ (.slice sa s.stocks.length sc)).setCell ⟨w.heap.size + 1, 1, none⟩ (.slice ma s.made.length mc)).setCell ⟨w.heap.size + 1, 2, none⟩ (.slice pa pn pc)).setCell ⟨w.heap.size + 1, 3, none⟩ (.int .i64 s.fails)).setCell ⟨w.heap.size + 1, 4, none⟩ (.int .i64 s.full))) := by
  obtain ⟨sl, ml, pl, np, fs, h1, h2, h3, h4, h5, h6⟩ := h.t
  obtain ⟨sa, sc, rfl, hs, hsf⟩ := ints_of_owns h2
  obtain ⟨ma, mc, rfl, hm, hmf⟩ := ints_of_owns h3
  obtain ⟨pa, pc, rfl, _⟩ := flats_of_owns h4
  refine ⟨sa, sc, ma, mc, pa, np, pc, h1, ?_⟩
  obtain ⟨a1, a2, a3, a4⟩ := five_put (v0 := .slice sa s.stocks.length sc) (v1 := .slice ma s.made.length mc) (v2 := .slice pa np pc) (v3 := .int .i64 s.fails) (v4 := .int .i64 s.full) h.rs (show w.heap.size ≤ w.heap.size + 1 by omega) h.b
  exact ⟨a2, sa, sc, ma, mc, pa, np, pc, rfl, ⟨ints_put hs (Below.refl _ _) a3 a4 (fun p hp => by have := hsf p hp; have := h.hT; omega), fun p hp => by have := hsf p hp; have := h.hT; omega⟩, ⟨ints_put hm (Below.refl _ _) a3 a4 (fun p hp => by have := hmf p hp; have := h.hT; omega), fun p hp => by have := hmf p hp; have := h.hT; omega⟩, a1⟩
theorem PW.free {w : World} {T : Nat} {sp : Value} {s : Ps} {k : Nat} {wr : World} (h : PW w T sp s k wr) : (∀ j, wr.frozen? ⟨w.heap.size + 1, j, none⟩ = false) ∧ (∀ j, wr.frozen? ⟨T, j, none⟩ = false) ∧ w.heap.size + 1 < wr.heap.size ∧ T < wr.heap.size := by
  obtain ⟨sl, ml, pl, np, fs, h1, _⟩ := h.t
  exact ⟨fun j => blk_free h.rs, fun j => blk_free h1, lt_of_block h.rs, lt_of_block h1⟩
theorem PW.drewN {w : World} {T : Nat} {sp : Value} {s : Ps} {k : Nat} {wr : World} (h : PW w T sp s k wr) (q : Nat) : PW w T sp s k (wr.drewN q) :=
  ⟨⟨h.b.os, h.b.tape, h.b.output, h.b.size, h.b.block⟩, h.hT, h.sp, h.rs, h.t⟩
theorem owns_other {w : World} {base B j : Nat} {e : TypeId} {size : Nat} {v u : Value} {n : Nat} {xs : List Value} (h : w.ownsRow base e size v n xs) (hB : v.ownBlock ≠ some B) : (w.setCell ⟨B, j, none⟩ u).ownsRow base e size v n xs := by
  refine ⟨h.1, ?_⟩
  rcases h.2 with h1 | ⟨g, cap', cur, rfl, h2, h3, h4⟩
  · exact .inl h1
  · exact .inr ⟨g, cap', cur, rfl, h2, blk_other h3 (fun he => hB (by subst he; rfl)), h4⟩
theorem owns_blkC {w : World} {base g : Nat} {e : TypeId} {size : Nat} {v : Value} {n : Nat} {xs : List Value} (h : w.ownsRow base e size v n xs) (hv : v.ownBlock = some g) : base ≤ g ∧ ∃ cs, w.heap[g]? = some (.cells cs e (0, 0)) := by
  rcases h.2 with ⟨rfl, _⟩ | ⟨g', cap', cur, rfl, h2, h3, h4⟩
  · cases hv
  · cases hv; exact ⟨h2, _, h3⟩
/-- A number of the tale is set. -/
theorem PW.put {w : World} {T : Nat} {sp : Value} {s s' : Ps} {k : Nat} {wr : World} (h : PW w T sp s k wr) (j : Nat) (x : Int) (hs : s'.stocks = s.stocks ∧ s'.made = s.made) (hj : (j = 3 ∧ s'.fails = x ∧ s'.full = s.full) ∨ (j = 4 ∧ s'.fails = s.fails ∧ s'.full = x)) : PW w T sp s' k (wr.setCell ⟨T, j, none⟩ (.int .i64 x)) := by
  obtain ⟨sl, ml, pl, np, fs, h1, h2, h3, h4, h5, h6⟩ := h.t
  have hT := h.hT
  have hne : ∀ {base e sz v n xs}, wr.ownsRow base e sz v n xs → (e ≠ 83) → v.ownBlock ≠ some T := fun ho he hv => by
    obtain ⟨_, cs, hc⟩ := owns_blkC ho hv
    rw [h1] at hc
    cases hc
    exact he rfl
  refine ⟨h.b.setCell (p := ⟨T, j, none⟩) (by show w.heap.size ≤ T; omega) _, hT, blk_other h.sp (by omega), blk_other h.rs (by omega), sl, ml, pl, np, fs, ?_, ?_, ?_, owns_other h4 (hne h4 (by decide)), h5, h6⟩
  · rcases hj with ⟨rfl, e1, e2⟩ | ⟨rfl, e1, e2⟩ <;> rw [e1, e2] <;> exact blk_setCell h1
  · rw [hs.1]; exact owns_other h2 (hne h2 (by decide))
  · rw [hs.2]; exact owns_other h3 (hne h3 (by decide))
theorem PW.piles {w W w5 : World} {T : Nat} {sp : Value} {s : Ps} {k k' : Nat} (h : PW w T sp s k W) (hb : Below W.heap.size W w5) {v : Value} {np : Nat} {fs : List Int} (ho : w5.ownsRow W.heap.size 124 2 v np (fs.map (Value.int .i64))) (hn : np ≤ k' + 1) : PW w T sp s k' (w5.setCell ⟨T, 2, none⟩ v) := by
  obtain ⟨sl, ml, pl, np', fs', h1, h2, h3, h4, h5, h6⟩ := h.t
  have hT := h.hT
  have hTW := lt_of_block h1
  have hne : ∀ {base e sz v n xs}, W.ownsRow base e sz v n xs → (e ≠ 83) → v.ownBlock ≠ some T := fun ho he hv => by
    obtain ⟨_, cs, hc⟩ := owns_blkC ho hv
    rw [h1] at hc
    cases hc
    exact he rfl
  exact ⟨(below_self h.b hb).setCell (p := ⟨T, 2, none⟩) (by show w.heap.size ≤ T; omega) _, hT, blk_other (blk_below h.sp hb) (by omega), blk_other (blk_below h.rs hb) (by omega), sl, ml, v, np, fs, blk_setCell (blk_below h1 hb), owns_other (owns_below h2 hb) (hne h2 (by decide)), owns_other (owns_below h3 hb) (hne h3 (by decide)), owns_other (owns_mono ho (by omega)) (fun hv => by have := (ho.lt _ hv).1; omega), hn, h6⟩
theorem PW.push0 {w W w' : World} {T : Nat} {sp : Value} {s : Ps} {k : Nat} (h : PW w T sp s k W) {sl ml pl : Value} {np : Nat} {fs : List Int} (ht : PT w T s k W sl ml pl np fs) (o : Obj) {v' : Value} {x : Int}
    (ho : w'.ownsRow (T + 1) 3 1 v' (s.stocks.length + 1) (s.stocks.map (Value.int .i64) ++ [.int .i64 x])) (hg : (W.alloc o).grownBy w' sl.ownBlock) (hv : v'.ownBlock = sl.ownBlock ∨ v'.ownBlock = some (W.alloc o).heap.size) :
    PW w T sp ⟨s.stock, s.stocks ++ [x], s.made, s.fails, s.full⟩ k (w'.setCell ⟨T, 0, none⟩ v') ∧ PT w T ⟨s.stock, s.stocks ++ [x], s.made, s.fails, s.full⟩ k (w'.setCell ⟨T, 0, none⟩ v') v' ml pl np fs ∧ w'.heap[T]? = W.heap[T]? := by
  obtain ⟨h1, h2, h3, h4, h5, h6⟩ := ht
  have hT := h.hT
  have hTW := lt_of_block h1
  have hsl : ∀ i, sl.ownBlock = some i → T + 1 ≤ i := fun i hi => (h2.lt i hi).1
  have keep : ∀ j, j < W.heap.size → some j ≠ sl.ownBlock → w'.heap[j]? = W.heap[j]? := fun j hj hn => (hg.block j (by rw [World.size_alloc]; omega) hn).trans (heap_alloc_old W o hj)
  have low : ∀ j, j ≤ T → w'.heap[j]? = W.heap[j]? := fun j hj => keep j (by omega) (fun e => by have := hsl j e.symm; omega)
  have hne : ∀ {base e sz v n xs}, W.ownsRow base e sz v n xs → (e ≠ 83) → v.ownBlock ≠ some T := fun ho he hv => by
    obtain ⟨_, cs, hc⟩ := owns_blkC ho hv
    rw [h1] at hc
    cases hc
    exact he rfl
  have hml : ml.ownBlock = none ∨ ml.ownBlock ≠ sl.ownBlock := by
    cases hm : ml.ownBlock with
    | none => exact .inl rfl
    | some i => exact .inr (fun e => h6 i e.symm hm)
  have hpl : pl.ownBlock = none ∨ pl.ownBlock ≠ sl.ownBlock := by
    cases hm : pl.ownBlock with
    | none => exact .inl rfl
    | some i =>
      refine .inr (fun e => ?_)
      obtain ⟨_, c1, e1⟩ := owns_blkC h4 hm
      obtain ⟨_, c2, e2⟩ := owns_blkC h2 e.symm
      rw [e1] at e2; cases e2
  have PTN : PT w T ⟨s.stock, s.stocks ++ [x], s.made, s.fails, s.full⟩ k (w'.setCell ⟨T, 0, none⟩ v') v' ml pl np fs := by
    refine ⟨blk_setCell ((low T (Nat.le_refl _)).trans h1), ?_, owns_other ((h3.alloc o).kept hg hml) (hne h3 (by decide)), owns_other ((h4.alloc o).kept hg hpl) (hne h4 (by decide)), h5, ?_⟩
    · have e1 : (s.stocks ++ [x]).length = s.stocks.length + 1 := by simp
      have e2 : (s.stocks ++ [x]).map (Value.int .i64) = s.stocks.map (Value.int .i64) ++ [.int .i64 x] := by simp
      show World.ownsRow _ _ _ _ _ (s.stocks ++ [x]).length ((s.stocks ++ [x]).map (Value.int .i64))
      rw [e1, e2]
      exact owns_other ho (fun hv' => by have := (ho.lt _ hv').1; omega)
    · intro i hi hm
      rcases hv with hv | hv
      · exact h6 i (by rw [← hv]; exact hi) hm
      · rw [hv] at hi; cases hi
        have := (h3.lt _ hm).2
        rw [World.size_alloc] at this; omega
  exact ⟨⟨((h.b.alloc h.b.size o).grown hg (by rw [World.size_alloc]; have := h.b.size; omega) (fun i hi => by have := hsl i hi; omega)).setCell (p := ⟨T, 0, none⟩) (by show w.heap.size ≤ T; omega) _, hT, blk_other ((low _ (by omega)).trans h.sp) (by omega), blk_other ((low _ (by omega)).trans h.rs) (by omega), _, _, _, _, _, PTN⟩, PTN, low T (Nat.le_refl _)⟩
theorem PW.push1 {w W w' : World} {T : Nat} {sp : Value} {s : Ps} {k : Nat} (h : PW w T sp s k W) {sl ml pl : Value} {np : Nat} {fs : List Int} (ht : PT w T s k W sl ml pl np fs) (o : Obj) {v' : Value} {x : Int}
    (ho : w'.ownsRow (T + 1) 3 1 v' (s.made.length + 1) (s.made.map (Value.int .i64) ++ [.int .i64 x])) (hg : (W.alloc o).grownBy w' ml.ownBlock) (hv : v'.ownBlock = ml.ownBlock ∨ v'.ownBlock = some (W.alloc o).heap.size) :
    PW w T sp ⟨s.stock, s.stocks, s.made ++ [x], s.fails, s.full⟩ k (w'.setCell ⟨T, 1, none⟩ v') ∧ w'.heap[T]? = W.heap[T]? := by
  obtain ⟨h1, h2, h3, h4, h5, h6⟩ := ht
  have hT := h.hT
  have hTW := lt_of_block h1
  have hsl : ∀ i, ml.ownBlock = some i → T + 1 ≤ i := fun i hi => (h3.lt i hi).1
  have keep : ∀ j, j < W.heap.size → some j ≠ ml.ownBlock → w'.heap[j]? = W.heap[j]? := fun j hj hn => (hg.block j (by rw [World.size_alloc]; omega) hn).trans (heap_alloc_old W o hj)
  have low : ∀ j, j ≤ T → w'.heap[j]? = W.heap[j]? := fun j hj => keep j (by omega) (fun e => by have := hsl j e.symm; omega)
  have hne : ∀ {base e sz v n xs}, W.ownsRow base e sz v n xs → (e ≠ 83) → v.ownBlock ≠ some T := fun ho he hv => by
    obtain ⟨_, cs, hc⟩ := owns_blkC ho hv
    rw [h1] at hc
    cases hc
    exact he rfl
  have hml : sl.ownBlock = none ∨ sl.ownBlock ≠ ml.ownBlock := by
    cases hm : sl.ownBlock with
    | none => exact .inl rfl
    | some i => exact .inr (fun e => h6 i hm e.symm)
  have hpl : pl.ownBlock = none ∨ pl.ownBlock ≠ ml.ownBlock := by
    cases hm : pl.ownBlock with
    | none => exact .inl rfl
    | some i =>
      refine .inr (fun e => ?_)
      obtain ⟨_, c1, e1⟩ := owns_blkC h4 hm
      obtain ⟨_, c2, e2⟩ := owns_blkC h3 e.symm
      rw [e1] at e2; cases e2
  have PTN : PT w T ⟨s.stock, s.stocks, s.made ++ [x], s.fails, s.full⟩ k (w'.setCell ⟨T, 1, none⟩ v') sl v' pl np fs := by
    refine ⟨blk_setCell ((low T (Nat.le_refl _)).trans h1), owns_other ((h2.alloc o).kept hg hml) (hne h2 (by decide)), ?_, owns_other ((h4.alloc o).kept hg hpl) (hne h4 (by decide)), h5, ?_⟩
    · have e1 : (s.made ++ [x]).length = s.made.length + 1 := by simp
      have e2 : (s.made ++ [x]).map (Value.int .i64) = s.made.map (Value.int .i64) ++ [.int .i64 x] := by simp
      show World.ownsRow _ _ _ _ _ (s.made ++ [x]).length ((s.made ++ [x]).map (Value.int .i64))
      rw [e1, e2]
      exact owns_other ho (fun hv' => by have := (ho.lt _ hv').1; omega)
    · intro i hi hm
      rcases hv with hv | hv
      · exact h6 i hi (by rw [← hv]; exact hm)
      · rw [hv] at hm; cases hm
        have := (h2.lt _ hi).2
        rw [World.size_alloc] at this; omega
  exact ⟨⟨((h.b.alloc h.b.size o).grown hg (by rw [World.size_alloc]; have := h.b.size; omega) (fun i hi => by have := hsl i hi; omega)).setCell (p := ⟨T, 1, none⟩) (by show w.heap.size ≤ T; omega) _, hT, blk_other ((low _ (by omega)).trans h.sp) (by omega), blk_other ((low _ (by omega)).trans h.rs) (by omega), _, _, _, _, _, PTN⟩, low T (Nat.le_refl _)⟩
theorem playL_stop (stock store : Int) (N M L : List Int) (k : Nat) (h : (playL stock store N M L k).fails ≠ -1) (n : Nat) (hn : k ≤ n) : playL stock store N M L n = playL stock store N M L k := by
  induction n with
  | zero => have : k = 0 := by omega
            subst this; rfl
  | succ n ih =>
    rcases Nat.lt_or_ge n k with h1 | h1
    · have : k = n + 1 := by omega
      subst this; rfl
    · rw [playL_succ, ih h1, stepP, if_neg h]
theorem pair_sl {w : World} {B : Nat} {x y : Int} {t : TypeId} (h : w.heap[B]? = some (.cells #[.int .i64 x, .int .i64 y] t (0, 0))) : IntSl w (some ⟨B, 0, none⟩) [x, y] := fun _ =>
  ⟨B, 0, rfl, lt_of_block h, fun j hj => by
    rw [cell_of_row w B _ _ _ _ h]
    exact match j, hj with
    | 0, _ => rfl
    | 1, _ => rfl
    | j + 2, hj => absurd (show j + 2 < 2 from hj) (by omega)⟩
theorem cell_two_new (w : World) (t : TypeId) (x y : Value) : ∀ j u, [x, y][j]? = some u → (w.alloc (.cells #[x, y] t)).cell? ((⟨w.heap.size, 0, none⟩ : Addr).add j) = some u := by
  intro j u hu
  have hadd : (⟨w.heap.size, 0, none⟩ : Addr).add j = ⟨w.heap.size, j, none⟩ := by unfold Addr.add; split <;> simp_all
  rw [hadd, cell_of_row _ _ _ _ _ _ (heap_alloc_new w _)]
  match j, hu with
  | 0, hu => simpa using hu
  | 1, hu => simpa using hu
  | j + 2, hu => simp at hu
theorem playL_len (stock store : Int) (N M L : List Int) (k : Nat) : (playL stock store N M L k).stocks.length ≤ k ∧ (playL stock store N M L k).made.length ≤ k := by
  induction k with
  | zero => exact ⟨Nat.le_refl _, Nat.le_refl _⟩
  | succ k ih =>
    rw [playL_succ, stepP]
    split
    · split
      · exact ⟨Nat.le_succ_of_le ih.1, Nat.le_succ_of_le ih.2⟩
      · exact ⟨by show (_ ++ [_]).length ≤ _; rw [List.length_append]; exact Nat.succ_le_succ ih.1, by show (_ ++ [_]).length ≤ _; rw [List.length_append]; exact Nat.succ_le_succ ih.2⟩
    · exact ⟨Nat.le_succ_of_le ih.1, Nat.le_succ_of_le ih.2⟩
set_option maxRecDepth 100000 in
set_option maxHeartbeats 4000000 in
theorem play_fresh (stock store : Int) (a : Option Addr) (n cap : Nat) (an : Option Addr) (N : List Int) (cn : Nat) (am : Option Addr) (M : List Int) (cm : Nat) (al : Option Addr) (L : List Int) (cl : Nat) (w : World)
    (hN : IntSl w an N) (hM : IntSl w am M) (hL : IntSl w al L) (hNn : N.length = n) (hMn : M.length = n) (hLn : L.length = n) (hn : n ≤ 60) (hst : 0 ≤ stock ∧ stock ≤ store ∧ store ≤ 1000000)
    (hb : (∀ x ∈ N, 0 ≤ x ∧ x ≤ 100000) ∧ (∀ x ∈ M, 0 ≤ x ∧ x ≤ 100000) ∧ (∀ x ∈ L, 0 ≤ x ∧ x ≤ 100000)) :
    Calls Try.prog 49 #[sv stock store a n cap an n cn am n cm al n cl] w (OutTaleF w (playL stock store N M L n)) := by
  have HH := Lib.hid (And.intro hN (And.intro hM (And.intro hL (And.intro hNn (And.intro hMn hLn)))))
  have HB := Lib.hid hb
  have HS := Lib.hid hst
  clear hN hM hL hNn hMn hLn hb hst
  obtain ⟨Wa, hWa⟩ : ∃ Wa, (w.alloc (.cells #[.int .i64 stock, .int .i64 store, .slice a n cap, .slice an n cn, .slice am n cm, .slice al n cl] 101)).alloc (.cells #[.slice none 0 0, .slice none 0 0, .slice none 0 0, .int .i64 0, .int .i64 0] 83) = Wa := ⟨_, rfl⟩
  have hba : Below w.heap.size w Wa := by rw [← hWa]; exact ((Below.refl _ _).alloc (Nat.le_refl _) _).alloc (by simp) _
  have h0 : Wa.heap[w.heap.size]? = some (.cells #[.int .i64 stock, .int .i64 store, .slice a n cap, .slice an n cn, .slice am n cm, .slice al n cl] 101 (0, 0)) := by rw [← hWa]; exact alk (new_at rfl)
  have r0 : Wa.heap[w.heap.size + 1]? = some (.cells #[.slice none 0 0, .slice none 0 0, .slice none 0 0, .int .i64 0, .int .i64 0] 83 (0, 0)) := by rw [← hWa]; exact new_at (by simp)
  have c0 := blk_cell h0 0 rfl
  go_enter Try.func49, Try.ntmps49
  go_wp2
  go_step3
  have hbc : Below Wa.heap.size Wa (Wa.alloc (.cells #[.int .i64 (-1), .int .i64 stock] 124)) := (Below.refl _ _).alloc (Nat.le_refl _) _
  have hnc : (Wa.alloc (.cells #[.int .i64 (-1), .int .i64 stock] 124)).heap[Wa.heap.size]? = some (.cells #[.int .i64 (-1), .int .i64 stock] 124 (0, 0)) := heap_alloc_new _ _
  go_wp2_with (fail)
  refine (drained_any (some ⟨Wa.heap.size, 0, none⟩) [-1, stock] 1 1 0 _ (pair_sl hnc) rfl (fun h => by cases h) (Nat.le_refl _) (by omega)).mono ?_
  rintro e w1 ⟨np, fs, hfs, hnp, pa, pcap, rfl, hown, hb1⟩
  have hza : Wa.heap.size = w.heap.size + 2 := by rw [← hWa]; simp
  have hown' : w1.ownsRow (w.heap.size + 2) 124 2 (.slice pa np pcap) np (fs.map (Value.int .i64)) := owns_mono hown (by rw [World.size_alloc, hza]; omega)
  have k1 : Below w.heap.size w w1 := below_self (below_self hba hbc) hb1
  have h1 := blk_below (blk_below h0 hbc) hb1
  have r1 := blk_below (blk_below r0 hbc) hb1
  have hz1 : w.heap.size + 3 ≤ w1.heap.size := by have := hb1.size; rw [World.size_alloc, hza] at this; omega
  clear hnc hown hb1 hbc h0 r0 c0 hba hza hWa
  obtain ⟨Wt, hWt⟩ : ∃ Wt, w1.alloc (.cells #[.slice none 0 0, .slice none 0 0, .slice pa np pcap, .int .i64 (-1), .int .i64 (-1)] 83) = Wt := ⟨_, rfl⟩
  have hbt : Below w1.heap.size w1 Wt := by rw [← hWt]; exact (Below.refl _ _).alloc (Nat.le_refl _) _
  have hT : Wt.heap[w1.heap.size]? = some (.cells #[.slice none 0 0, .slice none 0 0, .slice pa np pcap, .int .i64 (-1), .int .i64 (-1)] 83 (0, 0)) := by rw [← hWt]; exact heap_alloc_new _ _
  have hPW : PW w w1.heap.size (sv stock store a n cap an n cn am n cm al n cl) ⟨stock, [], [], -1, -1⟩ 0 Wt :=
    ⟨below_self k1 hbt, by omega, blk_below h1 hbt, blk_below r1 hbt, _, _, _, np, fs, hT, World.ownsRow_nil _ _ _ _, World.ownsRow_nil _ _ _ _, owns_below hown' hbt, by omega, (fun i h => by cases h)⟩
  have d0 := blk_cell (blk_below h1 hbt) 0 rfl
  have d2 := blk_cell (blk_below h1 hbt) 2 rfl
  have HP := Lib.hid hPW
  clear hPW hT hbt k1 h1 r1 hown' hfs hnp
  generalize hTT : w1.heap.size = T at HP hz1 hWt ⊢
  go_wp2_with (fail)
  go_step3
  go_wp2_with (fail)
  clear hWt d0 d2 hTT
  go_loopw [4, 24] (fun st i wr => ∃ (k : Nat) (s : Ps), k ≤ n ∧ i = .int .i64 k ∧ Hid (s = playL stock store N M L k) ∧ st = .int .i64 s.stock ∧ Hid (s.fails = -1) ∧ Hid (0 ≤ s.stock ∧ s.stock ≤ store) ∧ Hid (PW w T (sv stock store a n cap an n cn am n cm al n cl) s k wr)) (fun _ i _ => n - (intOf i).toNat)
  case atStart => exact ⟨0, _, Nat.zero_le _, rfl, rfl, rfl, rfl, ⟨HS.out.1, HS.out.2.1⟩, HP⟩
  case round =>
    obtain ⟨k, s, hk, rfl, hs, rfl, hf, hst, hpw⟩ := hrel
    by_cases hlt : k < n
    · obtain ⟨hN, hM, hL, hNn, hMn, hLn⟩ := HH.out
      obtain ⟨bn, on, rfl, hbn, hcn⟩ := hN (by omega)
      obtain ⟨bm, om, rfl, hbm, hcm⟩ := hM (by omega)
      obtain ⟨bl, ol, rfl, hbl, hcl⟩ := hL (by omega)
      have cN := (hpw.out.b.cell (p := ⟨bn, on + k, none⟩) hbn).trans (hcn k (by omega))
      have cM := (hpw.out.b.cell (p := ⟨bm, om + k, none⟩) hbm).trans (hcm k (by omega))
      have cL := (hpw.out.b.cell (p := ⟨bl, ol + k, none⟩) hbl).trans (hcl k (by omega))
      have bN : 0 ≤ N[k]?.getD 0 ∧ N[k]?.getD 0 ≤ 100000 := HB.out.1 _ (by rw [List.getElem?_eq_getElem (by omega)]; exact List.getElem_mem _)
      have bM : 0 ≤ M[k]?.getD 0 ∧ M[k]?.getD 0 ≤ 100000 := HB.out.2.1 _ (by rw [List.getElem?_eq_getElem (by omega)]; exact List.getElem_mem _)
      have bL : 0 ≤ L[k]?.getD 0 ∧ L[k]?.getD 0 ≤ 100000 := HB.out.2.2 _ (by rw [List.getElem?_eq_getElem (by omega)]; exact List.getElem_mem _)
      have HSTEP : Hid (playL stock store N M L (k + 1) = stepP store s k (N[k]?.getD 0) (M[k]?.getD 0) (L[k]?.getD 0)) := by show _ = _; rw [playL_succ, ← hs.out]
      generalize N[k]?.getD 0 = nk at cN bN HSTEP
      generalize M[k]?.getD 0 = mk at cM bM HSTEP
      generalize L[k]?.getD 0 = lk at cL bL HSTEP
      have c1 := blk_cell hpw.out.sp 1 rfl
      have c3 := blk_cell hpw.out.sp 3 rfl
      have c4 := blk_cell hpw.out.sp 4 rfl
      have c5 := blk_cell hpw.out.sp 5 rfl
      have hst' := hst.out
      have hS3 := HS.out
      clear hcn hcm hcl hN hM hL
      go_wp2_with (fail)
      go_quiet (fail)
      clear cN cM c1 c3 c4 HP hz1
      have HB3 := Lib.hid (And.intro hS3 (And.intro hst' (And.intro bN (And.intro bM bL))))
      have hn' := hn
      have HLT := Lib.hid hlt
      clear hS3 hst' hn bN bM bL
      go_upto_region 8 with (fail)
      have hlo : (if s.stock < lk then s.stock else lk) = lostD s.stock lk := by unfold lostD; have := HB3.out; split <;> omega
      have blo : 0 ≤ lostD s.stock lk ∧ lostD s.stock lk ≤ s.stock := by unfold lostD; have := HB3.out; omega
      rw [hlo]
      clear hlo
      have hpw2 := Lib.hid (hpw.out.drewN nq)
      clear hpw
      generalize wr.drewN nq = W1 at hpw2 ⊢
      have c1 := blk_cell hpw2.out.sp 1 rfl
      obtain ⟨lo, hlo⟩ : ∃ lo, lostD s.stock lk = lo := ⟨_, rfl⟩
      rw [hlo] at blo ⊢
      have HLO := Lib.hid hlo
      clear hlo
      have b1 := HB3.out.1
      have b2 := HB3.out.2.1
      have b3 := HB3.out.2.2.2.1
      go_upto_region 9 with (fail)
      have hma' : (if store - (s.stock - lo) < mk then store - (s.stock - lo) else mk) = madeD store s.stock mk lk := by unfold madeD; rw [HLO.out]; split <;> omega
      have bma : 0 ≤ madeD store s.stock mk lk ∧ madeD store s.stock mk lk ≤ mk ∧ s.stock - lo + madeD store s.stock mk lk ≤ store := by unfold madeD; rw [HLO.out]; omega
      rw [hma']
      clear hma' c1
      obtain ⟨ma, hma⟩ : ∃ ma, madeD store s.stock mk lk = ma := ⟨_, rfl⟩
      rw [hma] at bma ⊢
      have HMA := Lib.hid hma
      clear hma
      by_cases hfu : ma < mk
      · have g3 := hpw2.out.free.2.1 4
        have g4 := hpw2.out.free.2.2.2
        obtain ⟨_, _, _, _, _, hT2, _⟩ := hpw2.out.t
        have t3 := blk_cell hT2 4 rfl
        clear hT2
        go_upto_region 11 with (fail)
        have hpw3 := Lib.hid (hpw2.out.put (s' := ⟨s.stock, s.stocks, s.made, s.fails, if ma < mk then (k : Int) else s.full⟩) 4 k ⟨rfl, rfl⟩ (.inr ⟨rfl, rfl, if_pos hfu⟩))
        clear hpw2 g3 g4 t3
        generalize W1.setCell ⟨T, 4, none⟩ (.int .i64 k) = W2 at hpw3 ⊢
        clear hfu
        generalize hs2' : (⟨s.stock, s.stocks, s.made, s.fails, if ma < mk then (k : Int) else s.full⟩ : Ps) = s2 at hpw3
        have hs2 := Lib.hid hs2'
        clear hs2'
        go_upto_region 13 with (fail)
        generalize hst2 : s.stock + (ma - lo) = st2
        have HST := Lib.hid hst2
        have bst : 0 ≤ st2 ∧ st2 ≤ store ∧ store ≤ 1000000 := by omega
        clear hst2 blo bma b1 b2 b3
        by_cases hfa : st2 < nk
        · skip
          have HF : Hid (playL stock store N M L n = ⟨s2.stock, s2.stocks, s2.made, k, s2.full⟩) := by
            show _ = _
            have h1 : playL stock store N M L (k + 1) = ⟨s2.stock, s2.stocks, s2.made, k, s2.full⟩ := by
              rw [HSTEP.out, stepP, if_pos hf.out, HMA.out, HLO.out, if_pos (by rw [HST.out]; exact hfa), ← hs2.out]
            rw [← h1]
            exact playL_stop _ _ _ _ _ _ (by rw [h1]; show (k : Int) ≠ -1; omega) _ (by omega)
          obtain ⟨W3, hW3⟩ : ∃ W3, W2.setCell ⟨T, 3, none⟩ (.int .i64 k) = W3 := ⟨_, rfl⟩
          have hpw4 : Hid (PW w T (sv stock store a n cap (some ⟨bn, on, none⟩) n cn (some ⟨bm, om, none⟩) n cm (some ⟨bl, ol, none⟩) n cl) ⟨s2.stock, s2.stocks, s2.made, k, s2.full⟩ k W3) := by rw [← hW3]; exact hpw3.out.put 3 k ⟨rfl, rfl⟩ (.inl ⟨rfl, rfl, rfl⟩)
          have g3 := hpw3.out.free.2.1 3
          have g4 := hpw3.out.free.2.2.2
          obtain ⟨_, _, _, _, _, hT2, _⟩ := hpw3.out.t
          have t3 := blk_cell hT2 3 rfl
          clear hT2
          obtain ⟨sa, sc, ma', mc, pa2, pn, pc, hTc, HC, HO⟩ := hpw4.out.end
          have r0 := hpw4.out.rs
          have b0 := blk_cell r0 0 rfl
          have b1 := blk_cell r0 1 rfl
          have b2 := blk_cell r0 2 rfl
          have b3 := blk_cell r0 3 rfl
          have b4 := blk_cell r0 4 rfl
          have f0 := blk_free (j := 0) r0
          have f1 := blk_free (j := 1) r0
          have f2 := blk_free (j := 2) r0
          have f3 := blk_free (j := 3) r0
          have f4 := blk_free (j := 4) r0
          have e0 := blk_cell hTc 0 rfl
          have e1 := blk_cell hTc 1 rfl
          have e2 := blk_cell hTc 2 rfl
          have e3 := blk_cell hTc 3 rfl
          have e4 := blk_cell hTc 4 rfl
          clear hTc r0
          go_wp2_with (fail)
          clear b0 b1 b2 b3 b4 f0 f1 f2 f3 f4 e0 e1 e2 e3 e4
          try rw [Exit.noGoto_ret]
          generalize (((((W3.setCell ⟨w.heap.size + 1, 0, none⟩ (.slice sa s2.stocks.length sc)).setCell ⟨w.heap.size + 1, 1, none⟩ (.slice ma' s2.made.length mc)).setCell ⟨w.heap.size + 1, 2, none⟩ (.slice pa2 pn pc)).setCell ⟨w.heap.size + 1, 3, none⟩ (.int .i64 k)).setCell ⟨w.heap.size + 1, 4, none⟩ (.int .i64 s2.full)) = W5 at HC HO ⊢
          have q0 := blk_cell HC.out 0 rfl
          have q1 := blk_cell HC.out 1 rfl
          have q2 := blk_cell HC.out 2 rfl
          have q3 := blk_cell HC.out 3 rfl
          have q4 := blk_cell HC.out 4 rfl
          refine bodyPost_ret (v := .agg #[.slice sa s2.stocks.length sc, .slice ma' s2.made.length mc, .slice pa2 pn pc, .int .i64 k, .int .i64 s2.full]) (by simp [results, Try.results49, go_sem, q0, q1, q2, q3, q4]) rfl ?_
          rw [HF.out]
          exact HO.out

        · have bst4 : 0 ≤ st2 - nk ∧ st2 - nk ≤ 1000000 := by have := HB3.out.2.2.1; omega
          have BST := Lib.hid bst
          obtain ⟨sl, ml, pl, np2, fs2, hTc, hO1, hO2, hO3, hnp2, hdis⟩ := hpw3.out.t
          obtain ⟨pa3, pc3, rfl, _⟩ := flats_of_owns hO3
          have HF := Lib.hid (owns_form hO3)
          have p2 := blk_cell hTc 2 rfl
          have p3 := blk_free (j := 2) hTc
          have HNP := Lib.hid hnp2
          have HTc := Lib.hid hTc
          have hTlt := lt_of_block hTc
          have HHn := Lib.hid hn'
          clear hTc hO1 hO2 hO3 hnp2 hdis bst hn'
          by_cases hmd : 0 < ma
          · go_wp2_with (fail)
            refine (drained_any pa3 fs2 np2 pc3 _ _ HF.out.1 HF.out.2.2.2.2.2 HF.out.2.2.2.1 HF.out.2.2.2.2.1 (by have := HNP.out; have := HHn.out; omega)).mono ?_
            rintro e w5 ⟨np5, fs5, hfs5, hnp5, pa5, pc5, rfl, hO5, hb5⟩
            obtain ⟨j0, hj, hjz0, hjz1, hjz2⟩ := info_parts Try.info124
            have HNP5 : Hid (np5 ≤ k + 1 ∧ k + 1 ≤ 61) := by have := HNP.out; have := HHn.out; have := HLT.out; exact ⟨by omega, by omega⟩
            have HO5 := Lib.hid hO5
            have HB5 := Lib.hid hb5
            clear hO5 hb5 hfs5 hnp5 p2 p3
            go_wp2_with (at_builtin; refine wpList_append_own_at _ rfl _ _ 81 rfl W2.heap.size 124 j0 (.agg #[.int .i64 0, .int .i64 0]) 2 16 Try.underlying81 hj hjz0 hjz1 hjz2 rfl (by decide) (.slice pa5 np5 pc5) np5 (fs5.map (Value.int .i64)) rfl (HO5.out.alloc _) ⟨w5.heap.size, 0, none⟩ 1 1 [.int .i64 k, .int .i64 ma] rfl rfl (cell_two_new _ _ _ _) (by intro u hu; simp at hu; rcases hu with rfl | rfl <;> rfl) (by have := HNP5.out; unfold maxLen; omega) (by have := HNP5.out; omega) (by have := HB5.out.size; rw [World.size_alloc]; omega) ?_)
            intro v6 w6 hown6 hgrow6 _ hv6
            obtain ⟨g6, cap6, rfl⟩ := ownsRow_succ hown6
            have hb6 : Below W2.heap.size W2 w6 := (HB5.out.alloc HB5.out.size _).grown hgrow6 (by rw [World.size_alloc]; have := HB5.out.size; omega) (fun j hj => (HO5.out.lt j hj).1)
            have hown6' : w6.ownsRow W2.heap.size 124 2 (.slice (some ⟨g6, 0, none⟩) (np5 + 1) cap6) (np5 + 1) ((fs5 ++ [(k : Int), ma]).map (Value.int .i64)) := by simpa using hown6
            have hpw6 := Lib.hid (hpw3.out.piles (k' := k + 1) hb6 hown6' (by have := HNP5.out; omega))
            have t6 := blk_below HTc.out hb6
            have y6 := blk_cell t6 2 rfl
            have y6f := blk_free (j := 2) t6
            clear t6 hown6' hb6 hown6 hgrow6 hv6
            go_upto_region 17 with (fail)
            generalize w6.setCell ⟨T, 2, none⟩ (.slice (some ⟨g6, 0, none⟩) (np5 + 1) cap6) = W6 at hpw6 ⊢
            clear y6 y6f
            obtain ⟨sl6, ml6, pl6, np6, fs6, hTc6, _, _, hO6, hnp6, _⟩ := hpw6.out.t
            obtain ⟨pa6, pc6, rfl, _⟩ := flats_of_owns hO6
            have HF6 := Lib.hid (owns_form hO6)
            have p2 := blk_cell hTc6 2 rfl
            have p3 := blk_free (j := 2) hTc6
            have HNP6 := Lib.hid hnp6
            have HTc6 := Lib.hid hTc6
            have hTlt6 := lt_of_block hTc6
            clear hTc6 hO6 hnp6
            go_wp2_with (fail)
            refine (drained_any pa6 fs6 np6 pc6 _ _ HF6.out.1 HF6.out.2.2.2.2.2 HF6.out.2.2.2.1 HF6.out.2.2.2.2.1 (by have := HNP6.out; have := HNP5.out; omega)).mono ?_
            rintro e w7 ⟨np7, fs7, hfs7, hnp7, pa7, pc7, rfl, hO7, hb7⟩
            have hpw5 := Lib.hid (hpw6.out.piles (k' := k + 1) hb7 hO7 (by have := HNP6.out; omega))
            have p5 := blk_free (j := 2) (blk_below HTc6.out hb7)
            have p6 := blk_cell (blk_below HTc6.out hb7) 2 rfl
            clear hb7 hO7 hfs7 hnp7 p2 p3
            go_upto_region 19 with (fail)
            generalize w7.setCell ⟨T, 2, none⟩ (.slice pa7 np7 pc7) = W5 at hpw5 ⊢
            clear p5 p6
            have HLEN : Hid (s2.stocks.length ≤ 60 ∧ s2.made.length ≤ 60) := by
              have h1 := playL_len stock store N M L k
              rw [← hs.out] at h1
              have h2 := HHn.out
              show _ ∧ _
              rw [← hs2.out]
              exact ⟨by show s.stocks.length ≤ 60; omega, by show s.made.length ≤ 60; omega⟩
            have HEQ : Hid (playL stock store N M L (k + 1) = ⟨st2 - nk, s2.stocks ++ [st2 - nk], s2.made ++ [ma], -1, s2.full⟩) := by
              show _ = _
              rw [HSTEP.out, stepP, if_pos hf.out, HMA.out, HLO.out, HST.out, if_neg (by omega), ← hs2.out]
            have HFL : Hid (s2.fails = -1) := by show _ = _; rw [← hs2.out]; exact hf.out
            obtain ⟨sl5, ml5, pl5, np5', fs5', PT5⟩ := hpw5.out.t
            have HPT5 : Hid (PT w T s2 (k + 1) W5 sl5 ml5 pl5 np5' fs5') := PT5
            have q0 := blk_cell PT5.1 0 rfl
            have r0 := blk_free (j := 0) PT5.1
            clear PT5
            obtain ⟨i0, hi, hz0, hz1, hz2⟩ := info_parts Try.info3
            go_wp2_with (at_builtin; refine wpList_append_own_at _ rfl _ _ 23 rfl (T + 1) 3 i0 (.int .i64 0) 1 8 Try.underlying23 hi hz0 hz1 hz2 rfl (by decide) sl5 s2.stocks.length (s2.stocks.map (Value.int .i64)) rfl (HPT5.out.2.1.alloc _) ⟨W5.heap.size, 0, none⟩ 1 1 [.int .i64 (st2 - nk)] rfl rfl ?c1 ?c2 ?c3 ?c4 ?c5 ?_)
            case c1 => exact cell_one_new _ _ _
            case c2 => intro u hu; simp at hu; subst hu; rfl
            case c3 => have := HLEN.out.1; unfold maxLen; omega
            case c4 => have := HLEN.out.1; omega
            case c5 => have := lt_of_block HPT5.out.1; rw [World.size_alloc]; omega
            intro v6 w6 hown6 hgrow6 _ hv6
            obtain ⟨g6, cap6, rfl⟩ := ownsRow_succ hown6
            obtain ⟨hpw6, hpt6, hh6⟩ := hpw5.out.push0 HPT5.out _ hown6 hgrow6 (by rw [World.size_alloc]; exact hv6)
            have z0 := hh6.trans HPT5.out.1
            have y0 := blk_cell z0 0 rfl
            have y0f := blk_free (j := 0) z0
            have HPP := Lib.hid (And.intro hpw6 hpt6)
            clear hpw6 hpt6 hh6 z0 hown6 hgrow6 hv6 q0 r0
            go_upto_region 20 with (fail)
            clear y0 y0f
            have hpw6 := HPP.out.1
            have hpt6 := HPP.out.2
            clear HPP
            generalize w6.setCell ⟨T, 0, none⟩ (.slice (some ⟨g6, 0, none⟩) (s2.stocks.length + 1) cap6) = W6 at hpw6 hpt6 ⊢
            have HPW6 := Lib.hid hpw6
            have HPT6 := Lib.hid hpt6
            have y1 := blk_cell hpt6.1 1 rfl
            have y1f := blk_free (j := 1) hpt6.1
            clear hpw6 hpt6
            go_wp2_with (at_builtin; refine wpList_append_own_at _ rfl _ _ 23 rfl (T + 1) 3 i0 (.int .i64 0) 1 8 Try.underlying23 hi hz0 hz1 hz2 rfl (by decide) ml5 s2.made.length (s2.made.map (Value.int .i64)) rfl (HPT6.out.2.2.1.alloc _) ⟨W6.heap.size, 0, none⟩ 1 1 [.int .i64 ma] rfl rfl (cell_one_new _ _ _) (by intro u hu; simp at hu; subst hu; rfl) (by have := HLEN.out.2; unfold maxLen; omega) (by have := HLEN.out.2; omega) (by have := lt_of_block HPT6.out.1; rw [World.size_alloc]; omega) ?_)
            intro v7 w7 hown7 hgrow7 _ hv7
            obtain ⟨g7, cap7, rfl⟩ := ownsRow_succ hown7
            obtain ⟨hpw7, hh7⟩ := HPW6.out.push1 HPT6.out _ hown7 hgrow7 (by rw [World.size_alloc]; exact hv7)
            have z1 := hh7.trans HPT6.out.1
            have y2 := blk_cell z1 1 rfl
            have y2f := blk_free (j := 1) z1
            have HPW7 := Lib.hid hpw7
            clear hpw7 hh7 z1 hown7 hgrow7 hv7 y1 y1f
            have hk1 := HLT.out
            have hk2 := HHn.out
            go_wp2
            go_roundw
            case rel => exact ⟨k + 1, ⟨st2 - nk, s2.stocks ++ [st2 - nk], s2.made ++ [ma], -1, s2.full⟩, HLT.out, by have := HHn.out; have := HLT.out; go_num, HEQ.out.symm, rfl, rfl, ⟨bst4.1, by have := HB3.out.2.2.1; have := BST.out; show st2 - nk ≤ store; omega⟩, ⟨HPW7.out.b, HPW7.out.hT, HPW7.out.sp, HPW7.out.rs, by have h := HPW7.out.t; rw [HFL.out] at h; exact h⟩⟩
            case measure => have := HLT.out; have := HHn.out; simp [intOf]; omega
          · go_wp2_with (fail)
            refine (drained_any pa3 fs2 np2 pc3 _ _ HF.out.1 HF.out.2.2.2.2.2 HF.out.2.2.2.1 HF.out.2.2.2.2.1 (by have := HNP.out; have := HHn.out; omega)).mono ?_
            rintro e w5 ⟨np5, fs5, hfs5, hnp5, pa5, pc5, rfl, hO5, hb5⟩
            have hpw5 := Lib.hid (hpw3.out.piles (k' := k + 1) hb5 hO5 (by have := HNP.out; omega))
            have p5 := blk_free (j := 2) (blk_below HTc.out hb5)
            have p6 := blk_cell (blk_below HTc.out hb5) 2 rfl
            clear hb5 hO5 hfs5 hnp5 p2 p3
            go_upto_region 19 with (fail)
            generalize w5.setCell ⟨T, 2, none⟩ (.slice pa5 np5 pc5) = W5 at hpw5 ⊢
            clear p5 p6
            have HLEN : Hid (s2.stocks.length ≤ 60 ∧ s2.made.length ≤ 60) := by
              have h1 := playL_len stock store N M L k
              rw [← hs.out] at h1
              have h2 := HHn.out
              show _ ∧ _
              rw [← hs2.out]
              exact ⟨by show s.stocks.length ≤ 60; omega, by show s.made.length ≤ 60; omega⟩
            have HEQ : Hid (playL stock store N M L (k + 1) = ⟨st2 - nk, s2.stocks ++ [st2 - nk], s2.made ++ [ma], -1, s2.full⟩) := by
              show _ = _
              rw [HSTEP.out, stepP, if_pos hf.out, HMA.out, HLO.out, HST.out, if_neg (by omega), ← hs2.out]
            have HFL : Hid (s2.fails = -1) := by show _ = _; rw [← hs2.out]; exact hf.out
            obtain ⟨sl5, ml5, pl5, np5', fs5', PT5⟩ := hpw5.out.t
            have HPT5 : Hid (PT w T s2 (k + 1) W5 sl5 ml5 pl5 np5' fs5') := PT5
            have q0 := blk_cell PT5.1 0 rfl
            have r0 := blk_free (j := 0) PT5.1
            clear PT5
            obtain ⟨i0, hi, hz0, hz1, hz2⟩ := info_parts Try.info3
            go_wp2_with (at_builtin; refine wpList_append_own_at _ rfl _ _ 23 rfl (T + 1) 3 i0 (.int .i64 0) 1 8 Try.underlying23 hi hz0 hz1 hz2 rfl (by decide) sl5 s2.stocks.length (s2.stocks.map (Value.int .i64)) rfl (HPT5.out.2.1.alloc _) ⟨W5.heap.size, 0, none⟩ 1 1 [.int .i64 (st2 - nk)] rfl rfl ?c1 ?c2 ?c3 ?c4 ?c5 ?_)
            case c1 => exact cell_one_new _ _ _
            case c2 => intro u hu; simp at hu; subst hu; rfl
            case c3 => have := HLEN.out.1; unfold maxLen; omega
            case c4 => have := HLEN.out.1; omega
            case c5 => have := lt_of_block HPT5.out.1; rw [World.size_alloc]; omega
            intro v6 w6 hown6 hgrow6 _ hv6
            obtain ⟨g6, cap6, rfl⟩ := ownsRow_succ hown6
            obtain ⟨hpw6, hpt6, hh6⟩ := hpw5.out.push0 HPT5.out _ hown6 hgrow6 (by rw [World.size_alloc]; exact hv6)
            have z0 := hh6.trans HPT5.out.1
            have y0 := blk_cell z0 0 rfl
            have y0f := blk_free (j := 0) z0
            have HPP := Lib.hid (And.intro hpw6 hpt6)
            clear hpw6 hpt6 hh6 z0 hown6 hgrow6 hv6 q0 r0
            go_upto_region 20 with (fail)
            clear y0 y0f
            have hpw6 := HPP.out.1
            have hpt6 := HPP.out.2
            clear HPP
            generalize w6.setCell ⟨T, 0, none⟩ (.slice (some ⟨g6, 0, none⟩) (s2.stocks.length + 1) cap6) = W6 at hpw6 hpt6 ⊢
            have HPW6 := Lib.hid hpw6
            have HPT6 := Lib.hid hpt6
            have y1 := blk_cell hpt6.1 1 rfl
            have y1f := blk_free (j := 1) hpt6.1
            clear hpw6 hpt6
            go_wp2_with (at_builtin; refine wpList_append_own_at _ rfl _ _ 23 rfl (T + 1) 3 i0 (.int .i64 0) 1 8 Try.underlying23 hi hz0 hz1 hz2 rfl (by decide) ml5 s2.made.length (s2.made.map (Value.int .i64)) rfl (HPT6.out.2.2.1.alloc _) ⟨W6.heap.size, 0, none⟩ 1 1 [.int .i64 ma] rfl rfl (cell_one_new _ _ _) (by intro u hu; simp at hu; subst hu; rfl) (by have := HLEN.out.2; unfold maxLen; omega) (by have := HLEN.out.2; omega) (by have := lt_of_block HPT6.out.1; rw [World.size_alloc]; omega) ?_)
            intro v7 w7 hown7 hgrow7 _ hv7
            obtain ⟨g7, cap7, rfl⟩ := ownsRow_succ hown7
            obtain ⟨hpw7, hh7⟩ := HPW6.out.push1 HPT6.out _ hown7 hgrow7 (by rw [World.size_alloc]; exact hv7)
            have z1 := hh7.trans HPT6.out.1
            have y2 := blk_cell z1 1 rfl
            have y2f := blk_free (j := 1) z1
            have HPW7 := Lib.hid hpw7
            clear hpw7 hh7 z1 hown7 hgrow7 hv7 y1 y1f
            have hk1 := HLT.out
            have hk2 := HHn.out
            go_wp2
            go_roundw
            case rel => exact ⟨k + 1, ⟨st2 - nk, s2.stocks ++ [st2 - nk], s2.made ++ [ma], -1, s2.full⟩, HLT.out, by have := HHn.out; have := HLT.out; go_num, HEQ.out.symm, rfl, rfl, ⟨bst4.1, by have := HB3.out.2.2.1; have := BST.out; show st2 - nk ≤ store; omega⟩, ⟨HPW7.out.b, HPW7.out.hT, HPW7.out.sp, HPW7.out.rs, by have h := HPW7.out.t; rw [HFL.out] at h; exact h⟩⟩
            case measure => have := HLT.out; have := HHn.out; simp [intOf]; omega
      · go_upto_region 11 with (fail)
        have hpw3 : Hid (PW w T (sv stock store a n cap (some ⟨bn, on, none⟩) n cn (some ⟨bm, om, none⟩) n cm (some ⟨bl, ol, none⟩) n cl) ⟨s.stock, s.stocks, s.made, s.fails, if ma < mk then (k : Int) else s.full⟩ k W1) := by show PW _ _ _ _ _ _; rw [if_neg hfu]; exact hpw2.out
        clear hpw2
        generalize W1 = W2 at hpw3 ⊢
        clear hfu
        generalize hs2' : (⟨s.stock, s.stocks, s.made, s.fails, if ma < mk then (k : Int) else s.full⟩ : Ps) = s2 at hpw3
        have hs2 := Lib.hid hs2'
        clear hs2'
        go_upto_region 13 with (fail)
        generalize hst2 : s.stock + (ma - lo) = st2
        have HST := Lib.hid hst2
        have bst : 0 ≤ st2 ∧ st2 ≤ store ∧ store ≤ 1000000 := by omega
        clear hst2 blo bma b1 b2 b3
        by_cases hfa : st2 < nk
        · skip
          have HF : Hid (playL stock store N M L n = ⟨s2.stock, s2.stocks, s2.made, k, s2.full⟩) := by
            show _ = _
            have h1 : playL stock store N M L (k + 1) = ⟨s2.stock, s2.stocks, s2.made, k, s2.full⟩ := by
              rw [HSTEP.out, stepP, if_pos hf.out, HMA.out, HLO.out, if_pos (by rw [HST.out]; exact hfa), ← hs2.out]
            rw [← h1]
            exact playL_stop _ _ _ _ _ _ (by rw [h1]; show (k : Int) ≠ -1; omega) _ (by omega)
          obtain ⟨W3, hW3⟩ : ∃ W3, W2.setCell ⟨T, 3, none⟩ (.int .i64 k) = W3 := ⟨_, rfl⟩
          have hpw4 : Hid (PW w T (sv stock store a n cap (some ⟨bn, on, none⟩) n cn (some ⟨bm, om, none⟩) n cm (some ⟨bl, ol, none⟩) n cl) ⟨s2.stock, s2.stocks, s2.made, k, s2.full⟩ k W3) := by rw [← hW3]; exact hpw3.out.put 3 k ⟨rfl, rfl⟩ (.inl ⟨rfl, rfl, rfl⟩)
          have g3 := hpw3.out.free.2.1 3
          have g4 := hpw3.out.free.2.2.2
          obtain ⟨_, _, _, _, _, hT2, _⟩ := hpw3.out.t
          have t3 := blk_cell hT2 3 rfl
          clear hT2
          obtain ⟨sa, sc, ma', mc, pa2, pn, pc, hTc, HC, HO⟩ := hpw4.out.end
          have r0 := hpw4.out.rs
          have b0 := blk_cell r0 0 rfl
          have b1 := blk_cell r0 1 rfl
          have b2 := blk_cell r0 2 rfl
          have b3 := blk_cell r0 3 rfl
          have b4 := blk_cell r0 4 rfl
          have f0 := blk_free (j := 0) r0
          have f1 := blk_free (j := 1) r0
          have f2 := blk_free (j := 2) r0
          have f3 := blk_free (j := 3) r0
          have f4 := blk_free (j := 4) r0
          have e0 := blk_cell hTc 0 rfl
          have e1 := blk_cell hTc 1 rfl
          have e2 := blk_cell hTc 2 rfl
          have e3 := blk_cell hTc 3 rfl
          have e4 := blk_cell hTc 4 rfl
          clear hTc r0
          go_wp2_with (fail)
          clear b0 b1 b2 b3 b4 f0 f1 f2 f3 f4 e0 e1 e2 e3 e4
          try rw [Exit.noGoto_ret]
          generalize (((((W3.setCell ⟨w.heap.size + 1, 0, none⟩ (.slice sa s2.stocks.length sc)).setCell ⟨w.heap.size + 1, 1, none⟩ (.slice ma' s2.made.length mc)).setCell ⟨w.heap.size + 1, 2, none⟩ (.slice pa2 pn pc)).setCell ⟨w.heap.size + 1, 3, none⟩ (.int .i64 k)).setCell ⟨w.heap.size + 1, 4, none⟩ (.int .i64 s2.full)) = W5 at HC HO ⊢
          have q0 := blk_cell HC.out 0 rfl
          have q1 := blk_cell HC.out 1 rfl
          have q2 := blk_cell HC.out 2 rfl
          have q3 := blk_cell HC.out 3 rfl
          have q4 := blk_cell HC.out 4 rfl
          refine bodyPost_ret (v := .agg #[.slice sa s2.stocks.length sc, .slice ma' s2.made.length mc, .slice pa2 pn pc, .int .i64 k, .int .i64 s2.full]) (by simp [results, Try.results49, go_sem, q0, q1, q2, q3, q4]) rfl ?_
          rw [HF.out]
          exact HO.out

        · have bst4 : 0 ≤ st2 - nk ∧ st2 - nk ≤ 1000000 := by have := HB3.out.2.2.1; omega
          have BST := Lib.hid bst
          obtain ⟨sl, ml, pl, np2, fs2, hTc, hO1, hO2, hO3, hnp2, hdis⟩ := hpw3.out.t
          obtain ⟨pa3, pc3, rfl, _⟩ := flats_of_owns hO3
          have HF := Lib.hid (owns_form hO3)
          have p2 := blk_cell hTc 2 rfl
          have p3 := blk_free (j := 2) hTc
          have HNP := Lib.hid hnp2
          have HTc := Lib.hid hTc
          have hTlt := lt_of_block hTc
          have HHn := Lib.hid hn'
          clear hTc hO1 hO2 hO3 hnp2 hdis bst hn'
          by_cases hmd : 0 < ma
          · go_wp2_with (fail)
            refine (drained_any pa3 fs2 np2 pc3 _ _ HF.out.1 HF.out.2.2.2.2.2 HF.out.2.2.2.1 HF.out.2.2.2.2.1 (by have := HNP.out; have := HHn.out; omega)).mono ?_
            rintro e w5 ⟨np5, fs5, hfs5, hnp5, pa5, pc5, rfl, hO5, hb5⟩
            obtain ⟨j0, hj, hjz0, hjz1, hjz2⟩ := info_parts Try.info124
            have HNP5 : Hid (np5 ≤ k + 1 ∧ k + 1 ≤ 61) := by have := HNP.out; have := HHn.out; have := HLT.out; exact ⟨by omega, by omega⟩
            have HO5 := Lib.hid hO5
            have HB5 := Lib.hid hb5
            clear hO5 hb5 hfs5 hnp5 p2 p3
            go_wp2_with (at_builtin; refine wpList_append_own_at _ rfl _ _ 81 rfl W2.heap.size 124 j0 (.agg #[.int .i64 0, .int .i64 0]) 2 16 Try.underlying81 hj hjz0 hjz1 hjz2 rfl (by decide) (.slice pa5 np5 pc5) np5 (fs5.map (Value.int .i64)) rfl (HO5.out.alloc _) ⟨w5.heap.size, 0, none⟩ 1 1 [.int .i64 k, .int .i64 ma] rfl rfl (cell_two_new _ _ _ _) (by intro u hu; simp at hu; rcases hu with rfl | rfl <;> rfl) (by have := HNP5.out; unfold maxLen; omega) (by have := HNP5.out; omega) (by have := HB5.out.size; rw [World.size_alloc]; omega) ?_)
            intro v6 w6 hown6 hgrow6 _ hv6
            obtain ⟨g6, cap6, rfl⟩ := ownsRow_succ hown6
            have hb6 : Below W2.heap.size W2 w6 := (HB5.out.alloc HB5.out.size _).grown hgrow6 (by rw [World.size_alloc]; have := HB5.out.size; omega) (fun j hj => (HO5.out.lt j hj).1)
            have hown6' : w6.ownsRow W2.heap.size 124 2 (.slice (some ⟨g6, 0, none⟩) (np5 + 1) cap6) (np5 + 1) ((fs5 ++ [(k : Int), ma]).map (Value.int .i64)) := by simpa using hown6
            have hpw6 := Lib.hid (hpw3.out.piles (k' := k + 1) hb6 hown6' (by have := HNP5.out; omega))
            have t6 := blk_below HTc.out hb6
            have y6 := blk_cell t6 2 rfl
            have y6f := blk_free (j := 2) t6
            clear t6 hown6' hb6 hown6 hgrow6 hv6
            go_upto_region 17 with (fail)
            generalize w6.setCell ⟨T, 2, none⟩ (.slice (some ⟨g6, 0, none⟩) (np5 + 1) cap6) = W6 at hpw6 ⊢
            clear y6 y6f
            obtain ⟨sl6, ml6, pl6, np6, fs6, hTc6, _, _, hO6, hnp6, _⟩ := hpw6.out.t
            obtain ⟨pa6, pc6, rfl, _⟩ := flats_of_owns hO6
            have HF6 := Lib.hid (owns_form hO6)
            have p2 := blk_cell hTc6 2 rfl
            have p3 := blk_free (j := 2) hTc6
            have HNP6 := Lib.hid hnp6
            have HTc6 := Lib.hid hTc6
            have hTlt6 := lt_of_block hTc6
            clear hTc6 hO6 hnp6
            go_wp2_with (fail)
            refine (drained_any pa6 fs6 np6 pc6 _ _ HF6.out.1 HF6.out.2.2.2.2.2 HF6.out.2.2.2.1 HF6.out.2.2.2.2.1 (by have := HNP6.out; have := HNP5.out; omega)).mono ?_
            rintro e w7 ⟨np7, fs7, hfs7, hnp7, pa7, pc7, rfl, hO7, hb7⟩
            have hpw5 := Lib.hid (hpw6.out.piles (k' := k + 1) hb7 hO7 (by have := HNP6.out; omega))
            have p5 := blk_free (j := 2) (blk_below HTc6.out hb7)
            have p6 := blk_cell (blk_below HTc6.out hb7) 2 rfl
            clear hb7 hO7 hfs7 hnp7 p2 p3
            go_upto_region 19 with (fail)
            generalize w7.setCell ⟨T, 2, none⟩ (.slice pa7 np7 pc7) = W5 at hpw5 ⊢
            clear p5 p6
            have HLEN : Hid (s2.stocks.length ≤ 60 ∧ s2.made.length ≤ 60) := by
              have h1 := playL_len stock store N M L k
              rw [← hs.out] at h1
              have h2 := HHn.out
              show _ ∧ _
              rw [← hs2.out]
              exact ⟨by show s.stocks.length ≤ 60; omega, by show s.made.length ≤ 60; omega⟩
            have HEQ : Hid (playL stock store N M L (k + 1) = ⟨st2 - nk, s2.stocks ++ [st2 - nk], s2.made ++ [ma], -1, s2.full⟩) := by
              show _ = _
              rw [HSTEP.out, stepP, if_pos hf.out, HMA.out, HLO.out, HST.out, if_neg (by omega), ← hs2.out]
            have HFL : Hid (s2.fails = -1) := by show _ = _; rw [← hs2.out]; exact hf.out
            obtain ⟨sl5, ml5, pl5, np5', fs5', PT5⟩ := hpw5.out.t
            have HPT5 : Hid (PT w T s2 (k + 1) W5 sl5 ml5 pl5 np5' fs5') := PT5
            have q0 := blk_cell PT5.1 0 rfl
            have r0 := blk_free (j := 0) PT5.1
            clear PT5
            obtain ⟨i0, hi, hz0, hz1, hz2⟩ := info_parts Try.info3
            go_wp2_with (at_builtin; refine wpList_append_own_at _ rfl _ _ 23 rfl (T + 1) 3 i0 (.int .i64 0) 1 8 Try.underlying23 hi hz0 hz1 hz2 rfl (by decide) sl5 s2.stocks.length (s2.stocks.map (Value.int .i64)) rfl (HPT5.out.2.1.alloc _) ⟨W5.heap.size, 0, none⟩ 1 1 [.int .i64 (st2 - nk)] rfl rfl ?c1 ?c2 ?c3 ?c4 ?c5 ?_)
            case c1 => exact cell_one_new _ _ _
            case c2 => intro u hu; simp at hu; subst hu; rfl
            case c3 => have := HLEN.out.1; unfold maxLen; omega
            case c4 => have := HLEN.out.1; omega
            case c5 => have := lt_of_block HPT5.out.1; rw [World.size_alloc]; omega
            intro v6 w6 hown6 hgrow6 _ hv6
            obtain ⟨g6, cap6, rfl⟩ := ownsRow_succ hown6
            obtain ⟨hpw6, hpt6, hh6⟩ := hpw5.out.push0 HPT5.out _ hown6 hgrow6 (by rw [World.size_alloc]; exact hv6)
            have z0 := hh6.trans HPT5.out.1
            have y0 := blk_cell z0 0 rfl
            have y0f := blk_free (j := 0) z0
            have HPP := Lib.hid (And.intro hpw6 hpt6)
            clear hpw6 hpt6 hh6 z0 hown6 hgrow6 hv6 q0 r0
            go_upto_region 20 with (fail)
            clear y0 y0f
            have hpw6 := HPP.out.1
            have hpt6 := HPP.out.2
            clear HPP
            generalize w6.setCell ⟨T, 0, none⟩ (.slice (some ⟨g6, 0, none⟩) (s2.stocks.length + 1) cap6) = W6 at hpw6 hpt6 ⊢
            have HPW6 := Lib.hid hpw6
            have HPT6 := Lib.hid hpt6
            have y1 := blk_cell hpt6.1 1 rfl
            have y1f := blk_free (j := 1) hpt6.1
            clear hpw6 hpt6
            go_wp2_with (at_builtin; refine wpList_append_own_at _ rfl _ _ 23 rfl (T + 1) 3 i0 (.int .i64 0) 1 8 Try.underlying23 hi hz0 hz1 hz2 rfl (by decide) ml5 s2.made.length (s2.made.map (Value.int .i64)) rfl (HPT6.out.2.2.1.alloc _) ⟨W6.heap.size, 0, none⟩ 1 1 [.int .i64 ma] rfl rfl (cell_one_new _ _ _) (by intro u hu; simp at hu; subst hu; rfl) (by have := HLEN.out.2; unfold maxLen; omega) (by have := HLEN.out.2; omega) (by have := lt_of_block HPT6.out.1; rw [World.size_alloc]; omega) ?_)
            intro v7 w7 hown7 hgrow7 _ hv7
            obtain ⟨g7, cap7, rfl⟩ := ownsRow_succ hown7
            obtain ⟨hpw7, hh7⟩ := HPW6.out.push1 HPT6.out _ hown7 hgrow7 (by rw [World.size_alloc]; exact hv7)
            have z1 := hh7.trans HPT6.out.1
            have y2 := blk_cell z1 1 rfl
            have y2f := blk_free (j := 1) z1
            have HPW7 := Lib.hid hpw7
            clear hpw7 hh7 z1 hown7 hgrow7 hv7 y1 y1f
            have hk1 := HLT.out
            have hk2 := HHn.out
            go_wp2
            go_roundw
            case rel => exact ⟨k + 1, ⟨st2 - nk, s2.stocks ++ [st2 - nk], s2.made ++ [ma], -1, s2.full⟩, HLT.out, by have := HHn.out; have := HLT.out; go_num, HEQ.out.symm, rfl, rfl, ⟨bst4.1, by have := HB3.out.2.2.1; have := BST.out; show st2 - nk ≤ store; omega⟩, ⟨HPW7.out.b, HPW7.out.hT, HPW7.out.sp, HPW7.out.rs, by have h := HPW7.out.t; rw [HFL.out] at h; exact h⟩⟩
            case measure => have := HLT.out; have := HHn.out; simp [intOf]; omega
          · go_wp2_with (fail)
            refine (drained_any pa3 fs2 np2 pc3 _ _ HF.out.1 HF.out.2.2.2.2.2 HF.out.2.2.2.1 HF.out.2.2.2.2.1 (by have := HNP.out; have := HHn.out; omega)).mono ?_
            rintro e w5 ⟨np5, fs5, hfs5, hnp5, pa5, pc5, rfl, hO5, hb5⟩
            have hpw5 := Lib.hid (hpw3.out.piles (k' := k + 1) hb5 hO5 (by have := HNP.out; omega))
            have p5 := blk_free (j := 2) (blk_below HTc.out hb5)
            have p6 := blk_cell (blk_below HTc.out hb5) 2 rfl
            clear hb5 hO5 hfs5 hnp5 p2 p3
            go_upto_region 19 with (fail)
            generalize w5.setCell ⟨T, 2, none⟩ (.slice pa5 np5 pc5) = W5 at hpw5 ⊢
            clear p5 p6
            have HLEN : Hid (s2.stocks.length ≤ 60 ∧ s2.made.length ≤ 60) := by
              have h1 := playL_len stock store N M L k
              rw [← hs.out] at h1
              have h2 := HHn.out
              show _ ∧ _
              rw [← hs2.out]
              exact ⟨by show s.stocks.length ≤ 60; omega, by show s.made.length ≤ 60; omega⟩
            have HEQ : Hid (playL stock store N M L (k + 1) = ⟨st2 - nk, s2.stocks ++ [st2 - nk], s2.made ++ [ma], -1, s2.full⟩) := by
              show _ = _
              rw [HSTEP.out, stepP, if_pos hf.out, HMA.out, HLO.out, HST.out, if_neg (by omega), ← hs2.out]
            have HFL : Hid (s2.fails = -1) := by show _ = _; rw [← hs2.out]; exact hf.out
            obtain ⟨sl5, ml5, pl5, np5', fs5', PT5⟩ := hpw5.out.t
            have HPT5 : Hid (PT w T s2 (k + 1) W5 sl5 ml5 pl5 np5' fs5') := PT5
            have q0 := blk_cell PT5.1 0 rfl
            have r0 := blk_free (j := 0) PT5.1
            clear PT5
            obtain ⟨i0, hi, hz0, hz1, hz2⟩ := info_parts Try.info3
            go_wp2_with (at_builtin; refine wpList_append_own_at _ rfl _ _ 23 rfl (T + 1) 3 i0 (.int .i64 0) 1 8 Try.underlying23 hi hz0 hz1 hz2 rfl (by decide) sl5 s2.stocks.length (s2.stocks.map (Value.int .i64)) rfl (HPT5.out.2.1.alloc _) ⟨W5.heap.size, 0, none⟩ 1 1 [.int .i64 (st2 - nk)] rfl rfl ?c1 ?c2 ?c3 ?c4 ?c5 ?_)
            case c1 => exact cell_one_new _ _ _
            case c2 => intro u hu; simp at hu; subst hu; rfl
            case c3 => have := HLEN.out.1; unfold maxLen; omega
            case c4 => have := HLEN.out.1; omega
            case c5 => have := lt_of_block HPT5.out.1; rw [World.size_alloc]; omega
            intro v6 w6 hown6 hgrow6 _ hv6
            obtain ⟨g6, cap6, rfl⟩ := ownsRow_succ hown6
            obtain ⟨hpw6, hpt6, hh6⟩ := hpw5.out.push0 HPT5.out _ hown6 hgrow6 (by rw [World.size_alloc]; exact hv6)
            have z0 := hh6.trans HPT5.out.1
            have y0 := blk_cell z0 0 rfl
            have y0f := blk_free (j := 0) z0
            have HPP := Lib.hid (And.intro hpw6 hpt6)
            clear hpw6 hpt6 hh6 z0 hown6 hgrow6 hv6 q0 r0
            go_upto_region 20 with (fail)
            clear y0 y0f
            have hpw6 := HPP.out.1
            have hpt6 := HPP.out.2
            clear HPP
            generalize w6.setCell ⟨T, 0, none⟩ (.slice (some ⟨g6, 0, none⟩) (s2.stocks.length + 1) cap6) = W6 at hpw6 hpt6 ⊢
            have HPW6 := Lib.hid hpw6
            have HPT6 := Lib.hid hpt6
            have y1 := blk_cell hpt6.1 1 rfl
            have y1f := blk_free (j := 1) hpt6.1
            clear hpw6 hpt6
            go_wp2_with (at_builtin; refine wpList_append_own_at _ rfl _ _ 23 rfl (T + 1) 3 i0 (.int .i64 0) 1 8 Try.underlying23 hi hz0 hz1 hz2 rfl (by decide) ml5 s2.made.length (s2.made.map (Value.int .i64)) rfl (HPT6.out.2.2.1.alloc _) ⟨W6.heap.size, 0, none⟩ 1 1 [.int .i64 ma] rfl rfl (cell_one_new _ _ _) (by intro u hu; simp at hu; subst hu; rfl) (by have := HLEN.out.2; unfold maxLen; omega) (by have := HLEN.out.2; omega) (by have := lt_of_block HPT6.out.1; rw [World.size_alloc]; omega) ?_)
            intro v7 w7 hown7 hgrow7 _ hv7
            obtain ⟨g7, cap7, rfl⟩ := ownsRow_succ hown7
            obtain ⟨hpw7, hh7⟩ := HPW6.out.push1 HPT6.out _ hown7 hgrow7 (by rw [World.size_alloc]; exact hv7)
            have z1 := hh7.trans HPT6.out.1
            have y2 := blk_cell z1 1 rfl
            have y2f := blk_free (j := 1) z1
            have HPW7 := Lib.hid hpw7
            clear hpw7 hh7 z1 hown7 hgrow7 hv7 y1 y1f
            have hk1 := HLT.out
            have hk2 := HHn.out
            go_wp2
            go_roundw
            case rel => exact ⟨k + 1, ⟨st2 - nk, s2.stocks ++ [st2 - nk], s2.made ++ [ma], -1, s2.full⟩, HLT.out, by have := HHn.out; have := HLT.out; go_num, HEQ.out.symm, rfl, rfl, ⟨bst4.1, by have := HB3.out.2.2.1; have := BST.out; show st2 - nk ≤ store; omega⟩, ⟨HPW7.out.b, HPW7.out.hT, HPW7.out.sp, HPW7.out.rs, by have h := HPW7.out.t; rw [HFL.out] at h; exact h⟩⟩
            case measure => have := HLT.out; have := HHn.out; simp [intOf]; omega
    · have : k = n := by omega
      subst this
      clear hlt
      obtain ⟨sa, sc, ma, mc, pa2, pn, pc, hTc, HC, HO⟩ := hpw.out.end
      have r0 := hpw.out.rs
      have b0 := blk_cell r0 0 rfl
      have b1 := blk_cell r0 1 rfl
      have b2 := blk_cell r0 2 rfl
      have b3 := blk_cell r0 3 rfl
      have b4 := blk_cell r0 4 rfl
      have f0 := blk_free (j := 0) r0
      have f1 := blk_free (j := 1) r0
      have f2 := blk_free (j := 2) r0
      have f3 := blk_free (j := 3) r0
      have f4 := blk_free (j := 4) r0
      have e0 := blk_cell hTc 0 rfl
      have e1 := blk_cell hTc 1 rfl
      have e2 := blk_cell hTc 2 rfl
      have e3 := blk_cell hTc 3 rfl
      have e4 := blk_cell hTc 4 rfl
      clear hTc r0
      go_wp2_with (fail)
      clear b0 b1 b2 b3 b4 f0 f1 f2 f3 f4 e0 e1 e2 e3 e4
      try rw [Exit.noGoto_ret]
      generalize (((((wr.setCell ⟨w.heap.size + 1, 0, none⟩ (.slice sa s.stocks.length sc)).setCell ⟨w.heap.size + 1, 1, none⟩ (.slice ma s.made.length mc)).setCell ⟨w.heap.size + 1, 2, none⟩ (.slice pa2 pn pc)).setCell ⟨w.heap.size + 1, 3, none⟩ (.int .i64 s.fails)).setCell ⟨w.heap.size + 1, 4, none⟩ (.int .i64 s.full)) = W5 at HC HO ⊢
      have q0 := blk_cell HC.out 0 rfl
      have q1 := blk_cell HC.out 1 rfl
      have q2 := blk_cell HC.out 2 rfl
      have q3 := blk_cell HC.out 3 rfl
      have q4 := blk_cell HC.out 4 rfl
      refine bodyPost_ret (v := .agg #[.slice sa s.stocks.length sc, .slice ma s.made.length mc, .slice pa2 pn pc, .int .i64 s.fails, .int .i64 s.full]) (by simp [results, Try.results49, go_sem, q0, q1, q2, q3, q4]) rfl ?_
      rw [← hs.out]
      exact HO.out
theorem play_any (stock store : Int) (a : Option Addr) (n cap : Nat) (an : Option Addr) (N : List Int) (cn : Nat) (am : Option Addr) (M : List Int) (cm : Nat) (al : Option Addr) (L : List Int) (cl : Nat) (w : World)
    (hN : IntSl w an N) (hM : IntSl w am M) (hL : IntSl w al L) (hNn : N.length = n) (hMn : M.length = n) (hLn : L.length = n) (hn : n ≤ 60) (hst : 0 ≤ stock ∧ stock ≤ store ∧ store ≤ 1000000)
    (hb : (∀ x ∈ N, 0 ≤ x ∧ x ≤ 100000) ∧ (∀ x ∈ M, 0 ≤ x ∧ x ≤ 100000) ∧ (∀ x ∈ L, 0 ≤ x ∧ x ≤ 100000)) :
    Calls Try.prog 49 #[sv stock store a n cap an n cn am n cm al n cl] w (OutTale w (playL stock store N M L n)) :=
  (play_fresh stock store a n cap an N cn am M cm al L cl w hN hM hL hNn hMn hLn hn hst hb).mono fun _ _ h => h.tale
def worstL (stock store : Int) (ds : List Dy) : Ps := playL stock store (ds.map fun d => d.need.hi) (ds.map fun d => d.make.lo) (ds.map fun d => d.loss.hi) ds.length
theorem bounded_ok {s : Sp} {m : Int} (h : boundedB s m = true) : 0 ≤ s.lo ∧ s.lo ≤ s.hi ∧ s.hi ≤ m := by
  simp [boundedB] at h; exact h
def DayOk (d : Dy) : Prop := (0 ≤ d.need.lo ∧ d.need.lo ≤ d.need.hi ∧ d.need.hi ≤ 100000) ∧ (0 ≤ d.make.lo ∧ d.make.lo ≤ d.make.hi ∧ d.make.hi ≤ 100000) ∧ (0 ≤ d.loss.lo ∧ d.loss.lo ≤ d.loss.hi ∧ d.loss.hi ≤ 100000)
theorem win_ok {stock store : Int} {ds : List Dy} (h : winE stock store ds = 0) : (0 ≤ stock ∧ stock ≤ store ∧ 1 ≤ store ∧ store ≤ 1000000) ∧ (1 ≤ ds.length ∧ ds.length ≤ 60) ∧ ∀ d ∈ ds, DayOk d := by
  unfold winE at h
  split at h
  · rename_i h1
    split at h
    · rename_i h2
      split at h
      · rename_i h3
        split at h
        · rename_i h4
          simp [withinB] at h1 h2 h3
          refine ⟨⟨h2.1, h2.2, h1.1, h1.2⟩, by omega, fun d hd => ?_⟩
          have := List.all_eq_true.1 h4 d hd
          simp only [dayB, Bool.and_eq_true] at this
          exact ⟨bounded_ok this.1, bounded_ok this.2.1, bounded_ok this.2.2⟩
        · simp at h
      · simp at h
    · simp at h
  · simp at h
theorem worst_bd {ds : List Dy} (h : ∀ d ∈ ds, DayOk d) : (∀ x ∈ ds.map (fun d => d.need.hi), 0 ≤ x ∧ x ≤ 100000) ∧ (∀ x ∈ ds.map (fun d => d.make.lo), 0 ≤ x ∧ x ≤ 100000) ∧ (∀ x ∈ ds.map (fun d => d.loss.hi), 0 ≤ x ∧ x ≤ 100000) := by
  refine ⟨fun x hx => ?_, fun x hx => ?_, fun x hx => ?_⟩ <;> obtain ⟨d, hd, rfl⟩ := List.mem_map.1 hx <;> obtain ⟨h1, h2, h3⟩ := h d hd <;> constructor <;> omega
/-- play of the worst weather's spell. -/
theorem play_worst {stock store : Int} {a : Option Addr} {ds : List Dy} {cap : Nat} {an am al : Option Addr} {cn cm cl : Nat} {w : World} (hN : IntSl w an (ds.map fun d => d.need.hi)) (hM : IntSl w am (ds.map fun d => d.make.lo)) (hL : IntSl w al (ds.map fun d => d.loss.hi))
    (hn : ds.length ≤ 60) (hst : 0 ≤ stock ∧ stock ≤ store ∧ store ≤ 1000000) (hd : ∀ d ∈ ds, DayOk d) :
    Calls Try.prog 49 #[sv stock store a ds.length cap an ds.length cn am ds.length cm al ds.length cl] w (OutTale w (worstL stock store ds)) :=
  play_any stock store a ds.length cap an _ cn am _ cm al _ cl w hN hM hL (by simp) (by simp) (by simp) hn hst (worst_bd hd)
theorem span_any (lo hi : Int) (w : World) : Calls Try.prog 39 #[.int .i64 lo, .int .i64 hi] w fun e w' => e = .returned (.agg #[.int .i64 lo, .int .i64 hi]) ∧ w.alloc (.cells #[.int .i64 lo, .int .i64 hi] 87) = w' := by
  go_enter Try.func39, Try.ntmps39
  go_wp2
  refine bodyPost_ret (v := .agg #[.int .i64 lo, .int .i64 hi]) (by simp [results, Try.results39, go_sem]) rfl ?_
  exact ⟨rfl, rfl⟩
def shortL (need : Int) : List Dy := [⟨⟨300, 300⟩, ⟨100, 200⟩, ⟨10, 20⟩⟩, ⟨⟨200, 400⟩, ⟨300, 600⟩, ⟨10, 20⟩⟩, ⟨⟨if 500 < need then 500 else need, need⟩, ⟨0, 100⟩, ⟨10, 20⟩⟩]
/-- A block of integers, read as elements of so many each. -/
theorem Sl.of_block {α : Type} {sz : Nat} {cells : α → List Int} {W : World} {B : Nat} {xs : List α} {cur : Array Value} {t : TypeId} (h : W.heap[B]? = some (.cells cur t (0, 0))) (hc : ∀ (j : Nat) (x : α) (i : Nat) (u : Int), xs[j]? = some x → (cells x)[i]? = some u → cur[j * sz + i]? = some (Value.int .i64 u)) : Sl sz cells W (some ⟨B, 0, none⟩) xs :=
  fun _ => ⟨B, 0, rfl, lt_of_block h, fun j x i u hx hu => by rw [Nat.zero_add]; exact blk_cell h _ (hc j x i u hx hu)⟩
def OutShort (w : World) (need : Int) (e : Ending) (w' : World) : Prop := ∃ a, e = .returned (wv 500 800 a 3 3) ∧ Sl 6 Dy.cells w' a (shortL need) ∧ Below w.heap.size w w'
set_option maxRecDepth 100000 in
set_option maxHeartbeats 1000000 in
theorem short_any (need : Int) (w : World) : Calls Try.prog 26 #[.int .i64 need] w (OutShort w need) := by
  go_enter Try.func26, Try.ntmps26
  go_wp2_with (first | (go_at_call 39; refine (span_any _ _ _).mono ?_; rintro e w' ⟨rfl, rfl⟩))
  · have h2 := h
    generalize hWf : World.alloc _ _ = Wf
    have h0 : Wf.heap[w.heap.size]? = some (.cells #[.int .i64 500, .int .i64 800, .slice (some ⟨w.heap.size + 1 + 1 + 1 + 1 + 1 + 1 + 1 + 1 + 1 + 1, 0, none⟩) 3 3] 66 (0, 0)) := by rw [← hWf]; exact alk (alk (alk (alk (alk (alk (alk (alk (alk (alk (heap_alloc_new w _))))))))))
    have h1 : Wf.heap[w.heap.size + 1 + 1 + 1 + 1 + 1 + 1 + 1 + 1 + 1 + 1]? = some (.cells #[.int .i64 300, .int .i64 300, .int .i64 100, .int .i64 200, .int .i64 10, .int .i64 20, .int .i64 200, .int .i64 400, .int .i64 300, .int .i64 600, .int .i64 10, .int .i64 20, .int .i64 500, .int .i64 need, .int .i64 0, .int .i64 100, .int .i64 10, .int .i64 20] 90 (0, 0)) := by rw [← hWf]; exact new_at (by simp)
    have hb : Below w.heap.size w Wf := by rw [← hWf]; repeat (first | exact Below.refl _ _ | refine Below.alloc ?_ (by simp <;> omega) _)
    clear hWf
    have q0 := blk_cell h0 0 rfl
    have q1 := blk_cell h0 1 rfl
    have q2 := blk_cell h0 2 rfl
    refine bodyPost_ret (v := wv 500 800 (some ⟨w.heap.size + 1 + 1 + 1 + 1 + 1 + 1 + 1 + 1 + 1 + 1, 0, none⟩) 3 3) (by simp [results, Try.results26, go_sem, q0, q1, q2]) rfl ?_
    refine ⟨_, rfl, Sl.of_block h1 ?_, hb⟩
    intro j x i u hx hu
    rcases j with _ | _ | _ | j
    all_goals simp [shortL, h2] at hx
    all_goals subst hx
    all_goals (rcases i with _ | _ | _ | _ | _ | _ | i <;> simp [Dy.cells] at hu <;> subst hu <;> rfl)
  · skip
    have h2 : ¬ 500 < need := by omega
    generalize hWf : World.alloc _ _ = Wf
    have h0 : Wf.heap[w.heap.size]? = some (.cells #[.int .i64 500, .int .i64 800, .slice (some ⟨w.heap.size + 1 + 1 + 1 + 1 + 1 + 1 + 1 + 1 + 1 + 1, 0, none⟩) 3 3] 66 (0, 0)) := by rw [← hWf]; exact alk (alk (alk (alk (alk (alk (alk (alk (alk (alk (heap_alloc_new w _))))))))))
    have h1 : Wf.heap[w.heap.size + 1 + 1 + 1 + 1 + 1 + 1 + 1 + 1 + 1 + 1]? = some (.cells #[.int .i64 300, .int .i64 300, .int .i64 100, .int .i64 200, .int .i64 10, .int .i64 20, .int .i64 200, .int .i64 400, .int .i64 300, .int .i64 600, .int .i64 10, .int .i64 20, .int .i64 need, .int .i64 need, .int .i64 0, .int .i64 100, .int .i64 10, .int .i64 20] 90 (0, 0)) := by rw [← hWf]; exact new_at (by simp)
    have hb : Below w.heap.size w Wf := by rw [← hWf]; repeat (first | exact Below.refl _ _ | refine Below.alloc ?_ (by simp <;> omega) _)
    clear hWf
    have q0 := blk_cell h0 0 rfl
    have q1 := blk_cell h0 1 rfl
    have q2 := blk_cell h0 2 rfl
    refine bodyPost_ret (v := wv 500 800 (some ⟨w.heap.size + 1 + 1 + 1 + 1 + 1 + 1 + 1 + 1 + 1 + 1, 0, none⟩) 3 3) (by simp [results, Try.results26, go_sem, q0, q1, q2]) rfl ?_
    refine ⟨_, rfl, Sl.of_block h1 ?_, hb⟩
    intro j x i u hx hu
    rcases j with _ | _ | _ | j
    all_goals simp [shortL, h2] at hx
    all_goals subst hx
    all_goals (rcases i with _ | _ | _ | _ | _ | _ | i <;> simp [Dy.cells] at hu <;> subst hu <;> rfl)
def failR (stock store : Int) (ds : List Dy) : Int × Int × Int := if winE stock store ds = 0 then (if (worstL stock store ds).fails = -1 then (0, 0, 6) else ((worstL stock store ds).fails, (worstL stock store ds).full, 0)) else (0, 0, winE stock store ds)
def OutFail (w : World) (x : Int × Int × Int) (e : Ending) (w' : World) : Prop := ∃ (a b c : Option Addr) (n1 c1 n2 c2 n3 c3 : Nat), e = .returned (.tuple #[.agg #[.slice a n1 c1, .slice b n2 c2, .slice c n3 c3, .int .i64 x.1, .int .i64 x.2.1], .int .i64 x.2.2]) ∧ Below w.heap.size w w'
/-- What stands below a world past which little has happened. -/
theorem below_past {X Y w2 : World} (hb : Below Y.heap.size Y w2) (h1 : Y.os = X.os) (h2 : Y.tape = X.tape) (h3 : Y.output = X.output) (h4 : X.heap.size ≤ Y.heap.size) (h5 : ∀ k, k < X.heap.size → Y.heap[k]? = X.heap[k]?) : Below X.heap.size X w2 :=
  ⟨hb.os.trans h1, hb.tape.trans h2, hb.output.trans h3, Nat.le_trans h4 hb.size, fun k hk => (hb.block k (Nat.lt_of_lt_of_le hk h4)).trans (h5 k hk)⟩
theorem past_drew {X w2 : World} (hb : Below X.drew.heap.size X.drew w2) : Below X.heap.size X w2 := below_past hb rfl rfl rfl (Nat.le_refl _) (fun _ _ => rfl)
theorem past_alloc {X w2 : World} {o : Obj} (hb : Below (X.drew.alloc o).heap.size (X.drew.alloc o) w2) : Below X.heap.size X w2 ∧ w2.heap[X.heap.size]? = some o := ⟨below_past hb rfl rfl rfl (by simp) (fun k hk => Below.heap_alloc X.drew o k hk), blk_below (heap_alloc_new X.drew o) hb⟩
theorem past_alloc' {X w2 : World} {o : Obj} (hb : Below (X.alloc o).heap.size (X.alloc o) w2) : Below X.heap.size X w2 ∧ w2.heap[X.heap.size]? = some o := ⟨below_past hb rfl rfl rfl (by simp) (fun k hk => Below.heap_alloc X o k hk), blk_below (heap_alloc_new X o) hb⟩
theorem tale_new {w W : World} (hb : Below w.heap.size w W) {k : Nat} {o0 : Obj} (h : W.heap[k]? = some o0) (o : Obj) : Below w.heap.size w (W.alloc o) ∧ (W.alloc o).heap[W.heap.size]? = some o ∧ (W.alloc o).heap[k]? = some o0 :=
  ⟨hb.alloc hb.size o, heap_alloc_new W o, alk h⟩
set_option maxRecDepth 100000 in
set_option maxHeartbeats 1000000 in
theorem failing_any (stock store : Int) (a : Option Addr) (ds : List Dy) (cap : Nat) (w : World) (hx : Sl 6 Dy.cells w a ds) (hl : ds.length ≤ 1000000) :
    Calls Try.prog 38 #[wv stock store a ds.length cap] w (OutFail w (failR stock store ds)) := by
  have HX := Lib.hid (And.intro hx hl)
  clear hx hl
  obtain ⟨Wa, hWa⟩ : ∃ Wa, (w.alloc (.cells #[.int .i64 stock, .int .i64 store, .slice a ds.length cap] 66)).alloc (.cells #[.slice none 0 0, .slice none 0 0, .slice none 0 0, .int .i64 0, .int .i64 0] 83) = Wa := ⟨_, rfl⟩
  have hba : Below w.heap.size w Wa := by rw [← hWa]; exact ((Below.refl _ _).alloc (Nat.le_refl _) _).alloc (by simp) _
  have h0 : Wa.heap[w.heap.size]? = some (.cells #[.int .i64 stock, .int .i64 store, .slice a ds.length cap] 66 (0, 0)) := by rw [← hWa]; exact alk (new_at rfl)
  have h1 : Wa.heap[w.heap.size + 1]? = some (.cells #[.slice none 0 0, .slice none 0 0, .slice none 0 0, .int .i64 0, .int .i64 0] 83 (0, 0)) := by rw [← hWa]; exact new_at (by simp)
  have a0 := blk_cell h0 0 rfl
  have a1 := blk_cell h0 1 rfl
  have a2 := blk_cell h0 2 rfl
  go_enter Try.func38, Try.ntmps38
  go_wp2_with (fail)
  clear hWa a0 a1 a2
  refine (checkWinter_any stock store a ds cap _ (HX.out.1.below hba) HX.out.2).mono ?_
  rintro e w1 ⟨rfl, hb1⟩
  have H1 := Lib.hid (And.intro (below_self hba hb1) (And.intro (blk_below h0 hb1) (blk_below h1 hb1)))
  clear hba h0 h1 hb1
  by_cases hw : winE stock store ds = 0
  · have hwb : (winE stock store ds != 0) = false := by simp [hw]
    have HW := Lib.hid hw
    clear hw
    have c0 := blk_cell H1.out.2.1 0 rfl
    have c1 := blk_cell H1.out.2.1 1 rfl
    have c2 := blk_cell H1.out.2.1 2 rfl
    obtain ⟨b1, b2, b3⟩ := win_ok HW.out
    have HOK := Lib.hid (And.intro b1 (And.intro b2 b3))
    clear b1 b2 b3
    have n1 : w1.heap.size ≠ w.heap.size := Nat.ne_of_gt (lt_of_block H1.out.2.1)
    go_wp2_with (fail)
    go_region_held3 (fun w' => w'.cell? ⟨w.heap.size, 0, none⟩ = some (.int .i64 stock) ∧ w'.cell? ⟨w.heap.size, 1, none⟩ = some (.int .i64 store) ∧ w'.cell? ⟨w.heap.size, 2, none⟩ = some (.slice a ds.length cap)) (go_keep)
      (first
        | (go_at_call 49
           refine (play_worst (by first | exact H3.out.2.2.2.1 | exact H3.out.2.2.2.1.below ((Below.refl _ _).alloc (Nat.le_refl _) _)) (by first | exact H3.out.2.2.2.2.1 | exact H3.out.2.2.2.2.1.below ((Below.refl _ _).alloc (Nat.le_refl _) _)) (by first | exact H3.out.2.2.2.2.2 | exact H3.out.2.2.2.2.2.below ((Below.refl _ _).alloc (Nat.le_refl _) _)) HOK.out.2.1.2 ⟨HOK.out.1.1, HOK.out.1.2.1, HOK.out.1.2.2.2⟩ HOK.out.2.2).mono ?_
           rintro e w4 ⟨sa, sc, ma, mc, pa, pn, pc, rfl, hs, hm, hb4⟩
           first
             | (have K4 : Hid (Below w3.heap.size w3 w4) := hb4
                try (have TT' := Lib.hid (blk_below TT.out K4.out); clear TT t0 u0 t1 u1 t2 u2 t3 u3 t4 u4; have TT := TT'; clear TT'; have t0 := blk_cell TT.out 0 rfl; have u0 := blk_free (j := 0) TT.out; have t1 := blk_cell TT.out 1 rfl; have u1 := blk_free (j := 1) TT.out; have t2 := blk_cell TT.out 2 rfl; have u2 := blk_free (j := 2) TT.out; have t3 := blk_cell TT.out 3 rfl; have u3 := blk_free (j := 3) TT.out; have t4 := blk_cell TT.out 4 rfl; have u4 := blk_free (j := 4) TT.out))
             | (have K4' := past_alloc' (X := w3) (o := .cells #[.slice none 0 0, .slice none 0 0, .slice none 0 0, .int .i64 0, .int .i64 0] 83) hb4; have K4 := Lib.hid K4'.1; have TT := Lib.hid K4'.2; clear K4'; have t0 := blk_cell TT.out 0 rfl; have u0 := blk_free (j := 0) TT.out; have t1 := blk_cell TT.out 1 rfl; have u1 := blk_free (j := 1) TT.out; have t2 := blk_cell TT.out 2 rfl; have u2 := blk_free (j := 2) TT.out; have t3 := blk_cell TT.out 3 rfl; have u3 := blk_free (j := 3) TT.out; have t4 := blk_cell TT.out 4 rfl; have u4 := blk_free (j := 4) TT.out)
           have H4 := Lib.hid (And.intro (below_self H3.out.1 K4.out) (And.intro (blk_below H3.out.2.1 K4.out) (blk_below H3.out.2.2.1 K4.out)))
           clear hs hm hb4 K4 e0 e1 e2
           have n4 : w4.heap.size ≠ w.heap.size := Nat.ne_of_gt (lt_of_block H4.out.2.1); have e0 := blk_cell H4.out.2.1 0 rfl; have e1 := blk_cell H4.out.2.1 1 rfl; have e2 := blk_cell H4.out.2.1 2 rfl)
        | (go_at_call 48
           refine (spell_any 66 67 66 Sp.hi Sp.lo Sp.hi high_f low_f high_f stock store a ds cap _ (by first | exact HX.out.1.below H2.out.1 | exact HX.out.1.below (H2.out.1.alloc H2.out.1.size _)) HX.out.2).mono ?_
           rintro e w3 ⟨⟨an, cn, am, cm, al, cl, rfl, hN, hM, hL, hb3⟩⟩
           first
             | (have K3 : Hid (Below w2.heap.size w2 w3) := hb3
                try (have TT' := Lib.hid (blk_below TT.out K3.out); clear TT t0 u0 t1 u1 t2 u2 t3 u3 t4 u4; have TT := TT'; clear TT'; have t0 := blk_cell TT.out 0 rfl; have u0 := blk_free (j := 0) TT.out; have t1 := blk_cell TT.out 1 rfl; have u1 := blk_free (j := 1) TT.out; have t2 := blk_cell TT.out 2 rfl; have u2 := blk_free (j := 2) TT.out; have t3 := blk_cell TT.out 3 rfl; have u3 := blk_free (j := 3) TT.out; have t4 := blk_cell TT.out 4 rfl; have u4 := blk_free (j := 4) TT.out))
             | (have K3' := past_alloc' (X := w2) (o := .cells #[.slice none 0 0, .slice none 0 0, .slice none 0 0, .int .i64 0, .int .i64 0] 83) hb3; have K3 := Lib.hid K3'.1; have TT := Lib.hid K3'.2; clear K3'; have t0 := blk_cell TT.out 0 rfl; have u0 := blk_free (j := 0) TT.out; have t1 := blk_cell TT.out 1 rfl; have u1 := blk_free (j := 1) TT.out; have t2 := blk_cell TT.out 2 rfl; have u2 := blk_free (j := 2) TT.out; have t3 := blk_cell TT.out 3 rfl; have u3 := blk_free (j := 3) TT.out; have t4 := blk_cell TT.out 4 rfl; have u4 := blk_free (j := 4) TT.out)
           have H3 := Lib.hid (And.intro (below_self H2.out.1 K3.out) (And.intro (blk_below H2.out.2.1 K3.out) (And.intro (blk_below H2.out.2.2 K3.out) (And.intro hN (And.intro hM hL)))))
           clear hN hM hL hb3 K3 d0 d1 d2
           have n3 : w3.heap.size ≠ w.heap.size := Nat.ne_of_gt (lt_of_block H3.out.2.1); have e0 := blk_cell H3.out.2.1 0 rfl; have e1 := blk_cell H3.out.2.1 1 rfl; have e2 := blk_cell H3.out.2.1 2 rfl)
        | (go_at_call 47
           refine (worst_any _).mono ?_
           rintro e w2 ⟨rfl, hb2⟩
           first
             | (have K2 := Lib.hid (past_drew (X := w1) hb2))
             | (have K2' := past_alloc (X := w1) (o := .cells #[.slice none 0 0, .slice none 0 0, .slice none 0 0, .int .i64 0, .int .i64 0] 83) hb2; have K2 := Lib.hid K2'.1; have TT := Lib.hid K2'.2; clear K2'; have t0 := blk_cell TT.out 0 rfl; have u0 := blk_free (j := 0) TT.out; have t1 := blk_cell TT.out 1 rfl; have u1 := blk_free (j := 1) TT.out; have t2 := blk_cell TT.out 2 rfl; have u2 := blk_free (j := 2) TT.out; have t3 := blk_cell TT.out 3 rfl; have u3 := blk_free (j := 3) TT.out; have t4 := blk_cell TT.out 4 rfl; have u4 := blk_free (j := 4) TT.out)
           have H2 := Lib.hid (And.intro (below_self H1.out.1 K2.out) (And.intro (blk_below H1.out.2.1 K2.out) (blk_below H1.out.2.2 K2.out)))
           clear hb2 K2 c0 c1 c2
           have n2 : w2.heap.size ≠ w.heap.size := Nat.ne_of_gt (lt_of_block H2.out.2.1); have d0 := blk_cell H2.out.2.1 0 rfl; have d1 := blk_cell H2.out.2.1 1 rfl; have d2 := blk_cell H2.out.2.1 2 rfl))
    all_goals (
      have k1 := lt_of_block H1.out.2.2
      have k2 := lt_of_block H2.out.2.2
      have k3 := lt_of_block H3.out.2.2.1
      have k4 := lt_of_block H4.out.2.2
      have HZ0 : Hid (∃ T : Nat, True) := ⟨0, trivial⟩
      first
        | (obtain ⟨p1, p2, p3, _⟩ := five_put (v0 := .slice sa (worstL stock store ds).stocks.length sc) (v1 := .slice ma (worstL stock store ds).made.length mc) (v2 := .slice pa pn pc) (v3 := .int .i64 (worstL stock store ds).fails) (v4 := .int .i64 (worstL stock store ds).full) TT.out (show w.heap.size ≤ _ by omega) H4.out.1
           have HZ := Lib.hid (And.intro p1 (And.intro p2 ((p3 (w.heap.size + 1) (by omega)).trans H4.out.2.2)))
           clear p1 p2 p3
           revert HZ
           generalize World.setCell _ _ _ = W5
           intro HZ)
        | (have HZ := Lib.hid (tale_new H4.out.1 H4.out.2.2 (.cells #[.slice sa (worstL stock store ds).stocks.length sc, .slice ma (worstL stock store ds).made.length mc, .slice pa pn pc, .int .i64 (worstL stock store ds).fails, .int .i64 (worstL stock store ds).full] 83))
           revert HZ
           generalize World.alloc _ _ = W5
           intro HZ)
      clear k1 k2 k3 k4 HZ0 e0 e1 e2 n1 n2 n3 n4
      have x0 := blk_cell HZ.out.2.1 0 rfl
      have x1 := blk_cell HZ.out.2.1 1 rfl
      have x2 := blk_cell HZ.out.2.1 2 rfl
      have x3 := blk_cell HZ.out.2.1 3 rfl
      have x4 := blk_cell HZ.out.2.1 4 rfl
      have z0 := blk_cell HZ.out.2.2 0 rfl
      have z1 := blk_cell HZ.out.2.2 1 rfl
      have z2 := blk_cell HZ.out.2.2 2 rfl
      have z3 := blk_cell HZ.out.2.2 3 rfl
      have z4 := blk_cell HZ.out.2.2 4 rfl
      have y0 := blk_free (j := 0) HZ.out.2.2
      have y1 := blk_free (j := 1) HZ.out.2.2
      have y2 := blk_free (j := 2) HZ.out.2.2
      have y3 := blk_free (j := 3) HZ.out.2.2
      have y4 := blk_free (j := 4) HZ.out.2.2
      by_cases hf : (worstL stock store ds).fails = -1
      · have hfb : ((worstL stock store ds).fails == -1) = true := by simp [hf]
        have HR : Hid (failR stock store ds = (0, 0, 6)) := by show _ = _; rw [failR, if_pos HW.out, if_pos hf]
        clear hf
        go_wp2_with (fail)
        obtain ⟨p1, p2, p3, p4⟩ := five_put (v0 := .slice none 0 0) (v1 := .slice none 0 0) (v2 := .slice none 0 0) (v3 := .int .i64 0) (v4 := .int .i64 0) HZ.out.2.2 (show w.heap.size ≤ w.heap.size + 1 by omega) HZ.out.1
        have q0 := blk_cell p2 0 rfl
        have q1 := blk_cell p2 1 rfl
        have q2 := blk_cell p2 2 rfl
        have q3 := blk_cell p2 3 rfl
        have q4 := blk_cell p2 4 rfl
        refine bodyPost_ret (v := .tuple #[.agg #[.slice none 0 0, .slice none 0 0, .slice none 0 0, .int .i64 0, .int .i64 0], .int .i64 6]) (by simp [results, Try.results38, go_sem, q0, q1, q2, q3, q4]) rfl ?_
        rw [HR.out]
        exact ⟨none, none, none, 0, 0, 0, 0, 0, 0, rfl, p1⟩
      · have hfb : ((worstL stock store ds).fails == -1) = false := by simp [hf]
        have HR : Hid (failR stock store ds = ((worstL stock store ds).fails, (worstL stock store ds).full, 0)) := by show _ = _; rw [failR, if_pos HW.out, if_neg hf]
        clear hf
        go_wp2_with (fail)
        obtain ⟨p1, p2, p3, p4⟩ := five_put (v0 := .slice sa (worstL stock store ds).stocks.length sc) (v1 := .slice ma (worstL stock store ds).made.length mc) (v2 := .slice pa pn pc) (v3 := .int .i64 (worstL stock store ds).fails) (v4 := .int .i64 (worstL stock store ds).full) HZ.out.2.2 (show w.heap.size ≤ w.heap.size + 1 by omega) HZ.out.1
        have q0 := blk_cell p2 0 rfl
        have q1 := blk_cell p2 1 rfl
        have q2 := blk_cell p2 2 rfl
        have q3 := blk_cell p2 3 rfl
        have q4 := blk_cell p2 4 rfl
        refine bodyPost_ret (v := .tuple #[.agg #[.slice sa (worstL stock store ds).stocks.length sc, .slice ma (worstL stock store ds).made.length mc, .slice pa pn pc, .int .i64 (worstL stock store ds).fails, .int .i64 (worstL stock store ds).full], .int .i64 0]) (by simp [results, Try.results38, go_sem, q0, q1, q2, q3, q4]) rfl ?_
        rw [HR.out]
        exact ⟨sa, ma, pa, _, sc, _, mc, pn, pc, rfl, p1⟩)
  · have hwb : (winE stock store ds != 0) = true := by simp [hw]
    have HR : Hid (failR stock store ds = (0, 0, winE stock store ds)) := by show _ = _; rw [failR, if_neg hw]
    clear hw
    have z0 := blk_cell H1.out.2.2 0 rfl
    have z1 := blk_cell H1.out.2.2 1 rfl
    have z2 := blk_cell H1.out.2.2 2 rfl
    have z3 := blk_cell H1.out.2.2 3 rfl
    have z4 := blk_cell H1.out.2.2 4 rfl
    have y0 := blk_free (j := 0) H1.out.2.2
    have y1 := blk_free (j := 1) H1.out.2.2
    have y2 := blk_free (j := 2) H1.out.2.2
    have y3 := blk_free (j := 3) H1.out.2.2
    have y4 := blk_free (j := 4) H1.out.2.2
    go_wp2_with (fail)
    obtain ⟨p1, p2, p3, p4⟩ := five_put (v0 := .slice none 0 0) (v1 := .slice none 0 0) (v2 := .slice none 0 0) (v3 := .int .i64 0) (v4 := .int .i64 0) H1.out.2.2 (show w.heap.size ≤ w.heap.size + 1 by omega) H1.out.1
    have q0 := blk_cell p2 0 rfl
    have q1 := blk_cell p2 1 rfl
    have q2 := blk_cell p2 2 rfl
    have q3 := blk_cell p2 3 rfl
    have q4 := blk_cell p2 4 rfl
    refine bodyPost_ret (v := .tuple #[.agg #[.slice none 0 0, .slice none 0 0, .slice none 0 0, .int .i64 0, .int .i64 0], .int .i64 (winE stock store ds)]) (by simp [results, Try.results38, go_sem, q0, q1, q2, q3, q4]) rfl ?_
    rw [HR.out]
    exact ⟨none, none, none, 0, 0, 0, 0, 0, 0, rfl, p1⟩
set_option maxRecDepth 100000 in
set_option maxHeartbeats 600000 in
theorem First_any (stock store : Int) (a : Option Addr) (ds : List Dy) (cap : Nat) (w : World) (hx : Sl 6 Dy.cells w a ds) (hl : ds.length ≤ 1000000) :
    Calls Try.prog 25 #[wv stock store a ds.length cap] w fun e w' => e = .returned (.tuple #[.int .i64 (failR stock store ds).1, .int .i64 (failR stock store ds).2.2]) ∧ Below w.heap.size w w' := by
  have HX := Lib.hid (And.intro hx hl)
  clear hx hl
  generalize hF : failR stock store ds = x
  have HF := Lib.hid hF
  clear hF
  obtain ⟨Wa, hWa⟩ : ∃ Wa, w.alloc (.cells #[.int .i64 stock, .int .i64 store, .slice a ds.length cap] 66) = Wa := ⟨_, rfl⟩
  have hba : Below w.heap.size w Wa := by rw [← hWa]; exact (Below.refl _ _).alloc (Nat.le_refl _) _
  have h0 : Wa.heap[w.heap.size]? = some (.cells #[.int .i64 stock, .int .i64 store, .slice a ds.length cap] 66 (0, 0)) := by rw [← hWa]; exact new_at rfl
  have a0 := blk_cell h0 0 rfl
  have a1 := blk_cell h0 1 rfl
  have a2 := blk_cell h0 2 rfl
  go_enter Try.func25, Try.ntmps25
  go_wp2_with (fail)
  clear hWa a0 a1 a2
  have HC := failing_any stock store a ds cap Wa (HX.out.1.below hba) HX.out.2
  rw [HF.out] at HC
  refine HC.mono ?_
  rintro e w1 ⟨ta, tb, tc, n1, c1, n2, c2, n3, c3, rfl, hb1⟩
  have H1 := Lib.hid (below_self hba hb1)
  clear hba h0 hb1 HC
  go_wp2_with (fail)
  go_ret2
  exact ⟨rfl, H1.out.alloc H1.out.size _⟩
theorem fail_short : (failR 500 800 (shortL 500)).1 = 2 ∧ (failR 500 800 (shortL 500)).2.2 = 0 := ⟨by kernel_rfl, by kernel_rfl⟩
theorem first_short_any (a : Option Addr) (w : World) (hx : Sl 6 Dy.cells w a (shortL 500)) : Calls Try.prog 25 #[wv 500 800 a 3 3] w fun e w' => e = .returned (.tuple #[.int .i64 2, .int .i64 0]) ∧ Below w.heap.size w w' := by
  have h := First_any 500 800 a (shortL 500) 3 w hx (by decide)
  rw [fail_short.1, fail_short.2] at h
  exact h
end Go.Proofs.Ytiggelffmfinoaa
