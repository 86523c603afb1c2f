/-
The contracts of every over lists, and of checkWeather, over this seat's program.
  What is proved: checkWeather answers the error of a weather; nothing that was there before has turned.
  Conditions: a winter of at most 60 days; lists of at most 1000000 numbers.
The contracts of told, Stocks, Fails, Made, Worst and Why over this seat's program.
  What is proved: each answers what happens in a weather, or the error; nothing that was there before has turned.
  Conditions: a winter of at most 60 days; lists of at most 1000000 numbers.
-/
import Derived.Test.YtpkegiekpnaejaaPart11
import Derived.Deep.DeepCutAuto
import Derived.Deep.RegionLaw
namespace Go.Proofs.Ytpkegiekpnaejaa
open Go.RowKit Go.Shelf
attribute [local go_sem] Oper.semAt_some

/-- A list of lists, of which only the lengths are told. -/
def LensAt (w : World) (a : Option Addr) (ls : List Nat) : Prop := 0 < ls.length → ∃ b off, a = some ⟨b, off, none⟩ ∧ b < w.heap.size ∧ ∀ (j l : Nat), ls[j]? = some l → ∃ (x : Option Addr) (c : Nat), w.cell? ⟨b, off + j, none⟩ = some (.slice x l c)

set_option maxHeartbeats 1000000 in
theorem every_list (a : Option Addr) (xs : List Nat) (cap g : Nat) (lb : Array Value) (p : Nat → Bool) (w : World) (hx : LensAt w a xs) (hl : xs.length ≤ 1000000)
    (eg : ∀ args w, (callFunc g args).run Try.prog w = .ok (.enter g args) w)
    (hg : ∀ (x : Option Addr) (l c : Nat) (W : World), Below w.heap.size w W → Calls Try.prog g (#[.slice x l c] ++ lb) W fun e W' => e = .returned (.bool (p l)) ∧ Below W.heap.size W W') :
    Calls Try.prog 146 #[.slice a xs.length cap, .func (.func g) #[] lb] w fun e w' => e = .returned (.bool (xs.all p)) ∧ Below w.heap.size w w' := by
  have Hg := Lib.hid hg
  clear hg
  go_enter Try.func146, Try.ntmps146
  go_wp2
  go_loopw [9] (fun i wr => ∃ k : Nat, k ≤ xs.length ∧ i = .int .i64 k ∧ Hid ((xs.take k).all p = true) ∧ Below w.heap.size w wr) (fun i _ => xs.length - (intOf i).toNat)
  case atStart => exact ⟨0, Nat.zero_le _, rfl, by simp [Hid], Below.refl _ _⟩
  case round =>
    obtain ⟨k, hk, rfl, hall, hbw⟩ := hrel
    by_cases hlt : k < xs.length
    · obtain ⟨b, off, rfl, hbs, hc⟩ := hx (by omega)
      obtain ⟨x, c, hcx⟩ := hc k _ (List.getElem?_eq_getElem hlt)
      have hck := (hbw.cell (p := ⟨b, off + k, none⟩) hbs).trans hcx
      clear hc hcx
      go_wp2_with fail
      refine (Hg.out x xs[k] c _ (hbw)).mono ?_
      rintro e w1 ⟨rfl, hb1⟩
      have hb2 := below_self (hbw) hb1
      clear hbw hck hb1
      cases hp : p xs[k]
      · have HF := Lib.hid (all_false p xs k hlt hp)
        clear hp
        go_wp2
        go_ret
        exact ⟨by rw [HF.out]; rfl, hb2⟩
      · have HF := Lib.hid ((all_take_succ p xs k hlt).trans (by rw [hall.out, hp]))
        clear hp hall
        go_wp2
        go_roundw
        case rel => exact ⟨k + 1, by omega, by go_num, HF, hb2⟩
        case measure => simp [intOf]; omega
    · have : k = xs.length := by omega
      subst this
      rw [List.take_length] at hall
      go_wp2
      go_ret
      exact ⟨by rw [hall.out]; rfl, hbw⟩

theorem eg147 : ∀ args w, (callFunc 147 args).run Try.prog w = .ok (.enter 147 args) w := enters_of Try.func147 (by kernel_rfl) rfl
set_option maxHeartbeats 400000 in
theorem checkWeather1_any (x : Option Addr) (l c B n : Nat) (v0 v1 : Value) (a : Option Addr) (cap : Nat) (w : World) (h : w.heap[B]? = some (.cells #[v0, v1, .slice a n cap] 60 (0, 0))) (_hl : n ≤ 1000000) :
    Calls Try.prog 147 #[.slice x l c, .pointer (some ⟨B, 0, none⟩)] w fun e w' => e = .returned (.bool (decide (l = n))) ∧ Below w.heap.size w w' := by
  have c2 := blk_cell h 2 rfl
  go_enter Try.func147, Try.ntmps147
  go_wp2
  go_ret
  refine ⟨?_, Below.refl _ _⟩
  have e : ((l : Int) == (n : Int)) = decide (l = n) := by rw [Bool.eq_iff_iff]; simp only [beq_iff_eq, decide_eq_true_eq]; exact ⟨fun h => by omega, fun h => by omega⟩
  show Ending.returned (Value.bool ((l : Int) == (n : Int))) = _
  rw [e]

theorem lens3 {W : World} {B : Nat} {t : TypeId} {x y z : Option Addr} {l m n c d e : Nat} (h : W.heap[B]? = some (.cells #[.slice x l c, .slice y m d, .slice z n e] t (0, 0))) : LensAt W (some ⟨B, 0, none⟩) [l, m, n] := fun _ => by
  refine ⟨B, 0, rfl, lt_of_block h, fun j u hu => ?_⟩
  rw [cell_of_row W B _ _ _ _ h]
  match j, hu with
  | 0, hu => cases hu; exact ⟨x, c, rfl⟩
  | 1, hu => cases hu; exact ⟨y, d, rfl⟩
  | 2, hu => cases hu; exact ⟨z, e, rfl⟩
  | (j+3), hu => simp at hu

theorem inside_ok {n : Int} {s : Sp} (h : insideB n s = true) : s.lo ≤ n ∧ n ≤ s.hi := by
  simp [insideB, withinB] at h; exact h
theorem inside_of {n : Int} {s : Sp} (h : s.lo ≤ n ∧ n ≤ s.hi) : insideB n s = true := by
  simp [insideB, withinB]; exact h
/-- The error of a weather. -/
def skyB (ds : List Dy) (N M L : List Int) (k : Nat) : Bool := match ds[k]? with
  | none => true
  | some d => insideB (N[k]?.getD 0) d.need && (insideB (M[k]?.getD 0) d.make && insideB (L[k]?.getD 0) d.loss)
def skyE (ds : List Dy) (N M L : List Int) : Int := if ([N.length, M.length, L.length].all fun l => decide (l = ds.length)) = true then (if ((List.range ds.length).all (skyB ds N M L)) = true then 0 else 3) else 2

/-- A weather, as a value. -/
abbrev tv (an : Option Addr) (n1 cn : Nat) (am : Option Addr) (n2 cm : Nat) (al : Option Addr) (n3 cl : Nat) : Value := .agg #[.slice an n1 cn, .slice am n2 cm, .slice al n3 cl]

/-- What checkWeather's memory holds at one day. -/
def WQ (W : World) (T D : Nat) (vt : Array Value) (d : Dy) (b1 o1 b2 o2 b3 o3 k : Nat) (nk mk lk : Int) : Prop :=
  W.heap[T]? = some (.cells vt 88 (0, 0)) ∧ W.heap[D]? = some (.cells #[.int .i64 d.need.lo, .int .i64 d.need.hi, .int .i64 d.make.lo, .int .i64 d.make.hi, .int .i64 d.loss.lo, .int .i64 d.loss.hi] 97 (0, 0)) ∧
  (b1 < W.heap.size ∧ W.cell? ⟨b1, o1 + k, none⟩ = some (.int .i64 nk)) ∧ (b2 < W.heap.size ∧ W.cell? ⟨b2, o2 + k, none⟩ = some (.int .i64 mk)) ∧ (b3 < W.heap.size ∧ W.cell? ⟨b3, o3 + k, none⟩ = some (.int .i64 lk))
theorem WQ.below {W W' : World} {T D : Nat} {vt : Array Value} {d : Dy} {b1 o1 b2 o2 b3 o3 k : Nat} {nk mk lk : Int} (h : WQ W T D vt d b1 o1 b2 o2 b3 o3 k nk mk lk) (hb : Below W.heap.size W W') : WQ W' T D vt d b1 o1 b2 o2 b3 o3 k nk mk lk := by
  obtain ⟨h1, h2, ⟨a1, a2⟩, ⟨c1, c2⟩, e1, e2⟩ := h
  exact ⟨blk_below h1 hb, blk_below h2 hb, ⟨Nat.lt_of_lt_of_le a1 hb.size, (hb.cell (p := ⟨b1, o1 + k, none⟩) a1).trans a2⟩, ⟨Nat.lt_of_lt_of_le c1 hb.size, (hb.cell (p := ⟨b2, o2 + k, none⟩) c1).trans c2⟩, Nat.lt_of_lt_of_le e1 hb.size, (hb.cell (p := ⟨b3, o3 + k, none⟩) e1).trans e2⟩

theorem past_drew' {X w2 : World} (hb : Below X.drew.heap.size X.drew w2) : Below X.heap.size X w2 := ⟨hb.os, hb.tape, hb.output, hb.size, hb.block⟩
theorem day_step {w w1 W W' : World} {T D : Nat} {vt : Array Value} {d : Dy} {b1 o1 b2 o2 b3 o3 k : Nat} {nk mk lk : Int} (h : WQ W T D vt d b1 o1 b2 o2 b3 o3 k nk mk lk ∧ Below w.heap.size w W ∧ Below w1.heap.size w1 W) (hb : Below W.heap.size W W') :
    WQ W' T D vt d b1 o1 b2 o2 b3 o3 k nk mk lk ∧ Below w.heap.size w W' ∧ Below w1.heap.size w1 W' := ⟨h.1.below hb, below_self h.2.1 hb, below_self h.2.2 hb⟩

set_option maxRecDepth 100000 in
set_option maxHeartbeats 2000000 in
theorem checkWeather_any (stock store : Int) (a : Option Addr) (ds : List Dy) (cap : Nat) (an : Option Addr) (N : List Int) (cn : Nat) (am : Option Addr) (M : List Int) (cm : Nat) (al : Option Addr) (L : List Int) (cl : Nat) (w : World)
    (hx : Sl 6 Dy.cells w a ds) (hl : ds.length ≤ 60) (hN : IntSl w an N) (hM : IntSl w am M) (hL : IntSl w al L) (hs : Sky ds N M L) :
    Calls Try.prog 139 #[wv stock store a ds.length cap, tv an N.length cn am M.length cm al L.length cl] w fun e w' => e = .returned (.int .i64 0) ∧ Below w.heap.size w w' := by
  have HX := Lib.hid (And.intro hx (And.intro hN (And.intro hM hL)))
  have HSK := Lib.hid hs
  clear hx hN hM hL hs
  obtain ⟨Wa, hWa⟩ : ∃ Wa, (w.alloc (.cells #[.int .i64 stock, .int .i64 store, .slice a ds.length cap] 60)).alloc (.cells #[.slice an N.length cn, .slice am M.length cm, .slice al L.length cl] 88) = Wa := ⟨_, rfl⟩
  have hba : Below w.heap.size w Wa := by rw [← hWa]; exact ((Below.refl _ _).alloc (Nat.le_refl _) _).alloc (by simp) _
  have h0 : Wa.heap[w.heap.size]? = some (.cells #[.int .i64 stock, .int .i64 store, .slice a ds.length cap] 60 (0, 0)) := by rw [← hWa]; exact alk (new_at rfl)
  have h1 : Wa.heap[w.heap.size + 1]? = some (.cells #[.slice an N.length cn, .slice am M.length cm, .slice al L.length cl] 88 (0, 0)) := by rw [← hWa]; exact new_at (by simp)
  have a0 := blk_cell h1 0 rfl
  have a1 := blk_cell h1 1 rfl
  have a2 := blk_cell h1 2 rfl
  go_enter Try.func139, Try.ntmps139
  go_wp2_with (fail)
  clear hWa a0 a1 a2
  have hb2 : Below w.heap.size w (Wa.alloc (.cells #[.slice an N.length cn, .slice am M.length cm, .slice al L.length cl] 27)) := hba.alloc hba.size _
  refine (every_list (some ⟨Wa.heap.size, 0, none⟩) [N.length, M.length, L.length] 3 147 #[.pointer (some ⟨w.heap.size, 0, none⟩)] (fun l => decide (l = ds.length)) _ (lens3 (heap_alloc_new _ _)) (by simp) eg147 (fun x l c W hW => checkWeather1_any x l c w.heap.size ds.length _ _ a cap W (blk_below (alk h0) hW) (by omega))).mono ?_
  rintro e w1 ⟨rfl, hb⟩
  have H1 := Lib.hid (And.intro (below_self hb2 hb) (And.intro (blk_below (alk h0) hb) (blk_below (alk h1) hb)))
  clear hb hb2 hba h0 h1
  have HLn : Hid (N.length = ds.length ∧ M.length = ds.length ∧ L.length = ds.length) := HSK.out.1
  have hlen : ([N.length, M.length, L.length].all (fun l => decide (l = ds.length))) = true := by
    obtain ⟨h1, h2, h3⟩ := HSK.out.1
    simp [h1, h2, h3]
  rw [hlen]
  clear hlen
  have c2 := blk_cell H1.out.2.1 2 rfl
  go_wp2_with (fail)
  clear c2
  go_loopw [22] (fun i wr => ∃ k : Nat, k ≤ ds.length ∧ i = .int .i64 k ∧ Below w1.heap.size w1 wr) (fun i _ => ds.length - (intOf i).toNat)
  case atStart => exact ⟨0, Nat.zero_le _, rfl, Below.refl _ _⟩
  case round =>
    obtain ⟨k, hk, rfl, hbw⟩ := hrel
    by_cases hlt : k < ds.length
    · obtain ⟨b, off, rfl, hbs, hc⟩ := HX.out.1 (by omega)
      obtain ⟨b1, o1, rfl, hb1, hc1⟩ := HX.out.2.1 (by have := HLn.out; omega)
      obtain ⟨b2, o2, rfl, hb2, hc2⟩ := HX.out.2.2.1 (by have := HLn.out; omega)
      obtain ⟨b3, o3, rfl, hb3, hc3⟩ := HX.out.2.2.2 (by have := HLn.out; omega)
      have HB := Lib.hid (below_self H1.out.1 hbw)
      have HS : Hid (insideB (N[k]?.getD 0) ds[k].need = true ∧ insideB (M[k]?.getD 0) ds[k].make = true ∧ insideB (L[k]?.getD 0) ds[k].loss = true) := by
        obtain ⟨h1, h2, h3⟩ := HSK.out.2 k _ (List.getElem?_eq_getElem hlt)
        exact ⟨inside_of h1, inside_of h2, inside_of h3⟩
      have d0 := (HB.out.cell (p := ⟨b, off + k * 6, none⟩) hbs).trans (hc k ds[k] 0 _ (List.getElem?_eq_getElem hlt) rfl)
      have d1 := (HB.out.cell (p := ⟨b, off + k * 6 + 1, none⟩) hbs).trans (hc k ds[k] 1 _ (List.getElem?_eq_getElem hlt) rfl)
      have d2 := (HB.out.cell (p := ⟨b, off + k * 6 + 2, none⟩) hbs).trans (hc k ds[k] 2 _ (List.getElem?_eq_getElem hlt) rfl)
      have d3 := (HB.out.cell (p := ⟨b, off + k * 6 + 3, none⟩) hbs).trans (hc k ds[k] 3 _ (List.getElem?_eq_getElem hlt) rfl)
      have d4 := (HB.out.cell (p := ⟨b, off + k * 6 + 4, none⟩) hbs).trans (hc k ds[k] 4 _ (List.getElem?_eq_getElem hlt) rfl)
      have d5 := (HB.out.cell (p := ⟨b, off + k * 6 + 5, none⟩) hbs).trans (hc k ds[k] 5 _ (List.getElem?_eq_getElem hlt) rfl)
      have e1 := (HB.out.cell (p := ⟨b1, o1 + k, none⟩) hb1).trans (hc1 k (by have := HLn.out; omega))
      have e2 := (HB.out.cell (p := ⟨b2, o2 + k, none⟩) hb2).trans (hc2 k (by have := HLn.out; omega))
      have e3 := (HB.out.cell (p := ⟨b3, o3 + k, none⟩) hb3).trans (hc3 k (by have := HLn.out; omega))
      clear hc hc1 hc2 hc3
      generalize ds[k] = d at *
      generalize N[k]?.getD 0 = nk at *
      generalize M[k]?.getD 0 = mk at *
      generalize L[k]?.getD 0 = lk at *
      obtain ⟨Wd, hWd⟩ : ∃ Wd, wr.alloc (.cells #[.int .i64 d.need.lo, .int .i64 d.need.hi, .int .i64 d.make.lo, .int .i64 d.make.hi, .int .i64 d.loss.lo, .int .i64 d.loss.hi] 97) = Wd := ⟨_, rfl⟩
      have HQ : Hid (WQ Wd (w.heap.size + 1) wr.heap.size #[.slice (some ⟨b1, o1, none⟩) N.length cn, .slice (some ⟨b2, o2, none⟩) M.length cm, .slice (some ⟨b3, o3, none⟩) L.length cl] d b1 o1 b2 o2 b3 o3 k nk mk lk ∧ Below w.heap.size w Wd ∧ Below w1.heap.size w1 Wd) := by
        rw [← hWd]
        have q1 := HB.out.size
        exact ⟨⟨alk (blk_below H1.out.2.2 hbw), heap_alloc_new _ _, ⟨by simp; omega, (World.cell?_alloc_lt _ _ _ (by show b1 < _; omega)).trans e1⟩, ⟨by simp; omega, (World.cell?_alloc_lt _ _ _ (by show b2 < _; omega)).trans e2⟩, by simp; omega, (World.cell?_alloc_lt _ _ _ (by show b3 < _; omega)).trans e3⟩, HB.out.alloc HB.out.size _, hbw.alloc hbw.size _⟩
      clear e1 e2 e3
      go_upto_region 7 with (fail)
      clear hWd d0 d1 d2 d3 d4 d5
      have t0 := blk_cell HQ.out.1.1 0 rfl
      have t1 := blk_cell HQ.out.1.1 1 rfl
      have t2 := blk_cell HQ.out.1.1 2 rfl
      have x0 := blk_cell HQ.out.1.2.1 0 rfl
      have x1 := blk_cell HQ.out.1.2.1 1 rfl
      have x2 := blk_cell HQ.out.1.2.1 2 rfl
      have x3 := blk_cell HQ.out.1.2.1 3 rfl
      have x4 := blk_cell HQ.out.1.2.1 4 rfl
      have x5 := blk_cell HQ.out.1.2.1 5 rfl
      have y1 := HQ.out.1.2.2.1.2
      have y2 := HQ.out.1.2.2.2.1.2
      have y3 := HQ.out.1.2.2.2.2.2
      have lN : k < N.length := by have := HLn.out; omega
      have lM : k < M.length := by have := HLn.out; omega
      have lL : k < L.length := by have := HLn.out; omega
      go_region_held3 (fun w' => w'.cell? ⟨w.heap.size + 1, 0, none⟩ = some (.slice (some ⟨b1, o1, none⟩) N.length cn) ∧ w'.cell? ⟨w.heap.size + 1, 1, none⟩ = some (.slice (some ⟨b2, o2, none⟩) M.length cm) ∧ w'.cell? ⟨w.heap.size + 1, 2, none⟩ = some (.slice (some ⟨b3, o3, none⟩) L.length cl) ∧ w'.cell? ⟨wr.heap.size, 0, none⟩ = some (.int .i64 d.need.lo) ∧ w'.cell? ⟨wr.heap.size, 1, none⟩ = some (.int .i64 d.need.hi) ∧ w'.cell? ⟨wr.heap.size, 2, none⟩ = some (.int .i64 d.make.lo) ∧ w'.cell? ⟨wr.heap.size, 3, none⟩ = some (.int .i64 d.make.hi) ∧ w'.cell? ⟨wr.heap.size, 4, none⟩ = some (.int .i64 d.loss.lo) ∧ w'.cell? ⟨wr.heap.size, 5, none⟩ = some (.int .i64 d.loss.hi) ∧ w'.cell? ⟨b1, o1 + k, none⟩ = some (.int .i64 nk) ∧ w'.cell? ⟨b2, o2 + k, none⟩ = some (.int .i64 mk) ∧ w'.cell? ⟨b3, o3 + k, none⟩ = some (.int .i64 lk)) (go_keep)
(first | (go_at_call 117; refine (inside_any _ _ _).mono ?_; rintro e w5 ⟨rfl, hb5⟩; (first | rw [HS.out.1] | rw [HS.out.2.1] | rw [HS.out.2.2]); have HQ2 := Lib.hid (day_step HQ.out (by first | exact past_drew' hb5 | exact hb5)); clear hb5 t0 t1 t2 x0 x1 x2 x3 x4 x5 y1 y2 y3 HQ; have HQ := HQ2; clear HQ2; have t0 := blk_cell HQ.out.1.1 0 rfl; have t1 := blk_cell HQ.out.1.1 1 rfl; have t2 := blk_cell HQ.out.1.1 2 rfl; have x0 := blk_cell HQ.out.1.2.1 0 rfl; have x1 := blk_cell HQ.out.1.2.1 1 rfl; have x2 := blk_cell HQ.out.1.2.1 2 rfl; have x3 := blk_cell HQ.out.1.2.1 3 rfl; have x4 := blk_cell HQ.out.1.2.1 4 rfl; have x5 := blk_cell HQ.out.1.2.1 5 rfl; have y1 := HQ.out.1.2.2.1.2; have y2 := HQ.out.1.2.2.2.1.2; have y3 := HQ.out.1.2.2.2.2.2))
      all_goals (
        clear t0 t1 t2 x0 x1 x2 x3 x4 x5 y1 y2 y3
        go_wp2_with (fail)
        go_roundw
        case rel => exact ⟨k + 1, by omega, by go_num, HQ.out.2.2⟩
        case measure => simp [intOf]; omega)
    · have : k = ds.length := by omega
      subst this
      go_wp2_with (fail)
      go_ret
      exact ⟨rfl, below_self H1.out.1 hbw⟩
end Go.Proofs.Ytpkegiekpnaejaa

namespace Go.Proofs.Ytpkegiekpnaejaa
open Go.RowKit Go.Shelf
attribute [local go_sem] Oper.semAt_some

theorem get_map' {f : Dy → Int} {ds : List Dy} {p : Nat} {d : Dy} (h : ds[p]? = some d) : (ds.map f)[p]?.getD 0 = f d := by rw [map_getD, h]
/-- What told hands back. -/
def OutTold (w : World) (x : Ps) (e : Ending) (w' : World) : Prop := ∃ sa sc ma mc pa pn pc, e = .returned (.tuple #[.agg #[.slice sa x.stocks.length sc, .slice ma x.made.length mc, .slice pa pn pc, .int .i64 x.fails, .int .i64 x.full], .int .i64 0]) ∧ (IntSl w' sa x.stocks ∧ ∀ p, sa = some p → w.heap.size ≤ p.block) ∧ (IntSl w' ma x.made ∧ ∀ p, ma = some p → w.heap.size ≤ p.block) ∧ Below w.heap.size w w'
theorem fld1 (a b c : Option Addr) (n1 c1 n2 c2 n3 c3 : Nat) (x y : Int) (w : World) : (Instr.field 146 (.agg #[.slice a n1 c1, .slice b n2 c2, .slice c n3 c3, .int .i64 x, .int .i64 y]) 1).run Try.prog w = .ok (.slice b n2 c2) w := by kernel_rfl

set_option maxRecDepth 100000 in
set_option maxHeartbeats 2000000 in
theorem told_any (stock store : Int) (a : Option Addr) (ds : List Dy) (cap : Nat) (an : Option Addr) (N : List Int) (cn : Nat) (am : Option Addr) (M : List Int) (cm : Nat) (al : Option Addr) (L : List Int) (cl : Nat) (w : World)
    (hx : Sl 6 Dy.cells w a ds) (hN : IntSl w an N) (hM : IntSl w am M) (hL : IntSl w al L) (hw : winE stock store ds = 0) (hs : Sky ds N M L) :
    Calls Try.prog 105 #[wv stock store a ds.length cap, tv an ds.length cn am ds.length cm al ds.length cl] w (OutTold w (playL stock store N M L ds.length)) := by
  have HX := Lib.hid (And.intro hx (And.intro hN (And.intro hM (And.intro hL (And.intro hw hs)))))
  obtain ⟨b1, b2, b3⟩ := win_ok hw
  have HOK := Lib.hid (And.intro b1 (And.intro b2 b3))
  clear hx hN hM hL hw hs b1 b2 b3
  generalize hS : playL stock store N M L ds.length = s
  have HS := Lib.hid hS
  clear hS
  obtain ⟨Wa, hWa⟩ : ∃ Wa, ((w.alloc (.cells #[.int .i64 stock, .int .i64 store, .slice a ds.length cap] 60)).alloc (.cells #[.slice an ds.length cn, .slice am ds.length cm, .slice al ds.length cl] 88)).alloc (.cells #[.slice none 0 0, .slice none 0 0, .slice none 0 0, .int .i64 0, .int .i64 0] 146) = Wa := ⟨_, rfl⟩
  have hba : Below w.heap.size w Wa := by rw [← hWa]; exact (((Below.refl _ _).alloc (Nat.le_refl _) _).alloc (by simp) _).alloc (by simp; omega) _
  have h0 : Wa.heap[w.heap.size]? = some (.cells #[.int .i64 stock, .int .i64 store, .slice a ds.length cap] 60 (0, 0)) := by rw [← hWa]; exact alk (alk (new_at rfl))
  have h1 : Wa.heap[w.heap.size + 1]? = some (.cells #[.slice an ds.length cn, .slice am ds.length cm, .slice al ds.length cl] 88 (0, 0)) := by rw [← hWa]; exact alk (new_at (by simp))
  have h2 : Wa.heap[w.heap.size + 1 + 1]? = some (.cells #[.slice none 0 0, .slice none 0 0, .slice none 0 0, .int .i64 0, .int .i64 0] 146 (0, 0)) := by rw [← hWa]; exact new_at (by simp)
  have a0 := blk_cell h0 0 rfl
  have a1 := blk_cell h0 1 rfl
  have a2 := blk_cell h0 2 rfl
  have HW0 := Lib.hid (And.intro hba (And.intro h0 (And.intro h1 h2)))
  clear hba h0 h1 h2
  go_enter Try.func105, Try.ntmps105
  go_wp2_with (fail)
  clear hWa a0 a1 a2
  refine (checkWinter_any stock store a ds cap _ (HX.out.1.below HW0.out.1) (by have := HOK.out.2.1.2; omega)).mono ?_
  rintro e w1 ⟨rfl, hb1⟩
  rw [HX.out.2.2.2.2.1]
  have H1 := Lib.hid (And.intro (below_self HW0.out.1 hb1) (And.intro (blk_below HW0.out.2.1 hb1) (And.intro (blk_below HW0.out.2.2.1 hb1) (blk_below HW0.out.2.2.2 hb1))))
  clear hb1
  have a0 := blk_cell H1.out.2.1 0 rfl
  have a1 := blk_cell H1.out.2.1 1 rfl
  have a2 := blk_cell H1.out.2.1 2 rfl
  have a3 := blk_cell H1.out.2.2.1 0 rfl
  have a4 := blk_cell H1.out.2.2.1 1 rfl
  have a5 := blk_cell H1.out.2.2.1 2 rfl
  go_wp2_with (fail)
  clear a0 a1 a2 a3 a4 a5
  have HC := checkWeather_any stock store a ds cap an N cn am M cm al L cl w1 (HX.out.1.below H1.out.1) HOK.out.2.1.2 (HX.out.2.1.below H1.out.1) (HX.out.2.2.1.below H1.out.1) (HX.out.2.2.2.1.below H1.out.1) HX.out.2.2.2.2.2
  rw [HX.out.2.2.2.2.2.1.1, HX.out.2.2.2.2.2.1.2.1, HX.out.2.2.2.2.2.1.2.2] at HC
  refine HC.mono ?_
  rintro e w2 ⟨rfl, hb2⟩
  have H2 := Lib.hid (And.intro (below_self H1.out.1 hb2) (And.intro (blk_below H1.out.2.1 hb2) (And.intro (blk_below H1.out.2.2.1 hb2) (blk_below H1.out.2.2.2 hb2))))
  clear hb2 HC
  have a0 := blk_cell H2.out.2.1 0 rfl
  have a1 := blk_cell H2.out.2.1 1 rfl
  have a2 := blk_cell H2.out.2.1 2 rfl
  have a3 := blk_cell H2.out.2.2.1 0 rfl
  have a4 := blk_cell H2.out.2.2.1 1 rfl
  have a5 := blk_cell H2.out.2.2.1 2 rfl
  have y0 := blk_free (j := 0) H2.out.2.2.2
  have y1 := blk_free (j := 1) H2.out.2.2.2
  have y2 := blk_free (j := 2) H2.out.2.2.2
  have y3 := blk_free (j := 3) H2.out.2.2.2
  have y4 := blk_free (j := 4) H2.out.2.2.2
  go_wp2_with (fail)
  have HC := play_fresh stock store a ds.length cap an N cn am M cm al L cl w2 (HX.out.2.1.below H2.out.1) (HX.out.2.2.1.below H2.out.1) (HX.out.2.2.2.1.below H2.out.1) HX.out.2.2.2.2.2.1.1 HX.out.2.2.2.2.2.1.2.1 HX.out.2.2.2.2.2.1.2.2 HOK.out.2.1.2 ⟨HOK.out.1.1, HOK.out.1.2.1, HOK.out.1.2.2.2⟩ (HX.out.2.2.2.2.2.bd HOK.out.2.2)
  rw [HS.out] at HC
  refine HC.mono ?_
  rintro e w3 ⟨sa, sc, ma, mc, pa, pn, pc, rfl, hs, hm, hb3⟩
  have H3 := Lib.hid (And.intro (below_self H2.out.1 hb3) (And.intro (blk_below H2.out.2.2.2 hb3) (And.intro hs (And.intro hm (lt_of_block H2.out.2.2.2)))))
  clear HC hb3 hs hm a0 a1 a2 a3 a4 a5 y0 y1 y2 y3 y4
  have z0 := blk_cell H3.out.2.1 0 rfl
  have z1 := blk_cell H3.out.2.1 1 rfl
  have z2 := blk_cell H3.out.2.1 2 rfl
  have z3 := blk_cell H3.out.2.1 3 rfl
  have z4 := blk_cell H3.out.2.1 4 rfl
  have y0 := blk_free (j := 0) H3.out.2.1
  have y1 := blk_free (j := 1) H3.out.2.1
  have y2 := blk_free (j := 2) H3.out.2.1
  have y3 := blk_free (j := 3) H3.out.2.1
  have y4 := blk_free (j := 4) H3.out.2.1
  go_wp2_with (fail)
  obtain ⟨p1, p2, p3, p4⟩ := five_put (v0 := .slice sa s.stocks.length sc) (v1 := .slice ma s.made.length mc) (v2 := .slice pa pn pc) (v3 := .int .i64 s.fails) (v4 := .int .i64 s.full) H3.out.2.1 (show w.heap.size ≤ w.heap.size + 1 + 1 by omega) H3.out.1
  have q0 := blk_cell p2 0 rfl
  have q1 := blk_cell p2 1 rfl
  have q2 := blk_cell p2 2 rfl
  have q3 := blk_cell p2 3 rfl
  have q4 := blk_cell p2 4 rfl
  refine bodyPost_ret (v := .tuple #[.agg #[.slice sa s.stocks.length sc, .slice ma s.made.length mc, .slice pa pn pc, .int .i64 s.fails, .int .i64 s.full], .int .i64 0]) (by simp [results, Try.results105, go_sem, q0, q1, q2, q3, q4]) rfl ?_
  have hlt := H3.out.2.2.2.2
  exact ⟨sa, sc, ma, mc, pa, pn, pc, rfl, ⟨ints_put H3.out.2.2.1.1 (Below.refl _ _) p3 p4 (fun p hp => by have := H3.out.2.2.1.2 p hp; omega), fun p hp => by have := H3.out.2.2.1.2 p hp; have := H2.out.1.size; omega⟩, ⟨ints_put H3.out.2.2.2.1.1 (Below.refl _ _) p3 p4 (fun p hp => by have := H3.out.2.2.2.1.2 p hp; omega), fun p hp => by have := H3.out.2.2.2.1.2 p hp; have := H2.out.1.size; omega⟩, p1⟩

section
variable (stock store : Int) (a : Option Addr) (ds : List Dy) (cap : Nat) (an : Option Addr) (N : List Int) (cn : Nat) (am : Option Addr) (M : List Int) (cm : Nat) (al : Option Addr) (L : List Int) (cl : Nat) (w : World)
  (hx : Sl 6 Dy.cells w a ds) (hN : IntSl w an N) (hM : IntSl w am M) (hL : IntSl w al L) (hw : winE stock store ds = 0) (hs : Sky ds N M L)
include hx hN hM hL hw hs

set_option maxRecDepth 100000 in
set_option maxHeartbeats 600000 in
theorem Stocks_any : Calls Try.prog 56 #[wv stock store a ds.length cap, tv an ds.length cn am ds.length cm al ds.length cl] w fun e w' => ∃ b c, e = .returned (.tuple #[.slice b (playL stock store N M L ds.length).stocks.length c, .int .i64 0]) ∧ (IntSl w' b (playL stock store N M L ds.length).stocks ∧ ∀ p, b = some p → w.heap.size ≤ p.block) ∧ Below w.heap.size w w' := by
  have HX := Lib.hid (And.intro hx (And.intro hN (And.intro hM (And.intro hL (And.intro hw hs)))))
  clear hx hN hM hL hw hs
  generalize hS : playL stock store N M L ds.length = s
  have HS := Lib.hid hS
  clear hS
  obtain ⟨Wa, hWa⟩ : ∃ Wa, (w.alloc (.cells #[.int .i64 stock, .int .i64 store, .slice a ds.length cap] 60)).alloc (.cells #[.slice an ds.length cn, .slice am ds.length cm, .slice al ds.length cl] 88) = Wa := ⟨_, rfl⟩
  have hba : Below w.heap.size w Wa := by rw [← hWa]; exact ((Below.refl _ _).alloc (Nat.le_refl _) _).alloc (by simp) _
  have h0 : Wa.heap[w.heap.size]? = some (.cells #[.int .i64 stock, .int .i64 store, .slice a ds.length cap] 60 (0, 0)) := by rw [← hWa]; exact alk (new_at rfl)
  have h1 : Wa.heap[w.heap.size + 1]? = some (.cells #[.slice an ds.length cn, .slice am ds.length cm, .slice al ds.length cl] 88 (0, 0)) := by rw [← hWa]; exact new_at (by simp)
  have a0 := blk_cell h0 0 rfl
  have a1 := blk_cell h0 1 rfl
  have a2 := blk_cell h0 2 rfl
  have a3 := blk_cell h1 0 rfl
  have a4 := blk_cell h1 1 rfl
  have a5 := blk_cell h1 2 rfl
  have HB := Lib.hid hba
  clear hba h0 h1
  go_enter Try.func56, Try.ntmps56
  go_wp2_with (fail)
  clear hWa a0 a1 a2 a3 a4 a5
  have HC := told_any stock store a ds cap an N cn am M cm al L cl Wa (HX.out.1.below HB.out) (HX.out.2.1.below HB.out) (HX.out.2.2.1.below HB.out) (HX.out.2.2.2.1.below HB.out) HX.out.2.2.2.2.1 HX.out.2.2.2.2.2
  rw [HS.out] at HC
  refine HC.mono ?_
  rintro e w1 ⟨sa, sc, ma, mc, pa, pn, pc, rfl, hs, hm, hb1⟩
  have H1 := Lib.hid (And.intro (below_self HB.out hb1) (And.intro hs hm))
  clear HC hb1 hs hm
  go_wp2_with (fail)
  go_ret2
  exact ⟨sa, sc, rfl, ⟨H1.out.2.1.1.below ((Below.refl _ _).alloc (Nat.le_refl _) _), fun p hp => by have := H1.out.2.1.2 p hp; have := HB.out.size; omega⟩, H1.out.1.alloc H1.out.1.size _⟩

set_option maxRecDepth 100000 in
set_option maxHeartbeats 600000 in
theorem Made_any : Calls Try.prog 58 #[wv stock store a ds.length cap, tv an ds.length cn am ds.length cm al ds.length cl] w fun e w' => ∃ b c, e = .returned (.tuple #[.slice b (playL stock store N M L ds.length).made.length c, .int .i64 0]) ∧ (IntSl w' b (playL stock store N M L ds.length).made ∧ ∀ p, b = some p → w.heap.size ≤ p.block) ∧ Below w.heap.size w w' := by
  have HX := Lib.hid (And.intro hx (And.intro hN (And.intro hM (And.intro hL (And.intro hw hs)))))
  clear hx hN hM hL hw hs
  generalize hS : playL stock store N M L ds.length = s
  have HS := Lib.hid hS
  clear hS
  obtain ⟨Wa, hWa⟩ : ∃ Wa, (w.alloc (.cells #[.int .i64 stock, .int .i64 store, .slice a ds.length cap] 60)).alloc (.cells #[.slice an ds.length cn, .slice am ds.length cm, .slice al ds.length cl] 88) = Wa := ⟨_, rfl⟩
  have hba : Below w.heap.size w Wa := by rw [← hWa]; exact ((Below.refl _ _).alloc (Nat.le_refl _) _).alloc (by simp) _
  have h0 : Wa.heap[w.heap.size]? = some (.cells #[.int .i64 stock, .int .i64 store, .slice a ds.length cap] 60 (0, 0)) := by rw [← hWa]; exact alk (new_at rfl)
  have h1 : Wa.heap[w.heap.size + 1]? = some (.cells #[.slice an ds.length cn, .slice am ds.length cm, .slice al ds.length cl] 88 (0, 0)) := by rw [← hWa]; exact new_at (by simp)
  have a0 := blk_cell h0 0 rfl
  have a1 := blk_cell h0 1 rfl
  have a2 := blk_cell h0 2 rfl
  have a3 := blk_cell h1 0 rfl
  have a4 := blk_cell h1 1 rfl
  have a5 := blk_cell h1 2 rfl
  have HB := Lib.hid hba
  clear hba h0 h1
  go_enter Try.func58, Try.ntmps58
  go_wp2_with (fail)
  clear hWa a0 a1 a2 a3 a4 a5
  have HC := told_any stock store a ds cap an N cn am M cm al L cl Wa (HX.out.1.below HB.out) (HX.out.2.1.below HB.out) (HX.out.2.2.1.below HB.out) (HX.out.2.2.2.1.below HB.out) HX.out.2.2.2.2.1 HX.out.2.2.2.2.2
  rw [HS.out] at HC
  refine HC.mono ?_
  rintro e w1 ⟨sa, sc, ma, mc, pa, pn, pc, rfl, hs, hm, hb1⟩
  have H1 := Lib.hid (And.intro (below_self HB.out hb1) (And.intro hs hm))
  clear HC hb1 hs hm
  go_wp2_with (fail)
  go_ret2
  exact ⟨ma, mc, rfl, ⟨H1.out.2.2.1.below ((Below.refl _ _).alloc (Nat.le_refl _) _), fun p hp => by have := H1.out.2.2.2 p hp; have := HB.out.size; omega⟩, H1.out.1.alloc H1.out.1.size _⟩

set_option maxRecDepth 100000 in
set_option maxHeartbeats 600000 in
theorem Fails_any : Calls Try.prog 51 #[wv stock store a ds.length cap, tv an ds.length cn am ds.length cm al ds.length cl] w fun e w' => e = .returned (.tuple #[.int .i64 (playL stock store N M L ds.length).fails, .int .i64 0]) ∧ Below w.heap.size w w' := by
  have HX := Lib.hid (And.intro hx (And.intro hN (And.intro hM (And.intro hL (And.intro hw hs)))))
  clear hx hN hM hL hw hs
  generalize hS : playL stock store N M L ds.length = s
  have HS := Lib.hid hS
  clear hS
  obtain ⟨Wa, hWa⟩ : ∃ Wa, (w.alloc (.cells #[.int .i64 stock, .int .i64 store, .slice a ds.length cap] 60)).alloc (.cells #[.slice an ds.length cn, .slice am ds.length cm, .slice al ds.length cl] 88) = Wa := ⟨_, rfl⟩
  have hba : Below w.heap.size w Wa := by rw [← hWa]; exact ((Below.refl _ _).alloc (Nat.le_refl _) _).alloc (by simp) _
  have h0 : Wa.heap[w.heap.size]? = some (.cells #[.int .i64 stock, .int .i64 store, .slice a ds.length cap] 60 (0, 0)) := by rw [← hWa]; exact alk (new_at rfl)
  have h1 : Wa.heap[w.heap.size + 1]? = some (.cells #[.slice an ds.length cn, .slice am ds.length cm, .slice al ds.length cl] 88 (0, 0)) := by rw [← hWa]; exact new_at (by simp)
  have a0 := blk_cell h0 0 rfl
  have a1 := blk_cell h0 1 rfl
  have a2 := blk_cell h0 2 rfl
  have a3 := blk_cell h1 0 rfl
  have a4 := blk_cell h1 1 rfl
  have a5 := blk_cell h1 2 rfl
  have HB := Lib.hid hba
  clear hba h0 h1
  go_enter Try.func51, Try.ntmps51
  go_wp2_with (fail)
  clear hWa a0 a1 a2 a3 a4 a5
  have HC := told_any stock store a ds cap an N cn am M cm al L cl Wa (HX.out.1.below HB.out) (HX.out.2.1.below HB.out) (HX.out.2.2.1.below HB.out) (HX.out.2.2.2.1.below HB.out) HX.out.2.2.2.2.1 HX.out.2.2.2.2.2
  rw [HS.out] at HC
  refine HC.mono ?_
  rintro e w1 ⟨sa, sc, ma, mc, pa, pn, pc, rfl, hs, hm, hb1⟩
  have H1 := Lib.hid (And.intro (below_self HB.out hb1) (And.intro hs hm))
  clear HC hb1 hs hm
  go_wp2_with (fail)
  go_ret2
  exact ⟨rfl, H1.out.1.alloc H1.out.1.size _⟩
end

/-- The worst weather. -/
theorem worst_sky {ds : List Dy} (hd : ∀ d ∈ ds, DayOk d) : Sky ds (ds.map fun d => d.need.hi) (ds.map fun d => d.make.lo) (ds.map fun d => d.loss.hi) := by
  refine ⟨⟨by simp, by simp, by simp⟩, fun k d h => ?_⟩
  rw [get_map' h, get_map' h, get_map' h]
  obtain ⟨a, b, c⟩ := hd d (List.mem_of_getElem? h)
  omega

theorem fldS (x y : Int) (a b c d : Option Addr) (n1 c1 n2 c2 n3 c3 n4 c4 : Nat) (w : World) : (Instr.field 157 (.agg #[.int .i64 x, .int .i64 y, .slice a n1 c1, .slice b n2 c2, .slice c n3 c3, .slice d n4 c4]) 1).run Try.prog w = .ok (.agg #[.slice b n2 c2, .slice c n3 c3, .slice d n4 c4]) w := by kernel_rfl
theorem three_put {w W : World} {B : Nat} {t : TypeId} {u0 u1 u2 v0 v1 v2 : Value} (h : W.heap[B]? = some (.cells #[u0, u1, u2] t (0, 0))) (hB : w.heap.size ≤ B) (k : Below w.heap.size w W) :
    Below w.heap.size w (((W.setCell ⟨B, 0, none⟩ v0).setCell ⟨B, 1, none⟩ v1).setCell ⟨B, 2, none⟩ v2) ∧ (((W.setCell ⟨B, 0, none⟩ v0).setCell ⟨B, 1, none⟩ v1).setCell ⟨B, 2, none⟩ v2).heap[B]? = some (.cells #[v0, v1, v2] t (0, 0)) ∧ (∀ k, k ≠ B → (((W.setCell ⟨B, 0, none⟩ v0).setCell ⟨B, 1, none⟩ v1).setCell ⟨B, 2, none⟩ v2).heap[k]? = W.heap[k]?) ∧ W.heap.size ≤ (((W.setCell ⟨B, 0, none⟩ v0).setCell ⟨B, 1, none⟩ v1).setCell ⟨B, 2, none⟩ v2).heap.size :=
  ⟨((k.setCell (p := ⟨B, 0, none⟩) hB _).setCell (p := ⟨B, 1, none⟩) hB _).setCell (p := ⟨B, 2, none⟩) hB _,
   blk_setCell (j := 2) (u := v2) (blk_setCell (j := 1) (u := v1) (blk_setCell (j := 0) (u := v0) h)),
   fun _ hk => (Below.heap_setCell _ _ _ _ hk).trans ((Below.heap_setCell _ _ _ _ hk).trans (Below.heap_setCell _ _ _ _ hk)), by simp only [World.size_setCell]; exact Nat.le_refl _⟩

theorem ints_other {W W' : World} {B : Nat} {a : Option Addr} {xs : List Int} (h : IntSl W a xs) (hk : ∀ k, k ≠ B → W'.heap[k]? = W.heap[k]?) (hs : W.heap.size ≤ W'.heap.size) (hn : ∀ p, a = some p → p.block ≠ B) : IntSl W' a xs := fun h0 => by
  obtain ⟨b, off, rfl, hb, hc⟩ := h h0
  have hne : b ≠ B := hn _ rfl
  exact ⟨b, off, rfl, Nat.lt_of_lt_of_le hb hs, fun j hj => (World.cell?_of_block (w := W) (a := ⟨b, off + j, none⟩) (hk b hne)).trans (hc j hj)⟩
theorem ints_not {W : World} {B : Nat} {t : TypeId} {x y z : Option Addr} {l m n c d e : Nat} (h : W.heap[B]? = some (.cells #[.slice x l c, .slice y m d, .slice z n e] t (0, 0))) {a : Option Addr} {xs : List Int} (hx : IntSl W a xs) (h0 : 0 < xs.length) : ∀ p, a = some p → p.block ≠ B := by
  obtain ⟨b, off, rfl, hb, hc⟩ := hx h0
  intro p hp
  cases hp
  intro e
  have hbB : b = B := e
  subst hbB
  have h1 := hc 0 h0
  rw [cell_of_row W b _ _ _ _ h] at h1
  match off, h1 with
  | 0, h1 | 1, h1 | 2, h1 => simp at h1
  | (k+3), h1 => simp at h1

set_option maxRecDepth 100000 in
set_option maxHeartbeats 1000000 in
/-- The worst weather is handed back. -/
theorem Worst_any (stock store : Int) (a : Option Addr) (ds : List Dy) (cap : Nat) (w : World) (hx : Sl 6 Dy.cells w a ds) (hl : ds.length ≤ 1000000) (hw : winE stock store ds = 0) :
    Calls Try.prog 50 #[wv stock store a ds.length cap] w fun e w' => ∃ an cn am cm al cl, e = .returned (.tuple #[tv an ds.length cn am ds.length cm al ds.length cl, .int .i64 0]) ∧ IntSl w' an (ds.map fun d => d.need.hi) ∧ IntSl w' am (ds.map fun d => d.make.lo) ∧ IntSl w' al (ds.map fun d => d.loss.hi) ∧ Below w.heap.size w w' := by
  have HX := Lib.hid (And.intro hx (And.intro hl hw))
  clear hx hl hw
  have HD := Lib.hid (win_ok HX.out.2.2).2.2
  obtain ⟨Wa, hWa⟩ : ∃ Wa, (w.alloc (.cells #[.int .i64 stock, .int .i64 store, .slice a ds.length cap] 60)).alloc (.cells #[.slice none 0 0, .slice none 0 0, .slice none 0 0] 88) = Wa := ⟨_, rfl⟩
  have hba : Below w.heap.size w Wa := by rw [← hWa]; exact ((Below.refl _ _).alloc (Nat.le_refl _) _).alloc (by simp) _
  have h0 : Wa.heap[w.heap.size]? = some (.cells #[.int .i64 stock, .int .i64 store, .slice a ds.length cap] 60 (0, 0)) := by rw [← hWa]; exact alk (new_at rfl)
  have h1 : Wa.heap[w.heap.size + 1]? = some (.cells #[.slice none 0 0, .slice none 0 0, .slice none 0 0] 88 (0, 0)) := by rw [← hWa]; exact new_at (by simp)
  have a0 := blk_cell h0 0 rfl
  have a1 := blk_cell h0 1 rfl
  have a2 := blk_cell h0 2 rfl
  have HW0 := Lib.hid (And.intro hba (And.intro h0 h1))
  clear hba h0 h1
  go_enter Try.func50, Try.ntmps50
  go_wp2_with (fail)
  clear hWa a0 a1 a2
  refine (checkWinter_any stock store a ds cap _ (HX.out.1.below HW0.out.1) HX.out.2.1).mono ?_
  rintro e w1 ⟨rfl, hb1⟩
  rw [HX.out.2.2]
  have H1 := Lib.hid (And.intro (below_self HW0.out.1 hb1) (And.intro (blk_below HW0.out.2.1 hb1) (And.intro (blk_below HW0.out.2.2 hb1) trivial)))
  clear hb1
  have a0 := blk_cell H1.out.2.1 0 rfl; have a1 := blk_cell H1.out.2.1 1 rfl; have a2 := blk_cell H1.out.2.1 2 rfl; have r0 := blk_cell H1.out.2.2.1 0 rfl; have r1 := blk_cell H1.out.2.2.1 1 rfl; have r2 := blk_cell H1.out.2.2.1 2 rfl; have f0 := blk_free (j := 0) H1.out.2.2.1; have f1 := blk_free (j := 1) H1.out.2.2.1; have f2 := blk_free (j := 2) H1.out.2.2.1
  go_wp2_with (fail)
  have hF := fldS
  go_region_held3 (fun w' => w'.cell? ⟨w.heap.size, 0, none⟩ = some (.int .i64 stock) ∧ w'.cell? ⟨w.heap.size, 1, none⟩ = some (.int .i64 store) ∧ w'.cell? ⟨w.heap.size, 2, none⟩ = some (.slice a ds.length cap)) (go_keep)
    (first
      | (go_at_call 94; refine (spell_any 129 130 129 Sp.hi Sp.lo Sp.hi high_f low_f high_f stock store a ds cap _ (HX.out.1.below H2.out.1) HX.out.2.1).mono ?_; rintro e w3 ⟨⟨an, cn, am, cm, al, cl, rfl, hN, hM, hL, hb3⟩⟩; have H3 := Lib.hid (And.intro (below_self H2.out.1 hb3) (And.intro (blk_below H2.out.2.1 hb3) (And.intro (blk_below H2.out.2.2.1 hb3) (And.intro hN (And.intro hM hL))))); clear hb3 hN hM hL a0 a1 a2 r0 r1 r2 f0 f1 f2; have a0 := blk_cell H3.out.2.1 0 rfl; have a1 := blk_cell H3.out.2.1 1 rfl; have a2 := blk_cell H3.out.2.1 2 rfl; have r0 := blk_cell H3.out.2.2.1 0 rfl; have r1 := blk_cell H3.out.2.2.1 1 rfl; have r2 := blk_cell H3.out.2.2.1 2 rfl; have f0 := blk_free (j := 0) H3.out.2.2.1; have f1 := blk_free (j := 1) H3.out.2.2.1; have f2 := blk_free (j := 2) H3.out.2.2.1)
      | (go_at_call 93; refine (worst_any _).mono ?_; rintro e w2 ⟨rfl, hb2⟩; have hb2' : Below w1.heap.size w1 w2 := ⟨hb2.os, hb2.tape, hb2.output, hb2.size, hb2.block⟩; have H2 := Lib.hid (And.intro (below_self H1.out.1 hb2') (And.intro (blk_below H1.out.2.1 hb2') (And.intro (blk_below H1.out.2.2.1 hb2') trivial))); clear hb2 hb2' a0 a1 a2 r0 r1 r2 f0 f1 f2; have a0 := blk_cell H2.out.2.1 0 rfl; have a1 := blk_cell H2.out.2.1 1 rfl; have a2 := blk_cell H2.out.2.1 2 rfl; have r0 := blk_cell H2.out.2.2.1 0 rfl; have r1 := blk_cell H2.out.2.2.1 1 rfl; have r2 := blk_cell H2.out.2.2.1 2 rfl; have f0 := blk_free (j := 0) H2.out.2.2.1; have f1 := blk_free (j := 1) H2.out.2.2.1; have f2 := blk_free (j := 2) H2.out.2.2.1))
  all_goals (
    go_wp2_with (fail)
    obtain ⟨p1, p2, p3, p4⟩ := three_put (v0 := .slice an ds.length cn) (v1 := .slice am ds.length cm) (v2 := .slice al ds.length cl) H3.out.2.2.1 (show w.heap.size ≤ w.heap.size + 1 by omega) H3.out.1
    have q0 := blk_cell p2 0 rfl
    have q1 := blk_cell p2 1 rfl
    have q2 := blk_cell p2 2 rfl
    refine bodyPost_ret (v := .tuple #[tv an ds.length cn am ds.length cm al ds.length cl, .int .i64 0]) (by simp [results, Try.results50, go_sem, q0, q1, q2]) rfl ?_
    have hl1 := (win_ok HX.out.2.2).2.1.1
    exact ⟨an, cn, am, cm, al, cl, rfl, ints_other H3.out.2.2.2.1 p3 p4 (ints_not H3.out.2.2.1 H3.out.2.2.2.1 (by simp; omega)), ints_other H3.out.2.2.2.2.1 p3 p4 (ints_not H3.out.2.2.1 H3.out.2.2.2.2.1 (by simp; omega)), ints_other H3.out.2.2.2.2.2 p3 p4 (ints_not H3.out.2.2.1 H3.out.2.2.2.2.2 (by simp; omega)), p1⟩)
end Go.Proofs.Ytpkegiekpnaejaa
