/-
The contracts of every over lists, and of checkWeather, over this seat's program.
  What is proved: checkWeather answers the error of a weather; nothing that was there before has turned.
  Conditions: a winter of at most 60 days; lists of at most 1000000 numbers.
The contracts of told, Stocks, Fails, Made, Worst and Why over this seat's program.
  What is proved: each answers what happens in a weather, or the error; nothing that was there before has turned.
  Conditions: a winter of at most 60 days; lists of at most 1000000 numbers.
What the memory holds while three lists in a box grow, each by one number that is built apart.
  What is proved: these facts go on from one step to the next, in whatever order the numbers are built.
  Conditions: each lemma states its own.
The contracts of the reference's checks of stadiums, rules and courses over this seat's program.
  What is proved: each answers the error that the program's own check answers.
  Conditions: slices of at most 1000000 elements.
The contracts of the reference's listed, uses and broken over this seat's program.
  What is proved: each answers what the program's own functions answer.
  Conditions: slices of at most 1000000 elements; for broken a stadium whose numbers are allowed, and a course of its loops.
The contracts of the reference's broken and Broken over this seat's program.
  What is proved: each answers what the program's own functions answer.
  Conditions: slices of at most 1000000 elements; for broken a stadium whose numbers are allowed, and a course of its loops.
The contracts of klisterkit.Clone, of the conversions to the reference's types, and of Equal for loops, over this seat's program.
  What is proved: a clone, and what is converted, read as the list that came in; Equal says whether two lists are the same.
  Conditions: lists of at most 1000 elements.
-/
import Derived.Test.YtmebmcipmemofaaGreatPart13
import Derived.Deep.DeepCutAuto
import Derived.Deep.RegionLaw
namespace Go.Proofs.YtmebmcipmemofaaGreat
open Go.RowKit Go.Shelf
attribute [local go_sem] Oper.semAt_some

/-- A list of lists, of which only the lengths are told. -/
def LensAt (w : World) (a : Option Addr) (ls : List Nat) : Prop := 0 < ls.length → ∃ b off, a = some ⟨b, off, none⟩ ∧ b < w.heap.size ∧ ∀ (j l : Nat), ls[j]? = some l → ∃ (x : Option Addr) (c : Nat), w.cell? ⟨b, off + j, none⟩ = some (.slice x l c)

set_option maxHeartbeats 1000000 in
theorem every_list (a : Option Addr) (xs : List Nat) (cap g : Nat) (lb : Array Value) (p : Nat → Bool) (w : World) (hx : LensAt w a xs) (hl : xs.length ≤ 1000000)
    (eg : ∀ args w, (callFunc g args).run Tryz.prog w = .ok (.enter g args) w)
    (hg : ∀ (x : Option Addr) (l c : Nat) (W : World), Below w.heap.size w W → Calls Tryz.prog g (#[.slice x l c] ++ lb) W fun e W' => e = .returned (.bool (p l)) ∧ Below W.heap.size W W') :
    Calls Tryz.prog 173 #[.slice a xs.length cap, .func (.func g) #[] lb] w fun e w' => e = .returned (.bool (xs.all p)) ∧ Below w.heap.size w w' := by
  have Hg := Lib.hid hg
  clear hg
  go_enter Tryz.func173, Tryz.ntmps173
  go_wp2
  go_loopw [9] (fun i wr => ∃ k : Nat, k ≤ xs.length ∧ i = .int .i64 k ∧ Hid ((xs.take k).all p = true) ∧ Below w.heap.size w wr) (fun i _ => xs.length - (intOf i).toNat)
  case atStart => exact ⟨0, Nat.zero_le _, rfl, by simp [Hid], Below.refl _ _⟩
  case round =>
    obtain ⟨k, hk, rfl, hall, hbw⟩ := hrel
    by_cases hlt : k < xs.length
    · obtain ⟨b, off, rfl, hbs, hc⟩ := hx (by omega)
      obtain ⟨x, c, hcx⟩ := hc k _ (List.getElem?_eq_getElem hlt)
      have hck := (hbw.cell (p := ⟨b, off + k, none⟩) hbs).trans hcx
      clear hc hcx
      go_wp2_with fail
      refine (Hg.out x xs[k] c _ (hbw)).mono ?_
      rintro e w1 ⟨rfl, hb1⟩
      have hb2 := below_self (hbw) hb1
      clear hbw hck hb1
      cases hp : p xs[k]
      · have HF := Lib.hid (all_false p xs k hlt hp)
        clear hp
        go_wp2
        go_ret
        exact ⟨by rw [HF.out]; rfl, hb2⟩
      · have HF := Lib.hid ((all_take_succ p xs k hlt).trans (by rw [hall.out, hp]))
        clear hp hall
        go_wp2
        go_roundw
        case rel => exact ⟨k + 1, by omega, by go_num, HF, hb2⟩
        case measure => simp [intOf]; omega
    · have : k = xs.length := by omega
      subst this
      rw [List.take_length] at hall
      go_wp2
      go_ret
      exact ⟨by rw [hall.out]; rfl, hbw⟩

theorem eg147 : ∀ args w, (callFunc 174 args).run Tryz.prog w = .ok (.enter 174 args) w := enters_of Tryz.func174 (by kernel_rfl) rfl
set_option maxHeartbeats 400000 in
theorem checkWeather1_any (x : Option Addr) (l c B n : Nat) (v0 v1 : Value) (a : Option Addr) (cap : Nat) (w : World) (h : w.heap[B]? = some (.cells #[v0, v1, .slice a n cap] 56 (0, 0))) (_hl : n ≤ 1000000) :
    Calls Tryz.prog 174 #[.slice x l c, .pointer (some ⟨B, 0, none⟩)] w fun e w' => e = .returned (.bool (decide (l = n))) ∧ Below w.heap.size w w' := by
  have c2 := blk_cell h 2 rfl
  go_enter Tryz.func174, Tryz.ntmps174
  go_wp2
  go_ret
  refine ⟨?_, Below.refl _ _⟩
  have e : ((l : Int) == (n : Int)) = decide (l = n) := by rw [Bool.eq_iff_iff]; simp only [beq_iff_eq, decide_eq_true_eq]; exact ⟨fun h => by omega, fun h => by omega⟩
  show Ending.returned (Value.bool ((l : Int) == (n : Int))) = _
  rw [e]

theorem lens3 {W : World} {B : Nat} {t : TypeId} {x y z : Option Addr} {l m n c d e : Nat} (h : W.heap[B]? = some (.cells #[.slice x l c, .slice y m d, .slice z n e] t (0, 0))) : LensAt W (some ⟨B, 0, none⟩) [l, m, n] := fun _ => by
  refine ⟨B, 0, rfl, lt_of_block h, fun j u hu => ?_⟩
  rw [cell_of_row W B _ _ _ _ h]
  match j, hu with
  | 0, hu => cases hu; exact ⟨x, c, rfl⟩
  | 1, hu => cases hu; exact ⟨y, d, rfl⟩
  | 2, hu => cases hu; exact ⟨z, e, rfl⟩
  | (j+3), hu => simp at hu

theorem inside_ok {n : Int} {s : Sp} (h : insideB n s = true) : s.lo ≤ n ∧ n ≤ s.hi := by
  simp [insideB, withinB] at h; exact h
theorem inside_of {n : Int} {s : Sp} (h : s.lo ≤ n ∧ n ≤ s.hi) : insideB n s = true := by
  simp [insideB, withinB]; exact h
/-- The error of a weather. -/
def skyB (ds : List Dy) (N M L : List Int) (k : Nat) : Bool := match ds[k]? with
  | none => true
  | some d => insideB (N[k]?.getD 0) d.need && (insideB (M[k]?.getD 0) d.make && insideB (L[k]?.getD 0) d.loss)
def skyE (ds : List Dy) (N M L : List Int) : Int := if ([N.length, M.length, L.length].all fun l => decide (l = ds.length)) = true then (if ((List.range ds.length).all (skyB ds N M L)) = true then 0 else 3) else 2

/-- A weather, as a value. -/
abbrev tv (an : Option Addr) (n1 cn : Nat) (am : Option Addr) (n2 cm : Nat) (al : Option Addr) (n3 cl : Nat) : Value := .agg #[.slice an n1 cn, .slice am n2 cm, .slice al n3 cl]

/-- What checkWeather's memory holds at one day. -/
def WQ (W : World) (T D : Nat) (vt : Array Value) (d : Dy) (b1 o1 b2 o2 b3 o3 k : Nat) (nk mk lk : Int) : Prop :=
  W.heap[T]? = some (.cells vt 58 (0, 0)) ∧ W.heap[D]? = some (.cells #[.int .i64 d.need.lo, .int .i64 d.need.hi, .int .i64 d.make.lo, .int .i64 d.make.hi, .int .i64 d.loss.lo, .int .i64 d.loss.hi] 97 (0, 0)) ∧
  (b1 < W.heap.size ∧ W.cell? ⟨b1, o1 + k, none⟩ = some (.int .i64 nk)) ∧ (b2 < W.heap.size ∧ W.cell? ⟨b2, o2 + k, none⟩ = some (.int .i64 mk)) ∧ (b3 < W.heap.size ∧ W.cell? ⟨b3, o3 + k, none⟩ = some (.int .i64 lk))
theorem WQ.below {W W' : World} {T D : Nat} {vt : Array Value} {d : Dy} {b1 o1 b2 o2 b3 o3 k : Nat} {nk mk lk : Int} (h : WQ W T D vt d b1 o1 b2 o2 b3 o3 k nk mk lk) (hb : Below W.heap.size W W') : WQ W' T D vt d b1 o1 b2 o2 b3 o3 k nk mk lk := by
  obtain ⟨h1, h2, ⟨a1, a2⟩, ⟨c1, c2⟩, e1, e2⟩ := h
  exact ⟨blk_below h1 hb, blk_below h2 hb, ⟨Nat.lt_of_lt_of_le a1 hb.size, (hb.cell (p := ⟨b1, o1 + k, none⟩) a1).trans a2⟩, ⟨Nat.lt_of_lt_of_le c1 hb.size, (hb.cell (p := ⟨b2, o2 + k, none⟩) c1).trans c2⟩, Nat.lt_of_lt_of_le e1 hb.size, (hb.cell (p := ⟨b3, o3 + k, none⟩) e1).trans e2⟩

theorem past_drew' {X w2 : World} (hb : Below X.drew.heap.size X.drew w2) : Below X.heap.size X w2 := ⟨hb.os, hb.tape, hb.output, hb.size, hb.block⟩
theorem day_step {w w1 W W' : World} {T D : Nat} {vt : Array Value} {d : Dy} {b1 o1 b2 o2 b3 o3 k : Nat} {nk mk lk : Int} (h : WQ W T D vt d b1 o1 b2 o2 b3 o3 k nk mk lk ∧ Below w.heap.size w W ∧ Below w1.heap.size w1 W) (hb : Below W.heap.size W W') :
    WQ W' T D vt d b1 o1 b2 o2 b3 o3 k nk mk lk ∧ Below w.heap.size w W' ∧ Below w1.heap.size w1 W' := ⟨h.1.below hb, below_self h.2.1 hb, below_self h.2.2 hb⟩

set_option maxRecDepth 100000 in
set_option maxHeartbeats 2000000 in
theorem checkWeather_any (stock store : Int) (a : Option Addr) (ds : List Dy) (cap : Nat) (an : Option Addr) (N : List Int) (cn : Nat) (am : Option Addr) (M : List Int) (cm : Nat) (al : Option Addr) (L : List Int) (cl : Nat) (w : World)
    (hx : Sl 6 Dy.cells w a ds) (hl : ds.length ≤ 60) (hN : IntSl w an N) (hM : IntSl w am M) (hL : IntSl w al L) (hs : Sky ds N M L) :
    Calls Tryz.prog 141 #[wv stock store a ds.length cap, tv an N.length cn am M.length cm al L.length cl] w fun e w' => e = .returned (.int .i64 0) ∧ Below w.heap.size w w' := by
  have HX := Lib.hid (And.intro hx (And.intro hN (And.intro hM hL)))
  have HSK := Lib.hid hs
  clear hx hN hM hL hs
  obtain ⟨Wa, hWa⟩ : ∃ Wa, (w.alloc (.cells #[.int .i64 stock, .int .i64 store, .slice a ds.length cap] 56)).alloc (.cells #[.slice an N.length cn, .slice am M.length cm, .slice al L.length cl] 58) = Wa := ⟨_, rfl⟩
  have hba : Below w.heap.size w Wa := by rw [← hWa]; exact ((Below.refl _ _).alloc (Nat.le_refl _) _).alloc (by simp) _
  have h0 : Wa.heap[w.heap.size]? = some (.cells #[.int .i64 stock, .int .i64 store, .slice a ds.length cap] 56 (0, 0)) := by rw [← hWa]; exact alk (new_at rfl)
  have h1 : Wa.heap[w.heap.size + 1]? = some (.cells #[.slice an N.length cn, .slice am M.length cm, .slice al L.length cl] 58 (0, 0)) := by rw [← hWa]; exact new_at (by simp)
  have a0 := blk_cell h1 0 rfl
  have a1 := blk_cell h1 1 rfl
  have a2 := blk_cell h1 2 rfl
  go_enter Tryz.func141, Tryz.ntmps141
  go_wp2_with (fail)
  clear hWa a0 a1 a2
  have hb2 : Below w.heap.size w (Wa.alloc (.cells #[.slice an N.length cn, .slice am M.length cm, .slice al L.length cl] 27)) := hba.alloc hba.size _
  refine (every_list (some ⟨Wa.heap.size, 0, none⟩) [N.length, M.length, L.length] 3 174 #[.pointer (some ⟨w.heap.size, 0, none⟩)] (fun l => decide (l = ds.length)) _ (lens3 (heap_alloc_new _ _)) (by simp) eg147 (fun x l c W hW => checkWeather1_any x l c w.heap.size ds.length _ _ a cap W (blk_below (alk h0) hW) (by omega))).mono ?_
  rintro e w1 ⟨rfl, hb⟩
  have H1 := Lib.hid (And.intro (below_self hb2 hb) (And.intro (blk_below (alk h0) hb) (blk_below (alk h1) hb)))
  clear hb hb2 hba h0 h1
  have HLn : Hid (N.length = ds.length ∧ M.length = ds.length ∧ L.length = ds.length) := HSK.out.1
  have hlen : ([N.length, M.length, L.length].all (fun l => decide (l = ds.length))) = true := by
    obtain ⟨h1, h2, h3⟩ := HSK.out.1
    simp [h1, h2, h3]
  rw [hlen]
  clear hlen
  have c2 := blk_cell H1.out.2.1 2 rfl
  go_wp2_with (fail)
  clear c2
  go_loopw [22] (fun i wr => ∃ k : Nat, k ≤ ds.length ∧ i = .int .i64 k ∧ Below w1.heap.size w1 wr) (fun i _ => ds.length - (intOf i).toNat)
  case atStart => exact ⟨0, Nat.zero_le _, rfl, Below.refl _ _⟩
  case round =>
    obtain ⟨k, hk, rfl, hbw⟩ := hrel
    by_cases hlt : k < ds.length
    · obtain ⟨b, off, rfl, hbs, hc⟩ := HX.out.1 (by omega)
      obtain ⟨b1, o1, rfl, hb1, hc1⟩ := HX.out.2.1 (by have := HLn.out; omega)
      obtain ⟨b2, o2, rfl, hb2, hc2⟩ := HX.out.2.2.1 (by have := HLn.out; omega)
      obtain ⟨b3, o3, rfl, hb3, hc3⟩ := HX.out.2.2.2 (by have := HLn.out; omega)
      have HB := Lib.hid (below_self H1.out.1 hbw)
      have HS : Hid (insideB (N[k]?.getD 0) ds[k].need = true ∧ insideB (M[k]?.getD 0) ds[k].make = true ∧ insideB (L[k]?.getD 0) ds[k].loss = true) := by
        obtain ⟨h1, h2, h3⟩ := HSK.out.2 k _ (List.getElem?_eq_getElem hlt)
        exact ⟨inside_of h1, inside_of h2, inside_of h3⟩
      have d0 := (HB.out.cell (p := ⟨b, off + k * 6, none⟩) hbs).trans (hc k ds[k] 0 _ (List.getElem?_eq_getElem hlt) rfl)
      have d1 := (HB.out.cell (p := ⟨b, off + k * 6 + 1, none⟩) hbs).trans (hc k ds[k] 1 _ (List.getElem?_eq_getElem hlt) rfl)
      have d2 := (HB.out.cell (p := ⟨b, off + k * 6 + 2, none⟩) hbs).trans (hc k ds[k] 2 _ (List.getElem?_eq_getElem hlt) rfl)
      have d3 := (HB.out.cell (p := ⟨b, off + k * 6 + 3, none⟩) hbs).trans (hc k ds[k] 3 _ (List.getElem?_eq_getElem hlt) rfl)
      have d4 := (HB.out.cell (p := ⟨b, off + k * 6 + 4, none⟩) hbs).trans (hc k ds[k] 4 _ (List.getElem?_eq_getElem hlt) rfl)
      have d5 := (HB.out.cell (p := ⟨b, off + k * 6 + 5, none⟩) hbs).trans (hc k ds[k] 5 _ (List.getElem?_eq_getElem hlt) rfl)
      have e1 := (HB.out.cell (p := ⟨b1, o1 + k, none⟩) hb1).trans (hc1 k (by have := HLn.out; omega))
      have e2 := (HB.out.cell (p := ⟨b2, o2 + k, none⟩) hb2).trans (hc2 k (by have := HLn.out; omega))
      have e3 := (HB.out.cell (p := ⟨b3, o3 + k, none⟩) hb3).trans (hc3 k (by have := HLn.out; omega))
      clear hc hc1 hc2 hc3
      generalize ds[k] = d at *
      generalize N[k]?.getD 0 = nk at *
      generalize M[k]?.getD 0 = mk at *
      generalize L[k]?.getD 0 = lk at *
      obtain ⟨Wd, hWd⟩ : ∃ Wd, wr.alloc (.cells #[.int .i64 d.need.lo, .int .i64 d.need.hi, .int .i64 d.make.lo, .int .i64 d.make.hi, .int .i64 d.loss.lo, .int .i64 d.loss.hi] 97) = Wd := ⟨_, rfl⟩
      have HQ : Hid (WQ Wd (w.heap.size + 1) wr.heap.size #[.slice (some ⟨b1, o1, none⟩) N.length cn, .slice (some ⟨b2, o2, none⟩) M.length cm, .slice (some ⟨b3, o3, none⟩) L.length cl] d b1 o1 b2 o2 b3 o3 k nk mk lk ∧ Below w.heap.size w Wd ∧ Below w1.heap.size w1 Wd) := by
        rw [← hWd]
        have q1 := HB.out.size
        exact ⟨⟨alk (blk_below H1.out.2.2 hbw), heap_alloc_new _ _, ⟨by simp; omega, (World.cell?_alloc_lt _ _ _ (by show b1 < _; omega)).trans e1⟩, ⟨by simp; omega, (World.cell?_alloc_lt _ _ _ (by show b2 < _; omega)).trans e2⟩, by simp; omega, (World.cell?_alloc_lt _ _ _ (by show b3 < _; omega)).trans e3⟩, HB.out.alloc HB.out.size _, hbw.alloc hbw.size _⟩
      clear e1 e2 e3
      go_upto_region 7 with (fail)
      clear hWd d0 d1 d2 d3 d4 d5
      have t0 := blk_cell HQ.out.1.1 0 rfl
      have t1 := blk_cell HQ.out.1.1 1 rfl
      have t2 := blk_cell HQ.out.1.1 2 rfl
      have x0 := blk_cell HQ.out.1.2.1 0 rfl
      have x1 := blk_cell HQ.out.1.2.1 1 rfl
      have x2 := blk_cell HQ.out.1.2.1 2 rfl
      have x3 := blk_cell HQ.out.1.2.1 3 rfl
      have x4 := blk_cell HQ.out.1.2.1 4 rfl
      have x5 := blk_cell HQ.out.1.2.1 5 rfl
      have y1 := HQ.out.1.2.2.1.2
      have y2 := HQ.out.1.2.2.2.1.2
      have y3 := HQ.out.1.2.2.2.2.2
      have lN : k < N.length := by have := HLn.out; omega
      have lM : k < M.length := by have := HLn.out; omega
      have lL : k < L.length := by have := HLn.out; omega
      go_region_held3 (fun w' => w'.cell? ⟨w.heap.size + 1, 0, none⟩ = some (.slice (some ⟨b1, o1, none⟩) N.length cn) ∧ w'.cell? ⟨w.heap.size + 1, 1, none⟩ = some (.slice (some ⟨b2, o2, none⟩) M.length cm) ∧ w'.cell? ⟨w.heap.size + 1, 2, none⟩ = some (.slice (some ⟨b3, o3, none⟩) L.length cl) ∧ w'.cell? ⟨wr.heap.size, 0, none⟩ = some (.int .i64 d.need.lo) ∧ w'.cell? ⟨wr.heap.size, 1, none⟩ = some (.int .i64 d.need.hi) ∧ w'.cell? ⟨wr.heap.size, 2, none⟩ = some (.int .i64 d.make.lo) ∧ w'.cell? ⟨wr.heap.size, 3, none⟩ = some (.int .i64 d.make.hi) ∧ w'.cell? ⟨wr.heap.size, 4, none⟩ = some (.int .i64 d.loss.lo) ∧ w'.cell? ⟨wr.heap.size, 5, none⟩ = some (.int .i64 d.loss.hi) ∧ w'.cell? ⟨b1, o1 + k, none⟩ = some (.int .i64 nk) ∧ w'.cell? ⟨b2, o2 + k, none⟩ = some (.int .i64 mk) ∧ w'.cell? ⟨b3, o3 + k, none⟩ = some (.int .i64 lk)) (go_keep)
(first | (go_at_call 147; refine (inside_any _ _ _).mono ?_; rintro e w5 ⟨rfl, hb5⟩; (first | rw [HS.out.1] | rw [HS.out.2.1] | rw [HS.out.2.2]); have HQ2 := Lib.hid (day_step HQ.out (by first | exact past_drew' hb5 | exact hb5)); clear hb5 t0 t1 t2 x0 x1 x2 x3 x4 x5 y1 y2 y3 HQ; have HQ := HQ2; clear HQ2; have t0 := blk_cell HQ.out.1.1 0 rfl; have t1 := blk_cell HQ.out.1.1 1 rfl; have t2 := blk_cell HQ.out.1.1 2 rfl; have x0 := blk_cell HQ.out.1.2.1 0 rfl; have x1 := blk_cell HQ.out.1.2.1 1 rfl; have x2 := blk_cell HQ.out.1.2.1 2 rfl; have x3 := blk_cell HQ.out.1.2.1 3 rfl; have x4 := blk_cell HQ.out.1.2.1 4 rfl; have x5 := blk_cell HQ.out.1.2.1 5 rfl; have y1 := HQ.out.1.2.2.1.2; have y2 := HQ.out.1.2.2.2.1.2; have y3 := HQ.out.1.2.2.2.2.2))
      all_goals (
        clear t0 t1 t2 x0 x1 x2 x3 x4 x5 y1 y2 y3
        go_wp2_with (fail)
        go_roundw
        case rel => exact ⟨k + 1, by omega, by go_num, HQ.out.2.2⟩
        case measure => simp [intOf]; omega)
    · have : k = ds.length := by omega
      subst this
      go_wp2_with (fail)
      go_ret
      exact ⟨rfl, below_self H1.out.1 hbw⟩
end Go.Proofs.YtmebmcipmemofaaGreat

namespace Go.Proofs.YtmebmcipmemofaaGreat
open Go.RowKit Go.Shelf
attribute [local go_sem] Oper.semAt_some

theorem get_map' {f : Dy → Int} {ds : List Dy} {p : Nat} {d : Dy} (h : ds[p]? = some d) : (ds.map f)[p]?.getD 0 = f d := by rw [map_getD, h]
/-- What told hands back. -/
def OutTold (w : World) (x : Ps) (e : Ending) (w' : World) : Prop := ∃ sa sc ma mc pa pn pc, e = .returned (.tuple #[.agg #[.slice sa x.stocks.length sc, .slice ma x.made.length mc, .slice pa pn pc, .int .i64 x.fails, .int .i64 x.full], .int .i64 0]) ∧ (IntSl w' sa x.stocks ∧ ∀ p, sa = some p → w.heap.size ≤ p.block) ∧ (IntSl w' ma x.made ∧ ∀ p, ma = some p → w.heap.size ≤ p.block) ∧ Below w.heap.size w w'
theorem fld1 (a b c : Option Addr) (n1 c1 n2 c2 n3 c3 : Nat) (x y : Int) (w : World) : (Instr.field 163 (.agg #[.slice a n1 c1, .slice b n2 c2, .slice c n3 c3, .int .i64 x, .int .i64 y]) 1).run Tryz.prog w = .ok (.slice b n2 c2) w := by kernel_rfl

set_option maxRecDepth 100000 in
set_option maxHeartbeats 2000000 in
theorem told_any (stock store : Int) (a : Option Addr) (ds : List Dy) (cap : Nat) (an : Option Addr) (N : List Int) (cn : Nat) (am : Option Addr) (M : List Int) (cm : Nat) (al : Option Addr) (L : List Int) (cl : Nat) (w : World)
    (hx : Sl 6 Dy.cells w a ds) (hN : IntSl w an N) (hM : IntSl w am M) (hL : IntSl w al L) (hw : winE stock store ds = 0) (hs : Sky ds N M L) :
    Calls Tryz.prog 94 #[wv stock store a ds.length cap, tv an ds.length cn am ds.length cm al ds.length cl] w (OutTold w (playL stock store N M L ds.length)) := by
  have HX := Lib.hid (And.intro hx (And.intro hN (And.intro hM (And.intro hL (And.intro hw hs)))))
  obtain ⟨b1, b2, b3⟩ := win_ok hw
  have HOK := Lib.hid (And.intro b1 (And.intro b2 b3))
  clear hx hN hM hL hw hs b1 b2 b3
  generalize hS : playL stock store N M L ds.length = s
  have HS := Lib.hid hS
  clear hS
  obtain ⟨Wa, hWa⟩ : ∃ Wa, ((w.alloc (.cells #[.int .i64 stock, .int .i64 store, .slice a ds.length cap] 56)).alloc (.cells #[.slice an ds.length cn, .slice am ds.length cm, .slice al ds.length cl] 58)).alloc (.cells #[.slice none 0 0, .slice none 0 0, .slice none 0 0, .int .i64 0, .int .i64 0] 163) = Wa := ⟨_, rfl⟩
  have hba : Below w.heap.size w Wa := by rw [← hWa]; exact (((Below.refl _ _).alloc (Nat.le_refl _) _).alloc (by simp) _).alloc (by simp; omega) _
  have h0 : Wa.heap[w.heap.size]? = some (.cells #[.int .i64 stock, .int .i64 store, .slice a ds.length cap] 56 (0, 0)) := by rw [← hWa]; exact alk (alk (new_at rfl))
  have h1 : Wa.heap[w.heap.size + 1]? = some (.cells #[.slice an ds.length cn, .slice am ds.length cm, .slice al ds.length cl] 58 (0, 0)) := by rw [← hWa]; exact alk (new_at (by simp))
  have h2 : Wa.heap[w.heap.size + 1 + 1]? = some (.cells #[.slice none 0 0, .slice none 0 0, .slice none 0 0, .int .i64 0, .int .i64 0] 163 (0, 0)) := by rw [← hWa]; exact new_at (by simp)
  have a0 := blk_cell h0 0 rfl
  have a1 := blk_cell h0 1 rfl
  have a2 := blk_cell h0 2 rfl
  have HW0 := Lib.hid (And.intro hba (And.intro h0 (And.intro h1 h2)))
  clear hba h0 h1 h2
  go_enter Tryz.func94, Tryz.ntmps94
  go_wp2_with (fail)
  clear hWa a0 a1 a2
  refine (checkWinter_any stock store a ds cap _ (HX.out.1.below HW0.out.1) (by have := HOK.out.2.1.2; omega)).mono ?_
  rintro e w1 ⟨rfl, hb1⟩
  rw [HX.out.2.2.2.2.1]
  have H1 := Lib.hid (And.intro (below_self HW0.out.1 hb1) (And.intro (blk_below HW0.out.2.1 hb1) (And.intro (blk_below HW0.out.2.2.1 hb1) (blk_below HW0.out.2.2.2 hb1))))
  clear hb1
  have a0 := blk_cell H1.out.2.1 0 rfl
  have a1 := blk_cell H1.out.2.1 1 rfl
  have a2 := blk_cell H1.out.2.1 2 rfl
  have a3 := blk_cell H1.out.2.2.1 0 rfl
  have a4 := blk_cell H1.out.2.2.1 1 rfl
  have a5 := blk_cell H1.out.2.2.1 2 rfl
  go_wp2_with (fail)
  clear a0 a1 a2 a3 a4 a5
  have HC := checkWeather_any stock store a ds cap an N cn am M cm al L cl w1 (HX.out.1.below H1.out.1) HOK.out.2.1.2 (HX.out.2.1.below H1.out.1) (HX.out.2.2.1.below H1.out.1) (HX.out.2.2.2.1.below H1.out.1) HX.out.2.2.2.2.2
  rw [HX.out.2.2.2.2.2.1.1, HX.out.2.2.2.2.2.1.2.1, HX.out.2.2.2.2.2.1.2.2] at HC
  refine HC.mono ?_
  rintro e w2 ⟨rfl, hb2⟩
  have H2 := Lib.hid (And.intro (below_self H1.out.1 hb2) (And.intro (blk_below H1.out.2.1 hb2) (And.intro (blk_below H1.out.2.2.1 hb2) (blk_below H1.out.2.2.2 hb2))))
  clear hb2 HC
  have a0 := blk_cell H2.out.2.1 0 rfl
  have a1 := blk_cell H2.out.2.1 1 rfl
  have a2 := blk_cell H2.out.2.1 2 rfl
  have a3 := blk_cell H2.out.2.2.1 0 rfl
  have a4 := blk_cell H2.out.2.2.1 1 rfl
  have a5 := blk_cell H2.out.2.2.1 2 rfl
  have y0 := blk_free (j := 0) H2.out.2.2.2
  have y1 := blk_free (j := 1) H2.out.2.2.2
  have y2 := blk_free (j := 2) H2.out.2.2.2
  have y3 := blk_free (j := 3) H2.out.2.2.2
  have y4 := blk_free (j := 4) H2.out.2.2.2
  go_wp2_with (fail)
  have HC := play_fresh stock store a ds.length cap an N cn am M cm al L cl w2 (HX.out.2.1.below H2.out.1) (HX.out.2.2.1.below H2.out.1) (HX.out.2.2.2.1.below H2.out.1) HX.out.2.2.2.2.2.1.1 HX.out.2.2.2.2.2.1.2.1 HX.out.2.2.2.2.2.1.2.2 HOK.out.2.1.2 ⟨HOK.out.1.1, HOK.out.1.2.1, HOK.out.1.2.2.2⟩ (HX.out.2.2.2.2.2.bd HOK.out.2.2)
  rw [HS.out] at HC
  refine HC.mono ?_
  rintro e w3 ⟨sa, sc, ma, mc, pa, pn, pc, rfl, hs, hm, hb3⟩
  have H3 := Lib.hid (And.intro (below_self H2.out.1 hb3) (And.intro (blk_below H2.out.2.2.2 hb3) (And.intro hs (And.intro hm (lt_of_block H2.out.2.2.2)))))
  clear HC hb3 hs hm a0 a1 a2 a3 a4 a5 y0 y1 y2 y3 y4
  have z0 := blk_cell H3.out.2.1 0 rfl
  have z1 := blk_cell H3.out.2.1 1 rfl
  have z2 := blk_cell H3.out.2.1 2 rfl
  have z3 := blk_cell H3.out.2.1 3 rfl
  have z4 := blk_cell H3.out.2.1 4 rfl
  have y0 := blk_free (j := 0) H3.out.2.1
  have y1 := blk_free (j := 1) H3.out.2.1
  have y2 := blk_free (j := 2) H3.out.2.1
  have y3 := blk_free (j := 3) H3.out.2.1
  have y4 := blk_free (j := 4) H3.out.2.1
  go_wp2_with (fail)
  obtain ⟨p1, p2, p3, p4⟩ := five_put (v0 := .slice sa s.stocks.length sc) (v1 := .slice ma s.made.length mc) (v2 := .slice pa pn pc) (v3 := .int .i64 s.fails) (v4 := .int .i64 s.full) H3.out.2.1 (show w.heap.size ≤ w.heap.size + 1 + 1 by omega) H3.out.1
  have q0 := blk_cell p2 0 rfl
  have q1 := blk_cell p2 1 rfl
  have q2 := blk_cell p2 2 rfl
  have q3 := blk_cell p2 3 rfl
  have q4 := blk_cell p2 4 rfl
  refine bodyPost_ret (v := .tuple #[.agg #[.slice sa s.stocks.length sc, .slice ma s.made.length mc, .slice pa pn pc, .int .i64 s.fails, .int .i64 s.full], .int .i64 0]) (by simp [results, Tryz.results94, go_sem, q0, q1, q2, q3, q4]) rfl ?_
  have hlt := H3.out.2.2.2.2
  exact ⟨sa, sc, ma, mc, pa, pn, pc, rfl, ⟨ints_put H3.out.2.2.1.1 (Below.refl _ _) p3 p4 (fun p hp => by have := H3.out.2.2.1.2 p hp; omega), fun p hp => by have := H3.out.2.2.1.2 p hp; have := H2.out.1.size; omega⟩, ⟨ints_put H3.out.2.2.2.1.1 (Below.refl _ _) p3 p4 (fun p hp => by have := H3.out.2.2.2.1.2 p hp; omega), fun p hp => by have := H3.out.2.2.2.1.2 p hp; have := H2.out.1.size; omega⟩, p1⟩

section
variable (stock store : Int) (a : Option Addr) (ds : List Dy) (cap : Nat) (an : Option Addr) (N : List Int) (cn : Nat) (am : Option Addr) (M : List Int) (cm : Nat) (al : Option Addr) (L : List Int) (cl : Nat) (w : World)
  (hx : Sl 6 Dy.cells w a ds) (hN : IntSl w an N) (hM : IntSl w am M) (hL : IntSl w al L) (hw : winE stock store ds = 0) (hs : Sky ds N M L)
include hx hN hM hL hw hs

set_option maxRecDepth 100000 in
set_option maxHeartbeats 600000 in
theorem Stocks_any : Calls Tryz.prog 36 #[wv stock store a ds.length cap, tv an ds.length cn am ds.length cm al ds.length cl] w fun e w' => ∃ b c, e = .returned (.tuple #[.slice b (playL stock store N M L ds.length).stocks.length c, .int .i64 0]) ∧ (IntSl w' b (playL stock store N M L ds.length).stocks ∧ ∀ p, b = some p → w.heap.size ≤ p.block) ∧ Below w.heap.size w w' := by
  have HX := Lib.hid (And.intro hx (And.intro hN (And.intro hM (And.intro hL (And.intro hw hs)))))
  clear hx hN hM hL hw hs
  generalize hS : playL stock store N M L ds.length = s
  have HS := Lib.hid hS
  clear hS
  obtain ⟨Wa, hWa⟩ : ∃ Wa, (w.alloc (.cells #[.int .i64 stock, .int .i64 store, .slice a ds.length cap] 56)).alloc (.cells #[.slice an ds.length cn, .slice am ds.length cm, .slice al ds.length cl] 58) = Wa := ⟨_, rfl⟩
  have hba : Below w.heap.size w Wa := by rw [← hWa]; exact ((Below.refl _ _).alloc (Nat.le_refl _) _).alloc (by simp) _
  have h0 : Wa.heap[w.heap.size]? = some (.cells #[.int .i64 stock, .int .i64 store, .slice a ds.length cap] 56 (0, 0)) := by rw [← hWa]; exact alk (new_at rfl)
  have h1 : Wa.heap[w.heap.size + 1]? = some (.cells #[.slice an ds.length cn, .slice am ds.length cm, .slice al ds.length cl] 58 (0, 0)) := by rw [← hWa]; exact new_at (by simp)
  have a0 := blk_cell h0 0 rfl
  have a1 := blk_cell h0 1 rfl
  have a2 := blk_cell h0 2 rfl
  have a3 := blk_cell h1 0 rfl
  have a4 := blk_cell h1 1 rfl
  have a5 := blk_cell h1 2 rfl
  have HB := Lib.hid hba
  clear hba h0 h1
  go_enter Tryz.func36, Tryz.ntmps36
  go_wp2_with (fail)
  clear hWa a0 a1 a2 a3 a4 a5
  have HC := told_any stock store a ds cap an N cn am M cm al L cl Wa (HX.out.1.below HB.out) (HX.out.2.1.below HB.out) (HX.out.2.2.1.below HB.out) (HX.out.2.2.2.1.below HB.out) HX.out.2.2.2.2.1 HX.out.2.2.2.2.2
  rw [HS.out] at HC
  refine HC.mono ?_
  rintro e w1 ⟨sa, sc, ma, mc, pa, pn, pc, rfl, hs, hm, hb1⟩
  have H1 := Lib.hid (And.intro (below_self HB.out hb1) (And.intro hs hm))
  clear HC hb1 hs hm
  go_wp2_with (fail)
  go_ret2
  exact ⟨sa, sc, rfl, ⟨H1.out.2.1.1.below ((Below.refl _ _).alloc (Nat.le_refl _) _), fun p hp => by have := H1.out.2.1.2 p hp; have := HB.out.size; omega⟩, H1.out.1.alloc H1.out.1.size _⟩

set_option maxRecDepth 100000 in
set_option maxHeartbeats 600000 in
theorem Made_any : Calls Tryz.prog 37 #[wv stock store a ds.length cap, tv an ds.length cn am ds.length cm al ds.length cl] w fun e w' => ∃ b c, e = .returned (.tuple #[.slice b (playL stock store N M L ds.length).made.length c, .int .i64 0]) ∧ (IntSl w' b (playL stock store N M L ds.length).made ∧ ∀ p, b = some p → w.heap.size ≤ p.block) ∧ Below w.heap.size w w' := by
  have HX := Lib.hid (And.intro hx (And.intro hN (And.intro hM (And.intro hL (And.intro hw hs)))))
  clear hx hN hM hL hw hs
  generalize hS : playL stock store N M L ds.length = s
  have HS := Lib.hid hS
  clear hS
  obtain ⟨Wa, hWa⟩ : ∃ Wa, (w.alloc (.cells #[.int .i64 stock, .int .i64 store, .slice a ds.length cap] 56)).alloc (.cells #[.slice an ds.length cn, .slice am ds.length cm, .slice al ds.length cl] 58) = Wa := ⟨_, rfl⟩
  have hba : Below w.heap.size w Wa := by rw [← hWa]; exact ((Below.refl _ _).alloc (Nat.le_refl _) _).alloc (by simp) _
  have h0 : Wa.heap[w.heap.size]? = some (.cells #[.int .i64 stock, .int .i64 store, .slice a ds.length cap] 56 (0, 0)) := by rw [← hWa]; exact alk (new_at rfl)
  have h1 : Wa.heap[w.heap.size + 1]? = some (.cells #[.slice an ds.length cn, .slice am ds.length cm, .slice al ds.length cl] 58 (0, 0)) := by rw [← hWa]; exact new_at (by simp)
  have a0 := blk_cell h0 0 rfl
  have a1 := blk_cell h0 1 rfl
  have a2 := blk_cell h0 2 rfl
  have a3 := blk_cell h1 0 rfl
  have a4 := blk_cell h1 1 rfl
  have a5 := blk_cell h1 2 rfl
  have HB := Lib.hid hba
  clear hba h0 h1
  go_enter Tryz.func37, Tryz.ntmps37
  go_wp2_with (fail)
  clear hWa a0 a1 a2 a3 a4 a5
  have HC := told_any stock store a ds cap an N cn am M cm al L cl Wa (HX.out.1.below HB.out) (HX.out.2.1.below HB.out) (HX.out.2.2.1.below HB.out) (HX.out.2.2.2.1.below HB.out) HX.out.2.2.2.2.1 HX.out.2.2.2.2.2
  rw [HS.out] at HC
  refine HC.mono ?_
  rintro e w1 ⟨sa, sc, ma, mc, pa, pn, pc, rfl, hs, hm, hb1⟩
  have H1 := Lib.hid (And.intro (below_self HB.out hb1) (And.intro hs hm))
  clear HC hb1 hs hm
  go_wp2_with (fail)
  go_ret2
  exact ⟨ma, mc, rfl, ⟨H1.out.2.2.1.below ((Below.refl _ _).alloc (Nat.le_refl _) _), fun p hp => by have := H1.out.2.2.2 p hp; have := HB.out.size; omega⟩, H1.out.1.alloc H1.out.1.size _⟩

set_option maxRecDepth 100000 in
set_option maxHeartbeats 600000 in
theorem Fails_any : Calls Tryz.prog 35 #[wv stock store a ds.length cap, tv an ds.length cn am ds.length cm al ds.length cl] w fun e w' => e = .returned (.tuple #[.int .i64 (playL stock store N M L ds.length).fails, .int .i64 0]) ∧ Below w.heap.size w w' := by
  have HX := Lib.hid (And.intro hx (And.intro hN (And.intro hM (And.intro hL (And.intro hw hs)))))
  clear hx hN hM hL hw hs
  generalize hS : playL stock store N M L ds.length = s
  have HS := Lib.hid hS
  clear hS
  obtain ⟨Wa, hWa⟩ : ∃ Wa, (w.alloc (.cells #[.int .i64 stock, .int .i64 store, .slice a ds.length cap] 56)).alloc (.cells #[.slice an ds.length cn, .slice am ds.length cm, .slice al ds.length cl] 58) = Wa := ⟨_, rfl⟩
  have hba : Below w.heap.size w Wa := by rw [← hWa]; exact ((Below.refl _ _).alloc (Nat.le_refl _) _).alloc (by simp) _
  have h0 : Wa.heap[w.heap.size]? = some (.cells #[.int .i64 stock, .int .i64 store, .slice a ds.length cap] 56 (0, 0)) := by rw [← hWa]; exact alk (new_at rfl)
  have h1 : Wa.heap[w.heap.size + 1]? = some (.cells #[.slice an ds.length cn, .slice am ds.length cm, .slice al ds.length cl] 58 (0, 0)) := by rw [← hWa]; exact new_at (by simp)
  have a0 := blk_cell h0 0 rfl
  have a1 := blk_cell h0 1 rfl
  have a2 := blk_cell h0 2 rfl
  have a3 := blk_cell h1 0 rfl
  have a4 := blk_cell h1 1 rfl
  have a5 := blk_cell h1 2 rfl
  have HB := Lib.hid hba
  clear hba h0 h1
  go_enter Tryz.func35, Tryz.ntmps35
  go_wp2_with (fail)
  clear hWa a0 a1 a2 a3 a4 a5
  have HC := told_any stock store a ds cap an N cn am M cm al L cl Wa (HX.out.1.below HB.out) (HX.out.2.1.below HB.out) (HX.out.2.2.1.below HB.out) (HX.out.2.2.2.1.below HB.out) HX.out.2.2.2.2.1 HX.out.2.2.2.2.2
  rw [HS.out] at HC
  refine HC.mono ?_
  rintro e w1 ⟨sa, sc, ma, mc, pa, pn, pc, rfl, hs, hm, hb1⟩
  have H1 := Lib.hid (And.intro (below_self HB.out hb1) (And.intro hs hm))
  clear HC hb1 hs hm
  go_wp2_with (fail)
  go_ret2
  exact ⟨rfl, H1.out.1.alloc H1.out.1.size _⟩
end

/-- The worst weather. -/
theorem worst_sky {ds : List Dy} (hd : ∀ d ∈ ds, DayOk d) : Sky ds (ds.map fun d => d.need.hi) (ds.map fun d => d.make.lo) (ds.map fun d => d.loss.hi) := by
  refine ⟨⟨by simp, by simp, by simp⟩, fun k d h => ?_⟩
  rw [get_map' h, get_map' h, get_map' h]
  obtain ⟨a, b, c⟩ := hd d (List.mem_of_getElem? h)
  omega

theorem fldS (x y : Int) (a b c d : Option Addr) (n1 c1 n2 c2 n3 c3 n4 c4 : Nat) (w : World) : (Instr.field 156 (.agg #[.int .i64 x, .int .i64 y, .slice a n1 c1, .slice b n2 c2, .slice c n3 c3, .slice d n4 c4]) 1).run Tryz.prog w = .ok (.agg #[.slice b n2 c2, .slice c n3 c3, .slice d n4 c4]) w := by kernel_rfl
theorem three_put {w W : World} {B : Nat} {t : TypeId} {u0 u1 u2 v0 v1 v2 : Value} (h : W.heap[B]? = some (.cells #[u0, u1, u2] t (0, 0))) (hB : w.heap.size ≤ B) (k : Below w.heap.size w W) :
    Below w.heap.size w (((W.setCell ⟨B, 0, none⟩ v0).setCell ⟨B, 1, none⟩ v1).setCell ⟨B, 2, none⟩ v2) ∧ (((W.setCell ⟨B, 0, none⟩ v0).setCell ⟨B, 1, none⟩ v1).setCell ⟨B, 2, none⟩ v2).heap[B]? = some (.cells #[v0, v1, v2] t (0, 0)) ∧ (∀ k, k ≠ B → (((W.setCell ⟨B, 0, none⟩ v0).setCell ⟨B, 1, none⟩ v1).setCell ⟨B, 2, none⟩ v2).heap[k]? = W.heap[k]?) ∧ W.heap.size ≤ (((W.setCell ⟨B, 0, none⟩ v0).setCell ⟨B, 1, none⟩ v1).setCell ⟨B, 2, none⟩ v2).heap.size :=
  ⟨((k.setCell (p := ⟨B, 0, none⟩) hB _).setCell (p := ⟨B, 1, none⟩) hB _).setCell (p := ⟨B, 2, none⟩) hB _,
   blk_setCell (j := 2) (u := v2) (blk_setCell (j := 1) (u := v1) (blk_setCell (j := 0) (u := v0) h)),
   fun _ hk => (Below.heap_setCell _ _ _ _ hk).trans ((Below.heap_setCell _ _ _ _ hk).trans (Below.heap_setCell _ _ _ _ hk)), by simp only [World.size_setCell]; exact Nat.le_refl _⟩

theorem ints_other {W W' : World} {B : Nat} {a : Option Addr} {xs : List Int} (h : IntSl W a xs) (hk : ∀ k, k ≠ B → W'.heap[k]? = W.heap[k]?) (hs : W.heap.size ≤ W'.heap.size) (hn : ∀ p, a = some p → p.block ≠ B) : IntSl W' a xs := fun h0 => by
  obtain ⟨b, off, rfl, hb, hc⟩ := h h0
  have hne : b ≠ B := hn _ rfl
  exact ⟨b, off, rfl, Nat.lt_of_lt_of_le hb hs, fun j hj => (World.cell?_of_block (w := W) (a := ⟨b, off + j, none⟩) (hk b hne)).trans (hc j hj)⟩
theorem ints_not {W : World} {B : Nat} {t : TypeId} {x y z : Option Addr} {l m n c d e : Nat} (h : W.heap[B]? = some (.cells #[.slice x l c, .slice y m d, .slice z n e] t (0, 0))) {a : Option Addr} {xs : List Int} (hx : IntSl W a xs) (h0 : 0 < xs.length) : ∀ p, a = some p → p.block ≠ B := by
  obtain ⟨b, off, rfl, hb, hc⟩ := hx h0
  intro p hp
  cases hp
  intro e
  have hbB : b = B := e
  subst hbB
  have h1 := hc 0 h0
  rw [cell_of_row W b _ _ _ _ h] at h1
  match off, h1 with
  | 0, h1 | 1, h1 | 2, h1 => simp at h1
  | (k+3), h1 => simp at h1

set_option maxRecDepth 100000 in
set_option maxHeartbeats 1000000 in
/-- The worst weather is handed back. -/
theorem Worst_any (stock store : Int) (a : Option Addr) (ds : List Dy) (cap : Nat) (w : World) (hx : Sl 6 Dy.cells w a ds) (hl : ds.length ≤ 1000000) (hw : winE stock store ds = 0) :
    Calls Tryz.prog 31 #[wv stock store a ds.length cap] w fun e w' => ∃ an cn am cm al cl, e = .returned (.tuple #[tv an ds.length cn am ds.length cm al ds.length cl, .int .i64 0]) ∧ IntSl w' an (ds.map fun d => d.need.hi) ∧ IntSl w' am (ds.map fun d => d.make.lo) ∧ IntSl w' al (ds.map fun d => d.loss.hi) ∧ Below w.heap.size w w' := by
  have HX := Lib.hid (And.intro hx (And.intro hl hw))
  clear hx hl hw
  have HD := Lib.hid (win_ok HX.out.2.2).2.2
  obtain ⟨Wa, hWa⟩ : ∃ Wa, (w.alloc (.cells #[.int .i64 stock, .int .i64 store, .slice a ds.length cap] 56)).alloc (.cells #[.slice none 0 0, .slice none 0 0, .slice none 0 0] 58) = Wa := ⟨_, rfl⟩
  have hba : Below w.heap.size w Wa := by rw [← hWa]; exact ((Below.refl _ _).alloc (Nat.le_refl _) _).alloc (by simp) _
  have h0 : Wa.heap[w.heap.size]? = some (.cells #[.int .i64 stock, .int .i64 store, .slice a ds.length cap] 56 (0, 0)) := by rw [← hWa]; exact alk (new_at rfl)
  have h1 : Wa.heap[w.heap.size + 1]? = some (.cells #[.slice none 0 0, .slice none 0 0, .slice none 0 0] 58 (0, 0)) := by rw [← hWa]; exact new_at (by simp)
  have a0 := blk_cell h0 0 rfl
  have a1 := blk_cell h0 1 rfl
  have a2 := blk_cell h0 2 rfl
  have HW0 := Lib.hid (And.intro hba (And.intro h0 h1))
  clear hba h0 h1
  go_enter Tryz.func31, Tryz.ntmps31
  go_wp2_with (fail)
  clear hWa a0 a1 a2
  refine (checkWinter_any stock store a ds cap _ (HX.out.1.below HW0.out.1) HX.out.2.1).mono ?_
  rintro e w1 ⟨rfl, hb1⟩
  rw [HX.out.2.2]
  have H1 := Lib.hid (And.intro (below_self HW0.out.1 hb1) (And.intro (blk_below HW0.out.2.1 hb1) (And.intro (blk_below HW0.out.2.2 hb1) trivial)))
  clear hb1
  have a0 := blk_cell H1.out.2.1 0 rfl; have a1 := blk_cell H1.out.2.1 1 rfl; have a2 := blk_cell H1.out.2.1 2 rfl; have r0 := blk_cell H1.out.2.2.1 0 rfl; have r1 := blk_cell H1.out.2.2.1 1 rfl; have r2 := blk_cell H1.out.2.2.1 2 rfl; have f0 := blk_free (j := 0) H1.out.2.2.1; have f1 := blk_free (j := 1) H1.out.2.2.1; have f2 := blk_free (j := 2) H1.out.2.2.1
  go_wp2_with (fail)
  have hF := fldS
  go_region_held3 (fun w' => w'.cell? ⟨w.heap.size, 0, none⟩ = some (.int .i64 stock) ∧ w'.cell? ⟨w.heap.size, 1, none⟩ = some (.int .i64 store) ∧ w'.cell? ⟨w.heap.size, 2, none⟩ = some (.slice a ds.length cap)) (go_keep)
    (first
      | (go_at_call 93; refine (spell_any 135 136 135 Sp.hi Sp.lo Sp.hi high_f low_f high_f stock store a ds cap _ (HX.out.1.below H2.out.1) HX.out.2.1).mono ?_; rintro e w3 ⟨⟨an, cn, am, cm, al, cl, rfl, hN, hM, hL, hb3⟩⟩; have H3 := Lib.hid (And.intro (below_self H2.out.1 hb3) (And.intro (blk_below H2.out.2.1 hb3) (And.intro (blk_below H2.out.2.2.1 hb3) (And.intro hN (And.intro hM hL))))); clear hb3 hN hM hL a0 a1 a2 r0 r1 r2 f0 f1 f2; have a0 := blk_cell H3.out.2.1 0 rfl; have a1 := blk_cell H3.out.2.1 1 rfl; have a2 := blk_cell H3.out.2.1 2 rfl; have r0 := blk_cell H3.out.2.2.1 0 rfl; have r1 := blk_cell H3.out.2.2.1 1 rfl; have r2 := blk_cell H3.out.2.2.1 2 rfl; have f0 := blk_free (j := 0) H3.out.2.2.1; have f1 := blk_free (j := 1) H3.out.2.2.1; have f2 := blk_free (j := 2) H3.out.2.2.1)
      | (go_at_call 92; refine (worst_any _).mono ?_; rintro e w2 ⟨rfl, hb2⟩; have hb2' : Below w1.heap.size w1 w2 := ⟨hb2.os, hb2.tape, hb2.output, hb2.size, hb2.block⟩; have H2 := Lib.hid (And.intro (below_self H1.out.1 hb2') (And.intro (blk_below H1.out.2.1 hb2') (And.intro (blk_below H1.out.2.2.1 hb2') trivial))); clear hb2 hb2' a0 a1 a2 r0 r1 r2 f0 f1 f2; have a0 := blk_cell H2.out.2.1 0 rfl; have a1 := blk_cell H2.out.2.1 1 rfl; have a2 := blk_cell H2.out.2.1 2 rfl; have r0 := blk_cell H2.out.2.2.1 0 rfl; have r1 := blk_cell H2.out.2.2.1 1 rfl; have r2 := blk_cell H2.out.2.2.1 2 rfl; have f0 := blk_free (j := 0) H2.out.2.2.1; have f1 := blk_free (j := 1) H2.out.2.2.1; have f2 := blk_free (j := 2) H2.out.2.2.1))
  all_goals (
    go_wp2_with (fail)
    obtain ⟨p1, p2, p3, p4⟩ := three_put (v0 := .slice an ds.length cn) (v1 := .slice am ds.length cm) (v2 := .slice al ds.length cl) H3.out.2.2.1 (show w.heap.size ≤ w.heap.size + 1 by omega) H3.out.1
    have q0 := blk_cell p2 0 rfl
    have q1 := blk_cell p2 1 rfl
    have q2 := blk_cell p2 2 rfl
    refine bodyPost_ret (v := .tuple #[tv an ds.length cn am ds.length cm al ds.length cl, .int .i64 0]) (by simp [results, Tryz.results31, go_sem, q0, q1, q2]) rfl ?_
    have hl1 := (win_ok HX.out.2.2).2.1.1
    exact ⟨an, cn, am, cm, al, cl, rfl, ints_other H3.out.2.2.2.1 p3 p4 (ints_not H3.out.2.2.1 H3.out.2.2.2.1 (by simp; omega)), ints_other H3.out.2.2.2.2.1 p3 p4 (ints_not H3.out.2.2.1 H3.out.2.2.2.2.1 (by simp; omega)), ints_other H3.out.2.2.2.2.2 p3 p4 (ints_not H3.out.2.2.1 H3.out.2.2.2.2.2 (by simp; omega)), p1⟩)
end Go.Proofs.YtmebmcipmemofaaGreat

namespace Go.Proofs.YtmebmcipmemofaaGreat
open Go.RowKit Go.Shelf



/-- Three lists of the call's own, and the box T that held them. -/
structure TR (w0 : World) (T : Nat) (tN tM tL : Value) (W : World) (vN vM vL : Value) (N M L : List Int) : Prop where
  b : Below w0.heap.size w0 W
  tb : W.heap[T]? = some (.cells #[tN, tM, tL] 58 (0, 0))
  hT : w0.heap.size ≤ T
  r : R3 W (T + 1) vN vM vL N M L
/-- A number that was built, in block A, apart from the lists. -/
structure PD (W : World) (A : Nat) (x : Int) (vN vM vL : Value) : Prop where
  c : W.heap[A]? = some (.cells #[.int .i64 x] 3 (0, 0))
  n : ∀ g, vN.ownBlock = some g → g ≠ A
  m : ∀ g, vM.ownBlock = some g → g ≠ A
  l : ∀ g, vL.ownBlock = some g → g ≠ A

section
variable {w0 W W' : World} {T : Nat} {tN tM tL : Value} {vN vM vL : Value} {N M L : List Int}
theorem TR.rot (h : TR w0 T tN tM tL W vN vM vL N M L) : TR w0 T tN tM tL W vM vL vN M L N := ⟨h.b, h.tb, h.hT, h.r.rot⟩
theorem TR.below (h : TR w0 T tN tM tL W vN vM vL N M L) (hb : Below W.heap.size W W') : TR w0 T tN tM tL W' vN vM vL N M L := ⟨below_self h.b hb, blk_below h.tb hb, h.hT, h.r.below hb⟩
theorem TR.push (h : TR w0 T tN tM tL W vN vM vL N M L) {x : Int} {g c : Nat} (ho : W'.ownsRow (T + 1) 3 1 (.slice (some ⟨g, 0, none⟩) (N.length + 1) c) (N.length + 1) (N.map (Value.int .i64) ++ [.int .i64 x])) (hg : W.grownBy W' vN.ownBlock) (hat : vN.ownBlock = some g ∨ g = W.heap.size) :
    TR w0 T tN tM tL W' (.slice (some ⟨g, 0, none⟩) (N.length + 1) c) vM vL (N ++ [x]) M L := by
  have hT := h.hT
  have low : ∀ j, j < W.heap.size → j ≤ T → W'.heap[j]? = W.heap[j]? := fun j hj hT => hg.block j hj (fun e => by have := (h.r.n.lt j e.symm).1; omega)
  exact ⟨⟨hg.os.trans h.b.os, hg.tape.trans h.b.tape, hg.output.trans h.b.output, Nat.le_trans h.b.size hg.size, fun j hj => (low j (Nat.lt_of_lt_of_le hj h.b.size) (by omega)).trans (h.b.block j hj)⟩, (low T (lt_of_block h.tb) (Nat.le_refl _)).trans h.tb, h.hT, h.r.push ho hg hat⟩
theorem TR.keep (h : TR w0 T tN tM tL W vN vM vL N M L) {Xb : Nat} {cs : Array Value} (hx : W.heap[Xb]? = some (.cells cs 97 (0, 0))) (hg : W.grownBy W' vN.ownBlock) : W'.heap[Xb]? = some (.cells cs 97 (0, 0)) := by
  refine (hg.block Xb (lt_of_block hx) (fun e => ?_)).trans hx
  rcases h.r.n.2 with ⟨e', _⟩ | ⟨g, c, cur, e', _, hgb, _⟩
  · rw [e'] at e; cases e
  · rw [e'] at e
    simp only [Value.ownBlock, Option.some.injEq] at e
    subst e
    rw [hx] at hgb
    simp at hgb
theorem TR.store (h : TR w0 T tN tM tL W vN vM vL N M L) : TR w0 T vN vM vL (((W.setCell ⟨T, 0, none⟩ vN).setCell ⟨T, 1, none⟩ vM).setCell ⟨T, 2, none⟩ vL) vN vM vL N M L := by
  have hT := h.hT
  have ko : ∀ j, j ≠ T → (((W.setCell ⟨T, 0, none⟩ vN).setCell ⟨T, 1, none⟩ vM).setCell ⟨T, 2, none⟩ vL).heap[j]? = W.heap[j]? := fun j hj => (Below.heap_setCell _ _ _ _ hj).trans ((Below.heap_setCell _ _ _ _ hj).trans (Below.heap_setCell _ _ _ _ hj))
  exact ⟨((h.b.setCell (p := ⟨T, 0, none⟩) hT _).setCell (p := ⟨T, 1, none⟩) hT _).setCell (p := ⟨T, 2, none⟩) hT _, blk_setCell (j := 2) (blk_setCell (j := 1) (blk_setCell (j := 0) h.tb)), hT, h.r.step (fun g hg _ => ko g (by omega))⟩
theorem PD.rot {A : Nat} {x : Int} (h : PD W A x vN vM vL) : PD W A x vM vL vN := ⟨h.c, h.m, h.l, h.n⟩
theorem PD.below {A : Nat} {x : Int} (h : PD W A x vN vM vL) (hb : Below W.heap.size W W') : PD W' A x vN vM vL := ⟨blk_below h.c hb, h.n, h.m, h.l⟩
theorem PD.new (h : TR w0 T tN tM tL W vN vM vL N M L) (x : Int) : PD (W.alloc (.cells #[.int .i64 x] 3)) W.heap.size x vN vM vL :=
  ⟨heap_alloc_new _ _, fun g hg => Nat.ne_of_lt (h.r.n.lt g hg).2, fun g hg => Nat.ne_of_lt (h.r.m.lt g hg).2, fun g hg => Nat.ne_of_lt (h.r.l.lt g hg).2⟩
theorem PD.push {A : Nat} {x : Int} (h : PD W A x vN vM vL) {g n c : Nat} (hg : W.grownBy W' vN.ownBlock) (hat : vN.ownBlock = some g ∨ g = W.heap.size) : PD W' A x (.slice (some ⟨g, 0, none⟩) n c) vM vL := by
  have hA := lt_of_block h.c
  refine ⟨(hg.block A hA (fun e => h.n A e.symm rfl)).trans h.c, fun i hi => ?_, h.m, h.l⟩
  simp only [Value.ownBlock, Option.some.injEq] at hi
  subst hi
  rcases hat with hat | hat
  · exact h.n _ hat
  · omega
theorem PD.cells {A : Nat} {x : Int} (h : PD W A x vN vM vL) : ∀ j u, [Value.int .i64 x][j]? = some u → W.cell? ((⟨A, 0, none⟩ : Addr).add j) = some u := by
  intro j u hu
  cases j with
  | zero =>
    have e : (⟨A, 0, none⟩ : Addr).add 0 = ⟨A, 0, none⟩ := by unfold Addr.add; split <;> simp_all
    rw [e]
    simp at hu
    subst hu
    exact blk_cell h.c 0 rfl
  | succ j => simp at hu
end
theorem take_more {f : Dy → Int} {ds : List Dy} {j : Nat} {d : Dy} (h : ds[j]? = some d) : (ds.take j).map f ++ [f d] = (ds.take (j + 1)).map f := by
  rw [List.take_add_one, h]; simp
theorem take_len {f : Dy → Int} {ds : List Dy} {j : Nat} (h : j ≤ ds.length) : ((ds.take j).map f).length = j := by simp; omega
/-- The best weather. -/
theorem best_sky {ds : List Dy} (hd : ∀ d ∈ ds, DayOk d) : Sky ds (ds.map fun d => d.need.lo) (ds.map fun d => d.make.hi) (ds.map fun d => d.loss.lo) := by
  refine ⟨⟨by simp, by simp, by simp⟩, fun k d h => ?_⟩
  rw [get_map' h, get_map' h, get_map' h]
  obtain ⟨a, b, c⟩ := hd d (List.mem_of_getElem? h)
  omega
/-- A list of pairs is not in the deck's block. -/
theorem sps_not {W : World} {Bd L : Nat} {a a2 : Option Addr} {n2 cap2 k : Nat} {xs : List Sp} (hx : Sl 2 Sp.cells W a xs) (h0 : 0 < xs.length) (hd : Deck W Bd L a2 n2 cap2 k) : ∀ p, a = some p → p.block ≠ Bd := by
  obtain ⟨nx, st, hB, _⟩ := hd.o
  obtain ⟨b, off, rfl, hb, hc⟩ := hx h0
  intro p hp
  cases hp
  intro e
  have hbB : b = Bd := e
  subst hbB
  have h1 := hc 0 (xs[0]'h0) 0 _ (List.getElem?_eq_getElem h0) rfl
  have h2 := hc 0 (xs[0]'h0) 1 _ (List.getElem?_eq_getElem h0) rfl
  rw [cell_of_row W b _ _ _ _ hB] at h1 h2
  match off, h1, h2 with
  | 0, h1, _ => simp at h1
  | 1, _, h2 => simp at h2
  | 2, h1, _ => simp at h1
  | (k+3), h1, _ => simp at h1
end Go.Proofs.YtmebmcipmemofaaGreat

namespace Go.Proofs.YtmebmcipmemofaaGreat
open Go.RowKit

set_option maxHeartbeats 400000 in
theorem outside_any (n lo hi : Int) (w : World) : Calls Tryz.prog 81 #[.int .i64 n, .int .i64 lo, .int .i64 hi] w fun e w' => e = .returned (.bool (!withinB n lo hi)) ∧ w = w' := by
  go_enter Tryz.func81, Tryz.ntmps81
  go_wp2
  all_goals go_ret
  all_goals exact ⟨ret_bool (by rw [Bool.eq_iff_iff]; simp [withinB]; try omega), rfl⟩

set_option maxHeartbeats 400000 in
theorem wrong_any (s : Sp) (m : Int) (w : World) : Calls Tryz.prog 88 #[s.v, .int .i64 m] w fun e w' => e = .returned (.bool (!boundedB s m)) ∧ Below w.heap.size w w' := by
  go_enter Tryz.func88, Tryz.ntmps88
  go_wp2
  all_goals go_ret
  all_goals exact ⟨ret_bool (by rw [Bool.eq_iff_iff]; simp [boundedB]; omega), (Below.refl _ _).alloc (Nat.le_refl _) _⟩

set_option maxHeartbeats 1000000 in
theorem stadium_any (a : Option Addr) (xs : List Lp) (cap : Nat) (w : World) (hx : Sl 3 Lp.cells w a xs) (hl : xs.length ≤ 1000000) :
    Calls Tryz.prog 76 #[.slice a xs.length cap] w fun e w' => e = .returned (.int .i64 (stadE xs)) ∧ w = w' := by
  by_cases h0 : withinB xs.length 1 12 = true
  · have hb : 1 ≤ xs.length ∧ xs.length ≤ 12 := by simp [withinB] at h0; omega
    have H0 : Hid (stadE xs = if xs.all allowedB = true then 0 else 3) := by show _ = _; rw [stadE, if_pos h0]
    obtain ⟨hb1, hb2⟩ := hb
    clear h0
    go_enter Tryz.func76, Tryz.ntmps76
    have g1 : decide (xs.length < 1) = false := decide_eq_false (by omega)
    have g2 : decide (12 < xs.length) = false := decide_eq_false (by omega)
    go_wp2_with (fail)
    clear g1 g2
    go_loop [3] (fun i => ∃ k : Nat, k ≤ xs.length ∧ i = .int .i64 k ∧ Hid ((xs.take k).all allowedB = true)) (fun i => xs.length - (intOf i).toNat)
    case atStart => exact ⟨0, Nat.zero_le _, rfl, rfl⟩
    case round =>
      obtain ⟨k, hk, rfl, hall⟩ := hrel
      by_cases hlt : k < xs.length
      · obtain ⟨b, off, rfl, hbs, hc⟩ := hx (by omega)
        have hxk := List.getElem?_eq_getElem hlt
        have d0 : w.cell? ⟨b, off + k * 3, none⟩ = some (.int .i64 xs[k].l) := hc k xs[k] 0 _ hxk rfl
        have d1 := hc k xs[k] 1 _ hxk rfl
        have d2 := hc k xs[k] 2 _ hxk rfl
        have HT := Lib.hid (all_take_succ allowedB xs k hlt)
        have HF := Lib.hid (all_false allowedB xs k hlt)
        clear hc hxk
        generalize xs[k] = x at *
        cases e1 : withinB x.l 1 20000
        · have HA : Hid (allowedB x = false) := by show _ = _; simp [allowedB, e1]
          go_wp2_with (go_at_call 81; refine (outside_any _ _ _ _).mono ?_; rintro e w' ⟨rfl, rfl⟩)
          go_ret
          exact ⟨by rw [H0.out, if_neg (by rw [HF.out HA.out]; simp)]; rfl, rfl⟩
        · cases e2 : withinB x.c 0 2000
          · have HA : Hid (allowedB x = false) := by show _ = _; simp [allowedB, e1, e2]
            go_wp2_with (go_at_call 81; refine (outside_any _ _ _ _).mono ?_; rintro e w' ⟨rfl, rfl⟩)
            go_ret
            exact ⟨by rw [H0.out, if_neg (by rw [HF.out HA.out]; simp)]; rfl, rfl⟩
          · cases e3 : withinB x.d 1 20
            · have HA : Hid (allowedB x = false) := by show _ = _; simp [allowedB, e1, e2, e3]
              go_wp2_with (go_at_call 81; refine (outside_any _ _ _ _).mono ?_; rintro e w' ⟨rfl, rfl⟩)
              go_ret
              exact ⟨by rw [H0.out, if_neg (by rw [HF.out HA.out]; simp)]; rfl, rfl⟩
            · have HA : Hid ((xs.take (k + 1)).all allowedB = true) := by show _ = _; rw [HT.out, hall.out]; simp [allowedB, e1, e2, e3]
              go_wp2_with (go_at_call 81; refine (outside_any _ _ _ _).mono ?_; rintro e w' ⟨rfl, rfl⟩)
              go_round
              case rel => exact ⟨k + 1, by omega, by go_num, HA⟩
              case measure => simp [intOf]; omega
      · have : k = xs.length := by omega
        subst this
        go_wp2_with (fail)
        go_ret
        have h1 := hall.out
        rw [List.take_length] at h1
        exact ⟨by rw [H0.out, if_pos h1]; rfl, rfl⟩
  · have hb : xs.length < 1 ∨ 12 < xs.length := by simp [withinB] at h0; omega
    have H0 : Hid (stadE xs = 2) := by show _ = _; rw [stadE, if_neg h0]
    clear h0
    go_enter Tryz.func76, Tryz.ntmps76
    go_wp2_with (fail)
    all_goals first
      | (exfalso; omega)
      | (go_ret; exact ⟨by rw [H0.out]; rfl, rfl⟩)

set_option maxHeartbeats 2000000 in
set_option maxRecDepth 100000 in
theorem refCheck_any (a : Option Addr) (xs : List Lp) (cap : Nat) (r : Ru) (w : World) (hx : Sl 3 Lp.cells w a xs) (hl : xs.length ≤ 1000000) :
    Calls Tryz.prog 84 #[.slice a xs.length cap, r.v] w fun e w' => e = .returned (.int .i64 (checkE xs r)) ∧ Below w.heap.size w w' := by
  have hB0 : Below w.heap.size w (w.alloc (.cells #[.int .i64 r.laps, .int .i64 r.len.lo, .int .i64 r.len.hi, .int .i64 r.climb.lo, .int .i64 r.climb.hi, .int .i64 r.lap.lo, .int .i64 r.lap.hi, .int .i64 r.wide, .int .i64 r.uses] 36)) := (Below.refl _ _).alloc (Nat.le_refl _) _
  have hR0 : (w.alloc (.cells #[.int .i64 r.laps, .int .i64 r.len.lo, .int .i64 r.len.hi, .int .i64 r.climb.lo, .int .i64 r.climb.hi, .int .i64 r.lap.lo, .int .i64 r.lap.hi, .int .i64 r.wide, .int .i64 r.uses] 36)).heap[w.heap.size]? = some (.cells #[.int .i64 r.laps, .int .i64 r.len.lo, .int .i64 r.len.hi, .int .i64 r.climb.lo, .int .i64 r.climb.hi, .int .i64 r.lap.lo, .int .i64 r.lap.hi, .int .i64 r.wide, .int .i64 r.uses] 36 (0, 0)) := heap_alloc_new _ _
  go_enter Tryz.func84, Tryz.ntmps84
  go_wp2_with (fail)
  generalize w.alloc (.cells #[.int .i64 r.laps, .int .i64 r.len.lo, .int .i64 r.len.hi, .int .i64 r.climb.lo, .int .i64 r.climb.hi, .int .i64 r.lap.lo, .int .i64 r.lap.hi, .int .i64 r.wide, .int .i64 r.uses] 36) = W0 at hB0 hR0 ⊢
  refine (stadium_any a xs cap _ (hx.below hB0) hl).mono ?_
  rintro e w1 ⟨rfl, rfl⟩
  by_cases h1 : stadE xs = 0
  · have h1b : (stadE xs != 0) = false := by simp [h1]
    have HC : Hid (checkE xs r = if rulesB r = true then 0 else 3) := by show _ = _; rw [checkE, if_pos h1]
    have H1 := Lib.hid h1
    clear h1
    have HR := Lib.hid hR0
    have HB := Lib.hid hB0
    have HO : Hid (rulesB r = (withinB r.laps 1 6 && boundedB r.len 200000 && boundedB r.climb 200000 && boundedB r.lap 200000 && withinB r.wide 1 20 && withinB r.uses 1 6)) := by
      show _ = _
      simp only [rulesB, List.all_cons, List.all_nil]
      cases withinB r.laps 1 6 <;> cases boundedB r.len 200000 <;> cases boundedB r.climb 200000 <;> cases boundedB r.lap 200000 <;> cases withinB r.wide 1 20 <;> cases withinB r.uses 1 6 <;> rfl
    have c0 := blk_cell HR.out 0 rfl
    clear hR0 hB0
    go_wp2_with (fail)
    clear c0
    refine (outside_any _ _ _ _).mono ?_
    rintro e w' ⟨rfl, rfl⟩
    have c1 := blk_cell HR.out 1 rfl
    have c2 := blk_cell HR.out 2 rfl
    cases e0 : withinB r.laps 1 6
    · have HO2 : Hid (rulesB r = false) := by show _ = _; rw [HO.out, e0]; simp
      go_wp2_with (fail)
      go_ret
      exact ⟨by rw [HC.out, if_neg (by rw [HO2.out]; simp)]; rfl, HB.out⟩
    · have E0 := Lib.hid e0
      go_wp2_with (fail)
      clear c1 c2
      refine (wrong_any r.len _ _).mono ?_
      rintro e v1 ⟨rfl, hb⟩
      have HR := Lib.hid (blk_below HR.out hb)
      have HB := Lib.hid (below_self HB.out hb)
      clear hb
      have c3 := blk_cell HR.out 3 rfl
      have c4 := blk_cell HR.out 4 rfl
      cases e1 : boundedB r.len 200000
      · have HO2 : Hid (rulesB r = false) := by show _ = _; rw [HO.out, E0.out, e1]; simp
        go_wp2_with (fail)
        go_ret
        exact ⟨by rw [HC.out, if_neg (by rw [HO2.out]; simp)]; rfl, HB.out⟩
      · have E1 := Lib.hid e1
        go_wp2_with (fail)
        clear c3 c4
        refine (wrong_any r.climb _ _).mono ?_
        rintro e v2 ⟨rfl, hb⟩
        have HR := Lib.hid (blk_below HR.out hb)
        have HB := Lib.hid (below_self HB.out hb)
        clear hb
        have c5 := blk_cell HR.out 5 rfl
        have c6 := blk_cell HR.out 6 rfl
        cases e2 : boundedB r.climb 200000
        · have HO2 : Hid (rulesB r = false) := by show _ = _; rw [HO.out, E0.out, E1.out, e2]; simp
          go_wp2_with (fail)
          go_ret
          exact ⟨by rw [HC.out, if_neg (by rw [HO2.out]; simp)]; rfl, HB.out⟩
        · have E2 := Lib.hid e2
          go_wp2_with (fail)
          clear c5 c6
          refine (wrong_any r.lap _ _).mono ?_
          rintro e v3 ⟨rfl, hb⟩
          have HR := Lib.hid (blk_below HR.out hb)
          have HB := Lib.hid (below_self HB.out hb)
          clear hb
          have c7 := blk_cell HR.out 7 rfl
          cases e3 : boundedB r.lap 200000
          · have HO2 : Hid (rulesB r = false) := by show _ = _; rw [HO.out, E0.out, E1.out, E2.out, e3]; simp
            go_wp2_with (fail)
            go_ret
            exact ⟨by rw [HC.out, if_neg (by rw [HO2.out]; simp)]; rfl, HB.out⟩
          · have E3 := Lib.hid e3
            go_wp2_with (fail)
            clear c7
            refine (outside_any _ _ _ _).mono ?_
            rintro e w' ⟨rfl, rfl⟩
            have c8 := blk_cell HR.out 8 rfl
            cases e4 : withinB r.wide 1 20
            · have HO2 : Hid (rulesB r = false) := by show _ = _; rw [HO.out, E0.out, E1.out, E2.out, E3.out, e4]; simp
              go_wp2_with (fail)
              go_ret
              exact ⟨by rw [HC.out, if_neg (by rw [HO2.out]; simp)]; rfl, HB.out⟩
            · have E4 := Lib.hid e4
              go_wp2_with (fail)
              clear c8
              refine (outside_any _ _ _ _).mono ?_
              rintro e w' ⟨rfl, rfl⟩
              cases e5 : withinB r.uses 1 6
              · have HO2 : Hid (rulesB r = false) := by show _ = _; rw [HO.out, E0.out, E1.out, E2.out, E3.out, E4.out, e5]; simp
                go_wp2_with (fail)
                go_ret
                exact ⟨by rw [HC.out, if_neg (by rw [HO2.out]; simp)]; rfl, HB.out⟩
              · have E5 := Lib.hid e5
                have HO2 : Hid (rulesB r = true) := by show _ = _; rw [HO.out, E0.out, E1.out, E2.out, E3.out, E4.out, E5.out]; rfl
                go_wp2_with (fail)
                go_ret
                exact ⟨by rw [HC.out, if_pos HO2.out]; rfl, HB.out⟩
  · have h1b : (stadE xs != 0) = true := by simp [h1]
    have HC : Hid (checkE xs r = stadE xs) := by show _ = _; rw [checkE, if_neg h1]
    have H1 := Lib.hid h1
    clear h1
    go_wp2_with (fail)
    go_ret
    exact ⟨by rw [HC.out]; rfl, hB0⟩
end Go.Proofs.YtmebmcipmemofaaGreat

namespace Go.Proofs.YtmebmcipmemofaaGreat
open Go.RowKit
attribute [local go_sem] Oper.semAt_some

set_option maxHeartbeats 1000000 in
theorem uses_any (ac : Option Addr) (c : List Int) (ccap : Nat) (x : Int) (w : World) (hc : IntSl w ac c) (hcl : c.length ≤ 1000000) :
    Calls Tryz.prog 78 #[.slice ac c.length ccap, .int .i64 x] w fun e w' => e = .returned (.int .i64 (c.count x : Nat)) ∧ w = w' := by
  go_enter Tryz.func78, Tryz.ntmps78
  go_wp2_with (fail)
  go_loop [5, 6] (fun n i => ∃ k : Nat, k ≤ c.length ∧ i = .int .i64 k ∧ n = .int .i64 ((c.take k).count x : Nat)) (fun _ i => c.length - (intOf i).toNat)
  case atStart => exact ⟨0, Nat.zero_le _, rfl, rfl⟩
  case round =>
    obtain ⟨k, hk, rfl, rfl⟩ := hrel
    by_cases hlt : k < c.length
    · obtain ⟨b, off, rfl, hbs, hcc⟩ := hc (by omega)
      have d0 := hcc k hlt
      rw [List.getElem?_eq_getElem hlt, Option.getD_some] at d0
      have HS := Lib.hid (count_take_succ c k hlt x)
      have hle : (c.take k).count x ≤ 1000000 := by
        have h1 := List.count_le_length (a := x) (l := c.take k)
        have h2 : (c.take k).length ≤ k := List.length_take_le _ _
        omega
      clear hcc
      generalize c[k] = y at *
      generalize (c.take k).count x = m at *
      by_cases he : y = x
      · have heb : (y == x) = true := by simp [he]
        have HS2 : Hid ((c.take (k + 1)).count x = m + 1) := by show _ = _; rw [HS.out, if_pos he]
        clear he HS
        go_wp2_with (fail)
        go_round
        case rel => exact ⟨k + 1, by omega, by go_num, by rw [HS2.out]; go_num⟩
        case measure => simp [intOf]; omega
      · have heb : (y == x) = false := by simp [he]
        have HS2 : Hid ((c.take (k + 1)).count x = m) := by show _ = _; rw [HS.out, if_neg he]; rfl
        clear he HS
        go_wp2_with (fail)
        go_round
        case rel => exact ⟨k + 1, by omega, by go_num, by rw [HS2.out]⟩
        case measure => simp [intOf]; omega
    · have : k = c.length := by omega
      subst this
      go_wp2_with (fail)
      go_ret
      exact ⟨rfl, rfl⟩

set_option maxHeartbeats 2000000 in
theorem listed_any (a : Option Addr) (xs : List Lp) (cap : Nat) (ac : Option Addr) (c : List Int) (ccap : Nat) (w : World) (hc : IntSl w ac c) (hl : xs.length ≤ 1000000) (hcl : c.length ≤ 1000000) :
    Calls Tryz.prog 77 #[.slice a xs.length cap, .slice ac c.length ccap] w fun e w' => e = .returned (.int .i64 (courseE xs.length c)) ∧ Below w.heap.size w w' := by
  by_cases h0 : withinB c.length 1 6 = true
  · have hb : 1 ≤ c.length ∧ c.length ≤ 6 := by simp [withinB] at h0; omega
    have H0 : Hid (courseE xs.length c = if c.all (fun i => withinB i 0 (xs.length - 1)) = true then (if sortedB c = true then 0 else 4) else 1) := by show _ = _; rw [courseE, if_pos h0]
    obtain ⟨hb1, hb2⟩ := hb
    clear h0
    have ew : IntKind.i64.wrap ((xs.length : Int) - 1) = (xs.length : Int) - 1 := IntWalk.i64_in _ (by omega)
    have EW := Lib.hid ew
    clear ew
    go_enter Tryz.func77, Tryz.ntmps77
    have g1 : decide (c.length < 1) = false := decide_eq_false (by omega)
    have g2 : decide (6 < c.length) = false := decide_eq_false (by omega)
    go_wp2_with (fail)
    clear g1 g2
    go_loop [5] (fun i => ∃ k : Nat, k ≤ c.length ∧ i = .int .i64 k ∧ Hid ((c.take k).all (fun i => withinB i 0 (xs.length - 1)) = true)) (fun i => c.length - (intOf i).toNat)
    case atStart => exact ⟨0, Nat.zero_le _, rfl, rfl⟩
    case round =>
      obtain ⟨k, hk, rfl, hall⟩ := hrel
      by_cases hlt : k < c.length
      · obtain ⟨b, off, rfl, hbs, hcc⟩ := hc (by omega)
        have d0 := hcc k hlt
        rw [List.getElem?_eq_getElem hlt, Option.getD_some] at d0
        have HT := Lib.hid (all_take_succ (fun i => withinB i 0 (xs.length - 1)) c k hlt)
        have HF := Lib.hid (all_false (fun i => withinB i 0 (xs.length - 1)) c k hlt)
        clear hcc
        generalize c[k] = x at *
        cases e1 : withinB x 0 ((xs.length : Int) - 1)
        · have HA : Hid (c.all (fun i => withinB i 0 (xs.length - 1)) = false) := HF.out e1
          clear HT HF
          go_wp2_with (go_at_call 81; refine (outside_any _ _ _ _).mono ?_; rintro e w' ⟨rfl, rfl⟩)
          go_ret
          exact ⟨by rw [H0.out, if_neg (by rw [HA.out]; simp)]; rfl, Below.refl _ _⟩
        · have HA : Hid ((c.take (k + 1)).all (fun i => withinB i 0 (xs.length - 1)) = true) := by show _ = _; rw [HT.out, hall.out]; simpa using e1
          clear HT HF
          go_wp2_with (go_at_call 81; refine (outside_any _ _ _ _).mono ?_; rintro e w' ⟨rfl, rfl⟩)
          go_round
          case rel => exact ⟨k + 1, by omega, by go_num, HA⟩
          case measure => simp [intOf]; omega
      · have : k = c.length := by omega
        subst this
        have h1 := hall.out
        rw [List.take_length] at h1
        have H2 : Hid (courseE xs.length c = if sortedB c = true then 0 else 4) := by show _ = _; rw [H0.out, if_pos h1]
        clear hlt h1 hall hk
        go_wp2_with (fail)
        go_loopw [6] (fun i wr => ∃ k j : Nat, Hid (k = j + 1) ∧ k ≤ c.length ∧ i = .int .i64 k ∧ Hid (∀ q, 0 ≤ q → q + 1 < k → c[q]?.getD 0 ≤ c[q + 1]?.getD 0) ∧ Below w.heap.size w wr) (fun i _ => c.length - (intOf i).toNat)
        case atStart => exact ⟨1, 0, rfl, hb1, rfl, fun q _ hq => by omega, Below.refl _ _⟩
        case round =>
          obtain ⟨k, j, hkj, hk, rfl, hall, hbw⟩ := hrel
          have hj : j < c.length := by have := hkj.out; omega
          have hk1 : 1 ≤ k := by have := hkj.out; omega
          by_cases hlt : k < c.length
          · obtain ⟨b, off, rfl, hbs, hcc⟩ := hc (by omega)
            have d0 := (hbw.cell (p := ⟨b, off + k, none⟩) hbs).trans (hcc k hlt)
            have d1 := (hbw.cell (p := ⟨b, off + j, none⟩) hbs).trans (hcc j hj)
            have e9 : IntKind.i64.wrap ((k : Int) - 1) = (j : Int) := by rw [IntWalk.i64_in _ (by omega)]; have := hkj.out; omega
            have HN : Hid (c[j + 1]?.getD 0 = c[k]?.getD 0) := by show _ = _; rw [hkj.out]
            have HJ : Hid (c[j]?.getD 0 = c[j]?.getD 0) := rfl
            clear hcc
            have HS : Hid (¬ c[k]?.getD 0 < c[j]?.getD 0 → ∀ q, 0 ≤ q → q + 1 < k + 1 → c[q]?.getD 0 ≤ c[q + 1]?.getD 0) := fun hn q h0 hq => by
              rcases Nat.lt_or_ge (q + 1) k with h | h
              · exact hall.out q h0 h
              · have : q = j := by have := hkj.out; omega
                subst this
                rw [HN.out]; omega
            have HX : Hid (c[k]?.getD 0 < c[j]?.getD 0 → sortedB c = false) := fun h => sortedB_false j (by have := hkj.out; omega) (by rw [HN.out]; exact h)
            generalize c[k]?.getD 0 = y at *
            generalize c[j]?.getD 0 = x at *
            by_cases hyx : y < x
            · have g1 : decide (y < x) = true := decide_eq_true hyx
              have HSF : Hid (sortedB c = false) := HX.out hyx
              clear hyx HX HS
              go_upto_region 11 with (fail)
              go_quiet (fail)
              clear g1
              have HBW := Lib.hid (below_drewN hbw nq)
              go_wp2_with (fail)
              go_ret
              exact ⟨by rw [H2.out, HSF.out]; rfl, HBW.out⟩
            · have g1 : decide (y < x) = false := decide_eq_false hyx
              have HS2 := Lib.hid (HS.out hyx)
              clear hyx HX HS
              go_upto_region 11 with (fail)
              go_quiet (fail)
              clear g1
              have HBW := Lib.hid (below_drewN hbw nq)
              go_wp2_with (fail)
              go_roundw
              case rel => exact ⟨k + 1, k, rfl, by omega, by go_num, HS2, HBW.out⟩
              case measure => simp [intOf]; omega
          · have : k = c.length := by omega
            subst this
            have HT : Hid (sortedB c = true) := sortedB_true hall.out
            clear hall
            go_wp2_with (fail)
            go_ret
            exact ⟨by rw [H2.out, HT.out]; rfl, hbw⟩
  · have hb : c.length < 1 ∨ 6 < c.length := by simp [withinB] at h0; omega
    have H0 : Hid (courseE xs.length c = 2) := by show _ = _; rw [courseE, if_neg h0]
    clear h0
    go_enter Tryz.func77, Tryz.ntmps77
    go_wp2_with (fail)
    all_goals first
      | (exfalso; omega)
      | (go_ret; exact ⟨by rw [H0.out]; rfl, Below.refl _ _⟩)
end Go.Proofs.YtmebmcipmemofaaGreat

namespace Go.Proofs.YtmebmcipmemofaaGreat
open Go.RowKit
attribute [local go_sem] Oper.semAt_some

/-- What broken has reckoned behind k laps. -/
structure Bk (xs : List Lp) (r : Ru) (c : List Int) (k : Nat) (A B : Int) (p q o : Bool) : Prop where
  a : A = sumI ((c.take k).map (lenAt xs))
  b : B = sumI ((c.take k).map (climbAt xs))
  p : p = !((c.take k).map (lenAt xs)).all (fun n => insideB n r.lap)
  q : q = !(c.take k).all (fun i => decide (r.wide ≤ wideAt xs i))
  o : o = (c.take k).any (fun i => decide (r.uses < (c.count i : Int)))
theorem Bk.zero (xs : List Lp) (r : Ru) (c : List Int) : Bk xs r c 0 0 0 false false false := ⟨rfl, rfl, rfl, rfl, rfl⟩
theorem Bk.step {xs : List Lp} {r : Ru} {c : List Int} {k : Nat} {A B : Int} {p q o : Bool} (h : Bk xs r c k A B p q o) {z : Nat} {x : Lp} (hz : c[k]? = some (z : Int)) (hx : xs[z]? = some x) :
    Bk xs r c (k + 1) (A + x.l) (B + x.c) (p || !withinB x.l r.lap.lo r.lap.hi) (q || decide (x.d < r.wide)) (o || decide (r.uses < (c.count (z : Int) : Int))) := by
  have e : c.take (k + 1) = c.take k ++ [(z : Int)] := by rw [List.take_add_one, hz]; rfl
  have e1 : lenAt xs z = x.l := by simp [lenAt, hx]
  have e2 : climbAt xs z = x.c := by simp [climbAt, hx]
  have e3 : wideAt xs z = x.d := by simp [wideAt, hx]
  obtain ⟨a, b, c1, d, f⟩ := h
  subst a b c1 d f
  refine ⟨?_, ?_, ?_, ?_, ?_⟩
  · rw [e, List.map_append, List.map_singleton, sumI_snoc, e1]
  · rw [e, List.map_append, List.map_singleton, sumI_snoc, e2]
  · rw [e, List.map_append, List.map_singleton, List.all_append, e1]
    simp [insideB]
  · rw [e, List.all_append]
    simp only [List.all_cons, List.all_nil, Bool.and_true, Bool.not_and, e3]
    congr 1
    rw [Bool.eq_iff_iff]; simp
  · rw [e, List.any_append]
    simp
theorem Bk.bd {xs : List Lp} {r : Ru} {c : List Int} {k : Nat} {A B : Int} {p q o : Bool} (h : Bk xs r c k A B p q o) (hs : stadE xs = 0) (hc : courseE xs.length c = 0) (hk : k ≤ c.length) : (0 ≤ A ∧ A ≤ 1000000) ∧ (0 ≤ B ∧ B ≤ 1000000) := by
  obtain ⟨h1, h2, h3⟩ := stad_ok hs
  obtain ⟨g1, g2, g3, _⟩ := course_ok hc
  have hb : ∀ f : Lp → Int, (∀ x ∈ xs, 0 ≤ f x ∧ f x ≤ 20000) → ∀ y ∈ c.map (fun i => ((xs[i.toNat]?).map f).getD 0), 0 ≤ y ∧ y ≤ 20000 := by
    intro f hf y hy
    obtain ⟨i, hi, rfl⟩ := List.mem_map.1 hy
    cases e : xs[i.toNat]? with
    | none => simp
    | some x => simpa using hf x (List.mem_of_getElem? e)
  have hall : ∀ x ∈ xs, (1 ≤ x.l ∧ x.l ≤ 20000) ∧ (0 ≤ x.c ∧ x.c ≤ 2000) := fun x hx => by
    have := List.all_eq_true.1 h1 x hx
    simp [allowedB, withinB] at this
    omega
  have l1 := sumI_bd (c.map (lenAt xs)) 20000 (by omega) (hb Lp.l (fun x hx => by have := hall x hx; omega)) k
  have l2 := sumI_bd (c.map (climbAt xs)) 20000 (by omega) (hb Lp.c (fun x hx => by have := hall x hx; omega)) k
  have e1 := h.a
  have e2 := h.b
  rw [List.map_take] at e1 e2
  rw [← e1] at l1
  rw [← e2] at l2
  omega
theorem Bk.end {xs : List Lp} {r : Ru} {c : List Int} {A B : Int} {p q o : Bool} (h : Bk xs r c c.length A B p q o) : judgeM xs r c = ⟨!withinB A r.len.lo r.len.hi, !withinB B r.climb.lo r.climb.hi, p, q, o⟩ := by
  obtain ⟨a, b, c1, d, f⟩ := h
  rw [List.take_length] at a b c1 d f
  subst a b c1 d f
  rfl

/-- What the memory holds while broken lists the rules. -/
structure BL (w : World) (r : Ru) (W : World) (v : Value) (l : List Int) : Prop where
  b : Below w.heap.size w W
  r : W.heap[w.heap.size]? = some (.cells #[.int .i64 r.laps, .int .i64 r.len.lo, .int .i64 r.len.hi, .int .i64 r.climb.lo, .int .i64 r.climb.hi, .int .i64 r.lap.lo, .int .i64 r.lap.hi, .int .i64 r.wide, .int .i64 r.uses] 36 (0, 0))
  o : W.ownsRow (w.heap.size + 1) 3 1 v l.length (l.map (Value.int .i64))
theorem BL.push {w W w2 : World} {r : Ru} {v v' : Value} {l : List Int} {x : Int} {o : Obj} (h : BL w r W v l) (ho : w2.ownsRow (w.heap.size + 1) 3 1 v' (l.length + 1) (l.map (Value.int .i64) ++ [.int .i64 x])) (hg : (W.alloc o).grownBy w2 v.ownBlock) : BL w r w2 v' (l ++ [x]) := by
  have hs := h.b.size
  have hlt := lt_of_block h.r
  refine ⟨(h.b.alloc hs _).grown hg (by simp; omega) (fun j hj => by have := (h.o.lt j hj).1; omega), ?_, ?_⟩
  · have hne : v.ownBlock ≠ some w.heap.size := fun e => by have := (h.o.lt _ e).1; omega
    rw [hg.block w.heap.size (by simp; omega) hne.symm]
    exact (heap_alloc_old W o hlt).trans h.r
  · rw [List.length_append, List.map_append]; exact ho
def if1 (b : Bool) (x : Int) : List Int := if b = true then [x] else []
theorem rules_five (a b c d e : Bool) : rulesL ⟨a, b, c, d, e⟩ = ((((([] ++ if1 a 0) ++ if1 b 1) ++ if1 c 2) ++ if1 d 3) ++ if1 e 4) := by
  cases a <;> cases b <;> cases c <;> cases d <;> cases e <;> rfl
theorem if1_le (b : Bool) (x : Int) : (if1 b x).length ≤ 1 := by cases b <;> simp [if1]

set_option maxHeartbeats 4000000 in
set_option maxRecDepth 100000 in
theorem refBroken_in (a : Option Addr) (xs : List Lp) (cap : Nat) (r : Ru) (ac : Option Addr) (c : List Int) (ccap : Nat) (w : World) (hx : Sl 3 Lp.cells w a xs) (hc : IntSl w ac c)
    (hs : stadE xs = 0) (hco : courseE xs.length c = 0) :
    Calls Tryz.prog 133 #[.slice a xs.length cap, r.v, .slice ac c.length ccap] w (OutInts w (rulesL (judgeM xs r c))) := by
  have HSC := Lib.hid (And.intro hs hco)
  obtain ⟨h1, h2, h3⟩ := stad_ok hs
  obtain ⟨g1, g2, g3, _⟩ := course_ok hco
  have HG3 := Lib.hid g3
  have HA1 := Lib.hid h1
  clear hs hco g3 h1
  obtain ⟨i0, hi, hz0, hz1, hz2⟩ := info_parts Tryz.info3
  have hB0 : Below w.heap.size w (w.alloc (.cells #[.int .i64 r.laps, .int .i64 r.len.lo, .int .i64 r.len.hi, .int .i64 r.climb.lo, .int .i64 r.climb.hi, .int .i64 r.lap.lo, .int .i64 r.lap.hi, .int .i64 r.wide, .int .i64 r.uses] 36)) := (Below.refl _ _).alloc (Nat.le_refl _) _
  have hR0 : (w.alloc (.cells #[.int .i64 r.laps, .int .i64 r.len.lo, .int .i64 r.len.hi, .int .i64 r.climb.lo, .int .i64 r.climb.hi, .int .i64 r.lap.lo, .int .i64 r.lap.hi, .int .i64 r.wide, .int .i64 r.uses] 36)).heap[w.heap.size]? = some (.cells #[.int .i64 r.laps, .int .i64 r.len.lo, .int .i64 r.len.hi, .int .i64 r.climb.lo, .int .i64 r.climb.hi, .int .i64 r.lap.lo, .int .i64 r.lap.hi, .int .i64 r.wide, .int .i64 r.uses] 36 (0, 0)) := heap_alloc_new _ _
  go_enter Tryz.func133, Tryz.ntmps133
  go_wp2_with (fail)
  generalize w.alloc (.cells #[.int .i64 r.laps, .int .i64 r.len.lo, .int .i64 r.len.hi, .int .i64 r.climb.lo, .int .i64 r.climb.hi, .int .i64 r.lap.lo, .int .i64 r.lap.hi, .int .i64 r.wide, .int .i64 r.uses] 36) = W0 at hB0 hR0 ⊢
  have HX0 : Hid (Below w.heap.size w W0 ∧ W0.heap[w.heap.size]? = some (.cells #[.int .i64 r.laps, .int .i64 r.len.lo, .int .i64 r.len.hi, .int .i64 r.climb.lo, .int .i64 r.climb.hi, .int .i64 r.lap.lo, .int .i64 r.lap.hi, .int .i64 r.wide, .int .i64 r.uses] 36 (0, 0)) ∧ Sl 3 Lp.cells W0 a xs ∧ IntSl W0 ac c) := ⟨hB0, hR0, hx.below hB0, hc.below hB0⟩
  clear hB0 hR0 hx hc
  go_loopw [7, 8, 9, 10, 11, 12] (fun s7 s8 s9 s10 s11 i wr => ∃ (k : Nat) (A B : Int) (p q o : Bool), k ≤ c.length ∧ i = .int .i64 k ∧ s7 = .int .i64 A ∧ s8 = .int .i64 B ∧ s9 = .bool p ∧ s10 = .bool q ∧ s11 = .bool o ∧ Hid (Bk xs r c k A B p q o) ∧ Hid (Below W0.heap.size W0 wr)) (fun _ _ _ _ _ i _ => c.length - (intOf i).toNat)
  case atStart => exact ⟨0, 0, 0, false, false, false, Nat.zero_le _, rfl, rfl, rfl, rfl, rfl, rfl, Bk.zero xs r c, Below.refl _ _⟩
  case round =>
    obtain ⟨k, A, B, p, q, o, hk, rfl, rfl, rfl, rfl, rfl, rfl, hBk, hbw⟩ := hrel
    have hbd := hBk.out.bd HSC.out.1 HSC.out.2 hk
    obtain ⟨⟨bA1, bA2⟩, bB1, bB2⟩ := hbd
    by_cases hlt : k < c.length
    · obtain ⟨bc, oc, rfl, hbc, hcc⟩ := HX0.out.2.2.2 (by omega)
      obtain ⟨z, hz⟩ : ∃ z : Nat, c[k]? = some (z : Int) := by
        have := HG3.out c[k] (List.getElem_mem hlt)
        exact ⟨c[k].toNat, by rw [List.getElem?_eq_getElem hlt]; congr 1; omega⟩
      have hzl : z < xs.length := by
        have := HG3.out (z : Int) (List.mem_of_getElem? hz)
        omega
      have dz := (hbw.out.cell (p := ⟨bc, oc + k, none⟩) hbc).trans (hcc k hlt)
      rw [hz, Option.getD_some] at dz
      obtain ⟨b, off, rfl, hbs, hcs⟩ := HX0.out.2.2.1 (by omega)
      have hxz := List.getElem?_eq_getElem hzl
      have HST := Lib.hid (hBk.out.step hz hxz)
      have d0 : wr.cell? ⟨b, off + z * 3, none⟩ = some (.int .i64 xs[z].l) := (hbw.out.cell (p := ⟨b, off + z * 3 + 0, none⟩) hbs).trans (hcs z xs[z] 0 _ hxz rfl)
      have d1 := (hbw.out.cell (p := ⟨b, off + z * 3 + 1, none⟩) hbs).trans (hcs z xs[z] 1 _ hxz rfl)
      have d2 := (hbw.out.cell (p := ⟨b, off + z * 3 + 2, none⟩) hbs).trans (hcs z xs[z] 2 _ hxz rfl)
      have hxb : (0 ≤ xs[z].l ∧ xs[z].l ≤ 20000) ∧ (0 ≤ xs[z].c ∧ xs[z].c ≤ 2000) := by
        have := List.all_eq_true.1 HA1.out xs[z] (List.getElem_mem hzl)
        simp [allowedB, withinB] at this
        omega
      obtain ⟨⟨bx1, bx2⟩, bx3, bx4⟩ := hxb
      clear hcc hcs hz hxz
      generalize xs[z] = x at *
      obtain ⟨Wx, hWx⟩ : ∃ Wx, wr.alloc (.cells #[.int .i64 x.l, .int .i64 x.c, .int .i64 x.d] 132) = Wx := ⟨_, rfl⟩
      have hbx : Below wr.heap.size wr Wx := by rw [← hWx]; exact (Below.refl _ _).alloc (Nat.le_refl _) _
      have HNX : Hid (Wx.heap[wr.heap.size]? = some (.cells #[.int .i64 x.l, .int .i64 x.c, .int .i64 x.d] 132 (0, 0))) := by rw [← hWx]; exact heap_alloc_new _ _
      have HBW := Lib.hid (below_self hbw.out hbx)
      have HIQ : Hid (∀ n, IntSl (Wx.drewN n) (some ⟨bc, oc, none⟩) c) := fun n => (HX0.out.2.2.2.below HBW.out).below (below_drewN (Below.refl _ _) n)
      have dzx := (hbx.cell (p := ⟨bc, oc + k, none⟩) (Nat.lt_of_lt_of_le hbc hbw.out.size)).trans dz
      have HDZ := Lib.hid dzx
      clear hbx dzx
      go_upto_region 7 with (fail)
      clear hWx d0 d1 d2 dz
      have n0 := blk_cell HNX.out 0 rfl
      have n1 := blk_cell HNX.out 1 rfl
      have n2 := blk_cell HNX.out 2 rfl
      have HR := Lib.hid (blk_below HX0.out.2.1 HBW.out)
      have r5 := blk_cell HR.out 5 rfl
      have r6 := blk_cell HR.out 6 rfl
      have r7 := blk_cell HR.out 7 rfl
      have r8 := blk_cell HR.out 8 rfl
      have dz := HDZ.out
      cases p <;> cases q <;> cases o
      all_goals
        go_upto_region 11 with (go_at_call 81; refine (outside_any _ _ _ _).mono ?_; rintro e w' ⟨rfl, rfl⟩)
        go_quiet ((go_at_call 78; exact Calls.quiet_of_same ((uses_any _ c ccap _ _ (HIQ.out _) (by omega)).mono fun _ _ h => ⟨h.1, h.2.symm⟩)))
        go_wp2_with (fail)
        go_roundw
        case rel => exact ⟨k + 1, _, _, _, _, _, by omega, by go_num, rfl, rfl, rfl, rfl, rfl, HST.out, below_drewN HBW.out nq⟩
        case measure => simp [intOf]; omega
    · have : k = c.length := by omega
      subst this
      have HE := Lib.hid (hBk.out.end)
      have HL0 : Hid (BL w r wr (.slice none 0 0) []) := ⟨below_self HX0.out.1 hbw.out, blk_below HX0.out.2.1 hbw.out, World.ownsRow_nil _ _ _ _⟩
      clear hBk hlt hk HX0 hbw
      have r1 := blk_cell HL0.out.r 1 rfl
      have r2 := blk_cell HL0.out.r 2 rfl
      go_upto_if 75 with (go_at_call 81; refine (outside_any _ _ _ _).mono ?_; rintro e w' ⟨rfl, rfl⟩)
      clear r1 r2
      go_cut [14] from 75 to 78 (fun v wx => BL w r wx v ([] ++ if1 (!withinB A r.len.lo r.len.hi) 0))
      case first =>
        cases eb : withinB A r.len.lo r.len.hi
        · have hlen : ([] : List Int).length ≤ 0 := by simp
          have hown := HL0.out.o
          have hsz := HL0.out.b.size
          have hsr := lt_of_block HL0.out.r
          have HP := HL0
          go_wp2_with (at_builtin; refine wpList_append_own _ rfl _ _ 27 rfl (w.heap.size + 1) 3 i0 (.int .i64 0) 1 8 Tryz.underlying27 hi hz0 hz1 hz2 rfl (by decide) _ _ _ rfl (hown.alloc _) ⟨wr.heap.size, 0, none⟩ 1 1 [.int .i64 0] rfl rfl ?c1 ?c2 ?c3 ?c4 ?c5 ?_)
          case c1 => exact cell_one_new _ _ _
          case c2 => intro u hu; simp at hu; subst hu; rfl
          case c3 => unfold maxLen; omega
          case c4 => omega
          case c5 => simp; omega
          intro v' w2 hown2 hgrow2 _
          have HN : Hid (BL w r w2 v' (([] : List Int) ++ if1 (!withinB A r.len.lo r.len.hi) 0)) := by rw [eb]; exact HP.out.push hown2 hgrow2
          clear hown2 hgrow2 hown
          go_wp2_with (fail)
          go_meet
          exact HN.out
        · have HN := Lib.hid (show BL w r wr (.slice none 0 0) ([] ++ if1 (!withinB A r.len.lo r.len.hi) 0) from by rw [eb]; simpa [if1] using HL0.out)
          go_wp2_with (fail)
          go_meet
          exact HN.out
      case rest =>
        generalize u14 = s0 at hcut ⊢
        obtain ⟨W1, rfl⟩ : ∃ W, W = wc := ⟨_, rfl⟩
        have HL1 := Lib.hid hcut
        clear hcut
        have r3 := blk_cell HL1.out.r 3 rfl
        have r4 := blk_cell HL1.out.r 4 rfl
        go_upto_if 86 with (go_at_call 81; refine (outside_any _ _ _ _).mono ?_; rintro e w' ⟨rfl, rfl⟩)
        clear r3 r4
        go_cut [14] from 86 to 89 (fun v wx => BL w r wx v (([] ++ if1 (!withinB A r.len.lo r.len.hi) 0) ++ if1 (!withinB B r.climb.lo r.climb.hi) 1))
        case first =>
          cases eb : withinB B r.climb.lo r.climb.hi
          · have hlen : (([] ++ if1 (!withinB A r.len.lo r.len.hi) 0) : List Int).length ≤ 1 := by simp only [List.length_append, List.length_nil]; have := if1_le (!withinB A r.len.lo r.len.hi) 0; omega
            have hown := HL1.out.o
            have hsz := HL1.out.b.size
            have hsr := lt_of_block HL1.out.r
            have HP := HL1
            generalize ([] ++ if1 (!withinB A r.len.lo r.len.hi) 0) = l0 at *
            go_wp2_with (at_builtin; refine wpList_append_own _ rfl _ _ 27 rfl (w.heap.size + 1) 3 i0 (.int .i64 0) 1 8 Tryz.underlying27 hi hz0 hz1 hz2 rfl (by decide) _ _ _ rfl (hown.alloc _) ⟨W1.heap.size, 0, none⟩ 1 1 [.int .i64 1] rfl rfl ?c1 ?c2 ?c3 ?c4 ?c5 ?_)
            case c1 => exact cell_one_new _ _ _
            case c2 => intro u hu; simp at hu; subst hu; rfl
            case c3 => unfold maxLen; omega
            case c4 => omega
            case c5 => simp; omega
            intro v' w2 hown2 hgrow2 _
            have HN : Hid (BL w r w2 v' (l0 ++ if1 (!withinB B r.climb.lo r.climb.hi) 1)) := by rw [eb]; exact HP.out.push hown2 hgrow2
            clear hown2 hgrow2 hown
            go_wp2_with (fail)
            go_meet
            exact HN.out
          · have HN := Lib.hid (show BL w r W1 (s0) (([] ++ if1 (!withinB A r.len.lo r.len.hi) 0) ++ if1 (!withinB B r.climb.lo r.climb.hi) 1) from by rw [eb]; simpa [if1] using HL1.out)
            go_wp2_with (fail)
            go_meet
            exact HN.out
        case rest =>
          generalize u14 = s1 at hcut ⊢
          obtain ⟨W2, rfl⟩ : ∃ W, W = wc := ⟨_, rfl⟩
          have HL2 := Lib.hid hcut
          clear hcut
          go_upto_if 90 with (fail)
          go_cut [9, 14] from 90 to 93 (fun _ v wx => BL w r wx v ((([] ++ if1 (!withinB A r.len.lo r.len.hi) 0) ++ if1 (!withinB B r.climb.lo r.climb.hi) 1) ++ if1 (p) 2))
          case first =>
            cases eb : p
            · have HN := Lib.hid (show BL w r W2 (s1) ((([] ++ if1 (!withinB A r.len.lo r.len.hi) 0) ++ if1 (!withinB B r.climb.lo r.climb.hi) 1) ++ if1 (p) 2) from by rw [eb]; simpa [if1] using HL2.out)
              go_wp2_with (fail)
              go_meet
              exact HN.out
            · have hlen : ((([] ++ if1 (!withinB A r.len.lo r.len.hi) 0) ++ if1 (!withinB B r.climb.lo r.climb.hi) 1) : List Int).length ≤ 2 := by simp only [List.length_append, List.length_nil]; have := if1_le (!withinB A r.len.lo r.len.hi) 0; have := if1_le (!withinB B r.climb.lo r.climb.hi) 1; omega
              have hown := HL2.out.o
              have hsz := HL2.out.b.size
              have hsr := lt_of_block HL2.out.r
              have HP := HL2
              generalize (([] ++ if1 (!withinB A r.len.lo r.len.hi) 0) ++ if1 (!withinB B r.climb.lo r.climb.hi) 1) = l0 at *
              go_wp2_with (at_builtin; refine wpList_append_own _ rfl _ _ 27 rfl (w.heap.size + 1) 3 i0 (.int .i64 0) 1 8 Tryz.underlying27 hi hz0 hz1 hz2 rfl (by decide) _ _ _ rfl (hown.alloc _) ⟨W2.heap.size, 0, none⟩ 1 1 [.int .i64 2] rfl rfl ?c1 ?c2 ?c3 ?c4 ?c5 ?_)
              case c1 => exact cell_one_new _ _ _
              case c2 => intro u hu; simp at hu; subst hu; rfl
              case c3 => unfold maxLen; omega
              case c4 => omega
              case c5 => simp; omega
              intro v' w2 hown2 hgrow2 _
              have HN : Hid (BL w r w2 v' (l0 ++ if1 (p) 2)) := by rw [eb]; exact HP.out.push hown2 hgrow2
              clear hown2 hgrow2 hown
              go_wp2_with (fail)
              go_meet
              exact HN.out
          case rest =>
            generalize u14 = s2 at hcut ⊢
            obtain ⟨W3, rfl⟩ : ∃ W, W = wc := ⟨_, rfl⟩
            have HL3 := Lib.hid hcut
            clear hcut
            go_upto_if 94 with (fail)
            go_cut [10, 14] from 94 to 97 (fun _ v wx => BL w r wx v (((([] ++ if1 (!withinB A r.len.lo r.len.hi) 0) ++ if1 (!withinB B r.climb.lo r.climb.hi) 1) ++ if1 (p) 2) ++ if1 (q) 3))
            case first =>
              cases eb : q
              · have HN := Lib.hid (show BL w r W3 (s2) (((([] ++ if1 (!withinB A r.len.lo r.len.hi) 0) ++ if1 (!withinB B r.climb.lo r.climb.hi) 1) ++ if1 (p) 2) ++ if1 (q) 3) from by rw [eb]; simpa [if1] using HL3.out)
                go_wp2_with (fail)
                go_meet
                exact HN.out
              · have hlen : (((([] ++ if1 (!withinB A r.len.lo r.len.hi) 0) ++ if1 (!withinB B r.climb.lo r.climb.hi) 1) ++ if1 (p) 2) : List Int).length ≤ 3 := by simp only [List.length_append, List.length_nil]; have := if1_le (!withinB A r.len.lo r.len.hi) 0; have := if1_le (!withinB B r.climb.lo r.climb.hi) 1; have := if1_le (p) 2; omega
                have hown := HL3.out.o
                have hsz := HL3.out.b.size
                have hsr := lt_of_block HL3.out.r
                have HP := HL3
                generalize ((([] ++ if1 (!withinB A r.len.lo r.len.hi) 0) ++ if1 (!withinB B r.climb.lo r.climb.hi) 1) ++ if1 (p) 2) = l0 at *
                go_wp2_with (at_builtin; refine wpList_append_own _ rfl _ _ 27 rfl (w.heap.size + 1) 3 i0 (.int .i64 0) 1 8 Tryz.underlying27 hi hz0 hz1 hz2 rfl (by decide) _ _ _ rfl (hown.alloc _) ⟨W3.heap.size, 0, none⟩ 1 1 [.int .i64 3] rfl rfl ?c1 ?c2 ?c3 ?c4 ?c5 ?_)
                case c1 => exact cell_one_new _ _ _
                case c2 => intro u hu; simp at hu; subst hu; rfl
                case c3 => unfold maxLen; omega
                case c4 => omega
                case c5 => simp; omega
                intro v' w2 hown2 hgrow2 _
                have HN : Hid (BL w r w2 v' (l0 ++ if1 (q) 3)) := by rw [eb]; exact HP.out.push hown2 hgrow2
                clear hown2 hgrow2 hown
                go_wp2_with (fail)
                go_meet
                exact HN.out
            case rest =>
              generalize u14 = s3 at hcut ⊢
              obtain ⟨W4, rfl⟩ : ∃ W, W = wc := ⟨_, rfl⟩
              have HL4 := Lib.hid hcut
              clear hcut
              go_upto_if 98 with (fail)
              go_cut [11, 14] from 98 to 101 (fun _ v wx => BL w r wx v ((((([] ++ if1 (!withinB A r.len.lo r.len.hi) 0) ++ if1 (!withinB B r.climb.lo r.climb.hi) 1) ++ if1 (p) 2) ++ if1 (q) 3) ++ if1 (o) 4))
              case first =>
                cases eb : o
                · have HN := Lib.hid (show BL w r W4 (s3) ((((([] ++ if1 (!withinB A r.len.lo r.len.hi) 0) ++ if1 (!withinB B r.climb.lo r.climb.hi) 1) ++ if1 (p) 2) ++ if1 (q) 3) ++ if1 (o) 4) from by rw [eb]; simpa [if1] using HL4.out)
                  go_wp2_with (fail)
                  go_meet
                  exact HN.out
                · have hlen : ((((([] ++ if1 (!withinB A r.len.lo r.len.hi) 0) ++ if1 (!withinB B r.climb.lo r.climb.hi) 1) ++ if1 (p) 2) ++ if1 (q) 3) : List Int).length ≤ 4 := by simp only [List.length_append, List.length_nil]; have := if1_le (!withinB A r.len.lo r.len.hi) 0; have := if1_le (!withinB B r.climb.lo r.climb.hi) 1; have := if1_le (p) 2; have := if1_le (q) 3; omega
                  have hown := HL4.out.o
                  have hsz := HL4.out.b.size
                  have hsr := lt_of_block HL4.out.r
                  have HP := HL4
                  generalize (((([] ++ if1 (!withinB A r.len.lo r.len.hi) 0) ++ if1 (!withinB B r.climb.lo r.climb.hi) 1) ++ if1 (p) 2) ++ if1 (q) 3) = l0 at *
                  go_wp2_with (at_builtin; refine wpList_append_own _ rfl _ _ 27 rfl (w.heap.size + 1) 3 i0 (.int .i64 0) 1 8 Tryz.underlying27 hi hz0 hz1 hz2 rfl (by decide) _ _ _ rfl (hown.alloc _) ⟨W4.heap.size, 0, none⟩ 1 1 [.int .i64 4] rfl rfl ?c1 ?c2 ?c3 ?c4 ?c5 ?_)
                  case c1 => exact cell_one_new _ _ _
                  case c2 => intro u hu; simp at hu; subst hu; rfl
                  case c3 => unfold maxLen; omega
                  case c4 => omega
                  case c5 => simp; omega
                  intro v' w2 hown2 hgrow2 _
                  have HN : Hid (BL w r w2 v' (l0 ++ if1 (o) 4)) := by rw [eb]; exact HP.out.push hown2 hgrow2
                  clear hown2 hgrow2 hown
                  go_wp2_with (fail)
                  go_meet
                  exact HN.out
              case rest =>
                generalize u14 = s4 at hcut ⊢
                obtain ⟨W5, rfl⟩ : ∃ W, W = wc := ⟨_, rfl⟩
                have HL5 := Lib.hid hcut
                clear hcut
                have HQ := Lib.hid (rules_five (!withinB A r.len.lo r.len.hi) (!withinB B r.climb.lo r.climb.hi) p q o)
                have HJ := Lib.hid ((congrArg rulesL HE.out).trans HQ.out)
                obtain ⟨a', cap', rfl, hs', hfr⟩ := ints_of_owns HL5.out.o
                have HS := Lib.hid (And.intro hs' hfr)
                clear hs' hfr
                go_wp2_with (fail)
                go_ret
                exact ⟨a', cap', by rw [HJ.out]; rfl, by rw [HJ.out]; exact HS.out.1, fun p hp => by have := HS.out.2 p hp; omega, HL5.out.b⟩

set_option maxHeartbeats 2000000 in
set_option maxRecDepth 100000 in
theorem refBroken_any (a : Option Addr) (xs : List Lp) (cap : Nat) (r : Ru) (ac : Option Addr) (c : List Int) (ccap : Nat) (w : World) (hx : Sl 3 Lp.cells w a xs) (hc : IntSl w ac c)
    (hl : xs.length ≤ 1000000) (hcl : c.length ≤ 1000000) :
    Calls Tryz.prog 96 #[.slice a xs.length cap, r.v, .slice ac c.length ccap] w (OutIntsE w (brokenR xs r c).1 (brokenR xs r c).2) := by
  have hB0 : Below w.heap.size w (w.alloc (.cells #[.int .i64 r.laps, .int .i64 r.len.lo, .int .i64 r.len.hi, .int .i64 r.climb.lo, .int .i64 r.climb.hi, .int .i64 r.lap.lo, .int .i64 r.lap.hi, .int .i64 r.wide, .int .i64 r.uses] 36)) := (Below.refl _ _).alloc (Nat.le_refl _) _
  have hR0 : (w.alloc (.cells #[.int .i64 r.laps, .int .i64 r.len.lo, .int .i64 r.len.hi, .int .i64 r.climb.lo, .int .i64 r.climb.hi, .int .i64 r.lap.lo, .int .i64 r.lap.hi, .int .i64 r.wide, .int .i64 r.uses] 36)).heap[w.heap.size]? = some (.cells #[.int .i64 r.laps, .int .i64 r.len.lo, .int .i64 r.len.hi, .int .i64 r.climb.lo, .int .i64 r.climb.hi, .int .i64 r.lap.lo, .int .i64 r.lap.hi, .int .i64 r.wide, .int .i64 r.uses] 36 (0, 0)) := heap_alloc_new _ _
  have rl : (w.alloc (.cells #[.int .i64 r.laps, .int .i64 r.len.lo, .int .i64 r.len.hi, .int .i64 r.climb.lo, .int .i64 r.climb.hi, .int .i64 r.lap.lo, .int .i64 r.lap.hi, .int .i64 r.wide, .int .i64 r.uses] 36)).cell? ⟨w.heap.size, 0, none⟩ = some (.int .i64 r.laps) := blk_cell hR0 0 rfl
  clear rl
  go_enter Tryz.func96, Tryz.ntmps96
  go_wp2_with (fail)
  generalize w.alloc (.cells #[.int .i64 r.laps, .int .i64 r.len.lo, .int .i64 r.len.hi, .int .i64 r.climb.lo, .int .i64 r.climb.hi, .int .i64 r.lap.lo, .int .i64 r.lap.hi, .int .i64 r.wide, .int .i64 r.uses] 36) = W0 at hB0 hR0 ⊢
  have HX := Lib.hid (And.intro hx hc)
  clear hx hc
  refine (refCheck_any a xs cap r _ (HX.out.1.below hB0) hl).mono ?_
  rintro e w1 ⟨rfl, hb⟩
  have HB1 := Lib.hid (below_self hB0 hb)
  have HR1 := Lib.hid (blk_below hR0 hb)
  clear hB0 hR0 hb
  by_cases h1 : checkE xs r = 0
  · have h1b : (checkE xs r != 0) = false := by simp [h1]
    have hbr : Hid (brokenR xs r c = if courseE xs.length c = 0 then (if (c.length : Int) = r.laps then (rulesL (judgeM xs r c), 0) else ([], 2)) else ([], courseE xs.length c)) := by show _ = _; rw [brokenR, if_pos h1]
    have H1 := Lib.hid h1
    clear h1
    go_wp2_with (fail)
    refine (listed_any a xs cap ac c ccap _ (HX.out.2.below HB1.out) hl hcl).mono ?_
    rintro e w2 ⟨rfl, hb⟩
    have HB2 := Lib.hid (below_self HB1.out hb)
    have HR2 := Lib.hid (blk_below HR1.out hb)
    clear hb h1b
    by_cases h2 : courseE xs.length c = 0
    · have h2b : (courseE xs.length c != 0) = false := by simp [h2]
      have H2 := Lib.hid h2
      clear h2
      have r0 := blk_cell HR2.out 0 rfl
      by_cases h3 : (c.length : Int) = r.laps
      · have h3b : ((c.length : Int) != r.laps) = false := by simp [h3]
        have hbr2 : Hid (brokenR xs r c = (rulesL (judgeM xs r c), 0)) := by show _ = _; rw [hbr.out, if_pos H2.out, if_pos h3]
        clear h3
        have r1 := blk_cell HR2.out 1 rfl
        have r2 := blk_cell HR2.out 2 rfl
        have r3 := blk_cell HR2.out 3 rfl
        have r4 := blk_cell HR2.out 4 rfl
        have r5 := blk_cell HR2.out 5 rfl
        have r6 := blk_cell HR2.out 6 rfl
        have r7 := blk_cell HR2.out 7 rfl
        have r8 := blk_cell HR2.out 8 rfl
        go_wp2_with (fail)
        clear h2b h3b r0 r1 r2 r3 r4 r5 r6 r7 r8
        refine (refBroken_in a xs cap r ac c ccap _ (HX.out.1.below HB2.out) (HX.out.2.below HB2.out) (check_ok H1.out).1 H2.out).mono ?_
        rintro e w3 ⟨a', cap', rfl, hs', hfr, hb⟩
        have HO := Lib.hid (And.intro hs' (And.intro hfr hb))
        clear hs' hfr hb
        go_wp2_with (fail)
        go_ret2
        exact ⟨a', cap', by rw [hbr2.out]; rfl, by rw [hbr2.out]; exact HO.out.1, fun p hp => by have := HO.out.2.1 p hp; have := HB2.out.size; omega, below_self HB2.out HO.out.2.2⟩
      · have h3b : ((c.length : Int) != r.laps) = true := by simp [h3]
        have hbr2 : Hid (brokenR xs r c = ([], 2)) := by show _ = _; rw [hbr.out, if_pos H2.out, if_neg h3]
        clear h3
        go_wp2_with (fail)
        go_ret2
        rw [hbr2.out]
        exact OutIntsE.nil rfl HB2.out
    · have h2b : (courseE xs.length c != 0) = true := by simp [h2]
      have hbr2 : Hid (brokenR xs r c = ([], courseE xs.length c)) := by show _ = _; rw [hbr.out, if_neg h2]
      clear h2
      go_wp2_with (fail)
      go_ret2
      rw [hbr2.out]
      exact OutIntsE.nil rfl HB2.out
  · have h1b : (checkE xs r != 0) = true := by simp [h1]
    have hbr : Hid (brokenR xs r c = ([], checkE xs r)) := by show _ = _; rw [brokenR, if_neg h1]
    clear h1
    go_wp2_with (fail)
    go_ret2
    rw [hbr.out]
    exact OutIntsE.nil rfl HB1.out
end Go.Proofs.YtmebmcipmemofaaGreat

namespace Go.Proofs.YtmebmcipmemofaaGreat
open Go.RowKit Go.Shelf
attribute [local go_sem] Oper.semAt_some
theorem cells_new (w : World) (news : List Value) (t : TypeId) : ∀ j u, news[j]? = some u → (w.alloc (.cells news.toArray t)).cell? ((⟨w.heap.size, 0, none⟩ : Addr).add j) = some u := by
  intro j u hj
  have : (⟨w.heap.size, 0, none⟩ : Addr).add j = ⟨w.heap.size, j, none⟩ := by unfold Addr.add; split <;> simp_all
  rw [this]
  exact blk_cell (heap_alloc_new w _) j (by simpa using hj)

theorem Tryz.info32 : (Tryz.prog.info? 32).map (fun i => (i.zero, i.size, i.bytes)) = some (some (.agg #[.int .i64 0, .int .i64 0, .int .i64 0]), 3, 24) := by kernel_rfl
theorem Tryz.info132 : (Tryz.prog.info? 132).map (fun i => (i.zero, i.size, i.bytes)) = some (some (.agg #[.int .i64 0, .int .i64 0, .int .i64 0]), 3, 24) := by kernel_rfl

theorem Lp.cells_len (x : Lp) : (Lp.cells x).length = 3 := rfl
theorem flatP_len (xs : List Lp) : (xs.flatMap Lp.cells).length = xs.length * 3 := by
  induction xs with
  | nil => rfl
  | cons d ds ih => rw [List.flatMap_cons, List.length_append, ih, Lp.cells_len, List.length_cons]; omega
theorem flatP_get (ds : List Lp) : ∀ (j : Nat) (x : Lp) (i : Nat) (u : Int), ds[j]? = some x → (Lp.cells x)[i]? = some u → (ds.flatMap Lp.cells)[j * 3 + i]? = some u := by
  induction ds with
  | nil => intro j x i u hx _; simp at hx
  | cons d ds ih =>
    intro j x i u hx hu
    have hi : i < 3 := by
      rcases Nat.lt_or_ge i 3 with h | h
      · exact h
      · rw [List.getElem?_eq_none (by rw [Lp.cells_len]; exact h)] at hu; cases hu
    rw [List.flatMap_cons]
    cases j with
    | zero =>
      simp at hx; subst hx
      rw [Nat.zero_mul, Nat.zero_add, List.getElem?_append_left (by rw [Lp.cells_len]; exact hi)]
      exact hu
    | succ j =>
      rw [List.getElem?_append_right (by rw [Lp.cells_len]; omega), Lp.cells_len, show (j + 1) * 3 + i - 3 = j * 3 + i by omega]
      exact ih j x i u (by simpa using hx) hu
theorem lps_of_owns {W : World} {base : Nat} {t : TypeId} {v : Value} {ds : List Lp} (h : W.ownsRow base t 3 v ds.length ((ds.flatMap Lp.cells).map (Value.int .i64))) : ∃ a cap, v = .slice a ds.length cap ∧ Sl 3 Lp.cells W a ds ∧ (∀ p, a = some p → base ≤ p.block) := by
  rcases h.2 with ⟨rfl, h0⟩ | ⟨g, cap, cur, rfl, hb, hg, _⟩
  · exact ⟨none, 0, by rw [h0], (fun hp => by omega), (fun p hp => by cases hp)⟩
  · refine ⟨some ⟨g, 0, none⟩, cap, rfl, fun _ => ⟨g, 0, rfl, lt_of_block hg, fun j x i u hx hu => ?_⟩, (fun p hp => by cases hp; exact hb)⟩
    have hc := h.cells (g := g) rfl (j * 3 + i) (.int .i64 u) (by rw [List.getElem?_map, flatP_get ds j x i u hx hu]; rfl)
    have : (⟨g, 0, none⟩ : Addr).add (j * 3 + i) = ⟨g, 0 + j * 3 + i, none⟩ := by unfold Addr.add; split <;> simp_all
    rw [this] at hc
    exact hc

/-- A call that hands back a slice of loops; nothing that was there before it has turned. -/
def OutLps (w : World) (ys : List Lp) (e : Ending) (w' : World) : Prop := ∃ a cap, e = .returned (.slice a ys.length cap) ∧ Sl 3 Lp.cells w' a ys ∧ (∀ p, a = some p → w.heap.size ≤ p.block) ∧ Below w.heap.size w w'

set_option maxHeartbeats 1000000 in
theorem cloneLp_any (a : Option Addr) (ds : List Lp) (cap : Nat) (w : World) (hx : Sl 3 Lp.cells w a ds) (hna : a = none → ds.length = 0 ∧ cap = 0) (hl : ds.length ≤ 1000) :
    Calls Tryz.prog 11 #[.slice a ds.length cap] w (OutLps w ds) := by
  obtain ⟨i0, hi, hz0, hz1, hz2⟩ := info_parts Tryz.info32
  cases a with
  | none =>
    obtain ⟨h1, rfl⟩ := hna rfl
    have : ds = [] := List.eq_nil_of_length_eq_zero h1
    subst this
    have hap : ∀ w, (Builtin.append_ #[22, 22] 22 #[.slice none 0 0, .slice none 0 0]).run Tryz.prog w = .ok (.slice none 0 0) w := fun _ => by kernel_rfl
    clear hna
    show Calls Tryz.prog 11 #[.slice none 0 0] w _
    go_enter Tryz.func11, Tryz.ntmps11
    go_wp2
    go_ret
    exact ⟨none, 0, rfl, hx, (fun p hp => by cases hp), Below.refl _ _⟩
  | some ad =>
    have HC : Hid (∀ j u, ((ds.flatMap Lp.cells).map (Value.int .i64))[j]? = some u → w.cell? (ad.add j) = some u) := fun j u hu => by
      have hj : j < ds.length * 3 := by
        rcases Nat.lt_or_ge j (ds.length * 3) with h | h
        · exact h
        · rw [List.getElem?_eq_none (by rw [List.length_map, flatP_len]; exact h)] at hu; cases hu
      obtain ⟨b, off, e, hbs, hc⟩ := hx (by omega)
      cases e
      have hq : j / 3 < ds.length := by omega
      have e : (⟨b, off, none⟩ : Addr).add j = ⟨b, off + (j / 3) * 3 + j % 3, none⟩ := by
        rw [show off + (j / 3) * 3 + j % 3 = off + j by omega]
        unfold Addr.add; split <;> simp_all
      have hr : j % 3 < (Lp.cells ds[j / 3]).length := by rw [Lp.cells_len]; omega
      have h1 := hc (j / 3) ds[j / 3] (j % 3) _ (List.getElem?_eq_getElem hq) (List.getElem?_eq_getElem hr)
      have h2 := flatP_get ds (j / 3) ds[j / 3] (j % 3) _ (List.getElem?_eq_getElem hq) (List.getElem?_eq_getElem hr)
      rw [show j / 3 * 3 + j % 3 = j by omega] at h2
      rw [e, h1]
      rw [List.getElem?_map, h2] at hu
      simpa using hu
    have HLL := Lib.hid (flatP_len ds)
    clear hx hna
    go_enter Tryz.func11, Tryz.ntmps11
    go_wp2_with (at_builtin; refine wpList_append_own_at _ rfl _ _ 22 rfl w.heap.size 32 i0 (.agg #[.int .i64 0, .int .i64 0, .int .i64 0]) 3 24 Tryz.underlying22 hi hz0 hz1 hz2 rfl (by decide) (.slice none 0 0) 0 [] rfl ⟨rfl, .inl ⟨rfl, rfl⟩⟩ ad ds.length cap ((ds.flatMap Lp.cells).map (Value.int .i64)) rfl ?c0 ?c1 ?c2 ?c3 ?c4 ?c5 ?_)
    case c0 => rw [List.length_map]; exact HLL.out
    case c1 => exact HC.out
    case c2 => intro u hu; obtain ⟨x, _, rfl⟩ := List.mem_map.1 hu; rfl
    case c3 => unfold maxLen; omega
    case c4 => omega
    case c5 => exact Nat.le_refl _
    intro v' w2 hown2 hgrow2 _ _
    have hb3 : Below w.heap.size w w2 := (Below.refl _ w).grown hgrow2 (Nat.le_refl _) (fun j hj => by simp [Value.ownBlock] at hj)
    obtain ⟨a', c', rfl, hs, hf⟩ := lps_of_owns hown2
    have HO := Lib.hid (And.intro hs (And.intro hf hb3))
    clear hown2 hgrow2 hs hf hb3
    go_wp2
    go_ret
    exact ⟨a', c', rfl, HO.out⟩

set_option maxHeartbeats 1000000 in
theorem cloneInt_any (a : Option Addr) (xs : List Int) (cap : Nat) (w : World) (hx : IntSl w a xs) (hna : a = none → xs.length = 0 ∧ cap = 0) (hl : xs.length ≤ 1000) :
    Calls Tryz.prog 12 #[.slice a xs.length cap] w (OutInts w xs) := by
  obtain ⟨i0, hi, hz0, hz1, hz2⟩ := info_parts Tryz.info3
  cases a with
  | none =>
    obtain ⟨h1, rfl⟩ := hna rfl
    have : xs = [] := List.eq_nil_of_length_eq_zero h1
    subst this
    have hap : ∀ w, (Builtin.append_ #[27, 27] 27 #[.slice none 0 0, .slice none 0 0]).run Tryz.prog w = .ok (.slice none 0 0) w := fun _ => by kernel_rfl
    clear hna
    show Calls Tryz.prog 12 #[.slice none 0 0] w _
    go_enter Tryz.func12, Tryz.ntmps12
    go_wp2
    go_ret
    exact ⟨none, 0, rfl, hx, (fun p hp => by cases hp), Below.refl _ _⟩
  | some ad =>
    have HC : Hid (∀ j u, (xs.map (Value.int .i64))[j]? = some u → w.cell? (ad.add j) = some u) := fun j u hu => by
      have hj : j < xs.length := by
        rcases Nat.lt_or_ge j xs.length with h | h
        · exact h
        · rw [List.getElem?_eq_none (by rw [List.length_map]; exact h)] at hu; cases hu
      obtain ⟨b, off, e, hbs, hc⟩ := hx (by omega)
      cases e
      have e : (⟨b, off, none⟩ : Addr).add j = ⟨b, off + j, none⟩ := by unfold Addr.add; split <;> simp_all
      rw [e, hc j hj]
      rw [List.getElem?_map, List.getElem?_eq_getElem hj] at hu
      rw [List.getElem?_eq_getElem hj]
      simpa using hu
    clear hx hna
    go_enter Tryz.func12, Tryz.ntmps12
    go_wp2_with (at_builtin; refine wpList_append_own_at _ rfl _ _ 27 rfl w.heap.size 3 i0 (.int .i64 0) 1 8 Tryz.underlying27 hi hz0 hz1 hz2 rfl (by decide) (.slice none 0 0) 0 [] rfl ⟨rfl, .inl ⟨rfl, rfl⟩⟩ ad xs.length cap (xs.map (Value.int .i64)) rfl ?c0 ?c1 ?c2 ?c3 ?c4 ?c5 ?_)
    case c0 => rw [List.length_map, Nat.mul_one]
    case c1 => exact HC.out
    case c2 => intro u hu; obtain ⟨x, _, rfl⟩ := List.mem_map.1 hu; rfl
    case c3 => unfold maxLen; omega
    case c4 => omega
    case c5 => exact Nat.le_refl _
    intro v' w2 hown2 hgrow2 _ _
    have hb3 : Below w.heap.size w w2 := (Below.refl _ w).grown hgrow2 (Nat.le_refl _) (fun j hj => by simp [Value.ownBlock] at hj)
    obtain ⟨a', c', rfl, hs, hf⟩ := ints_of_owns hown2
    have HO := Lib.hid (And.intro hs (And.intro hf hb3))
    clear hown2 hgrow2 hs hf hb3
    go_wp2
    go_ret
    exact ⟨a', c', rfl, HO.out⟩

set_option maxHeartbeats 1000000 in
theorem numbers_any (a : Option Addr) (xs : List Int) (cap : Nat) (w : World) (hx : IntSl w a xs) (hl : xs.length ≤ 1000) :
    Calls Tryz.prog 97 #[.slice a xs.length cap] w (OutInts w xs) := by
  obtain ⟨i0, hi, hz0, hz1, hz2⟩ := info_parts Tryz.info3
  go_enter Tryz.func97, Tryz.ntmps97
  go_wp2
  go_loopw [3, 8] (fun v i wr => ∃ k : Nat, k ≤ xs.length ∧ i = .int .i64 k ∧ wr.ownsRow w.heap.size 3 1 v k ((xs.take k).map (Value.int .i64)) ∧ Below w.heap.size w wr) (fun _ i _ => xs.length - (intOf i).toNat)
  case atStart => exact ⟨0, Nat.zero_le _, rfl, World.ownsRow_nil _ _ _ _, Below.refl _ _⟩
  case round =>
    obtain ⟨k, hk, rfl, hown, hbw⟩ := hrel
    by_cases hlt : k < xs.length
    · obtain ⟨b, off, rfl, hbs, hc⟩ := hx (by omega)
      have hck := (hbw.cell (p := ⟨b, off + k, none⟩) hbs).trans (hc k hlt)
      rw [List.getElem?_eq_getElem hlt, Option.getD_some] at hck
      have HE : Hid ((xs.take (k + 1)).map (Value.int .i64) = (xs.map (Value.int .i64)).take k ++ [.int .i64 xs[k]]) := by show _ = _; rw [← List.map_take]; exact map_take_succ (Value.int .i64) xs k hlt
      clear hc
      generalize xs[k] = x at *
      have hsz := hbw.size
      go_wp2_with (at_builtin; refine wpList_append_own _ rfl _ _ 27 rfl w.heap.size 3 i0 (.int .i64 0) 1 8 Tryz.underlying27 hi hz0 hz1 hz2 rfl (by decide) _ _ _ rfl (hown.alloc _) ⟨wr.heap.size, 0, none⟩ 1 1 [.int .i64 x] rfl rfl ?c1 ?c2 ?c3 ?c4 ?c5 ?_)
      case c1 => exact cell_one_new _ _ _
      case c2 => intro u hu; simp at hu; subst hu; rfl
      case c3 => unfold maxLen; omega
      case c4 => omega
      case c5 => simp; omega
      intro v' w2 hown2 hgrow2 _
      have hb3 : Below w.heap.size w w2 := (hbw.alloc hbw.size _).grown hgrow2 (by simp; omega) (fun j hj => (hown.lt j hj).1)
      rw [← HE.out] at hown2
      have HO := Lib.hid (And.intro hown2 hb3)
      clear hown2 hgrow2 hown hck hb3
      go_wp2
      go_roundw
      case rel => exact ⟨k + 1, by omega, by go_num, HO.out⟩
      case measure => simp [intOf]; omega
    · have : k = xs.length := by omega
      subst this
      rw [List.take_length] at hown
      obtain ⟨a', cap', rfl, hs, hfr⟩ := ints_of_owns hown
      go_wp2
      go_ret
      exact ⟨a', cap', rfl, hs, hfr, hbw⟩

theorem cells_newP (w : World) (x : Lp) (t : TypeId) : ∀ j u, ((Lp.cells x).map (Value.int .i64))[j]? = some u → (w.alloc (.cells #[.int .i64 x.l, .int .i64 x.c, .int .i64 x.d] t)).cell? ((⟨w.heap.size, 0, none⟩ : Addr).add j) = some u := fun j u h => cells_new w [.int .i64 x.l, .int .i64 x.c, .int .i64 x.d] t j u h

set_option maxHeartbeats 2000000 in
theorem loops_any (a : Option Addr) (xs : List Lp) (cap : Nat) (w : World) (hx : Sl 3 Lp.cells w a xs) (hl : xs.length ≤ 1000) :
    Calls Tryz.prog 13 #[.slice a xs.length cap] w (OutLps w xs) := by
  obtain ⟨i0, hi, hz0, hz1, hz2⟩ := info_parts Tryz.info132
  go_enter Tryz.func13, Tryz.ntmps13
  go_wp2
  go_loopw [3, 8] (fun v i wr => ∃ k : Nat, k ≤ xs.length ∧ i = .int .i64 k ∧ wr.ownsRow w.heap.size 132 3 v k (((xs.take k).flatMap Lp.cells).map (Value.int .i64)) ∧ Below w.heap.size w wr) (fun _ i _ => xs.length - (intOf i).toNat)
  case atStart => exact ⟨0, Nat.zero_le _, rfl, World.ownsRow_nil _ _ _ _, Below.refl _ _⟩
  case round =>
    obtain ⟨k, hk, rfl, hown, hbw⟩ := hrel
    by_cases hlt : k < xs.length
    · obtain ⟨b, off, rfl, hbs, hc⟩ := hx (by omega)
      have hxk := List.getElem?_eq_getElem hlt
      have d0 : wr.cell? ⟨b, off + k * 3, none⟩ = some (.int .i64 xs[k].l) := (hbw.cell (p := ⟨b, off + k * 3 + 0, none⟩) hbs).trans (hc k xs[k] 0 _ hxk rfl)
      have d1 := (hbw.cell (p := ⟨b, off + k * 3 + 1, none⟩) hbs).trans (hc k xs[k] 1 _ hxk rfl)
      have d2 := (hbw.cell (p := ⟨b, off + k * 3 + 2, none⟩) hbs).trans (hc k xs[k] 2 _ hxk rfl)
      have HE : Hid (((xs.take (k + 1)).flatMap Lp.cells).map (Value.int .i64) = ((xs.take k).flatMap Lp.cells).map (Value.int .i64) ++ (Lp.cells xs[k]).map (Value.int .i64)) := by
        show _ = _
        rw [List.take_add_one, hxk, List.flatMap_append, List.map_append]
        simp
      clear hc hxk
      generalize xs[k] = x at *
      have hsz := hbw.size
      obtain ⟨Wx, hWx⟩ : ∃ Wx, wr.alloc (.cells #[.int .i64 x.l, .int .i64 x.c, .int .i64 x.d] 32) = Wx := ⟨_, rfl⟩
      have hbx : Below wr.heap.size wr Wx := by rw [← hWx]; exact (Below.refl _ _).alloc (Nat.le_refl _) _
      have HNX : Hid (Wx.heap[wr.heap.size]? = some (.cells #[.int .i64 x.l, .int .i64 x.c, .int .i64 x.d] 32 (0, 0))) := by rw [← hWx]; exact heap_alloc_new _ _
      have HBW := Lib.hid (below_self hbw hbx)
      have HOX := Lib.hid (owns_below hown hbx)
      go_upto_region 5 with (fail)
      clear hWx d0 d1 d2 hbw hown hbx
      have n0 := blk_cell HNX.out 0 rfl
      have n1 := blk_cell HNX.out 1 rfl
      have n2 := blk_cell HNX.out 2 rfl
      have hsx := HBW.out.size
      go_wp2_with (at_builtin; refine wpList_append_own_at _ rfl _ _ 34 rfl w.heap.size 132 i0 (.agg #[.int .i64 0, .int .i64 0, .int .i64 0]) 3 24 Tryz.underlying34 hi hz0 hz1 hz2 rfl (by decide) _ k (((xs.take k).flatMap Lp.cells).map (Value.int .i64)) rfl (HOX.out.alloc _) ⟨Wx.heap.size, 0, none⟩ 1 1 ((Lp.cells x).map (Value.int .i64)) rfl rfl (cells_newP _ x _) (by intro u hu; obtain ⟨x, _, rfl⟩ := List.mem_map.1 hu; rfl) (by unfold maxLen; omega) (by omega) (by simp; omega) ?_)
      intro v' w2 hown2 hgrow2 _ _
      have hb3 : Below w.heap.size w w2 := (HBW.out.alloc HBW.out.size _).grown hgrow2 (by simp; omega) (fun j hj => (HOX.out.lt j hj).1)
      rw [← HE.out] at hown2
      have HO := Lib.hid (And.intro hown2 hb3)
      clear hown2 hgrow2 n0 n1 n2 hb3
      go_wp2
      go_roundw
      case rel => exact ⟨k + 1, by omega, by go_num, HO.out⟩
      case measure => simp [intOf]; omega
    · have : k = xs.length := by omega
      subst this
      rw [List.take_length] at hown
      obtain ⟨a', cap', rfl, hs, hfr⟩ := lps_of_owns hown
      go_wp2
      go_ret
      exact ⟨a', cap', rfl, hs, hfr, hbw⟩

def eqLp (x y : Lp) : Bool := decide (x.l = y.l) && (decide (x.c = y.c) && decide (x.d = y.d))
theorem eqLp_self (x : Lp) : eqLp x x = true := by simp [eqLp]
theorem eq31 (a b c d e f : Int) (w : World) : (Op.equalIn 10000 32 (.agg #[.int .i64 a, .int .i64 b, .int .i64 c]) (.agg #[.int .i64 d, .int .i64 e, .int .i64 f])).run Tryz.prog w = .ok (decide (a = d) && (decide (b = e) && decide (c = f))) w := by
  rw [Op.equalIn]
  simp [go_sem]
  by_cases h1 : a = d <;> by_cases h2 : b = e <;> by_cases h3 : c = f <;> simp [h1, h2, h3]
theorem eq31_self (x : Lp) (w : World) : (Op.equalIn 10000 32 (.agg #[.int .i64 x.l, .int .i64 x.c, .int .i64 x.d]) (.agg #[.int .i64 x.l, .int .i64 x.c, .int .i64 x.d])).run Tryz.prog w = .ok true w := by
  rw [eq31]; simp

set_option maxHeartbeats 1000000 in
theorem equalLp_same (a : Option Addr) (xs : List Lp) (ca : Nat) (b : Option Addr) (cb : Nat) (w : World) (hx : Sl 3 Lp.cells w a xs) (hy : Sl 3 Lp.cells w b xs) (hl : xs.length ≤ 1000000) :
    Calls Tryz.prog 24 #[.slice a xs.length ca, .slice b xs.length cb] w fun e w' => e = .returned (.bool true) ∧ Below w.heap.size w w' := by
  have HX := Lib.hid (And.intro hx hy)
  clear hx hy
  go_enter Tryz.func24, Tryz.ntmps24
  go_wp2
  go_loopw [13] (fun i wr => ∃ k : Nat, k ≤ xs.length ∧ i = .int .i64 k ∧ Below w.heap.size w wr) (fun i _ => xs.length - (intOf i).toNat)
  case atStart => exact ⟨0, Nat.zero_le _, rfl, Below.refl _ _⟩
  case round =>
    obtain ⟨k, hk, rfl, hbw⟩ := hrel
    by_cases hlt : k < xs.length
    · obtain ⟨b1, o1, rfl, hb1, hc1⟩ := HX.out.1 (by omega)
      obtain ⟨b2, o2, rfl, hb2, hc2⟩ := HX.out.2 (by omega)
      have hxk := List.getElem?_eq_getElem hlt
      have d1 : wr.cell? ⟨b1, o1 + k * 3, none⟩ = some (.int .i64 xs[k].l) := (hbw.cell (p := ⟨b1, o1 + k * 3 + 0, none⟩) hb1).trans (hc1 k _ 0 _ hxk rfl)
      have d2 := (hbw.cell (p := ⟨b1, o1 + k * 3 + 1, none⟩) hb1).trans (hc1 k _ 1 _ hxk rfl)
      have d3 := (hbw.cell (p := ⟨b1, o1 + k * 3 + 2, none⟩) hb1).trans (hc1 k _ 2 _ hxk rfl)
      have d4 : wr.cell? ⟨b2, o2 + k * 3, none⟩ = some (.int .i64 xs[k].l) := (hbw.cell (p := ⟨b2, o2 + k * 3 + 0, none⟩) hb2).trans (hc2 k _ 0 _ hxk rfl)
      have d5 := (hbw.cell (p := ⟨b2, o2 + k * 3 + 1, none⟩) hb2).trans (hc2 k _ 1 _ hxk rfl)
      have d6 := (hbw.cell (p := ⟨b2, o2 + k * 3 + 2, none⟩) hb2).trans (hc2 k _ 2 _ hxk rfl)
      clear hc1 hc2 hxk
      generalize xs[k] = x at *
      have q31 := eq31_self x
      go_wp2_with fail
      go_quiet (fail)
      have hwd := below_drewN hbw nq
      go_wp2
      go_roundw
      case rel => exact ⟨k + 1, by omega, by go_num, hwd⟩
      case measure => simp [intOf]; omega
    · have : k = xs.length := by omega
      subst this
      go_wp2
      go_ret
      exact ⟨rfl, hbw⟩
end Go.Proofs.YtmebmcipmemofaaGreat
