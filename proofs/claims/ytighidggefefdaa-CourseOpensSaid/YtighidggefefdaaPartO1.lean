/-
The contract of the reference's check of winters over this seat's program.
  What is proved: it answers the error that the program's own check answers.
  Conditions: at most 1000000 days.
What the memory holds while lists grow that lie in slots, each by one number that is built apart.
  What is proved: these facts go on from one step to the next, in whatever order the numbers are built.
  Conditions: each lemma states its own.
The contract of klisterkit.Equal for days over this seat's program.
  What is proved: it tells whether two lists of days are the same.
  Conditions: slices of at most 1000000 elements.
What the reference reckons, day by day, is what the program's play and its proofs say.
  What is proved: a day of the reference is a step of the play; the least number that a search by halves finds is the least one; what a proof lacks, day by day.
  Conditions: each lemma states its own.
The least number that a search by halves finds.
  What is proved: it is the least one; a winter with another stock and store is valid if these are in order.
  Conditions: each lemma states its own.
-/
import Derived.Test.YtighidggefefdaaPartO0
namespace Go.Proofs.Ytighidggefefdaa
open Go.RowKit
attribute [local go_sem] Oper.semAt_some

set_option maxHeartbeats 2000000 in
set_option maxRecDepth 100000 in
theorem refWinter_any (stock store : Int) (a : Option Addr) (ds : List Dy) (cap : Nat) (w : World) (hx : Sl 6 Dy.cells w a ds) (hl : ds.length ≤ 1000000) :
    Calls Try.prog 89 #[wv stock store a ds.length cap] w fun e w' => e = .returned (.int .i64 (winE stock store ds)) ∧ Below w.heap.size w w' := by
  have hB0 : Below w.heap.size w (w.alloc (.cells #[.int .i64 stock, .int .i64 store, .slice a ds.length cap] 67)) := (Below.refl _ _).alloc (Nat.le_refl _) _
  have hR0 : (w.alloc (.cells #[.int .i64 stock, .int .i64 store, .slice a ds.length cap] 67)).heap[w.heap.size]? = some (.cells #[.int .i64 stock, .int .i64 store, .slice a ds.length cap] 67 (0, 0)) := heap_alloc_new _ _
  go_enter Try.func89, Try.ntmps89
  go_wp2_with (fail)
  generalize w.alloc (.cells #[.int .i64 stock, .int .i64 store, .slice a ds.length cap] 67) = W0 at hB0 hR0 ⊢
  have HB0 := Lib.hid hB0
  have HR0 := Lib.hid hR0
  have HX := Lib.hid hx
  have c0 := blk_cell HR0.out 0 rfl
  have c1 := blk_cell HR0.out 1 rfl
  have c2 := blk_cell HR0.out 2 rfl
  clear hB0 hR0 hx
  refine (outside_any _ _ _ _).mono ?_
  rintro e w' ⟨rfl, rfl⟩
  cases e1 : withinB store 1 1000000
  · have H0 : Hid (winE stock store ds = 3) := by show _ = _; rw [winE, if_neg (by rw [e1]; simp)]
    go_wp2_with (fail)
    go_ret
    exact ⟨by rw [H0.out]; rfl, HB0.out⟩
  · have E1 := Lib.hid e1
    go_wp2_with (fail)
    refine (outside_any _ _ _ _).mono ?_
    rintro e w' ⟨rfl, rfl⟩
    cases e2 : withinB stock 0 store
    · have H0 : Hid (winE stock store ds = 3) := by show _ = _; rw [winE, if_pos E1.out, if_neg (by rw [e2]; simp)]
      go_wp2_with (fail)
      go_ret
      exact ⟨by rw [H0.out]; rfl, HB0.out⟩
    · have E2 := Lib.hid e2
      by_cases h3 : withinB ds.length 1 60 = true
      · have hb : 1 ≤ ds.length ∧ ds.length ≤ 60 := by simp [withinB] at h3; omega
        have H0 : Hid (winE stock store ds = if ds.all dayB = true then 0 else 3) := by show _ = _; rw [winE, if_pos E1.out, if_pos E2.out, if_pos h3]
        obtain ⟨hb1, hb2⟩ := hb
        have g1 : decide (ds.length < 1) = false := decide_eq_false (by omega)
        have g2 : decide (60 < ds.length) = false := decide_eq_false (by omega)
        clear h3
        go_wp2_with (fail)
        clear g1 g2 c0 c1 c2
        go_loopw [3] (fun i wr => ∃ k : Nat, k ≤ ds.length ∧ i = .int .i64 k ∧ Hid ((ds.take k).all dayB = true) ∧ Hid (Below W0.heap.size W0 wr)) (fun i _ => ds.length - (intOf i).toNat)
        case atStart => exact ⟨0, Nat.zero_le _, rfl, rfl, Below.refl _ _⟩
        case round =>
          obtain ⟨k, hk, rfl, hall, hbw⟩ := hrel
          have c2 := blk_cell (blk_below HR0.out hbw.out) 2 rfl
          by_cases hlt : k < ds.length
          · obtain ⟨b, off, rfl, hbs, hc⟩ := HX.out (by omega)
            have hxk := List.getElem?_eq_getElem hlt
            have HT := Lib.hid (all_take_succ dayB ds k hlt)
            have HF := Lib.hid (all_false dayB ds k hlt)
            have HCE : Hid (∀ W', Below W0.heap.size W0 W' → ∀ (i : Nat) (u : Int), (Dy.cells ds[k])[i]? = some u → W'.cell? ⟨b, off + k * 6 + i, none⟩ = some (.int .i64 u)) := fun W' hW i u hu => ((below_self HB0.out hW).cell (p := ⟨b, off + k * 6 + i, none⟩) hbs).trans (hc k ds[k] i u hxk hu)
            clear hc hxk
            generalize ds[k] = d at *
            have d0 : wr.cell? ⟨b, off + k * 6, none⟩ = some (.int .i64 d.need.lo) := HCE.out _ hbw.out 0 _ rfl
            have d1 := HCE.out _ hbw.out 1 _ rfl
            go_wp2_with (fail)
            clear c2 d0 d1
            refine (wrong_any d.need _ _).mono ?_
            rintro e v0 ⟨rfl, hb⟩
            have HV0 := Lib.hid (below_self hbw.out hb)
            clear hb
            have c2 := blk_cell (blk_below HR0.out HV0.out) 2 rfl
            have d2 := HCE.out _ HV0.out 2 _ rfl
            have d3 := HCE.out _ HV0.out 3 _ rfl
            cases ee : boundedB d.need 100000
            · have HA : Hid (dayB d = false) := by show _ = _; simp [dayB, ee]
              go_wp2_with (fail)
              go_ret
              exact ⟨by rw [H0.out, if_neg (by rw [HF.out HA.out]; simp)]; rfl, below_self HB0.out HV0.out⟩
            · have E0q := Lib.hid ee
              go_wp2_with (fail)
              clear c2 d2 d3
              refine (wrong_any d.make _ _).mono ?_
              rintro e v1 ⟨rfl, hb⟩
              have HV1 := Lib.hid (below_self HV0.out hb)
              clear hb
              have c2 := blk_cell (blk_below HR0.out HV1.out) 2 rfl
              have d4 := HCE.out _ HV1.out 4 _ rfl
              have d5 := HCE.out _ HV1.out 5 _ rfl
              cases ee : boundedB d.make 100000
              · have HA : Hid (dayB d = false) := by show _ = _; simp [dayB, ee]
                go_wp2_with (fail)
                go_ret
                exact ⟨by rw [H0.out, if_neg (by rw [HF.out HA.out]; simp)]; rfl, below_self HB0.out HV1.out⟩
              · have E1q := Lib.hid ee
                go_wp2_with (fail)
                clear c2 d4 d5
                refine (wrong_any d.loss _ _).mono ?_
                rintro e v2 ⟨rfl, hb⟩
                have HV2 := Lib.hid (below_self HV1.out hb)
                clear hb
                have c2 := blk_cell (blk_below HR0.out HV2.out) 2 rfl
                cases ee : boundedB d.loss 100000
                · have HA : Hid (dayB d = false) := by show _ = _; simp [dayB, ee]
                  go_wp2_with (fail)
                  go_ret
                  exact ⟨by rw [H0.out, if_neg (by rw [HF.out HA.out]; simp)]; rfl, below_self HB0.out HV2.out⟩
                · have E2q := Lib.hid ee
                  have HA : Hid ((ds.take (k + 1)).all dayB = true) := by show _ = _; rw [HT.out, hall.out]; simp [dayB, E0q.out, E1q.out, E2q.out]
                  go_wp2_with (fail)
                  go_roundw
                  case rel => exact ⟨k + 1, by omega, by go_num, HA, HV2.out⟩
                  case measure => simp [intOf]; omega
          · have hke : k = ds.length := by omega
            subst hke
            go_wp2_with (fail)
            go_ret
            have h1 := hall.out
            rw [List.take_length] at h1
            exact ⟨by rw [H0.out, if_pos h1]; rfl, below_self HB0.out hbw.out⟩
      · have hb : ds.length < 1 ∨ 60 < ds.length := by simp [withinB] at h3; omega
        have H0 : Hid (winE stock store ds = 2) := by show _ = _; rw [winE, if_pos E1.out, if_pos E2.out, if_neg h3]
        clear h3
        go_wp2_with (fail)
        all_goals first
          | (exfalso; omega)
          | (go_ret; exact ⟨by rw [H0.out]; rfl, HB0.out⟩)
end Go.Proofs.Ytighidggefefdaa

namespace Go.Proofs.Ytighidggefefdaa
open Go.RowKit Go.Shelf

/-- Three lists of the call's own, above a block. -/
structure TQ (w0 W : World) (base : Nat) (vN vM vL : Value) (N M L : List Int) : Prop where
  b : Below w0.heap.size w0 W
  hb : w0.heap.size ≤ base
  hz : base ≤ W.heap.size
  r : R3 W base vN vM vL N M L
section
variable {w0 W W' : World} {base : Nat} {vN vM vL : Value} {N M L : List Int}
theorem TQ.rot (h : TQ w0 W base vN vM vL N M L) : TQ w0 W base vM vL vN M L N := ⟨h.b, h.hb, h.hz, h.r.rot⟩
theorem TQ.below (h : TQ w0 W base vN vM vL N M L) (hb : Below W.heap.size W W') : TQ w0 W' base vN vM vL N M L := ⟨below_self h.b hb, h.hb, Nat.le_trans h.hz hb.size, h.r.below hb⟩
theorem TQ.push (h : TQ w0 W base vN vM vL N M L) {x : Int} {g c : Nat} (ho : W'.ownsRow base 3 1 (.slice (some ⟨g, 0, none⟩) (N.length + 1) c) (N.length + 1) (N.map (Value.int .i64) ++ [.int .i64 x])) (hg : W.grownBy W' vN.ownBlock) (hat : vN.ownBlock = some g ∨ g = W.heap.size) :
    TQ w0 W' base (.slice (some ⟨g, 0, none⟩) (N.length + 1) c) vM vL (N ++ [x]) M L := by
  have hB := h.hb
  exact ⟨⟨hg.os.trans h.b.os, hg.tape.trans h.b.tape, hg.output.trans h.b.output, Nat.le_trans h.b.size hg.size, fun j hj => (hg.block j (Nat.lt_of_lt_of_le hj h.b.size) (fun e => by have := (h.r.n.lt j e.symm).1; omega)).trans (h.b.block j hj)⟩, hB, Nat.le_trans h.hz hg.size, h.r.push ho hg hat⟩
theorem TQ.keep (h : TQ w0 W base vN vM vL N M L) {X : Nat} {cs : Array Value} {t : TypeId} (ht : t ≠ 3) (hx : W.heap[X]? = some (.cells cs t (0, 0))) (hg : W.grownBy W' vN.ownBlock) : W'.heap[X]? = some (.cells cs t (0, 0)) := by
  refine (hg.block X (lt_of_block hx) (fun e => ?_)).trans hx
  rcases h.r.n.2 with ⟨e', _⟩ | ⟨g, c, cur, e', _, hgb, _⟩
  · rw [e'] at e; cases e
  · rw [e'] at e
    simp only [Value.ownBlock, Option.some.injEq] at e
    subst e
    rw [hx] at hgb
    simp at hgb
    exact ht hgb.2
theorem PD.make (h : TQ w0 W base vN vM vL N M L) (x : Int) : PD (W.alloc (.cells #[.int .i64 x] 3)) W.heap.size x vN vM vL :=
  ⟨heap_alloc_new _ _, fun g hg => Nat.ne_of_lt (h.r.n.lt g hg).2, fun g hg => Nat.ne_of_lt (h.r.m.lt g hg).2, fun g hg => Nat.ne_of_lt (h.r.l.lt g hg).2⟩
end
end Go.Proofs.Ytighidggefefdaa

namespace Go.Proofs.Ytighidggefefdaa
open Go.RowKit Go.Shelf
attribute [local go_sem] Oper.semAt_some

/-- Two days are the same. -/
def eqDy (x y : Dy) : Bool := eqSp x.need y.need && (eqSp x.make y.make && eqSp x.loss y.loss)
/-- Two lists of days are the same. -/
def eqDys (xs ys : List Dy) : Bool := decide (xs.length = ys.length) && (List.range xs.length).all (fun j => match xs[j]?, ys[j]? with | some x, some y => eqDy x y | _, _ => true)

theorem eqSp_iff (x y : Sp) : eqSp x y = decide (x.lo = y.lo ∧ x.hi = y.hi) := by simp [eqSp, Bool.decide_and]
theorem eq144 (x y : Dy) (w : World) : (Op.equalIn 10000 97 (.agg #[.int .i64 x.need.lo, .int .i64 x.need.hi, .int .i64 x.make.lo, .int .i64 x.make.hi, .int .i64 x.loss.lo, .int .i64 x.loss.hi]) (.agg #[.int .i64 y.need.lo, .int .i64 y.need.hi, .int .i64 y.make.lo, .int .i64 y.make.hi, .int .i64 y.loss.lo, .int .i64 y.loss.hi])).run Try.prog w = .ok (eqDy x y) w := by
  rw [Op.equalIn]
  simp [go_sem]
  by_cases h1 : x.need.lo = y.need.lo <;> by_cases h2 : x.need.hi = y.need.hi <;> by_cases h3 : x.make.lo = y.make.lo <;> by_cases h4 : x.make.hi = y.make.hi <;> by_cases h5 : x.loss.lo = y.loss.lo <;> by_cases h6 : x.loss.hi = y.loss.hi <;> simp [eqDy, eqSp, h1, h2, h3, h4, h5, h6]
theorem eq144' (x y : Dy) (bb : Bool) (h : eqDy x y = bb) (w : World) : (Op.equalIn 10000 97 (.agg #[.int .i64 x.need.lo, .int .i64 x.need.hi, .int .i64 x.make.lo, .int .i64 x.make.hi, .int .i64 x.loss.lo, .int .i64 x.loss.hi]) (.agg #[.int .i64 y.need.lo, .int .i64 y.need.hi, .int .i64 y.make.lo, .int .i64 y.make.hi, .int .i64 y.loss.lo, .int .i64 y.loss.hi])).run Try.prog w = .ok bb w := by
  rw [← h]; exact eq144 x y w

set_option maxHeartbeats 4000000 in
theorem equal_day (a : Option Addr) (xs : List Dy) (ca : Nat) (b : Option Addr) (ys : List Dy) (cb : Nat) (w : World) (hx : Sl 6 Dy.cells w a xs) (hy : Sl 6 Dy.cells w b ys) (hl : xs.length ≤ 1000000) :
    Calls Try.prog 103 #[.slice a xs.length ca, .slice b ys.length cb] w fun e w' => e = .returned (.bool (eqDys xs ys)) ∧ Below w.heap.size w w' := by
  have HX := Lib.hid (And.intro hx hy)
  clear hx hy
  by_cases hlen : xs.length = ys.length
  · have HL := Lib.hid hlen
    go_enter Try.func103, Try.ntmps103
    rw [← hlen]
    clear hlen
    go_wp2
    go_loopw [13] (fun i wr => ∃ k : Nat, k ≤ xs.length ∧ i = .int .i64 k ∧ Hid (∀ j x y, j < k → xs[j]? = some x → ys[j]? = some y → eqDy x y = true) ∧ Below w.heap.size w wr) (fun i _ => xs.length - (intOf i).toNat)
    case atStart => exact ⟨0, Nat.zero_le _, rfl, fun j x y hj => by omega, Below.refl _ _⟩
    case round =>
      obtain ⟨k, hk, rfl, hall, hbw⟩ := hrel
      by_cases hlt : k < xs.length
      · obtain ⟨b1, o1, rfl, hb1, hc1⟩ := HX.out.1 (by omega)
        obtain ⟨b2, o2, rfl, hb2, hc2⟩ := HX.out.2 (by have := HL.out; omega)
        have hlt2 : k < ys.length := by have := HL.out; omega
        have HXY : Hid (xs[k]? = some xs[k] ∧ ys[k]? = some ys[k]) := ⟨List.getElem?_eq_getElem hlt, List.getElem?_eq_getElem hlt2⟩
        have d1 := (hbw.cell (p := ⟨b1, o1 + k * 6, none⟩) hb1).trans (hc1 k _ 0 _ HXY.out.1 rfl)
        have d2 := (hbw.cell (p := ⟨b1, o1 + k * 6 + 1, none⟩) hb1).trans (hc1 k _ 1 _ HXY.out.1 rfl)
        have d3 := (hbw.cell (p := ⟨b1, o1 + k * 6 + 2, none⟩) hb1).trans (hc1 k _ 2 _ HXY.out.1 rfl)
        have d4 := (hbw.cell (p := ⟨b1, o1 + k * 6 + 3, none⟩) hb1).trans (hc1 k _ 3 _ HXY.out.1 rfl)
        have d5 := (hbw.cell (p := ⟨b1, o1 + k * 6 + 4, none⟩) hb1).trans (hc1 k _ 4 _ HXY.out.1 rfl)
        have d6 := (hbw.cell (p := ⟨b1, o1 + k * 6 + 5, none⟩) hb1).trans (hc1 k _ 5 _ HXY.out.1 rfl)
        have d7 := (hbw.cell (p := ⟨b2, o2 + k * 6, none⟩) hb2).trans (hc2 k _ 0 _ HXY.out.2 rfl)
        have d8 := (hbw.cell (p := ⟨b2, o2 + k * 6 + 1, none⟩) hb2).trans (hc2 k _ 1 _ HXY.out.2 rfl)
        have d9 := (hbw.cell (p := ⟨b2, o2 + k * 6 + 2, none⟩) hb2).trans (hc2 k _ 2 _ HXY.out.2 rfl)
        have d10 := (hbw.cell (p := ⟨b2, o2 + k * 6 + 3, none⟩) hb2).trans (hc2 k _ 3 _ HXY.out.2 rfl)
        have d11 := (hbw.cell (p := ⟨b2, o2 + k * 6 + 4, none⟩) hb2).trans (hc2 k _ 4 _ HXY.out.2 rfl)
        have d12 := (hbw.cell (p := ⟨b2, o2 + k * 6 + 5, none⟩) hb2).trans (hc2 k _ 5 _ HXY.out.2 rfl)
        clear hc1 hc2
        generalize xs[k] = x at d1 d2 d3 d4 d5 d6 HXY
        generalize ys[k] = y at d7 d8 d9 d10 d11 d12 HXY
        cases he : eqDy x y
        · have q144 := eq144' x y false he
          have HF : Hid (eqDys xs ys = false) := by
            show _ = _
            rw [eqDys]
            have : ((List.range xs.length).all (fun j => match xs[j]?, ys[j]? with | some x, some y => eqDy x y | _, _ => true)) = false := by
              rw [List.all_eq_false]
              exact ⟨k, List.mem_range.2 hlt, by rw [HXY.out.1, HXY.out.2]; simp [he]⟩
            rw [this, Bool.and_false]
          clear he hall
          go_wp2_with fail
          go_quiet (fail)
          have hwd := below_drewN hbw nq
          go_wp2
          go_ret
          exact ⟨by rw [HF.out]; rfl, hwd⟩
        · have q144 := eq144' x y true he
          have HA : Hid (∀ j x y, j < k + 1 → xs[j]? = some x → ys[j]? = some y → eqDy x y = true) := fun j x' y' hj hx' hy' => by
            rcases Nat.lt_or_ge j k with h | h
            · exact hall.out j x' y' h hx' hy'
            · have : j = k := by omega
              subst this
              rw [HXY.out.1] at hx'; rw [HXY.out.2] at hy'
              cases hx'; cases hy'; exact he
          clear he hall
          go_wp2_with fail
          go_quiet (fail)
          have hwd := below_drewN hbw nq
          go_wp2
          go_roundw
          case rel => exact ⟨k + 1, by omega, by go_num, HA, hwd⟩
          case measure => simp [intOf]; omega
      · have : k = xs.length := by omega
        subst this
        have HT : Hid (eqDys xs ys = true) := by
          show _ = _
          rw [eqDys, HL.out]
          simp only [decide_true, Bool.true_and, List.all_eq_true, List.mem_range]
          intro j hj
          cases h1 : xs[j]? with
          | none => rfl
          | some x => cases h2 : ys[j]? with
            | none => rfl
            | some y => exact hall.out j x y (by rw [HL.out]; exact hj) h1 h2
        go_wp2
        go_ret
        exact ⟨by rw [HT.out]; rfl, hbw⟩
  · have hlb : ((xs.length : Int) != (ys.length : Int)) = true := by simp; omega
    have HR : Hid (eqDys xs ys = false) := by show _ = _; rw [eqDys]; simp [hlen]
    clear hlen
    go_enter Try.func103, Try.ntmps103
    go_wp2
    go_ret
    exact ⟨by rw [HR.out]; rfl, Below.refl _ _⟩
end Go.Proofs.Ytighidggefefdaa

namespace Go.Proofs.Ytighidggefefdaa
open Go.RowKit Go.Shelf

/-- What is there behind the loss. -/
def restD (s l : Int) : Int := if s - l < 0 then 0 else s - l
/-- What is made. -/
def makeD (store s m : Int) : Int := if store < s + m then store - s else m

theorem rest_lost (s l : Int) : restD s l = s - lostD s l := by
  unfold restD lostD; split <;> omega
theorem make_made (store s m l : Int) : makeD store (restD s l) m = madeD store s m l := by
  unfold makeD madeD
  rw [rest_lost]
  split <;> omega

theorem play_goes {stock store : Int} {N M L : List Int} {k : Nat} (h : (playL stock store N M L k).fails = -1)
    (h2 : ¬ restD (playL stock store N M L k).stock (L[k]?.getD 0) + makeD store (restD (playL stock store N M L k).stock (L[k]?.getD 0)) (M[k]?.getD 0) - N[k]?.getD 0 < 0) :
    (playL stock store N M L (k + 1)).stock = restD (playL stock store N M L k).stock (L[k]?.getD 0) + makeD store (restD (playL stock store N M L k).stock (L[k]?.getD 0)) (M[k]?.getD 0) - N[k]?.getD 0 ∧
    (playL stock store N M L (k + 1)).stocks = (playL stock store N M L k).stocks ++ [restD (playL stock store N M L k).stock (L[k]?.getD 0) + makeD store (restD (playL stock store N M L k).stock (L[k]?.getD 0)) (M[k]?.getD 0) - N[k]?.getD 0] ∧
    (playL stock store N M L (k + 1)).made = (playL stock store N M L k).made ++ [makeD store (restD (playL stock store N M L k).stock (L[k]?.getD 0)) (M[k]?.getD 0)] ∧
    (playL stock store N M L (k + 1)).fails = -1 := by
  rw [playL_succ]
  generalize playL stock store N M L k = a at *
  generalize N[k]?.getD 0 = n at *
  generalize M[k]?.getD 0 = m at *
  generalize L[k]?.getD 0 = l at *
  rw [make_made, rest_lost] at *
  rw [stepP, if_pos h, if_neg (by omega)]
  refine ⟨by show _ - _ = _; omega, ?_, rfl, rfl⟩
  show _ ++ _ = _
  congr 2
  omega
theorem play_stops {stock store : Int} {N M L : List Int} {k n : Nat} (h : (playL stock store N M L k).fails = -1) (hk : k < n)
    (h2 : restD (playL stock store N M L k).stock (L[k]?.getD 0) + makeD store (restD (playL stock store N M L k).stock (L[k]?.getD 0)) (M[k]?.getD 0) - N[k]?.getD 0 < 0) :
    (playL stock store N M L n).stocks = (playL stock store N M L k).stocks ∧ (playL stock store N M L n).made = (playL stock store N M L k).made ∧ (playL stock store N M L n).fails = k := by
  have hs : (playL stock store N M L (k + 1)).stocks = (playL stock store N M L k).stocks ∧ (playL stock store N M L (k + 1)).made = (playL stock store N M L k).made ∧ (playL stock store N M L (k + 1)).fails = k := by
    rw [playL_succ]
    generalize playL stock store N M L k = a at *
    generalize N[k]?.getD 0 = n at *
    generalize M[k]?.getD 0 = m at *
    generalize L[k]?.getD 0 = l at *
    rw [make_made, rest_lost] at h2
    rw [stepP, if_pos h, if_pos (by omega)]
    exact ⟨rfl, rfl, rfl⟩
  rw [playL_stop stock store N M L (k + 1) (by rw [hs.2.2]; omega) n (by omega)]
  exact hs
/-- While no day has failed the stock lies in the store. -/
theorem play_within {stock store : Int} {N M L : List Int} (hs : 0 ≤ stock ∧ stock ≤ store) (hb : (∀ k : Nat, 0 ≤ N[k]?.getD 0) ∧ (∀ k : Nat, 0 ≤ M[k]?.getD 0) ∧ (∀ k : Nat, 0 ≤ L[k]?.getD 0)) (k : Nat) : (playL stock store N M L k).fails = -1 → 0 ≤ (playL stock store N M L k).stock ∧ (playL stock store N M L k).stock ≤ store := by
  induction k with
  | zero => intro _; exact hs
  | succ k ih =>
    intro hf
    by_cases h : (playL stock store N M L k).fails = -1
    · by_cases h2 : restD (playL stock store N M L k).stock (L[k]?.getD 0) + makeD store (restD (playL stock store N M L k).stock (L[k]?.getD 0)) (M[k]?.getD 0) - N[k]?.getD 0 < 0
      · rw [(play_stops (n := k + 1) h (by omega) h2).2.2] at hf
        omega
      · obtain ⟨h3, _⟩ := play_goes h h2
        obtain ⟨i1, i2⟩ := ih h
        have n1 := hb.1 k
        have n2 := hb.2.1 k
        have n3 := hb.2.2 k
        rw [h3]
        refine ⟨by omega, ?_⟩
        have : restD (playL stock store N M L k).stock (L[k]?.getD 0) ≤ store := by unfold restD; split <;> omega
        unfold makeD
        split <;> omega
    · rw [playL_stop stock store N M L k h (k + 1) (by omega)] at hf
      exact absurd hf h

theorem fails_range (stock store : Int) (N M L : List Int) (k : Nat) : (playL stock store N M L k).fails = -1 ∨ 0 ≤ (playL stock store N M L k).fails := by
  induction k with
  | zero => exact .inl rfl
  | succ k ih =>
    by_cases h : (playL stock store N M L k).fails = -1
    · by_cases h2 : restD (playL stock store N M L k).stock (L[k]?.getD 0) + makeD store (restD (playL stock store N M L k).stock (L[k]?.getD 0)) (M[k]?.getD 0) - N[k]?.getD 0 < 0
      · rw [(play_stops (n := k + 1) h (by omega) h2).2.2]
        exact .inr (by omega)
      · exact .inl (play_goes h h2).2.2.2
    · rw [playL_stop stock store N M L k h (k + 1) (by omega)]
      exact ih

/-- The least number is one. -/
theorem least_one {n : Nat} {p : Nat → Bool} {r s : Nat} (h1 : LeastOf n p r) (h2 : LeastOf n p s) : r = s := by
  obtain ⟨a1, b1, c1⟩ := h1
  obtain ⟨a2, b2, c2⟩ := h2
  rcases Nat.lt_trichotomy r s with h | h | h
  · have := b2 r h
    rw [c1 r (Nat.le_refl _) (by omega)] at this
    cases this
  · exact h
  · have := b1 s h
    rw [c2 s (Nat.le_refl _) (by omega)] at this
    cases this

/-- What the reference has left at the head of day i. -/
def refL (store pf : Int) (N M L : List Int) (stock : Int) : Nat → Int
  | 0 => stock
  | i + 1 => if (i : Int) < pf then refL store pf N M L stock i else atMostL store pf M L i (refL store pf N M L stock i) - N[i]?.getD 0

theorem refL_wait (store pf : Int) (N M L : List Int) (stock : Int) (i : Nat) (h : (i : Int) ≤ pf ∨ i = 0) : refL store pf N M L stock i = stock := by
  induction i with
  | zero => rfl
  | succ i ih =>
    have : (i : Int) < pf := by omega
    rw [refL, if_pos this]
    exact ih (by omega)
theorem refL_lack (store pf : Int) (N M L : List Int) (stock : Int) (hp : -1 ≤ pf) (j : Nat) (h : ∀ i, i < j → 0 ≤ refL store pf N M L stock (pf.toNat + i + 1)) : lackS store pf N M L pf.toNat stock j = some (refL store pf N M L stock (pf.toNat + j)) := by
  induction j with
  | zero => rw [lackS, refL_wait]; omega
  | succ j ih =>
    rw [lackS, ih (fun i hi => h i (by omega))]
    have h1 := h j (by omega)
    rw [show pf.toNat + (j + 1) = pf.toNat + j + 1 by omega]
    rw [refL, if_neg (by omega)] at h1 ⊢
    show (if _ then _ else _) = _
    rw [if_neg (by omega)]
theorem refL_none (store pf : Int) (N M L : List Int) (stock : Int) (hp : -1 ≤ pf) (j : Nat) (h : ∀ i, i < j → 0 ≤ refL store pf N M L stock (pf.toNat + i + 1)) (hn : refL store pf N M L stock (pf.toNat + j + 1) < 0) (m : Nat) (hm : j < m) : lackS store pf N M L pf.toNat stock m = none := by
  refine lackS_none store pf N M L pf.toNat stock (j + 1) ?_ m (by omega)
  rw [lackS, refL_lack store pf N M L stock hp j h]
  rw [refL, if_neg (by omega)] at hn
  show (if _ then _ else _) = _
  rw [if_pos hn]

/-- The answer of the reference, when all days before the last have gone well. -/
theorem refL_end {stock store pf : Int} {N M L : List Int} {pd : Nat} (hp : -1 ≤ pf ∧ pf ≤ pd) (h : ∀ i, i < pd → 0 ≤ refL store pf N M L stock (i + 1) ∨ (i : Int) < pf) :
    lackR stock store pf N M L pd = (-(refL store pf N M L stock (pd + 1)), decide (refL store pf N M L stock (pd + 1) < 0)) := by
  have hd : pf.toNat ≤ pd := by omega
  have h1 := refL_lack store pf N M L stock hp.1 (pd - pf.toNat) (fun i hi => by
    rcases h (pf.toNat + i) (by omega) with h | h
    · exact h
    · omega)
  rw [show pf.toNat + (pd - pf.toNat) = pd by omega] at h1
  unfold lackR
  rw [h1]
  show (_, _) = (_, _)
  have h2 : refL store pf N M L stock (pd + 1) = atMostL store pf M L pd (refL store pf N M L stock pd) - N[pd]?.getD 0 := by
    rw [refL, if_neg (by omega)]
  rw [h2]
  congr 1
  · omega
  · exact decide_eq_decide.2 (by omega)
/-- The answer of the reference, when a day before the last has failed. -/
theorem refL_early {stock store pf : Int} {N M L : List Int} {pd i : Nat} (hp : -1 ≤ pf ∧ pf ≤ pd) (hi : i < pd) (hpi : ¬ (i : Int) < pf) (h : ∀ k, k < i → 0 ≤ refL store pf N M L stock (k + 1) ∨ (k : Int) < pf) (hn : refL store pf N M L stock (i + 1) < 0) :
    lackR stock store pf N M L pd = (0, false) := by
  obtain ⟨j, hj⟩ : ∃ j, i = pf.toNat + j := ⟨i - pf.toNat, by omega⟩
  subst hj
  have h1 := refL_none store pf N M L stock hp.1 j (fun k hk => by
    rcases h (pf.toNat + k) (by omega) with h | h
    · exact h
    · omega) hn (pd - pf.toNat) (by omega)
  unfold lackR
  rw [h1]
/-- How what is left is reckoned. -/
theorem refL_has (store pf : Int) (N M L : List Int) (stock : Int) (i : Nat) (h : ¬ (i : Int) < pf) :
    refL store pf N M L stock (i + 1) = (if (i : Int) = pf then store else if L[i]?.getD 0 < refL store pf N M L stock i then M[i]?.getD 0 + refL store pf N M L stock i - L[i]?.getD 0 else M[i]?.getD 0) - N[i]?.getD 0 := by
  rw [refL, if_neg h]
  unfold atMostL
  split
  · rfl
  · split <;> split <;> omega
end Go.Proofs.Ytighidggefefdaa

namespace Go.Proofs.Ytighidggefefdaa
open Go.RowKit Go.Shelf

theorem winE_any {stock store v st : Int} {ds : List Dy} (h : winE stock store ds = 0) (hv : 0 ≤ v ∧ v ≤ st ∧ 1 ≤ st ∧ st ≤ 1000000) : winE v st ds = 0 := by
  unfold winE at *
  split at h
  · split at h
    · split at h
      · rename_i h3
        split at h
        · rename_i h4
          rw [if_pos (by simp [withinB]; omega), if_pos (by simp [withinB]; omega), if_pos h3, if_pos h4]
        · cases h
      · cases h
    · cases h
  · cases h

theorem halves_end {lo hi e : Int} {q : Int → Bool} (hm : ∀ s t, lo ≤ s → s ≤ t → t ≤ hi → q s = true → q t = true) (he : lo ≤ e ∧ e ≤ hi) (hq : q e = true) (hl : e = lo ∨ q (e - 1) = false) :
    LeastOf (hi - lo + 1).toNat (fun t => q (lo + t)) (e - lo).toNat := by
  refine ⟨by omega, fun t ht => ?_, fun t ht h2 => ?_⟩
  · cases hqt : q (lo + t) with
    | false => exact hqt
    | true =>
      exfalso
      rcases hl with hl | hl
      · omega
      · have := hm (lo + t) (e - 1) (by omega) (by omega) (by omega) hqt
        rw [hl] at this
        cases this
  · exact hm e (lo + t) he.1 (by omega) (by omega) hq
theorem halves_none {lo hi : Int} {q : Int → Bool} (hm : ∀ s t, lo ≤ s → s ≤ t → t ≤ hi → q s = true → q t = true) (he : lo ≤ hi) (hq : q hi = false) :
    LeastOf (hi - lo + 1).toNat (fun t => q (lo + t)) (hi - lo + 1).toNat := by
  refine ⟨Nat.le_refl _, fun t ht => ?_, fun t ht h2 => by omega⟩
  cases hqt : q (lo + t) with
  | false => exact hqt
  | true =>
    have := hm (lo + t) hi (by omega) (by omega) (Int.le_refl _) hqt
    rw [hq] at this
    cases this
theorem out_found {lo hi e : Int} {q : Int → Bool} (hm : ∀ s t, lo ≤ s → s ≤ t → t ≤ hi → q s = true → q t = true) (he : lo ≤ e ∧ e ≤ hi) (hq : q e = true) (hl : e = lo ∨ q (e - 1) = false) :
    OutLeast lo hi q (.returned (.tuple #[.int .i64 e, .int .i64 0])) := by
  refine ⟨(e - lo).toNat, halves_end hm he hq hl, ?_⟩
  rw [show lo + ((e - lo).toNat : Int) = e by omega, if_pos he.2]
theorem out_none {lo hi : Int} {q : Int → Bool} (hm : ∀ s t, lo ≤ s → s ≤ t → t ≤ hi → q s = true → q t = true) (he : lo ≤ hi) (hq : q hi = false) :
    OutLeast lo hi q (.returned (.tuple #[.int .i64 0, .int .i64 6])) := by
  refine ⟨(hi - lo + 1).toNat, halves_none hm he hq, ?_⟩
  rw [if_neg (by omega)]
/-- Two answers of this kind are the same. -/
theorem out_least_one {lo hi : Int} {q : Int → Bool} {e1 e2 : Ending} (h1 : OutLeast lo hi q e1) (h2 : OutLeast lo hi q e2) : ∃ x y : Int, e1 = .returned (.tuple #[.int .i64 x, .int .i64 y]) ∧ e2 = .returned (.tuple #[.int .i64 x, .int .i64 y]) := by
  obtain ⟨r, hr, rfl⟩ := h1
  obtain ⟨s, hs, rfl⟩ := h2
  have := least_one hr hs
  subst this
  by_cases h : lo + (r : Int) ≤ hi
  · rw [if_pos h]; exact ⟨_, _, rfl, rfl⟩
  · rw [if_neg h]; exact ⟨_, _, rfl, rfl⟩
/-- More stock, more room: what lasts goes on to last. -/
theorem lasts_more {store : Int} {ds : List Dy} (hd : ∀ d ∈ ds, DayOk d) : ∀ s t : Int, 0 ≤ s → s ≤ t → t ≤ store → ((worstL s store ds).fails == -1) = true → ((worstL t store ds).fails == -1) = true := by
  intro s t h1 h2 h3 h
  have := worst_more (st := s) (S := store) (st' := t) (S' := store) hd h2 (Int.le_refl _) ⟨h1, by omega⟩ h3 (by simpa using h)
  simpa using this
theorem room_more {stock : Int} {ds : List Dy} (hd : ∀ d ∈ ds, DayOk d) (hs : 0 ≤ stock) : ∀ s t : Int, roomLo stock ≤ s → s ≤ t → t ≤ 1000000 → ((worstL stock s ds).fails == -1) = true → ((worstL stock t ds).fails == -1) = true := by
  intro s t h1 h2 h3 h
  have hr : stock ≤ roomLo stock := by unfold roomLo; split <;> omega
  have := worst_more (st := stock) (S := s) (st' := stock) (S' := t) hd (Int.le_refl _) h2 ⟨hs, by omega⟩ (by omega) (by simpa using h)
  simpa using this
end Go.Proofs.Ytighidggefefdaa
