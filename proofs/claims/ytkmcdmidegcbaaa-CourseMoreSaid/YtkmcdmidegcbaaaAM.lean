/-
  The contracts of klisterkit.EqualAll and of Equal for spans over this seat's program.
  What is proved: they tell whether two lists are the same.
  Conditions: slices of at most 1000000 elements.
-/
import Derived.Test.YtkmcdmidegcbaaaAJ
import Derived.Test.YtkmcdmidegcbaaaN
namespace Go.Proofs.Ytkmcdmidegcbaaa
open Go.RowKit Go.Shelf
attribute [local go_sem] Oper.semAt_some

set_option maxRecDepth 100000 in
set_option maxHeartbeats 1000000 in
theorem equalAll_any (a : Option Addr) (xs : List (List Int)) (ca : Nat) (b : Option Addr) (ys : List (List Int)) (cb : Nat) (w : World) (hx : SlsAt w a xs) (hy : SlsAt w b ys) (hl : xs.length ≤ 1000000) (hls : ∀ c ∈ xs, c.length ≤ 1000000) :
    Calls Try.prog 29 #[.slice a xs.length ca, .slice b ys.length cb] w fun e w' => e = .returned (.bool (decide (xs = ys))) ∧ Below w.heap.size w w' := by
  have HX := Lib.hid (And.intro hx (And.intro hy hls))
  clear hx hy hls
  by_cases hlen : xs.length = ys.length
  · have HL := Lib.hid hlen
    go_enter Try.func29, Try.ntmps29
    rw [← hlen]
    clear hlen
    go_wp2
    go_loopw [13] (fun i wr => ∃ k : Nat, k ≤ xs.length ∧ i = .int .i64 k ∧ Hid (∀ j, j < k → xs[j]? = ys[j]?) ∧ Below w.heap.size w wr) (fun i _ => xs.length - (intOf i).toNat)
    case atStart => exact ⟨0, Nat.zero_le _, rfl, fun j hj => by omega, Below.refl _ _⟩
    case round =>
      obtain ⟨k, hk, rfl, hall, hbw⟩ := hrel
      by_cases hlt : k < xs.length
      · obtain ⟨b1, o1, rfl, hb1, hc1⟩ := HX.out.1 (by omega)
        obtain ⟨b2, o2, rfl, hb2, hc2⟩ := HX.out.2.1 (by have := HL.out; omega)
        have hlt2 : k < ys.length := by have := HL.out; omega
        obtain ⟨a1, k1, v1, i1⟩ := hc1 k _ (List.getElem?_eq_getElem hlt)
        obtain ⟨a2, k2, v2, i2⟩ := hc2 k _ (List.getElem?_eq_getElem hlt2)
        have hcl := Lib.hid (HX.out.2.2 _ (List.getElem_mem hlt))
        have d1 := (hbw.cell (p := ⟨b1, o1 + k, none⟩) hb1).trans v1
        have d2 := (hbw.cell (p := ⟨b2, o2 + k, none⟩) hb2).trans v2
        have HI := Lib.hid (And.intro i1 i2)
        have HXY : Hid (xs[k]? = some xs[k] ∧ ys[k]? = some ys[k]) := ⟨List.getElem?_eq_getElem hlt, List.getElem?_eq_getElem hlt2⟩
        clear hc1 hc2 v1 v2 i1 i2
        generalize xs[k] = c at d1 HI hcl HXY
        generalize ys[k] = d at d2 HI HXY
        have HB := Lib.hid hbw
        clear hlt2 hbw
        go_wp2_with (fail)
        go_region_held3 (fun w' => w'.cell? ⟨b1, o1 + k, none⟩ = some (.slice a1 c.length k1) ∧ w'.cell? ⟨b2, o2 + k, none⟩ = some (.slice a2 d.length k2)) (go_keep)
          (first | (go_at_call 23; refine (equal_int a1 c k1 a2 d k2 _ (HI.out.1.below HB.out.drew) (HI.out.2.below HB.out.drew) hcl.out).mono ?_; rintro e w5 ⟨rfl, hb5⟩; have H5 : Hid (Below wr.heap.size wr w5) := ⟨hb5.os, hb5.tape, hb5.output, hb5.size, hb5.block⟩; have e1 := (H5.out.cell (p := ⟨b1, o1 + k, none⟩) (Nat.lt_of_lt_of_le hb1 HB.out.size)).trans d1; have e2 := (H5.out.cell (p := ⟨b2, o2 + k, none⟩) (Nat.lt_of_lt_of_le hb2 HB.out.size)).trans d2))
        all_goals (
          have hbw := below_self HB.out H5.out
          clear e1 e2 hb5 d1 d2
          by_cases he : c = d
          · have HA : Hid (∀ j, j < k + 1 → xs[j]? = ys[j]?) := fun j hj => by
              rcases Nat.lt_or_ge j k with h | h
              · exact hall.out j h
              · have : j = k := by omega
                subst this; rw [HXY.out.1, HXY.out.2, he]
            simp only [he, decide_true]
            clear he hall
            go_wp2
            go_roundw
            case rel => exact ⟨k + 1, by omega, by go_num, HA, hbw⟩
            case measure => simp [intOf]; omega
          · have HF : Hid (decide (xs = ys) = false) := by
              show _ = _
              simp only [decide_eq_false_iff_not]
              intro e; subst e
              have := HXY.out.1.symm.trans HXY.out.2
              exact he (by simpa using this)
            simp only [he, decide_false]
            clear he hall
            go_wp2
            go_ret
            exact ⟨by rw [HF.out]; rfl, hbw⟩)
      · have : k = xs.length := by omega
        subst this
        have HT : Hid (decide (xs = ys) = true) := by
          show _ = _
          simp only [decide_eq_true_eq]
          apply List.ext_getElem?
          intro j
          rcases Nat.lt_or_ge j xs.length with h | h
          · exact hall.out j h
          · rw [List.getElem?_eq_none h, List.getElem?_eq_none (by have := HL.out; omega)]
        go_wp2
        go_ret
        exact ⟨by rw [HT.out]; rfl, hbw⟩
  · have hlb : ((xs.length : Int) != (ys.length : Int)) = true := by simp; omega
    have HR : Hid (decide (xs = ys) = false) := by show _ = _; simp only [decide_eq_false_iff_not]; intro e; subst e; exact hlen rfl
    clear hlen
    go_enter Try.func29, Try.ntmps29
    go_wp2
    go_ret
    exact ⟨by rw [HR.out]; rfl, Below.refl _ _⟩
theorem eq24 (a b c d : Int) (w : World) : (Op.equalIn 10000 24 (.agg #[.int .i64 a, .int .i64 b]) (.agg #[.int .i64 c, .int .i64 d])).run Try.prog w = .ok (decide (a = c) && decide (b = d)) w := by
  rw [Op.equalIn]
  simp [go_sem]
  by_cases h1 : a = c <;> by_cases h2 : b = d <;> simp [h1, h2]
theorem eq24' (x y : Sp) (bb : Bool) (h : (decide (x.lo = y.lo) && decide (x.hi = y.hi)) = bb) (w : World) : (Op.equalIn 10000 24 (.agg #[.int .i64 x.lo, .int .i64 x.hi]) (.agg #[.int .i64 y.lo, .int .i64 y.hi])).run Try.prog w = .ok bb w := by
  rw [← h]; exact eq24 _ _ _ _ w

def eqSp (x y : Sp) : Bool := decide (x.lo = y.lo) && decide (x.hi = y.hi)
/-- Two lists of spans are the same. -/
def eqSps (xs ys : List Sp) : Bool := decide (xs.length = ys.length) && (List.range xs.length).all (fun j => match xs[j]?, ys[j]? with | some x, some y => eqSp x y | _, _ => true)

set_option maxHeartbeats 1000000 in
theorem equal_span (a : Option Addr) (xs : List Sp) (ca : Nat) (b : Option Addr) (ys : List Sp) (cb : Nat) (w : World) (hx : Sl 2 Sp.cells w a xs) (hy : Sl 2 Sp.cells w b ys) (hl : xs.length ≤ 1000000) :
    Calls Try.prog 46 #[.slice a xs.length ca, .slice b ys.length cb] w fun e w' => e = .returned (.bool (eqSps xs ys)) ∧ Below w.heap.size w w' := by
  have HX := Lib.hid (And.intro hx hy)
  clear hx hy
  by_cases hlen : xs.length = ys.length
  · have HL := Lib.hid hlen
    go_enter Try.func46, Try.ntmps46
    rw [← hlen]
    clear hlen
    go_wp2
    go_loopw [13] (fun i wr => ∃ k : Nat, k ≤ xs.length ∧ i = .int .i64 k ∧ Hid (∀ j x y, j < k → xs[j]? = some x → ys[j]? = some y → eqSp x y = true) ∧ Below w.heap.size w wr) (fun i _ => xs.length - (intOf i).toNat)
    case atStart => exact ⟨0, Nat.zero_le _, rfl, fun j x y hj => by omega, Below.refl _ _⟩
    case round =>
      obtain ⟨k, hk, rfl, hall, hbw⟩ := hrel
      by_cases hlt : k < xs.length
      · obtain ⟨b1, o1, rfl, hb1, hc1⟩ := HX.out.1 (by omega)
        obtain ⟨b2, o2, rfl, hb2, hc2⟩ := HX.out.2 (by have := HL.out; omega)
        have hlt2 : k < ys.length := by have := HL.out; omega
        have HXY : Hid (xs[k]? = some xs[k] ∧ ys[k]? = some ys[k]) := ⟨List.getElem?_eq_getElem hlt, List.getElem?_eq_getElem hlt2⟩
        have d1 := (hbw.cell (p := ⟨b1, o1 + k * 2, none⟩) hb1).trans (hc1 k _ 0 _ HXY.out.1 rfl)
        have d2 := (hbw.cell (p := ⟨b1, o1 + k * 2 + 1, none⟩) hb1).trans (hc1 k _ 1 _ HXY.out.1 rfl)
        have d3 := (hbw.cell (p := ⟨b2, o2 + k * 2, none⟩) hb2).trans (hc2 k _ 0 _ HXY.out.2 rfl)
        have d4 := (hbw.cell (p := ⟨b2, o2 + k * 2 + 1, none⟩) hb2).trans (hc2 k _ 1 _ HXY.out.2 rfl)
        clear hc1 hc2
        generalize xs[k] = x at d1 d2 HXY
        generalize ys[k] = y at d3 d4 HXY
        cases he : eqSp x y
        · have q24 := eq24' x y false he
          have HF : Hid (eqSps xs ys = false) := by
            show _ = _
            rw [eqSps]
            have : ((List.range xs.length).all (fun j => match xs[j]?, ys[j]? with | some x, some y => eqSp x y | _, _ => true)) = false := by
              rw [List.all_eq_false]
              exact ⟨k, List.mem_range.2 hlt, by rw [HXY.out.1, HXY.out.2]; simp [he]⟩
            rw [this, Bool.and_false]
          clear he hall
          go_wp2_with fail
          go_quiet (fail)
          have hwd := below_drewN hbw nq
          go_wp2
          go_ret
          exact ⟨by rw [HF.out]; rfl, hwd⟩
        · have q24 := eq24' x y true he
          have HA : Hid (∀ j x y, j < k + 1 → xs[j]? = some x → ys[j]? = some y → eqSp x y = true) := fun j x' y' hj hx' hy' => by
            rcases Nat.lt_or_ge j k with h | h
            · exact hall.out j x' y' h hx' hy'
            · have : j = k := by omega
              subst this
              rw [HXY.out.1] at hx'; rw [HXY.out.2] at hy'
              cases hx'; cases hy'; exact he
          clear he hall
          go_wp2_with fail
          go_quiet (fail)
          have hwd := below_drewN hbw nq
          go_wp2
          go_roundw
          case rel => exact ⟨k + 1, by omega, by go_num, HA, hwd⟩
          case measure => simp [intOf]; omega
      · have : k = xs.length := by omega
        subst this
        have HT : Hid (eqSps xs ys = true) := by
          show _ = _
          rw [eqSps, HL.out]
          simp only [decide_true, Bool.true_and, List.all_eq_true, List.mem_range]
          intro j hj
          cases h1 : xs[j]? with
          | none => rfl
          | some x => cases h2 : ys[j]? with
            | none => rfl
            | some y => exact hall.out j x y (by rw [HL.out]; exact hj) h1 h2
        go_wp2
        go_ret
        exact ⟨by rw [HT.out]; rfl, hbw⟩
  · have hlb : ((xs.length : Int) != (ys.length : Int)) = true := by simp; omega
    have HR : Hid (eqSps xs ys = false) := by show _ = _; rw [eqSps]; simp [hlen]
    clear hlen
    go_enter Try.func46, Try.ntmps46
    go_wp2
    go_ret
    exact ⟨by rw [HR.out]; rfl, Below.refl _ _⟩
end Go.Proofs.Ytkmcdmidegcbaaa
