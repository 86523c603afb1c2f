/-
  The contracts of klisterkit.Equal over this seat's program.
  What is proved: it tells whether two lists are the same.
  Conditions: slices of at most 1000000 elements.
-/
import Derived.Test.YtkmcdmidegcbaaaC
namespace Go.Proofs.Ytkmcdmidegcbaaa
open Go.RowKit Go.Shelf
attribute [local go_sem] Oper.semAt_some

theorem eq_lists {xs ys : List Int} (hl : xs.length = ys.length) (h : ∀ j, j < xs.length → xs[j]?.getD 0 = ys[j]?.getD 0) : decide (xs = ys) = true := by
  simp only [decide_eq_true_eq]
  apply List.ext_getElem hl
  intro i h1 h2
  have := h i h1
  rw [List.getElem?_eq_getElem h1, List.getElem?_eq_getElem h2] at this
  simpa using this
theorem ne_lists {xs ys : List Int} (j : Nat) (h : xs[j]?.getD 0 ≠ ys[j]?.getD 0) : decide (xs = ys) = false := by
  simp only [decide_eq_false_iff_not]
  intro e; subst e; exact h rfl

set_option maxHeartbeats 1000000 in
theorem equal_int (a : Option Addr) (xs : List Int) (ca : Nat) (b : Option Addr) (ys : List Int) (cb : Nat) (w : World) (hx : IntSl w a xs) (hy : IntSl w b ys) (hl : xs.length ≤ 1000000) :
    Calls Try.prog 23 #[.slice a xs.length ca, .slice b ys.length cb] w fun e w' => e = .returned (.bool (decide (xs = ys))) ∧ Below w.heap.size w w' := by
  have HX := Lib.hid (And.intro hx hy)
  clear hx hy
  by_cases hlen : xs.length = ys.length
  · have HL := Lib.hid hlen
    go_enter Try.func23, Try.ntmps23
    rw [← hlen]
    clear hlen
    go_wp2
    go_loopw [13] (fun i wr => ∃ k : Nat, k ≤ xs.length ∧ i = .int .i64 k ∧ Hid (∀ j, j < k → xs[j]?.getD 0 = ys[j]?.getD 0) ∧ Below w.heap.size w wr) (fun i _ => xs.length - (intOf i).toNat)
    case atStart => exact ⟨0, Nat.zero_le _, rfl, fun j hj => by omega, Below.refl _ _⟩
    case round =>
      obtain ⟨k, hk, rfl, hall, hbw⟩ := hrel
      by_cases hlt : k < xs.length
      · obtain ⟨b1, o1, rfl, hb1, hc1⟩ := HX.out.1 (by omega)
        obtain ⟨b2, o2, rfl, hb2, hc2⟩ := HX.out.2 (by have := HL.out; omega)
        have d1 := (hbw.cell (p := ⟨b1, o1 + k, none⟩) hb1).trans (hc1 k hlt)
        have d2 := (hbw.cell (p := ⟨b2, o2 + k, none⟩) hb2).trans (hc2 k (by have := HL.out; omega))
        clear hc1 hc2
        generalize hxk : xs[k]?.getD 0 = xk at d1
        generalize hyk : ys[k]?.getD 0 = yk at d2
        by_cases he : xk = yk
        · have heb : (xk != yk) = false := by simp [he]
          have HA : Hid (∀ j, j < k + 1 → xs[j]?.getD 0 = ys[j]?.getD 0) := fun j hj => by
            rcases Nat.lt_or_ge j k with h | h
            · exact hall.out j h
            · have : j = k := by omega
              subst this; rw [hxk, hyk, he]
          clear hxk hyk he hall
          go_wp2_with fail
          go_quiet (fail)
          have hwd := below_drewN hbw nq
          go_wp2
          go_roundw
          case rel => exact ⟨k + 1, by omega, by go_num, HA, hwd⟩
          case measure => simp [intOf]; omega
        · have heb : (xk != yk) = true := by simp [he]
          have HF : Hid (decide (xs = ys) = false) := ne_lists k (by rw [hxk, hyk]; exact he)
          clear hxk hyk he hall
          go_wp2_with fail
          go_quiet (fail)
          have hwd := below_drewN hbw nq
          go_wp2
          go_ret
          exact ⟨by rw [HF.out]; rfl, hwd⟩
      · have : k = xs.length := by omega
        subst this
        have HT := Lib.hid (eq_lists HL.out hall.out)
        go_wp2
        go_ret
        exact ⟨by rw [HT.out]; rfl, hbw⟩
  · have hlb : ((xs.length : Int) != (ys.length : Int)) = true := by simp; omega
    have HR : Hid (decide (xs = ys) = false) := by show _ = _; simp only [decide_eq_false_iff_not]; intro e; subst e; exact hlen rfl
    clear hlen
    go_enter Try.func23, Try.ntmps23
    go_wp2
    go_ret
    exact ⟨by rw [HR.out]; rfl, Below.refl _ _⟩
set_option maxHeartbeats 1000000 in
theorem equal_rule (a : Option Addr) (xs : List Int) (ca : Nat) (b : Option Addr) (ys : List Int) (cb : Nat) (w : World) (hx : IntSl w a xs) (hy : IntSl w b ys) (hl : xs.length ≤ 1000000) :
    Calls Try.prog 64 #[.slice a xs.length ca, .slice b ys.length cb] w fun e w' => e = .returned (.bool (decide (xs = ys))) ∧ Below w.heap.size w w' := by
  have HX := Lib.hid (And.intro hx hy)
  clear hx hy
  by_cases hlen : xs.length = ys.length
  · have HL := Lib.hid hlen
    go_enter Try.func64, Try.ntmps64
    rw [← hlen]
    clear hlen
    go_wp2
    go_loopw [13] (fun i wr => ∃ k : Nat, k ≤ xs.length ∧ i = .int .i64 k ∧ Hid (∀ j, j < k → xs[j]?.getD 0 = ys[j]?.getD 0) ∧ Below w.heap.size w wr) (fun i _ => xs.length - (intOf i).toNat)
    case atStart => exact ⟨0, Nat.zero_le _, rfl, fun j hj => by omega, Below.refl _ _⟩
    case round =>
      obtain ⟨k, hk, rfl, hall, hbw⟩ := hrel
      by_cases hlt : k < xs.length
      · obtain ⟨b1, o1, rfl, hb1, hc1⟩ := HX.out.1 (by omega)
        obtain ⟨b2, o2, rfl, hb2, hc2⟩ := HX.out.2 (by have := HL.out; omega)
        have d1 := (hbw.cell (p := ⟨b1, o1 + k, none⟩) hb1).trans (hc1 k hlt)
        have d2 := (hbw.cell (p := ⟨b2, o2 + k, none⟩) hb2).trans (hc2 k (by have := HL.out; omega))
        clear hc1 hc2
        generalize hxk : xs[k]?.getD 0 = xk at d1
        generalize hyk : ys[k]?.getD 0 = yk at d2
        by_cases he : xk = yk
        · have heb : (xk != yk) = false := by simp [he]
          have HA : Hid (∀ j, j < k + 1 → xs[j]?.getD 0 = ys[j]?.getD 0) := fun j hj => by
            rcases Nat.lt_or_ge j k with h | h
            · exact hall.out j h
            · have : j = k := by omega
              subst this; rw [hxk, hyk, he]
          clear hxk hyk he hall
          go_wp2_with fail
          go_quiet (fail)
          have hwd := below_drewN hbw nq
          go_wp2
          go_roundw
          case rel => exact ⟨k + 1, by omega, by go_num, HA, hwd⟩
          case measure => simp [intOf]; omega
        · have heb : (xk != yk) = true := by simp [he]
          have HF : Hid (decide (xs = ys) = false) := ne_lists k (by rw [hxk, hyk]; exact he)
          clear hxk hyk he hall
          go_wp2_with fail
          go_quiet (fail)
          have hwd := below_drewN hbw nq
          go_wp2
          go_ret
          exact ⟨by rw [HF.out]; rfl, hwd⟩
      · have : k = xs.length := by omega
        subst this
        have HT := Lib.hid (eq_lists HL.out hall.out)
        go_wp2
        go_ret
        exact ⟨by rw [HT.out]; rfl, hbw⟩
  · have hlb : ((xs.length : Int) != (ys.length : Int)) = true := by simp; omega
    have HR : Hid (decide (xs = ys) = false) := by show _ = _; simp only [decide_eq_false_iff_not]; intro e; subst e; exact hlen rfl
    clear hlen
    go_enter Try.func64, Try.ntmps64
    go_wp2
    go_ret
    exact ⟨by rw [HR.out]; rfl, Below.refl _ _⟩
end Go.Proofs.Ytkmcdmidegcbaaa
