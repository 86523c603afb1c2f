/-
  The contract of sort.Search over this seat's program.
  What is proved: it answers the least number from 0 to n at which the function answers true, or n.
  Conditions: n of at most 2000000; a function that answers true for all numbers that are greater than one for which it does.
-/
import Derived.Test.YtkmcdmidegcbaaaAB
namespace Go.Proofs.Ytkmcdmidegcbaaa
open Go.RowKit Go.Shelf
attribute [local go_sem] Oper.semAt_some

/-- The least number that is enough, or n. -/
def LeastOf (n : Nat) (p : Nat → Bool) (r : Nat) : Prop := r ≤ n ∧ (∀ t, t < r → p t = false) ∧ (∀ t, r ≤ t → t < n → p t = true)

set_option maxHeartbeats 1000000 in
theorem search_any (n g : Nat) (lb : Array Value) (p : Nat → Bool) (w : World) (hn : n ≤ 2000000) (hm : ∀ s t, s ≤ t → t < n → p s = true → p t = true)
    (eg : ∀ args w, (callFunc g args).run Try.prog w = .ok (.enter g args) w)
    (hg : ∀ h : Nat, h < n → ∀ W, Below w.heap.size w W → Calls Try.prog g (#[.int .i64 h] ++ lb) W fun e W' => e = .returned (.bool (p h)) ∧ Below W.heap.size W W') :
    Calls Try.prog 136 #[.int .i64 n, .func (.func g) #[] lb] w fun e w' => (∃ r : Nat, e = .returned (.int .i64 r) ∧ LeastOf n p r) ∧ Below w.heap.size w w' := by
  have Hg := Lib.hid hg
  have Hm := Lib.hid hm
  clear hg hm
  go_enter Try.func136, Try.ntmps136
  go_wp2_with (fail)
  go_loopw [5, 6] (fun vi vj wr => ∃ i j : Nat, vi = .int .i64 i ∧ vj = .int .i64 j ∧ i ≤ j ∧ j ≤ n ∧ Hid ((∀ t, t < i → p t = false) ∧ (∀ t, j ≤ t → t < n → p t = true)) ∧ Below w.heap.size w wr) (fun vi vj _ => (intOf vj).toNat - (intOf vi).toNat)
  case atStart => exact ⟨0, n, rfl, rfl, Nat.zero_le _, Nat.le_refl _, ⟨fun t h => by omega, fun t h1 h2 => by omega⟩, Below.refl _ _⟩
  case round =>
    obtain ⟨i, j, rfl, rfl, hij, hjn, hinv, hbw⟩ := hrel
    by_cases hlt : i < j
    · go_upto_region 4 with (fail)
      obtain ⟨h, hh⟩ : ∃ h : Nat, ((i : Int) + (j : Int)) / 2 = (h : Int) := ⟨(i + j) / 2, by omega⟩
      rw [hh]
      have h1 : i ≤ h ∧ h < j := by omega
      clear hh
      go_wp2_with (fail)
      refine (Hg.out h (by omega) _ hbw).mono ?_
      rintro e w1 ⟨rfl, hb1⟩
      have hb2 := below_self hbw hb1
      cases hp : p h
      · have H2 : Hid ((∀ t, t < h + 1 → p t = false) ∧ (∀ t, j ≤ t → t < n → p t = true)) := ⟨fun t ht => Bool.eq_false_iff.2 (fun hq => by rw [Hm.out t h (by omega) (by omega) hq] at hp; simp at hp), hinv.out.2⟩
        clear hp hb1 hbw
        go_wp2
        go_roundw
        case rel => exact ⟨h + 1, j, by go_num, rfl, by omega, hjn, H2, hb2⟩
        case measure => simp [intOf]; omega
      · have H2 : Hid ((∀ t, t < i → p t = false) ∧ (∀ t, h ≤ t → t < n → p t = true)) := ⟨hinv.out.1, fun t h3 h4 => Hm.out h t h3 h4 hp⟩
        clear hp hb1 hbw
        go_wp2
        go_roundw
        case rel => exact ⟨i, h, rfl, rfl, h1.1, by omega, H2, hb2⟩
        case measure => simp [intOf]; omega
    · have : i = j := by omega
      subst this
      go_wp2
      go_ret
      exact ⟨⟨i, rfl, hjn, hinv.out.1, hinv.out.2⟩, hbw⟩
end Go.Proofs.Ytkmcdmidegcbaaa
