/-
  More stock and more room never make a day fail.
  What is proved: if no day fails with some stock and store, none fails with more of both.
  Conditions: numbers of a weather that are not below 0; stocks of at most the store.
-/
import Derived.Test.YtkmcdmidegcbaaaAD
namespace Go.Proofs.Ytkmcdmidegcbaaa
open Go.RowKit Go.Shelf

theorem playL_more {st S st' S' : Int} {N M L : List Int} (h1 : st ≤ st') (h2 : S ≤ S') (h3 : 0 ≤ st ∧ st ≤ S) (h4 : st' ≤ S') (hM : ∀ k : Nat, 0 ≤ M[k]?.getD 0) (hL : ∀ k : Nat, 0 ≤ L[k]?.getD 0) (hN : ∀ k : Nat, 0 ≤ N[k]?.getD 0) (k : Nat) :
    (playL st S N M L k).fails = -1 → (playL st' S' N M L k).fails = -1 ∧ (playL st S N M L k).stock ≤ (playL st' S' N M L k).stock ∧ 0 ≤ (playL st S N M L k).stock ∧ (playL st S N M L k).stock ≤ S ∧ (playL st' S' N M L k).stock ≤ S' := by
  induction k with
  | zero => intro _; exact ⟨rfl, h1, h3.1, h3.2, h4⟩
  | succ k ih =>
    intro h
    rw [playL_succ] at h
    rw [playL_succ, playL_succ]
    have m := hM k
    have l := hL k
    have n := hN k
    generalize playL st S N M L k = a at ih h ⊢
    generalize playL st' S' N M L k = b at ih ⊢
    generalize M[k]?.getD 0 = mk at *
    generalize L[k]?.getD 0 = lk at *
    generalize N[k]?.getD 0 = nk at *
    by_cases hf : a.fails = -1
    · obtain ⟨i1, i2, i3, i4, i5⟩ := ih hf
      by_cases hc : a.stock + (madeD S a.stock mk lk - lostD a.stock lk) < nk
      · rw [show stepP S a k nk mk lk = ⟨a.stock, a.stocks, a.made, k, if madeD S a.stock mk lk < mk then k else a.full⟩ by rw [stepP, if_pos hf, if_pos hc]] at h
        exact absurd h (by show (k : Int) ≠ -1; omega)
      · have e1 : a.stock + (madeD S a.stock mk lk - lostD a.stock lk) ≤ b.stock + (madeD S' b.stock mk lk - lostD b.stock lk) ∧ a.stock + (madeD S a.stock mk lk - lostD a.stock lk) ≤ S ∧ b.stock + (madeD S' b.stock mk lk - lostD b.stock lk) ≤ S' := by
          unfold madeD lostD; omega
        rw [show stepP S a k nk mk lk = ⟨a.stock + (madeD S a.stock mk lk - lostD a.stock lk) - nk, a.stocks ++ [a.stock + (madeD S a.stock mk lk - lostD a.stock lk) - nk], a.made ++ [madeD S a.stock mk lk], -1, if madeD S a.stock mk lk < mk then k else a.full⟩ by rw [stepP, if_pos hf, if_neg hc],
          show stepP S' b k nk mk lk = ⟨b.stock + (madeD S' b.stock mk lk - lostD b.stock lk) - nk, b.stocks ++ [b.stock + (madeD S' b.stock mk lk - lostD b.stock lk) - nk], b.made ++ [madeD S' b.stock mk lk], -1, if madeD S' b.stock mk lk < mk then k else b.full⟩ by rw [stepP, if_pos i1, if_neg (by omega)]]
        refine ⟨rfl, ?_, ?_, ?_, ?_⟩
        · show _ - nk ≤ _ - nk; omega
        · show 0 ≤ _ - nk; omega
        · show _ - nk ≤ S; omega
        · show _ - nk ≤ S'; omega
    · rw [stepP, if_neg hf] at h
      exact absurd h hf
theorem getD_nn {xs : List Int} (h : ∀ x ∈ xs, 0 ≤ x ∧ x ≤ 100000) (k : Nat) : 0 ≤ xs[k]?.getD 0 := by
  cases hx : xs[k]? with
  | none => exact Int.le_refl _
  | some x => exact (h x (List.mem_of_getElem? hx)).1
/-- More stock and more room: no day fails that did not. -/
theorem worst_more {st S st' S' : Int} {ds : List Dy} (hd : ∀ d ∈ ds, DayOk d) (h1 : st ≤ st') (h2 : S ≤ S') (h3 : 0 ≤ st ∧ st ≤ S) (h4 : st' ≤ S') (h : (worstL st S ds).fails = -1) : (worstL st' S' ds).fails = -1 :=
  (playL_more h1 h2 h3 h4 (getD_nn (worst_bd hd).2.1) (getD_nn (worst_bd hd).2.2) (getD_nn (worst_bd hd).1) ds.length h).1
end Go.Proofs.Ytkmcdmidegcbaaa
