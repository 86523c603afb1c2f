/-
  Better weather, more stock and more room never make a day fail; the stocks are no less.
  What is proved: of two runs of play day by day, the one with more has no less on each day, and fails no earlier.
  Conditions: numbers of a weather that are not below 0; stocks of at most the store.
-/
import Derived.Test.YtkmcdmidegcbaaaAG
namespace Go.Proofs.Ytkmcdmidegcbaaa
open Go.RowKit Go.Shelf

/-- How many days are told of. -/
theorem play_len (st S : Int) (N M L : List Int) (k : Nat) :
    ((playL st S N M L k).fails = -1 ∧ (playL st S N M L k).stocks.length = k ∧ (playL st S N M L k).made.length = k) ∨ (∃ d : Nat, (playL st S N M L k).fails = d ∧ (playL st S N M L k).stocks.length = d ∧ (playL st S N M L k).made.length = d ∧ d < k) := by
  induction k with
  | zero => left; exact ⟨rfl, rfl, rfl⟩
  | succ k ih =>
    rw [playL_succ]
    generalize playL st S N M L k = a at ih ⊢
    rcases ih with ⟨h1, h2, h3⟩ | ⟨d, h1, h2, h3, h4⟩
    · rw [stepP, if_pos h1]
      split
      · right; exact ⟨k, rfl, h2, h3, by omega⟩
      · left; exact ⟨rfl, by simp [h2], by simp [h3]⟩
    · right
      rw [stepP, if_neg (by omega)]
      exact ⟨d, h1, h2, h3, by omega⟩

theorem getD_snoc {xs : List Int} {x : Int} {j : Nat} : (xs ++ [x])[j]?.getD 0 = if j < xs.length then xs[j]?.getD 0 else if j = xs.length then x else 0 := by
  split
  · rw [List.getElem?_append_left (by assumption)]
  · split
    · rename_i h; subst h; simp
    · rw [List.getElem?_eq_none (by simp; omega)]; rfl

structure Less (S S' : Int) (a b : Ps) : Prop where
  run : a.fails = -1 → b.fails = -1 ∧ a.stock ≤ b.stock ∧ 0 ≤ a.stock ∧ a.stock ≤ S ∧ b.stock ≤ S'
  len : a.stocks.length ≤ b.stocks.length
  at' : ∀ j : Nat, j < a.stocks.length → a.stocks[j]?.getD 0 ≤ b.stocks[j]?.getD 0
  day : b.fails = -1 ∨ (0 ≤ a.fails ∧ a.fails ≤ b.fails)

theorem playL_less {st S st' S' : Int} {N M L N' M' L' : List Int} (h1 : st ≤ st') (h2 : S ≤ S') (h3 : 0 ≤ st ∧ st ≤ S) (h4 : st' ≤ S') (hM : ∀ k : Nat, 0 ≤ M[k]?.getD 0 ∧ M[k]?.getD 0 ≤ M'[k]?.getD 0) (hL : ∀ k : Nat, 0 ≤ L'[k]?.getD 0 ∧ L'[k]?.getD 0 ≤ L[k]?.getD 0) (hN : ∀ k : Nat, 0 ≤ N'[k]?.getD 0 ∧ N'[k]?.getD 0 ≤ N[k]?.getD 0) (k : Nat) :
    Less S S' (playL st S N M L k) (playL st' S' N' M' L' k) := by
  induction k with
  | zero => exact ⟨fun _ => ⟨rfl, h1, h3.1, h3.2, h4⟩, Nat.le_refl _, fun j hj => by simp [playL] at hj, .inl rfl⟩
  | succ k ih =>
    have la := play_len st S N M L k
    have lb := play_len st' S' N' M' L' k
    rw [playL_succ, playL_succ]
    have m := hM k
    have l := hL k
    have n := hN k
    generalize playL st S N M L k = a at ih la ⊢
    generalize playL st' S' N' M' L' k = b at ih lb ⊢
    generalize M[k]?.getD 0 = mk at *
    generalize L[k]?.getD 0 = lk at *
    generalize N[k]?.getD 0 = nk at *
    generalize M'[k]?.getD 0 = mk' at *
    generalize L'[k]?.getD 0 = lk' at *
    generalize N'[k]?.getD 0 = nk' at *
    obtain ⟨i1, i2, i3, i4⟩ := ih
    by_cases hf : a.fails = -1
    · obtain ⟨r1, r2, r3, r4, r5⟩ := i1 hf
      have la' : a.stocks.length = k := by rcases la with h | ⟨d, h, _⟩ <;> omega
      have lb' : b.stocks.length = k := by rcases lb with h | ⟨d, h, _⟩ <;> omega
      have e1 : a.stock + (madeD S a.stock mk lk - lostD a.stock lk) ≤ b.stock + (madeD S' b.stock mk' lk' - lostD b.stock lk') ∧ a.stock + (madeD S a.stock mk lk - lostD a.stock lk) ≤ S ∧ b.stock + (madeD S' b.stock mk' lk' - lostD b.stock lk') ≤ S' := by
        unfold madeD lostD; omega
      by_cases ca : a.stock + (madeD S a.stock mk lk - lostD a.stock lk) < nk
      · by_cases cb : b.stock + (madeD S' b.stock mk' lk' - lostD b.stock lk') < nk'
        · rw [stepP, if_pos hf, if_pos ca, stepP, if_pos r1, if_pos cb]
          exact ⟨fun h => absurd h (by show (k : Int) ≠ -1; omega), by show a.stocks.length ≤ b.stocks.length; omega, i3, .inr ⟨by show 0 ≤ (k : Int); omega, by show (k : Int) ≤ k; omega⟩⟩
        · rw [stepP, if_pos hf, if_pos ca, stepP, if_pos r1, if_neg cb]
          refine ⟨fun h => absurd h (by show (k : Int) ≠ -1; omega), ?_, ?_, .inl rfl⟩
          · show a.stocks.length ≤ (b.stocks ++ _).length; simp; omega
          · intro j hj
            show a.stocks[j]?.getD 0 ≤ (b.stocks ++ _)[j]?.getD 0
            rw [getD_snoc, if_pos (by have : j < a.stocks.length := hj; omega)]
            exact i3 j hj
      · have cb : ¬ (b.stock + (madeD S' b.stock mk' lk' - lostD b.stock lk') < nk') := by omega
        rw [stepP, if_pos hf, if_neg ca, stepP, if_pos r1, if_neg cb]
        refine ⟨fun _ => ⟨rfl, ?_, ?_, ?_, ?_⟩, ?_, ?_, .inl rfl⟩
        · show _ - nk ≤ _ - nk'; omega
        · show 0 ≤ _ - nk; omega
        · show _ - nk ≤ S; omega
        · show _ - nk' ≤ S'; omega
        · show (a.stocks ++ _).length ≤ (b.stocks ++ _).length; simp; omega
        · intro j hj
          have hj' : j < k + 1 := by have : j < (a.stocks ++ [_]).length := hj; simp at this; omega
          show (a.stocks ++ _)[j]?.getD 0 ≤ (b.stocks ++ _)[j]?.getD 0
          rw [getD_snoc, getD_snoc, la', lb']
          by_cases hjk : j < k
          · rw [if_pos hjk, if_pos hjk]; exact i3 j (by omega)
          · rw [if_neg hjk, if_neg hjk, if_pos (by omega), if_pos (by omega)]; omega
    · have la' : ∃ d : Nat, a.fails = d ∧ a.stocks.length = d ∧ d < k := by
        rcases la with ⟨h, _⟩ | ⟨d, h, h', _, h''⟩
        · exact absurd h hf
        · exact ⟨d, h, h', h''⟩
      obtain ⟨d, d1, d2, d3⟩ := la'
      rcases i4 with hb | hb
      · have lb' : b.stocks.length = k := by rcases lb with h | ⟨d, h, _⟩ <;> omega
        by_cases cb : b.stock + (madeD S' b.stock mk' lk' - lostD b.stock lk') < nk'
        · rw [stepP, if_neg hf, stepP, if_pos hb, if_pos cb]
          exact ⟨fun h => absurd h hf, i2, i3, .inr ⟨by omega, by show a.fails ≤ (k : Int); omega⟩⟩
        · rw [stepP, if_neg hf, stepP, if_pos hb, if_neg cb]
          refine ⟨fun h => absurd h hf, ?_, ?_, .inl rfl⟩
          · show a.stocks.length ≤ (b.stocks ++ _).length; simp; omega
          · intro j hj
            show a.stocks[j]?.getD 0 ≤ (b.stocks ++ _)[j]?.getD 0
            rw [getD_snoc, if_pos (by omega)]
            exact i3 j hj
      · rw [stepP, if_neg hf, stepP, if_neg (by omega)]
        exact ⟨fun h => absurd h hf, i2, i3, .inr hb⟩

theorem map_getD {α : Type} (f : α → Int) (xs : List α) (k : Nat) : (xs.map f)[k]?.getD 0 = match xs[k]? with | none => 0 | some x => f x := by
  rw [List.getElem?_map]; cases xs[k]? <;> rfl

/-- The best weather leaves no less than the worst. -/
theorem best_less {stock store : Int} {ds : List Dy} (hd : ∀ d ∈ ds, DayOk d) (hst : 0 ≤ stock ∧ stock ≤ store) : Less store store (worstL stock store ds) (bestL stock store ds) := by
  refine playL_less (Int.le_refl _) (Int.le_refl _) hst hst.2 (fun k => ?_) (fun k => ?_) (fun k => ?_) ds.length
  all_goals
    rw [map_getD, map_getD]
    cases h : ds[k]? with
    | none => exact ⟨Int.le_refl _, Int.le_refl _⟩
    | some d =>
      obtain ⟨a, b, c⟩ := hd d (List.mem_of_getElem? h)
      constructor <;> dsimp only <;> omega
end Go.Proofs.Ytkmcdmidegcbaaa
