import Derived.Test.YthajembgndhakaaS
namespace Go.Proofs.Ythajembgndhakaa
open Go.RowKit Go.Shelf
def a5 (p q : Int) : List (List Int) := [[p, q], [p, q], [p, q], [p, q], [p, q]]
theorem step_of (a : List (List Int)) (ws all : List Int) (m : Int) (j : Nat) (h1 : hsTo a ws a.length = all) (h2 : greatTo all all.length = m) (h3 : m ≠ 0) (h4 : all.findIdx (fun x => x == m) = j) : stepW a ws = ws.set j (ws[j]?.getD 0 + 1) := by
  unfold stepW
  simp only
  rw [h1, h2, if_neg h3, h4]
theorem step_nil (a : List (List Int)) (ws all : List Int) (h1 : hsTo a ws a.length = all) (h2 : greatTo all all.length = 0) : stepW a ws = ws := by
  unfold stepW
  simp only
  rw [h1, h2, if_pos rfl]
theorem ne_pq (p q : Int) (h : q < p) : ((0 : Int) == p - q) = false := beq_false_of_ne (by omega)
theorem st0 (p q : Int) (h : q < p) : stepW (a5 p q) [0, 0, 0, 0, 0] = [1, 0, 0, 0, 0] :=
  step_of (a5 p q) [0, 0, 0, 0, 0] [p - q, p - q, p - q, p - q, p - q] (p - q) 0 rfl (by simp [greatTo]; omega) (by omega) (by simp [List.findIdx_cons])
theorem st1 (p q : Int) (h : q < p) : stepW (a5 p q) [1, 0, 0, 0, 0] = [1, 1, 0, 0, 0] :=
  step_of (a5 p q) [1, 0, 0, 0, 0] [0, p - q, p - q, p - q, p - q] (p - q) 1 rfl (by simp [greatTo]; omega) (by omega) (by simp [List.findIdx_cons, ne_pq p q h])
theorem st2 (p q : Int) (h : q < p) : stepW (a5 p q) [1, 1, 0, 0, 0] = [1, 1, 1, 0, 0] :=
  step_of (a5 p q) [1, 1, 0, 0, 0] [0, 0, p - q, p - q, p - q] (p - q) 2 rfl (by simp [greatTo]; omega) (by omega) (by simp [List.findIdx_cons, ne_pq p q h])
theorem st3 (p q : Int) (h : q < p) : stepW (a5 p q) [1, 1, 1, 0, 0] = [1, 1, 1, 1, 0] :=
  step_of (a5 p q) [1, 1, 1, 0, 0] [0, 0, 0, p - q, p - q] (p - q) 3 rfl (by simp [greatTo]; omega) (by omega) (by simp [List.findIdx_cons, ne_pq p q h])
theorem st4 (p q : Int) (h : q < p) : stepW (a5 p q) [1, 1, 1, 1, 0] = [1, 1, 1, 1, 1] :=
  step_of (a5 p q) [1, 1, 1, 1, 0] [0, 0, 0, 0, p - q] (p - q) 4 rfl (by simp [greatTo]; omega) (by omega) (by simp [List.findIdx_cons, ne_pq p q h])
theorem stz (p : Int) : stepW (a5 p p) [0, 0, 0, 0, 0] = [0, 0, 0, 0, 0] := step_nil _ _ [p - p, p - p, p - p, p - p, p - p] rfl (by simp [greatTo])
theorem iter_five (p q : Int) (h : q ≤ p) : msTo (a5 p q) (iterW (a5 p q) 5) 5 = 5 * q := by
  rcases Int.lt_or_eq_of_le h with h | h
  · have e : iterW (a5 p q) 5 = [1, 1, 1, 1, 1] := by
      show stepW (a5 p q) (stepW (a5 p q) (stepW (a5 p q) (stepW (a5 p q) (stepW (a5 p q) [0, 0, 0, 0, 0])))) = _
      rw [st0 p q h, st1 p q h, st2 p q h, st3 p q h, st4 p q h]
    rw [e]
    show 0 + q + q + q + q + q = 5 * q
    omega
  · subst h
    have e : iterW (a5 q q) 5 = [0, 0, 0, 0, 0] := by
      show stepW (a5 q q) (stepW (a5 q q) (stepW (a5 q q) (stepW (a5 q q) (stepW (a5 q q) [0, 0, 0, 0, 0])))) = _
      rw [stz, stz, stz, stz, stz]
    rw [e]
    show 0 + q + q + q + q + q = 5 * q
    omega
theorem iter_none (p q : Int) : msTo (a5 p q) (iterW (a5 p q) 0) 5 = 5 * p := by
  show 0 + p + p + p + p + p = 5 * p
  omega
theorem rounds_five (p q : Int) : roundsN (a5 p q) 5 = 5 ∧ roundsN (a5 p q) 0 = 0 := ⟨rfl, rfl⟩
theorem five_ok (p q : Int) (h : 0 ≤ q ∧ q ≤ p ∧ p ≤ 1000) : AimOk (a5 p q) where
  len := by simp [a5]
  lens := fun l hl => by simp [a5] at hl; subst hl; simp
  bd := fun l hl x hx => by simp [a5] at hl; subst hl; simp at hx; rcases hx with rfl | rfl <;> omega
  down := fun l hl k hk => by
    simp [a5] at hl; subst hl
    have hk0 : k = 0 := by simp at hk; omega
    subst hk0
    rw [show helpI [p, q] 0 = p - q from rfl]
    omega
def b5 (p : Int) : List (List Int) := [[p], [p], [p], [p], [p]]
theorem one_ok (p : Int) (h : 0 ≤ p ∧ p ≤ 1000) : AimOk (b5 p) where
  len := by simp [b5]
  lens := fun l hl => by simp [b5] at hl; subst hl; simp
  bd := fun l hl x hx => by simp [b5] at hl; subst hl; simp at hx; subst hx; omega
  down := fun l hl k hk => by simp [b5] at hl; subst hl; simp at hk
theorem one_waits (p : Int) : WaitsOk (b5 p) [0, 0, 0, 0, 0] := ⟨rfl, fun k hk => by
  have hk5 : k < 5 := hk
  have : k = 0 ∨ k = 1 ∨ k = 2 ∨ k = 3 ∨ k = 4 := by omega
  rcases this with rfl | rfl | rfl | rfl | rfl <;> exact ⟨Int.le_refl 0, Nat.zero_lt_one⟩⟩
theorem one_misses (p : Int) : msTo (b5 p) [0, 0, 0, 0, 0] 5 = 5 * p := by
  show 0 + p + p + p + p + p = 5 * p
  omega
end Go.Proofs.Ythajembgndhakaa
