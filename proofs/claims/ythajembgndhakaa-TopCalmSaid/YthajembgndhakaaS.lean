/-
  What TopCalm asks, of numbers and lists (no function of the program).
  What is proved: with one state the fractions are those of the hits; the contest's winner is least bad; the waits of five shots that are alike.
  Conditions: each lemma states its own.
-/
import Derived.Test.YthajembgndhakaaK
import Derived.Test.YthajembgndhakaaO
import Derived.Test.YthajembgndhakaaQ
import Derived.Test.YthajembgndhakaaR
namespace Go.Proofs.Ythajembgndhakaa
open Go.RowKit Go.Shelf

theorem wonL_le (bad : Int → Int) (S : List Int) : (wonL bad S).2 ≤ 9223372036854775807 ∧ ∀ c ∈ S, (wonL bad S).2 ≤ bad c := by
  have h : ∀ (S : List Int) (s : Int × Int), (S.foldl (wonStep bad) s).2 ≤ s.2 ∧ ∀ c ∈ S, (S.foldl (wonStep bad) s).2 ≤ bad c := by
    intro S
    induction S with
    | nil => intro s; exact ⟨Int.le_refl _, fun c hc => by simp at hc⟩
    | cons x S ih =>
      intro s
      rw [List.foldl_cons]
      have h1 := ih (wonStep bad s x)
      have h2 : (wonStep bad s x).2 ≤ s.2 ∧ (wonStep bad s x).2 ≤ bad x := by
        unfold wonStep
        split
        · exact ⟨by show bad x ≤ s.2; omega, Int.le_refl _⟩
        · exact ⟨Int.le_refl _, by omega⟩
      refine ⟨by omega, fun c hc => ?_⟩
      rcases List.mem_cons.1 hc with rfl | hc
      · omega
      · exact h1.2 c hc
  exact h S _
theorem wonL_in (bad : Int → Int) (S : List Int) (hS : S ≠ []) (hb : ∀ c ∈ S, bad c < 9223372036854775807) : (wonL bad S).1 ∈ S ∧ bad (wonL bad S).1 = (wonL bad S).2 := by
  have h : ∀ (S : List Int) (s : Int × Int), S.foldl (wonStep bad) s = s ∨ ((S.foldl (wonStep bad) s).1 ∈ S ∧ bad (S.foldl (wonStep bad) s).1 = (S.foldl (wonStep bad) s).2) := by
    intro S
    induction S with
    | nil => intro s; exact .inl rfl
    | cons x S ih =>
      intro s
      rw [List.foldl_cons]
      rcases ih (wonStep bad s x) with h1 | h1
      · rw [h1]
        unfold wonStep
        split
        · exact .inr ⟨by simp, rfl⟩
        · exact .inl rfl
      · exact .inr ⟨List.mem_cons_of_mem _ h1.1, h1.2⟩
  rcases h S (0, 9223372036854775807) with h | h
  · exfalso
    have hw : (wonL bad S).2 = 9223372036854775807 := by unfold wonL; rw [h]
    cases S with
    | nil => exact hS rfl
    | cons x S =>
      have h1 := (wonL_le bad (x :: S)).2 x (by simp)
      have h2 := hb x (by simp)
      omega
  · exact h
theorem clicksL_all (n c : Int) (hn : 0 ≤ n) (hc : -n ≤ c ∧ c ≤ n) : c ∈ clicksL 0 n := by
  have h : ∀ k : Nat, c.natAbs ≤ k → c ∈ clTo 0 n k := by
    intro k
    induction k with
    | zero => intro h; have : c = 0 := by omega
              subst this; simp [clTo]
    | succ k ih =>
      intro h
      rw [clTo, List.mem_append]
      by_cases hk : c.natAbs ≤ k
      · exact .inl (ih hk)
      · refine .inr ?_
        rw [clAt, List.mem_append]
        rcases Int.le_total 0 c with h0 | h0
        · refine .inr ?_
          have e : (0 : Int) + ((k + 1 : Nat) : Int) = c := by omega
          rw [e, if_pos (by simp [withinB]; omega)]; simp
        · refine .inl ?_
          have e : (0 : Int) - ((k + 1 : Nat) : Int) = c := by omega
          rw [e, if_pos (by simp [withinB]; omega)]; simp
  exact h _ (by omega)
theorem clicksL_in (n : Int) (hn : 0 ≤ n) : ∀ c ∈ clicksL 0 n, -n ≤ c ∧ c ≤ n := fun c hc => by
  have h := clTo_in 0 n (by simp [withinB]; omega) _ c hc
  simp [withinB] at h; exact h
theorem clicksL_ne (near n : Int) : clicksL near n ≠ [] := fun h => by
  have : near ∈ clicksL near n := (clTo_pre near n 0 _ (Nat.zero_le _)).subset (by simp [clTo])
  rw [h] at this; simp at this

theorem often_one : ofOut (chK ([1] ++ List.replicate 24 0) [[1]] 4) 1 5 = [5, 0, 0, 0, 0] := by decide

/-- The range of TopCalm. -/
def calmR (rad unit clicks dr : Int) (g : List Int) : Rg := ⟨rad, unit, clicks, 1, g, [dr], [1], [[1]]⟩
theorem calm_ok {rad unit clicks dr : Int} {g : List Int} (h1 : 1 ≤ rad ∧ rad ≤ 9) (h2 : 1 ≤ unit ∧ unit ≤ 5) (h3 : 0 ≤ clicks ∧ clicks ≤ 3) (h4 : -9 ≤ dr ∧ dr ≤ 9) (hg : Share 5 10 g) : RgOk (calmR rad unit clicks dr g) where
  rad := by show 0 ≤ rad ∧ rad ≤ 200; omega
  unit := by show 1 ≤ unit ∧ unit ≤ 20; omega
  clicks := by show 0 ≤ clicks ∧ clicks ≤ 6; omega
  total := by show (1 : Int) ≤ 1 ∧ (1 : Int) ≤ 12; omega
  glen := by show g.length % 2 = 1 ∧ g.length ≤ 21; rw [hg.len]; omega
  dlen := by show 1 ≤ 1 ∧ 1 ≤ 5; omega
  flen := rfl
  nlen := rfl
  nlens := fun l hl => by simp [calmR] at hl; subst hl; rfl
  drifts := fun x hx => by simp [calmR] at hx; subst hx; omega
  group := fun x hx => by
    have hx : x ∈ g := hx
    obtain ⟨j, hj, rfl⟩ := List.getElem_of_mem hx
    have := hg.le j
    rw [List.getElem?_eq_getElem hj] at this
    have h : 0 ≤ g[j] ∧ g[j] ≤ 10 := this
    omega
  first := fun x hx => by simp [calmR] at hx; subst hx; show (0 : Int) ≤ 1 ∧ (1 : Int) ≤ 1; omega
  next := fun l hl x hx => by simp [calmR] at hl; subst hl; simp at hx; subst hx; show (0 : Int) ≤ 1 ∧ (1 : Int) ≤ 1; omega
  gsum := by show 1 ≤ sumI g ∧ sumI g ≤ 100; rw [hg.sum]; omega
  fsum := rfl
  nsum := fun l hl => by simp [calmR] at hl; subst hl; rfl
theorem calm_bad {rad unit clicks dr : Int} {g : List Int} (hg : Share 5 10 g) (ok : RgOk (calmR rad unit clicks dr g)) (c : Int) : badF (calmR rad unit clicks dr g) c = 5 * (10 - hitsR (calmR rad unit clicks dr g) dr c) := by
  have hh := hitsR_bd ok dr c
  have hs : sumI (calmR rad unit clicks dr g).group = 10 := hg.sum
  rw [hs] at hh
  have e : oftenF (calmR rad unit clicks dr g) = [5, 0, 0, 0, 0] := often_one
  show badTo _ (oftenF _) c 1 = _
  rw [badTo, badTo, e, hs]
  show IntKind.i64.wrap (0 + IntKind.i64.wrap (5 * (10 - hitsR (calmR rad unit clicks dr g) dr c))) = _
  rw [IntWalk.i64_in (5 * _) (by omega), IntWalk.i64_in _ (by omega)]
  omega

/-- What a fraction over ten is in lowest terms. -/
theorem rat_ten (n : Nat) : ∃ n1 d1 : Int, ((n / Nat.gcd 10 n : Nat) : Int) = n1 ∧ ((10 / Nat.gcd 10 n : Nat) : Int) = d1 ∧ n1 * 10 = n * d1 ∧ (d1 = 1 ∨ d1 = 2 ∨ d1 = 5 ∨ d1 = 10) ∧ 0 ≤ n1 := by
  have hg : Nat.gcd 10 n ∣ 10 := Nat.gcd_dvd_left _ _
  have hn : Nat.gcd 10 n ∣ n := Nat.gcd_dvd_right _ _
  have hle : Nat.gcd 10 n ≤ 10 := Nat.le_of_dvd (by omega) hg
  generalize Nat.gcd 10 n = g at hg hn hle
  obtain ⟨q, hq⟩ := hn
  have hc : g = 1 ∨ g = 2 ∨ g = 5 ∨ g = 10 := by
    have : g = 0 ∨ g = 1 ∨ g = 2 ∨ g = 3 ∨ g = 4 ∨ g = 5 ∨ g = 6 ∨ g = 7 ∨ g = 8 ∨ g = 9 ∨ g = 10 := by omega
    rcases this with rfl | rfl | rfl | rfl | rfl | rfl | rfl | rfl | rfl | rfl | rfl <;> first | omega | (exfalso; revert hg; decide)
  refine ⟨_, _, rfl, rfl, ?_, ?_, Int.natCast_nonneg _⟩
  · rcases hc with rfl | rfl | rfl | rfl <;> omega
  · rcases hc with rfl | rfl | rfl | rfl <;> simp
end Go.Proofs.Ythajembgndhakaa
