/-
  target.Loops over this seat's program, and what Falls and Loops answer for shots that are all alike.
  What is proved: how many targets are left, by the plain notions; one shot near the first target; five shots, one near each target.
  Conditions: a position that there is, at most five shots within their limits; shots at most 340 off.
-/
import Derived.Test.YtiggelffmfinoaaTC
namespace Go.Proofs.Ytiggelffmfinoaa
open Go.RowKit Go.Shelf
attribute [local go_sem] Oper.semAt_some

def leftN (l : List Int) : Int := 5 - ((l.filter fun n => !zeroB n).length : Int)
set_option maxRecDepth 100000 in
set_option maxHeartbeats 1000000 in
theorem loops_ok (p : Nat) (a : Option Addr) (xs : List Sp) (cap n : Nat) (w : World) (hp : p < 2) (hx : Sl 2 Sp.cells w a xs) (hn : xs.length = n) (hl : n ≤ 5) (hv : ∀ x ∈ xs, shotB x = true) :
    Calls Try.prog 8 #[.int .i64 (p : Int), .slice a n cap] w fun e w' => e = .returned (.tuple #[.int .i64 (leftN (fallsL p xs)), .int .i64 0]) ∧ Below w.heap.size w w' := by
  have HC := Lib.hid (falls_ok p a xs cap n w hp hx hn hl hv)
  have hfl : (fallsL p xs).length = n := by rw [← hn]; exact (fallTo_sf p xs xs.length (Nat.le_refl _)).fl
  have HL := Lib.hid (And.intro hn hfl)
  obtain ⟨c, hc⟩ : ∃ c, ((fallsL p xs).filter fun n => !zeroB n).length = c := ⟨_, rfl⟩
  have hc5 : c ≤ 5 := by rw [← hc]; have := List.length_filter_le (fun n => !zeroB n) (fallsL p xs); omega
  have HE := Lib.hid (show leftN (fallsL p xs) = 5 - (c : Int) by unfold leftN; rw [hc])
  have HCc := Lib.hid hc
  clear hx hn hv hfl hc
  go_enter Try.func8, Try.ntmps8
  go_wp2_with (fail)
  refine HC.out.mono ?_
  rintro e w1 ⟨g, rfl, hg, hgl, hb⟩
  have HD := deleteFunc_t g (fallsL p xs) [] w1 (by rw [List.append_nil]; exact hg) (by rw [HL.out.2]; simp; omega)
  rw [HL.out.2, HCc.out] at HD
  simp only [List.length_nil, Nat.add_zero] at HD
  have HD := Lib.hid HD
  rw [HL.out.1]
  have H1 := Lib.hid (And.intro hgl hb)
  clear HC hg hgl hb
  go_wp2_with (fail)
  refine HD.out.mono ?_
  rintro e w2 ⟨rfl, hA⟩
  have p1 : IntKind.i64.wrap (5 - (c : Int)) = 5 - (c : Int) := IntWalk.i64_in _ (by omega)
  go_wp2_with (fail)
  go_ret2
  refine ⟨by rw [HE.out]; rfl, ?_⟩
  obtain ⟨hgl, hb⟩ := H1.out
  exact ⟨hA.os.trans hb.os, hA.tape.trans hb.tape, hA.output.trans hb.output, Nat.le_trans hb.size hA.size, fun i hi => (hA.block i (Nat.lt_of_lt_of_le hi hb.size) (by show ¬ (_ = _); omega)).trans (hb.block i hi)⟩

def hit0 (p : Nat) (x : Int) : Bool := decide (x * x ≤ radT p * radT p)
theorem hit_at (p : Nat) (x : Int) (k n : Nat) (hx : -340 ≤ x ∧ x ≤ 340) (hn : 1 ≤ n ∧ n ≤ 5) : hitB p ⟨2500 * (k : Int) + x, 0⟩ (n : Int) = (decide (n = k + 1) && hit0 p x) := by
  unfold hitB hit0
  by_cases h : n = k + 1
  · subst h
    have e : 2500 * (k : Int) + x - (((k + 1 : Nat) : Int) - 1) * 2500 = x := by omega
    simp only [e]
    simp
  · have hr := radT_bd p
    rw [decide_eq_false h, Bool.false_and, decide_eq_false_iff_not]
    simp only
    have h2 : 2160 ≤ 2500 * (k : Int) + x - ((n : Int) - 1) * 2500 ∨ 2500 * (k : Int) + x - ((n : Int) - 1) * 2500 ≤ -2160 := by omega
    generalize 2500 * (k : Int) + x - ((n : Int) - 1) * 2500 = y at h2
    have h3 : 2160 * 2160 ≤ y * y := by
      rcases h2 with h2 | h2
      · exact Int.mul_le_mul h2 h2 (by omega) (by omega)
      · rw [← Int.neg_mul_neg y y]; exact Int.mul_le_mul (by omega) (by omega) (by omega) (by omega)
    omega
def fiveL (x : Int) : List Sp := (List.range 5).map fun (k : Nat) => (⟨2500 * (k : Int) + x, 0⟩ : Sp)
theorem falls_one (p : Nat) (x : Int) (hx : -340 ≤ x ∧ x ≤ 340) : fallsL p [⟨x, 0⟩] = [if hit0 p x then 1 else 0] := by
  have h : ∀ n : Nat, 1 ≤ n ∧ n ≤ 5 → hitB p ⟨x, 0⟩ (n : Int) = (decide (n = 1) && hit0 p x) := fun n hn => by
    have := hit_at p x 0 n hx hn
    simpa using this
  have h1 := h 1 (by omega); have h2 := h 2 (by omega); have h3 := h 3 (by omega); have h4 := h 4 (by omega); have h5 := h 5 (by omega)
  cases hh : hit0 p x <;> simp [hh] at h1 h2 h3 h4 h5 <;> simp [fallsL, fallTo, fallStep, idxB, h1, h2, h3, h4, h5]
theorem step_hit (p : Nat) (a : Int) (l fl : List Int) (s : Sp) (h : hitB p s a = true) : fallStep p (a :: l, fl) s = (l, fl ++ [a]) := by
  have e : idxB (hitB p s) (a :: l) = 0 := by simp [idxB, h]
  unfold fallStep
  simp only [e]
  rw [if_neg (by decide)]
  rfl
theorem step_miss (p : Nat) (l fl : List Int) (s : Sp) (h : ∀ n ∈ l, hitB p s n = false) : fallStep p (l, fl) s = (l, fl ++ [0]) := by
  unfold fallStep
  rw [if_pos (idxB_none _ _ h)]
theorem left_five (p : Nat) (x : Int) (hx : -340 ≤ x ∧ x ≤ 340) : leftN (fallsL p (fiveL x)) = 5 * (1 - (if hit0 p x then 1 else 0)) := by

  have hl : (fiveL x).length = 5 := rfl
  have hat : ∀ k (hk : k < 5), (fiveL x)[k]'(by rw [hl]; exact hk) = ⟨2500 * (k : Int) + x, 0⟩ := fun k hk => by
    unfold fiveL; simp
  have h0 : fallTo p (fiveL x) 0 = ([1, 2, 3, 4, 5], []) := rfl
  unfold fallsL
  rw [hl]
  cases hh : hit0 p x
  · have g : ∀ k : Nat, k < 5 → ∀ n ∈ ([1, 2, 3, 4, 5] : List Int), hitB p ⟨2500 * (k : Int) + x, 0⟩ n = false := fun k hk n hn => by
      have hb : 1 ≤ n ∧ n ≤ 5 := by simp at hn; omega
      obtain ⟨m, rfl⟩ := Int.eq_ofNat_of_zero_le (show 0 ≤ n by omega)
      rw [hit_at p x k m hx (by omega), hh, Bool.and_false]
    have s : ∀ k, k ≤ 5 → fallTo p (fiveL x) k = ([1, 2, 3, 4, 5], List.replicate k 0) := fun k => by
      induction k with
      | zero => intro _; exact h0
      | succ k ih =>
        intro hk
        rw [fallTo_succ p _ k (by rw [hl]; omega), ih (by omega), hat k (by omega), step_miss p _ _ _ (g k (by omega)), ← List.replicate_succ']
    rw [s 5 (by omega)]
    simp [leftN, zeroB]
  · have g : ∀ k : Nat, k < 5 → hitB p ⟨2500 * (k : Int) + x, 0⟩ ((k : Int) + 1) = true := fun k hk => by
      have := hit_at p x k (k + 1) hx (by omega)
      rw [hh] at this
      simpa using this
    have s1 : fallTo p (fiveL x) 1 = ([2, 3, 4, 5], [1]) := by
      rw [fallTo_succ p _ 0 (by rw [hl]; omega), h0, hat 0 (by omega)]; exact step_hit p 1 _ _ _ (g 0 (by omega))
    have s2 : fallTo p (fiveL x) 2 = ([3, 4, 5], [1, 2]) := by
      rw [fallTo_succ p _ 1 (by rw [hl]; omega), s1, hat 1 (by omega)]; exact step_hit p 2 _ _ _ (g 1 (by omega))
    have s3 : fallTo p (fiveL x) 3 = ([4, 5], [1, 2, 3]) := by
      rw [fallTo_succ p _ 2 (by rw [hl]; omega), s2, hat 2 (by omega)]; exact step_hit p 3 _ _ _ (g 2 (by omega))
    have s4 : fallTo p (fiveL x) 4 = ([5], [1, 2, 3, 4]) := by
      rw [fallTo_succ p _ 3 (by rw [hl]; omega), s3, hat 3 (by omega)]; exact step_hit p 4 _ _ _ (g 3 (by omega))
    have s5 : fallTo p (fiveL x) 5 = ([], [1, 2, 3, 4, 5]) := by
      rw [fallTo_succ p _ 4 (by rw [hl]; omega), s4, hat 4 (by omega)]; exact step_hit p 5 _ _ _ (g 4 (by omega))
    rw [s5]
    simp [leftN, zeroB]
end Go.Proofs.Ytiggelffmfinoaa
