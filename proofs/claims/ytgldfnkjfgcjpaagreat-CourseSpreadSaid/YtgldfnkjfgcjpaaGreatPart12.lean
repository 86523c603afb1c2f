/-
Courses as numbers, one digit for each lap.
  What is proved: the numbers whose digits are a course give just the courses, in lexicographic order.
  Conditions: from 1 to 6 laps, at least one loop.
The contracts of the reference's checks of stadiums, rules and courses over this seat's program.
  What is proved: each answers the error that the program's own check answers.
  Conditions: slices of at most 1000000 elements.
The contracts of the reference's listed, uses and broken over this seat's program.
  What is proved: each answers what the program's own functions answer.
  Conditions: slices of at most 1000000 elements; for broken a stadium whose numbers are allowed, and a course of its loops.
The contracts of many, and of the reference's earlier, over this seat's program.
  What is proved: what each call returns; nothing that was there before has turned.
  Conditions: slices of at most 1000000 elements.
-/
import Derived.Test.YtgldfnkjfgcjpaaGreatPart11
namespace Go.Proofs.YtgldfnkjfgcjpaaGreat
open Go.RowKit

/-- All lists of so many digits, in lexicographic order. -/
def allC (L : Nat) : Nat → List (List Int)
  | 0 => [[]]
  | d + 1 => ((List.range L).map (fun (i : Nat) => (allC L d).map (fun t => (i : Int) :: t))).flatten
/-- The digits of a number, so many, the first one first. -/
def digs (L : Nat) : Nat → Nat → List Int
  | 0, _ => []
  | d + 1, n => ((n / L ^ d % L : Nat) : Int) :: digs L d n
theorem digs_len (L d n : Nat) : (digs L d n).length = d := by
  induction d with
  | zero => rfl
  | succ d ih => simp [digs, ih]
theorem digs_more (L : Nat) (h : 0 < L) (d k i m : Nat) (hk : d ≤ k) : digs L d (i * L ^ k + m) = digs L d m := by
  induction d with
  | zero => rfl
  | succ d ih =>
    have e : i * L ^ k = L ^ d * (L * (i * L ^ (k - d - 1))) := by
      have : L ^ k = L ^ d * (L * L ^ (k - d - 1)) := by
        rw [← Nat.pow_succ', ← Nat.pow_add]; congr 1; omega
      rw [this, Nat.mul_left_comm, Nat.mul_left_comm i L]
    have e2 : (i * L ^ k + m) / L ^ d % L = m / L ^ d % L := by
      rw [e, Nat.mul_add_div (Nat.pow_pos h), Nat.mul_add_mod]
    rw [digs, digs, e2, ih (by omega)]
theorem digs_get (L d n p : Nat) (hp : p < d) : (digs L d n)[p]? = some ((n / L ^ (d - 1 - p) % L : Nat) : Int) := by
  induction d generalizing p with
  | zero => omega
  | succ d ih =>
    cases p with
    | zero => simp [digs]
    | succ p => rw [digs, List.getElem?_cons_succ, ih p (by omega), show d + 1 - 1 - (p + 1) = d - 1 - p by omega]
theorem range_mul (N : Nat) : ∀ L : Nat, List.range (L * N) = ((List.range L).map (fun i => (List.range N).map (fun m => i * N + m))).flatten
  | 0 => by simp
  | L + 1 => by
    rw [Nat.succ_mul, List.range_add, range_mul N L, List.range_succ, List.map_append, List.flatten_append]
    simp
theorem all_digs (L : Nat) (h : 0 < L) : ∀ d : Nat, (List.range (L ^ d)).map (digs L d) = allC L d
  | 0 => rfl
  | d + 1 => by
    rw [Nat.pow_succ', range_mul, List.map_flatten, List.map_map, allC, ← all_digs L h d]
    congr 1
    apply List.map_congr_left
    intro i hi
    simp only [Function.comp_apply, List.map_map]
    apply List.map_congr_left
    intro m hm
    have hi' := List.mem_range.1 hi
    have hm' := List.mem_range.1 hm
    simp only [Function.comp_apply]
    rw [digs, digs_more L h d d i m (Nat.le_refl _)]
    congr 2
    rw [Nat.mul_comm, Nat.mul_add_div (Nat.pow_pos h), Nat.div_eq_of_lt hm', Nat.add_zero, Nat.mod_eq_of_lt hi']
/-- A list does not fall, from a number on. -/
def sf : Int → List Int → Bool
  | _, [] => true
  | m, x :: t => decide (m ≤ x) && sf x t
theorem ext_all (L : Nat) : ∀ (d : Nat) (cur : List Int) (least : Nat), least ≤ L → extC L d cur least = ((allC L d).filter (sf least)).map (fun t => cur ++ t)
  | 0, cur, least, _ => by rw [extC, allC]; show [cur] = List.map (fun t => cur ++ t) [[]]; simp
  | d + 1, cur, least, h => by
    have e : List.range L = List.range least ++ List.range' least (L - least) := by
      rw [List.range_eq_range', List.range_eq_range', show L = least + (L - least) by omega, ← List.range'_append_1, Nat.zero_add, show least + (L - least) - least = L - least by omega]
    rw [extC, allC, e, List.map_append, List.flatten_append, List.filter_append, List.map_append]
    have z : List.filter (sf least) ((List.range least).map (fun (i : Nat) => (allC L d).map (fun t => (i : Int) :: t))).flatten = [] := by
      rw [List.filter_eq_nil_iff]
      intro c hc
      simp only [List.mem_flatten, List.mem_map, List.mem_range] at hc
      obtain ⟨l, ⟨i, hi, rfl⟩, hc⟩ := hc
      obtain ⟨t, _, rfl⟩ := List.mem_map.1 hc
      simp only [sf, Bool.and_eq_true, decide_eq_true_eq]
      intro h; omega
    rw [z, List.map_nil, List.nil_append, List.filter_flatten, List.map_flatten, List.map_map, List.map_map]
    congr 1
    apply List.map_congr_left
    intro i hi
    have hi' := List.mem_range'_1.1 hi
    rw [ext_all L d _ i (by omega)]
    simp only [Function.comp_apply, List.filter_map, List.map_map]
    have : (sf (least : Int) ∘ fun t => (i : Int) :: t) = sf (i : Int) := by
      funext t
      simp only [Function.comp_apply, sf]
      rw [show decide ((least : Int) ≤ (i : Int)) = true from decide_eq_true (by omega), Bool.true_and]
    rw [this]
    apply List.map_congr_left
    intro t _
    simp
theorem allC_mem (L : Nat) : ∀ (d : Nat) (c : List Int), c ∈ allC L d → c.length = d ∧ ∀ i ∈ c, 0 ≤ i ∧ i < (L : Int)
  | 0, c, h => by simp [allC] at h; subst h; simp
  | d + 1, c, h => by
    simp only [allC, List.mem_flatten, List.mem_map, List.mem_range] at h
    obtain ⟨l, ⟨i, hi, rfl⟩, hc⟩ := h
    obtain ⟨t, ht, rfl⟩ := List.mem_map.1 hc
    obtain ⟨h1, h2⟩ := allC_mem L d t ht
    refine ⟨by simp [h1], fun x hx => ?_⟩
    rcases List.mem_cons.1 hx with rfl | hx
    · omega
    · exact h2 x hx
theorem sorted_iff (c : List Int) : sortedB c = true ↔ ∀ j, j + 1 < c.length → c[j]?.getD 0 ≤ c[j + 1]?.getD 0 := by
  simp only [sortedB, List.all_eq_true, List.mem_range, decide_eq_true_eq]
  exact ⟨fun h j hj => h j (by omega), fun h j hj => h j (by omega)⟩
theorem sf_sorted : ∀ (c : List Int) (m : Int), sf m c = true ↔ (∀ x, c[0]? = some x → m ≤ x) ∧ sortedB c = true
  | [], m => by simp [sf, sorted_iff]
  | x :: t, m => by
    rw [sf, Bool.and_eq_true, sf_sorted t x, decide_eq_true_eq, sorted_iff, sorted_iff]
    constructor
    · rintro ⟨h1, h2, h3⟩
      refine ⟨fun y hy => by simp at hy; omega, fun j hj => ?_⟩
      cases j with
      | zero =>
        cases t with
        | nil => simp at hj
        | cons y t => simpa using h2 y rfl
      | succ j => simpa using h3 j (by simpa using hj)
    · rintro ⟨h1, h2⟩
      refine ⟨h1 x rfl, fun y hy => ?_, fun j hj => by simpa using h2 (j + 1) (by simpa using hj)⟩
      cases t with
      | nil => simp at hy
      | cons z t =>
        have := h2 0 (by simp)
        simp at hy this
        omega
theorem course_sf (L d : Nat) (hd : 1 ≤ d ∧ d ≤ 6) (c : List Int) (hc : c ∈ allC L d) : (courseE L c == 0) = sf 0 c := by
  obtain ⟨h1, h2⟩ := allC_mem L d c hc
  have a1 : withinB c.length 1 6 = true := by simp [withinB]; omega
  have a2 : c.all (fun i => withinB i 0 ((L : Int) - 1)) = true := by
    rw [List.all_eq_true]; intro i hi; have := h2 i hi; simp [withinB]; omega
  rw [courseE, if_pos a1, if_pos a2]
  have hs : sf 0 c = sortedB c := by
    rw [Bool.eq_iff_iff, sf_sorted]
    exact ⟨fun h => h.2, fun h => ⟨fun x hx => (h2 x (List.mem_of_getElem? hx)).1, h⟩⟩
  rw [hs]
  cases sortedB c <;> rfl
/-- The courses among the first numbers. -/
def numC (L d n : Nat) : List (List Int) := ((List.range n).map (digs L d)).filter (fun c => courseE L c == 0)
theorem numC_succ (L d n : Nat) : numC L d (n + 1) = numC L d n ++ if (courseE L (digs L d n) == 0) = true then [digs L d n] else [] := by
  rw [numC, List.range_succ, List.map_append, List.filter_append, numC]
  congr 1
  simp [List.filter_cons]
theorem numC_all (L d : Nat) (hL : 0 < L) (hd : 1 ≤ d ∧ d ≤ 6) : numC L d (L ^ d) = extC L d [] 0 := by
  rw [numC, all_digs L hL, ext_all L d [] 0 (Nat.zero_le _)]
  simp only [List.nil_append, List.map_id']
  apply List.filter_congr
  intro c hc
  rw [course_sf L d hd c hc]
  rfl
theorem numC_len (L d n : Nat) : (numC L d n).length ≤ n := by
  rw [numC]; exact Nat.le_trans (List.length_filter_le _ _) (by simp)
theorem pow_le (L d : Nat) (hL : 1 ≤ L ∧ L ≤ 12) (hd : d ≤ 6) : L ^ d ≤ 2985984 := by
  have h1 : L ^ d ≤ 12 ^ d := Nat.pow_le_pow_left hL.2 d
  have h2 : (12 : Nat) ^ d ≤ 12 ^ 6 := Nat.pow_le_pow_right (by omega) hd
  omega
end Go.Proofs.YtgldfnkjfgcjpaaGreat

namespace Go.Proofs.YtgldfnkjfgcjpaaGreat
open Go.RowKit

set_option maxHeartbeats 400000 in
theorem outside_any (n lo hi : Int) (w : World) : Calls Tryz.prog 81 #[.int .i64 n, .int .i64 lo, .int .i64 hi] w fun e w' => e = .returned (.bool (!withinB n lo hi)) ∧ w = w' := by
  go_enter Tryz.func81, Tryz.ntmps81
  go_wp2
  all_goals go_ret
  all_goals exact ⟨ret_bool (by rw [Bool.eq_iff_iff]; simp [withinB]; try omega), rfl⟩

set_option maxHeartbeats 400000 in
theorem wrong_any (s : Sp) (m : Int) (w : World) : Calls Tryz.prog 88 #[s.v, .int .i64 m] w fun e w' => e = .returned (.bool (!boundedB s m)) ∧ Below w.heap.size w w' := by
  go_enter Tryz.func88, Tryz.ntmps88
  go_wp2
  all_goals go_ret
  all_goals exact ⟨ret_bool (by rw [Bool.eq_iff_iff]; simp [boundedB]; omega), (Below.refl _ _).alloc (Nat.le_refl _) _⟩

set_option maxHeartbeats 1000000 in
theorem stadium_any (a : Option Addr) (xs : List Lp) (cap : Nat) (w : World) (hx : Sl 3 Lp.cells w a xs) (hl : xs.length ≤ 1000000) :
    Calls Tryz.prog 76 #[.slice a xs.length cap] w fun e w' => e = .returned (.int .i64 (stadE xs)) ∧ w = w' := by
  by_cases h0 : withinB xs.length 1 12 = true
  · have hb : 1 ≤ xs.length ∧ xs.length ≤ 12 := by simp [withinB] at h0; omega
    have H0 : Hid (stadE xs = if xs.all allowedB = true then 0 else 3) := by show _ = _; rw [stadE, if_pos h0]
    obtain ⟨hb1, hb2⟩ := hb
    clear h0
    go_enter Tryz.func76, Tryz.ntmps76
    have g1 : decide (xs.length < 1) = false := decide_eq_false (by omega)
    have g2 : decide (12 < xs.length) = false := decide_eq_false (by omega)
    go_wp2_with (fail)
    clear g1 g2
    go_loop [3] (fun i => ∃ k : Nat, k ≤ xs.length ∧ i = .int .i64 k ∧ Hid ((xs.take k).all allowedB = true)) (fun i => xs.length - (intOf i).toNat)
    case atStart => exact ⟨0, Nat.zero_le _, rfl, rfl⟩
    case round =>
      obtain ⟨k, hk, rfl, hall⟩ := hrel
      by_cases hlt : k < xs.length
      · obtain ⟨b, off, rfl, hbs, hc⟩ := hx (by omega)
        have hxk := List.getElem?_eq_getElem hlt
        have d0 : w.cell? ⟨b, off + k * 3, none⟩ = some (.int .i64 xs[k].l) := hc k xs[k] 0 _ hxk rfl
        have d1 := hc k xs[k] 1 _ hxk rfl
        have d2 := hc k xs[k] 2 _ hxk rfl
        have HT := Lib.hid (all_take_succ allowedB xs k hlt)
        have HF := Lib.hid (all_false allowedB xs k hlt)
        clear hc hxk
        generalize xs[k] = x at *
        cases e1 : withinB x.l 1 20000
        · have HA : Hid (allowedB x = false) := by show _ = _; simp [allowedB, e1]
          go_wp2_with (go_at_call 81; refine (outside_any _ _ _ _).mono ?_; rintro e w' ⟨rfl, rfl⟩)
          go_ret
          exact ⟨by rw [H0.out, if_neg (by rw [HF.out HA.out]; simp)]; rfl, rfl⟩
        · cases e2 : withinB x.c 0 2000
          · have HA : Hid (allowedB x = false) := by show _ = _; simp [allowedB, e1, e2]
            go_wp2_with (go_at_call 81; refine (outside_any _ _ _ _).mono ?_; rintro e w' ⟨rfl, rfl⟩)
            go_ret
            exact ⟨by rw [H0.out, if_neg (by rw [HF.out HA.out]; simp)]; rfl, rfl⟩
          · cases e3 : withinB x.d 1 20
            · have HA : Hid (allowedB x = false) := by show _ = _; simp [allowedB, e1, e2, e3]
              go_wp2_with (go_at_call 81; refine (outside_any _ _ _ _).mono ?_; rintro e w' ⟨rfl, rfl⟩)
              go_ret
              exact ⟨by rw [H0.out, if_neg (by rw [HF.out HA.out]; simp)]; rfl, rfl⟩
            · have HA : Hid ((xs.take (k + 1)).all allowedB = true) := by show _ = _; rw [HT.out, hall.out]; simp [allowedB, e1, e2, e3]
              go_wp2_with (go_at_call 81; refine (outside_any _ _ _ _).mono ?_; rintro e w' ⟨rfl, rfl⟩)
              go_round
              case rel => exact ⟨k + 1, by omega, by go_num, HA⟩
              case measure => simp [intOf]; omega
      · have : k = xs.length := by omega
        subst this
        go_wp2_with (fail)
        go_ret
        have h1 := hall.out
        rw [List.take_length] at h1
        exact ⟨by rw [H0.out, if_pos h1]; rfl, rfl⟩
  · have hb : xs.length < 1 ∨ 12 < xs.length := by simp [withinB] at h0; omega
    have H0 : Hid (stadE xs = 2) := by show _ = _; rw [stadE, if_neg h0]
    clear h0
    go_enter Tryz.func76, Tryz.ntmps76
    go_wp2_with (fail)
    all_goals first
      | (exfalso; omega)
      | (go_ret; exact ⟨by rw [H0.out]; rfl, rfl⟩)

set_option maxHeartbeats 2000000 in
set_option maxRecDepth 100000 in
theorem refCheck_any (a : Option Addr) (xs : List Lp) (cap : Nat) (r : Ru) (w : World) (hx : Sl 3 Lp.cells w a xs) (hl : xs.length ≤ 1000000) :
    Calls Tryz.prog 84 #[.slice a xs.length cap, r.v] w fun e w' => e = .returned (.int .i64 (checkE xs r)) ∧ Below w.heap.size w w' := by
  have hB0 : Below w.heap.size w (w.alloc (.cells #[.int .i64 r.laps, .int .i64 r.len.lo, .int .i64 r.len.hi, .int .i64 r.climb.lo, .int .i64 r.climb.hi, .int .i64 r.lap.lo, .int .i64 r.lap.hi, .int .i64 r.wide, .int .i64 r.uses] 36)) := (Below.refl _ _).alloc (Nat.le_refl _) _
  have hR0 : (w.alloc (.cells #[.int .i64 r.laps, .int .i64 r.len.lo, .int .i64 r.len.hi, .int .i64 r.climb.lo, .int .i64 r.climb.hi, .int .i64 r.lap.lo, .int .i64 r.lap.hi, .int .i64 r.wide, .int .i64 r.uses] 36)).heap[w.heap.size]? = some (.cells #[.int .i64 r.laps, .int .i64 r.len.lo, .int .i64 r.len.hi, .int .i64 r.climb.lo, .int .i64 r.climb.hi, .int .i64 r.lap.lo, .int .i64 r.lap.hi, .int .i64 r.wide, .int .i64 r.uses] 36 (0, 0)) := heap_alloc_new _ _
  go_enter Tryz.func84, Tryz.ntmps84
  go_wp2_with (fail)
  generalize w.alloc (.cells #[.int .i64 r.laps, .int .i64 r.len.lo, .int .i64 r.len.hi, .int .i64 r.climb.lo, .int .i64 r.climb.hi, .int .i64 r.lap.lo, .int .i64 r.lap.hi, .int .i64 r.wide, .int .i64 r.uses] 36) = W0 at hB0 hR0 ⊢
  refine (stadium_any a xs cap _ (hx.below hB0) hl).mono ?_
  rintro e w1 ⟨rfl, rfl⟩
  by_cases h1 : stadE xs = 0
  · have h1b : (stadE xs != 0) = false := by simp [h1]
    have HC : Hid (checkE xs r = if rulesB r = true then 0 else 3) := by show _ = _; rw [checkE, if_pos h1]
    have H1 := Lib.hid h1
    clear h1
    have HR := Lib.hid hR0
    have HB := Lib.hid hB0
    have HO : Hid (rulesB r = (withinB r.laps 1 6 && boundedB r.len 200000 && boundedB r.climb 200000 && boundedB r.lap 200000 && withinB r.wide 1 20 && withinB r.uses 1 6)) := by
      show _ = _
      simp only [rulesB, List.all_cons, List.all_nil]
      cases withinB r.laps 1 6 <;> cases boundedB r.len 200000 <;> cases boundedB r.climb 200000 <;> cases boundedB r.lap 200000 <;> cases withinB r.wide 1 20 <;> cases withinB r.uses 1 6 <;> rfl
    have c0 := blk_cell HR.out 0 rfl
    clear hR0 hB0
    go_wp2_with (fail)
    clear c0
    refine (outside_any _ _ _ _).mono ?_
    rintro e w' ⟨rfl, rfl⟩
    have c1 := blk_cell HR.out 1 rfl
    have c2 := blk_cell HR.out 2 rfl
    cases e0 : withinB r.laps 1 6
    · have HO2 : Hid (rulesB r = false) := by show _ = _; rw [HO.out, e0]; simp
      go_wp2_with (fail)
      go_ret
      exact ⟨by rw [HC.out, if_neg (by rw [HO2.out]; simp)]; rfl, HB.out⟩
    · have E0 := Lib.hid e0
      go_wp2_with (fail)
      clear c1 c2
      refine (wrong_any r.len _ _).mono ?_
      rintro e v1 ⟨rfl, hb⟩
      have HR := Lib.hid (blk_below HR.out hb)
      have HB := Lib.hid (below_self HB.out hb)
      clear hb
      have c3 := blk_cell HR.out 3 rfl
      have c4 := blk_cell HR.out 4 rfl
      cases e1 : boundedB r.len 200000
      · have HO2 : Hid (rulesB r = false) := by show _ = _; rw [HO.out, E0.out, e1]; simp
        go_wp2_with (fail)
        go_ret
        exact ⟨by rw [HC.out, if_neg (by rw [HO2.out]; simp)]; rfl, HB.out⟩
      · have E1 := Lib.hid e1
        go_wp2_with (fail)
        clear c3 c4
        refine (wrong_any r.climb _ _).mono ?_
        rintro e v2 ⟨rfl, hb⟩
        have HR := Lib.hid (blk_below HR.out hb)
        have HB := Lib.hid (below_self HB.out hb)
        clear hb
        have c5 := blk_cell HR.out 5 rfl
        have c6 := blk_cell HR.out 6 rfl
        cases e2 : boundedB r.climb 200000
        · have HO2 : Hid (rulesB r = false) := by show _ = _; rw [HO.out, E0.out, E1.out, e2]; simp
          go_wp2_with (fail)
          go_ret
          exact ⟨by rw [HC.out, if_neg (by rw [HO2.out]; simp)]; rfl, HB.out⟩
        · have E2 := Lib.hid e2
          go_wp2_with (fail)
          clear c5 c6
          refine (wrong_any r.lap _ _).mono ?_
          rintro e v3 ⟨rfl, hb⟩
          have HR := Lib.hid (blk_below HR.out hb)
          have HB := Lib.hid (below_self HB.out hb)
          clear hb
          have c7 := blk_cell HR.out 7 rfl
          cases e3 : boundedB r.lap 200000
          · have HO2 : Hid (rulesB r = false) := by show _ = _; rw [HO.out, E0.out, E1.out, E2.out, e3]; simp
            go_wp2_with (fail)
            go_ret
            exact ⟨by rw [HC.out, if_neg (by rw [HO2.out]; simp)]; rfl, HB.out⟩
          · have E3 := Lib.hid e3
            go_wp2_with (fail)
            clear c7
            refine (outside_any _ _ _ _).mono ?_
            rintro e w' ⟨rfl, rfl⟩
            have c8 := blk_cell HR.out 8 rfl
            cases e4 : withinB r.wide 1 20
            · have HO2 : Hid (rulesB r = false) := by show _ = _; rw [HO.out, E0.out, E1.out, E2.out, E3.out, e4]; simp
              go_wp2_with (fail)
              go_ret
              exact ⟨by rw [HC.out, if_neg (by rw [HO2.out]; simp)]; rfl, HB.out⟩
            · have E4 := Lib.hid e4
              go_wp2_with (fail)
              clear c8
              refine (outside_any _ _ _ _).mono ?_
              rintro e w' ⟨rfl, rfl⟩
              cases e5 : withinB r.uses 1 6
              · have HO2 : Hid (rulesB r = false) := by show _ = _; rw [HO.out, E0.out, E1.out, E2.out, E3.out, E4.out, e5]; simp
                go_wp2_with (fail)
                go_ret
                exact ⟨by rw [HC.out, if_neg (by rw [HO2.out]; simp)]; rfl, HB.out⟩
              · have E5 := Lib.hid e5
                have HO2 : Hid (rulesB r = true) := by show _ = _; rw [HO.out, E0.out, E1.out, E2.out, E3.out, E4.out, E5.out]; rfl
                go_wp2_with (fail)
                go_ret
                exact ⟨by rw [HC.out, if_pos HO2.out]; rfl, HB.out⟩
  · have h1b : (stadE xs != 0) = true := by simp [h1]
    have HC : Hid (checkE xs r = stadE xs) := by show _ = _; rw [checkE, if_neg h1]
    have H1 := Lib.hid h1
    clear h1
    go_wp2_with (fail)
    go_ret
    exact ⟨by rw [HC.out]; rfl, hB0⟩
end Go.Proofs.YtgldfnkjfgcjpaaGreat

namespace Go.Proofs.YtgldfnkjfgcjpaaGreat
open Go.RowKit
attribute [local go_sem] Oper.semAt_some

set_option maxHeartbeats 1000000 in
theorem uses_any (ac : Option Addr) (c : List Int) (ccap : Nat) (x : Int) (w : World) (hc : IntSl w ac c) (hcl : c.length ≤ 1000000) :
    Calls Tryz.prog 78 #[.slice ac c.length ccap, .int .i64 x] w fun e w' => e = .returned (.int .i64 (c.count x : Nat)) ∧ w = w' := by
  go_enter Tryz.func78, Tryz.ntmps78
  go_wp2_with (fail)
  go_loop [5, 6] (fun n i => ∃ k : Nat, k ≤ c.length ∧ i = .int .i64 k ∧ n = .int .i64 ((c.take k).count x : Nat)) (fun _ i => c.length - (intOf i).toNat)
  case atStart => exact ⟨0, Nat.zero_le _, rfl, rfl⟩
  case round =>
    obtain ⟨k, hk, rfl, rfl⟩ := hrel
    by_cases hlt : k < c.length
    · obtain ⟨b, off, rfl, hbs, hcc⟩ := hc (by omega)
      have d0 := hcc k hlt
      rw [List.getElem?_eq_getElem hlt, Option.getD_some] at d0
      have HS := Lib.hid (count_take_succ c k hlt x)
      have hle : (c.take k).count x ≤ 1000000 := by
        have h1 := List.count_le_length (a := x) (l := c.take k)
        have h2 : (c.take k).length ≤ k := List.length_take_le _ _
        omega
      clear hcc
      generalize c[k] = y at *
      generalize (c.take k).count x = m at *
      by_cases he : y = x
      · have heb : (y == x) = true := by simp [he]
        have HS2 : Hid ((c.take (k + 1)).count x = m + 1) := by show _ = _; rw [HS.out, if_pos he]
        clear he HS
        go_wp2_with (fail)
        go_round
        case rel => exact ⟨k + 1, by omega, by go_num, by rw [HS2.out]; go_num⟩
        case measure => simp [intOf]; omega
      · have heb : (y == x) = false := by simp [he]
        have HS2 : Hid ((c.take (k + 1)).count x = m) := by show _ = _; rw [HS.out, if_neg he]; rfl
        clear he HS
        go_wp2_with (fail)
        go_round
        case rel => exact ⟨k + 1, by omega, by go_num, by rw [HS2.out]⟩
        case measure => simp [intOf]; omega
    · have : k = c.length := by omega
      subst this
      go_wp2_with (fail)
      go_ret
      exact ⟨rfl, rfl⟩

set_option maxHeartbeats 2000000 in
theorem listed_any (a : Option Addr) (xs : List Lp) (cap : Nat) (ac : Option Addr) (c : List Int) (ccap : Nat) (w : World) (hc : IntSl w ac c) (hl : xs.length ≤ 1000000) (hcl : c.length ≤ 1000000) :
    Calls Tryz.prog 77 #[.slice a xs.length cap, .slice ac c.length ccap] w fun e w' => e = .returned (.int .i64 (courseE xs.length c)) ∧ Below w.heap.size w w' := by
  by_cases h0 : withinB c.length 1 6 = true
  · have hb : 1 ≤ c.length ∧ c.length ≤ 6 := by simp [withinB] at h0; omega
    have H0 : Hid (courseE xs.length c = if c.all (fun i => withinB i 0 (xs.length - 1)) = true then (if sortedB c = true then 0 else 4) else 1) := by show _ = _; rw [courseE, if_pos h0]
    obtain ⟨hb1, hb2⟩ := hb
    clear h0
    have ew : IntKind.i64.wrap ((xs.length : Int) - 1) = (xs.length : Int) - 1 := IntWalk.i64_in _ (by omega)
    have EW := Lib.hid ew
    clear ew
    go_enter Tryz.func77, Tryz.ntmps77
    have g1 : decide (c.length < 1) = false := decide_eq_false (by omega)
    have g2 : decide (6 < c.length) = false := decide_eq_false (by omega)
    go_wp2_with (fail)
    clear g1 g2
    go_loop [5] (fun i => ∃ k : Nat, k ≤ c.length ∧ i = .int .i64 k ∧ Hid ((c.take k).all (fun i => withinB i 0 (xs.length - 1)) = true)) (fun i => c.length - (intOf i).toNat)
    case atStart => exact ⟨0, Nat.zero_le _, rfl, rfl⟩
    case round =>
      obtain ⟨k, hk, rfl, hall⟩ := hrel
      by_cases hlt : k < c.length
      · obtain ⟨b, off, rfl, hbs, hcc⟩ := hc (by omega)
        have d0 := hcc k hlt
        rw [List.getElem?_eq_getElem hlt, Option.getD_some] at d0
        have HT := Lib.hid (all_take_succ (fun i => withinB i 0 (xs.length - 1)) c k hlt)
        have HF := Lib.hid (all_false (fun i => withinB i 0 (xs.length - 1)) c k hlt)
        clear hcc
        generalize c[k] = x at *
        cases e1 : withinB x 0 ((xs.length : Int) - 1)
        · have HA : Hid (c.all (fun i => withinB i 0 (xs.length - 1)) = false) := HF.out e1
          clear HT HF
          go_wp2_with (go_at_call 81; refine (outside_any _ _ _ _).mono ?_; rintro e w' ⟨rfl, rfl⟩)
          go_ret
          exact ⟨by rw [H0.out, if_neg (by rw [HA.out]; simp)]; rfl, Below.refl _ _⟩
        · have HA : Hid ((c.take (k + 1)).all (fun i => withinB i 0 (xs.length - 1)) = true) := by show _ = _; rw [HT.out, hall.out]; simpa using e1
          clear HT HF
          go_wp2_with (go_at_call 81; refine (outside_any _ _ _ _).mono ?_; rintro e w' ⟨rfl, rfl⟩)
          go_round
          case rel => exact ⟨k + 1, by omega, by go_num, HA⟩
          case measure => simp [intOf]; omega
      · have : k = c.length := by omega
        subst this
        have h1 := hall.out
        rw [List.take_length] at h1
        have H2 : Hid (courseE xs.length c = if sortedB c = true then 0 else 4) := by show _ = _; rw [H0.out, if_pos h1]
        clear hlt h1 hall hk
        go_wp2_with (fail)
        go_loopw [6] (fun i wr => ∃ k j : Nat, Hid (k = j + 1) ∧ k ≤ c.length ∧ i = .int .i64 k ∧ Hid (∀ q, 0 ≤ q → q + 1 < k → c[q]?.getD 0 ≤ c[q + 1]?.getD 0) ∧ Below w.heap.size w wr) (fun i _ => c.length - (intOf i).toNat)
        case atStart => exact ⟨1, 0, rfl, hb1, rfl, fun q _ hq => by omega, Below.refl _ _⟩
        case round =>
          obtain ⟨k, j, hkj, hk, rfl, hall, hbw⟩ := hrel
          have hj : j < c.length := by have := hkj.out; omega
          have hk1 : 1 ≤ k := by have := hkj.out; omega
          by_cases hlt : k < c.length
          · obtain ⟨b, off, rfl, hbs, hcc⟩ := hc (by omega)
            have d0 := (hbw.cell (p := ⟨b, off + k, none⟩) hbs).trans (hcc k hlt)
            have d1 := (hbw.cell (p := ⟨b, off + j, none⟩) hbs).trans (hcc j hj)
            have e9 : IntKind.i64.wrap ((k : Int) - 1) = (j : Int) := by rw [IntWalk.i64_in _ (by omega)]; have := hkj.out; omega
            have HN : Hid (c[j + 1]?.getD 0 = c[k]?.getD 0) := by show _ = _; rw [hkj.out]
            have HJ : Hid (c[j]?.getD 0 = c[j]?.getD 0) := rfl
            clear hcc
            have HS : Hid (¬ c[k]?.getD 0 < c[j]?.getD 0 → ∀ q, 0 ≤ q → q + 1 < k + 1 → c[q]?.getD 0 ≤ c[q + 1]?.getD 0) := fun hn q h0 hq => by
              rcases Nat.lt_or_ge (q + 1) k with h | h
              · exact hall.out q h0 h
              · have : q = j := by have := hkj.out; omega
                subst this
                rw [HN.out]; omega
            have HX : Hid (c[k]?.getD 0 < c[j]?.getD 0 → sortedB c = false) := fun h => sortedB_false j (by have := hkj.out; omega) (by rw [HN.out]; exact h)
            generalize c[k]?.getD 0 = y at *
            generalize c[j]?.getD 0 = x at *
            by_cases hyx : y < x
            · have g1 : decide (y < x) = true := decide_eq_true hyx
              have HSF : Hid (sortedB c = false) := HX.out hyx
              clear hyx HX HS
              go_upto_region 11 with (fail)
              go_quiet (fail)
              clear g1
              have HBW := Lib.hid (below_drewN hbw nq)
              go_wp2_with (fail)
              go_ret
              exact ⟨by rw [H2.out, HSF.out]; rfl, HBW.out⟩
            · have g1 : decide (y < x) = false := decide_eq_false hyx
              have HS2 := Lib.hid (HS.out hyx)
              clear hyx HX HS
              go_upto_region 11 with (fail)
              go_quiet (fail)
              clear g1
              have HBW := Lib.hid (below_drewN hbw nq)
              go_wp2_with (fail)
              go_roundw
              case rel => exact ⟨k + 1, k, rfl, by omega, by go_num, HS2, HBW.out⟩
              case measure => simp [intOf]; omega
          · have : k = c.length := by omega
            subst this
            have HT : Hid (sortedB c = true) := sortedB_true hall.out
            clear hall
            go_wp2_with (fail)
            go_ret
            exact ⟨by rw [H2.out, HT.out]; rfl, hbw⟩
  · have hb : c.length < 1 ∨ 6 < c.length := by simp [withinB] at h0; omega
    have H0 : Hid (courseE xs.length c = 2) := by show _ = _; rw [courseE, if_neg h0]
    clear h0
    go_enter Tryz.func77, Tryz.ntmps77
    go_wp2_with (fail)
    all_goals first
      | (exfalso; omega)
      | (go_ret; exact ⟨by rw [H0.out]; rfl, Below.refl _ _⟩)
end Go.Proofs.YtgldfnkjfgcjpaaGreat

namespace Go.Proofs.YtgldfnkjfgcjpaaGreat
open Go.RowKit Go.Shelf
attribute [local go_sem] Oper.semAt_some

set_option maxHeartbeats 1000000 in
theorem earlier_any (a : Option Addr) (xs : List Int) (ca : Nat) (b : Option Addr) (ys : List Int) (cb : Nat) (w : World) (hx : IntSl w a xs) (hy : IntSl w b ys) (hl : xs.length ≤ 1000000) :
    Calls Tryz.prog 142 #[.slice a xs.length ca, .slice b ys.length cb] w fun e w' => e = .returned (.bool (beforeB xs ys)) ∧ Below w.heap.size w w' := by
  have HX := Lib.hid (And.intro hx hy)
  clear hx hy
  by_cases hlen : xs.length = ys.length
  · have hlb : ((xs.length : Int) != (ys.length : Int)) = false := by simp; omega
    have HR : Hid (beforeB xs ys = decide (cmpL xs ys < 0)) := by show _ = _; rw [beforeB, if_pos hlen]
    have HL := Lib.hid hlen
    clear hlen
    go_enter Tryz.func142, Tryz.ntmps142
    go_wp2_with (fail)
    clear hlb
    go_loopw [5] (fun i wr => ∃ k : Nat, k ≤ xs.length ∧ i = .int .i64 k ∧ Hid (cmpL xs ys = cmpL (xs.drop k) (ys.drop k)) ∧ Below w.heap.size w wr) (fun i _ => xs.length - (intOf i).toNat)
    case atStart => exact ⟨0, Nat.zero_le _, rfl, rfl, Below.refl _ _⟩
    case round =>
      obtain ⟨k, hk, rfl, hc, hbw⟩ := hrel
      by_cases hlt : k < xs.length
      · obtain ⟨b1, o1, rfl, hb1, hc1⟩ := HX.out.1 (by omega)
        have d1 := (hbw.cell (p := ⟨b1, o1 + k, none⟩) hb1).trans (hc1 k hlt)
        have hlt2 : k < ys.length := by have := HL.out; omega
        obtain ⟨b2, o2, rfl, hb2, hc2⟩ := HX.out.2 (by omega)
        have d2 := (hbw.cell (p := ⟨b2, o2 + k, none⟩) hb2).trans (hc2 k hlt2)
        clear hc1 hc2
        have HA := Lib.hid (hc.out.trans (cmpL_at hlt hlt2))
        have HLT := Lib.hid (And.intro hlt hlt2)
        generalize xs[k]?.getD 0 = xk at d1 HA
        generalize ys[k]?.getD 0 = yk at d2 HA
        by_cases he : xk = yk
        · have heb : (xk != yk) = false := by simp [he]
          have HA2 : Hid (cmpL xs ys = cmpL (xs.drop (k + 1)) (ys.drop (k + 1))) := by show _ = _; rw [HA.out, if_pos (by simp [cmpI, he])]
          clear he
          go_upto_region 6 with (fail)
          go_quiet (fail)
          have hwd := Lib.hid (below_drewN hbw nq)
          go_wp2_with (fail)
          go_roundw
          case rel => exact ⟨k + 1, by omega, by go_num, HA2, hwd.out⟩
          case measure => simp [intOf]; omega
        · have heb : (xk != yk) = true := by simp [he]
          have HA2 : Hid (decide (cmpL xs ys < 0) = decide (xk < yk)) := by
            show _ = _
            rw [HA.out]
            by_cases h1 : xk < yk
            · simp [cmpI, h1]
            · have h2 : yk < xk := by omega
              simp [cmpI, h1, h2]
          clear he
          go_upto_region 6 with (fail)
          go_quiet (fail)
          have hwd := Lib.hid (below_drewN hbw nq)
          go_upto_region 7 with (fail)
          go_quiet (fail)
          have hwd2 := Lib.hid (below_drewN hwd.out nq)
          go_wp2_with (fail)
          go_ret
          exact ⟨by rw [HR.out, HA2.out]; rfl, hwd2.out⟩
      · have hkk : k = xs.length := by omega
        subst hkk
        have HA : Hid (decide (cmpL xs ys < 0) = false) := by
          show _ = _
          rw [hc.out.trans cmpL_end, if_neg (by have := HL.out; omega)]; rfl
        go_wp2_with (fail)
        go_ret
        exact ⟨by rw [HR.out, HA.out]; rfl, hbw⟩
  · have hlb : ((xs.length : Int) != (ys.length : Int)) = true := by simp; omega
    have HR : Hid (beforeB xs ys = decide (xs.length < ys.length)) := by show _ = _; rw [beforeB, if_neg hlen]
    clear hlen
    go_enter Tryz.func142, Tryz.ntmps142
    go_wp2_with (fail)
    go_ret
    exact ⟨by rw [HR.out]; rfl, Below.refl _ _⟩

/-- What many hands back. -/
def ManyOut (w : World) (n : Nat) (e : Ending) (w' : World) : Prop := ∃ b : Bool, e = .returned (.bool b) ∧ (b = false → n ≤ 15) ∧ Below w.heap.size w w'
set_option maxHeartbeats 1000000 in
theorem many_any (a : Option Addr) (n cap : Nat) (r : Ru) (w : World) :
    Calls Tryz.prog 9 #[.slice a n cap, r.v] w (ManyOut w n) := by
  have hB0 : Below w.heap.size w (w.alloc (.cells #[.int .i64 r.laps, .int .i64 r.len.lo, .int .i64 r.len.hi, .int .i64 r.climb.lo, .int .i64 r.climb.hi, .int .i64 r.lap.lo, .int .i64 r.lap.hi, .int .i64 r.wide, .int .i64 r.uses] 26)) := (Below.refl _ _).alloc (Nat.le_refl _) _
  have hR0 : (w.alloc (.cells #[.int .i64 r.laps, .int .i64 r.len.lo, .int .i64 r.len.hi, .int .i64 r.climb.lo, .int .i64 r.climb.hi, .int .i64 r.lap.lo, .int .i64 r.lap.hi, .int .i64 r.wide, .int .i64 r.uses] 26)).heap[w.heap.size]? = some (.cells #[.int .i64 r.laps, .int .i64 r.len.lo, .int .i64 r.len.hi, .int .i64 r.climb.lo, .int .i64 r.climb.hi, .int .i64 r.lap.lo, .int .i64 r.lap.hi, .int .i64 r.wide, .int .i64 r.uses] 26 (0, 0)) := heap_alloc_new _ _
  go_enter Tryz.func9, Tryz.ntmps9
  by_cases h15 : 15 < n
  · have g1 : decide (15 < n) = true := decide_eq_true h15
    go_wp2_with (fail)
    go_ret
    exact ⟨true, rfl, (fun h => by cases h), hB0⟩
  · have g1 : decide (15 < n) = false := decide_eq_false h15
    have HN : Hid (n ≤ 15) := by show n ≤ 15; omega
    go_wp2_with (fail)
    all_goals (
      clear g1
      go_loop [5, 13] (fun n i => ∃ (x : Int) (k : Nat), n = .int .i64 x ∧ i = .int .i64 k ∧ k ≤ 7) (fun _ i => 8 - (intOf i).toNat) 
      case atStart => exact ⟨1, 0, rfl, rfl, by omega⟩
      case round =>
        obtain ⟨x, k, rfl, rfl, hk⟩ := hrel
        go_wp2_with (fail)
        all_goals first
          | (go_round
             case rel => exact ⟨_, k + 1, rfl, by go_num, by omega⟩
             case measure => simp [intOf]; omega)
          | (go_ret
             exact ⟨_, rfl, fun _ => HN.out, hB0⟩))
end Go.Proofs.YtgldfnkjfgcjpaaGreat
