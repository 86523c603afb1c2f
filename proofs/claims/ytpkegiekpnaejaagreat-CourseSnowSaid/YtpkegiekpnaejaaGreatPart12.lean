/-
The contracts of the reference's checks of stadiums, rules and courses over this seat's program.
  What is proved: each answers the error that the program's own check answers.
  Conditions: slices of at most 1000000 elements.
The contracts of the reference's listed, uses and broken over this seat's program.
  What is proved: each answers what the program's own functions answer.
  Conditions: slices of at most 1000000 elements; for broken a stadium whose numbers are allowed, and a course of its loops.
The contracts of the reference's broken and Broken over this seat's program.
  What is proved: each answers what the program's own functions answer.
  Conditions: slices of at most 1000000 elements; for broken a stadium whose numbers are allowed, and a course of its loops.
The contracts of klisterkit.Clone, of the conversions to the reference's types, and of Equal for loops, over this seat's program.
  What is proved: a clone, and what is converted, read as the list that came in; Equal says whether two lists are the same.
  Conditions: lists of at most 1000 elements.
-/
import Derived.Test.YtpkegiekpnaejaaGreatPart11
namespace Go.Proofs.YtpkegiekpnaejaaGreat
open Go.RowKit

set_option maxHeartbeats 400000 in
theorem outside_any (n lo hi : Int) (w : World) : Calls Tryz.prog 81 #[.int .i64 n, .int .i64 lo, .int .i64 hi] w fun e w' => e = .returned (.bool (!withinB n lo hi)) ∧ w = w' := by
  go_enter Tryz.func81, Tryz.ntmps81
  go_wp2
  all_goals go_ret
  all_goals exact ⟨ret_bool (by rw [Bool.eq_iff_iff]; simp [withinB]; try omega), rfl⟩

set_option maxHeartbeats 400000 in
theorem wrong_any (s : Sp) (m : Int) (w : World) : Calls Tryz.prog 88 #[s.v, .int .i64 m] w fun e w' => e = .returned (.bool (!boundedB s m)) ∧ Below w.heap.size w w' := by
  go_enter Tryz.func88, Tryz.ntmps88
  go_wp2
  all_goals go_ret
  all_goals exact ⟨ret_bool (by rw [Bool.eq_iff_iff]; simp [boundedB]; omega), (Below.refl _ _).alloc (Nat.le_refl _) _⟩

set_option maxHeartbeats 1000000 in
theorem stadium_any (a : Option Addr) (xs : List Lp) (cap : Nat) (w : World) (hx : Sl 3 Lp.cells w a xs) (hl : xs.length ≤ 1000000) :
    Calls Tryz.prog 76 #[.slice a xs.length cap] w fun e w' => e = .returned (.int .i64 (stadE xs)) ∧ w = w' := by
  by_cases h0 : withinB xs.length 1 12 = true
  · have hb : 1 ≤ xs.length ∧ xs.length ≤ 12 := by simp [withinB] at h0; omega
    have H0 : Hid (stadE xs = if xs.all allowedB = true then 0 else 3) := by show _ = _; rw [stadE, if_pos h0]
    obtain ⟨hb1, hb2⟩ := hb
    clear h0
    go_enter Tryz.func76, Tryz.ntmps76
    have g1 : decide (xs.length < 1) = false := decide_eq_false (by omega)
    have g2 : decide (12 < xs.length) = false := decide_eq_false (by omega)
    go_wp2_with (fail)
    clear g1 g2
    go_loop [3] (fun i => ∃ k : Nat, k ≤ xs.length ∧ i = .int .i64 k ∧ Hid ((xs.take k).all allowedB = true)) (fun i => xs.length - (intOf i).toNat)
    case atStart => exact ⟨0, Nat.zero_le _, rfl, rfl⟩
    case round =>
      obtain ⟨k, hk, rfl, hall⟩ := hrel
      by_cases hlt : k < xs.length
      · obtain ⟨b, off, rfl, hbs, hc⟩ := hx (by omega)
        have hxk := List.getElem?_eq_getElem hlt
        have d0 : w.cell? ⟨b, off + k * 3, none⟩ = some (.int .i64 xs[k].l) := hc k xs[k] 0 _ hxk rfl
        have d1 := hc k xs[k] 1 _ hxk rfl
        have d2 := hc k xs[k] 2 _ hxk rfl
        have HT := Lib.hid (all_take_succ allowedB xs k hlt)
        have HF := Lib.hid (all_false allowedB xs k hlt)
        clear hc hxk
        generalize xs[k] = x at *
        cases e1 : withinB x.l 1 20000
        · have HA : Hid (allowedB x = false) := by show _ = _; simp [allowedB, e1]
          go_wp2_with (go_at_call 81; refine (outside_any _ _ _ _).mono ?_; rintro e w' ⟨rfl, rfl⟩)
          go_ret
          exact ⟨by rw [H0.out, if_neg (by rw [HF.out HA.out]; simp)]; rfl, rfl⟩
        · cases e2 : withinB x.c 0 2000
          · have HA : Hid (allowedB x = false) := by show _ = _; simp [allowedB, e1, e2]
            go_wp2_with (go_at_call 81; refine (outside_any _ _ _ _).mono ?_; rintro e w' ⟨rfl, rfl⟩)
            go_ret
            exact ⟨by rw [H0.out, if_neg (by rw [HF.out HA.out]; simp)]; rfl, rfl⟩
          · cases e3 : withinB x.d 1 20
            · have HA : Hid (allowedB x = false) := by show _ = _; simp [allowedB, e1, e2, e3]
              go_wp2_with (go_at_call 81; refine (outside_any _ _ _ _).mono ?_; rintro e w' ⟨rfl, rfl⟩)
              go_ret
              exact ⟨by rw [H0.out, if_neg (by rw [HF.out HA.out]; simp)]; rfl, rfl⟩
            · have HA : Hid ((xs.take (k + 1)).all allowedB = true) := by show _ = _; rw [HT.out, hall.out]; simp [allowedB, e1, e2, e3]
              go_wp2_with (go_at_call 81; refine (outside_any _ _ _ _).mono ?_; rintro e w' ⟨rfl, rfl⟩)
              go_round
              case rel => exact ⟨k + 1, by omega, by go_num, HA⟩
              case measure => simp [intOf]; omega
      · have : k = xs.length := by omega
        subst this
        go_wp2_with (fail)
        go_ret
        have h1 := hall.out
        rw [List.take_length] at h1
        exact ⟨by rw [H0.out, if_pos h1]; rfl, rfl⟩
  · have hb : xs.length < 1 ∨ 12 < xs.length := by simp [withinB] at h0; omega
    have H0 : Hid (stadE xs = 2) := by show _ = _; rw [stadE, if_neg h0]
    clear h0
    go_enter Tryz.func76, Tryz.ntmps76
    go_wp2_with (fail)
    all_goals first
      | (exfalso; omega)
      | (go_ret; exact ⟨by rw [H0.out]; rfl, rfl⟩)

set_option maxHeartbeats 2000000 in
set_option maxRecDepth 100000 in
theorem refCheck_any (a : Option Addr) (xs : List Lp) (cap : Nat) (r : Ru) (w : World) (hx : Sl 3 Lp.cells w a xs) (hl : xs.length ≤ 1000000) :
    Calls Tryz.prog 84 #[.slice a xs.length cap, r.v] w fun e w' => e = .returned (.int .i64 (checkE xs r)) ∧ Below w.heap.size w w' := by
  have hB0 : Below w.heap.size w (w.alloc (.cells #[.int .i64 r.laps, .int .i64 r.len.lo, .int .i64 r.len.hi, .int .i64 r.climb.lo, .int .i64 r.climb.hi, .int .i64 r.lap.lo, .int .i64 r.lap.hi, .int .i64 r.wide, .int .i64 r.uses] 36)) := (Below.refl _ _).alloc (Nat.le_refl _) _
  have hR0 : (w.alloc (.cells #[.int .i64 r.laps, .int .i64 r.len.lo, .int .i64 r.len.hi, .int .i64 r.climb.lo, .int .i64 r.climb.hi, .int .i64 r.lap.lo, .int .i64 r.lap.hi, .int .i64 r.wide, .int .i64 r.uses] 36)).heap[w.heap.size]? = some (.cells #[.int .i64 r.laps, .int .i64 r.len.lo, .int .i64 r.len.hi, .int .i64 r.climb.lo, .int .i64 r.climb.hi, .int .i64 r.lap.lo, .int .i64 r.lap.hi, .int .i64 r.wide, .int .i64 r.uses] 36 (0, 0)) := heap_alloc_new _ _
  go_enter Tryz.func84, Tryz.ntmps84
  go_wp2_with (fail)
  generalize w.alloc (.cells #[.int .i64 r.laps, .int .i64 r.len.lo, .int .i64 r.len.hi, .int .i64 r.climb.lo, .int .i64 r.climb.hi, .int .i64 r.lap.lo, .int .i64 r.lap.hi, .int .i64 r.wide, .int .i64 r.uses] 36) = W0 at hB0 hR0 ⊢
  refine (stadium_any a xs cap _ (hx.below hB0) hl).mono ?_
  rintro e w1 ⟨rfl, rfl⟩
  by_cases h1 : stadE xs = 0
  · have h1b : (stadE xs != 0) = false := by simp [h1]
    have HC : Hid (checkE xs r = if rulesB r = true then 0 else 3) := by show _ = _; rw [checkE, if_pos h1]
    have H1 := Lib.hid h1
    clear h1
    have HR := Lib.hid hR0
    have HB := Lib.hid hB0
    have HO : Hid (rulesB r = (withinB r.laps 1 6 && boundedB r.len 200000 && boundedB r.climb 200000 && boundedB r.lap 200000 && withinB r.wide 1 20 && withinB r.uses 1 6)) := by
      show _ = _
      simp only [rulesB, List.all_cons, List.all_nil]
      cases withinB r.laps 1 6 <;> cases boundedB r.len 200000 <;> cases boundedB r.climb 200000 <;> cases boundedB r.lap 200000 <;> cases withinB r.wide 1 20 <;> cases withinB r.uses 1 6 <;> rfl
    have c0 := blk_cell HR.out 0 rfl
    clear hR0 hB0
    go_wp2_with (fail)
    clear c0
    refine (outside_any _ _ _ _).mono ?_
    rintro e w' ⟨rfl, rfl⟩
    have c1 := blk_cell HR.out 1 rfl
    have c2 := blk_cell HR.out 2 rfl
    cases e0 : withinB r.laps 1 6
    · have HO2 : Hid (rulesB r = false) := by show _ = _; rw [HO.out, e0]; simp
      go_wp2_with (fail)
      go_ret
      exact ⟨by rw [HC.out, if_neg (by rw [HO2.out]; simp)]; rfl, HB.out⟩
    · have E0 := Lib.hid e0
      go_wp2_with (fail)
      clear c1 c2
      refine (wrong_any r.len _ _).mono ?_
      rintro e v1 ⟨rfl, hb⟩
      have HR := Lib.hid (blk_below HR.out hb)
      have HB := Lib.hid (below_self HB.out hb)
      clear hb
      have c3 := blk_cell HR.out 3 rfl
      have c4 := blk_cell HR.out 4 rfl
      cases e1 : boundedB r.len 200000
      · have HO2 : Hid (rulesB r = false) := by show _ = _; rw [HO.out, E0.out, e1]; simp
        go_wp2_with (fail)
        go_ret
        exact ⟨by rw [HC.out, if_neg (by rw [HO2.out]; simp)]; rfl, HB.out⟩
      · have E1 := Lib.hid e1
        go_wp2_with (fail)
        clear c3 c4
        refine (wrong_any r.climb _ _).mono ?_
        rintro e v2 ⟨rfl, hb⟩
        have HR := Lib.hid (blk_below HR.out hb)
        have HB := Lib.hid (below_self HB.out hb)
        clear hb
        have c5 := blk_cell HR.out 5 rfl
        have c6 := blk_cell HR.out 6 rfl
        cases e2 : boundedB r.climb 200000
        · have HO2 : Hid (rulesB r = false) := by show _ = _; rw [HO.out, E0.out, E1.out, e2]; simp
          go_wp2_with (fail)
          go_ret
          exact ⟨by rw [HC.out, if_neg (by rw [HO2.out]; simp)]; rfl, HB.out⟩
        · have E2 := Lib.hid e2
          go_wp2_with (fail)
          clear c5 c6
          refine (wrong_any r.lap _ _).mono ?_
          rintro e v3 ⟨rfl, hb⟩
          have HR := Lib.hid (blk_below HR.out hb)
          have HB := Lib.hid (below_self HB.out hb)
          clear hb
          have c7 := blk_cell HR.out 7 rfl
          cases e3 : boundedB r.lap 200000
          · have HO2 : Hid (rulesB r = false) := by show _ = _; rw [HO.out, E0.out, E1.out, E2.out, e3]; simp
            go_wp2_with (fail)
            go_ret
            exact ⟨by rw [HC.out, if_neg (by rw [HO2.out]; simp)]; rfl, HB.out⟩
          · have E3 := Lib.hid e3
            go_wp2_with (fail)
            clear c7
            refine (outside_any _ _ _ _).mono ?_
            rintro e w' ⟨rfl, rfl⟩
            have c8 := blk_cell HR.out 8 rfl
            cases e4 : withinB r.wide 1 20
            · have HO2 : Hid (rulesB r = false) := by show _ = _; rw [HO.out, E0.out, E1.out, E2.out, E3.out, e4]; simp
              go_wp2_with (fail)
              go_ret
              exact ⟨by rw [HC.out, if_neg (by rw [HO2.out]; simp)]; rfl, HB.out⟩
            · have E4 := Lib.hid e4
              go_wp2_with (fail)
              clear c8
              refine (outside_any _ _ _ _).mono ?_
              rintro e w' ⟨rfl, rfl⟩
              cases e5 : withinB r.uses 1 6
              · have HO2 : Hid (rulesB r = false) := by show _ = _; rw [HO.out, E0.out, E1.out, E2.out, E3.out, E4.out, e5]; simp
                go_wp2_with (fail)
                go_ret
                exact ⟨by rw [HC.out, if_neg (by rw [HO2.out]; simp)]; rfl, HB.out⟩
              · have E5 := Lib.hid e5
                have HO2 : Hid (rulesB r = true) := by show _ = _; rw [HO.out, E0.out, E1.out, E2.out, E3.out, E4.out, E5.out]; rfl
                go_wp2_with (fail)
                go_ret
                exact ⟨by rw [HC.out, if_pos HO2.out]; rfl, HB.out⟩
  · have h1b : (stadE xs != 0) = true := by simp [h1]
    have HC : Hid (checkE xs r = stadE xs) := by show _ = _; rw [checkE, if_neg h1]
    have H1 := Lib.hid h1
    clear h1
    go_wp2_with (fail)
    go_ret
    exact ⟨by rw [HC.out]; rfl, hB0⟩
end Go.Proofs.YtpkegiekpnaejaaGreat

namespace Go.Proofs.YtpkegiekpnaejaaGreat
open Go.RowKit
attribute [local go_sem] Oper.semAt_some

set_option maxHeartbeats 1000000 in
theorem uses_any (ac : Option Addr) (c : List Int) (ccap : Nat) (x : Int) (w : World) (hc : IntSl w ac c) (hcl : c.length ≤ 1000000) :
    Calls Tryz.prog 78 #[.slice ac c.length ccap, .int .i64 x] w fun e w' => e = .returned (.int .i64 (c.count x : Nat)) ∧ w = w' := by
  go_enter Tryz.func78, Tryz.ntmps78
  go_wp2_with (fail)
  go_loop [5, 6] (fun n i => ∃ k : Nat, k ≤ c.length ∧ i = .int .i64 k ∧ n = .int .i64 ((c.take k).count x : Nat)) (fun _ i => c.length - (intOf i).toNat)
  case atStart => exact ⟨0, Nat.zero_le _, rfl, rfl⟩
  case round =>
    obtain ⟨k, hk, rfl, rfl⟩ := hrel
    by_cases hlt : k < c.length
    · obtain ⟨b, off, rfl, hbs, hcc⟩ := hc (by omega)
      have d0 := hcc k hlt
      rw [List.getElem?_eq_getElem hlt, Option.getD_some] at d0
      have HS := Lib.hid (count_take_succ c k hlt x)
      have hle : (c.take k).count x ≤ 1000000 := by
        have h1 := List.count_le_length (a := x) (l := c.take k)
        have h2 : (c.take k).length ≤ k := List.length_take_le _ _
        omega
      clear hcc
      generalize c[k] = y at *
      generalize (c.take k).count x = m at *
      by_cases he : y = x
      · have heb : (y == x) = true := by simp [he]
        have HS2 : Hid ((c.take (k + 1)).count x = m + 1) := by show _ = _; rw [HS.out, if_pos he]
        clear he HS
        go_wp2_with (fail)
        go_round
        case rel => exact ⟨k + 1, by omega, by go_num, by rw [HS2.out]; go_num⟩
        case measure => simp [intOf]; omega
      · have heb : (y == x) = false := by simp [he]
        have HS2 : Hid ((c.take (k + 1)).count x = m) := by show _ = _; rw [HS.out, if_neg he]; rfl
        clear he HS
        go_wp2_with (fail)
        go_round
        case rel => exact ⟨k + 1, by omega, by go_num, by rw [HS2.out]⟩
        case measure => simp [intOf]; omega
    · have : k = c.length := by omega
      subst this
      go_wp2_with (fail)
      go_ret
      exact ⟨rfl, rfl⟩

set_option maxHeartbeats 2000000 in
theorem listed_any (a : Option Addr) (xs : List Lp) (cap : Nat) (ac : Option Addr) (c : List Int) (ccap : Nat) (w : World) (hc : IntSl w ac c) (hl : xs.length ≤ 1000000) (hcl : c.length ≤ 1000000) :
    Calls Tryz.prog 77 #[.slice a xs.length cap, .slice ac c.length ccap] w fun e w' => e = .returned (.int .i64 (courseE xs.length c)) ∧ Below w.heap.size w w' := by
  by_cases h0 : withinB c.length 1 6 = true
  · have hb : 1 ≤ c.length ∧ c.length ≤ 6 := by simp [withinB] at h0; omega
    have H0 : Hid (courseE xs.length c = if c.all (fun i => withinB i 0 (xs.length - 1)) = true then (if sortedB c = true then 0 else 4) else 1) := by show _ = _; rw [courseE, if_pos h0]
    obtain ⟨hb1, hb2⟩ := hb
    clear h0
    have ew : IntKind.i64.wrap ((xs.length : Int) - 1) = (xs.length : Int) - 1 := IntWalk.i64_in _ (by omega)
    have EW := Lib.hid ew
    clear ew
    go_enter Tryz.func77, Tryz.ntmps77
    have g1 : decide (c.length < 1) = false := decide_eq_false (by omega)
    have g2 : decide (6 < c.length) = false := decide_eq_false (by omega)
    go_wp2_with (fail)
    clear g1 g2
    go_loop [5] (fun i => ∃ k : Nat, k ≤ c.length ∧ i = .int .i64 k ∧ Hid ((c.take k).all (fun i => withinB i 0 (xs.length - 1)) = true)) (fun i => c.length - (intOf i).toNat)
    case atStart => exact ⟨0, Nat.zero_le _, rfl, rfl⟩
    case round =>
      obtain ⟨k, hk, rfl, hall⟩ := hrel
      by_cases hlt : k < c.length
      · obtain ⟨b, off, rfl, hbs, hcc⟩ := hc (by omega)
        have d0 := hcc k hlt
        rw [List.getElem?_eq_getElem hlt, Option.getD_some] at d0
        have HT := Lib.hid (all_take_succ (fun i => withinB i 0 (xs.length - 1)) c k hlt)
        have HF := Lib.hid (all_false (fun i => withinB i 0 (xs.length - 1)) c k hlt)
        clear hcc
        generalize c[k] = x at *
        cases e1 : withinB x 0 ((xs.length : Int) - 1)
        · have HA : Hid (c.all (fun i => withinB i 0 (xs.length - 1)) = false) := HF.out e1
          clear HT HF
          go_wp2_with (go_at_call 81; refine (outside_any _ _ _ _).mono ?_; rintro e w' ⟨rfl, rfl⟩)
          go_ret
          exact ⟨by rw [H0.out, if_neg (by rw [HA.out]; simp)]; rfl, Below.refl _ _⟩
        · have HA : Hid ((c.take (k + 1)).all (fun i => withinB i 0 (xs.length - 1)) = true) := by show _ = _; rw [HT.out, hall.out]; simpa using e1
          clear HT HF
          go_wp2_with (go_at_call 81; refine (outside_any _ _ _ _).mono ?_; rintro e w' ⟨rfl, rfl⟩)
          go_round
          case rel => exact ⟨k + 1, by omega, by go_num, HA⟩
          case measure => simp [intOf]; omega
      · have : k = c.length := by omega
        subst this
        have h1 := hall.out
        rw [List.take_length] at h1
        have H2 : Hid (courseE xs.length c = if sortedB c = true then 0 else 4) := by show _ = _; rw [H0.out, if_pos h1]
        clear hlt h1 hall hk
        go_wp2_with (fail)
        go_loopw [6] (fun i wr => ∃ k j : Nat, Hid (k = j + 1) ∧ k ≤ c.length ∧ i = .int .i64 k ∧ Hid (∀ q, 0 ≤ q → q + 1 < k → c[q]?.getD 0 ≤ c[q + 1]?.getD 0) ∧ Below w.heap.size w wr) (fun i _ => c.length - (intOf i).toNat)
        case atStart => exact ⟨1, 0, rfl, hb1, rfl, fun q _ hq => by omega, Below.refl _ _⟩
        case round =>
          obtain ⟨k, j, hkj, hk, rfl, hall, hbw⟩ := hrel
          have hj : j < c.length := by have := hkj.out; omega
          have hk1 : 1 ≤ k := by have := hkj.out; omega
          by_cases hlt : k < c.length
          · obtain ⟨b, off, rfl, hbs, hcc⟩ := hc (by omega)
            have d0 := (hbw.cell (p := ⟨b, off + k, none⟩) hbs).trans (hcc k hlt)
            have d1 := (hbw.cell (p := ⟨b, off + j, none⟩) hbs).trans (hcc j hj)
            have e9 : IntKind.i64.wrap ((k : Int) - 1) = (j : Int) := by rw [IntWalk.i64_in _ (by omega)]; have := hkj.out; omega
            have HN : Hid (c[j + 1]?.getD 0 = c[k]?.getD 0) := by show _ = _; rw [hkj.out]
            have HJ : Hid (c[j]?.getD 0 = c[j]?.getD 0) := rfl
            clear hcc
            have HS : Hid (¬ c[k]?.getD 0 < c[j]?.getD 0 → ∀ q, 0 ≤ q → q + 1 < k + 1 → c[q]?.getD 0 ≤ c[q + 1]?.getD 0) := fun hn q h0 hq => by
              rcases Nat.lt_or_ge (q + 1) k with h | h
              · exact hall.out q h0 h
              · have : q = j := by have := hkj.out; omega
                subst this
                rw [HN.out]; omega
            have HX : Hid (c[k]?.getD 0 < c[j]?.getD 0 → sortedB c = false) := fun h => sortedB_false j (by have := hkj.out; omega) (by rw [HN.out]; exact h)
            generalize c[k]?.getD 0 = y at *
            generalize c[j]?.getD 0 = x at *
            by_cases hyx : y < x
            · have g1 : decide (y < x) = true := decide_eq_true hyx
              have HSF : Hid (sortedB c = false) := HX.out hyx
              clear hyx HX HS
              go_upto_region 11 with (fail)
              go_quiet (fail)
              clear g1
              have HBW := Lib.hid (below_drewN hbw nq)
              go_wp2_with (fail)
              go_ret
              exact ⟨by rw [H2.out, HSF.out]; rfl, HBW.out⟩
            · have g1 : decide (y < x) = false := decide_eq_false hyx
              have HS2 := Lib.hid (HS.out hyx)
              clear hyx HX HS
              go_upto_region 11 with (fail)
              go_quiet (fail)
              clear g1
              have HBW := Lib.hid (below_drewN hbw nq)
              go_wp2_with (fail)
              go_roundw
              case rel => exact ⟨k + 1, k, rfl, by omega, by go_num, HS2, HBW.out⟩
              case measure => simp [intOf]; omega
          · have : k = c.length := by omega
            subst this
            have HT : Hid (sortedB c = true) := sortedB_true hall.out
            clear hall
            go_wp2_with (fail)
            go_ret
            exact ⟨by rw [H2.out, HT.out]; rfl, hbw⟩
  · have hb : c.length < 1 ∨ 6 < c.length := by simp [withinB] at h0; omega
    have H0 : Hid (courseE xs.length c = 2) := by show _ = _; rw [courseE, if_neg h0]
    clear h0
    go_enter Tryz.func77, Tryz.ntmps77
    go_wp2_with (fail)
    all_goals first
      | (exfalso; omega)
      | (go_ret; exact ⟨by rw [H0.out]; rfl, Below.refl _ _⟩)
end Go.Proofs.YtpkegiekpnaejaaGreat

namespace Go.Proofs.YtpkegiekpnaejaaGreat
open Go.RowKit
attribute [local go_sem] Oper.semAt_some

/-- What broken has reckoned behind k laps. -/
structure Bk (xs : List Lp) (r : Ru) (c : List Int) (k : Nat) (A B : Int) (p q o : Bool) : Prop where
  a : A = sumI ((c.take k).map (lenAt xs))
  b : B = sumI ((c.take k).map (climbAt xs))
  p : p = !((c.take k).map (lenAt xs)).all (fun n => insideB n r.lap)
  q : q = !(c.take k).all (fun i => decide (r.wide ≤ wideAt xs i))
  o : o = (c.take k).any (fun i => decide (r.uses < (c.count i : Int)))
theorem Bk.zero (xs : List Lp) (r : Ru) (c : List Int) : Bk xs r c 0 0 0 false false false := ⟨rfl, rfl, rfl, rfl, rfl⟩
theorem Bk.step {xs : List Lp} {r : Ru} {c : List Int} {k : Nat} {A B : Int} {p q o : Bool} (h : Bk xs r c k A B p q o) {z : Nat} {x : Lp} (hz : c[k]? = some (z : Int)) (hx : xs[z]? = some x) :
    Bk xs r c (k + 1) (A + x.l) (B + x.c) (p || !withinB x.l r.lap.lo r.lap.hi) (q || decide (x.d < r.wide)) (o || decide (r.uses < (c.count (z : Int) : Int))) := by
  have e : c.take (k + 1) = c.take k ++ [(z : Int)] := by rw [List.take_add_one, hz]; rfl
  have e1 : lenAt xs z = x.l := by simp [lenAt, hx]
  have e2 : climbAt xs z = x.c := by simp [climbAt, hx]
  have e3 : wideAt xs z = x.d := by simp [wideAt, hx]
  obtain ⟨a, b, c1, d, f⟩ := h
  subst a b c1 d f
  refine ⟨?_, ?_, ?_, ?_, ?_⟩
  · rw [e, List.map_append, List.map_singleton, sumI_snoc, e1]
  · rw [e, List.map_append, List.map_singleton, sumI_snoc, e2]
  · rw [e, List.map_append, List.map_singleton, List.all_append, e1]
    simp [insideB]
  · rw [e, List.all_append]
    simp only [List.all_cons, List.all_nil, Bool.and_true, Bool.not_and, e3]
    congr 1
    rw [Bool.eq_iff_iff]; simp
  · rw [e, List.any_append]
    simp
theorem Bk.bd {xs : List Lp} {r : Ru} {c : List Int} {k : Nat} {A B : Int} {p q o : Bool} (h : Bk xs r c k A B p q o) (hs : stadE xs = 0) (hc : courseE xs.length c = 0) (hk : k ≤ c.length) : (0 ≤ A ∧ A ≤ 1000000) ∧ (0 ≤ B ∧ B ≤ 1000000) := by
  obtain ⟨h1, h2, h3⟩ := stad_ok hs
  obtain ⟨g1, g2, g3, _⟩ := course_ok hc
  have hb : ∀ f : Lp → Int, (∀ x ∈ xs, 0 ≤ f x ∧ f x ≤ 20000) → ∀ y ∈ c.map (fun i => ((xs[i.toNat]?).map f).getD 0), 0 ≤ y ∧ y ≤ 20000 := by
    intro f hf y hy
    obtain ⟨i, hi, rfl⟩ := List.mem_map.1 hy
    cases e : xs[i.toNat]? with
    | none => simp
    | some x => simpa using hf x (List.mem_of_getElem? e)
  have hall : ∀ x ∈ xs, (1 ≤ x.l ∧ x.l ≤ 20000) ∧ (0 ≤ x.c ∧ x.c ≤ 2000) := fun x hx => by
    have := List.all_eq_true.1 h1 x hx
    simp [allowedB, withinB] at this
    omega
  have l1 := sumI_bd (c.map (lenAt xs)) 20000 (by omega) (hb Lp.l (fun x hx => by have := hall x hx; omega)) k
  have l2 := sumI_bd (c.map (climbAt xs)) 20000 (by omega) (hb Lp.c (fun x hx => by have := hall x hx; omega)) k
  have e1 := h.a
  have e2 := h.b
  rw [List.map_take] at e1 e2
  rw [← e1] at l1
  rw [← e2] at l2
  omega
theorem Bk.end {xs : List Lp} {r : Ru} {c : List Int} {A B : Int} {p q o : Bool} (h : Bk xs r c c.length A B p q o) : judgeM xs r c = ⟨!withinB A r.len.lo r.len.hi, !withinB B r.climb.lo r.climb.hi, p, q, o⟩ := by
  obtain ⟨a, b, c1, d, f⟩ := h
  rw [List.take_length] at a b c1 d f
  subst a b c1 d f
  rfl

/-- What the memory holds while broken lists the rules. -/
structure BL (w : World) (r : Ru) (W : World) (v : Value) (l : List Int) : Prop where
  b : Below w.heap.size w W
  r : W.heap[w.heap.size]? = some (.cells #[.int .i64 r.laps, .int .i64 r.len.lo, .int .i64 r.len.hi, .int .i64 r.climb.lo, .int .i64 r.climb.hi, .int .i64 r.lap.lo, .int .i64 r.lap.hi, .int .i64 r.wide, .int .i64 r.uses] 36 (0, 0))
  o : W.ownsRow (w.heap.size + 1) 3 1 v l.length (l.map (Value.int .i64))
theorem BL.push {w W w2 : World} {r : Ru} {v v' : Value} {l : List Int} {x : Int} {o : Obj} (h : BL w r W v l) (ho : w2.ownsRow (w.heap.size + 1) 3 1 v' (l.length + 1) (l.map (Value.int .i64) ++ [.int .i64 x])) (hg : (W.alloc o).grownBy w2 v.ownBlock) : BL w r w2 v' (l ++ [x]) := by
  have hs := h.b.size
  have hlt := lt_of_block h.r
  refine ⟨(h.b.alloc hs _).grown hg (by simp; omega) (fun j hj => by have := (h.o.lt j hj).1; omega), ?_, ?_⟩
  · have hne : v.ownBlock ≠ some w.heap.size := fun e => by have := (h.o.lt _ e).1; omega
    rw [hg.block w.heap.size (by simp; omega) hne.symm]
    exact (heap_alloc_old W o hlt).trans h.r
  · rw [List.length_append, List.map_append]; exact ho
def if1 (b : Bool) (x : Int) : List Int := if b = true then [x] else []
theorem rules_five (a b c d e : Bool) : rulesL ⟨a, b, c, d, e⟩ = ((((([] ++ if1 a 0) ++ if1 b 1) ++ if1 c 2) ++ if1 d 3) ++ if1 e 4) := by
  cases a <;> cases b <;> cases c <;> cases d <;> cases e <;> rfl
theorem if1_le (b : Bool) (x : Int) : (if1 b x).length ≤ 1 := by cases b <;> simp [if1]

set_option maxHeartbeats 4000000 in
set_option maxRecDepth 100000 in
theorem refBroken_in (a : Option Addr) (xs : List Lp) (cap : Nat) (r : Ru) (ac : Option Addr) (c : List Int) (ccap : Nat) (w : World) (hx : Sl 3 Lp.cells w a xs) (hc : IntSl w ac c)
    (hs : stadE xs = 0) (hco : courseE xs.length c = 0) :
    Calls Tryz.prog 133 #[.slice a xs.length cap, r.v, .slice ac c.length ccap] w (OutInts w (rulesL (judgeM xs r c))) := by
  have HSC := Lib.hid (And.intro hs hco)
  obtain ⟨h1, h2, h3⟩ := stad_ok hs
  obtain ⟨g1, g2, g3, _⟩ := course_ok hco
  have HG3 := Lib.hid g3
  have HA1 := Lib.hid h1
  clear hs hco g3 h1
  obtain ⟨i0, hi, hz0, hz1, hz2⟩ := info_parts Tryz.info3
  have hB0 : Below w.heap.size w (w.alloc (.cells #[.int .i64 r.laps, .int .i64 r.len.lo, .int .i64 r.len.hi, .int .i64 r.climb.lo, .int .i64 r.climb.hi, .int .i64 r.lap.lo, .int .i64 r.lap.hi, .int .i64 r.wide, .int .i64 r.uses] 36)) := (Below.refl _ _).alloc (Nat.le_refl _) _
  have hR0 : (w.alloc (.cells #[.int .i64 r.laps, .int .i64 r.len.lo, .int .i64 r.len.hi, .int .i64 r.climb.lo, .int .i64 r.climb.hi, .int .i64 r.lap.lo, .int .i64 r.lap.hi, .int .i64 r.wide, .int .i64 r.uses] 36)).heap[w.heap.size]? = some (.cells #[.int .i64 r.laps, .int .i64 r.len.lo, .int .i64 r.len.hi, .int .i64 r.climb.lo, .int .i64 r.climb.hi, .int .i64 r.lap.lo, .int .i64 r.lap.hi, .int .i64 r.wide, .int .i64 r.uses] 36 (0, 0)) := heap_alloc_new _ _
  go_enter Tryz.func133, Tryz.ntmps133
  go_wp2_with (fail)
  generalize w.alloc (.cells #[.int .i64 r.laps, .int .i64 r.len.lo, .int .i64 r.len.hi, .int .i64 r.climb.lo, .int .i64 r.climb.hi, .int .i64 r.lap.lo, .int .i64 r.lap.hi, .int .i64 r.wide, .int .i64 r.uses] 36) = W0 at hB0 hR0 ⊢
  have HX0 : Hid (Below w.heap.size w W0 ∧ W0.heap[w.heap.size]? = some (.cells #[.int .i64 r.laps, .int .i64 r.len.lo, .int .i64 r.len.hi, .int .i64 r.climb.lo, .int .i64 r.climb.hi, .int .i64 r.lap.lo, .int .i64 r.lap.hi, .int .i64 r.wide, .int .i64 r.uses] 36 (0, 0)) ∧ Sl 3 Lp.cells W0 a xs ∧ IntSl W0 ac c) := ⟨hB0, hR0, hx.below hB0, hc.below hB0⟩
  clear hB0 hR0 hx hc
  go_loopw [7, 8, 9, 10, 11, 12] (fun s7 s8 s9 s10 s11 i wr => ∃ (k : Nat) (A B : Int) (p q o : Bool), k ≤ c.length ∧ i = .int .i64 k ∧ s7 = .int .i64 A ∧ s8 = .int .i64 B ∧ s9 = .bool p ∧ s10 = .bool q ∧ s11 = .bool o ∧ Hid (Bk xs r c k A B p q o) ∧ Hid (Below W0.heap.size W0 wr)) (fun _ _ _ _ _ i _ => c.length - (intOf i).toNat)
  case atStart => exact ⟨0, 0, 0, false, false, false, Nat.zero_le _, rfl, rfl, rfl, rfl, rfl, rfl, Bk.zero xs r c, Below.refl _ _⟩
  case round =>
    obtain ⟨k, A, B, p, q, o, hk, rfl, rfl, rfl, rfl, rfl, rfl, hBk, hbw⟩ := hrel
    have hbd := hBk.out.bd HSC.out.1 HSC.out.2 hk
    obtain ⟨⟨bA1, bA2⟩, bB1, bB2⟩ := hbd
    by_cases hlt : k < c.length
    · obtain ⟨bc, oc, rfl, hbc, hcc⟩ := HX0.out.2.2.2 (by omega)
      obtain ⟨z, hz⟩ : ∃ z : Nat, c[k]? = some (z : Int) := by
        have := HG3.out c[k] (List.getElem_mem hlt)
        exact ⟨c[k].toNat, by rw [List.getElem?_eq_getElem hlt]; congr 1; omega⟩
      have hzl : z < xs.length := by
        have := HG3.out (z : Int) (List.mem_of_getElem? hz)
        omega
      have dz := (hbw.out.cell (p := ⟨bc, oc + k, none⟩) hbc).trans (hcc k hlt)
      rw [hz, Option.getD_some] at dz
      obtain ⟨b, off, rfl, hbs, hcs⟩ := HX0.out.2.2.1 (by omega)
      have hxz := List.getElem?_eq_getElem hzl
      have HST := Lib.hid (hBk.out.step hz hxz)
      have d0 : wr.cell? ⟨b, off + z * 3, none⟩ = some (.int .i64 xs[z].l) := (hbw.out.cell (p := ⟨b, off + z * 3 + 0, none⟩) hbs).trans (hcs z xs[z] 0 _ hxz rfl)
      have d1 := (hbw.out.cell (p := ⟨b, off + z * 3 + 1, none⟩) hbs).trans (hcs z xs[z] 1 _ hxz rfl)
      have d2 := (hbw.out.cell (p := ⟨b, off + z * 3 + 2, none⟩) hbs).trans (hcs z xs[z] 2 _ hxz rfl)
      have hxb : (0 ≤ xs[z].l ∧ xs[z].l ≤ 20000) ∧ (0 ≤ xs[z].c ∧ xs[z].c ≤ 2000) := by
        have := List.all_eq_true.1 HA1.out xs[z] (List.getElem_mem hzl)
        simp [allowedB, withinB] at this
        omega
      obtain ⟨⟨bx1, bx2⟩, bx3, bx4⟩ := hxb
      clear hcc hcs hz hxz
      generalize xs[z] = x at *
      obtain ⟨Wx, hWx⟩ : ∃ Wx, wr.alloc (.cells #[.int .i64 x.l, .int .i64 x.c, .int .i64 x.d] 132) = Wx := ⟨_, rfl⟩
      have hbx : Below wr.heap.size wr Wx := by rw [← hWx]; exact (Below.refl _ _).alloc (Nat.le_refl _) _
      have HNX : Hid (Wx.heap[wr.heap.size]? = some (.cells #[.int .i64 x.l, .int .i64 x.c, .int .i64 x.d] 132 (0, 0))) := by rw [← hWx]; exact heap_alloc_new _ _
      have HBW := Lib.hid (below_self hbw.out hbx)
      have HIQ : Hid (∀ n, IntSl (Wx.drewN n) (some ⟨bc, oc, none⟩) c) := fun n => (HX0.out.2.2.2.below HBW.out).below (below_drewN (Below.refl _ _) n)
      have dzx := (hbx.cell (p := ⟨bc, oc + k, none⟩) (Nat.lt_of_lt_of_le hbc hbw.out.size)).trans dz
      have HDZ := Lib.hid dzx
      clear hbx dzx
      go_upto_region 7 with (fail)
      clear hWx d0 d1 d2 dz
      have n0 := blk_cell HNX.out 0 rfl
      have n1 := blk_cell HNX.out 1 rfl
      have n2 := blk_cell HNX.out 2 rfl
      have HR := Lib.hid (blk_below HX0.out.2.1 HBW.out)
      have r5 := blk_cell HR.out 5 rfl
      have r6 := blk_cell HR.out 6 rfl
      have r7 := blk_cell HR.out 7 rfl
      have r8 := blk_cell HR.out 8 rfl
      have dz := HDZ.out
      cases p <;> cases q <;> cases o
      all_goals
        go_upto_region 11 with (go_at_call 81; refine (outside_any _ _ _ _).mono ?_; rintro e w' ⟨rfl, rfl⟩)
        go_quiet ((go_at_call 78; exact Calls.quiet_of_same ((uses_any _ c ccap _ _ (HIQ.out _) (by omega)).mono fun _ _ h => ⟨h.1, h.2.symm⟩)))
        go_wp2_with (fail)
        go_roundw
        case rel => exact ⟨k + 1, _, _, _, _, _, by omega, by go_num, rfl, rfl, rfl, rfl, rfl, HST.out, below_drewN HBW.out nq⟩
        case measure => simp [intOf]; omega
    · have : k = c.length := by omega
      subst this
      have HE := Lib.hid (hBk.out.end)
      have HL0 : Hid (BL w r wr (.slice none 0 0) []) := ⟨below_self HX0.out.1 hbw.out, blk_below HX0.out.2.1 hbw.out, World.ownsRow_nil _ _ _ _⟩
      clear hBk hlt hk HX0 hbw
      have r1 := blk_cell HL0.out.r 1 rfl
      have r2 := blk_cell HL0.out.r 2 rfl
      go_upto_if 75 with (go_at_call 81; refine (outside_any _ _ _ _).mono ?_; rintro e w' ⟨rfl, rfl⟩)
      clear r1 r2
      go_cut [14] from 75 to 78 (fun v wx => BL w r wx v ([] ++ if1 (!withinB A r.len.lo r.len.hi) 0))
      case first =>
        cases eb : withinB A r.len.lo r.len.hi
        · have hlen : ([] : List Int).length ≤ 0 := by simp
          have hown := HL0.out.o
          have hsz := HL0.out.b.size
          have hsr := lt_of_block HL0.out.r
          have HP := HL0
          go_wp2_with (at_builtin; refine wpList_append_own _ rfl _ _ 27 rfl (w.heap.size + 1) 3 i0 (.int .i64 0) 1 8 Tryz.underlying27 hi hz0 hz1 hz2 rfl (by decide) _ _ _ rfl (hown.alloc _) ⟨wr.heap.size, 0, none⟩ 1 1 [.int .i64 0] rfl rfl ?c1 ?c2 ?c3 ?c4 ?c5 ?_)
          case c1 => exact cell_one_new _ _ _
          case c2 => intro u hu; simp at hu; subst hu; rfl
          case c3 => unfold maxLen; omega
          case c4 => omega
          case c5 => simp; omega
          intro v' w2 hown2 hgrow2 _
          have HN : Hid (BL w r w2 v' (([] : List Int) ++ if1 (!withinB A r.len.lo r.len.hi) 0)) := by rw [eb]; exact HP.out.push hown2 hgrow2
          clear hown2 hgrow2 hown
          go_wp2_with (fail)
          go_meet
          exact HN.out
        · have HN := Lib.hid (show BL w r wr (.slice none 0 0) ([] ++ if1 (!withinB A r.len.lo r.len.hi) 0) from by rw [eb]; simpa [if1] using HL0.out)
          go_wp2_with (fail)
          go_meet
          exact HN.out
      case rest =>
        generalize u14 = s0 at hcut ⊢
        obtain ⟨W1, rfl⟩ : ∃ W, W = wc := ⟨_, rfl⟩
        have HL1 := Lib.hid hcut
        clear hcut
        have r3 := blk_cell HL1.out.r 3 rfl
        have r4 := blk_cell HL1.out.r 4 rfl
        go_upto_if 86 with (go_at_call 81; refine (outside_any _ _ _ _).mono ?_; rintro e w' ⟨rfl, rfl⟩)
        clear r3 r4
        go_cut [14] from 86 to 89 (fun v wx => BL w r wx v (([] ++ if1 (!withinB A r.len.lo r.len.hi) 0) ++ if1 (!withinB B r.climb.lo r.climb.hi) 1))
        case first =>
          cases eb : withinB B r.climb.lo r.climb.hi
          · have hlen : (([] ++ if1 (!withinB A r.len.lo r.len.hi) 0) : List Int).length ≤ 1 := by simp only [List.length_append, List.length_nil]; have := if1_le (!withinB A r.len.lo r.len.hi) 0; omega
            have hown := HL1.out.o
            have hsz := HL1.out.b.size
            have hsr := lt_of_block HL1.out.r
            have HP := HL1
            generalize ([] ++ if1 (!withinB A r.len.lo r.len.hi) 0) = l0 at *
            go_wp2_with (at_builtin; refine wpList_append_own _ rfl _ _ 27 rfl (w.heap.size + 1) 3 i0 (.int .i64 0) 1 8 Tryz.underlying27 hi hz0 hz1 hz2 rfl (by decide) _ _ _ rfl (hown.alloc _) ⟨W1.heap.size, 0, none⟩ 1 1 [.int .i64 1] rfl rfl ?c1 ?c2 ?c3 ?c4 ?c5 ?_)
            case c1 => exact cell_one_new _ _ _
            case c2 => intro u hu; simp at hu; subst hu; rfl
            case c3 => unfold maxLen; omega
            case c4 => omega
            case c5 => simp; omega
            intro v' w2 hown2 hgrow2 _
            have HN : Hid (BL w r w2 v' (l0 ++ if1 (!withinB B r.climb.lo r.climb.hi) 1)) := by rw [eb]; exact HP.out.push hown2 hgrow2
            clear hown2 hgrow2 hown
            go_wp2_with (fail)
            go_meet
            exact HN.out
          · have HN := Lib.hid (show BL w r W1 (s0) (([] ++ if1 (!withinB A r.len.lo r.len.hi) 0) ++ if1 (!withinB B r.climb.lo r.climb.hi) 1) from by rw [eb]; simpa [if1] using HL1.out)
            go_wp2_with (fail)
            go_meet
            exact HN.out
        case rest =>
          generalize u14 = s1 at hcut ⊢
          obtain ⟨W2, rfl⟩ : ∃ W, W = wc := ⟨_, rfl⟩
          have HL2 := Lib.hid hcut
          clear hcut
          go_upto_if 90 with (fail)
          go_cut [9, 14] from 90 to 93 (fun _ v wx => BL w r wx v ((([] ++ if1 (!withinB A r.len.lo r.len.hi) 0) ++ if1 (!withinB B r.climb.lo r.climb.hi) 1) ++ if1 (p) 2))
          case first =>
            cases eb : p
            · have HN := Lib.hid (show BL w r W2 (s1) ((([] ++ if1 (!withinB A r.len.lo r.len.hi) 0) ++ if1 (!withinB B r.climb.lo r.climb.hi) 1) ++ if1 (p) 2) from by rw [eb]; simpa [if1] using HL2.out)
              go_wp2_with (fail)
              go_meet
              exact HN.out
            · have hlen : ((([] ++ if1 (!withinB A r.len.lo r.len.hi) 0) ++ if1 (!withinB B r.climb.lo r.climb.hi) 1) : List Int).length ≤ 2 := by simp only [List.length_append, List.length_nil]; have := if1_le (!withinB A r.len.lo r.len.hi) 0; have := if1_le (!withinB B r.climb.lo r.climb.hi) 1; omega
              have hown := HL2.out.o
              have hsz := HL2.out.b.size
              have hsr := lt_of_block HL2.out.r
              have HP := HL2
              generalize (([] ++ if1 (!withinB A r.len.lo r.len.hi) 0) ++ if1 (!withinB B r.climb.lo r.climb.hi) 1) = l0 at *
              go_wp2_with (at_builtin; refine wpList_append_own _ rfl _ _ 27 rfl (w.heap.size + 1) 3 i0 (.int .i64 0) 1 8 Tryz.underlying27 hi hz0 hz1 hz2 rfl (by decide) _ _ _ rfl (hown.alloc _) ⟨W2.heap.size, 0, none⟩ 1 1 [.int .i64 2] rfl rfl ?c1 ?c2 ?c3 ?c4 ?c5 ?_)
              case c1 => exact cell_one_new _ _ _
              case c2 => intro u hu; simp at hu; subst hu; rfl
              case c3 => unfold maxLen; omega
              case c4 => omega
              case c5 => simp; omega
              intro v' w2 hown2 hgrow2 _
              have HN : Hid (BL w r w2 v' (l0 ++ if1 (p) 2)) := by rw [eb]; exact HP.out.push hown2 hgrow2
              clear hown2 hgrow2 hown
              go_wp2_with (fail)
              go_meet
              exact HN.out
          case rest =>
            generalize u14 = s2 at hcut ⊢
            obtain ⟨W3, rfl⟩ : ∃ W, W = wc := ⟨_, rfl⟩
            have HL3 := Lib.hid hcut
            clear hcut
            go_upto_if 94 with (fail)
            go_cut [10, 14] from 94 to 97 (fun _ v wx => BL w r wx v (((([] ++ if1 (!withinB A r.len.lo r.len.hi) 0) ++ if1 (!withinB B r.climb.lo r.climb.hi) 1) ++ if1 (p) 2) ++ if1 (q) 3))
            case first =>
              cases eb : q
              · have HN := Lib.hid (show BL w r W3 (s2) (((([] ++ if1 (!withinB A r.len.lo r.len.hi) 0) ++ if1 (!withinB B r.climb.lo r.climb.hi) 1) ++ if1 (p) 2) ++ if1 (q) 3) from by rw [eb]; simpa [if1] using HL3.out)
                go_wp2_with (fail)
                go_meet
                exact HN.out
              · have hlen : (((([] ++ if1 (!withinB A r.len.lo r.len.hi) 0) ++ if1 (!withinB B r.climb.lo r.climb.hi) 1) ++ if1 (p) 2) : List Int).length ≤ 3 := by simp only [List.length_append, List.length_nil]; have := if1_le (!withinB A r.len.lo r.len.hi) 0; have := if1_le (!withinB B r.climb.lo r.climb.hi) 1; have := if1_le (p) 2; omega
                have hown := HL3.out.o
                have hsz := HL3.out.b.size
                have hsr := lt_of_block HL3.out.r
                have HP := HL3
                generalize ((([] ++ if1 (!withinB A r.len.lo r.len.hi) 0) ++ if1 (!withinB B r.climb.lo r.climb.hi) 1) ++ if1 (p) 2) = l0 at *
                go_wp2_with (at_builtin; refine wpList_append_own _ rfl _ _ 27 rfl (w.heap.size + 1) 3 i0 (.int .i64 0) 1 8 Tryz.underlying27 hi hz0 hz1 hz2 rfl (by decide) _ _ _ rfl (hown.alloc _) ⟨W3.heap.size, 0, none⟩ 1 1 [.int .i64 3] rfl rfl ?c1 ?c2 ?c3 ?c4 ?c5 ?_)
                case c1 => exact cell_one_new _ _ _
                case c2 => intro u hu; simp at hu; subst hu; rfl
                case c3 => unfold maxLen; omega
                case c4 => omega
                case c5 => simp; omega
                intro v' w2 hown2 hgrow2 _
                have HN : Hid (BL w r w2 v' (l0 ++ if1 (q) 3)) := by rw [eb]; exact HP.out.push hown2 hgrow2
                clear hown2 hgrow2 hown
                go_wp2_with (fail)
                go_meet
                exact HN.out
            case rest =>
              generalize u14 = s3 at hcut ⊢
              obtain ⟨W4, rfl⟩ : ∃ W, W = wc := ⟨_, rfl⟩
              have HL4 := Lib.hid hcut
              clear hcut
              go_upto_if 98 with (fail)
              go_cut [11, 14] from 98 to 101 (fun _ v wx => BL w r wx v ((((([] ++ if1 (!withinB A r.len.lo r.len.hi) 0) ++ if1 (!withinB B r.climb.lo r.climb.hi) 1) ++ if1 (p) 2) ++ if1 (q) 3) ++ if1 (o) 4))
              case first =>
                cases eb : o
                · have HN := Lib.hid (show BL w r W4 (s3) ((((([] ++ if1 (!withinB A r.len.lo r.len.hi) 0) ++ if1 (!withinB B r.climb.lo r.climb.hi) 1) ++ if1 (p) 2) ++ if1 (q) 3) ++ if1 (o) 4) from by rw [eb]; simpa [if1] using HL4.out)
                  go_wp2_with (fail)
                  go_meet
                  exact HN.out
                · have hlen : ((((([] ++ if1 (!withinB A r.len.lo r.len.hi) 0) ++ if1 (!withinB B r.climb.lo r.climb.hi) 1) ++ if1 (p) 2) ++ if1 (q) 3) : List Int).length ≤ 4 := by simp only [List.length_append, List.length_nil]; have := if1_le (!withinB A r.len.lo r.len.hi) 0; have := if1_le (!withinB B r.climb.lo r.climb.hi) 1; have := if1_le (p) 2; have := if1_le (q) 3; omega
                  have hown := HL4.out.o
                  have hsz := HL4.out.b.size
                  have hsr := lt_of_block HL4.out.r
                  have HP := HL4
                  generalize (((([] ++ if1 (!withinB A r.len.lo r.len.hi) 0) ++ if1 (!withinB B r.climb.lo r.climb.hi) 1) ++ if1 (p) 2) ++ if1 (q) 3) = l0 at *
                  go_wp2_with (at_builtin; refine wpList_append_own _ rfl _ _ 27 rfl (w.heap.size + 1) 3 i0 (.int .i64 0) 1 8 Tryz.underlying27 hi hz0 hz1 hz2 rfl (by decide) _ _ _ rfl (hown.alloc _) ⟨W4.heap.size, 0, none⟩ 1 1 [.int .i64 4] rfl rfl ?c1 ?c2 ?c3 ?c4 ?c5 ?_)
                  case c1 => exact cell_one_new _ _ _
                  case c2 => intro u hu; simp at hu; subst hu; rfl
                  case c3 => unfold maxLen; omega
                  case c4 => omega
                  case c5 => simp; omega
                  intro v' w2 hown2 hgrow2 _
                  have HN : Hid (BL w r w2 v' (l0 ++ if1 (o) 4)) := by rw [eb]; exact HP.out.push hown2 hgrow2
                  clear hown2 hgrow2 hown
                  go_wp2_with (fail)
                  go_meet
                  exact HN.out
              case rest =>
                generalize u14 = s4 at hcut ⊢
                obtain ⟨W5, rfl⟩ : ∃ W, W = wc := ⟨_, rfl⟩
                have HL5 := Lib.hid hcut
                clear hcut
                have HQ := Lib.hid (rules_five (!withinB A r.len.lo r.len.hi) (!withinB B r.climb.lo r.climb.hi) p q o)
                have HJ := Lib.hid ((congrArg rulesL HE.out).trans HQ.out)
                obtain ⟨a', cap', rfl, hs', hfr⟩ := ints_of_owns HL5.out.o
                have HS := Lib.hid (And.intro hs' hfr)
                clear hs' hfr
                go_wp2_with (fail)
                go_ret
                exact ⟨a', cap', by rw [HJ.out]; rfl, by rw [HJ.out]; exact HS.out.1, fun p hp => by have := HS.out.2 p hp; omega, HL5.out.b⟩

set_option maxHeartbeats 2000000 in
set_option maxRecDepth 100000 in
theorem refBroken_any (a : Option Addr) (xs : List Lp) (cap : Nat) (r : Ru) (ac : Option Addr) (c : List Int) (ccap : Nat) (w : World) (hx : Sl 3 Lp.cells w a xs) (hc : IntSl w ac c)
    (hl : xs.length ≤ 1000000) (hcl : c.length ≤ 1000000) :
    Calls Tryz.prog 96 #[.slice a xs.length cap, r.v, .slice ac c.length ccap] w (OutIntsE w (brokenR xs r c).1 (brokenR xs r c).2) := by
  have hB0 : Below w.heap.size w (w.alloc (.cells #[.int .i64 r.laps, .int .i64 r.len.lo, .int .i64 r.len.hi, .int .i64 r.climb.lo, .int .i64 r.climb.hi, .int .i64 r.lap.lo, .int .i64 r.lap.hi, .int .i64 r.wide, .int .i64 r.uses] 36)) := (Below.refl _ _).alloc (Nat.le_refl _) _
  have hR0 : (w.alloc (.cells #[.int .i64 r.laps, .int .i64 r.len.lo, .int .i64 r.len.hi, .int .i64 r.climb.lo, .int .i64 r.climb.hi, .int .i64 r.lap.lo, .int .i64 r.lap.hi, .int .i64 r.wide, .int .i64 r.uses] 36)).heap[w.heap.size]? = some (.cells #[.int .i64 r.laps, .int .i64 r.len.lo, .int .i64 r.len.hi, .int .i64 r.climb.lo, .int .i64 r.climb.hi, .int .i64 r.lap.lo, .int .i64 r.lap.hi, .int .i64 r.wide, .int .i64 r.uses] 36 (0, 0)) := heap_alloc_new _ _
  have rl : (w.alloc (.cells #[.int .i64 r.laps, .int .i64 r.len.lo, .int .i64 r.len.hi, .int .i64 r.climb.lo, .int .i64 r.climb.hi, .int .i64 r.lap.lo, .int .i64 r.lap.hi, .int .i64 r.wide, .int .i64 r.uses] 36)).cell? ⟨w.heap.size, 0, none⟩ = some (.int .i64 r.laps) := blk_cell hR0 0 rfl
  clear rl
  go_enter Tryz.func96, Tryz.ntmps96
  go_wp2_with (fail)
  generalize w.alloc (.cells #[.int .i64 r.laps, .int .i64 r.len.lo, .int .i64 r.len.hi, .int .i64 r.climb.lo, .int .i64 r.climb.hi, .int .i64 r.lap.lo, .int .i64 r.lap.hi, .int .i64 r.wide, .int .i64 r.uses] 36) = W0 at hB0 hR0 ⊢
  have HX := Lib.hid (And.intro hx hc)
  clear hx hc
  refine (refCheck_any a xs cap r _ (HX.out.1.below hB0) hl).mono ?_
  rintro e w1 ⟨rfl, hb⟩
  have HB1 := Lib.hid (below_self hB0 hb)
  have HR1 := Lib.hid (blk_below hR0 hb)
  clear hB0 hR0 hb
  by_cases h1 : checkE xs r = 0
  · have h1b : (checkE xs r != 0) = false := by simp [h1]
    have hbr : Hid (brokenR xs r c = if courseE xs.length c = 0 then (if (c.length : Int) = r.laps then (rulesL (judgeM xs r c), 0) else ([], 2)) else ([], courseE xs.length c)) := by show _ = _; rw [brokenR, if_pos h1]
    have H1 := Lib.hid h1
    clear h1
    go_wp2_with (fail)
    refine (listed_any a xs cap ac c ccap _ (HX.out.2.below HB1.out) hl hcl).mono ?_
    rintro e w2 ⟨rfl, hb⟩
    have HB2 := Lib.hid (below_self HB1.out hb)
    have HR2 := Lib.hid (blk_below HR1.out hb)
    clear hb h1b
    by_cases h2 : courseE xs.length c = 0
    · have h2b : (courseE xs.length c != 0) = false := by simp [h2]
      have H2 := Lib.hid h2
      clear h2
      have r0 := blk_cell HR2.out 0 rfl
      by_cases h3 : (c.length : Int) = r.laps
      · have h3b : ((c.length : Int) != r.laps) = false := by simp [h3]
        have hbr2 : Hid (brokenR xs r c = (rulesL (judgeM xs r c), 0)) := by show _ = _; rw [hbr.out, if_pos H2.out, if_pos h3]
        clear h3
        have r1 := blk_cell HR2.out 1 rfl
        have r2 := blk_cell HR2.out 2 rfl
        have r3 := blk_cell HR2.out 3 rfl
        have r4 := blk_cell HR2.out 4 rfl
        have r5 := blk_cell HR2.out 5 rfl
        have r6 := blk_cell HR2.out 6 rfl
        have r7 := blk_cell HR2.out 7 rfl
        have r8 := blk_cell HR2.out 8 rfl
        go_wp2_with (fail)
        clear h2b h3b r0 r1 r2 r3 r4 r5 r6 r7 r8
        refine (refBroken_in a xs cap r ac c ccap _ (HX.out.1.below HB2.out) (HX.out.2.below HB2.out) (check_ok H1.out).1 H2.out).mono ?_
        rintro e w3 ⟨a', cap', rfl, hs', hfr, hb⟩
        have HO := Lib.hid (And.intro hs' (And.intro hfr hb))
        clear hs' hfr hb
        go_wp2_with (fail)
        go_ret2
        exact ⟨a', cap', by rw [hbr2.out]; rfl, by rw [hbr2.out]; exact HO.out.1, fun p hp => by have := HO.out.2.1 p hp; have := HB2.out.size; omega, below_self HB2.out HO.out.2.2⟩
      · have h3b : ((c.length : Int) != r.laps) = true := by simp [h3]
        have hbr2 : Hid (brokenR xs r c = ([], 2)) := by show _ = _; rw [hbr.out, if_pos H2.out, if_neg h3]
        clear h3
        go_wp2_with (fail)
        go_ret2
        rw [hbr2.out]
        exact OutIntsE.nil rfl HB2.out
    · have h2b : (courseE xs.length c != 0) = true := by simp [h2]
      have hbr2 : Hid (brokenR xs r c = ([], courseE xs.length c)) := by show _ = _; rw [hbr.out, if_neg h2]
      clear h2
      go_wp2_with (fail)
      go_ret2
      rw [hbr2.out]
      exact OutIntsE.nil rfl HB2.out
  · have h1b : (checkE xs r != 0) = true := by simp [h1]
    have hbr : Hid (brokenR xs r c = ([], checkE xs r)) := by show _ = _; rw [brokenR, if_neg h1]
    clear h1
    go_wp2_with (fail)
    go_ret2
    rw [hbr.out]
    exact OutIntsE.nil rfl HB1.out
end Go.Proofs.YtpkegiekpnaejaaGreat

namespace Go.Proofs.YtpkegiekpnaejaaGreat
open Go.RowKit Go.Shelf
attribute [local go_sem] Oper.semAt_some
theorem cells_new (w : World) (news : List Value) (t : TypeId) : ∀ j u, news[j]? = some u → (w.alloc (.cells news.toArray t)).cell? ((⟨w.heap.size, 0, none⟩ : Addr).add j) = some u := by
  intro j u hj
  have : (⟨w.heap.size, 0, none⟩ : Addr).add j = ⟨w.heap.size, j, none⟩ := by unfold Addr.add; split <;> simp_all
  rw [this]
  exact blk_cell (heap_alloc_new w _) j (by simpa using hj)

theorem Tryz.info32 : (Tryz.prog.info? 32).map (fun i => (i.zero, i.size, i.bytes)) = some (some (.agg #[.int .i64 0, .int .i64 0, .int .i64 0]), 3, 24) := by kernel_rfl
theorem Tryz.info132 : (Tryz.prog.info? 132).map (fun i => (i.zero, i.size, i.bytes)) = some (some (.agg #[.int .i64 0, .int .i64 0, .int .i64 0]), 3, 24) := by kernel_rfl

theorem Lp.cells_len (x : Lp) : (Lp.cells x).length = 3 := rfl
theorem flatP_len (xs : List Lp) : (xs.flatMap Lp.cells).length = xs.length * 3 := by
  induction xs with
  | nil => rfl
  | cons d ds ih => rw [List.flatMap_cons, List.length_append, ih, Lp.cells_len, List.length_cons]; omega
theorem flatP_get (ds : List Lp) : ∀ (j : Nat) (x : Lp) (i : Nat) (u : Int), ds[j]? = some x → (Lp.cells x)[i]? = some u → (ds.flatMap Lp.cells)[j * 3 + i]? = some u := by
  induction ds with
  | nil => intro j x i u hx _; simp at hx
  | cons d ds ih =>
    intro j x i u hx hu
    have hi : i < 3 := by
      rcases Nat.lt_or_ge i 3 with h | h
      · exact h
      · rw [List.getElem?_eq_none (by rw [Lp.cells_len]; exact h)] at hu; cases hu
    rw [List.flatMap_cons]
    cases j with
    | zero =>
      simp at hx; subst hx
      rw [Nat.zero_mul, Nat.zero_add, List.getElem?_append_left (by rw [Lp.cells_len]; exact hi)]
      exact hu
    | succ j =>
      rw [List.getElem?_append_right (by rw [Lp.cells_len]; omega), Lp.cells_len, show (j + 1) * 3 + i - 3 = j * 3 + i by omega]
      exact ih j x i u (by simpa using hx) hu
theorem lps_of_owns {W : World} {base : Nat} {t : TypeId} {v : Value} {ds : List Lp} (h : W.ownsRow base t 3 v ds.length ((ds.flatMap Lp.cells).map (Value.int .i64))) : ∃ a cap, v = .slice a ds.length cap ∧ Sl 3 Lp.cells W a ds ∧ (∀ p, a = some p → base ≤ p.block) := by
  rcases h.2 with ⟨rfl, h0⟩ | ⟨g, cap, cur, rfl, hb, hg, _⟩
  · exact ⟨none, 0, by rw [h0], (fun hp => by omega), (fun p hp => by cases hp)⟩
  · refine ⟨some ⟨g, 0, none⟩, cap, rfl, fun _ => ⟨g, 0, rfl, lt_of_block hg, fun j x i u hx hu => ?_⟩, (fun p hp => by cases hp; exact hb)⟩
    have hc := h.cells (g := g) rfl (j * 3 + i) (.int .i64 u) (by rw [List.getElem?_map, flatP_get ds j x i u hx hu]; rfl)
    have : (⟨g, 0, none⟩ : Addr).add (j * 3 + i) = ⟨g, 0 + j * 3 + i, none⟩ := by unfold Addr.add; split <;> simp_all
    rw [this] at hc
    exact hc

/-- A call that hands back a slice of loops; nothing that was there before it has turned. -/
def OutLps (w : World) (ys : List Lp) (e : Ending) (w' : World) : Prop := ∃ a cap, e = .returned (.slice a ys.length cap) ∧ Sl 3 Lp.cells w' a ys ∧ (∀ p, a = some p → w.heap.size ≤ p.block) ∧ Below w.heap.size w w'

set_option maxHeartbeats 1000000 in
theorem cloneLp_any (a : Option Addr) (ds : List Lp) (cap : Nat) (w : World) (hx : Sl 3 Lp.cells w a ds) (hna : a = none → ds.length = 0 ∧ cap = 0) (hl : ds.length ≤ 1000) :
    Calls Tryz.prog 11 #[.slice a ds.length cap] w (OutLps w ds) := by
  obtain ⟨i0, hi, hz0, hz1, hz2⟩ := info_parts Tryz.info32
  cases a with
  | none =>
    obtain ⟨h1, rfl⟩ := hna rfl
    have : ds = [] := List.eq_nil_of_length_eq_zero h1
    subst this
    have hap : ∀ w, (Builtin.append_ #[22, 22] 22 #[.slice none 0 0, .slice none 0 0]).run Tryz.prog w = .ok (.slice none 0 0) w := fun _ => by kernel_rfl
    clear hna
    show Calls Tryz.prog 11 #[.slice none 0 0] w _
    go_enter Tryz.func11, Tryz.ntmps11
    go_wp2
    go_ret
    exact ⟨none, 0, rfl, hx, (fun p hp => by cases hp), Below.refl _ _⟩
  | some ad =>
    have HC : Hid (∀ j u, ((ds.flatMap Lp.cells).map (Value.int .i64))[j]? = some u → w.cell? (ad.add j) = some u) := fun j u hu => by
      have hj : j < ds.length * 3 := by
        rcases Nat.lt_or_ge j (ds.length * 3) with h | h
        · exact h
        · rw [List.getElem?_eq_none (by rw [List.length_map, flatP_len]; exact h)] at hu; cases hu
      obtain ⟨b, off, e, hbs, hc⟩ := hx (by omega)
      cases e
      have hq : j / 3 < ds.length := by omega
      have e : (⟨b, off, none⟩ : Addr).add j = ⟨b, off + (j / 3) * 3 + j % 3, none⟩ := by
        rw [show off + (j / 3) * 3 + j % 3 = off + j by omega]
        unfold Addr.add; split <;> simp_all
      have hr : j % 3 < (Lp.cells ds[j / 3]).length := by rw [Lp.cells_len]; omega
      have h1 := hc (j / 3) ds[j / 3] (j % 3) _ (List.getElem?_eq_getElem hq) (List.getElem?_eq_getElem hr)
      have h2 := flatP_get ds (j / 3) ds[j / 3] (j % 3) _ (List.getElem?_eq_getElem hq) (List.getElem?_eq_getElem hr)
      rw [show j / 3 * 3 + j % 3 = j by omega] at h2
      rw [e, h1]
      rw [List.getElem?_map, h2] at hu
      simpa using hu
    have HLL := Lib.hid (flatP_len ds)
    clear hx hna
    go_enter Tryz.func11, Tryz.ntmps11
    go_wp2_with (at_builtin; refine wpList_append_own_at _ rfl _ _ 22 rfl w.heap.size 32 i0 (.agg #[.int .i64 0, .int .i64 0, .int .i64 0]) 3 24 Tryz.underlying22 hi hz0 hz1 hz2 rfl (by decide) (.slice none 0 0) 0 [] rfl ⟨rfl, .inl ⟨rfl, rfl⟩⟩ ad ds.length cap ((ds.flatMap Lp.cells).map (Value.int .i64)) rfl ?c0 ?c1 ?c2 ?c3 ?c4 ?c5 ?_)
    case c0 => rw [List.length_map]; exact HLL.out
    case c1 => exact HC.out
    case c2 => intro u hu; obtain ⟨x, _, rfl⟩ := List.mem_map.1 hu; rfl
    case c3 => unfold maxLen; omega
    case c4 => omega
    case c5 => exact Nat.le_refl _
    intro v' w2 hown2 hgrow2 _ _
    have hb3 : Below w.heap.size w w2 := (Below.refl _ w).grown hgrow2 (Nat.le_refl _) (fun j hj => by simp [Value.ownBlock] at hj)
    obtain ⟨a', c', rfl, hs, hf⟩ := lps_of_owns hown2
    have HO := Lib.hid (And.intro hs (And.intro hf hb3))
    clear hown2 hgrow2 hs hf hb3
    go_wp2
    go_ret
    exact ⟨a', c', rfl, HO.out⟩

set_option maxHeartbeats 1000000 in
theorem cloneInt_any (a : Option Addr) (xs : List Int) (cap : Nat) (w : World) (hx : IntSl w a xs) (hna : a = none → xs.length = 0 ∧ cap = 0) (hl : xs.length ≤ 1000) :
    Calls Tryz.prog 12 #[.slice a xs.length cap] w (OutInts w xs) := by
  obtain ⟨i0, hi, hz0, hz1, hz2⟩ := info_parts Tryz.info3
  cases a with
  | none =>
    obtain ⟨h1, rfl⟩ := hna rfl
    have : xs = [] := List.eq_nil_of_length_eq_zero h1
    subst this
    have hap : ∀ w, (Builtin.append_ #[27, 27] 27 #[.slice none 0 0, .slice none 0 0]).run Tryz.prog w = .ok (.slice none 0 0) w := fun _ => by kernel_rfl
    clear hna
    show Calls Tryz.prog 12 #[.slice none 0 0] w _
    go_enter Tryz.func12, Tryz.ntmps12
    go_wp2
    go_ret
    exact ⟨none, 0, rfl, hx, (fun p hp => by cases hp), Below.refl _ _⟩
  | some ad =>
    have HC : Hid (∀ j u, (xs.map (Value.int .i64))[j]? = some u → w.cell? (ad.add j) = some u) := fun j u hu => by
      have hj : j < xs.length := by
        rcases Nat.lt_or_ge j xs.length with h | h
        · exact h
        · rw [List.getElem?_eq_none (by rw [List.length_map]; exact h)] at hu; cases hu
      obtain ⟨b, off, e, hbs, hc⟩ := hx (by omega)
      cases e
      have e : (⟨b, off, none⟩ : Addr).add j = ⟨b, off + j, none⟩ := by unfold Addr.add; split <;> simp_all
      rw [e, hc j hj]
      rw [List.getElem?_map, List.getElem?_eq_getElem hj] at hu
      rw [List.getElem?_eq_getElem hj]
      simpa using hu
    clear hx hna
    go_enter Tryz.func12, Tryz.ntmps12
    go_wp2_with (at_builtin; refine wpList_append_own_at _ rfl _ _ 27 rfl w.heap.size 3 i0 (.int .i64 0) 1 8 Tryz.underlying27 hi hz0 hz1 hz2 rfl (by decide) (.slice none 0 0) 0 [] rfl ⟨rfl, .inl ⟨rfl, rfl⟩⟩ ad xs.length cap (xs.map (Value.int .i64)) rfl ?c0 ?c1 ?c2 ?c3 ?c4 ?c5 ?_)
    case c0 => rw [List.length_map, Nat.mul_one]
    case c1 => exact HC.out
    case c2 => intro u hu; obtain ⟨x, _, rfl⟩ := List.mem_map.1 hu; rfl
    case c3 => unfold maxLen; omega
    case c4 => omega
    case c5 => exact Nat.le_refl _
    intro v' w2 hown2 hgrow2 _ _
    have hb3 : Below w.heap.size w w2 := (Below.refl _ w).grown hgrow2 (Nat.le_refl _) (fun j hj => by simp [Value.ownBlock] at hj)
    obtain ⟨a', c', rfl, hs, hf⟩ := ints_of_owns hown2
    have HO := Lib.hid (And.intro hs (And.intro hf hb3))
    clear hown2 hgrow2 hs hf hb3
    go_wp2
    go_ret
    exact ⟨a', c', rfl, HO.out⟩

set_option maxHeartbeats 1000000 in
theorem numbers_any (a : Option Addr) (xs : List Int) (cap : Nat) (w : World) (hx : IntSl w a xs) (hl : xs.length ≤ 1000) :
    Calls Tryz.prog 97 #[.slice a xs.length cap] w (OutInts w xs) := by
  obtain ⟨i0, hi, hz0, hz1, hz2⟩ := info_parts Tryz.info3
  go_enter Tryz.func97, Tryz.ntmps97
  go_wp2
  go_loopw [3, 8] (fun v i wr => ∃ k : Nat, k ≤ xs.length ∧ i = .int .i64 k ∧ wr.ownsRow w.heap.size 3 1 v k ((xs.take k).map (Value.int .i64)) ∧ Below w.heap.size w wr) (fun _ i _ => xs.length - (intOf i).toNat)
  case atStart => exact ⟨0, Nat.zero_le _, rfl, World.ownsRow_nil _ _ _ _, Below.refl _ _⟩
  case round =>
    obtain ⟨k, hk, rfl, hown, hbw⟩ := hrel
    by_cases hlt : k < xs.length
    · obtain ⟨b, off, rfl, hbs, hc⟩ := hx (by omega)
      have hck := (hbw.cell (p := ⟨b, off + k, none⟩) hbs).trans (hc k hlt)
      rw [List.getElem?_eq_getElem hlt, Option.getD_some] at hck
      have HE : Hid ((xs.take (k + 1)).map (Value.int .i64) = (xs.map (Value.int .i64)).take k ++ [.int .i64 xs[k]]) := by show _ = _; rw [← List.map_take]; exact map_take_succ (Value.int .i64) xs k hlt
      clear hc
      generalize xs[k] = x at *
      have hsz := hbw.size
      go_wp2_with (at_builtin; refine wpList_append_own _ rfl _ _ 27 rfl w.heap.size 3 i0 (.int .i64 0) 1 8 Tryz.underlying27 hi hz0 hz1 hz2 rfl (by decide) _ _ _ rfl (hown.alloc _) ⟨wr.heap.size, 0, none⟩ 1 1 [.int .i64 x] rfl rfl ?c1 ?c2 ?c3 ?c4 ?c5 ?_)
      case c1 => exact cell_one_new _ _ _
      case c2 => intro u hu; simp at hu; subst hu; rfl
      case c3 => unfold maxLen; omega
      case c4 => omega
      case c5 => simp; omega
      intro v' w2 hown2 hgrow2 _
      have hb3 : Below w.heap.size w w2 := (hbw.alloc hbw.size _).grown hgrow2 (by simp; omega) (fun j hj => (hown.lt j hj).1)
      rw [← HE.out] at hown2
      have HO := Lib.hid (And.intro hown2 hb3)
      clear hown2 hgrow2 hown hck hb3
      go_wp2
      go_roundw
      case rel => exact ⟨k + 1, by omega, by go_num, HO.out⟩
      case measure => simp [intOf]; omega
    · have : k = xs.length := by omega
      subst this
      rw [List.take_length] at hown
      obtain ⟨a', cap', rfl, hs, hfr⟩ := ints_of_owns hown
      go_wp2
      go_ret
      exact ⟨a', cap', rfl, hs, hfr, hbw⟩

theorem cells_newP (w : World) (x : Lp) (t : TypeId) : ∀ j u, ((Lp.cells x).map (Value.int .i64))[j]? = some u → (w.alloc (.cells #[.int .i64 x.l, .int .i64 x.c, .int .i64 x.d] t)).cell? ((⟨w.heap.size, 0, none⟩ : Addr).add j) = some u := fun j u h => cells_new w [.int .i64 x.l, .int .i64 x.c, .int .i64 x.d] t j u h

set_option maxHeartbeats 2000000 in
theorem loops_any (a : Option Addr) (xs : List Lp) (cap : Nat) (w : World) (hx : Sl 3 Lp.cells w a xs) (hl : xs.length ≤ 1000) :
    Calls Tryz.prog 13 #[.slice a xs.length cap] w (OutLps w xs) := by
  obtain ⟨i0, hi, hz0, hz1, hz2⟩ := info_parts Tryz.info132
  go_enter Tryz.func13, Tryz.ntmps13
  go_wp2
  go_loopw [3, 8] (fun v i wr => ∃ k : Nat, k ≤ xs.length ∧ i = .int .i64 k ∧ wr.ownsRow w.heap.size 132 3 v k (((xs.take k).flatMap Lp.cells).map (Value.int .i64)) ∧ Below w.heap.size w wr) (fun _ i _ => xs.length - (intOf i).toNat)
  case atStart => exact ⟨0, Nat.zero_le _, rfl, World.ownsRow_nil _ _ _ _, Below.refl _ _⟩
  case round =>
    obtain ⟨k, hk, rfl, hown, hbw⟩ := hrel
    by_cases hlt : k < xs.length
    · obtain ⟨b, off, rfl, hbs, hc⟩ := hx (by omega)
      have hxk := List.getElem?_eq_getElem hlt
      have d0 : wr.cell? ⟨b, off + k * 3, none⟩ = some (.int .i64 xs[k].l) := (hbw.cell (p := ⟨b, off + k * 3 + 0, none⟩) hbs).trans (hc k xs[k] 0 _ hxk rfl)
      have d1 := (hbw.cell (p := ⟨b, off + k * 3 + 1, none⟩) hbs).trans (hc k xs[k] 1 _ hxk rfl)
      have d2 := (hbw.cell (p := ⟨b, off + k * 3 + 2, none⟩) hbs).trans (hc k xs[k] 2 _ hxk rfl)
      have HE : Hid (((xs.take (k + 1)).flatMap Lp.cells).map (Value.int .i64) = ((xs.take k).flatMap Lp.cells).map (Value.int .i64) ++ (Lp.cells xs[k]).map (Value.int .i64)) := by
        show _ = _
        rw [List.take_add_one, hxk, List.flatMap_append, List.map_append]
        simp
      clear hc hxk
      generalize xs[k] = x at *
      have hsz := hbw.size
      obtain ⟨Wx, hWx⟩ : ∃ Wx, wr.alloc (.cells #[.int .i64 x.l, .int .i64 x.c, .int .i64 x.d] 32) = Wx := ⟨_, rfl⟩
      have hbx : Below wr.heap.size wr Wx := by rw [← hWx]; exact (Below.refl _ _).alloc (Nat.le_refl _) _
      have HNX : Hid (Wx.heap[wr.heap.size]? = some (.cells #[.int .i64 x.l, .int .i64 x.c, .int .i64 x.d] 32 (0, 0))) := by rw [← hWx]; exact heap_alloc_new _ _
      have HBW := Lib.hid (below_self hbw hbx)
      have HOX := Lib.hid (owns_below hown hbx)
      go_upto_region 5 with (fail)
      clear hWx d0 d1 d2 hbw hown hbx
      have n0 := blk_cell HNX.out 0 rfl
      have n1 := blk_cell HNX.out 1 rfl
      have n2 := blk_cell HNX.out 2 rfl
      have hsx := HBW.out.size
      go_wp2_with (at_builtin; refine wpList_append_own_at _ rfl _ _ 34 rfl w.heap.size 132 i0 (.agg #[.int .i64 0, .int .i64 0, .int .i64 0]) 3 24 Tryz.underlying34 hi hz0 hz1 hz2 rfl (by decide) _ k (((xs.take k).flatMap Lp.cells).map (Value.int .i64)) rfl (HOX.out.alloc _) ⟨Wx.heap.size, 0, none⟩ 1 1 ((Lp.cells x).map (Value.int .i64)) rfl rfl (cells_newP _ x _) (by intro u hu; obtain ⟨x, _, rfl⟩ := List.mem_map.1 hu; rfl) (by unfold maxLen; omega) (by omega) (by simp; omega) ?_)
      intro v' w2 hown2 hgrow2 _ _
      have hb3 : Below w.heap.size w w2 := (HBW.out.alloc HBW.out.size _).grown hgrow2 (by simp; omega) (fun j hj => (HOX.out.lt j hj).1)
      rw [← HE.out] at hown2
      have HO := Lib.hid (And.intro hown2 hb3)
      clear hown2 hgrow2 n0 n1 n2 hb3
      go_wp2
      go_roundw
      case rel => exact ⟨k + 1, by omega, by go_num, HO.out⟩
      case measure => simp [intOf]; omega
    · have : k = xs.length := by omega
      subst this
      rw [List.take_length] at hown
      obtain ⟨a', cap', rfl, hs, hfr⟩ := lps_of_owns hown
      go_wp2
      go_ret
      exact ⟨a', cap', rfl, hs, hfr, hbw⟩

def eqLp (x y : Lp) : Bool := decide (x.l = y.l) && (decide (x.c = y.c) && decide (x.d = y.d))
theorem eqLp_self (x : Lp) : eqLp x x = true := by simp [eqLp]
theorem eq31 (a b c d e f : Int) (w : World) : (Op.equalIn 10000 32 (.agg #[.int .i64 a, .int .i64 b, .int .i64 c]) (.agg #[.int .i64 d, .int .i64 e, .int .i64 f])).run Tryz.prog w = .ok (decide (a = d) && (decide (b = e) && decide (c = f))) w := by
  rw [Op.equalIn]
  simp [go_sem]
  by_cases h1 : a = d <;> by_cases h2 : b = e <;> by_cases h3 : c = f <;> simp [h1, h2, h3]
theorem eq31_self (x : Lp) (w : World) : (Op.equalIn 10000 32 (.agg #[.int .i64 x.l, .int .i64 x.c, .int .i64 x.d]) (.agg #[.int .i64 x.l, .int .i64 x.c, .int .i64 x.d])).run Tryz.prog w = .ok true w := by
  rw [eq31]; simp

set_option maxHeartbeats 1000000 in
theorem equalLp_same (a : Option Addr) (xs : List Lp) (ca : Nat) (b : Option Addr) (cb : Nat) (w : World) (hx : Sl 3 Lp.cells w a xs) (hy : Sl 3 Lp.cells w b xs) (hl : xs.length ≤ 1000000) :
    Calls Tryz.prog 24 #[.slice a xs.length ca, .slice b xs.length cb] w fun e w' => e = .returned (.bool true) ∧ Below w.heap.size w w' := by
  have HX := Lib.hid (And.intro hx hy)
  clear hx hy
  go_enter Tryz.func24, Tryz.ntmps24
  go_wp2
  go_loopw [13] (fun i wr => ∃ k : Nat, k ≤ xs.length ∧ i = .int .i64 k ∧ Below w.heap.size w wr) (fun i _ => xs.length - (intOf i).toNat)
  case atStart => exact ⟨0, Nat.zero_le _, rfl, Below.refl _ _⟩
  case round =>
    obtain ⟨k, hk, rfl, hbw⟩ := hrel
    by_cases hlt : k < xs.length
    · obtain ⟨b1, o1, rfl, hb1, hc1⟩ := HX.out.1 (by omega)
      obtain ⟨b2, o2, rfl, hb2, hc2⟩ := HX.out.2 (by omega)
      have hxk := List.getElem?_eq_getElem hlt
      have d1 : wr.cell? ⟨b1, o1 + k * 3, none⟩ = some (.int .i64 xs[k].l) := (hbw.cell (p := ⟨b1, o1 + k * 3 + 0, none⟩) hb1).trans (hc1 k _ 0 _ hxk rfl)
      have d2 := (hbw.cell (p := ⟨b1, o1 + k * 3 + 1, none⟩) hb1).trans (hc1 k _ 1 _ hxk rfl)
      have d3 := (hbw.cell (p := ⟨b1, o1 + k * 3 + 2, none⟩) hb1).trans (hc1 k _ 2 _ hxk rfl)
      have d4 : wr.cell? ⟨b2, o2 + k * 3, none⟩ = some (.int .i64 xs[k].l) := (hbw.cell (p := ⟨b2, o2 + k * 3 + 0, none⟩) hb2).trans (hc2 k _ 0 _ hxk rfl)
      have d5 := (hbw.cell (p := ⟨b2, o2 + k * 3 + 1, none⟩) hb2).trans (hc2 k _ 1 _ hxk rfl)
      have d6 := (hbw.cell (p := ⟨b2, o2 + k * 3 + 2, none⟩) hb2).trans (hc2 k _ 2 _ hxk rfl)
      clear hc1 hc2 hxk
      generalize xs[k] = x at *
      have q31 := eq31_self x
      go_wp2_with fail
      go_quiet (fail)
      have hwd := below_drewN hbw nq
      go_wp2
      go_roundw
      case rel => exact ⟨k + 1, by omega, by go_num, hwd⟩
      case measure => simp [intOf]; omega
    · have : k = xs.length := by omega
      subst this
      go_wp2
      go_ret
      exact ⟨rfl, hbw⟩
end Go.Proofs.YtpkegiekpnaejaaGreat
