/-
Courses as numbers, one digit for each lap.
  What is proved: the numbers whose digits are a course give just the courses, in lexicographic order.
  Conditions: from 1 to 6 laps, at least one loop.
The contracts of many, and of the reference's earlier, over this seat's program.
  What is proved: what each call returns; nothing that was there before has turned.
  Conditions: slices of at most 1000000 elements.
-/
import Derived.Test.YtpkegiekpnaejaaGreatPart13
namespace Go.Proofs.YtpkegiekpnaejaaGreat
open Go.RowKit

/-- All lists of so many digits, in lexicographic order. -/
def allC (L : Nat) : Nat → List (List Int)
  | 0 => [[]]
  | d + 1 => ((List.range L).map (fun (i : Nat) => (allC L d).map (fun t => (i : Int) :: t))).flatten
/-- The digits of a number, so many, the first one first. -/
def digs (L : Nat) : Nat → Nat → List Int
  | 0, _ => []
  | d + 1, n => ((n / L ^ d % L : Nat) : Int) :: digs L d n
theorem digs_len (L d n : Nat) : (digs L d n).length = d := by
  induction d with
  | zero => rfl
  | succ d ih => simp [digs, ih]
theorem digs_more (L : Nat) (h : 0 < L) (d k i m : Nat) (hk : d ≤ k) : digs L d (i * L ^ k + m) = digs L d m := by
  induction d with
  | zero => rfl
  | succ d ih =>
    have e : i * L ^ k = L ^ d * (L * (i * L ^ (k - d - 1))) := by
      have : L ^ k = L ^ d * (L * L ^ (k - d - 1)) := by
        rw [← Nat.pow_succ', ← Nat.pow_add]; congr 1; omega
      rw [this, Nat.mul_left_comm, Nat.mul_left_comm i L]
    have e2 : (i * L ^ k + m) / L ^ d % L = m / L ^ d % L := by
      rw [e, Nat.mul_add_div (Nat.pow_pos h), Nat.mul_add_mod]
    rw [digs, digs, e2, ih (by omega)]
theorem digs_get (L d n p : Nat) (hp : p < d) : (digs L d n)[p]? = some ((n / L ^ (d - 1 - p) % L : Nat) : Int) := by
  induction d generalizing p with
  | zero => omega
  | succ d ih =>
    cases p with
    | zero => simp [digs]
    | succ p => rw [digs, List.getElem?_cons_succ, ih p (by omega), show d + 1 - 1 - (p + 1) = d - 1 - p by omega]
theorem range_mul (N : Nat) : ∀ L : Nat, List.range (L * N) = ((List.range L).map (fun i => (List.range N).map (fun m => i * N + m))).flatten
  | 0 => by simp
  | L + 1 => by
    rw [Nat.succ_mul, List.range_add, range_mul N L, List.range_succ, List.map_append, List.flatten_append]
    simp
theorem all_digs (L : Nat) (h : 0 < L) : ∀ d : Nat, (List.range (L ^ d)).map (digs L d) = allC L d
  | 0 => rfl
  | d + 1 => by
    rw [Nat.pow_succ', range_mul, List.map_flatten, List.map_map, allC, ← all_digs L h d]
    congr 1
    apply List.map_congr_left
    intro i hi
    simp only [Function.comp_apply, List.map_map]
    apply List.map_congr_left
    intro m hm
    have hi' := List.mem_range.1 hi
    have hm' := List.mem_range.1 hm
    simp only [Function.comp_apply]
    rw [digs, digs_more L h d d i m (Nat.le_refl _)]
    congr 2
    rw [Nat.mul_comm, Nat.mul_add_div (Nat.pow_pos h), Nat.div_eq_of_lt hm', Nat.add_zero, Nat.mod_eq_of_lt hi']
/-- A list does not fall, from a number on. -/
def sf : Int → List Int → Bool
  | _, [] => true
  | m, x :: t => decide (m ≤ x) && sf x t
theorem ext_all (L : Nat) : ∀ (d : Nat) (cur : List Int) (least : Nat), least ≤ L → extC L d cur least = ((allC L d).filter (sf least)).map (fun t => cur ++ t)
  | 0, cur, least, _ => by rw [extC, allC]; show [cur] = List.map (fun t => cur ++ t) [[]]; simp
  | d + 1, cur, least, h => by
    have e : List.range L = List.range least ++ List.range' least (L - least) := by
      rw [List.range_eq_range', List.range_eq_range', show L = least + (L - least) by omega, ← List.range'_append_1, Nat.zero_add, show least + (L - least) - least = L - least by omega]
    rw [extC, allC, e, List.map_append, List.flatten_append, List.filter_append, List.map_append]
    have z : List.filter (sf least) ((List.range least).map (fun (i : Nat) => (allC L d).map (fun t => (i : Int) :: t))).flatten = [] := by
      rw [List.filter_eq_nil_iff]
      intro c hc
      simp only [List.mem_flatten, List.mem_map, List.mem_range] at hc
      obtain ⟨l, ⟨i, hi, rfl⟩, hc⟩ := hc
      obtain ⟨t, _, rfl⟩ := List.mem_map.1 hc
      simp only [sf, Bool.and_eq_true, decide_eq_true_eq]
      intro h; omega
    rw [z, List.map_nil, List.nil_append, List.filter_flatten, List.map_flatten, List.map_map, List.map_map]
    congr 1
    apply List.map_congr_left
    intro i hi
    have hi' := List.mem_range'_1.1 hi
    rw [ext_all L d _ i (by omega)]
    simp only [Function.comp_apply, List.filter_map, List.map_map]
    have : (sf (least : Int) ∘ fun t => (i : Int) :: t) = sf (i : Int) := by
      funext t
      simp only [Function.comp_apply, sf]
      rw [show decide ((least : Int) ≤ (i : Int)) = true from decide_eq_true (by omega), Bool.true_and]
    rw [this]
    apply List.map_congr_left
    intro t _
    simp
theorem allC_mem (L : Nat) : ∀ (d : Nat) (c : List Int), c ∈ allC L d → c.length = d ∧ ∀ i ∈ c, 0 ≤ i ∧ i < (L : Int)
  | 0, c, h => by simp [allC] at h; subst h; simp
  | d + 1, c, h => by
    simp only [allC, List.mem_flatten, List.mem_map, List.mem_range] at h
    obtain ⟨l, ⟨i, hi, rfl⟩, hc⟩ := h
    obtain ⟨t, ht, rfl⟩ := List.mem_map.1 hc
    obtain ⟨h1, h2⟩ := allC_mem L d t ht
    refine ⟨by simp [h1], fun x hx => ?_⟩
    rcases List.mem_cons.1 hx with rfl | hx
    · omega
    · exact h2 x hx
theorem sorted_iff (c : List Int) : sortedB c = true ↔ ∀ j, j + 1 < c.length → c[j]?.getD 0 ≤ c[j + 1]?.getD 0 := by
  simp only [sortedB, List.all_eq_true, List.mem_range, decide_eq_true_eq]
  exact ⟨fun h j hj => h j (by omega), fun h j hj => h j (by omega)⟩
theorem sf_sorted : ∀ (c : List Int) (m : Int), sf m c = true ↔ (∀ x, c[0]? = some x → m ≤ x) ∧ sortedB c = true
  | [], m => by simp [sf, sorted_iff]
  | x :: t, m => by
    rw [sf, Bool.and_eq_true, sf_sorted t x, decide_eq_true_eq, sorted_iff, sorted_iff]
    constructor
    · rintro ⟨h1, h2, h3⟩
      refine ⟨fun y hy => by simp at hy; omega, fun j hj => ?_⟩
      cases j with
      | zero =>
        cases t with
        | nil => simp at hj
        | cons y t => simpa using h2 y rfl
      | succ j => simpa using h3 j (by simpa using hj)
    · rintro ⟨h1, h2⟩
      refine ⟨h1 x rfl, fun y hy => ?_, fun j hj => by simpa using h2 (j + 1) (by simpa using hj)⟩
      cases t with
      | nil => simp at hy
      | cons z t =>
        have := h2 0 (by simp)
        simp at hy this
        omega
theorem course_sf (L d : Nat) (hd : 1 ≤ d ∧ d ≤ 6) (c : List Int) (hc : c ∈ allC L d) : (courseE L c == 0) = sf 0 c := by
  obtain ⟨h1, h2⟩ := allC_mem L d c hc
  have a1 : withinB c.length 1 6 = true := by simp [withinB]; omega
  have a2 : c.all (fun i => withinB i 0 ((L : Int) - 1)) = true := by
    rw [List.all_eq_true]; intro i hi; have := h2 i hi; simp [withinB]; omega
  rw [courseE, if_pos a1, if_pos a2]
  have hs : sf 0 c = sortedB c := by
    rw [Bool.eq_iff_iff, sf_sorted]
    exact ⟨fun h => h.2, fun h => ⟨fun x hx => (h2 x (List.mem_of_getElem? hx)).1, h⟩⟩
  rw [hs]
  cases sortedB c <;> rfl
/-- The courses among the first numbers. -/
def numC (L d n : Nat) : List (List Int) := ((List.range n).map (digs L d)).filter (fun c => courseE L c == 0)
theorem numC_succ (L d n : Nat) : numC L d (n + 1) = numC L d n ++ if (courseE L (digs L d n) == 0) = true then [digs L d n] else [] := by
  rw [numC, List.range_succ, List.map_append, List.filter_append, numC]
  congr 1
  simp [List.filter_cons]
theorem numC_all (L d : Nat) (hL : 0 < L) (hd : 1 ≤ d ∧ d ≤ 6) : numC L d (L ^ d) = extC L d [] 0 := by
  rw [numC, all_digs L hL, ext_all L d [] 0 (Nat.zero_le _)]
  simp only [List.nil_append, List.map_id']
  apply List.filter_congr
  intro c hc
  rw [course_sf L d hd c hc]
  rfl
theorem numC_len (L d n : Nat) : (numC L d n).length ≤ n := by
  rw [numC]; exact Nat.le_trans (List.length_filter_le _ _) (by simp)
theorem pow_le (L d : Nat) (hL : 1 ≤ L ∧ L ≤ 12) (hd : d ≤ 6) : L ^ d ≤ 2985984 := by
  have h1 : L ^ d ≤ 12 ^ d := Nat.pow_le_pow_left hL.2 d
  have h2 : (12 : Nat) ^ d ≤ 12 ^ 6 := Nat.pow_le_pow_right (by omega) hd
  omega
end Go.Proofs.YtpkegiekpnaejaaGreat

namespace Go.Proofs.YtpkegiekpnaejaaGreat
open Go.RowKit Go.Shelf
attribute [local go_sem] Oper.semAt_some

set_option maxHeartbeats 1000000 in
theorem earlier_any (a : Option Addr) (xs : List Int) (ca : Nat) (b : Option Addr) (ys : List Int) (cb : Nat) (w : World) (hx : IntSl w a xs) (hy : IntSl w b ys) (hl : xs.length ≤ 1000000) :
    Calls Tryz.prog 142 #[.slice a xs.length ca, .slice b ys.length cb] w fun e w' => e = .returned (.bool (beforeB xs ys)) ∧ Below w.heap.size w w' := by
  have HX := Lib.hid (And.intro hx hy)
  clear hx hy
  by_cases hlen : xs.length = ys.length
  · have hlb : ((xs.length : Int) != (ys.length : Int)) = false := by simp; omega
    have HR : Hid (beforeB xs ys = decide (cmpL xs ys < 0)) := by show _ = _; rw [beforeB, if_pos hlen]
    have HL := Lib.hid hlen
    clear hlen
    go_enter Tryz.func142, Tryz.ntmps142
    go_wp2_with (fail)
    clear hlb
    go_loopw [5] (fun i wr => ∃ k : Nat, k ≤ xs.length ∧ i = .int .i64 k ∧ Hid (cmpL xs ys = cmpL (xs.drop k) (ys.drop k)) ∧ Below w.heap.size w wr) (fun i _ => xs.length - (intOf i).toNat)
    case atStart => exact ⟨0, Nat.zero_le _, rfl, rfl, Below.refl _ _⟩
    case round =>
      obtain ⟨k, hk, rfl, hc, hbw⟩ := hrel
      by_cases hlt : k < xs.length
      · obtain ⟨b1, o1, rfl, hb1, hc1⟩ := HX.out.1 (by omega)
        have d1 := (hbw.cell (p := ⟨b1, o1 + k, none⟩) hb1).trans (hc1 k hlt)
        have hlt2 : k < ys.length := by have := HL.out; omega
        obtain ⟨b2, o2, rfl, hb2, hc2⟩ := HX.out.2 (by omega)
        have d2 := (hbw.cell (p := ⟨b2, o2 + k, none⟩) hb2).trans (hc2 k hlt2)
        clear hc1 hc2
        have HA := Lib.hid (hc.out.trans (cmpL_at hlt hlt2))
        have HLT := Lib.hid (And.intro hlt hlt2)
        generalize xs[k]?.getD 0 = xk at d1 HA
        generalize ys[k]?.getD 0 = yk at d2 HA
        by_cases he : xk = yk
        · have heb : (xk != yk) = false := by simp [he]
          have HA2 : Hid (cmpL xs ys = cmpL (xs.drop (k + 1)) (ys.drop (k + 1))) := by show _ = _; rw [HA.out, if_pos (by simp [cmpI, he])]
          clear he
          go_upto_region 6 with (fail)
          go_quiet (fail)
          have hwd := Lib.hid (below_drewN hbw nq)
          go_wp2_with (fail)
          go_roundw
          case rel => exact ⟨k + 1, by omega, by go_num, HA2, hwd.out⟩
          case measure => simp [intOf]; omega
        · have heb : (xk != yk) = true := by simp [he]
          have HA2 : Hid (decide (cmpL xs ys < 0) = decide (xk < yk)) := by
            show _ = _
            rw [HA.out]
            by_cases h1 : xk < yk
            · simp [cmpI, h1]
            · have h2 : yk < xk := by omega
              simp [cmpI, h1, h2]
          clear he
          go_upto_region 6 with (fail)
          go_quiet (fail)
          have hwd := Lib.hid (below_drewN hbw nq)
          go_upto_region 7 with (fail)
          go_quiet (fail)
          have hwd2 := Lib.hid (below_drewN hwd.out nq)
          go_wp2_with (fail)
          go_ret
          exact ⟨by rw [HR.out, HA2.out]; rfl, hwd2.out⟩
      · have hkk : k = xs.length := by omega
        subst hkk
        have HA : Hid (decide (cmpL xs ys < 0) = false) := by
          show _ = _
          rw [hc.out.trans cmpL_end, if_neg (by have := HL.out; omega)]; rfl
        go_wp2_with (fail)
        go_ret
        exact ⟨by rw [HR.out, HA.out]; rfl, hbw⟩
  · have hlb : ((xs.length : Int) != (ys.length : Int)) = true := by simp; omega
    have HR : Hid (beforeB xs ys = decide (xs.length < ys.length)) := by show _ = _; rw [beforeB, if_neg hlen]
    clear hlen
    go_enter Tryz.func142, Tryz.ntmps142
    go_wp2_with (fail)
    go_ret
    exact ⟨by rw [HR.out]; rfl, Below.refl _ _⟩

/-- What many hands back. -/
def ManyOut (w : World) (n : Nat) (e : Ending) (w' : World) : Prop := ∃ b : Bool, e = .returned (.bool b) ∧ (b = false → n ≤ 15) ∧ Below w.heap.size w w'
set_option maxHeartbeats 1000000 in
theorem many_any (a : Option Addr) (n cap : Nat) (r : Ru) (w : World) :
    Calls Tryz.prog 9 #[.slice a n cap, r.v] w (ManyOut w n) := by
  have hB0 : Below w.heap.size w (w.alloc (.cells #[.int .i64 r.laps, .int .i64 r.len.lo, .int .i64 r.len.hi, .int .i64 r.climb.lo, .int .i64 r.climb.hi, .int .i64 r.lap.lo, .int .i64 r.lap.hi, .int .i64 r.wide, .int .i64 r.uses] 26)) := (Below.refl _ _).alloc (Nat.le_refl _) _
  have hR0 : (w.alloc (.cells #[.int .i64 r.laps, .int .i64 r.len.lo, .int .i64 r.len.hi, .int .i64 r.climb.lo, .int .i64 r.climb.hi, .int .i64 r.lap.lo, .int .i64 r.lap.hi, .int .i64 r.wide, .int .i64 r.uses] 26)).heap[w.heap.size]? = some (.cells #[.int .i64 r.laps, .int .i64 r.len.lo, .int .i64 r.len.hi, .int .i64 r.climb.lo, .int .i64 r.climb.hi, .int .i64 r.lap.lo, .int .i64 r.lap.hi, .int .i64 r.wide, .int .i64 r.uses] 26 (0, 0)) := heap_alloc_new _ _
  go_enter Tryz.func9, Tryz.ntmps9
  by_cases h15 : 15 < n
  · have g1 : decide (15 < n) = true := decide_eq_true h15
    go_wp2_with (fail)
    go_ret
    exact ⟨true, rfl, (fun h => by cases h), hB0⟩
  · have g1 : decide (15 < n) = false := decide_eq_false h15
    have HN : Hid (n ≤ 15) := by show n ≤ 15; omega
    go_wp2_with (fail)
    all_goals (
      clear g1
      go_loop [5, 13] (fun n i => ∃ (x : Int) (k : Nat), n = .int .i64 x ∧ i = .int .i64 k ∧ k ≤ 7) (fun _ i => 8 - (intOf i).toNat) 
      case atStart => exact ⟨1, 0, rfl, rfl, by omega⟩
      case round =>
        obtain ⟨x, k, rfl, rfl, hk⟩ := hrel
        go_wp2_with (fail)
        all_goals first
          | (go_round
             case rel => exact ⟨_, k + 1, rfl, by go_num, by omega⟩
             case measure => simp [intOf]; omega)
          | (go_ret
             exact ⟨_, rfl, fun _ => HN.out, hB0⟩))
end Go.Proofs.YtpkegiekpnaejaaGreat
