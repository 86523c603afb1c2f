/-
  The contracts of marks.rules and Broken over this seat's program.
  What is proved: what each call returns, and that nothing that was there before it has turned.
  Conditions: slices of at most 1000000 elements.
-/
import Derived.Test.YtkmcdmidegcbaaaG
namespace Go.Proofs.Ytkmcdmidegcbaaa
open Go.RowKit

theorem Try.info118 : (Try.prog.info? 118).map (fun i => (i.zero, i.size, i.bytes)) = some (some (.int .i64 0), 1, 8) := by kernel_rfl

def Mk.list (m : Mk) : List Bool := [m.a, m.b, m.c, m.d, m.e]
/-- The numbers of the first k rules that are broken. -/
def rulesTo (l : List Bool) : Nat → List Int
  | 0 => []
  | k + 1 => rulesTo l k ++ (if l[k]?.getD false = true then [(k : Int)] else [])
def rulesL (m : Mk) : List Int := rulesTo m.list 5

theorem rulesTo_le (l : List Bool) (k : Nat) : (rulesTo l k).length ≤ k := by
  induction k with
  | zero => simp [rulesTo]
  | succ k ih => simp only [rulesTo, List.length_append]; split <;> simp <;> omega

theorem ix0 (a b c d e : Bool) (w : World) : (Instr.index 130 (.agg #[.bool a, .bool b, .bool c, .bool d, .bool e]) (.int .i64 0)).run Try.prog w = .ok (.bool a) w := by kernel_rfl
theorem ix1 (a b c d e : Bool) (w : World) : (Instr.index 130 (.agg #[.bool a, .bool b, .bool c, .bool d, .bool e]) (.int .i64 1)).run Try.prog w = .ok (.bool b) w := by kernel_rfl
theorem ix2 (a b c d e : Bool) (w : World) : (Instr.index 130 (.agg #[.bool a, .bool b, .bool c, .bool d, .bool e]) (.int .i64 2)).run Try.prog w = .ok (.bool c) w := by kernel_rfl
theorem ix3 (a b c d e : Bool) (w : World) : (Instr.index 130 (.agg #[.bool a, .bool b, .bool c, .bool d, .bool e]) (.int .i64 3)).run Try.prog w = .ok (.bool d) w := by kernel_rfl
theorem ix4 (a b c d e : Bool) (w : World) : (Instr.index 130 (.agg #[.bool a, .bool b, .bool c, .bool d, .bool e]) (.int .i64 4)).run Try.prog w = .ok (.bool e) w := by kernel_rfl
theorem ixk (m : Mk) (k : Nat) (hk : k < 5) (w : World) : (Instr.index 130 (.agg #[.bool m.a, .bool m.b, .bool m.c, .bool m.d, .bool m.e]) (.int .i64 k)).run Try.prog w = .ok (.bool (m.list[k]?.getD false)) w := by
  match k, hk with
  | 0, _ => exact ix0 _ _ _ _ _ w
  | 1, _ => exact ix1 _ _ _ _ _ w
  | 2, _ => exact ix2 _ _ _ _ _ w
  | 3, _ => exact ix3 _ _ _ _ _ w
  | 4, _ => exact ix4 _ _ _ _ _ w

set_option maxHeartbeats 1000000 in
set_option maxRecDepth 100000 in
theorem rules_any (m : Mk) (w : World) :
    Calls Try.prog 77 #[m.v] w (OutInts w (rulesL m)) := by
  obtain ⟨i0, hi, hz0, hz1, hz2⟩ := info_parts Try.info118
  obtain ⟨l, hl⟩ : ∃ l, m.list = l := ⟨_, rfl⟩
  have HL := Lib.hid hl
  clear hl
  go_enter Try.func77, Try.ntmps77
  go_wp2
  go_loopw [3, 7] (fun v i wr => ∃ k : Nat, k ≤ 5 ∧ i = .int .i64 k ∧ wr.ownsRow w.heap.size 118 1 v (rulesTo l k).length ((rulesTo l k).map (Value.int .i64)) ∧ Below w.heap.size w wr) (fun _ i _ => 5 - (intOf i).toNat)
  case atStart => exact ⟨0, Nat.zero_le _, rfl, World.ownsRow_nil _ _ _ _, (Below.refl _ _).alloc (Nat.le_refl _) _⟩
  case round =>
    obtain ⟨k, hk, rfl, hown, hbw⟩ := hrel
    by_cases hlt : k < 5
    · have hix := ixk m k hlt
      rw [HL.out] at hix
      have hle := rulesTo_le l k
      cases hb : l[k]?.getD false
      · rw [hb] at hix
        have HF : Hid (rulesTo l (k + 1) = rulesTo l k) := by show _ = _; simp [rulesTo, hb]
        clear hb
        go_wp2
        go_roundw
        case rel => exact ⟨k + 1, by omega, by go_num, by rw [HF.out]; exact hown, hbw⟩
        case measure => simp [intOf]; omega
      · rw [hb] at hix
        have HF : Hid (rulesTo l (k + 1) = rulesTo l k ++ [(k : Int)]) := by show _ = _; simp [rulesTo, hb]
        clear hb
        go_wp2_with (at_builtin; refine wpList_append_own _ rfl _ _ 39 rfl w.heap.size 118 i0 (.int .i64 0) 1 8 Try.underlying39 hi hz0 hz1 hz2 rfl (by decide) _ _ _ rfl (hown.alloc _) ⟨wr.heap.size, 0, none⟩ 1 1 [.int .i64 (k : Int)] rfl rfl ?c1 ?c2 ?c3 ?c4 ?c5 ?_)
        case c1 => exact cell_one_new _ _ _
        case c2 => intro u hu; simp at hu; subst hu; rfl
        case c3 => unfold maxLen; omega
        case c4 => omega
        case c5 => have := hbw.size; simp; omega
        intro v' w2 hown2 hgrow2 _
        have hb3 : Below w.heap.size w w2 := (hbw.alloc hbw.size _).grown hgrow2 (by have := hbw.size; simp; omega) (fun j hj => (hown.lt j hj).1)
        have hown3 : w2.ownsRow w.heap.size 118 1 v' (rulesTo l (k + 1)).length ((rulesTo l (k + 1)).map (Value.int .i64)) := by
          rw [HF.out, List.length_append, List.map_append]; exact hown2
        clear hown2 hgrow2 hown hix
        go_wp2
        go_roundw
        case rel => exact ⟨k + 1, by omega, by go_num, hown3, hb3⟩
        case measure => simp [intOf]; omega
    · have : k = 5 := by omega
      subst this
      obtain ⟨a', cap', rfl, hs, hfr⟩ := ints_of_owns hown
      go_wp2
      go_ret
      exact ⟨a', cap', by rw [rulesL, HL.out]; rfl, by rw [rulesL, HL.out]; exact hs, hfr, hbw⟩

/-- A call that hands back a slice of integers and an error; nothing that was there before it has turned. -/
def OutIntsE (w : World) (ys : List Int) (err : Int) (e : Ending) (w' : World) : Prop := ∃ a cap, e = .returned (.tuple #[.slice a ys.length cap, .int .i64 err]) ∧ IntSl w' a ys ∧ (∀ p, a = some p → w.heap.size ≤ p.block) ∧ Below w.heap.size w w'

theorem OutIntsE.nil {w w' : World} {err : Int} {e : Ending} (he : e = .returned (.tuple #[.slice none 0 0, .int .i64 err])) (hb : Below w.heap.size w w') : OutIntsE w [] err e w' :=
  ⟨none, 0, he, (fun h => by simp at h), (fun p h => by cases h), hb⟩

def brokenR (xs : List Lp) (r : Ru) (c : List Int) : List Int × Int :=
  if checkE xs r = 0 then (if courseE xs.length c = 0 then (if (c.length : Int) = r.laps then (rulesL (judgeM xs r c), 0) else ([], 2)) else ([], courseE xs.length c)) else ([], checkE xs r)

theorem stad_ok {xs : List Lp} (h : stadE xs = 0) : xs.all allowedB = true ∧ 1 ≤ xs.length ∧ xs.length ≤ 12 := by
  unfold stadE at h
  split at h
  · rename_i h1
    split at h
    · rename_i h2; simp [withinB] at h1; exact ⟨h2, by omega, by omega⟩
    · omega
  · omega
theorem check_ok {xs : List Lp} {r : Ru} (h : checkE xs r = 0) : stadE xs = 0 ∧ rulesB r = true := by
  unfold checkE at h
  split at h
  · rename_i h1
    split at h
    · rename_i h2; exact ⟨h1, h2⟩
    · omega
  · rename_i h1; exact absurd h h1
theorem course_ok {n : Int} {c : List Int} (h : courseE n c = 0) : 1 ≤ c.length ∧ c.length ≤ 6 ∧ (∀ i ∈ c, 0 ≤ i ∧ i < n) ∧ sortedB c = true := by
  unfold courseE at h
  split at h
  · rename_i h1
    split at h
    · rename_i h2
      split at h
      · rename_i h3
        simp [withinB] at h1
        refine ⟨by omega, by omega, fun i hi => ?_, h3⟩
        have := List.all_eq_true.1 h2 i hi
        simp [withinB] at this; omega
      · omega
    · omega
  · omega

set_option maxHeartbeats 1000000 in
set_option maxRecDepth 100000 in
theorem broken_any (a : Option Addr) (xs : List Lp) (cap : Nat) (r : Ru) (ac : Option Addr) (c : List Int) (ccap : Nat) (w : World) (hx : Sl 3 Lp.cells w a xs) (hc : IntSl w ac c)
    (hl : xs.length ≤ 1000000) (hcl : c.length ≤ 1000000) :
    Calls Try.prog 21 #[.slice a xs.length cap, r.v, .slice ac c.length ccap] w (OutIntsE w (brokenR xs r c).1 (brokenR xs r c).2) := by
  have hB0 : Below w.heap.size w (w.alloc (.cells #[.int .i64 r.laps, .int .i64 r.len.lo, .int .i64 r.len.hi, .int .i64 r.climb.lo, .int .i64 r.climb.hi, .int .i64 r.lap.lo, .int .i64 r.lap.hi, .int .i64 r.wide, .int .i64 r.uses] 26)) := (Below.refl _ _).alloc (Nat.le_refl _) _
  have hR0 : RuAt (w.alloc (.cells #[.int .i64 r.laps, .int .i64 r.len.lo, .int .i64 r.len.hi, .int .i64 r.climb.lo, .int .i64 r.climb.hi, .int .i64 r.lap.lo, .int .i64 r.lap.hi, .int .i64 r.wide, .int .i64 r.uses] 26)) w.heap.size r := heap_alloc_new _ _
  go_enter Try.func21, Try.ntmps21
  go_wp2_with fail
  generalize w.alloc (.cells #[.int .i64 r.laps, .int .i64 r.len.lo, .int .i64 r.len.hi, .int .i64 r.climb.lo, .int .i64 r.climb.hi, .int .i64 r.lap.lo, .int .i64 r.lap.hi, .int .i64 r.wide, .int .i64 r.uses] 26) = W0 at hB0 hR0 ⊢
  refine (check_any a xs cap r _ (hx.below hB0) hl).mono ?_
  rintro e w1 ⟨rfl, hb⟩
  have hb1 := below_self hB0 hb
  have hR1 := hR0.below hb
  by_cases h1 : checkE xs r = 0
  · have h1b : (checkE xs r != 0) = false := by simp [h1]
    have hbr : Hid (brokenR xs r c = if courseE xs.length c = 0 then (if (c.length : Int) = r.laps then (rulesL (judgeM xs r c), 0) else ([], 2)) else ([], courseE xs.length c)) := by show _ = _; rw [brokenR, if_pos h1]
    have H1 := Lib.hid h1
    clear h1
    go_wp2_with fail
    refine (checkCourse_any xs.length ac c ccap _ (hc.below hb1) hcl (by omega)).mono ?_
    rintro e w2 ⟨rfl, hb'⟩
    have hb2 := below_self hb1 hb'
    have hR2 := hR1.below hb'
    by_cases h2 : courseE xs.length c = 0
    · have h2b : (courseE xs.length c != 0) = false := by simp [h2]
      have H2 := Lib.hid h2
      have hbr2 : Hid (brokenR xs r c = if (c.length : Int) = r.laps then (rulesL (judgeM xs r c), 0) else ([], 2)) := by show _ = _; rw [hbr.out, if_pos h2]
      clear h2
      obtain ⟨c0, c1, c2, c3, c4, c5, c6, c7, c8⟩ := hR2.cells
      by_cases h3 : (c.length : Int) = r.laps
      · have h3b : ((c.length : Int) != r.laps) = false := by simp [h3]
        have hbr3 : Hid (brokenR xs r c = (rulesL (judgeM xs r c), 0)) := by show _ = _; rw [hbr2.out, if_pos h3]
        clear h3
        go_wp2_with fail
        obtain ⟨k1, k2, k3, k4⟩ := course_ok H2.out
        have HK := Lib.hid k3
        clear k3 k4
        refine (judge_any a xs cap r ac c ccap _ (hx.below hb2) (hc.below hb2) hl hcl (stad_ok (check_ok H1.out).1).1 HK.out).mono ?_
        rintro e w3 ⟨rfl, hb3⟩
        have hb4 := below_self hb2 hb3
        go_wp2_with fail
        refine (rules_any (judgeM xs r c) _).mono ?_
        rintro e w4 ⟨a4, cap4, rfl, hI, hf, hb5⟩
        have hb6 := below_self hb4 hb5
        have hf6 : Hid (∀ p, a4 = some p → w.heap.size ≤ p.block) := fun p hp => Nat.le_trans hb4.size (hf p hp)
        clear hf
        go_wp2
        go_ret2
        rw [hbr3.out]
        exact ⟨a4, cap4, rfl, hI, hf6.out, hb6⟩
      · have h3b : ((c.length : Int) != r.laps) = true := by simp [h3]
        have hbr3 : Hid (brokenR xs r c = ([], 2)) := by show _ = _; rw [hbr2.out, if_neg h3]
        clear h3
        go_wp2
        go_ret2
        rw [hbr3.out]
        exact OutIntsE.nil rfl hb2
    · have h2b : (courseE xs.length c != 0) = true := by simp [h2]
      have hbr3 : Hid (brokenR xs r c = ([], courseE xs.length c)) := by show _ = _; rw [hbr.out, if_neg h2]
      clear h2
      go_wp2
      go_ret2
      rw [hbr3.out]
      exact OutIntsE.nil rfl hb2
  · have h1b : (checkE xs r != 0) = true := by simp [h1]
    have hbr3 : Hid (brokenR xs r c = ([], checkE xs r)) := by show _ = _; rw [brokenR, if_neg h1]
    clear h1
    go_wp2
    go_ret2
    rw [hbr3.out]
    exact OutIntsE.nil rfl hb1
end Go.Proofs.Ytkmcdmidegcbaaa
