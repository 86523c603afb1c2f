/-
  The contracts of checkCourse and Check over this seat's program.
  What is proved: what each call returns, and that nothing that was there before it has turned.
  Conditions: slices of at most 1000000 elements.
-/
import Derived.Test.YtkmcdmidegcbaaaC
namespace Go.Proofs.Ytkmcdmidegcbaaa
open Go.RowKit

set_option maxHeartbeats 400000 in
theorem checkCourse_any (n : Int) (a : Option Addr) (c : List Int) (cap : Nat) (w : World) (hx : IntSl w a c) (hl : c.length ≤ 1000000) (hn : -1000000000 ≤ n ∧ n ≤ 1000000000) :
    Calls Try.prog 75 #[.int .i64 n, .slice a c.length cap] w fun e w' => e = .returned (.int .i64 (courseE n c)) ∧ Below w.heap.size w w' := by
  have hB0 : Below w.heap.size w (w.alloc (.cells #[.int .i64 n] 3)) := (Below.refl _ _).alloc (Nat.le_refl _) _
  cases h1 : withinB c.length 1 6
  · go_enter Try.func75, Try.ntmps75
    go_wp2_with (go_at_call 71; refine (within_any _ _ _ _).mono ?_; rintro e w' ⟨rfl, rfl⟩)
    go_ret
    exact ⟨ret_int (by simp [courseE, h1]), hB0⟩
  · have hc0 : (w.alloc (.cells #[.int .i64 n] 3)).cell? ⟨w.heap.size, 0, none⟩ = some (.int .i64 n) := World.cell?_alloc_at _ _ _ _ rfl
    go_enter Try.func75, Try.ntmps75
    go_wp2_with (go_at_call 71; refine (within_any _ _ _ _).mono ?_; rintro e w' ⟨rfl, rfl⟩)
    refine (every_int a c cap 112 #[.pointer (some ⟨w.heap.size, 0, none⟩)] (fun i => withinB i 0 (n - 1)) _ (hx.below hB0) hl eg112 (fun x _ W hW => (checkCourse1_any x n w.heap.size W ((hW.cell (p := ⟨w.heap.size, 0, none⟩) (by simp)).trans hc0) hn).mono fun e W' h => ⟨h.1, h.2 ▸ Below.refl _ _⟩)).mono ?_
    rintro e w1 ⟨rfl, hb⟩
    have hb1 := below_self hB0 hb
    cases h2 : c.all (fun i => withinB i 0 (n - 1))
    · go_wp2
      go_ret
      exact ⟨ret_int (by simp [courseE, h1, h2]), hb1⟩
    · go_wp2_with fail
      refine (isSorted_any a c cap _ (hx.below hb1) hl).mono ?_
      rintro e w2 ⟨rfl, hb'⟩
      have hb2 := below_self hb1 hb'
      cases h3 : sortedB c
      · go_wp2
        go_ret
        exact ⟨ret_int (by simp [courseE, h1, h2, h3]), hb2⟩
      · go_wp2
        go_ret
        exact ⟨ret_int (by simp [courseE, h1, h2, h3]), hb2⟩

theorem sl_span3 {W : World} {b : Nat} {t : TypeId} {x y z : Sp} (h : W.heap[b]? = some (.cells #[.int .i64 x.lo, .int .i64 x.hi, .int .i64 y.lo, .int .i64 y.hi, .int .i64 z.lo, .int .i64 z.hi] t (0, 0))) :
    Sl 2 Sp.cells W (some ⟨b, 0, none⟩) [x, y, z] := fun _ => by
  refine ⟨b, 0, rfl, lt_of_block h, fun j u i v hj hi => ?_⟩
  rw [cell_of_row W b _ _ _ _ h]
  match j, i, hj, hi with
  | 0, 0, hj, hi | 0, 1, hj, hi | 1, 0, hj, hi | 1, 1, hj, hi | 2, 0, hj, hi | 2, 1, hj, hi => simp at hj; subst hj; simp [Sp.cells] at hi; subst hi; rfl
  | _, (i+2), hj, hi => simp [Sp.cells] at hi
  | (j+3), _, hj, hi => simp at hj

set_option maxHeartbeats 800000 in
theorem check_any (a : Option Addr) (xs : List Lp) (cap : Nat) (r : Ru) (w : World) (hx : Sl 3 Lp.cells w a xs) (hl : xs.length ≤ 1000000) :
    Calls Try.prog 18 #[.slice a xs.length cap, r.v] w fun e w' => e = .returned (.int .i64 (checkE xs r)) ∧ Below w.heap.size w w' := by
  have hB0 : Below w.heap.size w (w.alloc (.cells #[.int .i64 r.laps, .int .i64 r.len.lo, .int .i64 r.len.hi, .int .i64 r.climb.lo, .int .i64 r.climb.hi, .int .i64 r.lap.lo, .int .i64 r.lap.hi, .int .i64 r.wide, .int .i64 r.uses] 26)) := (Below.refl _ _).alloc (Nat.le_refl _) _
  go_enter Try.func18, Try.ntmps18
  go_wp2_with fail
  refine (checkStadium_any a xs cap _ (hx.below hB0) hl).mono ?_
  rintro e w1 ⟨rfl, hb⟩
  have hb1 := below_self hB0 hb
  by_cases h1 : stadE xs = 0
  · have hce : checkE xs r = if rulesB r = true then 0 else 3 := by simp [checkE, h1]
    have Hce := Lib.hid hce
    clear hce
    have h1b : (stadE xs != 0) = false := by simp [h1]
    obtain ⟨hc, hf⟩ := bcell hb
    have hz : w.heap.size < w1.heap.size := by have := hb.size; simp at this; omega
    go_wp2_with fail
    have hB1 := (Below.refl w1.heap.size w1).alloc (Nat.le_refl _) (.cells #[.int .i64 r.len.lo, .int .i64 r.len.hi, .int .i64 r.climb.lo, .int .i64 r.climb.hi, .int .i64 r.lap.lo, .int .i64 r.lap.hi] 24)
    have hb2 := below_self hb1 hB1
    refine (every_span (some ⟨w1.heap.size, 0, none⟩) [r.len, r.climb, r.lap] 3 69 #[] (fun s => boundedB s 200000) _ (sl_span3 (heap_alloc_new w1 _)) (by simp) eg69 (fun x _ W _ => check1_any x W)).mono ?_
    rintro e w2 ⟨rfl, hb⟩
    have hb3 := below_self hb2 hb
    obtain ⟨hc2, hf2⟩ := bcell hb
    cases h2 : [r.len, r.climb, r.lap].all (fun s => boundedB s 200000)
    · have HF := Lib.hid (Hce.out.trans (by simp only [rulesB, h2]; rfl : _ = (3 : Int)))
      go_wp2
      go_ret
      exact ⟨by rw [HF.out]; rfl, hb3⟩
    · cases h3 : withinB r.laps 1 6
      · have HF := Lib.hid (Hce.out.trans (by simp only [rulesB, h2, h3]; rfl : _ = (3 : Int)))
        go_wp2_with (go_at_call 71; refine (within_any _ _ _ _).mono ?_; rintro e w' ⟨rfl, rfl⟩)
        go_ret
        exact ⟨by rw [HF.out]; rfl, hb3⟩
      · cases h4 : withinB r.wide 1 20
        · have HF := Lib.hid (Hce.out.trans (by simp only [rulesB, h2, h3, h4]; rfl : _ = (3 : Int)))
          go_wp2_with (go_at_call 71; refine (within_any _ _ _ _).mono ?_; rintro e w' ⟨rfl, rfl⟩)
          go_ret
          exact ⟨by rw [HF.out]; rfl, hb3⟩
        · cases h5 : withinB r.uses 1 6
          · have HF := Lib.hid (Hce.out.trans (by simp only [rulesB, h2, h3, h4, h5]; rfl : _ = (3 : Int)))
            go_wp2_with (go_at_call 71; refine (within_any _ _ _ _).mono ?_; rintro e w' ⟨rfl, rfl⟩)
            go_ret
            exact ⟨by rw [HF.out]; rfl, hb3⟩
          · have HF := Lib.hid (Hce.out.trans (by simp only [rulesB, h2, h3, h4, h5]; rfl : _ = (0 : Int)))
            go_wp2_with (go_at_call 71; refine (within_any _ _ _ _).mono ?_; rintro e w' ⟨rfl, rfl⟩)
            go_ret
            exact ⟨by rw [HF.out]; rfl, hb3⟩
  · have h1b : (stadE xs != 0) = true := by simp [h1]
    have hce := Lib.hid (show checkE xs r = stadE xs by simp [checkE, h1])
    go_wp2
    go_ret
    exact ⟨by rw [hce.out]; rfl, hb1⟩
end Go.Proofs.Ytkmcdmidegcbaaa
