/-
The contracts of Check, checkStadium and checkCourse over this seat's program.
  What is proved: what each call returns, and that nothing that was there before it has turned.
  Conditions: slices of at most 1000000 elements.
The contracts of checkCourse and Check over this seat's program.
  What is proved: what each call returns, and that nothing that was there before it has turned.
  Conditions: slices of at most 1000000 elements.
-/
import Derived.Test.YtmebmcipmemofaaGreatPart1
import Derived.Shelf.Abstract
namespace Go.Proofs.YtmebmcipmemofaaGreat
open Go.RowKit

theorem q_of {P : Program} {f : FuncId} {args : Array Value} {w : World} {n : Nat} {v : Value}
    (h : Calls P f args (w.drewN n) fun e w' => e = .returned v ∧ w.drewN n = w') : Calls P f args (w.drewN n) fun e w'' => e = .returned v ∧ ∃ m, w'' = w.drewN m :=
  h.mono fun _ _ ⟨he, hm⟩ => ⟨he, n, hm.symm⟩

theorem eg110 : ∀ args w, (callFunc 127 args).run Tryz.prog w = .ok (.enter 127 args) w := enters_of Tryz.func127 (by kernel_rfl) rfl
theorem eg69 : ∀ args w, (callFunc 107 args).run Tryz.prog w = .ok (.enter 107 args) w := enters_of Tryz.func107 (by kernel_rfl) rfl
theorem eg112 : ∀ args w, (callFunc 129 args).run Tryz.prog w = .ok (.enter 129 args) w := enters_of Tryz.func129 (by kernel_rfl) rfl

set_option maxHeartbeats 400000 in
theorem checkStadium_any (a : Option Addr) (xs : List Lp) (cap : Nat) (w : World) (hx : Sl 3 Lp.cells w a xs) (hl : xs.length ≤ 1000000) :
    Calls Tryz.prog 72 #[.slice a xs.length cap] w fun e w' => e = .returned (.int .i64 (stadE xs)) ∧ Below w.heap.size w w' := by
  cases h1 : withinB xs.length 1 12
  · go_enter Tryz.func72, Tryz.ntmps72
    go_wp2_with (go_at_call 79; refine (within_any _ _ _ _).mono ?_; rintro e w' ⟨rfl, rfl⟩)
    go_ret
    exact ⟨ret_int (by simp [stadE, h1]), Below.refl _ _⟩
  · go_enter Tryz.func72, Tryz.ntmps72
    go_wp2_with (go_at_call 79; refine (within_any _ _ _ _).mono ?_; rintro e w' ⟨rfl, rfl⟩)
    refine (every_loop a xs cap 127 #[] allowedB w hx hl eg110 (fun x _ W _ => allowed_any x W)).mono ?_
    rintro e w1 ⟨rfl, hb⟩
    cases h2 : xs.all allowedB
    · go_wp2
      go_ret
      exact ⟨ret_int (by simp [stadE, h1, h2]), hb⟩
    · go_wp2
      go_ret
      exact ⟨ret_int (by simp [stadE, h1, h2]), hb⟩

set_option maxHeartbeats 400000 in
theorem checkCourse1_any (i n : Int) (B : Nat) (w : World) (h : w.cell? ⟨B, 0, none⟩ = some (.int .i64 n)) (hn : -1000000000 ≤ n ∧ n ≤ 1000000000) :
    Calls Tryz.prog 129 #[.int .i64 i, .pointer (some ⟨B, 0, none⟩)] w fun e w' => e = .returned (.bool (withinB i 0 (n - 1))) ∧ w = w' := by
  go_enter Tryz.func129, Tryz.ntmps129
  go_wp2_with fail
  refine (within_any _ _ _ _).mono ?_
  rintro e w' ⟨rfl, rfl⟩
  go_wp2
  go_ret
  exact ⟨rfl, rfl⟩

set_option maxHeartbeats 400000 in
theorem less_any (x y : Int) (w : World) : Calls Tryz.prog 163 #[.int .i64 x, .int .i64 y] w fun e w' => e = .returned (.bool (decide (x < y))) ∧ w = w' := by
  go_enter Tryz.func163, Tryz.ntmps163
  go_wp2
  go_ret
  exact ⟨rfl, rfl⟩

set_option maxHeartbeats 800000 in
theorem isSorted_any (a : Option Addr) (c : List Int) (cap : Nat) (w : World) (hx : IntSl w a c) (hl : c.length ≤ 1000000) :
    Calls Tryz.prog 130 #[.slice a c.length cap] w fun e w' => e = .returned (.bool (sortedB c)) ∧ Below w.heap.size w w' := by
  go_enter Tryz.func130, Tryz.ntmps130
  go_wp2_with fail
  go_loopw [3] (fun i wr => ∃ k : Nat, k ≤ c.length ∧ i = .int .i64 ((k : Int) - 1) ∧ Hid (∀ j, k ≤ j + 1 → j + 1 < c.length → c[j]?.getD 0 ≤ c[j+1]?.getD 0) ∧ Below w.heap.size w wr) (fun i _ => (intOf i + 1).toNat)
  case atStart => exact ⟨c.length, Nat.le_refl _, rfl, fun j h1 h2 => by omega, Below.refl _ _⟩
  case round =>
    obtain ⟨k, hk, rfl, hs, hbw⟩ := hrel
    by_cases hlt : 1 < k
    · obtain ⟨j, rfl⟩ : ∃ j, k = j + 2 := ⟨k - 2, by omega⟩
      obtain ⟨b, off, rfl, hbs, hc⟩ := hx (by omega)
      have e1 : ((j + 2 : Nat) : Int) - 1 = (j : Int) + 1 := by omega
      have hc1 := (hbw.cell (p := ⟨b, off + (j + 1), none⟩) hbs).trans (hc (j + 1) (by omega))
      have hc0 := (hbw.cell (p := ⟨b, off + j, none⟩) hbs).trans (hc j (by omega))
      clear hc
      rw [e1]
      clear e1
      go_wp2_with fail
      have q1 : (0 : Int) ≤ (j : Int) + 1 := by omega
      have q2 : ((j : Int) + 1).toNat = j + 1 := by omega
      have q3 : IntKind.i64.wrap (j : Int) = j := by rw [IntWalk.i64_in _ (by omega)]
      have q4 : (j : Int) + 1 < c.length := by omega
      have q5 : (j : Int) < c.length := by omega
      have q6 : j + 1 < c.length := by omega
      have q7 : j < c.length := by omega
      go_quiet ((go_at_call 163; exact q_of (less_any _ _ _)))
      have hwd := below_drewN hbw nq
      by_cases hd : c[j+1] < c[j]
      · have HF := Lib.hid (sortedB_false j q6 (by simpa [q6, q7] using hd))
        go_wp2
        go_ret
        exact ⟨by rw [HF.out]; rfl, hwd⟩
      · have HF : Hid (∀ i, (j + 1) ≤ i + 1 → i + 1 < c.length → c[i]?.getD 0 ≤ c[i+1]?.getD 0) := fun i h1 h2 => by
          by_cases e : i = j
          · subst e; simp [q6, q7]; omega
          · exact hs.out i (by omega) h2
        go_wp2
        go_roundw
        case rel => exact ⟨j + 1, by omega, by go_num, HF, hwd⟩
        case measure => simp [intOf]; omega
    · go_wp2
      go_ret
      exact ⟨ret_bool (sortedB_true fun j _ h2 => hs.out j (by omega) h2).symm, hbw⟩
end Go.Proofs.YtmebmcipmemofaaGreat

namespace Go.Proofs.YtmebmcipmemofaaGreat
open Go.RowKit

set_option maxHeartbeats 400000 in
theorem checkCourse_any (n : Int) (a : Option Addr) (c : List Int) (cap : Nat) (w : World) (hx : IntSl w a c) (hl : c.length ≤ 1000000) (hn : -1000000000 ≤ n ∧ n ≤ 1000000000) :
    Calls Tryz.prog 73 #[.int .i64 n, .slice a c.length cap] w fun e w' => e = .returned (.int .i64 (courseE n c)) ∧ Below w.heap.size w w' := by
  have hB0 : Below w.heap.size w (w.alloc (.cells #[.int .i64 n] 3)) := (Below.refl _ _).alloc (Nat.le_refl _) _
  cases h1 : withinB c.length 1 6
  · go_enter Tryz.func73, Tryz.ntmps73
    go_wp2_with (go_at_call 79; refine (within_any _ _ _ _).mono ?_; rintro e w' ⟨rfl, rfl⟩)
    go_ret
    exact ⟨ret_int (by simp [courseE, h1]), hB0⟩
  · have hc0 : (w.alloc (.cells #[.int .i64 n] 3)).cell? ⟨w.heap.size, 0, none⟩ = some (.int .i64 n) := World.cell?_alloc_at _ _ _ _ rfl
    go_enter Tryz.func73, Tryz.ntmps73
    go_wp2_with (go_at_call 79; refine (within_any _ _ _ _).mono ?_; rintro e w' ⟨rfl, rfl⟩)
    refine (every_int a c cap 129 #[.pointer (some ⟨w.heap.size, 0, none⟩)] (fun i => withinB i 0 (n - 1)) _ (hx.below hB0) hl eg112 (fun x _ W hW => (checkCourse1_any x n w.heap.size W ((hW.cell (p := ⟨w.heap.size, 0, none⟩) (by simp)).trans hc0) hn).mono fun e W' h => ⟨h.1, h.2 ▸ Below.refl _ _⟩)).mono ?_
    rintro e w1 ⟨rfl, hb⟩
    have hb1 := below_self hB0 hb
    cases h2 : c.all (fun i => withinB i 0 (n - 1))
    · go_wp2
      go_ret
      exact ⟨ret_int (by simp [courseE, h1, h2]), hb1⟩
    · go_wp2_with fail
      refine (isSorted_any a c cap _ (hx.below hb1) hl).mono ?_
      rintro e w2 ⟨rfl, hb'⟩
      have hb2 := below_self hb1 hb'
      cases h3 : sortedB c
      · go_wp2
        go_ret
        exact ⟨ret_int (by simp [courseE, h1, h2, h3]), hb2⟩
      · go_wp2
        go_ret
        exact ⟨ret_int (by simp [courseE, h1, h2, h3]), hb2⟩

theorem sl_span3 {W : World} {b : Nat} {t : TypeId} {x y z : Sp} (h : W.heap[b]? = some (.cells #[.int .i64 x.lo, .int .i64 x.hi, .int .i64 y.lo, .int .i64 y.hi, .int .i64 z.lo, .int .i64 z.hi] t (0, 0))) :
    Sl 2 Sp.cells W (some ⟨b, 0, none⟩) [x, y, z] := fun _ => by
  refine ⟨b, 0, rfl, lt_of_block h, fun j u i v hj hi => ?_⟩
  rw [cell_of_row W b _ _ _ _ h]
  match j, i, hj, hi with
  | 0, 0, hj, hi | 0, 1, hj, hi | 1, 0, hj, hi | 1, 1, hj, hi | 2, 0, hj, hi | 2, 1, hj, hi => simp at hj; subst hj; simp [Sp.cells] at hi; subst hi; rfl
  | _, (i+2), hj, hi => simp [Sp.cells] at hi
  | (j+3), _, hj, hi => simp at hj

set_option maxHeartbeats 800000 in
theorem check_any (a : Option Addr) (xs : List Lp) (cap : Nat) (r : Ru) (w : World) (hx : Sl 3 Lp.cells w a xs) (hl : xs.length ≤ 1000000) :
    Calls Tryz.prog 49 #[.slice a xs.length cap, r.v] w fun e w' => e = .returned (.int .i64 (checkE xs r)) ∧ Below w.heap.size w w' := by
  have hB0 : Below w.heap.size w (w.alloc (.cells #[.int .i64 r.laps, .int .i64 r.len.lo, .int .i64 r.len.hi, .int .i64 r.climb.lo, .int .i64 r.climb.hi, .int .i64 r.lap.lo, .int .i64 r.lap.hi, .int .i64 r.wide, .int .i64 r.uses] 26)) := (Below.refl _ _).alloc (Nat.le_refl _) _
  go_enter Tryz.func49, Tryz.ntmps49
  go_wp2_with fail
  refine (checkStadium_any a xs cap _ (hx.below hB0) hl).mono ?_
  rintro e w1 ⟨rfl, hb⟩
  have hb1 := below_self hB0 hb
  by_cases h1 : stadE xs = 0
  · have hce : checkE xs r = if rulesB r = true then 0 else 3 := by simp [checkE, h1]
    have Hce := Lib.hid hce
    clear hce
    have h1b : (stadE xs != 0) = false := by simp [h1]
    obtain ⟨hc, hf⟩ := bcell hb
    have hz : w.heap.size < w1.heap.size := by have := hb.size; simp at this; omega
    go_wp2_with fail
    have hB1 := (Below.refl w1.heap.size w1).alloc (Nat.le_refl _) (.cells #[.int .i64 r.len.lo, .int .i64 r.len.hi, .int .i64 r.climb.lo, .int .i64 r.climb.hi, .int .i64 r.lap.lo, .int .i64 r.lap.hi] 24)
    have hb2 := below_self hb1 hB1
    refine (every_span (some ⟨w1.heap.size, 0, none⟩) [r.len, r.climb, r.lap] 3 107 #[] (fun s => boundedB s 200000) _ (sl_span3 (heap_alloc_new w1 _)) (by simp) eg69 (fun x _ W _ => check1_any x W)).mono ?_
    rintro e w2 ⟨rfl, hb⟩
    have hb3 := below_self hb2 hb
    obtain ⟨hc2, hf2⟩ := bcell hb
    cases h2 : [r.len, r.climb, r.lap].all (fun s => boundedB s 200000)
    · have HF := Lib.hid (Hce.out.trans (by simp only [rulesB, h2]; rfl : _ = (3 : Int)))
      go_wp2
      go_ret
      exact ⟨by rw [HF.out]; rfl, hb3⟩
    · cases h3 : withinB r.laps 1 6
      · have HF := Lib.hid (Hce.out.trans (by simp only [rulesB, h2, h3]; rfl : _ = (3 : Int)))
        go_wp2_with (go_at_call 79; refine (within_any _ _ _ _).mono ?_; rintro e w' ⟨rfl, rfl⟩)
        go_ret
        exact ⟨by rw [HF.out]; rfl, hb3⟩
      · cases h4 : withinB r.wide 1 20
        · have HF := Lib.hid (Hce.out.trans (by simp only [rulesB, h2, h3, h4]; rfl : _ = (3 : Int)))
          go_wp2_with (go_at_call 79; refine (within_any _ _ _ _).mono ?_; rintro e w' ⟨rfl, rfl⟩)
          go_ret
          exact ⟨by rw [HF.out]; rfl, hb3⟩
        · cases h5 : withinB r.uses 1 6
          · have HF := Lib.hid (Hce.out.trans (by simp only [rulesB, h2, h3, h4, h5]; rfl : _ = (3 : Int)))
            go_wp2_with (go_at_call 79; refine (within_any _ _ _ _).mono ?_; rintro e w' ⟨rfl, rfl⟩)
            go_ret
            exact ⟨by rw [HF.out]; rfl, hb3⟩
          · have HF := Lib.hid (Hce.out.trans (by simp only [rulesB, h2, h3, h4, h5]; rfl : _ = (0 : Int)))
            go_wp2_with (go_at_call 79; refine (within_any _ _ _ _).mono ?_; rintro e w' ⟨rfl, rfl⟩)
            go_ret
            exact ⟨by rw [HF.out]; rfl, hb3⟩
  · have h1b : (stadE xs != 0) = true := by simp [h1]
    have hce := Lib.hid (show checkE xs r = stadE xs by simp [checkE, h1])
    go_wp2
    go_ret
    exact ⟨by rw [hce.out]; rfl, hb1⟩
end Go.Proofs.YtmebmcipmemofaaGreat
