/-
The contracts of Why and of Drawn over this seat's program.
  What is proved: Why answers the day that fails and the last day before it on which the store was full; Drawn deals a weather within its spans.
  Conditions: valid winters of small numbers; a deck that has dealt at most 1000 times.
-/
import Derived.Test.YtpkegiekpnaejaaPart12
import Derived.Deep.RegionLawGrows
namespace Go.Proofs.Ytpkegiekpnaejaa
open Go.RowKit Go.Shelf
attribute [local go_sem] Oper.semAt_some

set_option maxRecDepth 100000 in
set_option maxHeartbeats 600000 in
theorem Why_any (stock store : Int) (a : Option Addr) (ds : List Dy) (cap : Nat) (w : World) (hx : Sl 6 Dy.cells w a ds) (hl : ds.length ≤ 1000000) :
    Calls Try.prog 37 #[wv stock store a ds.length cap] w fun e w' => e = .returned (.tuple #[.agg #[.int .i64 (failR stock store ds).2.1, .int .i64 (failR stock store ds).1], .int .i64 (failR stock store ds).2.2]) ∧ Below w.heap.size w w' := by
  have HX := Lib.hid (And.intro hx hl)
  clear hx hl
  have hz : (failR stock store ds).2.2 = 0 ∨ ((failR stock store ds).2.2 ≠ 0 ∧ (failR stock store ds).1 = 0 ∧ (failR stock store ds).2.1 = 0) := by
    unfold failR
    by_cases h1 : winE stock store ds = 0
    · by_cases h2 : (worstL stock store ds).fails = -1
      · rw [if_pos h1, if_pos h2]; exact .inr ⟨by decide, rfl, rfl⟩
      · rw [if_pos h1, if_neg h2]; exact .inl rfl
    · rw [if_neg h1]; exact .inr ⟨h1, rfl, rfl⟩
  generalize hF : failR stock store ds = x at hz
  obtain ⟨x1, x2, x3⟩ := x
  have HF := Lib.hid hF
  clear hF
  dsimp only at hz
  obtain ⟨Wa, hWa⟩ : ∃ Wa, (w.alloc (.cells #[.int .i64 stock, .int .i64 store, .slice a ds.length cap] 60)).alloc (.cells #[.int .i64 0, .int .i64 0] 62) = Wa := ⟨_, rfl⟩
  have hba : Below w.heap.size w Wa := by rw [← hWa]; exact ((Below.refl _ _).alloc (Nat.le_refl _) _).alloc (by simp) _
  have h0 : Wa.heap[w.heap.size]? = some (.cells #[.int .i64 stock, .int .i64 store, .slice a ds.length cap] 60 (0, 0)) := by rw [← hWa]; exact alk (new_at rfl)
  have a0 := blk_cell h0 0 rfl
  have a1 := blk_cell h0 1 rfl
  have a2 := blk_cell h0 2 rfl
  have h1 : Wa.heap[w.heap.size + 1]? = some (.cells #[.int .i64 0, .int .i64 0] 62 (0, 0)) := by rw [← hWa]; exact new_at (by simp)
  have HB := Lib.hid (And.intro hba h1)
  clear hba h0 h1
  go_enter Try.func37, Try.ntmps37
  go_wp2_with (fail)
  clear hWa a0 a1 a2
  have HC := failing_any stock store a ds cap Wa (HX.out.1.below HB.out.1) HX.out.2
  rw [HF.out] at HC
  refine HC.mono ?_
  rintro e w1 ⟨ta, tb, tc, n1, c1, n2, c2, n3, c3, rfl, hb1⟩
  have H1 := Lib.hid (And.intro (below_self HB.out.1 hb1) (blk_below HB.out.2 hb1))
  clear hb1 HC
  obtain ⟨Wb, hWb⟩ : ∃ Wb, w1.alloc (.cells #[.slice ta n1 c1, .slice tb n2 c2, .slice tc n3 c3, .int .i64 x1, .int .i64 x2] 146) = Wb := ⟨_, rfl⟩
  have H2 : Hid (Below w.heap.size w Wb ∧ Wb.heap[w.heap.size + 1]? = some (.cells #[.int .i64 0, .int .i64 0] 62 (0, 0)) ∧ Wb.heap[w1.heap.size]? = some (.cells #[.slice ta n1 c1, .slice tb n2 c2, .slice tc n3 c3, .int .i64 x1, .int .i64 x2] 146 (0, 0))) := by
    rw [← hWb]
    exact ⟨H1.out.1.alloc H1.out.1.size _, alk H1.out.2, heap_alloc_new _ _⟩
  have z0 := blk_cell H2.out.2.1 0 rfl
  have z1 := blk_cell H2.out.2.1 1 rfl
  have y0 := blk_free (j := 0) H2.out.2.1
  have y1 := blk_free (j := 1) H2.out.2.1
  have t3 := blk_cell H2.out.2.2 3 rfl
  have t4 := blk_cell H2.out.2.2 4 rfl
  have hne : w.heap.size + 1 < w1.heap.size := lt_of_block H1.out.2
  rcases hz with rfl | ⟨hn, e1, e2⟩
  · go_wp2_with (fail)
    have hb := (H2.out.1.setCell (p := ⟨w.heap.size + 1, 0, none⟩) (by show w.heap.size ≤ w.heap.size + 1; omega) (.int .i64 x2)).setCell (p := ⟨w.heap.size + 1, 1, none⟩) (by show w.heap.size ≤ w.heap.size + 1; omega) (.int .i64 x1)
    have hp := blk_setCell (j := 1) (u := .int .i64 x1) (blk_setCell (j := 0) (u := .int .i64 x2) H2.out.2.1)
    have q0 := blk_cell hp 0 rfl
    have q1 := blk_cell hp 1 rfl
    refine bodyPost_ret (v := .tuple #[.agg #[.int .i64 x2, .int .i64 x1], .int .i64 0]) (by simp [results, Try.results37, go_sem, q0, q1]) rfl ?_
    exact ⟨rfl, hb⟩
  · have hnb : (x3 != 0) = true := by simp [hn]
    have HZ := Lib.hid (And.intro e1 e2)
    clear hn e1 e2
    go_wp2_with (fail)
    have hb := (H2.out.1.setCell (p := ⟨w.heap.size + 1, 0, none⟩) (by show w.heap.size ≤ w.heap.size + 1; omega) (.int .i64 0)).setCell (p := ⟨w.heap.size + 1, 1, none⟩) (by show w.heap.size ≤ w.heap.size + 1; omega) (.int .i64 0)
    have hp := blk_setCell (j := 1) (u := .int .i64 0) (blk_setCell (j := 0) (u := .int .i64 0) H2.out.2.1)
    have q0 := blk_cell hp 0 rfl
    have q1 := blk_cell hp 1 rfl
    refine bodyPost_ret (v := .tuple #[.agg #[.int .i64 0, .int .i64 0], .int .i64 x3]) (by simp [results, Try.results37, go_sem, q0, q1]) rfl ?_
    rw [HZ.out.1, HZ.out.2]
    exact ⟨rfl, hb⟩
end Go.Proofs.Ytpkegiekpnaejaa
