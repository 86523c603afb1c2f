/-
  The contract of First over this seat's program.
  What is proved: First answers the first day that fails in the worst weather, or the error.
  Conditions: slices of at most 1000000 elements.
-/
import Derived.Test.YtkmcdmidegcbaaaAH
namespace Go.Proofs.Ytkmcdmidegcbaaa
open Go.RowKit Go.Shelf
attribute [local go_sem] Oper.semAt_some

set_option maxRecDepth 100000 in
set_option maxHeartbeats 600000 in
theorem First_any (stock store : Int) (a : Option Addr) (ds : List Dy) (cap : Nat) (w : World) (hx : Sl 6 Dy.cells w a ds) (hl : ds.length ≤ 1000000) :
    Calls Try.prog 35 #[wv stock store a ds.length cap] w fun e w' => e = .returned (.tuple #[.int .i64 (failR stock store ds).1, .int .i64 (failR stock store ds).2.2]) ∧ Below w.heap.size w w' := by
  have HX := Lib.hid (And.intro hx hl)
  clear hx hl
  generalize hF : failR stock store ds = x
  have HF := Lib.hid hF
  clear hF
  obtain ⟨Wa, hWa⟩ : ∃ Wa, w.alloc (.cells #[.int .i64 stock, .int .i64 store, .slice a ds.length cap] 60) = Wa := ⟨_, rfl⟩
  have hba : Below w.heap.size w Wa := by rw [← hWa]; exact (Below.refl _ _).alloc (Nat.le_refl _) _
  have h0 : Wa.heap[w.heap.size]? = some (.cells #[.int .i64 stock, .int .i64 store, .slice a ds.length cap] 60 (0, 0)) := by rw [← hWa]; exact new_at rfl
  have a0 := blk_cell h0 0 rfl
  have a1 := blk_cell h0 1 rfl
  have a2 := blk_cell h0 2 rfl
  go_enter Try.func35, Try.ntmps35
  go_wp2_with (fail)
  clear hWa a0 a1 a2
  have HC := failing_any stock store a ds cap Wa (HX.out.1.below hba) HX.out.2
  rw [HF.out] at HC
  refine HC.mono ?_
  rintro e w1 ⟨ta, tb, tc, n1, c1, n2, c2, n3, c3, rfl, hb1⟩
  have H1 := Lib.hid (below_self hba hb1)
  clear hba h0 hb1 HC
  go_wp2_with (fail)
  go_ret2
  exact ⟨rfl, H1.out.alloc H1.out.size _⟩
end Go.Proofs.Ytkmcdmidegcbaaa
