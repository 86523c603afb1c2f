/-
  The numbers of the chapter's examples, by the plain notions of this seat's texts.
  What is proved: closed facts.
  Conditions: none.
-/
import Derived.Test.YtkmcdmidegcbaaaAP
import Derived.Test.YtkmcdmidegcbaaaAM
import Derived.Test.YtkmcdmidegcbaaaAL
import Derived.Test.YtkmcdmidegcbaaaAN
namespace Go.Proofs.Ytkmcdmidegcbaaa
open Go.RowKit Go.Shelf

def threeR2 : Ru := ⟨3, ⟨7000, 7000⟩, ⟨200, 270⟩, ⟨2000, 3000⟩, 6, 1⟩
theorem all_three : allR threeL threeR = ([[0, 0, 2], [0, 1, 1], [0, 1, 2]], 0) := by kernel_rfl
theorem broken_three : brokenR threeL threeR [1, 1, 1] = ([4], 0) := by kernel_rfl
theorem cheap_three : cheapR threeL threeR 40 = ([0, 1, 1], 10800, 0) := by kernel_rfl
theorem yield_three : yieldR threeL threeR2 = ([0], [0, 1, 2], 0) := by kernel_rfl
theorem fail_short : (failR 500 800 (shortL 500)).1 = 2 ∧ (failR 500 800 (shortL 500)).2.2 = 0 := ⟨by kernel_rfl, by kernel_rfl⟩
theorem proves_short : provesR 500 800 (shortL 500) (-1) 2 = (360, 0) := by kernel_rfl
theorem ranges_short : rangesR 500 800 (shortL 500) = ([⟨280, 390⟩, ⟨160, 600⟩], 0) := by kernel_rfl
theorem win_short : winE 500 800 (shortL 100) = 0 := by kernel_rfl

theorem least_at {n : Nat} {p : Nat → Bool} {r k : Nat} (h : LeastOf n p r) (hk : k + 1 < n) (h1 : p k = false) (h2 : p (k + 1) = true) : r = k + 1 := by
  obtain ⟨_, a, b⟩ := h
  rcases Nat.lt_trichotomy r (k + 1) with h' | h' | h'
  · have := b k (by omega) (by omega); rw [h1] at this; cases this
  · exact h'
  · have := a (k + 1) h'; rw [h2] at this; cases this
theorem least_short {e : Ending} {w w' : World} (h : OutLeastW w 500 800 (shortL 100) 0 800 (fun v => (worstL v 800 (shortL 100)).fails == -1) e w') : e = .returned (.tuple #[.int .i64 460, .int .i64 0]) ∧ Below w.heap.size w w' := by
  obtain ⟨h1, h2⟩ := h
  rw [if_pos win_short] at h1
  obtain ⟨r, hr, he⟩ := h1
  have : r = 460 := least_at (k := 459) hr (by decide) (by kernel_rfl) (by kernel_rfl)
  subst this
  exact ⟨he, h2⟩
theorem room_short {e : Ending} {w w' : World} (h : OutLeastW w 500 800 (shortL 100) (roomLo 500) 1000000 (fun v => (worstL 500 v (shortL 100)).fails == -1) e w') : e = .returned (.tuple #[.int .i64 540, .int .i64 0]) ∧ Below w.heap.size w w' := by
  obtain ⟨h1, h2⟩ := h
  rw [if_pos win_short] at h1
  obtain ⟨r, hr, he⟩ := h1
  have : r = 40 := least_at (k := 39) hr (by decide) (by kernel_rfl) (by kernel_rfl)
  subst this
  exact ⟨he, h2⟩
end Go.Proofs.Ytkmcdmidegcbaaa
