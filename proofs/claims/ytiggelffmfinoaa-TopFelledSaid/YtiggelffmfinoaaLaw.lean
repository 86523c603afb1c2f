/-
  How a list of bytes that came in reads, over this seat's program.
  What is proved: a list of bytes that is an argument reads as bytes, in whatever memory.
  Conditions: the form's own reach.
-/
import Derived.Test.YtiggelffmfinoaaRows
import Derived.Test.YtiggelffmfinoaaP
import Derived.ProofKit
import Derived.SizedLaws
namespace Go.Proofs.Ytiggelffmfinoaa
open Go.ChangeShapes Go.WideShapes Go.ChangeAt Go.RowKit

theorem Try.own : ownKnob Try.prog.godebug = none := by kernel_rfl
theorem Try.laidOut : laidOutB Try.prog = true := by kernel_rfl
theorem Try.cells5 : Try.prog.cellsOf 5 = 1 := by kernel_rfl
theorem Try.bytes5 : Try.prog.bytesOf 5 = 1 := by kernel_rfl

section
variable {H : Type} {enc : TypeId × Value → H}
set_option maxRecDepth 100000 in
/-- A list of bytes that is an argument. -/
theorem bytes_open {W : World} {base : Nat} {v : Value} {d : DataW H} {p : List MemPlace} (hval : Value.okWide Try.prog W .any base 22 v) (h : DataW.Trod enc Try.prog W 0 (fun _ => true) true 22 v d p) :
    ∃ a n cap, v = .slice a n cap ∧ BytesAt W a n ∧ (n = 0 ∨ ∃ elems spare, d = .slice elems spare ∧ elems.length = n) := by
  obtain ⟨a, len, cap, rfl⟩ := okWide_slice Try.underlying22 hval
  obtain ⟨fuel, hf⟩ := h
  rcases open_ints Try.underlying22 Try.underlying5 Try.cells5 hf with ⟨hcs, hx⟩ | ⟨a', len', cap', zs, hcs, _, hl, hm, hz, hx, hcell, hwz⟩
  · simp [Value.cells] at hcs
    obtain ⟨rfl, rfl, rfl⟩ := hcs
    exact ⟨_, _, _, rfl, fun h0 => absurd h0 (Nat.lt_irrefl 0), .inl rfl⟩
  · simp [Value.cells] at hcs
    obtain ⟨rfl, rfl, rfl⟩ := hcs
    simp only [Prod.mk.injEq] at hx
    obtain ⟨rfl, rfl⟩ := hx
    simp only [if_true] at hz
    refine ⟨_, _, _, rfl, fun h0 => ?_, .inr ⟨_, _, rfl, by simp [lits]; omega⟩⟩
    obtain ⟨b, off, spot⟩ := a'
    have hspot : spot = none := by simpa [Addr.add] using World.cell?_spot (hcell 0 (by omega))
    subst hspot
    have hadd : ∀ j, (⟨b, off, none⟩ : Addr).add j = ⟨b, off + j, none⟩ := fun j => by rw [Addr.add_lit]
    refine ⟨b, off, rfl, ?_, fun j hj => ?_⟩
    · have h1 := hcell 0 (by omega)
      by_cases hb : b < W.heap.size
      · exact hb
      · simp [Addr.add_lit, World.cell?, Array.getElem?_eq_none (Nat.le_of_not_lt hb)] at h1
    · have h1 := hcell j (by omega)
      rw [hadd] at h1
      have e : zs.getD j 0 = zs[j]'(by omega) := by simp [List.getD, List.getElem?_eq_getElem (show j < zs.length by omega)]
      have h2 := hwz _ (List.getElem_mem (show j < zs.length by omega))
      rw [← e] at h2
      generalize zs.getD j 0 = y at h1 h2
      have h3 : (Lit.int .u8 y).wf = true := h2
      simp only [Lit.wf, Bool.and_eq_true, decide_eq_true_eq] at h3
      have h4 : (0 : Int) ≤ y := h3.1
      have h5 : y ≤ 255 := h3.2
      exact ⟨y, h1, h4, by omega⟩
end
end Go.Proofs.Ytiggelffmfinoaa
