/-
  For every input CourseSpread returns true, and the input reads as it read: the given statement.
  Conditions: none but the statement's own.
-/
import Derived.Test.YtgldfnkjfgcjpaaGreatPart20
namespace Go.Proofs.YtgldfnkjfgcjpaaGreat
open Go.ChangeShapes Go.WideShapes Go.ChangeAt Go.RowKit

set_option maxRecDepth 100000 in
/-- A byte that is an argument. -/
theorem byte_open {H : Type} {enc : TypeId × Value → H} {W : World} {base : Nat} {v : Value} {d : DataW H} {p : List MemPlace} (hval : Value.okWide Tryz.prog W .any base 5 v) (h : DataW.Trod enc Tryz.prog W 0 (fun _ => true) true 5 v d p) : ∃ x : Int, v = .int .u8 x ∧ 0 ≤ x ∧ x ≤ 255 := by
  obtain ⟨x, hv, _, _, hw⟩ := open_int Tryz.underlying5 hval h
  simp only [Lit.wf, Bool.and_eq_true, decide_eq_true_eq] at hw
  have h4 : (0 : Int) ≤ x := hw.1
  have h5 : x ≤ 255 := hw.2
  exact ⟨x, hv, h4, h5⟩
set_option maxRecDepth 100000 in
theorem spread_lifted (os : Os) (started : os.Started) (H : Type) (enc : TypeId × Value → H) :
    ReturnsInHanded {} Tryz.checked os 8 .any (Rows.courseSpreadSpec.pre6 enc Tryz.prog Tryz.f8 Rows.courseSpreadRow.domain false) (Rows.courseSpreadSpec.post enc Tryz.prog Tryz.f8 false true false false) := by
  refine returnsInHanded_of_change_sized (C := Tryz.checked) Tryz.own started (by kernel_rfl) Tryz.func8
    (ChangeSpec.witness6 (enc := enc) (C := Tryz.checked) false ⟨#[], #[.slice none 0 0, .slice none 0 0, .int .u8 0], []⟩ 8 (by kernel_rfl) (by kernel_rfl) (by kernel_rfl) (by kernel_rfl)) ?_
  intro W base args ds gs before hval0 hW _ hsz0 _
  have hsz : (DataW.weightsEach Tryz.prog (Tryz.f8.params.toList ++ Rows.courseSpreadSpec.plain.varTypes Tryz.prog) (ds ++ gs)).all (· ≤ reachBytes) = true := hsz0
  clear hsz0
  have hval : ∀ (j : Nat) t v, Tryz.f8.params[j]? = some t → args[j]? = some v → Value.okWide Tryz.prog W .any base t v := hval0
  have hW' := hW
  obtain ⟨p, q, hA0, hV, rfl, hfz, hnd⟩ := hW
  have hA : DataW.TrodAll enc Tryz.prog W 0 (fun _ => true) true Tryz.f8.params.toList args.toList ds p := hA0
  rw [Tryz.params8] at hA hval hsz
  obtain ⟨v0, v1, v2, d0, d1, d2, p0, p1, p2, rfl, rfl, rfl, h0, h1, h2⟩ := trodAll_three hA
  obtain ⟨rfl, rfl⟩ := trodVars_none hV
  have hlt0 : ∀ x ∈ p0, x.block < W.heap.size := fun x hx => by simpa using hW'.lt x (by simp [hx])
  have hlt1 : ∀ x ∈ p1, x.block < W.heap.size := fun x hx => by simpa using hW'.lt x (by simp [hx])
  have hlt2 : ∀ x ∈ p2, x.block < W.heap.size := fun x hx => by simpa using hW'.lt x (by simp [hx])
  obtain ⟨x2, rfl, hx2⟩ := byte_open (hval 2 5 v2 rfl rfl) h2
  obtain ⟨a0, n0, c0, rfl, hb0, hn0⟩ := bytes_open (hval 0 102 v0 rfl rfl) h0
  have hl0 : n0 ≤ 140737488355328 := by
    rcases hn0 with rfl | ⟨elems, spare, rfl, hel⟩
    · omega
    · have := sized_slice hsz (j := 0) (t := 102) (e := 5) rfl rfl Tryz.underlying102
      rw [Tryz.bytes5] at this
      simp only [reachBytes] at this
      omega
  obtain ⟨a1, n1, c1, rfl, hb1, hn1⟩ := bytes_open (hval 1 102 v1 rfl rfl) h1
  have hl1 : n1 ≤ 140737488355328 := by
    rcases hn1 with rfl | ⟨elems, spare, rfl, hel⟩
    · omega
    · have := sized_slice hsz (j := 1) (t := 102) (e := 5) rfl rfl Tryz.underlying102
      rw [Tryz.bytes5] at this
      simp only [reachBytes] at this
      omega
  clear hA0 hval0
  simp only [List.append_nil] at hW'
  refine (spread_law a0 n0 c0 a1 n1 c1 x2 W hb0 hl0 hb1 hl1 ⟨hx2.1, by have := hx2.2; omega⟩).mono fun e W' ⟨he, hbel⟩ => ?_
  subst he
  exact ⟨_, rfl, _, _, _, [], _, [], hW', trodAll_mk1 (shut_bool Tryz.underlying4 _), trodAll_mk3 (Below.trod Tryz.laidOut (by kernel_rfl) (of_decide_eq_true (by kernel_rfl)) h0 hbel hlt0) (Below.trod Tryz.laidOut (by kernel_rfl) (of_decide_eq_true (by kernel_rfl)) h1 hbel hlt1) (Below.trod Tryz.laidOut (by kernel_rfl) (of_decide_eq_true (by kernel_rfl)) h2 hbel hlt2), rfl, hbel.frame _, fun h => by cases h⟩

theorem spread_holds : Rows.CourseSpreadSaid :=
  OpenClaim.holds_of_wide 8 Tryz.f8 rfl rfl rfl rfl rfl rfl rfl ⟨rfl, rfl, rfl, rfl, rfl⟩ rfl rfl rfl rfl rfl (by kernel_rfl) Tryz.func8 (by kernel_rfl)
    (of_decide_eq_true (by kernel_rfl)) (by unfold Func.isWrapper; first | (rw [if_pos (by decide +kernel)]; kernel_rfl) | (rw [if_neg (by decide +kernel)]; exact ⟨rfl, rfl⟩))
    (fun os started H enc _ => spread_lifted os started H enc)
#print axioms spread_holds
end Go.Proofs.YtgldfnkjfgcjpaaGreat
