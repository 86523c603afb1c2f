/-
  A list of rows of which one is put in another's place (no function of the program).
  What is proved: what is read of them.
  Conditions: each lemma states its own.
-/
import Derived.Test.YthajembgndhakaaR
namespace Go.Proofs.Ythajembgndhakaa
open Go.RowKit Go.Shelf

structure RowsI (W : World) (base : Nat) (R : List Rw) : Prop where
  own : ∀ (i : Nat) (x : Rw), R[i]? = some x → W.ownsRow base 3 1 (rowV x) x.2.2.length (x.2.2.map (Value.int .i64))
  ne : ∀ (i j : Nat) (x y : Rw), R[i]? = some x → R[j]? = some y → i ≠ j → x.1 ≠ y.1
theorem RowsI.of {W : World} {base : Nat} {R : List Rw} (h : Rows W base R) : RowsI W base R := by
  refine ⟨fun i x hx => h.own x (List.mem_of_getElem? hx), fun i j x y hx hy hij he => ?_⟩
  have hi : i < R.length := by
    rcases Nat.lt_or_ge i R.length with h1 | h1
    · exact h1
    · rw [List.getElem?_eq_none h1] at hx; cases hx
  have hj : j < R.length := by
    rcases Nat.lt_or_ge j R.length with h1 | h1
    · exact h1
    · rw [List.getElem?_eq_none h1] at hy; cases hy
  rw [List.getElem?_eq_getElem hi] at hx
  rw [List.getElem?_eq_getElem hj] at hy
  cases hx
  cases hy
  have hp := List.pairwise_iff_getElem.1 h.nd
  rcases Nat.lt_or_gt_of_ne hij with h1 | h1
  · have := hp i j (by simpa using hi) (by simpa using hj) h1
    simp at this
    exact this he
  · have := hp j i (by simpa using hj) (by simpa using hi) h1
    simp at this
    exact this he.symm

/-- A list of rows whose block is fixed. -/
structure AX (W0 : World) (A n cap : Nat) (R : List Rw) (W : World) : Prop where
  b : Below W0.heap.size W0 W
  av : W.ownsRow W0.heap.size 27 1 (.slice (some ⟨A, 0, none⟩) n cap) n (R.map rowV)
  rw : RowsI W W0.heap.size R
theorem RowsI.below {W W' : World} {base : Nat} {R : List Rw} (h : RowsI W base R) (hb : Below W.heap.size W W') : RowsI W' base R := ⟨fun i x hx => owns_below (h.own i x hx) hb, h.ne⟩
theorem AX.below {W0 W W' : World} {A n cap : Nat} {R : List Rw} (h : AX W0 A n cap R W) (hb : Below W.heap.size W W') : AX W0 A n cap R W' :=
  ⟨h.b.trans (hb.mono h.b.size), owns_below h.av hb, h.rw.below hb⟩
theorem AX.blk {W0 W : World} {A n cap : Nat} {R : List Rw} (h : AX W0 A n cap R W) : W0.heap.size ≤ A ∧ A < W.heap.size ∧ ∃ cur, W.heap[A]? = some (.cells cur 27 (0, 0)) ∧ n ≤ cur.size := by
  rcases h.av.2 with ⟨h0, _⟩ | ⟨g, cap', cur, hv, hb, hg, hnc, _, hcs, _⟩
  · cases h0
  · simp only [Value.slice.injEq, Option.some.injEq, Addr.mk.injEq, true_and, and_true] at hv
    obtain ⟨rfl, _⟩ := hv
    exact ⟨hb, lt_of_block hg, cur, hg, by omega⟩
theorem owns_setCell {W : World} {base A n cap k : Nat} {xs : List Value} {u : Value} (h : W.ownsRow base 27 1 (.slice (some ⟨A, 0, none⟩) n cap) n xs) : (W.setCell ⟨A, k, none⟩ u).ownsRow base 27 1 (.slice (some ⟨A, 0, none⟩) n cap) n (xs.set k u) := by
  refine ⟨by rw [List.length_set]; exact h.1, ?_⟩
  rcases h.2 with ⟨h0, _⟩ | ⟨g, cap', cur, hv, hb, hg, hnc, hcm, hcs, htake⟩
  · cases h0
  · simp only [Value.slice.injEq, Option.some.injEq, Addr.mk.injEq, true_and, and_true] at hv
    obtain ⟨rfl, rfl⟩ := hv
    refine .inr ⟨A, cap, cur.setIfInBounds k u, rfl, hb, blk_setCell hg, hnc, hcm, by simpa using hcs, ?_⟩
    rw [← htake]
    simp [List.take_set]
theorem AX.step {W0 W W' : World} {A n cap k g' cap' : Nat} {R : List Rw} {x : Rw} {l : List Int} (h : AX W0 A n cap R W) (hx : R[k]? = some x)
    (hown : W'.ownsRow W0.heap.size 3 1 (rowV (g', cap', l)) l.length (l.map (Value.int .i64))) (hg : W.grownBy W' (some x.1)) (hat : x.1 = g' ∨ g' = W.heap.size) :
    AX W0 A n cap (R.set k (g', cap', l)) (W'.setCell ⟨A, k, none⟩ (rowV (g', cap', l))) := by
  have hxr := row_at (h.rw.own k x hx)
  obtain ⟨hA0, hA1, cur, hAc, hAs⟩ := h.blk
  have hAx : A ≠ x.1 := fun he => by
    obtain ⟨c2, hc2⟩ := hxr.2.2
    rw [← he, hAc] at hc2; cases hc2
  have hA' : W'.heap[A]? = W.heap[A]? := hg.block A hA1 (by simpa using hAx)
  have hg' := row_at hown
  have hgA : g' ≠ A := fun he => by
    obtain ⟨c2, hc2⟩ := hg'.2.2
    have hc2 : W'.heap[g']? = some (.cells c2 3 (0, 0)) := hc2
    rw [he, hA', hAc] at hc2; cases hc2
  have hgl : ∀ i y, R[i]? = some y → i ≠ k → y.1 ≠ g' := fun i y hy hik he => by
    rcases hat with h1 | h1
    · exact h.rw.ne i k y x hy hx hik (by rw [he, h1])
    · have := (row_at (h.rw.own i y hy)).2.1
      omega
  have hset : ∀ (i : Nat) (y : Rw), (R.set k (g', cap', l))[i]? = some y → (i = k ∧ y = (g', cap', l)) ∨ (i ≠ k ∧ R[i]? = some y) := fun i y hy => by
    rw [List.getElem?_set] at hy
    by_cases hik : k = i
    · rw [if_pos hik] at hy
      split at hy
      · exact .inl ⟨hik.symm, by cases hy; rfl⟩
      · cases hy
    · rw [if_neg hik] at hy; exact .inr ⟨fun h => hik h.symm, hy⟩
  refine ⟨(h.b.grown hg h.b.size (fun i hi => by cases hi; exact hxr.1)).setCell hA0 _, ?_, ⟨?_, ?_⟩⟩
  · rw [List.map_set]
    exact owns_setCell (h.av.kept hg (.inr (by simpa [Value.ownBlock] using hAx)))
  · intro i y hy
    rcases hset i y hy with ⟨_, rfl⟩ | ⟨hik, hy⟩
    · exact owns_blk hown (fun j hj => Below.heap_setCell _ _ _ _ (by
        have : g' = j := by simpa [rowV, Value.ownBlock] using hj
        subst this; exact hgA))
    · refine owns_blk (h.rw.own i y hy) (fun j hj => ?_)
      have : y.1 = j := by simpa [rowV, Value.ownBlock] using hj
      subst this
      have hyr := row_at (h.rw.own i y hy)
      have hyA : y.1 ≠ A := fun he => by
        obtain ⟨c2, hc2⟩ := hyr.2.2
        rw [he, hAc] at hc2; cases hc2
      exact (Below.heap_setCell _ _ _ _ hyA).trans (hg.block _ hyr.2.1 (by simpa using h.rw.ne i k y x hy hx hik))
  · intro i j y z hy hz hij
    rcases hset i y hy with ⟨hi, rfl⟩ | ⟨hik, hy⟩
    · rcases hset j z hz with ⟨hj, _⟩ | ⟨hjk, hz⟩
      · omega
      · exact fun he => hgl j z hz hjk he.symm
    · rcases hset j z hz with ⟨hj, rfl⟩ | ⟨hjk, hz⟩
      · exact hgl i y hy hik
      · exact h.rw.ne i j y z hy hz hij
theorem AX.sls {W0 W : World} {A n cap : Nat} {R : List Rw} (h : AX W0 A n cap R W) : SlsAt W (some ⟨A, 0, none⟩) (R.map (·.2.2)) := fun _ => by
  refine ⟨A, 0, rfl, h.blk.2.1, fun j c hj => ?_⟩
  rw [List.getElem?_map] at hj
  cases hx : R[j]? with
  | none => rw [hx] at hj; cases hj
  | some x =>
    rw [hx] at hj
    have hjx : x.2.2 = c := by simpa using hj
    subst hjx
    have hc := h.av.cells (g := A) rfl j (rowV x) (by rw [List.getElem?_map, hx]; rfl)
    have e : (⟨A, 0, none⟩ : Addr).add j = ⟨A, 0 + j, none⟩ := by unfold Addr.add; split <;> simp_all
    rw [e] at hc
    obtain ⟨a', cap', hva, hi, _⟩ := ints_of_owns (h.rw.own j x hx)
    refine ⟨a', cap', ?_, hi⟩
    rw [← hva]; exact hc
theorem AX.cell {W0 W : World} {A n cap k : Nat} {R : List Rw} {x : Rw} (h : AX W0 A n cap R W) (hx : R[k]? = some x) : W.cell? ⟨A, k, none⟩ = some (rowV x) := by
  have hc := h.av.cells (g := A) rfl k (rowV x) (by rw [List.getElem?_map, hx]; rfl)
  have e : (⟨A, 0, none⟩ : Addr).add k = ⟨A, k, none⟩ := by unfold Addr.add; split <;> simp_all
  rwa [e] at hc
theorem AX.slot {W0 W W' : World} {A n cap k : Nat} {R : List Rw} {x : Rw} (h : AX W0 A n cap R W) (hx : R[k]? = some x) (hg : W.grownBy W' (some x.1)) : W'.cell? ⟨A, k, none⟩ = some (rowV x) ∧ W'.frozen? ⟨A, k, none⟩ = false := by
  obtain ⟨_, hA1, cur, hAc, _⟩ := h.blk
  have hAx : A ≠ x.1 := fun he => by
    obtain ⟨c2, hc2⟩ := (row_at (h.rw.own k x hx)).2.2
    rw [← he, hAc] at hc2; cases hc2
  have hA' : W'.heap[A]? = W.heap[A]? := hg.block A hA1 (by simpa using hAx)
  exact ⟨(World.cell?_of_block (w := W) (a := ⟨A, k, none⟩) hA').trans (h.cell hx), blk_free (hA'.trans hAc)⟩
end Go.Proofs.Ythajembgndhakaa
