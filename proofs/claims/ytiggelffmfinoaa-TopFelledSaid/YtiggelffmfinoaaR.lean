/-
  A list of rows that grows, and its rows (no function of the program).
  What is proved: what is read of them is kept where other blocks turn.
  Conditions: each lemma states its own.
-/
import Derived.Test.YtiggelffmfinoaaC
import Derived.Deep.AppendLies
namespace Go.Proofs.Ytiggelffmfinoaa
open Go.RowKit Go.Shelf

theorem grown_of_below {w w' : World} (h : Below w.heap.size w w') (row : Option Nat) : w.grownBy w' row := ⟨h.os, h.tape, h.output, h.size, fun k hk _ => h.block k hk⟩
theorem owns_below {w w' : World} {base : Nat} {e : TypeId} {size : Nat} {v : Value} {n : Nat} {xs : List Value} (h : w.ownsRow base e size v n xs) (hb : Below w.heap.size w w') : w'.ownsRow base e size v n xs :=
  h.kept (grown_of_below hb none) (by cases hv : v.ownBlock <;> simp)

theorem ints_of_owns {w : World} {base e : Nat} {v : Value} {n : Nat} {ys : List Int} (h : w.ownsRow base e 1 v n (ys.map (Value.int .i64))) : ∃ a cap, v = .slice a ys.length cap ∧ IntSl w a ys ∧ (∀ p, a = some p → base ≤ p.block) := by
  have hl : ys.length = n := by have := h.1; simpa using this
  subst hl
  rcases h.2 with ⟨rfl, h0⟩ | ⟨g, cap, cur, rfl, hb, hg, hnc, hcm, hcs, htake⟩
  · exact ⟨none, 0, by rw [h0], fun hp => by omega, fun p hp => by cases hp⟩
  · refine ⟨some ⟨g, 0, none⟩, cap, rfl, fun hp => ⟨g, 0, rfl, lt_of_block hg, fun j hj => ?_⟩, fun p hp => by cases hp; exact hb⟩
    have hc := h.cells (g := g) rfl j (.int .i64 (ys[j]?.getD 0)) (by simp [hj])
    have : (⟨g, 0, none⟩ : Addr).add j = ⟨g, 0 + j, none⟩ := by unfold Addr.add; split <;> simp_all
    rwa [this] at hc


/-- A row: its block, its capacity, its numbers. -/
abbrev Rw := Nat × Nat × List Int
def rowV (x : Rw) : Value := .slice (some ⟨x.1, 0, none⟩) x.2.2.length x.2.1
structure Rows (W : World) (base : Nat) (R : List Rw) : Prop where
  own : ∀ x ∈ R, W.ownsRow base 3 1 (rowV x) x.2.2.length (x.2.2.map (Value.int .i64))
  nd : (R.map (·.1)).Nodup
theorem row_at {W : World} {base : Nat} {x : Rw} (h : W.ownsRow base 3 1 (rowV x) x.2.2.length (x.2.2.map (Value.int .i64))) : base ≤ x.1 ∧ x.1 < W.heap.size ∧ ∃ cur, W.heap[x.1]? = some (.cells cur 3 (0, 0)) := by
  rcases h.2 with ⟨h0, _⟩ | ⟨g, cap, cur, hv, hb, hg, _⟩
  · cases h0
  · simp only [rowV, Value.slice.injEq, Option.some.injEq, Addr.mk.injEq, true_and, and_true] at hv
    obtain ⟨rfl, _⟩ := hv
    exact ⟨hb, lt_of_block hg, cur, hg⟩
theorem owns_blk {W W' : World} {base : Nat} {e : TypeId} {size : Nat} {v : Value} {n : Nat} {xs : List Value} (h : W.ownsRow base e size v n xs) (hk : ∀ k, v.ownBlock = some k → W'.heap[k]? = W.heap[k]?) : W'.ownsRow base e size v n xs := by
  refine ⟨h.1, ?_⟩
  rcases h.2 with hn | ⟨g, cap, cur, rfl, hb, hg, rest⟩
  · exact .inl hn
  · exact .inr ⟨g, cap, cur, rfl, hb, (hk g rfl).trans hg, rest⟩
theorem Rows.kept {W W' : World} {base : Nat} {R : List Rw} (h : Rows W base R) (hk : ∀ x ∈ R, W'.heap[x.1]? = W.heap[x.1]?) : Rows W' base R :=
  ⟨fun x hx => owns_blk (h.own x hx) (fun k he => by
    have : x.1 = k := by simpa [rowV, Value.ownBlock] using he
    subst this; exact hk x hx), h.nd⟩
theorem Rows.below {W W' : World} {base : Nat} {R : List Rw} (h : Rows W base R) (hb : Below W.heap.size W W') : Rows W' base R := h.kept (fun x hx => hb.block _ (row_at (h.own x hx)).2.1)

/-- A value that owns a row of slices does not own a row of numbers. -/
theorem own_ne {W : World} {b1 b2 s1 s2 n1 n2 : Nat} {v u : Value} {x1 x2 : List Value} (hv : W.ownsRow b1 23 s1 v n1 x1) (hu : W.ownsRow b2 3 s2 u n2 x2) : u.ownBlock = none ∨ u.ownBlock ≠ v.ownBlock := by
  rcases hu.2 with ⟨rfl, _⟩ | ⟨g, cap, cur, rfl, hb, hg, _⟩
  · exact .inl rfl
  · refine .inr (fun he => ?_)
    rcases hv.2 with ⟨rfl, _⟩ | ⟨g', cap', cur', rfl, hb', hg', _⟩
    · cases he
    · have : g = g' := by simpa [Value.ownBlock] using he
      subst this
      rw [hg] at hg'; cases hg'

/-- Two lists that grow: one of rows, one of numbers. -/
structure AW (W0 : World) (k j : Nat) (v u : Value) (R : List Rw) (W : World) : Prop where
  b : Below W0.heap.size W0 W
  av : W.ownsRow W0.heap.size 23 1 v k (R.map rowV)
  uv : W.ownsRow W0.heap.size 3 1 u j (List.replicate j (.int .i64 0))
  rw : Rows W W0.heap.size R
  un : ∀ x ∈ R, u.ownBlock ≠ some x.1
theorem AW.below {W0 W W' : World} {k j : Nat} {v u : Value} {R : List Rw} (h : AW W0 k j v u R W) (hb : Below W.heap.size W W') : AW W0 k j v u R W' :=
  ⟨h.b.trans (hb.mono h.b.size), owns_below h.av hb, owns_below h.uv hb, h.rw.below hb, h.un⟩
theorem AW.pushA {W0 W W' : World} {k j g0 : Nat} {v u v' : Value} {R : List Rw} {ms : Int} (h : AW W0 k j v u R W) (hg0 : W.heap[g0]? = some (.cells #[.int .i64 ms] 3 (0, 0))) (hb0 : W0.heap.size ≤ g0) (hu : u.ownBlock ≠ some g0) (hn : ∀ x ∈ R, x.1 ≠ g0)
    (hown : W'.ownsRow W0.heap.size 23 1 v' (k + 1) (R.map rowV ++ [.slice (some ⟨g0, 0, none⟩) 1 1])) (hg : W.grownBy W' v.ownBlock) : AW W0 (k + 1) j v' u (R ++ [(g0, 1, [ms])]) W' := by
  have hv : ∀ g, (∃ cur, W.heap[g]? = some (.cells cur 3 (0, 0))) → some g ≠ v.ownBlock := fun g ⟨cur, hc⟩ he => by
    rcases h.av.2 with ⟨rfl, _⟩ | ⟨g', cap', cur', rfl, hb', hg', _⟩
    · cases he
    · have : g = g' := by simpa [Value.ownBlock] using he
      subst this
      rw [hc] at hg'; cases hg'
  refine ⟨h.b.grown hg h.b.size (fun i hi => (h.av.lt i hi).1), by simpa [rowV] using hown, h.uv.kept hg (own_ne h.av h.uv), ⟨?_, ?_⟩, ?_⟩
  · intro x hx
    rcases List.mem_append.1 hx with hx | hx
    · have hr := row_at (h.rw.own x hx)
      refine owns_blk (h.rw.own x hx) (fun i hi => ?_)
      have : x.1 = i := by simpa [rowV, Value.ownBlock] using hi
      subst this
      exact hg.block _ hr.2.1 (hv _ hr.2.2)
    · simp at hx
      subst hx
      refine ⟨rfl, .inr ⟨g0, 1, #[.int .i64 ms], rfl, hb0, ?_, Nat.le_refl 1, (by show 1 ≤ maxLen; unfold maxLen; omega), rfl, rfl⟩⟩
      exact (hg.block _ (lt_of_block hg0) (hv _ ⟨_, hg0⟩)).trans hg0
  · rw [List.map_append, List.nodup_append]
    refine ⟨h.rw.nd, by simp, ?_⟩
    intro y hy z hz
    simp at hz
    obtain ⟨x, hx, rfl⟩ := List.mem_map.1 hy
    rw [hz]; exact hn x hx
  · intro x hx
    rcases List.mem_append.1 hx with hx | hx
    · exact h.un x hx
    · simp at hx; subst hx; exact hu
theorem AW.pushU {W0 W W' : World} {k j g H cap : Nat} {v u : Value} {R : List Rw} (h : AW W0 k j v u R W) (hown : W'.ownsRow W0.heap.size 3 1 (.slice (some ⟨g, 0, none⟩) (j + 1) cap) (j + 1) (List.replicate j (.int .i64 0) ++ [.int .i64 0])) (hg : W.grownBy W' u.ownBlock) (hl : u.ownBlock = some g ∨ g = H) (hH : W.heap.size = H) :
    AW W0 k (j + 1) v (.slice (some ⟨g, 0, none⟩) (j + 1) cap) R W' := by
  have e : List.replicate (j + 1) (Value.int .i64 0) = List.replicate j (.int .i64 0) ++ [.int .i64 0] := by rw [List.replicate_succ']
  refine ⟨h.b.grown hg h.b.size (fun i hi => (h.uv.lt i hi).1), ?_, by rw [e]; exact hown, h.rw.kept (fun x hx => hg.block _ (row_at (h.rw.own x hx)).2.1 (fun he => h.un x hx he.symm)), fun x hx he => ?_⟩
  · refine h.av.kept hg ?_
    rcases own_ne h.av h.uv with h1 | h1
    · cases hv : v.ownBlock with
      | none => exact .inl rfl
      | some i => exact .inr (by rw [h1]; simp)
    · exact .inr (fun he => h1 he.symm)
  · have he : g = x.1 := by simpa [Value.ownBlock] using he
    subst he
    rcases hl with hl | hl
    · exact h.un x hx hl
    · have := (row_at (h.rw.own x hx)).2.1
      omega

/-- A list of rows reads as a list of lists. -/
theorem sls_of_rows {W : World} {base n A cap : Nat} {R : List Rw} (hv : W.ownsRow base 23 1 (.slice (some ⟨A, 0, none⟩) n cap) n (R.map rowV)) (hr : Rows W base R) : SlsAt W (some ⟨A, 0, none⟩) (R.map (·.2.2)) := fun _ => by
  have hlt : A < W.heap.size := (hv.lt A rfl).2
  refine ⟨A, 0, rfl, hlt, fun j c hj => ?_⟩
  rw [List.getElem?_map] at hj
  cases hx : R[j]? with
  | none => rw [hx] at hj; cases hj
  | some x =>
    rw [hx] at hj
    have hjx : x.2.2 = c := by simpa using hj
    subst hjx
    have hc := hv.cells (g := A) rfl j (rowV x) (by rw [List.getElem?_map, hx]; rfl)
    have e : (⟨A, 0, none⟩ : Addr).add j = ⟨A, 0 + j, none⟩ := by unfold Addr.add; split <;> simp_all
    rw [e] at hc
    obtain ⟨a', cap', hva, hi, _⟩ := ints_of_owns (hr.own x (List.mem_of_getElem? hx))
    refine ⟨a', cap', ?_, hi⟩
    rw [← hva]; exact hc
end Go.Proofs.Ytiggelffmfinoaa
