/-
What happens in a spell, as a function of lists; and what play's memory holds.
  What is proved: the memory's facts go on from one store or append of play to the next.
  Conditions: each lemma states its own.
The contract of play over this seat's program.
  What is proved: what happens in a spell: the stocks, what is made, the day that fails, and the last day up to it on which the store was full.
  Conditions: a valid winter, and a weather of it.
The contract of lasts over this seat's program; and what a valid winter's bounds are.
  What is proved: lasts answers whether no day fails in the worst weather with a stock and a store.
  Conditions: at most 60 days, each within its bounds; a stock of at most the store, a store of at most 1000000.
The contract of atMost over this seat's program.
  What is proved: what the store has at most, by a proof, after snow is made on a day before which so much was left.
  Conditions: a day of the weather; numbers within their bounds.
-/
import Derived.Test.YtmebmcipmemofaaGreatPart8
import Derived.WalkMore
import Derived.Deep.DeepCutAuto
namespace Go.Proofs.YtmebmcipmemofaaGreat
open Go.RowKit Go.Shelf
attribute [local go_sem] Oper.semAt_some

structure Ps where
  stock : Int
  stocks : List Int
  made : List Int
  fails : Int
  full : Int
def lostD (s l : Int) : Int := min l s
def madeD (store s m l : Int) : Int := min m (store - (s - lostD s l))
def stepP (store : Int) (s : Ps) (k : Nat) (n m l : Int) : Ps :=
  if s.fails = -1 then
    (if s.stock + (madeD store s.stock m l - lostD s.stock l) < n then ⟨s.stock, s.stocks, s.made, k, if madeD store s.stock m l < m then k else s.full⟩
     else ⟨s.stock + (madeD store s.stock m l - lostD s.stock l) - n, s.stocks ++ [s.stock + (madeD store s.stock m l - lostD s.stock l) - n], s.made ++ [madeD store s.stock m l], -1, if madeD store s.stock m l < m then k else s.full⟩)
  else s
def playL (stock store : Int) (N M L : List Int) (k : Nat) : Ps := (List.range k).foldl (fun s i => stepP store s i (N[i]?.getD 0) (M[i]?.getD 0) (L[i]?.getD 0)) ⟨stock, [], [], -1, -1⟩
theorem playL_succ (stock store : Int) (N M L : List Int) (k : Nat) : playL stock store N M L (k + 1) = stepP store (playL stock store N M L k) k (N[k]?.getD 0) (M[k]?.getD 0) (L[k]?.getD 0) := by simp [playL, List.range_succ]

/-- The tale in memory, its rows spelled out. -/
def PT (w : World) (T : Nat) (s : Ps) (k : Nat) (wr : World) (sl ml pl : Value) (np : Nat) (fs : List Int) : Prop :=
  wr.heap[T]? = some (.cells #[sl, ml, pl, .int .i64 s.fails, .int .i64 s.full] 163 (0, 0)) ∧ wr.ownsRow (T + 1) 3 1 sl s.stocks.length (s.stocks.map (Value.int .i64)) ∧ wr.ownsRow (T + 1) 3 1 ml s.made.length (s.made.map (Value.int .i64)) ∧ wr.ownsRow (w.heap.size + 2) 85 2 pl np (fs.map (Value.int .i64)) ∧ np ≤ k + 1 ∧ (∀ i, sl.ownBlock = some i → ml.ownBlock ≠ some i)

/-- What play's memory holds. -/
structure PW (w : World) (T : Nat) (sp : Value) (s : Ps) (k : Nat) (wr : World) : Prop where
  b : Below w.heap.size w wr
  hT : w.heap.size + 2 ≤ T
  sp : wr.heap[w.heap.size]? = some (.cells sp.cells 156 (0, 0))
  rs : wr.heap[w.heap.size + 1]? = some (.cells #[.slice none 0 0, .slice none 0 0, .slice none 0 0, .int .i64 0, .int .i64 0] 163 (0, 0))
  t : ∃ (sl ml pl : Value) (np : Nat) (fs : List Int), PT w T s k wr sl ml pl np fs

/-- What play hands back. -/
def OutTale (w : World) (s : Ps) (e : Ending) (w' : World) : Prop := ∃ sa sc ma mc pa pn pc, e = .returned (.agg #[.slice sa s.stocks.length sc, .slice ma s.made.length mc, .slice pa pn pc, .int .i64 s.fails, .int .i64 s.full]) ∧ IntSl w' sa s.stocks ∧ IntSl w' ma s.made ∧ Below w.heap.size w w'
/-- The same; its lists are new. -/
def OutTaleF (w : World) (s : Ps) (e : Ending) (w' : World) : Prop := ∃ sa sc ma mc pa pn pc, e = .returned (.agg #[.slice sa s.stocks.length sc, .slice ma s.made.length mc, .slice pa pn pc, .int .i64 s.fails, .int .i64 s.full]) ∧ (IntSl w' sa s.stocks ∧ ∀ p, sa = some p → w.heap.size ≤ p.block) ∧ (IntSl w' ma s.made ∧ ∀ p, ma = some p → w.heap.size ≤ p.block) ∧ Below w.heap.size w w'
theorem OutTaleF.tale {w : World} {s : Ps} {e : Ending} {w' : World} (h : OutTaleF w s e w') : OutTale w s e w' := by
  obtain ⟨sa, sc, ma, mc, pa, pn, pc, h1, h2, h3, h4⟩ := h
  exact ⟨sa, sc, ma, mc, pa, pn, pc, h1, h2.1, h3.1, h4⟩
theorem five_put {w W : World} {B : Nat} {t : TypeId} {u0 u1 u2 u3 u4 v0 v1 v2 v3 v4 : Value} (h : W.heap[B]? = some (.cells #[u0, u1, u2, u3, u4] t (0, 0))) (hB : w.heap.size ≤ B) (k : Below w.heap.size w W) :
    Below w.heap.size w (((((W.setCell ⟨B, 0, none⟩ v0).setCell ⟨B, 1, none⟩ v1).setCell ⟨B, 2, none⟩ v2).setCell ⟨B, 3, none⟩ v3).setCell ⟨B, 4, none⟩ v4) ∧ (((((W.setCell ⟨B, 0, none⟩ v0).setCell ⟨B, 1, none⟩ v1).setCell ⟨B, 2, none⟩ v2).setCell ⟨B, 3, none⟩ v3).setCell ⟨B, 4, none⟩ v4).heap[B]? = some (.cells #[v0, v1, v2, v3, v4] t (0, 0)) ∧ (∀ k, k ≠ B → (((((W.setCell ⟨B, 0, none⟩ v0).setCell ⟨B, 1, none⟩ v1).setCell ⟨B, 2, none⟩ v2).setCell ⟨B, 3, none⟩ v3).setCell ⟨B, 4, none⟩ v4).heap[k]? = W.heap[k]?) ∧ W.heap.size ≤ (((((W.setCell ⟨B, 0, none⟩ v0).setCell ⟨B, 1, none⟩ v1).setCell ⟨B, 2, none⟩ v2).setCell ⟨B, 3, none⟩ v3).setCell ⟨B, 4, none⟩ v4).heap.size :=
  ⟨((((k.setCell (p := ⟨B, 0, none⟩) hB _).setCell (p := ⟨B, 1, none⟩) hB _).setCell (p := ⟨B, 2, none⟩) hB _).setCell (p := ⟨B, 3, none⟩) hB _).setCell (p := ⟨B, 4, none⟩) hB _,
   blk_setCell (j := 4) (u := v4) (blk_setCell (j := 3) (u := v3) (blk_setCell (j := 2) (u := v2) (blk_setCell (j := 1) (u := v1) (blk_setCell (j := 0) (u := v0) h)))),
   fun _ hk => (Below.heap_setCell _ _ _ _ hk).trans ((Below.heap_setCell _ _ _ _ hk).trans ((Below.heap_setCell _ _ _ _ hk).trans ((Below.heap_setCell _ _ _ _ hk).trans (Below.heap_setCell _ _ _ _ hk)))), by simp only [World.size_setCell]; exact Nat.le_refl _⟩
/-- What is known of the memory at play's end. -/
theorem PW.end {w : World} {T : Nat} {sp : Value} {s : Ps} {k : Nat} {wr : World} (h : PW w T sp s k wr) : ∃ sa sc ma mc pa pn pc, wr.heap[T]? = some (.cells #[.slice sa s.stocks.length sc, .slice ma s.made.length mc, .slice pa pn pc, .int .i64 s.fails, .int .i64 s.full] 163 (0, 0)) ∧
    Hid (((((((wr.setCell ⟨w.heap.size + 1, 0, none⟩ (.slice sa s.stocks.length sc)).setCell ⟨w.heap.size + 1, 1, none⟩ (.slice ma s.made.length mc)).setCell ⟨w.heap.size + 1, 2, none⟩ (.slice pa pn pc)).setCell ⟨w.heap.size + 1, 3, none⟩ (.int .i64 s.fails)).setCell ⟨w.heap.size + 1, 4, none⟩ (.int .i64 s.full))).heap[w.heap.size + 1]? = some (.cells #[.slice sa s.stocks.length sc, .slice ma s.made.length mc, .slice pa pn pc, .int .i64 s.fails, .int .i64 s.full] 163 (0, 0))) ∧ Hid (OutTaleF w s (.returned (.agg #[.slice sa s.stocks.length sc, .slice ma s.made.length mc, .slice pa pn pc, .int .i64 s.fails, .int .i64 s.full])) (((((wr.setCell ⟨w.heap.size + 1, 0, none⟩ (.slice sa s.stocks.length sc)).setCell ⟨w.heap.size + 1, 1, none⟩ (.slice ma s.made.length mc)).setCell ⟨w.heap.size + 1, 2, none⟩ (.slice pa pn pc)).setCell ⟨w.heap.size + 1, 3, none⟩ (.int .i64 s.fails)).setCell ⟨w.heap.size + 1, 4, none⟩ (.int .i64 s.full))) := by
  obtain ⟨sl, ml, pl, np, fs, h1, h2, h3, h4, h5, h6⟩ := h.t
  obtain ⟨sa, sc, rfl, hs, hsf⟩ := ints_of_owns h2
  obtain ⟨ma, mc, rfl, hm, hmf⟩ := ints_of_owns h3
  obtain ⟨pa, pc, rfl, _⟩ := flats_of_owns h4
  refine ⟨sa, sc, ma, mc, pa, np, pc, h1, ?_⟩
  obtain ⟨a1, a2, a3, a4⟩ := five_put (v0 := .slice sa s.stocks.length sc) (v1 := .slice ma s.made.length mc) (v2 := .slice pa np pc) (v3 := .int .i64 s.fails) (v4 := .int .i64 s.full) h.rs (show w.heap.size ≤ w.heap.size + 1 by omega) h.b
  exact ⟨a2, sa, sc, ma, mc, pa, np, pc, rfl, ⟨ints_put hs (Below.refl _ _) a3 a4 (fun p hp => by have := hsf p hp; have := h.hT; omega), fun p hp => by have := hsf p hp; have := h.hT; omega⟩, ⟨ints_put hm (Below.refl _ _) a3 a4 (fun p hp => by have := hmf p hp; have := h.hT; omega), fun p hp => by have := hmf p hp; have := h.hT; omega⟩, a1⟩
theorem PW.free {w : World} {T : Nat} {sp : Value} {s : Ps} {k : Nat} {wr : World} (h : PW w T sp s k wr) : (∀ j, wr.frozen? ⟨w.heap.size + 1, j, none⟩ = false) ∧ (∀ j, wr.frozen? ⟨T, j, none⟩ = false) ∧ w.heap.size + 1 < wr.heap.size ∧ T < wr.heap.size := by
  obtain ⟨sl, ml, pl, np, fs, h1, _⟩ := h.t
  exact ⟨fun j => blk_free h.rs, fun j => blk_free h1, lt_of_block h.rs, lt_of_block h1⟩

theorem PW.drewN {w : World} {T : Nat} {sp : Value} {s : Ps} {k : Nat} {wr : World} (h : PW w T sp s k wr) (q : Nat) : PW w T sp s k (wr.drewN q) :=
  ⟨⟨h.b.os, h.b.tape, h.b.output, h.b.size, h.b.block⟩, h.hT, h.sp, h.rs, h.t⟩
theorem owns_other {w : World} {base B j : Nat} {e : TypeId} {size : Nat} {v u : Value} {n : Nat} {xs : List Value} (h : w.ownsRow base e size v n xs) (hB : v.ownBlock ≠ some B) : (w.setCell ⟨B, j, none⟩ u).ownsRow base e size v n xs := by
  refine ⟨h.1, ?_⟩
  rcases h.2 with h1 | ⟨g, cap', cur, rfl, h2, h3, h4⟩
  · exact .inl h1
  · exact .inr ⟨g, cap', cur, rfl, h2, blk_other h3 (fun he => hB (by subst he; rfl)), h4⟩
theorem owns_blk {w : World} {base g : Nat} {e : TypeId} {size : Nat} {v : Value} {n : Nat} {xs : List Value} (h : w.ownsRow base e size v n xs) (hv : v.ownBlock = some g) : base ≤ g ∧ ∃ cs, w.heap[g]? = some (.cells cs e (0, 0)) := by
  rcases h.2 with ⟨rfl, _⟩ | ⟨g', cap', cur, rfl, h2, h3, h4⟩
  · cases hv
  · cases hv; exact ⟨h2, _, h3⟩
/-- A number of the tale is set. -/
theorem PW.put {w : World} {T : Nat} {sp : Value} {s s' : Ps} {k : Nat} {wr : World} (h : PW w T sp s k wr) (j : Nat) (x : Int) (hs : s'.stocks = s.stocks ∧ s'.made = s.made) (hj : (j = 3 ∧ s'.fails = x ∧ s'.full = s.full) ∨ (j = 4 ∧ s'.fails = s.fails ∧ s'.full = x)) : PW w T sp s' k (wr.setCell ⟨T, j, none⟩ (.int .i64 x)) := by
  obtain ⟨sl, ml, pl, np, fs, h1, h2, h3, h4, h5, h6⟩ := h.t
  have hT := h.hT
  have hne : ∀ {base e sz v n xs}, wr.ownsRow base e sz v n xs → (e ≠ 163) → v.ownBlock ≠ some T := fun ho he hv => by
    obtain ⟨_, cs, hc⟩ := owns_blk ho hv
    rw [h1] at hc
    cases hc
    exact he rfl
  refine ⟨h.b.setCell (p := ⟨T, j, none⟩) (by show w.heap.size ≤ T; omega) _, hT, blk_other h.sp (by omega), blk_other h.rs (by omega), sl, ml, pl, np, fs, ?_, ?_, ?_, owns_other h4 (hne h4 (by decide)), h5, h6⟩
  · rcases hj with ⟨rfl, e1, e2⟩ | ⟨rfl, e1, e2⟩ <;> rw [e1, e2] <;> exact blk_setCell h1
  · rw [hs.1]; exact owns_other h2 (hne h2 (by decide))
  · rw [hs.2]; exact owns_other h3 (hne h3 (by decide))

theorem PW.piles {w W w5 : World} {T : Nat} {sp : Value} {s : Ps} {k k' : Nat} (h : PW w T sp s k W) (hb : Below W.heap.size W w5) {v : Value} {np : Nat} {fs : List Int} (ho : w5.ownsRow W.heap.size 85 2 v np (fs.map (Value.int .i64))) (hn : np ≤ k' + 1) : PW w T sp s k' (w5.setCell ⟨T, 2, none⟩ v) := by
  obtain ⟨sl, ml, pl, np', fs', h1, h2, h3, h4, h5, h6⟩ := h.t
  have hT := h.hT
  have hTW := lt_of_block h1
  have hne : ∀ {base e sz v n xs}, W.ownsRow base e sz v n xs → (e ≠ 163) → v.ownBlock ≠ some T := fun ho he hv => by
    obtain ⟨_, cs, hc⟩ := owns_blk ho hv
    rw [h1] at hc
    cases hc
    exact he rfl
  exact ⟨(below_self h.b hb).setCell (p := ⟨T, 2, none⟩) (by show w.heap.size ≤ T; omega) _, hT, blk_other (blk_below h.sp hb) (by omega), blk_other (blk_below h.rs hb) (by omega), sl, ml, v, np, fs, blk_setCell (blk_below h1 hb), owns_other (owns_below h2 hb) (hne h2 (by decide)), owns_other (owns_below h3 hb) (hne h3 (by decide)), owns_other (owns_mono ho (by omega)) (fun hv => by have := (ho.lt _ hv).1; omega), hn, h6⟩
theorem PW.push0 {w W w' : World} {T : Nat} {sp : Value} {s : Ps} {k : Nat} (h : PW w T sp s k W) {sl ml pl : Value} {np : Nat} {fs : List Int} (ht : PT w T s k W sl ml pl np fs) (o : Obj) {v' : Value} {x : Int}
    (ho : w'.ownsRow (T + 1) 3 1 v' (s.stocks.length + 1) (s.stocks.map (Value.int .i64) ++ [.int .i64 x])) (hg : (W.alloc o).grownBy w' sl.ownBlock) (hv : v'.ownBlock = sl.ownBlock ∨ v'.ownBlock = some (W.alloc o).heap.size) :
    PW w T sp ⟨s.stock, s.stocks ++ [x], s.made, s.fails, s.full⟩ k (w'.setCell ⟨T, 0, none⟩ v') ∧ PT w T ⟨s.stock, s.stocks ++ [x], s.made, s.fails, s.full⟩ k (w'.setCell ⟨T, 0, none⟩ v') v' ml pl np fs ∧ w'.heap[T]? = W.heap[T]? := by
  obtain ⟨h1, h2, h3, h4, h5, h6⟩ := ht
  have hT := h.hT
  have hTW := lt_of_block h1
  have hsl : ∀ i, sl.ownBlock = some i → T + 1 ≤ i := fun i hi => (h2.lt i hi).1
  have keep : ∀ j, j < W.heap.size → some j ≠ sl.ownBlock → w'.heap[j]? = W.heap[j]? := fun j hj hn => (hg.block j (by rw [World.size_alloc]; omega) hn).trans (heap_alloc_old W o hj)
  have low : ∀ j, j ≤ T → w'.heap[j]? = W.heap[j]? := fun j hj => keep j (by omega) (fun e => by have := hsl j e.symm; omega)
  have hne : ∀ {base e sz v n xs}, W.ownsRow base e sz v n xs → (e ≠ 163) → v.ownBlock ≠ some T := fun ho he hv => by
    obtain ⟨_, cs, hc⟩ := owns_blk ho hv
    rw [h1] at hc
    cases hc
    exact he rfl
  have hml : ml.ownBlock = none ∨ ml.ownBlock ≠ sl.ownBlock := by
    cases hm : ml.ownBlock with
    | none => exact .inl rfl
    | some i => exact .inr (fun e => h6 i e.symm hm)
  have hpl : pl.ownBlock = none ∨ pl.ownBlock ≠ sl.ownBlock := by
    cases hm : pl.ownBlock with
    | none => exact .inl rfl
    | some i =>
      refine .inr (fun e => ?_)
      obtain ⟨_, c1, e1⟩ := owns_blk h4 hm
      obtain ⟨_, c2, e2⟩ := owns_blk h2 e.symm
      rw [e1] at e2; cases e2
  have PTN : PT w T ⟨s.stock, s.stocks ++ [x], s.made, s.fails, s.full⟩ k (w'.setCell ⟨T, 0, none⟩ v') v' ml pl np fs := by
    refine ⟨blk_setCell ((low T (Nat.le_refl _)).trans h1), ?_, owns_other ((h3.alloc o).kept hg hml) (hne h3 (by decide)), owns_other ((h4.alloc o).kept hg hpl) (hne h4 (by decide)), h5, ?_⟩
    · have e1 : (s.stocks ++ [x]).length = s.stocks.length + 1 := by simp
      have e2 : (s.stocks ++ [x]).map (Value.int .i64) = s.stocks.map (Value.int .i64) ++ [.int .i64 x] := by simp
      show World.ownsRow _ _ _ _ _ (s.stocks ++ [x]).length ((s.stocks ++ [x]).map (Value.int .i64))
      rw [e1, e2]
      exact owns_other ho (fun hv' => by have := (ho.lt _ hv').1; omega)
    · intro i hi hm
      rcases hv with hv | hv
      · exact h6 i (by rw [← hv]; exact hi) hm
      · rw [hv] at hi; cases hi
        have := (h3.lt _ hm).2
        rw [World.size_alloc] at this; omega
  exact ⟨⟨((h.b.alloc h.b.size o).grown hg (by rw [World.size_alloc]; have := h.b.size; omega) (fun i hi => by have := hsl i hi; omega)).setCell (p := ⟨T, 0, none⟩) (by show w.heap.size ≤ T; omega) _, hT, blk_other ((low _ (by omega)).trans h.sp) (by omega), blk_other ((low _ (by omega)).trans h.rs) (by omega), _, _, _, _, _, PTN⟩, PTN, low T (Nat.le_refl _)⟩
theorem PW.push1 {w W w' : World} {T : Nat} {sp : Value} {s : Ps} {k : Nat} (h : PW w T sp s k W) {sl ml pl : Value} {np : Nat} {fs : List Int} (ht : PT w T s k W sl ml pl np fs) (o : Obj) {v' : Value} {x : Int}
    (ho : w'.ownsRow (T + 1) 3 1 v' (s.made.length + 1) (s.made.map (Value.int .i64) ++ [.int .i64 x])) (hg : (W.alloc o).grownBy w' ml.ownBlock) (hv : v'.ownBlock = ml.ownBlock ∨ v'.ownBlock = some (W.alloc o).heap.size) :
    PW w T sp ⟨s.stock, s.stocks, s.made ++ [x], s.fails, s.full⟩ k (w'.setCell ⟨T, 1, none⟩ v') ∧ w'.heap[T]? = W.heap[T]? := by
  obtain ⟨h1, h2, h3, h4, h5, h6⟩ := ht
  have hT := h.hT
  have hTW := lt_of_block h1
  have hsl : ∀ i, ml.ownBlock = some i → T + 1 ≤ i := fun i hi => (h3.lt i hi).1
  have keep : ∀ j, j < W.heap.size → some j ≠ ml.ownBlock → w'.heap[j]? = W.heap[j]? := fun j hj hn => (hg.block j (by rw [World.size_alloc]; omega) hn).trans (heap_alloc_old W o hj)
  have low : ∀ j, j ≤ T → w'.heap[j]? = W.heap[j]? := fun j hj => keep j (by omega) (fun e => by have := hsl j e.symm; omega)
  have hne : ∀ {base e sz v n xs}, W.ownsRow base e sz v n xs → (e ≠ 163) → v.ownBlock ≠ some T := fun ho he hv => by
    obtain ⟨_, cs, hc⟩ := owns_blk ho hv
    rw [h1] at hc
    cases hc
    exact he rfl
  have hml : sl.ownBlock = none ∨ sl.ownBlock ≠ ml.ownBlock := by
    cases hm : sl.ownBlock with
    | none => exact .inl rfl
    | some i => exact .inr (fun e => h6 i hm e.symm)
  have hpl : pl.ownBlock = none ∨ pl.ownBlock ≠ ml.ownBlock := by
    cases hm : pl.ownBlock with
    | none => exact .inl rfl
    | some i =>
      refine .inr (fun e => ?_)
      obtain ⟨_, c1, e1⟩ := owns_blk h4 hm
      obtain ⟨_, c2, e2⟩ := owns_blk h3 e.symm
      rw [e1] at e2; cases e2
  have PTN : PT w T ⟨s.stock, s.stocks, s.made ++ [x], s.fails, s.full⟩ k (w'.setCell ⟨T, 1, none⟩ v') sl v' pl np fs := by
    refine ⟨blk_setCell ((low T (Nat.le_refl _)).trans h1), owns_other ((h2.alloc o).kept hg hml) (hne h2 (by decide)), ?_, owns_other ((h4.alloc o).kept hg hpl) (hne h4 (by decide)), h5, ?_⟩
    · have e1 : (s.made ++ [x]).length = s.made.length + 1 := by simp
      have e2 : (s.made ++ [x]).map (Value.int .i64) = s.made.map (Value.int .i64) ++ [.int .i64 x] := by simp
      show World.ownsRow _ _ _ _ _ (s.made ++ [x]).length ((s.made ++ [x]).map (Value.int .i64))
      rw [e1, e2]
      exact owns_other ho (fun hv' => by have := (ho.lt _ hv').1; omega)
    · intro i hi hm
      rcases hv with hv | hv
      · exact h6 i hi (by rw [← hv]; exact hm)
      · rw [hv] at hm; cases hm
        have := (h2.lt _ hi).2
        rw [World.size_alloc] at this; omega
  exact ⟨⟨((h.b.alloc h.b.size o).grown hg (by rw [World.size_alloc]; have := h.b.size; omega) (fun i hi => by have := hsl i hi; omega)).setCell (p := ⟨T, 1, none⟩) (by show w.heap.size ≤ T; omega) _, hT, blk_other ((low _ (by omega)).trans h.sp) (by omega), blk_other ((low _ (by omega)).trans h.rs) (by omega), _, _, _, _, _, PTN⟩, low T (Nat.le_refl _)⟩
theorem playL_stop (stock store : Int) (N M L : List Int) (k : Nat) (h : (playL stock store N M L k).fails ≠ -1) (n : Nat) (hn : k ≤ n) : playL stock store N M L n = playL stock store N M L k := by
  induction n with
  | zero => have : k = 0 := by omega
            subst this; rfl
  | succ n ih =>
    rcases Nat.lt_or_ge n k with h1 | h1
    · have : k = n + 1 := by omega
      subst this; rfl
    · rw [playL_succ, ih h1, stepP, if_neg h]

theorem pair_sl {w : World} {B : Nat} {x y : Int} {t : TypeId} (h : w.heap[B]? = some (.cells #[.int .i64 x, .int .i64 y] t (0, 0))) : IntSl w (some ⟨B, 0, none⟩) [x, y] := fun _ =>
  ⟨B, 0, rfl, lt_of_block h, fun j hj => by
    rw [cell_of_row w B _ _ _ _ h]
    exact match j, hj with
    | 0, _ => rfl
    | 1, _ => rfl
    | j + 2, hj => absurd (show j + 2 < 2 from hj) (by omega)⟩

end Go.Proofs.YtmebmcipmemofaaGreat

namespace Go.Proofs.YtmebmcipmemofaaGreat
open Go.RowKit Go.Shelf
attribute [local go_sem] Oper.semAt_some

theorem cell_two_new (w : World) (t : TypeId) (x y : Value) : ∀ j u, [x, y][j]? = some u → (w.alloc (.cells #[x, y] t)).cell? ((⟨w.heap.size, 0, none⟩ : Addr).add j) = some u := by
  intro j u hu
  have hadd : (⟨w.heap.size, 0, none⟩ : Addr).add j = ⟨w.heap.size, j, none⟩ := by unfold Addr.add; split <;> simp_all
  rw [hadd, cell_of_row _ _ _ _ _ _ (heap_alloc_new w _)]
  match j, hu with
  | 0, hu => simpa using hu
  | 1, hu => simpa using hu
  | j + 2, hu => simp at hu
theorem playL_len (stock store : Int) (N M L : List Int) (k : Nat) : (playL stock store N M L k).stocks.length ≤ k ∧ (playL stock store N M L k).made.length ≤ k := by
  induction k with
  | zero => exact ⟨Nat.le_refl _, Nat.le_refl _⟩
  | succ k ih =>
    rw [playL_succ, stepP]
    split
    · split
      · exact ⟨Nat.le_succ_of_le ih.1, Nat.le_succ_of_le ih.2⟩
      · exact ⟨by show (_ ++ [_]).length ≤ _; rw [List.length_append]; exact Nat.succ_le_succ ih.1, by show (_ ++ [_]).length ≤ _; rw [List.length_append]; exact Nat.succ_le_succ ih.2⟩
    · exact ⟨Nat.le_succ_of_le ih.1, Nat.le_succ_of_le ih.2⟩

set_option maxRecDepth 100000 in
set_option maxHeartbeats 4000000 in
theorem play_fresh (stock store : Int) (a : Option Addr) (n cap : Nat) (an : Option Addr) (N : List Int) (cn : Nat) (am : Option Addr) (M : List Int) (cm : Nat) (al : Option Addr) (L : List Int) (cl : Nat) (w : World)
    (hN : IntSl w an N) (hM : IntSl w am M) (hL : IntSl w al L) (hNn : N.length = n) (hMn : M.length = n) (hLn : L.length = n) (hn : n ≤ 60) (hst : 0 ≤ stock ∧ stock ≤ store ∧ store ≤ 1000000)
    (hb : (∀ x ∈ N, 0 ≤ x ∧ x ≤ 100000) ∧ (∀ x ∈ M, 0 ≤ x ∧ x ≤ 100000) ∧ (∀ x ∈ L, 0 ≤ x ∧ x ≤ 100000)) :
    Calls Tryz.prog 120 #[sv stock store a n cap an n cn am n cm al n cl] w (OutTaleF w (playL stock store N M L n)) := by
  have HH := Lib.hid (And.intro hN (And.intro hM (And.intro hL (And.intro hNn (And.intro hMn hLn)))))
  have HB := Lib.hid hb
  have HS := Lib.hid hst
  clear hN hM hL hNn hMn hLn hb hst
  obtain ⟨Wa, hWa⟩ : ∃ Wa, (w.alloc (.cells #[.int .i64 stock, .int .i64 store, .slice a n cap, .slice an n cn, .slice am n cm, .slice al n cl] 156)).alloc (.cells #[.slice none 0 0, .slice none 0 0, .slice none 0 0, .int .i64 0, .int .i64 0] 163) = Wa := ⟨_, rfl⟩
  have hba : Below w.heap.size w Wa := by rw [← hWa]; exact ((Below.refl _ _).alloc (Nat.le_refl _) _).alloc (by simp) _
  have h0 : Wa.heap[w.heap.size]? = some (.cells #[.int .i64 stock, .int .i64 store, .slice a n cap, .slice an n cn, .slice am n cm, .slice al n cl] 156 (0, 0)) := by rw [← hWa]; exact alk (new_at rfl)
  have r0 : Wa.heap[w.heap.size + 1]? = some (.cells #[.slice none 0 0, .slice none 0 0, .slice none 0 0, .int .i64 0, .int .i64 0] 163 (0, 0)) := by rw [← hWa]; exact new_at (by simp)
  have c0 := blk_cell h0 0 rfl
  go_enter Tryz.func120, Tryz.ntmps120
  go_wp2
  go_step3
  have hbc : Below Wa.heap.size Wa (Wa.alloc (.cells #[.int .i64 (-1), .int .i64 stock] 85)) := (Below.refl _ _).alloc (Nat.le_refl _) _
  have hnc : (Wa.alloc (.cells #[.int .i64 (-1), .int .i64 stock] 85)).heap[Wa.heap.size]? = some (.cells #[.int .i64 (-1), .int .i64 stock] 85 (0, 0)) := heap_alloc_new _ _
  go_wp2_with (fail)
  refine (drained_any (some ⟨Wa.heap.size, 0, none⟩) [-1, stock] 1 1 0 _ (pair_sl hnc) rfl (fun h => by cases h) (Nat.le_refl _) (by omega)).mono ?_
  rintro e w1 ⟨np, fs, hfs, hnp, pa, pcap, rfl, hown, hb1⟩
  have hza : Wa.heap.size = w.heap.size + 2 := by rw [← hWa]; simp
  have hown' : w1.ownsRow (w.heap.size + 2) 85 2 (.slice pa np pcap) np (fs.map (Value.int .i64)) := owns_mono hown (by rw [World.size_alloc, hza]; omega)
  have k1 : Below w.heap.size w w1 := below_self (below_self hba hbc) hb1
  have h1 := blk_below (blk_below h0 hbc) hb1
  have r1 := blk_below (blk_below r0 hbc) hb1
  have hz1 : w.heap.size + 3 ≤ w1.heap.size := by have := hb1.size; rw [World.size_alloc, hza] at this; omega
  clear hnc hown hb1 hbc h0 r0 c0 hba hza hWa
  obtain ⟨Wt, hWt⟩ : ∃ Wt, w1.alloc (.cells #[.slice none 0 0, .slice none 0 0, .slice pa np pcap, .int .i64 (-1), .int .i64 (-1)] 163) = Wt := ⟨_, rfl⟩
  have hbt : Below w1.heap.size w1 Wt := by rw [← hWt]; exact (Below.refl _ _).alloc (Nat.le_refl _) _
  have hT : Wt.heap[w1.heap.size]? = some (.cells #[.slice none 0 0, .slice none 0 0, .slice pa np pcap, .int .i64 (-1), .int .i64 (-1)] 163 (0, 0)) := by rw [← hWt]; exact heap_alloc_new _ _
  have hPW : PW w w1.heap.size (sv stock store a n cap an n cn am n cm al n cl) ⟨stock, [], [], -1, -1⟩ 0 Wt :=
    ⟨below_self k1 hbt, by omega, blk_below h1 hbt, blk_below r1 hbt, _, _, _, np, fs, hT, World.ownsRow_nil _ _ _ _, World.ownsRow_nil _ _ _ _, owns_below hown' hbt, by omega, (fun i h => by cases h)⟩
  have d0 := blk_cell (blk_below h1 hbt) 0 rfl
  have d2 := blk_cell (blk_below h1 hbt) 2 rfl
  have HP := Lib.hid hPW
  clear hPW hT hbt k1 h1 r1 hown' hfs hnp
  generalize hTT : w1.heap.size = T at HP hz1 hWt ⊢
  go_wp2_with (fail)
  go_step3
  go_wp2_with (fail)
  clear hWt d0 d2 hTT
  go_loopw [4, 24] (fun st i wr => ∃ (k : Nat) (s : Ps), k ≤ n ∧ i = .int .i64 k ∧ Hid (s = playL stock store N M L k) ∧ st = .int .i64 s.stock ∧ Hid (s.fails = -1) ∧ Hid (0 ≤ s.stock ∧ s.stock ≤ store) ∧ Hid (PW w T (sv stock store a n cap an n cn am n cm al n cl) s k wr)) (fun _ i _ => n - (intOf i).toNat)
  case atStart => exact ⟨0, _, Nat.zero_le _, rfl, rfl, rfl, rfl, ⟨HS.out.1, HS.out.2.1⟩, HP⟩
  case round =>
    obtain ⟨k, s, hk, rfl, hs, rfl, hf, hst, hpw⟩ := hrel
    by_cases hlt : k < n
    · obtain ⟨hN, hM, hL, hNn, hMn, hLn⟩ := HH.out
      obtain ⟨bn, on, rfl, hbn, hcn⟩ := hN (by omega)
      obtain ⟨bm, om, rfl, hbm, hcm⟩ := hM (by omega)
      obtain ⟨bl, ol, rfl, hbl, hcl⟩ := hL (by omega)
      have cN := (hpw.out.b.cell (p := ⟨bn, on + k, none⟩) hbn).trans (hcn k (by omega))
      have cM := (hpw.out.b.cell (p := ⟨bm, om + k, none⟩) hbm).trans (hcm k (by omega))
      have cL := (hpw.out.b.cell (p := ⟨bl, ol + k, none⟩) hbl).trans (hcl k (by omega))
      have bN : 0 ≤ N[k]?.getD 0 ∧ N[k]?.getD 0 ≤ 100000 := HB.out.1 _ (by rw [List.getElem?_eq_getElem (by omega)]; exact List.getElem_mem _)
      have bM : 0 ≤ M[k]?.getD 0 ∧ M[k]?.getD 0 ≤ 100000 := HB.out.2.1 _ (by rw [List.getElem?_eq_getElem (by omega)]; exact List.getElem_mem _)
      have bL : 0 ≤ L[k]?.getD 0 ∧ L[k]?.getD 0 ≤ 100000 := HB.out.2.2 _ (by rw [List.getElem?_eq_getElem (by omega)]; exact List.getElem_mem _)
      have HSTEP : Hid (playL stock store N M L (k + 1) = stepP store s k (N[k]?.getD 0) (M[k]?.getD 0) (L[k]?.getD 0)) := by show _ = _; rw [playL_succ, ← hs.out]
      generalize N[k]?.getD 0 = nk at cN bN HSTEP
      generalize M[k]?.getD 0 = mk at cM bM HSTEP
      generalize L[k]?.getD 0 = lk at cL bL HSTEP
      have c1 := blk_cell hpw.out.sp 1 rfl
      have c3 := blk_cell hpw.out.sp 3 rfl
      have c4 := blk_cell hpw.out.sp 4 rfl
      have c5 := blk_cell hpw.out.sp 5 rfl
      have hst' := hst.out
      have hS3 := HS.out
      clear hcn hcm hcl hN hM hL
      go_wp2_with (fail)
      go_quiet (fail)
      clear cN cM c1 c3 c4 HP hz1
      have HB3 := Lib.hid (And.intro hS3 (And.intro hst' (And.intro bN (And.intro bM bL))))
      have hn' := hn
      have HLT := Lib.hid hlt
      clear hS3 hst' hn bN bM bL
      go_upto_region 8 with (fail)
      have hlo : (if s.stock < lk then s.stock else lk) = lostD s.stock lk := by unfold lostD; have := HB3.out; split <;> omega
      have blo : 0 ≤ lostD s.stock lk ∧ lostD s.stock lk ≤ s.stock := by unfold lostD; have := HB3.out; omega
      rw [hlo]
      clear hlo
      have hpw2 := Lib.hid (hpw.out.drewN nq)
      clear hpw
      generalize wr.drewN nq = W1 at hpw2 ⊢
      have c1 := blk_cell hpw2.out.sp 1 rfl
      obtain ⟨lo, hlo⟩ : ∃ lo, lostD s.stock lk = lo := ⟨_, rfl⟩
      rw [hlo] at blo ⊢
      have HLO := Lib.hid hlo
      clear hlo
      have b1 := HB3.out.1
      have b2 := HB3.out.2.1
      have b3 := HB3.out.2.2.2.1
      go_upto_region 9 with (fail)
      have hma' : (if store - (s.stock - lo) < mk then store - (s.stock - lo) else mk) = madeD store s.stock mk lk := by unfold madeD; rw [HLO.out]; split <;> omega
      have bma : 0 ≤ madeD store s.stock mk lk ∧ madeD store s.stock mk lk ≤ mk ∧ s.stock - lo + madeD store s.stock mk lk ≤ store := by unfold madeD; rw [HLO.out]; omega
      rw [hma']
      clear hma' c1
      obtain ⟨ma, hma⟩ : ∃ ma, madeD store s.stock mk lk = ma := ⟨_, rfl⟩
      rw [hma] at bma ⊢
      have HMA := Lib.hid hma
      clear hma
      by_cases hfu : ma < mk
      · have g3 := hpw2.out.free.2.1 4
        have g4 := hpw2.out.free.2.2.2
        obtain ⟨_, _, _, _, _, hT2, _⟩ := hpw2.out.t
        have t3 := blk_cell hT2 4 rfl
        clear hT2
        go_upto_region 11 with (fail)
        have hpw3 := Lib.hid (hpw2.out.put (s' := ⟨s.stock, s.stocks, s.made, s.fails, if ma < mk then (k : Int) else s.full⟩) 4 k ⟨rfl, rfl⟩ (.inr ⟨rfl, rfl, if_pos hfu⟩))
        clear hpw2 g3 g4 t3
        generalize W1.setCell ⟨T, 4, none⟩ (.int .i64 k) = W2 at hpw3 ⊢
        clear hfu
        generalize hs2' : (⟨s.stock, s.stocks, s.made, s.fails, if ma < mk then (k : Int) else s.full⟩ : Ps) = s2 at hpw3
        have hs2 := Lib.hid hs2'
        clear hs2'
        go_upto_region 13 with (fail)
        generalize hst2 : s.stock + (ma - lo) = st2
        have HST := Lib.hid hst2
        have bst : 0 ≤ st2 ∧ st2 ≤ store ∧ store ≤ 1000000 := by omega
        clear hst2 blo bma b1 b2 b3
        by_cases hfa : st2 < nk
        · skip
          have HF : Hid (playL stock store N M L n = ⟨s2.stock, s2.stocks, s2.made, k, s2.full⟩) := by
            show _ = _
            have h1 : playL stock store N M L (k + 1) = ⟨s2.stock, s2.stocks, s2.made, k, s2.full⟩ := by
              rw [HSTEP.out, stepP, if_pos hf.out, HMA.out, HLO.out, if_pos (by rw [HST.out]; exact hfa), ← hs2.out]
            rw [← h1]
            exact playL_stop _ _ _ _ _ _ (by rw [h1]; show (k : Int) ≠ -1; omega) _ (by omega)
          obtain ⟨W3, hW3⟩ : ∃ W3, W2.setCell ⟨T, 3, none⟩ (.int .i64 k) = W3 := ⟨_, rfl⟩
          have hpw4 : Hid (PW w T (sv stock store a n cap (some ⟨bn, on, none⟩) n cn (some ⟨bm, om, none⟩) n cm (some ⟨bl, ol, none⟩) n cl) ⟨s2.stock, s2.stocks, s2.made, k, s2.full⟩ k W3) := by rw [← hW3]; exact hpw3.out.put 3 k ⟨rfl, rfl⟩ (.inl ⟨rfl, rfl, rfl⟩)
          have g3 := hpw3.out.free.2.1 3
          have g4 := hpw3.out.free.2.2.2
          obtain ⟨_, _, _, _, _, hT2, _⟩ := hpw3.out.t
          have t3 := blk_cell hT2 3 rfl
          clear hT2
          obtain ⟨sa, sc, ma', mc, pa2, pn, pc, hTc, HC, HO⟩ := hpw4.out.end
          have r0 := hpw4.out.rs
          have b0 := blk_cell r0 0 rfl
          have b1 := blk_cell r0 1 rfl
          have b2 := blk_cell r0 2 rfl
          have b3 := blk_cell r0 3 rfl
          have b4 := blk_cell r0 4 rfl
          have f0 := blk_free (j := 0) r0
          have f1 := blk_free (j := 1) r0
          have f2 := blk_free (j := 2) r0
          have f3 := blk_free (j := 3) r0
          have f4 := blk_free (j := 4) r0
          have e0 := blk_cell hTc 0 rfl
          have e1 := blk_cell hTc 1 rfl
          have e2 := blk_cell hTc 2 rfl
          have e3 := blk_cell hTc 3 rfl
          have e4 := blk_cell hTc 4 rfl
          clear hTc r0
          go_wp2_with (fail)
          clear b0 b1 b2 b3 b4 f0 f1 f2 f3 f4 e0 e1 e2 e3 e4
          try rw [Exit.noGoto_ret]
          generalize (((((W3.setCell ⟨w.heap.size + 1, 0, none⟩ (.slice sa s2.stocks.length sc)).setCell ⟨w.heap.size + 1, 1, none⟩ (.slice ma' s2.made.length mc)).setCell ⟨w.heap.size + 1, 2, none⟩ (.slice pa2 pn pc)).setCell ⟨w.heap.size + 1, 3, none⟩ (.int .i64 k)).setCell ⟨w.heap.size + 1, 4, none⟩ (.int .i64 s2.full)) = W5 at HC HO ⊢
          have q0 := blk_cell HC.out 0 rfl
          have q1 := blk_cell HC.out 1 rfl
          have q2 := blk_cell HC.out 2 rfl
          have q3 := blk_cell HC.out 3 rfl
          have q4 := blk_cell HC.out 4 rfl
          refine bodyPost_ret (v := .agg #[.slice sa s2.stocks.length sc, .slice ma' s2.made.length mc, .slice pa2 pn pc, .int .i64 k, .int .i64 s2.full]) (by simp [results, Tryz.results120, go_sem, q0, q1, q2, q3, q4]) rfl ?_
          rw [HF.out]
          exact HO.out

        · have bst4 : 0 ≤ st2 - nk ∧ st2 - nk ≤ 1000000 := by have := HB3.out.2.2.1; omega
          have BST := Lib.hid bst
          obtain ⟨sl, ml, pl, np2, fs2, hTc, hO1, hO2, hO3, hnp2, hdis⟩ := hpw3.out.t
          obtain ⟨pa3, pc3, rfl, _⟩ := flats_of_owns hO3
          have HF := Lib.hid (owns_form hO3)
          have p2 := blk_cell hTc 2 rfl
          have p3 := blk_free (j := 2) hTc
          have HNP := Lib.hid hnp2
          have HTc := Lib.hid hTc
          have hTlt := lt_of_block hTc
          have HHn := Lib.hid hn'
          clear hTc hO1 hO2 hO3 hnp2 hdis bst hn'
          by_cases hmd : 0 < ma
          · go_wp2_with (fail)
            refine (drained_any pa3 fs2 np2 pc3 _ _ HF.out.1 HF.out.2.2.2.2.2 HF.out.2.2.2.1 HF.out.2.2.2.2.1 (by have := HNP.out; have := HHn.out; omega)).mono ?_
            rintro e w5 ⟨np5, fs5, hfs5, hnp5, pa5, pc5, rfl, hO5, hb5⟩
            obtain ⟨j0, hj, hjz0, hjz1, hjz2⟩ := info_parts Tryz.info85
            have HNP5 : Hid (np5 ≤ k + 1 ∧ k + 1 ≤ 61) := by have := HNP.out; have := HHn.out; have := HLT.out; exact ⟨by omega, by omega⟩
            have HO5 := Lib.hid hO5
            have HB5 := Lib.hid hb5
            clear hO5 hb5 hfs5 hnp5 p2 p3
            go_wp2_with (at_builtin; refine wpList_append_own_at _ rfl _ _ 77 rfl W2.heap.size 85 j0 (.agg #[.int .i64 0, .int .i64 0]) 2 16 Tryz.underlying77 hj hjz0 hjz1 hjz2 rfl (by decide) (.slice pa5 np5 pc5) np5 (fs5.map (Value.int .i64)) rfl (HO5.out.alloc _) ⟨w5.heap.size, 0, none⟩ 1 1 [.int .i64 k, .int .i64 ma] rfl rfl (cell_two_new _ _ _ _) (by intro u hu; simp at hu; rcases hu with rfl | rfl <;> rfl) (by have := HNP5.out; unfold maxLen; omega) (by have := HNP5.out; omega) (by have := HB5.out.size; rw [World.size_alloc]; omega) ?_)
            intro v6 w6 hown6 hgrow6 _ hv6
            obtain ⟨g6, cap6, rfl⟩ := ownsRow_succ hown6
            have hb6 : Below W2.heap.size W2 w6 := (HB5.out.alloc HB5.out.size _).grown hgrow6 (by rw [World.size_alloc]; have := HB5.out.size; omega) (fun j hj => (HO5.out.lt j hj).1)
            have hown6' : w6.ownsRow W2.heap.size 85 2 (.slice (some ⟨g6, 0, none⟩) (np5 + 1) cap6) (np5 + 1) ((fs5 ++ [(k : Int), ma]).map (Value.int .i64)) := by simpa using hown6
            have hpw6 := Lib.hid (hpw3.out.piles (k' := k + 1) hb6 hown6' (by have := HNP5.out; omega))
            have t6 := blk_below HTc.out hb6
            have y6 := blk_cell t6 2 rfl
            have y6f := blk_free (j := 2) t6
            clear t6 hown6' hb6 hown6 hgrow6 hv6
            go_upto_region 17 with (fail)
            generalize w6.setCell ⟨T, 2, none⟩ (.slice (some ⟨g6, 0, none⟩) (np5 + 1) cap6) = W6 at hpw6 ⊢
            clear y6 y6f
            obtain ⟨sl6, ml6, pl6, np6, fs6, hTc6, _, _, hO6, hnp6, _⟩ := hpw6.out.t
            obtain ⟨pa6, pc6, rfl, _⟩ := flats_of_owns hO6
            have HF6 := Lib.hid (owns_form hO6)
            have p2 := blk_cell hTc6 2 rfl
            have p3 := blk_free (j := 2) hTc6
            have HNP6 := Lib.hid hnp6
            have HTc6 := Lib.hid hTc6
            have hTlt6 := lt_of_block hTc6
            clear hTc6 hO6 hnp6
            go_wp2_with (fail)
            refine (drained_any pa6 fs6 np6 pc6 _ _ HF6.out.1 HF6.out.2.2.2.2.2 HF6.out.2.2.2.1 HF6.out.2.2.2.2.1 (by have := HNP6.out; have := HNP5.out; omega)).mono ?_
            rintro e w7 ⟨np7, fs7, hfs7, hnp7, pa7, pc7, rfl, hO7, hb7⟩
            have hpw5 := Lib.hid (hpw6.out.piles (k' := k + 1) hb7 hO7 (by have := HNP6.out; omega))
            have p5 := blk_free (j := 2) (blk_below HTc6.out hb7)
            have p6 := blk_cell (blk_below HTc6.out hb7) 2 rfl
            clear hb7 hO7 hfs7 hnp7 p2 p3
            go_upto_region 19 with (fail)
            generalize w7.setCell ⟨T, 2, none⟩ (.slice pa7 np7 pc7) = W5 at hpw5 ⊢
            clear p5 p6
            have HLEN : Hid (s2.stocks.length ≤ 60 ∧ s2.made.length ≤ 60) := by
              have h1 := playL_len stock store N M L k
              rw [← hs.out] at h1
              have h2 := HHn.out
              show _ ∧ _
              rw [← hs2.out]
              exact ⟨by show s.stocks.length ≤ 60; omega, by show s.made.length ≤ 60; omega⟩
            have HEQ : Hid (playL stock store N M L (k + 1) = ⟨st2 - nk, s2.stocks ++ [st2 - nk], s2.made ++ [ma], -1, s2.full⟩) := by
              show _ = _
              rw [HSTEP.out, stepP, if_pos hf.out, HMA.out, HLO.out, HST.out, if_neg (by omega), ← hs2.out]
            have HFL : Hid (s2.fails = -1) := by show _ = _; rw [← hs2.out]; exact hf.out
            obtain ⟨sl5, ml5, pl5, np5', fs5', PT5⟩ := hpw5.out.t
            have HPT5 : Hid (PT w T s2 (k + 1) W5 sl5 ml5 pl5 np5' fs5') := PT5
            have q0 := blk_cell PT5.1 0 rfl
            have r0 := blk_free (j := 0) PT5.1
            clear PT5
            obtain ⟨i0, hi, hz0, hz1, hz2⟩ := info_parts Tryz.info3
            go_wp2_with (at_builtin; refine wpList_append_own_at _ rfl _ _ 27 rfl (T + 1) 3 i0 (.int .i64 0) 1 8 Tryz.underlying27 hi hz0 hz1 hz2 rfl (by decide) sl5 s2.stocks.length (s2.stocks.map (Value.int .i64)) rfl (HPT5.out.2.1.alloc _) ⟨W5.heap.size, 0, none⟩ 1 1 [.int .i64 (st2 - nk)] rfl rfl ?c1 ?c2 ?c3 ?c4 ?c5 ?_)
            case c1 => exact cell_one_new _ _ _
            case c2 => intro u hu; simp at hu; subst hu; rfl
            case c3 => have := HLEN.out.1; unfold maxLen; omega
            case c4 => have := HLEN.out.1; omega
            case c5 => have := lt_of_block HPT5.out.1; rw [World.size_alloc]; omega
            intro v6 w6 hown6 hgrow6 _ hv6
            obtain ⟨g6, cap6, rfl⟩ := ownsRow_succ hown6
            obtain ⟨hpw6, hpt6, hh6⟩ := hpw5.out.push0 HPT5.out _ hown6 hgrow6 (by rw [World.size_alloc]; exact hv6)
            have z0 := hh6.trans HPT5.out.1
            have y0 := blk_cell z0 0 rfl
            have y0f := blk_free (j := 0) z0
            have HPP := Lib.hid (And.intro hpw6 hpt6)
            clear hpw6 hpt6 hh6 z0 hown6 hgrow6 hv6 q0 r0
            go_upto_region 20 with (fail)
            clear y0 y0f
            have hpw6 := HPP.out.1
            have hpt6 := HPP.out.2
            clear HPP
            generalize w6.setCell ⟨T, 0, none⟩ (.slice (some ⟨g6, 0, none⟩) (s2.stocks.length + 1) cap6) = W6 at hpw6 hpt6 ⊢
            have HPW6 := Lib.hid hpw6
            have HPT6 := Lib.hid hpt6
            have y1 := blk_cell hpt6.1 1 rfl
            have y1f := blk_free (j := 1) hpt6.1
            clear hpw6 hpt6
            go_wp2_with (at_builtin; refine wpList_append_own_at _ rfl _ _ 27 rfl (T + 1) 3 i0 (.int .i64 0) 1 8 Tryz.underlying27 hi hz0 hz1 hz2 rfl (by decide) ml5 s2.made.length (s2.made.map (Value.int .i64)) rfl (HPT6.out.2.2.1.alloc _) ⟨W6.heap.size, 0, none⟩ 1 1 [.int .i64 ma] rfl rfl (cell_one_new _ _ _) (by intro u hu; simp at hu; subst hu; rfl) (by have := HLEN.out.2; unfold maxLen; omega) (by have := HLEN.out.2; omega) (by have := lt_of_block HPT6.out.1; rw [World.size_alloc]; omega) ?_)
            intro v7 w7 hown7 hgrow7 _ hv7
            obtain ⟨g7, cap7, rfl⟩ := ownsRow_succ hown7
            obtain ⟨hpw7, hh7⟩ := HPW6.out.push1 HPT6.out _ hown7 hgrow7 (by rw [World.size_alloc]; exact hv7)
            have z1 := hh7.trans HPT6.out.1
            have y2 := blk_cell z1 1 rfl
            have y2f := blk_free (j := 1) z1
            have HPW7 := Lib.hid hpw7
            clear hpw7 hh7 z1 hown7 hgrow7 hv7 y1 y1f
            have hk1 := HLT.out
            have hk2 := HHn.out
            go_wp2
            go_roundw
            case rel => exact ⟨k + 1, ⟨st2 - nk, s2.stocks ++ [st2 - nk], s2.made ++ [ma], -1, s2.full⟩, HLT.out, by have := HHn.out; have := HLT.out; go_num, HEQ.out.symm, rfl, rfl, ⟨bst4.1, by have := HB3.out.2.2.1; have := BST.out; show st2 - nk ≤ store; omega⟩, ⟨HPW7.out.b, HPW7.out.hT, HPW7.out.sp, HPW7.out.rs, by have h := HPW7.out.t; rw [HFL.out] at h; exact h⟩⟩
            case measure => have := HLT.out; have := HHn.out; simp [intOf]; omega
          · go_wp2_with (fail)
            refine (drained_any pa3 fs2 np2 pc3 _ _ HF.out.1 HF.out.2.2.2.2.2 HF.out.2.2.2.1 HF.out.2.2.2.2.1 (by have := HNP.out; have := HHn.out; omega)).mono ?_
            rintro e w5 ⟨np5, fs5, hfs5, hnp5, pa5, pc5, rfl, hO5, hb5⟩
            have hpw5 := Lib.hid (hpw3.out.piles (k' := k + 1) hb5 hO5 (by have := HNP.out; omega))
            have p5 := blk_free (j := 2) (blk_below HTc.out hb5)
            have p6 := blk_cell (blk_below HTc.out hb5) 2 rfl
            clear hb5 hO5 hfs5 hnp5 p2 p3
            go_upto_region 19 with (fail)
            generalize w5.setCell ⟨T, 2, none⟩ (.slice pa5 np5 pc5) = W5 at hpw5 ⊢
            clear p5 p6
            have HLEN : Hid (s2.stocks.length ≤ 60 ∧ s2.made.length ≤ 60) := by
              have h1 := playL_len stock store N M L k
              rw [← hs.out] at h1
              have h2 := HHn.out
              show _ ∧ _
              rw [← hs2.out]
              exact ⟨by show s.stocks.length ≤ 60; omega, by show s.made.length ≤ 60; omega⟩
            have HEQ : Hid (playL stock store N M L (k + 1) = ⟨st2 - nk, s2.stocks ++ [st2 - nk], s2.made ++ [ma], -1, s2.full⟩) := by
              show _ = _
              rw [HSTEP.out, stepP, if_pos hf.out, HMA.out, HLO.out, HST.out, if_neg (by omega), ← hs2.out]
            have HFL : Hid (s2.fails = -1) := by show _ = _; rw [← hs2.out]; exact hf.out
            obtain ⟨sl5, ml5, pl5, np5', fs5', PT5⟩ := hpw5.out.t
            have HPT5 : Hid (PT w T s2 (k + 1) W5 sl5 ml5 pl5 np5' fs5') := PT5
            have q0 := blk_cell PT5.1 0 rfl
            have r0 := blk_free (j := 0) PT5.1
            clear PT5
            obtain ⟨i0, hi, hz0, hz1, hz2⟩ := info_parts Tryz.info3
            go_wp2_with (at_builtin; refine wpList_append_own_at _ rfl _ _ 27 rfl (T + 1) 3 i0 (.int .i64 0) 1 8 Tryz.underlying27 hi hz0 hz1 hz2 rfl (by decide) sl5 s2.stocks.length (s2.stocks.map (Value.int .i64)) rfl (HPT5.out.2.1.alloc _) ⟨W5.heap.size, 0, none⟩ 1 1 [.int .i64 (st2 - nk)] rfl rfl ?c1 ?c2 ?c3 ?c4 ?c5 ?_)
            case c1 => exact cell_one_new _ _ _
            case c2 => intro u hu; simp at hu; subst hu; rfl
            case c3 => have := HLEN.out.1; unfold maxLen; omega
            case c4 => have := HLEN.out.1; omega
            case c5 => have := lt_of_block HPT5.out.1; rw [World.size_alloc]; omega
            intro v6 w6 hown6 hgrow6 _ hv6
            obtain ⟨g6, cap6, rfl⟩ := ownsRow_succ hown6
            obtain ⟨hpw6, hpt6, hh6⟩ := hpw5.out.push0 HPT5.out _ hown6 hgrow6 (by rw [World.size_alloc]; exact hv6)
            have z0 := hh6.trans HPT5.out.1
            have y0 := blk_cell z0 0 rfl
            have y0f := blk_free (j := 0) z0
            have HPP := Lib.hid (And.intro hpw6 hpt6)
            clear hpw6 hpt6 hh6 z0 hown6 hgrow6 hv6 q0 r0
            go_upto_region 20 with (fail)
            clear y0 y0f
            have hpw6 := HPP.out.1
            have hpt6 := HPP.out.2
            clear HPP
            generalize w6.setCell ⟨T, 0, none⟩ (.slice (some ⟨g6, 0, none⟩) (s2.stocks.length + 1) cap6) = W6 at hpw6 hpt6 ⊢
            have HPW6 := Lib.hid hpw6
            have HPT6 := Lib.hid hpt6
            have y1 := blk_cell hpt6.1 1 rfl
            have y1f := blk_free (j := 1) hpt6.1
            clear hpw6 hpt6
            go_wp2_with (at_builtin; refine wpList_append_own_at _ rfl _ _ 27 rfl (T + 1) 3 i0 (.int .i64 0) 1 8 Tryz.underlying27 hi hz0 hz1 hz2 rfl (by decide) ml5 s2.made.length (s2.made.map (Value.int .i64)) rfl (HPT6.out.2.2.1.alloc _) ⟨W6.heap.size, 0, none⟩ 1 1 [.int .i64 ma] rfl rfl (cell_one_new _ _ _) (by intro u hu; simp at hu; subst hu; rfl) (by have := HLEN.out.2; unfold maxLen; omega) (by have := HLEN.out.2; omega) (by have := lt_of_block HPT6.out.1; rw [World.size_alloc]; omega) ?_)
            intro v7 w7 hown7 hgrow7 _ hv7
            obtain ⟨g7, cap7, rfl⟩ := ownsRow_succ hown7
            obtain ⟨hpw7, hh7⟩ := HPW6.out.push1 HPT6.out _ hown7 hgrow7 (by rw [World.size_alloc]; exact hv7)
            have z1 := hh7.trans HPT6.out.1
            have y2 := blk_cell z1 1 rfl
            have y2f := blk_free (j := 1) z1
            have HPW7 := Lib.hid hpw7
            clear hpw7 hh7 z1 hown7 hgrow7 hv7 y1 y1f
            have hk1 := HLT.out
            have hk2 := HHn.out
            go_wp2
            go_roundw
            case rel => exact ⟨k + 1, ⟨st2 - nk, s2.stocks ++ [st2 - nk], s2.made ++ [ma], -1, s2.full⟩, HLT.out, by have := HHn.out; have := HLT.out; go_num, HEQ.out.symm, rfl, rfl, ⟨bst4.1, by have := HB3.out.2.2.1; have := BST.out; show st2 - nk ≤ store; omega⟩, ⟨HPW7.out.b, HPW7.out.hT, HPW7.out.sp, HPW7.out.rs, by have h := HPW7.out.t; rw [HFL.out] at h; exact h⟩⟩
            case measure => have := HLT.out; have := HHn.out; simp [intOf]; omega
      · go_upto_region 11 with (fail)
        have hpw3 : Hid (PW w T (sv stock store a n cap (some ⟨bn, on, none⟩) n cn (some ⟨bm, om, none⟩) n cm (some ⟨bl, ol, none⟩) n cl) ⟨s.stock, s.stocks, s.made, s.fails, if ma < mk then (k : Int) else s.full⟩ k W1) := by show PW _ _ _ _ _ _; rw [if_neg hfu]; exact hpw2.out
        clear hpw2
        generalize W1 = W2 at hpw3 ⊢
        clear hfu
        generalize hs2' : (⟨s.stock, s.stocks, s.made, s.fails, if ma < mk then (k : Int) else s.full⟩ : Ps) = s2 at hpw3
        have hs2 := Lib.hid hs2'
        clear hs2'
        go_upto_region 13 with (fail)
        generalize hst2 : s.stock + (ma - lo) = st2
        have HST := Lib.hid hst2
        have bst : 0 ≤ st2 ∧ st2 ≤ store ∧ store ≤ 1000000 := by omega
        clear hst2 blo bma b1 b2 b3
        by_cases hfa : st2 < nk
        · skip
          have HF : Hid (playL stock store N M L n = ⟨s2.stock, s2.stocks, s2.made, k, s2.full⟩) := by
            show _ = _
            have h1 : playL stock store N M L (k + 1) = ⟨s2.stock, s2.stocks, s2.made, k, s2.full⟩ := by
              rw [HSTEP.out, stepP, if_pos hf.out, HMA.out, HLO.out, if_pos (by rw [HST.out]; exact hfa), ← hs2.out]
            rw [← h1]
            exact playL_stop _ _ _ _ _ _ (by rw [h1]; show (k : Int) ≠ -1; omega) _ (by omega)
          obtain ⟨W3, hW3⟩ : ∃ W3, W2.setCell ⟨T, 3, none⟩ (.int .i64 k) = W3 := ⟨_, rfl⟩
          have hpw4 : Hid (PW w T (sv stock store a n cap (some ⟨bn, on, none⟩) n cn (some ⟨bm, om, none⟩) n cm (some ⟨bl, ol, none⟩) n cl) ⟨s2.stock, s2.stocks, s2.made, k, s2.full⟩ k W3) := by rw [← hW3]; exact hpw3.out.put 3 k ⟨rfl, rfl⟩ (.inl ⟨rfl, rfl, rfl⟩)
          have g3 := hpw3.out.free.2.1 3
          have g4 := hpw3.out.free.2.2.2
          obtain ⟨_, _, _, _, _, hT2, _⟩ := hpw3.out.t
          have t3 := blk_cell hT2 3 rfl
          clear hT2
          obtain ⟨sa, sc, ma', mc, pa2, pn, pc, hTc, HC, HO⟩ := hpw4.out.end
          have r0 := hpw4.out.rs
          have b0 := blk_cell r0 0 rfl
          have b1 := blk_cell r0 1 rfl
          have b2 := blk_cell r0 2 rfl
          have b3 := blk_cell r0 3 rfl
          have b4 := blk_cell r0 4 rfl
          have f0 := blk_free (j := 0) r0
          have f1 := blk_free (j := 1) r0
          have f2 := blk_free (j := 2) r0
          have f3 := blk_free (j := 3) r0
          have f4 := blk_free (j := 4) r0
          have e0 := blk_cell hTc 0 rfl
          have e1 := blk_cell hTc 1 rfl
          have e2 := blk_cell hTc 2 rfl
          have e3 := blk_cell hTc 3 rfl
          have e4 := blk_cell hTc 4 rfl
          clear hTc r0
          go_wp2_with (fail)
          clear b0 b1 b2 b3 b4 f0 f1 f2 f3 f4 e0 e1 e2 e3 e4
          try rw [Exit.noGoto_ret]
          generalize (((((W3.setCell ⟨w.heap.size + 1, 0, none⟩ (.slice sa s2.stocks.length sc)).setCell ⟨w.heap.size + 1, 1, none⟩ (.slice ma' s2.made.length mc)).setCell ⟨w.heap.size + 1, 2, none⟩ (.slice pa2 pn pc)).setCell ⟨w.heap.size + 1, 3, none⟩ (.int .i64 k)).setCell ⟨w.heap.size + 1, 4, none⟩ (.int .i64 s2.full)) = W5 at HC HO ⊢
          have q0 := blk_cell HC.out 0 rfl
          have q1 := blk_cell HC.out 1 rfl
          have q2 := blk_cell HC.out 2 rfl
          have q3 := blk_cell HC.out 3 rfl
          have q4 := blk_cell HC.out 4 rfl
          refine bodyPost_ret (v := .agg #[.slice sa s2.stocks.length sc, .slice ma' s2.made.length mc, .slice pa2 pn pc, .int .i64 k, .int .i64 s2.full]) (by simp [results, Tryz.results120, go_sem, q0, q1, q2, q3, q4]) rfl ?_
          rw [HF.out]
          exact HO.out

        · have bst4 : 0 ≤ st2 - nk ∧ st2 - nk ≤ 1000000 := by have := HB3.out.2.2.1; omega
          have BST := Lib.hid bst
          obtain ⟨sl, ml, pl, np2, fs2, hTc, hO1, hO2, hO3, hnp2, hdis⟩ := hpw3.out.t
          obtain ⟨pa3, pc3, rfl, _⟩ := flats_of_owns hO3
          have HF := Lib.hid (owns_form hO3)
          have p2 := blk_cell hTc 2 rfl
          have p3 := blk_free (j := 2) hTc
          have HNP := Lib.hid hnp2
          have HTc := Lib.hid hTc
          have hTlt := lt_of_block hTc
          have HHn := Lib.hid hn'
          clear hTc hO1 hO2 hO3 hnp2 hdis bst hn'
          by_cases hmd : 0 < ma
          · go_wp2_with (fail)
            refine (drained_any pa3 fs2 np2 pc3 _ _ HF.out.1 HF.out.2.2.2.2.2 HF.out.2.2.2.1 HF.out.2.2.2.2.1 (by have := HNP.out; have := HHn.out; omega)).mono ?_
            rintro e w5 ⟨np5, fs5, hfs5, hnp5, pa5, pc5, rfl, hO5, hb5⟩
            obtain ⟨j0, hj, hjz0, hjz1, hjz2⟩ := info_parts Tryz.info85
            have HNP5 : Hid (np5 ≤ k + 1 ∧ k + 1 ≤ 61) := by have := HNP.out; have := HHn.out; have := HLT.out; exact ⟨by omega, by omega⟩
            have HO5 := Lib.hid hO5
            have HB5 := Lib.hid hb5
            clear hO5 hb5 hfs5 hnp5 p2 p3
            go_wp2_with (at_builtin; refine wpList_append_own_at _ rfl _ _ 77 rfl W2.heap.size 85 j0 (.agg #[.int .i64 0, .int .i64 0]) 2 16 Tryz.underlying77 hj hjz0 hjz1 hjz2 rfl (by decide) (.slice pa5 np5 pc5) np5 (fs5.map (Value.int .i64)) rfl (HO5.out.alloc _) ⟨w5.heap.size, 0, none⟩ 1 1 [.int .i64 k, .int .i64 ma] rfl rfl (cell_two_new _ _ _ _) (by intro u hu; simp at hu; rcases hu with rfl | rfl <;> rfl) (by have := HNP5.out; unfold maxLen; omega) (by have := HNP5.out; omega) (by have := HB5.out.size; rw [World.size_alloc]; omega) ?_)
            intro v6 w6 hown6 hgrow6 _ hv6
            obtain ⟨g6, cap6, rfl⟩ := ownsRow_succ hown6
            have hb6 : Below W2.heap.size W2 w6 := (HB5.out.alloc HB5.out.size _).grown hgrow6 (by rw [World.size_alloc]; have := HB5.out.size; omega) (fun j hj => (HO5.out.lt j hj).1)
            have hown6' : w6.ownsRow W2.heap.size 85 2 (.slice (some ⟨g6, 0, none⟩) (np5 + 1) cap6) (np5 + 1) ((fs5 ++ [(k : Int), ma]).map (Value.int .i64)) := by simpa using hown6
            have hpw6 := Lib.hid (hpw3.out.piles (k' := k + 1) hb6 hown6' (by have := HNP5.out; omega))
            have t6 := blk_below HTc.out hb6
            have y6 := blk_cell t6 2 rfl
            have y6f := blk_free (j := 2) t6
            clear t6 hown6' hb6 hown6 hgrow6 hv6
            go_upto_region 17 with (fail)
            generalize w6.setCell ⟨T, 2, none⟩ (.slice (some ⟨g6, 0, none⟩) (np5 + 1) cap6) = W6 at hpw6 ⊢
            clear y6 y6f
            obtain ⟨sl6, ml6, pl6, np6, fs6, hTc6, _, _, hO6, hnp6, _⟩ := hpw6.out.t
            obtain ⟨pa6, pc6, rfl, _⟩ := flats_of_owns hO6
            have HF6 := Lib.hid (owns_form hO6)
            have p2 := blk_cell hTc6 2 rfl
            have p3 := blk_free (j := 2) hTc6
            have HNP6 := Lib.hid hnp6
            have HTc6 := Lib.hid hTc6
            have hTlt6 := lt_of_block hTc6
            clear hTc6 hO6 hnp6
            go_wp2_with (fail)
            refine (drained_any pa6 fs6 np6 pc6 _ _ HF6.out.1 HF6.out.2.2.2.2.2 HF6.out.2.2.2.1 HF6.out.2.2.2.2.1 (by have := HNP6.out; have := HNP5.out; omega)).mono ?_
            rintro e w7 ⟨np7, fs7, hfs7, hnp7, pa7, pc7, rfl, hO7, hb7⟩
            have hpw5 := Lib.hid (hpw6.out.piles (k' := k + 1) hb7 hO7 (by have := HNP6.out; omega))
            have p5 := blk_free (j := 2) (blk_below HTc6.out hb7)
            have p6 := blk_cell (blk_below HTc6.out hb7) 2 rfl
            clear hb7 hO7 hfs7 hnp7 p2 p3
            go_upto_region 19 with (fail)
            generalize w7.setCell ⟨T, 2, none⟩ (.slice pa7 np7 pc7) = W5 at hpw5 ⊢
            clear p5 p6
            have HLEN : Hid (s2.stocks.length ≤ 60 ∧ s2.made.length ≤ 60) := by
              have h1 := playL_len stock store N M L k
              rw [← hs.out] at h1
              have h2 := HHn.out
              show _ ∧ _
              rw [← hs2.out]
              exact ⟨by show s.stocks.length ≤ 60; omega, by show s.made.length ≤ 60; omega⟩
            have HEQ : Hid (playL stock store N M L (k + 1) = ⟨st2 - nk, s2.stocks ++ [st2 - nk], s2.made ++ [ma], -1, s2.full⟩) := by
              show _ = _
              rw [HSTEP.out, stepP, if_pos hf.out, HMA.out, HLO.out, HST.out, if_neg (by omega), ← hs2.out]
            have HFL : Hid (s2.fails = -1) := by show _ = _; rw [← hs2.out]; exact hf.out
            obtain ⟨sl5, ml5, pl5, np5', fs5', PT5⟩ := hpw5.out.t
            have HPT5 : Hid (PT w T s2 (k + 1) W5 sl5 ml5 pl5 np5' fs5') := PT5
            have q0 := blk_cell PT5.1 0 rfl
            have r0 := blk_free (j := 0) PT5.1
            clear PT5
            obtain ⟨i0, hi, hz0, hz1, hz2⟩ := info_parts Tryz.info3
            go_wp2_with (at_builtin; refine wpList_append_own_at _ rfl _ _ 27 rfl (T + 1) 3 i0 (.int .i64 0) 1 8 Tryz.underlying27 hi hz0 hz1 hz2 rfl (by decide) sl5 s2.stocks.length (s2.stocks.map (Value.int .i64)) rfl (HPT5.out.2.1.alloc _) ⟨W5.heap.size, 0, none⟩ 1 1 [.int .i64 (st2 - nk)] rfl rfl ?c1 ?c2 ?c3 ?c4 ?c5 ?_)
            case c1 => exact cell_one_new _ _ _
            case c2 => intro u hu; simp at hu; subst hu; rfl
            case c3 => have := HLEN.out.1; unfold maxLen; omega
            case c4 => have := HLEN.out.1; omega
            case c5 => have := lt_of_block HPT5.out.1; rw [World.size_alloc]; omega
            intro v6 w6 hown6 hgrow6 _ hv6
            obtain ⟨g6, cap6, rfl⟩ := ownsRow_succ hown6
            obtain ⟨hpw6, hpt6, hh6⟩ := hpw5.out.push0 HPT5.out _ hown6 hgrow6 (by rw [World.size_alloc]; exact hv6)
            have z0 := hh6.trans HPT5.out.1
            have y0 := blk_cell z0 0 rfl
            have y0f := blk_free (j := 0) z0
            have HPP := Lib.hid (And.intro hpw6 hpt6)
            clear hpw6 hpt6 hh6 z0 hown6 hgrow6 hv6 q0 r0
            go_upto_region 20 with (fail)
            clear y0 y0f
            have hpw6 := HPP.out.1
            have hpt6 := HPP.out.2
            clear HPP
            generalize w6.setCell ⟨T, 0, none⟩ (.slice (some ⟨g6, 0, none⟩) (s2.stocks.length + 1) cap6) = W6 at hpw6 hpt6 ⊢
            have HPW6 := Lib.hid hpw6
            have HPT6 := Lib.hid hpt6
            have y1 := blk_cell hpt6.1 1 rfl
            have y1f := blk_free (j := 1) hpt6.1
            clear hpw6 hpt6
            go_wp2_with (at_builtin; refine wpList_append_own_at _ rfl _ _ 27 rfl (T + 1) 3 i0 (.int .i64 0) 1 8 Tryz.underlying27 hi hz0 hz1 hz2 rfl (by decide) ml5 s2.made.length (s2.made.map (Value.int .i64)) rfl (HPT6.out.2.2.1.alloc _) ⟨W6.heap.size, 0, none⟩ 1 1 [.int .i64 ma] rfl rfl (cell_one_new _ _ _) (by intro u hu; simp at hu; subst hu; rfl) (by have := HLEN.out.2; unfold maxLen; omega) (by have := HLEN.out.2; omega) (by have := lt_of_block HPT6.out.1; rw [World.size_alloc]; omega) ?_)
            intro v7 w7 hown7 hgrow7 _ hv7
            obtain ⟨g7, cap7, rfl⟩ := ownsRow_succ hown7
            obtain ⟨hpw7, hh7⟩ := HPW6.out.push1 HPT6.out _ hown7 hgrow7 (by rw [World.size_alloc]; exact hv7)
            have z1 := hh7.trans HPT6.out.1
            have y2 := blk_cell z1 1 rfl
            have y2f := blk_free (j := 1) z1
            have HPW7 := Lib.hid hpw7
            clear hpw7 hh7 z1 hown7 hgrow7 hv7 y1 y1f
            have hk1 := HLT.out
            have hk2 := HHn.out
            go_wp2
            go_roundw
            case rel => exact ⟨k + 1, ⟨st2 - nk, s2.stocks ++ [st2 - nk], s2.made ++ [ma], -1, s2.full⟩, HLT.out, by have := HHn.out; have := HLT.out; go_num, HEQ.out.symm, rfl, rfl, ⟨bst4.1, by have := HB3.out.2.2.1; have := BST.out; show st2 - nk ≤ store; omega⟩, ⟨HPW7.out.b, HPW7.out.hT, HPW7.out.sp, HPW7.out.rs, by have h := HPW7.out.t; rw [HFL.out] at h; exact h⟩⟩
            case measure => have := HLT.out; have := HHn.out; simp [intOf]; omega
          · go_wp2_with (fail)
            refine (drained_any pa3 fs2 np2 pc3 _ _ HF.out.1 HF.out.2.2.2.2.2 HF.out.2.2.2.1 HF.out.2.2.2.2.1 (by have := HNP.out; have := HHn.out; omega)).mono ?_
            rintro e w5 ⟨np5, fs5, hfs5, hnp5, pa5, pc5, rfl, hO5, hb5⟩
            have hpw5 := Lib.hid (hpw3.out.piles (k' := k + 1) hb5 hO5 (by have := HNP.out; omega))
            have p5 := blk_free (j := 2) (blk_below HTc.out hb5)
            have p6 := blk_cell (blk_below HTc.out hb5) 2 rfl
            clear hb5 hO5 hfs5 hnp5 p2 p3
            go_upto_region 19 with (fail)
            generalize w5.setCell ⟨T, 2, none⟩ (.slice pa5 np5 pc5) = W5 at hpw5 ⊢
            clear p5 p6
            have HLEN : Hid (s2.stocks.length ≤ 60 ∧ s2.made.length ≤ 60) := by
              have h1 := playL_len stock store N M L k
              rw [← hs.out] at h1
              have h2 := HHn.out
              show _ ∧ _
              rw [← hs2.out]
              exact ⟨by show s.stocks.length ≤ 60; omega, by show s.made.length ≤ 60; omega⟩
            have HEQ : Hid (playL stock store N M L (k + 1) = ⟨st2 - nk, s2.stocks ++ [st2 - nk], s2.made ++ [ma], -1, s2.full⟩) := by
              show _ = _
              rw [HSTEP.out, stepP, if_pos hf.out, HMA.out, HLO.out, HST.out, if_neg (by omega), ← hs2.out]
            have HFL : Hid (s2.fails = -1) := by show _ = _; rw [← hs2.out]; exact hf.out
            obtain ⟨sl5, ml5, pl5, np5', fs5', PT5⟩ := hpw5.out.t
            have HPT5 : Hid (PT w T s2 (k + 1) W5 sl5 ml5 pl5 np5' fs5') := PT5
            have q0 := blk_cell PT5.1 0 rfl
            have r0 := blk_free (j := 0) PT5.1
            clear PT5
            obtain ⟨i0, hi, hz0, hz1, hz2⟩ := info_parts Tryz.info3
            go_wp2_with (at_builtin; refine wpList_append_own_at _ rfl _ _ 27 rfl (T + 1) 3 i0 (.int .i64 0) 1 8 Tryz.underlying27 hi hz0 hz1 hz2 rfl (by decide) sl5 s2.stocks.length (s2.stocks.map (Value.int .i64)) rfl (HPT5.out.2.1.alloc _) ⟨W5.heap.size, 0, none⟩ 1 1 [.int .i64 (st2 - nk)] rfl rfl ?c1 ?c2 ?c3 ?c4 ?c5 ?_)
            case c1 => exact cell_one_new _ _ _
            case c2 => intro u hu; simp at hu; subst hu; rfl
            case c3 => have := HLEN.out.1; unfold maxLen; omega
            case c4 => have := HLEN.out.1; omega
            case c5 => have := lt_of_block HPT5.out.1; rw [World.size_alloc]; omega
            intro v6 w6 hown6 hgrow6 _ hv6
            obtain ⟨g6, cap6, rfl⟩ := ownsRow_succ hown6
            obtain ⟨hpw6, hpt6, hh6⟩ := hpw5.out.push0 HPT5.out _ hown6 hgrow6 (by rw [World.size_alloc]; exact hv6)
            have z0 := hh6.trans HPT5.out.1
            have y0 := blk_cell z0 0 rfl
            have y0f := blk_free (j := 0) z0
            have HPP := Lib.hid (And.intro hpw6 hpt6)
            clear hpw6 hpt6 hh6 z0 hown6 hgrow6 hv6 q0 r0
            go_upto_region 20 with (fail)
            clear y0 y0f
            have hpw6 := HPP.out.1
            have hpt6 := HPP.out.2
            clear HPP
            generalize w6.setCell ⟨T, 0, none⟩ (.slice (some ⟨g6, 0, none⟩) (s2.stocks.length + 1) cap6) = W6 at hpw6 hpt6 ⊢
            have HPW6 := Lib.hid hpw6
            have HPT6 := Lib.hid hpt6
            have y1 := blk_cell hpt6.1 1 rfl
            have y1f := blk_free (j := 1) hpt6.1
            clear hpw6 hpt6
            go_wp2_with (at_builtin; refine wpList_append_own_at _ rfl _ _ 27 rfl (T + 1) 3 i0 (.int .i64 0) 1 8 Tryz.underlying27 hi hz0 hz1 hz2 rfl (by decide) ml5 s2.made.length (s2.made.map (Value.int .i64)) rfl (HPT6.out.2.2.1.alloc _) ⟨W6.heap.size, 0, none⟩ 1 1 [.int .i64 ma] rfl rfl (cell_one_new _ _ _) (by intro u hu; simp at hu; subst hu; rfl) (by have := HLEN.out.2; unfold maxLen; omega) (by have := HLEN.out.2; omega) (by have := lt_of_block HPT6.out.1; rw [World.size_alloc]; omega) ?_)
            intro v7 w7 hown7 hgrow7 _ hv7
            obtain ⟨g7, cap7, rfl⟩ := ownsRow_succ hown7
            obtain ⟨hpw7, hh7⟩ := HPW6.out.push1 HPT6.out _ hown7 hgrow7 (by rw [World.size_alloc]; exact hv7)
            have z1 := hh7.trans HPT6.out.1
            have y2 := blk_cell z1 1 rfl
            have y2f := blk_free (j := 1) z1
            have HPW7 := Lib.hid hpw7
            clear hpw7 hh7 z1 hown7 hgrow7 hv7 y1 y1f
            have hk1 := HLT.out
            have hk2 := HHn.out
            go_wp2
            go_roundw
            case rel => exact ⟨k + 1, ⟨st2 - nk, s2.stocks ++ [st2 - nk], s2.made ++ [ma], -1, s2.full⟩, HLT.out, by have := HHn.out; have := HLT.out; go_num, HEQ.out.symm, rfl, rfl, ⟨bst4.1, by have := HB3.out.2.2.1; have := BST.out; show st2 - nk ≤ store; omega⟩, ⟨HPW7.out.b, HPW7.out.hT, HPW7.out.sp, HPW7.out.rs, by have h := HPW7.out.t; rw [HFL.out] at h; exact h⟩⟩
            case measure => have := HLT.out; have := HHn.out; simp [intOf]; omega
    · have : k = n := by omega
      subst this
      clear hlt
      obtain ⟨sa, sc, ma, mc, pa2, pn, pc, hTc, HC, HO⟩ := hpw.out.end
      have r0 := hpw.out.rs
      have b0 := blk_cell r0 0 rfl
      have b1 := blk_cell r0 1 rfl
      have b2 := blk_cell r0 2 rfl
      have b3 := blk_cell r0 3 rfl
      have b4 := blk_cell r0 4 rfl
      have f0 := blk_free (j := 0) r0
      have f1 := blk_free (j := 1) r0
      have f2 := blk_free (j := 2) r0
      have f3 := blk_free (j := 3) r0
      have f4 := blk_free (j := 4) r0
      have e0 := blk_cell hTc 0 rfl
      have e1 := blk_cell hTc 1 rfl
      have e2 := blk_cell hTc 2 rfl
      have e3 := blk_cell hTc 3 rfl
      have e4 := blk_cell hTc 4 rfl
      clear hTc r0
      go_wp2_with (fail)
      clear b0 b1 b2 b3 b4 f0 f1 f2 f3 f4 e0 e1 e2 e3 e4
      try rw [Exit.noGoto_ret]
      generalize (((((wr.setCell ⟨w.heap.size + 1, 0, none⟩ (.slice sa s.stocks.length sc)).setCell ⟨w.heap.size + 1, 1, none⟩ (.slice ma s.made.length mc)).setCell ⟨w.heap.size + 1, 2, none⟩ (.slice pa2 pn pc)).setCell ⟨w.heap.size + 1, 3, none⟩ (.int .i64 s.fails)).setCell ⟨w.heap.size + 1, 4, none⟩ (.int .i64 s.full)) = W5 at HC HO ⊢
      have q0 := blk_cell HC.out 0 rfl
      have q1 := blk_cell HC.out 1 rfl
      have q2 := blk_cell HC.out 2 rfl
      have q3 := blk_cell HC.out 3 rfl
      have q4 := blk_cell HC.out 4 rfl
      refine bodyPost_ret (v := .agg #[.slice sa s.stocks.length sc, .slice ma s.made.length mc, .slice pa2 pn pc, .int .i64 s.fails, .int .i64 s.full]) (by simp [results, Tryz.results120, go_sem, q0, q1, q2, q3, q4]) rfl ?_
      rw [← hs.out]
      exact HO.out

theorem play_any (stock store : Int) (a : Option Addr) (n cap : Nat) (an : Option Addr) (N : List Int) (cn : Nat) (am : Option Addr) (M : List Int) (cm : Nat) (al : Option Addr) (L : List Int) (cl : Nat) (w : World)
    (hN : IntSl w an N) (hM : IntSl w am M) (hL : IntSl w al L) (hNn : N.length = n) (hMn : M.length = n) (hLn : L.length = n) (hn : n ≤ 60) (hst : 0 ≤ stock ∧ stock ≤ store ∧ store ≤ 1000000)
    (hb : (∀ x ∈ N, 0 ≤ x ∧ x ≤ 100000) ∧ (∀ x ∈ M, 0 ≤ x ∧ x ≤ 100000) ∧ (∀ x ∈ L, 0 ≤ x ∧ x ≤ 100000)) :
    Calls Tryz.prog 120 #[sv stock store a n cap an n cn am n cm al n cl] w (OutTale w (playL stock store N M L n)) :=
  (play_fresh stock store a n cap an N cn am M cm al L cl w hN hM hL hNn hMn hLn hn hst hb).mono fun _ _ h => h.tale
end Go.Proofs.YtmebmcipmemofaaGreat

namespace Go.Proofs.YtmebmcipmemofaaGreat
open Go.RowKit Go.Shelf
attribute [local go_sem] Oper.semAt_some

def worstL (stock store : Int) (ds : List Dy) : Ps := playL stock store (ds.map fun d => d.need.hi) (ds.map fun d => d.make.lo) (ds.map fun d => d.loss.hi) ds.length
def bestL (stock store : Int) (ds : List Dy) : Ps := playL stock store (ds.map fun d => d.need.lo) (ds.map fun d => d.make.hi) (ds.map fun d => d.loss.lo) ds.length

theorem bounded_ok {s : Sp} {m : Int} (h : boundedB s m = true) : 0 ≤ s.lo ∧ s.lo ≤ s.hi ∧ s.hi ≤ m := by
  simp [boundedB] at h; exact h
def DayOk (d : Dy) : Prop := (0 ≤ d.need.lo ∧ d.need.lo ≤ d.need.hi ∧ d.need.hi ≤ 100000) ∧ (0 ≤ d.make.lo ∧ d.make.lo ≤ d.make.hi ∧ d.make.hi ≤ 100000) ∧ (0 ≤ d.loss.lo ∧ d.loss.lo ≤ d.loss.hi ∧ d.loss.hi ≤ 100000)
theorem win_ok {stock store : Int} {ds : List Dy} (h : winE stock store ds = 0) : (0 ≤ stock ∧ stock ≤ store ∧ 1 ≤ store ∧ store ≤ 1000000) ∧ (1 ≤ ds.length ∧ ds.length ≤ 60) ∧ ∀ d ∈ ds, DayOk d := by
  unfold winE at h
  split at h
  · rename_i h1
    split at h
    · rename_i h2
      split at h
      · rename_i h3
        split at h
        · rename_i h4
          simp [withinB] at h1 h2 h3
          refine ⟨⟨h2.1, h2.2, h1.1, h1.2⟩, by omega, fun d hd => ?_⟩
          have := List.all_eq_true.1 h4 d hd
          simp only [dayB, Bool.and_eq_true] at this
          exact ⟨bounded_ok this.1, bounded_ok this.2.1, bounded_ok this.2.2⟩
        · simp at h
      · simp at h
    · simp at h
  · simp at h

theorem worst_bd {ds : List Dy} (h : ∀ d ∈ ds, DayOk d) : (∀ x ∈ ds.map (fun d => d.need.hi), 0 ≤ x ∧ x ≤ 100000) ∧ (∀ x ∈ ds.map (fun d => d.make.lo), 0 ≤ x ∧ x ≤ 100000) ∧ (∀ x ∈ ds.map (fun d => d.loss.hi), 0 ≤ x ∧ x ≤ 100000) := by
  refine ⟨fun x hx => ?_, fun x hx => ?_, fun x hx => ?_⟩ <;> obtain ⟨d, hd, rfl⟩ := List.mem_map.1 hx <;> obtain ⟨h1, h2, h3⟩ := h d hd <;> constructor <;> omega
theorem best_bd {ds : List Dy} (h : ∀ d ∈ ds, DayOk d) : (∀ x ∈ ds.map (fun d => d.need.lo), 0 ≤ x ∧ x ≤ 100000) ∧ (∀ x ∈ ds.map (fun d => d.make.hi), 0 ≤ x ∧ x ≤ 100000) ∧ (∀ x ∈ ds.map (fun d => d.loss.lo), 0 ≤ x ∧ x ≤ 100000) := by
  refine ⟨fun x hx => ?_, fun x hx => ?_, fun x hx => ?_⟩ <;> obtain ⟨d, hd, rfl⟩ := List.mem_map.1 hx <;> obtain ⟨h1, h2, h3⟩ := h d hd <;> constructor <;> omega

/-- play of the worst weather's spell. -/
theorem play_worst {stock store : Int} {a : Option Addr} {ds : List Dy} {cap : Nat} {an am al : Option Addr} {cn cm cl : Nat} {w : World} (hN : IntSl w an (ds.map fun d => d.need.hi)) (hM : IntSl w am (ds.map fun d => d.make.lo)) (hL : IntSl w al (ds.map fun d => d.loss.hi))
    (hn : ds.length ≤ 60) (hst : 0 ≤ stock ∧ stock ≤ store ∧ store ≤ 1000000) (hd : ∀ d ∈ ds, DayOk d) :
    Calls Tryz.prog 120 #[sv stock store a ds.length cap an ds.length cn am ds.length cm al ds.length cl] w (OutTale w (worstL stock store ds)) :=
  play_any stock store a ds.length cap an _ cn am _ cm al _ cl w hN hM hL (by simp) (by simp) (by simp) hn hst (worst_bd hd)
theorem play_best {stock store : Int} {a : Option Addr} {ds : List Dy} {cap : Nat} {an am al : Option Addr} {cn cm cl : Nat} {w : World} (hN : IntSl w an (ds.map fun d => d.need.lo)) (hM : IntSl w am (ds.map fun d => d.make.hi)) (hL : IntSl w al (ds.map fun d => d.loss.lo))
    (hn : ds.length ≤ 60) (hst : 0 ≤ stock ∧ stock ≤ store ∧ store ≤ 1000000) (hd : ∀ d ∈ ds, DayOk d) :
    Calls Tryz.prog 120 #[sv stock store a ds.length cap an ds.length cn am ds.length cm al ds.length cl] w (OutTale w (bestL stock store ds)) :=
  play_any stock store a ds.length cap an _ cn am _ cm al _ cl w hN hM hL (by simp) (by simp) (by simp) hn hst (best_bd hd)

set_option maxHeartbeats 1000000 in
theorem fld0 (a b c : Option Addr) (n1 c1 n2 c2 n3 c3 : Nat) (x y : Int) (w : World) : (Instr.field 163 (.agg #[.slice a n1 c1, .slice b n2 c2, .slice c n3 c3, .int .i64 x, .int .i64 y]) 0).run Tryz.prog w = .ok (.slice a n1 c1) w := by kernel_rfl
theorem fld3 (a b c : Option Addr) (n1 c1 n2 c2 n3 c3 : Nat) (x y : Int) (w : World) : (Instr.field 163 (.agg #[.slice a n1 c1, .slice b n2 c2, .slice c n3 c3, .int .i64 x, .int .i64 y]) 3).run Tryz.prog w = .ok (.int .i64 x) w := by kernel_rfl

/-- No day of the winter fails with this stock and store. -/
theorem lasts_any (stock store stock0 store0 : Int) (a : Option Addr) (ds : List Dy) (cap : Nat) (w : World) (hx : Sl 6 Dy.cells w a ds) (hn : ds.length ≤ 60) (hst : 0 ≤ stock ∧ stock ≤ store ∧ store ≤ 1000000) (hd : ∀ d ∈ ds, DayOk d) :
    Calls Tryz.prog 124 #[wv stock0 store0 a ds.length cap, .int .i64 stock, .int .i64 store] w fun e w' => e = .returned (.bool ((worstL stock store ds).fails == -1)) ∧ Below w.heap.size w w' := by
  have HD := Lib.hid (And.intro hst (And.intro hd (And.intro hx hn)))
  clear hst hd hx hn
  have F3 := fld3
  go_enter Tryz.func124, Tryz.ntmps124
  go_wp2_with (fail)
  obtain ⟨Wa, hWa⟩ : ∃ Wa, w.alloc (.cells #[.int .i64 stock, .int .i64 store, .slice a ds.length cap] 56) = Wa := ⟨_, rfl⟩
  have hba : Below w.heap.size w Wa := by rw [← hWa]; exact (Below.refl _ _).alloc (Nat.le_refl _) _
  have h0 : Wa.heap[w.heap.size]? = some (.cells #[.int .i64 stock, .int .i64 store, .slice a ds.length cap] 56 (0, 0)) := by rw [← hWa]; exact heap_alloc_new _ _
  rw [hWa]
  clear hWa
  have c0 := blk_cell h0 0 rfl
  have c1 := blk_cell h0 1 rfl
  have c2 := blk_cell h0 2 rfl
  have HA := Lib.hid (And.intro hba h0)
  clear hba h0
  go_region_held3 (fun w' => w'.cell? ⟨w.heap.size, 0, none⟩ = some (.int .i64 stock) ∧ w'.cell? ⟨w.heap.size, 1, none⟩ = some (.int .i64 store) ∧ w'.cell? ⟨w.heap.size, 2, none⟩ = some (.slice a ds.length cap)) (go_keep)
    (first
      | (go_at_call 92; refine (worst_any _).mono ?_; rintro e w1 ⟨rfl, hb1⟩; have hb1' : Below Wa.heap.size Wa w1 := ⟨hb1.os, hb1.tape, hb1.output, hb1.size, hb1.block⟩; have H1 := Lib.hid (And.intro (below_self HA.out.1 hb1') (blk_below HA.out.2 hb1')); have d0 := blk_cell H1.out.2 0 rfl; have d1 := blk_cell H1.out.2 1 rfl; have d2 := blk_cell H1.out.2 2 rfl; clear hb1 hb1' c0 c1 c2)
      | (go_at_call 93; refine (spell_any 135 136 135 Sp.hi Sp.lo Sp.hi high_f low_f high_f stock store a ds cap _ (HD.out.2.2.1.below H1.out.1) (by have := HD.out.2.2.2; omega)).mono ?_; rintro e w2 ⟨⟨an, cn, am, cm, al, cl, rfl, hN, hM, hL, hb2⟩⟩; have H2 := Lib.hid (And.intro (below_self H1.out.1 hb2) (And.intro (blk_below H1.out.2 hb2) (And.intro hN (And.intro hM hL)))); clear hN hM hL hb2 d0 d1 d2; have e0 := blk_cell H2.out.2.1 0 rfl; have e1 := blk_cell H2.out.2.1 1 rfl; have e2 := blk_cell H2.out.2.1 2 rfl)
      | (go_at_call 120; refine (play_worst H2.out.2.2.1 H2.out.2.2.2.1 H2.out.2.2.2.2 HD.out.2.2.2 HD.out.1 HD.out.2.1).mono ?_; rintro e w3 ⟨sa, sc, ma, mc, pa, pn, pc, rfl, hs, hm, hb3⟩; have H3 := Lib.hid (And.intro (below_self H2.out.1 hb3) (blk_below H2.out.2.1 hb3)); clear hs hm hb3 e0 e1 e2; have e0 := blk_cell H3.out.2 0 rfl; have e1 := blk_cell H3.out.2 1 rfl; have e2 := blk_cell H3.out.2 2 rfl))
  all_goals (go_wp2; go_ret; exact ⟨rfl, H3.out.1⟩)

end Go.Proofs.YtmebmcipmemofaaGreat

namespace Go.Proofs.YtmebmcipmemofaaGreat
open Go.RowKit Go.Shelf
attribute [local go_sem] Oper.semAt_some

def atMostL (store pf : Int) (M L : List Int) (k : Nat) (left : Int) : Int := if (k : Int) = pf then store else (if left - L[k]?.getD 0 < 0 then 0 else left - L[k]?.getD 0) + M[k]?.getD 0

set_option maxHeartbeats 1000000 in
theorem atMost_any (stock store pf pd left : Int) (k : Nat) (a : Option Addr) (n cap : Nat) (an : Option Addr) (cn : Nat) (am : Option Addr) (M : List Int) (cm : Nat) (al : Option Addr) (L : List Int) (cl : Nat) (w : World)
    (hM : IntSl w am M) (hL : IntSl w al L) (hMn : M.length = n) (hLn : L.length = n) (hk : k < n) (hn : n ≤ 60) (hl : -1000000 ≤ left ∧ left ≤ 10000000)
    (hbM : ∀ x ∈ M, 0 ≤ x ∧ x ≤ 100000) (hbL : ∀ x ∈ L, 0 ≤ x ∧ x ≤ 100000) :
    Calls Tryz.prog 168 #[sv stock store a n cap an n cn am n cm al n cl, .agg #[.int .i64 pf, .int .i64 pd], .int .i64 k, .int .i64 left] w fun e w' => e = .returned (.int .i64 (atMostL store pf M L k left)) ∧ Below w.heap.size w w' := by
  obtain ⟨bm, om, rfl, hbm, hcm⟩ := hM (by omega)
  obtain ⟨bl, ol, rfl, hbl, hcl⟩ := hL (by omega)
  have bM : 0 ≤ M[k]?.getD 0 ∧ M[k]?.getD 0 ≤ 100000 := hbM _ (by rw [List.getElem?_eq_getElem (by omega)]; exact List.getElem_mem _)
  have bL : 0 ≤ L[k]?.getD 0 ∧ L[k]?.getD 0 ≤ 100000 := hbL _ (by rw [List.getElem?_eq_getElem (by omega)]; exact List.getElem_mem _)
  have cM := hcm k (by omega)
  have cL := hcl k (by omega)
  have HA : Hid (atMostL store pf M L k left = if (k : Int) = pf then store else (if left - L[k]?.getD 0 < 0 then 0 else left - L[k]?.getD 0) + M[k]?.getD 0) := rfl
  generalize M[k]?.getD 0 = mk at cM bM HA
  generalize L[k]?.getD 0 = lk at cL bL HA
  clear hcm hcl hM hL hMn hLn hbM hbL
  obtain ⟨Wa, hWa⟩ : ∃ Wa, (w.alloc (.cells #[.int .i64 stock, .int .i64 store, .slice a n cap, .slice an n cn, .slice (some ⟨bm, om, none⟩) n cm, .slice (some ⟨bl, ol, none⟩) n cl] 156)).alloc (.cells #[.int .i64 pf, .int .i64 pd] 95) = Wa := ⟨_, rfl⟩
  have hba : Below w.heap.size w Wa := by rw [← hWa]; exact ((Below.refl _ _).alloc (Nat.le_refl _) _).alloc (by simp) _
  have h0 : Wa.heap[w.heap.size]? = some (.cells #[.int .i64 stock, .int .i64 store, .slice a n cap, .slice an n cn, .slice (some ⟨bm, om, none⟩) n cm, .slice (some ⟨bl, ol, none⟩) n cl] 156 (0, 0)) := by rw [← hWa]; exact alk (new_at rfl)
  have h1 : Wa.heap[w.heap.size + 1]? = some (.cells #[.int .i64 pf, .int .i64 pd] 95 (0, 0)) := by rw [← hWa]; exact new_at (by simp)
  have c1 := blk_cell h0 1 rfl
  have c4 := blk_cell h0 4 rfl
  have c5 := blk_cell h0 5 rfl
  have d0 := blk_cell h1 0 rfl
  have cM' := (hba.cell (p := ⟨bm, om + k, none⟩) hbm).trans cM
  have cL' := (hba.cell (p := ⟨bl, ol + k, none⟩) hbl).trans cL
  have HB := Lib.hid hba
  clear hba h0 h1 cM cL
  go_enter Tryz.func168, Tryz.ntmps168
  by_cases hp : (k : Int) = pf
  · have HR : Hid (atMostL store pf M L k left = store) := by show _ = _; rw [HA.out, if_pos hp]
    have hpb : ((k : Int) == pf) = true := by simp [hp]
    clear hp
    go_wp2
    go_ret
    exact ⟨by rw [HR.out]; rfl, HB.out⟩
  · have HR : Hid (atMostL store pf M L k left = (if left - lk < 0 then 0 else left - lk) + mk) := by show _ = _; rw [HA.out, if_neg hp]
    have hpb : ((k : Int) == pf) = false := by simp [hp]
    clear hp
    go_wp2_with (fail)
    go_quiet (fail)
    go_wp2
    all_goals go_ret
    all_goals exact ⟨ret_int (by rw [HR.out]; split <;> omega), ⟨HB.out.os, HB.out.tape, HB.out.output, HB.out.size, HB.out.block⟩⟩
end Go.Proofs.YtmebmcipmemofaaGreat
