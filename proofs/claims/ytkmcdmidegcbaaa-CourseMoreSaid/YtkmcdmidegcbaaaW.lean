/-
  What happens in a spell, as a function of lists; and what play's memory holds.
  What is proved: the memory's facts go on from one store or append of play to the next.
  Conditions: each lemma states its own.
-/
import Derived.Test.YtkmcdmidegcbaaaV
import Derived.WalkMore
import Derived.Deep.DeepCutAuto
namespace Go.Proofs.Ytkmcdmidegcbaaa
open Go.RowKit Go.Shelf
attribute [local go_sem] Oper.semAt_some

structure Ps where
  stock : Int
  stocks : List Int
  made : List Int
  fails : Int
  full : Int
def lostD (s l : Int) : Int := min l s
def madeD (store s m l : Int) : Int := min m (store - (s - lostD s l))
def stepP (store : Int) (s : Ps) (k : Nat) (n m l : Int) : Ps :=
  if s.fails = -1 then
    (if s.stock + (madeD store s.stock m l - lostD s.stock l) < n then ⟨s.stock, s.stocks, s.made, k, if madeD store s.stock m l < m then k else s.full⟩
     else ⟨s.stock + (madeD store s.stock m l - lostD s.stock l) - n, s.stocks ++ [s.stock + (madeD store s.stock m l - lostD s.stock l) - n], s.made ++ [madeD store s.stock m l], -1, if madeD store s.stock m l < m then k else s.full⟩)
  else s
def playL (stock store : Int) (N M L : List Int) (k : Nat) : Ps := (List.range k).foldl (fun s i => stepP store s i (N[i]?.getD 0) (M[i]?.getD 0) (L[i]?.getD 0)) ⟨stock, [], [], -1, -1⟩
theorem playL_succ (stock store : Int) (N M L : List Int) (k : Nat) : playL stock store N M L (k + 1) = stepP store (playL stock store N M L k) k (N[k]?.getD 0) (M[k]?.getD 0) (L[k]?.getD 0) := by simp [playL, List.range_succ]

/-- The tale in memory, its rows spelled out. -/
def PT (w : World) (T : Nat) (s : Ps) (k : Nat) (wr : World) (sl ml pl : Value) (np : Nat) (fs : List Int) : Prop :=
  wr.heap[T]? = some (.cells #[sl, ml, pl, .int .i64 s.fails, .int .i64 s.full] 146 (0, 0)) ∧ wr.ownsRow (T + 1) 3 1 sl s.stocks.length (s.stocks.map (Value.int .i64)) ∧ wr.ownsRow (T + 1) 3 1 ml s.made.length (s.made.map (Value.int .i64)) ∧ wr.ownsRow (w.heap.size + 2) 106 2 pl np (fs.map (Value.int .i64)) ∧ np ≤ k + 1 ∧ (∀ i, sl.ownBlock = some i → ml.ownBlock ≠ some i)

/-- What play's memory holds. -/
structure PW (w : World) (T : Nat) (sp : Value) (s : Ps) (k : Nat) (wr : World) : Prop where
  b : Below w.heap.size w wr
  hT : w.heap.size + 2 ≤ T
  sp : wr.heap[w.heap.size]? = some (.cells sp.cells 157 (0, 0))
  rs : wr.heap[w.heap.size + 1]? = some (.cells #[.slice none 0 0, .slice none 0 0, .slice none 0 0, .int .i64 0, .int .i64 0] 146 (0, 0))
  t : ∃ (sl ml pl : Value) (np : Nat) (fs : List Int), PT w T s k wr sl ml pl np fs

/-- What play hands back. -/
def OutTale (w : World) (s : Ps) (e : Ending) (w' : World) : Prop := ∃ sa sc ma mc pa pn pc, e = .returned (.agg #[.slice sa s.stocks.length sc, .slice ma s.made.length mc, .slice pa pn pc, .int .i64 s.fails, .int .i64 s.full]) ∧ IntSl w' sa s.stocks ∧ IntSl w' ma s.made ∧ Below w.heap.size w w'
theorem five_put {w W : World} {B : Nat} {t : TypeId} {u0 u1 u2 u3 u4 v0 v1 v2 v3 v4 : Value} (h : W.heap[B]? = some (.cells #[u0, u1, u2, u3, u4] t (0, 0))) (hB : w.heap.size ≤ B) (k : Below w.heap.size w W) :
    Below w.heap.size w (((((W.setCell ⟨B, 0, none⟩ v0).setCell ⟨B, 1, none⟩ v1).setCell ⟨B, 2, none⟩ v2).setCell ⟨B, 3, none⟩ v3).setCell ⟨B, 4, none⟩ v4) ∧ (((((W.setCell ⟨B, 0, none⟩ v0).setCell ⟨B, 1, none⟩ v1).setCell ⟨B, 2, none⟩ v2).setCell ⟨B, 3, none⟩ v3).setCell ⟨B, 4, none⟩ v4).heap[B]? = some (.cells #[v0, v1, v2, v3, v4] t (0, 0)) ∧ (∀ k, k ≠ B → (((((W.setCell ⟨B, 0, none⟩ v0).setCell ⟨B, 1, none⟩ v1).setCell ⟨B, 2, none⟩ v2).setCell ⟨B, 3, none⟩ v3).setCell ⟨B, 4, none⟩ v4).heap[k]? = W.heap[k]?) ∧ W.heap.size ≤ (((((W.setCell ⟨B, 0, none⟩ v0).setCell ⟨B, 1, none⟩ v1).setCell ⟨B, 2, none⟩ v2).setCell ⟨B, 3, none⟩ v3).setCell ⟨B, 4, none⟩ v4).heap.size :=
  ⟨((((k.setCell (p := ⟨B, 0, none⟩) hB _).setCell (p := ⟨B, 1, none⟩) hB _).setCell (p := ⟨B, 2, none⟩) hB _).setCell (p := ⟨B, 3, none⟩) hB _).setCell (p := ⟨B, 4, none⟩) hB _,
   blk_setCell (j := 4) (u := v4) (blk_setCell (j := 3) (u := v3) (blk_setCell (j := 2) (u := v2) (blk_setCell (j := 1) (u := v1) (blk_setCell (j := 0) (u := v0) h)))),
   fun _ hk => (Below.heap_setCell _ _ _ _ hk).trans ((Below.heap_setCell _ _ _ _ hk).trans ((Below.heap_setCell _ _ _ _ hk).trans ((Below.heap_setCell _ _ _ _ hk).trans (Below.heap_setCell _ _ _ _ hk)))), by simp only [World.size_setCell]; exact Nat.le_refl _⟩
/-- What is known of the memory at play's end. -/
theorem PW.end {w : World} {T : Nat} {sp : Value} {s : Ps} {k : Nat} {wr : World} (h : PW w T sp s k wr) : ∃ sa sc ma mc pa pn pc, wr.heap[T]? = some (.cells #[.slice sa s.stocks.length sc, .slice ma s.made.length mc, .slice pa pn pc, .int .i64 s.fails, .int .i64 s.full] 146 (0, 0)) ∧
    Hid (((((((wr.setCell ⟨w.heap.size + 1, 0, none⟩ (.slice sa s.stocks.length sc)).setCell ⟨w.heap.size + 1, 1, none⟩ (.slice ma s.made.length mc)).setCell ⟨w.heap.size + 1, 2, none⟩ (.slice pa pn pc)).setCell ⟨w.heap.size + 1, 3, none⟩ (.int .i64 s.fails)).setCell ⟨w.heap.size + 1, 4, none⟩ (.int .i64 s.full))).heap[w.heap.size + 1]? = some (.cells #[.slice sa s.stocks.length sc, .slice ma s.made.length mc, .slice pa pn pc, .int .i64 s.fails, .int .i64 s.full] 146 (0, 0))) ∧ Hid (OutTale w s (.returned (.agg #[.slice sa s.stocks.length sc, .slice ma s.made.length mc, .slice pa pn pc, .int .i64 s.fails, .int .i64 s.full])) (((((wr.setCell ⟨w.heap.size + 1, 0, none⟩ (.slice sa s.stocks.length sc)).setCell ⟨w.heap.size + 1, 1, none⟩ (.slice ma s.made.length mc)).setCell ⟨w.heap.size + 1, 2, none⟩ (.slice pa pn pc)).setCell ⟨w.heap.size + 1, 3, none⟩ (.int .i64 s.fails)).setCell ⟨w.heap.size + 1, 4, none⟩ (.int .i64 s.full))) := by
  obtain ⟨sl, ml, pl, np, fs, h1, h2, h3, h4, h5, h6⟩ := h.t
  obtain ⟨sa, sc, rfl, hs, hsf⟩ := ints_of_owns h2
  obtain ⟨ma, mc, rfl, hm, hmf⟩ := ints_of_owns h3
  obtain ⟨pa, pc, rfl, _⟩ := flats_of_owns h4
  refine ⟨sa, sc, ma, mc, pa, np, pc, h1, ?_⟩
  obtain ⟨a1, a2, a3, a4⟩ := five_put (v0 := .slice sa s.stocks.length sc) (v1 := .slice ma s.made.length mc) (v2 := .slice pa np pc) (v3 := .int .i64 s.fails) (v4 := .int .i64 s.full) h.rs (show w.heap.size ≤ w.heap.size + 1 by omega) h.b
  exact ⟨a2, sa, sc, ma, mc, pa, np, pc, rfl, ints_put hs (Below.refl _ _) a3 a4 (fun p hp => by have := hsf p hp; have := h.hT; omega), ints_put hm (Below.refl _ _) a3 a4 (fun p hp => by have := hmf p hp; have := h.hT; omega), a1⟩
theorem PW.free {w : World} {T : Nat} {sp : Value} {s : Ps} {k : Nat} {wr : World} (h : PW w T sp s k wr) : (∀ j, wr.frozen? ⟨w.heap.size + 1, j, none⟩ = false) ∧ (∀ j, wr.frozen? ⟨T, j, none⟩ = false) ∧ w.heap.size + 1 < wr.heap.size ∧ T < wr.heap.size := by
  obtain ⟨sl, ml, pl, np, fs, h1, _⟩ := h.t
  exact ⟨fun j => blk_free h.rs, fun j => blk_free h1, lt_of_block h.rs, lt_of_block h1⟩

theorem PW.drewN {w : World} {T : Nat} {sp : Value} {s : Ps} {k : Nat} {wr : World} (h : PW w T sp s k wr) (q : Nat) : PW w T sp s k (wr.drewN q) :=
  ⟨⟨h.b.os, h.b.tape, h.b.output, h.b.size, h.b.block⟩, h.hT, h.sp, h.rs, h.t⟩
theorem owns_other {w : World} {base B j : Nat} {e : TypeId} {size : Nat} {v u : Value} {n : Nat} {xs : List Value} (h : w.ownsRow base e size v n xs) (hB : v.ownBlock ≠ some B) : (w.setCell ⟨B, j, none⟩ u).ownsRow base e size v n xs := by
  refine ⟨h.1, ?_⟩
  rcases h.2 with h1 | ⟨g, cap', cur, rfl, h2, h3, h4⟩
  · exact .inl h1
  · exact .inr ⟨g, cap', cur, rfl, h2, blk_other h3 (fun he => hB (by subst he; rfl)), h4⟩
theorem owns_blk {w : World} {base g : Nat} {e : TypeId} {size : Nat} {v : Value} {n : Nat} {xs : List Value} (h : w.ownsRow base e size v n xs) (hv : v.ownBlock = some g) : base ≤ g ∧ ∃ cs, w.heap[g]? = some (.cells cs e (0, 0)) := by
  rcases h.2 with ⟨rfl, _⟩ | ⟨g', cap', cur, rfl, h2, h3, h4⟩
  · cases hv
  · cases hv; exact ⟨h2, _, h3⟩
/-- A number of the tale is set. -/
theorem PW.put {w : World} {T : Nat} {sp : Value} {s s' : Ps} {k : Nat} {wr : World} (h : PW w T sp s k wr) (j : Nat) (x : Int) (hs : s'.stocks = s.stocks ∧ s'.made = s.made) (hj : (j = 3 ∧ s'.fails = x ∧ s'.full = s.full) ∨ (j = 4 ∧ s'.fails = s.fails ∧ s'.full = x)) : PW w T sp s' k (wr.setCell ⟨T, j, none⟩ (.int .i64 x)) := by
  obtain ⟨sl, ml, pl, np, fs, h1, h2, h3, h4, h5, h6⟩ := h.t
  have hT := h.hT
  have hne : ∀ {base e sz v n xs}, wr.ownsRow base e sz v n xs → (e ≠ 146) → v.ownBlock ≠ some T := fun ho he hv => by
    obtain ⟨_, cs, hc⟩ := owns_blk ho hv
    rw [h1] at hc
    cases hc
    exact he rfl
  refine ⟨h.b.setCell (p := ⟨T, j, none⟩) (by show w.heap.size ≤ T; omega) _, hT, blk_other h.sp (by omega), blk_other h.rs (by omega), sl, ml, pl, np, fs, ?_, ?_, ?_, owns_other h4 (hne h4 (by decide)), h5, h6⟩
  · rcases hj with ⟨rfl, e1, e2⟩ | ⟨rfl, e1, e2⟩ <;> rw [e1, e2] <;> exact blk_setCell h1
  · rw [hs.1]; exact owns_other h2 (hne h2 (by decide))
  · rw [hs.2]; exact owns_other h3 (hne h3 (by decide))

theorem PW.piles {w W w5 : World} {T : Nat} {sp : Value} {s : Ps} {k k' : Nat} (h : PW w T sp s k W) (hb : Below W.heap.size W w5) {v : Value} {np : Nat} {fs : List Int} (ho : w5.ownsRow W.heap.size 106 2 v np (fs.map (Value.int .i64))) (hn : np ≤ k' + 1) : PW w T sp s k' (w5.setCell ⟨T, 2, none⟩ v) := by
  obtain ⟨sl, ml, pl, np', fs', h1, h2, h3, h4, h5, h6⟩ := h.t
  have hT := h.hT
  have hTW := lt_of_block h1
  have hne : ∀ {base e sz v n xs}, W.ownsRow base e sz v n xs → (e ≠ 146) → v.ownBlock ≠ some T := fun ho he hv => by
    obtain ⟨_, cs, hc⟩ := owns_blk ho hv
    rw [h1] at hc
    cases hc
    exact he rfl
  exact ⟨(below_self h.b hb).setCell (p := ⟨T, 2, none⟩) (by show w.heap.size ≤ T; omega) _, hT, blk_other (blk_below h.sp hb) (by omega), blk_other (blk_below h.rs hb) (by omega), sl, ml, v, np, fs, blk_setCell (blk_below h1 hb), owns_other (owns_below h2 hb) (hne h2 (by decide)), owns_other (owns_below h3 hb) (hne h3 (by decide)), owns_other (owns_mono ho (by omega)) (fun hv => by have := (ho.lt _ hv).1; omega), hn, h6⟩
theorem PW.push0 {w W w' : World} {T : Nat} {sp : Value} {s : Ps} {k : Nat} (h : PW w T sp s k W) {sl ml pl : Value} {np : Nat} {fs : List Int} (ht : PT w T s k W sl ml pl np fs) (o : Obj) {v' : Value} {x : Int}
    (ho : w'.ownsRow (T + 1) 3 1 v' (s.stocks.length + 1) (s.stocks.map (Value.int .i64) ++ [.int .i64 x])) (hg : (W.alloc o).grownBy w' sl.ownBlock) (hv : v'.ownBlock = sl.ownBlock ∨ v'.ownBlock = some (W.alloc o).heap.size) :
    PW w T sp ⟨s.stock, s.stocks ++ [x], s.made, s.fails, s.full⟩ k (w'.setCell ⟨T, 0, none⟩ v') ∧ PT w T ⟨s.stock, s.stocks ++ [x], s.made, s.fails, s.full⟩ k (w'.setCell ⟨T, 0, none⟩ v') v' ml pl np fs ∧ w'.heap[T]? = W.heap[T]? := by
  obtain ⟨h1, h2, h3, h4, h5, h6⟩ := ht
  have hT := h.hT
  have hTW := lt_of_block h1
  have hsl : ∀ i, sl.ownBlock = some i → T + 1 ≤ i := fun i hi => (h2.lt i hi).1
  have keep : ∀ j, j < W.heap.size → some j ≠ sl.ownBlock → w'.heap[j]? = W.heap[j]? := fun j hj hn => (hg.block j (by rw [World.size_alloc]; omega) hn).trans (heap_alloc_old W o hj)
  have low : ∀ j, j ≤ T → w'.heap[j]? = W.heap[j]? := fun j hj => keep j (by omega) (fun e => by have := hsl j e.symm; omega)
  have hne : ∀ {base e sz v n xs}, W.ownsRow base e sz v n xs → (e ≠ 146) → v.ownBlock ≠ some T := fun ho he hv => by
    obtain ⟨_, cs, hc⟩ := owns_blk ho hv
    rw [h1] at hc
    cases hc
    exact he rfl
  have hml : ml.ownBlock = none ∨ ml.ownBlock ≠ sl.ownBlock := by
    cases hm : ml.ownBlock with
    | none => exact .inl rfl
    | some i => exact .inr (fun e => h6 i e.symm hm)
  have hpl : pl.ownBlock = none ∨ pl.ownBlock ≠ sl.ownBlock := by
    cases hm : pl.ownBlock with
    | none => exact .inl rfl
    | some i =>
      refine .inr (fun e => ?_)
      obtain ⟨_, c1, e1⟩ := owns_blk h4 hm
      obtain ⟨_, c2, e2⟩ := owns_blk h2 e.symm
      rw [e1] at e2; cases e2
  have PTN : PT w T ⟨s.stock, s.stocks ++ [x], s.made, s.fails, s.full⟩ k (w'.setCell ⟨T, 0, none⟩ v') v' ml pl np fs := by
    refine ⟨blk_setCell ((low T (Nat.le_refl _)).trans h1), ?_, owns_other ((h3.alloc o).kept hg hml) (hne h3 (by decide)), owns_other ((h4.alloc o).kept hg hpl) (hne h4 (by decide)), h5, ?_⟩
    · have e1 : (s.stocks ++ [x]).length = s.stocks.length + 1 := by simp
      have e2 : (s.stocks ++ [x]).map (Value.int .i64) = s.stocks.map (Value.int .i64) ++ [.int .i64 x] := by simp
      show World.ownsRow _ _ _ _ _ (s.stocks ++ [x]).length ((s.stocks ++ [x]).map (Value.int .i64))
      rw [e1, e2]
      exact owns_other ho (fun hv' => by have := (ho.lt _ hv').1; omega)
    · intro i hi hm
      rcases hv with hv | hv
      · exact h6 i (by rw [← hv]; exact hi) hm
      · rw [hv] at hi; cases hi
        have := (h3.lt _ hm).2
        rw [World.size_alloc] at this; omega
  exact ⟨⟨((h.b.alloc h.b.size o).grown hg (by rw [World.size_alloc]; have := h.b.size; omega) (fun i hi => by have := hsl i hi; omega)).setCell (p := ⟨T, 0, none⟩) (by show w.heap.size ≤ T; omega) _, hT, blk_other ((low _ (by omega)).trans h.sp) (by omega), blk_other ((low _ (by omega)).trans h.rs) (by omega), _, _, _, _, _, PTN⟩, PTN, low T (Nat.le_refl _)⟩
theorem PW.push1 {w W w' : World} {T : Nat} {sp : Value} {s : Ps} {k : Nat} (h : PW w T sp s k W) {sl ml pl : Value} {np : Nat} {fs : List Int} (ht : PT w T s k W sl ml pl np fs) (o : Obj) {v' : Value} {x : Int}
    (ho : w'.ownsRow (T + 1) 3 1 v' (s.made.length + 1) (s.made.map (Value.int .i64) ++ [.int .i64 x])) (hg : (W.alloc o).grownBy w' ml.ownBlock) (hv : v'.ownBlock = ml.ownBlock ∨ v'.ownBlock = some (W.alloc o).heap.size) :
    PW w T sp ⟨s.stock, s.stocks, s.made ++ [x], s.fails, s.full⟩ k (w'.setCell ⟨T, 1, none⟩ v') ∧ w'.heap[T]? = W.heap[T]? := by
  obtain ⟨h1, h2, h3, h4, h5, h6⟩ := ht
  have hT := h.hT
  have hTW := lt_of_block h1
  have hsl : ∀ i, ml.ownBlock = some i → T + 1 ≤ i := fun i hi => (h3.lt i hi).1
  have keep : ∀ j, j < W.heap.size → some j ≠ ml.ownBlock → w'.heap[j]? = W.heap[j]? := fun j hj hn => (hg.block j (by rw [World.size_alloc]; omega) hn).trans (heap_alloc_old W o hj)
  have low : ∀ j, j ≤ T → w'.heap[j]? = W.heap[j]? := fun j hj => keep j (by omega) (fun e => by have := hsl j e.symm; omega)
  have hne : ∀ {base e sz v n xs}, W.ownsRow base e sz v n xs → (e ≠ 146) → v.ownBlock ≠ some T := fun ho he hv => by
    obtain ⟨_, cs, hc⟩ := owns_blk ho hv
    rw [h1] at hc
    cases hc
    exact he rfl
  have hml : sl.ownBlock = none ∨ sl.ownBlock ≠ ml.ownBlock := by
    cases hm : sl.ownBlock with
    | none => exact .inl rfl
    | some i => exact .inr (fun e => h6 i hm e.symm)
  have hpl : pl.ownBlock = none ∨ pl.ownBlock ≠ ml.ownBlock := by
    cases hm : pl.ownBlock with
    | none => exact .inl rfl
    | some i =>
      refine .inr (fun e => ?_)
      obtain ⟨_, c1, e1⟩ := owns_blk h4 hm
      obtain ⟨_, c2, e2⟩ := owns_blk h3 e.symm
      rw [e1] at e2; cases e2
  have PTN : PT w T ⟨s.stock, s.stocks, s.made ++ [x], s.fails, s.full⟩ k (w'.setCell ⟨T, 1, none⟩ v') sl v' pl np fs := by
    refine ⟨blk_setCell ((low T (Nat.le_refl _)).trans h1), owns_other ((h2.alloc o).kept hg hml) (hne h2 (by decide)), ?_, owns_other ((h4.alloc o).kept hg hpl) (hne h4 (by decide)), h5, ?_⟩
    · have e1 : (s.made ++ [x]).length = s.made.length + 1 := by simp
      have e2 : (s.made ++ [x]).map (Value.int .i64) = s.made.map (Value.int .i64) ++ [.int .i64 x] := by simp
      show World.ownsRow _ _ _ _ _ (s.made ++ [x]).length ((s.made ++ [x]).map (Value.int .i64))
      rw [e1, e2]
      exact owns_other ho (fun hv' => by have := (ho.lt _ hv').1; omega)
    · intro i hi hm
      rcases hv with hv | hv
      · exact h6 i hi (by rw [← hv]; exact hm)
      · rw [hv] at hm; cases hm
        have := (h2.lt _ hi).2
        rw [World.size_alloc] at this; omega
  exact ⟨⟨((h.b.alloc h.b.size o).grown hg (by rw [World.size_alloc]; have := h.b.size; omega) (fun i hi => by have := hsl i hi; omega)).setCell (p := ⟨T, 1, none⟩) (by show w.heap.size ≤ T; omega) _, hT, blk_other ((low _ (by omega)).trans h.sp) (by omega), blk_other ((low _ (by omega)).trans h.rs) (by omega), _, _, _, _, _, PTN⟩, low T (Nat.le_refl _)⟩
theorem playL_stop (stock store : Int) (N M L : List Int) (k : Nat) (h : (playL stock store N M L k).fails ≠ -1) (n : Nat) (hn : k ≤ n) : playL stock store N M L n = playL stock store N M L k := by
  induction n with
  | zero => have : k = 0 := by omega
            subst this; rfl
  | succ n ih =>
    rcases Nat.lt_or_ge n k with h1 | h1
    · have : k = n + 1 := by omega
      subst this; rfl
    · rw [playL_succ, ih h1, stepP, if_neg h]

theorem pair_sl {w : World} {B : Nat} {x y : Int} {t : TypeId} (h : w.heap[B]? = some (.cells #[.int .i64 x, .int .i64 y] t (0, 0))) : IntSl w (some ⟨B, 0, none⟩) [x, y] := fun _ =>
  ⟨B, 0, rfl, lt_of_block h, fun j hj => by
    rw [cell_of_row w B _ _ _ _ h]
    exact match j, hj with
    | 0, _ => rfl
    | 1, _ => rfl
    | j + 2, hj => absurd (show j + 2 < 2 from hj) (by omega)⟩

end Go.Proofs.Ytkmcdmidegcbaaa
