/-
What the memory of Drawn holds: three lists that grow, each in a block of its own.
  What is proved: these facts go on from one step to the next.
  Conditions: each lemma states its own.
What happens in a weather, day by day.
  What is proved: a weather within its spans leaves no less than the worst and no more than the best; the day that fails in the worst weather is shown by a proof that begins at the last day on which the store was full; what is told of a day stays told.
  Conditions: valid winters, weathers within their spans.
-/
import Derived.Test.YtmebmcipmemofaaGreatPart12
import Derived.Deep.AppendLies
namespace Go.Proofs.YtmebmcipmemofaaGreat
open Go.RowKit Go.Shelf

theorem owns_step {A B : World} {base : Nat} {e : TypeId} {size : Nat} {v : Value} {n : Nat} {xs : List Value} (h : A.ownsRow base e size v n xs) (hk : ∀ g, base ≤ g → v.ownBlock = some g → g < A.heap.size → B.heap[g]? = A.heap[g]?) : B.ownsRow base e size v n xs := by
  refine ⟨h.1, ?_⟩
  rcases h.2 with hn | ⟨g, cap, cur, rfl, hb, hg, rest⟩
  · exact .inl hn
  · exact .inr ⟨g, cap, cur, rfl, hb, (hk g hb rfl (lt_of_block hg)).trans hg, rest⟩

/-- Three lists of the call's own, each in a block of its own. -/
structure R3 (W : World) (base : Nat) (vN vM vL : Value) (N M L : List Int) : Prop where
  n : W.ownsRow base 3 1 vN N.length (N.map (Value.int .i64))
  m : W.ownsRow base 3 1 vM M.length (M.map (Value.int .i64))
  l : W.ownsRow base 3 1 vL L.length (L.map (Value.int .i64))
  d1 : ∀ i, vN.ownBlock = some i → vM.ownBlock ≠ some i
  d2 : ∀ i, vM.ownBlock = some i → vL.ownBlock ≠ some i
  d3 : ∀ i, vL.ownBlock = some i → vN.ownBlock ≠ some i

section
variable {W W' : World} {base : Nat} {vN vM vL : Value} {N M L : List Int}
theorem R3.rot (h : R3 W base vN vM vL N M L) : R3 W base vM vL vN M L N := ⟨h.m, h.l, h.n, h.d2, h.d3, h.d1⟩
theorem R3.step (h : R3 W base vN vM vL N M L) (hk : ∀ g, base ≤ g → g < W.heap.size → W'.heap[g]? = W.heap[g]?) : R3 W' base vN vM vL N M L :=
  ⟨owns_step h.n (fun g h1 _ h2 => hk g h1 h2), owns_step h.m (fun g h1 _ h2 => hk g h1 h2), owns_step h.l (fun g h1 _ h2 => hk g h1 h2), h.d1, h.d2, h.d3⟩
theorem R3.below (h : R3 W base vN vM vL N M L) (hb : Below W.heap.size W W') : R3 W' base vN vM vL N M L := h.step (fun g _ hg => hb.block g hg)
/-- One more in the first list. -/
theorem R3.push (h : R3 W base vN vM vL N M L) {x : Int} {g cap : Nat} (ho : W'.ownsRow base 3 1 (.slice (some ⟨g, 0, none⟩) (N.length + 1) cap) (N.length + 1) (N.map (Value.int .i64) ++ [.int .i64 x])) (hg : W.grownBy W' vN.ownBlock) (hat : vN.ownBlock = some g ∨ g = W.heap.size) :
    R3 W' base (.slice (some ⟨g, 0, none⟩) (N.length + 1) cap) vM vL (N ++ [x]) M L := by
  have hM : ∀ i, vM.ownBlock = some i → i ≠ g := fun i hi e => by
    rcases hat with hat | hat
    · exact h.d1 g hat (by rw [← e]; exact hi)
    · have := (h.m.lt i hi).2; omega
  have hL : ∀ i, vL.ownBlock = some i → i ≠ g := fun i hi e => by
    rcases hat with hat | hat
    · exact h.d3 i hi (by rw [e]; exact hat)
    · have := (h.l.lt i hi).2; omega
  refine ⟨?_, owns_step h.m (fun i _ hi hlt => hg.block i hlt (fun e => h.d1 i e.symm hi)), owns_step h.l (fun i _ hi hlt => hg.block i hlt (fun e => h.d3 i hi e.symm)), fun i hi hm => ?_, h.d2, fun i hi hn => ?_⟩
  · have e : (N ++ [x]).length = N.length + 1 := by simp
    rw [e]
    simpa using ho
  · simp only [Value.ownBlock, Option.some.injEq] at hi
    exact hM i hm hi.symm
  · simp only [Value.ownBlock, Option.some.injEq] at hn
    exact hL i hi hn.symm
end

/-- The memory of Drawn: the deck in block Bd, the winter in a box, the weather in box T, a day in box Xb. -/
structure DR (w0 : World) (Bd : Nat) (a : Option Addr) (n cap k : Nat) (vw : Array Value) (T : Nat) (tN tM tL : Value) (W : World) (vN vM vL : Value) (N M L : List Int) : Prop where
  ap : Apart (fun j => j = Bd) w0 W
  dk : Deck W Bd (Bd + 1) a n cap k
  wb : W.heap[w0.heap.size]? = some (.cells vw 56 (0, 0))
  rs : W.heap[w0.heap.size + 1]? = some (.cells #[.slice none 0 0, .slice none 0 0, .slice none 0 0] 58 (0, 0))
  tb : W.heap[T]? = some (.cells #[tN, tM, tL] 58 (0, 0))
  hT : w0.heap.size + 1 < T
  hB : Bd < w0.heap.size
  r : R3 W (T + 1) vN vM vL N M L

section
variable {w0 W W' : World} {Bd : Nat} {a : Option Addr} {n cap k k' : Nat} {vw : Array Value} {T : Nat} {tN tM tL : Value} {vN vM vL : Value} {N M L : List Int}
theorem DR.rot (h : DR w0 Bd a n cap k vw T tN tM tL W vN vM vL N M L) : DR w0 Bd a n cap k vw T tN tM tL W vM vL vN M L N := ⟨h.ap, h.dk, h.wb, h.rs, h.tb, h.hT, h.hB, h.r.rot⟩
theorem DR.below (h : DR w0 Bd a n cap k vw T tN tM tL W vN vM vL N M L) (hb : Below W.heap.size W W') : DR w0 Bd a n cap k vw T tN tM tL W' vN vM vL N M L :=
  ⟨h.ap.trans (Apart.of_below hb), h.dk.below hb, blk_below h.wb hb, blk_below h.rs hb, blk_below h.tb hb, h.hT, h.hB, h.r.below hb⟩
theorem DR.call (h : DR w0 Bd a n cap k vw T tN tM tL W vN vM vL N M L) (ha : Apart (fun j => j = Bd) W W') (hd : Deck W' Bd (Bd + 1) a n cap k') : DR w0 Bd a n cap k' vw T tN tM tL W' vN vM vL N M L := by
  have h1 := h.hT
  have h2 := h.hB
  exact ⟨h.ap.trans ha, hd, (ha.block _ (lt_of_block h.wb) (by omega)).trans h.wb, (ha.block _ (lt_of_block h.rs) (by omega)).trans h.rs, (ha.block _ (lt_of_block h.tb) (by omega)).trans h.tb, h1, h2, h.r.step (fun g hg hlt => ha.block g hlt (by omega))⟩
/-- One more in the first list, behind the making of a block. -/
theorem DR.push (h : DR w0 Bd a n cap k vw T tN tM tL W vN vM vL N M L) {o : Obj} {x : Int} {g c : Nat} (ho : W'.ownsRow (T + 1) 3 1 (.slice (some ⟨g, 0, none⟩) (N.length + 1) c) (N.length + 1) (N.map (Value.int .i64) ++ [.int .i64 x])) (hg : (W.alloc o).grownBy W' vN.ownBlock) (hat : vN.ownBlock = some g ∨ g = (W.alloc o).heap.size) :
    DR w0 Bd a n cap k vw T tN tM tL W' (.slice (some ⟨g, 0, none⟩) (N.length + 1) c) vM vL (N ++ [x]) M L := by
  have h' := h.below (W' := W.alloc o) ((Below.refl _ _).alloc (Nat.le_refl _) _)
  have h1 := h.hT
  have h2 := h.hB
  have low : ∀ j, j < (W.alloc o).heap.size → j ≤ T → W'.heap[j]? = (W.alloc o).heap[j]? := fun j hj hT => hg.block j hj (fun e => by have := (h.r.n.lt j e.symm).1; omega)
  have hTl := lt_of_block h'.tb
  exact ⟨⟨hg.os.trans h'.ap.os, hg.tape.trans h'.ap.tape, hg.output.trans h'.ap.output, Nat.le_trans h'.ap.size hg.size, fun j hj hB => (low j (Nat.lt_of_lt_of_le hj h'.ap.size) (by omega)).trans (h'.ap.block j hj hB)⟩,
    h'.dk.keep hg.size (fun j hj => low j (Nat.lt_of_lt_of_le hj h'.dk.lt.2) (by omega)), (low _ (lt_of_block h'.wb) (by omega)).trans h'.wb, (low _ (lt_of_block h'.rs) (by omega)).trans h'.rs, (low _ hTl (Nat.le_refl _)).trans h'.tb, h1, h2, h'.r.push ho hg hat⟩
/-- A block of another type goes on. -/
theorem DR.keep (h : DR w0 Bd a n cap k vw T tN tM tL W vN vM vL N M L) {o : Obj} {Xb : Nat} {cs : Array Value} (hx : W.heap[Xb]? = some (.cells cs 97 (0, 0))) (hg : (W.alloc o).grownBy W' vN.ownBlock) : W'.heap[Xb]? = some (.cells cs 97 (0, 0)) := by
  have hx' : (W.alloc o).heap[Xb]? = some (.cells cs 97 (0, 0)) := alk hx
  refine (hg.block Xb (lt_of_block hx') (fun e => ?_)).trans hx'
  rcases h.r.n.2 with ⟨e', _⟩ | ⟨g, c, cur, e', _, hgb, _⟩
  · rw [e'] at e; cases e
  · rw [e'] at e
    simp only [Value.ownBlock, Option.some.injEq] at e
    subst e
    rw [hx] at hgb
    simp at hgb
theorem DR.store (h : DR w0 Bd a n cap k vw T tN tM tL W vN vM vL N M L) : DR w0 Bd a n cap k vw T vN vM vL (((W.setCell ⟨T, 0, none⟩ vN).setCell ⟨T, 1, none⟩ vM).setCell ⟨T, 2, none⟩ vL) vN vM vL N M L := by
  have h1 := h.hT
  have h2 := h.hB
  have ko : ∀ j, j ≠ T → (((W.setCell ⟨T, 0, none⟩ vN).setCell ⟨T, 1, none⟩ vM).setCell ⟨T, 2, none⟩ vL).heap[j]? = W.heap[j]? := fun j hj => (Below.heap_setCell _ _ _ _ hj).trans ((Below.heap_setCell _ _ _ _ hj).trans (Below.heap_setCell _ _ _ _ hj))
  have hs : (((W.setCell ⟨T, 0, none⟩ vN).setCell ⟨T, 1, none⟩ vM).setCell ⟨T, 2, none⟩ vL).heap.size = W.heap.size := by simp only [World.size_setCell]
  refine ⟨?_, h.dk.keep (by rw [hs]; exact Nat.le_refl _) (fun j hj => ko j (by omega)), (ko _ (by omega)).trans h.wb, (ko _ (by omega)).trans h.rs, blk_setCell (j := 2) (blk_setCell (j := 1) (blk_setCell (j := 0) h.tb)), h1, h2, h.r.step (fun g hg _ => ko g (by omega))⟩
  exact ⟨h.ap.os, h.ap.tape, h.ap.output, by rw [hs]; exact h.ap.size, fun j hj hB => (ko j (by omega)).trans (h.ap.block j hj hB)⟩
end
end Go.Proofs.YtmebmcipmemofaaGreat

namespace Go.Proofs.YtmebmcipmemofaaGreat
open Go.RowKit Go.Shelf

/-- A weather of some days. -/
def Sky (ds : List Dy) (N M L : List Int) : Prop :=
  (N.length = ds.length ∧ M.length = ds.length ∧ L.length = ds.length) ∧
  ∀ (k : Nat) (d : Dy), ds[k]? = some d → (d.need.lo ≤ N[k]?.getD 0 ∧ N[k]?.getD 0 ≤ d.need.hi) ∧ (d.make.lo ≤ M[k]?.getD 0 ∧ M[k]?.getD 0 ≤ d.make.hi) ∧ (d.loss.lo ≤ L[k]?.getD 0 ∧ L[k]?.getD 0 ≤ d.loss.hi)

theorem getD_none {xs : List Int} {k : Nat} (h : xs.length ≤ k) : xs[k]?.getD 0 = 0 := by
  rw [List.getElem?_eq_none h]; rfl

theorem Sky.bd {ds : List Dy} {N M L : List Int} (h : Sky ds N M L) (hd : ∀ d ∈ ds, DayOk d) : (∀ x ∈ N, 0 ≤ x ∧ x ≤ 100000) ∧ (∀ x ∈ M, 0 ≤ x ∧ x ≤ 100000) ∧ (∀ x ∈ L, 0 ≤ x ∧ x ≤ 100000) := by
  obtain ⟨⟨l1, l2, l3⟩, h⟩ := h
  refine ⟨fun x hx => ?_, fun x hx => ?_, fun x hx => ?_⟩
  all_goals
    obtain ⟨k, hk, rfl⟩ := List.mem_iff_getElem.1 hx
    have hk' : k < ds.length := by omega
    have e := List.getElem?_eq_getElem hk'
    obtain ⟨⟨a1, a2⟩, ⟨b1, b2⟩, c1, c2⟩ := h k _ e
    obtain ⟨⟨x1, x2, x3⟩, ⟨y1, y2, y3⟩, z1, z2, z3⟩ := hd _ (List.getElem_mem hk')
    rw [List.getElem?_eq_getElem (by omega)] at a1 a2 b1 b2 c1 c2
    simp only [Option.getD_some] at a1 a2 b1 b2 c1 c2
    omega

theorem sky_less {stock store : Int} {ds : List Dy} {N M L : List Int} (h : Sky ds N M L) (hd : ∀ d ∈ ds, DayOk d) (hst : 0 ≤ stock ∧ stock ≤ store) :
    Less store store (worstL stock store ds) (playL stock store N M L ds.length) ∧ Less store store (playL stock store N M L ds.length) (bestL stock store ds) := by
  obtain ⟨⟨l1, l2, l3⟩, h⟩ := h
  refine ⟨playL_less (Int.le_refl _) (Int.le_refl _) hst hst.2 (fun k => ?_) (fun k => ?_) (fun k => ?_) ds.length, playL_less (Int.le_refl _) (Int.le_refl _) hst hst.2 (fun k => ?_) (fun k => ?_) (fun k => ?_) ds.length⟩
  all_goals
    rw [map_getD]
    cases e : ds[k]? with
    | none =>
      have hk : ds.length ≤ k := List.getElem?_eq_none_iff.1 e
      first
        | (rw [getD_none (xs := N) (by omega)]; exact ⟨Int.le_refl _, Int.le_refl _⟩)
        | (rw [getD_none (xs := M) (by omega)]; exact ⟨Int.le_refl _, Int.le_refl _⟩)
        | (rw [getD_none (xs := L) (by omega)]; exact ⟨Int.le_refl _, Int.le_refl _⟩)
    | some d =>
      obtain ⟨⟨a1, a2⟩, ⟨b1, b2⟩, c1, c2⟩ := h k d e
      obtain ⟨⟨x1, x2, x3⟩, ⟨y1, y2, y3⟩, z1, z2, z3⟩ := hd _ (List.mem_of_getElem? e)
      constructor <;> omega

/-- What a proof from the last day on which the store was full reckons is what happens. -/
theorem why_inv (stock store : Int) (N M L : List Int) (k : Nat) (hf : (playL stock store N M L k).fails = -1) :
    (-1 ≤ (playL stock store N M L k).full ∧ (playL stock store N M L k).full < k) ∧
    lackS store (playL stock store N M L k).full N M L (playL stock store N M L k).full.toNat stock (k - (playL stock store N M L k).full.toNat) = some (playL stock store N M L k).stock := by
  induction k with
  | zero => exact ⟨⟨Int.le_refl _, by show (-1 : Int) < 0; omega⟩, rfl⟩
  | succ k ih =>
    rw [playL_succ] at hf ⊢
    generalize playL stock store N M L k = a at ih hf ⊢
    by_cases hfa : a.fails = -1
    · obtain ⟨⟨i1, i2⟩, i3⟩ := ih hfa
      rw [stepP, if_pos hfa] at hf ⊢
      split at hf
      · have : (k : Int) = -1 := hf
        omega
      · rename_i hc
        rw [if_neg hc]
        by_cases hm : madeD store a.stock (M[k]?.getD 0) (L[k]?.getD 0) < M[k]?.getD 0
        · simp only [if_pos hm]
          refine ⟨⟨by omega, by omega⟩, ?_⟩
          rw [Int.toNat_natCast, show k + 1 - k = 0 + 1 by omega, lackS, lackS]
          simp only [Option.bind_some, Nat.add_zero]
          have e : atMostL store k M L k stock = store := by unfold atMostL; rw [if_pos rfl]
          rw [e, if_neg (by unfold madeD lostD at *; omega)]
          congr 1
          unfold madeD lostD at *; omega
        · simp only [if_neg hm]
          refine ⟨⟨i1, by omega⟩, ?_⟩
          rw [show k + 1 - a.full.toNat = (k - a.full.toNat) + 1 by omega, lackS, i3]
          simp only [Option.bind_some]
          rw [show a.full.toNat + (k - a.full.toNat) = k by omega]
          have e : atMostL store a.full M L k a.stock = a.stock + (madeD store a.stock (M[k]?.getD 0) (L[k]?.getD 0) - lostD a.stock (L[k]?.getD 0)) := by
            unfold atMostL
            rw [if_neg (by omega)]
            unfold madeD lostD at *
            split <;> omega
          rw [e, if_neg (by omega)]
    · rw [stepP, if_neg hfa] at hf; exact absurd hf hfa

theorem why_lack (stock store : Int) (N M L : List Int) (n : Nat) (hf : (playL stock store N M L n).fails ≠ -1) :
    (-1 ≤ (playL stock store N M L n).full ∧ (playL stock store N M L n).full ≤ (playL stock store N M L n).fails) ∧
    (lackR stock store (playL stock store N M L n).full N M L (playL stock store N M L n).fails.toNat).2 = true := by
  induction n with
  | zero => exact absurd rfl hf
  | succ k ih =>
    rw [playL_succ] at hf ⊢
    have hw := why_inv stock store N M L k
    generalize playL stock store N M L k = a at ih hf hw ⊢
    by_cases hfa : a.fails = -1
    · obtain ⟨⟨i1, i2⟩, i3⟩ := hw hfa
      rw [stepP, if_pos hfa] at hf ⊢
      split at hf
      · rename_i hc
        rw [if_pos hc]
        by_cases hm : madeD store a.stock (M[k]?.getD 0) (L[k]?.getD 0) < M[k]?.getD 0
        · simp only [if_pos hm]
          refine ⟨⟨by omega, Int.le_refl _⟩, ?_⟩
          unfold lackR
          rw [Int.toNat_natCast, show k - k = 0 by omega, lackS]
          have e : atMostL store k M L k stock = store := by unfold atMostL; rw [if_pos rfl]
          simp only [e, decide_eq_true_eq]
          unfold madeD lostD at *; omega
        · simp only [if_neg hm]
          refine ⟨⟨i1, by show a.full ≤ (k : Int); omega⟩, ?_⟩
          unfold lackR
          rw [Int.toNat_natCast, i3]
          have e : atMostL store a.full M L k a.stock = a.stock + (madeD store a.stock (M[k]?.getD 0) (L[k]?.getD 0) - lostD a.stock (L[k]?.getD 0)) := by
            unfold atMostL
            rw [if_neg (by omega)]
            unfold madeD lostD at *
            split <;> omega
          simp only [e, decide_eq_true_eq]
          omega
      · rename_i hc
        exact absurd rfl hf
    · rw [stepP, if_neg hfa]
      exact ih hfa

/-- Behind a day that has not failed. -/
theorem play_later (stock store : Int) (N M L : List Int) (i n : Nat) (hi : i ≤ n) (hf : (playL stock store N M L i).fails = -1) :
    (playL stock store N M L n).fails = -1 ∨ (i : Int) ≤ (playL stock store N M L n).fails := by
  rcases play_len stock store N M L n with ⟨h, _⟩ | ⟨d, h, h2, _, h3⟩
  · exact .inl h
  · right
    rcases Nat.lt_or_ge d i with hlt | hge
    · exfalso
      induction n with
      | zero => omega
      | succ n ih =>
        by_cases hn : i = n + 1
        · subst hn; rw [h] at hf; omega
        · rw [playL_succ] at h h2
          have hq := play_len stock store N M L n
          generalize playL stock store N M L n = a at ih hq h h2
          by_cases hfa : a.fails = -1
          · rw [stepP, if_pos hfa] at h
            split at h
            · have : (n : Int) = d := h
              omega
            · have : (-1 : Int) = d := h
              omega
          · rw [stepP, if_neg hfa] at h h2
            rcases hq with ⟨q, _⟩ | ⟨d', q, _, _, q'⟩
            · omega
            · exact ih (by omega) h h2 (by omega) (by omega)
    · omega

theorem play_told (stock store : Int) (N M L : List Int) (i n : Nat) (hi : i + 1 ≤ n) (hf : (playL stock store N M L (i + 1)).fails = -1) :
    i < (playL stock store N M L n).stocks.length ∧ (playL stock store N M L n).stocks[i]?.getD 0 = (playL stock store N M L (i + 1)).stock := by
  induction n with
  | zero => omega
  | succ n ih =>
    by_cases hn : n = i
    · subst hn
      have hl := play_len stock store N M L n
      rw [playL_succ] at hf ⊢
      generalize playL stock store N M L n = a at hf hl ⊢
      by_cases hfa : a.fails = -1
      · have hl' : a.stocks.length = n := by rcases hl with h | ⟨d, h, _⟩ <;> omega
        rw [stepP, if_pos hfa] at hf ⊢
        split at hf
        · have : (n : Int) = -1 := hf
          omega
        · rename_i hc
          rw [if_neg hc]
          refine ⟨by show n < (a.stocks ++ _).length; simp; omega, ?_⟩
          show (a.stocks ++ _)[n]?.getD 0 = _
          rw [getD_snoc, if_neg (by omega), if_pos hl'.symm]
      · rw [stepP, if_neg hfa] at hf; exact absurd hf hfa
    · obtain ⟨h1, h2⟩ := ih (by omega)
      rw [playL_succ, ← h2]
      generalize playL stock store N M L n = a at h1 ⊢
      rw [stepP]
      split
      · split
        · exact ⟨h1, rfl⟩
        · refine ⟨by show i < (a.stocks ++ _).length; simp; omega, ?_⟩
          show (a.stocks ++ _)[i]?.getD 0 = _
          rw [getD_snoc, if_pos h1]
      · exact ⟨h1, rfl⟩

/-- The stock before a day that is told of. -/
theorem play_stock {stock store : Int} {N M L : List Int} (hs : 0 ≤ stock ∧ stock ≤ store) (hM : ∀ k : Nat, 0 ≤ M[k]?.getD 0) (hL : ∀ k : Nat, 0 ≤ L[k]?.getD 0) (hN : ∀ k : Nat, 0 ≤ N[k]?.getD 0) (k : Nat) (hf : (playL stock store N M L k).fails = -1) :
    0 ≤ (playL stock store N M L k).stock ∧ (playL stock store N M L k).stock ≤ store := by
  have h := (playL_less (Int.le_refl stock) (Int.le_refl store) hs hs.2 (fun k => ⟨hM k, Int.le_refl _⟩) (fun k => ⟨hL k, Int.le_refl _⟩) (fun k => ⟨hN k, Int.le_refl _⟩) k).run hf
  exact ⟨h.2.2.1, h.2.2.2.1⟩

/-- One day on which less is made. -/
theorem lazy_step {stock store : Int} {N M L : List Int} (hs : 0 ≤ stock ∧ stock ≤ store) (hM : ∀ k : Nat, 0 ≤ M[k]?.getD 0) (hL : ∀ k : Nat, 0 ≤ L[k]?.getD 0) (hN : ∀ k : Nat, 0 ≤ N[k]?.getD 0) (k : Nat) (hf : (playL stock store N M L k).fails = -1)
    (x r : Int) (hx : 0 ≤ x ∧ x ≤ (playL stock store N M L k).stock) (hr : 0 ≤ r ∧ r ≤ M[k]?.getD 0) (y : Int) (hy : y = max 0 (x - L[k]?.getD 0) + min (store - max 0 (x - L[k]?.getD 0)) r - N[k]?.getD 0) (hy0 : 0 ≤ y) :
    (playL stock store N M L (k + 1)).fails = -1 ∧ y ≤ (playL stock store N M L (k + 1)).stock := by
  have hb := play_stock hs hM hL hN k hf
  have m := hM k
  have l := hL k
  have n := hN k
  rw [playL_succ]
  generalize playL stock store N M L k = a at hf hx hb ⊢
  rw [stepP, if_pos hf, if_neg (by unfold madeD lostD; omega)]
  refine ⟨rfl, ?_⟩
  show y ≤ _ - _
  unfold madeD lostD
  omega
end Go.Proofs.YtmebmcipmemofaaGreat
