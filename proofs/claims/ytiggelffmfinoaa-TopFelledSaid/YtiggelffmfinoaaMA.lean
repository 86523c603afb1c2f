/-
  What a range that is being made holds in memory (no function of the program).
  What is proved: what is kept, and what grows, when a list grows, a box is written, or a deck deals.
  Conditions: each lemma states its own.
-/
import Derived.Test.YtiggelffmfinoaaQ
import Derived.Test.YtiggelffmfinoaaR
namespace Go.Proofs.Ytiggelffmfinoaa
open Go.RowKit Go.Shelf

theorem Try.info23 : (Try.prog.info? 23).map (fun i => (i.zero, i.size, i.bytes)) = some (some (.slice none 0 0), 1, 24) := by kernel_rfl
theorem one_cell {W : World} {b : Nat} {x : Value} {t : TypeId} (h : W.heap[b]? = some (.cells #[x] t (0, 0))) : ∀ j u, [x][j]? = some u → W.cell? ((⟨b, 0, none⟩ : Addr).add j) = some u := by
  intro j u hj
  match j, hj with
  | 0, hj =>
    have e : (⟨b, 0, none⟩ : Addr).add 0 = ⟨b, 0, none⟩ := by unfold Addr.add; split <;> simp_all
    have : x = u := by simpa using hj
    subst this
    rw [e]; exact blk_cell h 0 rfl
  | j + 1, hj => simp at hj
theorem own_cells {W : World} {base e s n i : Nat} {v : Value} {xs : List Value} (h : W.ownsRow base e s v n xs) (hi : v.ownBlock = some i) : base ≤ i ∧ i < W.heap.size ∧ ∃ cur, W.heap[i]? = some (.cells cur e (0, 0)) := by
  rcases h.2 with ⟨rfl, _⟩ | ⟨g, cap, cur, rfl, hb, hg, _⟩
  · cases hi
  · have : g = i := by simpa [Value.ownBlock] using hi
    subst this
    exact ⟨hb, lt_of_block hg, cur, hg⟩

/-- The deck, the result's box and the range's box. -/
structure MD (w : World) (B L : Nat) (a : Option Addr) (n cap k bx : Nat) (z c : Array Value) (W : World) : Prop where
  deck : Deck W B L a n cap k
  ap : Apart (fun j => j = B) w W
  res : W.heap[w.heap.size]? = some (.cells z 26 (0, 0))
  box : W.heap[bx]? = some (.cells c 26 (0, 0))
  lt : w.heap.size < bx
  le : L ≤ w.heap.size
theorem MD.draw {w W W' : World} {B L n cap k k' bx : Nat} {a : Option Addr} {z c : Array Value} (h : MD w B L a n cap k bx z c W) (hD : Deck W' B L a n cap k') (hA : Apart (fun j => j = B) W W') : MD w B L a n cap k' bx z c W' := by
  have h1 := h.deck.lt
  have h2 := h.le
  have h3 := h.lt
  exact ⟨hD, h.ap.trans hA, (hA.block _ (lt_of_block h.res) (by show ¬ (_ = _); omega)).trans h.res, (hA.block _ (lt_of_block h.box) (by show ¬ (_ = _); omega)).trans h.box, h3, h2⟩
theorem MD.below {w W W' : World} {B L n cap k bx : Nat} {a : Option Addr} {z c : Array Value} (h : MD w B L a n cap k bx z c W) (hb : Below W.heap.size W W') : MD w B L a n cap k bx z c W' := h.draw (h.deck.below hb) (Apart.of_below hb)
theorem MD.mono {w W : World} {B L n cap k k' bx : Nat} {a : Option Addr} {z c : Array Value} (h : MD w B L a n cap k bx z c W) (hk : k ≤ k') : MD w B L a n cap k' bx z c W := ⟨h.deck.mono hk, h.ap, h.res, h.box, h.lt, h.le⟩
theorem MD.grow {w W W' : World} {B L n cap k bx : Nat} {a : Option Addr} {z c : Array Value} {row : Option Nat} (h : MD w B L a n cap k bx z c W) (hg : W.grownBy W' row) (hr : ∀ i, row = some i → w.heap.size < i ∧ i ≠ bx) : MD w B L a n cap k bx z c W' := by
  have h1 := h.deck.lt
  have h2 := h.le
  refine ⟨h.deck.keep hg.size (fun j hj => hg.block j (by omega) (fun he => ?_)), ⟨hg.os.trans h.ap.os, hg.tape.trans h.ap.tape, hg.output.trans h.ap.output, Nat.le_trans h.ap.size hg.size, fun j hj ho => (hg.block j (Nat.lt_of_lt_of_le hj h.ap.size) (fun he => ?_)).trans (h.ap.block j hj ho)⟩, (hg.block _ (lt_of_block h.res) (fun he => ?_)).trans h.res, (hg.block _ (lt_of_block h.box) (fun he => ?_)).trans h.box, h.lt, h.le⟩
  · have := hr j he.symm; omega
  · have := hr j he.symm; omega
  · have := hr _ he.symm; omega
  · have := hr _ he.symm; omega
theorem MD.put {w W : World} {B L n cap k bx : Nat} {a : Option Addr} {z c : Array Value} (h : MD w B L a n cap k bx z c W) (j : Nat) (u : Value) : MD w B L a n cap k bx z (c.setIfInBounds j u) (W.setCell ⟨bx, j, none⟩ u) := by
  have h1 := h.deck.lt
  have h2 := h.le
  have h3 := h.lt
  have hs : ∀ i, i ≠ bx → (W.setCell ⟨bx, j, none⟩ u).heap[i]? = W.heap[i]? := fun i hi => Below.heap_setCell _ _ _ _ hi
  refine ⟨h.deck.keep (by rw [World.size_setCell]; exact Nat.le_refl _) (fun i hi => hs i (by omega)), ⟨h.ap.os, h.ap.tape, h.ap.output, by rw [World.size_setCell]; exact h.ap.size, fun i hi ho => (hs i (by omega)).trans (h.ap.block i hi ho)⟩, (hs _ (by omega)).trans h.res, blk_setCell h.box, h3, h2⟩
theorem MD.free {w W : World} {B L n cap k bx : Nat} {a : Option Addr} {z c : Array Value} (h : MD w B L a n cap k bx z c W) (i : Nat) (hi : w.heap.size < i) (hb : i ≠ bx) (j : Nat) (u : Value) : MD w B L a n cap k bx z c (W.setCell ⟨i, j, none⟩ u) := by
  have h1 := h.deck.lt
  have h2 := h.le
  have h3 := h.lt
  have hs : ∀ l, l ≠ i → (W.setCell ⟨i, j, none⟩ u).heap[l]? = W.heap[l]? := fun l hl => Below.heap_setCell _ _ _ _ hl
  exact ⟨h.deck.keep (by rw [World.size_setCell]; exact Nat.le_refl _) (fun l hl => hs l (by omega)), ⟨h.ap.os, h.ap.tape, h.ap.output, by rw [World.size_setCell]; exact h.ap.size, fun l hl ho => (hs l (by omega)).trans (h.ap.block l hl ho)⟩, (hs _ (by omega)).trans h.res, (hs _ (fun he => hb he.symm)).trans h.box, h3, h2⟩

/-- Two lists of numbers that grow. -/
structure LG (base : Nat) (vg vd : Value) (xs ds : List Int) (W : World) : Prop where
  g : W.ownsRow base 3 1 vg xs.length (xs.map (Value.int .i64))
  d : W.ownsRow base 3 1 vd ds.length (ds.map (Value.int .i64))
  ne : ∀ i, vg.ownBlock = some i → vd.ownBlock ≠ some i
theorem LG.keep {base : Nat} {vg vd : Value} {xs ds : List Int} {W W' : World} (h : LG base vg vd xs ds W) (hk : ∀ i, base ≤ i → i < W.heap.size → (∃ cur, W.heap[i]? = some (.cells cur 3 (0, 0))) → W'.heap[i]? = W.heap[i]?) : LG base vg vd xs ds W' :=
  ⟨owns_blk h.g (fun i hi => hk i (own_cells h.g hi).1 (own_cells h.g hi).2.1 (own_cells h.g hi).2.2), owns_blk h.d (fun i hi => hk i (own_cells h.d hi).1 (own_cells h.d hi).2.1 (own_cells h.d hi).2.2), h.ne⟩
theorem LG.below {base : Nat} {vg vd : Value} {xs ds : List Int} {W W' : World} (h : LG base vg vd xs ds W) (hb : Below W.heap.size W W') : LG base vg vd xs ds W' := h.keep (fun i _ hi _ => hb.block i hi)
theorem LG.pushG {base g cap : Nat} {vg vd : Value} {xs ds : List Int} {x : Int} {W W' : World} (h : LG base vg vd xs ds W) (hown : W'.ownsRow base 3 1 (.slice (some ⟨g, 0, none⟩) (xs.length + 1) cap) (xs.length + 1) (xs.map (Value.int .i64) ++ [.int .i64 x])) (hg : W.grownBy W' vg.ownBlock) (hat : vg.ownBlock = some g ∨ g = W.heap.size) :
    LG base (.slice (some ⟨g, 0, none⟩) (xs.length + 1) cap) vd (xs ++ [x]) ds W' := by
  refine ⟨by simpa using hown, owns_blk h.d (fun i hi => hg.block i (own_cells h.d hi).2.1 (fun he => h.ne i he.symm hi)), fun i hi hd => ?_⟩
  have : g = i := by simpa [Value.ownBlock] using hi
  subst this
  rcases hat with h1 | h1
  · exact h.ne g h1 hd
  · have := (own_cells h.d hd).2.1; omega
theorem LG.pushD {base g cap : Nat} {vg vd : Value} {xs ds : List Int} {x : Int} {W W' : World} (h : LG base vg vd xs ds W) (hown : W'.ownsRow base 3 1 (.slice (some ⟨g, 0, none⟩) (ds.length + 1) cap) (ds.length + 1) (ds.map (Value.int .i64) ++ [.int .i64 x])) (hg : W.grownBy W' vd.ownBlock) (hat : vd.ownBlock = some g ∨ g = W.heap.size) :
    LG base vg (.slice (some ⟨g, 0, none⟩) (ds.length + 1) cap) xs (ds ++ [x]) W' := by
  refine ⟨owns_blk h.g (fun i hi => hg.block i (own_cells h.g hi).2.1 (fun he => h.ne i hi he.symm)), by simpa using hown, fun i hi hd => ?_⟩
  have : g = i := by simpa [Value.ownBlock] using hd
  subst this
  rcases hat with h1 | h1
  · exact h.ne g hi h1
  · have := (own_cells h.g hi).2.1; omega
theorem LG.mid {base g cap m : Nat} {vd : Value} {xs ds : List Int} {W : World} (h : LG base (.slice (some ⟨g, 0, none⟩) m cap) vd xs ds W) (q : Nat) (x : Int) : LG base (.slice (some ⟨g, 0, none⟩) m cap) vd (xs.set q x) ds (W.setCell ⟨g, q, none⟩ (.int .i64 x)) := by
  refine ⟨⟨by simp, ?_⟩, owns_blk h.d (fun i hi => Below.heap_setCell _ _ _ _ (fun he => h.ne g rfl (by rw [hi]; exact congrArg some he))), h.ne⟩
  rcases h.g.2 with ⟨h0, _⟩ | ⟨g', cap', cur, hv, hb, hg, hnc, hcm, hcs, htake⟩
  · cases h0
  · have hv' := hv
    simp only [Value.slice.injEq, Option.some.injEq, Addr.mk.injEq, and_true] at hv'
    obtain ⟨rfl, hm, rfl⟩ := hv'
    refine .inr ⟨g, cap, cur.setIfInBounds q (.int .i64 x), by rw [List.length_set]; exact hv, hb, blk_setCell hg, by simpa using hnc, hcm, by simpa using hcs, ?_⟩
    rw [List.map_set, ← htake]
    simp [List.take_set]

/-- The first weights, and a list of rows that grows. -/
structure LH (base gf : Nat) (fs : List Int) (vn : Value) (RR : List Rw) (W : World) : Prop where
  f : W.heap[gf]? = some (.cells (fs.map (Value.int .i64)).toArray 3 (0, 0))
  fb : base ≤ gf
  av : W.ownsRow base 23 1 vn RR.length (RR.map rowV)
  rw : Rows W base RR
theorem LH.keep {base gf : Nat} {fs : List Int} {vn : Value} {RR : List Rw} {W W' : World} (h : LH base gf fs vn RR W) (hk : ∀ i, base ≤ i → i < W.heap.size → (∃ cur, W.heap[i]? = some (.cells cur 3 (0, 0)) ∨ W.heap[i]? = some (.cells cur 23 (0, 0))) → W'.heap[i]? = W.heap[i]?) : LH base gf fs vn RR W' :=
  ⟨(hk gf h.fb (lt_of_block h.f) ⟨_, .inl h.f⟩).trans h.f, h.fb, owns_blk h.av (fun i hi => hk i (own_cells h.av hi).1 (own_cells h.av hi).2.1 (by obtain ⟨c, hc⟩ := (own_cells h.av hi).2.2; exact ⟨c, .inr hc⟩)), h.rw.kept (fun x hx => by
    obtain ⟨h1, h2, c, hc⟩ := row_at (h.rw.own x hx)
    exact hk _ h1 h2 ⟨c, .inl hc⟩)⟩
theorem LH.push {base gf g0 t : Nat} {fs l : List Int} {vn v' : Value} {RR : List Rw} {W W' : World} (h : LH base gf fs vn RR W) (hl : l.length = t) (h0 : 1 ≤ t ∧ t ≤ 100) (hg0 : W.heap[g0]? = some (.cells (l.map (Value.int .i64)).toArray 3 (0, 0))) (hb0 : base ≤ g0) (hn : ∀ x ∈ RR, x.1 ≠ g0)
    (hown : W'.ownsRow base 23 1 v' (RR.length + 1) (RR.map rowV ++ [.slice (some ⟨g0, 0, none⟩) t t])) (hg : W.grownBy W' vn.ownBlock) : LH base gf fs v' (RR ++ [(g0, t, l)]) W' := by
  have hv : ∀ g, (∃ cur, W.heap[g]? = some (.cells cur 3 (0, 0))) → some g ≠ vn.ownBlock := fun g ⟨cur, hc⟩ he => by
    obtain ⟨c2, hc2⟩ := (own_cells h.av he.symm).2.2
    rw [hc] at hc2; cases hc2
  refine ⟨(hg.block _ (lt_of_block h.f) (hv _ ⟨_, h.f⟩)).trans h.f, h.fb, by simpa [rowV, hl] using hown, ⟨?_, ?_⟩⟩
  · intro x hx
    rcases List.mem_append.1 hx with hx | hx
    · have hr := row_at (h.rw.own x hx)
      refine owns_blk (h.rw.own x hx) (fun i hi => ?_)
      have : x.1 = i := by simpa [rowV, Value.ownBlock] using hi
      subst this
      exact hg.block _ hr.2.1 (hv _ hr.2.2)
    · simp at hx
      subst hx
      refine ⟨by simp, .inr ⟨g0, t, _, rfl, hb0, (hg.block _ (lt_of_block hg0) (hv _ ⟨_, hg0⟩)).trans hg0, by simp [hl], by unfold maxLen; omega, by simp [hl], ?_⟩⟩
      show List.take _ (List.map (Value.int .i64) l) = _
      exact List.take_of_length_le (by simp)
  · rw [List.map_append, List.nodup_append]
    refine ⟨h.rw.nd, by simp, ?_⟩
    intro y hy z hz
    simp at hz
    obtain ⟨x, hx, rfl⟩ := List.mem_map.1 hy
    rw [hz]; exact hn x hx
end Go.Proofs.Ytiggelffmfinoaa
