/-
What the memory of Drawn holds: three lists that grow, each in a block of its own.
  What is proved: these facts go on from one step to the next.
  Conditions: each lemma states its own.
The contract of Drawn over this seat's program.
  What is proved: a weather within the winter's spans is dealt, its lists in blocks of their own; only the deck itself turns.
  Conditions: a deck that has dealt at most 1000 times; at most 60 days of small numbers.
The contract of CourseLazy over this seat's program.
  What is proved: it answers true; nothing that was there before has turned.
  Conditions: lists of bytes that read as such.
-/
import Derived.Test.YtkmcdmidegcbaaaPart14
import Derived.Deep.AppendLies
namespace Go.Proofs.Ytkmcdmidegcbaaa
open Go.RowKit Go.Shelf

/-- Three lists of the call's own, each in a block of its own. -/
structure R3 (W : World) (base : Nat) (vN vM vL : Value) (N M L : List Int) : Prop where
  n : W.ownsRow base 3 1 vN N.length (N.map (Value.int .i64))
  m : W.ownsRow base 3 1 vM M.length (M.map (Value.int .i64))
  l : W.ownsRow base 3 1 vL L.length (L.map (Value.int .i64))
  d1 : ∀ i, vN.ownBlock = some i → vM.ownBlock ≠ some i
  d2 : ∀ i, vM.ownBlock = some i → vL.ownBlock ≠ some i
  d3 : ∀ i, vL.ownBlock = some i → vN.ownBlock ≠ some i

section
variable {W W' : World} {base : Nat} {vN vM vL : Value} {N M L : List Int}
theorem R3.rot (h : R3 W base vN vM vL N M L) : R3 W base vM vL vN M L N := ⟨h.m, h.l, h.n, h.d2, h.d3, h.d1⟩
theorem R3.step (h : R3 W base vN vM vL N M L) (hk : ∀ g, base ≤ g → g < W.heap.size → W'.heap[g]? = W.heap[g]?) : R3 W' base vN vM vL N M L :=
  ⟨owns_step h.n (fun g h1 _ h2 => hk g h1 h2), owns_step h.m (fun g h1 _ h2 => hk g h1 h2), owns_step h.l (fun g h1 _ h2 => hk g h1 h2), h.d1, h.d2, h.d3⟩
theorem R3.below (h : R3 W base vN vM vL N M L) (hb : Below W.heap.size W W') : R3 W' base vN vM vL N M L := h.step (fun g _ hg => hb.block g hg)
/-- One more in the first list. -/
theorem R3.push (h : R3 W base vN vM vL N M L) {x : Int} {g cap : Nat} (ho : W'.ownsRow base 3 1 (.slice (some ⟨g, 0, none⟩) (N.length + 1) cap) (N.length + 1) (N.map (Value.int .i64) ++ [.int .i64 x])) (hg : W.grownBy W' vN.ownBlock) (hat : vN.ownBlock = some g ∨ g = W.heap.size) :
    R3 W' base (.slice (some ⟨g, 0, none⟩) (N.length + 1) cap) vM vL (N ++ [x]) M L := by
  have hM : ∀ i, vM.ownBlock = some i → i ≠ g := fun i hi e => by
    rcases hat with hat | hat
    · exact h.d1 g hat (by rw [← e]; exact hi)
    · have := (h.m.lt i hi).2; omega
  have hL : ∀ i, vL.ownBlock = some i → i ≠ g := fun i hi e => by
    rcases hat with hat | hat
    · exact h.d3 i hi (by rw [e]; exact hat)
    · have := (h.l.lt i hi).2; omega
  refine ⟨?_, owns_step h.m (fun i _ hi hlt => hg.block i hlt (fun e => h.d1 i e.symm hi)), owns_step h.l (fun i _ hi hlt => hg.block i hlt (fun e => h.d3 i hi e.symm)), fun i hi hm => ?_, h.d2, fun i hi hn => ?_⟩
  · have e : (N ++ [x]).length = N.length + 1 := by simp
    rw [e]
    simpa using ho
  · simp only [Value.ownBlock, Option.some.injEq] at hi
    exact hM i hm hi.symm
  · simp only [Value.ownBlock, Option.some.injEq] at hn
    exact hL i hi hn.symm
end

/-- The memory of Drawn: the deck in block Bd, the winter in a box, the weather in box T, a day in box Xb. -/
structure DR (w0 : World) (Bd : Nat) (a : Option Addr) (n cap k : Nat) (vw : Array Value) (T : Nat) (tN tM tL : Value) (W : World) (vN vM vL : Value) (N M L : List Int) : Prop where
  ap : Apart (fun j => j = Bd) w0 W
  dk : Deck W Bd (Bd + 1) a n cap k
  wb : W.heap[w0.heap.size]? = some (.cells vw 60 (0, 0))
  rs : W.heap[w0.heap.size + 1]? = some (.cells #[.slice none 0 0, .slice none 0 0, .slice none 0 0] 88 (0, 0))
  tb : W.heap[T]? = some (.cells #[tN, tM, tL] 88 (0, 0))
  hT : w0.heap.size + 1 < T
  hB : Bd < w0.heap.size
  r : R3 W (T + 1) vN vM vL N M L

section
variable {w0 W W' : World} {Bd : Nat} {a : Option Addr} {n cap k k' : Nat} {vw : Array Value} {T : Nat} {tN tM tL : Value} {vN vM vL : Value} {N M L : List Int}
theorem DR.rot (h : DR w0 Bd a n cap k vw T tN tM tL W vN vM vL N M L) : DR w0 Bd a n cap k vw T tN tM tL W vM vL vN M L N := ⟨h.ap, h.dk, h.wb, h.rs, h.tb, h.hT, h.hB, h.r.rot⟩
theorem DR.below (h : DR w0 Bd a n cap k vw T tN tM tL W vN vM vL N M L) (hb : Below W.heap.size W W') : DR w0 Bd a n cap k vw T tN tM tL W' vN vM vL N M L :=
  ⟨h.ap.trans (Apart.of_below hb), h.dk.below hb, blk_below h.wb hb, blk_below h.rs hb, blk_below h.tb hb, h.hT, h.hB, h.r.below hb⟩
theorem DR.call (h : DR w0 Bd a n cap k vw T tN tM tL W vN vM vL N M L) (ha : Apart (fun j => j = Bd) W W') (hd : Deck W' Bd (Bd + 1) a n cap k') : DR w0 Bd a n cap k' vw T tN tM tL W' vN vM vL N M L := by
  have h1 := h.hT
  have h2 := h.hB
  exact ⟨h.ap.trans ha, hd, (ha.block _ (lt_of_block h.wb) (by omega)).trans h.wb, (ha.block _ (lt_of_block h.rs) (by omega)).trans h.rs, (ha.block _ (lt_of_block h.tb) (by omega)).trans h.tb, h1, h2, h.r.step (fun g hg hlt => ha.block g hlt (by omega))⟩
/-- One more in the first list, behind the making of a block. -/
theorem DR.push (h : DR w0 Bd a n cap k vw T tN tM tL W vN vM vL N M L) {o : Obj} {x : Int} {g c : Nat} (ho : W'.ownsRow (T + 1) 3 1 (.slice (some ⟨g, 0, none⟩) (N.length + 1) c) (N.length + 1) (N.map (Value.int .i64) ++ [.int .i64 x])) (hg : (W.alloc o).grownBy W' vN.ownBlock) (hat : vN.ownBlock = some g ∨ g = (W.alloc o).heap.size) :
    DR w0 Bd a n cap k vw T tN tM tL W' (.slice (some ⟨g, 0, none⟩) (N.length + 1) c) vM vL (N ++ [x]) M L := by
  have h' := h.below (W' := W.alloc o) ((Below.refl _ _).alloc (Nat.le_refl _) _)
  have h1 := h.hT
  have h2 := h.hB
  have low : ∀ j, j < (W.alloc o).heap.size → j ≤ T → W'.heap[j]? = (W.alloc o).heap[j]? := fun j hj hT => hg.block j hj (fun e => by have := (h.r.n.lt j e.symm).1; omega)
  have hTl := lt_of_block h'.tb
  exact ⟨⟨hg.os.trans h'.ap.os, hg.tape.trans h'.ap.tape, hg.output.trans h'.ap.output, Nat.le_trans h'.ap.size hg.size, fun j hj hB => (low j (Nat.lt_of_lt_of_le hj h'.ap.size) (by omega)).trans (h'.ap.block j hj hB)⟩,
    h'.dk.keep hg.size (fun j hj => low j (Nat.lt_of_lt_of_le hj h'.dk.lt.2) (by omega)), (low _ (lt_of_block h'.wb) (by omega)).trans h'.wb, (low _ (lt_of_block h'.rs) (by omega)).trans h'.rs, (low _ hTl (Nat.le_refl _)).trans h'.tb, h1, h2, h'.r.push ho hg hat⟩
/-- A block of another type goes on. -/
theorem DR.keep (h : DR w0 Bd a n cap k vw T tN tM tL W vN vM vL N M L) {o : Obj} {Xb : Nat} {cs : Array Value} (hx : W.heap[Xb]? = some (.cells cs 97 (0, 0))) (hg : (W.alloc o).grownBy W' vN.ownBlock) : W'.heap[Xb]? = some (.cells cs 97 (0, 0)) := by
  have hx' : (W.alloc o).heap[Xb]? = some (.cells cs 97 (0, 0)) := alk hx
  refine (hg.block Xb (lt_of_block hx') (fun e => ?_)).trans hx'
  rcases h.r.n.2 with ⟨e', _⟩ | ⟨g, c, cur, e', _, hgb, _⟩
  · rw [e'] at e; cases e
  · rw [e'] at e
    simp only [Value.ownBlock, Option.some.injEq] at e
    subst e
    rw [hx] at hgb
    simp at hgb
theorem DR.store (h : DR w0 Bd a n cap k vw T tN tM tL W vN vM vL N M L) : DR w0 Bd a n cap k vw T vN vM vL (((W.setCell ⟨T, 0, none⟩ vN).setCell ⟨T, 1, none⟩ vM).setCell ⟨T, 2, none⟩ vL) vN vM vL N M L := by
  have h1 := h.hT
  have h2 := h.hB
  have ko : ∀ j, j ≠ T → (((W.setCell ⟨T, 0, none⟩ vN).setCell ⟨T, 1, none⟩ vM).setCell ⟨T, 2, none⟩ vL).heap[j]? = W.heap[j]? := fun j hj => (Below.heap_setCell _ _ _ _ hj).trans ((Below.heap_setCell _ _ _ _ hj).trans (Below.heap_setCell _ _ _ _ hj))
  have hs : (((W.setCell ⟨T, 0, none⟩ vN).setCell ⟨T, 1, none⟩ vM).setCell ⟨T, 2, none⟩ vL).heap.size = W.heap.size := by simp only [World.size_setCell]
  refine ⟨?_, h.dk.keep (by rw [hs]; exact Nat.le_refl _) (fun j hj => ko j (by omega)), (ko _ (by omega)).trans h.wb, (ko _ (by omega)).trans h.rs, blk_setCell (j := 2) (blk_setCell (j := 1) (blk_setCell (j := 0) h.tb)), h1, h2, h.r.step (fun g hg _ => ko g (by omega))⟩
  exact ⟨h.ap.os, h.ap.tape, h.ap.output, by rw [hs]; exact h.ap.size, fun j hj hB => (ko j (by omega)).trans (h.ap.block j hj hB)⟩
end
end Go.Proofs.Ytkmcdmidegcbaaa

namespace Go.Proofs.Ytkmcdmidegcbaaa
open Go.RowKit Go.Shelf
attribute [local go_sem] Oper.semAt_some

/-- The first days of a weather. -/
def PreSky (ds : List Dy) (N M L : List Int) (j : Nat) : Prop :=
  (N.length = j ∧ M.length = j ∧ L.length = j) ∧
  ∀ (k : Nat) (d : Dy), k < j → ds[k]? = some d → (d.need.lo ≤ N[k]?.getD 0 ∧ N[k]?.getD 0 ≤ d.need.hi) ∧ (d.make.lo ≤ M[k]?.getD 0 ∧ M[k]?.getD 0 ≤ d.make.hi) ∧ (d.loss.lo ≤ L[k]?.getD 0 ∧ L[k]?.getD 0 ≤ d.loss.hi)
theorem PreSky.sky {ds : List Dy} {N M L : List Int} (h : PreSky ds N M L ds.length) : Sky ds N M L := ⟨h.1, fun k d hk => h.2 k d (by
  rcases Nat.lt_or_ge k ds.length with h | h
  · exact h
  · rw [List.getElem?_eq_none h] at hk; cases hk) hk⟩
theorem PreSky.more {ds : List Dy} {N M L : List Int} {j : Nat} (h : PreSky ds N M L j) {d : Dy} (hd : ds[j]? = some d) {x y z : Int} (hx : d.need.lo ≤ x ∧ x ≤ d.need.hi) (hy : d.make.lo ≤ y ∧ y ≤ d.make.hi) (hz : d.loss.lo ≤ z ∧ z ≤ d.loss.hi) : PreSky ds (N ++ [x]) (M ++ [y]) (L ++ [z]) (j + 1) := by
  obtain ⟨⟨h1, h2, h3⟩, h⟩ := h
  refine ⟨⟨by simp [h1], by simp [h2], by simp [h3]⟩, fun k e hk he => ?_⟩
  rw [getD_snoc, getD_snoc, getD_snoc, h1, h2, h3]
  by_cases hkj : k < j
  · rw [if_pos hkj, if_pos hkj, if_pos hkj]
    exact h k e hkj he
  · have : k = j := by omega
    subst this
    rw [hd] at he
    cases he
    rw [if_neg hkj, if_neg hkj, if_neg hkj, if_pos rfl, if_pos rfl, if_pos rfl]
    exact ⟨hx, hy, hz⟩

set_option maxRecDepth 100000 in
set_option maxHeartbeats 4000000 in
theorem drawn_any (Bd : Nat) (a2 : Option Addr) (n2 cap2 k : Nat) (stock store : Int) (ad : Option Addr) (ds : List Dy) (cp : Nat) (w : World) (hd : Deck w Bd (Bd + 1) a2 n2 cap2 k) (hk : k ≤ 1000) (hx : Sl 6 Dy.cells w ad ds) (hfar : ∀ p, ad = some p → p.block ≠ Bd) (hl : ds.length ≤ 60) (hs : ∀ d ∈ ds, SmallDay d) :
    Calls Try.prog 52 #[.pointer (some ⟨Bd, 0, none⟩), wv stock store ad ds.length cp] w fun e w' => ∃ an cn am cm al cl N M L, e = .returned (tv an ds.length cn am ds.length cm al ds.length cl) ∧ IntSl w' an N ∧ IntSl w' am M ∧ IntSl w' al L ∧ Sky ds N M L ∧ Deck w' Bd (Bd + 1) a2 n2 cap2 (k + 3 * ds.length) ∧ Apart (fun j => j = Bd) w w' ∧ (∀ p, an = some p → w.heap.size ≤ p.block) ∧ (∀ p, am = some p → w.heap.size ≤ p.block) ∧ (∀ p, al = some p → w.heap.size ≤ p.block) := by
  obtain ⟨i0, hi, hz0, hz1, hz2⟩ := info_parts Try.info3
  have HX := Lib.hid (And.intro hx (And.intro hfar hs))
  obtain ⟨Wa, hWa⟩ : ∃ Wa, ((w.alloc (.cells #[.int .i64 stock, .int .i64 store, .slice ad ds.length cp] 60)).alloc (.cells #[.slice none 0 0, .slice none 0 0, .slice none 0 0] 88)).alloc (.cells #[.slice none 0 0, .slice none 0 0, .slice none 0 0] 88) = Wa := ⟨_, rfl⟩
  have hlt := hd.lt
  have HR : Hid (DR w Bd a2 n2 cap2 k #[.int .i64 stock, .int .i64 store, .slice ad ds.length cp] (w.heap.size + 1 + 1) (.slice none 0 0) (.slice none 0 0) (.slice none 0 0) Wa (.slice none 0 0) (.slice none 0 0) (.slice none 0 0) [] [] []) := by
    have hb : Below w.heap.size w Wa := by rw [← hWa]; exact (((Below.refl _ _).alloc (Nat.le_refl _) _).alloc (by simp) _).alloc (by simp; omega) _
    refine ⟨Apart.of_below hb, hd.below hb, by rw [← hWa]; exact alk (alk (new_at rfl)), by rw [← hWa]; exact alk (new_at (by simp)), by rw [← hWa]; exact new_at (by simp), by omega, by omega, ⟨?_, ?_, ?_, ?_, ?_, ?_⟩⟩
    · exact World.ownsRow_nil _ _ _ _
    · exact World.ownsRow_nil _ _ _ _
    · exact World.ownsRow_nil _ _ _ _
    all_goals (intro i hi; cases hi)
  clear hd hx hfar hs
  have c2 := blk_cell HR.out.wb 2 rfl
  go_enter Try.func52, Try.ntmps52
  go_wp2_with (fail)
  clear hWa c2
  go_loopw [11] (fun i wr => ∃ (j : Nat) (vN vM vL : Value) (N M L : List Int), i = .int .i64 j ∧ j ≤ ds.length ∧ Hid (DR w Bd a2 n2 cap2 (k + 3 * j) #[.int .i64 stock, .int .i64 store, .slice ad ds.length cp] (w.heap.size + 1 + 1) vN vM vL wr vN vM vL N M L) ∧ Hid (PreSky ds N M L j)) (fun i _ => ds.length - (intOf i).toNat)
  case atStart => exact ⟨0, _, _, _, [], [], [], rfl, Nat.zero_le _, HR.out, ⟨⟨rfl, rfl, rfl⟩, fun k d h => by omega⟩⟩
  case round =>
    obtain ⟨j, vN, vM, vL, N, M, L, rfl, hj, hR, hP⟩ := hrel
    by_cases hltj : j < ds.length
    · obtain ⟨b, off, rfl, hbs, hc⟩ := HX.out.1 (by omega)
      have hne := HX.out.2.1 _ rfl
      have HD : Hid (ds[j]? = some ds[j] ∧ SmallDay ds[j]) := ⟨List.getElem?_eq_getElem hltj, HX.out.2.2 _ (List.getElem_mem hltj)⟩
      have ck : ∀ (i : Nat) (u : Int), (Dy.cells ds[j])[i]? = some u → wr.cell? ⟨b, off + j * 6 + i, none⟩ = some (.int .i64 u) := fun i u hu => (World.cell?_of_block (w := w) (a := ⟨b, off + j * 6 + i, none⟩) (hR.out.ap.block b hbs hne)).trans (hc j ds[j] i u (List.getElem?_eq_getElem hltj) hu)
      have d0 : wr.cell? ⟨b, off + j * 6, none⟩ = some (.int .i64 ds[j].need.lo) := ck 0 _ rfl
      have d1 := ck 1 _ rfl
      have d2 := ck 2 _ rfl
      have d3 := ck 3 _ rfl
      have d4 := ck 4 _ rfl
      have d5 := ck 5 _ rfl
      clear ck hc
      generalize ds[j] = d at *
      obtain ⟨Wx, hWx⟩ : ∃ Wx, wr.alloc (.cells #[.int .i64 d.need.lo, .int .i64 d.need.hi, .int .i64 d.make.lo, .int .i64 d.make.hi, .int .i64 d.loss.lo, .int .i64 d.loss.hi] 97) = Wx := ⟨_, rfl⟩
      have HW : Hid (DR w Bd a2 n2 cap2 (k + 3 * j) #[.int .i64 stock, .int .i64 store, .slice (some ⟨b, off, none⟩) ds.length cp] (w.heap.size + 1 + 1) vN vM vL Wx vN vM vL N M L ∧ Wx.heap[wr.heap.size]? = some (.cells #[.int .i64 d.need.lo, .int .i64 d.need.hi, .int .i64 d.make.lo, .int .i64 d.make.hi, .int .i64 d.loss.lo, .int .i64 d.loss.hi] 97 (0, 0))) := by
        rw [← hWx]
        exact ⟨hR.out.below ((Below.refl _ _).alloc (Nat.le_refl _) _), heap_alloc_new _ _⟩
      go_upto_region 5 with (fail)
      clear hWx d0 d1 d2 d3 d4 d5
      refine wp_region_split (S := fun W' => (W'.cell? ⟨w.heap.size + 1 + 1, 0, none⟩ = some vN ∧ W'.cell? ⟨w.heap.size + 1 + 1, 1, none⟩ = some vM ∧ W'.cell? ⟨w.heap.size + 1 + 1, 2, none⟩ = some vL) ∧ W'.heap[wr.heap.size]? = some (.cells #[.int .i64 d.need.lo, .int .i64 d.need.hi, .int .i64 d.make.lo, .int .i64 d.make.hi, .int .i64 d.loss.lo, .int .i64 d.loss.hi] 97 (0, 0))) [37, 38, 39, 40, 41] 37 (by kernel_rfl) (by kernel_rfl) rfl ?_
      have hS0 : (Wx.drew.cell? ⟨w.heap.size + 1 + 1, 0, none⟩ = some vN ∧ Wx.drew.cell? ⟨w.heap.size + 1 + 1, 1, none⟩ = some vM ∧ Wx.drew.cell? ⟨w.heap.size + 1 + 1, 2, none⟩ = some vL) ∧ Wx.drew.heap[wr.heap.size]? = some (.cells #[.int .i64 d.need.lo, .int .i64 d.need.hi, .int .i64 d.make.lo, .int .i64 d.make.hi, .int .i64 d.loss.lo, .int .i64 d.loss.hi] 97 (0, 0)) := ⟨⟨blk_cell HW.out.1.tb 0 rfl, blk_cell HW.out.1.tb 1 rfl, blk_cell HW.out.1.tb 2 rfl⟩, HW.out.2⟩
      have HS0 := Lib.hid hS0
      clear hS0
      rw [show firstL _ [37, 38, 39, 40, 41] = #[false, false, false, false, false, false, false, false, false, false, false, false, false, false, false, false, false, false, false, false, false, false, false, false, false, false, false, false, false, false, false, false, false, false, false, false, false, true, true, true, true, true] from by kernel_rfl]
      refine wpAnyH_take (i := 0) (v := .pointer (some ⟨w.heap.size + 1 + 1, 0, none⟩)) rfl (by kernel_rfl) (by kernel_rfl) (by kernel_rfl) (fun _ _ _ h => h) (Or.inl ⟨by rfl, by (intro W hSw; clear hSw; go_simp)⟩) HS0.out ?_
      simp only [Act.put, List.setIfInBounds_toArray, List.set_cons_zero, List.set_cons_succ]
      refine wpAnyH_take (i := 1) (v := vN) rfl (by kernel_rfl) (by kernel_rfl) (by kernel_rfl) (fun _ _ _ h => h) (Or.inl ⟨by rfl, by (intro W hSw; have c := hSw.1.1; clear hSw; go_simp)⟩) HS0.out ?_
      simp only [Act.put, List.setIfInBounds_toArray, List.set_cons_zero, List.set_cons_succ]
      refine wpAnyH_take (i := 2) (v := .pointer (some ⟨Bd, 0, none⟩)) rfl (by kernel_rfl) (by kernel_rfl) (by kernel_rfl) (fun _ _ _ h => h) (Or.inl ⟨by rfl, by (intro W hSw; clear hSw; go_simp)⟩) HS0.out ?_
      simp only [Act.put, List.setIfInBounds_toArray, List.set_cons_zero, List.set_cons_succ]
      refine wpAnyH_take (i := 3) (v := .pointer (some ⟨wr.heap.size, 0, none⟩)) rfl (by kernel_rfl) (by kernel_rfl) (by kernel_rfl) (fun _ _ _ h => h) (Or.inl ⟨by rfl, by (intro W hSw; clear hSw; go_simp)⟩) HS0.out ?_
      simp only [Act.put, List.setIfInBounds_toArray, List.set_cons_zero, List.set_cons_succ]
      refine wpAnyH_take (i := 4) (v := .pointer (some ⟨wr.heap.size, 0, none⟩)) rfl (by kernel_rfl) (by kernel_rfl) (by kernel_rfl) (fun _ _ _ h => h) (Or.inl ⟨by rfl, by (intro W hSw; clear hSw; go_simp)⟩) HS0.out ?_
      simp only [Act.put, List.setIfInBounds_toArray, List.set_cons_zero, List.set_cons_succ]
      refine wpAnyH_take (i := 5) (v := .int .i64 d.need.lo) rfl (by kernel_rfl) (by kernel_rfl) (by kernel_rfl) (fun _ _ _ h => h) (Or.inl ⟨by rfl, by (intro W hSw; have c := blk_cell hSw.2 0 rfl; clear hSw; go_simp)⟩) HS0.out ?_
      simp only [Act.put, List.setIfInBounds_toArray, List.set_cons_zero, List.set_cons_succ]
      refine wpAnyH_take (i := 6) (v := .pointer (some ⟨wr.heap.size, 0, none⟩)) rfl (by kernel_rfl) (by kernel_rfl) (by kernel_rfl) (fun _ _ _ h => h) (Or.inl ⟨by rfl, by (intro W hSw; clear hSw; go_simp)⟩) HS0.out ?_
      simp only [Act.put, List.setIfInBounds_toArray, List.set_cons_zero, List.set_cons_succ]
      refine wpAnyH_take (i := 7) (v := .pointer (some ⟨wr.heap.size, 1, none⟩)) rfl (by kernel_rfl) (by kernel_rfl) (by kernel_rfl) (fun _ _ _ h => h) (Or.inl ⟨by rfl, by (intro W hSw; clear hSw; go_simp)⟩) HS0.out ?_
      simp only [Act.put, List.setIfInBounds_toArray, List.set_cons_zero, List.set_cons_succ]
      refine wpAnyH_take (i := 8) (v := .int .i64 d.need.hi) rfl (by kernel_rfl) (by kernel_rfl) (by kernel_rfl) (fun _ _ _ h => h) (Or.inl ⟨by rfl, by (intro W hSw; have c := blk_cell hSw.2 1 rfl; clear hSw; go_simp)⟩) HS0.out ?_
      simp only [Act.put, List.setIfInBounds_toArray, List.set_cons_zero, List.set_cons_succ]
      refine wpAnyH_take (i := 12) (v := .pointer (some ⟨w.heap.size + 1 + 1, 1, none⟩)) rfl (by kernel_rfl) (by kernel_rfl) (by kernel_rfl) (fun _ _ _ h => h) (Or.inl ⟨by rfl, by (intro W hSw; clear hSw; go_simp)⟩) HS0.out ?_
      simp only [Act.put, List.setIfInBounds_toArray, List.set_cons_zero, List.set_cons_succ]
      refine wpAnyH_take (i := 13) (v := vM) rfl (by kernel_rfl) (by kernel_rfl) (by kernel_rfl) (fun _ _ _ h => h) (Or.inl ⟨by rfl, by (intro W hSw; have c := hSw.1.2.1; clear hSw; go_simp)⟩) HS0.out ?_
      simp only [Act.put, List.setIfInBounds_toArray, List.set_cons_zero, List.set_cons_succ]
      refine wpAnyH_take (i := 14) (v := .pointer (some ⟨Bd, 0, none⟩)) rfl (by kernel_rfl) (by kernel_rfl) (by kernel_rfl) (fun _ _ _ h => h) (Or.inl ⟨by rfl, by (intro W hSw; clear hSw; go_simp)⟩) HS0.out ?_
      simp only [Act.put, List.setIfInBounds_toArray, List.set_cons_zero, List.set_cons_succ]
      refine wpAnyH_take (i := 15) (v := .pointer (some ⟨wr.heap.size, 2, none⟩)) rfl (by kernel_rfl) (by kernel_rfl) (by kernel_rfl) (fun _ _ _ h => h) (Or.inl ⟨by rfl, by (intro W hSw; clear hSw; go_simp)⟩) HS0.out ?_
      simp only [Act.put, List.setIfInBounds_toArray, List.set_cons_zero, List.set_cons_succ]
      refine wpAnyH_take (i := 16) (v := .pointer (some ⟨wr.heap.size, 2, none⟩)) rfl (by kernel_rfl) (by kernel_rfl) (by kernel_rfl) (fun _ _ _ h => h) (Or.inl ⟨by rfl, by (intro W hSw; clear hSw; go_simp)⟩) HS0.out ?_
      simp only [Act.put, List.setIfInBounds_toArray, List.set_cons_zero, List.set_cons_succ]
      refine wpAnyH_take (i := 17) (v := .int .i64 d.make.lo) rfl (by kernel_rfl) (by kernel_rfl) (by kernel_rfl) (fun _ _ _ h => h) (Or.inl ⟨by rfl, by (intro W hSw; have c := blk_cell hSw.2 2 rfl; clear hSw; go_simp)⟩) HS0.out ?_
      simp only [Act.put, List.setIfInBounds_toArray, List.set_cons_zero, List.set_cons_succ]
      refine wpAnyH_take (i := 18) (v := .pointer (some ⟨wr.heap.size, 2, none⟩)) rfl (by kernel_rfl) (by kernel_rfl) (by kernel_rfl) (fun _ _ _ h => h) (Or.inl ⟨by rfl, by (intro W hSw; clear hSw; go_simp)⟩) HS0.out ?_
      simp only [Act.put, List.setIfInBounds_toArray, List.set_cons_zero, List.set_cons_succ]
      refine wpAnyH_take (i := 19) (v := .pointer (some ⟨wr.heap.size, 3, none⟩)) rfl (by kernel_rfl) (by kernel_rfl) (by kernel_rfl) (fun _ _ _ h => h) (Or.inl ⟨by rfl, by (intro W hSw; clear hSw; go_simp)⟩) HS0.out ?_
      simp only [Act.put, List.setIfInBounds_toArray, List.set_cons_zero, List.set_cons_succ]
      refine wpAnyH_take (i := 20) (v := .int .i64 d.make.hi) rfl (by kernel_rfl) (by kernel_rfl) (by kernel_rfl) (fun _ _ _ h => h) (Or.inl ⟨by rfl, by (intro W hSw; have c := blk_cell hSw.2 3 rfl; clear hSw; go_simp)⟩) HS0.out ?_
      simp only [Act.put, List.setIfInBounds_toArray, List.set_cons_zero, List.set_cons_succ]
      refine wpAnyH_take (i := 24) (v := .pointer (some ⟨w.heap.size + 1 + 1, 2, none⟩)) rfl (by kernel_rfl) (by kernel_rfl) (by kernel_rfl) (fun _ _ _ h => h) (Or.inl ⟨by rfl, by (intro W hSw; clear hSw; go_simp)⟩) HS0.out ?_
      simp only [Act.put, List.setIfInBounds_toArray, List.set_cons_zero, List.set_cons_succ]
      refine wpAnyH_take (i := 25) (v := vL) rfl (by kernel_rfl) (by kernel_rfl) (by kernel_rfl) (fun _ _ _ h => h) (Or.inl ⟨by rfl, by (intro W hSw; have c := hSw.1.2.2; clear hSw; go_simp)⟩) HS0.out ?_
      simp only [Act.put, List.setIfInBounds_toArray, List.set_cons_zero, List.set_cons_succ]
      refine wpAnyH_take (i := 26) (v := .pointer (some ⟨Bd, 0, none⟩)) rfl (by kernel_rfl) (by kernel_rfl) (by kernel_rfl) (fun _ _ _ h => h) (Or.inl ⟨by rfl, by (intro W hSw; clear hSw; go_simp)⟩) HS0.out ?_
      simp only [Act.put, List.setIfInBounds_toArray, List.set_cons_zero, List.set_cons_succ]
      refine wpAnyH_take (i := 27) (v := .pointer (some ⟨wr.heap.size, 4, none⟩)) rfl (by kernel_rfl) (by kernel_rfl) (by kernel_rfl) (fun _ _ _ h => h) (Or.inl ⟨by rfl, by (intro W hSw; clear hSw; go_simp)⟩) HS0.out ?_
      simp only [Act.put, List.setIfInBounds_toArray, List.set_cons_zero, List.set_cons_succ]
      refine wpAnyH_take (i := 28) (v := .pointer (some ⟨wr.heap.size, 4, none⟩)) rfl (by kernel_rfl) (by kernel_rfl) (by kernel_rfl) (fun _ _ _ h => h) (Or.inl ⟨by rfl, by (intro W hSw; clear hSw; go_simp)⟩) HS0.out ?_
      simp only [Act.put, List.setIfInBounds_toArray, List.set_cons_zero, List.set_cons_succ]
      refine wpAnyH_take (i := 29) (v := .int .i64 d.loss.lo) rfl (by kernel_rfl) (by kernel_rfl) (by kernel_rfl) (fun _ _ _ h => h) (Or.inl ⟨by rfl, by (intro W hSw; have c := blk_cell hSw.2 4 rfl; clear hSw; go_simp)⟩) HS0.out ?_
      simp only [Act.put, List.setIfInBounds_toArray, List.set_cons_zero, List.set_cons_succ]
      refine wpAnyH_take (i := 30) (v := .pointer (some ⟨wr.heap.size, 4, none⟩)) rfl (by kernel_rfl) (by kernel_rfl) (by kernel_rfl) (fun _ _ _ h => h) (Or.inl ⟨by rfl, by (intro W hSw; clear hSw; go_simp)⟩) HS0.out ?_
      simp only [Act.put, List.setIfInBounds_toArray, List.set_cons_zero, List.set_cons_succ]
      refine wpAnyH_take (i := 31) (v := .pointer (some ⟨wr.heap.size, 5, none⟩)) rfl (by kernel_rfl) (by kernel_rfl) (by kernel_rfl) (fun _ _ _ h => h) (Or.inl ⟨by rfl, by (intro W hSw; clear hSw; go_simp)⟩) HS0.out ?_
      simp only [Act.put, List.setIfInBounds_toArray, List.set_cons_zero, List.set_cons_succ]
      refine wpAnyH_take (i := 32) (v := .int .i64 d.loss.hi) rfl (by kernel_rfl) (by kernel_rfl) (by kernel_rfl) (fun _ _ _ h => h) (Or.inl ⟨by rfl, by (intro W hSw; have c := blk_cell hSw.2 5 rfl; clear hSw; go_simp)⟩) HS0.out ?_
      simp only [Act.put, List.setIfInBounds_toArray, List.set_cons_zero, List.set_cons_succ]
      have hTX : w.heap.size + 1 + 1 < wr.heap.size := lt_of_block hR.out.tb
      have hBd := HW.out.1.hB
      have hXB : wr.heap.size ≠ Bd := by omega
      have hNl : N.length = j := hP.out.1.1
      have hMl : M.length = j := hP.out.1.2.1
      have hLl : L.length = j := hP.out.1.2.2
      have hbs' : (0 ≤ d.need.lo ∧ d.need.lo ≤ d.need.hi ∧ d.need.hi ≤ 1000000) ∧ (0 ≤ d.make.lo ∧ d.make.lo ≤ d.make.hi ∧ d.make.hi ≤ 1000000) ∧ (0 ≤ d.loss.lo ∧ d.loss.lo ≤ d.loss.hi ∧ d.loss.hi ≤ 1000000) := by
        have h := HD.out.2
        unfold SmallDay SmallSp at h
        omega
      refine wpAnyH_ready (rs := [9]) (by kernel_rfl) (by simp) ?_
      refine AllReadyH.cons (o := _) rfl (fun K hK => ?_) AllReadyH.nil
      go_simp
      go_at_call 53
      refine (between_any Bd (Bd + 1) a2 n2 cap2 (k + 3 * j) d.need.lo d.need.hi _ (HW.out.1.dk.below ((Below.refl _ _).drew)) (by omega) (by omega)).mono ?_
      rintro e w4 ⟨⟨x, rfl, hx0, hx1⟩, hD, hA⟩
      have hA' : Apart (fun j => j = Bd) Wx w4 := ⟨hA.os, hA.tape, hA.output, hA.size, hA.block⟩
      have H4 : Hid (DR w Bd a2 n2 cap2 (k + 3 * j + 1) #[.int .i64 stock, .int .i64 store, .slice (some ⟨b, off, none⟩) ds.length cp] (w.heap.size + 1 + 1) vN vM vL w4 vN vM vL N M L ∧ w4.heap[wr.heap.size]? = some (.cells #[.int .i64 d.need.lo, .int .i64 d.need.hi, .int .i64 d.make.lo, .int .i64 d.make.hi, .int .i64 d.loss.lo, .int .i64 d.loss.hi] 97 (0, 0))) := ⟨HW.out.1.call hA' hD, (hA'.block _ (lt_of_block HW.out.2) hXB).trans HW.out.2⟩
      clear hD hA hA'
      refine hK.out _ _ ⟨⟨blk_cell H4.out.1.tb 0 rfl, blk_cell H4.out.1.tb 1 rfl, blk_cell H4.out.1.tb 2 rfl⟩, H4.out.2⟩ (fun _ => ?_)
      clear hK
      simp only [Act.put, List.setIfInBounds_toArray, List.set_cons_zero, List.set_cons_succ]
      refine wpAnyH_ready (rs := [10]) (by kernel_rfl) (by simp) ?_
      refine AllReadyH.cons (o := _) rfl (fun K hK => ?_) AllReadyH.nil
      go_simp
      have H4a : Hid (DR w Bd a2 n2 cap2 (k + 3 * j + 1) #[.int .i64 stock, .int .i64 store, .slice (some ⟨b, off, none⟩) ds.length cp] (w.heap.size + 1 + 1) vN vM vL (w4.alloc (.cells #[.int .i64 x] 3)) vN vM vL N M L ∧ (w4.alloc (.cells #[.int .i64 x] 3)).heap[wr.heap.size]? = some (.cells #[.int .i64 d.need.lo, .int .i64 d.need.hi, .int .i64 d.make.lo, .int .i64 d.make.hi, .int .i64 d.loss.lo, .int .i64 d.loss.hi] 97 (0, 0))) := ⟨H4.out.1.below ((Below.refl _ _).alloc (Nat.le_refl _) _), alk H4.out.2⟩
      refine hK.out _ _ ⟨⟨blk_cell H4a.out.1.tb 0 rfl, blk_cell H4a.out.1.tb 1 rfl, blk_cell H4a.out.1.tb 2 rfl⟩, H4a.out.2⟩ (fun _ => ?_)
      clear hK
      simp only [Act.put, List.setIfInBounds_toArray, List.set_cons_zero, List.set_cons_succ]
      refine wpAnyH_ready (rs := [11]) (by kernel_rfl) (by simp) ?_
      refine AllReadyH.cons (o := _) rfl (fun K hK => ?_) AllReadyH.nil
      refine step_append_lies _ rfl (.tmp 16) (.tmp 25) 27 rfl (w.heap.size + 1 + 1 + 1) 3 i0 (.int .i64 0) 1 8 Try.underlying27 hi hz0 hz1 hz2 rfl (by decide) vN N.length (N.map (Value.int .i64)) rfl H4a.out.1.r.n ⟨w4.heap.size, 0, none⟩ 1 1 [.int .i64 x] rfl rfl (cells_new w4 [.int .i64 x] 3) (by intro u hu; simp at hu; subst hu; rfl) (by decide) (by unfold maxLen; omega) (by omega) (by have := lt_of_block H4a.out.1.tb; omega) _ rfl ?_
      intro g0 c0 w5 hown hgrow hat _
      have H5 : Hid (DR w Bd a2 n2 cap2 (k + 3 * j + 1) #[.int .i64 stock, .int .i64 store, .slice (some ⟨b, off, none⟩) ds.length cp] (w.heap.size + 1 + 1) vN vM vL w5 (.slice (some ⟨g0, 0, none⟩) (N.length + 1) c0) vM vL (N ++ [x]) M L ∧ w5.heap[wr.heap.size]? = some (.cells #[.int .i64 d.need.lo, .int .i64 d.need.hi, .int .i64 d.make.lo, .int .i64 d.make.hi, .int .i64 d.loss.lo, .int .i64 d.loss.hi] 97 (0, 0))) := ⟨(H4.out.1).push hown hgrow hat, (H4.out.1).keep H4.out.2 hgrow⟩
      clear hown hgrow hat
      refine hK.out _ _ ⟨⟨blk_cell H5.out.1.tb 0 rfl, blk_cell H5.out.1.tb 1 rfl, blk_cell H5.out.1.tb 2 rfl⟩, H5.out.2⟩ (fun _ => ?_)
      clear hK
      simp only [Act.put, List.setIfInBounds_toArray, List.set_cons_zero, List.set_cons_succ]
      refine wpAnyH_take (i := 36) (v := .pointer (some ⟨w.heap.size + 1 + 1, 0, none⟩)) rfl (by kernel_rfl) (by kernel_rfl) (by kernel_rfl) (fun _ _ _ h => h) (Or.inl ⟨by rfl, by (intro W hSw; clear hSw; go_simp)⟩) ⟨⟨blk_cell H5.out.1.tb 0 rfl, blk_cell H5.out.1.tb 1 rfl, blk_cell H5.out.1.tb 2 rfl⟩, H5.out.2⟩ ?_
      simp only [Act.put, List.setIfInBounds_toArray, List.set_cons_zero, List.set_cons_succ]
      refine wpAnyH_ready (rs := [21]) (by kernel_rfl) (by simp) ?_
      refine AllReadyH.cons (o := _) rfl (fun K hK => ?_) AllReadyH.nil
      go_simp
      go_at_call 53
      refine (between_any Bd (Bd + 1) a2 n2 cap2 (k + 3 * j + 1) d.make.lo d.make.hi _ H5.out.1.dk (by omega) (by omega)).mono ?_
      rintro e w6 ⟨⟨y, rfl, hy0, hy1⟩, hD, hA⟩
      have hA' := hA
      have H6 : Hid (DR w Bd a2 n2 cap2 (k + 3 * j + 1 + 1) #[.int .i64 stock, .int .i64 store, .slice (some ⟨b, off, none⟩) ds.length cp] (w.heap.size + 1 + 1) vN vM vL w6 (.slice (some ⟨g0, 0, none⟩) (N.length + 1) c0) vM vL (N ++ [x]) M L ∧ w6.heap[wr.heap.size]? = some (.cells #[.int .i64 d.need.lo, .int .i64 d.need.hi, .int .i64 d.make.lo, .int .i64 d.make.hi, .int .i64 d.loss.lo, .int .i64 d.loss.hi] 97 (0, 0))) := ⟨H5.out.1.call hA' hD, (hA'.block _ (lt_of_block H5.out.2) hXB).trans H5.out.2⟩
      clear hD hA hA'
      refine hK.out _ _ ⟨⟨blk_cell H6.out.1.tb 0 rfl, blk_cell H6.out.1.tb 1 rfl, blk_cell H6.out.1.tb 2 rfl⟩, H6.out.2⟩ (fun _ => ?_)
      clear hK
      simp only [Act.put, List.setIfInBounds_toArray, List.set_cons_zero, List.set_cons_succ]
      refine wpAnyH_ready (rs := [22]) (by kernel_rfl) (by simp) ?_
      refine AllReadyH.cons (o := _) rfl (fun K hK => ?_) AllReadyH.nil
      go_simp
      have H6a : Hid (DR w Bd a2 n2 cap2 (k + 3 * j + 1 + 1) #[.int .i64 stock, .int .i64 store, .slice (some ⟨b, off, none⟩) ds.length cp] (w.heap.size + 1 + 1) vN vM vL (w6.alloc (.cells #[.int .i64 y] 3)) (.slice (some ⟨g0, 0, none⟩) (N.length + 1) c0) vM vL (N ++ [x]) M L ∧ (w6.alloc (.cells #[.int .i64 y] 3)).heap[wr.heap.size]? = some (.cells #[.int .i64 d.need.lo, .int .i64 d.need.hi, .int .i64 d.make.lo, .int .i64 d.make.hi, .int .i64 d.loss.lo, .int .i64 d.loss.hi] 97 (0, 0))) := ⟨H6.out.1.below ((Below.refl _ _).alloc (Nat.le_refl _) _), alk H6.out.2⟩
      refine hK.out _ _ ⟨⟨blk_cell H6a.out.1.tb 0 rfl, blk_cell H6a.out.1.tb 1 rfl, blk_cell H6a.out.1.tb 2 rfl⟩, H6a.out.2⟩ (fun _ => ?_)
      clear hK
      simp only [Act.put, List.setIfInBounds_toArray, List.set_cons_zero, List.set_cons_succ]
      refine wpAnyH_ready (rs := [23]) (by kernel_rfl) (by simp) ?_
      refine AllReadyH.cons (o := _) rfl (fun K hK => ?_) AllReadyH.nil
      refine step_append_lies _ rfl (.tmp 28) (.tmp 37) 27 rfl (w.heap.size + 1 + 1 + 1) 3 i0 (.int .i64 0) 1 8 Try.underlying27 hi hz0 hz1 hz2 rfl (by decide) vM M.length (M.map (Value.int .i64)) rfl H6a.out.1.rot.r.n ⟨w6.heap.size, 0, none⟩ 1 1 [.int .i64 y] rfl rfl (cells_new w6 [.int .i64 y] 3) (by intro u hu; simp at hu; subst hu; rfl) (by decide) (by unfold maxLen; omega) (by omega) (by have := lt_of_block H6a.out.1.tb; omega) _ rfl ?_
      intro g1 c1 w7 hown hgrow hat _
      have H7 : Hid (DR w Bd a2 n2 cap2 (k + 3 * j + 1 + 1) #[.int .i64 stock, .int .i64 store, .slice (some ⟨b, off, none⟩) ds.length cp] (w.heap.size + 1 + 1) vN vM vL w7 (.slice (some ⟨g1, 0, none⟩) (M.length + 1) c1) vL (.slice (some ⟨g0, 0, none⟩) (N.length + 1) c0) (M ++ [y]) L (N ++ [x]) ∧ w7.heap[wr.heap.size]? = some (.cells #[.int .i64 d.need.lo, .int .i64 d.need.hi, .int .i64 d.make.lo, .int .i64 d.make.hi, .int .i64 d.loss.lo, .int .i64 d.loss.hi] 97 (0, 0))) := ⟨(H6.out.1.rot).push hown hgrow hat, (H6.out.1.rot).keep H6.out.2 hgrow⟩
      clear hown hgrow hat
      refine hK.out _ _ ⟨⟨blk_cell H7.out.1.tb 0 rfl, blk_cell H7.out.1.tb 1 rfl, blk_cell H7.out.1.tb 2 rfl⟩, H7.out.2⟩ (fun _ => ?_)
      clear hK
      simp only [Act.put, List.setIfInBounds_toArray, List.set_cons_zero, List.set_cons_succ]
      refine wpAnyH_ready (rs := [33]) (by kernel_rfl) (by simp) ?_
      refine AllReadyH.cons (o := _) rfl (fun K hK => ?_) AllReadyH.nil
      go_simp
      go_at_call 53
      refine (between_any Bd (Bd + 1) a2 n2 cap2 (k + 3 * j + 1 + 1) d.loss.lo d.loss.hi _ H7.out.1.dk (by omega) (by omega)).mono ?_
      rintro e w8 ⟨⟨q, rfl, hq0, hq1⟩, hD, hA⟩
      have hA' := hA
      have H8 : Hid (DR w Bd a2 n2 cap2 (k + 3 * j + 1 + 1 + 1) #[.int .i64 stock, .int .i64 store, .slice (some ⟨b, off, none⟩) ds.length cp] (w.heap.size + 1 + 1) vN vM vL w8 (.slice (some ⟨g1, 0, none⟩) (M.length + 1) c1) vL (.slice (some ⟨g0, 0, none⟩) (N.length + 1) c0) (M ++ [y]) L (N ++ [x]) ∧ w8.heap[wr.heap.size]? = some (.cells #[.int .i64 d.need.lo, .int .i64 d.need.hi, .int .i64 d.make.lo, .int .i64 d.make.hi, .int .i64 d.loss.lo, .int .i64 d.loss.hi] 97 (0, 0))) := ⟨H7.out.1.call hA' hD, (hA'.block _ (lt_of_block H7.out.2) hXB).trans H7.out.2⟩
      clear hD hA hA'
      refine hK.out _ _ ⟨⟨blk_cell H8.out.1.tb 0 rfl, blk_cell H8.out.1.tb 1 rfl, blk_cell H8.out.1.tb 2 rfl⟩, H8.out.2⟩ (fun _ => ?_)
      clear hK
      simp only [Act.put, List.setIfInBounds_toArray, List.set_cons_zero, List.set_cons_succ]
      refine wpAnyH_ready (rs := [34]) (by kernel_rfl) (by simp) ?_
      refine AllReadyH.cons (o := _) rfl (fun K hK => ?_) AllReadyH.nil
      go_simp
      have H8a : Hid (DR w Bd a2 n2 cap2 (k + 3 * j + 1 + 1 + 1) #[.int .i64 stock, .int .i64 store, .slice (some ⟨b, off, none⟩) ds.length cp] (w.heap.size + 1 + 1) vN vM vL (w8.alloc (.cells #[.int .i64 q] 3)) (.slice (some ⟨g1, 0, none⟩) (M.length + 1) c1) vL (.slice (some ⟨g0, 0, none⟩) (N.length + 1) c0) (M ++ [y]) L (N ++ [x]) ∧ (w8.alloc (.cells #[.int .i64 q] 3)).heap[wr.heap.size]? = some (.cells #[.int .i64 d.need.lo, .int .i64 d.need.hi, .int .i64 d.make.lo, .int .i64 d.make.hi, .int .i64 d.loss.lo, .int .i64 d.loss.hi] 97 (0, 0))) := ⟨H8.out.1.below ((Below.refl _ _).alloc (Nat.le_refl _) _), alk H8.out.2⟩
      refine hK.out _ _ ⟨⟨blk_cell H8a.out.1.tb 0 rfl, blk_cell H8a.out.1.tb 1 rfl, blk_cell H8a.out.1.tb 2 rfl⟩, H8a.out.2⟩ (fun _ => ?_)
      clear hK
      simp only [Act.put, List.setIfInBounds_toArray, List.set_cons_zero, List.set_cons_succ]
      refine wpAnyH_ready (rs := [35]) (by kernel_rfl) (by simp) ?_
      refine AllReadyH.cons (o := _) rfl (fun K hK => ?_) AllReadyH.nil
      refine step_append_lies _ rfl (.tmp 40) (.tmp 49) 27 rfl (w.heap.size + 1 + 1 + 1) 3 i0 (.int .i64 0) 1 8 Try.underlying27 hi hz0 hz1 hz2 rfl (by decide) vL L.length (L.map (Value.int .i64)) rfl H8a.out.1.rot.r.n ⟨w8.heap.size, 0, none⟩ 1 1 [.int .i64 q] rfl rfl (cells_new w8 [.int .i64 q] 3) (by intro u hu; simp at hu; subst hu; rfl) (by decide) (by unfold maxLen; omega) (by omega) (by have := lt_of_block H8a.out.1.tb; omega) _ rfl ?_
      intro g2 c2 w9 hown hgrow hat _
      have H9 : Hid (DR w Bd a2 n2 cap2 (k + 3 * j + 1 + 1 + 1) #[.int .i64 stock, .int .i64 store, .slice (some ⟨b, off, none⟩) ds.length cp] (w.heap.size + 1 + 1) vN vM vL w9 (.slice (some ⟨g2, 0, none⟩) (L.length + 1) c2) (.slice (some ⟨g0, 0, none⟩) (N.length + 1) c0) (.slice (some ⟨g1, 0, none⟩) (M.length + 1) c1) (L ++ [q]) (N ++ [x]) (M ++ [y]) ∧ w9.heap[wr.heap.size]? = some (.cells #[.int .i64 d.need.lo, .int .i64 d.need.hi, .int .i64 d.make.lo, .int .i64 d.make.hi, .int .i64 d.loss.lo, .int .i64 d.loss.hi] 97 (0, 0))) := ⟨(H8.out.1.rot).push hown hgrow hat, (H8.out.1.rot).keep H8.out.2 hgrow⟩
      clear hown hgrow hat
      refine hK.out _ _ ⟨⟨blk_cell H9.out.1.tb 0 rfl, blk_cell H9.out.1.tb 1 rfl, blk_cell H9.out.1.tb 2 rfl⟩, H9.out.2⟩ (fun _ => ?_)
      clear hK
      simp only [Act.put, List.setIfInBounds_toArray, List.set_cons_zero, List.set_cons_succ]
      refine wpAnyH_done (by kernel_rfl) ?_ _
      show wpList _ _ _ (opsAt _ [37, 38, 39, 40, 41]) _ _
      simp only [opsAt, List.filterMap_cons, List.filterMap_nil, List.getElem?_toArray, List.getElem?_cons_succ, List.getElem?_cons_zero]
      have HP2 : Hid (PreSky ds (N ++ [x]) (M ++ [y]) (L ++ [q]) (j + 1)) := hP.out.more HD.out.1 ⟨hx0, hx1⟩ ⟨hy0, hy1⟩ ⟨hq0, hq1⟩
      have H9s := Lib.hid (H9.out.1.rot).store
      have t0 := blk_cell H9.out.1.tb 0 rfl
      have t1 := blk_cell H9.out.1.tb 1 rfl
      have t2 := blk_cell H9.out.1.tb 2 rfl
      have f0 := blk_free (j := 0) H9.out.1.tb
      have f1 := blk_free (j := 1) H9.out.1.tb
      have f2 := blk_free (j := 2) H9.out.1.tb
      clear HS0 H4 H4a H5 H6 H6a H7 H8 H8a HW HD hP hR hx0 hx1 hy0 hy1 hq0 hq1 hbs'
      go_wp2_with (fail)
      go_roundw
      case rel => exact ⟨j + 1, _, _, _, _, _, _, by go_num, by omega, (by have h := H9s.out; rw [show k + 3 * j + 1 + 1 + 1 = k + 3 * (j + 1) by omega, hNl, hMl, hLl] at h; exact h), HP2⟩
      case measure => simp [intOf]; omega
    · have hjl : j = ds.length := by omega
      subst hjl
      have hNl : N.length = ds.length := hP.out.1.1
      have hMl : M.length = ds.length := hP.out.1.2.1
      have hLl : L.length = ds.length := hP.out.1.2.2
      obtain ⟨an, cn, rfl, iN, fN⟩ := ints_of_owns hR.out.r.n
      obtain ⟨am, cm, rfl, iM, fM⟩ := ints_of_owns hR.out.r.m
      obtain ⟨al, cl, rfl, iL, fL⟩ := ints_of_owns hR.out.r.l
      have HI := Lib.hid (And.intro iN (And.intro iM (And.intro iL (And.intro fN (And.intro fM fL)))))
      clear iN iM iL fN fM fL
      have t0 := blk_cell hR.out.tb 0 rfl
      have t1 := blk_cell hR.out.tb 1 rfl
      have t2 := blk_cell hR.out.tb 2 rfl
      have r0 := blk_cell hR.out.rs 0 rfl
      have r1 := blk_cell hR.out.rs 1 rfl
      have r2 := blk_cell hR.out.rs 2 rfl
      have f0 := blk_free (j := 0) hR.out.rs
      have f1 := blk_free (j := 1) hR.out.rs
      have f2 := blk_free (j := 2) hR.out.rs
      have hsk := Lib.hid hP.out.sky
      go_wp2_with (fail)
      have p2 := blk_setCell (j := 2) (u := .slice al ds.length cl) (blk_setCell (j := 1) (u := .slice am ds.length cm) (blk_setCell (j := 0) (u := .slice an ds.length cn) hR.out.rs))
      have q0 := blk_cell p2 0 rfl
      have q1 := blk_cell p2 1 rfl
      have q2 := blk_cell p2 2 rfl
      refine bodyPost_ret (v := tv an ds.length cn am ds.length cm al ds.length cl) (by simp [results, Try.results52, go_sem, q0, q1, q2]) rfl ?_
      have ko : ∀ i, i ≠ w.heap.size + 1 → (((wr.setCell ⟨w.heap.size + 1, 0, none⟩ (.slice an ds.length cn)).setCell ⟨w.heap.size + 1, 1, none⟩ (.slice am ds.length cm)).setCell ⟨w.heap.size + 1, 2, none⟩ (.slice al ds.length cl)).heap[i]? = wr.heap[i]? := fun i hi => (Below.heap_setCell _ _ _ _ hi).trans ((Below.heap_setCell _ _ _ _ hi).trans (Below.heap_setCell _ _ _ _ hi))
      have hsz : (((wr.setCell ⟨w.heap.size + 1, 0, none⟩ (.slice an ds.length cn)).setCell ⟨w.heap.size + 1, 1, none⟩ (.slice am ds.length cm)).setCell ⟨w.heap.size + 1, 2, none⟩ (.slice al ds.length cl)).heap.size = wr.heap.size := by simp only [World.size_setCell]
      have hB := hR.out.hB
      have hap := hR.out.ap
      exact ⟨an, cn, am, cm, al, cl, N, M, L, rfl, ints_other HI.out.1 ko (Nat.le_of_eq hsz.symm) (fun p hp => by have := HI.out.2.2.2.1 p hp; omega), ints_other HI.out.2.1 ko (Nat.le_of_eq hsz.symm) (fun p hp => by have := HI.out.2.2.2.2.1 p hp; omega), ints_other HI.out.2.2.1 ko (Nat.le_of_eq hsz.symm) (fun p hp => by have := HI.out.2.2.2.2.2 p hp; omega), hsk.out, hR.out.dk.keep (Nat.le_of_eq hsz.symm) (fun i hi => ko i (by omega)),
        ⟨hap.os, hap.tape, hap.output, by rw [hsz]; exact hap.size, fun i hi hB' => (ko i (by omega)).trans (hap.block i hi hB')⟩, fun p hp => by have := HI.out.2.2.2.1 p hp; omega, fun p hp => by have := HI.out.2.2.2.2.1 p hp; omega, fun p hp => by have := HI.out.2.2.2.2.2 p hp; omega⟩
end Go.Proofs.Ytkmcdmidegcbaaa

namespace Go.Proofs.Ytkmcdmidegcbaaa
open Go.RowKit Go.Shelf
attribute [local go_sem] Oper.semAt_some

theorem drew_apart' {own : Nat → Prop} {X w2 : World} (h : Apart own X.drew w2) : Apart own X w2 := ⟨h.os, h.tape, h.output, h.size, h.block⟩
theorem ints_apart {W W' : World} {Bd : Nat} {a : Option Addr} {xs : List Int} (h : IntSl W a xs) (ha : Apart (fun j => j = Bd) W W') (hn : ∀ p, a = some p → Bd < p.block) : IntSl W' a xs := fun h0 => by
  obtain ⟨b, off, rfl, hb, hc⟩ := h h0
  have hne : Bd < b := hn _ rfl
  exact ⟨b, off, rfl, Nat.lt_of_lt_of_le hb ha.size, fun j hj => (World.cell?_of_block (w := W) (a := ⟨b, off + j, none⟩) (ha.block b hb (by omega))).trans (hc j hj)⟩

/-- A weather in box T, its lists, and a list of stocks, all behind the deck. -/
structure LW (W : World) (Bd T : Nat) (an : Option Addr) (cn : Nat) (am : Option Addr) (cm : Nat) (al : Option Addr) (cl : Nat) (sb : Option Addr) (m : Nat) (N M L S : List Int) : Prop where
  tb : W.heap[T]? = some (.cells #[.slice an m cn, .slice am m cm, .slice al m cl] 88 (0, 0))
  n : IntSl W an N
  m : IntSl W am M
  l : IntSl W al L
  s : IntSl W sb S
  hT : Bd < T
  fn : ∀ p, an = some p → Bd < p.block
  fm : ∀ p, am = some p → Bd < p.block
  fl : ∀ p, al = some p → Bd < p.block
  fs : ∀ p, sb = some p → Bd < p.block
section
variable {W W' : World} {Bd T : Nat} {an : Option Addr} {cn : Nat} {am : Option Addr} {cm : Nat} {al : Option Addr} {cl : Nat} {sb : Option Addr} {m : Nat} {N M L S : List Int}
theorem LW.below (h : LW W Bd T an cn am cm al cl sb m N M L S) (hb : Below W.heap.size W W') : LW W' Bd T an cn am cm al cl sb m N M L S := ⟨blk_below h.tb hb, h.n.below hb, h.m.below hb, h.l.below hb, h.s.below hb, h.hT, h.fn, h.fm, h.fl, h.fs⟩
theorem LW.apart (h : LW W Bd T an cn am cm al cl sb m N M L S) (ha : Apart (fun j => j = Bd) W W') : LW W' Bd T an cn am cm al cl sb m N M L S := by
  have hT := h.hT
  exact ⟨(ha.block _ (lt_of_block h.tb) (by omega)).trans h.tb, ints_apart h.n ha h.fn, ints_apart h.m ha h.fm, ints_apart h.l ha h.fl, ints_apart h.s ha h.fs, h.hT, h.fn, h.fm, h.fl, h.fs⟩
end

set_option maxRecDepth 100000 in
set_option maxHeartbeats 8000000 in
theorem lazy_any (a : Option Addr) (n cap : Nat) (a2 : Option Addr) (n2 cap2 : Nat) (w : World) (hb : BytesAt w a n) (hn : n ≤ 140737488355328) (hb2 : BytesAt w a2 n2) (hn2 : n2 ≤ 140737488355328) :
    Calls Try.prog 8 #[.slice a n cap, .slice a2 n2 cap2] w fun e w' => e = .returned (.bool true) ∧ Below w.heap.size w w' := by
  have HO := Lib.hid (of_any a n cap w hb hn)
  have HB2 := Lib.hid (And.intro hb2 hn2)
  clear hb hn hb2 hn2
  go_enter Try.func8, Try.ntmps8
  go_wp2_with (fail)
  refine HO.out.mono ?_
  rintro e w1 ⟨rfl, hD, hb1⟩
  have HD := Lib.hid (And.intro hD hb1)
  clear hD hb1 HO
  go_wp2_with (fail)
  refine (made_any w.heap.size (w.heap.size + 1) a n cap 0 20 w1 HD.out.1 (by omega) (by omega)).mono ?_
  rintro e w2 ⟨stock, store, ad, ds, cp, rfl, hS, h1, h2, h3, h4, _, hA, _⟩
  obtain ⟨Wa, hWa⟩ : ∃ Wa, w2.alloc (.cells #[.int .i64 stock, .int .i64 store, .slice ad ds.length cp] 60) = Wa := ⟨_, rfl⟩
  have hb2 : Below w.heap.size w w2 := below_apart HD.out.2 hA (fun j hj => by omega)
  have HF : Hid ((20 ≤ store ∧ store ≤ 200) ∧ (0 ≤ stock ∧ stock ≤ store) ∧ (1 ≤ ds.length ∧ ds.length ≤ 20) ∧ (∀ d ∈ ds, SmallDay d)) := ⟨h1, h2, ⟨h3.1, by omega⟩, h4⟩
  have HW := Lib.hid (winE_small (stock := stock) (store := store) (ds := ds) ⟨by omega, by omega⟩ h2 ⟨h3.1, by omega⟩ h4)
  have HK : Hid (KW w Wa w2.heap.size stock store ad ds cp ∧ w2.heap.size < Wa.heap.size ∧ (∀ p, ad = some p → p.block < Wa.heap.size)) := by
    rw [← hWa]
    refine ⟨⟨hb2.alloc hb2.size _, heap_alloc_new _ _, hS.below (alloc1 _ _)⟩, by simp, fun p hp => ?_⟩
    obtain ⟨b, off, e, hlt, _⟩ := hS (by omega)
    rw [hp] at e
    cases e
    show b < _
    simp; omega
  clear hS h1 h2 h3 h4 hA hb2
  go_wp2_with (fail)
  clear hWa
  refine (of_any a2 n2 cap2 Wa (HB2.out.1.keep HK.out.1.1.size (fun _ p _ hp => HK.out.1.1.block _ hp)) HB2.out.2).mono ?_
  rintro e w3 ⟨rfl, hD, hb⟩
  have HM : Hid (MP w w3 w2.heap.size Wa.heap.size stock store ad ds cp a2 n2 cap2 0) := ⟨HK.out.1.below hb, hD, HK.out.1.1.size, HK.out.2.1, HK.out.2.2⟩
  have HL : Hid (ds.length ≤ 1000000) := by have := HF.out.2.2.1; show _ ≤ _; omega
  clear hD hb
  have c0 := blk_cell HM.out.kw.2.1 0 rfl
  have c1 := blk_cell HM.out.kw.2.1 1 rfl
  have c2 := blk_cell HM.out.kw.2.1 2 rfl
  go_wp2_with (fail)
  clear c0 c1 c2
  refine (drawn_any Wa.heap.size a2 n2 cap2 0 stock store ad ds cp w3 HM.out.dk (by omega) HM.out.kw.2.2 (fun p hp => Nat.ne_of_lt (HM.out.far p hp)) (by have := HF.out.2.2.1; omega) HF.out.2.2.2).mono ?_
  rintro e w4 ⟨an, cn, am, cm, al, cl, N, M, L, rfl, iN, iM, iL, hsk, hD, hA, fN, fM, fL⟩
  obtain ⟨Wt, hWt⟩ : ∃ Wt, w4.alloc (.cells #[.slice an ds.length cn, .slice am ds.length cm, .slice al ds.length cl] 88) = Wt := ⟨_, rfl⟩
  have hBd3 := HM.out.dk.lt.2
  have HT : Hid (MP w Wt w2.heap.size Wa.heap.size stock store ad ds cp a2 n2 cap2 (0 + 3 * ds.length) ∧ LW Wt Wa.heap.size w4.heap.size an cn am cm al cl none ds.length N M L []) := by
    rw [← hWt]
    have h1 : Below w4.heap.size w4 (w4.alloc (.cells #[.slice an ds.length cn, .slice am ds.length cm, .slice al ds.length cl] 88)) := (Below.refl _ _).alloc (Nat.le_refl _) _
    have h2 := hA.size
    exact ⟨(HM.out.draw hA hD).below h1, ⟨heap_alloc_new _ _, iN.below h1, iM.below h1, iL.below h1, fun h => absurd h (by simp), by omega, fun p hp => by have := fN p hp; omega, fun p hp => by have := fM p hp; omega, fun p hp => by have := fL p hp; omega, fun p hp => by cases hp⟩⟩
  have HSK := Lib.hid hsk
  clear iN iM iL hsk hD hA fN fM fL
  have c0 := blk_cell HT.out.1.kw.2.1 0 rfl
  have c1 := blk_cell HT.out.1.kw.2.1 1 rfl
  have c2 := blk_cell HT.out.1.kw.2.1 2 rfl
  have t0 := blk_cell HT.out.2.tb 0 rfl
  have t1 := blk_cell HT.out.2.tb 1 rfl
  have t2 := blk_cell HT.out.2.tb 2 rfl
  go_wp2_with (fail)
  clear c0 c1 c2 t0 t1 t2 hWt
  obtain ⟨s, hS⟩ : ∃ s, playL stock store N M L ds.length = s := ⟨_, rfl⟩
  have HS := Lib.hid hS
  have hln := play_len stock store N M L ds.length
  rw [hS] at hln
  have HLN := Lib.hid hln
  clear hS hln
  have HC := Stocks_any stock store ad ds cp an N cn am M cm al L cl Wt HT.out.1.kw.2.2 HT.out.2.n HT.out.2.m HT.out.2.l HW.out HSK.out
  rw [HS.out] at HC
  refine HC.mono ?_
  rintro e w5 ⟨sb, sc, rfl, ⟨iS, fS⟩, hb⟩
  have HV : Hid (MP w w5 w2.heap.size Wa.heap.size stock store ad ds cp a2 n2 cap2 (0 + 3 * ds.length) ∧ LW w5 Wa.heap.size w4.heap.size an cn am cm al cl sb ds.length N M L s.stocks) := by
    have h := HT.out.2.below hb
    have h2 := HT.out.1.dk.lt
    exact ⟨HT.out.1.below hb, ⟨h.tb, h.n, h.m, h.l, iS, h.hT, h.fn, h.fm, h.fl, fun p hp => by have := fS p hp; omega⟩⟩
  clear HC iS fS hb
  have c0 := blk_cell HV.out.1.kw.2.1 0 rfl
  have c1 := blk_cell HV.out.1.kw.2.1 1 rfl
  have c2 := blk_cell HV.out.1.kw.2.1 2 rfl
  have t0 := blk_cell HV.out.2.tb 0 rfl
  have t1 := blk_cell HV.out.2.tb 1 rfl
  have t2 := blk_cell HV.out.2.tb 2 rfl
  go_wp2_with (fail)
  clear c0 c1 c2 t0 t1 t2
  have HC := Fails_any stock store ad ds cp an N cn am M cm al L cl w5 HV.out.1.kw.2.2 HV.out.2.n HV.out.2.m HV.out.2.l HW.out HSK.out
  rw [HS.out] at HC
  refine HC.mono ?_
  rintro e w6 ⟨rfl, hb⟩
  have HV := Lib.hid (And.intro (HV.out.1.below hb) (HV.out.2.below hb))
  clear HC hb
  go_upto_region 6 with (fail)
  go_cut [61] (fun b wx => b = .bool false ∧ wx = w6)
  case first => as_aux_lemma =>
    have c2 := blk_cell HV.out.1.kw.2.1 2 rfl
    rcases HLN.out with ⟨h1, h2, _⟩ | ⟨d, h1, h2, _, hlt⟩
    · have q1 : (s.fails == -1) = true := by simp [h1]
      have q2 : ((s.stocks.length : Int) != (ds.length : Int)) = false := by simp [h2]
      have q3 : (s.fails != -1) = false := by simp [h1]
      clear h1 h2
      go_wp2_with (fail)
      go_meet
      exact ⟨rfl, rfl⟩
    · have q1 : (s.fails == -1) = false := by simp [h1]
      have q2 : (s.fails != -1) = true := by simp [h1]
      have q3 : ((s.stocks.length : Int) != s.fails) = false := by simp [h1, h2]
      clear h1 h2
      go_wp2_with (fail)
      go_meet
      exact ⟨rfl, rfl⟩
  case rest => as_aux_lemma =>
    obtain ⟨rfl, rfl⟩ := hcut
    have c0 := blk_cell HV.out.1.kw.2.1 0 rfl
    have c2 := blk_cell HV.out.1.kw.2.1 2 rfl
    go_wp2_with (fail)
    clear c0 c2
    have HBD := Lib.hid (HSK.out.bd (win_ok HW.out).2.2)
    go_loopw [12, 67] (fun st i wr => ∃ (j k : Nat) (x : Int), st = .int .i64 x ∧ i = .int .i64 j ∧ j ≤ ds.length ∧ Hid (k ≤ 60 + j) ∧ Hid ((playL stock store N M L j).fails = -1 ∧ 0 ≤ x ∧ x ≤ (playL stock store N M L j).stock) ∧ Hid (MP w wr w2.heap.size Wa.heap.size stock store ad ds cp a2 n2 cap2 k ∧ LW wr Wa.heap.size w4.heap.size an cn am cm al cl sb ds.length N M L s.stocks)) (fun _ i _ => ds.length - (intOf i).toNat)
    case atStart => exact ⟨0, 0 + 3 * ds.length, stock, rfl, rfl, Nat.zero_le _, (by show 0 + 3 * ds.length ≤ 60 + 0; have := HF.out.2.2.1; omega), ⟨rfl, HF.out.2.1.1, Int.le_refl _⟩, HV.out⟩
    case round =>
      obtain ⟨j, k, x, rfl, rfl, hj, hk, hL, hM⟩ := hrel
      by_cases hlt : j < ds.length
      · obtain ⟨d, hd⟩ : ∃ d, ds[j]? = some d := ⟨_, List.getElem?_eq_getElem hlt⟩
        have hsm := HF.out.2.2.2 d (List.mem_of_getElem? hd)
        have hsp := HSK.out.2 j d hd
        have hps := play_stock (stock := stock) (store := store) HF.out.2.1 (fun k => getD_nn HBD.out.2.1 k) (fun k => getD_nn HBD.out.2.2 k) (fun k => getD_nn HBD.out.1 k) j hL.out.1
        have hlz := fun (y1 r : Int) (h1 : y1 = max 0 (x - L[j]?.getD 0)) (h2 : 0 ≤ r) (h3 : r ≤ M[j]?.getD 0) (h4 : 0 ≤ y1 + min (store - y1) r - N[j]?.getD 0) => lazy_step (stock := stock) (store := store) HF.out.2.1 (fun k => getD_nn HBD.out.2.1 k) (fun k => getD_nn HBD.out.2.2 k) (fun k => getD_nn HBD.out.1 k) j hL.out.1 x r ⟨hL.out.2.1, hL.out.2.2⟩ ⟨h2, h3⟩ (y1 + min (store - y1) r - N[j]?.getD 0) (by rw [h1]) h4
        have hln := HSK.out.1
        obtain ⟨bn, on, ean, hbn, hcn⟩ := hM.out.2.n (by omega)
        obtain ⟨bm, om, eam, hbm, hcm⟩ := hM.out.2.m (by omega)
        obtain ⟨bl, ol, eal, hbl, hcl⟩ := hM.out.2.l (by omega)
        have cN := hcn j (by omega)
        have cM := hcm j (by omega)
        have cL := hcl j (by omega)
        have hxb : 0 ≤ x ∧ x ≤ store ∧ store ≤ 200 := ⟨hL.out.2.1, by have := hL.out.2.2; omega, HF.out.1.2⟩
        have hbb : (0 ≤ N[j]?.getD 0 ∧ N[j]?.getD 0 ≤ 100) ∧ (0 ≤ M[j]?.getD 0 ∧ M[j]?.getD 0 ≤ 100) ∧ (0 ≤ L[j]?.getD 0 ∧ L[j]?.getD 0 ≤ 100) := by
          unfold SmallDay SmallSp at hsm
          omega
        have HLZ := Lib.hid hlz
        have HM := hM
        have HE : Hid (an = some ⟨bn, on, none⟩ ∧ am = some ⟨bm, om, none⟩ ∧ al = some ⟨bl, ol, none⟩) := ⟨ean, eam, eal⟩
        clear hlz hsm hsp hps hd hcn hcm hcl hM hln ean eam eal
        generalize hnj : N[j]?.getD 0 = nj at *
        have HNJ := Lib.hid hnj
        clear hnj
        generalize M[j]?.getD 0 = mj at *
        generalize L[j]?.getD 0 = lj at *
        have t0 : wr.cell? ⟨w4.heap.size, 0, none⟩ = some (.slice (some ⟨bn, on, none⟩) ds.length cn) := by rw [← HE.out.1]; exact blk_cell HM.out.2.tb 0 rfl
        have t1 : wr.cell? ⟨w4.heap.size, 1, none⟩ = some (.slice (some ⟨bm, om, none⟩) ds.length cm) := by rw [← HE.out.2.1]; exact blk_cell HM.out.2.tb 1 rfl
        have t2 : wr.cell? ⟨w4.heap.size, 2, none⟩ = some (.slice (some ⟨bl, ol, none⟩) ds.length cl) := by rw [← HE.out.2.2]; exact blk_cell HM.out.2.tb 2 rfl
        have c1 := blk_cell HM.out.1.kw.2.1 1 rfl
        go_upto_region 12 with (fail)
        go_cut [12, 67] (fun st i wx => st = .int .i64 (max 0 (x - lj)) ∧ i = .int .i64 j ∧ wx = wr)
        case first =>
          have hw1 : IntKind.i64.wrap (x - lj) = x - lj := IntWalk.i64_in _ (by omega)
          go_wp2_with (fail)
          all_goals (
            go_meet
            exact ⟨congrArg (Value.int .i64) (by omega), rfl, rfl⟩)
        case rest =>
          obtain ⟨rfl, rfl, rfl⟩ := hcut
          obtain ⟨y1, hy1⟩ : ∃ y1, max 0 (x - lj) = y1 := ⟨_, rfl⟩
          rw [hy1]
          have hyb : 0 ≤ y1 ∧ y1 ≤ store := by omega
          have HY := Lib.hid hy1.symm
          clear hy1
          have hbm2 : bm ≠ Wa.heap.size := by have h := HM.out.2.fm ⟨bm, om, none⟩ HE.out.2.1; exact Nat.ne_of_gt h
          have hmj := hbb.2.1
          go_upto_region 13 with (fail)
          go_cut [12, 67] (fun st i wx => i = .int .i64 j ∧ ∃ r : Int, (0 ≤ r ∧ r ≤ mj) ∧ st = .int .i64 (y1 + min (store - y1) r) ∧ MP w wx w2.heap.size Wa.heap.size stock store ad ds cp a2 n2 cap2 (k + 1) ∧ LW wx Wa.heap.size w4.heap.size an cn am cm al cl sb ds.length N M L s.stocks)
          case first =>
            have hwa : IntKind.i64.wrap (store - y1) = store - y1 := IntWalk.i64_in _ (by omega)
            have hwm : IntKind.i64.wrap (mj + 1) = mj + 1 := IntWalk.i64_in _ (by omega)
            go_region_held3 (fun w' => w'.cell? ⟨w2.heap.size, 1, none⟩ = some (.int .i64 store) ∧ w'.cell? ⟨w4.heap.size, 1, none⟩ = some (.slice (some ⟨bm, om, none⟩) ds.length cm) ∧ w'.cell? ⟨bm, om + j, none⟩ = some (.int .i64 mj)) (go_keep)
              (first | (go_at_call 54; refine (draw_any Wa.heap.size (Wa.heap.size + 1) a2 n2 cap2 k (mj + 1) _ (HM.out.1.dk.below ((Below.refl _ _).drew)) (by have := hk.out; have := HF.out.2.2.1; omega) (by omega)).mono ?_; rintro e w5' ⟨⟨r, rfl, hr0, hr1⟩, hD, hA⟩; have hA' := drew_apart' hA; have HM5 := Lib.hid (And.intro (HM.out.1.draw hA' hD) (HM.out.2.apart hA')); have cM' := (World.cell?_of_block (a := ⟨bm, om + j, none⟩) (hA'.block bm hbm hbm2)).trans cM; clear hD hA hA' cM c1 t1 t0 t2; have cM := cM'; clear cM'; have c1 := blk_cell HM5.out.1.kw.2.1 1 rfl; have t1 := blk_cell HM5.out.2.tb 1 rfl; rw [HE.out.2.1] at t1; have hw2 : IntKind.i64.wrap (y1 + (store - y1)) = y1 + (store - y1) := IntWalk.i64_in _ (by omega); have hw3 : IntKind.i64.wrap (y1 + r) = y1 + r := IntWalk.i64_in _ (by omega)))
            all_goals (
              go_wp2_with (fail)
              all_goals (
                go_meet
                exact ⟨rfl, r, ⟨hr0, by omega⟩, congrArg (Value.int .i64) (by omega), HM5.out.1, HM5.out.2⟩))
          case rest =>
            obtain ⟨rfl, r, hr, rfl, hm1, hm2⟩ := hcut
            have HM6 := Lib.hid (And.intro hm1 hm2)
            have HR := Lib.hid hr
            have hyy := fun h4 => HLZ.out y1 r HY.out hr.1 hr.2 h4
            obtain ⟨y2, hy2⟩ : ∃ y2, y1 + min (store - y1) r = y2 := ⟨_, rfl⟩
            rw [hy2] at hyy ⊢
            have hyb2 : 0 ≤ y2 ∧ y2 ≤ store := by omega
            clear hm1 hm2 hr hy2 t0 t1 t2 c1 cN cM cL
            obtain ⟨bn', on', ean, hbn', hcn⟩ := HM6.out.2.n (by have := HSK.out.1.1; omega)
            have cN := hcn j (by have := HSK.out.1.1; omega)
            rw [HNJ.out] at cN
            have t0 : wc.cell? ⟨w4.heap.size, 0, none⟩ = some (.slice (some ⟨bn', on', none⟩) ds.length cn) := by rw [← ean]; exact blk_cell HM6.out.2.tb 0 rfl
            have hw4 : IntKind.i64.wrap (y2 - nj) = y2 - nj := IntWalk.i64_in _ (by omega)
            clear hcn ean
            by_cases hneg : y2 - nj < 0
            · have hpl := play_later stock store N M L j ds.length hj hL.out.1
              rw [HS.out] at hpl
              by_cases hF : s.fails = -1
              · have q1 : (s.fails == -1) = true := by simp [hF]
                clear hpl hF hyy
                go_wp2_with (first | (go_at_call 15; refine (awake_any _).mono ?_; rintro e v7 ⟨rfl, hb⟩; have HM2 := Lib.hid (HM6.out.1.below hb); clear hb))
                go_ret
                exact ⟨rfl, HM2.out.kw.1⟩
              · have q1 : (s.fails == -1) = false := by simp [hF]
                have q2 : (j : Int) ≤ s.fails := by omega
                clear hpl hF hyy
                go_wp2_with (first | (go_at_call 15; refine (awake_any _).mono ?_; rintro e v7 ⟨rfl, hb⟩; have HM2 := Lib.hid (HM6.out.1.below hb); clear hb))
                go_ret
                exact ⟨rfl, HM2.out.kw.1⟩
            · have hz := hyy (by omega)
              have htd := play_told stock store N M L j ds.length (by omega) hz.1
              rw [HS.out] at htd
              have HZ := Lib.hid hz
              obtain ⟨bs, os, rfl, hbs, hcs⟩ := HM6.out.2.s (by omega)
              have cS := hcs j htd.1
              rw [htd.2] at cS
              have hlS : (j : Int) < (s.stocks.length : Int) := by omega
              have hle := hz.2
              clear hcs hz htd hyy
              generalize (playL stock store N M L (j + 1)).stock = p1 at cS hle
              have hle2 : ¬ p1 < y2 - nj := by omega
              have hdl := HF.out.2.2.1
              go_wp2_with (fail)
              go_roundw
              case rel => exact ⟨j + 1, k + 1, y2 - nj, by go_num, by go_num, by omega, (by show k + 1 ≤ 60 + (j + 1); have := hk.out; omega), ⟨HZ.out.1, by omega, HZ.out.2⟩, HM6.out⟩
              case measure => simp [intOf]; omega
      · have hjl : j = ds.length := by omega
        subst hjl
        have hF : s.fails = -1 := by rw [← HS.out]; exact hL.out.1
        have q1 : (s.fails == -1) = true := by simp [hF]
        clear hF
        go_wp2_with (first | (go_at_call 15; refine (awake_any _).mono ?_; rintro e v7 ⟨rfl, hb⟩; have HM2 := Lib.hid (hM.out.1.below hb); clear hb))
        go_ret
        exact ⟨rfl, HM2.out.kw.1⟩
end Go.Proofs.Ytkmcdmidegcbaaa
