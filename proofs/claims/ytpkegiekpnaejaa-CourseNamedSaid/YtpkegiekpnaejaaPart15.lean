/-
What the memory of Drawn holds: three lists that grow, each in a block of its own.
  What is proved: these facts go on from one step to the next.
  Conditions: each lemma states its own.
The contract of Drawn over this seat's program.
  What is proved: a weather within the winter's spans is dealt, its lists in blocks of their own; only the deck itself turns.
  Conditions: a deck that has dealt at most 1000 times; at most 60 days of small numbers.
What the memory holds while three lists in a box grow, each by one number that is built apart.
  What is proved: these facts go on from one step to the next, in whatever order the numbers are built.
  Conditions: each lemma states its own.
-/
import Derived.Test.YtpkegiekpnaejaaPart14
import Derived.Deep.AppendLies
namespace Go.Proofs.Ytpkegiekpnaejaa
open Go.RowKit Go.Shelf

/-- Three lists of the call's own, each in a block of its own. -/
structure R3 (W : World) (base : Nat) (vN vM vL : Value) (N M L : List Int) : Prop where
  n : W.ownsRow base 3 1 vN N.length (N.map (Value.int .i64))
  m : W.ownsRow base 3 1 vM M.length (M.map (Value.int .i64))
  l : W.ownsRow base 3 1 vL L.length (L.map (Value.int .i64))
  d1 : ∀ i, vN.ownBlock = some i → vM.ownBlock ≠ some i
  d2 : ∀ i, vM.ownBlock = some i → vL.ownBlock ≠ some i
  d3 : ∀ i, vL.ownBlock = some i → vN.ownBlock ≠ some i

section
variable {W W' : World} {base : Nat} {vN vM vL : Value} {N M L : List Int}
theorem R3.rot (h : R3 W base vN vM vL N M L) : R3 W base vM vL vN M L N := ⟨h.m, h.l, h.n, h.d2, h.d3, h.d1⟩
theorem R3.step (h : R3 W base vN vM vL N M L) (hk : ∀ g, base ≤ g → g < W.heap.size → W'.heap[g]? = W.heap[g]?) : R3 W' base vN vM vL N M L :=
  ⟨owns_step h.n (fun g h1 _ h2 => hk g h1 h2), owns_step h.m (fun g h1 _ h2 => hk g h1 h2), owns_step h.l (fun g h1 _ h2 => hk g h1 h2), h.d1, h.d2, h.d3⟩
theorem R3.below (h : R3 W base vN vM vL N M L) (hb : Below W.heap.size W W') : R3 W' base vN vM vL N M L := h.step (fun g _ hg => hb.block g hg)
/-- One more in the first list. -/
theorem R3.push (h : R3 W base vN vM vL N M L) {x : Int} {g cap : Nat} (ho : W'.ownsRow base 3 1 (.slice (some ⟨g, 0, none⟩) (N.length + 1) cap) (N.length + 1) (N.map (Value.int .i64) ++ [.int .i64 x])) (hg : W.grownBy W' vN.ownBlock) (hat : vN.ownBlock = some g ∨ g = W.heap.size) :
    R3 W' base (.slice (some ⟨g, 0, none⟩) (N.length + 1) cap) vM vL (N ++ [x]) M L := by
  have hM : ∀ i, vM.ownBlock = some i → i ≠ g := fun i hi e => by
    rcases hat with hat | hat
    · exact h.d1 g hat (by rw [← e]; exact hi)
    · have := (h.m.lt i hi).2; omega
  have hL : ∀ i, vL.ownBlock = some i → i ≠ g := fun i hi e => by
    rcases hat with hat | hat
    · exact h.d3 i hi (by rw [e]; exact hat)
    · have := (h.l.lt i hi).2; omega
  refine ⟨?_, owns_step h.m (fun i _ hi hlt => hg.block i hlt (fun e => h.d1 i e.symm hi)), owns_step h.l (fun i _ hi hlt => hg.block i hlt (fun e => h.d3 i hi e.symm)), fun i hi hm => ?_, h.d2, fun i hi hn => ?_⟩
  · have e : (N ++ [x]).length = N.length + 1 := by simp
    rw [e]
    simpa using ho
  · simp only [Value.ownBlock, Option.some.injEq] at hi
    exact hM i hm hi.symm
  · simp only [Value.ownBlock, Option.some.injEq] at hn
    exact hL i hi hn.symm
end

/-- The memory of Drawn: the deck in block Bd, the winter in a box, the weather in box T, a day in box Xb. -/
structure DR (w0 : World) (Bd : Nat) (a : Option Addr) (n cap k : Nat) (vw : Array Value) (T : Nat) (tN tM tL : Value) (W : World) (vN vM vL : Value) (N M L : List Int) : Prop where
  ap : Apart (fun j => j = Bd) w0 W
  dk : Deck W Bd (Bd + 1) a n cap k
  wb : W.heap[w0.heap.size]? = some (.cells vw 60 (0, 0))
  rs : W.heap[w0.heap.size + 1]? = some (.cells #[.slice none 0 0, .slice none 0 0, .slice none 0 0] 88 (0, 0))
  tb : W.heap[T]? = some (.cells #[tN, tM, tL] 88 (0, 0))
  hT : w0.heap.size + 1 < T
  hB : Bd < w0.heap.size
  r : R3 W (T + 1) vN vM vL N M L

section
variable {w0 W W' : World} {Bd : Nat} {a : Option Addr} {n cap k k' : Nat} {vw : Array Value} {T : Nat} {tN tM tL : Value} {vN vM vL : Value} {N M L : List Int}
theorem DR.rot (h : DR w0 Bd a n cap k vw T tN tM tL W vN vM vL N M L) : DR w0 Bd a n cap k vw T tN tM tL W vM vL vN M L N := ⟨h.ap, h.dk, h.wb, h.rs, h.tb, h.hT, h.hB, h.r.rot⟩
theorem DR.below (h : DR w0 Bd a n cap k vw T tN tM tL W vN vM vL N M L) (hb : Below W.heap.size W W') : DR w0 Bd a n cap k vw T tN tM tL W' vN vM vL N M L :=
  ⟨h.ap.trans (Apart.of_below hb), h.dk.below hb, blk_below h.wb hb, blk_below h.rs hb, blk_below h.tb hb, h.hT, h.hB, h.r.below hb⟩
theorem DR.call (h : DR w0 Bd a n cap k vw T tN tM tL W vN vM vL N M L) (ha : Apart (fun j => j = Bd) W W') (hd : Deck W' Bd (Bd + 1) a n cap k') : DR w0 Bd a n cap k' vw T tN tM tL W' vN vM vL N M L := by
  have h1 := h.hT
  have h2 := h.hB
  exact ⟨h.ap.trans ha, hd, (ha.block _ (lt_of_block h.wb) (by omega)).trans h.wb, (ha.block _ (lt_of_block h.rs) (by omega)).trans h.rs, (ha.block _ (lt_of_block h.tb) (by omega)).trans h.tb, h1, h2, h.r.step (fun g hg hlt => ha.block g hlt (by omega))⟩
/-- One more in the first list, behind the making of a block. -/
theorem DR.push (h : DR w0 Bd a n cap k vw T tN tM tL W vN vM vL N M L) {o : Obj} {x : Int} {g c : Nat} (ho : W'.ownsRow (T + 1) 3 1 (.slice (some ⟨g, 0, none⟩) (N.length + 1) c) (N.length + 1) (N.map (Value.int .i64) ++ [.int .i64 x])) (hg : (W.alloc o).grownBy W' vN.ownBlock) (hat : vN.ownBlock = some g ∨ g = (W.alloc o).heap.size) :
    DR w0 Bd a n cap k vw T tN tM tL W' (.slice (some ⟨g, 0, none⟩) (N.length + 1) c) vM vL (N ++ [x]) M L := by
  have h' := h.below (W' := W.alloc o) ((Below.refl _ _).alloc (Nat.le_refl _) _)
  have h1 := h.hT
  have h2 := h.hB
  have low : ∀ j, j < (W.alloc o).heap.size → j ≤ T → W'.heap[j]? = (W.alloc o).heap[j]? := fun j hj hT => hg.block j hj (fun e => by have := (h.r.n.lt j e.symm).1; omega)
  have hTl := lt_of_block h'.tb
  exact ⟨⟨hg.os.trans h'.ap.os, hg.tape.trans h'.ap.tape, hg.output.trans h'.ap.output, Nat.le_trans h'.ap.size hg.size, fun j hj hB => (low j (Nat.lt_of_lt_of_le hj h'.ap.size) (by omega)).trans (h'.ap.block j hj hB)⟩,
    h'.dk.keep hg.size (fun j hj => low j (Nat.lt_of_lt_of_le hj h'.dk.lt.2) (by omega)), (low _ (lt_of_block h'.wb) (by omega)).trans h'.wb, (low _ (lt_of_block h'.rs) (by omega)).trans h'.rs, (low _ hTl (Nat.le_refl _)).trans h'.tb, h1, h2, h'.r.push ho hg hat⟩
/-- A block of another type goes on. -/
theorem DR.keep (h : DR w0 Bd a n cap k vw T tN tM tL W vN vM vL N M L) {o : Obj} {Xb : Nat} {cs : Array Value} (hx : W.heap[Xb]? = some (.cells cs 97 (0, 0))) (hg : (W.alloc o).grownBy W' vN.ownBlock) : W'.heap[Xb]? = some (.cells cs 97 (0, 0)) := by
  have hx' : (W.alloc o).heap[Xb]? = some (.cells cs 97 (0, 0)) := alk hx
  refine (hg.block Xb (lt_of_block hx') (fun e => ?_)).trans hx'
  rcases h.r.n.2 with ⟨e', _⟩ | ⟨g, c, cur, e', _, hgb, _⟩
  · rw [e'] at e; cases e
  · rw [e'] at e
    simp only [Value.ownBlock, Option.some.injEq] at e
    subst e
    rw [hx] at hgb
    simp at hgb
theorem DR.store (h : DR w0 Bd a n cap k vw T tN tM tL W vN vM vL N M L) : DR w0 Bd a n cap k vw T vN vM vL (((W.setCell ⟨T, 0, none⟩ vN).setCell ⟨T, 1, none⟩ vM).setCell ⟨T, 2, none⟩ vL) vN vM vL N M L := by
  have h1 := h.hT
  have h2 := h.hB
  have ko : ∀ j, j ≠ T → (((W.setCell ⟨T, 0, none⟩ vN).setCell ⟨T, 1, none⟩ vM).setCell ⟨T, 2, none⟩ vL).heap[j]? = W.heap[j]? := fun j hj => (Below.heap_setCell _ _ _ _ hj).trans ((Below.heap_setCell _ _ _ _ hj).trans (Below.heap_setCell _ _ _ _ hj))
  have hs : (((W.setCell ⟨T, 0, none⟩ vN).setCell ⟨T, 1, none⟩ vM).setCell ⟨T, 2, none⟩ vL).heap.size = W.heap.size := by simp only [World.size_setCell]
  refine ⟨?_, h.dk.keep (by rw [hs]; exact Nat.le_refl _) (fun j hj => ko j (by omega)), (ko _ (by omega)).trans h.wb, (ko _ (by omega)).trans h.rs, blk_setCell (j := 2) (blk_setCell (j := 1) (blk_setCell (j := 0) h.tb)), h1, h2, h.r.step (fun g hg _ => ko g (by omega))⟩
  exact ⟨h.ap.os, h.ap.tape, h.ap.output, by rw [hs]; exact h.ap.size, fun j hj hB => (ko j (by omega)).trans (h.ap.block j hj hB)⟩
end
end Go.Proofs.Ytpkegiekpnaejaa

namespace Go.Proofs.Ytpkegiekpnaejaa
open Go.RowKit Go.Shelf
attribute [local go_sem] Oper.semAt_some

/-- The first days of a weather. -/
def PreSky (ds : List Dy) (N M L : List Int) (j : Nat) : Prop :=
  (N.length = j ∧ M.length = j ∧ L.length = j) ∧
  ∀ (k : Nat) (d : Dy), k < j → ds[k]? = some d → (d.need.lo ≤ N[k]?.getD 0 ∧ N[k]?.getD 0 ≤ d.need.hi) ∧ (d.make.lo ≤ M[k]?.getD 0 ∧ M[k]?.getD 0 ≤ d.make.hi) ∧ (d.loss.lo ≤ L[k]?.getD 0 ∧ L[k]?.getD 0 ≤ d.loss.hi)
theorem PreSky.sky {ds : List Dy} {N M L : List Int} (h : PreSky ds N M L ds.length) : Sky ds N M L := ⟨h.1, fun k d hk => h.2 k d (by
  rcases Nat.lt_or_ge k ds.length with h | h
  · exact h
  · rw [List.getElem?_eq_none h] at hk; cases hk) hk⟩
theorem PreSky.more {ds : List Dy} {N M L : List Int} {j : Nat} (h : PreSky ds N M L j) {d : Dy} (hd : ds[j]? = some d) {x y z : Int} (hx : d.need.lo ≤ x ∧ x ≤ d.need.hi) (hy : d.make.lo ≤ y ∧ y ≤ d.make.hi) (hz : d.loss.lo ≤ z ∧ z ≤ d.loss.hi) : PreSky ds (N ++ [x]) (M ++ [y]) (L ++ [z]) (j + 1) := by
  obtain ⟨⟨h1, h2, h3⟩, h⟩ := h
  refine ⟨⟨by simp [h1], by simp [h2], by simp [h3]⟩, fun k e hk he => ?_⟩
  rw [getD_snoc, getD_snoc, getD_snoc, h1, h2, h3]
  by_cases hkj : k < j
  · rw [if_pos hkj, if_pos hkj, if_pos hkj]
    exact h k e hkj he
  · have : k = j := by omega
    subst this
    rw [hd] at he
    cases he
    rw [if_neg hkj, if_neg hkj, if_neg hkj, if_pos rfl, if_pos rfl, if_pos rfl]
    exact ⟨hx, hy, hz⟩

set_option maxRecDepth 100000 in
set_option maxHeartbeats 4000000 in
theorem drawn_any (Bd : Nat) (a2 : Option Addr) (n2 cap2 k : Nat) (stock store : Int) (ad : Option Addr) (ds : List Dy) (cp : Nat) (w : World) (hd : Deck w Bd (Bd + 1) a2 n2 cap2 k) (hk : k ≤ 1000) (hx : Sl 6 Dy.cells w ad ds) (hfar : ∀ p, ad = some p → p.block ≠ Bd) (hl : ds.length ≤ 60) (hs : ∀ d ∈ ds, SmallDay d) :
    Calls Try.prog 52 #[.pointer (some ⟨Bd, 0, none⟩), wv stock store ad ds.length cp] w fun e w' => ∃ an cn am cm al cl N M L, e = .returned (tv an ds.length cn am ds.length cm al ds.length cl) ∧ IntSl w' an N ∧ IntSl w' am M ∧ IntSl w' al L ∧ Sky ds N M L ∧ Deck w' Bd (Bd + 1) a2 n2 cap2 (k + 3 * ds.length) ∧ Apart (fun j => j = Bd) w w' ∧ (∀ p, an = some p → w.heap.size ≤ p.block) ∧ (∀ p, am = some p → w.heap.size ≤ p.block) ∧ (∀ p, al = some p → w.heap.size ≤ p.block) := by
  obtain ⟨i0, hi, hz0, hz1, hz2⟩ := info_parts Try.info3
  have HX := Lib.hid (And.intro hx (And.intro hfar hs))
  obtain ⟨Wa, hWa⟩ : ∃ Wa, ((w.alloc (.cells #[.int .i64 stock, .int .i64 store, .slice ad ds.length cp] 60)).alloc (.cells #[.slice none 0 0, .slice none 0 0, .slice none 0 0] 88)).alloc (.cells #[.slice none 0 0, .slice none 0 0, .slice none 0 0] 88) = Wa := ⟨_, rfl⟩
  have hlt := hd.lt
  have HR : Hid (DR w Bd a2 n2 cap2 k #[.int .i64 stock, .int .i64 store, .slice ad ds.length cp] (w.heap.size + 1 + 1) (.slice none 0 0) (.slice none 0 0) (.slice none 0 0) Wa (.slice none 0 0) (.slice none 0 0) (.slice none 0 0) [] [] []) := by
    have hb : Below w.heap.size w Wa := by rw [← hWa]; exact (((Below.refl _ _).alloc (Nat.le_refl _) _).alloc (by simp) _).alloc (by simp; omega) _
    refine ⟨Apart.of_below hb, hd.below hb, by rw [← hWa]; exact alk (alk (new_at rfl)), by rw [← hWa]; exact alk (new_at (by simp)), by rw [← hWa]; exact new_at (by simp), by omega, by omega, ⟨?_, ?_, ?_, ?_, ?_, ?_⟩⟩
    · exact World.ownsRow_nil _ _ _ _
    · exact World.ownsRow_nil _ _ _ _
    · exact World.ownsRow_nil _ _ _ _
    all_goals (intro i hi; cases hi)
  clear hd hx hfar hs
  have c2 := blk_cell HR.out.wb 2 rfl
  go_enter Try.func52, Try.ntmps52
  go_wp2_with (fail)
  clear hWa c2
  go_loopw [11] (fun i wr => ∃ (j : Nat) (vN vM vL : Value) (N M L : List Int), i = .int .i64 j ∧ j ≤ ds.length ∧ Hid (DR w Bd a2 n2 cap2 (k + 3 * j) #[.int .i64 stock, .int .i64 store, .slice ad ds.length cp] (w.heap.size + 1 + 1) vN vM vL wr vN vM vL N M L) ∧ Hid (PreSky ds N M L j)) (fun i _ => ds.length - (intOf i).toNat)
  case atStart => exact ⟨0, _, _, _, [], [], [], rfl, Nat.zero_le _, HR.out, ⟨⟨rfl, rfl, rfl⟩, fun k d h => by omega⟩⟩
  case round =>
    obtain ⟨j, vN, vM, vL, N, M, L, rfl, hj, hR, hP⟩ := hrel
    by_cases hltj : j < ds.length
    · obtain ⟨b, off, rfl, hbs, hc⟩ := HX.out.1 (by omega)
      have hne := HX.out.2.1 _ rfl
      have HD : Hid (ds[j]? = some ds[j] ∧ SmallDay ds[j]) := ⟨List.getElem?_eq_getElem hltj, HX.out.2.2 _ (List.getElem_mem hltj)⟩
      have ck : ∀ (i : Nat) (u : Int), (Dy.cells ds[j])[i]? = some u → wr.cell? ⟨b, off + j * 6 + i, none⟩ = some (.int .i64 u) := fun i u hu => (World.cell?_of_block (w := w) (a := ⟨b, off + j * 6 + i, none⟩) (hR.out.ap.block b hbs hne)).trans (hc j ds[j] i u (List.getElem?_eq_getElem hltj) hu)
      have d0 : wr.cell? ⟨b, off + j * 6, none⟩ = some (.int .i64 ds[j].need.lo) := ck 0 _ rfl
      have d1 := ck 1 _ rfl
      have d2 := ck 2 _ rfl
      have d3 := ck 3 _ rfl
      have d4 := ck 4 _ rfl
      have d5 := ck 5 _ rfl
      clear ck hc
      generalize ds[j] = d at *
      obtain ⟨Wx, hWx⟩ : ∃ Wx, wr.alloc (.cells #[.int .i64 d.need.lo, .int .i64 d.need.hi, .int .i64 d.make.lo, .int .i64 d.make.hi, .int .i64 d.loss.lo, .int .i64 d.loss.hi] 97) = Wx := ⟨_, rfl⟩
      have HW : Hid (DR w Bd a2 n2 cap2 (k + 3 * j) #[.int .i64 stock, .int .i64 store, .slice (some ⟨b, off, none⟩) ds.length cp] (w.heap.size + 1 + 1) vN vM vL Wx vN vM vL N M L ∧ Wx.heap[wr.heap.size]? = some (.cells #[.int .i64 d.need.lo, .int .i64 d.need.hi, .int .i64 d.make.lo, .int .i64 d.make.hi, .int .i64 d.loss.lo, .int .i64 d.loss.hi] 97 (0, 0))) := by
        rw [← hWx]
        exact ⟨hR.out.below ((Below.refl _ _).alloc (Nat.le_refl _) _), heap_alloc_new _ _⟩
      go_upto_region 5 with (fail)
      clear hWx d0 d1 d2 d3 d4 d5
      refine wp_region_split (S := fun W' => (W'.cell? ⟨w.heap.size + 1 + 1, 0, none⟩ = some vN ∧ W'.cell? ⟨w.heap.size + 1 + 1, 1, none⟩ = some vM ∧ W'.cell? ⟨w.heap.size + 1 + 1, 2, none⟩ = some vL) ∧ W'.heap[wr.heap.size]? = some (.cells #[.int .i64 d.need.lo, .int .i64 d.need.hi, .int .i64 d.make.lo, .int .i64 d.make.hi, .int .i64 d.loss.lo, .int .i64 d.loss.hi] 97 (0, 0))) [37, 38, 39, 40, 41] 37 (by kernel_rfl) (by kernel_rfl) rfl ?_
      have hS0 : (Wx.drew.cell? ⟨w.heap.size + 1 + 1, 0, none⟩ = some vN ∧ Wx.drew.cell? ⟨w.heap.size + 1 + 1, 1, none⟩ = some vM ∧ Wx.drew.cell? ⟨w.heap.size + 1 + 1, 2, none⟩ = some vL) ∧ Wx.drew.heap[wr.heap.size]? = some (.cells #[.int .i64 d.need.lo, .int .i64 d.need.hi, .int .i64 d.make.lo, .int .i64 d.make.hi, .int .i64 d.loss.lo, .int .i64 d.loss.hi] 97 (0, 0)) := ⟨⟨blk_cell HW.out.1.tb 0 rfl, blk_cell HW.out.1.tb 1 rfl, blk_cell HW.out.1.tb 2 rfl⟩, HW.out.2⟩
      have HS0 := Lib.hid hS0
      clear hS0
      rw [show firstL _ [37, 38, 39, 40, 41] = #[false, false, false, false, false, false, false, false, false, false, false, false, false, false, false, false, false, false, false, false, false, false, false, false, false, false, false, false, false, false, false, false, false, false, false, false, false, true, true, true, true, true] from by kernel_rfl]
      refine wpAnyH_take (i := 0) (v := .pointer (some ⟨w.heap.size + 1 + 1, 0, none⟩)) rfl (by kernel_rfl) (by kernel_rfl) (by kernel_rfl) (fun _ _ _ h => h) (Or.inl ⟨by rfl, by (intro W hSw; clear hSw; go_simp)⟩) HS0.out ?_
      simp only [Act.put, List.setIfInBounds_toArray, List.set_cons_zero]
      refine wpAnyH_take (i := 1) (v := vN) rfl (by kernel_rfl) (by kernel_rfl) (by kernel_rfl) (fun _ _ _ h => h) (Or.inl ⟨by rfl, by (intro W hSw; have c := hSw.1.1; clear hSw; go_simp)⟩) HS0.out ?_
      simp only [Act.put, List.setIfInBounds_toArray, List.set_cons_zero, List.set_cons_succ]
      refine wpAnyH_take (i := 2) (v := .pointer (some ⟨Bd, 0, none⟩)) rfl (by kernel_rfl) (by kernel_rfl) (by kernel_rfl) (fun _ _ _ h => h) (Or.inl ⟨by rfl, by (intro W hSw; clear hSw; go_simp)⟩) HS0.out ?_
      simp only [Act.put, List.setIfInBounds_toArray, List.set_cons_zero, List.set_cons_succ]
      refine wpAnyH_take (i := 3) (v := .pointer (some ⟨wr.heap.size, 0, none⟩)) rfl (by kernel_rfl) (by kernel_rfl) (by kernel_rfl) (fun _ _ _ h => h) (Or.inl ⟨by rfl, by (intro W hSw; clear hSw; go_simp)⟩) HS0.out ?_
      simp only [Act.put, List.setIfInBounds_toArray, List.set_cons_zero, List.set_cons_succ]
      refine wpAnyH_take (i := 4) (v := .pointer (some ⟨wr.heap.size, 0, none⟩)) rfl (by kernel_rfl) (by kernel_rfl) (by kernel_rfl) (fun _ _ _ h => h) (Or.inl ⟨by rfl, by (intro W hSw; clear hSw; go_simp)⟩) HS0.out ?_
      simp only [Act.put, List.setIfInBounds_toArray, List.set_cons_zero, List.set_cons_succ]
      refine wpAnyH_take (i := 5) (v := .int .i64 d.need.lo) rfl (by kernel_rfl) (by kernel_rfl) (by kernel_rfl) (fun _ _ _ h => h) (Or.inl ⟨by rfl, by (intro W hSw; have c := blk_cell hSw.2 0 rfl; clear hSw; go_simp)⟩) HS0.out ?_
      simp only [Act.put, List.setIfInBounds_toArray, List.set_cons_zero, List.set_cons_succ]
      refine wpAnyH_take (i := 6) (v := .pointer (some ⟨wr.heap.size, 0, none⟩)) rfl (by kernel_rfl) (by kernel_rfl) (by kernel_rfl) (fun _ _ _ h => h) (Or.inl ⟨by rfl, by (intro W hSw; clear hSw; go_simp)⟩) HS0.out ?_
      simp only [Act.put, List.setIfInBounds_toArray, List.set_cons_zero, List.set_cons_succ]
      refine wpAnyH_take (i := 7) (v := .pointer (some ⟨wr.heap.size, 1, none⟩)) rfl (by kernel_rfl) (by kernel_rfl) (by kernel_rfl) (fun _ _ _ h => h) (Or.inl ⟨by rfl, by (intro W hSw; clear hSw; go_simp)⟩) HS0.out ?_
      simp only [Act.put, List.setIfInBounds_toArray, List.set_cons_zero, List.set_cons_succ]
      refine wpAnyH_take (i := 8) (v := .int .i64 d.need.hi) rfl (by kernel_rfl) (by kernel_rfl) (by kernel_rfl) (fun _ _ _ h => h) (Or.inl ⟨by rfl, by (intro W hSw; have c := blk_cell hSw.2 1 rfl; clear hSw; go_simp)⟩) HS0.out ?_
      simp only [Act.put, List.setIfInBounds_toArray, List.set_cons_zero, List.set_cons_succ]
      refine wpAnyH_take (i := 12) (v := .pointer (some ⟨w.heap.size + 1 + 1, 1, none⟩)) rfl (by kernel_rfl) (by kernel_rfl) (by kernel_rfl) (fun _ _ _ h => h) (Or.inl ⟨by rfl, by (intro W hSw; clear hSw; go_simp)⟩) HS0.out ?_
      simp only [Act.put, List.setIfInBounds_toArray, List.set_cons_zero, List.set_cons_succ]
      refine wpAnyH_take (i := 13) (v := vM) rfl (by kernel_rfl) (by kernel_rfl) (by kernel_rfl) (fun _ _ _ h => h) (Or.inl ⟨by rfl, by (intro W hSw; have c := hSw.1.2.1; clear hSw; go_simp)⟩) HS0.out ?_
      simp only [Act.put, List.setIfInBounds_toArray, List.set_cons_zero, List.set_cons_succ]
      refine wpAnyH_take (i := 14) (v := .pointer (some ⟨Bd, 0, none⟩)) rfl (by kernel_rfl) (by kernel_rfl) (by kernel_rfl) (fun _ _ _ h => h) (Or.inl ⟨by rfl, by (intro W hSw; clear hSw; go_simp)⟩) HS0.out ?_
      simp only [Act.put, List.setIfInBounds_toArray, List.set_cons_zero, List.set_cons_succ]
      refine wpAnyH_take (i := 15) (v := .pointer (some ⟨wr.heap.size, 2, none⟩)) rfl (by kernel_rfl) (by kernel_rfl) (by kernel_rfl) (fun _ _ _ h => h) (Or.inl ⟨by rfl, by (intro W hSw; clear hSw; go_simp)⟩) HS0.out ?_
      simp only [Act.put, List.setIfInBounds_toArray, List.set_cons_zero, List.set_cons_succ]
      refine wpAnyH_take (i := 16) (v := .pointer (some ⟨wr.heap.size, 2, none⟩)) rfl (by kernel_rfl) (by kernel_rfl) (by kernel_rfl) (fun _ _ _ h => h) (Or.inl ⟨by rfl, by (intro W hSw; clear hSw; go_simp)⟩) HS0.out ?_
      simp only [Act.put, List.setIfInBounds_toArray, List.set_cons_zero, List.set_cons_succ]
      refine wpAnyH_take (i := 17) (v := .int .i64 d.make.lo) rfl (by kernel_rfl) (by kernel_rfl) (by kernel_rfl) (fun _ _ _ h => h) (Or.inl ⟨by rfl, by (intro W hSw; have c := blk_cell hSw.2 2 rfl; clear hSw; go_simp)⟩) HS0.out ?_
      simp only [Act.put, List.setIfInBounds_toArray, List.set_cons_zero, List.set_cons_succ]
      refine wpAnyH_take (i := 18) (v := .pointer (some ⟨wr.heap.size, 2, none⟩)) rfl (by kernel_rfl) (by kernel_rfl) (by kernel_rfl) (fun _ _ _ h => h) (Or.inl ⟨by rfl, by (intro W hSw; clear hSw; go_simp)⟩) HS0.out ?_
      simp only [Act.put, List.setIfInBounds_toArray, List.set_cons_zero, List.set_cons_succ]
      refine wpAnyH_take (i := 19) (v := .pointer (some ⟨wr.heap.size, 3, none⟩)) rfl (by kernel_rfl) (by kernel_rfl) (by kernel_rfl) (fun _ _ _ h => h) (Or.inl ⟨by rfl, by (intro W hSw; clear hSw; go_simp)⟩) HS0.out ?_
      simp only [Act.put, List.setIfInBounds_toArray, List.set_cons_zero, List.set_cons_succ]
      refine wpAnyH_take (i := 20) (v := .int .i64 d.make.hi) rfl (by kernel_rfl) (by kernel_rfl) (by kernel_rfl) (fun _ _ _ h => h) (Or.inl ⟨by rfl, by (intro W hSw; have c := blk_cell hSw.2 3 rfl; clear hSw; go_simp)⟩) HS0.out ?_
      simp only [Act.put, List.setIfInBounds_toArray, List.set_cons_zero, List.set_cons_succ]
      refine wpAnyH_take (i := 24) (v := .pointer (some ⟨w.heap.size + 1 + 1, 2, none⟩)) rfl (by kernel_rfl) (by kernel_rfl) (by kernel_rfl) (fun _ _ _ h => h) (Or.inl ⟨by rfl, by (intro W hSw; clear hSw; go_simp)⟩) HS0.out ?_
      simp only [Act.put, List.setIfInBounds_toArray, List.set_cons_zero, List.set_cons_succ]
      refine wpAnyH_take (i := 25) (v := vL) rfl (by kernel_rfl) (by kernel_rfl) (by kernel_rfl) (fun _ _ _ h => h) (Or.inl ⟨by rfl, by (intro W hSw; have c := hSw.1.2.2; clear hSw; go_simp)⟩) HS0.out ?_
      simp only [Act.put, List.setIfInBounds_toArray, List.set_cons_zero, List.set_cons_succ]
      refine wpAnyH_take (i := 26) (v := .pointer (some ⟨Bd, 0, none⟩)) rfl (by kernel_rfl) (by kernel_rfl) (by kernel_rfl) (fun _ _ _ h => h) (Or.inl ⟨by rfl, by (intro W hSw; clear hSw; go_simp)⟩) HS0.out ?_
      simp only [Act.put, List.setIfInBounds_toArray, List.set_cons_zero, List.set_cons_succ]
      refine wpAnyH_take (i := 27) (v := .pointer (some ⟨wr.heap.size, 4, none⟩)) rfl (by kernel_rfl) (by kernel_rfl) (by kernel_rfl) (fun _ _ _ h => h) (Or.inl ⟨by rfl, by (intro W hSw; clear hSw; go_simp)⟩) HS0.out ?_
      simp only [Act.put, List.setIfInBounds_toArray, List.set_cons_zero, List.set_cons_succ]
      refine wpAnyH_take (i := 28) (v := .pointer (some ⟨wr.heap.size, 4, none⟩)) rfl (by kernel_rfl) (by kernel_rfl) (by kernel_rfl) (fun _ _ _ h => h) (Or.inl ⟨by rfl, by (intro W hSw; clear hSw; go_simp)⟩) HS0.out ?_
      simp only [Act.put, List.setIfInBounds_toArray, List.set_cons_zero, List.set_cons_succ]
      refine wpAnyH_take (i := 29) (v := .int .i64 d.loss.lo) rfl (by kernel_rfl) (by kernel_rfl) (by kernel_rfl) (fun _ _ _ h => h) (Or.inl ⟨by rfl, by (intro W hSw; have c := blk_cell hSw.2 4 rfl; clear hSw; go_simp)⟩) HS0.out ?_
      simp only [Act.put, List.setIfInBounds_toArray, List.set_cons_zero, List.set_cons_succ]
      refine wpAnyH_take (i := 30) (v := .pointer (some ⟨wr.heap.size, 4, none⟩)) rfl (by kernel_rfl) (by kernel_rfl) (by kernel_rfl) (fun _ _ _ h => h) (Or.inl ⟨by rfl, by (intro W hSw; clear hSw; go_simp)⟩) HS0.out ?_
      simp only [Act.put, List.setIfInBounds_toArray, List.set_cons_zero, List.set_cons_succ]
      refine wpAnyH_take (i := 31) (v := .pointer (some ⟨wr.heap.size, 5, none⟩)) rfl (by kernel_rfl) (by kernel_rfl) (by kernel_rfl) (fun _ _ _ h => h) (Or.inl ⟨by rfl, by (intro W hSw; clear hSw; go_simp)⟩) HS0.out ?_
      simp only [Act.put, List.setIfInBounds_toArray, List.set_cons_zero, List.set_cons_succ]
      refine wpAnyH_take (i := 32) (v := .int .i64 d.loss.hi) rfl (by kernel_rfl) (by kernel_rfl) (by kernel_rfl) (fun _ _ _ h => h) (Or.inl ⟨by rfl, by (intro W hSw; have c := blk_cell hSw.2 5 rfl; clear hSw; go_simp)⟩) HS0.out ?_
      simp only [Act.put, List.setIfInBounds_toArray, List.set_cons_zero, List.set_cons_succ]
      have hTX : w.heap.size + 1 + 1 < wr.heap.size := lt_of_block hR.out.tb
      have hBd := HW.out.1.hB
      have hXB : wr.heap.size ≠ Bd := by omega
      have hNl : N.length = j := hP.out.1.1
      have hMl : M.length = j := hP.out.1.2.1
      have hLl : L.length = j := hP.out.1.2.2
      have hbs' : (0 ≤ d.need.lo ∧ d.need.lo ≤ d.need.hi ∧ d.need.hi ≤ 1000000) ∧ (0 ≤ d.make.lo ∧ d.make.lo ≤ d.make.hi ∧ d.make.hi ≤ 1000000) ∧ (0 ≤ d.loss.lo ∧ d.loss.lo ≤ d.loss.hi ∧ d.loss.hi ≤ 1000000) := by
        have h := HD.out.2
        unfold SmallDay SmallSp at h
        omega
      refine wpAnyH_ready (rs := [9]) (by kernel_rfl) (by simp) ?_
      refine AllReadyH.cons (o := _) rfl (fun K hK => ?_) AllReadyH.nil
      go_simp
      go_at_call 53
      refine (between_any Bd (Bd + 1) a2 n2 cap2 (k + 3 * j) d.need.lo d.need.hi _ (HW.out.1.dk.below ((Below.refl _ _).drew)) (by omega) (by omega)).mono ?_
      rintro e w4 ⟨⟨x, rfl, hx0, hx1⟩, hD, hA⟩
      have hA' : Apart (fun j => j = Bd) Wx w4 := ⟨hA.os, hA.tape, hA.output, hA.size, hA.block⟩
      have H4 : Hid (DR w Bd a2 n2 cap2 (k + 3 * j + 1) #[.int .i64 stock, .int .i64 store, .slice (some ⟨b, off, none⟩) ds.length cp] (w.heap.size + 1 + 1) vN vM vL w4 vN vM vL N M L ∧ w4.heap[wr.heap.size]? = some (.cells #[.int .i64 d.need.lo, .int .i64 d.need.hi, .int .i64 d.make.lo, .int .i64 d.make.hi, .int .i64 d.loss.lo, .int .i64 d.loss.hi] 97 (0, 0))) := ⟨HW.out.1.call hA' hD, (hA'.block _ (lt_of_block HW.out.2) hXB).trans HW.out.2⟩
      clear hD hA hA'
      refine hK.out _ _ ⟨⟨blk_cell H4.out.1.tb 0 rfl, blk_cell H4.out.1.tb 1 rfl, blk_cell H4.out.1.tb 2 rfl⟩, H4.out.2⟩ (fun _ => ?_)
      clear hK
      simp only [List.setIfInBounds_toArray, List.set_cons_zero, List.set_cons_succ]
      refine wpAnyH_ready (rs := [10]) (by kernel_rfl) (by simp) ?_
      refine AllReadyH.cons (o := _) rfl (fun K hK => ?_) AllReadyH.nil
      go_simp
      have H4a : Hid (DR w Bd a2 n2 cap2 (k + 3 * j + 1) #[.int .i64 stock, .int .i64 store, .slice (some ⟨b, off, none⟩) ds.length cp] (w.heap.size + 1 + 1) vN vM vL (w4.alloc (.cells #[.int .i64 x] 3)) vN vM vL N M L ∧ (w4.alloc (.cells #[.int .i64 x] 3)).heap[wr.heap.size]? = some (.cells #[.int .i64 d.need.lo, .int .i64 d.need.hi, .int .i64 d.make.lo, .int .i64 d.make.hi, .int .i64 d.loss.lo, .int .i64 d.loss.hi] 97 (0, 0))) := ⟨H4.out.1.below ((Below.refl _ _).alloc (Nat.le_refl _) _), alk H4.out.2⟩
      refine hK.out _ _ ⟨⟨blk_cell H4a.out.1.tb 0 rfl, blk_cell H4a.out.1.tb 1 rfl, blk_cell H4a.out.1.tb 2 rfl⟩, H4a.out.2⟩ (fun _ => ?_)
      clear hK
      simp only [List.setIfInBounds_toArray, List.set_cons_zero, List.set_cons_succ]
      refine wpAnyH_ready (rs := [11]) (by kernel_rfl) (by simp) ?_
      refine AllReadyH.cons (o := _) rfl (fun K hK => ?_) AllReadyH.nil
      refine step_append_lies _ rfl (.tmp 16) (.tmp 25) 27 rfl (w.heap.size + 1 + 1 + 1) 3 i0 (.int .i64 0) 1 8 Try.underlying27 hi hz0 hz1 hz2 rfl (by decide) vN N.length (N.map (Value.int .i64)) rfl H4a.out.1.r.n ⟨w4.heap.size, 0, none⟩ 1 1 [.int .i64 x] rfl rfl (cells_new w4 [.int .i64 x] 3) (by intro u hu; simp at hu; subst hu; rfl) (by decide) (by unfold maxLen; omega) (by omega) (by have := lt_of_block H4a.out.1.tb; omega) _ rfl ?_
      intro g0 c0 w5 hown hgrow hat _
      have H5 : Hid (DR w Bd a2 n2 cap2 (k + 3 * j + 1) #[.int .i64 stock, .int .i64 store, .slice (some ⟨b, off, none⟩) ds.length cp] (w.heap.size + 1 + 1) vN vM vL w5 (.slice (some ⟨g0, 0, none⟩) (N.length + 1) c0) vM vL (N ++ [x]) M L ∧ w5.heap[wr.heap.size]? = some (.cells #[.int .i64 d.need.lo, .int .i64 d.need.hi, .int .i64 d.make.lo, .int .i64 d.make.hi, .int .i64 d.loss.lo, .int .i64 d.loss.hi] 97 (0, 0))) := ⟨(H4.out.1).push hown hgrow hat, (H4.out.1).keep H4.out.2 hgrow⟩
      clear hown hgrow hat
      refine hK.out _ _ ⟨⟨blk_cell H5.out.1.tb 0 rfl, blk_cell H5.out.1.tb 1 rfl, blk_cell H5.out.1.tb 2 rfl⟩, H5.out.2⟩ (fun _ => ?_)
      clear hK
      simp only [Act.put, List.setIfInBounds_toArray, List.set_cons_zero, List.set_cons_succ]
      refine wpAnyH_take (i := 36) (v := .pointer (some ⟨w.heap.size + 1 + 1, 0, none⟩)) rfl (by kernel_rfl) (by kernel_rfl) (by kernel_rfl) (fun _ _ _ h => h) (Or.inl ⟨by rfl, by (intro W hSw; clear hSw; go_simp)⟩) ⟨⟨blk_cell H5.out.1.tb 0 rfl, blk_cell H5.out.1.tb 1 rfl, blk_cell H5.out.1.tb 2 rfl⟩, H5.out.2⟩ ?_
      simp only [Act.put, List.setIfInBounds_toArray, List.set_cons_zero, List.set_cons_succ]
      refine wpAnyH_ready (rs := [21]) (by kernel_rfl) (by simp) ?_
      refine AllReadyH.cons (o := _) rfl (fun K hK => ?_) AllReadyH.nil
      go_simp
      go_at_call 53
      refine (between_any Bd (Bd + 1) a2 n2 cap2 (k + 3 * j + 1) d.make.lo d.make.hi _ H5.out.1.dk (by omega) (by omega)).mono ?_
      rintro e w6 ⟨⟨y, rfl, hy0, hy1⟩, hD, hA⟩
      have hA' := hA
      have H6 : Hid (DR w Bd a2 n2 cap2 (k + 3 * j + 1 + 1) #[.int .i64 stock, .int .i64 store, .slice (some ⟨b, off, none⟩) ds.length cp] (w.heap.size + 1 + 1) vN vM vL w6 (.slice (some ⟨g0, 0, none⟩) (N.length + 1) c0) vM vL (N ++ [x]) M L ∧ w6.heap[wr.heap.size]? = some (.cells #[.int .i64 d.need.lo, .int .i64 d.need.hi, .int .i64 d.make.lo, .int .i64 d.make.hi, .int .i64 d.loss.lo, .int .i64 d.loss.hi] 97 (0, 0))) := ⟨H5.out.1.call hA' hD, (hA'.block _ (lt_of_block H5.out.2) hXB).trans H5.out.2⟩
      clear hD hA hA'
      refine hK.out _ _ ⟨⟨blk_cell H6.out.1.tb 0 rfl, blk_cell H6.out.1.tb 1 rfl, blk_cell H6.out.1.tb 2 rfl⟩, H6.out.2⟩ (fun _ => ?_)
      clear hK
      simp only [List.setIfInBounds_toArray, List.set_cons_zero, List.set_cons_succ]
      refine wpAnyH_ready (rs := [22]) (by kernel_rfl) (by simp) ?_
      refine AllReadyH.cons (o := _) rfl (fun K hK => ?_) AllReadyH.nil
      go_simp
      have H6a : Hid (DR w Bd a2 n2 cap2 (k + 3 * j + 1 + 1) #[.int .i64 stock, .int .i64 store, .slice (some ⟨b, off, none⟩) ds.length cp] (w.heap.size + 1 + 1) vN vM vL (w6.alloc (.cells #[.int .i64 y] 3)) (.slice (some ⟨g0, 0, none⟩) (N.length + 1) c0) vM vL (N ++ [x]) M L ∧ (w6.alloc (.cells #[.int .i64 y] 3)).heap[wr.heap.size]? = some (.cells #[.int .i64 d.need.lo, .int .i64 d.need.hi, .int .i64 d.make.lo, .int .i64 d.make.hi, .int .i64 d.loss.lo, .int .i64 d.loss.hi] 97 (0, 0))) := ⟨H6.out.1.below ((Below.refl _ _).alloc (Nat.le_refl _) _), alk H6.out.2⟩
      refine hK.out _ _ ⟨⟨blk_cell H6a.out.1.tb 0 rfl, blk_cell H6a.out.1.tb 1 rfl, blk_cell H6a.out.1.tb 2 rfl⟩, H6a.out.2⟩ (fun _ => ?_)
      clear hK
      simp only [List.setIfInBounds_toArray, List.set_cons_zero, List.set_cons_succ]
      refine wpAnyH_ready (rs := [23]) (by kernel_rfl) (by simp) ?_
      refine AllReadyH.cons (o := _) rfl (fun K hK => ?_) AllReadyH.nil
      refine step_append_lies _ rfl (.tmp 28) (.tmp 37) 27 rfl (w.heap.size + 1 + 1 + 1) 3 i0 (.int .i64 0) 1 8 Try.underlying27 hi hz0 hz1 hz2 rfl (by decide) vM M.length (M.map (Value.int .i64)) rfl H6a.out.1.rot.r.n ⟨w6.heap.size, 0, none⟩ 1 1 [.int .i64 y] rfl rfl (cells_new w6 [.int .i64 y] 3) (by intro u hu; simp at hu; subst hu; rfl) (by decide) (by unfold maxLen; omega) (by omega) (by have := lt_of_block H6a.out.1.tb; omega) _ rfl ?_
      intro g1 c1 w7 hown hgrow hat _
      have H7 : Hid (DR w Bd a2 n2 cap2 (k + 3 * j + 1 + 1) #[.int .i64 stock, .int .i64 store, .slice (some ⟨b, off, none⟩) ds.length cp] (w.heap.size + 1 + 1) vN vM vL w7 (.slice (some ⟨g1, 0, none⟩) (M.length + 1) c1) vL (.slice (some ⟨g0, 0, none⟩) (N.length + 1) c0) (M ++ [y]) L (N ++ [x]) ∧ w7.heap[wr.heap.size]? = some (.cells #[.int .i64 d.need.lo, .int .i64 d.need.hi, .int .i64 d.make.lo, .int .i64 d.make.hi, .int .i64 d.loss.lo, .int .i64 d.loss.hi] 97 (0, 0))) := ⟨(H6.out.1.rot).push hown hgrow hat, (H6.out.1.rot).keep H6.out.2 hgrow⟩
      clear hown hgrow hat
      refine hK.out _ _ ⟨⟨blk_cell H7.out.1.tb 0 rfl, blk_cell H7.out.1.tb 1 rfl, blk_cell H7.out.1.tb 2 rfl⟩, H7.out.2⟩ (fun _ => ?_)
      clear hK
      simp only [Act.put, List.setIfInBounds_toArray, List.set_cons_zero, List.set_cons_succ]
      refine wpAnyH_ready (rs := [33]) (by kernel_rfl) (by simp) ?_
      refine AllReadyH.cons (o := _) rfl (fun K hK => ?_) AllReadyH.nil
      go_simp
      go_at_call 53
      refine (between_any Bd (Bd + 1) a2 n2 cap2 (k + 3 * j + 1 + 1) d.loss.lo d.loss.hi _ H7.out.1.dk (by omega) (by omega)).mono ?_
      rintro e w8 ⟨⟨q, rfl, hq0, hq1⟩, hD, hA⟩
      have hA' := hA
      have H8 : Hid (DR w Bd a2 n2 cap2 (k + 3 * j + 1 + 1 + 1) #[.int .i64 stock, .int .i64 store, .slice (some ⟨b, off, none⟩) ds.length cp] (w.heap.size + 1 + 1) vN vM vL w8 (.slice (some ⟨g1, 0, none⟩) (M.length + 1) c1) vL (.slice (some ⟨g0, 0, none⟩) (N.length + 1) c0) (M ++ [y]) L (N ++ [x]) ∧ w8.heap[wr.heap.size]? = some (.cells #[.int .i64 d.need.lo, .int .i64 d.need.hi, .int .i64 d.make.lo, .int .i64 d.make.hi, .int .i64 d.loss.lo, .int .i64 d.loss.hi] 97 (0, 0))) := ⟨H7.out.1.call hA' hD, (hA'.block _ (lt_of_block H7.out.2) hXB).trans H7.out.2⟩
      clear hD hA hA'
      refine hK.out _ _ ⟨⟨blk_cell H8.out.1.tb 0 rfl, blk_cell H8.out.1.tb 1 rfl, blk_cell H8.out.1.tb 2 rfl⟩, H8.out.2⟩ (fun _ => ?_)
      clear hK
      simp only [List.setIfInBounds_toArray, List.set_cons_zero, List.set_cons_succ]
      refine wpAnyH_ready (rs := [34]) (by kernel_rfl) (by simp) ?_
      refine AllReadyH.cons (o := _) rfl (fun K hK => ?_) AllReadyH.nil
      go_simp
      have H8a : Hid (DR w Bd a2 n2 cap2 (k + 3 * j + 1 + 1 + 1) #[.int .i64 stock, .int .i64 store, .slice (some ⟨b, off, none⟩) ds.length cp] (w.heap.size + 1 + 1) vN vM vL (w8.alloc (.cells #[.int .i64 q] 3)) (.slice (some ⟨g1, 0, none⟩) (M.length + 1) c1) vL (.slice (some ⟨g0, 0, none⟩) (N.length + 1) c0) (M ++ [y]) L (N ++ [x]) ∧ (w8.alloc (.cells #[.int .i64 q] 3)).heap[wr.heap.size]? = some (.cells #[.int .i64 d.need.lo, .int .i64 d.need.hi, .int .i64 d.make.lo, .int .i64 d.make.hi, .int .i64 d.loss.lo, .int .i64 d.loss.hi] 97 (0, 0))) := ⟨H8.out.1.below ((Below.refl _ _).alloc (Nat.le_refl _) _), alk H8.out.2⟩
      refine hK.out _ _ ⟨⟨blk_cell H8a.out.1.tb 0 rfl, blk_cell H8a.out.1.tb 1 rfl, blk_cell H8a.out.1.tb 2 rfl⟩, H8a.out.2⟩ (fun _ => ?_)
      clear hK
      simp only [List.setIfInBounds_toArray, List.set_cons_zero, List.set_cons_succ]
      refine wpAnyH_ready (rs := [35]) (by kernel_rfl) (by simp) ?_
      refine AllReadyH.cons (o := _) rfl (fun K hK => ?_) AllReadyH.nil
      refine step_append_lies _ rfl (.tmp 40) (.tmp 49) 27 rfl (w.heap.size + 1 + 1 + 1) 3 i0 (.int .i64 0) 1 8 Try.underlying27 hi hz0 hz1 hz2 rfl (by decide) vL L.length (L.map (Value.int .i64)) rfl H8a.out.1.rot.r.n ⟨w8.heap.size, 0, none⟩ 1 1 [.int .i64 q] rfl rfl (cells_new w8 [.int .i64 q] 3) (by intro u hu; simp at hu; subst hu; rfl) (by decide) (by unfold maxLen; omega) (by omega) (by have := lt_of_block H8a.out.1.tb; omega) _ rfl ?_
      intro g2 c2 w9 hown hgrow hat _
      have H9 : Hid (DR w Bd a2 n2 cap2 (k + 3 * j + 1 + 1 + 1) #[.int .i64 stock, .int .i64 store, .slice (some ⟨b, off, none⟩) ds.length cp] (w.heap.size + 1 + 1) vN vM vL w9 (.slice (some ⟨g2, 0, none⟩) (L.length + 1) c2) (.slice (some ⟨g0, 0, none⟩) (N.length + 1) c0) (.slice (some ⟨g1, 0, none⟩) (M.length + 1) c1) (L ++ [q]) (N ++ [x]) (M ++ [y]) ∧ w9.heap[wr.heap.size]? = some (.cells #[.int .i64 d.need.lo, .int .i64 d.need.hi, .int .i64 d.make.lo, .int .i64 d.make.hi, .int .i64 d.loss.lo, .int .i64 d.loss.hi] 97 (0, 0))) := ⟨(H8.out.1.rot).push hown hgrow hat, (H8.out.1.rot).keep H8.out.2 hgrow⟩
      clear hown hgrow hat
      refine hK.out _ _ ⟨⟨blk_cell H9.out.1.tb 0 rfl, blk_cell H9.out.1.tb 1 rfl, blk_cell H9.out.1.tb 2 rfl⟩, H9.out.2⟩ (fun _ => ?_)
      clear hK
      simp only [Act.put, List.setIfInBounds_toArray, List.set_cons_zero, List.set_cons_succ]
      refine wpAnyH_done (by kernel_rfl) ?_ _
      show wpList _ _ _ (opsAt _ [37, 38, 39, 40, 41]) _ _
      simp only [opsAt, List.filterMap_cons, List.filterMap_nil, List.getElem?_toArray, List.getElem?_cons_succ, List.getElem?_cons_zero]
      have HP2 : Hid (PreSky ds (N ++ [x]) (M ++ [y]) (L ++ [q]) (j + 1)) := hP.out.more HD.out.1 ⟨hx0, hx1⟩ ⟨hy0, hy1⟩ ⟨hq0, hq1⟩
      have H9s := Lib.hid (H9.out.1.rot).store
      have t0 := blk_cell H9.out.1.tb 0 rfl
      have t1 := blk_cell H9.out.1.tb 1 rfl
      have t2 := blk_cell H9.out.1.tb 2 rfl
      have f0 := blk_free (j := 0) H9.out.1.tb
      have f1 := blk_free (j := 1) H9.out.1.tb
      have f2 := blk_free (j := 2) H9.out.1.tb
      clear HS0 H4 H4a H5 H6 H6a H7 H8 H8a HW HD hP hR hx0 hx1 hy0 hy1 hq0 hq1 hbs'
      go_wp2_with (fail)
      go_roundw
      case rel => exact ⟨j + 1, _, _, _, _, _, _, by go_num, by omega, (by have h := H9s.out; rw [show k + 3 * j + 1 + 1 + 1 = k + 3 * (j + 1) by omega, hNl, hMl, hLl] at h; exact h), HP2⟩
      case measure => simp [intOf]; omega
    · have hjl : j = ds.length := by omega
      subst hjl
      have hNl : N.length = ds.length := hP.out.1.1
      have hMl : M.length = ds.length := hP.out.1.2.1
      have hLl : L.length = ds.length := hP.out.1.2.2
      obtain ⟨an, cn, rfl, iN, fN⟩ := ints_of_owns hR.out.r.n
      obtain ⟨am, cm, rfl, iM, fM⟩ := ints_of_owns hR.out.r.m
      obtain ⟨al, cl, rfl, iL, fL⟩ := ints_of_owns hR.out.r.l
      have HI := Lib.hid (And.intro iN (And.intro iM (And.intro iL (And.intro fN (And.intro fM fL)))))
      clear iN iM iL fN fM fL
      have t0 := blk_cell hR.out.tb 0 rfl
      have t1 := blk_cell hR.out.tb 1 rfl
      have t2 := blk_cell hR.out.tb 2 rfl
      have r0 := blk_cell hR.out.rs 0 rfl
      have r1 := blk_cell hR.out.rs 1 rfl
      have r2 := blk_cell hR.out.rs 2 rfl
      have f0 := blk_free (j := 0) hR.out.rs
      have f1 := blk_free (j := 1) hR.out.rs
      have f2 := blk_free (j := 2) hR.out.rs
      have hsk := Lib.hid hP.out.sky
      go_wp2_with (fail)
      have p2 := blk_setCell (j := 2) (u := .slice al ds.length cl) (blk_setCell (j := 1) (u := .slice am ds.length cm) (blk_setCell (j := 0) (u := .slice an ds.length cn) hR.out.rs))
      have q0 := blk_cell p2 0 rfl
      have q1 := blk_cell p2 1 rfl
      have q2 := blk_cell p2 2 rfl
      refine bodyPost_ret (v := tv an ds.length cn am ds.length cm al ds.length cl) (by simp [results, Try.results52, go_sem, q0, q1, q2]) rfl ?_
      have ko : ∀ i, i ≠ w.heap.size + 1 → (((wr.setCell ⟨w.heap.size + 1, 0, none⟩ (.slice an ds.length cn)).setCell ⟨w.heap.size + 1, 1, none⟩ (.slice am ds.length cm)).setCell ⟨w.heap.size + 1, 2, none⟩ (.slice al ds.length cl)).heap[i]? = wr.heap[i]? := fun i hi => (Below.heap_setCell _ _ _ _ hi).trans ((Below.heap_setCell _ _ _ _ hi).trans (Below.heap_setCell _ _ _ _ hi))
      have hsz : (((wr.setCell ⟨w.heap.size + 1, 0, none⟩ (.slice an ds.length cn)).setCell ⟨w.heap.size + 1, 1, none⟩ (.slice am ds.length cm)).setCell ⟨w.heap.size + 1, 2, none⟩ (.slice al ds.length cl)).heap.size = wr.heap.size := by simp only [World.size_setCell]
      have hB := hR.out.hB
      have hap := hR.out.ap
      exact ⟨an, cn, am, cm, al, cl, N, M, L, rfl, ints_other HI.out.1 ko (Nat.le_of_eq hsz.symm) (fun p hp => by have := HI.out.2.2.2.1 p hp; omega), ints_other HI.out.2.1 ko (Nat.le_of_eq hsz.symm) (fun p hp => by have := HI.out.2.2.2.2.1 p hp; omega), ints_other HI.out.2.2.1 ko (Nat.le_of_eq hsz.symm) (fun p hp => by have := HI.out.2.2.2.2.2 p hp; omega), hsk.out, hR.out.dk.keep (Nat.le_of_eq hsz.symm) (fun i hi => ko i (by omega)),
        ⟨hap.os, hap.tape, hap.output, by rw [hsz]; exact hap.size, fun i hi hB' => (ko i (by omega)).trans (hap.block i hi hB')⟩, fun p hp => by have := HI.out.2.2.2.1 p hp; omega, fun p hp => by have := HI.out.2.2.2.2.1 p hp; omega, fun p hp => by have := HI.out.2.2.2.2.2 p hp; omega⟩
end Go.Proofs.Ytpkegiekpnaejaa

namespace Go.Proofs.Ytpkegiekpnaejaa
open Go.RowKit Go.Shelf

/-- Three lists of the call's own, and the box T that held them. -/
structure TR (w0 : World) (T : Nat) (tN tM tL : Value) (W : World) (vN vM vL : Value) (N M L : List Int) : Prop where
  b : Below w0.heap.size w0 W
  tb : W.heap[T]? = some (.cells #[tN, tM, tL] 88 (0, 0))
  hT : w0.heap.size ≤ T
  r : R3 W (T + 1) vN vM vL N M L
/-- A number that was built, in block A, apart from the lists. -/
structure PD (W : World) (A : Nat) (x : Int) (vN vM vL : Value) : Prop where
  c : W.heap[A]? = some (.cells #[.int .i64 x] 3 (0, 0))
  n : ∀ g, vN.ownBlock = some g → g ≠ A
  m : ∀ g, vM.ownBlock = some g → g ≠ A
  l : ∀ g, vL.ownBlock = some g → g ≠ A

section
variable {w0 W W' : World} {T : Nat} {tN tM tL : Value} {vN vM vL : Value} {N M L : List Int}
theorem TR.rot (h : TR w0 T tN tM tL W vN vM vL N M L) : TR w0 T tN tM tL W vM vL vN M L N := ⟨h.b, h.tb, h.hT, h.r.rot⟩
theorem TR.below (h : TR w0 T tN tM tL W vN vM vL N M L) (hb : Below W.heap.size W W') : TR w0 T tN tM tL W' vN vM vL N M L := ⟨below_self h.b hb, blk_below h.tb hb, h.hT, h.r.below hb⟩
theorem TR.push (h : TR w0 T tN tM tL W vN vM vL N M L) {x : Int} {g c : Nat} (ho : W'.ownsRow (T + 1) 3 1 (.slice (some ⟨g, 0, none⟩) (N.length + 1) c) (N.length + 1) (N.map (Value.int .i64) ++ [.int .i64 x])) (hg : W.grownBy W' vN.ownBlock) (hat : vN.ownBlock = some g ∨ g = W.heap.size) :
    TR w0 T tN tM tL W' (.slice (some ⟨g, 0, none⟩) (N.length + 1) c) vM vL (N ++ [x]) M L := by
  have hT := h.hT
  have low : ∀ j, j < W.heap.size → j ≤ T → W'.heap[j]? = W.heap[j]? := fun j hj hT => hg.block j hj (fun e => by have := (h.r.n.lt j e.symm).1; omega)
  exact ⟨⟨hg.os.trans h.b.os, hg.tape.trans h.b.tape, hg.output.trans h.b.output, Nat.le_trans h.b.size hg.size, fun j hj => (low j (Nat.lt_of_lt_of_le hj h.b.size) (by omega)).trans (h.b.block j hj)⟩, (low T (lt_of_block h.tb) (Nat.le_refl _)).trans h.tb, h.hT, h.r.push ho hg hat⟩
theorem TR.keep (h : TR w0 T tN tM tL W vN vM vL N M L) {Xb : Nat} {cs : Array Value} (hx : W.heap[Xb]? = some (.cells cs 97 (0, 0))) (hg : W.grownBy W' vN.ownBlock) : W'.heap[Xb]? = some (.cells cs 97 (0, 0)) := by
  refine (hg.block Xb (lt_of_block hx) (fun e => ?_)).trans hx
  rcases h.r.n.2 with ⟨e', _⟩ | ⟨g, c, cur, e', _, hgb, _⟩
  · rw [e'] at e; cases e
  · rw [e'] at e
    simp only [Value.ownBlock, Option.some.injEq] at e
    subst e
    rw [hx] at hgb
    simp at hgb
theorem TR.store (h : TR w0 T tN tM tL W vN vM vL N M L) : TR w0 T vN vM vL (((W.setCell ⟨T, 0, none⟩ vN).setCell ⟨T, 1, none⟩ vM).setCell ⟨T, 2, none⟩ vL) vN vM vL N M L := by
  have hT := h.hT
  have ko : ∀ j, j ≠ T → (((W.setCell ⟨T, 0, none⟩ vN).setCell ⟨T, 1, none⟩ vM).setCell ⟨T, 2, none⟩ vL).heap[j]? = W.heap[j]? := fun j hj => (Below.heap_setCell _ _ _ _ hj).trans ((Below.heap_setCell _ _ _ _ hj).trans (Below.heap_setCell _ _ _ _ hj))
  exact ⟨((h.b.setCell (p := ⟨T, 0, none⟩) hT _).setCell (p := ⟨T, 1, none⟩) hT _).setCell (p := ⟨T, 2, none⟩) hT _, blk_setCell (j := 2) (blk_setCell (j := 1) (blk_setCell (j := 0) h.tb)), hT, h.r.step (fun g hg _ => ko g (by omega))⟩
theorem PD.rot {A : Nat} {x : Int} (h : PD W A x vN vM vL) : PD W A x vM vL vN := ⟨h.c, h.m, h.l, h.n⟩
theorem PD.below {A : Nat} {x : Int} (h : PD W A x vN vM vL) (hb : Below W.heap.size W W') : PD W' A x vN vM vL := ⟨blk_below h.c hb, h.n, h.m, h.l⟩
theorem PD.new (h : TR w0 T tN tM tL W vN vM vL N M L) (x : Int) : PD (W.alloc (.cells #[.int .i64 x] 3)) W.heap.size x vN vM vL :=
  ⟨heap_alloc_new _ _, fun g hg => Nat.ne_of_lt (h.r.n.lt g hg).2, fun g hg => Nat.ne_of_lt (h.r.m.lt g hg).2, fun g hg => Nat.ne_of_lt (h.r.l.lt g hg).2⟩
theorem PD.push {A : Nat} {x : Int} (h : PD W A x vN vM vL) {g n c : Nat} (hg : W.grownBy W' vN.ownBlock) (hat : vN.ownBlock = some g ∨ g = W.heap.size) : PD W' A x (.slice (some ⟨g, 0, none⟩) n c) vM vL := by
  have hA := lt_of_block h.c
  refine ⟨(hg.block A hA (fun e => h.n A e.symm rfl)).trans h.c, fun i hi => ?_, h.m, h.l⟩
  simp only [Value.ownBlock, Option.some.injEq] at hi
  subst hi
  rcases hat with hat | hat
  · exact h.n _ hat
  · omega
theorem PD.cells {A : Nat} {x : Int} (h : PD W A x vN vM vL) : ∀ j u, [Value.int .i64 x][j]? = some u → W.cell? ((⟨A, 0, none⟩ : Addr).add j) = some u := by
  intro j u hu
  cases j with
  | zero =>
    have e : (⟨A, 0, none⟩ : Addr).add 0 = ⟨A, 0, none⟩ := by unfold Addr.add; split <;> simp_all
    rw [e]
    simp at hu
    subst hu
    exact blk_cell h.c 0 rfl
  | succ j => simp at hu
end
theorem take_more {f : Dy → Int} {ds : List Dy} {j : Nat} {d : Dy} (h : ds[j]? = some d) : (ds.take j).map f ++ [f d] = (ds.take (j + 1)).map f := by
  rw [List.take_add_one, h]; simp
theorem take_len {f : Dy → Int} {ds : List Dy} {j : Nat} (h : j ≤ ds.length) : ((ds.take j).map f).length = j := by simp; omega
/-- The best weather. -/
theorem best_sky {ds : List Dy} (hd : ∀ d ∈ ds, DayOk d) : Sky ds (ds.map fun d => d.need.lo) (ds.map fun d => d.make.hi) (ds.map fun d => d.loss.lo) := by
  refine ⟨⟨by simp, by simp, by simp⟩, fun k d h => ?_⟩
  rw [get_map' h, get_map' h, get_map' h]
  obtain ⟨a, b, c⟩ := hd d (List.mem_of_getElem? h)
  omega
/-- A list of pairs is not in the deck's block. -/
theorem sps_not {W : World} {Bd L : Nat} {a a2 : Option Addr} {n2 cap2 k : Nat} {xs : List Sp} (hx : Sl 2 Sp.cells W a xs) (h0 : 0 < xs.length) (hd : Deck W Bd L a2 n2 cap2 k) : ∀ p, a = some p → p.block ≠ Bd := by
  obtain ⟨nx, st, hB, _⟩ := hd.o
  obtain ⟨b, off, rfl, hb, hc⟩ := hx h0
  intro p hp
  cases hp
  intro e
  have hbB : b = Bd := e
  subst hbB
  have h1 := hc 0 (xs[0]'h0) 0 _ (List.getElem?_eq_getElem h0) rfl
  have h2 := hc 0 (xs[0]'h0) 1 _ (List.getElem?_eq_getElem h0) rfl
  rw [cell_of_row W b _ _ _ _ hB] at h1 h2
  match off, h1, h2 with
  | 0, h1, _ => simp at h1
  | 1, _, h2 => simp at h2
  | 2, h1, _ => simp at h1
  | (k+3), h1, _ => simp at h1
end Go.Proofs.Ytpkegiekpnaejaa
