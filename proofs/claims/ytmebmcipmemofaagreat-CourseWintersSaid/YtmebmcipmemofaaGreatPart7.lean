/-
The closure that grows courses (courses$1$1) over this seat's program, by induction on the laps that are left.
  What is proved: it calls yield with each course that begins as the present one, in lexicographic order, until yield says no more; and it turns no blocks but the iterator's own.
  Conditions: the iterator's own blocks lie as courses$1 lays them.
-/
import Derived.Test.YtmebmcipmemofaaGreatPart6
import Derived.RangeFuncNested
import Derived.RangeFuncBound
import Derived.RangeFuncCalls
import Derived.RangeFuncLeaves
import Derived.Shelf.Abstract
import Derived.Shelf.RegionOpen
import Derived.OwnWalkIn
import Derived.TacticsInMore
import Derived.LoopNIn
import Derived.LoopIn
namespace Go.Proofs.YtmebmcipmemofaaGreat
open Go.RowKit Go.Shelf
attribute [local go_sem] Oper.semAt_some

/-- An iterator's step: whatever is not its own lies as it lay. -/
structure Apart (own : Nat → Prop) (A B : World) : Prop where
  os : B.os = A.os
  tape : B.tape = A.tape
  output : B.output = A.output
  size : A.heap.size ≤ B.heap.size
  block : ∀ k, k < A.heap.size → ¬ own k → B.heap[k]? = A.heap[k]?
/-- A round's word: whatever is the iterator's own lies as it lay. -/
structure Keeps (own : Nat → Prop) (A B : World) : Prop where
  size : A.heap.size ≤ B.heap.size
  block : ∀ k, k < A.heap.size → own k → B.heap[k]? = A.heap[k]?

theorem Apart.refl (own : Nat → Prop) (A : World) : Apart own A A := ⟨rfl, rfl, rfl, Nat.le_refl _, fun _ _ _ => rfl⟩
theorem Apart.trans {own : Nat → Prop} {A B C : World} (h : Apart own A B) (k : Apart own B C) : Apart own A C :=
  ⟨k.os.trans h.os, k.tape.trans h.tape, k.output.trans h.output, Nat.le_trans h.size k.size, fun i hi ho => (k.block i (Nat.lt_of_lt_of_le hi h.size) ho).trans (h.block i hi ho)⟩
theorem Apart.of_below {own : Nat → Prop} {A B : World} (h : Below A.heap.size A B) : Apart own A B := ⟨h.os, h.tape, h.output, h.size, fun k hk _ => h.block k hk⟩
theorem Apart.setCell {own : Nat → Prop} (A : World) {p : Addr} (hp : own p.block) (u : Value) : Apart own A (A.setCell p u) :=
  ⟨rfl, rfl, rfl, by rw [World.size_setCell]; exact Nat.le_refl _, fun k _ ho => Below.heap_setCell _ _ _ _ (fun e => ho (e ▸ hp))⟩
theorem Keeps.refl (own : Nat → Prop) (A : World) : Keeps own A A := ⟨Nat.le_refl _, fun _ _ _ => rfl⟩
theorem Keeps.trans {own : Nat → Prop} {A B C : World} (h : Keeps own A B) (k : Keeps own B C) : Keeps own A C :=
  ⟨Nat.le_trans h.size k.size, fun i hi ho => (k.block i (Nat.lt_of_lt_of_le hi h.size) ho).trans (h.block i hi ho)⟩
theorem Keeps.of_below {own : Nat → Prop} {A B : World} (h : Below A.heap.size A B) : Keeps own A B := ⟨h.size, fun k hk _ => h.block k hk⟩
theorem Keeps.less {own own' : Nat → Prop} {A B : World} (h : Keeps own A B) (ho : ∀ k, own' k → own k) : Keeps own' A B := ⟨h.size, fun k hk hk' => h.block k hk (ho k hk')⟩
theorem Keeps.blk {own : Nat → Prop} {A B : World} {k : Nat} {o : Obj} (h : Keeps own A B) (ho : own k) (hk : A.heap[k]? = some o) : B.heap[k]? = some o := (h.block k (lt_of_block hk) ho).trans hk

/-- The courses that begin as one, by the laps that are left, in lexicographic order. -/
def extC (loops : Nat) : Nat → List Int → Nat → List (List Int)
  | 0, cur, _ => [cur]
  | d + 1, cur, least => ((List.range' least (loops - least)).map (fun (i : Nat) => extC loops d (cur ++ [(i : Int)]) i)).flatten
/-- .. those whose next loop is less than k. -/
def extTo (loops d : Nat) (cur : List Int) (least k : Nat) : List (List Int) := ((List.range' least (k - least)).map (fun (i : Nat) => extC loops d (cur ++ [(i : Int)]) i)).flatten

theorem extTo_self (loops d : Nat) (cur : List Int) (least : Nat) : extTo loops d cur least least = [] := by simp [extTo]
theorem extTo_succ (loops d : Nat) (cur : List Int) (least k : Nat) (h : least ≤ k) : extTo loops d cur least (k + 1) = extTo loops d cur least k ++ extC loops d (cur ++ [(k : Int)]) k := by
  have e : k + 1 - least = (k - least) + 1 := by omega
  unfold extTo
  rw [e, List.range'_concat, List.map_append, List.flatten_append]
  simp only [List.map_cons, List.map_nil, List.flatten_cons, List.flatten_nil, List.append_nil]
  rw [show least + 1 * (k - least) = k by omega]
theorem extTo_pre (loops d : Nat) (cur : List Int) (least k : Nat) (h : least ≤ k) (hk : k < loops) : extTo loops d cur least (k + 1) <+: extC loops (d + 1) cur least := by
  have e : loops - least = (k + 1 - least) + (loops - (k + 1)) := by omega
  show _ <+: ((List.range' least (loops - least)).map (fun (i : Nat) => extC loops d (cur ++ [(i : Int)]) i)).flatten
  rw [e, ← List.range'_append, List.map_append, List.flatten_append]
  exact ⟨_, rfl⟩

/-- How the iterator's own blocks lie. -/
structure GInv (B0 Bo Bl loops laps l : Nat) (cur : List Int) (W : World) : Prop where
  bo : W.heap[Bo]? = some (.cells #[.int .i64 loops] 3 (0, 0))
  bl : W.heap[Bl]? = some (.cells #[.int .i64 laps] 3 (0, 0))
  yd : W.heap[B0]? = some (.cells #[.func (.yield l) #[] #[]] 144 (0, 0))
  row : ∃ cs : Array Value, W.heap[B0 + 1]? = some (.cells cs 3 (0, 0)) ∧ cs.size = laps ∧ cs.toList.take cur.length = cur.map (Value.int .i64)
  bc : W.heap[B0 + 2]? = some (.cells #[.slice (some ⟨B0 + 1, 0, none⟩) cur.length laps] 137 (0, 0))
  bg : W.heap[B0 + 3]? = some (.cells #[.func (.func 154) #[] #[.pointer (some ⟨B0 + 2, 0, none⟩), .pointer (some ⟨Bl, 0, none⟩), .pointer (some ⟨B0, 0, none⟩), .pointer (some ⟨Bo, 0, none⟩), .pointer (some ⟨B0 + 3, 0, none⟩)]] 136 (0, 0))

theorem GInv.keeps {B0 Bo Bl loops laps l : Nat} {cur : List Int} {W W' : World} {own : Nat → Prop} (h : GInv B0 Bo Bl loops laps l cur W) (ho : own Bo ∧ own Bl ∧ ∀ k, B0 ≤ k → k < B0 + 4 → own k) (hk : Keeps own W W') : GInv B0 Bo Bl loops laps l cur W' := by
  obtain ⟨cs, h1, h2, h3⟩ := h.row
  exact ⟨hk.blk ho.1 h.bo, hk.blk ho.2.1 h.bl, hk.blk (ho.2.2 _ (by omega) (by omega)) h.yd, ⟨cs, hk.blk (ho.2.2 _ (by omega) (by omega)) h1, h2, h3⟩, hk.blk (ho.2.2 _ (by omega) (by omega)) h.bc, hk.blk (ho.2.2 _ (by omega) (by omega)) h.bg⟩

theorem len_snoc (cur : List Int) (k : Int) : (cur ++ [k]).length = cur.length + 1 := by simp

theorem GInv.push {B0 Bo Bl loops laps l : Nat} {cur : List Int} {W : World} (h : GInv B0 Bo Bl loops laps l cur W) (hBo : Bo < B0) (hBl : Bl < B0) (k : Int) (o : Obj) (hlt : cur.length < laps) :
    GInv B0 Bo Bl loops laps l (cur ++ [k]) (((W.alloc o).setCell ⟨B0 + 1, cur.length, none⟩ (.int .i64 k)).setCell ⟨B0 + 2, 0, none⟩ (.slice (some ⟨B0 + 1, 0, none⟩) (cur.length + 1) laps)) := by
  obtain ⟨cs, h1, h2, h3⟩ := h.row
  have al : ∀ {b : Nat} {o' : Obj}, W.heap[b]? = some o' → (W.alloc o).heap[b]? = some o' := fun hb => (Below.heap_alloc _ _ _ (lt_of_block hb)).trans hb
  refine ⟨blk_other (blk_other (al h.bo) (by omega)) (by omega), blk_other (blk_other (al h.bl) (by omega)) (by omega), blk_other (blk_other (al h.yd) (by omega)) (by omega), ⟨_, blk_other (blk_setCell (al h1)) (by omega), by simp [h2], ?_⟩, ?_, blk_other (blk_other (al h.bg) (by omega)) (by omega)⟩
  · rw [len_snoc, List.map_append]
    have e : (cs.setIfInBounds cur.length (.int .i64 k)).toList = cs.toList.set cur.length (.int .i64 k) := by simp
    rw [e, List.take_add_one]
    have e2 : (cs.toList.set cur.length (.int .i64 k))[cur.length]? = some (.int .i64 k) := by rw [List.getElem?_set_self (by simp; omega)]
    rw [e2, List.take_set, h3, List.set_eq_of_length_le (by simp)]
    simp
  · rw [len_snoc]
    exact blk_setCell (blk_other (al h.bc) (by omega))

theorem GInv.pop {B0 Bo Bl loops laps l : Nat} {cur : List Int} {W : World} {k : Int} (h : GInv B0 Bo Bl loops laps l (cur ++ [k]) W) (hBo : Bo < B0) (hBl : Bl < B0) :
    GInv B0 Bo Bl loops laps l cur (W.setCell ⟨B0 + 2, 0, none⟩ (.slice (some ⟨B0 + 1, 0, none⟩) cur.length laps)) := by
  obtain ⟨cs, h1, h2, h3⟩ := h.row
  refine ⟨blk_other h.bo (by omega), blk_other h.bl (by omega), blk_other h.yd (by omega), ⟨cs, blk_other h1 (by omega), h2, ?_⟩, blk_setCell h.bc, blk_other h.bg (by omega)⟩
  have e : cs.toList.take cur.length = (cs.toList.take (cur ++ [k]).length).take cur.length := by rw [List.take_take, len_snoc]; congr 1; omega
  rw [e, h3, List.map_append]
  simp

theorem GInv.ints {B0 Bo Bl loops laps l : Nat} {cur : List Int} {W : World} (h : GInv B0 Bo Bl loops laps l cur W) : IntSl W (some ⟨B0 + 1, 0, none⟩) cur := fun h0 => by
  obtain ⟨cs, h1, h2, h3⟩ := h.row
  refine ⟨B0 + 1, 0, rfl, lt_of_block h1, fun j hj => ?_⟩
  rw [cell_of_row W _ _ _ _ _ h1]
  have e : (cs.toList.take cur.length)[j]? = some (Value.int .i64 cur[j]) := by rw [h3]; simp [hj]
  rw [List.getElem?_take, if_pos hj] at e
  simpa [hj] using e

/-- Two ways out under one name. -/
def Ways (A B : World → Prop) (e : Ending) (w : World) : Prop := ∃ b : Bool, e = .returned (.bool b) ∧ ((b = true ∧ A w) ∨ (b = false ∧ B w))
theorem one_way {A B : World → Prop} (e : Ending) (w : World) (h : (e = .returned (.bool true) ∧ A w) ∨ (e = .returned (.bool false) ∧ B w)) : Ways A B e w :=
  h.elim (fun h => ⟨true, h.1, .inl ⟨rfl, h.2⟩⟩) (fun h => ⟨false, h.1, .inr ⟨rfl, h.2⟩⟩)

theorem grow_way {B0 Bo Bl loops laps l : Nat} {cur : List Int} {k : Int} {A : World → Prop} {X : World → Prop} (e : Ending) (w : World)
    (h : (e = .returned (.bool true) ∧ A w ∧ GInv B0 Bo Bl loops laps l (cur ++ [k]) w) ∨ (e = .returned (.bool false) ∧ X w)) :
    (e = .returned (.bool true) ∧ Hid (A w ∧ GInv B0 Bo Bl loops laps l (cur ++ [k]) w) ∧ w.cell? ⟨B0 + 2, 0, none⟩ = some (.slice (some ⟨B0 + 1, 0, none⟩) (cur.length + 1) laps) ∧ w.frozen? ⟨B0 + 2, 0, none⟩ = false) ∨ (e = .returned (.bool false) ∧ Hid (X w)) := by
  rcases h with ⟨he, ha, hg⟩ | ⟨he, hx⟩
  · refine .inl ⟨he, ⟨ha, hg⟩, ?_, blk_free hg.bc⟩
    rw [← len_snoc cur k]; exact blk_cell hg.bc 0 rfl
  · exact .inr ⟨he, hx⟩

set_option maxHeartbeats 2000000 in
set_option maxRecDepth 100000 in
theorem grow_in (l B0 Bo Bl loops laps : Nat) (own turn : Nat → Prop) (ho : own Bo ∧ own Bl ∧ ∀ k, B0 ≤ k → k < B0 + 4 → own k) (ht : ∀ k, B0 ≤ k → k < B0 + 4 → turn k) (hBo : Bo < B0) (hBl : Bl < B0) (hlo : loops ≤ 1000) (hla : 1 ≤ laps ∧ laps ≤ 1000)
    (J Jx : List (List Int) → World → Prop) (hJ : ∀ s A B, J s A → Apart turn A B → J s B) (hJx : ∀ s A B, Jx s A → Apart turn A B → Jx s B) (S : List (List Int))
    (hY : ∀ m pre c a cap W1, J pre W1 → pre ++ [c] <+: S → IntSl W1 a c → Ty3 W1 a → (∀ p, a = some p → B0 + 4 ≤ p.block) → YieldAt Fence.wide m Tryz.prog l #[.slice a c.length cap] W1 fun e W' =>
      (e = .returned (.bool true) ∧ J (pre ++ [c]) W' ∧ Keeps own W1 W') ∨ (e = .returned (.bool false) ∧ Jx (pre ++ [c]) W' ∧ Keeps own W1 W')) :
    ∀ (d n : Nat) (cur : List Int) (least : Nat) (pre : List (List Int)) (W : World), cur.length + d = laps → least ≤ loops → GInv B0 Bo Bl loops laps l cur W → J pre W → pre ++ extC loops d cur least <+: S →
      CallsIn Fence.wide n Tryz.prog 154 #[.int .i64 least, .pointer (some ⟨B0 + 2, 0, none⟩), .pointer (some ⟨Bl, 0, none⟩), .pointer (some ⟨B0, 0, none⟩), .pointer (some ⟨Bo, 0, none⟩), .pointer (some ⟨B0 + 3, 0, none⟩)] W fun e W' =>
        (e = .returned (.bool true) ∧ J (pre ++ extC loops d cur least) W' ∧ GInv B0 Bo Bl loops laps l cur W') ∨ (e = .returned (.bool false) ∧ ∃ q, q <+: extC loops d cur least ∧ Jx (pre ++ q) W') := by
  have HY := Lib.hid hY
  have HJ := Lib.hid hJ
  have HJx := Lib.hid hJx
  clear hY hJ hJx
  intro d
  induction d with
  | zero =>
    intro n cur least pre W hlen hle hG hj hS
    have hcur : 0 < cur.length := by omega
    have c0 := blk_cell hG.bc 0 rfl
    have c1 := blk_cell hG.bl 0 rfl
    have c2 := blk_cell hG.yd 0 rfl
    have hb : ((cur.length : Int) == (laps : Int)) = true := by simp; omega
    refine callsIn_of_wp Tryz.func154 rfl trivial ?_ rfl
    simp only [Tryz.ntmps154, List.size_toArray, List.length_cons, List.length_nil, Nat.reduceAdd, Nat.reduceSub, Array.replicate_succ, Array.replicate_zero, List.push_toArray, List.append_toArray, List.nil_append, List.cons_append]
    have hB4 : B0 + 4 ≤ W.heap.size := lt_of_block hG.bg
    have hfol : Tryz.prog.follows .mixedOrders = true := by kernel_rfl
    gi_wp2
    gi_region_with_o (first
      | (refine ⟨trivial, (fun h => by cases h), ?_⟩; refine (callsIn_wide.2 (cloneRoute_any _ cur laps _ ?_ hcur ?_)).mono ?_; exact hG.ints; omega; rintro e w1 ⟨a1, cap1, rfl, hI1, hT1, hf1, hb1⟩; have d2 := blk_cell (blk_below hG.yd (show Below W.heap.size W w1 from ⟨hb1.os, hb1.tape, hb1.output, hb1.size, hb1.block⟩)) 0 rfl; obtain ⟨fn, tmps, assign, body, hy, hR⟩ := HY.out (n - 1) pre cur a1 cap1 w1 (HJ.out _ _ _ hj (Apart.of_below ⟨hb1.os, hb1.tape, hb1.output, hb1.size, hb1.block⟩)) hS hI1 hT1 (fun p hp => Nat.le_trans hB4 (hf1 p hp)); replace hR := hR.mono (one_way (A := fun W' => J (pre ++ [cur]) W' ∧ Keeps own w1 W') (B := fun W' => Jx (pre ++ [cur]) W' ∧ Keeps own w1 W')))
      | (refine ⟨(fun h => by cases h), ?_⟩; refine hR.mono ?_; clear hR hy; rintro e w2 ⟨bb, rfl, hout⟩))
    all_goals
      gi_wp2
      go_ret
      have hb1' : Below W.heap.size W w1 := ⟨hb1.os, hb1.tape, hb1.output, hb1.size, hb1.block⟩
      rcases hout with ⟨rfl, hj2, hk2⟩ | ⟨rfl, hx2, _⟩
      · exact .inl ⟨rfl, hj2, hG.keeps ho ((Keeps.of_below hb1').trans hk2)⟩
      · exact .inr ⟨rfl, [cur], List.prefix_rfl, hx2⟩
  | succ d ih =>
    intro n cur least pre W hlen hle hG hj hS
    have c0 := blk_cell hG.bc 0 rfl
    have c1 := blk_cell hG.bl 0 rfl
    have c2 := blk_cell hG.bo 0 rfl
    have hb : ((cur.length : Int) == (laps : Int)) = false := by simp; omega
    obtain ⟨i0, hi, hz0, hz1, hz2⟩ := info_parts Tryz.info3
    have HI := Lib.hid ih
    clear ih
    refine callsIn_of_wp Tryz.func154 rfl trivial ?_ rfl
    simp only [Tryz.ntmps154, List.size_toArray, List.length_cons, List.length_nil, Nat.reduceAdd, Nat.reduceSub, Array.replicate_succ, Array.replicate_zero, List.push_toArray, List.append_toArray, List.nil_append, List.cons_append]
    gi_wp2
    gi_loopw [8] (fun i wr => ∃ k : Nat, least ≤ k ∧ k ≤ loops ∧ i = .int .i64 k ∧ J (pre ++ extTo loops d cur least k) wr ∧ GInv B0 Bo Bl loops laps l cur wr) (fun i _ => loops - (intOf i).toNat)
    case atStart => exact ⟨least, Nat.le_refl _, hle, rfl, by rw [extTo_self]; simpa using hj, hG⟩
    case round =>
      obtain ⟨k, hk1, hk2, rfl, hjr, hGr⟩ := hrel
      have e0 := blk_cell hGr.bc 0 rfl
      have e2 := blk_cell hGr.bo 0 rfl
      by_cases hlt : k < loops
      · obtain ⟨cs, r1, r2, r3⟩ := hGr.row
        have hlc : cur.length < laps := by omega
        have hz : B0 + 4 ≤ wr.heap.size := lt_of_block hGr.bg
        have r1' : (wr.alloc (.cells #[.int .i64 (k : Int)] 3)).heap[B0 + 1]? = some (.cells cs 3 (0, 0)) := (Below.heap_alloc _ _ _ (by omega)).trans r1
        obtain ⟨v, rc⟩ : ∃ v, (wr.alloc (.cells #[.int .i64 (k : Int)] 3)).cell? ⟨B0 + 1, cur.length, none⟩ = some v := ⟨_, blk_cell r1' cur.length (Array.getElem?_eq_getElem (by omega))⟩
        have rf := blk_free (j := cur.length) r1'
        have hbc' : (wr.alloc (.cells #[.int .i64 (k : Int)] 3)).heap[B0 + 2]? = _ := (Below.heap_alloc _ _ _ (by omega)).trans hGr.bc
        have hbg' : (wr.alloc (.cells #[.int .i64 (k : Int)] 3)).heap[B0 + 3]? = _ := (Below.heap_alloc _ _ _ (by omega)).trans hGr.bg
        have g0 := blk_free (j := 0) hbc'
        have g2 := blk_cell hbc' 0 rfl
        have g1 := blk_cell hbg' 0 rfl
        clear hbc' hbg'
        have hG2 := Lib.hid (hGr.push hBo hBl (k : Int) (.cells #[.int .i64 (k : Int)] 3) hlc)
        have hA2 : Apart turn wr (((wr.alloc (.cells #[.int .i64 (k : Int)] 3)).setCell ⟨B0 + 1, cur.length, none⟩ (.int .i64 (k : Int))).setCell ⟨B0 + 2, 0, none⟩ (.slice (some ⟨B0 + 1, 0, none⟩) (cur.length + 1) laps)) :=
          ((Apart.of_below ((Below.refl _ _).alloc (Nat.le_refl _) _)).trans (Apart.setCell _ (p := ⟨B0 + 1, cur.length, none⟩) (ht (B0 + 1) (by omega) (by omega)) _)).trans (Apart.setCell _ (p := ⟨B0 + 2, 0, none⟩) (ht (B0 + 2) (by omega) (by omega)) _)
        have hj2 := Lib.hid (HJ.out _ _ _ hjr hA2)
        have hS2 : Hid ((pre ++ extTo loops d cur least k) ++ extC loops d (cur ++ [(k : Int)]) k <+: S) := by
          have := extTo_pre loops d cur least k hk1 hlt
          rw [extTo_succ loops d cur least k hk1] at this
          rw [List.append_assoc]
          exact ((List.prefix_append_right_inj pre).2 this).trans hS
        clear r1 r1' r2 r3 hA2
        gi_wp2_with (refine ⟨trivial, (fun h => by cases h), ?_⟩; refine ((HI.out _ (cur ++ [(k : Int)]) k _ _ ?_ hk2 hG2.out hj2.out hS2.out).mono grow_way).mono ?_; (rw [len_snoc]; omega); rintro e w4 (⟨rfl, hgood, m0, m1⟩ | ⟨rfl, hbad⟩))
        · refine ⟨⟨k + 1, by omega, by omega, by go_num, ?_, hgood.out.2.pop hBo hBl⟩, by simp [intOf]; omega⟩
          rw [extTo_succ loops d cur least k hk1, ← List.append_assoc]
          exact HJ.out _ _ _ hgood.out.1 (Apart.setCell _ (p := ⟨B0 + 2, 0, none⟩) (ht (B0 + 2) (by omega) (by omega)) _)
        · go_ret
          obtain ⟨q, hq, hx⟩ := hbad.out
          refine .inr ⟨rfl, extTo loops d cur least k ++ q, ?_, by rw [← List.append_assoc]; exact hx⟩
          have h1 := extTo_pre loops d cur least k hk1 hlt
          rw [extTo_succ loops d cur least k hk1] at h1
          exact ((List.prefix_append_right_inj _).2 hq).trans h1
      · have : k = loops := by omega
        subst this
        gi_wp2
        go_ret
        exact .inl ⟨rfl, hjr, hGr⟩
end Go.Proofs.YtmebmcipmemofaaGreat
