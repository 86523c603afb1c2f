/-
The contract of the reference's courses over this seat's program.
  What is proved: it hands back the courses in lexicographic order; nothing that was there before has turned.
  Conditions: from 1 to 12 loops, from 1 to 6 laps.
The contracts of the reference's broken and Broken over this seat's program.
  What is proved: each answers what the program's own functions answer.
  Conditions: slices of at most 1000000 elements; for broken a stadium whose numbers are allowed, and a course of its loops.
The contracts of the reference's right and All over this seat's program.
  What is proved: they hand back the right courses in lexicographic order, or the error; nothing that was there before has turned.
  Conditions: slices of at most 1000000 elements; for right a stadium and rules that are allowed.
-/
import Derived.Test.YtgldfnkjfgcjpaaGreatPart12
import Derived.Laws.OwnMore
namespace Go.Proofs.YtgldfnkjfgcjpaaGreat
open Go.RowKit Go.Shelf
attribute [local go_sem] Oper.semAt_some

/-- A call that hands back a slice of courses; nothing that was there before it has turned. -/
def OutSls (w : World) (cs : List (List Int)) (e : Ending) (w' : World) : Prop := ∃ a cap, e = .returned (.slice a cs.length cap) ∧ SlsAt w' a cs ∧ Below w.heap.size w w'

theorem mk27 (n : Nat) (h : n ≤ 1000) (w : World) : (Instr.makeSlice 27 (.int .i64 (n : Int)) (.int .i64 (n : Int))).run Tryz.prog w = .ok (.slice (some ⟨w.heap.size, 0, none⟩) n n) (w.alloc (.cells (Mc n) 3)) := by
  obtain ⟨i0, hi, hz0, hz1, hz2⟩ := info_parts Tryz.info3
  have hr := run_make (P := Tryz.prog) w 27 3 i0 (.int .i64 0) Tryz.underlying27 hi hz0 .i64 .i64 n n (by omega) (Int.le_refl _) (by rw [hz2]; omega) (by omega)
  simp only [Int.toNat_natCast, hz1, Nat.mul_one] at hr
  exact hr

/-- The digits that are set. -/
def setC (L d n j : Nat) : List Int := List.replicate j 0 ++ (digs L d n).drop j
theorem setC_start (L d n : Nat) : setC L d n d = List.replicate d 0 := by simp [setC, digs_len]
theorem setC_end (L d n : Nat) : setC L d n 0 = digs L d n := by simp [setC]
theorem setC_len (L d n j : Nat) (h : j ≤ d) : (setC L d n j).length = d := by simp [setC, digs_len]; omega
theorem setC_step (L d n p : Nat) (h : p < d) : (setC L d n (p + 1)).set p ((n / L ^ (d - (p + 1)) % L : Nat) : Int) = setC L d n p := by
  have e : (digs L d n).drop p = ((n / L ^ (d - (p + 1)) % L : Nat) : Int) :: (digs L d n).drop (p + 1) := by
    have hp : p < (digs L d n).length := by rw [digs_len]; exact h
    rw [List.drop_eq_getElem_cons hp]
    congr 1
    have := digs_get L d n p h
    rw [List.getElem?_eq_getElem hp] at this
    rw [show d - (p + 1) = d - 1 - p by omega]
    exact Option.some.inj this
  rw [setC, setC, e, List.replicate_succ', List.append_assoc, List.singleton_append, List.set_append_right _ _ (by simp)]
  simp

/-- A block of numbers. -/
def Blk3 (W : World) (B : Nat) (c : List Int) : Prop := ∃ cs : Array Value, W.heap[B]? = some (.cells cs 3 (0, 0)) ∧ cs.toList = c.map (Value.int .i64)
theorem Blk3.ints {W : World} {B : Nat} {c : List Int} (h : Blk3 W B c) : IntSl W (some ⟨B, 0, none⟩) c := fun _ => by
  obtain ⟨cs, h1, h2⟩ := h
  refine ⟨B, 0, rfl, lt_of_block h1, fun j hj => ?_⟩
  rw [Nat.zero_add]
  refine blk_cell h1 j ?_
  rw [← Array.getElem?_toList, h2, List.getElem?_map, List.getElem?_eq_getElem hj]
  rfl
theorem Blk3.ty {W : World} {B : Nat} {c : List Int} (h : Blk3 W B c) : Ty3 W (some ⟨B, 0, none⟩) := fun q hq => by
  cases hq; obtain ⟨cs, h1, _⟩ := h; exact ⟨cs, h1⟩
theorem Blk3.set {W : World} {B : Nat} {c : List Int} (h : Blk3 W B c) (p : Nat) (x : Int) : Blk3 (W.setCell ⟨B, p, none⟩ (.int .i64 x)) B (c.set p x) := by
  obtain ⟨cs, h1, h2⟩ := h
  exact ⟨_, blk_setCell h1, by rw [Array.toList_setIfInBounds, h2, List.map_set]⟩
theorem Blk3.free {W : World} {B : Nat} {c : List Int} (h : Blk3 W B c) (p : Nat) : W.frozen? ⟨B, p, none⟩ = false := by
  obtain ⟨cs, h1, _⟩ := h; exact blk_free h1
theorem Blk3.cell {W : World} {B : Nat} {c : List Int} (h : Blk3 W B c) (p : Nat) (hp : p < c.length) : ∃ v, W.cell? ⟨B, p, none⟩ = some v := by
  obtain ⟨cs, h1, h2⟩ := h
  refine ⟨.int .i64 c[p], blk_cell h1 p ?_⟩
  rw [← Array.getElem?_toList, h2, List.getElem?_map, List.getElem?_eq_getElem hp]
  rfl

set_option maxHeartbeats 2000000 in
set_option maxRecDepth 100000 in
theorem refCourses_any (a : Option Addr) (xs : List Lp) (cap d : Nat) (w : World) (hL : 1 ≤ xs.length ∧ xs.length ≤ 12) (hd : 1 ≤ d ∧ d ≤ 6) :
    Calls Tryz.prog 132 #[.slice a xs.length cap, .int .i64 d] w (OutSls w (extC xs.length d [] 0)) := by
  obtain ⟨i0, hi, hz0, hz1, hz2⟩ := info_parts Tryz.info27
  have hmk := mk27 d (by omega)
  have HA := Lib.hid (numC_all xs.length d (by omega) hd)
  have HP : Hid (∀ k, k ≤ d → 1 ≤ xs.length ^ k ∧ xs.length ^ k ≤ 2985984) := fun k hk => ⟨Nat.pow_pos (by omega), pow_le _ _ hL (by omega)⟩
  generalize hLn : xs.length = L at *
  go_enter Tryz.func132, Tryz.ntmps132
  go_wp2_with (fail)
  go_loop [5, 6] (fun v i => ∃ k x : Nat, k ≤ d ∧ i = .int .i64 k ∧ v = .int .i64 x ∧ Hid (x = L ^ k)) (fun _ i => d - (intOf i).toNat)
  case atStart => exact ⟨0, 1, Nat.zero_le _, rfl, rfl, rfl⟩
  case round =>
    obtain ⟨k, x, hk, rfl, rfl, hx⟩ := hrel
    by_cases hlt : k < d
    · have hb := HP.out k (by omega)
      have hb2 := HP.out (k + 1) (by omega)
      rw [Nat.pow_succ, ← hx.out] at hb2
      rw [← hx.out] at hb
      have hm : ((x : Int) * (L : Int)) = ((x * L : Nat) : Int) := by simp
      have hw : IntKind.i64.wrap ((x : Int) * (L : Int)) = ((x * L : Nat) : Int) := by rw [hm]; exact IntWalk.i64_in _ (by omega)
      have HX : Hid (x * L = L ^ (k + 1)) := by show _ = _; rw [Nat.pow_succ, hx.out]
      generalize x * L = y at hw HX
      clear hm hb hb2
      go_wp2_with (fail)
      go_round
      case rel => exact ⟨k + 1, y, by omega, by go_num, rfl, HX⟩
      case measure => simp [intOf]; omega
    · have hkd : k = d := by omega
      subst hkd
      have hb := HP.out k (Nat.le_refl _)
      rw [← hx.out] at hb HA
      clear hlt hk HP
      obtain ⟨hx1, hx2⟩ := hb
      go_wp2_with (fail)
      go_loopw [7, 8] (fun v7 nn wr => ∃ (n : Nat) (la : Option Addr) (lcap : Nat) (vals : List Value), v7 = .slice la vals.length lcap ∧ nn = .int .i64 n ∧ n ≤ x ∧ vals.length ≤ n ∧ Hid (wr.ownsRow w.heap.size 27 1 (.slice la vals.length lcap) vals.length vals ∧ Rows2 wr w.heap.size vals (numC L k n) ∧ Below w.heap.size w wr)) (fun _ nn _ => x - (intOf nn).toNat)
      case atStart => exact ⟨0, none, 0, [], rfl, rfl, Nat.zero_le _, Nat.le_refl _, World.ownsRow_nil _ _ _ _, Rows2.nil _ _, Below.refl _ _⟩
      case round =>
        obtain ⟨n, la, lcap, vals, rfl, rfl, hn, hvn, hI⟩ := hrel
        obtain ⟨V, hV⟩ : ∃ V, V = wr := ⟨_, rfl⟩
        subst hV
        by_cases hlt : n < x
        · go_wp2_with (fail)
          obtain ⟨Wa, hWa⟩ : ∃ Wa, V.alloc (.cells (Mc k) 3) = Wa := ⟨_, rfl⟩
          have HWa : Hid (Below V.heap.size V Wa ∧ Blk3 Wa V.heap.size (setC L k n k)) := by
            refine ⟨by rw [← hWa]; exact (Below.refl _ _).alloc (Nat.le_refl _) _, Mc k, by rw [← hWa]; exact heap_alloc_new _ _, ?_⟩
            rw [setC_start, Mc, toList_madeCells_one, List.map_replicate]
          rw [hWa]
          clear hWa
          go_loopw [10, 11] (fun rv iv W2 => ∃ (j q : Nat) (i : Int), rv = .int .i64 q ∧ iv = .int .i64 i ∧ i + 1 = j ∧ j ≤ k ∧ q ≤ n ∧ Hid (q = n / L ^ (k - j)) ∧ Hid (Below V.heap.size V W2 ∧ Blk3 W2 V.heap.size (setC L k n j))) (fun _ iv _ => (intOf iv + 1).toNat)
          case atStart => exact ⟨k, n, _, rfl, rfl, by omega, Nat.le_refl _, Nat.le_refl _, by show n = _; simp, HWa⟩
          case round =>
            obtain ⟨j, q, i, rfl, rfl, hij, hj, hq, hqn, hI2⟩ := hrel
            obtain ⟨W2, hV⟩ : ∃ W2, W2 = wr := ⟨_, rfl⟩
            subst hV
            by_cases hj0 : j = 0
            · subst hj0
              have hi1 : i = -1 := by omega
              subst hi1
              clear hij hqn hj HWa
              rw [setC_end] at hI2
              have HLI := listed_any a xs cap (some ⟨V.heap.size, 0, none⟩) (digs L k n) k W2 hI2.out.2.ints (by omega) (by rw [digs_len]; omega)
              rw [hLn, digs_len] at HLI
              have HB2 := Lib.hid (below_self hI.out.2.2 hI2.out.1)
              have HNS := Lib.hid (numC_succ L k n)
              cases hce : (courseE (L : Int) (digs L k n) == 0)
              · have HNS2 : Hid (numC L k (n + 1) = numC L k n) := by show _ = _; rw [HNS.out, hce]; simp
                clear HNS
                go_wp2_with (fail)
                refine HLI.mono ?_
                rintro e W3 ⟨rfl, hb3⟩
                have HB3 := Lib.hid (And.intro (below_self HB2.out hb3) (below_self hI2.out.1 hb3))
                clear hb3 HLI
                go_wp2_with (fail)
                clear hce
                go_roundw
                case rel =>
                  refine ⟨n + 1, la, lcap, vals, rfl, by go_num, by omega, by omega, ?_⟩
                  show _ ∧ _ ∧ _
                  rw [HNS2.out]
                  exact ⟨owns_same hI.out.1 (fun j _ h2 => HB3.out.2.block j h2), hI.out.2.1.same HB3.out.2.size (fun j _ h2 _ => HB3.out.2.block j h2), HB3.out.1⟩
                case measure => simp [intOf]; omega
              · have HNS2 : Hid (numC L k (n + 1) = numC L k n ++ [digs L k n]) := by show _ = _; rw [HNS.out, hce]; simp
                clear HNS
                go_wp2_with (fail)
                refine HLI.mono ?_
                rintro e W3 ⟨rfl, hb3⟩
                have HB3 := Lib.hid (And.intro (below_self HB2.out hb3) (And.intro (below_self hI2.out.1 hb3) hb3))
                clear hb3 HLI
                have hown3 : W3.ownsRow w.heap.size 27 1 (.slice la vals.length lcap) vals.length vals := owns_same hI.out.1 (fun j _ h2 => HB3.out.2.1.block j h2)
                have HO3 := Lib.hid hown3
                clear hown3
                go_wp2_with (at_builtin; refine wpList_append_own_at _ rfl _ _ 43 rfl w.heap.size 27 i0 (.slice none 0 0) 1 24 Tryz.underlying43 hi hz0 hz1 hz2 rfl (by decide) (.slice la vals.length lcap) vals.length vals rfl (HO3.out.alloc _) ⟨W3.heap.size, 0, none⟩ 1 1 [.slice (some ⟨V.heap.size, 0, none⟩) k k] rfl rfl (cell_one_new _ _ _) (by simp [Value.oneCell']) (by unfold maxLen; omega) (by omega) (by have := HB3.out.1.size; rw [World.size_alloc]; omega) ?_)
                intro v' W4 hown4 hgrow4 _ _
                obtain ⟨g', cap', rfl⟩ := ownsRow_succ hown4
                have hs1 : V.heap.size ≤ W3.heap.size := HB3.out.2.1.size
                have hsw : w.heap.size ≤ V.heap.size := hI.out.2.2.size
                have hs2 : W3.heap.size + 1 ≤ W4.heap.size := by have := hgrow4.size; simp at this; omega
                have hrow : ∀ j, (Value.slice la vals.length lcap).ownBlock = some j → w.heap.size ≤ j := fun j hj => (HO3.out.lt j hj).1
                have hB4 : Below w.heap.size w W4 := (HB3.out.1.alloc (by omega) _).grown hgrow4 (by simp; omega) (fun j hj => hrow j hj)
                have ne : ∀ j, (∃ cs, W3.heap[j]? = some (.cells cs 3 (0, 0))) → some j ≠ (Value.slice la vals.length lcap).ownBlock := fun j ⟨ds, hd⟩ e => by
                  rcases HO3.out.2 with ⟨h1, _⟩ | ⟨g2, cap2, cur2, h1, _, hg2, _⟩
                  · rw [h1] at e; simp [Value.ownBlock] at e
                  · rw [h1] at e; simp [Value.ownBlock] at e; subst e; rw [hd] at hg2; simp at hg2
                have hk4 : ∀ j, w.heap.size ≤ j → j < W3.heap.size → (∃ cs, W3.heap[j]? = some (.cells cs 3 (0, 0))) → W4.heap[j]? = W3.heap[j]? := fun j h1 h2 h3 => (hgrow4.block j (by simp; omega) (ne j h3)).trans (Below.heap_alloc _ _ _ h2)
                have R1 : Rows2 W3 w.heap.size vals (numC L k n) := hI.out.2.1.same hs1 (fun j _ h2 _ => HB3.out.2.1.block j h2)
                have i3 : IntSl W3 (some ⟨V.heap.size, 0, none⟩) (digs L k n) := hI2.out.2.ints.below HB3.out.2.2
                have t3 : Ty3 W3 (some ⟨V.heap.size, 0, none⟩) := hI2.out.2.ty.below HB3.out.2.2
                have hb : ∀ q, some (⟨V.heap.size, 0, none⟩ : Addr) = some q → q.block < W3.heap.size → W4.heap[q.block]? = W3.heap[q.block]? := fun q hq hl => by
                  cases hq; exact hk4 _ hsw hl (t3 _ rfl)
                have R2 := (R1.same (by omega) hk4).snoc (cap := k) (ints_same i3 (by omega) hb) (ty3_same t3 hb) (fun q hq => by cases hq; exact hsw)
                rw [digs_len] at R2
                have HF : Hid (W4.ownsRow w.heap.size 27 1 (Value.slice (some ⟨g', 0, none⟩) (vals.length + 1) cap') (vals.length + 1) (vals ++ [Value.slice (some ⟨V.heap.size, 0, none⟩) k k]) ∧ Rows2 W4 w.heap.size (vals ++ [Value.slice (some ⟨V.heap.size, 0, none⟩) k k]) (numC L k n ++ [digs L k n]) ∧ Below w.heap.size w W4) := ⟨hown4, R2, hB4⟩
                clear hs1 hsw hs2 hrow hB4 ne hk4 R1 i3 t3 hb R2 hown4 hgrow4 HO3
                go_wp2_with (fail)
                clear hce
                go_roundw
                case rel =>
                  refine ⟨n + 1, some ⟨g', 0, none⟩, cap', vals ++ [Value.slice (some ⟨V.heap.size, 0, none⟩) k k], by simp, by go_num, by omega, by simp; omega, ?_⟩
                  show _ ∧ _ ∧ _
                  rw [HNS2.out, show (vals ++ [Value.slice (some ⟨V.heap.size, 0, none⟩) k k]).length = vals.length + 1 by simp]
                  exact HF.out
                case measure => simp [intOf]; omega
            · obtain ⟨p, rfl⟩ : ∃ p, j = p + 1 := ⟨j - 1, by omega⟩
              have hip : i = (p : Int) := by omega
              subst hip
              clear hij hj0
              have hpk : p < k := by omega
              obtain ⟨cv, hcv⟩ := hI2.out.2.cell p (by rw [setC_len _ _ _ _ (by omega)]; exact hpk)
              have hfr := hI2.out.2.free p
              have hL0 : ((L : Int) == 0) = false := by simp; omega
              go_wp2_with (fail)
              go_roundw
              case rel =>
                have e1 : wrap64 ((q : Int) / (L : Int)) = ((q / L : Nat) : Int) := by
                  rw [← Int.natCast_ediv, ← IntWalk.i64_left]; exact IntWalk.i64_in _ (by have := Nat.div_le_self q L; generalize q / L = z at *; omega)
                have e2 : ((q : Int) % (L : Int)) = ((n / L ^ (k - (p + 1)) % L : Nat) : Int) := by rw [← hqn.out]; simp
                refine ⟨p, q / L, (p : Int) - 1, by rw [e1], rfl, by omega, by omega, Nat.le_trans (Nat.div_le_self _ _) hq, ?_, ?_⟩
                · show _ = _
                  rw [hqn.out, Nat.div_div_eq_div_mul, ← Nat.pow_succ, show (k - (p + 1)).succ = k - p by omega]
                · refine ⟨hI2.out.1.setCell (p := ⟨V.heap.size, p, none⟩) (Nat.le_refl _) _, ?_⟩
                  have := hI2.out.2.set p ((n / L ^ (k - (p + 1)) % L : Nat) : Int)
                  rw [setC_step _ _ _ _ hpk] at this
                  rw [e2]
                  exact this
              case measure => simp [intOf]
        · have hnx : n = x := by omega
          subst hnx
          go_wp2_with (fail)
          go_ret
          obtain ⟨a4, cap4, h5, h6⟩ := sls_of_owns hI.out.1 hI.out.2.1
          rw [HA.out] at h5 h6
          exact ⟨a4, cap4, by rw [← h5]; rfl, h6, hI.out.2.2⟩
end Go.Proofs.YtgldfnkjfgcjpaaGreat

namespace Go.Proofs.YtgldfnkjfgcjpaaGreat
open Go.RowKit
attribute [local go_sem] Oper.semAt_some

/-- What broken has reckoned behind k laps. -/
structure Bk (xs : List Lp) (r : Ru) (c : List Int) (k : Nat) (A B : Int) (p q o : Bool) : Prop where
  a : A = sumI ((c.take k).map (lenAt xs))
  b : B = sumI ((c.take k).map (climbAt xs))
  p : p = !((c.take k).map (lenAt xs)).all (fun n => insideB n r.lap)
  q : q = !(c.take k).all (fun i => decide (r.wide ≤ wideAt xs i))
  o : o = (c.take k).any (fun i => decide (r.uses < (c.count i : Int)))
theorem Bk.zero (xs : List Lp) (r : Ru) (c : List Int) : Bk xs r c 0 0 0 false false false := ⟨rfl, rfl, rfl, rfl, rfl⟩
theorem Bk.step {xs : List Lp} {r : Ru} {c : List Int} {k : Nat} {A B : Int} {p q o : Bool} (h : Bk xs r c k A B p q o) {z : Nat} {x : Lp} (hz : c[k]? = some (z : Int)) (hx : xs[z]? = some x) :
    Bk xs r c (k + 1) (A + x.l) (B + x.c) (p || !withinB x.l r.lap.lo r.lap.hi) (q || decide (x.d < r.wide)) (o || decide (r.uses < (c.count (z : Int) : Int))) := by
  have e : c.take (k + 1) = c.take k ++ [(z : Int)] := by rw [List.take_add_one, hz]; rfl
  have e1 : lenAt xs z = x.l := by simp [lenAt, hx]
  have e2 : climbAt xs z = x.c := by simp [climbAt, hx]
  have e3 : wideAt xs z = x.d := by simp [wideAt, hx]
  obtain ⟨a, b, c1, d, f⟩ := h
  subst a b c1 d f
  refine ⟨?_, ?_, ?_, ?_, ?_⟩
  · rw [e, List.map_append, List.map_singleton, sumI_snoc, e1]
  · rw [e, List.map_append, List.map_singleton, sumI_snoc, e2]
  · rw [e, List.map_append, List.map_singleton, List.all_append, e1]
    simp [insideB]
  · rw [e, List.all_append]
    simp only [List.all_cons, List.all_nil, Bool.and_true, Bool.not_and, e3]
    congr 1
    rw [Bool.eq_iff_iff]; simp
  · rw [e, List.any_append]
    simp
theorem Bk.bd {xs : List Lp} {r : Ru} {c : List Int} {k : Nat} {A B : Int} {p q o : Bool} (h : Bk xs r c k A B p q o) (hs : stadE xs = 0) (hc : courseE xs.length c = 0) (hk : k ≤ c.length) : (0 ≤ A ∧ A ≤ 1000000) ∧ (0 ≤ B ∧ B ≤ 1000000) := by
  obtain ⟨h1, h2, h3⟩ := stad_ok hs
  obtain ⟨g1, g2, g3, _⟩ := course_ok hc
  have hb : ∀ f : Lp → Int, (∀ x ∈ xs, 0 ≤ f x ∧ f x ≤ 20000) → ∀ y ∈ c.map (fun i => ((xs[i.toNat]?).map f).getD 0), 0 ≤ y ∧ y ≤ 20000 := by
    intro f hf y hy
    obtain ⟨i, hi, rfl⟩ := List.mem_map.1 hy
    cases e : xs[i.toNat]? with
    | none => simp
    | some x => simpa using hf x (List.mem_of_getElem? e)
  have hall : ∀ x ∈ xs, (1 ≤ x.l ∧ x.l ≤ 20000) ∧ (0 ≤ x.c ∧ x.c ≤ 2000) := fun x hx => by
    have := List.all_eq_true.1 h1 x hx
    simp [allowedB, withinB] at this
    omega
  have l1 := sumI_bd (c.map (lenAt xs)) 20000 (by omega) (hb Lp.l (fun x hx => by have := hall x hx; omega)) k
  have l2 := sumI_bd (c.map (climbAt xs)) 20000 (by omega) (hb Lp.c (fun x hx => by have := hall x hx; omega)) k
  have e1 := h.a
  have e2 := h.b
  rw [List.map_take] at e1 e2
  rw [← e1] at l1
  rw [← e2] at l2
  omega
theorem Bk.end {xs : List Lp} {r : Ru} {c : List Int} {A B : Int} {p q o : Bool} (h : Bk xs r c c.length A B p q o) : judgeM xs r c = ⟨!withinB A r.len.lo r.len.hi, !withinB B r.climb.lo r.climb.hi, p, q, o⟩ := by
  obtain ⟨a, b, c1, d, f⟩ := h
  rw [List.take_length] at a b c1 d f
  subst a b c1 d f
  rfl

/-- What the memory holds while broken lists the rules. -/
structure BL (w : World) (r : Ru) (W : World) (v : Value) (l : List Int) : Prop where
  b : Below w.heap.size w W
  r : W.heap[w.heap.size]? = some (.cells #[.int .i64 r.laps, .int .i64 r.len.lo, .int .i64 r.len.hi, .int .i64 r.climb.lo, .int .i64 r.climb.hi, .int .i64 r.lap.lo, .int .i64 r.lap.hi, .int .i64 r.wide, .int .i64 r.uses] 36 (0, 0))
  o : W.ownsRow (w.heap.size + 1) 3 1 v l.length (l.map (Value.int .i64))
theorem BL.push {w W w2 : World} {r : Ru} {v v' : Value} {l : List Int} {x : Int} {o : Obj} (h : BL w r W v l) (ho : w2.ownsRow (w.heap.size + 1) 3 1 v' (l.length + 1) (l.map (Value.int .i64) ++ [.int .i64 x])) (hg : (W.alloc o).grownBy w2 v.ownBlock) : BL w r w2 v' (l ++ [x]) := by
  have hs := h.b.size
  have hlt := lt_of_block h.r
  refine ⟨(h.b.alloc hs _).grown hg (by simp; omega) (fun j hj => by have := (h.o.lt j hj).1; omega), ?_, ?_⟩
  · have hne : v.ownBlock ≠ some w.heap.size := fun e => by have := (h.o.lt _ e).1; omega
    rw [hg.block w.heap.size (by simp; omega) hne.symm]
    exact (heap_alloc_old W o hlt).trans h.r
  · rw [List.length_append, List.map_append]; exact ho
def if1 (b : Bool) (x : Int) : List Int := if b = true then [x] else []
theorem rules_five (a b c d e : Bool) : rulesL ⟨a, b, c, d, e⟩ = ((((([] ++ if1 a 0) ++ if1 b 1) ++ if1 c 2) ++ if1 d 3) ++ if1 e 4) := by
  cases a <;> cases b <;> cases c <;> cases d <;> cases e <;> rfl
theorem if1_le (b : Bool) (x : Int) : (if1 b x).length ≤ 1 := by cases b <;> simp [if1]

set_option maxHeartbeats 4000000 in
set_option maxRecDepth 100000 in
theorem refBroken_in (a : Option Addr) (xs : List Lp) (cap : Nat) (r : Ru) (ac : Option Addr) (c : List Int) (ccap : Nat) (w : World) (hx : Sl 3 Lp.cells w a xs) (hc : IntSl w ac c)
    (hs : stadE xs = 0) (hco : courseE xs.length c = 0) :
    Calls Tryz.prog 133 #[.slice a xs.length cap, r.v, .slice ac c.length ccap] w (OutInts w (rulesL (judgeM xs r c))) := by
  have HSC := Lib.hid (And.intro hs hco)
  obtain ⟨h1, h2, h3⟩ := stad_ok hs
  obtain ⟨g1, g2, g3, _⟩ := course_ok hco
  have HG3 := Lib.hid g3
  have HA1 := Lib.hid h1
  clear hs hco g3 h1
  obtain ⟨i0, hi, hz0, hz1, hz2⟩ := info_parts Tryz.info3
  have hB0 : Below w.heap.size w (w.alloc (.cells #[.int .i64 r.laps, .int .i64 r.len.lo, .int .i64 r.len.hi, .int .i64 r.climb.lo, .int .i64 r.climb.hi, .int .i64 r.lap.lo, .int .i64 r.lap.hi, .int .i64 r.wide, .int .i64 r.uses] 36)) := (Below.refl _ _).alloc (Nat.le_refl _) _
  have hR0 : (w.alloc (.cells #[.int .i64 r.laps, .int .i64 r.len.lo, .int .i64 r.len.hi, .int .i64 r.climb.lo, .int .i64 r.climb.hi, .int .i64 r.lap.lo, .int .i64 r.lap.hi, .int .i64 r.wide, .int .i64 r.uses] 36)).heap[w.heap.size]? = some (.cells #[.int .i64 r.laps, .int .i64 r.len.lo, .int .i64 r.len.hi, .int .i64 r.climb.lo, .int .i64 r.climb.hi, .int .i64 r.lap.lo, .int .i64 r.lap.hi, .int .i64 r.wide, .int .i64 r.uses] 36 (0, 0)) := heap_alloc_new _ _
  go_enter Tryz.func133, Tryz.ntmps133
  go_wp2_with (fail)
  generalize w.alloc (.cells #[.int .i64 r.laps, .int .i64 r.len.lo, .int .i64 r.len.hi, .int .i64 r.climb.lo, .int .i64 r.climb.hi, .int .i64 r.lap.lo, .int .i64 r.lap.hi, .int .i64 r.wide, .int .i64 r.uses] 36) = W0 at hB0 hR0 ⊢
  have HX0 : Hid (Below w.heap.size w W0 ∧ W0.heap[w.heap.size]? = some (.cells #[.int .i64 r.laps, .int .i64 r.len.lo, .int .i64 r.len.hi, .int .i64 r.climb.lo, .int .i64 r.climb.hi, .int .i64 r.lap.lo, .int .i64 r.lap.hi, .int .i64 r.wide, .int .i64 r.uses] 36 (0, 0)) ∧ Sl 3 Lp.cells W0 a xs ∧ IntSl W0 ac c) := ⟨hB0, hR0, hx.below hB0, hc.below hB0⟩
  clear hB0 hR0 hx hc
  go_loopw [7, 8, 9, 10, 11, 12] (fun s7 s8 s9 s10 s11 i wr => ∃ (k : Nat) (A B : Int) (p q o : Bool), k ≤ c.length ∧ i = .int .i64 k ∧ s7 = .int .i64 A ∧ s8 = .int .i64 B ∧ s9 = .bool p ∧ s10 = .bool q ∧ s11 = .bool o ∧ Hid (Bk xs r c k A B p q o) ∧ Hid (Below W0.heap.size W0 wr)) (fun _ _ _ _ _ i _ => c.length - (intOf i).toNat)
  case atStart => exact ⟨0, 0, 0, false, false, false, Nat.zero_le _, rfl, rfl, rfl, rfl, rfl, rfl, Bk.zero xs r c, Below.refl _ _⟩
  case round =>
    obtain ⟨k, A, B, p, q, o, hk, rfl, rfl, rfl, rfl, rfl, rfl, hBk, hbw⟩ := hrel
    have hbd := hBk.out.bd HSC.out.1 HSC.out.2 hk
    obtain ⟨⟨bA1, bA2⟩, bB1, bB2⟩ := hbd
    by_cases hlt : k < c.length
    · obtain ⟨bc, oc, rfl, hbc, hcc⟩ := HX0.out.2.2.2 (by omega)
      obtain ⟨z, hz⟩ : ∃ z : Nat, c[k]? = some (z : Int) := by
        have := HG3.out c[k] (List.getElem_mem hlt)
        exact ⟨c[k].toNat, by rw [List.getElem?_eq_getElem hlt]; congr 1; omega⟩
      have hzl : z < xs.length := by
        have := HG3.out (z : Int) (List.mem_of_getElem? hz)
        omega
      have dz := (hbw.out.cell (p := ⟨bc, oc + k, none⟩) hbc).trans (hcc k hlt)
      rw [hz, Option.getD_some] at dz
      obtain ⟨b, off, rfl, hbs, hcs⟩ := HX0.out.2.2.1 (by omega)
      have hxz := List.getElem?_eq_getElem hzl
      have HST := Lib.hid (hBk.out.step hz hxz)
      have d0 : wr.cell? ⟨b, off + z * 3, none⟩ = some (.int .i64 xs[z].l) := (hbw.out.cell (p := ⟨b, off + z * 3 + 0, none⟩) hbs).trans (hcs z xs[z] 0 _ hxz rfl)
      have d1 := (hbw.out.cell (p := ⟨b, off + z * 3 + 1, none⟩) hbs).trans (hcs z xs[z] 1 _ hxz rfl)
      have d2 := (hbw.out.cell (p := ⟨b, off + z * 3 + 2, none⟩) hbs).trans (hcs z xs[z] 2 _ hxz rfl)
      have hxb : (0 ≤ xs[z].l ∧ xs[z].l ≤ 20000) ∧ (0 ≤ xs[z].c ∧ xs[z].c ≤ 2000) := by
        have := List.all_eq_true.1 HA1.out xs[z] (List.getElem_mem hzl)
        simp [allowedB, withinB] at this
        omega
      obtain ⟨⟨bx1, bx2⟩, bx3, bx4⟩ := hxb
      clear hcc hcs hz hxz
      generalize xs[z] = x at *
      obtain ⟨Wx, hWx⟩ : ∃ Wx, wr.alloc (.cells #[.int .i64 x.l, .int .i64 x.c, .int .i64 x.d] 132) = Wx := ⟨_, rfl⟩
      have hbx : Below wr.heap.size wr Wx := by rw [← hWx]; exact (Below.refl _ _).alloc (Nat.le_refl _) _
      have HNX : Hid (Wx.heap[wr.heap.size]? = some (.cells #[.int .i64 x.l, .int .i64 x.c, .int .i64 x.d] 132 (0, 0))) := by rw [← hWx]; exact heap_alloc_new _ _
      have HBW := Lib.hid (below_self hbw.out hbx)
      have HIQ : Hid (∀ n, IntSl (Wx.drewN n) (some ⟨bc, oc, none⟩) c) := fun n => (HX0.out.2.2.2.below HBW.out).below (below_drewN (Below.refl _ _) n)
      have dzx := (hbx.cell (p := ⟨bc, oc + k, none⟩) (Nat.lt_of_lt_of_le hbc hbw.out.size)).trans dz
      have HDZ := Lib.hid dzx
      clear hbx dzx
      go_upto_region 7 with (fail)
      clear hWx d0 d1 d2 dz
      have n0 := blk_cell HNX.out 0 rfl
      have n1 := blk_cell HNX.out 1 rfl
      have n2 := blk_cell HNX.out 2 rfl
      have HR := Lib.hid (blk_below HX0.out.2.1 HBW.out)
      have r5 := blk_cell HR.out 5 rfl
      have r6 := blk_cell HR.out 6 rfl
      have r7 := blk_cell HR.out 7 rfl
      have r8 := blk_cell HR.out 8 rfl
      have dz := HDZ.out
      cases p <;> cases q <;> cases o
      all_goals
        go_upto_region 11 with (go_at_call 81; refine (outside_any _ _ _ _).mono ?_; rintro e w' ⟨rfl, rfl⟩)
        go_quiet ((go_at_call 78; exact Calls.quiet_of_same ((uses_any _ c ccap _ _ (HIQ.out _) (by omega)).mono fun _ _ h => ⟨h.1, h.2.symm⟩)))
        go_wp2_with (fail)
        go_roundw
        case rel => exact ⟨k + 1, _, _, _, _, _, by omega, by go_num, rfl, rfl, rfl, rfl, rfl, HST.out, below_drewN HBW.out nq⟩
        case measure => simp [intOf]; omega
    · have : k = c.length := by omega
      subst this
      have HE := Lib.hid (hBk.out.end)
      have HL0 : Hid (BL w r wr (.slice none 0 0) []) := ⟨below_self HX0.out.1 hbw.out, blk_below HX0.out.2.1 hbw.out, World.ownsRow_nil _ _ _ _⟩
      clear hBk hlt hk HX0 hbw
      have r1 := blk_cell HL0.out.r 1 rfl
      have r2 := blk_cell HL0.out.r 2 rfl
      go_upto_if 75 with (go_at_call 81; refine (outside_any _ _ _ _).mono ?_; rintro e w' ⟨rfl, rfl⟩)
      clear r1 r2
      go_cut [14] from 75 to 78 (fun v wx => BL w r wx v ([] ++ if1 (!withinB A r.len.lo r.len.hi) 0))
      case first =>
        cases eb : withinB A r.len.lo r.len.hi
        · have hlen : ([] : List Int).length ≤ 0 := by simp
          have hown := HL0.out.o
          have hsz := HL0.out.b.size
          have hsr := lt_of_block HL0.out.r
          have HP := HL0
          go_wp2_with (at_builtin; refine wpList_append_own _ rfl _ _ 27 rfl (w.heap.size + 1) 3 i0 (.int .i64 0) 1 8 Tryz.underlying27 hi hz0 hz1 hz2 rfl (by decide) _ _ _ rfl (hown.alloc _) ⟨wr.heap.size, 0, none⟩ 1 1 [.int .i64 0] rfl rfl ?c1 ?c2 ?c3 ?c4 ?c5 ?_)
          case c1 => exact cell_one_new _ _ _
          case c2 => intro u hu; simp at hu; subst hu; rfl
          case c3 => unfold maxLen; omega
          case c4 => omega
          case c5 => simp; omega
          intro v' w2 hown2 hgrow2 _
          have HN : Hid (BL w r w2 v' (([] : List Int) ++ if1 (!withinB A r.len.lo r.len.hi) 0)) := by rw [eb]; exact HP.out.push hown2 hgrow2
          clear hown2 hgrow2 hown
          go_wp2_with (fail)
          go_meet
          exact HN.out
        · have HN := Lib.hid (show BL w r wr (.slice none 0 0) ([] ++ if1 (!withinB A r.len.lo r.len.hi) 0) from by rw [eb]; simpa [if1] using HL0.out)
          go_wp2_with (fail)
          go_meet
          exact HN.out
      case rest =>
        generalize u14 = s0 at hcut ⊢
        obtain ⟨W1, rfl⟩ : ∃ W, W = wc := ⟨_, rfl⟩
        have HL1 := Lib.hid hcut
        clear hcut
        have r3 := blk_cell HL1.out.r 3 rfl
        have r4 := blk_cell HL1.out.r 4 rfl
        go_upto_if 86 with (go_at_call 81; refine (outside_any _ _ _ _).mono ?_; rintro e w' ⟨rfl, rfl⟩)
        clear r3 r4
        go_cut [14] from 86 to 89 (fun v wx => BL w r wx v (([] ++ if1 (!withinB A r.len.lo r.len.hi) 0) ++ if1 (!withinB B r.climb.lo r.climb.hi) 1))
        case first =>
          cases eb : withinB B r.climb.lo r.climb.hi
          · have hlen : (([] ++ if1 (!withinB A r.len.lo r.len.hi) 0) : List Int).length ≤ 1 := by simp only [List.length_append, List.length_nil]; have := if1_le (!withinB A r.len.lo r.len.hi) 0; omega
            have hown := HL1.out.o
            have hsz := HL1.out.b.size
            have hsr := lt_of_block HL1.out.r
            have HP := HL1
            generalize ([] ++ if1 (!withinB A r.len.lo r.len.hi) 0) = l0 at *
            go_wp2_with (at_builtin; refine wpList_append_own _ rfl _ _ 27 rfl (w.heap.size + 1) 3 i0 (.int .i64 0) 1 8 Tryz.underlying27 hi hz0 hz1 hz2 rfl (by decide) _ _ _ rfl (hown.alloc _) ⟨W1.heap.size, 0, none⟩ 1 1 [.int .i64 1] rfl rfl ?c1 ?c2 ?c3 ?c4 ?c5 ?_)
            case c1 => exact cell_one_new _ _ _
            case c2 => intro u hu; simp at hu; subst hu; rfl
            case c3 => unfold maxLen; omega
            case c4 => omega
            case c5 => simp; omega
            intro v' w2 hown2 hgrow2 _
            have HN : Hid (BL w r w2 v' (l0 ++ if1 (!withinB B r.climb.lo r.climb.hi) 1)) := by rw [eb]; exact HP.out.push hown2 hgrow2
            clear hown2 hgrow2 hown
            go_wp2_with (fail)
            go_meet
            exact HN.out
          · have HN := Lib.hid (show BL w r W1 (s0) (([] ++ if1 (!withinB A r.len.lo r.len.hi) 0) ++ if1 (!withinB B r.climb.lo r.climb.hi) 1) from by rw [eb]; simpa [if1] using HL1.out)
            go_wp2_with (fail)
            go_meet
            exact HN.out
        case rest =>
          generalize u14 = s1 at hcut ⊢
          obtain ⟨W2, rfl⟩ : ∃ W, W = wc := ⟨_, rfl⟩
          have HL2 := Lib.hid hcut
          clear hcut
          go_upto_if 90 with (fail)
          go_cut [9, 14] from 90 to 93 (fun _ v wx => BL w r wx v ((([] ++ if1 (!withinB A r.len.lo r.len.hi) 0) ++ if1 (!withinB B r.climb.lo r.climb.hi) 1) ++ if1 (p) 2))
          case first =>
            cases eb : p
            · have HN := Lib.hid (show BL w r W2 (s1) ((([] ++ if1 (!withinB A r.len.lo r.len.hi) 0) ++ if1 (!withinB B r.climb.lo r.climb.hi) 1) ++ if1 (p) 2) from by rw [eb]; simpa [if1] using HL2.out)
              go_wp2_with (fail)
              go_meet
              exact HN.out
            · have hlen : ((([] ++ if1 (!withinB A r.len.lo r.len.hi) 0) ++ if1 (!withinB B r.climb.lo r.climb.hi) 1) : List Int).length ≤ 2 := by simp only [List.length_append, List.length_nil]; have := if1_le (!withinB A r.len.lo r.len.hi) 0; have := if1_le (!withinB B r.climb.lo r.climb.hi) 1; omega
              have hown := HL2.out.o
              have hsz := HL2.out.b.size
              have hsr := lt_of_block HL2.out.r
              have HP := HL2
              generalize (([] ++ if1 (!withinB A r.len.lo r.len.hi) 0) ++ if1 (!withinB B r.climb.lo r.climb.hi) 1) = l0 at *
              go_wp2_with (at_builtin; refine wpList_append_own _ rfl _ _ 27 rfl (w.heap.size + 1) 3 i0 (.int .i64 0) 1 8 Tryz.underlying27 hi hz0 hz1 hz2 rfl (by decide) _ _ _ rfl (hown.alloc _) ⟨W2.heap.size, 0, none⟩ 1 1 [.int .i64 2] rfl rfl ?c1 ?c2 ?c3 ?c4 ?c5 ?_)
              case c1 => exact cell_one_new _ _ _
              case c2 => intro u hu; simp at hu; subst hu; rfl
              case c3 => unfold maxLen; omega
              case c4 => omega
              case c5 => simp; omega
              intro v' w2 hown2 hgrow2 _
              have HN : Hid (BL w r w2 v' (l0 ++ if1 (p) 2)) := by rw [eb]; exact HP.out.push hown2 hgrow2
              clear hown2 hgrow2 hown
              go_wp2_with (fail)
              go_meet
              exact HN.out
          case rest =>
            generalize u14 = s2 at hcut ⊢
            obtain ⟨W3, rfl⟩ : ∃ W, W = wc := ⟨_, rfl⟩
            have HL3 := Lib.hid hcut
            clear hcut
            go_upto_if 94 with (fail)
            go_cut [10, 14] from 94 to 97 (fun _ v wx => BL w r wx v (((([] ++ if1 (!withinB A r.len.lo r.len.hi) 0) ++ if1 (!withinB B r.climb.lo r.climb.hi) 1) ++ if1 (p) 2) ++ if1 (q) 3))
            case first =>
              cases eb : q
              · have HN := Lib.hid (show BL w r W3 (s2) (((([] ++ if1 (!withinB A r.len.lo r.len.hi) 0) ++ if1 (!withinB B r.climb.lo r.climb.hi) 1) ++ if1 (p) 2) ++ if1 (q) 3) from by rw [eb]; simpa [if1] using HL3.out)
                go_wp2_with (fail)
                go_meet
                exact HN.out
              · have hlen : (((([] ++ if1 (!withinB A r.len.lo r.len.hi) 0) ++ if1 (!withinB B r.climb.lo r.climb.hi) 1) ++ if1 (p) 2) : List Int).length ≤ 3 := by simp only [List.length_append, List.length_nil]; have := if1_le (!withinB A r.len.lo r.len.hi) 0; have := if1_le (!withinB B r.climb.lo r.climb.hi) 1; have := if1_le (p) 2; omega
                have hown := HL3.out.o
                have hsz := HL3.out.b.size
                have hsr := lt_of_block HL3.out.r
                have HP := HL3
                generalize ((([] ++ if1 (!withinB A r.len.lo r.len.hi) 0) ++ if1 (!withinB B r.climb.lo r.climb.hi) 1) ++ if1 (p) 2) = l0 at *
                go_wp2_with (at_builtin; refine wpList_append_own _ rfl _ _ 27 rfl (w.heap.size + 1) 3 i0 (.int .i64 0) 1 8 Tryz.underlying27 hi hz0 hz1 hz2 rfl (by decide) _ _ _ rfl (hown.alloc _) ⟨W3.heap.size, 0, none⟩ 1 1 [.int .i64 3] rfl rfl ?c1 ?c2 ?c3 ?c4 ?c5 ?_)
                case c1 => exact cell_one_new _ _ _
                case c2 => intro u hu; simp at hu; subst hu; rfl
                case c3 => unfold maxLen; omega
                case c4 => omega
                case c5 => simp; omega
                intro v' w2 hown2 hgrow2 _
                have HN : Hid (BL w r w2 v' (l0 ++ if1 (q) 3)) := by rw [eb]; exact HP.out.push hown2 hgrow2
                clear hown2 hgrow2 hown
                go_wp2_with (fail)
                go_meet
                exact HN.out
            case rest =>
              generalize u14 = s3 at hcut ⊢
              obtain ⟨W4, rfl⟩ : ∃ W, W = wc := ⟨_, rfl⟩
              have HL4 := Lib.hid hcut
              clear hcut
              go_upto_if 98 with (fail)
              go_cut [11, 14] from 98 to 101 (fun _ v wx => BL w r wx v ((((([] ++ if1 (!withinB A r.len.lo r.len.hi) 0) ++ if1 (!withinB B r.climb.lo r.climb.hi) 1) ++ if1 (p) 2) ++ if1 (q) 3) ++ if1 (o) 4))
              case first =>
                cases eb : o
                · have HN := Lib.hid (show BL w r W4 (s3) ((((([] ++ if1 (!withinB A r.len.lo r.len.hi) 0) ++ if1 (!withinB B r.climb.lo r.climb.hi) 1) ++ if1 (p) 2) ++ if1 (q) 3) ++ if1 (o) 4) from by rw [eb]; simpa [if1] using HL4.out)
                  go_wp2_with (fail)
                  go_meet
                  exact HN.out
                · have hlen : ((((([] ++ if1 (!withinB A r.len.lo r.len.hi) 0) ++ if1 (!withinB B r.climb.lo r.climb.hi) 1) ++ if1 (p) 2) ++ if1 (q) 3) : List Int).length ≤ 4 := by simp only [List.length_append, List.length_nil]; have := if1_le (!withinB A r.len.lo r.len.hi) 0; have := if1_le (!withinB B r.climb.lo r.climb.hi) 1; have := if1_le (p) 2; have := if1_le (q) 3; omega
                  have hown := HL4.out.o
                  have hsz := HL4.out.b.size
                  have hsr := lt_of_block HL4.out.r
                  have HP := HL4
                  generalize (((([] ++ if1 (!withinB A r.len.lo r.len.hi) 0) ++ if1 (!withinB B r.climb.lo r.climb.hi) 1) ++ if1 (p) 2) ++ if1 (q) 3) = l0 at *
                  go_wp2_with (at_builtin; refine wpList_append_own _ rfl _ _ 27 rfl (w.heap.size + 1) 3 i0 (.int .i64 0) 1 8 Tryz.underlying27 hi hz0 hz1 hz2 rfl (by decide) _ _ _ rfl (hown.alloc _) ⟨W4.heap.size, 0, none⟩ 1 1 [.int .i64 4] rfl rfl ?c1 ?c2 ?c3 ?c4 ?c5 ?_)
                  case c1 => exact cell_one_new _ _ _
                  case c2 => intro u hu; simp at hu; subst hu; rfl
                  case c3 => unfold maxLen; omega
                  case c4 => omega
                  case c5 => simp; omega
                  intro v' w2 hown2 hgrow2 _
                  have HN : Hid (BL w r w2 v' (l0 ++ if1 (o) 4)) := by rw [eb]; exact HP.out.push hown2 hgrow2
                  clear hown2 hgrow2 hown
                  go_wp2_with (fail)
                  go_meet
                  exact HN.out
              case rest =>
                generalize u14 = s4 at hcut ⊢
                obtain ⟨W5, rfl⟩ : ∃ W, W = wc := ⟨_, rfl⟩
                have HL5 := Lib.hid hcut
                clear hcut
                have HQ := Lib.hid (rules_five (!withinB A r.len.lo r.len.hi) (!withinB B r.climb.lo r.climb.hi) p q o)
                have HJ := Lib.hid ((congrArg rulesL HE.out).trans HQ.out)
                obtain ⟨a', cap', rfl, hs', hfr⟩ := ints_of_owns HL5.out.o
                have HS := Lib.hid (And.intro hs' hfr)
                clear hs' hfr
                go_wp2_with (fail)
                go_ret
                exact ⟨a', cap', by rw [HJ.out]; rfl, by rw [HJ.out]; exact HS.out.1, fun p hp => by have := HS.out.2 p hp; omega, HL5.out.b⟩

set_option maxHeartbeats 2000000 in
set_option maxRecDepth 100000 in
theorem refBroken_any (a : Option Addr) (xs : List Lp) (cap : Nat) (r : Ru) (ac : Option Addr) (c : List Int) (ccap : Nat) (w : World) (hx : Sl 3 Lp.cells w a xs) (hc : IntSl w ac c)
    (hl : xs.length ≤ 1000000) (hcl : c.length ≤ 1000000) :
    Calls Tryz.prog 96 #[.slice a xs.length cap, r.v, .slice ac c.length ccap] w (OutIntsE w (brokenR xs r c).1 (brokenR xs r c).2) := by
  have hB0 : Below w.heap.size w (w.alloc (.cells #[.int .i64 r.laps, .int .i64 r.len.lo, .int .i64 r.len.hi, .int .i64 r.climb.lo, .int .i64 r.climb.hi, .int .i64 r.lap.lo, .int .i64 r.lap.hi, .int .i64 r.wide, .int .i64 r.uses] 36)) := (Below.refl _ _).alloc (Nat.le_refl _) _
  have hR0 : (w.alloc (.cells #[.int .i64 r.laps, .int .i64 r.len.lo, .int .i64 r.len.hi, .int .i64 r.climb.lo, .int .i64 r.climb.hi, .int .i64 r.lap.lo, .int .i64 r.lap.hi, .int .i64 r.wide, .int .i64 r.uses] 36)).heap[w.heap.size]? = some (.cells #[.int .i64 r.laps, .int .i64 r.len.lo, .int .i64 r.len.hi, .int .i64 r.climb.lo, .int .i64 r.climb.hi, .int .i64 r.lap.lo, .int .i64 r.lap.hi, .int .i64 r.wide, .int .i64 r.uses] 36 (0, 0)) := heap_alloc_new _ _
  have rl : (w.alloc (.cells #[.int .i64 r.laps, .int .i64 r.len.lo, .int .i64 r.len.hi, .int .i64 r.climb.lo, .int .i64 r.climb.hi, .int .i64 r.lap.lo, .int .i64 r.lap.hi, .int .i64 r.wide, .int .i64 r.uses] 36)).cell? ⟨w.heap.size, 0, none⟩ = some (.int .i64 r.laps) := blk_cell hR0 0 rfl
  clear rl
  go_enter Tryz.func96, Tryz.ntmps96
  go_wp2_with (fail)
  generalize w.alloc (.cells #[.int .i64 r.laps, .int .i64 r.len.lo, .int .i64 r.len.hi, .int .i64 r.climb.lo, .int .i64 r.climb.hi, .int .i64 r.lap.lo, .int .i64 r.lap.hi, .int .i64 r.wide, .int .i64 r.uses] 36) = W0 at hB0 hR0 ⊢
  have HX := Lib.hid (And.intro hx hc)
  clear hx hc
  refine (refCheck_any a xs cap r _ (HX.out.1.below hB0) hl).mono ?_
  rintro e w1 ⟨rfl, hb⟩
  have HB1 := Lib.hid (below_self hB0 hb)
  have HR1 := Lib.hid (blk_below hR0 hb)
  clear hB0 hR0 hb
  by_cases h1 : checkE xs r = 0
  · have h1b : (checkE xs r != 0) = false := by simp [h1]
    have hbr : Hid (brokenR xs r c = if courseE xs.length c = 0 then (if (c.length : Int) = r.laps then (rulesL (judgeM xs r c), 0) else ([], 2)) else ([], courseE xs.length c)) := by show _ = _; rw [brokenR, if_pos h1]
    have H1 := Lib.hid h1
    clear h1
    go_wp2_with (fail)
    refine (listed_any a xs cap ac c ccap _ (HX.out.2.below HB1.out) hl hcl).mono ?_
    rintro e w2 ⟨rfl, hb⟩
    have HB2 := Lib.hid (below_self HB1.out hb)
    have HR2 := Lib.hid (blk_below HR1.out hb)
    clear hb h1b
    by_cases h2 : courseE xs.length c = 0
    · have h2b : (courseE xs.length c != 0) = false := by simp [h2]
      have H2 := Lib.hid h2
      clear h2
      have r0 := blk_cell HR2.out 0 rfl
      by_cases h3 : (c.length : Int) = r.laps
      · have h3b : ((c.length : Int) != r.laps) = false := by simp [h3]
        have hbr2 : Hid (brokenR xs r c = (rulesL (judgeM xs r c), 0)) := by show _ = _; rw [hbr.out, if_pos H2.out, if_pos h3]
        clear h3
        have r1 := blk_cell HR2.out 1 rfl
        have r2 := blk_cell HR2.out 2 rfl
        have r3 := blk_cell HR2.out 3 rfl
        have r4 := blk_cell HR2.out 4 rfl
        have r5 := blk_cell HR2.out 5 rfl
        have r6 := blk_cell HR2.out 6 rfl
        have r7 := blk_cell HR2.out 7 rfl
        have r8 := blk_cell HR2.out 8 rfl
        go_wp2_with (fail)
        clear h2b h3b r0 r1 r2 r3 r4 r5 r6 r7 r8
        refine (refBroken_in a xs cap r ac c ccap _ (HX.out.1.below HB2.out) (HX.out.2.below HB2.out) (check_ok H1.out).1 H2.out).mono ?_
        rintro e w3 ⟨a', cap', rfl, hs', hfr, hb⟩
        have HO := Lib.hid (And.intro hs' (And.intro hfr hb))
        clear hs' hfr hb
        go_wp2_with (fail)
        go_ret2
        exact ⟨a', cap', by rw [hbr2.out]; rfl, by rw [hbr2.out]; exact HO.out.1, fun p hp => by have := HO.out.2.1 p hp; have := HB2.out.size; omega, below_self HB2.out HO.out.2.2⟩
      · have h3b : ((c.length : Int) != r.laps) = true := by simp [h3]
        have hbr2 : Hid (brokenR xs r c = ([], 2)) := by show _ = _; rw [hbr.out, if_pos H2.out, if_neg h3]
        clear h3
        go_wp2_with (fail)
        go_ret2
        rw [hbr2.out]
        exact OutIntsE.nil rfl HB2.out
    · have h2b : (courseE xs.length c != 0) = true := by simp [h2]
      have hbr2 : Hid (brokenR xs r c = ([], courseE xs.length c)) := by show _ = _; rw [hbr.out, if_neg h2]
      clear h2
      go_wp2_with (fail)
      go_ret2
      rw [hbr2.out]
      exact OutIntsE.nil rfl HB2.out
  · have h1b : (checkE xs r != 0) = true := by simp [h1]
    have hbr : Hid (brokenR xs r c = ([], checkE xs r)) := by show _ = _; rw [brokenR, if_neg h1]
    clear h1
    go_wp2_with (fail)
    go_ret2
    rw [hbr.out]
    exact OutIntsE.nil rfl HB1.out
end Go.Proofs.YtgldfnkjfgcjpaaGreat

namespace Go.Proofs.YtgldfnkjfgcjpaaGreat
open Go.RowKit Go.Shelf
attribute [local go_sem] Oper.semAt_some

/-- Rules in a box of the reference's kind. -/
def RB38 (w : World) (B : Nat) (r : Ru) : Prop := w.heap[B]? = some (.cells #[.int .i64 r.laps, .int .i64 r.len.lo, .int .i64 r.len.hi, .int .i64 r.climb.lo, .int .i64 r.climb.hi, .int .i64 r.lap.lo, .int .i64 r.lap.hi, .int .i64 r.wide, .int .i64 r.uses] 36 (0, 0))
theorem RB38.below {w w' : World} {B : Nat} {r : Ru} (h : RB38 w B r) (hb : Below w.heap.size w w') : RB38 w' B r := blk_below h hb

/-- Values that are slices of integers of an earlier world. -/
structure Rows0 (W : World) (vals : List Value) (cs : List (List Int)) : Prop where
  len : vals.length = cs.length
  at' : ∀ (j : Nat) (c : List Int), cs[j]? = some c → ∃ (a : Option Addr) (cap : Nat), vals[j]? = some (Value.slice a c.length cap) ∧ IntSl W a c
theorem Rows0.nil (W : World) : Rows0 W [] [] := ⟨rfl, fun j c h => by simp at h⟩
theorem Rows0.snoc {W : World} {vals : List Value} {cs : List (List Int)} (h : Rows0 W vals cs) {a : Option Addr} {c : List Int} {cap : Nat} (hi : IntSl W a c) :
    Rows0 W (vals ++ [.slice a c.length cap]) (cs ++ [c]) := by
  refine ⟨by simp [h.len], fun j d hd => ?_⟩
  rcases Nat.lt_or_ge j cs.length with hj | hj
  · rw [List.getElem?_append_left hj] at hd
    rw [List.getElem?_append_left (by rw [h.len]; exact hj)]
    exact h.at' j d hd
  · rw [List.getElem?_append_right hj] at hd
    rw [List.getElem?_append_right (by rw [h.len]; exact hj), h.len]
    obtain ⟨i, hi'⟩ : ∃ i, j - cs.length = i := ⟨_, rfl⟩
    rw [hi'] at hd ⊢
    match i, hd with
    | 0, hd => simp at hd; subst hd; exact ⟨a, cap, rfl, hi⟩
    | i + 1, hd => simp at hd
theorem sls_of_owns0 {V W : World} {base : Nat} {v : Value} {vals : List Value} {cs : List (List Int)} (h : W.ownsRow base 27 1 v vals.length vals) (hr : Rows0 V vals cs) (hb : Below V.heap.size V W) : ∃ a cap, v = .slice a cs.length cap ∧ SlsAt W a cs := by
  rcases h.2 with ⟨rfl, h0⟩ | ⟨g, cap, cur, rfl, hb', hg, hnc, hcm, hcs, htake⟩
  · exact ⟨none, 0, by rw [← hr.len, h0], fun hp => by rw [← hr.len] at hp; omega⟩
  · refine ⟨some ⟨g, 0, none⟩, cap, by rw [hr.len], fun _ => ⟨g, 0, rfl, lt_of_block hg, fun j c hj => ?_⟩⟩
    obtain ⟨a', cap', h1, h2⟩ := hr.at' j c hj
    have hc := h.cells (g := g) rfl j _ h1
    have : (⟨g, 0, none⟩ : Addr).add j = ⟨g, 0 + j, none⟩ := by unfold Addr.add; split <;> simp_all
    rw [this] at hc
    exact ⟨a', cap', hc, h2.below hb⟩

theorem rules_none (m : Mk) : (((rulesL m).length : Int) == 0) = m.none := by
  obtain ⟨a, b, c, d, e⟩ := m
  cases a <;> cases b <;> cases c <;> cases d <;> cases e <;> rfl
theorem rulesL_le (m : Mk) : (rulesL m).length ≤ 5 := rulesTo_le m.list 5
theorem ext_ok (L d : Nat) (hL : 0 < L) (hd : 1 ≤ d ∧ d ≤ 6) (c : List Int) (h : c ∈ extC L d [] 0) : courseE L c = 0 := by
  rw [← numC_all L d hL hd, numC, List.mem_filter] at h
  simpa using h.2
theorem ext_few (L d : Nat) (hL : 1 ≤ L ∧ L ≤ 12) (hd : 1 ≤ d ∧ d ≤ 6) : (extC L d [] 0).length ≤ 2985984 := by
  rw [← numC_all L d (by omega) hd]
  exact Nat.le_trans (numC_len _ _ _) (pow_le L d hL hd.2)
theorem ext_one (L d : Nat) (hL : 1 ≤ L ∧ L ≤ 12) : 1 ≤ (extC L d [] 0).length := by
  rw [ext_all L d [] 0 (Nat.zero_le _), List.length_map]
  have : List.replicate d (0 : Int) ∈ (allC L d).filter (sf 0) := by
    have hm : ∀ d : Nat, List.replicate d (0 : Int) ∈ (allC L d).filter (sf 0) := by
      intro d
      induction d with
      | zero => simp [allC, sf]
      | succ d ih =>
        obtain ⟨h1, h2⟩ := List.mem_filter.1 ih
        refine List.mem_filter.2 ⟨?_, by rw [List.replicate_succ, sf]; simpa using h2⟩
        simp only [allC, List.mem_flatten, List.mem_map, List.mem_range]
        exact ⟨_, ⟨0, by omega, rfl⟩, List.mem_map.2 ⟨_, h1, rfl⟩⟩
    exact hm d
  exact List.length_pos_of_mem this
theorem take_filter {α : Type} (p : α → Bool) (S : List α) (k : Nat) (hk : k < S.length) : (S.take (k + 1)).filter p = (S.take k).filter p ++ if p S[k] = true then [S[k]] else [] := by
  rw [List.take_add_one, List.getElem?_eq_getElem hk, List.filter_append]
  congr 1
  simp [List.filter_cons]

set_option maxHeartbeats 4000000 in
set_option maxRecDepth 100000 in
theorem refRight_any (a : Option Addr) (xs : List Lp) (cap : Nat) (r : Ru) (w : World) (hx : Sl 3 Lp.cells w a xs) (hck : checkE xs r = 0) :
    Calls Tryz.prog 85 #[.slice a xs.length cap, r.v] w (OutSls w (rightL xs r)) := by
  obtain ⟨i0, hi, hz0, hz1, hz2⟩ := info_parts Tryz.info27
  have hB0 : Below w.heap.size w (w.alloc (.cells #[.int .i64 r.laps, .int .i64 r.len.lo, .int .i64 r.len.hi, .int .i64 r.climb.lo, .int .i64 r.climb.hi, .int .i64 r.lap.lo, .int .i64 r.lap.hi, .int .i64 r.wide, .int .i64 r.uses] 36)) := (Below.refl _ _).alloc (Nat.le_refl _) _
  have hR0 : RB38 (w.alloc (.cells #[.int .i64 r.laps, .int .i64 r.len.lo, .int .i64 r.len.hi, .int .i64 r.climb.lo, .int .i64 r.climb.hi, .int .i64 r.lap.lo, .int .i64 r.lap.hi, .int .i64 r.wide, .int .i64 r.uses] 36)) w.heap.size r := heap_alloc_new _ _
  have HX := Lib.hid (And.intro hx (check_ok hck).1)
  obtain ⟨hst, hl1, hl2⟩ := stad_ok (check_ok hck).1
  obtain ⟨hd0, hd1, hd2⟩ := laps_nat hck
  have HRL : Hid (rightL xs r = (extC xs.length r.laps.toNat [] 0).filter (okC xs r)) := rfl
  generalize r.laps.toNat = d at hd0 hd1 hd2 HRL
  have HE := Lib.hid (ext_ok xs.length d (by omega) ⟨hd1, hd2⟩)
  have hfew := ext_few xs.length d ⟨hl1, hl2⟩ ⟨hd1, hd2⟩
  have HD0 := Lib.hid hd0
  clear hx hck hst hd0
  go_enter Tryz.func85, Tryz.ntmps85
  go_wp2_with (fail)
  have HB0 := Lib.hid hB0
  have HR0 := Lib.hid hR0
  have HXA := Lib.hid (HX.out.1.below hB0)
  generalize w.alloc (.cells #[.int .i64 r.laps, .int .i64 r.len.lo, .int .i64 r.len.hi, .int .i64 r.climb.lo, .int .i64 r.climb.hi, .int .i64 r.lap.lo, .int .i64 r.lap.hi, .int .i64 r.wide, .int .i64 r.uses] 36) = W0 at HB0 HR0 HXA ⊢
  clear hB0 hR0
  have HC := refCourses_any a xs cap d W0 ⟨hl1, hl2⟩ ⟨hd1, hd2⟩
  rw [← HD0.out] at HC
  refine HC.mono ?_
  clear HC
  rintro e W1 ⟨la, lcap, rfl, hS, hb⟩
  generalize hSd : extC xs.length d [] 0 = S at *
  have HB1 := Lib.hid (And.intro (below_self HB0.out hb) hb)
  have HR1 := Lib.hid (HR0.out.below hb)
  have HS := Lib.hid hS
  have HX1 := Lib.hid (HXA.out.below hb)
  clear hS hb hSd HXA HR0
  go_wp2_with (fail)
  go_loopw [6, 7] (fun v6 iv wr => ∃ (k : Nat) (oa : Option Addr) (ocap : Nat) (vals : List Value), v6 = .slice oa vals.length ocap ∧ iv = .int .i64 k ∧ k ≤ S.length ∧ vals.length ≤ k ∧ Hid (wr.ownsRow W1.heap.size 27 1 (.slice oa vals.length ocap) vals.length vals ∧ Rows0 W1 vals ((S.take k).filter (okC xs r)) ∧ Below W1.heap.size W1 wr)) (fun _ iv _ => S.length - (intOf iv).toNat)
  case atStart => exact ⟨0, none, 0, [], rfl, rfl, Nat.zero_le _, Nat.le_refl _, World.ownsRow_nil _ _ _ _, Rows0.nil _, Below.refl _ _⟩
  case round =>
    obtain ⟨k, oa, ocap, vals, rfl, rfl, hk, hvk, hI⟩ := hrel
    obtain ⟨V, hV⟩ : ∃ V, V = wr := ⟨_, rfl⟩
    subst hV
    by_cases hlt : k < S.length
    · obtain ⟨b, off, rfl, hbs, hc⟩ := HS.out (by omega)
      obtain ⟨ac, ccap, hcell, hint⟩ := hc k S[k] (List.getElem?_eq_getElem hlt)
      have HCO := Lib.hid (HE.out S[k] (List.getElem_mem hlt))
      have HT := Lib.hid (take_filter (okC xs r) S k hlt)
      have HI := Lib.hid hint
      have x1 := (hI.out.2.2.cell (p := ⟨b, off + k, none⟩) hbs).trans hcell
      have HBS := Lib.hid hbs
      clear hc hcell hint hbs
      generalize S[k] = c at *
      have HR2 := Lib.hid (HR1.out.below hI.out.2.2)
      have HX2 := Lib.hid (HX1.out.below hI.out.2.2)
      have HI2 := Lib.hid (HI.out.below hI.out.2.2)
      go_upto_region 6 with (fail)
      have c0 := blk_cell HR2.out 0 rfl
      have c1 := blk_cell HR2.out 1 rfl
      have c2 := blk_cell HR2.out 2 rfl
      have c3 := blk_cell HR2.out 3 rfl
      have c4 := blk_cell HR2.out 4 rfl
      have c5 := blk_cell HR2.out 5 rfl
      have c6 := blk_cell HR2.out 6 rfl
      have c7 := blk_cell HR2.out 7 rfl
      have c8 := blk_cell HR2.out 8 rfl
      go_region_held3 (fun w' => w'.cell? ⟨b, off + k, none⟩ = some (.slice ac c.length ccap) ∧ w'.cell? ⟨w.heap.size, 0, none⟩ = some (.int .i64 r.laps) ∧ w'.cell? ⟨w.heap.size, 1, none⟩ = some (.int .i64 r.len.lo) ∧ w'.cell? ⟨w.heap.size, 2, none⟩ = some (.int .i64 r.len.hi) ∧ w'.cell? ⟨w.heap.size, 3, none⟩ = some (.int .i64 r.climb.lo) ∧ w'.cell? ⟨w.heap.size, 4, none⟩ = some (.int .i64 r.climb.hi) ∧ w'.cell? ⟨w.heap.size, 5, none⟩ = some (.int .i64 r.lap.lo) ∧ w'.cell? ⟨w.heap.size, 6, none⟩ = some (.int .i64 r.lap.hi) ∧ w'.cell? ⟨w.heap.size, 7, none⟩ = some (.int .i64 r.wide) ∧ w'.cell? ⟨w.heap.size, 8, none⟩ = some (.int .i64 r.uses)) (go_keep)
        (first
          | (go_at_call 133; refine (refBroken_in a xs cap r ac c ccap _ (HX2.out.below ((Below.refl _ _).drew)) (HI2.out.below ((Below.refl _ _).drew)) HX.out.2 HCO.out).mono ?_; rintro e W3 ⟨ra, rcap, rfl, h1, h2, hb⟩; have HB3 := Lib.hid (below_self (below_self hI.out.2.2 ((Below.refl V.heap.size V).drew)) hb); have HV3 := Lib.hid (below_self ((Below.refl V.heap.size V).drew) hb); clear h1 h2 hb; clear c0 c1 c2 c3 c4 c5 c6 c7 c8; have hh := HR1.out.below HB3.out; have y1 := (HV3.out.cell (p := ⟨b, off + k, none⟩) (Nat.lt_of_lt_of_le HBS.out hI.out.2.2.size)).trans x1; have c0 := blk_cell hh 0 rfl; have c1 := blk_cell hh 1 rfl; have c2 := blk_cell hh 2 rfl; have c3 := blk_cell hh 3 rfl; have c4 := blk_cell hh 4 rfl; have c5 := blk_cell hh 5 rfl; have c6 := blk_cell hh 6 rfl; have c7 := blk_cell hh 7 rfl; have c8 := blk_cell hh 8 rfl; clear hh))
      all_goals (
        clear c0 c1 c2 c3 c4 c5 c6 c7 c8
        have hrn := rules_none (judgeM xs r c)
        have hown := owns_below hI.out.1 HV3.out
        have HO := Lib.hid hown
        clear hown
        cases hok : okC xs r c
        · rw [show (judgeM xs r c).none = false from hok] at hrn
          have HT2 : Hid ((S.take (k + 1)).filter (okC xs r) = (S.take k).filter (okC xs r)) := by show _ = _; rw [HT.out, hok]; simp
          clear hok
          go_wp2_with (fail)
          clear hrn
          go_roundw
          case rel =>
            refine ⟨k + 1, oa, ocap, vals, rfl, by go_num, by omega, by omega, ?_⟩
            show _ ∧ _ ∧ _
            rw [HT2.out]
            exact ⟨HO.out, hI.out.2.1, HB3.out⟩
          case measure => simp [intOf]; omega
        · rw [show (judgeM xs r c).none = true from hok] at hrn
          have HT2 : Hid ((S.take (k + 1)).filter (okC xs r) = (S.take k).filter (okC xs r) ++ [c]) := by show _ = _; rw [HT.out, hok]; simp
          clear hok
          go_wp2_with (at_builtin; refine wpList_append_own_at _ rfl _ _ 43 rfl W1.heap.size 27 i0 (.slice none 0 0) 1 24 Tryz.underlying43 hi hz0 hz1 hz2 rfl (by decide) (.slice oa vals.length ocap) vals.length vals rfl (HO.out.alloc _) ⟨W3.heap.size, 0, none⟩ 1 1 [.slice ac c.length ccap] rfl rfl (cell_one_new _ _ _) (by simp [Value.oneCell']) (by unfold maxLen; omega) (by omega) (by have := HB3.out.size; rw [World.size_alloc]; omega) ?_)
          intro v' W4 hown4 hgrow4 _ _
          obtain ⟨g', cap', rfl⟩ := ownsRow_succ hown4
          have hsz := HB3.out.size
          have hrow : ∀ j, (Value.slice oa vals.length ocap).ownBlock = some j → W1.heap.size ≤ j := fun j hj => (HO.out.lt j hj).1
          have hB4 : Below W1.heap.size W1 W4 := (HB3.out.alloc (by omega) _).grown hgrow4 (by simp; omega) (fun j hj => hrow j hj)
          have R2 := hI.out.2.1.snoc (cap := ccap) HI.out
          have HF := Lib.hid (And.intro hown4 (And.intro R2 hB4))
          clear hown4 hgrow4 hsz hrow hB4 R2 HO
          go_wp2_with (fail)
          clear hrn
          go_roundw
          case rel =>
            refine ⟨k + 1, some ⟨g', 0, none⟩, cap', vals ++ [Value.slice ac c.length ccap], by simp, by go_num, by omega, by simp; omega, ?_⟩
            show _ ∧ _ ∧ _
            rw [HT2.out, show (vals ++ [Value.slice ac c.length ccap]).length = vals.length + 1 by simp]
            exact HF.out
          case measure => simp [intOf]; omega)
    · have hke : k = S.length := by omega
      subst hke
      go_wp2_with (fail)
      go_ret
      have h1 := hI.out.2.1
      rw [List.take_length, ← HRL.out] at h1
      obtain ⟨a4, cap4, h5, h6⟩ := sls_of_owns0 hI.out.1 h1 hI.out.2.2
      exact ⟨a4, cap4, by rw [← h5]; rfl, h6, below_self HB1.out.1 hI.out.2.2⟩

set_option maxHeartbeats 2000000 in
set_option maxRecDepth 100000 in
theorem refAll_any (a : Option Addr) (xs : List Lp) (cap : Nat) (r : Ru) (w : World) (hx : Sl 3 Lp.cells w a xs) (hl : xs.length ≤ 1000000) :
    Calls Tryz.prog 98 #[.slice a xs.length cap, r.v] w (AllOut xs r w) := by
  have hB0 : Below w.heap.size w (w.alloc (.cells #[.int .i64 r.laps, .int .i64 r.len.lo, .int .i64 r.len.hi, .int .i64 r.climb.lo, .int .i64 r.climb.hi, .int .i64 r.lap.lo, .int .i64 r.lap.hi, .int .i64 r.wide, .int .i64 r.uses] 36)) := (Below.refl _ _).alloc (Nat.le_refl _) _
  have hR0 : RB38 (w.alloc (.cells #[.int .i64 r.laps, .int .i64 r.len.lo, .int .i64 r.len.hi, .int .i64 r.climb.lo, .int .i64 r.climb.hi, .int .i64 r.lap.lo, .int .i64 r.lap.hi, .int .i64 r.wide, .int .i64 r.uses] 36)) w.heap.size r := heap_alloc_new _ _
  have HX := Lib.hid hx
  clear hx
  go_enter Tryz.func98, Tryz.ntmps98
  go_wp2_with (fail)
  have HXA := Lib.hid (HX.out.below hB0)
  generalize w.alloc (.cells #[.int .i64 r.laps, .int .i64 r.len.lo, .int .i64 r.len.hi, .int .i64 r.climb.lo, .int .i64 r.climb.hi, .int .i64 r.lap.lo, .int .i64 r.lap.hi, .int .i64 r.wide, .int .i64 r.uses] 36) = W0 at hB0 hR0 HXA ⊢
  refine (refCheck_any a xs cap r _ HXA.out hl).mono ?_
  rintro e W1 ⟨rfl, hb⟩
  have HB1 := Lib.hid (below_self hB0 hb)
  have HR1 := Lib.hid (RB38.below hR0 hb)
  have HX1 := Lib.hid (HXA.out.below hb)
  clear hB0 hR0 hb
  by_cases h1 : checkE xs r = 0
  · have h1b : (checkE xs r != 0) = false := by simp [h1]
    have HR : Hid (allR xs r = (if (rightL xs r).length ≤ 300 then rightL xs r else [], if (rightL xs r).length ≤ 300 then 0 else 10)) := by show _ = _; rw [allR, if_pos h1]
    have H1 := Lib.hid h1
    clear h1
    have c0 := blk_cell HR1.out 0 rfl
    have c1 := blk_cell HR1.out 1 rfl
    have c2 := blk_cell HR1.out 2 rfl
    have c3 := blk_cell HR1.out 3 rfl
    have c4 := blk_cell HR1.out 4 rfl
    have c5 := blk_cell HR1.out 5 rfl
    have c6 := blk_cell HR1.out 6 rfl
    have c7 := blk_cell HR1.out 7 rfl
    have c8 := blk_cell HR1.out 8 rfl
    go_wp2_with (fail)
    clear c0 c1 c2 c3 c4 c5 c6 c7 c8
    refine (refRight_any a xs cap r W1 HX1.out H1.out).mono ?_
    rintro e W2 ⟨la, lcap, rfl, hS, hb⟩
    have HS := Lib.hid (And.intro hS (below_self HB1.out hb))
    clear hS hb h1b
    generalize rightL xs r = S at *
    by_cases h3 : 300 < S.length
    · have h3b : decide (300 < S.length) = true := decide_eq_true h3
      have HR2 : Hid (allR xs r = ([], 10)) := by show _ = _; rw [HR.out, if_neg (by omega), if_neg (by omega)]
      go_wp2_with (fail)
      go_ret2
      show OutCs w (allR xs r).1 (allR xs r).2 _ _
      rw [HR2.out]
      exact ⟨none, 0, rfl, fun h => by simp at h, HS.out.2⟩
    · have h3b : decide (300 < S.length) = false := decide_eq_false h3
      have HR2 : Hid (allR xs r = (S, 0)) := by show _ = _; rw [HR.out, if_pos (by omega), if_pos (by omega)]
      go_wp2_with (fail)
      go_ret2
      show OutCs w (allR xs r).1 (allR xs r).2 _ _
      rw [HR2.out]
      exact ⟨la, lcap, rfl, HS.out.1, HS.out.2⟩
  · have h1b : (checkE xs r != 0) = true := by simp [h1]
    have HR : Hid (allR xs r = ([], checkE xs r)) := by show _ = _; rw [allR, if_neg h1]
    clear h1
    go_wp2_with (fail)
    go_ret2
    show OutCs w (allR xs r).1 (allR xs r).2 _ _
    rw [HR.out]
    exact ⟨none, 0, rfl, fun h => by simp at h, HB1.out⟩
end Go.Proofs.YtgldfnkjfgcjpaaGreat
