/-
The contract of the reference's courses over this seat's program.
  What is proved: it hands back the courses in lexicographic order; nothing that was there before has turned.
  Conditions: from 1 to 12 loops, from 1 to 6 laps.
-/
import Derived.Test.YtpkegiekpnaejaaPartN1
import Derived.Laws.OwnMore
namespace Go.Proofs.Ytpkegiekpnaejaa
open Go.RowKit Go.Shelf
attribute [local go_sem] Oper.semAt_some

/-- A call that hands back a slice of courses; nothing that was there before it has turned. -/
def OutSls (w : World) (cs : List (List Int)) (e : Ending) (w' : World) : Prop := ∃ a cap, e = .returned (.slice a cs.length cap) ∧ SlsAt w' a cs ∧ Below w.heap.size w w'

theorem mk27 (n : Nat) (h : n ≤ 1000) (w : World) : (Instr.makeSlice 27 (.int .i64 (n : Int)) (.int .i64 (n : Int))).run Try.prog w = .ok (.slice (some ⟨w.heap.size, 0, none⟩) n n) (w.alloc (.cells (Mc n) 3)) := by
  obtain ⟨i0, hi, hz0, hz1, hz2⟩ := info_parts Try.info3
  have hr := run_make (P := Try.prog) w 27 3 i0 (.int .i64 0) Try.underlying27 hi hz0 .i64 .i64 n n (by omega) (Int.le_refl _) (by rw [hz2]; omega) (by omega)
  simp only [Int.toNat_natCast, hz1, Nat.mul_one] at hr
  exact hr

/-- The digits that are set. -/
def setC (L d n j : Nat) : List Int := List.replicate j 0 ++ (digs L d n).drop j
theorem setC_start (L d n : Nat) : setC L d n d = List.replicate d 0 := by simp [setC, digs_len]
theorem setC_end (L d n : Nat) : setC L d n 0 = digs L d n := by simp [setC]
theorem setC_len (L d n j : Nat) (h : j ≤ d) : (setC L d n j).length = d := by simp [setC, digs_len]; omega
theorem setC_step (L d n p : Nat) (h : p < d) : (setC L d n (p + 1)).set p ((n / L ^ (d - (p + 1)) % L : Nat) : Int) = setC L d n p := by
  have e : (digs L d n).drop p = ((n / L ^ (d - (p + 1)) % L : Nat) : Int) :: (digs L d n).drop (p + 1) := by
    have hp : p < (digs L d n).length := by rw [digs_len]; exact h
    rw [List.drop_eq_getElem_cons hp]
    congr 1
    have := digs_get L d n p h
    rw [List.getElem?_eq_getElem hp] at this
    rw [show d - (p + 1) = d - 1 - p by omega]
    exact Option.some.inj this
  rw [setC, setC, e, List.replicate_succ', List.append_assoc, List.singleton_append, List.set_append_right _ _ (by simp)]
  simp

/-- A block of numbers. -/
def Blk3 (W : World) (B : Nat) (c : List Int) : Prop := ∃ cs : Array Value, W.heap[B]? = some (.cells cs 3 (0, 0)) ∧ cs.toList = c.map (Value.int .i64)
theorem Blk3.ints {W : World} {B : Nat} {c : List Int} (h : Blk3 W B c) : IntSl W (some ⟨B, 0, none⟩) c := fun _ => by
  obtain ⟨cs, h1, h2⟩ := h
  refine ⟨B, 0, rfl, lt_of_block h1, fun j hj => ?_⟩
  rw [Nat.zero_add]
  refine blk_cell h1 j ?_
  rw [← Array.getElem?_toList, h2, List.getElem?_map, List.getElem?_eq_getElem hj]
  rfl
theorem Blk3.ty {W : World} {B : Nat} {c : List Int} (h : Blk3 W B c) : Ty3 W (some ⟨B, 0, none⟩) := fun q hq => by
  cases hq; obtain ⟨cs, h1, _⟩ := h; exact ⟨cs, h1⟩
theorem Blk3.set {W : World} {B : Nat} {c : List Int} (h : Blk3 W B c) (p : Nat) (x : Int) : Blk3 (W.setCell ⟨B, p, none⟩ (.int .i64 x)) B (c.set p x) := by
  obtain ⟨cs, h1, h2⟩ := h
  exact ⟨_, blk_setCell h1, by rw [Array.toList_setIfInBounds, h2, List.map_set]⟩
theorem Blk3.free {W : World} {B : Nat} {c : List Int} (h : Blk3 W B c) (p : Nat) : W.frozen? ⟨B, p, none⟩ = false := by
  obtain ⟨cs, h1, _⟩ := h; exact blk_free h1
theorem Blk3.cell {W : World} {B : Nat} {c : List Int} (h : Blk3 W B c) (p : Nat) (hp : p < c.length) : ∃ v, W.cell? ⟨B, p, none⟩ = some v := by
  obtain ⟨cs, h1, h2⟩ := h
  refine ⟨.int .i64 c[p], blk_cell h1 p ?_⟩
  rw [← Array.getElem?_toList, h2, List.getElem?_map, List.getElem?_eq_getElem hp]
  rfl

set_option maxHeartbeats 2000000 in
set_option maxRecDepth 100000 in
theorem refCourses_any (a : Option Addr) (xs : List Lp) (cap d : Nat) (w : World) (hL : 1 ≤ xs.length ∧ xs.length ≤ 12) (hd : 1 ≤ d ∧ d ≤ 6) :
    Calls Try.prog 85 #[.slice a xs.length cap, .int .i64 d] w (OutSls w (extC xs.length d [] 0)) := by
  obtain ⟨i0, hi, hz0, hz1, hz2⟩ := info_parts Try.info27
  have hmk := mk27 d (by omega)
  have HA := Lib.hid (numC_all xs.length d (by omega) hd)
  have HP : Hid (∀ k, k ≤ d → 1 ≤ xs.length ^ k ∧ xs.length ^ k ≤ 2985984) := fun k hk => ⟨Nat.pow_pos (by omega), pow_le _ _ hL (by omega)⟩
  generalize hLn : xs.length = L at *
  go_enter Try.func85, Try.ntmps85
  go_wp2_with (fail)
  go_loop [5, 6] (fun v i => ∃ k x : Nat, k ≤ d ∧ i = .int .i64 k ∧ v = .int .i64 x ∧ Hid (x = L ^ k)) (fun _ i => d - (intOf i).toNat)
  case atStart => exact ⟨0, 1, Nat.zero_le _, rfl, rfl, rfl⟩
  case round =>
    obtain ⟨k, x, hk, rfl, rfl, hx⟩ := hrel
    by_cases hlt : k < d
    · have hb := HP.out k (by omega)
      have hb2 := HP.out (k + 1) (by omega)
      rw [Nat.pow_succ, ← hx.out] at hb2
      rw [← hx.out] at hb
      have hm : ((x : Int) * (L : Int)) = ((x * L : Nat) : Int) := by simp
      have hw : IntKind.i64.wrap ((x : Int) * (L : Int)) = ((x * L : Nat) : Int) := by rw [hm]; exact IntWalk.i64_in _ (by omega)
      have HX : Hid (x * L = L ^ (k + 1)) := by show _ = _; rw [Nat.pow_succ, hx.out]
      generalize x * L = y at hw HX
      clear hm hb hb2
      go_wp2_with (fail)
      go_round
      case rel => exact ⟨k + 1, y, by omega, by go_num, rfl, HX⟩
      case measure => simp [intOf]; omega
    · have hkd : k = d := by omega
      subst hkd
      have hb := HP.out k (Nat.le_refl _)
      rw [← hx.out] at hb HA
      clear hlt hk HP
      obtain ⟨hx1, hx2⟩ := hb
      go_wp2_with (fail)
      go_loopw [7, 8] (fun v7 nn wr => ∃ (n : Nat) (la : Option Addr) (lcap : Nat) (vals : List Value), v7 = .slice la vals.length lcap ∧ nn = .int .i64 n ∧ n ≤ x ∧ vals.length ≤ n ∧ Hid (wr.ownsRow w.heap.size 27 1 (.slice la vals.length lcap) vals.length vals ∧ Rows2 wr w.heap.size vals (numC L k n) ∧ Below w.heap.size w wr)) (fun _ nn _ => x - (intOf nn).toNat)
      case atStart => exact ⟨0, none, 0, [], rfl, rfl, Nat.zero_le _, Nat.le_refl _, World.ownsRow_nil _ _ _ _, Rows2.nil _ _, Below.refl _ _⟩
      case round =>
        obtain ⟨n, la, lcap, vals, rfl, rfl, hn, hvn, hI⟩ := hrel
        obtain ⟨V, hV⟩ : ∃ V, V = wr := ⟨_, rfl⟩
        subst hV
        by_cases hlt : n < x
        · go_wp2_with (fail)
          obtain ⟨Wa, hWa⟩ : ∃ Wa, V.alloc (.cells (Mc k) 3) = Wa := ⟨_, rfl⟩
          have HWa : Hid (Below V.heap.size V Wa ∧ Blk3 Wa V.heap.size (setC L k n k)) := by
            refine ⟨by rw [← hWa]; exact (Below.refl _ _).alloc (Nat.le_refl _) _, Mc k, by rw [← hWa]; exact heap_alloc_new _ _, ?_⟩
            rw [setC_start, Mc, toList_madeCells_one, List.map_replicate]
          rw [hWa]
          clear hWa
          go_loopw [10, 11] (fun rv iv W2 => ∃ (j q : Nat) (i : Int), rv = .int .i64 q ∧ iv = .int .i64 i ∧ i + 1 = j ∧ j ≤ k ∧ q ≤ n ∧ Hid (q = n / L ^ (k - j)) ∧ Hid (Below V.heap.size V W2 ∧ Blk3 W2 V.heap.size (setC L k n j))) (fun _ iv _ => (intOf iv + 1).toNat)
          case atStart => exact ⟨k, n, _, rfl, rfl, by omega, Nat.le_refl _, Nat.le_refl _, by show n = _; simp, HWa⟩
          case round =>
            obtain ⟨j, q, i, rfl, rfl, hij, hj, hq, hqn, hI2⟩ := hrel
            obtain ⟨W2, hV⟩ : ∃ W2, W2 = wr := ⟨_, rfl⟩
            subst hV
            by_cases hj0 : j = 0
            · subst hj0
              have hi1 : i = -1 := by omega
              subst hi1
              clear hij hqn hj HWa
              rw [setC_end] at hI2
              have HLI := listed_any a xs cap (some ⟨V.heap.size, 0, none⟩) (digs L k n) k W2 hI2.out.2.ints (by omega) (by rw [digs_len]; omega)
              rw [hLn, digs_len] at HLI
              have HB2 := Lib.hid (below_self hI.out.2.2 hI2.out.1)
              have HNS := Lib.hid (numC_succ L k n)
              cases hce : (courseE (L : Int) (digs L k n) == 0)
              · have HNS2 : Hid (numC L k (n + 1) = numC L k n) := by show _ = _; rw [HNS.out, hce]; simp
                clear HNS
                go_wp2_with (fail)
                refine HLI.mono ?_
                rintro e W3 ⟨rfl, hb3⟩
                have HB3 := Lib.hid (And.intro (below_self HB2.out hb3) (below_self hI2.out.1 hb3))
                clear hb3 HLI
                go_wp2_with (fail)
                clear hce
                go_roundw
                case rel =>
                  refine ⟨n + 1, la, lcap, vals, rfl, by go_num, by omega, by omega, ?_⟩
                  show _ ∧ _ ∧ _
                  rw [HNS2.out]
                  exact ⟨owns_same hI.out.1 (fun j _ h2 => HB3.out.2.block j h2), hI.out.2.1.same HB3.out.2.size (fun j _ h2 _ => HB3.out.2.block j h2), HB3.out.1⟩
                case measure => simp [intOf]; omega
              · have HNS2 : Hid (numC L k (n + 1) = numC L k n ++ [digs L k n]) := by show _ = _; rw [HNS.out, hce]; simp
                clear HNS
                go_wp2_with (fail)
                refine HLI.mono ?_
                rintro e W3 ⟨rfl, hb3⟩
                have HB3 := Lib.hid (And.intro (below_self HB2.out hb3) (And.intro (below_self hI2.out.1 hb3) hb3))
                clear hb3 HLI
                have hown3 : W3.ownsRow w.heap.size 27 1 (.slice la vals.length lcap) vals.length vals := owns_same hI.out.1 (fun j _ h2 => HB3.out.2.1.block j h2)
                have HO3 := Lib.hid hown3
                clear hown3
                go_wp2_with (at_builtin; refine wpList_append_own_at _ rfl _ _ 49 rfl w.heap.size 27 i0 (.slice none 0 0) 1 24 Try.underlying49 hi hz0 hz1 hz2 rfl (by decide) (.slice la vals.length lcap) vals.length vals rfl (HO3.out.alloc _) ⟨W3.heap.size, 0, none⟩ 1 1 [.slice (some ⟨V.heap.size, 0, none⟩) k k] rfl rfl (cell_one_new _ _ _) (by simp [Value.oneCell']) (by unfold maxLen; omega) (by omega) (by have := HB3.out.1.size; rw [World.size_alloc]; omega) ?_)
                intro v' W4 hown4 hgrow4 _ _
                obtain ⟨g', cap', rfl⟩ := ownsRow_succ hown4
                have hs1 : V.heap.size ≤ W3.heap.size := HB3.out.2.1.size
                have hsw : w.heap.size ≤ V.heap.size := hI.out.2.2.size
                have hs2 : W3.heap.size + 1 ≤ W4.heap.size := by have := hgrow4.size; simp at this; omega
                have hrow : ∀ j, (Value.slice la vals.length lcap).ownBlock = some j → w.heap.size ≤ j := fun j hj => (HO3.out.lt j hj).1
                have hB4 : Below w.heap.size w W4 := (HB3.out.1.alloc (by omega) _).grown hgrow4 (by simp; omega) (fun j hj => hrow j hj)
                have ne : ∀ j, (∃ cs, W3.heap[j]? = some (.cells cs 3 (0, 0))) → some j ≠ (Value.slice la vals.length lcap).ownBlock := fun j ⟨ds, hd⟩ e => by
                  rcases HO3.out.2 with ⟨h1, _⟩ | ⟨g2, cap2, cur2, h1, _, hg2, _⟩
                  · rw [h1] at e; simp [Value.ownBlock] at e
                  · rw [h1] at e; simp [Value.ownBlock] at e; subst e; rw [hd] at hg2; simp at hg2
                have hk4 : ∀ j, w.heap.size ≤ j → j < W3.heap.size → (∃ cs, W3.heap[j]? = some (.cells cs 3 (0, 0))) → W4.heap[j]? = W3.heap[j]? := fun j h1 h2 h3 => (hgrow4.block j (by simp; omega) (ne j h3)).trans (Below.heap_alloc _ _ _ h2)
                have R1 : Rows2 W3 w.heap.size vals (numC L k n) := hI.out.2.1.same hs1 (fun j _ h2 _ => HB3.out.2.1.block j h2)
                have i3 : IntSl W3 (some ⟨V.heap.size, 0, none⟩) (digs L k n) := hI2.out.2.ints.below HB3.out.2.2
                have t3 : Ty3 W3 (some ⟨V.heap.size, 0, none⟩) := hI2.out.2.ty.below HB3.out.2.2
                have hb : ∀ q, some (⟨V.heap.size, 0, none⟩ : Addr) = some q → q.block < W3.heap.size → W4.heap[q.block]? = W3.heap[q.block]? := fun q hq hl => by
                  cases hq; exact hk4 _ hsw hl (t3 _ rfl)
                have R2 := (R1.same (by omega) hk4).snoc (cap := k) (ints_same i3 (by omega) hb) (ty3_same t3 hb) (fun q hq => by cases hq; exact hsw)
                rw [digs_len] at R2
                have HF : Hid (W4.ownsRow w.heap.size 27 1 (Value.slice (some ⟨g', 0, none⟩) (vals.length + 1) cap') (vals.length + 1) (vals ++ [Value.slice (some ⟨V.heap.size, 0, none⟩) k k]) ∧ Rows2 W4 w.heap.size (vals ++ [Value.slice (some ⟨V.heap.size, 0, none⟩) k k]) (numC L k n ++ [digs L k n]) ∧ Below w.heap.size w W4) := ⟨hown4, R2, hB4⟩
                clear hs1 hsw hs2 hrow hB4 ne hk4 R1 i3 t3 hb R2 hown4 hgrow4 HO3
                go_wp2_with (fail)
                clear hce
                go_roundw
                case rel =>
                  refine ⟨n + 1, some ⟨g', 0, none⟩, cap', vals ++ [Value.slice (some ⟨V.heap.size, 0, none⟩) k k], by simp, by go_num, by omega, by simp; omega, ?_⟩
                  show _ ∧ _ ∧ _
                  rw [HNS2.out, show (vals ++ [Value.slice (some ⟨V.heap.size, 0, none⟩) k k]).length = vals.length + 1 by simp]
                  exact HF.out
                case measure => simp [intOf]; omega
            · obtain ⟨p, rfl⟩ : ∃ p, j = p + 1 := ⟨j - 1, by omega⟩
              have hip : i = (p : Int) := by omega
              subst hip
              clear hij hj0
              have hpk : p < k := by omega
              obtain ⟨cv, hcv⟩ := hI2.out.2.cell p (by rw [setC_len _ _ _ _ (by omega)]; exact hpk)
              have hfr := hI2.out.2.free p
              have hL0 : ((L : Int) == 0) = false := by simp; omega
              go_wp2_with (fail)
              go_roundw
              case rel =>
                have e1 : wrap64 ((q : Int) / (L : Int)) = ((q / L : Nat) : Int) := by
                  rw [← Int.natCast_ediv, ← IntWalk.i64_left]; exact IntWalk.i64_in _ (by have := Nat.div_le_self q L; generalize q / L = z at *; omega)
                have e2 : ((q : Int) % (L : Int)) = ((n / L ^ (k - (p + 1)) % L : Nat) : Int) := by rw [← hqn.out]; simp
                refine ⟨p, q / L, (p : Int) - 1, by rw [e1], rfl, by omega, by omega, Nat.le_trans (Nat.div_le_self _ _) hq, ?_, ?_⟩
                · show _ = _
                  rw [hqn.out, Nat.div_div_eq_div_mul, ← Nat.pow_succ, show (k - (p + 1)).succ = k - p by omega]
                · refine ⟨hI2.out.1.setCell (p := ⟨V.heap.size, p, none⟩) (Nat.le_refl _) _, ?_⟩
                  have := hI2.out.2.set p ((n / L ^ (k - (p + 1)) % L : Nat) : Int)
                  rw [setC_step _ _ _ _ hpk] at this
                  rw [e2]
                  exact this
              case measure => simp [intOf]
        · have hnx : n = x := by omega
          subst hnx
          go_wp2_with (fail)
          go_ret
          obtain ⟨a4, cap4, h5, h6⟩ := sls_of_owns hI.out.1 hI.out.2.1
          rw [HA.out] at h5 h6
          exact ⟨a4, cap4, by rw [← h5]; rfl, h6, hI.out.2.2⟩
end Go.Proofs.Ytpkegiekpnaejaa
