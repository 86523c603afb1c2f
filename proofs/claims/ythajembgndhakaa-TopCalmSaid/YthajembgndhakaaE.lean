/-
  The chances of states and how bad clicks are, over this seat's program: chances, bad, expected; Expected and Hit.
  What is proved: what each call returns, and that nothing that was there before it has turned.
  Conditions: valid ranges.
-/
import Derived.Test.YthajembgndhakaaD
import Derived.Test.YthajembgndhakaaBI
import Derived.Laws.CopyOwn
import Derived.Deep.RegionLaw
import Derived.Deep.CutBlock
import Derived.Laws.Tables
import Derived.Laws.Rows
namespace Go.Proofs.Ythajembgndhakaa
open Go.RowKit Go.Shelf
attribute [local go_sem] Oper.semAt_some

/-- The sum that a step adds to the chance of a state. -/
def chStep (F : List Int) (k s t : Nat) (x : Int) : List Int := F.set (5 * (k + 1) + t) (IntKind.i64.wrap (F[5 * (k + 1) + t]?.getD 0 + IntKind.i64.wrap (F[5 * k + s]?.getD 0 * x)))
def chT (F : List Int) (k s : Nat) (l : List Int) : Nat → List Int
  | 0 => F
  | t + 1 => chStep (chT F k s l t) k s t (l[t]?.getD 0)
def chS (F : List Int) (k : Nat) (nx : List (List Int)) : Nat → List Int
  | 0 => F
  | s + 1 => chT (chS F k nx s) k s (nx[s]?.getD []) (nx[s]?.getD []).length
def chK (F : List Int) (nx : List (List Int)) : Nat → List Int
  | 0 => F
  | k + 1 => chS (chK F nx k) k nx nx.length
def chF (r : Rg) : List Int := chK (r.first ++ List.replicate (25 - r.first.length) 0) r.next 4
theorem chStep_len (F : List Int) (k s t : Nat) (x : Int) : (chStep F k s t x).length = F.length := by simp [chStep]
theorem chT_len (F : List Int) (k s : Nat) (l : List Int) (t : Nat) : (chT F k s l t).length = F.length := by
  induction t with
  | zero => rfl
  | succ t ih => rw [chT, chStep_len, ih]
theorem chS_len (F : List Int) (k : Nat) (nx : List (List Int)) (s : Nat) : (chS F k nx s).length = F.length := by
  induction s with
  | zero => rfl
  | succ s ih => rw [chS, chT_len, ih]
theorem chK_len (F : List Int) (nx : List (List Int)) (k : Nat) : (chK F nx k).length = F.length := by
  induction k with
  | zero => rfl
  | succ k ih => rw [chK, chS_len, ih]

theorem list25 (F : List Int) (h : F.length = 25) : F = [F[0]?.getD 0, F[1]?.getD 0, F[2]?.getD 0, F[3]?.getD 0, F[4]?.getD 0, F[5]?.getD 0, F[6]?.getD 0, F[7]?.getD 0, F[8]?.getD 0, F[9]?.getD 0, F[10]?.getD 0, F[11]?.getD 0, F[12]?.getD 0, F[13]?.getD 0, F[14]?.getD 0, F[15]?.getD 0, F[16]?.getD 0, F[17]?.getD 0, F[18]?.getD 0, F[19]?.getD 0, F[20]?.getD 0, F[21]?.getD 0, F[22]?.getD 0, F[23]?.getD 0, F[24]?.getD 0] :=
  match F, h with
  | [_, _, _, _, _, _, _, _, _, _, _, _, _, _, _, _, _, _, _, _, _, _, _, _, _], _ => rfl

/-- The table of chances, as it lies in a world. -/
structure ChAt (w : World) (R : Rv) (B : Nat) (F : List Int) (W : World) : Prop where
  wk : WkAt W R B
  b : Below w.heap.size w W
  t : W.heap[w.heap.size + 1]? = some (.cells (F.map (Value.int .i64)).toArray 73 (0, 0))
  len : F.length = 25
  res : W.heap[w.heap.size]? = some (.cells (List.replicate 25 (Value.int .i64 0)).toArray 73 (0, 0))
theorem ch_cell {w W : World} {R : Rv} {B : Nat} {F : List Int} (h : ChAt w R B F W) (i : Nat) (hi : i < 25) : W.cell? ⟨w.heap.size + 1, i, none⟩ = some (.int .i64 (F[i]?.getD 0)) :=
  blk_cell h.t i (by simp [h.len, hi])
theorem ChAt.set {w W : World} {R : Rv} {B : Nat} {F : List Int} (h : ChAt w R B F W) (hw : WkAt w R B) (i : Nat) (x : Int) : ChAt w R B (F.set i x) (W.setCell ⟨w.heap.size + 1, i, none⟩ (.int .i64 x)) := by
  have hb : Below w.heap.size w (W.setCell ⟨w.heap.size + 1, i, none⟩ (.int .i64 x)) := h.b.setCell (by show w.heap.size ≤ w.heap.size + 1; omega) _
  exact ⟨hw.below hb, hb, by rw [blk_setCell h.t, List.map_set]; simp, by rw [List.length_set]; exact h.len, blk_other h.res (by omega)⟩
theorem ChAt.drew {w W : World} {R : Rv} {B : Nat} {F : List Int} (h : ChAt w R B F W) : ChAt w R B F W.drew := ⟨h.wk.below (Below.refl _ _).drew, h.b.drew, h.t, h.len, h.res⟩

set_option maxHeartbeats 4000000 in
theorem chances_any (R : Rv) (B : Nat) (w : World) (hw : WkAt w R B) (ok : RgOk R.r) : Calls Try.prog 32 #[.pointer (some ⟨B, 0, none⟩)] w fun e w' => e = .returned (.agg ((chF R.r).map (Value.int .i64)).toArray) ∧ Below w.heap.size w w' := by
  have hBlt := lt_of_block hw.b
  obtain ⟨W0, hW0⟩ : ∃ W0, (w.alloc (.cells #[.int .i64 0, .int .i64 0, .int .i64 0, .int .i64 0, .int .i64 0, .int .i64 0, .int .i64 0, .int .i64 0, .int .i64 0, .int .i64 0, .int .i64 0, .int .i64 0, .int .i64 0, .int .i64 0, .int .i64 0, .int .i64 0, .int .i64 0, .int .i64 0, .int .i64 0, .int .i64 0, .int .i64 0, .int .i64 0, .int .i64 0, .int .i64 0, .int .i64 0] 73)).alloc (.cells #[.int .i64 0, .int .i64 0, .int .i64 0, .int .i64 0, .int .i64 0, .int .i64 0, .int .i64 0, .int .i64 0, .int .i64 0, .int .i64 0, .int .i64 0, .int .i64 0, .int .i64 0, .int .i64 0, .int .i64 0, .int .i64 0, .int .i64 0, .int .i64 0, .int .i64 0, .int .i64 0, .int .i64 0, .int .i64 0, .int .i64 0, .int .i64 0, .int .i64 0] 73) = W0 := ⟨_, rfl⟩
  have h0 : Below w.heap.size w W0 := by rw [← hW0]; exact (alloc1 w _).alloc (by simp) _
  have hz1 : W0.heap[w.heap.size + 1]? = some (.cells (List.replicate 25 (Value.int .i64 0)).toArray 73 (0, 0)) := by
    rw [← hW0]; have := heap_alloc_new (w.alloc (.cells #[.int .i64 0, .int .i64 0, .int .i64 0, .int .i64 0, .int .i64 0, .int .i64 0, .int .i64 0, .int .i64 0, .int .i64 0, .int .i64 0, .int .i64 0, .int .i64 0, .int .i64 0, .int .i64 0, .int .i64 0, .int .i64 0, .int .i64 0, .int .i64 0, .int .i64 0, .int .i64 0, .int .i64 0, .int .i64 0, .int .i64 0, .int .i64 0, .int .i64 0] 73)) (.cells #[.int .i64 0, .int .i64 0, .int .i64 0, .int .i64 0, .int .i64 0, .int .i64 0, .int .i64 0, .int .i64 0, .int .i64 0, .int .i64 0, .int .i64 0, .int .i64 0, .int .i64 0, .int .i64 0, .int .i64 0, .int .i64 0, .int .i64 0, .int .i64 0, .int .i64 0, .int .i64 0, .int .i64 0, .int .i64 0, .int .i64 0, .int .i64 0, .int .i64 0] 73); simpa using this
  have hz0 : W0.heap[w.heap.size]? = some (.cells (List.replicate 25 (Value.int .i64 0)).toArray 73 (0, 0)) := by
    rw [← hW0]; exact (Below.heap_alloc _ _ _ (by simp)).trans (heap_alloc_new w _)
  have HW : Hid (WkAt W0 R B) := hw.below h0
  have HWw := Lib.hid hw
  have c6 := blk_cell HW.out.b 6 rfl
  have HZ := Lib.hid hz1
  have HZ0 := Lib.hid hz0
  have H0 := Lib.hid h0
  have HO := Lib.hid ok
  have HCn : Hid ((R.r.first.map (Value.int .i64)).length = Nat.min R.r.first.length 5) := by show _ = _; rw [List.length_map]; have := ok.flen; have := ok.dlen; exact (Nat.min_eq_left (by omega)).symm
  have HCf : Hid (0 + (R.r.first.map (Value.int .i64)).length ≤ (List.replicate 25 (Value.int .i64 0)).length) := by show _ ≤ _; rw [List.length_map, List.length_replicate]; have := ok.flen; have := ok.dlen; omega
  have HC1 : Hid (∀ v ∈ R.r.first.map (Value.int .i64), v.oneCell' = true) := fun v hv => by obtain ⟨x, _, rfl⟩ := List.mem_map.1 hv; rfl
  have HCp : Hid (0 < (R.r.first.map (Value.int .i64)).length → ∃ ad, R.af = some ad ∧ ∀ j v, (R.r.first.map (Value.int .i64))[j]? = some v → W0.drew.cell? (ad.add j) = some v) := fun h => by
    rw [List.length_map] at h
    obtain ⟨b, off, ha, hbs, hc⟩ := HW.out.at'.f h
    refine ⟨_, ha, fun j v hv => ?_⟩
    rw [List.getElem?_map] at hv
    rcases Nat.lt_or_ge j R.r.first.length with hj | hj
    · have e : (⟨b, off, none⟩ : Addr).add j = ⟨b, off + j, none⟩ := by unfold Addr.add; split <;> simp_all
      rw [List.getElem?_eq_getElem hj] at hv
      rw [e]
      have := hc j hj
      rw [List.getElem?_eq_getElem hj] at this
      exact this.trans hv
    · rw [List.getElem?_eq_none hj] at hv; cases hv
  clear hw hz1 hz0 h0 ok
  go_enter Try.func32, Try.ntmps32
  go_wp2_with (fail)
  clear hW0
  go_region_law (refine step_copy_splice rfl (.tmp 10) (.tmp 15) 27 27 rfl 3 Try.underlying27 (by kernel_rfl) (some ⟨w.heap.size + 1, 0, none⟩) R.af 5 5 R.r.first.length R.cf rfl rfl (w.heap.size + 1) 0 (List.replicate 25 (Value.int .i64 0)) 73 HZ.out (R.r.first.map (Value.int .i64)) HCn.out (fun h => ⟨rfl, HCp.out h⟩) HCf.out HC1.out (w.heap.size + 1) W0 ((Below.refl _ _).drew) (Nat.le_refl _) ?_; intro w4 hg4 hb4)
  have hF : Hid (ChAt w R B (R.r.first ++ List.replicate (25 - R.r.first.length) 0) w4) := by
    have hb : Below w.heap.size w w4 := H0.out.trans (hb4.mono (by omega))
    refine ⟨HWw.out.below hb, hb, ?_, ?_, (hb4.block _ (by omega)).trans HZ0.out⟩
    · rw [hg4.out]
      have h5 : R.r.first.length ≤ 5 := by have := HO.out.flen; have := HO.out.dlen; omega
      simp only [splice, List.take_zero, List.nil_append, Nat.zero_add, List.length_map, List.drop_replicate, List.map_append, List.map_replicate]
    · have h5 : R.r.first.length ≤ 5 := by have := HO.out.flen; have := HO.out.dlen; omega
      simp; omega
  clear hg4 hb4 HZ HZ0 H0 HW c6 HCn HCp HCf HC1
  have hnl : R.r.next.length ≤ 5 := by have := HO.out.nlen; have := HO.out.dlen; omega
  go_wp2_with (fail)
  generalize hF0 : R.r.first ++ List.replicate (25 - R.r.first.length) 0 = F0 at hF
  have HF0 := Lib.hid hF0
  clear hF0
  go_loopw [17] (fun i wr => ∃ k : Nat, k ≤ 4 ∧ i = .int .i64 k ∧ Hid (ChAt w R B (chK F0 R.r.next k) wr)) (fun i _ => 4 - (intOf i).toNat)
  case atStart => exact ⟨0, Nat.zero_le _, rfl, hF⟩
  case round =>
    obtain ⟨k, hk, rfl, hC⟩ := hrel
    by_cases hlt : k < 4
    · have g4 : decide ((k : Int) < 4) = true := decide_eq_true (by omega)
      have c7 := blk_cell hC.out.wk.b 7 rfl
      go_wp2_with (fail)
      clear c7
      go_loopw [26] (fun i wr => ∃ s : Nat, s ≤ R.r.next.length ∧ i = .int .i64 s ∧ Hid (ChAt w R B (chS (chK F0 R.r.next k) k R.r.next s) wr)) (fun i _ => R.r.next.length - (intOf i).toNat)
      case atStart => exact ⟨0, Nat.zero_le _, rfl, hC⟩
      case round =>
        obtain ⟨s, hs, rfl, hC2⟩ := hrel
        by_cases hlt2 : s < R.r.next.length
        · obtain ⟨b, off, han, hbs, hcc⟩ := HWw.out.at'.n (by omega)
          obtain ⟨al, cl, hl1, hl2⟩ := hcc s R.r.next[s] (List.getElem?_eq_getElem hlt2)
          have hll : R.r.next[s].length ≤ 5 := by have := HO.out.nlens _ (List.getElem_mem hlt2); have := HO.out.dlen; omega
          have HGl : Hid (R.r.next[s]?.getD [] = R.r.next[s]) := by show _ = _; rw [List.getElem?_eq_getElem hlt2]; rfl
          have hl3 := (hC2.out.b.cell (p := ⟨b, off + s, none⟩) hbs).trans hl1
          rw [han]
          clear hcc han hl1
          go_wp2_with (fail)
          go_loopw [33] (fun i wr => ∃ t : Nat, t ≤ R.r.next[s].length ∧ i = .int .i64 t ∧ Hid (ChAt w R B (chT (chS (chK F0 R.r.next k) k R.r.next s) k s R.r.next[s] t) wr)) (fun i _ => R.r.next[s].length - (intOf i).toNat)
          case atStart => exact ⟨0, Nat.zero_le _, rfl, hC2⟩
          case round =>
            obtain ⟨t, ht, rfl, hC3⟩ := hrel
            by_cases hlt3 : t < R.r.next[s].length
            · obtain ⟨b3, off3, hal, hbs3, hc3⟩ := hl2 (by omega)
              have hck := (hC3.out.b.cell (p := ⟨b3, off3 + t, none⟩) hbs3).trans ((hc3 t hlt3).trans (by rw [List.getElem?_eq_getElem hlt3]; rfl : _ = some (.int .i64 R.r.next[s][t])))
              rw [hal]
              have q1 : IntKind.i64.wrap ((k : Int) + 1) = (k : Int) + 1 := IntWalk.i64_in _ (by omega)
              go_wp2_with (fail)
              have gk1 : (k : Int) + 1 < 5 := by omega
              have gk0 : (0 : Int) ≤ (k : Int) + 1 := by omega
              have gs1 : (s : Int) < 5 := by omega
              have gt1 : (t : Int) < 5 := by omega
              have gk2 : (k : Int) < 5 := by omega
              have e1 := ch_cell hC3.out ((k + 1) * 5 + t) (by omega)
              have e2 := ch_cell hC3.out (k * 5 + s) (by omega)
              generalize hF1 : chT (chS (chK F0 R.r.next k) k R.r.next s) k s R.r.next[s] t = F1 at hC3 e1 e2
              obtain ⟨p1, hp1⟩ : ∃ p1, F1[(k + 1) * 5 + t]?.getD 0 = p1 := ⟨_, rfl⟩
              obtain ⟨p2, hp2⟩ : ∃ p2, F1[k * 5 + s]?.getD 0 = p2 := ⟨_, rfl⟩
              rw [hp1] at e1
              rw [hp2] at e2
              generalize hx : R.r.next[s][t] = x
              obtain ⟨p3, hp3⟩ : ∃ p3, IntKind.i64.wrap (p2 * x) = p3 := ⟨_, rfl⟩
              obtain ⟨p4, hp4⟩ : ∃ p4, IntKind.i64.wrap (p1 + p3) = p4 := ⟨_, rfl⟩
              have HQ := Lib.hid (And.intro hF1 (And.intro hp1 (And.intro hp2 (And.intro hx (And.intro hp3 hp4)))))
              clear hF1 hp1 hp2 hx
              have HS0 := Lib.hid ((⟨e1, e2⟩ : wr.drew.cell? ⟨w.heap.size + 1, (k + 1) * 5 + t, none⟩ = some (.int .i64 p1) ∧ wr.drew.cell? ⟨w.heap.size + 1, k * 5 + s, none⟩ = some (.int .i64 p2)))
              refine wp_region_split (S := fun w' => w'.cell? ⟨w.heap.size + 1, (k + 1) * 5 + t, none⟩ = some (.int .i64 p1) ∧ w'.cell? ⟨w.heap.size + 1, k * 5 + s, none⟩ = some (.int .i64 p2)) [16] 16 (by kernel_rfl) (by kernel_rfl) rfl ?_
              rw [show firstL _ [16] = #[false, false, false, false, false, false, false, false, false, false, false, false, false, false, false, false, true] from by kernel_rfl]
              refine wpAnyH_take (i := 0) (v := ?v0_1) rfl (by kernel_rfl) (by kernel_rfl) (by kernel_rfl) (fun _ _ _ h => h) (Or.inl ⟨by rfl, ?h0_1⟩) HS0.out ?r0_1
              case h0_1 => (intro W hSw; have u1 := hSw.1; have u2 := hSw.2; clear hSw; go_simp; try with_reducible rfl)
              simp only [Act.put, List.getElem_toArray, List.getElem_cons_zero, List.setIfInBounds_toArray, List.set_cons_zero, List.set_cons_succ]
              refine wpAnyH_take (i := 1) (v := ?v1_2) rfl (by kernel_rfl) (by kernel_rfl) (by kernel_rfl) (fun _ _ _ h => h) (Or.inl ⟨by rfl, ?h1_2⟩) HS0.out ?r1_2
              case h1_2 => (intro W hSw; have u1 := hSw.1; have u2 := hSw.2; clear hSw; go_simp; try with_reducible rfl)
              simp only [Act.put, List.getElem_toArray, List.getElem_cons_succ, List.getElem_cons_zero, List.setIfInBounds_toArray, List.set_cons_zero, List.set_cons_succ]
              refine wpAnyH_take (i := 2) (v := ?v2_3) rfl (by kernel_rfl) (by kernel_rfl) (by kernel_rfl) (fun _ _ _ h => h) (Or.inl ⟨by rfl, ?h2_3⟩) HS0.out ?r2_3
              case h2_3 => (intro W hSw; have u1 := hSw.1; have u2 := hSw.2; clear hSw; go_simp; try with_reducible rfl)
              simp only [Act.put, List.getElem_toArray, List.getElem_cons_succ, List.getElem_cons_zero, List.setIfInBounds_toArray, List.set_cons_zero, List.set_cons_succ]
              refine wpAnyH_take (i := 3) (v := ?v3_4) rfl (by kernel_rfl) (by kernel_rfl) (by kernel_rfl) (fun _ _ _ h => h) (Or.inl ⟨by rfl, ?h3_4⟩) HS0.out ?r3_4
              case h3_4 => (intro W hSw; have u1 := hSw.1; have u2 := hSw.2; clear hSw; go_simp; try with_reducible rfl)
              simp only [Act.put, List.getElem_toArray, List.getElem_cons_succ, List.getElem_cons_zero, List.setIfInBounds_toArray, List.set_cons_zero, List.set_cons_succ]
              refine wpAnyH_take (i := 4) (v := ?v4_5) rfl (by kernel_rfl) (by kernel_rfl) (by kernel_rfl) (fun _ _ _ h => h) (Or.inl ⟨by rfl, ?h4_5⟩) HS0.out ?r4_5
              case h4_5 => (intro W hSw; have u1 := hSw.1; have u2 := hSw.2; clear hSw; go_simp; try with_reducible rfl)
              simp only [Act.put, List.getElem_toArray, List.getElem_cons_succ, List.getElem_cons_zero, List.setIfInBounds_toArray, List.set_cons_zero, List.set_cons_succ]
              refine wpAnyH_take (i := 5) (v := ?v5_6) rfl (by kernel_rfl) (by kernel_rfl) (by kernel_rfl) (fun _ _ _ h => h) (Or.inl ⟨by rfl, ?h5_6⟩) HS0.out ?r5_6
              case h5_6 => (intro W hSw; have u1 := hSw.1; have u2 := hSw.2; clear hSw; go_simp; try with_reducible rfl)
              simp only [Act.put, List.getElem_toArray, List.getElem_cons_succ, List.getElem_cons_zero, List.setIfInBounds_toArray, List.set_cons_zero, List.set_cons_succ]
              refine wpAnyH_take (i := 6) (v := ?v6_7) rfl (by kernel_rfl) (by kernel_rfl) (by kernel_rfl) (fun _ _ _ h => h) (Or.inl ⟨by rfl, ?h6_7⟩) HS0.out ?r6_7
              case h6_7 => (intro W hSw; have u1 := hSw.1; have u2 := hSw.2; clear hSw; go_simp; try with_reducible rfl)
              simp only [Act.put, List.getElem_toArray, List.getElem_cons_succ, List.getElem_cons_zero, List.setIfInBounds_toArray, List.set_cons_zero, List.set_cons_succ]
              refine wpAnyH_take (i := 7) (v := ?v7_8) rfl (by kernel_rfl) (by kernel_rfl) (by kernel_rfl) (fun _ _ _ h => h) (Or.inl ⟨by rfl, ?h7_8⟩) HS0.out ?r7_8
              case h7_8 => (intro W hSw; have u1 := hSw.1; have u2 := hSw.2; clear hSw; go_simp; try with_reducible rfl)
              simp only [Act.put, List.getElem_toArray, List.getElem_cons_succ, List.getElem_cons_zero, List.setIfInBounds_toArray, List.set_cons_zero, List.set_cons_succ]
              refine wpAnyH_take (i := 8) (v := ?v8_9) rfl (by kernel_rfl) (by kernel_rfl) (by kernel_rfl) (fun _ _ _ h => h) (Or.inl ⟨by rfl, ?h8_9⟩) HS0.out ?r8_9
              case h8_9 => (intro W hSw; have u1 := hSw.1; have u2 := hSw.2; clear hSw; go_simp; try with_reducible rfl)
              simp only [Act.put, List.getElem_toArray, List.getElem_cons_succ, List.getElem_cons_zero, List.setIfInBounds_toArray, List.set_cons_zero, List.set_cons_succ]
              refine wpAnyH_take (i := 9) (v := ?v9_10) rfl (by kernel_rfl) (by kernel_rfl) (by kernel_rfl) (fun _ _ _ h => h) (Or.inl ⟨by rfl, ?h9_10⟩) HS0.out ?r9_10
              case h9_10 => (intro W hSw; have u1 := hSw.1; have u2 := hSw.2; clear hSw; go_simp; try with_reducible rfl)
              simp only [Act.put, List.getElem_toArray, List.getElem_cons_succ, List.getElem_cons_zero, List.setIfInBounds_toArray, List.set_cons_zero, List.set_cons_succ]
              refine wpAnyH_take (i := 10) (v := ?v10_11) rfl (by kernel_rfl) (by kernel_rfl) (by kernel_rfl) (fun _ _ _ h => h) (Or.inl ⟨by rfl, ?h10_11⟩) HS0.out ?r10_11
              case h10_11 => (intro W hSw; have u1 := hSw.1; have u2 := hSw.2; clear hSw; go_simp; try with_reducible rfl)
              simp only [Act.put, List.getElem_toArray, List.getElem_cons_succ, List.getElem_cons_zero, List.setIfInBounds_toArray, List.set_cons_zero, List.set_cons_succ]
              refine wpAnyH_take (i := 11) (v := ?v11_12) rfl (by kernel_rfl) (by kernel_rfl) (by kernel_rfl) (fun _ _ _ h => h) (Or.inl ⟨by rfl, ?h11_12⟩) HS0.out ?r11_12
              case h11_12 => (intro W hSw; have u1 := hSw.1; have u2 := hSw.2; clear hSw; go_simp; try with_reducible rfl)
              simp only [Act.put, List.getElem_toArray, List.getElem_cons_succ, List.getElem_cons_zero, List.setIfInBounds_toArray, List.set_cons_zero, List.set_cons_succ]
              refine wpAnyH_take (i := 12) (v := ?v12_13) rfl (by kernel_rfl) (by kernel_rfl) (by kernel_rfl) (fun _ _ _ h => h) (Or.inl ⟨by rfl, ?h12_13⟩) HS0.out ?r12_13
              case h12_13 => (intro W hSw; have u1 := hSw.1; have u2 := hSw.2; clear hSw; go_simp; try with_reducible rfl)
              simp only [Act.put, List.getElem_toArray, List.getElem_cons_succ, List.getElem_cons_zero, List.setIfInBounds_toArray, List.set_cons_zero, List.set_cons_succ]
              refine wpAnyH_take (i := 13) (v := ?v13_14) rfl (by kernel_rfl) (by kernel_rfl) (by kernel_rfl) (fun _ _ _ h => h) (Or.inl ⟨by rfl, ?h13_14⟩) HS0.out ?r13_14
              case h13_14 => (intro W hSw; have u1 := hSw.1; have u2 := hSw.2; clear hSw; go_simp; try with_reducible rfl)
              simp only [Act.put, List.getElem_toArray, List.getElem_cons_succ, List.getElem_cons_zero, List.setIfInBounds_toArray, List.set_cons_zero, List.set_cons_succ]
              refine wpAnyH_take (i := 14) (v := ?v14_15) rfl (by kernel_rfl) (by kernel_rfl) (by kernel_rfl) (fun _ _ _ h => h) (Or.inl ⟨by rfl, ?h14_15⟩) HS0.out ?r14_15
              case h14_15 => (intro W hSw; have u1 := hSw.1; have u2 := hSw.2; clear hSw; go_simp; try with_reducible rfl)
              simp only [Act.put, List.getElem_toArray, List.getElem_cons_succ, List.getElem_cons_zero, List.setIfInBounds_toArray, List.set_cons_zero, List.set_cons_succ]
              refine wpAnyH_take (i := 15) (v := ?v15_16) rfl (by kernel_rfl) (by kernel_rfl) (by kernel_rfl) (fun _ _ _ h => h) (Or.inl ⟨by rfl, ?h15_16⟩) HS0.out ?r15_16
              case h15_16 => (intro W hSw; have u1 := hSw.1; have u2 := hSw.2; clear hSw; go_simp; try with_reducible rfl)
              simp only [Act.put, List.getElem_toArray, List.getElem_cons_succ, List.getElem_cons_zero, List.setIfInBounds_toArray, List.set_cons_zero, List.set_cons_succ]
              refine wpAnyH_done (by kernel_rfl) ?_ _
              show wpList _ _ _ (opsAt _ [16]) _ _
              simp only [opsAt, List.filterMap_cons, List.filterMap_nil, List.getElem?_toArray, List.getElem?_cons_succ, List.getElem?_cons_zero]

              have f1 := blk_free (j := (k + 1) * 5 + t) hC3.out.t
              have HN : Hid (ChAt w R B (chT (chS (chK F0 R.r.next k) k R.r.next s) k s R.r.next[s] (t + 1)) (wr.setCell ⟨w.heap.size + 1, (k + 1) * 5 + t, none⟩ (.int .i64 p4))) := by
                have e : chT (chS (chK F0 R.r.next k) k R.r.next s) k s R.r.next[s] (t + 1) = F1.set ((k + 1) * 5 + t) p4 := by
                  rw [chT, HQ.out.1, chStep, Nat.mul_comm 5 (k + 1), Nat.mul_comm 5 k, HQ.out.2.1, HQ.out.2.2.1, List.getElem?_eq_getElem hlt3]
                  show F1.set _ (IntKind.i64.wrap (p1 + IntKind.i64.wrap (p2 * R.r.next[s][t]))) = _
                  rw [HQ.out.2.2.2.1, HQ.out.2.2.2.2.1, HQ.out.2.2.2.2.2]
                rw [e]; exact hC3.out.set HWw.out _ _
              clear hp3 hp4 hck gk1 gk0 gs1 gt1 gk2 HS0 hC3 HQ hl3
              go_wp2_with (fail)
              clear e1 e2 f1
              go_roundw
              case rel => exact ⟨t + 1, by omega, by go_num, HN.out.drew⟩
              case measure => first | (simp [intOf]; done) | (simp [intOf]; omega)
            · have : t = R.r.next[s].length := by omega
              subst this
              go_wp2_with (fail)
              go_roundw
              case rel => exact ⟨s + 1, by omega, by go_num, by rw [chS, HGl.out]; exact hC3.out⟩
              case measure => first | (simp [intOf]; done) | (simp [intOf]; omega)
        · have : s = R.r.next.length := by omega
          subst this
          go_wp2_with (fail)
          go_roundw
          case rel => exact ⟨k + 1, by omega, by go_num, by rw [chK]; exact hC2.out⟩
          case measure => first | (simp [intOf]; done) | (simp [intOf]; omega)
    · have : k = 4 := by omega
      subst this
      generalize hF1 : chK F0 R.r.next 4 = F1 at hC
      have HG : Hid (F1 = chF R.r) := by show _ = _; rw [← hF1, ← HF0.out]; rfl
      clear hF1 HF0 hk hlt
      have hia : (Try.prog.info? 73).map (·.size) = some ((F1.map (Value.int .i64)).toArray).size := by
        rw [List.size_toArray, List.length_map, hC.out.len]; kernel_rfl
      have hu : Try.prog.underlying 73 = some (.array 5 72) := by kernel_rfl
      have hh1 : ((F1.map (Value.int .i64)).toArray).all (·.oneCell') = true := by
        rw [Array.all_eq_true_iff_forall_mem]
        intro v hv
        simp at hv
        obtain ⟨x, _, rfl⟩ := hv
        rfl
      have hsz : (List.replicate 25 (Value.int .i64 0)).toArray.size = ((F1.map (Value.int .i64)).toArray).size := by
        rw [List.size_toArray, List.length_replicate, List.size_toArray, List.length_map, hC.out.len]
      have hz := setRow_heap wr w.heap.size _ ((F1.map (Value.int .i64)).toArray) 73 _ hC.out.res
      have hbz : Below w.heap.size w (wr.setRow w.heap.size ((F1.map (Value.int .i64)).toArray)) := below_setRow hC.out.b (Nat.le_refl _) _
      have HH := Lib.hid (And.intro hia (And.intro hu (And.intro hh1 (And.intro hsz (And.intro hz hbz)))))
      clear hia hu hh1 hsz hz hbz
      go_wp2_with (first | (refine wpList_load_row rfl 73 (.tmp 3) rfl (w.heap.size + 1) rfl 73 _ (0, 0) (.array 5 72) hC.out.t HH.out.2.1 rfl HH.out.1 ?_) | (refine wpList_store_row rfl 73 (.tmp 2) (.tmp 57) rfl w.heap.size _ rfl rfl 73 _ hC.out.res HH.out.1 HH.out.2.2.2.1 HH.out.2.2.1 ?_))
      exact bodyPost_ret (results_cell_row Try.results32 _ _ w.heap.size 73 _ (0, 0) (.array 5 72) rfl HH.out.2.2.2.2.1 HH.out.2.1 rfl HH.out.1) rfl ⟨by rw [← HG.out], HH.out.2.2.2.2.2⟩
end Go.Proofs.Ythajembgndhakaa
