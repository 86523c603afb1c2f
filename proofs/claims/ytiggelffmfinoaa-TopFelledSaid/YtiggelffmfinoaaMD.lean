/-
  Made of the wind's laws, over this seat's program.
  What is proved: the range that it deals is valid, within its bounds; only the deck has turned of what was there before.
  Conditions: at most 5 states, 6 clicks, 5 weights a side; a deck that has dealt at most 500 times.
-/
import Derived.Test.YtiggelffmfinoaaMC
import Derived.Test.YtiggelffmfinoaaBI
import Derived.Deep.CutBlock
namespace Go.Proofs.Ytiggelffmfinoaa
open Go.RowKit Go.Shelf
attribute [local go_sem] Oper.semAt_some

set_option maxRecDepth 100000 in
set_option maxHeartbeats 20000000 in
theorem Made_any (B L : Nat) (a : Option Addr) (n cap k st cl sd : Nat) (w : World) (hd : Deck w B L a n cap k) (hk : k ≤ 500) (hst : 1 ≤ st ∧ st ≤ 5) (hcl : cl ≤ 5) (hsd : sd ≤ 5) :
    Calls Try.prog 4 #[.pointer (some ⟨B, 0, none⟩), .int .i64 (st : Int), .int .i64 (cl : Int), .int .i64 (sd : Int)] w fun e w' => ∃ R : Rv, e = .returned R.v ∧ RgAt w' R ∧ MadeOk st cl sd R.r ∧ Deck w' B L a n cap (k + 100) ∧ Apart (fun j => j = B) w w' := by
  have hBL := hd.lt
  have p1 : IntKind.i64.wrap ((cl : Int) + 1) = (cl : Int) + 1 := IntWalk.i64_in _ (by omega)
  have p2 : IntKind.i64.wrap ((sd : Int) + 1) = (sd : Int) + 1 := IntWalk.i64_in _ (by omega)
  have H0 := Lib.hid (And.intro (hd.below (alloc1 w (.cells Z8 26))) (Apart.refl (fun j => j = B) (w.alloc (.cells Z8 26))))
  clear hd
  obtain ⟨i0, hi, hz0, hz1, hz2⟩ := info_parts Try.info3
  obtain ⟨j0, ji, jz0, jz1, jz2⟩ := info_parts Try.info23
  go_enter Try.func4, Try.ntmps4
  go_wp2_with (fail)
  refine (between_any B L a n cap k 1 12 _ H0.out.1 (by omega) (by omega)).mono ?_
  rintro e w1 ⟨⟨r1, rfl, hr1⟩, hD, hA⟩
  have H1 := Lib.hid (And.intro hD (H0.out.2.trans hA))
  clear hD hA
  go_wp2_with (fail)
  refine (between_any B L a n cap (k + 1) 1 5 _ H1.out.1 (by omega) (by omega)).mono ?_
  rintro e w2 ⟨⟨r2, rfl, hr2⟩, hD, hA⟩
  have H2 := Lib.hid (And.intro hD (H1.out.2.trans hA))
  clear hD hA
  go_wp2_with (fail)
  refine (draw_any B L a n cap (k + 2) ((cl : Int) + 1) _ H2.out.1 (by omega) (by omega)).mono ?_
  rintro e w3 ⟨⟨r3, rfl, hr3⟩, hD, hA⟩
  have H3 := Lib.hid (And.intro hD (H2.out.2.trans hA))
  clear hD hA
  go_wp2_with (fail)
  refine (between_any B L a n cap (k + 3) 1 6 _ H3.out.1 (by omega) (by omega)).mono ?_
  rintro e w4 ⟨⟨r4, rfl, hr4⟩, hD, hA⟩
  have H4 := Lib.hid (And.intro hD (H3.out.2.trans hA))
  clear hD hA
  have hr3' : 0 ≤ r3 ∧ r3 ≤ cl := by omega
  obtain ⟨cc, rfl⟩ := Int.eq_ofNat_of_zero_le hr3'.1
  obtain ⟨T, rfl⟩ : ∃ T : Nat, r4 = (T : Int) := Int.eq_ofNat_of_zero_le (by omega)
  obtain ⟨W5, hW5⟩ : ∃ W5, w4.alloc (.cells #[.int .i64 r1, .int .i64 r2, .int .i64 (cc : Int), .int .i64 (T : Int), .slice none 0 0, .slice none 0 0, .slice none 0 0, .slice none 0 0] 26) = W5 := ⟨_, rfl⟩
  have hsz : w.heap.size < w4.heap.size := by have := H4.out.2.size; rw [World.size_alloc] at this; omega
  obtain ⟨bx, hbx⟩ : ∃ bx, w4.heap.size = bx := ⟨_, rfl⟩
  have hM : MD w B L a n cap (k + 4) bx Z8 #[.int .i64 r1, .int .i64 r2, .int .i64 (cc : Int), .int .i64 (T : Int), .slice none 0 0, .slice none 0 0, .slice none 0 0, .slice none 0 0] W5 := by
    rw [← hW5, ← hbx]
    exact ⟨H4.out.1.below (alloc1 w4 _), (Apart.of_below (alloc1 w _)).trans (H4.out.2.trans (Apart.of_below (alloc1 w4 _))), blk_below ((H4.out.2.block _ (by simp) (by show ¬ (_ = _); omega)).trans (heap_alloc_new w _)) (alloc1 w4 _), heap_alloc_new w4 _, hsz, hBL.2⟩
  have HM := Lib.hid hM
  clear H0 H1 H2 H3 H4 hM hsz hr3
  have HXW := Lib.hid hW5
  clear hW5
  go_upto_region 2 with (fail)
  rw [HXW.out]
  clear HXW
  clear hbx
  go_wp2_with (fail)
  refine (draw_any B L a n cap (k + 4) ((sd : Int) + 1) W5 HM.out.deck (by omega) (by omega)).mono ?_
  rintro e W6 ⟨⟨r5, rfl, hr5⟩, hD, hA⟩
  have HM6 := Lib.hid (HM.out.draw hD hA)
  clear hD hA HM
  obtain ⟨q, rfl⟩ := Int.eq_ofNat_of_zero_le hr5.1
  have hq : q ≤ sd := by omega
  obtain ⟨m, hm⟩ : ∃ m, 2 * q + 1 = m := ⟨_, rfl⟩
  have p3 : IntKind.i64.wrap (2 * (q : Int)) = 2 * (q : Int) := IntWalk.i64_in _ (by omega)
  have p4 : IntKind.i64.wrap (2 * (q : Int) + 1) = (m : Int) := by rw [IntWalk.i64_in _ (by omega)]; omega
  go_wp2_with (fail)
  clear p1 p2 p3 p4
  go_loopw [27] (fun i wr => ∃ (j : Nat) (xs : List Int) (vg : Value), i = .int .i64 (j : Int) ∧ j ≤ m ∧ xs.length = j ∧ Hid ((∀ x ∈ xs, 0 ≤ x ∧ x ≤ 4) ∧ MD w B L a n cap (k + 5 + j) bx Z8 #[.int .i64 r1, .int .i64 r2, .int .i64 (cc : Int), .int .i64 (T : Int), vg, .slice none 0 0, .slice none 0 0, .slice none 0 0] wr ∧ LG (w.heap.size + 1) vg (.slice none 0 0) xs [] wr)) (fun i _ => m - (intOf i).toNat)
  case atStart => exact ⟨0, [], _, rfl, by omega, rfl, fun x hx => by simp at hx, HM6.out, ⟨rfl, .inl ⟨rfl, rfl⟩⟩, ⟨rfl, .inl ⟨rfl, rfl⟩⟩, fun i hi => by cases hi⟩
  case round =>
    obtain ⟨j, xs, vg, rfl, hj, hxl, HR⟩ := hrel
    by_cases hlt : j < m
    · have gl : decide ((j : Int) < (m : Int)) = true := decide_eq_true (by omega)
      obtain ⟨hx4, hmd, hlg⟩ := HR.out
      have HX := Lib.hid hx4
      have HRD := Lib.hid (And.intro (hmd.below (Below.refl _ _).drew) (hlg.below (Below.refl _ _).drew))
      have m4 : wr.drew.cell? ⟨bx, 4, none⟩ = some vg := blk_cell HRD.out.1.box 4 rfl
      clear HR hx4 hmd hlg
      go_upto_region 4 with (fail)
      have HS0 := Lib.hid ((m4 : wr.drew.cell? ⟨bx, 4, none⟩ = some vg))
      refine wp_region_split (S := fun w' => w'.cell? ⟨bx, 4, none⟩ = some vg) [5, 6, 7] 5 (by kernel_rfl) (by kernel_rfl) rfl ?_
      rw [show firstL _ [5, 6, 7] = #[false, false, false, false, false, true, true, true] from by kernel_rfl]
      refine wpAnyH_take (i := 0) (v := ?v0_1) rfl (by kernel_rfl) (by kernel_rfl) (by kernel_rfl) (fun _ _ _ h => h) (Or.inl ⟨by rfl, ?h0_1⟩) HS0.out ?r0_1
      case h0_1 => (intro W hSw; have u1 := hSw; clear hSw; go_simp; try with_reducible rfl)
      simp only [Act.put, List.getElem_toArray, List.getElem_cons_zero, List.setIfInBounds_toArray, List.set_cons_zero, List.set_cons_succ]
      refine wpAnyH_take (i := 1) (v := ?v1_2) rfl (by kernel_rfl) (by kernel_rfl) (by kernel_rfl) (fun _ _ _ h => h) (Or.inl ⟨by rfl, ?h1_2⟩) HS0.out ?r1_2
      case h1_2 => (intro W hSw; have u1 := hSw; clear hSw; go_simp; try with_reducible rfl)
      simp only [Act.put, List.getElem_toArray, List.getElem_cons_succ, List.getElem_cons_zero, List.setIfInBounds_toArray, List.set_cons_zero, List.set_cons_succ]
      refine wpAnyH_take (i := 2) (v := ?v2_3) rfl (by kernel_rfl) (by kernel_rfl) (by kernel_rfl) (fun _ _ _ h => h) (Or.inl ⟨by rfl, ?h2_3⟩) HS0.out ?r2_3
      case h2_3 => (intro W hSw; have u1 := hSw; clear hSw; go_simp; try with_reducible rfl)
      simp only [Act.put, List.getElem_toArray, List.getElem_cons_succ, List.getElem_cons_zero, List.setIfInBounds_toArray, List.set_cons_zero, List.set_cons_succ]
      refine wpAnyH_ready (rs := [3]) (by kernel_rfl) (by simp) ?_
      refine AllReadyH.cons (o := _) rfl (fun K hK => ?_) AllReadyH.nil
      go_simp
      go_at_call 11
      refine (draw_any B L a n cap (k + 5 + j) 5 wr.drew HRD.out.1.deck (by omega) (by omega)).mono ?_
      rintro e w1 ⟨⟨r, rfl, hr0, hr1⟩, hD, hA⟩
      have H1 := Lib.hid (And.intro (HRD.out.1.draw hD hA) (And.intro (HRD.out.2.draw HRD.out.1 hA) (And.intro hr0 hr1)))
      clear hD hA hr0 hr1
      refine hK.out _ _ (blk_cell H1.out.1.box 4 rfl) (fun _ => ?_)
      clear hK
      simp only [List.setIfInBounds_toArray, List.set_cons_zero, List.set_cons_succ]
      refine wpAnyH_ready (rs := [4]) (by kernel_rfl) (by simp) ?_
      refine AllReadyH.cons (o := _) rfl (fun K hK => ?_) AllReadyH.nil
      go_simp
      have H2 := Lib.hid (And.intro (H1.out.1.below (alloc1 w1 (.cells #[.int .i64 r] 3))) (And.intro (H1.out.2.1.below (alloc1 w1 (.cells #[.int .i64 r] 3))) (heap_alloc_new w1 (.cells #[.int .i64 r] 3))))
      refine hK.out _ _ (blk_cell H2.out.1.box 4 rfl) (fun _ => ?_)
      clear hK
      simp only [List.setIfInBounds_toArray, List.set_cons_zero, List.set_cons_succ]
      refine wpAnyH_done (by kernel_rfl) ?_ _
      show wpList _ _ _ (opsAt _ [5, 6, 7]) _ _
      simp only [opsAt, List.filterMap_cons, List.filterMap_nil, List.getElem?_toArray, List.getElem?_cons_succ, List.getElem?_cons_zero]
      refine wpList_append_lies _ rfl (.tmp 30) (.tmp 33) 23 rfl (w.heap.size + 1) 3 i0 (.int .i64 0) 1 8 Try.underlying23 hi hz0 hz1 hz2 rfl (by decide) vg xs.length (xs.map (Value.int .i64)) rfl H2.out.2.1.g ⟨w1.heap.size, 0, none⟩ 1 1 [.int .i64 r] rfl rfl (one_cell H2.out.2.2) (by intro x hx; simp at hx; subst hx; rfl) (by decide) (by unfold maxLen; omega) (by omega) (Nat.lt_trans H2.out.1.lt (lt_of_block H2.out.1.box)) _ rfl ?_
      intro g cap' w3 hown hgrow hat _
      have M3 := H2.out.1.grow hgrow (H2.out.2.1.off H2.out.1).1
      have H3 := Lib.hid (And.intro M3 (H2.out.2.1.pushG hown hgrow hat))
      have n4 := blk_cell M3.box 4 rfl
      have f4 := blk_free (j := 4) M3.box
      clear M3 hown hgrow hat
      rw [hxl] at H3
      go_wp2_with (fail)
      go_roundw
      case rel => exact ⟨j + 1, xs ++ [r], .slice (some ⟨g, 0, none⟩) (j + 1) cap', by go_num, by omega, by simp [hxl], fun x hx => by (rcases List.mem_append.1 hx with hx | hx; exact HX.out x hx; simp at hx; have := H1.out.2.2; omega), by have := H3.out.1.put 4 (.slice (some ⟨g, 0, none⟩) (j + 1) cap'); exact this, H3.out.2.put H3.out.1 4 _⟩
      case measure => first | (simp [intOf]; done) | (simp [intOf]; omega)
    · have hjm : j = m := by omega
      subst hjm
      obtain ⟨hx4, hmd, hlg⟩ := HR.out
      obtain ⟨gg, cg, hvg⟩ := own_slice hlg.g (by omega)
      rw [hxl] at hvg
      subst hvg
      obtain ⟨x, hx⟩ : ∃ x, xs[q]? = some x := ⟨xs[q]'(by omega), List.getElem?_eq_getElem (by omega)⟩
      have hxb := hx4 x (List.mem_of_getElem? hx)
      have mg : wr.cell? ⟨gg, q, none⟩ = some (.int .i64 x) := by
        have hc := hlg.g.cells (g := gg) rfl q (.int .i64 x) (by rw [List.getElem?_map, hx]; rfl)
        have e : (⟨gg, 0, none⟩ : Addr).add q = ⟨gg, q, none⟩ := by unfold Addr.add; split <;> simp_all
        rwa [e] at hc
      have fg : wr.frozen? ⟨gg, q, none⟩ = false := by
        obtain ⟨_, _, cur, hc⟩ := own_cells hlg.g rfl
        exact blk_free hc
      have m4 := blk_cell hmd.box 4 rfl
      have qx : IntKind.i64.wrap (x + 1) = x + 1 := IntWalk.i64_in _ (by omega)
      have hq2 : Int.tdiv (j : Int) 2 = (q : Int) := by rw [Int.tdiv_eq_ediv_of_nonneg (by omega)]; omega
      have hq3 : (j : Int) / 2 = (q : Int) := by omega
      have gq : (q : Int) < (j : Int) := by omega
      have gl : decide ((j : Int) < (j : Int)) = false := decide_eq_false (by omega)
      have ho := (hlg.off hmd).1 gg rfl
      have HX : Hid ((∀ y ∈ xs.set q (x + 1), 0 ≤ y ∧ y ≤ 5) ∧ 1 ≤ sumI (xs.set q (x + 1)) ∧ sumI (xs.set q (x + 1)) ≤ 100 ∧ (xs.set q (x + 1)).length = j) := by
        have hb := sumI_bd xs 4 (by omega) hx4 xs.length
        rw [List.take_length] at hb
        have hs := sumI_set xs q (by omega) (x + 1)
        rw [hx] at hs
        refine ⟨fun y hy => ?_, ?_, ?_, by simpa using hxl⟩
        · rcases List.mem_or_eq_of_mem_set hy with h | h
          · have := hx4 y h; omega
          · omega
        · have hz := sumI_drop xs q x (fun y hy => (hx4 y hy).1) hx
          rw [hs]; simp only [Option.getD_some]; omega
        · rw [hs]; simp only [Option.getD_some]; rw [hxl] at hb; omega
      have H7 := Lib.hid (And.intro (hmd.free gg ho.1 ho.2 q (.int .i64 (x + 1))) (hlg.mid q (x + 1)))
      clear HR hx4 hmd hlg ho hxl
      generalize xs.set q (x + 1) = ys at HX H7
      go_wp2_with (fail)
      clear mg fg m4 qx hq2 hq3 gl gq
      refine (between_any B L a n cap (k + 5 + j) 1 (st : Int) _ H7.out.1.deck (by omega) (by omega)).mono ?_
      rintro e W8 ⟨⟨r6, rfl, hr6⟩, hD, hA⟩
      have H8 := Lib.hid (And.intro (H7.out.1.draw hD hA) (H7.out.2.draw H7.out.1 hA))
      clear hD hA H7
      obtain ⟨s, rfl⟩ : ∃ s : Nat, r6 = (s : Int) := Int.eq_ofNat_of_zero_le (by omega)
      clear hlt hx hxb hj

      obtain ⟨m, rfl⟩ : ∃ m, m = j := ⟨_, rfl⟩
      go_wp2_with (fail)
      go_loopw [50] (fun i wr => ∃ (j : Nat) (ds : List Int) (vd : Value), i = .int .i64 (j : Int) ∧ j ≤ s ∧ ds.length = j ∧ Hid ((∀ x ∈ ds, -15 ≤ x ∧ x ≤ 15) ∧ MD w B L a n cap (k + 5 + m + 1 + j) bx Z8 #[.int .i64 r1, .int .i64 r2, .int .i64 (cc : Int), .int .i64 (T : Int), .slice (some ⟨gg, 0, none⟩) m cg, vd, .slice none 0 0, .slice none 0 0] wr ∧ LG (w.heap.size + 1) (.slice (some ⟨gg, 0, none⟩) m cg) vd ys ds wr)) (fun i _ => s - (intOf i).toNat)
      case atStart => exact ⟨0, [], _, rfl, by omega, rfl, fun x hx => by simp at hx, H8.out.1, H8.out.2⟩
      case round =>
        obtain ⟨j, ds, vd, rfl, hj, hxl, HR⟩ := hrel
        by_cases hlt : j < s
        · have gl : decide ((j : Int) < (s : Int)) = true := decide_eq_true (by omega)
          obtain ⟨hx4, hmd, hlg⟩ := HR.out
          have HX2 := Lib.hid hx4
          have HRD := Lib.hid (And.intro (hmd.below (Below.refl _ _).drew) (hlg.below (Below.refl _ _).drew))
          have m5 : wr.drew.cell? ⟨bx, 5, none⟩ = some vd := blk_cell HRD.out.1.box 5 rfl
          clear HR hx4 hmd hlg
          go_upto_region 9 with (fail)
          have HS0 := Lib.hid ((m5 : wr.drew.cell? ⟨bx, 5, none⟩ = some vd))
          refine wp_region_split (S := fun w' => w'.cell? ⟨bx, 5, none⟩ = some vd) [5, 6, 7] 5 (by kernel_rfl) (by kernel_rfl) rfl ?_
          rw [show firstL _ [5, 6, 7] = #[false, false, false, false, false, true, true, true] from by kernel_rfl]
          refine wpAnyH_take (i := 0) (v := ?v0_4) rfl (by kernel_rfl) (by kernel_rfl) (by kernel_rfl) (fun _ _ _ h => h) (Or.inl ⟨by rfl, ?h0_4⟩) HS0.out ?r0_4
          case h0_4 => (intro W hSw; have u1 := hSw; clear hSw; go_simp; try with_reducible rfl)
          simp only [Act.put, List.getElem_toArray, List.getElem_cons_zero, List.setIfInBounds_toArray, List.set_cons_zero, List.set_cons_succ]
          refine wpAnyH_take (i := 1) (v := ?v1_5) rfl (by kernel_rfl) (by kernel_rfl) (by kernel_rfl) (fun _ _ _ h => h) (Or.inl ⟨by rfl, ?h1_5⟩) HS0.out ?r1_5
          case h1_5 => (intro W hSw; have u1 := hSw; clear hSw; go_simp; try with_reducible rfl)
          simp only [Act.put, List.getElem_toArray, List.getElem_cons_succ, List.getElem_cons_zero, List.setIfInBounds_toArray, List.set_cons_zero, List.set_cons_succ]
          refine wpAnyH_take (i := 2) (v := ?v2_6) rfl (by kernel_rfl) (by kernel_rfl) (by kernel_rfl) (fun _ _ _ h => h) (Or.inl ⟨by rfl, ?h2_6⟩) HS0.out ?r2_6
          case h2_6 => (intro W hSw; have u1 := hSw; clear hSw; go_simp; try with_reducible rfl)
          simp only [Act.put, List.getElem_toArray, List.getElem_cons_succ, List.getElem_cons_zero, List.setIfInBounds_toArray, List.set_cons_zero, List.set_cons_succ]
          refine wpAnyH_ready (rs := [3]) (by kernel_rfl) (by simp) ?_
          refine AllReadyH.cons (o := _) rfl (fun K hK => ?_) AllReadyH.nil
          go_simp
          go_at_call 10
          refine (between_any B L a n cap (k + 5 + m + 1 + j) (-15) 15 wr.drew HRD.out.1.deck (by omega) (by omega)).mono ?_
          rintro e w1 ⟨⟨r, rfl, hr0, hr1⟩, hD, hA⟩
          have H1 := Lib.hid (And.intro (HRD.out.1.draw hD hA) (And.intro (HRD.out.2.draw HRD.out.1 hA) (And.intro hr0 hr1)))
          clear hD hA hr0 hr1
          refine hK.out _ _ (blk_cell H1.out.1.box 5 rfl) (fun _ => ?_)
          clear hK
          simp only [List.setIfInBounds_toArray, List.set_cons_zero, List.set_cons_succ]
          refine wpAnyH_ready (rs := [4]) (by kernel_rfl) (by simp) ?_
          refine AllReadyH.cons (o := _) rfl (fun K hK => ?_) AllReadyH.nil
          go_simp
          have H2 := Lib.hid (And.intro (H1.out.1.below (alloc1 w1 (.cells #[.int .i64 r] 3))) (And.intro (H1.out.2.1.below (alloc1 w1 (.cells #[.int .i64 r] 3))) (heap_alloc_new w1 (.cells #[.int .i64 r] 3))))
          refine hK.out _ _ (blk_cell H2.out.1.box 5 rfl) (fun _ => ?_)
          clear hK
          simp only [List.setIfInBounds_toArray, List.set_cons_zero, List.set_cons_succ]
          refine wpAnyH_done (by kernel_rfl) ?_ _
          show wpList _ _ _ (opsAt _ [5, 6, 7]) _ _
          simp only [opsAt, List.filterMap_cons, List.filterMap_nil, List.getElem?_toArray, List.getElem?_cons_succ, List.getElem?_cons_zero]
          refine wpList_append_lies _ rfl (.tmp 53) (.tmp 56) 23 rfl (w.heap.size + 1) 3 i0 (.int .i64 0) 1 8 Try.underlying23 hi hz0 hz1 hz2 rfl (by decide) vd ds.length (ds.map (Value.int .i64)) rfl H2.out.2.1.d ⟨w1.heap.size, 0, none⟩ 1 1 [.int .i64 r] rfl rfl (one_cell H2.out.2.2) (by intro x hx; simp at hx; subst hx; rfl) (by decide) (by unfold maxLen; omega) (by omega) (Nat.lt_trans H2.out.1.lt (lt_of_block H2.out.1.box)) _ rfl ?_
          intro g cap' w3 hown hgrow hat _
          have M3 := H2.out.1.grow hgrow (H2.out.2.1.off H2.out.1).2
          have H3 := Lib.hid (And.intro M3 (H2.out.2.1.pushD hown hgrow hat))
          have n5 := blk_cell M3.box 5 rfl
          have f5 := blk_free (j := 5) M3.box
          clear M3 hown hgrow hat
          rw [hxl] at H3
          go_wp2_with (fail)
          go_roundw
          case rel => exact ⟨j + 1, ds ++ [r], .slice (some ⟨g, 0, none⟩) (j + 1) cap', by go_num, by omega, by simp [hxl], fun x hx => by (rcases List.mem_append.1 hx with hx | hx; exact HX2.out x hx; simp at hx; have := H1.out.2.2; omega), by have := H3.out.1.put 5 (.slice (some ⟨g, 0, none⟩) (j + 1) cap'); exact this, H3.out.2.put H3.out.1 5 _⟩
          case measure => first | (simp [intOf]; done) | (simp [intOf]; omega)
        · have hjs : j = s := by omega
          subst hjs
          obtain ⟨hx4, hmd, hlg⟩ := HR.out
          obtain ⟨gd, cd, hvd⟩ := own_slice hlg.d (by omega)
          rw [hxl] at hvd
          subst hvd
          have HX2 := Lib.hid (And.intro hx4 hxl)
          have HR9 := Lib.hid (And.intro hmd hlg)
          have m5 := blk_cell hmd.box 5 rfl
          have m3 := blk_cell hmd.box 3 rfl
          have gl : decide ((j : Int) < (j : Int)) = false := decide_eq_false (by omega)
          clear HR hx4 hmd hlg hxl H8
          go_wp2_with (fail)
          clear m5 m3 gl
          refine (shares_any B L a n cap (k + 5 + m + 1 + j) j T _ HR9.out.1.deck (by omega) (by omega) (by omega)).mono ?_
          rintro e W10 ⟨gf, fs, rfl, hgf, hSh, hgl, hD, hA⟩
          have H10 := Lib.hid (And.intro (HR9.out.1.draw hD hA) (And.intro (HR9.out.2.draw HR9.out.1 hA) (And.intro hgf (And.intro hSh (Nat.lt_of_lt_of_le (lt_of_block HR9.out.1.box) hgl)))))
          clear hgf hSh hgl hD hA HR9
          clear hlt hj
          obtain ⟨s, rfl⟩ : ∃ s, s = j := ⟨_, rfl⟩
          have n6 := blk_cell H10.out.1.box 6 rfl
          have f6 := blk_free (j := 6) H10.out.1.box
          have m5 : (W10.setCell ⟨bx, 6, none⟩ (.slice (some ⟨gf, 0, none⟩) s s)).cell? ⟨bx, 5, none⟩ = some (.slice (some ⟨gd, 0, none⟩) s cd) := blk_cell (H10.out.1.put 6 (.slice (some ⟨gf, 0, none⟩) s s)).box 5 rfl
          have H11 : Hid (MD w B L a n cap (k + 5 + m + 1 + s + T) bx Z8 #[.int .i64 r1, .int .i64 r2, .int .i64 (cc : Int), .int .i64 (T : Int), .slice (some ⟨gg, 0, none⟩) m cg, .slice (some ⟨gd, 0, none⟩) s cd, .slice (some ⟨gf, 0, none⟩) s s, .slice none 0 0] (W10.setCell ⟨bx, 6, none⟩ (.slice (some ⟨gf, 0, none⟩) s s)) ∧ LG (w.heap.size + 1) (.slice (some ⟨gg, 0, none⟩) m cg) (.slice (some ⟨gd, 0, none⟩) s cd) ys ds (W10.setCell ⟨bx, 6, none⟩ (.slice (some ⟨gf, 0, none⟩) s s)) ∧ LH (w.heap.size + 1) gf fs (.slice none 0 0) [] (W10.setCell ⟨bx, 6, none⟩ (.slice (some ⟨gf, 0, none⟩) s s))) := by
            obtain ⟨h1, h2, h3, h4, h5⟩ := H10.out
            have hbx := h1.lt
            refine ⟨h1.put 6 _, h2.put h1 6 _, ⟨(Below.heap_setCell _ _ _ _ (by show gf ≠ bx; intro he; rw [he, h1.box] at h3; exact absurd (congrArg (fun o : Option Obj => match o with | some (Obj.cells _ t _) => t | _ => 0) h3) (by simp))).trans h3, by omega, ⟨rfl, .inl ⟨rfl, rfl⟩⟩, ⟨fun x hx => by simp at hx, by simp⟩⟩⟩
          have HS := Lib.hid (And.intro H10.out.2.2.2.1 H10.out.2.2.2.2)
          clear H10
          go_upto_region 12 with (fail)
          generalize W10.setCell ⟨bx, 6, none⟩ (.slice (some ⟨gf, 0, none⟩) s s) = W11 at H11 m5 ⊢
          go_wp2_with (fail)
          clear n6 f6 m5
          go_loopw [71] (fun i wr => ∃ (j : Nat) (RR : List Rw) (vn : Value), i = .int .i64 (j : Int) ∧ j ≤ s ∧ RR.length = j ∧ Hid ((∀ x ∈ RR, Share s (T : Int) x.2.2) ∧ MD w B L a n cap (k + 5 + m + 1 + s + T + 6 * j) bx Z8 #[.int .i64 r1, .int .i64 r2, .int .i64 (cc : Int), .int .i64 (T : Int), .slice (some ⟨gg, 0, none⟩) m cg, .slice (some ⟨gd, 0, none⟩) s cd, .slice (some ⟨gf, 0, none⟩) s s, vn] wr ∧ LG (w.heap.size + 1) (.slice (some ⟨gg, 0, none⟩) m cg) (.slice (some ⟨gd, 0, none⟩) s cd) ys ds wr ∧ LH (w.heap.size + 1) gf fs vn RR wr)) (fun i _ => s - (intOf i).toNat)
          case atStart => exact ⟨0, [], _, rfl, by omega, rfl, fun x hx => by simp at hx, H11.out.1, H11.out.2.1, H11.out.2.2⟩
          case round =>
            obtain ⟨j, RR, vn, rfl, hj, hxl, HR⟩ := hrel
            by_cases hlt : j < s
            · have gl : decide ((j : Int) < (s : Int)) = true := decide_eq_true (by omega)
              obtain ⟨hx4, hmd, hlg, hlh⟩ := HR.out
              have HX3 := Lib.hid hx4
              have HRD := Lib.hid (And.intro (hmd.below (Below.refl _ _).drew) (And.intro (hlg.below (Below.refl _ _).drew) (hlh.keep (W' := wr.drew) (fun i _ _ _ => rfl))))
              have m7 : wr.drew.cell? ⟨bx, 7, none⟩ = some vn := blk_cell HRD.out.1.box 7 rfl
              have m5 : wr.drew.cell? ⟨bx, 5, none⟩ = some (.slice (some ⟨gd, 0, none⟩) s cd) := blk_cell HRD.out.1.box 5 rfl
              have m3 : wr.drew.cell? ⟨bx, 3, none⟩ = some (.int .i64 (T : Int)) := blk_cell HRD.out.1.box 3 rfl
              clear HR hx4 hmd hlg hlh
              go_upto_region 14 with (fail)
              have HS0 := Lib.hid ((⟨m7, m5, m3⟩ : wr.drew.cell? ⟨bx, 7, none⟩ = some vn ∧ wr.drew.cell? ⟨bx, 5, none⟩ = some (.slice (some ⟨gd, 0, none⟩) s cd) ∧ wr.drew.cell? ⟨bx, 3, none⟩ = some (.int .i64 (T : Int))))
              refine wp_region_split (S := fun w' => w'.cell? ⟨bx, 7, none⟩ = some vn ∧ w'.cell? ⟨bx, 5, none⟩ = some (.slice (some ⟨gd, 0, none⟩) s cd) ∧ w'.cell? ⟨bx, 3, none⟩ = some (.int .i64 (T : Int))) [10, 11, 12] 10 (by kernel_rfl) (by kernel_rfl) rfl ?_
              rw [show firstL _ [10, 11, 12] = #[false, false, false, false, false, false, false, false, false, false, true, true, true] from by kernel_rfl]
              refine wpAnyH_take (i := 0) (v := ?v0_7) rfl (by kernel_rfl) (by kernel_rfl) (by kernel_rfl) (fun _ _ _ h => h) (Or.inl ⟨by rfl, ?h0_7⟩) HS0.out ?r0_7
              case h0_7 => (intro W hSw; have u1 := hSw.1; have u2 := hSw.2.1; have u3 := hSw.2.2; clear hSw; go_simp; try with_reducible rfl)
              simp only [Act.put, List.getElem_toArray, List.getElem_cons_zero, List.setIfInBounds_toArray, List.set_cons_zero, List.set_cons_succ]
              refine wpAnyH_take (i := 1) (v := ?v1_8) rfl (by kernel_rfl) (by kernel_rfl) (by kernel_rfl) (fun _ _ _ h => h) (Or.inl ⟨by rfl, ?h1_8⟩) HS0.out ?r1_8
              case h1_8 => (intro W hSw; have u1 := hSw.1; have u2 := hSw.2.1; have u3 := hSw.2.2; clear hSw; go_simp; try with_reducible rfl)
              simp only [Act.put, List.getElem_toArray, List.getElem_cons_succ, List.getElem_cons_zero, List.setIfInBounds_toArray, List.set_cons_zero, List.set_cons_succ]
              refine wpAnyH_take (i := 2) (v := ?v2_9) rfl (by kernel_rfl) (by kernel_rfl) (by kernel_rfl) (fun _ _ _ h => h) (Or.inl ⟨by rfl, ?h2_9⟩) HS0.out ?r2_9
              case h2_9 => (intro W hSw; have u1 := hSw.1; have u2 := hSw.2.1; have u3 := hSw.2.2; clear hSw; go_simp; try with_reducible rfl)
              simp only [Act.put, List.getElem_toArray, List.getElem_cons_succ, List.getElem_cons_zero, List.setIfInBounds_toArray, List.set_cons_zero, List.set_cons_succ]
              refine wpAnyH_take (i := 3) (v := ?v3_10) rfl (by kernel_rfl) (by kernel_rfl) (by kernel_rfl) (fun _ _ _ h => h) (Or.inl ⟨by rfl, ?h3_10⟩) HS0.out ?r3_10
              case h3_10 => (intro W hSw; have u1 := hSw.1; have u2 := hSw.2.1; have u3 := hSw.2.2; clear hSw; go_simp; try with_reducible rfl)
              simp only [Act.put, List.getElem_toArray, List.getElem_cons_succ, List.getElem_cons_zero, List.setIfInBounds_toArray, List.set_cons_zero, List.set_cons_succ]
              refine wpAnyH_take (i := 4) (v := ?v4_11) rfl (by kernel_rfl) (by kernel_rfl) (by kernel_rfl) (fun _ _ _ h => h) (Or.inl ⟨by rfl, ?h4_11⟩) HS0.out ?r4_11
              case h4_11 => (intro W hSw; have u1 := hSw.1; have u2 := hSw.2.1; have u3 := hSw.2.2; clear hSw; go_simp; try with_reducible rfl)
              simp only [Act.put, List.getElem_toArray, List.getElem_cons_succ, List.getElem_cons_zero, List.setIfInBounds_toArray, List.set_cons_zero, List.set_cons_succ]
              refine wpAnyH_take (i := 5) (v := ?v5_12) rfl (by kernel_rfl) (by kernel_rfl) (by kernel_rfl) (fun _ _ _ h => h) (Or.inl ⟨by rfl, ?h5_12⟩) HS0.out ?r5_12
              case h5_12 => (intro W hSw; have u1 := hSw.1; have u2 := hSw.2.1; have u3 := hSw.2.2; clear hSw; go_simp; try with_reducible rfl)
              simp only [Act.put, List.getElem_toArray, List.getElem_cons_succ, List.getElem_cons_zero, List.setIfInBounds_toArray, List.set_cons_zero, List.set_cons_succ]
              refine wpAnyH_take (i := 6) (v := ?v6_13) rfl (by kernel_rfl) (by kernel_rfl) (by kernel_rfl) (fun _ _ _ h => h) (Or.inl ⟨by rfl, ?h6_13⟩) HS0.out ?r6_13
              case h6_13 => (intro W hSw; have u1 := hSw.1; have u2 := hSw.2.1; have u3 := hSw.2.2; clear hSw; go_simp; try with_reducible rfl)
              simp only [Act.put, List.getElem_toArray, List.getElem_cons_succ, List.getElem_cons_zero, List.setIfInBounds_toArray, List.set_cons_zero, List.set_cons_succ]
              refine wpAnyH_take (i := 7) (v := ?v7_14) rfl (by kernel_rfl) (by kernel_rfl) (by kernel_rfl) (fun _ _ _ h => h) (Or.inl ⟨by rfl, ?h7_14⟩) HS0.out ?r7_14
              case h7_14 => (intro W hSw; have u1 := hSw.1; have u2 := hSw.2.1; have u3 := hSw.2.2; clear hSw; go_simp; try with_reducible rfl)
              simp only [Act.put, List.getElem_toArray, List.getElem_cons_succ, List.getElem_cons_zero, List.setIfInBounds_toArray, List.set_cons_zero, List.set_cons_succ]
              refine wpAnyH_ready (rs := [8]) (by kernel_rfl) (by simp) ?_
              refine AllReadyH.cons (o := _) rfl (fun K hK => ?_) AllReadyH.nil
              go_simp
              go_at_call 12
              refine (shares_any B L a n cap (k + 5 + m + 1 + s + T + 6 * j) s T wr.drew HRD.out.1.deck (by omega) (by omega) (by omega)).mono ?_
              rintro e w1 ⟨g1, l, rfl, hg1, hl1, hgl, hD, hA⟩
              have H1 := Lib.hid (And.intro ((HRD.out.1.draw hD hA).mono (k' := k + 5 + m + 1 + s + T + 6 * (j + 1)) (by omega)) (And.intro (HRD.out.2.1.draw HRD.out.1 hA) (And.intro (HRD.out.2.2.draw HRD.out.1 hA) (And.intro hg1 (And.intro hl1 (And.intro (Nat.lt_of_lt_of_le (Nat.lt_trans HRD.out.1.lt (lt_of_block HRD.out.1.box)) hgl) (fun (x : Rw) (hx : x ∈ RR) => (by have := (row_at (HRD.out.2.2.rw.own x hx)).2.1; omega : x.1 ≠ g1))))))))
              clear hg1 hl1 hgl hD hA
              refine hK.out _ _ (⟨blk_cell H1.out.1.box 7 rfl, blk_cell H1.out.1.box 5 rfl, blk_cell H1.out.1.box 3 rfl⟩) (fun _ => ?_)
              clear hK
              simp only [List.setIfInBounds_toArray, List.set_cons_zero, List.set_cons_succ]
              refine wpAnyH_ready (rs := [9]) (by kernel_rfl) (by simp) ?_
              refine AllReadyH.cons (o := _) rfl (fun K hK => ?_) AllReadyH.nil
              go_simp
              have hb := alloc1 w1 (.cells #[.slice (some ⟨g1, 0, none⟩) s s] 23)
              have H2 := Lib.hid (And.intro (H1.out.1.below hb) (And.intro (H1.out.2.1.below hb) (And.intro (H1.out.2.2.1.keep (fun i _ hi _ => hb.block i hi)) (And.intro (blk_below H1.out.2.2.2.1 hb) (heap_alloc_new w1 (.cells #[.slice (some ⟨g1, 0, none⟩) s s] 23))))))
              clear hb
              refine hK.out _ _ (⟨blk_cell H2.out.1.box 7 rfl, blk_cell H2.out.1.box 5 rfl, blk_cell H2.out.1.box 3 rfl⟩) (fun _ => ?_)
              clear hK
              simp only [List.setIfInBounds_toArray, List.set_cons_zero, List.set_cons_succ]
              refine wpAnyH_done (by kernel_rfl) ?_ _
              show wpList _ _ _ (opsAt _ [10, 11, 12]) _ _
              simp only [opsAt, List.filterMap_cons, List.filterMap_nil, List.getElem?_toArray, List.getElem?_cons_succ, List.getElem?_cons_zero]
              refine wpList_append_lies _ rfl (.tmp 74) (.tmp 82) 24 rfl (w.heap.size + 1) 23 j0 (.slice none 0 0) 1 24 Try.underlying24 ji jz0 jz1 jz2 rfl (by decide) vn RR.length (RR.map rowV) rfl H2.out.2.2.1.av ⟨w1.heap.size, 0, none⟩ 1 1 [.slice (some ⟨g1, 0, none⟩) s s] rfl rfl (one_cell H2.out.2.2.2.2) (by intro x hx; simp at hx; subst hx; rfl) (by decide) (by unfold maxLen; omega) (by omega) (Nat.lt_trans H2.out.1.lt (lt_of_block H2.out.1.box)) _ rfl ?_
              intro g cap' w3 hown hgrow hat _
              have M3 := H2.out.1.grow hgrow (H2.out.2.2.1.off H2.out.1)
              have HL3 := H1.out.2.2.2.2.1.len
              have N3 := H2.out.2.2.1.push (l := l) HL3 (by omega) H2.out.2.2.2.1 (by have := H1.out.2.2.2.2.2.1; omega) H1.out.2.2.2.2.2.2 hown hgrow
              have L3 : LG (w.heap.size + 1) (.slice (some ⟨gg, 0, none⟩) m cg) (.slice (some ⟨gd, 0, none⟩) s cd) ys ds w3 := H2.out.2.1.keep (fun i _ hi ⟨c2, hc⟩ => hgrow.block i hi (fun he => by obtain ⟨_, _, c3, h3⟩ := own_cells H2.out.2.2.1.av he.symm; rw [hc] at h3; cases h3))
              have H3 := Lib.hid (And.intro M3 (And.intro L3 N3))
              have n7 := blk_cell M3.box 7 rfl
              have f7 := blk_free (j := 7) M3.box
              clear M3 L3 N3 HL3 hown hgrow hat
              rw [hxl] at H3
              go_wp2_with (fail)
              go_roundw
              case rel => exact ⟨j + 1, RR ++ [(g1, s, l)], .slice (some ⟨g, 0, none⟩) (j + 1) cap', by go_num, by omega, by simp [hxl], fun x hx => by (rcases List.mem_append.1 hx with hx | hx; exact HX3.out x hx; simp at hx; subst hx; exact H1.out.2.2.2.2.1), by have := H3.out.1.put 7 (.slice (some ⟨g, 0, none⟩) (j + 1) cap'); exact this, H3.out.2.1.put H3.out.1 7 _, H3.out.2.2.put H3.out.1 7 _⟩
              case measure => first | (simp [intOf]; done) | (simp [intOf]; omega)
            · have hjs : j = s := by omega
              subst hjs
              obtain ⟨hx4, hmd, hlg, hlh⟩ := HR.out
              have gl : decide ((j : Int) < (j : Int)) = false := decide_eq_false (by omega)
              obtain ⟨gn, cn, hvn⟩ := own_slice hlh.av (by omega)
              rw [hxl] at hvn
              subst hvn
              have m0 := blk_cell hmd.box 0 rfl
              have k0 := blk_free (j := 0) hmd.res
              have z0 := blk_cell hmd.res 0 rfl
              have m1 := blk_cell hmd.box 1 rfl
              have k1 := blk_free (j := 1) hmd.res
              have z1 := blk_cell hmd.res 1 rfl
              have m2 := blk_cell hmd.box 2 rfl
              have k2 := blk_free (j := 2) hmd.res
              have z2 := blk_cell hmd.res 2 rfl
              have m3 := blk_cell hmd.box 3 rfl
              have k3 := blk_free (j := 3) hmd.res
              have z3 := blk_cell hmd.res 3 rfl
              have m4 := blk_cell hmd.box 4 rfl
              have k4 := blk_free (j := 4) hmd.res
              have z4 := blk_cell hmd.res 4 rfl
              have m5 := blk_cell hmd.box 5 rfl
              have k5 := blk_free (j := 5) hmd.res
              have z5 := blk_cell hmd.res 5 rfl
              have m6 := blk_cell hmd.box 6 rfl
              have k6 := blk_free (j := 6) hmd.res
              have z6 := blk_cell hmd.res 6 rfl
              have m7 := blk_cell hmd.box 7 rfl
              have k7 := blk_free (j := 7) hmd.res
              have z7 := blk_cell hmd.res 7 rfl
              have HF := Lib.hid (And.intro (hmd.fin8 (.int .i64 r1) (.int .i64 r2) (.int .i64 (cc : Int)) (.int .i64 (T : Int)) (.slice (some ⟨gg, 0, none⟩) m cg) (.slice (some ⟨gd, 0, none⟩) j cd) (.slice (some ⟨gf, 0, none⟩) j j) (.slice (some ⟨gn, 0, none⟩) j cn)) (P8.deck hmd (hmd.fin8 (.int .i64 r1) (.int .i64 r2) (.int .i64 (cc : Int)) (.int .i64 (T : Int)) (.slice (some ⟨gg, 0, none⟩) m cg) (.slice (some ⟨gd, 0, none⟩) j cd) (.slice (some ⟨gf, 0, none⟩) j j) (.slice (some ⟨gn, 0, none⟩) j cn))))
              have HE := Lib.hid (And.intro hx4 (And.intro hlg (And.intro hlh hxl)))
              clear HR hx4 hmd hlg hlh hxl
              go_wp2_with (fail)
              clear m0 k0 z0 m1 k1 z1 m2 k2 z2 m3 k3 z3 m4 k4 z4 m5 k5 z5 m6 k6 z6 m7 k7 z7 gl
              have q0 := blk_cell HF.out.1.res 0 rfl
              have q1 := blk_cell HF.out.1.res 1 rfl
              have q2 := blk_cell HF.out.1.res 2 rfl
              have q3 := blk_cell HF.out.1.res 3 rfl
              have q4 := blk_cell HF.out.1.res 4 rfl
              have q5 := blk_cell HF.out.1.res 5 rfl
              have q6 := blk_cell HF.out.1.res 6 rfl
              have q7 := blk_cell HF.out.1.res 7 rfl
              obtain ⟨hp, hD, hA⟩ := HF.out
              have hoth := hp.oth
              obtain ⟨hx4, hlg, hlh, hxl⟩ := HE.out
              have hkg := hlg.keep (fun i h1 _ _ => hoth i (by omega))
              have hkh := hlh.keep (fun i h1 _ _ => hoth i (by omega))
              obtain ⟨hy1, hy2, hy3, hy4⟩ := HX.out
              obtain ⟨hS, _⟩ := HS.out
              obtain ⟨hd1, hd2⟩ := HX2.out
              refine bodyPost_ret (v := Rv.v (⟨⟨r1, r2, cc, T, ys, ds, fs, RR.map (·.2.2)⟩, some ⟨gg, 0, none⟩, cg, some ⟨gd, 0, none⟩, cd, some ⟨gf, 0, none⟩, j, some ⟨gn, 0, none⟩, cn⟩ : Rv)) (by simp [results, Try.results4, go_sem, q0, q1, q2, q3, q4, q5, q6, q7, hy4, hd2, hS.len, hxl]) rfl ⟨_, rfl, ⟨ints_at hkg.g, ints_at hkg.d, ints_of_block hkh.f rfl, sls_of_rows (by have h := hkh.av; rw [hxl] at h; exact h) hkh.rw⟩, ⟨⟨?_, ?_, ?_, ?_, ?_, ?_, ?_, ?_, ?_, ?_, ?_, ?_, ?_, ?_, ?_, ?_⟩, hr1, ?_, ?_, ?_, ?_, ?_, ?_, hd1⟩, hD.mono (by omega), hA⟩
              · show 0 ≤ r1 ∧ r1 ≤ 200; omega
              · show 1 ≤ r2 ∧ r2 ≤ 20; omega
              · show 0 ≤ (cc : Int) ∧ (cc : Int) ≤ 6; omega
              · show 1 ≤ (T : Int) ∧ (T : Int) ≤ 12; omega
              · show ys.length % 2 = 1 ∧ ys.length ≤ 21; rw [hy4]; omega
              · show 1 ≤ ds.length ∧ ds.length ≤ 5; rw [hd2]; omega
              · show fs.length = ds.length; rw [hS.len, hd2]
              · show (RR.map (·.2.2)).length = ds.length; rw [List.length_map, hxl, hd2]
              · intro l hl
                obtain ⟨x, hx, rfl⟩ := List.mem_map.1 hl
                show x.2.2.length = ds.length
                rw [(hx4 x hx).len, hd2]
              · intro x hx; have := hd1 x hx; omega
              · intro x hx; have := hy1 x hx; omega
              · intro x hx
                exact ⟨hS.nn x hx, share_le hS hx⟩
              · intro l hl x hx
                obtain ⟨y, hy, rfl⟩ := List.mem_map.1 hl
                exact ⟨(hx4 y hy).nn x hx, share_le (hx4 y hy) hx⟩
              · exact ⟨hy2, hy3⟩
              · exact hS.sum
              · intro l hl
                obtain ⟨y, hy, rfl⟩ := List.mem_map.1 hl
                exact (hx4 y hy).sum
              · show r2 ≤ 5; omega
              · show (cc : Int) ≤ cl; omega
              · show (T : Int) ≤ 6; omega
              · show ys.length ≤ 2 * sd + 1; rw [hy4]; omega
              · exact fun x hx => (hy1 x hx).2
              · show ds.length ≤ st; rw [hd2]; omega
end Go.Proofs.Ytiggelffmfinoaa
