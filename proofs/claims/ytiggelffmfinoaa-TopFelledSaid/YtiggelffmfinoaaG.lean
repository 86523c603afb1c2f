/-
  Expected and Hit, over this seat's program.
  What is proved: what each call returns for a valid range, and that nothing that was there before it has turned.
  Conditions: valid ranges, a click that is allowed, a state that there is.
-/
import Derived.Test.YtiggelffmfinoaaD
import Derived.Test.YtiggelffmfinoaaBI
namespace Go.Proofs.Ytiggelffmfinoaa
open Go.RowKit Go.Shelf
attribute [local go_sem] Oper.semAt_some

abbrev ratV (n d : Nat) : Value := .agg #[.int .i64 (n / Nat.gcd d n : Nat), .int .i64 (d / Nat.gcd d n : Nat)]

set_option maxHeartbeats 4000000 in
theorem Hit_ok (R : Rv) (s : Nat) (c : Int) (n d : Nat) (w : World) (hA : RgAt w R) (ok : RgOk R.r) (hs : s < R.r.drifts.length) (hc : -R.r.clicks ≤ c ∧ c ≤ R.r.clicks) (hnb : hitsR R.r (R.r.drifts[s]?.getD 0) c = n) (hd : (d : Int) = sumI R.r.group) :
    Calls Try.prog 6 #[R.v, .int .i64 s, .int .i64 c] w fun e w' => e = .returned (.tuple #[ratV n d, .int .i64 0]) ∧ Below w.heap.size w w' := by
  have hwc := within_of hc
  have hws : withinB (s : Int) 0 ((R.r.drifts.length : Int) - 1) = true := within_of (by omega)
  have hx : R.r.drifts[s]?.getD 0 = R.r.drifts[s] := by rw [List.getElem?_eq_getElem hs]; rfl
  rw [hx] at hnb
  have hxb := ok.drifts R.r.drifts[s] (List.getElem_mem hs)
  have hgs := ok.gsum
  have hnd : (n : Int) ≤ d := by rw [← hnb, hd]; exact (hitsR_bd ok _ _).2
  have HR := Lib.hid fun W => ratio_any n d W (by omega) (by omega) (by omega)
  have HH := Lib.hid fun W B (hK : WkAt W R B) => (hits_any R B R.r.drifts[s] c W hK ok hxb (by have := ok.clicks; omega)).mono (fun e W' h => (⟨h.1.trans (by rw [hnb]), h.2⟩ : e = .returned (.int .i64 n) ∧ Below W.heap.size W W'))
  have HDA := Lib.hid hA.d
  have hgd : sumI R.r.group = d := hd.symm
  generalize hn1 : ((n / Nat.gcd d n : Nat) : Int) = n1 at HR
  generalize hd1 : ((d / Nat.gcd d n : Nat) : Int) = d1 at HR
  have HE := Lib.hid (And.intro hn1 hd1)
  clear hn1 hd1
  clear hc hnb hd hx hnd hgs hxb
  obtain ⟨W0, hW0⟩ : ∃ W0, (w.alloc (.cells R.arr 26)).alloc (.cells #[.int .i64 0, .int .i64 0] 32) = W0 := ⟨_, rfl⟩
  have h0 : Below w.heap.size w W0 := by rw [← hW0]; exact (alloc1 w _).alloc (by simp) _
  have hb : W0.heap[w.heap.size]? = some (.cells R.arr 26 (0, 0)) := by rw [← hW0]; exact (Below.heap_alloc _ _ _ (by simp)).trans (heap_alloc_new w _)
  have hz : W0.heap[w.heap.size + 1]? = some (.cells #[.int .i64 0, .int .i64 0] 32 (0, 0)) := by
    rw [← hW0]; have := heap_alloc_new (w.alloc (.cells R.arr 26)) (.cells #[.int .i64 0, .int .i64 0] 32); simpa using this
  have HBG := Lib.hid (begin_ok R W0 (hA.below h0) ok)
  have HO := Lib.hid ok
  have H0 := Lib.hid (And.intro h0 hz)
  have c0 := blk_cell hb 0 rfl
  have c1 := blk_cell hb 1 rfl
  have c2 := blk_cell hb 2 rfl
  have c3 := blk_cell hb 3 rfl
  have c4 := blk_cell hb 4 rfl
  have c5 := blk_cell hb 5 rfl
  have c6 := blk_cell hb 6 rfl
  have c7 := blk_cell hb 7 rfl
  clear hA ok h0 hb hz
  go_enter Try.func6, Try.ntmps6
  go_wp2_with (fail)
  refine HBG.out.mono ?_
  rintro e w1 ⟨B, rfl, hK, hBl, hb1⟩
  have H1 : Hid (WkAt w1 R B ∧ Below w.heap.size w w1 ∧ w1.heap[w.heap.size + 1]? = some (.cells #[.int .i64 0, .int .i64 0] 32 (0, 0))) := ⟨hK, H0.out.1.trans (hb1.mono H0.out.1.size), blk_below H0.out.2 hb1⟩
  clear hW0 hK hBl hb1 c0 c1 c2 c3 c4 c5 c6 c7
  have c0 := blk_cell H1.out.1.b 0 rfl
  have c1 := blk_cell H1.out.1.b 1 rfl
  have c2 := blk_cell H1.out.1.b 2 rfl
  have c3 := blk_cell H1.out.1.b 3 rfl
  have c4 := blk_cell H1.out.1.b 4 rfl
  have c5 := blk_cell H1.out.1.b 5 rfl
  have c6 := blk_cell H1.out.1.b 6 rfl
  have c7 := blk_cell H1.out.1.b 7 rfl
  go_wp2_with (fail)
  refine (hasState_any R s w1 HO.out.dlen).mono ?_
  rintro e w2 ⟨rfl, hb2⟩
  rw [hws]
  have H2 : Hid (WkAt w2 R B ∧ Below w.heap.size w w2 ∧ w2.heap[w.heap.size + 1]? = some (.cells #[.int .i64 0, .int .i64 0] 32 (0, 0))) := ⟨H1.out.1.below hb2, H1.out.2.1.trans (hb2.mono H1.out.2.1.size), blk_below H1.out.2.2 hb2⟩
  clear hb2
  clear c0 c1 c2 c3 c4 c5 c6 c7
  have c0 := blk_cell H2.out.1.b 0 rfl
  have c1 := blk_cell H2.out.1.b 1 rfl
  have c2 := blk_cell H2.out.1.b 2 rfl
  have c3 := blk_cell H2.out.1.b 3 rfl
  have c4 := blk_cell H2.out.1.b 4 rfl
  have c5 := blk_cell H2.out.1.b 5 rfl
  have c6 := blk_cell H2.out.1.b 6 rfl
  have c7 := blk_cell H2.out.1.b 7 rfl
  go_wp2_with (fail)
  refine (hasClick_any R c w2 HO.out.clicks).mono ?_
  rintro e w3 ⟨rfl, hb3⟩
  rw [hwc]
  have H3 : Hid (WkAt w3 R B ∧ Below w.heap.size w w3 ∧ w3.heap[w.heap.size + 1]? = some (.cells #[.int .i64 0, .int .i64 0] 32 (0, 0))) := ⟨H2.out.1.below hb3, H2.out.2.1.trans (hb3.mono H2.out.2.1.size), blk_below H2.out.2.2 hb3⟩
  clear hb3
  clear c0 c1 c2 c3 c4 c5 c6 c7
  obtain ⟨b, off, had, hbs, hcc⟩ := HDA.out (by omega)
  have H3B := Lib.hid hbs
  have hds := (hcc s hs).trans (by rw [List.getElem?_eq_getElem hs]; rfl : _ = some (.int .i64 R.r.drifts[s]))
  have HS := Lib.hid fun W B (hK : WkAt W R B ∧ Below w.heap.size w W) => (⟨by rw [← had]; exact blk_cell hK.1.b 5 rfl, (hK.2.cell (p := ⟨b, off + s, none⟩) H3B.out).trans hds, by rw [← hgd]; exact blk_cell hK.1.b 8 rfl⟩ : W.cell? ⟨B, 5, none⟩ = some (.slice (some ⟨b, off, none⟩) R.r.drifts.length R.cd) ∧ W.cell? ⟨b, off + s, none⟩ = some (.int .i64 R.r.drifts[s]) ∧ W.cell? ⟨B, 8, none⟩ = some (.int .i64 d))
  have hs' : (s : Int) < (R.r.drifts.length : Int) := by omega
  rw [had]
  clear hcc hds had hbs
  generalize R.r.drifts[s] = x at HS HH
  go_wp2_with (fail)
  have HS0 := Lib.hid ((HS.out _ B ⟨H3.out.1.below (Below.refl _ _).drew, H3.out.2.1.drew⟩ : w3.drew.cell? ⟨B, 5, none⟩ = some (.slice (some ⟨b, off, none⟩) R.r.drifts.length R.cd) ∧ w3.drew.cell? ⟨b, off + s, none⟩ = some (.int .i64 x) ∧ w3.drew.cell? ⟨B, 8, none⟩ = some (.int .i64 d)))
  refine wp_region_split (S := fun w' => w'.cell? ⟨B, 5, none⟩ = some (.slice (some ⟨b, off, none⟩) R.r.drifts.length R.cd) ∧ w'.cell? ⟨b, off + s, none⟩ = some (.int .i64 x) ∧ w'.cell? ⟨B, 8, none⟩ = some (.int .i64 d)) [16, 17] 16 (by kernel_rfl) (by kernel_rfl) rfl ?_
  rw [show firstL _ [16, 17] = #[false, false, false, false, false, false, false, false, false, false, false, false, false, false, false, false, true, true] from by kernel_rfl]
  refine wpAnyH_take (i := 0) (v := ?v0_1) rfl (by kernel_rfl) (by kernel_rfl) (by kernel_rfl) (fun _ _ _ h => h) (Or.inl ⟨by rfl, ?h0_1⟩) HS0.out ?r0_1
  case h0_1 => (intro W hSw; have u1 := hSw.1; have u2 := hSw.2.1; have u3 := hSw.2.2; clear hSw; go_simp; try with_reducible rfl)
  simp only [Act.put, List.getElem_toArray, List.getElem_cons_zero, List.setIfInBounds_toArray, List.set_cons_zero, List.set_cons_succ]
  refine wpAnyH_take (i := 1) (v := ?v1_2) rfl (by kernel_rfl) (by kernel_rfl) (by kernel_rfl) (fun _ _ _ h => h) (Or.inl ⟨by rfl, ?h1_2⟩) HS0.out ?r1_2
  case h1_2 => (intro W hSw; have u1 := hSw.1; have u2 := hSw.2.1; have u3 := hSw.2.2; clear hSw; go_simp; try with_reducible rfl)
  simp only [Act.put, List.getElem_toArray, List.getElem_cons_succ, List.getElem_cons_zero, List.setIfInBounds_toArray, List.set_cons_zero, List.set_cons_succ]
  refine wpAnyH_take (i := 2) (v := ?v2_3) rfl (by kernel_rfl) (by kernel_rfl) (by kernel_rfl) (fun _ _ _ h => h) (Or.inl ⟨by rfl, ?h2_3⟩) HS0.out ?r2_3
  case h2_3 => (intro W hSw; have u1 := hSw.1; have u2 := hSw.2.1; have u3 := hSw.2.2; clear hSw; go_simp; try with_reducible rfl)
  simp only [Act.put, List.getElem_toArray, List.getElem_cons_succ, List.getElem_cons_zero, List.setIfInBounds_toArray, List.set_cons_zero, List.set_cons_succ]
  refine wpAnyH_take (i := 3) (v := ?v3_4) rfl (by kernel_rfl) (by kernel_rfl) (by kernel_rfl) (fun _ _ _ h => h) (Or.inl ⟨by rfl, ?h3_4⟩) HS0.out ?r3_4
  case h3_4 => (intro W hSw; have u1 := hSw.1; have u2 := hSw.2.1; have u3 := hSw.2.2; clear hSw; go_simp; try with_reducible rfl)
  simp only [Act.put, List.getElem_toArray, List.getElem_cons_succ, List.getElem_cons_zero, List.setIfInBounds_toArray, List.set_cons_zero, List.set_cons_succ]
  refine wpAnyH_take (i := 4) (v := ?v4_5) rfl (by kernel_rfl) (by kernel_rfl) (by kernel_rfl) (fun _ _ _ h => h) (Or.inl ⟨by rfl, ?h4_5⟩) HS0.out ?r4_5
  case h4_5 => (intro W hSw; have u1 := hSw.1; have u2 := hSw.2.1; have u3 := hSw.2.2; clear hSw; go_simp; try with_reducible rfl)
  simp only [Act.put, List.getElem_toArray, List.getElem_cons_succ, List.getElem_cons_zero, List.setIfInBounds_toArray, List.set_cons_zero, List.set_cons_succ]
  refine wpAnyH_take (i := 5) (v := ?v5_6) rfl (by kernel_rfl) (by kernel_rfl) (by kernel_rfl) (fun _ _ _ h => h) (Or.inl ⟨by rfl, ?h5_6⟩) HS0.out ?r5_6
  case h5_6 => (intro W hSw; have u1 := hSw.1; have u2 := hSw.2.1; have u3 := hSw.2.2; clear hSw; go_simp; try with_reducible rfl)
  simp only [Act.put, List.getElem_toArray, List.getElem_cons_succ, List.getElem_cons_zero, List.setIfInBounds_toArray, List.set_cons_zero, List.set_cons_succ]
  refine wpAnyH_take (i := 6) (v := ?v6_7) rfl (by kernel_rfl) (by kernel_rfl) (by kernel_rfl) (fun _ _ _ h => h) (Or.inl ⟨by rfl, ?h6_7⟩) HS0.out ?r6_7
  case h6_7 => (intro W hSw; have u1 := hSw.1; have u2 := hSw.2.1; have u3 := hSw.2.2; clear hSw; go_simp; try with_reducible rfl)
  simp only [Act.put, List.getElem_toArray, List.getElem_cons_succ, List.getElem_cons_zero, List.setIfInBounds_toArray, List.set_cons_zero, List.set_cons_succ]
  refine wpAnyH_take (i := 7) (v := ?v7_8) rfl (by kernel_rfl) (by kernel_rfl) (by kernel_rfl) (fun _ _ _ h => h) (Or.inl ⟨by rfl, ?h7_8⟩) HS0.out ?r7_8
  case h7_8 => (intro W hSw; have u1 := hSw.1; have u2 := hSw.2.1; have u3 := hSw.2.2; clear hSw; go_simp; try with_reducible rfl)
  simp only [Act.put, List.getElem_toArray, List.getElem_cons_succ, List.getElem_cons_zero, List.setIfInBounds_toArray, List.set_cons_zero, List.set_cons_succ]
  refine wpAnyH_take (i := 8) (v := ?v8_9) rfl (by kernel_rfl) (by kernel_rfl) (by kernel_rfl) (fun _ _ _ h => h) (Or.inl ⟨by rfl, ?h8_9⟩) HS0.out ?r8_9
  case h8_9 => (intro W hSw; have u1 := hSw.1; have u2 := hSw.2.1; have u3 := hSw.2.2; clear hSw; go_simp; try with_reducible rfl)
  simp only [Act.put, List.getElem_toArray, List.getElem_cons_succ, List.getElem_cons_zero, List.setIfInBounds_toArray, List.set_cons_zero, List.set_cons_succ]
  refine wpAnyH_take (i := 9) (v := ?v9_10) rfl (by kernel_rfl) (by kernel_rfl) (by kernel_rfl) (fun _ _ _ h => h) (Or.inl ⟨by rfl, ?h9_10⟩) HS0.out ?r9_10
  case h9_10 => (intro W hSw; have u1 := hSw.1; have u2 := hSw.2.1; have u3 := hSw.2.2; clear hSw; go_simp; try with_reducible rfl)
  simp only [Act.put, List.getElem_toArray, List.getElem_cons_succ, List.getElem_cons_zero, List.setIfInBounds_toArray, List.set_cons_zero, List.set_cons_succ]
  refine wpAnyH_take (i := 11) (v := ?v11_11) rfl (by kernel_rfl) (by kernel_rfl) (by kernel_rfl) (fun _ _ _ h => h) (Or.inl ⟨by rfl, ?h11_11⟩) HS0.out ?r11_11
  case h11_11 => (intro W hSw; have u1 := hSw.1; have u2 := hSw.2.1; have u3 := hSw.2.2; clear hSw; go_simp; try with_reducible rfl)
  simp only [Act.put, List.getElem_toArray, List.getElem_cons_succ, List.getElem_cons_zero, List.setIfInBounds_toArray, List.set_cons_zero, List.set_cons_succ]
  refine wpAnyH_take (i := 12) (v := ?v12_12) rfl (by kernel_rfl) (by kernel_rfl) (by kernel_rfl) (fun _ _ _ h => h) (Or.inl ⟨by rfl, ?h12_12⟩) HS0.out ?r12_12
  case h12_12 => (intro W hSw; have u1 := hSw.1; have u2 := hSw.2.1; have u3 := hSw.2.2; clear hSw; go_simp; try with_reducible rfl)
  simp only [Act.put, List.getElem_toArray, List.getElem_cons_succ, List.getElem_cons_zero, List.setIfInBounds_toArray, List.set_cons_zero, List.set_cons_succ]
  refine wpAnyH_take (i := 13) (v := ?v13_13) rfl (by kernel_rfl) (by kernel_rfl) (by kernel_rfl) (fun _ _ _ h => h) (Or.inl ⟨by rfl, ?h13_13⟩) HS0.out ?r13_13
  case h13_13 => (intro W hSw; have u1 := hSw.1; have u2 := hSw.2.1; have u3 := hSw.2.2; clear hSw; go_simp; try with_reducible rfl)
  simp only [Act.put, List.getElem_toArray, List.getElem_cons_succ, List.getElem_cons_zero, List.setIfInBounds_toArray, List.set_cons_zero, List.set_cons_succ]
  refine wpAnyH_take (i := 14) (v := ?v14_14) rfl (by kernel_rfl) (by kernel_rfl) (by kernel_rfl) (fun _ _ _ h => h) (Or.inl ⟨by rfl, ?h14_14⟩) HS0.out ?r14_14
  case h14_14 => (intro W hSw; have u1 := hSw.1; have u2 := hSw.2.1; have u3 := hSw.2.2; clear hSw; go_simp; try with_reducible rfl)
  simp only [Act.put, List.getElem_toArray, List.getElem_cons_succ, List.getElem_cons_zero, List.setIfInBounds_toArray, List.set_cons_zero, List.set_cons_succ]
  refine wpAnyH_ready (rs := [10]) (by kernel_rfl) (by simp) ?_
  refine AllReadyH.cons (o := _) rfl (fun K hK => ?_) AllReadyH.nil
  go_simp
  go_at_call 17
  refine (HH.out _ B (H3.out.1.below (Below.refl _ _).drew)).mono ?_
  rintro e w4 ⟨rfl, hb⟩
  have hb4 : Below w3.heap.size w3 w4 := ⟨hb.os, hb.tape, hb.output, hb.size, hb.block⟩
  clear hb
  have H4 : Hid (WkAt w4 R B ∧ Below w.heap.size w w4 ∧ w4.heap[w.heap.size + 1]? = some (.cells #[.int .i64 0, .int .i64 0] 32 (0, 0))) := ⟨H3.out.1.below hb4, H3.out.2.1.trans (hb4.mono H3.out.2.1.size), blk_below H3.out.2.2 hb4⟩
  clear hb4
  refine hK.out _ _ (HS.out _ _ ⟨H4.out.1, H4.out.2.1⟩) (fun _ => ?_)
  clear hK
  simp only [List.setIfInBounds_toArray, List.set_cons_zero, List.set_cons_succ]
  refine wpAnyH_ready (rs := [15]) (by kernel_rfl) (by simp) ?_
  refine AllReadyH.cons (o := _) rfl (fun K hK => ?_) AllReadyH.nil
  go_simp
  go_at_call 16
  refine (HR.out _).mono ?_
  rintro e w5 ⟨rfl, hb5⟩
  have H5 : Hid (WkAt w5 R B ∧ Below w.heap.size w w5 ∧ w5.heap[w.heap.size + 1]? = some (.cells #[.int .i64 0, .int .i64 0] 32 (0, 0))) := ⟨H4.out.1.below hb5, H4.out.2.1.trans (hb5.mono H4.out.2.1.size), blk_below H4.out.2.2 hb5⟩
  clear hb5
  refine hK.out _ _ (HS.out _ _ ⟨H5.out.1, H5.out.2.1⟩) (fun _ => ?_)
  clear hK
  simp only [List.setIfInBounds_toArray, List.set_cons_zero, List.set_cons_succ]
  refine wpAnyH_done (by kernel_rfl) ?_ _
  show wpList _ _ _ (opsAt _ [16, 17]) _ _
  simp only [opsAt, List.filterMap_cons, List.filterMap_nil, List.getElem?_toArray, List.getElem?_cons_succ, List.getElem?_cons_zero]
  have m0 := blk_cell H5.out.2.2 0 rfl
  have m1 := blk_cell H5.out.2.2 1 rfl
  have k0 := blk_free (j := 0) H5.out.2.2
  have k1 := blk_free (j := 1) H5.out.2.2
  have hz10 := blk_setCell (j := 1) (u := .int .i64 d1) (blk_setCell (j := 0) (u := .int .i64 n1) H5.out.2.2)
  have hb10 : Below w.heap.size w ((w5.setCell ⟨w.heap.size + 1, 0, none⟩ (.int .i64 n1)).setCell ⟨w.heap.size + 1, 1, none⟩ (.int .i64 d1)) := (H5.out.2.1.setCell (by show w.heap.size ≤ w.heap.size + 1; omega) _).setCell (by show w.heap.size ≤ w.heap.size + 1; omega) _
  have HF := Lib.hid (And.intro hz10 hb10)
  clear hz10 hb10
  go_wp2_with (fail)
  have q0 := blk_cell HF.out.1 0 rfl
  have q1 := blk_cell HF.out.1 1 rfl
  clear m0 m1 k0 k1
  exact bodyPost_ret (v := .tuple #[.agg #[.int .i64 n1, .int .i64 d1], .int .i64 0]) (by simp [results, Try.results6, go_sem, q0, q1]) rfl ⟨by rw [← HE.out.1, ← HE.out.2], HF.out.2⟩

end Go.Proofs.Ytiggelffmfinoaa
