/-
The contract of play over this seat's program, with the piles.
  What is proved: the tale that play hands back, its piles too.
  Conditions: lists of as many numbers as there are days, at most 60; numbers of at most 100000; a stock from 0 to the store, which is at most 1000000.
-/
import Derived.Test.YtpkegiekpnaejaaPartP0
import Derived.Laws.EntriesVeiled
namespace Go.Proofs.Ytpkegiekpnaejaa
open Go.RowKit Go.Shelf
attribute [local go_sem] Oper.semAt_some

set_option maxRecDepth 100000 in
set_option maxHeartbeats 4000000 in
theorem play_piles (stock store : Int) (a : Option Addr) (n cap : Nat) (an : Option Addr) (N : List Int) (cn : Nat) (am : Option Addr) (M : List Int) (cm : Nat) (al : Option Addr) (L : List Int) (cl : Nat) (w : World)
    (hN : IntSl w an N) (hM : IntSl w am M) (hL : IntSl w al L) (hNn : N.length = n) (hMn : M.length = n) (hLn : L.length = n) (hn : n ≤ 60) (hst : 0 ≤ stock ∧ stock ≤ store ∧ store ≤ 1000000)
    (hb : (∀ x ∈ N, 0 ≤ x ∧ x ≤ 100000) ∧ (∀ x ∈ M, 0 ≤ x ∧ x ≤ 100000) ∧ (∀ x ∈ L, 0 ≤ x ∧ x ≤ 100000)) :
    Calls Try.prog 101 #[sv stock store a n cap an n cn am n cm al n cl] w (OutTaleP w (playL stock store N M L n) (pileL stock store N M L n)) := by
  have HH := Lib.hid (And.intro hN (And.intro hM (And.intro hL (And.intro hNn (And.intro hMn hLn)))))
  have HB := Lib.hid hb
  have HS := Lib.hid hst
  clear hN hM hL hNn hMn hLn hb hst
  obtain ⟨Wa, hWa⟩ : ∃ Wa, (w.alloc (.cells #[.int .i64 stock, .int .i64 store, .slice a n cap, .slice an n cn, .slice am n cm, .slice al n cl] 157)).alloc (.cells #[.slice none 0 0, .slice none 0 0, .slice none 0 0, .int .i64 0, .int .i64 0] 146) = Wa := ⟨_, rfl⟩
  have hba : Below w.heap.size w Wa := by rw [← hWa]; exact ((Below.refl _ _).alloc (Nat.le_refl _) _).alloc (by simp) _
  have h0 : Wa.heap[w.heap.size]? = some (.cells #[.int .i64 stock, .int .i64 store, .slice a n cap, .slice an n cn, .slice am n cm, .slice al n cl] 157 (0, 0)) := by rw [← hWa]; exact alk (new_at rfl)
  have r0 : Wa.heap[w.heap.size + 1]? = some (.cells #[.slice none 0 0, .slice none 0 0, .slice none 0 0, .int .i64 0, .int .i64 0] 146 (0, 0)) := by rw [← hWa]; exact new_at (by simp)
  have c0 := blk_cell h0 0 rfl
  go_enter Try.func101, Try.ntmps101
  go_wp2
  go_step3
  have hbc : Below Wa.heap.size Wa (Wa.alloc (.cells #[.int .i64 (-1), .int .i64 stock] 106)) := (Below.refl _ _).alloc (Nat.le_refl _) _
  have hnc : (Wa.alloc (.cells #[.int .i64 (-1), .int .i64 stock] 106)).heap[Wa.heap.size]? = some (.cells #[.int .i64 (-1), .int .i64 stock] 106 (0, 0)) := heap_alloc_new _ _
  go_wp2_with (fail)
  have HC0 := drained_piles (some ⟨Wa.heap.size, 0, none⟩) [⟨-1, stock⟩] 1 1 0 _ (pair_sl hnc) rfl (fun h => by cases h) (Nat.le_refl _) (by omega) (by omega) (fun p hp => by
    have e : p = ⟨-1, stock⟩ := by simpa using hp
    have h := HS.out
    subst e
    exact ⟨h.1, by show stock ≤ 10000000; omega⟩)
  obtain ⟨F0, hF0⟩ : ∃ F0, drainS [⟨-1, stock⟩] 0 = F0 := ⟨_, rfl⟩
  have hF0l : F0.length ≤ 1 := by rw [← hF0]; exact drainS_len _ _
  rw [hF0] at HC0
  have HF0 := Lib.hid hF0
  clear hF0
  refine HC0.mono ?_
  rintro e w1 ⟨pa, pcap, rfl, hown, hb1⟩
  clear HC0
  have hza : Wa.heap.size = w.heap.size + 2 := by rw [← hWa]; simp
  have hown' : w1.ownsRow (w.heap.size + 2) 106 2 (.slice pa F0.length pcap) F0.length ((flatS F0).map (Value.int .i64)) := owns_mono hown (by rw [World.size_alloc, hza]; omega)
  have k1 : Below w.heap.size w w1 := below_self (below_self hba hbc) hb1
  have h1 := blk_below (blk_below h0 hbc) hb1
  have r1 := blk_below (blk_below r0 hbc) hb1
  have hz1 : w.heap.size + 3 ≤ w1.heap.size := by have := hb1.size; rw [World.size_alloc, hza] at this; omega
  clear hnc hown hb1 hbc h0 r0 c0 hba hza hWa
  obtain ⟨Wt, hWt⟩ : ∃ Wt, w1.alloc (.cells #[.slice none 0 0, .slice none 0 0, .slice pa F0.length pcap, .int .i64 (-1), .int .i64 (-1)] 146) = Wt := ⟨_, rfl⟩
  have hbt : Below w1.heap.size w1 Wt := by rw [← hWt]; exact (Below.refl _ _).alloc (Nat.le_refl _) _
  have hT : Wt.heap[w1.heap.size]? = some (.cells #[.slice none 0 0, .slice none 0 0, .slice pa F0.length pcap, .int .i64 (-1), .int .i64 (-1)] 146 (0, 0)) := by rw [← hWt]; exact heap_alloc_new _ _
  have hPW : PV w w1.heap.size (sv stock store a n cap an n cn am n cm al n cl) ⟨stock, [], [], -1, -1⟩ F0 0 Wt :=
    ⟨below_self k1 hbt, by omega, blk_below h1 hbt, blk_below r1 hbt, _, _, _, hT, World.ownsRow_nil _ _ _ _, World.ownsRow_nil _ _ _ _, owns_below hown' hbt, by omega, (fun i h => by cases h)⟩
  have d0 := blk_cell (blk_below h1 hbt) 0 rfl
  have d2 := blk_cell (blk_below h1 hbt) 2 rfl
  have HP := Lib.hid hPW
  clear hPW hT hbt k1 h1 r1 hown' hF0l
  generalize hTT : w1.heap.size = T at HP hz1 hWt ⊢
  go_wp2_with (fail)
  go_step3
  go_wp2_with (fail)
  clear hWt d0 d2 hTT
  go_loopw [4, 24] (fun st i wr => ∃ (k : Nat) (s : Ps) (F : List Sp), k ≤ n ∧ i = .int .i64 k ∧ Hid (s = playL stock store N M L k) ∧ st = .int .i64 s.stock ∧ Hid (s.fails = -1) ∧ Hid (0 ≤ s.stock ∧ s.stock ≤ store) ∧ Hid (F = pileL stock store N M L k) ∧ Hid (PV w T (sv stock store a n cap an n cn am n cm al n cl) s F k wr)) (fun _ i _ => n - (intOf i).toNat)
  case atStart => exact ⟨0, _, _, Nat.zero_le _, rfl, rfl, rfl, rfl, ⟨HS.out.1, HS.out.2.1⟩, HF0.out.symm, HP⟩
  case round =>
    obtain ⟨k, s, F, hk, rfl, hs, rfl, hf, hst, hF, hpw⟩ := hrel
    by_cases hlt : k < n
    · obtain ⟨hN, hM, hL, hNn, hMn, hLn⟩ := HH.out
      obtain ⟨bn, on, rfl, hbn, hcn⟩ := hN (by omega)
      obtain ⟨bm, om, rfl, hbm, hcm⟩ := hM (by omega)
      obtain ⟨bl, ol, rfl, hbl, hcl⟩ := hL (by omega)
      have cN := (hpw.out.b.cell (p := ⟨bn, on + k, none⟩) hbn).trans (hcn k (by omega))
      have cM := (hpw.out.b.cell (p := ⟨bm, om + k, none⟩) hbm).trans (hcm k (by omega))
      have cL := (hpw.out.b.cell (p := ⟨bl, ol + k, none⟩) hbl).trans (hcl k (by omega))
      have bN : 0 ≤ N[k]?.getD 0 ∧ N[k]?.getD 0 ≤ 100000 := HB.out.1 _ (by rw [List.getElem?_eq_getElem (by omega)]; exact List.getElem_mem _)
      have bM : 0 ≤ M[k]?.getD 0 ∧ M[k]?.getD 0 ≤ 100000 := HB.out.2.1 _ (by rw [List.getElem?_eq_getElem (by omega)]; exact List.getElem_mem _)
      have bL : 0 ≤ L[k]?.getD 0 ∧ L[k]?.getD 0 ≤ 100000 := HB.out.2.2 _ (by rw [List.getElem?_eq_getElem (by omega)]; exact List.getElem_mem _)
      have HSTEP : Hid (playL stock store N M L (k + 1) = stepP store s k (N[k]?.getD 0) (M[k]?.getD 0) (L[k]?.getD 0)) := by show _ = _; rw [playL_succ, ← hs.out]
      have HPST : Hid (pileL stock store N M L (k + 1) = pileStep store s F k (N[k]?.getD 0) (M[k]?.getD 0) (L[k]?.getD 0)) := by show _ = _; rw [pileL, ← hs.out, ← hF.out]
      have HPB : Hid (Pil stock s.made F ∧ sumS F = s.stock) := by
        have h := pile_inv (N := N) (M := M) (L := L) ⟨HS.out.1, HS.out.2.1⟩ (getD_pos HB.out.2.1) (getD_pos HB.out.2.2) (getD_pos HB.out.1) k
        rw [← hs.out, ← hF.out] at h
        exact ⟨h.1, h.2.1⟩
      generalize N[k]?.getD 0 = nk at cN bN HSTEP HPST
      generalize M[k]?.getD 0 = mk at cM bM HSTEP HPST
      generalize L[k]?.getD 0 = lk at cL bL HSTEP HPST
      have c1 := blk_cell hpw.out.sp 1 rfl
      have c3 := blk_cell hpw.out.sp 3 rfl
      have c4 := blk_cell hpw.out.sp 4 rfl
      have c5 := blk_cell hpw.out.sp 5 rfl
      have hst' := hst.out
      have hS3 := HS.out
      clear hcn hcm hcl hN hM hL
      go_wp2_with (fail)
      go_quiet (fail)
      clear cN cM c1 c3 c4 HP hz1
      have HB3 := Lib.hid (And.intro hS3 (And.intro hst' (And.intro bN (And.intro bM bL))))
      have hn' := hn
      have HLT := Lib.hid hlt
      clear hS3 hst' hn bN bM bL
      go_upto_region 8 with (fail)
      have hlo : (if s.stock < lk then s.stock else lk) = lostD s.stock lk := by unfold lostD; have := HB3.out; split <;> omega
      have blo : 0 ≤ lostD s.stock lk ∧ lostD s.stock lk ≤ s.stock := by unfold lostD; have := HB3.out; omega
      rw [hlo]
      clear hlo
      have hpw2 := Lib.hid (hpw.out.drewN nq)
      clear hpw
      generalize wr.drewN nq = W1 at hpw2 ⊢
      have c1 := blk_cell hpw2.out.sp 1 rfl
      obtain ⟨lo, hlo⟩ : ∃ lo, lostD s.stock lk = lo := ⟨_, rfl⟩
      rw [hlo] at blo ⊢
      have HLO := Lib.hid hlo
      clear hlo
      have b1 := HB3.out.1
      have b2 := HB3.out.2.1
      have b3 := HB3.out.2.2.2.1
      go_upto_region 9 with (fail)
      have hma' : (if store - (s.stock - lo) < mk then store - (s.stock - lo) else mk) = madeD store s.stock mk lk := by unfold madeD; rw [HLO.out]; split <;> omega
      have bma : 0 ≤ madeD store s.stock mk lk ∧ madeD store s.stock mk lk ≤ mk ∧ s.stock - lo + madeD store s.stock mk lk ≤ store := by unfold madeD; rw [HLO.out]; omega
      rw [hma']
      clear hma' c1
      obtain ⟨ma, hma⟩ : ∃ ma, madeD store s.stock mk lk = ma := ⟨_, rfl⟩
      rw [hma] at bma ⊢
      have HMA := Lib.hid hma
      clear hma
      by_cases hfu : ma < mk
      · have g3 := hpw2.out.free.2.1 4
        have g4 := hpw2.out.free.2.2.2
        obtain ⟨_, _, _, hT2, _⟩ := hpw2.out.t
        have t3 := blk_cell hT2 4 rfl
        clear hT2
        go_upto_region 11 with (fail)
        have hpw3 := Lib.hid (hpw2.out.put (s' := ⟨s.stock, s.stocks, s.made, s.fails, if ma < mk then (k : Int) else s.full⟩) 4 k ⟨rfl, rfl⟩ (.inr ⟨rfl, rfl, if_pos hfu⟩))
        clear hpw2 g3 g4 t3
        generalize W1.setCell ⟨T, 4, none⟩ (.int .i64 k) = W2 at hpw3 ⊢
        clear hfu
        generalize hs2' : (⟨s.stock, s.stocks, s.made, s.fails, if ma < mk then (k : Int) else s.full⟩ : Ps) = s2 at hpw3
        have hs2 := Lib.hid hs2'
        clear hs2'
        go_upto_region 13 with (fail)
        generalize hst2 : s.stock + (ma - lo) = st2
        have HST := Lib.hid hst2
        have bst : 0 ≤ st2 ∧ st2 ≤ store ∧ store ≤ 1000000 := by omega
        have HBL := Lib.hid (And.intro blo (And.intro bma b1))
        clear hst2 blo bma b1 b2 b3
        by_cases hfa : st2 < nk
        · skip
          have HF : Hid (playL stock store N M L n = ⟨s2.stock, s2.stocks, s2.made, k, s2.full⟩) := by
            show _ = _
            have h1 : playL stock store N M L (k + 1) = ⟨s2.stock, s2.stocks, s2.made, k, s2.full⟩ := by
              rw [HSTEP.out, stepP, if_pos hf.out, HMA.out, HLO.out, if_pos (by rw [HST.out]; exact hfa), ← hs2.out]
            rw [← h1]
            exact playL_stop _ _ _ _ _ _ (by rw [h1]; show (k : Int) ≠ -1; omega) _ (by omega)
          have HFP : Hid (pileL stock store N M L n = F) := by
            show _ = _
            have h1 : playL stock store N M L (k + 1) = ⟨s2.stock, s2.stocks, s2.made, k, s2.full⟩ := by
              rw [HSTEP.out, stepP, if_pos hf.out, HMA.out, HLO.out, if_pos (by rw [HST.out]; exact hfa), ← hs2.out]
            rw [pileL_stop stock store N M L (k + 1) (by rw [h1]; show (k : Int) ≠ -1; omega) n (by omega), HPST.out, pileStep, if_pos hf.out, HMA.out, HLO.out, if_pos (by rw [HST.out]; exact hfa)]
          obtain ⟨W3, hW3⟩ : ∃ W3, W2.setCell ⟨T, 3, none⟩ (.int .i64 k) = W3 := ⟨_, rfl⟩
          have hpw4 : Hid (PV w T (sv stock store a n cap (some ⟨bn, on, none⟩) n cn (some ⟨bm, om, none⟩) n cm (some ⟨bl, ol, none⟩) n cl) ⟨s2.stock, s2.stocks, s2.made, k, s2.full⟩ F k W3) := by rw [← hW3]; exact hpw3.out.put 3 k ⟨rfl, rfl⟩ (.inl ⟨rfl, rfl, rfl⟩)
          have g3 := hpw3.out.free.2.1 3
          have g4 := hpw3.out.free.2.2.2
          obtain ⟨_, _, _, hT2, _⟩ := hpw3.out.t
          have t3 := blk_cell hT2 3 rfl
          clear hT2
          obtain ⟨sa, sc, ma', mc, pa2, pc, hTc, HC, HO⟩ := hpw4.out.end
          have r0 := hpw4.out.rs
          have b0 := blk_cell r0 0 rfl
          have b1 := blk_cell r0 1 rfl
          have b2 := blk_cell r0 2 rfl
          have b3 := blk_cell r0 3 rfl
          have b4 := blk_cell r0 4 rfl
          have f0 := blk_free (j := 0) r0
          have f1 := blk_free (j := 1) r0
          have f2 := blk_free (j := 2) r0
          have f3 := blk_free (j := 3) r0
          have f4 := blk_free (j := 4) r0
          have e0 := blk_cell hTc 0 rfl
          have e1 := blk_cell hTc 1 rfl
          have e2 := blk_cell hTc 2 rfl
          have e3 := blk_cell hTc 3 rfl
          have e4 := blk_cell hTc 4 rfl
          clear hTc r0
          go_wp2_with (fail)
          clear b0 b1 b2 b3 b4 f0 f1 f2 f3 f4 e0 e1 e2 e3 e4
          try rw [Exit.noGoto_ret]
          generalize (((((W3.setCell ⟨w.heap.size + 1, 0, none⟩ (.slice sa s2.stocks.length sc)).setCell ⟨w.heap.size + 1, 1, none⟩ (.slice ma' s2.made.length mc)).setCell ⟨w.heap.size + 1, 2, none⟩ (.slice pa2 F.length pc)).setCell ⟨w.heap.size + 1, 3, none⟩ (.int .i64 k)).setCell ⟨w.heap.size + 1, 4, none⟩ (.int .i64 s2.full)) = W5 at HC HO ⊢
          have q0 := blk_cell HC.out 0 rfl
          have q1 := blk_cell HC.out 1 rfl
          have q2 := blk_cell HC.out 2 rfl
          have q3 := blk_cell HC.out 3 rfl
          have q4 := blk_cell HC.out 4 rfl
          refine bodyPost_ret (v := .agg #[.slice sa s2.stocks.length sc, .slice ma' s2.made.length mc, .slice pa2 F.length pc, .int .i64 k, .int .i64 s2.full]) (by simp [results, Try.results101, go_sem, q0, q1, q2, q3, q4]) rfl ?_
          rw [HF.out, HFP.out]
          exact HO.out

        · have bst4 : 0 ≤ st2 - nk ∧ st2 - nk ≤ 1000000 := by have := HB3.out.2.2.1; omega
          have BST := Lib.hid bst
          obtain ⟨sl, ml, pl, hTc, hO1, hO2, hO3, hnp2, hdis⟩ := hpw3.out.t
          obtain ⟨pa3, pc3, rfl, _⟩ := flats_of_owns hO3
          have HF := Lib.hid (owns_form hO3)
          have p2 := blk_cell hTc 2 rfl
          have p3 := blk_free (j := 2) hTc
          have HNP := Lib.hid hnp2
          have HTc := Lib.hid hTc
          have hTlt := lt_of_block hTc
          have HHn := Lib.hid hn'
          clear hTc hO1 hO2 hO3 hnp2 hdis bst hn'
          by_cases hmd : 0 < ma
          · go_wp2_with (fail)
            have HC5 := drained_piles pa3 F F.length pc3 lo _ HF.out.1 rfl HF.out.2.2.2.1 HF.out.2.2.2.2.1 (by have := HNP.out; have := HHn.out; omega) (by have := HBL.out; have := HB3.out; omega) (pil_bd HPB.out (by have := HB3.out; omega))
            obtain ⟨F5, hF5⟩ : ∃ F5, drainS F lo = F5 := ⟨_, rfl⟩
            have hnp5 : F5.length ≤ F.length := by rw [← hF5]; exact drainS_len _ _
            rw [hF5] at HC5
            refine HC5.mono ?_
            rintro e w5 ⟨pa5, pc5, rfl, hO5, hb5⟩
            clear HC5
            have HF5 := Lib.hid hF5
            clear hF5
            obtain ⟨j0, hj, hjz0, hjz1, hjz2⟩ := info_parts Try.info106
            have HNP5 : Hid (F5.length ≤ k + 1 ∧ k + 1 ≤ 61) := by have := HNP.out; have := HHn.out; have := HLT.out; exact ⟨by omega, by omega⟩
            have HO5 := Lib.hid hO5
            have HB5 := Lib.hid hb5
            clear hO5 hb5 hnp5 p2 p3
            go_wp2_with (at_builtin; refine wpList_append_own_at _ rfl _ _ 102 rfl W2.heap.size 106 j0 (.agg #[.int .i64 0, .int .i64 0]) 2 16 Try.underlying102 hj hjz0 hjz1 hjz2 rfl (by decide) (.slice pa5 F5.length pc5) F5.length ((flatS F5).map (Value.int .i64)) rfl (HO5.out.alloc _) ⟨w5.heap.size, 0, none⟩ 1 1 [.int .i64 k, .int .i64 ma] rfl rfl (cell_two_new _ _ _ _) (by intro u hu; simp at hu; rcases hu with rfl | rfl <;> rfl) (by have := HNP5.out; unfold maxLen; omega) (by have := HNP5.out; omega) (by have := HB5.out.size; rw [World.size_alloc]; omega) ?_)
            intro v6 w6 hown6 hgrow6 _ hv6
            obtain ⟨g6, cap6, rfl⟩ := ownsRow_succ hown6
            have hb6 : Below W2.heap.size W2 w6 := (HB5.out.alloc HB5.out.size _).grown hgrow6 (by rw [World.size_alloc]; have := HB5.out.size; omega) (fun j hj => (HO5.out.lt j hj).1)
            have hown6' : w6.ownsRow W2.heap.size 106 2 (.slice (some ⟨g6, 0, none⟩) (F5.length + 1) cap6) (F5 ++ [(⟨k, ma⟩ : Sp)]).length ((flatS (F5 ++ [(⟨k, ma⟩ : Sp)])).map (Value.int .i64)) := by rw [flatS_append, List.length_append]; simpa [flatS_cons, show flatS [] = [] from rfl] using hown6
            have HPB6 := Lib.hid (pil_bd2 (k := (k : Int)) HPB.out (by have := HBL.out; exact ⟨this.1.1, this.1.2⟩) hmd (by have := HBL.out; have := HB3.out; omega))
            obtain ⟨F6, hF6⟩ : ∃ F6, F5 ++ [(⟨k, ma⟩ : Sp)] = F6 := ⟨_, rfl⟩
            have hF6l : F6.length = F5.length + 1 := by rw [← hF6]; simp
            rw [HF5.out, hF6] at HPB6
            rw [hF6] at hown6'
            have hpw6 := Lib.hid (hpw3.out.piles (k' := k + 1) hb6 hown6' (by have := HNP5.out; omega))
            have HF6 := Lib.hid hF6
            clear hF6 hF6l
            have t6 := blk_below HTc.out hb6
            have y6 := blk_cell t6 2 rfl
            have y6f := blk_free (j := 2) t6
            clear t6 hown6' hb6 hown6 hgrow6 hv6
            go_upto_region 17 with (fail)
            generalize w6.setCell ⟨T, 2, none⟩ (.slice (some ⟨g6, 0, none⟩) (F5.length + 1) cap6) = W6 at hpw6 ⊢
            clear y6 y6f
            obtain ⟨sl6, ml6, pl6, hTc6, _, _, hO6, hnp6, _⟩ := hpw6.out.t
            obtain ⟨pa6, pc6, rfl, _⟩ := flats_of_owns hO6
            have HG6 := Lib.hid (owns_form hO6)
            have p2 := blk_cell hTc6 2 rfl
            have p3 := blk_free (j := 2) hTc6
            have HNP6 := Lib.hid hnp6
            have HTc6 := Lib.hid hTc6
            have hTlt6 := lt_of_block hTc6
            clear hTc6 hO6 hnp6
            go_wp2_with (fail)
            have HC7 := drained_piles pa6 F6 F6.length pc6 nk W6 HG6.out.1 rfl HG6.out.2.2.2.1 HG6.out.2.2.2.2.1 (by have := HNP6.out; have := HNP5.out; omega) (by have := HB3.out; omega) HPB6.out
            obtain ⟨F7, hF7⟩ : ∃ F7, drainS F6 nk = F7 := ⟨_, rfl⟩
            have hnp7 : F7.length ≤ F6.length := by rw [← hF7]; exact drainS_len _ _
            rw [hF7] at HC7
            refine HC7.mono ?_
            rintro e w7 ⟨pa7, pc7, rfl, hO7, hb7⟩
            clear HC7
            have HEQF : Hid (F7 = pileL stock store N M L (k + 1)) := by
              show _ = _
              rw [HPST.out, pileStep, if_pos hf.out, HMA.out, HLO.out, HST.out, if_neg (by omega), if_pos hmd, HF5.out, HF6.out, hF7]
            clear hF7
            have hpw5 := Lib.hid (hpw6.out.piles (k' := k + 1) hb7 hO7 (by have := HNP6.out; omega))
            have p5 := blk_free (j := 2) (blk_below HTc6.out hb7)
            have p6 := blk_cell (blk_below HTc6.out hb7) 2 rfl
            clear hb7 hO7 hnp7 p2 p3
            go_upto_region 19 with (fail)
            generalize w7.setCell ⟨T, 2, none⟩ (.slice pa7 F7.length pc7) = W5 at hpw5 ⊢
            clear p5 p6
            have HLEN : Hid (s2.stocks.length ≤ 60 ∧ s2.made.length ≤ 60) := by
              have h1 := playL_len stock store N M L k
              rw [← hs.out] at h1
              have h2 := HHn.out
              show _ ∧ _
              rw [← hs2.out]
              exact ⟨by show s.stocks.length ≤ 60; omega, by show s.made.length ≤ 60; omega⟩
            have HEQ : Hid (playL stock store N M L (k + 1) = ⟨st2 - nk, s2.stocks ++ [st2 - nk], s2.made ++ [ma], -1, s2.full⟩) := by
              show _ = _
              rw [HSTEP.out, stepP, if_pos hf.out, HMA.out, HLO.out, HST.out, if_neg (by omega), ← hs2.out]
            have HFL : Hid (s2.fails = -1) := by show _ = _; rw [← hs2.out]; exact hf.out
            obtain ⟨sl5, ml5, pl5, PT5⟩ := hpw5.out.t
            have HPT5 : Hid (PT w T s2 (k + 1) W5 sl5 ml5 pl5 F7.length (flatS F7)) := PT5
            have q0 := blk_cell PT5.1 0 rfl
            have r0 := blk_free (j := 0) PT5.1
            clear PT5
            obtain ⟨i0, hi, hz0, hz1, hz2⟩ := info_parts Try.info3
            go_wp2_with (at_builtin; refine wpList_append_own_at _ rfl _ _ 27 rfl (T + 1) 3 i0 (.int .i64 0) 1 8 Try.underlying27 hi hz0 hz1 hz2 rfl (by decide) sl5 s2.stocks.length (s2.stocks.map (Value.int .i64)) rfl (HPT5.out.2.1.alloc _) ⟨W5.heap.size, 0, none⟩ 1 1 [.int .i64 (st2 - nk)] rfl rfl ?c1 ?c2 ?c3 ?c4 ?c5 ?_)
            case c1 => exact cell_one_new _ _ _
            case c2 => intro u hu; simp at hu; subst hu; rfl
            case c3 => have := HLEN.out.1; unfold maxLen; omega
            case c4 => have := HLEN.out.1; omega
            case c5 => have := lt_of_block HPT5.out.1; rw [World.size_alloc]; omega
            intro v6 w6 hown6 hgrow6 _ hv6
            obtain ⟨g6, cap6, rfl⟩ := ownsRow_succ hown6
            obtain ⟨hpw6, hpt6, hh6⟩ := hpw5.out.push0 HPT5.out _ hown6 hgrow6 (by rw [World.size_alloc]; exact hv6)
            have z0 := hh6.trans HPT5.out.1
            have y0 := blk_cell z0 0 rfl
            have y0f := blk_free (j := 0) z0
            have HPP := Lib.hid (And.intro hpw6 hpt6)
            clear hpw6 hpt6 hh6 z0 hown6 hgrow6 hv6 q0 r0
            go_upto_region 20 with (fail)
            clear y0 y0f
            have hpw6 := HPP.out.1
            have hpt6 := HPP.out.2
            clear HPP
            generalize w6.setCell ⟨T, 0, none⟩ (.slice (some ⟨g6, 0, none⟩) (s2.stocks.length + 1) cap6) = W6 at hpw6 hpt6 ⊢
            have HPW6 := Lib.hid hpw6
            have HPT6 := Lib.hid hpt6
            have y1 := blk_cell hpt6.1 1 rfl
            have y1f := blk_free (j := 1) hpt6.1
            clear hpw6 hpt6
            go_wp2_with (at_builtin; refine wpList_append_own_at _ rfl _ _ 27 rfl (T + 1) 3 i0 (.int .i64 0) 1 8 Try.underlying27 hi hz0 hz1 hz2 rfl (by decide) ml5 s2.made.length (s2.made.map (Value.int .i64)) rfl (HPT6.out.2.2.1.alloc _) ⟨W6.heap.size, 0, none⟩ 1 1 [.int .i64 ma] rfl rfl (cell_one_new _ _ _) (by intro u hu; simp at hu; subst hu; rfl) (by have := HLEN.out.2; unfold maxLen; omega) (by have := HLEN.out.2; omega) (by have := lt_of_block HPT6.out.1; rw [World.size_alloc]; omega) ?_)
            intro v7 w7 hown7 hgrow7 _ hv7
            obtain ⟨g7, cap7, rfl⟩ := ownsRow_succ hown7
            obtain ⟨hpw7, hh7⟩ := HPW6.out.push1 HPT6.out _ hown7 hgrow7 (by rw [World.size_alloc]; exact hv7)
            have z1 := hh7.trans HPT6.out.1
            have y2 := blk_cell z1 1 rfl
            have y2f := blk_free (j := 1) z1
            have HPW7 := Lib.hid hpw7
            clear hpw7 hh7 z1 hown7 hgrow7 hv7 y1 y1f
            have hk1 := HLT.out
            have hk2 := HHn.out
            go_wp2
            go_roundw
            case rel => exact ⟨k + 1, ⟨st2 - nk, s2.stocks ++ [st2 - nk], s2.made ++ [ma], -1, s2.full⟩, F7, HLT.out, by have := HHn.out; have := HLT.out; go_num, HEQ.out.symm, rfl, rfl, ⟨bst4.1, by have := HB3.out.2.2.1; have := BST.out; show st2 - nk ≤ store; omega⟩, HEQF.out, ⟨HPW7.out.b, HPW7.out.hT, HPW7.out.sp, HPW7.out.rs, by have h := HPW7.out.t; rw [HFL.out] at h; exact h⟩⟩
            case measure => have := HLT.out; have := HHn.out; simp [intOf]; omega
          · go_wp2_with (fail)
            rw [wrap_small (x := lo + nk) (by have := HBL.out; have := HB3.out; omega)]
            have HC5 := drained_piles pa3 F F.length pc3 (lo + nk) W2 HF.out.1 rfl HF.out.2.2.2.1 HF.out.2.2.2.2.1 (by have := HNP.out; have := HHn.out; omega) (by have := HBL.out; have := HB3.out; omega) (pil_bd HPB.out (by have := HB3.out; omega))
            obtain ⟨F7, hF7⟩ : ∃ F7, drainS F (lo + nk) = F7 := ⟨_, rfl⟩
            have hnp5 : F7.length ≤ F.length := by rw [← hF7]; exact drainS_len _ _
            rw [hF7] at HC5
            refine HC5.mono ?_
            rintro e w5 ⟨pa5, pc5, rfl, hO5, hb5⟩
            clear HC5
            have HEQF : Hid (F7 = pileL stock store N M L (k + 1)) := by
              show _ = _
              rw [HPST.out, pileStep, if_pos hf.out, HMA.out, HLO.out, HST.out, if_neg (by omega), if_neg (show ¬ 0 < ma by omega), hF7]
            clear hF7
            have hpw5 := Lib.hid (hpw3.out.piles (k' := k + 1) hb5 hO5 (by have := HNP.out; omega))
            have p5 := blk_free (j := 2) (blk_below HTc.out hb5)
            have p6 := blk_cell (blk_below HTc.out hb5) 2 rfl
            clear hb5 hO5 hnp5 p2 p3
            go_upto_region 19 with (fail)
            generalize w5.setCell ⟨T, 2, none⟩ (.slice pa5 F7.length pc5) = W5 at hpw5 ⊢
            clear p5 p6
            have HLEN : Hid (s2.stocks.length ≤ 60 ∧ s2.made.length ≤ 60) := by
              have h1 := playL_len stock store N M L k
              rw [← hs.out] at h1
              have h2 := HHn.out
              show _ ∧ _
              rw [← hs2.out]
              exact ⟨by show s.stocks.length ≤ 60; omega, by show s.made.length ≤ 60; omega⟩
            have HEQ : Hid (playL stock store N M L (k + 1) = ⟨st2 - nk, s2.stocks ++ [st2 - nk], s2.made ++ [ma], -1, s2.full⟩) := by
              show _ = _
              rw [HSTEP.out, stepP, if_pos hf.out, HMA.out, HLO.out, HST.out, if_neg (by omega), ← hs2.out]
            have HFL : Hid (s2.fails = -1) := by show _ = _; rw [← hs2.out]; exact hf.out
            obtain ⟨sl5, ml5, pl5, PT5⟩ := hpw5.out.t
            have HPT5 : Hid (PT w T s2 (k + 1) W5 sl5 ml5 pl5 F7.length (flatS F7)) := PT5
            have q0 := blk_cell PT5.1 0 rfl
            have r0 := blk_free (j := 0) PT5.1
            clear PT5
            obtain ⟨i0, hi, hz0, hz1, hz2⟩ := info_parts Try.info3
            go_wp2_with (at_builtin; refine wpList_append_own_at _ rfl _ _ 27 rfl (T + 1) 3 i0 (.int .i64 0) 1 8 Try.underlying27 hi hz0 hz1 hz2 rfl (by decide) sl5 s2.stocks.length (s2.stocks.map (Value.int .i64)) rfl (HPT5.out.2.1.alloc _) ⟨W5.heap.size, 0, none⟩ 1 1 [.int .i64 (st2 - nk)] rfl rfl ?c1 ?c2 ?c3 ?c4 ?c5 ?_)
            case c1 => exact cell_one_new _ _ _
            case c2 => intro u hu; simp at hu; subst hu; rfl
            case c3 => have := HLEN.out.1; unfold maxLen; omega
            case c4 => have := HLEN.out.1; omega
            case c5 => have := lt_of_block HPT5.out.1; rw [World.size_alloc]; omega
            intro v6 w6 hown6 hgrow6 _ hv6
            obtain ⟨g6, cap6, rfl⟩ := ownsRow_succ hown6
            obtain ⟨hpw6, hpt6, hh6⟩ := hpw5.out.push0 HPT5.out _ hown6 hgrow6 (by rw [World.size_alloc]; exact hv6)
            have z0 := hh6.trans HPT5.out.1
            have y0 := blk_cell z0 0 rfl
            have y0f := blk_free (j := 0) z0
            have HPP := Lib.hid (And.intro hpw6 hpt6)
            clear hpw6 hpt6 hh6 z0 hown6 hgrow6 hv6 q0 r0
            go_upto_region 20 with (fail)
            clear y0 y0f
            have hpw6 := HPP.out.1
            have hpt6 := HPP.out.2
            clear HPP
            generalize w6.setCell ⟨T, 0, none⟩ (.slice (some ⟨g6, 0, none⟩) (s2.stocks.length + 1) cap6) = W6 at hpw6 hpt6 ⊢
            have HPW6 := Lib.hid hpw6
            have HPT6 := Lib.hid hpt6
            have y1 := blk_cell hpt6.1 1 rfl
            have y1f := blk_free (j := 1) hpt6.1
            clear hpw6 hpt6
            go_wp2_with (at_builtin; refine wpList_append_own_at _ rfl _ _ 27 rfl (T + 1) 3 i0 (.int .i64 0) 1 8 Try.underlying27 hi hz0 hz1 hz2 rfl (by decide) ml5 s2.made.length (s2.made.map (Value.int .i64)) rfl (HPT6.out.2.2.1.alloc _) ⟨W6.heap.size, 0, none⟩ 1 1 [.int .i64 ma] rfl rfl (cell_one_new _ _ _) (by intro u hu; simp at hu; subst hu; rfl) (by have := HLEN.out.2; unfold maxLen; omega) (by have := HLEN.out.2; omega) (by have := lt_of_block HPT6.out.1; rw [World.size_alloc]; omega) ?_)
            intro v7 w7 hown7 hgrow7 _ hv7
            obtain ⟨g7, cap7, rfl⟩ := ownsRow_succ hown7
            obtain ⟨hpw7, hh7⟩ := HPW6.out.push1 HPT6.out _ hown7 hgrow7 (by rw [World.size_alloc]; exact hv7)
            have z1 := hh7.trans HPT6.out.1
            have y2 := blk_cell z1 1 rfl
            have y2f := blk_free (j := 1) z1
            have HPW7 := Lib.hid hpw7
            clear hpw7 hh7 z1 hown7 hgrow7 hv7 y1 y1f
            have hk1 := HLT.out
            have hk2 := HHn.out
            go_wp2
            go_roundw
            case rel => exact ⟨k + 1, ⟨st2 - nk, s2.stocks ++ [st2 - nk], s2.made ++ [ma], -1, s2.full⟩, F7, HLT.out, by have := HHn.out; have := HLT.out; go_num, HEQ.out.symm, rfl, rfl, ⟨bst4.1, by have := HB3.out.2.2.1; have := BST.out; show st2 - nk ≤ store; omega⟩, HEQF.out, ⟨HPW7.out.b, HPW7.out.hT, HPW7.out.sp, HPW7.out.rs, by have h := HPW7.out.t; rw [HFL.out] at h; exact h⟩⟩
            case measure => have := HLT.out; have := HHn.out; simp [intOf]; omega
      · go_upto_region 11 with (fail)
        have hpw3 : Hid (PV w T (sv stock store a n cap (some ⟨bn, on, none⟩) n cn (some ⟨bm, om, none⟩) n cm (some ⟨bl, ol, none⟩) n cl) ⟨s.stock, s.stocks, s.made, s.fails, if ma < mk then (k : Int) else s.full⟩ F k W1) := by show PV _ _ _ _ _ _ _; rw [if_neg hfu]; exact hpw2.out
        clear hpw2
        generalize W1 = W2 at hpw3 ⊢
        clear hfu
        generalize hs2' : (⟨s.stock, s.stocks, s.made, s.fails, if ma < mk then (k : Int) else s.full⟩ : Ps) = s2 at hpw3
        have hs2 := Lib.hid hs2'
        clear hs2'
        go_upto_region 13 with (fail)
        generalize hst2 : s.stock + (ma - lo) = st2
        have HST := Lib.hid hst2
        have bst : 0 ≤ st2 ∧ st2 ≤ store ∧ store ≤ 1000000 := by omega
        have HBL := Lib.hid (And.intro blo (And.intro bma b1))
        clear hst2 blo bma b1 b2 b3
        by_cases hfa : st2 < nk
        · skip
          have HF : Hid (playL stock store N M L n = ⟨s2.stock, s2.stocks, s2.made, k, s2.full⟩) := by
            show _ = _
            have h1 : playL stock store N M L (k + 1) = ⟨s2.stock, s2.stocks, s2.made, k, s2.full⟩ := by
              rw [HSTEP.out, stepP, if_pos hf.out, HMA.out, HLO.out, if_pos (by rw [HST.out]; exact hfa), ← hs2.out]
            rw [← h1]
            exact playL_stop _ _ _ _ _ _ (by rw [h1]; show (k : Int) ≠ -1; omega) _ (by omega)
          have HFP : Hid (pileL stock store N M L n = F) := by
            show _ = _
            have h1 : playL stock store N M L (k + 1) = ⟨s2.stock, s2.stocks, s2.made, k, s2.full⟩ := by
              rw [HSTEP.out, stepP, if_pos hf.out, HMA.out, HLO.out, if_pos (by rw [HST.out]; exact hfa), ← hs2.out]
            rw [pileL_stop stock store N M L (k + 1) (by rw [h1]; show (k : Int) ≠ -1; omega) n (by omega), HPST.out, pileStep, if_pos hf.out, HMA.out, HLO.out, if_pos (by rw [HST.out]; exact hfa)]
          obtain ⟨W3, hW3⟩ : ∃ W3, W2.setCell ⟨T, 3, none⟩ (.int .i64 k) = W3 := ⟨_, rfl⟩
          have hpw4 : Hid (PV w T (sv stock store a n cap (some ⟨bn, on, none⟩) n cn (some ⟨bm, om, none⟩) n cm (some ⟨bl, ol, none⟩) n cl) ⟨s2.stock, s2.stocks, s2.made, k, s2.full⟩ F k W3) := by rw [← hW3]; exact hpw3.out.put 3 k ⟨rfl, rfl⟩ (.inl ⟨rfl, rfl, rfl⟩)
          have g3 := hpw3.out.free.2.1 3
          have g4 := hpw3.out.free.2.2.2
          obtain ⟨_, _, _, hT2, _⟩ := hpw3.out.t
          have t3 := blk_cell hT2 3 rfl
          clear hT2
          obtain ⟨sa, sc, ma', mc, pa2, pc, hTc, HC, HO⟩ := hpw4.out.end
          have r0 := hpw4.out.rs
          have b0 := blk_cell r0 0 rfl
          have b1 := blk_cell r0 1 rfl
          have b2 := blk_cell r0 2 rfl
          have b3 := blk_cell r0 3 rfl
          have b4 := blk_cell r0 4 rfl
          have f0 := blk_free (j := 0) r0
          have f1 := blk_free (j := 1) r0
          have f2 := blk_free (j := 2) r0
          have f3 := blk_free (j := 3) r0
          have f4 := blk_free (j := 4) r0
          have e0 := blk_cell hTc 0 rfl
          have e1 := blk_cell hTc 1 rfl
          have e2 := blk_cell hTc 2 rfl
          have e3 := blk_cell hTc 3 rfl
          have e4 := blk_cell hTc 4 rfl
          clear hTc r0
          go_wp2_with (fail)
          clear b0 b1 b2 b3 b4 f0 f1 f2 f3 f4 e0 e1 e2 e3 e4
          try rw [Exit.noGoto_ret]
          generalize (((((W3.setCell ⟨w.heap.size + 1, 0, none⟩ (.slice sa s2.stocks.length sc)).setCell ⟨w.heap.size + 1, 1, none⟩ (.slice ma' s2.made.length mc)).setCell ⟨w.heap.size + 1, 2, none⟩ (.slice pa2 F.length pc)).setCell ⟨w.heap.size + 1, 3, none⟩ (.int .i64 k)).setCell ⟨w.heap.size + 1, 4, none⟩ (.int .i64 s2.full)) = W5 at HC HO ⊢
          have q0 := blk_cell HC.out 0 rfl
          have q1 := blk_cell HC.out 1 rfl
          have q2 := blk_cell HC.out 2 rfl
          have q3 := blk_cell HC.out 3 rfl
          have q4 := blk_cell HC.out 4 rfl
          refine bodyPost_ret (v := .agg #[.slice sa s2.stocks.length sc, .slice ma' s2.made.length mc, .slice pa2 F.length pc, .int .i64 k, .int .i64 s2.full]) (by simp [results, Try.results101, go_sem, q0, q1, q2, q3, q4]) rfl ?_
          rw [HF.out, HFP.out]
          exact HO.out

        · have bst4 : 0 ≤ st2 - nk ∧ st2 - nk ≤ 1000000 := by have := HB3.out.2.2.1; omega
          have BST := Lib.hid bst
          obtain ⟨sl, ml, pl, hTc, hO1, hO2, hO3, hnp2, hdis⟩ := hpw3.out.t
          obtain ⟨pa3, pc3, rfl, _⟩ := flats_of_owns hO3
          have HF := Lib.hid (owns_form hO3)
          have p2 := blk_cell hTc 2 rfl
          have p3 := blk_free (j := 2) hTc
          have HNP := Lib.hid hnp2
          have HTc := Lib.hid hTc
          have hTlt := lt_of_block hTc
          have HHn := Lib.hid hn'
          clear hTc hO1 hO2 hO3 hnp2 hdis bst hn'
          by_cases hmd : 0 < ma
          · go_wp2_with (fail)
            have HC5 := drained_piles pa3 F F.length pc3 lo _ HF.out.1 rfl HF.out.2.2.2.1 HF.out.2.2.2.2.1 (by have := HNP.out; have := HHn.out; omega) (by have := HBL.out; have := HB3.out; omega) (pil_bd HPB.out (by have := HB3.out; omega))
            obtain ⟨F5, hF5⟩ : ∃ F5, drainS F lo = F5 := ⟨_, rfl⟩
            have hnp5 : F5.length ≤ F.length := by rw [← hF5]; exact drainS_len _ _
            rw [hF5] at HC5
            refine HC5.mono ?_
            rintro e w5 ⟨pa5, pc5, rfl, hO5, hb5⟩
            clear HC5
            have HF5 := Lib.hid hF5
            clear hF5
            obtain ⟨j0, hj, hjz0, hjz1, hjz2⟩ := info_parts Try.info106
            have HNP5 : Hid (F5.length ≤ k + 1 ∧ k + 1 ≤ 61) := by have := HNP.out; have := HHn.out; have := HLT.out; exact ⟨by omega, by omega⟩
            have HO5 := Lib.hid hO5
            have HB5 := Lib.hid hb5
            clear hO5 hb5 hnp5 p2 p3
            go_wp2_with (at_builtin; refine wpList_append_own_at _ rfl _ _ 102 rfl W2.heap.size 106 j0 (.agg #[.int .i64 0, .int .i64 0]) 2 16 Try.underlying102 hj hjz0 hjz1 hjz2 rfl (by decide) (.slice pa5 F5.length pc5) F5.length ((flatS F5).map (Value.int .i64)) rfl (HO5.out.alloc _) ⟨w5.heap.size, 0, none⟩ 1 1 [.int .i64 k, .int .i64 ma] rfl rfl (cell_two_new _ _ _ _) (by intro u hu; simp at hu; rcases hu with rfl | rfl <;> rfl) (by have := HNP5.out; unfold maxLen; omega) (by have := HNP5.out; omega) (by have := HB5.out.size; rw [World.size_alloc]; omega) ?_)
            intro v6 w6 hown6 hgrow6 _ hv6
            obtain ⟨g6, cap6, rfl⟩ := ownsRow_succ hown6
            have hb6 : Below W2.heap.size W2 w6 := (HB5.out.alloc HB5.out.size _).grown hgrow6 (by rw [World.size_alloc]; have := HB5.out.size; omega) (fun j hj => (HO5.out.lt j hj).1)
            have hown6' : w6.ownsRow W2.heap.size 106 2 (.slice (some ⟨g6, 0, none⟩) (F5.length + 1) cap6) (F5 ++ [(⟨k, ma⟩ : Sp)]).length ((flatS (F5 ++ [(⟨k, ma⟩ : Sp)])).map (Value.int .i64)) := by rw [flatS_append, List.length_append]; simpa [flatS_cons, show flatS [] = [] from rfl] using hown6
            have HPB6 := Lib.hid (pil_bd2 (k := (k : Int)) HPB.out (by have := HBL.out; exact ⟨this.1.1, this.1.2⟩) hmd (by have := HBL.out; have := HB3.out; omega))
            obtain ⟨F6, hF6⟩ : ∃ F6, F5 ++ [(⟨k, ma⟩ : Sp)] = F6 := ⟨_, rfl⟩
            have hF6l : F6.length = F5.length + 1 := by rw [← hF6]; simp
            rw [HF5.out, hF6] at HPB6
            rw [hF6] at hown6'
            have hpw6 := Lib.hid (hpw3.out.piles (k' := k + 1) hb6 hown6' (by have := HNP5.out; omega))
            have HF6 := Lib.hid hF6
            clear hF6 hF6l
            have t6 := blk_below HTc.out hb6
            have y6 := blk_cell t6 2 rfl
            have y6f := blk_free (j := 2) t6
            clear t6 hown6' hb6 hown6 hgrow6 hv6
            go_upto_region 17 with (fail)
            generalize w6.setCell ⟨T, 2, none⟩ (.slice (some ⟨g6, 0, none⟩) (F5.length + 1) cap6) = W6 at hpw6 ⊢
            clear y6 y6f
            obtain ⟨sl6, ml6, pl6, hTc6, _, _, hO6, hnp6, _⟩ := hpw6.out.t
            obtain ⟨pa6, pc6, rfl, _⟩ := flats_of_owns hO6
            have HG6 := Lib.hid (owns_form hO6)
            have p2 := blk_cell hTc6 2 rfl
            have p3 := blk_free (j := 2) hTc6
            have HNP6 := Lib.hid hnp6
            have HTc6 := Lib.hid hTc6
            have hTlt6 := lt_of_block hTc6
            clear hTc6 hO6 hnp6
            go_wp2_with (fail)
            have HC7 := drained_piles pa6 F6 F6.length pc6 nk W6 HG6.out.1 rfl HG6.out.2.2.2.1 HG6.out.2.2.2.2.1 (by have := HNP6.out; have := HNP5.out; omega) (by have := HB3.out; omega) HPB6.out
            obtain ⟨F7, hF7⟩ : ∃ F7, drainS F6 nk = F7 := ⟨_, rfl⟩
            have hnp7 : F7.length ≤ F6.length := by rw [← hF7]; exact drainS_len _ _
            rw [hF7] at HC7
            refine HC7.mono ?_
            rintro e w7 ⟨pa7, pc7, rfl, hO7, hb7⟩
            clear HC7
            have HEQF : Hid (F7 = pileL stock store N M L (k + 1)) := by
              show _ = _
              rw [HPST.out, pileStep, if_pos hf.out, HMA.out, HLO.out, HST.out, if_neg (by omega), if_pos hmd, HF5.out, HF6.out, hF7]
            clear hF7
            have hpw5 := Lib.hid (hpw6.out.piles (k' := k + 1) hb7 hO7 (by have := HNP6.out; omega))
            have p5 := blk_free (j := 2) (blk_below HTc6.out hb7)
            have p6 := blk_cell (blk_below HTc6.out hb7) 2 rfl
            clear hb7 hO7 hnp7 p2 p3
            go_upto_region 19 with (fail)
            generalize w7.setCell ⟨T, 2, none⟩ (.slice pa7 F7.length pc7) = W5 at hpw5 ⊢
            clear p5 p6
            have HLEN : Hid (s2.stocks.length ≤ 60 ∧ s2.made.length ≤ 60) := by
              have h1 := playL_len stock store N M L k
              rw [← hs.out] at h1
              have h2 := HHn.out
              show _ ∧ _
              rw [← hs2.out]
              exact ⟨by show s.stocks.length ≤ 60; omega, by show s.made.length ≤ 60; omega⟩
            have HEQ : Hid (playL stock store N M L (k + 1) = ⟨st2 - nk, s2.stocks ++ [st2 - nk], s2.made ++ [ma], -1, s2.full⟩) := by
              show _ = _
              rw [HSTEP.out, stepP, if_pos hf.out, HMA.out, HLO.out, HST.out, if_neg (by omega), ← hs2.out]
            have HFL : Hid (s2.fails = -1) := by show _ = _; rw [← hs2.out]; exact hf.out
            obtain ⟨sl5, ml5, pl5, PT5⟩ := hpw5.out.t
            have HPT5 : Hid (PT w T s2 (k + 1) W5 sl5 ml5 pl5 F7.length (flatS F7)) := PT5
            have q0 := blk_cell PT5.1 0 rfl
            have r0 := blk_free (j := 0) PT5.1
            clear PT5
            obtain ⟨i0, hi, hz0, hz1, hz2⟩ := info_parts Try.info3
            go_wp2_with (at_builtin; refine wpList_append_own_at _ rfl _ _ 27 rfl (T + 1) 3 i0 (.int .i64 0) 1 8 Try.underlying27 hi hz0 hz1 hz2 rfl (by decide) sl5 s2.stocks.length (s2.stocks.map (Value.int .i64)) rfl (HPT5.out.2.1.alloc _) ⟨W5.heap.size, 0, none⟩ 1 1 [.int .i64 (st2 - nk)] rfl rfl ?c1 ?c2 ?c3 ?c4 ?c5 ?_)
            case c1 => exact cell_one_new _ _ _
            case c2 => intro u hu; simp at hu; subst hu; rfl
            case c3 => have := HLEN.out.1; unfold maxLen; omega
            case c4 => have := HLEN.out.1; omega
            case c5 => have := lt_of_block HPT5.out.1; rw [World.size_alloc]; omega
            intro v6 w6 hown6 hgrow6 _ hv6
            obtain ⟨g6, cap6, rfl⟩ := ownsRow_succ hown6
            obtain ⟨hpw6, hpt6, hh6⟩ := hpw5.out.push0 HPT5.out _ hown6 hgrow6 (by rw [World.size_alloc]; exact hv6)
            have z0 := hh6.trans HPT5.out.1
            have y0 := blk_cell z0 0 rfl
            have y0f := blk_free (j := 0) z0
            have HPP := Lib.hid (And.intro hpw6 hpt6)
            clear hpw6 hpt6 hh6 z0 hown6 hgrow6 hv6 q0 r0
            go_upto_region 20 with (fail)
            clear y0 y0f
            have hpw6 := HPP.out.1
            have hpt6 := HPP.out.2
            clear HPP
            generalize w6.setCell ⟨T, 0, none⟩ (.slice (some ⟨g6, 0, none⟩) (s2.stocks.length + 1) cap6) = W6 at hpw6 hpt6 ⊢
            have HPW6 := Lib.hid hpw6
            have HPT6 := Lib.hid hpt6
            have y1 := blk_cell hpt6.1 1 rfl
            have y1f := blk_free (j := 1) hpt6.1
            clear hpw6 hpt6
            go_wp2_with (at_builtin; refine wpList_append_own_at _ rfl _ _ 27 rfl (T + 1) 3 i0 (.int .i64 0) 1 8 Try.underlying27 hi hz0 hz1 hz2 rfl (by decide) ml5 s2.made.length (s2.made.map (Value.int .i64)) rfl (HPT6.out.2.2.1.alloc _) ⟨W6.heap.size, 0, none⟩ 1 1 [.int .i64 ma] rfl rfl (cell_one_new _ _ _) (by intro u hu; simp at hu; subst hu; rfl) (by have := HLEN.out.2; unfold maxLen; omega) (by have := HLEN.out.2; omega) (by have := lt_of_block HPT6.out.1; rw [World.size_alloc]; omega) ?_)
            intro v7 w7 hown7 hgrow7 _ hv7
            obtain ⟨g7, cap7, rfl⟩ := ownsRow_succ hown7
            obtain ⟨hpw7, hh7⟩ := HPW6.out.push1 HPT6.out _ hown7 hgrow7 (by rw [World.size_alloc]; exact hv7)
            have z1 := hh7.trans HPT6.out.1
            have y2 := blk_cell z1 1 rfl
            have y2f := blk_free (j := 1) z1
            have HPW7 := Lib.hid hpw7
            clear hpw7 hh7 z1 hown7 hgrow7 hv7 y1 y1f
            have hk1 := HLT.out
            have hk2 := HHn.out
            go_wp2
            go_roundw
            case rel => exact ⟨k + 1, ⟨st2 - nk, s2.stocks ++ [st2 - nk], s2.made ++ [ma], -1, s2.full⟩, F7, HLT.out, by have := HHn.out; have := HLT.out; go_num, HEQ.out.symm, rfl, rfl, ⟨bst4.1, by have := HB3.out.2.2.1; have := BST.out; show st2 - nk ≤ store; omega⟩, HEQF.out, ⟨HPW7.out.b, HPW7.out.hT, HPW7.out.sp, HPW7.out.rs, by have h := HPW7.out.t; rw [HFL.out] at h; exact h⟩⟩
            case measure => have := HLT.out; have := HHn.out; simp [intOf]; omega
          · go_wp2_with (fail)
            rw [wrap_small (x := lo + nk) (by have := HBL.out; have := HB3.out; omega)]
            have HC5 := drained_piles pa3 F F.length pc3 (lo + nk) W2 HF.out.1 rfl HF.out.2.2.2.1 HF.out.2.2.2.2.1 (by have := HNP.out; have := HHn.out; omega) (by have := HBL.out; have := HB3.out; omega) (pil_bd HPB.out (by have := HB3.out; omega))
            obtain ⟨F7, hF7⟩ : ∃ F7, drainS F (lo + nk) = F7 := ⟨_, rfl⟩
            have hnp5 : F7.length ≤ F.length := by rw [← hF7]; exact drainS_len _ _
            rw [hF7] at HC5
            refine HC5.mono ?_
            rintro e w5 ⟨pa5, pc5, rfl, hO5, hb5⟩
            clear HC5
            have HEQF : Hid (F7 = pileL stock store N M L (k + 1)) := by
              show _ = _
              rw [HPST.out, pileStep, if_pos hf.out, HMA.out, HLO.out, HST.out, if_neg (by omega), if_neg (show ¬ 0 < ma by omega), hF7]
            clear hF7
            have hpw5 := Lib.hid (hpw3.out.piles (k' := k + 1) hb5 hO5 (by have := HNP.out; omega))
            have p5 := blk_free (j := 2) (blk_below HTc.out hb5)
            have p6 := blk_cell (blk_below HTc.out hb5) 2 rfl
            clear hb5 hO5 hnp5 p2 p3
            go_upto_region 19 with (fail)
            generalize w5.setCell ⟨T, 2, none⟩ (.slice pa5 F7.length pc5) = W5 at hpw5 ⊢
            clear p5 p6
            have HLEN : Hid (s2.stocks.length ≤ 60 ∧ s2.made.length ≤ 60) := by
              have h1 := playL_len stock store N M L k
              rw [← hs.out] at h1
              have h2 := HHn.out
              show _ ∧ _
              rw [← hs2.out]
              exact ⟨by show s.stocks.length ≤ 60; omega, by show s.made.length ≤ 60; omega⟩
            have HEQ : Hid (playL stock store N M L (k + 1) = ⟨st2 - nk, s2.stocks ++ [st2 - nk], s2.made ++ [ma], -1, s2.full⟩) := by
              show _ = _
              rw [HSTEP.out, stepP, if_pos hf.out, HMA.out, HLO.out, HST.out, if_neg (by omega), ← hs2.out]
            have HFL : Hid (s2.fails = -1) := by show _ = _; rw [← hs2.out]; exact hf.out
            obtain ⟨sl5, ml5, pl5, PT5⟩ := hpw5.out.t
            have HPT5 : Hid (PT w T s2 (k + 1) W5 sl5 ml5 pl5 F7.length (flatS F7)) := PT5
            have q0 := blk_cell PT5.1 0 rfl
            have r0 := blk_free (j := 0) PT5.1
            clear PT5
            obtain ⟨i0, hi, hz0, hz1, hz2⟩ := info_parts Try.info3
            go_wp2_with (at_builtin; refine wpList_append_own_at _ rfl _ _ 27 rfl (T + 1) 3 i0 (.int .i64 0) 1 8 Try.underlying27 hi hz0 hz1 hz2 rfl (by decide) sl5 s2.stocks.length (s2.stocks.map (Value.int .i64)) rfl (HPT5.out.2.1.alloc _) ⟨W5.heap.size, 0, none⟩ 1 1 [.int .i64 (st2 - nk)] rfl rfl ?c1 ?c2 ?c3 ?c4 ?c5 ?_)
            case c1 => exact cell_one_new _ _ _
            case c2 => intro u hu; simp at hu; subst hu; rfl
            case c3 => have := HLEN.out.1; unfold maxLen; omega
            case c4 => have := HLEN.out.1; omega
            case c5 => have := lt_of_block HPT5.out.1; rw [World.size_alloc]; omega
            intro v6 w6 hown6 hgrow6 _ hv6
            obtain ⟨g6, cap6, rfl⟩ := ownsRow_succ hown6
            obtain ⟨hpw6, hpt6, hh6⟩ := hpw5.out.push0 HPT5.out _ hown6 hgrow6 (by rw [World.size_alloc]; exact hv6)
            have z0 := hh6.trans HPT5.out.1
            have y0 := blk_cell z0 0 rfl
            have y0f := blk_free (j := 0) z0
            have HPP := Lib.hid (And.intro hpw6 hpt6)
            clear hpw6 hpt6 hh6 z0 hown6 hgrow6 hv6 q0 r0
            go_upto_region 20 with (fail)
            clear y0 y0f
            have hpw6 := HPP.out.1
            have hpt6 := HPP.out.2
            clear HPP
            generalize w6.setCell ⟨T, 0, none⟩ (.slice (some ⟨g6, 0, none⟩) (s2.stocks.length + 1) cap6) = W6 at hpw6 hpt6 ⊢
            have HPW6 := Lib.hid hpw6
            have HPT6 := Lib.hid hpt6
            have y1 := blk_cell hpt6.1 1 rfl
            have y1f := blk_free (j := 1) hpt6.1
            clear hpw6 hpt6
            go_wp2_with (at_builtin; refine wpList_append_own_at _ rfl _ _ 27 rfl (T + 1) 3 i0 (.int .i64 0) 1 8 Try.underlying27 hi hz0 hz1 hz2 rfl (by decide) ml5 s2.made.length (s2.made.map (Value.int .i64)) rfl (HPT6.out.2.2.1.alloc _) ⟨W6.heap.size, 0, none⟩ 1 1 [.int .i64 ma] rfl rfl (cell_one_new _ _ _) (by intro u hu; simp at hu; subst hu; rfl) (by have := HLEN.out.2; unfold maxLen; omega) (by have := HLEN.out.2; omega) (by have := lt_of_block HPT6.out.1; rw [World.size_alloc]; omega) ?_)
            intro v7 w7 hown7 hgrow7 _ hv7
            obtain ⟨g7, cap7, rfl⟩ := ownsRow_succ hown7
            obtain ⟨hpw7, hh7⟩ := HPW6.out.push1 HPT6.out _ hown7 hgrow7 (by rw [World.size_alloc]; exact hv7)
            have z1 := hh7.trans HPT6.out.1
            have y2 := blk_cell z1 1 rfl
            have y2f := blk_free (j := 1) z1
            have HPW7 := Lib.hid hpw7
            clear hpw7 hh7 z1 hown7 hgrow7 hv7 y1 y1f
            have hk1 := HLT.out
            have hk2 := HHn.out
            go_wp2
            go_roundw
            case rel => exact ⟨k + 1, ⟨st2 - nk, s2.stocks ++ [st2 - nk], s2.made ++ [ma], -1, s2.full⟩, F7, HLT.out, by have := HHn.out; have := HLT.out; go_num, HEQ.out.symm, rfl, rfl, ⟨bst4.1, by have := HB3.out.2.2.1; have := BST.out; show st2 - nk ≤ store; omega⟩, HEQF.out, ⟨HPW7.out.b, HPW7.out.hT, HPW7.out.sp, HPW7.out.rs, by have h := HPW7.out.t; rw [HFL.out] at h; exact h⟩⟩
            case measure => have := HLT.out; have := HHn.out; simp [intOf]; omega
    · have : k = n := by omega
      subst this
      clear hlt
      obtain ⟨sa, sc, ma, mc, pa2, pc, hTc, HC, HO⟩ := hpw.out.end
      have r0 := hpw.out.rs
      have b0 := blk_cell r0 0 rfl
      have b1 := blk_cell r0 1 rfl
      have b2 := blk_cell r0 2 rfl
      have b3 := blk_cell r0 3 rfl
      have b4 := blk_cell r0 4 rfl
      have f0 := blk_free (j := 0) r0
      have f1 := blk_free (j := 1) r0
      have f2 := blk_free (j := 2) r0
      have f3 := blk_free (j := 3) r0
      have f4 := blk_free (j := 4) r0
      have e0 := blk_cell hTc 0 rfl
      have e1 := blk_cell hTc 1 rfl
      have e2 := blk_cell hTc 2 rfl
      have e3 := blk_cell hTc 3 rfl
      have e4 := blk_cell hTc 4 rfl
      clear hTc r0
      go_wp2_with (fail)
      clear b0 b1 b2 b3 b4 f0 f1 f2 f3 f4 e0 e1 e2 e3 e4
      try rw [Exit.noGoto_ret]
      generalize (((((wr.setCell ⟨w.heap.size + 1, 0, none⟩ (.slice sa s.stocks.length sc)).setCell ⟨w.heap.size + 1, 1, none⟩ (.slice ma s.made.length mc)).setCell ⟨w.heap.size + 1, 2, none⟩ (.slice pa2 F.length pc)).setCell ⟨w.heap.size + 1, 3, none⟩ (.int .i64 s.fails)).setCell ⟨w.heap.size + 1, 4, none⟩ (.int .i64 s.full)) = W5 at HC HO ⊢
      have q0 := blk_cell HC.out 0 rfl
      have q1 := blk_cell HC.out 1 rfl
      have q2 := blk_cell HC.out 2 rfl
      have q3 := blk_cell HC.out 3 rfl
      have q4 := blk_cell HC.out 4 rfl
      refine bodyPost_ret (v := .agg #[.slice sa s.stocks.length sc, .slice ma s.made.length mc, .slice pa2 F.length pc, .int .i64 s.fails, .int .i64 s.full]) (by simp [results, Try.results101, go_sem, q0, q1, q2, q3, q4]) rfl ?_
      rw [← hs.out, ← hF.out]
      exact HO.out

end Go.Proofs.Ytpkegiekpnaejaa
