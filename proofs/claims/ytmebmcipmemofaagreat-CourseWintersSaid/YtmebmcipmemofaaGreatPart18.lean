/-
The contract of the reference's Piles over this seat's program.
  What is proved: it hands back the piles of the reference, as lists have them; nothing that was there before has turned.
  Conditions: at most 60 days of small numbers.
-/
import Derived.Test.YtmebmcipmemofaaGreatPart17
import Derived.Deep.CutBlock
namespace Go.Proofs.YtmebmcipmemofaaGreat
open Go.RowKit Go.Shelf
attribute [local go_sem] Oper.semAt_some

theorem rd_small {F G : List Int} {mu : Int} (h : G = rd F mu) (hs : ∀ x ∈ G, 0 ≤ x ∧ x ≤ 1000000) : ∀ x ∈ rd F mu, 0 ≤ x ∧ x ≤ 1000000 := h ▸ hs
theorem small_push {F : List Int} {q : Int} (h : ∀ x ∈ F, 0 ≤ x ∧ x ≤ 1000000) (hq : 0 ≤ q ∧ q ≤ 1000000) : ∀ x ∈ F ++ [q], 0 ≤ x ∧ x ≤ 1000000 := fun x hx => by
  rcases List.mem_append.1 hx with h1 | h1
  · exact h x h1
  · rw [List.mem_singleton.1 h1]; exact hq

set_option maxRecDepth 100000 in
set_option maxHeartbeats 8000000 in
theorem refPiles_any (stock store : Int) (a : Option Addr) (n cap : Nat) (an : Option Addr) (N : List Int) (cn : Nat) (am : Option Addr) (M : List Int) (cm : Nat) (al : Option Addr) (L : List Int) (cl : Nat) (w : World)
    (hN : IntSl w an N) (hM : IntSl w am M) (hL : IntSl w al L) (hNn : N.length = n) (hMn : M.length = n) (hLn : L.length = n) (hn : n ≤ 60) (hst : 0 ≤ stock ∧ stock ≤ store ∧ store ≤ 1000000)
    (hb : (∀ x ∈ N, 0 ≤ x ∧ x ≤ 100000) ∧ (∀ x ∈ M, 0 ≤ x ∧ x ≤ 100000) ∧ (∀ x ∈ L, 0 ≤ x ∧ x ≤ 100000)) :
    Calls Tryz.prog 41 #[wv stock store a n cap, .slice an n cn, .slice am n cm, .slice al n cl] w fun e w' => ∃ b c, e = .returned (.slice b (rpL stock store N M L n).length c) ∧ IntSl w' b (rpL stock store N M L n) ∧ Below w.heap.size w w' := by
  obtain ⟨i0, hi, hz0, hz1, hz2⟩ := info_parts Tryz.info3
  have HLn : Hid (N.length = n ∧ M.length = n ∧ L.length = n) := ⟨hNn, hMn, hLn⟩
  have HN60 := Lib.hid hn
  have HST := Lib.hid hst
  have HBD := Lib.hid hb
  obtain ⟨W0, hW0⟩ : ∃ W0, w.alloc (.cells #[.int .i64 stock, .int .i64 store, .slice a n cap] 64) = W0 := ⟨_, rfl⟩
  have hb0 : Below w.heap.size w W0 := by rw [← hW0]; exact alloc1 w _
  have g0 : W0.heap[w.heap.size]? = some (.cells #[.int .i64 stock, .int .i64 store, .slice a n cap] 64 (0, 0)) := by rw [← hW0]; exact heap_alloc_new w _
  have H0 : Hid (Below w.heap.size w W0 ∧ W0.heap[w.heap.size]? = some (.cells #[.int .i64 stock, .int .i64 store, .slice a n cap] 64 (0, 0)) ∧ IntSl W0 an N ∧ IntSl W0 am M ∧ IntSl W0 al L) := ⟨hb0, g0, hN.below hb0, hM.below hb0, hL.below hb0⟩
  have t0 := blk_cell g0 0 rfl
  have t1 := blk_cell g0 1 rfl
  have t2 := blk_cell g0 2 rfl
  clear hb0 g0 hN hM hL hNn hMn hLn hn hst hb
  go_enter Tryz.func41, Tryz.ntmps41
  go_wp2_with (fail)
  clear hW0 t0 t1 t2
  refine (happens_n stock store a n cap an N cn am M cm al L cl W0 H0.out.2.2.1 H0.out.2.2.2.1 H0.out.2.2.2.2 HLn.out.1 HLn.out.2.1 HLn.out.2.2 HN60.out HST.out HBD.out).mono ?_
  rintro e W1 ⟨sa, sc, ma, mc, rfl, hs, hm, hb⟩
  have HPN := Lib.hid (play_nth (stock := stock) (store := store) (N := N) (M := M) (L := L) n)
  have HRN : Hid (∀ i, i < (playL stock store N M L n).stocks.length → _) := fun i hi => rp_next (stock := stock) (store := store) (N := N) (M := M) (L := L) (n := n) (i := i) hi
  have HRE := Lib.hid (rp_end (stock := stock) (store := store) (N := N) (M := M) (L := L) n).1
  have HPW := Lib.hid (play_within (stock := stock) (store := store) (N := N) (M := M) (L := L) ⟨HST.out.1, HST.out.2.1⟩ ⟨fun k => (getD_small HBD.out.1 k).1, fun k => (getD_small HBD.out.2.1 k).1, fun k => (getD_small HBD.out.2.2 k).1⟩)
  have H1 : Hid (Below w.heap.size w W1 ∧ W1.heap[w.heap.size]? = some (.cells #[.int .i64 stock, .int .i64 store, .slice a n cap] 64 (0, 0)) ∧ IntSl W1 an N ∧ IntSl W1 am M ∧ IntSl W1 al L ∧ IntSl W1 sa (playL stock store N M L n).stocks ∧ IntSl W1 ma (playL stock store N M L n).made) := ⟨below_self H0.out.1 hb, blk_below H0.out.2.1 hb, H0.out.2.2.1.below hb, H0.out.2.2.2.1.below hb, H0.out.2.2.2.2.below hb, hs, hm⟩
  have HLL : Hid ((playL stock store N M L n).made.length = (playL stock store N M L n).stocks.length ∧ (playL stock store N M L n).stocks.length ≤ n) := ⟨made_len n, (playL_len stock store N M L n).1⟩
  clear hb hs hm H0
  generalize (playL stock store N M L n).stocks = SS at *
  generalize (playL stock store N M L n).made = MM at *
  have t0 := blk_cell H1.out.2.1 0 rfl
  go_upto_region 3 with (fail)
  clear t0
  have H2 : Hid (PZ W1 (W1.alloc (.cells #[.int .i64 stock] 3)) W1.heap.size 1 1 [stock] ∧ (W1.alloc (.cells #[.int .i64 stock] 3)).heap[w.heap.size]? = some (.cells #[.int .i64 stock, .int .i64 store, .slice a n cap] 64 (0, 0))) := ⟨PZ.start W1 stock, alk H1.out.2.1⟩
  generalize W1.alloc (.cells #[.int .i64 stock] 3) = W2 at H2 ⊢
  have t0 := blk_cell H2.out.2 0 rfl
  have g0 : Hid (∃ g0, g0 = W1.heap.size) := ⟨_, rfl⟩
  go_wp2_with (fail)
  clear t0 g0
  go_loopw [12, 13, 14] (fun v12 v13 i wr => ∃ (k g c m : Nat) (F : List Int) (s : Int), v12 = .slice (some ⟨g, 0, none⟩) m c ∧ v13 = .int .i64 s ∧ i = .int .i64 k ∧ k ≤ SS.length ∧ Hid (m = k + 1 ∧ PZ W1 wr g c m F ∧ (∀ x ∈ F, 0 ≤ x ∧ x ≤ 1000000) ∧ F = rpL stock store N M L k ∧ (playL stock store N M L k).stock = s)) (fun _ _ i _ => SS.length - (intOf i).toNat)
  case atStart => exact ⟨0, W1.heap.size, 1, 1, [stock], stock, rfl, rfl, rfl, Nat.zero_le _, rfl, H2.out.1, (fun x hx => by rw [List.mem_singleton.1 hx]; have := HST.out; omega), rfl, rfl⟩
  case round =>
    obtain ⟨k, g, c, m, F, s, rfl, rfl, rfl, hk, hR⟩ := hrel
    by_cases hlt : k < SS.length
    · obtain ⟨hkn, hf0, hf1, hsn, hmn⟩ := HPN.out k hlt
      have HS1 := Lib.hid hsn
      have HM1 := Lib.hid hmn
      have HF1 := Lib.hid (HRN.out k hlt)
      have hw := HPW.out k hf0
      have hw1 := HPW.out (k + 1) hf1
      have kN := getD_small HBD.out.1 k
      have kM := getD_small HBD.out.2.1 k
      have kL := getD_small HBD.out.2.2 k
      have HE := Lib.hid hR.out.2.2.2
      rw [HE.out.2] at hw
      have HF1' : Hid (rpL stock store N M L (k + 1) = rd (rd F (lostD s (L[k]?.getD 0)) ++ [madeD store s (M[k]?.getD 0) (L[k]?.getD 0)]) (N[k]?.getD 0)) := by
        show _ = _; have h := HF1.out; rw [HE.out.2] at h; rw [HE.out.1]; exact h
      have HM1' : Hid (MM[k]? = some (madeD store s (M[k]?.getD 0) (L[k]?.getD 0))) := by
        show _ = _; have h := HM1.out; rw [HE.out.2] at h; exact h
      have HV : Hid (m = k + 1 ∧ PZ W1 wr g c m F ∧ (∀ x ∈ F, 0 ≤ x ∧ x ≤ 1000000)) := ⟨hR.out.1, hR.out.2.1, hR.out.2.2.1⟩
      clear hsn hmn hf0 hf1 HF1 HM1 hR HE
      obtain ⟨bN, oN, rfl, hbN, hcN⟩ := H1.out.2.2.1 (by have := HLn.out.1; omega)
      obtain ⟨bL, oL, rfl, hbL, hcL⟩ := H1.out.2.2.2.2.1 (by have := HLn.out.2.2; omega)
      obtain ⟨bS, oS, rfl, hbS, hcS⟩ := H1.out.2.2.2.2.2.1 (by omega)
      obtain ⟨bM, oM, rfl, hbM, hcM⟩ := H1.out.2.2.2.2.2.2 (by have := HLL.out.1; omega)
      have yN := Lib.hid (And.intro hbN (hcN k (by have := HLn.out.1; omega)))
      have yS := Lib.hid (And.intro hbS (hcS k hlt))
      have yM := Lib.hid (And.intro hbM (hcM k (by have := HLL.out.1; omega)))
      have xL := (HV.out.2.1.b.cell (p := ⟨bL, oL + k, none⟩) hbL).trans (hcL k (by have := HLn.out.2.2; omega))
      have ys : SS[k]?.getD 0 = (playL stock store N M L (k + 1)).stock := by rw [HS1.out]; rfl
      have ym : MM[k]?.getD 0 = madeD store s (M[k]?.getD 0) (L[k]?.getD 0) := by rw [HM1'.out]; rfl
      have HQ := Lib.hid (And.intro ys ym)
      clear hcN hcL hcS hcM hbN hbL hbS hbM ys ym HM1' HS1
      generalize hxs : (playL stock store N M L (k + 1)).stock = s1 at *
      generalize SS[k]?.getD 0 = sk at *
      generalize MM[k]?.getD 0 = qk at *
      generalize N[k]?.getD 0 = xn at *
      generalize M[k]?.getD 0 = xm at *
      generalize L[k]?.getD 0 = xl at *
      have HXS := Lib.hid hxs
      clear hxs
      have k1 : k < n := hkn
      have k2 : k < MM.length := by have := HLL.out.1; omega
      have hlo : 0 ≤ lostD s xl ∧ lostD s xl ≤ 1000000 := by have := HST.out; unfold lostD; omega
      have hqb : 0 ≤ madeD store s xm xl ∧ madeD store s xm xl ≤ 1000000 := by have := HST.out; unfold madeD lostD; omega
      go_upto_if 47 with (fail)
      go_cut [15] (fun v wx => wx = wr ∧ v = .int .i64 (lostD s xl))
      case first =>
        by_cases c1 : s < xl
        · have HC : Hid (lostD s xl = s) := by show min xl s = s; omega
          go_wp2_with (fail)
          go_meet
          exact ⟨rfl, by rw [HC.out]⟩
        · have HC : Hid (lostD s xl = xl) := by show min xl s = xl; omega
          go_wp2_with (fail)
          go_meet
          exact ⟨rfl, by rw [HC.out]⟩
      case rest =>
        obtain ⟨rfl, rfl⟩ := hcut
        obtain ⟨wr, rfl⟩ : ∃ W : World, W = wc := ⟨_, rfl⟩
        clear xL
        have hm61 : m ≤ 61 := by have := HV.out.1; have := HLL.out.2; have := HN60.out; omega
        generalize lostD s xl = mu at *
        generalize madeD store s xm xl = q at *
        go_upto_block 2 with (fail)
        go_cut [16] (fun _ wx => Hid (PZ W1 wx g c m (rd F mu) ∧ (∀ x ∈ rd F mu, 0 ≤ x ∧ x ≤ 1000000)))
        case first =>
          go_wp2_with (fail)
          go_loopw [15, 16] (fun vA vB wx => ∃ (j : Nat) (l : Int) (G : List Int), vA = .int .i64 l ∧ vB = .int .i64 j ∧ j ≤ m ∧ Hid (PZ W1 wx g c m G ∧ RdI F mu j G l)) (fun _ j _ => m - (intOf j).toNat)
          case atStart => exact ⟨0, mu, F, rfl, rfl, Nat.zero_le _, HV.out.2.1, RdI.start HV.out.2.2 hlo⟩
          case round =>
            obtain ⟨j, l, G, rfl, rfl, hj, hG⟩ := hrel
            have HGL : Hid (G.length = m) := hG.out.1.len
            have hl0 := hG.out.2.l0
            by_cases hjl : j < m
            · by_cases hlp : 0 < l
              · obtain ⟨x, hx⟩ : ∃ x, G[j]? = some x := ⟨_, List.getElem?_eq_getElem (by have := HGL.out; omega)⟩
                have cx := hG.out.1.cell hx
                have fx := hG.out.1.free j
                have hxb := hG.out.2.p x (List.mem_of_getElem? hx)
                have HN := Lib.hid (hG.out.2.next hx)
                have HP := Lib.hid (hG.out.1.put j (x - takeD x l))
                clear hx hG
                go_upto_if 65 with (fail)
                go_cut [17] (fun v wx => wx = wr ∧ v = .int .i64 (takeD x l))
                case first =>
                  by_cases c1 : l < x
                  · have HC : Hid (takeD x l = l) := if_pos c1
                    go_wp2_with (fail)
                    go_meet
                    exact ⟨rfl, by rw [HC.out]⟩
                  · have HC : Hid (takeD x l = x) := if_neg c1
                    go_wp2_with (fail)
                    go_meet
                    exact ⟨rfl, by rw [HC.out]⟩
                case rest =>
                  obtain ⟨rfl, rfl⟩ := hcut
                  obtain ⟨wr, rfl⟩ : ∃ W : World, W = wc := ⟨_, rfl⟩
                  have ht := take_bound hxb.1 hl0.1
                  generalize takeD x l = t at *
                  have e1 : IntKind.i64.wrap (x - t) = x - t := IntWalk.i64_in _ (by omega)
                  have e2 : IntKind.i64.wrap (l - t) = l - t := IntWalk.i64_in _ (by omega)
                  go_wp2_with (fail)
                  go_roundw
                  case rel => exact ⟨j + 1, l - t, G.set j (x - t), rfl, by go_num, by omega, HP.out, HN.out⟩
                  case measure => first | (simp [intOf]; done) | (simp [intOf]; omega)
              · have HE : Hid (PZ W1 wr g c m (rd F mu) ∧ (∀ x ∈ rd F mu, 0 ≤ x ∧ x ≤ 1000000)) := by
                  have h := hG.out.2.full (.inr (by omega))
                  rw [← h]; exact ⟨hG.out.1, hG.out.2.p⟩
                clear hG
                go_wp2_with (fail)
                go_meet
                exact HE.out
            · have HE : Hid (PZ W1 wr g c m (rd F mu) ∧ (∀ x ∈ rd F mu, 0 ≤ x ∧ x ≤ 1000000)) := by
                have h := hG.out.2.full (.inl (by have := HGL.out; omega))
                rw [← h]; exact ⟨hG.out.1, hG.out.2.p⟩
              clear hG
              go_wp2_with (fail)
              go_meet
              exact HE.out
        case rest =>
          have HX1 := Lib.hid hcut.out
          clear hcut
          obtain ⟨W3, rfl⟩ : ∃ W : World, W = wc := ⟨_, rfl⟩
          generalize hD : rd F mu = D at *
          clear hD
          have xM := (HX1.out.1.b.cell (p := ⟨bM, oM + k, none⟩) yM.out.1).trans yM.out.2
          obtain rfl : qk = q := HQ.out.2
          go_upto_region 18 with (fail)
          have H4 : Hid (PZ W1 (W3.alloc (.cells #[.int .i64 qk] 3)) g c m D) := HX1.out.1.below ((Below.refl _ _).alloc (Nat.le_refl _) _)
          go_wp2_with (at_builtin; refine wpList_append_own_at _ rfl _ _ 27 rfl W1.heap.size 3 i0 (.int .i64 0) 1 8 Tryz.underlying27 hi hz0 hz1 hz2 rfl (by decide) (.slice (some ⟨g, 0, none⟩) m c) m (D.map (Value.int .i64)) rfl H4.out.o ⟨W3.heap.size, 0, none⟩ 1 1 [.int .i64 qk] rfl rfl (cell_one_new _ _ _) (by intro u hu; simp at hu; subst hu; rfl) (by unfold maxLen; omega) (by omega) H4.out.b.size ?_)
          intro v4 W4 hown hgrow _ _
          obtain ⟨g', c', rfl, hpv⟩ := H4.out.push hown hgrow
          have H5 : Hid (PZ W1 W4 g' c' (m + 1) (D ++ [qk]) ∧ (∀ x ∈ D ++ [qk], 0 ≤ x ∧ x ≤ 1000000)) := ⟨hpv, small_push HX1.out.2 hqb⟩
          have HF2 : Hid (rpL stock store N M L (k + 1) = rd (D ++ [qk]) xn) := HF1'.out
          clear hown hgrow hpv H4 HX1 xM HF1'
          generalize D ++ [qk] = F2 at *
          have HM1 : Hid (m + 1 = k + 1 + 1) := by show _ = _; have := HV.out.1; omega
          have hm62 : m + 1 ≤ 62 := by omega
          clear HV hm61
          generalize m + 1 = m1 at *
          obtain ⟨m, rfl⟩ : ∃ m, m = m1 := ⟨_, rfl⟩
          obtain ⟨g, rfl⟩ : ∃ g, g = g' := ⟨_, rfl⟩
          obtain ⟨c, rfl⟩ : ∃ c, c = c' := ⟨_, rfl⟩
          have xN := (H5.out.1.b.cell (p := ⟨bN, oN + k, none⟩) yN.out.1).trans yN.out.2
          have hnb : 0 ≤ xn ∧ xn ≤ 1000000 := by omega
          go_upto_block 4 with (fail)
          go_cut [19] (fun _ wx => Hid (PZ W1 wx g c m (rd F2 xn) ∧ (∀ x ∈ rd F2 xn, 0 ≤ x ∧ x ≤ 1000000)))
          case first =>
            go_wp2_with (fail)
            go_loopw [18, 19] (fun vA vB wx => ∃ (j : Nat) (l : Int) (G : List Int), vA = .int .i64 l ∧ vB = .int .i64 j ∧ j ≤ m ∧ Hid (PZ W1 wx g c m G ∧ RdI F2 xn j G l)) (fun _ j _ => m - (intOf j).toNat)
            case atStart => exact ⟨0, xn, F2, rfl, rfl, Nat.zero_le _, H5.out.1, RdI.start H5.out.2 hnb⟩
            case round =>
              obtain ⟨j, l, G, rfl, rfl, hj, hG⟩ := hrel
              have HGL : Hid (G.length = m) := hG.out.1.len
              have hl0 := hG.out.2.l0
              by_cases hjl : j < m
              · by_cases hlp : 0 < l
                · obtain ⟨x, hx⟩ : ∃ x, G[j]? = some x := ⟨_, List.getElem?_eq_getElem (by have := HGL.out; omega)⟩
                  have cx := hG.out.1.cell hx
                  have fx := hG.out.1.free j
                  have hxb := hG.out.2.p x (List.mem_of_getElem? hx)
                  have HN := Lib.hid (hG.out.2.next hx)
                  have HP := Lib.hid (hG.out.1.put j (x - takeD x l))
                  clear hx hG
                  go_upto_if 106 with (fail)
                  go_cut [20] (fun v wx => wx = wr ∧ v = .int .i64 (takeD x l))
                  case first =>
                    by_cases c1 : l < x
                    · have HC : Hid (takeD x l = l) := if_pos c1
                      go_wp2_with (fail)
                      go_meet
                      exact ⟨rfl, by rw [HC.out]⟩
                    · have HC : Hid (takeD x l = x) := if_neg c1
                      go_wp2_with (fail)
                      go_meet
                      exact ⟨rfl, by rw [HC.out]⟩
                  case rest =>
                    obtain ⟨rfl, rfl⟩ := hcut
                    obtain ⟨wr, rfl⟩ : ∃ W : World, W = wc := ⟨_, rfl⟩
                    have ht := take_bound hxb.1 hl0.1
                    generalize takeD x l = t at *
                    have e1 : IntKind.i64.wrap (x - t) = x - t := IntWalk.i64_in _ (by omega)
                    have e2 : IntKind.i64.wrap (l - t) = l - t := IntWalk.i64_in _ (by omega)
                    go_wp2_with (fail)
                    go_roundw
                    case rel => exact ⟨j + 1, l - t, G.set j (x - t), rfl, by go_num, by omega, HP.out, HN.out⟩
                    case measure => first | (simp [intOf]; done) | (simp [intOf]; omega)
                · have HE : Hid (PZ W1 wr g c m (rd F2 xn) ∧ (∀ x ∈ rd F2 xn, 0 ≤ x ∧ x ≤ 1000000)) := by
                    have h := hG.out.2.full (.inr (by omega))
                    rw [← h]; exact ⟨hG.out.1, hG.out.2.p⟩
                  clear hG
                  go_wp2_with (fail)
                  go_meet
                  exact HE.out
              · have HE : Hid (PZ W1 wr g c m (rd F2 xn) ∧ (∀ x ∈ rd F2 xn, 0 ≤ x ∧ x ≤ 1000000)) := by
                  have h := hG.out.2.full (.inl (by have := HGL.out; omega))
                  rw [← h]; exact ⟨hG.out.1, hG.out.2.p⟩
                clear hG
                go_wp2_with (fail)
                go_meet
                exact HE.out
          case rest =>
            have HX1 := Lib.hid hcut.out
            clear hcut
            obtain ⟨W3, rfl⟩ : ∃ W : World, W = wc := ⟨_, rfl⟩
            have xS := (HX1.out.1.b.cell (p := ⟨bS, oS + k, none⟩) yS.out.1).trans yS.out.2
            obtain rfl : sk = s1 := HQ.out.1
            have hk60 : k ≤ 60 := by have := HN60.out; omega
            go_wp2_with (fail)
            go_roundw
            case rel => exact ⟨k + 1, g, c, m, rd F2 xn, sk, rfl, rfl, by go_num, by omega, HM1.out, HX1.out.1, HX1.out.2, HF2.out.symm, HXS.out⟩
            case measure => first | (simp [intOf]; done) | (simp [intOf]; omega)
    · have hke : k = SS.length := by omega
      have HE : Hid (F = rpL stock store N M L n) := by show _ = _; rw [HRE.out, ← hke]; exact hR.out.2.2.2.1
      have HV := Lib.hid hR.out.2.1
      clear hR
      obtain ⟨sa2, sc2, e2, i2, _⟩ := ints_of_owns HV.out.o
      have hl2 := HV.out.len
      have HI : Hid (IntSl wr (some ⟨g, 0, none⟩) F) := by
        cases e2; exact i2
      clear e2 i2
      go_wp2_with (fail)
      go_ret
      refine ⟨some ⟨g, 0, none⟩, c, ?_, ?_, below_self H1.out.1 HV.out.b⟩
      · rw [← HE.out, hl2]; rfl
      · rw [← HE.out]; exact HI.out
end Go.Proofs.YtmebmcipmemofaaGreat
