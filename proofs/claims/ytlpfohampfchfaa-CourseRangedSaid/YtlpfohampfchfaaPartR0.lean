/-
The contract of CourseRanged over this seat's program.
  What is proved: it answers true; nothing that was there before has turned.
  Conditions: lists of bytes that read as such.
-/
import Derived.Test.YtlpfohampfchfaaPart15
import Derived.Deep.DeepCutAuto
import Derived.Deep.RegionLaw
namespace Go.Proofs.Ytlpfohampfchfaa
open Go.RowKit Go.Shelf
attribute [local go_sem] Oper.semAt_some

theorem drew_ap {own : Nat → Prop} {X w2 : World} (h : Apart own X.drew w2) : Apart own X w2 := ⟨h.os, h.tape, h.output, h.size, h.block⟩
theorem sps_apart {W W' : World} {Bd L : Nat} {a a2 : Option Addr} {n2 cap2 k : Nat} {xs : List Sp} (hx : Sl 2 Sp.cells W a xs) (hd : Deck W Bd L a2 n2 cap2 k) (ha : Apart (fun j => j = Bd) W W') : Sl 2 Sp.cells W' a xs := fun h0 => by
  have hne := sps_not hx h0 hd
  have hx' := hx
  obtain ⟨b, off, e, hb, _⟩ := hx h0
  exact sl_apart hx' ha.size (fun p hp => by rw [e] at hp; cases hp; exact ha.block _ hb (hne _ e)) h0
theorem ranges_get {stock store : Int} {ds : List Dy} {q : Nat} {s : Sp} (h : (rangesL stock store ds)[q]? = some s) : q < (worstL stock store ds).stocks.length ∧ s.lo = (worstL stock store ds).stocks[q]?.getD 0 ∧ s.hi = (bestL stock store ds).stocks[q]?.getD 0 := by
  have hl : q < (worstL stock store ds).stocks.length := by
    rcases Nat.lt_or_ge q (rangesL stock store ds).length with h' | h'
    · simpa [rangesL] using h'
    · rw [List.getElem?_eq_none h'] at h; cases h
  refine ⟨hl, ?_⟩
  simp only [rangesL, List.getElem?_map, List.getElem?_range hl, Option.map_some, Option.some.injEq] at h
  rw [← h]
  exact ⟨rfl, rfl⟩
theorem ranged_tells {stock store : Int} {ds : List Dy} {RL : List Sp} (hw : winE stock store ds = 0) (hr : rangesL stock store ds = RL) : (worstL stock store ds).stocks.length = RL.length ∧ RL.length ≤ (bestL stock store ds).stocks.length ∧ ∀ (q : Nat) (s : Sp), RL[q]? = some s → (worstL stock store ds).stocks[q]?.getD 0 = s.lo ∧ (bestL stock store ds).stocks[q]?.getD 0 = s.hi ∧ s.lo ≤ s.hi := by
  obtain ⟨b1, b2, b3⟩ := win_ok hw
  have hl := best_less b3 ⟨b1.1, b1.2.1⟩
  subst hr
  have hn : (worstL stock store ds).stocks.length = (rangesL stock store ds).length := by simp [rangesL]
  refine ⟨hn, by rw [← hn]; exact hl.len, fun q s h => ?_⟩
  obtain ⟨h1, h2, h3⟩ := ranges_get h
  exact ⟨h2.symm, h3.symm, by rw [h2, h3]; exact hl.at' q h1⟩
theorem ranged_in {stock store : Int} {ds : List Dy} {RL : List Sp} {N M L : List Int} (hw : winE stock store ds = 0) (hr : rangesL stock store ds = RL) (hs : Sky ds N M L) : RL.length ≤ (playL stock store N M L ds.length).stocks.length ∧ ∀ (q : Nat) (s : Sp), RL[q]? = some s → s.lo ≤ (playL stock store N M L ds.length).stocks[q]?.getD 0 ∧ (playL stock store N M L ds.length).stocks[q]?.getD 0 ≤ s.hi := by
  obtain ⟨b1, b2, b3⟩ := win_ok hw
  obtain ⟨h1, h2⟩ := sky_less hs b3 ⟨b1.1, b1.2.1⟩
  subst hr
  have hn : (worstL stock store ds).stocks.length = (rangesL stock store ds).length := by simp [rangesL]
  refine ⟨by rw [← hn]; exact h1.len, fun q s h => ?_⟩
  obtain ⟨g1, g2, g3⟩ := ranges_get h
  rw [g2, g3]
  exact ⟨h1.at' q g1, h2.at' q (Nat.lt_of_lt_of_le g1 h1.len)⟩

set_option maxRecDepth 100000 in
set_option maxHeartbeats 8000000 in
theorem ranged_any (a : Option Addr) (n cap : Nat) (a2 : Option Addr) (n2 cap2 : Nat) (w : World) (hb : BytesAt w a n) (hn : n ≤ 140737488355328) (hb2 : BytesAt w a2 n2) (hn2 : n2 ≤ 140737488355328) :
    Calls Try.prog 10 #[.slice a n cap, .slice a2 n2 cap2] w fun e w' => e = .returned (.bool true) ∧ Below w.heap.size w w' := by
  have HO := Lib.hid (of_any a n cap w hb hn)
  have HB2 := Lib.hid (And.intro hb2 hn2)
  clear hb hn hb2 hn2
  go_enter Try.func10, Try.ntmps10
  go_wp2_with (fail)
  refine HO.out.mono ?_
  rintro e w1 ⟨rfl, hD, hb1⟩
  have HD := Lib.hid (And.intro hD hb1)
  clear hD hb1 HO
  go_wp2_with (fail)
  refine (made_any w.heap.size (w.heap.size + 1) a n cap 0 20 w1 HD.out.1 (by omega) (by omega)).mono ?_
  rintro e w2 ⟨stock, store, ad, ds, cp, rfl, hS, h1, h2, h3, h4, _, hA, _⟩
  obtain ⟨Wa, hWa⟩ : ∃ Wa, w2.alloc (.cells #[.int .i64 stock, .int .i64 store, .slice ad ds.length cp] 60) = Wa := ⟨_, rfl⟩
  have hb2 : Below w.heap.size w w2 := below_apart HD.out.2 hA (fun j hj => by omega)
  have HF : Hid ((20 ≤ store ∧ store ≤ 200) ∧ (0 ≤ stock ∧ stock ≤ store) ∧ (1 ≤ ds.length ∧ ds.length ≤ 20) ∧ (∀ d ∈ ds, SmallDay d)) := ⟨h1, h2, ⟨h3.1, by omega⟩, h4⟩
  have HW := Lib.hid (winE_small (stock := stock) (store := store) (ds := ds) ⟨by omega, by omega⟩ h2 ⟨h3.1, by omega⟩ h4)
  have HK : Hid (KW w Wa w2.heap.size stock store ad ds cp ∧ w2.heap.size < Wa.heap.size ∧ (∀ p, ad = some p → p.block < Wa.heap.size)) := by
    rw [← hWa]
    refine ⟨⟨hb2.alloc hb2.size _, heap_alloc_new _ _, hS.below (alloc1 _ _)⟩, by simp, fun p hp => ?_⟩
    obtain ⟨b, off, e, hlt, _⟩ := hS (by omega)
    rw [hp] at e
    cases e
    show b < _
    simp; omega
  clear hS h1 h2 h3 h4 hA hb2
  go_wp2_with (fail)
  clear hWa
  refine (of_any a2 n2 cap2 Wa (HB2.out.1.keep HK.out.1.1.size (fun _ p _ hp => HK.out.1.1.block _ hp)) HB2.out.2).mono ?_
  rintro e w3 ⟨rfl, hD, hb⟩
  have HM : Hid (MP w w3 w2.heap.size Wa.heap.size stock store ad ds cp a2 n2 cap2 0) := ⟨HK.out.1.below hb, hD, HK.out.1.1.size, HK.out.2.1, HK.out.2.2⟩
  have HL : Hid (ds.length ≤ 1000000) := by have := HF.out.2.2.1; show _ ≤ _; omega
  clear hD hb
  obtain ⟨i0, hi, hz0, hz1, hz2⟩ := info_parts Try.info3
  have c0 := blk_cell HM.out.kw.2.1 0 rfl
  have c1 := blk_cell HM.out.kw.2.1 1 rfl
  have c2 := blk_cell HM.out.kw.2.1 2 rfl
  go_wp2_with (fail)
  clear c0 c1 c2
  have HC := ranges_any stock store ad ds cp w3 HM.out.kw.2.2 HL.out
  rw [rangesR, if_pos HW.out] at HC
  obtain ⟨RL, hRL⟩ : ∃ RL, rangesL stock store ds = RL := ⟨_, rfl⟩
  have HRL := Lib.hid hRL
  rw [hRL] at HC
  clear hRL
  refine HC.mono ?_
  rintro e w4 ⟨ar, rcap, rfl, iR, hb⟩
  have HM4 := Lib.hid (And.intro (HM.out.below hb) iR)
  clear hb HC iR
  have c0 := blk_cell HM4.out.1.kw.2.1 0 rfl
  have c1 := blk_cell HM4.out.1.kw.2.1 1 rfl
  have c2 := blk_cell HM4.out.1.kw.2.1 2 rfl
  go_wp2_with (fail)
  clear c0 c1 c2
  refine (Worst_any stock store ad ds cp w4 HM4.out.1.kw.2.2 HL.out HW.out).mono ?_
  rintro e w5 ⟨an, cn, am, cm, al, cl, rfl, iN, iM, iL, hb⟩
  obtain ⟨Wq, hWq⟩ : ∃ Wq, w5.alloc (.cells #[.slice an ds.length cn, .slice am ds.length cm, .slice al ds.length cl] 88) = Wq := ⟨_, rfl⟩
  have HMq : Hid (MP w Wq w2.heap.size Wa.heap.size stock store ad ds cp a2 n2 cap2 0 ∧ Sl 2 Sp.cells Wq ar RL ∧ Wq.heap[w5.heap.size]? = some (.cells #[.slice an ds.length cn, .slice am ds.length cm, .slice al ds.length cl] 88 (0, 0)) ∧ IntSl Wq an (ds.map fun d => d.need.hi) ∧ IntSl Wq am (ds.map fun d => d.make.lo) ∧ IntSl Wq al (ds.map fun d => d.loss.hi)) := by
    rw [← hWq]
    have h1 : Below w5.heap.size w5 (w5.alloc (.cells #[.slice an ds.length cn, .slice am ds.length cm, .slice al ds.length cl] 88)) := (Below.refl _ _).alloc (Nat.le_refl _) _
    exact ⟨(HM4.out.1.below hb).below h1, (HM4.out.2.below hb).below h1, heap_alloc_new _ _, iN.below h1, iM.below h1, iL.below h1⟩
  clear hb iN iM iL
  have hRlen : RL.length = (worstL stock store ds).stocks.length := by rw [← HRL.out]; simp [rangesL]
  have hrl : (RL.length : Int) ≤ (ds.length : Int) := by
    rw [hRlen]
    rcases play_len stock store (ds.map fun d => d.need.hi) (ds.map fun d => d.make.lo) (ds.map fun d => d.loss.hi) ds.length with ⟨_, h, _⟩ | ⟨q, _, h, _, hlt⟩
    · have h' : (worstL stock store ds).stocks.length = ds.length := h; omega
    · have h' : (worstL stock store ds).stocks.length = q := h; omega
  have qrl : decide (ds.length < RL.length) = false := by simp; omega
  clear hrl
  have HRN := Lib.hid hRlen
  clear hRlen
  have c2 := blk_cell HMq.out.1.kw.2.1 2 rfl
  have hlq : w2.heap.size < Wq.heap.size := lt_of_block HMq.out.1.kw.2.1
  obtain ⟨Wt, hWt⟩ : ∃ Wt, Wq.alloc (.cells #[.slice none 0 0, .slice none 0 0, .slice none 0 0] 88) = Wt := ⟨_, rfl⟩
  have HT : Hid (TR Wq Wq.heap.size (.slice none 0 0) (.slice none 0 0) (.slice none 0 0) Wt (.slice none 0 0) (.slice none 0 0) (.slice none 0 0) [] [] []) := by
    rw [← hWt]
    refine ⟨(Below.refl _ _).alloc (Nat.le_refl _) _, heap_alloc_new _ _, Nat.le_refl _, ⟨World.ownsRow_nil _ _ _ _, World.ownsRow_nil _ _ _ _, World.ownsRow_nil _ _ _ _, ?_, ?_, ?_⟩⟩
    all_goals (intro i hi; cases hi)
  have c2t := blk_cell (blk_below HMq.out.1.kw.2.1 HT.out.b) 2 rfl
  go_wp2_with (fail)
  clear c2 c2t hWq hWt
  go_loopw [54] (fun i wr => ∃ (j : Nat) (vN vM vL : Value) (N M L : List Int), i = .int .i64 j ∧ j ≤ ds.length ∧ Hid (TR Wq Wq.heap.size vN vM vL wr vN vM vL N M L) ∧ Hid (N = (ds.take j).map (fun d => d.need.lo) ∧ M = (ds.take j).map (fun d => d.make.hi) ∧ L = (ds.take j).map (fun d => d.loss.lo))) (fun i _ => ds.length - (intOf i).toNat)
  case atStart => exact ⟨0, _, _, _, [], [], [], rfl, Nat.zero_le _, HT.out, by simp, by simp, by simp⟩
  case round =>
    obtain ⟨j, vN, vM, vL, N, M, L, rfl, hj, hR, hE⟩ := hrel
    by_cases hlt : j < ds.length
    · obtain ⟨b, off, rfl, hbs, hc⟩ := HMq.out.1.kw.2.2 (by omega)
      have HD : Hid (ds[j]? = some ds[j]) := List.getElem?_eq_getElem hlt
      have ck : ∀ (i : Nat) (u : Int), (Dy.cells ds[j])[i]? = some u → wr.cell? ⟨b, off + j * 6 + i, none⟩ = some (.int .i64 u) := fun i u hu => (hR.out.b.cell (p := ⟨b, off + j * 6 + i, none⟩) hbs).trans (hc j ds[j] i u (List.getElem?_eq_getElem hlt) hu)
      have d0 : wr.cell? ⟨b, off + j * 6, none⟩ = some (.int .i64 ds[j].need.lo) := ck 0 _ rfl
      have d1 := ck 1 _ rfl
      have d2 := ck 2 _ rfl
      have d3 := ck 3 _ rfl
      have d4 := ck 4 _ rfl
      have d5 := ck 5 _ rfl
      have hNb : N.length ≤ 60 ∧ M.length ≤ 60 ∧ L.length ≤ 60 := by
        obtain ⟨h1, h2, h3⟩ := hE.out
        have := HF.out.2.2.1
        rw [h1, h2, h3, take_len hj, take_len hj, take_len hj]
        omega
      clear ck hc
      generalize ds[j] = d at *
      obtain ⟨Wx, hWx⟩ : ∃ Wx, wr.alloc (.cells #[.int .i64 d.need.lo, .int .i64 d.need.hi, .int .i64 d.make.lo, .int .i64 d.make.hi, .int .i64 d.loss.lo, .int .i64 d.loss.hi] 97) = Wx := ⟨_, rfl⟩
      have HW0 : Hid (TR Wq Wq.heap.size vN vM vL Wx vN vM vL N M L ∧ Wx.heap[wr.heap.size]? = some (.cells #[.int .i64 d.need.lo, .int .i64 d.need.hi, .int .i64 d.make.lo, .int .i64 d.make.hi, .int .i64 d.loss.lo, .int .i64 d.loss.hi] 97 (0, 0))) := by
        rw [← hWx]
        exact ⟨hR.out.below ((Below.refl _ _).alloc (Nat.le_refl _) _), heap_alloc_new _ _⟩
      go_upto_region 11 with (fail)
      clear hWx d0 d1 d2 d3 d4 d5
      have HE2 : Hid (N ++ [d.need.lo] = (ds.take (j + 1)).map (fun d => d.need.lo) ∧ M ++ [d.make.hi] = (ds.take (j + 1)).map (fun d => d.make.hi) ∧ L ++ [d.loss.lo] = (ds.take (j + 1)).map (fun d => d.loss.lo)) := by
        obtain ⟨h1, h2, h3⟩ := hE.out
        exact ⟨by rw [h1]; exact take_more (f := fun d => d.need.lo) HD.out, by rw [h2]; exact take_more (f := fun d => d.make.hi) HD.out, by rw [h3]; exact take_more (f := fun d => d.loss.lo) HD.out⟩
      have hdl := HF.out.2.2.1
      · skip
        refine wp_region_split (S := fun W' => (W'.cell? ⟨Wq.heap.size, 0, none⟩ = some vN ∧ W'.cell? ⟨Wq.heap.size, 1, none⟩ = some vM ∧ W'.cell? ⟨Wq.heap.size, 2, none⟩ = some vL) ∧ W'.heap[wr.heap.size]? = some (.cells #[.int .i64 d.need.lo, .int .i64 d.need.hi, .int .i64 d.make.lo, .int .i64 d.make.hi, .int .i64 d.loss.lo, .int .i64 d.loss.hi] 97 (0, 0))) [22, 23, 24, 25, 26] 22 (by kernel_rfl) (by kernel_rfl) rfl ?_
        have H0 : Hid (TR Wq Wq.heap.size vN vM vL Wx.drew vN vM vL N M L ∧ Wx.drew.heap[wr.heap.size]? = some (.cells #[.int .i64 d.need.lo, .int .i64 d.need.hi, .int .i64 d.make.lo, .int .i64 d.make.hi, .int .i64 d.loss.lo, .int .i64 d.loss.hi] 97 (0, 0))) := ⟨HW0.out.1.below (Below.refl _ _).drew, HW0.out.2⟩
        generalize Wx.drew = W0 at H0 ⊢
        rw [show firstL _ [22, 23, 24, 25, 26] = #[false, false, false, false, false, false, false, false, false, false, false, false, false, false, false, false, false, false, false, false, false, false, true, true, true, true, true] from by kernel_rfl]
        refine wpAnyH_take (i := 0) (v := .pointer (some ⟨Wq.heap.size, 0, none⟩)) rfl (by kernel_rfl) (by kernel_rfl) (by kernel_rfl) (fun _ _ _ h => h) (Or.inl ⟨by rfl, by (intro W hSw; clear hSw; go_simp)⟩) ⟨⟨blk_cell H0.out.1.tb 0 rfl, blk_cell H0.out.1.tb 1 rfl, blk_cell H0.out.1.tb 2 rfl⟩, H0.out.2⟩ ?_
        simp only [Act.put, List.setIfInBounds_toArray, List.set_cons_zero]
        refine wpAnyH_take (i := 1) (v := vN) rfl (by kernel_rfl) (by kernel_rfl) (by kernel_rfl) (fun _ _ _ h => h) (Or.inl ⟨by rfl, by (intro W hSw; have c := hSw.1.1; clear hSw; go_simp)⟩) ⟨⟨blk_cell H0.out.1.tb 0 rfl, blk_cell H0.out.1.tb 1 rfl, blk_cell H0.out.1.tb 2 rfl⟩, H0.out.2⟩ ?_
        simp only [Act.put, List.setIfInBounds_toArray, List.set_cons_zero, List.set_cons_succ]
        refine wpAnyH_take (i := 2) (v := .pointer (some ⟨wr.heap.size, 0, none⟩)) rfl (by kernel_rfl) (by kernel_rfl) (by kernel_rfl) (fun _ _ _ h => h) (Or.inl ⟨by rfl, by (intro W hSw; clear hSw; go_simp)⟩) ⟨⟨blk_cell H0.out.1.tb 0 rfl, blk_cell H0.out.1.tb 1 rfl, blk_cell H0.out.1.tb 2 rfl⟩, H0.out.2⟩ ?_
        simp only [Act.put, List.setIfInBounds_toArray, List.set_cons_zero, List.set_cons_succ]
        refine wpAnyH_take (i := 3) (v := .pointer (some ⟨wr.heap.size, 0, none⟩)) rfl (by kernel_rfl) (by kernel_rfl) (by kernel_rfl) (fun _ _ _ h => h) (Or.inl ⟨by rfl, by (intro W hSw; clear hSw; go_simp)⟩) ⟨⟨blk_cell H0.out.1.tb 0 rfl, blk_cell H0.out.1.tb 1 rfl, blk_cell H0.out.1.tb 2 rfl⟩, H0.out.2⟩ ?_
        simp only [Act.put, List.setIfInBounds_toArray, List.set_cons_zero, List.set_cons_succ]
        refine wpAnyH_take (i := 4) (v := .int .i64 d.need.lo) rfl (by kernel_rfl) (by kernel_rfl) (by kernel_rfl) (fun _ _ _ h => h) (Or.inl ⟨by rfl, by (intro W hSw; have c := blk_cell hSw.2 0 rfl; clear hSw; go_simp)⟩) ⟨⟨blk_cell H0.out.1.tb 0 rfl, blk_cell H0.out.1.tb 1 rfl, blk_cell H0.out.1.tb 2 rfl⟩, H0.out.2⟩ ?_
        simp only [Act.put, List.setIfInBounds_toArray, List.set_cons_zero, List.set_cons_succ]
        refine wpAnyH_take (i := 7) (v := .pointer (some ⟨Wq.heap.size, 1, none⟩)) rfl (by kernel_rfl) (by kernel_rfl) (by kernel_rfl) (fun _ _ _ h => h) (Or.inl ⟨by rfl, by (intro W hSw; clear hSw; go_simp)⟩) ⟨⟨blk_cell H0.out.1.tb 0 rfl, blk_cell H0.out.1.tb 1 rfl, blk_cell H0.out.1.tb 2 rfl⟩, H0.out.2⟩ ?_
        simp only [Act.put, List.setIfInBounds_toArray, List.set_cons_zero, List.set_cons_succ]
        refine wpAnyH_take (i := 8) (v := vM) rfl (by kernel_rfl) (by kernel_rfl) (by kernel_rfl) (fun _ _ _ h => h) (Or.inl ⟨by rfl, by (intro W hSw; have c := hSw.1.2.1; clear hSw; go_simp)⟩) ⟨⟨blk_cell H0.out.1.tb 0 rfl, blk_cell H0.out.1.tb 1 rfl, blk_cell H0.out.1.tb 2 rfl⟩, H0.out.2⟩ ?_
        simp only [Act.put, List.setIfInBounds_toArray, List.set_cons_zero, List.set_cons_succ]
        refine wpAnyH_take (i := 9) (v := .pointer (some ⟨wr.heap.size, 2, none⟩)) rfl (by kernel_rfl) (by kernel_rfl) (by kernel_rfl) (fun _ _ _ h => h) (Or.inl ⟨by rfl, by (intro W hSw; clear hSw; go_simp)⟩) ⟨⟨blk_cell H0.out.1.tb 0 rfl, blk_cell H0.out.1.tb 1 rfl, blk_cell H0.out.1.tb 2 rfl⟩, H0.out.2⟩ ?_
        simp only [Act.put, List.setIfInBounds_toArray, List.set_cons_zero, List.set_cons_succ]
        refine wpAnyH_take (i := 10) (v := .pointer (some ⟨wr.heap.size, 3, none⟩)) rfl (by kernel_rfl) (by kernel_rfl) (by kernel_rfl) (fun _ _ _ h => h) (Or.inl ⟨by rfl, by (intro W hSw; clear hSw; go_simp)⟩) ⟨⟨blk_cell H0.out.1.tb 0 rfl, blk_cell H0.out.1.tb 1 rfl, blk_cell H0.out.1.tb 2 rfl⟩, H0.out.2⟩ ?_
        simp only [Act.put, List.setIfInBounds_toArray, List.set_cons_zero, List.set_cons_succ]
        refine wpAnyH_take (i := 11) (v := .int .i64 d.make.hi) rfl (by kernel_rfl) (by kernel_rfl) (by kernel_rfl) (fun _ _ _ h => h) (Or.inl ⟨by rfl, by (intro W hSw; have c := blk_cell hSw.2 3 rfl; clear hSw; go_simp)⟩) ⟨⟨blk_cell H0.out.1.tb 0 rfl, blk_cell H0.out.1.tb 1 rfl, blk_cell H0.out.1.tb 2 rfl⟩, H0.out.2⟩ ?_
        simp only [Act.put, List.setIfInBounds_toArray, List.set_cons_zero, List.set_cons_succ]
        refine wpAnyH_take (i := 14) (v := .pointer (some ⟨Wq.heap.size, 2, none⟩)) rfl (by kernel_rfl) (by kernel_rfl) (by kernel_rfl) (fun _ _ _ h => h) (Or.inl ⟨by rfl, by (intro W hSw; clear hSw; go_simp)⟩) ⟨⟨blk_cell H0.out.1.tb 0 rfl, blk_cell H0.out.1.tb 1 rfl, blk_cell H0.out.1.tb 2 rfl⟩, H0.out.2⟩ ?_
        simp only [Act.put, List.setIfInBounds_toArray, List.set_cons_zero, List.set_cons_succ]
        refine wpAnyH_take (i := 15) (v := vL) rfl (by kernel_rfl) (by kernel_rfl) (by kernel_rfl) (fun _ _ _ h => h) (Or.inl ⟨by rfl, by (intro W hSw; have c := hSw.1.2.2; clear hSw; go_simp)⟩) ⟨⟨blk_cell H0.out.1.tb 0 rfl, blk_cell H0.out.1.tb 1 rfl, blk_cell H0.out.1.tb 2 rfl⟩, H0.out.2⟩ ?_
        simp only [Act.put, List.setIfInBounds_toArray, List.set_cons_zero, List.set_cons_succ]
        refine wpAnyH_take (i := 16) (v := .pointer (some ⟨wr.heap.size, 4, none⟩)) rfl (by kernel_rfl) (by kernel_rfl) (by kernel_rfl) (fun _ _ _ h => h) (Or.inl ⟨by rfl, by (intro W hSw; clear hSw; go_simp)⟩) ⟨⟨blk_cell H0.out.1.tb 0 rfl, blk_cell H0.out.1.tb 1 rfl, blk_cell H0.out.1.tb 2 rfl⟩, H0.out.2⟩ ?_
        simp only [Act.put, List.setIfInBounds_toArray, List.set_cons_zero, List.set_cons_succ]
        refine wpAnyH_take (i := 17) (v := .pointer (some ⟨wr.heap.size, 4, none⟩)) rfl (by kernel_rfl) (by kernel_rfl) (by kernel_rfl) (fun _ _ _ h => h) (Or.inl ⟨by rfl, by (intro W hSw; clear hSw; go_simp)⟩) ⟨⟨blk_cell H0.out.1.tb 0 rfl, blk_cell H0.out.1.tb 1 rfl, blk_cell H0.out.1.tb 2 rfl⟩, H0.out.2⟩ ?_
        simp only [Act.put, List.setIfInBounds_toArray, List.set_cons_zero, List.set_cons_succ]
        refine wpAnyH_take (i := 18) (v := .int .i64 d.loss.lo) rfl (by kernel_rfl) (by kernel_rfl) (by kernel_rfl) (fun _ _ _ h => h) (Or.inl ⟨by rfl, by (intro W hSw; have c := blk_cell hSw.2 4 rfl; clear hSw; go_simp)⟩) ⟨⟨blk_cell H0.out.1.tb 0 rfl, blk_cell H0.out.1.tb 1 rfl, blk_cell H0.out.1.tb 2 rfl⟩, H0.out.2⟩ ?_
        simp only [Act.put, List.setIfInBounds_toArray, List.set_cons_zero, List.set_cons_succ]
        refine wpAnyH_ready (rs := [5, 12, 19]) (by kernel_rfl) (by simp) ?_
        refine AllReadyH.cons (o := _) rfl (fun K hK => ?_) ?_
        · go_simp
          have H1 : Hid (TR Wq Wq.heap.size vN vM vL (W0.alloc (.cells #[.int .i64 d.need.lo] 3)) vN vM vL N M L ∧ (W0.alloc (.cells #[.int .i64 d.need.lo] 3)).heap[wr.heap.size]? = some (.cells #[.int .i64 d.need.lo, .int .i64 d.need.hi, .int .i64 d.make.lo, .int .i64 d.make.hi, .int .i64 d.loss.lo, .int .i64 d.loss.hi] 97 (0, 0))) := ⟨H0.out.1.below ((Below.refl _ _).alloc (Nat.le_refl _) _), alk H0.out.2⟩
          have P10 := Lib.hid (PD.new H0.out.1 d.need.lo)
          refine hK.out _ _ ⟨⟨blk_cell H1.out.1.tb 0 rfl, blk_cell H1.out.1.tb 1 rfl, blk_cell H1.out.1.tb 2 rfl⟩, H1.out.2⟩ (fun _ => ?_)
          clear hK
          generalize W0.alloc (.cells #[.int .i64 d.need.lo] 3) = W1 at H1 P10 ⊢
          simp only [List.setIfInBounds_toArray, List.set_cons_zero, List.set_cons_succ]
          refine wpAnyH_ready (rs := [6, 12, 19]) (by kernel_rfl) (by simp) ?_
          refine AllReadyH.cons (o := _) rfl (fun K hK => ?_) ?_
          · refine step_append_lies _ rfl (.tmp 59) (.tmp 63) 27 rfl (Wq.heap.size + 1) 3 i0 (.int .i64 0) 1 8 Try.underlying27 hi hz0 hz1 hz2 rfl (by decide) vN N.length (N.map (Value.int .i64)) rfl H1.out.1.r.n ⟨W0.heap.size, 0, none⟩ 1 1 [.int .i64 d.need.lo] rfl rfl P10.out.cells (by intro u hu; simp at hu; subst hu; rfl) (by decide) (by unfold maxLen; omega) (by omega) (by have := lt_of_block H1.out.1.tb; omega) _ rfl ?_
            intro g2 c2 W2 hown hgrow hat _
            have H2 : Hid (TR Wq Wq.heap.size vN vM vL W2 (.slice (some ⟨g2, 0, none⟩) (N.length + 1) c2) vM vL (N ++ [d.need.lo]) M L ∧ W2.heap[wr.heap.size]? = some (.cells #[.int .i64 d.need.lo, .int .i64 d.need.hi, .int .i64 d.make.lo, .int .i64 d.make.hi, .int .i64 d.loss.lo, .int .i64 d.loss.hi] 97 (0, 0))) := ⟨(H1.out.1).push hown hgrow hat, (H1.out.1).keep H1.out.2 hgrow⟩
            clear hown hgrow hat
            refine hK.out _ _ ⟨⟨blk_cell H2.out.1.tb 0 rfl, blk_cell H2.out.1.tb 1 rfl, blk_cell H2.out.1.tb 2 rfl⟩, H2.out.2⟩ (fun _ => ?_)
            clear hK
            simp only [Act.put, List.setIfInBounds_toArray, List.set_cons_zero, List.set_cons_succ]
            refine wpAnyH_take (i := 21) (v := .pointer (some ⟨Wq.heap.size, 0, none⟩)) rfl (by kernel_rfl) (by kernel_rfl) (by kernel_rfl) (fun _ _ _ h => h) (Or.inl ⟨by rfl, by (intro W hSw; clear hSw; go_simp)⟩) ⟨⟨blk_cell H2.out.1.tb 0 rfl, blk_cell H2.out.1.tb 1 rfl, blk_cell H2.out.1.tb 2 rfl⟩, H2.out.2⟩ ?_
            simp only [Act.put, List.setIfInBounds_toArray, List.set_cons_zero, List.set_cons_succ]
            refine wpAnyH_ready (rs := [12, 19]) (by kernel_rfl) (by simp) ?_
            refine AllReadyH.cons (o := _) rfl (fun K hK => ?_) ?_
            · go_simp
              have H3 : Hid (TR Wq Wq.heap.size vN vM vL (W2.alloc (.cells #[.int .i64 d.make.hi] 3)) (.slice (some ⟨g2, 0, none⟩) (N.length + 1) c2) vM vL (N ++ [d.need.lo]) M L ∧ (W2.alloc (.cells #[.int .i64 d.make.hi] 3)).heap[wr.heap.size]? = some (.cells #[.int .i64 d.need.lo, .int .i64 d.need.hi, .int .i64 d.make.lo, .int .i64 d.make.hi, .int .i64 d.loss.lo, .int .i64 d.loss.hi] 97 (0, 0))) := ⟨H2.out.1.below ((Below.refl _ _).alloc (Nat.le_refl _) _), alk H2.out.2⟩
              have P31 := Lib.hid (PD.new H2.out.1 d.make.hi)
              refine hK.out _ _ ⟨⟨blk_cell H3.out.1.tb 0 rfl, blk_cell H3.out.1.tb 1 rfl, blk_cell H3.out.1.tb 2 rfl⟩, H3.out.2⟩ (fun _ => ?_)
              clear hK
              generalize W2.alloc (.cells #[.int .i64 d.make.hi] 3) = W3 at H3 P31 ⊢
              simp only [List.setIfInBounds_toArray, List.set_cons_zero, List.set_cons_succ]
              refine wpAnyH_ready (rs := [13, 19]) (by kernel_rfl) (by simp) ?_
              refine AllReadyH.cons (o := _) rfl (fun K hK => ?_) ?_
              · refine step_append_lies _ rfl (.tmp 66) (.tmp 70) 27 rfl (Wq.heap.size + 1) 3 i0 (.int .i64 0) 1 8 Try.underlying27 hi hz0 hz1 hz2 rfl (by decide) vM M.length (M.map (Value.int .i64)) rfl H3.out.1.rot.r.n ⟨W2.heap.size, 0, none⟩ 1 1 [.int .i64 d.make.hi] rfl rfl P31.out.cells (by intro u hu; simp at hu; subst hu; rfl) (by decide) (by unfold maxLen; omega) (by omega) (by have := lt_of_block H3.out.1.tb; omega) _ rfl ?_
                intro g4 c4 W4 hown hgrow hat _
                have H4 : Hid (TR Wq Wq.heap.size vN vM vL W4 (.slice (some ⟨g4, 0, none⟩) (M.length + 1) c4) vL (.slice (some ⟨g2, 0, none⟩) (N.length + 1) c2) (M ++ [d.make.hi]) L (N ++ [d.need.lo]) ∧ W4.heap[wr.heap.size]? = some (.cells #[.int .i64 d.need.lo, .int .i64 d.need.hi, .int .i64 d.make.lo, .int .i64 d.make.hi, .int .i64 d.loss.lo, .int .i64 d.loss.hi] 97 (0, 0))) := ⟨(H3.out.1.rot).push hown hgrow hat, (H3.out.1.rot).keep H3.out.2 hgrow⟩
                clear hown hgrow hat
                refine hK.out _ _ ⟨⟨blk_cell H4.out.1.tb 0 rfl, blk_cell H4.out.1.tb 1 rfl, blk_cell H4.out.1.tb 2 rfl⟩, H4.out.2⟩ (fun _ => ?_)
                clear hK
                simp only [Act.put, List.setIfInBounds_toArray, List.set_cons_zero, List.set_cons_succ]
                refine wpAnyH_ready (rs := [19]) (by kernel_rfl) (by simp) ?_
                refine AllReadyH.cons (o := _) rfl (fun K hK => ?_) AllReadyH.nil
                go_simp
                have H5 : Hid (TR Wq Wq.heap.size vN vM vL (W4.alloc (.cells #[.int .i64 d.loss.lo] 3)) (.slice (some ⟨g4, 0, none⟩) (M.length + 1) c4) vL (.slice (some ⟨g2, 0, none⟩) (N.length + 1) c2) (M ++ [d.make.hi]) L (N ++ [d.need.lo]) ∧ (W4.alloc (.cells #[.int .i64 d.loss.lo] 3)).heap[wr.heap.size]? = some (.cells #[.int .i64 d.need.lo, .int .i64 d.need.hi, .int .i64 d.make.lo, .int .i64 d.make.hi, .int .i64 d.loss.lo, .int .i64 d.loss.hi] 97 (0, 0))) := ⟨H4.out.1.below ((Below.refl _ _).alloc (Nat.le_refl _) _), alk H4.out.2⟩
                have P52 := Lib.hid (PD.new H4.out.1 d.loss.lo)
                refine hK.out _ _ ⟨⟨blk_cell H5.out.1.tb 0 rfl, blk_cell H5.out.1.tb 1 rfl, blk_cell H5.out.1.tb 2 rfl⟩, H5.out.2⟩ (fun _ => ?_)
                clear hK
                generalize W4.alloc (.cells #[.int .i64 d.loss.lo] 3) = W5 at H5 P52 ⊢
                simp only [List.setIfInBounds_toArray, List.set_cons_zero, List.set_cons_succ]
                refine wpAnyH_ready (rs := [20]) (by kernel_rfl) (by simp) ?_
                refine AllReadyH.cons (o := _) rfl (fun K hK => ?_) AllReadyH.nil
                refine step_append_lies _ rfl (.tmp 73) (.tmp 77) 27 rfl (Wq.heap.size + 1) 3 i0 (.int .i64 0) 1 8 Try.underlying27 hi hz0 hz1 hz2 rfl (by decide) vL L.length (L.map (Value.int .i64)) rfl H5.out.1.rot.r.n ⟨W4.heap.size, 0, none⟩ 1 1 [.int .i64 d.loss.lo] rfl rfl P52.out.cells (by intro u hu; simp at hu; subst hu; rfl) (by decide) (by unfold maxLen; omega) (by omega) (by have := lt_of_block H5.out.1.tb; omega) _ rfl ?_
                intro g6 c6 W6 hown hgrow hat _
                have H6 : Hid (TR Wq Wq.heap.size vN vM vL W6 (.slice (some ⟨g6, 0, none⟩) (L.length + 1) c6) (.slice (some ⟨g2, 0, none⟩) (N.length + 1) c2) (.slice (some ⟨g4, 0, none⟩) (M.length + 1) c4) (L ++ [d.loss.lo]) (N ++ [d.need.lo]) (M ++ [d.make.hi]) ∧ W6.heap[wr.heap.size]? = some (.cells #[.int .i64 d.need.lo, .int .i64 d.need.hi, .int .i64 d.make.lo, .int .i64 d.make.hi, .int .i64 d.loss.lo, .int .i64 d.loss.hi] 97 (0, 0))) := ⟨(H5.out.1.rot).push hown hgrow hat, (H5.out.1.rot).keep H5.out.2 hgrow⟩
                clear hown hgrow hat
                refine hK.out _ _ ⟨⟨blk_cell H6.out.1.tb 0 rfl, blk_cell H6.out.1.tb 1 rfl, blk_cell H6.out.1.tb 2 rfl⟩, H6.out.2⟩ (fun _ => ?_)
                clear hK
                simp only [Act.put, List.setIfInBounds_toArray, List.set_cons_zero, List.set_cons_succ]
                refine wpAnyH_done (by kernel_rfl) ?_ _
                show wpList _ _ _ (opsAt _ [22, 23, 24, 25, 26]) _ _
                simp only [opsAt, List.filterMap_cons, List.filterMap_nil, List.getElem?_toArray, List.getElem?_cons_succ, List.getElem?_cons_zero]
                have HZ := (H6.out.1.rot).store
                have t0 := blk_cell H6.out.1.tb 0 rfl
                have t1 := blk_cell H6.out.1.tb 1 rfl
                have t2 := blk_cell H6.out.1.tb 2 rfl
                have f0 := blk_free (j := 0) H6.out.1.tb
                have f1 := blk_free (j := 1) H6.out.1.tb
                have f2 := blk_free (j := 2) H6.out.1.tb
                go_wp2_with (fail)
                go_roundw
                case rel => exact ⟨j + 1, _, _, _, _, _, _, by go_num, by omega, HZ, HE2⟩
                case measure => simp [intOf]; omega
              refine AllReadyH.cons (o := _) rfl (fun K hK => ?_) AllReadyH.nil
              go_simp
              have H7 : Hid (TR Wq Wq.heap.size vN vM vL (W3.alloc (.cells #[.int .i64 d.loss.lo] 3)) (.slice (some ⟨g2, 0, none⟩) (N.length + 1) c2) vM vL (N ++ [d.need.lo]) M L ∧ (W3.alloc (.cells #[.int .i64 d.loss.lo] 3)).heap[wr.heap.size]? = some (.cells #[.int .i64 d.need.lo, .int .i64 d.need.hi, .int .i64 d.make.lo, .int .i64 d.make.hi, .int .i64 d.loss.lo, .int .i64 d.loss.hi] 97 (0, 0))) := ⟨H3.out.1.below ((Below.refl _ _).alloc (Nat.le_refl _) _), alk H3.out.2⟩
              have P71 := Lib.hid (P31.out.below ((Below.refl W3.heap.size W3).alloc (Nat.le_refl _) (.cells #[.int .i64 d.loss.lo] 3)))
              have P72 := Lib.hid (PD.new H3.out.1 d.loss.lo)
              refine hK.out _ _ ⟨⟨blk_cell H7.out.1.tb 0 rfl, blk_cell H7.out.1.tb 1 rfl, blk_cell H7.out.1.tb 2 rfl⟩, H7.out.2⟩ (fun _ => ?_)
              clear hK
              generalize W3.alloc (.cells #[.int .i64 d.loss.lo] 3) = W7 at H7 P71 P72 ⊢
              simp only [List.setIfInBounds_toArray, List.set_cons_zero, List.set_cons_succ]
              refine wpAnyH_ready (rs := [13]) (by kernel_rfl) (by simp) ?_
              refine AllReadyH.cons (o := _) rfl (fun K hK => ?_) AllReadyH.nil
              refine step_append_lies _ rfl (.tmp 66) (.tmp 70) 27 rfl (Wq.heap.size + 1) 3 i0 (.int .i64 0) 1 8 Try.underlying27 hi hz0 hz1 hz2 rfl (by decide) vM M.length (M.map (Value.int .i64)) rfl H7.out.1.rot.r.n ⟨W2.heap.size, 0, none⟩ 1 1 [.int .i64 d.make.hi] rfl rfl P71.out.cells (by intro u hu; simp at hu; subst hu; rfl) (by decide) (by unfold maxLen; omega) (by omega) (by have := lt_of_block H7.out.1.tb; omega) _ rfl ?_
              intro g8 c8 W8 hown hgrow hat _
              have H8 : Hid (TR Wq Wq.heap.size vN vM vL W8 (.slice (some ⟨g8, 0, none⟩) (M.length + 1) c8) vL (.slice (some ⟨g2, 0, none⟩) (N.length + 1) c2) (M ++ [d.make.hi]) L (N ++ [d.need.lo]) ∧ W8.heap[wr.heap.size]? = some (.cells #[.int .i64 d.need.lo, .int .i64 d.need.hi, .int .i64 d.make.lo, .int .i64 d.make.hi, .int .i64 d.loss.lo, .int .i64 d.loss.hi] 97 (0, 0))) := ⟨(H7.out.1.rot).push hown hgrow hat, (H7.out.1.rot).keep H7.out.2 hgrow⟩
              have P82 := Lib.hid (PD.push (n := M.length + 1) (c := c8) (P72.out.rot) hgrow hat)
              clear hown hgrow hat
              refine hK.out _ _ ⟨⟨blk_cell H8.out.1.tb 0 rfl, blk_cell H8.out.1.tb 1 rfl, blk_cell H8.out.1.tb 2 rfl⟩, H8.out.2⟩ (fun _ => ?_)
              clear hK
              simp only [Act.put, List.setIfInBounds_toArray, List.set_cons_zero, List.set_cons_succ]
              refine wpAnyH_ready (rs := [20]) (by kernel_rfl) (by simp) ?_
              refine AllReadyH.cons (o := _) rfl (fun K hK => ?_) AllReadyH.nil
              refine step_append_lies _ rfl (.tmp 73) (.tmp 77) 27 rfl (Wq.heap.size + 1) 3 i0 (.int .i64 0) 1 8 Try.underlying27 hi hz0 hz1 hz2 rfl (by decide) vL L.length (L.map (Value.int .i64)) rfl H8.out.1.rot.r.n ⟨W3.heap.size, 0, none⟩ 1 1 [.int .i64 d.loss.lo] rfl rfl P82.out.cells (by intro u hu; simp at hu; subst hu; rfl) (by decide) (by unfold maxLen; omega) (by omega) (by have := lt_of_block H8.out.1.tb; omega) _ rfl ?_
              intro g9 c9 W9 hown hgrow hat _
              have H9 : Hid (TR Wq Wq.heap.size vN vM vL W9 (.slice (some ⟨g9, 0, none⟩) (L.length + 1) c9) (.slice (some ⟨g2, 0, none⟩) (N.length + 1) c2) (.slice (some ⟨g8, 0, none⟩) (M.length + 1) c8) (L ++ [d.loss.lo]) (N ++ [d.need.lo]) (M ++ [d.make.hi]) ∧ W9.heap[wr.heap.size]? = some (.cells #[.int .i64 d.need.lo, .int .i64 d.need.hi, .int .i64 d.make.lo, .int .i64 d.make.hi, .int .i64 d.loss.lo, .int .i64 d.loss.hi] 97 (0, 0))) := ⟨(H8.out.1.rot).push hown hgrow hat, (H8.out.1.rot).keep H8.out.2 hgrow⟩
              clear hown hgrow hat
              refine hK.out _ _ ⟨⟨blk_cell H9.out.1.tb 0 rfl, blk_cell H9.out.1.tb 1 rfl, blk_cell H9.out.1.tb 2 rfl⟩, H9.out.2⟩ (fun _ => ?_)
              clear hK
              simp only [Act.put, List.setIfInBounds_toArray, List.set_cons_zero, List.set_cons_succ]
              refine wpAnyH_done (by kernel_rfl) ?_ _
              show wpList _ _ _ (opsAt _ [22, 23, 24, 25, 26]) _ _
              simp only [opsAt, List.filterMap_cons, List.filterMap_nil, List.getElem?_toArray, List.getElem?_cons_succ, List.getElem?_cons_zero]
              have HZ := (H9.out.1.rot).store
              have t0 := blk_cell H9.out.1.tb 0 rfl
              have t1 := blk_cell H9.out.1.tb 1 rfl
              have t2 := blk_cell H9.out.1.tb 2 rfl
              have f0 := blk_free (j := 0) H9.out.1.tb
              have f1 := blk_free (j := 1) H9.out.1.tb
              have f2 := blk_free (j := 2) H9.out.1.tb
              go_wp2_with (fail)
              go_roundw
              case rel => exact ⟨j + 1, _, _, _, _, _, _, by go_num, by omega, HZ, HE2⟩
              case measure => simp [intOf]; omega
            refine AllReadyH.cons (o := _) rfl (fun K hK => ?_) AllReadyH.nil
            go_simp
            have H10 : Hid (TR Wq Wq.heap.size vN vM vL (W2.alloc (.cells #[.int .i64 d.loss.lo] 3)) (.slice (some ⟨g2, 0, none⟩) (N.length + 1) c2) vM vL (N ++ [d.need.lo]) M L ∧ (W2.alloc (.cells #[.int .i64 d.loss.lo] 3)).heap[wr.heap.size]? = some (.cells #[.int .i64 d.need.lo, .int .i64 d.need.hi, .int .i64 d.make.lo, .int .i64 d.make.hi, .int .i64 d.loss.lo, .int .i64 d.loss.hi] 97 (0, 0))) := ⟨H2.out.1.below ((Below.refl _ _).alloc (Nat.le_refl _) _), alk H2.out.2⟩
            have P102 := Lib.hid (PD.new H2.out.1 d.loss.lo)
            refine hK.out _ _ ⟨⟨blk_cell H10.out.1.tb 0 rfl, blk_cell H10.out.1.tb 1 rfl, blk_cell H10.out.1.tb 2 rfl⟩, H10.out.2⟩ (fun _ => ?_)
            clear hK
            generalize W2.alloc (.cells #[.int .i64 d.loss.lo] 3) = W10 at H10 P102 ⊢
            simp only [List.setIfInBounds_toArray, List.set_cons_zero, List.set_cons_succ]
            refine wpAnyH_ready (rs := [12]) (by kernel_rfl) (by simp) ?_
            refine AllReadyH.cons (o := _) rfl (fun K hK => ?_) AllReadyH.nil
            go_simp
            have H11 : Hid (TR Wq Wq.heap.size vN vM vL (W10.alloc (.cells #[.int .i64 d.make.hi] 3)) (.slice (some ⟨g2, 0, none⟩) (N.length + 1) c2) vM vL (N ++ [d.need.lo]) M L ∧ (W10.alloc (.cells #[.int .i64 d.make.hi] 3)).heap[wr.heap.size]? = some (.cells #[.int .i64 d.need.lo, .int .i64 d.need.hi, .int .i64 d.make.lo, .int .i64 d.make.hi, .int .i64 d.loss.lo, .int .i64 d.loss.hi] 97 (0, 0))) := ⟨H10.out.1.below ((Below.refl _ _).alloc (Nat.le_refl _) _), alk H10.out.2⟩
            have P112 := Lib.hid (P102.out.below ((Below.refl W10.heap.size W10).alloc (Nat.le_refl _) (.cells #[.int .i64 d.make.hi] 3)))
            have P111 := Lib.hid (PD.new H10.out.1 d.make.hi)
            refine hK.out _ _ ⟨⟨blk_cell H11.out.1.tb 0 rfl, blk_cell H11.out.1.tb 1 rfl, blk_cell H11.out.1.tb 2 rfl⟩, H11.out.2⟩ (fun _ => ?_)
            clear hK
            generalize W10.alloc (.cells #[.int .i64 d.make.hi] 3) = W11 at H11 P112 P111 ⊢
            simp only [List.setIfInBounds_toArray, List.set_cons_zero, List.set_cons_succ]
            refine wpAnyH_ready (rs := [13]) (by kernel_rfl) (by simp) ?_
            refine AllReadyH.cons (o := _) rfl (fun K hK => ?_) AllReadyH.nil
            refine step_append_lies _ rfl (.tmp 66) (.tmp 70) 27 rfl (Wq.heap.size + 1) 3 i0 (.int .i64 0) 1 8 Try.underlying27 hi hz0 hz1 hz2 rfl (by decide) vM M.length (M.map (Value.int .i64)) rfl H11.out.1.rot.r.n ⟨W10.heap.size, 0, none⟩ 1 1 [.int .i64 d.make.hi] rfl rfl P111.out.cells (by intro u hu; simp at hu; subst hu; rfl) (by decide) (by unfold maxLen; omega) (by omega) (by have := lt_of_block H11.out.1.tb; omega) _ rfl ?_
            intro g12 c12 W12 hown hgrow hat _
            have H12 : Hid (TR Wq Wq.heap.size vN vM vL W12 (.slice (some ⟨g12, 0, none⟩) (M.length + 1) c12) vL (.slice (some ⟨g2, 0, none⟩) (N.length + 1) c2) (M ++ [d.make.hi]) L (N ++ [d.need.lo]) ∧ W12.heap[wr.heap.size]? = some (.cells #[.int .i64 d.need.lo, .int .i64 d.need.hi, .int .i64 d.make.lo, .int .i64 d.make.hi, .int .i64 d.loss.lo, .int .i64 d.loss.hi] 97 (0, 0))) := ⟨(H11.out.1.rot).push hown hgrow hat, (H11.out.1.rot).keep H11.out.2 hgrow⟩
            have P122 := Lib.hid (PD.push (n := M.length + 1) (c := c12) (P112.out.rot) hgrow hat)
            clear hown hgrow hat
            refine hK.out _ _ ⟨⟨blk_cell H12.out.1.tb 0 rfl, blk_cell H12.out.1.tb 1 rfl, blk_cell H12.out.1.tb 2 rfl⟩, H12.out.2⟩ (fun _ => ?_)
            clear hK
            simp only [Act.put, List.setIfInBounds_toArray, List.set_cons_zero, List.set_cons_succ]
            refine wpAnyH_ready (rs := [20]) (by kernel_rfl) (by simp) ?_
            refine AllReadyH.cons (o := _) rfl (fun K hK => ?_) AllReadyH.nil
            refine step_append_lies _ rfl (.tmp 73) (.tmp 77) 27 rfl (Wq.heap.size + 1) 3 i0 (.int .i64 0) 1 8 Try.underlying27 hi hz0 hz1 hz2 rfl (by decide) vL L.length (L.map (Value.int .i64)) rfl H12.out.1.rot.r.n ⟨W2.heap.size, 0, none⟩ 1 1 [.int .i64 d.loss.lo] rfl rfl P122.out.cells (by intro u hu; simp at hu; subst hu; rfl) (by decide) (by unfold maxLen; omega) (by omega) (by have := lt_of_block H12.out.1.tb; omega) _ rfl ?_
            intro g13 c13 W13 hown hgrow hat _
            have H13 : Hid (TR Wq Wq.heap.size vN vM vL W13 (.slice (some ⟨g13, 0, none⟩) (L.length + 1) c13) (.slice (some ⟨g2, 0, none⟩) (N.length + 1) c2) (.slice (some ⟨g12, 0, none⟩) (M.length + 1) c12) (L ++ [d.loss.lo]) (N ++ [d.need.lo]) (M ++ [d.make.hi]) ∧ W13.heap[wr.heap.size]? = some (.cells #[.int .i64 d.need.lo, .int .i64 d.need.hi, .int .i64 d.make.lo, .int .i64 d.make.hi, .int .i64 d.loss.lo, .int .i64 d.loss.hi] 97 (0, 0))) := ⟨(H12.out.1.rot).push hown hgrow hat, (H12.out.1.rot).keep H12.out.2 hgrow⟩
            clear hown hgrow hat
            refine hK.out _ _ ⟨⟨blk_cell H13.out.1.tb 0 rfl, blk_cell H13.out.1.tb 1 rfl, blk_cell H13.out.1.tb 2 rfl⟩, H13.out.2⟩ (fun _ => ?_)
            clear hK
            simp only [Act.put, List.setIfInBounds_toArray, List.set_cons_zero, List.set_cons_succ]
            refine wpAnyH_done (by kernel_rfl) ?_ _
            show wpList _ _ _ (opsAt _ [22, 23, 24, 25, 26]) _ _
            simp only [opsAt, List.filterMap_cons, List.filterMap_nil, List.getElem?_toArray, List.getElem?_cons_succ, List.getElem?_cons_zero]
            have HZ := (H13.out.1.rot).store
            have t0 := blk_cell H13.out.1.tb 0 rfl
            have t1 := blk_cell H13.out.1.tb 1 rfl
            have t2 := blk_cell H13.out.1.tb 2 rfl
            have f0 := blk_free (j := 0) H13.out.1.tb
            have f1 := blk_free (j := 1) H13.out.1.tb
            have f2 := blk_free (j := 2) H13.out.1.tb
            go_wp2_with (fail)
            go_roundw
            case rel => exact ⟨j + 1, _, _, _, _, _, _, by go_num, by omega, HZ, HE2⟩
            case measure => simp [intOf]; omega
          refine AllReadyH.cons (o := _) rfl (fun K hK => ?_) ?_
          · go_simp
            have H14 : Hid (TR Wq Wq.heap.size vN vM vL (W1.alloc (.cells #[.int .i64 d.make.hi] 3)) vN vM vL N M L ∧ (W1.alloc (.cells #[.int .i64 d.make.hi] 3)).heap[wr.heap.size]? = some (.cells #[.int .i64 d.need.lo, .int .i64 d.need.hi, .int .i64 d.make.lo, .int .i64 d.make.hi, .int .i64 d.loss.lo, .int .i64 d.loss.hi] 97 (0, 0))) := ⟨H1.out.1.below ((Below.refl _ _).alloc (Nat.le_refl _) _), alk H1.out.2⟩
            have P140 := Lib.hid (P10.out.below ((Below.refl W1.heap.size W1).alloc (Nat.le_refl _) (.cells #[.int .i64 d.make.hi] 3)))
            have P141 := Lib.hid (PD.new H1.out.1 d.make.hi)
            refine hK.out _ _ ⟨⟨blk_cell H14.out.1.tb 0 rfl, blk_cell H14.out.1.tb 1 rfl, blk_cell H14.out.1.tb 2 rfl⟩, H14.out.2⟩ (fun _ => ?_)
            clear hK
            generalize W1.alloc (.cells #[.int .i64 d.make.hi] 3) = W14 at H14 P140 P141 ⊢
            simp only [List.setIfInBounds_toArray, List.set_cons_zero, List.set_cons_succ]
            refine wpAnyH_ready (rs := [6, 19]) (by kernel_rfl) (by simp) ?_
            refine AllReadyH.cons (o := _) rfl (fun K hK => ?_) ?_
            · refine step_append_lies _ rfl (.tmp 59) (.tmp 63) 27 rfl (Wq.heap.size + 1) 3 i0 (.int .i64 0) 1 8 Try.underlying27 hi hz0 hz1 hz2 rfl (by decide) vN N.length (N.map (Value.int .i64)) rfl H14.out.1.r.n ⟨W0.heap.size, 0, none⟩ 1 1 [.int .i64 d.need.lo] rfl rfl P140.out.cells (by intro u hu; simp at hu; subst hu; rfl) (by decide) (by unfold maxLen; omega) (by omega) (by have := lt_of_block H14.out.1.tb; omega) _ rfl ?_
              intro g15 c15 W15 hown hgrow hat _
              have H15 : Hid (TR Wq Wq.heap.size vN vM vL W15 (.slice (some ⟨g15, 0, none⟩) (N.length + 1) c15) vM vL (N ++ [d.need.lo]) M L ∧ W15.heap[wr.heap.size]? = some (.cells #[.int .i64 d.need.lo, .int .i64 d.need.hi, .int .i64 d.make.lo, .int .i64 d.make.hi, .int .i64 d.loss.lo, .int .i64 d.loss.hi] 97 (0, 0))) := ⟨(H14.out.1).push hown hgrow hat, (H14.out.1).keep H14.out.2 hgrow⟩
              have P151 := Lib.hid (PD.push (n := N.length + 1) (c := c15) (P141.out) hgrow hat)
              clear hown hgrow hat
              refine hK.out _ _ ⟨⟨blk_cell H15.out.1.tb 0 rfl, blk_cell H15.out.1.tb 1 rfl, blk_cell H15.out.1.tb 2 rfl⟩, H15.out.2⟩ (fun _ => ?_)
              clear hK
              simp only [Act.put, List.setIfInBounds_toArray, List.set_cons_zero, List.set_cons_succ]
              refine wpAnyH_take (i := 21) (v := .pointer (some ⟨Wq.heap.size, 0, none⟩)) rfl (by kernel_rfl) (by kernel_rfl) (by kernel_rfl) (fun _ _ _ h => h) (Or.inl ⟨by rfl, by (intro W hSw; clear hSw; go_simp)⟩) ⟨⟨blk_cell H15.out.1.tb 0 rfl, blk_cell H15.out.1.tb 1 rfl, blk_cell H15.out.1.tb 2 rfl⟩, H15.out.2⟩ ?_
              simp only [Act.put, List.setIfInBounds_toArray, List.set_cons_zero, List.set_cons_succ]
              refine wpAnyH_ready (rs := [13, 19]) (by kernel_rfl) (by simp) ?_
              refine AllReadyH.cons (o := _) rfl (fun K hK => ?_) ?_
              · refine step_append_lies _ rfl (.tmp 66) (.tmp 70) 27 rfl (Wq.heap.size + 1) 3 i0 (.int .i64 0) 1 8 Try.underlying27 hi hz0 hz1 hz2 rfl (by decide) vM M.length (M.map (Value.int .i64)) rfl H15.out.1.rot.r.n ⟨W1.heap.size, 0, none⟩ 1 1 [.int .i64 d.make.hi] rfl rfl P151.out.cells (by intro u hu; simp at hu; subst hu; rfl) (by decide) (by unfold maxLen; omega) (by omega) (by have := lt_of_block H15.out.1.tb; omega) _ rfl ?_
                intro g16 c16 W16 hown hgrow hat _
                have H16 : Hid (TR Wq Wq.heap.size vN vM vL W16 (.slice (some ⟨g16, 0, none⟩) (M.length + 1) c16) vL (.slice (some ⟨g15, 0, none⟩) (N.length + 1) c15) (M ++ [d.make.hi]) L (N ++ [d.need.lo]) ∧ W16.heap[wr.heap.size]? = some (.cells #[.int .i64 d.need.lo, .int .i64 d.need.hi, .int .i64 d.make.lo, .int .i64 d.make.hi, .int .i64 d.loss.lo, .int .i64 d.loss.hi] 97 (0, 0))) := ⟨(H15.out.1.rot).push hown hgrow hat, (H15.out.1.rot).keep H15.out.2 hgrow⟩
                clear hown hgrow hat
                refine hK.out _ _ ⟨⟨blk_cell H16.out.1.tb 0 rfl, blk_cell H16.out.1.tb 1 rfl, blk_cell H16.out.1.tb 2 rfl⟩, H16.out.2⟩ (fun _ => ?_)
                clear hK
                simp only [Act.put, List.setIfInBounds_toArray, List.set_cons_zero, List.set_cons_succ]
                refine wpAnyH_ready (rs := [19]) (by kernel_rfl) (by simp) ?_
                refine AllReadyH.cons (o := _) rfl (fun K hK => ?_) AllReadyH.nil
                go_simp
                have H17 : Hid (TR Wq Wq.heap.size vN vM vL (W16.alloc (.cells #[.int .i64 d.loss.lo] 3)) (.slice (some ⟨g16, 0, none⟩) (M.length + 1) c16) vL (.slice (some ⟨g15, 0, none⟩) (N.length + 1) c15) (M ++ [d.make.hi]) L (N ++ [d.need.lo]) ∧ (W16.alloc (.cells #[.int .i64 d.loss.lo] 3)).heap[wr.heap.size]? = some (.cells #[.int .i64 d.need.lo, .int .i64 d.need.hi, .int .i64 d.make.lo, .int .i64 d.make.hi, .int .i64 d.loss.lo, .int .i64 d.loss.hi] 97 (0, 0))) := ⟨H16.out.1.below ((Below.refl _ _).alloc (Nat.le_refl _) _), alk H16.out.2⟩
                have P172 := Lib.hid (PD.new H16.out.1 d.loss.lo)
                refine hK.out _ _ ⟨⟨blk_cell H17.out.1.tb 0 rfl, blk_cell H17.out.1.tb 1 rfl, blk_cell H17.out.1.tb 2 rfl⟩, H17.out.2⟩ (fun _ => ?_)
                clear hK
                generalize W16.alloc (.cells #[.int .i64 d.loss.lo] 3) = W17 at H17 P172 ⊢
                simp only [List.setIfInBounds_toArray, List.set_cons_zero, List.set_cons_succ]
                refine wpAnyH_ready (rs := [20]) (by kernel_rfl) (by simp) ?_
                refine AllReadyH.cons (o := _) rfl (fun K hK => ?_) AllReadyH.nil
                refine step_append_lies _ rfl (.tmp 73) (.tmp 77) 27 rfl (Wq.heap.size + 1) 3 i0 (.int .i64 0) 1 8 Try.underlying27 hi hz0 hz1 hz2 rfl (by decide) vL L.length (L.map (Value.int .i64)) rfl H17.out.1.rot.r.n ⟨W16.heap.size, 0, none⟩ 1 1 [.int .i64 d.loss.lo] rfl rfl P172.out.cells (by intro u hu; simp at hu; subst hu; rfl) (by decide) (by unfold maxLen; omega) (by omega) (by have := lt_of_block H17.out.1.tb; omega) _ rfl ?_
                intro g18 c18 W18 hown hgrow hat _
                have H18 : Hid (TR Wq Wq.heap.size vN vM vL W18 (.slice (some ⟨g18, 0, none⟩) (L.length + 1) c18) (.slice (some ⟨g15, 0, none⟩) (N.length + 1) c15) (.slice (some ⟨g16, 0, none⟩) (M.length + 1) c16) (L ++ [d.loss.lo]) (N ++ [d.need.lo]) (M ++ [d.make.hi]) ∧ W18.heap[wr.heap.size]? = some (.cells #[.int .i64 d.need.lo, .int .i64 d.need.hi, .int .i64 d.make.lo, .int .i64 d.make.hi, .int .i64 d.loss.lo, .int .i64 d.loss.hi] 97 (0, 0))) := ⟨(H17.out.1.rot).push hown hgrow hat, (H17.out.1.rot).keep H17.out.2 hgrow⟩
                clear hown hgrow hat
                refine hK.out _ _ ⟨⟨blk_cell H18.out.1.tb 0 rfl, blk_cell H18.out.1.tb 1 rfl, blk_cell H18.out.1.tb 2 rfl⟩, H18.out.2⟩ (fun _ => ?_)
                clear hK
                simp only [Act.put, List.setIfInBounds_toArray, List.set_cons_zero, List.set_cons_succ]
                refine wpAnyH_done (by kernel_rfl) ?_ _
                show wpList _ _ _ (opsAt _ [22, 23, 24, 25, 26]) _ _
                simp only [opsAt, List.filterMap_cons, List.filterMap_nil, List.getElem?_toArray, List.getElem?_cons_succ, List.getElem?_cons_zero]
                have HZ := (H18.out.1.rot).store
                have t0 := blk_cell H18.out.1.tb 0 rfl
                have t1 := blk_cell H18.out.1.tb 1 rfl
                have t2 := blk_cell H18.out.1.tb 2 rfl
                have f0 := blk_free (j := 0) H18.out.1.tb
                have f1 := blk_free (j := 1) H18.out.1.tb
                have f2 := blk_free (j := 2) H18.out.1.tb
                go_wp2_with (fail)
                go_roundw
                case rel => exact ⟨j + 1, _, _, _, _, _, _, by go_num, by omega, HZ, HE2⟩
                case measure => simp [intOf]; omega
              refine AllReadyH.cons (o := _) rfl (fun K hK => ?_) AllReadyH.nil
              go_simp
              have H19 : Hid (TR Wq Wq.heap.size vN vM vL (W15.alloc (.cells #[.int .i64 d.loss.lo] 3)) (.slice (some ⟨g15, 0, none⟩) (N.length + 1) c15) vM vL (N ++ [d.need.lo]) M L ∧ (W15.alloc (.cells #[.int .i64 d.loss.lo] 3)).heap[wr.heap.size]? = some (.cells #[.int .i64 d.need.lo, .int .i64 d.need.hi, .int .i64 d.make.lo, .int .i64 d.make.hi, .int .i64 d.loss.lo, .int .i64 d.loss.hi] 97 (0, 0))) := ⟨H15.out.1.below ((Below.refl _ _).alloc (Nat.le_refl _) _), alk H15.out.2⟩
              have P191 := Lib.hid (P151.out.below ((Below.refl W15.heap.size W15).alloc (Nat.le_refl _) (.cells #[.int .i64 d.loss.lo] 3)))
              have P192 := Lib.hid (PD.new H15.out.1 d.loss.lo)
              refine hK.out _ _ ⟨⟨blk_cell H19.out.1.tb 0 rfl, blk_cell H19.out.1.tb 1 rfl, blk_cell H19.out.1.tb 2 rfl⟩, H19.out.2⟩ (fun _ => ?_)
              clear hK
              generalize W15.alloc (.cells #[.int .i64 d.loss.lo] 3) = W19 at H19 P191 P192 ⊢
              simp only [List.setIfInBounds_toArray, List.set_cons_zero, List.set_cons_succ]
              refine wpAnyH_ready (rs := [13]) (by kernel_rfl) (by simp) ?_
              refine AllReadyH.cons (o := _) rfl (fun K hK => ?_) AllReadyH.nil
              refine step_append_lies _ rfl (.tmp 66) (.tmp 70) 27 rfl (Wq.heap.size + 1) 3 i0 (.int .i64 0) 1 8 Try.underlying27 hi hz0 hz1 hz2 rfl (by decide) vM M.length (M.map (Value.int .i64)) rfl H19.out.1.rot.r.n ⟨W1.heap.size, 0, none⟩ 1 1 [.int .i64 d.make.hi] rfl rfl P191.out.cells (by intro u hu; simp at hu; subst hu; rfl) (by decide) (by unfold maxLen; omega) (by omega) (by have := lt_of_block H19.out.1.tb; omega) _ rfl ?_
              intro g20 c20 W20 hown hgrow hat _
              have H20 : Hid (TR Wq Wq.heap.size vN vM vL W20 (.slice (some ⟨g20, 0, none⟩) (M.length + 1) c20) vL (.slice (some ⟨g15, 0, none⟩) (N.length + 1) c15) (M ++ [d.make.hi]) L (N ++ [d.need.lo]) ∧ W20.heap[wr.heap.size]? = some (.cells #[.int .i64 d.need.lo, .int .i64 d.need.hi, .int .i64 d.make.lo, .int .i64 d.make.hi, .int .i64 d.loss.lo, .int .i64 d.loss.hi] 97 (0, 0))) := ⟨(H19.out.1.rot).push hown hgrow hat, (H19.out.1.rot).keep H19.out.2 hgrow⟩
              have P202 := Lib.hid (PD.push (n := M.length + 1) (c := c20) (P192.out.rot) hgrow hat)
              clear hown hgrow hat
              refine hK.out _ _ ⟨⟨blk_cell H20.out.1.tb 0 rfl, blk_cell H20.out.1.tb 1 rfl, blk_cell H20.out.1.tb 2 rfl⟩, H20.out.2⟩ (fun _ => ?_)
              clear hK
              simp only [Act.put, List.setIfInBounds_toArray, List.set_cons_zero, List.set_cons_succ]
              refine wpAnyH_ready (rs := [20]) (by kernel_rfl) (by simp) ?_
              refine AllReadyH.cons (o := _) rfl (fun K hK => ?_) AllReadyH.nil
              refine step_append_lies _ rfl (.tmp 73) (.tmp 77) 27 rfl (Wq.heap.size + 1) 3 i0 (.int .i64 0) 1 8 Try.underlying27 hi hz0 hz1 hz2 rfl (by decide) vL L.length (L.map (Value.int .i64)) rfl H20.out.1.rot.r.n ⟨W15.heap.size, 0, none⟩ 1 1 [.int .i64 d.loss.lo] rfl rfl P202.out.cells (by intro u hu; simp at hu; subst hu; rfl) (by decide) (by unfold maxLen; omega) (by omega) (by have := lt_of_block H20.out.1.tb; omega) _ rfl ?_
              intro g21 c21 W21 hown hgrow hat _
              have H21 : Hid (TR Wq Wq.heap.size vN vM vL W21 (.slice (some ⟨g21, 0, none⟩) (L.length + 1) c21) (.slice (some ⟨g15, 0, none⟩) (N.length + 1) c15) (.slice (some ⟨g20, 0, none⟩) (M.length + 1) c20) (L ++ [d.loss.lo]) (N ++ [d.need.lo]) (M ++ [d.make.hi]) ∧ W21.heap[wr.heap.size]? = some (.cells #[.int .i64 d.need.lo, .int .i64 d.need.hi, .int .i64 d.make.lo, .int .i64 d.make.hi, .int .i64 d.loss.lo, .int .i64 d.loss.hi] 97 (0, 0))) := ⟨(H20.out.1.rot).push hown hgrow hat, (H20.out.1.rot).keep H20.out.2 hgrow⟩
              clear hown hgrow hat
              refine hK.out _ _ ⟨⟨blk_cell H21.out.1.tb 0 rfl, blk_cell H21.out.1.tb 1 rfl, blk_cell H21.out.1.tb 2 rfl⟩, H21.out.2⟩ (fun _ => ?_)
              clear hK
              simp only [Act.put, List.setIfInBounds_toArray, List.set_cons_zero, List.set_cons_succ]
              refine wpAnyH_done (by kernel_rfl) ?_ _
              show wpList _ _ _ (opsAt _ [22, 23, 24, 25, 26]) _ _
              simp only [opsAt, List.filterMap_cons, List.filterMap_nil, List.getElem?_toArray, List.getElem?_cons_succ, List.getElem?_cons_zero]
              have HZ := (H21.out.1.rot).store
              have t0 := blk_cell H21.out.1.tb 0 rfl
              have t1 := blk_cell H21.out.1.tb 1 rfl
              have t2 := blk_cell H21.out.1.tb 2 rfl
              have f0 := blk_free (j := 0) H21.out.1.tb
              have f1 := blk_free (j := 1) H21.out.1.tb
              have f2 := blk_free (j := 2) H21.out.1.tb
              go_wp2_with (fail)
              go_roundw
              case rel => exact ⟨j + 1, _, _, _, _, _, _, by go_num, by omega, HZ, HE2⟩
              case measure => simp [intOf]; omega
            refine AllReadyH.cons (o := _) rfl (fun K hK => ?_) AllReadyH.nil
            go_simp
            have H22 : Hid (TR Wq Wq.heap.size vN vM vL (W14.alloc (.cells #[.int .i64 d.loss.lo] 3)) vN vM vL N M L ∧ (W14.alloc (.cells #[.int .i64 d.loss.lo] 3)).heap[wr.heap.size]? = some (.cells #[.int .i64 d.need.lo, .int .i64 d.need.hi, .int .i64 d.make.lo, .int .i64 d.make.hi, .int .i64 d.loss.lo, .int .i64 d.loss.hi] 97 (0, 0))) := ⟨H14.out.1.below ((Below.refl _ _).alloc (Nat.le_refl _) _), alk H14.out.2⟩
            have P220 := Lib.hid (P140.out.below ((Below.refl W14.heap.size W14).alloc (Nat.le_refl _) (.cells #[.int .i64 d.loss.lo] 3)))
            have P221 := Lib.hid (P141.out.below ((Below.refl W14.heap.size W14).alloc (Nat.le_refl _) (.cells #[.int .i64 d.loss.lo] 3)))
            have P222 := Lib.hid (PD.new H14.out.1 d.loss.lo)
            refine hK.out _ _ ⟨⟨blk_cell H22.out.1.tb 0 rfl, blk_cell H22.out.1.tb 1 rfl, blk_cell H22.out.1.tb 2 rfl⟩, H22.out.2⟩ (fun _ => ?_)
            clear hK
            generalize W14.alloc (.cells #[.int .i64 d.loss.lo] 3) = W22 at H22 P220 P221 P222 ⊢
            simp only [List.setIfInBounds_toArray, List.set_cons_zero, List.set_cons_succ]
            refine wpAnyH_ready (rs := [6]) (by kernel_rfl) (by simp) ?_
            refine AllReadyH.cons (o := _) rfl (fun K hK => ?_) AllReadyH.nil
            refine step_append_lies _ rfl (.tmp 59) (.tmp 63) 27 rfl (Wq.heap.size + 1) 3 i0 (.int .i64 0) 1 8 Try.underlying27 hi hz0 hz1 hz2 rfl (by decide) vN N.length (N.map (Value.int .i64)) rfl H22.out.1.r.n ⟨W0.heap.size, 0, none⟩ 1 1 [.int .i64 d.need.lo] rfl rfl P220.out.cells (by intro u hu; simp at hu; subst hu; rfl) (by decide) (by unfold maxLen; omega) (by omega) (by have := lt_of_block H22.out.1.tb; omega) _ rfl ?_
            intro g23 c23 W23 hown hgrow hat _
            have H23 : Hid (TR Wq Wq.heap.size vN vM vL W23 (.slice (some ⟨g23, 0, none⟩) (N.length + 1) c23) vM vL (N ++ [d.need.lo]) M L ∧ W23.heap[wr.heap.size]? = some (.cells #[.int .i64 d.need.lo, .int .i64 d.need.hi, .int .i64 d.make.lo, .int .i64 d.make.hi, .int .i64 d.loss.lo, .int .i64 d.loss.hi] 97 (0, 0))) := ⟨(H22.out.1).push hown hgrow hat, (H22.out.1).keep H22.out.2 hgrow⟩
            have P231 := Lib.hid (PD.push (n := N.length + 1) (c := c23) (P221.out) hgrow hat)
            have P232 := Lib.hid (PD.push (n := N.length + 1) (c := c23) (P222.out) hgrow hat)
            clear hown hgrow hat
            refine hK.out _ _ ⟨⟨blk_cell H23.out.1.tb 0 rfl, blk_cell H23.out.1.tb 1 rfl, blk_cell H23.out.1.tb 2 rfl⟩, H23.out.2⟩ (fun _ => ?_)
            clear hK
            simp only [Act.put, List.setIfInBounds_toArray, List.set_cons_zero, List.set_cons_succ]
            refine wpAnyH_take (i := 21) (v := .pointer (some ⟨Wq.heap.size, 0, none⟩)) rfl (by kernel_rfl) (by kernel_rfl) (by kernel_rfl) (fun _ _ _ h => h) (Or.inl ⟨by rfl, by (intro W hSw; clear hSw; go_simp)⟩) ⟨⟨blk_cell H23.out.1.tb 0 rfl, blk_cell H23.out.1.tb 1 rfl, blk_cell H23.out.1.tb 2 rfl⟩, H23.out.2⟩ ?_
            simp only [Act.put, List.setIfInBounds_toArray, List.set_cons_zero, List.set_cons_succ]
            refine wpAnyH_ready (rs := [13]) (by kernel_rfl) (by simp) ?_
            refine AllReadyH.cons (o := _) rfl (fun K hK => ?_) AllReadyH.nil
            refine step_append_lies _ rfl (.tmp 66) (.tmp 70) 27 rfl (Wq.heap.size + 1) 3 i0 (.int .i64 0) 1 8 Try.underlying27 hi hz0 hz1 hz2 rfl (by decide) vM M.length (M.map (Value.int .i64)) rfl H23.out.1.rot.r.n ⟨W1.heap.size, 0, none⟩ 1 1 [.int .i64 d.make.hi] rfl rfl P231.out.cells (by intro u hu; simp at hu; subst hu; rfl) (by decide) (by unfold maxLen; omega) (by omega) (by have := lt_of_block H23.out.1.tb; omega) _ rfl ?_
            intro g24 c24 W24 hown hgrow hat _
            have H24 : Hid (TR Wq Wq.heap.size vN vM vL W24 (.slice (some ⟨g24, 0, none⟩) (M.length + 1) c24) vL (.slice (some ⟨g23, 0, none⟩) (N.length + 1) c23) (M ++ [d.make.hi]) L (N ++ [d.need.lo]) ∧ W24.heap[wr.heap.size]? = some (.cells #[.int .i64 d.need.lo, .int .i64 d.need.hi, .int .i64 d.make.lo, .int .i64 d.make.hi, .int .i64 d.loss.lo, .int .i64 d.loss.hi] 97 (0, 0))) := ⟨(H23.out.1.rot).push hown hgrow hat, (H23.out.1.rot).keep H23.out.2 hgrow⟩
            have P242 := Lib.hid (PD.push (n := M.length + 1) (c := c24) (P232.out.rot) hgrow hat)
            clear hown hgrow hat
            refine hK.out _ _ ⟨⟨blk_cell H24.out.1.tb 0 rfl, blk_cell H24.out.1.tb 1 rfl, blk_cell H24.out.1.tb 2 rfl⟩, H24.out.2⟩ (fun _ => ?_)
            clear hK
            simp only [Act.put, List.setIfInBounds_toArray, List.set_cons_zero, List.set_cons_succ]
            refine wpAnyH_ready (rs := [20]) (by kernel_rfl) (by simp) ?_
            refine AllReadyH.cons (o := _) rfl (fun K hK => ?_) AllReadyH.nil
            refine step_append_lies _ rfl (.tmp 73) (.tmp 77) 27 rfl (Wq.heap.size + 1) 3 i0 (.int .i64 0) 1 8 Try.underlying27 hi hz0 hz1 hz2 rfl (by decide) vL L.length (L.map (Value.int .i64)) rfl H24.out.1.rot.r.n ⟨W14.heap.size, 0, none⟩ 1 1 [.int .i64 d.loss.lo] rfl rfl P242.out.cells (by intro u hu; simp at hu; subst hu; rfl) (by decide) (by unfold maxLen; omega) (by omega) (by have := lt_of_block H24.out.1.tb; omega) _ rfl ?_
            intro g25 c25 W25 hown hgrow hat _
            have H25 : Hid (TR Wq Wq.heap.size vN vM vL W25 (.slice (some ⟨g25, 0, none⟩) (L.length + 1) c25) (.slice (some ⟨g23, 0, none⟩) (N.length + 1) c23) (.slice (some ⟨g24, 0, none⟩) (M.length + 1) c24) (L ++ [d.loss.lo]) (N ++ [d.need.lo]) (M ++ [d.make.hi]) ∧ W25.heap[wr.heap.size]? = some (.cells #[.int .i64 d.need.lo, .int .i64 d.need.hi, .int .i64 d.make.lo, .int .i64 d.make.hi, .int .i64 d.loss.lo, .int .i64 d.loss.hi] 97 (0, 0))) := ⟨(H24.out.1.rot).push hown hgrow hat, (H24.out.1.rot).keep H24.out.2 hgrow⟩
            clear hown hgrow hat
            refine hK.out _ _ ⟨⟨blk_cell H25.out.1.tb 0 rfl, blk_cell H25.out.1.tb 1 rfl, blk_cell H25.out.1.tb 2 rfl⟩, H25.out.2⟩ (fun _ => ?_)
            clear hK
            simp only [Act.put, List.setIfInBounds_toArray, List.set_cons_zero, List.set_cons_succ]
            refine wpAnyH_done (by kernel_rfl) ?_ _
            show wpList _ _ _ (opsAt _ [22, 23, 24, 25, 26]) _ _
            simp only [opsAt, List.filterMap_cons, List.filterMap_nil, List.getElem?_toArray, List.getElem?_cons_succ, List.getElem?_cons_zero]
            have HZ := (H25.out.1.rot).store
            have t0 := blk_cell H25.out.1.tb 0 rfl
            have t1 := blk_cell H25.out.1.tb 1 rfl
            have t2 := blk_cell H25.out.1.tb 2 rfl
            have f0 := blk_free (j := 0) H25.out.1.tb
            have f1 := blk_free (j := 1) H25.out.1.tb
            have f2 := blk_free (j := 2) H25.out.1.tb
            go_wp2_with (fail)
            go_roundw
            case rel => exact ⟨j + 1, _, _, _, _, _, _, by go_num, by omega, HZ, HE2⟩
            case measure => simp [intOf]; omega
          refine AllReadyH.cons (o := _) rfl (fun K hK => ?_) AllReadyH.nil
          go_simp
          have H26 : Hid (TR Wq Wq.heap.size vN vM vL (W1.alloc (.cells #[.int .i64 d.loss.lo] 3)) vN vM vL N M L ∧ (W1.alloc (.cells #[.int .i64 d.loss.lo] 3)).heap[wr.heap.size]? = some (.cells #[.int .i64 d.need.lo, .int .i64 d.need.hi, .int .i64 d.make.lo, .int .i64 d.make.hi, .int .i64 d.loss.lo, .int .i64 d.loss.hi] 97 (0, 0))) := ⟨H1.out.1.below ((Below.refl _ _).alloc (Nat.le_refl _) _), alk H1.out.2⟩
          have P260 := Lib.hid (P10.out.below ((Below.refl W1.heap.size W1).alloc (Nat.le_refl _) (.cells #[.int .i64 d.loss.lo] 3)))
          have P262 := Lib.hid (PD.new H1.out.1 d.loss.lo)
          refine hK.out _ _ ⟨⟨blk_cell H26.out.1.tb 0 rfl, blk_cell H26.out.1.tb 1 rfl, blk_cell H26.out.1.tb 2 rfl⟩, H26.out.2⟩ (fun _ => ?_)
          clear hK
          generalize W1.alloc (.cells #[.int .i64 d.loss.lo] 3) = W26 at H26 P260 P262 ⊢
          simp only [List.setIfInBounds_toArray, List.set_cons_zero, List.set_cons_succ]
          refine wpAnyH_ready (rs := [6, 12]) (by kernel_rfl) (by simp) ?_
          refine AllReadyH.cons (o := _) rfl (fun K hK => ?_) ?_
          · refine step_append_lies _ rfl (.tmp 59) (.tmp 63) 27 rfl (Wq.heap.size + 1) 3 i0 (.int .i64 0) 1 8 Try.underlying27 hi hz0 hz1 hz2 rfl (by decide) vN N.length (N.map (Value.int .i64)) rfl H26.out.1.r.n ⟨W0.heap.size, 0, none⟩ 1 1 [.int .i64 d.need.lo] rfl rfl P260.out.cells (by intro u hu; simp at hu; subst hu; rfl) (by decide) (by unfold maxLen; omega) (by omega) (by have := lt_of_block H26.out.1.tb; omega) _ rfl ?_
            intro g27 c27 W27 hown hgrow hat _
            have H27 : Hid (TR Wq Wq.heap.size vN vM vL W27 (.slice (some ⟨g27, 0, none⟩) (N.length + 1) c27) vM vL (N ++ [d.need.lo]) M L ∧ W27.heap[wr.heap.size]? = some (.cells #[.int .i64 d.need.lo, .int .i64 d.need.hi, .int .i64 d.make.lo, .int .i64 d.make.hi, .int .i64 d.loss.lo, .int .i64 d.loss.hi] 97 (0, 0))) := ⟨(H26.out.1).push hown hgrow hat, (H26.out.1).keep H26.out.2 hgrow⟩
            have P272 := Lib.hid (PD.push (n := N.length + 1) (c := c27) (P262.out) hgrow hat)
            clear hown hgrow hat
            refine hK.out _ _ ⟨⟨blk_cell H27.out.1.tb 0 rfl, blk_cell H27.out.1.tb 1 rfl, blk_cell H27.out.1.tb 2 rfl⟩, H27.out.2⟩ (fun _ => ?_)
            clear hK
            simp only [Act.put, List.setIfInBounds_toArray, List.set_cons_zero, List.set_cons_succ]
            refine wpAnyH_take (i := 21) (v := .pointer (some ⟨Wq.heap.size, 0, none⟩)) rfl (by kernel_rfl) (by kernel_rfl) (by kernel_rfl) (fun _ _ _ h => h) (Or.inl ⟨by rfl, by (intro W hSw; clear hSw; go_simp)⟩) ⟨⟨blk_cell H27.out.1.tb 0 rfl, blk_cell H27.out.1.tb 1 rfl, blk_cell H27.out.1.tb 2 rfl⟩, H27.out.2⟩ ?_
            simp only [Act.put, List.setIfInBounds_toArray, List.set_cons_zero, List.set_cons_succ]
            refine wpAnyH_ready (rs := [12]) (by kernel_rfl) (by simp) ?_
            refine AllReadyH.cons (o := _) rfl (fun K hK => ?_) AllReadyH.nil
            go_simp
            have H28 : Hid (TR Wq Wq.heap.size vN vM vL (W27.alloc (.cells #[.int .i64 d.make.hi] 3)) (.slice (some ⟨g27, 0, none⟩) (N.length + 1) c27) vM vL (N ++ [d.need.lo]) M L ∧ (W27.alloc (.cells #[.int .i64 d.make.hi] 3)).heap[wr.heap.size]? = some (.cells #[.int .i64 d.need.lo, .int .i64 d.need.hi, .int .i64 d.make.lo, .int .i64 d.make.hi, .int .i64 d.loss.lo, .int .i64 d.loss.hi] 97 (0, 0))) := ⟨H27.out.1.below ((Below.refl _ _).alloc (Nat.le_refl _) _), alk H27.out.2⟩
            have P282 := Lib.hid (P272.out.below ((Below.refl W27.heap.size W27).alloc (Nat.le_refl _) (.cells #[.int .i64 d.make.hi] 3)))
            have P281 := Lib.hid (PD.new H27.out.1 d.make.hi)
            refine hK.out _ _ ⟨⟨blk_cell H28.out.1.tb 0 rfl, blk_cell H28.out.1.tb 1 rfl, blk_cell H28.out.1.tb 2 rfl⟩, H28.out.2⟩ (fun _ => ?_)
            clear hK
            generalize W27.alloc (.cells #[.int .i64 d.make.hi] 3) = W28 at H28 P282 P281 ⊢
            simp only [List.setIfInBounds_toArray, List.set_cons_zero, List.set_cons_succ]
            refine wpAnyH_ready (rs := [13]) (by kernel_rfl) (by simp) ?_
            refine AllReadyH.cons (o := _) rfl (fun K hK => ?_) AllReadyH.nil
            refine step_append_lies _ rfl (.tmp 66) (.tmp 70) 27 rfl (Wq.heap.size + 1) 3 i0 (.int .i64 0) 1 8 Try.underlying27 hi hz0 hz1 hz2 rfl (by decide) vM M.length (M.map (Value.int .i64)) rfl H28.out.1.rot.r.n ⟨W27.heap.size, 0, none⟩ 1 1 [.int .i64 d.make.hi] rfl rfl P281.out.cells (by intro u hu; simp at hu; subst hu; rfl) (by decide) (by unfold maxLen; omega) (by omega) (by have := lt_of_block H28.out.1.tb; omega) _ rfl ?_
            intro g29 c29 W29 hown hgrow hat _
            have H29 : Hid (TR Wq Wq.heap.size vN vM vL W29 (.slice (some ⟨g29, 0, none⟩) (M.length + 1) c29) vL (.slice (some ⟨g27, 0, none⟩) (N.length + 1) c27) (M ++ [d.make.hi]) L (N ++ [d.need.lo]) ∧ W29.heap[wr.heap.size]? = some (.cells #[.int .i64 d.need.lo, .int .i64 d.need.hi, .int .i64 d.make.lo, .int .i64 d.make.hi, .int .i64 d.loss.lo, .int .i64 d.loss.hi] 97 (0, 0))) := ⟨(H28.out.1.rot).push hown hgrow hat, (H28.out.1.rot).keep H28.out.2 hgrow⟩
            have P292 := Lib.hid (PD.push (n := M.length + 1) (c := c29) (P282.out.rot) hgrow hat)
            clear hown hgrow hat
            refine hK.out _ _ ⟨⟨blk_cell H29.out.1.tb 0 rfl, blk_cell H29.out.1.tb 1 rfl, blk_cell H29.out.1.tb 2 rfl⟩, H29.out.2⟩ (fun _ => ?_)
            clear hK
            simp only [Act.put, List.setIfInBounds_toArray, List.set_cons_zero, List.set_cons_succ]
            refine wpAnyH_ready (rs := [20]) (by kernel_rfl) (by simp) ?_
            refine AllReadyH.cons (o := _) rfl (fun K hK => ?_) AllReadyH.nil
            refine step_append_lies _ rfl (.tmp 73) (.tmp 77) 27 rfl (Wq.heap.size + 1) 3 i0 (.int .i64 0) 1 8 Try.underlying27 hi hz0 hz1 hz2 rfl (by decide) vL L.length (L.map (Value.int .i64)) rfl H29.out.1.rot.r.n ⟨W1.heap.size, 0, none⟩ 1 1 [.int .i64 d.loss.lo] rfl rfl P292.out.cells (by intro u hu; simp at hu; subst hu; rfl) (by decide) (by unfold maxLen; omega) (by omega) (by have := lt_of_block H29.out.1.tb; omega) _ rfl ?_
            intro g30 c30 W30 hown hgrow hat _
            have H30 : Hid (TR Wq Wq.heap.size vN vM vL W30 (.slice (some ⟨g30, 0, none⟩) (L.length + 1) c30) (.slice (some ⟨g27, 0, none⟩) (N.length + 1) c27) (.slice (some ⟨g29, 0, none⟩) (M.length + 1) c29) (L ++ [d.loss.lo]) (N ++ [d.need.lo]) (M ++ [d.make.hi]) ∧ W30.heap[wr.heap.size]? = some (.cells #[.int .i64 d.need.lo, .int .i64 d.need.hi, .int .i64 d.make.lo, .int .i64 d.make.hi, .int .i64 d.loss.lo, .int .i64 d.loss.hi] 97 (0, 0))) := ⟨(H29.out.1.rot).push hown hgrow hat, (H29.out.1.rot).keep H29.out.2 hgrow⟩
            clear hown hgrow hat
            refine hK.out _ _ ⟨⟨blk_cell H30.out.1.tb 0 rfl, blk_cell H30.out.1.tb 1 rfl, blk_cell H30.out.1.tb 2 rfl⟩, H30.out.2⟩ (fun _ => ?_)
            clear hK
            simp only [Act.put, List.setIfInBounds_toArray, List.set_cons_zero, List.set_cons_succ]
            refine wpAnyH_done (by kernel_rfl) ?_ _
            show wpList _ _ _ (opsAt _ [22, 23, 24, 25, 26]) _ _
            simp only [opsAt, List.filterMap_cons, List.filterMap_nil, List.getElem?_toArray, List.getElem?_cons_succ, List.getElem?_cons_zero]
            have HZ := (H30.out.1.rot).store
            have t0 := blk_cell H30.out.1.tb 0 rfl
            have t1 := blk_cell H30.out.1.tb 1 rfl
            have t2 := blk_cell H30.out.1.tb 2 rfl
            have f0 := blk_free (j := 0) H30.out.1.tb
            have f1 := blk_free (j := 1) H30.out.1.tb
            have f2 := blk_free (j := 2) H30.out.1.tb
            go_wp2_with (fail)
            go_roundw
            case rel => exact ⟨j + 1, _, _, _, _, _, _, by go_num, by omega, HZ, HE2⟩
            case measure => simp [intOf]; omega
          refine AllReadyH.cons (o := _) rfl (fun K hK => ?_) AllReadyH.nil
          go_simp
          have H31 : Hid (TR Wq Wq.heap.size vN vM vL (W26.alloc (.cells #[.int .i64 d.make.hi] 3)) vN vM vL N M L ∧ (W26.alloc (.cells #[.int .i64 d.make.hi] 3)).heap[wr.heap.size]? = some (.cells #[.int .i64 d.need.lo, .int .i64 d.need.hi, .int .i64 d.make.lo, .int .i64 d.make.hi, .int .i64 d.loss.lo, .int .i64 d.loss.hi] 97 (0, 0))) := ⟨H26.out.1.below ((Below.refl _ _).alloc (Nat.le_refl _) _), alk H26.out.2⟩
          have P310 := Lib.hid (P260.out.below ((Below.refl W26.heap.size W26).alloc (Nat.le_refl _) (.cells #[.int .i64 d.make.hi] 3)))
          have P312 := Lib.hid (P262.out.below ((Below.refl W26.heap.size W26).alloc (Nat.le_refl _) (.cells #[.int .i64 d.make.hi] 3)))
          have P311 := Lib.hid (PD.new H26.out.1 d.make.hi)
          refine hK.out _ _ ⟨⟨blk_cell H31.out.1.tb 0 rfl, blk_cell H31.out.1.tb 1 rfl, blk_cell H31.out.1.tb 2 rfl⟩, H31.out.2⟩ (fun _ => ?_)
          clear hK
          generalize W26.alloc (.cells #[.int .i64 d.make.hi] 3) = W31 at H31 P310 P312 P311 ⊢
          simp only [List.setIfInBounds_toArray, List.set_cons_zero, List.set_cons_succ]
          refine wpAnyH_ready (rs := [6]) (by kernel_rfl) (by simp) ?_
          refine AllReadyH.cons (o := _) rfl (fun K hK => ?_) AllReadyH.nil
          refine step_append_lies _ rfl (.tmp 59) (.tmp 63) 27 rfl (Wq.heap.size + 1) 3 i0 (.int .i64 0) 1 8 Try.underlying27 hi hz0 hz1 hz2 rfl (by decide) vN N.length (N.map (Value.int .i64)) rfl H31.out.1.r.n ⟨W0.heap.size, 0, none⟩ 1 1 [.int .i64 d.need.lo] rfl rfl P310.out.cells (by intro u hu; simp at hu; subst hu; rfl) (by decide) (by unfold maxLen; omega) (by omega) (by have := lt_of_block H31.out.1.tb; omega) _ rfl ?_
          intro g32 c32 W32 hown hgrow hat _
          have H32 : Hid (TR Wq Wq.heap.size vN vM vL W32 (.slice (some ⟨g32, 0, none⟩) (N.length + 1) c32) vM vL (N ++ [d.need.lo]) M L ∧ W32.heap[wr.heap.size]? = some (.cells #[.int .i64 d.need.lo, .int .i64 d.need.hi, .int .i64 d.make.lo, .int .i64 d.make.hi, .int .i64 d.loss.lo, .int .i64 d.loss.hi] 97 (0, 0))) := ⟨(H31.out.1).push hown hgrow hat, (H31.out.1).keep H31.out.2 hgrow⟩
          have P322 := Lib.hid (PD.push (n := N.length + 1) (c := c32) (P312.out) hgrow hat)
          have P321 := Lib.hid (PD.push (n := N.length + 1) (c := c32) (P311.out) hgrow hat)
          clear hown hgrow hat
          refine hK.out _ _ ⟨⟨blk_cell H32.out.1.tb 0 rfl, blk_cell H32.out.1.tb 1 rfl, blk_cell H32.out.1.tb 2 rfl⟩, H32.out.2⟩ (fun _ => ?_)
          clear hK
          simp only [Act.put, List.setIfInBounds_toArray, List.set_cons_zero, List.set_cons_succ]
          refine wpAnyH_take (i := 21) (v := .pointer (some ⟨Wq.heap.size, 0, none⟩)) rfl (by kernel_rfl) (by kernel_rfl) (by kernel_rfl) (fun _ _ _ h => h) (Or.inl ⟨by rfl, by (intro W hSw; clear hSw; go_simp)⟩) ⟨⟨blk_cell H32.out.1.tb 0 rfl, blk_cell H32.out.1.tb 1 rfl, blk_cell H32.out.1.tb 2 rfl⟩, H32.out.2⟩ ?_
          simp only [Act.put, List.setIfInBounds_toArray, List.set_cons_zero, List.set_cons_succ]
          refine wpAnyH_ready (rs := [13]) (by kernel_rfl) (by simp) ?_
          refine AllReadyH.cons (o := _) rfl (fun K hK => ?_) AllReadyH.nil
          refine step_append_lies _ rfl (.tmp 66) (.tmp 70) 27 rfl (Wq.heap.size + 1) 3 i0 (.int .i64 0) 1 8 Try.underlying27 hi hz0 hz1 hz2 rfl (by decide) vM M.length (M.map (Value.int .i64)) rfl H32.out.1.rot.r.n ⟨W26.heap.size, 0, none⟩ 1 1 [.int .i64 d.make.hi] rfl rfl P321.out.cells (by intro u hu; simp at hu; subst hu; rfl) (by decide) (by unfold maxLen; omega) (by omega) (by have := lt_of_block H32.out.1.tb; omega) _ rfl ?_
          intro g33 c33 W33 hown hgrow hat _
          have H33 : Hid (TR Wq Wq.heap.size vN vM vL W33 (.slice (some ⟨g33, 0, none⟩) (M.length + 1) c33) vL (.slice (some ⟨g32, 0, none⟩) (N.length + 1) c32) (M ++ [d.make.hi]) L (N ++ [d.need.lo]) ∧ W33.heap[wr.heap.size]? = some (.cells #[.int .i64 d.need.lo, .int .i64 d.need.hi, .int .i64 d.make.lo, .int .i64 d.make.hi, .int .i64 d.loss.lo, .int .i64 d.loss.hi] 97 (0, 0))) := ⟨(H32.out.1.rot).push hown hgrow hat, (H32.out.1.rot).keep H32.out.2 hgrow⟩
          have P332 := Lib.hid (PD.push (n := M.length + 1) (c := c33) (P322.out.rot) hgrow hat)
          clear hown hgrow hat
          refine hK.out _ _ ⟨⟨blk_cell H33.out.1.tb 0 rfl, blk_cell H33.out.1.tb 1 rfl, blk_cell H33.out.1.tb 2 rfl⟩, H33.out.2⟩ (fun _ => ?_)
          clear hK
          simp only [Act.put, List.setIfInBounds_toArray, List.set_cons_zero, List.set_cons_succ]
          refine wpAnyH_ready (rs := [20]) (by kernel_rfl) (by simp) ?_
          refine AllReadyH.cons (o := _) rfl (fun K hK => ?_) AllReadyH.nil
          refine step_append_lies _ rfl (.tmp 73) (.tmp 77) 27 rfl (Wq.heap.size + 1) 3 i0 (.int .i64 0) 1 8 Try.underlying27 hi hz0 hz1 hz2 rfl (by decide) vL L.length (L.map (Value.int .i64)) rfl H33.out.1.rot.r.n ⟨W1.heap.size, 0, none⟩ 1 1 [.int .i64 d.loss.lo] rfl rfl P332.out.cells (by intro u hu; simp at hu; subst hu; rfl) (by decide) (by unfold maxLen; omega) (by omega) (by have := lt_of_block H33.out.1.tb; omega) _ rfl ?_
          intro g34 c34 W34 hown hgrow hat _
          have H34 : Hid (TR Wq Wq.heap.size vN vM vL W34 (.slice (some ⟨g34, 0, none⟩) (L.length + 1) c34) (.slice (some ⟨g32, 0, none⟩) (N.length + 1) c32) (.slice (some ⟨g33, 0, none⟩) (M.length + 1) c33) (L ++ [d.loss.lo]) (N ++ [d.need.lo]) (M ++ [d.make.hi]) ∧ W34.heap[wr.heap.size]? = some (.cells #[.int .i64 d.need.lo, .int .i64 d.need.hi, .int .i64 d.make.lo, .int .i64 d.make.hi, .int .i64 d.loss.lo, .int .i64 d.loss.hi] 97 (0, 0))) := ⟨(H33.out.1.rot).push hown hgrow hat, (H33.out.1.rot).keep H33.out.2 hgrow⟩
          clear hown hgrow hat
          refine hK.out _ _ ⟨⟨blk_cell H34.out.1.tb 0 rfl, blk_cell H34.out.1.tb 1 rfl, blk_cell H34.out.1.tb 2 rfl⟩, H34.out.2⟩ (fun _ => ?_)
          clear hK
          simp only [Act.put, List.setIfInBounds_toArray, List.set_cons_zero, List.set_cons_succ]
          refine wpAnyH_done (by kernel_rfl) ?_ _
          show wpList _ _ _ (opsAt _ [22, 23, 24, 25, 26]) _ _
          simp only [opsAt, List.filterMap_cons, List.filterMap_nil, List.getElem?_toArray, List.getElem?_cons_succ, List.getElem?_cons_zero]
          have HZ := (H34.out.1.rot).store
          have t0 := blk_cell H34.out.1.tb 0 rfl
          have t1 := blk_cell H34.out.1.tb 1 rfl
          have t2 := blk_cell H34.out.1.tb 2 rfl
          have f0 := blk_free (j := 0) H34.out.1.tb
          have f1 := blk_free (j := 1) H34.out.1.tb
          have f2 := blk_free (j := 2) H34.out.1.tb
          go_wp2_with (fail)
          go_roundw
          case rel => exact ⟨j + 1, _, _, _, _, _, _, by go_num, by omega, HZ, HE2⟩
          case measure => simp [intOf]; omega
        refine AllReadyH.cons (o := _) rfl (fun K hK => ?_) ?_
        · go_simp
          have H35 : Hid (TR Wq Wq.heap.size vN vM vL (W0.alloc (.cells #[.int .i64 d.make.hi] 3)) vN vM vL N M L ∧ (W0.alloc (.cells #[.int .i64 d.make.hi] 3)).heap[wr.heap.size]? = some (.cells #[.int .i64 d.need.lo, .int .i64 d.need.hi, .int .i64 d.make.lo, .int .i64 d.make.hi, .int .i64 d.loss.lo, .int .i64 d.loss.hi] 97 (0, 0))) := ⟨H0.out.1.below ((Below.refl _ _).alloc (Nat.le_refl _) _), alk H0.out.2⟩
          have P351 := Lib.hid (PD.new H0.out.1 d.make.hi)
          refine hK.out _ _ ⟨⟨blk_cell H35.out.1.tb 0 rfl, blk_cell H35.out.1.tb 1 rfl, blk_cell H35.out.1.tb 2 rfl⟩, H35.out.2⟩ (fun _ => ?_)
          clear hK
          generalize W0.alloc (.cells #[.int .i64 d.make.hi] 3) = W35 at H35 P351 ⊢
          simp only [List.setIfInBounds_toArray, List.set_cons_zero, List.set_cons_succ]
          refine wpAnyH_ready (rs := [5, 19]) (by kernel_rfl) (by simp) ?_
          refine AllReadyH.cons (o := _) rfl (fun K hK => ?_) ?_
          · go_simp
            have H36 : Hid (TR Wq Wq.heap.size vN vM vL (W35.alloc (.cells #[.int .i64 d.need.lo] 3)) vN vM vL N M L ∧ (W35.alloc (.cells #[.int .i64 d.need.lo] 3)).heap[wr.heap.size]? = some (.cells #[.int .i64 d.need.lo, .int .i64 d.need.hi, .int .i64 d.make.lo, .int .i64 d.make.hi, .int .i64 d.loss.lo, .int .i64 d.loss.hi] 97 (0, 0))) := ⟨H35.out.1.below ((Below.refl _ _).alloc (Nat.le_refl _) _), alk H35.out.2⟩
            have P361 := Lib.hid (P351.out.below ((Below.refl W35.heap.size W35).alloc (Nat.le_refl _) (.cells #[.int .i64 d.need.lo] 3)))
            have P360 := Lib.hid (PD.new H35.out.1 d.need.lo)
            refine hK.out _ _ ⟨⟨blk_cell H36.out.1.tb 0 rfl, blk_cell H36.out.1.tb 1 rfl, blk_cell H36.out.1.tb 2 rfl⟩, H36.out.2⟩ (fun _ => ?_)
            clear hK
            generalize W35.alloc (.cells #[.int .i64 d.need.lo] 3) = W36 at H36 P361 P360 ⊢
            simp only [List.setIfInBounds_toArray, List.set_cons_zero, List.set_cons_succ]
            refine wpAnyH_ready (rs := [6, 19]) (by kernel_rfl) (by simp) ?_
            refine AllReadyH.cons (o := _) rfl (fun K hK => ?_) ?_
            · refine step_append_lies _ rfl (.tmp 59) (.tmp 63) 27 rfl (Wq.heap.size + 1) 3 i0 (.int .i64 0) 1 8 Try.underlying27 hi hz0 hz1 hz2 rfl (by decide) vN N.length (N.map (Value.int .i64)) rfl H36.out.1.r.n ⟨W35.heap.size, 0, none⟩ 1 1 [.int .i64 d.need.lo] rfl rfl P360.out.cells (by intro u hu; simp at hu; subst hu; rfl) (by decide) (by unfold maxLen; omega) (by omega) (by have := lt_of_block H36.out.1.tb; omega) _ rfl ?_
              intro g37 c37 W37 hown hgrow hat _
              have H37 : Hid (TR Wq Wq.heap.size vN vM vL W37 (.slice (some ⟨g37, 0, none⟩) (N.length + 1) c37) vM vL (N ++ [d.need.lo]) M L ∧ W37.heap[wr.heap.size]? = some (.cells #[.int .i64 d.need.lo, .int .i64 d.need.hi, .int .i64 d.make.lo, .int .i64 d.make.hi, .int .i64 d.loss.lo, .int .i64 d.loss.hi] 97 (0, 0))) := ⟨(H36.out.1).push hown hgrow hat, (H36.out.1).keep H36.out.2 hgrow⟩
              have P371 := Lib.hid (PD.push (n := N.length + 1) (c := c37) (P361.out) hgrow hat)
              clear hown hgrow hat
              refine hK.out _ _ ⟨⟨blk_cell H37.out.1.tb 0 rfl, blk_cell H37.out.1.tb 1 rfl, blk_cell H37.out.1.tb 2 rfl⟩, H37.out.2⟩ (fun _ => ?_)
              clear hK
              simp only [Act.put, List.setIfInBounds_toArray, List.set_cons_zero, List.set_cons_succ]
              refine wpAnyH_take (i := 21) (v := .pointer (some ⟨Wq.heap.size, 0, none⟩)) rfl (by kernel_rfl) (by kernel_rfl) (by kernel_rfl) (fun _ _ _ h => h) (Or.inl ⟨by rfl, by (intro W hSw; clear hSw; go_simp)⟩) ⟨⟨blk_cell H37.out.1.tb 0 rfl, blk_cell H37.out.1.tb 1 rfl, blk_cell H37.out.1.tb 2 rfl⟩, H37.out.2⟩ ?_
              simp only [Act.put, List.setIfInBounds_toArray, List.set_cons_zero, List.set_cons_succ]
              refine wpAnyH_ready (rs := [13, 19]) (by kernel_rfl) (by simp) ?_
              refine AllReadyH.cons (o := _) rfl (fun K hK => ?_) ?_
              · refine step_append_lies _ rfl (.tmp 66) (.tmp 70) 27 rfl (Wq.heap.size + 1) 3 i0 (.int .i64 0) 1 8 Try.underlying27 hi hz0 hz1 hz2 rfl (by decide) vM M.length (M.map (Value.int .i64)) rfl H37.out.1.rot.r.n ⟨W0.heap.size, 0, none⟩ 1 1 [.int .i64 d.make.hi] rfl rfl P371.out.cells (by intro u hu; simp at hu; subst hu; rfl) (by decide) (by unfold maxLen; omega) (by omega) (by have := lt_of_block H37.out.1.tb; omega) _ rfl ?_
                intro g38 c38 W38 hown hgrow hat _
                have H38 : Hid (TR Wq Wq.heap.size vN vM vL W38 (.slice (some ⟨g38, 0, none⟩) (M.length + 1) c38) vL (.slice (some ⟨g37, 0, none⟩) (N.length + 1) c37) (M ++ [d.make.hi]) L (N ++ [d.need.lo]) ∧ W38.heap[wr.heap.size]? = some (.cells #[.int .i64 d.need.lo, .int .i64 d.need.hi, .int .i64 d.make.lo, .int .i64 d.make.hi, .int .i64 d.loss.lo, .int .i64 d.loss.hi] 97 (0, 0))) := ⟨(H37.out.1.rot).push hown hgrow hat, (H37.out.1.rot).keep H37.out.2 hgrow⟩
                clear hown hgrow hat
                refine hK.out _ _ ⟨⟨blk_cell H38.out.1.tb 0 rfl, blk_cell H38.out.1.tb 1 rfl, blk_cell H38.out.1.tb 2 rfl⟩, H38.out.2⟩ (fun _ => ?_)
                clear hK
                simp only [Act.put, List.setIfInBounds_toArray, List.set_cons_zero, List.set_cons_succ]
                refine wpAnyH_ready (rs := [19]) (by kernel_rfl) (by simp) ?_
                refine AllReadyH.cons (o := _) rfl (fun K hK => ?_) AllReadyH.nil
                go_simp
                have H39 : Hid (TR Wq Wq.heap.size vN vM vL (W38.alloc (.cells #[.int .i64 d.loss.lo] 3)) (.slice (some ⟨g38, 0, none⟩) (M.length + 1) c38) vL (.slice (some ⟨g37, 0, none⟩) (N.length + 1) c37) (M ++ [d.make.hi]) L (N ++ [d.need.lo]) ∧ (W38.alloc (.cells #[.int .i64 d.loss.lo] 3)).heap[wr.heap.size]? = some (.cells #[.int .i64 d.need.lo, .int .i64 d.need.hi, .int .i64 d.make.lo, .int .i64 d.make.hi, .int .i64 d.loss.lo, .int .i64 d.loss.hi] 97 (0, 0))) := ⟨H38.out.1.below ((Below.refl _ _).alloc (Nat.le_refl _) _), alk H38.out.2⟩
                have P392 := Lib.hid (PD.new H38.out.1 d.loss.lo)
                refine hK.out _ _ ⟨⟨blk_cell H39.out.1.tb 0 rfl, blk_cell H39.out.1.tb 1 rfl, blk_cell H39.out.1.tb 2 rfl⟩, H39.out.2⟩ (fun _ => ?_)
                clear hK
                generalize W38.alloc (.cells #[.int .i64 d.loss.lo] 3) = W39 at H39 P392 ⊢
                simp only [List.setIfInBounds_toArray, List.set_cons_zero, List.set_cons_succ]
                refine wpAnyH_ready (rs := [20]) (by kernel_rfl) (by simp) ?_
                refine AllReadyH.cons (o := _) rfl (fun K hK => ?_) AllReadyH.nil
                refine step_append_lies _ rfl (.tmp 73) (.tmp 77) 27 rfl (Wq.heap.size + 1) 3 i0 (.int .i64 0) 1 8 Try.underlying27 hi hz0 hz1 hz2 rfl (by decide) vL L.length (L.map (Value.int .i64)) rfl H39.out.1.rot.r.n ⟨W38.heap.size, 0, none⟩ 1 1 [.int .i64 d.loss.lo] rfl rfl P392.out.cells (by intro u hu; simp at hu; subst hu; rfl) (by decide) (by unfold maxLen; omega) (by omega) (by have := lt_of_block H39.out.1.tb; omega) _ rfl ?_
                intro g40 c40 W40 hown hgrow hat _
                have H40 : Hid (TR Wq Wq.heap.size vN vM vL W40 (.slice (some ⟨g40, 0, none⟩) (L.length + 1) c40) (.slice (some ⟨g37, 0, none⟩) (N.length + 1) c37) (.slice (some ⟨g38, 0, none⟩) (M.length + 1) c38) (L ++ [d.loss.lo]) (N ++ [d.need.lo]) (M ++ [d.make.hi]) ∧ W40.heap[wr.heap.size]? = some (.cells #[.int .i64 d.need.lo, .int .i64 d.need.hi, .int .i64 d.make.lo, .int .i64 d.make.hi, .int .i64 d.loss.lo, .int .i64 d.loss.hi] 97 (0, 0))) := ⟨(H39.out.1.rot).push hown hgrow hat, (H39.out.1.rot).keep H39.out.2 hgrow⟩
                clear hown hgrow hat
                refine hK.out _ _ ⟨⟨blk_cell H40.out.1.tb 0 rfl, blk_cell H40.out.1.tb 1 rfl, blk_cell H40.out.1.tb 2 rfl⟩, H40.out.2⟩ (fun _ => ?_)
                clear hK
                simp only [Act.put, List.setIfInBounds_toArray, List.set_cons_zero, List.set_cons_succ]
                refine wpAnyH_done (by kernel_rfl) ?_ _
                show wpList _ _ _ (opsAt _ [22, 23, 24, 25, 26]) _ _
                simp only [opsAt, List.filterMap_cons, List.filterMap_nil, List.getElem?_toArray, List.getElem?_cons_succ, List.getElem?_cons_zero]
                have HZ := (H40.out.1.rot).store
                have t0 := blk_cell H40.out.1.tb 0 rfl
                have t1 := blk_cell H40.out.1.tb 1 rfl
                have t2 := blk_cell H40.out.1.tb 2 rfl
                have f0 := blk_free (j := 0) H40.out.1.tb
                have f1 := blk_free (j := 1) H40.out.1.tb
                have f2 := blk_free (j := 2) H40.out.1.tb
                go_wp2_with (fail)
                go_roundw
                case rel => exact ⟨j + 1, _, _, _, _, _, _, by go_num, by omega, HZ, HE2⟩
                case measure => simp [intOf]; omega
              refine AllReadyH.cons (o := _) rfl (fun K hK => ?_) AllReadyH.nil
              go_simp
              have H41 : Hid (TR Wq Wq.heap.size vN vM vL (W37.alloc (.cells #[.int .i64 d.loss.lo] 3)) (.slice (some ⟨g37, 0, none⟩) (N.length + 1) c37) vM vL (N ++ [d.need.lo]) M L ∧ (W37.alloc (.cells #[.int .i64 d.loss.lo] 3)).heap[wr.heap.size]? = some (.cells #[.int .i64 d.need.lo, .int .i64 d.need.hi, .int .i64 d.make.lo, .int .i64 d.make.hi, .int .i64 d.loss.lo, .int .i64 d.loss.hi] 97 (0, 0))) := ⟨H37.out.1.below ((Below.refl _ _).alloc (Nat.le_refl _) _), alk H37.out.2⟩
              have P411 := Lib.hid (P371.out.below ((Below.refl W37.heap.size W37).alloc (Nat.le_refl _) (.cells #[.int .i64 d.loss.lo] 3)))
              have P412 := Lib.hid (PD.new H37.out.1 d.loss.lo)
              refine hK.out _ _ ⟨⟨blk_cell H41.out.1.tb 0 rfl, blk_cell H41.out.1.tb 1 rfl, blk_cell H41.out.1.tb 2 rfl⟩, H41.out.2⟩ (fun _ => ?_)
              clear hK
              generalize W37.alloc (.cells #[.int .i64 d.loss.lo] 3) = W41 at H41 P411 P412 ⊢
              simp only [List.setIfInBounds_toArray, List.set_cons_zero, List.set_cons_succ]
              refine wpAnyH_ready (rs := [13]) (by kernel_rfl) (by simp) ?_
              refine AllReadyH.cons (o := _) rfl (fun K hK => ?_) AllReadyH.nil
              refine step_append_lies _ rfl (.tmp 66) (.tmp 70) 27 rfl (Wq.heap.size + 1) 3 i0 (.int .i64 0) 1 8 Try.underlying27 hi hz0 hz1 hz2 rfl (by decide) vM M.length (M.map (Value.int .i64)) rfl H41.out.1.rot.r.n ⟨W0.heap.size, 0, none⟩ 1 1 [.int .i64 d.make.hi] rfl rfl P411.out.cells (by intro u hu; simp at hu; subst hu; rfl) (by decide) (by unfold maxLen; omega) (by omega) (by have := lt_of_block H41.out.1.tb; omega) _ rfl ?_
              intro g42 c42 W42 hown hgrow hat _
              have H42 : Hid (TR Wq Wq.heap.size vN vM vL W42 (.slice (some ⟨g42, 0, none⟩) (M.length + 1) c42) vL (.slice (some ⟨g37, 0, none⟩) (N.length + 1) c37) (M ++ [d.make.hi]) L (N ++ [d.need.lo]) ∧ W42.heap[wr.heap.size]? = some (.cells #[.int .i64 d.need.lo, .int .i64 d.need.hi, .int .i64 d.make.lo, .int .i64 d.make.hi, .int .i64 d.loss.lo, .int .i64 d.loss.hi] 97 (0, 0))) := ⟨(H41.out.1.rot).push hown hgrow hat, (H41.out.1.rot).keep H41.out.2 hgrow⟩
              have P422 := Lib.hid (PD.push (n := M.length + 1) (c := c42) (P412.out.rot) hgrow hat)
              clear hown hgrow hat
              refine hK.out _ _ ⟨⟨blk_cell H42.out.1.tb 0 rfl, blk_cell H42.out.1.tb 1 rfl, blk_cell H42.out.1.tb 2 rfl⟩, H42.out.2⟩ (fun _ => ?_)
              clear hK
              simp only [Act.put, List.setIfInBounds_toArray, List.set_cons_zero, List.set_cons_succ]
              refine wpAnyH_ready (rs := [20]) (by kernel_rfl) (by simp) ?_
              refine AllReadyH.cons (o := _) rfl (fun K hK => ?_) AllReadyH.nil
              refine step_append_lies _ rfl (.tmp 73) (.tmp 77) 27 rfl (Wq.heap.size + 1) 3 i0 (.int .i64 0) 1 8 Try.underlying27 hi hz0 hz1 hz2 rfl (by decide) vL L.length (L.map (Value.int .i64)) rfl H42.out.1.rot.r.n ⟨W37.heap.size, 0, none⟩ 1 1 [.int .i64 d.loss.lo] rfl rfl P422.out.cells (by intro u hu; simp at hu; subst hu; rfl) (by decide) (by unfold maxLen; omega) (by omega) (by have := lt_of_block H42.out.1.tb; omega) _ rfl ?_
              intro g43 c43 W43 hown hgrow hat _
              have H43 : Hid (TR Wq Wq.heap.size vN vM vL W43 (.slice (some ⟨g43, 0, none⟩) (L.length + 1) c43) (.slice (some ⟨g37, 0, none⟩) (N.length + 1) c37) (.slice (some ⟨g42, 0, none⟩) (M.length + 1) c42) (L ++ [d.loss.lo]) (N ++ [d.need.lo]) (M ++ [d.make.hi]) ∧ W43.heap[wr.heap.size]? = some (.cells #[.int .i64 d.need.lo, .int .i64 d.need.hi, .int .i64 d.make.lo, .int .i64 d.make.hi, .int .i64 d.loss.lo, .int .i64 d.loss.hi] 97 (0, 0))) := ⟨(H42.out.1.rot).push hown hgrow hat, (H42.out.1.rot).keep H42.out.2 hgrow⟩
              clear hown hgrow hat
              refine hK.out _ _ ⟨⟨blk_cell H43.out.1.tb 0 rfl, blk_cell H43.out.1.tb 1 rfl, blk_cell H43.out.1.tb 2 rfl⟩, H43.out.2⟩ (fun _ => ?_)
              clear hK
              simp only [Act.put, List.setIfInBounds_toArray, List.set_cons_zero, List.set_cons_succ]
              refine wpAnyH_done (by kernel_rfl) ?_ _
              show wpList _ _ _ (opsAt _ [22, 23, 24, 25, 26]) _ _
              simp only [opsAt, List.filterMap_cons, List.filterMap_nil, List.getElem?_toArray, List.getElem?_cons_succ, List.getElem?_cons_zero]
              have HZ := (H43.out.1.rot).store
              have t0 := blk_cell H43.out.1.tb 0 rfl
              have t1 := blk_cell H43.out.1.tb 1 rfl
              have t2 := blk_cell H43.out.1.tb 2 rfl
              have f0 := blk_free (j := 0) H43.out.1.tb
              have f1 := blk_free (j := 1) H43.out.1.tb
              have f2 := blk_free (j := 2) H43.out.1.tb
              go_wp2_with (fail)
              go_roundw
              case rel => exact ⟨j + 1, _, _, _, _, _, _, by go_num, by omega, HZ, HE2⟩
              case measure => simp [intOf]; omega
            refine AllReadyH.cons (o := _) rfl (fun K hK => ?_) AllReadyH.nil
            go_simp
            have H44 : Hid (TR Wq Wq.heap.size vN vM vL (W36.alloc (.cells #[.int .i64 d.loss.lo] 3)) vN vM vL N M L ∧ (W36.alloc (.cells #[.int .i64 d.loss.lo] 3)).heap[wr.heap.size]? = some (.cells #[.int .i64 d.need.lo, .int .i64 d.need.hi, .int .i64 d.make.lo, .int .i64 d.make.hi, .int .i64 d.loss.lo, .int .i64 d.loss.hi] 97 (0, 0))) := ⟨H36.out.1.below ((Below.refl _ _).alloc (Nat.le_refl _) _), alk H36.out.2⟩
            have P441 := Lib.hid (P361.out.below ((Below.refl W36.heap.size W36).alloc (Nat.le_refl _) (.cells #[.int .i64 d.loss.lo] 3)))
            have P440 := Lib.hid (P360.out.below ((Below.refl W36.heap.size W36).alloc (Nat.le_refl _) (.cells #[.int .i64 d.loss.lo] 3)))
            have P442 := Lib.hid (PD.new H36.out.1 d.loss.lo)
            refine hK.out _ _ ⟨⟨blk_cell H44.out.1.tb 0 rfl, blk_cell H44.out.1.tb 1 rfl, blk_cell H44.out.1.tb 2 rfl⟩, H44.out.2⟩ (fun _ => ?_)
            clear hK
            generalize W36.alloc (.cells #[.int .i64 d.loss.lo] 3) = W44 at H44 P441 P440 P442 ⊢
            simp only [List.setIfInBounds_toArray, List.set_cons_zero, List.set_cons_succ]
            refine wpAnyH_ready (rs := [6]) (by kernel_rfl) (by simp) ?_
            refine AllReadyH.cons (o := _) rfl (fun K hK => ?_) AllReadyH.nil
            refine step_append_lies _ rfl (.tmp 59) (.tmp 63) 27 rfl (Wq.heap.size + 1) 3 i0 (.int .i64 0) 1 8 Try.underlying27 hi hz0 hz1 hz2 rfl (by decide) vN N.length (N.map (Value.int .i64)) rfl H44.out.1.r.n ⟨W35.heap.size, 0, none⟩ 1 1 [.int .i64 d.need.lo] rfl rfl P440.out.cells (by intro u hu; simp at hu; subst hu; rfl) (by decide) (by unfold maxLen; omega) (by omega) (by have := lt_of_block H44.out.1.tb; omega) _ rfl ?_
            intro g45 c45 W45 hown hgrow hat _
            have H45 : Hid (TR Wq Wq.heap.size vN vM vL W45 (.slice (some ⟨g45, 0, none⟩) (N.length + 1) c45) vM vL (N ++ [d.need.lo]) M L ∧ W45.heap[wr.heap.size]? = some (.cells #[.int .i64 d.need.lo, .int .i64 d.need.hi, .int .i64 d.make.lo, .int .i64 d.make.hi, .int .i64 d.loss.lo, .int .i64 d.loss.hi] 97 (0, 0))) := ⟨(H44.out.1).push hown hgrow hat, (H44.out.1).keep H44.out.2 hgrow⟩
            have P451 := Lib.hid (PD.push (n := N.length + 1) (c := c45) (P441.out) hgrow hat)
            have P452 := Lib.hid (PD.push (n := N.length + 1) (c := c45) (P442.out) hgrow hat)
            clear hown hgrow hat
            refine hK.out _ _ ⟨⟨blk_cell H45.out.1.tb 0 rfl, blk_cell H45.out.1.tb 1 rfl, blk_cell H45.out.1.tb 2 rfl⟩, H45.out.2⟩ (fun _ => ?_)
            clear hK
            simp only [Act.put, List.setIfInBounds_toArray, List.set_cons_zero, List.set_cons_succ]
            refine wpAnyH_take (i := 21) (v := .pointer (some ⟨Wq.heap.size, 0, none⟩)) rfl (by kernel_rfl) (by kernel_rfl) (by kernel_rfl) (fun _ _ _ h => h) (Or.inl ⟨by rfl, by (intro W hSw; clear hSw; go_simp)⟩) ⟨⟨blk_cell H45.out.1.tb 0 rfl, blk_cell H45.out.1.tb 1 rfl, blk_cell H45.out.1.tb 2 rfl⟩, H45.out.2⟩ ?_
            simp only [Act.put, List.setIfInBounds_toArray, List.set_cons_zero, List.set_cons_succ]
            refine wpAnyH_ready (rs := [13]) (by kernel_rfl) (by simp) ?_
            refine AllReadyH.cons (o := _) rfl (fun K hK => ?_) AllReadyH.nil
            refine step_append_lies _ rfl (.tmp 66) (.tmp 70) 27 rfl (Wq.heap.size + 1) 3 i0 (.int .i64 0) 1 8 Try.underlying27 hi hz0 hz1 hz2 rfl (by decide) vM M.length (M.map (Value.int .i64)) rfl H45.out.1.rot.r.n ⟨W0.heap.size, 0, none⟩ 1 1 [.int .i64 d.make.hi] rfl rfl P451.out.cells (by intro u hu; simp at hu; subst hu; rfl) (by decide) (by unfold maxLen; omega) (by omega) (by have := lt_of_block H45.out.1.tb; omega) _ rfl ?_
            intro g46 c46 W46 hown hgrow hat _
            have H46 : Hid (TR Wq Wq.heap.size vN vM vL W46 (.slice (some ⟨g46, 0, none⟩) (M.length + 1) c46) vL (.slice (some ⟨g45, 0, none⟩) (N.length + 1) c45) (M ++ [d.make.hi]) L (N ++ [d.need.lo]) ∧ W46.heap[wr.heap.size]? = some (.cells #[.int .i64 d.need.lo, .int .i64 d.need.hi, .int .i64 d.make.lo, .int .i64 d.make.hi, .int .i64 d.loss.lo, .int .i64 d.loss.hi] 97 (0, 0))) := ⟨(H45.out.1.rot).push hown hgrow hat, (H45.out.1.rot).keep H45.out.2 hgrow⟩
            have P462 := Lib.hid (PD.push (n := M.length + 1) (c := c46) (P452.out.rot) hgrow hat)
            clear hown hgrow hat
            refine hK.out _ _ ⟨⟨blk_cell H46.out.1.tb 0 rfl, blk_cell H46.out.1.tb 1 rfl, blk_cell H46.out.1.tb 2 rfl⟩, H46.out.2⟩ (fun _ => ?_)
            clear hK
            simp only [Act.put, List.setIfInBounds_toArray, List.set_cons_zero, List.set_cons_succ]
            refine wpAnyH_ready (rs := [20]) (by kernel_rfl) (by simp) ?_
            refine AllReadyH.cons (o := _) rfl (fun K hK => ?_) AllReadyH.nil
            refine step_append_lies _ rfl (.tmp 73) (.tmp 77) 27 rfl (Wq.heap.size + 1) 3 i0 (.int .i64 0) 1 8 Try.underlying27 hi hz0 hz1 hz2 rfl (by decide) vL L.length (L.map (Value.int .i64)) rfl H46.out.1.rot.r.n ⟨W36.heap.size, 0, none⟩ 1 1 [.int .i64 d.loss.lo] rfl rfl P462.out.cells (by intro u hu; simp at hu; subst hu; rfl) (by decide) (by unfold maxLen; omega) (by omega) (by have := lt_of_block H46.out.1.tb; omega) _ rfl ?_
            intro g47 c47 W47 hown hgrow hat _
            have H47 : Hid (TR Wq Wq.heap.size vN vM vL W47 (.slice (some ⟨g47, 0, none⟩) (L.length + 1) c47) (.slice (some ⟨g45, 0, none⟩) (N.length + 1) c45) (.slice (some ⟨g46, 0, none⟩) (M.length + 1) c46) (L ++ [d.loss.lo]) (N ++ [d.need.lo]) (M ++ [d.make.hi]) ∧ W47.heap[wr.heap.size]? = some (.cells #[.int .i64 d.need.lo, .int .i64 d.need.hi, .int .i64 d.make.lo, .int .i64 d.make.hi, .int .i64 d.loss.lo, .int .i64 d.loss.hi] 97 (0, 0))) := ⟨(H46.out.1.rot).push hown hgrow hat, (H46.out.1.rot).keep H46.out.2 hgrow⟩
            clear hown hgrow hat
            refine hK.out _ _ ⟨⟨blk_cell H47.out.1.tb 0 rfl, blk_cell H47.out.1.tb 1 rfl, blk_cell H47.out.1.tb 2 rfl⟩, H47.out.2⟩ (fun _ => ?_)
            clear hK
            simp only [Act.put, List.setIfInBounds_toArray, List.set_cons_zero, List.set_cons_succ]
            refine wpAnyH_done (by kernel_rfl) ?_ _
            show wpList _ _ _ (opsAt _ [22, 23, 24, 25, 26]) _ _
            simp only [opsAt, List.filterMap_cons, List.filterMap_nil, List.getElem?_toArray, List.getElem?_cons_succ, List.getElem?_cons_zero]
            have HZ := (H47.out.1.rot).store
            have t0 := blk_cell H47.out.1.tb 0 rfl
            have t1 := blk_cell H47.out.1.tb 1 rfl
            have t2 := blk_cell H47.out.1.tb 2 rfl
            have f0 := blk_free (j := 0) H47.out.1.tb
            have f1 := blk_free (j := 1) H47.out.1.tb
            have f2 := blk_free (j := 2) H47.out.1.tb
            go_wp2_with (fail)
            go_roundw
            case rel => exact ⟨j + 1, _, _, _, _, _, _, by go_num, by omega, HZ, HE2⟩
            case measure => simp [intOf]; omega
          refine AllReadyH.cons (o := _) rfl (fun K hK => ?_) AllReadyH.nil
          go_simp
          have H48 : Hid (TR Wq Wq.heap.size vN vM vL (W35.alloc (.cells #[.int .i64 d.loss.lo] 3)) vN vM vL N M L ∧ (W35.alloc (.cells #[.int .i64 d.loss.lo] 3)).heap[wr.heap.size]? = some (.cells #[.int .i64 d.need.lo, .int .i64 d.need.hi, .int .i64 d.make.lo, .int .i64 d.make.hi, .int .i64 d.loss.lo, .int .i64 d.loss.hi] 97 (0, 0))) := ⟨H35.out.1.below ((Below.refl _ _).alloc (Nat.le_refl _) _), alk H35.out.2⟩
          have P481 := Lib.hid (P351.out.below ((Below.refl W35.heap.size W35).alloc (Nat.le_refl _) (.cells #[.int .i64 d.loss.lo] 3)))
          have P482 := Lib.hid (PD.new H35.out.1 d.loss.lo)
          refine hK.out _ _ ⟨⟨blk_cell H48.out.1.tb 0 rfl, blk_cell H48.out.1.tb 1 rfl, blk_cell H48.out.1.tb 2 rfl⟩, H48.out.2⟩ (fun _ => ?_)
          clear hK
          generalize W35.alloc (.cells #[.int .i64 d.loss.lo] 3) = W48 at H48 P481 P482 ⊢
          simp only [List.setIfInBounds_toArray, List.set_cons_zero, List.set_cons_succ]
          refine wpAnyH_ready (rs := [5]) (by kernel_rfl) (by simp) ?_
          refine AllReadyH.cons (o := _) rfl (fun K hK => ?_) AllReadyH.nil
          go_simp
          have H49 : Hid (TR Wq Wq.heap.size vN vM vL (W48.alloc (.cells #[.int .i64 d.need.lo] 3)) vN vM vL N M L ∧ (W48.alloc (.cells #[.int .i64 d.need.lo] 3)).heap[wr.heap.size]? = some (.cells #[.int .i64 d.need.lo, .int .i64 d.need.hi, .int .i64 d.make.lo, .int .i64 d.make.hi, .int .i64 d.loss.lo, .int .i64 d.loss.hi] 97 (0, 0))) := ⟨H48.out.1.below ((Below.refl _ _).alloc (Nat.le_refl _) _), alk H48.out.2⟩
          have P491 := Lib.hid (P481.out.below ((Below.refl W48.heap.size W48).alloc (Nat.le_refl _) (.cells #[.int .i64 d.need.lo] 3)))
          have P492 := Lib.hid (P482.out.below ((Below.refl W48.heap.size W48).alloc (Nat.le_refl _) (.cells #[.int .i64 d.need.lo] 3)))
          have P490 := Lib.hid (PD.new H48.out.1 d.need.lo)
          refine hK.out _ _ ⟨⟨blk_cell H49.out.1.tb 0 rfl, blk_cell H49.out.1.tb 1 rfl, blk_cell H49.out.1.tb 2 rfl⟩, H49.out.2⟩ (fun _ => ?_)
          clear hK
          generalize W48.alloc (.cells #[.int .i64 d.need.lo] 3) = W49 at H49 P491 P492 P490 ⊢
          simp only [List.setIfInBounds_toArray, List.set_cons_zero, List.set_cons_succ]
          refine wpAnyH_ready (rs := [6]) (by kernel_rfl) (by simp) ?_
          refine AllReadyH.cons (o := _) rfl (fun K hK => ?_) AllReadyH.nil
          refine step_append_lies _ rfl (.tmp 59) (.tmp 63) 27 rfl (Wq.heap.size + 1) 3 i0 (.int .i64 0) 1 8 Try.underlying27 hi hz0 hz1 hz2 rfl (by decide) vN N.length (N.map (Value.int .i64)) rfl H49.out.1.r.n ⟨W48.heap.size, 0, none⟩ 1 1 [.int .i64 d.need.lo] rfl rfl P490.out.cells (by intro u hu; simp at hu; subst hu; rfl) (by decide) (by unfold maxLen; omega) (by omega) (by have := lt_of_block H49.out.1.tb; omega) _ rfl ?_
          intro g50 c50 W50 hown hgrow hat _
          have H50 : Hid (TR Wq Wq.heap.size vN vM vL W50 (.slice (some ⟨g50, 0, none⟩) (N.length + 1) c50) vM vL (N ++ [d.need.lo]) M L ∧ W50.heap[wr.heap.size]? = some (.cells #[.int .i64 d.need.lo, .int .i64 d.need.hi, .int .i64 d.make.lo, .int .i64 d.make.hi, .int .i64 d.loss.lo, .int .i64 d.loss.hi] 97 (0, 0))) := ⟨(H49.out.1).push hown hgrow hat, (H49.out.1).keep H49.out.2 hgrow⟩
          have P501 := Lib.hid (PD.push (n := N.length + 1) (c := c50) (P491.out) hgrow hat)
          have P502 := Lib.hid (PD.push (n := N.length + 1) (c := c50) (P492.out) hgrow hat)
          clear hown hgrow hat
          refine hK.out _ _ ⟨⟨blk_cell H50.out.1.tb 0 rfl, blk_cell H50.out.1.tb 1 rfl, blk_cell H50.out.1.tb 2 rfl⟩, H50.out.2⟩ (fun _ => ?_)
          clear hK
          simp only [Act.put, List.setIfInBounds_toArray, List.set_cons_zero, List.set_cons_succ]
          refine wpAnyH_take (i := 21) (v := .pointer (some ⟨Wq.heap.size, 0, none⟩)) rfl (by kernel_rfl) (by kernel_rfl) (by kernel_rfl) (fun _ _ _ h => h) (Or.inl ⟨by rfl, by (intro W hSw; clear hSw; go_simp)⟩) ⟨⟨blk_cell H50.out.1.tb 0 rfl, blk_cell H50.out.1.tb 1 rfl, blk_cell H50.out.1.tb 2 rfl⟩, H50.out.2⟩ ?_
          simp only [Act.put, List.setIfInBounds_toArray, List.set_cons_zero, List.set_cons_succ]
          refine wpAnyH_ready (rs := [13]) (by kernel_rfl) (by simp) ?_
          refine AllReadyH.cons (o := _) rfl (fun K hK => ?_) AllReadyH.nil
          refine step_append_lies _ rfl (.tmp 66) (.tmp 70) 27 rfl (Wq.heap.size + 1) 3 i0 (.int .i64 0) 1 8 Try.underlying27 hi hz0 hz1 hz2 rfl (by decide) vM M.length (M.map (Value.int .i64)) rfl H50.out.1.rot.r.n ⟨W0.heap.size, 0, none⟩ 1 1 [.int .i64 d.make.hi] rfl rfl P501.out.cells (by intro u hu; simp at hu; subst hu; rfl) (by decide) (by unfold maxLen; omega) (by omega) (by have := lt_of_block H50.out.1.tb; omega) _ rfl ?_
          intro g51 c51 W51 hown hgrow hat _
          have H51 : Hid (TR Wq Wq.heap.size vN vM vL W51 (.slice (some ⟨g51, 0, none⟩) (M.length + 1) c51) vL (.slice (some ⟨g50, 0, none⟩) (N.length + 1) c50) (M ++ [d.make.hi]) L (N ++ [d.need.lo]) ∧ W51.heap[wr.heap.size]? = some (.cells #[.int .i64 d.need.lo, .int .i64 d.need.hi, .int .i64 d.make.lo, .int .i64 d.make.hi, .int .i64 d.loss.lo, .int .i64 d.loss.hi] 97 (0, 0))) := ⟨(H50.out.1.rot).push hown hgrow hat, (H50.out.1.rot).keep H50.out.2 hgrow⟩
          have P512 := Lib.hid (PD.push (n := M.length + 1) (c := c51) (P502.out.rot) hgrow hat)
          clear hown hgrow hat
          refine hK.out _ _ ⟨⟨blk_cell H51.out.1.tb 0 rfl, blk_cell H51.out.1.tb 1 rfl, blk_cell H51.out.1.tb 2 rfl⟩, H51.out.2⟩ (fun _ => ?_)
          clear hK
          simp only [Act.put, List.setIfInBounds_toArray, List.set_cons_zero, List.set_cons_succ]
          refine wpAnyH_ready (rs := [20]) (by kernel_rfl) (by simp) ?_
          refine AllReadyH.cons (o := _) rfl (fun K hK => ?_) AllReadyH.nil
          refine step_append_lies _ rfl (.tmp 73) (.tmp 77) 27 rfl (Wq.heap.size + 1) 3 i0 (.int .i64 0) 1 8 Try.underlying27 hi hz0 hz1 hz2 rfl (by decide) vL L.length (L.map (Value.int .i64)) rfl H51.out.1.rot.r.n ⟨W35.heap.size, 0, none⟩ 1 1 [.int .i64 d.loss.lo] rfl rfl P512.out.cells (by intro u hu; simp at hu; subst hu; rfl) (by decide) (by unfold maxLen; omega) (by omega) (by have := lt_of_block H51.out.1.tb; omega) _ rfl ?_
          intro g52 c52 W52 hown hgrow hat _
          have H52 : Hid (TR Wq Wq.heap.size vN vM vL W52 (.slice (some ⟨g52, 0, none⟩) (L.length + 1) c52) (.slice (some ⟨g50, 0, none⟩) (N.length + 1) c50) (.slice (some ⟨g51, 0, none⟩) (M.length + 1) c51) (L ++ [d.loss.lo]) (N ++ [d.need.lo]) (M ++ [d.make.hi]) ∧ W52.heap[wr.heap.size]? = some (.cells #[.int .i64 d.need.lo, .int .i64 d.need.hi, .int .i64 d.make.lo, .int .i64 d.make.hi, .int .i64 d.loss.lo, .int .i64 d.loss.hi] 97 (0, 0))) := ⟨(H51.out.1.rot).push hown hgrow hat, (H51.out.1.rot).keep H51.out.2 hgrow⟩
          clear hown hgrow hat
          refine hK.out _ _ ⟨⟨blk_cell H52.out.1.tb 0 rfl, blk_cell H52.out.1.tb 1 rfl, blk_cell H52.out.1.tb 2 rfl⟩, H52.out.2⟩ (fun _ => ?_)
          clear hK
          simp only [Act.put, List.setIfInBounds_toArray, List.set_cons_zero, List.set_cons_succ]
          refine wpAnyH_done (by kernel_rfl) ?_ _
          show wpList _ _ _ (opsAt _ [22, 23, 24, 25, 26]) _ _
          simp only [opsAt, List.filterMap_cons, List.filterMap_nil, List.getElem?_toArray, List.getElem?_cons_succ, List.getElem?_cons_zero]
          have HZ := (H52.out.1.rot).store
          have t0 := blk_cell H52.out.1.tb 0 rfl
          have t1 := blk_cell H52.out.1.tb 1 rfl
          have t2 := blk_cell H52.out.1.tb 2 rfl
          have f0 := blk_free (j := 0) H52.out.1.tb
          have f1 := blk_free (j := 1) H52.out.1.tb
          have f2 := blk_free (j := 2) H52.out.1.tb
          go_wp2_with (fail)
          go_roundw
          case rel => exact ⟨j + 1, _, _, _, _, _, _, by go_num, by omega, HZ, HE2⟩
          case measure => simp [intOf]; omega
        refine AllReadyH.cons (o := _) rfl (fun K hK => ?_) AllReadyH.nil
        go_simp
        have H53 : Hid (TR Wq Wq.heap.size vN vM vL (W0.alloc (.cells #[.int .i64 d.loss.lo] 3)) vN vM vL N M L ∧ (W0.alloc (.cells #[.int .i64 d.loss.lo] 3)).heap[wr.heap.size]? = some (.cells #[.int .i64 d.need.lo, .int .i64 d.need.hi, .int .i64 d.make.lo, .int .i64 d.make.hi, .int .i64 d.loss.lo, .int .i64 d.loss.hi] 97 (0, 0))) := ⟨H0.out.1.below ((Below.refl _ _).alloc (Nat.le_refl _) _), alk H0.out.2⟩
        have P532 := Lib.hid (PD.new H0.out.1 d.loss.lo)
        refine hK.out _ _ ⟨⟨blk_cell H53.out.1.tb 0 rfl, blk_cell H53.out.1.tb 1 rfl, blk_cell H53.out.1.tb 2 rfl⟩, H53.out.2⟩ (fun _ => ?_)
        clear hK
        generalize W0.alloc (.cells #[.int .i64 d.loss.lo] 3) = W53 at H53 P532 ⊢
        simp only [List.setIfInBounds_toArray, List.set_cons_zero, List.set_cons_succ]
        refine wpAnyH_ready (rs := [5, 12]) (by kernel_rfl) (by simp) ?_
        refine AllReadyH.cons (o := _) rfl (fun K hK => ?_) ?_
        · go_simp
          have H54 : Hid (TR Wq Wq.heap.size vN vM vL (W53.alloc (.cells #[.int .i64 d.need.lo] 3)) vN vM vL N M L ∧ (W53.alloc (.cells #[.int .i64 d.need.lo] 3)).heap[wr.heap.size]? = some (.cells #[.int .i64 d.need.lo, .int .i64 d.need.hi, .int .i64 d.make.lo, .int .i64 d.make.hi, .int .i64 d.loss.lo, .int .i64 d.loss.hi] 97 (0, 0))) := ⟨H53.out.1.below ((Below.refl _ _).alloc (Nat.le_refl _) _), alk H53.out.2⟩
          have P542 := Lib.hid (P532.out.below ((Below.refl W53.heap.size W53).alloc (Nat.le_refl _) (.cells #[.int .i64 d.need.lo] 3)))
          have P540 := Lib.hid (PD.new H53.out.1 d.need.lo)
          refine hK.out _ _ ⟨⟨blk_cell H54.out.1.tb 0 rfl, blk_cell H54.out.1.tb 1 rfl, blk_cell H54.out.1.tb 2 rfl⟩, H54.out.2⟩ (fun _ => ?_)
          clear hK
          generalize W53.alloc (.cells #[.int .i64 d.need.lo] 3) = W54 at H54 P542 P540 ⊢
          simp only [List.setIfInBounds_toArray, List.set_cons_zero, List.set_cons_succ]
          refine wpAnyH_ready (rs := [6, 12]) (by kernel_rfl) (by simp) ?_
          refine AllReadyH.cons (o := _) rfl (fun K hK => ?_) ?_
          · refine step_append_lies _ rfl (.tmp 59) (.tmp 63) 27 rfl (Wq.heap.size + 1) 3 i0 (.int .i64 0) 1 8 Try.underlying27 hi hz0 hz1 hz2 rfl (by decide) vN N.length (N.map (Value.int .i64)) rfl H54.out.1.r.n ⟨W53.heap.size, 0, none⟩ 1 1 [.int .i64 d.need.lo] rfl rfl P540.out.cells (by intro u hu; simp at hu; subst hu; rfl) (by decide) (by unfold maxLen; omega) (by omega) (by have := lt_of_block H54.out.1.tb; omega) _ rfl ?_
            intro g55 c55 W55 hown hgrow hat _
            have H55 : Hid (TR Wq Wq.heap.size vN vM vL W55 (.slice (some ⟨g55, 0, none⟩) (N.length + 1) c55) vM vL (N ++ [d.need.lo]) M L ∧ W55.heap[wr.heap.size]? = some (.cells #[.int .i64 d.need.lo, .int .i64 d.need.hi, .int .i64 d.make.lo, .int .i64 d.make.hi, .int .i64 d.loss.lo, .int .i64 d.loss.hi] 97 (0, 0))) := ⟨(H54.out.1).push hown hgrow hat, (H54.out.1).keep H54.out.2 hgrow⟩
            have P552 := Lib.hid (PD.push (n := N.length + 1) (c := c55) (P542.out) hgrow hat)
            clear hown hgrow hat
            refine hK.out _ _ ⟨⟨blk_cell H55.out.1.tb 0 rfl, blk_cell H55.out.1.tb 1 rfl, blk_cell H55.out.1.tb 2 rfl⟩, H55.out.2⟩ (fun _ => ?_)
            clear hK
            simp only [Act.put, List.setIfInBounds_toArray, List.set_cons_zero, List.set_cons_succ]
            refine wpAnyH_take (i := 21) (v := .pointer (some ⟨Wq.heap.size, 0, none⟩)) rfl (by kernel_rfl) (by kernel_rfl) (by kernel_rfl) (fun _ _ _ h => h) (Or.inl ⟨by rfl, by (intro W hSw; clear hSw; go_simp)⟩) ⟨⟨blk_cell H55.out.1.tb 0 rfl, blk_cell H55.out.1.tb 1 rfl, blk_cell H55.out.1.tb 2 rfl⟩, H55.out.2⟩ ?_
            simp only [Act.put, List.setIfInBounds_toArray, List.set_cons_zero, List.set_cons_succ]
            refine wpAnyH_ready (rs := [12]) (by kernel_rfl) (by simp) ?_
            refine AllReadyH.cons (o := _) rfl (fun K hK => ?_) AllReadyH.nil
            go_simp
            have H56 : Hid (TR Wq Wq.heap.size vN vM vL (W55.alloc (.cells #[.int .i64 d.make.hi] 3)) (.slice (some ⟨g55, 0, none⟩) (N.length + 1) c55) vM vL (N ++ [d.need.lo]) M L ∧ (W55.alloc (.cells #[.int .i64 d.make.hi] 3)).heap[wr.heap.size]? = some (.cells #[.int .i64 d.need.lo, .int .i64 d.need.hi, .int .i64 d.make.lo, .int .i64 d.make.hi, .int .i64 d.loss.lo, .int .i64 d.loss.hi] 97 (0, 0))) := ⟨H55.out.1.below ((Below.refl _ _).alloc (Nat.le_refl _) _), alk H55.out.2⟩
            have P562 := Lib.hid (P552.out.below ((Below.refl W55.heap.size W55).alloc (Nat.le_refl _) (.cells #[.int .i64 d.make.hi] 3)))
            have P561 := Lib.hid (PD.new H55.out.1 d.make.hi)
            refine hK.out _ _ ⟨⟨blk_cell H56.out.1.tb 0 rfl, blk_cell H56.out.1.tb 1 rfl, blk_cell H56.out.1.tb 2 rfl⟩, H56.out.2⟩ (fun _ => ?_)
            clear hK
            generalize W55.alloc (.cells #[.int .i64 d.make.hi] 3) = W56 at H56 P562 P561 ⊢
            simp only [List.setIfInBounds_toArray, List.set_cons_zero, List.set_cons_succ]
            refine wpAnyH_ready (rs := [13]) (by kernel_rfl) (by simp) ?_
            refine AllReadyH.cons (o := _) rfl (fun K hK => ?_) AllReadyH.nil
            refine step_append_lies _ rfl (.tmp 66) (.tmp 70) 27 rfl (Wq.heap.size + 1) 3 i0 (.int .i64 0) 1 8 Try.underlying27 hi hz0 hz1 hz2 rfl (by decide) vM M.length (M.map (Value.int .i64)) rfl H56.out.1.rot.r.n ⟨W55.heap.size, 0, none⟩ 1 1 [.int .i64 d.make.hi] rfl rfl P561.out.cells (by intro u hu; simp at hu; subst hu; rfl) (by decide) (by unfold maxLen; omega) (by omega) (by have := lt_of_block H56.out.1.tb; omega) _ rfl ?_
            intro g57 c57 W57 hown hgrow hat _
            have H57 : Hid (TR Wq Wq.heap.size vN vM vL W57 (.slice (some ⟨g57, 0, none⟩) (M.length + 1) c57) vL (.slice (some ⟨g55, 0, none⟩) (N.length + 1) c55) (M ++ [d.make.hi]) L (N ++ [d.need.lo]) ∧ W57.heap[wr.heap.size]? = some (.cells #[.int .i64 d.need.lo, .int .i64 d.need.hi, .int .i64 d.make.lo, .int .i64 d.make.hi, .int .i64 d.loss.lo, .int .i64 d.loss.hi] 97 (0, 0))) := ⟨(H56.out.1.rot).push hown hgrow hat, (H56.out.1.rot).keep H56.out.2 hgrow⟩
            have P572 := Lib.hid (PD.push (n := M.length + 1) (c := c57) (P562.out.rot) hgrow hat)
            clear hown hgrow hat
            refine hK.out _ _ ⟨⟨blk_cell H57.out.1.tb 0 rfl, blk_cell H57.out.1.tb 1 rfl, blk_cell H57.out.1.tb 2 rfl⟩, H57.out.2⟩ (fun _ => ?_)
            clear hK
            simp only [Act.put, List.setIfInBounds_toArray, List.set_cons_zero, List.set_cons_succ]
            refine wpAnyH_ready (rs := [20]) (by kernel_rfl) (by simp) ?_
            refine AllReadyH.cons (o := _) rfl (fun K hK => ?_) AllReadyH.nil
            refine step_append_lies _ rfl (.tmp 73) (.tmp 77) 27 rfl (Wq.heap.size + 1) 3 i0 (.int .i64 0) 1 8 Try.underlying27 hi hz0 hz1 hz2 rfl (by decide) vL L.length (L.map (Value.int .i64)) rfl H57.out.1.rot.r.n ⟨W0.heap.size, 0, none⟩ 1 1 [.int .i64 d.loss.lo] rfl rfl P572.out.cells (by intro u hu; simp at hu; subst hu; rfl) (by decide) (by unfold maxLen; omega) (by omega) (by have := lt_of_block H57.out.1.tb; omega) _ rfl ?_
            intro g58 c58 W58 hown hgrow hat _
            have H58 : Hid (TR Wq Wq.heap.size vN vM vL W58 (.slice (some ⟨g58, 0, none⟩) (L.length + 1) c58) (.slice (some ⟨g55, 0, none⟩) (N.length + 1) c55) (.slice (some ⟨g57, 0, none⟩) (M.length + 1) c57) (L ++ [d.loss.lo]) (N ++ [d.need.lo]) (M ++ [d.make.hi]) ∧ W58.heap[wr.heap.size]? = some (.cells #[.int .i64 d.need.lo, .int .i64 d.need.hi, .int .i64 d.make.lo, .int .i64 d.make.hi, .int .i64 d.loss.lo, .int .i64 d.loss.hi] 97 (0, 0))) := ⟨(H57.out.1.rot).push hown hgrow hat, (H57.out.1.rot).keep H57.out.2 hgrow⟩
            clear hown hgrow hat
            refine hK.out _ _ ⟨⟨blk_cell H58.out.1.tb 0 rfl, blk_cell H58.out.1.tb 1 rfl, blk_cell H58.out.1.tb 2 rfl⟩, H58.out.2⟩ (fun _ => ?_)
            clear hK
            simp only [Act.put, List.setIfInBounds_toArray, List.set_cons_zero, List.set_cons_succ]
            refine wpAnyH_done (by kernel_rfl) ?_ _
            show wpList _ _ _ (opsAt _ [22, 23, 24, 25, 26]) _ _
            simp only [opsAt, List.filterMap_cons, List.filterMap_nil, List.getElem?_toArray, List.getElem?_cons_succ, List.getElem?_cons_zero]
            have HZ := (H58.out.1.rot).store
            have t0 := blk_cell H58.out.1.tb 0 rfl
            have t1 := blk_cell H58.out.1.tb 1 rfl
            have t2 := blk_cell H58.out.1.tb 2 rfl
            have f0 := blk_free (j := 0) H58.out.1.tb
            have f1 := blk_free (j := 1) H58.out.1.tb
            have f2 := blk_free (j := 2) H58.out.1.tb
            go_wp2_with (fail)
            go_roundw
            case rel => exact ⟨j + 1, _, _, _, _, _, _, by go_num, by omega, HZ, HE2⟩
            case measure => simp [intOf]; omega
          refine AllReadyH.cons (o := _) rfl (fun K hK => ?_) AllReadyH.nil
          go_simp
          have H59 : Hid (TR Wq Wq.heap.size vN vM vL (W54.alloc (.cells #[.int .i64 d.make.hi] 3)) vN vM vL N M L ∧ (W54.alloc (.cells #[.int .i64 d.make.hi] 3)).heap[wr.heap.size]? = some (.cells #[.int .i64 d.need.lo, .int .i64 d.need.hi, .int .i64 d.make.lo, .int .i64 d.make.hi, .int .i64 d.loss.lo, .int .i64 d.loss.hi] 97 (0, 0))) := ⟨H54.out.1.below ((Below.refl _ _).alloc (Nat.le_refl _) _), alk H54.out.2⟩
          have P592 := Lib.hid (P542.out.below ((Below.refl W54.heap.size W54).alloc (Nat.le_refl _) (.cells #[.int .i64 d.make.hi] 3)))
          have P590 := Lib.hid (P540.out.below ((Below.refl W54.heap.size W54).alloc (Nat.le_refl _) (.cells #[.int .i64 d.make.hi] 3)))
          have P591 := Lib.hid (PD.new H54.out.1 d.make.hi)
          refine hK.out _ _ ⟨⟨blk_cell H59.out.1.tb 0 rfl, blk_cell H59.out.1.tb 1 rfl, blk_cell H59.out.1.tb 2 rfl⟩, H59.out.2⟩ (fun _ => ?_)
          clear hK
          generalize W54.alloc (.cells #[.int .i64 d.make.hi] 3) = W59 at H59 P592 P590 P591 ⊢
          simp only [List.setIfInBounds_toArray, List.set_cons_zero, List.set_cons_succ]
          refine wpAnyH_ready (rs := [6]) (by kernel_rfl) (by simp) ?_
          refine AllReadyH.cons (o := _) rfl (fun K hK => ?_) AllReadyH.nil
          refine step_append_lies _ rfl (.tmp 59) (.tmp 63) 27 rfl (Wq.heap.size + 1) 3 i0 (.int .i64 0) 1 8 Try.underlying27 hi hz0 hz1 hz2 rfl (by decide) vN N.length (N.map (Value.int .i64)) rfl H59.out.1.r.n ⟨W53.heap.size, 0, none⟩ 1 1 [.int .i64 d.need.lo] rfl rfl P590.out.cells (by intro u hu; simp at hu; subst hu; rfl) (by decide) (by unfold maxLen; omega) (by omega) (by have := lt_of_block H59.out.1.tb; omega) _ rfl ?_
          intro g60 c60 W60 hown hgrow hat _
          have H60 : Hid (TR Wq Wq.heap.size vN vM vL W60 (.slice (some ⟨g60, 0, none⟩) (N.length + 1) c60) vM vL (N ++ [d.need.lo]) M L ∧ W60.heap[wr.heap.size]? = some (.cells #[.int .i64 d.need.lo, .int .i64 d.need.hi, .int .i64 d.make.lo, .int .i64 d.make.hi, .int .i64 d.loss.lo, .int .i64 d.loss.hi] 97 (0, 0))) := ⟨(H59.out.1).push hown hgrow hat, (H59.out.1).keep H59.out.2 hgrow⟩
          have P602 := Lib.hid (PD.push (n := N.length + 1) (c := c60) (P592.out) hgrow hat)
          have P601 := Lib.hid (PD.push (n := N.length + 1) (c := c60) (P591.out) hgrow hat)
          clear hown hgrow hat
          refine hK.out _ _ ⟨⟨blk_cell H60.out.1.tb 0 rfl, blk_cell H60.out.1.tb 1 rfl, blk_cell H60.out.1.tb 2 rfl⟩, H60.out.2⟩ (fun _ => ?_)
          clear hK
          simp only [Act.put, List.setIfInBounds_toArray, List.set_cons_zero, List.set_cons_succ]
          refine wpAnyH_take (i := 21) (v := .pointer (some ⟨Wq.heap.size, 0, none⟩)) rfl (by kernel_rfl) (by kernel_rfl) (by kernel_rfl) (fun _ _ _ h => h) (Or.inl ⟨by rfl, by (intro W hSw; clear hSw; go_simp)⟩) ⟨⟨blk_cell H60.out.1.tb 0 rfl, blk_cell H60.out.1.tb 1 rfl, blk_cell H60.out.1.tb 2 rfl⟩, H60.out.2⟩ ?_
          simp only [Act.put, List.setIfInBounds_toArray, List.set_cons_zero, List.set_cons_succ]
          refine wpAnyH_ready (rs := [13]) (by kernel_rfl) (by simp) ?_
          refine AllReadyH.cons (o := _) rfl (fun K hK => ?_) AllReadyH.nil
          refine step_append_lies _ rfl (.tmp 66) (.tmp 70) 27 rfl (Wq.heap.size + 1) 3 i0 (.int .i64 0) 1 8 Try.underlying27 hi hz0 hz1 hz2 rfl (by decide) vM M.length (M.map (Value.int .i64)) rfl H60.out.1.rot.r.n ⟨W54.heap.size, 0, none⟩ 1 1 [.int .i64 d.make.hi] rfl rfl P601.out.cells (by intro u hu; simp at hu; subst hu; rfl) (by decide) (by unfold maxLen; omega) (by omega) (by have := lt_of_block H60.out.1.tb; omega) _ rfl ?_
          intro g61 c61 W61 hown hgrow hat _
          have H61 : Hid (TR Wq Wq.heap.size vN vM vL W61 (.slice (some ⟨g61, 0, none⟩) (M.length + 1) c61) vL (.slice (some ⟨g60, 0, none⟩) (N.length + 1) c60) (M ++ [d.make.hi]) L (N ++ [d.need.lo]) ∧ W61.heap[wr.heap.size]? = some (.cells #[.int .i64 d.need.lo, .int .i64 d.need.hi, .int .i64 d.make.lo, .int .i64 d.make.hi, .int .i64 d.loss.lo, .int .i64 d.loss.hi] 97 (0, 0))) := ⟨(H60.out.1.rot).push hown hgrow hat, (H60.out.1.rot).keep H60.out.2 hgrow⟩
          have P612 := Lib.hid (PD.push (n := M.length + 1) (c := c61) (P602.out.rot) hgrow hat)
          clear hown hgrow hat
          refine hK.out _ _ ⟨⟨blk_cell H61.out.1.tb 0 rfl, blk_cell H61.out.1.tb 1 rfl, blk_cell H61.out.1.tb 2 rfl⟩, H61.out.2⟩ (fun _ => ?_)
          clear hK
          simp only [Act.put, List.setIfInBounds_toArray, List.set_cons_zero, List.set_cons_succ]
          refine wpAnyH_ready (rs := [20]) (by kernel_rfl) (by simp) ?_
          refine AllReadyH.cons (o := _) rfl (fun K hK => ?_) AllReadyH.nil
          refine step_append_lies _ rfl (.tmp 73) (.tmp 77) 27 rfl (Wq.heap.size + 1) 3 i0 (.int .i64 0) 1 8 Try.underlying27 hi hz0 hz1 hz2 rfl (by decide) vL L.length (L.map (Value.int .i64)) rfl H61.out.1.rot.r.n ⟨W0.heap.size, 0, none⟩ 1 1 [.int .i64 d.loss.lo] rfl rfl P612.out.cells (by intro u hu; simp at hu; subst hu; rfl) (by decide) (by unfold maxLen; omega) (by omega) (by have := lt_of_block H61.out.1.tb; omega) _ rfl ?_
          intro g62 c62 W62 hown hgrow hat _
          have H62 : Hid (TR Wq Wq.heap.size vN vM vL W62 (.slice (some ⟨g62, 0, none⟩) (L.length + 1) c62) (.slice (some ⟨g60, 0, none⟩) (N.length + 1) c60) (.slice (some ⟨g61, 0, none⟩) (M.length + 1) c61) (L ++ [d.loss.lo]) (N ++ [d.need.lo]) (M ++ [d.make.hi]) ∧ W62.heap[wr.heap.size]? = some (.cells #[.int .i64 d.need.lo, .int .i64 d.need.hi, .int .i64 d.make.lo, .int .i64 d.make.hi, .int .i64 d.loss.lo, .int .i64 d.loss.hi] 97 (0, 0))) := ⟨(H61.out.1.rot).push hown hgrow hat, (H61.out.1.rot).keep H61.out.2 hgrow⟩
          clear hown hgrow hat
          refine hK.out _ _ ⟨⟨blk_cell H62.out.1.tb 0 rfl, blk_cell H62.out.1.tb 1 rfl, blk_cell H62.out.1.tb 2 rfl⟩, H62.out.2⟩ (fun _ => ?_)
          clear hK
          simp only [Act.put, List.setIfInBounds_toArray, List.set_cons_zero, List.set_cons_succ]
          refine wpAnyH_done (by kernel_rfl) ?_ _
          show wpList _ _ _ (opsAt _ [22, 23, 24, 25, 26]) _ _
          simp only [opsAt, List.filterMap_cons, List.filterMap_nil, List.getElem?_toArray, List.getElem?_cons_succ, List.getElem?_cons_zero]
          have HZ := (H62.out.1.rot).store
          have t0 := blk_cell H62.out.1.tb 0 rfl
          have t1 := blk_cell H62.out.1.tb 1 rfl
          have t2 := blk_cell H62.out.1.tb 2 rfl
          have f0 := blk_free (j := 0) H62.out.1.tb
          have f1 := blk_free (j := 1) H62.out.1.tb
          have f2 := blk_free (j := 2) H62.out.1.tb
          go_wp2_with (fail)
          go_roundw
          case rel => exact ⟨j + 1, _, _, _, _, _, _, by go_num, by omega, HZ, HE2⟩
          case measure => simp [intOf]; omega
        refine AllReadyH.cons (o := _) rfl (fun K hK => ?_) AllReadyH.nil
        go_simp
        have H63 : Hid (TR Wq Wq.heap.size vN vM vL (W53.alloc (.cells #[.int .i64 d.make.hi] 3)) vN vM vL N M L ∧ (W53.alloc (.cells #[.int .i64 d.make.hi] 3)).heap[wr.heap.size]? = some (.cells #[.int .i64 d.need.lo, .int .i64 d.need.hi, .int .i64 d.make.lo, .int .i64 d.make.hi, .int .i64 d.loss.lo, .int .i64 d.loss.hi] 97 (0, 0))) := ⟨H53.out.1.below ((Below.refl _ _).alloc (Nat.le_refl _) _), alk H53.out.2⟩
        have P632 := Lib.hid (P532.out.below ((Below.refl W53.heap.size W53).alloc (Nat.le_refl _) (.cells #[.int .i64 d.make.hi] 3)))
        have P631 := Lib.hid (PD.new H53.out.1 d.make.hi)
        refine hK.out _ _ ⟨⟨blk_cell H63.out.1.tb 0 rfl, blk_cell H63.out.1.tb 1 rfl, blk_cell H63.out.1.tb 2 rfl⟩, H63.out.2⟩ (fun _ => ?_)
        clear hK
        generalize W53.alloc (.cells #[.int .i64 d.make.hi] 3) = W63 at H63 P632 P631 ⊢
        simp only [List.setIfInBounds_toArray, List.set_cons_zero, List.set_cons_succ]
        refine wpAnyH_ready (rs := [5]) (by kernel_rfl) (by simp) ?_
        refine AllReadyH.cons (o := _) rfl (fun K hK => ?_) AllReadyH.nil
        go_simp
        have H64 : Hid (TR Wq Wq.heap.size vN vM vL (W63.alloc (.cells #[.int .i64 d.need.lo] 3)) vN vM vL N M L ∧ (W63.alloc (.cells #[.int .i64 d.need.lo] 3)).heap[wr.heap.size]? = some (.cells #[.int .i64 d.need.lo, .int .i64 d.need.hi, .int .i64 d.make.lo, .int .i64 d.make.hi, .int .i64 d.loss.lo, .int .i64 d.loss.hi] 97 (0, 0))) := ⟨H63.out.1.below ((Below.refl _ _).alloc (Nat.le_refl _) _), alk H63.out.2⟩
        have P642 := Lib.hid (P632.out.below ((Below.refl W63.heap.size W63).alloc (Nat.le_refl _) (.cells #[.int .i64 d.need.lo] 3)))
        have P641 := Lib.hid (P631.out.below ((Below.refl W63.heap.size W63).alloc (Nat.le_refl _) (.cells #[.int .i64 d.need.lo] 3)))
        have P640 := Lib.hid (PD.new H63.out.1 d.need.lo)
        refine hK.out _ _ ⟨⟨blk_cell H64.out.1.tb 0 rfl, blk_cell H64.out.1.tb 1 rfl, blk_cell H64.out.1.tb 2 rfl⟩, H64.out.2⟩ (fun _ => ?_)
        clear hK
        generalize W63.alloc (.cells #[.int .i64 d.need.lo] 3) = W64 at H64 P642 P641 P640 ⊢
        simp only [List.setIfInBounds_toArray, List.set_cons_zero, List.set_cons_succ]
        refine wpAnyH_ready (rs := [6]) (by kernel_rfl) (by simp) ?_
        refine AllReadyH.cons (o := _) rfl (fun K hK => ?_) AllReadyH.nil
        refine step_append_lies _ rfl (.tmp 59) (.tmp 63) 27 rfl (Wq.heap.size + 1) 3 i0 (.int .i64 0) 1 8 Try.underlying27 hi hz0 hz1 hz2 rfl (by decide) vN N.length (N.map (Value.int .i64)) rfl H64.out.1.r.n ⟨W63.heap.size, 0, none⟩ 1 1 [.int .i64 d.need.lo] rfl rfl P640.out.cells (by intro u hu; simp at hu; subst hu; rfl) (by decide) (by unfold maxLen; omega) (by omega) (by have := lt_of_block H64.out.1.tb; omega) _ rfl ?_
        intro g65 c65 W65 hown hgrow hat _
        have H65 : Hid (TR Wq Wq.heap.size vN vM vL W65 (.slice (some ⟨g65, 0, none⟩) (N.length + 1) c65) vM vL (N ++ [d.need.lo]) M L ∧ W65.heap[wr.heap.size]? = some (.cells #[.int .i64 d.need.lo, .int .i64 d.need.hi, .int .i64 d.make.lo, .int .i64 d.make.hi, .int .i64 d.loss.lo, .int .i64 d.loss.hi] 97 (0, 0))) := ⟨(H64.out.1).push hown hgrow hat, (H64.out.1).keep H64.out.2 hgrow⟩
        have P652 := Lib.hid (PD.push (n := N.length + 1) (c := c65) (P642.out) hgrow hat)
        have P651 := Lib.hid (PD.push (n := N.length + 1) (c := c65) (P641.out) hgrow hat)
        clear hown hgrow hat
        refine hK.out _ _ ⟨⟨blk_cell H65.out.1.tb 0 rfl, blk_cell H65.out.1.tb 1 rfl, blk_cell H65.out.1.tb 2 rfl⟩, H65.out.2⟩ (fun _ => ?_)
        clear hK
        simp only [Act.put, List.setIfInBounds_toArray, List.set_cons_zero, List.set_cons_succ]
        refine wpAnyH_take (i := 21) (v := .pointer (some ⟨Wq.heap.size, 0, none⟩)) rfl (by kernel_rfl) (by kernel_rfl) (by kernel_rfl) (fun _ _ _ h => h) (Or.inl ⟨by rfl, by (intro W hSw; clear hSw; go_simp)⟩) ⟨⟨blk_cell H65.out.1.tb 0 rfl, blk_cell H65.out.1.tb 1 rfl, blk_cell H65.out.1.tb 2 rfl⟩, H65.out.2⟩ ?_
        simp only [Act.put, List.setIfInBounds_toArray, List.set_cons_zero, List.set_cons_succ]
        refine wpAnyH_ready (rs := [13]) (by kernel_rfl) (by simp) ?_
        refine AllReadyH.cons (o := _) rfl (fun K hK => ?_) AllReadyH.nil
        refine step_append_lies _ rfl (.tmp 66) (.tmp 70) 27 rfl (Wq.heap.size + 1) 3 i0 (.int .i64 0) 1 8 Try.underlying27 hi hz0 hz1 hz2 rfl (by decide) vM M.length (M.map (Value.int .i64)) rfl H65.out.1.rot.r.n ⟨W53.heap.size, 0, none⟩ 1 1 [.int .i64 d.make.hi] rfl rfl P651.out.cells (by intro u hu; simp at hu; subst hu; rfl) (by decide) (by unfold maxLen; omega) (by omega) (by have := lt_of_block H65.out.1.tb; omega) _ rfl ?_
        intro g66 c66 W66 hown hgrow hat _
        have H66 : Hid (TR Wq Wq.heap.size vN vM vL W66 (.slice (some ⟨g66, 0, none⟩) (M.length + 1) c66) vL (.slice (some ⟨g65, 0, none⟩) (N.length + 1) c65) (M ++ [d.make.hi]) L (N ++ [d.need.lo]) ∧ W66.heap[wr.heap.size]? = some (.cells #[.int .i64 d.need.lo, .int .i64 d.need.hi, .int .i64 d.make.lo, .int .i64 d.make.hi, .int .i64 d.loss.lo, .int .i64 d.loss.hi] 97 (0, 0))) := ⟨(H65.out.1.rot).push hown hgrow hat, (H65.out.1.rot).keep H65.out.2 hgrow⟩
        have P662 := Lib.hid (PD.push (n := M.length + 1) (c := c66) (P652.out.rot) hgrow hat)
        clear hown hgrow hat
        refine hK.out _ _ ⟨⟨blk_cell H66.out.1.tb 0 rfl, blk_cell H66.out.1.tb 1 rfl, blk_cell H66.out.1.tb 2 rfl⟩, H66.out.2⟩ (fun _ => ?_)
        clear hK
        simp only [Act.put, List.setIfInBounds_toArray, List.set_cons_zero, List.set_cons_succ]
        refine wpAnyH_ready (rs := [20]) (by kernel_rfl) (by simp) ?_
        refine AllReadyH.cons (o := _) rfl (fun K hK => ?_) AllReadyH.nil
        refine step_append_lies _ rfl (.tmp 73) (.tmp 77) 27 rfl (Wq.heap.size + 1) 3 i0 (.int .i64 0) 1 8 Try.underlying27 hi hz0 hz1 hz2 rfl (by decide) vL L.length (L.map (Value.int .i64)) rfl H66.out.1.rot.r.n ⟨W0.heap.size, 0, none⟩ 1 1 [.int .i64 d.loss.lo] rfl rfl P662.out.cells (by intro u hu; simp at hu; subst hu; rfl) (by decide) (by unfold maxLen; omega) (by omega) (by have := lt_of_block H66.out.1.tb; omega) _ rfl ?_
        intro g67 c67 W67 hown hgrow hat _
        have H67 : Hid (TR Wq Wq.heap.size vN vM vL W67 (.slice (some ⟨g67, 0, none⟩) (L.length + 1) c67) (.slice (some ⟨g65, 0, none⟩) (N.length + 1) c65) (.slice (some ⟨g66, 0, none⟩) (M.length + 1) c66) (L ++ [d.loss.lo]) (N ++ [d.need.lo]) (M ++ [d.make.hi]) ∧ W67.heap[wr.heap.size]? = some (.cells #[.int .i64 d.need.lo, .int .i64 d.need.hi, .int .i64 d.make.lo, .int .i64 d.make.hi, .int .i64 d.loss.lo, .int .i64 d.loss.hi] 97 (0, 0))) := ⟨(H66.out.1.rot).push hown hgrow hat, (H66.out.1.rot).keep H66.out.2 hgrow⟩
        clear hown hgrow hat
        refine hK.out _ _ ⟨⟨blk_cell H67.out.1.tb 0 rfl, blk_cell H67.out.1.tb 1 rfl, blk_cell H67.out.1.tb 2 rfl⟩, H67.out.2⟩ (fun _ => ?_)
        clear hK
        simp only [Act.put, List.setIfInBounds_toArray, List.set_cons_zero, List.set_cons_succ]
        refine wpAnyH_done (by kernel_rfl) ?_ _
        show wpList _ _ _ (opsAt _ [22, 23, 24, 25, 26]) _ _
        simp only [opsAt, List.filterMap_cons, List.filterMap_nil, List.getElem?_toArray, List.getElem?_cons_succ, List.getElem?_cons_zero]
        have HZ := (H67.out.1.rot).store
        have t0 := blk_cell H67.out.1.tb 0 rfl
        have t1 := blk_cell H67.out.1.tb 1 rfl
        have t2 := blk_cell H67.out.1.tb 2 rfl
        have f0 := blk_free (j := 0) H67.out.1.tb
        have f1 := blk_free (j := 1) H67.out.1.tb
        have f2 := blk_free (j := 2) H67.out.1.tb
        go_wp2_with (fail)
        go_roundw
        case rel => exact ⟨j + 1, _, _, _, _, _, _, by go_num, by omega, HZ, HE2⟩
        case measure => simp [intOf]; omega
    · have hjl : j = ds.length := by omega
      subst hjl
      clear hlt
      obtain ⟨e1, e2, e3⟩ := hE.out
      rw [List.take_length] at e1 e2 e3
      subst e1 e2 e3
      obtain ⟨an2, cn2, eN, iN, _⟩ := ints_of_owns hR.out.r.n
      obtain ⟨am2, cm2, eM, iM, _⟩ := ints_of_owns hR.out.r.m
      obtain ⟨al2, cl2, eL, iL, _⟩ := ints_of_owns hR.out.r.l
      rw [List.length_map] at eN eM eL
      subst eN eM eL
      have HI2 := Lib.hid (And.intro iN (And.intro iM iL))
      clear iN iM iL
      have HMr : Hid (MP w wr w2.heap.size Wa.heap.size stock store ad ds cp a2 n2 cap2 0 ∧ Sl 2 Sp.cells wr ar RL ∧ wr.heap[w5.heap.size]? = some (.cells #[.slice an ds.length cn, .slice am ds.length cm, .slice al ds.length cl] 88 (0, 0)) ∧ IntSl wr an (ds.map fun d => d.need.hi) ∧ IntSl wr am (ds.map fun d => d.make.lo) ∧ IntSl wr al (ds.map fun d => d.loss.hi)) :=
        ⟨HMq.out.1.below hR.out.b, HMq.out.2.1.below hR.out.b, blk_below HMq.out.2.2.1 hR.out.b, HMq.out.2.2.2.1.below hR.out.b, HMq.out.2.2.2.2.1.below hR.out.b, HMq.out.2.2.2.2.2.below hR.out.b⟩
      have c0 := blk_cell HMr.out.1.kw.2.1 0 rfl
      have c1 := blk_cell HMr.out.1.kw.2.1 1 rfl
      have c2 := blk_cell HMr.out.1.kw.2.1 2 rfl
      have t0 := blk_cell HMr.out.2.2.1 0 rfl
      have t1 := blk_cell HMr.out.2.2.1 1 rfl
      have t2 := blk_cell HMr.out.2.2.1 2 rfl
      go_wp2_with (fail)
      clear c0 c1 c2 t0 t1 t2
      have hst1 := (ranged_tells HW.out HRL.out)
      have HC := Stocks_any stock store ad ds cp an _ cn am _ cm al _ cl wr HMr.out.1.kw.2.2 HMr.out.2.2.2.1 HMr.out.2.2.2.2.1 HMr.out.2.2.2.2.2 HW.out (worst_sky (win_ok HW.out).2.2)
      obtain ⟨S1, hS1, hS1'⟩ : ∃ S1, (playL stock store (ds.map fun d => d.need.hi) (ds.map fun d => d.make.lo) (ds.map fun d => d.loss.hi) ds.length).stocks = S1 ∧ (worstL stock store ds).stocks = S1 := ⟨_, rfl, rfl⟩
      obtain ⟨S2, hS2, hS2'⟩ : ∃ S2, (playL stock store (ds.map fun d => d.need.lo) (ds.map fun d => d.make.hi) (ds.map fun d => d.loss.lo) ds.length).stocks = S2 ∧ (bestL stock store ds).stocks = S2 := ⟨_, rfl, rfl⟩
      rw [hS1] at HC
      rw [hS1', hS2'] at hst1
      have HST := Lib.hid hst1
      clear hst1 hS1 hS1'
      refine HC.mono ?_
      rintro e v1 ⟨b1, cb1, rfl, ⟨iS1, _⟩, hb⟩
      have HMr := Lib.hid (And.intro (HMr.out.1.below hb) (And.intro (HMr.out.2.1.below hb) iS1))
      have HT2 := Lib.hid (And.intro (hR.out.below hb) (And.intro (HI2.out.1.below hb) (And.intro (HI2.out.2.1.below hb) (HI2.out.2.2.below hb))))
      clear hb HC iS1
      have c0 := blk_cell HMr.out.1.kw.2.1 0 rfl
      have c1 := blk_cell HMr.out.1.kw.2.1 1 rfl
      have c2 := blk_cell HMr.out.1.kw.2.1 2 rfl
      have t0 := blk_cell HT2.out.1.tb 0 rfl
      have t1 := blk_cell HT2.out.1.tb 1 rfl
      have t2 := blk_cell HT2.out.1.tb 2 rfl
      go_wp2_with (fail)
      clear c0 c1 c2 t0 t1 t2
      have HC := Stocks_any stock store ad ds cp an2 _ cn2 am2 _ cm2 al2 _ cl2 v1 HMr.out.1.kw.2.2 HT2.out.2.1 HT2.out.2.2.1 HT2.out.2.2.2 HW.out (best_sky (win_ok HW.out).2.2)
      rw [hS2] at HC
      clear hS2 hS2'
      refine HC.mono ?_
      rintro e v2 ⟨b2, cb2, rfl, ⟨iS2, _⟩, hb⟩
      have HV : Hid (MP w v2 w2.heap.size Wa.heap.size stock store ad ds cp a2 n2 cap2 0 ∧ Sl 2 Sp.cells v2 ar RL ∧ IntSl v2 b1 S1 ∧ IntSl v2 b2 S2) := ⟨HMr.out.1.below hb, HMr.out.2.1.below hb, HMr.out.2.2.below hb, iS2⟩
      clear hb HC iS2 HT2 HI2 hR HMr
      have q1 : ((S1.length : Int) != (RL.length : Int)) = false := by rw [HST.out.1]; simp
      have q2 : decide (S2.length < RL.length) = false := by have := HST.out.2.1; simp; omega
      have hRb : RL.length ≤ 20 := by have := HF.out.2.2.1; simp at qrl; omega
      go_wp2_with (fail)
      clear q1 q2
      go_loopw [117] (fun i wr => ∃ (q : Nat), i = .int .i64 q ∧ q ≤ RL.length ∧ Hid (Below v2.heap.size v2 wr)) (fun i _ => RL.length - (intOf i).toNat)
      case atStart => exact ⟨0, rfl, Nat.zero_le _, Below.refl _ _⟩
      case round =>
        obtain ⟨q, rfl, hq, hbw⟩ := hrel
        by_cases hlt : q < RL.length
        · obtain ⟨br, offr, rfl, hbr, hcr⟩ := HV.out.2.1 (by omega)
          have HD : Hid (RL[q]? = some RL[q]) := List.getElem?_eq_getElem hlt
          obtain ⟨h1, h2, h3⟩ := HST.out.2.2 q RL[q] HD.out
          obtain ⟨b1', o1, rfl, hb1', hc1⟩ := HV.out.2.2.1 (by have := HST.out.1; omega)
          obtain ⟨b2', o2, rfl, hb2', hc2⟩ := HV.out.2.2.2 (by have := HST.out.2.1; omega)
          have d1 := (hbw.out.cell (p := ⟨b1', o1 + q, none⟩) hb1').trans (hc1 q (by have := HST.out.1; omega))
          have d2 := (hbw.out.cell (p := ⟨b2', o2 + q, none⟩) hb2').trans (hc2 q (by have := HST.out.2.1; omega))
          rw [h1] at d1
          rw [h2] at d2
          have l0 : wr.cell? ⟨br, offr + q * 2, none⟩ = some (.int .i64 RL[q].lo) := (hbw.out.cell (p := ⟨br, offr + q * 2 + 0, none⟩) hbr).trans (hcr q RL[q] 0 _ HD.out rfl)
          have l1 : wr.cell? ⟨br, offr + q * 2 + 1, none⟩ = some (.int .i64 RL[q].hi) := (hbw.out.cell (p := ⟨br, offr + q * 2 + 1, none⟩) hbr).trans (hcr q RL[q] 1 _ HD.out rfl)
          have r1 : q < S1.length := by have := HST.out.1; omega
          have r2 : q < S2.length := by have := HST.out.2.1; omega
          generalize RL[q] = s at *
          clear hc1 hc2 hcr h1 h2 HD
          obtain ⟨Wx, hWx⟩ : ∃ Wx, wr.alloc (.cells #[.int .i64 s.lo, .int .i64 s.hi] 24) = Wx := ⟨_, rfl⟩
          have hbx : Below wr.heap.size wr Wx := by rw [← hWx]; exact (Below.refl _ _).alloc (Nat.le_refl _) _
          have hnx : Wx.heap[wr.heap.size]? = some (.cells #[.int .i64 s.lo, .int .i64 s.hi] 24 (0, 0)) := by rw [← hWx]; exact heap_alloc_new _ _
          have HBW := Lib.hid (below_self hbw.out hbx)
          go_upto_region 20 with (fail)
          have d1 := (hbx.cell (p := ⟨b1', o1 + q, none⟩) (Nat.lt_of_lt_of_le hb1' hbw.out.size)).trans d1
          have d2 := (hbx.cell (p := ⟨b2', o2 + q, none⟩) (Nat.lt_of_lt_of_le hb2' hbw.out.size)).trans d2
          have n0 := blk_cell hnx 0 rfl
          have n1 := blk_cell hnx 1 rfl
          have g1 : (s.lo != s.lo) = false := by simp
          have g2 : (s.hi != s.hi) = false := by simp
          have g3 : decide (s.hi < s.lo) = false := by simp; omega
          clear hWx l0 l1 hbx hnx
          go_quiet (fail)
          go_wp2_with (fail)
          go_roundw
          case rel => exact ⟨q + 1, by go_num, by omega, ⟨HBW.out.os, HBW.out.tape, HBW.out.output, HBW.out.size, HBW.out.block⟩⟩
          case measure => simp [intOf]; omega
        · have : q = RL.length := by omega
          subst this
          clear hlt
          have HV3 : Hid (MP w wr w2.heap.size Wa.heap.size stock store ad ds cp a2 n2 cap2 0 ∧ Sl 2 Sp.cells wr ar RL) := ⟨HV.out.1.below hbw.out, HV.out.2.1.below hbw.out⟩
          clear hbw HV
          go_wp2_with (fail)
          go_loopw [146] (fun i wr => ∃ (j k : Nat), i = .int .i64 j ∧ j ≤ 5 ∧ Hid (k ≤ 60 * j) ∧ Hid (MP w wr w2.heap.size Wa.heap.size stock store ad ds cp a2 n2 cap2 k ∧ Sl 2 Sp.cells wr ar RL)) (fun i _ => 5 - (intOf i).toNat)
          case atStart => exact ⟨0, 0, rfl, by omega, by show 0 ≤ 60 * 0; omega, HV3.out⟩
          case round =>
            obtain ⟨j, k, rfl, hj, hk, hM⟩ := hrel
            by_cases hlt : j < 5
            · have c0 := blk_cell hM.out.1.kw.2.1 0 rfl
              have c1 := blk_cell hM.out.1.kw.2.1 1 rfl
              have c2 := blk_cell hM.out.1.kw.2.1 2 rfl
              go_upto_region 25 with (fail)
              go_cut [18, 19, 146] from 146 to 189 (fun st e i wx => i = .int .i64 j ∧ e = .int .i64 0 ∧ ∃ (N M L : List Int) (b : Option Addr) (c : Nat), Sky ds N M L ∧ st = .slice b (playL stock store N M L ds.length).stocks.length c ∧ MP w wx w2.heap.size Wa.heap.size stock store ad ds cp a2 n2 cap2 (k + 3 * ds.length) ∧ Sl 2 Sp.cells wx ar RL ∧ IntSl wx b (playL stock store N M L ds.length).stocks)
              case first => as_aux_lemma =>
                go_region_held3 (fun w' => w'.cell? ⟨w2.heap.size, 0, none⟩ = some (.int .i64 stock) ∧ w'.cell? ⟨w2.heap.size, 1, none⟩ = some (.int .i64 store) ∧ w'.cell? ⟨w2.heap.size, 2, none⟩ = some (.slice ad ds.length cp)) (go_keep)
                  (first
                    | (go_at_call 56; refine (Stocks_any stock store ad ds cp an2 N cn2 am2 M cm2 al2 L cl2 w5' HM5.out.1.kw.2.2 HI.out.1 HI.out.2.1 HI.out.2.2.1 HW.out HI.out.2.2.2).mono ?_; rintro e w6' ⟨b3, cb3, rfl, ⟨iS3, _⟩, hb⟩; have HM6 := Lib.hid (And.intro (HM5.out.1.below hb) (And.intro (HM5.out.2.below hb) iS3)); clear hb iS3 c0 c1 c2; have c0 := blk_cell HM6.out.1.kw.2.1 0 rfl; have c1 := blk_cell HM6.out.1.kw.2.1 1 rfl; have c2 := blk_cell HM6.out.1.kw.2.1 2 rfl)
                    | (go_at_call 52; refine (drawn_any Wa.heap.size a2 n2 cap2 k stock store ad ds cp _ (hM.out.1.dk.below ((Below.refl _ _).drew)) (by have := hk.out; omega) (hM.out.1.kw.2.2.below ((Below.refl _ _).drew)) (fun p hp => Nat.ne_of_lt (hM.out.1.far p hp)) (by have := HF.out.2.2.1; omega) HF.out.2.2.2).mono ?_; rintro e w5' ⟨an2, cn2, am2, cm2, al2, cl2, N, M, L, rfl, iN, iM, iL, hsk, hD, hA, _, _, _⟩; have HM5 := Lib.hid (And.intro (hM.out.1.draw (drew_ap hA) hD) (sps_apart hM.out.2 hM.out.1.dk (drew_ap hA))); have HI := Lib.hid (And.intro iN (And.intro iM (And.intro iL hsk))); clear iN iM iL hsk hD hA c0 c1 c2; have c0 := blk_cell HM5.out.1.kw.2.1 0 rfl; have c1 := blk_cell HM5.out.1.kw.2.1 1 rfl; have c2 := blk_cell HM5.out.1.kw.2.1 2 rfl))
                all_goals (
                  clear c0 c1 c2
                  go_wp2_with (fail)
                  go_meet
                  exact ⟨rfl, rfl, N, M, L, _, _, HI.out.2.2.2, rfl, HM6.out.1, HM6.out.2.1, HM6.out.2.2⟩)
              case rest =>
                obtain ⟨rfl, rfl, N, M, L, b, c, hsk, rfl, hm1, hm2, hm3⟩ := hcut
                have HK := Lib.hid (And.intro hm1 (And.intro hm2 hm3))
                have hin := ranged_in HW.out HRL.out hsk
                obtain ⟨S3, hS3⟩ : ∃ S3, (playL stock store N M L ds.length).stocks = S3 := ⟨_, rfl⟩
                rw [hS3] at hin HK ⊢
                have HIN := Lib.hid hin
                clear hin hm1 hm2 hm3 hS3 hsk c0 c1 c2
                have q2 : decide (S3.length < RL.length) = false := by have := HIN.out.1; simp; omega
                go_wp2_with (fail)
                clear q2
                go_loopw [167] (fun i wr => ∃ (q : Nat), i = .int .i64 q ∧ q ≤ RL.length ∧ Hid (Below wc.heap.size wc wr)) (fun i _ => RL.length - (intOf i).toNat)
                case atStart => exact ⟨0, rfl, Nat.zero_le _, Below.refl _ _⟩
                case round =>
                  obtain ⟨q, rfl, hq, hbw⟩ := hrel
                  by_cases hlt2 : q < RL.length
                  · obtain ⟨br, offr, rfl, hbr, hcr⟩ := HK.out.2.1 (by omega)
                    have HD : Hid (RL[q]? = some RL[q]) := List.getElem?_eq_getElem hlt2
                    have h3 := HIN.out.2 q RL[q] HD.out
                    obtain ⟨b1', o1, rfl, hb1', hc1⟩ := HK.out.2.2 (by have := HIN.out.1; omega)
                    have d1 := (hbw.out.cell (p := ⟨b1', o1 + q, none⟩) hb1').trans (hc1 q (by have := HIN.out.1; omega))
                    have l0 : wr.cell? ⟨br, offr + q * 2, none⟩ = some (.int .i64 RL[q].lo) := (hbw.out.cell (p := ⟨br, offr + q * 2 + 0, none⟩) hbr).trans (hcr q RL[q] 0 _ HD.out rfl)
                    have l1 : wr.cell? ⟨br, offr + q * 2 + 1, none⟩ = some (.int .i64 RL[q].hi) := (hbw.out.cell (p := ⟨br, offr + q * 2 + 1, none⟩) hbr).trans (hcr q RL[q] 1 _ HD.out rfl)
                    have r1 : q < S3.length := by have := HIN.out.1; omega
                    generalize RL[q] = s at *
                    generalize S3[q]?.getD 0 = x at *
                    clear hc1 hcr HD
                    obtain ⟨Wx, hWx⟩ : ∃ Wx, wr.alloc (.cells #[.int .i64 s.lo, .int .i64 s.hi] 24) = Wx := ⟨_, rfl⟩
                    have hbx : Below wr.heap.size wr Wx := by rw [← hWx]; exact (Below.refl _ _).alloc (Nat.le_refl _) _
                    have hnx : Wx.heap[wr.heap.size]? = some (.cells #[.int .i64 s.lo, .int .i64 s.hi] 24 (0, 0)) := by rw [← hWx]; exact heap_alloc_new _ _
                    have HBW := Lib.hid (below_self hbw.out hbx)
                    go_upto_region 31 with (fail)
                    have d1 := (hbx.cell (p := ⟨b1', o1 + q, none⟩) (Nat.lt_of_lt_of_le hb1' hbw.out.size)).trans d1
                    have n0 := blk_cell hnx 0 rfl
                    have n1 := blk_cell hnx 1 rfl
                    have g1 : decide (x < s.lo) = false := by simp; omega
                    have g2 : decide (s.hi < x) = false := by simp; omega
                    clear hWx l0 l1 hbx hnx
                    go_quiet (fail)
                    go_wp2_with (fail)
                    go_roundw
                    case rel => exact ⟨q + 1, by go_num, by omega, ⟨HBW.out.os, HBW.out.tape, HBW.out.output, HBW.out.size, HBW.out.block⟩⟩
                    case measure => simp [intOf]; omega
                  · have : q = RL.length := by omega
                    subst this
                    clear hlt2
                    have HK2 : Hid (MP w wr w2.heap.size Wa.heap.size stock store ad ds cp a2 n2 cap2 (k + 3 * ds.length) ∧ Sl 2 Sp.cells wr ar RL) := ⟨HK.out.1.below hbw.out, HK.out.2.1.below hbw.out⟩
                    clear hbw HK
                    go_wp2_with (fail)
                    go_roundw
                    case rel => exact ⟨j + 1, k + 3 * ds.length, by go_num, by omega, (by show k + 3 * ds.length ≤ 60 * (j + 1); have := hk.out; have := HF.out.2.2.1; omega), HK2⟩
                    case measure => simp [intOf]; omega
            · have : j = 5 := by omega
              subst this
              go_wp2_with (first | (go_at_call 15; refine (awake_any _).mono ?_; rintro e v7 ⟨rfl, hb⟩; have HM2 := Lib.hid (hM.out.1.below hb); clear hb))
              go_ret
              exact ⟨rfl, HM2.out.kw.1⟩
end Go.Proofs.Ytlpfohampfchfaa
