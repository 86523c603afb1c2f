/-
The contract of CoursePiled over this seat's program.
  What is proved: it answers true; nothing that was there before has turned.
  Conditions: lists of bytes that read as such.
-/
import Derived.Test.YtlpfohampfchfaaPartP2
namespace Go.Proofs.Ytlpfohampfchfaa
open Go.RowKit Go.Shelf
attribute [local go_sem] Oper.semAt_some

set_option maxRecDepth 100000 in
set_option maxHeartbeats 8000000 in
theorem piled_any (a : Option Addr) (n cap : Nat) (a2 : Option Addr) (n2 cap2 : Nat) (w : World) (hb : BytesAt w a n) (hn : n ≤ 140737488355328) (hb2 : BytesAt w a2 n2) (hn2 : n2 ≤ 140737488355328) :
    Calls Try.prog 11 #[.slice a n cap, .slice a2 n2 cap2] w fun e w' => e = .returned (.bool true) ∧ Below w.heap.size w w' := by
  have HO := Lib.hid (of_any a n cap w hb hn)
  have HB2 := Lib.hid (And.intro hb2 hn2)
  clear hb hn hb2 hn2
  go_enter Try.func11, Try.ntmps11
  go_wp2_with (fail)
  refine HO.out.mono ?_
  rintro e w1 ⟨rfl, hD, hb1⟩
  have HD := Lib.hid (And.intro hD hb1)
  clear hD hb1 HO
  go_wp2_with (fail)
  refine (made_any w.heap.size (w.heap.size + 1) a n cap 0 20 w1 HD.out.1 (by omega) (by omega)).mono ?_
  rintro e w2 ⟨stock, store, ad, ds, cp, rfl, hS, h1, h2, h3, h4, _, hA, _⟩
  obtain ⟨Wa, hWa⟩ : ∃ Wa, w2.alloc (.cells #[.int .i64 stock, .int .i64 store, .slice ad ds.length cp] 60) = Wa := ⟨_, rfl⟩
  have hb2 : Below w.heap.size w w2 := below_apart HD.out.2 hA (fun j hj => by omega)
  have HF : Hid ((20 ≤ store ∧ store ≤ 200) ∧ (0 ≤ stock ∧ stock ≤ store) ∧ (1 ≤ ds.length ∧ ds.length ≤ 20) ∧ (∀ d ∈ ds, SmallDay d)) := ⟨h1, h2, ⟨h3.1, by omega⟩, h4⟩
  have HW := Lib.hid (winE_small (stock := stock) (store := store) (ds := ds) ⟨by omega, by omega⟩ h2 ⟨h3.1, by omega⟩ h4)
  have HK : Hid (KW w Wa w2.heap.size stock store ad ds cp ∧ w2.heap.size < Wa.heap.size ∧ (∀ p, ad = some p → p.block < Wa.heap.size)) := by
    rw [← hWa]
    refine ⟨⟨hb2.alloc hb2.size _, heap_alloc_new _ _, hS.below (alloc1 _ _)⟩, by simp, fun p hp => ?_⟩
    obtain ⟨b, off, e, hlt, _⟩ := hS (by omega)
    rw [hp] at e
    cases e
    show b < _
    simp; omega
  clear hS h1 h2 h3 h4 hA hb2
  have HL : Hid (ds.length ≤ 1000000) := by have := HF.out.2.2.1; show _ ≤ _; omega
  have c0 := blk_cell HK.out.1.2.1 0 rfl
  have c1 := blk_cell HK.out.1.2.1 1 rfl
  have c2 := blk_cell HK.out.1.2.1 2 rfl
  have hltA := HK.out.2.1
  have hneA : w2.heap.size ≠ Wa.heap.size := Nat.ne_of_lt hltA
  have hneB : Wa.heap.size ≠ w2.heap.size := Ne.symm hneA
  have hszA : (Wa.drew.alloc zero88).heap.size = Wa.heap.size + 1 := by simp
  go_upto_region 2 with (fail)
  clear hWa
  go_cut [6] (fun p wx => ∃ (B : Nat) (an : Option Addr) (cn : Nat) (am : Option Addr) (cm : Nat) (al : Option Addr) (cl : Nat) (N M L : List Int), p = .pointer (some ⟨B, 0, none⟩) ∧ Sky ds N M L ∧ KW w wx w2.heap.size stock store ad ds cp ∧ LV wx B an cn am cm al cl ds.length N M L)
  case first => as_aux_lemma =>
    have HSZ := Lib.hid hszA
    clear hszA
    go_region_held3 (fun w' => w'.cell? ⟨w2.heap.size, 0, none⟩ = some (.int .i64 stock) ∧ w'.cell? ⟨w2.heap.size, 1, none⟩ = some (.int .i64 store) ∧ w'.cell? ⟨w2.heap.size, 2, none⟩ = some (.slice ad ds.length cp)) (go_keep)
      (first
        | (go_at_call 52
           first
            | (refine (drawn_any Wa.heap.size a2 n2 cap2 0 stock store ad ds cp w3 HM.out.dk (by omega) HM.out.kw.2.2 (fun p hp => Nat.ne_of_lt (HM.out.far p hp)) (by have := HF.out.2.2.1; omega) HF.out.2.2.2).mono ?_
               rintro e w4 ⟨an, cn, am, cm, al, cl, N, M, L, rfl, iN, iM, iL, hsk, hD, hA, fN, fM, fL⟩
               have HM4 := Lib.hid (HM.out.draw hA hD)
               have HI4 := Lib.hid (And.intro iN (And.intro iM (And.intro iL hsk)))
               clear iN iM iL hsk hD hA fN fM fL c0 c1 c2
               have c0 := blk_cell HM4.out.kw.2.1 0 rfl
               have c1 := blk_cell HM4.out.kw.2.1 1 rfl
               have c2 := blk_cell HM4.out.kw.2.1 2 rfl
               have hne4 : w2.heap.size ≠ w4.heap.size := Nat.ne_of_lt (lt_of_block HM4.out.kw.2.1))
            | (refine (drawn_any Wa.heap.size a2 n2 cap2 0 stock store ad ds cp (w3.alloc zero88) (HM.out.dk.below (alloc1 _ _)) (by omega) (HM.out.kw.2.2.below (alloc1 _ _)) (fun p hp => Nat.ne_of_lt (HM.out.far p hp)) (by have := HF.out.2.2.1; omega) HF.out.2.2.2).mono ?_
               rintro e w4 ⟨an, cn, am, cm, al, cl, N, M, L, rfl, iN, iM, iL, hsk, hD, hA, fN, fM, fL⟩
               have hlt3 := HM.out.dk.lt
               have HB4 : Hid (w4.heap[w3.heap.size]? = some (.cells #[.slice none 0 0, .slice none 0 0, .slice none 0 0] 88 (0, 0))) := (hA.block _ (by rw [World.size_alloc]; omega) (by omega)).trans (heap_alloc_new w3 zero88)
               have HM4 := Lib.hid ((HM.out.below (alloc1 _ _)).draw hA hD)
               have hsw : (w3.alloc zero88).heap.size = w3.heap.size + 1 := by simp
               have HI4 := Lib.hid (And.intro iN (And.intro iM (And.intro iL (And.intro hsk (And.intro (fun p hp => by have := fN p hp; omega : ∀ p, an = some p → w3.heap.size < p.block) (And.intro (fun p hp => by have := fM p hp; omega : ∀ p, am = some p → w3.heap.size < p.block) (fun p hp => by have := fL p hp; omega : ∀ p, al = some p → w3.heap.size < p.block)))))))
               clear iN iM iL hsk hD hA fN fM fL c0 c1 c2
               have c0 := blk_cell HM4.out.kw.2.1 0 rfl
               have c1 := blk_cell HM4.out.kw.2.1 1 rfl
               have c2 := blk_cell HM4.out.kw.2.1 2 rfl
               have y0 := blk_free (j := 0) HB4.out
               have y1 := blk_free (j := 1) HB4.out
               have y2 := blk_free (j := 2) HB4.out
               have z0 := blk_cell HB4.out 0 rfl
               have z1 := blk_cell HB4.out 1 rfl
               have z2 := blk_cell HB4.out 2 rfl
               have hne4 : w2.heap.size ≠ w3.heap.size := Nat.ne_of_lt (lt_of_block HM.out.kw.2.1)
               have hne5 : w3.heap.size ≠ w2.heap.size := Ne.symm hne4)
            | (refine (drawn_any (Wa.heap.size + 1) a2 n2 cap2 0 stock store ad ds cp w3 HMP.out.1.dk (by omega) HMP.out.1.kw.2.2 (fun p hp => Nat.ne_of_lt (HMP.out.1.far p hp)) (by have := HF.out.2.2.1; omega) HF.out.2.2.2).mono ?_
               rintro e w4 ⟨an, cn, am, cm, al, cl, N, M, L, rfl, iN, iM, iL, hsk, hD, hA, fN, fM, fL⟩
               have hlt3 := lt_of_block HMP.out.2
               have HB4 : Hid (w4.heap[Wa.heap.size]? = some (.cells #[.slice none 0 0, .slice none 0 0, .slice none 0 0] 88 (0, 0))) := (hA.block _ hlt3 (by omega)).trans HMP.out.2
               have HM4 := Lib.hid (HMP.out.1.draw hA hD)
               have HI4 := Lib.hid (And.intro iN (And.intro iM (And.intro iL (And.intro hsk (And.intro (fun p hp => by have := fN p hp; omega : ∀ p, an = some p → Wa.heap.size < p.block) (And.intro (fun p hp => by have := fM p hp; omega : ∀ p, am = some p → Wa.heap.size < p.block) (fun p hp => by have := fL p hp; omega : ∀ p, al = some p → Wa.heap.size < p.block)))))))
               clear iN iM iL hsk hD hA fN fM fL c0 c1 c2
               have c0 := blk_cell HM4.out.kw.2.1 0 rfl
               have c1 := blk_cell HM4.out.kw.2.1 1 rfl
               have c2 := blk_cell HM4.out.kw.2.1 2 rfl
               have y0 := blk_free (j := 0) HB4.out
               have y1 := blk_free (j := 1) HB4.out
               have y2 := blk_free (j := 2) HB4.out
               have z0 := blk_cell HB4.out 0 rfl
               have z1 := blk_cell HB4.out 1 rfl
               have z2 := blk_cell HB4.out 2 rfl))
        | (go_at_call 49
           first
            | (refine (of_any a2 n2 cap2 Wa.drew (HB2.out.1.keep HK.out.1.1.size (fun _ p _ hp => HK.out.1.1.block _ hp)) HB2.out.2).mono ?_
               rintro e w3 ⟨rfl, hD, hb⟩
               have HM : Hid (MP w w3 w2.heap.size Wa.heap.size stock store ad ds cp a2 n2 cap2 0) := ⟨HK.out.1.below (past_drew' hb), hD, HK.out.1.1.size, HK.out.2.1, HK.out.2.2⟩
               clear hD hb c0 c1 c2
               have c0 := blk_cell HM.out.kw.2.1 0 rfl
               have c1 := blk_cell HM.out.kw.2.1 1 rfl
               have c2 := blk_cell HM.out.kw.2.1 2 rfl
               have hne3 : w2.heap.size ≠ w3.heap.size := Nat.ne_of_lt (lt_of_block HM.out.kw.2.1))
            | (refine (of_any a2 n2 cap2 (Wa.drew.alloc zero88) (HB2.out.1.keep (by rw [HSZ.out]; have := HK.out.1.1.size; omega) (fun _ p _ hp => (heap_alloc_old Wa.drew zero88 (Nat.lt_of_lt_of_le hp HK.out.1.1.size)).trans (HK.out.1.1.block _ hp))) HB2.out.2).mono ?_
               rintro e w3 ⟨rfl, hD, hb⟩
               rw [HSZ.out] at hD ⊢
               have HMP := Lib.hid (deck_late HK.out hD hb)
               clear hD hb c0 c1 c2
               have c0 := blk_cell HMP.out.1.kw.2.1 0 rfl
               have c1 := blk_cell HMP.out.1.kw.2.1 1 rfl
               have c2 := blk_cell HMP.out.1.kw.2.1 2 rfl
               have x0 := blk_cell HMP.out.2 0 rfl)))
    all_goals (
      clear c0 c1 c2
      go_wp2_with (fail)
      go_meet
      first
        | exact ⟨w4.heap.size, an, cn, am, cm, al, cl, N, M, L, rfl, HI4.out.2.2.2, box_new HM4.out HI4.out.1 HI4.out.2.1 HI4.out.2.2.1⟩
        | exact ⟨w3.heap.size, an, cn, am, cm, al, cl, N, M, L, rfl, HI4.out.2.2.2.1, box_put HM4.out HB4.out HM.out.kw.1.size hne4 (fun p hp => by have h1 := HM.out.far p hp; have h2 := HM.out.dk.lt; omega) HI4.out.1 HI4.out.2.1 HI4.out.2.2.1 HI4.out.2.2.2.2.1 HI4.out.2.2.2.2.2.1 HI4.out.2.2.2.2.2.2⟩
        | exact ⟨Wa.heap.size, an, cn, am, cm, al, cl, N, M, L, rfl, HI4.out.2.2.2.1, box_put HM4.out HB4.out HK.out.1.1.size hneA (fun p hp => Nat.ne_of_lt (HK.out.2.2 p hp)) HI4.out.1 HI4.out.2.1 HI4.out.2.2.1 HI4.out.2.2.2.2.1 HI4.out.2.2.2.2.2.1 HI4.out.2.2.2.2.2.2⟩)
  case rest =>
    obtain ⟨B, an, cn, am, cm, al, cl, N, M, L, rfl, hsk, hm, hl⟩ := hcut
    have HSK := Lib.hid hsk
    have HT := Lib.hid (And.intro hm hl)
    have htl := piled_tells HW.out hsk
    clear hsk hm hl c0 c1 c2 hltA hneA hneB hszA
    obtain ⟨S, hS⟩ : ∃ S, (playL stock store N M L ds.length).stocks = S := ⟨_, rfl⟩
    obtain ⟨Md, hMd⟩ : ∃ Md, (playL stock store N M L ds.length).made = Md := ⟨_, rfl⟩
    obtain ⟨F, hF⟩ : ∃ F, pileL stock store N M L ds.length = F := ⟨_, rfl⟩
    rw [hS, hMd, hF] at htl
    have HTL := Lib.hid htl
    have HSM := Lib.hid (And.intro hS (And.intro hMd hF))
    clear htl hS hMd hF
    have c0 := blk_cell HT.out.1.2.1 0 rfl
    have c1 := blk_cell HT.out.1.2.1 1 rfl
    have c2 := blk_cell HT.out.1.2.1 2 rfl
    have t0 := blk_cell HT.out.2.tb 0 rfl
    have t1 := blk_cell HT.out.2.tb 1 rfl
    have t2 := blk_cell HT.out.2.tb 2 rfl
    go_wp2_with (fail)
    clear c0 c1 c2 t0 t1 t2
    have HC := Stocks_any stock store ad ds cp an N cn am M cm al L cl wc HT.out.1.2.2 HT.out.2.n HT.out.2.m HT.out.2.l HW.out HSK.out
    rw [HSM.out.1] at HC
    refine HC.mono ?_
    rintro e w5 ⟨sb, sc, rfl, ⟨iS, _⟩, hb⟩
    have HT := Lib.hid (And.intro (HT.out.1.below hb) (And.intro (HT.out.2.below hb) iS))
    clear hb iS HC
    have c0 := blk_cell HT.out.1.2.1 0 rfl
    have c1 := blk_cell HT.out.1.2.1 1 rfl
    have c2 := blk_cell HT.out.1.2.1 2 rfl
    have t0 := blk_cell HT.out.2.1.tb 0 rfl
    have t1 := blk_cell HT.out.2.1.tb 1 rfl
    have t2 := blk_cell HT.out.2.1.tb 2 rfl
    go_wp2_with (fail)
    clear c0 c1 c2 t0 t1 t2
    have HC := Made_any stock store ad ds cp an N cn am M cm al L cl w5 HT.out.1.2.2 HT.out.2.1.n HT.out.2.1.m HT.out.2.1.l HW.out HSK.out
    rw [HSM.out.2.1] at HC
    refine HC.mono ?_
    rintro e w6 ⟨mb, mc, rfl, ⟨iMd, _⟩, hb⟩
    have HT := Lib.hid (And.intro (HT.out.1.below hb) (And.intro (HT.out.2.1.below hb) (And.intro (HT.out.2.2.below hb) iMd)))
    clear hb iMd HC
    have c0 := blk_cell HT.out.1.2.1 0 rfl
    have c1 := blk_cell HT.out.1.2.1 1 rfl
    have c2 := blk_cell HT.out.1.2.1 2 rfl
    have t0 := blk_cell HT.out.2.1.tb 0 rfl
    have t1 := blk_cell HT.out.2.1.tb 1 rfl
    have t2 := blk_cell HT.out.2.1.tb 2 rfl
    go_wp2_with (fail)
    clear c0 c1 c2 t0 t1 t2
    have HC := Piles_any stock store ad ds cp an N cn am M cm al L cl w6 HT.out.1.2.2 HT.out.2.1.n HT.out.2.1.m HT.out.2.1.l HW.out HSK.out
    rw [HSM.out.2.2] at HC
    refine HC.mono ?_
    rintro e w7 ⟨pb, pc, rfl, ⟨iF, _⟩, hb⟩
    have HT := Lib.hid (And.intro (HT.out.1.below hb) (And.intro (HT.out.2.1.below hb) (And.intro (HT.out.2.2.1.below hb) (And.intro (HT.out.2.2.2.below hb) iF))))
    clear hb iF HC HSM
    have c0 := blk_cell HT.out.1.2.1 0 rfl
    have c2 := blk_cell HT.out.1.2.1 2 rfl
    have q1 : ((Md.length : Int) != (S.length : Int)) = false := by rw [HTL.out.ln]; simp
    have q2 : decide (ds.length < S.length) = false := by have := HTL.out.le; simp; omega
    go_wp2_with (fail)
    clear q1 q2 c0 c2
    have hSb : S.length ≤ 20 := by have := HTL.out.le; have := HF.out.2.2.1; omega
    go_loopw [13, 76] (fun st i wr => ∃ j : Nat, i = .int .i64 j ∧ st = .int .i64 (prevS stock S j) ∧ j ≤ S.length ∧ Hid (Below w7.heap.size w7 wr)) (fun _ i _ => S.length - (intOf i).toNat)
    case atStart => exact ⟨0, rfl, rfl, Nat.zero_le _, Below.refl _ _⟩
    case round =>
      obtain ⟨j, rfl, rfl, hj, hbw⟩ := hrel
      by_cases hlt : j < S.length
      · as_aux_lemma =>
        have hday := HTL.out.day j hlt
        unfold DayT at hday
        have hjd : j < ds.length := by have := HTL.out.le; omega
        have HVr : Hid (KW w wr w2.heap.size stock store ad ds cp ∧ LV wr B an cn am cm al cl ds.length N M L ∧ IntSl wr sb S ∧ IntSl wr mb Md) := ⟨HT.out.1.below hbw.out, HT.out.2.1.below hbw.out, HT.out.2.2.1.below hbw.out, HT.out.2.2.2.1.below hbw.out⟩
        obtain ⟨bs, os, rfl, hbs, hcs⟩ := HVr.out.2.2.1 (by omega)
        obtain ⟨bm, om, rfl, hbm, hcm⟩ := HVr.out.2.2.2 (by have := HTL.out.ln; omega)
        obtain ⟨bn, on, rfl, hbn, hcn⟩ := HVr.out.2.1.n (by have := HSK.out.1.1; omega)
        obtain ⟨bk, ok, rfl, hbk, hck⟩ := HVr.out.2.1.m (by have := HSK.out.1.2.1; omega)
        obtain ⟨bl, ol, rfl, hbl, hcl⟩ := HVr.out.2.1.l (by have := HSK.out.1.2.2; omega)
        have cS := hcs j (by omega)
        have cM := hcm j (by have := HTL.out.ln; omega)
        have cN := hcn j (by have := HSK.out.1.1; omega)
        have cK := hck j (by have := HSK.out.1.2.1; omega)
        have cL := hcl j (by have := HSK.out.1.2.2; omega)
        have t0 := blk_cell HVr.out.2.1.tb 0 rfl
        have t1 := blk_cell HVr.out.2.1.tb 1 rfl
        have t2 := blk_cell HVr.out.2.1.tb 2 rfl
        have c1 := blk_cell HVr.out.1.2.1 1 rfl
        have hjm : j < Md.length := by have := HTL.out.ln; omega
        have hbd := HSK.out.bd (win_ok HW.out).2.2
        have bN : 0 ≤ N[j]?.getD 0 ∧ N[j]?.getD 0 ≤ 100000 := hbd.1 _ (by rw [List.getElem?_eq_getElem (by have := HSK.out.1.1; omega)]; exact List.getElem_mem _)
        have bM : 0 ≤ M[j]?.getD 0 ∧ M[j]?.getD 0 ≤ 100000 := hbd.2.1 _ (by rw [List.getElem?_eq_getElem (by have := HSK.out.1.2.1; omega)]; exact List.getElem_mem _)
        have bL : 0 ≤ L[j]?.getD 0 ∧ L[j]?.getD 0 ≤ 100000 := hbd.2.2 _ (by rw [List.getElem?_eq_getElem (by have := HSK.out.1.2.2; omega)]; exact List.getElem_mem _)
        have HP1 : Hid (prevS stock S (j + 1) = S[j]?.getD 0) := rfl
        have hstb : store ≤ 200 := HF.out.1.2
        clear hcs hcm hcn hck hcl hbd
        generalize N[j]?.getD 0 = nk at *
        generalize M[j]?.getD 0 = mk at *
        generalize L[j]?.getD 0 = lk at *
        generalize Md[j]?.getD 0 = m at *
        generalize S[j]?.getD 0 = x at *
        generalize prevS stock S j = p at *
        have HDY := Lib.hid (And.intro hday (And.intro bN (And.intro bM bL)))
        clear hday bN bM bL
        go_upto_region 13 with (fail)
        have hlo : (if lk < p then lk else p) = min p lk := by split <;> omega
        rw [hlo]
        clear hlo
        have hday := HDY.out.1
        have l1 : 0 ≤ min p lk ∧ min p lk ≤ p := by have := HDY.out.2.2.2; have := hday.2.2.2.1; omega
        generalize min p lk = lo at *
        have HQ : Hid ((0 ≤ m ∧ m ≤ mk) ∧ (m < mk → p - lo + m = store) ∧ x = p - lo + m - nk ∧ (0 ≤ p ∧ p ≤ store) ∧ (0 ≤ lo ∧ lo ≤ p) ∧ mk ≤ 100000 ∧ nk ≤ 100000 ∧ 0 ≤ nk) := ⟨hday.1, hday.2.1, hday.2.2.1, hday.2.2.2.1, l1, HDY.out.2.2.1.2, HDY.out.2.1.2, HDY.out.2.1.1⟩
        clear hday l1 HDY
        have g1 : decide (m < 0) = false := by have := HQ.out; simp; omega
        have g2 : decide (mk < m) = false := by have := HQ.out; simp; omega
        have e1 : IntKind.i64.wrap (p - lo) = p - lo := IntWalk.i64_in _ (by have := HQ.out; omega)
        have e2 : IntKind.i64.wrap (p - lo + m) = p - lo + m := IntWalk.i64_in _ (by have := HQ.out; omega)
        have e3 : IntKind.i64.wrap (p - lo + m - nk) = p - lo + m - nk := IntWalk.i64_in _ (by have := HQ.out; omega)
        have g4 : (x != p - lo + m - nk) = false := by have := HQ.out; simp; omega
        by_cases hb : m < mk
        · have g3 : decide (m < mk) = true := by simp; exact hb
          have g5 : (p - lo + m != store) = false := by have := HQ.out; simp; omega
          clear hb hstb
          go_quiet (fail)
          have HBW := Lib.hid (below_drewN hbw.out nq)
          clear g1 g2 g3 g4 g5 e1 e2 e3 cS cM cN cK cL t0 t1 t2 c1
          go_wp2_with (fail)
          go_roundw
          case rel => exact ⟨j + 1, by go_num, congrArg (Value.int .i64) HP1.out.symm, by omega, HBW.out⟩
          case measure => simp [intOf]; omega
        · have g3 : decide (m < mk) = false := by simp; omega
          clear hb hstb
          go_quiet (fail)
          have HBW := Lib.hid (below_drewN hbw.out nq)
          clear g1 g2 g3 g4 e1 e2 e3 cS cM cN cK cL t0 t1 t2 c1
          go_wp2_with (fail)
          go_roundw
          case rel => exact ⟨j + 1, by go_num, congrArg (Value.int .i64) HP1.out.symm, by omega, HBW.out⟩
          case measure => simp [intOf]; omega
      · have : j = S.length := by omega
        subst this
        clear hlt hj
        obtain ⟨wo, rfl⟩ : ∃ wo : World, wo = wr := ⟨_, rfl⟩
        have HV8 : Hid (KW w wo w2.heap.size stock store ad ds cp ∧ IntSl wo mb Md ∧ Sl 2 Sp.cells wo pb F) := ⟨HT.out.1.below hbw.out, HT.out.2.2.2.1.below hbw.out, HT.out.2.2.2.2.below hbw.out⟩
        obtain ⟨z, hz⟩ : ∃ z, prevS stock S S.length = z := ⟨_, rfl⟩
        rw [hz]
        have HZ : Hid (sumS F = z ∧ 0 ≤ sumS F ∧ sumS F ≤ store) := ⟨by rw [← hz]; exact HTL.out.sum, HTL.out.top⟩
        have HFE := Lib.hid HTL.out.each
        have HFA := Lib.hid HTL.out.all
        have HFP : Hid (∀ p ∈ F, 0 ≤ p.hi) := fun p hp => by
          obtain ⟨i, hi, he⟩ := List.mem_iff_getElem.1 hp
          have := (HTL.out.each i p (by rw [List.getElem?_eq_getElem hi, he])).1
          omega
        have hFl : F.length ≤ 21 := by have := HTL.out.fl; have := HF.out.2.2.1; omega
        have hMl : Md.length ≤ 20 := by have := HTL.out.ln; omega
        have hstb : stock ≤ 200 ∧ store ≤ 200 ∧ 0 ≤ stock := by have := HF.out; omega
        have HSTB := Lib.hid hstb
        clear hz hbw HT HSK hSb hstb
        go_wp2_with (fail)
        go_loopw [17, 152] (fun st i wx => ∃ j : Nat, i = .int .i64 j ∧ st = .int .i64 (sumS (F.take j)) ∧ j ≤ F.length ∧ Hid (Below wo.heap.size wo wx)) (fun _ i _ => F.length - (intOf i).toNat)
        case atStart => exact ⟨0, rfl, rfl, Nat.zero_le _, Below.refl _ _⟩
        case round =>
          obtain ⟨j, rfl, rfl, hj, hbw⟩ := hrel
          by_cases hlt : j < F.length
          · as_aux_lemma =>
            obtain ⟨bp, op, rfl, hbp, hcp⟩ := HV8.out.2.2 (by omega)
            have HD : Hid (F[j]? = some F[j]) := List.getElem?_eq_getElem hlt
            have l0 : wr.cell? ⟨bp, op + j * 2, none⟩ = some (.int .i64 F[j].lo) := (hbw.out.cell (p := ⟨bp, op + j * 2 + 0, none⟩) hbp).trans (hcp j F[j] 0 _ HD.out rfl)
            have l1 : wr.cell? ⟨bp, op + j * 2 + 1, none⟩ = some (.int .i64 F[j].hi) := (hbw.out.cell (p := ⟨bp, op + j * 2 + 1, none⟩) hbp).trans (hcp j F[j] 1 _ HD.out rfl)
            have hprev : ∀ q, j = q + 1 → ∃ y : Int, (F[j - 1]?.getD ⟨0, 0⟩).lo = y ∧ wr.cell? ⟨bp, op + q * 2, none⟩ = some (.int .i64 y) := fun q hq => by
              have hql : q < F.length := by omega
              refine ⟨F[q].lo, ?_, (hbw.out.cell (p := ⟨bp, op + q * 2 + 0, none⟩) hbp).trans (hcp q F[q] 0 _ (List.getElem?_eq_getElem hql) rfl)⟩
              rw [show j - 1 = q by omega, List.getElem?_eq_getElem hql]
              rfl
            have HPV := Lib.hid hprev
            obtain ⟨f1, f2⟩ := HFE.out j F[j] HD.out
            have hs1 := (sumS_take HFP.out j)
            have hs2 := sumS_more HD.out
            have HS2 : Hid (sumS (F.take (j + 1)) = sumS (F.take j) + F[j].hi) := hs2
            have hs3 := (sumS_take HFP.out (j + 1)).2
            have hz := HZ.out.2
            have HF2 := Lib.hid f2
            have hsb := HSTB.out
            have bs : 0 ≤ sumS (F.take j) ∧ sumS (F.take j) ≤ 200 ∧ 1 ≤ F[j].hi ∧ F[j].hi ≤ 200 := by omega
            obtain ⟨bs1, bs2, bs3, bs4⟩ := bs
            clear hcp hprev f1 f2 hs1 hs2 hs3 hz hsb
            generalize F[j] = s at *
            generalize sumS (F.take j) = sj at *
            obtain ⟨Wx, hWx⟩ : ∃ Wx, wr.alloc (.cells #[.int .i64 s.lo, .int .i64 s.hi] 106) = Wx := ⟨_, rfl⟩
            have hbx : Below wr.heap.size wr Wx := by rw [← hWx]; exact (Below.refl _ _).alloc (Nat.le_refl _) _
            have HNX : Hid (Wx.heap[wr.heap.size]? = some (.cells #[.int .i64 s.lo, .int .i64 s.hi] 106 (0, 0))) := by rw [← hWx]; exact heap_alloc_new _ _
            have HBX := Lib.hid hbx
            have HBW := Lib.hid (below_self hbw.out hbx)
            have HVX : Hid (KW w Wx w2.heap.size stock store ad ds cp ∧ IntSl Wx mb Md) := ⟨HV8.out.1.below HBW.out, HV8.out.2.1.below HBW.out⟩
            clear hbx
            go_upto_region 21 with (fail)
            clear hWx l0 l1
            have n0 := blk_cell HNX.out 0 rfl
            have n1 := blk_cell HNX.out 1 rfl
            have c0 := blk_cell HVX.out.1.2.1 0 rfl
            have e5 : IntKind.i64.wrap (sj + s.hi) = sj + s.hi := IntWalk.i64_in _ (by omega)
            have E5 := Lib.hid e5
            clear e5
            by_cases hlo : s.lo = -1
            · have hA : s.hi ≤ stock ∧ j = 0 := by
                rcases HF2.out with ⟨_, h2, h3⟩ | ⟨d, h1, _⟩
                · exact ⟨h2, h3⟩
                · omega
              obtain ⟨ha, hb⟩ := hA
              have g0 : (s.lo != -1) = false := by simp; exact hlo
              have g1 : decide (s.hi < 1) = false := by simp; omega
              have g2 : decide (stock < s.hi) = false := by simp; omega
              have g3 : decide ((0 : Int) < (j : Int)) = false := by simp; omega
              have g4 : decide (0 < j) = false := by simp; omega
              clear hlo ha hb
              go_upto_region 26 with (fail)
              go_quiet (fail)
              clear g0 g1 g2 g3 g4
              go_wp2_with (fail)
              go_roundw
              case rel => exact ⟨j + 1, by go_num, congrArg (Value.int .i64) HS2.out.symm, by omega, below_drewN HBW.out nq⟩
              case measure => simp [intOf]; omega
            · obtain ⟨d, hd1, hd2, hd3, hd4⟩ : ∃ d : Nat, s.lo = (d : Int) ∧ d < Md.length ∧ s.hi ≤ Md[d]?.getD 0 ∧ (0 < j → s.hi = Md[d]?.getD 0 ∧ (F[j - 1]?.getD ⟨0, 0⟩).lo < s.lo) := by
                rcases HF2.out with ⟨h1, _⟩ | h
                · exact absurd h1 hlo
                · exact h
              obtain ⟨bm, om, rfl, hbm, hcm⟩ := HVX.out.2 (by omega)
              have cM := hcm d hd2
              have HD4 := Lib.hid hd4
              clear hcm hd4 hlo
              generalize Md[d]?.getD 0 = x at *
              rw [hd1] at n0
              have HD1 := Lib.hid hd1
              have g0 : ((d : Int) != -1) = true := by simp <;> omega
              have g1 : decide (s.hi < 1) = false := decide_eq_false (by omega)
              have g2 : decide (x < s.hi) = false := decide_eq_false (by omega)
              have g9 : decide (Md.length ≤ d) = false := decide_eq_false (by omega)
              clear hd1
              by_cases hj0 : 0 < j
              · obtain ⟨hx, hp⟩ := HD4.out hj0
                obtain ⟨q, hq⟩ : ∃ q, j = q + 1 := ⟨j - 1, by omega⟩
                obtain ⟨y, hy, hcy⟩ := HPV.out q hq
                rw [hy, HD1.out] at hp
                have d9 := (HBX.out.cell (p := ⟨bp, op + q * 2, none⟩) (Nat.lt_of_lt_of_le hbp hbw.out.size)).trans hcy
                have e9 : IntKind.i64.wrap ((j : Int) - 1) = (q : Int) := by rw [IntWalk.i64_in _ (by omega)]; omega
                have hql : q < F.length := by omega
                have g3 : decide ((0 : Int) < (j : Int)) = true := decide_eq_true (by omega)
                have g4 : decide (0 < j) = true := decide_eq_true hj0
                have g5 : decide ((d : Int) ≤ y) = false := decide_eq_false (by omega)
                have g6 : (s.hi != x) = false := by simp; exact hx
                clear hx hy hcy hp hj0 hq
                go_upto_region 26 with (fail)
                go_quiet (fail)
                clear g0 g1 g2 g3 g4 g5 g6 g9 e9
                go_wp2_with (fail)
                go_roundw
                case rel => exact ⟨j + 1, by go_num, congrArg (Value.int .i64) HS2.out.symm, by omega, below_drewN HBW.out nq⟩
                case measure => simp [intOf]; omega
              · have g3 : decide ((0 : Int) < (j : Int)) = false := decide_eq_false (by omega)
                have g4 : decide (0 < j) = false := decide_eq_false hj0
                clear hj0
                go_upto_region 26 with (fail)
                go_quiet (fail)
                clear g0 g1 g2 g3 g4 g9
                go_wp2_with (fail)
                go_roundw
                case rel => exact ⟨j + 1, by go_num, congrArg (Value.int .i64) HS2.out.symm, by omega, below_drewN HBW.out nq⟩
                case measure => simp [intOf]; omega
          · as_aux_lemma =>
            have : j = F.length := by omega
            subst this
            clear hlt hj
            obtain ⟨wz, rfl⟩ : ∃ wz : World, wz = wr := ⟨_, rfl⟩
            have HV9 : Hid (KW w wz w2.heap.size stock store ad ds cp ∧ IntSl wz mb Md ∧ Sl 2 Sp.cells wz pb F) := ⟨HV8.out.1.below hbw.out, HV8.out.2.1.below hbw.out, HV8.out.2.2.below hbw.out⟩
            have hz2 : sumS (List.take F.length F) = z := by rw [List.take_length]; exact HZ.out.1
            rw [hz2]
            clear hz2 hbw HV8
            have gz : (z == z) = true := by simp
            by_cases hF : 0 < F.length
            · obtain ⟨h, t, hht⟩ : ∃ h t, F = h :: t := by
                cases F with
                | nil => simp at hF
                | cons h t => exact ⟨h, t, rfl⟩
              have h0 : F[0]? = some h := by rw [hht]; rfl
              obtain ⟨hm1, hall⟩ := HFA.out h t hht
              have hup : h.lo ≤ 100 := by
                rcases (HFE.out 0 h h0).2 with ⟨e, _⟩ | ⟨d, e, h2, _⟩ <;> omega
              obtain ⟨bp, op, rfl, hbp, hcp⟩ := HV9.out.2.2 hF
              have l0 : wz.cell? ⟨bp, op, none⟩ = some (.int .i64 h.lo) := by
                have := hcp 0 h 0 _ h0 rfl
                simpa using this
              have HALL := Lib.hid hall
              have HH0 := Lib.hid (And.intro hht h0)
              obtain ⟨d0, hd0⟩ : ∃ d0 : Nat, h.lo + 1 = (d0 : Int) := ⟨(h.lo + 1).toNat, by omega⟩
              have HD0 := Lib.hid hd0
              clear hall hcp hht h0 hd0
              go_wp2_with (fail)
              clear l0
              go_loopw [21] (fun i wx => ∃ d : Nat, i = .int .i64 d ∧ d0 ≤ d ∧ Hid (Below wz.heap.size wz wx)) (fun i _ => Md.length - (intOf i).toNat)
              case atStart => exact ⟨d0, congrArg (Value.int .i64) HD0.out, Nat.le_refl _, Below.refl _ _⟩
              case round =>
                obtain ⟨d, rfl, hd, hbw⟩ := hrel
                by_cases hlt : d < Md.length
                · obtain ⟨bm, om, rfl, hbm, hcm⟩ := HV9.out.2.1 (by omega)
                  have cM := (hbw.out.cell (p := ⟨bm, om + d, none⟩) hbm).trans (hcm d hlt)
                  have HM := Lib.hid (HALL.out d (by have := HD0.out; omega) hlt)
                  clear hcm
                  generalize Md[d]?.getD 0 = x at *
                  by_cases hx : 0 < x
                  · have gx : decide (0 < x) = true := decide_eq_true hx
                    have HMM := Lib.hid (HM.out hx)
                    have HSF := Lib.hid (HV9.out.2.2.below hbw.out)
                    clear hx
                    go_wp2_with (go_at_call 60; refine (contains_pile _ F pc ⟨(d : Int), x⟩ _ HSF.out (by omega) HMM.out).mono ?_; rintro e w' ⟨rfl, hb⟩)
                    have HB := Lib.hid (below_self hbw.out hb)
                    clear hb
                    go_wp2_with (fail)
                    go_roundw
                    case rel => exact ⟨d + 1, by go_num, by omega, HB.out⟩
                    case measure => simp [intOf]; omega
                  · have gx : decide (0 < x) = false := decide_eq_false hx
                    clear hx
                    go_wp2_with (fail)
                    go_roundw
                    case rel => exact ⟨d + 1, by go_num, by omega, hbw.out⟩
                    case measure => simp [intOf]; omega
                · have HB := Lib.hid (HV9.out.1.below hbw.out).1
                  go_wp2_with (first | (go_at_call 15; refine (awake_any _).mono ?_; rintro e v7 ⟨rfl, hb⟩; have HM2 := Lib.hid (below_self HB.out hb); clear hb))
                  go_ret
                  exact ⟨rfl, HM2.out⟩
            · have hF0 : F.length = 0 := by omega
              have HB := Lib.hid HV9.out.1.1
              have gF : decide (0 < F.length) = false := decide_eq_false hF
              clear hF hF0
              go_wp2_with (first | (go_at_call 15; refine (awake_any _).mono ?_; rintro e v7 ⟨rfl, hb⟩; have HM2 := Lib.hid (below_self HB.out hb); clear hb))
              go_ret
              exact ⟨rfl, HM2.out⟩
end Go.Proofs.Ytlpfohampfchfaa
