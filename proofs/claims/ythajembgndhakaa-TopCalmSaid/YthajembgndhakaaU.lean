/-
  TopCalm over this seat's program.
  What is proved: it answers true, whatever the bytes and the click; nothing that was there before has turned.
  Conditions: at most 140737488355328 bytes.
-/
import Derived.Test.YthajembgndhakaaS
import Derived.Test.YthajembgndhakaaT
import Derived.Test.YthajembgndhakaaV
import Derived.Deep.CutBlock
namespace Go.Proofs.Ythajembgndhakaa
open Go.RowKit Go.Shelf
attribute [local go_sem] Oper.semAt_some

theorem Try.info27 : (Try.prog.info? 27).map (fun i => (i.zero, i.size, i.bytes)) = some (some (.slice none 0 0), 1, 24) := by kernel_rfl
theorem one_cell {W : World} {b : Nat} {x : Value} {t : TypeId} (h : W.heap[b]? = some (.cells #[x] t (0, 0))) : ∀ j u, [x][j]? = some u → W.cell? ((⟨b, 0, none⟩ : Addr).add j) = some u := by
  intro j u hj
  match j, hj with
  | 0, hj =>
    have e : (⟨b, 0, none⟩ : Addr).add 0 = ⟨b, 0, none⟩ := by unfold Addr.add; split <;> simp_all
    have : x = u := by simpa using hj
    subst this
    rw [e]; exact blk_cell h 0 rfl
  | j + 1, hj => simp at hj

set_option maxRecDepth 100000 in
set_option maxHeartbeats 20000000 in
theorem calm_any (a : Option Addr) (n cap : Nat) (click : Int) (w : World) (hb : BytesAt w a n) (hl : n ≤ 140737488355328) :
    Calls Try.prog 3 #[.slice a n cap, .int .i64 click] w fun e w' => e = .returned (.bool true) ∧ Below w.heap.size w w' := by
  have hmf := hmf
  have HO1 := Lib.hid (of_any a n cap w hb hl)
  clear hb hl
  go_enter Try.func3, Try.ntmps3
  go_wp2_with (fail)
  refine HO1.out.mono ?_
  rintro e w1 ⟨rfl, hD, hb1⟩
  have H1 := Lib.hid (And.intro hD (Apart.of_below (own := fun j => j = w.heap.size) hb1))
  clear hD hb1
  go_wp2_with (fail)
  refine (between_any (w.heap.size) (w.heap.size + 1) a n cap 0 1 9 w1 H1.out.1 (by omega) (by omega)).mono ?_
  rintro e w2 ⟨⟨r1, rfl, hr1⟩, hD, hA⟩
  have H2 := Lib.hid (And.intro hD (H1.out.2.trans hA))
  clear hD hA
  go_wp2_with (fail)
  refine (between_any (w.heap.size) (w.heap.size + 1) a n cap 1 1 5 w2 H2.out.1 (by omega) (by omega)).mono ?_
  rintro e w3 ⟨⟨r2, rfl, hr2⟩, hD, hA⟩
  have H3 := Lib.hid (And.intro hD (H2.out.2.trans hA))
  clear hD hA
  go_wp2_with (fail)
  refine (draw_any (w.heap.size) (w.heap.size + 1) a n cap 2 4 w3 H3.out.1 (by omega) (by omega)).mono ?_
  rintro e w4 ⟨⟨r3, rfl, hr3⟩, hD, hA⟩
  have H4 := Lib.hid (And.intro hD (H3.out.2.trans hA))
  clear hD hA
  go_wp2_with (fail)
  refine (between_any (w.heap.size) (w.heap.size + 1) a n cap 3 (-9) 9 w4 H4.out.1 (by omega) (by omega)).mono ?_
  rintro e w5 ⟨⟨r4, rfl, hr4⟩, hD, hA⟩
  have H5 := Lib.hid (And.intro hD (H4.out.2.trans hA))
  clear hD hA
  obtain ⟨W9, hW9⟩ : ∃ W9, (((w5.alloc (.cells #[.int .i64 r4] 3)).alloc (.cells #[.int .i64 1] 3)).alloc (.cells #[.int .i64 1] 3)).alloc (.cells #[.slice (some ⟨w5.heap.size + 1 + 1, 0, none⟩) 1 1] 27) = W9 := ⟨_, rfl⟩
  have hb9 : Below w5.heap.size w5 W9 := by rw [← hW9]; exact (((alloc1 w5 _).alloc (by simp) _).alloc (by first | (simp; done) | (simp; omega)) _).alloc (by first | (simp; done) | (simp; omega)) _
  have hB5 : w.heap.size < w5.heap.size := by have := H5.out.1.lt; omega
  have d0 : W9.heap[w5.heap.size]? = some (.cells #[.int .i64 r4] 3 (0, 0)) := by
    rw [← hW9]; exact (Below.heap_alloc _ _ _ (by first | (simp; done) | (simp; omega))).trans ((Below.heap_alloc _ _ _ (by first | (simp; done) | (simp; omega))).trans ((Below.heap_alloc _ _ _ (by simp)).trans (heap_alloc_new w5 _)))
  have d1 : W9.heap[w5.heap.size + 1]? = some (.cells #[.int .i64 1] 3 (0, 0)) := by
    rw [← hW9]; refine (Below.heap_alloc _ _ _ (by first | (simp; done) | (simp; omega))).trans ((Below.heap_alloc _ _ _ (by simp)).trans ?_)
    have := heap_alloc_new (w5.alloc (.cells #[.int .i64 r4] 3)) (.cells #[.int .i64 1] 3); simpa using this
  have d2 : W9.heap[w5.heap.size + 1 + 1]? = some (.cells #[.int .i64 1] 3 (0, 0)) := by
    rw [← hW9]; refine (Below.heap_alloc _ _ _ (by simp)).trans ?_
    have := heap_alloc_new ((w5.alloc (.cells #[.int .i64 r4] 3)).alloc (.cells #[.int .i64 1] 3)) (.cells #[.int .i64 1] 3); simpa using this
  have d3 : W9.heap[w5.heap.size + 1 + 1 + 1]? = some (.cells #[.slice (some ⟨w5.heap.size + 1 + 1, 0, none⟩) 1 1] 27 (0, 0)) := by
    rw [← hW9]; have := heap_alloc_new (((w5.alloc (.cells #[.int .i64 r4] 3)).alloc (.cells #[.int .i64 1] 3)).alloc (.cells #[.int .i64 1] 3)) (.cells #[.slice (some ⟨w5.heap.size + 1 + 1, 0, none⟩) 1 1] 27); simpa using this
  have HSH := Lib.hid (shares_any (w.heap.size) (w.heap.size + 1) a n cap 4 5 10 W9 (H5.out.1.below hb9) (by omega) (by omega) (by omega))
  have H9 := Lib.hid (And.intro d0 (And.intro d1 (And.intro d2 (And.intro d3 (H5.out.2.trans (Apart.of_below hb9))))))
  clear hb9 d0 d1 d2 d3
  go_wp2_with (fail)
  refine HSH.out.mono ?_
  rintro e w10 ⟨g, xs, rfl, hgx, hSx, hgl, _, hA⟩
  clear hW9 HSH
  obtain ⟨x0, x1, x2, x3, x4, rfl⟩ := list5 xs hSx.len
  have HS := Lib.hid hSx
  have nb : ∀ j, w5.heap.size ≤ j → j ≠ w.heap.size := fun j hj => by omega
  have kp : ∀ (j : Nat) (o : Obj), w5.heap.size ≤ j → W9.heap[j]? = some o → w10.heap[j]? = some o := fun j o hj ho => (hA.block j (lt_of_block ho) (nb j hj)).trans ho
  have hAA := H9.out.2.2.2.2.trans hA
  have hbw : Below w.heap.size w w10 := ⟨hAA.os, hAA.tape, hAA.output, hAA.size, fun j hj => hAA.block j hj (by show ¬ (j = w.heap.size); omega)⟩
  obtain ⟨W11, hW11⟩ : ∃ W11, w10.alloc (.cells (Rv.arr (⟨calmR r1 r2 r3 r4 [x0, x1, x2, x3, x4], some ⟨g, 0, none⟩, 5, some ⟨w5.heap.size, 0, none⟩, 1, some ⟨w5.heap.size + 1, 0, none⟩, 1, some ⟨w5.heap.size + 1 + 1 + 1, 0, none⟩, 1⟩ : Rv)) 31) = W11 := ⟨_, rfl⟩
  have hb11 : Below w10.heap.size w10 W11 := by rw [← hW11]; exact alloc1 w10 _
  have hrb : W11.heap[w10.heap.size]? = some (.cells (Rv.arr (⟨calmR r1 r2 r3 r4 [x0, x1, x2, x3, x4], some ⟨g, 0, none⟩, 5, some ⟨w5.heap.size, 0, none⟩, 1, some ⟨w5.heap.size + 1, 0, none⟩, 1, some ⟨w5.heap.size + 1 + 1 + 1, 0, none⟩, 1⟩ : Rv)) 31 (0, 0)) := by rw [← hW11]; exact heap_alloc_new w10 _
  have e0 := blk_below (kp _ _ (by omega) H9.out.1) hb11
  have e1 := blk_below (kp _ _ (by omega) H9.out.2.1) hb11
  have e2 := blk_below (kp _ _ (by omega) H9.out.2.2.1) hb11
  have e3 := blk_below (kp _ _ (by omega) H9.out.2.2.2.1) hb11
  have hAt : RgAt W11 (⟨calmR r1 r2 r3 r4 [x0, x1, x2, x3, x4], some ⟨g, 0, none⟩, 5, some ⟨w5.heap.size, 0, none⟩, 1, some ⟨w5.heap.size + 1, 0, none⟩, 1, some ⟨w5.heap.size + 1 + 1 + 1, 0, none⟩, 1⟩ : Rv) := ⟨ints_of_block (blk_below hgx hb11) rfl, ints_of_block e0 rfl, ints_of_block e1 rfl, fun _ => ⟨_, 0, rfl, lt_of_block e3, fun j c hj => by
    match j, hj with
    | 0, hj =>
      have hc : [1] = c := by simpa [calmR] using hj
      subst hc
      exact ⟨some ⟨w5.heap.size + 1 + 1, 0, none⟩, 1, blk_cell e3 0 rfl, ints_of_block e2 rfl⟩
    | j + 1, hj => simp [calmR] at hj⟩⟩
  have H11 := Lib.hid (And.intro hAt (And.intro hrb (hbw.trans (hb11.mono hbw.size))))
  have hr3' : r3 ≤ 3 := by omega
  have ok := calm_ok (rad := r1) (unit := r2) (clicks := r3) (dr := r4) hr1 hr2 ⟨hr3.1, hr3'⟩ hr4 hSx
  have HOK := Lib.hid ok
  have H3B := Lib.hid (And.intro hr3.1 hr3')
  clear hgx hSx hgl hA nb kp hAA hbw hb11 hrb e0 e1 e2 e3 hAt ok hr1 hr2 hr3 hr4 H9
  have hr3 := H3B.out.1
  clear hr3'
  generalize hrbs : w10.heap.size = rb at H11
  have HRB := Lib.hid hrbs
  have hxw : w10.alloc (.cells #[.int .i64 r1, .int .i64 r2, .int .i64 r3, .int .i64 1, .slice (some ⟨g, 0, none⟩) 5 5, .slice (some ⟨w5.heap.size, 0, none⟩) 1 1, .slice (some ⟨w5.heap.size + 1, 0, none⟩) 1 1, .slice (some ⟨w5.heap.size + 1 + 1 + 1, 0, none⟩) 1 1] 31) = W11 := hW11
  clear hW11
  go_wp2_with (fail)
  clear hxw
  have c2 : W11.cell? ⟨rb, 2, none⟩ = some (.int .i64 r3) := blk_cell H11.out.2.1 2 rfl
  have q1 : IntKind.i64.wrap (2 * r3) = 2 * r3 := IntWalk.i64_in _ (by have := H3B.out; omega)
  have q2 : IntKind.i64.wrap (2 * r3 + 1) = 2 * r3 + 1 := IntWalk.i64_in _ (by have := H3B.out; omega)
  have HFD := Lib.hid fun W => fold_any click (2 * r3 + 1) W (by have := H3B.out; omega)
  go_region_held3 (fun w' => w'.cell? ⟨rb, 2, none⟩ = some (.int .i64 r3)) (go_keep)
    (first | (go_at_call 8; refine (HFD.out _).mono ?_; rintro e w12 ⟨⟨r, rfl, hrr⟩, rfl⟩; have HRR := Lib.hid hrr; have qc : IntKind.i64.wrap (r - r3) = r - r3 := IntWalk.i64_in _ (by have := HRR.out; have := H3B.out; omega); clear hrr))
  clear q1 q2 c2 qc HFD
  obtain ⟨c, hc⟩ : ∃ c, r - r3 = c := ⟨_, rfl⟩
  have HC : Hid (-r3 ≤ c ∧ c ≤ r3) := by show _ ∧ _; have := HRR.out; have := H3B.out; omega
  rw [hc]
  clear hc
  obtain ⟨W12, hW12⟩ : ∃ W12, W11.drew = W12 := ⟨_, rfl⟩
  have HM : Hid (RgAt W12 (⟨calmR r1 r2 r3 r4 [x0, x1, x2, x3, x4], some ⟨g, 0, none⟩, 5, some ⟨w5.heap.size, 0, none⟩, 1, some ⟨w5.heap.size + 1, 0, none⟩, 1, some ⟨w5.heap.size + 1 + 1 + 1, 0, none⟩, 1⟩ : Rv) ∧ W12.heap[rb]? = some (.cells (Rv.arr (⟨calmR r1 r2 r3 r4 [x0, x1, x2, x3, x4], some ⟨g, 0, none⟩, 5, some ⟨w5.heap.size, 0, none⟩, 1, some ⟨w5.heap.size + 1, 0, none⟩, 1, some ⟨w5.heap.size + 1 + 1 + 1, 0, none⟩, 1⟩ : Rv)) 31 (0, 0)) ∧ Below w.heap.size w W12) := by
    rw [← hW12]; exact ⟨H11.out.1.below (Below.refl _ _).drew, H11.out.2.1, H11.out.2.2.drew⟩
  rw [hW12]
  clear hW12 H11
  have hcl : HC.out = HC.out := rfl
  clear hcl
  generalize hRR : ((⟨calmR r1 r2 r3 r4 [x0, x1, x2, x3, x4], some ⟨g, 0, none⟩, 5, some ⟨w5.heap.size, 0, none⟩, 1, some ⟨w5.heap.size + 1, 0, none⟩, 1, some ⟨w5.heap.size + 1 + 1 + 1, 0, none⟩, 1⟩ : Rv) : Rv) = R at HM
  have hRr : R.r = calmR r1 r2 r3 r4 [x0, x1, x2, x3, x4] := by rw [← hRR]
  have hRa : Rv.arr R = #[.int .i64 r1, .int .i64 r2, .int .i64 r3, .int .i64 1, .slice (some ⟨g, 0, none⟩) 5 5, .slice (some ⟨w5.heap.size, 0, none⟩) 1 1, .slice (some ⟨w5.heap.size + 1, 0, none⟩) 1 1, .slice (some ⟨w5.heap.size + 1 + 1 + 1, 0, none⟩) 1 1] := by rw [← hRR]; rfl
  have HRa := Lib.hid hRa
  have HRr := Lib.hid hRr
  clear hRR hRa hRr
  -- numbers
  have okR : RgOk R.r := by rw [HRr.out]; exact HOK.out
  have HOR := Lib.hid okR
  have hsum : sumI R.r.group = 10 := by rw [HRr.out]; exact HS.out.sum
  have hpow : (10 : Int) = sumI R.r.group * powI R.r.total 5 := by rw [hsum, HRr.out]; rfl
  have hbadR : ∀ c, badF R.r c = 5 * (10 - hitsR R.r r4 c) := fun c => by rw [HRr.out]; exact calm_bad HS.out HOK.out c
  have hhb : ∀ c, 0 ≤ hitsR R.r r4 c ∧ hitsR R.r r4 c ≤ 10 := fun c => by have := hitsR_bd okR r4 c; rw [hsum] at this; exact this
  have hclk : R.r.clicks = r3 := by rw [HRr.out]; rfl
  have hdr : R.r.drifts[0]?.getD 0 = r4 ∧ 0 < R.r.drifts.length := by rw [HRr.out]; exact ⟨rfl, Nat.zero_lt_one⟩
  obtain ⟨hc1, hc2⟩ := clicksL_in r3 (by have := H3B.out; omega) |> fun h => And.intro h (clicksL_all r3 c (by have := H3B.out; omega) HC.out)
  obtain ⟨Hn, hHn⟩ : ∃ Hn : Nat, hitsR R.r r4 c = Hn := ⟨(hitsR R.r r4 c).toNat, by have := hhb c; omega⟩
  have hwin := wonL_in (badF R.r) (clicksL 0 r3) (clicksL_ne 0 r3) (fun c _ => by rw [hbadR]; have := hhb c; omega)
  have hwle := (wonL_le (badF R.r) (clicksL 0 r3)).2 c hc2
  obtain ⟨bc, hbc⟩ : ∃ bc, (wonL (badF R.r) (clicksL 0 r3)).1 = bc := ⟨_, rfl⟩
  rw [hbc] at hwin
  have hbcb := hc1 bc hwin.1
  obtain ⟨Hb, hHb⟩ : ∃ Hb : Nat, hitsR R.r r4 bc = Hb := ⟨(hitsR R.r r4 bc).toNat, by have := hhb bc; omega⟩
  have hH10 : Hn ≤ 10 := by have := hhb c; omega
  have hHb10 : Hb ≤ 10 := by have := hhb bc; omega
  have hle : Hn ≤ Hb := by rw [← hwin.2, hbadR, hbadR, hHn, hHb] at hwle; omega
  have heq : c = bc → Hn = Hb := fun h => by subst h; omega
  have hE : badF R.r c = ((5 * (10 - Hn) : Nat) : Int) := by rw [hbadR, hHn]; omega
  have hL : (wonL (badF R.r) (clicksL 0 r3)).2 = ((5 * (10 - Hb) : Nat) : Int) := by rw [← hwin.2, hbadR, hHb]; omega
  obtain ⟨nN, nD, hn1, hn2, hn3, hn4, hn5⟩ := rat_ten (5 * (10 - Hn))
  obtain ⟨hN, hD, hh1, hh2, hh3, hh4, hh5⟩ := rat_ten Hn
  obtain ⟨lN, lD, hl1, hl2, hl3, hl4, hl5⟩ := rat_ten (5 * (10 - Hb))
  have HEx := Lib.hid fun W (hA : RgAt W R) => (Expected_ok R c (5 * (10 - Hn)) 10 W hA okR (by rw [hclk]; exact HC.out) hE (by omega) hpow).mono (fun e W' h => (⟨h.1.trans (by rw [ratV, hn1, hn2]), h.2⟩ : e = .returned (.tuple #[.agg #[.int .i64 nN, .int .i64 nD], .int .i64 0]) ∧ Below W.heap.size W W'))
  have HHi := Lib.hid fun W (hA : RgAt W R) => (Hit_ok R 0 c Hn 10 W hA okR hdr.2 (by rw [hclk]; exact HC.out) (by rw [hdr.1]; exact hHn) hsum.symm).mono (fun e W' h => (⟨h.1.trans (by rw [ratV, hh1, hh2]), h.2⟩ : e = .returned (.tuple #[.agg #[.int .i64 hN, .int .i64 hD], .int .i64 0]) ∧ Below W.heap.size W W'))
  have HBe := Lib.hid fun W (hA : RgAt W R) => (Best_ok R (5 * (10 - Hb)) 10 W hA okR (by rw [hclk]; exact hL) (by omega) hpow).mono (fun e W' h => (⟨h.1.trans (by rw [hclk, hbc, ratV, hl1, hl2]), h.2⟩ : e = .returned (.tuple #[.int .i64 bc, .agg #[.int .i64 lN, .int .i64 lD], .int .i64 0]) ∧ Below W.heap.size W W'))
  have HNum := Lib.hid (And.intro hH10 (And.intro hHb10 (And.intro hle (And.intro heq (And.intro hn3 (And.intro hn4 (And.intro hh3 (And.intro hh4 (And.intro hl3 (And.intro hl4 (And.intro hbcb (And.intro hn5 (And.intro hh5 hl5)))))))))))))
  clear okR hsum hpow hbadR hhb hclk hdr hc1 hc2 hHn hwin hwle hbc hHb hH10 hHb10 hle heq hE hL hn1 hn2 hn3 hn4 hh1 hh2 hh3 hh4 hl1 hl2 hl3 hl4 hbcb hn5 hh5 hl5
  have hMb : W12.heap[rb]? = some (.cells (Rv.arr R) 31 (0, 0)) := HM.out.2.1
  rw [HRa.out] at hMb
  have c0 := blk_cell hMb 0 rfl
  have c1 := blk_cell hMb 1 rfl
  have c2 := blk_cell hMb 2 rfl
  have c3 := blk_cell hMb 3 rfl
  have c4 := blk_cell hMb 4 rfl
  have c5 := blk_cell hMb 5 rfl
  have c6 := blk_cell hMb 6 rfl
  have c7 := blk_cell hMb 7 rfl
  clear hMb
  simp only [Rv.v, HRa.out] at HEx HHi HBe
  go_wp2_with (fail)
  refine (HEx.out W12 HM.out.1).mono ?_
  rintro e w13 ⟨rfl, hb⟩
  clear c0 c1 c2 c3 c4 c5 c6 c7
  obtain ⟨bn, hbn⟩ : ∃ bn, w13.heap.size = bn := ⟨_, rfl⟩
  obtain ⟨W14, hW14⟩ : ∃ W14, w13.alloc (.cells #[.int .i64 nN, .int .i64 nD] 33) = W14 := ⟨_, rfl⟩
  have hb2 : Below W12.heap.size W12 W14 := by rw [← hW14]; exact hb.alloc hb.size _
  have hbx : W14.heap[bn]? = some (.cells #[.int .i64 nN, .int .i64 nD] 33 (0, 0)) := by rw [← hW14, ← hbn]; exact heap_alloc_new w13 _
  have MW14 := Lib.hid (And.intro (HM.out.1.below hb2) (And.intro (blk_below HM.out.2.1 hb2) (And.intro (below_self HM.out.2.2 hb2) hbx)))
  clear hb hb2 hbx
  have hMb : W14.heap[rb]? = some (.cells (Rv.arr R) 31 (0, 0)) := MW14.out.2.1
  rw [HRa.out] at hMb
  have c0 := blk_cell hMb 0 rfl
  have c1 := blk_cell hMb 1 rfl
  have c2 := blk_cell hMb 2 rfl
  have c3 := blk_cell hMb 3 rfl
  have c4 := blk_cell hMb 4 rfl
  have c5 := blk_cell hMb 5 rfl
  have c6 := blk_cell hMb 6 rfl
  have c7 := blk_cell hMb 7 rfl
  clear hMb
  go_wp2_with (fail)
  refine (HHi.out W14 MW14.out.1).mono ?_
  rintro e w15 ⟨rfl, hb⟩
  clear c0 c1 c2 c3 c4 c5 c6 c7
  obtain ⟨bh, hbh⟩ : ∃ bh, w15.heap.size = bh := ⟨_, rfl⟩
  obtain ⟨W16, hW16⟩ : ∃ W16, w15.alloc (.cells #[.int .i64 hN, .int .i64 hD] 33) = W16 := ⟨_, rfl⟩
  have hb2 : Below W14.heap.size W14 W16 := by rw [← hW16]; exact hb.alloc hb.size _
  have hbx : W16.heap[bh]? = some (.cells #[.int .i64 hN, .int .i64 hD] 33 (0, 0)) := by rw [← hW16, ← hbh]; exact heap_alloc_new w15 _
  have MW16 := Lib.hid (And.intro (MW14.out.1.below hb2) (And.intro (blk_below MW14.out.2.1 hb2) (And.intro (below_self MW14.out.2.2.1 hb2) (And.intro (blk_below MW14.out.2.2.2 hb2) hbx))))
  clear hb hb2 hbx
  clear hW14 hbn
  have hMb : W16.heap[rb]? = some (.cells (Rv.arr R) 31 (0, 0)) := MW16.out.2.1
  rw [HRa.out] at hMb
  have c0 := blk_cell hMb 0 rfl
  have c1 := blk_cell hMb 1 rfl
  have c2 := blk_cell hMb 2 rfl
  have c3 := blk_cell hMb 3 rfl
  have c4 := blk_cell hMb 4 rfl
  have c5 := blk_cell hMb 5 rfl
  have c6 := blk_cell hMb 6 rfl
  have c7 := blk_cell hMb 7 rfl
  clear hMb
  go_wp2_with (fail)
  refine (HBe.out W16 MW16.out.1).mono ?_
  rintro e w17 ⟨rfl, hb⟩
  clear c0 c1 c2 c3 c4 c5 c6 c7
  obtain ⟨bl, hbl⟩ : ∃ bl, w17.heap.size = bl := ⟨_, rfl⟩
  obtain ⟨W18, hW18⟩ : ∃ W18, w17.alloc (.cells #[.int .i64 lN, .int .i64 lD] 33) = W18 := ⟨_, rfl⟩
  have hb2 : Below W16.heap.size W16 W18 := by rw [← hW18]; exact hb.alloc hb.size _
  have hbx : W18.heap[bl]? = some (.cells #[.int .i64 lN, .int .i64 lD] 33 (0, 0)) := by rw [← hW18, ← hbl]; exact heap_alloc_new w17 _
  have MW18 := Lib.hid (And.intro (MW16.out.1.below hb2) (And.intro (blk_below MW16.out.2.1 hb2) (And.intro (below_self MW16.out.2.2.1 hb2) (And.intro (blk_below MW16.out.2.2.2.1 hb2) (And.intro (blk_below MW16.out.2.2.2.2 hb2) hbx)))))
  clear hb hb2 hbx
  clear hW16 hbh
  have hMb : W18.heap[rb]? = some (.cells (Rv.arr R) 31 (0, 0)) := MW18.out.2.1
  rw [HRa.out] at hMb
  have c2 := blk_cell hMb 2 rfl
  have u0 := blk_cell MW18.out.2.2.2.1 0 rfl
  have u1 := blk_cell MW18.out.2.2.2.1 1 rfl
  have v0 := blk_cell MW18.out.2.2.2.2.1 0 rfl
  have v1 := blk_cell MW18.out.2.2.2.2.1 1 rfl
  have l0 := blk_cell MW18.out.2.2.2.2.2 0 rfl
  have l1 := blk_cell MW18.out.2.2.2.2.2 1 rfl
  clear hMb
  have hn4 := HNum.out.2.2.2.2.2.1
  have hh4 := HNum.out.2.2.2.2.2.2.2.1
  have hl4 := HNum.out.2.2.2.2.2.2.2.2.2.1
  have hbc := HNum.out.2.2.2.2.2.2.2.2.2.2.1
  have a1 : decide (nD < 1) = false := decide_eq_false (by omega)
  have a2 : decide (100 < nD) = false := decide_eq_false (by omega)
  have a3 : decide (hD < 1) = false := decide_eq_false (by omega)
  have a4 : decide (100 < hD) = false := decide_eq_false (by omega)
  have a5' : decide (lD < 1) = false := decide_eq_false (by omega)
  have a6 : decide (100 < lD) = false := decide_eq_false (by omega)
  have a7 : ¬ (hD = 0) := by omega
  have a8 : Int.tmod 1000 hD = 0 := by rcases hh4 with h | h | h | h <;> rw [h] <;> rfl
  have a9 : (1000 : Int) % hD = 0 := by rcases hh4 with h | h | h | h <;> rw [h] <;> rfl
  have q7 : IntKind.i64.wrap (-r3) = -r3 := IntWalk.i64_in _ (by have := H3B.out; omega)
  have a10 : decide (bc < -r3) = false := decide_eq_false (by omega)
  have a11 : decide (r3 < bc) = false := decide_eq_false (by omega)
  clear hn4 hh4 hl4 hbc
  go_upto_region 9 with (fail)
  clear a1 a2 a3 a4 a5' a6 a8 a9 q7 a10 a11 u0 u1 l0 l1 c2
  obtain ⟨q, hq⟩ : ∃ q, Int.tdiv 1000 hD = q := ⟨_, rfl⟩
  have hq' : (1000 : Int) / hD = q := by rw [← hq, Int.tdiv_eq_ediv_of_nonneg (by omega)]
  have hqb : 0 ≤ q ∧ q ≤ 1000 := by
    have h := HNum.out.2.2.2.2.2.2.2.1
    rw [← hq']
    rcases h with h | h | h | h <;> rw [h] <;> decide
  have wq : IntKind.i64.wrap q = q := IntWalk.i64_in _ (by omega)
  have hpq : hN * q = 100 * Hn := by
    have h := HNum.out.2.2.2.2.2.2.2.1
    have h2 := HNum.out.2.2.2.2.2.2.1
    have hdq : hD * q = 1000 := by rw [← hq']; rcases h with h | h | h | h <;> rw [h] <;> rfl
    have h3 : hN * 10 * q = Hn * hD * q := by rw [h2]
    rw [Int.mul_assoc Hn, hdq, Int.mul_right_comm] at h3
    omega
  obtain ⟨p, hp⟩ : ∃ p, hN * q = p := ⟨_, rfl⟩
  rw [hp] at hpq
  obtain ⟨ms, hms⟩ : ∃ ms, 1000 - p = ms := ⟨_, rfl⟩
  have hmv : ms = 100 * (10 - (Hn : Int)) := by omega
  have hH10 := HNum.out.1
  have wp : IntKind.i64.wrap (hN * q) = p := by rw [hp]; exact IntWalk.i64_in _ (by omega)
  have wm : IntKind.i64.wrap (1000 - p) = ms := by rw [hms]; exact IntWalk.i64_in _ (by omega)
  have HMS := Lib.hid hmv
  clear hqb hpq hmv hH10 hp hms
  go_region_held3 (fun w' => w'.cell? ⟨bh, 0, none⟩ = some (.int .i64 hN) ∧ w'.cell? ⟨bh, 1, none⟩ = some (.int .i64 hD)) (go_keep) (fail)
  clear hq hq' wq wp wm v0 v1 a7
  obtain ⟨W19, hW19⟩ : ∃ W19, W18.drew = W19 := ⟨_, rfl⟩
  have hb19 : Below W18.heap.size W18 W19 := by rw [← hW19]; exact (Below.refl _ _).drew
  have M19 := Lib.hid (And.intro (MW18.out.1.below hb19) (And.intro (blk_below MW18.out.2.1 hb19) (And.intro (below_self MW18.out.2.2.1 hb19) (And.intro (blk_below MW18.out.2.2.2.1 hb19) (And.intro (blk_below MW18.out.2.2.2.2.1 hb19) (blk_below MW18.out.2.2.2.2.2 hb19))))))
  rw [hW19]
  clear hW19 hb19 MW18 hW18 hbl
  obtain ⟨i0, hi, hz0, hz1, hz2⟩ := info_parts Try.info3
  obtain ⟨j0, ji, jz0, jz1, jz2⟩ := info_parts Try.info27
  go_wp2_with (fail)
  go_loopw [16, 17, 134] (fun v0 u0 i wr => ∃ (k : Nat) (RR : List Rw) (v u : Value), v = v0 ∧ u = u0 ∧ k ≤ 5 ∧ i = .int .i64 k ∧ Hid (AW W19 k k v u RR wr ∧ RR.map (·.2.2) = List.replicate k [ms])) (fun _ _ i _ => 5 - (intOf i).toNat)
  case atStart => exact ⟨0, [], _, _, rfl, rfl, Nat.zero_le _, rfl, ⟨Below.refl _ _, ⟨rfl, .inl ⟨rfl, rfl⟩⟩, ⟨rfl, .inl ⟨rfl, rfl⟩⟩, ⟨fun x hx => (by simp at hx), by simp⟩, fun x hx => (by simp at hx)⟩, rfl⟩
  case round =>
    obtain ⟨k, RR, v, u, rfl, rfl, hk, rfl, HA⟩ := hrel
    by_cases hlt : k < 5
    · have g5 : decide ((k : Int) < 5) = true := decide_eq_true (by omega)
      obtain ⟨Wx, hWx⟩ : ∃ Wx, (wr.alloc (.cells #[.int .i64 ms] 3)).alloc (.cells #[.slice (some ⟨wr.heap.size, 0, none⟩) 1 1] 27) = Wx := ⟨_, rfl⟩
      have hbx : Below wr.heap.size wr Wx := by rw [← hWx]; exact (alloc1 wr _).alloc (by simp) _
      have hx0 : Wx.heap[wr.heap.size]? = some (.cells #[.int .i64 ms] 3 (0, 0)) := by rw [← hWx]; exact (Below.heap_alloc _ _ _ (by simp)).trans (heap_alloc_new wr _)
      have hx1 : Wx.heap[wr.heap.size + 1]? = some (.cells #[.slice (some ⟨wr.heap.size, 0, none⟩) 1 1] 27 (0, 0)) := by
        rw [← hWx]; have := heap_alloc_new (wr.alloc (.cells #[.int .i64 ms] 3)) (.cells #[.slice (some ⟨wr.heap.size, 0, none⟩) 1 1] 27); simpa using this
      have hsz : Wx.heap.size = wr.heap.size + 2 := by rw [← hWx]; simp
      have HB := Lib.hid (And.intro (HA.out.1.below hbx) (And.intro hx0 (And.intro (one_cell hx1) hsz)))
      have hul : ∀ i, u.ownBlock = some i → i < wr.heap.size := fun i hi => (HA.out.1.uv.lt i hi).2
      have HU := Lib.hid hul
      clear hbx hx0 hx1 hsz hul
      go_wp2_with (at_builtin; refine wpList_append_lies _ rfl (.tmp 136) (.tmp 139) 28 rfl W19.heap.size 27 j0 (.slice none 0 0) 1 24 Try.underlying28 ji jz0 jz1 jz2 rfl (by decide) v k (RR.map rowV) rfl HB.out.1.av ⟨wr.heap.size + 1, 0, none⟩ 1 1 [.slice (some ⟨wr.heap.size, 0, none⟩) 1 1] rfl rfl HB.out.2.2.1 (by intro x hx; simp at hx; subst hx; rfl) (by decide) (by unfold maxLen; omega) (by omega) (by have := HB.out.2.2.2; have := HA.out.1.b.size; omega) _ rfl ?_)
      intro g1 cap1 w20 hown hgrow hat _
      have HC1 := Lib.hid (HB.out.1.pushA HB.out.2.1 HA.out.1.b.size (fun he => by have := HU.out _ he; omega) (fun x hx he => by have := (row_at (HA.out.1.rw.own x hx)).2.1; omega) hown hgrow)
      clear hown hgrow hat hWx
      have HC2 := Lib.hid (HC1.out.below (alloc1 w20 (.cells #[.int .i64 0] 3)))
      go_wp2_with (at_builtin; refine wpList_append_lies _ rfl (.tmp 141) (.tmp 142) 27 rfl W19.heap.size 3 i0 (.int .i64 0) 1 8 Try.underlying27 hi hz0 hz1 hz2 rfl (by decide) u k (List.replicate k (.int .i64 0)) rfl HC2.out.uv ⟨w20.heap.size, 0, none⟩ 1 1 [.int .i64 0] rfl rfl (one_cell (heap_alloc_new w20 _)) (by intro x hx; simp at hx; subst hx; rfl) (by decide) (by unfold maxLen; omega) (by omega) (by have := HC1.out.b.size; rw [World.size_alloc]; omega) _ rfl ?_)
      intro g2 cap2 w21 hown hgrow hat _
      have HC3 := Lib.hid (HC2.out.pushU hown hgrow hat (World.size_alloc _ _))
      clear hown hgrow hat
      go_wp2_with (fail)
      go_roundw
      case rel => exact ⟨k + 1, RR ++ [(wr.heap.size, 1, [ms])], _, _, rfl, rfl, by omega, by go_num, HC3.out, by rw [List.map_append, HA.out.2, List.replicate_succ']; rfl⟩
      case measure => first | (simp [intOf]; done) | (simp [intOf]; omega)
    · have hk5 : k = 5 := by omega
      subst hk5
      have gf : decide (((5 : Nat) : Int) < 5) = false := rfl
      obtain ⟨gA, capA, rfl, hgA, _⟩ := HA.out.1.av.form (by omega)
      obtain ⟨gU, capU, rfl, hgU, _⟩ := HA.out.1.uv.form (by omega)
      have hR5 : RR.map (·.2.2) = b5 ms := HA.out.2
      have hSl := sls_of_rows HA.out.1.av HA.out.1.rw
      rw [hR5] at hSl
      obtain ⟨aU, cU, hUv, hIU, _⟩ := ints_of_owns (ys := [0, 0, 0, 0, 0]) HA.out.1.uv
      have hms : 0 ≤ ms ∧ ms ≤ 1000 := by have := HMS.out; have := HNum.out.1; omega
      simp only [Value.slice.injEq] at hUv
      obtain ⟨rfl, _, rfl⟩ := hUv
      have HMi := Lib.hid (Misses_ok (some ⟨gA, 0, none⟩) (b5 ms) capA (some ⟨gU, 0, none⟩) [0, 0, 0, 0, 0] capU wr hSl hIU (one_ok ms hms) (one_waits ms))
      have hmm : msTo (b5 ms) [0, 0, 0, 0, 0] (b5 ms).length = 5 * ms := one_misses ms
      rw [hmm] at HMi
      have HM2 := Lib.hid hms
      clear hSl hIU hmm hms hR5
      go_wp2_with (fail)
      refine HMi.out.mono ?_
      rintro e w22 ⟨rfl, hb22⟩
      have HA2 := Lib.hid (And.intro (HA.out.1.below hb22) HA.out.2)
      clear hb22 HMi
      -- the fractions
      have hAb := HA2.out.1.b
      have u0 := blk_cell (blk_below M19.out.2.2.2.1 hAb) 0 rfl
      have u1 := blk_cell (blk_below M19.out.2.2.2.1 hAb) 1 rfl
      have l0 := blk_cell (blk_below M19.out.2.2.2.2.2 hAb) 0 rfl
      have l1 := blk_cell (blk_below M19.out.2.2.2.2.2 hAb) 1 rfl
      obtain ⟨mm, hmm⟩ : ∃ mm, 5 * ms = mm := ⟨_, rfl⟩
      rw [hmm]
      obtain ⟨X, hX⟩ : ∃ X, mm * nD = X := ⟨_, rfl⟩
      obtain ⟨Y, hY⟩ : ∃ Y, mm * lD = Y := ⟨_, rfl⟩
      obtain ⟨Z, hZ⟩ : ∃ Z, 1000 * lN = Z := ⟨_, rfl⟩
      have hnum : 1000 * nN = X ∧ Z ≤ Y ∧ (c = bc → Y = Z) ∧ (0 ≤ X ∧ X ≤ 100000) ∧ (0 ≤ Y ∧ Y ≤ 100000) ∧ (0 ≤ Z ∧ Z ≤ 100000) := by
        obtain ⟨h1, h2, h3, h4, h5, h6, h7, h8, h9, h10, h11, h12, h13, h14⟩ := HNum.out
        have hm := HMS.out
        rw [← hX, ← hY, ← hZ, ← hmm, hm]
        refine ⟨?_, ?_, fun he => ?_, ?_, ?_, ?_⟩
        · rcases h6 with h | h | h | h <;> rw [h] at h5 ⊢ <;> omega
        · rcases h10 with h | h | h | h <;> rw [h] at h9 ⊢ <;> omega
        · have h15 := h4 he
          rcases h10 with h | h | h | h <;> rw [h] at h9 ⊢ <;> omega
        · rcases h6 with h | h | h | h <;> rw [h] <;> omega
        · rcases h10 with h | h | h | h <;> rw [h] <;> omega
        · rcases h10 with h | h | h | h <;> rw [h] at h9 <;> omega
      have p1 : IntKind.i64.wrap (mm * nD) = X := by rw [hX]; exact IntWalk.i64_in _ (by omega)
      have p2 : IntKind.i64.wrap (1000 * nN) = X := by rw [hnum.1]; exact IntWalk.i64_in _ (by omega)
      have p3 : IntKind.i64.wrap (mm * lD) = Y := by rw [hY]; exact IntWalk.i64_in _ (by omega)
      have p4 : IntKind.i64.wrap (1000 * lN) = Z := by rw [hZ]; exact IntWalk.i64_in _ (by omega)
      have p5 : decide (Y < Z) = false := decide_eq_false (by omega)
      have p6 : (decide (c = bc) && !decide (Y = Z)) = false := by
        by_cases h : c = bc
        · simp [h, hnum.2.2.1 h]
        · simp [h]
      have HMM := Lib.hid hmm
      clear hX hY hZ hnum hAb hmm
      by_cases hcb : c = bc
      · subst hcb
        have hYZ : Y = Z := by simpa using p6
        subst hYZ
        clear p6
        go_wp2_with (fail)
        obtain ⟨hf, hhf⟩ : ∃ hf, ms.tdiv 2 = hf := ⟨_, rfl⟩
        have hhf' : ms / 2 = hf := by rw [← hhf, Int.tdiv_eq_ediv_of_nonneg HM2.out.1]
        have hfb : 0 ≤ hf ∧ hf ≤ ms := by have := HM2.out; omega
        obtain ⟨mq, hmq⟩ : ∃ mq, ms - hf = mq := ⟨_, rfl⟩
        have hmqb : 0 ≤ mq ∧ mq ≤ ms := by omega
        have s1 : IntKind.i64.wrap hf = hf := IntWalk.i64_in _ (by have := HM2.out; omega)
        have s2 : IntKind.i64.wrap (ms - hf) = mq := by rw [hmq]; exact IntWalk.i64_in _ (by have := HM2.out; omega)
        have HQB := Lib.hid hmqb
        clear hfb hmqb hmq
        go_loopw [190] (fun i wr => ∃ (k : Nat) (RQ : List Rw), k ≤ 5 ∧ i = .int .i64 k ∧ Hid (AX W19 gA 5 capA RQ wr ∧ RQ.map (·.2.2) = List.replicate k [ms, mq] ++ List.replicate (5 - k) [ms])) (fun i _ => 5 - (intOf i).toNat)
        case atStart => exact ⟨0, RR, Nat.zero_le _, rfl, ⟨HA2.out.1.b, HA2.out.1.av, RowsI.of HA2.out.1.rw⟩, HA2.out.2⟩
        case round =>
          obtain ⟨k, RQ, hk, rfl, HQ⟩ := hrel
          by_cases hlt : k < 5
          · have g5 : decide ((k : Int) < 5) = true := decide_eq_true (by omega)
            have g6 : (k : Int) < 5 := by omega
            obtain ⟨x, hx, hxl⟩ : ∃ x, RQ[k]? = some x ∧ x.2.2 = [ms] := by
              have h := congrArg (fun l => l[k]?) HQ.out.2
              simp only [List.getElem?_map] at h
              rw [List.getElem?_append_right (by simp), List.getElem?_replicate, if_pos (by simp; omega)] at h
              cases hx : RQ[k]? with
              | none => rw [hx] at h; cases h
              | some x => rw [hx] at h; exact ⟨x, rfl, by simpa using h⟩
            obtain ⟨gx, cx, lx⟩ := x
            simp only at hxl
            subst hxl
            have cA := HQ.out.1.cell hx
            simp only [rowV, List.length_cons, List.length_nil] at cA
            obtain ⟨Wx, hWx⟩ : ∃ Wx, wr.alloc (.cells #[.int .i64 mq] 3) = Wx := ⟨_, rfl⟩
            have hbx : Below wr.heap.size wr Wx := by rw [← hWx]; exact alloc1 wr _
            have hx0 : Wx.heap[wr.heap.size]? = some (.cells #[.int .i64 mq] 3 (0, 0)) := by rw [← hWx]; exact heap_alloc_new wr _
            have HB := Lib.hid (And.intro (HQ.out.1.below hbx) (And.intro (one_cell hx0) hx))
            clear hbx hx0 hx
            go_wp2_with (at_builtin; refine wpList_append_lies _ rfl (.tmp 198) (.tmp 203) 27 rfl W19.heap.size 3 i0 (.int .i64 0) 1 8 Try.underlying27 hi hz0 hz1 hz2 rfl (by decide) (.slice (some ⟨gx, 0, none⟩) 1 cx) 1 [.int .i64 ms] rfl (HB.out.1.rw.own k _ HB.out.2.2) ⟨wr.heap.size, 0, none⟩ 1 1 [.int .i64 mq] rfl rfl HB.out.2.1 (by intro x hx; simp at hx; subst hx; rfl) (by decide) (by unfold maxLen; omega) (by omega) HB.out.1.b.size _ rfl ?_)
            intro g9 cap9 w30 hown hgrow hat _
            have HS9 := Lib.hid (HB.out.1.slot HB.out.2.2 hgrow)
            have HN9 := Lib.hid (HB.out.1.step (l := [ms, mq]) (g' := g9) (cap' := cap9) HB.out.2.2 hown hgrow (by simpa [Value.ownBlock] using hat))
            clear hown hgrow hat hWx cA
            have cB := HS9.out.1
            have fB := HS9.out.2
            simp only [rowV, List.length_cons, List.length_nil] at cB
            go_wp2_with (fail)
            clear cB fB
            go_roundw
            case rel => exact ⟨k + 1, RQ.set k (g9, cap9, [ms, mq]), by omega, by go_num, HN9.out, by
              rw [List.map_set, HQ.out.2]
              have : k = 0 ∨ k = 1 ∨ k = 2 ∨ k = 3 ∨ k = 4 := by omega
              rcases this with rfl | rfl | rfl | rfl | rfl <;> rfl⟩
            case measure => first | (simp [intOf]; done) | (simp [intOf]; omega)
          · have hk5 : k = 5 := by omega
            subst hk5
            have gf5 : decide (((5 : Nat) : Int) < 5) = false := rfl
            have hsl := HQ.out.1.sls
            have hRQ : RQ.map (·.2.2) = a5 ms mq := HQ.out.2
            rw [hRQ] at hsl
            have ok5 := five_ok ms mq ⟨HQB.out.1, HQB.out.2, HM2.out.2⟩
            have B1 := Lib.hid ((rBest_ok (some ⟨gA, 0, none⟩) (a5 ms mq) capA 5 wr hsl ok5 (by omega)).mono (fun e W' ⟨g, h1, h2, h3⟩ => (⟨g, h1.trans (by rw [(rounds_five ms mq).1]; rw [show (a5 ms mq).length = 5 from rfl, iter_five ms mq HQB.out.2]), h3⟩ : ∃ g, e = Ending.returned (.tuple #[.slice (some ⟨g, 0, none⟩) 5 5, .int .i64 (5 * mq), .int .i64 0]) ∧ Below wr.heap.size wr W')))
            have B2 := Lib.hid fun W (hW : Below wr.heap.size wr W) => (rBest_ok (some ⟨gA, 0, none⟩) (a5 ms mq) capA 0 W (hsl.below hW) ok5 (by omega)).mono (fun e W' ⟨g, h1, h2, h3⟩ => (⟨g, h1.trans (by rw [(rounds_five ms mq).2]; rw [show (a5 ms mq).length = 5 from rfl, iter_none ms mq, HMM.out]), h3⟩ : ∃ g, e = Ending.returned (.tuple #[.slice (some ⟨g, 0, none⟩) 5 5, .int .i64 mm, .int .i64 0]) ∧ Below W.heap.size W W'))
            obtain ⟨m5, hm5⟩ : ∃ m5, 5 * mq = m5 := ⟨_, rfl⟩
            have s3 : IntKind.i64.wrap (5 * mq) = m5 := by rw [hm5]; exact IntWalk.i64_in _ (by have := HQB.out; have := HM2.out; omega)
            have HBL := Lib.hid (below_self M19.out.2.2.1 (HQ.out.1.b))
            clear hsl hRQ ok5
            rw [hm5] at B1
            clear hm5
            go_wp2_with (fail)
            refine B1.out.mono ?_
            rintro e w31 ⟨g31, rfl, hb31⟩
            have HB31 := Lib.hid hb31
            clear hb31 B1
            go_wp2_with (fail)
            refine (B2.out _ HB31.out).mono ?_
            rintro e w32 ⟨g32, rfl, hb32⟩
            have HB32 : Hid (Below w.heap.size w w32) := HBL.out.trans ((below_self HB31.out hb32).mono HBL.out.size)
            clear hb32 B2
            go_wp2_with (fail)
            go_ret
            exact ⟨rfl, HB32.out⟩
      · skip
        go_wp2_with (fail)
        obtain ⟨hf, hhf⟩ : ∃ hf, ms.tdiv 2 = hf := ⟨_, rfl⟩
        have hhf' : ms / 2 = hf := by rw [← hhf, Int.tdiv_eq_ediv_of_nonneg HM2.out.1]
        have hfb : 0 ≤ hf ∧ hf ≤ ms := by have := HM2.out; omega
        obtain ⟨mq, hmq⟩ : ∃ mq, ms - hf = mq := ⟨_, rfl⟩
        have hmqb : 0 ≤ mq ∧ mq ≤ ms := by omega
        have s1 : IntKind.i64.wrap hf = hf := IntWalk.i64_in _ (by have := HM2.out; omega)
        have s2 : IntKind.i64.wrap (ms - hf) = mq := by rw [hmq]; exact IntWalk.i64_in _ (by have := HM2.out; omega)
        have HQB := Lib.hid hmqb
        clear hfb hmqb hmq
        go_loopw [190] (fun i wr => ∃ (k : Nat) (RQ : List Rw), k ≤ 5 ∧ i = .int .i64 k ∧ Hid (AX W19 gA 5 capA RQ wr ∧ RQ.map (·.2.2) = List.replicate k [ms, mq] ++ List.replicate (5 - k) [ms])) (fun i _ => 5 - (intOf i).toNat)
        case atStart => exact ⟨0, RR, Nat.zero_le _, rfl, ⟨HA2.out.1.b, HA2.out.1.av, RowsI.of HA2.out.1.rw⟩, HA2.out.2⟩
        case round =>
          obtain ⟨k, RQ, hk, rfl, HQ⟩ := hrel
          by_cases hlt : k < 5
          · have g5 : decide ((k : Int) < 5) = true := decide_eq_true (by omega)
            have g6 : (k : Int) < 5 := by omega
            obtain ⟨x, hx, hxl⟩ : ∃ x, RQ[k]? = some x ∧ x.2.2 = [ms] := by
              have h := congrArg (fun l => l[k]?) HQ.out.2
              simp only [List.getElem?_map] at h
              rw [List.getElem?_append_right (by simp), List.getElem?_replicate, if_pos (by simp; omega)] at h
              cases hx : RQ[k]? with
              | none => rw [hx] at h; cases h
              | some x => rw [hx] at h; exact ⟨x, rfl, by simpa using h⟩
            obtain ⟨gx, cx, lx⟩ := x
            simp only at hxl
            subst hxl
            have cA := HQ.out.1.cell hx
            simp only [rowV, List.length_cons, List.length_nil] at cA
            obtain ⟨Wx, hWx⟩ : ∃ Wx, wr.alloc (.cells #[.int .i64 mq] 3) = Wx := ⟨_, rfl⟩
            have hbx : Below wr.heap.size wr Wx := by rw [← hWx]; exact alloc1 wr _
            have hx0 : Wx.heap[wr.heap.size]? = some (.cells #[.int .i64 mq] 3 (0, 0)) := by rw [← hWx]; exact heap_alloc_new wr _
            have HB := Lib.hid (And.intro (HQ.out.1.below hbx) (And.intro (one_cell hx0) hx))
            clear hbx hx0 hx
            go_wp2_with (at_builtin; refine wpList_append_lies _ rfl (.tmp 198) (.tmp 203) 27 rfl W19.heap.size 3 i0 (.int .i64 0) 1 8 Try.underlying27 hi hz0 hz1 hz2 rfl (by decide) (.slice (some ⟨gx, 0, none⟩) 1 cx) 1 [.int .i64 ms] rfl (HB.out.1.rw.own k _ HB.out.2.2) ⟨wr.heap.size, 0, none⟩ 1 1 [.int .i64 mq] rfl rfl HB.out.2.1 (by intro x hx; simp at hx; subst hx; rfl) (by decide) (by unfold maxLen; omega) (by omega) HB.out.1.b.size _ rfl ?_)
            intro g9 cap9 w30 hown hgrow hat _
            have HS9 := Lib.hid (HB.out.1.slot HB.out.2.2 hgrow)
            have HN9 := Lib.hid (HB.out.1.step (l := [ms, mq]) (g' := g9) (cap' := cap9) HB.out.2.2 hown hgrow (by simpa [Value.ownBlock] using hat))
            clear hown hgrow hat hWx cA
            have cB := HS9.out.1
            have fB := HS9.out.2
            simp only [rowV, List.length_cons, List.length_nil] at cB
            go_wp2_with (fail)
            clear cB fB
            go_roundw
            case rel => exact ⟨k + 1, RQ.set k (g9, cap9, [ms, mq]), by omega, by go_num, HN9.out, by
              rw [List.map_set, HQ.out.2]
              have : k = 0 ∨ k = 1 ∨ k = 2 ∨ k = 3 ∨ k = 4 := by omega
              rcases this with rfl | rfl | rfl | rfl | rfl <;> rfl⟩
            case measure => first | (simp [intOf]; done) | (simp [intOf]; omega)
          · have hk5 : k = 5 := by omega
            subst hk5
            have gf5 : decide (((5 : Nat) : Int) < 5) = false := rfl
            have hsl := HQ.out.1.sls
            have hRQ : RQ.map (·.2.2) = a5 ms mq := HQ.out.2
            rw [hRQ] at hsl
            have ok5 := five_ok ms mq ⟨HQB.out.1, HQB.out.2, HM2.out.2⟩
            have B1 := Lib.hid ((rBest_ok (some ⟨gA, 0, none⟩) (a5 ms mq) capA 5 wr hsl ok5 (by omega)).mono (fun e W' ⟨g, h1, h2, h3⟩ => (⟨g, h1.trans (by rw [(rounds_five ms mq).1]; rw [show (a5 ms mq).length = 5 from rfl, iter_five ms mq HQB.out.2]), h3⟩ : ∃ g, e = Ending.returned (.tuple #[.slice (some ⟨g, 0, none⟩) 5 5, .int .i64 (5 * mq), .int .i64 0]) ∧ Below wr.heap.size wr W')))
            have B2 := Lib.hid fun W (hW : Below wr.heap.size wr W) => (rBest_ok (some ⟨gA, 0, none⟩) (a5 ms mq) capA 0 W (hsl.below hW) ok5 (by omega)).mono (fun e W' ⟨g, h1, h2, h3⟩ => (⟨g, h1.trans (by rw [(rounds_five ms mq).2]; rw [show (a5 ms mq).length = 5 from rfl, iter_none ms mq, HMM.out]), h3⟩ : ∃ g, e = Ending.returned (.tuple #[.slice (some ⟨g, 0, none⟩) 5 5, .int .i64 mm, .int .i64 0]) ∧ Below W.heap.size W W'))
            obtain ⟨m5, hm5⟩ : ∃ m5, 5 * mq = m5 := ⟨_, rfl⟩
            have s3 : IntKind.i64.wrap (5 * mq) = m5 := by rw [hm5]; exact IntWalk.i64_in _ (by have := HQB.out; have := HM2.out; omega)
            have HBL := Lib.hid (below_self M19.out.2.2.1 (HQ.out.1.b))
            clear hsl hRQ ok5
            rw [hm5] at B1
            clear hm5
            go_wp2_with (fail)
            refine B1.out.mono ?_
            rintro e w31 ⟨g31, rfl, hb31⟩
            have HB31 := Lib.hid hb31
            clear hb31 B1
            go_wp2_with (fail)
            refine (B2.out _ HB31.out).mono ?_
            rintro e w32 ⟨g32, rfl, hb32⟩
            have HB32 : Hid (Below w.heap.size w w32) := HBL.out.trans ((below_self HB31.out hb32).mono HBL.out.size)
            clear hb32 B2
            go_wp2_with (fail)
            go_ret
            exact ⟨rfl, HB32.out⟩
end Go.Proofs.Ythajembgndhakaa
