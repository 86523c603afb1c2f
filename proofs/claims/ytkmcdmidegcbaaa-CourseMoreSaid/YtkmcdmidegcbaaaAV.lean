/-
  The contract of MadeWinter over this seat's program.
  What is proved: the winter that is dealt is a valid one, of at most so many days.
  Conditions: a deck that has dealt at most 1000 times; at most 30 days.
-/
import Derived.Test.YtkmcdmidegcbaaaAU
namespace Go.Proofs.Ytkmcdmidegcbaaa
open Go.RowKit Go.Shelf
attribute [local go_sem] Oper.semAt_some

/-- What MadeWinter hands back. -/
def OutMade (w : World) (B L : Nat) (a : Option Addr) (n cap k : Nat) (days : Int) (e : Ending) (w' : World) : Prop := ∃ (stock store : Int) (ad : Option Addr) (ds : List Dy) (cp : Nat),
  e = .returned (wv stock store ad ds.length cp) ∧ Sl 6 Dy.cells w' ad ds ∧ (20 ≤ store ∧ store ≤ 200) ∧ (0 ≤ stock ∧ stock ≤ store) ∧ (1 ≤ ds.length ∧ ds.length ≤ days) ∧ (∀ d ∈ ds, SmallDay d) ∧ Deck w' B L a n cap (k + 500) ∧ Apart (fun j => j = B) w w' ∧ (∀ p, ad = some p → w.heap.size ≤ p.block)

set_option maxRecDepth 100000 in
set_option maxHeartbeats 1000000 in
theorem made_any (B L : Nat) (a : Option Addr) (n cap k : Nat) (days : Int) (w : World) (hd : Deck w B L a n cap k) (hk : k ≤ 1000) (hdays : 1 ≤ days ∧ days ≤ 30) :
    Calls Try.prog 48 #[.pointer (some ⟨B, 0, none⟩), .int .i64 days] w (OutMade w B L a n cap k days) := by
  have HD := Lib.hid hd
  have HK := Lib.hid hk
  have HDY := Lib.hid hdays
  clear hd hk
  go_enter Try.func48, Try.ntmps48
  go_wp2_with (fail)
  have hb0 := alloc1 w (.cells #[.int .i64 0, .int .i64 0, .slice none 0 0] 60)
  refine (between_any B L a n cap k 20 200 _ (HD.out.below hb0) (by have := HK.out; omega) ⟨by omega, by omega, by omega⟩).mono ?_
  rintro e w1 ⟨⟨store, rfl, hs0, hs1⟩, hD, hA⟩
  have HS := Lib.hid (And.intro hs0 hs1)
  have H1 : Hid (Deck w1 B L a n cap (k + 1) ∧ Apart (fun j => j = B) w w1 ∧ w1.heap[w.heap.size]? = some (.cells #[.int .i64 0, .int .i64 0, .slice none 0 0] 60 (0, 0))) :=
    ⟨hD, (Apart.of_below hb0).trans hA, (hA.block _ (by simp) (by have := HD.out.lt; omega)).trans (heap_alloc_new w _)⟩
  clear hD hA hb0
  have hwst : IntKind.i64.wrap (store + 1) = store + 1 := IntWalk.i64_in _ (by omega)
  go_wp2_with (fail)
  have hb1 := alloc1 w1 (.cells #[.int .i64 0, .int .i64 store, .slice none 0 0] 60)
  have hlt1 := lt_of_block H1.out.2.2
  have hBL := HD.out.lt
  refine (draw_any B L a n cap (k + 1) (store + 1) _ (H1.out.1.below hb1) (by have := HK.out; omega) (by omega)).mono ?_
  rintro e w2 ⟨⟨stock, rfl, hr0, hr1⟩, hD, hA⟩
  have HS2 : Hid (0 ≤ stock ∧ stock ≤ store) := ⟨hr0, by omega⟩
  have H2 : Hid (Deck w2 B L a n cap (k + 2) ∧ Apart (fun j => j = B) w w2 ∧ w2.heap[w.heap.size]? = some (.cells #[.int .i64 0, .int .i64 0, .slice none 0 0] 60 (0, 0)) ∧ w2.heap[w1.heap.size]? = some (.cells #[.int .i64 0, .int .i64 store, .slice none 0 0] 60 (0, 0))) :=
    ⟨hD, H1.out.2.1.trans ((Apart.of_below hb1).trans hA), (hA.block _ (by simp; omega) (by omega)).trans (alk H1.out.2.2), (hA.block _ (by simp) (by omega)).trans (heap_alloc_new w1 _)⟩
  clear hD hA hb1 hr0 hr1 hs0 hs1 hwst
  have c0 := blk_cell H2.out.2.2.2 0 rfl
  have f0 := blk_free (j := 0) H2.out.2.2.2
  go_wp2_with (fail)
  clear c0 f0
  have H3 : Hid (MI w B L w1.heap.size a n cap (k + 2) stock store (w2.setCell ⟨w1.heap.size, 0, none⟩ (.int .i64 stock)) (.slice none 0 0) []) := by
    have hoth : ∀ j, j ≠ w1.heap.size → (w2.setCell ⟨w1.heap.size, 0, none⟩ (.int .i64 stock)).heap[j]? = w2.heap[j]? := fun j hj => Below.heap_setCell _ _ _ _ hj
    refine ⟨⟨H2.out.2.1.os, H2.out.2.1.tape, H2.out.2.1.output, by rw [World.size_setCell]; exact H2.out.2.1.size, fun j hj hB => (hoth j (by omega)).trans (H2.out.2.1.block j hj hB)⟩, H2.out.1.keep (by rw [World.size_setCell]; exact Nat.le_refl _) (fun j hj => hoth j (by omega)), (hoth _ (by omega)).trans H2.out.2.2.1, blk_setCell (j := 0) H2.out.2.2.2, World.ownsRow_nil _ _ _ _, (fun d hd => by simp at hd), hlt1, hBL.2⟩
  clear hlt1 hBL
  generalize w2.setCell ⟨w1.heap.size, 0, none⟩ (.int .i64 stock) = W3 at H3 ⊢
  refine (between_any B L a n cap (k + 2) 1 days _ H3.out.dk (by have := HK.out; omega) ⟨by omega, hdays.1, by omega⟩).mono ?_
  rintro e w4 ⟨⟨N, rfl, hN0, hN1⟩, hD, hA⟩
  have H4 : Hid (MI w B L w1.heap.size a n cap (k + 3) stock store w4 (.slice none 0 0) []) := by
    have h := H3.out
    have hBL := h.dk.lt
    have hL := h.hL
    have hW := h.hW
    exact ⟨h.ap.trans hA, hD, (hA.block _ (lt_of_block h.rs) (by omega)).trans h.rs, (hA.block _ (lt_of_block h.wb) (by omega)).trans h.wb, World.ownsRow_nil _ _ _ _, h.ok, h.hW, h.hL⟩
  clear hD hA
  obtain ⟨NN, rfl⟩ := Int.eq_ofNat_of_zero_le (show 0 ≤ N by omega)
  have HN : Hid (1 ≤ NN ∧ (NN : Int) ≤ days ∧ NN ≤ 30) := ⟨by omega, hN1, by omega⟩
  clear hN0 hN1
  go_wp2_with (fail)
  go_loopw [22] (fun i wr => ∃ (j : Nat), j ≤ NN ∧ i = .int .i64 j ∧ Hid (∃ (sv : Value) (ds : List Dy), ds.length = j ∧ MI w B L w1.heap.size a n cap (k + 3 + 8 * j) stock store wr sv ds)) (fun i _ => NN - (intOf i).toNat)
  case atStart => exact ⟨0, Nat.zero_le _, rfl, .slice none 0 0, [], rfl, H4.out⟩
  case round =>
    obtain ⟨Wo, rfl⟩ : ∃ Wo, Wo = wr := ⟨_, rfl⟩
    obtain ⟨j, hj, rfl, hM⟩ := hrel
    by_cases hlt : j < NN
    · obtain ⟨sv, ds, hl, hM⟩ := hM.out
      have HM := Lib.hid hM
      have HL := Lib.hid hl
      clear hl hM
      have hn30 := HN.out.2.2
      go_wp2_with (fail)
      generalize hWx : World.alloc _ _ = Wx
      have HX0 : Hid (Below Wo.heap.size Wo Wx ∧ XI Wx B L Wo.heap.size a n cap (k + 3 + 8 * j) Wx ⟨⟨0, 0⟩, ⟨0, 0⟩, ⟨0, 0⟩⟩ ∧ Wx.heap[Wo.heap.size + 1]? = some (.cells #[.pointer (some ⟨Wo.heap.size, 0, none⟩), .pointer (some ⟨Wo.heap.size, 2, none⟩), .pointer (some ⟨Wo.heap.size, 4, none⟩)] 113 (0, 0))) := by
        have hb : Below Wo.heap.size Wo Wx := by rw [← hWx]; exact ((Below.refl _ _).alloc (Nat.le_refl _) _).alloc (by simp) _
        have hz : SmallSp ⟨0, 0⟩ := ⟨Int.le_refl _, Int.le_refl _, by show (0 : Int) ≤ 100; omega⟩
        exact ⟨hb, ⟨Apart.refl _ _, HM.out.dk.below hb, by rw [← hWx]; exact alk (heap_alloc_new Wo _), ⟨hz, hz, hz⟩, HM.out.dk.lt.2⟩, by rw [← hWx]; exact new_at (by simp)⟩
      clear hWx
      have hk1 := HK.out
      go_loopw [29] (fun i W => ∃ (q : Nat), q ≤ 3 ∧ i = .int .i64 q ∧ Hid (∃ d, XI Wx B L Wo.heap.size a n cap (k + 3 + 8 * j + 2 * q) W d)) (fun i _ => 3 - (intOf i).toNat)
      case atStart => exact ⟨0, by omega, rfl, _, HX0.out.2.1⟩
      case round =>
        obtain ⟨q, hq, rfl, hX⟩ := hrel
        obtain ⟨W, rfl⟩ : ∃ W, W = wr := ⟨_, rfl⟩
        by_cases hlq : q < 3
        · obtain ⟨d, hX⟩ := hX.out
          have HXI := Lib.hid hX
          have HXS : W.heap[Wo.heap.size + 1]? = some (.cells #[.pointer (some ⟨Wo.heap.size, 0, none⟩), .pointer (some ⟨Wo.heap.size, 2, none⟩), .pointer (some ⟨Wo.heap.size, 4, none⟩)] 113 (0, 0)) := (hX.ap.block _ (lt_of_block HX0.out.2.2) (by have := hX.dk.lt; have := hX.hX; omega)).trans HX0.out.2.2
          clear hX
          rcases (show q = 0 ∨ q = 1 ∨ q = 2 by omega) with hq0 | hq1 | hq2
          · subst hq0
            have e0 := blk_cell HXS 0 rfl
            clear HXS
            go_wp2_with (fail)
            refine (draw_any B L a n cap (k + 3 + 8 * j + 2 * 0) 30 _ (HXI.out.dk.below (alloc1 W _)) (by omega) (by omega)).mono ?_
            rintro e w5 ⟨⟨r, rfl, hr0, hr1⟩, hD, hA⟩
            have HX5 := Lib.hid ((HXI.out.below (alloc1 W _)).step hA hD)
            clear hD hA e0
            go_wp2_with (fail)
            refine (draw_any B L a n cap _ 12 _ (HX5.out.dk.below (alloc1 w5 _)) (by omega) (by omega)).mono ?_
            rintro e w6 ⟨⟨s, rfl, hs0, hs1⟩, hD, hA⟩
            have HX6 := Lib.hid ((HX5.out.below (alloc1 w5 _)).step hA hD)
            clear hD hA
            have hrs : IntKind.i64.wrap (r + s) = r + s := IntWalk.i64_in _ (by omega)
            go_wp2_with (fail)
            refine (span_any r (r + s) _).mono ?_
            rintro e w7 ⟨rfl, hw7⟩
            have hb7 := alloc1 w6 (.cells #[.int .i64 r, .int .i64 (r + s)] 24)
            rw [hw7] at hb7
            have HX7 := Lib.hid (HX6.out.below hb7)
            clear hb7 hw7
            have y0 := blk_cell HX7.out.x 0 rfl
            have y1 := blk_cell HX7.out.x 1 rfl
            have z0 := blk_free (j := 0) HX7.out.x
            have z1 := blk_free (j := 1) HX7.out.x
            have HX8 : Hid (XI Wx B L Wo.heap.size a n cap (k + 3 + 8 * j + 2 * (0 + 1)) ((w7.setCell ⟨Wo.heap.size, 0, none⟩ (.int .i64 r)).setCell ⟨Wo.heap.size, 1, none⟩ (.int .i64 (r + s))) { d with need := ⟨r, r + s⟩ }) := by
              have hok := HX7.out.ok
              have h := HX7.out.put 0 1 (.int .i64 r) (.int .i64 (r + s)) (d' := { d with need := ⟨r, r + s⟩ }) rfl (by
                have hsp : SmallSp ⟨r, r + s⟩ := ⟨hr0, by show r ≤ r + s; omega, by show r + s ≤ 100; omega⟩
                first | exact ⟨hsp, hok.2.1, hok.2.2⟩ | exact ⟨hok.1, hsp, hok.2.2⟩ | exact ⟨hok.1, hok.2.1, hsp⟩)
              exact h
            clear hrs hr0 hr1 hs0 hs1
            go_wp2
            go_roundw
            case rel => exact ⟨0 + 1, by omega, by go_num, _, HX8⟩
            case measure => simp [intOf]
          · subst hq1
            have e0 := blk_cell HXS 1 rfl
            clear HXS
            go_wp2_with (fail)
            refine (draw_any B L a n cap (k + 3 + 8 * j + 2 * 1) 40 _ (HXI.out.dk.below (alloc1 W _)) (by omega) (by omega)).mono ?_
            rintro e w5 ⟨⟨r, rfl, hr0, hr1⟩, hD, hA⟩
            have HX5 := Lib.hid ((HXI.out.below (alloc1 W _)).step hA hD)
            clear hD hA e0
            go_wp2_with (fail)
            refine (draw_any B L a n cap _ 20 _ (HX5.out.dk.below (alloc1 w5 _)) (by omega) (by omega)).mono ?_
            rintro e w6 ⟨⟨s, rfl, hs0, hs1⟩, hD, hA⟩
            have HX6 := Lib.hid ((HX5.out.below (alloc1 w5 _)).step hA hD)
            clear hD hA
            have hrs : IntKind.i64.wrap (r + s) = r + s := IntWalk.i64_in _ (by omega)
            go_wp2_with (fail)
            refine (span_any r (r + s) _).mono ?_
            rintro e w7 ⟨rfl, hw7⟩
            have hb7 := alloc1 w6 (.cells #[.int .i64 r, .int .i64 (r + s)] 24)
            rw [hw7] at hb7
            have HX7 := Lib.hid (HX6.out.below hb7)
            clear hb7 hw7
            have y0 := blk_cell HX7.out.x 2 rfl
            have y1 := blk_cell HX7.out.x 3 rfl
            have z0 := blk_free (j := 2) HX7.out.x
            have z1 := blk_free (j := 3) HX7.out.x
            have HX8 : Hid (XI Wx B L Wo.heap.size a n cap (k + 3 + 8 * j + 2 * (1 + 1)) ((w7.setCell ⟨Wo.heap.size, 2, none⟩ (.int .i64 r)).setCell ⟨Wo.heap.size, 3, none⟩ (.int .i64 (r + s))) { d with make := ⟨r, r + s⟩ }) := by
              have hok := HX7.out.ok
              have h := HX7.out.put 2 3 (.int .i64 r) (.int .i64 (r + s)) (d' := { d with make := ⟨r, r + s⟩ }) rfl (by
                have hsp : SmallSp ⟨r, r + s⟩ := ⟨hr0, by show r ≤ r + s; omega, by show r + s ≤ 100; omega⟩
                first | exact ⟨hsp, hok.2.1, hok.2.2⟩ | exact ⟨hok.1, hsp, hok.2.2⟩ | exact ⟨hok.1, hok.2.1, hsp⟩)
              exact h
            clear hrs hr0 hr1 hs0 hs1
            go_wp2
            go_roundw
            case rel => exact ⟨1 + 1, by omega, by go_num, _, HX8⟩
            case measure => simp [intOf]
          · subst hq2
            have e0 := blk_cell HXS 2 rfl
            clear HXS
            go_wp2_with (fail)
            refine (draw_any B L a n cap (k + 3 + 8 * j + 2 * 2) 6 _ (HXI.out.dk.below (alloc1 W _)) (by omega) (by omega)).mono ?_
            rintro e w5 ⟨⟨r, rfl, hr0, hr1⟩, hD, hA⟩
            have HX5 := Lib.hid ((HXI.out.below (alloc1 W _)).step hA hD)
            clear hD hA e0
            go_wp2_with (fail)
            refine (draw_any B L a n cap _ 4 _ (HX5.out.dk.below (alloc1 w5 _)) (by omega) (by omega)).mono ?_
            rintro e w6 ⟨⟨s, rfl, hs0, hs1⟩, hD, hA⟩
            have HX6 := Lib.hid ((HX5.out.below (alloc1 w5 _)).step hA hD)
            clear hD hA
            have hrs : IntKind.i64.wrap (r + s) = r + s := IntWalk.i64_in _ (by omega)
            go_wp2_with (fail)
            refine (span_any r (r + s) _).mono ?_
            rintro e w7 ⟨rfl, hw7⟩
            have hb7 := alloc1 w6 (.cells #[.int .i64 r, .int .i64 (r + s)] 24)
            rw [hw7] at hb7
            have HX7 := Lib.hid (HX6.out.below hb7)
            clear hb7 hw7
            have y0 := blk_cell HX7.out.x 4 rfl
            have y1 := blk_cell HX7.out.x 5 rfl
            have z0 := blk_free (j := 4) HX7.out.x
            have z1 := blk_free (j := 5) HX7.out.x
            have HX8 : Hid (XI Wx B L Wo.heap.size a n cap (k + 3 + 8 * j + 2 * (2 + 1)) ((w7.setCell ⟨Wo.heap.size, 4, none⟩ (.int .i64 r)).setCell ⟨Wo.heap.size, 5, none⟩ (.int .i64 (r + s))) { d with loss := ⟨r, r + s⟩ }) := by
              have hok := HX7.out.ok
              have h := HX7.out.put 4 5 (.int .i64 r) (.int .i64 (r + s)) (d' := { d with loss := ⟨r, r + s⟩ }) rfl (by
                have hsp : SmallSp ⟨r, r + s⟩ := ⟨hr0, by show r ≤ r + s; omega, by show r + s ≤ 100; omega⟩
                first | exact ⟨hsp, hok.2.1, hok.2.2⟩ | exact ⟨hok.1, hsp, hok.2.2⟩ | exact ⟨hok.1, hok.2.1, hsp⟩)
              exact h
            clear hrs hr0 hr1 hs0 hs1
            go_wp2
            go_roundw
            case rel => exact ⟨2 + 1, by omega, by go_num, _, HX8⟩
            case measure => simp [intOf]
        · have : q = 3 := by omega
          subst this
          obtain ⟨d, hX⟩ := hX.out
          have HXI := Lib.hid hX
          clear hX
          go_wp2_with (fail)
          refine (coin_any B L a n cap (k + 3 + 8 * j + 2 * 3) 4 _ HXI.out.dk (by omega) (by omega)).mono ?_
          rintro e w5 ⟨⟨b, rfl⟩, hD, hA⟩
          have HX5 := Lib.hid (HXI.out.step hA hD)
          clear hD hA
          cases b
          · have HXF := HX5
            have HX6 := Lib.hid (XI.mono HXF.out (k' := k + 3 + 8 * (j + 1)) (by omega))
            have HMI := Lib.hid (HM.out.dealt HX0.out.1 rfl HX6.out)
            have t2 := blk_cell HMI.out.wb 2 rfl
            have x0 := blk_cell HX6.out.x 0 rfl
            have x1 := blk_cell HX6.out.x 1 rfl
            have x2 := blk_cell HX6.out.x 2 rfl
            have x3 := blk_cell HX6.out.x 3 rfl
            have x4 := blk_cell HX6.out.x 4 rfl
            have x5 := blk_cell HX6.out.x 5 rfl
            obtain ⟨i0, hi, hz0, hz1, hz2⟩ := info_parts Try.info97
            go_wp2_with (at_builtin; refine wpList_append_own_at _ rfl _ _ 58 rfl (w1.heap.size + 1) 97 i0 (.agg #[.int .i64 0, .int .i64 0, .int .i64 0, .int .i64 0, .int .i64 0, .int .i64 0]) 6 48 Try.underlying58 hi hz0 hz1 hz2 rfl (by decide) sv ds.length ((ds.flatMap Dy.cells).map (Value.int .i64)) rfl (HMI.out.row.alloc _) ⟨w5.heap.size, 0, none⟩ 1 1 ((Dy.cells d).map (Value.int .i64)) rfl rfl (cells_new _ _ _) (by intro u hu; simp [Dy.cells] at hu; rcases hu with rfl | rfl | rfl | rfl | rfl | rfl <;> rfl) (by have := HL.out; unfold maxLen; omega) (by have := HL.out; omega) (by have := lt_of_block HMI.out.wb; rw [World.size_alloc]; omega) ?_)
            intro v8 w8 hrow hgrow _ _
            obtain ⟨g8, cap8, rfl⟩ := ownsRow_succ hrow
            have HMM := Lib.hid (HMI.out.more (alloc1 w5 _) hgrow hrow HX6.out.ok)
            have hwb8 : w8.heap[w1.heap.size]? = some (.cells #[.int .i64 stock, .int .i64 store, sv] 60 (0, 0)) := (hgrow.block _ (by have := lt_of_block HMI.out.wb; rw [World.size_alloc]; omega) (fun e => by have := (HMI.out.row.lt _ e.symm).1; omega)).trans (alk HMI.out.wb)
            have s2 := blk_cell hwb8 2 rfl
            have sf2 := blk_free (j := 2) hwb8
            clear hrow hgrow hwb8 x0 x1 x2 x3 x4 x5 t2 hi hz0 hz1 hz2
            go_wp2
            go_roundw
            case rel => exact ⟨j + 1, by omega, by go_num, _, _, by have := HL.out; simp; omega, HMM.out⟩
            case measure => simp [intOf]; omega
          · go_wp2_with (fail)
            refine (draw_any B L a n cap _ 3 _ HX5.out.dk (by omega) (by omega)).mono ?_
            rintro e w6 ⟨⟨r, rfl, hr0, hr1⟩, hD, hA⟩
            have HX6 := Lib.hid (HX5.out.step hA hD)
            clear hD hA
            go_wp2_with (fail)
            refine (span_any 0 r _).mono ?_
            rintro e w7 ⟨rfl, hw7⟩
            have hb7 := alloc1 w6 (.cells #[.int .i64 0, .int .i64 r] 24)
            rw [hw7] at hb7
            have HX7 := Lib.hid (HX6.out.below hb7)
            clear hb7 hw7 HX6
            have y0 := blk_cell HX7.out.x 2 rfl
            have y1 := blk_cell HX7.out.x 3 rfl
            have z0 := blk_free (j := 2) HX7.out.x
            have z1 := blk_free (j := 3) HX7.out.x
            have HXF0 : Hid (XI Wx B L Wo.heap.size a n cap (k + 3 + 8 * j + 2 * 3 + 1 + 1) ((w7.setCell ⟨Wo.heap.size, 2, none⟩ (.int .i64 0)).setCell ⟨Wo.heap.size, 3, none⟩ (.int .i64 r)) { d with make := ⟨0, r⟩ }) := by
              have hok := HX7.out.ok
              exact HX7.out.put 2 3 (.int .i64 0) (.int .i64 r) (d' := { d with make := ⟨0, r⟩ }) rfl ⟨hok.1, ⟨Int.le_refl _, hr0, by show r ≤ 100; omega⟩, hok.2.2⟩
            clear hr0 hr1
            go_upto_region 14 with (fail)
            generalize (w7.setCell ⟨Wo.heap.size, 2, none⟩ (.int .i64 0)).setCell ⟨Wo.heap.size, 3, none⟩ (.int .i64 r) = W8 at HXF0 ⊢
            have HXF := HXF0
            clear y0 y1 z0 z1
            have HX6 := Lib.hid (XI.mono HXF.out (k' := k + 3 + 8 * (j + 1)) (by omega))
            have HMI := Lib.hid (HM.out.dealt HX0.out.1 rfl HX6.out)
            have t2 := blk_cell HMI.out.wb 2 rfl
            have x0 := blk_cell HX6.out.x 0 rfl
            have x1 := blk_cell HX6.out.x 1 rfl
            have x2 := blk_cell HX6.out.x 2 rfl
            have x3 := blk_cell HX6.out.x 3 rfl
            have x4 := blk_cell HX6.out.x 4 rfl
            have x5 := blk_cell HX6.out.x 5 rfl
            obtain ⟨i0, hi, hz0, hz1, hz2⟩ := info_parts Try.info97
            go_wp2_with (at_builtin; refine wpList_append_own_at _ rfl _ _ 58 rfl (w1.heap.size + 1) 97 i0 (.agg #[.int .i64 0, .int .i64 0, .int .i64 0, .int .i64 0, .int .i64 0, .int .i64 0]) 6 48 Try.underlying58 hi hz0 hz1 hz2 rfl (by decide) sv ds.length ((ds.flatMap Dy.cells).map (Value.int .i64)) rfl (HMI.out.row.alloc _) ⟨W8.heap.size, 0, none⟩ 1 1 ((Dy.cells { d with make := ⟨0, r⟩ }).map (Value.int .i64)) rfl rfl (cells_new _ _ _) (by intro u hu; simp [Dy.cells] at hu; rcases hu with rfl | rfl | rfl | rfl | rfl | rfl <;> rfl) (by have := HL.out; unfold maxLen; omega) (by have := HL.out; omega) (by have := lt_of_block HMI.out.wb; rw [World.size_alloc]; omega) ?_)
            intro v8 w8 hrow hgrow _ _
            obtain ⟨g8, cap8, rfl⟩ := ownsRow_succ hrow
            have HMM := Lib.hid (HMI.out.more (alloc1 W8 _) hgrow hrow HX6.out.ok)
            have hwb8 : w8.heap[w1.heap.size]? = some (.cells #[.int .i64 stock, .int .i64 store, sv] 60 (0, 0)) := (hgrow.block _ (by have := lt_of_block HMI.out.wb; rw [World.size_alloc]; omega) (fun e => by have := (HMI.out.row.lt _ e.symm).1; omega)).trans (alk HMI.out.wb)
            have s2 := blk_cell hwb8 2 rfl
            have sf2 := blk_free (j := 2) hwb8
            clear hrow hgrow hwb8 x0 x1 x2 x3 x4 x5 t2 hi hz0 hz1 hz2
            go_wp2
            go_roundw
            case rel => exact ⟨j + 1, by omega, by go_num, _, _, by have := HL.out; simp; omega, HMM.out⟩
            case measure => simp [intOf]; omega
    · have : j = NN := by omega
      subst this
      obtain ⟨sv, ds, hl, hM⟩ := hM.out
      obtain ⟨ad, cp, rfl, hSl, hAd⟩ := days_of_owns hM.row
      have HM := Lib.hid hM
      have HSL := Lib.hid (And.intro hSl hAd)
      have HLL := Lib.hid hl
      clear hSl hAd hM hl
      have c0 := blk_cell HM.out.wb 0 rfl
      have c1 := blk_cell HM.out.wb 1 rfl
      have c2 := blk_cell HM.out.wb 2 rfl
      have d0 := blk_cell HM.out.rs 0 rfl
      have d1 := blk_cell HM.out.rs 1 rfl
      have d2 := blk_cell HM.out.rs 2 rfl
      have f0 := blk_free (j := 0) HM.out.rs
      have f1 := blk_free (j := 1) HM.out.rs
      have f2 := blk_free (j := 2) HM.out.rs
      go_wp2_with (fail)
      have HR : Hid ((((Wo.setCell ⟨w.heap.size, 0, none⟩ (.int .i64 stock)).setCell ⟨w.heap.size, 1, none⟩ (.int .i64 store)).setCell ⟨w.heap.size, 2, none⟩ (.slice ad ds.length cp)).heap[w.heap.size]? = some (.cells #[.int .i64 stock, .int .i64 store, .slice ad ds.length cp] 60 (0, 0))) := blk_setCell (j := 2) (blk_setCell (j := 1) (blk_setCell (j := 0) HM.out.rs))
      have HO : Hid (∀ m, m ≠ w.heap.size → (((Wo.setCell ⟨w.heap.size, 0, none⟩ (.int .i64 stock)).setCell ⟨w.heap.size, 1, none⟩ (.int .i64 store)).setCell ⟨w.heap.size, 2, none⟩ (.slice ad ds.length cp)).heap[m]? = Wo.heap[m]?) := fun m hm => (Below.heap_setCell _ _ _ _ hm).trans ((Below.heap_setCell _ _ _ _ hm).trans (Below.heap_setCell _ _ _ _ hm))
      have HZ : Hid ((((Wo.setCell ⟨w.heap.size, 0, none⟩ (.int .i64 stock)).setCell ⟨w.heap.size, 1, none⟩ (.int .i64 store)).setCell ⟨w.heap.size, 2, none⟩ (.slice ad ds.length cp)).heap.size = Wo.heap.size) := by show _ = _; rw [World.size_setCell, World.size_setCell, World.size_setCell]
      have HE : Hid ((((Wo.setCell ⟨w.heap.size, 0, none⟩ (.int .i64 stock)).setCell ⟨w.heap.size, 1, none⟩ (.int .i64 store)).setCell ⟨w.heap.size, 2, none⟩ (.slice ad ds.length cp)).os = Wo.os ∧ (((Wo.setCell ⟨w.heap.size, 0, none⟩ (.int .i64 stock)).setCell ⟨w.heap.size, 1, none⟩ (.int .i64 store)).setCell ⟨w.heap.size, 2, none⟩ (.slice ad ds.length cp)).tape = Wo.tape ∧ (((Wo.setCell ⟨w.heap.size, 0, none⟩ (.int .i64 stock)).setCell ⟨w.heap.size, 1, none⟩ (.int .i64 store)).setCell ⟨w.heap.size, 2, none⟩ (.slice ad ds.length cp)).output = Wo.output) := ⟨rfl, rfl, rfl⟩
      clear c0 c1 c2 d0 d1 d2 f0 f1 f2
      generalize ((Wo.setCell ⟨w.heap.size, 0, none⟩ (.int .i64 stock)).setCell ⟨w.heap.size, 1, none⟩ (.int .i64 store)).setCell ⟨w.heap.size, 2, none⟩ (.slice ad ds.length cp) = We at HR HO HZ HE ⊢
      have r0 := blk_cell HR.out 0 rfl
      have r1 := blk_cell HR.out 1 rfl
      have r2 := blk_cell HR.out 2 rfl
      refine bodyPost_ret (v := wv stock store ad ds.length cp) (by simp [results, Try.results48, go_sem, r0, r1, r2]) rfl ?_
      have hL := HM.out.hL
      have hBL := HM.out.dk.lt
      have hW := HM.out.hW
      have hN := HN.out
      have hlen := HLL.out
      refine ⟨stock, store, ad, ds, cp, rfl, ?_, HS.out, HS2.out, ⟨by omega, by omega⟩, HM.out.ok, (HM.out.dk.keep (by rw [HZ.out]; exact Nat.le_refl _) (fun m hm => HO.out m (by omega))).mono (by omega), ⟨HE.out.1.trans HM.out.ap.os, HE.out.2.1.trans HM.out.ap.tape, HE.out.2.2.trans HM.out.ap.output, by rw [HZ.out]; exact HM.out.ap.size, fun m hm hB => (HO.out m (by omega)).trans (HM.out.ap.block m hm hB)⟩, fun p hp => by have := HSL.out.2 p hp; omega⟩
      intro h0
      obtain ⟨b, off, rfl, hb, hc⟩ := HSL.out.1 h0
      have hbw := HSL.out.2 _ rfl
      refine ⟨b, off, rfl, by rw [HZ.out]; exact hb, fun m x i u hx hu => (World.cell?_of_block (w := Wo) (a := ⟨b, off + m * 6 + i, none⟩) (HO.out b (by have : w1.heap.size + 1 ≤ b := hbw; omega))).trans (hc m x i u hx hu)⟩
end Go.Proofs.Ytkmcdmidegcbaaa
