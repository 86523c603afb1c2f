/-
  The contract of Ranges over this seat's program.
  What is proved: Ranges answers the stocks after each day in the worst and in the best weather, or the error.
  Conditions: slices of at most 1000000 elements.
-/
import Derived.Test.YtkmcdmidegcbaaaAI
namespace Go.Proofs.Ytkmcdmidegcbaaa
open Go.RowKit Go.Shelf
attribute [local go_sem] Oper.semAt_some

theorem Try.info24 : (Try.prog.info? 24).map (fun i => (i.zero, i.size, i.bytes)) = some (some (.agg #[.int .i64 0, .int .i64 0]), 2, 16) := by kernel_rfl
theorem mk76 (n : Nat) (h : n ≤ 1000) (w : World) : (Instr.makeSlice 76 (.int .i64 (n : Int)) (.int .i64 (n : Int))).run Try.prog w = .ok (.slice (some ⟨w.heap.size, 0, none⟩) n n) (w.alloc (.cells (madeCells #[.int .i64 0, .int .i64 0] (n * 2)) 24)) := by
  obtain ⟨i0, hi, hz0, hz1, hz2⟩ := info_parts Try.info24
  have hr := run_make (P := Try.prog) w 76 24 i0 (.agg #[.int .i64 0, .int .i64 0]) Try.underlying76 hi hz0 .i64 .i64 n n (by omega) (by omega) (by rw [hz2]; omega) (by omega)
  simp only [Int.toNat_natCast, hz1] at hr
  exact hr

def rangesL (stock store : Int) (ds : List Dy) : List Sp := (List.range (worstL stock store ds).stocks.length).map fun j => ⟨(worstL stock store ds).stocks[j]?.getD 0, (bestL stock store ds).stocks[j]?.getD 0⟩
def rangesR (stock store : Int) (ds : List Dy) : List Sp × Int := if winE stock store ds = 0 then (rangesL stock store ds, 0) else ([], winE stock store ds)
def OutSps (w : World) (x : List Sp × Int) (e : Ending) (w' : World) : Prop := ∃ a cap, e = .returned (.tuple #[.slice a x.1.length cap, .int .i64 x.2]) ∧ Sl 2 Sp.cells w' a x.1 ∧ Below w.heap.size w w'

set_option maxRecDepth 100000 in
set_option maxHeartbeats 1000000 in
theorem ranges_any (stock store : Int) (a : Option Addr) (ds : List Dy) (cap : Nat) (w : World) (hx : Sl 6 Dy.cells w a ds) (hl : ds.length ≤ 1000000) :
    Calls Try.prog 44 #[wv stock store a ds.length cap] w (OutSps w (rangesR stock store ds)) := by
  have F0 := fld0
  have HX := Lib.hid (And.intro hx hl)
  clear hx hl
  obtain ⟨Wa, hWa⟩ : ∃ Wa, w.alloc (.cells #[.int .i64 stock, .int .i64 store, .slice a ds.length cap] 60) = Wa := ⟨_, rfl⟩
  have hba : Below w.heap.size w Wa := by rw [← hWa]; exact (Below.refl _ _).alloc (Nat.le_refl _) _
  have h0 : Wa.heap[w.heap.size]? = some (.cells #[.int .i64 stock, .int .i64 store, .slice a ds.length cap] 60 (0, 0)) := by rw [← hWa]; exact new_at rfl
  have a0 := blk_cell h0 0 rfl
  have a1 := blk_cell h0 1 rfl
  have a2 := blk_cell h0 2 rfl
  go_enter Try.func44, Try.ntmps44
  go_wp2_with (fail)
  clear hWa a0 a1 a2
  refine (checkWinter_any stock store a ds cap _ (HX.out.1.below hba) HX.out.2).mono ?_
  rintro e w1 ⟨rfl, hb1⟩
  have H1 := Lib.hid (And.intro (below_self hba hb1) (blk_below h0 hb1))
  clear hba h0 hb1
  by_cases hw : winE stock store ds = 0
  · have hwb : (winE stock store ds != 0) = false := by simp [hw]
    have HR : Hid (rangesR stock store ds = (rangesL stock store ds, 0)) := by show _ = _; rw [rangesR, if_pos hw]
    obtain ⟨b1, b2, b3⟩ := win_ok hw
    have HOK := Lib.hid (And.intro b1 (And.intro b2 b3))
    clear b1 b2 b3 hw
    have c0 := blk_cell H1.out.2 0 rfl
    have c1 := blk_cell H1.out.2 1 rfl
    have c2 := blk_cell H1.out.2 2 rfl
    go_wp2_with (fail)
    go_region_held3 (fun w' => w'.cell? ⟨w.heap.size, 0, none⟩ = some (.int .i64 stock) ∧ w'.cell? ⟨w.heap.size, 1, none⟩ = some (.int .i64 store) ∧ w'.cell? ⟨w.heap.size, 2, none⟩ = some (.slice a ds.length cap)) (go_keep)
      (first
        | (go_at_call 101
           refine (play_worst H3.out.2.2.1 H3.out.2.2.2.1 H3.out.2.2.2.2 HOK.out.2.1.2 ⟨HOK.out.1.1, HOK.out.1.2.1, HOK.out.1.2.2.2⟩ HOK.out.2.2).mono ?_
           rintro e w4 ⟨sa, sc, ma, mc, pa, pn, pc, rfl, hs, hm, hb4⟩
           have H4 := Lib.hid (And.intro (below_self H3.out.1 hb4) (And.intro (blk_below H3.out.2.1 hb4) hs))
           clear hs hm hb4 e0 e1 e2
           have e0 := blk_cell H4.out.2.1 0 rfl; have e1 := blk_cell H4.out.2.1 1 rfl; have e2 := blk_cell H4.out.2.1 2 rfl)
        | (go_at_call 94
           refine (spell_any 129 130 129 Sp.hi Sp.lo Sp.hi high_f low_f high_f stock store a ds cap _ (HX.out.1.below H2.out.1) HX.out.2).mono ?_
           rintro e w3 ⟨⟨an, cn, am, cm, al, cl, rfl, hN, hM, hL, hb3⟩⟩
           have H3 := Lib.hid (And.intro (below_self H2.out.1 hb3) (And.intro (blk_below H2.out.2 hb3) (And.intro hN (And.intro hM hL))))
           clear hN hM hL hb3 d0 d1 d2
           have e0 := blk_cell H3.out.2.1 0 rfl; have e1 := blk_cell H3.out.2.1 1 rfl; have e2 := blk_cell H3.out.2.1 2 rfl)
        | (go_at_call 93
           refine (worst_any _).mono ?_
           rintro e w2 ⟨rfl, hb2⟩
           have hb2' : Below w1.heap.size w1 w2 := ⟨hb2.os, hb2.tape, hb2.output, hb2.size, hb2.block⟩
           have H2 := Lib.hid (And.intro (below_self H1.out.1 hb2') (blk_below H1.out.2 hb2'))
           clear hb2 hb2' c0 c1 c2
           have d0 := blk_cell H2.out.2 0 rfl; have d1 := blk_cell H2.out.2 1 rfl; have d2 := blk_cell H2.out.2 2 rfl))
    go_wp2_with (fail)
    go_region_held3 (fun w' => w'.cell? ⟨w.heap.size, 0, none⟩ = some (.int .i64 stock) ∧ w'.cell? ⟨w.heap.size, 1, none⟩ = some (.int .i64 store) ∧ w'.cell? ⟨w.heap.size, 2, none⟩ = some (.slice a ds.length cap)) (go_keep)
      (first
        | (go_at_call 101
           refine (play_best H6.out.2.2.1 H6.out.2.2.2.1 H6.out.2.2.2.2.1 HOK.out.2.1.2 ⟨HOK.out.1.1, HOK.out.1.2.1, HOK.out.1.2.2.2⟩ HOK.out.2.2).mono ?_
           rintro e w7 ⟨ta, tc, na, nc, qa, qn, qc, rfl, hs, hm, hb7⟩
           have H7 := Lib.hid (And.intro (below_self H6.out.1 hb7) (And.intro (H6.out.2.2.2.2.2.below hb7) hs))
           have K7 := Lib.hid (blk_below H6.out.2.1 hb7)
           clear hs hm hb7 h0 h1 h2
           have h0 := blk_cell K7.out 0 rfl; have h1 := blk_cell K7.out 1 rfl; have h2 := blk_cell K7.out 2 rfl)
        | (go_at_call 94
           refine (spell_any 130 129 130 Sp.lo Sp.hi Sp.lo low_f high_f low_f stock store a ds cap _ (HX.out.1.below H5.out.1) HX.out.2).mono ?_
           rintro e w6 ⟨⟨bn, dn, bm, dm, bl, dl, rfl, hN, hM, hL, hb6⟩⟩
           have H6 := Lib.hid (And.intro (below_self H5.out.1 hb6) (And.intro (blk_below H5.out.2.1 hb6) (And.intro hN (And.intro hM (And.intro hL (H5.out.2.2.below hb6))))))
           clear hN hM hL hb6 g0 g1 g2
           have h0 := blk_cell H6.out.2.1 0 rfl; have h1 := blk_cell H6.out.2.1 1 rfl; have h2 := blk_cell H6.out.2.1 2 rfl)
        | (go_at_call 102
           refine (best_any _).mono ?_
           rintro e w5 ⟨rfl, hb5⟩
           have hb5' : Below w4.heap.size w4 w5 := ⟨hb5.os, hb5.tape, hb5.output, hb5.size, hb5.block⟩
           have H5 := Lib.hid (And.intro (below_self H4.out.1 hb5') (And.intro (blk_below H4.out.2.1 hb5') (H4.out.2.2.below hb5')))
           clear hb5 hb5' e0 e1 e2
           have g0 := blk_cell H5.out.2.1 0 rfl; have g1 := blk_cell H5.out.2.1 1 rfl; have g2 := blk_cell H5.out.2.1 2 rfl))
    have HLESS := Lib.hid (best_less HOK.out.2.2 ⟨HOK.out.1.1, HOK.out.1.2.1⟩)
    have HLEN : Hid ((worstL stock store ds).stocks.length ≤ 60) := by
      show _ ≤ _
      have h := HOK.out.2.1.2
      rcases play_len stock store (ds.map fun d => d.need.hi) (ds.map fun d => d.make.lo) (ds.map fun d => d.loss.hi) ds.length with ⟨_, h', _⟩ | ⟨d, _, h', _, h''⟩
      · have : (worstL stock store ds).stocks.length = ds.length := h'; omega
      · have : (worstL stock store ds).stocks.length = d := h'; omega
    clear h0 h1 h2
    have HRL : Hid (rangesL stock store ds = (List.range (worstL stock store ds).stocks.length).map fun j => ⟨(worstL stock store ds).stocks[j]?.getD 0, (bestL stock store ds).stocks[j]?.getD 0⟩) := rfl
    generalize (worstL stock store ds) = wo at H7 HLESS HLEN HRL ⊢
    generalize (bestL stock store ds) = be at H7 HLESS HRL ⊢
    generalize hn : wo.stocks.length = n at HLEN HRL ⊢
    have hmk := mk76 n (by have := HLEN.out; omega)
    go_wp2_with (fail)
    have HC7 : Hid (∀ (C : Array Value) (W : World) (k : Nat), k < n → C.size = n * 2 → ∃ v0 v1, C[k * 2]? = some v0 ∧ C[k * 2 + 1]? = some v1) := fun C W k h1 h2 => ⟨_, _, Array.getElem?_eq_getElem (by omega), Array.getElem?_eq_getElem (by omega)⟩
    go_loopw [29] (fun i wr => ∃ k : Nat, k ≤ n ∧ i = .int .i64 k ∧ Hid (Below w7.heap.size w7 wr ∧ ∃ C : Array Value, wr.heap[w7.heap.size]? = some (.cells C 24 (0, 0)) ∧ C.size = n * 2 ∧ ∀ j, j < k → C[j * 2]? = some (.int .i64 (wo.stocks[j]?.getD 0)) ∧ C[j * 2 + 1]? = some (.int .i64 (be.stocks[j]?.getD 0)))) (fun i _ => n - (intOf i).toNat)
    case atStart => exact ⟨0, Nat.zero_le _, rfl, (Below.refl _ _).alloc (Nat.le_refl _) _, _, heap_alloc_new _ _, size_madeCells _ _, fun j hj => by omega⟩
    case round =>
      obtain ⟨k, hk, rfl, hinv⟩ := hrel
      by_cases hlt : k < n
      · obtain ⟨hbw, C, hB, hsz, hall⟩ := hinv.out
        obtain ⟨v0, v1, e0, e1⟩ := HC7.out C wr k hlt hsz
        have hnn := hn
        have hle := HLESS.out.len
        obtain ⟨bs, os, hsa, hbs, hcs⟩ := H7.out.2.1 (by omega)
        obtain ⟨bt, ot, hta, hbt, hct⟩ := H7.out.2.2 (by omega)
        subst hsa
        subst hta
        have hkm : k < be.stocks.length := by omega
        have x0 := (hbw.cell (p := ⟨bs, os + k, none⟩) hbs).trans (hcs k (by omega))
        have x1 := (hbw.cell (p := ⟨bt, ot + k, none⟩) hbt).trans (hct k hkm)
        generalize hlo : wo.stocks[k]?.getD 0 = lo at x0
        generalize hhi : be.stocks[k]?.getD 0 = hi at x1
        have HLO := Lib.hid (And.intro hlo hhi)
        have HI := Lib.hid (And.intro hbw (And.intro hB (And.intro hsz hall)))
        have y0 := blk_cell hB (k * 2) e0
        have y1 := blk_cell hB (k * 2 + 1) e1
        have z0 := blk_free (j := k * 2) hB
        have z1 := blk_free (j := k * 2 + 1) hB
        clear hinv hbw hB hsz hall hcs hct hlo hhi hnn hle
        go_wp2_with (fail)
        go_region
        have HN : Hid (Below w7.heap.size w7 ((wr.setCell ⟨w7.heap.size, k * 2, none⟩ (.int .i64 lo)).setCell ⟨w7.heap.size, k * 2 + 1, none⟩ (.int .i64 hi)).drew ∧ ∃ C : Array Value, ((wr.setCell ⟨w7.heap.size, k * 2, none⟩ (.int .i64 lo)).setCell ⟨w7.heap.size, k * 2 + 1, none⟩ (.int .i64 hi)).drew.heap[w7.heap.size]? = some (.cells C 24 (0, 0)) ∧ C.size = n * 2 ∧ ∀ j, j < k + 1 → C[j * 2]? = some (.int .i64 (wo.stocks[j]?.getD 0)) ∧ C[j * 2 + 1]? = some (.int .i64 (be.stocks[j]?.getD 0))) := by
          obtain ⟨hbw, hB, hsz, hall⟩ := HI.out
          refine ⟨((hbw.setCell (p := ⟨w7.heap.size, k * 2, none⟩) (Nat.le_refl _) _).setCell (p := ⟨w7.heap.size, k * 2 + 1, none⟩) (Nat.le_refl _) _).drew, (C.setIfInBounds (k * 2) (.int .i64 lo)).setIfInBounds (k * 2 + 1) (.int .i64 hi), blk_setCell (blk_setCell hB), by simp [hsz], fun j hj => ?_⟩
          rcases Nat.lt_or_ge j k with h | h
          · rw [Array.getElem?_setIfInBounds_ne (by omega), Array.getElem?_setIfInBounds_ne (by omega), Array.getElem?_setIfInBounds_ne (by omega), Array.getElem?_setIfInBounds_ne (by omega)]
            exact hall j h
          · have : j = k := by omega
            subst this
            rw [Array.getElem?_setIfInBounds_ne (by omega), Array.getElem?_setIfInBounds_self_of_lt (by omega), Array.getElem?_setIfInBounds_self_of_lt (by simp; omega), HLO.out.1, HLO.out.2]
            exact ⟨rfl, rfl⟩
        clear HI x0 x1 y0 y1 z0 z1 e0 e1
        have hn60 := HLEN.out
        generalize ((wr.setCell ⟨w7.heap.size, k * 2, none⟩ (.int .i64 lo)).setCell ⟨w7.heap.size, k * 2 + 1, none⟩ (.int .i64 hi)).drew = W8 at HN ⊢
        go_wp2
        go_roundw
        case rel => exact ⟨k + 1, by omega, by go_num, HN⟩
        case measure => simp [intOf]; omega
      · have : k = n := by omega
        subst this
        have HLL : Hid ((rangesL stock store ds).length = k) := by show _ = _; rw [HRL.out]; simp
        go_wp2
        refine bodyPost_ret (v := .tuple #[.slice (some ⟨w7.heap.size, 0, none⟩) k k, .int .i64 0]) (by simp [results, Try.results44, go_sem]) rfl ?_
        rw [HR.out]
        obtain ⟨hbw, C, hB, hsz, hall⟩ := hinv.out
        refine ⟨some ⟨w7.heap.size, 0, none⟩, k, by rw [show (rangesL stock store ds, (0 : Int)).1.length = k from HLL.out], fun _ => ⟨w7.heap.size, 0, rfl, lt_of_block hB, fun j x i u hx hu => ?_⟩, H7.out.1.trans (hbw.mono H7.out.1.size)⟩
        have hjk : j < k := by
          rcases Nat.lt_or_ge j (rangesL stock store ds).length with h | h
          · rw [HLL.out] at h; exact h
          · rw [show (rangesL stock store ds, (0 : Int)).1 = rangesL stock store ds from rfl, List.getElem?_eq_none h] at hx; cases hx
        have hx' : x = ⟨wo.stocks[j]?.getD 0, be.stocks[j]?.getD 0⟩ := by
          rw [show (rangesL stock store ds, (0 : Int)).1 = rangesL stock store ds from rfl, HRL.out, List.getElem?_map, List.getElem?_range hjk] at hx
          simpa using hx.symm
        subst hx'
        match i, hu with
        | 0, hu => simp [Sp.cells] at hu; subst hu; rw [Nat.zero_add]; exact blk_cell hB (j * 2) (hall j hjk).1
        | 1, hu => simp [Sp.cells] at hu; subst hu; rw [Nat.zero_add]; exact blk_cell hB (j * 2 + 1) (hall j hjk).2
        | i + 2, hu => simp [Sp.cells] at hu
  · have hwb : (winE stock store ds != 0) = true := by simp [hw]
    have HR : Hid (rangesR stock store ds = ([], winE stock store ds)) := by show _ = _; rw [rangesR, if_neg hw]
    clear hw
    go_wp2
    refine bodyPost_ret (v := .tuple #[.slice none 0 0, .int .i64 (winE stock store ds)]) (by simp [results, Try.results44, go_sem]) rfl ?_
    rw [HR.out]
    exact ⟨none, 0, rfl, fun h => by simp at h, H1.out.1⟩
end Go.Proofs.Ytkmcdmidegcbaaa
