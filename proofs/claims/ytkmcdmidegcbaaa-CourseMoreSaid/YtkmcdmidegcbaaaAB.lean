/-
  The contract of Proves over this seat's program.
  What is proved: Proves answers by how much snow is lacking by a proof, or the error.
  Conditions: slices of at most 1000000 elements.
-/
import Derived.Test.YtkmcdmidegcbaaaAA
namespace Go.Proofs.Ytkmcdmidegcbaaa
open Go.RowKit Go.Shelf
attribute [local go_sem] Oper.semAt_some

def worstLack (stock store pf : Int) (ds : List Dy) (pd : Nat) : Int × Bool := lackR stock store pf (ds.map fun d => d.need.hi) (ds.map fun d => d.make.lo) (ds.map fun d => d.loss.hi) pd
def provesR (stock store : Int) (ds : List Dy) (pf pd : Int) : Int × Int :=
  if winE stock store ds = 0 then (if withinB pd 0 (ds.length - 1) = true then (if withinB pf (-1) pd = true then (if (worstLack stock store pf ds pd.toNat).2 = true then ((worstLack stock store pf ds pd.toNat).1, 0) else (0, 8)) else (0, 1)) else (0, 1)) else (0, winE stock store ds)

set_option maxRecDepth 100000 in
set_option maxHeartbeats 1000000 in
theorem proves_any (stock store pf pd : Int) (a : Option Addr) (ds : List Dy) (cap : Nat) (w : World) (hx : Sl 6 Dy.cells w a ds) (hl : ds.length ≤ 1000000) :
    Calls Try.prog 39 #[wv stock store a ds.length cap, .agg #[.int .i64 pf, .int .i64 pd]] w fun e w' => e = .returned (.tuple #[.int .i64 (provesR stock store ds pf pd).1, .int .i64 (provesR stock store ds pf pd).2]) ∧ Below w.heap.size w w' := by
  have HX := Lib.hid (And.intro hx hl)
  clear hx
  obtain ⟨Wa, hWa⟩ : ∃ Wa, (w.alloc (.cells #[.int .i64 stock, .int .i64 store, .slice a ds.length cap] 60)).alloc (.cells #[.int .i64 pf, .int .i64 pd] 62) = Wa := ⟨_, rfl⟩
  have hba : Below w.heap.size w Wa := by rw [← hWa]; exact ((Below.refl _ _).alloc (Nat.le_refl _) _).alloc (by simp) _
  have h0 : Wa.heap[w.heap.size]? = some (.cells #[.int .i64 stock, .int .i64 store, .slice a ds.length cap] 60 (0, 0)) := by rw [← hWa]; exact alk (new_at rfl)
  have h1 : Wa.heap[w.heap.size + 1]? = some (.cells #[.int .i64 pf, .int .i64 pd] 62 (0, 0)) := by rw [← hWa]; exact new_at (by simp)
  have a0 := blk_cell h0 0 rfl
  have a1 := blk_cell h0 1 rfl
  have a2 := blk_cell h0 2 rfl
  go_enter Try.func39, Try.ntmps39
  go_wp2_with (fail)
  clear hWa a0 a1 a2
  refine (checkWinter_any stock store a ds cap _ (HX.out.1.below hba) HX.out.2).mono ?_
  rintro e w1 ⟨rfl, hb1⟩
  have H1 := Lib.hid (And.intro (below_self hba hb1) (And.intro (blk_below h0 hb1) (blk_below h1 hb1)))
  clear hba h0 h1 hb1
  have c0 := blk_cell H1.out.2.1 0 rfl
  have c1 := blk_cell H1.out.2.1 1 rfl
  have c2 := blk_cell H1.out.2.1 2 rfl
  have d0 := blk_cell H1.out.2.2 0 rfl
  have d1 := blk_cell H1.out.2.2 1 rfl
  by_cases hw : winE stock store ds = 0
  · have hwb : (winE stock store ds != 0) = false := by simp [hw]
    have HW := Lib.hid hw
    clear hw
    cases q1 : withinB pd 0 (ds.length - 1)
    · have HR : Hid (provesR stock store ds pf pd = (0, 1)) := by show _ = _; rw [provesR, if_pos HW.out, q1]; rfl
      go_wp2_with (go_at_call 71; refine (within_any _ _ _ _).mono ?_; rintro e w' ⟨rfl, rfl⟩)
      refine bodyPost_ret (v := .tuple #[.int .i64 0, .int .i64 1]) (by simp [results, Try.results39, go_sem]) rfl ?_
      exact ⟨by rw [HR.out], H1.out.1⟩
    · cases q2 : withinB pf (-1) pd
      · have HR : Hid (provesR stock store ds pf pd = (0, 1)) := by show _ = _; rw [provesR, if_pos HW.out, q1, q2]; rfl
        go_wp2_with (go_at_call 71; refine (within_any _ _ _ _).mono ?_; rintro e w' ⟨rfl, rfl⟩)
        refine bodyPost_ret (v := .tuple #[.int .i64 0, .int .i64 1]) (by simp [results, Try.results39, go_sem]) rfl ?_
        exact ⟨by rw [HR.out], H1.out.1⟩
      · have HR : Hid (provesR stock store ds pf pd = (if (worstLack stock store pf ds pd.toNat).2 = true then ((worstLack stock store pf ds pd.toNat).1, 0) else (0, 8))) := by show _ = _; rw [provesR, if_pos HW.out, q1, q2]; rfl
        go_wp2_with (go_at_call 71; refine (within_any _ _ _ _).mono ?_; rintro e w' ⟨rfl, rfl⟩)
        have hq1 : 0 ≤ pd ∧ pd ≤ (ds.length : Int) - 1 := by simp [withinB] at q1; omega
        have hq2 : -1 ≤ pf ∧ pf ≤ pd := by simp [withinB] at q2; omega
        obtain ⟨p, rfl⟩ := Int.eq_ofNat_of_zero_le hq1.1
        have HQ : Hid (-1 ≤ pf ∧ pf ≤ (p : Int) ∧ p < ds.length) := ⟨hq2.1, hq2.2, by omega⟩
        have HD := win_ok HW.out
        have HDD := Lib.hid HD
        clear HD q1 q2 hq1 hq2
        go_region_held3 (fun w' => w'.cell? ⟨w.heap.size, 0, none⟩ = some (.int .i64 stock) ∧ w'.cell? ⟨w.heap.size, 1, none⟩ = some (.int .i64 store) ∧ w'.cell? ⟨w.heap.size, 2, none⟩ = some (.slice a ds.length cap) ∧ w'.cell? ⟨w.heap.size + 1, 0, none⟩ = some (.int .i64 pf) ∧ w'.cell? ⟨w.heap.size + 1, 1, none⟩ = some (.int .i64 p)) (go_keep)
          (first
            | (go_at_call 95; refine (lack_any stock store pf p a ds.length cap an _ cn am _ cm al _ cl _ H3.out.2.2.2.1 H3.out.2.2.2.2.1 H3.out.2.2.2.2.2 (by simp) (by simp) (by simp) HDD.out.2.1.2 ⟨HDD.out.1.1, HDD.out.1.2.1, HDD.out.1.2.2.2⟩ (worst_bd HDD.out.2.2) HQ.out).mono ?_; rintro e w4 ⟨rfl, hb4⟩; have H4 := Lib.hid (And.intro (below_self H3.out.1 hb4) (And.intro (blk_below H3.out.2.1 hb4) (And.intro (blk_below H3.out.2.2.1 hb4) trivial))); clear hb4 y0 y1 y2 y3 y4; have z0 := blk_cell H4.out.2.1 0 rfl; have z1 := blk_cell H4.out.2.1 1 rfl; have z2 := blk_cell H4.out.2.1 2 rfl; have z3 := blk_cell H4.out.2.2.1 0 rfl; have z4 := blk_cell H4.out.2.2.1 1 rfl)
            | (go_at_call 94; refine (spell_any 129 130 129 Sp.hi Sp.lo Sp.hi high_f low_f high_f stock store a ds cap _ (HX.out.1.below H2.out.1) HX.out.2).mono ?_; rintro e w3 ⟨⟨an, cn, am, cm, al, cl, rfl, hN, hM, hL, hb3⟩⟩; have H3 := Lib.hid (And.intro (below_self H2.out.1 hb3) (And.intro (blk_below H2.out.2.1 hb3) (And.intro (blk_below H2.out.2.2.1 hb3) (And.intro hN (And.intro hM hL))))); clear hb3 hN hM hL x0 x1 x2 x3 x4; have y0 := blk_cell H3.out.2.1 0 rfl; have y1 := blk_cell H3.out.2.1 1 rfl; have y2 := blk_cell H3.out.2.1 2 rfl; have y3 := blk_cell H3.out.2.2.1 0 rfl; have y4 := blk_cell H3.out.2.2.1 1 rfl)
            | (go_at_call 93; refine (worst_any _).mono ?_; rintro e w2 ⟨rfl, hb2⟩; have hb2' : Below w1.heap.size w1 w2 := ⟨hb2.os, hb2.tape, hb2.output, hb2.size, hb2.block⟩; have H2 := Lib.hid (And.intro (below_self H1.out.1 hb2') (And.intro (blk_below H1.out.2.1 hb2') (And.intro (blk_below H1.out.2.2 hb2') trivial))); clear hb2 hb2' c0 c1 c2 d0 d1; have x0 := blk_cell H2.out.2.1 0 rfl; have x1 := blk_cell H2.out.2.1 1 rfl; have x2 := blk_cell H2.out.2.1 2 rfl; have x3 := blk_cell H2.out.2.2.1 0 rfl; have x4 := blk_cell H2.out.2.2.1 1 rfl))
        all_goals (
          clear z0 z1 z2 z3 z4
          have HR2 : Hid (provesR stock store ds pf p = (if (worstLack stock store pf ds p).2 = true then ((worstLack stock store pf ds p).1, 0) else (0, 8))) := by show _ = _; rw [HR.out, Int.toNat_natCast]
          have hfold : lackR stock store pf (List.map (fun d => d.need.hi) ds) (List.map (fun d => d.make.lo) ds) (List.map (fun d => d.loss.hi) ds) p = worstLack stock store pf ds p := rfl
          rw [hfold]
          clear hfold
          generalize worstLack stock store pf ds p = lk at HR2 ⊢
          obtain ⟨x, b⟩ := lk
          cases b
          · have HR3 : Hid (provesR stock store ds pf p = (0, 8)) := HR2.out
            go_wp2
            refine bodyPost_ret (v := .tuple #[.int .i64 0, .int .i64 8]) (by simp [results, Try.results39, go_sem]) rfl ?_
            exact ⟨by rw [HR3.out], H4.out.1⟩
          · have HR3 : Hid (provesR stock store ds pf p = (x, 0)) := HR2.out
            go_wp2
            refine bodyPost_ret (v := .tuple #[.int .i64 x, .int .i64 0]) (by simp [results, Try.results39, go_sem]) rfl ?_
            exact ⟨by rw [HR3.out], H4.out.1⟩)
  · have hwb : (winE stock store ds != 0) = true := by simp [hw]
    have HR : Hid (provesR stock store ds pf pd = (0, winE stock store ds)) := by show _ = _; rw [provesR, if_neg hw]
    clear hw c0 c1 c2 d0 d1
    go_wp2
    refine bodyPost_ret (v := .tuple #[.int .i64 0, .int .i64 (winE stock store ds)]) (by simp [results, Try.results39, go_sem]) rfl ?_
    exact ⟨by rw [HR.out], H1.out.1⟩
end Go.Proofs.Ytkmcdmidegcbaaa
