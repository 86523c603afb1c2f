/-
  The contract of failing over this seat's program.
  What is proved: failing tells what happens in the worst weather, if a day fails in it, or the error.
  Conditions: slices of at most 1000000 elements.
-/
import Derived.Test.YtkmcdmidegcbaaaAG
namespace Go.Proofs.Ytkmcdmidegcbaaa
open Go.RowKit Go.Shelf
attribute [local go_sem] Oper.semAt_some

def failR (stock store : Int) (ds : List Dy) : Int × Int × Int := if winE stock store ds = 0 then (if (worstL stock store ds).fails = -1 then (0, 0, 6) else ((worstL stock store ds).fails, (worstL stock store ds).full, 0)) else (0, 0, winE stock store ds)
def OutFail (w : World) (x : Int × Int × Int) (e : Ending) (w' : World) : Prop := ∃ (a b c : Option Addr) (n1 c1 n2 c2 n3 c3 : Nat), e = .returned (.tuple #[.agg #[.slice a n1 c1, .slice b n2 c2, .slice c n3 c3, .int .i64 x.1, .int .i64 x.2.1], .int .i64 x.2.2]) ∧ Below w.heap.size w w'

/-- What stands below a world past which little has happened. -/
theorem below_past {X Y w2 : World} (hb : Below Y.heap.size Y w2) (h1 : Y.os = X.os) (h2 : Y.tape = X.tape) (h3 : Y.output = X.output) (h4 : X.heap.size ≤ Y.heap.size) (h5 : ∀ k, k < X.heap.size → Y.heap[k]? = X.heap[k]?) : Below X.heap.size X w2 :=
  ⟨hb.os.trans h1, hb.tape.trans h2, hb.output.trans h3, Nat.le_trans h4 hb.size, fun k hk => (hb.block k (Nat.lt_of_lt_of_le hk h4)).trans (h5 k hk)⟩
theorem past_drew {X w2 : World} (hb : Below X.drew.heap.size X.drew w2) : Below X.heap.size X w2 := below_past hb rfl rfl rfl (Nat.le_refl _) (fun _ _ => rfl)
theorem past_alloc {X w2 : World} {o : Obj} (hb : Below (X.drew.alloc o).heap.size (X.drew.alloc o) w2) : Below X.heap.size X w2 ∧ w2.heap[X.heap.size]? = some o := ⟨below_past hb rfl rfl rfl (by simp) (fun k hk => Below.heap_alloc X.drew o k hk), blk_below (heap_alloc_new X.drew o) hb⟩
theorem past_alloc' {X w2 : World} {o : Obj} (hb : Below (X.alloc o).heap.size (X.alloc o) w2) : Below X.heap.size X w2 ∧ w2.heap[X.heap.size]? = some o := ⟨below_past hb rfl rfl rfl (by simp) (fun k hk => Below.heap_alloc X o k hk), blk_below (heap_alloc_new X o) hb⟩

theorem tale_new {w W : World} (hb : Below w.heap.size w W) {k : Nat} {o0 : Obj} (h : W.heap[k]? = some o0) (o : Obj) : Below w.heap.size w (W.alloc o) ∧ (W.alloc o).heap[W.heap.size]? = some o ∧ (W.alloc o).heap[k]? = some o0 :=
  ⟨hb.alloc hb.size o, heap_alloc_new W o, alk h⟩

set_option maxRecDepth 100000 in
set_option maxHeartbeats 1000000 in
theorem failing_any (stock store : Int) (a : Option Addr) (ds : List Dy) (cap : Nat) (w : World) (hx : Sl 6 Dy.cells w a ds) (hl : ds.length ≤ 1000000) :
    Calls Try.prog 88 #[wv stock store a ds.length cap] w (OutFail w (failR stock store ds)) := by
  have HX := Lib.hid (And.intro hx hl)
  clear hx hl
  obtain ⟨Wa, hWa⟩ : ∃ Wa, (w.alloc (.cells #[.int .i64 stock, .int .i64 store, .slice a ds.length cap] 60)).alloc (.cells #[.slice none 0 0, .slice none 0 0, .slice none 0 0, .int .i64 0, .int .i64 0] 146) = Wa := ⟨_, rfl⟩
  have hba : Below w.heap.size w Wa := by rw [← hWa]; exact ((Below.refl _ _).alloc (Nat.le_refl _) _).alloc (by simp) _
  have h0 : Wa.heap[w.heap.size]? = some (.cells #[.int .i64 stock, .int .i64 store, .slice a ds.length cap] 60 (0, 0)) := by rw [← hWa]; exact alk (new_at rfl)
  have h1 : Wa.heap[w.heap.size + 1]? = some (.cells #[.slice none 0 0, .slice none 0 0, .slice none 0 0, .int .i64 0, .int .i64 0] 146 (0, 0)) := by rw [← hWa]; exact new_at (by simp)
  have a0 := blk_cell h0 0 rfl
  have a1 := blk_cell h0 1 rfl
  have a2 := blk_cell h0 2 rfl
  go_enter Try.func88, Try.ntmps88
  go_wp2_with (fail)
  clear hWa a0 a1 a2
  refine (checkWinter_any stock store a ds cap _ (HX.out.1.below hba) HX.out.2).mono ?_
  rintro e w1 ⟨rfl, hb1⟩
  have H1 := Lib.hid (And.intro (below_self hba hb1) (And.intro (blk_below h0 hb1) (blk_below h1 hb1)))
  clear hba h0 h1 hb1
  by_cases hw : winE stock store ds = 0
  · have hwb : (winE stock store ds != 0) = false := by simp [hw]
    have HW := Lib.hid hw
    clear hw
    have c0 := blk_cell H1.out.2.1 0 rfl
    have c1 := blk_cell H1.out.2.1 1 rfl
    have c2 := blk_cell H1.out.2.1 2 rfl
    obtain ⟨b1, b2, b3⟩ := win_ok HW.out
    have HOK := Lib.hid (And.intro b1 (And.intro b2 b3))
    clear b1 b2 b3
    have n1 : w1.heap.size ≠ w.heap.size := Nat.ne_of_gt (lt_of_block H1.out.2.1)
    go_wp2_with (fail)
    go_region_held3 (fun w' => w'.cell? ⟨w.heap.size, 0, none⟩ = some (.int .i64 stock) ∧ w'.cell? ⟨w.heap.size, 1, none⟩ = some (.int .i64 store) ∧ w'.cell? ⟨w.heap.size, 2, none⟩ = some (.slice a ds.length cap)) (go_keep)
      (first
        | (go_at_call 101
           refine (play_worst (by first | exact H3.out.2.2.2.1 | exact H3.out.2.2.2.1.below ((Below.refl _ _).alloc (Nat.le_refl _) _)) (by first | exact H3.out.2.2.2.2.1 | exact H3.out.2.2.2.2.1.below ((Below.refl _ _).alloc (Nat.le_refl _) _)) (by first | exact H3.out.2.2.2.2.2 | exact H3.out.2.2.2.2.2.below ((Below.refl _ _).alloc (Nat.le_refl _) _)) HOK.out.2.1.2 ⟨HOK.out.1.1, HOK.out.1.2.1, HOK.out.1.2.2.2⟩ HOK.out.2.2).mono ?_
           rintro e w4 ⟨sa, sc, ma, mc, pa, pn, pc, rfl, hs, hm, hb4⟩
           first
             | (have K4 : Hid (Below w3.heap.size w3 w4) := hb4
                try (have TT' := Lib.hid (blk_below TT.out K4.out); clear TT t0 u0 t1 u1 t2 u2 t3 u3 t4 u4; have TT := TT'; clear TT'; have t0 := blk_cell TT.out 0 rfl; have u0 := blk_free (j := 0) TT.out; have t1 := blk_cell TT.out 1 rfl; have u1 := blk_free (j := 1) TT.out; have t2 := blk_cell TT.out 2 rfl; have u2 := blk_free (j := 2) TT.out; have t3 := blk_cell TT.out 3 rfl; have u3 := blk_free (j := 3) TT.out; have t4 := blk_cell TT.out 4 rfl; have u4 := blk_free (j := 4) TT.out))
             | (have K4' := past_alloc' (X := w3) (o := .cells #[.slice none 0 0, .slice none 0 0, .slice none 0 0, .int .i64 0, .int .i64 0] 146) hb4; have K4 := Lib.hid K4'.1; have TT := Lib.hid K4'.2; clear K4'; have t0 := blk_cell TT.out 0 rfl; have u0 := blk_free (j := 0) TT.out; have t1 := blk_cell TT.out 1 rfl; have u1 := blk_free (j := 1) TT.out; have t2 := blk_cell TT.out 2 rfl; have u2 := blk_free (j := 2) TT.out; have t3 := blk_cell TT.out 3 rfl; have u3 := blk_free (j := 3) TT.out; have t4 := blk_cell TT.out 4 rfl; have u4 := blk_free (j := 4) TT.out)
           have H4 := Lib.hid (And.intro (below_self H3.out.1 K4.out) (And.intro (blk_below H3.out.2.1 K4.out) (blk_below H3.out.2.2.1 K4.out)))
           clear hs hm hb4 K4 e0 e1 e2
           have n4 : w4.heap.size ≠ w.heap.size := Nat.ne_of_gt (lt_of_block H4.out.2.1); have e0 := blk_cell H4.out.2.1 0 rfl; have e1 := blk_cell H4.out.2.1 1 rfl; have e2 := blk_cell H4.out.2.1 2 rfl)
        | (go_at_call 94
           refine (spell_any 129 130 129 Sp.hi Sp.lo Sp.hi high_f low_f high_f stock store a ds cap _ (by first | exact HX.out.1.below H2.out.1 | exact HX.out.1.below (H2.out.1.alloc H2.out.1.size _)) HX.out.2).mono ?_
           rintro e w3 ⟨⟨an, cn, am, cm, al, cl, rfl, hN, hM, hL, hb3⟩⟩
           first
             | (have K3 : Hid (Below w2.heap.size w2 w3) := hb3
                try (have TT' := Lib.hid (blk_below TT.out K3.out); clear TT t0 u0 t1 u1 t2 u2 t3 u3 t4 u4; have TT := TT'; clear TT'; have t0 := blk_cell TT.out 0 rfl; have u0 := blk_free (j := 0) TT.out; have t1 := blk_cell TT.out 1 rfl; have u1 := blk_free (j := 1) TT.out; have t2 := blk_cell TT.out 2 rfl; have u2 := blk_free (j := 2) TT.out; have t3 := blk_cell TT.out 3 rfl; have u3 := blk_free (j := 3) TT.out; have t4 := blk_cell TT.out 4 rfl; have u4 := blk_free (j := 4) TT.out))
             | (have K3' := past_alloc' (X := w2) (o := .cells #[.slice none 0 0, .slice none 0 0, .slice none 0 0, .int .i64 0, .int .i64 0] 146) hb3; have K3 := Lib.hid K3'.1; have TT := Lib.hid K3'.2; clear K3'; have t0 := blk_cell TT.out 0 rfl; have u0 := blk_free (j := 0) TT.out; have t1 := blk_cell TT.out 1 rfl; have u1 := blk_free (j := 1) TT.out; have t2 := blk_cell TT.out 2 rfl; have u2 := blk_free (j := 2) TT.out; have t3 := blk_cell TT.out 3 rfl; have u3 := blk_free (j := 3) TT.out; have t4 := blk_cell TT.out 4 rfl; have u4 := blk_free (j := 4) TT.out)
           have H3 := Lib.hid (And.intro (below_self H2.out.1 K3.out) (And.intro (blk_below H2.out.2.1 K3.out) (And.intro (blk_below H2.out.2.2 K3.out) (And.intro hN (And.intro hM hL)))))
           clear hN hM hL hb3 K3 d0 d1 d2
           have n3 : w3.heap.size ≠ w.heap.size := Nat.ne_of_gt (lt_of_block H3.out.2.1); have e0 := blk_cell H3.out.2.1 0 rfl; have e1 := blk_cell H3.out.2.1 1 rfl; have e2 := blk_cell H3.out.2.1 2 rfl)
        | (go_at_call 93
           refine (worst_any _).mono ?_
           rintro e w2 ⟨rfl, hb2⟩
           first
             | (have K2 := Lib.hid (past_drew (X := w1) hb2))
             | (have K2' := past_alloc (X := w1) (o := .cells #[.slice none 0 0, .slice none 0 0, .slice none 0 0, .int .i64 0, .int .i64 0] 146) hb2; have K2 := Lib.hid K2'.1; have TT := Lib.hid K2'.2; clear K2'; have t0 := blk_cell TT.out 0 rfl; have u0 := blk_free (j := 0) TT.out; have t1 := blk_cell TT.out 1 rfl; have u1 := blk_free (j := 1) TT.out; have t2 := blk_cell TT.out 2 rfl; have u2 := blk_free (j := 2) TT.out; have t3 := blk_cell TT.out 3 rfl; have u3 := blk_free (j := 3) TT.out; have t4 := blk_cell TT.out 4 rfl; have u4 := blk_free (j := 4) TT.out)
           have H2 := Lib.hid (And.intro (below_self H1.out.1 K2.out) (And.intro (blk_below H1.out.2.1 K2.out) (blk_below H1.out.2.2 K2.out)))
           clear hb2 K2 c0 c1 c2
           have n2 : w2.heap.size ≠ w.heap.size := Nat.ne_of_gt (lt_of_block H2.out.2.1); have d0 := blk_cell H2.out.2.1 0 rfl; have d1 := blk_cell H2.out.2.1 1 rfl; have d2 := blk_cell H2.out.2.1 2 rfl))
    all_goals (
      have k1 := lt_of_block H1.out.2.2
      have k2 := lt_of_block H2.out.2.2
      have k3 := lt_of_block H3.out.2.2.1
      have k4 := lt_of_block H4.out.2.2
      have HZ0 : Hid (∃ T : Nat, True) := ⟨0, trivial⟩
      first
        | (obtain ⟨p1, p2, p3, _⟩ := five_put (v0 := .slice sa (worstL stock store ds).stocks.length sc) (v1 := .slice ma (worstL stock store ds).made.length mc) (v2 := .slice pa pn pc) (v3 := .int .i64 (worstL stock store ds).fails) (v4 := .int .i64 (worstL stock store ds).full) TT.out (show w.heap.size ≤ _ by omega) H4.out.1
           have HZ := Lib.hid (And.intro p1 (And.intro p2 ((p3 (w.heap.size + 1) (by omega)).trans H4.out.2.2)))
           clear p1 p2 p3
           revert HZ
           generalize World.setCell _ _ _ = W5
           intro HZ)
        | (have HZ := Lib.hid (tale_new H4.out.1 H4.out.2.2 (.cells #[.slice sa (worstL stock store ds).stocks.length sc, .slice ma (worstL stock store ds).made.length mc, .slice pa pn pc, .int .i64 (worstL stock store ds).fails, .int .i64 (worstL stock store ds).full] 146))
           revert HZ
           generalize World.alloc _ _ = W5
           intro HZ)
      clear k1 k2 k3 k4 HZ0 e0 e1 e2 n1 n2 n3 n4
      have x0 := blk_cell HZ.out.2.1 0 rfl
      have x1 := blk_cell HZ.out.2.1 1 rfl
      have x2 := blk_cell HZ.out.2.1 2 rfl
      have x3 := blk_cell HZ.out.2.1 3 rfl
      have x4 := blk_cell HZ.out.2.1 4 rfl
      have z0 := blk_cell HZ.out.2.2 0 rfl
      have z1 := blk_cell HZ.out.2.2 1 rfl
      have z2 := blk_cell HZ.out.2.2 2 rfl
      have z3 := blk_cell HZ.out.2.2 3 rfl
      have z4 := blk_cell HZ.out.2.2 4 rfl
      have y0 := blk_free (j := 0) HZ.out.2.2
      have y1 := blk_free (j := 1) HZ.out.2.2
      have y2 := blk_free (j := 2) HZ.out.2.2
      have y3 := blk_free (j := 3) HZ.out.2.2
      have y4 := blk_free (j := 4) HZ.out.2.2
      by_cases hf : (worstL stock store ds).fails = -1
      · have hfb : ((worstL stock store ds).fails == -1) = true := by simp [hf]
        have HR : Hid (failR stock store ds = (0, 0, 6)) := by show _ = _; rw [failR, if_pos HW.out, if_pos hf]
        clear hf
        go_wp2_with (fail)
        obtain ⟨p1, p2, p3, p4⟩ := five_put (v0 := .slice none 0 0) (v1 := .slice none 0 0) (v2 := .slice none 0 0) (v3 := .int .i64 0) (v4 := .int .i64 0) HZ.out.2.2 (show w.heap.size ≤ w.heap.size + 1 by omega) HZ.out.1
        have q0 := blk_cell p2 0 rfl
        have q1 := blk_cell p2 1 rfl
        have q2 := blk_cell p2 2 rfl
        have q3 := blk_cell p2 3 rfl
        have q4 := blk_cell p2 4 rfl
        refine bodyPost_ret (v := .tuple #[.agg #[.slice none 0 0, .slice none 0 0, .slice none 0 0, .int .i64 0, .int .i64 0], .int .i64 6]) (by simp [results, Try.results88, go_sem, q0, q1, q2, q3, q4]) rfl ?_
        rw [HR.out]
        exact ⟨none, none, none, 0, 0, 0, 0, 0, 0, rfl, p1⟩
      · have hfb : ((worstL stock store ds).fails == -1) = false := by simp [hf]
        have HR : Hid (failR stock store ds = ((worstL stock store ds).fails, (worstL stock store ds).full, 0)) := by show _ = _; rw [failR, if_pos HW.out, if_neg hf]
        clear hf
        go_wp2_with (fail)
        obtain ⟨p1, p2, p3, p4⟩ := five_put (v0 := .slice sa (worstL stock store ds).stocks.length sc) (v1 := .slice ma (worstL stock store ds).made.length mc) (v2 := .slice pa pn pc) (v3 := .int .i64 (worstL stock store ds).fails) (v4 := .int .i64 (worstL stock store ds).full) HZ.out.2.2 (show w.heap.size ≤ w.heap.size + 1 by omega) HZ.out.1
        have q0 := blk_cell p2 0 rfl
        have q1 := blk_cell p2 1 rfl
        have q2 := blk_cell p2 2 rfl
        have q3 := blk_cell p2 3 rfl
        have q4 := blk_cell p2 4 rfl
        refine bodyPost_ret (v := .tuple #[.agg #[.slice sa (worstL stock store ds).stocks.length sc, .slice ma (worstL stock store ds).made.length mc, .slice pa pn pc, .int .i64 (worstL stock store ds).fails, .int .i64 (worstL stock store ds).full], .int .i64 0]) (by simp [results, Try.results88, go_sem, q0, q1, q2, q3, q4]) rfl ?_
        rw [HR.out]
        exact ⟨sa, ma, pa, _, sc, _, mc, pn, pc, rfl, p1⟩)
  · have hwb : (winE stock store ds != 0) = true := by simp [hw]
    have HR : Hid (failR stock store ds = (0, 0, winE stock store ds)) := by show _ = _; rw [failR, if_neg hw]
    clear hw
    have z0 := blk_cell H1.out.2.2 0 rfl
    have z1 := blk_cell H1.out.2.2 1 rfl
    have z2 := blk_cell H1.out.2.2 2 rfl
    have z3 := blk_cell H1.out.2.2 3 rfl
    have z4 := blk_cell H1.out.2.2 4 rfl
    have y0 := blk_free (j := 0) H1.out.2.2
    have y1 := blk_free (j := 1) H1.out.2.2
    have y2 := blk_free (j := 2) H1.out.2.2
    have y3 := blk_free (j := 3) H1.out.2.2
    have y4 := blk_free (j := 4) H1.out.2.2
    go_wp2_with (fail)
    obtain ⟨p1, p2, p3, p4⟩ := five_put (v0 := .slice none 0 0) (v1 := .slice none 0 0) (v2 := .slice none 0 0) (v3 := .int .i64 0) (v4 := .int .i64 0) H1.out.2.2 (show w.heap.size ≤ w.heap.size + 1 by omega) H1.out.1
    have q0 := blk_cell p2 0 rfl
    have q1 := blk_cell p2 1 rfl
    have q2 := blk_cell p2 2 rfl
    have q3 := blk_cell p2 3 rfl
    have q4 := blk_cell p2 4 rfl
    refine bodyPost_ret (v := .tuple #[.agg #[.slice none 0 0, .slice none 0 0, .slice none 0 0, .int .i64 0, .int .i64 0], .int .i64 (winE stock store ds)]) (by simp [results, Try.results88, go_sem, q0, q1, q2, q3, q4]) rfl ?_
    rw [HR.out]
    exact ⟨none, none, none, 0, 0, 0, 0, 0, 0, rfl, p1⟩
end Go.Proofs.Ytkmcdmidegcbaaa
