/-
  The contract of awake over this seat's program.
  What is proved: it answers true; nothing that was there before has turned.
  Conditions: none.
-/
import Derived.Test.YtkmcdmidegcbaaaAQ
namespace Go.Proofs.Ytkmcdmidegcbaaa
open Go.RowKit Go.Shelf
attribute [local go_sem] Oper.semAt_some

theorem ints_of_block {W : World} {B : Nat} {cur : Array Value} {t : TypeId} {xs : List Int} (h : W.heap[B]? = some (.cells cur t (0, 0))) (hc : cur = (xs.map (Value.int .i64)).toArray) : IntSl W (some ⟨B, 0, none⟩) xs :=
  fun _ => ⟨B, 0, rfl, lt_of_block h, fun j hj => by rw [Nat.zero_add]; exact blk_cell h j (by subst hc; simp [hj])⟩

theorem all_three_any (a : Option Addr) (w : World) (hx : Sl 3 Lp.cells w a threeL) : Calls Try.prog 27 #[.slice a 3 3, threeR.v] w (OutCs w [[0, 0, 2], [0, 1, 1], [0, 1, 2]] 0) := by
  have h := all_any a threeL 3 threeR w hx (by decide)
  unfold AllOut at h
  rw [all_three] at h
  exact h
theorem broken_three_any (a : Option Addr) (b : Option Addr) (w : World) (hx : Sl 3 Lp.cells w a threeL) (hb : IntSl w b [1, 1, 1]) : Calls Try.prog 21 #[.slice a 3 3, threeR.v, .slice b 3 3] w fun e w' => ∃ c cap, e = .returned (.tuple #[.slice c 1 cap, .int .i64 0]) ∧ IntSl w' c [4] ∧ Below w.heap.size w w' := by
  have h := broken_any a threeL 3 threeR b [1, 1, 1] 3 w hx hb (by decide) (by decide)
  rw [broken_three] at h
  exact h.mono (fun e w' ⟨c, cap, h1, h2, _, h3⟩ => ⟨c, cap, h1, h2, h3⟩)
theorem cheap_three_any (a : Option Addr) (w : World) (hx : Sl 3 Lp.cells w a threeL) : Calls Try.prog 63 #[.slice a 3 3, threeR.v, .int .i64 40] w fun e w' => ∃ c cap, e = .returned (.tuple #[.slice c 3 cap, .int .i64 10800, .int .i64 0]) ∧ IntSl w' c [0, 1, 1] ∧ Below w.heap.size w w' := by
  have h := cheapest_any a threeL 3 threeR 40 w hx (by decide)
  rw [cheap_three] at h
  exact h
theorem yield_three_any (a : Option Addr) (w : World) (hx : Sl 3 Lp.cells w a threeL) : Calls Try.prog 30 #[.slice a 3 3, threeR2.v] w fun e w' => ∃ b cb c cc, e = .returned (.tuple #[.slice b 1 cb, .slice c 3 cc, .int .i64 0]) ∧ IntSl w' b [0] ∧ IntSl w' c [0, 1, 2] ∧ Below w.heap.size w w' := by
  have h := yield_any a threeL 3 threeR2 w hx (by decide)
  rw [yield_three] at h
  exact h

theorem same_all (a : Option Addr) (ca : Nat) (b : Option Addr) (cb : Nat) (w : World) (hx : SlsAt w a [[0, 0, 2], [0, 1, 1], [0, 1, 2]]) (hy : SlsAt w b [[0, 0, 2], [0, 1, 1], [0, 1, 2]]) :
    Calls Try.prog 29 #[.slice a 3 ca, .slice b 3 cb] w fun e w' => e = .returned (.bool true) ∧ Below w.heap.size w w' :=
  (equalAll_any a [[0, 0, 2], [0, 1, 1], [0, 1, 2]] ca b [[0, 0, 2], [0, 1, 1], [0, 1, 2]] cb w hx hy (by decide) (by decide)).mono (fun e w' h => ⟨by rw [h.1, decide_eq_true rfl], h.2⟩)
theorem same_int (a : Option Addr) (ca : Nat) (b : Option Addr) (cb : Nat) (x y z : Int) (w : World) (hx : IntSl w a [x, y, z]) (hy : IntSl w b [x, y, z]) :
    Calls Try.prog 23 #[.slice a 3 ca, .slice b 3 cb] w fun e w' => e = .returned (.bool true) ∧ Below w.heap.size w w' :=
  (equal_int a [x, y, z] ca b [x, y, z] cb w hx hy (by simp)).mono (fun e w' h => ⟨by rw [h.1, decide_eq_true rfl], h.2⟩)
theorem same_rule (a : Option Addr) (ca : Nat) (b : Option Addr) (cb : Nat) (x : Int) (w : World) (hx : IntSl w a [x]) (hy : IntSl w b [x]) :
    Calls Try.prog 64 #[.slice a 1 ca, .slice b 1 cb] w fun e w' => e = .returned (.bool true) ∧ Below w.heap.size w w' :=
  (equal_rule a [x] ca b [x] cb w hx hy (by simp)).mono (fun e w' h => ⟨by rw [h.1, decide_eq_true rfl], h.2⟩)
def spansL : List Sp := [⟨280, 390⟩, ⟨160, 600⟩]
theorem same_span (a : Option Addr) (ca : Nat) (b : Option Addr) (cb : Nat) (w : World) (hx : Sl 2 Sp.cells w a spansL) (hy : Sl 2 Sp.cells w b spansL) :
    Calls Try.prog 46 #[.slice a 2 ca, .slice b 2 cb] w fun e w' => e = .returned (.bool true) ∧ Below w.heap.size w w' :=
  (equal_span a spansL ca b spansL cb w hx hy (by decide)).mono (fun e w' h => ⟨by rw [h.1]; rfl, h.2⟩)
theorem first_short_any (a : Option Addr) (w : World) (hx : Sl 6 Dy.cells w a (shortL 500)) : Calls Try.prog 35 #[wv 500 800 a 3 3] w fun e w' => e = .returned (.tuple #[.int .i64 2, .int .i64 0]) ∧ Below w.heap.size w w' := by
  have h := First_any 500 800 a (shortL 500) 3 w hx (by decide)
  rw [fail_short.1, fail_short.2] at h
  exact h
theorem proves_short_any (a : Option Addr) (w : World) (hx : Sl 6 Dy.cells w a (shortL 500)) : Calls Try.prog 39 #[wv 500 800 a 3 3, .agg #[.int .i64 (-1), .int .i64 2]] w fun e w' => e = .returned (.tuple #[.int .i64 360, .int .i64 0]) ∧ Below w.heap.size w w' := by
  have h := proves_any 500 800 (-1) 2 a (shortL 500) 3 w hx (by decide)
  rw [proves_short] at h
  exact h
theorem ranges_short_any (a : Option Addr) (w : World) (hx : Sl 6 Dy.cells w a (shortL 500)) : Calls Try.prog 44 #[wv 500 800 a 3 3] w fun e w' => ∃ b cb, e = .returned (.tuple #[.slice b 2 cb, .int .i64 0]) ∧ Sl 2 Sp.cells w' b spansL ∧ Below w.heap.size w w' := by
  have h := ranges_any 500 800 a (shortL 500) 3 w hx (by decide)
  rw [ranges_short] at h
  exact h
theorem least_short_any (a : Option Addr) (w : World) (hx : Sl 6 Dy.cells w a (shortL 100)) : Calls Try.prog 40 #[wv 500 800 a 3 3] w fun e w' => e = .returned (.tuple #[.int .i64 460, .int .i64 0]) ∧ Below w.heap.size w w' :=
  (Least_any 500 800 a (shortL 100) 3 w hx (by decide)).mono (fun e w' h => least_short h)
theorem room_short_any (a : Option Addr) (w : World) (hx : Sl 6 Dy.cells w a (shortL 100)) : Calls Try.prog 42 #[wv 500 800 a 3 3] w fun e w' => e = .returned (.tuple #[.int .i64 540, .int .i64 0]) ∧ Below w.heap.size w w' :=
  (Room_any 500 800 a (shortL 100) 3 w hx (by decide)).mono (fun e w' h => room_short h)

theorem alloc1 (W : World) (o : Obj) : Below W.heap.size W (W.alloc o) := (Below.refl _ _).alloc (Nat.le_refl _) _
theorem threeSls (W : World) : SlsAt ((((W.alloc (.cells #[.int .i64 0, .int .i64 0, .int .i64 2] 3)).alloc (.cells #[.int .i64 0, .int .i64 1, .int .i64 1] 3)).alloc (.cells #[.int .i64 0, .int .i64 1, .int .i64 2] 3)).alloc (.cells #[.slice (some ⟨W.heap.size, 0, none⟩) 3 3, .slice (some ⟨W.heap.size + 1, 0, none⟩) 3 3, .slice (some ⟨W.heap.size + 1 + 1, 0, none⟩) 3 3] 27)) (some ⟨W.heap.size + 1 + 1 + 1, 0, none⟩) [[0, 0, 2], [0, 1, 1], [0, 1, 2]] := by
  generalize hWf : World.alloc _ _ = Wf
  have h0 : Wf.heap[W.heap.size]? = some (.cells #[.int .i64 0, .int .i64 0, .int .i64 2] 3 (0, 0)) := by rw [← hWf]; exact alk (alk (alk (heap_alloc_new W _)))
  have h1 : Wf.heap[W.heap.size + 1]? = some (.cells #[.int .i64 0, .int .i64 1, .int .i64 1] 3 (0, 0)) := by rw [← hWf]; exact alk (alk (new_at (by simp)))
  have h2 : Wf.heap[W.heap.size + 1 + 1]? = some (.cells #[.int .i64 0, .int .i64 1, .int .i64 2] 3 (0, 0)) := by rw [← hWf]; exact alk (new_at (by simp))
  have h3 : Wf.heap[W.heap.size + 1 + 1 + 1]? = some (.cells #[.slice (some ⟨W.heap.size, 0, none⟩) 3 3, .slice (some ⟨W.heap.size + 1, 0, none⟩) 3 3, .slice (some ⟨W.heap.size + 1 + 1, 0, none⟩) 3 3] 27 (0, 0)) := by rw [← hWf]; exact new_at (by simp)
  clear hWf
  intro _
  refine ⟨_, 0, rfl, lt_of_block h3, fun j c hj => ?_⟩
  rcases j with _ | _ | _ | j
  · simp at hj; subst hj; exact ⟨_, _, blk_cell h3 0 rfl, ints_of_block h0 rfl⟩
  · simp at hj; subst hj; exact ⟨_, _, blk_cell h3 1 rfl, ints_of_block h1 rfl⟩
  · simp at hj; subst hj; exact ⟨_, _, blk_cell h3 2 rfl, ints_of_block h2 rfl⟩
  · simp at hj

theorem spans_new (W : World) (t : TypeId) : Sl 2 Sp.cells (W.alloc (.cells #[.int .i64 280, .int .i64 390, .int .i64 160, .int .i64 600] t)) (some ⟨W.heap.size, 0, none⟩) spansL := by
  refine Sl.of_block (heap_alloc_new W _) ?_
  intro j x i u hx hu
  rcases j with _ | _ | j
  all_goals simp [spansL] at hx
  all_goals subst hx
  all_goals (rcases i with _ | _ | i <;> simp [Sp.cells] at hu <;> subst hu <;> rfl)

set_option maxRecDepth 100000 in
set_option maxHeartbeats 1000000 in
theorem awake_any (w : World) : Calls Try.prog 15 #[] w fun e w' => e = .returned (.bool true) ∧ Below w.heap.size w w' := by
  go_enter Try.func15, Try.ntmps15
  go_wp2_with (fail)
  refine (three_any w).mono ?_
  rintro e w1 ⟨a, rfl, hS, hb⟩
  have H1 := Lib.hid (And.intro hb hS)
  clear hb hS
  obtain ⟨Wa, hWa⟩ : ∃ Wa, w1.alloc threeR.o = Wa := ⟨_, rfl⟩
  have H2 := Lib.hid (show Below w.heap.size w Wa ∧ RuAt Wa w1.heap.size threeR ∧ Sl 3 Lp.cells Wa a threeL by rw [← hWa]; exact ⟨H1.out.1.alloc H1.out.1.size _, heap_alloc_new _ _, H1.out.2.below ((Below.refl _ _).alloc (Nat.le_refl _) _)⟩)
  obtain ⟨c0, c1, c2, c3, c4, c5, c6, c7, c8⟩ := H2.out.2.1.cells
  go_wp2_with (fail)
  clear hWa c0 c1 c2 c3 c4 c5 c6 c7 c8
  refine (all_three_any a _ H2.out.2.2).mono ?_
  rintro e w2 ⟨a2, cap2, rfl, hcs, hb2⟩
  have H3 := Lib.hid (And.intro (below_self H2.out.1 hb2) (And.intro (H2.out.2.1.below hb2) (And.intro (H2.out.2.2.below hb2) hcs)))
  clear hcs hb2
  obtain ⟨c0, c1, c2, c3, c4, c5, c6, c7, c8⟩ := H3.out.2.1.cells
  go_wp2_with (fail)
  clear c0 c1 c2 c3 c4 c5 c6 c7 c8
  refine (broken_three_any a _ _ (H3.out.2.2.1.below (alloc1 w2 _)) (ints_of_block (heap_alloc_new w2 _) rfl)).mono ?_
  rintro e w3 ⟨a3, cap3, rfl, hI, hb⟩
  have hb3 := below_self (alloc1 w2 _) hb
  have H4 := Lib.hid (And.intro (below_self H3.out.1 hb3) (And.intro (H3.out.2.1.below hb3) (And.intro (H3.out.2.2.1.below hb3) (And.intro (H3.out.2.2.2.below hb3) hI))))
  clear hI hb hb3
  obtain ⟨c0, c1, c2, c3, c4, c5, c6, c7, c8⟩ := H4.out.2.1.cells
  go_wp2_with (fail)
  clear c0 c1 c2 c3 c4 c5 c6 c7 c8
  refine (cheap_three_any a _ H4.out.2.2.1).mono ?_
  rintro e w4 ⟨a4, cap4, rfl, hI, hb⟩
  have H5 := Lib.hid (And.intro (below_self H4.out.1 hb) (And.intro (H4.out.2.1.below hb) (And.intro (H4.out.2.2.1.below hb) (And.intro (H4.out.2.2.2.1.below hb) (And.intro (H4.out.2.2.2.2.below hb) hI)))))
  clear hI hb
  go_wp2_with (fail)
  have HB4 : Hid (∀ o1 o2 o3 o4, Below w4.heap.size w4 ((((w4.alloc o1).alloc o2).alloc o3).alloc o4)) := fun o1 o2 o3 o4 => ((((Below.refl _ _).alloc (Nat.le_refl _) _).alloc (by simp) _).alloc (by simp <;> omega) _).alloc (by simp <;> omega) _
  refine (same_all a2 cap2 _ 3 _ (H5.out.2.2.2.1.below (HB4.out _ _ _ _)) (threeSls w4)).mono ?_
  rintro e w5 ⟨rfl, hb⟩
  have hb5 := below_self (HB4.out _ _ _ _) hb
  have H6 := Lib.hid (And.intro (below_self H5.out.1 hb5) (And.intro (H5.out.2.1.below hb5) (And.intro (H5.out.2.2.1.below hb5) (And.intro (H5.out.2.2.2.2.1.below hb5) (H5.out.2.2.2.2.2.below hb5)))))
  clear hb hb5 HB4
  go_wp2_with (fail)
  refine (same_rule a3 cap3 _ 1 4 _ (H6.out.2.2.2.1.below (alloc1 w5 _)) (ints_of_block (heap_alloc_new w5 _) rfl)).mono ?_
  rintro e w6 ⟨rfl, hb⟩
  have hb6 := below_self (alloc1 w5 _) hb
  have H7 := Lib.hid (And.intro (below_self H6.out.1 hb6) (And.intro (H6.out.2.1.below hb6) (And.intro (H6.out.2.2.1.below hb6) (H6.out.2.2.2.2.below hb6))))
  clear hb hb6
  go_wp2_with (fail)
  refine (same_int a4 cap4 _ 3 0 1 1 _ (H7.out.2.2.2.below (alloc1 w6 _)) (ints_of_block (heap_alloc_new w6 _) rfl)).mono ?_
  rintro e w7 ⟨rfl, hb⟩
  have hb7 := below_self (alloc1 w6 _) hb
  have H8 := Lib.hid (And.intro (below_self H7.out.1 hb7) (And.intro (H7.out.2.1.below hb7) (H7.out.2.2.1.below hb7)))
  clear hb hb7
  go_wp2_with (fail)
  refine (span_any 7000 7000 _).mono ?_
  rintro e w8 ⟨rfl, hw8⟩
  have hb := alloc1 w7 (.cells #[.int .i64 7000, .int .i64 7000] 24)
  rw [hw8] at hb
  have H9 := Lib.hid (And.intro (below_self H8.out.1 hb) (And.intro (H8.out.2.1.below hb) (H8.out.2.2.below hb)))
  clear hb hw8
  obtain ⟨c0, c1, c2, c3, c4, c5, c6, c7, c8⟩ := H9.out.2.1.cells
  have f1 := blk_free (j := 1) H9.out.2.1
  have f2 := blk_free (j := 2) H9.out.2.1
  have f8 := blk_free (j := 8) H9.out.2.1
  go_wp2_with (fail)
  clear c0 c1 c2 c3 c4 c5 c6 c7 c8 f1 f2 f8
  have hne : ∀ p, a = some p → p.block ≠ w1.heap.size := fun p hp => Nat.ne_of_lt (sl_lt H1.out.2 (by decide) p hp)
  have hsz := H1.out.1.size
  have H10 := Lib.hid (show Below w.heap.size w (((w8.setCell ⟨w1.heap.size, 8, none⟩ (.int .i64 1)).setCell ⟨w1.heap.size, 1, none⟩ (.int .i64 7000)).setCell ⟨w1.heap.size, 2, none⟩ (.int .i64 7000)) ∧ Sl 3 Lp.cells (((w8.setCell ⟨w1.heap.size, 8, none⟩ (.int .i64 1)).setCell ⟨w1.heap.size, 1, none⟩ (.int .i64 7000)).setCell ⟨w1.heap.size, 2, none⟩ (.int .i64 7000)) a threeL from
    ⟨((H9.out.1.setCell (p := ⟨w1.heap.size, 8, none⟩) hsz _).setCell (p := ⟨w1.heap.size, 1, none⟩) hsz _).setCell (p := ⟨w1.heap.size, 2, none⟩) hsz _, sl_set (sl_set (sl_set H9.out.2.2 hne) hne) hne⟩)
  clear hne hsz
  refine (yield_three_any a _ H10.out.2).mono ?_
  rintro e w9 ⟨b9, k9, c9, m9, rfl, hI, hJ, hb⟩
  have G9 := Lib.hid (And.intro (below_self H10.out.1 hb) (And.intro hI hJ))
  clear hI hJ hb
  go_wp2_with (fail)
  refine (short_any 500 w9).mono ?_
  rintro e w10 ⟨s10, rfl, hS, hb⟩
  have G10 := Lib.hid (And.intro (below_self G9.out.1 hb) (And.intro (G9.out.2.1.below hb) (And.intro (G9.out.2.2.below hb) hS)))
  clear hS hb
  go_wp2_with (fail)
  refine (first_short_any s10 w10 G10.out.2.2.2).mono ?_
  rintro e w11 ⟨rfl, hb⟩
  have G11 := Lib.hid (And.intro (below_self G10.out.1 hb) (And.intro (G10.out.2.1.below hb) (G10.out.2.2.1.below hb)))
  clear hb
  go_wp2_with (fail)
  refine (short_any 500 w11).mono ?_
  rintro e w12 ⟨s12, rfl, hS, hb⟩
  have G12 := Lib.hid (And.intro (below_self G11.out.1 hb) (And.intro (G11.out.2.1.below hb) (And.intro (G11.out.2.2.below hb) hS)))
  clear hS hb
  go_wp2_with (fail)
  refine (proves_short_any s12 w12 G12.out.2.2.2).mono ?_
  rintro e w13 ⟨rfl, hb⟩
  have G13 := Lib.hid (And.intro (below_self G12.out.1 hb) (And.intro (G12.out.2.1.below hb) (G12.out.2.2.1.below hb)))
  clear hb
  go_wp2_with (fail)
  refine (short_any 500 w13).mono ?_
  rintro e w14 ⟨s14, rfl, hS, hb⟩
  have G14 := Lib.hid (And.intro (below_self G13.out.1 hb) (And.intro (G13.out.2.1.below hb) (And.intro (G13.out.2.2.below hb) hS)))
  clear hS hb
  go_wp2_with (fail)
  refine (ranges_short_any s14 w14 G14.out.2.2.2).mono ?_
  rintro e w15 ⟨r15, k15, rfl, hS, hb⟩
  have G15 := Lib.hid (And.intro (below_self G14.out.1 hb) (And.intro (G14.out.2.1.below hb) (And.intro (G14.out.2.2.1.below hb) hS)))
  clear hS hb
  go_wp2_with (fail)
  refine (same_rule b9 k9 _ 1 0 _ (G15.out.2.1.below (alloc1 w15 _)) (ints_of_block (heap_alloc_new w15 _) rfl)).mono ?_
  rintro e w16 ⟨rfl, hb⟩
  have hb16 := below_self (alloc1 w15 _) hb
  have G16 := Lib.hid (And.intro (below_self G15.out.1 hb16) (And.intro (G15.out.2.2.1.below hb16) (G15.out.2.2.2.below hb16)))
  clear hb hb16
  go_wp2_with (fail)
  refine (same_int c9 m9 _ 3 0 1 2 _ (G16.out.2.1.below (alloc1 w16 _)) (ints_of_block (heap_alloc_new w16 _) rfl)).mono ?_
  rintro e w17 ⟨rfl, hb⟩
  have hb17 := below_self (alloc1 w16 _) hb
  have G17 := Lib.hid (And.intro (below_self G16.out.1 hb17) (G16.out.2.2.below hb17))
  clear hb hb17
  go_wp2_with (fail)
  refine (same_span r15 k15 _ 2 _ (G17.out.2.below (alloc1 w17 _)) (spans_new w17 _)).mono ?_
  rintro e w18 ⟨rfl, hb⟩
  have G18 := Lib.hid (below_self G17.out.1 (below_self (alloc1 w17 _) hb))
  clear hb
  go_wp2_with (fail)
  refine (short_any 100 w18).mono ?_
  rintro e w19 ⟨s19, rfl, hS, hb⟩
  have G19 := Lib.hid (And.intro (below_self G18.out hb) hS)
  clear hS hb
  go_wp2_with (fail)
  refine (least_short_any s19 w19 G19.out.2).mono ?_
  rintro e w20 ⟨rfl, hb⟩
  have G20 := Lib.hid (below_self G19.out.1 hb)
  clear hb
  go_wp2_with (fail)
  refine (short_any 100 w20).mono ?_
  rintro e w21 ⟨s21, rfl, hS, hb⟩
  have G21 := Lib.hid (And.intro (below_self G20.out hb) hS)
  clear hS hb
  go_wp2_with (fail)
  refine (room_short_any s21 w21 G21.out.2).mono ?_
  rintro e w22 ⟨rfl, hb⟩
  have G22 := Lib.hid (below_self G21.out.1 hb)
  clear hb
  go_wp2
  go_ret
  exact ⟨rfl, G22.out⟩
end Go.Proofs.Ytkmcdmidegcbaaa
