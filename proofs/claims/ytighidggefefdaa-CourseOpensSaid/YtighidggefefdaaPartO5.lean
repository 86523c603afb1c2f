/-
The contract of CourseOpens over this seat's program.
  What is proved: it answers true; nothing that was there before has turned.
  Conditions: a winter whose days read as such.
-/
import Derived.Test.YtighidggefefdaaPartO4
import Derived.StillTailTactics
import Derived.Deep.DeepCutAuto
namespace Go.Proofs.Ytighidggefefdaa
open Go.RowKit Go.Shelf
attribute [local go_sem] Oper.semAt_some

/-- A law of a state of a walk, kept for all ways that come to it. -/
theorem with_join {P : Program} {md : Region.Mode} {ops : Array Oper} {Q : Exit → Act → World → Prop} {S : World → Prop} {f0 : Nat} {l0 : Array Bool} {a0 : Act} {w0 : World} (J : (Nat → Array Bool → Act → World → Prop) → Array Bool → Act → Prop)
    (hJ : J (fun f l a w => wpAnyH P md ops Q S f l a w) l0 a0) (k : J (fun f l a w => wpAnyH P md ops Q S f l a w) l0 a0 → wpAnyH P md ops Q S f0 l0 a0 w0) : wpAnyH P md ops Q S f0 l0 a0 w0 := k hJ
/-- What Why hands back for a day that can fail is a proof that holds. -/
theorem fail_proved {stock store : Int} {ds : List Dy} (h0 : (failR stock store ds).2.2 = 0) : ∃ n : Int, provesR stock store ds (failR stock store ds).2.1 (failR stock store ds).1 = (n, 0) ∧ 1 ≤ n := by
  have hw : winE stock store ds = 0 := by
    by_cases hw : winE stock store ds = 0
    · exact hw
    · unfold failR at h0
      rw [if_neg hw] at h0
      exact absurd h0 hw
  by_cases hf : (worstL stock store ds).fails = -1
  · unfold failR at h0
    rw [if_pos hw, if_pos hf] at h0
    cases h0
  have he : failR stock store ds = ((worstL stock store ds).fails, (worstL stock store ds).full, 0) := by unfold failR; rw [if_pos hw, if_neg hf]
  rw [he]
  show ∃ n : Int, provesR stock store ds (worstL stock store ds).full (worstL stock store ds).fails = (n, 0) ∧ 1 ≤ n
  obtain ⟨b1, b2, b3⟩ := win_ok hw
  have h1 : (-1 ≤ (worstL stock store ds).full ∧ (worstL stock store ds).full ≤ (worstL stock store ds).fails) ∧ (worstLack stock store (worstL stock store ds).full ds (worstL stock store ds).fails.toNat).2 = true := why_lack stock store _ _ _ ds.length hf
  rcases play_len stock store (ds.map fun d => d.need.hi) (ds.map fun d => d.make.lo) (ds.map fun d => d.loss.hi) ds.length with ⟨h, _⟩ | ⟨q, hq, _, _, hlt⟩
  · exact absurd h hf
  · have hq' : (worstL stock store ds).fails = q := hq
    rw [hq'] at h1 ⊢
    rw [Int.toNat_natCast] at h1
    have c1 : withinB (q : Int) 0 (ds.length - 1) = true := by simp [withinB]; omega
    have c2 : withinB (worstL stock store ds).full (-1) q = true := by simp [withinB]; omega
    have hp : provesR stock store ds (worstL stock store ds).full q = ((worstLack stock store (worstL stock store ds).full ds q).1, 0) := by
      unfold provesR
      rw [if_pos hw, if_pos c1, if_pos c2, Int.toNat_natCast, if_pos h1.2]
    exact ⟨_, hp, (proof_true ⟨b1.1, b1.2.1⟩ b3 h1.1.2 (List.getElem?_eq_getElem hlt) h1.2).2.1.1⟩
/-- With an error there is no proof. -/
theorem fail_empty {stock store : Int} {ds : List Dy} (h0 : (failR stock store ds).2.2 ≠ 0) : (failR stock store ds).1 = 0 ∧ (failR stock store ds).2.1 = 0 := by
  unfold failR at *
  split
  · rename_i hw
    rw [if_pos hw] at h0
    split
    · exact ⟨rfl, rfl⟩
    · rename_i hf
      rw [if_neg hf] at h0
      exact absurd rfl h0
  · exact ⟨rfl, rfl⟩

/-- A list of days does not lie in a block of three cells. -/
theorem sl_not {W : World} {A : Nat} {t : TypeId} {u v x : Value} {a : Option Addr} {ds : List Dy} (h : Sl 6 Dy.cells W a ds) (hA : W.heap[A]? = some (.cells #[u, v, x] t (0, 0))) (h0 : 0 < ds.length) : ∀ p, a = some p → p.block ≠ A := by
  obtain ⟨b, off, rfl, hb, hc⟩ := h h0
  intro p hp
  cases hp
  intro e
  have e' : b = A := e
  subst e'
  have hd : ds[0]? = some ds[0] := List.getElem?_eq_getElem h0
  have h5 := hc 0 ds[0] 5 _ hd rfl
  have h6 : W.cell? ⟨b, off + 0 * 6 + 5, none⟩ = (#[u, v, x])[off + 0 * 6 + 5]? := by simp [World.cell?, hA]
  rw [h5, Array.getElem?_eq_none (by simp)] at h6
  cases h6
theorem sl_put3 {W : World} {A : Nat} {t : TypeId} {u v x : Value} {a : Option Addr} {ds : List Dy} (h : Sl 6 Dy.cells W a ds) (hA : W.heap[A]? = some (.cells #[u, v, x] t (0, 0))) (p q r : Value) : Sl 6 Dy.cells (((W.setCell ⟨A, 0, none⟩ p).setCell ⟨A, 1, none⟩ q).setCell ⟨A, 2, none⟩ r) a ds := fun h0 =>
  sl_set (sl_set (sl_set h (sl_not h hA h0)) (sl_not h hA h0)) (sl_not h hA h0) h0
theorem put3_keep {W : World} {A j : Nat} (h : j ≠ A) (p q r : Value) : (((W.setCell ⟨A, 0, none⟩ p).setCell ⟨A, 1, none⟩ q).setCell ⟨A, 2, none⟩ r).heap[j]? = W.heap[j]? := by
  rw [Below.heap_setCell _ ⟨A, 2, none⟩ _ _ h, Below.heap_setCell _ ⟨A, 1, none⟩ _ _ h, Below.heap_setCell _ ⟨A, 0, none⟩ _ _ h]

/-- The law's own boxes. -/
structure OB (w W : World) (stock store : Int) (a : Option Addr) (ds : List Dy) (cap : Nat) (pf pd : Int) : Prop where
  b : Below w.heap.size w W
  p0 : W.heap[w.heap.size]? = some (.cells #[.int .i64 stock, .int .i64 store, .slice a ds.length cap] 60 (0, 0))
  p1 : W.heap[w.heap.size + 1]? = some (.cells #[.int .i64 pf, .int .i64 pd] 62 (0, 0))
  x : Sl 6 Dy.cells W a ds
  sz : w.heap.size + 1 + 1 ≤ W.heap.size
theorem OB.below {w W W' : World} {stock store : Int} {a : Option Addr} {ds : List Dy} {cap : Nat} {pf pd : Int} (h : OB w W stock store a ds cap pf pd) (hb : Below W.heap.size W W') : OB w W' stock store a ds cap pf pd := ⟨below_self h.b hb, blk_below h.p0 hb, blk_below h.p1 hb, h.x.below hb, Nat.le_trans h.sz hb.size⟩
theorem OB.put3 {w W : World} {stock store : Int} {a : Option Addr} {ds : List Dy} {cap : Nat} {pf pd : Int} {A : Nat} {t : TypeId} {u v x : Value} (h : OB w W stock store a ds cap pf pd) (hA : W.heap[A]? = some (.cells #[u, v, x] t (0, 0))) (hl : w.heap.size + 1 < A) (p q r : Value) : OB w (((W.setCell ⟨A, 0, none⟩ p).setCell ⟨A, 1, none⟩ q).setCell ⟨A, 2, none⟩ r) stock store a ds cap pf pd :=
  ⟨((h.b.setCell (p := ⟨A, 0, none⟩) (by show w.heap.size ≤ A; omega) _).setCell (p := ⟨A, 1, none⟩) (by show w.heap.size ≤ A; omega) _).setCell (p := ⟨A, 2, none⟩) (by show w.heap.size ≤ A; omega) _,
   (put3_keep (by omega) _ _ _).trans h.p0, (put3_keep (by omega) _ _ _).trans h.p1, sl_put3 h.x hA _ _ _, by simpa using h.sz⟩

/-- All four boxes. -/
structure OC (w W : World) (stock store : Int) (a : Option Addr) (ds : List Dy) (cap : Nat) (pf pd : Int) (A4 A5 : Nat) (a1 : Option Addr) (c1 : Nat) (a2 : Option Addr) (c2 : Nat) : Prop where
  ob : OB w W stock store a ds cap pf pd
  o : W.heap[A4]? = some (.cells #[.int .i64 stock, .int .i64 store, .slice a1 ds.length c1] 60 (0, 0))
  m : W.heap[A5]? = some (.cells #[.int .i64 stock, .int .i64 store, .slice a2 ds.length c2] 67 (0, 0))
  x1 : Sl 6 Dy.cells W a1 ds
  x2 : Sl 6 Dy.cells W a2 ds
theorem OC.below {w W W' : World} {stock store : Int} {a : Option Addr} {ds : List Dy} {cap : Nat} {pf pd : Int} {A4 A5 : Nat} {a1 : Option Addr} {c1 : Nat} {a2 : Option Addr} {c2 : Nat} (h : OC w W stock store a ds cap pf pd A4 A5 a1 c1 a2 c2) (hb : Below W.heap.size W W') : OC w W' stock store a ds cap pf pd A4 A5 a1 c1 a2 c2 := ⟨h.ob.below hb, blk_below h.o hb, blk_below h.m hb, h.x1.below hb, h.x2.below hb⟩

set_option maxHeartbeats 1000000 in
theorem long_any (stock store : Int) (a : Option Addr) (n cap : Nat) (w : World) :
    Calls Try.prog 32 #[wv stock store a n cap, .slice none 0 0] w fun e w' => e = .returned (.bool (decide (65 < n))) ∧ Below w.heap.size w w' := by
  have hB0 : Below w.heap.size w (w.alloc (.cells #[.int .i64 stock, .int .i64 store, .slice a n cap] 60)) := (Below.refl _ _).alloc (Nat.le_refl _) _
  have hR0 : (w.alloc (.cells #[.int .i64 stock, .int .i64 store, .slice a n cap] 60)).heap[w.heap.size]? = some (.cells #[.int .i64 stock, .int .i64 store, .slice a n cap] 60 (0, 0)) := heap_alloc_new _ _
  go_enter Try.func32, Try.ntmps32
  go_wp2_with (fail)
  generalize w.alloc (.cells #[.int .i64 stock, .int .i64 store, .slice a n cap] 60) = W0 at hB0 hR0 ⊢
  go_loopw [9] (fun i wr => i = .int .i64 0 ∧ wr = W0) (fun _ _ => 0)
  case atStart => exact ⟨rfl, rfl⟩
  case round =>
    obtain ⟨rfl, rfl⟩ := hrel
    have c2 := blk_cell hR0 2 rfl
    by_cases h : 65 < n
    · have g : decide ((65 : Int) < (n : Int)) = true := decide_eq_true (by omega)
      have g' : decide (65 < n) = true := decide_eq_true h
      go_wp2_with (fail)
      go_ret
      exact ⟨by rw [g']; rfl, hB0⟩
    · have g : decide ((65 : Int) < (n : Int)) = false := decide_eq_false (by omega)
      have g' : decide (65 < n) = false := decide_eq_false h
      go_wp2_with (fail)
      go_ret
      exact ⟨by rw [g']; rfl, hB0⟩

/-- What is handed back by Least and by Room. -/
def PairL (stock store : Int) (ds : List Dy) (lo hi : Int) (q : Int → Bool) (x y : Int) : Prop := if winE stock store ds = 0 then OutLeast lo hi q (.returned (.tuple #[.int .i64 x, .int .i64 y])) else x = 0 ∧ y = winE stock store ds
theorem outW_pair {w w' : World} {stock store : Int} {ds : List Dy} {lo hi : Int} {q : Int → Bool} {e : Ending} (h : OutLeastW w stock store ds lo hi q e w') : ∃ x y : Int, e = .returned (.tuple #[.int .i64 x, .int .i64 y]) ∧ PairL stock store ds lo hi q x y ∧ Below w.heap.size w w' := by
  obtain ⟨h1, h2⟩ := h
  unfold PairL
  by_cases hw : winE stock store ds = 0
  · rw [if_pos hw] at h1
    obtain ⟨x, y, e1, _⟩ := out_least_one h1 h1
    exact ⟨x, y, e1, by rw [if_pos hw]; rw [← e1]; exact h1, h2⟩
  · rw [if_neg hw] at h1
    exact ⟨0, _, h1, by rw [if_neg hw]; exact ⟨rfl, rfl⟩, h2⟩
theorem pair_one {stock store : Int} {ds : List Dy} {lo hi : Int} {q : Int → Bool} {x y x' y' : Int} (h1 : PairL stock store ds lo hi q x y) (h2 : PairL stock store ds lo hi q x' y') : x' = x ∧ y' = y := by
  unfold PairL at *
  by_cases hw : winE stock store ds = 0
  · rw [if_pos hw] at h1 h2
    obtain ⟨u, v, e1, e2⟩ := out_least_one h1 h2
    simp at e1 e2
    obtain ⟨rfl, rfl⟩ := e1
    exact e2
  · rw [if_neg hw] at h1 h2
    obtain ⟨rfl, rfl⟩ := h1
    exact h2
theorem eqSps_self (xs : List Sp) : eqSps xs xs = true := by
  simp [eqSps]
  intro x hx
  cases xs[x]? <;> simp [eqSp]
theorem ranges_few {stock store : Int} {ds : List Dy} (h : ds.length ≤ 1000) : (rangesR stock store ds).1.length ≤ 1000000 := by
  unfold rangesR
  split
  · have := (playL_len stock store (ds.map fun d => d.need.hi) (ds.map fun d => d.make.lo) (ds.map fun d => d.loss.hi) ds.length).1
    show (rangesL stock store ds).length ≤ _
    unfold rangesL
    rw [List.length_map, List.length_range]
    exact Nat.le_trans this (by omega)
  · show 0 ≤ _; omega

set_option maxRecDepth 100000 in
set_option maxHeartbeats 20000000 in
theorem opens_law (stock store : Int) (a : Option Addr) (ds : List Dy) (cap : Nat) (pf pd : Int) (w : World) (hx : Sl 6 Dy.cells w a ds) (hna : a = none → ds.length = 0 ∧ cap = 0) :
    Calls Try.prog 5 #[wv stock store a ds.length cap, .agg #[.int .i64 pf, .int .i64 pd]] w fun e w' => e = .returned (.bool true) ∧ Below w.heap.size w w' := by
  have h0 : OB w ((w.alloc (.cells #[.int .i64 stock, .int .i64 store, .slice a ds.length cap] 60)).alloc (.cells #[.int .i64 pf, .int .i64 pd] 62)) stock store a ds cap pf pd := by
    have hb : Below w.heap.size w ((w.alloc (.cells #[.int .i64 stock, .int .i64 store, .slice a ds.length cap] 60)).alloc (.cells #[.int .i64 pf, .int .i64 pd] 62)) := ((Below.refl _ _).alloc (Nat.le_refl _) _).alloc (by simp) _
    exact ⟨hb, alk (new_at rfl), new_at (by simp), hx.below hb, by simp⟩
  have HNA := Lib.hid hna
  have HO := Lib.hid h0
  clear h0 hx hna
  go_enter Try.func5, Try.ntmps5
  go_wp2_with (fail)
  generalize (w.alloc (.cells #[.int .i64 stock, .int .i64 store, .slice a ds.length cap] 60)).alloc (.cells #[.int .i64 pf, .int .i64 pd] 62) = Wa at HO ⊢
  refine (long_any stock store a ds.length cap Wa).mono ?_
  rintro e Wb ⟨rfl, hb⟩
  replace HO := Lib.hid (HO.out.below hb)
  clear hb
  by_cases h65 : 65 < ds.length
  · rw [decide_eq_true h65]
    have HBB := Lib.hid HO.out.b
    clear h65
    go_wp2_with (first | (go_at_call 15; refine (awake_any _).mono ?_; rintro e v7 ⟨rfl, hb⟩; have HM2 := Lib.hid (below_self HBB.out hb); clear hb))
    go_ret
    exact ⟨rfl, HM2.out⟩
  rw [decide_eq_false h65]
  have HL65 : Hid (ds.length ≤ 1000) := by show _ ≤ _; omega
  have HL6 : Hid (ds.length ≤ 1000000) := by show _ ≤ _; omega
  clear h65
  have c0 := blk_cell HO.out.p0 0 rfl
  have c1 := blk_cell HO.out.p0 1 rfl
  have c2 := blk_cell HO.out.p0 2 rfl
  go_upto_region 3 with (fail)
  clear c0 c1 c2
  refine wp_region_split (S := fun W' => W'.cell? ⟨w.heap.size, 0, none⟩ = some (.int .i64 stock) ∧ W'.cell? ⟨w.heap.size, 1, none⟩ = some (.int .i64 store) ∧ W'.cell? ⟨w.heap.size, 2, none⟩ = some (.slice a ds.length cap)) [6, 7] 6 (by kernel_rfl) (by kernel_rfl) rfl ?_
  have H0 : Hid (OB w Wb.drew stock store a ds cap pf pd) := HO.out.below (Below.refl _ _).drew
  clear HO
  generalize Wb.drew = W0 at H0 ⊢
  rw [show firstL _ [6, 7] = #[false, false, false, false, false, false, true, true] from by kernel_rfl]
  refine wpAnyH_take (i := 0) (v := (.agg #[.int .i64 stock, .int .i64 store, .slice a ds.length cap])) rfl (by kernel_rfl) (by kernel_rfl) (by kernel_rfl) (fun _ _ _ h => h) (Or.inl ⟨by rfl, by (intro W hSw; have c0 := hSw.1; have c1 := hSw.2.1; have c2 := hSw.2.2; clear hSw; go_simp)⟩) ⟨blk_cell H0.out.p0 0 rfl, blk_cell H0.out.p0 1 rfl, blk_cell H0.out.p0 2 rfl⟩ ?_
  simp only [Act.put, List.setIfInBounds_toArray, List.set_cons_zero, List.set_cons_succ]
  refine wpAnyH_take (i := 2) (v := (.agg #[.int .i64 stock, .int .i64 store, .slice a ds.length cap])) rfl (by kernel_rfl) (by kernel_rfl) (by kernel_rfl) (fun _ _ _ h => h) (Or.inl ⟨by rfl, by (intro W hSw; have c0 := hSw.1; have c1 := hSw.2.1; have c2 := hSw.2.2; clear hSw; go_simp)⟩) ⟨blk_cell H0.out.p0 0 rfl, blk_cell H0.out.p0 1 rfl, blk_cell H0.out.p0 2 rfl⟩ ?_
  simp only [Act.put, List.setIfInBounds_toArray, List.set_cons_zero, List.set_cons_succ]
  refine with_join (fun G lz az => ∀ (Wz : World) (a1 : Option Addr) (c1 : Nat) (a2 : Option Addr) (c2 : Nat) (A4 : Nat) (A5 : Nat), Hid (OB w Wz stock store a ds cap pf pd ∧ Sl 6 Dy.cells Wz a1 ds ∧ Sl 6 Dy.cells Wz a2 ds ∧ Wz.heap[A4]? = some (.cells #[.int .i64 0, .int .i64 0, .slice none 0 0] 60 (0, 0)) ∧ w.heap.size + 1 < A4 ∧ Wz.heap[A5]? = some (.cells #[.int .i64 0, .int .i64 0, .slice none 0 0] 67 (0, 0)) ∧ w.heap.size + 1 < A5 ∧ A4 ≠ A5) → G 0 ((((lz.setIfInBounds 1 true).setIfInBounds 3 true).setIfInBounds 4 true).setIfInBounds 5 true) ((((az.put (some 21) (wv stock store a1 ds.length c1)).put (some 23) (wv stock store a2 ds.length c2)).put (some 5) (.pointer (some ⟨A4, 0, none⟩))).put (some 6) (.pointer (some ⟨A5, 0, none⟩))) Wz) ?_ (fun J2110 => ?_)
  · intro Wz a1 c1 a2 c2 A4 A5 Hz
    simp only [Act.put, List.setIfInBounds_toArray, List.set_cons_zero, List.set_cons_succ]
    refine wpAnyH_done (by kernel_rfl) ?_ _
    show wpList _ _ _ (opsAt _ [6, 7]) _ _
    simp only [opsAt, List.filterMap_cons, List.filterMap_nil, List.getElem?_toArray, List.getElem?_cons_succ, List.getElem?_cons_zero]
    have h5 := Hz.out.2.2.2.2.2.1
    have e0 := blk_cell h5 0 rfl
    have e1 := blk_cell h5 1 rfl
    have e2 := blk_cell h5 2 rfl
    have f0 := blk_free (j := 0) h5
    have f1 := blk_free (j := 1) h5
    have f2 := blk_free (j := 2) h5
    have h4 := Hz.out.2.2.2.1
    have g0 := blk_cell h4 0 rfl
    have g1 := blk_cell h4 1 rfl
    have g2 := blk_cell h4 2 rfl
    have k0 := blk_free (j := 0) h4
    have k1 := blk_free (j := 1) h4
    have k2 := blk_free (j := 2) h4
    have hne : A4 ≠ A5 := Hz.out.2.2.2.2.2.2.2
    have h5' : ((((Wz.setCell ⟨A4, 0, none⟩ (.int .i64 stock)).setCell ⟨A4, 1, none⟩ (.int .i64 store)).setCell ⟨A4, 2, none⟩ (.slice a1 ds.length c1))).heap[A5]? = some (.cells #[.int .i64 0, .int .i64 0, .slice none 0 0] 67 (0, 0)) := (put3_keep hne.symm _ _ _).trans h5
    have h4' : ((((Wz.setCell ⟨A4, 0, none⟩ (.int .i64 stock)).setCell ⟨A4, 1, none⟩ (.int .i64 store)).setCell ⟨A4, 2, none⟩ (.slice a1 ds.length c1))).heap[A4]? = some (.cells #[.int .i64 stock, .int .i64 store, .slice a1 ds.length c1] 60 (0, 0)) := blk_setCell (j := 2) (blk_setCell (j := 1) (blk_setCell (j := 0) h4))
    have HW : Hid (OC w ((((((Wz.setCell ⟨A4, 0, none⟩ (.int .i64 stock)).setCell ⟨A4, 1, none⟩ (.int .i64 store)).setCell ⟨A4, 2, none⟩ (.slice a1 ds.length c1)).setCell ⟨A5, 0, none⟩ (.int .i64 stock)).setCell ⟨A5, 1, none⟩ (.int .i64 store)).setCell ⟨A5, 2, none⟩ (.slice a2 ds.length c2)) stock store a ds cap pf pd A4 A5 a1 c1 a2 c2) := ⟨(Hz.out.1.put3 h4 Hz.out.2.2.2.2.1 _ _ _).put3 h5' Hz.out.2.2.2.2.2.2.1 _ _ _, (put3_keep hne _ _ _).trans h4', blk_setCell (j := 2) (blk_setCell (j := 1) (blk_setCell (j := 0) h5')), sl_put3 (sl_put3 Hz.out.2.1 h4 _ _ _) h5' _ _ _, sl_put3 (sl_put3 Hz.out.2.2.1 h4 _ _ _) h5' _ _ _⟩
    clear h4' h5'
    clear h4 h5 Hz
    go_upto_region 4 with (fail)
    clear e0 e1 e2 f0 f1 f2 g0 g1 g2 k0 k1 k2 hne
    generalize (((((Wz.setCell ⟨A4, 0, none⟩ (.int .i64 stock)).setCell ⟨A4, 1, none⟩ (.int .i64 store)).setCell ⟨A4, 2, none⟩ (.slice a1 ds.length c1)).setCell ⟨A5, 0, none⟩ (.int .i64 stock)).setCell ⟨A5, 1, none⟩ (.int .i64 store)).setCell ⟨A5, 2, none⟩ (.slice a2 ds.length c2) = We at HW ⊢
    have o0 := blk_cell HW.out.o 0 rfl
    have o1 := blk_cell HW.out.o 1 rfl
    have o2 := blk_cell HW.out.o 2 rfl
    have m0 := blk_cell HW.out.m 0 rfl
    have m1 := blk_cell HW.out.m 1 rfl
    have m2 := blk_cell HW.out.m 2 rfl
    have p0 := blk_cell HW.out.ob.p1 0 rfl
    have p1 := blk_cell HW.out.ob.p1 1 rfl
    have r0 := blk_cell HW.out.ob.p0 0 rfl
    have r1 := blk_cell HW.out.ob.p0 1 rfl
    have r2 := blk_cell HW.out.ob.p0 2 rfl
    obtain ⟨f1, hf1⟩ : ∃ x, (failR stock store ds).1 = x := ⟨_, rfl⟩
    obtain ⟨f2, hf2⟩ : ∃ x, (failR stock store ds).2.1 = x := ⟨_, rfl⟩
    obtain ⟨fe, hfe⟩ : ∃ x, (failR stock store ds).2.2 = x := ⟨_, rfl⟩
    have HFE := Lib.hid (And.intro hf1 (And.intro hf2 hfe))
    clear hf1 hf2 hfe
    have HC1 : Hid (∀ W, Sl 6 Dy.cells W a1 ds → Calls Try.prog 35 #[wv stock store a1 ds.length c1] W fun e w' => e = .returned (.tuple #[.int .i64 f1, .int .i64 fe]) ∧ Below W.heap.size W w') := fun W hW => by
      have h := First_any stock store a1 ds c1 W hW HL6.out
      rw [HFE.out.1, HFE.out.2.2] at h
      exact h
    have HC2 : Hid (∀ W, Sl 6 Dy.cells W a2 ds → Calls Try.prog 36 #[wv stock store a2 ds.length c2] W fun e w' => e = .returned (.tuple #[.int .i64 f1, .int .i64 fe]) ∧ Below W.heap.size W w') := fun W hW => by
      have h := refFirst_any stock store a2 ds c2 W hW HL6.out
      rw [HFE.out.1, HFE.out.2.2] at h
      exact h
    have HC3 : Hid (∀ W, Sl 6 Dy.cells W a1 ds → Calls Try.prog 37 #[wv stock store a1 ds.length c1] W fun e w' => e = .returned (.tuple #[.agg #[.int .i64 f2, .int .i64 f1], .int .i64 fe]) ∧ Below W.heap.size W w') := fun W hW => by
      have h := Why_any stock store a1 ds c1 W hW HL6.out
      rw [HFE.out.1, HFE.out.2.1, HFE.out.2.2] at h
      exact h
    go_wp2_with (fail)
    refine (HC1.out _ HW.out.x1).mono ?_
    rintro e V1 ⟨rfl, hb⟩
    have HW1 := Lib.hid (HW.out.below hb)
    clear hb HW
    clear o0 o1 o2 m0 m1 m2 p0 p1 r0 r1 r2
    have o0 := blk_cell HW1.out.o 0 rfl
    have o1 := blk_cell HW1.out.o 1 rfl
    have o2 := blk_cell HW1.out.o 2 rfl
    have m0 := blk_cell HW1.out.m 0 rfl
    have m1 := blk_cell HW1.out.m 1 rfl
    have m2 := blk_cell HW1.out.m 2 rfl
    have p0 := blk_cell HW1.out.ob.p1 0 rfl
    have p1 := blk_cell HW1.out.ob.p1 1 rfl
    have r0 := blk_cell HW1.out.ob.p0 0 rfl
    have r1 := blk_cell HW1.out.ob.p0 1 rfl
    have r2 := blk_cell HW1.out.ob.p0 2 rfl
    go_wp2_with (fail)
    refine (HC2.out _ HW1.out.x2).mono ?_
    rintro e V2 ⟨rfl, hb⟩
    have HW2 := Lib.hid (HW1.out.below hb)
    clear hb HW1
    clear o0 o1 o2 m0 m1 m2 p0 p1 r0 r1 r2
    have o0 := blk_cell HW2.out.o 0 rfl
    have o1 := blk_cell HW2.out.o 1 rfl
    have o2 := blk_cell HW2.out.o 2 rfl
    have m0 := blk_cell HW2.out.m 0 rfl
    have m1 := blk_cell HW2.out.m 1 rfl
    have m2 := blk_cell HW2.out.m 2 rfl
    have p0 := blk_cell HW2.out.ob.p1 0 rfl
    have p1 := blk_cell HW2.out.ob.p1 1 rfl
    have r0 := blk_cell HW2.out.ob.p0 0 rfl
    have r1 := blk_cell HW2.out.ob.p0 1 rfl
    have r2 := blk_cell HW2.out.ob.p0 2 rfl
    go_wp2_with (fail)
    refine (HC3.out _ HW2.out.x1).mono ?_
    rintro e V3 ⟨rfl, hb⟩
    have HW3 := Lib.hid (HW2.out.below hb)
    clear hb HW2 HC1 HC2 HC3
    clear o0 o1 o2 m0 m1 m2 p0 p1 r0 r1 r2
    go_upto_region 7 with (fail)
    have HW4 : Hid (OC w (V3.alloc (.cells #[.int .i64 f2, .int .i64 f1] 62)) stock store a ds cap pf pd A4 A5 a1 c1 a2 c2 ∧ (V3.alloc (.cells #[.int .i64 f2, .int .i64 f1] 62)).heap[V3.heap.size]? = some (.cells #[.int .i64 f2, .int .i64 f1] 62 (0, 0))) := ⟨HW3.out.below ((Below.refl _ _).alloc (Nat.le_refl _) _), heap_alloc_new _ _⟩
    generalize V3.alloc (.cells #[.int .i64 f2, .int .i64 f1] 62) = V4 at HW4 ⊢
    have q0 := blk_cell HW4.out.2 0 rfl
    have q1 := blk_cell HW4.out.2 1 rfl
    have HPR : Hid (fe = 0 → ∃ n : Int, provesR stock store ds f2 f1 = (n, 0) ∧ 1 ≤ n) := fun h => by
      have := fail_proved (stock := stock) (store := store) (ds := ds) (by rw [HFE.out.2.2]; exact h)
      rw [HFE.out.1, HFE.out.2.1] at this
      exact this
    have HEM : Hid (fe ≠ 0 → f1 = 0 ∧ f2 = 0) := fun h => by
      have := fail_empty (stock := stock) (store := store) (ds := ds) (by rw [HFE.out.2.2]; exact h)
      rw [HFE.out.1, HFE.out.2.1] at this
      exact this
    clear HFE
    go_cut [60] (fun s wx => s = .bool false ∧ wx = V4)
    case first =>
      by_cases h : fe = 0
      · subst h
        clear HPR HEM
        go_wp2_with (fail)
        go_meet
        exact ⟨rfl, rfl⟩
      · obtain ⟨rfl, rfl⟩ := HEM.out h
        have g : (fe != 0) = true := by simpa using h
        have g62 : ∀ v, (Op.equalIn 10000 62 (.agg #[.int .i64 0, .int .i64 0]) (.agg #[.int .i64 0, .int .i64 0])).run Try.prog v = .ok true v := fun _ => by kernel_rfl
        clear HPR HEM h
        go_wp2_with (fail)
        go_meet
        exact ⟨rfl, rfl⟩
    case rest =>
      obtain ⟨rfl, rfl⟩ := hcut
      obtain ⟨V4, rfl⟩ : ∃ W : World, W = wc := ⟨_, rfl⟩
      clear HEM
      have o0 := blk_cell HW4.out.1.o 0 rfl
      have o1 := blk_cell HW4.out.1.o 1 rfl
      have o2 := blk_cell HW4.out.1.o 2 rfl
      have m0 := blk_cell HW4.out.1.m 0 rfl
      have m1 := blk_cell HW4.out.1.m 1 rfl
      have m2 := blk_cell HW4.out.1.m 2 rfl
      have p0 := blk_cell HW4.out.1.ob.p1 0 rfl
      have p1 := blk_cell HW4.out.1.ob.p1 1 rfl
      have r0 := blk_cell HW4.out.1.ob.p0 0 rfl
      have r1 := blk_cell HW4.out.1.ob.p0 1 rfl
      have r2 := blk_cell HW4.out.1.ob.p0 2 rfl
      go_upto_if 62 with (fail)
      go_cut [13, 14] (fun _ _ wx => OC w wx stock store a ds cap pf pd A4 A5 a1 c1 a2 c2)
      case first =>
        by_cases h : fe = 0
        · obtain ⟨n, hn1, hn2⟩ := HPR.out h
          subst h
          have g : decide (n < 1) = false := decide_eq_false (by omega)
          have HC := refProves_any stock store f2 f1 a2 ds c2 V4 HW4.out.1.x2 HL6.out
          rw [hn1] at HC
          have HCC := Lib.hid HC
          clear hn1 hn2 HPR HC
          go_wp2_with (fail)
          refine HCC.out.mono ?_
          rintro e V5 ⟨rfl, hb⟩
          have HW5 := Lib.hid (And.intro (HW4.out.1.below hb) (blk_below HW4.out.2 hb))
          clear hb HCC
          clear o0 o1 o2 m0 m1 m2 p0 p1 r0 r1 r2 q0 q1
          have q0 := blk_cell HW5.out.2 0 rfl
          have q1 := blk_cell HW5.out.2 1 rfl
          go_wp2_with (fail)
          go_meet
          exact HW5.out.1
        · have g : (fe == 0) = false := by simpa using h
          clear HPR h
          go_wp2_with (fail)
          go_meet
          exact HW4.out.1
      case rest =>
        have HX5 := Lib.hid hcut
        obtain ⟨V5, rfl⟩ : ∃ W : World, W = wc := ⟨_, rfl⟩
        clear hcut HPR HW4 q0 q1
        clear o0 o1 o2 m0 m1 m2 p0 p1 r0 r1 r2
        have o0 := blk_cell HX5.out.o 0 rfl
        have o1 := blk_cell HX5.out.o 1 rfl
        have o2 := blk_cell HX5.out.o 2 rfl
        have m0 := blk_cell HX5.out.m 0 rfl
        have m1 := blk_cell HX5.out.m 1 rfl
        have m2 := blk_cell HX5.out.m 2 rfl
        have p0 := blk_cell HX5.out.ob.p1 0 rfl
        have p1 := blk_cell HX5.out.ob.p1 1 rfl
        have r0 := blk_cell HX5.out.ob.p0 0 rfl
        have r1 := blk_cell HX5.out.ob.p0 1 rfl
        have r2 := blk_cell HX5.out.ob.p0 2 rfl
        rcases hY : provesR stock store ds pf pd with ⟨y1, y2⟩
        have HC1 := proves_any stock store pf pd a1 ds c1 V5 HX5.out.x1 HL6.out
        rw [hY] at HC1
        have HC2 : Hid (∀ W, Sl 6 Dy.cells W a2 ds → Calls Try.prog 38 #[wv stock store a2 ds.length c2, .int .i64 pf, .int .i64 pd] W fun e w' => e = .returned (.tuple #[.int .i64 y1, .int .i64 y2]) ∧ Below W.heap.size W w') := fun W hW => by
          have h := refProves_any stock store pf pd a2 ds c2 W hW HL6.out
          rw [hY] at h
          exact h
        have HC := Lib.hid HC1
        clear hY HC1
        go_wp2_with (fail)
        refine HC.out.mono ?_
        rintro e V6 ⟨rfl, hb⟩
        have HX6 := Lib.hid (HX5.out.below hb)
        clear hb HC HX5
        clear o0 o1 o2 m0 m1 m2 p0 p1 r0 r1 r2
        have o0 := blk_cell HX6.out.o 0 rfl
        have o1 := blk_cell HX6.out.o 1 rfl
        have o2 := blk_cell HX6.out.o 2 rfl
        have m0 := blk_cell HX6.out.m 0 rfl
        have m1 := blk_cell HX6.out.m 1 rfl
        have m2 := blk_cell HX6.out.m 2 rfl
        have p0 := blk_cell HX6.out.ob.p1 0 rfl
        have p1 := blk_cell HX6.out.ob.p1 1 rfl
        have r0 := blk_cell HX6.out.ob.p0 0 rfl
        have r1 := blk_cell HX6.out.ob.p0 1 rfl
        have r2 := blk_cell HX6.out.ob.p0 2 rfl
        go_wp2_with (fail)
        refine (HC2.out _ HX6.out.x2).mono ?_
        rintro e V7 ⟨rfl, hb⟩
        have HX7 := Lib.hid (HX6.out.below hb)
        clear hb HC2 HX6
        clear o0 o1 o2 m0 m1 m2 p0 p1 r0 r1 r2
        have o0 := blk_cell HX7.out.o 0 rfl
        have o1 := blk_cell HX7.out.o 1 rfl
        have o2 := blk_cell HX7.out.o 2 rfl
        have m0 := blk_cell HX7.out.m 0 rfl
        have m1 := blk_cell HX7.out.m 1 rfl
        have m2 := blk_cell HX7.out.m 2 rfl
        have p0 := blk_cell HX7.out.ob.p1 0 rfl
        have p1 := blk_cell HX7.out.ob.p1 1 rfl
        have r0 := blk_cell HX7.out.ob.p0 0 rfl
        have r1 := blk_cell HX7.out.ob.p0 1 rfl
        have r2 := blk_cell HX7.out.ob.p0 2 rfl
        go_wp2_with (fail)
        refine (Least_any stock store a1 ds c1 V7 HX7.out.x1 HL6.out).mono ?_
        rintro e V8 hl
        obtain ⟨x7, y7, rfl, hp, hb⟩ := outW_pair hl
        have HP7 := Lib.hid hp
        have HX8 := Lib.hid (HX7.out.below hb)
        clear hl hp hb HX7
        clear o0 o1 o2 m0 m1 m2 p0 p1 r0 r1 r2
        have o0 := blk_cell HX8.out.o 0 rfl
        have o1 := blk_cell HX8.out.o 1 rfl
        have o2 := blk_cell HX8.out.o 2 rfl
        have m0 := blk_cell HX8.out.m 0 rfl
        have m1 := blk_cell HX8.out.m 1 rfl
        have m2 := blk_cell HX8.out.m 2 rfl
        have p0 := blk_cell HX8.out.ob.p1 0 rfl
        have p1 := blk_cell HX8.out.ob.p1 1 rfl
        have r0 := blk_cell HX8.out.ob.p0 0 rfl
        have r1 := blk_cell HX8.out.ob.p0 1 rfl
        have r2 := blk_cell HX8.out.ob.p0 2 rfl
        go_wp2_with (fail)
        refine (refLeast_any stock store a2 ds c2 V8 HX8.out.x2 HL6.out).mono ?_
        rintro e V9 hl
        obtain ⟨x7', y7', rfl, hp, hb⟩ := outW_pair hl
        obtain ⟨rfl, rfl⟩ := pair_one HP7.out hp
        have HX9 := Lib.hid (HX8.out.below hb)
        clear hl hp hb HX8 HP7
        clear o0 o1 o2 m0 m1 m2 p0 p1 r0 r1 r2
        have o0 := blk_cell HX9.out.o 0 rfl
        have o1 := blk_cell HX9.out.o 1 rfl
        have o2 := blk_cell HX9.out.o 2 rfl
        have m0 := blk_cell HX9.out.m 0 rfl
        have m1 := blk_cell HX9.out.m 1 rfl
        have m2 := blk_cell HX9.out.m 2 rfl
        have p0 := blk_cell HX9.out.ob.p1 0 rfl
        have p1 := blk_cell HX9.out.ob.p1 1 rfl
        have r0 := blk_cell HX9.out.ob.p0 0 rfl
        have r1 := blk_cell HX9.out.ob.p0 1 rfl
        have r2 := blk_cell HX9.out.ob.p0 2 rfl
        go_wp2_with (fail)
        refine (Room_any stock store a1 ds c1 V9 HX9.out.x1 HL6.out).mono ?_
        rintro e V10 hl
        obtain ⟨x9, y9, rfl, hp, hb⟩ := outW_pair hl
        have HP9 := Lib.hid hp
        have HX10 := Lib.hid (HX9.out.below hb)
        clear hl hp hb HX9
        clear o0 o1 o2 m0 m1 m2 p0 p1 r0 r1 r2
        have o0 := blk_cell HX10.out.o 0 rfl
        have o1 := blk_cell HX10.out.o 1 rfl
        have o2 := blk_cell HX10.out.o 2 rfl
        have m0 := blk_cell HX10.out.m 0 rfl
        have m1 := blk_cell HX10.out.m 1 rfl
        have m2 := blk_cell HX10.out.m 2 rfl
        have p0 := blk_cell HX10.out.ob.p1 0 rfl
        have p1 := blk_cell HX10.out.ob.p1 1 rfl
        have r0 := blk_cell HX10.out.ob.p0 0 rfl
        have r1 := blk_cell HX10.out.ob.p0 1 rfl
        have r2 := blk_cell HX10.out.ob.p0 2 rfl
        go_wp2_with (fail)
        refine (refRoom_any stock store a2 ds c2 V10 HX10.out.x2 HL6.out).mono ?_
        rintro e V11 hl
        obtain ⟨x9', y9', rfl, hp, hb⟩ := outW_pair hl
        obtain ⟨rfl, rfl⟩ := pair_one HP9.out hp
        have HX11 := Lib.hid (HX10.out.below hb)
        clear hl hp hb HX10 HP9
        clear o0 o1 o2 m0 m1 m2 p0 p1 r0 r1 r2
        have o0 := blk_cell HX11.out.o 0 rfl
        have o1 := blk_cell HX11.out.o 1 rfl
        have o2 := blk_cell HX11.out.o 2 rfl
        have m0 := blk_cell HX11.out.m 0 rfl
        have m1 := blk_cell HX11.out.m 1 rfl
        have m2 := blk_cell HX11.out.m 2 rfl
        have p0 := blk_cell HX11.out.ob.p1 0 rfl
        have p1 := blk_cell HX11.out.ob.p1 1 rfl
        have r0 := blk_cell HX11.out.ob.p0 0 rfl
        have r1 := blk_cell HX11.out.ob.p0 1 rfl
        have r2 := blk_cell HX11.out.ob.p0 2 rfl
        go_wp2_with (fail)
        refine (ranges_any stock store a1 ds c1 V11 HX11.out.x1 HL6.out).mono ?_
        rintro e V12 ⟨b1, d1, rfl, hs, hb⟩
        have HX12 := Lib.hid (And.intro (HX11.out.below hb) hs)
        clear hb hs HX11
        clear o0 o1 o2 m0 m1 m2 p0 p1 r0 r1 r2
        have o0 := blk_cell HX12.out.1.o 0 rfl
        have o1 := blk_cell HX12.out.1.o 1 rfl
        have o2 := blk_cell HX12.out.1.o 2 rfl
        have m0 := blk_cell HX12.out.1.m 0 rfl
        have m1 := blk_cell HX12.out.1.m 1 rfl
        have m2 := blk_cell HX12.out.1.m 2 rfl
        have p0 := blk_cell HX12.out.1.ob.p1 0 rfl
        have p1 := blk_cell HX12.out.1.ob.p1 1 rfl
        have r0 := blk_cell HX12.out.1.ob.p0 0 rfl
        have r1 := blk_cell HX12.out.1.ob.p0 1 rfl
        have r2 := blk_cell HX12.out.1.ob.p0 2 rfl
        go_wp2_with (fail)
        refine (refRanges_any stock store a2 ds c2 V12 HX12.out.1.x2 HL6.out).mono ?_
        rintro e V13 ⟨b2, d2, rfl, hs, hb⟩
        have HX13 := Lib.hid (And.intro (HX12.out.1.below hb) (And.intro (HX12.out.2.below hb) hs))
        clear hb hs HX12
        clear o0 o1 o2 m0 m1 m2 p0 p1 r0 r1 r2
        have o0 := blk_cell HX13.out.1.o 0 rfl
        have o1 := blk_cell HX13.out.1.o 1 rfl
        have o2 := blk_cell HX13.out.1.o 2 rfl
        have m0 := blk_cell HX13.out.1.m 0 rfl
        have m1 := blk_cell HX13.out.1.m 1 rfl
        have m2 := blk_cell HX13.out.1.m 2 rfl
        have p0 := blk_cell HX13.out.1.ob.p1 0 rfl
        have p1 := blk_cell HX13.out.1.ob.p1 1 rfl
        have r0 := blk_cell HX13.out.1.ob.p0 0 rfl
        have r1 := blk_cell HX13.out.1.ob.p0 1 rfl
        have r2 := blk_cell HX13.out.1.ob.p0 2 rfl
        have HRL : Hid ((rangesR stock store ds).1.length ≤ 1000000) := ranges_few (by have := HL65.out; omega)
        go_wp2_with (first
          | (go_at_call 46
             refine (equal_span b1 _ d1 b2 _ d2 V13 HX13.out.2.1 HX13.out.2.2 HRL.out).mono ?_
             rintro e V14 ⟨rfl, hb⟩
             rw [eqSps_self]
             have HX14 := Lib.hid (HX13.out.1.below hb)
             clear hb
             clear o0 o1 o2 m0 m1 m2 p0 p1 r0 r1 r2
             have o0 := blk_cell HX14.out.o 0 rfl
             have o1 := blk_cell HX14.out.o 1 rfl
             have o2 := blk_cell HX14.out.o 2 rfl
             have m0 := blk_cell HX14.out.m 0 rfl
             have m1 := blk_cell HX14.out.m 1 rfl
             have m2 := blk_cell HX14.out.m 2 rfl
             have p0 := blk_cell HX14.out.ob.p1 0 rfl
             have p1 := blk_cell HX14.out.ob.p1 1 rfl
             have r0 := blk_cell HX14.out.ob.p0 0 rfl
             have r1 := blk_cell HX14.out.ob.p0 1 rfl
             have r2 := blk_cell HX14.out.ob.p0 2 rfl
             skip)
          | (go_at_call 47
             refine (same_any stock store a1 ds c1 a cap V14 HX14.out.x1 HX14.out.ob.x HL65.out).mono ?_
             rintro e V15 ⟨rfl, hb⟩
             have HBB := Lib.hid (below_self HX14.out.ob.b hb)
             clear hb)
          | (go_at_call 15; refine (awake_any _).mono ?_; rintro e V16 ⟨rfl, hb⟩; have HM2 := Lib.hid (below_self HBB.out hb); clear hb))
        go_ret
        exact ⟨rfl, HM2.out⟩
  simp only [Act.put, List.setIfInBounds_toArray, List.set_cons_zero, List.set_cons_succ] at J2110
  refine with_join (fun G lz az => ∀ (Wz : World) (a1 : Option Addr) (c1 : Nat) (a2 : Option Addr) (c2 : Nat) (A4 : Nat), Hid (OB w Wz stock store a ds cap pf pd ∧ Sl 6 Dy.cells Wz a1 ds ∧ Sl 6 Dy.cells Wz a2 ds ∧ Wz.heap[A4]? = some (.cells #[.int .i64 0, .int .i64 0, .slice none 0 0] 60 (0, 0)) ∧ w.heap.size + 1 < A4) → G 1 (((lz.setIfInBounds 1 true).setIfInBounds 3 true).setIfInBounds 4 true) (((az.put (some 21) (wv stock store a1 ds.length c1)).put (some 23) (wv stock store a2 ds.length c2)).put (some 5) (.pointer (some ⟨A4, 0, none⟩))) Wz) ?_ (fun J2100 => ?_)
  · intro Wz a1 c1 a2 c2 A4 Hz
    simp only [Act.put, List.setIfInBounds_toArray, List.set_cons_zero, List.set_cons_succ]
    refine wpAnyH_ready (rs := [5]) (by kernel_rfl) (by simp) ?_
    refine AllReadyH.cons (o := _) rfl (fun K hK => ?_) AllReadyH.nil
    go_simp
    have hb : Below Wz.heap.size Wz (Wz.alloc (.cells #[.int .i64 0, .int .i64 0, .slice none 0 0] 67)) := (Below.refl _ _).alloc (Nat.le_refl _) _
    have H1 : Hid (OB w (Wz.alloc (.cells #[.int .i64 0, .int .i64 0, .slice none 0 0] 67)) stock store a ds cap pf pd ∧ Sl 6 Dy.cells (Wz.alloc (.cells #[.int .i64 0, .int .i64 0, .slice none 0 0] 67)) a1 ds ∧ Sl 6 Dy.cells (Wz.alloc (.cells #[.int .i64 0, .int .i64 0, .slice none 0 0] 67)) a2 ds ∧ (Wz.alloc (.cells #[.int .i64 0, .int .i64 0, .slice none 0 0] 67)).heap[A4]? = some (.cells #[.int .i64 0, .int .i64 0, .slice none 0 0] 60 (0, 0)) ∧ w.heap.size + 1 < A4 ∧ (Wz.alloc (.cells #[.int .i64 0, .int .i64 0, .slice none 0 0] 67)).heap[Wz.heap.size]? = some (.cells #[.int .i64 0, .int .i64 0, .slice none 0 0] 67 (0, 0)) ∧ w.heap.size + 1 < Wz.heap.size ∧ A4 ≠ Wz.heap.size) := ⟨Hz.out.1.below hb, Hz.out.2.1.below hb, Hz.out.2.2.1.below hb, blk_below Hz.out.2.2.2.1 hb, Hz.out.2.2.2.2, heap_alloc_new _ _, Nat.lt_of_succ_le Hz.out.1.sz, Nat.ne_of_lt (lt_of_block Hz.out.2.2.2.1)⟩
    clear hb
    refine hK.out _ _ ⟨blk_cell H1.out.1.p0 0 rfl, blk_cell H1.out.1.p0 1 rfl, blk_cell H1.out.1.p0 2 rfl⟩ (fun _ => ?_)
    clear hK
    simp only [Act.put, List.setIfInBounds_toArray, List.set_cons_zero, List.set_cons_succ]
    exact J2110 _ a1 c1 a2 c2 A4 _ H1
  simp only [Act.put, List.setIfInBounds_toArray, List.set_cons_zero, List.set_cons_succ] at J2100
  refine with_join (fun G lz az => ∀ (Wz : World) (a1 : Option Addr) (c1 : Nat) (a2 : Option Addr) (c2 : Nat) (A5 : Nat), Hid (OB w Wz stock store a ds cap pf pd ∧ Sl 6 Dy.cells Wz a1 ds ∧ Sl 6 Dy.cells Wz a2 ds ∧ Wz.heap[A5]? = some (.cells #[.int .i64 0, .int .i64 0, .slice none 0 0] 67 (0, 0)) ∧ w.heap.size + 1 < A5) → G 1 (((lz.setIfInBounds 1 true).setIfInBounds 3 true).setIfInBounds 5 true) (((az.put (some 21) (wv stock store a1 ds.length c1)).put (some 23) (wv stock store a2 ds.length c2)).put (some 6) (.pointer (some ⟨A5, 0, none⟩))) Wz) ?_ (fun J2010 => ?_)
  · intro Wz a1 c1 a2 c2 A5 Hz
    simp only [Act.put, List.setIfInBounds_toArray, List.set_cons_zero, List.set_cons_succ]
    refine wpAnyH_ready (rs := [4]) (by kernel_rfl) (by simp) ?_
    refine AllReadyH.cons (o := _) rfl (fun K hK => ?_) AllReadyH.nil
    go_simp
    have hb : Below Wz.heap.size Wz (Wz.alloc (.cells #[.int .i64 0, .int .i64 0, .slice none 0 0] 60)) := (Below.refl _ _).alloc (Nat.le_refl _) _
    have H2 : Hid (OB w (Wz.alloc (.cells #[.int .i64 0, .int .i64 0, .slice none 0 0] 60)) stock store a ds cap pf pd ∧ Sl 6 Dy.cells (Wz.alloc (.cells #[.int .i64 0, .int .i64 0, .slice none 0 0] 60)) a1 ds ∧ Sl 6 Dy.cells (Wz.alloc (.cells #[.int .i64 0, .int .i64 0, .slice none 0 0] 60)) a2 ds ∧ (Wz.alloc (.cells #[.int .i64 0, .int .i64 0, .slice none 0 0] 60)).heap[Wz.heap.size]? = some (.cells #[.int .i64 0, .int .i64 0, .slice none 0 0] 60 (0, 0)) ∧ w.heap.size + 1 < Wz.heap.size ∧ (Wz.alloc (.cells #[.int .i64 0, .int .i64 0, .slice none 0 0] 60)).heap[A5]? = some (.cells #[.int .i64 0, .int .i64 0, .slice none 0 0] 67 (0, 0)) ∧ w.heap.size + 1 < A5 ∧ Wz.heap.size ≠ A5) := ⟨Hz.out.1.below hb, Hz.out.2.1.below hb, Hz.out.2.2.1.below hb, heap_alloc_new _ _, Nat.lt_of_succ_le Hz.out.1.sz, blk_below Hz.out.2.2.2.1 hb, Hz.out.2.2.2.2, Nat.ne_of_gt (lt_of_block Hz.out.2.2.2.1)⟩
    clear hb
    refine hK.out _ _ ⟨blk_cell H2.out.1.p0 0 rfl, blk_cell H2.out.1.p0 1 rfl, blk_cell H2.out.1.p0 2 rfl⟩ (fun _ => ?_)
    clear hK
    simp only [Act.put, List.setIfInBounds_toArray, List.set_cons_zero, List.set_cons_succ]
    exact J2110 _ a1 c1 a2 c2 _ A5 H2
  simp only [Act.put, List.setIfInBounds_toArray, List.set_cons_zero, List.set_cons_succ] at J2010
  refine with_join (fun G lz az => ∀ (Wz : World) (a1 : Option Addr) (c1 : Nat) (A4 : Nat) (A5 : Nat), Hid (OB w Wz stock store a ds cap pf pd ∧ Sl 6 Dy.cells Wz a1 ds ∧ Wz.heap[A4]? = some (.cells #[.int .i64 0, .int .i64 0, .slice none 0 0] 60 (0, 0)) ∧ w.heap.size + 1 < A4 ∧ Wz.heap[A5]? = some (.cells #[.int .i64 0, .int .i64 0, .slice none 0 0] 67 (0, 0)) ∧ w.heap.size + 1 < A5 ∧ A4 ≠ A5) → G 1 (((lz.setIfInBounds 1 true).setIfInBounds 4 true).setIfInBounds 5 true) (((az.put (some 21) (wv stock store a1 ds.length c1)).put (some 5) (.pointer (some ⟨A4, 0, none⟩))).put (some 6) (.pointer (some ⟨A5, 0, none⟩))) Wz) ?_ (fun J1110 => ?_)
  · intro Wz a1 c1 A4 A5 Hz
    simp only [Act.put, List.setIfInBounds_toArray, List.set_cons_zero, List.set_cons_succ]
    refine wpAnyH_ready (rs := [3]) (by kernel_rfl) (by simp) ?_
    refine AllReadyH.cons (o := _) rfl (fun K hK => ?_) AllReadyH.nil
    go_simp
    go_at_call 34
    refine (winter_any stock store a ds cap Wz Hz.out.1.x HL65.out).mono ?_
    rintro e W3 ⟨a2, c2, rfl, hs, hb⟩
    have H3 : Hid (OB w W3 stock store a ds cap pf pd ∧ Sl 6 Dy.cells W3 a1 ds ∧ Sl 6 Dy.cells W3 a2 ds ∧ W3.heap[A4]? = some (.cells #[.int .i64 0, .int .i64 0, .slice none 0 0] 60 (0, 0)) ∧ w.heap.size + 1 < A4 ∧ W3.heap[A5]? = some (.cells #[.int .i64 0, .int .i64 0, .slice none 0 0] 67 (0, 0)) ∧ w.heap.size + 1 < A5 ∧ A4 ≠ A5) := ⟨Hz.out.1.below hb, Hz.out.2.1.below hb, hs, blk_below Hz.out.2.2.1 hb, Hz.out.2.2.2.1, blk_below Hz.out.2.2.2.2.1 hb, Hz.out.2.2.2.2.2.1, Hz.out.2.2.2.2.2.2⟩
    clear hs hb
    refine hK.out _ _ ⟨blk_cell H3.out.1.p0 0 rfl, blk_cell H3.out.1.p0 1 rfl, blk_cell H3.out.1.p0 2 rfl⟩ (fun _ => ?_)
    clear hK
    simp only [Act.put, List.setIfInBounds_toArray, List.set_cons_zero, List.set_cons_succ]
    exact J2110 _ a1 c1 a2 c2 A4 A5 H3
  simp only [Act.put, List.setIfInBounds_toArray, List.set_cons_zero, List.set_cons_succ] at J1110
  refine with_join (fun G lz az => ∀ (Wz : World) (a1 : Option Addr) (c1 : Nat) (a2 : Option Addr) (c2 : Nat), Hid (OB w Wz stock store a ds cap pf pd ∧ Sl 6 Dy.cells Wz a1 ds ∧ Sl 6 Dy.cells Wz a2 ds) → G 2 ((lz.setIfInBounds 1 true).setIfInBounds 3 true) ((az.put (some 21) (wv stock store a1 ds.length c1)).put (some 23) (wv stock store a2 ds.length c2)) Wz) ?_ (fun J2000 => ?_)
  · intro Wz a1 c1 a2 c2 Hz
    simp only [Act.put, List.setIfInBounds_toArray, List.set_cons_zero, List.set_cons_succ]
    refine wpAnyH_ready (rs := [4, 5]) (by kernel_rfl) (by simp) ?_
    refine AllReadyH.cons (o := _) rfl (fun K hK => ?_) ?_
    · go_simp
      have hb : Below Wz.heap.size Wz (Wz.alloc (.cells #[.int .i64 0, .int .i64 0, .slice none 0 0] 60)) := (Below.refl _ _).alloc (Nat.le_refl _) _
      have H4 : Hid (OB w (Wz.alloc (.cells #[.int .i64 0, .int .i64 0, .slice none 0 0] 60)) stock store a ds cap pf pd ∧ Sl 6 Dy.cells (Wz.alloc (.cells #[.int .i64 0, .int .i64 0, .slice none 0 0] 60)) a1 ds ∧ Sl 6 Dy.cells (Wz.alloc (.cells #[.int .i64 0, .int .i64 0, .slice none 0 0] 60)) a2 ds ∧ (Wz.alloc (.cells #[.int .i64 0, .int .i64 0, .slice none 0 0] 60)).heap[Wz.heap.size]? = some (.cells #[.int .i64 0, .int .i64 0, .slice none 0 0] 60 (0, 0)) ∧ w.heap.size + 1 < Wz.heap.size) := ⟨Hz.out.1.below hb, Hz.out.2.1.below hb, Hz.out.2.2.below hb, heap_alloc_new _ _, Nat.lt_of_succ_le Hz.out.1.sz⟩
      clear hb
      refine hK.out _ _ ⟨blk_cell H4.out.1.p0 0 rfl, blk_cell H4.out.1.p0 1 rfl, blk_cell H4.out.1.p0 2 rfl⟩ (fun _ => ?_)
      clear hK
      simp only [Act.put, List.setIfInBounds_toArray, List.set_cons_zero, List.set_cons_succ]
      exact J2100 _ a1 c1 a2 c2 _ H4
    refine AllReadyH.cons (o := _) rfl (fun K hK => ?_) AllReadyH.nil
    go_simp
    have hb : Below Wz.heap.size Wz (Wz.alloc (.cells #[.int .i64 0, .int .i64 0, .slice none 0 0] 67)) := (Below.refl _ _).alloc (Nat.le_refl _) _
    have H5 : Hid (OB w (Wz.alloc (.cells #[.int .i64 0, .int .i64 0, .slice none 0 0] 67)) stock store a ds cap pf pd ∧ Sl 6 Dy.cells (Wz.alloc (.cells #[.int .i64 0, .int .i64 0, .slice none 0 0] 67)) a1 ds ∧ Sl 6 Dy.cells (Wz.alloc (.cells #[.int .i64 0, .int .i64 0, .slice none 0 0] 67)) a2 ds ∧ (Wz.alloc (.cells #[.int .i64 0, .int .i64 0, .slice none 0 0] 67)).heap[Wz.heap.size]? = some (.cells #[.int .i64 0, .int .i64 0, .slice none 0 0] 67 (0, 0)) ∧ w.heap.size + 1 < Wz.heap.size) := ⟨Hz.out.1.below hb, Hz.out.2.1.below hb, Hz.out.2.2.below hb, heap_alloc_new _ _, Nat.lt_of_succ_le Hz.out.1.sz⟩
    clear hb
    refine hK.out _ _ ⟨blk_cell H5.out.1.p0 0 rfl, blk_cell H5.out.1.p0 1 rfl, blk_cell H5.out.1.p0 2 rfl⟩ (fun _ => ?_)
    clear hK
    simp only [Act.put, List.setIfInBounds_toArray, List.set_cons_zero, List.set_cons_succ]
    exact J2010 _ a1 c1 a2 c2 _ H5
  simp only [Act.put, List.setIfInBounds_toArray, List.set_cons_zero, List.set_cons_succ] at J2000
  refine with_join (fun G lz az => ∀ (Wz : World) (a1 : Option Addr) (c1 : Nat) (A4 : Nat), Hid (OB w Wz stock store a ds cap pf pd ∧ Sl 6 Dy.cells Wz a1 ds ∧ Wz.heap[A4]? = some (.cells #[.int .i64 0, .int .i64 0, .slice none 0 0] 60 (0, 0)) ∧ w.heap.size + 1 < A4) → G 2 ((lz.setIfInBounds 1 true).setIfInBounds 4 true) ((az.put (some 21) (wv stock store a1 ds.length c1)).put (some 5) (.pointer (some ⟨A4, 0, none⟩))) Wz) ?_ (fun J1100 => ?_)
  · intro Wz a1 c1 A4 Hz
    simp only [Act.put, List.setIfInBounds_toArray, List.set_cons_zero, List.set_cons_succ]
    refine wpAnyH_ready (rs := [3, 5]) (by kernel_rfl) (by simp) ?_
    refine AllReadyH.cons (o := _) rfl (fun K hK => ?_) ?_
    · go_simp
      go_at_call 34
      refine (winter_any stock store a ds cap Wz Hz.out.1.x HL65.out).mono ?_
      rintro e W6 ⟨a2, c2, rfl, hs, hb⟩
      have H6 : Hid (OB w W6 stock store a ds cap pf pd ∧ Sl 6 Dy.cells W6 a1 ds ∧ Sl 6 Dy.cells W6 a2 ds ∧ W6.heap[A4]? = some (.cells #[.int .i64 0, .int .i64 0, .slice none 0 0] 60 (0, 0)) ∧ w.heap.size + 1 < A4) := ⟨Hz.out.1.below hb, Hz.out.2.1.below hb, hs, blk_below Hz.out.2.2.1 hb, Hz.out.2.2.2⟩
      clear hs hb
      refine hK.out _ _ ⟨blk_cell H6.out.1.p0 0 rfl, blk_cell H6.out.1.p0 1 rfl, blk_cell H6.out.1.p0 2 rfl⟩ (fun _ => ?_)
      clear hK
      simp only [Act.put, List.setIfInBounds_toArray, List.set_cons_zero, List.set_cons_succ]
      exact J2100 _ a1 c1 a2 c2 A4 H6
    refine AllReadyH.cons (o := _) rfl (fun K hK => ?_) AllReadyH.nil
    go_simp
    have hb : Below Wz.heap.size Wz (Wz.alloc (.cells #[.int .i64 0, .int .i64 0, .slice none 0 0] 67)) := (Below.refl _ _).alloc (Nat.le_refl _) _
    have H7 : Hid (OB w (Wz.alloc (.cells #[.int .i64 0, .int .i64 0, .slice none 0 0] 67)) stock store a ds cap pf pd ∧ Sl 6 Dy.cells (Wz.alloc (.cells #[.int .i64 0, .int .i64 0, .slice none 0 0] 67)) a1 ds ∧ (Wz.alloc (.cells #[.int .i64 0, .int .i64 0, .slice none 0 0] 67)).heap[A4]? = some (.cells #[.int .i64 0, .int .i64 0, .slice none 0 0] 60 (0, 0)) ∧ w.heap.size + 1 < A4 ∧ (Wz.alloc (.cells #[.int .i64 0, .int .i64 0, .slice none 0 0] 67)).heap[Wz.heap.size]? = some (.cells #[.int .i64 0, .int .i64 0, .slice none 0 0] 67 (0, 0)) ∧ w.heap.size + 1 < Wz.heap.size ∧ A4 ≠ Wz.heap.size) := ⟨Hz.out.1.below hb, Hz.out.2.1.below hb, blk_below Hz.out.2.2.1 hb, Hz.out.2.2.2, heap_alloc_new _ _, Nat.lt_of_succ_le Hz.out.1.sz, Nat.ne_of_lt (lt_of_block Hz.out.2.2.1)⟩
    clear hb
    refine hK.out _ _ ⟨blk_cell H7.out.1.p0 0 rfl, blk_cell H7.out.1.p0 1 rfl, blk_cell H7.out.1.p0 2 rfl⟩ (fun _ => ?_)
    clear hK
    simp only [Act.put, List.setIfInBounds_toArray, List.set_cons_zero, List.set_cons_succ]
    exact J1110 _ a1 c1 A4 _ H7
  simp only [Act.put, List.setIfInBounds_toArray, List.set_cons_zero, List.set_cons_succ] at J1100
  refine with_join (fun G lz az => ∀ (Wz : World) (a1 : Option Addr) (c1 : Nat) (A5 : Nat), Hid (OB w Wz stock store a ds cap pf pd ∧ Sl 6 Dy.cells Wz a1 ds ∧ Wz.heap[A5]? = some (.cells #[.int .i64 0, .int .i64 0, .slice none 0 0] 67 (0, 0)) ∧ w.heap.size + 1 < A5) → G 2 ((lz.setIfInBounds 1 true).setIfInBounds 5 true) ((az.put (some 21) (wv stock store a1 ds.length c1)).put (some 6) (.pointer (some ⟨A5, 0, none⟩))) Wz) ?_ (fun J1010 => ?_)
  · intro Wz a1 c1 A5 Hz
    simp only [Act.put, List.setIfInBounds_toArray, List.set_cons_zero, List.set_cons_succ]
    refine wpAnyH_ready (rs := [3, 4]) (by kernel_rfl) (by simp) ?_
    refine AllReadyH.cons (o := _) rfl (fun K hK => ?_) ?_
    · go_simp
      go_at_call 34
      refine (winter_any stock store a ds cap Wz Hz.out.1.x HL65.out).mono ?_
      rintro e W8 ⟨a2, c2, rfl, hs, hb⟩
      have H8 : Hid (OB w W8 stock store a ds cap pf pd ∧ Sl 6 Dy.cells W8 a1 ds ∧ Sl 6 Dy.cells W8 a2 ds ∧ W8.heap[A5]? = some (.cells #[.int .i64 0, .int .i64 0, .slice none 0 0] 67 (0, 0)) ∧ w.heap.size + 1 < A5) := ⟨Hz.out.1.below hb, Hz.out.2.1.below hb, hs, blk_below Hz.out.2.2.1 hb, Hz.out.2.2.2⟩
      clear hs hb
      refine hK.out _ _ ⟨blk_cell H8.out.1.p0 0 rfl, blk_cell H8.out.1.p0 1 rfl, blk_cell H8.out.1.p0 2 rfl⟩ (fun _ => ?_)
      clear hK
      simp only [Act.put, List.setIfInBounds_toArray, List.set_cons_zero, List.set_cons_succ]
      exact J2010 _ a1 c1 a2 c2 A5 H8
    refine AllReadyH.cons (o := _) rfl (fun K hK => ?_) AllReadyH.nil
    go_simp
    have hb : Below Wz.heap.size Wz (Wz.alloc (.cells #[.int .i64 0, .int .i64 0, .slice none 0 0] 60)) := (Below.refl _ _).alloc (Nat.le_refl _) _
    have H9 : Hid (OB w (Wz.alloc (.cells #[.int .i64 0, .int .i64 0, .slice none 0 0] 60)) stock store a ds cap pf pd ∧ Sl 6 Dy.cells (Wz.alloc (.cells #[.int .i64 0, .int .i64 0, .slice none 0 0] 60)) a1 ds ∧ (Wz.alloc (.cells #[.int .i64 0, .int .i64 0, .slice none 0 0] 60)).heap[Wz.heap.size]? = some (.cells #[.int .i64 0, .int .i64 0, .slice none 0 0] 60 (0, 0)) ∧ w.heap.size + 1 < Wz.heap.size ∧ (Wz.alloc (.cells #[.int .i64 0, .int .i64 0, .slice none 0 0] 60)).heap[A5]? = some (.cells #[.int .i64 0, .int .i64 0, .slice none 0 0] 67 (0, 0)) ∧ w.heap.size + 1 < A5 ∧ Wz.heap.size ≠ A5) := ⟨Hz.out.1.below hb, Hz.out.2.1.below hb, heap_alloc_new _ _, Nat.lt_of_succ_le Hz.out.1.sz, blk_below Hz.out.2.2.1 hb, Hz.out.2.2.2, Nat.ne_of_gt (lt_of_block Hz.out.2.2.1)⟩
    clear hb
    refine hK.out _ _ ⟨blk_cell H9.out.1.p0 0 rfl, blk_cell H9.out.1.p0 1 rfl, blk_cell H9.out.1.p0 2 rfl⟩ (fun _ => ?_)
    clear hK
    simp only [Act.put, List.setIfInBounds_toArray, List.set_cons_zero, List.set_cons_succ]
    exact J1110 _ a1 c1 _ A5 H9
  simp only [Act.put, List.setIfInBounds_toArray, List.set_cons_zero, List.set_cons_succ] at J1010
  refine with_join (fun G lz az => ∀ (Wz : World) (A4 : Nat) (A5 : Nat), Hid (OB w Wz stock store a ds cap pf pd ∧ Wz.heap[A4]? = some (.cells #[.int .i64 0, .int .i64 0, .slice none 0 0] 60 (0, 0)) ∧ w.heap.size + 1 < A4 ∧ Wz.heap[A5]? = some (.cells #[.int .i64 0, .int .i64 0, .slice none 0 0] 67 (0, 0)) ∧ w.heap.size + 1 < A5 ∧ A4 ≠ A5) → G 2 ((lz.setIfInBounds 4 true).setIfInBounds 5 true) ((az.put (some 5) (.pointer (some ⟨A4, 0, none⟩))).put (some 6) (.pointer (some ⟨A5, 0, none⟩))) Wz) ?_ (fun J0110 => ?_)
  · intro Wz A4 A5 Hz
    simp only [Act.put, List.setIfInBounds_toArray, List.set_cons_zero, List.set_cons_succ]
    refine wpAnyH_ready (rs := [1]) (by kernel_rfl) (by simp) ?_
    refine AllReadyH.cons (o := _) rfl (fun K hK => ?_) AllReadyH.nil
    go_simp
    go_at_call 33
    refine (cloneWin_any stock store a ds cap Wz Hz.out.1.x HNA.out HL65.out).mono ?_
    rintro e W10 ⟨a1, c1, rfl, hs, hb⟩
    have H10 : Hid (OB w W10 stock store a ds cap pf pd ∧ Sl 6 Dy.cells W10 a1 ds ∧ W10.heap[A4]? = some (.cells #[.int .i64 0, .int .i64 0, .slice none 0 0] 60 (0, 0)) ∧ w.heap.size + 1 < A4 ∧ W10.heap[A5]? = some (.cells #[.int .i64 0, .int .i64 0, .slice none 0 0] 67 (0, 0)) ∧ w.heap.size + 1 < A5 ∧ A4 ≠ A5) := ⟨Hz.out.1.below hb, hs, blk_below Hz.out.2.1 hb, Hz.out.2.2.1, blk_below Hz.out.2.2.2.1 hb, Hz.out.2.2.2.2.1, Hz.out.2.2.2.2.2⟩
    clear hs hb
    refine hK.out _ _ ⟨blk_cell H10.out.1.p0 0 rfl, blk_cell H10.out.1.p0 1 rfl, blk_cell H10.out.1.p0 2 rfl⟩ (fun _ => ?_)
    clear hK
    simp only [Act.put, List.setIfInBounds_toArray, List.set_cons_zero, List.set_cons_succ]
    exact J1110 _ a1 c1 A4 A5 H10
  simp only [Act.put, List.setIfInBounds_toArray, List.set_cons_zero, List.set_cons_succ] at J0110
  refine with_join (fun G lz az => ∀ (Wz : World) (a1 : Option Addr) (c1 : Nat), Hid (OB w Wz stock store a ds cap pf pd ∧ Sl 6 Dy.cells Wz a1 ds) → G 3 (lz.setIfInBounds 1 true) (az.put (some 21) (wv stock store a1 ds.length c1)) Wz) ?_ (fun J1000 => ?_)
  · intro Wz a1 c1 Hz
    simp only [Act.put, List.setIfInBounds_toArray, List.set_cons_zero, List.set_cons_succ]
    refine wpAnyH_ready (rs := [3, 4, 5]) (by kernel_rfl) (by simp) ?_
    refine AllReadyH.cons (o := _) rfl (fun K hK => ?_) ?_
    · go_simp
      go_at_call 34
      refine (winter_any stock store a ds cap Wz Hz.out.1.x HL65.out).mono ?_
      rintro e W11 ⟨a2, c2, rfl, hs, hb⟩
      have H11 : Hid (OB w W11 stock store a ds cap pf pd ∧ Sl 6 Dy.cells W11 a1 ds ∧ Sl 6 Dy.cells W11 a2 ds) := ⟨Hz.out.1.below hb, Hz.out.2.below hb, hs⟩
      clear hs hb
      refine hK.out _ _ ⟨blk_cell H11.out.1.p0 0 rfl, blk_cell H11.out.1.p0 1 rfl, blk_cell H11.out.1.p0 2 rfl⟩ (fun _ => ?_)
      clear hK
      simp only [Act.put, List.setIfInBounds_toArray, List.set_cons_zero, List.set_cons_succ]
      exact J2000 _ a1 c1 a2 c2 H11
    refine AllReadyH.cons (o := _) rfl (fun K hK => ?_) ?_
    · go_simp
      have hb : Below Wz.heap.size Wz (Wz.alloc (.cells #[.int .i64 0, .int .i64 0, .slice none 0 0] 60)) := (Below.refl _ _).alloc (Nat.le_refl _) _
      have H12 : Hid (OB w (Wz.alloc (.cells #[.int .i64 0, .int .i64 0, .slice none 0 0] 60)) stock store a ds cap pf pd ∧ Sl 6 Dy.cells (Wz.alloc (.cells #[.int .i64 0, .int .i64 0, .slice none 0 0] 60)) a1 ds ∧ (Wz.alloc (.cells #[.int .i64 0, .int .i64 0, .slice none 0 0] 60)).heap[Wz.heap.size]? = some (.cells #[.int .i64 0, .int .i64 0, .slice none 0 0] 60 (0, 0)) ∧ w.heap.size + 1 < Wz.heap.size) := ⟨Hz.out.1.below hb, Hz.out.2.below hb, heap_alloc_new _ _, Nat.lt_of_succ_le Hz.out.1.sz⟩
      clear hb
      refine hK.out _ _ ⟨blk_cell H12.out.1.p0 0 rfl, blk_cell H12.out.1.p0 1 rfl, blk_cell H12.out.1.p0 2 rfl⟩ (fun _ => ?_)
      clear hK
      simp only [Act.put, List.setIfInBounds_toArray, List.set_cons_zero, List.set_cons_succ]
      exact J1100 _ a1 c1 _ H12
    refine AllReadyH.cons (o := _) rfl (fun K hK => ?_) AllReadyH.nil
    go_simp
    have hb : Below Wz.heap.size Wz (Wz.alloc (.cells #[.int .i64 0, .int .i64 0, .slice none 0 0] 67)) := (Below.refl _ _).alloc (Nat.le_refl _) _
    have H13 : Hid (OB w (Wz.alloc (.cells #[.int .i64 0, .int .i64 0, .slice none 0 0] 67)) stock store a ds cap pf pd ∧ Sl 6 Dy.cells (Wz.alloc (.cells #[.int .i64 0, .int .i64 0, .slice none 0 0] 67)) a1 ds ∧ (Wz.alloc (.cells #[.int .i64 0, .int .i64 0, .slice none 0 0] 67)).heap[Wz.heap.size]? = some (.cells #[.int .i64 0, .int .i64 0, .slice none 0 0] 67 (0, 0)) ∧ w.heap.size + 1 < Wz.heap.size) := ⟨Hz.out.1.below hb, Hz.out.2.below hb, heap_alloc_new _ _, Nat.lt_of_succ_le Hz.out.1.sz⟩
    clear hb
    refine hK.out _ _ ⟨blk_cell H13.out.1.p0 0 rfl, blk_cell H13.out.1.p0 1 rfl, blk_cell H13.out.1.p0 2 rfl⟩ (fun _ => ?_)
    clear hK
    simp only [Act.put, List.setIfInBounds_toArray, List.set_cons_zero, List.set_cons_succ]
    exact J1010 _ a1 c1 _ H13
  simp only [Act.put, List.setIfInBounds_toArray, List.set_cons_zero, List.set_cons_succ] at J1000
  refine with_join (fun G lz az => ∀ (Wz : World) (A4 : Nat), Hid (OB w Wz stock store a ds cap pf pd ∧ Wz.heap[A4]? = some (.cells #[.int .i64 0, .int .i64 0, .slice none 0 0] 60 (0, 0)) ∧ w.heap.size + 1 < A4) → G 3 (lz.setIfInBounds 4 true) (az.put (some 5) (.pointer (some ⟨A4, 0, none⟩))) Wz) ?_ (fun J0100 => ?_)
  · intro Wz A4 Hz
    simp only [Act.put, List.setIfInBounds_toArray, List.set_cons_zero, List.set_cons_succ]
    refine wpAnyH_ready (rs := [1, 5]) (by kernel_rfl) (by simp) ?_
    refine AllReadyH.cons (o := _) rfl (fun K hK => ?_) ?_
    · go_simp
      go_at_call 33
      refine (cloneWin_any stock store a ds cap Wz Hz.out.1.x HNA.out HL65.out).mono ?_
      rintro e W14 ⟨a1, c1, rfl, hs, hb⟩
      have H14 : Hid (OB w W14 stock store a ds cap pf pd ∧ Sl 6 Dy.cells W14 a1 ds ∧ W14.heap[A4]? = some (.cells #[.int .i64 0, .int .i64 0, .slice none 0 0] 60 (0, 0)) ∧ w.heap.size + 1 < A4) := ⟨Hz.out.1.below hb, hs, blk_below Hz.out.2.1 hb, Hz.out.2.2⟩
      clear hs hb
      refine hK.out _ _ ⟨blk_cell H14.out.1.p0 0 rfl, blk_cell H14.out.1.p0 1 rfl, blk_cell H14.out.1.p0 2 rfl⟩ (fun _ => ?_)
      clear hK
      simp only [Act.put, List.setIfInBounds_toArray, List.set_cons_zero, List.set_cons_succ]
      exact J1100 _ a1 c1 A4 H14
    refine AllReadyH.cons (o := _) rfl (fun K hK => ?_) AllReadyH.nil
    go_simp
    have hb : Below Wz.heap.size Wz (Wz.alloc (.cells #[.int .i64 0, .int .i64 0, .slice none 0 0] 67)) := (Below.refl _ _).alloc (Nat.le_refl _) _
    have H15 : Hid (OB w (Wz.alloc (.cells #[.int .i64 0, .int .i64 0, .slice none 0 0] 67)) stock store a ds cap pf pd ∧ (Wz.alloc (.cells #[.int .i64 0, .int .i64 0, .slice none 0 0] 67)).heap[A4]? = some (.cells #[.int .i64 0, .int .i64 0, .slice none 0 0] 60 (0, 0)) ∧ w.heap.size + 1 < A4 ∧ (Wz.alloc (.cells #[.int .i64 0, .int .i64 0, .slice none 0 0] 67)).heap[Wz.heap.size]? = some (.cells #[.int .i64 0, .int .i64 0, .slice none 0 0] 67 (0, 0)) ∧ w.heap.size + 1 < Wz.heap.size ∧ A4 ≠ Wz.heap.size) := ⟨Hz.out.1.below hb, blk_below Hz.out.2.1 hb, Hz.out.2.2, heap_alloc_new _ _, Nat.lt_of_succ_le Hz.out.1.sz, Nat.ne_of_lt (lt_of_block Hz.out.2.1)⟩
    clear hb
    refine hK.out _ _ ⟨blk_cell H15.out.1.p0 0 rfl, blk_cell H15.out.1.p0 1 rfl, blk_cell H15.out.1.p0 2 rfl⟩ (fun _ => ?_)
    clear hK
    simp only [Act.put, List.setIfInBounds_toArray, List.set_cons_zero, List.set_cons_succ]
    exact J0110 _ A4 _ H15
  simp only [Act.put, List.setIfInBounds_toArray, List.set_cons_zero, List.set_cons_succ] at J0100
  refine with_join (fun G lz az => ∀ (Wz : World) (A5 : Nat), Hid (OB w Wz stock store a ds cap pf pd ∧ Wz.heap[A5]? = some (.cells #[.int .i64 0, .int .i64 0, .slice none 0 0] 67 (0, 0)) ∧ w.heap.size + 1 < A5) → G 3 (lz.setIfInBounds 5 true) (az.put (some 6) (.pointer (some ⟨A5, 0, none⟩))) Wz) ?_ (fun J0010 => ?_)
  · intro Wz A5 Hz
    simp only [Act.put, List.setIfInBounds_toArray, List.set_cons_zero, List.set_cons_succ]
    refine wpAnyH_ready (rs := [1, 4]) (by kernel_rfl) (by simp) ?_
    refine AllReadyH.cons (o := _) rfl (fun K hK => ?_) ?_
    · go_simp
      go_at_call 33
      refine (cloneWin_any stock store a ds cap Wz Hz.out.1.x HNA.out HL65.out).mono ?_
      rintro e W16 ⟨a1, c1, rfl, hs, hb⟩
      have H16 : Hid (OB w W16 stock store a ds cap pf pd ∧ Sl 6 Dy.cells W16 a1 ds ∧ W16.heap[A5]? = some (.cells #[.int .i64 0, .int .i64 0, .slice none 0 0] 67 (0, 0)) ∧ w.heap.size + 1 < A5) := ⟨Hz.out.1.below hb, hs, blk_below Hz.out.2.1 hb, Hz.out.2.2⟩
      clear hs hb
      refine hK.out _ _ ⟨blk_cell H16.out.1.p0 0 rfl, blk_cell H16.out.1.p0 1 rfl, blk_cell H16.out.1.p0 2 rfl⟩ (fun _ => ?_)
      clear hK
      simp only [Act.put, List.setIfInBounds_toArray, List.set_cons_zero, List.set_cons_succ]
      exact J1010 _ a1 c1 A5 H16
    refine AllReadyH.cons (o := _) rfl (fun K hK => ?_) AllReadyH.nil
    go_simp
    have hb : Below Wz.heap.size Wz (Wz.alloc (.cells #[.int .i64 0, .int .i64 0, .slice none 0 0] 60)) := (Below.refl _ _).alloc (Nat.le_refl _) _
    have H17 : Hid (OB w (Wz.alloc (.cells #[.int .i64 0, .int .i64 0, .slice none 0 0] 60)) stock store a ds cap pf pd ∧ (Wz.alloc (.cells #[.int .i64 0, .int .i64 0, .slice none 0 0] 60)).heap[Wz.heap.size]? = some (.cells #[.int .i64 0, .int .i64 0, .slice none 0 0] 60 (0, 0)) ∧ w.heap.size + 1 < Wz.heap.size ∧ (Wz.alloc (.cells #[.int .i64 0, .int .i64 0, .slice none 0 0] 60)).heap[A5]? = some (.cells #[.int .i64 0, .int .i64 0, .slice none 0 0] 67 (0, 0)) ∧ w.heap.size + 1 < A5 ∧ Wz.heap.size ≠ A5) := ⟨Hz.out.1.below hb, heap_alloc_new _ _, Nat.lt_of_succ_le Hz.out.1.sz, blk_below Hz.out.2.1 hb, Hz.out.2.2, Nat.ne_of_gt (lt_of_block Hz.out.2.1)⟩
    clear hb
    refine hK.out _ _ ⟨blk_cell H17.out.1.p0 0 rfl, blk_cell H17.out.1.p0 1 rfl, blk_cell H17.out.1.p0 2 rfl⟩ (fun _ => ?_)
    clear hK
    simp only [Act.put, List.setIfInBounds_toArray, List.set_cons_zero, List.set_cons_succ]
    exact J0110 _ _ A5 H17
  simp only [Act.put, List.setIfInBounds_toArray, List.set_cons_zero, List.set_cons_succ] at J0010
  refine wpAnyH_ready (rs := [1, 4, 5]) (by kernel_rfl) (by simp) ?_
  refine AllReadyH.cons (o := _) rfl (fun K hK => ?_) ?_
  · go_simp
    go_at_call 33
    refine (cloneWin_any stock store a ds cap W0 H0.out.x HNA.out HL65.out).mono ?_
    rintro e W18 ⟨a1, c1, rfl, hs, hb⟩
    have H18 : Hid (OB w W18 stock store a ds cap pf pd ∧ Sl 6 Dy.cells W18 a1 ds) := ⟨H0.out.below hb, hs⟩
    clear hs hb
    refine hK.out _ _ ⟨blk_cell H18.out.1.p0 0 rfl, blk_cell H18.out.1.p0 1 rfl, blk_cell H18.out.1.p0 2 rfl⟩ (fun _ => ?_)
    clear hK
    simp only [Act.put, List.setIfInBounds_toArray, List.set_cons_zero, List.set_cons_succ]
    exact J1000 _ a1 c1 H18
  refine AllReadyH.cons (o := _) rfl (fun K hK => ?_) ?_
  · go_simp
    have hb : Below W0.heap.size W0 (W0.alloc (.cells #[.int .i64 0, .int .i64 0, .slice none 0 0] 60)) := (Below.refl _ _).alloc (Nat.le_refl _) _
    have H19 : Hid (OB w (W0.alloc (.cells #[.int .i64 0, .int .i64 0, .slice none 0 0] 60)) stock store a ds cap pf pd ∧ (W0.alloc (.cells #[.int .i64 0, .int .i64 0, .slice none 0 0] 60)).heap[W0.heap.size]? = some (.cells #[.int .i64 0, .int .i64 0, .slice none 0 0] 60 (0, 0)) ∧ w.heap.size + 1 < W0.heap.size) := ⟨H0.out.below hb, heap_alloc_new _ _, Nat.lt_of_succ_le H0.out.sz⟩
    clear hb
    refine hK.out _ _ ⟨blk_cell H19.out.1.p0 0 rfl, blk_cell H19.out.1.p0 1 rfl, blk_cell H19.out.1.p0 2 rfl⟩ (fun _ => ?_)
    clear hK
    simp only [Act.put, List.setIfInBounds_toArray, List.set_cons_zero, List.set_cons_succ]
    exact J0100 _ _ H19
  refine AllReadyH.cons (o := _) rfl (fun K hK => ?_) AllReadyH.nil
  go_simp
  have hb : Below W0.heap.size W0 (W0.alloc (.cells #[.int .i64 0, .int .i64 0, .slice none 0 0] 67)) := (Below.refl _ _).alloc (Nat.le_refl _) _
  have H20 : Hid (OB w (W0.alloc (.cells #[.int .i64 0, .int .i64 0, .slice none 0 0] 67)) stock store a ds cap pf pd ∧ (W0.alloc (.cells #[.int .i64 0, .int .i64 0, .slice none 0 0] 67)).heap[W0.heap.size]? = some (.cells #[.int .i64 0, .int .i64 0, .slice none 0 0] 67 (0, 0)) ∧ w.heap.size + 1 < W0.heap.size) := ⟨H0.out.below hb, heap_alloc_new _ _, Nat.lt_of_succ_le H0.out.sz⟩
  clear hb
  refine hK.out _ _ ⟨blk_cell H20.out.1.p0 0 rfl, blk_cell H20.out.1.p0 1 rfl, blk_cell H20.out.1.p0 2 rfl⟩ (fun _ => ?_)
  clear hK
  simp only [Act.put, List.setIfInBounds_toArray, List.set_cons_zero, List.set_cons_succ]
  exact J0010 _ _ H20
end Go.Proofs.Ytighidggefefdaa
