/-
The contracts of klisterkit.Clone for days, CloneWinter, Winter and same over this seat's program.
  What is proved: copies read as what is copied; a winter is converted to the reference's; winters are compared.
  Conditions: at most 1000 days.
The contract of the reference's Ranges over this seat's program.
  What is proved: it answers the ranges of stocks that the program's own Ranges answers.
  Conditions: at most 1000000 days.
-/
import Derived.Test.YtighidggefefdaaPartO3
namespace Go.Proofs.Ytighidggefefdaa
open Go.RowKit Go.Shelf
attribute [local go_sem] Oper.semAt_some

/-- Days that were handed back. -/
def OutDys (w : World) (ds : List Dy) (e : Ending) (w' : World) : Prop := ∃ a cap, e = .returned (.slice a ds.length cap) ∧ Sl 6 Dy.cells w' a ds ∧ (∀ p, a = some p → w.heap.size ≤ p.block) ∧ Below w.heap.size w w'

set_option maxHeartbeats 1000000 in
theorem cloneDays_any (a : Option Addr) (ds : List Dy) (cap : Nat) (w : World) (hx : Sl 6 Dy.cells w a ds) (hna : a = none → ds.length = 0 ∧ cap = 0) (hl : ds.length ≤ 1000) :
    Calls Try.prog 87 #[.slice a ds.length cap] w (OutDys w ds) := by
  obtain ⟨i0, hi, hz0, hz1, hz2⟩ := info_parts Try.info97
  cases a with
  | none =>
    obtain ⟨h1, rfl⟩ := hna rfl
    have : ds = [] := List.eq_nil_of_length_eq_zero h1
    subst this
    have hap : ∀ w, (Builtin.append_ #[58, 58] 58 #[.slice none 0 0, .slice none 0 0]).run Try.prog w = .ok (.slice none 0 0) w := fun _ => by kernel_rfl
    clear hna
    show Calls Try.prog 87 #[.slice none 0 0] w _
    go_enter Try.func87, Try.ntmps87
    go_wp2
    go_ret
    exact ⟨none, 0, rfl, hx, (fun p hp => by cases hp), Below.refl _ _⟩
  | some ad =>
    have HC : Hid (∀ j u, ((ds.flatMap Dy.cells).map (Value.int .i64))[j]? = some u → w.cell? (ad.add j) = some u) := fun j u hu => by
      have hj : j < ds.length * 6 := by
        rcases Nat.lt_or_ge j (ds.length * 6) with h | h
        · exact h
        · rw [List.getElem?_eq_none (by rw [List.length_map, flatD_len]; exact h)] at hu; cases hu
      obtain ⟨b, off, e, hbs, hc⟩ := hx (by omega)
      cases e
      have hq : j / 6 < ds.length := by omega
      have e : (⟨b, off, none⟩ : Addr).add j = ⟨b, off + (j / 6) * 6 + j % 6, none⟩ := by
        rw [show off + (j / 6) * 6 + j % 6 = off + j by omega]
        unfold Addr.add; split <;> simp_all
      have hr : j % 6 < (Dy.cells ds[j / 6]).length := by rw [Dy.cells_len]; omega
      have h1 := hc (j / 6) ds[j / 6] (j % 6) _ (List.getElem?_eq_getElem hq) (List.getElem?_eq_getElem hr)
      have h2 := flat_get ds (j / 6) ds[j / 6] (j % 6) _ (List.getElem?_eq_getElem hq) (List.getElem?_eq_getElem hr)
      rw [show j / 6 * 6 + j % 6 = j by omega] at h2
      rw [e, h1]
      rw [List.getElem?_map, h2] at hu
      simpa using hu
    have HLL := Lib.hid (flatD_len ds)
    clear hx hna
    go_enter Try.func87, Try.ntmps87
    go_wp2_with (at_builtin; refine wpList_append_own_at _ rfl _ _ 58 rfl w.heap.size 97 i0 (.agg #[.int .i64 0, .int .i64 0, .int .i64 0, .int .i64 0, .int .i64 0, .int .i64 0]) 6 48 Try.underlying58 hi hz0 hz1 hz2 rfl (by decide) (.slice none 0 0) 0 [] rfl ⟨rfl, .inl ⟨rfl, rfl⟩⟩ ad ds.length cap ((ds.flatMap Dy.cells).map (Value.int .i64)) rfl ?c0 ?c1 ?c2 ?c3 ?c4 ?c5 ?_)
    case c0 => rw [List.length_map]; exact HLL.out
    case c1 => exact HC.out
    case c2 => intro u hu; obtain ⟨x, _, rfl⟩ := List.mem_map.1 hu; rfl
    case c3 => unfold maxLen; omega
    case c4 => omega
    case c5 => exact Nat.le_refl _
    intro v' w2 hown2 hgrow2 _ _
    have hb3 : Below w.heap.size w w2 := (Below.refl _ w).grown hgrow2 (Nat.le_refl _) (fun j hj => by simp [Value.ownBlock] at hj)
    obtain ⟨a', c', rfl, hs, hf⟩ := days_of_owns hown2
    have HO := Lib.hid (And.intro hs (And.intro hf hb3))
    clear hown2 hgrow2 hs hf hb3
    go_wp2
    go_ret
    exact ⟨a', c', rfl, HO.out⟩


/-- A winter that was handed back. -/
def OutWinA (w : World) (stock store : Int) (ds : List Dy) (e : Ending) (w' : World) : Prop := ∃ a cap, e = .returned (wv stock store a ds.length cap) ∧ Sl 6 Dy.cells w' a ds ∧ Below w.heap.size w w'

set_option maxRecDepth 100000 in
set_option maxHeartbeats 1000000 in
theorem cloneWin_any (stock store : Int) (a : Option Addr) (ds : List Dy) (cap : Nat) (w : World) (hx : Sl 6 Dy.cells w a ds) (hna : a = none → ds.length = 0 ∧ cap = 0) (hl : ds.length ≤ 1000) :
    Calls Try.prog 33 #[wv stock store a ds.length cap] w (OutWinA w stock store ds) := by
  have HX := Lib.hid (And.intro hx (And.intro hna hl))
  clear hx hna hl
  obtain ⟨Wa, hWa⟩ : ∃ Wa, (w.alloc (.cells #[.int .i64 stock, .int .i64 store, .slice a ds.length cap] 60)).alloc (.cells #[.int .i64 0, .int .i64 0, .slice none 0 0] 60) = Wa := ⟨_, rfl⟩
  have hba : Below w.heap.size w Wa := by rw [← hWa]; exact ((Below.refl _ _).alloc (Nat.le_refl _) _).alloc (by simp) _
  have g0 : Wa.heap[w.heap.size]? = some (.cells #[.int .i64 stock, .int .i64 store, .slice a ds.length cap] 60 (0, 0)) := by rw [← hWa]; exact alk (new_at rfl)
  have g1 : Wa.heap[w.heap.size + 1]? = some (.cells #[.int .i64 0, .int .i64 0, .slice none 0 0] 60 (0, 0)) := by rw [← hWa]; exact new_at (by simp)
  have c0 := blk_cell g0 0 rfl
  have c1 := blk_cell g0 1 rfl
  have c2 := blk_cell g0 2 rfl
  have HA := Lib.hid (And.intro hba (And.intro g0 g1))
  clear hba g0 g1
  go_enter Try.func33, Try.ntmps33
  go_wp2_with (fail)
  clear hWa
  go_region_held3 (fun w' => w'.cell? ⟨w.heap.size, 0, none⟩ = some (.int .i64 stock) ∧ w'.cell? ⟨w.heap.size, 1, none⟩ = some (.int .i64 store) ∧ w'.cell? ⟨w.heap.size, 2, none⟩ = some (.slice a ds.length cap)) (go_keep)
    (first | (go_at_call 87; refine (cloneDays_any a ds cap Wa.drew (HX.out.1.below HA.out.1.drew) HX.out.2.1 HX.out.2.2).mono ?_; rintro e w1 ⟨g, c, rfl, hd1, hd2, hb1'⟩; have hb1 : Below Wa.heap.size Wa w1 := ⟨hb1'.os, hb1'.tape, hb1'.output, hb1'.size, hb1'.block⟩; clear hb1'; have hd := And.intro hd1 hd2; clear hd1 hd2; have H1 := Lib.hid (And.intro (below_self HA.out.1 hb1) (And.intro (blk_below HA.out.2.1 hb1) (And.intro (blk_below HA.out.2.2 hb1) (And.intro (show Sl 6 Dy.cells w1 g ds ∧ ∀ p, g = some p → Wa.heap.size ≤ p.block from hd) hb1)))); clear hd hb1 c0 c1 c2; have d0 := blk_cell H1.out.2.1 0 rfl; have d1 := blk_cell H1.out.2.1 1 rfl; have d2 := blk_cell H1.out.2.1 2 rfl; have f0 := blk_free (j := 0) H1.out.2.2.1; have f1 := blk_free (j := 1) H1.out.2.2.1; have f2 := blk_free (j := 2) H1.out.2.2.1; have e0 := blk_cell H1.out.2.2.1 0 rfl; have e1 := blk_cell H1.out.2.2.1 1 rfl; have e2 := blk_cell H1.out.2.2.1 2 rfl))
  go_wp2_with (fail)
  have HE : Hid (∀ W, W = ((w1.setCell ⟨w.heap.size + 1, 0, none⟩ (.int .i64 stock)).setCell ⟨w.heap.size + 1, 1, none⟩ (.int .i64 store)).setCell ⟨w.heap.size + 1, 2, none⟩ (.slice g ds.length c) →
      W.heap[w.heap.size + 1]? = some (.cells #[.int .i64 stock, .int .i64 store, .slice g ds.length c] 60 (0, 0)) ∧ Sl 6 Dy.cells W g ds ∧ Below w.heap.size w W) := by
    rintro W rfl
    have hd := H1.out.2.2.2.1
    refine ⟨blk_setCell (j := 2) (blk_setCell (j := 1) (blk_setCell (j := 0) H1.out.2.2.1)), ?_, ((H1.out.1.setCell (p := ⟨w.heap.size + 1, 0, none⟩) (by show w.heap.size ≤ w.heap.size + 1; omega) _).setCell (p := ⟨w.heap.size + 1, 1, none⟩) (by show w.heap.size ≤ w.heap.size + 1; omega) _).setCell (p := ⟨w.heap.size + 1, 2, none⟩) (by show w.heap.size ≤ w.heap.size + 1; omega) _⟩
    have hne : ∀ p, g = some p → p.block ≠ w.heap.size + 1 := fun p hp => by have := hd.2 p hp; have := lt_of_block HA.out.2.2; omega
    exact sl_set (sl_set (sl_set hd.1 hne) hne) hne
  clear d0 d1 d2 f0 f1 f2 e0 e1 e2
  generalize hWe : World.setCell _ _ _ = We
  have HF := Lib.hid (HE.out We hWe.symm)
  clear hWe HE
  have r0 := blk_cell HF.out.1 0 rfl
  have r1 := blk_cell HF.out.1 1 rfl
  have r2 := blk_cell HF.out.1 2 rfl
  refine bodyPost_ret (v := wv stock store g ds.length c) (by simp [results, Try.results33, go_sem, r0, r1, r2]) rfl ?_
  exact ⟨g, c, rfl, HF.out.2.1, HF.out.2.2⟩

theorem Try.info144 : (Try.prog.info? 144).map (fun i => (i.zero, i.size, i.bytes)) = some (some (.agg #[.int .i64 0, .int .i64 0, .int .i64 0, .int .i64 0, .int .i64 0, .int .i64 0]), 6, 48) := by kernel_rfl
theorem days_read {W : World} {base : Nat} {t : TypeId} {v : Value} {ds : List Dy} (h : W.ownsRow base t 6 v ds.length (flatD ds)) : ∃ a cap, v = .slice a ds.length cap ∧ Sl 6 Dy.cells W a ds ∧ (∀ p, a = some p → base ≤ p.block) := by
  rcases h.2 with ⟨rfl, h0⟩ | ⟨g, cap, cur, rfl, hb, hg, _⟩
  · exact ⟨none, 0, by rw [h0], (fun hp => by omega), (fun p hp => by cases hp)⟩
  · refine ⟨some ⟨g, 0, none⟩, cap, rfl, fun _ => ⟨g, 0, rfl, lt_of_block hg, fun j x i u hx hu => ?_⟩, (fun p hp => by cases hp; exact hb)⟩
    have hc := h.cells (g := g) rfl (j * 6 + i) (.int .i64 u) (by rw [List.getElem?_map, flat_get ds j x i u hx hu]; rfl)
    have : (⟨g, 0, none⟩ : Addr).add (j * 6 + i) = ⟨g, 0 + j * 6 + i, none⟩ := by unfold Addr.add; split <;> simp_all
    rw [this] at hc
    exact hc

theorem cells_newE (w : World) (d : Dy) : ∀ j u, ((Dy.cells d).map (Value.int .i64))[j]? = some u → (w.alloc (.cells #[.int .i64 d.need.lo, .int .i64 d.need.hi, .int .i64 d.make.lo, .int .i64 d.make.hi, .int .i64 d.loss.lo, .int .i64 d.loss.hi] 144)).cell? ((⟨w.heap.size, 0, none⟩ : Addr).add j) = some u := fun j u h => cells_new w [.int .i64 d.need.lo, .int .i64 d.need.hi, .int .i64 d.make.lo, .int .i64 d.make.hi, .int .i64 d.loss.lo, .int .i64 d.loss.hi] 144 j u h

/-- What is in memory while a winter is converted. -/
structure WN (w W : World) (stock store : Int) (sv : Value) (k : Nat) (ds : List Dy) : Prop where
  b : Below w.heap.size w W
  r : W.heap[w.heap.size + 1]? = some (.cells #[.int .i64 0, .int .i64 0, .slice none 0 0] 67 (0, 0))
  t : W.heap[w.heap.size + 1 + 1]? = some (.cells #[.int .i64 stock, .int .i64 store, sv] 67 (0, 0))
  o : W.ownsRow (w.heap.size + 1 + 1 + 1) 144 6 sv k (flatD ds)
theorem WN.below {w W W' : World} {stock store : Int} {sv : Value} {k : Nat} {ds : List Dy} (h : WN w W stock store sv k ds) (hb : Below W.heap.size W W') : WN w W' stock store sv k ds := ⟨below_self h.b hb, blk_below h.r hb, blk_below h.t hb, owns_below h.o hb⟩
theorem WN.more {w W W' : World} {stock store : Int} {sv v' : Value} {k k' : Nat} {ds ds' : List Dy} (h : WN w W stock store sv k ds) (ho : W'.ownsRow (w.heap.size + 1 + 1 + 1) 144 6 v' k' (flatD ds')) (hg : W.grownBy W' sv.ownBlock) : WN w (W'.setCell ⟨w.heap.size + 1 + 1, 2, none⟩ v') stock store v' k' ds' := by
  have hk : ∀ j, j < W.heap.size → j < w.heap.size + 1 + 1 + 1 → W'.heap[j]? = W.heap[j]? := fun j hj h2 => hg.block j hj (fun e => by have := (h.o.lt j e.symm).1; omega)
  have hT := lt_of_block h.t
  have hb : Below w.heap.size w W' := h.b.grown hg h.b.size (fun j hj => by have := (h.o.lt j hj).1; omega)
  refine ⟨hb.setCell (p := ⟨w.heap.size + 1 + 1, 2, none⟩) (by show w.heap.size ≤ w.heap.size + 1 + 1; omega) _, ?_, ?_, ?_⟩
  · rw [Below.heap_setCell _ ⟨w.heap.size + 1 + 1, 2, none⟩ _ _ (by show w.heap.size + 1 ≠ w.heap.size + 1 + 1; omega), hk _ (by omega) (by omega)]; exact h.r
  · exact blk_setCell (j := 2) ((hk _ hT (by omega)).trans h.t)
  · exact owns_step ho (fun g hg _ _ => Below.heap_setCell _ ⟨w.heap.size + 1 + 1, 2, none⟩ _ _ (by show g ≠ w.heap.size + 1 + 1; omega))

set_option maxRecDepth 100000 in
set_option maxHeartbeats 4000000 in
theorem winter_any (stock store : Int) (a : Option Addr) (ds : List Dy) (cap : Nat) (w : World) (hx : Sl 6 Dy.cells w a ds) (hl : ds.length ≤ 1000) :
    Calls Try.prog 34 #[wv stock store a ds.length cap] w (OutWinA w stock store ds) := by
  obtain ⟨i0, hi, hz0, hz1, hz2⟩ := info_parts Try.info144
  have HX := Lib.hid hx
  clear hx
  have h0 : WN w (((w.alloc (.cells #[.int .i64 stock, .int .i64 store, .slice a ds.length cap] 60)).alloc (.cells #[.int .i64 0, .int .i64 0, .slice none 0 0] 67)).alloc (.cells #[.int .i64 stock, .int .i64 store, .slice none 0 0] 67)) stock store (.slice none 0 0) 0 (ds.take 0) :=
    ⟨(((Below.refl _ _).alloc (Nat.le_refl _) _).alloc (by simp) _).alloc (by simp; omega) _, alk (new_at (by simp)), new_at (by simp), World.ownsRow_nil _ _ _ _⟩
  have H0 := Lib.hid h0
  clear h0
  go_enter Try.func34, Try.ntmps34
  go_wp2_with (fail)
  generalize ((w.alloc (.cells #[.int .i64 stock, .int .i64 store, .slice a ds.length cap] 60)).alloc (.cells #[.int .i64 0, .int .i64 0, .slice none 0 0] 67)).alloc (.cells #[.int .i64 stock, .int .i64 store, .slice none 0 0] 67) = W0 at H0 ⊢
  go_loopw [14] (fun i wr => ∃ (k : Nat) (sv : Value), i = .int .i64 k ∧ k ≤ ds.length ∧ Hid (WN w wr stock store sv k (ds.take k))) (fun i _ => ds.length - (intOf i).toNat)
  case atStart => exact ⟨0, _, rfl, Nat.zero_le _, H0.out⟩
  case round =>
    obtain ⟨k, sv, rfl, hk, hR⟩ := hrel
    by_cases hlt : k < ds.length
    · obtain ⟨b, off, rfl, hbs, hc⟩ := HX.out (by omega)
      have hxk := List.getElem?_eq_getElem hlt
      have ck : ∀ (i : Nat) (u : Int), (Dy.cells ds[k])[i]? = some u → wr.cell? ⟨b, off + k * 6 + i, none⟩ = some (.int .i64 u) := fun i u hu => (hR.out.b.cell (p := ⟨b, off + k * 6 + i, none⟩) hbs).trans (hc k ds[k] i u hxk hu)
      have d0 : wr.cell? ⟨b, off + k * 6, none⟩ = some (.int .i64 ds[k].need.lo) := ck 0 _ rfl
      have d1 := ck 1 _ rfl
      have d2 := ck 2 _ rfl
      have d3 := ck 3 _ rfl
      have d4 := ck 4 _ rfl
      have d5 := ck 5 _ rfl
      have HE : Hid (flatD (ds.take (k + 1)) = flatD (ds.take k) ++ (Dy.cells ds[k]).map (Value.int .i64)) := by
        show _ = _
        unfold flatD
        rw [List.take_add_one, hxk, List.flatMap_append, List.map_append]
        simp
      clear hc hxk ck
      generalize ds[k] = d at *
      obtain ⟨Wx, hWx⟩ : ∃ Wx, wr.alloc (.cells #[.int .i64 d.need.lo, .int .i64 d.need.hi, .int .i64 d.make.lo, .int .i64 d.make.hi, .int .i64 d.loss.lo, .int .i64 d.loss.hi] 97) = Wx := ⟨_, rfl⟩
      have hbx : Below wr.heap.size wr Wx := by rw [← hWx]; exact (Below.refl _ _).alloc (Nat.le_refl _) _
      have HNX : Hid (Wx.heap[wr.heap.size]? = some (.cells #[.int .i64 d.need.lo, .int .i64 d.need.hi, .int .i64 d.make.lo, .int .i64 d.make.hi, .int .i64 d.loss.lo, .int .i64 d.loss.hi] 97 (0, 0))) := by rw [← hWx]; exact heap_alloc_new _ _
      have HWX := Lib.hid (hR.out.below hbx)
      go_upto_region 5 with (fail)
      clear hWx d0 d1 d2 d3 d4 d5 hbx
      have n0 := blk_cell HNX.out 0 rfl
      have n1 := blk_cell HNX.out 1 rfl
      have n2 := blk_cell HNX.out 2 rfl
      have n3 := blk_cell HNX.out 3 rfl
      have n4 := blk_cell HNX.out 4 rfl
      have n5 := blk_cell HNX.out 5 rfl
      have t2 := blk_cell HWX.out.t 2 rfl
      have HA := Lib.hid (HWX.out.below ((Below.refl Wx.heap.size Wx).alloc (Nat.le_refl _) (.cells #[.int .i64 d.need.lo, .int .i64 d.need.hi, .int .i64 d.make.lo, .int .i64 d.make.hi, .int .i64 d.loss.lo, .int .i64 d.loss.hi] 144)))
      go_wp2_with (at_builtin; refine wpList_append_own_at _ rfl _ _ 65 rfl (w.heap.size + 1 + 1 + 1) 144 i0 (.agg #[.int .i64 0, .int .i64 0, .int .i64 0, .int .i64 0, .int .i64 0, .int .i64 0]) 6 48 Try.underlying65 hi hz0 hz1 hz2 rfl (by decide) sv k (flatD (ds.take k)) rfl HA.out.o ⟨Wx.heap.size, 0, none⟩ 1 1 ((Dy.cells d).map (Value.int .i64)) rfl rfl (cells_newE _ d) (by intro u hu; obtain ⟨x, _, rfl⟩ := List.mem_map.1 hu; rfl) (by unfold maxLen; omega) (by omega) (by have := lt_of_block HA.out.t; omega) ?_)
      intro v' W4 hown hgrow _ _
      rw [← HE.out] at hown
      obtain ⟨g, c, rfl⟩ : ∃ g c, v' = .slice g (k + 1) c := by
        rcases hown.2 with ⟨_, h0⟩ | ⟨g, c, cur, e, _⟩
        · exact absurd h0 (by omega)
        · exact ⟨_, c, e⟩
      have HM := Lib.hid (HA.out.more hown hgrow)
      have hT4 := (hgrow.block _ (lt_of_block HA.out.t) (fun e => by have := (HA.out.o.lt _ e.symm).1; omega)).trans HA.out.t
      have f2 : W4.frozen? ⟨w.heap.size + 1 + 1, 2, none⟩ = false := blk_free (j := 2) hT4
      have t2' := blk_cell hT4 2 rfl
      clear hown hgrow hT4 n0 n1 n2 n3 n4 n5 t2
      go_wp2_with (fail)
      go_roundw
      case rel => exact ⟨k + 1, _, by go_num, by omega, HM.out⟩
      case measure => simp [intOf]; omega
    · have hke : k = ds.length := by omega
      subst hke
      have ho := hR.out.o
      rw [List.take_length] at ho
      obtain ⟨g, c, rfl, hs, hf⟩ := days_read ho
      have HO := Lib.hid (And.intro hs hf)
      clear ho hs hf
      have t0 := blk_cell hR.out.t 0 rfl
      have t1 := blk_cell hR.out.t 1 rfl
      have t2 := blk_cell hR.out.t 2 rfl
      have f0 := blk_free (j := 0) hR.out.r
      have f1 := blk_free (j := 1) hR.out.r
      have f2 := blk_free (j := 2) hR.out.r
      have e0 := blk_cell hR.out.r 0 rfl
      have e1 := blk_cell hR.out.r 1 rfl
      have e2 := blk_cell hR.out.r 2 rfl
      go_wp2_with (fail)
      have HE : Hid (∀ W, W = ((wr.setCell ⟨w.heap.size + 1, 0, none⟩ (.int .i64 stock)).setCell ⟨w.heap.size + 1, 1, none⟩ (.int .i64 store)).setCell ⟨w.heap.size + 1, 2, none⟩ (.slice g ds.length c) →
          W.heap[w.heap.size + 1]? = some (.cells #[.int .i64 stock, .int .i64 store, .slice g ds.length c] 67 (0, 0)) ∧ Sl 6 Dy.cells W g ds ∧ Below w.heap.size w W) := by
        rintro W rfl
        refine ⟨blk_setCell (j := 2) (blk_setCell (j := 1) (blk_setCell (j := 0) hR.out.r)), ?_, ((hR.out.b.setCell (p := ⟨w.heap.size + 1, 0, none⟩) (by show w.heap.size ≤ w.heap.size + 1; omega) _).setCell (p := ⟨w.heap.size + 1, 1, none⟩) (by show w.heap.size ≤ w.heap.size + 1; omega) _).setCell (p := ⟨w.heap.size + 1, 2, none⟩) (by show w.heap.size ≤ w.heap.size + 1; omega) _⟩
        have hne : ∀ p, g = some p → p.block ≠ w.heap.size + 1 := fun p hp => by have := HO.out.2 p hp; omega
        exact sl_set (sl_set (sl_set HO.out.1 hne) hne) hne
      clear t0 t1 t2 f0 f1 f2 e0 e1 e2
      generalize hWe : World.setCell _ _ _ = We
      have HF := Lib.hid (HE.out We hWe.symm)
      clear hWe HE
      have r0 := blk_cell HF.out.1 0 rfl
      have r1 := blk_cell HF.out.1 1 rfl
      have r2 := blk_cell HF.out.1 2 rfl
      refine bodyPost_ret (v := wv stock store g ds.length c) (by simp [results, Try.results34, go_sem, r0, r1, r2]) rfl ?_
      exact ⟨g, c, rfl, HF.out.2.1, HF.out.2.2⟩

theorem eqDys_self (xs : List Dy) : eqDys xs xs = true := by
  simp [eqDys, eqDy, eqSp]
  intro j hj
  cases xs[j]? <;> simp

set_option maxRecDepth 100000 in
set_option maxHeartbeats 2000000 in
theorem same_any (s t : Int) (a : Option Addr) (xs : List Dy) (ca : Nat) (b : Option Addr) (cb : Nat) (w : World) (hx : Sl 6 Dy.cells w a xs) (hy : Sl 6 Dy.cells w b xs) (hl : xs.length ≤ 1000) :
    Calls Try.prog 47 #[wv s t a xs.length ca, wv s t b xs.length cb] w fun e w' => e = .returned (.bool true) ∧ Below w.heap.size w w' := by
  obtain ⟨Wa, hWa⟩ : ∃ Wa, (w.alloc (.cells #[.int .i64 s, .int .i64 t, .slice a xs.length ca] 60)).alloc (.cells #[.int .i64 s, .int .i64 t, .slice b xs.length cb] 60) = Wa := ⟨_, rfl⟩
  have hba : Below w.heap.size w Wa := by rw [← hWa]; exact ((Below.refl _ _).alloc (Nat.le_refl _) _).alloc (by simp) _
  have g0 : Wa.heap[w.heap.size]? = some (.cells #[.int .i64 s, .int .i64 t, .slice a xs.length ca] 60 (0, 0)) := by rw [← hWa]; exact alk (new_at rfl)
  have g1 : Wa.heap[w.heap.size + 1]? = some (.cells #[.int .i64 s, .int .i64 t, .slice b xs.length cb] 60 (0, 0)) := by rw [← hWa]; exact new_at (by simp)
  have c0 := blk_cell g0 0 rfl
  have c1 := blk_cell g0 1 rfl
  have c2 := blk_cell g0 2 rfl
  have d0 := blk_cell g1 0 rfl
  have d1 := blk_cell g1 1 rfl
  have d2 := blk_cell g1 2 rfl
  have HX := Lib.hid (And.intro (hx.below hba) (And.intro (hy.below hba) hba))
  clear hx hy hba g0 g1
  go_enter Try.func47, Try.ntmps47
  go_wp2_with (fail)
  refine (equal_day a xs ca b xs cb Wa HX.out.1 HX.out.2.1 (by omega)).mono ?_
  rintro e w' ⟨rfl, hb⟩
  have HB := Lib.hid (below_self HX.out.2.2 hb)
  rw [eqDys_self]
  clear hb
  go_wp2_with (fail)
  go_ret
  exact ⟨rfl, HB.out⟩
end Go.Proofs.Ytighidggefefdaa

namespace Go.Proofs.Ytighidggefefdaa
open Go.RowKit Go.Shelf
attribute [local go_sem] Oper.semAt_some

theorem sps_flat (xs : List Sp) : ∀ (j : Nat) (x : Sp) (i : Nat) (u : Int), xs[j]? = some x → (Sp.cells x)[i]? = some u → (xs.flatMap Sp.cells)[j * 2 + i]? = some u := by
  induction xs with
  | nil => intro j x i u h _; simp at h
  | cons y xs ih =>
    intro j x i u h hi
    have h2 : i < 2 := by
      rcases Nat.lt_or_ge i 2 with h2 | h2
      · exact h2
      · rw [List.getElem?_eq_none (by exact h2)] at hi; cases hi
    cases j with
    | zero =>
      simp at h; subst h
      rw [Nat.zero_mul, Nat.zero_add, List.flatMap_cons, List.getElem?_append_left (by exact h2)]
      exact hi
    | succ j =>
      rw [List.flatMap_cons, List.getElem?_append_right (by show 2 ≤ _; omega), show (j + 1) * 2 + i - (Sp.cells y).length = j * 2 + i from by show _ - 2 = _; omega]
      exact ih j x i u (by simpa using h) hi
theorem sps_read {W : World} {base : Nat} {v : Value} {xs : List Sp} (h : W.ownsRow base 24 2 v xs.length ((xs.flatMap Sp.cells).map (Value.int .i64))) : ∃ a cap, v = .slice a xs.length cap ∧ Sl 2 Sp.cells W a xs ∧ (∀ p, a = some p → base ≤ p.block) := by
  rcases h.2 with ⟨rfl, h0⟩ | ⟨g, cap, cur, rfl, hb, hg, _⟩
  · exact ⟨none, 0, by rw [h0], (fun hp => by omega), (fun p hp => by cases hp)⟩
  · refine ⟨some ⟨g, 0, none⟩, cap, rfl, fun _ => ⟨g, 0, rfl, lt_of_block hg, fun j x i u hx hu => ?_⟩, (fun p hp => by cases hp; exact hb)⟩
    have hc := h.cells (g := g) rfl (j * 2 + i) (.int .i64 u) (by rw [List.getElem?_map, sps_flat xs j x i u hx hu]; rfl)
    have : (⟨g, 0, none⟩ : Addr).add (j * 2 + i) = ⟨g, 0 + j * 2 + i, none⟩ := by unfold Addr.add; split <;> simp_all
    rw [this] at hc
    exact hc
theorem ranges_take {stock store : Int} {ds : List Dy} {j : Nat} (h : j < (worstL stock store ds).stocks.length) : (((rangesL stock store ds).take (j + 1)).flatMap Sp.cells).map (Value.int .i64) = (((rangesL stock store ds).take j).flatMap Sp.cells).map (Value.int .i64) ++ ([(worstL stock store ds).stocks[j]?.getD 0, (bestL stock store ds).stocks[j]?.getD 0].map (Value.int .i64)) := by
  have : (rangesL stock store ds)[j]? = some ⟨(worstL stock store ds).stocks[j]?.getD 0, (bestL stock store ds).stocks[j]?.getD 0⟩ := by
    unfold rangesL
    rw [List.getElem?_map, List.getElem?_range h]; rfl
  rw [List.take_add_one, this, List.flatMap_append, List.map_append]
  rfl

set_option maxRecDepth 100000 in
set_option maxHeartbeats 8000000 in
theorem refRanges_any (stock store : Int) (a : Option Addr) (ds : List Dy) (cap : Nat) (w : World) (hx : Sl 6 Dy.cells w a ds) (hl : ds.length ≤ 1000000) :
    Calls Try.prog 45 #[wv stock store a ds.length cap] w (OutSps w (rangesR stock store ds)) := by
  obtain ⟨i0, hi, hz0, hz1, hz2⟩ := info_parts Try.info24
  have hB0 : Below w.heap.size w (w.alloc (.cells #[.int .i64 stock, .int .i64 store, .slice a ds.length cap] 67)) := (Below.refl _ _).alloc (Nat.le_refl _) _
  have hR0 : (w.alloc (.cells #[.int .i64 stock, .int .i64 store, .slice a ds.length cap] 67)).heap[w.heap.size]? = some (.cells #[.int .i64 stock, .int .i64 store, .slice a ds.length cap] 67 (0, 0)) := heap_alloc_new _ _
  have HX := Lib.hid (And.intro hx hl)
  clear hx hl
  go_enter Try.func45, Try.ntmps45
  go_wp2_with (fail)
  have HB0 := Lib.hid (And.intro hB0 hR0)
  have HX0 := Lib.hid (HX.out.1.below hB0)
  generalize w.alloc (.cells #[.int .i64 stock, .int .i64 store, .slice a ds.length cap] 67) = W0 at HB0 HX0 ⊢
  clear hB0 hR0
  refine (refWinter_any stock store a ds cap _ HX0.out HX.out.2).mono ?_
  rintro e W1 ⟨rfl, hb⟩
  have HB1 := Lib.hid (And.intro (below_self HB0.out.1 hb) (blk_below HB0.out.2 hb))
  have HX1 := Lib.hid (HX0.out.below hb)
  clear hb HX0
  have c0 := blk_cell HB1.out.2 0 rfl
  have c1 := blk_cell HB1.out.2 1 rfl
  have c2 := blk_cell HB1.out.2 2 rfl
  by_cases hw : winE stock store ds = 0
  · have g1 : (winE stock store ds != 0) = false := by simp [hw]
    have HW := Lib.hid hw
    obtain ⟨b1, b2, b3⟩ := win_ok hw
    have HOK := Lib.hid (And.intro b1 (And.intro b2 b3))
    clear hw b1 b2 b3
    go_wp2_with (fail)
    clear g1
    refine (ends_worst stock store a ds cap W1 HX1.out (by have := HOK.out.2.1; omega)).mono ?_
    rintro e V1 ⟨an, cn, am, cm, al, cl, rfl, iN, iM, iL, hb⟩
    simp only [List.length_map]
    have HI := Lib.hid (And.intro iN (And.intro iM iL))
    have HB1a := Lib.hid (And.intro (below_self HB1.out.1 hb) (blk_below HB1.out.2 hb))
    have HX1a := Lib.hid (HX1.out.below hb)
    clear iN iM iL hb c0 c1 c2
    have c0 := blk_cell HB1a.out.2 0 rfl
    have c1 := blk_cell HB1a.out.2 1 rfl
    have c2 := blk_cell HB1a.out.2 2 rfl
    go_wp2_with (fail)
    (with_reducible refine (happens_n stock store a ds.length cap an (ds.map fun d => d.need.hi) cn am (ds.map fun d => d.make.lo) cm al (ds.map fun d => d.loss.hi) cl V1 HI.out.1 HI.out.2.1 HI.out.2.2 (by simp) (by simp) (by simp) HOK.out.2.1.2 ⟨HOK.out.1.1, HOK.out.1.2.1, HOK.out.1.2.2.2⟩ (worst_bd HOK.out.2.2)).mono ?_)
    rintro e W2 ⟨s1, sc1, ma, mc, rfl, iS, _, hb⟩
    have HB2 := Lib.hid (And.intro (below_self HB1a.out.1 hb) (blk_below HB1a.out.2 hb))
    have HX2 := Lib.hid (HX1a.out.below hb)
    have HS1 : Hid (IntSl W2 s1 (worstL stock store ds).stocks) := iS
    clear iS hb c0 c1 c2 HI HB1a HX1a
    have c0 := blk_cell HB2.out.2 0 rfl
    have c1 := blk_cell HB2.out.2 1 rfl
    have c2 := blk_cell HB2.out.2 2 rfl
    go_wp2_with (fail)
    refine (ends_best stock store a ds cap W2 HX2.out (by have := HOK.out.2.1; omega)).mono ?_
    rintro e V2 ⟨an, cn, am, cm, al, cl, rfl, iN, iM, iL, hb⟩
    simp only [List.length_map]
    have HI := Lib.hid (And.intro iN (And.intro iM iL))
    have HB2a := Lib.hid (And.intro (below_self HB2.out.1 hb) (blk_below HB2.out.2 hb))
    have HX2a := Lib.hid (HX2.out.below hb)
    have HS1a := Lib.hid (HS1.out.below hb)
    clear iN iM iL hb c0 c1 c2
    have c0 := blk_cell HB2a.out.2 0 rfl
    have c1 := blk_cell HB2a.out.2 1 rfl
    have c2 := blk_cell HB2a.out.2 2 rfl
    go_wp2_with (fail)
    (with_reducible refine (happens_n stock store a ds.length cap an (ds.map fun d => d.need.lo) cn am (ds.map fun d => d.make.hi) cm al (ds.map fun d => d.loss.lo) cl V2 HI.out.1 HI.out.2.1 HI.out.2.2 (by simp) (by simp) (by simp) HOK.out.2.1.2 ⟨HOK.out.1.1, HOK.out.1.2.1, HOK.out.1.2.2.2⟩ (best_bd HOK.out.2.2)).mono ?_)
    rintro e W3 ⟨s2, sc2, ma, mc, rfl, iS, _, hb⟩
    have HB3 := Lib.hid (And.intro (below_self HB2a.out.1 hb) (blk_below HB2a.out.2 hb))
    have HX3 := Lib.hid (HX2a.out.below hb)
    have HS2 : Hid (IntSl W3 s2 (bestL stock store ds).stocks) := iS
    have HS1b := Lib.hid (HS1a.out.below hb)
    clear iS hb c0 c1 c2 HI HB2a HX2a
    have c0 := blk_cell HB3.out.2 0 rfl
    have c1 := blk_cell HB3.out.2 1 rfl
    have c2 := blk_cell HB3.out.2 2 rfl
    have hlen : (worstL stock store ds).stocks.length ≤ (bestL stock store ds).stocks.length ∧ (worstL stock store ds).stocks.length ≤ 60 := by
      have h1 := (best_less HOK.out.2.2 ⟨HOK.out.1.1, HOK.out.1.2.1⟩).len
      have h2 := (playL_len stock store (ds.map fun d => d.need.hi) (ds.map fun d => d.make.lo) (ds.map fun d => d.loss.hi) ds.length).1
      have h3 := HOK.out.2.1.2
      exact ⟨h1, Nat.le_trans h2 h3⟩
    have HLEN := Lib.hid hlen
    clear hlen HS1a
    have hsw : playL stock store (ds.map fun d => d.need.hi) (ds.map fun d => d.make.lo) (ds.map fun d => d.loss.hi) ds.length = worstL stock store ds := rfl
    have hsb : playL stock store (ds.map fun d => d.need.lo) (ds.map fun d => d.make.hi) (ds.map fun d => d.loss.lo) ds.length = bestL stock store ds := rfl
    rw [hsw, hsb]
    clear hsw hsb
    go_wp2_with (fail)
    go_loopw [14, 15] (fun v14 i wr => ∃ (k : Nat) (v : Value), v = v14 ∧ i = .int .i64 k ∧ k ≤ (worstL stock store ds).stocks.length ∧ Hid (wr.ownsRow W3.heap.size 24 2 v k ((((rangesL stock store ds).take k).flatMap Sp.cells).map (Value.int .i64)) ∧ Below W3.heap.size W3 wr)) (fun _ i _ => (worstL stock store ds).stocks.length - (intOf i).toNat)
    case atStart => exact ⟨0, _, rfl, rfl, Nat.zero_le _, World.ownsRow_nil _ _ _ _, Below.refl _ _⟩
    case round =>
      obtain ⟨k, v, rfl, rfl, hk, hR⟩ := hrel
      by_cases hlt : k < (worstL stock store ds).stocks.length
      · obtain ⟨b1, o1, rfl, hb1, hc1⟩ := HS1b.out (by omega)
        obtain ⟨b2, o2, rfl, hb2, hc2⟩ := HS2.out (by have := HLEN.out.1; omega)
        have x1 := (hR.out.2.cell (p := ⟨b1, o1 + k, none⟩) hb1).trans (hc1 k hlt)
        have x2 := (hR.out.2.cell (p := ⟨b2, o2 + k, none⟩) hb2).trans (hc2 k (by have := HLEN.out.1; omega))
        have hk2 : k < (bestL stock store ds).stocks.length := by have := HLEN.out.1; omega
        have hk3 : k ≤ 60 := by have := HLEN.out.2; omega
        have HE := Lib.hid (ranges_take hlt)
        clear hc1 hc2
        generalize (worstL stock store ds).stocks[k]?.getD 0 = xa at *
        generalize (bestL stock store ds).stocks[k]?.getD 0 = xb at *
        have hsz := hR.out.2.size
        go_upto_region 12 with (fail)
        refine wp_region_split (S := fun W' => W'.cell? ⟨b1, o1 + k, none⟩ = some (.int .i64 xa) ∧ W'.cell? ⟨b2, o2 + k, none⟩ = some (.int .i64 xb)) [12] 12 (by kernel_rfl) (by kernel_rfl) rfl ?_
        have hown := hR.out.1
        have hbl := hR.out.2
        have HC : Hid (wr.drew.cell? ⟨b1, o1 + k, none⟩ = some (.int .i64 xa) ∧ wr.drew.cell? ⟨b2, o2 + k, none⟩ = some (.int .i64 xb) ∧ (wr.drew.ownsRow W3.heap.size 24 2 v k ((((rangesL stock store ds).take k).flatMap Sp.cells).map (Value.int .i64)) ∧ Below W3.heap.size W3 wr.drew)) := ⟨x1, x2, owns_below hown (Below.refl _ _).drew, below_self hbl (Below.refl _ _).drew⟩
        clear x1 x2 hown hbl hsz hR
        have HB12 : Hid (b1 < W3.heap.size ∧ b2 < W3.heap.size) := ⟨hb1, hb2⟩
        generalize wr.drew = W4 at HC ⊢
        rw [show firstL _ [12] = #[false, false, false, false, false, false, false, false, false, false, false, false, true] from by kernel_rfl]
        refine wpAnyH_take (i := 0) (v := v) rfl (by kernel_rfl) (by kernel_rfl) (by kernel_rfl) (fun _ _ _ h => h) (Or.inl ⟨by rfl, by (intro W hSw; clear hSw; go_simp)⟩) ⟨HC.out.1, HC.out.2.1⟩ ?_
        simp only [Act.put, List.setIfInBounds_toArray, List.set_cons_zero, List.set_cons_succ]
        refine wpAnyH_take (i := 1) (v := (.slice (some ⟨b1, o1, none⟩) (worstL stock store ds).stocks.length sc1)) rfl (by kernel_rfl) (by kernel_rfl) (by kernel_rfl) (fun _ _ _ h => h) (Or.inl ⟨by rfl, by (intro W hSw; clear hSw; go_simp)⟩) ⟨HC.out.1, HC.out.2.1⟩ ?_
        simp only [Act.put, List.setIfInBounds_toArray, List.set_cons_zero, List.set_cons_succ]
        refine wpAnyH_take (i := 2) (v := .int .i64 k) rfl (by kernel_rfl) (by kernel_rfl) (by kernel_rfl) (fun _ _ _ h => h) (Or.inl ⟨by rfl, by (intro W hSw; clear hSw; go_simp)⟩) ⟨HC.out.1, HC.out.2.1⟩ ?_
        simp only [Act.put, List.setIfInBounds_toArray, List.set_cons_zero, List.set_cons_succ]
        refine wpAnyH_take (i := 3) (v := .pointer (some ⟨b1, o1 + k, none⟩)) rfl (by kernel_rfl) (by kernel_rfl) (by kernel_rfl) (fun _ _ _ h => h) (Or.inl ⟨by rfl, by (intro W hSw; clear hSw; go_simp)⟩) ⟨HC.out.1, HC.out.2.1⟩ ?_
        simp only [Act.put, List.setIfInBounds_toArray, List.set_cons_zero, List.set_cons_succ]
        refine wpAnyH_take (i := 4) (v := .int .i64 xa) rfl (by kernel_rfl) (by kernel_rfl) (by kernel_rfl) (fun _ _ _ h => h) (Or.inl ⟨by rfl, by (intro W hSw; have c := hSw.1; clear hSw; go_simp)⟩) ⟨HC.out.1, HC.out.2.1⟩ ?_
        simp only [Act.put, List.setIfInBounds_toArray, List.set_cons_zero, List.set_cons_succ]
        refine wpAnyH_take (i := 5) (v := (.slice (some ⟨b2, o2, none⟩) (bestL stock store ds).stocks.length sc2)) rfl (by kernel_rfl) (by kernel_rfl) (by kernel_rfl) (fun _ _ _ h => h) (Or.inl ⟨by rfl, by (intro W hSw; clear hSw; go_simp)⟩) ⟨HC.out.1, HC.out.2.1⟩ ?_
        simp only [Act.put, List.setIfInBounds_toArray, List.set_cons_zero, List.set_cons_succ]
        refine wpAnyH_take (i := 6) (v := .int .i64 k) rfl (by kernel_rfl) (by kernel_rfl) (by kernel_rfl) (fun _ _ _ h => h) (Or.inl ⟨by rfl, by (intro W hSw; clear hSw; go_simp)⟩) ⟨HC.out.1, HC.out.2.1⟩ ?_
        simp only [Act.put, List.setIfInBounds_toArray, List.set_cons_zero, List.set_cons_succ]
        refine wpAnyH_take (i := 7) (v := .pointer (some ⟨b2, o2 + k, none⟩)) rfl (by kernel_rfl) (by kernel_rfl) (by kernel_rfl) (fun _ _ _ h => h) (Or.inl ⟨by rfl, by (intro W hSw; clear hSw; go_simp)⟩) ⟨HC.out.1, HC.out.2.1⟩ ?_
        simp only [Act.put, List.setIfInBounds_toArray, List.set_cons_zero, List.set_cons_succ]
        refine wpAnyH_take (i := 8) (v := .int .i64 xb) rfl (by kernel_rfl) (by kernel_rfl) (by kernel_rfl) (fun _ _ _ h => h) (Or.inl ⟨by rfl, by (intro W hSw; have c := hSw.2; clear hSw; go_simp)⟩) ⟨HC.out.1, HC.out.2.1⟩ ?_
        simp only [Act.put, List.setIfInBounds_toArray, List.set_cons_zero, List.set_cons_succ]
        refine wpAnyH_take (i := 9) (v := .agg #[.int .i64 xa, .int .i64 xb]) rfl (by kernel_rfl) (by kernel_rfl) (by kernel_rfl) (fun _ _ _ h => h) (Or.inl ⟨by rfl, by (intro W hSw; clear hSw; go_simp)⟩) ⟨HC.out.1, HC.out.2.1⟩ ?_
        simp only [Act.put, List.setIfInBounds_toArray, List.set_cons_zero, List.set_cons_succ]
        refine wpAnyH_ready (rs := [10]) (by kernel_rfl) (by simp) ?_
        refine AllReadyH.cons (o := _) rfl (fun K hK => ?_) AllReadyH.nil
        go_simp
        have hb4 : Below W4.heap.size W4 (W4.alloc (.cells #[.int .i64 xa, .int .i64 xb] 24)) := (Below.refl _ _).alloc (Nat.le_refl _) _
        have PC : Hid (∀ j u, [Value.int .i64 xa, .int .i64 xb][j]? = some u → (W4.alloc (.cells #[.int .i64 xa, .int .i64 xb] 24)).cell? ((⟨W4.heap.size, 0, none⟩ : Addr).add j) = some u) := cells_new W4 [.int .i64 xa, .int .i64 xb] 24
        have hq1 : b1 < W4.heap.size := Nat.lt_of_lt_of_le HB12.out.1 HC.out.2.2.2.size
        have hq2 : b2 < W4.heap.size := Nat.lt_of_lt_of_le HB12.out.2 HC.out.2.2.2.size
        have HD : Hid ((W4.alloc (.cells #[.int .i64 xa, .int .i64 xb] 24)).cell? ⟨b1, o1 + k, none⟩ = some (.int .i64 xa) ∧ (W4.alloc (.cells #[.int .i64 xa, .int .i64 xb] 24)).cell? ⟨b2, o2 + k, none⟩ = some (.int .i64 xb) ∧ ((W4.alloc (.cells #[.int .i64 xa, .int .i64 xb] 24)).ownsRow W3.heap.size 24 2 v k ((((rangesL stock store ds).take k).flatMap Sp.cells).map (Value.int .i64)) ∧ Below W3.heap.size W3 (W4.alloc (.cells #[.int .i64 xa, .int .i64 xb] 24)))) := ⟨(hb4.cell (p := ⟨b1, o1 + k, none⟩) hq1).trans HC.out.1, (hb4.cell (p := ⟨b2, o2 + k, none⟩) hq2).trans HC.out.2.1, owns_below HC.out.2.2.1 hb4, below_self HC.out.2.2.2 hb4⟩
        clear hb4 hq1 hq2
        refine hK.out _ _ ⟨HD.out.1, HD.out.2.1⟩ (fun _ => ?_)
        clear hK
        generalize (W4.alloc (.cells #[.int .i64 xa, .int .i64 xb] 24)) = W5 at HD PC ⊢
        simp only [Act.put, List.setIfInBounds_toArray, List.set_cons_zero, List.set_cons_succ]
        refine wpAnyH_ready (rs := [11]) (by kernel_rfl) (by simp) ?_
        refine AllReadyH.cons (o := _) rfl (fun K hK => ?_) AllReadyH.nil
        refine step_append_lies _ rfl (.tmp 57) (.tmp 67) 76 rfl W3.heap.size 24 i0 (.agg #[.int .i64 0, .int .i64 0]) 2 16 Try.underlying76 hi hz0 hz1 hz2 rfl (by decide) v k ((((rangesL stock store ds).take k).flatMap Sp.cells).map (Value.int .i64)) rfl HD.out.2.2.1 ⟨W4.heap.size, 0, none⟩ 1 1 [.int .i64 xa, .int .i64 xb] rfl rfl PC.out (by intro u hu; simp at hu; rcases hu with rfl | rfl <;> rfl) (by decide) (by unfold maxLen; omega) (by omega) HD.out.2.2.2.size _ rfl ?_
        intro g c W6 hown hgrow hat _
        have hbw : Below W3.heap.size W3 W6 := HD.out.2.2.2.grown hgrow HD.out.2.2.2.size (fun j hj => (HD.out.2.2.1.lt j hj).1)
        have HO : Hid (W6.ownsRow W3.heap.size 24 2 (.slice (some ⟨g, 0, none⟩) (k + 1) c) (k + 1) ((((rangesL stock store ds).take (k + 1)).flatMap Sp.cells).map (Value.int .i64)) ∧ Below W3.heap.size W3 W6) := ⟨by rw [HE.out]; exact hown, hbw⟩
        have z1 := (hbw.cell (p := ⟨b1, o1 + k, none⟩) HB12.out.1).trans ((HD.out.2.2.2.cell (p := ⟨b1, o1 + k, none⟩) HB12.out.1).symm.trans HD.out.1)
        have z2 := (hbw.cell (p := ⟨b2, o2 + k, none⟩) HB12.out.2).trans ((HD.out.2.2.2.cell (p := ⟨b2, o2 + k, none⟩) HB12.out.2).symm.trans HD.out.2.1)
        clear hown hgrow hat hbw
        refine hK.out _ _ ⟨z1, z2⟩ (fun _ => ?_)
        clear hK z1 z2
        simp only [Act.put, List.setIfInBounds_toArray, List.set_cons_zero, List.set_cons_succ]
        refine wpAnyH_done (by kernel_rfl) ?_ _
        show wpList _ _ _ (opsAt _ [12]) _ _
        simp only [opsAt, List.filterMap_cons, List.filterMap_nil, List.getElem?_toArray, List.getElem?_cons_succ, List.getElem?_cons_zero]
        go_wp2_with (fail)
        go_roundw
        case rel => exact ⟨k + 1, _, rfl, by go_num, by omega, HO.out⟩
        case measure => simp [intOf]; omega
      · have hke : k = (worstL stock store ds).stocks.length := by omega
        subst hke
        have h1 := hR.out.1
        rw [List.take_of_length_le (by simp [rangesL])] at h1
        have hrl : (rangesL stock store ds).length = (worstL stock store ds).stocks.length := by simp [rangesL]
        rw [← hrl] at h1
        obtain ⟨a', cap', rfl, hs, _⟩ := sps_read h1
        have HO := Lib.hid (And.intro hs (below_self HB3.out.1 hR.out.2))
        have HRR : Hid (rangesR stock store ds = (rangesL stock store ds, 0)) := if_pos HW.out
        clear h1 hs
        go_wp2_with (fail)
        go_ret2
        exact ⟨a', cap', by rw [HRR.out]; rfl, by rw [HRR.out]; exact HO.out.1, HO.out.2⟩
  · have g1 : (winE stock store ds != 0) = true := by simp [hw]
    have HF : Hid (rangesR stock store ds = ([], winE stock store ds)) := if_neg hw
    clear hw
    go_wp2_with (fail)
    go_ret2
    exact ⟨none, 0, by rw [HF.out]; rfl, by rw [HF.out]; intro h; simp at h, HB1.out.1⟩
end Go.Proofs.Ytighidggefefdaa
