/-
  The contracts of klisterkit.Clone for days and of CloneWinter over this seat's program; and a list of days in a block of the call's own that is written to.
  What is proved: the clone reads as the list that is cloned, in a new block; nothing that was there before has turned.
  Conditions: at least one day, and at most 1000.
-/
import Derived.Test.YtkmcdmidegcbaaaAW
namespace Go.Proofs.Ytkmcdmidegcbaaa
open Go.RowKit Go.Shelf
attribute [local go_sem] Oper.semAt_some

abbrev flatD (ds : List Dy) : List Value := (ds.flatMap Dy.cells).map (Value.int .i64)

theorem flatD_len (ds : List Dy) : (ds.flatMap Dy.cells).length = ds.length * 6 := by
  induction ds with
  | nil => rfl
  | cons d ds ih => rw [List.flatMap_cons, List.length_append, ih, Dy.cells_len, List.length_cons]; omega

theorem owns_put {w : World} {base g n cap : Nat} {e : TypeId} {size : Nat} {xs : List Value} (h : w.ownsRow base e size (.slice (some ⟨g, 0, none⟩) n cap) n xs) (j : Nat) (u : Value) : (w.setCell ⟨g, j, none⟩ u).ownsRow base e size (.slice (some ⟨g, 0, none⟩) n cap) n (xs.set j u) := by
  refine ⟨by have := h.1; simpa using this, ?_⟩
  rcases h.2 with ⟨h1, _⟩ | ⟨g', cap', cur, h1, hb, hg, hnc, hcm, hcs, htake⟩
  · cases h1
  · cases h1
    refine .inr ⟨g, cap, _, rfl, hb, blk_setCell hg, hnc, hcm, by rw [Array.size_setIfInBounds]; exact hcs, ?_⟩
    rw [Array.toList_setIfInBounds, List.take_set, htake]

theorem flat_set (ds : List Dy) : ∀ (j : Nat) (d d' : Dy) (i : Nat) (x : Int), ds[j]? = some d → i < 6 → (Dy.cells d).set i x = Dy.cells d' → (ds.flatMap Dy.cells).set (j * 6 + i) x = (ds.set j d').flatMap Dy.cells := by
  induction ds with
  | nil => intro j d d' i x h _ _; simp at h
  | cons y ds ih =>
    intro j d d' i x h hi hd
    cases j with
    | zero =>
      simp at h; subst h
      rw [Nat.zero_mul, Nat.zero_add, List.flatMap_cons, List.set_append_left _ _ (by rw [Dy.cells_len]; exact hi), hd, List.set_cons_zero, List.flatMap_cons]
    | succ j =>
      rw [List.flatMap_cons, List.set_append_right _ _ (by rw [Dy.cells_len]; omega), Dy.cells_len, show (j + 1) * 6 + i - 6 = j * 6 + i by omega, ih j d d' i x (by simpa using h) hi hd, List.set_cons_succ, List.flatMap_cons]

/-- Days in block g of the call's own. -/
def DaysIn (w : World) (base g cap : Nat) (ds : List Dy) : Prop := base ≤ g ∧ w.ownsRow base 97 6 (.slice (some ⟨g, 0, none⟩) ds.length cap) ds.length (flatD ds)

theorem DaysIn.sl {w : World} {base g cap : Nat} {ds : List Dy} (h : DaysIn w base g cap ds) : Sl 6 Dy.cells w (some ⟨g, 0, none⟩) ds := by
  obtain ⟨a, c, e, hs, _⟩ := days_of_owns h.2
  cases e; exact hs
theorem DaysIn.keep {w w' : World} {base g cap : Nat} {ds : List Dy} (h : DaysIn w base g cap ds) (hk : w'.heap[g]? = w.heap[g]?) : DaysIn w' base g cap ds :=
  ⟨h.1, owns_step h.2 (fun k _ he _ => by simp [Value.ownBlock] at he; subst he; exact hk)⟩
theorem DaysIn.lt {w : World} {base g cap : Nat} {ds : List Dy} (h : DaysIn w base g cap ds) : g < w.heap.size := by
  obtain ⟨_, cs, h2⟩ := owns_blk h.2 (g := g) rfl
  exact lt_of_block h2
theorem DaysIn.free {w : World} {base g cap : Nat} {ds : List Dy} (h : DaysIn w base g cap ds) (j : Nat) : w.frozen? ⟨g, j, none⟩ = false := by
  obtain ⟨_, cs, h2⟩ := owns_blk h.2 (g := g) rfl
  exact blk_free h2
theorem DaysIn.below {w w' : World} {base g cap : Nat} {ds : List Dy} (h : DaysIn w base g cap ds) (hb : Below w.heap.size w w') : DaysIn w' base g cap ds := h.keep (hb.block g h.lt)
theorem DaysIn.put {w : World} {base g cap : Nat} {ds : List Dy} (h : DaysIn w base g cap ds) (j : Nat) (d d' : Dy) (i : Nat) (x : Int) (hj : ds[j]? = some d) (hi : i < 6) (hd : (Dy.cells d).set i x = Dy.cells d') : DaysIn (w.setCell ⟨g, j * 6 + i, none⟩ (.int .i64 x)) base g cap (ds.set j d') := by
  refine ⟨h.1, ?_⟩
  have := owns_put h.2 (j * 6 + i) (.int .i64 x)
  rw [List.length_set]
  show World.ownsRow _ _ _ _ _ _ (((ds.set j d').flatMap Dy.cells).map (Value.int .i64))
  rw [← flat_set ds j d d' i x hj hi hd, List.map_set]
  exact this
theorem DaysIn.cell {w : World} {base g cap : Nat} {ds : List Dy} (h : DaysIn w base g cap ds) (j : Nat) (d : Dy) (i : Nat) (x : Int) (hj : ds[j]? = some d) (hx : (Dy.cells d)[i]? = some x) : w.cell? ⟨g, j * 6 + i, none⟩ = some (.int .i64 x) := by
  have h0 : 0 < ds.length := by
    rcases Nat.eq_zero_or_pos ds.length with h | h
    · rw [List.getElem?_eq_none (by omega)] at hj; cases hj
    · exact h
  obtain ⟨b, off, e, _, hc⟩ := h.sl h0
  cases e
  have := hc j d i x hj hx
  rwa [Nat.zero_add] at this

/-- Days that were handed back, in a block of their own. -/
def OutDays (w : World) (ds : List Dy) (e : Ending) (w' : World) : Prop := ∃ g cap, e = .returned (.slice (some ⟨g, 0, none⟩) ds.length cap) ∧ DaysIn w' w.heap.size g cap ds ∧ Below w.heap.size w w'

set_option maxHeartbeats 1000000 in
theorem cloneDay_any (a : Option Addr) (ds : List Dy) (cap : Nat) (w : World) (hx : Sl 6 Dy.cells w a ds) (h0 : 0 < ds.length) (hl : ds.length ≤ 1000) :
    Calls Try.prog 87 #[.slice a ds.length cap] w (OutDays w ds) := by
  obtain ⟨i0, hi, hz0, hz1, hz2⟩ := info_parts Try.info97
  obtain ⟨b, off, rfl, hbs, hc⟩ := hx h0
  have HC : Hid (∀ j u, (flatD ds)[j]? = some u → w.cell? ((⟨b, off, none⟩ : Addr).add j) = some u) := fun j u hu => by
    have hj : j < ds.length * 6 := by
      rcases Nat.lt_or_ge j (ds.length * 6) with h | h
      · exact h
      · rw [List.getElem?_eq_none (by rw [List.length_map, flatD_len]; exact h)] at hu; cases hu
    have hq : j / 6 < ds.length := by omega
    have e : (⟨b, off, none⟩ : Addr).add j = ⟨b, off + (j / 6) * 6 + j % 6, none⟩ := by
      rw [show off + (j / 6) * 6 + j % 6 = off + j by omega]
      unfold Addr.add; split <;> simp_all
    have hr : j % 6 < (Dy.cells ds[j / 6]).length := by rw [Dy.cells_len]; omega
    have h1 := hc (j / 6) ds[j / 6] (j % 6) _ (List.getElem?_eq_getElem hq) (List.getElem?_eq_getElem hr)
    have h2 := flat_get ds (j / 6) ds[j / 6] (j % 6) _ (List.getElem?_eq_getElem hq) (List.getElem?_eq_getElem hr)
    rw [show j / 6 * 6 + j % 6 = j by omega] at h2
    rw [e, h1]
    rw [List.getElem?_map, h2] at hu
    simpa using hu
  have hlen := flatD_len ds
  have HLL := Lib.hid hlen
  clear hc hlen
  go_enter Try.func87, Try.ntmps87
  go_wp2_with (at_builtin; refine wpList_append_own_at _ rfl _ _ 58 rfl w.heap.size 97 i0 (.agg #[.int .i64 0, .int .i64 0, .int .i64 0, .int .i64 0, .int .i64 0, .int .i64 0]) 6 48 Try.underlying58 hi hz0 hz1 hz2 rfl (by decide) (.slice none 0 0) 0 [] rfl ⟨rfl, .inl ⟨rfl, rfl⟩⟩ ⟨b, off, none⟩ ds.length cap (flatD ds) rfl ?c0 ?c1 ?c2 ?c3 ?c4 ?c5 ?_)
  case c0 => rw [List.length_map]; exact HLL.out
  case c1 => exact HC.out
  case c2 => intro u hu; obtain ⟨x, _, rfl⟩ := List.mem_map.1 hu; rfl
  case c3 => unfold maxLen; omega
  case c4 => omega
  case c5 => exact Nat.le_refl _
  intro v' w2 hown2 hgrow2 hnil _
  have hb3 : Below w.heap.size w w2 := (Below.refl _ w).grown hgrow2 (Nat.le_refl _) (fun j hj => by simp [Value.ownBlock] at hj)
  have HO : Hid (∃ g c, v' = .slice (some ⟨g, 0, none⟩) ds.length c ∧ DaysIn w2 w.heap.size g c ds) := by
    rcases hown2.2 with ⟨rfl, h2⟩ | ⟨g, c, cur, rfl, hb, _⟩
    · exact absurd (hnil.1 rfl) (fun h => by rw [h] at h0; simp at h0)
    · exact ⟨g, c, rfl, hb, hown2⟩
  obtain ⟨g, c, rfl, hd⟩ := HO.out
  have HD := Lib.hid hd
  clear hown2 hgrow2 hnil hd HO
  go_wp2
  go_ret
  exact ⟨g, c, rfl, HD.out, hb3⟩

/-- A winter that was handed back, its days in a block of their own. -/
def OutWin (w : World) (stock store : Int) (ds : List Dy) (e : Ending) (w' : World) : Prop := ∃ g cap, e = .returned (wv stock store (some ⟨g, 0, none⟩) ds.length cap) ∧ DaysIn w' w.heap.size g cap ds ∧ Below w.heap.size w w'

set_option maxRecDepth 100000 in
set_option maxHeartbeats 1000000 in
theorem cloneWinter_any (stock store : Int) (a : Option Addr) (ds : List Dy) (cap : Nat) (w : World) (hx : Sl 6 Dy.cells w a ds) (h0 : 0 < ds.length) (hl : ds.length ≤ 1000) :
    Calls Try.prog 33 #[wv stock store a ds.length cap] w (OutWin w stock store ds) := by
  have HX := Lib.hid (And.intro hx (And.intro h0 hl))
  clear hx h0 hl
  obtain ⟨Wa, hWa⟩ : ∃ Wa, (w.alloc (.cells #[.int .i64 stock, .int .i64 store, .slice a ds.length cap] 60)).alloc (.cells #[.int .i64 0, .int .i64 0, .slice none 0 0] 60) = Wa := ⟨_, rfl⟩
  have hba : Below w.heap.size w Wa := by rw [← hWa]; exact ((Below.refl _ _).alloc (Nat.le_refl _) _).alloc (by simp) _
  have g0 : Wa.heap[w.heap.size]? = some (.cells #[.int .i64 stock, .int .i64 store, .slice a ds.length cap] 60 (0, 0)) := by rw [← hWa]; exact alk (new_at rfl)
  have g1 : Wa.heap[w.heap.size + 1]? = some (.cells #[.int .i64 0, .int .i64 0, .slice none 0 0] 60 (0, 0)) := by rw [← hWa]; exact new_at (by simp)
  have c0 := blk_cell g0 0 rfl
  have c1 := blk_cell g0 1 rfl
  have c2 := blk_cell g0 2 rfl
  have HA := Lib.hid (And.intro hba (And.intro g0 g1))
  clear hba g0 g1
  go_enter Try.func33, Try.ntmps33
  go_wp2_with (fail)
  clear hWa
  go_region_held3 (fun w' => w'.cell? ⟨w.heap.size, 0, none⟩ = some (.int .i64 stock) ∧ w'.cell? ⟨w.heap.size, 1, none⟩ = some (.int .i64 store) ∧ w'.cell? ⟨w.heap.size, 2, none⟩ = some (.slice a ds.length cap)) (go_keep)
    (first | (go_at_call 87; refine (cloneDay_any a ds cap Wa.drew (HX.out.1.below HA.out.1.drew) HX.out.2.1 HX.out.2.2).mono ?_; rintro e w1 ⟨g, c, rfl, hd, hb1'⟩; have hb1 : Below Wa.heap.size Wa w1 := ⟨hb1'.os, hb1'.tape, hb1'.output, hb1'.size, hb1'.block⟩; clear hb1'; have H1 := Lib.hid (And.intro (below_self HA.out.1 hb1) (And.intro (blk_below HA.out.2.1 hb1) (And.intro (blk_below HA.out.2.2 hb1) (And.intro (show DaysIn w1 Wa.heap.size g c ds from hd) hb1)))); clear hd hb1 c0 c1 c2; have d0 := blk_cell H1.out.2.1 0 rfl; have d1 := blk_cell H1.out.2.1 1 rfl; have d2 := blk_cell H1.out.2.1 2 rfl; have f0 := blk_free (j := 0) H1.out.2.2.1; have f1 := blk_free (j := 1) H1.out.2.2.1; have f2 := blk_free (j := 2) H1.out.2.2.1; have e0 := blk_cell H1.out.2.2.1 0 rfl; have e1 := blk_cell H1.out.2.2.1 1 rfl; have e2 := blk_cell H1.out.2.2.1 2 rfl))
  go_wp2_with (fail)
  have HE : Hid (∀ W, W = ((w1.setCell ⟨w.heap.size + 1, 0, none⟩ (.int .i64 stock)).setCell ⟨w.heap.size + 1, 1, none⟩ (.int .i64 store)).setCell ⟨w.heap.size + 1, 2, none⟩ (.slice (some ⟨g, 0, none⟩) ds.length c) →
      W.heap[w.heap.size + 1]? = some (.cells #[.int .i64 stock, .int .i64 store, .slice (some ⟨g, 0, none⟩) ds.length c] 60 (0, 0)) ∧ DaysIn W w.heap.size g c ds ∧ Below w.heap.size w W) := by
    rintro W rfl
    have hd := H1.out.2.2.2.1
    have hg : w.heap.size + 1 < g := by have := hd.1; have := lt_of_block HA.out.2.2; omega
    refine ⟨blk_setCell (j := 2) (blk_setCell (j := 1) (blk_setCell (j := 0) H1.out.2.2.1)), ?_, ((H1.out.1.setCell (p := ⟨w.heap.size + 1, 0, none⟩) (by show w.heap.size ≤ w.heap.size + 1; omega) _).setCell (p := ⟨w.heap.size + 1, 1, none⟩) (by show w.heap.size ≤ w.heap.size + 1; omega) _).setCell (p := ⟨w.heap.size + 1, 2, none⟩) (by show w.heap.size ≤ w.heap.size + 1; omega) _⟩
    have h2 : DaysIn w1 w.heap.size g c ds := ⟨by omega, owns_mono hd.2 (by have := lt_of_block HA.out.2.2; omega)⟩
    have hne : g ≠ w.heap.size + 1 := by omega
    exact ((h2.keep (Below.heap_setCell _ ⟨w.heap.size + 1, 0, none⟩ _ _ hne)).keep (Below.heap_setCell _ ⟨w.heap.size + 1, 1, none⟩ _ _ hne)).keep (Below.heap_setCell _ ⟨w.heap.size + 1, 2, none⟩ _ _ hne)
  clear d0 d1 d2 f0 f1 f2 e0 e1 e2
  generalize hWe : World.setCell _ _ _ = We
  have HF := Lib.hid (HE.out We hWe.symm)
  clear hWe HE
  have r0 := blk_cell HF.out.1 0 rfl
  have r1 := blk_cell HF.out.1 1 rfl
  have r2 := blk_cell HF.out.1 2 rfl
  refine bodyPost_ret (v := wv stock store (some ⟨g, 0, none⟩) ds.length c) (by simp [results, Try.results33, go_sem, r0, r1, r2]) rfl ?_
  exact ⟨g, c, rfl, HF.out.2.1, HF.out.2.2⟩
end Go.Proofs.Ytkmcdmidegcbaaa
