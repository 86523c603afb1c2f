/-
The contract of CourseLists over this seat's program.
  What is proved: it answers true; nothing that was there before has turned.
  Conditions: a list of loops that reads as such.
-/
import Derived.Test.YtpkegiekpnaejaaPartL4
import Derived.Laws.CopyOwn
namespace Go.Proofs.Ytpkegiekpnaejaa
open Go.RowKit Go.Shelf
attribute [local go_sem] Oper.semAt_some

/-- A law of a state of a walk, kept for all ways that come to it. -/
theorem with_joinL {P : Program} {md : Region.Mode} {ops : Array Oper} {Q : Exit → Act → World → Prop} {S : World → Prop} {f0 : Nat} {l0 : Array Bool} {a0 : Act} {w0 : World} (J : (Nat → Array Bool → Act → World → Prop) → Array Bool → Act → Prop)
    (hJ : J (fun f l a w => wpAnyH P md ops Q S f l a w) l0 a0) (k : J (fun f l a w => wpAnyH P md ops Q S f l a w) l0 a0 → wpAnyH P md ops Q S f0 l0 a0 w0) : wpAnyH P md ops Q S f0 l0 a0 w0 := k hJ
theorem allR_few (xs : List Lp) (r : Ru) : (allR xs r).1.length ≤ 300 := by
  rw [allR]
  split
  · show (if (rightL xs r).length ≤ 300 then rightL xs r else []).length ≤ 300
    split
    · assumption
    · simp
  · simp
theorem allR_short (xs : List Lp) (r : Ru) : ∀ c ∈ (allR xs r).1, c.length ≤ 1000000 := by
  rw [allR]
  split
  · rename_i h
    show ∀ c ∈ (if (rightL xs r).length ≤ 300 then rightL xs r else []), c.length ≤ 1000000
    split
    · intro c hc
      have hc' := (List.mem_filter.1 hc).1
      have h1 := extC_ok xs.length r.laps.toNat [] 0 (by simp) c hc'
      have h2 := (laps_nat h).2
      simp at h1
      omega
    · simp
  · simp
theorem yFold (xs : List Lp) (r : Ru) (P : List Int → Prop) : ∀ (cs : List (List Int)) (st : Option (List Int × List Int)), (∀ c ∈ cs, P c) → (∀ b f, st = some (b, f) → b.length ≤ 5 ∧ P f) → ∀ b f, cs.foldl (yStep xs r) st = some (b, f) → b.length ≤ 5 ∧ P f
  | [], st, _, h, b, f, e => h b f e
  | c :: cs, st, hc, h, b, f, e => by
    refine yFold xs r P cs (yStep xs r st c) (fun x hx => hc x (List.mem_cons_of_mem _ hx)) (fun b' f' e' => ?_) b f e
    have hP := hc c List.mem_cons_self
    unfold yStep at e'
    cases st with
    | none => cases e'; exact ⟨rulesL_le _, hP⟩
    | some s =>
      obtain ⟨b0, f0⟩ := s
      simp only at e'
      split at e'
      · cases e'; exact ⟨rulesL_le _, hP⟩
      · cases e'; exact h _ _ rfl
theorem yieldR_few (xs : List Lp) (r : Ru) : (yieldR xs r).1.length ≤ 5 ∧ (yieldR xs r).2.1.length ≤ 6 := by
  rw [yieldR]
  split
  · rename_i h
    have h2 := (laps_nat h).2
    have hh := yFold xs r (fun c => c.length ≤ 6) (extC xs.length r.laps.toNat [] 0) none (fun c hc => by
      have h1 := extC_ok xs.length r.laps.toNat [] 0 (by simp) c hc
      simp at h1; omega) (fun b f e => by cases e)
    unfold yOf
    generalize (extC xs.length r.laps.toNat [] 0).foldl (yStep xs r) none = st at *
    cases st with
    | none => exact ⟨Nat.zero_le _, Nat.zero_le _⟩
    | some s => exact hh _ _ rfl
  · exact ⟨Nat.zero_le _, Nat.zero_le _⟩

theorem sl_row {W : World} {A : Nat} {a : Option Addr} {xs : List Lp} (h : Sl 3 Lp.cells W a xs) (hne : 0 < xs.length → ∀ p, a = some p → p.block ≠ A) (cs : Array Value) : Sl 3 Lp.cells (W.setRow A cs) a xs := fun h0 => by
  obtain ⟨b, off, rfl, hbs, hc⟩ := h h0
  exact ⟨b, off, rfl, by simpa using hbs, fun j x i u hx hu => (cell_setRow_other W A cs ⟨b, off + j * 3 + i, none⟩ (show b ≠ A from hne h0 ⟨b, off, none⟩ rfl)).trans (hc j x i u hx hu)⟩

/-- What lies while the law runs. -/
structure LO (w W : World) (r : Ru) : Prop where
  b : Below w.heap.size w W
  p : RB W w.heap.size r
theorem LO.below {w W W' : World} {r : Ru} (h : LO w W r) (hb : Below W.heap.size W W') : LO w W' r := ⟨below_self h.b hb, h.p.below hb⟩

set_option maxRecDepth 100000 in
set_option maxHeartbeats 20000000 in
theorem lists_law (a : Option Addr) (xs : List Lp) (cap : Nat) (r : Ru) (w : World) (hx : Sl 3 Lp.cells w a xs) (hna : a = none → xs.length = 0 ∧ cap = 0) :
    Calls Try.prog 4 #[.slice a xs.length cap, r.v] w fun e w' => e = .returned (.bool true) ∧ Below w.heap.size w w' := by
  have h0 : LO w (w.alloc (.cells #[.int .i64 r.laps, .int .i64 r.len.lo, .int .i64 r.len.hi, .int .i64 r.climb.lo, .int .i64 r.climb.hi, .int .i64 r.lap.lo, .int .i64 r.lap.hi, .int .i64 r.wide, .int .i64 r.uses] 26)) r := ⟨(Below.refl _ _).alloc (Nat.le_refl _) _, heap_alloc_new _ _⟩
  have HX := Lib.hid (And.intro hx hna)
  have HO := Lib.hid h0
  clear h0 hx hna
  go_enter Try.func4, Try.ntmps4
  go_wp2_with (fail)
  generalize w.alloc (.cells #[.int .i64 r.laps, .int .i64 r.len.lo, .int .i64 r.len.hi, .int .i64 r.climb.lo, .int .i64 r.climb.hi, .int .i64 r.lap.lo, .int .i64 r.lap.hi, .int .i64 r.wide, .int .i64 r.uses] 26) = Wa at HO ⊢
  refine (many_any a xs.length cap r Wa).mono ?_
  rintro e Wb ⟨bb, rfl, hn, hb⟩
  replace HO := Lib.hid (HO.out.below hb)
  clear hb
  cases bb
  · have HL15 : Hid (xs.length ≤ 15) := hn rfl
    have HL : Hid (xs.length ≤ 1000) := by show _ ≤ _; have := HL15.out; omega
    clear hn
    go_upto_region 3 with (fail)
    refine wp_region_split (S := fun W' => W'.cell? ⟨w.heap.size, 0, none⟩ = some (.int .i64 r.laps) ∧ W'.cell? ⟨w.heap.size, 1, none⟩ = some (.int .i64 r.len.lo) ∧ W'.cell? ⟨w.heap.size, 2, none⟩ = some (.int .i64 r.len.hi) ∧ W'.cell? ⟨w.heap.size, 3, none⟩ = some (.int .i64 r.climb.lo) ∧ W'.cell? ⟨w.heap.size, 4, none⟩ = some (.int .i64 r.climb.hi) ∧ W'.cell? ⟨w.heap.size, 5, none⟩ = some (.int .i64 r.lap.lo) ∧ W'.cell? ⟨w.heap.size, 6, none⟩ = some (.int .i64 r.lap.hi) ∧ W'.cell? ⟨w.heap.size, 7, none⟩ = some (.int .i64 r.wide) ∧ W'.cell? ⟨w.heap.size, 8, none⟩ = some (.int .i64 r.uses)) [8] 8 (by kernel_rfl) (by kernel_rfl) rfl ?_
    have H0 : Hid (LO w Wb.drew r) := HO.out.below (Below.refl _ _).drew
    clear HO
    generalize Wb.drew = W0 at H0 ⊢
    rw [show firstL _ [8] = #[false, false, false, false, false, false, false, false, true] from by kernel_rfl]
    refine wpAnyH_take (i := 0) (v := .slice a xs.length cap) rfl (by kernel_rfl) (by kernel_rfl) (by kernel_rfl) (fun _ _ _ h => h) (Or.inl ⟨by rfl, by (intro W hSw; have c0 := hSw.1; have c1 := hSw.2.1; have c2 := hSw.2.2.1; have c3 := hSw.2.2.2.1; have c4 := hSw.2.2.2.2.1; have c5 := hSw.2.2.2.2.2.1; have c6 := hSw.2.2.2.2.2.2.1; have c7 := hSw.2.2.2.2.2.2.2.1; have c8 := hSw.2.2.2.2.2.2.2.2; clear hSw; go_simp)⟩) ⟨blk_cell H0.out.p 0 rfl, blk_cell H0.out.p 1 rfl, blk_cell H0.out.p 2 rfl, blk_cell H0.out.p 3 rfl, blk_cell H0.out.p 4 rfl, blk_cell H0.out.p 5 rfl, blk_cell H0.out.p 6 rfl, blk_cell H0.out.p 7 rfl, blk_cell H0.out.p 8 rfl⟩ ?_
    simp only [Act.put, List.setIfInBounds_toArray, List.set_cons_zero]
    refine wpAnyH_take (i := 2) (v := .slice a xs.length cap) rfl (by kernel_rfl) (by kernel_rfl) (by kernel_rfl) (fun _ _ _ h => h) (Or.inl ⟨by rfl, by (intro W hSw; have c0 := hSw.1; have c1 := hSw.2.1; have c2 := hSw.2.2.1; have c3 := hSw.2.2.2.1; have c4 := hSw.2.2.2.2.1; have c5 := hSw.2.2.2.2.2.1; have c6 := hSw.2.2.2.2.2.2.1; have c7 := hSw.2.2.2.2.2.2.2.1; have c8 := hSw.2.2.2.2.2.2.2.2; clear hSw; go_simp)⟩) ⟨blk_cell H0.out.p 0 rfl, blk_cell H0.out.p 1 rfl, blk_cell H0.out.p 2 rfl, blk_cell H0.out.p 3 rfl, blk_cell H0.out.p 4 rfl, blk_cell H0.out.p 5 rfl, blk_cell H0.out.p 6 rfl, blk_cell H0.out.p 7 rfl, blk_cell H0.out.p 8 rfl⟩ ?_
    simp only [Act.put, List.setIfInBounds_toArray, List.set_cons_zero, List.set_cons_succ]
    refine wpAnyH_take (i := 4) (v := r.v) rfl (by kernel_rfl) (by kernel_rfl) (by kernel_rfl) (fun _ _ _ h => h) (Or.inl ⟨by rfl, by (intro W hSw; have c0 := hSw.1; have c1 := hSw.2.1; have c2 := hSw.2.2.1; have c3 := hSw.2.2.2.1; have c4 := hSw.2.2.2.2.1; have c5 := hSw.2.2.2.2.2.1; have c6 := hSw.2.2.2.2.2.2.1; have c7 := hSw.2.2.2.2.2.2.2.1; have c8 := hSw.2.2.2.2.2.2.2.2; clear hSw; go_simp)⟩) ⟨blk_cell H0.out.p 0 rfl, blk_cell H0.out.p 1 rfl, blk_cell H0.out.p 2 rfl, blk_cell H0.out.p 3 rfl, blk_cell H0.out.p 4 rfl, blk_cell H0.out.p 5 rfl, blk_cell H0.out.p 6 rfl, blk_cell H0.out.p 7 rfl, blk_cell H0.out.p 8 rfl⟩ ?_
    simp only [Act.put, List.setIfInBounds_toArray, List.set_cons_zero, List.set_cons_succ]
    refine with_joinL (fun G lz az => ∀ (Wz : World) (a1 : Option Addr) (c1 : Nat) (a2 : Option Addr) (c2 : Nat) (A : Nat), Hid (LO w Wz r ∧ Sl 3 Lp.cells Wz a1 xs ∧ Sl 3 Lp.cells Wz a2 xs ∧ Wz.heap[A]? = some (.cells #[.int .i64 0, .int .i64 0, .int .i64 0, .int .i64 0, .int .i64 0, .int .i64 0, .int .i64 0, .int .i64 0, .int .i64 0] 38 (0, 0)) ∧ w.heap.size < A ∧ (0 < xs.length → ∀ p, a1 = some p → p.block ≠ A) ∧ (0 < xs.length → ∀ p, a2 = some p → p.block ≠ A)) → G 2 (((lz.setIfInBounds 1 true).setIfInBounds 3 true).setIfInBounds 5 true) (((az.put (some 21) (.slice a1 xs.length c1)).put (some 23) (.slice a2 xs.length c2)).put (some 7) (.pointer (some ⟨A, 0, none⟩))) Wz) ?_ (fun J21 => ?_)
    · intro Wz a1 c1 a2 c2 A Hz
      simp only [Act.put, List.setIfInBounds_toArray, List.set_cons_zero, List.set_cons_succ]
      refine wpAnyH_take (i := 6) (v := .slice a1 xs.length c1) rfl (by kernel_rfl) (by kernel_rfl) (by kernel_rfl) (fun _ _ _ h => h) (Or.inl ⟨by rfl, by (intro W hSw; clear hSw; go_simp)⟩) ⟨blk_cell Hz.out.1.p 0 rfl, blk_cell Hz.out.1.p 1 rfl, blk_cell Hz.out.1.p 2 rfl, blk_cell Hz.out.1.p 3 rfl, blk_cell Hz.out.1.p 4 rfl, blk_cell Hz.out.1.p 5 rfl, blk_cell Hz.out.1.p 6 rfl, blk_cell Hz.out.1.p 7 rfl, blk_cell Hz.out.1.p 8 rfl⟩ ?_
      simp only [Act.put, List.setIfInBounds_toArray, List.set_cons_zero, List.set_cons_succ]
      refine wpAnyH_take (i := 7) (v := .slice a2 xs.length c2) rfl (by kernel_rfl) (by kernel_rfl) (by kernel_rfl) (fun _ _ _ h => h) (Or.inl ⟨by rfl, by (intro W hSw; clear hSw; go_simp)⟩) ⟨blk_cell Hz.out.1.p 0 rfl, blk_cell Hz.out.1.p 1 rfl, blk_cell Hz.out.1.p 2 rfl, blk_cell Hz.out.1.p 3 rfl, blk_cell Hz.out.1.p 4 rfl, blk_cell Hz.out.1.p 5 rfl, blk_cell Hz.out.1.p 6 rfl, blk_cell Hz.out.1.p 7 rfl, blk_cell Hz.out.1.p 8 rfl⟩ ?_
      simp only [Act.put, List.setIfInBounds_toArray, List.set_cons_zero, List.set_cons_succ]
      refine wpAnyH_done (by kernel_rfl) ?_ _
      show wpList _ _ _ (opsAt _ [8]) _ _
      simp only [opsAt, List.filterMap_cons, List.filterMap_nil, List.getElem?_toArray, List.getElem?_cons_succ, List.getElem?_cons_zero]
      have h5 := Hz.out.2.2.2.1
      refine wpList_store_row rfl 38 (.tmp 7) (.tmp 24) rfl A #[.int .i64 r.laps, .int .i64 r.len.lo, .int .i64 r.len.hi, .int .i64 r.climb.lo, .int .i64 r.climb.hi, .int .i64 r.lap.lo, .int .i64 r.lap.hi, .int .i64 r.wide, .int .i64 r.uses] (by kernel_rfl) (by kernel_rfl) 38 _ h5 (by kernel_rfl) (by kernel_rfl) (by kernel_rfl) ?_
      have hl := Hz.out.2.2.2.2.1
      have HW : Hid (LO w (Wz.setRow A #[.int .i64 r.laps, .int .i64 r.len.lo, .int .i64 r.len.hi, .int .i64 r.climb.lo, .int .i64 r.climb.hi, .int .i64 r.lap.lo, .int .i64 r.lap.hi, .int .i64 r.wide, .int .i64 r.uses]) r ∧ Sl 3 Lp.cells (Wz.setRow A #[.int .i64 r.laps, .int .i64 r.len.lo, .int .i64 r.len.hi, .int .i64 r.climb.lo, .int .i64 r.climb.hi, .int .i64 r.lap.lo, .int .i64 r.lap.hi, .int .i64 r.wide, .int .i64 r.uses]) a1 xs ∧ Sl 3 Lp.cells (Wz.setRow A #[.int .i64 r.laps, .int .i64 r.len.lo, .int .i64 r.len.hi, .int .i64 r.climb.lo, .int .i64 r.climb.hi, .int .i64 r.lap.lo, .int .i64 r.lap.hi, .int .i64 r.wide, .int .i64 r.uses]) a2 xs ∧ RB38 (Wz.setRow A #[.int .i64 r.laps, .int .i64 r.len.lo, .int .i64 r.len.hi, .int .i64 r.climb.lo, .int .i64 r.climb.hi, .int .i64 r.lap.lo, .int .i64 r.lap.hi, .int .i64 r.wide, .int .i64 r.uses]) A r) := ⟨⟨below_setRow Hz.out.1.b (by omega) _, (setRow_other Wz A _ _ (by omega)).trans Hz.out.1.p⟩, sl_row Hz.out.2.1 Hz.out.2.2.2.2.2.1 _, sl_row Hz.out.2.2.1 Hz.out.2.2.2.2.2.2 _, setRow_heap Wz A _ _ 38 (0, 0) h5⟩
      clear hl h5 Hz
      generalize (Wz.setRow A #[.int .i64 r.laps, .int .i64 r.len.lo, .int .i64 r.len.hi, .int .i64 r.climb.lo, .int .i64 r.climb.hi, .int .i64 r.lap.lo, .int .i64 r.lap.hi, .int .i64 r.wide, .int .i64 r.uses]) = We at HW ⊢
      have c0 := blk_cell HW.out.1.p 0 rfl
      have c1' := blk_cell HW.out.1.p 1 rfl
      have c2' := blk_cell HW.out.1.p 2 rfl
      have c3 := blk_cell HW.out.1.p 3 rfl
      have c4 := blk_cell HW.out.1.p 4 rfl
      have c5 := blk_cell HW.out.1.p 5 rfl
      have c6 := blk_cell HW.out.1.p 6 rfl
      have c7 := blk_cell HW.out.1.p 7 rfl
      have c8 := blk_cell HW.out.1.p 8 rfl
      go_wp2_with (fail)
      clear c0 c1' c2' c3 c4 c5 c6 c7 c8
      obtain ⟨R, E, hRE⟩ : ∃ R E, allR xs r = (R, E) := ⟨_, _, rfl⟩
      obtain ⟨YR, YC, YE, hYE⟩ : ∃ YR YC YE, yieldR xs r = (YR, YC, YE) := ⟨_, _, _, rfl⟩
      have HBR : Hid (R.length ≤ 1000000 ∧ (∀ c ∈ R, c.length ≤ 1000000) ∧ YR.length ≤ 1000 ∧ YC.length ≤ 1000000) := by
        have h1 := allR_few xs r
        have h2 := allR_short xs r
        have h3 := yieldR_few xs r
        rw [hRE] at h1 h2
        rw [hYE] at h3
        exact ⟨Nat.le_trans h1 (by omega), h2, Nat.le_trans h3.1 (by omega), Nat.le_trans h3.2 (by omega)⟩
      have HC1 : Hid (∀ W, Sl 3 Lp.cells W a1 xs → Calls Try.prog 27 #[.slice a1 xs.length c1, r.v] W (OutCs W R E)) := fun W hW => by
        have h := all_any a1 xs c1 r W hW (by have := HL.out; omega)
        unfold AllOut at h
        rw [hRE] at h
        exact h
      have HC2 : Hid (∀ W, Sl 3 Lp.cells W a2 xs → Calls Try.prog 28 #[.slice a2 xs.length c2, r.v] W (OutCs W R E)) := fun W hW => by
        have h := refAll_any a2 xs c2 r W hW (by have := HL.out; omega)
        unfold AllOut at h
        rw [hRE] at h
        exact h
      have HC3 : Hid (∀ W, Sl 3 Lp.cells W a1 xs → Calls Try.prog 30 #[.slice a1 xs.length c1, r.v] W (OutY W (YR, YC, YE))) := fun W hW => by
        have h := yield_any a1 xs c1 r W hW (by have := HL.out; omega)
        rw [hYE] at h
        exact h
      have HC4 : Hid (∀ W, Sl 3 Lp.cells W a2 xs → Calls Try.prog 31 #[.slice a2 xs.length c2, r.v] W (OutY W (YR, YC, YE))) := fun W hW => by
        have h := refYield_any a2 xs c2 r W hW (by have := HL.out; omega)
        rw [hYE] at h
        exact h
      clear hRE hYE
      refine (HC1.out We HW.out.2.1).mono ?_
      rintro e W1 ⟨la, lcap, rfl, h1, hb⟩
      have H1 : Hid (LO w W1 r ∧ Sl 3 Lp.cells W1 a1 xs ∧ Sl 3 Lp.cells W1 a2 xs ∧ RB38 W1 A r ∧ SlsAt W1 la R) := ⟨HW.out.1.below hb, HW.out.2.1.below hb, HW.out.2.2.1.below hb, HW.out.2.2.2.below hb, h1⟩
      clear h1 hb HW HC1
      have c0 := blk_cell H1.out.2.2.2.1 0 rfl
      have c1' := blk_cell H1.out.2.2.2.1 1 rfl
      have c2' := blk_cell H1.out.2.2.2.1 2 rfl
      have c3 := blk_cell H1.out.2.2.2.1 3 rfl
      have c4 := blk_cell H1.out.2.2.2.1 4 rfl
      have c5 := blk_cell H1.out.2.2.2.1 5 rfl
      have c6 := blk_cell H1.out.2.2.2.1 6 rfl
      have c7 := blk_cell H1.out.2.2.2.1 7 rfl
      have c8 := blk_cell H1.out.2.2.2.1 8 rfl
      go_wp2_with (fail)
      clear c0 c1' c2' c3 c4 c5 c6 c7 c8
      refine (HC2.out W1 H1.out.2.2.1).mono ?_
      rintro e W2 ⟨ma, mcap, rfl, h1, hb⟩
      have H2 : Hid (LO w W2 r ∧ Sl 3 Lp.cells W2 a1 xs ∧ Sl 3 Lp.cells W2 a2 xs ∧ RB38 W2 A r ∧ SlsAt W2 la R ∧ SlsAt W2 ma R) := ⟨H1.out.1.below hb, H1.out.2.1.below hb, H1.out.2.2.1.below hb, H1.out.2.2.2.1.below hb, H1.out.2.2.2.2.below hb, h1⟩
      clear h1 hb H1 HC2
      go_wp2_with (fail)
      refine (equalAll_any la R lcap ma R mcap W2 H2.out.2.2.2.2.1 H2.out.2.2.2.2.2 HBR.out.1 HBR.out.2.1).mono ?_
      rintro e W3 ⟨rfl, hb⟩
      have H3 : Hid (LO w W3 r ∧ Sl 3 Lp.cells W3 a1 xs ∧ Sl 3 Lp.cells W3 a2 xs ∧ RB38 W3 A r) := ⟨H2.out.1.below hb, H2.out.2.1.below hb, H2.out.2.2.1.below hb, H2.out.2.2.2.1.below hb⟩
      clear hb H2
      rw [show decide (R = R) = true from decide_eq_true rfl]
      have c0 := blk_cell H3.out.1.p 0 rfl
      have c1' := blk_cell H3.out.1.p 1 rfl
      have c2' := blk_cell H3.out.1.p 2 rfl
      have c3 := blk_cell H3.out.1.p 3 rfl
      have c4 := blk_cell H3.out.1.p 4 rfl
      have c5 := blk_cell H3.out.1.p 5 rfl
      have c6 := blk_cell H3.out.1.p 6 rfl
      have c7 := blk_cell H3.out.1.p 7 rfl
      have c8 := blk_cell H3.out.1.p 8 rfl
      go_wp2_with (fail)
      clear c0 c1' c2' c3 c4 c5 c6 c7 c8
      refine (HC3.out W3 H3.out.2.1).mono ?_
      rintro e W4 ⟨pa, pcap, pb, pbcap, rfl, h1, h2, hb⟩
      have H4 : Hid (LO w W4 r ∧ Sl 3 Lp.cells W4 a1 xs ∧ Sl 3 Lp.cells W4 a2 xs ∧ RB38 W4 A r ∧ IntSl W4 pa YR ∧ IntSl W4 pb YC) := ⟨H3.out.1.below hb, H3.out.2.1.below hb, H3.out.2.2.1.below hb, H3.out.2.2.2.below hb, h1, h2⟩
      clear h1 h2 hb H3 HC3
      have c0 := blk_cell H4.out.2.2.2.1 0 rfl
      have c1' := blk_cell H4.out.2.2.2.1 1 rfl
      have c2' := blk_cell H4.out.2.2.2.1 2 rfl
      have c3 := blk_cell H4.out.2.2.2.1 3 rfl
      have c4 := blk_cell H4.out.2.2.2.1 4 rfl
      have c5 := blk_cell H4.out.2.2.2.1 5 rfl
      have c6 := blk_cell H4.out.2.2.2.1 6 rfl
      have c7 := blk_cell H4.out.2.2.2.1 7 rfl
      have c8 := blk_cell H4.out.2.2.2.1 8 rfl
      go_wp2_with (fail)
      clear c0 c1' c2' c3 c4 c5 c6 c7 c8
      refine (HC4.out W4 H4.out.2.2.1).mono ?_
      rintro e W5 ⟨qa, qcap, qb, qbcap, rfl, h1, h2, hb⟩
      have H5 : Hid (LO w W5 r ∧ Sl 3 Lp.cells W5 a1 xs ∧ IntSl W5 pa YR ∧ IntSl W5 pb YC ∧ IntSl W5 qa YR ∧ IntSl W5 qb YC) := ⟨H4.out.1.below hb, H4.out.2.1.below hb, H4.out.2.2.2.2.1.below hb, H4.out.2.2.2.2.2.below hb, h1, h2⟩
      clear h1 h2 hb H4 HC4
      go_wp2_with (fail)
      refine (numbers_any pa YR pcap W5 H5.out.2.2.1 HBR.out.2.2.1).mono ?_
      rintro e W6 ⟨na, ncap, rfl, h1, h2, hb⟩
      have H6 : Hid (LO w W6 r ∧ Sl 3 Lp.cells W6 a1 xs ∧ IntSl W6 na YR ∧ IntSl W6 pb YC ∧ IntSl W6 qa YR ∧ IntSl W6 qb YC) := ⟨H5.out.1.below hb, H5.out.2.1.below hb, h1, H5.out.2.2.2.1.below hb, H5.out.2.2.2.2.1.below hb, H5.out.2.2.2.2.2.below hb⟩
      clear h1 h2 hb H5
      go_wp2_with (fail)
      refine (equal_int na YR ncap qa YR qcap W6 H6.out.2.2.1 H6.out.2.2.2.2.1 (Nat.le_trans HBR.out.2.2.1 (by omega))).mono ?_
      rintro e W7 ⟨rfl, hb⟩
      have H7 : Hid (LO w W7 r ∧ Sl 3 Lp.cells W7 a1 xs ∧ IntSl W7 pb YC ∧ IntSl W7 qb YC) := ⟨H6.out.1.below hb, H6.out.2.1.below hb, H6.out.2.2.2.1.below hb, H6.out.2.2.2.2.2.below hb⟩
      clear hb H6
      go_wp2_with (fail)
      refine (equal_int pb YC pbcap qb YC qbcap W7 H7.out.2.2.1 H7.out.2.2.2 HBR.out.2.2.2).mono ?_
      rintro e W8 ⟨rfl, hb⟩
      have H8 : Hid (LO w W8 r ∧ Sl 3 Lp.cells W8 a1 xs) := ⟨H7.out.1.below hb, H7.out.2.1.below hb⟩
      clear hb H7
      go_wp2_with (fail)
      refine (equalLp_same a1 xs c1 a cap W8 H8.out.2 (HX.out.1.below H8.out.1.b) (by have := HL.out; omega)).mono ?_
      rintro e W9 ⟨rfl, hb⟩
      have H9 : Hid (LO w W9 r) := H8.out.1.below hb
      clear hb H8
      go_wp2_with (fail)
      refine (awake_any W9).mono ?_
      rintro e W10 ⟨rfl, hb⟩
      have HF := Lib.hid (below_self H9.out.b hb)
      clear hb H9
      go_wp2_with (fail)
      go_ret
      exact ⟨rfl, HF.out⟩
    simp only [Act.put, List.setIfInBounds_toArray, List.set_cons_zero, List.set_cons_succ] at J21
    refine with_joinL (fun G lz az => ∀ (Wz : World) (a1 : Option Addr) (c1 : Nat) (a2 : Option Addr) (c2 : Nat), Hid (LO w Wz r ∧ Sl 3 Lp.cells Wz a1 xs ∧ Sl 3 Lp.cells Wz a2 xs) → G 3 ((lz.setIfInBounds 1 true).setIfInBounds 3 true) ((az.put (some 21) (.slice a1 xs.length c1)).put (some 23) (.slice a2 xs.length c2)) Wz) ?_ (fun J20 => ?_)
    · intro Wz a1 c1 a2 c2 Hz
      simp only [Act.put, List.setIfInBounds_toArray, List.set_cons_zero, List.set_cons_succ]
      refine wpAnyH_ready (rs := [5]) (by kernel_rfl) (by simp) ?_
      refine AllReadyH.cons (o := _) rfl (fun K hK => ?_) AllReadyH.nil
      go_simp
      have hb : Below Wz.heap.size Wz (Wz.alloc (.cells #[.int .i64 0, .int .i64 0, .int .i64 0, .int .i64 0, .int .i64 0, .int .i64 0, .int .i64 0, .int .i64 0, .int .i64 0] 38)) := (Below.refl _ _).alloc (Nat.le_refl _) _
      have H1 : Hid (LO w (Wz.alloc (.cells #[.int .i64 0, .int .i64 0, .int .i64 0, .int .i64 0, .int .i64 0, .int .i64 0, .int .i64 0, .int .i64 0, .int .i64 0] 38)) r ∧ Sl 3 Lp.cells (Wz.alloc (.cells #[.int .i64 0, .int .i64 0, .int .i64 0, .int .i64 0, .int .i64 0, .int .i64 0, .int .i64 0, .int .i64 0, .int .i64 0] 38)) a1 xs ∧ Sl 3 Lp.cells (Wz.alloc (.cells #[.int .i64 0, .int .i64 0, .int .i64 0, .int .i64 0, .int .i64 0, .int .i64 0, .int .i64 0, .int .i64 0, .int .i64 0] 38)) a2 xs ∧ (Wz.alloc (.cells #[.int .i64 0, .int .i64 0, .int .i64 0, .int .i64 0, .int .i64 0, .int .i64 0, .int .i64 0, .int .i64 0, .int .i64 0] 38)).heap[Wz.heap.size]? = some (.cells #[.int .i64 0, .int .i64 0, .int .i64 0, .int .i64 0, .int .i64 0, .int .i64 0, .int .i64 0, .int .i64 0, .int .i64 0] 38 (0, 0)) ∧ w.heap.size < Wz.heap.size ∧ (0 < xs.length → ∀ p, a1 = some p → p.block ≠ Wz.heap.size) ∧ (0 < xs.length → ∀ p, a2 = some p → p.block ≠ Wz.heap.size)) := ⟨Hz.out.1.below hb, Hz.out.2.1.below hb, Hz.out.2.2.below hb, heap_alloc_new _ _, lt_of_block Hz.out.1.p, (fun h0 p hp => Nat.ne_of_lt (sl_lt Hz.out.2.1 h0 p hp)), (fun h0 p hp => Nat.ne_of_lt (sl_lt Hz.out.2.2 h0 p hp))⟩
      clear hb
      refine hK.out _ _ ⟨blk_cell H1.out.1.p 0 rfl, blk_cell H1.out.1.p 1 rfl, blk_cell H1.out.1.p 2 rfl, blk_cell H1.out.1.p 3 rfl, blk_cell H1.out.1.p 4 rfl, blk_cell H1.out.1.p 5 rfl, blk_cell H1.out.1.p 6 rfl, blk_cell H1.out.1.p 7 rfl, blk_cell H1.out.1.p 8 rfl⟩ (fun _ => ?_)
      clear hK
      simp only [List.setIfInBounds_toArray, List.set_cons_zero, List.set_cons_succ]
      exact J21 _ a1 c1 a2 c2 _ H1
    simp only [Act.put, List.setIfInBounds_toArray, List.set_cons_zero, List.set_cons_succ] at J20
    refine with_joinL (fun G lz az => ∀ (Wz : World) (a1 : Option Addr) (c1 : Nat) (A : Nat), Hid (LO w Wz r ∧ Sl 3 Lp.cells Wz a1 xs ∧ Wz.heap[A]? = some (.cells #[.int .i64 0, .int .i64 0, .int .i64 0, .int .i64 0, .int .i64 0, .int .i64 0, .int .i64 0, .int .i64 0, .int .i64 0] 38 (0, 0)) ∧ w.heap.size < A ∧ (0 < xs.length → ∀ p, a1 = some p → p.block ≠ A)) → G 3 ((lz.setIfInBounds 1 true).setIfInBounds 5 true) ((az.put (some 21) (.slice a1 xs.length c1)).put (some 7) (.pointer (some ⟨A, 0, none⟩))) Wz) ?_ (fun J11 => ?_)
    · intro Wz a1 c1 A Hz
      simp only [Act.put, List.setIfInBounds_toArray, List.set_cons_zero, List.set_cons_succ]
      refine wpAnyH_ready (rs := [3]) (by kernel_rfl) (by simp) ?_
      refine AllReadyH.cons (o := _) rfl (fun K hK => ?_) AllReadyH.nil
      go_simp
      go_at_call 20
      refine (loops_any a xs cap Wz (HX.out.1.below Hz.out.1.b) HL.out).mono ?_
      rintro e W2 ⟨a2, c2, rfl, hs, hf, hb⟩
      have H2 : Hid (LO w W2 r ∧ Sl 3 Lp.cells W2 a1 xs ∧ Sl 3 Lp.cells W2 a2 xs ∧ W2.heap[A]? = some (.cells #[.int .i64 0, .int .i64 0, .int .i64 0, .int .i64 0, .int .i64 0, .int .i64 0, .int .i64 0, .int .i64 0, .int .i64 0] 38 (0, 0)) ∧ w.heap.size < A ∧ (0 < xs.length → ∀ p, a1 = some p → p.block ≠ A) ∧ (0 < xs.length → ∀ p, a2 = some p → p.block ≠ A)) := ⟨Hz.out.1.below hb, Hz.out.2.1.below hb, hs, blk_below Hz.out.2.2.1 hb, Hz.out.2.2.2.1, Hz.out.2.2.2.2, (fun _ p hp => by have h1 := hf p hp; have h2 := lt_of_block Hz.out.2.2.1; omega)⟩
      clear hs hf hb
      refine hK.out _ _ ⟨blk_cell H2.out.1.p 0 rfl, blk_cell H2.out.1.p 1 rfl, blk_cell H2.out.1.p 2 rfl, blk_cell H2.out.1.p 3 rfl, blk_cell H2.out.1.p 4 rfl, blk_cell H2.out.1.p 5 rfl, blk_cell H2.out.1.p 6 rfl, blk_cell H2.out.1.p 7 rfl, blk_cell H2.out.1.p 8 rfl⟩ (fun _ => ?_)
      clear hK
      simp only [List.setIfInBounds_toArray, List.set_cons_zero, List.set_cons_succ]
      exact J21 _ a1 c1 a2 c2 A H2
    simp only [Act.put, List.setIfInBounds_toArray, List.set_cons_zero, List.set_cons_succ] at J11
    refine with_joinL (fun G lz az => ∀ (Wz : World) (a1 : Option Addr) (c1 : Nat), Hid (LO w Wz r ∧ Sl 3 Lp.cells Wz a1 xs) → G 4 (lz.setIfInBounds 1 true) (az.put (some 21) (.slice a1 xs.length c1)) Wz) ?_ (fun J10 => ?_)
    · intro Wz a1 c1 Hz
      simp only [Act.put, List.setIfInBounds_toArray, List.set_cons_zero, List.set_cons_succ]
      refine wpAnyH_ready (rs := [3, 5]) (by kernel_rfl) (by simp) ?_
      refine AllReadyH.cons (o := _) rfl (fun K hK => ?_) ?_
      · go_simp
        go_at_call 20
        refine (loops_any a xs cap Wz (HX.out.1.below Hz.out.1.b) HL.out).mono ?_
        rintro e W3 ⟨a2, c2, rfl, hs, hf, hb⟩
        have H3 : Hid (LO w W3 r ∧ Sl 3 Lp.cells W3 a1 xs ∧ Sl 3 Lp.cells W3 a2 xs) := ⟨Hz.out.1.below hb, Hz.out.2.below hb, hs⟩
        clear hs hf hb
        refine hK.out _ _ ⟨blk_cell H3.out.1.p 0 rfl, blk_cell H3.out.1.p 1 rfl, blk_cell H3.out.1.p 2 rfl, blk_cell H3.out.1.p 3 rfl, blk_cell H3.out.1.p 4 rfl, blk_cell H3.out.1.p 5 rfl, blk_cell H3.out.1.p 6 rfl, blk_cell H3.out.1.p 7 rfl, blk_cell H3.out.1.p 8 rfl⟩ (fun _ => ?_)
        clear hK
        simp only [List.setIfInBounds_toArray, List.set_cons_zero, List.set_cons_succ]
        exact J20 _ a1 c1 a2 c2 H3
      refine AllReadyH.cons (o := _) rfl (fun K hK => ?_) AllReadyH.nil
      go_simp
      have hb : Below Wz.heap.size Wz (Wz.alloc (.cells #[.int .i64 0, .int .i64 0, .int .i64 0, .int .i64 0, .int .i64 0, .int .i64 0, .int .i64 0, .int .i64 0, .int .i64 0] 38)) := (Below.refl _ _).alloc (Nat.le_refl _) _
      have H4 : Hid (LO w (Wz.alloc (.cells #[.int .i64 0, .int .i64 0, .int .i64 0, .int .i64 0, .int .i64 0, .int .i64 0, .int .i64 0, .int .i64 0, .int .i64 0] 38)) r ∧ Sl 3 Lp.cells (Wz.alloc (.cells #[.int .i64 0, .int .i64 0, .int .i64 0, .int .i64 0, .int .i64 0, .int .i64 0, .int .i64 0, .int .i64 0, .int .i64 0] 38)) a1 xs ∧ (Wz.alloc (.cells #[.int .i64 0, .int .i64 0, .int .i64 0, .int .i64 0, .int .i64 0, .int .i64 0, .int .i64 0, .int .i64 0, .int .i64 0] 38)).heap[Wz.heap.size]? = some (.cells #[.int .i64 0, .int .i64 0, .int .i64 0, .int .i64 0, .int .i64 0, .int .i64 0, .int .i64 0, .int .i64 0, .int .i64 0] 38 (0, 0)) ∧ w.heap.size < Wz.heap.size ∧ (0 < xs.length → ∀ p, a1 = some p → p.block ≠ Wz.heap.size)) := ⟨Hz.out.1.below hb, Hz.out.2.below hb, heap_alloc_new _ _, lt_of_block Hz.out.1.p, (fun h0 p hp => Nat.ne_of_lt (sl_lt Hz.out.2 h0 p hp))⟩
      clear hb
      refine hK.out _ _ ⟨blk_cell H4.out.1.p 0 rfl, blk_cell H4.out.1.p 1 rfl, blk_cell H4.out.1.p 2 rfl, blk_cell H4.out.1.p 3 rfl, blk_cell H4.out.1.p 4 rfl, blk_cell H4.out.1.p 5 rfl, blk_cell H4.out.1.p 6 rfl, blk_cell H4.out.1.p 7 rfl, blk_cell H4.out.1.p 8 rfl⟩ (fun _ => ?_)
      clear hK
      simp only [List.setIfInBounds_toArray, List.set_cons_zero, List.set_cons_succ]
      exact J11 _ a1 c1 _ H4
    simp only [Act.put, List.setIfInBounds_toArray, List.set_cons_zero, List.set_cons_succ] at J10
    refine with_joinL (fun G lz az => ∀ (Wz : World) (A : Nat), Hid (LO w Wz r ∧ Wz.heap[A]? = some (.cells #[.int .i64 0, .int .i64 0, .int .i64 0, .int .i64 0, .int .i64 0, .int .i64 0, .int .i64 0, .int .i64 0, .int .i64 0] 38 (0, 0)) ∧ w.heap.size < A) → G 4 (lz.setIfInBounds 5 true) (az.put (some 7) (.pointer (some ⟨A, 0, none⟩))) Wz) ?_ (fun J01 => ?_)
    · intro Wz A Hz
      simp only [Act.put, List.setIfInBounds_toArray, List.set_cons_zero, List.set_cons_succ]
      refine wpAnyH_ready (rs := [1]) (by kernel_rfl) (by simp) ?_
      refine AllReadyH.cons (o := _) rfl (fun K hK => ?_) AllReadyH.nil
      go_simp
      go_at_call 16
      refine (cloneLp_any a xs cap Wz (HX.out.1.below Hz.out.1.b) HX.out.2 HL.out).mono ?_
      rintro e W5 ⟨a1, c1, rfl, hs, hf, hb⟩
      have H5 : Hid (LO w W5 r ∧ Sl 3 Lp.cells W5 a1 xs ∧ W5.heap[A]? = some (.cells #[.int .i64 0, .int .i64 0, .int .i64 0, .int .i64 0, .int .i64 0, .int .i64 0, .int .i64 0, .int .i64 0, .int .i64 0] 38 (0, 0)) ∧ w.heap.size < A ∧ (0 < xs.length → ∀ p, a1 = some p → p.block ≠ A)) := ⟨Hz.out.1.below hb, hs, blk_below Hz.out.2.1 hb, Hz.out.2.2, (fun _ p hp => by have h1 := hf p hp; have h2 := lt_of_block Hz.out.2.1; omega)⟩
      clear hs hf hb
      refine hK.out _ _ ⟨blk_cell H5.out.1.p 0 rfl, blk_cell H5.out.1.p 1 rfl, blk_cell H5.out.1.p 2 rfl, blk_cell H5.out.1.p 3 rfl, blk_cell H5.out.1.p 4 rfl, blk_cell H5.out.1.p 5 rfl, blk_cell H5.out.1.p 6 rfl, blk_cell H5.out.1.p 7 rfl, blk_cell H5.out.1.p 8 rfl⟩ (fun _ => ?_)
      clear hK
      simp only [List.setIfInBounds_toArray, List.set_cons_zero, List.set_cons_succ]
      exact J11 _ a1 c1 A H5
    simp only [Act.put, List.setIfInBounds_toArray, List.set_cons_zero, List.set_cons_succ] at J01
    refine wpAnyH_ready (rs := [1, 5]) (by kernel_rfl) (by simp) ?_
    refine AllReadyH.cons (o := _) rfl (fun K hK => ?_) ?_
    · go_simp
      go_at_call 16
      refine (cloneLp_any a xs cap W0 (HX.out.1.below H0.out.b) HX.out.2 HL.out).mono ?_
      rintro e W6 ⟨a1, c1, rfl, hs, hf, hb⟩
      have H6 : Hid (LO w W6 r ∧ Sl 3 Lp.cells W6 a1 xs) := ⟨H0.out.below hb, hs⟩
      clear hs hf hb
      refine hK.out _ _ ⟨blk_cell H6.out.1.p 0 rfl, blk_cell H6.out.1.p 1 rfl, blk_cell H6.out.1.p 2 rfl, blk_cell H6.out.1.p 3 rfl, blk_cell H6.out.1.p 4 rfl, blk_cell H6.out.1.p 5 rfl, blk_cell H6.out.1.p 6 rfl, blk_cell H6.out.1.p 7 rfl, blk_cell H6.out.1.p 8 rfl⟩ (fun _ => ?_)
      clear hK
      simp only [List.setIfInBounds_toArray, List.set_cons_zero, List.set_cons_succ]
      exact J10 _ a1 c1 H6
    refine AllReadyH.cons (o := _) rfl (fun K hK => ?_) AllReadyH.nil
    go_simp
    have hb : Below W0.heap.size W0 (W0.alloc (.cells #[.int .i64 0, .int .i64 0, .int .i64 0, .int .i64 0, .int .i64 0, .int .i64 0, .int .i64 0, .int .i64 0, .int .i64 0] 38)) := (Below.refl _ _).alloc (Nat.le_refl _) _
    have H7 : Hid (LO w (W0.alloc (.cells #[.int .i64 0, .int .i64 0, .int .i64 0, .int .i64 0, .int .i64 0, .int .i64 0, .int .i64 0, .int .i64 0, .int .i64 0] 38)) r ∧ (W0.alloc (.cells #[.int .i64 0, .int .i64 0, .int .i64 0, .int .i64 0, .int .i64 0, .int .i64 0, .int .i64 0, .int .i64 0, .int .i64 0] 38)).heap[W0.heap.size]? = some (.cells #[.int .i64 0, .int .i64 0, .int .i64 0, .int .i64 0, .int .i64 0, .int .i64 0, .int .i64 0, .int .i64 0, .int .i64 0] 38 (0, 0)) ∧ w.heap.size < W0.heap.size) := ⟨H0.out.below hb, heap_alloc_new _ _, lt_of_block H0.out.p⟩
    clear hb
    refine hK.out _ _ ⟨blk_cell H7.out.1.p 0 rfl, blk_cell H7.out.1.p 1 rfl, blk_cell H7.out.1.p 2 rfl, blk_cell H7.out.1.p 3 rfl, blk_cell H7.out.1.p 4 rfl, blk_cell H7.out.1.p 5 rfl, blk_cell H7.out.1.p 6 rfl, blk_cell H7.out.1.p 7 rfl, blk_cell H7.out.1.p 8 rfl⟩ (fun _ => ?_)
    clear hK
    simp only [List.setIfInBounds_toArray, List.set_cons_zero, List.set_cons_succ]
    exact J01 _ _ H7
  · clear hn
    have HB := Lib.hid HO.out.b
    go_wp2_with (first | (go_at_call 15; refine (awake_any _).mono ?_; rintro e v7 ⟨rfl, hb⟩; have HM2 := Lib.hid (below_self HB.out hb); clear hb))
    go_ret
    exact ⟨rfl, HM2.out⟩
end Go.Proofs.Ytpkegiekpnaejaa
