/-
The contract of CourseSnow over this seat's program.
  What is proved: it answers true; nothing that was there before has turned.
  Conditions: lists that read as such.
-/
import Derived.Test.YtpkegiekpnaejaaGreatPart18
import Derived.Laws.CopyOwn
namespace Go.Proofs.YtpkegiekpnaejaaGreat
open Go.RowKit Go.Shelf
attribute [local go_sem] Oper.semAt_some

/-- A law of a state of a walk, kept for all ways that come to it. -/
theorem with_joinL {P : Program} {md : Region.Mode} {ops : Array Oper} {Q : Exit → Act → World → Prop} {S : World → Prop} {f0 : Nat} {l0 : Array Bool} {a0 : Act} {w0 : World} (J : (Nat → Array Bool → Act → World → Prop) → Array Bool → Act → Prop)
    (hJ : J (fun f l a w => wpAnyH P md ops Q S f l a w) l0 a0) (k : J (fun f l a w => wpAnyH P md ops Q S f l a w) l0 a0 → wpAnyH P md ops Q S f0 l0 a0 w0) : wpAnyH P md ops Q S f0 l0 a0 w0 := k hJ
theorem covR_few (xs : List Lp) (r : Ru) (depth volume : Int) : (covR xs r depth volume).1.length ≤ 300 ∧ ∀ c ∈ (covR xs r depth volume).1, c.length ≤ 1000000 := by
  rw [covR]
  split
  · rename_i h
    split
    · show (if (covL xs r depth volume).length ≤ 300 then covL xs r depth volume else []).length ≤ 300 ∧ ∀ c ∈ (if (covL xs r depth volume).length ≤ 300 then covL xs r depth volume else []), c.length ≤ 1000000
      split
      · rename_i h3
        refine ⟨h3, fun c hc => ?_⟩
        have hc' := (List.mem_filter.1 (List.mem_filter.1 hc).1).1
        have h1 := extC_ok xs.length r.laps.toNat [] 0 (by simp) c hc'
        have h2 := (laps_nat h).2
        simp at h1
        omega
      · exact ⟨Nat.zero_le _, fun c hc => by simp at hc⟩
    · exact ⟨Nat.zero_le _, fun c hc => by simp at hc⟩
  · exact ⟨Nat.zero_le _, fun c hc => by simp at hc⟩
theorem bFold (xs : List Lp) (depth : Int) (P : List Int → Prop) : ∀ (cs : List (List Int)) (st : Option (List Int × Int)), (∀ c ∈ cs, P c) → (∀ b m, st = some (b, m) → P b) → ∀ b m, cs.foldl (bestStep xs depth) st = some (b, m) → P b
  | [], st, _, h, b, m, e => h b m e
  | c :: cs, st, hc, h, b, m, e => by
    refine bFold xs depth P cs (bestStep xs depth st c) (fun x hx => hc x (List.mem_cons_of_mem _ hx)) (fun b' m' e' => ?_) b m e
    have hP := hc c List.mem_cons_self
    unfold bestStep at e'
    cases st with
    | none => cases e'; exact hP
    | some s =>
      obtain ⟨b0, m0⟩ := s
      simp only at e'
      split at e'
      · cases e'; exact hP
      · cases e'; exact h _ _ rfl
theorem cheapR_few (xs : List Lp) (r : Ru) (depth : Int) : (cheapR xs r depth).1.length ≤ 6 := by
  rw [cheapR]
  split
  · rename_i h
    split
    · have h2 := (laps_nat h).2
      have hh := bFold xs depth (fun c => c.length ≤ 6) (rightL xs r) none (fun c hc => by
        have h1 := extC_ok xs.length r.laps.toNat [] 0 (by simp) c (List.mem_filter.1 hc).1
        simp at h1; omega) (fun b m e => by cases e)
      unfold bestOf
      generalize (rightL xs r).foldl (bestStep xs depth) none = st at *
      cases st with
      | none => exact Nat.zero_le _
      | some s => exact hh _ _ rfl
    · exact Nat.zero_le _
  · exact Nat.zero_le _

theorem sl_row {W : World} {A : Nat} {a : Option Addr} {xs : List Lp} (h : Sl 3 Lp.cells W a xs) (hne : 0 < xs.length → ∀ p, a = some p → p.block ≠ A) (cs : Array Value) : Sl 3 Lp.cells (W.setRow A cs) a xs := fun h0 => by
  obtain ⟨b, off, rfl, hbs, hc⟩ := h h0
  exact ⟨b, off, rfl, by simpa using hbs, fun j x i u hx hu => (cell_setRow_other W A cs ⟨b, off + j * 3 + i, none⟩ (show b ≠ A from hne h0 ⟨b, off, none⟩ rfl)).trans (hc j x i u hx hu)⟩
theorem ints_row {W : World} {A : Nat} {a : Option Addr} {xs : List Int} (h : IntSl W a xs) (hne : 0 < xs.length → ∀ p, a = some p → p.block ≠ A) (cs : Array Value) : IntSl (W.setRow A cs) a xs := fun h0 => by
  obtain ⟨b, off, rfl, hbs, hc⟩ := h h0
  exact ⟨b, off, rfl, by simpa using hbs, fun j hj => (cell_setRow_other W A cs ⟨b, off + j, none⟩ (show b ≠ A from hne h0 ⟨b, off, none⟩ rfl)).trans (hc j hj)⟩
theorem ints_lt {A : World} {a : Option Addr} {xs : List Int} (h : IntSl A a xs) (h0 : 0 < xs.length) : ∀ p, a = some p → p.block < A.heap.size := fun p hp => by
  obtain ⟨b, off, rfl, hbs, _⟩ := h h0; cases hp; exact hbs

/-- What lies while the law runs. -/
structure LO (w W : World) (r : Ru) : Prop where
  b : Below w.heap.size w W
  p : W.heap[w.heap.size]? = some (.cells #[.int .i64 r.laps, .int .i64 r.len.lo, .int .i64 r.len.hi, .int .i64 r.climb.lo, .int .i64 r.climb.hi, .int .i64 r.lap.lo, .int .i64 r.lap.hi, .int .i64 r.wide, .int .i64 r.uses] 26 (0, 0))
theorem LO.below {w W W' : World} {r : Ru} (h : LO w W r) (hb : Below W.heap.size W W') : LO w W' r := ⟨below_self h.b hb, blk_below h.p hb⟩

set_option maxRecDepth 100000 in
set_option maxHeartbeats 20000000 in
theorem snow_law (a : Option Addr) (xs : List Lp) (cap : Nat) (r : Ru) (ac : Option Addr) (c : List Int) (ccap : Nat) (depth volume : Int) (w : World) (hx : Sl 3 Lp.cells w a xs) (hc : IntSl w ac c) (hna : a = none → xs.length = 0 ∧ cap = 0) (hnc : ac = none → c.length = 0 ∧ ccap = 0) :
    Calls Tryz.prog 3 #[.slice a xs.length cap, r.v, .slice ac c.length ccap, .int .i64 depth, .int .i64 volume] w fun e w' => e = .returned (.bool true) ∧ Below w.heap.size w w' := by
  have h0 : LO w (w.alloc (.cells #[.int .i64 r.laps, .int .i64 r.len.lo, .int .i64 r.len.hi, .int .i64 r.climb.lo, .int .i64 r.climb.hi, .int .i64 r.lap.lo, .int .i64 r.lap.hi, .int .i64 r.wide, .int .i64 r.uses] 26)) r := ⟨(Below.refl _ _).alloc (Nat.le_refl _) _, heap_alloc_new _ _⟩
  have HX := Lib.hid (And.intro hx (And.intro hc (And.intro hna hnc)))
  have HO := Lib.hid h0
  clear h0 hx hc hna hnc
  go_enter Tryz.func3, Tryz.ntmps3
  go_wp2_with (fail)
  generalize w.alloc (.cells #[.int .i64 r.laps, .int .i64 r.len.lo, .int .i64 r.len.hi, .int .i64 r.climb.lo, .int .i64 r.climb.hi, .int .i64 r.lap.lo, .int .i64 r.lap.hi, .int .i64 r.wide, .int .i64 r.uses] 26) = Wa at HO ⊢
  refine (many_any a xs.length cap r Wa).mono ?_
  rintro e Wb ⟨bb, rfl, hn, hb⟩
  replace HO := Lib.hid (HO.out.below hb)
  clear hb
  by_cases hgo : bb = false ∧ c.length ≤ 10
  · obtain ⟨rfl, h10⟩ := hgo
    have HL : Hid (xs.length ≤ 1000 ∧ c.length ≤ 1000) := by have := hn rfl; exact ⟨by omega, by omega⟩
    clear hn
    go_upto_region 3 with (fail)
    clear h10
    refine wp_region_split (S := fun W' => W'.cell? ⟨w.heap.size, 0, none⟩ = some (.int .i64 r.laps) ∧ W'.cell? ⟨w.heap.size, 1, none⟩ = some (.int .i64 r.len.lo) ∧ W'.cell? ⟨w.heap.size, 2, none⟩ = some (.int .i64 r.len.hi) ∧ W'.cell? ⟨w.heap.size, 3, none⟩ = some (.int .i64 r.climb.lo) ∧ W'.cell? ⟨w.heap.size, 4, none⟩ = some (.int .i64 r.climb.hi) ∧ W'.cell? ⟨w.heap.size, 5, none⟩ = some (.int .i64 r.lap.lo) ∧ W'.cell? ⟨w.heap.size, 6, none⟩ = some (.int .i64 r.lap.hi) ∧ W'.cell? ⟨w.heap.size, 7, none⟩ = some (.int .i64 r.wide) ∧ W'.cell? ⟨w.heap.size, 8, none⟩ = some (.int .i64 r.uses)) [11] 11 (by kernel_rfl) (by kernel_rfl) rfl ?_
    have H0 : Hid (LO w Wb.drew r) := HO.out.below (Below.refl _ _).drew
    clear HO
    generalize Wb.drew = W0 at H0 ⊢
    rw [show firstL _ [11] = #[false, false, false, false, false, false, false, false, false, false, false, true] from by kernel_rfl]
    refine wpAnyH_take (i := 0) (v := .slice a xs.length cap) rfl (by kernel_rfl) (by kernel_rfl) (by kernel_rfl) (fun _ _ _ h => h) (Or.inl ⟨by rfl, by (intro W hSw; have c0 := hSw.1; have c1 := hSw.2.1; have c2 := hSw.2.2.1; have c3 := hSw.2.2.2.1; have c4 := hSw.2.2.2.2.1; have c5 := hSw.2.2.2.2.2.1; have c6 := hSw.2.2.2.2.2.2.1; have c7 := hSw.2.2.2.2.2.2.2.1; have c8 := hSw.2.2.2.2.2.2.2.2; clear hSw; go_simp)⟩) ⟨blk_cell H0.out.p 0 rfl, blk_cell H0.out.p 1 rfl, blk_cell H0.out.p 2 rfl, blk_cell H0.out.p 3 rfl, blk_cell H0.out.p 4 rfl, blk_cell H0.out.p 5 rfl, blk_cell H0.out.p 6 rfl, blk_cell H0.out.p 7 rfl, blk_cell H0.out.p 8 rfl⟩ ?_
    simp only [Act.put, List.setIfInBounds_toArray, List.set_cons_zero]
    refine wpAnyH_take (i := 2) (v := .slice ac c.length ccap) rfl (by kernel_rfl) (by kernel_rfl) (by kernel_rfl) (fun _ _ _ h => h) (Or.inl ⟨by rfl, by (intro W hSw; have c0 := hSw.1; have c1 := hSw.2.1; have c2 := hSw.2.2.1; have c3 := hSw.2.2.2.1; have c4 := hSw.2.2.2.2.1; have c5 := hSw.2.2.2.2.2.1; have c6 := hSw.2.2.2.2.2.2.1; have c7 := hSw.2.2.2.2.2.2.2.1; have c8 := hSw.2.2.2.2.2.2.2.2; clear hSw; go_simp)⟩) ⟨blk_cell H0.out.p 0 rfl, blk_cell H0.out.p 1 rfl, blk_cell H0.out.p 2 rfl, blk_cell H0.out.p 3 rfl, blk_cell H0.out.p 4 rfl, blk_cell H0.out.p 5 rfl, blk_cell H0.out.p 6 rfl, blk_cell H0.out.p 7 rfl, blk_cell H0.out.p 8 rfl⟩ ?_
    simp only [Act.put, List.setIfInBounds_toArray, List.set_cons_zero, List.set_cons_succ]
    refine wpAnyH_take (i := 4) (v := .slice a xs.length cap) rfl (by kernel_rfl) (by kernel_rfl) (by kernel_rfl) (fun _ _ _ h => h) (Or.inl ⟨by rfl, by (intro W hSw; have c0 := hSw.1; have c1 := hSw.2.1; have c2 := hSw.2.2.1; have c3 := hSw.2.2.2.1; have c4 := hSw.2.2.2.2.1; have c5 := hSw.2.2.2.2.2.1; have c6 := hSw.2.2.2.2.2.2.1; have c7 := hSw.2.2.2.2.2.2.2.1; have c8 := hSw.2.2.2.2.2.2.2.2; clear hSw; go_simp)⟩) ⟨blk_cell H0.out.p 0 rfl, blk_cell H0.out.p 1 rfl, blk_cell H0.out.p 2 rfl, blk_cell H0.out.p 3 rfl, blk_cell H0.out.p 4 rfl, blk_cell H0.out.p 5 rfl, blk_cell H0.out.p 6 rfl, blk_cell H0.out.p 7 rfl, blk_cell H0.out.p 8 rfl⟩ ?_
    simp only [Act.put, List.setIfInBounds_toArray, List.set_cons_zero, List.set_cons_succ]
    refine wpAnyH_take (i := 6) (v := r.v) rfl (by kernel_rfl) (by kernel_rfl) (by kernel_rfl) (fun _ _ _ h => h) (Or.inl ⟨by rfl, by (intro W hSw; have c0 := hSw.1; have c1 := hSw.2.1; have c2 := hSw.2.2.1; have c3 := hSw.2.2.2.1; have c4 := hSw.2.2.2.2.1; have c5 := hSw.2.2.2.2.2.1; have c6 := hSw.2.2.2.2.2.2.1; have c7 := hSw.2.2.2.2.2.2.2.1; have c8 := hSw.2.2.2.2.2.2.2.2; clear hSw; go_simp)⟩) ⟨blk_cell H0.out.p 0 rfl, blk_cell H0.out.p 1 rfl, blk_cell H0.out.p 2 rfl, blk_cell H0.out.p 3 rfl, blk_cell H0.out.p 4 rfl, blk_cell H0.out.p 5 rfl, blk_cell H0.out.p 6 rfl, blk_cell H0.out.p 7 rfl, blk_cell H0.out.p 8 rfl⟩ ?_
    simp only [Act.put, List.setIfInBounds_toArray, List.set_cons_zero, List.set_cons_succ]
    refine with_joinL (fun G lz az => ∀ (Wz : World) (a1 : Option Addr) (c1 : Nat) (a2 : Option Addr) (c2 : Nat) (a3 : Option Addr) (c3 : Nat) (A : Nat), Hid (LO w Wz r ∧ Sl 3 Lp.cells Wz a1 xs ∧ IntSl Wz a2 c ∧ Sl 3 Lp.cells Wz a3 xs ∧ Wz.heap[A]? = some (.cells #[.int .i64 0, .int .i64 0, .int .i64 0, .int .i64 0, .int .i64 0, .int .i64 0, .int .i64 0, .int .i64 0, .int .i64 0] 36 (0, 0)) ∧ w.heap.size < A ∧ (0 < xs.length → ∀ p, a1 = some p → p.block ≠ A) ∧ (0 < c.length → ∀ p, a2 = some p → p.block ≠ A) ∧ (0 < xs.length → ∀ p, a3 = some p → p.block ≠ A)) → G 3 ((((lz.setIfInBounds 1 true).setIfInBounds 3 true).setIfInBounds 5 true).setIfInBounds 7 true) ((((az.put (some 35) (.slice a1 xs.length c1)).put (some 37) (.slice a2 c.length c2)).put (some 39) (.slice a3 xs.length c3)).put (some 14) (.pointer (some ⟨A, 0, none⟩))) Wz) ?_ (fun J31 => ?_)
    · intro Wz a1 c1 a2 c2 a3 c3 A Hz
      simp only [Act.put, List.setIfInBounds_toArray, List.set_cons_zero, List.set_cons_succ]
      refine wpAnyH_take (i := 8) (v := .slice a1 xs.length c1) rfl (by kernel_rfl) (by kernel_rfl) (by kernel_rfl) (fun _ _ _ h => h) (Or.inl ⟨by rfl, by (intro W hSw; clear hSw; go_simp)⟩) ⟨blk_cell Hz.out.1.p 0 rfl, blk_cell Hz.out.1.p 1 rfl, blk_cell Hz.out.1.p 2 rfl, blk_cell Hz.out.1.p 3 rfl, blk_cell Hz.out.1.p 4 rfl, blk_cell Hz.out.1.p 5 rfl, blk_cell Hz.out.1.p 6 rfl, blk_cell Hz.out.1.p 7 rfl, blk_cell Hz.out.1.p 8 rfl⟩ ?_
      simp only [Act.put, List.setIfInBounds_toArray, List.set_cons_zero, List.set_cons_succ]
      refine wpAnyH_take (i := 9) (v := .slice a2 c.length c2) rfl (by kernel_rfl) (by kernel_rfl) (by kernel_rfl) (fun _ _ _ h => h) (Or.inl ⟨by rfl, by (intro W hSw; clear hSw; go_simp)⟩) ⟨blk_cell Hz.out.1.p 0 rfl, blk_cell Hz.out.1.p 1 rfl, blk_cell Hz.out.1.p 2 rfl, blk_cell Hz.out.1.p 3 rfl, blk_cell Hz.out.1.p 4 rfl, blk_cell Hz.out.1.p 5 rfl, blk_cell Hz.out.1.p 6 rfl, blk_cell Hz.out.1.p 7 rfl, blk_cell Hz.out.1.p 8 rfl⟩ ?_
      simp only [Act.put, List.setIfInBounds_toArray, List.set_cons_zero, List.set_cons_succ]
      refine wpAnyH_take (i := 10) (v := .slice a3 xs.length c3) rfl (by kernel_rfl) (by kernel_rfl) (by kernel_rfl) (fun _ _ _ h => h) (Or.inl ⟨by rfl, by (intro W hSw; clear hSw; go_simp)⟩) ⟨blk_cell Hz.out.1.p 0 rfl, blk_cell Hz.out.1.p 1 rfl, blk_cell Hz.out.1.p 2 rfl, blk_cell Hz.out.1.p 3 rfl, blk_cell Hz.out.1.p 4 rfl, blk_cell Hz.out.1.p 5 rfl, blk_cell Hz.out.1.p 6 rfl, blk_cell Hz.out.1.p 7 rfl, blk_cell Hz.out.1.p 8 rfl⟩ ?_
      simp only [Act.put, List.setIfInBounds_toArray, List.set_cons_zero, List.set_cons_succ]
      refine wpAnyH_done (by kernel_rfl) ?_ _
      show wpList _ _ _ (opsAt _ [11]) _ _
      simp only [opsAt, List.filterMap_cons, List.filterMap_nil, List.getElem?_toArray, List.getElem?_cons_succ, List.getElem?_cons_zero]
      have h5 := Hz.out.2.2.2.2.1
      refine wpList_store_row rfl 36 (.tmp 14) (.tmp 40) rfl A #[.int .i64 r.laps, .int .i64 r.len.lo, .int .i64 r.len.hi, .int .i64 r.climb.lo, .int .i64 r.climb.hi, .int .i64 r.lap.lo, .int .i64 r.lap.hi, .int .i64 r.wide, .int .i64 r.uses] (by kernel_rfl) (by kernel_rfl) 36 _ h5 (by kernel_rfl) (by kernel_rfl) (by kernel_rfl) ?_
      have hl := Hz.out.2.2.2.2.2.1
      have HW : Hid (LO w (Wz.setRow A #[.int .i64 r.laps, .int .i64 r.len.lo, .int .i64 r.len.hi, .int .i64 r.climb.lo, .int .i64 r.climb.hi, .int .i64 r.lap.lo, .int .i64 r.lap.hi, .int .i64 r.wide, .int .i64 r.uses]) r ∧ Sl 3 Lp.cells (Wz.setRow A #[.int .i64 r.laps, .int .i64 r.len.lo, .int .i64 r.len.hi, .int .i64 r.climb.lo, .int .i64 r.climb.hi, .int .i64 r.lap.lo, .int .i64 r.lap.hi, .int .i64 r.wide, .int .i64 r.uses]) a1 xs ∧ IntSl (Wz.setRow A #[.int .i64 r.laps, .int .i64 r.len.lo, .int .i64 r.len.hi, .int .i64 r.climb.lo, .int .i64 r.climb.hi, .int .i64 r.lap.lo, .int .i64 r.lap.hi, .int .i64 r.wide, .int .i64 r.uses]) a2 c ∧ Sl 3 Lp.cells (Wz.setRow A #[.int .i64 r.laps, .int .i64 r.len.lo, .int .i64 r.len.hi, .int .i64 r.climb.lo, .int .i64 r.climb.hi, .int .i64 r.lap.lo, .int .i64 r.lap.hi, .int .i64 r.wide, .int .i64 r.uses]) a3 xs ∧ (Wz.setRow A #[.int .i64 r.laps, .int .i64 r.len.lo, .int .i64 r.len.hi, .int .i64 r.climb.lo, .int .i64 r.climb.hi, .int .i64 r.lap.lo, .int .i64 r.lap.hi, .int .i64 r.wide, .int .i64 r.uses]).heap[A]? = some (.cells #[.int .i64 r.laps, .int .i64 r.len.lo, .int .i64 r.len.hi, .int .i64 r.climb.lo, .int .i64 r.climb.hi, .int .i64 r.lap.lo, .int .i64 r.lap.hi, .int .i64 r.wide, .int .i64 r.uses] 36 (0, 0))) := ⟨⟨below_setRow Hz.out.1.b (by omega) _, (setRow_other Wz A _ _ (by omega)).trans Hz.out.1.p⟩, sl_row Hz.out.2.1 Hz.out.2.2.2.2.2.2.1 _, ints_row Hz.out.2.2.1 Hz.out.2.2.2.2.2.2.2.1 _, sl_row Hz.out.2.2.2.1 Hz.out.2.2.2.2.2.2.2.2 _, setRow_heap Wz A _ _ 36 (0, 0) h5⟩
      clear hl h5 Hz
      generalize (Wz.setRow A #[.int .i64 r.laps, .int .i64 r.len.lo, .int .i64 r.len.hi, .int .i64 r.climb.lo, .int .i64 r.climb.hi, .int .i64 r.lap.lo, .int .i64 r.lap.hi, .int .i64 r.wide, .int .i64 r.uses]) = U0 at HW ⊢
      obtain ⟨AR, AE, hA⟩ : ∃ AR AE, areaR xs c = (AR, AE) := ⟨_, _, rfl⟩
      obtain ⟨SR, SE, hS⟩ : ∃ SR SE, snowR xs c depth = (SR, SE) := ⟨_, _, rfl⟩
      obtain ⟨L, LE, hLE⟩ : ∃ L LE, covR xs r depth volume = (L, LE) := ⟨_, _, rfl⟩
      obtain ⟨CR, CM, CE, hCE⟩ : ∃ CR CM CE, cheapR xs r depth = (CR, CM, CE) := ⟨_, _, _, rfl⟩
      have HBR : Hid (L.length ≤ 1000000 ∧ (∀ c ∈ L, c.length ≤ 1000000) ∧ CR.length ≤ 1000000) := by
        have h1 := covR_few xs r depth volume
        have h3 := cheapR_few xs r depth
        rw [hLE] at h1
        rw [hCE] at h3
        exact ⟨Nat.le_trans h1.1 (by omega), h1.2, Nat.le_trans h3 (by omega)⟩
      have HC1 : Hid (∀ W, Sl 3 Lp.cells W a1 xs → IntSl W a2 c → Calls Tryz.prog 14 #[.slice a1 xs.length c1, .slice a2 c.length c2] W (Out2 W (AR, AE))) := fun W q0 q1 => by
        have h := Area_any a1 xs c1 a2 c c2 W q0 q1 (by have := HL.out.1; omega) (by have := HL.out.2; omega)
        rw [hA] at h
        exact h
      have HC2 : Hid (∀ W, Sl 3 Lp.cells W a3 xs → IntSl W ac c → Calls Tryz.prog 15 #[.slice a3 xs.length c3, .slice ac c.length ccap] W (Out2 W (AR, AE))) := fun W q0 q1 => by
        have h := refArea_any a3 xs c3 ac c ccap W q0 q1 (by have := HL.out.1; omega) (by have := HL.out.2; omega)
        rw [hA] at h
        exact h
      have HC3 : Hid (∀ W, Sl 3 Lp.cells W a1 xs → IntSl W a2 c → Calls Tryz.prog 16 #[.slice a1 xs.length c1, .slice a2 c.length c2, .int .i64 depth] W (Out2 W (SR, SE))) := fun W q0 q1 => by
        have h := Snow_any a1 xs c1 a2 c c2 depth W q0 q1 (by have := HL.out.1; omega) (by have := HL.out.2; omega)
        rw [hS] at h
        exact h
      have HC4 : Hid (∀ W, Sl 3 Lp.cells W a3 xs → IntSl W ac c → Calls Tryz.prog 17 #[.slice a3 xs.length c3, .slice ac c.length ccap, .int .i64 depth] W (Out2 W (SR, SE))) := fun W q0 q1 => by
        have h := refSnow_any a3 xs c3 ac c ccap depth W q0 q1 (by have := HL.out.1; omega) (by have := HL.out.2; omega)
        rw [hS] at h
        exact h
      have HC5 : Hid (∀ W, Sl 3 Lp.cells W a1 xs → Calls Tryz.prog 18 #[.slice a1 xs.length c1, r.v, .int .i64 depth, .int .i64 volume] W (OutCs W L LE)) := fun W q0 => by
        have h := Covered_any a1 xs c1 r depth volume W q0 (by have := HL.out.1; omega)
        rw [hLE] at h
        exact h
      have HC6 : Hid (∀ W, Sl 3 Lp.cells W a3 xs → Calls Tryz.prog 19 #[.slice a3 xs.length c3, r.v, .int .i64 depth, .int .i64 volume] W (OutCs W L LE)) := fun W q0 => by
        have h := refCovered_any a3 xs c3 r depth volume W q0 (by have := HL.out.1; omega)
        rw [hLE] at h
        exact h
      have HC7 : Hid (∀ W, Sl 3 Lp.cells W a1 xs → Calls Tryz.prog 21 #[.slice a1 xs.length c1, r.v, .int .i64 depth] W (OutC3 W (CR, CM, CE))) := fun W q0 => by
        have h := cheapest_any a1 xs c1 r depth W q0 (by have := HL.out.1; omega)
        rw [hCE] at h
        exact h
      have HC8 : Hid (∀ W, Sl 3 Lp.cells W a3 xs → Calls Tryz.prog 22 #[.slice a3 xs.length c3, r.v, .int .i64 depth] W (OutC3 W (CR, CM, CE))) := fun W q0 => by
        have h := refCheapest_any a3 xs c3 r depth W q0 (by have := HL.out.1; omega)
        rw [hCE] at h
        exact h
      clear hA hS hLE hCE
      go_wp2_with (fail)
      refine (HC1.out U0 HW.out.2.1 HW.out.2.2.1).mono ?_
      rintro e U1 ⟨rfl, hb⟩
      have K1 : Hid (LO w U1 r ∧ Sl 3 Lp.cells U1 a1 xs ∧ IntSl U1 a2 c ∧ Sl 3 Lp.cells U1 a3 xs ∧ U1.heap[A]? = some (.cells #[.int .i64 r.laps, .int .i64 r.len.lo, .int .i64 r.len.hi, .int .i64 r.climb.lo, .int .i64 r.climb.hi, .int .i64 r.lap.lo, .int .i64 r.lap.hi, .int .i64 r.wide, .int .i64 r.uses] 36 (0, 0))) := ⟨HW.out.1.below hb, HW.out.2.1.below hb, HW.out.2.2.1.below hb, HW.out.2.2.2.1.below hb, blk_below HW.out.2.2.2.2 hb⟩
      clear hb HW
      go_wp2_with (fail)
      refine (HC2.out U1 K1.out.2.2.2.1 (HX.out.2.1.below K1.out.1.b)).mono ?_
      rintro e U2 ⟨rfl, hb⟩
      have K2 : Hid (LO w U2 r ∧ Sl 3 Lp.cells U2 a1 xs ∧ IntSl U2 a2 c ∧ Sl 3 Lp.cells U2 a3 xs ∧ U2.heap[A]? = some (.cells #[.int .i64 r.laps, .int .i64 r.len.lo, .int .i64 r.len.hi, .int .i64 r.climb.lo, .int .i64 r.climb.hi, .int .i64 r.lap.lo, .int .i64 r.lap.hi, .int .i64 r.wide, .int .i64 r.uses] 36 (0, 0))) := ⟨K1.out.1.below hb, K1.out.2.1.below hb, K1.out.2.2.1.below hb, K1.out.2.2.2.1.below hb, blk_below K1.out.2.2.2.2 hb⟩
      clear hb K1
      go_wp2_with (fail)
      refine (HC3.out U2 K2.out.2.1 K2.out.2.2.1).mono ?_
      rintro e U3 ⟨rfl, hb⟩
      have K3 : Hid (LO w U3 r ∧ Sl 3 Lp.cells U3 a1 xs ∧ IntSl U3 a2 c ∧ Sl 3 Lp.cells U3 a3 xs ∧ U3.heap[A]? = some (.cells #[.int .i64 r.laps, .int .i64 r.len.lo, .int .i64 r.len.hi, .int .i64 r.climb.lo, .int .i64 r.climb.hi, .int .i64 r.lap.lo, .int .i64 r.lap.hi, .int .i64 r.wide, .int .i64 r.uses] 36 (0, 0))) := ⟨K2.out.1.below hb, K2.out.2.1.below hb, K2.out.2.2.1.below hb, K2.out.2.2.2.1.below hb, blk_below K2.out.2.2.2.2 hb⟩
      clear hb K2
      go_wp2_with (fail)
      refine (HC4.out U3 K3.out.2.2.2.1 (HX.out.2.1.below K3.out.1.b)).mono ?_
      rintro e U4 ⟨rfl, hb⟩
      have K4 : Hid (LO w U4 r ∧ Sl 3 Lp.cells U4 a1 xs ∧ IntSl U4 a2 c ∧ Sl 3 Lp.cells U4 a3 xs ∧ U4.heap[A]? = some (.cells #[.int .i64 r.laps, .int .i64 r.len.lo, .int .i64 r.len.hi, .int .i64 r.climb.lo, .int .i64 r.climb.hi, .int .i64 r.lap.lo, .int .i64 r.lap.hi, .int .i64 r.wide, .int .i64 r.uses] 36 (0, 0))) := ⟨K3.out.1.below hb, K3.out.2.1.below hb, K3.out.2.2.1.below hb, K3.out.2.2.2.1.below hb, blk_below K3.out.2.2.2.2 hb⟩
      clear hb K3
      have c0 := blk_cell K4.out.1.p 0 rfl
      have c1' := blk_cell K4.out.1.p 1 rfl
      have c2' := blk_cell K4.out.1.p 2 rfl
      have c3' := blk_cell K4.out.1.p 3 rfl
      have c4 := blk_cell K4.out.1.p 4 rfl
      have c5 := blk_cell K4.out.1.p 5 rfl
      have c6 := blk_cell K4.out.1.p 6 rfl
      have c7 := blk_cell K4.out.1.p 7 rfl
      have c8 := blk_cell K4.out.1.p 8 rfl
      go_wp2_with (fail)
      clear c0 c1' c2' c3' c4 c5 c6 c7 c8
      refine (HC5.out U4 K4.out.2.1).mono ?_
      rintro e U5 ⟨la, lcap, rfl, h1, hb⟩
      have K5 : Hid (LO w U5 r ∧ Sl 3 Lp.cells U5 a1 xs ∧ IntSl U5 a2 c ∧ Sl 3 Lp.cells U5 a3 xs ∧ U5.heap[A]? = some (.cells #[.int .i64 r.laps, .int .i64 r.len.lo, .int .i64 r.len.hi, .int .i64 r.climb.lo, .int .i64 r.climb.hi, .int .i64 r.lap.lo, .int .i64 r.lap.hi, .int .i64 r.wide, .int .i64 r.uses] 36 (0, 0)) ∧ SlsAt U5 la L) := ⟨K4.out.1.below hb, K4.out.2.1.below hb, K4.out.2.2.1.below hb, K4.out.2.2.2.1.below hb, blk_below K4.out.2.2.2.2 hb, h1⟩
      clear h1 hb K4
      have c0 := blk_cell K5.out.2.2.2.2.1 0 rfl
      have c1' := blk_cell K5.out.2.2.2.2.1 1 rfl
      have c2' := blk_cell K5.out.2.2.2.2.1 2 rfl
      have c3' := blk_cell K5.out.2.2.2.2.1 3 rfl
      have c4 := blk_cell K5.out.2.2.2.2.1 4 rfl
      have c5 := blk_cell K5.out.2.2.2.2.1 5 rfl
      have c6 := blk_cell K5.out.2.2.2.2.1 6 rfl
      have c7 := blk_cell K5.out.2.2.2.2.1 7 rfl
      have c8 := blk_cell K5.out.2.2.2.2.1 8 rfl
      go_wp2_with (fail)
      clear c0 c1' c2' c3' c4 c5 c6 c7 c8
      refine (HC6.out U5 K5.out.2.2.2.1).mono ?_
      rintro e U6 ⟨ma, mcap, rfl, h1, hb⟩
      have K6 : Hid (LO w U6 r ∧ Sl 3 Lp.cells U6 a1 xs ∧ IntSl U6 a2 c ∧ Sl 3 Lp.cells U6 a3 xs ∧ U6.heap[A]? = some (.cells #[.int .i64 r.laps, .int .i64 r.len.lo, .int .i64 r.len.hi, .int .i64 r.climb.lo, .int .i64 r.climb.hi, .int .i64 r.lap.lo, .int .i64 r.lap.hi, .int .i64 r.wide, .int .i64 r.uses] 36 (0, 0)) ∧ SlsAt U6 la L ∧ SlsAt U6 ma L) := ⟨K5.out.1.below hb, K5.out.2.1.below hb, K5.out.2.2.1.below hb, K5.out.2.2.2.1.below hb, blk_below K5.out.2.2.2.2.1 hb, K5.out.2.2.2.2.2.below hb, h1⟩
      clear h1 hb K5
      go_wp2_with (fail)
      refine (equalAll_any la L lcap ma L mcap U6 K6.out.2.2.2.2.2.1 K6.out.2.2.2.2.2.2 HBR.out.1 HBR.out.2.1).mono ?_
      rintro e U7 ⟨rfl, hb⟩
      have K7 : Hid (LO w U7 r ∧ Sl 3 Lp.cells U7 a1 xs ∧ IntSl U7 a2 c ∧ Sl 3 Lp.cells U7 a3 xs ∧ U7.heap[A]? = some (.cells #[.int .i64 r.laps, .int .i64 r.len.lo, .int .i64 r.len.hi, .int .i64 r.climb.lo, .int .i64 r.climb.hi, .int .i64 r.lap.lo, .int .i64 r.lap.hi, .int .i64 r.wide, .int .i64 r.uses] 36 (0, 0)) ∧ SlsAt U7 la L ∧ SlsAt U7 ma L) := ⟨K6.out.1.below hb, K6.out.2.1.below hb, K6.out.2.2.1.below hb, K6.out.2.2.2.1.below hb, blk_below K6.out.2.2.2.2.1 hb, K6.out.2.2.2.2.2.1.below hb, K6.out.2.2.2.2.2.2.below hb⟩
      clear hb K6
      rw [show decide (L = L) = true from decide_eq_true rfl]
      have c0 := blk_cell K7.out.1.p 0 rfl
      have c1' := blk_cell K7.out.1.p 1 rfl
      have c2' := blk_cell K7.out.1.p 2 rfl
      have c3' := blk_cell K7.out.1.p 3 rfl
      have c4 := blk_cell K7.out.1.p 4 rfl
      have c5 := blk_cell K7.out.1.p 5 rfl
      have c6 := blk_cell K7.out.1.p 6 rfl
      have c7 := blk_cell K7.out.1.p 7 rfl
      have c8 := blk_cell K7.out.1.p 8 rfl
      go_wp2_with (fail)
      clear c0 c1' c2' c3' c4 c5 c6 c7 c8
      refine (HC7.out U7 K7.out.2.1).mono ?_
      rintro e U8 ⟨pa, pcap, rfl, h1, hb⟩
      have K8 : Hid (LO w U8 r ∧ Sl 3 Lp.cells U8 a1 xs ∧ IntSl U8 a2 c ∧ Sl 3 Lp.cells U8 a3 xs ∧ U8.heap[A]? = some (.cells #[.int .i64 r.laps, .int .i64 r.len.lo, .int .i64 r.len.hi, .int .i64 r.climb.lo, .int .i64 r.climb.hi, .int .i64 r.lap.lo, .int .i64 r.lap.hi, .int .i64 r.wide, .int .i64 r.uses] 36 (0, 0)) ∧ SlsAt U8 la L ∧ SlsAt U8 ma L ∧ IntSl U8 pa CR) := ⟨K7.out.1.below hb, K7.out.2.1.below hb, K7.out.2.2.1.below hb, K7.out.2.2.2.1.below hb, blk_below K7.out.2.2.2.2.1 hb, K7.out.2.2.2.2.2.1.below hb, K7.out.2.2.2.2.2.2.below hb, h1⟩
      clear h1 hb K7
      have c0 := blk_cell K8.out.2.2.2.2.1 0 rfl
      have c1' := blk_cell K8.out.2.2.2.2.1 1 rfl
      have c2' := blk_cell K8.out.2.2.2.2.1 2 rfl
      have c3' := blk_cell K8.out.2.2.2.2.1 3 rfl
      have c4 := blk_cell K8.out.2.2.2.2.1 4 rfl
      have c5 := blk_cell K8.out.2.2.2.2.1 5 rfl
      have c6 := blk_cell K8.out.2.2.2.2.1 6 rfl
      have c7 := blk_cell K8.out.2.2.2.2.1 7 rfl
      have c8 := blk_cell K8.out.2.2.2.2.1 8 rfl
      go_wp2_with (fail)
      clear c0 c1' c2' c3' c4 c5 c6 c7 c8
      refine (HC8.out U8 K8.out.2.2.2.1).mono ?_
      rintro e U9 ⟨qa, qcap, rfl, h1, hb⟩
      have K9 : Hid (LO w U9 r ∧ Sl 3 Lp.cells U9 a1 xs ∧ IntSl U9 a2 c ∧ Sl 3 Lp.cells U9 a3 xs ∧ U9.heap[A]? = some (.cells #[.int .i64 r.laps, .int .i64 r.len.lo, .int .i64 r.len.hi, .int .i64 r.climb.lo, .int .i64 r.climb.hi, .int .i64 r.lap.lo, .int .i64 r.lap.hi, .int .i64 r.wide, .int .i64 r.uses] 36 (0, 0)) ∧ SlsAt U9 la L ∧ SlsAt U9 ma L ∧ IntSl U9 pa CR ∧ IntSl U9 qa CR) := ⟨K8.out.1.below hb, K8.out.2.1.below hb, K8.out.2.2.1.below hb, K8.out.2.2.2.1.below hb, blk_below K8.out.2.2.2.2.1 hb, K8.out.2.2.2.2.2.1.below hb, K8.out.2.2.2.2.2.2.1.below hb, K8.out.2.2.2.2.2.2.2.below hb, h1⟩
      clear h1 hb K8
      go_wp2_with (fail)
      refine (equal_int pa CR pcap qa CR qcap U9 K9.out.2.2.2.2.2.2.2.1 K9.out.2.2.2.2.2.2.2.2 HBR.out.2.2).mono ?_
      rintro e U10 ⟨rfl, hb⟩
      have K10 : Hid (LO w U10 r ∧ Sl 3 Lp.cells U10 a1 xs ∧ IntSl U10 a2 c ∧ Sl 3 Lp.cells U10 a3 xs ∧ U10.heap[A]? = some (.cells #[.int .i64 r.laps, .int .i64 r.len.lo, .int .i64 r.len.hi, .int .i64 r.climb.lo, .int .i64 r.climb.hi, .int .i64 r.lap.lo, .int .i64 r.lap.hi, .int .i64 r.wide, .int .i64 r.uses] 36 (0, 0)) ∧ SlsAt U10 la L ∧ SlsAt U10 ma L ∧ IntSl U10 pa CR ∧ IntSl U10 qa CR) := ⟨K9.out.1.below hb, K9.out.2.1.below hb, K9.out.2.2.1.below hb, K9.out.2.2.2.1.below hb, blk_below K9.out.2.2.2.2.1 hb, K9.out.2.2.2.2.2.1.below hb, K9.out.2.2.2.2.2.2.1.below hb, K9.out.2.2.2.2.2.2.2.1.below hb, K9.out.2.2.2.2.2.2.2.2.below hb⟩
      clear hb K9
      go_wp2_with (fail)
      refine (equalLp_same a1 xs c1 a cap U10 K10.out.2.1 (HX.out.1.below K10.out.1.b) (by have := HL.out.1; omega)).mono ?_
      rintro e U11 ⟨rfl, hb⟩
      have K11 : Hid (LO w U11 r ∧ Sl 3 Lp.cells U11 a1 xs ∧ IntSl U11 a2 c ∧ Sl 3 Lp.cells U11 a3 xs ∧ U11.heap[A]? = some (.cells #[.int .i64 r.laps, .int .i64 r.len.lo, .int .i64 r.len.hi, .int .i64 r.climb.lo, .int .i64 r.climb.hi, .int .i64 r.lap.lo, .int .i64 r.lap.hi, .int .i64 r.wide, .int .i64 r.uses] 36 (0, 0)) ∧ SlsAt U11 la L ∧ SlsAt U11 ma L ∧ IntSl U11 pa CR ∧ IntSl U11 qa CR) := ⟨K10.out.1.below hb, K10.out.2.1.below hb, K10.out.2.2.1.below hb, K10.out.2.2.2.1.below hb, blk_below K10.out.2.2.2.2.1 hb, K10.out.2.2.2.2.2.1.below hb, K10.out.2.2.2.2.2.2.1.below hb, K10.out.2.2.2.2.2.2.2.1.below hb, K10.out.2.2.2.2.2.2.2.2.below hb⟩
      clear hb K10
      go_wp2_with (fail)
      refine (equal_int a2 c c2 ac c ccap U11 K11.out.2.2.1 (HX.out.2.1.below K11.out.1.b) (by have := HL.out.2; omega)).mono ?_
      rintro e U12 ⟨rfl, hb⟩
      have K12 : Hid (LO w U12 r ∧ Sl 3 Lp.cells U12 a1 xs ∧ IntSl U12 a2 c ∧ Sl 3 Lp.cells U12 a3 xs ∧ U12.heap[A]? = some (.cells #[.int .i64 r.laps, .int .i64 r.len.lo, .int .i64 r.len.hi, .int .i64 r.climb.lo, .int .i64 r.climb.hi, .int .i64 r.lap.lo, .int .i64 r.lap.hi, .int .i64 r.wide, .int .i64 r.uses] 36 (0, 0)) ∧ SlsAt U12 la L ∧ SlsAt U12 ma L ∧ IntSl U12 pa CR ∧ IntSl U12 qa CR) := ⟨K11.out.1.below hb, K11.out.2.1.below hb, K11.out.2.2.1.below hb, K11.out.2.2.2.1.below hb, blk_below K11.out.2.2.2.2.1 hb, K11.out.2.2.2.2.2.1.below hb, K11.out.2.2.2.2.2.2.1.below hb, K11.out.2.2.2.2.2.2.2.1.below hb, K11.out.2.2.2.2.2.2.2.2.below hb⟩
      clear hb K11
      go_wp2_with (fail)
      refine (awake_any U12).mono ?_
      rintro e U13 ⟨rfl, hb⟩
      have HF := Lib.hid (below_self K12.out.1.b hb)
      clear hb K12
      go_wp2_with (fail)
      go_ret
      exact ⟨rfl, HF.out⟩
    simp only [Act.put, List.setIfInBounds_toArray, List.set_cons_zero, List.set_cons_succ] at J31
    refine with_joinL (fun G lz az => ∀ (Wz : World) (a1 : Option Addr) (c1 : Nat) (a2 : Option Addr) (c2 : Nat) (a3 : Option Addr) (c3 : Nat), Hid (LO w Wz r ∧ Sl 3 Lp.cells Wz a1 xs ∧ IntSl Wz a2 c ∧ Sl 3 Lp.cells Wz a3 xs) → G 4 (((lz.setIfInBounds 1 true).setIfInBounds 3 true).setIfInBounds 5 true) (((az.put (some 35) (.slice a1 xs.length c1)).put (some 37) (.slice a2 c.length c2)).put (some 39) (.slice a3 xs.length c3)) Wz) ?_ (fun J30 => ?_)
    · intro Wz a1 c1 a2 c2 a3 c3 Hz
      simp only [Act.put, List.setIfInBounds_toArray, List.set_cons_zero, List.set_cons_succ]
      refine wpAnyH_ready (rs := [7]) (by kernel_rfl) (by simp) ?_
      refine AllReadyH.cons (o := _) rfl (fun K hK => ?_) AllReadyH.nil
      go_simp
      have hb : Below Wz.heap.size Wz (Wz.alloc (.cells #[.int .i64 0, .int .i64 0, .int .i64 0, .int .i64 0, .int .i64 0, .int .i64 0, .int .i64 0, .int .i64 0, .int .i64 0] 36)) := (Below.refl _ _).alloc (Nat.le_refl _) _
      have H1 : Hid (LO w (Wz.alloc (.cells #[.int .i64 0, .int .i64 0, .int .i64 0, .int .i64 0, .int .i64 0, .int .i64 0, .int .i64 0, .int .i64 0, .int .i64 0] 36)) r ∧ Sl 3 Lp.cells (Wz.alloc (.cells #[.int .i64 0, .int .i64 0, .int .i64 0, .int .i64 0, .int .i64 0, .int .i64 0, .int .i64 0, .int .i64 0, .int .i64 0] 36)) a1 xs ∧ IntSl (Wz.alloc (.cells #[.int .i64 0, .int .i64 0, .int .i64 0, .int .i64 0, .int .i64 0, .int .i64 0, .int .i64 0, .int .i64 0, .int .i64 0] 36)) a2 c ∧ Sl 3 Lp.cells (Wz.alloc (.cells #[.int .i64 0, .int .i64 0, .int .i64 0, .int .i64 0, .int .i64 0, .int .i64 0, .int .i64 0, .int .i64 0, .int .i64 0] 36)) a3 xs ∧ (Wz.alloc (.cells #[.int .i64 0, .int .i64 0, .int .i64 0, .int .i64 0, .int .i64 0, .int .i64 0, .int .i64 0, .int .i64 0, .int .i64 0] 36)).heap[Wz.heap.size]? = some (.cells #[.int .i64 0, .int .i64 0, .int .i64 0, .int .i64 0, .int .i64 0, .int .i64 0, .int .i64 0, .int .i64 0, .int .i64 0] 36 (0, 0)) ∧ w.heap.size < Wz.heap.size ∧ (0 < xs.length → ∀ p, a1 = some p → p.block ≠ Wz.heap.size) ∧ (0 < c.length → ∀ p, a2 = some p → p.block ≠ Wz.heap.size) ∧ (0 < xs.length → ∀ p, a3 = some p → p.block ≠ Wz.heap.size)) := ⟨Hz.out.1.below hb, Hz.out.2.1.below hb, Hz.out.2.2.1.below hb, Hz.out.2.2.2.below hb, heap_alloc_new _ _, lt_of_block Hz.out.1.p, (fun h0 p hp => Nat.ne_of_lt (sl_lt Hz.out.2.1 h0 p hp)), (fun h0 p hp => Nat.ne_of_lt (ints_lt Hz.out.2.2.1 h0 p hp)), (fun h0 p hp => Nat.ne_of_lt (sl_lt Hz.out.2.2.2 h0 p hp))⟩
      clear hb
      refine hK.out _ _ ⟨blk_cell H1.out.1.p 0 rfl, blk_cell H1.out.1.p 1 rfl, blk_cell H1.out.1.p 2 rfl, blk_cell H1.out.1.p 3 rfl, blk_cell H1.out.1.p 4 rfl, blk_cell H1.out.1.p 5 rfl, blk_cell H1.out.1.p 6 rfl, blk_cell H1.out.1.p 7 rfl, blk_cell H1.out.1.p 8 rfl⟩ (fun _ => ?_)
      clear hK
      simp only [List.setIfInBounds_toArray, List.set_cons_zero, List.set_cons_succ]
      exact J31 _ a1 c1 a2 c2 a3 c3 _ H1
    simp only [Act.put, List.setIfInBounds_toArray, List.set_cons_zero, List.set_cons_succ] at J30
    refine with_joinL (fun G lz az => ∀ (Wz : World) (a1 : Option Addr) (c1 : Nat) (a2 : Option Addr) (c2 : Nat) (A : Nat), Hid (LO w Wz r ∧ Sl 3 Lp.cells Wz a1 xs ∧ IntSl Wz a2 c ∧ Wz.heap[A]? = some (.cells #[.int .i64 0, .int .i64 0, .int .i64 0, .int .i64 0, .int .i64 0, .int .i64 0, .int .i64 0, .int .i64 0, .int .i64 0] 36 (0, 0)) ∧ w.heap.size < A ∧ (0 < xs.length → ∀ p, a1 = some p → p.block ≠ A) ∧ (0 < c.length → ∀ p, a2 = some p → p.block ≠ A)) → G 4 (((lz.setIfInBounds 1 true).setIfInBounds 3 true).setIfInBounds 7 true) (((az.put (some 35) (.slice a1 xs.length c1)).put (some 37) (.slice a2 c.length c2)).put (some 14) (.pointer (some ⟨A, 0, none⟩))) Wz) ?_ (fun J21 => ?_)
    · intro Wz a1 c1 a2 c2 A Hz
      simp only [Act.put, List.setIfInBounds_toArray, List.set_cons_zero, List.set_cons_succ]
      refine wpAnyH_ready (rs := [5]) (by kernel_rfl) (by simp) ?_
      refine AllReadyH.cons (o := _) rfl (fun K hK => ?_) AllReadyH.nil
      go_simp
      go_at_call 13
      refine (loops_any a xs cap Wz (HX.out.1.below Hz.out.1.b) HL.out.1).mono ?_
      rintro e W2 ⟨a3, c3, rfl, hs, hf, hb⟩
      have H2 : Hid (LO w W2 r ∧ Sl 3 Lp.cells W2 a1 xs ∧ IntSl W2 a2 c ∧ Sl 3 Lp.cells W2 a3 xs ∧ W2.heap[A]? = some (.cells #[.int .i64 0, .int .i64 0, .int .i64 0, .int .i64 0, .int .i64 0, .int .i64 0, .int .i64 0, .int .i64 0, .int .i64 0] 36 (0, 0)) ∧ w.heap.size < A ∧ (0 < xs.length → ∀ p, a1 = some p → p.block ≠ A) ∧ (0 < c.length → ∀ p, a2 = some p → p.block ≠ A) ∧ (0 < xs.length → ∀ p, a3 = some p → p.block ≠ A)) := ⟨Hz.out.1.below hb, Hz.out.2.1.below hb, Hz.out.2.2.1.below hb, hs, blk_below Hz.out.2.2.2.1 hb, Hz.out.2.2.2.2.1, Hz.out.2.2.2.2.2.1, Hz.out.2.2.2.2.2.2, (fun _ p hp => by have h1 := hf p hp; have h2 := lt_of_block Hz.out.2.2.2.1; omega)⟩
      clear hs hf hb
      refine hK.out _ _ ⟨blk_cell H2.out.1.p 0 rfl, blk_cell H2.out.1.p 1 rfl, blk_cell H2.out.1.p 2 rfl, blk_cell H2.out.1.p 3 rfl, blk_cell H2.out.1.p 4 rfl, blk_cell H2.out.1.p 5 rfl, blk_cell H2.out.1.p 6 rfl, blk_cell H2.out.1.p 7 rfl, blk_cell H2.out.1.p 8 rfl⟩ (fun _ => ?_)
      clear hK
      simp only [List.setIfInBounds_toArray, List.set_cons_zero, List.set_cons_succ]
      exact J31 _ a1 c1 a2 c2 a3 c3 A H2
    simp only [Act.put, List.setIfInBounds_toArray, List.set_cons_zero, List.set_cons_succ] at J21
    refine with_joinL (fun G lz az => ∀ (Wz : World) (a1 : Option Addr) (c1 : Nat) (a2 : Option Addr) (c2 : Nat), Hid (LO w Wz r ∧ Sl 3 Lp.cells Wz a1 xs ∧ IntSl Wz a2 c) → G 5 ((lz.setIfInBounds 1 true).setIfInBounds 3 true) ((az.put (some 35) (.slice a1 xs.length c1)).put (some 37) (.slice a2 c.length c2)) Wz) ?_ (fun J20 => ?_)
    · intro Wz a1 c1 a2 c2 Hz
      simp only [Act.put, List.setIfInBounds_toArray, List.set_cons_zero, List.set_cons_succ]
      refine wpAnyH_ready (rs := [5, 7]) (by kernel_rfl) (by simp) ?_
      refine AllReadyH.cons (o := _) rfl (fun K hK => ?_) ?_
      · go_simp
        go_at_call 13
        refine (loops_any a xs cap Wz (HX.out.1.below Hz.out.1.b) HL.out.1).mono ?_
        rintro e W3 ⟨a3, c3, rfl, hs, hf, hb⟩
        have H3 : Hid (LO w W3 r ∧ Sl 3 Lp.cells W3 a1 xs ∧ IntSl W3 a2 c ∧ Sl 3 Lp.cells W3 a3 xs) := ⟨Hz.out.1.below hb, Hz.out.2.1.below hb, Hz.out.2.2.below hb, hs⟩
        clear hs hf hb
        refine hK.out _ _ ⟨blk_cell H3.out.1.p 0 rfl, blk_cell H3.out.1.p 1 rfl, blk_cell H3.out.1.p 2 rfl, blk_cell H3.out.1.p 3 rfl, blk_cell H3.out.1.p 4 rfl, blk_cell H3.out.1.p 5 rfl, blk_cell H3.out.1.p 6 rfl, blk_cell H3.out.1.p 7 rfl, blk_cell H3.out.1.p 8 rfl⟩ (fun _ => ?_)
        clear hK
        simp only [List.setIfInBounds_toArray, List.set_cons_zero, List.set_cons_succ]
        exact J30 _ a1 c1 a2 c2 a3 c3 H3
      refine AllReadyH.cons (o := _) rfl (fun K hK => ?_) AllReadyH.nil
      go_simp
      have hb : Below Wz.heap.size Wz (Wz.alloc (.cells #[.int .i64 0, .int .i64 0, .int .i64 0, .int .i64 0, .int .i64 0, .int .i64 0, .int .i64 0, .int .i64 0, .int .i64 0] 36)) := (Below.refl _ _).alloc (Nat.le_refl _) _
      have H4 : Hid (LO w (Wz.alloc (.cells #[.int .i64 0, .int .i64 0, .int .i64 0, .int .i64 0, .int .i64 0, .int .i64 0, .int .i64 0, .int .i64 0, .int .i64 0] 36)) r ∧ Sl 3 Lp.cells (Wz.alloc (.cells #[.int .i64 0, .int .i64 0, .int .i64 0, .int .i64 0, .int .i64 0, .int .i64 0, .int .i64 0, .int .i64 0, .int .i64 0] 36)) a1 xs ∧ IntSl (Wz.alloc (.cells #[.int .i64 0, .int .i64 0, .int .i64 0, .int .i64 0, .int .i64 0, .int .i64 0, .int .i64 0, .int .i64 0, .int .i64 0] 36)) a2 c ∧ (Wz.alloc (.cells #[.int .i64 0, .int .i64 0, .int .i64 0, .int .i64 0, .int .i64 0, .int .i64 0, .int .i64 0, .int .i64 0, .int .i64 0] 36)).heap[Wz.heap.size]? = some (.cells #[.int .i64 0, .int .i64 0, .int .i64 0, .int .i64 0, .int .i64 0, .int .i64 0, .int .i64 0, .int .i64 0, .int .i64 0] 36 (0, 0)) ∧ w.heap.size < Wz.heap.size ∧ (0 < xs.length → ∀ p, a1 = some p → p.block ≠ Wz.heap.size) ∧ (0 < c.length → ∀ p, a2 = some p → p.block ≠ Wz.heap.size)) := ⟨Hz.out.1.below hb, Hz.out.2.1.below hb, Hz.out.2.2.below hb, heap_alloc_new _ _, lt_of_block Hz.out.1.p, (fun h0 p hp => Nat.ne_of_lt (sl_lt Hz.out.2.1 h0 p hp)), (fun h0 p hp => Nat.ne_of_lt (ints_lt Hz.out.2.2 h0 p hp))⟩
      clear hb
      refine hK.out _ _ ⟨blk_cell H4.out.1.p 0 rfl, blk_cell H4.out.1.p 1 rfl, blk_cell H4.out.1.p 2 rfl, blk_cell H4.out.1.p 3 rfl, blk_cell H4.out.1.p 4 rfl, blk_cell H4.out.1.p 5 rfl, blk_cell H4.out.1.p 6 rfl, blk_cell H4.out.1.p 7 rfl, blk_cell H4.out.1.p 8 rfl⟩ (fun _ => ?_)
      clear hK
      simp only [List.setIfInBounds_toArray, List.set_cons_zero, List.set_cons_succ]
      exact J21 _ a1 c1 a2 c2 _ H4
    simp only [Act.put, List.setIfInBounds_toArray, List.set_cons_zero, List.set_cons_succ] at J20
    refine with_joinL (fun G lz az => ∀ (Wz : World) (a1 : Option Addr) (c1 : Nat) (A : Nat), Hid (LO w Wz r ∧ Sl 3 Lp.cells Wz a1 xs ∧ Wz.heap[A]? = some (.cells #[.int .i64 0, .int .i64 0, .int .i64 0, .int .i64 0, .int .i64 0, .int .i64 0, .int .i64 0, .int .i64 0, .int .i64 0] 36 (0, 0)) ∧ w.heap.size < A ∧ (0 < xs.length → ∀ p, a1 = some p → p.block ≠ A)) → G 5 ((lz.setIfInBounds 1 true).setIfInBounds 7 true) ((az.put (some 35) (.slice a1 xs.length c1)).put (some 14) (.pointer (some ⟨A, 0, none⟩))) Wz) ?_ (fun J11 => ?_)
    · intro Wz a1 c1 A Hz
      simp only [Act.put, List.setIfInBounds_toArray, List.set_cons_zero, List.set_cons_succ]
      refine wpAnyH_ready (rs := [3]) (by kernel_rfl) (by simp) ?_
      refine AllReadyH.cons (o := _) rfl (fun K hK => ?_) AllReadyH.nil
      go_simp
      go_at_call 12
      refine (cloneInt_any ac c ccap Wz (HX.out.2.1.below Hz.out.1.b) HX.out.2.2.2 HL.out.2).mono ?_
      rintro e W5 ⟨a2, c2, rfl, hs, hf, hb⟩
      have H5 : Hid (LO w W5 r ∧ Sl 3 Lp.cells W5 a1 xs ∧ IntSl W5 a2 c ∧ W5.heap[A]? = some (.cells #[.int .i64 0, .int .i64 0, .int .i64 0, .int .i64 0, .int .i64 0, .int .i64 0, .int .i64 0, .int .i64 0, .int .i64 0] 36 (0, 0)) ∧ w.heap.size < A ∧ (0 < xs.length → ∀ p, a1 = some p → p.block ≠ A) ∧ (0 < c.length → ∀ p, a2 = some p → p.block ≠ A)) := ⟨Hz.out.1.below hb, Hz.out.2.1.below hb, hs, blk_below Hz.out.2.2.1 hb, Hz.out.2.2.2.1, Hz.out.2.2.2.2, (fun _ p hp => by have h1 := hf p hp; have h2 := lt_of_block Hz.out.2.2.1; omega)⟩
      clear hs hf hb
      refine hK.out _ _ ⟨blk_cell H5.out.1.p 0 rfl, blk_cell H5.out.1.p 1 rfl, blk_cell H5.out.1.p 2 rfl, blk_cell H5.out.1.p 3 rfl, blk_cell H5.out.1.p 4 rfl, blk_cell H5.out.1.p 5 rfl, blk_cell H5.out.1.p 6 rfl, blk_cell H5.out.1.p 7 rfl, blk_cell H5.out.1.p 8 rfl⟩ (fun _ => ?_)
      clear hK
      simp only [List.setIfInBounds_toArray, List.set_cons_zero, List.set_cons_succ]
      exact J21 _ a1 c1 a2 c2 A H5
    simp only [Act.put, List.setIfInBounds_toArray, List.set_cons_zero, List.set_cons_succ] at J11
    refine with_joinL (fun G lz az => ∀ (Wz : World) (a1 : Option Addr) (c1 : Nat), Hid (LO w Wz r ∧ Sl 3 Lp.cells Wz a1 xs) → G 6 (lz.setIfInBounds 1 true) (az.put (some 35) (.slice a1 xs.length c1)) Wz) ?_ (fun J10 => ?_)
    · intro Wz a1 c1 Hz
      simp only [Act.put, List.setIfInBounds_toArray, List.set_cons_zero, List.set_cons_succ]
      refine wpAnyH_ready (rs := [3, 7]) (by kernel_rfl) (by simp) ?_
      refine AllReadyH.cons (o := _) rfl (fun K hK => ?_) ?_
      · go_simp
        go_at_call 12
        refine (cloneInt_any ac c ccap Wz (HX.out.2.1.below Hz.out.1.b) HX.out.2.2.2 HL.out.2).mono ?_
        rintro e W6 ⟨a2, c2, rfl, hs, hf, hb⟩
        have H6 : Hid (LO w W6 r ∧ Sl 3 Lp.cells W6 a1 xs ∧ IntSl W6 a2 c) := ⟨Hz.out.1.below hb, Hz.out.2.below hb, hs⟩
        clear hs hf hb
        refine hK.out _ _ ⟨blk_cell H6.out.1.p 0 rfl, blk_cell H6.out.1.p 1 rfl, blk_cell H6.out.1.p 2 rfl, blk_cell H6.out.1.p 3 rfl, blk_cell H6.out.1.p 4 rfl, blk_cell H6.out.1.p 5 rfl, blk_cell H6.out.1.p 6 rfl, blk_cell H6.out.1.p 7 rfl, blk_cell H6.out.1.p 8 rfl⟩ (fun _ => ?_)
        clear hK
        simp only [List.setIfInBounds_toArray, List.set_cons_zero, List.set_cons_succ]
        exact J20 _ a1 c1 a2 c2 H6
      refine AllReadyH.cons (o := _) rfl (fun K hK => ?_) AllReadyH.nil
      go_simp
      have hb : Below Wz.heap.size Wz (Wz.alloc (.cells #[.int .i64 0, .int .i64 0, .int .i64 0, .int .i64 0, .int .i64 0, .int .i64 0, .int .i64 0, .int .i64 0, .int .i64 0] 36)) := (Below.refl _ _).alloc (Nat.le_refl _) _
      have H7 : Hid (LO w (Wz.alloc (.cells #[.int .i64 0, .int .i64 0, .int .i64 0, .int .i64 0, .int .i64 0, .int .i64 0, .int .i64 0, .int .i64 0, .int .i64 0] 36)) r ∧ Sl 3 Lp.cells (Wz.alloc (.cells #[.int .i64 0, .int .i64 0, .int .i64 0, .int .i64 0, .int .i64 0, .int .i64 0, .int .i64 0, .int .i64 0, .int .i64 0] 36)) a1 xs ∧ (Wz.alloc (.cells #[.int .i64 0, .int .i64 0, .int .i64 0, .int .i64 0, .int .i64 0, .int .i64 0, .int .i64 0, .int .i64 0, .int .i64 0] 36)).heap[Wz.heap.size]? = some (.cells #[.int .i64 0, .int .i64 0, .int .i64 0, .int .i64 0, .int .i64 0, .int .i64 0, .int .i64 0, .int .i64 0, .int .i64 0] 36 (0, 0)) ∧ w.heap.size < Wz.heap.size ∧ (0 < xs.length → ∀ p, a1 = some p → p.block ≠ Wz.heap.size)) := ⟨Hz.out.1.below hb, Hz.out.2.below hb, heap_alloc_new _ _, lt_of_block Hz.out.1.p, (fun h0 p hp => Nat.ne_of_lt (sl_lt Hz.out.2 h0 p hp))⟩
      clear hb
      refine hK.out _ _ ⟨blk_cell H7.out.1.p 0 rfl, blk_cell H7.out.1.p 1 rfl, blk_cell H7.out.1.p 2 rfl, blk_cell H7.out.1.p 3 rfl, blk_cell H7.out.1.p 4 rfl, blk_cell H7.out.1.p 5 rfl, blk_cell H7.out.1.p 6 rfl, blk_cell H7.out.1.p 7 rfl, blk_cell H7.out.1.p 8 rfl⟩ (fun _ => ?_)
      clear hK
      simp only [List.setIfInBounds_toArray, List.set_cons_zero, List.set_cons_succ]
      exact J11 _ a1 c1 _ H7
    simp only [Act.put, List.setIfInBounds_toArray, List.set_cons_zero, List.set_cons_succ] at J10
    refine with_joinL (fun G lz az => ∀ (Wz : World) (A : Nat), Hid (LO w Wz r ∧ Wz.heap[A]? = some (.cells #[.int .i64 0, .int .i64 0, .int .i64 0, .int .i64 0, .int .i64 0, .int .i64 0, .int .i64 0, .int .i64 0, .int .i64 0] 36 (0, 0)) ∧ w.heap.size < A) → G 6 (lz.setIfInBounds 7 true) (az.put (some 14) (.pointer (some ⟨A, 0, none⟩))) Wz) ?_ (fun J01 => ?_)
    · intro Wz A Hz
      simp only [Act.put, List.setIfInBounds_toArray, List.set_cons_zero, List.set_cons_succ]
      refine wpAnyH_ready (rs := [1]) (by kernel_rfl) (by simp) ?_
      refine AllReadyH.cons (o := _) rfl (fun K hK => ?_) AllReadyH.nil
      go_simp
      go_at_call 11
      refine (cloneLp_any a xs cap Wz (HX.out.1.below Hz.out.1.b) HX.out.2.2.1 HL.out.1).mono ?_
      rintro e W8 ⟨a1, c1, rfl, hs, hf, hb⟩
      have H8 : Hid (LO w W8 r ∧ Sl 3 Lp.cells W8 a1 xs ∧ W8.heap[A]? = some (.cells #[.int .i64 0, .int .i64 0, .int .i64 0, .int .i64 0, .int .i64 0, .int .i64 0, .int .i64 0, .int .i64 0, .int .i64 0] 36 (0, 0)) ∧ w.heap.size < A ∧ (0 < xs.length → ∀ p, a1 = some p → p.block ≠ A)) := ⟨Hz.out.1.below hb, hs, blk_below Hz.out.2.1 hb, Hz.out.2.2, (fun _ p hp => by have h1 := hf p hp; have h2 := lt_of_block Hz.out.2.1; omega)⟩
      clear hs hf hb
      refine hK.out _ _ ⟨blk_cell H8.out.1.p 0 rfl, blk_cell H8.out.1.p 1 rfl, blk_cell H8.out.1.p 2 rfl, blk_cell H8.out.1.p 3 rfl, blk_cell H8.out.1.p 4 rfl, blk_cell H8.out.1.p 5 rfl, blk_cell H8.out.1.p 6 rfl, blk_cell H8.out.1.p 7 rfl, blk_cell H8.out.1.p 8 rfl⟩ (fun _ => ?_)
      clear hK
      simp only [List.setIfInBounds_toArray, List.set_cons_zero, List.set_cons_succ]
      exact J11 _ a1 c1 A H8
    simp only [Act.put, List.setIfInBounds_toArray, List.set_cons_zero, List.set_cons_succ] at J01
    refine wpAnyH_ready (rs := [1, 7]) (by kernel_rfl) (by simp) ?_
    refine AllReadyH.cons (o := _) rfl (fun K hK => ?_) ?_
    · go_simp
      go_at_call 11
      refine (cloneLp_any a xs cap W0 (HX.out.1.below H0.out.b) HX.out.2.2.1 HL.out.1).mono ?_
      rintro e W9 ⟨a1, c1, rfl, hs, hf, hb⟩
      have H9 : Hid (LO w W9 r ∧ Sl 3 Lp.cells W9 a1 xs) := ⟨H0.out.below hb, hs⟩
      clear hs hf hb
      refine hK.out _ _ ⟨blk_cell H9.out.1.p 0 rfl, blk_cell H9.out.1.p 1 rfl, blk_cell H9.out.1.p 2 rfl, blk_cell H9.out.1.p 3 rfl, blk_cell H9.out.1.p 4 rfl, blk_cell H9.out.1.p 5 rfl, blk_cell H9.out.1.p 6 rfl, blk_cell H9.out.1.p 7 rfl, blk_cell H9.out.1.p 8 rfl⟩ (fun _ => ?_)
      clear hK
      simp only [List.setIfInBounds_toArray, List.set_cons_zero, List.set_cons_succ]
      exact J10 _ a1 c1 H9
    refine AllReadyH.cons (o := _) rfl (fun K hK => ?_) AllReadyH.nil
    go_simp
    have hb : Below W0.heap.size W0 (W0.alloc (.cells #[.int .i64 0, .int .i64 0, .int .i64 0, .int .i64 0, .int .i64 0, .int .i64 0, .int .i64 0, .int .i64 0, .int .i64 0] 36)) := (Below.refl _ _).alloc (Nat.le_refl _) _
    have H10 : Hid (LO w (W0.alloc (.cells #[.int .i64 0, .int .i64 0, .int .i64 0, .int .i64 0, .int .i64 0, .int .i64 0, .int .i64 0, .int .i64 0, .int .i64 0] 36)) r ∧ (W0.alloc (.cells #[.int .i64 0, .int .i64 0, .int .i64 0, .int .i64 0, .int .i64 0, .int .i64 0, .int .i64 0, .int .i64 0, .int .i64 0] 36)).heap[W0.heap.size]? = some (.cells #[.int .i64 0, .int .i64 0, .int .i64 0, .int .i64 0, .int .i64 0, .int .i64 0, .int .i64 0, .int .i64 0, .int .i64 0] 36 (0, 0)) ∧ w.heap.size < W0.heap.size) := ⟨H0.out.below hb, heap_alloc_new _ _, lt_of_block H0.out.p⟩
    clear hb
    refine hK.out _ _ ⟨blk_cell H10.out.1.p 0 rfl, blk_cell H10.out.1.p 1 rfl, blk_cell H10.out.1.p 2 rfl, blk_cell H10.out.1.p 3 rfl, blk_cell H10.out.1.p 4 rfl, blk_cell H10.out.1.p 5 rfl, blk_cell H10.out.1.p 6 rfl, blk_cell H10.out.1.p 7 rfl, blk_cell H10.out.1.p 8 rfl⟩ (fun _ => ?_)
    clear hK
    simp only [List.setIfInBounds_toArray, List.set_cons_zero, List.set_cons_succ]
    exact J01 _ _ H10
  · clear hn
    have HB := Lib.hid HO.out.b
    cases bb
    · have h10 : 10 < c.length := by
        rcases Nat.lt_or_ge 10 c.length with h | h
        · exact h
        · exact absurd ⟨rfl, h⟩ hgo
      clear hgo
      go_wp2_with (first | (go_at_call 10; refine (awake_any _).mono ?_; rintro e v7 ⟨rfl, hb⟩; have HM2 := Lib.hid (below_self HB.out hb); clear hb))
      go_ret
      exact ⟨rfl, HM2.out⟩
    · clear hgo
      go_wp2_with (first | (go_at_call 10; refine (awake_any _).mono ?_; rintro e v7 ⟨rfl, hb⟩; have HM2 := Lib.hid (below_self HB.out hb); clear hb))
      go_ret
      exact ⟨rfl, HM2.out⟩
end Go.Proofs.YtpkegiekpnaejaaGreat
