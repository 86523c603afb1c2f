/-
  Fold and shares, over this seat's program.
  What is proved: Fold hands back a number from 0 to n - 1; shares deals weights with a sum; nothing that was there before has turned but the deck.
  Conditions: 1 to 100 numbers; a deck that has dealt at most 1000 times.
-/
import Derived.Test.YtiggelffmfinoaaP
import Derived.Test.YtiggelffmfinoaaN
namespace Go.Proofs.Ytiggelffmfinoaa
open Go.RowKit Go.Shelf
attribute [local go_sem] Oper.semAt_some

/-- Weights with a sum. -/
structure Share (n : Nat) (t : Int) (xs : List Int) : Prop where
  len : xs.length = n
  nn : ∀ x ∈ xs, 0 ≤ x
  sum : sumI xs = t
theorem sumI_cons (x : Int) (xs : List Int) : sumI (x :: xs) = x + sumI xs := by
  have : ∀ (ys : List Int) (a : Int), ys.foldl (· + ·) a = a + ys.foldl (· + ·) 0 := by
    intro ys
    induction ys with
    | nil => intro a; simp
    | cons y ys ih => intro a; rw [List.foldl_cons, List.foldl_cons, ih (a + y), ih (0 + y)]; omega
  show (x :: xs).foldl (· + ·) 0 = _
  rw [List.foldl_cons, this xs (0 + x)]
  show 0 + x + sumI xs = _
  omega
theorem sumI_set (xs : List Int) (j : Nat) (hj : j < xs.length) (v : Int) : sumI (xs.set j v) = sumI xs - xs[j]?.getD 0 + v := by
  induction xs generalizing j with
  | nil => simp at hj
  | cons x xs ih =>
    cases j with
    | zero => rw [List.set_cons_zero, sumI_cons, sumI_cons]; simp; omega
    | succ j =>
      rw [List.set_cons_succ, sumI_cons, sumI_cons, ih j (by simpa using hj)]
      simp; omega
theorem Share.up {n : Nat} {t : Int} {xs : List Int} (h : Share n t xs) (j : Nat) (hj : j < n) : Share n (t + 1) (xs.set j (xs[j]?.getD 0 + 1)) := by
  have hjl : j < xs.length := by rw [h.len]; exact hj
  refine ⟨by rw [List.length_set, h.len], fun x hx => ?_, by rw [sumI_set xs j hjl, h.sum]; omega⟩
  rcases List.mem_or_eq_of_mem_set hx with hx | hx
  · exact h.nn x hx
  · rw [hx, List.getElem?_eq_getElem hjl]
    have := h.nn xs[j] (List.getElem_mem hjl)
    show 0 ≤ xs[j] + 1
    omega
theorem Share.zero (n : Nat) : Share n 0 (List.replicate n 0) := by
  refine ⟨by simp, fun x hx => by rw [List.eq_of_mem_replicate hx]; exact Int.le_refl _, ?_⟩
  induction n with
  | zero => rfl
  | succ n ih => rw [List.replicate_succ, sumI_cons, ih]; rfl
theorem Share.le {n : Nat} {t : Int} {xs : List Int} (h : Share n t xs) (j : Nat) : 0 ≤ xs[j]?.getD 0 ∧ xs[j]?.getD 0 ≤ t := by
  have hs : ∀ ys : List Int, (∀ y ∈ ys, 0 ≤ y) → 0 ≤ sumI ys ∧ ∀ j : Nat, 0 ≤ ys[j]?.getD 0 ∧ ys[j]?.getD 0 ≤ sumI ys := by
    intro ys
    induction ys with
    | nil => intro _; simp [sumI]
    | cons y ys ih =>
      intro hy
      have h1 := ih (fun z hz => hy z (by simp [hz]))
      have h2 := hy y (by simp)
      rw [sumI_cons]
      refine ⟨by omega, fun j => ?_⟩
      cases j with
      | zero => simp; omega
      | succ j => have := h1.2 j; simp; omega
  rw [← h.sum]
  exact (hs xs h.nn).2 j

set_option maxHeartbeats 2000000 in
theorem shares_any (B L : Nat) (a : Option Addr) (n cap k : Nat) (s t : Nat) (w : World) (hd : Deck w B L a n cap k) (hk : k ≤ 1000) (hs : 1 ≤ s ∧ s ≤ 100) (ht : t ≤ 1000) :
    Calls Try.prog 12 #[.pointer (some ⟨B, 0, none⟩), .int .i64 s, .int .i64 t] w fun e w' => ∃ g xs, e = .returned (.slice (some ⟨g, 0, none⟩) s s) ∧ w'.heap[g]? = some (.cells (xs.map (Value.int .i64)).toArray 3 (0, 0)) ∧ Share s t xs ∧ w.heap.size ≤ g ∧ Deck w' B L a n cap (k + t) ∧ Apart (fun j => j = B) w w' := by
  have hmk := mkInts s (by omega) w
  obtain ⟨W0, hW0⟩ : ∃ W0, w.alloc (.cells ((List.replicate s (0 : Int)).map (Value.int .i64)).toArray 3) = W0 := ⟨_, rfl⟩
  rw [hW0] at hmk
  have hBL := hd.lt
  have h0 : Hid (∃ xs, W0.heap[w.heap.size]? = some (.cells (xs.map (Value.int .i64)).toArray 3 (0, 0)) ∧ Share s ((0 : Nat) : Int) xs ∧ Deck W0 B L a n cap (k + 0) ∧ Apart (fun j => j = B) w W0) := by
    refine ⟨List.replicate s 0, ?_, Share.zero s, ?_, ?_⟩
    · rw [← hW0]; exact heap_alloc_new w _
    · rw [← hW0]; exact hd.below (alloc1 w _)
    · rw [← hW0]; exact Apart.of_below (alloc1 w _)
  clear hd hW0
  go_enter Try.func12, Try.ntmps12
  go_wp2_with (fail)
  go_loopw [11] (fun i wr => ∃ j : Nat, j ≤ t ∧ i = .int .i64 j ∧ Hid (∃ xs, wr.heap[w.heap.size]? = some (.cells (xs.map (Value.int .i64)).toArray 3 (0, 0)) ∧ Share s (j : Int) xs ∧ Deck wr B L a n cap (k + j) ∧ Apart (fun j => j = B) w wr)) (fun i _ => t - (intOf i).toNat)
  case atStart => exact ⟨0, Nat.zero_le _, rfl, h0⟩
  case round =>
    obtain ⟨j, hj, rfl, hC⟩ := hrel
    by_cases hlt : j < t
    · have gl : decide ((j : Int) < (t : Int)) = true := decide_eq_true (by omega)
      obtain ⟨xs, hx, hS, hD, hA⟩ := hC.out
      have HC := Lib.hid (draw_any B L a n cap (k + j) s wr hD (by omega) (by omega))
      have HH := Lib.hid (And.intro hx (And.intro hS hA))
      clear hx hS hD hA hC
      go_wp2_with (fail)
      refine HC.out.mono ?_
      rintro e w1 ⟨⟨r, rfl, hr0, hr1⟩, hD, hA⟩
      obtain ⟨q, rfl⟩ := Int.eq_ofNat_of_zero_le hr0
      have hq : q < s := by omega
      have hgB : w.heap.size ≠ B := by omega
      have hx1 : w1.heap[w.heap.size]? = some (.cells (xs.map (Value.int .i64)).toArray 3 (0, 0)) := (hA.block _ (lt_of_block HH.out.1) hgB).trans HH.out.1
      have hle := HH.out.2.1.le q
      have hlen := HH.out.2.1.len
      have m0 := blk_cell hx1 q (v := .int .i64 (xs[q]?.getD 0)) (by simp [hlen, hq])
      have k0 := blk_free (j := q) hx1
      have HS : Hid (∀ v, (w1.setCell ⟨w.heap.size, q, none⟩ (.int .i64 v)).heap[w.heap.size]? = some (.cells ((xs.set q v).map (Value.int .i64)).toArray 3 (0, 0)) ∧ Deck (w1.setCell ⟨w.heap.size, q, none⟩ (.int .i64 v)) B L a n cap (k + j + 1) ∧ Apart (fun j => j = B) w (w1.setCell ⟨w.heap.size, q, none⟩ (.int .i64 v))) := fun v => by
        refine ⟨by rw [blk_setCell hx1, List.map_set]; simp, hD.keep (by rw [World.size_setCell]; exact Nat.le_refl _) (fun i hi => Below.heap_setCell _ _ _ _ (by show i ≠ w.heap.size; omega)), ?_⟩
        have h2 := HH.out.2.2.trans hA
        exact ⟨h2.os, h2.tape, h2.output, by rw [World.size_setCell]; exact h2.size, fun i hi ho => (Below.heap_setCell _ _ _ _ (by show i ≠ w.heap.size; omega)).trans (h2.block i hi ho)⟩
      have HU := Lib.hid (HH.out.2.1.up q hq)
      clear hx1 hD hA hlen hr0 hr1
      generalize xs[q]?.getD 0 = x at m0 hle HU
      have qx : IntKind.i64.wrap (x + 1) = x + 1 := IntWalk.i64_in _ (by omega)
      have gq : (q : Int) < s := by omega
      go_wp2_with (fail)
      clear m0 k0
      go_roundw
      case rel => exact ⟨j + 1, by omega, by go_num, _, (HS.out _).1, HU.out, (HS.out _).2.1, (HS.out _).2.2⟩
      case measure => first | (simp [intOf]; done) | (simp [intOf]; omega)
    · have : j = t := by omega
      subst this
      obtain ⟨xs, hx, hS, hD, hA⟩ := hC.out
      have HF := Lib.hid (And.intro hx (And.intro hS (And.intro hD hA)))
      clear hx hS hD hA
      go_wp2_with (fail)
      go_ret
      exact ⟨w.heap.size, xs, rfl, HF.out.1, HF.out.2.1, Nat.le_refl _, HF.out.2.2.1, HF.out.2.2.2⟩
end Go.Proofs.Ytiggelffmfinoaa
