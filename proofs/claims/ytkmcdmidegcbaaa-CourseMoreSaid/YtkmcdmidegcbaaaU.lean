/-
  The contract of spell over this seat's program.
  What is proved: a spell of ends has the winter, and the lists of these ends of its days.
  Conditions: slices of at most 1000000 elements.
-/
import Derived.Test.YtkmcdmidegcbaaaT
namespace Go.Proofs.Ytkmcdmidegcbaaa
open Go.RowKit Go.Shelf
attribute [local go_sem] Oper.semAt_some

/-- A spell as a value. -/
abbrev sv (stock store : Int) (a : Option Addr) (n cap : Nat) (an : Option Addr) (nn cn : Nat) (am : Option Addr) (nm cm : Nat) (al : Option Addr) (nl cl : Nat) : Value :=
  .agg #[.int .i64 stock, .int .i64 store, .slice a n cap, .slice an nn cn, .slice am nm cm, .slice al nl cl]

structure OutSpell (w : World) (stock store : Int) (a : Option Addr) (ds : List Dy) (cap : Nat) (f1 f2 f3 : Sp → Int) (e : Ending) (w' : World) : Prop where
  all : ∃ an cn am cm al cl, e = .returned (sv stock store a ds.length cap an ds.length cn am ds.length cm al ds.length cl) ∧ IntSl w' an (ds.map fun d => f1 d.need) ∧ IntSl w' am (ds.map fun d => f2 d.make) ∧ IntSl w' al (ds.map fun d => f3 d.loss) ∧ Below w.heap.size w w'

theorem six_put {w W : World} {B : Nat} {t : TypeId} {u0 u1 u2 u3 u4 u5 v0 v1 v2 v3 v4 v5 : Value} (h : W.heap[B]? = some (.cells #[u0, u1, u2, u3, u4, u5] t (0, 0))) (hB : w.heap.size ≤ B) (k : Below w.heap.size w W) :
    Below w.heap.size w ((((((W.setCell ⟨B, 0, none⟩ v0).setCell ⟨B, 1, none⟩ v1).setCell ⟨B, 2, none⟩ v2).setCell ⟨B, 3, none⟩ v3).setCell ⟨B, 4, none⟩ v4).setCell ⟨B, 5, none⟩ v5) ∧ ((((((W.setCell ⟨B, 0, none⟩ v0).setCell ⟨B, 1, none⟩ v1).setCell ⟨B, 2, none⟩ v2).setCell ⟨B, 3, none⟩ v3).setCell ⟨B, 4, none⟩ v4).setCell ⟨B, 5, none⟩ v5).heap[B]? = some (.cells #[v0, v1, v2, v3, v4, v5] t (0, 0)) ∧ ∀ k, k ≠ B → ((((((W.setCell ⟨B, 0, none⟩ v0).setCell ⟨B, 1, none⟩ v1).setCell ⟨B, 2, none⟩ v2).setCell ⟨B, 3, none⟩ v3).setCell ⟨B, 4, none⟩ v4).setCell ⟨B, 5, none⟩ v5).heap[k]? = W.heap[k]? :=
  ⟨(((((k.setCell (p := ⟨B, 0, none⟩) hB _).setCell (p := ⟨B, 1, none⟩) hB _).setCell (p := ⟨B, 2, none⟩) hB _).setCell (p := ⟨B, 3, none⟩) hB _).setCell (p := ⟨B, 4, none⟩) hB _).setCell (p := ⟨B, 5, none⟩) hB _,
   blk_setCell (j := 5) (u := v5) (blk_setCell (j := 4) (u := v4) (blk_setCell (j := 3) (u := v3) (blk_setCell (j := 2) (u := v2) (blk_setCell (j := 1) (u := v1) (blk_setCell (j := 0) (u := v0) h))))),
   fun _ hk => (Below.heap_setCell _ _ _ _ hk).trans ((Below.heap_setCell _ _ _ _ hk).trans ((Below.heap_setCell _ _ _ _ hk).trans ((Below.heap_setCell _ _ _ _ hk).trans ((Below.heap_setCell _ _ _ _ hk).trans (Below.heap_setCell _ _ _ _ hk)))))⟩
theorem ints_put {w1 w3 W6 : World} {B : Nat} {a : Option Addr} {xs : List Int} (h : IntSl w1 a xs) (hb : Below w1.heap.size w1 w3) (ho : ∀ k, k ≠ B → W6.heap[k]? = w3.heap[k]?) (hz : w3.heap.size ≤ W6.heap.size) (hn : ∀ p, a = some p → B < p.block) : IntSl W6 a xs :=
  ints_same (h.below hb) hz (fun p hp _ => ho _ (by have := hn p hp; omega))

/-- The end of spell. -/
theorem spell_end {stock store : Int} {a : Option Addr} {ds : List Dy} {cap : Nat} {f1 f2 f3 : Sp → Int} {w Wa w1 w2 w3 : World} {an am al : Option Addr} {cn cm cl : Nat} {g1 g2 g3 : Nat}
    (HH : Hid (Below w.heap.size w Wa ∧ EndsAt Wa w.heap.size g1 g2 g3 ∧ Wa.heap[w.heap.size + 1]? = some (.cells #[.int .i64 stock, .int .i64 store, .slice a ds.length cap] 60 (0, 0)) ∧ Wa.heap[w.heap.size + 1 + 1]? = some (.cells #[.int .i64 0, .int .i64 0, .slice none 0 0, .slice none 0 0, .slice none 0 0, .slice none 0 0] 157 (0, 0)) ∧ Sl 6 Dy.cells w a ds ∧ ds.length ≤ 1000000))
    (H1 : Hid (Below w.heap.size w w1 ∧ EndsAt w1 w.heap.size g1 g2 g3 ∧ w1.heap[w.heap.size + 1]? = some (.cells #[.int .i64 stock, .int .i64 store, .slice a ds.length cap] 60 (0, 0)) ∧ w1.heap[w.heap.size + 1 + 1]? = some (.cells #[.int .i64 0, .int .i64 0, .slice none 0 0, .slice none 0 0, .slice none 0 0, .slice none 0 0] 157 (0, 0)) ∧ IntSl w1 an (ds.map fun d => f1 d.need) ∧ (∀ p, an = some p → Wa.heap.size ≤ p.block) ∧ Below Wa.heap.size Wa w1))
    (H2 : Hid (Below w.heap.size w w2 ∧ EndsAt w2 w.heap.size g1 g2 g3 ∧ w2.heap[w.heap.size + 1]? = some (.cells #[.int .i64 stock, .int .i64 store, .slice a ds.length cap] 60 (0, 0)) ∧ w2.heap[w.heap.size + 1 + 1]? = some (.cells #[.int .i64 0, .int .i64 0, .slice none 0 0, .slice none 0 0, .slice none 0 0, .slice none 0 0] 157 (0, 0)) ∧ IntSl w2 am (ds.map fun d => f2 d.make) ∧ (∀ p, am = some p → w1.heap.size ≤ p.block) ∧ Below w1.heap.size w1 w2))
    (H3 : Hid (Below w.heap.size w w3 ∧ w3.heap[w.heap.size + 1 + 1]? = some (.cells #[.int .i64 0, .int .i64 0, .slice none 0 0, .slice none 0 0, .slice none 0 0, .slice none 0 0] 157 (0, 0)) ∧ IntSl w3 al (ds.map fun d => f3 d.loss) ∧ (∀ p, al = some p → w2.heap.size ≤ p.block) ∧ Below w2.heap.size w2 w3))
    (act : Act) (hp : act.tmps[4]? = some (.pointer (some ⟨w.heap.size + 1 + 1, 0, none⟩))) (hd : act.defers = []) :
    Code.wp Try.prog Code.ret (bodyPost Try.prog Try.f94 (OutSpell w stock store a ds cap f1 f2 f3)) act ((((((w3.setCell ⟨w.heap.size + 1 + 1, 0, none⟩ (.int .i64 stock)).setCell ⟨w.heap.size + 1 + 1, 1, none⟩ (.int .i64 store)).setCell ⟨w.heap.size + 1 + 1, 2, none⟩ (.slice a ds.length cap)).setCell ⟨w.heap.size + 1 + 1, 3, none⟩ (.slice an ds.length cn)).setCell ⟨w.heap.size + 1 + 1, 4, none⟩ (.slice am ds.length cm)).setCell ⟨w.heap.size + 1 + 1, 5, none⟩ (.slice al ds.length cl)) := by
  obtain ⟨_, _, _, hr, _, _⟩ := HH.out
  obtain ⟨_, _, _, hr1, hI1, hf1, hb1⟩ := H1.out
  obtain ⟨_, _, _, hr2, hI2, hf2, hb2⟩ := H2.out
  obtain ⟨k3, hr3, hI3, hf3, hb3⟩ := H3.out
  have Z6 : w3.heap.size ≤ ((((((w3.setCell ⟨w.heap.size + 1 + 1, 0, none⟩ (.int .i64 stock)).setCell ⟨w.heap.size + 1 + 1, 1, none⟩ (.int .i64 store)).setCell ⟨w.heap.size + 1 + 1, 2, none⟩ (.slice a ds.length cap)).setCell ⟨w.heap.size + 1 + 1, 3, none⟩ (.slice an ds.length cn)).setCell ⟨w.heap.size + 1 + 1, 4, none⟩ (.slice am ds.length cm)).setCell ⟨w.heap.size + 1 + 1, 5, none⟩ (.slice al ds.length cl)).heap.size := by simp only [World.size_setCell]; exact Nat.le_refl _
  obtain ⟨P6, R6, O6⟩ := six_put (v0 := .int .i64 stock) (v1 := .int .i64 store) (v2 := .slice a ds.length cap) (v3 := .slice an ds.length cn) (v4 := .slice am ds.length cm) (v5 := .slice al ds.length cl) hr3 (show w.heap.size ≤ w.heap.size + 1 + 1 by omega) k3
  generalize ((((((w3.setCell ⟨w.heap.size + 1 + 1, 0, none⟩ (.int .i64 stock)).setCell ⟨w.heap.size + 1 + 1, 1, none⟩ (.int .i64 store)).setCell ⟨w.heap.size + 1 + 1, 2, none⟩ (.slice a ds.length cap)).setCell ⟨w.heap.size + 1 + 1, 3, none⟩ (.slice an ds.length cn)).setCell ⟨w.heap.size + 1 + 1, 4, none⟩ (.slice am ds.length cm)).setCell ⟨w.heap.size + 1 + 1, 5, none⟩ (.slice al ds.length cl)) = W6 at P6 R6 O6 Z6 ⊢
  have q0 := blk_cell R6 0 rfl
  have q1 := blk_cell R6 1 rfl
  have q2 := blk_cell R6 2 rfl
  have q3 := blk_cell R6 3 rfl
  have q4 := blk_cell R6 4 rfl
  have q5 := blk_cell R6 5 rfl
  have hO : OutSpell w stock store a ds cap f1 f2 f3 (.returned (sv stock store a ds.length cap an ds.length cn am ds.length cm al ds.length cl)) W6 :=
    ⟨an, cn, am, cm, al, cl, rfl, ints_put hI1 (hb2.trans (hb3.mono hb2.size)) O6 Z6 (fun p hp => by have := hf1 p hp; have := lt_of_block hr; omega), ints_put hI2 hb3 O6 Z6 (fun p hp => by have := hf2 p hp; have := lt_of_block hr1; omega), ints_put hI3 (Below.refl _ _) O6 Z6 (fun p hp => by have := hf3 p hp; have := lt_of_block hr2; omega), P6⟩
  clear hI1 hI2 hI3 hf1 hf2 hf3 hb1 hb2 hb3 hr hr1 hr2 hr3 O6 Z6 R6 HH H1 H2 H3 k3 P6
  refine wp_ret ?_
  exact bodyPost_ret (v := sv stock store a ds.length cap an ds.length cn am ds.length cm al ds.length cl) (by simp [results, Try.results94, go_sem, hp, q0, q1, q2, q3, q4, q5]) hd hO

set_option maxHeartbeats 1000000 in
theorem spell_any (g1 g2 g3 : Nat) (f1 f2 f3 : Sp → Int) (h1 : EndF g1 f1) (h2 : EndF g2 f2) (h3 : EndF g3 f3) (stock store : Int) (a : Option Addr) (ds : List Dy) (cap : Nat) (w : World) (hx : Sl 6 Dy.cells w a ds) (hl : ds.length ≤ 1000000) :
    Calls Try.prog 94 #[.agg #[.func (.func g1) #[] #[], .func (.func g2) #[] #[], .func (.func g3) #[] #[]], wv stock store a ds.length cap] w (OutSpell w stock store a ds cap f1 f2 f3) := by
  have F1 := Lib.hid h1
  have F2 := Lib.hid h2
  have F3 := Lib.hid h3
  clear h1 h2 h3
  obtain ⟨Wa, hWa⟩ : ∃ Wa, ((w.alloc (.cells #[.func (.func g1) #[] #[], .func (.func g2) #[] #[], .func (.func g3) #[] #[]] 160)).alloc (.cells #[.int .i64 stock, .int .i64 store, .slice a ds.length cap] 60)).alloc (.cells #[.int .i64 0, .int .i64 0, .slice none 0 0, .slice none 0 0, .slice none 0 0, .slice none 0 0] 157) = Wa := ⟨_, rfl⟩
  have hba : Below w.heap.size w Wa := by rw [← hWa]; exact (((Below.refl _ _).alloc (Nat.le_refl _) _).alloc (by simp) _).alloc (by simp <;> omega) _
  have hE : EndsAt Wa w.heap.size g1 g2 g3 := by rw [← hWa]; exact alk (alk (new_at rfl))
  have h0 : Wa.heap[w.heap.size + 1]? = some (.cells #[.int .i64 stock, .int .i64 store, .slice a ds.length cap] 60 (0, 0)) := by rw [← hWa]; exact alk (new_at (by simp))
  have hr : Wa.heap[w.heap.size + 1 + 1]? = some (.cells #[.int .i64 0, .int .i64 0, .slice none 0 0, .slice none 0 0, .slice none 0 0, .slice none 0 0] 157 (0, 0)) := by rw [← hWa]; exact new_at (by simp)
  have c0 := blk_cell h0 0 rfl
  have c1 := blk_cell h0 1 rfl
  have c2 := blk_cell h0 2 rfl
  go_enter Try.func94, Try.ntmps94
  go_wp2_with fail
  clear hWa
  have HH : Hid (Below w.heap.size w Wa ∧ EndsAt Wa w.heap.size g1 g2 g3 ∧ Wa.heap[w.heap.size + 1]? = some (.cells #[.int .i64 stock, .int .i64 store, .slice a ds.length cap] 60 (0, 0)) ∧ Wa.heap[w.heap.size + 1 + 1]? = some (.cells #[.int .i64 0, .int .i64 0, .slice none 0 0, .slice none 0 0, .slice none 0 0, .slice none 0 0] 157 (0, 0)) ∧ Sl 6 Dy.cells w a ds ∧ ds.length ≤ 1000000) := ⟨hba, hE, h0, hr, hx, hl⟩
  clear hba hE h0 hr hx hl
  go_region_held3 (fun w' => w'.cell? ⟨w.heap.size + 1, 0, none⟩ = some (.int .i64 stock) ∧ w'.cell? ⟨w.heap.size + 1, 1, none⟩ = some (.int .i64 store) ∧ w'.cell? ⟨w.heap.size + 1, 2, none⟩ = some (.slice a ds.length cap)) (go_keep)
    (first
      | (go_at_call 131; refine (mapped_day a ds cap 134 #[.pointer (some ⟨w.heap.size, 0, none⟩)] (fun d => f3 d.loss) _ (HH.out.2.2.2.2.1.below H2.out.1) HH.out.2.2.2.2.2 eg134 (fun d hd W hW => spell3_any d g1 g2 g3 w.heap.size f3 F3.out W (blk_below H2.out.2.1 hW))).mono ?_; rintro e w3 ⟨al, cl, rfl, hI3, hf3, hb3⟩; have H3 : Hid (Below w.heap.size w w3 ∧ w3.heap[w.heap.size + 1 + 1]? = some (.cells #[.int .i64 0, .int .i64 0, .slice none 0 0, .slice none 0 0, .slice none 0 0, .slice none 0 0] 157 (0, 0)) ∧ IntSl w3 al (ds.map fun d => f3 d.loss) ∧ (∀ p, al = some p → w2.heap.size ≤ p.block) ∧ Below w2.heap.size w2 w3) := ⟨below_self H2.out.1 hb3, blk_below H2.out.2.2.2.1 hb3, hI3, hf3, hb3⟩; have h03 := blk_below H2.out.2.2.1 hb3; clear hb3 hf3 hI3 u0 u1 u2; have e0 := blk_cell h03 0 rfl; have e1 := blk_cell h03 1 rfl; have e2 := blk_cell h03 2 rfl; clear h03; have hr3 := H3.out.2.1; have m0 := blk_free (j := 0) hr3; have m1 := blk_free (j := 1) hr3; have m2 := blk_free (j := 2) hr3; have m3 := blk_free (j := 3) hr3; have m4 := blk_free (j := 4) hr3; have m5 := blk_free (j := 5) hr3; have n0 := blk_cell hr3 0 rfl; have n1 := blk_cell hr3 1 rfl; have n2 := blk_cell hr3 2 rfl; have n3 := blk_cell hr3 3 rfl; have n4 := blk_cell hr3 4 rfl; have n5 := blk_cell hr3 5 rfl; clear hr3)
      | (go_at_call 131; refine (mapped_day a ds cap 133 #[.pointer (some ⟨w.heap.size, 0, none⟩)] (fun d => f2 d.make) _ (HH.out.2.2.2.2.1.below H1.out.1) HH.out.2.2.2.2.2 eg133 (fun d hd W hW => spell2_any d g1 g2 g3 w.heap.size f2 F2.out W (blk_below H1.out.2.1 hW))).mono ?_; rintro e w2 ⟨am, cm, rfl, hI2, hf2, hb2⟩; have H2 : Hid (Below w.heap.size w w2 ∧ EndsAt w2 w.heap.size g1 g2 g3 ∧ w2.heap[w.heap.size + 1]? = some (.cells #[.int .i64 stock, .int .i64 store, .slice a ds.length cap] 60 (0, 0)) ∧ w2.heap[w.heap.size + 1 + 1]? = some (.cells #[.int .i64 0, .int .i64 0, .slice none 0 0, .slice none 0 0, .slice none 0 0, .slice none 0 0] 157 (0, 0)) ∧ IntSl w2 am (ds.map fun d => f2 d.make) ∧ (∀ p, am = some p → w1.heap.size ≤ p.block) ∧ Below w1.heap.size w1 w2) := ⟨below_self H1.out.1 hb2, blk_below H1.out.2.1 hb2, blk_below H1.out.2.2.1 hb2, blk_below H1.out.2.2.2.1 hb2, hI2, hf2, hb2⟩; have h02 := H2.out.2.2.1; clear hb2 hf2 hI2 d0 d1 d2; have u0 := blk_cell h02 0 rfl; have u1 := blk_cell h02 1 rfl; have u2 := blk_cell h02 2 rfl; clear h02)
      | (go_at_call 131; refine (mapped_day a ds cap 132 #[.pointer (some ⟨w.heap.size, 0, none⟩)] (fun d => f1 d.need) _ (HH.out.2.2.2.2.1.below HH.out.1.drew) HH.out.2.2.2.2.2 eg132 (fun d hd W hW => spell1_any d g1 g2 g3 w.heap.size f1 F1.out W (blk_below (w := Wa.drew) HH.out.2.1 hW))).mono ?_; rintro e w1 ⟨an, cn, rfl, hI1, hf1, hb1⟩; have hb1' : Below Wa.heap.size Wa w1 := ⟨hb1.os, hb1.tape, hb1.output, hb1.size, hb1.block⟩; have H1 : Hid (Below w.heap.size w w1 ∧ EndsAt w1 w.heap.size g1 g2 g3 ∧ w1.heap[w.heap.size + 1]? = some (.cells #[.int .i64 stock, .int .i64 store, .slice a ds.length cap] 60 (0, 0)) ∧ w1.heap[w.heap.size + 1 + 1]? = some (.cells #[.int .i64 0, .int .i64 0, .slice none 0 0, .slice none 0 0, .slice none 0 0, .slice none 0 0] 157 (0, 0)) ∧ IntSl w1 an (ds.map fun d => f1 d.need) ∧ (∀ p, an = some p → Wa.heap.size ≤ p.block) ∧ Below Wa.heap.size Wa w1) := ⟨below_self HH.out.1 hb1', blk_below HH.out.2.1 hb1', blk_below HH.out.2.2.1 hb1', blk_below HH.out.2.2.2.1 hb1', hI1, hf1, hb1'⟩; have h01 := H1.out.2.2.1; clear hb1 hb1' hf1 hI1 c0 c1 c2; have d0 := blk_cell h01 0 rfl; have d1 := blk_cell h01 1 rfl; have d2 := blk_cell h01 2 rfl; clear h01))
  all_goals (
    clear e0 e1 e2 m0 m1 m2 m3 m4 m5 n0 n1 n2 n3 n4 n5
    refine (by assumption : ∀ (a_1 : Act) (w_1 : World), Code.wp Try.prog Code.ret (bodyPost Try.prog Try.f94 (OutSpell w stock store a ds cap f1 f2 f3)) a_1 w_1 → Exit.then _ _ Exit.normal a_1 w_1) _ _ (spell_end HH H1 H2 H3 _ rfl rfl))
end Go.Proofs.Ytkmcdmidegcbaaa
