/-
The contract of CourseRules over this seat's program.
  What is proved: it answers true; nothing that was there before has turned.
  Conditions: lists that read as such.
The contract of the reference's check of winters over this seat's program.
  What is proved: it answers the error that the program's own check answers.
  Conditions: at most 1000000 days.
What the memory holds while lists grow that lie in slots, each by one number that is built apart.
  What is proved: these facts go on from one step to the next, in whatever order the numbers are built.
  Conditions: each lemma states its own.
The contract of the reference's Ends over this seat's program.
  What is proved: it hands back the ends of the days' spans that make the worst weather, or the best one.
  Conditions: at most 1000 days.
-/
import Derived.Test.YtmebmcipmemofaaGreatPart14
import Derived.Deep.DeepCutAuto
import Derived.Deep.RegionHeld3
namespace Go.Proofs.YtmebmcipmemofaaGreat
open Go.RowKit Go.Shelf
attribute [local go_sem] Oper.semAt_some

/-- Rules in a box. -/
def RB (w : World) (B : Nat) (r : Ru) : Prop := w.heap[B]? = some (.cells #[.int .i64 r.laps, .int .i64 r.len.lo, .int .i64 r.len.hi, .int .i64 r.climb.lo, .int .i64 r.climb.hi, .int .i64 r.lap.lo, .int .i64 r.lap.hi, .int .i64 r.wide, .int .i64 r.uses] 26 (0, 0))
theorem RB.below {w w' : World} {B : Nat} {r : Ru} (h : RB w B r) (hb : Below w.heap.size w w') : RB w' B r := blk_below h hb
theorem broken_le {xs : List Lp} {r : Ru} {c R : List Int} {E : Int} (h : brokenR xs r c = (R, E)) : R.length ≤ 5 := by
  have h1 : R = (brokenR xs r c).1 := by rw [h]
  rw [h1, brokenR]
  split
  · split
    · split
      · exact rulesTo_le _ 5
      · simp
    · simp
  · simp

set_option maxHeartbeats 4000000 in
set_option maxRecDepth 100000 in
theorem rules_law (a : Option Addr) (xs : List Lp) (cap : Nat) (r : Ru) (ac : Option Addr) (c : List Int) (ccap : Nat) (w : World) (hx : Sl 3 Lp.cells w a xs) (hc : IntSl w ac c)
    (hna : a = none → xs.length = 0 ∧ cap = 0) (hnc : ac = none → c.length = 0 ∧ ccap = 0) :
    Calls Tryz.prog 44 #[.slice a xs.length cap, r.v, .slice ac c.length ccap] w fun e w' => e = .returned (.bool true) ∧ Below w.heap.size w w' := by
  have hB0 : Below w.heap.size w (w.alloc (.cells #[.int .i64 r.laps, .int .i64 r.len.lo, .int .i64 r.len.hi, .int .i64 r.climb.lo, .int .i64 r.climb.hi, .int .i64 r.lap.lo, .int .i64 r.lap.hi, .int .i64 r.wide, .int .i64 r.uses] 26)) := (Below.refl _ _).alloc (Nat.le_refl _) _
  have hR0 : RB (w.alloc (.cells #[.int .i64 r.laps, .int .i64 r.len.lo, .int .i64 r.len.hi, .int .i64 r.climb.lo, .int .i64 r.climb.hi, .int .i64 r.lap.lo, .int .i64 r.lap.hi, .int .i64 r.wide, .int .i64 r.uses] 26)) w.heap.size r := heap_alloc_new _ _
  have HX := Lib.hid (And.intro hx (And.intro hc (And.intro hna hnc)))
  clear hx hc hna hnc
  obtain ⟨W0, hW0⟩ : ∃ W0, w.alloc (.cells #[.int .i64 r.laps, .int .i64 r.len.lo, .int .i64 r.len.hi, .int .i64 r.climb.lo, .int .i64 r.climb.hi, .int .i64 r.lap.lo, .int .i64 r.lap.hi, .int .i64 r.wide, .int .i64 r.uses] 26) = W0 := ⟨_, rfl⟩
  rw [hW0] at hB0 hR0
  have HB0 := Lib.hid hB0
  have HR0 := Lib.hid hR0
  clear hB0 hR0
  by_cases hbig : xs.length ≤ 15 ∧ c.length ≤ 10
  · obtain ⟨hb1, hb2⟩ := hbig
    go_enter Tryz.func44, Tryz.ntmps44
    go_wp2_with (fail)
    clear hW0
    refine (cloneLp_any a xs cap _ (HX.out.1.below HB0.out) HX.out.2.2.1 (by omega)).mono ?_
    rintro e w1 ⟨oa, ocap, rfl, h1, h2, hb⟩
    have HB1 := Lib.hid (below_self HB0.out hb)
    have HR1 := Lib.hid (HR0.out.below hb)
    have HO1 := Lib.hid h1
    clear h1 h2 hb
    go_wp2_with (fail)
    refine (cloneInt_any ac c ccap _ (HX.out.2.1.below HB1.out) HX.out.2.2.2 (by omega)).mono ?_
    rintro e w2 ⟨om, mcap, rfl, h1, h2, hb⟩
    have HB2 := Lib.hid (below_self HB1.out hb)
    have HR2 := Lib.hid (HR1.out.below hb)
    have HO2 := Lib.hid (And.intro (HO1.out.below hb) h1)
    clear h1 h2 hb
    go_upto_region 4 with (fail)
    have c0 := blk_cell HR2.out 0 rfl
    have c1 := blk_cell HR2.out 1 rfl
    have c2 := blk_cell HR2.out 2 rfl
    have c3 := blk_cell HR2.out 3 rfl
    have c4 := blk_cell HR2.out 4 rfl
    have c5 := blk_cell HR2.out 5 rfl
    have c6 := blk_cell HR2.out 6 rfl
    have c7 := blk_cell HR2.out 7 rfl
    have c8 := blk_cell HR2.out 8 rfl
    have hcl : c.length ≤ 1000000 := by omega
    go_region_held3 (fun w' => w'.cell? ⟨w.heap.size, 0, none⟩ = some (.int .i64 r.laps) ∧ w'.cell? ⟨w.heap.size, 1, none⟩ = some (.int .i64 r.len.lo) ∧ w'.cell? ⟨w.heap.size, 2, none⟩ = some (.int .i64 r.len.hi) ∧ w'.cell? ⟨w.heap.size, 3, none⟩ = some (.int .i64 r.climb.lo) ∧ w'.cell? ⟨w.heap.size, 4, none⟩ = some (.int .i64 r.climb.hi) ∧ w'.cell? ⟨w.heap.size, 5, none⟩ = some (.int .i64 r.lap.lo) ∧ w'.cell? ⟨w.heap.size, 6, none⟩ = some (.int .i64 r.lap.hi) ∧ w'.cell? ⟨w.heap.size, 7, none⟩ = some (.int .i64 r.wide) ∧ w'.cell? ⟨w.heap.size, 8, none⟩ = some (.int .i64 r.uses)) (go_keep)
      (first
        | (go_at_call 84; refine (refCheck_any ta xs tcap r w4 HO4.out (by omega)).mono ?_; rintro e w5 ⟨rfl, hb⟩; have HB5 := Lib.hid (below_self HB4.out hb); have HR5 := Lib.hid (HR4.out.below hb); have HO5 := Lib.hid (And.intro (HOO4.out.1.below hb) (HOO4.out.2.below hb)); clear hb; clear c0 c1 c2 c3 c4 c5 c6 c7 c8; have c0 := blk_cell HR5.out 0 rfl; have c1 := blk_cell HR5.out 1 rfl; have c2 := blk_cell HR5.out 2 rfl; have c3 := blk_cell HR5.out 3 rfl; have c4 := blk_cell HR5.out 4 rfl; have c5 := blk_cell HR5.out 5 rfl; have c6 := blk_cell HR5.out 6 rfl; have c7 := blk_cell HR5.out 7 rfl; have c8 := blk_cell HR5.out 8 rfl)
        | (go_at_call 13; refine (loops_any a xs cap w3 (HX.out.1.below HB3.out) (by omega)).mono ?_; rintro e w4 ⟨ta, tcap, rfl, h1, h2, hb⟩; have HB4 := Lib.hid (below_self HB3.out hb); have HR4 := Lib.hid (HR3.out.below hb); have HO4 := Lib.hid h1; have HOO4 := Lib.hid (And.intro (HO3.out.1.below hb) (HO3.out.2.below hb)); clear h1 h2 hb; clear c0 c1 c2 c3 c4 c5 c6 c7 c8; have c0 := blk_cell HR4.out 0 rfl; have c1 := blk_cell HR4.out 1 rfl; have c2 := blk_cell HR4.out 2 rfl; have c3 := blk_cell HR4.out 3 rfl; have c4 := blk_cell HR4.out 4 rfl; have c5 := blk_cell HR4.out 5 rfl; have c6 := blk_cell HR4.out 6 rfl; have c7 := blk_cell HR4.out 7 rfl; have c8 := blk_cell HR4.out 8 rfl)
        | (go_at_call 49; refine (check_any oa xs ocap r _ (HO2.out.1.below ((Below.refl _ _).drew)) (by omega)).mono ?_; rintro e w3 ⟨rfl, hb⟩; have HB3 := Lib.hid (below_self (HB2.out.drew) hb); have HR3 := Lib.hid (RB.below (w := w2.drew) HR2.out hb); have HO3 := Lib.hid (And.intro (HO2.out.1.below (below_self ((Below.refl w2.heap.size w2).drew) hb)) (HO2.out.2.below (below_self ((Below.refl w2.heap.size w2).drew) hb))); clear hb; clear c0 c1 c2 c3 c4 c5 c6 c7 c8; have c0 := blk_cell HR3.out 0 rfl; have c1 := blk_cell HR3.out 1 rfl; have c2 := blk_cell HR3.out 2 rfl; have c3 := blk_cell HR3.out 3 rfl; have c4 := blk_cell HR3.out 4 rfl; have c5 := blk_cell HR3.out 5 rfl; have c6 := blk_cell HR3.out 6 rfl; have c7 := blk_cell HR3.out 7 rfl; have c8 := blk_cell HR3.out 8 rfl))
    all_goals (
      clear c0 c1 c2 c3 c4 c5 c6 c7 c8
      go_wp2_with (fail)
      obtain ⟨R, E, hRE⟩ : ∃ R E, brokenR xs r c = (R, E) := ⟨_, _, rfl⟩
      have c0 := blk_cell HR5.out 0 rfl
      have c1 := blk_cell HR5.out 1 rfl
      have c2 := blk_cell HR5.out 2 rfl
      have c3 := blk_cell HR5.out 3 rfl
      have c4 := blk_cell HR5.out 4 rfl
      have c5 := blk_cell HR5.out 5 rfl
      have c6 := blk_cell HR5.out 6 rfl
      have c7 := blk_cell HR5.out 7 rfl
      have c8 := blk_cell HR5.out 8 rfl
      go_wp2_with (fail)
      clear c0 c1 c2 c3 c4 c5 c6 c7 c8
      have HC := broken_any oa xs ocap r om c mcap w5 HO5.out.1 HO5.out.2 (by omega) hcl
      rw [hRE] at HC
      have HC2 := fun (b : Option Addr) (bcap : Nat) (W : World) (h1 : Sl 3 Lp.cells W b xs) (h2 : IntSl W ac c) => refBroken_any b xs bcap r ac c ccap W h1 h2 (by omega) hcl
      rw [hRE] at HC2
      have HB22 := Lib.hid HC2
      have HRL := Lib.hid (broken_le hRE)
      clear HC2 hRE
      refine HC.mono ?_
      clear HC
      rintro e w6 ⟨ra, rcap, rfl, h1, h2, hb⟩
      have HB6 := Lib.hid (below_self HB5.out hb)
      have HR6 := Lib.hid (HR5.out.below hb)
      have HO6 := Lib.hid (And.intro (HO5.out.1.below hb) (And.intro (HO5.out.2.below hb) h1))
      clear h1 h2 hb
      have c0 := blk_cell HR6.out 0 rfl
      have c1 := blk_cell HR6.out 1 rfl
      have c2 := blk_cell HR6.out 2 rfl
      have c3 := blk_cell HR6.out 3 rfl
      have c4 := blk_cell HR6.out 4 rfl
      have c5 := blk_cell HR6.out 5 rfl
      have c6 := blk_cell HR6.out 6 rfl
      have c7 := blk_cell HR6.out 7 rfl
      have c8 := blk_cell HR6.out 8 rfl
      go_upto_region 7 with (fail)
      go_region_held3 (fun w' => w'.cell? ⟨w.heap.size, 0, none⟩ = some (.int .i64 r.laps) ∧ w'.cell? ⟨w.heap.size, 1, none⟩ = some (.int .i64 r.len.lo) ∧ w'.cell? ⟨w.heap.size, 2, none⟩ = some (.int .i64 r.len.hi) ∧ w'.cell? ⟨w.heap.size, 3, none⟩ = some (.int .i64 r.climb.lo) ∧ w'.cell? ⟨w.heap.size, 4, none⟩ = some (.int .i64 r.climb.hi) ∧ w'.cell? ⟨w.heap.size, 5, none⟩ = some (.int .i64 r.lap.lo) ∧ w'.cell? ⟨w.heap.size, 6, none⟩ = some (.int .i64 r.lap.hi) ∧ w'.cell? ⟨w.heap.size, 7, none⟩ = some (.int .i64 r.wide) ∧ w'.cell? ⟨w.heap.size, 8, none⟩ = some (.int .i64 r.uses)) (go_keep)
        (first
          | (go_at_call 96; refine (HB22.out tb tbcap w7 HO7.out.2.2.2 (HX.out.2.1.below HB7.out)).mono ?_; rintro e w8 ⟨rb, rbcap, rfl, h1, h2, hb⟩; have HB8 := Lib.hid (below_self HB7.out hb); have HR8 := Lib.hid (HR7.out.below hb); have HO8 := Lib.hid (And.intro (HO7.out.1.below hb) (And.intro (HO7.out.2.1.below hb) (And.intro (HO7.out.2.2.1.below hb) h1))); clear h1 h2 hb; clear c0 c1 c2 c3 c4 c5 c6 c7 c8; have c0 := blk_cell HR8.out 0 rfl; have c1 := blk_cell HR8.out 1 rfl; have c2 := blk_cell HR8.out 2 rfl; have c3 := blk_cell HR8.out 3 rfl; have c4 := blk_cell HR8.out 4 rfl; have c5 := blk_cell HR8.out 5 rfl; have c6 := blk_cell HR8.out 6 rfl; have c7 := blk_cell HR8.out 7 rfl; have c8 := blk_cell HR8.out 8 rfl)
          | (go_at_call 13; refine (loops_any a xs cap _ (HX.out.1.below (HB6.out.drew)) (by omega)).mono ?_; rintro e w7 ⟨tb, tbcap, rfl, h1, h2, hb⟩; have HB7 := Lib.hid (below_self (HB6.out.drew) hb); have HR7 := Lib.hid (RB.below (w := w6.drew) HR6.out hb); have hbb := below_self ((Below.refl w6.heap.size w6).drew) hb; have HO7 := Lib.hid (And.intro (HO6.out.1.below hbb) (And.intro (HO6.out.2.1.below hbb) (And.intro (HO6.out.2.2.below hbb) h1))); clear h1 h2 hb hbb; clear c0 c1 c2 c3 c4 c5 c6 c7 c8; have c0 := blk_cell HR7.out 0 rfl; have c1 := blk_cell HR7.out 1 rfl; have c2 := blk_cell HR7.out 2 rfl; have c3 := blk_cell HR7.out 3 rfl; have c4 := blk_cell HR7.out 4 rfl; have c5 := blk_cell HR7.out 5 rfl; have c6 := blk_cell HR7.out 6 rfl; have c7 := blk_cell HR7.out 7 rfl; have c8 := blk_cell HR7.out 8 rfl))
      all_goals (
        clear c0 c1 c2 c3 c4 c5 c6 c7 c8
        go_wp2_with (fail)
        refine (numbers_any ra R rcap w8 HO8.out.2.2.1 (by have := HRL.out; omega)).mono ?_
        rintro e w9 ⟨na, ncap, rfl, h1, h2, hb⟩
        have HB9 := Lib.hid (below_self HB8.out hb)
        have HO9 := Lib.hid (And.intro (HO8.out.1.below hb) (And.intro (HO8.out.2.1.below hb) (And.intro (HO8.out.2.2.2.below hb) h1)))
        clear h1 h2 hb
        go_wp2_with (fail)
        refine (equal_int na R ncap rb R rbcap w9 HO9.out.2.2.2 HO9.out.2.2.1 (by have := HRL.out; omega)).mono ?_
        rintro e w10 ⟨rfl, hb⟩
        have HB10 := Lib.hid (below_self HB9.out hb)
        have HO10 := Lib.hid (And.intro (HO9.out.1.below hb) (HO9.out.2.1.below hb))
        clear hb
        go_wp2_with (fail)
        refine (equalLp_same oa xs ocap a cap w10 HO10.out.1 (HX.out.1.below HB10.out) (by omega)).mono ?_
        rintro e w11 ⟨rfl, hb⟩
        have HB11 := Lib.hid (below_self HB10.out hb)
        have HO11 := Lib.hid (HO10.out.2.below hb)
        clear hb
        go_wp2_with (fail)
        refine (equal_int om c mcap ac c ccap w11 HO11.out (HX.out.2.1.below HB11.out) (by omega)).mono ?_
        rintro e w12 ⟨rfl, hb⟩
        have HB12 := Lib.hid (below_self HB11.out hb)
        clear hb
        go_wp2_with (fail)
        refine (awake_any w12).mono ?_
        rintro e w13 ⟨rfl, hb⟩
        have HB13 := Lib.hid (below_self HB12.out hb)
        clear hb
        go_wp2_with (fail)
        go_ret
        exact ⟨rfl, HB13.out⟩)
      )
  · go_enter Tryz.func44, Tryz.ntmps44
    go_wp2_with (first | (go_at_call 10; refine (awake_any _).mono ?_; rintro e w13 ⟨rfl, hb⟩; have HB13 := Lib.hid (below_self HB0.out hb); clear hb))
    all_goals first
      | (exfalso; omega)
      | (go_ret; exact ⟨rfl, HB13.out⟩)
end Go.Proofs.YtmebmcipmemofaaGreat

namespace Go.Proofs.YtmebmcipmemofaaGreat
open Go.RowKit
attribute [local go_sem] Oper.semAt_some

set_option maxHeartbeats 2000000 in
set_option maxRecDepth 100000 in
theorem refWinter_any (stock store : Int) (a : Option Addr) (ds : List Dy) (cap : Nat) (w : World) (hx : Sl 6 Dy.cells w a ds) (hl : ds.length ≤ 1000000) :
    Calls Tryz.prog 29 #[wv stock store a ds.length cap] w fun e w' => e = .returned (.int .i64 (winE stock store ds)) ∧ Below w.heap.size w w' := by
  have hB0 : Below w.heap.size w (w.alloc (.cells #[.int .i64 stock, .int .i64 store, .slice a ds.length cap] 64)) := (Below.refl _ _).alloc (Nat.le_refl _) _
  have hR0 : (w.alloc (.cells #[.int .i64 stock, .int .i64 store, .slice a ds.length cap] 64)).heap[w.heap.size]? = some (.cells #[.int .i64 stock, .int .i64 store, .slice a ds.length cap] 64 (0, 0)) := heap_alloc_new _ _
  go_enter Tryz.func29, Tryz.ntmps29
  go_wp2_with (fail)
  generalize w.alloc (.cells #[.int .i64 stock, .int .i64 store, .slice a ds.length cap] 64) = W0 at hB0 hR0 ⊢
  have HB0 := Lib.hid hB0
  have HR0 := Lib.hid hR0
  have HX := Lib.hid hx
  have c0 := blk_cell HR0.out 0 rfl
  have c1 := blk_cell HR0.out 1 rfl
  have c2 := blk_cell HR0.out 2 rfl
  clear hB0 hR0 hx
  refine (outside_any _ _ _ _).mono ?_
  rintro e w' ⟨rfl, rfl⟩
  cases e1 : withinB store 1 1000000
  · have H0 : Hid (winE stock store ds = 3) := by show _ = _; rw [winE, if_neg (by rw [e1]; simp)]
    go_wp2_with (fail)
    go_ret
    exact ⟨by rw [H0.out]; rfl, HB0.out⟩
  · have E1 := Lib.hid e1
    go_wp2_with (fail)
    refine (outside_any _ _ _ _).mono ?_
    rintro e w' ⟨rfl, rfl⟩
    cases e2 : withinB stock 0 store
    · have H0 : Hid (winE stock store ds = 3) := by show _ = _; rw [winE, if_pos E1.out, if_neg (by rw [e2]; simp)]
      go_wp2_with (fail)
      go_ret
      exact ⟨by rw [H0.out]; rfl, HB0.out⟩
    · have E2 := Lib.hid e2
      by_cases h3 : withinB ds.length 1 60 = true
      · have hb : 1 ≤ ds.length ∧ ds.length ≤ 60 := by simp [withinB] at h3; omega
        have H0 : Hid (winE stock store ds = if ds.all dayB = true then 0 else 3) := by show _ = _; rw [winE, if_pos E1.out, if_pos E2.out, if_pos h3]
        obtain ⟨hb1, hb2⟩ := hb
        have g1 : decide (ds.length < 1) = false := decide_eq_false (by omega)
        have g2 : decide (60 < ds.length) = false := decide_eq_false (by omega)
        clear h3
        go_wp2_with (fail)
        clear g1 g2 c0 c1 c2
        go_loopw [3] (fun i wr => ∃ k : Nat, k ≤ ds.length ∧ i = .int .i64 k ∧ Hid ((ds.take k).all dayB = true) ∧ Hid (Below W0.heap.size W0 wr)) (fun i _ => ds.length - (intOf i).toNat)
        case atStart => exact ⟨0, Nat.zero_le _, rfl, rfl, Below.refl _ _⟩
        case round =>
          obtain ⟨k, hk, rfl, hall, hbw⟩ := hrel
          have c2 := blk_cell (blk_below HR0.out hbw.out) 2 rfl
          by_cases hlt : k < ds.length
          · obtain ⟨b, off, rfl, hbs, hc⟩ := HX.out (by omega)
            have hxk := List.getElem?_eq_getElem hlt
            have HT := Lib.hid (all_take_succ dayB ds k hlt)
            have HF := Lib.hid (all_false dayB ds k hlt)
            have HCE : Hid (∀ W', Below W0.heap.size W0 W' → ∀ (i : Nat) (u : Int), (Dy.cells ds[k])[i]? = some u → W'.cell? ⟨b, off + k * 6 + i, none⟩ = some (.int .i64 u)) := fun W' hW i u hu => ((below_self HB0.out hW).cell (p := ⟨b, off + k * 6 + i, none⟩) hbs).trans (hc k ds[k] i u hxk hu)
            clear hc hxk
            generalize ds[k] = d at *
            have d0 : wr.cell? ⟨b, off + k * 6, none⟩ = some (.int .i64 d.need.lo) := HCE.out _ hbw.out 0 _ rfl
            have d1 := HCE.out _ hbw.out 1 _ rfl
            go_wp2_with (fail)
            clear c2 d0 d1
            refine (wrong_any d.need _ _).mono ?_
            rintro e v0 ⟨rfl, hb⟩
            have HV0 := Lib.hid (below_self hbw.out hb)
            clear hb
            have c2 := blk_cell (blk_below HR0.out HV0.out) 2 rfl
            have d2 := HCE.out _ HV0.out 2 _ rfl
            have d3 := HCE.out _ HV0.out 3 _ rfl
            cases ee : boundedB d.need 100000
            · have HA : Hid (dayB d = false) := by show _ = _; simp [dayB, ee]
              go_wp2_with (fail)
              go_ret
              exact ⟨by rw [H0.out, if_neg (by rw [HF.out HA.out]; simp)]; rfl, below_self HB0.out HV0.out⟩
            · have E0q := Lib.hid ee
              go_wp2_with (fail)
              clear c2 d2 d3
              refine (wrong_any d.make _ _).mono ?_
              rintro e v1 ⟨rfl, hb⟩
              have HV1 := Lib.hid (below_self HV0.out hb)
              clear hb
              have c2 := blk_cell (blk_below HR0.out HV1.out) 2 rfl
              have d4 := HCE.out _ HV1.out 4 _ rfl
              have d5 := HCE.out _ HV1.out 5 _ rfl
              cases ee : boundedB d.make 100000
              · have HA : Hid (dayB d = false) := by show _ = _; simp [dayB, ee]
                go_wp2_with (fail)
                go_ret
                exact ⟨by rw [H0.out, if_neg (by rw [HF.out HA.out]; simp)]; rfl, below_self HB0.out HV1.out⟩
              · have E1q := Lib.hid ee
                go_wp2_with (fail)
                clear c2 d4 d5
                refine (wrong_any d.loss _ _).mono ?_
                rintro e v2 ⟨rfl, hb⟩
                have HV2 := Lib.hid (below_self HV1.out hb)
                clear hb
                have c2 := blk_cell (blk_below HR0.out HV2.out) 2 rfl
                cases ee : boundedB d.loss 100000
                · have HA : Hid (dayB d = false) := by show _ = _; simp [dayB, ee]
                  go_wp2_with (fail)
                  go_ret
                  exact ⟨by rw [H0.out, if_neg (by rw [HF.out HA.out]; simp)]; rfl, below_self HB0.out HV2.out⟩
                · have E2q := Lib.hid ee
                  have HA : Hid ((ds.take (k + 1)).all dayB = true) := by show _ = _; rw [HT.out, hall.out]; simp [dayB, E0q.out, E1q.out, E2q.out]
                  go_wp2_with (fail)
                  go_roundw
                  case rel => exact ⟨k + 1, by omega, by go_num, HA, HV2.out⟩
                  case measure => simp [intOf]; omega
          · have hke : k = ds.length := by omega
            subst hke
            go_wp2_with (fail)
            go_ret
            have h1 := hall.out
            rw [List.take_length] at h1
            exact ⟨by rw [H0.out, if_pos h1]; rfl, below_self HB0.out hbw.out⟩
      · have hb : ds.length < 1 ∨ 60 < ds.length := by simp [withinB] at h3; omega
        have H0 : Hid (winE stock store ds = 2) := by show _ = _; rw [winE, if_pos E1.out, if_pos E2.out, if_neg h3]
        clear h3
        go_wp2_with (fail)
        all_goals first
          | (exfalso; omega)
          | (go_ret; exact ⟨by rw [H0.out]; rfl, HB0.out⟩)
end Go.Proofs.YtmebmcipmemofaaGreat

namespace Go.Proofs.YtmebmcipmemofaaGreat
open Go.RowKit Go.Shelf

/-- Three lists of the call's own, above a block. -/
structure TQ (w0 W : World) (base : Nat) (vN vM vL : Value) (N M L : List Int) : Prop where
  b : Below w0.heap.size w0 W
  hb : w0.heap.size ≤ base
  hz : base ≤ W.heap.size
  r : R3 W base vN vM vL N M L
section
variable {w0 W W' : World} {base : Nat} {vN vM vL : Value} {N M L : List Int}
theorem TQ.rot (h : TQ w0 W base vN vM vL N M L) : TQ w0 W base vM vL vN M L N := ⟨h.b, h.hb, h.hz, h.r.rot⟩
theorem TQ.below (h : TQ w0 W base vN vM vL N M L) (hb : Below W.heap.size W W') : TQ w0 W' base vN vM vL N M L := ⟨below_self h.b hb, h.hb, Nat.le_trans h.hz hb.size, h.r.below hb⟩
theorem TQ.push (h : TQ w0 W base vN vM vL N M L) {x : Int} {g c : Nat} (ho : W'.ownsRow base 3 1 (.slice (some ⟨g, 0, none⟩) (N.length + 1) c) (N.length + 1) (N.map (Value.int .i64) ++ [.int .i64 x])) (hg : W.grownBy W' vN.ownBlock) (hat : vN.ownBlock = some g ∨ g = W.heap.size) :
    TQ w0 W' base (.slice (some ⟨g, 0, none⟩) (N.length + 1) c) vM vL (N ++ [x]) M L := by
  have hB := h.hb
  exact ⟨⟨hg.os.trans h.b.os, hg.tape.trans h.b.tape, hg.output.trans h.b.output, Nat.le_trans h.b.size hg.size, fun j hj => (hg.block j (Nat.lt_of_lt_of_le hj h.b.size) (fun e => by have := (h.r.n.lt j e.symm).1; omega)).trans (h.b.block j hj)⟩, hB, Nat.le_trans h.hz hg.size, h.r.push ho hg hat⟩
theorem TQ.keep (h : TQ w0 W base vN vM vL N M L) {X : Nat} {cs : Array Value} {t : TypeId} (ht : t ≠ 3) (hx : W.heap[X]? = some (.cells cs t (0, 0))) (hg : W.grownBy W' vN.ownBlock) : W'.heap[X]? = some (.cells cs t (0, 0)) := by
  refine (hg.block X (lt_of_block hx) (fun e => ?_)).trans hx
  rcases h.r.n.2 with ⟨e', _⟩ | ⟨g, c, cur, e', _, hgb, _⟩
  · rw [e'] at e; cases e
  · rw [e'] at e
    simp only [Value.ownBlock, Option.some.injEq] at e
    subst e
    rw [hx] at hgb
    simp at hgb
    exact ht hgb.2
theorem PD.make (h : TQ w0 W base vN vM vL N M L) (x : Int) : PD (W.alloc (.cells #[.int .i64 x] 3)) W.heap.size x vN vM vL :=
  ⟨heap_alloc_new _ _, fun g hg => Nat.ne_of_lt (h.r.n.lt g hg).2, fun g hg => Nat.ne_of_lt (h.r.m.lt g hg).2, fun g hg => Nat.ne_of_lt (h.r.l.lt g hg).2⟩
end
end Go.Proofs.YtmebmcipmemofaaGreat

namespace Go.Proofs.YtmebmcipmemofaaGreat
open Go.RowKit Go.Shelf
attribute [local go_sem] Oper.semAt_some

/-- A call that hands back three lists of numbers; nothing that was there before it has turned. -/
def OutEnds (w : World) (N M L : List Int) (e : Ending) (w' : World) : Prop := ∃ an cn am cm al cl, e = .returned (.tuple #[.slice an N.length cn, .slice am M.length cm, .slice al L.length cl]) ∧ IntSl w' an N ∧ IntSl w' am M ∧ IntSl w' al L ∧ Below w.heap.size w w'

set_option maxRecDepth 100000 in
set_option maxHeartbeats 20000000 in
theorem ends_worst (stock store : Int) (a : Option Addr) (ds : List Dy) (cap : Nat) (w : World) (hx : Sl 6 Dy.cells w a ds) (hl : ds.length ≤ 1000) :
    Calls Tryz.prog 32 #[wv stock store a ds.length cap, .bool true] w (OutEnds w (ds.map (fun d => d.need.hi)) (ds.map (fun d => d.make.lo)) (ds.map (fun d => d.loss.hi))) := by
  obtain ⟨i0, hi, hz0, hz1, hz2⟩ := info_parts Tryz.info3
  have hB0 : Below w.heap.size w (w.alloc (.cells #[.int .i64 stock, .int .i64 store, .slice a ds.length cap] 64)) := (Below.refl _ _).alloc (Nat.le_refl _) _
  have hR0 : (w.alloc (.cells #[.int .i64 stock, .int .i64 store, .slice a ds.length cap] 64)).heap[w.heap.size]? = some (.cells #[.int .i64 stock, .int .i64 store, .slice a ds.length cap] 64 (0, 0)) := heap_alloc_new _ _
  have hz : (w.alloc (.cells #[.int .i64 stock, .int .i64 store, .slice a ds.length cap] 64)).heap.size = w.heap.size + 1 := by simp
  have HX := Lib.hid hx
  clear hx
  go_enter Tryz.func32, Tryz.ntmps32
  go_wp2_with (fail)
  have HQ0 : Hid (TQ w (w.alloc (.cells #[.int .i64 stock, .int .i64 store, .slice a ds.length cap] 64)) (w.heap.size + 1) (.slice none 0 0) (.slice none 0 0) (.slice none 0 0) [] [] [] ∧ (w.alloc (.cells #[.int .i64 stock, .int .i64 store, .slice a ds.length cap] 64)).heap[w.heap.size]? = some (.cells #[.int .i64 stock, .int .i64 store, .slice a ds.length cap] 64 (0, 0))) := ⟨⟨hB0, by omega, by omega, ⟨World.ownsRow_nil _ _ _ _, World.ownsRow_nil _ _ _ _, World.ownsRow_nil _ _ _ _, (by intro i hi; cases hi), (by intro i hi; cases hi), (by intro i hi; cases hi)⟩⟩, hR0⟩
  generalize w.alloc (.cells #[.int .i64 stock, .int .i64 store, .slice a ds.length cap] 64) = Wb at HQ0 hB0 hR0 hz ⊢
  clear hB0 hR0 hz
  go_loopw [7, 8, 9, 10] (fun v7 v8 v9 i wr => ∃ (j : Nat) (vN vM vL : Value) (N M L : List Int), vN = v7 ∧ vM = v8 ∧ vL = v9 ∧ i = .int .i64 j ∧ j ≤ ds.length ∧ Hid (TQ w wr (w.heap.size + 1) vN vM vL N M L ∧ wr.heap[w.heap.size]? = some (.cells #[.int .i64 stock, .int .i64 store, .slice a ds.length cap] 64 (0, 0))) ∧ Hid (N = (ds.take j).map (fun d => d.need.hi) ∧ M = (ds.take j).map (fun d => d.make.lo) ∧ L = (ds.take j).map (fun d => d.loss.hi))) (fun _ _ _ i _ => ds.length - (intOf i).toNat)
  case atStart => exact ⟨0, _, _, _, [], [], [], rfl, rfl, rfl, rfl, Nat.zero_le _, HQ0.out, by simp, by simp, by simp⟩
  case round =>
    obtain ⟨j, vN, vM, vL, N, M, L, rfl, rfl, rfl, rfl, hj, hR, hE⟩ := hrel
    have b2 := blk_cell hR.out.2 2 rfl
    by_cases hlt : j < ds.length
    · obtain ⟨b, off, rfl, hbs, hc⟩ := HX.out (by omega)
      have HD : Hid (ds[j]? = some ds[j]) := List.getElem?_eq_getElem hlt
      have ck : ∀ (i : Nat) (u : Int), (Dy.cells ds[j])[i]? = some u → wr.cell? ⟨b, off + j * 6 + i, none⟩ = some (.int .i64 u) := fun i u hu => (hR.out.1.b.cell (p := ⟨b, off + j * 6 + i, none⟩) hbs).trans (hc j ds[j] i u (List.getElem?_eq_getElem hlt) hu)
      have d0 : wr.cell? ⟨b, off + j * 6, none⟩ = some (.int .i64 ds[j].need.lo) := ck 0 _ rfl
      have d1 := ck 1 _ rfl
      have d2 := ck 2 _ rfl
      have d3 := ck 3 _ rfl
      have d4 := ck 4 _ rfl
      have d5 := ck 5 _ rfl
      have hNb : N.length ≤ 1000 ∧ M.length ≤ 1000 ∧ L.length ≤ 1000 := by
        obtain ⟨h1, h2, h3⟩ := hE.out
        rw [h1, h2, h3, take_len hj, take_len hj, take_len hj]
        omega
      clear ck hc
      generalize ds[j] = d at *
      obtain ⟨Wx, hWx⟩ : ∃ Wx, wr.alloc (.cells #[.int .i64 d.need.lo, .int .i64 d.need.hi, .int .i64 d.make.lo, .int .i64 d.make.hi, .int .i64 d.loss.lo, .int .i64 d.loss.hi] 151) = Wx := ⟨_, rfl⟩
      have HW0 : Hid (TQ w Wx (w.heap.size + 1) vN vM vL N M L ∧ Wx.heap[wr.heap.size]? = some (.cells #[.int .i64 d.need.lo, .int .i64 d.need.hi, .int .i64 d.make.lo, .int .i64 d.make.hi, .int .i64 d.loss.lo, .int .i64 d.loss.hi] 151 (0, 0)) ∧ Wx.heap[w.heap.size]? = some (.cells #[.int .i64 stock, .int .i64 store, .slice (some ⟨b, off, none⟩) ds.length cap] 64 (0, 0))) := by
        rw [← hWx]
        exact ⟨hR.out.1.below ((Below.refl _ _).alloc (Nat.le_refl _) _), heap_alloc_new _ _, alk hR.out.2⟩
      go_upto_region 7 with (fail)
      clear hWx d0 d1 d2 d3 d4 d5 b2
      have HE2 : Hid (N ++ [d.need.hi] = (ds.take (j + 1)).map (fun d => d.need.hi) ∧ M ++ [d.make.lo] = (ds.take (j + 1)).map (fun d => d.make.lo) ∧ L ++ [d.loss.hi] = (ds.take (j + 1)).map (fun d => d.loss.hi)) := by
        obtain ⟨h1, h2, h3⟩ := hE.out
        exact ⟨by rw [h1]; exact take_more (f := fun d => d.need.hi) HD.out, by rw [h2]; exact take_more (f := fun d => d.make.lo) HD.out, by rw [h3]; exact take_more (f := fun d => d.loss.hi) HD.out⟩
      refine wp_region_split (S := fun W' => W'.heap[wr.heap.size]? = some (.cells #[.int .i64 d.need.lo, .int .i64 d.need.hi, .int .i64 d.make.lo, .int .i64 d.make.hi, .int .i64 d.loss.lo, .int .i64 d.loss.hi] 151 (0, 0))) [18, 19, 20] 18 (by kernel_rfl) (by kernel_rfl) rfl ?_
      have H0 : Hid (TQ w Wx.drew (w.heap.size + 1) vN vM vL N M L ∧ Wx.drew.heap[wr.heap.size]? = some (.cells #[.int .i64 d.need.lo, .int .i64 d.need.hi, .int .i64 d.make.lo, .int .i64 d.make.hi, .int .i64 d.loss.lo, .int .i64 d.loss.hi] 151 (0, 0)) ∧ Wx.drew.heap[w.heap.size]? = some (.cells #[.int .i64 stock, .int .i64 store, .slice (some ⟨b, off, none⟩) ds.length cap] 64 (0, 0))) := ⟨HW0.out.1.below (Below.refl _ _).drew, HW0.out.2⟩
      generalize Wx.drew = W0 at H0 ⊢
      rw [show firstL _ [18, 19, 20] = #[false, false, false, false, false, false, false, false, false, false, false, false, false, false, false, false, false, false, true, true, true] from by kernel_rfl]
      refine wpAnyH_take (i := 0) (v := vN) rfl (by kernel_rfl) (by kernel_rfl) (by kernel_rfl) (fun _ _ _ h => h) (Or.inl ⟨by rfl, by (intro W hSw; clear hSw; go_simp)⟩) H0.out.2.1 ?_
      simp only [Act.put, List.setIfInBounds_toArray, List.set_cons_zero]
      refine wpAnyH_take (i := 1) (v := .pointer (some ⟨wr.heap.size, 0, none⟩)) rfl (by kernel_rfl) (by kernel_rfl) (by kernel_rfl) (fun _ _ _ h => h) (Or.inl ⟨by rfl, by (intro W hSw; clear hSw; go_simp)⟩) H0.out.2.1 ?_
      simp only [Act.put, List.setIfInBounds_toArray, List.set_cons_zero, List.set_cons_succ]
      refine wpAnyH_take (i := 2) (v := .pointer (some ⟨wr.heap.size, 1, none⟩)) rfl (by kernel_rfl) (by kernel_rfl) (by kernel_rfl) (fun _ _ _ h => h) (Or.inl ⟨by rfl, by (intro W hSw; clear hSw; go_simp)⟩) H0.out.2.1 ?_
      simp only [Act.put, List.setIfInBounds_toArray, List.set_cons_zero, List.set_cons_succ]
      refine wpAnyH_take (i := 3) (v := .int .i64 d.need.hi) rfl (by kernel_rfl) (by kernel_rfl) (by kernel_rfl) (fun _ _ _ h => h) (Or.inl ⟨by rfl, by (intro W hSw; have c := blk_cell hSw 1 rfl; clear hSw; go_simp)⟩) H0.out.2.1 ?_
      simp only [Act.put, List.setIfInBounds_toArray, List.set_cons_zero, List.set_cons_succ]
      refine wpAnyH_take (i := 6) (v := vM) rfl (by kernel_rfl) (by kernel_rfl) (by kernel_rfl) (fun _ _ _ h => h) (Or.inl ⟨by rfl, by (intro W hSw; clear hSw; go_simp)⟩) H0.out.2.1 ?_
      simp only [Act.put, List.setIfInBounds_toArray, List.set_cons_zero, List.set_cons_succ]
      refine wpAnyH_take (i := 7) (v := .pointer (some ⟨wr.heap.size, 2, none⟩)) rfl (by kernel_rfl) (by kernel_rfl) (by kernel_rfl) (fun _ _ _ h => h) (Or.inl ⟨by rfl, by (intro W hSw; clear hSw; go_simp)⟩) H0.out.2.1 ?_
      simp only [Act.put, List.setIfInBounds_toArray, List.set_cons_zero, List.set_cons_succ]
      refine wpAnyH_take (i := 8) (v := .pointer (some ⟨wr.heap.size, 2, none⟩)) rfl (by kernel_rfl) (by kernel_rfl) (by kernel_rfl) (fun _ _ _ h => h) (Or.inl ⟨by rfl, by (intro W hSw; clear hSw; go_simp)⟩) H0.out.2.1 ?_
      simp only [Act.put, List.setIfInBounds_toArray, List.set_cons_zero, List.set_cons_succ]
      refine wpAnyH_take (i := 9) (v := .int .i64 d.make.lo) rfl (by kernel_rfl) (by kernel_rfl) (by kernel_rfl) (fun _ _ _ h => h) (Or.inl ⟨by rfl, by (intro W hSw; have c := blk_cell hSw 2 rfl; clear hSw; go_simp)⟩) H0.out.2.1 ?_
      simp only [Act.put, List.setIfInBounds_toArray, List.set_cons_zero, List.set_cons_succ]
      refine wpAnyH_take (i := 12) (v := vL) rfl (by kernel_rfl) (by kernel_rfl) (by kernel_rfl) (fun _ _ _ h => h) (Or.inl ⟨by rfl, by (intro W hSw; clear hSw; go_simp)⟩) H0.out.2.1 ?_
      simp only [Act.put, List.setIfInBounds_toArray, List.set_cons_zero, List.set_cons_succ]
      refine wpAnyH_take (i := 13) (v := .pointer (some ⟨wr.heap.size, 4, none⟩)) rfl (by kernel_rfl) (by kernel_rfl) (by kernel_rfl) (fun _ _ _ h => h) (Or.inl ⟨by rfl, by (intro W hSw; clear hSw; go_simp)⟩) H0.out.2.1 ?_
      simp only [Act.put, List.setIfInBounds_toArray, List.set_cons_zero, List.set_cons_succ]
      refine wpAnyH_take (i := 14) (v := .pointer (some ⟨wr.heap.size, 5, none⟩)) rfl (by kernel_rfl) (by kernel_rfl) (by kernel_rfl) (fun _ _ _ h => h) (Or.inl ⟨by rfl, by (intro W hSw; clear hSw; go_simp)⟩) H0.out.2.1 ?_
      simp only [Act.put, List.setIfInBounds_toArray, List.set_cons_zero, List.set_cons_succ]
      refine wpAnyH_take (i := 15) (v := .int .i64 d.loss.hi) rfl (by kernel_rfl) (by kernel_rfl) (by kernel_rfl) (fun _ _ _ h => h) (Or.inl ⟨by rfl, by (intro W hSw; have c := blk_cell hSw 5 rfl; clear hSw; go_simp)⟩) H0.out.2.1 ?_
      simp only [Act.put, List.setIfInBounds_toArray, List.set_cons_zero, List.set_cons_succ]
      refine wpAnyH_ready (rs := [4, 10, 16]) (by kernel_rfl) (by simp) ?_
      refine AllReadyH.cons (o := _) rfl (fun K hK => ?_) ?_
      · go_simp
        have H1 : Hid (TQ w (W0.alloc (.cells #[.int .i64 d.need.hi] 3)) (w.heap.size + 1) vN vM vL N M L ∧ (W0.alloc (.cells #[.int .i64 d.need.hi] 3)).heap[wr.heap.size]? = some (.cells #[.int .i64 d.need.lo, .int .i64 d.need.hi, .int .i64 d.make.lo, .int .i64 d.make.hi, .int .i64 d.loss.lo, .int .i64 d.loss.hi] 151 (0, 0)) ∧ (W0.alloc (.cells #[.int .i64 d.need.hi] 3)).heap[w.heap.size]? = some (.cells #[.int .i64 stock, .int .i64 store, .slice (some ⟨b, off, none⟩) ds.length cap] 64 (0, 0))) := ⟨H0.out.1.below ((Below.refl _ _).alloc (Nat.le_refl _) _), alk H0.out.2.1, alk H0.out.2.2⟩
        have P10 := Lib.hid (PD.make H0.out.1 d.need.hi)
        refine hK.out _ _ H1.out.2.1 (fun _ => ?_)
        clear hK
        generalize (W0.alloc (.cells #[.int .i64 d.need.hi] 3)) = W1 at H1 P10 ⊢
        simp only [List.setIfInBounds_toArray, List.set_cons_zero, List.set_cons_succ]
        refine wpAnyH_ready (rs := [5, 10, 16]) (by kernel_rfl) (by simp) ?_
        refine AllReadyH.cons (o := _) rfl (fun K hK => ?_) ?_
        · refine step_append_lies _ rfl (.tmp 25) (.tmp 29) 27 rfl (w.heap.size + 1) 3 i0 (.int .i64 0) 1 8 Tryz.underlying27 hi hz0 hz1 hz2 rfl (by decide) vN N.length (N.map (Value.int .i64)) rfl H1.out.1.r.n ⟨W0.heap.size, 0, none⟩ 1 1 [.int .i64 d.need.hi] rfl rfl P10.out.cells (by intro u hu; simp at hu; subst hu; rfl) (by decide) (by unfold maxLen; omega) (by omega) H1.out.1.hz _ rfl ?_
          intro g2 c2 W2 hown hgrow hat _
          have H2 : Hid (TQ w W2 (w.heap.size + 1) (.slice (some ⟨g2, 0, none⟩) (N.length + 1) c2) vM vL (N ++ [d.need.hi]) M L ∧ W2.heap[wr.heap.size]? = some (.cells #[.int .i64 d.need.lo, .int .i64 d.need.hi, .int .i64 d.make.lo, .int .i64 d.make.hi, .int .i64 d.loss.lo, .int .i64 d.loss.hi] 151 (0, 0)) ∧ W2.heap[w.heap.size]? = some (.cells #[.int .i64 stock, .int .i64 store, .slice (some ⟨b, off, none⟩) ds.length cap] 64 (0, 0))) := ⟨(H1.out.1).push hown hgrow hat, (H1.out.1).keep (by decide) H1.out.2.1 hgrow, (H1.out.1).keep (by decide) H1.out.2.2 hgrow⟩
          clear hown hgrow hat
          refine hK.out _ _ H2.out.2.1 (fun _ => ?_)
          clear hK
          simp only [Act.put, List.setIfInBounds_toArray, List.set_cons_zero, List.set_cons_succ]
          refine wpAnyH_ready (rs := [10, 16]) (by kernel_rfl) (by simp) ?_
          refine AllReadyH.cons (o := _) rfl (fun K hK => ?_) ?_
          · go_simp
            have H3 : Hid (TQ w (W2.alloc (.cells #[.int .i64 d.make.lo] 3)) (w.heap.size + 1) (.slice (some ⟨g2, 0, none⟩) (N.length + 1) c2) vM vL (N ++ [d.need.hi]) M L ∧ (W2.alloc (.cells #[.int .i64 d.make.lo] 3)).heap[wr.heap.size]? = some (.cells #[.int .i64 d.need.lo, .int .i64 d.need.hi, .int .i64 d.make.lo, .int .i64 d.make.hi, .int .i64 d.loss.lo, .int .i64 d.loss.hi] 151 (0, 0)) ∧ (W2.alloc (.cells #[.int .i64 d.make.lo] 3)).heap[w.heap.size]? = some (.cells #[.int .i64 stock, .int .i64 store, .slice (some ⟨b, off, none⟩) ds.length cap] 64 (0, 0))) := ⟨H2.out.1.below ((Below.refl _ _).alloc (Nat.le_refl _) _), alk H2.out.2.1, alk H2.out.2.2⟩
            have P31 := Lib.hid (PD.make H2.out.1 d.make.lo)
            refine hK.out _ _ H3.out.2.1 (fun _ => ?_)
            clear hK
            generalize (W2.alloc (.cells #[.int .i64 d.make.lo] 3)) = W3 at H3 P31 ⊢
            simp only [List.setIfInBounds_toArray, List.set_cons_zero, List.set_cons_succ]
            refine wpAnyH_ready (rs := [11, 16]) (by kernel_rfl) (by simp) ?_
            refine AllReadyH.cons (o := _) rfl (fun K hK => ?_) ?_
            · refine step_append_lies _ rfl (.tmp 31) (.tmp 35) 27 rfl (w.heap.size + 1) 3 i0 (.int .i64 0) 1 8 Tryz.underlying27 hi hz0 hz1 hz2 rfl (by decide) vM M.length (M.map (Value.int .i64)) rfl H3.out.1.rot.r.n ⟨W2.heap.size, 0, none⟩ 1 1 [.int .i64 d.make.lo] rfl rfl P31.out.cells (by intro u hu; simp at hu; subst hu; rfl) (by decide) (by unfold maxLen; omega) (by omega) H3.out.1.hz _ rfl ?_
              intro g4 c4 W4 hown hgrow hat _
              have H4 : Hid (TQ w W4 (w.heap.size + 1) (.slice (some ⟨g4, 0, none⟩) (M.length + 1) c4) vL (.slice (some ⟨g2, 0, none⟩) (N.length + 1) c2) (M ++ [d.make.lo]) L (N ++ [d.need.hi]) ∧ W4.heap[wr.heap.size]? = some (.cells #[.int .i64 d.need.lo, .int .i64 d.need.hi, .int .i64 d.make.lo, .int .i64 d.make.hi, .int .i64 d.loss.lo, .int .i64 d.loss.hi] 151 (0, 0)) ∧ W4.heap[w.heap.size]? = some (.cells #[.int .i64 stock, .int .i64 store, .slice (some ⟨b, off, none⟩) ds.length cap] 64 (0, 0))) := ⟨(H3.out.1.rot).push hown hgrow hat, (H3.out.1.rot).keep (by decide) H3.out.2.1 hgrow, (H3.out.1.rot).keep (by decide) H3.out.2.2 hgrow⟩
              clear hown hgrow hat
              refine hK.out _ _ H4.out.2.1 (fun _ => ?_)
              clear hK
              simp only [Act.put, List.setIfInBounds_toArray, List.set_cons_zero, List.set_cons_succ]
              refine wpAnyH_ready (rs := [16]) (by kernel_rfl) (by simp) ?_
              refine AllReadyH.cons (o := _) rfl (fun K hK => ?_) AllReadyH.nil
              go_simp
              have H5 : Hid (TQ w (W4.alloc (.cells #[.int .i64 d.loss.hi] 3)) (w.heap.size + 1) (.slice (some ⟨g4, 0, none⟩) (M.length + 1) c4) vL (.slice (some ⟨g2, 0, none⟩) (N.length + 1) c2) (M ++ [d.make.lo]) L (N ++ [d.need.hi]) ∧ (W4.alloc (.cells #[.int .i64 d.loss.hi] 3)).heap[wr.heap.size]? = some (.cells #[.int .i64 d.need.lo, .int .i64 d.need.hi, .int .i64 d.make.lo, .int .i64 d.make.hi, .int .i64 d.loss.lo, .int .i64 d.loss.hi] 151 (0, 0)) ∧ (W4.alloc (.cells #[.int .i64 d.loss.hi] 3)).heap[w.heap.size]? = some (.cells #[.int .i64 stock, .int .i64 store, .slice (some ⟨b, off, none⟩) ds.length cap] 64 (0, 0))) := ⟨H4.out.1.below ((Below.refl _ _).alloc (Nat.le_refl _) _), alk H4.out.2.1, alk H4.out.2.2⟩
              have P52 := Lib.hid (PD.make H4.out.1 d.loss.hi)
              refine hK.out _ _ H5.out.2.1 (fun _ => ?_)
              clear hK
              generalize (W4.alloc (.cells #[.int .i64 d.loss.hi] 3)) = W5 at H5 P52 ⊢
              simp only [List.setIfInBounds_toArray, List.set_cons_zero, List.set_cons_succ]
              refine wpAnyH_ready (rs := [17]) (by kernel_rfl) (by simp) ?_
              refine AllReadyH.cons (o := _) rfl (fun K hK => ?_) AllReadyH.nil
              refine step_append_lies _ rfl (.tmp 37) (.tmp 41) 27 rfl (w.heap.size + 1) 3 i0 (.int .i64 0) 1 8 Tryz.underlying27 hi hz0 hz1 hz2 rfl (by decide) vL L.length (L.map (Value.int .i64)) rfl H5.out.1.rot.r.n ⟨W4.heap.size, 0, none⟩ 1 1 [.int .i64 d.loss.hi] rfl rfl P52.out.cells (by intro u hu; simp at hu; subst hu; rfl) (by decide) (by unfold maxLen; omega) (by omega) H5.out.1.hz _ rfl ?_
              intro g6 c6 W6 hown hgrow hat _
              have H6 : Hid (TQ w W6 (w.heap.size + 1) (.slice (some ⟨g6, 0, none⟩) (L.length + 1) c6) (.slice (some ⟨g2, 0, none⟩) (N.length + 1) c2) (.slice (some ⟨g4, 0, none⟩) (M.length + 1) c4) (L ++ [d.loss.hi]) (N ++ [d.need.hi]) (M ++ [d.make.lo]) ∧ W6.heap[wr.heap.size]? = some (.cells #[.int .i64 d.need.lo, .int .i64 d.need.hi, .int .i64 d.make.lo, .int .i64 d.make.hi, .int .i64 d.loss.lo, .int .i64 d.loss.hi] 151 (0, 0)) ∧ W6.heap[w.heap.size]? = some (.cells #[.int .i64 stock, .int .i64 store, .slice (some ⟨b, off, none⟩) ds.length cap] 64 (0, 0))) := ⟨(H5.out.1.rot).push hown hgrow hat, (H5.out.1.rot).keep (by decide) H5.out.2.1 hgrow, (H5.out.1.rot).keep (by decide) H5.out.2.2 hgrow⟩
              clear hown hgrow hat
              refine hK.out _ _ H6.out.2.1 (fun _ => ?_)
              clear hK
              simp only [Act.put, List.setIfInBounds_toArray, List.set_cons_zero, List.set_cons_succ]
              refine wpAnyH_done (by kernel_rfl) ?_ _
              show wpList _ _ _ (opsAt _ [18, 19, 20]) _ _
              simp only [opsAt, List.filterMap_cons, List.filterMap_nil, List.getElem?_toArray, List.getElem?_cons_succ, List.getElem?_cons_zero]
              have HZ := H6.out.1.rot
              go_wp2_with (fail)
              go_roundw
              case rel => exact ⟨j + 1, _, _, _, _, _, _, rfl, rfl, rfl, by go_num, by omega, ⟨HZ, H6.out.2.2⟩, HE2⟩
              case measure => simp [intOf]; omega
            refine AllReadyH.cons (o := _) rfl (fun K hK => ?_) AllReadyH.nil
            go_simp
            have H7 : Hid (TQ w (W3.alloc (.cells #[.int .i64 d.loss.hi] 3)) (w.heap.size + 1) (.slice (some ⟨g2, 0, none⟩) (N.length + 1) c2) vM vL (N ++ [d.need.hi]) M L ∧ (W3.alloc (.cells #[.int .i64 d.loss.hi] 3)).heap[wr.heap.size]? = some (.cells #[.int .i64 d.need.lo, .int .i64 d.need.hi, .int .i64 d.make.lo, .int .i64 d.make.hi, .int .i64 d.loss.lo, .int .i64 d.loss.hi] 151 (0, 0)) ∧ (W3.alloc (.cells #[.int .i64 d.loss.hi] 3)).heap[w.heap.size]? = some (.cells #[.int .i64 stock, .int .i64 store, .slice (some ⟨b, off, none⟩) ds.length cap] 64 (0, 0))) := ⟨H3.out.1.below ((Below.refl _ _).alloc (Nat.le_refl _) _), alk H3.out.2.1, alk H3.out.2.2⟩
            have P71 := Lib.hid (P31.out.below ((Below.refl W3.heap.size W3).alloc (Nat.le_refl _) (.cells #[.int .i64 d.loss.hi] 3)))
            have P72 := Lib.hid (PD.make H3.out.1 d.loss.hi)
            refine hK.out _ _ H7.out.2.1 (fun _ => ?_)
            clear hK
            generalize (W3.alloc (.cells #[.int .i64 d.loss.hi] 3)) = W7 at H7 P71 P72 ⊢
            simp only [List.setIfInBounds_toArray, List.set_cons_zero, List.set_cons_succ]
            refine wpAnyH_ready (rs := [11]) (by kernel_rfl) (by simp) ?_
            refine AllReadyH.cons (o := _) rfl (fun K hK => ?_) AllReadyH.nil
            refine step_append_lies _ rfl (.tmp 31) (.tmp 35) 27 rfl (w.heap.size + 1) 3 i0 (.int .i64 0) 1 8 Tryz.underlying27 hi hz0 hz1 hz2 rfl (by decide) vM M.length (M.map (Value.int .i64)) rfl H7.out.1.rot.r.n ⟨W2.heap.size, 0, none⟩ 1 1 [.int .i64 d.make.lo] rfl rfl P71.out.cells (by intro u hu; simp at hu; subst hu; rfl) (by decide) (by unfold maxLen; omega) (by omega) H7.out.1.hz _ rfl ?_
            intro g8 c8 W8 hown hgrow hat _
            have H8 : Hid (TQ w W8 (w.heap.size + 1) (.slice (some ⟨g8, 0, none⟩) (M.length + 1) c8) vL (.slice (some ⟨g2, 0, none⟩) (N.length + 1) c2) (M ++ [d.make.lo]) L (N ++ [d.need.hi]) ∧ W8.heap[wr.heap.size]? = some (.cells #[.int .i64 d.need.lo, .int .i64 d.need.hi, .int .i64 d.make.lo, .int .i64 d.make.hi, .int .i64 d.loss.lo, .int .i64 d.loss.hi] 151 (0, 0)) ∧ W8.heap[w.heap.size]? = some (.cells #[.int .i64 stock, .int .i64 store, .slice (some ⟨b, off, none⟩) ds.length cap] 64 (0, 0))) := ⟨(H7.out.1.rot).push hown hgrow hat, (H7.out.1.rot).keep (by decide) H7.out.2.1 hgrow, (H7.out.1.rot).keep (by decide) H7.out.2.2 hgrow⟩
            have P82 := Lib.hid (PD.push (n := M.length + 1) (c := c8) (P72.out.rot) hgrow hat)
            clear hown hgrow hat
            refine hK.out _ _ H8.out.2.1 (fun _ => ?_)
            clear hK
            simp only [Act.put, List.setIfInBounds_toArray, List.set_cons_zero, List.set_cons_succ]
            refine wpAnyH_ready (rs := [17]) (by kernel_rfl) (by simp) ?_
            refine AllReadyH.cons (o := _) rfl (fun K hK => ?_) AllReadyH.nil
            refine step_append_lies _ rfl (.tmp 37) (.tmp 41) 27 rfl (w.heap.size + 1) 3 i0 (.int .i64 0) 1 8 Tryz.underlying27 hi hz0 hz1 hz2 rfl (by decide) vL L.length (L.map (Value.int .i64)) rfl H8.out.1.rot.r.n ⟨W3.heap.size, 0, none⟩ 1 1 [.int .i64 d.loss.hi] rfl rfl P82.out.cells (by intro u hu; simp at hu; subst hu; rfl) (by decide) (by unfold maxLen; omega) (by omega) H8.out.1.hz _ rfl ?_
            intro g9 c9 W9 hown hgrow hat _
            have H9 : Hid (TQ w W9 (w.heap.size + 1) (.slice (some ⟨g9, 0, none⟩) (L.length + 1) c9) (.slice (some ⟨g2, 0, none⟩) (N.length + 1) c2) (.slice (some ⟨g8, 0, none⟩) (M.length + 1) c8) (L ++ [d.loss.hi]) (N ++ [d.need.hi]) (M ++ [d.make.lo]) ∧ W9.heap[wr.heap.size]? = some (.cells #[.int .i64 d.need.lo, .int .i64 d.need.hi, .int .i64 d.make.lo, .int .i64 d.make.hi, .int .i64 d.loss.lo, .int .i64 d.loss.hi] 151 (0, 0)) ∧ W9.heap[w.heap.size]? = some (.cells #[.int .i64 stock, .int .i64 store, .slice (some ⟨b, off, none⟩) ds.length cap] 64 (0, 0))) := ⟨(H8.out.1.rot).push hown hgrow hat, (H8.out.1.rot).keep (by decide) H8.out.2.1 hgrow, (H8.out.1.rot).keep (by decide) H8.out.2.2 hgrow⟩
            clear hown hgrow hat
            refine hK.out _ _ H9.out.2.1 (fun _ => ?_)
            clear hK
            simp only [Act.put, List.setIfInBounds_toArray, List.set_cons_zero, List.set_cons_succ]
            refine wpAnyH_done (by kernel_rfl) ?_ _
            show wpList _ _ _ (opsAt _ [18, 19, 20]) _ _
            simp only [opsAt, List.filterMap_cons, List.filterMap_nil, List.getElem?_toArray, List.getElem?_cons_succ, List.getElem?_cons_zero]
            have HZ := H9.out.1.rot
            go_wp2_with (fail)
            go_roundw
            case rel => exact ⟨j + 1, _, _, _, _, _, _, rfl, rfl, rfl, by go_num, by omega, ⟨HZ, H9.out.2.2⟩, HE2⟩
            case measure => simp [intOf]; omega
          refine AllReadyH.cons (o := _) rfl (fun K hK => ?_) AllReadyH.nil
          go_simp
          have H10 : Hid (TQ w (W2.alloc (.cells #[.int .i64 d.loss.hi] 3)) (w.heap.size + 1) (.slice (some ⟨g2, 0, none⟩) (N.length + 1) c2) vM vL (N ++ [d.need.hi]) M L ∧ (W2.alloc (.cells #[.int .i64 d.loss.hi] 3)).heap[wr.heap.size]? = some (.cells #[.int .i64 d.need.lo, .int .i64 d.need.hi, .int .i64 d.make.lo, .int .i64 d.make.hi, .int .i64 d.loss.lo, .int .i64 d.loss.hi] 151 (0, 0)) ∧ (W2.alloc (.cells #[.int .i64 d.loss.hi] 3)).heap[w.heap.size]? = some (.cells #[.int .i64 stock, .int .i64 store, .slice (some ⟨b, off, none⟩) ds.length cap] 64 (0, 0))) := ⟨H2.out.1.below ((Below.refl _ _).alloc (Nat.le_refl _) _), alk H2.out.2.1, alk H2.out.2.2⟩
          have P102 := Lib.hid (PD.make H2.out.1 d.loss.hi)
          refine hK.out _ _ H10.out.2.1 (fun _ => ?_)
          clear hK
          generalize (W2.alloc (.cells #[.int .i64 d.loss.hi] 3)) = W10 at H10 P102 ⊢
          simp only [List.setIfInBounds_toArray, List.set_cons_zero, List.set_cons_succ]
          refine wpAnyH_ready (rs := [10]) (by kernel_rfl) (by simp) ?_
          refine AllReadyH.cons (o := _) rfl (fun K hK => ?_) AllReadyH.nil
          go_simp
          have H11 : Hid (TQ w (W10.alloc (.cells #[.int .i64 d.make.lo] 3)) (w.heap.size + 1) (.slice (some ⟨g2, 0, none⟩) (N.length + 1) c2) vM vL (N ++ [d.need.hi]) M L ∧ (W10.alloc (.cells #[.int .i64 d.make.lo] 3)).heap[wr.heap.size]? = some (.cells #[.int .i64 d.need.lo, .int .i64 d.need.hi, .int .i64 d.make.lo, .int .i64 d.make.hi, .int .i64 d.loss.lo, .int .i64 d.loss.hi] 151 (0, 0)) ∧ (W10.alloc (.cells #[.int .i64 d.make.lo] 3)).heap[w.heap.size]? = some (.cells #[.int .i64 stock, .int .i64 store, .slice (some ⟨b, off, none⟩) ds.length cap] 64 (0, 0))) := ⟨H10.out.1.below ((Below.refl _ _).alloc (Nat.le_refl _) _), alk H10.out.2.1, alk H10.out.2.2⟩
          have P112 := Lib.hid (P102.out.below ((Below.refl W10.heap.size W10).alloc (Nat.le_refl _) (.cells #[.int .i64 d.make.lo] 3)))
          have P111 := Lib.hid (PD.make H10.out.1 d.make.lo)
          refine hK.out _ _ H11.out.2.1 (fun _ => ?_)
          clear hK
          generalize (W10.alloc (.cells #[.int .i64 d.make.lo] 3)) = W11 at H11 P112 P111 ⊢
          simp only [List.setIfInBounds_toArray, List.set_cons_zero, List.set_cons_succ]
          refine wpAnyH_ready (rs := [11]) (by kernel_rfl) (by simp) ?_
          refine AllReadyH.cons (o := _) rfl (fun K hK => ?_) AllReadyH.nil
          refine step_append_lies _ rfl (.tmp 31) (.tmp 35) 27 rfl (w.heap.size + 1) 3 i0 (.int .i64 0) 1 8 Tryz.underlying27 hi hz0 hz1 hz2 rfl (by decide) vM M.length (M.map (Value.int .i64)) rfl H11.out.1.rot.r.n ⟨W10.heap.size, 0, none⟩ 1 1 [.int .i64 d.make.lo] rfl rfl P111.out.cells (by intro u hu; simp at hu; subst hu; rfl) (by decide) (by unfold maxLen; omega) (by omega) H11.out.1.hz _ rfl ?_
          intro g12 c12 W12 hown hgrow hat _
          have H12 : Hid (TQ w W12 (w.heap.size + 1) (.slice (some ⟨g12, 0, none⟩) (M.length + 1) c12) vL (.slice (some ⟨g2, 0, none⟩) (N.length + 1) c2) (M ++ [d.make.lo]) L (N ++ [d.need.hi]) ∧ W12.heap[wr.heap.size]? = some (.cells #[.int .i64 d.need.lo, .int .i64 d.need.hi, .int .i64 d.make.lo, .int .i64 d.make.hi, .int .i64 d.loss.lo, .int .i64 d.loss.hi] 151 (0, 0)) ∧ W12.heap[w.heap.size]? = some (.cells #[.int .i64 stock, .int .i64 store, .slice (some ⟨b, off, none⟩) ds.length cap] 64 (0, 0))) := ⟨(H11.out.1.rot).push hown hgrow hat, (H11.out.1.rot).keep (by decide) H11.out.2.1 hgrow, (H11.out.1.rot).keep (by decide) H11.out.2.2 hgrow⟩
          have P122 := Lib.hid (PD.push (n := M.length + 1) (c := c12) (P112.out.rot) hgrow hat)
          clear hown hgrow hat
          refine hK.out _ _ H12.out.2.1 (fun _ => ?_)
          clear hK
          simp only [Act.put, List.setIfInBounds_toArray, List.set_cons_zero, List.set_cons_succ]
          refine wpAnyH_ready (rs := [17]) (by kernel_rfl) (by simp) ?_
          refine AllReadyH.cons (o := _) rfl (fun K hK => ?_) AllReadyH.nil
          refine step_append_lies _ rfl (.tmp 37) (.tmp 41) 27 rfl (w.heap.size + 1) 3 i0 (.int .i64 0) 1 8 Tryz.underlying27 hi hz0 hz1 hz2 rfl (by decide) vL L.length (L.map (Value.int .i64)) rfl H12.out.1.rot.r.n ⟨W2.heap.size, 0, none⟩ 1 1 [.int .i64 d.loss.hi] rfl rfl P122.out.cells (by intro u hu; simp at hu; subst hu; rfl) (by decide) (by unfold maxLen; omega) (by omega) H12.out.1.hz _ rfl ?_
          intro g13 c13 W13 hown hgrow hat _
          have H13 : Hid (TQ w W13 (w.heap.size + 1) (.slice (some ⟨g13, 0, none⟩) (L.length + 1) c13) (.slice (some ⟨g2, 0, none⟩) (N.length + 1) c2) (.slice (some ⟨g12, 0, none⟩) (M.length + 1) c12) (L ++ [d.loss.hi]) (N ++ [d.need.hi]) (M ++ [d.make.lo]) ∧ W13.heap[wr.heap.size]? = some (.cells #[.int .i64 d.need.lo, .int .i64 d.need.hi, .int .i64 d.make.lo, .int .i64 d.make.hi, .int .i64 d.loss.lo, .int .i64 d.loss.hi] 151 (0, 0)) ∧ W13.heap[w.heap.size]? = some (.cells #[.int .i64 stock, .int .i64 store, .slice (some ⟨b, off, none⟩) ds.length cap] 64 (0, 0))) := ⟨(H12.out.1.rot).push hown hgrow hat, (H12.out.1.rot).keep (by decide) H12.out.2.1 hgrow, (H12.out.1.rot).keep (by decide) H12.out.2.2 hgrow⟩
          clear hown hgrow hat
          refine hK.out _ _ H13.out.2.1 (fun _ => ?_)
          clear hK
          simp only [Act.put, List.setIfInBounds_toArray, List.set_cons_zero, List.set_cons_succ]
          refine wpAnyH_done (by kernel_rfl) ?_ _
          show wpList _ _ _ (opsAt _ [18, 19, 20]) _ _
          simp only [opsAt, List.filterMap_cons, List.filterMap_nil, List.getElem?_toArray, List.getElem?_cons_succ, List.getElem?_cons_zero]
          have HZ := H13.out.1.rot
          go_wp2_with (fail)
          go_roundw
          case rel => exact ⟨j + 1, _, _, _, _, _, _, rfl, rfl, rfl, by go_num, by omega, ⟨HZ, H13.out.2.2⟩, HE2⟩
          case measure => simp [intOf]; omega
        refine AllReadyH.cons (o := _) rfl (fun K hK => ?_) ?_
        · go_simp
          have H14 : Hid (TQ w (W1.alloc (.cells #[.int .i64 d.make.lo] 3)) (w.heap.size + 1) vN vM vL N M L ∧ (W1.alloc (.cells #[.int .i64 d.make.lo] 3)).heap[wr.heap.size]? = some (.cells #[.int .i64 d.need.lo, .int .i64 d.need.hi, .int .i64 d.make.lo, .int .i64 d.make.hi, .int .i64 d.loss.lo, .int .i64 d.loss.hi] 151 (0, 0)) ∧ (W1.alloc (.cells #[.int .i64 d.make.lo] 3)).heap[w.heap.size]? = some (.cells #[.int .i64 stock, .int .i64 store, .slice (some ⟨b, off, none⟩) ds.length cap] 64 (0, 0))) := ⟨H1.out.1.below ((Below.refl _ _).alloc (Nat.le_refl _) _), alk H1.out.2.1, alk H1.out.2.2⟩
          have P140 := Lib.hid (P10.out.below ((Below.refl W1.heap.size W1).alloc (Nat.le_refl _) (.cells #[.int .i64 d.make.lo] 3)))
          have P141 := Lib.hid (PD.make H1.out.1 d.make.lo)
          refine hK.out _ _ H14.out.2.1 (fun _ => ?_)
          clear hK
          generalize (W1.alloc (.cells #[.int .i64 d.make.lo] 3)) = W14 at H14 P140 P141 ⊢
          simp only [List.setIfInBounds_toArray, List.set_cons_zero, List.set_cons_succ]
          refine wpAnyH_ready (rs := [5, 16]) (by kernel_rfl) (by simp) ?_
          refine AllReadyH.cons (o := _) rfl (fun K hK => ?_) ?_
          · refine step_append_lies _ rfl (.tmp 25) (.tmp 29) 27 rfl (w.heap.size + 1) 3 i0 (.int .i64 0) 1 8 Tryz.underlying27 hi hz0 hz1 hz2 rfl (by decide) vN N.length (N.map (Value.int .i64)) rfl H14.out.1.r.n ⟨W0.heap.size, 0, none⟩ 1 1 [.int .i64 d.need.hi] rfl rfl P140.out.cells (by intro u hu; simp at hu; subst hu; rfl) (by decide) (by unfold maxLen; omega) (by omega) H14.out.1.hz _ rfl ?_
            intro g15 c15 W15 hown hgrow hat _
            have H15 : Hid (TQ w W15 (w.heap.size + 1) (.slice (some ⟨g15, 0, none⟩) (N.length + 1) c15) vM vL (N ++ [d.need.hi]) M L ∧ W15.heap[wr.heap.size]? = some (.cells #[.int .i64 d.need.lo, .int .i64 d.need.hi, .int .i64 d.make.lo, .int .i64 d.make.hi, .int .i64 d.loss.lo, .int .i64 d.loss.hi] 151 (0, 0)) ∧ W15.heap[w.heap.size]? = some (.cells #[.int .i64 stock, .int .i64 store, .slice (some ⟨b, off, none⟩) ds.length cap] 64 (0, 0))) := ⟨(H14.out.1).push hown hgrow hat, (H14.out.1).keep (by decide) H14.out.2.1 hgrow, (H14.out.1).keep (by decide) H14.out.2.2 hgrow⟩
            have P151 := Lib.hid (PD.push (n := N.length + 1) (c := c15) (P141.out) hgrow hat)
            clear hown hgrow hat
            refine hK.out _ _ H15.out.2.1 (fun _ => ?_)
            clear hK
            simp only [Act.put, List.setIfInBounds_toArray, List.set_cons_zero, List.set_cons_succ]
            refine wpAnyH_ready (rs := [11, 16]) (by kernel_rfl) (by simp) ?_
            refine AllReadyH.cons (o := _) rfl (fun K hK => ?_) ?_
            · refine step_append_lies _ rfl (.tmp 31) (.tmp 35) 27 rfl (w.heap.size + 1) 3 i0 (.int .i64 0) 1 8 Tryz.underlying27 hi hz0 hz1 hz2 rfl (by decide) vM M.length (M.map (Value.int .i64)) rfl H15.out.1.rot.r.n ⟨W1.heap.size, 0, none⟩ 1 1 [.int .i64 d.make.lo] rfl rfl P151.out.cells (by intro u hu; simp at hu; subst hu; rfl) (by decide) (by unfold maxLen; omega) (by omega) H15.out.1.hz _ rfl ?_
              intro g16 c16 W16 hown hgrow hat _
              have H16 : Hid (TQ w W16 (w.heap.size + 1) (.slice (some ⟨g16, 0, none⟩) (M.length + 1) c16) vL (.slice (some ⟨g15, 0, none⟩) (N.length + 1) c15) (M ++ [d.make.lo]) L (N ++ [d.need.hi]) ∧ W16.heap[wr.heap.size]? = some (.cells #[.int .i64 d.need.lo, .int .i64 d.need.hi, .int .i64 d.make.lo, .int .i64 d.make.hi, .int .i64 d.loss.lo, .int .i64 d.loss.hi] 151 (0, 0)) ∧ W16.heap[w.heap.size]? = some (.cells #[.int .i64 stock, .int .i64 store, .slice (some ⟨b, off, none⟩) ds.length cap] 64 (0, 0))) := ⟨(H15.out.1.rot).push hown hgrow hat, (H15.out.1.rot).keep (by decide) H15.out.2.1 hgrow, (H15.out.1.rot).keep (by decide) H15.out.2.2 hgrow⟩
              clear hown hgrow hat
              refine hK.out _ _ H16.out.2.1 (fun _ => ?_)
              clear hK
              simp only [Act.put, List.setIfInBounds_toArray, List.set_cons_zero, List.set_cons_succ]
              refine wpAnyH_ready (rs := [16]) (by kernel_rfl) (by simp) ?_
              refine AllReadyH.cons (o := _) rfl (fun K hK => ?_) AllReadyH.nil
              go_simp
              have H17 : Hid (TQ w (W16.alloc (.cells #[.int .i64 d.loss.hi] 3)) (w.heap.size + 1) (.slice (some ⟨g16, 0, none⟩) (M.length + 1) c16) vL (.slice (some ⟨g15, 0, none⟩) (N.length + 1) c15) (M ++ [d.make.lo]) L (N ++ [d.need.hi]) ∧ (W16.alloc (.cells #[.int .i64 d.loss.hi] 3)).heap[wr.heap.size]? = some (.cells #[.int .i64 d.need.lo, .int .i64 d.need.hi, .int .i64 d.make.lo, .int .i64 d.make.hi, .int .i64 d.loss.lo, .int .i64 d.loss.hi] 151 (0, 0)) ∧ (W16.alloc (.cells #[.int .i64 d.loss.hi] 3)).heap[w.heap.size]? = some (.cells #[.int .i64 stock, .int .i64 store, .slice (some ⟨b, off, none⟩) ds.length cap] 64 (0, 0))) := ⟨H16.out.1.below ((Below.refl _ _).alloc (Nat.le_refl _) _), alk H16.out.2.1, alk H16.out.2.2⟩
              have P172 := Lib.hid (PD.make H16.out.1 d.loss.hi)
              refine hK.out _ _ H17.out.2.1 (fun _ => ?_)
              clear hK
              generalize (W16.alloc (.cells #[.int .i64 d.loss.hi] 3)) = W17 at H17 P172 ⊢
              simp only [List.setIfInBounds_toArray, List.set_cons_zero, List.set_cons_succ]
              refine wpAnyH_ready (rs := [17]) (by kernel_rfl) (by simp) ?_
              refine AllReadyH.cons (o := _) rfl (fun K hK => ?_) AllReadyH.nil
              refine step_append_lies _ rfl (.tmp 37) (.tmp 41) 27 rfl (w.heap.size + 1) 3 i0 (.int .i64 0) 1 8 Tryz.underlying27 hi hz0 hz1 hz2 rfl (by decide) vL L.length (L.map (Value.int .i64)) rfl H17.out.1.rot.r.n ⟨W16.heap.size, 0, none⟩ 1 1 [.int .i64 d.loss.hi] rfl rfl P172.out.cells (by intro u hu; simp at hu; subst hu; rfl) (by decide) (by unfold maxLen; omega) (by omega) H17.out.1.hz _ rfl ?_
              intro g18 c18 W18 hown hgrow hat _
              have H18 : Hid (TQ w W18 (w.heap.size + 1) (.slice (some ⟨g18, 0, none⟩) (L.length + 1) c18) (.slice (some ⟨g15, 0, none⟩) (N.length + 1) c15) (.slice (some ⟨g16, 0, none⟩) (M.length + 1) c16) (L ++ [d.loss.hi]) (N ++ [d.need.hi]) (M ++ [d.make.lo]) ∧ W18.heap[wr.heap.size]? = some (.cells #[.int .i64 d.need.lo, .int .i64 d.need.hi, .int .i64 d.make.lo, .int .i64 d.make.hi, .int .i64 d.loss.lo, .int .i64 d.loss.hi] 151 (0, 0)) ∧ W18.heap[w.heap.size]? = some (.cells #[.int .i64 stock, .int .i64 store, .slice (some ⟨b, off, none⟩) ds.length cap] 64 (0, 0))) := ⟨(H17.out.1.rot).push hown hgrow hat, (H17.out.1.rot).keep (by decide) H17.out.2.1 hgrow, (H17.out.1.rot).keep (by decide) H17.out.2.2 hgrow⟩
              clear hown hgrow hat
              refine hK.out _ _ H18.out.2.1 (fun _ => ?_)
              clear hK
              simp only [Act.put, List.setIfInBounds_toArray, List.set_cons_zero, List.set_cons_succ]
              refine wpAnyH_done (by kernel_rfl) ?_ _
              show wpList _ _ _ (opsAt _ [18, 19, 20]) _ _
              simp only [opsAt, List.filterMap_cons, List.filterMap_nil, List.getElem?_toArray, List.getElem?_cons_succ, List.getElem?_cons_zero]
              have HZ := H18.out.1.rot
              go_wp2_with (fail)
              go_roundw
              case rel => exact ⟨j + 1, _, _, _, _, _, _, rfl, rfl, rfl, by go_num, by omega, ⟨HZ, H18.out.2.2⟩, HE2⟩
              case measure => simp [intOf]; omega
            refine AllReadyH.cons (o := _) rfl (fun K hK => ?_) AllReadyH.nil
            go_simp
            have H19 : Hid (TQ w (W15.alloc (.cells #[.int .i64 d.loss.hi] 3)) (w.heap.size + 1) (.slice (some ⟨g15, 0, none⟩) (N.length + 1) c15) vM vL (N ++ [d.need.hi]) M L ∧ (W15.alloc (.cells #[.int .i64 d.loss.hi] 3)).heap[wr.heap.size]? = some (.cells #[.int .i64 d.need.lo, .int .i64 d.need.hi, .int .i64 d.make.lo, .int .i64 d.make.hi, .int .i64 d.loss.lo, .int .i64 d.loss.hi] 151 (0, 0)) ∧ (W15.alloc (.cells #[.int .i64 d.loss.hi] 3)).heap[w.heap.size]? = some (.cells #[.int .i64 stock, .int .i64 store, .slice (some ⟨b, off, none⟩) ds.length cap] 64 (0, 0))) := ⟨H15.out.1.below ((Below.refl _ _).alloc (Nat.le_refl _) _), alk H15.out.2.1, alk H15.out.2.2⟩
            have P191 := Lib.hid (P151.out.below ((Below.refl W15.heap.size W15).alloc (Nat.le_refl _) (.cells #[.int .i64 d.loss.hi] 3)))
            have P192 := Lib.hid (PD.make H15.out.1 d.loss.hi)
            refine hK.out _ _ H19.out.2.1 (fun _ => ?_)
            clear hK
            generalize (W15.alloc (.cells #[.int .i64 d.loss.hi] 3)) = W19 at H19 P191 P192 ⊢
            simp only [List.setIfInBounds_toArray, List.set_cons_zero, List.set_cons_succ]
            refine wpAnyH_ready (rs := [11]) (by kernel_rfl) (by simp) ?_
            refine AllReadyH.cons (o := _) rfl (fun K hK => ?_) AllReadyH.nil
            refine step_append_lies _ rfl (.tmp 31) (.tmp 35) 27 rfl (w.heap.size + 1) 3 i0 (.int .i64 0) 1 8 Tryz.underlying27 hi hz0 hz1 hz2 rfl (by decide) vM M.length (M.map (Value.int .i64)) rfl H19.out.1.rot.r.n ⟨W1.heap.size, 0, none⟩ 1 1 [.int .i64 d.make.lo] rfl rfl P191.out.cells (by intro u hu; simp at hu; subst hu; rfl) (by decide) (by unfold maxLen; omega) (by omega) H19.out.1.hz _ rfl ?_
            intro g20 c20 W20 hown hgrow hat _
            have H20 : Hid (TQ w W20 (w.heap.size + 1) (.slice (some ⟨g20, 0, none⟩) (M.length + 1) c20) vL (.slice (some ⟨g15, 0, none⟩) (N.length + 1) c15) (M ++ [d.make.lo]) L (N ++ [d.need.hi]) ∧ W20.heap[wr.heap.size]? = some (.cells #[.int .i64 d.need.lo, .int .i64 d.need.hi, .int .i64 d.make.lo, .int .i64 d.make.hi, .int .i64 d.loss.lo, .int .i64 d.loss.hi] 151 (0, 0)) ∧ W20.heap[w.heap.size]? = some (.cells #[.int .i64 stock, .int .i64 store, .slice (some ⟨b, off, none⟩) ds.length cap] 64 (0, 0))) := ⟨(H19.out.1.rot).push hown hgrow hat, (H19.out.1.rot).keep (by decide) H19.out.2.1 hgrow, (H19.out.1.rot).keep (by decide) H19.out.2.2 hgrow⟩
            have P202 := Lib.hid (PD.push (n := M.length + 1) (c := c20) (P192.out.rot) hgrow hat)
            clear hown hgrow hat
            refine hK.out _ _ H20.out.2.1 (fun _ => ?_)
            clear hK
            simp only [Act.put, List.setIfInBounds_toArray, List.set_cons_zero, List.set_cons_succ]
            refine wpAnyH_ready (rs := [17]) (by kernel_rfl) (by simp) ?_
            refine AllReadyH.cons (o := _) rfl (fun K hK => ?_) AllReadyH.nil
            refine step_append_lies _ rfl (.tmp 37) (.tmp 41) 27 rfl (w.heap.size + 1) 3 i0 (.int .i64 0) 1 8 Tryz.underlying27 hi hz0 hz1 hz2 rfl (by decide) vL L.length (L.map (Value.int .i64)) rfl H20.out.1.rot.r.n ⟨W15.heap.size, 0, none⟩ 1 1 [.int .i64 d.loss.hi] rfl rfl P202.out.cells (by intro u hu; simp at hu; subst hu; rfl) (by decide) (by unfold maxLen; omega) (by omega) H20.out.1.hz _ rfl ?_
            intro g21 c21 W21 hown hgrow hat _
            have H21 : Hid (TQ w W21 (w.heap.size + 1) (.slice (some ⟨g21, 0, none⟩) (L.length + 1) c21) (.slice (some ⟨g15, 0, none⟩) (N.length + 1) c15) (.slice (some ⟨g20, 0, none⟩) (M.length + 1) c20) (L ++ [d.loss.hi]) (N ++ [d.need.hi]) (M ++ [d.make.lo]) ∧ W21.heap[wr.heap.size]? = some (.cells #[.int .i64 d.need.lo, .int .i64 d.need.hi, .int .i64 d.make.lo, .int .i64 d.make.hi, .int .i64 d.loss.lo, .int .i64 d.loss.hi] 151 (0, 0)) ∧ W21.heap[w.heap.size]? = some (.cells #[.int .i64 stock, .int .i64 store, .slice (some ⟨b, off, none⟩) ds.length cap] 64 (0, 0))) := ⟨(H20.out.1.rot).push hown hgrow hat, (H20.out.1.rot).keep (by decide) H20.out.2.1 hgrow, (H20.out.1.rot).keep (by decide) H20.out.2.2 hgrow⟩
            clear hown hgrow hat
            refine hK.out _ _ H21.out.2.1 (fun _ => ?_)
            clear hK
            simp only [Act.put, List.setIfInBounds_toArray, List.set_cons_zero, List.set_cons_succ]
            refine wpAnyH_done (by kernel_rfl) ?_ _
            show wpList _ _ _ (opsAt _ [18, 19, 20]) _ _
            simp only [opsAt, List.filterMap_cons, List.filterMap_nil, List.getElem?_toArray, List.getElem?_cons_succ, List.getElem?_cons_zero]
            have HZ := H21.out.1.rot
            go_wp2_with (fail)
            go_roundw
            case rel => exact ⟨j + 1, _, _, _, _, _, _, rfl, rfl, rfl, by go_num, by omega, ⟨HZ, H21.out.2.2⟩, HE2⟩
            case measure => simp [intOf]; omega
          refine AllReadyH.cons (o := _) rfl (fun K hK => ?_) AllReadyH.nil
          go_simp
          have H22 : Hid (TQ w (W14.alloc (.cells #[.int .i64 d.loss.hi] 3)) (w.heap.size + 1) vN vM vL N M L ∧ (W14.alloc (.cells #[.int .i64 d.loss.hi] 3)).heap[wr.heap.size]? = some (.cells #[.int .i64 d.need.lo, .int .i64 d.need.hi, .int .i64 d.make.lo, .int .i64 d.make.hi, .int .i64 d.loss.lo, .int .i64 d.loss.hi] 151 (0, 0)) ∧ (W14.alloc (.cells #[.int .i64 d.loss.hi] 3)).heap[w.heap.size]? = some (.cells #[.int .i64 stock, .int .i64 store, .slice (some ⟨b, off, none⟩) ds.length cap] 64 (0, 0))) := ⟨H14.out.1.below ((Below.refl _ _).alloc (Nat.le_refl _) _), alk H14.out.2.1, alk H14.out.2.2⟩
          have P220 := Lib.hid (P140.out.below ((Below.refl W14.heap.size W14).alloc (Nat.le_refl _) (.cells #[.int .i64 d.loss.hi] 3)))
          have P221 := Lib.hid (P141.out.below ((Below.refl W14.heap.size W14).alloc (Nat.le_refl _) (.cells #[.int .i64 d.loss.hi] 3)))
          have P222 := Lib.hid (PD.make H14.out.1 d.loss.hi)
          refine hK.out _ _ H22.out.2.1 (fun _ => ?_)
          clear hK
          generalize (W14.alloc (.cells #[.int .i64 d.loss.hi] 3)) = W22 at H22 P220 P221 P222 ⊢
          simp only [List.setIfInBounds_toArray, List.set_cons_zero, List.set_cons_succ]
          refine wpAnyH_ready (rs := [5]) (by kernel_rfl) (by simp) ?_
          refine AllReadyH.cons (o := _) rfl (fun K hK => ?_) AllReadyH.nil
          refine step_append_lies _ rfl (.tmp 25) (.tmp 29) 27 rfl (w.heap.size + 1) 3 i0 (.int .i64 0) 1 8 Tryz.underlying27 hi hz0 hz1 hz2 rfl (by decide) vN N.length (N.map (Value.int .i64)) rfl H22.out.1.r.n ⟨W0.heap.size, 0, none⟩ 1 1 [.int .i64 d.need.hi] rfl rfl P220.out.cells (by intro u hu; simp at hu; subst hu; rfl) (by decide) (by unfold maxLen; omega) (by omega) H22.out.1.hz _ rfl ?_
          intro g23 c23 W23 hown hgrow hat _
          have H23 : Hid (TQ w W23 (w.heap.size + 1) (.slice (some ⟨g23, 0, none⟩) (N.length + 1) c23) vM vL (N ++ [d.need.hi]) M L ∧ W23.heap[wr.heap.size]? = some (.cells #[.int .i64 d.need.lo, .int .i64 d.need.hi, .int .i64 d.make.lo, .int .i64 d.make.hi, .int .i64 d.loss.lo, .int .i64 d.loss.hi] 151 (0, 0)) ∧ W23.heap[w.heap.size]? = some (.cells #[.int .i64 stock, .int .i64 store, .slice (some ⟨b, off, none⟩) ds.length cap] 64 (0, 0))) := ⟨(H22.out.1).push hown hgrow hat, (H22.out.1).keep (by decide) H22.out.2.1 hgrow, (H22.out.1).keep (by decide) H22.out.2.2 hgrow⟩
          have P231 := Lib.hid (PD.push (n := N.length + 1) (c := c23) (P221.out) hgrow hat)
          have P232 := Lib.hid (PD.push (n := N.length + 1) (c := c23) (P222.out) hgrow hat)
          clear hown hgrow hat
          refine hK.out _ _ H23.out.2.1 (fun _ => ?_)
          clear hK
          simp only [Act.put, List.setIfInBounds_toArray, List.set_cons_zero, List.set_cons_succ]
          refine wpAnyH_ready (rs := [11]) (by kernel_rfl) (by simp) ?_
          refine AllReadyH.cons (o := _) rfl (fun K hK => ?_) AllReadyH.nil
          refine step_append_lies _ rfl (.tmp 31) (.tmp 35) 27 rfl (w.heap.size + 1) 3 i0 (.int .i64 0) 1 8 Tryz.underlying27 hi hz0 hz1 hz2 rfl (by decide) vM M.length (M.map (Value.int .i64)) rfl H23.out.1.rot.r.n ⟨W1.heap.size, 0, none⟩ 1 1 [.int .i64 d.make.lo] rfl rfl P231.out.cells (by intro u hu; simp at hu; subst hu; rfl) (by decide) (by unfold maxLen; omega) (by omega) H23.out.1.hz _ rfl ?_
          intro g24 c24 W24 hown hgrow hat _
          have H24 : Hid (TQ w W24 (w.heap.size + 1) (.slice (some ⟨g24, 0, none⟩) (M.length + 1) c24) vL (.slice (some ⟨g23, 0, none⟩) (N.length + 1) c23) (M ++ [d.make.lo]) L (N ++ [d.need.hi]) ∧ W24.heap[wr.heap.size]? = some (.cells #[.int .i64 d.need.lo, .int .i64 d.need.hi, .int .i64 d.make.lo, .int .i64 d.make.hi, .int .i64 d.loss.lo, .int .i64 d.loss.hi] 151 (0, 0)) ∧ W24.heap[w.heap.size]? = some (.cells #[.int .i64 stock, .int .i64 store, .slice (some ⟨b, off, none⟩) ds.length cap] 64 (0, 0))) := ⟨(H23.out.1.rot).push hown hgrow hat, (H23.out.1.rot).keep (by decide) H23.out.2.1 hgrow, (H23.out.1.rot).keep (by decide) H23.out.2.2 hgrow⟩
          have P242 := Lib.hid (PD.push (n := M.length + 1) (c := c24) (P232.out.rot) hgrow hat)
          clear hown hgrow hat
          refine hK.out _ _ H24.out.2.1 (fun _ => ?_)
          clear hK
          simp only [Act.put, List.setIfInBounds_toArray, List.set_cons_zero, List.set_cons_succ]
          refine wpAnyH_ready (rs := [17]) (by kernel_rfl) (by simp) ?_
          refine AllReadyH.cons (o := _) rfl (fun K hK => ?_) AllReadyH.nil
          refine step_append_lies _ rfl (.tmp 37) (.tmp 41) 27 rfl (w.heap.size + 1) 3 i0 (.int .i64 0) 1 8 Tryz.underlying27 hi hz0 hz1 hz2 rfl (by decide) vL L.length (L.map (Value.int .i64)) rfl H24.out.1.rot.r.n ⟨W14.heap.size, 0, none⟩ 1 1 [.int .i64 d.loss.hi] rfl rfl P242.out.cells (by intro u hu; simp at hu; subst hu; rfl) (by decide) (by unfold maxLen; omega) (by omega) H24.out.1.hz _ rfl ?_
          intro g25 c25 W25 hown hgrow hat _
          have H25 : Hid (TQ w W25 (w.heap.size + 1) (.slice (some ⟨g25, 0, none⟩) (L.length + 1) c25) (.slice (some ⟨g23, 0, none⟩) (N.length + 1) c23) (.slice (some ⟨g24, 0, none⟩) (M.length + 1) c24) (L ++ [d.loss.hi]) (N ++ [d.need.hi]) (M ++ [d.make.lo]) ∧ W25.heap[wr.heap.size]? = some (.cells #[.int .i64 d.need.lo, .int .i64 d.need.hi, .int .i64 d.make.lo, .int .i64 d.make.hi, .int .i64 d.loss.lo, .int .i64 d.loss.hi] 151 (0, 0)) ∧ W25.heap[w.heap.size]? = some (.cells #[.int .i64 stock, .int .i64 store, .slice (some ⟨b, off, none⟩) ds.length cap] 64 (0, 0))) := ⟨(H24.out.1.rot).push hown hgrow hat, (H24.out.1.rot).keep (by decide) H24.out.2.1 hgrow, (H24.out.1.rot).keep (by decide) H24.out.2.2 hgrow⟩
          clear hown hgrow hat
          refine hK.out _ _ H25.out.2.1 (fun _ => ?_)
          clear hK
          simp only [Act.put, List.setIfInBounds_toArray, List.set_cons_zero, List.set_cons_succ]
          refine wpAnyH_done (by kernel_rfl) ?_ _
          show wpList _ _ _ (opsAt _ [18, 19, 20]) _ _
          simp only [opsAt, List.filterMap_cons, List.filterMap_nil, List.getElem?_toArray, List.getElem?_cons_succ, List.getElem?_cons_zero]
          have HZ := H25.out.1.rot
          go_wp2_with (fail)
          go_roundw
          case rel => exact ⟨j + 1, _, _, _, _, _, _, rfl, rfl, rfl, by go_num, by omega, ⟨HZ, H25.out.2.2⟩, HE2⟩
          case measure => simp [intOf]; omega
        refine AllReadyH.cons (o := _) rfl (fun K hK => ?_) AllReadyH.nil
        go_simp
        have H26 : Hid (TQ w (W1.alloc (.cells #[.int .i64 d.loss.hi] 3)) (w.heap.size + 1) vN vM vL N M L ∧ (W1.alloc (.cells #[.int .i64 d.loss.hi] 3)).heap[wr.heap.size]? = some (.cells #[.int .i64 d.need.lo, .int .i64 d.need.hi, .int .i64 d.make.lo, .int .i64 d.make.hi, .int .i64 d.loss.lo, .int .i64 d.loss.hi] 151 (0, 0)) ∧ (W1.alloc (.cells #[.int .i64 d.loss.hi] 3)).heap[w.heap.size]? = some (.cells #[.int .i64 stock, .int .i64 store, .slice (some ⟨b, off, none⟩) ds.length cap] 64 (0, 0))) := ⟨H1.out.1.below ((Below.refl _ _).alloc (Nat.le_refl _) _), alk H1.out.2.1, alk H1.out.2.2⟩
        have P260 := Lib.hid (P10.out.below ((Below.refl W1.heap.size W1).alloc (Nat.le_refl _) (.cells #[.int .i64 d.loss.hi] 3)))
        have P262 := Lib.hid (PD.make H1.out.1 d.loss.hi)
        refine hK.out _ _ H26.out.2.1 (fun _ => ?_)
        clear hK
        generalize (W1.alloc (.cells #[.int .i64 d.loss.hi] 3)) = W26 at H26 P260 P262 ⊢
        simp only [List.setIfInBounds_toArray, List.set_cons_zero, List.set_cons_succ]
        refine wpAnyH_ready (rs := [5, 10]) (by kernel_rfl) (by simp) ?_
        refine AllReadyH.cons (o := _) rfl (fun K hK => ?_) ?_
        · refine step_append_lies _ rfl (.tmp 25) (.tmp 29) 27 rfl (w.heap.size + 1) 3 i0 (.int .i64 0) 1 8 Tryz.underlying27 hi hz0 hz1 hz2 rfl (by decide) vN N.length (N.map (Value.int .i64)) rfl H26.out.1.r.n ⟨W0.heap.size, 0, none⟩ 1 1 [.int .i64 d.need.hi] rfl rfl P260.out.cells (by intro u hu; simp at hu; subst hu; rfl) (by decide) (by unfold maxLen; omega) (by omega) H26.out.1.hz _ rfl ?_
          intro g27 c27 W27 hown hgrow hat _
          have H27 : Hid (TQ w W27 (w.heap.size + 1) (.slice (some ⟨g27, 0, none⟩) (N.length + 1) c27) vM vL (N ++ [d.need.hi]) M L ∧ W27.heap[wr.heap.size]? = some (.cells #[.int .i64 d.need.lo, .int .i64 d.need.hi, .int .i64 d.make.lo, .int .i64 d.make.hi, .int .i64 d.loss.lo, .int .i64 d.loss.hi] 151 (0, 0)) ∧ W27.heap[w.heap.size]? = some (.cells #[.int .i64 stock, .int .i64 store, .slice (some ⟨b, off, none⟩) ds.length cap] 64 (0, 0))) := ⟨(H26.out.1).push hown hgrow hat, (H26.out.1).keep (by decide) H26.out.2.1 hgrow, (H26.out.1).keep (by decide) H26.out.2.2 hgrow⟩
          have P272 := Lib.hid (PD.push (n := N.length + 1) (c := c27) (P262.out) hgrow hat)
          clear hown hgrow hat
          refine hK.out _ _ H27.out.2.1 (fun _ => ?_)
          clear hK
          simp only [Act.put, List.setIfInBounds_toArray, List.set_cons_zero, List.set_cons_succ]
          refine wpAnyH_ready (rs := [10]) (by kernel_rfl) (by simp) ?_
          refine AllReadyH.cons (o := _) rfl (fun K hK => ?_) AllReadyH.nil
          go_simp
          have H28 : Hid (TQ w (W27.alloc (.cells #[.int .i64 d.make.lo] 3)) (w.heap.size + 1) (.slice (some ⟨g27, 0, none⟩) (N.length + 1) c27) vM vL (N ++ [d.need.hi]) M L ∧ (W27.alloc (.cells #[.int .i64 d.make.lo] 3)).heap[wr.heap.size]? = some (.cells #[.int .i64 d.need.lo, .int .i64 d.need.hi, .int .i64 d.make.lo, .int .i64 d.make.hi, .int .i64 d.loss.lo, .int .i64 d.loss.hi] 151 (0, 0)) ∧ (W27.alloc (.cells #[.int .i64 d.make.lo] 3)).heap[w.heap.size]? = some (.cells #[.int .i64 stock, .int .i64 store, .slice (some ⟨b, off, none⟩) ds.length cap] 64 (0, 0))) := ⟨H27.out.1.below ((Below.refl _ _).alloc (Nat.le_refl _) _), alk H27.out.2.1, alk H27.out.2.2⟩
          have P282 := Lib.hid (P272.out.below ((Below.refl W27.heap.size W27).alloc (Nat.le_refl _) (.cells #[.int .i64 d.make.lo] 3)))
          have P281 := Lib.hid (PD.make H27.out.1 d.make.lo)
          refine hK.out _ _ H28.out.2.1 (fun _ => ?_)
          clear hK
          generalize (W27.alloc (.cells #[.int .i64 d.make.lo] 3)) = W28 at H28 P282 P281 ⊢
          simp only [List.setIfInBounds_toArray, List.set_cons_zero, List.set_cons_succ]
          refine wpAnyH_ready (rs := [11]) (by kernel_rfl) (by simp) ?_
          refine AllReadyH.cons (o := _) rfl (fun K hK => ?_) AllReadyH.nil
          refine step_append_lies _ rfl (.tmp 31) (.tmp 35) 27 rfl (w.heap.size + 1) 3 i0 (.int .i64 0) 1 8 Tryz.underlying27 hi hz0 hz1 hz2 rfl (by decide) vM M.length (M.map (Value.int .i64)) rfl H28.out.1.rot.r.n ⟨W27.heap.size, 0, none⟩ 1 1 [.int .i64 d.make.lo] rfl rfl P281.out.cells (by intro u hu; simp at hu; subst hu; rfl) (by decide) (by unfold maxLen; omega) (by omega) H28.out.1.hz _ rfl ?_
          intro g29 c29 W29 hown hgrow hat _
          have H29 : Hid (TQ w W29 (w.heap.size + 1) (.slice (some ⟨g29, 0, none⟩) (M.length + 1) c29) vL (.slice (some ⟨g27, 0, none⟩) (N.length + 1) c27) (M ++ [d.make.lo]) L (N ++ [d.need.hi]) ∧ W29.heap[wr.heap.size]? = some (.cells #[.int .i64 d.need.lo, .int .i64 d.need.hi, .int .i64 d.make.lo, .int .i64 d.make.hi, .int .i64 d.loss.lo, .int .i64 d.loss.hi] 151 (0, 0)) ∧ W29.heap[w.heap.size]? = some (.cells #[.int .i64 stock, .int .i64 store, .slice (some ⟨b, off, none⟩) ds.length cap] 64 (0, 0))) := ⟨(H28.out.1.rot).push hown hgrow hat, (H28.out.1.rot).keep (by decide) H28.out.2.1 hgrow, (H28.out.1.rot).keep (by decide) H28.out.2.2 hgrow⟩
          have P292 := Lib.hid (PD.push (n := M.length + 1) (c := c29) (P282.out.rot) hgrow hat)
          clear hown hgrow hat
          refine hK.out _ _ H29.out.2.1 (fun _ => ?_)
          clear hK
          simp only [Act.put, List.setIfInBounds_toArray, List.set_cons_zero, List.set_cons_succ]
          refine wpAnyH_ready (rs := [17]) (by kernel_rfl) (by simp) ?_
          refine AllReadyH.cons (o := _) rfl (fun K hK => ?_) AllReadyH.nil
          refine step_append_lies _ rfl (.tmp 37) (.tmp 41) 27 rfl (w.heap.size + 1) 3 i0 (.int .i64 0) 1 8 Tryz.underlying27 hi hz0 hz1 hz2 rfl (by decide) vL L.length (L.map (Value.int .i64)) rfl H29.out.1.rot.r.n ⟨W1.heap.size, 0, none⟩ 1 1 [.int .i64 d.loss.hi] rfl rfl P292.out.cells (by intro u hu; simp at hu; subst hu; rfl) (by decide) (by unfold maxLen; omega) (by omega) H29.out.1.hz _ rfl ?_
          intro g30 c30 W30 hown hgrow hat _
          have H30 : Hid (TQ w W30 (w.heap.size + 1) (.slice (some ⟨g30, 0, none⟩) (L.length + 1) c30) (.slice (some ⟨g27, 0, none⟩) (N.length + 1) c27) (.slice (some ⟨g29, 0, none⟩) (M.length + 1) c29) (L ++ [d.loss.hi]) (N ++ [d.need.hi]) (M ++ [d.make.lo]) ∧ W30.heap[wr.heap.size]? = some (.cells #[.int .i64 d.need.lo, .int .i64 d.need.hi, .int .i64 d.make.lo, .int .i64 d.make.hi, .int .i64 d.loss.lo, .int .i64 d.loss.hi] 151 (0, 0)) ∧ W30.heap[w.heap.size]? = some (.cells #[.int .i64 stock, .int .i64 store, .slice (some ⟨b, off, none⟩) ds.length cap] 64 (0, 0))) := ⟨(H29.out.1.rot).push hown hgrow hat, (H29.out.1.rot).keep (by decide) H29.out.2.1 hgrow, (H29.out.1.rot).keep (by decide) H29.out.2.2 hgrow⟩
          clear hown hgrow hat
          refine hK.out _ _ H30.out.2.1 (fun _ => ?_)
          clear hK
          simp only [Act.put, List.setIfInBounds_toArray, List.set_cons_zero, List.set_cons_succ]
          refine wpAnyH_done (by kernel_rfl) ?_ _
          show wpList _ _ _ (opsAt _ [18, 19, 20]) _ _
          simp only [opsAt, List.filterMap_cons, List.filterMap_nil, List.getElem?_toArray, List.getElem?_cons_succ, List.getElem?_cons_zero]
          have HZ := H30.out.1.rot
          go_wp2_with (fail)
          go_roundw
          case rel => exact ⟨j + 1, _, _, _, _, _, _, rfl, rfl, rfl, by go_num, by omega, ⟨HZ, H30.out.2.2⟩, HE2⟩
          case measure => simp [intOf]; omega
        refine AllReadyH.cons (o := _) rfl (fun K hK => ?_) AllReadyH.nil
        go_simp
        have H31 : Hid (TQ w (W26.alloc (.cells #[.int .i64 d.make.lo] 3)) (w.heap.size + 1) vN vM vL N M L ∧ (W26.alloc (.cells #[.int .i64 d.make.lo] 3)).heap[wr.heap.size]? = some (.cells #[.int .i64 d.need.lo, .int .i64 d.need.hi, .int .i64 d.make.lo, .int .i64 d.make.hi, .int .i64 d.loss.lo, .int .i64 d.loss.hi] 151 (0, 0)) ∧ (W26.alloc (.cells #[.int .i64 d.make.lo] 3)).heap[w.heap.size]? = some (.cells #[.int .i64 stock, .int .i64 store, .slice (some ⟨b, off, none⟩) ds.length cap] 64 (0, 0))) := ⟨H26.out.1.below ((Below.refl _ _).alloc (Nat.le_refl _) _), alk H26.out.2.1, alk H26.out.2.2⟩
        have P310 := Lib.hid (P260.out.below ((Below.refl W26.heap.size W26).alloc (Nat.le_refl _) (.cells #[.int .i64 d.make.lo] 3)))
        have P312 := Lib.hid (P262.out.below ((Below.refl W26.heap.size W26).alloc (Nat.le_refl _) (.cells #[.int .i64 d.make.lo] 3)))
        have P311 := Lib.hid (PD.make H26.out.1 d.make.lo)
        refine hK.out _ _ H31.out.2.1 (fun _ => ?_)
        clear hK
        generalize (W26.alloc (.cells #[.int .i64 d.make.lo] 3)) = W31 at H31 P310 P312 P311 ⊢
        simp only [List.setIfInBounds_toArray, List.set_cons_zero, List.set_cons_succ]
        refine wpAnyH_ready (rs := [5]) (by kernel_rfl) (by simp) ?_
        refine AllReadyH.cons (o := _) rfl (fun K hK => ?_) AllReadyH.nil
        refine step_append_lies _ rfl (.tmp 25) (.tmp 29) 27 rfl (w.heap.size + 1) 3 i0 (.int .i64 0) 1 8 Tryz.underlying27 hi hz0 hz1 hz2 rfl (by decide) vN N.length (N.map (Value.int .i64)) rfl H31.out.1.r.n ⟨W0.heap.size, 0, none⟩ 1 1 [.int .i64 d.need.hi] rfl rfl P310.out.cells (by intro u hu; simp at hu; subst hu; rfl) (by decide) (by unfold maxLen; omega) (by omega) H31.out.1.hz _ rfl ?_
        intro g32 c32 W32 hown hgrow hat _
        have H32 : Hid (TQ w W32 (w.heap.size + 1) (.slice (some ⟨g32, 0, none⟩) (N.length + 1) c32) vM vL (N ++ [d.need.hi]) M L ∧ W32.heap[wr.heap.size]? = some (.cells #[.int .i64 d.need.lo, .int .i64 d.need.hi, .int .i64 d.make.lo, .int .i64 d.make.hi, .int .i64 d.loss.lo, .int .i64 d.loss.hi] 151 (0, 0)) ∧ W32.heap[w.heap.size]? = some (.cells #[.int .i64 stock, .int .i64 store, .slice (some ⟨b, off, none⟩) ds.length cap] 64 (0, 0))) := ⟨(H31.out.1).push hown hgrow hat, (H31.out.1).keep (by decide) H31.out.2.1 hgrow, (H31.out.1).keep (by decide) H31.out.2.2 hgrow⟩
        have P322 := Lib.hid (PD.push (n := N.length + 1) (c := c32) (P312.out) hgrow hat)
        have P321 := Lib.hid (PD.push (n := N.length + 1) (c := c32) (P311.out) hgrow hat)
        clear hown hgrow hat
        refine hK.out _ _ H32.out.2.1 (fun _ => ?_)
        clear hK
        simp only [Act.put, List.setIfInBounds_toArray, List.set_cons_zero, List.set_cons_succ]
        refine wpAnyH_ready (rs := [11]) (by kernel_rfl) (by simp) ?_
        refine AllReadyH.cons (o := _) rfl (fun K hK => ?_) AllReadyH.nil
        refine step_append_lies _ rfl (.tmp 31) (.tmp 35) 27 rfl (w.heap.size + 1) 3 i0 (.int .i64 0) 1 8 Tryz.underlying27 hi hz0 hz1 hz2 rfl (by decide) vM M.length (M.map (Value.int .i64)) rfl H32.out.1.rot.r.n ⟨W26.heap.size, 0, none⟩ 1 1 [.int .i64 d.make.lo] rfl rfl P321.out.cells (by intro u hu; simp at hu; subst hu; rfl) (by decide) (by unfold maxLen; omega) (by omega) H32.out.1.hz _ rfl ?_
        intro g33 c33 W33 hown hgrow hat _
        have H33 : Hid (TQ w W33 (w.heap.size + 1) (.slice (some ⟨g33, 0, none⟩) (M.length + 1) c33) vL (.slice (some ⟨g32, 0, none⟩) (N.length + 1) c32) (M ++ [d.make.lo]) L (N ++ [d.need.hi]) ∧ W33.heap[wr.heap.size]? = some (.cells #[.int .i64 d.need.lo, .int .i64 d.need.hi, .int .i64 d.make.lo, .int .i64 d.make.hi, .int .i64 d.loss.lo, .int .i64 d.loss.hi] 151 (0, 0)) ∧ W33.heap[w.heap.size]? = some (.cells #[.int .i64 stock, .int .i64 store, .slice (some ⟨b, off, none⟩) ds.length cap] 64 (0, 0))) := ⟨(H32.out.1.rot).push hown hgrow hat, (H32.out.1.rot).keep (by decide) H32.out.2.1 hgrow, (H32.out.1.rot).keep (by decide) H32.out.2.2 hgrow⟩
        have P332 := Lib.hid (PD.push (n := M.length + 1) (c := c33) (P322.out.rot) hgrow hat)
        clear hown hgrow hat
        refine hK.out _ _ H33.out.2.1 (fun _ => ?_)
        clear hK
        simp only [Act.put, List.setIfInBounds_toArray, List.set_cons_zero, List.set_cons_succ]
        refine wpAnyH_ready (rs := [17]) (by kernel_rfl) (by simp) ?_
        refine AllReadyH.cons (o := _) rfl (fun K hK => ?_) AllReadyH.nil
        refine step_append_lies _ rfl (.tmp 37) (.tmp 41) 27 rfl (w.heap.size + 1) 3 i0 (.int .i64 0) 1 8 Tryz.underlying27 hi hz0 hz1 hz2 rfl (by decide) vL L.length (L.map (Value.int .i64)) rfl H33.out.1.rot.r.n ⟨W1.heap.size, 0, none⟩ 1 1 [.int .i64 d.loss.hi] rfl rfl P332.out.cells (by intro u hu; simp at hu; subst hu; rfl) (by decide) (by unfold maxLen; omega) (by omega) H33.out.1.hz _ rfl ?_
        intro g34 c34 W34 hown hgrow hat _
        have H34 : Hid (TQ w W34 (w.heap.size + 1) (.slice (some ⟨g34, 0, none⟩) (L.length + 1) c34) (.slice (some ⟨g32, 0, none⟩) (N.length + 1) c32) (.slice (some ⟨g33, 0, none⟩) (M.length + 1) c33) (L ++ [d.loss.hi]) (N ++ [d.need.hi]) (M ++ [d.make.lo]) ∧ W34.heap[wr.heap.size]? = some (.cells #[.int .i64 d.need.lo, .int .i64 d.need.hi, .int .i64 d.make.lo, .int .i64 d.make.hi, .int .i64 d.loss.lo, .int .i64 d.loss.hi] 151 (0, 0)) ∧ W34.heap[w.heap.size]? = some (.cells #[.int .i64 stock, .int .i64 store, .slice (some ⟨b, off, none⟩) ds.length cap] 64 (0, 0))) := ⟨(H33.out.1.rot).push hown hgrow hat, (H33.out.1.rot).keep (by decide) H33.out.2.1 hgrow, (H33.out.1.rot).keep (by decide) H33.out.2.2 hgrow⟩
        clear hown hgrow hat
        refine hK.out _ _ H34.out.2.1 (fun _ => ?_)
        clear hK
        simp only [Act.put, List.setIfInBounds_toArray, List.set_cons_zero, List.set_cons_succ]
        refine wpAnyH_done (by kernel_rfl) ?_ _
        show wpList _ _ _ (opsAt _ [18, 19, 20]) _ _
        simp only [opsAt, List.filterMap_cons, List.filterMap_nil, List.getElem?_toArray, List.getElem?_cons_succ, List.getElem?_cons_zero]
        have HZ := H34.out.1.rot
        go_wp2_with (fail)
        go_roundw
        case rel => exact ⟨j + 1, _, _, _, _, _, _, rfl, rfl, rfl, by go_num, by omega, ⟨HZ, H34.out.2.2⟩, HE2⟩
        case measure => simp [intOf]; omega
      refine AllReadyH.cons (o := _) rfl (fun K hK => ?_) ?_
      · go_simp
        have H35 : Hid (TQ w (W0.alloc (.cells #[.int .i64 d.make.lo] 3)) (w.heap.size + 1) vN vM vL N M L ∧ (W0.alloc (.cells #[.int .i64 d.make.lo] 3)).heap[wr.heap.size]? = some (.cells #[.int .i64 d.need.lo, .int .i64 d.need.hi, .int .i64 d.make.lo, .int .i64 d.make.hi, .int .i64 d.loss.lo, .int .i64 d.loss.hi] 151 (0, 0)) ∧ (W0.alloc (.cells #[.int .i64 d.make.lo] 3)).heap[w.heap.size]? = some (.cells #[.int .i64 stock, .int .i64 store, .slice (some ⟨b, off, none⟩) ds.length cap] 64 (0, 0))) := ⟨H0.out.1.below ((Below.refl _ _).alloc (Nat.le_refl _) _), alk H0.out.2.1, alk H0.out.2.2⟩
        have P351 := Lib.hid (PD.make H0.out.1 d.make.lo)
        refine hK.out _ _ H35.out.2.1 (fun _ => ?_)
        clear hK
        generalize (W0.alloc (.cells #[.int .i64 d.make.lo] 3)) = W35 at H35 P351 ⊢
        simp only [List.setIfInBounds_toArray, List.set_cons_zero, List.set_cons_succ]
        refine wpAnyH_ready (rs := [4, 16]) (by kernel_rfl) (by simp) ?_
        refine AllReadyH.cons (o := _) rfl (fun K hK => ?_) ?_
        · go_simp
          have H36 : Hid (TQ w (W35.alloc (.cells #[.int .i64 d.need.hi] 3)) (w.heap.size + 1) vN vM vL N M L ∧ (W35.alloc (.cells #[.int .i64 d.need.hi] 3)).heap[wr.heap.size]? = some (.cells #[.int .i64 d.need.lo, .int .i64 d.need.hi, .int .i64 d.make.lo, .int .i64 d.make.hi, .int .i64 d.loss.lo, .int .i64 d.loss.hi] 151 (0, 0)) ∧ (W35.alloc (.cells #[.int .i64 d.need.hi] 3)).heap[w.heap.size]? = some (.cells #[.int .i64 stock, .int .i64 store, .slice (some ⟨b, off, none⟩) ds.length cap] 64 (0, 0))) := ⟨H35.out.1.below ((Below.refl _ _).alloc (Nat.le_refl _) _), alk H35.out.2.1, alk H35.out.2.2⟩
          have P361 := Lib.hid (P351.out.below ((Below.refl W35.heap.size W35).alloc (Nat.le_refl _) (.cells #[.int .i64 d.need.hi] 3)))
          have P360 := Lib.hid (PD.make H35.out.1 d.need.hi)
          refine hK.out _ _ H36.out.2.1 (fun _ => ?_)
          clear hK
          generalize (W35.alloc (.cells #[.int .i64 d.need.hi] 3)) = W36 at H36 P361 P360 ⊢
          simp only [List.setIfInBounds_toArray, List.set_cons_zero, List.set_cons_succ]
          refine wpAnyH_ready (rs := [5, 16]) (by kernel_rfl) (by simp) ?_
          refine AllReadyH.cons (o := _) rfl (fun K hK => ?_) ?_
          · refine step_append_lies _ rfl (.tmp 25) (.tmp 29) 27 rfl (w.heap.size + 1) 3 i0 (.int .i64 0) 1 8 Tryz.underlying27 hi hz0 hz1 hz2 rfl (by decide) vN N.length (N.map (Value.int .i64)) rfl H36.out.1.r.n ⟨W35.heap.size, 0, none⟩ 1 1 [.int .i64 d.need.hi] rfl rfl P360.out.cells (by intro u hu; simp at hu; subst hu; rfl) (by decide) (by unfold maxLen; omega) (by omega) H36.out.1.hz _ rfl ?_
            intro g37 c37 W37 hown hgrow hat _
            have H37 : Hid (TQ w W37 (w.heap.size + 1) (.slice (some ⟨g37, 0, none⟩) (N.length + 1) c37) vM vL (N ++ [d.need.hi]) M L ∧ W37.heap[wr.heap.size]? = some (.cells #[.int .i64 d.need.lo, .int .i64 d.need.hi, .int .i64 d.make.lo, .int .i64 d.make.hi, .int .i64 d.loss.lo, .int .i64 d.loss.hi] 151 (0, 0)) ∧ W37.heap[w.heap.size]? = some (.cells #[.int .i64 stock, .int .i64 store, .slice (some ⟨b, off, none⟩) ds.length cap] 64 (0, 0))) := ⟨(H36.out.1).push hown hgrow hat, (H36.out.1).keep (by decide) H36.out.2.1 hgrow, (H36.out.1).keep (by decide) H36.out.2.2 hgrow⟩
            have P371 := Lib.hid (PD.push (n := N.length + 1) (c := c37) (P361.out) hgrow hat)
            clear hown hgrow hat
            refine hK.out _ _ H37.out.2.1 (fun _ => ?_)
            clear hK
            simp only [Act.put, List.setIfInBounds_toArray, List.set_cons_zero, List.set_cons_succ]
            refine wpAnyH_ready (rs := [11, 16]) (by kernel_rfl) (by simp) ?_
            refine AllReadyH.cons (o := _) rfl (fun K hK => ?_) ?_
            · refine step_append_lies _ rfl (.tmp 31) (.tmp 35) 27 rfl (w.heap.size + 1) 3 i0 (.int .i64 0) 1 8 Tryz.underlying27 hi hz0 hz1 hz2 rfl (by decide) vM M.length (M.map (Value.int .i64)) rfl H37.out.1.rot.r.n ⟨W0.heap.size, 0, none⟩ 1 1 [.int .i64 d.make.lo] rfl rfl P371.out.cells (by intro u hu; simp at hu; subst hu; rfl) (by decide) (by unfold maxLen; omega) (by omega) H37.out.1.hz _ rfl ?_
              intro g38 c38 W38 hown hgrow hat _
              have H38 : Hid (TQ w W38 (w.heap.size + 1) (.slice (some ⟨g38, 0, none⟩) (M.length + 1) c38) vL (.slice (some ⟨g37, 0, none⟩) (N.length + 1) c37) (M ++ [d.make.lo]) L (N ++ [d.need.hi]) ∧ W38.heap[wr.heap.size]? = some (.cells #[.int .i64 d.need.lo, .int .i64 d.need.hi, .int .i64 d.make.lo, .int .i64 d.make.hi, .int .i64 d.loss.lo, .int .i64 d.loss.hi] 151 (0, 0)) ∧ W38.heap[w.heap.size]? = some (.cells #[.int .i64 stock, .int .i64 store, .slice (some ⟨b, off, none⟩) ds.length cap] 64 (0, 0))) := ⟨(H37.out.1.rot).push hown hgrow hat, (H37.out.1.rot).keep (by decide) H37.out.2.1 hgrow, (H37.out.1.rot).keep (by decide) H37.out.2.2 hgrow⟩
              clear hown hgrow hat
              refine hK.out _ _ H38.out.2.1 (fun _ => ?_)
              clear hK
              simp only [Act.put, List.setIfInBounds_toArray, List.set_cons_zero, List.set_cons_succ]
              refine wpAnyH_ready (rs := [16]) (by kernel_rfl) (by simp) ?_
              refine AllReadyH.cons (o := _) rfl (fun K hK => ?_) AllReadyH.nil
              go_simp
              have H39 : Hid (TQ w (W38.alloc (.cells #[.int .i64 d.loss.hi] 3)) (w.heap.size + 1) (.slice (some ⟨g38, 0, none⟩) (M.length + 1) c38) vL (.slice (some ⟨g37, 0, none⟩) (N.length + 1) c37) (M ++ [d.make.lo]) L (N ++ [d.need.hi]) ∧ (W38.alloc (.cells #[.int .i64 d.loss.hi] 3)).heap[wr.heap.size]? = some (.cells #[.int .i64 d.need.lo, .int .i64 d.need.hi, .int .i64 d.make.lo, .int .i64 d.make.hi, .int .i64 d.loss.lo, .int .i64 d.loss.hi] 151 (0, 0)) ∧ (W38.alloc (.cells #[.int .i64 d.loss.hi] 3)).heap[w.heap.size]? = some (.cells #[.int .i64 stock, .int .i64 store, .slice (some ⟨b, off, none⟩) ds.length cap] 64 (0, 0))) := ⟨H38.out.1.below ((Below.refl _ _).alloc (Nat.le_refl _) _), alk H38.out.2.1, alk H38.out.2.2⟩
              have P392 := Lib.hid (PD.make H38.out.1 d.loss.hi)
              refine hK.out _ _ H39.out.2.1 (fun _ => ?_)
              clear hK
              generalize (W38.alloc (.cells #[.int .i64 d.loss.hi] 3)) = W39 at H39 P392 ⊢
              simp only [List.setIfInBounds_toArray, List.set_cons_zero, List.set_cons_succ]
              refine wpAnyH_ready (rs := [17]) (by kernel_rfl) (by simp) ?_
              refine AllReadyH.cons (o := _) rfl (fun K hK => ?_) AllReadyH.nil
              refine step_append_lies _ rfl (.tmp 37) (.tmp 41) 27 rfl (w.heap.size + 1) 3 i0 (.int .i64 0) 1 8 Tryz.underlying27 hi hz0 hz1 hz2 rfl (by decide) vL L.length (L.map (Value.int .i64)) rfl H39.out.1.rot.r.n ⟨W38.heap.size, 0, none⟩ 1 1 [.int .i64 d.loss.hi] rfl rfl P392.out.cells (by intro u hu; simp at hu; subst hu; rfl) (by decide) (by unfold maxLen; omega) (by omega) H39.out.1.hz _ rfl ?_
              intro g40 c40 W40 hown hgrow hat _
              have H40 : Hid (TQ w W40 (w.heap.size + 1) (.slice (some ⟨g40, 0, none⟩) (L.length + 1) c40) (.slice (some ⟨g37, 0, none⟩) (N.length + 1) c37) (.slice (some ⟨g38, 0, none⟩) (M.length + 1) c38) (L ++ [d.loss.hi]) (N ++ [d.need.hi]) (M ++ [d.make.lo]) ∧ W40.heap[wr.heap.size]? = some (.cells #[.int .i64 d.need.lo, .int .i64 d.need.hi, .int .i64 d.make.lo, .int .i64 d.make.hi, .int .i64 d.loss.lo, .int .i64 d.loss.hi] 151 (0, 0)) ∧ W40.heap[w.heap.size]? = some (.cells #[.int .i64 stock, .int .i64 store, .slice (some ⟨b, off, none⟩) ds.length cap] 64 (0, 0))) := ⟨(H39.out.1.rot).push hown hgrow hat, (H39.out.1.rot).keep (by decide) H39.out.2.1 hgrow, (H39.out.1.rot).keep (by decide) H39.out.2.2 hgrow⟩
              clear hown hgrow hat
              refine hK.out _ _ H40.out.2.1 (fun _ => ?_)
              clear hK
              simp only [Act.put, List.setIfInBounds_toArray, List.set_cons_zero, List.set_cons_succ]
              refine wpAnyH_done (by kernel_rfl) ?_ _
              show wpList _ _ _ (opsAt _ [18, 19, 20]) _ _
              simp only [opsAt, List.filterMap_cons, List.filterMap_nil, List.getElem?_toArray, List.getElem?_cons_succ, List.getElem?_cons_zero]
              have HZ := H40.out.1.rot
              go_wp2_with (fail)
              go_roundw
              case rel => exact ⟨j + 1, _, _, _, _, _, _, rfl, rfl, rfl, by go_num, by omega, ⟨HZ, H40.out.2.2⟩, HE2⟩
              case measure => simp [intOf]; omega
            refine AllReadyH.cons (o := _) rfl (fun K hK => ?_) AllReadyH.nil
            go_simp
            have H41 : Hid (TQ w (W37.alloc (.cells #[.int .i64 d.loss.hi] 3)) (w.heap.size + 1) (.slice (some ⟨g37, 0, none⟩) (N.length + 1) c37) vM vL (N ++ [d.need.hi]) M L ∧ (W37.alloc (.cells #[.int .i64 d.loss.hi] 3)).heap[wr.heap.size]? = some (.cells #[.int .i64 d.need.lo, .int .i64 d.need.hi, .int .i64 d.make.lo, .int .i64 d.make.hi, .int .i64 d.loss.lo, .int .i64 d.loss.hi] 151 (0, 0)) ∧ (W37.alloc (.cells #[.int .i64 d.loss.hi] 3)).heap[w.heap.size]? = some (.cells #[.int .i64 stock, .int .i64 store, .slice (some ⟨b, off, none⟩) ds.length cap] 64 (0, 0))) := ⟨H37.out.1.below ((Below.refl _ _).alloc (Nat.le_refl _) _), alk H37.out.2.1, alk H37.out.2.2⟩
            have P411 := Lib.hid (P371.out.below ((Below.refl W37.heap.size W37).alloc (Nat.le_refl _) (.cells #[.int .i64 d.loss.hi] 3)))
            have P412 := Lib.hid (PD.make H37.out.1 d.loss.hi)
            refine hK.out _ _ H41.out.2.1 (fun _ => ?_)
            clear hK
            generalize (W37.alloc (.cells #[.int .i64 d.loss.hi] 3)) = W41 at H41 P411 P412 ⊢
            simp only [List.setIfInBounds_toArray, List.set_cons_zero, List.set_cons_succ]
            refine wpAnyH_ready (rs := [11]) (by kernel_rfl) (by simp) ?_
            refine AllReadyH.cons (o := _) rfl (fun K hK => ?_) AllReadyH.nil
            refine step_append_lies _ rfl (.tmp 31) (.tmp 35) 27 rfl (w.heap.size + 1) 3 i0 (.int .i64 0) 1 8 Tryz.underlying27 hi hz0 hz1 hz2 rfl (by decide) vM M.length (M.map (Value.int .i64)) rfl H41.out.1.rot.r.n ⟨W0.heap.size, 0, none⟩ 1 1 [.int .i64 d.make.lo] rfl rfl P411.out.cells (by intro u hu; simp at hu; subst hu; rfl) (by decide) (by unfold maxLen; omega) (by omega) H41.out.1.hz _ rfl ?_
            intro g42 c42 W42 hown hgrow hat _
            have H42 : Hid (TQ w W42 (w.heap.size + 1) (.slice (some ⟨g42, 0, none⟩) (M.length + 1) c42) vL (.slice (some ⟨g37, 0, none⟩) (N.length + 1) c37) (M ++ [d.make.lo]) L (N ++ [d.need.hi]) ∧ W42.heap[wr.heap.size]? = some (.cells #[.int .i64 d.need.lo, .int .i64 d.need.hi, .int .i64 d.make.lo, .int .i64 d.make.hi, .int .i64 d.loss.lo, .int .i64 d.loss.hi] 151 (0, 0)) ∧ W42.heap[w.heap.size]? = some (.cells #[.int .i64 stock, .int .i64 store, .slice (some ⟨b, off, none⟩) ds.length cap] 64 (0, 0))) := ⟨(H41.out.1.rot).push hown hgrow hat, (H41.out.1.rot).keep (by decide) H41.out.2.1 hgrow, (H41.out.1.rot).keep (by decide) H41.out.2.2 hgrow⟩
            have P422 := Lib.hid (PD.push (n := M.length + 1) (c := c42) (P412.out.rot) hgrow hat)
            clear hown hgrow hat
            refine hK.out _ _ H42.out.2.1 (fun _ => ?_)
            clear hK
            simp only [Act.put, List.setIfInBounds_toArray, List.set_cons_zero, List.set_cons_succ]
            refine wpAnyH_ready (rs := [17]) (by kernel_rfl) (by simp) ?_
            refine AllReadyH.cons (o := _) rfl (fun K hK => ?_) AllReadyH.nil
            refine step_append_lies _ rfl (.tmp 37) (.tmp 41) 27 rfl (w.heap.size + 1) 3 i0 (.int .i64 0) 1 8 Tryz.underlying27 hi hz0 hz1 hz2 rfl (by decide) vL L.length (L.map (Value.int .i64)) rfl H42.out.1.rot.r.n ⟨W37.heap.size, 0, none⟩ 1 1 [.int .i64 d.loss.hi] rfl rfl P422.out.cells (by intro u hu; simp at hu; subst hu; rfl) (by decide) (by unfold maxLen; omega) (by omega) H42.out.1.hz _ rfl ?_
            intro g43 c43 W43 hown hgrow hat _
            have H43 : Hid (TQ w W43 (w.heap.size + 1) (.slice (some ⟨g43, 0, none⟩) (L.length + 1) c43) (.slice (some ⟨g37, 0, none⟩) (N.length + 1) c37) (.slice (some ⟨g42, 0, none⟩) (M.length + 1) c42) (L ++ [d.loss.hi]) (N ++ [d.need.hi]) (M ++ [d.make.lo]) ∧ W43.heap[wr.heap.size]? = some (.cells #[.int .i64 d.need.lo, .int .i64 d.need.hi, .int .i64 d.make.lo, .int .i64 d.make.hi, .int .i64 d.loss.lo, .int .i64 d.loss.hi] 151 (0, 0)) ∧ W43.heap[w.heap.size]? = some (.cells #[.int .i64 stock, .int .i64 store, .slice (some ⟨b, off, none⟩) ds.length cap] 64 (0, 0))) := ⟨(H42.out.1.rot).push hown hgrow hat, (H42.out.1.rot).keep (by decide) H42.out.2.1 hgrow, (H42.out.1.rot).keep (by decide) H42.out.2.2 hgrow⟩
            clear hown hgrow hat
            refine hK.out _ _ H43.out.2.1 (fun _ => ?_)
            clear hK
            simp only [Act.put, List.setIfInBounds_toArray, List.set_cons_zero, List.set_cons_succ]
            refine wpAnyH_done (by kernel_rfl) ?_ _
            show wpList _ _ _ (opsAt _ [18, 19, 20]) _ _
            simp only [opsAt, List.filterMap_cons, List.filterMap_nil, List.getElem?_toArray, List.getElem?_cons_succ, List.getElem?_cons_zero]
            have HZ := H43.out.1.rot
            go_wp2_with (fail)
            go_roundw
            case rel => exact ⟨j + 1, _, _, _, _, _, _, rfl, rfl, rfl, by go_num, by omega, ⟨HZ, H43.out.2.2⟩, HE2⟩
            case measure => simp [intOf]; omega
          refine AllReadyH.cons (o := _) rfl (fun K hK => ?_) AllReadyH.nil
          go_simp
          have H44 : Hid (TQ w (W36.alloc (.cells #[.int .i64 d.loss.hi] 3)) (w.heap.size + 1) vN vM vL N M L ∧ (W36.alloc (.cells #[.int .i64 d.loss.hi] 3)).heap[wr.heap.size]? = some (.cells #[.int .i64 d.need.lo, .int .i64 d.need.hi, .int .i64 d.make.lo, .int .i64 d.make.hi, .int .i64 d.loss.lo, .int .i64 d.loss.hi] 151 (0, 0)) ∧ (W36.alloc (.cells #[.int .i64 d.loss.hi] 3)).heap[w.heap.size]? = some (.cells #[.int .i64 stock, .int .i64 store, .slice (some ⟨b, off, none⟩) ds.length cap] 64 (0, 0))) := ⟨H36.out.1.below ((Below.refl _ _).alloc (Nat.le_refl _) _), alk H36.out.2.1, alk H36.out.2.2⟩
          have P441 := Lib.hid (P361.out.below ((Below.refl W36.heap.size W36).alloc (Nat.le_refl _) (.cells #[.int .i64 d.loss.hi] 3)))
          have P440 := Lib.hid (P360.out.below ((Below.refl W36.heap.size W36).alloc (Nat.le_refl _) (.cells #[.int .i64 d.loss.hi] 3)))
          have P442 := Lib.hid (PD.make H36.out.1 d.loss.hi)
          refine hK.out _ _ H44.out.2.1 (fun _ => ?_)
          clear hK
          generalize (W36.alloc (.cells #[.int .i64 d.loss.hi] 3)) = W44 at H44 P441 P440 P442 ⊢
          simp only [List.setIfInBounds_toArray, List.set_cons_zero, List.set_cons_succ]
          refine wpAnyH_ready (rs := [5]) (by kernel_rfl) (by simp) ?_
          refine AllReadyH.cons (o := _) rfl (fun K hK => ?_) AllReadyH.nil
          refine step_append_lies _ rfl (.tmp 25) (.tmp 29) 27 rfl (w.heap.size + 1) 3 i0 (.int .i64 0) 1 8 Tryz.underlying27 hi hz0 hz1 hz2 rfl (by decide) vN N.length (N.map (Value.int .i64)) rfl H44.out.1.r.n ⟨W35.heap.size, 0, none⟩ 1 1 [.int .i64 d.need.hi] rfl rfl P440.out.cells (by intro u hu; simp at hu; subst hu; rfl) (by decide) (by unfold maxLen; omega) (by omega) H44.out.1.hz _ rfl ?_
          intro g45 c45 W45 hown hgrow hat _
          have H45 : Hid (TQ w W45 (w.heap.size + 1) (.slice (some ⟨g45, 0, none⟩) (N.length + 1) c45) vM vL (N ++ [d.need.hi]) M L ∧ W45.heap[wr.heap.size]? = some (.cells #[.int .i64 d.need.lo, .int .i64 d.need.hi, .int .i64 d.make.lo, .int .i64 d.make.hi, .int .i64 d.loss.lo, .int .i64 d.loss.hi] 151 (0, 0)) ∧ W45.heap[w.heap.size]? = some (.cells #[.int .i64 stock, .int .i64 store, .slice (some ⟨b, off, none⟩) ds.length cap] 64 (0, 0))) := ⟨(H44.out.1).push hown hgrow hat, (H44.out.1).keep (by decide) H44.out.2.1 hgrow, (H44.out.1).keep (by decide) H44.out.2.2 hgrow⟩
          have P451 := Lib.hid (PD.push (n := N.length + 1) (c := c45) (P441.out) hgrow hat)
          have P452 := Lib.hid (PD.push (n := N.length + 1) (c := c45) (P442.out) hgrow hat)
          clear hown hgrow hat
          refine hK.out _ _ H45.out.2.1 (fun _ => ?_)
          clear hK
          simp only [Act.put, List.setIfInBounds_toArray, List.set_cons_zero, List.set_cons_succ]
          refine wpAnyH_ready (rs := [11]) (by kernel_rfl) (by simp) ?_
          refine AllReadyH.cons (o := _) rfl (fun K hK => ?_) AllReadyH.nil
          refine step_append_lies _ rfl (.tmp 31) (.tmp 35) 27 rfl (w.heap.size + 1) 3 i0 (.int .i64 0) 1 8 Tryz.underlying27 hi hz0 hz1 hz2 rfl (by decide) vM M.length (M.map (Value.int .i64)) rfl H45.out.1.rot.r.n ⟨W0.heap.size, 0, none⟩ 1 1 [.int .i64 d.make.lo] rfl rfl P451.out.cells (by intro u hu; simp at hu; subst hu; rfl) (by decide) (by unfold maxLen; omega) (by omega) H45.out.1.hz _ rfl ?_
          intro g46 c46 W46 hown hgrow hat _
          have H46 : Hid (TQ w W46 (w.heap.size + 1) (.slice (some ⟨g46, 0, none⟩) (M.length + 1) c46) vL (.slice (some ⟨g45, 0, none⟩) (N.length + 1) c45) (M ++ [d.make.lo]) L (N ++ [d.need.hi]) ∧ W46.heap[wr.heap.size]? = some (.cells #[.int .i64 d.need.lo, .int .i64 d.need.hi, .int .i64 d.make.lo, .int .i64 d.make.hi, .int .i64 d.loss.lo, .int .i64 d.loss.hi] 151 (0, 0)) ∧ W46.heap[w.heap.size]? = some (.cells #[.int .i64 stock, .int .i64 store, .slice (some ⟨b, off, none⟩) ds.length cap] 64 (0, 0))) := ⟨(H45.out.1.rot).push hown hgrow hat, (H45.out.1.rot).keep (by decide) H45.out.2.1 hgrow, (H45.out.1.rot).keep (by decide) H45.out.2.2 hgrow⟩
          have P462 := Lib.hid (PD.push (n := M.length + 1) (c := c46) (P452.out.rot) hgrow hat)
          clear hown hgrow hat
          refine hK.out _ _ H46.out.2.1 (fun _ => ?_)
          clear hK
          simp only [Act.put, List.setIfInBounds_toArray, List.set_cons_zero, List.set_cons_succ]
          refine wpAnyH_ready (rs := [17]) (by kernel_rfl) (by simp) ?_
          refine AllReadyH.cons (o := _) rfl (fun K hK => ?_) AllReadyH.nil
          refine step_append_lies _ rfl (.tmp 37) (.tmp 41) 27 rfl (w.heap.size + 1) 3 i0 (.int .i64 0) 1 8 Tryz.underlying27 hi hz0 hz1 hz2 rfl (by decide) vL L.length (L.map (Value.int .i64)) rfl H46.out.1.rot.r.n ⟨W36.heap.size, 0, none⟩ 1 1 [.int .i64 d.loss.hi] rfl rfl P462.out.cells (by intro u hu; simp at hu; subst hu; rfl) (by decide) (by unfold maxLen; omega) (by omega) H46.out.1.hz _ rfl ?_
          intro g47 c47 W47 hown hgrow hat _
          have H47 : Hid (TQ w W47 (w.heap.size + 1) (.slice (some ⟨g47, 0, none⟩) (L.length + 1) c47) (.slice (some ⟨g45, 0, none⟩) (N.length + 1) c45) (.slice (some ⟨g46, 0, none⟩) (M.length + 1) c46) (L ++ [d.loss.hi]) (N ++ [d.need.hi]) (M ++ [d.make.lo]) ∧ W47.heap[wr.heap.size]? = some (.cells #[.int .i64 d.need.lo, .int .i64 d.need.hi, .int .i64 d.make.lo, .int .i64 d.make.hi, .int .i64 d.loss.lo, .int .i64 d.loss.hi] 151 (0, 0)) ∧ W47.heap[w.heap.size]? = some (.cells #[.int .i64 stock, .int .i64 store, .slice (some ⟨b, off, none⟩) ds.length cap] 64 (0, 0))) := ⟨(H46.out.1.rot).push hown hgrow hat, (H46.out.1.rot).keep (by decide) H46.out.2.1 hgrow, (H46.out.1.rot).keep (by decide) H46.out.2.2 hgrow⟩
          clear hown hgrow hat
          refine hK.out _ _ H47.out.2.1 (fun _ => ?_)
          clear hK
          simp only [Act.put, List.setIfInBounds_toArray, List.set_cons_zero, List.set_cons_succ]
          refine wpAnyH_done (by kernel_rfl) ?_ _
          show wpList _ _ _ (opsAt _ [18, 19, 20]) _ _
          simp only [opsAt, List.filterMap_cons, List.filterMap_nil, List.getElem?_toArray, List.getElem?_cons_succ, List.getElem?_cons_zero]
          have HZ := H47.out.1.rot
          go_wp2_with (fail)
          go_roundw
          case rel => exact ⟨j + 1, _, _, _, _, _, _, rfl, rfl, rfl, by go_num, by omega, ⟨HZ, H47.out.2.2⟩, HE2⟩
          case measure => simp [intOf]; omega
        refine AllReadyH.cons (o := _) rfl (fun K hK => ?_) AllReadyH.nil
        go_simp
        have H48 : Hid (TQ w (W35.alloc (.cells #[.int .i64 d.loss.hi] 3)) (w.heap.size + 1) vN vM vL N M L ∧ (W35.alloc (.cells #[.int .i64 d.loss.hi] 3)).heap[wr.heap.size]? = some (.cells #[.int .i64 d.need.lo, .int .i64 d.need.hi, .int .i64 d.make.lo, .int .i64 d.make.hi, .int .i64 d.loss.lo, .int .i64 d.loss.hi] 151 (0, 0)) ∧ (W35.alloc (.cells #[.int .i64 d.loss.hi] 3)).heap[w.heap.size]? = some (.cells #[.int .i64 stock, .int .i64 store, .slice (some ⟨b, off, none⟩) ds.length cap] 64 (0, 0))) := ⟨H35.out.1.below ((Below.refl _ _).alloc (Nat.le_refl _) _), alk H35.out.2.1, alk H35.out.2.2⟩
        have P481 := Lib.hid (P351.out.below ((Below.refl W35.heap.size W35).alloc (Nat.le_refl _) (.cells #[.int .i64 d.loss.hi] 3)))
        have P482 := Lib.hid (PD.make H35.out.1 d.loss.hi)
        refine hK.out _ _ H48.out.2.1 (fun _ => ?_)
        clear hK
        generalize (W35.alloc (.cells #[.int .i64 d.loss.hi] 3)) = W48 at H48 P481 P482 ⊢
        simp only [List.setIfInBounds_toArray, List.set_cons_zero, List.set_cons_succ]
        refine wpAnyH_ready (rs := [4]) (by kernel_rfl) (by simp) ?_
        refine AllReadyH.cons (o := _) rfl (fun K hK => ?_) AllReadyH.nil
        go_simp
        have H49 : Hid (TQ w (W48.alloc (.cells #[.int .i64 d.need.hi] 3)) (w.heap.size + 1) vN vM vL N M L ∧ (W48.alloc (.cells #[.int .i64 d.need.hi] 3)).heap[wr.heap.size]? = some (.cells #[.int .i64 d.need.lo, .int .i64 d.need.hi, .int .i64 d.make.lo, .int .i64 d.make.hi, .int .i64 d.loss.lo, .int .i64 d.loss.hi] 151 (0, 0)) ∧ (W48.alloc (.cells #[.int .i64 d.need.hi] 3)).heap[w.heap.size]? = some (.cells #[.int .i64 stock, .int .i64 store, .slice (some ⟨b, off, none⟩) ds.length cap] 64 (0, 0))) := ⟨H48.out.1.below ((Below.refl _ _).alloc (Nat.le_refl _) _), alk H48.out.2.1, alk H48.out.2.2⟩
        have P491 := Lib.hid (P481.out.below ((Below.refl W48.heap.size W48).alloc (Nat.le_refl _) (.cells #[.int .i64 d.need.hi] 3)))
        have P492 := Lib.hid (P482.out.below ((Below.refl W48.heap.size W48).alloc (Nat.le_refl _) (.cells #[.int .i64 d.need.hi] 3)))
        have P490 := Lib.hid (PD.make H48.out.1 d.need.hi)
        refine hK.out _ _ H49.out.2.1 (fun _ => ?_)
        clear hK
        generalize (W48.alloc (.cells #[.int .i64 d.need.hi] 3)) = W49 at H49 P491 P492 P490 ⊢
        simp only [List.setIfInBounds_toArray, List.set_cons_zero, List.set_cons_succ]
        refine wpAnyH_ready (rs := [5]) (by kernel_rfl) (by simp) ?_
        refine AllReadyH.cons (o := _) rfl (fun K hK => ?_) AllReadyH.nil
        refine step_append_lies _ rfl (.tmp 25) (.tmp 29) 27 rfl (w.heap.size + 1) 3 i0 (.int .i64 0) 1 8 Tryz.underlying27 hi hz0 hz1 hz2 rfl (by decide) vN N.length (N.map (Value.int .i64)) rfl H49.out.1.r.n ⟨W48.heap.size, 0, none⟩ 1 1 [.int .i64 d.need.hi] rfl rfl P490.out.cells (by intro u hu; simp at hu; subst hu; rfl) (by decide) (by unfold maxLen; omega) (by omega) H49.out.1.hz _ rfl ?_
        intro g50 c50 W50 hown hgrow hat _
        have H50 : Hid (TQ w W50 (w.heap.size + 1) (.slice (some ⟨g50, 0, none⟩) (N.length + 1) c50) vM vL (N ++ [d.need.hi]) M L ∧ W50.heap[wr.heap.size]? = some (.cells #[.int .i64 d.need.lo, .int .i64 d.need.hi, .int .i64 d.make.lo, .int .i64 d.make.hi, .int .i64 d.loss.lo, .int .i64 d.loss.hi] 151 (0, 0)) ∧ W50.heap[w.heap.size]? = some (.cells #[.int .i64 stock, .int .i64 store, .slice (some ⟨b, off, none⟩) ds.length cap] 64 (0, 0))) := ⟨(H49.out.1).push hown hgrow hat, (H49.out.1).keep (by decide) H49.out.2.1 hgrow, (H49.out.1).keep (by decide) H49.out.2.2 hgrow⟩
        have P501 := Lib.hid (PD.push (n := N.length + 1) (c := c50) (P491.out) hgrow hat)
        have P502 := Lib.hid (PD.push (n := N.length + 1) (c := c50) (P492.out) hgrow hat)
        clear hown hgrow hat
        refine hK.out _ _ H50.out.2.1 (fun _ => ?_)
        clear hK
        simp only [Act.put, List.setIfInBounds_toArray, List.set_cons_zero, List.set_cons_succ]
        refine wpAnyH_ready (rs := [11]) (by kernel_rfl) (by simp) ?_
        refine AllReadyH.cons (o := _) rfl (fun K hK => ?_) AllReadyH.nil
        refine step_append_lies _ rfl (.tmp 31) (.tmp 35) 27 rfl (w.heap.size + 1) 3 i0 (.int .i64 0) 1 8 Tryz.underlying27 hi hz0 hz1 hz2 rfl (by decide) vM M.length (M.map (Value.int .i64)) rfl H50.out.1.rot.r.n ⟨W0.heap.size, 0, none⟩ 1 1 [.int .i64 d.make.lo] rfl rfl P501.out.cells (by intro u hu; simp at hu; subst hu; rfl) (by decide) (by unfold maxLen; omega) (by omega) H50.out.1.hz _ rfl ?_
        intro g51 c51 W51 hown hgrow hat _
        have H51 : Hid (TQ w W51 (w.heap.size + 1) (.slice (some ⟨g51, 0, none⟩) (M.length + 1) c51) vL (.slice (some ⟨g50, 0, none⟩) (N.length + 1) c50) (M ++ [d.make.lo]) L (N ++ [d.need.hi]) ∧ W51.heap[wr.heap.size]? = some (.cells #[.int .i64 d.need.lo, .int .i64 d.need.hi, .int .i64 d.make.lo, .int .i64 d.make.hi, .int .i64 d.loss.lo, .int .i64 d.loss.hi] 151 (0, 0)) ∧ W51.heap[w.heap.size]? = some (.cells #[.int .i64 stock, .int .i64 store, .slice (some ⟨b, off, none⟩) ds.length cap] 64 (0, 0))) := ⟨(H50.out.1.rot).push hown hgrow hat, (H50.out.1.rot).keep (by decide) H50.out.2.1 hgrow, (H50.out.1.rot).keep (by decide) H50.out.2.2 hgrow⟩
        have P512 := Lib.hid (PD.push (n := M.length + 1) (c := c51) (P502.out.rot) hgrow hat)
        clear hown hgrow hat
        refine hK.out _ _ H51.out.2.1 (fun _ => ?_)
        clear hK
        simp only [Act.put, List.setIfInBounds_toArray, List.set_cons_zero, List.set_cons_succ]
        refine wpAnyH_ready (rs := [17]) (by kernel_rfl) (by simp) ?_
        refine AllReadyH.cons (o := _) rfl (fun K hK => ?_) AllReadyH.nil
        refine step_append_lies _ rfl (.tmp 37) (.tmp 41) 27 rfl (w.heap.size + 1) 3 i0 (.int .i64 0) 1 8 Tryz.underlying27 hi hz0 hz1 hz2 rfl (by decide) vL L.length (L.map (Value.int .i64)) rfl H51.out.1.rot.r.n ⟨W35.heap.size, 0, none⟩ 1 1 [.int .i64 d.loss.hi] rfl rfl P512.out.cells (by intro u hu; simp at hu; subst hu; rfl) (by decide) (by unfold maxLen; omega) (by omega) H51.out.1.hz _ rfl ?_
        intro g52 c52 W52 hown hgrow hat _
        have H52 : Hid (TQ w W52 (w.heap.size + 1) (.slice (some ⟨g52, 0, none⟩) (L.length + 1) c52) (.slice (some ⟨g50, 0, none⟩) (N.length + 1) c50) (.slice (some ⟨g51, 0, none⟩) (M.length + 1) c51) (L ++ [d.loss.hi]) (N ++ [d.need.hi]) (M ++ [d.make.lo]) ∧ W52.heap[wr.heap.size]? = some (.cells #[.int .i64 d.need.lo, .int .i64 d.need.hi, .int .i64 d.make.lo, .int .i64 d.make.hi, .int .i64 d.loss.lo, .int .i64 d.loss.hi] 151 (0, 0)) ∧ W52.heap[w.heap.size]? = some (.cells #[.int .i64 stock, .int .i64 store, .slice (some ⟨b, off, none⟩) ds.length cap] 64 (0, 0))) := ⟨(H51.out.1.rot).push hown hgrow hat, (H51.out.1.rot).keep (by decide) H51.out.2.1 hgrow, (H51.out.1.rot).keep (by decide) H51.out.2.2 hgrow⟩
        clear hown hgrow hat
        refine hK.out _ _ H52.out.2.1 (fun _ => ?_)
        clear hK
        simp only [Act.put, List.setIfInBounds_toArray, List.set_cons_zero, List.set_cons_succ]
        refine wpAnyH_done (by kernel_rfl) ?_ _
        show wpList _ _ _ (opsAt _ [18, 19, 20]) _ _
        simp only [opsAt, List.filterMap_cons, List.filterMap_nil, List.getElem?_toArray, List.getElem?_cons_succ, List.getElem?_cons_zero]
        have HZ := H52.out.1.rot
        go_wp2_with (fail)
        go_roundw
        case rel => exact ⟨j + 1, _, _, _, _, _, _, rfl, rfl, rfl, by go_num, by omega, ⟨HZ, H52.out.2.2⟩, HE2⟩
        case measure => simp [intOf]; omega
      refine AllReadyH.cons (o := _) rfl (fun K hK => ?_) AllReadyH.nil
      go_simp
      have H53 : Hid (TQ w (W0.alloc (.cells #[.int .i64 d.loss.hi] 3)) (w.heap.size + 1) vN vM vL N M L ∧ (W0.alloc (.cells #[.int .i64 d.loss.hi] 3)).heap[wr.heap.size]? = some (.cells #[.int .i64 d.need.lo, .int .i64 d.need.hi, .int .i64 d.make.lo, .int .i64 d.make.hi, .int .i64 d.loss.lo, .int .i64 d.loss.hi] 151 (0, 0)) ∧ (W0.alloc (.cells #[.int .i64 d.loss.hi] 3)).heap[w.heap.size]? = some (.cells #[.int .i64 stock, .int .i64 store, .slice (some ⟨b, off, none⟩) ds.length cap] 64 (0, 0))) := ⟨H0.out.1.below ((Below.refl _ _).alloc (Nat.le_refl _) _), alk H0.out.2.1, alk H0.out.2.2⟩
      have P532 := Lib.hid (PD.make H0.out.1 d.loss.hi)
      refine hK.out _ _ H53.out.2.1 (fun _ => ?_)
      clear hK
      generalize (W0.alloc (.cells #[.int .i64 d.loss.hi] 3)) = W53 at H53 P532 ⊢
      simp only [List.setIfInBounds_toArray, List.set_cons_zero, List.set_cons_succ]
      refine wpAnyH_ready (rs := [4, 10]) (by kernel_rfl) (by simp) ?_
      refine AllReadyH.cons (o := _) rfl (fun K hK => ?_) ?_
      · go_simp
        have H54 : Hid (TQ w (W53.alloc (.cells #[.int .i64 d.need.hi] 3)) (w.heap.size + 1) vN vM vL N M L ∧ (W53.alloc (.cells #[.int .i64 d.need.hi] 3)).heap[wr.heap.size]? = some (.cells #[.int .i64 d.need.lo, .int .i64 d.need.hi, .int .i64 d.make.lo, .int .i64 d.make.hi, .int .i64 d.loss.lo, .int .i64 d.loss.hi] 151 (0, 0)) ∧ (W53.alloc (.cells #[.int .i64 d.need.hi] 3)).heap[w.heap.size]? = some (.cells #[.int .i64 stock, .int .i64 store, .slice (some ⟨b, off, none⟩) ds.length cap] 64 (0, 0))) := ⟨H53.out.1.below ((Below.refl _ _).alloc (Nat.le_refl _) _), alk H53.out.2.1, alk H53.out.2.2⟩
        have P542 := Lib.hid (P532.out.below ((Below.refl W53.heap.size W53).alloc (Nat.le_refl _) (.cells #[.int .i64 d.need.hi] 3)))
        have P540 := Lib.hid (PD.make H53.out.1 d.need.hi)
        refine hK.out _ _ H54.out.2.1 (fun _ => ?_)
        clear hK
        generalize (W53.alloc (.cells #[.int .i64 d.need.hi] 3)) = W54 at H54 P542 P540 ⊢
        simp only [List.setIfInBounds_toArray, List.set_cons_zero, List.set_cons_succ]
        refine wpAnyH_ready (rs := [5, 10]) (by kernel_rfl) (by simp) ?_
        refine AllReadyH.cons (o := _) rfl (fun K hK => ?_) ?_
        · refine step_append_lies _ rfl (.tmp 25) (.tmp 29) 27 rfl (w.heap.size + 1) 3 i0 (.int .i64 0) 1 8 Tryz.underlying27 hi hz0 hz1 hz2 rfl (by decide) vN N.length (N.map (Value.int .i64)) rfl H54.out.1.r.n ⟨W53.heap.size, 0, none⟩ 1 1 [.int .i64 d.need.hi] rfl rfl P540.out.cells (by intro u hu; simp at hu; subst hu; rfl) (by decide) (by unfold maxLen; omega) (by omega) H54.out.1.hz _ rfl ?_
          intro g55 c55 W55 hown hgrow hat _
          have H55 : Hid (TQ w W55 (w.heap.size + 1) (.slice (some ⟨g55, 0, none⟩) (N.length + 1) c55) vM vL (N ++ [d.need.hi]) M L ∧ W55.heap[wr.heap.size]? = some (.cells #[.int .i64 d.need.lo, .int .i64 d.need.hi, .int .i64 d.make.lo, .int .i64 d.make.hi, .int .i64 d.loss.lo, .int .i64 d.loss.hi] 151 (0, 0)) ∧ W55.heap[w.heap.size]? = some (.cells #[.int .i64 stock, .int .i64 store, .slice (some ⟨b, off, none⟩) ds.length cap] 64 (0, 0))) := ⟨(H54.out.1).push hown hgrow hat, (H54.out.1).keep (by decide) H54.out.2.1 hgrow, (H54.out.1).keep (by decide) H54.out.2.2 hgrow⟩
          have P552 := Lib.hid (PD.push (n := N.length + 1) (c := c55) (P542.out) hgrow hat)
          clear hown hgrow hat
          refine hK.out _ _ H55.out.2.1 (fun _ => ?_)
          clear hK
          simp only [Act.put, List.setIfInBounds_toArray, List.set_cons_zero, List.set_cons_succ]
          refine wpAnyH_ready (rs := [10]) (by kernel_rfl) (by simp) ?_
          refine AllReadyH.cons (o := _) rfl (fun K hK => ?_) AllReadyH.nil
          go_simp
          have H56 : Hid (TQ w (W55.alloc (.cells #[.int .i64 d.make.lo] 3)) (w.heap.size + 1) (.slice (some ⟨g55, 0, none⟩) (N.length + 1) c55) vM vL (N ++ [d.need.hi]) M L ∧ (W55.alloc (.cells #[.int .i64 d.make.lo] 3)).heap[wr.heap.size]? = some (.cells #[.int .i64 d.need.lo, .int .i64 d.need.hi, .int .i64 d.make.lo, .int .i64 d.make.hi, .int .i64 d.loss.lo, .int .i64 d.loss.hi] 151 (0, 0)) ∧ (W55.alloc (.cells #[.int .i64 d.make.lo] 3)).heap[w.heap.size]? = some (.cells #[.int .i64 stock, .int .i64 store, .slice (some ⟨b, off, none⟩) ds.length cap] 64 (0, 0))) := ⟨H55.out.1.below ((Below.refl _ _).alloc (Nat.le_refl _) _), alk H55.out.2.1, alk H55.out.2.2⟩
          have P562 := Lib.hid (P552.out.below ((Below.refl W55.heap.size W55).alloc (Nat.le_refl _) (.cells #[.int .i64 d.make.lo] 3)))
          have P561 := Lib.hid (PD.make H55.out.1 d.make.lo)
          refine hK.out _ _ H56.out.2.1 (fun _ => ?_)
          clear hK
          generalize (W55.alloc (.cells #[.int .i64 d.make.lo] 3)) = W56 at H56 P562 P561 ⊢
          simp only [List.setIfInBounds_toArray, List.set_cons_zero, List.set_cons_succ]
          refine wpAnyH_ready (rs := [11]) (by kernel_rfl) (by simp) ?_
          refine AllReadyH.cons (o := _) rfl (fun K hK => ?_) AllReadyH.nil
          refine step_append_lies _ rfl (.tmp 31) (.tmp 35) 27 rfl (w.heap.size + 1) 3 i0 (.int .i64 0) 1 8 Tryz.underlying27 hi hz0 hz1 hz2 rfl (by decide) vM M.length (M.map (Value.int .i64)) rfl H56.out.1.rot.r.n ⟨W55.heap.size, 0, none⟩ 1 1 [.int .i64 d.make.lo] rfl rfl P561.out.cells (by intro u hu; simp at hu; subst hu; rfl) (by decide) (by unfold maxLen; omega) (by omega) H56.out.1.hz _ rfl ?_
          intro g57 c57 W57 hown hgrow hat _
          have H57 : Hid (TQ w W57 (w.heap.size + 1) (.slice (some ⟨g57, 0, none⟩) (M.length + 1) c57) vL (.slice (some ⟨g55, 0, none⟩) (N.length + 1) c55) (M ++ [d.make.lo]) L (N ++ [d.need.hi]) ∧ W57.heap[wr.heap.size]? = some (.cells #[.int .i64 d.need.lo, .int .i64 d.need.hi, .int .i64 d.make.lo, .int .i64 d.make.hi, .int .i64 d.loss.lo, .int .i64 d.loss.hi] 151 (0, 0)) ∧ W57.heap[w.heap.size]? = some (.cells #[.int .i64 stock, .int .i64 store, .slice (some ⟨b, off, none⟩) ds.length cap] 64 (0, 0))) := ⟨(H56.out.1.rot).push hown hgrow hat, (H56.out.1.rot).keep (by decide) H56.out.2.1 hgrow, (H56.out.1.rot).keep (by decide) H56.out.2.2 hgrow⟩
          have P572 := Lib.hid (PD.push (n := M.length + 1) (c := c57) (P562.out.rot) hgrow hat)
          clear hown hgrow hat
          refine hK.out _ _ H57.out.2.1 (fun _ => ?_)
          clear hK
          simp only [Act.put, List.setIfInBounds_toArray, List.set_cons_zero, List.set_cons_succ]
          refine wpAnyH_ready (rs := [17]) (by kernel_rfl) (by simp) ?_
          refine AllReadyH.cons (o := _) rfl (fun K hK => ?_) AllReadyH.nil
          refine step_append_lies _ rfl (.tmp 37) (.tmp 41) 27 rfl (w.heap.size + 1) 3 i0 (.int .i64 0) 1 8 Tryz.underlying27 hi hz0 hz1 hz2 rfl (by decide) vL L.length (L.map (Value.int .i64)) rfl H57.out.1.rot.r.n ⟨W0.heap.size, 0, none⟩ 1 1 [.int .i64 d.loss.hi] rfl rfl P572.out.cells (by intro u hu; simp at hu; subst hu; rfl) (by decide) (by unfold maxLen; omega) (by omega) H57.out.1.hz _ rfl ?_
          intro g58 c58 W58 hown hgrow hat _
          have H58 : Hid (TQ w W58 (w.heap.size + 1) (.slice (some ⟨g58, 0, none⟩) (L.length + 1) c58) (.slice (some ⟨g55, 0, none⟩) (N.length + 1) c55) (.slice (some ⟨g57, 0, none⟩) (M.length + 1) c57) (L ++ [d.loss.hi]) (N ++ [d.need.hi]) (M ++ [d.make.lo]) ∧ W58.heap[wr.heap.size]? = some (.cells #[.int .i64 d.need.lo, .int .i64 d.need.hi, .int .i64 d.make.lo, .int .i64 d.make.hi, .int .i64 d.loss.lo, .int .i64 d.loss.hi] 151 (0, 0)) ∧ W58.heap[w.heap.size]? = some (.cells #[.int .i64 stock, .int .i64 store, .slice (some ⟨b, off, none⟩) ds.length cap] 64 (0, 0))) := ⟨(H57.out.1.rot).push hown hgrow hat, (H57.out.1.rot).keep (by decide) H57.out.2.1 hgrow, (H57.out.1.rot).keep (by decide) H57.out.2.2 hgrow⟩
          clear hown hgrow hat
          refine hK.out _ _ H58.out.2.1 (fun _ => ?_)
          clear hK
          simp only [Act.put, List.setIfInBounds_toArray, List.set_cons_zero, List.set_cons_succ]
          refine wpAnyH_done (by kernel_rfl) ?_ _
          show wpList _ _ _ (opsAt _ [18, 19, 20]) _ _
          simp only [opsAt, List.filterMap_cons, List.filterMap_nil, List.getElem?_toArray, List.getElem?_cons_succ, List.getElem?_cons_zero]
          have HZ := H58.out.1.rot
          go_wp2_with (fail)
          go_roundw
          case rel => exact ⟨j + 1, _, _, _, _, _, _, rfl, rfl, rfl, by go_num, by omega, ⟨HZ, H58.out.2.2⟩, HE2⟩
          case measure => simp [intOf]; omega
        refine AllReadyH.cons (o := _) rfl (fun K hK => ?_) AllReadyH.nil
        go_simp
        have H59 : Hid (TQ w (W54.alloc (.cells #[.int .i64 d.make.lo] 3)) (w.heap.size + 1) vN vM vL N M L ∧ (W54.alloc (.cells #[.int .i64 d.make.lo] 3)).heap[wr.heap.size]? = some (.cells #[.int .i64 d.need.lo, .int .i64 d.need.hi, .int .i64 d.make.lo, .int .i64 d.make.hi, .int .i64 d.loss.lo, .int .i64 d.loss.hi] 151 (0, 0)) ∧ (W54.alloc (.cells #[.int .i64 d.make.lo] 3)).heap[w.heap.size]? = some (.cells #[.int .i64 stock, .int .i64 store, .slice (some ⟨b, off, none⟩) ds.length cap] 64 (0, 0))) := ⟨H54.out.1.below ((Below.refl _ _).alloc (Nat.le_refl _) _), alk H54.out.2.1, alk H54.out.2.2⟩
        have P592 := Lib.hid (P542.out.below ((Below.refl W54.heap.size W54).alloc (Nat.le_refl _) (.cells #[.int .i64 d.make.lo] 3)))
        have P590 := Lib.hid (P540.out.below ((Below.refl W54.heap.size W54).alloc (Nat.le_refl _) (.cells #[.int .i64 d.make.lo] 3)))
        have P591 := Lib.hid (PD.make H54.out.1 d.make.lo)
        refine hK.out _ _ H59.out.2.1 (fun _ => ?_)
        clear hK
        generalize (W54.alloc (.cells #[.int .i64 d.make.lo] 3)) = W59 at H59 P592 P590 P591 ⊢
        simp only [List.setIfInBounds_toArray, List.set_cons_zero, List.set_cons_succ]
        refine wpAnyH_ready (rs := [5]) (by kernel_rfl) (by simp) ?_
        refine AllReadyH.cons (o := _) rfl (fun K hK => ?_) AllReadyH.nil
        refine step_append_lies _ rfl (.tmp 25) (.tmp 29) 27 rfl (w.heap.size + 1) 3 i0 (.int .i64 0) 1 8 Tryz.underlying27 hi hz0 hz1 hz2 rfl (by decide) vN N.length (N.map (Value.int .i64)) rfl H59.out.1.r.n ⟨W53.heap.size, 0, none⟩ 1 1 [.int .i64 d.need.hi] rfl rfl P590.out.cells (by intro u hu; simp at hu; subst hu; rfl) (by decide) (by unfold maxLen; omega) (by omega) H59.out.1.hz _ rfl ?_
        intro g60 c60 W60 hown hgrow hat _
        have H60 : Hid (TQ w W60 (w.heap.size + 1) (.slice (some ⟨g60, 0, none⟩) (N.length + 1) c60) vM vL (N ++ [d.need.hi]) M L ∧ W60.heap[wr.heap.size]? = some (.cells #[.int .i64 d.need.lo, .int .i64 d.need.hi, .int .i64 d.make.lo, .int .i64 d.make.hi, .int .i64 d.loss.lo, .int .i64 d.loss.hi] 151 (0, 0)) ∧ W60.heap[w.heap.size]? = some (.cells #[.int .i64 stock, .int .i64 store, .slice (some ⟨b, off, none⟩) ds.length cap] 64 (0, 0))) := ⟨(H59.out.1).push hown hgrow hat, (H59.out.1).keep (by decide) H59.out.2.1 hgrow, (H59.out.1).keep (by decide) H59.out.2.2 hgrow⟩
        have P602 := Lib.hid (PD.push (n := N.length + 1) (c := c60) (P592.out) hgrow hat)
        have P601 := Lib.hid (PD.push (n := N.length + 1) (c := c60) (P591.out) hgrow hat)
        clear hown hgrow hat
        refine hK.out _ _ H60.out.2.1 (fun _ => ?_)
        clear hK
        simp only [Act.put, List.setIfInBounds_toArray, List.set_cons_zero, List.set_cons_succ]
        refine wpAnyH_ready (rs := [11]) (by kernel_rfl) (by simp) ?_
        refine AllReadyH.cons (o := _) rfl (fun K hK => ?_) AllReadyH.nil
        refine step_append_lies _ rfl (.tmp 31) (.tmp 35) 27 rfl (w.heap.size + 1) 3 i0 (.int .i64 0) 1 8 Tryz.underlying27 hi hz0 hz1 hz2 rfl (by decide) vM M.length (M.map (Value.int .i64)) rfl H60.out.1.rot.r.n ⟨W54.heap.size, 0, none⟩ 1 1 [.int .i64 d.make.lo] rfl rfl P601.out.cells (by intro u hu; simp at hu; subst hu; rfl) (by decide) (by unfold maxLen; omega) (by omega) H60.out.1.hz _ rfl ?_
        intro g61 c61 W61 hown hgrow hat _
        have H61 : Hid (TQ w W61 (w.heap.size + 1) (.slice (some ⟨g61, 0, none⟩) (M.length + 1) c61) vL (.slice (some ⟨g60, 0, none⟩) (N.length + 1) c60) (M ++ [d.make.lo]) L (N ++ [d.need.hi]) ∧ W61.heap[wr.heap.size]? = some (.cells #[.int .i64 d.need.lo, .int .i64 d.need.hi, .int .i64 d.make.lo, .int .i64 d.make.hi, .int .i64 d.loss.lo, .int .i64 d.loss.hi] 151 (0, 0)) ∧ W61.heap[w.heap.size]? = some (.cells #[.int .i64 stock, .int .i64 store, .slice (some ⟨b, off, none⟩) ds.length cap] 64 (0, 0))) := ⟨(H60.out.1.rot).push hown hgrow hat, (H60.out.1.rot).keep (by decide) H60.out.2.1 hgrow, (H60.out.1.rot).keep (by decide) H60.out.2.2 hgrow⟩
        have P612 := Lib.hid (PD.push (n := M.length + 1) (c := c61) (P602.out.rot) hgrow hat)
        clear hown hgrow hat
        refine hK.out _ _ H61.out.2.1 (fun _ => ?_)
        clear hK
        simp only [Act.put, List.setIfInBounds_toArray, List.set_cons_zero, List.set_cons_succ]
        refine wpAnyH_ready (rs := [17]) (by kernel_rfl) (by simp) ?_
        refine AllReadyH.cons (o := _) rfl (fun K hK => ?_) AllReadyH.nil
        refine step_append_lies _ rfl (.tmp 37) (.tmp 41) 27 rfl (w.heap.size + 1) 3 i0 (.int .i64 0) 1 8 Tryz.underlying27 hi hz0 hz1 hz2 rfl (by decide) vL L.length (L.map (Value.int .i64)) rfl H61.out.1.rot.r.n ⟨W0.heap.size, 0, none⟩ 1 1 [.int .i64 d.loss.hi] rfl rfl P612.out.cells (by intro u hu; simp at hu; subst hu; rfl) (by decide) (by unfold maxLen; omega) (by omega) H61.out.1.hz _ rfl ?_
        intro g62 c62 W62 hown hgrow hat _
        have H62 : Hid (TQ w W62 (w.heap.size + 1) (.slice (some ⟨g62, 0, none⟩) (L.length + 1) c62) (.slice (some ⟨g60, 0, none⟩) (N.length + 1) c60) (.slice (some ⟨g61, 0, none⟩) (M.length + 1) c61) (L ++ [d.loss.hi]) (N ++ [d.need.hi]) (M ++ [d.make.lo]) ∧ W62.heap[wr.heap.size]? = some (.cells #[.int .i64 d.need.lo, .int .i64 d.need.hi, .int .i64 d.make.lo, .int .i64 d.make.hi, .int .i64 d.loss.lo, .int .i64 d.loss.hi] 151 (0, 0)) ∧ W62.heap[w.heap.size]? = some (.cells #[.int .i64 stock, .int .i64 store, .slice (some ⟨b, off, none⟩) ds.length cap] 64 (0, 0))) := ⟨(H61.out.1.rot).push hown hgrow hat, (H61.out.1.rot).keep (by decide) H61.out.2.1 hgrow, (H61.out.1.rot).keep (by decide) H61.out.2.2 hgrow⟩
        clear hown hgrow hat
        refine hK.out _ _ H62.out.2.1 (fun _ => ?_)
        clear hK
        simp only [Act.put, List.setIfInBounds_toArray, List.set_cons_zero, List.set_cons_succ]
        refine wpAnyH_done (by kernel_rfl) ?_ _
        show wpList _ _ _ (opsAt _ [18, 19, 20]) _ _
        simp only [opsAt, List.filterMap_cons, List.filterMap_nil, List.getElem?_toArray, List.getElem?_cons_succ, List.getElem?_cons_zero]
        have HZ := H62.out.1.rot
        go_wp2_with (fail)
        go_roundw
        case rel => exact ⟨j + 1, _, _, _, _, _, _, rfl, rfl, rfl, by go_num, by omega, ⟨HZ, H62.out.2.2⟩, HE2⟩
        case measure => simp [intOf]; omega
      refine AllReadyH.cons (o := _) rfl (fun K hK => ?_) AllReadyH.nil
      go_simp
      have H63 : Hid (TQ w (W53.alloc (.cells #[.int .i64 d.make.lo] 3)) (w.heap.size + 1) vN vM vL N M L ∧ (W53.alloc (.cells #[.int .i64 d.make.lo] 3)).heap[wr.heap.size]? = some (.cells #[.int .i64 d.need.lo, .int .i64 d.need.hi, .int .i64 d.make.lo, .int .i64 d.make.hi, .int .i64 d.loss.lo, .int .i64 d.loss.hi] 151 (0, 0)) ∧ (W53.alloc (.cells #[.int .i64 d.make.lo] 3)).heap[w.heap.size]? = some (.cells #[.int .i64 stock, .int .i64 store, .slice (some ⟨b, off, none⟩) ds.length cap] 64 (0, 0))) := ⟨H53.out.1.below ((Below.refl _ _).alloc (Nat.le_refl _) _), alk H53.out.2.1, alk H53.out.2.2⟩
      have P632 := Lib.hid (P532.out.below ((Below.refl W53.heap.size W53).alloc (Nat.le_refl _) (.cells #[.int .i64 d.make.lo] 3)))
      have P631 := Lib.hid (PD.make H53.out.1 d.make.lo)
      refine hK.out _ _ H63.out.2.1 (fun _ => ?_)
      clear hK
      generalize (W53.alloc (.cells #[.int .i64 d.make.lo] 3)) = W63 at H63 P632 P631 ⊢
      simp only [List.setIfInBounds_toArray, List.set_cons_zero, List.set_cons_succ]
      refine wpAnyH_ready (rs := [4]) (by kernel_rfl) (by simp) ?_
      refine AllReadyH.cons (o := _) rfl (fun K hK => ?_) AllReadyH.nil
      go_simp
      have H64 : Hid (TQ w (W63.alloc (.cells #[.int .i64 d.need.hi] 3)) (w.heap.size + 1) vN vM vL N M L ∧ (W63.alloc (.cells #[.int .i64 d.need.hi] 3)).heap[wr.heap.size]? = some (.cells #[.int .i64 d.need.lo, .int .i64 d.need.hi, .int .i64 d.make.lo, .int .i64 d.make.hi, .int .i64 d.loss.lo, .int .i64 d.loss.hi] 151 (0, 0)) ∧ (W63.alloc (.cells #[.int .i64 d.need.hi] 3)).heap[w.heap.size]? = some (.cells #[.int .i64 stock, .int .i64 store, .slice (some ⟨b, off, none⟩) ds.length cap] 64 (0, 0))) := ⟨H63.out.1.below ((Below.refl _ _).alloc (Nat.le_refl _) _), alk H63.out.2.1, alk H63.out.2.2⟩
      have P642 := Lib.hid (P632.out.below ((Below.refl W63.heap.size W63).alloc (Nat.le_refl _) (.cells #[.int .i64 d.need.hi] 3)))
      have P641 := Lib.hid (P631.out.below ((Below.refl W63.heap.size W63).alloc (Nat.le_refl _) (.cells #[.int .i64 d.need.hi] 3)))
      have P640 := Lib.hid (PD.make H63.out.1 d.need.hi)
      refine hK.out _ _ H64.out.2.1 (fun _ => ?_)
      clear hK
      generalize (W63.alloc (.cells #[.int .i64 d.need.hi] 3)) = W64 at H64 P642 P641 P640 ⊢
      simp only [List.setIfInBounds_toArray, List.set_cons_zero, List.set_cons_succ]
      refine wpAnyH_ready (rs := [5]) (by kernel_rfl) (by simp) ?_
      refine AllReadyH.cons (o := _) rfl (fun K hK => ?_) AllReadyH.nil
      refine step_append_lies _ rfl (.tmp 25) (.tmp 29) 27 rfl (w.heap.size + 1) 3 i0 (.int .i64 0) 1 8 Tryz.underlying27 hi hz0 hz1 hz2 rfl (by decide) vN N.length (N.map (Value.int .i64)) rfl H64.out.1.r.n ⟨W63.heap.size, 0, none⟩ 1 1 [.int .i64 d.need.hi] rfl rfl P640.out.cells (by intro u hu; simp at hu; subst hu; rfl) (by decide) (by unfold maxLen; omega) (by omega) H64.out.1.hz _ rfl ?_
      intro g65 c65 W65 hown hgrow hat _
      have H65 : Hid (TQ w W65 (w.heap.size + 1) (.slice (some ⟨g65, 0, none⟩) (N.length + 1) c65) vM vL (N ++ [d.need.hi]) M L ∧ W65.heap[wr.heap.size]? = some (.cells #[.int .i64 d.need.lo, .int .i64 d.need.hi, .int .i64 d.make.lo, .int .i64 d.make.hi, .int .i64 d.loss.lo, .int .i64 d.loss.hi] 151 (0, 0)) ∧ W65.heap[w.heap.size]? = some (.cells #[.int .i64 stock, .int .i64 store, .slice (some ⟨b, off, none⟩) ds.length cap] 64 (0, 0))) := ⟨(H64.out.1).push hown hgrow hat, (H64.out.1).keep (by decide) H64.out.2.1 hgrow, (H64.out.1).keep (by decide) H64.out.2.2 hgrow⟩
      have P652 := Lib.hid (PD.push (n := N.length + 1) (c := c65) (P642.out) hgrow hat)
      have P651 := Lib.hid (PD.push (n := N.length + 1) (c := c65) (P641.out) hgrow hat)
      clear hown hgrow hat
      refine hK.out _ _ H65.out.2.1 (fun _ => ?_)
      clear hK
      simp only [Act.put, List.setIfInBounds_toArray, List.set_cons_zero, List.set_cons_succ]
      refine wpAnyH_ready (rs := [11]) (by kernel_rfl) (by simp) ?_
      refine AllReadyH.cons (o := _) rfl (fun K hK => ?_) AllReadyH.nil
      refine step_append_lies _ rfl (.tmp 31) (.tmp 35) 27 rfl (w.heap.size + 1) 3 i0 (.int .i64 0) 1 8 Tryz.underlying27 hi hz0 hz1 hz2 rfl (by decide) vM M.length (M.map (Value.int .i64)) rfl H65.out.1.rot.r.n ⟨W53.heap.size, 0, none⟩ 1 1 [.int .i64 d.make.lo] rfl rfl P651.out.cells (by intro u hu; simp at hu; subst hu; rfl) (by decide) (by unfold maxLen; omega) (by omega) H65.out.1.hz _ rfl ?_
      intro g66 c66 W66 hown hgrow hat _
      have H66 : Hid (TQ w W66 (w.heap.size + 1) (.slice (some ⟨g66, 0, none⟩) (M.length + 1) c66) vL (.slice (some ⟨g65, 0, none⟩) (N.length + 1) c65) (M ++ [d.make.lo]) L (N ++ [d.need.hi]) ∧ W66.heap[wr.heap.size]? = some (.cells #[.int .i64 d.need.lo, .int .i64 d.need.hi, .int .i64 d.make.lo, .int .i64 d.make.hi, .int .i64 d.loss.lo, .int .i64 d.loss.hi] 151 (0, 0)) ∧ W66.heap[w.heap.size]? = some (.cells #[.int .i64 stock, .int .i64 store, .slice (some ⟨b, off, none⟩) ds.length cap] 64 (0, 0))) := ⟨(H65.out.1.rot).push hown hgrow hat, (H65.out.1.rot).keep (by decide) H65.out.2.1 hgrow, (H65.out.1.rot).keep (by decide) H65.out.2.2 hgrow⟩
      have P662 := Lib.hid (PD.push (n := M.length + 1) (c := c66) (P652.out.rot) hgrow hat)
      clear hown hgrow hat
      refine hK.out _ _ H66.out.2.1 (fun _ => ?_)
      clear hK
      simp only [Act.put, List.setIfInBounds_toArray, List.set_cons_zero, List.set_cons_succ]
      refine wpAnyH_ready (rs := [17]) (by kernel_rfl) (by simp) ?_
      refine AllReadyH.cons (o := _) rfl (fun K hK => ?_) AllReadyH.nil
      refine step_append_lies _ rfl (.tmp 37) (.tmp 41) 27 rfl (w.heap.size + 1) 3 i0 (.int .i64 0) 1 8 Tryz.underlying27 hi hz0 hz1 hz2 rfl (by decide) vL L.length (L.map (Value.int .i64)) rfl H66.out.1.rot.r.n ⟨W0.heap.size, 0, none⟩ 1 1 [.int .i64 d.loss.hi] rfl rfl P662.out.cells (by intro u hu; simp at hu; subst hu; rfl) (by decide) (by unfold maxLen; omega) (by omega) H66.out.1.hz _ rfl ?_
      intro g67 c67 W67 hown hgrow hat _
      have H67 : Hid (TQ w W67 (w.heap.size + 1) (.slice (some ⟨g67, 0, none⟩) (L.length + 1) c67) (.slice (some ⟨g65, 0, none⟩) (N.length + 1) c65) (.slice (some ⟨g66, 0, none⟩) (M.length + 1) c66) (L ++ [d.loss.hi]) (N ++ [d.need.hi]) (M ++ [d.make.lo]) ∧ W67.heap[wr.heap.size]? = some (.cells #[.int .i64 d.need.lo, .int .i64 d.need.hi, .int .i64 d.make.lo, .int .i64 d.make.hi, .int .i64 d.loss.lo, .int .i64 d.loss.hi] 151 (0, 0)) ∧ W67.heap[w.heap.size]? = some (.cells #[.int .i64 stock, .int .i64 store, .slice (some ⟨b, off, none⟩) ds.length cap] 64 (0, 0))) := ⟨(H66.out.1.rot).push hown hgrow hat, (H66.out.1.rot).keep (by decide) H66.out.2.1 hgrow, (H66.out.1.rot).keep (by decide) H66.out.2.2 hgrow⟩
      clear hown hgrow hat
      refine hK.out _ _ H67.out.2.1 (fun _ => ?_)
      clear hK
      simp only [Act.put, List.setIfInBounds_toArray, List.set_cons_zero, List.set_cons_succ]
      refine wpAnyH_done (by kernel_rfl) ?_ _
      show wpList _ _ _ (opsAt _ [18, 19, 20]) _ _
      simp only [opsAt, List.filterMap_cons, List.filterMap_nil, List.getElem?_toArray, List.getElem?_cons_succ, List.getElem?_cons_zero]
      have HZ := H67.out.1.rot
      go_wp2_with (fail)
      go_roundw
      case rel => exact ⟨j + 1, _, _, _, _, _, _, rfl, rfl, rfl, by go_num, by omega, ⟨HZ, H67.out.2.2⟩, HE2⟩
      case measure => simp [intOf]; omega
    · have hjl : j = ds.length := by omega
      subst hjl
      clear hlt
      obtain ⟨e1, e2, e3⟩ := hE.out
      rw [List.take_length] at e1 e2 e3
      subst e1 e2 e3
      obtain ⟨an, cn, eN, iN, fN⟩ := ints_of_owns hR.out.1.r.n
      obtain ⟨am, cm, eM, iM, fM⟩ := ints_of_owns hR.out.1.r.m
      obtain ⟨al, cl, eL, iL, fL⟩ := ints_of_owns hR.out.1.r.l
      subst eN eM eL
      have HO := Lib.hid (And.intro iN (And.intro iM iL))
      clear iN iM iL fN fM fL
      go_wp2_with (fail)
      go_ret3
      exact ⟨an, cn, am, cm, al, cl, rfl, HO.out.1, HO.out.2.1, HO.out.2.2, hR.out.1.b⟩

set_option maxRecDepth 100000 in
set_option maxHeartbeats 20000000 in
theorem ends_best (stock store : Int) (a : Option Addr) (ds : List Dy) (cap : Nat) (w : World) (hx : Sl 6 Dy.cells w a ds) (hl : ds.length ≤ 1000) :
    Calls Tryz.prog 32 #[wv stock store a ds.length cap, .bool false] w (OutEnds w (ds.map (fun d => d.need.lo)) (ds.map (fun d => d.make.hi)) (ds.map (fun d => d.loss.lo))) := by
  obtain ⟨i0, hi, hz0, hz1, hz2⟩ := info_parts Tryz.info3
  have hB0 : Below w.heap.size w (w.alloc (.cells #[.int .i64 stock, .int .i64 store, .slice a ds.length cap] 64)) := (Below.refl _ _).alloc (Nat.le_refl _) _
  have hR0 : (w.alloc (.cells #[.int .i64 stock, .int .i64 store, .slice a ds.length cap] 64)).heap[w.heap.size]? = some (.cells #[.int .i64 stock, .int .i64 store, .slice a ds.length cap] 64 (0, 0)) := heap_alloc_new _ _
  have hz : (w.alloc (.cells #[.int .i64 stock, .int .i64 store, .slice a ds.length cap] 64)).heap.size = w.heap.size + 1 := by simp
  have HX := Lib.hid hx
  clear hx
  go_enter Tryz.func32, Tryz.ntmps32
  go_wp2_with (fail)
  have HQ0 : Hid (TQ w (w.alloc (.cells #[.int .i64 stock, .int .i64 store, .slice a ds.length cap] 64)) (w.heap.size + 1) (.slice none 0 0) (.slice none 0 0) (.slice none 0 0) [] [] [] ∧ (w.alloc (.cells #[.int .i64 stock, .int .i64 store, .slice a ds.length cap] 64)).heap[w.heap.size]? = some (.cells #[.int .i64 stock, .int .i64 store, .slice a ds.length cap] 64 (0, 0))) := ⟨⟨hB0, by omega, by omega, ⟨World.ownsRow_nil _ _ _ _, World.ownsRow_nil _ _ _ _, World.ownsRow_nil _ _ _ _, (by intro i hi; cases hi), (by intro i hi; cases hi), (by intro i hi; cases hi)⟩⟩, hR0⟩
  generalize w.alloc (.cells #[.int .i64 stock, .int .i64 store, .slice a ds.length cap] 64) = Wb at HQ0 hB0 hR0 hz ⊢
  clear hB0 hR0 hz
  go_loopw [7, 8, 9, 10] (fun v7 v8 v9 i wr => ∃ (j : Nat) (vN vM vL : Value) (N M L : List Int), vN = v7 ∧ vM = v8 ∧ vL = v9 ∧ i = .int .i64 j ∧ j ≤ ds.length ∧ Hid (TQ w wr (w.heap.size + 1) vN vM vL N M L ∧ wr.heap[w.heap.size]? = some (.cells #[.int .i64 stock, .int .i64 store, .slice a ds.length cap] 64 (0, 0))) ∧ Hid (N = (ds.take j).map (fun d => d.need.lo) ∧ M = (ds.take j).map (fun d => d.make.hi) ∧ L = (ds.take j).map (fun d => d.loss.lo))) (fun _ _ _ i _ => ds.length - (intOf i).toNat)
  case atStart => exact ⟨0, _, _, _, [], [], [], rfl, rfl, rfl, rfl, Nat.zero_le _, HQ0.out, by simp, by simp, by simp⟩
  case round =>
    obtain ⟨j, vN, vM, vL, N, M, L, rfl, rfl, rfl, rfl, hj, hR, hE⟩ := hrel
    have b2 := blk_cell hR.out.2 2 rfl
    by_cases hlt : j < ds.length
    · obtain ⟨b, off, rfl, hbs, hc⟩ := HX.out (by omega)
      have HD : Hid (ds[j]? = some ds[j]) := List.getElem?_eq_getElem hlt
      have ck : ∀ (i : Nat) (u : Int), (Dy.cells ds[j])[i]? = some u → wr.cell? ⟨b, off + j * 6 + i, none⟩ = some (.int .i64 u) := fun i u hu => (hR.out.1.b.cell (p := ⟨b, off + j * 6 + i, none⟩) hbs).trans (hc j ds[j] i u (List.getElem?_eq_getElem hlt) hu)
      have d0 : wr.cell? ⟨b, off + j * 6, none⟩ = some (.int .i64 ds[j].need.lo) := ck 0 _ rfl
      have d1 := ck 1 _ rfl
      have d2 := ck 2 _ rfl
      have d3 := ck 3 _ rfl
      have d4 := ck 4 _ rfl
      have d5 := ck 5 _ rfl
      have hNb : N.length ≤ 1000 ∧ M.length ≤ 1000 ∧ L.length ≤ 1000 := by
        obtain ⟨h1, h2, h3⟩ := hE.out
        rw [h1, h2, h3, take_len hj, take_len hj, take_len hj]
        omega
      clear ck hc
      generalize ds[j] = d at *
      obtain ⟨Wx, hWx⟩ : ∃ Wx, wr.alloc (.cells #[.int .i64 d.need.lo, .int .i64 d.need.hi, .int .i64 d.make.lo, .int .i64 d.make.hi, .int .i64 d.loss.lo, .int .i64 d.loss.hi] 151) = Wx := ⟨_, rfl⟩
      have HW0 : Hid (TQ w Wx (w.heap.size + 1) vN vM vL N M L ∧ Wx.heap[wr.heap.size]? = some (.cells #[.int .i64 d.need.lo, .int .i64 d.need.hi, .int .i64 d.make.lo, .int .i64 d.make.hi, .int .i64 d.loss.lo, .int .i64 d.loss.hi] 151 (0, 0)) ∧ Wx.heap[w.heap.size]? = some (.cells #[.int .i64 stock, .int .i64 store, .slice (some ⟨b, off, none⟩) ds.length cap] 64 (0, 0))) := by
        rw [← hWx]
        exact ⟨hR.out.1.below ((Below.refl _ _).alloc (Nat.le_refl _) _), heap_alloc_new _ _, alk hR.out.2⟩
      go_upto_region 8 with (fail)
      clear hWx d0 d1 d2 d3 d4 d5 b2
      have HE2 : Hid (N ++ [d.need.lo] = (ds.take (j + 1)).map (fun d => d.need.lo) ∧ M ++ [d.make.hi] = (ds.take (j + 1)).map (fun d => d.make.hi) ∧ L ++ [d.loss.lo] = (ds.take (j + 1)).map (fun d => d.loss.lo)) := by
        obtain ⟨h1, h2, h3⟩ := hE.out
        exact ⟨by rw [h1]; exact take_more (f := fun d => d.need.lo) HD.out, by rw [h2]; exact take_more (f := fun d => d.make.hi) HD.out, by rw [h3]; exact take_more (f := fun d => d.loss.lo) HD.out⟩
      refine wp_region_split (S := fun W' => W'.heap[wr.heap.size]? = some (.cells #[.int .i64 d.need.lo, .int .i64 d.need.hi, .int .i64 d.make.lo, .int .i64 d.make.hi, .int .i64 d.loss.lo, .int .i64 d.loss.hi] 151 (0, 0))) [18, 19, 20] 18 (by kernel_rfl) (by kernel_rfl) rfl ?_
      have H0 : Hid (TQ w Wx.drew (w.heap.size + 1) vN vM vL N M L ∧ Wx.drew.heap[wr.heap.size]? = some (.cells #[.int .i64 d.need.lo, .int .i64 d.need.hi, .int .i64 d.make.lo, .int .i64 d.make.hi, .int .i64 d.loss.lo, .int .i64 d.loss.hi] 151 (0, 0)) ∧ Wx.drew.heap[w.heap.size]? = some (.cells #[.int .i64 stock, .int .i64 store, .slice (some ⟨b, off, none⟩) ds.length cap] 64 (0, 0))) := ⟨HW0.out.1.below (Below.refl _ _).drew, HW0.out.2⟩
      generalize Wx.drew = W0 at H0 ⊢
      rw [show firstL _ [18, 19, 20] = #[false, false, false, false, false, false, false, false, false, false, false, false, false, false, false, false, false, false, true, true, true] from by kernel_rfl]
      refine wpAnyH_take (i := 0) (v := vN) rfl (by kernel_rfl) (by kernel_rfl) (by kernel_rfl) (fun _ _ _ h => h) (Or.inl ⟨by rfl, by (intro W hSw; clear hSw; go_simp)⟩) H0.out.2.1 ?_
      simp only [Act.put, List.setIfInBounds_toArray, List.set_cons_zero]
      refine wpAnyH_take (i := 1) (v := .pointer (some ⟨wr.heap.size, 0, none⟩)) rfl (by kernel_rfl) (by kernel_rfl) (by kernel_rfl) (fun _ _ _ h => h) (Or.inl ⟨by rfl, by (intro W hSw; clear hSw; go_simp)⟩) H0.out.2.1 ?_
      simp only [Act.put, List.setIfInBounds_toArray, List.set_cons_zero, List.set_cons_succ]
      refine wpAnyH_take (i := 2) (v := .pointer (some ⟨wr.heap.size, 0, none⟩)) rfl (by kernel_rfl) (by kernel_rfl) (by kernel_rfl) (fun _ _ _ h => h) (Or.inl ⟨by rfl, by (intro W hSw; clear hSw; go_simp)⟩) H0.out.2.1 ?_
      simp only [Act.put, List.setIfInBounds_toArray, List.set_cons_zero, List.set_cons_succ]
      refine wpAnyH_take (i := 3) (v := .int .i64 d.need.lo) rfl (by kernel_rfl) (by kernel_rfl) (by kernel_rfl) (fun _ _ _ h => h) (Or.inl ⟨by rfl, by (intro W hSw; have c := blk_cell hSw 0 rfl; clear hSw; go_simp)⟩) H0.out.2.1 ?_
      simp only [Act.put, List.setIfInBounds_toArray, List.set_cons_zero, List.set_cons_succ]
      refine wpAnyH_take (i := 6) (v := vM) rfl (by kernel_rfl) (by kernel_rfl) (by kernel_rfl) (fun _ _ _ h => h) (Or.inl ⟨by rfl, by (intro W hSw; clear hSw; go_simp)⟩) H0.out.2.1 ?_
      simp only [Act.put, List.setIfInBounds_toArray, List.set_cons_zero, List.set_cons_succ]
      refine wpAnyH_take (i := 7) (v := .pointer (some ⟨wr.heap.size, 2, none⟩)) rfl (by kernel_rfl) (by kernel_rfl) (by kernel_rfl) (fun _ _ _ h => h) (Or.inl ⟨by rfl, by (intro W hSw; clear hSw; go_simp)⟩) H0.out.2.1 ?_
      simp only [Act.put, List.setIfInBounds_toArray, List.set_cons_zero, List.set_cons_succ]
      refine wpAnyH_take (i := 8) (v := .pointer (some ⟨wr.heap.size, 3, none⟩)) rfl (by kernel_rfl) (by kernel_rfl) (by kernel_rfl) (fun _ _ _ h => h) (Or.inl ⟨by rfl, by (intro W hSw; clear hSw; go_simp)⟩) H0.out.2.1 ?_
      simp only [Act.put, List.setIfInBounds_toArray, List.set_cons_zero, List.set_cons_succ]
      refine wpAnyH_take (i := 9) (v := .int .i64 d.make.hi) rfl (by kernel_rfl) (by kernel_rfl) (by kernel_rfl) (fun _ _ _ h => h) (Or.inl ⟨by rfl, by (intro W hSw; have c := blk_cell hSw 3 rfl; clear hSw; go_simp)⟩) H0.out.2.1 ?_
      simp only [Act.put, List.setIfInBounds_toArray, List.set_cons_zero, List.set_cons_succ]
      refine wpAnyH_take (i := 12) (v := vL) rfl (by kernel_rfl) (by kernel_rfl) (by kernel_rfl) (fun _ _ _ h => h) (Or.inl ⟨by rfl, by (intro W hSw; clear hSw; go_simp)⟩) H0.out.2.1 ?_
      simp only [Act.put, List.setIfInBounds_toArray, List.set_cons_zero, List.set_cons_succ]
      refine wpAnyH_take (i := 13) (v := .pointer (some ⟨wr.heap.size, 4, none⟩)) rfl (by kernel_rfl) (by kernel_rfl) (by kernel_rfl) (fun _ _ _ h => h) (Or.inl ⟨by rfl, by (intro W hSw; clear hSw; go_simp)⟩) H0.out.2.1 ?_
      simp only [Act.put, List.setIfInBounds_toArray, List.set_cons_zero, List.set_cons_succ]
      refine wpAnyH_take (i := 14) (v := .pointer (some ⟨wr.heap.size, 4, none⟩)) rfl (by kernel_rfl) (by kernel_rfl) (by kernel_rfl) (fun _ _ _ h => h) (Or.inl ⟨by rfl, by (intro W hSw; clear hSw; go_simp)⟩) H0.out.2.1 ?_
      simp only [Act.put, List.setIfInBounds_toArray, List.set_cons_zero, List.set_cons_succ]
      refine wpAnyH_take (i := 15) (v := .int .i64 d.loss.lo) rfl (by kernel_rfl) (by kernel_rfl) (by kernel_rfl) (fun _ _ _ h => h) (Or.inl ⟨by rfl, by (intro W hSw; have c := blk_cell hSw 4 rfl; clear hSw; go_simp)⟩) H0.out.2.1 ?_
      simp only [Act.put, List.setIfInBounds_toArray, List.set_cons_zero, List.set_cons_succ]
      refine wpAnyH_ready (rs := [4, 10, 16]) (by kernel_rfl) (by simp) ?_
      refine AllReadyH.cons (o := _) rfl (fun K hK => ?_) ?_
      · go_simp
        have H1 : Hid (TQ w (W0.alloc (.cells #[.int .i64 d.need.lo] 3)) (w.heap.size + 1) vN vM vL N M L ∧ (W0.alloc (.cells #[.int .i64 d.need.lo] 3)).heap[wr.heap.size]? = some (.cells #[.int .i64 d.need.lo, .int .i64 d.need.hi, .int .i64 d.make.lo, .int .i64 d.make.hi, .int .i64 d.loss.lo, .int .i64 d.loss.hi] 151 (0, 0)) ∧ (W0.alloc (.cells #[.int .i64 d.need.lo] 3)).heap[w.heap.size]? = some (.cells #[.int .i64 stock, .int .i64 store, .slice (some ⟨b, off, none⟩) ds.length cap] 64 (0, 0))) := ⟨H0.out.1.below ((Below.refl _ _).alloc (Nat.le_refl _) _), alk H0.out.2.1, alk H0.out.2.2⟩
        have P10 := Lib.hid (PD.make H0.out.1 d.need.lo)
        refine hK.out _ _ H1.out.2.1 (fun _ => ?_)
        clear hK
        generalize (W0.alloc (.cells #[.int .i64 d.need.lo] 3)) = W1 at H1 P10 ⊢
        simp only [List.setIfInBounds_toArray, List.set_cons_zero, List.set_cons_succ]
        refine wpAnyH_ready (rs := [5, 10, 16]) (by kernel_rfl) (by simp) ?_
        refine AllReadyH.cons (o := _) rfl (fun K hK => ?_) ?_
        · refine step_append_lies _ rfl (.tmp 43) (.tmp 47) 27 rfl (w.heap.size + 1) 3 i0 (.int .i64 0) 1 8 Tryz.underlying27 hi hz0 hz1 hz2 rfl (by decide) vN N.length (N.map (Value.int .i64)) rfl H1.out.1.r.n ⟨W0.heap.size, 0, none⟩ 1 1 [.int .i64 d.need.lo] rfl rfl P10.out.cells (by intro u hu; simp at hu; subst hu; rfl) (by decide) (by unfold maxLen; omega) (by omega) H1.out.1.hz _ rfl ?_
          intro g2 c2 W2 hown hgrow hat _
          have H2 : Hid (TQ w W2 (w.heap.size + 1) (.slice (some ⟨g2, 0, none⟩) (N.length + 1) c2) vM vL (N ++ [d.need.lo]) M L ∧ W2.heap[wr.heap.size]? = some (.cells #[.int .i64 d.need.lo, .int .i64 d.need.hi, .int .i64 d.make.lo, .int .i64 d.make.hi, .int .i64 d.loss.lo, .int .i64 d.loss.hi] 151 (0, 0)) ∧ W2.heap[w.heap.size]? = some (.cells #[.int .i64 stock, .int .i64 store, .slice (some ⟨b, off, none⟩) ds.length cap] 64 (0, 0))) := ⟨(H1.out.1).push hown hgrow hat, (H1.out.1).keep (by decide) H1.out.2.1 hgrow, (H1.out.1).keep (by decide) H1.out.2.2 hgrow⟩
          clear hown hgrow hat
          refine hK.out _ _ H2.out.2.1 (fun _ => ?_)
          clear hK
          simp only [Act.put, List.setIfInBounds_toArray, List.set_cons_zero, List.set_cons_succ]
          refine wpAnyH_ready (rs := [10, 16]) (by kernel_rfl) (by simp) ?_
          refine AllReadyH.cons (o := _) rfl (fun K hK => ?_) ?_
          · go_simp
            have H3 : Hid (TQ w (W2.alloc (.cells #[.int .i64 d.make.hi] 3)) (w.heap.size + 1) (.slice (some ⟨g2, 0, none⟩) (N.length + 1) c2) vM vL (N ++ [d.need.lo]) M L ∧ (W2.alloc (.cells #[.int .i64 d.make.hi] 3)).heap[wr.heap.size]? = some (.cells #[.int .i64 d.need.lo, .int .i64 d.need.hi, .int .i64 d.make.lo, .int .i64 d.make.hi, .int .i64 d.loss.lo, .int .i64 d.loss.hi] 151 (0, 0)) ∧ (W2.alloc (.cells #[.int .i64 d.make.hi] 3)).heap[w.heap.size]? = some (.cells #[.int .i64 stock, .int .i64 store, .slice (some ⟨b, off, none⟩) ds.length cap] 64 (0, 0))) := ⟨H2.out.1.below ((Below.refl _ _).alloc (Nat.le_refl _) _), alk H2.out.2.1, alk H2.out.2.2⟩
            have P31 := Lib.hid (PD.make H2.out.1 d.make.hi)
            refine hK.out _ _ H3.out.2.1 (fun _ => ?_)
            clear hK
            generalize (W2.alloc (.cells #[.int .i64 d.make.hi] 3)) = W3 at H3 P31 ⊢
            simp only [List.setIfInBounds_toArray, List.set_cons_zero, List.set_cons_succ]
            refine wpAnyH_ready (rs := [11, 16]) (by kernel_rfl) (by simp) ?_
            refine AllReadyH.cons (o := _) rfl (fun K hK => ?_) ?_
            · refine step_append_lies _ rfl (.tmp 49) (.tmp 53) 27 rfl (w.heap.size + 1) 3 i0 (.int .i64 0) 1 8 Tryz.underlying27 hi hz0 hz1 hz2 rfl (by decide) vM M.length (M.map (Value.int .i64)) rfl H3.out.1.rot.r.n ⟨W2.heap.size, 0, none⟩ 1 1 [.int .i64 d.make.hi] rfl rfl P31.out.cells (by intro u hu; simp at hu; subst hu; rfl) (by decide) (by unfold maxLen; omega) (by omega) H3.out.1.hz _ rfl ?_
              intro g4 c4 W4 hown hgrow hat _
              have H4 : Hid (TQ w W4 (w.heap.size + 1) (.slice (some ⟨g4, 0, none⟩) (M.length + 1) c4) vL (.slice (some ⟨g2, 0, none⟩) (N.length + 1) c2) (M ++ [d.make.hi]) L (N ++ [d.need.lo]) ∧ W4.heap[wr.heap.size]? = some (.cells #[.int .i64 d.need.lo, .int .i64 d.need.hi, .int .i64 d.make.lo, .int .i64 d.make.hi, .int .i64 d.loss.lo, .int .i64 d.loss.hi] 151 (0, 0)) ∧ W4.heap[w.heap.size]? = some (.cells #[.int .i64 stock, .int .i64 store, .slice (some ⟨b, off, none⟩) ds.length cap] 64 (0, 0))) := ⟨(H3.out.1.rot).push hown hgrow hat, (H3.out.1.rot).keep (by decide) H3.out.2.1 hgrow, (H3.out.1.rot).keep (by decide) H3.out.2.2 hgrow⟩
              clear hown hgrow hat
              refine hK.out _ _ H4.out.2.1 (fun _ => ?_)
              clear hK
              simp only [Act.put, List.setIfInBounds_toArray, List.set_cons_zero, List.set_cons_succ]
              refine wpAnyH_ready (rs := [16]) (by kernel_rfl) (by simp) ?_
              refine AllReadyH.cons (o := _) rfl (fun K hK => ?_) AllReadyH.nil
              go_simp
              have H5 : Hid (TQ w (W4.alloc (.cells #[.int .i64 d.loss.lo] 3)) (w.heap.size + 1) (.slice (some ⟨g4, 0, none⟩) (M.length + 1) c4) vL (.slice (some ⟨g2, 0, none⟩) (N.length + 1) c2) (M ++ [d.make.hi]) L (N ++ [d.need.lo]) ∧ (W4.alloc (.cells #[.int .i64 d.loss.lo] 3)).heap[wr.heap.size]? = some (.cells #[.int .i64 d.need.lo, .int .i64 d.need.hi, .int .i64 d.make.lo, .int .i64 d.make.hi, .int .i64 d.loss.lo, .int .i64 d.loss.hi] 151 (0, 0)) ∧ (W4.alloc (.cells #[.int .i64 d.loss.lo] 3)).heap[w.heap.size]? = some (.cells #[.int .i64 stock, .int .i64 store, .slice (some ⟨b, off, none⟩) ds.length cap] 64 (0, 0))) := ⟨H4.out.1.below ((Below.refl _ _).alloc (Nat.le_refl _) _), alk H4.out.2.1, alk H4.out.2.2⟩
              have P52 := Lib.hid (PD.make H4.out.1 d.loss.lo)
              refine hK.out _ _ H5.out.2.1 (fun _ => ?_)
              clear hK
              generalize (W4.alloc (.cells #[.int .i64 d.loss.lo] 3)) = W5 at H5 P52 ⊢
              simp only [List.setIfInBounds_toArray, List.set_cons_zero, List.set_cons_succ]
              refine wpAnyH_ready (rs := [17]) (by kernel_rfl) (by simp) ?_
              refine AllReadyH.cons (o := _) rfl (fun K hK => ?_) AllReadyH.nil
              refine step_append_lies _ rfl (.tmp 55) (.tmp 59) 27 rfl (w.heap.size + 1) 3 i0 (.int .i64 0) 1 8 Tryz.underlying27 hi hz0 hz1 hz2 rfl (by decide) vL L.length (L.map (Value.int .i64)) rfl H5.out.1.rot.r.n ⟨W4.heap.size, 0, none⟩ 1 1 [.int .i64 d.loss.lo] rfl rfl P52.out.cells (by intro u hu; simp at hu; subst hu; rfl) (by decide) (by unfold maxLen; omega) (by omega) H5.out.1.hz _ rfl ?_
              intro g6 c6 W6 hown hgrow hat _
              have H6 : Hid (TQ w W6 (w.heap.size + 1) (.slice (some ⟨g6, 0, none⟩) (L.length + 1) c6) (.slice (some ⟨g2, 0, none⟩) (N.length + 1) c2) (.slice (some ⟨g4, 0, none⟩) (M.length + 1) c4) (L ++ [d.loss.lo]) (N ++ [d.need.lo]) (M ++ [d.make.hi]) ∧ W6.heap[wr.heap.size]? = some (.cells #[.int .i64 d.need.lo, .int .i64 d.need.hi, .int .i64 d.make.lo, .int .i64 d.make.hi, .int .i64 d.loss.lo, .int .i64 d.loss.hi] 151 (0, 0)) ∧ W6.heap[w.heap.size]? = some (.cells #[.int .i64 stock, .int .i64 store, .slice (some ⟨b, off, none⟩) ds.length cap] 64 (0, 0))) := ⟨(H5.out.1.rot).push hown hgrow hat, (H5.out.1.rot).keep (by decide) H5.out.2.1 hgrow, (H5.out.1.rot).keep (by decide) H5.out.2.2 hgrow⟩
              clear hown hgrow hat
              refine hK.out _ _ H6.out.2.1 (fun _ => ?_)
              clear hK
              simp only [Act.put, List.setIfInBounds_toArray, List.set_cons_zero, List.set_cons_succ]
              refine wpAnyH_done (by kernel_rfl) ?_ _
              show wpList _ _ _ (opsAt _ [18, 19, 20]) _ _
              simp only [opsAt, List.filterMap_cons, List.filterMap_nil, List.getElem?_toArray, List.getElem?_cons_succ, List.getElem?_cons_zero]
              have HZ := H6.out.1.rot
              go_wp2_with (fail)
              go_roundw
              case rel => exact ⟨j + 1, _, _, _, _, _, _, rfl, rfl, rfl, by go_num, by omega, ⟨HZ, H6.out.2.2⟩, HE2⟩
              case measure => simp [intOf]; omega
            refine AllReadyH.cons (o := _) rfl (fun K hK => ?_) AllReadyH.nil
            go_simp
            have H7 : Hid (TQ w (W3.alloc (.cells #[.int .i64 d.loss.lo] 3)) (w.heap.size + 1) (.slice (some ⟨g2, 0, none⟩) (N.length + 1) c2) vM vL (N ++ [d.need.lo]) M L ∧ (W3.alloc (.cells #[.int .i64 d.loss.lo] 3)).heap[wr.heap.size]? = some (.cells #[.int .i64 d.need.lo, .int .i64 d.need.hi, .int .i64 d.make.lo, .int .i64 d.make.hi, .int .i64 d.loss.lo, .int .i64 d.loss.hi] 151 (0, 0)) ∧ (W3.alloc (.cells #[.int .i64 d.loss.lo] 3)).heap[w.heap.size]? = some (.cells #[.int .i64 stock, .int .i64 store, .slice (some ⟨b, off, none⟩) ds.length cap] 64 (0, 0))) := ⟨H3.out.1.below ((Below.refl _ _).alloc (Nat.le_refl _) _), alk H3.out.2.1, alk H3.out.2.2⟩
            have P71 := Lib.hid (P31.out.below ((Below.refl W3.heap.size W3).alloc (Nat.le_refl _) (.cells #[.int .i64 d.loss.lo] 3)))
            have P72 := Lib.hid (PD.make H3.out.1 d.loss.lo)
            refine hK.out _ _ H7.out.2.1 (fun _ => ?_)
            clear hK
            generalize (W3.alloc (.cells #[.int .i64 d.loss.lo] 3)) = W7 at H7 P71 P72 ⊢
            simp only [List.setIfInBounds_toArray, List.set_cons_zero, List.set_cons_succ]
            refine wpAnyH_ready (rs := [11]) (by kernel_rfl) (by simp) ?_
            refine AllReadyH.cons (o := _) rfl (fun K hK => ?_) AllReadyH.nil
            refine step_append_lies _ rfl (.tmp 49) (.tmp 53) 27 rfl (w.heap.size + 1) 3 i0 (.int .i64 0) 1 8 Tryz.underlying27 hi hz0 hz1 hz2 rfl (by decide) vM M.length (M.map (Value.int .i64)) rfl H7.out.1.rot.r.n ⟨W2.heap.size, 0, none⟩ 1 1 [.int .i64 d.make.hi] rfl rfl P71.out.cells (by intro u hu; simp at hu; subst hu; rfl) (by decide) (by unfold maxLen; omega) (by omega) H7.out.1.hz _ rfl ?_
            intro g8 c8 W8 hown hgrow hat _
            have H8 : Hid (TQ w W8 (w.heap.size + 1) (.slice (some ⟨g8, 0, none⟩) (M.length + 1) c8) vL (.slice (some ⟨g2, 0, none⟩) (N.length + 1) c2) (M ++ [d.make.hi]) L (N ++ [d.need.lo]) ∧ W8.heap[wr.heap.size]? = some (.cells #[.int .i64 d.need.lo, .int .i64 d.need.hi, .int .i64 d.make.lo, .int .i64 d.make.hi, .int .i64 d.loss.lo, .int .i64 d.loss.hi] 151 (0, 0)) ∧ W8.heap[w.heap.size]? = some (.cells #[.int .i64 stock, .int .i64 store, .slice (some ⟨b, off, none⟩) ds.length cap] 64 (0, 0))) := ⟨(H7.out.1.rot).push hown hgrow hat, (H7.out.1.rot).keep (by decide) H7.out.2.1 hgrow, (H7.out.1.rot).keep (by decide) H7.out.2.2 hgrow⟩
            have P82 := Lib.hid (PD.push (n := M.length + 1) (c := c8) (P72.out.rot) hgrow hat)
            clear hown hgrow hat
            refine hK.out _ _ H8.out.2.1 (fun _ => ?_)
            clear hK
            simp only [Act.put, List.setIfInBounds_toArray, List.set_cons_zero, List.set_cons_succ]
            refine wpAnyH_ready (rs := [17]) (by kernel_rfl) (by simp) ?_
            refine AllReadyH.cons (o := _) rfl (fun K hK => ?_) AllReadyH.nil
            refine step_append_lies _ rfl (.tmp 55) (.tmp 59) 27 rfl (w.heap.size + 1) 3 i0 (.int .i64 0) 1 8 Tryz.underlying27 hi hz0 hz1 hz2 rfl (by decide) vL L.length (L.map (Value.int .i64)) rfl H8.out.1.rot.r.n ⟨W3.heap.size, 0, none⟩ 1 1 [.int .i64 d.loss.lo] rfl rfl P82.out.cells (by intro u hu; simp at hu; subst hu; rfl) (by decide) (by unfold maxLen; omega) (by omega) H8.out.1.hz _ rfl ?_
            intro g9 c9 W9 hown hgrow hat _
            have H9 : Hid (TQ w W9 (w.heap.size + 1) (.slice (some ⟨g9, 0, none⟩) (L.length + 1) c9) (.slice (some ⟨g2, 0, none⟩) (N.length + 1) c2) (.slice (some ⟨g8, 0, none⟩) (M.length + 1) c8) (L ++ [d.loss.lo]) (N ++ [d.need.lo]) (M ++ [d.make.hi]) ∧ W9.heap[wr.heap.size]? = some (.cells #[.int .i64 d.need.lo, .int .i64 d.need.hi, .int .i64 d.make.lo, .int .i64 d.make.hi, .int .i64 d.loss.lo, .int .i64 d.loss.hi] 151 (0, 0)) ∧ W9.heap[w.heap.size]? = some (.cells #[.int .i64 stock, .int .i64 store, .slice (some ⟨b, off, none⟩) ds.length cap] 64 (0, 0))) := ⟨(H8.out.1.rot).push hown hgrow hat, (H8.out.1.rot).keep (by decide) H8.out.2.1 hgrow, (H8.out.1.rot).keep (by decide) H8.out.2.2 hgrow⟩
            clear hown hgrow hat
            refine hK.out _ _ H9.out.2.1 (fun _ => ?_)
            clear hK
            simp only [Act.put, List.setIfInBounds_toArray, List.set_cons_zero, List.set_cons_succ]
            refine wpAnyH_done (by kernel_rfl) ?_ _
            show wpList _ _ _ (opsAt _ [18, 19, 20]) _ _
            simp only [opsAt, List.filterMap_cons, List.filterMap_nil, List.getElem?_toArray, List.getElem?_cons_succ, List.getElem?_cons_zero]
            have HZ := H9.out.1.rot
            go_wp2_with (fail)
            go_roundw
            case rel => exact ⟨j + 1, _, _, _, _, _, _, rfl, rfl, rfl, by go_num, by omega, ⟨HZ, H9.out.2.2⟩, HE2⟩
            case measure => simp [intOf]; omega
          refine AllReadyH.cons (o := _) rfl (fun K hK => ?_) AllReadyH.nil
          go_simp
          have H10 : Hid (TQ w (W2.alloc (.cells #[.int .i64 d.loss.lo] 3)) (w.heap.size + 1) (.slice (some ⟨g2, 0, none⟩) (N.length + 1) c2) vM vL (N ++ [d.need.lo]) M L ∧ (W2.alloc (.cells #[.int .i64 d.loss.lo] 3)).heap[wr.heap.size]? = some (.cells #[.int .i64 d.need.lo, .int .i64 d.need.hi, .int .i64 d.make.lo, .int .i64 d.make.hi, .int .i64 d.loss.lo, .int .i64 d.loss.hi] 151 (0, 0)) ∧ (W2.alloc (.cells #[.int .i64 d.loss.lo] 3)).heap[w.heap.size]? = some (.cells #[.int .i64 stock, .int .i64 store, .slice (some ⟨b, off, none⟩) ds.length cap] 64 (0, 0))) := ⟨H2.out.1.below ((Below.refl _ _).alloc (Nat.le_refl _) _), alk H2.out.2.1, alk H2.out.2.2⟩
          have P102 := Lib.hid (PD.make H2.out.1 d.loss.lo)
          refine hK.out _ _ H10.out.2.1 (fun _ => ?_)
          clear hK
          generalize (W2.alloc (.cells #[.int .i64 d.loss.lo] 3)) = W10 at H10 P102 ⊢
          simp only [List.setIfInBounds_toArray, List.set_cons_zero, List.set_cons_succ]
          refine wpAnyH_ready (rs := [10]) (by kernel_rfl) (by simp) ?_
          refine AllReadyH.cons (o := _) rfl (fun K hK => ?_) AllReadyH.nil
          go_simp
          have H11 : Hid (TQ w (W10.alloc (.cells #[.int .i64 d.make.hi] 3)) (w.heap.size + 1) (.slice (some ⟨g2, 0, none⟩) (N.length + 1) c2) vM vL (N ++ [d.need.lo]) M L ∧ (W10.alloc (.cells #[.int .i64 d.make.hi] 3)).heap[wr.heap.size]? = some (.cells #[.int .i64 d.need.lo, .int .i64 d.need.hi, .int .i64 d.make.lo, .int .i64 d.make.hi, .int .i64 d.loss.lo, .int .i64 d.loss.hi] 151 (0, 0)) ∧ (W10.alloc (.cells #[.int .i64 d.make.hi] 3)).heap[w.heap.size]? = some (.cells #[.int .i64 stock, .int .i64 store, .slice (some ⟨b, off, none⟩) ds.length cap] 64 (0, 0))) := ⟨H10.out.1.below ((Below.refl _ _).alloc (Nat.le_refl _) _), alk H10.out.2.1, alk H10.out.2.2⟩
          have P112 := Lib.hid (P102.out.below ((Below.refl W10.heap.size W10).alloc (Nat.le_refl _) (.cells #[.int .i64 d.make.hi] 3)))
          have P111 := Lib.hid (PD.make H10.out.1 d.make.hi)
          refine hK.out _ _ H11.out.2.1 (fun _ => ?_)
          clear hK
          generalize (W10.alloc (.cells #[.int .i64 d.make.hi] 3)) = W11 at H11 P112 P111 ⊢
          simp only [List.setIfInBounds_toArray, List.set_cons_zero, List.set_cons_succ]
          refine wpAnyH_ready (rs := [11]) (by kernel_rfl) (by simp) ?_
          refine AllReadyH.cons (o := _) rfl (fun K hK => ?_) AllReadyH.nil
          refine step_append_lies _ rfl (.tmp 49) (.tmp 53) 27 rfl (w.heap.size + 1) 3 i0 (.int .i64 0) 1 8 Tryz.underlying27 hi hz0 hz1 hz2 rfl (by decide) vM M.length (M.map (Value.int .i64)) rfl H11.out.1.rot.r.n ⟨W10.heap.size, 0, none⟩ 1 1 [.int .i64 d.make.hi] rfl rfl P111.out.cells (by intro u hu; simp at hu; subst hu; rfl) (by decide) (by unfold maxLen; omega) (by omega) H11.out.1.hz _ rfl ?_
          intro g12 c12 W12 hown hgrow hat _
          have H12 : Hid (TQ w W12 (w.heap.size + 1) (.slice (some ⟨g12, 0, none⟩) (M.length + 1) c12) vL (.slice (some ⟨g2, 0, none⟩) (N.length + 1) c2) (M ++ [d.make.hi]) L (N ++ [d.need.lo]) ∧ W12.heap[wr.heap.size]? = some (.cells #[.int .i64 d.need.lo, .int .i64 d.need.hi, .int .i64 d.make.lo, .int .i64 d.make.hi, .int .i64 d.loss.lo, .int .i64 d.loss.hi] 151 (0, 0)) ∧ W12.heap[w.heap.size]? = some (.cells #[.int .i64 stock, .int .i64 store, .slice (some ⟨b, off, none⟩) ds.length cap] 64 (0, 0))) := ⟨(H11.out.1.rot).push hown hgrow hat, (H11.out.1.rot).keep (by decide) H11.out.2.1 hgrow, (H11.out.1.rot).keep (by decide) H11.out.2.2 hgrow⟩
          have P122 := Lib.hid (PD.push (n := M.length + 1) (c := c12) (P112.out.rot) hgrow hat)
          clear hown hgrow hat
          refine hK.out _ _ H12.out.2.1 (fun _ => ?_)
          clear hK
          simp only [Act.put, List.setIfInBounds_toArray, List.set_cons_zero, List.set_cons_succ]
          refine wpAnyH_ready (rs := [17]) (by kernel_rfl) (by simp) ?_
          refine AllReadyH.cons (o := _) rfl (fun K hK => ?_) AllReadyH.nil
          refine step_append_lies _ rfl (.tmp 55) (.tmp 59) 27 rfl (w.heap.size + 1) 3 i0 (.int .i64 0) 1 8 Tryz.underlying27 hi hz0 hz1 hz2 rfl (by decide) vL L.length (L.map (Value.int .i64)) rfl H12.out.1.rot.r.n ⟨W2.heap.size, 0, none⟩ 1 1 [.int .i64 d.loss.lo] rfl rfl P122.out.cells (by intro u hu; simp at hu; subst hu; rfl) (by decide) (by unfold maxLen; omega) (by omega) H12.out.1.hz _ rfl ?_
          intro g13 c13 W13 hown hgrow hat _
          have H13 : Hid (TQ w W13 (w.heap.size + 1) (.slice (some ⟨g13, 0, none⟩) (L.length + 1) c13) (.slice (some ⟨g2, 0, none⟩) (N.length + 1) c2) (.slice (some ⟨g12, 0, none⟩) (M.length + 1) c12) (L ++ [d.loss.lo]) (N ++ [d.need.lo]) (M ++ [d.make.hi]) ∧ W13.heap[wr.heap.size]? = some (.cells #[.int .i64 d.need.lo, .int .i64 d.need.hi, .int .i64 d.make.lo, .int .i64 d.make.hi, .int .i64 d.loss.lo, .int .i64 d.loss.hi] 151 (0, 0)) ∧ W13.heap[w.heap.size]? = some (.cells #[.int .i64 stock, .int .i64 store, .slice (some ⟨b, off, none⟩) ds.length cap] 64 (0, 0))) := ⟨(H12.out.1.rot).push hown hgrow hat, (H12.out.1.rot).keep (by decide) H12.out.2.1 hgrow, (H12.out.1.rot).keep (by decide) H12.out.2.2 hgrow⟩
          clear hown hgrow hat
          refine hK.out _ _ H13.out.2.1 (fun _ => ?_)
          clear hK
          simp only [Act.put, List.setIfInBounds_toArray, List.set_cons_zero, List.set_cons_succ]
          refine wpAnyH_done (by kernel_rfl) ?_ _
          show wpList _ _ _ (opsAt _ [18, 19, 20]) _ _
          simp only [opsAt, List.filterMap_cons, List.filterMap_nil, List.getElem?_toArray, List.getElem?_cons_succ, List.getElem?_cons_zero]
          have HZ := H13.out.1.rot
          go_wp2_with (fail)
          go_roundw
          case rel => exact ⟨j + 1, _, _, _, _, _, _, rfl, rfl, rfl, by go_num, by omega, ⟨HZ, H13.out.2.2⟩, HE2⟩
          case measure => simp [intOf]; omega
        refine AllReadyH.cons (o := _) rfl (fun K hK => ?_) ?_
        · go_simp
          have H14 : Hid (TQ w (W1.alloc (.cells #[.int .i64 d.make.hi] 3)) (w.heap.size + 1) vN vM vL N M L ∧ (W1.alloc (.cells #[.int .i64 d.make.hi] 3)).heap[wr.heap.size]? = some (.cells #[.int .i64 d.need.lo, .int .i64 d.need.hi, .int .i64 d.make.lo, .int .i64 d.make.hi, .int .i64 d.loss.lo, .int .i64 d.loss.hi] 151 (0, 0)) ∧ (W1.alloc (.cells #[.int .i64 d.make.hi] 3)).heap[w.heap.size]? = some (.cells #[.int .i64 stock, .int .i64 store, .slice (some ⟨b, off, none⟩) ds.length cap] 64 (0, 0))) := ⟨H1.out.1.below ((Below.refl _ _).alloc (Nat.le_refl _) _), alk H1.out.2.1, alk H1.out.2.2⟩
          have P140 := Lib.hid (P10.out.below ((Below.refl W1.heap.size W1).alloc (Nat.le_refl _) (.cells #[.int .i64 d.make.hi] 3)))
          have P141 := Lib.hid (PD.make H1.out.1 d.make.hi)
          refine hK.out _ _ H14.out.2.1 (fun _ => ?_)
          clear hK
          generalize (W1.alloc (.cells #[.int .i64 d.make.hi] 3)) = W14 at H14 P140 P141 ⊢
          simp only [List.setIfInBounds_toArray, List.set_cons_zero, List.set_cons_succ]
          refine wpAnyH_ready (rs := [5, 16]) (by kernel_rfl) (by simp) ?_
          refine AllReadyH.cons (o := _) rfl (fun K hK => ?_) ?_
          · refine step_append_lies _ rfl (.tmp 43) (.tmp 47) 27 rfl (w.heap.size + 1) 3 i0 (.int .i64 0) 1 8 Tryz.underlying27 hi hz0 hz1 hz2 rfl (by decide) vN N.length (N.map (Value.int .i64)) rfl H14.out.1.r.n ⟨W0.heap.size, 0, none⟩ 1 1 [.int .i64 d.need.lo] rfl rfl P140.out.cells (by intro u hu; simp at hu; subst hu; rfl) (by decide) (by unfold maxLen; omega) (by omega) H14.out.1.hz _ rfl ?_
            intro g15 c15 W15 hown hgrow hat _
            have H15 : Hid (TQ w W15 (w.heap.size + 1) (.slice (some ⟨g15, 0, none⟩) (N.length + 1) c15) vM vL (N ++ [d.need.lo]) M L ∧ W15.heap[wr.heap.size]? = some (.cells #[.int .i64 d.need.lo, .int .i64 d.need.hi, .int .i64 d.make.lo, .int .i64 d.make.hi, .int .i64 d.loss.lo, .int .i64 d.loss.hi] 151 (0, 0)) ∧ W15.heap[w.heap.size]? = some (.cells #[.int .i64 stock, .int .i64 store, .slice (some ⟨b, off, none⟩) ds.length cap] 64 (0, 0))) := ⟨(H14.out.1).push hown hgrow hat, (H14.out.1).keep (by decide) H14.out.2.1 hgrow, (H14.out.1).keep (by decide) H14.out.2.2 hgrow⟩
            have P151 := Lib.hid (PD.push (n := N.length + 1) (c := c15) (P141.out) hgrow hat)
            clear hown hgrow hat
            refine hK.out _ _ H15.out.2.1 (fun _ => ?_)
            clear hK
            simp only [Act.put, List.setIfInBounds_toArray, List.set_cons_zero, List.set_cons_succ]
            refine wpAnyH_ready (rs := [11, 16]) (by kernel_rfl) (by simp) ?_
            refine AllReadyH.cons (o := _) rfl (fun K hK => ?_) ?_
            · refine step_append_lies _ rfl (.tmp 49) (.tmp 53) 27 rfl (w.heap.size + 1) 3 i0 (.int .i64 0) 1 8 Tryz.underlying27 hi hz0 hz1 hz2 rfl (by decide) vM M.length (M.map (Value.int .i64)) rfl H15.out.1.rot.r.n ⟨W1.heap.size, 0, none⟩ 1 1 [.int .i64 d.make.hi] rfl rfl P151.out.cells (by intro u hu; simp at hu; subst hu; rfl) (by decide) (by unfold maxLen; omega) (by omega) H15.out.1.hz _ rfl ?_
              intro g16 c16 W16 hown hgrow hat _
              have H16 : Hid (TQ w W16 (w.heap.size + 1) (.slice (some ⟨g16, 0, none⟩) (M.length + 1) c16) vL (.slice (some ⟨g15, 0, none⟩) (N.length + 1) c15) (M ++ [d.make.hi]) L (N ++ [d.need.lo]) ∧ W16.heap[wr.heap.size]? = some (.cells #[.int .i64 d.need.lo, .int .i64 d.need.hi, .int .i64 d.make.lo, .int .i64 d.make.hi, .int .i64 d.loss.lo, .int .i64 d.loss.hi] 151 (0, 0)) ∧ W16.heap[w.heap.size]? = some (.cells #[.int .i64 stock, .int .i64 store, .slice (some ⟨b, off, none⟩) ds.length cap] 64 (0, 0))) := ⟨(H15.out.1.rot).push hown hgrow hat, (H15.out.1.rot).keep (by decide) H15.out.2.1 hgrow, (H15.out.1.rot).keep (by decide) H15.out.2.2 hgrow⟩
              clear hown hgrow hat
              refine hK.out _ _ H16.out.2.1 (fun _ => ?_)
              clear hK
              simp only [Act.put, List.setIfInBounds_toArray, List.set_cons_zero, List.set_cons_succ]
              refine wpAnyH_ready (rs := [16]) (by kernel_rfl) (by simp) ?_
              refine AllReadyH.cons (o := _) rfl (fun K hK => ?_) AllReadyH.nil
              go_simp
              have H17 : Hid (TQ w (W16.alloc (.cells #[.int .i64 d.loss.lo] 3)) (w.heap.size + 1) (.slice (some ⟨g16, 0, none⟩) (M.length + 1) c16) vL (.slice (some ⟨g15, 0, none⟩) (N.length + 1) c15) (M ++ [d.make.hi]) L (N ++ [d.need.lo]) ∧ (W16.alloc (.cells #[.int .i64 d.loss.lo] 3)).heap[wr.heap.size]? = some (.cells #[.int .i64 d.need.lo, .int .i64 d.need.hi, .int .i64 d.make.lo, .int .i64 d.make.hi, .int .i64 d.loss.lo, .int .i64 d.loss.hi] 151 (0, 0)) ∧ (W16.alloc (.cells #[.int .i64 d.loss.lo] 3)).heap[w.heap.size]? = some (.cells #[.int .i64 stock, .int .i64 store, .slice (some ⟨b, off, none⟩) ds.length cap] 64 (0, 0))) := ⟨H16.out.1.below ((Below.refl _ _).alloc (Nat.le_refl _) _), alk H16.out.2.1, alk H16.out.2.2⟩
              have P172 := Lib.hid (PD.make H16.out.1 d.loss.lo)
              refine hK.out _ _ H17.out.2.1 (fun _ => ?_)
              clear hK
              generalize (W16.alloc (.cells #[.int .i64 d.loss.lo] 3)) = W17 at H17 P172 ⊢
              simp only [List.setIfInBounds_toArray, List.set_cons_zero, List.set_cons_succ]
              refine wpAnyH_ready (rs := [17]) (by kernel_rfl) (by simp) ?_
              refine AllReadyH.cons (o := _) rfl (fun K hK => ?_) AllReadyH.nil
              refine step_append_lies _ rfl (.tmp 55) (.tmp 59) 27 rfl (w.heap.size + 1) 3 i0 (.int .i64 0) 1 8 Tryz.underlying27 hi hz0 hz1 hz2 rfl (by decide) vL L.length (L.map (Value.int .i64)) rfl H17.out.1.rot.r.n ⟨W16.heap.size, 0, none⟩ 1 1 [.int .i64 d.loss.lo] rfl rfl P172.out.cells (by intro u hu; simp at hu; subst hu; rfl) (by decide) (by unfold maxLen; omega) (by omega) H17.out.1.hz _ rfl ?_
              intro g18 c18 W18 hown hgrow hat _
              have H18 : Hid (TQ w W18 (w.heap.size + 1) (.slice (some ⟨g18, 0, none⟩) (L.length + 1) c18) (.slice (some ⟨g15, 0, none⟩) (N.length + 1) c15) (.slice (some ⟨g16, 0, none⟩) (M.length + 1) c16) (L ++ [d.loss.lo]) (N ++ [d.need.lo]) (M ++ [d.make.hi]) ∧ W18.heap[wr.heap.size]? = some (.cells #[.int .i64 d.need.lo, .int .i64 d.need.hi, .int .i64 d.make.lo, .int .i64 d.make.hi, .int .i64 d.loss.lo, .int .i64 d.loss.hi] 151 (0, 0)) ∧ W18.heap[w.heap.size]? = some (.cells #[.int .i64 stock, .int .i64 store, .slice (some ⟨b, off, none⟩) ds.length cap] 64 (0, 0))) := ⟨(H17.out.1.rot).push hown hgrow hat, (H17.out.1.rot).keep (by decide) H17.out.2.1 hgrow, (H17.out.1.rot).keep (by decide) H17.out.2.2 hgrow⟩
              clear hown hgrow hat
              refine hK.out _ _ H18.out.2.1 (fun _ => ?_)
              clear hK
              simp only [Act.put, List.setIfInBounds_toArray, List.set_cons_zero, List.set_cons_succ]
              refine wpAnyH_done (by kernel_rfl) ?_ _
              show wpList _ _ _ (opsAt _ [18, 19, 20]) _ _
              simp only [opsAt, List.filterMap_cons, List.filterMap_nil, List.getElem?_toArray, List.getElem?_cons_succ, List.getElem?_cons_zero]
              have HZ := H18.out.1.rot
              go_wp2_with (fail)
              go_roundw
              case rel => exact ⟨j + 1, _, _, _, _, _, _, rfl, rfl, rfl, by go_num, by omega, ⟨HZ, H18.out.2.2⟩, HE2⟩
              case measure => simp [intOf]; omega
            refine AllReadyH.cons (o := _) rfl (fun K hK => ?_) AllReadyH.nil
            go_simp
            have H19 : Hid (TQ w (W15.alloc (.cells #[.int .i64 d.loss.lo] 3)) (w.heap.size + 1) (.slice (some ⟨g15, 0, none⟩) (N.length + 1) c15) vM vL (N ++ [d.need.lo]) M L ∧ (W15.alloc (.cells #[.int .i64 d.loss.lo] 3)).heap[wr.heap.size]? = some (.cells #[.int .i64 d.need.lo, .int .i64 d.need.hi, .int .i64 d.make.lo, .int .i64 d.make.hi, .int .i64 d.loss.lo, .int .i64 d.loss.hi] 151 (0, 0)) ∧ (W15.alloc (.cells #[.int .i64 d.loss.lo] 3)).heap[w.heap.size]? = some (.cells #[.int .i64 stock, .int .i64 store, .slice (some ⟨b, off, none⟩) ds.length cap] 64 (0, 0))) := ⟨H15.out.1.below ((Below.refl _ _).alloc (Nat.le_refl _) _), alk H15.out.2.1, alk H15.out.2.2⟩
            have P191 := Lib.hid (P151.out.below ((Below.refl W15.heap.size W15).alloc (Nat.le_refl _) (.cells #[.int .i64 d.loss.lo] 3)))
            have P192 := Lib.hid (PD.make H15.out.1 d.loss.lo)
            refine hK.out _ _ H19.out.2.1 (fun _ => ?_)
            clear hK
            generalize (W15.alloc (.cells #[.int .i64 d.loss.lo] 3)) = W19 at H19 P191 P192 ⊢
            simp only [List.setIfInBounds_toArray, List.set_cons_zero, List.set_cons_succ]
            refine wpAnyH_ready (rs := [11]) (by kernel_rfl) (by simp) ?_
            refine AllReadyH.cons (o := _) rfl (fun K hK => ?_) AllReadyH.nil
            refine step_append_lies _ rfl (.tmp 49) (.tmp 53) 27 rfl (w.heap.size + 1) 3 i0 (.int .i64 0) 1 8 Tryz.underlying27 hi hz0 hz1 hz2 rfl (by decide) vM M.length (M.map (Value.int .i64)) rfl H19.out.1.rot.r.n ⟨W1.heap.size, 0, none⟩ 1 1 [.int .i64 d.make.hi] rfl rfl P191.out.cells (by intro u hu; simp at hu; subst hu; rfl) (by decide) (by unfold maxLen; omega) (by omega) H19.out.1.hz _ rfl ?_
            intro g20 c20 W20 hown hgrow hat _
            have H20 : Hid (TQ w W20 (w.heap.size + 1) (.slice (some ⟨g20, 0, none⟩) (M.length + 1) c20) vL (.slice (some ⟨g15, 0, none⟩) (N.length + 1) c15) (M ++ [d.make.hi]) L (N ++ [d.need.lo]) ∧ W20.heap[wr.heap.size]? = some (.cells #[.int .i64 d.need.lo, .int .i64 d.need.hi, .int .i64 d.make.lo, .int .i64 d.make.hi, .int .i64 d.loss.lo, .int .i64 d.loss.hi] 151 (0, 0)) ∧ W20.heap[w.heap.size]? = some (.cells #[.int .i64 stock, .int .i64 store, .slice (some ⟨b, off, none⟩) ds.length cap] 64 (0, 0))) := ⟨(H19.out.1.rot).push hown hgrow hat, (H19.out.1.rot).keep (by decide) H19.out.2.1 hgrow, (H19.out.1.rot).keep (by decide) H19.out.2.2 hgrow⟩
            have P202 := Lib.hid (PD.push (n := M.length + 1) (c := c20) (P192.out.rot) hgrow hat)
            clear hown hgrow hat
            refine hK.out _ _ H20.out.2.1 (fun _ => ?_)
            clear hK
            simp only [Act.put, List.setIfInBounds_toArray, List.set_cons_zero, List.set_cons_succ]
            refine wpAnyH_ready (rs := [17]) (by kernel_rfl) (by simp) ?_
            refine AllReadyH.cons (o := _) rfl (fun K hK => ?_) AllReadyH.nil
            refine step_append_lies _ rfl (.tmp 55) (.tmp 59) 27 rfl (w.heap.size + 1) 3 i0 (.int .i64 0) 1 8 Tryz.underlying27 hi hz0 hz1 hz2 rfl (by decide) vL L.length (L.map (Value.int .i64)) rfl H20.out.1.rot.r.n ⟨W15.heap.size, 0, none⟩ 1 1 [.int .i64 d.loss.lo] rfl rfl P202.out.cells (by intro u hu; simp at hu; subst hu; rfl) (by decide) (by unfold maxLen; omega) (by omega) H20.out.1.hz _ rfl ?_
            intro g21 c21 W21 hown hgrow hat _
            have H21 : Hid (TQ w W21 (w.heap.size + 1) (.slice (some ⟨g21, 0, none⟩) (L.length + 1) c21) (.slice (some ⟨g15, 0, none⟩) (N.length + 1) c15) (.slice (some ⟨g20, 0, none⟩) (M.length + 1) c20) (L ++ [d.loss.lo]) (N ++ [d.need.lo]) (M ++ [d.make.hi]) ∧ W21.heap[wr.heap.size]? = some (.cells #[.int .i64 d.need.lo, .int .i64 d.need.hi, .int .i64 d.make.lo, .int .i64 d.make.hi, .int .i64 d.loss.lo, .int .i64 d.loss.hi] 151 (0, 0)) ∧ W21.heap[w.heap.size]? = some (.cells #[.int .i64 stock, .int .i64 store, .slice (some ⟨b, off, none⟩) ds.length cap] 64 (0, 0))) := ⟨(H20.out.1.rot).push hown hgrow hat, (H20.out.1.rot).keep (by decide) H20.out.2.1 hgrow, (H20.out.1.rot).keep (by decide) H20.out.2.2 hgrow⟩
            clear hown hgrow hat
            refine hK.out _ _ H21.out.2.1 (fun _ => ?_)
            clear hK
            simp only [Act.put, List.setIfInBounds_toArray, List.set_cons_zero, List.set_cons_succ]
            refine wpAnyH_done (by kernel_rfl) ?_ _
            show wpList _ _ _ (opsAt _ [18, 19, 20]) _ _
            simp only [opsAt, List.filterMap_cons, List.filterMap_nil, List.getElem?_toArray, List.getElem?_cons_succ, List.getElem?_cons_zero]
            have HZ := H21.out.1.rot
            go_wp2_with (fail)
            go_roundw
            case rel => exact ⟨j + 1, _, _, _, _, _, _, rfl, rfl, rfl, by go_num, by omega, ⟨HZ, H21.out.2.2⟩, HE2⟩
            case measure => simp [intOf]; omega
          refine AllReadyH.cons (o := _) rfl (fun K hK => ?_) AllReadyH.nil
          go_simp
          have H22 : Hid (TQ w (W14.alloc (.cells #[.int .i64 d.loss.lo] 3)) (w.heap.size + 1) vN vM vL N M L ∧ (W14.alloc (.cells #[.int .i64 d.loss.lo] 3)).heap[wr.heap.size]? = some (.cells #[.int .i64 d.need.lo, .int .i64 d.need.hi, .int .i64 d.make.lo, .int .i64 d.make.hi, .int .i64 d.loss.lo, .int .i64 d.loss.hi] 151 (0, 0)) ∧ (W14.alloc (.cells #[.int .i64 d.loss.lo] 3)).heap[w.heap.size]? = some (.cells #[.int .i64 stock, .int .i64 store, .slice (some ⟨b, off, none⟩) ds.length cap] 64 (0, 0))) := ⟨H14.out.1.below ((Below.refl _ _).alloc (Nat.le_refl _) _), alk H14.out.2.1, alk H14.out.2.2⟩
          have P220 := Lib.hid (P140.out.below ((Below.refl W14.heap.size W14).alloc (Nat.le_refl _) (.cells #[.int .i64 d.loss.lo] 3)))
          have P221 := Lib.hid (P141.out.below ((Below.refl W14.heap.size W14).alloc (Nat.le_refl _) (.cells #[.int .i64 d.loss.lo] 3)))
          have P222 := Lib.hid (PD.make H14.out.1 d.loss.lo)
          refine hK.out _ _ H22.out.2.1 (fun _ => ?_)
          clear hK
          generalize (W14.alloc (.cells #[.int .i64 d.loss.lo] 3)) = W22 at H22 P220 P221 P222 ⊢
          simp only [List.setIfInBounds_toArray, List.set_cons_zero, List.set_cons_succ]
          refine wpAnyH_ready (rs := [5]) (by kernel_rfl) (by simp) ?_
          refine AllReadyH.cons (o := _) rfl (fun K hK => ?_) AllReadyH.nil
          refine step_append_lies _ rfl (.tmp 43) (.tmp 47) 27 rfl (w.heap.size + 1) 3 i0 (.int .i64 0) 1 8 Tryz.underlying27 hi hz0 hz1 hz2 rfl (by decide) vN N.length (N.map (Value.int .i64)) rfl H22.out.1.r.n ⟨W0.heap.size, 0, none⟩ 1 1 [.int .i64 d.need.lo] rfl rfl P220.out.cells (by intro u hu; simp at hu; subst hu; rfl) (by decide) (by unfold maxLen; omega) (by omega) H22.out.1.hz _ rfl ?_
          intro g23 c23 W23 hown hgrow hat _
          have H23 : Hid (TQ w W23 (w.heap.size + 1) (.slice (some ⟨g23, 0, none⟩) (N.length + 1) c23) vM vL (N ++ [d.need.lo]) M L ∧ W23.heap[wr.heap.size]? = some (.cells #[.int .i64 d.need.lo, .int .i64 d.need.hi, .int .i64 d.make.lo, .int .i64 d.make.hi, .int .i64 d.loss.lo, .int .i64 d.loss.hi] 151 (0, 0)) ∧ W23.heap[w.heap.size]? = some (.cells #[.int .i64 stock, .int .i64 store, .slice (some ⟨b, off, none⟩) ds.length cap] 64 (0, 0))) := ⟨(H22.out.1).push hown hgrow hat, (H22.out.1).keep (by decide) H22.out.2.1 hgrow, (H22.out.1).keep (by decide) H22.out.2.2 hgrow⟩
          have P231 := Lib.hid (PD.push (n := N.length + 1) (c := c23) (P221.out) hgrow hat)
          have P232 := Lib.hid (PD.push (n := N.length + 1) (c := c23) (P222.out) hgrow hat)
          clear hown hgrow hat
          refine hK.out _ _ H23.out.2.1 (fun _ => ?_)
          clear hK
          simp only [Act.put, List.setIfInBounds_toArray, List.set_cons_zero, List.set_cons_succ]
          refine wpAnyH_ready (rs := [11]) (by kernel_rfl) (by simp) ?_
          refine AllReadyH.cons (o := _) rfl (fun K hK => ?_) AllReadyH.nil
          refine step_append_lies _ rfl (.tmp 49) (.tmp 53) 27 rfl (w.heap.size + 1) 3 i0 (.int .i64 0) 1 8 Tryz.underlying27 hi hz0 hz1 hz2 rfl (by decide) vM M.length (M.map (Value.int .i64)) rfl H23.out.1.rot.r.n ⟨W1.heap.size, 0, none⟩ 1 1 [.int .i64 d.make.hi] rfl rfl P231.out.cells (by intro u hu; simp at hu; subst hu; rfl) (by decide) (by unfold maxLen; omega) (by omega) H23.out.1.hz _ rfl ?_
          intro g24 c24 W24 hown hgrow hat _
          have H24 : Hid (TQ w W24 (w.heap.size + 1) (.slice (some ⟨g24, 0, none⟩) (M.length + 1) c24) vL (.slice (some ⟨g23, 0, none⟩) (N.length + 1) c23) (M ++ [d.make.hi]) L (N ++ [d.need.lo]) ∧ W24.heap[wr.heap.size]? = some (.cells #[.int .i64 d.need.lo, .int .i64 d.need.hi, .int .i64 d.make.lo, .int .i64 d.make.hi, .int .i64 d.loss.lo, .int .i64 d.loss.hi] 151 (0, 0)) ∧ W24.heap[w.heap.size]? = some (.cells #[.int .i64 stock, .int .i64 store, .slice (some ⟨b, off, none⟩) ds.length cap] 64 (0, 0))) := ⟨(H23.out.1.rot).push hown hgrow hat, (H23.out.1.rot).keep (by decide) H23.out.2.1 hgrow, (H23.out.1.rot).keep (by decide) H23.out.2.2 hgrow⟩
          have P242 := Lib.hid (PD.push (n := M.length + 1) (c := c24) (P232.out.rot) hgrow hat)
          clear hown hgrow hat
          refine hK.out _ _ H24.out.2.1 (fun _ => ?_)
          clear hK
          simp only [Act.put, List.setIfInBounds_toArray, List.set_cons_zero, List.set_cons_succ]
          refine wpAnyH_ready (rs := [17]) (by kernel_rfl) (by simp) ?_
          refine AllReadyH.cons (o := _) rfl (fun K hK => ?_) AllReadyH.nil
          refine step_append_lies _ rfl (.tmp 55) (.tmp 59) 27 rfl (w.heap.size + 1) 3 i0 (.int .i64 0) 1 8 Tryz.underlying27 hi hz0 hz1 hz2 rfl (by decide) vL L.length (L.map (Value.int .i64)) rfl H24.out.1.rot.r.n ⟨W14.heap.size, 0, none⟩ 1 1 [.int .i64 d.loss.lo] rfl rfl P242.out.cells (by intro u hu; simp at hu; subst hu; rfl) (by decide) (by unfold maxLen; omega) (by omega) H24.out.1.hz _ rfl ?_
          intro g25 c25 W25 hown hgrow hat _
          have H25 : Hid (TQ w W25 (w.heap.size + 1) (.slice (some ⟨g25, 0, none⟩) (L.length + 1) c25) (.slice (some ⟨g23, 0, none⟩) (N.length + 1) c23) (.slice (some ⟨g24, 0, none⟩) (M.length + 1) c24) (L ++ [d.loss.lo]) (N ++ [d.need.lo]) (M ++ [d.make.hi]) ∧ W25.heap[wr.heap.size]? = some (.cells #[.int .i64 d.need.lo, .int .i64 d.need.hi, .int .i64 d.make.lo, .int .i64 d.make.hi, .int .i64 d.loss.lo, .int .i64 d.loss.hi] 151 (0, 0)) ∧ W25.heap[w.heap.size]? = some (.cells #[.int .i64 stock, .int .i64 store, .slice (some ⟨b, off, none⟩) ds.length cap] 64 (0, 0))) := ⟨(H24.out.1.rot).push hown hgrow hat, (H24.out.1.rot).keep (by decide) H24.out.2.1 hgrow, (H24.out.1.rot).keep (by decide) H24.out.2.2 hgrow⟩
          clear hown hgrow hat
          refine hK.out _ _ H25.out.2.1 (fun _ => ?_)
          clear hK
          simp only [Act.put, List.setIfInBounds_toArray, List.set_cons_zero, List.set_cons_succ]
          refine wpAnyH_done (by kernel_rfl) ?_ _
          show wpList _ _ _ (opsAt _ [18, 19, 20]) _ _
          simp only [opsAt, List.filterMap_cons, List.filterMap_nil, List.getElem?_toArray, List.getElem?_cons_succ, List.getElem?_cons_zero]
          have HZ := H25.out.1.rot
          go_wp2_with (fail)
          go_roundw
          case rel => exact ⟨j + 1, _, _, _, _, _, _, rfl, rfl, rfl, by go_num, by omega, ⟨HZ, H25.out.2.2⟩, HE2⟩
          case measure => simp [intOf]; omega
        refine AllReadyH.cons (o := _) rfl (fun K hK => ?_) AllReadyH.nil
        go_simp
        have H26 : Hid (TQ w (W1.alloc (.cells #[.int .i64 d.loss.lo] 3)) (w.heap.size + 1) vN vM vL N M L ∧ (W1.alloc (.cells #[.int .i64 d.loss.lo] 3)).heap[wr.heap.size]? = some (.cells #[.int .i64 d.need.lo, .int .i64 d.need.hi, .int .i64 d.make.lo, .int .i64 d.make.hi, .int .i64 d.loss.lo, .int .i64 d.loss.hi] 151 (0, 0)) ∧ (W1.alloc (.cells #[.int .i64 d.loss.lo] 3)).heap[w.heap.size]? = some (.cells #[.int .i64 stock, .int .i64 store, .slice (some ⟨b, off, none⟩) ds.length cap] 64 (0, 0))) := ⟨H1.out.1.below ((Below.refl _ _).alloc (Nat.le_refl _) _), alk H1.out.2.1, alk H1.out.2.2⟩
        have P260 := Lib.hid (P10.out.below ((Below.refl W1.heap.size W1).alloc (Nat.le_refl _) (.cells #[.int .i64 d.loss.lo] 3)))
        have P262 := Lib.hid (PD.make H1.out.1 d.loss.lo)
        refine hK.out _ _ H26.out.2.1 (fun _ => ?_)
        clear hK
        generalize (W1.alloc (.cells #[.int .i64 d.loss.lo] 3)) = W26 at H26 P260 P262 ⊢
        simp only [List.setIfInBounds_toArray, List.set_cons_zero, List.set_cons_succ]
        refine wpAnyH_ready (rs := [5, 10]) (by kernel_rfl) (by simp) ?_
        refine AllReadyH.cons (o := _) rfl (fun K hK => ?_) ?_
        · refine step_append_lies _ rfl (.tmp 43) (.tmp 47) 27 rfl (w.heap.size + 1) 3 i0 (.int .i64 0) 1 8 Tryz.underlying27 hi hz0 hz1 hz2 rfl (by decide) vN N.length (N.map (Value.int .i64)) rfl H26.out.1.r.n ⟨W0.heap.size, 0, none⟩ 1 1 [.int .i64 d.need.lo] rfl rfl P260.out.cells (by intro u hu; simp at hu; subst hu; rfl) (by decide) (by unfold maxLen; omega) (by omega) H26.out.1.hz _ rfl ?_
          intro g27 c27 W27 hown hgrow hat _
          have H27 : Hid (TQ w W27 (w.heap.size + 1) (.slice (some ⟨g27, 0, none⟩) (N.length + 1) c27) vM vL (N ++ [d.need.lo]) M L ∧ W27.heap[wr.heap.size]? = some (.cells #[.int .i64 d.need.lo, .int .i64 d.need.hi, .int .i64 d.make.lo, .int .i64 d.make.hi, .int .i64 d.loss.lo, .int .i64 d.loss.hi] 151 (0, 0)) ∧ W27.heap[w.heap.size]? = some (.cells #[.int .i64 stock, .int .i64 store, .slice (some ⟨b, off, none⟩) ds.length cap] 64 (0, 0))) := ⟨(H26.out.1).push hown hgrow hat, (H26.out.1).keep (by decide) H26.out.2.1 hgrow, (H26.out.1).keep (by decide) H26.out.2.2 hgrow⟩
          have P272 := Lib.hid (PD.push (n := N.length + 1) (c := c27) (P262.out) hgrow hat)
          clear hown hgrow hat
          refine hK.out _ _ H27.out.2.1 (fun _ => ?_)
          clear hK
          simp only [Act.put, List.setIfInBounds_toArray, List.set_cons_zero, List.set_cons_succ]
          refine wpAnyH_ready (rs := [10]) (by kernel_rfl) (by simp) ?_
          refine AllReadyH.cons (o := _) rfl (fun K hK => ?_) AllReadyH.nil
          go_simp
          have H28 : Hid (TQ w (W27.alloc (.cells #[.int .i64 d.make.hi] 3)) (w.heap.size + 1) (.slice (some ⟨g27, 0, none⟩) (N.length + 1) c27) vM vL (N ++ [d.need.lo]) M L ∧ (W27.alloc (.cells #[.int .i64 d.make.hi] 3)).heap[wr.heap.size]? = some (.cells #[.int .i64 d.need.lo, .int .i64 d.need.hi, .int .i64 d.make.lo, .int .i64 d.make.hi, .int .i64 d.loss.lo, .int .i64 d.loss.hi] 151 (0, 0)) ∧ (W27.alloc (.cells #[.int .i64 d.make.hi] 3)).heap[w.heap.size]? = some (.cells #[.int .i64 stock, .int .i64 store, .slice (some ⟨b, off, none⟩) ds.length cap] 64 (0, 0))) := ⟨H27.out.1.below ((Below.refl _ _).alloc (Nat.le_refl _) _), alk H27.out.2.1, alk H27.out.2.2⟩
          have P282 := Lib.hid (P272.out.below ((Below.refl W27.heap.size W27).alloc (Nat.le_refl _) (.cells #[.int .i64 d.make.hi] 3)))
          have P281 := Lib.hid (PD.make H27.out.1 d.make.hi)
          refine hK.out _ _ H28.out.2.1 (fun _ => ?_)
          clear hK
          generalize (W27.alloc (.cells #[.int .i64 d.make.hi] 3)) = W28 at H28 P282 P281 ⊢
          simp only [List.setIfInBounds_toArray, List.set_cons_zero, List.set_cons_succ]
          refine wpAnyH_ready (rs := [11]) (by kernel_rfl) (by simp) ?_
          refine AllReadyH.cons (o := _) rfl (fun K hK => ?_) AllReadyH.nil
          refine step_append_lies _ rfl (.tmp 49) (.tmp 53) 27 rfl (w.heap.size + 1) 3 i0 (.int .i64 0) 1 8 Tryz.underlying27 hi hz0 hz1 hz2 rfl (by decide) vM M.length (M.map (Value.int .i64)) rfl H28.out.1.rot.r.n ⟨W27.heap.size, 0, none⟩ 1 1 [.int .i64 d.make.hi] rfl rfl P281.out.cells (by intro u hu; simp at hu; subst hu; rfl) (by decide) (by unfold maxLen; omega) (by omega) H28.out.1.hz _ rfl ?_
          intro g29 c29 W29 hown hgrow hat _
          have H29 : Hid (TQ w W29 (w.heap.size + 1) (.slice (some ⟨g29, 0, none⟩) (M.length + 1) c29) vL (.slice (some ⟨g27, 0, none⟩) (N.length + 1) c27) (M ++ [d.make.hi]) L (N ++ [d.need.lo]) ∧ W29.heap[wr.heap.size]? = some (.cells #[.int .i64 d.need.lo, .int .i64 d.need.hi, .int .i64 d.make.lo, .int .i64 d.make.hi, .int .i64 d.loss.lo, .int .i64 d.loss.hi] 151 (0, 0)) ∧ W29.heap[w.heap.size]? = some (.cells #[.int .i64 stock, .int .i64 store, .slice (some ⟨b, off, none⟩) ds.length cap] 64 (0, 0))) := ⟨(H28.out.1.rot).push hown hgrow hat, (H28.out.1.rot).keep (by decide) H28.out.2.1 hgrow, (H28.out.1.rot).keep (by decide) H28.out.2.2 hgrow⟩
          have P292 := Lib.hid (PD.push (n := M.length + 1) (c := c29) (P282.out.rot) hgrow hat)
          clear hown hgrow hat
          refine hK.out _ _ H29.out.2.1 (fun _ => ?_)
          clear hK
          simp only [Act.put, List.setIfInBounds_toArray, List.set_cons_zero, List.set_cons_succ]
          refine wpAnyH_ready (rs := [17]) (by kernel_rfl) (by simp) ?_
          refine AllReadyH.cons (o := _) rfl (fun K hK => ?_) AllReadyH.nil
          refine step_append_lies _ rfl (.tmp 55) (.tmp 59) 27 rfl (w.heap.size + 1) 3 i0 (.int .i64 0) 1 8 Tryz.underlying27 hi hz0 hz1 hz2 rfl (by decide) vL L.length (L.map (Value.int .i64)) rfl H29.out.1.rot.r.n ⟨W1.heap.size, 0, none⟩ 1 1 [.int .i64 d.loss.lo] rfl rfl P292.out.cells (by intro u hu; simp at hu; subst hu; rfl) (by decide) (by unfold maxLen; omega) (by omega) H29.out.1.hz _ rfl ?_
          intro g30 c30 W30 hown hgrow hat _
          have H30 : Hid (TQ w W30 (w.heap.size + 1) (.slice (some ⟨g30, 0, none⟩) (L.length + 1) c30) (.slice (some ⟨g27, 0, none⟩) (N.length + 1) c27) (.slice (some ⟨g29, 0, none⟩) (M.length + 1) c29) (L ++ [d.loss.lo]) (N ++ [d.need.lo]) (M ++ [d.make.hi]) ∧ W30.heap[wr.heap.size]? = some (.cells #[.int .i64 d.need.lo, .int .i64 d.need.hi, .int .i64 d.make.lo, .int .i64 d.make.hi, .int .i64 d.loss.lo, .int .i64 d.loss.hi] 151 (0, 0)) ∧ W30.heap[w.heap.size]? = some (.cells #[.int .i64 stock, .int .i64 store, .slice (some ⟨b, off, none⟩) ds.length cap] 64 (0, 0))) := ⟨(H29.out.1.rot).push hown hgrow hat, (H29.out.1.rot).keep (by decide) H29.out.2.1 hgrow, (H29.out.1.rot).keep (by decide) H29.out.2.2 hgrow⟩
          clear hown hgrow hat
          refine hK.out _ _ H30.out.2.1 (fun _ => ?_)
          clear hK
          simp only [Act.put, List.setIfInBounds_toArray, List.set_cons_zero, List.set_cons_succ]
          refine wpAnyH_done (by kernel_rfl) ?_ _
          show wpList _ _ _ (opsAt _ [18, 19, 20]) _ _
          simp only [opsAt, List.filterMap_cons, List.filterMap_nil, List.getElem?_toArray, List.getElem?_cons_succ, List.getElem?_cons_zero]
          have HZ := H30.out.1.rot
          go_wp2_with (fail)
          go_roundw
          case rel => exact ⟨j + 1, _, _, _, _, _, _, rfl, rfl, rfl, by go_num, by omega, ⟨HZ, H30.out.2.2⟩, HE2⟩
          case measure => simp [intOf]; omega
        refine AllReadyH.cons (o := _) rfl (fun K hK => ?_) AllReadyH.nil
        go_simp
        have H31 : Hid (TQ w (W26.alloc (.cells #[.int .i64 d.make.hi] 3)) (w.heap.size + 1) vN vM vL N M L ∧ (W26.alloc (.cells #[.int .i64 d.make.hi] 3)).heap[wr.heap.size]? = some (.cells #[.int .i64 d.need.lo, .int .i64 d.need.hi, .int .i64 d.make.lo, .int .i64 d.make.hi, .int .i64 d.loss.lo, .int .i64 d.loss.hi] 151 (0, 0)) ∧ (W26.alloc (.cells #[.int .i64 d.make.hi] 3)).heap[w.heap.size]? = some (.cells #[.int .i64 stock, .int .i64 store, .slice (some ⟨b, off, none⟩) ds.length cap] 64 (0, 0))) := ⟨H26.out.1.below ((Below.refl _ _).alloc (Nat.le_refl _) _), alk H26.out.2.1, alk H26.out.2.2⟩
        have P310 := Lib.hid (P260.out.below ((Below.refl W26.heap.size W26).alloc (Nat.le_refl _) (.cells #[.int .i64 d.make.hi] 3)))
        have P312 := Lib.hid (P262.out.below ((Below.refl W26.heap.size W26).alloc (Nat.le_refl _) (.cells #[.int .i64 d.make.hi] 3)))
        have P311 := Lib.hid (PD.make H26.out.1 d.make.hi)
        refine hK.out _ _ H31.out.2.1 (fun _ => ?_)
        clear hK
        generalize (W26.alloc (.cells #[.int .i64 d.make.hi] 3)) = W31 at H31 P310 P312 P311 ⊢
        simp only [List.setIfInBounds_toArray, List.set_cons_zero, List.set_cons_succ]
        refine wpAnyH_ready (rs := [5]) (by kernel_rfl) (by simp) ?_
        refine AllReadyH.cons (o := _) rfl (fun K hK => ?_) AllReadyH.nil
        refine step_append_lies _ rfl (.tmp 43) (.tmp 47) 27 rfl (w.heap.size + 1) 3 i0 (.int .i64 0) 1 8 Tryz.underlying27 hi hz0 hz1 hz2 rfl (by decide) vN N.length (N.map (Value.int .i64)) rfl H31.out.1.r.n ⟨W0.heap.size, 0, none⟩ 1 1 [.int .i64 d.need.lo] rfl rfl P310.out.cells (by intro u hu; simp at hu; subst hu; rfl) (by decide) (by unfold maxLen; omega) (by omega) H31.out.1.hz _ rfl ?_
        intro g32 c32 W32 hown hgrow hat _
        have H32 : Hid (TQ w W32 (w.heap.size + 1) (.slice (some ⟨g32, 0, none⟩) (N.length + 1) c32) vM vL (N ++ [d.need.lo]) M L ∧ W32.heap[wr.heap.size]? = some (.cells #[.int .i64 d.need.lo, .int .i64 d.need.hi, .int .i64 d.make.lo, .int .i64 d.make.hi, .int .i64 d.loss.lo, .int .i64 d.loss.hi] 151 (0, 0)) ∧ W32.heap[w.heap.size]? = some (.cells #[.int .i64 stock, .int .i64 store, .slice (some ⟨b, off, none⟩) ds.length cap] 64 (0, 0))) := ⟨(H31.out.1).push hown hgrow hat, (H31.out.1).keep (by decide) H31.out.2.1 hgrow, (H31.out.1).keep (by decide) H31.out.2.2 hgrow⟩
        have P322 := Lib.hid (PD.push (n := N.length + 1) (c := c32) (P312.out) hgrow hat)
        have P321 := Lib.hid (PD.push (n := N.length + 1) (c := c32) (P311.out) hgrow hat)
        clear hown hgrow hat
        refine hK.out _ _ H32.out.2.1 (fun _ => ?_)
        clear hK
        simp only [Act.put, List.setIfInBounds_toArray, List.set_cons_zero, List.set_cons_succ]
        refine wpAnyH_ready (rs := [11]) (by kernel_rfl) (by simp) ?_
        refine AllReadyH.cons (o := _) rfl (fun K hK => ?_) AllReadyH.nil
        refine step_append_lies _ rfl (.tmp 49) (.tmp 53) 27 rfl (w.heap.size + 1) 3 i0 (.int .i64 0) 1 8 Tryz.underlying27 hi hz0 hz1 hz2 rfl (by decide) vM M.length (M.map (Value.int .i64)) rfl H32.out.1.rot.r.n ⟨W26.heap.size, 0, none⟩ 1 1 [.int .i64 d.make.hi] rfl rfl P321.out.cells (by intro u hu; simp at hu; subst hu; rfl) (by decide) (by unfold maxLen; omega) (by omega) H32.out.1.hz _ rfl ?_
        intro g33 c33 W33 hown hgrow hat _
        have H33 : Hid (TQ w W33 (w.heap.size + 1) (.slice (some ⟨g33, 0, none⟩) (M.length + 1) c33) vL (.slice (some ⟨g32, 0, none⟩) (N.length + 1) c32) (M ++ [d.make.hi]) L (N ++ [d.need.lo]) ∧ W33.heap[wr.heap.size]? = some (.cells #[.int .i64 d.need.lo, .int .i64 d.need.hi, .int .i64 d.make.lo, .int .i64 d.make.hi, .int .i64 d.loss.lo, .int .i64 d.loss.hi] 151 (0, 0)) ∧ W33.heap[w.heap.size]? = some (.cells #[.int .i64 stock, .int .i64 store, .slice (some ⟨b, off, none⟩) ds.length cap] 64 (0, 0))) := ⟨(H32.out.1.rot).push hown hgrow hat, (H32.out.1.rot).keep (by decide) H32.out.2.1 hgrow, (H32.out.1.rot).keep (by decide) H32.out.2.2 hgrow⟩
        have P332 := Lib.hid (PD.push (n := M.length + 1) (c := c33) (P322.out.rot) hgrow hat)
        clear hown hgrow hat
        refine hK.out _ _ H33.out.2.1 (fun _ => ?_)
        clear hK
        simp only [Act.put, List.setIfInBounds_toArray, List.set_cons_zero, List.set_cons_succ]
        refine wpAnyH_ready (rs := [17]) (by kernel_rfl) (by simp) ?_
        refine AllReadyH.cons (o := _) rfl (fun K hK => ?_) AllReadyH.nil
        refine step_append_lies _ rfl (.tmp 55) (.tmp 59) 27 rfl (w.heap.size + 1) 3 i0 (.int .i64 0) 1 8 Tryz.underlying27 hi hz0 hz1 hz2 rfl (by decide) vL L.length (L.map (Value.int .i64)) rfl H33.out.1.rot.r.n ⟨W1.heap.size, 0, none⟩ 1 1 [.int .i64 d.loss.lo] rfl rfl P332.out.cells (by intro u hu; simp at hu; subst hu; rfl) (by decide) (by unfold maxLen; omega) (by omega) H33.out.1.hz _ rfl ?_
        intro g34 c34 W34 hown hgrow hat _
        have H34 : Hid (TQ w W34 (w.heap.size + 1) (.slice (some ⟨g34, 0, none⟩) (L.length + 1) c34) (.slice (some ⟨g32, 0, none⟩) (N.length + 1) c32) (.slice (some ⟨g33, 0, none⟩) (M.length + 1) c33) (L ++ [d.loss.lo]) (N ++ [d.need.lo]) (M ++ [d.make.hi]) ∧ W34.heap[wr.heap.size]? = some (.cells #[.int .i64 d.need.lo, .int .i64 d.need.hi, .int .i64 d.make.lo, .int .i64 d.make.hi, .int .i64 d.loss.lo, .int .i64 d.loss.hi] 151 (0, 0)) ∧ W34.heap[w.heap.size]? = some (.cells #[.int .i64 stock, .int .i64 store, .slice (some ⟨b, off, none⟩) ds.length cap] 64 (0, 0))) := ⟨(H33.out.1.rot).push hown hgrow hat, (H33.out.1.rot).keep (by decide) H33.out.2.1 hgrow, (H33.out.1.rot).keep (by decide) H33.out.2.2 hgrow⟩
        clear hown hgrow hat
        refine hK.out _ _ H34.out.2.1 (fun _ => ?_)
        clear hK
        simp only [Act.put, List.setIfInBounds_toArray, List.set_cons_zero, List.set_cons_succ]
        refine wpAnyH_done (by kernel_rfl) ?_ _
        show wpList _ _ _ (opsAt _ [18, 19, 20]) _ _
        simp only [opsAt, List.filterMap_cons, List.filterMap_nil, List.getElem?_toArray, List.getElem?_cons_succ, List.getElem?_cons_zero]
        have HZ := H34.out.1.rot
        go_wp2_with (fail)
        go_roundw
        case rel => exact ⟨j + 1, _, _, _, _, _, _, rfl, rfl, rfl, by go_num, by omega, ⟨HZ, H34.out.2.2⟩, HE2⟩
        case measure => simp [intOf]; omega
      refine AllReadyH.cons (o := _) rfl (fun K hK => ?_) ?_
      · go_simp
        have H35 : Hid (TQ w (W0.alloc (.cells #[.int .i64 d.make.hi] 3)) (w.heap.size + 1) vN vM vL N M L ∧ (W0.alloc (.cells #[.int .i64 d.make.hi] 3)).heap[wr.heap.size]? = some (.cells #[.int .i64 d.need.lo, .int .i64 d.need.hi, .int .i64 d.make.lo, .int .i64 d.make.hi, .int .i64 d.loss.lo, .int .i64 d.loss.hi] 151 (0, 0)) ∧ (W0.alloc (.cells #[.int .i64 d.make.hi] 3)).heap[w.heap.size]? = some (.cells #[.int .i64 stock, .int .i64 store, .slice (some ⟨b, off, none⟩) ds.length cap] 64 (0, 0))) := ⟨H0.out.1.below ((Below.refl _ _).alloc (Nat.le_refl _) _), alk H0.out.2.1, alk H0.out.2.2⟩
        have P351 := Lib.hid (PD.make H0.out.1 d.make.hi)
        refine hK.out _ _ H35.out.2.1 (fun _ => ?_)
        clear hK
        generalize (W0.alloc (.cells #[.int .i64 d.make.hi] 3)) = W35 at H35 P351 ⊢
        simp only [List.setIfInBounds_toArray, List.set_cons_zero, List.set_cons_succ]
        refine wpAnyH_ready (rs := [4, 16]) (by kernel_rfl) (by simp) ?_
        refine AllReadyH.cons (o := _) rfl (fun K hK => ?_) ?_
        · go_simp
          have H36 : Hid (TQ w (W35.alloc (.cells #[.int .i64 d.need.lo] 3)) (w.heap.size + 1) vN vM vL N M L ∧ (W35.alloc (.cells #[.int .i64 d.need.lo] 3)).heap[wr.heap.size]? = some (.cells #[.int .i64 d.need.lo, .int .i64 d.need.hi, .int .i64 d.make.lo, .int .i64 d.make.hi, .int .i64 d.loss.lo, .int .i64 d.loss.hi] 151 (0, 0)) ∧ (W35.alloc (.cells #[.int .i64 d.need.lo] 3)).heap[w.heap.size]? = some (.cells #[.int .i64 stock, .int .i64 store, .slice (some ⟨b, off, none⟩) ds.length cap] 64 (0, 0))) := ⟨H35.out.1.below ((Below.refl _ _).alloc (Nat.le_refl _) _), alk H35.out.2.1, alk H35.out.2.2⟩
          have P361 := Lib.hid (P351.out.below ((Below.refl W35.heap.size W35).alloc (Nat.le_refl _) (.cells #[.int .i64 d.need.lo] 3)))
          have P360 := Lib.hid (PD.make H35.out.1 d.need.lo)
          refine hK.out _ _ H36.out.2.1 (fun _ => ?_)
          clear hK
          generalize (W35.alloc (.cells #[.int .i64 d.need.lo] 3)) = W36 at H36 P361 P360 ⊢
          simp only [List.setIfInBounds_toArray, List.set_cons_zero, List.set_cons_succ]
          refine wpAnyH_ready (rs := [5, 16]) (by kernel_rfl) (by simp) ?_
          refine AllReadyH.cons (o := _) rfl (fun K hK => ?_) ?_
          · refine step_append_lies _ rfl (.tmp 43) (.tmp 47) 27 rfl (w.heap.size + 1) 3 i0 (.int .i64 0) 1 8 Tryz.underlying27 hi hz0 hz1 hz2 rfl (by decide) vN N.length (N.map (Value.int .i64)) rfl H36.out.1.r.n ⟨W35.heap.size, 0, none⟩ 1 1 [.int .i64 d.need.lo] rfl rfl P360.out.cells (by intro u hu; simp at hu; subst hu; rfl) (by decide) (by unfold maxLen; omega) (by omega) H36.out.1.hz _ rfl ?_
            intro g37 c37 W37 hown hgrow hat _
            have H37 : Hid (TQ w W37 (w.heap.size + 1) (.slice (some ⟨g37, 0, none⟩) (N.length + 1) c37) vM vL (N ++ [d.need.lo]) M L ∧ W37.heap[wr.heap.size]? = some (.cells #[.int .i64 d.need.lo, .int .i64 d.need.hi, .int .i64 d.make.lo, .int .i64 d.make.hi, .int .i64 d.loss.lo, .int .i64 d.loss.hi] 151 (0, 0)) ∧ W37.heap[w.heap.size]? = some (.cells #[.int .i64 stock, .int .i64 store, .slice (some ⟨b, off, none⟩) ds.length cap] 64 (0, 0))) := ⟨(H36.out.1).push hown hgrow hat, (H36.out.1).keep (by decide) H36.out.2.1 hgrow, (H36.out.1).keep (by decide) H36.out.2.2 hgrow⟩
            have P371 := Lib.hid (PD.push (n := N.length + 1) (c := c37) (P361.out) hgrow hat)
            clear hown hgrow hat
            refine hK.out _ _ H37.out.2.1 (fun _ => ?_)
            clear hK
            simp only [Act.put, List.setIfInBounds_toArray, List.set_cons_zero, List.set_cons_succ]
            refine wpAnyH_ready (rs := [11, 16]) (by kernel_rfl) (by simp) ?_
            refine AllReadyH.cons (o := _) rfl (fun K hK => ?_) ?_
            · refine step_append_lies _ rfl (.tmp 49) (.tmp 53) 27 rfl (w.heap.size + 1) 3 i0 (.int .i64 0) 1 8 Tryz.underlying27 hi hz0 hz1 hz2 rfl (by decide) vM M.length (M.map (Value.int .i64)) rfl H37.out.1.rot.r.n ⟨W0.heap.size, 0, none⟩ 1 1 [.int .i64 d.make.hi] rfl rfl P371.out.cells (by intro u hu; simp at hu; subst hu; rfl) (by decide) (by unfold maxLen; omega) (by omega) H37.out.1.hz _ rfl ?_
              intro g38 c38 W38 hown hgrow hat _
              have H38 : Hid (TQ w W38 (w.heap.size + 1) (.slice (some ⟨g38, 0, none⟩) (M.length + 1) c38) vL (.slice (some ⟨g37, 0, none⟩) (N.length + 1) c37) (M ++ [d.make.hi]) L (N ++ [d.need.lo]) ∧ W38.heap[wr.heap.size]? = some (.cells #[.int .i64 d.need.lo, .int .i64 d.need.hi, .int .i64 d.make.lo, .int .i64 d.make.hi, .int .i64 d.loss.lo, .int .i64 d.loss.hi] 151 (0, 0)) ∧ W38.heap[w.heap.size]? = some (.cells #[.int .i64 stock, .int .i64 store, .slice (some ⟨b, off, none⟩) ds.length cap] 64 (0, 0))) := ⟨(H37.out.1.rot).push hown hgrow hat, (H37.out.1.rot).keep (by decide) H37.out.2.1 hgrow, (H37.out.1.rot).keep (by decide) H37.out.2.2 hgrow⟩
              clear hown hgrow hat
              refine hK.out _ _ H38.out.2.1 (fun _ => ?_)
              clear hK
              simp only [Act.put, List.setIfInBounds_toArray, List.set_cons_zero, List.set_cons_succ]
              refine wpAnyH_ready (rs := [16]) (by kernel_rfl) (by simp) ?_
              refine AllReadyH.cons (o := _) rfl (fun K hK => ?_) AllReadyH.nil
              go_simp
              have H39 : Hid (TQ w (W38.alloc (.cells #[.int .i64 d.loss.lo] 3)) (w.heap.size + 1) (.slice (some ⟨g38, 0, none⟩) (M.length + 1) c38) vL (.slice (some ⟨g37, 0, none⟩) (N.length + 1) c37) (M ++ [d.make.hi]) L (N ++ [d.need.lo]) ∧ (W38.alloc (.cells #[.int .i64 d.loss.lo] 3)).heap[wr.heap.size]? = some (.cells #[.int .i64 d.need.lo, .int .i64 d.need.hi, .int .i64 d.make.lo, .int .i64 d.make.hi, .int .i64 d.loss.lo, .int .i64 d.loss.hi] 151 (0, 0)) ∧ (W38.alloc (.cells #[.int .i64 d.loss.lo] 3)).heap[w.heap.size]? = some (.cells #[.int .i64 stock, .int .i64 store, .slice (some ⟨b, off, none⟩) ds.length cap] 64 (0, 0))) := ⟨H38.out.1.below ((Below.refl _ _).alloc (Nat.le_refl _) _), alk H38.out.2.1, alk H38.out.2.2⟩
              have P392 := Lib.hid (PD.make H38.out.1 d.loss.lo)
              refine hK.out _ _ H39.out.2.1 (fun _ => ?_)
              clear hK
              generalize (W38.alloc (.cells #[.int .i64 d.loss.lo] 3)) = W39 at H39 P392 ⊢
              simp only [List.setIfInBounds_toArray, List.set_cons_zero, List.set_cons_succ]
              refine wpAnyH_ready (rs := [17]) (by kernel_rfl) (by simp) ?_
              refine AllReadyH.cons (o := _) rfl (fun K hK => ?_) AllReadyH.nil
              refine step_append_lies _ rfl (.tmp 55) (.tmp 59) 27 rfl (w.heap.size + 1) 3 i0 (.int .i64 0) 1 8 Tryz.underlying27 hi hz0 hz1 hz2 rfl (by decide) vL L.length (L.map (Value.int .i64)) rfl H39.out.1.rot.r.n ⟨W38.heap.size, 0, none⟩ 1 1 [.int .i64 d.loss.lo] rfl rfl P392.out.cells (by intro u hu; simp at hu; subst hu; rfl) (by decide) (by unfold maxLen; omega) (by omega) H39.out.1.hz _ rfl ?_
              intro g40 c40 W40 hown hgrow hat _
              have H40 : Hid (TQ w W40 (w.heap.size + 1) (.slice (some ⟨g40, 0, none⟩) (L.length + 1) c40) (.slice (some ⟨g37, 0, none⟩) (N.length + 1) c37) (.slice (some ⟨g38, 0, none⟩) (M.length + 1) c38) (L ++ [d.loss.lo]) (N ++ [d.need.lo]) (M ++ [d.make.hi]) ∧ W40.heap[wr.heap.size]? = some (.cells #[.int .i64 d.need.lo, .int .i64 d.need.hi, .int .i64 d.make.lo, .int .i64 d.make.hi, .int .i64 d.loss.lo, .int .i64 d.loss.hi] 151 (0, 0)) ∧ W40.heap[w.heap.size]? = some (.cells #[.int .i64 stock, .int .i64 store, .slice (some ⟨b, off, none⟩) ds.length cap] 64 (0, 0))) := ⟨(H39.out.1.rot).push hown hgrow hat, (H39.out.1.rot).keep (by decide) H39.out.2.1 hgrow, (H39.out.1.rot).keep (by decide) H39.out.2.2 hgrow⟩
              clear hown hgrow hat
              refine hK.out _ _ H40.out.2.1 (fun _ => ?_)
              clear hK
              simp only [Act.put, List.setIfInBounds_toArray, List.set_cons_zero, List.set_cons_succ]
              refine wpAnyH_done (by kernel_rfl) ?_ _
              show wpList _ _ _ (opsAt _ [18, 19, 20]) _ _
              simp only [opsAt, List.filterMap_cons, List.filterMap_nil, List.getElem?_toArray, List.getElem?_cons_succ, List.getElem?_cons_zero]
              have HZ := H40.out.1.rot
              go_wp2_with (fail)
              go_roundw
              case rel => exact ⟨j + 1, _, _, _, _, _, _, rfl, rfl, rfl, by go_num, by omega, ⟨HZ, H40.out.2.2⟩, HE2⟩
              case measure => simp [intOf]; omega
            refine AllReadyH.cons (o := _) rfl (fun K hK => ?_) AllReadyH.nil
            go_simp
            have H41 : Hid (TQ w (W37.alloc (.cells #[.int .i64 d.loss.lo] 3)) (w.heap.size + 1) (.slice (some ⟨g37, 0, none⟩) (N.length + 1) c37) vM vL (N ++ [d.need.lo]) M L ∧ (W37.alloc (.cells #[.int .i64 d.loss.lo] 3)).heap[wr.heap.size]? = some (.cells #[.int .i64 d.need.lo, .int .i64 d.need.hi, .int .i64 d.make.lo, .int .i64 d.make.hi, .int .i64 d.loss.lo, .int .i64 d.loss.hi] 151 (0, 0)) ∧ (W37.alloc (.cells #[.int .i64 d.loss.lo] 3)).heap[w.heap.size]? = some (.cells #[.int .i64 stock, .int .i64 store, .slice (some ⟨b, off, none⟩) ds.length cap] 64 (0, 0))) := ⟨H37.out.1.below ((Below.refl _ _).alloc (Nat.le_refl _) _), alk H37.out.2.1, alk H37.out.2.2⟩
            have P411 := Lib.hid (P371.out.below ((Below.refl W37.heap.size W37).alloc (Nat.le_refl _) (.cells #[.int .i64 d.loss.lo] 3)))
            have P412 := Lib.hid (PD.make H37.out.1 d.loss.lo)
            refine hK.out _ _ H41.out.2.1 (fun _ => ?_)
            clear hK
            generalize (W37.alloc (.cells #[.int .i64 d.loss.lo] 3)) = W41 at H41 P411 P412 ⊢
            simp only [List.setIfInBounds_toArray, List.set_cons_zero, List.set_cons_succ]
            refine wpAnyH_ready (rs := [11]) (by kernel_rfl) (by simp) ?_
            refine AllReadyH.cons (o := _) rfl (fun K hK => ?_) AllReadyH.nil
            refine step_append_lies _ rfl (.tmp 49) (.tmp 53) 27 rfl (w.heap.size + 1) 3 i0 (.int .i64 0) 1 8 Tryz.underlying27 hi hz0 hz1 hz2 rfl (by decide) vM M.length (M.map (Value.int .i64)) rfl H41.out.1.rot.r.n ⟨W0.heap.size, 0, none⟩ 1 1 [.int .i64 d.make.hi] rfl rfl P411.out.cells (by intro u hu; simp at hu; subst hu; rfl) (by decide) (by unfold maxLen; omega) (by omega) H41.out.1.hz _ rfl ?_
            intro g42 c42 W42 hown hgrow hat _
            have H42 : Hid (TQ w W42 (w.heap.size + 1) (.slice (some ⟨g42, 0, none⟩) (M.length + 1) c42) vL (.slice (some ⟨g37, 0, none⟩) (N.length + 1) c37) (M ++ [d.make.hi]) L (N ++ [d.need.lo]) ∧ W42.heap[wr.heap.size]? = some (.cells #[.int .i64 d.need.lo, .int .i64 d.need.hi, .int .i64 d.make.lo, .int .i64 d.make.hi, .int .i64 d.loss.lo, .int .i64 d.loss.hi] 151 (0, 0)) ∧ W42.heap[w.heap.size]? = some (.cells #[.int .i64 stock, .int .i64 store, .slice (some ⟨b, off, none⟩) ds.length cap] 64 (0, 0))) := ⟨(H41.out.1.rot).push hown hgrow hat, (H41.out.1.rot).keep (by decide) H41.out.2.1 hgrow, (H41.out.1.rot).keep (by decide) H41.out.2.2 hgrow⟩
            have P422 := Lib.hid (PD.push (n := M.length + 1) (c := c42) (P412.out.rot) hgrow hat)
            clear hown hgrow hat
            refine hK.out _ _ H42.out.2.1 (fun _ => ?_)
            clear hK
            simp only [Act.put, List.setIfInBounds_toArray, List.set_cons_zero, List.set_cons_succ]
            refine wpAnyH_ready (rs := [17]) (by kernel_rfl) (by simp) ?_
            refine AllReadyH.cons (o := _) rfl (fun K hK => ?_) AllReadyH.nil
            refine step_append_lies _ rfl (.tmp 55) (.tmp 59) 27 rfl (w.heap.size + 1) 3 i0 (.int .i64 0) 1 8 Tryz.underlying27 hi hz0 hz1 hz2 rfl (by decide) vL L.length (L.map (Value.int .i64)) rfl H42.out.1.rot.r.n ⟨W37.heap.size, 0, none⟩ 1 1 [.int .i64 d.loss.lo] rfl rfl P422.out.cells (by intro u hu; simp at hu; subst hu; rfl) (by decide) (by unfold maxLen; omega) (by omega) H42.out.1.hz _ rfl ?_
            intro g43 c43 W43 hown hgrow hat _
            have H43 : Hid (TQ w W43 (w.heap.size + 1) (.slice (some ⟨g43, 0, none⟩) (L.length + 1) c43) (.slice (some ⟨g37, 0, none⟩) (N.length + 1) c37) (.slice (some ⟨g42, 0, none⟩) (M.length + 1) c42) (L ++ [d.loss.lo]) (N ++ [d.need.lo]) (M ++ [d.make.hi]) ∧ W43.heap[wr.heap.size]? = some (.cells #[.int .i64 d.need.lo, .int .i64 d.need.hi, .int .i64 d.make.lo, .int .i64 d.make.hi, .int .i64 d.loss.lo, .int .i64 d.loss.hi] 151 (0, 0)) ∧ W43.heap[w.heap.size]? = some (.cells #[.int .i64 stock, .int .i64 store, .slice (some ⟨b, off, none⟩) ds.length cap] 64 (0, 0))) := ⟨(H42.out.1.rot).push hown hgrow hat, (H42.out.1.rot).keep (by decide) H42.out.2.1 hgrow, (H42.out.1.rot).keep (by decide) H42.out.2.2 hgrow⟩
            clear hown hgrow hat
            refine hK.out _ _ H43.out.2.1 (fun _ => ?_)
            clear hK
            simp only [Act.put, List.setIfInBounds_toArray, List.set_cons_zero, List.set_cons_succ]
            refine wpAnyH_done (by kernel_rfl) ?_ _
            show wpList _ _ _ (opsAt _ [18, 19, 20]) _ _
            simp only [opsAt, List.filterMap_cons, List.filterMap_nil, List.getElem?_toArray, List.getElem?_cons_succ, List.getElem?_cons_zero]
            have HZ := H43.out.1.rot
            go_wp2_with (fail)
            go_roundw
            case rel => exact ⟨j + 1, _, _, _, _, _, _, rfl, rfl, rfl, by go_num, by omega, ⟨HZ, H43.out.2.2⟩, HE2⟩
            case measure => simp [intOf]; omega
          refine AllReadyH.cons (o := _) rfl (fun K hK => ?_) AllReadyH.nil
          go_simp
          have H44 : Hid (TQ w (W36.alloc (.cells #[.int .i64 d.loss.lo] 3)) (w.heap.size + 1) vN vM vL N M L ∧ (W36.alloc (.cells #[.int .i64 d.loss.lo] 3)).heap[wr.heap.size]? = some (.cells #[.int .i64 d.need.lo, .int .i64 d.need.hi, .int .i64 d.make.lo, .int .i64 d.make.hi, .int .i64 d.loss.lo, .int .i64 d.loss.hi] 151 (0, 0)) ∧ (W36.alloc (.cells #[.int .i64 d.loss.lo] 3)).heap[w.heap.size]? = some (.cells #[.int .i64 stock, .int .i64 store, .slice (some ⟨b, off, none⟩) ds.length cap] 64 (0, 0))) := ⟨H36.out.1.below ((Below.refl _ _).alloc (Nat.le_refl _) _), alk H36.out.2.1, alk H36.out.2.2⟩
          have P441 := Lib.hid (P361.out.below ((Below.refl W36.heap.size W36).alloc (Nat.le_refl _) (.cells #[.int .i64 d.loss.lo] 3)))
          have P440 := Lib.hid (P360.out.below ((Below.refl W36.heap.size W36).alloc (Nat.le_refl _) (.cells #[.int .i64 d.loss.lo] 3)))
          have P442 := Lib.hid (PD.make H36.out.1 d.loss.lo)
          refine hK.out _ _ H44.out.2.1 (fun _ => ?_)
          clear hK
          generalize (W36.alloc (.cells #[.int .i64 d.loss.lo] 3)) = W44 at H44 P441 P440 P442 ⊢
          simp only [List.setIfInBounds_toArray, List.set_cons_zero, List.set_cons_succ]
          refine wpAnyH_ready (rs := [5]) (by kernel_rfl) (by simp) ?_
          refine AllReadyH.cons (o := _) rfl (fun K hK => ?_) AllReadyH.nil
          refine step_append_lies _ rfl (.tmp 43) (.tmp 47) 27 rfl (w.heap.size + 1) 3 i0 (.int .i64 0) 1 8 Tryz.underlying27 hi hz0 hz1 hz2 rfl (by decide) vN N.length (N.map (Value.int .i64)) rfl H44.out.1.r.n ⟨W35.heap.size, 0, none⟩ 1 1 [.int .i64 d.need.lo] rfl rfl P440.out.cells (by intro u hu; simp at hu; subst hu; rfl) (by decide) (by unfold maxLen; omega) (by omega) H44.out.1.hz _ rfl ?_
          intro g45 c45 W45 hown hgrow hat _
          have H45 : Hid (TQ w W45 (w.heap.size + 1) (.slice (some ⟨g45, 0, none⟩) (N.length + 1) c45) vM vL (N ++ [d.need.lo]) M L ∧ W45.heap[wr.heap.size]? = some (.cells #[.int .i64 d.need.lo, .int .i64 d.need.hi, .int .i64 d.make.lo, .int .i64 d.make.hi, .int .i64 d.loss.lo, .int .i64 d.loss.hi] 151 (0, 0)) ∧ W45.heap[w.heap.size]? = some (.cells #[.int .i64 stock, .int .i64 store, .slice (some ⟨b, off, none⟩) ds.length cap] 64 (0, 0))) := ⟨(H44.out.1).push hown hgrow hat, (H44.out.1).keep (by decide) H44.out.2.1 hgrow, (H44.out.1).keep (by decide) H44.out.2.2 hgrow⟩
          have P451 := Lib.hid (PD.push (n := N.length + 1) (c := c45) (P441.out) hgrow hat)
          have P452 := Lib.hid (PD.push (n := N.length + 1) (c := c45) (P442.out) hgrow hat)
          clear hown hgrow hat
          refine hK.out _ _ H45.out.2.1 (fun _ => ?_)
          clear hK
          simp only [Act.put, List.setIfInBounds_toArray, List.set_cons_zero, List.set_cons_succ]
          refine wpAnyH_ready (rs := [11]) (by kernel_rfl) (by simp) ?_
          refine AllReadyH.cons (o := _) rfl (fun K hK => ?_) AllReadyH.nil
          refine step_append_lies _ rfl (.tmp 49) (.tmp 53) 27 rfl (w.heap.size + 1) 3 i0 (.int .i64 0) 1 8 Tryz.underlying27 hi hz0 hz1 hz2 rfl (by decide) vM M.length (M.map (Value.int .i64)) rfl H45.out.1.rot.r.n ⟨W0.heap.size, 0, none⟩ 1 1 [.int .i64 d.make.hi] rfl rfl P451.out.cells (by intro u hu; simp at hu; subst hu; rfl) (by decide) (by unfold maxLen; omega) (by omega) H45.out.1.hz _ rfl ?_
          intro g46 c46 W46 hown hgrow hat _
          have H46 : Hid (TQ w W46 (w.heap.size + 1) (.slice (some ⟨g46, 0, none⟩) (M.length + 1) c46) vL (.slice (some ⟨g45, 0, none⟩) (N.length + 1) c45) (M ++ [d.make.hi]) L (N ++ [d.need.lo]) ∧ W46.heap[wr.heap.size]? = some (.cells #[.int .i64 d.need.lo, .int .i64 d.need.hi, .int .i64 d.make.lo, .int .i64 d.make.hi, .int .i64 d.loss.lo, .int .i64 d.loss.hi] 151 (0, 0)) ∧ W46.heap[w.heap.size]? = some (.cells #[.int .i64 stock, .int .i64 store, .slice (some ⟨b, off, none⟩) ds.length cap] 64 (0, 0))) := ⟨(H45.out.1.rot).push hown hgrow hat, (H45.out.1.rot).keep (by decide) H45.out.2.1 hgrow, (H45.out.1.rot).keep (by decide) H45.out.2.2 hgrow⟩
          have P462 := Lib.hid (PD.push (n := M.length + 1) (c := c46) (P452.out.rot) hgrow hat)
          clear hown hgrow hat
          refine hK.out _ _ H46.out.2.1 (fun _ => ?_)
          clear hK
          simp only [Act.put, List.setIfInBounds_toArray, List.set_cons_zero, List.set_cons_succ]
          refine wpAnyH_ready (rs := [17]) (by kernel_rfl) (by simp) ?_
          refine AllReadyH.cons (o := _) rfl (fun K hK => ?_) AllReadyH.nil
          refine step_append_lies _ rfl (.tmp 55) (.tmp 59) 27 rfl (w.heap.size + 1) 3 i0 (.int .i64 0) 1 8 Tryz.underlying27 hi hz0 hz1 hz2 rfl (by decide) vL L.length (L.map (Value.int .i64)) rfl H46.out.1.rot.r.n ⟨W36.heap.size, 0, none⟩ 1 1 [.int .i64 d.loss.lo] rfl rfl P462.out.cells (by intro u hu; simp at hu; subst hu; rfl) (by decide) (by unfold maxLen; omega) (by omega) H46.out.1.hz _ rfl ?_
          intro g47 c47 W47 hown hgrow hat _
          have H47 : Hid (TQ w W47 (w.heap.size + 1) (.slice (some ⟨g47, 0, none⟩) (L.length + 1) c47) (.slice (some ⟨g45, 0, none⟩) (N.length + 1) c45) (.slice (some ⟨g46, 0, none⟩) (M.length + 1) c46) (L ++ [d.loss.lo]) (N ++ [d.need.lo]) (M ++ [d.make.hi]) ∧ W47.heap[wr.heap.size]? = some (.cells #[.int .i64 d.need.lo, .int .i64 d.need.hi, .int .i64 d.make.lo, .int .i64 d.make.hi, .int .i64 d.loss.lo, .int .i64 d.loss.hi] 151 (0, 0)) ∧ W47.heap[w.heap.size]? = some (.cells #[.int .i64 stock, .int .i64 store, .slice (some ⟨b, off, none⟩) ds.length cap] 64 (0, 0))) := ⟨(H46.out.1.rot).push hown hgrow hat, (H46.out.1.rot).keep (by decide) H46.out.2.1 hgrow, (H46.out.1.rot).keep (by decide) H46.out.2.2 hgrow⟩
          clear hown hgrow hat
          refine hK.out _ _ H47.out.2.1 (fun _ => ?_)
          clear hK
          simp only [Act.put, List.setIfInBounds_toArray, List.set_cons_zero, List.set_cons_succ]
          refine wpAnyH_done (by kernel_rfl) ?_ _
          show wpList _ _ _ (opsAt _ [18, 19, 20]) _ _
          simp only [opsAt, List.filterMap_cons, List.filterMap_nil, List.getElem?_toArray, List.getElem?_cons_succ, List.getElem?_cons_zero]
          have HZ := H47.out.1.rot
          go_wp2_with (fail)
          go_roundw
          case rel => exact ⟨j + 1, _, _, _, _, _, _, rfl, rfl, rfl, by go_num, by omega, ⟨HZ, H47.out.2.2⟩, HE2⟩
          case measure => simp [intOf]; omega
        refine AllReadyH.cons (o := _) rfl (fun K hK => ?_) AllReadyH.nil
        go_simp
        have H48 : Hid (TQ w (W35.alloc (.cells #[.int .i64 d.loss.lo] 3)) (w.heap.size + 1) vN vM vL N M L ∧ (W35.alloc (.cells #[.int .i64 d.loss.lo] 3)).heap[wr.heap.size]? = some (.cells #[.int .i64 d.need.lo, .int .i64 d.need.hi, .int .i64 d.make.lo, .int .i64 d.make.hi, .int .i64 d.loss.lo, .int .i64 d.loss.hi] 151 (0, 0)) ∧ (W35.alloc (.cells #[.int .i64 d.loss.lo] 3)).heap[w.heap.size]? = some (.cells #[.int .i64 stock, .int .i64 store, .slice (some ⟨b, off, none⟩) ds.length cap] 64 (0, 0))) := ⟨H35.out.1.below ((Below.refl _ _).alloc (Nat.le_refl _) _), alk H35.out.2.1, alk H35.out.2.2⟩
        have P481 := Lib.hid (P351.out.below ((Below.refl W35.heap.size W35).alloc (Nat.le_refl _) (.cells #[.int .i64 d.loss.lo] 3)))
        have P482 := Lib.hid (PD.make H35.out.1 d.loss.lo)
        refine hK.out _ _ H48.out.2.1 (fun _ => ?_)
        clear hK
        generalize (W35.alloc (.cells #[.int .i64 d.loss.lo] 3)) = W48 at H48 P481 P482 ⊢
        simp only [List.setIfInBounds_toArray, List.set_cons_zero, List.set_cons_succ]
        refine wpAnyH_ready (rs := [4]) (by kernel_rfl) (by simp) ?_
        refine AllReadyH.cons (o := _) rfl (fun K hK => ?_) AllReadyH.nil
        go_simp
        have H49 : Hid (TQ w (W48.alloc (.cells #[.int .i64 d.need.lo] 3)) (w.heap.size + 1) vN vM vL N M L ∧ (W48.alloc (.cells #[.int .i64 d.need.lo] 3)).heap[wr.heap.size]? = some (.cells #[.int .i64 d.need.lo, .int .i64 d.need.hi, .int .i64 d.make.lo, .int .i64 d.make.hi, .int .i64 d.loss.lo, .int .i64 d.loss.hi] 151 (0, 0)) ∧ (W48.alloc (.cells #[.int .i64 d.need.lo] 3)).heap[w.heap.size]? = some (.cells #[.int .i64 stock, .int .i64 store, .slice (some ⟨b, off, none⟩) ds.length cap] 64 (0, 0))) := ⟨H48.out.1.below ((Below.refl _ _).alloc (Nat.le_refl _) _), alk H48.out.2.1, alk H48.out.2.2⟩
        have P491 := Lib.hid (P481.out.below ((Below.refl W48.heap.size W48).alloc (Nat.le_refl _) (.cells #[.int .i64 d.need.lo] 3)))
        have P492 := Lib.hid (P482.out.below ((Below.refl W48.heap.size W48).alloc (Nat.le_refl _) (.cells #[.int .i64 d.need.lo] 3)))
        have P490 := Lib.hid (PD.make H48.out.1 d.need.lo)
        refine hK.out _ _ H49.out.2.1 (fun _ => ?_)
        clear hK
        generalize (W48.alloc (.cells #[.int .i64 d.need.lo] 3)) = W49 at H49 P491 P492 P490 ⊢
        simp only [List.setIfInBounds_toArray, List.set_cons_zero, List.set_cons_succ]
        refine wpAnyH_ready (rs := [5]) (by kernel_rfl) (by simp) ?_
        refine AllReadyH.cons (o := _) rfl (fun K hK => ?_) AllReadyH.nil
        refine step_append_lies _ rfl (.tmp 43) (.tmp 47) 27 rfl (w.heap.size + 1) 3 i0 (.int .i64 0) 1 8 Tryz.underlying27 hi hz0 hz1 hz2 rfl (by decide) vN N.length (N.map (Value.int .i64)) rfl H49.out.1.r.n ⟨W48.heap.size, 0, none⟩ 1 1 [.int .i64 d.need.lo] rfl rfl P490.out.cells (by intro u hu; simp at hu; subst hu; rfl) (by decide) (by unfold maxLen; omega) (by omega) H49.out.1.hz _ rfl ?_
        intro g50 c50 W50 hown hgrow hat _
        have H50 : Hid (TQ w W50 (w.heap.size + 1) (.slice (some ⟨g50, 0, none⟩) (N.length + 1) c50) vM vL (N ++ [d.need.lo]) M L ∧ W50.heap[wr.heap.size]? = some (.cells #[.int .i64 d.need.lo, .int .i64 d.need.hi, .int .i64 d.make.lo, .int .i64 d.make.hi, .int .i64 d.loss.lo, .int .i64 d.loss.hi] 151 (0, 0)) ∧ W50.heap[w.heap.size]? = some (.cells #[.int .i64 stock, .int .i64 store, .slice (some ⟨b, off, none⟩) ds.length cap] 64 (0, 0))) := ⟨(H49.out.1).push hown hgrow hat, (H49.out.1).keep (by decide) H49.out.2.1 hgrow, (H49.out.1).keep (by decide) H49.out.2.2 hgrow⟩
        have P501 := Lib.hid (PD.push (n := N.length + 1) (c := c50) (P491.out) hgrow hat)
        have P502 := Lib.hid (PD.push (n := N.length + 1) (c := c50) (P492.out) hgrow hat)
        clear hown hgrow hat
        refine hK.out _ _ H50.out.2.1 (fun _ => ?_)
        clear hK
        simp only [Act.put, List.setIfInBounds_toArray, List.set_cons_zero, List.set_cons_succ]
        refine wpAnyH_ready (rs := [11]) (by kernel_rfl) (by simp) ?_
        refine AllReadyH.cons (o := _) rfl (fun K hK => ?_) AllReadyH.nil
        refine step_append_lies _ rfl (.tmp 49) (.tmp 53) 27 rfl (w.heap.size + 1) 3 i0 (.int .i64 0) 1 8 Tryz.underlying27 hi hz0 hz1 hz2 rfl (by decide) vM M.length (M.map (Value.int .i64)) rfl H50.out.1.rot.r.n ⟨W0.heap.size, 0, none⟩ 1 1 [.int .i64 d.make.hi] rfl rfl P501.out.cells (by intro u hu; simp at hu; subst hu; rfl) (by decide) (by unfold maxLen; omega) (by omega) H50.out.1.hz _ rfl ?_
        intro g51 c51 W51 hown hgrow hat _
        have H51 : Hid (TQ w W51 (w.heap.size + 1) (.slice (some ⟨g51, 0, none⟩) (M.length + 1) c51) vL (.slice (some ⟨g50, 0, none⟩) (N.length + 1) c50) (M ++ [d.make.hi]) L (N ++ [d.need.lo]) ∧ W51.heap[wr.heap.size]? = some (.cells #[.int .i64 d.need.lo, .int .i64 d.need.hi, .int .i64 d.make.lo, .int .i64 d.make.hi, .int .i64 d.loss.lo, .int .i64 d.loss.hi] 151 (0, 0)) ∧ W51.heap[w.heap.size]? = some (.cells #[.int .i64 stock, .int .i64 store, .slice (some ⟨b, off, none⟩) ds.length cap] 64 (0, 0))) := ⟨(H50.out.1.rot).push hown hgrow hat, (H50.out.1.rot).keep (by decide) H50.out.2.1 hgrow, (H50.out.1.rot).keep (by decide) H50.out.2.2 hgrow⟩
        have P512 := Lib.hid (PD.push (n := M.length + 1) (c := c51) (P502.out.rot) hgrow hat)
        clear hown hgrow hat
        refine hK.out _ _ H51.out.2.1 (fun _ => ?_)
        clear hK
        simp only [Act.put, List.setIfInBounds_toArray, List.set_cons_zero, List.set_cons_succ]
        refine wpAnyH_ready (rs := [17]) (by kernel_rfl) (by simp) ?_
        refine AllReadyH.cons (o := _) rfl (fun K hK => ?_) AllReadyH.nil
        refine step_append_lies _ rfl (.tmp 55) (.tmp 59) 27 rfl (w.heap.size + 1) 3 i0 (.int .i64 0) 1 8 Tryz.underlying27 hi hz0 hz1 hz2 rfl (by decide) vL L.length (L.map (Value.int .i64)) rfl H51.out.1.rot.r.n ⟨W35.heap.size, 0, none⟩ 1 1 [.int .i64 d.loss.lo] rfl rfl P512.out.cells (by intro u hu; simp at hu; subst hu; rfl) (by decide) (by unfold maxLen; omega) (by omega) H51.out.1.hz _ rfl ?_
        intro g52 c52 W52 hown hgrow hat _
        have H52 : Hid (TQ w W52 (w.heap.size + 1) (.slice (some ⟨g52, 0, none⟩) (L.length + 1) c52) (.slice (some ⟨g50, 0, none⟩) (N.length + 1) c50) (.slice (some ⟨g51, 0, none⟩) (M.length + 1) c51) (L ++ [d.loss.lo]) (N ++ [d.need.lo]) (M ++ [d.make.hi]) ∧ W52.heap[wr.heap.size]? = some (.cells #[.int .i64 d.need.lo, .int .i64 d.need.hi, .int .i64 d.make.lo, .int .i64 d.make.hi, .int .i64 d.loss.lo, .int .i64 d.loss.hi] 151 (0, 0)) ∧ W52.heap[w.heap.size]? = some (.cells #[.int .i64 stock, .int .i64 store, .slice (some ⟨b, off, none⟩) ds.length cap] 64 (0, 0))) := ⟨(H51.out.1.rot).push hown hgrow hat, (H51.out.1.rot).keep (by decide) H51.out.2.1 hgrow, (H51.out.1.rot).keep (by decide) H51.out.2.2 hgrow⟩
        clear hown hgrow hat
        refine hK.out _ _ H52.out.2.1 (fun _ => ?_)
        clear hK
        simp only [Act.put, List.setIfInBounds_toArray, List.set_cons_zero, List.set_cons_succ]
        refine wpAnyH_done (by kernel_rfl) ?_ _
        show wpList _ _ _ (opsAt _ [18, 19, 20]) _ _
        simp only [opsAt, List.filterMap_cons, List.filterMap_nil, List.getElem?_toArray, List.getElem?_cons_succ, List.getElem?_cons_zero]
        have HZ := H52.out.1.rot
        go_wp2_with (fail)
        go_roundw
        case rel => exact ⟨j + 1, _, _, _, _, _, _, rfl, rfl, rfl, by go_num, by omega, ⟨HZ, H52.out.2.2⟩, HE2⟩
        case measure => simp [intOf]; omega
      refine AllReadyH.cons (o := _) rfl (fun K hK => ?_) AllReadyH.nil
      go_simp
      have H53 : Hid (TQ w (W0.alloc (.cells #[.int .i64 d.loss.lo] 3)) (w.heap.size + 1) vN vM vL N M L ∧ (W0.alloc (.cells #[.int .i64 d.loss.lo] 3)).heap[wr.heap.size]? = some (.cells #[.int .i64 d.need.lo, .int .i64 d.need.hi, .int .i64 d.make.lo, .int .i64 d.make.hi, .int .i64 d.loss.lo, .int .i64 d.loss.hi] 151 (0, 0)) ∧ (W0.alloc (.cells #[.int .i64 d.loss.lo] 3)).heap[w.heap.size]? = some (.cells #[.int .i64 stock, .int .i64 store, .slice (some ⟨b, off, none⟩) ds.length cap] 64 (0, 0))) := ⟨H0.out.1.below ((Below.refl _ _).alloc (Nat.le_refl _) _), alk H0.out.2.1, alk H0.out.2.2⟩
      have P532 := Lib.hid (PD.make H0.out.1 d.loss.lo)
      refine hK.out _ _ H53.out.2.1 (fun _ => ?_)
      clear hK
      generalize (W0.alloc (.cells #[.int .i64 d.loss.lo] 3)) = W53 at H53 P532 ⊢
      simp only [List.setIfInBounds_toArray, List.set_cons_zero, List.set_cons_succ]
      refine wpAnyH_ready (rs := [4, 10]) (by kernel_rfl) (by simp) ?_
      refine AllReadyH.cons (o := _) rfl (fun K hK => ?_) ?_
      · go_simp
        have H54 : Hid (TQ w (W53.alloc (.cells #[.int .i64 d.need.lo] 3)) (w.heap.size + 1) vN vM vL N M L ∧ (W53.alloc (.cells #[.int .i64 d.need.lo] 3)).heap[wr.heap.size]? = some (.cells #[.int .i64 d.need.lo, .int .i64 d.need.hi, .int .i64 d.make.lo, .int .i64 d.make.hi, .int .i64 d.loss.lo, .int .i64 d.loss.hi] 151 (0, 0)) ∧ (W53.alloc (.cells #[.int .i64 d.need.lo] 3)).heap[w.heap.size]? = some (.cells #[.int .i64 stock, .int .i64 store, .slice (some ⟨b, off, none⟩) ds.length cap] 64 (0, 0))) := ⟨H53.out.1.below ((Below.refl _ _).alloc (Nat.le_refl _) _), alk H53.out.2.1, alk H53.out.2.2⟩
        have P542 := Lib.hid (P532.out.below ((Below.refl W53.heap.size W53).alloc (Nat.le_refl _) (.cells #[.int .i64 d.need.lo] 3)))
        have P540 := Lib.hid (PD.make H53.out.1 d.need.lo)
        refine hK.out _ _ H54.out.2.1 (fun _ => ?_)
        clear hK
        generalize (W53.alloc (.cells #[.int .i64 d.need.lo] 3)) = W54 at H54 P542 P540 ⊢
        simp only [List.setIfInBounds_toArray, List.set_cons_zero, List.set_cons_succ]
        refine wpAnyH_ready (rs := [5, 10]) (by kernel_rfl) (by simp) ?_
        refine AllReadyH.cons (o := _) rfl (fun K hK => ?_) ?_
        · refine step_append_lies _ rfl (.tmp 43) (.tmp 47) 27 rfl (w.heap.size + 1) 3 i0 (.int .i64 0) 1 8 Tryz.underlying27 hi hz0 hz1 hz2 rfl (by decide) vN N.length (N.map (Value.int .i64)) rfl H54.out.1.r.n ⟨W53.heap.size, 0, none⟩ 1 1 [.int .i64 d.need.lo] rfl rfl P540.out.cells (by intro u hu; simp at hu; subst hu; rfl) (by decide) (by unfold maxLen; omega) (by omega) H54.out.1.hz _ rfl ?_
          intro g55 c55 W55 hown hgrow hat _
          have H55 : Hid (TQ w W55 (w.heap.size + 1) (.slice (some ⟨g55, 0, none⟩) (N.length + 1) c55) vM vL (N ++ [d.need.lo]) M L ∧ W55.heap[wr.heap.size]? = some (.cells #[.int .i64 d.need.lo, .int .i64 d.need.hi, .int .i64 d.make.lo, .int .i64 d.make.hi, .int .i64 d.loss.lo, .int .i64 d.loss.hi] 151 (0, 0)) ∧ W55.heap[w.heap.size]? = some (.cells #[.int .i64 stock, .int .i64 store, .slice (some ⟨b, off, none⟩) ds.length cap] 64 (0, 0))) := ⟨(H54.out.1).push hown hgrow hat, (H54.out.1).keep (by decide) H54.out.2.1 hgrow, (H54.out.1).keep (by decide) H54.out.2.2 hgrow⟩
          have P552 := Lib.hid (PD.push (n := N.length + 1) (c := c55) (P542.out) hgrow hat)
          clear hown hgrow hat
          refine hK.out _ _ H55.out.2.1 (fun _ => ?_)
          clear hK
          simp only [Act.put, List.setIfInBounds_toArray, List.set_cons_zero, List.set_cons_succ]
          refine wpAnyH_ready (rs := [10]) (by kernel_rfl) (by simp) ?_
          refine AllReadyH.cons (o := _) rfl (fun K hK => ?_) AllReadyH.nil
          go_simp
          have H56 : Hid (TQ w (W55.alloc (.cells #[.int .i64 d.make.hi] 3)) (w.heap.size + 1) (.slice (some ⟨g55, 0, none⟩) (N.length + 1) c55) vM vL (N ++ [d.need.lo]) M L ∧ (W55.alloc (.cells #[.int .i64 d.make.hi] 3)).heap[wr.heap.size]? = some (.cells #[.int .i64 d.need.lo, .int .i64 d.need.hi, .int .i64 d.make.lo, .int .i64 d.make.hi, .int .i64 d.loss.lo, .int .i64 d.loss.hi] 151 (0, 0)) ∧ (W55.alloc (.cells #[.int .i64 d.make.hi] 3)).heap[w.heap.size]? = some (.cells #[.int .i64 stock, .int .i64 store, .slice (some ⟨b, off, none⟩) ds.length cap] 64 (0, 0))) := ⟨H55.out.1.below ((Below.refl _ _).alloc (Nat.le_refl _) _), alk H55.out.2.1, alk H55.out.2.2⟩
          have P562 := Lib.hid (P552.out.below ((Below.refl W55.heap.size W55).alloc (Nat.le_refl _) (.cells #[.int .i64 d.make.hi] 3)))
          have P561 := Lib.hid (PD.make H55.out.1 d.make.hi)
          refine hK.out _ _ H56.out.2.1 (fun _ => ?_)
          clear hK
          generalize (W55.alloc (.cells #[.int .i64 d.make.hi] 3)) = W56 at H56 P562 P561 ⊢
          simp only [List.setIfInBounds_toArray, List.set_cons_zero, List.set_cons_succ]
          refine wpAnyH_ready (rs := [11]) (by kernel_rfl) (by simp) ?_
          refine AllReadyH.cons (o := _) rfl (fun K hK => ?_) AllReadyH.nil
          refine step_append_lies _ rfl (.tmp 49) (.tmp 53) 27 rfl (w.heap.size + 1) 3 i0 (.int .i64 0) 1 8 Tryz.underlying27 hi hz0 hz1 hz2 rfl (by decide) vM M.length (M.map (Value.int .i64)) rfl H56.out.1.rot.r.n ⟨W55.heap.size, 0, none⟩ 1 1 [.int .i64 d.make.hi] rfl rfl P561.out.cells (by intro u hu; simp at hu; subst hu; rfl) (by decide) (by unfold maxLen; omega) (by omega) H56.out.1.hz _ rfl ?_
          intro g57 c57 W57 hown hgrow hat _
          have H57 : Hid (TQ w W57 (w.heap.size + 1) (.slice (some ⟨g57, 0, none⟩) (M.length + 1) c57) vL (.slice (some ⟨g55, 0, none⟩) (N.length + 1) c55) (M ++ [d.make.hi]) L (N ++ [d.need.lo]) ∧ W57.heap[wr.heap.size]? = some (.cells #[.int .i64 d.need.lo, .int .i64 d.need.hi, .int .i64 d.make.lo, .int .i64 d.make.hi, .int .i64 d.loss.lo, .int .i64 d.loss.hi] 151 (0, 0)) ∧ W57.heap[w.heap.size]? = some (.cells #[.int .i64 stock, .int .i64 store, .slice (some ⟨b, off, none⟩) ds.length cap] 64 (0, 0))) := ⟨(H56.out.1.rot).push hown hgrow hat, (H56.out.1.rot).keep (by decide) H56.out.2.1 hgrow, (H56.out.1.rot).keep (by decide) H56.out.2.2 hgrow⟩
          have P572 := Lib.hid (PD.push (n := M.length + 1) (c := c57) (P562.out.rot) hgrow hat)
          clear hown hgrow hat
          refine hK.out _ _ H57.out.2.1 (fun _ => ?_)
          clear hK
          simp only [Act.put, List.setIfInBounds_toArray, List.set_cons_zero, List.set_cons_succ]
          refine wpAnyH_ready (rs := [17]) (by kernel_rfl) (by simp) ?_
          refine AllReadyH.cons (o := _) rfl (fun K hK => ?_) AllReadyH.nil
          refine step_append_lies _ rfl (.tmp 55) (.tmp 59) 27 rfl (w.heap.size + 1) 3 i0 (.int .i64 0) 1 8 Tryz.underlying27 hi hz0 hz1 hz2 rfl (by decide) vL L.length (L.map (Value.int .i64)) rfl H57.out.1.rot.r.n ⟨W0.heap.size, 0, none⟩ 1 1 [.int .i64 d.loss.lo] rfl rfl P572.out.cells (by intro u hu; simp at hu; subst hu; rfl) (by decide) (by unfold maxLen; omega) (by omega) H57.out.1.hz _ rfl ?_
          intro g58 c58 W58 hown hgrow hat _
          have H58 : Hid (TQ w W58 (w.heap.size + 1) (.slice (some ⟨g58, 0, none⟩) (L.length + 1) c58) (.slice (some ⟨g55, 0, none⟩) (N.length + 1) c55) (.slice (some ⟨g57, 0, none⟩) (M.length + 1) c57) (L ++ [d.loss.lo]) (N ++ [d.need.lo]) (M ++ [d.make.hi]) ∧ W58.heap[wr.heap.size]? = some (.cells #[.int .i64 d.need.lo, .int .i64 d.need.hi, .int .i64 d.make.lo, .int .i64 d.make.hi, .int .i64 d.loss.lo, .int .i64 d.loss.hi] 151 (0, 0)) ∧ W58.heap[w.heap.size]? = some (.cells #[.int .i64 stock, .int .i64 store, .slice (some ⟨b, off, none⟩) ds.length cap] 64 (0, 0))) := ⟨(H57.out.1.rot).push hown hgrow hat, (H57.out.1.rot).keep (by decide) H57.out.2.1 hgrow, (H57.out.1.rot).keep (by decide) H57.out.2.2 hgrow⟩
          clear hown hgrow hat
          refine hK.out _ _ H58.out.2.1 (fun _ => ?_)
          clear hK
          simp only [Act.put, List.setIfInBounds_toArray, List.set_cons_zero, List.set_cons_succ]
          refine wpAnyH_done (by kernel_rfl) ?_ _
          show wpList _ _ _ (opsAt _ [18, 19, 20]) _ _
          simp only [opsAt, List.filterMap_cons, List.filterMap_nil, List.getElem?_toArray, List.getElem?_cons_succ, List.getElem?_cons_zero]
          have HZ := H58.out.1.rot
          go_wp2_with (fail)
          go_roundw
          case rel => exact ⟨j + 1, _, _, _, _, _, _, rfl, rfl, rfl, by go_num, by omega, ⟨HZ, H58.out.2.2⟩, HE2⟩
          case measure => simp [intOf]; omega
        refine AllReadyH.cons (o := _) rfl (fun K hK => ?_) AllReadyH.nil
        go_simp
        have H59 : Hid (TQ w (W54.alloc (.cells #[.int .i64 d.make.hi] 3)) (w.heap.size + 1) vN vM vL N M L ∧ (W54.alloc (.cells #[.int .i64 d.make.hi] 3)).heap[wr.heap.size]? = some (.cells #[.int .i64 d.need.lo, .int .i64 d.need.hi, .int .i64 d.make.lo, .int .i64 d.make.hi, .int .i64 d.loss.lo, .int .i64 d.loss.hi] 151 (0, 0)) ∧ (W54.alloc (.cells #[.int .i64 d.make.hi] 3)).heap[w.heap.size]? = some (.cells #[.int .i64 stock, .int .i64 store, .slice (some ⟨b, off, none⟩) ds.length cap] 64 (0, 0))) := ⟨H54.out.1.below ((Below.refl _ _).alloc (Nat.le_refl _) _), alk H54.out.2.1, alk H54.out.2.2⟩
        have P592 := Lib.hid (P542.out.below ((Below.refl W54.heap.size W54).alloc (Nat.le_refl _) (.cells #[.int .i64 d.make.hi] 3)))
        have P590 := Lib.hid (P540.out.below ((Below.refl W54.heap.size W54).alloc (Nat.le_refl _) (.cells #[.int .i64 d.make.hi] 3)))
        have P591 := Lib.hid (PD.make H54.out.1 d.make.hi)
        refine hK.out _ _ H59.out.2.1 (fun _ => ?_)
        clear hK
        generalize (W54.alloc (.cells #[.int .i64 d.make.hi] 3)) = W59 at H59 P592 P590 P591 ⊢
        simp only [List.setIfInBounds_toArray, List.set_cons_zero, List.set_cons_succ]
        refine wpAnyH_ready (rs := [5]) (by kernel_rfl) (by simp) ?_
        refine AllReadyH.cons (o := _) rfl (fun K hK => ?_) AllReadyH.nil
        refine step_append_lies _ rfl (.tmp 43) (.tmp 47) 27 rfl (w.heap.size + 1) 3 i0 (.int .i64 0) 1 8 Tryz.underlying27 hi hz0 hz1 hz2 rfl (by decide) vN N.length (N.map (Value.int .i64)) rfl H59.out.1.r.n ⟨W53.heap.size, 0, none⟩ 1 1 [.int .i64 d.need.lo] rfl rfl P590.out.cells (by intro u hu; simp at hu; subst hu; rfl) (by decide) (by unfold maxLen; omega) (by omega) H59.out.1.hz _ rfl ?_
        intro g60 c60 W60 hown hgrow hat _
        have H60 : Hid (TQ w W60 (w.heap.size + 1) (.slice (some ⟨g60, 0, none⟩) (N.length + 1) c60) vM vL (N ++ [d.need.lo]) M L ∧ W60.heap[wr.heap.size]? = some (.cells #[.int .i64 d.need.lo, .int .i64 d.need.hi, .int .i64 d.make.lo, .int .i64 d.make.hi, .int .i64 d.loss.lo, .int .i64 d.loss.hi] 151 (0, 0)) ∧ W60.heap[w.heap.size]? = some (.cells #[.int .i64 stock, .int .i64 store, .slice (some ⟨b, off, none⟩) ds.length cap] 64 (0, 0))) := ⟨(H59.out.1).push hown hgrow hat, (H59.out.1).keep (by decide) H59.out.2.1 hgrow, (H59.out.1).keep (by decide) H59.out.2.2 hgrow⟩
        have P602 := Lib.hid (PD.push (n := N.length + 1) (c := c60) (P592.out) hgrow hat)
        have P601 := Lib.hid (PD.push (n := N.length + 1) (c := c60) (P591.out) hgrow hat)
        clear hown hgrow hat
        refine hK.out _ _ H60.out.2.1 (fun _ => ?_)
        clear hK
        simp only [Act.put, List.setIfInBounds_toArray, List.set_cons_zero, List.set_cons_succ]
        refine wpAnyH_ready (rs := [11]) (by kernel_rfl) (by simp) ?_
        refine AllReadyH.cons (o := _) rfl (fun K hK => ?_) AllReadyH.nil
        refine step_append_lies _ rfl (.tmp 49) (.tmp 53) 27 rfl (w.heap.size + 1) 3 i0 (.int .i64 0) 1 8 Tryz.underlying27 hi hz0 hz1 hz2 rfl (by decide) vM M.length (M.map (Value.int .i64)) rfl H60.out.1.rot.r.n ⟨W54.heap.size, 0, none⟩ 1 1 [.int .i64 d.make.hi] rfl rfl P601.out.cells (by intro u hu; simp at hu; subst hu; rfl) (by decide) (by unfold maxLen; omega) (by omega) H60.out.1.hz _ rfl ?_
        intro g61 c61 W61 hown hgrow hat _
        have H61 : Hid (TQ w W61 (w.heap.size + 1) (.slice (some ⟨g61, 0, none⟩) (M.length + 1) c61) vL (.slice (some ⟨g60, 0, none⟩) (N.length + 1) c60) (M ++ [d.make.hi]) L (N ++ [d.need.lo]) ∧ W61.heap[wr.heap.size]? = some (.cells #[.int .i64 d.need.lo, .int .i64 d.need.hi, .int .i64 d.make.lo, .int .i64 d.make.hi, .int .i64 d.loss.lo, .int .i64 d.loss.hi] 151 (0, 0)) ∧ W61.heap[w.heap.size]? = some (.cells #[.int .i64 stock, .int .i64 store, .slice (some ⟨b, off, none⟩) ds.length cap] 64 (0, 0))) := ⟨(H60.out.1.rot).push hown hgrow hat, (H60.out.1.rot).keep (by decide) H60.out.2.1 hgrow, (H60.out.1.rot).keep (by decide) H60.out.2.2 hgrow⟩
        have P612 := Lib.hid (PD.push (n := M.length + 1) (c := c61) (P602.out.rot) hgrow hat)
        clear hown hgrow hat
        refine hK.out _ _ H61.out.2.1 (fun _ => ?_)
        clear hK
        simp only [Act.put, List.setIfInBounds_toArray, List.set_cons_zero, List.set_cons_succ]
        refine wpAnyH_ready (rs := [17]) (by kernel_rfl) (by simp) ?_
        refine AllReadyH.cons (o := _) rfl (fun K hK => ?_) AllReadyH.nil
        refine step_append_lies _ rfl (.tmp 55) (.tmp 59) 27 rfl (w.heap.size + 1) 3 i0 (.int .i64 0) 1 8 Tryz.underlying27 hi hz0 hz1 hz2 rfl (by decide) vL L.length (L.map (Value.int .i64)) rfl H61.out.1.rot.r.n ⟨W0.heap.size, 0, none⟩ 1 1 [.int .i64 d.loss.lo] rfl rfl P612.out.cells (by intro u hu; simp at hu; subst hu; rfl) (by decide) (by unfold maxLen; omega) (by omega) H61.out.1.hz _ rfl ?_
        intro g62 c62 W62 hown hgrow hat _
        have H62 : Hid (TQ w W62 (w.heap.size + 1) (.slice (some ⟨g62, 0, none⟩) (L.length + 1) c62) (.slice (some ⟨g60, 0, none⟩) (N.length + 1) c60) (.slice (some ⟨g61, 0, none⟩) (M.length + 1) c61) (L ++ [d.loss.lo]) (N ++ [d.need.lo]) (M ++ [d.make.hi]) ∧ W62.heap[wr.heap.size]? = some (.cells #[.int .i64 d.need.lo, .int .i64 d.need.hi, .int .i64 d.make.lo, .int .i64 d.make.hi, .int .i64 d.loss.lo, .int .i64 d.loss.hi] 151 (0, 0)) ∧ W62.heap[w.heap.size]? = some (.cells #[.int .i64 stock, .int .i64 store, .slice (some ⟨b, off, none⟩) ds.length cap] 64 (0, 0))) := ⟨(H61.out.1.rot).push hown hgrow hat, (H61.out.1.rot).keep (by decide) H61.out.2.1 hgrow, (H61.out.1.rot).keep (by decide) H61.out.2.2 hgrow⟩
        clear hown hgrow hat
        refine hK.out _ _ H62.out.2.1 (fun _ => ?_)
        clear hK
        simp only [Act.put, List.setIfInBounds_toArray, List.set_cons_zero, List.set_cons_succ]
        refine wpAnyH_done (by kernel_rfl) ?_ _
        show wpList _ _ _ (opsAt _ [18, 19, 20]) _ _
        simp only [opsAt, List.filterMap_cons, List.filterMap_nil, List.getElem?_toArray, List.getElem?_cons_succ, List.getElem?_cons_zero]
        have HZ := H62.out.1.rot
        go_wp2_with (fail)
        go_roundw
        case rel => exact ⟨j + 1, _, _, _, _, _, _, rfl, rfl, rfl, by go_num, by omega, ⟨HZ, H62.out.2.2⟩, HE2⟩
        case measure => simp [intOf]; omega
      refine AllReadyH.cons (o := _) rfl (fun K hK => ?_) AllReadyH.nil
      go_simp
      have H63 : Hid (TQ w (W53.alloc (.cells #[.int .i64 d.make.hi] 3)) (w.heap.size + 1) vN vM vL N M L ∧ (W53.alloc (.cells #[.int .i64 d.make.hi] 3)).heap[wr.heap.size]? = some (.cells #[.int .i64 d.need.lo, .int .i64 d.need.hi, .int .i64 d.make.lo, .int .i64 d.make.hi, .int .i64 d.loss.lo, .int .i64 d.loss.hi] 151 (0, 0)) ∧ (W53.alloc (.cells #[.int .i64 d.make.hi] 3)).heap[w.heap.size]? = some (.cells #[.int .i64 stock, .int .i64 store, .slice (some ⟨b, off, none⟩) ds.length cap] 64 (0, 0))) := ⟨H53.out.1.below ((Below.refl _ _).alloc (Nat.le_refl _) _), alk H53.out.2.1, alk H53.out.2.2⟩
      have P632 := Lib.hid (P532.out.below ((Below.refl W53.heap.size W53).alloc (Nat.le_refl _) (.cells #[.int .i64 d.make.hi] 3)))
      have P631 := Lib.hid (PD.make H53.out.1 d.make.hi)
      refine hK.out _ _ H63.out.2.1 (fun _ => ?_)
      clear hK
      generalize (W53.alloc (.cells #[.int .i64 d.make.hi] 3)) = W63 at H63 P632 P631 ⊢
      simp only [List.setIfInBounds_toArray, List.set_cons_zero, List.set_cons_succ]
      refine wpAnyH_ready (rs := [4]) (by kernel_rfl) (by simp) ?_
      refine AllReadyH.cons (o := _) rfl (fun K hK => ?_) AllReadyH.nil
      go_simp
      have H64 : Hid (TQ w (W63.alloc (.cells #[.int .i64 d.need.lo] 3)) (w.heap.size + 1) vN vM vL N M L ∧ (W63.alloc (.cells #[.int .i64 d.need.lo] 3)).heap[wr.heap.size]? = some (.cells #[.int .i64 d.need.lo, .int .i64 d.need.hi, .int .i64 d.make.lo, .int .i64 d.make.hi, .int .i64 d.loss.lo, .int .i64 d.loss.hi] 151 (0, 0)) ∧ (W63.alloc (.cells #[.int .i64 d.need.lo] 3)).heap[w.heap.size]? = some (.cells #[.int .i64 stock, .int .i64 store, .slice (some ⟨b, off, none⟩) ds.length cap] 64 (0, 0))) := ⟨H63.out.1.below ((Below.refl _ _).alloc (Nat.le_refl _) _), alk H63.out.2.1, alk H63.out.2.2⟩
      have P642 := Lib.hid (P632.out.below ((Below.refl W63.heap.size W63).alloc (Nat.le_refl _) (.cells #[.int .i64 d.need.lo] 3)))
      have P641 := Lib.hid (P631.out.below ((Below.refl W63.heap.size W63).alloc (Nat.le_refl _) (.cells #[.int .i64 d.need.lo] 3)))
      have P640 := Lib.hid (PD.make H63.out.1 d.need.lo)
      refine hK.out _ _ H64.out.2.1 (fun _ => ?_)
      clear hK
      generalize (W63.alloc (.cells #[.int .i64 d.need.lo] 3)) = W64 at H64 P642 P641 P640 ⊢
      simp only [List.setIfInBounds_toArray, List.set_cons_zero, List.set_cons_succ]
      refine wpAnyH_ready (rs := [5]) (by kernel_rfl) (by simp) ?_
      refine AllReadyH.cons (o := _) rfl (fun K hK => ?_) AllReadyH.nil
      refine step_append_lies _ rfl (.tmp 43) (.tmp 47) 27 rfl (w.heap.size + 1) 3 i0 (.int .i64 0) 1 8 Tryz.underlying27 hi hz0 hz1 hz2 rfl (by decide) vN N.length (N.map (Value.int .i64)) rfl H64.out.1.r.n ⟨W63.heap.size, 0, none⟩ 1 1 [.int .i64 d.need.lo] rfl rfl P640.out.cells (by intro u hu; simp at hu; subst hu; rfl) (by decide) (by unfold maxLen; omega) (by omega) H64.out.1.hz _ rfl ?_
      intro g65 c65 W65 hown hgrow hat _
      have H65 : Hid (TQ w W65 (w.heap.size + 1) (.slice (some ⟨g65, 0, none⟩) (N.length + 1) c65) vM vL (N ++ [d.need.lo]) M L ∧ W65.heap[wr.heap.size]? = some (.cells #[.int .i64 d.need.lo, .int .i64 d.need.hi, .int .i64 d.make.lo, .int .i64 d.make.hi, .int .i64 d.loss.lo, .int .i64 d.loss.hi] 151 (0, 0)) ∧ W65.heap[w.heap.size]? = some (.cells #[.int .i64 stock, .int .i64 store, .slice (some ⟨b, off, none⟩) ds.length cap] 64 (0, 0))) := ⟨(H64.out.1).push hown hgrow hat, (H64.out.1).keep (by decide) H64.out.2.1 hgrow, (H64.out.1).keep (by decide) H64.out.2.2 hgrow⟩
      have P652 := Lib.hid (PD.push (n := N.length + 1) (c := c65) (P642.out) hgrow hat)
      have P651 := Lib.hid (PD.push (n := N.length + 1) (c := c65) (P641.out) hgrow hat)
      clear hown hgrow hat
      refine hK.out _ _ H65.out.2.1 (fun _ => ?_)
      clear hK
      simp only [Act.put, List.setIfInBounds_toArray, List.set_cons_zero, List.set_cons_succ]
      refine wpAnyH_ready (rs := [11]) (by kernel_rfl) (by simp) ?_
      refine AllReadyH.cons (o := _) rfl (fun K hK => ?_) AllReadyH.nil
      refine step_append_lies _ rfl (.tmp 49) (.tmp 53) 27 rfl (w.heap.size + 1) 3 i0 (.int .i64 0) 1 8 Tryz.underlying27 hi hz0 hz1 hz2 rfl (by decide) vM M.length (M.map (Value.int .i64)) rfl H65.out.1.rot.r.n ⟨W53.heap.size, 0, none⟩ 1 1 [.int .i64 d.make.hi] rfl rfl P651.out.cells (by intro u hu; simp at hu; subst hu; rfl) (by decide) (by unfold maxLen; omega) (by omega) H65.out.1.hz _ rfl ?_
      intro g66 c66 W66 hown hgrow hat _
      have H66 : Hid (TQ w W66 (w.heap.size + 1) (.slice (some ⟨g66, 0, none⟩) (M.length + 1) c66) vL (.slice (some ⟨g65, 0, none⟩) (N.length + 1) c65) (M ++ [d.make.hi]) L (N ++ [d.need.lo]) ∧ W66.heap[wr.heap.size]? = some (.cells #[.int .i64 d.need.lo, .int .i64 d.need.hi, .int .i64 d.make.lo, .int .i64 d.make.hi, .int .i64 d.loss.lo, .int .i64 d.loss.hi] 151 (0, 0)) ∧ W66.heap[w.heap.size]? = some (.cells #[.int .i64 stock, .int .i64 store, .slice (some ⟨b, off, none⟩) ds.length cap] 64 (0, 0))) := ⟨(H65.out.1.rot).push hown hgrow hat, (H65.out.1.rot).keep (by decide) H65.out.2.1 hgrow, (H65.out.1.rot).keep (by decide) H65.out.2.2 hgrow⟩
      have P662 := Lib.hid (PD.push (n := M.length + 1) (c := c66) (P652.out.rot) hgrow hat)
      clear hown hgrow hat
      refine hK.out _ _ H66.out.2.1 (fun _ => ?_)
      clear hK
      simp only [Act.put, List.setIfInBounds_toArray, List.set_cons_zero, List.set_cons_succ]
      refine wpAnyH_ready (rs := [17]) (by kernel_rfl) (by simp) ?_
      refine AllReadyH.cons (o := _) rfl (fun K hK => ?_) AllReadyH.nil
      refine step_append_lies _ rfl (.tmp 55) (.tmp 59) 27 rfl (w.heap.size + 1) 3 i0 (.int .i64 0) 1 8 Tryz.underlying27 hi hz0 hz1 hz2 rfl (by decide) vL L.length (L.map (Value.int .i64)) rfl H66.out.1.rot.r.n ⟨W0.heap.size, 0, none⟩ 1 1 [.int .i64 d.loss.lo] rfl rfl P662.out.cells (by intro u hu; simp at hu; subst hu; rfl) (by decide) (by unfold maxLen; omega) (by omega) H66.out.1.hz _ rfl ?_
      intro g67 c67 W67 hown hgrow hat _
      have H67 : Hid (TQ w W67 (w.heap.size + 1) (.slice (some ⟨g67, 0, none⟩) (L.length + 1) c67) (.slice (some ⟨g65, 0, none⟩) (N.length + 1) c65) (.slice (some ⟨g66, 0, none⟩) (M.length + 1) c66) (L ++ [d.loss.lo]) (N ++ [d.need.lo]) (M ++ [d.make.hi]) ∧ W67.heap[wr.heap.size]? = some (.cells #[.int .i64 d.need.lo, .int .i64 d.need.hi, .int .i64 d.make.lo, .int .i64 d.make.hi, .int .i64 d.loss.lo, .int .i64 d.loss.hi] 151 (0, 0)) ∧ W67.heap[w.heap.size]? = some (.cells #[.int .i64 stock, .int .i64 store, .slice (some ⟨b, off, none⟩) ds.length cap] 64 (0, 0))) := ⟨(H66.out.1.rot).push hown hgrow hat, (H66.out.1.rot).keep (by decide) H66.out.2.1 hgrow, (H66.out.1.rot).keep (by decide) H66.out.2.2 hgrow⟩
      clear hown hgrow hat
      refine hK.out _ _ H67.out.2.1 (fun _ => ?_)
      clear hK
      simp only [Act.put, List.setIfInBounds_toArray, List.set_cons_zero, List.set_cons_succ]
      refine wpAnyH_done (by kernel_rfl) ?_ _
      show wpList _ _ _ (opsAt _ [18, 19, 20]) _ _
      simp only [opsAt, List.filterMap_cons, List.filterMap_nil, List.getElem?_toArray, List.getElem?_cons_succ, List.getElem?_cons_zero]
      have HZ := H67.out.1.rot
      go_wp2_with (fail)
      go_roundw
      case rel => exact ⟨j + 1, _, _, _, _, _, _, rfl, rfl, rfl, by go_num, by omega, ⟨HZ, H67.out.2.2⟩, HE2⟩
      case measure => simp [intOf]; omega
    · have hjl : j = ds.length := by omega
      subst hjl
      clear hlt
      obtain ⟨e1, e2, e3⟩ := hE.out
      rw [List.take_length] at e1 e2 e3
      subst e1 e2 e3
      obtain ⟨an, cn, eN, iN, fN⟩ := ints_of_owns hR.out.1.r.n
      obtain ⟨am, cm, eM, iM, fM⟩ := ints_of_owns hR.out.1.r.m
      obtain ⟨al, cl, eL, iL, fL⟩ := ints_of_owns hR.out.1.r.l
      subst eN eM eL
      have HO := Lib.hid (And.intro iN (And.intro iM iL))
      clear iN iM iL fN fM fL
      go_wp2_with (fail)
      go_ret3
      exact ⟨an, cn, am, cm, al, cl, rfl, HO.out.1, HO.out.2.1, HO.out.2.2, hR.out.1.b⟩

end Go.Proofs.YtmebmcipmemofaaGreat
