/-
The contract of the reference's Cheapest over this seat's program.
  What is proved: it answers what the program's own Cheapest answers; nothing that was there before has turned.
  Conditions: slices of at most 1000000 elements.
The contract of CourseSnow over this seat's program.
  What is proved: it answers true; nothing that was there before has turned.
  Conditions: lists that read as such.
What CourseSpread's walk needs: lists that are cloned, added to and sorted, a list that is compared by a function of its own, and the cheapest course with where it lies.
  Conditions: short lists.
What CourseSpread asks, of lists: areas of courses together, and what a volume covers.
  No program is named here. Conditions: stadiums and rules that Check passes, of few loops and laps.
-/
import Derived.Test.YtgldfnkjfgcjpaaGreatPart18
namespace Go.Proofs.YtgldfnkjfgcjpaaGreat
open Go.RowKit Go.Shelf
attribute [local go_sem] Oper.semAt_some

/-- What comes of the best course. -/
def cheapM (st : Option (List Int × Int)) : List Int × Int × Int := match st with | none => ([], 0, 6) | some (b, m) => (b, m, 0)
theorem bestOf_take (xs : List Lp) (depth : Int) (S : List (List Int)) (k : Nat) (hk : k < S.length) : bestOf xs depth (S.take (k + 1)) = bestStep xs depth (bestOf xs depth (S.take k)) S[k] := by
  rw [List.take_add_one, List.getElem?_eq_getElem hk, Option.toList_some, bestOf_snoc]

set_option maxHeartbeats 4000000 in
set_option maxRecDepth 100000 in
theorem refCheapest_any (a : Option Addr) (xs : List Lp) (cap : Nat) (r : Ru) (depth : Int) (w : World) (hx : Sl 3 Lp.cells w a xs) (hl : xs.length ≤ 1000000) :
    Calls Tryz.prog 22 #[.slice a xs.length cap, r.v, .int .i64 depth] w (OutC3 w (cheapR xs r depth)) := by
  have hB0 : Below w.heap.size w (w.alloc (.cells #[.int .i64 r.laps, .int .i64 r.len.lo, .int .i64 r.len.hi, .int .i64 r.climb.lo, .int .i64 r.climb.hi, .int .i64 r.lap.lo, .int .i64 r.lap.hi, .int .i64 r.wide, .int .i64 r.uses] 36)) := (Below.refl _ _).alloc (Nat.le_refl _) _
  have hR0 : RB38 (w.alloc (.cells #[.int .i64 r.laps, .int .i64 r.len.lo, .int .i64 r.len.hi, .int .i64 r.climb.lo, .int .i64 r.climb.hi, .int .i64 r.lap.lo, .int .i64 r.lap.hi, .int .i64 r.wide, .int .i64 r.uses] 36)) w.heap.size r := heap_alloc_new _ _
  have HX := Lib.hid hx
  clear hx
  go_enter Tryz.func22, Tryz.ntmps22
  go_wp2_with (fail)
  have HXA := Lib.hid (HX.out.below hB0)
  generalize w.alloc (.cells #[.int .i64 r.laps, .int .i64 r.len.lo, .int .i64 r.len.hi, .int .i64 r.climb.lo, .int .i64 r.climb.hi, .int .i64 r.lap.lo, .int .i64 r.lap.hi, .int .i64 r.wide, .int .i64 r.uses] 36) = W0 at hB0 hR0 HXA ⊢
  refine (refCheck_any a xs cap r _ HXA.out hl).mono ?_
  rintro e V0 ⟨rfl, hb⟩
  have HB0 := Lib.hid (below_self hB0 hb)
  have HR0 := Lib.hid (RB38.below hR0 hb)
  have HX0 := Lib.hid (HXA.out.below hb)
  clear hB0 hR0 hb HXA
  by_cases h1 : checkE xs r = 0
  · have g1 : (checkE xs r != 0) = false := by simp [h1]
    have HR : Hid (cheapR xs r depth = if withinB depth 1 200 = true then cheapM (bestOf xs depth (rightL xs r)) else ([], 0, 3)) := by
      show _ = _
      rw [cheapR, if_pos h1]
      cases bestOf xs depth (rightL xs r) <;> rfl
    have H1 := Lib.hid h1
    clear h1
    cases e1 : withinB depth 1 200
    · have HR2 : Hid (cheapR xs r depth = ([], 0, 3)) := by show _ = _; rw [HR.out, e1]; rfl
      go_wp2_with (go_at_call 81; refine (outside_any _ _ _ _).mono ?_; rintro e w' ⟨rfl, rfl⟩)
      go_ret3
      rw [HR2.out]
      exact OutC3.nil rfl HB0.out
    · have HR2 : Hid (cheapR xs r depth = cheapM (bestOf xs depth (rightL xs r))) := by show _ = _; rw [HR.out, e1]; rfl
      have HSN := Lib.hid (fun c hc => snow_right (depth := depth) (c := c) H1.out e1 hc)
      have hfew := right_few H1.out
      have c0 := blk_cell HR0.out 0 rfl
      have c1 := blk_cell HR0.out 1 rfl
      have c2 := blk_cell HR0.out 2 rfl
      have c3 := blk_cell HR0.out 3 rfl
      have c4 := blk_cell HR0.out 4 rfl
      have c5 := blk_cell HR0.out 5 rfl
      have c6 := blk_cell HR0.out 6 rfl
      have c7 := blk_cell HR0.out 7 rfl
      have c8 := blk_cell HR0.out 8 rfl
      go_wp2_with (go_at_call 81; refine (outside_any _ _ _ _).mono ?_; rintro e w' ⟨rfl, rfl⟩)
      clear c0 c1 c2 c3 c4 c5 c6 c7 c8
      clear g1 e1 HR
      refine (refRight_any a xs cap r V0 HX0.out H1.out).mono ?_
      rintro e W1 ⟨la, lcap, rfl, hS, hb⟩
      have HB1 := Lib.hid (below_self HB0.out hb)
      have HX1 := Lib.hid (HX0.out.below hb)
      have HS := Lib.hid hS
      clear hS hb HX0 HR0
      generalize rightL xs r = S at *
      by_cases h0 : S.length = 0
      · have g2 : ((S.length : Int) == 0) = true := by rw [h0]; rfl
        have HR3 : Hid (cheapR xs r depth = ([], 0, 6)) := by show _ = _; rw [HR2.out, List.eq_nil_of_length_eq_zero h0]; rfl
        clear h0
        go_wp2_with (fail)
        go_ret3
        rw [HR3.out]
        exact OutC3.nil rfl HB1.out
      · have g2 : ((S.length : Int) == 0) = false := beq_eq_false_iff_ne.2 (by omega)
        obtain ⟨b, off, rfl, hbs, hc⟩ := HS.out (by omega)
        have HC := Lib.hid hc
        have HBS := Lib.hid hbs
        clear hc hbs HS
        have hpos : 1 ≤ S.length := by omega
        clear h0
        go_wp2_with (fail)
        clear g2
        go_loopw [11, 12] (fun vb iv wr => ∃ (k q : Nat), vb = .int .i64 q ∧ iv = .int .i64 k ∧ k ≤ S.length ∧ q < k ∧ Hid ((∃ f, S[q]? = some f ∧ bestOf xs depth (S.take k) = some (f, snowL xs f depth)) ∧ Below W1.heap.size W1 wr)) (fun _ iv _ => S.length - (intOf iv).toNat)
        case atStart =>
          refine ⟨1, 0, rfl, rfl, hpos, by omega, ⟨S[0], List.getElem?_eq_getElem (by omega), ?_⟩, Below.refl _ _⟩
          rw [bestOf_take xs depth S 0 (by omega)]; rfl
        case round =>
          obtain ⟨k, q, rfl, rfl, hk, hqk, hI⟩ := hrel
          obtain ⟨V, hV⟩ : ∃ V, V = wr := ⟨_, rfl⟩
          subst hV
          obtain ⟨⟨f, hf1, hf2⟩, hbl⟩ := hI.out
          have hqS : q < S.length := by omega
          obtain ⟨fa, fcap, hcell, hint⟩ := HC.out q f hf1
          have x2 := (hbl.cell (p := ⟨b, off + q, none⟩) HBS.out).trans hcell
          have HF := Lib.hid (And.intro (hint.below hbl) (And.intro (HSN.out f (List.mem_of_getElem? hf1)) (And.intro hf1 hf2)))
          have HBL := Lib.hid hbl
          have HX2 := Lib.hid (HX1.out.below hbl)
          have HFI := Lib.hid hint
          clear hcell hint hf1 hf2 hbl hI
          by_cases hlt : k < S.length
          · obtain ⟨ac, ccap, hcell, hint⟩ := HC.out k S[k] (List.getElem?_eq_getElem hlt)
            have x1 := (HBL.out.cell (p := ⟨b, off + k, none⟩) HBS.out).trans hcell
            have HCI := Lib.hid (And.intro (hint.below HBL.out) (And.intro (HSN.out S[k] (List.getElem_mem hlt)) (List.getElem?_eq_getElem hlt)))
            have HT := Lib.hid (bestOf_take xs depth S k hlt)
            clear hcell hint
            generalize S[k] = c at *
            go_wp2_with (fail)
            have HSC := refSnow_any a xs cap ac c ccap depth V HX2.out HCI.out.1 hl (by have := HCI.out.2.1.2; omega)
            rw [HCI.out.2.1.1] at HSC
            refine HSC.mono ?_
            clear HSC
            rintro e W3 ⟨rfl, hb⟩
            have HB3 := Lib.hid hb
            have y1 := (hb.cell (p := ⟨b, off + k, none⟩) (Nat.lt_of_lt_of_le HBS.out HBL.out.size)).trans x1
            have y2 := (hb.cell (p := ⟨b, off + q, none⟩) (Nat.lt_of_lt_of_le HBS.out HBL.out.size)).trans x2
            clear hb x1 x2
            go_wp2_with (fail)
            clear y1 y2
            have HSC := refSnow_any a xs cap fa f fcap depth W3 (HX2.out.below HB3.out) (HF.out.1.below HB3.out) hl (by have := HF.out.2.1.2; omega)
            rw [HF.out.2.1.1] at HSC
            refine HSC.mono ?_
            clear HSC
            rintro e W4 ⟨rfl, hb⟩
            have HB4 := Lib.hid (below_self HBL.out (below_self HB3.out hb))
            clear hb
            have HT1 : Hid (bestOf xs depth (S.take (k + 1)) = if snowL xs c depth < snowL xs f depth then some (c, snowL xs c depth) else some (f, snowL xs f depth)) := by show _ = _; rw [HT.out, HF.out.2.2.2]; rfl
            have HCF : Hid (S[k]? = some c ∧ S[q]? = some f) := ⟨HCI.out.2.2, HF.out.2.2.1⟩
            clear HT HF HCI
            generalize hm1 : snowL xs c depth = m1 at *
            generalize hm2 : snowL xs f depth = m2 at *
            have HM := Lib.hid (And.intro hm1 hm2)
            clear hm1 hm2
            by_cases hle : m1 < m2
            · have g3 : decide (m1 < m2) = true := decide_eq_true hle
              go_wp2_with (fail)
              go_roundw
              case rel => exact ⟨k + 1, k, rfl, by go_num, by omega, by omega, ⟨c, HCF.out.1, by rw [HT1.out, if_pos hle, HM.out.1]⟩, HB4.out⟩
              case measure => simp [intOf]; omega
            · have g3 : decide (m1 < m2) = false := decide_eq_false hle
              go_wp2_with (fail)
              go_roundw
              case rel => exact ⟨k + 1, q, rfl, by go_num, by omega, by omega, ⟨f, HCF.out.2, by rw [HT1.out, if_neg (by omega), HM.out.2]⟩, HB4.out⟩
              case measure => simp [intOf]; omega
          · have hke : k = S.length := by omega
            subst hke
            have HR3 : Hid (cheapR xs r depth = (f, snowL xs f depth, 0)) := by
              show _ = _
              have := HF.out.2.2.2
              rw [List.take_length] at this
              rw [HR2.out, this]; rfl
            go_wp2_with (fail)
            have HSC := refSnow_any a xs cap fa f fcap depth V HX2.out HF.out.1 hl (by have := HF.out.2.1.2; omega)
            rw [HF.out.2.1.1] at HSC
            refine HSC.mono ?_
            clear HSC
            rintro e W3 ⟨rfl, hb⟩
            have HB3 := Lib.hid hb
            have y2 := (hb.cell (p := ⟨b, off + q, none⟩) (Nat.lt_of_lt_of_le HBS.out HBL.out.size)).trans x2
            clear hb x2
            go_wp2_with (fail)
            go_ret3
            rw [HR3.out]
            exact ⟨fa, fcap, rfl, HF.out.1.below HB3.out, below_self HB1.out (below_self HBL.out HB3.out)⟩
  · have g1 : (checkE xs r != 0) = true := by simp [h1]
    have HR : Hid (cheapR xs r depth = ([], 0, checkE xs r)) := by show _ = _; rw [cheapR, if_neg h1]
    clear h1
    go_wp2_with (fail)
    go_ret3
    rw [HR.out]
    exact OutC3.nil rfl HB0.out
end Go.Proofs.YtgldfnkjfgcjpaaGreat

namespace Go.Proofs.YtgldfnkjfgcjpaaGreat
open Go.RowKit Go.Shelf
attribute [local go_sem] Oper.semAt_some

/-- A law of a state of a walk, kept for all ways that come to it. -/
theorem with_joinL {P : Program} {md : Region.Mode} {ops : Array Oper} {Q : Exit → Act → World → Prop} {S : World → Prop} {f0 : Nat} {l0 : Array Bool} {a0 : Act} {w0 : World} (J : (Nat → Array Bool → Act → World → Prop) → Array Bool → Act → Prop)
    (hJ : J (fun f l a w => wpAnyH P md ops Q S f l a w) l0 a0) (k : J (fun f l a w => wpAnyH P md ops Q S f l a w) l0 a0 → wpAnyH P md ops Q S f0 l0 a0 w0) : wpAnyH P md ops Q S f0 l0 a0 w0 := k hJ
theorem covR_few (xs : List Lp) (r : Ru) (depth volume : Int) : (covR xs r depth volume).1.length ≤ 300 ∧ ∀ c ∈ (covR xs r depth volume).1, c.length ≤ 1000000 := by
  rw [covR]
  split
  · rename_i h
    split
    · show (if (covL xs r depth volume).length ≤ 300 then covL xs r depth volume else []).length ≤ 300 ∧ ∀ c ∈ (if (covL xs r depth volume).length ≤ 300 then covL xs r depth volume else []), c.length ≤ 1000000
      split
      · rename_i h3
        refine ⟨h3, fun c hc => ?_⟩
        have hc' := (List.mem_filter.1 (List.mem_filter.1 hc).1).1
        have h1 := extC_ok xs.length r.laps.toNat [] 0 (by simp) c hc'
        have h2 := (laps_nat h).2
        simp at h1
        omega
      · exact ⟨Nat.zero_le _, fun c hc => by simp at hc⟩
    · exact ⟨Nat.zero_le _, fun c hc => by simp at hc⟩
  · exact ⟨Nat.zero_le _, fun c hc => by simp at hc⟩
theorem bFold (xs : List Lp) (depth : Int) (P : List Int → Prop) : ∀ (cs : List (List Int)) (st : Option (List Int × Int)), (∀ c ∈ cs, P c) → (∀ b m, st = some (b, m) → P b) → ∀ b m, cs.foldl (bestStep xs depth) st = some (b, m) → P b
  | [], st, _, h, b, m, e => h b m e
  | c :: cs, st, hc, h, b, m, e => by
    refine bFold xs depth P cs (bestStep xs depth st c) (fun x hx => hc x (List.mem_cons_of_mem _ hx)) (fun b' m' e' => ?_) b m e
    have hP := hc c List.mem_cons_self
    unfold bestStep at e'
    cases st with
    | none => cases e'; exact hP
    | some s =>
      obtain ⟨b0, m0⟩ := s
      simp only at e'
      split at e'
      · cases e'; exact hP
      · cases e'; exact h _ _ rfl
theorem cheapR_few (xs : List Lp) (r : Ru) (depth : Int) : (cheapR xs r depth).1.length ≤ 6 := by
  rw [cheapR]
  split
  · rename_i h
    split
    · have h2 := (laps_nat h).2
      have hh := bFold xs depth (fun c => c.length ≤ 6) (rightL xs r) none (fun c hc => by
        have h1 := extC_ok xs.length r.laps.toNat [] 0 (by simp) c (List.mem_filter.1 hc).1
        simp at h1; omega) (fun b m e => by cases e)
      unfold bestOf
      generalize (rightL xs r).foldl (bestStep xs depth) none = st at *
      cases st with
      | none => exact Nat.zero_le _
      | some s => exact hh _ _ rfl
    · exact Nat.zero_le _
  · exact Nat.zero_le _

theorem sl_row {W : World} {A : Nat} {a : Option Addr} {xs : List Lp} (h : Sl 3 Lp.cells W a xs) (hne : 0 < xs.length → ∀ p, a = some p → p.block ≠ A) (cs : Array Value) : Sl 3 Lp.cells (W.setRow A cs) a xs := fun h0 => by
  obtain ⟨b, off, rfl, hbs, hc⟩ := h h0
  exact ⟨b, off, rfl, by simpa using hbs, fun j x i u hx hu => (cell_setRow_other W A cs ⟨b, off + j * 3 + i, none⟩ (show b ≠ A from hne h0 ⟨b, off, none⟩ rfl)).trans (hc j x i u hx hu)⟩
theorem ints_row {W : World} {A : Nat} {a : Option Addr} {xs : List Int} (h : IntSl W a xs) (hne : 0 < xs.length → ∀ p, a = some p → p.block ≠ A) (cs : Array Value) : IntSl (W.setRow A cs) a xs := fun h0 => by
  obtain ⟨b, off, rfl, hbs, hc⟩ := h h0
  exact ⟨b, off, rfl, by simpa using hbs, fun j hj => (cell_setRow_other W A cs ⟨b, off + j, none⟩ (show b ≠ A from hne h0 ⟨b, off, none⟩ rfl)).trans (hc j hj)⟩
theorem ints_lt {A : World} {a : Option Addr} {xs : List Int} (h : IntSl A a xs) (h0 : 0 < xs.length) : ∀ p, a = some p → p.block < A.heap.size := fun p hp => by
  obtain ⟨b, off, rfl, hbs, _⟩ := h h0; cases hp; exact hbs

/-- What lies while the law runs. -/
structure LO (w W : World) (r : Ru) : Prop where
  b : Below w.heap.size w W
  p : W.heap[w.heap.size]? = some (.cells #[.int .i64 r.laps, .int .i64 r.len.lo, .int .i64 r.len.hi, .int .i64 r.climb.lo, .int .i64 r.climb.hi, .int .i64 r.lap.lo, .int .i64 r.lap.hi, .int .i64 r.wide, .int .i64 r.uses] 26 (0, 0))
theorem LO.below {w W W' : World} {r : Ru} (h : LO w W r) (hb : Below W.heap.size W W') : LO w W' r := ⟨below_self h.b hb, blk_below h.p hb⟩

set_option maxRecDepth 100000 in
set_option maxHeartbeats 20000000 in
theorem snow_law (a : Option Addr) (xs : List Lp) (cap : Nat) (r : Ru) (ac : Option Addr) (c : List Int) (ccap : Nat) (depth volume : Int) (w : World) (hx : Sl 3 Lp.cells w a xs) (hc : IntSl w ac c) (hna : a = none → xs.length = 0 ∧ cap = 0) (hnc : ac = none → c.length = 0 ∧ ccap = 0) :
    Calls Tryz.prog 3 #[.slice a xs.length cap, r.v, .slice ac c.length ccap, .int .i64 depth, .int .i64 volume] w fun e w' => e = .returned (.bool true) ∧ Below w.heap.size w w' := by
  have h0 : LO w (w.alloc (.cells #[.int .i64 r.laps, .int .i64 r.len.lo, .int .i64 r.len.hi, .int .i64 r.climb.lo, .int .i64 r.climb.hi, .int .i64 r.lap.lo, .int .i64 r.lap.hi, .int .i64 r.wide, .int .i64 r.uses] 26)) r := ⟨(Below.refl _ _).alloc (Nat.le_refl _) _, heap_alloc_new _ _⟩
  have HX := Lib.hid (And.intro hx (And.intro hc (And.intro hna hnc)))
  have HO := Lib.hid h0
  clear h0 hx hc hna hnc
  go_enter Tryz.func3, Tryz.ntmps3
  go_wp2_with (fail)
  generalize w.alloc (.cells #[.int .i64 r.laps, .int .i64 r.len.lo, .int .i64 r.len.hi, .int .i64 r.climb.lo, .int .i64 r.climb.hi, .int .i64 r.lap.lo, .int .i64 r.lap.hi, .int .i64 r.wide, .int .i64 r.uses] 26) = Wa at HO ⊢
  refine (many_any a xs.length cap r Wa).mono ?_
  rintro e Wb ⟨bb, rfl, hn, hb⟩
  replace HO := Lib.hid (HO.out.below hb)
  clear hb
  by_cases hgo : bb = false ∧ c.length ≤ 10
  · obtain ⟨rfl, h10⟩ := hgo
    have HL : Hid (xs.length ≤ 1000 ∧ c.length ≤ 1000) := by have := hn rfl; exact ⟨by omega, by omega⟩
    clear hn
    go_upto_region 3 with (fail)
    clear h10
    refine wp_region_split (S := fun W' => W'.cell? ⟨w.heap.size, 0, none⟩ = some (.int .i64 r.laps) ∧ W'.cell? ⟨w.heap.size, 1, none⟩ = some (.int .i64 r.len.lo) ∧ W'.cell? ⟨w.heap.size, 2, none⟩ = some (.int .i64 r.len.hi) ∧ W'.cell? ⟨w.heap.size, 3, none⟩ = some (.int .i64 r.climb.lo) ∧ W'.cell? ⟨w.heap.size, 4, none⟩ = some (.int .i64 r.climb.hi) ∧ W'.cell? ⟨w.heap.size, 5, none⟩ = some (.int .i64 r.lap.lo) ∧ W'.cell? ⟨w.heap.size, 6, none⟩ = some (.int .i64 r.lap.hi) ∧ W'.cell? ⟨w.heap.size, 7, none⟩ = some (.int .i64 r.wide) ∧ W'.cell? ⟨w.heap.size, 8, none⟩ = some (.int .i64 r.uses)) [11] 11 (by kernel_rfl) (by kernel_rfl) rfl ?_
    have H0 : Hid (LO w Wb.drew r) := HO.out.below (Below.refl _ _).drew
    clear HO
    generalize Wb.drew = W0 at H0 ⊢
    rw [show firstL _ [11] = #[false, false, false, false, false, false, false, false, false, false, false, true] from by kernel_rfl]
    refine wpAnyH_take (i := 0) (v := .slice a xs.length cap) rfl (by kernel_rfl) (by kernel_rfl) (by kernel_rfl) (fun _ _ _ h => h) (Or.inl ⟨by rfl, by (intro W hSw; have c0 := hSw.1; have c1 := hSw.2.1; have c2 := hSw.2.2.1; have c3 := hSw.2.2.2.1; have c4 := hSw.2.2.2.2.1; have c5 := hSw.2.2.2.2.2.1; have c6 := hSw.2.2.2.2.2.2.1; have c7 := hSw.2.2.2.2.2.2.2.1; have c8 := hSw.2.2.2.2.2.2.2.2; clear hSw; go_simp)⟩) ⟨blk_cell H0.out.p 0 rfl, blk_cell H0.out.p 1 rfl, blk_cell H0.out.p 2 rfl, blk_cell H0.out.p 3 rfl, blk_cell H0.out.p 4 rfl, blk_cell H0.out.p 5 rfl, blk_cell H0.out.p 6 rfl, blk_cell H0.out.p 7 rfl, blk_cell H0.out.p 8 rfl⟩ ?_
    simp only [Act.put, List.setIfInBounds_toArray, List.set_cons_zero]
    refine wpAnyH_take (i := 2) (v := .slice ac c.length ccap) rfl (by kernel_rfl) (by kernel_rfl) (by kernel_rfl) (fun _ _ _ h => h) (Or.inl ⟨by rfl, by (intro W hSw; have c0 := hSw.1; have c1 := hSw.2.1; have c2 := hSw.2.2.1; have c3 := hSw.2.2.2.1; have c4 := hSw.2.2.2.2.1; have c5 := hSw.2.2.2.2.2.1; have c6 := hSw.2.2.2.2.2.2.1; have c7 := hSw.2.2.2.2.2.2.2.1; have c8 := hSw.2.2.2.2.2.2.2.2; clear hSw; go_simp)⟩) ⟨blk_cell H0.out.p 0 rfl, blk_cell H0.out.p 1 rfl, blk_cell H0.out.p 2 rfl, blk_cell H0.out.p 3 rfl, blk_cell H0.out.p 4 rfl, blk_cell H0.out.p 5 rfl, blk_cell H0.out.p 6 rfl, blk_cell H0.out.p 7 rfl, blk_cell H0.out.p 8 rfl⟩ ?_
    simp only [Act.put, List.setIfInBounds_toArray, List.set_cons_zero, List.set_cons_succ]
    refine wpAnyH_take (i := 4) (v := .slice a xs.length cap) rfl (by kernel_rfl) (by kernel_rfl) (by kernel_rfl) (fun _ _ _ h => h) (Or.inl ⟨by rfl, by (intro W hSw; have c0 := hSw.1; have c1 := hSw.2.1; have c2 := hSw.2.2.1; have c3 := hSw.2.2.2.1; have c4 := hSw.2.2.2.2.1; have c5 := hSw.2.2.2.2.2.1; have c6 := hSw.2.2.2.2.2.2.1; have c7 := hSw.2.2.2.2.2.2.2.1; have c8 := hSw.2.2.2.2.2.2.2.2; clear hSw; go_simp)⟩) ⟨blk_cell H0.out.p 0 rfl, blk_cell H0.out.p 1 rfl, blk_cell H0.out.p 2 rfl, blk_cell H0.out.p 3 rfl, blk_cell H0.out.p 4 rfl, blk_cell H0.out.p 5 rfl, blk_cell H0.out.p 6 rfl, blk_cell H0.out.p 7 rfl, blk_cell H0.out.p 8 rfl⟩ ?_
    simp only [Act.put, List.setIfInBounds_toArray, List.set_cons_zero, List.set_cons_succ]
    refine wpAnyH_take (i := 6) (v := r.v) rfl (by kernel_rfl) (by kernel_rfl) (by kernel_rfl) (fun _ _ _ h => h) (Or.inl ⟨by rfl, by (intro W hSw; have c0 := hSw.1; have c1 := hSw.2.1; have c2 := hSw.2.2.1; have c3 := hSw.2.2.2.1; have c4 := hSw.2.2.2.2.1; have c5 := hSw.2.2.2.2.2.1; have c6 := hSw.2.2.2.2.2.2.1; have c7 := hSw.2.2.2.2.2.2.2.1; have c8 := hSw.2.2.2.2.2.2.2.2; clear hSw; go_simp)⟩) ⟨blk_cell H0.out.p 0 rfl, blk_cell H0.out.p 1 rfl, blk_cell H0.out.p 2 rfl, blk_cell H0.out.p 3 rfl, blk_cell H0.out.p 4 rfl, blk_cell H0.out.p 5 rfl, blk_cell H0.out.p 6 rfl, blk_cell H0.out.p 7 rfl, blk_cell H0.out.p 8 rfl⟩ ?_
    simp only [Act.put, List.setIfInBounds_toArray, List.set_cons_zero, List.set_cons_succ]
    refine with_joinL (fun G lz az => ∀ (Wz : World) (a1 : Option Addr) (c1 : Nat) (a2 : Option Addr) (c2 : Nat) (a3 : Option Addr) (c3 : Nat) (A : Nat), Hid (LO w Wz r ∧ Sl 3 Lp.cells Wz a1 xs ∧ IntSl Wz a2 c ∧ Sl 3 Lp.cells Wz a3 xs ∧ Wz.heap[A]? = some (.cells #[.int .i64 0, .int .i64 0, .int .i64 0, .int .i64 0, .int .i64 0, .int .i64 0, .int .i64 0, .int .i64 0, .int .i64 0] 36 (0, 0)) ∧ w.heap.size < A ∧ (0 < xs.length → ∀ p, a1 = some p → p.block ≠ A) ∧ (0 < c.length → ∀ p, a2 = some p → p.block ≠ A) ∧ (0 < xs.length → ∀ p, a3 = some p → p.block ≠ A)) → G 3 ((((lz.setIfInBounds 1 true).setIfInBounds 3 true).setIfInBounds 5 true).setIfInBounds 7 true) ((((az.put (some 35) (.slice a1 xs.length c1)).put (some 37) (.slice a2 c.length c2)).put (some 39) (.slice a3 xs.length c3)).put (some 14) (.pointer (some ⟨A, 0, none⟩))) Wz) ?_ (fun J31 => ?_)
    · intro Wz a1 c1 a2 c2 a3 c3 A Hz
      simp only [Act.put, List.setIfInBounds_toArray, List.set_cons_zero, List.set_cons_succ]
      refine wpAnyH_take (i := 8) (v := .slice a1 xs.length c1) rfl (by kernel_rfl) (by kernel_rfl) (by kernel_rfl) (fun _ _ _ h => h) (Or.inl ⟨by rfl, by (intro W hSw; clear hSw; go_simp)⟩) ⟨blk_cell Hz.out.1.p 0 rfl, blk_cell Hz.out.1.p 1 rfl, blk_cell Hz.out.1.p 2 rfl, blk_cell Hz.out.1.p 3 rfl, blk_cell Hz.out.1.p 4 rfl, blk_cell Hz.out.1.p 5 rfl, blk_cell Hz.out.1.p 6 rfl, blk_cell Hz.out.1.p 7 rfl, blk_cell Hz.out.1.p 8 rfl⟩ ?_
      simp only [Act.put, List.setIfInBounds_toArray, List.set_cons_zero, List.set_cons_succ]
      refine wpAnyH_take (i := 9) (v := .slice a2 c.length c2) rfl (by kernel_rfl) (by kernel_rfl) (by kernel_rfl) (fun _ _ _ h => h) (Or.inl ⟨by rfl, by (intro W hSw; clear hSw; go_simp)⟩) ⟨blk_cell Hz.out.1.p 0 rfl, blk_cell Hz.out.1.p 1 rfl, blk_cell Hz.out.1.p 2 rfl, blk_cell Hz.out.1.p 3 rfl, blk_cell Hz.out.1.p 4 rfl, blk_cell Hz.out.1.p 5 rfl, blk_cell Hz.out.1.p 6 rfl, blk_cell Hz.out.1.p 7 rfl, blk_cell Hz.out.1.p 8 rfl⟩ ?_
      simp only [Act.put, List.setIfInBounds_toArray, List.set_cons_zero, List.set_cons_succ]
      refine wpAnyH_take (i := 10) (v := .slice a3 xs.length c3) rfl (by kernel_rfl) (by kernel_rfl) (by kernel_rfl) (fun _ _ _ h => h) (Or.inl ⟨by rfl, by (intro W hSw; clear hSw; go_simp)⟩) ⟨blk_cell Hz.out.1.p 0 rfl, blk_cell Hz.out.1.p 1 rfl, blk_cell Hz.out.1.p 2 rfl, blk_cell Hz.out.1.p 3 rfl, blk_cell Hz.out.1.p 4 rfl, blk_cell Hz.out.1.p 5 rfl, blk_cell Hz.out.1.p 6 rfl, blk_cell Hz.out.1.p 7 rfl, blk_cell Hz.out.1.p 8 rfl⟩ ?_
      simp only [Act.put, List.setIfInBounds_toArray, List.set_cons_zero, List.set_cons_succ]
      refine wpAnyH_done (by kernel_rfl) ?_ _
      show wpList _ _ _ (opsAt _ [11]) _ _
      simp only [opsAt, List.filterMap_cons, List.filterMap_nil, List.getElem?_toArray, List.getElem?_cons_succ, List.getElem?_cons_zero]
      have h5 := Hz.out.2.2.2.2.1
      refine wpList_store_row rfl 36 (.tmp 14) (.tmp 40) rfl A #[.int .i64 r.laps, .int .i64 r.len.lo, .int .i64 r.len.hi, .int .i64 r.climb.lo, .int .i64 r.climb.hi, .int .i64 r.lap.lo, .int .i64 r.lap.hi, .int .i64 r.wide, .int .i64 r.uses] (by kernel_rfl) (by kernel_rfl) 36 _ h5 (by kernel_rfl) (by kernel_rfl) (by kernel_rfl) ?_
      have hl := Hz.out.2.2.2.2.2.1
      have HW : Hid (LO w (Wz.setRow A #[.int .i64 r.laps, .int .i64 r.len.lo, .int .i64 r.len.hi, .int .i64 r.climb.lo, .int .i64 r.climb.hi, .int .i64 r.lap.lo, .int .i64 r.lap.hi, .int .i64 r.wide, .int .i64 r.uses]) r ∧ Sl 3 Lp.cells (Wz.setRow A #[.int .i64 r.laps, .int .i64 r.len.lo, .int .i64 r.len.hi, .int .i64 r.climb.lo, .int .i64 r.climb.hi, .int .i64 r.lap.lo, .int .i64 r.lap.hi, .int .i64 r.wide, .int .i64 r.uses]) a1 xs ∧ IntSl (Wz.setRow A #[.int .i64 r.laps, .int .i64 r.len.lo, .int .i64 r.len.hi, .int .i64 r.climb.lo, .int .i64 r.climb.hi, .int .i64 r.lap.lo, .int .i64 r.lap.hi, .int .i64 r.wide, .int .i64 r.uses]) a2 c ∧ Sl 3 Lp.cells (Wz.setRow A #[.int .i64 r.laps, .int .i64 r.len.lo, .int .i64 r.len.hi, .int .i64 r.climb.lo, .int .i64 r.climb.hi, .int .i64 r.lap.lo, .int .i64 r.lap.hi, .int .i64 r.wide, .int .i64 r.uses]) a3 xs ∧ (Wz.setRow A #[.int .i64 r.laps, .int .i64 r.len.lo, .int .i64 r.len.hi, .int .i64 r.climb.lo, .int .i64 r.climb.hi, .int .i64 r.lap.lo, .int .i64 r.lap.hi, .int .i64 r.wide, .int .i64 r.uses]).heap[A]? = some (.cells #[.int .i64 r.laps, .int .i64 r.len.lo, .int .i64 r.len.hi, .int .i64 r.climb.lo, .int .i64 r.climb.hi, .int .i64 r.lap.lo, .int .i64 r.lap.hi, .int .i64 r.wide, .int .i64 r.uses] 36 (0, 0))) := ⟨⟨below_setRow Hz.out.1.b (by omega) _, (setRow_other Wz A _ _ (by omega)).trans Hz.out.1.p⟩, sl_row Hz.out.2.1 Hz.out.2.2.2.2.2.2.1 _, ints_row Hz.out.2.2.1 Hz.out.2.2.2.2.2.2.2.1 _, sl_row Hz.out.2.2.2.1 Hz.out.2.2.2.2.2.2.2.2 _, setRow_heap Wz A _ _ 36 (0, 0) h5⟩
      clear hl h5 Hz
      generalize (Wz.setRow A #[.int .i64 r.laps, .int .i64 r.len.lo, .int .i64 r.len.hi, .int .i64 r.climb.lo, .int .i64 r.climb.hi, .int .i64 r.lap.lo, .int .i64 r.lap.hi, .int .i64 r.wide, .int .i64 r.uses]) = U0 at HW ⊢
      obtain ⟨AR, AE, hA⟩ : ∃ AR AE, areaR xs c = (AR, AE) := ⟨_, _, rfl⟩
      obtain ⟨SR, SE, hS⟩ : ∃ SR SE, snowR xs c depth = (SR, SE) := ⟨_, _, rfl⟩
      obtain ⟨L, LE, hLE⟩ : ∃ L LE, covR xs r depth volume = (L, LE) := ⟨_, _, rfl⟩
      obtain ⟨CR, CM, CE, hCE⟩ : ∃ CR CM CE, cheapR xs r depth = (CR, CM, CE) := ⟨_, _, _, rfl⟩
      have HBR : Hid (L.length ≤ 1000000 ∧ (∀ c ∈ L, c.length ≤ 1000000) ∧ CR.length ≤ 1000000) := by
        have h1 := covR_few xs r depth volume
        have h3 := cheapR_few xs r depth
        rw [hLE] at h1
        rw [hCE] at h3
        exact ⟨Nat.le_trans h1.1 (by omega), h1.2, Nat.le_trans h3 (by omega)⟩
      have HC1 : Hid (∀ W, Sl 3 Lp.cells W a1 xs → IntSl W a2 c → Calls Tryz.prog 14 #[.slice a1 xs.length c1, .slice a2 c.length c2] W (Out2 W (AR, AE))) := fun W q0 q1 => by
        have h := Area_any a1 xs c1 a2 c c2 W q0 q1 (by have := HL.out.1; omega) (by have := HL.out.2; omega)
        rw [hA] at h
        exact h
      have HC2 : Hid (∀ W, Sl 3 Lp.cells W a3 xs → IntSl W ac c → Calls Tryz.prog 15 #[.slice a3 xs.length c3, .slice ac c.length ccap] W (Out2 W (AR, AE))) := fun W q0 q1 => by
        have h := refArea_any a3 xs c3 ac c ccap W q0 q1 (by have := HL.out.1; omega) (by have := HL.out.2; omega)
        rw [hA] at h
        exact h
      have HC3 : Hid (∀ W, Sl 3 Lp.cells W a1 xs → IntSl W a2 c → Calls Tryz.prog 16 #[.slice a1 xs.length c1, .slice a2 c.length c2, .int .i64 depth] W (Out2 W (SR, SE))) := fun W q0 q1 => by
        have h := Snow_any a1 xs c1 a2 c c2 depth W q0 q1 (by have := HL.out.1; omega) (by have := HL.out.2; omega)
        rw [hS] at h
        exact h
      have HC4 : Hid (∀ W, Sl 3 Lp.cells W a3 xs → IntSl W ac c → Calls Tryz.prog 17 #[.slice a3 xs.length c3, .slice ac c.length ccap, .int .i64 depth] W (Out2 W (SR, SE))) := fun W q0 q1 => by
        have h := refSnow_any a3 xs c3 ac c ccap depth W q0 q1 (by have := HL.out.1; omega) (by have := HL.out.2; omega)
        rw [hS] at h
        exact h
      have HC5 : Hid (∀ W, Sl 3 Lp.cells W a1 xs → Calls Tryz.prog 18 #[.slice a1 xs.length c1, r.v, .int .i64 depth, .int .i64 volume] W (OutCs W L LE)) := fun W q0 => by
        have h := Covered_any a1 xs c1 r depth volume W q0 (by have := HL.out.1; omega)
        rw [hLE] at h
        exact h
      have HC6 : Hid (∀ W, Sl 3 Lp.cells W a3 xs → Calls Tryz.prog 19 #[.slice a3 xs.length c3, r.v, .int .i64 depth, .int .i64 volume] W (OutCs W L LE)) := fun W q0 => by
        have h := refCovered_any a3 xs c3 r depth volume W q0 (by have := HL.out.1; omega)
        rw [hLE] at h
        exact h
      have HC7 : Hid (∀ W, Sl 3 Lp.cells W a1 xs → Calls Tryz.prog 21 #[.slice a1 xs.length c1, r.v, .int .i64 depth] W (OutC3 W (CR, CM, CE))) := fun W q0 => by
        have h := cheapest_any a1 xs c1 r depth W q0 (by have := HL.out.1; omega)
        rw [hCE] at h
        exact h
      have HC8 : Hid (∀ W, Sl 3 Lp.cells W a3 xs → Calls Tryz.prog 22 #[.slice a3 xs.length c3, r.v, .int .i64 depth] W (OutC3 W (CR, CM, CE))) := fun W q0 => by
        have h := refCheapest_any a3 xs c3 r depth W q0 (by have := HL.out.1; omega)
        rw [hCE] at h
        exact h
      clear hA hS hLE hCE
      go_wp2_with (fail)
      refine (HC1.out U0 HW.out.2.1 HW.out.2.2.1).mono ?_
      rintro e U1 ⟨rfl, hb⟩
      have K1 : Hid (LO w U1 r ∧ Sl 3 Lp.cells U1 a1 xs ∧ IntSl U1 a2 c ∧ Sl 3 Lp.cells U1 a3 xs ∧ U1.heap[A]? = some (.cells #[.int .i64 r.laps, .int .i64 r.len.lo, .int .i64 r.len.hi, .int .i64 r.climb.lo, .int .i64 r.climb.hi, .int .i64 r.lap.lo, .int .i64 r.lap.hi, .int .i64 r.wide, .int .i64 r.uses] 36 (0, 0))) := ⟨HW.out.1.below hb, HW.out.2.1.below hb, HW.out.2.2.1.below hb, HW.out.2.2.2.1.below hb, blk_below HW.out.2.2.2.2 hb⟩
      clear hb HW
      go_wp2_with (fail)
      refine (HC2.out U1 K1.out.2.2.2.1 (HX.out.2.1.below K1.out.1.b)).mono ?_
      rintro e U2 ⟨rfl, hb⟩
      have K2 : Hid (LO w U2 r ∧ Sl 3 Lp.cells U2 a1 xs ∧ IntSl U2 a2 c ∧ Sl 3 Lp.cells U2 a3 xs ∧ U2.heap[A]? = some (.cells #[.int .i64 r.laps, .int .i64 r.len.lo, .int .i64 r.len.hi, .int .i64 r.climb.lo, .int .i64 r.climb.hi, .int .i64 r.lap.lo, .int .i64 r.lap.hi, .int .i64 r.wide, .int .i64 r.uses] 36 (0, 0))) := ⟨K1.out.1.below hb, K1.out.2.1.below hb, K1.out.2.2.1.below hb, K1.out.2.2.2.1.below hb, blk_below K1.out.2.2.2.2 hb⟩
      clear hb K1
      go_wp2_with (fail)
      refine (HC3.out U2 K2.out.2.1 K2.out.2.2.1).mono ?_
      rintro e U3 ⟨rfl, hb⟩
      have K3 : Hid (LO w U3 r ∧ Sl 3 Lp.cells U3 a1 xs ∧ IntSl U3 a2 c ∧ Sl 3 Lp.cells U3 a3 xs ∧ U3.heap[A]? = some (.cells #[.int .i64 r.laps, .int .i64 r.len.lo, .int .i64 r.len.hi, .int .i64 r.climb.lo, .int .i64 r.climb.hi, .int .i64 r.lap.lo, .int .i64 r.lap.hi, .int .i64 r.wide, .int .i64 r.uses] 36 (0, 0))) := ⟨K2.out.1.below hb, K2.out.2.1.below hb, K2.out.2.2.1.below hb, K2.out.2.2.2.1.below hb, blk_below K2.out.2.2.2.2 hb⟩
      clear hb K2
      go_wp2_with (fail)
      refine (HC4.out U3 K3.out.2.2.2.1 (HX.out.2.1.below K3.out.1.b)).mono ?_
      rintro e U4 ⟨rfl, hb⟩
      have K4 : Hid (LO w U4 r ∧ Sl 3 Lp.cells U4 a1 xs ∧ IntSl U4 a2 c ∧ Sl 3 Lp.cells U4 a3 xs ∧ U4.heap[A]? = some (.cells #[.int .i64 r.laps, .int .i64 r.len.lo, .int .i64 r.len.hi, .int .i64 r.climb.lo, .int .i64 r.climb.hi, .int .i64 r.lap.lo, .int .i64 r.lap.hi, .int .i64 r.wide, .int .i64 r.uses] 36 (0, 0))) := ⟨K3.out.1.below hb, K3.out.2.1.below hb, K3.out.2.2.1.below hb, K3.out.2.2.2.1.below hb, blk_below K3.out.2.2.2.2 hb⟩
      clear hb K3
      have c0 := blk_cell K4.out.1.p 0 rfl
      have c1' := blk_cell K4.out.1.p 1 rfl
      have c2' := blk_cell K4.out.1.p 2 rfl
      have c3' := blk_cell K4.out.1.p 3 rfl
      have c4 := blk_cell K4.out.1.p 4 rfl
      have c5 := blk_cell K4.out.1.p 5 rfl
      have c6 := blk_cell K4.out.1.p 6 rfl
      have c7 := blk_cell K4.out.1.p 7 rfl
      have c8 := blk_cell K4.out.1.p 8 rfl
      go_wp2_with (fail)
      clear c0 c1' c2' c3' c4 c5 c6 c7 c8
      refine (HC5.out U4 K4.out.2.1).mono ?_
      rintro e U5 ⟨la, lcap, rfl, h1, hb⟩
      have K5 : Hid (LO w U5 r ∧ Sl 3 Lp.cells U5 a1 xs ∧ IntSl U5 a2 c ∧ Sl 3 Lp.cells U5 a3 xs ∧ U5.heap[A]? = some (.cells #[.int .i64 r.laps, .int .i64 r.len.lo, .int .i64 r.len.hi, .int .i64 r.climb.lo, .int .i64 r.climb.hi, .int .i64 r.lap.lo, .int .i64 r.lap.hi, .int .i64 r.wide, .int .i64 r.uses] 36 (0, 0)) ∧ SlsAt U5 la L) := ⟨K4.out.1.below hb, K4.out.2.1.below hb, K4.out.2.2.1.below hb, K4.out.2.2.2.1.below hb, blk_below K4.out.2.2.2.2 hb, h1⟩
      clear h1 hb K4
      have c0 := blk_cell K5.out.2.2.2.2.1 0 rfl
      have c1' := blk_cell K5.out.2.2.2.2.1 1 rfl
      have c2' := blk_cell K5.out.2.2.2.2.1 2 rfl
      have c3' := blk_cell K5.out.2.2.2.2.1 3 rfl
      have c4 := blk_cell K5.out.2.2.2.2.1 4 rfl
      have c5 := blk_cell K5.out.2.2.2.2.1 5 rfl
      have c6 := blk_cell K5.out.2.2.2.2.1 6 rfl
      have c7 := blk_cell K5.out.2.2.2.2.1 7 rfl
      have c8 := blk_cell K5.out.2.2.2.2.1 8 rfl
      go_wp2_with (fail)
      clear c0 c1' c2' c3' c4 c5 c6 c7 c8
      refine (HC6.out U5 K5.out.2.2.2.1).mono ?_
      rintro e U6 ⟨ma, mcap, rfl, h1, hb⟩
      have K6 : Hid (LO w U6 r ∧ Sl 3 Lp.cells U6 a1 xs ∧ IntSl U6 a2 c ∧ Sl 3 Lp.cells U6 a3 xs ∧ U6.heap[A]? = some (.cells #[.int .i64 r.laps, .int .i64 r.len.lo, .int .i64 r.len.hi, .int .i64 r.climb.lo, .int .i64 r.climb.hi, .int .i64 r.lap.lo, .int .i64 r.lap.hi, .int .i64 r.wide, .int .i64 r.uses] 36 (0, 0)) ∧ SlsAt U6 la L ∧ SlsAt U6 ma L) := ⟨K5.out.1.below hb, K5.out.2.1.below hb, K5.out.2.2.1.below hb, K5.out.2.2.2.1.below hb, blk_below K5.out.2.2.2.2.1 hb, K5.out.2.2.2.2.2.below hb, h1⟩
      clear h1 hb K5
      go_wp2_with (fail)
      refine (equalAll_any la L lcap ma L mcap U6 K6.out.2.2.2.2.2.1 K6.out.2.2.2.2.2.2 HBR.out.1 HBR.out.2.1).mono ?_
      rintro e U7 ⟨rfl, hb⟩
      have K7 : Hid (LO w U7 r ∧ Sl 3 Lp.cells U7 a1 xs ∧ IntSl U7 a2 c ∧ Sl 3 Lp.cells U7 a3 xs ∧ U7.heap[A]? = some (.cells #[.int .i64 r.laps, .int .i64 r.len.lo, .int .i64 r.len.hi, .int .i64 r.climb.lo, .int .i64 r.climb.hi, .int .i64 r.lap.lo, .int .i64 r.lap.hi, .int .i64 r.wide, .int .i64 r.uses] 36 (0, 0)) ∧ SlsAt U7 la L ∧ SlsAt U7 ma L) := ⟨K6.out.1.below hb, K6.out.2.1.below hb, K6.out.2.2.1.below hb, K6.out.2.2.2.1.below hb, blk_below K6.out.2.2.2.2.1 hb, K6.out.2.2.2.2.2.1.below hb, K6.out.2.2.2.2.2.2.below hb⟩
      clear hb K6
      rw [show decide (L = L) = true from decide_eq_true rfl]
      have c0 := blk_cell K7.out.1.p 0 rfl
      have c1' := blk_cell K7.out.1.p 1 rfl
      have c2' := blk_cell K7.out.1.p 2 rfl
      have c3' := blk_cell K7.out.1.p 3 rfl
      have c4 := blk_cell K7.out.1.p 4 rfl
      have c5 := blk_cell K7.out.1.p 5 rfl
      have c6 := blk_cell K7.out.1.p 6 rfl
      have c7 := blk_cell K7.out.1.p 7 rfl
      have c8 := blk_cell K7.out.1.p 8 rfl
      go_wp2_with (fail)
      clear c0 c1' c2' c3' c4 c5 c6 c7 c8
      refine (HC7.out U7 K7.out.2.1).mono ?_
      rintro e U8 ⟨pa, pcap, rfl, h1, hb⟩
      have K8 : Hid (LO w U8 r ∧ Sl 3 Lp.cells U8 a1 xs ∧ IntSl U8 a2 c ∧ Sl 3 Lp.cells U8 a3 xs ∧ U8.heap[A]? = some (.cells #[.int .i64 r.laps, .int .i64 r.len.lo, .int .i64 r.len.hi, .int .i64 r.climb.lo, .int .i64 r.climb.hi, .int .i64 r.lap.lo, .int .i64 r.lap.hi, .int .i64 r.wide, .int .i64 r.uses] 36 (0, 0)) ∧ SlsAt U8 la L ∧ SlsAt U8 ma L ∧ IntSl U8 pa CR) := ⟨K7.out.1.below hb, K7.out.2.1.below hb, K7.out.2.2.1.below hb, K7.out.2.2.2.1.below hb, blk_below K7.out.2.2.2.2.1 hb, K7.out.2.2.2.2.2.1.below hb, K7.out.2.2.2.2.2.2.below hb, h1⟩
      clear h1 hb K7
      have c0 := blk_cell K8.out.2.2.2.2.1 0 rfl
      have c1' := blk_cell K8.out.2.2.2.2.1 1 rfl
      have c2' := blk_cell K8.out.2.2.2.2.1 2 rfl
      have c3' := blk_cell K8.out.2.2.2.2.1 3 rfl
      have c4 := blk_cell K8.out.2.2.2.2.1 4 rfl
      have c5 := blk_cell K8.out.2.2.2.2.1 5 rfl
      have c6 := blk_cell K8.out.2.2.2.2.1 6 rfl
      have c7 := blk_cell K8.out.2.2.2.2.1 7 rfl
      have c8 := blk_cell K8.out.2.2.2.2.1 8 rfl
      go_wp2_with (fail)
      clear c0 c1' c2' c3' c4 c5 c6 c7 c8
      refine (HC8.out U8 K8.out.2.2.2.1).mono ?_
      rintro e U9 ⟨qa, qcap, rfl, h1, hb⟩
      have K9 : Hid (LO w U9 r ∧ Sl 3 Lp.cells U9 a1 xs ∧ IntSl U9 a2 c ∧ Sl 3 Lp.cells U9 a3 xs ∧ U9.heap[A]? = some (.cells #[.int .i64 r.laps, .int .i64 r.len.lo, .int .i64 r.len.hi, .int .i64 r.climb.lo, .int .i64 r.climb.hi, .int .i64 r.lap.lo, .int .i64 r.lap.hi, .int .i64 r.wide, .int .i64 r.uses] 36 (0, 0)) ∧ SlsAt U9 la L ∧ SlsAt U9 ma L ∧ IntSl U9 pa CR ∧ IntSl U9 qa CR) := ⟨K8.out.1.below hb, K8.out.2.1.below hb, K8.out.2.2.1.below hb, K8.out.2.2.2.1.below hb, blk_below K8.out.2.2.2.2.1 hb, K8.out.2.2.2.2.2.1.below hb, K8.out.2.2.2.2.2.2.1.below hb, K8.out.2.2.2.2.2.2.2.below hb, h1⟩
      clear h1 hb K8
      go_wp2_with (fail)
      refine (equal_int pa CR pcap qa CR qcap U9 K9.out.2.2.2.2.2.2.2.1 K9.out.2.2.2.2.2.2.2.2 HBR.out.2.2).mono ?_
      rintro e U10 ⟨rfl, hb⟩
      have K10 : Hid (LO w U10 r ∧ Sl 3 Lp.cells U10 a1 xs ∧ IntSl U10 a2 c ∧ Sl 3 Lp.cells U10 a3 xs ∧ U10.heap[A]? = some (.cells #[.int .i64 r.laps, .int .i64 r.len.lo, .int .i64 r.len.hi, .int .i64 r.climb.lo, .int .i64 r.climb.hi, .int .i64 r.lap.lo, .int .i64 r.lap.hi, .int .i64 r.wide, .int .i64 r.uses] 36 (0, 0)) ∧ SlsAt U10 la L ∧ SlsAt U10 ma L ∧ IntSl U10 pa CR ∧ IntSl U10 qa CR) := ⟨K9.out.1.below hb, K9.out.2.1.below hb, K9.out.2.2.1.below hb, K9.out.2.2.2.1.below hb, blk_below K9.out.2.2.2.2.1 hb, K9.out.2.2.2.2.2.1.below hb, K9.out.2.2.2.2.2.2.1.below hb, K9.out.2.2.2.2.2.2.2.1.below hb, K9.out.2.2.2.2.2.2.2.2.below hb⟩
      clear hb K9
      go_wp2_with (fail)
      refine (equalLp_same a1 xs c1 a cap U10 K10.out.2.1 (HX.out.1.below K10.out.1.b) (by have := HL.out.1; omega)).mono ?_
      rintro e U11 ⟨rfl, hb⟩
      have K11 : Hid (LO w U11 r ∧ Sl 3 Lp.cells U11 a1 xs ∧ IntSl U11 a2 c ∧ Sl 3 Lp.cells U11 a3 xs ∧ U11.heap[A]? = some (.cells #[.int .i64 r.laps, .int .i64 r.len.lo, .int .i64 r.len.hi, .int .i64 r.climb.lo, .int .i64 r.climb.hi, .int .i64 r.lap.lo, .int .i64 r.lap.hi, .int .i64 r.wide, .int .i64 r.uses] 36 (0, 0)) ∧ SlsAt U11 la L ∧ SlsAt U11 ma L ∧ IntSl U11 pa CR ∧ IntSl U11 qa CR) := ⟨K10.out.1.below hb, K10.out.2.1.below hb, K10.out.2.2.1.below hb, K10.out.2.2.2.1.below hb, blk_below K10.out.2.2.2.2.1 hb, K10.out.2.2.2.2.2.1.below hb, K10.out.2.2.2.2.2.2.1.below hb, K10.out.2.2.2.2.2.2.2.1.below hb, K10.out.2.2.2.2.2.2.2.2.below hb⟩
      clear hb K10
      go_wp2_with (fail)
      refine (equal_int a2 c c2 ac c ccap U11 K11.out.2.2.1 (HX.out.2.1.below K11.out.1.b) (by have := HL.out.2; omega)).mono ?_
      rintro e U12 ⟨rfl, hb⟩
      have K12 : Hid (LO w U12 r ∧ Sl 3 Lp.cells U12 a1 xs ∧ IntSl U12 a2 c ∧ Sl 3 Lp.cells U12 a3 xs ∧ U12.heap[A]? = some (.cells #[.int .i64 r.laps, .int .i64 r.len.lo, .int .i64 r.len.hi, .int .i64 r.climb.lo, .int .i64 r.climb.hi, .int .i64 r.lap.lo, .int .i64 r.lap.hi, .int .i64 r.wide, .int .i64 r.uses] 36 (0, 0)) ∧ SlsAt U12 la L ∧ SlsAt U12 ma L ∧ IntSl U12 pa CR ∧ IntSl U12 qa CR) := ⟨K11.out.1.below hb, K11.out.2.1.below hb, K11.out.2.2.1.below hb, K11.out.2.2.2.1.below hb, blk_below K11.out.2.2.2.2.1 hb, K11.out.2.2.2.2.2.1.below hb, K11.out.2.2.2.2.2.2.1.below hb, K11.out.2.2.2.2.2.2.2.1.below hb, K11.out.2.2.2.2.2.2.2.2.below hb⟩
      clear hb K11
      go_wp2_with (fail)
      refine (awake_any U12).mono ?_
      rintro e U13 ⟨rfl, hb⟩
      have HF := Lib.hid (below_self K12.out.1.b hb)
      clear hb K12
      go_wp2_with (fail)
      go_ret
      exact ⟨rfl, HF.out⟩
    simp only [Act.put, List.setIfInBounds_toArray, List.set_cons_zero, List.set_cons_succ] at J31
    refine with_joinL (fun G lz az => ∀ (Wz : World) (a1 : Option Addr) (c1 : Nat) (a2 : Option Addr) (c2 : Nat) (a3 : Option Addr) (c3 : Nat), Hid (LO w Wz r ∧ Sl 3 Lp.cells Wz a1 xs ∧ IntSl Wz a2 c ∧ Sl 3 Lp.cells Wz a3 xs) → G 4 (((lz.setIfInBounds 1 true).setIfInBounds 3 true).setIfInBounds 5 true) (((az.put (some 35) (.slice a1 xs.length c1)).put (some 37) (.slice a2 c.length c2)).put (some 39) (.slice a3 xs.length c3)) Wz) ?_ (fun J30 => ?_)
    · intro Wz a1 c1 a2 c2 a3 c3 Hz
      simp only [Act.put, List.setIfInBounds_toArray, List.set_cons_zero, List.set_cons_succ]
      refine wpAnyH_ready (rs := [7]) (by kernel_rfl) (by simp) ?_
      refine AllReadyH.cons (o := _) rfl (fun K hK => ?_) AllReadyH.nil
      go_simp
      have hb : Below Wz.heap.size Wz (Wz.alloc (.cells #[.int .i64 0, .int .i64 0, .int .i64 0, .int .i64 0, .int .i64 0, .int .i64 0, .int .i64 0, .int .i64 0, .int .i64 0] 36)) := (Below.refl _ _).alloc (Nat.le_refl _) _
      have H1 : Hid (LO w (Wz.alloc (.cells #[.int .i64 0, .int .i64 0, .int .i64 0, .int .i64 0, .int .i64 0, .int .i64 0, .int .i64 0, .int .i64 0, .int .i64 0] 36)) r ∧ Sl 3 Lp.cells (Wz.alloc (.cells #[.int .i64 0, .int .i64 0, .int .i64 0, .int .i64 0, .int .i64 0, .int .i64 0, .int .i64 0, .int .i64 0, .int .i64 0] 36)) a1 xs ∧ IntSl (Wz.alloc (.cells #[.int .i64 0, .int .i64 0, .int .i64 0, .int .i64 0, .int .i64 0, .int .i64 0, .int .i64 0, .int .i64 0, .int .i64 0] 36)) a2 c ∧ Sl 3 Lp.cells (Wz.alloc (.cells #[.int .i64 0, .int .i64 0, .int .i64 0, .int .i64 0, .int .i64 0, .int .i64 0, .int .i64 0, .int .i64 0, .int .i64 0] 36)) a3 xs ∧ (Wz.alloc (.cells #[.int .i64 0, .int .i64 0, .int .i64 0, .int .i64 0, .int .i64 0, .int .i64 0, .int .i64 0, .int .i64 0, .int .i64 0] 36)).heap[Wz.heap.size]? = some (.cells #[.int .i64 0, .int .i64 0, .int .i64 0, .int .i64 0, .int .i64 0, .int .i64 0, .int .i64 0, .int .i64 0, .int .i64 0] 36 (0, 0)) ∧ w.heap.size < Wz.heap.size ∧ (0 < xs.length → ∀ p, a1 = some p → p.block ≠ Wz.heap.size) ∧ (0 < c.length → ∀ p, a2 = some p → p.block ≠ Wz.heap.size) ∧ (0 < xs.length → ∀ p, a3 = some p → p.block ≠ Wz.heap.size)) := ⟨Hz.out.1.below hb, Hz.out.2.1.below hb, Hz.out.2.2.1.below hb, Hz.out.2.2.2.below hb, heap_alloc_new _ _, lt_of_block Hz.out.1.p, (fun h0 p hp => Nat.ne_of_lt (sl_lt Hz.out.2.1 h0 p hp)), (fun h0 p hp => Nat.ne_of_lt (ints_lt Hz.out.2.2.1 h0 p hp)), (fun h0 p hp => Nat.ne_of_lt (sl_lt Hz.out.2.2.2 h0 p hp))⟩
      clear hb
      refine hK.out _ _ ⟨blk_cell H1.out.1.p 0 rfl, blk_cell H1.out.1.p 1 rfl, blk_cell H1.out.1.p 2 rfl, blk_cell H1.out.1.p 3 rfl, blk_cell H1.out.1.p 4 rfl, blk_cell H1.out.1.p 5 rfl, blk_cell H1.out.1.p 6 rfl, blk_cell H1.out.1.p 7 rfl, blk_cell H1.out.1.p 8 rfl⟩ (fun _ => ?_)
      clear hK
      simp only [List.setIfInBounds_toArray, List.set_cons_zero, List.set_cons_succ]
      exact J31 _ a1 c1 a2 c2 a3 c3 _ H1
    simp only [Act.put, List.setIfInBounds_toArray, List.set_cons_zero, List.set_cons_succ] at J30
    refine with_joinL (fun G lz az => ∀ (Wz : World) (a1 : Option Addr) (c1 : Nat) (a2 : Option Addr) (c2 : Nat) (A : Nat), Hid (LO w Wz r ∧ Sl 3 Lp.cells Wz a1 xs ∧ IntSl Wz a2 c ∧ Wz.heap[A]? = some (.cells #[.int .i64 0, .int .i64 0, .int .i64 0, .int .i64 0, .int .i64 0, .int .i64 0, .int .i64 0, .int .i64 0, .int .i64 0] 36 (0, 0)) ∧ w.heap.size < A ∧ (0 < xs.length → ∀ p, a1 = some p → p.block ≠ A) ∧ (0 < c.length → ∀ p, a2 = some p → p.block ≠ A)) → G 4 (((lz.setIfInBounds 1 true).setIfInBounds 3 true).setIfInBounds 7 true) (((az.put (some 35) (.slice a1 xs.length c1)).put (some 37) (.slice a2 c.length c2)).put (some 14) (.pointer (some ⟨A, 0, none⟩))) Wz) ?_ (fun J21 => ?_)
    · intro Wz a1 c1 a2 c2 A Hz
      simp only [Act.put, List.setIfInBounds_toArray, List.set_cons_zero, List.set_cons_succ]
      refine wpAnyH_ready (rs := [5]) (by kernel_rfl) (by simp) ?_
      refine AllReadyH.cons (o := _) rfl (fun K hK => ?_) AllReadyH.nil
      go_simp
      go_at_call 13
      refine (loops_any a xs cap Wz (HX.out.1.below Hz.out.1.b) HL.out.1).mono ?_
      rintro e W2 ⟨a3, c3, rfl, hs, hf, hb⟩
      have H2 : Hid (LO w W2 r ∧ Sl 3 Lp.cells W2 a1 xs ∧ IntSl W2 a2 c ∧ Sl 3 Lp.cells W2 a3 xs ∧ W2.heap[A]? = some (.cells #[.int .i64 0, .int .i64 0, .int .i64 0, .int .i64 0, .int .i64 0, .int .i64 0, .int .i64 0, .int .i64 0, .int .i64 0] 36 (0, 0)) ∧ w.heap.size < A ∧ (0 < xs.length → ∀ p, a1 = some p → p.block ≠ A) ∧ (0 < c.length → ∀ p, a2 = some p → p.block ≠ A) ∧ (0 < xs.length → ∀ p, a3 = some p → p.block ≠ A)) := ⟨Hz.out.1.below hb, Hz.out.2.1.below hb, Hz.out.2.2.1.below hb, hs, blk_below Hz.out.2.2.2.1 hb, Hz.out.2.2.2.2.1, Hz.out.2.2.2.2.2.1, Hz.out.2.2.2.2.2.2, (fun _ p hp => by have h1 := hf p hp; have h2 := lt_of_block Hz.out.2.2.2.1; omega)⟩
      clear hs hf hb
      refine hK.out _ _ ⟨blk_cell H2.out.1.p 0 rfl, blk_cell H2.out.1.p 1 rfl, blk_cell H2.out.1.p 2 rfl, blk_cell H2.out.1.p 3 rfl, blk_cell H2.out.1.p 4 rfl, blk_cell H2.out.1.p 5 rfl, blk_cell H2.out.1.p 6 rfl, blk_cell H2.out.1.p 7 rfl, blk_cell H2.out.1.p 8 rfl⟩ (fun _ => ?_)
      clear hK
      simp only [List.setIfInBounds_toArray, List.set_cons_zero, List.set_cons_succ]
      exact J31 _ a1 c1 a2 c2 a3 c3 A H2
    simp only [Act.put, List.setIfInBounds_toArray, List.set_cons_zero, List.set_cons_succ] at J21
    refine with_joinL (fun G lz az => ∀ (Wz : World) (a1 : Option Addr) (c1 : Nat) (a2 : Option Addr) (c2 : Nat), Hid (LO w Wz r ∧ Sl 3 Lp.cells Wz a1 xs ∧ IntSl Wz a2 c) → G 5 ((lz.setIfInBounds 1 true).setIfInBounds 3 true) ((az.put (some 35) (.slice a1 xs.length c1)).put (some 37) (.slice a2 c.length c2)) Wz) ?_ (fun J20 => ?_)
    · intro Wz a1 c1 a2 c2 Hz
      simp only [Act.put, List.setIfInBounds_toArray, List.set_cons_zero, List.set_cons_succ]
      refine wpAnyH_ready (rs := [5, 7]) (by kernel_rfl) (by simp) ?_
      refine AllReadyH.cons (o := _) rfl (fun K hK => ?_) ?_
      · go_simp
        go_at_call 13
        refine (loops_any a xs cap Wz (HX.out.1.below Hz.out.1.b) HL.out.1).mono ?_
        rintro e W3 ⟨a3, c3, rfl, hs, hf, hb⟩
        have H3 : Hid (LO w W3 r ∧ Sl 3 Lp.cells W3 a1 xs ∧ IntSl W3 a2 c ∧ Sl 3 Lp.cells W3 a3 xs) := ⟨Hz.out.1.below hb, Hz.out.2.1.below hb, Hz.out.2.2.below hb, hs⟩
        clear hs hf hb
        refine hK.out _ _ ⟨blk_cell H3.out.1.p 0 rfl, blk_cell H3.out.1.p 1 rfl, blk_cell H3.out.1.p 2 rfl, blk_cell H3.out.1.p 3 rfl, blk_cell H3.out.1.p 4 rfl, blk_cell H3.out.1.p 5 rfl, blk_cell H3.out.1.p 6 rfl, blk_cell H3.out.1.p 7 rfl, blk_cell H3.out.1.p 8 rfl⟩ (fun _ => ?_)
        clear hK
        simp only [List.setIfInBounds_toArray, List.set_cons_zero, List.set_cons_succ]
        exact J30 _ a1 c1 a2 c2 a3 c3 H3
      refine AllReadyH.cons (o := _) rfl (fun K hK => ?_) AllReadyH.nil
      go_simp
      have hb : Below Wz.heap.size Wz (Wz.alloc (.cells #[.int .i64 0, .int .i64 0, .int .i64 0, .int .i64 0, .int .i64 0, .int .i64 0, .int .i64 0, .int .i64 0, .int .i64 0] 36)) := (Below.refl _ _).alloc (Nat.le_refl _) _
      have H4 : Hid (LO w (Wz.alloc (.cells #[.int .i64 0, .int .i64 0, .int .i64 0, .int .i64 0, .int .i64 0, .int .i64 0, .int .i64 0, .int .i64 0, .int .i64 0] 36)) r ∧ Sl 3 Lp.cells (Wz.alloc (.cells #[.int .i64 0, .int .i64 0, .int .i64 0, .int .i64 0, .int .i64 0, .int .i64 0, .int .i64 0, .int .i64 0, .int .i64 0] 36)) a1 xs ∧ IntSl (Wz.alloc (.cells #[.int .i64 0, .int .i64 0, .int .i64 0, .int .i64 0, .int .i64 0, .int .i64 0, .int .i64 0, .int .i64 0, .int .i64 0] 36)) a2 c ∧ (Wz.alloc (.cells #[.int .i64 0, .int .i64 0, .int .i64 0, .int .i64 0, .int .i64 0, .int .i64 0, .int .i64 0, .int .i64 0, .int .i64 0] 36)).heap[Wz.heap.size]? = some (.cells #[.int .i64 0, .int .i64 0, .int .i64 0, .int .i64 0, .int .i64 0, .int .i64 0, .int .i64 0, .int .i64 0, .int .i64 0] 36 (0, 0)) ∧ w.heap.size < Wz.heap.size ∧ (0 < xs.length → ∀ p, a1 = some p → p.block ≠ Wz.heap.size) ∧ (0 < c.length → ∀ p, a2 = some p → p.block ≠ Wz.heap.size)) := ⟨Hz.out.1.below hb, Hz.out.2.1.below hb, Hz.out.2.2.below hb, heap_alloc_new _ _, lt_of_block Hz.out.1.p, (fun h0 p hp => Nat.ne_of_lt (sl_lt Hz.out.2.1 h0 p hp)), (fun h0 p hp => Nat.ne_of_lt (ints_lt Hz.out.2.2 h0 p hp))⟩
      clear hb
      refine hK.out _ _ ⟨blk_cell H4.out.1.p 0 rfl, blk_cell H4.out.1.p 1 rfl, blk_cell H4.out.1.p 2 rfl, blk_cell H4.out.1.p 3 rfl, blk_cell H4.out.1.p 4 rfl, blk_cell H4.out.1.p 5 rfl, blk_cell H4.out.1.p 6 rfl, blk_cell H4.out.1.p 7 rfl, blk_cell H4.out.1.p 8 rfl⟩ (fun _ => ?_)
      clear hK
      simp only [List.setIfInBounds_toArray, List.set_cons_zero, List.set_cons_succ]
      exact J21 _ a1 c1 a2 c2 _ H4
    simp only [Act.put, List.setIfInBounds_toArray, List.set_cons_zero, List.set_cons_succ] at J20
    refine with_joinL (fun G lz az => ∀ (Wz : World) (a1 : Option Addr) (c1 : Nat) (A : Nat), Hid (LO w Wz r ∧ Sl 3 Lp.cells Wz a1 xs ∧ Wz.heap[A]? = some (.cells #[.int .i64 0, .int .i64 0, .int .i64 0, .int .i64 0, .int .i64 0, .int .i64 0, .int .i64 0, .int .i64 0, .int .i64 0] 36 (0, 0)) ∧ w.heap.size < A ∧ (0 < xs.length → ∀ p, a1 = some p → p.block ≠ A)) → G 5 ((lz.setIfInBounds 1 true).setIfInBounds 7 true) ((az.put (some 35) (.slice a1 xs.length c1)).put (some 14) (.pointer (some ⟨A, 0, none⟩))) Wz) ?_ (fun J11 => ?_)
    · intro Wz a1 c1 A Hz
      simp only [Act.put, List.setIfInBounds_toArray, List.set_cons_zero, List.set_cons_succ]
      refine wpAnyH_ready (rs := [3]) (by kernel_rfl) (by simp) ?_
      refine AllReadyH.cons (o := _) rfl (fun K hK => ?_) AllReadyH.nil
      go_simp
      go_at_call 12
      refine (cloneInt_any ac c ccap Wz (HX.out.2.1.below Hz.out.1.b) HX.out.2.2.2 HL.out.2).mono ?_
      rintro e W5 ⟨a2, c2, rfl, hs, hf, hb⟩
      have H5 : Hid (LO w W5 r ∧ Sl 3 Lp.cells W5 a1 xs ∧ IntSl W5 a2 c ∧ W5.heap[A]? = some (.cells #[.int .i64 0, .int .i64 0, .int .i64 0, .int .i64 0, .int .i64 0, .int .i64 0, .int .i64 0, .int .i64 0, .int .i64 0] 36 (0, 0)) ∧ w.heap.size < A ∧ (0 < xs.length → ∀ p, a1 = some p → p.block ≠ A) ∧ (0 < c.length → ∀ p, a2 = some p → p.block ≠ A)) := ⟨Hz.out.1.below hb, Hz.out.2.1.below hb, hs, blk_below Hz.out.2.2.1 hb, Hz.out.2.2.2.1, Hz.out.2.2.2.2, (fun _ p hp => by have h1 := hf p hp; have h2 := lt_of_block Hz.out.2.2.1; omega)⟩
      clear hs hf hb
      refine hK.out _ _ ⟨blk_cell H5.out.1.p 0 rfl, blk_cell H5.out.1.p 1 rfl, blk_cell H5.out.1.p 2 rfl, blk_cell H5.out.1.p 3 rfl, blk_cell H5.out.1.p 4 rfl, blk_cell H5.out.1.p 5 rfl, blk_cell H5.out.1.p 6 rfl, blk_cell H5.out.1.p 7 rfl, blk_cell H5.out.1.p 8 rfl⟩ (fun _ => ?_)
      clear hK
      simp only [List.setIfInBounds_toArray, List.set_cons_zero, List.set_cons_succ]
      exact J21 _ a1 c1 a2 c2 A H5
    simp only [Act.put, List.setIfInBounds_toArray, List.set_cons_zero, List.set_cons_succ] at J11
    refine with_joinL (fun G lz az => ∀ (Wz : World) (a1 : Option Addr) (c1 : Nat), Hid (LO w Wz r ∧ Sl 3 Lp.cells Wz a1 xs) → G 6 (lz.setIfInBounds 1 true) (az.put (some 35) (.slice a1 xs.length c1)) Wz) ?_ (fun J10 => ?_)
    · intro Wz a1 c1 Hz
      simp only [Act.put, List.setIfInBounds_toArray, List.set_cons_zero, List.set_cons_succ]
      refine wpAnyH_ready (rs := [3, 7]) (by kernel_rfl) (by simp) ?_
      refine AllReadyH.cons (o := _) rfl (fun K hK => ?_) ?_
      · go_simp
        go_at_call 12
        refine (cloneInt_any ac c ccap Wz (HX.out.2.1.below Hz.out.1.b) HX.out.2.2.2 HL.out.2).mono ?_
        rintro e W6 ⟨a2, c2, rfl, hs, hf, hb⟩
        have H6 : Hid (LO w W6 r ∧ Sl 3 Lp.cells W6 a1 xs ∧ IntSl W6 a2 c) := ⟨Hz.out.1.below hb, Hz.out.2.below hb, hs⟩
        clear hs hf hb
        refine hK.out _ _ ⟨blk_cell H6.out.1.p 0 rfl, blk_cell H6.out.1.p 1 rfl, blk_cell H6.out.1.p 2 rfl, blk_cell H6.out.1.p 3 rfl, blk_cell H6.out.1.p 4 rfl, blk_cell H6.out.1.p 5 rfl, blk_cell H6.out.1.p 6 rfl, blk_cell H6.out.1.p 7 rfl, blk_cell H6.out.1.p 8 rfl⟩ (fun _ => ?_)
        clear hK
        simp only [List.setIfInBounds_toArray, List.set_cons_zero, List.set_cons_succ]
        exact J20 _ a1 c1 a2 c2 H6
      refine AllReadyH.cons (o := _) rfl (fun K hK => ?_) AllReadyH.nil
      go_simp
      have hb : Below Wz.heap.size Wz (Wz.alloc (.cells #[.int .i64 0, .int .i64 0, .int .i64 0, .int .i64 0, .int .i64 0, .int .i64 0, .int .i64 0, .int .i64 0, .int .i64 0] 36)) := (Below.refl _ _).alloc (Nat.le_refl _) _
      have H7 : Hid (LO w (Wz.alloc (.cells #[.int .i64 0, .int .i64 0, .int .i64 0, .int .i64 0, .int .i64 0, .int .i64 0, .int .i64 0, .int .i64 0, .int .i64 0] 36)) r ∧ Sl 3 Lp.cells (Wz.alloc (.cells #[.int .i64 0, .int .i64 0, .int .i64 0, .int .i64 0, .int .i64 0, .int .i64 0, .int .i64 0, .int .i64 0, .int .i64 0] 36)) a1 xs ∧ (Wz.alloc (.cells #[.int .i64 0, .int .i64 0, .int .i64 0, .int .i64 0, .int .i64 0, .int .i64 0, .int .i64 0, .int .i64 0, .int .i64 0] 36)).heap[Wz.heap.size]? = some (.cells #[.int .i64 0, .int .i64 0, .int .i64 0, .int .i64 0, .int .i64 0, .int .i64 0, .int .i64 0, .int .i64 0, .int .i64 0] 36 (0, 0)) ∧ w.heap.size < Wz.heap.size ∧ (0 < xs.length → ∀ p, a1 = some p → p.block ≠ Wz.heap.size)) := ⟨Hz.out.1.below hb, Hz.out.2.below hb, heap_alloc_new _ _, lt_of_block Hz.out.1.p, (fun h0 p hp => Nat.ne_of_lt (sl_lt Hz.out.2 h0 p hp))⟩
      clear hb
      refine hK.out _ _ ⟨blk_cell H7.out.1.p 0 rfl, blk_cell H7.out.1.p 1 rfl, blk_cell H7.out.1.p 2 rfl, blk_cell H7.out.1.p 3 rfl, blk_cell H7.out.1.p 4 rfl, blk_cell H7.out.1.p 5 rfl, blk_cell H7.out.1.p 6 rfl, blk_cell H7.out.1.p 7 rfl, blk_cell H7.out.1.p 8 rfl⟩ (fun _ => ?_)
      clear hK
      simp only [List.setIfInBounds_toArray, List.set_cons_zero, List.set_cons_succ]
      exact J11 _ a1 c1 _ H7
    simp only [Act.put, List.setIfInBounds_toArray, List.set_cons_zero, List.set_cons_succ] at J10
    refine with_joinL (fun G lz az => ∀ (Wz : World) (A : Nat), Hid (LO w Wz r ∧ Wz.heap[A]? = some (.cells #[.int .i64 0, .int .i64 0, .int .i64 0, .int .i64 0, .int .i64 0, .int .i64 0, .int .i64 0, .int .i64 0, .int .i64 0] 36 (0, 0)) ∧ w.heap.size < A) → G 6 (lz.setIfInBounds 7 true) (az.put (some 14) (.pointer (some ⟨A, 0, none⟩))) Wz) ?_ (fun J01 => ?_)
    · intro Wz A Hz
      simp only [Act.put, List.setIfInBounds_toArray, List.set_cons_zero, List.set_cons_succ]
      refine wpAnyH_ready (rs := [1]) (by kernel_rfl) (by simp) ?_
      refine AllReadyH.cons (o := _) rfl (fun K hK => ?_) AllReadyH.nil
      go_simp
      go_at_call 11
      refine (cloneLp_any a xs cap Wz (HX.out.1.below Hz.out.1.b) HX.out.2.2.1 HL.out.1).mono ?_
      rintro e W8 ⟨a1, c1, rfl, hs, hf, hb⟩
      have H8 : Hid (LO w W8 r ∧ Sl 3 Lp.cells W8 a1 xs ∧ W8.heap[A]? = some (.cells #[.int .i64 0, .int .i64 0, .int .i64 0, .int .i64 0, .int .i64 0, .int .i64 0, .int .i64 0, .int .i64 0, .int .i64 0] 36 (0, 0)) ∧ w.heap.size < A ∧ (0 < xs.length → ∀ p, a1 = some p → p.block ≠ A)) := ⟨Hz.out.1.below hb, hs, blk_below Hz.out.2.1 hb, Hz.out.2.2, (fun _ p hp => by have h1 := hf p hp; have h2 := lt_of_block Hz.out.2.1; omega)⟩
      clear hs hf hb
      refine hK.out _ _ ⟨blk_cell H8.out.1.p 0 rfl, blk_cell H8.out.1.p 1 rfl, blk_cell H8.out.1.p 2 rfl, blk_cell H8.out.1.p 3 rfl, blk_cell H8.out.1.p 4 rfl, blk_cell H8.out.1.p 5 rfl, blk_cell H8.out.1.p 6 rfl, blk_cell H8.out.1.p 7 rfl, blk_cell H8.out.1.p 8 rfl⟩ (fun _ => ?_)
      clear hK
      simp only [List.setIfInBounds_toArray, List.set_cons_zero, List.set_cons_succ]
      exact J11 _ a1 c1 A H8
    simp only [Act.put, List.setIfInBounds_toArray, List.set_cons_zero, List.set_cons_succ] at J01
    refine wpAnyH_ready (rs := [1, 7]) (by kernel_rfl) (by simp) ?_
    refine AllReadyH.cons (o := _) rfl (fun K hK => ?_) ?_
    · go_simp
      go_at_call 11
      refine (cloneLp_any a xs cap W0 (HX.out.1.below H0.out.b) HX.out.2.2.1 HL.out.1).mono ?_
      rintro e W9 ⟨a1, c1, rfl, hs, hf, hb⟩
      have H9 : Hid (LO w W9 r ∧ Sl 3 Lp.cells W9 a1 xs) := ⟨H0.out.below hb, hs⟩
      clear hs hf hb
      refine hK.out _ _ ⟨blk_cell H9.out.1.p 0 rfl, blk_cell H9.out.1.p 1 rfl, blk_cell H9.out.1.p 2 rfl, blk_cell H9.out.1.p 3 rfl, blk_cell H9.out.1.p 4 rfl, blk_cell H9.out.1.p 5 rfl, blk_cell H9.out.1.p 6 rfl, blk_cell H9.out.1.p 7 rfl, blk_cell H9.out.1.p 8 rfl⟩ (fun _ => ?_)
      clear hK
      simp only [List.setIfInBounds_toArray, List.set_cons_zero, List.set_cons_succ]
      exact J10 _ a1 c1 H9
    refine AllReadyH.cons (o := _) rfl (fun K hK => ?_) AllReadyH.nil
    go_simp
    have hb : Below W0.heap.size W0 (W0.alloc (.cells #[.int .i64 0, .int .i64 0, .int .i64 0, .int .i64 0, .int .i64 0, .int .i64 0, .int .i64 0, .int .i64 0, .int .i64 0] 36)) := (Below.refl _ _).alloc (Nat.le_refl _) _
    have H10 : Hid (LO w (W0.alloc (.cells #[.int .i64 0, .int .i64 0, .int .i64 0, .int .i64 0, .int .i64 0, .int .i64 0, .int .i64 0, .int .i64 0, .int .i64 0] 36)) r ∧ (W0.alloc (.cells #[.int .i64 0, .int .i64 0, .int .i64 0, .int .i64 0, .int .i64 0, .int .i64 0, .int .i64 0, .int .i64 0, .int .i64 0] 36)).heap[W0.heap.size]? = some (.cells #[.int .i64 0, .int .i64 0, .int .i64 0, .int .i64 0, .int .i64 0, .int .i64 0, .int .i64 0, .int .i64 0, .int .i64 0] 36 (0, 0)) ∧ w.heap.size < W0.heap.size) := ⟨H0.out.below hb, heap_alloc_new _ _, lt_of_block H0.out.p⟩
    clear hb
    refine hK.out _ _ ⟨blk_cell H10.out.1.p 0 rfl, blk_cell H10.out.1.p 1 rfl, blk_cell H10.out.1.p 2 rfl, blk_cell H10.out.1.p 3 rfl, blk_cell H10.out.1.p 4 rfl, blk_cell H10.out.1.p 5 rfl, blk_cell H10.out.1.p 6 rfl, blk_cell H10.out.1.p 7 rfl, blk_cell H10.out.1.p 8 rfl⟩ (fun _ => ?_)
    clear hK
    simp only [List.setIfInBounds_toArray, List.set_cons_zero, List.set_cons_succ]
    exact J01 _ _ H10
  · clear hn
    have HB := Lib.hid HO.out.b
    cases bb
    · have h10 : 10 < c.length := by
        rcases Nat.lt_or_ge 10 c.length with h | h
        · exact h
        · exact absurd ⟨rfl, h⟩ hgo
      clear hgo
      go_wp2_with (first | (go_at_call 10; refine (awake_any _).mono ?_; rintro e v7 ⟨rfl, hb⟩; have HM2 := Lib.hid (below_self HB.out hb); clear hb))
      go_ret
      exact ⟨rfl, HM2.out⟩
    · clear hgo
      go_wp2_with (first | (go_at_call 10; refine (awake_any _).mono ?_; rintro e v7 ⟨rfl, hb⟩; have HM2 := Lib.hid (below_self HB.out hb); clear hb))
      go_ret
      exact ⟨rfl, HM2.out⟩
end Go.Proofs.YtgldfnkjfgcjpaaGreat

namespace Go.Proofs.YtgldfnkjfgcjpaaGreat
open Go.RowKit Go.Shelf
attribute [local go_sem] Oper.semAt_some

/-- As OutC3, and the course is new memory. -/
def OutC3F (w : World) (x : List Int × Int × Int) (e : Ending) (w' : World) : Prop := ∃ a cap, e = .returned (.tuple #[.slice a x.1.length cap, .int .i64 x.2.1, .int .i64 x.2.2]) ∧ IntSl w' a x.1 ∧ Below w.heap.size w w' ∧ (∀ p, a = some p → w.heap.size ≤ p.block)
theorem OutC3F.nil {w w' : World} {m err : Int} {e : Ending} (he : e = .returned (.tuple #[.slice none 0 0, .int .i64 m, .int .i64 err])) (hb : Below w.heap.size w w') : OutC3F w ([], m, err) e w' :=
  ⟨none, 0, he, (fun h => by simp at h), hb, (fun p h => by cases h)⟩

theorem row_of_owns {W : World} {base : Nat} {v : Value} {n : Nat} {o : List Int} (h : W.ownsRow base 3 1 v n (o.map (Value.int .i64))) (h0 : 0 < n) : ∃ g c, v = .slice (some ⟨g, 0, none⟩) n c ∧ RowI W g o ∧ base ≤ g ∧ o.length = n := by
  have hl : o.length = n := by have := h.1; simpa using this
  rcases h.2 with ⟨_, h1⟩ | ⟨g, c, cur, rfl, hgb, hg, hnc, hcm, hcs, htake⟩
  · omega
  · exact ⟨g, c, rfl, ⟨cur, hg, by rw [hl]; simpa using htake⟩, hgb, hl⟩
theorem RowI.lt {W : World} {g : Nat} {o : List Int} (h : RowI W g o) : g < W.heap.size := by
  obtain ⟨cur, h1, _⟩ := h; exact lt_of_block h1
theorem RowI.apart {A C : World} {g : Nat} {o : List Int} {own : Nat → Prop} (h : RowI A g o) (k : Apart own A C) (hn : ¬ own g) : RowI C g o := h.keep (k.block g h.lt hn)
theorem RowI.at' {W : World} {g : Nat} {o : List Int} (h : RowI W g o) : ∀ j u, (o.map (Value.int .i64))[j]? = some u → W.cell? ((⟨g, 0, none⟩ : Addr).add j) = some u := fun j u hu => by
  have hj : j < o.length := by
    rcases Nat.lt_or_ge j o.length with h | h
    · exact h
    · rw [List.getElem?_eq_none (by rw [List.length_map]; exact h)] at hu; cases hu
  have e : (⟨g, 0, none⟩ : Addr).add j = ⟨g, 0 + j, none⟩ := by unfold Addr.add; split <;> simp_all
  rw [e, Nat.zero_add, h.cell hj]
  rw [List.getElem?_map, List.getElem?_eq_getElem hj] at hu
  unfold atI
  rw [List.getElem?_eq_getElem hj]
  simpa using hu

set_option maxHeartbeats 1000000 in
theorem cloneOwn_any (g : Nat) (o : List Int) (cap : Nat) (w : World) (hx : RowI w g o) (h0 : 0 < o.length ∧ o.length ≤ 1000) :
    Calls Tryz.prog 12 #[.slice (some ⟨g, 0, none⟩) o.length cap] w fun e w' => ∃ v, e = .returned v ∧ w'.ownsRow w.heap.size 3 1 v o.length (o.map (Value.int .i64)) ∧ Below w.heap.size w w' := by
  obtain ⟨i0, hi, hz0, hz1, hz2⟩ := info_parts Tryz.info3
  have HC := Lib.hid hx.at'
  clear hx
  go_enter Tryz.func12, Tryz.ntmps12
  go_wp2_with (at_builtin; refine wpList_append_own_at _ rfl _ _ 27 rfl w.heap.size 3 i0 (.int .i64 0) 1 8 Tryz.underlying27 hi hz0 hz1 hz2 rfl (by decide) (.slice none 0 0) 0 [] rfl ⟨rfl, .inl ⟨rfl, rfl⟩⟩ ⟨g, 0, none⟩ o.length cap (o.map (Value.int .i64)) rfl ?c0 ?c1 ?c2 ?c3 ?c4 ?c5 ?_)
  case c0 => rw [List.length_map, Nat.mul_one]
  case c1 => exact HC.out
  case c2 => intro u hu; obtain ⟨x, _, rfl⟩ := List.mem_map.1 hu; rfl
  case c3 => unfold maxLen; omega
  case c4 => omega
  case c5 => exact Nat.le_refl _
  intro v' w2 hown2 hgrow2 _ _
  have hb3 : Below w.heap.size w w2 := (Below.refl _ w).grown hgrow2 (Nat.le_refl _) (fun j hj => by simp [Value.ownBlock] at hj)
  have HO := Lib.hid (And.intro hown2 hb3)
  clear hown2 hgrow2 hb3
  go_wp2
  go_ret
  exact ⟨v', rfl, HO.out.1, HO.out.2⟩

theorem sortR_any (g : Nat) (o : List Int) (cap : Nat) (w : World) (h : RowI w g o) (hl : 1 ≤ o.length ∧ o.length ≤ 6) :
    Calls Tryz.prog 64 #[.slice (some ⟨g, 0, none⟩) o.length cap] w fun e w' => (∃ v, e = .returned v) ∧ ∃ o' : List Int, o'.Perm o ∧ o'.Pairwise (fun x y => x ≤ y) ∧ RowI w' g o' ∧ Apart (fun j => j = g) w w' := by
  refine (sort_any g o o.length cap w h rfl hl.1 hl.2).mono ?_
  rintro e W ⟨he, o', hS, hT⟩
  have h1 : o'.length = o.length := hS.p.length_eq
  exact ⟨he, o', hS.p, Srt.pairs (by rw [h1]; exact hT), hS.row, hS.ap⟩

theorem eg65 : ∀ args w, (callFunc 65 args).run Tryz.prog w = .ok (.enter 65 args) w := enters_of Tryz.func65 (by kernel_rfl) rfl
set_option maxHeartbeats 1000000 in
theorem same2_any (B : Nat) (a : Option Addr) (x : List Int) (ca : Nat) (b : Option Addr) (c : List Int) (cb : Nat) (w : World) (hB : w.heap[B]? = some (.cells #[.slice b c.length cb] 27 (0, 0))) (hx : IntSl w a x) (hc : IntSl w b c) (hl : c.length ≤ 1000000) :
    Calls Tryz.prog 65 #[.slice a x.length ca, .pointer (some ⟨B, 0, none⟩)] w fun e w' => e = .returned (.bool (decide (c = x))) ∧ Below w.heap.size w w' := by
  have HC := Lib.hid (equal_int b c cb a x ca w hc hx hl)
  have t0 := blk_cell hB 0 rfl
  clear hB hx hc
  go_enter Tryz.func65, Tryz.ntmps65
  go_wp2_with (fail)
  refine HC.out.mono ?_
  rintro e w1 ⟨rfl, hb⟩
  go_wp2
  go_ret
  exact ⟨rfl, hb⟩

set_option maxHeartbeats 800000 in
set_option maxRecDepth 100000 in
theorem cheapestF_in (n : Nat) (a : Option Addr) (xs : List Lp) (cap : Nat) (r : Ru) (depth : Int) (w : World) (hx : Sl 3 Lp.cells w a xs) (hl : xs.length ≤ 1000000) :
    CallsIn Fence.wide n Tryz.prog 21 #[.slice a xs.length cap, r.v, .int .i64 depth] w (OutC3F w (cheapR xs r depth)) := by
  have q136 : ∀ (w : World) (a : Option Addr) (n c n' c' : Nat), (binOp .eql 137 (.slice a n c) (.slice none n' c')).run Tryz.prog w = .ok (.bool a.isNone) w := fun w a n c n' c' => Lib.run_eql_slice_nil w _ _ a n c n' c' Tryz.underlying137
  obtain ⟨Wa, hWa⟩ : ∃ Wa, ((w.alloc (.cells #[.slice a xs.length cap] 22)).alloc r.o).alloc (.cells #[.int .i64 depth] 3) = Wa := ⟨_, rfl⟩
  have hba : Below w.heap.size w Wa := by rw [← hWa]; exact (((Below.refl _ _).alloc (Nat.le_refl _) _).alloc (by simp) _).alloc (by simp <;> omega) _
  have h0 : Wa.heap[w.heap.size]? = some (.cells #[.slice a xs.length cap] 22 (0, 0)) := by rw [← hWa]; exact alk (alk (new_at rfl))
  have h1 : RuAt Wa (w.heap.size + 1) r := by rw [← hWa]; exact alk (new_at (by simp))
  have h2 : Wa.heap[w.heap.size + 1 + 1]? = some (.cells #[.int .i64 depth] 3 (0, 0)) := by rw [← hWa]; exact new_at (by simp)
  refine callsIn_of_wp_marks Tryz.func21 rfl trivial ?_ rfl
  simp only [Tryz.ntmps21, List.size_toArray, List.length_cons, List.length_nil, Nat.reduceAdd, Nat.reduceSub, Array.replicate_succ, Array.replicate_zero, List.push_toArray, List.append_toArray, List.nil_append, List.cons_append]
  have t00 := blk_cell h0 0 rfl
  obtain ⟨d0, d1, d2, d3, d4, d5, d6, d7, d8⟩ := h1.cells
  gi_wp2_with fail
  clear hWa t00 d0 d1 d2 d3 d4 d5 d6 d7 d8
  refine ⟨trivial, (fun h => by cases h), ?_⟩
  refine (callsIn_wide.2 (check_any a xs cap r _ (hx.below hba) hl)).mono ?_
  rintro e w1 ⟨rfl, hb⟩
  have hb1 := below_self hba hb
  by_cases hck : checkE xs r = 0
  · have h1b : (checkE xs r != 0) = false := by simp [hck]
    have HR : Hid (cheapR xs r depth = (if withinB depth 1 200 = true then (match bestOf xs depth (rightL xs r) with | none => ([], 0, 6) | some (b, m) => (b, m, 0)) else ([], 0, 3) : List Int × Int × Int)) := by show _ = _; rw [cheapR, if_pos hck]; rfl
    have HCK := Lib.hid hck
    clear hck
    have t2 := blk_cell (blk_below h2 hb) 0 rfl
    cases hd : withinB depth 1 200
    · have HR2 : Hid (cheapR xs r depth = ([], 0, 3)) := by show _ = _; rw [HR.out, hd]; rfl
      gi_wp2_with (refine ⟨trivial, (fun h => by cases h), ?_⟩; refine (callsIn_wide.2 (within_any _ _ _ _)).mono ?_; rintro e w' ⟨rfl, rfl⟩)
      refine ⟨_, by simp [results, Tryz.results21, go_sem]; rfl, ?_⟩
      rw [HR2.out]
      exact OutC3F.nil rfl hb1
    · have HR2 : Hid (cheapR xs r depth = (match bestOf xs depth (rightL xs r) with | none => ([], 0, 6) | some (b, m) => (b, m, 0) : List Int × Int × Int)) := by show _ = _; rw [HR.out, hd]; rfl
      have HD := Lib.hid hd
      have t0 := blk_cell (blk_below h0 hb) 0 rfl
      obtain ⟨c0, c1, c2, c3, c4, c5, c6, c7, c8⟩ := (h1.below hb).cells
      have hz1 : w.heap.size + 3 ≤ w1.heap.size := by have := lt_of_block h2; have := hb.size; omega
      have hz2 : w.heap.size < w1.heap.size := by omega
      have hz3 : w.heap.size + 1 < w1.heap.size := by omega
      have hz4 : w.heap.size + 1 + 1 < w1.heap.size := by omega
      gi_wp2_with (first | (refine ⟨trivial, (fun h => by cases h), ?_⟩; gi_at_call 79; refine (callsIn_wide.2 (within_any _ _ _ _)).mono ?_; rintro e w' ⟨rfl, rfl⟩; rw [hd]) | (refine ⟨trivial, (fun h => by cases h), ?_⟩; refine (callsIn_wide.2 (right_any a xs.length cap r _)).mono ?_; rintro e w2 ⟨rfl, rfl⟩))
      have hal := (stad_ok (check_ok HCK.out).1).1
      have hl12 := (stad_ok (check_ok HCK.out).1).2
      have hab : ∀ p, a = some p → p.block < w.heap.size := sl_lt hx (by omega)
      have hdd : 1 ≤ depth ∧ depth ≤ 200 := by have := HD.out; simp [withinB] at this; omega
      have hs0 := blk_below h0 hb
      have hs2 := blk_below h2 hb
      clear t0 t2 c0 c1 c2 c3 c4 c5 c6 c7 c8 hd
      obtain ⟨Wr, hWr⟩ : ∃ Wr, (((w1.alloc (.cells #[.slice none 0 0] 137)).alloc (.cells #[.int .i64 0] 3)).alloc (.cells #[.slice a xs.length cap] 22)).alloc r.o = Wr := ⟨_, rfl⟩
      have hzr : Wr.heap.size = w1.heap.size + 4 := by rw [← hWr]; simp
      have hbr : Below w1.heap.size w1 Wr := by rw [← hWr]; exact ((((Below.refl _ _).alloc (Nat.le_refl _) _).alloc (by simp) _).alloc (by simp <;> omega) _).alloc (by simp <;> omega) _
      have g0 : Wr.heap[w1.heap.size]? = some (.cells #[.slice none 0 0] 137 (0, 0)) := by rw [← hWr]; exact alk (alk (alk (new_at rfl)))
      have g1 : Wr.heap[w1.heap.size + 1]? = some (.cells #[.int .i64 0] 3 (0, 0)) := by rw [← hWr]; exact alk (alk (new_at (by simp)))
      have g2 : Wr.heap[w1.heap.size + 1 + 1]? = some (.cells #[.slice a xs.length cap] 22 (0, 0)) := by rw [← hWr]; exact alk (new_at (by simp))
      have g3 : RuAt Wr (w1.heap.size + 1 + 1 + 1) r := by rw [← hWr]; exact new_at (by simp)
      have hseq := right1_seq a xs cap r r.laps.toNat (w1.heap.size + 1 + 1) (w1.heap.size + 1 + 1 + 1) Wr (hx.below (below_self hb1 hbr)) HCK.out (laps_nat HCK.out).1 g2 g3
      have hlap := (laps_nat HCK.out).2
      have HRL : Hid (rightL xs r = (extC xs.length r.laps.toNat [] 0).filter (okC xs r)) := rfl
      have hSub : ∀ c ∈ (extC xs.length r.laps.toNat [] 0).filter (okC xs r), c ∈ extC xs.length r.laps.toNat [] 0 := fun c hc => (List.mem_filter.1 hc).1
      generalize hS : (extC xs.length r.laps.toNat [] 0).filter (okC xs r) = S at hseq hSub HRL
      have notOwn : ∀ j, w1.heap.size ≤ j → j < w1.heap.size + 2 → ¬ ownOf (fun k => k = w1.heap.size + 1 + 1 ∨ k = w1.heap.size + 1 + 1 + 1 ∨ ∃ p, a = some p ∧ k = p.block) (9 + 2) Wr.heap.size j := fun j h0 hj h => by
        rw [hzr] at h
        rcases h with (h | h | ⟨q, hq, rfl⟩) | h
        · omega
        · omega
        · have := hab q hq; omega
        · omega
      rw [hWr]
      clear hWr hS
      refine range_seqC (gf := 134) (lb := #[.pointer (some ⟨w1.heap.size + 1 + 1, 0, none⟩), .pointer (some ⟨w1.heap.size + 1 + 1 + 1, 0, none⟩)]) rfl eg140 hseq (Below.refl _ _) (fun k h => by
          rw [hzr]
          rcases h with h | h | ⟨q, hq, rfl⟩
          · omega
          · omega
          · have := hab q hq; omega)
        (fun pre W' => BInv w1 (bestOf xs depth pre) W') (fun _ _ => False)
        (fun s A B h hap => h.apart (by rw [hzr] at hap; exact hap)) (fun _ _ _ h _ => h)
        ⟨hbr, g0, g1⟩
        (fun v => { tmps := #[.slice a xs.length cap, r.v, .int .i64 depth, .pointer (some ⟨w.heap.size, 0, none⟩), .pointer (some ⟨w.heap.size + 1, 0, none⟩), .pointer (some ⟨w.heap.size + 1 + 1, 0, none⟩), .slice none 0 0, .int .i64 0, .int .i64 0, .int .i64 (checkE xs r), .pointer (some ⟨w1.heap.size, 0, none⟩), .pointer (some ⟨w1.heap.size + 1, 0, none⟩), v, undef, .slice a xs.length cap, r.v, .int .i64 (checkE xs r), .int .i64 (checkE xs r), .bool false, undef, .int .i64 depth, .bool true, .bool false, .slice a xs.length cap, r.v, .func (.func 134) #[] #[.pointer (some ⟨w1.heap.size + 1 + 1, 0, none⟩), .pointer (some ⟨w1.heap.size + 1 + 1 + 1, 0, none⟩)], v, undef, undef, undef, undef, undef, undef, undef, undef, undef, undef, undef, undef, undef, undef, undef, undef, undef], defers := [] })
        ?assign ?body ?done ?stop
      case assign =>
        intro l k v W K hK
        gi_wp2
        exact hK
      case body =>
        rintro l2 k pre c av ccap W1 hC hpre hsl hty hfr
        have hcS : c ∈ S := hpre.subset (by simp)
        obtain ⟨hcl, _⟩ := extC_ok xs.length r.laps.toNat [] 0 (by simp) c (hSub c hcS)
        simp at hcl
        have hc1 : 0 < c.length := by omega
        have hc2 : c.length ≤ 1000000 := by omega
        have HST : Hid (bestOf xs depth (pre ++ [c]) = bestStep xs depth (bestOf xs depth pre) c) := bestOf_snoc _ _ _ _
        clear hcl hcS hpre
        obtain ⟨qb, qo, hav, hqb, hqc⟩ := hsl hc1
        subst hav
        have hq15 : w1.heap.size + 15 ≤ qb := by have := hfr _ rfl; rw [hzr] at this; have : w1.heap.size + 4 + 2 + 9 ≤ qb := this; omega
        clear hqc hfr
        have hw0 := hs0
        have s0 := blk_cell (blk_below hs0 hC.b) 0 rfl
        have s2 := blk_cell (blk_below hs2 hC.b) 0 rfl
        have hxW := hx.below (below_self hb1 hC.b)
        generalize hst : bestOf xs depth pre = st at hC HST
        clear hst
        have hbest := hC.best
        cases st with
        | none =>
          obtain ⟨e0, e1⟩ := hbest
          have HF : Hid (bestOf xs depth (pre ++ [c]) = some (c, snowL xs c depth)) := HST.out
          gi_wp2_with (refine ⟨trivial, (fun h => by cases h), ?_⟩; refine (CallsIn.inRound l2 (callsIn_wide.2 (snow_any a xs cap _ c ccap depth _ hxW hsl hl12.2 hc2 hal hdd))).mono ?_; rintro e w2 ⟨rfl, hb2⟩; have f0 := blk_cell (blk_below e0 hb2) 0 rfl; have f1 := blk_free (j := 0) (blk_below e0 hb2); have f2 := blk_cell (blk_below e1 hb2) 0 rfl; have f3 := blk_free (j := 0) (blk_below e1 hb2))
          refine ⟨((Keeps.of_below hb2).trans (Keeps.setCell _ (q := ⟨w1.heap.size, 0, none⟩) (notOwn (w1.heap.size) (by omega) (by omega)) _)).trans (Keeps.setCell _ (q := ⟨w1.heap.size + 1, 0, none⟩) (notOwn (w1.heap.size + 1) (by omega) (by omega)) _), ?_⟩
          show BInv w1 (bestOf xs depth (pre ++ [c])) _
          rw [HF.out]
          exact hC.put hb2 e0 e1 (hsl.below hb2) hq15
        | some p =>
          obtain ⟨pb, pm⟩ := p
          obtain ⟨q, bcap, e0, e1, e2, e3⟩ := hbest
          by_cases hlt : snowL xs c depth < pm
          · have HF : Hid (bestOf xs depth (pre ++ [c]) = some (c, snowL xs c depth)) := by show _ = _; rw [HST.out]; simp [bestStep, hlt]
            gi_wp2_with (refine ⟨trivial, (fun h => by cases h), ?_⟩; refine (CallsIn.inRound l2 (callsIn_wide.2 (snow_any a xs cap _ c ccap depth _ hxW hsl hl12.2 hc2 hal hdd))).mono ?_; rintro e w2 ⟨rfl, hb2⟩; have f0 := blk_cell (blk_below e0 hb2) 0 rfl; have f1 := blk_free (j := 0) (blk_below e0 hb2); have f2 := blk_cell (blk_below e1 hb2) 0 rfl; have f3 := blk_free (j := 0) (blk_below e1 hb2))
            refine ⟨((Keeps.of_below hb2).trans (Keeps.setCell _ (q := ⟨w1.heap.size, 0, none⟩) (notOwn (w1.heap.size) (by omega) (by omega)) _)).trans (Keeps.setCell _ (q := ⟨w1.heap.size + 1, 0, none⟩) (notOwn (w1.heap.size + 1) (by omega) (by omega)) _), ?_⟩
            show BInv w1 (bestOf xs depth (pre ++ [c])) _
            rw [HF.out]
            exact hC.put hb2 e0 e1 (hsl.below hb2) hq15
          · have HF : Hid (bestOf xs depth (pre ++ [c]) = some (pb, pm)) := by show _ = _; rw [HST.out]; simp [bestStep, hlt]
            gi_wp2_with (refine ⟨trivial, (fun h => by cases h), ?_⟩; refine (CallsIn.inRound l2 (callsIn_wide.2 (snow_any a xs cap _ c ccap depth _ hxW hsl hl12.2 hc2 hal hdd))).mono ?_; rintro e w2 ⟨rfl, hb2⟩; have f0 := blk_cell (blk_below e0 hb2) 0 rfl; have f1 := blk_free (j := 0) (blk_below e0 hb2); have f2 := blk_cell (blk_below e1 hb2) 0 rfl; have f3 := blk_free (j := 0) (blk_below e1 hb2))
            refine ⟨Keeps.of_below hb2, ?_⟩
            show BInv w1 (bestOf xs depth (pre ++ [c])) _
            rw [HF.out]
            exact hC.apart (Apart.of_below hb2)
      case done =>
        rintro W2 hC hK
        rw [hzr] at hK
        have HR3 : Hid (cheapR xs r depth = (match bestOf xs depth S with | none => ([], 0, 6) | some (b, m) => (b, m, 0) : List Int × Int × Int)) := by show _ = _; rw [HR2.out, HRL.out]
        have hbest := hC.best
        generalize bestOf xs depth S = st at hC HR3 hbest
        have hB4 : Below w.heap.size w (W2.putObj (w1.heap.size + 4) (.deferred none)) := (below_self hb1 hC.b).trans ⟨rfl, rfl, rfl, by rw [putObj_size]; exact Nat.le_refl _, fun j hj => World.putObj_heap_other (by omega)⟩
        cases st with
        | none =>
          obtain ⟨e0, e1⟩ := hbest
          have f0 := blk_cell e0 0 rfl
          gi_wp2
          refine ⟨by simp, .inl ⟨_, _, rfl, run_takeDeferred hK, ?_⟩⟩
          refine ⟨_, by simp [results, Tryz.results21, go_sem]; rfl, ?_⟩
          rw [HR3.out]
          exact OutC3F.nil rfl hB4
        | some p =>
          obtain ⟨pb, pm⟩ := p
          obtain ⟨q, bcap, e0, e1, e2, e3⟩ := hbest
          have f0 := blk_cell e0 0 rfl
          have f1 := blk_cell e1 0 rfl
          gi_wp2
          gi_region
          all_goals gi_wp2
          all_goals first | refine ⟨by simp, .inl ⟨_, _, rfl, run_takeDeferred ‹_›, ?_⟩⟩ | skip
          all_goals (refine ⟨_, by simp [results, Tryz.results21, go_sem]; rfl, ?_⟩; rw [HR3.out])
          all_goals exact ⟨some q, bcap, rfl, ints_same e2 (by rw [putObj_size]; exact Nat.le_refl _) (fun p hp _ => by cases hp; exact World.putObj_heap_other (w := W2) (by omega)), (by obtain ⟨x1, x2, x3, x4, x5⟩ := hB4; exact ⟨x1, x2, x3, x4, x5⟩), fun p hp => by cases hp; have := hb1.size; omega⟩
      case stop =>
        rintro pre W2 _ h _
        exact h.elim
  · have h1b : (checkE xs r != 0) = true := by simp [hck]
    have HR2 : Hid (cheapR xs r depth = ([], 0, checkE xs r)) := by show _ = _; rw [cheapR, if_neg hck]
    clear hck
    gi_wp2
    refine ⟨_, by simp [results, Tryz.results21, go_sem]; rfl, ?_⟩
    rw [HR2.out]
    exact OutC3F.nil rfl hb1
theorem cheapest_far (a : Option Addr) (xs : List Lp) (cap : Nat) (r : Ru) (depth : Int) (w : World) (hx : Sl 3 Lp.cells w a xs) (hl : xs.length ≤ 1000000) :
    Calls Tryz.prog 21 #[.slice a xs.length cap, r.v, .int .i64 depth] w (OutC3F w (cheapR xs r depth)) := callsIn_wide.1 (cheapestF_in 0 a xs cap r depth w hx hl)
end Go.Proofs.YtgldfnkjfgcjpaaGreat

namespace Go.Proofs.YtgldfnkjfgcjpaaGreat
open Go.RowKit Go.Shelf

theorem areaTo_eq (xs : List Lp) {c d : List Int} (h : ∀ k : Nat, c.contains (k : Int) = d.contains (k : Int)) (n : Nat) : areaTo xs c n = areaTo xs d n := by
  induction n with
  | zero => rfl
  | succ n ih => simp only [areaTo, ih, h]
theorem areaTo_le {xs : List Lp} (hal : xs.all allowedB = true) {c d : List Int} (h : ∀ k : Nat, c.contains (k : Int) = true → d.contains (k : Int) = true) (n : Nat) (hn : n ≤ xs.length) : areaTo xs c n ≤ areaTo xs d n := by
  induction n with
  | zero => exact Int.le_refl _
  | succ n ih =>
    have hlt : n < xs.length := by omega
    have h1 := area_one (List.all_eq_true.1 hal xs[n] (List.getElem_mem hlt))
    have h2 := ih (by omega)
    simp only [areaTo, List.getElem?_eq_getElem hlt]
    by_cases hc : c.contains (n : Int) = true
    · rw [if_pos hc, if_pos (h n hc)]; omega
    · rw [if_neg hc]; split <;> omega
theorem areaTo_or {xs : List Lp} (hal : xs.all allowedB = true) {a b d : List Int} (h : ∀ k : Nat, d.contains (k : Int) = true → a.contains (k : Int) = true ∨ b.contains (k : Int) = true) (n : Nat) (hn : n ≤ xs.length) : areaTo xs d n ≤ areaTo xs a n + areaTo xs b n := by
  induction n with
  | zero => simp [areaTo]
  | succ n ih =>
    have hlt : n < xs.length := by omega
    have h1 := area_one (List.all_eq_true.1 hal xs[n] (List.getElem_mem hlt))
    have h2 := ih (by omega)
    simp only [areaTo, List.getElem?_eq_getElem hlt]
    by_cases hd : d.contains (n : Int) = true
    · rw [if_pos hd]
      rcases h n hd with hc | hc
      · rw [if_pos hc]; split <;> omega
      · rw [if_pos hc]; split <;> omega
    · rw [if_neg hd]; split <;> split <;> omega
theorem area_pos {xs : List Lp} (hal : xs.all allowedB = true) {c : List Int} (h0 : 0 < c.length) (hi : ∀ i ∈ c, 0 ≤ i ∧ i < (xs.length : Int)) : 1 ≤ areaL xs c := by
  obtain ⟨i, hm⟩ := List.exists_mem_of_length_pos h0
  obtain ⟨k, rfl⟩ := Int.eq_ofNat_of_zero_le (hi i hm).1
  have hk : k < xs.length := by have := (hi _ hm).2; omega
  have hc : c.contains (k : Int) = true := by simpa using hm
  have key : ∀ n, n ≤ xs.length → k < n → 1 ≤ areaTo xs c n := by
    intro n
    induction n with
    | zero => intro _ h; omega
    | succ n ih =>
      intro hn hkn
      have hlt : n < xs.length := by omega
      have h1 := area_one (List.all_eq_true.1 hal xs[n] (List.getElem_mem hlt))
      have h2 := areaTo_bd hal c n (by omega)
      simp only [areaTo, List.getElem?_eq_getElem hlt]
      by_cases hkn' : k < n
      · have := ih (by omega) hkn'
        split <;> omega
      · obtain rfl : k = n := by omega
        rw [if_pos hc]
        have h3 := List.all_eq_true.1 hal xs[k] (List.getElem_mem hlt)
        simp [allowedB, withinB] at h3
        have h4 := Int.mul_le_mul (show 1 ≤ xs[k].l by omega) (show 1 ≤ xs[k].d by omega) (by omega) (by omega)
        show 1 ≤ areaTo xs c k + xs[k].l * xs[k].d
        omega
  exact key xs.length (Nat.le_refl _) hk
theorem course_fine {n : Nat} {c : List Int} (hl : 1 ≤ c.length ∧ c.length ≤ 6) (hi : ∀ i ∈ c, 0 ≤ i ∧ i < (n : Int)) (hp : c.Pairwise (fun x y => x ≤ y)) : courseE n c = 0 := by
  have h1 : withinB c.length 1 6 = true := by simp [withinB]; omega
  have h2 : c.all (fun i => withinB i 0 ((n : Int) - 1)) = true := by
    rw [List.all_eq_true]
    intro i hi'
    have := hi i hi'
    simp [withinB]; omega
  rw [courseE, if_pos h1, if_pos h2, if_pos (sorted_pair hp)]
theorem area_of {xs : List Lp} (hs : stadE xs = 0) {c : List Int} (hl : 1 ≤ c.length ∧ c.length ≤ 6) (hi : ∀ i ∈ c, 0 ≤ i ∧ i < (xs.length : Int)) (hp : c.Pairwise (fun x y => x ≤ y)) : areaR xs c = (areaL xs c, 0) := by
  rw [areaR, if_pos hs, if_pos (course_fine hl hi hp)]
theorem snow_of {xs : List Lp} (hs : stadE xs = 0) {c : List Int} (hl : 1 ≤ c.length ∧ c.length ≤ 6) (hi : ∀ i ∈ c, 0 ≤ i ∧ i < (xs.length : Int)) (hp : c.Pairwise (fun x y => x ≤ y)) {depth : Int} (hd : 1 ≤ depth ∧ depth ≤ 200) : snowR xs c depth = (snowL xs c depth, 0) := by
  rw [snowR, area_of hs hl hi hp, if_pos rfl, if_pos (by simp [withinB]; omega)]
/-- Areas of two courses, of both together, and of one with a lap more. -/
theorem area_facts {xs : List Lp} (hs : stadE xs = 0) {a b both more : List Int} (ha : 0 < a.length) (hai : ∀ i ∈ a, 0 ≤ i ∧ i < (xs.length : Int)) (hboth : both.Perm (a ++ b)) {i : Int} (him : i ∈ a) (hmore : more.Perm (a ++ [i])) :
    1 ≤ areaL xs a ∧ areaL xs more = areaL xs a ∧ areaL xs both ≤ areaL xs a + areaL xs b ∧ areaL xs a ≤ areaL xs both ∧ areaL xs b ≤ areaL xs both ∧ areaL xs a ≤ 4800000 ∧ areaL xs b ≤ 4800000 ∧ 0 ≤ areaL xs b := by
  obtain ⟨hal, h1, h2⟩ := stad_ok hs
  have hmb : ∀ x, x ∈ both ↔ x ∈ a ∨ x ∈ b := fun x => by rw [hboth.mem_iff, List.mem_append]
  have hmm : ∀ x, x ∈ more ↔ x ∈ a := fun x => by
    rw [hmore.mem_iff, List.mem_append, List.mem_singleton]
    constructor
    · rintro (h | rfl)
      · exact h
      · exact him
    · exact fun h => .inl h
  refine ⟨area_pos hal ha hai, areaTo_eq xs (fun k => ?_) _, areaTo_or hal (fun k h => ?_) _ (Nat.le_refl _), areaTo_le hal (fun k h => ?_) _ (Nat.le_refl _), areaTo_le hal (fun k h => ?_) _ (Nat.le_refl _), ?_, ?_, (areaTo_bd hal b _ (Nat.le_refl _)).1⟩
  · rw [Bool.eq_iff_iff]; simp [hmm]
  · simpa [hmb] using h
  · simp only [List.contains_iff_mem] at *; exact (hmb _).2 (.inl h)
  · simp only [List.contains_iff_mem] at *; exact (hmb _).2 (.inr h)
  · have := (areaTo_bd hal a _ (Nat.le_refl _)).2; unfold areaL; omega
  · have := (areaTo_bd hal b _ (Nat.le_refl _)).2; unfold areaL; omega
theorem cov_ok {xs : List Lp} {r : Ru} (h : checkE xs r = 0) (h1 : xs.length ≤ 6) (h2 : r.laps ≤ 4) {depth volume : Int} (hd : 1 ≤ depth ∧ depth ≤ 200) (hv : 0 ≤ volume ∧ volume ≤ 10000000) : covR xs r depth volume = (covL xs r depth volume, 0) := by
  have h3 : (covL xs r depth volume).length ≤ 300 := Nat.le_trans (List.length_filter_le _ _) (right_small xs r h1 (by omega))
  rw [covR, if_pos h, if_pos (by simp [withinB]; omega), if_pos h3, if_pos h3]
theorem cov_mono (xs : List Lp) (r : Ru) (depth : Int) {v v' : Int} (h : v ≤ v') : (covL xs r depth v).length ≤ (covL xs r depth v').length ∧ (covL xs r depth v').length ≤ (rightL xs r).length := by
  refine ⟨?_, List.length_filter_le _ _⟩
  unfold covL
  generalize rightL xs r = l
  induction l with
  | nil => simp
  | cons x l ih =>
    simp only [List.filter_cons]
    by_cases h1 : snowL xs x depth ≤ v
    · rw [if_pos (by simpa using h1), if_pos (by simp; omega)]
      simpa using ih
    · rw [if_neg (by simpa using h1)]
      split
      · simp only [List.length_cons]; omega
      · exact ih
/-- The first course with the least snow, as it comes. -/
theorem best_head (xs : List Lp) (depth : Int) : ∀ (cs : List (List Int)) (b : List Int), ∃ f m, cs.foldl (bestStep xs depth) (some (b, snowL xs b depth)) = some (f, m) ∧ m = snowL xs f depth ∧ f ∈ b :: cs ∧ (∀ c ∈ b :: cs, m ≤ snowL xs c depth) ∧ ((b :: cs).filter (fun c => decide (snowL xs c depth ≤ m))).head? = some f
  | [], b => ⟨b, _, rfl, rfl, List.mem_cons_self, fun c hc => by rw [List.mem_singleton.1 hc]; exact Int.le_refl _, by simp⟩
  | x :: cs, b => by
    rw [List.foldl_cons]
    by_cases h : snowL xs x depth < snowL xs b depth
    · obtain ⟨f, m, h1, h2, h3, h4, h5⟩ := best_head xs depth cs x
      have hx := h4 x List.mem_cons_self
      refine ⟨f, m, ?_, h2, List.mem_cons_of_mem _ h3, fun c hc => ?_, ?_⟩
      · rw [show bestStep xs depth (some (b, snowL xs b depth)) x = some (x, snowL xs x depth) from by simp [bestStep, h]]; exact h1
      · rcases List.mem_cons.1 hc with rfl | hc
        · omega
        · exact h4 c hc
      · rw [List.filter_cons, if_neg (by simp; omega)]; exact h5
    · obtain ⟨f, m, h1, h2, h3, h4, h5⟩ := best_head xs depth cs b
      refine ⟨f, m, ?_, h2, ?_, fun c hc => ?_, ?_⟩
      · rw [show bestStep xs depth (some (b, snowL xs b depth)) x = some (b, snowL xs b depth) from by simp [bestStep, h]]; exact h1
      · rcases List.mem_cons.1 h3 with rfl | h3
        · exact List.mem_cons_self
        · exact List.mem_cons_of_mem _ (List.mem_cons_of_mem _ h3)
      · have hb := h4 b List.mem_cons_self
        rcases List.mem_cons.1 hc with rfl | hc
        · exact hb
        · rcases List.mem_cons.1 hc with rfl | hc
          · omega
          · exact h4 c (List.mem_cons_of_mem _ hc)
      · have hb := h4 b List.mem_cons_self
        by_cases hbm : snowL xs b depth ≤ m
        · rw [List.filter_cons, if_pos (by simpa using hbm)] at h5 ⊢
          simpa using h5
        · rw [List.filter_cons, if_neg (by simpa using hbm)] at h5 ⊢
          rw [List.filter_cons, if_neg (by simp; omega)]
          exact h5
/-- What the cheapest course is. -/
theorem cheap_facts {xs : List Lp} {r : Ru} (h : checkE xs r = 0) {depth : Int} (hd : 1 ≤ depth ∧ depth ≤ 200) :
    (rightL xs r = [] ∧ cheapR xs r depth = ([], 0, 6)) ∨ (0 < (rightL xs r).length ∧ ∃ f m, cheapR xs r depth = (f, m, 0) ∧ snowR xs f depth = (m, 0) ∧ 0 < m ∧ m ≤ 10000000 ∧ (∃ t, covL xs r depth m = f :: t) ∧ covL xs r depth (m - 1) = [] ∧ f.length ≤ 6) := by
  have hdd : withinB depth 1 200 = true := by simp [withinB]; omega
  rw [cheapR, if_pos h, if_pos hdd]
  cases hR : rightL xs r with
  | nil => exact .inl ⟨rfl, rfl⟩
  | cons b cs =>
    refine .inr ⟨by simp, ?_⟩
    obtain ⟨f, m, h1, h2, h3, h4, h5⟩ := best_head xs depth cs b
    have hb : bestOf xs depth (b :: cs) = some (f, m) := by
      rw [bestOf, List.foldl_cons]; exact h1
    have hf : f ∈ rightL xs r := by rw [hR]; exact h3
    obtain ⟨hs1, hs2⟩ := snow_right h hdd hf
    have hmem := (List.mem_filter.1 hf).1
    obtain ⟨hl, hi, hp⟩ := (ext_mem _ _ f).1 hmem
    have hlap := (laps_nat h).2
    obtain ⟨hal, _, hlx⟩ := stad_ok (check_ok h).1
    have ha := area_pos hal (by omega) hi
    have hab := (areaTo_bd hal f _ (Nat.le_refl _)).2
    have hm1 : 1 * 1 ≤ areaL xs f * depth := Int.mul_le_mul ha hd.1 (by omega) (by omega)
    have hm2 : areaL xs f * depth ≤ 4800000 * 200 := Int.mul_le_mul (by unfold areaL; omega) hd.2 (by omega) (by omega)
    have hm : m = (areaL xs f * depth + 99) / 100 := h2
    refine ⟨f, m, by rw [hb], by rw [hs1, h2], by omega, by omega, ?_, ?_, hs2⟩
    · rw [covL, hR]
      cases hF : (b :: cs).filter (fun c => decide (snowL xs c depth ≤ m)) with
      | nil => rw [hF] at h5; cases h5
      | cons x t => rw [hF] at h5; cases h5; exact ⟨t, rfl⟩
    · rw [covL, hR, List.filter_eq_nil_iff]
      intro c hc
      have := h4 c hc
      simp; omega
theorem snow_between {x depth : Int} (_hx : 0 ≤ x) : x * depth ≤ 100 * ((x * depth + 99) / 100) ∧ 100 * ((x * depth + 99) / 100 - 1) < x * depth := by
  generalize x * depth = t; omega
end Go.Proofs.YtgldfnkjfgcjpaaGreat
