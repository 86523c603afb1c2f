/-
The contract of the reference's Cheapest over this seat's program.
  What is proved: it answers what the program's own Cheapest answers; nothing that was there before has turned.
  Conditions: slices of at most 1000000 elements.
-/
import Derived.Test.YtpkegiekpnaejaaGreatPart17
namespace Go.Proofs.YtpkegiekpnaejaaGreat
open Go.RowKit Go.Shelf
attribute [local go_sem] Oper.semAt_some

/-- What comes of the best course. -/
def cheapM (st : Option (List Int × Int)) : List Int × Int × Int := match st with | none => ([], 0, 6) | some (b, m) => (b, m, 0)
theorem bestOf_take (xs : List Lp) (depth : Int) (S : List (List Int)) (k : Nat) (hk : k < S.length) : bestOf xs depth (S.take (k + 1)) = bestStep xs depth (bestOf xs depth (S.take k)) S[k] := by
  rw [List.take_add_one, List.getElem?_eq_getElem hk, Option.toList_some, bestOf_snoc]

set_option maxHeartbeats 4000000 in
set_option maxRecDepth 100000 in
theorem refCheapest_any (a : Option Addr) (xs : List Lp) (cap : Nat) (r : Ru) (depth : Int) (w : World) (hx : Sl 3 Lp.cells w a xs) (hl : xs.length ≤ 1000000) :
    Calls Tryz.prog 22 #[.slice a xs.length cap, r.v, .int .i64 depth] w (OutC3 w (cheapR xs r depth)) := by
  have hB0 : Below w.heap.size w (w.alloc (.cells #[.int .i64 r.laps, .int .i64 r.len.lo, .int .i64 r.len.hi, .int .i64 r.climb.lo, .int .i64 r.climb.hi, .int .i64 r.lap.lo, .int .i64 r.lap.hi, .int .i64 r.wide, .int .i64 r.uses] 36)) := (Below.refl _ _).alloc (Nat.le_refl _) _
  have hR0 : RB38 (w.alloc (.cells #[.int .i64 r.laps, .int .i64 r.len.lo, .int .i64 r.len.hi, .int .i64 r.climb.lo, .int .i64 r.climb.hi, .int .i64 r.lap.lo, .int .i64 r.lap.hi, .int .i64 r.wide, .int .i64 r.uses] 36)) w.heap.size r := heap_alloc_new _ _
  have HX := Lib.hid hx
  clear hx
  go_enter Tryz.func22, Tryz.ntmps22
  go_wp2_with (fail)
  have HXA := Lib.hid (HX.out.below hB0)
  generalize w.alloc (.cells #[.int .i64 r.laps, .int .i64 r.len.lo, .int .i64 r.len.hi, .int .i64 r.climb.lo, .int .i64 r.climb.hi, .int .i64 r.lap.lo, .int .i64 r.lap.hi, .int .i64 r.wide, .int .i64 r.uses] 36) = W0 at hB0 hR0 HXA ⊢
  refine (refCheck_any a xs cap r _ HXA.out hl).mono ?_
  rintro e V0 ⟨rfl, hb⟩
  have HB0 := Lib.hid (below_self hB0 hb)
  have HR0 := Lib.hid (RB38.below hR0 hb)
  have HX0 := Lib.hid (HXA.out.below hb)
  clear hB0 hR0 hb HXA
  by_cases h1 : checkE xs r = 0
  · have g1 : (checkE xs r != 0) = false := by simp [h1]
    have HR : Hid (cheapR xs r depth = if withinB depth 1 200 = true then cheapM (bestOf xs depth (rightL xs r)) else ([], 0, 3)) := by
      show _ = _
      rw [cheapR, if_pos h1]
      cases bestOf xs depth (rightL xs r) <;> rfl
    have H1 := Lib.hid h1
    clear h1
    cases e1 : withinB depth 1 200
    · have HR2 : Hid (cheapR xs r depth = ([], 0, 3)) := by show _ = _; rw [HR.out, e1]; rfl
      go_wp2_with (go_at_call 81; refine (outside_any _ _ _ _).mono ?_; rintro e w' ⟨rfl, rfl⟩)
      go_ret3
      rw [HR2.out]
      exact OutC3.nil rfl HB0.out
    · have HR2 : Hid (cheapR xs r depth = cheapM (bestOf xs depth (rightL xs r))) := by show _ = _; rw [HR.out, e1]; rfl
      have HSN := Lib.hid (fun c hc => snow_right (depth := depth) (c := c) H1.out e1 hc)
      have hfew := right_few H1.out
      have c0 := blk_cell HR0.out 0 rfl
      have c1 := blk_cell HR0.out 1 rfl
      have c2 := blk_cell HR0.out 2 rfl
      have c3 := blk_cell HR0.out 3 rfl
      have c4 := blk_cell HR0.out 4 rfl
      have c5 := blk_cell HR0.out 5 rfl
      have c6 := blk_cell HR0.out 6 rfl
      have c7 := blk_cell HR0.out 7 rfl
      have c8 := blk_cell HR0.out 8 rfl
      go_wp2_with (go_at_call 81; refine (outside_any _ _ _ _).mono ?_; rintro e w' ⟨rfl, rfl⟩)
      clear c0 c1 c2 c3 c4 c5 c6 c7 c8
      clear g1 e1 HR
      refine (refRight_any a xs cap r V0 HX0.out H1.out).mono ?_
      rintro e W1 ⟨la, lcap, rfl, hS, hb⟩
      have HB1 := Lib.hid (below_self HB0.out hb)
      have HX1 := Lib.hid (HX0.out.below hb)
      have HS := Lib.hid hS
      clear hS hb HX0 HR0
      generalize rightL xs r = S at *
      by_cases h0 : S.length = 0
      · have g2 : ((S.length : Int) == 0) = true := by rw [h0]; rfl
        have HR3 : Hid (cheapR xs r depth = ([], 0, 6)) := by show _ = _; rw [HR2.out, List.eq_nil_of_length_eq_zero h0]; rfl
        clear h0
        go_wp2_with (fail)
        go_ret3
        rw [HR3.out]
        exact OutC3.nil rfl HB1.out
      · have g2 : ((S.length : Int) == 0) = false := beq_eq_false_iff_ne.2 (by omega)
        obtain ⟨b, off, rfl, hbs, hc⟩ := HS.out (by omega)
        have HC := Lib.hid hc
        have HBS := Lib.hid hbs
        clear hc hbs HS
        have hpos : 1 ≤ S.length := by omega
        clear h0
        go_wp2_with (fail)
        clear g2
        go_loopw [11, 12] (fun vb iv wr => ∃ (k q : Nat), vb = .int .i64 q ∧ iv = .int .i64 k ∧ k ≤ S.length ∧ q < k ∧ Hid ((∃ f, S[q]? = some f ∧ bestOf xs depth (S.take k) = some (f, snowL xs f depth)) ∧ Below W1.heap.size W1 wr)) (fun _ iv _ => S.length - (intOf iv).toNat)
        case atStart =>
          refine ⟨1, 0, rfl, rfl, hpos, by omega, ⟨S[0], List.getElem?_eq_getElem (by omega), ?_⟩, Below.refl _ _⟩
          rw [bestOf_take xs depth S 0 (by omega)]; rfl
        case round =>
          obtain ⟨k, q, rfl, rfl, hk, hqk, hI⟩ := hrel
          obtain ⟨V, hV⟩ : ∃ V, V = wr := ⟨_, rfl⟩
          subst hV
          obtain ⟨⟨f, hf1, hf2⟩, hbl⟩ := hI.out
          have hqS : q < S.length := by omega
          obtain ⟨fa, fcap, hcell, hint⟩ := HC.out q f hf1
          have x2 := (hbl.cell (p := ⟨b, off + q, none⟩) HBS.out).trans hcell
          have HF := Lib.hid (And.intro (hint.below hbl) (And.intro (HSN.out f (List.mem_of_getElem? hf1)) (And.intro hf1 hf2)))
          have HBL := Lib.hid hbl
          have HX2 := Lib.hid (HX1.out.below hbl)
          have HFI := Lib.hid hint
          clear hcell hint hf1 hf2 hbl hI
          by_cases hlt : k < S.length
          · obtain ⟨ac, ccap, hcell, hint⟩ := HC.out k S[k] (List.getElem?_eq_getElem hlt)
            have x1 := (HBL.out.cell (p := ⟨b, off + k, none⟩) HBS.out).trans hcell
            have HCI := Lib.hid (And.intro (hint.below HBL.out) (And.intro (HSN.out S[k] (List.getElem_mem hlt)) (List.getElem?_eq_getElem hlt)))
            have HT := Lib.hid (bestOf_take xs depth S k hlt)
            clear hcell hint
            generalize S[k] = c at *
            go_wp2_with (fail)
            have HSC := refSnow_any a xs cap ac c ccap depth V HX2.out HCI.out.1 hl (by have := HCI.out.2.1.2; omega)
            rw [HCI.out.2.1.1] at HSC
            refine HSC.mono ?_
            clear HSC
            rintro e W3 ⟨rfl, hb⟩
            have HB3 := Lib.hid hb
            have y1 := (hb.cell (p := ⟨b, off + k, none⟩) (Nat.lt_of_lt_of_le HBS.out HBL.out.size)).trans x1
            have y2 := (hb.cell (p := ⟨b, off + q, none⟩) (Nat.lt_of_lt_of_le HBS.out HBL.out.size)).trans x2
            clear hb x1 x2
            go_wp2_with (fail)
            clear y1 y2
            have HSC := refSnow_any a xs cap fa f fcap depth W3 (HX2.out.below HB3.out) (HF.out.1.below HB3.out) hl (by have := HF.out.2.1.2; omega)
            rw [HF.out.2.1.1] at HSC
            refine HSC.mono ?_
            clear HSC
            rintro e W4 ⟨rfl, hb⟩
            have HB4 := Lib.hid (below_self HBL.out (below_self HB3.out hb))
            clear hb
            have HT1 : Hid (bestOf xs depth (S.take (k + 1)) = if snowL xs c depth < snowL xs f depth then some (c, snowL xs c depth) else some (f, snowL xs f depth)) := by show _ = _; rw [HT.out, HF.out.2.2.2]; rfl
            have HCF : Hid (S[k]? = some c ∧ S[q]? = some f) := ⟨HCI.out.2.2, HF.out.2.2.1⟩
            clear HT HF HCI
            generalize hm1 : snowL xs c depth = m1 at *
            generalize hm2 : snowL xs f depth = m2 at *
            have HM := Lib.hid (And.intro hm1 hm2)
            clear hm1 hm2
            by_cases hle : m1 < m2
            · have g3 : decide (m1 < m2) = true := decide_eq_true hle
              go_wp2_with (fail)
              go_roundw
              case rel => exact ⟨k + 1, k, rfl, by go_num, by omega, by omega, ⟨c, HCF.out.1, by rw [HT1.out, if_pos hle, HM.out.1]⟩, HB4.out⟩
              case measure => simp [intOf]; omega
            · have g3 : decide (m1 < m2) = false := decide_eq_false hle
              go_wp2_with (fail)
              go_roundw
              case rel => exact ⟨k + 1, q, rfl, by go_num, by omega, by omega, ⟨f, HCF.out.2, by rw [HT1.out, if_neg (by omega), HM.out.2]⟩, HB4.out⟩
              case measure => simp [intOf]; omega
          · have hke : k = S.length := by omega
            subst hke
            have HR3 : Hid (cheapR xs r depth = (f, snowL xs f depth, 0)) := by
              show _ = _
              have := HF.out.2.2.2
              rw [List.take_length] at this
              rw [HR2.out, this]; rfl
            go_wp2_with (fail)
            have HSC := refSnow_any a xs cap fa f fcap depth V HX2.out HF.out.1 hl (by have := HF.out.2.1.2; omega)
            rw [HF.out.2.1.1] at HSC
            refine HSC.mono ?_
            clear HSC
            rintro e W3 ⟨rfl, hb⟩
            have HB3 := Lib.hid hb
            have y2 := (hb.cell (p := ⟨b, off + q, none⟩) (Nat.lt_of_lt_of_le HBS.out HBL.out.size)).trans x2
            clear hb x2
            go_wp2_with (fail)
            go_ret3
            rw [HR3.out]
            exact ⟨fa, fcap, rfl, HF.out.1.below HB3.out, below_self HB1.out (below_self HBL.out HB3.out)⟩
  · have g1 : (checkE xs r != 0) = true := by simp [h1]
    have HR : Hid (cheapR xs r depth = ([], 0, checkE xs r)) := by show _ = _; rw [cheapR, if_neg h1]
    clear h1
    go_wp2_with (fail)
    go_ret3
    rw [HR.out]
    exact OutC3.nil rfl HB0.out
end Go.Proofs.YtpkegiekpnaejaaGreat
