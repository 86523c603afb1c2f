/-
The contracts of Area and Snow, and of the reference's, over this seat's program.
  What is proved: what each call returns; nothing that was there before has turned.
  Conditions: slices of at most 1000000 elements.
The contracts of Covered, and of the reference's Covered and Cheapest, over this seat's program.
  What is proved: what each call returns; nothing that was there before has turned.
  Conditions: slices of at most 1000000 elements.
-/
import Derived.Test.YtpkegiekpnaejaaGreatPart16
namespace Go.Proofs.YtpkegiekpnaejaaGreat
open Go.RowKit
attribute [local go_sem] Oper.semAt_some

/-- The area of a course, or the error. -/
def areaR (xs : List Lp) (c : List Int) : Int × Int := if stadE xs = 0 then (if courseE xs.length c = 0 then (areaL xs c, 0) else (0, courseE xs.length c)) else (0, stadE xs)
/-- The snow of a course, or the error. -/
def snowR (xs : List Lp) (c : List Int) (depth : Int) : Int × Int := if (areaR xs c).2 = 0 then (if withinB depth 1 200 = true then (snowL xs c depth, 0) else (0, 3)) else (0, (areaR xs c).2)
/-- A call that hands back a number and an error; nothing that was there before it has turned. -/
def Out2 (w : World) (x : Int × Int) (e : Ending) (w' : World) : Prop := e = .returned (.tuple #[.int .i64 x.1, .int .i64 x.2]) ∧ Below w.heap.size w w'

theorem area_ok {xs : List Lp} {c : List Int} (h : (areaR xs c).2 = 0) : areaR xs c = (areaL xs c, 0) ∧ stadE xs = 0 ∧ courseE xs.length c = 0 := by
  unfold areaR at h ⊢
  split at h
  · rename_i h1
    split at h
    · rename_i h2
      exact ⟨by rw [if_pos h1, if_pos h2], h1, h2⟩
    · rename_i h2
      exact absurd h h2
  · rename_i h1
    exact absurd h h1

set_option maxHeartbeats 1000000 in
theorem Area_any (a : Option Addr) (xs : List Lp) (cap : Nat) (ac : Option Addr) (c : List Int) (ccap : Nat) (w : World) (hx : Sl 3 Lp.cells w a xs) (hc : IntSl w ac c) (hl : xs.length ≤ 1000000) (hcl : c.length ≤ 1000000) :
    Calls Tryz.prog 14 #[.slice a xs.length cap, .slice ac c.length ccap] w (Out2 w (areaR xs c)) := by
  have hmf : ∀ (fn : Fn) (first cap : Array Value) (w : World), (Instr.makeFunc fn first cap).run Tryz.prog w = .ok (.func fn first cap) w := fun _ _ _ _ => rfl
  have HX := Lib.hid (And.intro hx hc)
  clear hx hc
  go_enter Tryz.func14, Tryz.ntmps14
  go_wp2_with (fail)
  refine (checkStadium_any a xs cap _ HX.out.1 hl).mono ?_
  rintro e W1 ⟨rfl, hb⟩
  have HB1 := Lib.hid hb
  clear hb
  by_cases h1 : stadE xs = 0
  · have g1 : (stadE xs != 0) = false := by simp [h1]
    have HR : Hid (areaR xs c = if courseE xs.length c = 0 then (areaL xs c, 0) else (0, courseE xs.length c)) := by show _ = _; rw [areaR, if_pos h1]
    obtain ⟨hal, hl1, hl2⟩ := stad_ok h1
    clear h1
    go_wp2_with (fail)
    clear g1
    refine (checkCourse_any (xs.length : Int) ac c ccap _ (HX.out.2.below HB1.out) hcl (by omega)).mono ?_
    rintro e W2 ⟨rfl, hb⟩
    have HB2 := Lib.hid (below_self HB1.out hb)
    clear hb
    by_cases h2 : courseE xs.length c = 0
    · have g2 : (courseE xs.length c != 0) = false := by simp [h2]
      have HR2 : Hid (areaR xs c = (areaL xs c, 0)) := by show _ = _; rw [HR.out, if_pos h2]
      clear h2
      go_wp2_with (fail)
      clear g2
      refine (area_any a xs cap ac c ccap _ (HX.out.1.below HB2.out) (HX.out.2.below HB2.out) hl2 hcl hal).mono ?_
      rintro e W3 ⟨rfl, hb⟩
      have HB3 := Lib.hid (below_self HB2.out hb)
      clear hb
      go_wp2_with (fail)
      go_ret2
      exact ⟨by rw [HR2.out]; rfl, HB3.out⟩
    · have g2 : (courseE xs.length c != 0) = true := by simp [h2]
      have HR2 : Hid (areaR xs c = (0, courseE xs.length c)) := by show _ = _; rw [HR.out, if_neg h2]
      clear h2
      go_wp2_with (fail)
      go_ret2
      exact ⟨by rw [HR2.out]; rfl, HB2.out⟩
  · have g1 : (stadE xs != 0) = true := by simp [h1]
    have HR : Hid (areaR xs c = (0, stadE xs)) := by show _ = _; rw [areaR, if_neg h1]
    clear h1
    go_wp2_with (fail)
    go_ret2
    exact ⟨by rw [HR.out]; rfl, HB1.out⟩

theorem areaTo_step (xs : List Lp) (c : List Int) (k : Nat) (hk : k < xs.length) : areaTo xs c (k + 1) = areaTo xs c k + if 0 < c.count (k : Int) then xs[k].l * xs[k].d else 0 := by
  simp only [areaTo, List.getElem?_eq_getElem hk]
  congr 1
  by_cases h : (k : Int) ∈ c
  · rw [if_pos (by simpa using h), if_pos (List.count_pos_iff.2 h)]
  · rw [if_neg (by simpa using h), if_neg (fun hh => h (List.count_pos_iff.1 hh))]

set_option maxHeartbeats 2000000 in
set_option maxRecDepth 100000 in
theorem refArea_any (a : Option Addr) (xs : List Lp) (cap : Nat) (ac : Option Addr) (c : List Int) (ccap : Nat) (w : World) (hx : Sl 3 Lp.cells w a xs) (hc : IntSl w ac c) (hl : xs.length ≤ 1000000) (hcl : c.length ≤ 1000000) :
    Calls Tryz.prog 15 #[.slice a xs.length cap, .slice ac c.length ccap] w (Out2 w (areaR xs c)) := by
  have HX := Lib.hid (And.intro hx hc)
  clear hx hc
  go_enter Tryz.func15, Tryz.ntmps15
  go_wp2_with (fail)
  refine (stadium_any a xs cap _ HX.out.1 hl).mono ?_
  rintro e W1 ⟨rfl, rfl⟩
  by_cases h1 : stadE xs = 0
  · have g1 : (stadE xs != 0) = false := by simp [h1]
    have HR : Hid (areaR xs c = if courseE xs.length c = 0 then (areaL xs c, 0) else (0, courseE xs.length c)) := by show _ = _; rw [areaR, if_pos h1]
    obtain ⟨hal, hl1, hl2⟩ := stad_ok h1
    have HA := Lib.hid hal
    clear h1 hal
    go_wp2_with (fail)
    clear g1
    refine (listed_any a xs cap ac c ccap _ HX.out.2 hl hcl).mono ?_
    rintro e W2 ⟨rfl, hb⟩
    have HB2 := Lib.hid hb
    clear hb
    by_cases h2 : courseE xs.length c = 0
    · have g2 : (courseE xs.length c != 0) = false := by simp [h2]
      have HR2 : Hid (areaR xs c = (areaL xs c, 0)) := by show _ = _; rw [HR.out, if_pos h2]
      clear h2
      go_wp2_with (fail)
      clear g2
      go_loopw [8, 9] (fun v i wr => ∃ (k : Nat) (y : Int), k ≤ xs.length ∧ i = .int .i64 k ∧ v = .int .i64 y ∧ Hid (y = areaTo xs c k ∧ Below w.heap.size w wr)) (fun _ i _ => xs.length - (intOf i).toNat)
      case atStart => exact ⟨0, 0, Nat.zero_le _, rfl, rfl, rfl, HB2.out⟩
      case round =>
        obtain ⟨k, y, hk, rfl, rfl, hI⟩ := hrel
        by_cases hlt : k < xs.length
        · have HS := Lib.hid (areaTo_step xs c k hlt)
          obtain ⟨y1, y2⟩ := areaTo_bd HA.out c k hk
          rw [← hI.out.1] at y1 y2
          have y3 : y ≤ 10000000 := by omega
          obtain ⟨p1, p2⟩ := area_one (List.all_eq_true.1 HA.out xs[k] (List.getElem_mem hlt))
          obtain ⟨b, off, rfl, hbs, hcc⟩ := HX.out.1 (by omega)
          have d0 := (hI.out.2.cell (p := ⟨b, off + k * 3, none⟩) hbs).trans (hcc k xs[k] 0 _ (List.getElem?_eq_getElem hlt) rfl)
          have d1 := (hI.out.2.cell (p := ⟨b, off + k * 3 + 1, none⟩) hbs).trans (hcc k xs[k] 1 _ (List.getElem?_eq_getElem hlt) rfl)
          have d2 := (hI.out.2.cell (p := ⟨b, off + k * 3 + 2, none⟩) hbs).trans (hcc k xs[k] 2 _ (List.getElem?_eq_getElem hlt) rfl)
          clear hcc y2
          generalize xs[k] = x at *
          generalize hn : c.count (k : Int) = n at *
          have HN := Lib.hid hn
          clear hn
          go_upto_region 11 with (fail)
          go_wp2_with (fail)
          have HU := uses_any ac c ccap (k : Int) wr (HX.out.2.below hI.out.2) hcl
          rw [HN.out] at HU
          refine HU.mono ?_
          rintro e W3 ⟨rfl, rfl⟩
          clear HU
          by_cases h0 : 0 < n
          · have g3 : decide (0 < (n : Int)) = true := decide_eq_true (by omega)
            have HS2 : Hid (areaTo xs c (k + 1) = y + x.l * x.d) := by show _ = _; rw [HS.out, hI.out.1, if_pos h0]
            clear HS
            go_upto_region 12 with (fail)
            go_quiet (fail)
            have hwd := Lib.hid (below_drewN hI.out.2 nq)
            go_wp2_with (fail)
            go_roundw
            case rel => exact ⟨k + 1, _, by omega, by go_num, rfl, HS2.out.symm, hwd.out⟩
            case measure => simp [intOf]; omega
          · have g3 : decide (0 < (n : Int)) = false := decide_eq_false (by omega)
            have HS2 : Hid (areaTo xs c (k + 1) = y) := by show _ = _; rw [HS.out, hI.out.1, if_neg h0]; omega
            clear HS
            go_wp2_with (fail)
            go_roundw
            case rel => exact ⟨k + 1, y, by omega, by go_num, rfl, HS2.out.symm, hI.out.2⟩
            case measure => simp [intOf]; omega
        · have : k = xs.length := by omega
          subst this
          go_wp2_with (fail)
          go_ret2
          exact ⟨by rw [HR2.out]; unfold areaL; rw [← hI.out.1]; rfl, hI.out.2⟩
    · have g2 : (courseE xs.length c != 0) = true := by simp [h2]
      have HR2 : Hid (areaR xs c = (0, courseE xs.length c)) := by show _ = _; rw [HR.out, if_neg h2]
      clear h2
      go_wp2_with (fail)
      go_ret2
      exact ⟨by rw [HR2.out]; rfl, HB2.out⟩
  · have g1 : (stadE xs != 0) = true := by simp [h1]
    have HR : Hid (areaR xs c = (0, stadE xs)) := by show _ = _; rw [areaR, if_neg h1]
    clear h1
    go_wp2_with (fail)
    go_ret2
    exact ⟨by rw [HR.out]; rfl, Below.refl _ _⟩

set_option maxHeartbeats 1000000 in
theorem Snow_any (a : Option Addr) (xs : List Lp) (cap : Nat) (ac : Option Addr) (c : List Int) (ccap : Nat) (depth : Int) (w : World) (hx : Sl 3 Lp.cells w a xs) (hc : IntSl w ac c) (hl : xs.length ≤ 1000000) (hcl : c.length ≤ 1000000) :
    Calls Tryz.prog 16 #[.slice a xs.length cap, .slice ac c.length ccap, .int .i64 depth] w (Out2 w (snowR xs c depth)) := by
  have HX := Lib.hid (And.intro hx hc)
  obtain ⟨A, E, hAE⟩ : ∃ A E, areaR xs c = (A, E) := ⟨_, _, rfl⟩
  have HC := Area_any a xs cap ac c ccap w hx hc hl hcl
  rw [hAE] at HC
  have HAE := Lib.hid hAE
  have HOK : Hid (E = 0 → stadE xs = 0) := fun h => (area_ok (by rw [hAE]; exact h)).2.1
  clear hx hc hAE
  go_enter Tryz.func16, Tryz.ntmps16
  go_wp2_with (fail)
  refine HC.mono ?_
  clear HC
  rintro e W1 ⟨rfl, hb⟩
  have HB1 := Lib.hid hb
  clear hb
  by_cases h1 : E = 0
  · have g1 : (E != 0) = false := by simp [h1]
    obtain ⟨hal, hl1, hl2⟩ := stad_ok (HOK.out h1)
    have HR : Hid (snowR xs c depth = if withinB depth 1 200 = true then (snowL xs c depth, 0) else (0, 3)) := by show _ = _; rw [snowR, HAE.out, if_pos h1]
    clear h1
    cases h2 : withinB depth 1 200
    · have HR2 : Hid (snowR xs c depth = (0, 3)) := by show _ = _; rw [HR.out, h2]; rfl
      go_wp2_with (go_at_call 79; refine (within_any _ _ _ _).mono ?_; rintro e w' ⟨rfl, rfl⟩)
      go_ret2
      exact ⟨by rw [HR2.out]; rfl, HB1.out⟩
    · have HR2 : Hid (snowR xs c depth = (snowL xs c depth, 0)) := by show _ = _; rw [HR.out, h2]; rfl
      have hd : 1 ≤ depth ∧ depth ≤ 200 := by simpa [withinB] using h2
      go_wp2_with (go_at_call 79; refine (within_any _ _ _ _).mono ?_; rintro e w' ⟨rfl, rfl⟩)
      refine (snow_any a xs cap ac c ccap depth _ (HX.out.1.below HB1.out) (HX.out.2.below HB1.out) hl2 hcl hal hd).mono ?_
      rintro e W2 ⟨rfl, hb⟩
      have HB2 := Lib.hid (below_self HB1.out hb)
      clear hb
      go_wp2_with (fail)
      go_ret2
      exact ⟨by rw [HR2.out]; rfl, HB2.out⟩
  · have g1 : (E != 0) = true := by simp [h1]
    have HR : Hid (snowR xs c depth = (0, E)) := by show _ = _; rw [snowR, HAE.out, if_neg h1]
    clear h1
    go_wp2_with (fail)
    go_ret2
    exact ⟨by rw [HR.out]; rfl, HB1.out⟩

theorem snowL_rest (n : Int) (_hn : 0 ≤ n) : (n + 99) / 100 = if 0 < n % 100 then n / 100 + 1 else n / 100 := by
  split <;> omega

set_option maxHeartbeats 1000000 in
theorem refSnow_any (a : Option Addr) (xs : List Lp) (cap : Nat) (ac : Option Addr) (c : List Int) (ccap : Nat) (depth : Int) (w : World) (hx : Sl 3 Lp.cells w a xs) (hc : IntSl w ac c) (hl : xs.length ≤ 1000000) (hcl : c.length ≤ 1000000) :
    Calls Tryz.prog 17 #[.slice a xs.length cap, .slice ac c.length ccap, .int .i64 depth] w (Out2 w (snowR xs c depth)) := by
  obtain ⟨A, E, hAE⟩ : ∃ A E, areaR xs c = (A, E) := ⟨_, _, rfl⟩
  have HC := refArea_any a xs cap ac c ccap w hx hc hl hcl
  rw [hAE] at HC
  have HAE := Lib.hid hAE
  have HOK : Hid (E = 0 → A = areaL xs c ∧ stadE xs = 0) := fun h => by
    have h1 := area_ok (xs := xs) (c := c) (by rw [hAE]; exact h)
    rw [hAE] at h1
    exact ⟨(Prod.mk.inj h1.1).1, h1.2.1⟩
  clear hx hc hAE
  go_enter Tryz.func17, Tryz.ntmps17
  go_wp2_with (fail)
  refine HC.mono ?_
  clear HC
  rintro e W1 ⟨rfl, hb⟩
  have HB1 := Lib.hid hb
  clear hb
  by_cases h1 : E = 0
  · have g1 : (E != 0) = false := by simp [h1]
    obtain ⟨hA, hst⟩ := HOK.out h1
    obtain ⟨hal, hl1, hl2⟩ := stad_ok hst
    obtain ⟨p1, p2⟩ := areaTo_bd hal c xs.length (Nat.le_refl _)
    have q1 : 0 ≤ A := by rw [hA]; exact p1
    have q2 : A ≤ 4800000 := by rw [hA]; unfold areaL; omega
    have HR : Hid (snowR xs c depth = if withinB depth 1 200 = true then ((A * depth + 99) / 100, 0) else (0, 3)) := by show _ = _; rw [snowR, HAE.out, if_pos h1, hA]; rfl
    clear h1 hA p1 p2 hal hst
    cases h2 : withinB depth 1 200
    · have HR2 : Hid (snowR xs c depth = (0, 3)) := by show _ = _; rw [HR.out, h2]; rfl
      go_wp2_with (go_at_call 81; refine (outside_any _ _ _ _).mono ?_; rintro e w' ⟨rfl, rfl⟩)
      go_ret2
      exact ⟨by rw [HR2.out]; rfl, HB1.out⟩
    · have hd : 1 ≤ depth ∧ depth ≤ 200 := by simpa [withinB] using h2
      have p3 : 0 ≤ A * depth := Int.mul_nonneg q1 (by omega)
      have p4 : A * depth ≤ 1000000000 := by
        have h1 := Int.mul_le_mul q2 hd.2 (by omega) (by omega)
        omega
      have HR2 : Hid (snowR xs c depth = ((A * depth + 99) / 100, 0)) := by show _ = _; rw [HR.out, h2]; rfl
      clear HR
      have HQ := Lib.hid (snowL_rest (A * depth) p3)
      by_cases h3 : 0 < A * depth % 100
      · have g3 : decide (0 < A * depth % 100) = true := decide_eq_true h3
        have HR3 : Hid (snowR xs c depth = (A * depth / 100 + 1, 0)) := by show _ = _; rw [HR2.out, HQ.out, if_pos h3]
        clear HR2 HQ
        go_wp2_with (go_at_call 81; refine (outside_any _ _ _ _).mono ?_; rintro e w' ⟨rfl, rfl⟩)
        go_ret2
        exact ⟨by rw [HR3.out]; rfl, HB1.out⟩
      · have g3 : decide (0 < A * depth % 100) = false := decide_eq_false h3
        have HR3 : Hid (snowR xs c depth = (A * depth / 100, 0)) := by show _ = _; rw [HR2.out, HQ.out, if_neg h3]
        clear HR2 HQ
        go_wp2_with (go_at_call 81; refine (outside_any _ _ _ _).mono ?_; rintro e w' ⟨rfl, rfl⟩)
        go_ret2
        exact ⟨by rw [HR3.out]; rfl, HB1.out⟩
  · have g1 : (E != 0) = true := by simp [h1]
    have HR : Hid (snowR xs c depth = (0, E)) := by show _ = _; rw [snowR, HAE.out, if_neg h1]
    clear h1
    go_wp2_with (fail)
    go_ret2
    exact ⟨by rw [HR.out]; rfl, HB1.out⟩
end Go.Proofs.YtpkegiekpnaejaaGreat

namespace Go.Proofs.YtpkegiekpnaejaaGreat
open Go.RowKit Go.Shelf
attribute [local go_sem] Oper.semAt_some

theorem lt_cell {W : World} {b o : Nat} {v : Value} (h : W.cell? ⟨b, o, none⟩ = some v) : b < W.heap.size := by
  by_cases hb : b < W.heap.size
  · exact hb
  · simp [World.cell?, Array.getElem?_eq_none (Nat.le_of_not_lt hb)] at h
/-- The right courses that a volume covers. -/
def covL (xs : List Lp) (r : Ru) (depth volume : Int) : List (List Int) := (rightL xs r).filter (fun c => decide (snowL xs c depth ≤ volume))
def covR (xs : List Lp) (r : Ru) (depth volume : Int) : List (List Int) × Int :=
  if checkE xs r = 0 then (if (withinB depth 1 200 && withinB volume 0 10000000) = true then (if (covL xs r depth volume).length ≤ 300 then covL xs r depth volume else [], if (covL xs r depth volume).length ≤ 300 then 0 else 10) else ([], 3)) else ([], checkE xs r)

theorem eg83 : ∀ args w, (callFunc 83 args).run Tryz.prog w = .ok (.enter 83 args) w := enters_of Tryz.func83 (by kernel_rfl) rfl

set_option maxHeartbeats 1000000 in
theorem cov1_any (a : Option Addr) (xs : List Lp) (cap : Nat) (ac : Option Addr) (c : List Int) (ccap B1 B2 B3 : Nat) (depth volume : Int) (w : World) (hx : Sl 3 Lp.cells w a xs) (hc : IntSl w ac c) (hl : xs.length ≤ 12) (hcl : c.length ≤ 1000000) (hal : xs.all allowedB = true)
    (hd : 1 ≤ depth ∧ depth ≤ 200) (h1 : w.cell? ⟨B1, 0, none⟩ = some (.slice a xs.length cap)) (h2 : w.cell? ⟨B2, 0, none⟩ = some (.int .i64 depth)) (h3 : w.cell? ⟨B3, 0, none⟩ = some (.int .i64 volume)) :
    Calls Tryz.prog 83 #[.slice ac c.length ccap, .pointer (some ⟨B1, 0, none⟩), .pointer (some ⟨B2, 0, none⟩), .pointer (some ⟨B3, 0, none⟩)] w fun e w' => e = .returned (.bool (decide (snowL xs c depth ≤ volume))) ∧ Below w.heap.size w w' := by
  have HL1 := lt_cell h1
  have HL2 := lt_cell h2
  have HL3 := lt_cell h3
  have HX := Lib.hid (And.intro hx hc)
  clear hx hc
  go_enter Tryz.func83, Tryz.ntmps83
  go_upto_region 1 with (fail)
  go_region_held3 (fun w' => w'.cell? ⟨B1, 0, none⟩ = some (.slice a xs.length cap) ∧ w'.cell? ⟨B2, 0, none⟩ = some (.int .i64 depth) ∧ w'.cell? ⟨B3, 0, none⟩ = some (.int .i64 volume)) (go_keep)
    (first | (go_at_call 80; refine (snow_any a xs cap ac c ccap depth _ (HX.out.1.below ((Below.refl _ _).drew)) (HX.out.2.below ((Below.refl _ _).drew)) hl hcl hal hd).mono ?_; rintro e w3 ⟨rfl, hb⟩; have HB := Lib.hid (below_self ((Below.refl w.heap.size w).drew) hb); clear hb; have y1 := (HB.out.cell (p := ⟨B1, 0, none⟩) HL1).trans h1; have y2 := (HB.out.cell (p := ⟨B2, 0, none⟩) HL2).trans h2; have y3 := (HB.out.cell (p := ⟨B3, 0, none⟩) HL3).trans h3))
  all_goals (
    clear y1 y2 y3
    go_wp2_with (fail)
    go_ret
    exact ⟨rfl, HB.out⟩)

set_option maxHeartbeats 2000000 in
set_option maxRecDepth 100000 in
theorem Covered_any (a : Option Addr) (xs : List Lp) (cap : Nat) (r : Ru) (depth volume : Int) (w : World) (hx : Sl 3 Lp.cells w a xs) (hl : xs.length ≤ 1000000) :
    Calls Tryz.prog 18 #[.slice a xs.length cap, r.v, .int .i64 depth, .int .i64 volume] w (OutCs w (covR xs r depth volume).1 (covR xs r depth volume).2) := by
  obtain ⟨W0, hW0⟩ : ∃ W0, (((w.alloc (.cells #[.slice a xs.length cap] 22)).alloc r.o).alloc (.cells #[.int .i64 depth] 3)).alloc (.cells #[.int .i64 volume] 3) = W0 := ⟨_, rfl⟩
  have HB0 : Hid (Below w.heap.size w W0 ∧ W0.heap[w.heap.size]? = some (.cells #[.slice a xs.length cap] 22 (0, 0)) ∧ RuAt W0 (w.heap.size + 1) r ∧ W0.heap[w.heap.size + 1 + 1]? = some (.cells #[.int .i64 depth] 3 (0, 0)) ∧ W0.heap[w.heap.size + 1 + 1 + 1]? = some (.cells #[.int .i64 volume] 3 (0, 0))) := by
    rw [← hW0]
    exact ⟨((((Below.refl _ _).alloc (Nat.le_refl _) _).alloc (by simp) _).alloc (by simp <;> omega) _).alloc (by simp <;> omega) _, alk (alk (alk (new_at rfl))), alk (alk (new_at (by simp))), alk (new_at (by simp)), new_at (by simp)⟩
  have HX0 := Lib.hid (hx.below HB0.out.1)
  clear hx
  go_enter Tryz.func18, Tryz.ntmps18
  have t0 := blk_cell HB0.out.2.1 0 rfl
  obtain ⟨d0, d1, d2, d3, d4, d5, d6, d7, d8⟩ := HB0.out.2.2.1.cells
  go_wp2_with (fail)
  clear hW0 t0 d0 d1 d2 d3 d4 d5 d6 d7 d8
  refine (check_any a xs cap r W0 HX0.out hl).mono ?_
  rintro e W1 ⟨rfl, hb⟩
  have HB1 : Hid (Below w.heap.size w W1 ∧ W1.heap[w.heap.size]? = some (.cells #[.slice a xs.length cap] 22 (0, 0)) ∧ RuAt W1 (w.heap.size + 1) r ∧ W1.heap[w.heap.size + 1 + 1]? = some (.cells #[.int .i64 depth] 3 (0, 0)) ∧ W1.heap[w.heap.size + 1 + 1 + 1]? = some (.cells #[.int .i64 volume] 3 (0, 0))) := ⟨below_self HB0.out.1 hb, blk_below HB0.out.2.1 hb, HB0.out.2.2.1.below hb, blk_below HB0.out.2.2.2.1 hb, blk_below HB0.out.2.2.2.2 hb⟩
  have HX1 := Lib.hid (HX0.out.below hb)
  clear hb HB0 HX0
  have b0 := blk_cell HB1.out.2.1 0 rfl
  have b2 := blk_cell HB1.out.2.2.2.1 0 rfl
  have b3 := blk_cell HB1.out.2.2.2.2 0 rfl
  by_cases h1 : checkE xs r = 0
  · have g1 : (checkE xs r != 0) = false := by simp [h1]
    have HR : Hid (covR xs r depth volume = if (withinB depth 1 200 && withinB volume 0 10000000) = true then (if (covL xs r depth volume).length ≤ 300 then covL xs r depth volume else [], if (covL xs r depth volume).length ≤ 300 then 0 else 10) else ([], 3)) := by show _ = _; rw [covR, if_pos h1]
    obtain ⟨hal, hl1, hl2⟩ := stad_ok (check_ok h1).1
    have H1 := Lib.hid h1
    clear h1
    cases e1 : withinB depth 1 200
    · have HR2 : Hid (covR xs r depth volume = ([], 3)) := by show _ = _; rw [HR.out, e1]; rfl
      go_wp2_with (go_at_call 79; refine (within_any _ _ _ _).mono ?_; rintro e w' ⟨rfl, rfl⟩)
      go_ret2
      rw [HR2.out]
      exact ⟨none, 0, rfl, fun h => by simp at h, HB1.out.1⟩
    · cases e2 : withinB volume 0 10000000
      · have HR2 : Hid (covR xs r depth volume = ([], 3)) := by show _ = _; rw [HR.out, e1, e2]; rfl
        go_wp2_with (go_at_call 79; refine (within_any _ _ _ _).mono ?_; rintro e w' ⟨rfl, rfl⟩)
        go_ret2
        rw [HR2.out]
        exact ⟨none, 0, rfl, fun h => by simp at h, HB1.out.1⟩
      · have HR2 : Hid (covR xs r depth volume = (if (covL xs r depth volume).length ≤ 300 then covL xs r depth volume else [], if (covL xs r depth volume).length ≤ 300 then 0 else 10)) := by show _ = _; rw [HR.out, e1, e2]; rfl
        have hd : 1 ≤ depth ∧ depth ≤ 200 := by simpa [withinB] using e1
        have hmf : ∀ (fn : Fn) (first cap : Array Value) (w : World), (Instr.makeFunc fn first cap).run Tryz.prog w = .ok (.func fn first cap) w := fun _ _ _ _ => rfl
        have r0 := HB1.out.2.2.1.cells.1
        obtain ⟨r1, r2, r3, r4, r5, r6, r7, r8⟩ := HB1.out.2.2.1.cells.2
        go_wp2_with (go_at_call 79; refine (within_any _ _ _ _).mono ?_; rintro e w' ⟨rfl, rfl⟩)
        clear r0 r1 r2 r3 r4 r5 r6 r7 r8 g1
        have HCH := callsIn_wide.1 (chosen_in 0 a xs cap r 83 r.laps.toNat #[.pointer (some ⟨w.heap.size, 0, none⟩), .pointer (some ⟨w.heap.size + 1 + 1, 0, none⟩), .pointer (some ⟨w.heap.size + 1 + 1 + 1, 0, none⟩)] (fun c => decide (snowL xs c depth ≤ volume)) W1 HX1.out H1.out (laps_nat H1.out).1 eg83
          (fun c hc av ccap W hW hI => cov1_any a xs cap av c ccap _ _ _ depth volume W (HX1.out.below hW) hI hl2 (by have h1 := (extC_ok xs.length r.laps.toNat [] 0 (by simp) c hc).1; have h2 := (laps_nat H1.out).2.2; simp at h1; omega) hal hd (blk_cell (blk_below HB1.out.2.1 hW) 0 rfl) (blk_cell (blk_below HB1.out.2.2.2.1 hW) 0 rfl) (blk_cell (blk_below HB1.out.2.2.2.2 hW) 0 rfl))
          (covL xs r depth volume) rfl)
        refine HCH.mono ?_
        clear HCH
        rintro e w2 ⟨a2, cap2, he, hS, hb2⟩
        generalize (if (covL xs r depth volume).length ≤ 300 then covL xs r depth volume else []) = L at he hS HR2
        generalize (if (covL xs r depth volume).length ≤ 300 then (0 : Int) else 10) = E at he HR2
        subst he
        go_wp2_with (fail)
        go_ret2
        rw [HR2.out]
        exact ⟨a2, cap2, rfl, hS, below_self HB1.out.1 hb2⟩
  · have g1 : (checkE xs r != 0) = true := by simp [h1]
    have HR : Hid (covR xs r depth volume = ([], checkE xs r)) := by show _ = _; rw [covR, if_neg h1]
    clear h1
    go_wp2_with (fail)
    go_ret2
    rw [HR.out]
    exact ⟨none, 0, rfl, fun h => by simp at h, HB1.out.1⟩

/-- What snow a right course has. -/
theorem snow_right {xs : List Lp} {r : Ru} {depth : Int} (h : checkE xs r = 0) (hd : withinB depth 1 200 = true) {c : List Int} (hc : c ∈ rightL xs r) : snowR xs c depth = (snowL xs c depth, 0) ∧ c.length ≤ 6 := by
  have hcE := (List.mem_filter.1 hc).1
  obtain ⟨hl1, hl2⟩ := (stad_ok (check_ok h).1).2
  have h2 := laps_nat h
  have hco := ext_ok xs.length r.laps.toNat (by omega) ⟨h2.2.1, h2.2.2⟩ c hcE
  have h1 := (extC_ok xs.length r.laps.toNat [] 0 (by simp) c hcE).1
  have ha : areaR xs c = (areaL xs c, 0) := by rw [areaR, if_pos (check_ok h).1, if_pos hco]
  simp at h1
  exact ⟨by rw [snowR, ha, if_pos rfl, if_pos hd], by omega⟩
theorem right_few {xs : List Lp} {r : Ru} (h : checkE xs r = 0) : (rightL xs r).length ≤ 2985984 := by
  obtain ⟨hl1, hl2⟩ := (stad_ok (check_ok h).1).2
  have h2 := laps_nat h
  exact Nat.le_trans (List.length_filter_le _ _) (ext_few xs.length r.laps.toNat ⟨hl1, hl2⟩ ⟨h2.2.1, h2.2.2⟩)

set_option maxHeartbeats 4000000 in
set_option maxRecDepth 100000 in
theorem refCovered_any (a : Option Addr) (xs : List Lp) (cap : Nat) (r : Ru) (depth volume : Int) (w : World) (hx : Sl 3 Lp.cells w a xs) (hl : xs.length ≤ 1000000) :
    Calls Tryz.prog 19 #[.slice a xs.length cap, r.v, .int .i64 depth, .int .i64 volume] w (OutCs w (covR xs r depth volume).1 (covR xs r depth volume).2) := by
  obtain ⟨i0, hi, hz0, hz1, hz2⟩ := info_parts Tryz.info27
  have hB0 : Below w.heap.size w (w.alloc (.cells #[.int .i64 r.laps, .int .i64 r.len.lo, .int .i64 r.len.hi, .int .i64 r.climb.lo, .int .i64 r.climb.hi, .int .i64 r.lap.lo, .int .i64 r.lap.hi, .int .i64 r.wide, .int .i64 r.uses] 36)) := (Below.refl _ _).alloc (Nat.le_refl _) _
  have hR0 : RB38 (w.alloc (.cells #[.int .i64 r.laps, .int .i64 r.len.lo, .int .i64 r.len.hi, .int .i64 r.climb.lo, .int .i64 r.climb.hi, .int .i64 r.lap.lo, .int .i64 r.lap.hi, .int .i64 r.wide, .int .i64 r.uses] 36)) w.heap.size r := heap_alloc_new _ _
  have HX := Lib.hid hx
  clear hx
  go_enter Tryz.func19, Tryz.ntmps19
  go_wp2_with (fail)
  have HXA := Lib.hid (HX.out.below hB0)
  generalize w.alloc (.cells #[.int .i64 r.laps, .int .i64 r.len.lo, .int .i64 r.len.hi, .int .i64 r.climb.lo, .int .i64 r.climb.hi, .int .i64 r.lap.lo, .int .i64 r.lap.hi, .int .i64 r.wide, .int .i64 r.uses] 36) = W0 at hB0 hR0 HXA ⊢
  refine (refCheck_any a xs cap r _ HXA.out hl).mono ?_
  rintro e V0 ⟨rfl, hb⟩
  have HB0 := Lib.hid (below_self hB0 hb)
  have HR0 := Lib.hid (RB38.below hR0 hb)
  have HX0 := Lib.hid (HXA.out.below hb)
  clear hB0 hR0 hb HXA
  by_cases h1 : checkE xs r = 0
  · have g1 : (checkE xs r != 0) = false := by simp [h1]
    have HR : Hid (covR xs r depth volume = if (withinB depth 1 200 && withinB volume 0 10000000) = true then (if (covL xs r depth volume).length ≤ 300 then covL xs r depth volume else [], if (covL xs r depth volume).length ≤ 300 then 0 else 10) else ([], 3)) := by show _ = _; rw [covR, if_pos h1]
    have H1 := Lib.hid h1
    clear h1
    cases e1 : withinB depth 1 200
    · have HR2 : Hid (covR xs r depth volume = ([], 3)) := by show _ = _; rw [HR.out, e1]; rfl
      go_wp2_with (go_at_call 81; refine (outside_any _ _ _ _).mono ?_; rintro e w' ⟨rfl, rfl⟩)
      go_ret2
      rw [HR2.out]
      exact ⟨none, 0, rfl, fun h => by simp at h, HB0.out⟩
    · cases e2 : withinB volume 0 10000000
      · have HR2 : Hid (covR xs r depth volume = ([], 3)) := by show _ = _; rw [HR.out, e1, e2]; rfl
        go_wp2_with (go_at_call 81; refine (outside_any _ _ _ _).mono ?_; rintro e w' ⟨rfl, rfl⟩)
        go_ret2
        rw [HR2.out]
        exact ⟨none, 0, rfl, fun h => by simp at h, HB0.out⟩
      · have HR2 : Hid (covR xs r depth volume = (if (covL xs r depth volume).length ≤ 300 then covL xs r depth volume else [], if (covL xs r depth volume).length ≤ 300 then 0 else 10)) := by show _ = _; rw [HR.out, e1, e2]; rfl
        have HSN := Lib.hid (fun c hc => snow_right (depth := depth) (c := c) H1.out e1 hc)
        have hfew := right_few H1.out
        have c0 := blk_cell HR0.out 0 rfl
        have c1 := blk_cell HR0.out 1 rfl
        have c2 := blk_cell HR0.out 2 rfl
        have c3 := blk_cell HR0.out 3 rfl
        have c4 := blk_cell HR0.out 4 rfl
        have c5 := blk_cell HR0.out 5 rfl
        have c6 := blk_cell HR0.out 6 rfl
        have c7 := blk_cell HR0.out 7 rfl
        have c8 := blk_cell HR0.out 8 rfl
        go_wp2_with (go_at_call 81; refine (outside_any _ _ _ _).mono ?_; rintro e w' ⟨rfl, rfl⟩)
        clear c0 c1 c2 c3 c4 c5 c6 c7 c8
        clear g1
        refine (refRight_any a xs cap r V0 HX0.out H1.out).mono ?_
        rintro e W1 ⟨la, lcap, rfl, hS, hb⟩
        have HB1 := Lib.hid (below_self HB0.out hb)
        have HX1 := Lib.hid (HX0.out.below hb)
        have HS := Lib.hid hS
        have HCV : Hid (covL xs r depth volume = (rightL xs r).filter (fun c => decide (snowL xs c depth ≤ volume))) := rfl
        clear hS hb HX0 HR0
        generalize rightL xs r = S at *
        go_wp2_with (fail)
        clear e1 e2
        go_loopw [12, 13] (fun v6 iv wr => ∃ (k : Nat) (oa : Option Addr) (ocap : Nat) (vals : List Value), v6 = .slice oa vals.length ocap ∧ iv = .int .i64 k ∧ k ≤ S.length ∧ vals.length ≤ k ∧ Hid (wr.ownsRow W1.heap.size 27 1 (.slice oa vals.length ocap) vals.length vals ∧ Rows0 W1 vals ((S.take k).filter (fun c => decide (snowL xs c depth ≤ volume))) ∧ Below W1.heap.size W1 wr)) (fun _ iv _ => S.length - (intOf iv).toNat)
        case atStart => exact ⟨0, none, 0, [], rfl, rfl, Nat.zero_le _, Nat.le_refl _, World.ownsRow_nil _ _ _ _, Rows0.nil _, Below.refl _ _⟩
        case round =>
          obtain ⟨k, oa, ocap, vals, rfl, rfl, hk, hvk, hI⟩ := hrel
          obtain ⟨V, hV⟩ : ∃ V, V = wr := ⟨_, rfl⟩
          subst hV
          by_cases hlt : k < S.length
          · obtain ⟨b, off, rfl, hbs, hc⟩ := HS.out (by omega)
            obtain ⟨ac, ccap, hcell, hint⟩ := hc k S[k] (List.getElem?_eq_getElem hlt)
            have HCO := Lib.hid (HSN.out S[k] (List.getElem_mem hlt))
            have HT := Lib.hid (take_filter (fun c => decide (snowL xs c depth ≤ volume)) S k hlt)
            have HI := Lib.hid hint
            have x1 := (hI.out.2.2.cell (p := ⟨b, off + k, none⟩) hbs).trans hcell
            have HBS := Lib.hid hbs
            clear hc hcell hint hbs
            generalize S[k] = c at *
            have HX2 := Lib.hid (HX1.out.below hI.out.2.2)
            have HI2 := Lib.hid (HI.out.below hI.out.2.2)
            go_wp2_with (fail)
            have HSC := refSnow_any a xs cap ac c ccap depth V HX2.out HI2.out hl (by have := HCO.out.2; omega)
            rw [HCO.out.1] at HSC
            refine HSC.mono ?_
            clear HSC
            rintro e W3 ⟨rfl, hb⟩
            have HB3 := Lib.hid (below_self hI.out.2.2 hb)
            have HV3 := Lib.hid hb
            have y1 := (hb.cell (p := ⟨b, off + k, none⟩) (Nat.lt_of_lt_of_le HBS.out hI.out.2.2.size)).trans x1
            clear hb x1
            have HO := Lib.hid (owns_below hI.out.1 HV3.out)
            generalize hm : snowL xs c depth = m at *
            by_cases hle : m ≤ volume
            · have g2 : decide (m ≤ volume) = true := decide_eq_true hle
              have HT2 : Hid ((S.take (k + 1)).filter (fun c => decide (snowL xs c depth ≤ volume)) = (S.take k).filter (fun c => decide (snowL xs c depth ≤ volume)) ++ [c]) := by show _ = _; rw [HT.out, if_pos g2]
              clear HT hm
              go_wp2_with (at_builtin; refine wpList_append_own_at _ rfl _ _ 43 rfl W1.heap.size 27 i0 (.slice none 0 0) 1 24 Tryz.underlying43 hi hz0 hz1 hz2 rfl (by decide) (.slice oa vals.length ocap) vals.length vals rfl (HO.out.alloc _) ⟨W3.heap.size, 0, none⟩ 1 1 [.slice ac c.length ccap] rfl rfl (cell_one_new _ _ _) (by simp [Value.oneCell']) (by unfold maxLen; omega) (by omega) (by have := HB3.out.size; rw [World.size_alloc]; omega) ?_)
              intro v' W4 hown4 hgrow4 _ _
              obtain ⟨g', cap', rfl⟩ := ownsRow_succ hown4
              have hsz := HB3.out.size
              have hrow : ∀ j, (Value.slice oa vals.length ocap).ownBlock = some j → W1.heap.size ≤ j := fun j hj => (HO.out.lt j hj).1
              have hB4 : Below W1.heap.size W1 W4 := (HB3.out.alloc (by omega) _).grown hgrow4 (by simp; omega) (fun j hj => hrow j hj)
              have R2 := hI.out.2.1.snoc (cap := ccap) HI.out
              have HF := Lib.hid (And.intro hown4 (And.intro R2 hB4))
              clear hown4 hgrow4 hsz hrow hB4 R2 HO
              go_wp2_with (fail)
              go_roundw
              case rel =>
                refine ⟨k + 1, some ⟨g', 0, none⟩, cap', vals ++ [Value.slice ac c.length ccap], by simp, by go_num, by omega, by simp; omega, ?_⟩
                show _ ∧ _ ∧ _
                rw [HT2.out, show (vals ++ [Value.slice ac c.length ccap]).length = vals.length + 1 by simp]
                exact HF.out
              case measure => simp [intOf]; omega
            · have g2 : decide (m ≤ volume) = false := decide_eq_false hle
              have HT2 : Hid ((S.take (k + 1)).filter (fun c => decide (snowL xs c depth ≤ volume)) = (S.take k).filter (fun c => decide (snowL xs c depth ≤ volume))) := by show _ = _; rw [HT.out, if_neg (by rw [g2]; simp), List.append_nil]
              clear HT hm
              go_wp2_with (fail)
              go_roundw
              case rel =>
                refine ⟨k + 1, oa, ocap, vals, rfl, by go_num, by omega, by omega, ?_⟩
                show _ ∧ _ ∧ _
                rw [HT2.out]
                exact ⟨HO.out, hI.out.2.1, HB3.out⟩
              case measure => simp [intOf]; omega
          · have hke : k = S.length := by omega
            subst hke
            have h1 := hI.out.2.1
            rw [List.take_length, ← HCV.out] at h1
            obtain ⟨a4, cap4, h5, h6⟩ := sls_of_owns0 hI.out.1 h1 hI.out.2.2
            have HF := Lib.hid (And.intro h6 (below_self HB1.out hI.out.2.2))
            rw [h5]
            clear h1 h5 h6
            generalize covL xs r depth volume = L at *
            by_cases h3 : 300 < L.length
            · have g3 : decide (300 < L.length) = true := decide_eq_true h3
              have HR3 : Hid (covR xs r depth volume = ([], 10)) := by show _ = _; rw [HR2.out, if_neg (by omega), if_neg (by omega)]
              go_wp2_with (fail)
              go_ret2
              rw [HR3.out]
              exact ⟨none, 0, rfl, fun h => by simp at h, HF.out.2⟩
            · have g3 : decide (300 < L.length) = false := decide_eq_false h3
              have HR3 : Hid (covR xs r depth volume = (L, 0)) := by show _ = _; rw [HR2.out, if_pos (by omega), if_pos (by omega)]
              go_wp2_with (fail)
              go_ret2
              rw [HR3.out]
              exact ⟨a4, cap4, rfl, HF.out.1, HF.out.2⟩
  · have g1 : (checkE xs r != 0) = true := by simp [h1]
    have HR : Hid (covR xs r depth volume = ([], checkE xs r)) := by show _ = _; rw [covR, if_neg h1]
    clear h1
    go_wp2_with (fail)
    go_ret2
    rw [HR.out]
    exact ⟨none, 0, rfl, fun h => by simp at h, HB0.out⟩
end Go.Proofs.YtpkegiekpnaejaaGreat
