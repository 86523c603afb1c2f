/-
The contracts of Area and Snow, and of the reference's, over this seat's program.
  What is proved: what each call returns; nothing that was there before has turned.
  Conditions: slices of at most 1000000 elements.
The contracts of Covered, and of the reference's Covered and Cheapest, over this seat's program.
  What is proved: what each call returns; nothing that was there before has turned.
  Conditions: slices of at most 1000000 elements.
The contracts of slices.ContainsFunc for lists of lists, and of CourseListed's own function.
  What is proved: they tell whether some list is asked for, and whether a list is among others; nothing that was there has turned.
  Conditions: lists of at most 1000000 lists of at most 1000000 numbers.
The contracts of chosen, All and Covered over this seat's program, with where what they hand back lies.
  What is proved: the lists that they hand back are new memory; nothing that was there before has turned.
  Conditions: slices of at most 1000000 elements.
What CourseListed asks, of lists: right courses stand in order, each once; they are just the lists that break no rule;
  and wider rules lose none.
  No program is named here. Conditions: stadiums and rules that Check passes, of few loops and laps.
-/
import Derived.Test.YtgldfnkjfgcjpaaGreatPart17
namespace Go.Proofs.YtgldfnkjfgcjpaaGreat
open Go.RowKit
attribute [local go_sem] Oper.semAt_some

/-- The area of a course, or the error. -/
def areaR (xs : List Lp) (c : List Int) : Int × Int := if stadE xs = 0 then (if courseE xs.length c = 0 then (areaL xs c, 0) else (0, courseE xs.length c)) else (0, stadE xs)
/-- The snow of a course, or the error. -/
def snowR (xs : List Lp) (c : List Int) (depth : Int) : Int × Int := if (areaR xs c).2 = 0 then (if withinB depth 1 200 = true then (snowL xs c depth, 0) else (0, 3)) else (0, (areaR xs c).2)
/-- A call that hands back a number and an error; nothing that was there before it has turned. -/
def Out2 (w : World) (x : Int × Int) (e : Ending) (w' : World) : Prop := e = .returned (.tuple #[.int .i64 x.1, .int .i64 x.2]) ∧ Below w.heap.size w w'

theorem area_ok {xs : List Lp} {c : List Int} (h : (areaR xs c).2 = 0) : areaR xs c = (areaL xs c, 0) ∧ stadE xs = 0 ∧ courseE xs.length c = 0 := by
  unfold areaR at h ⊢
  split at h
  · rename_i h1
    split at h
    · rename_i h2
      exact ⟨by rw [if_pos h1, if_pos h2], h1, h2⟩
    · rename_i h2
      exact absurd h h2
  · rename_i h1
    exact absurd h h1

set_option maxHeartbeats 1000000 in
theorem Area_any (a : Option Addr) (xs : List Lp) (cap : Nat) (ac : Option Addr) (c : List Int) (ccap : Nat) (w : World) (hx : Sl 3 Lp.cells w a xs) (hc : IntSl w ac c) (hl : xs.length ≤ 1000000) (hcl : c.length ≤ 1000000) :
    Calls Tryz.prog 14 #[.slice a xs.length cap, .slice ac c.length ccap] w (Out2 w (areaR xs c)) := by
  have hmf : ∀ (fn : Fn) (first cap : Array Value) (w : World), (Instr.makeFunc fn first cap).run Tryz.prog w = .ok (.func fn first cap) w := fun _ _ _ _ => rfl
  have HX := Lib.hid (And.intro hx hc)
  clear hx hc
  go_enter Tryz.func14, Tryz.ntmps14
  go_wp2_with (fail)
  refine (checkStadium_any a xs cap _ HX.out.1 hl).mono ?_
  rintro e W1 ⟨rfl, hb⟩
  have HB1 := Lib.hid hb
  clear hb
  by_cases h1 : stadE xs = 0
  · have g1 : (stadE xs != 0) = false := by simp [h1]
    have HR : Hid (areaR xs c = if courseE xs.length c = 0 then (areaL xs c, 0) else (0, courseE xs.length c)) := by show _ = _; rw [areaR, if_pos h1]
    obtain ⟨hal, hl1, hl2⟩ := stad_ok h1
    clear h1
    go_wp2_with (fail)
    clear g1
    refine (checkCourse_any (xs.length : Int) ac c ccap _ (HX.out.2.below HB1.out) hcl (by omega)).mono ?_
    rintro e W2 ⟨rfl, hb⟩
    have HB2 := Lib.hid (below_self HB1.out hb)
    clear hb
    by_cases h2 : courseE xs.length c = 0
    · have g2 : (courseE xs.length c != 0) = false := by simp [h2]
      have HR2 : Hid (areaR xs c = (areaL xs c, 0)) := by show _ = _; rw [HR.out, if_pos h2]
      clear h2
      go_wp2_with (fail)
      clear g2
      refine (area_any a xs cap ac c ccap _ (HX.out.1.below HB2.out) (HX.out.2.below HB2.out) hl2 hcl hal).mono ?_
      rintro e W3 ⟨rfl, hb⟩
      have HB3 := Lib.hid (below_self HB2.out hb)
      clear hb
      go_wp2_with (fail)
      go_ret2
      exact ⟨by rw [HR2.out]; rfl, HB3.out⟩
    · have g2 : (courseE xs.length c != 0) = true := by simp [h2]
      have HR2 : Hid (areaR xs c = (0, courseE xs.length c)) := by show _ = _; rw [HR.out, if_neg h2]
      clear h2
      go_wp2_with (fail)
      go_ret2
      exact ⟨by rw [HR2.out]; rfl, HB2.out⟩
  · have g1 : (stadE xs != 0) = true := by simp [h1]
    have HR : Hid (areaR xs c = (0, stadE xs)) := by show _ = _; rw [areaR, if_neg h1]
    clear h1
    go_wp2_with (fail)
    go_ret2
    exact ⟨by rw [HR.out]; rfl, HB1.out⟩

theorem areaTo_step (xs : List Lp) (c : List Int) (k : Nat) (hk : k < xs.length) : areaTo xs c (k + 1) = areaTo xs c k + if 0 < c.count (k : Int) then xs[k].l * xs[k].d else 0 := by
  simp only [areaTo, List.getElem?_eq_getElem hk]
  congr 1
  by_cases h : (k : Int) ∈ c
  · rw [if_pos (by simpa using h), if_pos (List.count_pos_iff.2 h)]
  · rw [if_neg (by simpa using h), if_neg (fun hh => h (List.count_pos_iff.1 hh))]

set_option maxHeartbeats 2000000 in
set_option maxRecDepth 100000 in
theorem refArea_any (a : Option Addr) (xs : List Lp) (cap : Nat) (ac : Option Addr) (c : List Int) (ccap : Nat) (w : World) (hx : Sl 3 Lp.cells w a xs) (hc : IntSl w ac c) (hl : xs.length ≤ 1000000) (hcl : c.length ≤ 1000000) :
    Calls Tryz.prog 15 #[.slice a xs.length cap, .slice ac c.length ccap] w (Out2 w (areaR xs c)) := by
  have HX := Lib.hid (And.intro hx hc)
  clear hx hc
  go_enter Tryz.func15, Tryz.ntmps15
  go_wp2_with (fail)
  refine (stadium_any a xs cap _ HX.out.1 hl).mono ?_
  rintro e W1 ⟨rfl, rfl⟩
  by_cases h1 : stadE xs = 0
  · have g1 : (stadE xs != 0) = false := by simp [h1]
    have HR : Hid (areaR xs c = if courseE xs.length c = 0 then (areaL xs c, 0) else (0, courseE xs.length c)) := by show _ = _; rw [areaR, if_pos h1]
    obtain ⟨hal, hl1, hl2⟩ := stad_ok h1
    have HA := Lib.hid hal
    clear h1 hal
    go_wp2_with (fail)
    clear g1
    refine (listed_any a xs cap ac c ccap _ HX.out.2 hl hcl).mono ?_
    rintro e W2 ⟨rfl, hb⟩
    have HB2 := Lib.hid hb
    clear hb
    by_cases h2 : courseE xs.length c = 0
    · have g2 : (courseE xs.length c != 0) = false := by simp [h2]
      have HR2 : Hid (areaR xs c = (areaL xs c, 0)) := by show _ = _; rw [HR.out, if_pos h2]
      clear h2
      go_wp2_with (fail)
      clear g2
      go_loopw [8, 9] (fun v i wr => ∃ (k : Nat) (y : Int), k ≤ xs.length ∧ i = .int .i64 k ∧ v = .int .i64 y ∧ Hid (y = areaTo xs c k ∧ Below w.heap.size w wr)) (fun _ i _ => xs.length - (intOf i).toNat)
      case atStart => exact ⟨0, 0, Nat.zero_le _, rfl, rfl, rfl, HB2.out⟩
      case round =>
        obtain ⟨k, y, hk, rfl, rfl, hI⟩ := hrel
        by_cases hlt : k < xs.length
        · have HS := Lib.hid (areaTo_step xs c k hlt)
          obtain ⟨y1, y2⟩ := areaTo_bd HA.out c k hk
          rw [← hI.out.1] at y1 y2
          have y3 : y ≤ 10000000 := by omega
          obtain ⟨p1, p2⟩ := area_one (List.all_eq_true.1 HA.out xs[k] (List.getElem_mem hlt))
          obtain ⟨b, off, rfl, hbs, hcc⟩ := HX.out.1 (by omega)
          have d0 := (hI.out.2.cell (p := ⟨b, off + k * 3, none⟩) hbs).trans (hcc k xs[k] 0 _ (List.getElem?_eq_getElem hlt) rfl)
          have d1 := (hI.out.2.cell (p := ⟨b, off + k * 3 + 1, none⟩) hbs).trans (hcc k xs[k] 1 _ (List.getElem?_eq_getElem hlt) rfl)
          have d2 := (hI.out.2.cell (p := ⟨b, off + k * 3 + 2, none⟩) hbs).trans (hcc k xs[k] 2 _ (List.getElem?_eq_getElem hlt) rfl)
          clear hcc y2
          generalize xs[k] = x at *
          generalize hn : c.count (k : Int) = n at *
          have HN := Lib.hid hn
          clear hn
          go_upto_region 11 with (fail)
          go_wp2_with (fail)
          have HU := uses_any ac c ccap (k : Int) wr (HX.out.2.below hI.out.2) hcl
          rw [HN.out] at HU
          refine HU.mono ?_
          rintro e W3 ⟨rfl, rfl⟩
          clear HU
          by_cases h0 : 0 < n
          · have g3 : decide (0 < (n : Int)) = true := decide_eq_true (by omega)
            have HS2 : Hid (areaTo xs c (k + 1) = y + x.l * x.d) := by show _ = _; rw [HS.out, hI.out.1, if_pos h0]
            clear HS
            go_upto_region 12 with (fail)
            go_quiet (fail)
            have hwd := Lib.hid (below_drewN hI.out.2 nq)
            go_wp2_with (fail)
            go_roundw
            case rel => exact ⟨k + 1, _, by omega, by go_num, rfl, HS2.out.symm, hwd.out⟩
            case measure => simp [intOf]; omega
          · have g3 : decide (0 < (n : Int)) = false := decide_eq_false (by omega)
            have HS2 : Hid (areaTo xs c (k + 1) = y) := by show _ = _; rw [HS.out, hI.out.1, if_neg h0]; omega
            clear HS
            go_wp2_with (fail)
            go_roundw
            case rel => exact ⟨k + 1, y, by omega, by go_num, rfl, HS2.out.symm, hI.out.2⟩
            case measure => simp [intOf]; omega
        · have : k = xs.length := by omega
          subst this
          go_wp2_with (fail)
          go_ret2
          exact ⟨by rw [HR2.out]; unfold areaL; rw [← hI.out.1]; rfl, hI.out.2⟩
    · have g2 : (courseE xs.length c != 0) = true := by simp [h2]
      have HR2 : Hid (areaR xs c = (0, courseE xs.length c)) := by show _ = _; rw [HR.out, if_neg h2]
      clear h2
      go_wp2_with (fail)
      go_ret2
      exact ⟨by rw [HR2.out]; rfl, HB2.out⟩
  · have g1 : (stadE xs != 0) = true := by simp [h1]
    have HR : Hid (areaR xs c = (0, stadE xs)) := by show _ = _; rw [areaR, if_neg h1]
    clear h1
    go_wp2_with (fail)
    go_ret2
    exact ⟨by rw [HR.out]; rfl, Below.refl _ _⟩

set_option maxHeartbeats 1000000 in
theorem Snow_any (a : Option Addr) (xs : List Lp) (cap : Nat) (ac : Option Addr) (c : List Int) (ccap : Nat) (depth : Int) (w : World) (hx : Sl 3 Lp.cells w a xs) (hc : IntSl w ac c) (hl : xs.length ≤ 1000000) (hcl : c.length ≤ 1000000) :
    Calls Tryz.prog 16 #[.slice a xs.length cap, .slice ac c.length ccap, .int .i64 depth] w (Out2 w (snowR xs c depth)) := by
  have HX := Lib.hid (And.intro hx hc)
  obtain ⟨A, E, hAE⟩ : ∃ A E, areaR xs c = (A, E) := ⟨_, _, rfl⟩
  have HC := Area_any a xs cap ac c ccap w hx hc hl hcl
  rw [hAE] at HC
  have HAE := Lib.hid hAE
  have HOK : Hid (E = 0 → stadE xs = 0) := fun h => (area_ok (by rw [hAE]; exact h)).2.1
  clear hx hc hAE
  go_enter Tryz.func16, Tryz.ntmps16
  go_wp2_with (fail)
  refine HC.mono ?_
  clear HC
  rintro e W1 ⟨rfl, hb⟩
  have HB1 := Lib.hid hb
  clear hb
  by_cases h1 : E = 0
  · have g1 : (E != 0) = false := by simp [h1]
    obtain ⟨hal, hl1, hl2⟩ := stad_ok (HOK.out h1)
    have HR : Hid (snowR xs c depth = if withinB depth 1 200 = true then (snowL xs c depth, 0) else (0, 3)) := by show _ = _; rw [snowR, HAE.out, if_pos h1]
    clear h1
    cases h2 : withinB depth 1 200
    · have HR2 : Hid (snowR xs c depth = (0, 3)) := by show _ = _; rw [HR.out, h2]; rfl
      go_wp2_with (go_at_call 79; refine (within_any _ _ _ _).mono ?_; rintro e w' ⟨rfl, rfl⟩)
      go_ret2
      exact ⟨by rw [HR2.out]; rfl, HB1.out⟩
    · have HR2 : Hid (snowR xs c depth = (snowL xs c depth, 0)) := by show _ = _; rw [HR.out, h2]; rfl
      have hd : 1 ≤ depth ∧ depth ≤ 200 := by simpa [withinB] using h2
      go_wp2_with (go_at_call 79; refine (within_any _ _ _ _).mono ?_; rintro e w' ⟨rfl, rfl⟩)
      refine (snow_any a xs cap ac c ccap depth _ (HX.out.1.below HB1.out) (HX.out.2.below HB1.out) hl2 hcl hal hd).mono ?_
      rintro e W2 ⟨rfl, hb⟩
      have HB2 := Lib.hid (below_self HB1.out hb)
      clear hb
      go_wp2_with (fail)
      go_ret2
      exact ⟨by rw [HR2.out]; rfl, HB2.out⟩
  · have g1 : (E != 0) = true := by simp [h1]
    have HR : Hid (snowR xs c depth = (0, E)) := by show _ = _; rw [snowR, HAE.out, if_neg h1]
    clear h1
    go_wp2_with (fail)
    go_ret2
    exact ⟨by rw [HR.out]; rfl, HB1.out⟩

theorem snowL_rest (n : Int) (_hn : 0 ≤ n) : (n + 99) / 100 = if 0 < n % 100 then n / 100 + 1 else n / 100 := by
  split <;> omega

set_option maxHeartbeats 1000000 in
theorem refSnow_any (a : Option Addr) (xs : List Lp) (cap : Nat) (ac : Option Addr) (c : List Int) (ccap : Nat) (depth : Int) (w : World) (hx : Sl 3 Lp.cells w a xs) (hc : IntSl w ac c) (hl : xs.length ≤ 1000000) (hcl : c.length ≤ 1000000) :
    Calls Tryz.prog 17 #[.slice a xs.length cap, .slice ac c.length ccap, .int .i64 depth] w (Out2 w (snowR xs c depth)) := by
  obtain ⟨A, E, hAE⟩ : ∃ A E, areaR xs c = (A, E) := ⟨_, _, rfl⟩
  have HC := refArea_any a xs cap ac c ccap w hx hc hl hcl
  rw [hAE] at HC
  have HAE := Lib.hid hAE
  have HOK : Hid (E = 0 → A = areaL xs c ∧ stadE xs = 0) := fun h => by
    have h1 := area_ok (xs := xs) (c := c) (by rw [hAE]; exact h)
    rw [hAE] at h1
    exact ⟨(Prod.mk.inj h1.1).1, h1.2.1⟩
  clear hx hc hAE
  go_enter Tryz.func17, Tryz.ntmps17
  go_wp2_with (fail)
  refine HC.mono ?_
  clear HC
  rintro e W1 ⟨rfl, hb⟩
  have HB1 := Lib.hid hb
  clear hb
  by_cases h1 : E = 0
  · have g1 : (E != 0) = false := by simp [h1]
    obtain ⟨hA, hst⟩ := HOK.out h1
    obtain ⟨hal, hl1, hl2⟩ := stad_ok hst
    obtain ⟨p1, p2⟩ := areaTo_bd hal c xs.length (Nat.le_refl _)
    have q1 : 0 ≤ A := by rw [hA]; exact p1
    have q2 : A ≤ 4800000 := by rw [hA]; unfold areaL; omega
    have HR : Hid (snowR xs c depth = if withinB depth 1 200 = true then ((A * depth + 99) / 100, 0) else (0, 3)) := by show _ = _; rw [snowR, HAE.out, if_pos h1, hA]; rfl
    clear h1 hA p1 p2 hal hst
    cases h2 : withinB depth 1 200
    · have HR2 : Hid (snowR xs c depth = (0, 3)) := by show _ = _; rw [HR.out, h2]; rfl
      go_wp2_with (go_at_call 81; refine (outside_any _ _ _ _).mono ?_; rintro e w' ⟨rfl, rfl⟩)
      go_ret2
      exact ⟨by rw [HR2.out]; rfl, HB1.out⟩
    · have hd : 1 ≤ depth ∧ depth ≤ 200 := by simpa [withinB] using h2
      have p3 : 0 ≤ A * depth := Int.mul_nonneg q1 (by omega)
      have p4 : A * depth ≤ 1000000000 := by
        have h1 := Int.mul_le_mul q2 hd.2 (by omega) (by omega)
        omega
      have HR2 : Hid (snowR xs c depth = ((A * depth + 99) / 100, 0)) := by show _ = _; rw [HR.out, h2]; rfl
      clear HR
      have HQ := Lib.hid (snowL_rest (A * depth) p3)
      by_cases h3 : 0 < A * depth % 100
      · have g3 : decide (0 < A * depth % 100) = true := decide_eq_true h3
        have HR3 : Hid (snowR xs c depth = (A * depth / 100 + 1, 0)) := by show _ = _; rw [HR2.out, HQ.out, if_pos h3]
        clear HR2 HQ
        go_wp2_with (go_at_call 81; refine (outside_any _ _ _ _).mono ?_; rintro e w' ⟨rfl, rfl⟩)
        go_ret2
        exact ⟨by rw [HR3.out]; rfl, HB1.out⟩
      · have g3 : decide (0 < A * depth % 100) = false := decide_eq_false h3
        have HR3 : Hid (snowR xs c depth = (A * depth / 100, 0)) := by show _ = _; rw [HR2.out, HQ.out, if_neg h3]
        clear HR2 HQ
        go_wp2_with (go_at_call 81; refine (outside_any _ _ _ _).mono ?_; rintro e w' ⟨rfl, rfl⟩)
        go_ret2
        exact ⟨by rw [HR3.out]; rfl, HB1.out⟩
  · have g1 : (E != 0) = true := by simp [h1]
    have HR : Hid (snowR xs c depth = (0, E)) := by show _ = _; rw [snowR, HAE.out, if_neg h1]
    clear h1
    go_wp2_with (fail)
    go_ret2
    exact ⟨by rw [HR.out]; rfl, HB1.out⟩
end Go.Proofs.YtgldfnkjfgcjpaaGreat

namespace Go.Proofs.YtgldfnkjfgcjpaaGreat
open Go.RowKit Go.Shelf
attribute [local go_sem] Oper.semAt_some

theorem lt_cell {W : World} {b o : Nat} {v : Value} (h : W.cell? ⟨b, o, none⟩ = some v) : b < W.heap.size := by
  by_cases hb : b < W.heap.size
  · exact hb
  · simp [World.cell?, Array.getElem?_eq_none (Nat.le_of_not_lt hb)] at h
/-- The right courses that a volume covers. -/
def covL (xs : List Lp) (r : Ru) (depth volume : Int) : List (List Int) := (rightL xs r).filter (fun c => decide (snowL xs c depth ≤ volume))
def covR (xs : List Lp) (r : Ru) (depth volume : Int) : List (List Int) × Int :=
  if checkE xs r = 0 then (if (withinB depth 1 200 && withinB volume 0 10000000) = true then (if (covL xs r depth volume).length ≤ 300 then covL xs r depth volume else [], if (covL xs r depth volume).length ≤ 300 then 0 else 10) else ([], 3)) else ([], checkE xs r)

theorem eg83 : ∀ args w, (callFunc 83 args).run Tryz.prog w = .ok (.enter 83 args) w := enters_of Tryz.func83 (by kernel_rfl) rfl

set_option maxHeartbeats 1000000 in
theorem cov1_any (a : Option Addr) (xs : List Lp) (cap : Nat) (ac : Option Addr) (c : List Int) (ccap B1 B2 B3 : Nat) (depth volume : Int) (w : World) (hx : Sl 3 Lp.cells w a xs) (hc : IntSl w ac c) (hl : xs.length ≤ 12) (hcl : c.length ≤ 1000000) (hal : xs.all allowedB = true)
    (hd : 1 ≤ depth ∧ depth ≤ 200) (h1 : w.cell? ⟨B1, 0, none⟩ = some (.slice a xs.length cap)) (h2 : w.cell? ⟨B2, 0, none⟩ = some (.int .i64 depth)) (h3 : w.cell? ⟨B3, 0, none⟩ = some (.int .i64 volume)) :
    Calls Tryz.prog 83 #[.slice ac c.length ccap, .pointer (some ⟨B1, 0, none⟩), .pointer (some ⟨B2, 0, none⟩), .pointer (some ⟨B3, 0, none⟩)] w fun e w' => e = .returned (.bool (decide (snowL xs c depth ≤ volume))) ∧ Below w.heap.size w w' := by
  have HL1 := lt_cell h1
  have HL2 := lt_cell h2
  have HL3 := lt_cell h3
  have HX := Lib.hid (And.intro hx hc)
  clear hx hc
  go_enter Tryz.func83, Tryz.ntmps83
  go_upto_region 1 with (fail)
  go_region_held3 (fun w' => w'.cell? ⟨B1, 0, none⟩ = some (.slice a xs.length cap) ∧ w'.cell? ⟨B2, 0, none⟩ = some (.int .i64 depth) ∧ w'.cell? ⟨B3, 0, none⟩ = some (.int .i64 volume)) (go_keep)
    (first | (go_at_call 80; refine (snow_any a xs cap ac c ccap depth _ (HX.out.1.below ((Below.refl _ _).drew)) (HX.out.2.below ((Below.refl _ _).drew)) hl hcl hal hd).mono ?_; rintro e w3 ⟨rfl, hb⟩; have HB := Lib.hid (below_self ((Below.refl w.heap.size w).drew) hb); clear hb; have y1 := (HB.out.cell (p := ⟨B1, 0, none⟩) HL1).trans h1; have y2 := (HB.out.cell (p := ⟨B2, 0, none⟩) HL2).trans h2; have y3 := (HB.out.cell (p := ⟨B3, 0, none⟩) HL3).trans h3))
  all_goals (
    clear y1 y2 y3
    go_wp2_with (fail)
    go_ret
    exact ⟨rfl, HB.out⟩)

set_option maxHeartbeats 2000000 in
set_option maxRecDepth 100000 in
theorem Covered_any (a : Option Addr) (xs : List Lp) (cap : Nat) (r : Ru) (depth volume : Int) (w : World) (hx : Sl 3 Lp.cells w a xs) (hl : xs.length ≤ 1000000) :
    Calls Tryz.prog 18 #[.slice a xs.length cap, r.v, .int .i64 depth, .int .i64 volume] w (OutCs w (covR xs r depth volume).1 (covR xs r depth volume).2) := by
  obtain ⟨W0, hW0⟩ : ∃ W0, (((w.alloc (.cells #[.slice a xs.length cap] 22)).alloc r.o).alloc (.cells #[.int .i64 depth] 3)).alloc (.cells #[.int .i64 volume] 3) = W0 := ⟨_, rfl⟩
  have HB0 : Hid (Below w.heap.size w W0 ∧ W0.heap[w.heap.size]? = some (.cells #[.slice a xs.length cap] 22 (0, 0)) ∧ RuAt W0 (w.heap.size + 1) r ∧ W0.heap[w.heap.size + 1 + 1]? = some (.cells #[.int .i64 depth] 3 (0, 0)) ∧ W0.heap[w.heap.size + 1 + 1 + 1]? = some (.cells #[.int .i64 volume] 3 (0, 0))) := by
    rw [← hW0]
    exact ⟨((((Below.refl _ _).alloc (Nat.le_refl _) _).alloc (by simp) _).alloc (by simp <;> omega) _).alloc (by simp <;> omega) _, alk (alk (alk (new_at rfl))), alk (alk (new_at (by simp))), alk (new_at (by simp)), new_at (by simp)⟩
  have HX0 := Lib.hid (hx.below HB0.out.1)
  clear hx
  go_enter Tryz.func18, Tryz.ntmps18
  have t0 := blk_cell HB0.out.2.1 0 rfl
  obtain ⟨d0, d1, d2, d3, d4, d5, d6, d7, d8⟩ := HB0.out.2.2.1.cells
  go_wp2_with (fail)
  clear hW0 t0 d0 d1 d2 d3 d4 d5 d6 d7 d8
  refine (check_any a xs cap r W0 HX0.out hl).mono ?_
  rintro e W1 ⟨rfl, hb⟩
  have HB1 : Hid (Below w.heap.size w W1 ∧ W1.heap[w.heap.size]? = some (.cells #[.slice a xs.length cap] 22 (0, 0)) ∧ RuAt W1 (w.heap.size + 1) r ∧ W1.heap[w.heap.size + 1 + 1]? = some (.cells #[.int .i64 depth] 3 (0, 0)) ∧ W1.heap[w.heap.size + 1 + 1 + 1]? = some (.cells #[.int .i64 volume] 3 (0, 0))) := ⟨below_self HB0.out.1 hb, blk_below HB0.out.2.1 hb, HB0.out.2.2.1.below hb, blk_below HB0.out.2.2.2.1 hb, blk_below HB0.out.2.2.2.2 hb⟩
  have HX1 := Lib.hid (HX0.out.below hb)
  clear hb HB0 HX0
  have b0 := blk_cell HB1.out.2.1 0 rfl
  have b2 := blk_cell HB1.out.2.2.2.1 0 rfl
  have b3 := blk_cell HB1.out.2.2.2.2 0 rfl
  by_cases h1 : checkE xs r = 0
  · have g1 : (checkE xs r != 0) = false := by simp [h1]
    have HR : Hid (covR xs r depth volume = if (withinB depth 1 200 && withinB volume 0 10000000) = true then (if (covL xs r depth volume).length ≤ 300 then covL xs r depth volume else [], if (covL xs r depth volume).length ≤ 300 then 0 else 10) else ([], 3)) := by show _ = _; rw [covR, if_pos h1]
    obtain ⟨hal, hl1, hl2⟩ := stad_ok (check_ok h1).1
    have H1 := Lib.hid h1
    clear h1
    cases e1 : withinB depth 1 200
    · have HR2 : Hid (covR xs r depth volume = ([], 3)) := by show _ = _; rw [HR.out, e1]; rfl
      go_wp2_with (go_at_call 79; refine (within_any _ _ _ _).mono ?_; rintro e w' ⟨rfl, rfl⟩)
      go_ret2
      rw [HR2.out]
      exact ⟨none, 0, rfl, fun h => by simp at h, HB1.out.1⟩
    · cases e2 : withinB volume 0 10000000
      · have HR2 : Hid (covR xs r depth volume = ([], 3)) := by show _ = _; rw [HR.out, e1, e2]; rfl
        go_wp2_with (go_at_call 79; refine (within_any _ _ _ _).mono ?_; rintro e w' ⟨rfl, rfl⟩)
        go_ret2
        rw [HR2.out]
        exact ⟨none, 0, rfl, fun h => by simp at h, HB1.out.1⟩
      · have HR2 : Hid (covR xs r depth volume = (if (covL xs r depth volume).length ≤ 300 then covL xs r depth volume else [], if (covL xs r depth volume).length ≤ 300 then 0 else 10)) := by show _ = _; rw [HR.out, e1, e2]; rfl
        have hd : 1 ≤ depth ∧ depth ≤ 200 := by simpa [withinB] using e1
        have hmf : ∀ (fn : Fn) (first cap : Array Value) (w : World), (Instr.makeFunc fn first cap).run Tryz.prog w = .ok (.func fn first cap) w := fun _ _ _ _ => rfl
        have r0 := HB1.out.2.2.1.cells.1
        obtain ⟨r1, r2, r3, r4, r5, r6, r7, r8⟩ := HB1.out.2.2.1.cells.2
        go_wp2_with (go_at_call 79; refine (within_any _ _ _ _).mono ?_; rintro e w' ⟨rfl, rfl⟩)
        clear r0 r1 r2 r3 r4 r5 r6 r7 r8 g1
        have HCH := callsIn_wide.1 (chosen_in 0 a xs cap r 83 r.laps.toNat #[.pointer (some ⟨w.heap.size, 0, none⟩), .pointer (some ⟨w.heap.size + 1 + 1, 0, none⟩), .pointer (some ⟨w.heap.size + 1 + 1 + 1, 0, none⟩)] (fun c => decide (snowL xs c depth ≤ volume)) W1 HX1.out H1.out (laps_nat H1.out).1 eg83
          (fun c hc av ccap W hW hI => cov1_any a xs cap av c ccap _ _ _ depth volume W (HX1.out.below hW) hI hl2 (by have h1 := (extC_ok xs.length r.laps.toNat [] 0 (by simp) c hc).1; have h2 := (laps_nat H1.out).2.2; simp at h1; omega) hal hd (blk_cell (blk_below HB1.out.2.1 hW) 0 rfl) (blk_cell (blk_below HB1.out.2.2.2.1 hW) 0 rfl) (blk_cell (blk_below HB1.out.2.2.2.2 hW) 0 rfl))
          (covL xs r depth volume) rfl)
        refine HCH.mono ?_
        clear HCH
        rintro e w2 ⟨a2, cap2, he, hS, hb2⟩
        generalize (if (covL xs r depth volume).length ≤ 300 then covL xs r depth volume else []) = L at he hS HR2
        generalize (if (covL xs r depth volume).length ≤ 300 then (0 : Int) else 10) = E at he HR2
        subst he
        go_wp2_with (fail)
        go_ret2
        rw [HR2.out]
        exact ⟨a2, cap2, rfl, hS, below_self HB1.out.1 hb2⟩
  · have g1 : (checkE xs r != 0) = true := by simp [h1]
    have HR : Hid (covR xs r depth volume = ([], checkE xs r)) := by show _ = _; rw [covR, if_neg h1]
    clear h1
    go_wp2_with (fail)
    go_ret2
    rw [HR.out]
    exact ⟨none, 0, rfl, fun h => by simp at h, HB1.out.1⟩

/-- What snow a right course has. -/
theorem snow_right {xs : List Lp} {r : Ru} {depth : Int} (h : checkE xs r = 0) (hd : withinB depth 1 200 = true) {c : List Int} (hc : c ∈ rightL xs r) : snowR xs c depth = (snowL xs c depth, 0) ∧ c.length ≤ 6 := by
  have hcE := (List.mem_filter.1 hc).1
  obtain ⟨hl1, hl2⟩ := (stad_ok (check_ok h).1).2
  have h2 := laps_nat h
  have hco := ext_ok xs.length r.laps.toNat (by omega) ⟨h2.2.1, h2.2.2⟩ c hcE
  have h1 := (extC_ok xs.length r.laps.toNat [] 0 (by simp) c hcE).1
  have ha : areaR xs c = (areaL xs c, 0) := by rw [areaR, if_pos (check_ok h).1, if_pos hco]
  simp at h1
  exact ⟨by rw [snowR, ha, if_pos rfl, if_pos hd], by omega⟩
theorem right_few {xs : List Lp} {r : Ru} (h : checkE xs r = 0) : (rightL xs r).length ≤ 2985984 := by
  obtain ⟨hl1, hl2⟩ := (stad_ok (check_ok h).1).2
  have h2 := laps_nat h
  exact Nat.le_trans (List.length_filter_le _ _) (ext_few xs.length r.laps.toNat ⟨hl1, hl2⟩ ⟨h2.2.1, h2.2.2⟩)

set_option maxHeartbeats 4000000 in
set_option maxRecDepth 100000 in
theorem refCovered_any (a : Option Addr) (xs : List Lp) (cap : Nat) (r : Ru) (depth volume : Int) (w : World) (hx : Sl 3 Lp.cells w a xs) (hl : xs.length ≤ 1000000) :
    Calls Tryz.prog 19 #[.slice a xs.length cap, r.v, .int .i64 depth, .int .i64 volume] w (OutCs w (covR xs r depth volume).1 (covR xs r depth volume).2) := by
  obtain ⟨i0, hi, hz0, hz1, hz2⟩ := info_parts Tryz.info27
  have hB0 : Below w.heap.size w (w.alloc (.cells #[.int .i64 r.laps, .int .i64 r.len.lo, .int .i64 r.len.hi, .int .i64 r.climb.lo, .int .i64 r.climb.hi, .int .i64 r.lap.lo, .int .i64 r.lap.hi, .int .i64 r.wide, .int .i64 r.uses] 36)) := (Below.refl _ _).alloc (Nat.le_refl _) _
  have hR0 : RB38 (w.alloc (.cells #[.int .i64 r.laps, .int .i64 r.len.lo, .int .i64 r.len.hi, .int .i64 r.climb.lo, .int .i64 r.climb.hi, .int .i64 r.lap.lo, .int .i64 r.lap.hi, .int .i64 r.wide, .int .i64 r.uses] 36)) w.heap.size r := heap_alloc_new _ _
  have HX := Lib.hid hx
  clear hx
  go_enter Tryz.func19, Tryz.ntmps19
  go_wp2_with (fail)
  have HXA := Lib.hid (HX.out.below hB0)
  generalize w.alloc (.cells #[.int .i64 r.laps, .int .i64 r.len.lo, .int .i64 r.len.hi, .int .i64 r.climb.lo, .int .i64 r.climb.hi, .int .i64 r.lap.lo, .int .i64 r.lap.hi, .int .i64 r.wide, .int .i64 r.uses] 36) = W0 at hB0 hR0 HXA ⊢
  refine (refCheck_any a xs cap r _ HXA.out hl).mono ?_
  rintro e V0 ⟨rfl, hb⟩
  have HB0 := Lib.hid (below_self hB0 hb)
  have HR0 := Lib.hid (RB38.below hR0 hb)
  have HX0 := Lib.hid (HXA.out.below hb)
  clear hB0 hR0 hb HXA
  by_cases h1 : checkE xs r = 0
  · have g1 : (checkE xs r != 0) = false := by simp [h1]
    have HR : Hid (covR xs r depth volume = if (withinB depth 1 200 && withinB volume 0 10000000) = true then (if (covL xs r depth volume).length ≤ 300 then covL xs r depth volume else [], if (covL xs r depth volume).length ≤ 300 then 0 else 10) else ([], 3)) := by show _ = _; rw [covR, if_pos h1]
    have H1 := Lib.hid h1
    clear h1
    cases e1 : withinB depth 1 200
    · have HR2 : Hid (covR xs r depth volume = ([], 3)) := by show _ = _; rw [HR.out, e1]; rfl
      go_wp2_with (go_at_call 81; refine (outside_any _ _ _ _).mono ?_; rintro e w' ⟨rfl, rfl⟩)
      go_ret2
      rw [HR2.out]
      exact ⟨none, 0, rfl, fun h => by simp at h, HB0.out⟩
    · cases e2 : withinB volume 0 10000000
      · have HR2 : Hid (covR xs r depth volume = ([], 3)) := by show _ = _; rw [HR.out, e1, e2]; rfl
        go_wp2_with (go_at_call 81; refine (outside_any _ _ _ _).mono ?_; rintro e w' ⟨rfl, rfl⟩)
        go_ret2
        rw [HR2.out]
        exact ⟨none, 0, rfl, fun h => by simp at h, HB0.out⟩
      · have HR2 : Hid (covR xs r depth volume = (if (covL xs r depth volume).length ≤ 300 then covL xs r depth volume else [], if (covL xs r depth volume).length ≤ 300 then 0 else 10)) := by show _ = _; rw [HR.out, e1, e2]; rfl
        have HSN := Lib.hid (fun c hc => snow_right (depth := depth) (c := c) H1.out e1 hc)
        have hfew := right_few H1.out
        have c0 := blk_cell HR0.out 0 rfl
        have c1 := blk_cell HR0.out 1 rfl
        have c2 := blk_cell HR0.out 2 rfl
        have c3 := blk_cell HR0.out 3 rfl
        have c4 := blk_cell HR0.out 4 rfl
        have c5 := blk_cell HR0.out 5 rfl
        have c6 := blk_cell HR0.out 6 rfl
        have c7 := blk_cell HR0.out 7 rfl
        have c8 := blk_cell HR0.out 8 rfl
        go_wp2_with (go_at_call 81; refine (outside_any _ _ _ _).mono ?_; rintro e w' ⟨rfl, rfl⟩)
        clear c0 c1 c2 c3 c4 c5 c6 c7 c8
        clear g1
        refine (refRight_any a xs cap r V0 HX0.out H1.out).mono ?_
        rintro e W1 ⟨la, lcap, rfl, hS, hb⟩
        have HB1 := Lib.hid (below_self HB0.out hb)
        have HX1 := Lib.hid (HX0.out.below hb)
        have HS := Lib.hid hS
        have HCV : Hid (covL xs r depth volume = (rightL xs r).filter (fun c => decide (snowL xs c depth ≤ volume))) := rfl
        clear hS hb HX0 HR0
        generalize rightL xs r = S at *
        go_wp2_with (fail)
        clear e1 e2
        go_loopw [12, 13] (fun v6 iv wr => ∃ (k : Nat) (oa : Option Addr) (ocap : Nat) (vals : List Value), v6 = .slice oa vals.length ocap ∧ iv = .int .i64 k ∧ k ≤ S.length ∧ vals.length ≤ k ∧ Hid (wr.ownsRow W1.heap.size 27 1 (.slice oa vals.length ocap) vals.length vals ∧ Rows0 W1 vals ((S.take k).filter (fun c => decide (snowL xs c depth ≤ volume))) ∧ Below W1.heap.size W1 wr)) (fun _ iv _ => S.length - (intOf iv).toNat)
        case atStart => exact ⟨0, none, 0, [], rfl, rfl, Nat.zero_le _, Nat.le_refl _, World.ownsRow_nil _ _ _ _, Rows0.nil _, Below.refl _ _⟩
        case round =>
          obtain ⟨k, oa, ocap, vals, rfl, rfl, hk, hvk, hI⟩ := hrel
          obtain ⟨V, hV⟩ : ∃ V, V = wr := ⟨_, rfl⟩
          subst hV
          by_cases hlt : k < S.length
          · obtain ⟨b, off, rfl, hbs, hc⟩ := HS.out (by omega)
            obtain ⟨ac, ccap, hcell, hint⟩ := hc k S[k] (List.getElem?_eq_getElem hlt)
            have HCO := Lib.hid (HSN.out S[k] (List.getElem_mem hlt))
            have HT := Lib.hid (take_filter (fun c => decide (snowL xs c depth ≤ volume)) S k hlt)
            have HI := Lib.hid hint
            have x1 := (hI.out.2.2.cell (p := ⟨b, off + k, none⟩) hbs).trans hcell
            have HBS := Lib.hid hbs
            clear hc hcell hint hbs
            generalize S[k] = c at *
            have HX2 := Lib.hid (HX1.out.below hI.out.2.2)
            have HI2 := Lib.hid (HI.out.below hI.out.2.2)
            go_wp2_with (fail)
            have HSC := refSnow_any a xs cap ac c ccap depth V HX2.out HI2.out hl (by have := HCO.out.2; omega)
            rw [HCO.out.1] at HSC
            refine HSC.mono ?_
            clear HSC
            rintro e W3 ⟨rfl, hb⟩
            have HB3 := Lib.hid (below_self hI.out.2.2 hb)
            have HV3 := Lib.hid hb
            have y1 := (hb.cell (p := ⟨b, off + k, none⟩) (Nat.lt_of_lt_of_le HBS.out hI.out.2.2.size)).trans x1
            clear hb x1
            have HO := Lib.hid (owns_below hI.out.1 HV3.out)
            generalize hm : snowL xs c depth = m at *
            by_cases hle : m ≤ volume
            · have g2 : decide (m ≤ volume) = true := decide_eq_true hle
              have HT2 : Hid ((S.take (k + 1)).filter (fun c => decide (snowL xs c depth ≤ volume)) = (S.take k).filter (fun c => decide (snowL xs c depth ≤ volume)) ++ [c]) := by show _ = _; rw [HT.out, if_pos g2]
              clear HT hm
              go_wp2_with (at_builtin; refine wpList_append_own_at _ rfl _ _ 43 rfl W1.heap.size 27 i0 (.slice none 0 0) 1 24 Tryz.underlying43 hi hz0 hz1 hz2 rfl (by decide) (.slice oa vals.length ocap) vals.length vals rfl (HO.out.alloc _) ⟨W3.heap.size, 0, none⟩ 1 1 [.slice ac c.length ccap] rfl rfl (cell_one_new _ _ _) (by simp [Value.oneCell']) (by unfold maxLen; omega) (by omega) (by have := HB3.out.size; rw [World.size_alloc]; omega) ?_)
              intro v' W4 hown4 hgrow4 _ _
              obtain ⟨g', cap', rfl⟩ := ownsRow_succ hown4
              have hsz := HB3.out.size
              have hrow : ∀ j, (Value.slice oa vals.length ocap).ownBlock = some j → W1.heap.size ≤ j := fun j hj => (HO.out.lt j hj).1
              have hB4 : Below W1.heap.size W1 W4 := (HB3.out.alloc (by omega) _).grown hgrow4 (by simp; omega) (fun j hj => hrow j hj)
              have R2 := hI.out.2.1.snoc (cap := ccap) HI.out
              have HF := Lib.hid (And.intro hown4 (And.intro R2 hB4))
              clear hown4 hgrow4 hsz hrow hB4 R2 HO
              go_wp2_with (fail)
              go_roundw
              case rel =>
                refine ⟨k + 1, some ⟨g', 0, none⟩, cap', vals ++ [Value.slice ac c.length ccap], by simp, by go_num, by omega, by simp; omega, ?_⟩
                show _ ∧ _ ∧ _
                rw [HT2.out, show (vals ++ [Value.slice ac c.length ccap]).length = vals.length + 1 by simp]
                exact HF.out
              case measure => simp [intOf]; omega
            · have g2 : decide (m ≤ volume) = false := decide_eq_false hle
              have HT2 : Hid ((S.take (k + 1)).filter (fun c => decide (snowL xs c depth ≤ volume)) = (S.take k).filter (fun c => decide (snowL xs c depth ≤ volume))) := by show _ = _; rw [HT.out, if_neg (by rw [g2]; simp), List.append_nil]
              clear HT hm
              go_wp2_with (fail)
              go_roundw
              case rel =>
                refine ⟨k + 1, oa, ocap, vals, rfl, by go_num, by omega, by omega, ?_⟩
                show _ ∧ _ ∧ _
                rw [HT2.out]
                exact ⟨HO.out, hI.out.2.1, HB3.out⟩
              case measure => simp [intOf]; omega
          · have hke : k = S.length := by omega
            subst hke
            have h1 := hI.out.2.1
            rw [List.take_length, ← HCV.out] at h1
            obtain ⟨a4, cap4, h5, h6⟩ := sls_of_owns0 hI.out.1 h1 hI.out.2.2
            have HF := Lib.hid (And.intro h6 (below_self HB1.out hI.out.2.2))
            rw [h5]
            clear h1 h5 h6
            generalize covL xs r depth volume = L at *
            by_cases h3 : 300 < L.length
            · have g3 : decide (300 < L.length) = true := decide_eq_true h3
              have HR3 : Hid (covR xs r depth volume = ([], 10)) := by show _ = _; rw [HR2.out, if_neg (by omega), if_neg (by omega)]
              go_wp2_with (fail)
              go_ret2
              rw [HR3.out]
              exact ⟨none, 0, rfl, fun h => by simp at h, HF.out.2⟩
            · have g3 : decide (300 < L.length) = false := decide_eq_false h3
              have HR3 : Hid (covR xs r depth volume = (L, 0)) := by show _ = _; rw [HR2.out, if_pos (by omega), if_pos (by omega)]
              go_wp2_with (fail)
              go_ret2
              rw [HR3.out]
              exact ⟨a4, cap4, rfl, HF.out.1, HF.out.2⟩
  · have g1 : (checkE xs r != 0) = true := by simp [h1]
    have HR : Hid (covR xs r depth volume = ([], checkE xs r)) := by show _ = _; rw [covR, if_neg h1]
    clear h1
    go_wp2_with (fail)
    go_ret2
    rw [HR.out]
    exact ⟨none, 0, rfl, fun h => by simp at h, HB0.out⟩
end Go.Proofs.YtgldfnkjfgcjpaaGreat

namespace Go.Proofs.YtgldfnkjfgcjpaaGreat
open Go.RowKit Go.Shelf
attribute [local go_sem] Oper.semAt_some

theorem any_take_succ {α : Type} (p : α → Bool) (xs : List α) (k : Nat) (h : k < xs.length) : (xs.take (k+1)).any p = ((xs.take k).any p || p xs[k]) := by
  rw [List.take_add_one, List.getElem?_eq_getElem h, List.any_append]; simp
theorem any_true {α : Type} (p : α → Bool) (xs : List α) (k : Nat) (h : k < xs.length) (hp : p xs[k] = true) : xs.any p = true := List.any_eq_true.2 ⟨xs[k], List.getElem_mem h, hp⟩

set_option maxRecDepth 100000 in
set_option maxHeartbeats 1000000 in
theorem indexF_any (a : Option Addr) (xs : List (List Int)) (cap g : Nat) (lb : Array Value) (p : List Int → Bool) (w : World) (hx : SlsAt w a xs) (hl : xs.length ≤ 1000000)
    (eg : ∀ args w, (callFunc g args).run Tryz.prog w = .ok (.enter g args) w)
    (hg : ∀ c ∈ xs, ∀ (b : Option Addr) (cb : Nat) W, Below w.heap.size w W → IntSl W b c → Calls Tryz.prog g (#[.slice b c.length cb] ++ lb) W fun e W' => e = .returned (.bool (p c)) ∧ Below W.heap.size W W') :
    Calls Tryz.prog 112 #[.slice a xs.length cap, .func (.func g) #[] lb] w fun e w' => (∃ r : Int, e = .returned (.int .i64 r) ∧ decide (0 ≤ r) = xs.any p) ∧ Below w.heap.size w w' := by
  have Hg := Lib.hid hg
  clear hg
  have HX := Lib.hid hx
  clear hx
  go_enter Tryz.func112, Tryz.ntmps112
  go_wp2
  go_loopw [8] (fun i wr => ∃ k : Nat, k ≤ xs.length ∧ i = .int .i64 k ∧ Hid ((xs.take k).any p = false) ∧ Below w.heap.size w wr) (fun i _ => xs.length - (intOf i).toNat)
  case atStart => exact ⟨0, Nat.zero_le _, rfl, by simp [Hid], Below.refl _ _⟩
  case round =>
    obtain ⟨k, hk, rfl, hall, hbw⟩ := hrel
    by_cases hlt : k < xs.length
    · obtain ⟨b1, o1, rfl, hb1, hc1⟩ := HX.out (by omega)
      obtain ⟨a1, k1, v1, i1⟩ := hc1 k _ (List.getElem?_eq_getElem hlt)
      have d1 := (hbw.cell (p := ⟨b1, o1 + k, none⟩) hb1).trans v1
      have hcall := Lib.hid (Hg.out xs[k] (List.getElem_mem hlt) a1 k1 wr hbw (i1.below hbw))
      have hF : Hid (p xs[k] = true → xs.any p = true) := any_true p xs k hlt
      have hT : Hid (p xs[k] = false → (xs.take (k + 1)).any p = false) := fun h => by rw [any_take_succ p xs k hlt, h, hall.out]; rfl
      have HB := Lib.hid hbw
      clear hc1 v1 i1 hbw hall
      generalize xs[k] = c at d1 hcall hF hT
      go_wp2_with (fail)
      refine hcall.out.mono ?_
      rintro e w1 ⟨rfl, hb1⟩
      have hb2 := Lib.hid (below_self HB.out hb1)
      clear HB hcall d1 hb1
      cases hp : p c
      · have HF := Lib.hid (hT.out hp)
        clear hp hF hT
        go_wp2
        go_roundw
        case rel => exact ⟨k + 1, by omega, by go_num, HF, hb2.out⟩
        case measure => first | (simp [intOf]; done) | (simp [intOf]; omega)
      · have HF := Lib.hid (hF.out hp)
        clear hp hF hT
        go_wp2
        go_ret
        exact ⟨⟨k, rfl, by rw [HF.out]; simp⟩, hb2.out⟩
    · have : k = xs.length := by omega
      subst this
      rw [List.take_length] at hall
      go_wp2
      go_ret
      exact ⟨⟨-1, rfl, by rw [hall.out]; rfl⟩, hbw⟩

set_option maxHeartbeats 1000000 in
theorem containsF_any (a : Option Addr) (xs : List (List Int)) (cap g : Nat) (lb : Array Value) (p : List Int → Bool) (w : World) (hx : SlsAt w a xs) (hl : xs.length ≤ 1000000)
    (eg : ∀ args w, (callFunc g args).run Tryz.prog w = .ok (.enter g args) w)
    (hg : ∀ c ∈ xs, ∀ (b : Option Addr) (cb : Nat) W, Below w.heap.size w W → IntSl W b c → Calls Tryz.prog g (#[.slice b c.length cb] ++ lb) W fun e W' => e = .returned (.bool (p c)) ∧ Below W.heap.size W W') :
    Calls Tryz.prog 56 #[.slice a xs.length cap, .func (.func g) #[] lb] w fun e w' => e = .returned (.bool (xs.any p)) ∧ Below w.heap.size w w' := by
  have HC := Lib.hid (indexF_any a xs cap g lb p w hx hl eg hg)
  clear hx hl eg hg
  go_enter Tryz.func56, Tryz.ntmps56
  go_wp2_with (fail)
  refine HC.out.mono ?_
  rintro e w1 ⟨⟨r, rfl, hr⟩, hb⟩
  have HR := Lib.hid hr
  clear hr HC
  go_wp2
  all_goals go_ret
  all_goals exact ⟨ret_bool (HR.out), hb⟩

theorem eg55 : ∀ args w, (callFunc 55 args).run Tryz.prog w = .ok (.enter 55 args) w := enters_of Tryz.func55 (by kernel_rfl) rfl
theorem eg57 : ∀ args w, (callFunc 57 args).run Tryz.prog w = .ok (.enter 57 args) w := enters_of Tryz.func57 (by kernel_rfl) rfl

set_option maxHeartbeats 1000000 in
theorem same1_any (B : Nat) (a : Option Addr) (x : List Int) (ca : Nat) (b : Option Addr) (c : List Int) (cb : Nat) (w : World) (hB : w.heap[B]? = some (.cells #[.slice b c.length cb] 27 (0, 0))) (hx : IntSl w a x) (hc : IntSl w b c) (hl : x.length ≤ 1000000) :
    Calls Tryz.prog 57 #[.slice a x.length ca, .pointer (some ⟨B, 0, none⟩)] w fun e w' => e = .returned (.bool (decide (x = c))) ∧ Below w.heap.size w w' := by
  have HC := Lib.hid (equal_int a x ca b c cb w hx hc hl)
  have t0 := blk_cell hB 0 rfl
  clear hB hx hc
  go_enter Tryz.func57, Tryz.ntmps57
  go_wp2_with (fail)
  refine HC.out.mono ?_
  rintro e w1 ⟨rfl, hb⟩
  go_wp2
  go_ret
  exact ⟨rfl, hb⟩

set_option maxHeartbeats 1000000 in
/-- Whether a list is among others. -/
theorem among_any (a : Option Addr) (xs : List (List Int)) (ca : Nat) (b : Option Addr) (c : List Int) (cb : Nat) (w : World) (hx : SlsAt w a xs) (hc : IntSl w b c) (hl : xs.length ≤ 1000000) (hls : ∀ x ∈ xs, x.length ≤ 1000000) :
    Calls Tryz.prog 55 #[.slice a xs.length ca, .slice b c.length cb] w fun e w' => e = .returned (.bool (decide (c ∈ xs))) ∧ Below w.heap.size w w' := by
  have HE : Hid (xs.any (fun x => decide (x = c)) = decide (c ∈ xs)) := by
    show _ = _
    rw [Bool.eq_iff_iff, List.any_eq_true, decide_eq_true_eq]
    constructor
    · rintro ⟨x, hx, h⟩; rw [← of_decide_eq_true h]; exact hx
    · exact fun h => ⟨c, h, by simp⟩
  obtain ⟨W1, hW1⟩ : ∃ W1, w.alloc (.cells #[.slice b c.length cb] 27) = W1 := ⟨_, rfl⟩
  have hb1 : Below w.heap.size w W1 := by rw [← hW1]; exact alloc1 w _
  have h0 : W1.heap[w.heap.size]? = some (.cells #[.slice b c.length cb] 27 (0, 0)) := by rw [← hW1]; exact heap_alloc_new w _
  have HC := Lib.hid (containsF_any a xs ca 57 #[.pointer (some ⟨w.heap.size, 0, none⟩)] (fun x => decide (x = c)) W1 (hx.below hb1) hl eg57 (fun x hxm a1 k1 W hW hi => same1_any w.heap.size a1 x k1 b c cb W (blk_below h0 hW) hi ((hc.below hb1).below hW) (hls x hxm)))
  have HB := Lib.hid hb1
  clear hx hc hl hls hb1 h0
  go_enter Tryz.func55, Tryz.ntmps55
  rw [← HE.out]
  clear HE
  go_wp2_with (fail)
  refine HC.out.mono ?_
  rintro e w1 ⟨rfl, hb⟩
  have hb2 := below_self HB.out hb
  go_wp2
  go_ret
  exact ⟨rfl, hb2⟩
theorem nan54_any (x : Int) (w : World) : Calls Tryz.prog 152 #[.int .i64 x] w fun e w' => e = .returned (.bool false) ∧ w = w' := by
  go_enter Tryz.func152, Tryz.ntmps152
  go_wp2
  go_ret
  exact ⟨ret_bool (by simp), rfl⟩

set_option maxHeartbeats 1000000 in
theorem cmp54_any (x y : Int) (w : World) : Calls Tryz.prog 111 #[.int .i64 x, .int .i64 y] w fun e w' => e = .returned (.int .i64 (cmpI x y)) ∧ w = w' := by
  go_enter Tryz.func111, Tryz.ntmps111
  go_wp2_with (go_at_call 152; refine (nan54_any _ _).mono ?_; rintro e w' ⟨rfl, rfl⟩)
  all_goals go_ret
  all_goals exact ⟨ret_int (by simp only [cmpI]; repeat' split <;> omega), rfl⟩

set_option maxHeartbeats 1000000 in
theorem compare54_any (a : Option Addr) (xs : List Int) (ca : Nat) (b : Option Addr) (ys : List Int) (cb : Nat) (w : World) (hx : IntSl w a xs) (hy : IntSl w b ys) (hl : xs.length ≤ 1000000) :
    Calls Tryz.prog 54 #[.slice a xs.length ca, .slice b ys.length cb] w fun e w' => e = .returned (.int .i64 (cmpL xs ys)) ∧ Below w.heap.size w w' := by
  have HX := Lib.hid (And.intro hx hy)
  clear hx hy
  go_enter Tryz.func54, Tryz.ntmps54
  go_wp2
  go_loopw [11] (fun i wr => ∃ k : Nat, k ≤ xs.length ∧ k ≤ ys.length ∧ i = .int .i64 k ∧ Hid (cmpL xs ys = cmpL (xs.drop k) (ys.drop k)) ∧ Below w.heap.size w wr) (fun i _ => xs.length - (intOf i).toNat)
  case atStart => exact ⟨0, Nat.zero_le _, Nat.zero_le _, rfl, rfl, Below.refl _ _⟩
  case round =>
    obtain ⟨k, hk, hk2, rfl, hc, hbw⟩ := hrel
    by_cases hlt : k < xs.length
    · obtain ⟨b1, o1, rfl, hb1, hc1⟩ := HX.out.1 (by omega)
      have d1 := (hbw.cell (p := ⟨b1, o1 + k, none⟩) hb1).trans (hc1 k hlt)
      clear hc1
      by_cases hlt2 : k < ys.length
      · obtain ⟨b2, o2, rfl, hb2, hc2⟩ := HX.out.2 (by omega)
        have d2 := (hbw.cell (p := ⟨b2, o2 + k, none⟩) hb2).trans (hc2 k hlt2)
        clear hc2
        have HA := Lib.hid (hc.out.trans (cmpL_at hlt hlt2))
        generalize xs[k]?.getD 0 = xk at d1 HA
        generalize ys[k]?.getD 0 = yk at d2 HA
        by_cases he : cmpI xk yk = 0
        · have heb : (cmpI xk yk != 0) = false := by simp [he]
          have HA2 : Hid (cmpL xs ys = cmpL (xs.drop (k + 1)) (ys.drop (k + 1))) := by show _ = _; rw [HA.out, if_pos he]
          clear he
          go_wp2_with (go_at_call 111; refine (cmp54_any _ _ _).mono ?_; rintro e w1 ⟨rfl, rfl⟩)
          go_roundw
          case rel => exact ⟨k + 1, by omega, by omega, by go_num, HA2, hbw⟩
          case measure => simp [intOf]; omega
        · have heb : (cmpI xk yk != 0) = true := by simp [he]
          have HA2 : Hid (cmpL xs ys = cmpI xk yk) := by show _ = _; rw [HA.out, if_neg he]
          clear he
          go_wp2_with (go_at_call 111; refine (cmp54_any _ _ _).mono ?_; rintro e w1 ⟨rfl, rfl⟩)
          go_ret
          exact ⟨by rw [HA2.out]; rfl, hbw⟩
      · have hkk : k = ys.length := by omega
        have HA2 : Hid (cmpL xs ys = 1) := by show _ = _; rw [hc.out, hkk]; exact cmpL_long (by omega)
        clear hkk
        go_wp2
        go_ret
        exact ⟨by rw [HA2.out]; rfl, hbw⟩
    · have hkk : k = xs.length := by omega
      subst hkk
      have HA := Lib.hid (hc.out.trans cmpL_end)
      by_cases hlt2 : xs.length < ys.length
      · have HA2 : Hid (cmpL xs ys = -1) := by show _ = _; rw [HA.out, if_pos hlt2]
        go_wp2
        go_ret
        exact ⟨by rw [HA2.out]; rfl, hbw⟩
      · have HA2 : Hid (cmpL xs ys = 0) := by show _ = _; rw [HA.out, if_neg hlt2]
        go_wp2
        go_ret
        exact ⟨by rw [HA2.out]; rfl, hbw⟩

end Go.Proofs.YtgldfnkjfgcjpaaGreat

namespace Go.Proofs.YtgldfnkjfgcjpaaGreat
open Go.RowKit Go.Shelf
attribute [local go_sem] Oper.semAt_some

/-- A slice of slices of integers, all of it from a block on. -/
def SlsF (lo : Nat) (W : World) (a : Option Addr) (cs : List (List Int)) : Prop :=
  0 < cs.length → ∃ b off, a = some ⟨b, off, none⟩ ∧ b < W.heap.size ∧ lo ≤ b ∧ ∀ (j : Nat) (c : List Int), cs[j]? = some c → ∃ (a' : Option Addr) (cap' : Nat), W.cell? ⟨b, off + j, none⟩ = some (Value.slice a' c.length cap') ∧ IntSl W a' c ∧ ∀ p, a' = some p → lo ≤ p.block
theorem SlsF.sls {lo : Nat} {W : World} {a : Option Addr} {cs : List (List Int)} (h : SlsF lo W a cs) : SlsAt W a cs := fun h0 => by
  obtain ⟨b, off, h1, h2, _, h3⟩ := h h0
  exact ⟨b, off, h1, h2, fun j c hj => by obtain ⟨a', c', k1, k2, _⟩ := h3 j c hj; exact ⟨a', c', k1, k2⟩⟩
theorem SlsF.less {lo lo' : Nat} {W : World} {a : Option Addr} {cs : List (List Int)} (h : SlsF lo W a cs) (hl : lo' ≤ lo) : SlsF lo' W a cs := fun h0 => by
  obtain ⟨b, off, h1, h2, h4, h3⟩ := h h0
  exact ⟨b, off, h1, h2, by omega, fun j c hj => by obtain ⟨a', c', k1, k2, k3⟩ := h3 j c hj; exact ⟨a', c', k1, k2, fun p hp => by have := k3 p hp; omega⟩⟩
theorem SlsF.apart {lo : Nat} {own : Nat → Prop} {A B : World} {a : Option Addr} {cs : List (List Int)} (h : SlsF lo A a cs) (k : Apart own A B) (ho : ∀ j, own j → j < lo) : SlsF lo B a cs := fun h0 => by
  obtain ⟨b, off, rfl, h2, h4, h3⟩ := h h0
  refine ⟨b, off, rfl, Nat.lt_of_lt_of_le h2 k.size, h4, fun j c hj => ?_⟩
  obtain ⟨a', c', k1, k2, k3⟩ := h3 j c hj
  refine ⟨a', c', ?_, ints_same k2 k.size (fun p hp hl => k.block _ hl (fun hh => by have := ho _ hh; have := k3 p hp; omega)), k3⟩
  exact (World.cell?_of_block (w := A) (a := ⟨b, off + j, none⟩) (k.block b h2 (fun hh => by have := ho _ hh; omega))).trans k1
theorem SlsF.below {lo : Nat} {A B : World} {a : Option Addr} {cs : List (List Int)} (h : SlsF lo A a cs) (hb : Below A.heap.size A B) : SlsF lo B a cs := h.apart (own := fun _ => False) ⟨hb.os, hb.tape, hb.output, hb.size, fun j hj _ => hb.block j hj⟩ (fun _ hj => hj.elim)
theorem slsF_of_owns {W : World} {base lo l0 : Nat} {v : Value} {vals : List Value} {cs : List (List Int)} (h : W.ownsRow base 27 1 v vals.length vals) (hr : Rows2 W lo vals cs) (h1' : l0 ≤ base) (h2' : l0 ≤ lo) : ∃ a cap, v = .slice a cs.length cap ∧ SlsF l0 W a cs := by
  have hlt := h.lt
  rcases h.2 with ⟨rfl, h0⟩ | ⟨g, cap, cur, rfl, hb, hg, hnc, hcm, hcs, htake⟩
  · exact ⟨none, 0, by rw [← hr.len, h0], fun hp => by rw [← hr.len] at hp; omega⟩
  · refine ⟨some ⟨g, 0, none⟩, cap, by rw [hr.len], fun _ => ⟨g, 0, rfl, lt_of_block hg, by omega, fun j c hj => ?_⟩⟩
    obtain ⟨a', cap', h1, h2, _, h3⟩ := hr.at' j c hj
    have hc := h.cells (g := g) rfl j _ h1
    have : (⟨g, 0, none⟩ : Addr).add j = ⟨g, 0 + j, none⟩ := by unfold Addr.add; split <;> simp_all
    rw [this] at hc
    exact ⟨a', cap', hc, h2, fun p hp => by have := h3 p hp; omega⟩
/-- A call that hands back a new slice of courses and an error; nothing that was there before it has turned. -/
def OutCsF (w : World) (cs : List (List Int)) (err : Int) (e : Ending) (w' : World) : Prop := ∃ a cap, e = .returned (.tuple #[.slice a cs.length cap, .int .i64 err]) ∧ SlsF w.heap.size w' a cs ∧ Below w.heap.size w w'
def ChosenOutF (w : World) (cs : List (List Int)) (e : Ending) (w' : World) : Prop := OutCsF w (if cs.length ≤ 300 then cs else []) (if cs.length ≤ 300 then 0 else 10) e w'
def AllOutF (xs : List Lp) (r : Ru) (w : World) (e : Ending) (w' : World) : Prop := OutCsF w (allR xs r).1 (allR xs r).2 e w'

set_option maxHeartbeats 600000 in
set_option maxRecDepth 100000 in
theorem chosen_far (n : Nat) (a : Option Addr) (xs : List Lp) (cap : Nat) (r : Ru) (g laps : Nat) (lb : Array Value) (p : List Int → Bool) (w : World) (hx : Sl 3 Lp.cells w a xs) (hck : checkE xs r = 0) (hlaps : r.laps = laps)
    (eg : ∀ args w, (callFunc g args).run Tryz.prog w = .ok (.enter g args) w)
    (hg : ∀ c ∈ extC xs.length laps [] 0, ∀ (av : Option Addr) (ccap : Nat) (W : World), Below w.heap.size w W → IntSl W av c → Calls Tryz.prog g (#[.slice av c.length ccap] ++ lb) W fun e W' => e = .returned (.bool (p c)) ∧ Below W.heap.size W W')
    (cs : List (List Int)) (hcs : ((extC xs.length laps [] 0).filter (okC xs r)).filter p = cs) :
    CallsIn Fence.wide n Tryz.prog 82 #[.slice a xs.length cap, r.v, .func (.func g) #[] lb] w (ChosenOutF w cs) := by
  obtain ⟨hal, hl1, hl2⟩ := stad_ok (check_ok hck).1
  have HCK := Lib.hid hck
  have HL := Lib.hid hlaps
  have HCS := Lib.hid hcs
  have HG := Lib.hid hg
  clear hck hlaps hcs hg
  have hab : ∀ p, a = some p → p.block < w.heap.size := sl_lt hx (by omega)
  refine callsIn_of_wp_marks Tryz.func82 rfl trivial ?_ rfl
  simp only [Tryz.ntmps82, List.size_toArray, List.length_cons, List.length_nil, Nat.reduceAdd, Nat.reduceSub, Array.replicate_succ, Array.replicate_zero, List.push_toArray, List.append_toArray, List.nil_append, List.cons_append]
  gi_wp2_with (refine ⟨trivial, (fun h => by cases h), ?_⟩; refine (callsIn_wide.2 (right_any a xs.length cap r _)).mono ?_; rintro e w1 ⟨rfl, rfl⟩)
  obtain ⟨Wr, hWr⟩ : ∃ Wr, ((((((w.alloc r.o).alloc (.cells #[.func (.func g) #[] lb] 144)).alloc (.cells #[.slice none 0 0] 43)).alloc (.cells #[.int .i64 0] 37)).alloc (.cells #[.slice none 0 0] 43)).alloc (.cells #[.slice a xs.length cap] 22)).alloc r.o = Wr := ⟨_, rfl⟩
  have hzr : Wr.heap.size = w.heap.size + 7 := by rw [← hWr]; simp
  have hbr : Below w.heap.size w Wr := by rw [← hWr]; exact (((((((Below.refl _ _).alloc (Nat.le_refl _) _).alloc (by simp) _).alloc (by simp <;> omega) _).alloc (by simp <;> omega) _).alloc (by simp <;> omega) _).alloc (by simp <;> omega) _).alloc (by simp <;> omega) _
  have h1 : Wr.heap[w.heap.size + 1]? = some (.cells #[.func (.func g) #[] lb] 144 (0, 0)) := by rw [← hWr]; exact alk (alk (alk (alk (alk (new_at (by simp))))))
  have h2 : Wr.heap[w.heap.size + 2]? = some (.cells #[.slice none 0 0] 43 (0, 0)) := by rw [← hWr]; exact alk (alk (alk (alk (new_at (by simp)))))
  have h3 : Wr.heap[w.heap.size + 3]? = some (.cells #[.int .i64 0] 37 (0, 0)) := by rw [← hWr]; exact alk (alk (alk (new_at (by simp))))
  have h4 : Wr.heap[w.heap.size + 4]? = some (.cells #[.slice none 0 0] 43 (0, 0)) := by rw [← hWr]; exact alk (alk (new_at (by simp)))
  have h5 : Wr.heap[w.heap.size + 5]? = some (.cells #[.slice a xs.length cap] 22 (0, 0)) := by rw [← hWr]; exact alk (new_at (by simp))
  have h6 : RuAt Wr (w.heap.size + 6) r := by rw [← hWr]; exact new_at (by simp)
  have hC0 : CInv w g lb [] Wr := ⟨hbr, h1, h2, h3, by simp, .slice none 0 0, [], h4, World.ownsRow_nil _ _ _ _, Rows2.nil _ _⟩
  have hseq := right1_seq a xs cap r laps (w.heap.size + 5) (w.heap.size + 6) Wr (hx.below hbr) HCK.out HL.out h5 h6
  obtain ⟨S, hS⟩ : ∃ S, (extC xs.length laps [] 0).filter (okC xs r) = S := ⟨_, rfl⟩
  rw [hS] at hseq
  have hSub : ∀ c ∈ S, c ∈ extC xs.length laps [] 0 := fun c hc => by rw [← hS] at hc; exact (List.mem_filter.1 hc).1
  have HS2 : Hid (S.filter p = cs) := by rw [← hS]; exact HCS.out
  clear HCS hS
  have hlap : 1 ≤ laps := by
    have := (check_ok HCK.out).2; have h := HL.out; simp [rulesB, withinB] at this; omega
  rw [hWr]
  refine range_seqC (gf := 134) (lb := #[.pointer (some ⟨w.heap.size + 5, 0, none⟩), .pointer (some ⟨w.heap.size + 6, 0, none⟩)]) rfl eg140 hseq (Below.refl _ _) (fun k h => by
      rw [hzr]
      rcases h with h | h | ⟨q, hq, rfl⟩
      · omega
      · omega
      · have := hab q hq; omega)
    (fun pre W' => CInv w g lb (pre.filter p) W') (fun pre W' => 300 < (pre.filter p).length ∧ Below w.heap.size w W' ∧ W'.heap[w.heap.size + 2]? = some (.cells #[.slice none 0 0] 43 (0, 0)) ∧ W'.heap[w.heap.size + 3]? = some (.cells #[.int .i64 10] 37 (0, 0)))
    (fun s A B h hap => h.apart (by rw [hzr] at hap; exact hap))
    (fun s A B h hap => by
      rw [hzr] at hap
      have hk : ∀ k, k < w.heap.size + 7 → k < A.heap.size → B.heap[k]? = A.heap[k]? := fun k h1 h2 => hap.block k h2 (fun h3 => by have := h3.1; omega)
      exact ⟨h.1, h.2.1.trans ⟨hap.os, hap.tape, hap.output, hap.size, fun k hk' => hk k (by omega) (Nat.lt_of_lt_of_le hk' h.2.1.size)⟩, (hk _ (by omega) (lt_of_block h.2.2.1)).trans h.2.2.1, (hk _ (by omega) (lt_of_block h.2.2.2)).trans h.2.2.2⟩)
    hC0
    (fun v => { tmps := #[.slice a xs.length cap, r.v, .func (.func g) #[] lb, undef, .pointer (some ⟨w.heap.size, 0, none⟩), .pointer (some ⟨w.heap.size + 1, 0, none⟩), .pointer (some ⟨w.heap.size + 2, 0, none⟩), .pointer (some ⟨w.heap.size + 3, 0, none⟩), .pointer (some ⟨w.heap.size + 4, 0, none⟩), v, .slice a xs.length cap, r.v, .func (.func 134) #[] #[.pointer (some ⟨w.heap.size + 5, 0, none⟩), .pointer (some ⟨w.heap.size + 6, 0, none⟩)], v, undef, undef, undef, undef, undef, undef, undef, undef, undef, undef, undef, undef], defers := [] })
    ?assign ?body ?done ?stop
  case assign =>
    intro l k v W K hK
    gi_wp2
    exact hK
  case body =>
    rintro l2 k pre c av ccap W1 hC hpre hsl hty hfr
    have hcS : c ∈ S := hpre.subset (by simp)
    have hcE := hSub c hcS
    obtain ⟨hcl, _⟩ := extC_ok xs.length laps [] 0 (by simp) c hcE
    simp at hcl
    have hc0 : 0 < c.length := by omega
    have hz18 : w.heap.size + 18 < W1.heap.size := by
      obtain ⟨b, off, rfl, hbs, _⟩ := hsl hc0
      have := hfr _ rfl
      rw [hzr] at this
      have : w.heap.size + 7 + 2 + 9 ≤ b := this
      omega
    have HFR : Hid (∀ q, av = some q → w.heap.size + 18 ≤ q.block) := fun q hq => by have := hfr q hq; rw [hzr] at this; omega
    clear hcl hfr
    have notOwn : ∀ j, w.heap.size ≤ j → j < w.heap.size + 5 ∨ w.heap.size + 18 ≤ j → ¬ ownOf (fun k => k = w.heap.size + 5 ∨ k = w.heap.size + 6 ∨ ∃ p, a = some p ∧ k = p.block) (9 + 2) Wr.heap.size j := fun j h0 hj h => by
      rw [hzr] at h
      rcases h with (h | h | ⟨q, hq, rfl⟩) | h
      · omega
      · omega
      · have := hab q hq; omega
      · omega
    have HG1 := Lib.hid (HG.out c hcE av ccap W1 hC.b hsl)
    have k1 := blk_cell hC.want 0 rfl
    have hfil : (pre ++ [c]).filter p = pre.filter p ++ [c].filter p := List.filter_append _ _
    cases hp : p c
    · have HF : Hid ((pre ++ [c]).filter p = pre.filter p) := by show _ = _; rw [hfil]; simp [hp]
      rw [hp] at HG1
      clear hp hfil
      gi_wp2_with (refine ⟨trivial, (fun h => by cases h), ?_⟩; refine (CallsIn.inRound l2 (callsIn_wide.2 HG1.out)).mono ?_; rintro e w1 ⟨rfl, hb1⟩)
      exact ⟨Keeps.of_below hb1, by show CInv w g lb ((pre ++ [c]).filter p) w1; rw [HF.out]; exact hC.apart (Apart.of_below hb1)⟩
    · have HF : Hid ((pre ++ [c]).filter p = pre.filter p ++ [c]) := by show _ = _; rw [hfil]; simp [hp]
      rw [hp] at HG1
      clear hp hfil
      obtain ⟨v, vals, t1, t2, t3⟩ := hC.list
      obtain ⟨la, lcap, rfl⟩ := slice_of_owns t2
      have hlen := t3.len
      have HLEN := Lib.hid hlen
      clear hlen
      by_cases h300 : vals.length = 300
      · have hb300 : ((vals.length : Int) == 300) = true := by simp; omega
        have H300 := Lib.hid h300
        clear h300
        gi_wp2_with (refine ⟨trivial, (fun h => by cases h), ?_⟩; refine (CallsIn.inRound l2 (callsIn_wide.2 HG1.out)).mono ?_; rintro e w1 ⟨rfl, hb1⟩; have u1 := blk_cell (blk_below t1 hb1) 0 rfl; have u2 := blk_cell (blk_below hC.r0 hb1) 0 rfl; have u3 := blk_cell (blk_below hC.r1 hb1) 0 rfl; have u4 := blk_free (j := 0) (blk_below hC.r0 hb1); have u5 := blk_free (j := 0) (blk_below hC.r1 hb1))
        have hB1 := hC.b.trans (hb1.mono hC.b.size)
        refine ⟨((Keeps.of_below hb1).trans (Keeps.setCell _ (q := ⟨w.heap.size + 2, 0, none⟩) (notOwn (w.heap.size + 2) (by omega) (by omega)) _)).trans (Keeps.setCell _ (q := ⟨w.heap.size + 3, 0, none⟩) (notOwn (w.heap.size + 3) (by omega) (by omega)) _), ?_⟩
        refine ⟨by rw [HF.out, List.length_append, ← HLEN.out, H300.out]; simp, (hB1.setCell (p := ⟨w.heap.size + 2, 0, none⟩) (by show w.heap.size ≤ w.heap.size + 2; omega) _).setCell (p := ⟨w.heap.size + 3, 0, none⟩) (by show w.heap.size ≤ w.heap.size + 3; omega) _, blk_other (blk_setCell (blk_below hC.r0 hb1)) (by omega), blk_setCell (blk_other (blk_below hC.r1 hb1) (by omega))⟩
      · have hb300 : ((vals.length : Int) == 300) = false := by simp; omega
        have hlt : vals.length < 300 := by have := hC.few; rw [← HLEN.out] at this; omega
        clear h300
        obtain ⟨i0, hi, hz0, hz1, hz2⟩ := info_parts Tryz.info27
        gi_wp2_with (first
          | (refine ⟨trivial, (fun h => by cases h), ?_⟩; refine (CallsIn.inRound l2 (callsIn_wide.2 HG1.out)).mono ?_; rintro e w1 ⟨rfl, hb1⟩; have u1 := blk_cell (blk_below t1 hb1) 0 rfl; have hown1 := owns_below t2 hb1)
          | (gi_at_builtin; refine wpListIn_append_own _ rfl _ _ 43 rfl (w.heap.size + 18) 27 i0 (.slice none 0 0) 1 24 Tryz.underlying43 hi hz0 hz1 hz2 rfl (by decide) _ _ _ rfl (hown1.alloc _) ⟨w1.heap.size, 0, none⟩ 1 1 [.slice av c.length ccap] rfl rfl (cell_one_new _ _ _) (by simp [Value.oneCell']) (by unfold maxLen; omega) (by omega) (by have := hb1.size; simp; omega) ?_; intro v' w2 hown2 hgrow2 _; obtain ⟨g', cap', rfl⟩ := ownsRow_succ hown2; have t4 := list_box (blk_below t1 hb1) hown1 hgrow2; have u6 := blk_cell t4 0 rfl; have u7 := blk_free (j := 0) t4))
        have hs1 : W1.heap.size ≤ w1.heap.size := hb1.size
        have hs2 : w1.heap.size + 1 ≤ w2.heap.size := by have := hgrow2.size; simp at this; omega
        have hrow : ∀ j, (Value.slice la vals.length lcap).ownBlock = some j → w.heap.size + 18 ≤ j := fun j hj => (hown1.lt j hj).1
        have hB2 : Below w.heap.size w w2 := ((hC.b.trans (hb1.mono hC.b.size)).alloc (by omega) _).grown hgrow2 (by simp; omega) (fun j hj => by have := hrow j hj; omega)
        have hsame : ∀ j, j < w1.heap.size → w.heap.size + 18 ≤ j → some j ≠ (Value.slice la vals.length lcap).ownBlock → w2.heap[j]? = w1.heap[j]? := fun j h1 _ h3 => (hgrow2.block j (by simp; omega) h3).trans (Below.heap_alloc _ _ _ h1)
        have old : ∀ {j : Nat} {o : Obj}, j < w.heap.size + 18 → w1.heap[j]? = some o → w2.heap[j]? = some o := fun {j o} hj h => (hgrow2.block j (by have := lt_of_block h; simp; omega) (fun e => by have := hrow j e.symm; omega)).trans (alk h)
        have R1 : Rows2 w1 (w.heap.size + 18) vals (pre.filter p) := t3.same hs1 (fun j _ h2 _ => hb1.block j h2)
        have R2 : Rows2 w2 (w.heap.size + 18) (vals ++ [.slice av c.length ccap]) (pre.filter p ++ [c]) := by
          have ne : ∀ j, (∃ cs, w1.heap[j]? = some (.cells cs 3 (0, 0))) → some j ≠ (Value.slice la vals.length lcap).ownBlock := fun j ⟨ds, hd⟩ e => by
            rcases hown1.2 with ⟨h1, _⟩ | ⟨g2, cap2, cur2, h1, _, hg2, _⟩
            · rw [h1] at e; simp [Value.ownBlock] at e
            · rw [h1] at e; simp [Value.ownBlock] at e; subst e; rw [hd] at hg2; simp at hg2
          have hk : ∀ j, w.heap.size + 18 ≤ j → j < w1.heap.size → (∃ cs, w1.heap[j]? = some (.cells cs 3 (0, 0))) → w2.heap[j]? = w1.heap[j]? := fun j h1 h2 h3 => hsame j h2 h1 (ne j h3)
          have hb : ∀ q, av = some q → q.block < w1.heap.size → w2.heap[q.block]? = w1.heap[q.block]? := fun q hq hl => hk _ (HFR.out q hq) hl (hty.below hb1 q hq)
          exact (R1.same (by omega) hk).snoc (ints_same (hsl.below hb1) (by omega) hb) (ty3_same (hty.below hb1) hb) HFR.out
        have fin : ∀ j, j ≠ w.heap.size + 4 → (w2.setCell ⟨w.heap.size + 4, 0, none⟩ (.slice (some ⟨g', 0, none⟩) (vals.length + 1) cap')).heap[j]? = w2.heap[j]? := fun j hj => Below.heap_setCell _ _ _ _ hj
        refine ⟨(((Keeps.of_below hb1).trans (Keeps.of_below ((Below.refl _ _).alloc (Nat.le_refl _) _))).trans (Keeps.grown hgrow2 (fun j hj => notOwn j (by have := hrow j hj; omega) (.inr (hrow j hj))))).trans (Keeps.setCell _ (q := ⟨w.heap.size + 4, 0, none⟩) (notOwn (w.heap.size + 4) (by omega) (by omega)) _), ?_⟩
        show CInv w g lb ((pre ++ [c]).filter p) _
        rw [HF.out]
        refine ⟨hB2.setCell (p := ⟨w.heap.size + 4, 0, none⟩) (by show w.heap.size ≤ w.heap.size + 4; omega) _, blk_other (old (by omega) (blk_below hC.want hb1)) (by omega), blk_other (old (by omega) (blk_below hC.r0 hb1)) (by omega), blk_other (old (by omega) (blk_below hC.r1 hb1)) (by omega), by rw [List.length_append, ← HLEN.out]; simp; omega, _, vals ++ [Value.slice av c.length ccap], blk_setCell t4, ?_, ?_⟩
        · have h := owns_same hown2 (B := w2.setCell ⟨w.heap.size + 4, 0, none⟩ (.slice (some ⟨g', 0, none⟩) (vals.length + 1) cap')) (fun j h1 _ => fin j (by omega))
          rw [show vals.length + 1 = (vals ++ [Value.slice av c.length ccap]).length by simp] at h ⊢
          exact h
        · exact R2.same (by rw [World.size_setCell]; exact Nat.le_refl _) (fun j h1 _ _ => fin j (by omega))
  case done =>
    rintro W2 hC hK
    obtain ⟨v, vals, t1, t2, t3⟩ := hC.list
    obtain ⟨la, lcap, rfl⟩ := slice_of_owns t2
    have u1 := blk_cell t1 0 rfl
    have u2 := blk_cell hC.r0 0 rfl
    have u3 := blk_cell hC.r1 0 rfl
    have u4 := blk_free (j := 0) hC.r0
    have u5 := blk_free (j := 0) hC.r1
    gi_wp2
    have hK' : ((W2.setCell ⟨w.heap.size + 2, 0, none⟩ (.slice la vals.length lcap)).setCell ⟨w.heap.size + 3, 0, none⟩ (.int .i64 0)).heap[Wr.heap.size]? = some (.deferred (some [])) := blk_other (blk_other hK (by omega)) (by omega)
    have q0' : ((W2.setCell ⟨w.heap.size + 2, 0, none⟩ (.slice la vals.length lcap)).setCell ⟨w.heap.size + 3, 0, none⟩ (.int .i64 0)).heap[w.heap.size + 2]? = some (.cells #[.slice la vals.length lcap] 43 (0, 0)) := blk_other (blk_setCell hC.r0) (by omega)
    have q1' : ((W2.setCell ⟨w.heap.size + 2, 0, none⟩ (.slice la vals.length lcap)).setCell ⟨w.heap.size + 3, 0, none⟩ (.int .i64 0)).heap[w.heap.size + 3]? = some (.cells #[.int .i64 0] 37 (0, 0)) := blk_setCell (blk_other hC.r1 (by omega))
    have hB3 : Below w.heap.size w ((W2.setCell ⟨w.heap.size + 2, 0, none⟩ (.slice la vals.length lcap)).setCell ⟨w.heap.size + 3, 0, none⟩ (.int .i64 0)) := (hC.b.setCell (p := ⟨w.heap.size + 2, 0, none⟩) (by show w.heap.size ≤ w.heap.size + 2; omega) _).setCell (p := ⟨w.heap.size + 3, 0, none⟩) (by show w.heap.size ≤ w.heap.size + 3; omega) _
    have hsz : ((W2.setCell ⟨w.heap.size + 2, 0, none⟩ (.slice la vals.length lcap)).setCell ⟨w.heap.size + 3, 0, none⟩ (.int .i64 0)).heap.size = W2.heap.size := by rw [World.size_setCell, World.size_setCell]
    have hoth : ∀ j, w.heap.size + 18 ≤ j → ((W2.setCell ⟨w.heap.size + 2, 0, none⟩ (.slice la vals.length lcap)).setCell ⟨w.heap.size + 3, 0, none⟩ (.int .i64 0)).heap[j]? = W2.heap[j]? := fun j hj => (Below.heap_setCell _ _ _ _ (by show j ≠ w.heap.size + 3; omega)).trans (Below.heap_setCell _ _ _ _ (by show j ≠ w.heap.size + 2; omega))
    clear u1 u2 u3 u4 u5
    generalize (W2.setCell ⟨w.heap.size + 2, 0, none⟩ (.slice la vals.length lcap)).setCell ⟨w.heap.size + 3, 0, none⟩ (.int .i64 0) = W3 at hK' q0' q1' hB3 hsz hoth ⊢
    refine ⟨by simp, .inl ⟨_, _, rfl, run_takeDeferred hK', ?_⟩⟩
    have q0 : (W3.putObj Wr.heap.size (.deferred none)).cell? ⟨w.heap.size + 2, 0, none⟩ = some (.slice la vals.length lcap) := blk_cell (cur := #[.slice la vals.length lcap]) (t := 43) ((World.putObj_heap_other (by omega)).trans q0') 0 rfl
    have q1 : (W3.putObj Wr.heap.size (.deferred none)).cell? ⟨w.heap.size + 3, 0, none⟩ = some (.int .i64 0) := blk_cell (cur := #[.int .i64 0]) (t := 37) ((World.putObj_heap_other (by omega)).trans q1') 0 rfl
    have hk4 : ∀ j, w.heap.size + 18 ≤ j → (W3.putObj Wr.heap.size (.deferred none)).heap[j]? = W2.heap[j]? := fun j hj => (World.putObj_heap_other (by omega)).trans (hoth j hj)
    have O4 := owns_same t2 (B := W3.putObj Wr.heap.size (.deferred none)) (fun j h1 _ => hk4 j h1)
    have R4 := t3.same (B := W3.putObj Wr.heap.size (.deferred none)) (by rw [putObj_size, hsz]; exact Nat.le_refl _) (fun j h1 _ _ => hk4 j h1)
    have hB4 : Below w.heap.size w (W3.putObj Wr.heap.size (.deferred none)) := hB3.trans ⟨rfl, rfl, rfl, by rw [putObj_size]; exact Nat.le_refl _, fun j hj => World.putObj_heap_other (by omega)⟩
    refine ⟨.tuple #[.slice la vals.length lcap, .int .i64 0], by simp [results, Tryz.results82, go_sem, q0, q1], ?_⟩
    have hfew := hC.few
    rw [HS2.out] at hfew R4
    show OutCsF w _ _ _ _
    rw [if_pos hfew, if_pos hfew]
    obtain ⟨a4, cap4, h5, h6⟩ := slsF_of_owns O4 R4 (l0 := w.heap.size) (by omega) (by omega)
    exact ⟨a4, cap4, by rw [h5], h6, hB4⟩
  case stop =>
    rintro pre W2 hpre ⟨h300, hB, q0', q1'⟩ hK
    gi_wp2
    refine ⟨by simp, .inl ⟨_, _, rfl, run_takeDeferred hK, ?_⟩⟩
    have q0 : (W2.putObj Wr.heap.size (.deferred none)).cell? ⟨w.heap.size + 2, 0, none⟩ = some (.slice none 0 0) := blk_cell (cur := #[.slice none 0 0]) (t := 43) ((World.putObj_heap_other (by omega)).trans q0') 0 rfl
    have q1 : (W2.putObj Wr.heap.size (.deferred none)).cell? ⟨w.heap.size + 3, 0, none⟩ = some (.int .i64 10) := blk_cell (cur := #[.int .i64 10]) (t := 37) ((World.putObj_heap_other (by omega)).trans q1') 0 rfl
    have hB4 : Below w.heap.size w (W2.putObj Wr.heap.size (.deferred none)) := hB.trans ⟨rfl, rfl, rfl, by rw [putObj_size]; exact Nat.le_refl _, fun j hj => World.putObj_heap_other (by omega)⟩
    refine ⟨.tuple #[.slice none 0 0, .int .i64 10], by simp [results, Tryz.results82, go_sem, q0, q1], ?_⟩
    have hbig : ¬ cs.length ≤ 300 := by
      obtain ⟨t, ht⟩ := hpre
      rw [← HS2.out, ← ht, List.filter_append, List.length_append]; omega
    show OutCsF w _ _ _ _
    rw [if_neg hbig, if_neg hbig]
    exact ⟨none, 0, rfl, fun h => by simp at h, hB4⟩
set_option maxHeartbeats 600000 in
set_option maxRecDepth 100000 in
theorem all_far (a : Option Addr) (xs : List Lp) (cap : Nat) (r : Ru) (w : World) (hx : Sl 3 Lp.cells w a xs) (hl : xs.length ≤ 1000000) :
    Calls Tryz.prog 50 #[.slice a xs.length cap, r.v] w (AllOutF xs r w) := by
  have hB0 : Below w.heap.size w (w.alloc r.o) := (Below.refl _ _).alloc (Nat.le_refl _) _
  have hR0 : RuAt (w.alloc r.o) w.heap.size r := heap_alloc_new _ _
  go_enter Tryz.func50, Tryz.ntmps50
  go_wp2_with fail
  refine (check_any a xs cap r _ (hx.below hB0) hl).mono ?_
  rintro e w1 ⟨rfl, hb⟩
  have hb1 := below_self hB0 hb
  have hR1 := hR0.below hb
  by_cases h1 : checkE xs r = 0
  · have h1b : (checkE xs r != 0) = false := by simp [h1]
    have HR : Hid (allR xs r = (if (rightL xs r).length ≤ 300 then rightL xs r else [], if (rightL xs r).length ≤ 300 then 0 else 10)) := by show _ = _; rw [allR, if_pos h1]
    have H1 := Lib.hid h1
    clear h1
    obtain ⟨c0, c1, c2, c3, c4, c5, c6, c7, c8⟩ := hR1.cells
    go_wp2_with fail
    refine (callsIn_wide.1 (chosen_far 0 a xs cap r 108 r.laps.toNat #[] (fun _ => true) _ (hx.below hb1) H1.out (laps_nat H1.out).1 eg81 (fun c _ av ccap W _ _ => (all1_any av c.length ccap W).mono fun e W' h => ⟨h.1, h.2 ▸ Below.refl _ _⟩) (rightL xs r) (by simp [rightL]))).mono ?_
    rintro e w2 ⟨a2, cap2, he, hS, hb2⟩
    generalize (if (rightL xs r).length ≤ 300 then rightL xs r else []) = L at he hS HR
    generalize (if (rightL xs r).length ≤ 300 then (0 : Int) else 10) = E at he HR
    subst he
    go_wp2
    go_ret2
    show OutCsF w (allR xs r).1 (allR xs r).2 _ _
    rw [HR.out]
    exact ⟨a2, cap2, rfl, hS.less (by have := hb1.size; omega), below_self hb1 hb2⟩
  · have h1b : (checkE xs r != 0) = true := by simp [h1]
    have HR : Hid (allR xs r = ([], checkE xs r)) := by show _ = _; rw [allR, if_neg h1]
    clear h1
    go_wp2
    go_ret2
    show OutCsF w (allR xs r).1 (allR xs r).2 _ _
    rw [HR.out]
    exact ⟨none, 0, rfl, fun h => by simp at h, hb1⟩
set_option maxHeartbeats 2000000 in
set_option maxRecDepth 100000 in
theorem Covered_far (a : Option Addr) (xs : List Lp) (cap : Nat) (r : Ru) (depth volume : Int) (w : World) (hx : Sl 3 Lp.cells w a xs) (hl : xs.length ≤ 1000000) :
    Calls Tryz.prog 18 #[.slice a xs.length cap, r.v, .int .i64 depth, .int .i64 volume] w (OutCsF w (covR xs r depth volume).1 (covR xs r depth volume).2) := by
  obtain ⟨W0, hW0⟩ : ∃ W0, (((w.alloc (.cells #[.slice a xs.length cap] 22)).alloc r.o).alloc (.cells #[.int .i64 depth] 3)).alloc (.cells #[.int .i64 volume] 3) = W0 := ⟨_, rfl⟩
  have HB0 : Hid (Below w.heap.size w W0 ∧ W0.heap[w.heap.size]? = some (.cells #[.slice a xs.length cap] 22 (0, 0)) ∧ RuAt W0 (w.heap.size + 1) r ∧ W0.heap[w.heap.size + 1 + 1]? = some (.cells #[.int .i64 depth] 3 (0, 0)) ∧ W0.heap[w.heap.size + 1 + 1 + 1]? = some (.cells #[.int .i64 volume] 3 (0, 0))) := by
    rw [← hW0]
    exact ⟨((((Below.refl _ _).alloc (Nat.le_refl _) _).alloc (by simp) _).alloc (by simp <;> omega) _).alloc (by simp <;> omega) _, alk (alk (alk (new_at rfl))), alk (alk (new_at (by simp))), alk (new_at (by simp)), new_at (by simp)⟩
  have HX0 := Lib.hid (hx.below HB0.out.1)
  clear hx
  go_enter Tryz.func18, Tryz.ntmps18
  have t0 := blk_cell HB0.out.2.1 0 rfl
  obtain ⟨d0, d1, d2, d3, d4, d5, d6, d7, d8⟩ := HB0.out.2.2.1.cells
  go_wp2_with (fail)
  clear hW0 t0 d0 d1 d2 d3 d4 d5 d6 d7 d8
  refine (check_any a xs cap r W0 HX0.out hl).mono ?_
  rintro e W1 ⟨rfl, hb⟩
  have HB1 : Hid (Below w.heap.size w W1 ∧ W1.heap[w.heap.size]? = some (.cells #[.slice a xs.length cap] 22 (0, 0)) ∧ RuAt W1 (w.heap.size + 1) r ∧ W1.heap[w.heap.size + 1 + 1]? = some (.cells #[.int .i64 depth] 3 (0, 0)) ∧ W1.heap[w.heap.size + 1 + 1 + 1]? = some (.cells #[.int .i64 volume] 3 (0, 0))) := ⟨below_self HB0.out.1 hb, blk_below HB0.out.2.1 hb, HB0.out.2.2.1.below hb, blk_below HB0.out.2.2.2.1 hb, blk_below HB0.out.2.2.2.2 hb⟩
  have HX1 := Lib.hid (HX0.out.below hb)
  clear hb HB0 HX0
  have b0 := blk_cell HB1.out.2.1 0 rfl
  have b2 := blk_cell HB1.out.2.2.2.1 0 rfl
  have b3 := blk_cell HB1.out.2.2.2.2 0 rfl
  by_cases h1 : checkE xs r = 0
  · have g1 : (checkE xs r != 0) = false := by simp [h1]
    have HR : Hid (covR xs r depth volume = if (withinB depth 1 200 && withinB volume 0 10000000) = true then (if (covL xs r depth volume).length ≤ 300 then covL xs r depth volume else [], if (covL xs r depth volume).length ≤ 300 then 0 else 10) else ([], 3)) := by show _ = _; rw [covR, if_pos h1]
    obtain ⟨hal, hl1, hl2⟩ := stad_ok (check_ok h1).1
    have H1 := Lib.hid h1
    clear h1
    cases e1 : withinB depth 1 200
    · have HR2 : Hid (covR xs r depth volume = ([], 3)) := by show _ = _; rw [HR.out, e1]; rfl
      go_wp2_with (go_at_call 79; refine (within_any _ _ _ _).mono ?_; rintro e w' ⟨rfl, rfl⟩)
      go_ret2
      rw [HR2.out]
      exact ⟨none, 0, rfl, fun h => by simp at h, HB1.out.1⟩
    · cases e2 : withinB volume 0 10000000
      · have HR2 : Hid (covR xs r depth volume = ([], 3)) := by show _ = _; rw [HR.out, e1, e2]; rfl
        go_wp2_with (go_at_call 79; refine (within_any _ _ _ _).mono ?_; rintro e w' ⟨rfl, rfl⟩)
        go_ret2
        rw [HR2.out]
        exact ⟨none, 0, rfl, fun h => by simp at h, HB1.out.1⟩
      · have HR2 : Hid (covR xs r depth volume = (if (covL xs r depth volume).length ≤ 300 then covL xs r depth volume else [], if (covL xs r depth volume).length ≤ 300 then 0 else 10)) := by show _ = _; rw [HR.out, e1, e2]; rfl
        have hd : 1 ≤ depth ∧ depth ≤ 200 := by simpa [withinB] using e1
        have hmf : ∀ (fn : Fn) (first cap : Array Value) (w : World), (Instr.makeFunc fn first cap).run Tryz.prog w = .ok (.func fn first cap) w := fun _ _ _ _ => rfl
        have r0 := HB1.out.2.2.1.cells.1
        obtain ⟨r1, r2, r3, r4, r5, r6, r7, r8⟩ := HB1.out.2.2.1.cells.2
        go_wp2_with (go_at_call 79; refine (within_any _ _ _ _).mono ?_; rintro e w' ⟨rfl, rfl⟩)
        clear r0 r1 r2 r3 r4 r5 r6 r7 r8 g1
        have HCH := callsIn_wide.1 (chosen_far 0 a xs cap r 83 r.laps.toNat #[.pointer (some ⟨w.heap.size, 0, none⟩), .pointer (some ⟨w.heap.size + 1 + 1, 0, none⟩), .pointer (some ⟨w.heap.size + 1 + 1 + 1, 0, none⟩)] (fun c => decide (snowL xs c depth ≤ volume)) W1 HX1.out H1.out (laps_nat H1.out).1 eg83
          (fun c hc av ccap W hW hI => cov1_any a xs cap av c ccap _ _ _ depth volume W (HX1.out.below hW) hI hl2 (by have h1 := (extC_ok xs.length r.laps.toNat [] 0 (by simp) c hc).1; have h2 := (laps_nat H1.out).2.2; simp at h1; omega) hal hd (blk_cell (blk_below HB1.out.2.1 hW) 0 rfl) (blk_cell (blk_below HB1.out.2.2.2.1 hW) 0 rfl) (blk_cell (blk_below HB1.out.2.2.2.2 hW) 0 rfl))
          (covL xs r depth volume) rfl)
        refine HCH.mono ?_
        clear HCH
        rintro e w2 ⟨a2, cap2, he, hS, hb2⟩
        generalize (if (covL xs r depth volume).length ≤ 300 then covL xs r depth volume else []) = L at he hS HR2
        generalize (if (covL xs r depth volume).length ≤ 300 then (0 : Int) else 10) = E at he HR2
        subst he
        go_wp2_with (fail)
        go_ret2
        rw [HR2.out]
        exact ⟨a2, cap2, rfl, hS.less HB1.out.1.size, below_self HB1.out.1 hb2⟩
  · have g1 : (checkE xs r != 0) = true := by simp [h1]
    have HR : Hid (covR xs r depth volume = ([], checkE xs r)) := by show _ = _; rw [covR, if_neg h1]
    clear h1
    go_wp2_with (fail)
    go_ret2
    rw [HR.out]
    exact ⟨none, 0, rfl, fun h => by simp at h, HB1.out.1⟩

end Go.Proofs.YtgldfnkjfgcjpaaGreat

namespace Go.Proofs.YtgldfnkjfgcjpaaGreat
open Go.RowKit Go.Shelf

theorem cmpL_cons (i : Int) (x y : List Int) : cmpL (i :: x) (i :: y) = cmpL x y := by
  show (if cmpI i i = 0 then cmpL x y else cmpI i i) = _
  rw [if_pos]
  simp [cmpI]
theorem cmpL_lt (i j : Int) (x y : List Int) (h : i < j) : cmpL (i :: x) (j :: y) < 0 := by
  show (if cmpI i j = 0 then cmpL x y else cmpI i j) < 0
  have : cmpI i j = -1 := by simp [cmpI, h]
  rw [this, if_neg (by decide)]; decide
theorem allC_sorted (L : Nat) : ∀ d : Nat, (allC L d).Pairwise (fun x y => cmpL x y < 0)
  | 0 => by simp [allC]
  | d + 1 => by
    show (((List.range L).map (fun (i : Nat) => (allC L d).map (fun t => (i : Int) :: t))).flatten).Pairwise _
    rw [List.pairwise_flatten]
    constructor
    · intro l hl
      obtain ⟨i, _, rfl⟩ := List.mem_map.1 hl
      rw [List.pairwise_map]
      exact (allC_sorted L d).imp (fun {x y} h => by rw [cmpL_cons]; exact h)
    · rw [List.pairwise_map]
      refine (List.pairwise_lt_range).imp ?_
      intro i j hij a ha b hb
      obtain ⟨x, _, rfl⟩ := List.mem_map.1 ha
      obtain ⟨y, _, rfl⟩ := List.mem_map.1 hb
      exact cmpL_lt _ _ _ _ (by omega)
theorem right_sorted (xs : List Lp) (r : Ru) : (rightL xs r).Pairwise (fun x y => cmpL x y < 0) := by
  unfold rightL
  rw [ext_filter]
  exact ((allC_sorted _ _).filter _).filter _
set_option maxRecDepth 100000 in
theorem ext_small5 : ∀ n, n < 7 → ∀ d, d < 6 → (extC n d [] 0).length ≤ 300 := by decide +kernel
theorem all_small5 {xs : List Lp} {r : Ru} (h : checkE xs r = 0) (h1 : xs.length ≤ 6) (h2 : r.laps ≤ 5) : allR xs r = (rightL xs r, 0) := by
  have := ext_small5 xs.length (by omega) r.laps.toNat (by omega)
  have h3 : (rightL xs r).length ≤ 300 := Nat.le_trans (List.length_filter_le _ _) this
  rw [allR, if_pos h, if_pos h3, if_pos h3]
theorem rules_zero (m : Mk) : (rulesL m).length = 0 ↔ m.none = true := by
  obtain ⟨a, b, c, d, e⟩ := m
  revert a b c d e
  decide +kernel
theorem right_mem {xs : List Lp} {r : Ru} (h : checkE xs r = 0) (c : List Int) : c ∈ rightL xs r ↔ (c.length : Int) = r.laps ∧ (∀ i ∈ c, 0 ≤ i ∧ i < (xs.length : Int)) ∧ c.Pairwise (fun x y => x ≤ y) ∧ (rulesL (judgeM xs r c)).length = 0 := by
  have hd := laps_nat h
  unfold rightL
  rw [List.mem_filter, ext_mem, rules_zero]
  unfold okC
  constructor
  · rintro ⟨⟨h1, h2, h3⟩, h4⟩; exact ⟨by omega, h2, h3, h4⟩
  · rintro ⟨h1, h2, h3, h4⟩; exact ⟨⟨by omega, h2, h3⟩, h4⟩
/-- Rules with wider spans, fewer metres and more uses. -/
structure Wider (r q : Ru) : Prop where
  laps : q.laps = r.laps
  len : q.len.lo ≤ r.len.lo ∧ r.len.hi ≤ q.len.hi
  climb : q.climb.lo ≤ r.climb.lo ∧ r.climb.hi ≤ q.climb.hi
  lap : q.lap.lo ≤ r.lap.lo ∧ r.lap.hi ≤ q.lap.hi
  wide : q.wide ≤ r.wide
  uses : r.uses ≤ q.uses
theorem inside_wider {n : Int} {s t : Sp} (h : t.lo ≤ s.lo ∧ s.hi ≤ t.hi) (hi : insideB n s = true) : insideB n t = true := by
  simp only [insideB, withinB, Bool.and_eq_true, decide_eq_true_eq] at *; omega
theorem none_iff (m : Mk) : m.none = true ↔ m.a = false ∧ m.b = false ∧ m.c = false ∧ m.d = false ∧ m.e = false := by
  obtain ⟨a, b, c, d, e⟩ := m
  revert a b c d e
  decide
theorem judge_wider {xs : List Lp} {r q : Ru} (h : Wider r q) (c : List Int) (hn : (judgeM xs r c).none = true) : (judgeM xs q c).none = true := by
  rw [none_iff] at *
  obtain ⟨h1, h2, h3, h4, h5⟩ := hn
  simp only [judgeM, Bool.not_eq_false'] at *
  refine ⟨inside_wider h.len h1, inside_wider h.climb h2, ?_, ?_, ?_⟩
  · rw [List.all_eq_true] at *; exact fun n hn => inside_wider h.lap (h3 n hn)
  · rw [List.all_eq_true] at *
    intro i hi
    have h1 := h.wide
    have h2 := of_decide_eq_true (h4 i hi)
    exact decide_eq_true (by omega)
  · rw [oftenB, List.any_eq_false] at *
    intro i hi
    have h1 := h5 i hi
    have h2 := h.uses
    rw [decide_eq_true_eq] at *
    omega
theorem right_wider {xs : List Lp} {r q : Ru} (h : checkE xs r = 0) (hq : checkE xs q = 0) (hw : Wider r q) (c : List Int) (hc : c ∈ rightL xs r) : c ∈ rightL xs q := by
  obtain ⟨h1, h2, h3, h4⟩ := (right_mem h c).1 hc
  exact (right_mem hq c).2 ⟨by rw [hw.laps]; exact h1, h2, h3, (rules_zero _).2 (judge_wider hw c ((rules_zero _).1 h4))⟩
end Go.Proofs.YtgldfnkjfgcjpaaGreat
