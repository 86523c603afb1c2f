/-
  The contracts of slices.Index, slices.Contains, has, area and snow over this seat's program.
  What is proved: what each call returns; nothing that was there before has turned.
  Conditions: at most 12 loops whose numbers are allowed; depths from 1 to 200.
-/
import Derived.Test.YtkmcdmidegcbaaaP
namespace Go.Proofs.Ytkmcdmidegcbaaa
open Go.RowKit

/-- A call that hands back a place of a number, or less than 0. -/
def IdxOut (c : List Int) (v : Int) (w : World) (e : Ending) (w' : World) : Prop := ∃ r : Int, e = .returned (.int .i64 r) ∧ decide (0 ≤ r) = c.contains v ∧ w = w'

theorem not_mem_take_succ (c : List Int) (v : Int) (k : Nat) (hk : k < c.length) (h : v ∉ c.take k) (hn : ¬ v = c[k]) : v ∉ c.take (k + 1) := by
  rw [List.take_add_one, List.getElem?_eq_getElem hk]
  simp only [Option.toList_some, List.mem_append, List.mem_singleton, not_or]
  exact ⟨h, hn⟩

set_option maxHeartbeats 600000 in
theorem index_any (a : Option Addr) (c : List Int) (cap : Nat) (v : Int) (w : World) (hx : IntSl w a c) (hl : c.length ≤ 1000000) :
    Calls Try.prog 151 #[.slice a c.length cap, .int .i64 v] w (IdxOut c v w) := by
  go_enter Try.func151, Try.ntmps151
  go_wp2
  go_loop [8] (fun i => ∃ k : Nat, k ≤ c.length ∧ i = .int .i64 k ∧ Hid (v ∉ c.take k)) (fun i => c.length - (intOf i).toNat)
  case atStart => exact ⟨0, Nat.zero_le _, rfl, by show _ ∉ _; simp⟩
  case round =>
    obtain ⟨k, hk, rfl, hn⟩ := hrel
    by_cases hlt : k < c.length
    · obtain ⟨b, off, rfl, hbs, hc⟩ := hx (by omega)
      have hck := hc k hlt
      clear hc
      by_cases hv : v = c[k]
      · have hvb : (v == c[k]) = true := by simp [hv]
        have HV := Lib.hid hv
        clear hv
        go_wp2
        go_ret
        exact ⟨k, rfl, by rw [HV.out]; simp, rfl⟩
      · have hvb : (v == c[k]) = false := by simp [hv]
        have HN : Hid (v ∉ c.take (k + 1)) := not_mem_take_succ c v k hlt hn.out hv
        clear hv
        go_wp2
        go_round
        case rel => exact ⟨k + 1, by omega, by go_num, HN⟩
        case measure => simp [intOf]; omega
    · have : k = c.length := by omega
      subst this
      rw [List.take_length] at hn
      go_wp2
      go_ret
      exact ⟨-1, rfl, by have := hn.out; simp [this], rfl⟩

set_option maxHeartbeats 400000 in
theorem contains_any (a : Option Addr) (c : List Int) (cap : Nat) (v : Int) (w : World) (hx : IntSl w a c) (hl : c.length ≤ 1000000) :
    Calls Try.prog 148 #[.slice a c.length cap, .int .i64 v] w fun e w' => e = .returned (.bool (c.contains v)) ∧ w = w' := by
  go_enter Try.func148, Try.ntmps148
  go_wp2_with fail
  refine (index_any a c cap v _ hx hl).mono ?_
  rintro e w' ⟨r, rfl, hr, rfl⟩
  have HR := Lib.hid hr
  clear hr
  go_wp2
  go_ret
  exact ⟨ret_bool HR.out, rfl⟩

set_option maxHeartbeats 400000 in
theorem has_any (a : Option Addr) (c : List Int) (cap : Nat) (v : Int) (w : World) (hx : IntSl w a c) (hl : c.length ≤ 1000000) :
    Calls Try.prog 142 #[.slice a c.length cap, .int .i64 v] w fun e w' => e = .returned (.bool (c.contains v)) ∧ w = w' := by
  go_enter Try.func142, Try.ntmps142
  go_wp2_with fail
  refine (contains_any a c cap v _ hx hl).mono ?_
  rintro e w' ⟨rfl, rfl⟩
  go_wp2
  go_ret
  exact ⟨ret_bool (by simp), rfl⟩

/-- The area of the loops that occur, of the first k. -/
def areaTo (xs : List Lp) (c : List Int) : Nat → Int
  | 0 => 0
  | k + 1 => areaTo xs c k + if c.contains (k : Int) = true then (match xs[k]? with | some x => x.l * x.d | none => 0) else 0
def areaL (xs : List Lp) (c : List Int) : Int := areaTo xs c xs.length

theorem area_one {x : Lp} (h : allowedB x = true) : 0 ≤ x.l * x.d ∧ x.l * x.d ≤ 400000 := by
  simp [allowedB, withinB] at h
  refine ⟨Int.mul_nonneg (by omega) (by omega), ?_⟩
  have h1 := Int.mul_le_mul (show x.l ≤ 20000 by omega) (show x.d ≤ 20 by omega) (by omega) (by omega)
  omega

theorem areaTo_bd {xs : List Lp} (hal : xs.all allowedB = true) (c : List Int) (k : Nat) (hk : k ≤ xs.length) : 0 ≤ areaTo xs c k ∧ areaTo xs c k ≤ k * 400000 := by
  induction k with
  | zero => simp [areaTo]
  | succ k ih =>
    have := ih (by omega)
    have hlt : k < xs.length := by omega
    have h1 := area_one (List.all_eq_true.1 hal xs[k] (List.getElem_mem hlt))
    simp only [areaTo, List.getElem?_eq_getElem hlt]
    split <;> omega

set_option maxHeartbeats 800000 in
set_option maxRecDepth 100000 in
theorem area_any (a : Option Addr) (xs : List Lp) (cap : Nat) (ac : Option Addr) (c : List Int) (ccap : Nat) (w : World) (hx : Sl 3 Lp.cells w a xs) (hc : IntSl w ac c) (hl : xs.length ≤ 12) (hcl : c.length ≤ 1000000) (hal : xs.all allowedB = true) :
    Calls Try.prog 141 #[.slice a xs.length cap, .func (.func 142) #[.slice ac c.length ccap] #[]] w fun e w' => e = .returned (.int .i64 (areaL xs c)) ∧ Below w.heap.size w w' := by
  go_enter Try.func141, Try.ntmps141
  go_wp2
  go_loopw [5, 10] (fun t i wr => ∃ k : Nat, k ≤ xs.length ∧ i = .int .i64 k ∧ t = .int .i64 (areaTo xs c k) ∧ Below w.heap.size w wr) (fun _ i _ => xs.length - (intOf i).toNat)
  case atStart => exact ⟨0, Nat.zero_le _, rfl, rfl, Below.refl _ _⟩
  case round =>
    obtain ⟨k, hk, rfl, rfl, hbw⟩ := hrel
    by_cases hlt : k < xs.length
    · obtain ⟨b, off, rfl, hbs, hcc⟩ := hx (by omega)
      have hc0 := (hbw.cell (p := ⟨b, off + k * 3, none⟩) hbs).trans (hcc k xs[k] 0 _ (List.getElem?_eq_getElem hlt) rfl)
      have hc1 := (hbw.cell (p := ⟨b, off + k * 3 + 1, none⟩) hbs).trans (hcc k xs[k] 1 _ (List.getElem?_eq_getElem hlt) rfl)
      have hc2 := (hbw.cell (p := ⟨b, off + k * 3 + 2, none⟩) hbs).trans (hcc k xs[k] 2 _ (List.getElem?_eq_getElem hlt) rfl)
      clear hcc
      obtain ⟨p1, p2⟩ := area_one (List.all_eq_true.1 hal xs[k] (List.getElem_mem hlt))
      obtain ⟨p3, p4⟩ := areaTo_bd hal c k hk
      have p5 : areaTo xs c k ≤ 10000000 := by omega
      clear p4
      have hI := hc.below hbw
      cases hcn : c.contains (k : Int)
      · have HS : Hid (areaTo xs c (k + 1) = areaTo xs c k) := by show _ = _; simp only [areaTo, hcn]; simp
        have HC := Lib.hid hcn
        clear hcn
        go_wp2_with (go_at_call 142; refine (has_any ac c ccap (k : Int) _ (hI.below ((Below.refl _ _).alloc (Nat.le_refl _) _)) hcl).mono ?_; rintro e w' ⟨rfl, rfl⟩; rw [HC.out])
        go_roundw
        case rel => exact ⟨k + 1, by omega, by go_num, by rw [HS.out], hbw.alloc hbw.size _⟩
        case measure => simp [intOf]; omega
      · have HS : Hid (areaTo xs c (k + 1) = areaTo xs c k + xs[k].l * xs[k].d) := by show _ = _; simp only [areaTo, hcn, List.getElem?_eq_getElem hlt]; simp
        have HC := Lib.hid hcn
        clear hcn
        go_wp2_with (go_at_call 142; refine (has_any ac c ccap (k : Int) _ (hI.below ((Below.refl _ _).alloc (Nat.le_refl _) _)) hcl).mono ?_; rintro e w' ⟨rfl, rfl⟩; rw [HC.out])
        go_roundw
        case rel => exact ⟨k + 1, by omega, by go_num, by rw [HS.out], hbw.alloc hbw.size _⟩
        case measure => simp [intOf]; omega
    · have : k = xs.length := by omega
      subst this
      go_wp2
      go_ret
      exact ⟨rfl, hbw⟩

/-- The snow of a course. -/
def snowL (xs : List Lp) (c : List Int) (depth : Int) : Int := (areaL xs c * depth + 99) / 100

set_option maxHeartbeats 600000 in
theorem snow_any (a : Option Addr) (xs : List Lp) (cap : Nat) (ac : Option Addr) (c : List Int) (ccap : Nat) (depth : Int) (w : World) (hx : Sl 3 Lp.cells w a xs) (hc : IntSl w ac c) (hl : xs.length ≤ 12) (hcl : c.length ≤ 1000000) (hal : xs.all allowedB = true)
    (hd : 1 ≤ depth ∧ depth ≤ 200) :
    Calls Try.prog 108 #[.slice a xs.length cap, .slice ac c.length ccap, .int .i64 depth] w fun e w' => e = .returned (.int .i64 (snowL xs c depth)) ∧ Below w.heap.size w w' := by
  have hmf : ∀ (fn : Fn) (first cap : Array Value) (w : World), (Instr.makeFunc fn first cap).run Try.prog w = .ok (.func fn first cap) w := fun _ _ _ _ => rfl
  obtain ⟨p1, p2⟩ := areaTo_bd hal c xs.length (Nat.le_refl _)
  have p3 : 0 ≤ areaL xs c * depth := Int.mul_nonneg p1 (by omega)
  have p4 : areaL xs c * depth ≤ 1000000000 := by
    have h1 := Int.mul_le_mul (show areaL xs c ≤ 4800000 by unfold areaL; omega) (show depth ≤ 200 by omega) (by omega) (by omega)
    omega
  clear p1 p2
  go_enter Try.func108, Try.ntmps108
  go_wp2_with fail
  refine (area_any a xs cap ac c ccap _ hx hc hl hcl hal).mono ?_
  rintro e w1 ⟨rfl, hb⟩
  go_wp2
  go_ret
  exact ⟨rfl, hb⟩
end Go.Proofs.Ytkmcdmidegcbaaa
