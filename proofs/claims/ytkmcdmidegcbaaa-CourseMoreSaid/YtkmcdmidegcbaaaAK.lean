/-
  The contracts of before, slices.Compare and cmp.Compare for rules, over this seat's program.
  What is proved: before tells whether a list of rules is shorter than another one, or as long and before it.
  Conditions: slices of at most 1000000 elements.
-/
import Derived.Test.YtkmcdmidegcbaaaAJ
namespace Go.Proofs.Ytkmcdmidegcbaaa
open Go.RowKit Go.Shelf
attribute [local go_sem] Oper.semAt_some

theorem isNaN_any (x : Int) (w : World) : Calls Try.prog 150 #[.int .i64 x] w fun e w' => e = .returned (.bool false) ∧ w = w' := by
  go_enter Try.func150, Try.ntmps150
  go_wp2
  go_ret
  exact ⟨ret_bool (by simp), rfl⟩

def cmpI (x y : Int) : Int := if x < y then -1 else if y < x then 1 else 0
set_option maxHeartbeats 1000000 in
theorem cmp_any (x y : Int) (w : World) : Calls Try.prog 144 #[.int .i64 x, .int .i64 y] w fun e w' => e = .returned (.int .i64 (cmpI x y)) ∧ w = w' := by
  go_enter Try.func144, Try.ntmps144
  go_wp2_with (go_at_call 150; refine (isNaN_any _ _).mono ?_; rintro e w' ⟨rfl, rfl⟩)
  all_goals go_ret
  all_goals exact ⟨ret_int (by simp only [cmpI]; repeat' split <;> omega), rfl⟩

/-- The comparison of two lists. -/
def cmpL : List Int → List Int → Int
  | [], [] => 0
  | [], _ :: _ => -1
  | _ :: _, [] => 1
  | x :: xs, y :: ys => if cmpI x y = 0 then cmpL xs ys else cmpI x y
def beforeB (xs ys : List Int) : Bool := if xs.length = ys.length then decide (cmpL xs ys < 0) else decide (xs.length < ys.length)

theorem cmpL_at {xs ys : List Int} {k : Nat} (hx : k < xs.length) (hy : k < ys.length) : cmpL (xs.drop k) (ys.drop k) = if cmpI (xs[k]?.getD 0) (ys[k]?.getD 0) = 0 then cmpL (xs.drop (k + 1)) (ys.drop (k + 1)) else cmpI (xs[k]?.getD 0) (ys[k]?.getD 0) := by
  rw [List.drop_eq_getElem_cons hx, List.drop_eq_getElem_cons hy, cmpL, List.getElem?_eq_getElem hx, List.getElem?_eq_getElem hy]; rfl
theorem cmpL_end {xs ys : List Int} : cmpL (xs.drop xs.length) (ys.drop xs.length) = if xs.length < ys.length then -1 else 0 := by
  rw [List.drop_length]
  cases h : ys.drop xs.length with
  | nil => rw [if_neg (by have := List.drop_eq_nil_iff.1 h; omega)]; rfl
  | cons y t => rw [if_pos (by have : ¬ ys.length ≤ xs.length := fun h' => by rw [List.drop_eq_nil_iff.2 h'] at h; cases h
                               omega)]; rfl
theorem cmpL_long {xs ys : List Int} (h : ys.length < xs.length) : cmpL (xs.drop ys.length) (ys.drop ys.length) = 1 := by
  rw [List.drop_length]
  cases h' : xs.drop ys.length with
  | nil => have := List.drop_eq_nil_iff.1 h'; omega
  | cons x t => rfl

set_option maxHeartbeats 1000000 in
theorem compare_any (a : Option Addr) (xs : List Int) (ca : Nat) (b : Option Addr) (ys : List Int) (cb : Nat) (w : World) (hx : IntSl w a xs) (hy : IntSl w b ys) (hl : xs.length ≤ 1000000) :
    Calls Try.prog 126 #[.slice a xs.length ca, .slice b ys.length cb] w fun e w' => e = .returned (.int .i64 (cmpL xs ys)) ∧ Below w.heap.size w w' := by
  have HX := Lib.hid (And.intro hx hy)
  clear hx hy
  go_enter Try.func126, Try.ntmps126
  go_wp2
  go_loopw [11] (fun i wr => ∃ k : Nat, k ≤ xs.length ∧ k ≤ ys.length ∧ i = .int .i64 k ∧ Hid (cmpL xs ys = cmpL (xs.drop k) (ys.drop k)) ∧ Below w.heap.size w wr) (fun i _ => xs.length - (intOf i).toNat)
  case atStart => exact ⟨0, Nat.zero_le _, Nat.zero_le _, rfl, rfl, Below.refl _ _⟩
  case round =>
    obtain ⟨k, hk, hk2, rfl, hc, hbw⟩ := hrel
    by_cases hlt : k < xs.length
    · obtain ⟨b1, o1, rfl, hb1, hc1⟩ := HX.out.1 (by omega)
      have d1 := (hbw.cell (p := ⟨b1, o1 + k, none⟩) hb1).trans (hc1 k hlt)
      clear hc1
      by_cases hlt2 : k < ys.length
      · obtain ⟨b2, o2, rfl, hb2, hc2⟩ := HX.out.2 (by omega)
        have d2 := (hbw.cell (p := ⟨b2, o2 + k, none⟩) hb2).trans (hc2 k hlt2)
        clear hc2
        have HA := Lib.hid (hc.out.trans (cmpL_at hlt hlt2))
        generalize xs[k]?.getD 0 = xk at d1 HA
        generalize ys[k]?.getD 0 = yk at d2 HA
        by_cases he : cmpI xk yk = 0
        · have heb : (cmpI xk yk != 0) = false := by simp [he]
          have HA2 : Hid (cmpL xs ys = cmpL (xs.drop (k + 1)) (ys.drop (k + 1))) := by show _ = _; rw [HA.out, if_pos he]
          clear he
          go_wp2_with (go_at_call 144; refine (cmp_any _ _ _).mono ?_; rintro e w1 ⟨rfl, rfl⟩)
          go_roundw
          case rel => exact ⟨k + 1, by omega, by omega, by go_num, HA2, hbw⟩
          case measure => simp [intOf]; omega
        · have heb : (cmpI xk yk != 0) = true := by simp [he]
          have HA2 : Hid (cmpL xs ys = cmpI xk yk) := by show _ = _; rw [HA.out, if_neg he]
          clear he
          go_wp2_with (go_at_call 144; refine (cmp_any _ _ _).mono ?_; rintro e w1 ⟨rfl, rfl⟩)
          go_ret
          exact ⟨by rw [HA2.out]; rfl, hbw⟩
      · have hkk : k = ys.length := by omega
        have HA2 : Hid (cmpL xs ys = 1) := by show _ = _; rw [hc.out, hkk]; exact cmpL_long (by omega)
        clear hkk
        go_wp2
        go_ret
        exact ⟨by rw [HA2.out]; rfl, hbw⟩
    · have hkk : k = xs.length := by omega
      subst hkk
      have HA := Lib.hid (hc.out.trans cmpL_end)
      by_cases hlt2 : xs.length < ys.length
      · have HA2 : Hid (cmpL xs ys = -1) := by show _ = _; rw [HA.out, if_pos hlt2]
        go_wp2
        go_ret
        exact ⟨by rw [HA2.out]; rfl, hbw⟩
      · have HA2 : Hid (cmpL xs ys = 0) := by show _ = _; rw [HA.out, if_neg hlt2]
        go_wp2
        go_ret
        exact ⟨by rw [HA2.out]; rfl, hbw⟩

set_option maxHeartbeats 1000000 in
theorem before_any (a : Option Addr) (xs : List Int) (ca : Nat) (b : Option Addr) (ys : List Int) (cb : Nat) (w : World) (hx : IntSl w a xs) (hy : IntSl w b ys) (hl : xs.length ≤ 1000000) :
    Calls Try.prog 84 #[.slice a xs.length ca, .slice b ys.length cb] w fun e w' => e = .returned (.bool (beforeB xs ys)) ∧ Below w.heap.size w w' := by
  have HX := Lib.hid (And.intro hx (And.intro hy hl))
  clear hx hy hl
  by_cases hlen : xs.length = ys.length
  · have hlb : ((xs.length : Int) != (ys.length : Int)) = false := by simp [hlen]
    have HR : Hid (beforeB xs ys = decide (cmpL xs ys < 0)) := by show _ = _; rw [beforeB, if_pos hlen]
    clear hlen
    go_enter Try.func84, Try.ntmps84
    go_wp2_with (go_at_call 126; refine (compare_any a xs ca b ys cb _ HX.out.1 HX.out.2.1 HX.out.2.2).mono ?_; rintro e w1 ⟨rfl, hb1⟩)
    go_ret
    exact ⟨by rw [HR.out]; rfl, hb1⟩
  · have hlb : ((xs.length : Int) != (ys.length : Int)) = true := by simp; omega
    have HR : Hid (beforeB xs ys = decide (xs.length < ys.length)) := by show _ = _; rw [beforeB, if_neg hlen]
    clear hlen
    go_enter Try.func84, Try.ntmps84
    go_wp2
    go_ret
    exact ⟨ret_bool (by rw [HR.out]), Below.refl _ _⟩
end Go.Proofs.Ytkmcdmidegcbaaa
