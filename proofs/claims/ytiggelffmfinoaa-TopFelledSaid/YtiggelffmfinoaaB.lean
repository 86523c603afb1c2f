/-
  The contracts of the small functions of packages wind and rifle over this seat's program: within, every and sum.
  What is proved: what each call returns, and that nothing that was there before it has turned.
  Conditions: slices of at most 1000000 elements.
-/
import Derived.Test.YtiggelffmfinoaaProg
import Derived.Test.YtiggelffmfinoaaA
import Derived.WalkLawsBesides
import Derived.Outline
import Derived.BigQuiet
import Derived.Deep.QuietTactic
namespace Go.Proofs.Ytiggelffmfinoaa
open Go.RowKit

set_option maxHeartbeats 400000 in
theorem within_w (n lo hi : Int) (w : World) : Calls Try.prog 30 #[.int .i64 n, .int .i64 lo, .int .i64 hi] w fun e w' => e = .returned (.bool (withinB n lo hi)) ∧ w = w' := by
  go_enter Try.func30, Try.ntmps30
  go_wp2
  all_goals go_ret
  all_goals exact ⟨ret_bool (by simp [withinB]; try omega), rfl⟩

set_option maxHeartbeats 400000 in
theorem within_r (n lo hi : Int) (w : World) : Calls Try.prog 73 #[.int .i64 n, .int .i64 lo, .int .i64 hi] w fun e w' => e = .returned (.bool (withinB n lo hi)) ∧ w = w' := by
  go_enter Try.func73, Try.ntmps73
  go_wp2
  all_goals go_ret
  all_goals exact ⟨ret_bool (by simp [withinB]; try omega), rfl⟩

/-- A slice of slices of integers, as it reads in a world. -/
def SlsAt (W : World) (a : Option Addr) (cs : List (List Int)) : Prop :=
  0 < cs.length → ∃ b off, a = some ⟨b, off, none⟩ ∧ b < W.heap.size ∧ ∀ (j : Nat) (c : List Int), cs[j]? = some c → ∃ (a' : Option Addr) (cap' : Nat), W.cell? ⟨b, off + j, none⟩ = some (Value.slice a' c.length cap') ∧ IntSl W a' c

theorem SlsAt.below {w w' : World} {a : Option Addr} {cs : List (List Int)} (h : SlsAt w a cs) (hb : Below w.heap.size w w') : SlsAt w' a cs := fun h0 => by
  obtain ⟨b, off, rfl, hbs, hc⟩ := h h0
  refine ⟨b, off, rfl, Nat.lt_of_lt_of_le hbs hb.size, fun j c hj => ?_⟩
  obtain ⟨a', cap', h1, h2⟩ := hc j c hj
  exact ⟨a', cap', (hb.cell (p := ⟨b, off + j, none⟩) hbs).trans h1, h2.below hb⟩


set_option maxHeartbeats 1000000 in
theorem every_int (a : Option Addr) (xs : List Int) (cap g : Nat) (lb : Array Value) (p : Int → Bool) (w : World) (hx : IntSl w a xs) (hl : xs.length ≤ 1000000)
    (eg : ∀ args w, (callFunc g args).run Try.prog w = .ok (.enter g args) w)
    (hg : ∀ x ∈ xs, ∀ W, Below w.heap.size w W → Calls Try.prog g (#[.int .i64 x] ++ lb) W fun e W' => e = .returned (.bool (p x)) ∧ Below W.heap.size W W') :
    Calls Try.prog 58 #[.slice a xs.length cap, .func (.func g) #[] lb] w fun e w' => e = .returned (.bool (xs.all p)) ∧ Below w.heap.size w w' := by
  have Hg := Lib.hid hg
  clear hg
  go_enter Try.func58, Try.ntmps58
  go_wp2
  go_loopw [9] (fun i wr => ∃ k : Nat, k ≤ xs.length ∧ i = .int .i64 k ∧ Hid ((xs.take k).all p = true) ∧ Below w.heap.size w wr) (fun i _ => xs.length - (intOf i).toNat)
  case atStart => exact ⟨0, Nat.zero_le _, rfl, by simp [Hid], Below.refl _ _⟩
  case round =>
    obtain ⟨k, hk, rfl, hall, hbw⟩ := hrel
    by_cases hlt : k < xs.length
    · obtain ⟨b, off, rfl, hbs, hc⟩ := hx (by omega)
      have hck := (hbw.cell (p := ⟨b, off + k, none⟩) hbs).trans ((hc k hlt).trans (by rw [List.getElem?_eq_getElem hlt]; rfl : _ = some (.int .i64 xs[k])))
      clear hc
      go_wp2_with fail
      refine (Hg.out xs[k] (List.getElem_mem hlt) _ hbw).mono ?_
      rintro e w1 ⟨rfl, hb1⟩
      have hb2 := below_self hbw hb1
      clear hbw hck hb1
      cases hp : p xs[k]
      · have HF := Lib.hid (all_false p xs k hlt hp)
        clear hp
        go_wp2
        go_ret
        exact ⟨by rw [HF.out]; rfl, hb2⟩
      · have HF := Lib.hid ((all_take_succ p xs k hlt).trans (by rw [hall.out, hp]))
        clear hp hall
        go_wp2
        go_roundw
        case rel => exact ⟨k + 1, by omega, by go_num, HF, hb2⟩
        case measure => simp [intOf]; omega
    · have : k = xs.length := by omega
      subst this
      rw [List.take_length] at hall
      go_wp2
      go_ret
      exact ⟨by rw [hall.out]; rfl, hbw⟩

set_option maxHeartbeats 1000000 in
theorem every_ints (a : Option Addr) (xs : List (List Int)) (cap g : Nat) (lb : Array Value) (p : (List Int) → Bool) (w : World) (hx : SlsAt w a xs) (hl : xs.length ≤ 1000000)
    (eg : ∀ args w, (callFunc g args).run Try.prog w = .ok (.enter g args) w)
    (hg : ∀ x ∈ xs, ∀ W, Below w.heap.size w W → ∀ a' cap', IntSl W a' x → Calls Try.prog g (#[Value.slice a' x.length cap'] ++ lb) W fun e W' => e = .returned (.bool (p x)) ∧ Below W.heap.size W W') :
    Calls Try.prog 45 #[.slice a xs.length cap, .func (.func g) #[] lb] w fun e w' => e = .returned (.bool (xs.all p)) ∧ Below w.heap.size w w' := by
  have Hg := Lib.hid hg
  clear hg
  go_enter Try.func45, Try.ntmps45
  go_wp2
  go_loopw [9] (fun i wr => ∃ k : Nat, k ≤ xs.length ∧ i = .int .i64 k ∧ Hid ((xs.take k).all p = true) ∧ Below w.heap.size w wr) (fun i _ => xs.length - (intOf i).toNat)
  case atStart => exact ⟨0, Nat.zero_le _, rfl, by simp [Hid], Below.refl _ _⟩
  case round =>
    obtain ⟨k, hk, rfl, hall, hbw⟩ := hrel
    by_cases hlt : k < xs.length
    · obtain ⟨b, off, rfl, hbs, hc⟩ := hx (by omega)
      obtain ⟨a', cap', hq, hs⟩ := hc k xs[k] (List.getElem?_eq_getElem hlt)
      have hck := (hbw.cell (p := ⟨b, off + k, none⟩) hbs).trans hq
      clear hc hq
      go_wp2_with fail
      refine (Hg.out xs[k] (List.getElem_mem hlt) _ hbw a' cap' (hs.below hbw)).mono ?_
      rintro e w1 ⟨rfl, hb1⟩
      have hb2 := below_self hbw hb1
      clear hbw hck hb1
      cases hp : p xs[k]
      · have HF := Lib.hid (all_false p xs k hlt hp)
        clear hp
        go_wp2
        go_ret
        exact ⟨by rw [HF.out]; rfl, hb2⟩
      · have HF := Lib.hid ((all_take_succ p xs k hlt).trans (by rw [hall.out, hp]))
        clear hp hall
        go_wp2
        go_roundw
        case rel => exact ⟨k + 1, by omega, by go_num, HF, hb2⟩
        case measure => simp [intOf]; omega
    · have : k = xs.length := by omega
      subst this
      rw [List.take_length] at hall
      go_wp2
      go_ret
      exact ⟨by rw [hall.out]; rfl, hbw⟩

def sumI (xs : List Int) : Int := xs.foldl (· + ·) 0
theorem sumI_snoc (xs : List Int) (x : Int) : sumI (xs ++ [x]) = sumI xs + x := by simp [sumI]
theorem sumI_take_succ (xs : List Int) (k : Nat) (h : k < xs.length) : sumI (xs.take (k + 1)) = sumI (xs.take k) + xs[k] := by
  rw [List.take_add_one, List.getElem?_eq_getElem h]; exact sumI_snoc _ _
theorem sumI_bd (xs : List Int) (m : Int) (hm : 0 ≤ m) (h : ∀ x ∈ xs, 0 ≤ x ∧ x ≤ m) (k : Nat) : 0 ≤ sumI (xs.take k) ∧ sumI (xs.take k) ≤ k * m := by
  induction k with
  | zero => simp [sumI]
  | succ k ih =>
    have e : ((k + 1 : Nat) : Int) * m = k * m + m := by rw [Int.natCast_add, Int.add_mul]; omega
    by_cases hk : k < xs.length
    · rw [sumI_take_succ xs k hk, e]
      have := h xs[k] (List.getElem_mem hk)
      omega
    · rw [List.take_of_length_le (by omega)] at ih ⊢
      omega
set_option maxHeartbeats 400000 in
theorem sum_any (a : Option Addr) (xs : List Int) (cap : Nat) (w : World) (hx : IntSl w a xs) (hl : xs.length ≤ 1000000) (hb : ∀ x ∈ xs, 0 ≤ x ∧ x ≤ 1000000000) :
    Calls Try.prog 29 #[.slice a xs.length cap] w fun e w' => e = .returned (.int .i64 (sumI xs)) ∧ w = w' := by
  go_enter Try.func29, Try.ntmps29
  go_wp2
  go_loop [3, 8] (fun t i => ∃ k : Nat, k ≤ xs.length ∧ i = .int .i64 k ∧ t = .int .i64 (sumI (xs.take k))) (fun _ i => xs.length - (intOf i).toNat)
  case atStart => exact ⟨0, Nat.zero_le _, rfl, rfl⟩
  case round =>
    obtain ⟨k, hk, rfl, rfl⟩ := hrel
    by_cases hlt : k < xs.length
    · obtain ⟨b, off, rfl, hbs, hc⟩ := hx (by omega)
      have hck := hc k hlt
      clear hc
      have h1 := sumI_bd xs 1000000000 (by omega) hb k
      have h2 := hb xs[k] (List.getElem_mem hlt)
      have HS := Lib.hid (sumI_take_succ xs k hlt)
      obtain ⟨h3, h4⟩ := h1
      obtain ⟨h5, h6⟩ := h2
      have h7 : sumI (xs.take k) ≤ 1000000000000000 := by omega
      clear h4 hb
      go_wp2
      go_round
      case rel => exact ⟨k + 1, by omega, by go_num, by rw [HS.out]⟩
      case measure => simp [intOf]; omega
    · have : k = xs.length := by omega
      subst this
      go_wp2
      go_ret
      exact ⟨ret_int (by simp), rfl⟩

end Go.Proofs.Ytiggelffmfinoaa
