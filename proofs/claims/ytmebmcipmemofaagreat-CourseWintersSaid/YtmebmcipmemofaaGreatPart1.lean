/-
The contracts of small functions of package course over this seat's program.
  What is proved: what each call returns, and that nothing that was there before it has turned.
  Conditions: slices of at most 1000000 elements.
-/
import Derived.Test.YtmebmcipmemofaaGreatProg
import Derived.Test.YtmebmcipmemofaaGreatPart0
import Derived.WalkLawsBesides
import Derived.Outline
import Derived.BigQuiet
import Derived.Deep.QuietTactic
namespace Go.Proofs.YtmebmcipmemofaaGreat
open Go.RowKit

set_option maxHeartbeats 400000 in
theorem within_any (n lo hi : Int) (w : World) : Calls Tryz.prog 79 #[.int .i64 n, .int .i64 lo, .int .i64 hi] w fun e w' => e = .returned (.bool (withinB n lo hi)) ∧ w = w' := by
  go_enter Tryz.func79, Tryz.ntmps79
  go_wp2
  all_goals go_ret
  all_goals exact ⟨ret_bool (by simp [withinB]; try omega), rfl⟩

set_option maxHeartbeats 400000 in
theorem inside_any (n : Int) (s : Sp) (w : World) : Calls Tryz.prog 147 #[.int .i64 n, s.v] w fun e w' => e = .returned (.bool (insideB n s)) ∧ Below w.heap.size w w' := by
  go_enter Tryz.func147, Tryz.ntmps147
  go_wp2_with fail
  refine (within_any _ _ _ _).mono ?_
  rintro e w' ⟨rfl, rfl⟩
  go_wp2
  go_ret
  exact ⟨rfl, (Below.refl _ _).alloc (Nat.le_refl _) _⟩

set_option maxHeartbeats 400000 in
theorem bounded_any (s : Sp) (m : Int) (w : World) : Calls Tryz.prog 90 #[s.v, .int .i64 m] w fun e w' => e = .returned (.bool (boundedB s m)) ∧ Below w.heap.size w w' := by
  go_enter Tryz.func90, Tryz.ntmps90
  go_wp2
  all_goals go_ret
  all_goals exact ⟨ret_bool (by first | (simp [boundedB, *]; done) | (simp [boundedB, *]; omega)), (Below.refl _ _).alloc (Nat.le_refl _) _⟩

set_option maxHeartbeats 400000 in
theorem allowed_any (x : Lp) (w : World) : Calls Tryz.prog 127 #[x.v] w fun e w' => e = .returned (.bool (allowedB x)) ∧ Below w.heap.size w w' := by
  go_enter Tryz.func127, Tryz.ntmps127
  go_wp2_with (go_at_call 79; refine (within_any _ _ _ _).mono ?_; rintro e w' ⟨rfl, rfl⟩)
  all_goals go_ret
  all_goals exact ⟨ret_bool (by simp [allowedB, *]), (Below.refl _ _).alloc (Nat.le_refl _) _⟩

set_option maxHeartbeats 400000 in
theorem check1_any (s : Sp) (w : World) : Calls Tryz.prog 107 #[s.v] w fun e w' => e = .returned (.bool (boundedB s 200000)) ∧ Below w.heap.size w w' := by
  go_enter Tryz.func107, Tryz.ntmps107
  go_wp2_with fail
  refine (bounded_any s _ _).mono ?_
  rintro e w1 ⟨rfl, hb⟩
  go_wp2
  go_ret
  exact ⟨rfl, below_self ((Below.refl _ _).alloc (Nat.le_refl _) _) hb⟩

set_option maxHeartbeats 1000000 in
theorem every_int (a : Option Addr) (xs : List Int) (cap g : Nat) (lb : Array Value) (p : Int → Bool) (w : World) (hx : IntSl w a xs) (hl : xs.length ≤ 1000000)
    (eg : ∀ args w, (callFunc g args).run Tryz.prog w = .ok (.enter g args) w)
    (hg : ∀ x ∈ xs, ∀ W, Below w.heap.size w W → Calls Tryz.prog g (#[.int .i64 x] ++ lb) W fun e W' => e = .returned (.bool (p x)) ∧ Below W.heap.size W W') :
    Calls Tryz.prog 128 #[.slice a xs.length cap, .func (.func g) #[] lb] w fun e w' => e = .returned (.bool (xs.all p)) ∧ Below w.heap.size w w' := by
  have Hg := Lib.hid hg
  clear hg
  go_enter Tryz.func128, Tryz.ntmps128
  go_wp2
  go_loopw [9] (fun i wr => ∃ k : Nat, k ≤ xs.length ∧ i = .int .i64 k ∧ Hid ((xs.take k).all p = true) ∧ Below w.heap.size w wr) (fun i _ => xs.length - (intOf i).toNat)
  case atStart => exact ⟨0, Nat.zero_le _, rfl, by simp [Hid], Below.refl _ _⟩
  case round =>
    obtain ⟨k, hk, rfl, hall, hbw⟩ := hrel
    by_cases hlt : k < xs.length
    · obtain ⟨b, off, rfl, hbs, hc⟩ := hx (by omega)
      have hck := (hbw.cell (p := ⟨b, off + k, none⟩) hbs).trans (hc k hlt)
      clear hc
      go_wp2_with fail
      refine (Hg.out _ (List.getElem_mem hlt) _ (hbw)).mono ?_
      rintro e w1 ⟨rfl, hb1⟩
      have hb2 := below_self (hbw) hb1
      clear hbw hck hb1
      cases hp : p xs[k]
      · have HF := Lib.hid (all_false p xs k hlt hp)
        clear hp
        go_wp2
        go_ret
        exact ⟨by rw [HF.out]; rfl, hb2⟩
      · have HF := Lib.hid ((all_take_succ p xs k hlt).trans (by rw [hall.out, hp]))
        clear hp hall
        go_wp2
        go_roundw
        case rel => exact ⟨k + 1, by omega, by go_num, HF, hb2⟩
        case measure => simp [intOf]; omega
    · have : k = xs.length := by omega
      subst this
      rw [List.take_length] at hall
      go_wp2
      go_ret
      exact ⟨by rw [hall.out]; rfl, hbw⟩

set_option maxHeartbeats 1000000 in
theorem every_loop (a : Option Addr) (xs : List Lp) (cap g : Nat) (lb : Array Value) (p : Lp → Bool) (w : World) (hx : Sl 3 Lp.cells w a xs) (hl : xs.length ≤ 1000000)
    (eg : ∀ args w, (callFunc g args).run Tryz.prog w = .ok (.enter g args) w)
    (hg : ∀ x ∈ xs, ∀ W, Below w.heap.size w W → Calls Tryz.prog g (#[Lp.v x] ++ lb) W fun e W' => e = .returned (.bool (p x)) ∧ Below W.heap.size W W') :
    Calls Tryz.prog 126 #[.slice a xs.length cap, .func (.func g) #[] lb] w fun e w' => e = .returned (.bool (xs.all p)) ∧ Below w.heap.size w w' := by
  have Hg := Lib.hid hg
  clear hg
  go_enter Tryz.func126, Tryz.ntmps126
  go_wp2
  go_loopw [9] (fun i wr => ∃ k : Nat, k ≤ xs.length ∧ i = .int .i64 k ∧ Hid ((xs.take k).all p = true) ∧ Below w.heap.size w wr) (fun i _ => xs.length - (intOf i).toNat)
  case atStart => exact ⟨0, Nat.zero_le _, rfl, by simp [Hid], Below.refl _ _⟩
  case round =>
    obtain ⟨k, hk, rfl, hall, hbw⟩ := hrel
    by_cases hlt : k < xs.length
    · obtain ⟨b, off, rfl, hbs, hc⟩ := hx (by omega)
      have hc0 := (hbw.cell (p := ⟨b, off + k * 3, none⟩) hbs).trans (hc k xs[k] 0 _ (List.getElem?_eq_getElem hlt) rfl)
      have hc1 := (hbw.cell (p := ⟨b, off + k * 3 + 1, none⟩) hbs).trans (hc k xs[k] 1 _ (List.getElem?_eq_getElem hlt) rfl)
      have hc2 := (hbw.cell (p := ⟨b, off + k * 3 + 2, none⟩) hbs).trans (hc k xs[k] 2 _ (List.getElem?_eq_getElem hlt) rfl)
      clear hc
      go_wp2_with fail
      refine (Hg.out xs[k] (List.getElem_mem hlt) _ (hbw.alloc hbw.size _)).mono ?_
      rintro e w1 ⟨rfl, hb1⟩
      have hb2 := below_self (hbw.alloc hbw.size _) hb1
      clear hbw hc0 hc1 hc2 hb1
      cases hp : p xs[k]
      · have HF := Lib.hid (all_false p xs k hlt hp)
        clear hp
        go_wp2
        go_ret
        exact ⟨by rw [HF.out]; rfl, hb2⟩
      · have HF := Lib.hid ((all_take_succ p xs k hlt).trans (by rw [hall.out, hp]))
        clear hp hall
        go_wp2
        go_roundw
        case rel => exact ⟨k + 1, by omega, by go_num, HF, hb2⟩
        case measure => simp [intOf]; omega
    · have : k = xs.length := by omega
      subst this
      rw [List.take_length] at hall
      go_wp2
      go_ret
      exact ⟨by rw [hall.out]; rfl, hbw⟩

set_option maxHeartbeats 1000000 in
theorem every_span (a : Option Addr) (xs : List Sp) (cap g : Nat) (lb : Array Value) (p : Sp → Bool) (w : World) (hx : Sl 2 Sp.cells w a xs) (hl : xs.length ≤ 1000000)
    (eg : ∀ args w, (callFunc g args).run Tryz.prog w = .ok (.enter g args) w)
    (hg : ∀ x ∈ xs, ∀ W, Below w.heap.size w W → Calls Tryz.prog g (#[Sp.v x] ++ lb) W fun e W' => e = .returned (.bool (p x)) ∧ Below W.heap.size W W') :
    Calls Tryz.prog 106 #[.slice a xs.length cap, .func (.func g) #[] lb] w fun e w' => e = .returned (.bool (xs.all p)) ∧ Below w.heap.size w w' := by
  have Hg := Lib.hid hg
  clear hg
  go_enter Tryz.func106, Tryz.ntmps106
  go_wp2
  go_loopw [9] (fun i wr => ∃ k : Nat, k ≤ xs.length ∧ i = .int .i64 k ∧ Hid ((xs.take k).all p = true) ∧ Below w.heap.size w wr) (fun i _ => xs.length - (intOf i).toNat)
  case atStart => exact ⟨0, Nat.zero_le _, rfl, by simp [Hid], Below.refl _ _⟩
  case round =>
    obtain ⟨k, hk, rfl, hall, hbw⟩ := hrel
    by_cases hlt : k < xs.length
    · obtain ⟨b, off, rfl, hbs, hc⟩ := hx (by omega)
      have hc0 := (hbw.cell (p := ⟨b, off + k * 2, none⟩) hbs).trans (hc k xs[k] 0 _ (List.getElem?_eq_getElem hlt) rfl)
      have hc1 := (hbw.cell (p := ⟨b, off + k * 2 + 1, none⟩) hbs).trans (hc k xs[k] 1 _ (List.getElem?_eq_getElem hlt) rfl)
      clear hc
      go_wp2_with fail
      refine (Hg.out xs[k] (List.getElem_mem hlt) _ (hbw.alloc hbw.size _)).mono ?_
      rintro e w1 ⟨rfl, hb1⟩
      have hb2 := below_self (hbw.alloc hbw.size _) hb1
      clear hbw hc0 hc1 hb1
      cases hp : p xs[k]
      · have HF := Lib.hid (all_false p xs k hlt hp)
        clear hp
        go_wp2
        go_ret
        exact ⟨by rw [HF.out]; rfl, hb2⟩
      · have HF := Lib.hid ((all_take_succ p xs k hlt).trans (by rw [hall.out, hp]))
        clear hp hall
        go_wp2
        go_roundw
        case rel => exact ⟨k + 1, by omega, by go_num, HF, hb2⟩
        case measure => simp [intOf]; omega
    · have : k = xs.length := by omega
      subst this
      rw [List.take_length] at hall
      go_wp2
      go_ret
      exact ⟨by rw [hall.out]; rfl, hbw⟩


set_option maxHeartbeats 1000000 in
theorem every_day (a : Option Addr) (xs : List Dy) (cap g : Nat) (lb : Array Value) (p : Dy → Bool) (w : World) (hx : Sl 6 Dy.cells w a xs) (hl : xs.length ≤ 1000000)
    (eg : ∀ args w, (callFunc g args).run Tryz.prog w = .ok (.enter g args) w)
    (hg : ∀ x ∈ xs, ∀ W, Below w.heap.size w W → Calls Tryz.prog g (#[Dy.v x] ++ lb) W fun e W' => e = .returned (.bool (p x)) ∧ Below W.heap.size W W') :
    Calls Tryz.prog 91 #[.slice a xs.length cap, .func (.func g) #[] lb] w fun e w' => e = .returned (.bool (xs.all p)) ∧ Below w.heap.size w w' := by
  have Hg := Lib.hid hg
  clear hg
  go_enter Tryz.func91, Tryz.ntmps91
  go_wp2
  go_loopw [9] (fun i wr => ∃ k : Nat, k ≤ xs.length ∧ i = .int .i64 k ∧ Hid ((xs.take k).all p = true) ∧ Below w.heap.size w wr) (fun i _ => xs.length - (intOf i).toNat)
  case atStart => exact ⟨0, Nat.zero_le _, rfl, by simp [Hid], Below.refl _ _⟩
  case round =>
    obtain ⟨k, hk, rfl, hall, hbw⟩ := hrel
    by_cases hlt : k < xs.length
    · obtain ⟨b, off, rfl, hbs, hc⟩ := hx (by omega)
      have hc0 := (hbw.cell (p := ⟨b, off + k * 6, none⟩) hbs).trans (hc k xs[k] 0 _ (List.getElem?_eq_getElem hlt) rfl)
      have hc1 := (hbw.cell (p := ⟨b, off + k * 6 + 1, none⟩) hbs).trans (hc k xs[k] 1 _ (List.getElem?_eq_getElem hlt) rfl)
      have hc2 := (hbw.cell (p := ⟨b, off + k * 6 + 2, none⟩) hbs).trans (hc k xs[k] 2 _ (List.getElem?_eq_getElem hlt) rfl)
      have hc3 := (hbw.cell (p := ⟨b, off + k * 6 + 3, none⟩) hbs).trans (hc k xs[k] 3 _ (List.getElem?_eq_getElem hlt) rfl)
      have hc4 := (hbw.cell (p := ⟨b, off + k * 6 + 4, none⟩) hbs).trans (hc k xs[k] 4 _ (List.getElem?_eq_getElem hlt) rfl)
      have hc5 := (hbw.cell (p := ⟨b, off + k * 6 + 5, none⟩) hbs).trans (hc k xs[k] 5 _ (List.getElem?_eq_getElem hlt) rfl)
      clear hc
      go_wp2_with fail
      refine (Hg.out xs[k] (List.getElem_mem hlt) _ (hbw.alloc hbw.size _)).mono ?_
      rintro e w1 ⟨rfl, hb1⟩
      have hb2 := below_self (hbw.alloc hbw.size _) hb1
      clear hbw hc0 hc1 hc2 hc3 hc4 hc5 hb1
      cases hp : p xs[k]
      · have HF := Lib.hid (all_false p xs k hlt hp)
        clear hp
        go_wp2
        go_ret
        exact ⟨by rw [HF.out]; rfl, hb2⟩
      · have HF := Lib.hid ((all_take_succ p xs k hlt).trans (by rw [hall.out, hp]))
        clear hp hall
        go_wp2
        go_roundw
        case rel => exact ⟨k + 1, by omega, by go_num, HF, hb2⟩
        case measure => simp [intOf]; omega
    · have : k = xs.length := by omega
      subst this
      rw [List.take_length] at hall
      go_wp2
      go_ret
      exact ⟨by rw [hall.out]; rfl, hbw⟩

end Go.Proofs.YtmebmcipmemofaaGreat
