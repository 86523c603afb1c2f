/-
  The contracts of All and of area, snow and has over this seat's program.
  What is proved: what each call returns; nothing that was there before has turned.
  Conditions: slices of at most 1000000 elements.
-/
import Derived.Test.YtkmcdmidegcbaaaO
namespace Go.Proofs.Ytkmcdmidegcbaaa
open Go.RowKit

theorem eg81 : ∀ args w, (callFunc 81 args).run Try.prog w = .ok (.enter 81 args) w := enters_of Try.func81 (by kernel_rfl) rfl

set_option maxHeartbeats 400000 in
theorem all1_any (a : Option Addr) (n cap : Nat) (w : World) : Calls Try.prog 81 #[.slice a n cap] w fun e w' => e = .returned (.bool true) ∧ w = w' := by
  go_enter Try.func81, Try.ntmps81
  go_wp2
  go_ret
  exact ⟨rfl, rfl⟩

/-- The right courses. -/
def rightL (xs : List Lp) (r : Ru) : List (List Int) := (extC xs.length r.laps.toNat [] 0).filter (okC xs r)
def allR (xs : List Lp) (r : Ru) : List (List Int) × Int :=
  if checkE xs r = 0 then (if (rightL xs r).length ≤ 300 then rightL xs r else [], if (rightL xs r).length ≤ 300 then 0 else 10) else ([], checkE xs r)
def AllOut (xs : List Lp) (r : Ru) (w : World) (e : Ending) (w' : World) : Prop := OutCs w (allR xs r).1 (allR xs r).2 e w'

theorem laps_nat {xs : List Lp} {r : Ru} (h : checkE xs r = 0) : r.laps = (r.laps.toNat : Nat) ∧ 1 ≤ r.laps.toNat ∧ r.laps.toNat ≤ 6 := by
  have := (check_ok h).2; simp [rulesB, withinB] at this; omega

set_option maxHeartbeats 600000 in
set_option maxRecDepth 100000 in
theorem all_any (a : Option Addr) (xs : List Lp) (cap : Nat) (r : Ru) (w : World) (hx : Sl 3 Lp.cells w a xs) (hl : xs.length ≤ 1000000) :
    Calls Try.prog 27 #[.slice a xs.length cap, r.v] w (AllOut xs r w) := by
  have hB0 : Below w.heap.size w (w.alloc r.o) := (Below.refl _ _).alloc (Nat.le_refl _) _
  have hR0 : RuAt (w.alloc r.o) w.heap.size r := heap_alloc_new _ _
  go_enter Try.func27, Try.ntmps27
  go_wp2_with fail
  refine (check_any a xs cap r _ (hx.below hB0) hl).mono ?_
  rintro e w1 ⟨rfl, hb⟩
  have hb1 := below_self hB0 hb
  have hR1 := hR0.below hb
  by_cases h1 : checkE xs r = 0
  · have h1b : (checkE xs r != 0) = false := by simp [h1]
    have HR : Hid (allR xs r = (if (rightL xs r).length ≤ 300 then rightL xs r else [], if (rightL xs r).length ≤ 300 then 0 else 10)) := by show _ = _; rw [allR, if_pos h1]
    have H1 := Lib.hid h1
    clear h1
    obtain ⟨c0, c1, c2, c3, c4, c5, c6, c7, c8⟩ := hR1.cells
    go_wp2_with fail
    refine (callsIn_wide.1 (chosen_in 0 a xs cap r 81 r.laps.toNat #[] (fun _ => true) _ (hx.below hb1) H1.out (laps_nat H1.out).1 eg81 (fun c _ av ccap W _ _ => (all1_any av c.length ccap W).mono fun e W' h => ⟨h.1, h.2 ▸ Below.refl _ _⟩) (rightL xs r) (by simp [rightL]))).mono ?_
    rintro e w2 ⟨a2, cap2, he, hS, hb2⟩
    generalize (if (rightL xs r).length ≤ 300 then rightL xs r else []) = L at he hS HR
    generalize (if (rightL xs r).length ≤ 300 then (0 : Int) else 10) = E at he HR
    subst he
    go_wp2
    go_ret2
    show OutCs w (allR xs r).1 (allR xs r).2 _ _
    rw [HR.out]
    exact ⟨a2, cap2, rfl, hS, below_self hb1 hb2⟩
  · have h1b : (checkE xs r != 0) = true := by simp [h1]
    have HR : Hid (allR xs r = ([], checkE xs r)) := by show _ = _; rw [allR, if_neg h1]
    clear h1
    go_wp2
    go_ret2
    show OutCs w (allR xs r).1 (allR xs r).2 _ _
    rw [HR.out]
    exact ⟨none, 0, rfl, fun h => by simp at h, hb1⟩
end Go.Proofs.Ytkmcdmidegcbaaa
