/-
  The contract of least over this seat's program.
  What is proved: it answers the least number from lo to hi that is enough, or the error.
  Conditions: at most 1000001 numbers; a function that answers true for all numbers that are greater than one for which it does.
-/
import Derived.Test.YtkmcdmidegcbaaaAC
import Derived.IntWalk
namespace Go.Proofs.Ytkmcdmidegcbaaa
open Go.RowKit Go.Shelf
attribute [local go_sem] Oper.semAt_some

theorem eg137 : ∀ args w, (callFunc 137 args).run Try.prog w = .ok (.enter 137 args) w := enters_of Try.func137 (by kernel_rfl) rfl
theorem least1_any (lo : Int) (i g Be Bl : Nat) (lb : Array Value) (b : Bool) (w : World) (hb : -1000000000 ≤ lo ∧ lo ≤ 1000000000) (hi : i ≤ 2000000)
    (eg : ∀ args w, (callFunc g args).run Try.prog w = .ok (.enter g args) w)
    (he : w.cell? ⟨Be, 0, none⟩ = some (.func (.func g) #[] lb)) (hl : w.cell? ⟨Bl, 0, none⟩ = some (.int .i64 lo))
    (hg : Calls Try.prog g (#[.int .i64 (lo + i)] ++ lb) w fun e W' => e = .returned (.bool b) ∧ Below w.heap.size w W') :
    Calls Try.prog 137 #[.int .i64 i, .pointer (some ⟨Be, 0, none⟩), .pointer (some ⟨Bl, 0, none⟩)] w fun e w' => e = .returned (.bool b) ∧ Below w.heap.size w w' := by
  have Hg := Lib.hid hg
  clear hg
  go_enter Try.func137, Try.ntmps137
  go_wp2_with (fail)
  refine Hg.out.mono ?_
  rintro e w1 ⟨rfl, hb1⟩
  go_wp2
  go_ret
  exact ⟨rfl, hb1⟩

set_option maxHeartbeats 1000000 in
theorem least_any (lo hi : Int) (g : Nat) (lb : Array Value) (q : Int → Bool) (w : World) (hb : 0 ≤ lo ∧ lo ≤ hi ∧ hi ≤ 1000000)
    (eg : ∀ args w, (callFunc g args).run Try.prog w = .ok (.enter g args) w)
    (hm : ∀ s t, lo ≤ s → s ≤ t → t ≤ hi → q s = true → q t = true)
    (hg : ∀ v, lo ≤ v → v ≤ hi → ∀ W, Below w.heap.size w W → Calls Try.prog g (#[.int .i64 v] ++ lb) W fun e W' => e = .returned (.bool (q v)) ∧ Below W.heap.size W W') :
    Calls Try.prog 96 #[.int .i64 lo, .int .i64 hi, .func (.func g) #[] lb] w fun e w' => (∃ r : Nat, LeastOf (hi - lo + 1).toNat (fun t => q (lo + t)) r ∧ e = .returned (if lo + r ≤ hi then .tuple #[.int .i64 (lo + r), .int .i64 0] else .tuple #[.int .i64 0, .int .i64 6])) ∧ Below w.heap.size w w' := by
  have Hg := Lib.hid hg
  have Hm := Lib.hid hm
  clear hg hm
  obtain ⟨Wa, hWa⟩ : ∃ Wa, (w.alloc (.cells #[.int .i64 lo] 3)).alloc (.cells #[.func (.func g) #[] lb] 165) = Wa := ⟨_, rfl⟩
  have hba : Below w.heap.size w Wa := by rw [← hWa]; exact ((Below.refl _ _).alloc (Nat.le_refl _) _).alloc (by simp) _
  have h0 : Wa.heap[w.heap.size]? = some (.cells #[.int .i64 lo] 3 (0, 0)) := by rw [← hWa]; exact alk (new_at rfl)
  have h1 : Wa.heap[w.heap.size + 1]? = some (.cells #[.func (.func g) #[] lb] 165 (0, 0)) := by rw [← hWa]; exact new_at (by simp)
  have c0 := blk_cell h0 0 rfl
  obtain ⟨n, hn⟩ : ∃ n : Nat, hi - lo + 1 = (n : Int) := ⟨(hi - lo + 1).toNat, by omega⟩
  have HA := Lib.hid (And.intro hba (And.intro h0 h1))
  clear hba h0 h1
  go_enter Try.func96, Try.ntmps96
  go_wp2_with (fail)
  have HMN : Hid (∀ s t : Nat, s ≤ t → t < n → q (lo + s) = true → q (lo + t) = true) := fun s t h1 h2 h3 => Hm.out _ _ (by omega) (by omega) (by omega) h3
  have hw1 : IntKind.i64.wrap (hi - lo) = hi - lo := IntWalk.i64_in _ (by omega)
  have hw2 : IntKind.i64.wrap (hi - lo + 1) = (n : Int) := by rw [hn]; exact IntWalk.i64_in _ (by omega)
  have hn1 : n ≤ 1000001 := by omega
  have HNN := Lib.hid hn
  have HBD := Lib.hid hb
  clear hn
  go_region_held3 (fun w' => w'.cell? ⟨w.heap.size, 0, none⟩ = some (.int .i64 lo)) (go_keep)
    (first
      | (go_at_call 136; refine (search_any n 137 #[.pointer (some ⟨w.heap.size + 1, 0, none⟩), .pointer (some ⟨w.heap.size, 0, none⟩)] (fun t => q (lo + t)) _ (by omega) HMN.out eg137 (fun h hh W hW => least1_any lo h g (w.heap.size + 1) w.heap.size lb _ W (by omega) (by omega) eg (blk_cell (blk_below (w := Wa.drew) HA.out.2.2 hW) 0 rfl) (blk_cell (blk_below (w := Wa.drew) HA.out.2.1 hW) 0 rfl) (Hg.out _ (by omega) (by have := HNN.out; omega) W (below_self HA.out.1.drew hW)))).mono ?_; rintro e w1 ⟨⟨r, rfl, hr⟩, hb1⟩; have hb1' : Below Wa.heap.size Wa w1 := ⟨hb1.os, hb1.tape, hb1.output, hb1.size, hb1.block⟩; have e0 := blk_cell (blk_below HA.out.2.1 hb1') 0 rfl; have hrn := hr.1; have hw3 : IntKind.i64.wrap (lo + r) = lo + r := IntWalk.i64_in _ (by omega)))
  all_goals (
    have HR := Lib.hid hr
    have HB1 : Hid (Below w.heap.size w w1) := below_self HA.out.1 hb1'
    have HLE : Hid (LeastOf (hi - lo + 1).toNat (fun t => q (lo + t)) r) := by show LeastOf _ _ _; rw [HNN.out, Int.toNat_natCast]; exact HR.out
    clear hr hb1 hb1' e0 hw1 hw2
    by_cases hgt : lo + (r : Int) ≤ hi
    · go_wp2
      refine bodyPost_ret (v := .tuple #[.int .i64 (lo + r), .int .i64 0]) (by simp [results, Try.results96, go_sem]) rfl ?_
      exact ⟨⟨r, HLE.out, by rw [if_pos hgt]⟩, HB1.out⟩
    · go_wp2
      refine bodyPost_ret (v := .tuple #[.int .i64 0, .int .i64 6]) (by simp [results, Try.results96, go_sem]) rfl ?_
      exact ⟨⟨r, HLE.out, by rw [if_neg (by omega)]⟩, HB1.out⟩)
end Go.Proofs.Ytkmcdmidegcbaaa
