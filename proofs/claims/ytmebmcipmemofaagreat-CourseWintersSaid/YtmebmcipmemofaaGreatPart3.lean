/-
The contracts of mapped, sum and the small closures of judge over this seat's program.
  What is proved: what each call returns, and that nothing that was there before it has turned.
  Conditions: slices of at most 1000000 elements; numbers that do not overflow.
-/
import Derived.Test.YtmebmcipmemofaaGreatPart2
import Derived.Maps.AppendAt
namespace Go.Proofs.YtmebmcipmemofaaGreat
open Go.RowKit

theorem Tryz.info3 : (Tryz.prog.info? 3).map (fun i => (i.zero, i.size, i.bytes)) = some (some (.int .i64 0), 1, 8) := by kernel_rfl

/-- A call that hands back a slice of integers; nothing that was there before it has turned. -/
def OutInts (w : World) (ys : List Int) (e : Ending) (w' : World) : Prop := ∃ a cap, e = .returned (.slice a ys.length cap) ∧ IntSl w' a ys ∧ (∀ p, a = some p → w.heap.size ≤ p.block) ∧ Below w.heap.size w w'

theorem grown_of_below {w w' : World} (h : Below w.heap.size w w') (row : Option Nat) : w.grownBy w' row := ⟨h.os, h.tape, h.output, h.size, fun k hk _ => h.block k hk⟩
theorem owns_below {w w' : World} {base : Nat} {e : TypeId} {size : Nat} {v : Value} {n : Nat} {xs : List Value} (h : w.ownsRow base e size v n xs) (hb : Below w.heap.size w w') : w'.ownsRow base e size v n xs :=
  h.kept (grown_of_below hb none) (by cases hv : v.ownBlock <;> simp)

theorem ints_of_owns {w : World} {base e : Nat} {v : Value} {n : Nat} {ys : List Int} (h : w.ownsRow base e 1 v n (ys.map (Value.int .i64))) : ∃ a cap, v = .slice a ys.length cap ∧ IntSl w a ys ∧ (∀ p, a = some p → base ≤ p.block) := by
  have hl : ys.length = n := by have := h.1; simpa using this
  subst hl
  rcases h.2 with ⟨rfl, h0⟩ | ⟨g, cap, cur, rfl, hb, hg, hnc, hcm, hcs, htake⟩
  · exact ⟨none, 0, by rw [h0], fun hp => by omega, fun p hp => by cases hp⟩
  · refine ⟨some ⟨g, 0, none⟩, cap, rfl, fun hp => ⟨g, 0, rfl, lt_of_block hg, fun j hj => ?_⟩, fun p hp => by cases hp; exact hb⟩
    have hc := h.cells (g := g) rfl j (.int .i64 (ys[j]?.getD 0)) (by simp [hj])
    have : (⟨g, 0, none⟩ : Addr).add j = ⟨g, 0 + j, none⟩ := by unfold Addr.add; split <;> simp_all
    rwa [this] at hc

theorem map_take_succ {α β : Type} (h : α → β) (xs : List α) (k : Nat) (hk : k < xs.length) : (xs.take (k + 1)).map h = (xs.take k).map h ++ [h xs[k]] := by
  rw [List.take_add_one, List.getElem?_eq_getElem hk, List.map_append]; rfl

set_option maxHeartbeats 1000000 in
theorem mapped_int (a : Option Addr) (xs : List Int) (cap g : Nat) (lb : Array Value) (f : Int → Int) (w : World) (hx : IntSl w a xs) (hl : xs.length ≤ 1000000)
    (eg : ∀ args w, (callFunc g args).run Tryz.prog w = .ok (.enter g args) w)
    (hg : ∀ x ∈ xs, ∀ W, Below w.heap.size w W → Calls Tryz.prog g (#[.int .i64 x] ++ lb) W fun e W' => e = .returned (.int .i64 (f x)) ∧ Below W.heap.size W W') :
    Calls Tryz.prog 144 #[.slice a xs.length cap, .func (.func g) #[] lb] w (OutInts w (xs.map f)) := by
  have Hg := Lib.hid hg
  clear hg
  obtain ⟨i0, hi, hz0, hz1, hz2⟩ := info_parts Tryz.info3
  go_enter Tryz.func144, Tryz.ntmps144
  go_wp2_with (at_make; refine wpList_make_own _ rfl _ _ 27 rfl w.heap.size 3 i0 (.int .i64 0) 1 Tryz.underlying27 hi hz0 hz1 _ _ _ xs.length rfl rfl (by omega) ?b2 ?b3 (Nat.le_refl _) ?_)
  case b2 => rw [hz2]; omega
  case b3 => unfold maxLen; omega
  intro w0 hown0 hgrow0
  have hb0 : Below w.heap.size w w0 := (Below.refl _ _).grown hgrow0 (Nat.le_refl _) (fun k h => by cases h)
  clear hgrow0
  go_wp2
  go_loopw [5, 13] (fun v i wr => ∃ k : Nat, k ≤ xs.length ∧ i = .int .i64 k ∧ wr.ownsRow w.heap.size 3 1 v k (((xs.take k).map f).map (Value.int .i64)) ∧ Below w.heap.size w wr) (fun _ i _ => xs.length - (intOf i).toNat)
  case atStart => exact ⟨0, Nat.zero_le _, rfl, hown0, hb0⟩
  case round =>
    obtain ⟨k, hk, rfl, hown, hbw⟩ := hrel
    by_cases hlt : k < xs.length
    · obtain ⟨b, off, rfl, hbs, hc⟩ := hx (by omega)
      have hck := (hbw.cell (p := ⟨b, off + k, none⟩) hbs).trans (hc k hlt)
      clear hc
      go_wp2_with fail
      refine (Hg.out _ (List.getElem_mem hlt) _ hbw).mono ?_
      rintro e w1 ⟨rfl, hb1⟩
      have hb2 := below_self hbw hb1
      have hown1 := owns_below hown hb1
      clear hbw hck hb1 hown
      go_wp2_with (at_builtin; refine wpList_append_own _ rfl _ _ 27 rfl w.heap.size 3 i0 (.int .i64 0) 1 8 Tryz.underlying27 hi hz0 hz1 hz2 rfl (by decide) _ _ _ rfl (hown1.alloc _) ⟨w1.heap.size, 0, none⟩ 1 1 [.int .i64 (f xs[k])] rfl rfl ?c1 ?c2 ?c3 ?c4 ?c5 ?_)
      case c1 => exact cell_one_new _ _ _
      case c2 => intro u hu; simp at hu; subst hu; rfl
      case c3 => unfold maxLen; omega
      case c4 => omega
      case c5 => have := hb2.size; simp; omega
      intro v' w2 hown2 hgrow2 _
      have hb3 : Below w.heap.size w w2 := (hb2.alloc hb2.size _).grown hgrow2 (by have := hb2.size; simp; omega) (fun j hj => (hown1.lt j hj).1)
      have hown3 : w2.ownsRow w.heap.size 3 1 v' (k + 1) (((xs.take (k+1)).map f).map (Value.int .i64)) := by
        have e : ((xs.take (k + 1)).map f).map (Value.int .i64) = (xs.map (Value.int .i64 ∘ f)).take k ++ [.int .i64 (f xs[k])] := by
          rw [map_take_succ f xs k hlt, List.map_append]; simp
        rw [e]; exact hown2
      clear hown2 hgrow2 hown1 hb2
      go_wp2
      go_roundw
      case rel => exact ⟨k + 1, by omega, by go_num, hown3, hb3⟩
      case measure => simp [intOf]; omega
    · have : k = xs.length := by omega
      subst this
      rw [List.take_length] at hown
      obtain ⟨a', cap', rfl, hs, hfr⟩ := ints_of_owns hown
      go_wp2
      go_ret
      exact ⟨a', cap', rfl, hs, hfr, hbw⟩

def sumI (xs : List Int) : Int := xs.foldl (· + ·) 0
theorem sumI_snoc (xs : List Int) (x : Int) : sumI (xs ++ [x]) = sumI xs + x := by simp [sumI]
theorem sumI_take_succ (xs : List Int) (k : Nat) (h : k < xs.length) : sumI (xs.take (k + 1)) = sumI (xs.take k) + xs[k] := by
  rw [List.take_add_one, List.getElem?_eq_getElem h]; exact sumI_snoc _ _
theorem sumI_bd (xs : List Int) (m : Int) (hm : 0 ≤ m) (h : ∀ x ∈ xs, 0 ≤ x ∧ x ≤ m) (k : Nat) : 0 ≤ sumI (xs.take k) ∧ sumI (xs.take k) ≤ k * m := by
  induction k with
  | zero => simp [sumI]
  | succ k ih =>
    have e : ((k + 1 : Nat) : Int) * m = k * m + m := by rw [Int.natCast_add, Int.add_mul]; omega
    by_cases hk : k < xs.length
    · rw [sumI_take_succ xs k hk, e]
      have := h xs[k] (List.getElem_mem hk)
      omega
    · rw [List.take_of_length_le (by omega)] at ih ⊢
      omega

set_option maxHeartbeats 400000 in
theorem sum_any (a : Option Addr) (xs : List Int) (cap : Nat) (w : World) (hx : IntSl w a xs) (hl : xs.length ≤ 1000000) (hb : ∀ x ∈ xs, 0 ≤ x ∧ x ≤ 1000000000) :
    Calls Tryz.prog 148 #[.slice a xs.length cap] w fun e w' => e = .returned (.int .i64 (sumI xs)) ∧ w = w' := by
  go_enter Tryz.func148, Tryz.ntmps148
  go_wp2
  go_loop [3, 8] (fun t i => ∃ k : Nat, k ≤ xs.length ∧ i = .int .i64 k ∧ t = .int .i64 (sumI (xs.take k))) (fun _ i => xs.length - (intOf i).toNat)
  case atStart => exact ⟨0, Nat.zero_le _, rfl, rfl⟩
  case round =>
    obtain ⟨k, hk, rfl, rfl⟩ := hrel
    by_cases hlt : k < xs.length
    · obtain ⟨b, off, rfl, hbs, hc⟩ := hx (by omega)
      have hck := hc k hlt
      clear hc
      have h1 := sumI_bd xs 1000000000 (by omega) hb k
      have h2 := hb xs[k] (List.getElem_mem hlt)
      have HS := Lib.hid (sumI_take_succ xs k hlt)
      obtain ⟨h3, h4⟩ := h1
      obtain ⟨h5, h6⟩ := h2
      have h7 : sumI (xs.take k) ≤ 1000000000000000 := by omega
      clear h4 hb
      go_wp2
      go_round
      case rel => exact ⟨k + 1, by omega, by go_num, by rw [HS.out]⟩
      case measure => simp [intOf]; omega
    · have : k = xs.length := by omega
      subst this
      go_wp2
      go_ret
      exact ⟨ret_int (by simp), rfl⟩

set_option maxHeartbeats 400000 in
theorem judge1_any (i : Nat) (a : Option Addr) (xs : List Lp) (cap B : Nat) (w : World) (hx : Sl 3 Lp.cells w a xs) (hi : i < xs.length) (hl : xs.length ≤ 1000000) (hB : w.cell? ⟨B, 0, none⟩ = some (.slice a xs.length cap)) :
    Calls Tryz.prog 145 #[.int .i64 i, .pointer (some ⟨B, 0, none⟩)] w fun e w' => e = .returned (.int .i64 xs[i].l) ∧ w = w' := by
  obtain ⟨b, off, rfl, hbs, hc⟩ := hx (by omega)
  have hc0 : w.cell? ⟨b, off + i * 3, none⟩ = some (.int .i64 xs[i].l) := hc i xs[i] 0 _ (List.getElem?_eq_getElem hi) rfl
  clear hc hx
  go_enter Tryz.func145, Tryz.ntmps145
  go_wp2
  go_ret
  exact ⟨rfl, rfl⟩

set_option maxHeartbeats 400000 in
theorem judge2_any (i : Nat) (a : Option Addr) (xs : List Lp) (cap B : Nat) (w : World) (hx : Sl 3 Lp.cells w a xs) (hi : i < xs.length) (hl : xs.length ≤ 1000000) (hB : w.cell? ⟨B, 0, none⟩ = some (.slice a xs.length cap)) :
    Calls Tryz.prog 146 #[.int .i64 i, .pointer (some ⟨B, 0, none⟩)] w fun e w' => e = .returned (.int .i64 xs[i].c) ∧ w = w' := by
  obtain ⟨b, off, rfl, hbs, hc⟩ := hx (by omega)
  have hc0 := hc i xs[i] 1 _ (List.getElem?_eq_getElem hi) rfl
  clear hc hx
  go_enter Tryz.func146, Tryz.ntmps146
  go_wp2
  go_ret
  exact ⟨rfl, rfl⟩

/-- The rules lie in a block. -/
def RuAt (w : World) (B : Nat) (r : Ru) : Prop := w.heap[B]? = some (.cells #[.int .i64 r.laps, .int .i64 r.len.lo, .int .i64 r.len.hi, .int .i64 r.climb.lo, .int .i64 r.climb.hi, .int .i64 r.lap.lo, .int .i64 r.lap.hi, .int .i64 r.wide, .int .i64 r.uses] 26 (0, 0))

theorem RuAt.below {w w' : World} {B : Nat} {r : Ru} (h : RuAt w B r) (hb : Below w.heap.size w w') : RuAt w' B r := (hb.block B (lt_of_block h)).trans h
theorem RuAt.cells {w : World} {B : Nat} {r : Ru} (h : RuAt w B r) : w.cell? ⟨B, 0, none⟩ = some (.int .i64 r.laps) ∧ w.cell? ⟨B, 1, none⟩ = some (.int .i64 r.len.lo) ∧ w.cell? ⟨B, 2, none⟩ = some (.int .i64 r.len.hi) ∧ w.cell? ⟨B, 3, none⟩ = some (.int .i64 r.climb.lo) ∧ w.cell? ⟨B, 4, none⟩ = some (.int .i64 r.climb.hi) ∧ w.cell? ⟨B, 5, none⟩ = some (.int .i64 r.lap.lo) ∧ w.cell? ⟨B, 6, none⟩ = some (.int .i64 r.lap.hi) ∧ w.cell? ⟨B, 7, none⟩ = some (.int .i64 r.wide) ∧ w.cell? ⟨B, 8, none⟩ = some (.int .i64 r.uses) := by
  refine ⟨?_, ?_, ?_, ?_, ?_, ?_, ?_, ?_, ?_⟩ <;> (rw [cell_of_row w B _ _ _ _ h]; rfl)

set_option maxHeartbeats 400000 in
theorem judge3_any (n : Int) (r : Ru) (B : Nat) (w : World) (hB : RuAt w B r) :
    Calls Tryz.prog 149 #[.int .i64 n, .pointer (some ⟨B, 0, none⟩)] w fun e w' => e = .returned (.bool (insideB n r.lap)) ∧ Below w.heap.size w w' := by
  obtain ⟨c0, c1, c2, c3, c4, c5, c6, c7, c8⟩ := hB.cells
  go_enter Tryz.func149, Tryz.ntmps149
  go_wp2_with fail
  refine (inside_any n r.lap _).mono ?_
  rintro e w1 ⟨rfl, hb⟩
  go_wp2
  go_ret
  exact ⟨rfl, hb⟩

set_option maxHeartbeats 400000 in
theorem judge4_any (i : Nat) (a : Option Addr) (xs : List Lp) (cap B C : Nat) (r : Ru) (w : World) (hx : Sl 3 Lp.cells w a xs) (hi : i < xs.length) (hl : xs.length ≤ 1000000) (hB : w.cell? ⟨B, 0, none⟩ = some (.slice a xs.length cap)) (hC : RuAt w C r) :
    Calls Tryz.prog 150 #[.int .i64 i, .pointer (some ⟨B, 0, none⟩), .pointer (some ⟨C, 0, none⟩)] w fun e w' => e = .returned (.bool (decide (r.wide ≤ xs[i].d))) ∧ Below w.heap.size w w' := by
  obtain ⟨c0, c1, c2, c3, c4, c5, c6, c7, c8⟩ := hC.cells
  obtain ⟨b, off, rfl, hbs, hc⟩ := hx (by omega)
  have hc0 := hc i xs[i] 2 _ (List.getElem?_eq_getElem hi) rfl
  clear hc hx
  go_enter Tryz.func150, Tryz.ntmps150
  go_wp2
  go_quiet (fail)
  go_wp2
  go_ret
  exact ⟨rfl, below_drewN (Below.refl _ _) _⟩
end Go.Proofs.YtmebmcipmemofaaGreat
