/-
slices.Clone at a course, over this seat's program; and what an iterator of courses owes to its caller.
  What is proved: Clone hands back a new slice with the same numbers.
  Conditions: a course with a lap, of at most 1000000.
-/
import Derived.Test.YtmebmcipmemofaaGreatPart5
import Derived.Lib.SliceRun
namespace Go.Proofs.YtmebmcipmemofaaGreat
open Go.RowKit

/-- The block of a slice holds ints. -/
def Ty3 (W : World) (a : Option Addr) : Prop := ∀ q, a = some q → ∃ cs, W.heap[q.block]? = some (.cells cs 3 (0, 0))
theorem Ty3.below {w w' : World} {a : Option Addr} (h : Ty3 w a) (hb : Below w.heap.size w w') : Ty3 w' a := fun q hq => by
  obtain ⟨cs, h1⟩ := h q hq
  exact ⟨cs, (hb.block _ (lt_of_block h1)).trans h1⟩
theorem ty3_of_owns {w : World} {base : Nat} {a : Option Addr} {n cap m : Nat} {xs : List Value} (h : w.ownsRow base 3 1 (.slice a n cap) m xs) : Ty3 w a := fun q hq => by
  rcases h.2 with ⟨h1, _⟩ | ⟨g, cap', cur, h1, _, hg, _⟩
  · cases h1; cases hq
  · cases h1; cases hq; exact ⟨cur, hg⟩
/-- OutInts, and the block's kind. -/
def OutInts3 (w : World) (ys : List Int) (e : Ending) (w' : World) : Prop := ∃ a cap, e = .returned (.slice a ys.length cap) ∧ IntSl w' a ys ∧ Ty3 w' a ∧ (∀ p, a = some p → w.heap.size ≤ p.block) ∧ Below w.heap.size w w'

set_option maxHeartbeats 1000000 in
theorem cloneRoute_any (a : Option Addr) (xs : List Int) (cap : Nat) (w : World) (hx : IntSl w a xs) (h0 : 0 < xs.length) (hl : xs.length ≤ 1000000) :
    Calls Tryz.prog 155 #[.slice a xs.length cap] w (OutInts3 w xs) := by
  obtain ⟨i0, hi, hz0, hz1, hz2⟩ := info_parts Tryz.info3
  obtain ⟨b, off, rfl, hbs, hc⟩ := hx h0
  have q136 : ∀ (w : World) (a : Option Addr) (n c n' c' : Nat), (binOp .eql 137 (.slice a n c) (.slice none n' c')).run Tryz.prog w = .ok (.bool a.isNone) w := fun w a n c n' c' => Lib.run_eql_slice_nil w _ _ a n c n' c' Tryz.underlying137
  have HC : Hid (∀ j u, (xs.map (Value.int .i64))[j]? = some u → (w.alloc (.cells #[] 3)).cell? ((⟨b, off, none⟩ : Addr).add j) = some u) := fun j u hu => by
    have hj : j < xs.length := by
      rcases Nat.lt_or_ge j xs.length with h | h
      · exact h
      · rw [List.getElem?_eq_none (by simpa using h)] at hu; cases hu
    have e : (⟨b, off, none⟩ : Addr).add j = ⟨b, off + j, none⟩ := by unfold Addr.add; split <;> simp_all
    rw [e, World.cell?_alloc_past _ _ _ (by exact hbs), hc j hj]
    simp [hj] at hu ⊢; exact hu
  clear hc
  go_enter Tryz.func155, Tryz.ntmps155
  go_wp2_with (at_builtin; refine wpList_append_own _ rfl _ _ 137 rfl w.heap.size 3 i0 (.int .i64 0) 1 8 Tryz.underlying137 hi hz0 hz1 hz2 rfl (by decide) _ _ _ rfl (World.ownsRow_made w #[] 0 (Nat.le_refl _) (Nat.zero_le _) (by simp)) ⟨b, off, none⟩ xs.length cap (xs.map (Value.int .i64)) rfl ?c0 ?c1 ?c2 ?c3 ?c4 ?c5 ?_)
  case c0 => simp
  case c1 => exact HC.out
  case c2 => intro u hu; obtain ⟨x, _, rfl⟩ := List.mem_map.1 hu; rfl
  case c3 => unfold maxLen; omega
  case c4 => omega
  case c5 => simp
  intro v' w2 hown2 hgrow2 _
  have hb3 : Below w.heap.size w w2 := ((Below.refl _ w).alloc (Nat.le_refl _) _).grown hgrow2 (by simp) (fun j hj => by simp [Value.ownBlock] at hj; omega)
  obtain ⟨a', cap', rfl, hs, hfr⟩ := ints_of_owns hown2
  go_wp2
  go_ret
  exact ⟨a', cap', rfl, hs, ty3_of_owns hown2, hfr, hb3⟩
end Go.Proofs.YtmebmcipmemofaaGreat
