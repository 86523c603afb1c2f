/-
  The contracts of klisterkit.Of, and of Draw, Between and Coin of a deck, over this seat's program.
  What is proved: what is dealt lies within its bounds; only the deck itself turns.
  Conditions: a deck that has dealt at most 1000000 times.
-/
import Derived.Test.YtiggelffmfinoaaC
namespace Go.Proofs.Ytiggelffmfinoaa
open Go.RowKit Go.Shelf
attribute [local go_sem] Oper.semAt_some

/-- Bytes, as they read in a world. -/
def BytesAt (w : World) (a : Option Addr) (n : Nat) : Prop := 0 < n → ∃ b off, a = some ⟨b, off, none⟩ ∧ b < w.heap.size ∧ ∀ j, j < n → ∃ x : Int, w.cell? ⟨b, off + j, none⟩ = some (.int .u8 x) ∧ 0 ≤ x ∧ x < 256
/-- A deck that has dealt at most k times; it and its bytes lie below L. -/
structure Deck (w : World) (B L : Nat) (a : Option Addr) (n cap k : Nat) : Prop where
  o : ∃ nx st : Int, w.heap[B]? = some (.cells #[.slice a n cap, .int .i64 nx, .int .u32 st] 50 (0, 0)) ∧ 0 ≤ nx ∧ nx ≤ k ∧ 0 ≤ st ∧ st < 4294967296
  bytes : BytesAt w a n
  far : 0 < n → ∀ p, a = some p → p.block ≠ B ∧ p.block < L
  len : n ≤ 140737488355328
  lt : B < L ∧ L ≤ w.heap.size

theorem BytesAt.keep {w w' : World} {a : Option Addr} {n : Nat} (h : BytesAt w a n) (hs : w.heap.size ≤ w'.heap.size) (hk : 0 < n → ∀ p, a = some p → p.block < w.heap.size → w'.heap[p.block]? = w.heap[p.block]?) : BytesAt w' a n := fun h0 => by
  obtain ⟨b, off, rfl, hb, hc⟩ := h h0
  refine ⟨b, off, rfl, Nat.lt_of_lt_of_le hb hs, fun j hj => ?_⟩
  obtain ⟨x, h1, h2⟩ := hc j hj
  exact ⟨x, (World.cell?_of_block (w := w) (a := ⟨b, off + j, none⟩) (hk h0 ⟨b, off, none⟩ rfl hb)).trans h1, h2⟩
theorem Deck.keep {w w' : World} {B L : Nat} {a : Option Addr} {n cap k : Nat} (h : Deck w B L a n cap k) (hs : w.heap.size ≤ w'.heap.size) (hk : ∀ j, j < L → w'.heap[j]? = w.heap[j]?) : Deck w' B L a n cap k := by
  obtain ⟨nx, st, h1, h2⟩ := h.o
  exact ⟨⟨nx, st, (hk B h.lt.1).trans h1, h2⟩, h.bytes.keep hs (fun h0 p hp _ => hk _ (h.far h0 p hp).2), h.far, h.len, h.lt.1, Nat.le_trans h.lt.2 hs⟩
theorem Deck.below {w w' : World} {B L : Nat} {a : Option Addr} {n cap k : Nat} (h : Deck w B L a n cap k) (hb : Below w.heap.size w w') : Deck w' B L a n cap k := h.keep hb.size (fun j hj => hb.block j (Nat.lt_of_lt_of_le hj h.lt.2))
theorem Deck.mono {w : World} {B L : Nat} {a : Option Addr} {n cap k k' : Nat} (h : Deck w B L a n cap k) (hk : k ≤ k') : Deck w B L a n cap k' := by
  obtain ⟨nx, st, h1, h2, h3, h4⟩ := h.o
  exact ⟨⟨nx, st, h1, h2, by omega, h4⟩, h.bytes, h.far, h.len, h.lt⟩
theorem Apart.drew' {own : Nat → Prop} {A B : World} (h : Apart own A B) : Apart own A B.drew := ⟨h.os, h.tape, h.output, h.size, h.block⟩
theorem deck_end {w : World} {B L : Nat} {a : Option Addr} {n cap k : Nat} {x : Int} {st s : Int} (hB : w.heap[B]? = some (.cells #[.slice a n cap, .int .i64 x, .int .u32 st] 50 (0, 0))) (hx : 0 ≤ x ∧ x ≤ k) (hs : 0 ≤ s ∧ s < 4294967296) (hb : BytesAt w a n) (hf : 0 < n → ∀ p, a = some p → p.block ≠ B ∧ p.block < L) (hl : n ≤ 140737488355328) (hlt : B < L ∧ L ≤ w.heap.size) :
    Deck ((w.setCell ⟨B, 1, none⟩ (.int .i64 (x + 1))).setCell ⟨B, 2, none⟩ (.int .u32 s)).drew B L a n cap (k + 1) ∧ Apart (fun j => j = B) w ((w.setCell ⟨B, 1, none⟩ (.int .i64 (x + 1))).setCell ⟨B, 2, none⟩ (.int .u32 s)).drew := by
  have ha : Apart (fun j => j = B) w ((w.setCell ⟨B, 1, none⟩ (.int .i64 (x + 1))).setCell ⟨B, 2, none⟩ (.int .u32 s)).drew := ((Apart.setCell (own := fun j => j = B) w (p := ⟨B, 1, none⟩) rfl _).trans (Apart.setCell (own := fun j => j = B) _ (p := ⟨B, 2, none⟩) rfl _)).drew'
  exact ⟨⟨⟨x + 1, s, blk_setCell (j := 2) (blk_setCell (j := 1) hB), by omega, by omega, hs.1, hs.2⟩, hb.keep ha.size (fun h0 p hp hlt => ha.block _ hlt (hf h0 p hp).1), hf, hl, hlt.1, Nat.le_trans hlt.2 ha.size⟩, ha⟩

set_option maxHeartbeats 1000000 in
theorem draw_any (B L : Nat) (a : Option Addr) (n cap k : Nat) (m : Int) (w : World) (hd : Deck w B L a n cap k) (hk : k ≤ 1000000) (hm : m ≤ 10000000) :
    Calls Try.prog 11 #[.pointer (some ⟨B, 0, none⟩), .int .i64 m] w fun e w' => (∃ r : Int, e = .returned (.int .i64 r) ∧ 0 ≤ r ∧ (r < m ∨ r = 0)) ∧ Deck w' B L a n cap (k + 1) ∧ Apart (fun j => j = B) w w' := by
  obtain ⟨⟨nx, st, hB, h1, h2, h3, h4⟩, hbytes, hfar, hlen, hlt⟩ := hd
  have HB := Lib.hid hB
  have c0 := blk_cell hB 0 rfl
  have c1 := blk_cell hB 1 rfl
  have c2 := blk_cell hB 2 rfl
  have f1 := blk_free (j := 1) hB
  have f2 := blk_free (j := 2) hB
  by_cases hm1 : m ≤ 1
  · go_enter Try.func11, Try.ntmps11
    go_wp2
    go_ret
    exact ⟨⟨0, rfl, Int.le_refl _, .inr rfl⟩, ⟨⟨nx, st, HB.out, h1, by omega, h3, h4⟩, hbytes, hfar, hlen, hlt⟩, Apart.of_below (Below.refl _ _)⟩
  · by_cases hn : n = 0
    · subst hn
      go_enter Try.func11, Try.ntmps11
      go_wp2
      go_ret
      exact ⟨⟨0, rfl, Int.le_refl _, .inr rfl⟩, ⟨⟨nx, st, HB.out, h1, by omega, h3, h4⟩, hbytes, hfar, hlen, hlt⟩, Apart.of_below (Below.refl _ _)⟩
    · obtain ⟨b, off, rfl, hbs, hc⟩ := hbytes (by omega)
      have hne : ((n : Int) == 0) = false := by simp; omega
      obtain ⟨x, rfl⟩ := Int.eq_ofNat_of_zero_le h1
      have hjl : x % n < n := Nat.mod_lt _ (by omega)
      obtain ⟨y, hy, hy0, hy1⟩ := hc (x % n) hjl
      clear hc
      generalize hj : x % n = j at hjl hy
      generalize hq : x / n = q
      have ht : Int.tmod (x : Int) (n : Int) = (j : Int) := by rw [← hj]; rfl
      have hqq : Int.tdiv (x : Int) (n : Int) = (q : Int) := by rw [← hq]; rfl
      have hqx : q ≤ x := by rw [← hq]; exact Nat.div_le_self _ _
      have wy : IntKind.u32.wrap y = y := IntWalk.u32_in _ ⟨hy0, by omega⟩
      have wq : IntKind.i64.wrap (q : Int) = q := IntWalk.i64_in _ (by omega)
      have wq2 : IntKind.u32.wrap (q : Int) = q := IntWalk.u32_in _ ⟨by omega, by omega⟩
      have wx : IntKind.i64.wrap ((x : Int) + 1) = x + 1 := IntWalk.i64_in _ (by omega)
      clear hj hq
      go_enter Try.func11, Try.ntmps11
      go_wp2_with (fail)
      go_region_held3 (fun w' => w'.cell? ⟨B, 0, none⟩ = some (.slice (some ⟨b, off, none⟩) n cap) ∧ w'.cell? ⟨B, 1, none⟩ = some (.int .i64 x) ∧ w'.cell? ⟨b, off + j, none⟩ = some (.int .u8 y)) (go_keep) (fail)
      have HD : Hid (∀ s : Int, 0 ≤ s ∧ s < 4294967296 → Deck ((w.setCell ⟨B, 1, none⟩ (.int .i64 (x + 1))).setCell ⟨B, 2, none⟩ (.int .u32 s)).drew B L (some ⟨b, off, none⟩) n cap (k + 1) ∧ Apart (fun j => j = B) w ((w.setCell ⟨B, 1, none⟩ (.int .i64 (x + 1))).setCell ⟨B, 2, none⟩ (.int .u32 s)).drew) := fun s hs => deck_end HB.out ⟨h1, h2⟩ hs hbytes hfar hlen hlt
      go_wp2_with (fail)
      all_goals go_ret
      all_goals exact ⟨⟨_, rfl, Int.emod_nonneg _ (by omega), .inl (Int.emod_lt_of_pos _ (by omega))⟩, HD.out _ (by constructor <;> omega)⟩

set_option maxHeartbeats 1000000 in
theorem between_any (B L : Nat) (a : Option Addr) (n cap k : Nat) (lo hi : Int) (w : World) (hd : Deck w B L a n cap k) (hk : k ≤ 1000000) (hl : -1000000 ≤ lo ∧ lo ≤ hi ∧ hi ≤ 1000000) :
    Calls Try.prog 10 #[.pointer (some ⟨B, 0, none⟩), .int .i64 lo, .int .i64 hi] w fun e w' => (∃ r : Int, e = .returned (.int .i64 r) ∧ lo ≤ r ∧ r ≤ hi) ∧ Deck w' B L a n cap (k + 1) ∧ Apart (fun j => j = B) w w' := by
  have w1 : IntKind.i64.wrap (hi - lo) = hi - lo := IntWalk.i64_in _ (by omega)
  have w2 : IntKind.i64.wrap (hi - lo + 1) = hi - lo + 1 := IntWalk.i64_in _ (by omega)
  have HC := Lib.hid (draw_any B L a n cap k (hi - lo + 1) w hd hk (by omega))
  clear hd
  go_enter Try.func10, Try.ntmps10
  go_wp2_with (fail)
  refine HC.out.mono ?_
  rintro e w' ⟨⟨r, rfl, hr0, hr1⟩, hD, hA⟩
  have HD := Lib.hid (And.intro hD hA)
  clear hD hA
  have w3 : IntKind.i64.wrap (lo + r) = lo + r := IntWalk.i64_in _ (by omega)
  go_wp2
  go_ret
  exact ⟨⟨lo + r, rfl, by omega, by omega⟩, HD.out⟩

set_option maxHeartbeats 1000000 in
theorem of_any (a : Option Addr) (n cap : Nat) (w : World) (hb : BytesAt w a n) (hl : n ≤ 140737488355328) :
    Calls Try.prog 5 #[.slice a n cap] w fun e w' => e = .returned (.pointer (some ⟨w.heap.size, 0, none⟩)) ∧ Deck w' w.heap.size (w.heap.size + 1) a n cap 0 ∧ Below w.heap.size w w' := by
  have HB := Lib.hid hb
  clear hb
  go_enter Try.func5, Try.ntmps5
  go_wp2
  go_ret
  refine ⟨rfl, ⟨⟨0, 17, heap_alloc_new _ _, by omega, by omega, by omega, by omega⟩, HB.out.keep (alloc1 w _).size (fun _ p _ hp => (alloc1 w _).block _ hp), fun h0 p hp => ?_, hl, by omega, by simp⟩, alloc1 w _⟩
  obtain ⟨b, off, rfl, hb, _⟩ := HB.out h0
  cases hp
  exact ⟨Nat.ne_of_lt hb, by show b < _; omega⟩
end Go.Proofs.Ytiggelffmfinoaa
