/-
  The contracts of klisterkit.Of, and of Between and Coin of a deck, over this seat's program.
  What is proved: what is dealt lies within its bounds; only the deck itself turns.
  Conditions: a deck that has dealt at most 1000000 times.
-/
import Derived.Test.YtkmcdmidegcbaaaAS
namespace Go.Proofs.Ytkmcdmidegcbaaa
open Go.RowKit Go.Shelf
attribute [local go_sem] Oper.semAt_some

set_option maxHeartbeats 1000000 in
theorem between_any (B L : Nat) (a : Option Addr) (n cap k : Nat) (lo hi : Int) (w : World) (hd : Deck w B L a n cap k) (hk : k ≤ 1000000) (hl : 0 ≤ lo ∧ lo ≤ hi ∧ hi ≤ 1000000) :
    Calls Try.prog 53 #[.pointer (some ⟨B, 0, none⟩), .int .i64 lo, .int .i64 hi] w fun e w' => (∃ r : Int, e = .returned (.int .i64 r) ∧ lo ≤ r ∧ r ≤ hi) ∧ Deck w' B L a n cap (k + 1) ∧ Apart (fun j => j = B) w w' := by
  have w1 : IntKind.i64.wrap (hi - lo) = hi - lo := IntWalk.i64_in _ (by omega)
  have w2 : IntKind.i64.wrap (hi - lo + 1) = hi - lo + 1 := IntWalk.i64_in _ (by omega)
  have HC := Lib.hid (draw_any B L a n cap k (hi - lo + 1) w hd hk (by omega))
  clear hd
  go_enter Try.func53, Try.ntmps53
  go_wp2_with (fail)
  refine HC.out.mono ?_
  rintro e w' ⟨⟨r, rfl, hr0, hr1⟩, hD, hA⟩
  have HD := Lib.hid (And.intro hD hA)
  clear hD hA
  have w3 : IntKind.i64.wrap (lo + r) = lo + r := IntWalk.i64_in _ (by omega)
  go_wp2
  go_ret
  exact ⟨⟨lo + r, rfl, by omega, by omega⟩, HD.out⟩

set_option maxHeartbeats 1000000 in
theorem coin_any (B L : Nat) (a : Option Addr) (n cap k : Nat) (m : Int) (w : World) (hd : Deck w B L a n cap k) (hk : k ≤ 1000000) (hl : m ≤ 1000000) :
    Calls Try.prog 104 #[.pointer (some ⟨B, 0, none⟩), .int .i64 m] w fun e w' => (∃ r : Bool, e = .returned (.bool r)) ∧ Deck w' B L a n cap (k + 1) ∧ Apart (fun j => j = B) w w' := by
  have HC := Lib.hid (draw_any B L a n cap k m w hd hk (by omega))
  clear hd
  go_enter Try.func104, Try.ntmps104
  go_wp2_with (fail)
  refine HC.out.mono ?_
  rintro e w' ⟨⟨r, rfl, hr0, hr1⟩, hD, hA⟩
  have HD := Lib.hid (And.intro hD hA)
  clear hD hA
  go_wp2
  go_ret
  exact ⟨⟨_, rfl⟩, HD.out⟩

set_option maxHeartbeats 1000000 in
theorem of_any (a : Option Addr) (n cap : Nat) (w : World) (hb : BytesAt w a n) (hl : n ≤ 140737488355328) :
    Calls Try.prog 49 #[.slice a n cap] w fun e w' => e = .returned (.pointer (some ⟨w.heap.size, 0, none⟩)) ∧ Deck w' w.heap.size (w.heap.size + 1) a n cap 0 ∧ Below w.heap.size w w' := by
  have HB := Lib.hid hb
  clear hb
  go_enter Try.func49, Try.ntmps49
  go_wp2
  go_ret
  refine ⟨rfl, ⟨⟨0, 17, heap_alloc_new _ _, by omega, by omega, by omega, by omega⟩, HB.out.keep (alloc1 w _).size (fun _ p _ hp => (alloc1 w _).block _ hp), fun h0 p hp => ?_, hl, by omega, by simp⟩, alloc1 w _⟩
  obtain ⟨b, off, rfl, hb, _⟩ := HB.out h0
  cases hp
  exact ⟨Nat.ne_of_lt hb, by show b < _; omega⟩
end Go.Proofs.Ytkmcdmidegcbaaa
