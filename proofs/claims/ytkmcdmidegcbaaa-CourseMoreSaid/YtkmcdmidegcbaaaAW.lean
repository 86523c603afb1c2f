/-
  What the statements on winters share, over this seat's program.
  What is proved: what Least and Room hand back for a dealt winter; the contract of the closure of CourseEnough; a deck that deals leaves older memory as it lay.
  Conditions: each lemma states its own.
-/
import Derived.Test.YtkmcdmidegcbaaaAV
import Derived.Test.YtkmcdmidegcbaaaAN
import Derived.Test.YtkmcdmidegcbaaaAI
namespace Go.Proofs.Ytkmcdmidegcbaaa
open Go.RowKit Go.Shelf
attribute [local go_sem] Oper.semAt_some

/-- What turned a block that is new to an elder world turned nothing of it. -/
theorem below_apart {W A B : World} {own : Nat → Prop} (h : Below W.heap.size W A) (k : Apart own A B) (hB : ∀ j, own j → W.heap.size ≤ j) : Below W.heap.size W B :=
  ⟨k.os.trans h.os, k.tape.trans h.tape, k.output.trans h.output, Nat.le_trans h.size k.size, fun j hj => (k.block j (Nat.lt_of_lt_of_le hj h.size) (fun hh => by have := hB j hh; omega)).trans (h.block j hj)⟩

/-- No day fails in the worst weather, with this stock and store. -/
def okB (st so : Int) (ds : List Dy) : Bool := (worstL st so ds).fails == -1

theorem winE_small {stock store : Int} {ds : List Dy} (h1 : 1 ≤ store ∧ store ≤ 1000000) (h2 : 0 ≤ stock ∧ stock ≤ store) (h3 : 1 ≤ ds.length ∧ (ds.length : Int) ≤ 60) (h4 : ∀ d ∈ ds, SmallDay d) : winE stock store ds = 0 := by
  unfold winE
  have a : withinB store 1 1000000 = true := by simp [withinB]; omega
  have b : withinB stock 0 store = true := by simp [withinB]; omega
  have c : withinB ds.length 1 60 = true := by simp [withinB]; omega
  have d : ds.all dayB = true := by
    rw [List.all_eq_true]
    intro x hx
    obtain ⟨s1, s2, s3⟩ := h4 x hx
    unfold SmallSp at s1 s2 s3
    simp [dayB, boundedB]; omega
  simp [a, b, c, d]

/-- The least number from lo to hi that is enough, or none. -/
def LeastIs (lo hi : Int) (q : Int → Bool) (e : Ending) : Prop :=
  (∃ N : Int, (lo ≤ N ∧ N ≤ hi) ∧ q N = true ∧ (∀ t, lo ≤ t → t < N → q t = false) ∧ e = .returned (.tuple #[.int .i64 N, .int .i64 0])) ∨
  ((∀ t, lo ≤ t → t ≤ hi → q t = false) ∧ e = .returned (.tuple #[.int .i64 0, .int .i64 6]))
theorem least_is {lo hi : Int} {q : Int → Bool} {e : Ending} (h : OutLeast lo hi q e) : LeastIs lo hi q e := by
  obtain ⟨r, ⟨h1, h2, h3⟩, he⟩ := h
  by_cases hr : lo + r ≤ hi
  · rw [if_pos hr] at he
    refine .inl ⟨lo + r, ⟨by omega, hr⟩, h3 r (Nat.le_refl _) (by omega), fun t h4 h5 => ?_, he⟩
    have : q (lo + ((t - lo).toNat : Int)) = false := h2 (t - lo).toNat (by omega)
    rwa [show lo + ((t - lo).toNat : Int) = t by omega] at this
  · rw [if_neg hr] at he
    refine .inr ⟨fun t h4 h5 => ?_, he⟩
    have : q (lo + ((t - lo).toNat : Int)) = false := h2 (t - lo).toNat (by omega)
    rwa [show lo + ((t - lo).toNat : Int) = t by omega] at this

/-- A number and an error: the least number from lo to hi that is enough, or none. -/
def LeastOr (lo hi : Int) (q : Int → Bool) (N E : Int) : Prop :=
  (E = 0 ∧ (lo ≤ N ∧ N ≤ hi) ∧ q N = true ∧ (∀ t, lo ≤ t → t < N → q t = false)) ∨ (E = 6 ∧ N = 0 ∧ ∀ t, lo ≤ t → t ≤ hi → q t = false)
theorem least_or {lo hi : Int} {q : Int → Bool} {e : Ending} (h : OutLeast lo hi q e) : ∃ N E : Int, LeastOr lo hi q N E ∧ e = .returned (.tuple #[.int .i64 N, .int .i64 E]) := by
  rcases least_is h with ⟨N, h1, h2, h3, h4⟩ | ⟨h1, h2⟩
  · exact ⟨N, 0, .inl ⟨rfl, h1, h2, h3⟩, h4⟩
  · exact ⟨0, 6, .inr ⟨rfl, rfl, h1⟩, h2⟩

/-- An elder world, what has become of it, a winter in a box, and its days. -/
def KW (w W : World) (B : Nat) (stock store : Int) (ad : Option Addr) (ds : List Dy) (cp : Nat) : Prop :=
  Below w.heap.size w W ∧ W.heap[B]? = some (.cells #[.int .i64 stock, .int .i64 store, .slice ad ds.length cp] 60 (0, 0)) ∧ Sl 6 Dy.cells W ad ds
theorem KW.below {w W W' : World} {B : Nat} {stock store : Int} {ad : Option Addr} {ds : List Dy} {cp : Nat} (h : KW w W B stock store ad ds cp) (hb : Below W.heap.size W W') : KW w W' B stock store ad ds cp :=
  ⟨below_self h.1 hb, blk_below h.2.1 hb, h.2.2.below hb⟩

theorem ok_more {st S st' S' : Int} {ds : List Dy} (hd : ∀ d ∈ ds, SmallDay d) (h1 : st ≤ st') (h2 : S ≤ S') (h3 : 0 ≤ st ∧ st ≤ S) (h4 : st' ≤ S') (h : okB st S ds = true) : okB st' S' ds = true := by
  unfold okB at *
  rw [beq_iff_eq] at *
  exact worst_more (fun d hx => (hd d hx).ok) h1 h2 h3 h4 h

theorem fail_ok {stock store : Int} {ds : List Dy} (hw : winE stock store ds = 0) : ((failR stock store ds).2.2 == 6) = okB stock store ds := by
  unfold failR okB
  rw [if_pos hw]
  by_cases h : (worstL stock store ds).fails = -1
  · rw [if_pos h, h]; rfl
  · rw [if_neg h]
    show (0 == (6 : Int)) = _
    rw [Bool.eq_iff_iff]; simp [h]

set_option maxHeartbeats 1000000 in
/-- The closure of CourseEnough. -/
theorem held57_any (v s stock store : Int) (a : Option Addr) (ds : List Dy) (cap B : Nat) (w : World) (hx : Sl 6 Dy.cells w a ds) (hl : ds.length ≤ 1000000) (hw : winE v s ds = 0)
    (hB : w.heap[B]? = some (.cells #[.int .i64 stock, .int .i64 store, .slice a ds.length cap] 60 (0, 0))) :
    Calls Try.prog 57 #[.int .i64 v, .int .i64 s, .pointer (some ⟨B, 0, none⟩)] w fun e w' => e = .returned (.bool (okB v s ds)) ∧ Below w.heap.size w w' := by
  have HL := Lib.hid (First_any v s a ds cap w hx hl)
  have HW := Lib.hid (fail_ok hw)
  have c2 := blk_cell hB 2 rfl
  clear hx hl hB hw
  go_enter Try.func57, Try.ntmps57
  go_wp2_with (fail)
  refine HL.out.mono ?_
  rintro e w1 ⟨rfl, hb1⟩
  go_wp2
  go_ret
  exact ⟨ret_bool HW.out, hb1⟩
end Go.Proofs.Ytkmcdmidegcbaaa
