/-
  The contracts of span, Three and Short over this seat's program.
  What is proved: what each call returns; nothing that was there before has turned.
  Conditions: none, but a need that is no greater than 1000000.
-/
import Derived.Test.YtkmcdmidegcbaaaAO
namespace Go.Proofs.Ytkmcdmidegcbaaa
open Go.RowKit Go.Shelf
attribute [local go_sem] Oper.semAt_some

theorem span_any (lo hi : Int) (w : World) : Calls Try.prog 55 #[.int .i64 lo, .int .i64 hi] w fun e w' => e = .returned (.agg #[.int .i64 lo, .int .i64 hi]) ∧ w.alloc (.cells #[.int .i64 lo, .int .i64 hi] 24) = w' := by
  go_enter Try.func55, Try.ntmps55
  go_wp2
  refine bodyPost_ret (v := .agg #[.int .i64 lo, .int .i64 hi]) (by simp [results, Try.results55, go_sem]) rfl ?_
  exact ⟨rfl, rfl⟩

def threeL : List Lp := [⟨2000, 60, 6⟩, ⟨2500, 90, 6⟩, ⟨3000, 100, 6⟩]
def threeR : Ru := ⟨3, ⟨7000, 7500⟩, ⟨200, 270⟩, ⟨2000, 3000⟩, 6, 2⟩
def shortL (need : Int) : List Dy := [⟨⟨300, 300⟩, ⟨100, 200⟩, ⟨10, 20⟩⟩, ⟨⟨200, 400⟩, ⟨300, 600⟩, ⟨10, 20⟩⟩, ⟨⟨if 500 < need then 500 else need, need⟩, ⟨0, 100⟩, ⟨10, 20⟩⟩]

/-- A block of integers, read as elements of so many each. -/
theorem Sl.of_block {α : Type} {sz : Nat} {cells : α → List Int} {W : World} {B : Nat} {xs : List α} {cur : Array Value} {t : TypeId} (h : W.heap[B]? = some (.cells cur t (0, 0))) (hc : ∀ (j : Nat) (x : α) (i : Nat) (u : Int), xs[j]? = some x → (cells x)[i]? = some u → cur[j * sz + i]? = some (Value.int .i64 u)) : Sl sz cells W (some ⟨B, 0, none⟩) xs :=
  fun _ => ⟨B, 0, rfl, lt_of_block h, fun j x i u hx hu => by rw [Nat.zero_add]; exact blk_cell h _ (hc j x i u hx hu)⟩

def OutThree (w : World) (e : Ending) (w' : World) : Prop := ∃ a, e = .returned (.tuple #[.slice a 3 3, threeR.v]) ∧ Sl 3 Lp.cells w' a threeL ∧ Below w.heap.size w w'

set_option maxRecDepth 100000 in
set_option maxHeartbeats 1000000 in
theorem three_any (w : World) : Calls Try.prog 65 #[] w (OutThree w) := by
  go_enter Try.func65, Try.ntmps65
  go_wp2_with (first | (go_at_call 55; refine (span_any _ _ _).mono ?_; rintro e w' ⟨rfl, rfl⟩))
  generalize hWf : World.alloc _ _ = Wf
  have h0 : Wf.heap[w.heap.size]? = some (.cells #[.int .i64 3, .int .i64 7000, .int .i64 7500, .int .i64 200, .int .i64 270, .int .i64 2000, .int .i64 3000, .int .i64 6, .int .i64 2] 26 (0, 0)) := by rw [← hWf]; exact alk (alk (alk (alk (heap_alloc_new w _))))
  have h1 : Wf.heap[w.heap.size + 1]? = some (.cells #[.int .i64 2000, .int .i64 60, .int .i64 6, .int .i64 2500, .int .i64 90, .int .i64 6, .int .i64 3000, .int .i64 100, .int .i64 6] 31 (0, 0)) := by rw [← hWf]; exact alk (alk (alk (new_at (by simp))))
  have hb : Below w.heap.size w Wf := by rw [← hWf]; repeat (first | exact Below.refl _ _ | refine Below.alloc ?_ (by simp <;> omega) _)
  clear hWf
  have q0 := blk_cell h0 0 rfl
  have q1 := blk_cell h0 1 rfl
  have q2 := blk_cell h0 2 rfl
  have q3 := blk_cell h0 3 rfl
  have q4 := blk_cell h0 4 rfl
  have q5 := blk_cell h0 5 rfl
  have q6 := blk_cell h0 6 rfl
  have q7 := blk_cell h0 7 rfl
  have q8 := blk_cell h0 8 rfl
  refine bodyPost_ret (v := .tuple #[.slice (some ⟨w.heap.size + 1, 0, none⟩) 3 3, threeR.v]) (by simp [results, Try.results65, go_sem, q0, q1, q2, q3, q4, q5, q6, q7, q8, threeR]) rfl ?_
  refine ⟨_, rfl, Sl.of_block h1 ?_, hb⟩
  intro j x i u hx hu
  rcases j with _ | _ | _ | j
  all_goals simp [threeL] at hx
  all_goals subst hx
  all_goals (rcases i with _ | _ | _ | i <;> simp [Lp.cells] at hu <;> subst hu <;> rfl)

def OutShort (w : World) (need : Int) (e : Ending) (w' : World) : Prop := ∃ a, e = .returned (wv 500 800 a 3 3) ∧ Sl 6 Dy.cells w' a (shortL need) ∧ Below w.heap.size w w'
set_option maxRecDepth 100000 in
set_option maxHeartbeats 1000000 in
theorem short_any (need : Int) (w : World) : Calls Try.prog 66 #[.int .i64 need] w (OutShort w need) := by
  go_enter Try.func66, Try.ntmps66
  go_wp2_with (first | (go_at_call 55; refine (span_any _ _ _).mono ?_; rintro e w' ⟨rfl, rfl⟩))
  · have h2 := h
    generalize hWf : World.alloc _ _ = Wf
    have h0 : Wf.heap[w.heap.size]? = some (.cells #[.int .i64 500, .int .i64 800, .slice (some ⟨w.heap.size + 1 + 1 + 1 + 1 + 1 + 1 + 1 + 1 + 1 + 1, 0, none⟩) 3 3] 60 (0, 0)) := by rw [← hWf]; exact alk (alk (alk (alk (alk (alk (alk (alk (alk (alk (heap_alloc_new w _))))))))))
    have h1 : Wf.heap[w.heap.size + 1 + 1 + 1 + 1 + 1 + 1 + 1 + 1 + 1 + 1]? = some (.cells #[.int .i64 300, .int .i64 300, .int .i64 100, .int .i64 200, .int .i64 10, .int .i64 20, .int .i64 200, .int .i64 400, .int .i64 300, .int .i64 600, .int .i64 10, .int .i64 20, .int .i64 500, .int .i64 need, .int .i64 0, .int .i64 100, .int .i64 10, .int .i64 20] 97 (0, 0)) := by rw [← hWf]; exact new_at (by simp)
    have hb : Below w.heap.size w Wf := by rw [← hWf]; repeat (first | exact Below.refl _ _ | refine Below.alloc ?_ (by simp <;> omega) _)
    clear hWf
    have q0 := blk_cell h0 0 rfl
    have q1 := blk_cell h0 1 rfl
    have q2 := blk_cell h0 2 rfl
    refine bodyPost_ret (v := wv 500 800 (some ⟨w.heap.size + 1 + 1 + 1 + 1 + 1 + 1 + 1 + 1 + 1 + 1, 0, none⟩) 3 3) (by simp [results, Try.results66, go_sem, q0, q1, q2]) rfl ?_
    refine ⟨_, rfl, Sl.of_block h1 ?_, hb⟩
    intro j x i u hx hu
    rcases j with _ | _ | _ | j
    all_goals simp [shortL, h2] at hx
    all_goals subst hx
    all_goals (rcases i with _ | _ | _ | _ | _ | _ | i <;> simp [Dy.cells] at hu <;> subst hu <;> rfl)
  · skip
    have h2 : ¬ 500 < need := by omega
    generalize hWf : World.alloc _ _ = Wf
    have h0 : Wf.heap[w.heap.size]? = some (.cells #[.int .i64 500, .int .i64 800, .slice (some ⟨w.heap.size + 1 + 1 + 1 + 1 + 1 + 1 + 1 + 1 + 1 + 1, 0, none⟩) 3 3] 60 (0, 0)) := by rw [← hWf]; exact alk (alk (alk (alk (alk (alk (alk (alk (alk (alk (heap_alloc_new w _))))))))))
    have h1 : Wf.heap[w.heap.size + 1 + 1 + 1 + 1 + 1 + 1 + 1 + 1 + 1 + 1]? = some (.cells #[.int .i64 300, .int .i64 300, .int .i64 100, .int .i64 200, .int .i64 10, .int .i64 20, .int .i64 200, .int .i64 400, .int .i64 300, .int .i64 600, .int .i64 10, .int .i64 20, .int .i64 need, .int .i64 need, .int .i64 0, .int .i64 100, .int .i64 10, .int .i64 20] 97 (0, 0)) := by rw [← hWf]; exact new_at (by simp)
    have hb : Below w.heap.size w Wf := by rw [← hWf]; repeat (first | exact Below.refl _ _ | refine Below.alloc ?_ (by simp <;> omega) _)
    clear hWf
    have q0 := blk_cell h0 0 rfl
    have q1 := blk_cell h0 1 rfl
    have q2 := blk_cell h0 2 rfl
    refine bodyPost_ret (v := wv 500 800 (some ⟨w.heap.size + 1 + 1 + 1 + 1 + 1 + 1 + 1 + 1 + 1 + 1, 0, none⟩) 3 3) (by simp [results, Try.results66, go_sem, q0, q1, q2]) rfl ?_
    refine ⟨_, rfl, Sl.of_block h1 ?_, hb⟩
    intro j x i u hx hu
    rcases j with _ | _ | _ | j
    all_goals simp [shortL, h2] at hx
    all_goals subst hx
    all_goals (rcases i with _ | _ | _ | _ | _ | _ | i <;> simp [Dy.cells] at hu <;> subst hu <;> rfl)
end Go.Proofs.Ytkmcdmidegcbaaa
