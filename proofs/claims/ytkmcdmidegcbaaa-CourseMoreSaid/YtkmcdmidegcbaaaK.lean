/-
  The iterator that courses makes, over this seat's program; and what an iterator of courses owes to its caller.
  What is proved: the function that courses hands back yields each course of so many loops and laps, in lexicographic order.
  Conditions: 1 to 1000 laps, at most 1000 loops.
-/
import Derived.Test.YtkmcdmidegcbaaaJ
import Derived.Laws.EntriesVeiled
namespace Go.Proofs.Ytkmcdmidegcbaaa
open Go.RowKit Go.Shelf
attribute [local go_sem] Oper.semAt_some

def Mc (n : Nat) : Array Value := madeCells #[.int .i64 0] n
theorem Mc_size (n : Nat) : (Mc n).size = n := size_madeCells _ _

theorem mk136 (n : Nat) (h : n ≤ 1000) (w : World) : (Instr.makeSlice 136 (.int .i64 0) (.int .i64 (n : Int))).run Try.prog w = .ok (.slice (some ⟨w.heap.size, 0, none⟩) 0 n) (w.alloc (.cells (Mc n) 3)) := by
  obtain ⟨i0, hi, hz0, hz1, hz2⟩ := info_parts Try.info3
  have hr := run_make (P := Try.prog) w 136 3 i0 (.int .i64 0) Try.underlying136 hi hz0 .i64 .i64 0 n (Int.le_refl _) (by omega) (by rw [hz2]; omega) (by omega)
  simp only [Int.toNat_zero, Int.toNat_natCast, hz1, Nat.mul_one] at hr
  exact hr

/-- The blocks that are the iterator's own: those that it has captured, and so many that it lays. -/
def ownOf (capt : Nat → Prop) (m : Nat) (B : Nat) (k : Nat) : Prop := capt k ∨ (B ≤ k ∧ k < B + m)

/-- The blocks that it may turn. -/
def intv (m : Nat) (B : Nat) (k : Nat) : Prop := B ≤ k ∧ k < B + m

/-- THE CONTRACT OF AN ITERATOR OF COURSES. -/
def SeqC (g : Nat) (lb : Array Value) (S : List (List Int)) (capt : Nat → Prop) (m : Nat) (w : World) : Prop :=
  ∀ (l n : Nat) (J Jx : List (List Int) → World → Prop) (W : World), Below w.heap.size w W →
    (∀ s A B, J s A → Apart (intv m W.heap.size) A B → J s B) → (∀ s A B, Jx s A → Apart (intv m W.heap.size) A B → Jx s B) →
    (∀ n' pre c a cap W1, J pre W1 → pre ++ [c] <+: S → IntSl W1 a c → Ty3 W1 a → (∀ p, a = some p → W.heap.size + m ≤ p.block) → YieldAt Fence.wide n' Try.prog l #[.slice a c.length cap] W1 fun e W' =>
      (e = .returned (.bool true) ∧ J (pre ++ [c]) W' ∧ Keeps (ownOf capt m W.heap.size) W1 W') ∨ (e = .returned (.bool false) ∧ Jx (pre ++ [c]) W' ∧ Keeps (ownOf capt m W.heap.size) W1 W')) →
    J [] W →
    CallsIn Fence.wide n Try.prog g (#[.func (.yield l) #[] #[]] ++ lb) W fun e W' => (∃ v, e = .returned v) ∧ (J S W' ∨ ∃ pre, pre <+: S ∧ Jx pre W')

set_option maxHeartbeats 2000000 in
set_option maxRecDepth 100000 in
theorem courses1_seq (loops laps : Nat) (hlo : loops ≤ 1000) (hla : 1 ≤ laps ∧ laps ≤ 1000) (Bo Bl : Nat) (w : World)
    (ho : w.heap[Bo]? = some (.cells #[.int .i64 loops] 3 (0, 0))) (hl : w.heap[Bl]? = some (.cells #[.int .i64 laps] 3 (0, 0))) :
    SeqC 123 #[.pointer (some ⟨Bl, 0, none⟩), .pointer (some ⟨Bo, 0, none⟩)] (extC loops laps [] 0) (fun k => k = Bo ∨ k = Bl) 4 w := by
  intro l n J Jx W hW hJ hJx hY hj
  have hBo : Bo < W.heap.size := Nat.lt_of_lt_of_le (lt_of_block ho) hW.size
  have hBl : Bl < W.heap.size := Nat.lt_of_lt_of_le (lt_of_block hl) hW.size
  have c1 := blk_cell (blk_below hl hW) 0 rfl
  have hmk := mk136 laps hla.2
  obtain ⟨Wf, hWf⟩ : ∃ Wf, ((((W.alloc (.cells #[.func (.yield l) #[] #[]] 137)).alloc (.cells (Mc laps) 3)).alloc (.cells #[.slice (some ⟨W.heap.size + 1, 0, none⟩) 0 laps] 136)).alloc (.cells #[.func (.func 124) #[] #[.pointer (some ⟨W.heap.size + 2, 0, none⟩), .pointer (some ⟨Bl, 0, none⟩), .pointer (some ⟨W.heap.size, 0, none⟩), .pointer (some ⟨Bo, 0, none⟩), .pointer (some ⟨W.heap.size + 3, 0, none⟩)]] 165)) = Wf := ⟨_, rfl⟩
  have hbf : Below W.heap.size W Wf := by rw [← hWf]; exact ((((Below.refl _ _).alloc (Nat.le_refl _) _).alloc (by simp) _).alloc (by simp <;> omega) _).alloc (by simp <;> omega) _
  have hG : GInv W.heap.size Bo Bl loops laps l [] Wf := by
    refine ⟨blk_below (blk_below ho hW) hbf, blk_below (blk_below hl hW) hbf, ?_, ⟨Mc laps, ?_, Mc_size _, by simp⟩, ?_, ?_⟩ <;> rw [← hWf]
    · exact (Below.heap_alloc _ _ _ (by simp <;> omega)).trans ((Below.heap_alloc _ _ _ (by simp <;> omega)).trans ((Below.heap_alloc _ _ _ (by simp)).trans (heap_alloc_new W _)))
    · refine (Below.heap_alloc _ _ _ (by simp <;> omega)).trans ((Below.heap_alloc _ _ _ (by simp)).trans ?_)
      have := heap_alloc_new (W.alloc (.cells #[.func (.yield l) #[] #[]] 137)) (.cells (Mc laps) 3)
      simpa using this
    · refine (Below.heap_alloc _ _ _ (by simp)).trans ?_
      have := heap_alloc_new ((W.alloc (.cells #[.func (.yield l) #[] #[]] 137)).alloc (.cells (Mc laps) 3)) (.cells #[.slice (some ⟨W.heap.size + 1, 0, none⟩) 0 laps] 136)
      simpa using this
    · have := heap_alloc_new (((W.alloc (.cells #[.func (.yield l) #[] #[]] 137)).alloc (.cells (Mc laps) 3)).alloc (.cells #[.slice (some ⟨W.heap.size + 1, 0, none⟩) 0 laps] 136)) (.cells #[.func (.func 124) #[] #[.pointer (some ⟨W.heap.size + 2, 0, none⟩), .pointer (some ⟨Bl, 0, none⟩), .pointer (some ⟨W.heap.size, 0, none⟩), .pointer (some ⟨Bo, 0, none⟩), .pointer (some ⟨W.heap.size + 3, 0, none⟩)]] 165)
      simpa using this
  have g1 : Wf.cell? ⟨W.heap.size + 1 + 1 + 1, 0, none⟩ = some _ := blk_cell hG.bg 0 rfl
  have hj' := Lib.hid (hJ _ _ _ hj (Apart.of_below hbf))
  have HG := Lib.hid hG
  have C := Lib.hid (grow_in l W.heap.size Bo Bl loops laps (ownOf (fun k => k = Bo ∨ k = Bl) 4 W.heap.size) (intv 4 W.heap.size) ⟨.inl (.inl rfl), .inl (.inr rfl), fun k h1 h2 => .inr ⟨h1, h2⟩⟩ (fun k h1 h2 => ⟨h1, h2⟩) hBo hBl hlo hla J Jx hJ hJx (extC loops laps [] 0) hY)
  clear hY hJ hJx hbf hG
  refine callsIn_of_wp Try.func123 rfl trivial ?_ rfl
  simp only [Try.ntmps123, List.size_toArray, List.length_cons, List.length_nil, Nat.reduceAdd, Nat.reduceSub, Array.replicate_succ, Array.replicate_zero, List.push_toArray, List.append_toArray, List.nil_append, List.cons_append]
  gi_wp2_with (refine ⟨trivial, (fun h => by cases h), ?_⟩; refine ((C.out laps _ [] 0 [] Wf (by simp) (Nat.zero_le _) HG.out hj'.out List.prefix_rfl).mono one_way).mono ?_; rintro e w4 ⟨bb, rfl, hout⟩)
  go_end0
  refine ⟨⟨_, rfl⟩, ?_⟩
  rcases hout with ⟨_, h1, _⟩ | ⟨_, q, hq, hx⟩
  · exact .inl h1
  · exact .inr ⟨q, hq, hx⟩

set_option maxHeartbeats 1000000 in
theorem courses_any (loops laps : Int) (w : World) :
    Calls Try.prog 83 #[.int .i64 loops, .int .i64 laps] w fun e w' => e = .returned (.func (.func 123) #[] #[.pointer (some ⟨w.heap.size + 1, 0, none⟩), .pointer (some ⟨w.heap.size, 0, none⟩)]) ∧ (w.alloc (.cells #[.int .i64 loops] 3)).alloc (.cells #[.int .i64 laps] 3) = w' := by
  go_enter Try.func83, Try.ntmps83
  go_wp2
  go_ret
  exact ⟨rfl, rfl⟩
end Go.Proofs.Ytkmcdmidegcbaaa
