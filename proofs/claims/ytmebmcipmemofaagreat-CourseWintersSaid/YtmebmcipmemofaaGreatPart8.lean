/-
The iterator that courses makes, over this seat's program; and what an iterator of courses owes to its caller.
  What is proved: the function that courses hands back yields each course of so many loops and laps, in lexicographic order.
  Conditions: 1 to 1000 laps, at most 1000 loops.
A range over an iterator of courses, over this seat's program: what the loop's owner owes, and what it gets.
  What is proved: a law for the statement, out of the contract of the iterator (SeqC), for a body that goes on or returns.
  Conditions: those of the law.
The iterator that right makes, over this seat's program.
  What is proved: it yields each course that breaks no rule, in lexicographic order.
  Conditions: a stadium and rules that Check lets pass.
What a slice of slices of integers reads as; what chosen's loop keeps.
  What is proved: these notions are kept where other blocks turn.
  Conditions: slices of at most 1000000 elements.
The contracts of chosen and All over this seat's program.
  What is proved: they hand back the right courses that are wanted, in lexicographic order, or that these are too many; nothing that was there before has turned.
  Conditions: slices of at most 1000000 elements.
The contracts of All and of area, snow and has over this seat's program.
  What is proved: what each call returns; nothing that was there before has turned.
  Conditions: slices of at most 1000000 elements.
The contracts of slices.Index, slices.Contains, has, area and snow over this seat's program.
  What is proved: what each call returns; nothing that was there before has turned.
  Conditions: at most 12 loops whose numbers are allowed; depths from 1 to 200.
The contract of Cheapest over this seat's program.
  What is proved: it hands back the right course with the least snow, the first one of several, and its snow, or the error; nothing that was there before has turned.
  Conditions: slices of at most 1000000 elements.
The contracts of CheckWinter, the ends of spans, and the weathers of ends, over this seat's program.
  What is proved: CheckWinter answers the error of a winter; the lists of the worst and of the best weather read as the ends of the days' spans.
  Conditions: slices of at most 1000000 elements.
The contracts of the ends of spans and of the weathers of ends, over this seat's program.
  What is proved: the lists of the worst and of the best weather read as the ends of the days' spans.
  Conditions: slices of at most 1000000 elements.
The contract of spell over this seat's program.
  What is proved: a spell of ends has the winter, and the lists of these ends of its days.
  Conditions: slices of at most 1000000 elements.
slices.Clone of piles, and drained, over this seat's program.
  What is proved: Clone hands back a new slice with the same numbers; drained hands back some piles, in memory of its own.
  Conditions: at most 1000 piles.
-/
import Derived.Test.YtmebmcipmemofaaGreatPart7
import Derived.Laws.EntriesVeiled
namespace Go.Proofs.YtmebmcipmemofaaGreat
open Go.RowKit Go.Shelf
attribute [local go_sem] Oper.semAt_some

def Mc (n : Nat) : Array Value := madeCells #[.int .i64 0] n
theorem Mc_size (n : Nat) : (Mc n).size = n := size_madeCells _ _

theorem mk136 (n : Nat) (h : n ≤ 1000) (w : World) : (Instr.makeSlice 137 (.int .i64 0) (.int .i64 (n : Int))).run Tryz.prog w = .ok (.slice (some ⟨w.heap.size, 0, none⟩) 0 n) (w.alloc (.cells (Mc n) 3)) := by
  obtain ⟨i0, hi, hz0, hz1, hz2⟩ := info_parts Tryz.info3
  have hr := run_make (P := Tryz.prog) w 137 3 i0 (.int .i64 0) Tryz.underlying137 hi hz0 .i64 .i64 0 n (Int.le_refl _) (by omega) (by rw [hz2]; omega) (by omega)
  simp only [Int.toNat_zero, Int.toNat_natCast, hz1, Nat.mul_one] at hr
  exact hr

/-- The blocks that are the iterator's own: those that it has captured, and so many that it lays. -/
def ownOf (capt : Nat → Prop) (m : Nat) (B : Nat) (k : Nat) : Prop := capt k ∨ (B ≤ k ∧ k < B + m)

/-- The blocks that it may turn. -/
def intv (m : Nat) (B : Nat) (k : Nat) : Prop := B ≤ k ∧ k < B + m

/-- THE CONTRACT OF AN ITERATOR OF COURSES. -/
def SeqC (g : Nat) (lb : Array Value) (S : List (List Int)) (capt : Nat → Prop) (m : Nat) (w : World) : Prop :=
  ∀ (l n : Nat) (J Jx : List (List Int) → World → Prop) (W : World), Below w.heap.size w W →
    (∀ s A B, J s A → Apart (intv m W.heap.size) A B → J s B) → (∀ s A B, Jx s A → Apart (intv m W.heap.size) A B → Jx s B) →
    (∀ n' pre c a cap W1, J pre W1 → pre ++ [c] <+: S → IntSl W1 a c → Ty3 W1 a → (∀ p, a = some p → W.heap.size + m ≤ p.block) → YieldAt Fence.wide n' Tryz.prog l #[.slice a c.length cap] W1 fun e W' =>
      (e = .returned (.bool true) ∧ J (pre ++ [c]) W' ∧ Keeps (ownOf capt m W.heap.size) W1 W') ∨ (e = .returned (.bool false) ∧ Jx (pre ++ [c]) W' ∧ Keeps (ownOf capt m W.heap.size) W1 W')) →
    J [] W →
    CallsIn Fence.wide n Tryz.prog g (#[.func (.yield l) #[] #[]] ++ lb) W fun e W' => (∃ v, e = .returned v) ∧ (J S W' ∨ ∃ pre, pre <+: S ∧ Jx pre W')

set_option maxHeartbeats 2000000 in
set_option maxRecDepth 100000 in
theorem courses1_seq (loops laps : Nat) (hlo : loops ≤ 1000) (hla : 1 ≤ laps ∧ laps ≤ 1000) (Bo Bl : Nat) (w : World)
    (ho : w.heap[Bo]? = some (.cells #[.int .i64 loops] 3 (0, 0))) (hl : w.heap[Bl]? = some (.cells #[.int .i64 laps] 3 (0, 0))) :
    SeqC 153 #[.pointer (some ⟨Bl, 0, none⟩), .pointer (some ⟨Bo, 0, none⟩)] (extC loops laps [] 0) (fun k => k = Bo ∨ k = Bl) 4 w := by
  intro l n J Jx W hW hJ hJx hY hj
  have hBo : Bo < W.heap.size := Nat.lt_of_lt_of_le (lt_of_block ho) hW.size
  have hBl : Bl < W.heap.size := Nat.lt_of_lt_of_le (lt_of_block hl) hW.size
  have c1 := blk_cell (blk_below hl hW) 0 rfl
  have hmk := mk136 laps hla.2
  obtain ⟨Wf, hWf⟩ : ∃ Wf, ((((W.alloc (.cells #[.func (.yield l) #[] #[]] 144)).alloc (.cells (Mc laps) 3)).alloc (.cells #[.slice (some ⟨W.heap.size + 1, 0, none⟩) 0 laps] 137)).alloc (.cells #[.func (.func 154) #[] #[.pointer (some ⟨W.heap.size + 2, 0, none⟩), .pointer (some ⟨Bl, 0, none⟩), .pointer (some ⟨W.heap.size, 0, none⟩), .pointer (some ⟨Bo, 0, none⟩), .pointer (some ⟨W.heap.size + 3, 0, none⟩)]] 136)) = Wf := ⟨_, rfl⟩
  have hbf : Below W.heap.size W Wf := by rw [← hWf]; exact ((((Below.refl _ _).alloc (Nat.le_refl _) _).alloc (by simp) _).alloc (by simp <;> omega) _).alloc (by simp <;> omega) _
  have hG : GInv W.heap.size Bo Bl loops laps l [] Wf := by
    refine ⟨blk_below (blk_below ho hW) hbf, blk_below (blk_below hl hW) hbf, ?_, ⟨Mc laps, ?_, Mc_size _, by simp⟩, ?_, ?_⟩ <;> rw [← hWf]
    · exact (Below.heap_alloc _ _ _ (by simp <;> omega)).trans ((Below.heap_alloc _ _ _ (by simp <;> omega)).trans ((Below.heap_alloc _ _ _ (by simp)).trans (heap_alloc_new W _)))
    · refine (Below.heap_alloc _ _ _ (by simp <;> omega)).trans ((Below.heap_alloc _ _ _ (by simp)).trans ?_)
      have := heap_alloc_new (W.alloc (.cells #[.func (.yield l) #[] #[]] 144)) (.cells (Mc laps) 3)
      simpa using this
    · refine (Below.heap_alloc _ _ _ (by simp)).trans ?_
      have := heap_alloc_new ((W.alloc (.cells #[.func (.yield l) #[] #[]] 144)).alloc (.cells (Mc laps) 3)) (.cells #[.slice (some ⟨W.heap.size + 1, 0, none⟩) 0 laps] 137)
      simpa using this
    · have := heap_alloc_new (((W.alloc (.cells #[.func (.yield l) #[] #[]] 144)).alloc (.cells (Mc laps) 3)).alloc (.cells #[.slice (some ⟨W.heap.size + 1, 0, none⟩) 0 laps] 137)) (.cells #[.func (.func 154) #[] #[.pointer (some ⟨W.heap.size + 2, 0, none⟩), .pointer (some ⟨Bl, 0, none⟩), .pointer (some ⟨W.heap.size, 0, none⟩), .pointer (some ⟨Bo, 0, none⟩), .pointer (some ⟨W.heap.size + 3, 0, none⟩)]] 136)
      simpa using this
  have g1 : Wf.cell? ⟨W.heap.size + 1 + 1 + 1, 0, none⟩ = some _ := blk_cell hG.bg 0 rfl
  have hj' := Lib.hid (hJ _ _ _ hj (Apart.of_below hbf))
  have HG := Lib.hid hG
  have C := Lib.hid (grow_in l W.heap.size Bo Bl loops laps (ownOf (fun k => k = Bo ∨ k = Bl) 4 W.heap.size) (intv 4 W.heap.size) ⟨.inl (.inl rfl), .inl (.inr rfl), fun k h1 h2 => .inr ⟨h1, h2⟩⟩ (fun k h1 h2 => ⟨h1, h2⟩) hBo hBl hlo hla J Jx hJ hJx (extC loops laps [] 0) hY)
  clear hY hJ hJx hbf hG
  refine callsIn_of_wp Tryz.func153 rfl trivial ?_ rfl
  simp only [Tryz.ntmps153, List.size_toArray, List.length_cons, List.length_nil, Nat.reduceAdd, Nat.reduceSub, Array.replicate_succ, Array.replicate_zero, List.push_toArray, List.append_toArray, List.nil_append, List.cons_append]
  gi_wp2_with (refine ⟨trivial, (fun h => by cases h), ?_⟩; refine ((C.out laps _ [] 0 [] Wf (by simp) (Nat.zero_le _) HG.out hj'.out List.prefix_rfl).mono one_way).mono ?_; rintro e w4 ⟨bb, rfl, hout⟩)
  go_end0
  refine ⟨⟨_, rfl⟩, ?_⟩
  rcases hout with ⟨_, h1, _⟩ | ⟨_, q, hq, hx⟩
  · exact .inl h1
  · exact .inr ⟨q, hq, hx⟩

set_option maxHeartbeats 1000000 in
theorem courses_any (loops laps : Int) (w : World) :
    Calls Tryz.prog 113 #[.int .i64 loops, .int .i64 laps] w fun e w' => e = .returned (.func (.func 153) #[] #[.pointer (some ⟨w.heap.size + 1, 0, none⟩), .pointer (some ⟨w.heap.size, 0, none⟩)]) ∧ (w.alloc (.cells #[.int .i64 loops] 3)).alloc (.cells #[.int .i64 laps] 3) = w' := by
  go_enter Tryz.func113, Tryz.ntmps113
  go_wp2
  go_ret
  exact ⟨rfl, rfl⟩
end Go.Proofs.YtmebmcipmemofaaGreat

namespace Go.Proofs.YtmebmcipmemofaaGreat
open Go.RowKit Go.Shelf

theorem Apart.more {own own' : Nat → Prop} {A B : World} (h : Apart own A B) (ho : ∀ k, own k → own' k) : Apart own' A B := ⟨h.os, h.tape, h.output, h.size, fun k hk hn => h.block k hk (fun h' => hn (ho k h'))⟩
theorem putObj_size (A : World) (r : Nat) (o : Obj) : (A.putObj r o).heap.size = A.heap.size := by simp [World.putObj]
theorem Apart.putObj {own : Nat → Prop} (A : World) (r : Nat) (o : Obj) (h : own r) : Apart own A (A.putObj r o) :=
  ⟨rfl, rfl, rfl, by rw [putObj_size]; exact Nat.le_refl _, fun k _ hn => World.putObj_heap_other (fun e => hn (e ▸ h))⟩
theorem Keeps.putObj {own : Nat → Prop} (A : World) (r : Nat) (o : Obj) (h : ¬ own r) : Keeps own A (A.putObj r o) :=
  ⟨by rw [putObj_size]; exact Nat.le_refl _, fun k _ hn => World.putObj_heap_other (fun e => h (e ▸ hn))⟩
theorem IntSl.putObj {A : World} {a : Option Addr} {c : List Int} (h : IntSl A a c) (r : Nat) (o : Obj) (hne : ∀ q, a = some q → q.block ≠ r) : IntSl (A.putObj r o) a c := fun h0 => by
  obtain ⟨b, off, rfl, hbs, hc⟩ := h h0
  refine ⟨b, off, rfl, by rw [putObj_size]; exact hbs, fun j hj => ?_⟩
  rw [World.cell?_of_block (w := A) (a := ⟨b, off + j, none⟩) (World.putObj_heap_other (hne ⟨b, off, none⟩ rfl))]
  exact hc j hj

theorem Ty3.putObj {A : World} {a : Option Addr} (h : Ty3 A a) (r : Nat) (o : Obj) (hne : ∀ q, a = some q → q.block ≠ r) : Ty3 (A.putObj r o) a := fun q hq => by
  obtain ⟨cs, h1⟩ := h q hq
  exact ⟨cs, (World.putObj_heap_other (hne q hq)).trans h1⟩

/-- How the body of a round may be left. -/
def bPost (own : Nat → Prop) (I Ix : List (List Int) → World → Prop) (xs : List (List Int)) (W : World) : Exit → Act → World → Prop
  | .normal, _, W' => Keeps own W W' ∧ I xs W'
  | .ret, _, W' => Keeps own W W' ∧ Ix xs W'
  | _, _, _ => False

set_option maxHeartbeats 1000000 in
theorem range_seqC {n : Nat} {g : Operand} {p : Tmp} {assign body : Code} {Q : Exit → Act → World → Prop} {a : Act} {w : World} {gf : Nat} {lb : Array Value} {S : List (List Int)} {capt : Nat → Prop} {m : Nat} {w0 : World}
    (hgv : a.eval g = .func (.func gf) #[] lb) (eg : ∀ args w, (callFunc gf args).run Tryz.prog w = .ok (.enter gf args) w)
    (hseq : SeqC gf lb S capt m w0) (hb0 : Below w0.heap.size w0 w) (hcapt : ∀ k, capt k → k < w.heap.size)
    (I Ix : List (List Int) → World → Prop)
    (hI : ∀ s A B, I s A → Apart (intv (m + 2) w.heap.size) A B → I s B) (hIx : ∀ s A B, Ix s A → Apart (intv (m + 2) w.heap.size) A B → Ix s B) (h0 : I [] w)
    (a₁ : Value → Act)
    (hassign : ∀ (l k : Nat) (v : Value) (W : World) (K : Act → World → Prop), K (a₁ v) W → assign.wpIn (Fence.wide.inRound l) k Tryz.prog (Exit.then K (fun _ _ _ => False)) { tmps := a.tmps.setIfInBounds p v, defers := [] } W)
    (hbody : ∀ (l k : Nat) (pre : List (List Int)) (c : List Int) (av : Option Addr) (cap : Nat) (W : World), I pre W → pre ++ [c] <+: S → IntSl W av c → Ty3 W av → (∀ q, av = some q → w.heap.size + 2 + m ≤ q.block) →
      body.wpIn (Fence.wide.inRound l) k Tryz.prog (bPost (ownOf capt (m + 2) w.heap.size) I Ix (pre ++ [c]) W) (a₁ (.slice av c.length cap)) W)
    (hdone : ∀ (W : World), I S W → W.heap[w.heap.size]? = some (.deferred (some [])) → Q .normal { a with defers := { target := .collected w.heap.size, args := #[] } :: a.defers } W)
    (hstop : ∀ (pre : List (List Int)) (W : World), pre <+: S → Ix pre W → W.heap[w.heap.size]? = some (.deferred (some [])) → Code.ret.wpIn Fence.wide n Tryz.prog Q { a with defers := { target := .collected w.heap.size, args := #[] } :: a.defers } W) :
    (Code.rangeFunc g #[p] assign body).wpIn Fence.wide n Tryz.prog Q a w := by
  refine wpIn_rangeFunc ?_
  intro fn hfn
  obtain ⟨rec, hrec⟩ : ∃ rec : LoopState → Option Code → Loop, rec = fun st pe => { state := st, pending := pe, fn, tmps := a.tmps, params := #[p], assign, body, defers := w.heap.size } := ⟨_, rfl⟩
  obtain ⟨W1, hW1⟩ : ∃ W1, (w.alloc (.deferred (some []))).alloc (.loop (rec .ready none)) = W1 := ⟨_, rfl⟩
  have hs1 : W1.heap.size = w.heap.size + 2 := by rw [← hW1]; simp
  have hL1 : W1.heap[w.heap.size + 1]? = some (.loop (rec .ready none)) := by
    rw [← hW1]; have := World.alloc_heap_new (w.alloc (.deferred (some []))) (.loop (rec .ready none)); rwa [World.size_alloc] at this
  have hK1 : W1.heap[w.heap.size]? = some (.deferred (some [])) := by
    rw [← hW1]; exact (Below.heap_alloc _ _ _ (by simp)).trans (World.alloc_heap_new w _)
  have hbw : Below w.heap.size w W1 := by rw [← hW1]; exact ((Below.refl _ w).alloc (Nat.le_refl _) _).alloc (by simp) _
  have hI1 : I [] W1 := hI _ _ _ h0 (Apart.of_below hbw)
  have less : ∀ k, ownOf capt m W1.heap.size k → ownOf capt (m + 2) w.heap.size k := fun k h => by
    rw [hs1] at h
    rcases h with h | h
    · exact .inl h
    · exact .inr ⟨by omega, by omega⟩
  have lessT : ∀ k, intv m W1.heap.size k → intv (m + 2) w.heap.size k := fun k h => by
    rw [hs1] at h; exact ⟨by have := h.1; omega, by have := h.2; omega⟩
  have recInT : intv (m + 2) w.heap.size (w.heap.size + 1) := ⟨by omega, by omega⟩
  have recOutT : ¬ intv m W1.heap.size (w.heap.size + 1) := fun h => by rw [hs1] at h; have := h.1; omega
  have defOutT : ¬ intv m W1.heap.size w.heap.size := fun h => by rw [hs1] at h; have := h.1; omega
  have recIn : ownOf capt (m + 2) w.heap.size (w.heap.size + 1) := .inr ⟨by omega, by omega⟩
  have defIn : ownOf capt (m + 2) w.heap.size w.heap.size := .inr ⟨by omega, by omega⟩
  have recOut : ¬ ownOf capt m W1.heap.size (w.heap.size + 1) := fun h => by
    rw [hs1] at h
    rcases h with h | h
    · have := hcapt _ h; omega
    · omega
  refine ⟨w.heap.size + 1, [{ target := .collected w.heap.size, args := #[] }], W1, { target := .fn (.func gf) lb, args := #[.func (.yield (w.heap.size + 1)) #[] #[]] }, W1, gf,
    #[.func (.yield (w.heap.size + 1)) #[] #[]] ++ lb, W1, ?_, ?_, ?_, ?_, fun h => (by cases h), ?_⟩
  · rw [← hW1, hrec]; exact run_enterLoop_outer _ _ _ _ _
  · simp only [resolve, hgv]
    simp [go_sem]
  · intro f' hf'; trivial
  · simp [invoke, go_sem, eg]
  · refine (hseq (w.heap.size + 1) (n - 1)
      (fun pre W => I pre W ∧ W.heap[w.heap.size + 1]? = some (.loop (rec .ready none)) ∧ W.heap[w.heap.size]? = some (.deferred (some [])))
      (fun pre W => Ix pre W ∧ W.heap[w.heap.size + 1]? = some (.loop (rec .done (some .ret))) ∧ W.heap[w.heap.size]? = some (.deferred (some [])))
      W1 (hb0.trans (hbw.mono hb0.size))
      (fun s A B h hap => ⟨hI _ _ _ h.1 (hap.more lessT), (hap.block _ (lt_of_block h.2.1) recOutT).trans h.2.1, (hap.block _ (lt_of_block h.2.2) defOutT).trans h.2.2⟩)
      (fun s A B h hap => ⟨hIx _ _ _ h.1 (hap.more lessT), (hap.block _ (lt_of_block h.2.1) recOutT).trans h.2.1, (hap.block _ (lt_of_block h.2.2) defOutT).trans h.2.2⟩)
      ?_ ⟨hI1, hL1, hK1⟩).mono ?_
    · -- one round
      rintro n' pre c av cap W ⟨hi, hl, hk⟩ hpre hsl hty hfr
      rw [hs1] at hfr
      have hlt : w.heap.size + 1 < W.heap.size := lt_of_block hl
      have hy := run_yield (P := Tryz.prog) (args := #[.slice av c.length cap]) hl (by rw [hrec]; rfl)
      rw [hrec] at hy
      have hz : ((#[p].zip #[Value.slice av c.length cap]).foldl (fun (tmps : Array Value) (x : Tmp × Value) => tmps.setIfInBounds x.1 x.2) a.tmps) = a.tmps.setIfInBounds p (.slice av c.length cap) := by simp
      refine ⟨fn, a.tmps.setIfInBounds p (.slice av c.length cap), assign, body, ?_, ?_⟩
      · rw [← hz]; exact hy
      refine roundIn_of_wpIn hfn ?_
      refine hassign _ _ _ W _ ⟨_, run_beginRound hl (by rw [hrec]), ?_⟩
      obtain ⟨busy, hbusy⟩ : ∃ busy : Loop, { rec .ready none with state := .busy } = busy := ⟨_, rfl⟩
      rw [hbusy]
      have hl2 : (W.putObj (w.heap.size + 1) (.loop busy)).heap[w.heap.size + 1]? = some (.loop busy) := World.putObj_heap_same hlt
      have hk2 : (W.putObj (w.heap.size + 1) (.loop busy)).heap[w.heap.size]? = some (.deferred (some [])) := (World.putObj_heap_other (by omega)).trans hk
      refine wpIn_mono (hbody _ _ pre c av cap _ (hI _ _ _ hi (Apart.putObj _ _ _ recInT)) hpre (hsl.putObj _ _ (fun q hq => by have := hfr q hq; omega)) (hty.putObj _ _ (fun q hq => by have := hfr q hq; omega)) hfr) ?_
      have fin : ∀ (jump : Option Code) (W3 : World), Keeps (ownOf capt (m + 2) w.heap.size) (W.putObj (w.heap.size + 1) (.loop busy)) W3 →
          (Instr.endRound (w.heap.size + 1) jump).run Tryz.prog W3 = .ok (.bool jump.isNone) (W3.putObj (w.heap.size + 1) (.loop (rec (if jump.isNone then .ready else .done) jump))) ∧
          (W3.putObj (w.heap.size + 1) (.loop (rec (if jump.isNone then .ready else .done) jump))).heap[w.heap.size + 1]? = some (.loop (rec (if jump.isNone then .ready else .done) jump)) ∧
          (W3.putObj (w.heap.size + 1) (.loop (rec (if jump.isNone then .ready else .done) jump))).heap[w.heap.size]? = some (.deferred (some [])) := fun jump W3 hk3 => by
        have hl3 := hk3.blk recIn hl2
        have := run_endRound (P := Tryz.prog) jump hl3
        rw [← hbusy, hrec] at this
        rw [hrec]
        exact ⟨this, World.putObj_heap_same (lt_of_block hl3), (World.putObj_heap_other (by omega)).trans (hk3.blk defIn hk2)⟩
      rintro e a3 W3 hp
      cases e with
      | normal =>
        obtain ⟨hk3, hi3⟩ := hp
        obtain ⟨hr, hl4, hk4⟩ := fin none W3 hk3
        exact ⟨_, _, hr, .inl ⟨rfl, ⟨hI _ _ _ hi3 (Apart.putObj _ _ _ recInT), hl4, hk4⟩, ((Keeps.putObj _ _ _ recOut).trans (hk3.less less)).trans (Keeps.putObj _ _ _ recOut)⟩⟩
      | ret =>
        obtain ⟨hk3, hi3⟩ := hp
        obtain ⟨hr, hl4, hk4⟩ := fin (some .ret) W3 hk3
        exact ⟨_, _, hr, .inr ⟨rfl, ⟨hIx _ _ _ hi3 (Apart.putObj _ _ _ recInT), hl4, hk4⟩, ((Keeps.putObj _ _ _ recOut).trans (hk3.less less)).trans (Keeps.putObj _ _ _ recOut)⟩⟩
      | exit id => exact hp.elim
      | goto t => exact hp.elim
      | panic ch => exact hp.elim
      | outgrown => exact hp.elim
    · -- behind the iterator
      rintro e W2 ⟨⟨v, rfl⟩, (⟨hi, hl, hk⟩ | ⟨pre, hpre, hi, hl, hk⟩)⟩
      · exact ⟨none, _, by have := run_endLoop (P := Tryz.prog) hl (by rw [hrec]; simp); rw [hrec] at this; exact this, hdone _ (hI _ _ _ hi (Apart.putObj _ _ _ recInT)) ((World.putObj_heap_other (by omega)).trans hk)⟩
      · exact ⟨some .ret, _, by have := run_endLoop (P := Tryz.prog) hl (by rw [hrec]; simp); rw [hrec] at this; exact this, hstop pre _ hpre (hIx _ _ _ hi (Apart.putObj _ _ _ recInT)) ((World.putObj_heap_other (by omega)).trans hk)⟩
end Go.Proofs.YtmebmcipmemofaaGreat

namespace Go.Proofs.YtmebmcipmemofaaGreat
open Go.RowKit Go.Shelf
attribute [local go_sem] Oper.semAt_some

def Mk.none (m : Mk) : Bool := !m.a && !m.b && !m.c && !m.d && !m.e
/-- A course breaks no rule. -/
def okC (xs : List Lp) (r : Ru) (c : List Int) : Bool := (judgeM xs r c).none

theorem eg123 : ∀ args w, (callFunc 153 args).run Tryz.prog w = .ok (.enter 153 args) w := enters_of Tryz.func153 (by kernel_rfl) rfl

theorem extC_ok (loops : Nat) : ∀ (d : Nat) (cur : List Int) (least : Nat), (∀ i ∈ cur, 0 ≤ i ∧ i < (loops : Int)) → ∀ c ∈ extC loops d cur least, c.length = cur.length + d ∧ ∀ i ∈ c, 0 ≤ i ∧ i < (loops : Int) := by
  intro d
  induction d with
  | zero => intro cur least h c hc; simp [extC] at hc; subst hc; exact ⟨rfl, h⟩
  | succ d ih =>
    intro cur least h c hc
    simp only [extC, List.mem_flatten, List.mem_map] at hc
    obtain ⟨l, ⟨i, hi, rfl⟩, hc⟩ := hc
    have hi' := List.mem_range'.1 hi
    obtain ⟨j, hj, rfl⟩ := hi'
    have := ih (cur ++ [((least + 1 * j : Nat) : Int)]) (least + 1 * j) (fun x hx => by
      rcases List.mem_append.1 hx with hx | hx
      · exact h x hx
      · simp at hx; subst hx; omega) c hc
    rw [List.length_append] at this
    simp at this
    exact ⟨by omega, this.2⟩

theorem sl_apart {α : Type} {sz : Nat} {cells : α → List Int} {A B : World} {a : Option Addr} {xs : List α} (h : Sl sz cells A a xs) (hs : A.heap.size ≤ B.heap.size) (hb : ∀ p, a = some p → B.heap[p.block]? = A.heap[p.block]?) : Sl sz cells B a xs := fun h0 => by
  obtain ⟨b, off, rfl, hbs, hc⟩ := h h0
  exact ⟨b, off, rfl, Nat.lt_of_lt_of_le hbs hs, fun j x i u hx hu => (World.cell?_of_block (w := A) (a := ⟨b, off + j * sz + i, none⟩) (hb ⟨b, off, none⟩ rfl)).trans (hc j x i u hx hu)⟩

theorem eq130 (a b c d e : Bool) (w : World) : (Op.equalIn 10000 183 (.agg #[.bool a, .bool b, .bool c, .bool d, .bool e]) (.agg #[.bool false, .bool false, .bool false, .bool false, .bool false])).run Tryz.prog w = .ok (!a && !b && !c && !d && !e) w := by
  cases a <;> cases b <;> cases c <;> cases d <;> cases e <;> kernel_rfl
theorem eq130' (m : Mk) (bb : Bool) (h : m.none = bb) (w : World) : (Op.equalIn 10000 183 (.agg #[.bool m.a, .bool m.b, .bool m.c, .bool m.d, .bool m.e]) (.agg #[.bool false, .bool false, .bool false, .bool false, .bool false])).run Tryz.prog w = .ok bb w := by
  rw [← h]; exact eq130 _ _ _ _ _ w

/-- What stays while the loop of right's iterator runs. -/
structure RInv (B Bs Br l : Nat) (a : Option Addr) (xs : List Lp) (cap : Nat) (r : Ru) (W : World) : Prop where
  yd : W.heap[B]? = some (.cells #[.func (.yield l) #[] #[]] 144 (0, 0))
  s : W.heap[Bs]? = some (.cells #[.slice a xs.length cap] 22 (0, 0))
  r : RuAt W Br r
  x : Sl 3 Lp.cells W a xs
theorem RInv.below {B Bs Br l : Nat} {a : Option Addr} {xs : List Lp} {cap : Nat} {r : Ru} {W W' : World} (h : RInv B Bs Br l a xs cap r W) (hb : Below W.heap.size W W') : RInv B Bs Br l a xs cap r W' :=
  ⟨blk_below h.yd hb, blk_below h.s hb, h.r.below hb, h.x.below hb⟩
theorem sl_lt {α : Type} {sz : Nat} {cells : α → List Int} {A : World} {a : Option Addr} {xs : List α} (h : Sl sz cells A a xs) (h0 : 0 < xs.length) : ∀ p, a = some p → p.block < A.heap.size := fun p hp => by
  obtain ⟨b, off, rfl, hbs, _⟩ := h h0; cases hp; exact hbs
theorem RInv.same {B Bs Br l : Nat} {a : Option Addr} {xs : List Lp} {cap : Nat} {r : Ru} {W W' : World} (h : RInv B Bs Br l a xs cap r W) (h0 : 0 < xs.length) (hs : W.heap.size ≤ W'.heap.size)
    (hk : ∀ k, k < W.heap.size → (k = B ∨ k = Bs ∨ k = Br ∨ ∃ p, a = some p ∧ k = p.block) → W'.heap[k]? = W.heap[k]?) : RInv B Bs Br l a xs cap r W' :=
  ⟨(hk _ (lt_of_block h.yd) (.inl rfl)).trans h.yd, (hk _ (lt_of_block h.s) (.inr (.inl rfl))).trans h.s, (hk _ (lt_of_block h.r) (.inr (.inr (.inl rfl)))).trans h.r,
   sl_apart h.x hs (fun p hp => hk _ (sl_lt h.x h0 p hp) (.inr (.inr (.inr ⟨p, hp, rfl⟩))))⟩

set_option maxHeartbeats 600000 in
set_option maxRecDepth 100000 in
theorem right1_seq (a : Option Addr) (xs : List Lp) (cap : Nat) (r : Ru) (laps : Nat) (Bs Br : Nat) (w : World) (hx : Sl 3 Lp.cells w a xs) (hck : checkE xs r = 0) (hlaps : r.laps = laps)
    (hs : w.heap[Bs]? = some (.cells #[.slice a xs.length cap] 22 (0, 0))) (hr : RuAt w Br r) :
    SeqC 134 #[.pointer (some ⟨Bs, 0, none⟩), .pointer (some ⟨Br, 0, none⟩)] ((extC xs.length laps [] 0).filter (okC xs r)) (fun k => k = Bs ∨ k = Br ∨ ∃ p, a = some p ∧ k = p.block) 9 w := by
  obtain ⟨hst, hru⟩ := check_ok hck
  obtain ⟨hal, hl1, hl2⟩ := stad_ok hst
  have hlap : 1 ≤ laps ∧ laps ≤ 6 := by
    simp [rulesB, withinB] at hru; omega
  clear hck hst hru
  intro l n J Jx W hW hJ hJx hY hj
  have hxW := hx.below hW
  have hsW := blk_below hs hW
  have hrW : RuAt W Br r := hr.below hW
  have hBs : Bs < W.heap.size := lt_of_block hsW
  have hBr : Br < W.heap.size := lt_of_block hrW
  have c0 := blk_cell hsW 0 rfl
  have c1 : W.cell? ⟨Br, 0, none⟩ = some (.int .i64 laps) := by rw [← hlaps]; exact hrW.cells.1
  clear hlaps
  refine callsIn_of_wp_marks Tryz.func134 rfl trivial ?_ rfl
  simp only [Tryz.ntmps134, List.size_toArray, List.length_cons, List.length_nil, Nat.reduceAdd, Nat.reduceSub, Array.replicate_succ, Array.replicate_zero, List.push_toArray, List.append_toArray, List.nil_append, List.cons_append]
  gi_wp2_with (refine ⟨trivial, (fun h => by cases h), ?_⟩; refine (callsIn_wide.2 (courses_any xs.length laps _)).mono ?_; rintro e w1 ⟨rfl, rfl⟩)
  obtain ⟨Wr, hWr⟩ : ∃ Wr, ((W.alloc (.cells #[.func (.yield l) #[] #[]] 144)).alloc (.cells #[.int .i64 (xs.length : Int)] 3)).alloc (.cells #[.int .i64 (laps : Int)] 3) = Wr := ⟨_, rfl⟩
  have hzr : Wr.heap.size = W.heap.size + 3 := by rw [← hWr]; simp
  have hbr : Below W.heap.size W Wr := by rw [← hWr]; exact (((Below.refl _ _).alloc (Nat.le_refl _) _).alloc (by simp) _).alloc (by simp <;> omega) _
  have hyd : Wr.heap[W.heap.size]? = some (.cells #[.func (.yield l) #[] #[]] 144 (0, 0)) := by
    rw [← hWr]; exact (Below.heap_alloc _ _ _ (by simp <;> omega)).trans ((Below.heap_alloc _ _ _ (by simp)).trans (heap_alloc_new W _))
  have hho : Wr.heap[W.heap.size + 1]? = some (.cells #[.int .i64 (xs.length : Int)] 3 (0, 0)) := by
    rw [← hWr]; refine (Below.heap_alloc _ _ _ (by simp)).trans ?_
    have := heap_alloc_new (W.alloc (.cells #[.func (.yield l) #[] #[]] 144)) (.cells #[.int .i64 (xs.length : Int)] 3); simpa using this
  have hhl : Wr.heap[W.heap.size + 1 + 1]? = some (.cells #[.int .i64 (laps : Int)] 3 (0, 0)) := by
    rw [← hWr]; have := heap_alloc_new ((W.alloc (.cells #[.func (.yield l) #[] #[]] 144)).alloc (.cells #[.int .i64 (xs.length : Int)] 3)) (.cells #[.int .i64 (laps : Int)] 3); simpa using this
  have hR0 : RInv W.heap.size Bs Br l a xs cap r Wr := ⟨hyd, blk_below hsW hbr, hrW.below hbr, hxW.below hbr⟩
  have hab : ∀ p, a = some p → p.block < W.heap.size := sl_lt hxW (by omega)
  rw [hWr]
  have hseq := courses1_seq xs.length laps (by omega) ⟨hlap.1, by omega⟩ (W.heap.size + 1) (W.heap.size + 1 + 1) Wr hho hhl
  have more : ∀ k, ownOf (fun k => k = W.heap.size + 1 ∨ k = W.heap.size + 1 + 1) (4 + 2) Wr.heap.size k → ownOf (fun k => k = Bs ∨ k = Br ∨ ∃ p, a = some p ∧ k = p.block) 9 W.heap.size k := fun k h => by
    rw [hzr] at h
    refine .inr ?_
    rcases h with (h | h) | h <;> omega
  have moreT : ∀ k, intv (4 + 2) Wr.heap.size k → intv 9 W.heap.size k := fun k h => by
    rw [hzr] at h; exact ⟨by have := h.1; omega, by have := h.2; omega⟩
  have notIn : ∀ k, (k = W.heap.size ∨ k = Bs ∨ k = Br ∨ ∃ p, a = some p ∧ k = p.block) → ¬ intv (4 + 2) Wr.heap.size k := fun k h h' => by
    rw [hzr] at h'
    have h1 := h'.1
    rcases h with h | h | h | ⟨p, hp, rfl⟩
    · omega
    · omega
    · omega
    · have := hab p hp; omega
  refine range_seqC (gf := 153) (lb := #[.pointer (some ⟨W.heap.size + 1 + 1, 0, none⟩), .pointer (some ⟨W.heap.size + 1, 0, none⟩)]) rfl eg123 hseq (Below.refl _ _) (fun k h => by rw [hzr]; rcases h with h | h <;> omega)
    (fun pre W' => J (pre.filter (okC xs r)) W' ∧ RInv W.heap.size Bs Br l a xs cap r W') (fun pre W' => Jx (pre.filter (okC xs r)) W')
    (fun s A B h hap => ⟨hJ _ _ _ h.1 (hap.more moreT), h.2.same (by omega) hap.size (fun k hk hk' => hap.block k hk (notIn k hk'))⟩) (fun s A B h hap => hJx _ _ _ h (hap.more moreT))
    ⟨hJ _ _ _ hj (Apart.of_below hbr), hR0⟩
    (fun v => { tmps := #[.func (.yield l) #[] #[], .pointer (some ⟨Bs, 0, none⟩), .pointer (some ⟨Br, 0, none⟩), .pointer (some ⟨W.heap.size, 0, none⟩), v, .slice a xs.length cap, .int .i64 (xs.length : Int), .pointer (some ⟨Br, 0, none⟩), .int .i64 (laps : Int), .func (.func 153) #[] #[.pointer (some ⟨W.heap.size + 1 + 1, 0, none⟩), .pointer (some ⟨W.heap.size + 1, 0, none⟩)], v, undef, undef, undef, undef, undef, undef, undef, undef, undef, undef, undef, undef], defers := [] })
    ?assign ?body ?done ?stop
  case assign =>
    intro l k v W K hK
    gi_wp2
    exact hK
  case body =>
    rintro l2 k pre c av ccap W1 ⟨hj1, hr1⟩ hpre hsl hty hfr
    have hcS : c ∈ extC xs.length laps [] 0 := hpre.subset (by simp)
    obtain ⟨hcl, hcin⟩ := extC_ok xs.length laps [] 0 (by simp) c hcS
    simp at hcl
    have hcl1 : c.length ≤ 6 := by omega
    clear hcl
    have d0 := blk_cell hr1.s 0 rfl
    obtain ⟨e0, e1, e2, e3, e4, e5, e6, e7, e8⟩ := hr1.r.cells
    have HI := Lib.hid hcin
    clear hcin
    have Hpre := Lib.hid hpre
    clear hpre
    have hfil : (pre ++ [c]).filter (okC xs r) = pre.filter (okC xs r) ++ [c].filter (okC xs r) := List.filter_append _ _
    cases hok : okC xs r c
    · have heq := eq130' (judgeM xs r c) false hok
      have HF : Hid ((pre ++ [c]).filter (okC xs r) = pre.filter (okC xs r)) := by show _ = _; rw [hfil]; simp [hok]
      clear hok hfil
      gi_wp2_with (refine ⟨trivial, (fun h => by cases h), ?_⟩; refine (CallsIn.inRound l2 (callsIn_wide.2 (judge_any a xs cap r av c ccap _ hr1.x hsl (by omega) (by omega) hal HI.out))).mono ?_; rintro e w1 ⟨rfl, hb1⟩)
      refine ⟨fun _ h => (by cases h), ?_⟩
      gi_wp2
      exact ⟨Keeps.of_below hb1, by rw [HF.out]; exact hJ _ _ _ hj1 (Apart.of_below hb1), hr1.below hb1⟩
    · have heq := eq130' (judgeM xs r c) true hok
      have HF : Hid ((pre ++ [c]).filter (okC xs r) = pre.filter (okC xs r) ++ [c]) := by show _ = _; rw [hfil]; simp [hok]
      have HS : Hid (pre.filter (okC xs r) ++ [c] <+: (extC xs.length laps [] 0).filter (okC xs r)) := by
        obtain ⟨t, ht⟩ := Hpre.out
        exact ⟨t.filter (okC xs r), by rw [← HF.out, ← List.filter_append, ht]⟩
      clear hok hfil
      gi_wp2_with (first
        | (refine ⟨trivial, (fun h => by cases h), ?_⟩; refine (CallsIn.inRound l2 (callsIn_wide.2 (judge_any a xs cap r av c ccap _ hr1.x hsl (by omega) (by omega) hal HI.out))).mono ?_; rintro e w1 ⟨rfl, hb1⟩; have f0 := blk_cell (blk_below hr1.yd hb1) 0 rfl; obtain ⟨fn, tmps, assign, body, hy, hR⟩ := hY (k - 1) _ c av ccap w1 (hJ _ _ _ hj1 (Apart.of_below hb1)) HS.out (hsl.below hb1) (hty.below hb1) (fun p hp => by have := hfr p hp; omega); replace hR := hR.mono (one_way (A := fun W' => J (pre.filter (okC xs r) ++ [c]) W' ∧ Keeps (ownOf (fun k => k = Bs ∨ k = Br ∨ ∃ p, a = some p ∧ k = p.block) 9 W.heap.size) w1 W') (B := fun W' => Jx (pre.filter (okC xs r) ++ [c]) W' ∧ Keeps (ownOf (fun k => k = Bs ∨ k = Br ∨ ∃ p, a = some p ∧ k = p.block) 9 W.heap.size) w1 W')))
        | (refine ⟨(fun h => by cases h), ?_⟩; refine (show RoundIn (Fence.wide.inRound l2) _ _ _ _ _ _ _ _ _ from hR).mono ?_; clear hR hy; rintro e w2 ⟨bb, rfl, hout⟩))
      · have hb : bb = false := by simp_all
        rcases hout with ⟨h, _⟩ | ⟨_, hx2, hk2⟩
        · rw [hb] at h; cases h
        · exact ⟨(Keeps.of_below hb1).trans (hk2.less more), by show Jx ((pre ++ [c]).filter (okC xs r)) w2; rw [HF.out]; exact hx2⟩
      · have hb : bb = true := by simp_all
        rcases hout with ⟨_, hj2, hk2⟩ | ⟨h, _⟩
        · refine ⟨(Keeps.of_below hb1).trans (hk2.less more), by show J ((pre ++ [c]).filter (okC xs r)) w2; rw [HF.out]; exact hj2, (hr1.below hb1).same (by omega) hk2.size (fun k hk hm => hk2.block k hk ?_)⟩
          rcases hm with hm | hm
          · exact .inr ⟨by omega, by omega⟩
          · exact .inl hm
        · rw [hb] at h; cases h
  case done =>
    rintro W2 ⟨hj2, _⟩ hK
    gi_wp2
    refine ⟨by simp, .inl ⟨_, _, rfl, run_takeDeferred hK, ?_⟩⟩
    refine ⟨_, results_none rfl _ _ _, ⟨_, rfl⟩, .inl ?_⟩
    exact hJ _ _ _ hj2 (Apart.putObj _ _ _ ⟨by omega, by omega⟩)
  case stop =>
    rintro pre W2 hpre hx2 hK
    gi_wp2
    refine ⟨by simp, .inl ⟨_, _, rfl, run_takeDeferred hK, ?_⟩⟩
    refine ⟨_, results_none rfl _ _ _, ⟨_, rfl⟩, .inr ⟨pre.filter (okC xs r), ?_, ?_⟩⟩
    · obtain ⟨t, ht⟩ := hpre
      exact ⟨t.filter (okC xs r), by rw [← List.filter_append, ht]⟩
    · exact hJx _ _ _ hx2 (Apart.putObj _ _ _ ⟨by omega, by omega⟩)

set_option maxHeartbeats 1000000 in
theorem right_any (a : Option Addr) (n cap : Nat) (r : Ru) (w : World) :
    Calls Tryz.prog 86 #[.slice a n cap, r.v] w fun e w' => e = .returned (.func (.func 134) #[] #[.pointer (some ⟨w.heap.size, 0, none⟩), .pointer (some ⟨w.heap.size + 1, 0, none⟩)]) ∧ (w.alloc (.cells #[.slice a n cap] 22)).alloc (.cells #[.int .i64 r.laps, .int .i64 r.len.lo, .int .i64 r.len.hi, .int .i64 r.climb.lo, .int .i64 r.climb.hi, .int .i64 r.lap.lo, .int .i64 r.lap.hi, .int .i64 r.wide, .int .i64 r.uses] 26) = w' := by
  go_enter Tryz.func86, Tryz.ntmps86
  go_wp2
  go_ret
  exact ⟨rfl, rfl⟩
end Go.Proofs.YtmebmcipmemofaaGreat

namespace Go.Proofs.YtmebmcipmemofaaGreat
open Go.RowKit Go.Shelf
attribute [local go_sem] Oper.semAt_some

theorem Tryz.info27 : (Tryz.prog.info? 27).map (fun i => (i.zero, i.size, i.bytes)) = some (some (.slice none 0 0), 1, 24) := by kernel_rfl

/-- Values that are slices of integers, each in a block from lo on. -/
structure Rows2 (W : World) (lo : Nat) (vals : List Value) (cs : List (List Int)) : Prop where
  len : vals.length = cs.length
  at' : ∀ (j : Nat) (c : List Int), cs[j]? = some c → ∃ (a : Option Addr) (cap : Nat), vals[j]? = some (Value.slice a c.length cap) ∧ IntSl W a c ∧ Ty3 W a ∧ (∀ p, a = some p → lo ≤ p.block)

theorem Rows2.nil (W : World) (lo : Nat) : Rows2 W lo [] [] := ⟨rfl, fun j c h => by simp at h⟩
theorem ints_same {A B : World} {a : Option Addr} {c : List Int} (h : IntSl A a c) (hs : A.heap.size ≤ B.heap.size) (hb : ∀ p, a = some p → p.block < A.heap.size → B.heap[p.block]? = A.heap[p.block]?) : IntSl B a c := fun h0 => by
  obtain ⟨b, off, rfl, hbs, hc⟩ := h h0
  exact ⟨b, off, rfl, Nat.lt_of_lt_of_le hbs hs, fun j hj => (World.cell?_of_block (w := A) (a := ⟨b, off + j, none⟩) (hb ⟨b, off, none⟩ rfl hbs)).trans (hc j hj)⟩
theorem ty3_same {A B : World} {a : Option Addr} (h : Ty3 A a) (hb : ∀ p, a = some p → p.block < A.heap.size → B.heap[p.block]? = A.heap[p.block]?) : Ty3 B a := fun q hq => by
  obtain ⟨cs, h1⟩ := h q hq
  exact ⟨cs, (hb q hq (lt_of_block h1)).trans h1⟩
theorem Rows2.same {A B : World} {lo : Nat} {vals : List Value} {cs : List (List Int)} (h : Rows2 A lo vals cs) (hs : A.heap.size ≤ B.heap.size) (hk : ∀ k, lo ≤ k → k < A.heap.size → (∃ cs, A.heap[k]? = some (.cells cs 3 (0, 0))) → B.heap[k]? = A.heap[k]?) : Rows2 B lo vals cs :=
  ⟨h.len, fun j c hc => by
    obtain ⟨a, cap, h1, h2, h4, h3⟩ := h.at' j c hc
    have hb : ∀ p, a = some p → p.block < A.heap.size → B.heap[p.block]? = A.heap[p.block]? := fun p hp hl => hk _ (h3 p hp) hl (h4 p hp)
    exact ⟨a, cap, h1, ints_same h2 hs hb, ty3_same h4 hb, h3⟩⟩
theorem Rows2.snoc {W : World} {lo : Nat} {vals : List Value} {cs : List (List Int)} (h : Rows2 W lo vals cs) {a : Option Addr} {c : List Int} {cap : Nat} (hi : IntSl W a c) (ht : Ty3 W a) (hl : ∀ p, a = some p → lo ≤ p.block) :
    Rows2 W lo (vals ++ [.slice a c.length cap]) (cs ++ [c]) := by
  refine ⟨by simp [h.len], fun j d hd => ?_⟩
  rcases Nat.lt_or_ge j cs.length with hj | hj
  · rw [List.getElem?_append_left hj] at hd
    rw [List.getElem?_append_left (by rw [h.len]; exact hj)]
    exact h.at' j d hd
  · rw [List.getElem?_append_right hj] at hd
    rw [List.getElem?_append_right (by rw [h.len]; exact hj), h.len]
    obtain ⟨i, hi'⟩ : ∃ i, j - cs.length = i := ⟨_, rfl⟩
    rw [hi'] at hd ⊢
    match i, hd with
    | 0, hd => simp at hd; subst hd; exact ⟨a, cap, rfl, hi, ht, hl⟩
    | i + 1, hd => simp at hd

theorem owns_same {A B : World} {base : Nat} {e : TypeId} {size : Nat} {v : Value} {n : Nat} {xs : List Value} (h : A.ownsRow base e size v n xs) (hk : ∀ k, base ≤ k → k < A.heap.size → B.heap[k]? = A.heap[k]?) : B.ownsRow base e size v n xs := by
  refine ⟨h.1, ?_⟩
  rcases h.2 with hn | ⟨g, cap, cur, rfl, hb, hg, rest⟩
  · exact .inl hn
  · exact .inr ⟨g, cap, cur, rfl, hb, (hk g hb (lt_of_block hg)).trans hg, rest⟩

/-- A slice of slices of integers, as it reads in a world. -/
def SlsAt (W : World) (a : Option Addr) (cs : List (List Int)) : Prop :=
  0 < cs.length → ∃ b off, a = some ⟨b, off, none⟩ ∧ b < W.heap.size ∧ ∀ (j : Nat) (c : List Int), cs[j]? = some c → ∃ (a' : Option Addr) (cap' : Nat), W.cell? ⟨b, off + j, none⟩ = some (Value.slice a' c.length cap') ∧ IntSl W a' c

theorem SlsAt.below {w w' : World} {a : Option Addr} {cs : List (List Int)} (h : SlsAt w a cs) (hb : Below w.heap.size w w') : SlsAt w' a cs := fun h0 => by
  obtain ⟨b, off, rfl, hbs, hc⟩ := h h0
  refine ⟨b, off, rfl, Nat.lt_of_lt_of_le hbs hb.size, fun j c hj => ?_⟩
  obtain ⟨a', cap', h1, h2⟩ := hc j c hj
  exact ⟨a', cap', (hb.cell (p := ⟨b, off + j, none⟩) hbs).trans h1, h2.below hb⟩

theorem sls_of_owns {W : World} {base lo : Nat} {v : Value} {vals : List Value} {cs : List (List Int)} (h : W.ownsRow base 27 1 v vals.length vals) (hr : Rows2 W lo vals cs) : ∃ a cap, v = .slice a cs.length cap ∧ SlsAt W a cs := by
  rcases h.2 with ⟨rfl, h0⟩ | ⟨g, cap, cur, rfl, hb, hg, hnc, hcm, hcs, htake⟩
  · exact ⟨none, 0, by rw [← hr.len, h0], fun hp => by rw [← hr.len] at hp; omega⟩
  · refine ⟨some ⟨g, 0, none⟩, cap, by rw [hr.len], fun _ => ⟨g, 0, rfl, lt_of_block hg, fun j c hj => ?_⟩⟩
    obtain ⟨a', cap', h1, h2, _, _⟩ := hr.at' j c hj
    have hc := h.cells (g := g) rfl j _ h1
    have : (⟨g, 0, none⟩ : Addr).add j = ⟨g, 0 + j, none⟩ := by unfold Addr.add; split <;> simp_all
    rw [this] at hc
    exact ⟨a', cap', hc, h2⟩

/-- A call that hands back a slice of courses and an error; nothing that was there before it has turned. -/
def OutCs (w : World) (cs : List (List Int)) (err : Int) (e : Ending) (w' : World) : Prop := ∃ a cap, e = .returned (.tuple #[.slice a cs.length cap, .int .i64 err]) ∧ SlsAt w' a cs ∧ Below w.heap.size w w'

/-- What chosen's loop keeps. -/
structure CInv (w : World) (g : Nat) (lb : Array Value) (cs : List (List Int)) (W : World) : Prop where
  b : Below w.heap.size w W
  want : W.heap[w.heap.size + 1]? = some (.cells #[.func (.func g) #[] lb] 144 (0, 0))
  r0 : W.heap[w.heap.size + 2]? = some (.cells #[.slice none 0 0] 43 (0, 0))
  r1 : W.heap[w.heap.size + 3]? = some (.cells #[.int .i64 0] 37 (0, 0))
  few : cs.length ≤ 300
  list : ∃ v vals, W.heap[w.heap.size + 4]? = some (.cells #[v] 43 (0, 0)) ∧ W.ownsRow (w.heap.size + 18) 27 1 v vals.length vals ∧ Rows2 W (w.heap.size + 18) vals cs

theorem CInv.apart {w W W' : World} {g : Nat} {lb : Array Value} {cs : List (List Int)} (h : CInv w g lb cs W) (ha : Apart (intv 11 (w.heap.size + 7)) W W') : CInv w g lb cs W' := by
  have hk : ∀ k, k < w.heap.size + 7 ∨ w.heap.size + 18 ≤ k → k < W.heap.size → W'.heap[k]? = W.heap[k]? := fun k h1 h2 => ha.block k h2 (fun h3 => by have := h3.1; have := h3.2; omega)
  obtain ⟨v, vals, h1, h2, h3⟩ := h.list
  exact ⟨h.b.trans ⟨ha.os, ha.tape, ha.output, ha.size, fun k hk' => hk k (by omega) (Nat.lt_of_lt_of_le hk' h.b.size)⟩, (hk _ (by omega) (lt_of_block h.want)).trans h.want, (hk _ (by omega) (lt_of_block h.r0)).trans h.r0, (hk _ (by omega) (lt_of_block h.r1)).trans h.r1, h.few,
    v, vals, (hk _ (by omega) (lt_of_block h1)).trans h1, owns_same h2 (fun k h4 h5 => hk k (.inr h4) h5), h3.same ha.size (fun k h4 h5 _ => hk k (.inr h4) h5)⟩

end Go.Proofs.YtmebmcipmemofaaGreat

namespace Go.Proofs.YtmebmcipmemofaaGreat
open Go.RowKit Go.Shelf
attribute [local go_sem] Oper.semAt_some

theorem alk {A : World} {k : Nat} {o o' : Obj} (h : A.heap[k]? = some o) : (A.alloc o').heap[k]? = some o := (Below.heap_alloc _ _ _ (lt_of_block h)).trans h
theorem new_at {A : World} {k : Nat} {o : Obj} (h : A.heap.size = k) : (A.alloc o).heap[k]? = some o := by subst h; exact heap_alloc_new A o

theorem eg140 : ∀ args w, (callFunc 134 args).run Tryz.prog w = .ok (.enter 134 args) w := enters_of Tryz.func134 (by kernel_rfl) rfl

abbrev Ru.o (r : Ru) : Obj := .cells #[.int .i64 r.laps, .int .i64 r.len.lo, .int .i64 r.len.hi, .int .i64 r.climb.lo, .int .i64 r.climb.hi, .int .i64 r.lap.lo, .int .i64 r.lap.hi, .int .i64 r.wide, .int .i64 r.uses] 26

theorem Keeps.setCell {own : Nat → Prop} (A : World) {q : Addr} (h : ¬ own q.block) (u : Value) : Keeps own A (A.setCell q u) :=
  ⟨by rw [World.size_setCell]; exact Nat.le_refl _, fun k _ hn => Below.heap_setCell _ _ _ _ (fun e => h (e ▸ hn))⟩
theorem Keeps.grown {own : Nat → Prop} {A B : World} {row : Option Nat} (hg : A.grownBy B row) (h : ∀ j, row = some j → ¬ own j) : Keeps own A B :=
  ⟨hg.size, fun k hk hn => hg.block k hk (fun e => h k e.symm hn)⟩
theorem slice_of_owns {w : World} {base : Nat} {e : TypeId} {size : Nat} {v : Value} {n : Nat} {xs : List Value} (h : w.ownsRow base e size v n xs) : ∃ la lcap, v = .slice la n lcap := by
  rcases h.2 with ⟨rfl, h0⟩ | ⟨g, cap, cur, rfl, _⟩
  · exact ⟨none, 0, by rw [h0]⟩
  · exact ⟨_, _, rfl⟩

theorem list_box {w w1 w2 : World} {o o' : Obj} {v : Value} {n : Nat} {xs : List Value} (h : w1.heap[w.heap.size + 4]? = some o) (hown : w1.ownsRow (w.heap.size + 18) 27 1 v n xs) (hg : (w1.alloc o').grownBy w2 v.ownBlock) : w2.heap[w.heap.size + 4]? = some o :=
  (hg.block _ (by have := lt_of_block h; simp; omega) (fun e => by have := (hown.lt _ e.symm).1; omega)).trans (alk h)

/-- What chosen hands back: the courses, if they are not too many. -/
def ChosenOut (w : World) (cs : List (List Int)) (e : Ending) (w' : World) : Prop := OutCs w (if cs.length ≤ 300 then cs else []) (if cs.length ≤ 300 then 0 else 10) e w'

set_option maxHeartbeats 600000 in
set_option maxRecDepth 100000 in
theorem chosen_in (n : Nat) (a : Option Addr) (xs : List Lp) (cap : Nat) (r : Ru) (g laps : Nat) (lb : Array Value) (p : List Int → Bool) (w : World) (hx : Sl 3 Lp.cells w a xs) (hck : checkE xs r = 0) (hlaps : r.laps = laps)
    (eg : ∀ args w, (callFunc g args).run Tryz.prog w = .ok (.enter g args) w)
    (hg : ∀ c ∈ extC xs.length laps [] 0, ∀ (av : Option Addr) (ccap : Nat) (W : World), Below w.heap.size w W → IntSl W av c → Calls Tryz.prog g (#[.slice av c.length ccap] ++ lb) W fun e W' => e = .returned (.bool (p c)) ∧ Below W.heap.size W W')
    (cs : List (List Int)) (hcs : ((extC xs.length laps [] 0).filter (okC xs r)).filter p = cs) :
    CallsIn Fence.wide n Tryz.prog 82 #[.slice a xs.length cap, r.v, .func (.func g) #[] lb] w (ChosenOut w cs) := by
  obtain ⟨hal, hl1, hl2⟩ := stad_ok (check_ok hck).1
  have HCK := Lib.hid hck
  have HL := Lib.hid hlaps
  have HCS := Lib.hid hcs
  have HG := Lib.hid hg
  clear hck hlaps hcs hg
  have hab : ∀ p, a = some p → p.block < w.heap.size := sl_lt hx (by omega)
  refine callsIn_of_wp_marks Tryz.func82 rfl trivial ?_ rfl
  simp only [Tryz.ntmps82, List.size_toArray, List.length_cons, List.length_nil, Nat.reduceAdd, Nat.reduceSub, Array.replicate_succ, Array.replicate_zero, List.push_toArray, List.append_toArray, List.nil_append, List.cons_append]
  gi_wp2_with (refine ⟨trivial, (fun h => by cases h), ?_⟩; refine (callsIn_wide.2 (right_any a xs.length cap r _)).mono ?_; rintro e w1 ⟨rfl, rfl⟩)
  obtain ⟨Wr, hWr⟩ : ∃ Wr, ((((((w.alloc r.o).alloc (.cells #[.func (.func g) #[] lb] 144)).alloc (.cells #[.slice none 0 0] 43)).alloc (.cells #[.int .i64 0] 37)).alloc (.cells #[.slice none 0 0] 43)).alloc (.cells #[.slice a xs.length cap] 22)).alloc r.o = Wr := ⟨_, rfl⟩
  have hzr : Wr.heap.size = w.heap.size + 7 := by rw [← hWr]; simp
  have hbr : Below w.heap.size w Wr := by rw [← hWr]; exact (((((((Below.refl _ _).alloc (Nat.le_refl _) _).alloc (by simp) _).alloc (by simp <;> omega) _).alloc (by simp <;> omega) _).alloc (by simp <;> omega) _).alloc (by simp <;> omega) _).alloc (by simp <;> omega) _
  have h1 : Wr.heap[w.heap.size + 1]? = some (.cells #[.func (.func g) #[] lb] 144 (0, 0)) := by rw [← hWr]; exact alk (alk (alk (alk (alk (new_at (by simp))))))
  have h2 : Wr.heap[w.heap.size + 2]? = some (.cells #[.slice none 0 0] 43 (0, 0)) := by rw [← hWr]; exact alk (alk (alk (alk (new_at (by simp)))))
  have h3 : Wr.heap[w.heap.size + 3]? = some (.cells #[.int .i64 0] 37 (0, 0)) := by rw [← hWr]; exact alk (alk (alk (new_at (by simp))))
  have h4 : Wr.heap[w.heap.size + 4]? = some (.cells #[.slice none 0 0] 43 (0, 0)) := by rw [← hWr]; exact alk (alk (new_at (by simp)))
  have h5 : Wr.heap[w.heap.size + 5]? = some (.cells #[.slice a xs.length cap] 22 (0, 0)) := by rw [← hWr]; exact alk (new_at (by simp))
  have h6 : RuAt Wr (w.heap.size + 6) r := by rw [← hWr]; exact new_at (by simp)
  have hC0 : CInv w g lb [] Wr := ⟨hbr, h1, h2, h3, by simp, .slice none 0 0, [], h4, World.ownsRow_nil _ _ _ _, Rows2.nil _ _⟩
  have hseq := right1_seq a xs cap r laps (w.heap.size + 5) (w.heap.size + 6) Wr (hx.below hbr) HCK.out HL.out h5 h6
  obtain ⟨S, hS⟩ : ∃ S, (extC xs.length laps [] 0).filter (okC xs r) = S := ⟨_, rfl⟩
  rw [hS] at hseq
  have hSub : ∀ c ∈ S, c ∈ extC xs.length laps [] 0 := fun c hc => by rw [← hS] at hc; exact (List.mem_filter.1 hc).1
  have HS2 : Hid (S.filter p = cs) := by rw [← hS]; exact HCS.out
  clear HCS hS
  have hlap : 1 ≤ laps := by
    have := (check_ok HCK.out).2; have h := HL.out; simp [rulesB, withinB] at this; omega
  rw [hWr]
  refine range_seqC (gf := 134) (lb := #[.pointer (some ⟨w.heap.size + 5, 0, none⟩), .pointer (some ⟨w.heap.size + 6, 0, none⟩)]) rfl eg140 hseq (Below.refl _ _) (fun k h => by
      rw [hzr]
      rcases h with h | h | ⟨q, hq, rfl⟩
      · omega
      · omega
      · have := hab q hq; omega)
    (fun pre W' => CInv w g lb (pre.filter p) W') (fun pre W' => 300 < (pre.filter p).length ∧ Below w.heap.size w W' ∧ W'.heap[w.heap.size + 2]? = some (.cells #[.slice none 0 0] 43 (0, 0)) ∧ W'.heap[w.heap.size + 3]? = some (.cells #[.int .i64 10] 37 (0, 0)))
    (fun s A B h hap => h.apart (by rw [hzr] at hap; exact hap))
    (fun s A B h hap => by
      rw [hzr] at hap
      have hk : ∀ k, k < w.heap.size + 7 → k < A.heap.size → B.heap[k]? = A.heap[k]? := fun k h1 h2 => hap.block k h2 (fun h3 => by have := h3.1; omega)
      exact ⟨h.1, h.2.1.trans ⟨hap.os, hap.tape, hap.output, hap.size, fun k hk' => hk k (by omega) (Nat.lt_of_lt_of_le hk' h.2.1.size)⟩, (hk _ (by omega) (lt_of_block h.2.2.1)).trans h.2.2.1, (hk _ (by omega) (lt_of_block h.2.2.2)).trans h.2.2.2⟩)
    hC0
    (fun v => { tmps := #[.slice a xs.length cap, r.v, .func (.func g) #[] lb, undef, .pointer (some ⟨w.heap.size, 0, none⟩), .pointer (some ⟨w.heap.size + 1, 0, none⟩), .pointer (some ⟨w.heap.size + 2, 0, none⟩), .pointer (some ⟨w.heap.size + 3, 0, none⟩), .pointer (some ⟨w.heap.size + 4, 0, none⟩), v, .slice a xs.length cap, r.v, .func (.func 134) #[] #[.pointer (some ⟨w.heap.size + 5, 0, none⟩), .pointer (some ⟨w.heap.size + 6, 0, none⟩)], v, undef, undef, undef, undef, undef, undef, undef, undef, undef, undef, undef, undef], defers := [] })
    ?assign ?body ?done ?stop
  case assign =>
    intro l k v W K hK
    gi_wp2
    exact hK
  case body =>
    rintro l2 k pre c av ccap W1 hC hpre hsl hty hfr
    have hcS : c ∈ S := hpre.subset (by simp)
    have hcE := hSub c hcS
    obtain ⟨hcl, _⟩ := extC_ok xs.length laps [] 0 (by simp) c hcE
    simp at hcl
    have hc0 : 0 < c.length := by omega
    have hz18 : w.heap.size + 18 < W1.heap.size := by
      obtain ⟨b, off, rfl, hbs, _⟩ := hsl hc0
      have := hfr _ rfl
      rw [hzr] at this
      have : w.heap.size + 7 + 2 + 9 ≤ b := this
      omega
    have HFR : Hid (∀ q, av = some q → w.heap.size + 18 ≤ q.block) := fun q hq => by have := hfr q hq; rw [hzr] at this; omega
    clear hcl hfr
    have notOwn : ∀ j, w.heap.size ≤ j → j < w.heap.size + 5 ∨ w.heap.size + 18 ≤ j → ¬ ownOf (fun k => k = w.heap.size + 5 ∨ k = w.heap.size + 6 ∨ ∃ p, a = some p ∧ k = p.block) (9 + 2) Wr.heap.size j := fun j h0 hj h => by
      rw [hzr] at h
      rcases h with (h | h | ⟨q, hq, rfl⟩) | h
      · omega
      · omega
      · have := hab q hq; omega
      · omega
    have HG1 := Lib.hid (HG.out c hcE av ccap W1 hC.b hsl)
    have k1 := blk_cell hC.want 0 rfl
    have hfil : (pre ++ [c]).filter p = pre.filter p ++ [c].filter p := List.filter_append _ _
    cases hp : p c
    · have HF : Hid ((pre ++ [c]).filter p = pre.filter p) := by show _ = _; rw [hfil]; simp [hp]
      rw [hp] at HG1
      clear hp hfil
      gi_wp2_with (refine ⟨trivial, (fun h => by cases h), ?_⟩; refine (CallsIn.inRound l2 (callsIn_wide.2 HG1.out)).mono ?_; rintro e w1 ⟨rfl, hb1⟩)
      exact ⟨Keeps.of_below hb1, by show CInv w g lb ((pre ++ [c]).filter p) w1; rw [HF.out]; exact hC.apart (Apart.of_below hb1)⟩
    · have HF : Hid ((pre ++ [c]).filter p = pre.filter p ++ [c]) := by show _ = _; rw [hfil]; simp [hp]
      rw [hp] at HG1
      clear hp hfil
      obtain ⟨v, vals, t1, t2, t3⟩ := hC.list
      obtain ⟨la, lcap, rfl⟩ := slice_of_owns t2
      have hlen := t3.len
      have HLEN := Lib.hid hlen
      clear hlen
      by_cases h300 : vals.length = 300
      · have hb300 : ((vals.length : Int) == 300) = true := by simp; omega
        have H300 := Lib.hid h300
        clear h300
        gi_wp2_with (refine ⟨trivial, (fun h => by cases h), ?_⟩; refine (CallsIn.inRound l2 (callsIn_wide.2 HG1.out)).mono ?_; rintro e w1 ⟨rfl, hb1⟩; have u1 := blk_cell (blk_below t1 hb1) 0 rfl; have u2 := blk_cell (blk_below hC.r0 hb1) 0 rfl; have u3 := blk_cell (blk_below hC.r1 hb1) 0 rfl; have u4 := blk_free (j := 0) (blk_below hC.r0 hb1); have u5 := blk_free (j := 0) (blk_below hC.r1 hb1))
        have hB1 := hC.b.trans (hb1.mono hC.b.size)
        refine ⟨((Keeps.of_below hb1).trans (Keeps.setCell _ (q := ⟨w.heap.size + 2, 0, none⟩) (notOwn (w.heap.size + 2) (by omega) (by omega)) _)).trans (Keeps.setCell _ (q := ⟨w.heap.size + 3, 0, none⟩) (notOwn (w.heap.size + 3) (by omega) (by omega)) _), ?_⟩
        refine ⟨by rw [HF.out, List.length_append, ← HLEN.out, H300.out]; simp, (hB1.setCell (p := ⟨w.heap.size + 2, 0, none⟩) (by show w.heap.size ≤ w.heap.size + 2; omega) _).setCell (p := ⟨w.heap.size + 3, 0, none⟩) (by show w.heap.size ≤ w.heap.size + 3; omega) _, blk_other (blk_setCell (blk_below hC.r0 hb1)) (by omega), blk_setCell (blk_other (blk_below hC.r1 hb1) (by omega))⟩
      · have hb300 : ((vals.length : Int) == 300) = false := by simp; omega
        have hlt : vals.length < 300 := by have := hC.few; rw [← HLEN.out] at this; omega
        clear h300
        obtain ⟨i0, hi, hz0, hz1, hz2⟩ := info_parts Tryz.info27
        gi_wp2_with (first
          | (refine ⟨trivial, (fun h => by cases h), ?_⟩; refine (CallsIn.inRound l2 (callsIn_wide.2 HG1.out)).mono ?_; rintro e w1 ⟨rfl, hb1⟩; have u1 := blk_cell (blk_below t1 hb1) 0 rfl; have hown1 := owns_below t2 hb1)
          | (gi_at_builtin; refine wpListIn_append_own _ rfl _ _ 43 rfl (w.heap.size + 18) 27 i0 (.slice none 0 0) 1 24 Tryz.underlying43 hi hz0 hz1 hz2 rfl (by decide) _ _ _ rfl (hown1.alloc _) ⟨w1.heap.size, 0, none⟩ 1 1 [.slice av c.length ccap] rfl rfl (cell_one_new _ _ _) (by simp [Value.oneCell']) (by unfold maxLen; omega) (by omega) (by have := hb1.size; simp; omega) ?_; intro v' w2 hown2 hgrow2 _; obtain ⟨g', cap', rfl⟩ := ownsRow_succ hown2; have t4 := list_box (blk_below t1 hb1) hown1 hgrow2; have u6 := blk_cell t4 0 rfl; have u7 := blk_free (j := 0) t4))
        have hs1 : W1.heap.size ≤ w1.heap.size := hb1.size
        have hs2 : w1.heap.size + 1 ≤ w2.heap.size := by have := hgrow2.size; simp at this; omega
        have hrow : ∀ j, (Value.slice la vals.length lcap).ownBlock = some j → w.heap.size + 18 ≤ j := fun j hj => (hown1.lt j hj).1
        have hB2 : Below w.heap.size w w2 := ((hC.b.trans (hb1.mono hC.b.size)).alloc (by omega) _).grown hgrow2 (by simp; omega) (fun j hj => by have := hrow j hj; omega)
        have hsame : ∀ j, j < w1.heap.size → w.heap.size + 18 ≤ j → some j ≠ (Value.slice la vals.length lcap).ownBlock → w2.heap[j]? = w1.heap[j]? := fun j h1 _ h3 => (hgrow2.block j (by simp; omega) h3).trans (Below.heap_alloc _ _ _ h1)
        have old : ∀ {j : Nat} {o : Obj}, j < w.heap.size + 18 → w1.heap[j]? = some o → w2.heap[j]? = some o := fun {j o} hj h => (hgrow2.block j (by have := lt_of_block h; simp; omega) (fun e => by have := hrow j e.symm; omega)).trans (alk h)
        have R1 : Rows2 w1 (w.heap.size + 18) vals (pre.filter p) := t3.same hs1 (fun j _ h2 _ => hb1.block j h2)
        have R2 : Rows2 w2 (w.heap.size + 18) (vals ++ [.slice av c.length ccap]) (pre.filter p ++ [c]) := by
          have ne : ∀ j, (∃ cs, w1.heap[j]? = some (.cells cs 3 (0, 0))) → some j ≠ (Value.slice la vals.length lcap).ownBlock := fun j ⟨ds, hd⟩ e => by
            rcases hown1.2 with ⟨h1, _⟩ | ⟨g2, cap2, cur2, h1, _, hg2, _⟩
            · rw [h1] at e; simp [Value.ownBlock] at e
            · rw [h1] at e; simp [Value.ownBlock] at e; subst e; rw [hd] at hg2; simp at hg2
          have hk : ∀ j, w.heap.size + 18 ≤ j → j < w1.heap.size → (∃ cs, w1.heap[j]? = some (.cells cs 3 (0, 0))) → w2.heap[j]? = w1.heap[j]? := fun j h1 h2 h3 => hsame j h2 h1 (ne j h3)
          have hb : ∀ q, av = some q → q.block < w1.heap.size → w2.heap[q.block]? = w1.heap[q.block]? := fun q hq hl => hk _ (HFR.out q hq) hl (hty.below hb1 q hq)
          exact (R1.same (by omega) hk).snoc (ints_same (hsl.below hb1) (by omega) hb) (ty3_same (hty.below hb1) hb) HFR.out
        have fin : ∀ j, j ≠ w.heap.size + 4 → (w2.setCell ⟨w.heap.size + 4, 0, none⟩ (.slice (some ⟨g', 0, none⟩) (vals.length + 1) cap')).heap[j]? = w2.heap[j]? := fun j hj => Below.heap_setCell _ _ _ _ hj
        refine ⟨(((Keeps.of_below hb1).trans (Keeps.of_below ((Below.refl _ _).alloc (Nat.le_refl _) _))).trans (Keeps.grown hgrow2 (fun j hj => notOwn j (by have := hrow j hj; omega) (.inr (hrow j hj))))).trans (Keeps.setCell _ (q := ⟨w.heap.size + 4, 0, none⟩) (notOwn (w.heap.size + 4) (by omega) (by omega)) _), ?_⟩
        show CInv w g lb ((pre ++ [c]).filter p) _
        rw [HF.out]
        refine ⟨hB2.setCell (p := ⟨w.heap.size + 4, 0, none⟩) (by show w.heap.size ≤ w.heap.size + 4; omega) _, blk_other (old (by omega) (blk_below hC.want hb1)) (by omega), blk_other (old (by omega) (blk_below hC.r0 hb1)) (by omega), blk_other (old (by omega) (blk_below hC.r1 hb1)) (by omega), by rw [List.length_append, ← HLEN.out]; simp; omega, _, vals ++ [Value.slice av c.length ccap], blk_setCell t4, ?_, ?_⟩
        · have h := owns_same hown2 (B := w2.setCell ⟨w.heap.size + 4, 0, none⟩ (.slice (some ⟨g', 0, none⟩) (vals.length + 1) cap')) (fun j h1 _ => fin j (by omega))
          rw [show vals.length + 1 = (vals ++ [Value.slice av c.length ccap]).length by simp] at h ⊢
          exact h
        · exact R2.same (by rw [World.size_setCell]; exact Nat.le_refl _) (fun j h1 _ _ => fin j (by omega))
  case done =>
    rintro W2 hC hK
    obtain ⟨v, vals, t1, t2, t3⟩ := hC.list
    obtain ⟨la, lcap, rfl⟩ := slice_of_owns t2
    have u1 := blk_cell t1 0 rfl
    have u2 := blk_cell hC.r0 0 rfl
    have u3 := blk_cell hC.r1 0 rfl
    have u4 := blk_free (j := 0) hC.r0
    have u5 := blk_free (j := 0) hC.r1
    gi_wp2
    have hK' : ((W2.setCell ⟨w.heap.size + 2, 0, none⟩ (.slice la vals.length lcap)).setCell ⟨w.heap.size + 3, 0, none⟩ (.int .i64 0)).heap[Wr.heap.size]? = some (.deferred (some [])) := blk_other (blk_other hK (by omega)) (by omega)
    have q0' : ((W2.setCell ⟨w.heap.size + 2, 0, none⟩ (.slice la vals.length lcap)).setCell ⟨w.heap.size + 3, 0, none⟩ (.int .i64 0)).heap[w.heap.size + 2]? = some (.cells #[.slice la vals.length lcap] 43 (0, 0)) := blk_other (blk_setCell hC.r0) (by omega)
    have q1' : ((W2.setCell ⟨w.heap.size + 2, 0, none⟩ (.slice la vals.length lcap)).setCell ⟨w.heap.size + 3, 0, none⟩ (.int .i64 0)).heap[w.heap.size + 3]? = some (.cells #[.int .i64 0] 37 (0, 0)) := blk_setCell (blk_other hC.r1 (by omega))
    have hB3 : Below w.heap.size w ((W2.setCell ⟨w.heap.size + 2, 0, none⟩ (.slice la vals.length lcap)).setCell ⟨w.heap.size + 3, 0, none⟩ (.int .i64 0)) := (hC.b.setCell (p := ⟨w.heap.size + 2, 0, none⟩) (by show w.heap.size ≤ w.heap.size + 2; omega) _).setCell (p := ⟨w.heap.size + 3, 0, none⟩) (by show w.heap.size ≤ w.heap.size + 3; omega) _
    have hsz : ((W2.setCell ⟨w.heap.size + 2, 0, none⟩ (.slice la vals.length lcap)).setCell ⟨w.heap.size + 3, 0, none⟩ (.int .i64 0)).heap.size = W2.heap.size := by rw [World.size_setCell, World.size_setCell]
    have hoth : ∀ j, w.heap.size + 18 ≤ j → ((W2.setCell ⟨w.heap.size + 2, 0, none⟩ (.slice la vals.length lcap)).setCell ⟨w.heap.size + 3, 0, none⟩ (.int .i64 0)).heap[j]? = W2.heap[j]? := fun j hj => (Below.heap_setCell _ _ _ _ (by show j ≠ w.heap.size + 3; omega)).trans (Below.heap_setCell _ _ _ _ (by show j ≠ w.heap.size + 2; omega))
    clear u1 u2 u3 u4 u5
    generalize (W2.setCell ⟨w.heap.size + 2, 0, none⟩ (.slice la vals.length lcap)).setCell ⟨w.heap.size + 3, 0, none⟩ (.int .i64 0) = W3 at hK' q0' q1' hB3 hsz hoth ⊢
    refine ⟨by simp, .inl ⟨_, _, rfl, run_takeDeferred hK', ?_⟩⟩
    have q0 : (W3.putObj Wr.heap.size (.deferred none)).cell? ⟨w.heap.size + 2, 0, none⟩ = some (.slice la vals.length lcap) := blk_cell (cur := #[.slice la vals.length lcap]) (t := 43) ((World.putObj_heap_other (by omega)).trans q0') 0 rfl
    have q1 : (W3.putObj Wr.heap.size (.deferred none)).cell? ⟨w.heap.size + 3, 0, none⟩ = some (.int .i64 0) := blk_cell (cur := #[.int .i64 0]) (t := 37) ((World.putObj_heap_other (by omega)).trans q1') 0 rfl
    have hk4 : ∀ j, w.heap.size + 18 ≤ j → (W3.putObj Wr.heap.size (.deferred none)).heap[j]? = W2.heap[j]? := fun j hj => (World.putObj_heap_other (by omega)).trans (hoth j hj)
    have O4 := owns_same t2 (B := W3.putObj Wr.heap.size (.deferred none)) (fun j h1 _ => hk4 j h1)
    have R4 := t3.same (B := W3.putObj Wr.heap.size (.deferred none)) (by rw [putObj_size, hsz]; exact Nat.le_refl _) (fun j h1 _ _ => hk4 j h1)
    have hB4 : Below w.heap.size w (W3.putObj Wr.heap.size (.deferred none)) := hB3.trans ⟨rfl, rfl, rfl, by rw [putObj_size]; exact Nat.le_refl _, fun j hj => World.putObj_heap_other (by omega)⟩
    refine ⟨.tuple #[.slice la vals.length lcap, .int .i64 0], by simp [results, Tryz.results82, go_sem, q0, q1], ?_⟩
    have hfew := hC.few
    rw [HS2.out] at hfew R4
    show OutCs w _ _ _ _
    rw [if_pos hfew, if_pos hfew]
    obtain ⟨a4, cap4, h5, h6⟩ := sls_of_owns O4 R4
    exact ⟨a4, cap4, by rw [h5], h6, hB4⟩
  case stop =>
    rintro pre W2 hpre ⟨h300, hB, q0', q1'⟩ hK
    gi_wp2
    refine ⟨by simp, .inl ⟨_, _, rfl, run_takeDeferred hK, ?_⟩⟩
    have q0 : (W2.putObj Wr.heap.size (.deferred none)).cell? ⟨w.heap.size + 2, 0, none⟩ = some (.slice none 0 0) := blk_cell (cur := #[.slice none 0 0]) (t := 43) ((World.putObj_heap_other (by omega)).trans q0') 0 rfl
    have q1 : (W2.putObj Wr.heap.size (.deferred none)).cell? ⟨w.heap.size + 3, 0, none⟩ = some (.int .i64 10) := blk_cell (cur := #[.int .i64 10]) (t := 37) ((World.putObj_heap_other (by omega)).trans q1') 0 rfl
    have hB4 : Below w.heap.size w (W2.putObj Wr.heap.size (.deferred none)) := hB.trans ⟨rfl, rfl, rfl, by rw [putObj_size]; exact Nat.le_refl _, fun j hj => World.putObj_heap_other (by omega)⟩
    refine ⟨.tuple #[.slice none 0 0, .int .i64 10], by simp [results, Tryz.results82, go_sem, q0, q1], ?_⟩
    have hbig : ¬ cs.length ≤ 300 := by
      obtain ⟨t, ht⟩ := hpre
      rw [← HS2.out, ← ht, List.filter_append, List.length_append]; omega
    show OutCs w _ _ _ _
    rw [if_neg hbig, if_neg hbig]
    exact ⟨none, 0, rfl, fun h => by simp at h, hB4⟩
end Go.Proofs.YtmebmcipmemofaaGreat

namespace Go.Proofs.YtmebmcipmemofaaGreat
open Go.RowKit

theorem eg81 : ∀ args w, (callFunc 108 args).run Tryz.prog w = .ok (.enter 108 args) w := enters_of Tryz.func108 (by kernel_rfl) rfl

set_option maxHeartbeats 400000 in
theorem all1_any (a : Option Addr) (n cap : Nat) (w : World) : Calls Tryz.prog 108 #[.slice a n cap] w fun e w' => e = .returned (.bool true) ∧ w = w' := by
  go_enter Tryz.func108, Tryz.ntmps108
  go_wp2
  go_ret
  exact ⟨rfl, rfl⟩

/-- The right courses. -/
def rightL (xs : List Lp) (r : Ru) : List (List Int) := (extC xs.length r.laps.toNat [] 0).filter (okC xs r)
def allR (xs : List Lp) (r : Ru) : List (List Int) × Int :=
  if checkE xs r = 0 then (if (rightL xs r).length ≤ 300 then rightL xs r else [], if (rightL xs r).length ≤ 300 then 0 else 10) else ([], checkE xs r)
def AllOut (xs : List Lp) (r : Ru) (w : World) (e : Ending) (w' : World) : Prop := OutCs w (allR xs r).1 (allR xs r).2 e w'

theorem laps_nat {xs : List Lp} {r : Ru} (h : checkE xs r = 0) : r.laps = (r.laps.toNat : Nat) ∧ 1 ≤ r.laps.toNat ∧ r.laps.toNat ≤ 6 := by
  have := (check_ok h).2; simp [rulesB, withinB] at this; omega

set_option maxHeartbeats 600000 in
set_option maxRecDepth 100000 in
theorem all_any (a : Option Addr) (xs : List Lp) (cap : Nat) (r : Ru) (w : World) (hx : Sl 3 Lp.cells w a xs) (hl : xs.length ≤ 1000000) :
    Calls Tryz.prog 50 #[.slice a xs.length cap, r.v] w (AllOut xs r w) := by
  have hB0 : Below w.heap.size w (w.alloc r.o) := (Below.refl _ _).alloc (Nat.le_refl _) _
  have hR0 : RuAt (w.alloc r.o) w.heap.size r := heap_alloc_new _ _
  go_enter Tryz.func50, Tryz.ntmps50
  go_wp2_with fail
  refine (check_any a xs cap r _ (hx.below hB0) hl).mono ?_
  rintro e w1 ⟨rfl, hb⟩
  have hb1 := below_self hB0 hb
  have hR1 := hR0.below hb
  by_cases h1 : checkE xs r = 0
  · have h1b : (checkE xs r != 0) = false := by simp [h1]
    have HR : Hid (allR xs r = (if (rightL xs r).length ≤ 300 then rightL xs r else [], if (rightL xs r).length ≤ 300 then 0 else 10)) := by show _ = _; rw [allR, if_pos h1]
    have H1 := Lib.hid h1
    clear h1
    obtain ⟨c0, c1, c2, c3, c4, c5, c6, c7, c8⟩ := hR1.cells
    go_wp2_with fail
    refine (callsIn_wide.1 (chosen_in 0 a xs cap r 108 r.laps.toNat #[] (fun _ => true) _ (hx.below hb1) H1.out (laps_nat H1.out).1 eg81 (fun c _ av ccap W _ _ => (all1_any av c.length ccap W).mono fun e W' h => ⟨h.1, h.2 ▸ Below.refl _ _⟩) (rightL xs r) (by simp [rightL]))).mono ?_
    rintro e w2 ⟨a2, cap2, he, hS, hb2⟩
    generalize (if (rightL xs r).length ≤ 300 then rightL xs r else []) = L at he hS HR
    generalize (if (rightL xs r).length ≤ 300 then (0 : Int) else 10) = E at he HR
    subst he
    go_wp2
    go_ret2
    show OutCs w (allR xs r).1 (allR xs r).2 _ _
    rw [HR.out]
    exact ⟨a2, cap2, rfl, hS, below_self hb1 hb2⟩
  · have h1b : (checkE xs r != 0) = true := by simp [h1]
    have HR : Hid (allR xs r = ([], checkE xs r)) := by show _ = _; rw [allR, if_neg h1]
    clear h1
    go_wp2
    go_ret2
    show OutCs w (allR xs r).1 (allR xs r).2 _ _
    rw [HR.out]
    exact ⟨none, 0, rfl, fun h => by simp at h, hb1⟩
end Go.Proofs.YtmebmcipmemofaaGreat

namespace Go.Proofs.YtmebmcipmemofaaGreat
open Go.RowKit

/-- A call that hands back a place of a number, or less than 0. -/
def IdxOut (c : List Int) (v : Int) (w : World) (e : Ending) (w' : World) : Prop := ∃ r : Int, e = .returned (.int .i64 r) ∧ decide (0 ≤ r) = c.contains v ∧ w = w'

theorem not_mem_take_succ (c : List Int) (v : Int) (k : Nat) (hk : k < c.length) (h : v ∉ c.take k) (hn : ¬ v = c[k]) : v ∉ c.take (k + 1) := by
  rw [List.take_add_one, List.getElem?_eq_getElem hk]
  simp only [Option.toList_some, List.mem_append, List.mem_singleton, not_or]
  exact ⟨h, hn⟩

set_option maxHeartbeats 600000 in
theorem index_any (a : Option Addr) (c : List Int) (cap : Nat) (v : Int) (w : World) (hx : IntSl w a c) (hl : c.length ≤ 1000000) :
    Calls Tryz.prog 172 #[.slice a c.length cap, .int .i64 v] w (IdxOut c v w) := by
  go_enter Tryz.func172, Tryz.ntmps172
  go_wp2
  go_loop [8] (fun i => ∃ k : Nat, k ≤ c.length ∧ i = .int .i64 k ∧ Hid (v ∉ c.take k)) (fun i => c.length - (intOf i).toNat)
  case atStart => exact ⟨0, Nat.zero_le _, rfl, by show _ ∉ _; simp⟩
  case round =>
    obtain ⟨k, hk, rfl, hn⟩ := hrel
    by_cases hlt : k < c.length
    · obtain ⟨b, off, rfl, hbs, hc⟩ := hx (by omega)
      have hck := hc k hlt
      clear hc
      by_cases hv : v = c[k]
      · have hvb : (v == c[k]) = true := by simp [hv]
        have HV := Lib.hid hv
        clear hv
        go_wp2
        go_ret
        exact ⟨k, rfl, by rw [HV.out]; simp, rfl⟩
      · have hvb : (v == c[k]) = false := by simp [hv]
        have HN : Hid (v ∉ c.take (k + 1)) := not_mem_take_succ c v k hlt hn.out hv
        clear hv
        go_wp2
        go_round
        case rel => exact ⟨k + 1, by omega, by go_num, HN⟩
        case measure => simp [intOf]; omega
    · have : k = c.length := by omega
      subst this
      rw [List.take_length] at hn
      go_wp2
      go_ret
      exact ⟨-1, rfl, by have := hn.out; simp [this], rfl⟩

set_option maxHeartbeats 400000 in
theorem contains_any (a : Option Addr) (c : List Int) (cap : Nat) (v : Int) (w : World) (hx : IntSl w a c) (hl : c.length ≤ 1000000) :
    Calls Tryz.prog 131 #[.slice a c.length cap, .int .i64 v] w fun e w' => e = .returned (.bool (c.contains v)) ∧ w = w' := by
  go_enter Tryz.func131, Tryz.ntmps131
  go_wp2_with fail
  refine (index_any a c cap v _ hx hl).mono ?_
  rintro e w' ⟨r, rfl, hr, rfl⟩
  have HR := Lib.hid hr
  clear hr
  go_wp2
  go_ret
  exact ⟨ret_bool HR.out, rfl⟩

set_option maxHeartbeats 400000 in
theorem has_any (a : Option Addr) (c : List Int) (cap : Nat) (v : Int) (w : World) (hx : IntSl w a c) (hl : c.length ≤ 1000000) :
    Calls Tryz.prog 75 #[.slice a c.length cap, .int .i64 v] w fun e w' => e = .returned (.bool (c.contains v)) ∧ w = w' := by
  go_enter Tryz.func75, Tryz.ntmps75
  go_wp2_with fail
  refine (contains_any a c cap v _ hx hl).mono ?_
  rintro e w' ⟨rfl, rfl⟩
  go_wp2
  go_ret
  exact ⟨ret_bool (by simp), rfl⟩

/-- The area of the loops that occur, of the first k. -/
def areaTo (xs : List Lp) (c : List Int) : Nat → Int
  | 0 => 0
  | k + 1 => areaTo xs c k + if c.contains (k : Int) = true then (match xs[k]? with | some x => x.l * x.d | none => 0) else 0
def areaL (xs : List Lp) (c : List Int) : Int := areaTo xs c xs.length

theorem area_one {x : Lp} (h : allowedB x = true) : 0 ≤ x.l * x.d ∧ x.l * x.d ≤ 400000 := by
  simp [allowedB, withinB] at h
  refine ⟨Int.mul_nonneg (by omega) (by omega), ?_⟩
  have h1 := Int.mul_le_mul (show x.l ≤ 20000 by omega) (show x.d ≤ 20 by omega) (by omega) (by omega)
  omega

theorem areaTo_bd {xs : List Lp} (hal : xs.all allowedB = true) (c : List Int) (k : Nat) (hk : k ≤ xs.length) : 0 ≤ areaTo xs c k ∧ areaTo xs c k ≤ k * 400000 := by
  induction k with
  | zero => simp [areaTo]
  | succ k ih =>
    have := ih (by omega)
    have hlt : k < xs.length := by omega
    have h1 := area_one (List.all_eq_true.1 hal xs[k] (List.getElem_mem hlt))
    simp only [areaTo, List.getElem?_eq_getElem hlt]
    split <;> omega

set_option maxHeartbeats 800000 in
set_option maxRecDepth 100000 in
theorem area_any (a : Option Addr) (xs : List Lp) (cap : Nat) (ac : Option Addr) (c : List Int) (ccap : Nat) (w : World) (hx : Sl 3 Lp.cells w a xs) (hc : IntSl w ac c) (hl : xs.length ≤ 12) (hcl : c.length ≤ 1000000) (hal : xs.all allowedB = true) :
    Calls Tryz.prog 74 #[.slice a xs.length cap, .func (.func 75) #[.slice ac c.length ccap] #[]] w fun e w' => e = .returned (.int .i64 (areaL xs c)) ∧ Below w.heap.size w w' := by
  go_enter Tryz.func74, Tryz.ntmps74
  go_wp2
  go_loopw [5, 10] (fun t i wr => ∃ k : Nat, k ≤ xs.length ∧ i = .int .i64 k ∧ t = .int .i64 (areaTo xs c k) ∧ Below w.heap.size w wr) (fun _ i _ => xs.length - (intOf i).toNat)
  case atStart => exact ⟨0, Nat.zero_le _, rfl, rfl, Below.refl _ _⟩
  case round =>
    obtain ⟨k, hk, rfl, rfl, hbw⟩ := hrel
    by_cases hlt : k < xs.length
    · obtain ⟨b, off, rfl, hbs, hcc⟩ := hx (by omega)
      have hc0 := (hbw.cell (p := ⟨b, off + k * 3, none⟩) hbs).trans (hcc k xs[k] 0 _ (List.getElem?_eq_getElem hlt) rfl)
      have hc1 := (hbw.cell (p := ⟨b, off + k * 3 + 1, none⟩) hbs).trans (hcc k xs[k] 1 _ (List.getElem?_eq_getElem hlt) rfl)
      have hc2 := (hbw.cell (p := ⟨b, off + k * 3 + 2, none⟩) hbs).trans (hcc k xs[k] 2 _ (List.getElem?_eq_getElem hlt) rfl)
      clear hcc
      obtain ⟨p1, p2⟩ := area_one (List.all_eq_true.1 hal xs[k] (List.getElem_mem hlt))
      obtain ⟨p3, p4⟩ := areaTo_bd hal c k hk
      have p5 : areaTo xs c k ≤ 10000000 := by omega
      clear p4
      have hI := hc.below hbw
      cases hcn : c.contains (k : Int)
      · have HS : Hid (areaTo xs c (k + 1) = areaTo xs c k) := by show _ = _; simp only [areaTo, hcn]; simp
        have HC := Lib.hid hcn
        clear hcn
        go_wp2_with (go_at_call 75; refine (has_any ac c ccap (k : Int) _ (hI.below ((Below.refl _ _).alloc (Nat.le_refl _) _)) hcl).mono ?_; rintro e w' ⟨rfl, rfl⟩; rw [HC.out])
        go_roundw
        case rel => exact ⟨k + 1, by omega, by go_num, by rw [HS.out], hbw.alloc hbw.size _⟩
        case measure => simp [intOf]; omega
      · have HS : Hid (areaTo xs c (k + 1) = areaTo xs c k + xs[k].l * xs[k].d) := by show _ = _; simp only [areaTo, hcn, List.getElem?_eq_getElem hlt]; simp
        have HC := Lib.hid hcn
        clear hcn
        go_wp2_with (go_at_call 75; refine (has_any ac c ccap (k : Int) _ (hI.below ((Below.refl _ _).alloc (Nat.le_refl _) _)) hcl).mono ?_; rintro e w' ⟨rfl, rfl⟩; rw [HC.out])
        go_roundw
        case rel => exact ⟨k + 1, by omega, by go_num, by rw [HS.out], hbw.alloc hbw.size _⟩
        case measure => simp [intOf]; omega
    · have : k = xs.length := by omega
      subst this
      go_wp2
      go_ret
      exact ⟨rfl, hbw⟩

/-- The snow of a course. -/
def snowL (xs : List Lp) (c : List Int) (depth : Int) : Int := (areaL xs c * depth + 99) / 100

set_option maxHeartbeats 600000 in
theorem snow_any (a : Option Addr) (xs : List Lp) (cap : Nat) (ac : Option Addr) (c : List Int) (ccap : Nat) (depth : Int) (w : World) (hx : Sl 3 Lp.cells w a xs) (hc : IntSl w ac c) (hl : xs.length ≤ 12) (hcl : c.length ≤ 1000000) (hal : xs.all allowedB = true)
    (hd : 1 ≤ depth ∧ depth ≤ 200) :
    Calls Tryz.prog 80 #[.slice a xs.length cap, .slice ac c.length ccap, .int .i64 depth] w fun e w' => e = .returned (.int .i64 (snowL xs c depth)) ∧ Below w.heap.size w w' := by
  have hmf : ∀ (fn : Fn) (first cap : Array Value) (w : World), (Instr.makeFunc fn first cap).run Tryz.prog w = .ok (.func fn first cap) w := fun _ _ _ _ => rfl
  obtain ⟨p1, p2⟩ := areaTo_bd hal c xs.length (Nat.le_refl _)
  have p3 : 0 ≤ areaL xs c * depth := Int.mul_nonneg p1 (by omega)
  have p4 : areaL xs c * depth ≤ 1000000000 := by
    have h1 := Int.mul_le_mul (show areaL xs c ≤ 4800000 by unfold areaL; omega) (show depth ≤ 200 by omega) (by omega) (by omega)
    omega
  clear p1 p2
  go_enter Tryz.func80, Tryz.ntmps80
  go_wp2_with fail
  refine (area_any a xs cap ac c ccap _ hx hc hl hcl hal).mono ?_
  rintro e w1 ⟨rfl, hb⟩
  go_wp2
  go_ret
  exact ⟨rfl, hb⟩
end Go.Proofs.YtmebmcipmemofaaGreat

namespace Go.Proofs.YtmebmcipmemofaaGreat
open Go.RowKit Go.Shelf
attribute [local go_sem] Oper.semAt_some

/-- One course more. -/
def bestStep (xs : List Lp) (depth : Int) (st : Option (List Int × Int)) (c : List Int) : Option (List Int × Int) :=
  match st with
  | none => some (c, snowL xs c depth)
  | some (b, m) => if snowL xs c depth < m then some (c, snowL xs c depth) else some (b, m)
def bestOf (xs : List Lp) (depth : Int) (cs : List (List Int)) : Option (List Int × Int) := cs.foldl (bestStep xs depth) none
theorem bestOf_snoc (xs : List Lp) (depth : Int) (cs : List (List Int)) (c : List Int) : bestOf xs depth (cs ++ [c]) = bestStep xs depth (bestOf xs depth cs) c := by simp [bestOf]

def cheapR (xs : List Lp) (r : Ru) (depth : Int) : List Int × Int × Int :=
  if checkE xs r = 0 then (if withinB depth 1 200 = true then (match bestOf xs depth (rightL xs r) with | none => ([], 0, 6) | some (b, m) => (b, m, 0)) else ([], 0, 3)) else ([], 0, checkE xs r)

/-- A call that hands back a course, a number and an error; nothing that was there before it has turned. -/
def OutC3 (w : World) (x : List Int × Int × Int) (e : Ending) (w' : World) : Prop := ∃ a cap, e = .returned (.tuple #[.slice a x.1.length cap, .int .i64 x.2.1, .int .i64 x.2.2]) ∧ IntSl w' a x.1 ∧ Below w.heap.size w w'
theorem OutC3.nil {w w' : World} {m err : Int} {e : Ending} (he : e = .returned (.tuple #[.slice none 0 0, .int .i64 m, .int .i64 err])) (hb : Below w.heap.size w w') : OutC3 w ([], m, err) e w' :=
  ⟨none, 0, he, (fun h => by simp at h), hb⟩

/-- What Cheapest's loop keeps. -/
structure BInv (W0 : World) (st : Option (List Int × Int)) (W : World) : Prop where
  b : Below W0.heap.size W0 W
  best : match st with
    | none => W.heap[W0.heap.size]? = some (.cells #[.slice none 0 0] 137 (0, 0)) ∧ W.heap[W0.heap.size + 1]? = some (.cells #[.int .i64 0] 3 (0, 0))
    | some (c, m) => ∃ (q : Addr) (cap : Nat), W.heap[W0.heap.size]? = some (.cells #[.slice (some q) c.length cap] 137 (0, 0)) ∧ W.heap[W0.heap.size + 1]? = some (.cells #[.int .i64 m] 3 (0, 0)) ∧ IntSl W (some q) c ∧ W0.heap.size + 15 ≤ q.block

theorem BInv.apart {W0 W W' : World} {st : Option (List Int × Int)} (h : BInv W0 st W) (ha : Apart (intv 11 (W0.heap.size + 4)) W W') : BInv W0 st W' := by
  have hk : ∀ k, k < W0.heap.size + 4 ∨ W0.heap.size + 15 ≤ k → k < W.heap.size → W'.heap[k]? = W.heap[k]? := fun k h1 h2 => ha.block k h2 (fun h3 => by have := h3.1; have := h3.2; omega)
  refine ⟨h.b.trans ⟨ha.os, ha.tape, ha.output, ha.size, fun k hk' => hk k (by omega) (Nat.lt_of_lt_of_le hk' h.b.size)⟩, ?_⟩
  have hb := h.best
  cases st with
  | none => exact ⟨(hk _ (by omega) (lt_of_block hb.1)).trans hb.1, (hk _ (by omega) (lt_of_block hb.2)).trans hb.2⟩
  | some p =>
    obtain ⟨q, cap, h1, h2, h3, h4⟩ := hb
    exact ⟨q, cap, (hk _ (by omega) (lt_of_block h1)).trans h1, (hk _ (by omega) (lt_of_block h2)).trans h2, ints_same h3 ha.size (fun p hp hl => by cases hp; exact hk _ (.inr h4) hl), h4⟩

theorem BInv.put {w1 W1 w2 : World} {st : Option (List Int × Int)} (hC : BInv w1 st W1) (hb2 : Below W1.heap.size W1 w2) {v0 v1 : Value} (e0 : W1.heap[w1.heap.size]? = some (.cells #[v0] 137 (0, 0))) (e1 : W1.heap[w1.heap.size + 1]? = some (.cells #[v1] 3 (0, 0)))
    {c : List Int} {m : Int} {q : Addr} {cap : Nat} (hI : IntSl w2 (some q) c) (hq : w1.heap.size + 15 ≤ q.block) :
    BInv w1 (some (c, m)) ((w2.setCell ⟨w1.heap.size, 0, none⟩ (.slice (some q) c.length cap)).setCell ⟨w1.heap.size + 1, 0, none⟩ (.int .i64 m)) := by
  refine ⟨((hC.b.trans (hb2.mono hC.b.size)).setCell (p := ⟨w1.heap.size, 0, none⟩) (Nat.le_refl _) _).setCell (p := ⟨w1.heap.size + 1, 0, none⟩) (by show w1.heap.size ≤ w1.heap.size + 1; omega) _, q, cap, blk_other (blk_setCell (blk_below e0 hb2)) (by omega), blk_setCell (blk_other (blk_below e1 hb2) (by omega)), ?_, hq⟩
  refine ints_same hI (by rw [World.size_setCell, World.size_setCell]; exact Nat.le_refl _) (fun p hp _ => ?_)
  cases hp
  exact (Below.heap_setCell _ _ _ _ (by show q.block ≠ w1.heap.size + 1; omega)).trans (Below.heap_setCell _ _ _ _ (by show q.block ≠ w1.heap.size; omega))

set_option maxHeartbeats 800000 in
set_option maxRecDepth 100000 in
theorem cheapest_in (n : Nat) (a : Option Addr) (xs : List Lp) (cap : Nat) (r : Ru) (depth : Int) (w : World) (hx : Sl 3 Lp.cells w a xs) (hl : xs.length ≤ 1000000) :
    CallsIn Fence.wide n Tryz.prog 21 #[.slice a xs.length cap, r.v, .int .i64 depth] w (OutC3 w (cheapR xs r depth)) := by
  have q136 : ∀ (w : World) (a : Option Addr) (n c n' c' : Nat), (binOp .eql 137 (.slice a n c) (.slice none n' c')).run Tryz.prog w = .ok (.bool a.isNone) w := fun w a n c n' c' => Lib.run_eql_slice_nil w _ _ a n c n' c' Tryz.underlying137
  obtain ⟨Wa, hWa⟩ : ∃ Wa, ((w.alloc (.cells #[.slice a xs.length cap] 22)).alloc r.o).alloc (.cells #[.int .i64 depth] 3) = Wa := ⟨_, rfl⟩
  have hba : Below w.heap.size w Wa := by rw [← hWa]; exact (((Below.refl _ _).alloc (Nat.le_refl _) _).alloc (by simp) _).alloc (by simp <;> omega) _
  have h0 : Wa.heap[w.heap.size]? = some (.cells #[.slice a xs.length cap] 22 (0, 0)) := by rw [← hWa]; exact alk (alk (new_at rfl))
  have h1 : RuAt Wa (w.heap.size + 1) r := by rw [← hWa]; exact alk (new_at (by simp))
  have h2 : Wa.heap[w.heap.size + 1 + 1]? = some (.cells #[.int .i64 depth] 3 (0, 0)) := by rw [← hWa]; exact new_at (by simp)
  refine callsIn_of_wp_marks Tryz.func21 rfl trivial ?_ rfl
  simp only [Tryz.ntmps21, List.size_toArray, List.length_cons, List.length_nil, Nat.reduceAdd, Nat.reduceSub, Array.replicate_succ, Array.replicate_zero, List.push_toArray, List.append_toArray, List.nil_append, List.cons_append]
  have t00 := blk_cell h0 0 rfl
  obtain ⟨d0, d1, d2, d3, d4, d5, d6, d7, d8⟩ := h1.cells
  gi_wp2_with fail
  clear hWa t00 d0 d1 d2 d3 d4 d5 d6 d7 d8
  refine ⟨trivial, (fun h => by cases h), ?_⟩
  refine (callsIn_wide.2 (check_any a xs cap r _ (hx.below hba) hl)).mono ?_
  rintro e w1 ⟨rfl, hb⟩
  have hb1 := below_self hba hb
  by_cases hck : checkE xs r = 0
  · have h1b : (checkE xs r != 0) = false := by simp [hck]
    have HR : Hid (cheapR xs r depth = (if withinB depth 1 200 = true then (match bestOf xs depth (rightL xs r) with | none => ([], 0, 6) | some (b, m) => (b, m, 0)) else ([], 0, 3) : List Int × Int × Int)) := by show _ = _; rw [cheapR, if_pos hck]
    have HCK := Lib.hid hck
    clear hck
    have t2 := blk_cell (blk_below h2 hb) 0 rfl
    cases hd : withinB depth 1 200
    · have HR2 : Hid (cheapR xs r depth = ([], 0, 3)) := by show _ = _; rw [HR.out, hd]; rfl
      gi_wp2_with (refine ⟨trivial, (fun h => by cases h), ?_⟩; refine (callsIn_wide.2 (within_any _ _ _ _)).mono ?_; rintro e w' ⟨rfl, rfl⟩)
      refine ⟨_, by simp [results, Tryz.results21, go_sem]; rfl, ?_⟩
      rw [HR2.out]
      exact OutC3.nil rfl hb1
    · have HR2 : Hid (cheapR xs r depth = (match bestOf xs depth (rightL xs r) with | none => ([], 0, 6) | some (b, m) => (b, m, 0) : List Int × Int × Int)) := by show _ = _; rw [HR.out, hd]; rfl
      have HD := Lib.hid hd
      have t0 := blk_cell (blk_below h0 hb) 0 rfl
      obtain ⟨c0, c1, c2, c3, c4, c5, c6, c7, c8⟩ := (h1.below hb).cells
      have hz1 : w.heap.size + 3 ≤ w1.heap.size := by have := lt_of_block h2; have := hb.size; omega
      have hz2 : w.heap.size < w1.heap.size := by omega
      have hz3 : w.heap.size + 1 < w1.heap.size := by omega
      have hz4 : w.heap.size + 1 + 1 < w1.heap.size := by omega
      gi_wp2_with (first | (refine ⟨trivial, (fun h => by cases h), ?_⟩; gi_at_call 79; refine (callsIn_wide.2 (within_any _ _ _ _)).mono ?_; rintro e w' ⟨rfl, rfl⟩; rw [hd]) | (refine ⟨trivial, (fun h => by cases h), ?_⟩; refine (callsIn_wide.2 (right_any a xs.length cap r _)).mono ?_; rintro e w2 ⟨rfl, rfl⟩))
      have hal := (stad_ok (check_ok HCK.out).1).1
      have hl12 := (stad_ok (check_ok HCK.out).1).2
      have hab : ∀ p, a = some p → p.block < w.heap.size := sl_lt hx (by omega)
      have hdd : 1 ≤ depth ∧ depth ≤ 200 := by have := HD.out; simp [withinB] at this; omega
      have hs0 := blk_below h0 hb
      have hs2 := blk_below h2 hb
      clear t0 t2 c0 c1 c2 c3 c4 c5 c6 c7 c8 hd
      obtain ⟨Wr, hWr⟩ : ∃ Wr, (((w1.alloc (.cells #[.slice none 0 0] 137)).alloc (.cells #[.int .i64 0] 3)).alloc (.cells #[.slice a xs.length cap] 22)).alloc r.o = Wr := ⟨_, rfl⟩
      have hzr : Wr.heap.size = w1.heap.size + 4 := by rw [← hWr]; simp
      have hbr : Below w1.heap.size w1 Wr := by rw [← hWr]; exact ((((Below.refl _ _).alloc (Nat.le_refl _) _).alloc (by simp) _).alloc (by simp <;> omega) _).alloc (by simp <;> omega) _
      have g0 : Wr.heap[w1.heap.size]? = some (.cells #[.slice none 0 0] 137 (0, 0)) := by rw [← hWr]; exact alk (alk (alk (new_at rfl)))
      have g1 : Wr.heap[w1.heap.size + 1]? = some (.cells #[.int .i64 0] 3 (0, 0)) := by rw [← hWr]; exact alk (alk (new_at (by simp)))
      have g2 : Wr.heap[w1.heap.size + 1 + 1]? = some (.cells #[.slice a xs.length cap] 22 (0, 0)) := by rw [← hWr]; exact alk (new_at (by simp))
      have g3 : RuAt Wr (w1.heap.size + 1 + 1 + 1) r := by rw [← hWr]; exact new_at (by simp)
      have hseq := right1_seq a xs cap r r.laps.toNat (w1.heap.size + 1 + 1) (w1.heap.size + 1 + 1 + 1) Wr (hx.below (below_self hb1 hbr)) HCK.out (laps_nat HCK.out).1 g2 g3
      have hlap := (laps_nat HCK.out).2
      have HRL : Hid (rightL xs r = (extC xs.length r.laps.toNat [] 0).filter (okC xs r)) := rfl
      have hSub : ∀ c ∈ (extC xs.length r.laps.toNat [] 0).filter (okC xs r), c ∈ extC xs.length r.laps.toNat [] 0 := fun c hc => (List.mem_filter.1 hc).1
      generalize hS : (extC xs.length r.laps.toNat [] 0).filter (okC xs r) = S at hseq hSub HRL
      have notOwn : ∀ j, w1.heap.size ≤ j → j < w1.heap.size + 2 → ¬ ownOf (fun k => k = w1.heap.size + 1 + 1 ∨ k = w1.heap.size + 1 + 1 + 1 ∨ ∃ p, a = some p ∧ k = p.block) (9 + 2) Wr.heap.size j := fun j h0 hj h => by
        rw [hzr] at h
        rcases h with (h | h | ⟨q, hq, rfl⟩) | h
        · omega
        · omega
        · have := hab q hq; omega
        · omega
      rw [hWr]
      clear hWr hS
      refine range_seqC (gf := 134) (lb := #[.pointer (some ⟨w1.heap.size + 1 + 1, 0, none⟩), .pointer (some ⟨w1.heap.size + 1 + 1 + 1, 0, none⟩)]) rfl eg140 hseq (Below.refl _ _) (fun k h => by
          rw [hzr]
          rcases h with h | h | ⟨q, hq, rfl⟩
          · omega
          · omega
          · have := hab q hq; omega)
        (fun pre W' => BInv w1 (bestOf xs depth pre) W') (fun _ _ => False)
        (fun s A B h hap => h.apart (by rw [hzr] at hap; exact hap)) (fun _ _ _ h _ => h)
        ⟨hbr, g0, g1⟩
        (fun v => { tmps := #[.slice a xs.length cap, r.v, .int .i64 depth, .pointer (some ⟨w.heap.size, 0, none⟩), .pointer (some ⟨w.heap.size + 1, 0, none⟩), .pointer (some ⟨w.heap.size + 1 + 1, 0, none⟩), .slice none 0 0, .int .i64 0, .int .i64 0, .int .i64 (checkE xs r), .pointer (some ⟨w1.heap.size, 0, none⟩), .pointer (some ⟨w1.heap.size + 1, 0, none⟩), v, undef, .slice a xs.length cap, r.v, .int .i64 (checkE xs r), .int .i64 (checkE xs r), .bool false, undef, .int .i64 depth, .bool true, .bool false, .slice a xs.length cap, r.v, .func (.func 134) #[] #[.pointer (some ⟨w1.heap.size + 1 + 1, 0, none⟩), .pointer (some ⟨w1.heap.size + 1 + 1 + 1, 0, none⟩)], v, undef, undef, undef, undef, undef, undef, undef, undef, undef, undef, undef, undef, undef, undef, undef, undef, undef], defers := [] })
        ?assign ?body ?done ?stop
      case assign =>
        intro l k v W K hK
        gi_wp2
        exact hK
      case body =>
        rintro l2 k pre c av ccap W1 hC hpre hsl hty hfr
        have hcS : c ∈ S := hpre.subset (by simp)
        obtain ⟨hcl, _⟩ := extC_ok xs.length r.laps.toNat [] 0 (by simp) c (hSub c hcS)
        simp at hcl
        have hc1 : 0 < c.length := by omega
        have hc2 : c.length ≤ 1000000 := by omega
        have HST : Hid (bestOf xs depth (pre ++ [c]) = bestStep xs depth (bestOf xs depth pre) c) := bestOf_snoc _ _ _ _
        clear hcl hcS hpre
        obtain ⟨qb, qo, hav, hqb, hqc⟩ := hsl hc1
        subst hav
        have hq15 : w1.heap.size + 15 ≤ qb := by have := hfr _ rfl; rw [hzr] at this; have : w1.heap.size + 4 + 2 + 9 ≤ qb := this; omega
        clear hqc hfr
        have hw0 := hs0
        have s0 := blk_cell (blk_below hs0 hC.b) 0 rfl
        have s2 := blk_cell (blk_below hs2 hC.b) 0 rfl
        have hxW := hx.below (below_self hb1 hC.b)
        generalize hst : bestOf xs depth pre = st at hC HST
        clear hst
        have hbest := hC.best
        cases st with
        | none =>
          obtain ⟨e0, e1⟩ := hbest
          have HF : Hid (bestOf xs depth (pre ++ [c]) = some (c, snowL xs c depth)) := HST.out
          gi_wp2_with (refine ⟨trivial, (fun h => by cases h), ?_⟩; refine (CallsIn.inRound l2 (callsIn_wide.2 (snow_any a xs cap _ c ccap depth _ hxW hsl hl12.2 hc2 hal hdd))).mono ?_; rintro e w2 ⟨rfl, hb2⟩; have f0 := blk_cell (blk_below e0 hb2) 0 rfl; have f1 := blk_free (j := 0) (blk_below e0 hb2); have f2 := blk_cell (blk_below e1 hb2) 0 rfl; have f3 := blk_free (j := 0) (blk_below e1 hb2))
          refine ⟨((Keeps.of_below hb2).trans (Keeps.setCell _ (q := ⟨w1.heap.size, 0, none⟩) (notOwn (w1.heap.size) (by omega) (by omega)) _)).trans (Keeps.setCell _ (q := ⟨w1.heap.size + 1, 0, none⟩) (notOwn (w1.heap.size + 1) (by omega) (by omega)) _), ?_⟩
          show BInv w1 (bestOf xs depth (pre ++ [c])) _
          rw [HF.out]
          exact hC.put hb2 e0 e1 (hsl.below hb2) hq15
        | some p =>
          obtain ⟨pb, pm⟩ := p
          obtain ⟨q, bcap, e0, e1, e2, e3⟩ := hbest
          by_cases hlt : snowL xs c depth < pm
          · have HF : Hid (bestOf xs depth (pre ++ [c]) = some (c, snowL xs c depth)) := by show _ = _; rw [HST.out]; simp [bestStep, hlt]
            gi_wp2_with (refine ⟨trivial, (fun h => by cases h), ?_⟩; refine (CallsIn.inRound l2 (callsIn_wide.2 (snow_any a xs cap _ c ccap depth _ hxW hsl hl12.2 hc2 hal hdd))).mono ?_; rintro e w2 ⟨rfl, hb2⟩; have f0 := blk_cell (blk_below e0 hb2) 0 rfl; have f1 := blk_free (j := 0) (blk_below e0 hb2); have f2 := blk_cell (blk_below e1 hb2) 0 rfl; have f3 := blk_free (j := 0) (blk_below e1 hb2))
            refine ⟨((Keeps.of_below hb2).trans (Keeps.setCell _ (q := ⟨w1.heap.size, 0, none⟩) (notOwn (w1.heap.size) (by omega) (by omega)) _)).trans (Keeps.setCell _ (q := ⟨w1.heap.size + 1, 0, none⟩) (notOwn (w1.heap.size + 1) (by omega) (by omega)) _), ?_⟩
            show BInv w1 (bestOf xs depth (pre ++ [c])) _
            rw [HF.out]
            exact hC.put hb2 e0 e1 (hsl.below hb2) hq15
          · have HF : Hid (bestOf xs depth (pre ++ [c]) = some (pb, pm)) := by show _ = _; rw [HST.out]; simp [bestStep, hlt]
            gi_wp2_with (refine ⟨trivial, (fun h => by cases h), ?_⟩; refine (CallsIn.inRound l2 (callsIn_wide.2 (snow_any a xs cap _ c ccap depth _ hxW hsl hl12.2 hc2 hal hdd))).mono ?_; rintro e w2 ⟨rfl, hb2⟩; have f0 := blk_cell (blk_below e0 hb2) 0 rfl; have f1 := blk_free (j := 0) (blk_below e0 hb2); have f2 := blk_cell (blk_below e1 hb2) 0 rfl; have f3 := blk_free (j := 0) (blk_below e1 hb2))
            refine ⟨Keeps.of_below hb2, ?_⟩
            show BInv w1 (bestOf xs depth (pre ++ [c])) _
            rw [HF.out]
            exact hC.apart (Apart.of_below hb2)
      case done =>
        rintro W2 hC hK
        rw [hzr] at hK
        have HR3 : Hid (cheapR xs r depth = (match bestOf xs depth S with | none => ([], 0, 6) | some (b, m) => (b, m, 0) : List Int × Int × Int)) := by show _ = _; rw [HR2.out, HRL.out]
        have hbest := hC.best
        generalize bestOf xs depth S = st at hC HR3 hbest
        have hB4 : Below w.heap.size w (W2.putObj (w1.heap.size + 4) (.deferred none)) := (below_self hb1 hC.b).trans ⟨rfl, rfl, rfl, by rw [putObj_size]; exact Nat.le_refl _, fun j hj => World.putObj_heap_other (by omega)⟩
        cases st with
        | none =>
          obtain ⟨e0, e1⟩ := hbest
          have f0 := blk_cell e0 0 rfl
          gi_wp2
          refine ⟨by simp, .inl ⟨_, _, rfl, run_takeDeferred hK, ?_⟩⟩
          refine ⟨_, by simp [results, Tryz.results21, go_sem]; rfl, ?_⟩
          rw [HR3.out]
          exact OutC3.nil rfl hB4
        | some p =>
          obtain ⟨pb, pm⟩ := p
          obtain ⟨q, bcap, e0, e1, e2, e3⟩ := hbest
          have f0 := blk_cell e0 0 rfl
          have f1 := blk_cell e1 0 rfl
          gi_wp2
          gi_region
          all_goals gi_wp2
          all_goals first | refine ⟨by simp, .inl ⟨_, _, rfl, run_takeDeferred ‹_›, ?_⟩⟩ | skip
          all_goals (refine ⟨_, by simp [results, Tryz.results21, go_sem]; rfl, ?_⟩; rw [HR3.out])
          all_goals exact ⟨some q, bcap, rfl, ints_same e2 (by rw [putObj_size]; exact Nat.le_refl _) (fun p hp _ => by cases hp; exact World.putObj_heap_other (w := W2) (by omega)), (by obtain ⟨x1, x2, x3, x4, x5⟩ := hB4; exact ⟨x1, x2, x3, x4, x5⟩)⟩
      case stop =>
        rintro pre W2 _ h _
        exact h.elim
  · have h1b : (checkE xs r != 0) = true := by simp [hck]
    have HR2 : Hid (cheapR xs r depth = ([], 0, checkE xs r)) := by show _ = _; rw [cheapR, if_neg hck]
    clear hck
    gi_wp2
    refine ⟨_, by simp [results, Tryz.results21, go_sem]; rfl, ?_⟩
    rw [HR2.out]
    exact OutC3.nil rfl hb1
theorem cheapest_any (a : Option Addr) (xs : List Lp) (cap : Nat) (r : Ru) (depth : Int) (w : World) (hx : Sl 3 Lp.cells w a xs) (hl : xs.length ≤ 1000000) :
    Calls Tryz.prog 21 #[.slice a xs.length cap, r.v, .int .i64 depth] w (OutC3 w (cheapR xs r depth)) := callsIn_wide.1 (cheapest_in 0 a xs cap r depth w hx hl)
end Go.Proofs.YtmebmcipmemofaaGreat

namespace Go.Proofs.YtmebmcipmemofaaGreat
open Go.RowKit Go.Shelf
attribute [local go_sem] Oper.semAt_some

abbrev wv (stock store : Int) (a : Option Addr) (n cap : Nat) : Value := .agg #[.int .i64 stock, .int .i64 store, .slice a n cap]
def dayB (d : Dy) : Bool := boundedB d.need 100000 && (boundedB d.make 100000 && boundedB d.loss 100000)
def winE (stock store : Int) (ds : List Dy) : Int := if withinB store 1 1000000 = true then (if withinB stock 0 store = true then (if withinB ds.length 1 60 = true then (if ds.all dayB = true then 0 else 3) else 2) else 3) else 3

set_option maxHeartbeats 400000 in
theorem day_any (d : Dy) (w : World) : Calls Tryz.prog 89 #[d.v] w fun e w' => e = .returned (.bool (dayB d)) ∧ Below w.heap.size w w' := by
  go_enter Tryz.func89, Tryz.ntmps89
  obtain ⟨Wa, hWa⟩ : ∃ Wa, w.alloc (.cells #[.int .i64 d.need.lo, .int .i64 d.need.hi, .int .i64 d.make.lo, .int .i64 d.make.hi, .int .i64 d.loss.lo, .int .i64 d.loss.hi] 97) = Wa := ⟨_, rfl⟩
  have hba : Below w.heap.size w Wa := by rw [← hWa]; exact (Below.refl _ _).alloc (Nat.le_refl _) _
  have h0 : Wa.heap[w.heap.size]? = some (.cells #[.int .i64 d.need.lo, .int .i64 d.need.hi, .int .i64 d.make.lo, .int .i64 d.make.hi, .int .i64 d.loss.lo, .int .i64 d.loss.hi] 97 (0, 0)) := by rw [← hWa]; exact new_at rfl
  have c0 := blk_cell h0 0 rfl
  have c1 := blk_cell h0 1 rfl
  go_wp2_with fail
  clear hWa c0 c1
  refine (bounded_any d.need _ _).mono ?_
  rintro e w1 ⟨rfl, hb⟩
  have h1 := blk_below h0 hb
  have hb1 := below_self hba hb
  have c2 := blk_cell h1 2 rfl
  have c3 := blk_cell h1 3 rfl
  clear hb hba h0
  cases e1 : boundedB d.need 100000
  · have HD := Lib.hid (show dayB d = false by simp [dayB, e1])
    go_wp2
    go_ret
    exact ⟨by rw [HD.out]; rfl, hb1⟩
  · go_wp2_with fail
    refine (bounded_any d.make _ _).mono ?_
    rintro e w2 ⟨rfl, hb⟩
    have h2 := blk_below h1 hb
    have hb2 := below_self hb1 hb
    have c4 := blk_cell h2 4 rfl
    have c5 := blk_cell h2 5 rfl
    clear hb hb1 h1 c2 c3
    cases e2 : boundedB d.make 100000
    · have HD := Lib.hid (show dayB d = false by simp [dayB, e2])
      go_wp2
      go_ret
      exact ⟨by rw [HD.out]; rfl, hb2⟩
    · have HD := Lib.hid (show dayB d = boundedB d.loss 100000 by simp [dayB, e1, e2])
      go_wp2_with fail
      refine (bounded_any d.loss _ _).mono ?_
      rintro e w3 ⟨rfl, hb⟩
      go_wp2
      go_ret
      exact ⟨by rw [HD.out]; rfl, below_self hb2 hb⟩

theorem eg127 : ∀ args w, (callFunc 89 args).run Tryz.prog w = .ok (.enter 89 args) w := enters_of Tryz.func89 (by kernel_rfl) rfl
set_option maxHeartbeats 800000 in
theorem checkWinter_any (stock store : Int) (a : Option Addr) (ds : List Dy) (cap : Nat) (w : World) (hx : Sl 6 Dy.cells w a ds) (hl : ds.length ≤ 1000000) :
    Calls Tryz.prog 30 #[wv stock store a ds.length cap] w fun e w' => e = .returned (.int .i64 (winE stock store ds)) ∧ Below w.heap.size w w' := by
  go_enter Tryz.func30, Tryz.ntmps30
  obtain ⟨Wa, hWa⟩ : ∃ Wa, w.alloc (.cells #[.int .i64 stock, .int .i64 store, .slice a ds.length cap] 56) = Wa := ⟨_, rfl⟩
  have hba : Below w.heap.size w Wa := by rw [← hWa]; exact (Below.refl _ _).alloc (Nat.le_refl _) _
  have h0 : Wa.heap[w.heap.size]? = some (.cells #[.int .i64 stock, .int .i64 store, .slice a ds.length cap] 56 (0, 0)) := by rw [← hWa]; exact new_at rfl
  have c0 := blk_cell h0 0 rfl
  have c1 := blk_cell h0 1 rfl
  have c2 := blk_cell h0 2 rfl
  have hlt := lt_of_block h0
  cases e1 : withinB store 1 1000000
  · have HD := Lib.hid (show winE stock store ds = 3 by simp [winE, e1])
    go_wp2_with (go_at_call 79; refine (within_any _ _ _ _).mono ?_; rintro e w' ⟨rfl, rfl⟩)
    go_ret
    exact ⟨by rw [HD.out]; rfl, hba⟩
  · cases e2 : withinB stock 0 store
    · have HD := Lib.hid (show winE stock store ds = 3 by simp [winE, e1, e2])
      go_wp2_with (go_at_call 79; refine (within_any _ _ _ _).mono ?_; rintro e w' ⟨rfl, rfl⟩)
      go_ret
      exact ⟨by rw [HD.out]; rfl, hba⟩
    · cases e3 : withinB ds.length 1 60
      · have HD := Lib.hid (show winE stock store ds = 2 by simp [winE, e1, e2, e3])
        go_wp2_with (go_at_call 79; refine (within_any _ _ _ _).mono ?_; rintro e w' ⟨rfl, rfl⟩)
        go_ret
        exact ⟨by rw [HD.out]; rfl, hba⟩
      · have HD := Lib.hid (show winE stock store ds = (if ds.all dayB = true then 0 else 3) by simp [winE, e1, e2, e3])
        go_wp2_with (go_at_call 79; refine (within_any _ _ _ _).mono ?_; rintro e w' ⟨rfl, rfl⟩)
        refine (every_day a ds cap 89 #[] dayB _ (hx.below hba) hl eg127 (fun x _ W _ => day_any x W)).mono ?_
        rintro e w1 ⟨rfl, hb⟩
        have hb1 := below_self hba hb
        cases e4 : ds.all dayB
        · have HD2 := Lib.hid (show winE stock store ds = 3 by rw [HD.out]; simp [e4])
          go_wp2
          go_ret
          exact ⟨by rw [HD2.out]; rfl, hb1⟩
        · have HD2 := Lib.hid (show winE stock store ds = 0 by rw [HD.out]; simp [e4])
          go_wp2
          go_ret
          exact ⟨by rw [HD2.out]; rfl, hb1⟩
end Go.Proofs.YtmebmcipmemofaaGreat

namespace Go.Proofs.YtmebmcipmemofaaGreat
open Go.RowKit Go.Shelf
attribute [local go_sem] Oper.semAt_some

set_option maxHeartbeats 1000000 in
theorem mapped_day (a : Option Addr) (xs : List Dy) (cap g : Nat) (lb : Array Value) (f : Dy → Int) (w : World) (hx : Sl 6 Dy.cells w a xs) (hl : xs.length ≤ 1000000)
    (eg : ∀ args w, (callFunc g args).run Tryz.prog w = .ok (.enter g args) w)
    (hg : ∀ x ∈ xs, ∀ W, Below w.heap.size w W → Calls Tryz.prog g (#[Dy.v x] ++ lb) W fun e W' => e = .returned (.int .i64 (f x)) ∧ Below W.heap.size W W') :
    Calls Tryz.prog 137 #[.slice a xs.length cap, .func (.func g) #[] lb] w (OutInts w (xs.map f)) := by
  have Hg := Lib.hid hg
  clear hg
  obtain ⟨i0, hi, hz0, hz1, hz2⟩ := info_parts Tryz.info3
  go_enter Tryz.func137, Tryz.ntmps137
  go_wp2_with (at_make; refine wpList_make_own _ rfl _ _ 27 rfl w.heap.size 3 i0 (.int .i64 0) 1 Tryz.underlying27 hi hz0 hz1 _ _ _ xs.length rfl rfl (by omega) ?b2 ?b3 (Nat.le_refl _) ?_)
  case b2 => rw [hz2]; omega
  case b3 => unfold maxLen; omega
  intro w0 hown0 hgrow0
  have hb0 : Below w.heap.size w w0 := (Below.refl _ _).grown hgrow0 (Nat.le_refl _) (fun k h => by cases h)
  clear hgrow0
  go_wp2
  go_loopw [5, 13] (fun v i wr => ∃ k : Nat, k ≤ xs.length ∧ i = .int .i64 k ∧ wr.ownsRow w.heap.size 3 1 v k (((xs.take k).map f).map (Value.int .i64)) ∧ Below w.heap.size w wr) (fun _ i _ => xs.length - (intOf i).toNat)
  case atStart => exact ⟨0, Nat.zero_le _, rfl, hown0, hb0⟩
  case round =>
    obtain ⟨k, hk, rfl, hown, hbw⟩ := hrel
    by_cases hlt : k < xs.length
    · obtain ⟨b, off, rfl, hbs, hc⟩ := hx (by omega)
      have hc0 := (hbw.cell (p := ⟨b, off + k * 6, none⟩) hbs).trans (hc k xs[k] 0 _ (List.getElem?_eq_getElem hlt) rfl)
      have hc1 := (hbw.cell (p := ⟨b, off + k * 6 + 1, none⟩) hbs).trans (hc k xs[k] 1 _ (List.getElem?_eq_getElem hlt) rfl)
      have hc2 := (hbw.cell (p := ⟨b, off + k * 6 + 2, none⟩) hbs).trans (hc k xs[k] 2 _ (List.getElem?_eq_getElem hlt) rfl)
      have hc3 := (hbw.cell (p := ⟨b, off + k * 6 + 3, none⟩) hbs).trans (hc k xs[k] 3 _ (List.getElem?_eq_getElem hlt) rfl)
      have hc4 := (hbw.cell (p := ⟨b, off + k * 6 + 4, none⟩) hbs).trans (hc k xs[k] 4 _ (List.getElem?_eq_getElem hlt) rfl)
      have hc5 := (hbw.cell (p := ⟨b, off + k * 6 + 5, none⟩) hbs).trans (hc k xs[k] 5 _ (List.getElem?_eq_getElem hlt) rfl)
      clear hc
      go_wp2_with fail
      refine (Hg.out _ (List.getElem_mem hlt) _ (hbw.alloc hbw.size _)).mono ?_
      rintro e w1 ⟨rfl, hb1⟩
      have hb2 := below_self (hbw.alloc hbw.size _) hb1
      have hown1 := owns_below (hown.alloc _) hb1
      clear hbw hc0 hc1 hc2 hc3 hc4 hc5 hb1 hown
      go_wp2_with (at_builtin; refine wpList_append_own _ rfl _ _ 27 rfl w.heap.size 3 i0 (.int .i64 0) 1 8 Tryz.underlying27 hi hz0 hz1 hz2 rfl (by decide) _ _ _ rfl (hown1.alloc _) ⟨w1.heap.size, 0, none⟩ 1 1 [.int .i64 (f xs[k])] rfl rfl ?c1 ?c2 ?c3 ?c4 ?c5 ?_)
      case c1 => exact cell_one_new _ _ _
      case c2 => intro u hu; simp at hu; subst hu; rfl
      case c3 => unfold maxLen; omega
      case c4 => omega
      case c5 => have := hb2.size; simp; omega
      intro v' w2 hown2 hgrow2 _
      have hb3 : Below w.heap.size w w2 := (hb2.alloc hb2.size _).grown hgrow2 (by have := hb2.size; simp; omega) (fun j hj => (hown1.lt j hj).1)
      have hown3 : w2.ownsRow w.heap.size 3 1 v' (k + 1) (((xs.take (k+1)).map f).map (Value.int .i64)) := by
        have e : ((xs.take (k + 1)).map f).map (Value.int .i64) = (xs.map (Value.int .i64 ∘ f)).take k ++ [.int .i64 (f xs[k])] := by
          rw [map_take_succ f xs k hlt, List.map_append]; simp
        rw [e]; exact hown2
      clear hown2 hgrow2 hown1 hb2
      go_wp2
      go_roundw
      case rel => exact ⟨k + 1, by omega, by go_num, hown3, hb3⟩
      case measure => simp [intOf]; omega
    · have : k = xs.length := by omega
      subst this
      rw [List.take_length] at hown
      obtain ⟨a', cap', rfl, hs, hfr⟩ := ints_of_owns hown
      go_wp2
      go_ret
      exact ⟨a', cap', rfl, hs, hfr, hbw⟩


theorem eg129 : ∀ args w, (callFunc 135 args).run Tryz.prog w = .ok (.enter 135 args) w := enters_of Tryz.func135 (by kernel_rfl) rfl
theorem eg130 : ∀ args w, (callFunc 136 args).run Tryz.prog w = .ok (.enter 136 args) w := enters_of Tryz.func136 (by kernel_rfl) rfl
theorem eg132 : ∀ args w, (callFunc 138 args).run Tryz.prog w = .ok (.enter 138 args) w := enters_of Tryz.func138 (by kernel_rfl) rfl
theorem eg133 : ∀ args w, (callFunc 139 args).run Tryz.prog w = .ok (.enter 139 args) w := enters_of Tryz.func139 (by kernel_rfl) rfl
theorem eg134 : ∀ args w, (callFunc 140 args).run Tryz.prog w = .ok (.enter 140 args) w := enters_of Tryz.func140 (by kernel_rfl) rfl

theorem high_any (s : Sp) (w : World) : Calls Tryz.prog 135 #[s.v] w fun e w' => e = .returned (.int .i64 s.hi) ∧ Below w.heap.size w w' := by
  go_enter Tryz.func135, Tryz.ntmps135
  go_wp2
  go_ret
  exact ⟨rfl, (Below.refl _ _).alloc (Nat.le_refl _) _⟩
theorem low_any (s : Sp) (w : World) : Calls Tryz.prog 136 #[s.v] w fun e w' => e = .returned (.int .i64 s.lo) ∧ Below w.heap.size w w' := by
  go_enter Tryz.func136, Tryz.ntmps136
  go_wp2
  go_ret
  exact ⟨rfl, (Below.refl _ _).alloc (Nat.le_refl _) _⟩

theorem worst_any (w : World) : Calls Tryz.prog 92 #[] w fun e w' => e = .returned (.agg #[.func (.func 135) #[] #[], .func (.func 136) #[] #[], .func (.func 135) #[] #[]]) ∧ Below w.heap.size w w' := by
  go_enter Tryz.func92, Tryz.ntmps92
  obtain ⟨Wa, hWa⟩ : ∃ Wa, w.alloc (.cells #[.func (.func 135) #[] #[], .func (.func 136) #[] #[], .func (.func 135) #[] #[]] 159) = Wa := ⟨_, rfl⟩
  have hba : Below w.heap.size w Wa := by rw [← hWa]; exact (Below.refl _ _).alloc (Nat.le_refl _) _
  have h0 : Wa.heap[w.heap.size]? = some (.cells #[.func (.func 135) #[] #[], .func (.func 136) #[] #[], .func (.func 135) #[] #[]] 159 (0, 0)) := by rw [← hWa]; exact new_at rfl
  have q0 := blk_cell h0 0 rfl
  have q1 := blk_cell h0 1 rfl
  have q2 := blk_cell h0 2 rfl
  go_wp2
  try rw [hWa]
  exact bodyPost_ret (v := .agg #[.func (.func 135) #[] #[], .func (.func 136) #[] #[], .func (.func 135) #[] #[]]) (by simp [results, Tryz.results92, go_sem, q0, q1, q2]) rfl ⟨rfl, hba⟩
theorem best_any (w : World) : Calls Tryz.prog 121 #[] w fun e w' => e = .returned (.agg #[.func (.func 136) #[] #[], .func (.func 135) #[] #[], .func (.func 136) #[] #[]]) ∧ Below w.heap.size w w' := by
  go_enter Tryz.func121, Tryz.ntmps121
  obtain ⟨Wa, hWa⟩ : ∃ Wa, w.alloc (.cells #[.func (.func 136) #[] #[], .func (.func 135) #[] #[], .func (.func 136) #[] #[]] 159) = Wa := ⟨_, rfl⟩
  have hba : Below w.heap.size w Wa := by rw [← hWa]; exact (Below.refl _ _).alloc (Nat.le_refl _) _
  have h0 : Wa.heap[w.heap.size]? = some (.cells #[.func (.func 136) #[] #[], .func (.func 135) #[] #[], .func (.func 136) #[] #[]] 159 (0, 0)) := by rw [← hWa]; exact new_at rfl
  have q0 := blk_cell h0 0 rfl
  have q1 := blk_cell h0 1 rfl
  have q2 := blk_cell h0 2 rfl
  go_wp2
  try rw [hWa]
  exact bodyPost_ret (v := .agg #[.func (.func 136) #[] #[], .func (.func 135) #[] #[], .func (.func 136) #[] #[]]) (by simp [results, Tryz.results121, go_sem, q0, q1, q2]) rfl ⟨rfl, hba⟩

def EndsAt (w : World) (B : Nat) (g1 g2 g3 : Nat) : Prop := w.heap[B]? = some (.cells #[.func (.func g1) #[] #[], .func (.func g2) #[] #[], .func (.func g3) #[] #[]] 159 (0, 0))

/-- A function that answers a number of a span, and leaves what was there. -/
def EndF (g : Nat) (f : Sp → Int) : Prop := (∀ args w, (callFunc g args).run Tryz.prog w = .ok (.enter g args) w) ∧ ∀ (s : Sp) (w : World), Calls Tryz.prog g #[s.v] w fun e w' => e = .returned (.int .i64 (f s)) ∧ Below w.heap.size w w'
theorem high_f : EndF 135 Sp.hi := ⟨eg129, high_any⟩
theorem low_f : EndF 136 Sp.lo := ⟨eg130, low_any⟩

theorem spell1_any (d : Dy) (g1 g2 g3 B : Nat) (f : Sp → Int) (hf : EndF g1 f) (w : World) (h : EndsAt w B g1 g2 g3) :
    Calls Tryz.prog 138 #[d.v, .pointer (some ⟨B, 0, none⟩)] w fun e w' => e = .returned (.int .i64 (f d.need)) ∧ Below w.heap.size w w' := by
  obtain ⟨eg, hc⟩ := hf
  have Hc := Lib.hid hc
  clear hc
  have hB := lt_of_block h
  have hbox : Below w.heap.size w (w.alloc (.cells #[.int .i64 d.need.lo, .int .i64 d.need.hi, .int .i64 d.make.lo, .int .i64 d.make.hi, .int .i64 d.loss.lo, .int .i64 d.loss.hi] 97)) := (Below.refl _ _).alloc (Nat.le_refl _) _
  have c0 := blk_cell h 0 rfl
  have c1 := blk_cell h 1 rfl
  have c2 := blk_cell h 2 rfl
  go_enter Tryz.func138, Tryz.ntmps138
  go_wp2_with fail
  refine (Hc.out d.need _).mono ?_
  rintro e w1 ⟨rfl, hb⟩
  go_wp2
  go_ret
  exact ⟨rfl, below_self hbox hb⟩
theorem spell2_any (d : Dy) (g1 g2 g3 B : Nat) (f : Sp → Int) (hf : EndF g2 f) (w : World) (h : EndsAt w B g1 g2 g3) :
    Calls Tryz.prog 139 #[d.v, .pointer (some ⟨B, 0, none⟩)] w fun e w' => e = .returned (.int .i64 (f d.make)) ∧ Below w.heap.size w w' := by
  obtain ⟨eg, hc⟩ := hf
  have Hc := Lib.hid hc
  clear hc
  have hB := lt_of_block h
  have hbox : Below w.heap.size w (w.alloc (.cells #[.int .i64 d.need.lo, .int .i64 d.need.hi, .int .i64 d.make.lo, .int .i64 d.make.hi, .int .i64 d.loss.lo, .int .i64 d.loss.hi] 97)) := (Below.refl _ _).alloc (Nat.le_refl _) _
  have c0 := blk_cell h 0 rfl
  have c1 := blk_cell h 1 rfl
  have c2 := blk_cell h 2 rfl
  go_enter Tryz.func139, Tryz.ntmps139
  go_wp2_with fail
  refine (Hc.out d.make _).mono ?_
  rintro e w1 ⟨rfl, hb⟩
  go_wp2
  go_ret
  exact ⟨rfl, below_self hbox hb⟩
theorem spell3_any (d : Dy) (g1 g2 g3 B : Nat) (f : Sp → Int) (hf : EndF g3 f) (w : World) (h : EndsAt w B g1 g2 g3) :
    Calls Tryz.prog 140 #[d.v, .pointer (some ⟨B, 0, none⟩)] w fun e w' => e = .returned (.int .i64 (f d.loss)) ∧ Below w.heap.size w w' := by
  obtain ⟨eg, hc⟩ := hf
  have Hc := Lib.hid hc
  clear hc
  have hB := lt_of_block h
  have hbox : Below w.heap.size w (w.alloc (.cells #[.int .i64 d.need.lo, .int .i64 d.need.hi, .int .i64 d.make.lo, .int .i64 d.make.hi, .int .i64 d.loss.lo, .int .i64 d.loss.hi] 97)) := (Below.refl _ _).alloc (Nat.le_refl _) _
  have c0 := blk_cell h 0 rfl
  have c1 := blk_cell h 1 rfl
  have c2 := blk_cell h 2 rfl
  go_enter Tryz.func140, Tryz.ntmps140
  go_wp2_with fail
  refine (Hc.out d.loss _).mono ?_
  rintro e w1 ⟨rfl, hb⟩
  go_wp2
  go_ret
  exact ⟨rfl, below_self hbox hb⟩
end Go.Proofs.YtmebmcipmemofaaGreat

namespace Go.Proofs.YtmebmcipmemofaaGreat
open Go.RowKit Go.Shelf
attribute [local go_sem] Oper.semAt_some

/-- A spell as a value. -/
abbrev sv (stock store : Int) (a : Option Addr) (n cap : Nat) (an : Option Addr) (nn cn : Nat) (am : Option Addr) (nm cm : Nat) (al : Option Addr) (nl cl : Nat) : Value :=
  .agg #[.int .i64 stock, .int .i64 store, .slice a n cap, .slice an nn cn, .slice am nm cm, .slice al nl cl]

structure OutSpell (w : World) (stock store : Int) (a : Option Addr) (ds : List Dy) (cap : Nat) (f1 f2 f3 : Sp → Int) (e : Ending) (w' : World) : Prop where
  all : ∃ an cn am cm al cl, e = .returned (sv stock store a ds.length cap an ds.length cn am ds.length cm al ds.length cl) ∧ IntSl w' an (ds.map fun d => f1 d.need) ∧ IntSl w' am (ds.map fun d => f2 d.make) ∧ IntSl w' al (ds.map fun d => f3 d.loss) ∧ Below w.heap.size w w'

theorem six_put {w W : World} {B : Nat} {t : TypeId} {u0 u1 u2 u3 u4 u5 v0 v1 v2 v3 v4 v5 : Value} (h : W.heap[B]? = some (.cells #[u0, u1, u2, u3, u4, u5] t (0, 0))) (hB : w.heap.size ≤ B) (k : Below w.heap.size w W) :
    Below w.heap.size w ((((((W.setCell ⟨B, 0, none⟩ v0).setCell ⟨B, 1, none⟩ v1).setCell ⟨B, 2, none⟩ v2).setCell ⟨B, 3, none⟩ v3).setCell ⟨B, 4, none⟩ v4).setCell ⟨B, 5, none⟩ v5) ∧ ((((((W.setCell ⟨B, 0, none⟩ v0).setCell ⟨B, 1, none⟩ v1).setCell ⟨B, 2, none⟩ v2).setCell ⟨B, 3, none⟩ v3).setCell ⟨B, 4, none⟩ v4).setCell ⟨B, 5, none⟩ v5).heap[B]? = some (.cells #[v0, v1, v2, v3, v4, v5] t (0, 0)) ∧ ∀ k, k ≠ B → ((((((W.setCell ⟨B, 0, none⟩ v0).setCell ⟨B, 1, none⟩ v1).setCell ⟨B, 2, none⟩ v2).setCell ⟨B, 3, none⟩ v3).setCell ⟨B, 4, none⟩ v4).setCell ⟨B, 5, none⟩ v5).heap[k]? = W.heap[k]? :=
  ⟨(((((k.setCell (p := ⟨B, 0, none⟩) hB _).setCell (p := ⟨B, 1, none⟩) hB _).setCell (p := ⟨B, 2, none⟩) hB _).setCell (p := ⟨B, 3, none⟩) hB _).setCell (p := ⟨B, 4, none⟩) hB _).setCell (p := ⟨B, 5, none⟩) hB _,
   blk_setCell (j := 5) (u := v5) (blk_setCell (j := 4) (u := v4) (blk_setCell (j := 3) (u := v3) (blk_setCell (j := 2) (u := v2) (blk_setCell (j := 1) (u := v1) (blk_setCell (j := 0) (u := v0) h))))),
   fun _ hk => (Below.heap_setCell _ _ _ _ hk).trans ((Below.heap_setCell _ _ _ _ hk).trans ((Below.heap_setCell _ _ _ _ hk).trans ((Below.heap_setCell _ _ _ _ hk).trans ((Below.heap_setCell _ _ _ _ hk).trans (Below.heap_setCell _ _ _ _ hk)))))⟩
theorem ints_put {w1 w3 W6 : World} {B : Nat} {a : Option Addr} {xs : List Int} (h : IntSl w1 a xs) (hb : Below w1.heap.size w1 w3) (ho : ∀ k, k ≠ B → W6.heap[k]? = w3.heap[k]?) (hz : w3.heap.size ≤ W6.heap.size) (hn : ∀ p, a = some p → B < p.block) : IntSl W6 a xs :=
  ints_same (h.below hb) hz (fun p hp _ => ho _ (by have := hn p hp; omega))

/-- The end of spell. -/
theorem spell_end {stock store : Int} {a : Option Addr} {ds : List Dy} {cap : Nat} {f1 f2 f3 : Sp → Int} {w Wa w1 w2 w3 : World} {an am al : Option Addr} {cn cm cl : Nat} {g1 g2 g3 : Nat}
    (HH : Hid (Below w.heap.size w Wa ∧ EndsAt Wa w.heap.size g1 g2 g3 ∧ Wa.heap[w.heap.size + 1]? = some (.cells #[.int .i64 stock, .int .i64 store, .slice a ds.length cap] 56 (0, 0)) ∧ Wa.heap[w.heap.size + 1 + 1]? = some (.cells #[.int .i64 0, .int .i64 0, .slice none 0 0, .slice none 0 0, .slice none 0 0, .slice none 0 0] 156 (0, 0)) ∧ Sl 6 Dy.cells w a ds ∧ ds.length ≤ 1000000))
    (H1 : Hid (Below w.heap.size w w1 ∧ EndsAt w1 w.heap.size g1 g2 g3 ∧ w1.heap[w.heap.size + 1]? = some (.cells #[.int .i64 stock, .int .i64 store, .slice a ds.length cap] 56 (0, 0)) ∧ w1.heap[w.heap.size + 1 + 1]? = some (.cells #[.int .i64 0, .int .i64 0, .slice none 0 0, .slice none 0 0, .slice none 0 0, .slice none 0 0] 156 (0, 0)) ∧ IntSl w1 an (ds.map fun d => f1 d.need) ∧ (∀ p, an = some p → Wa.heap.size ≤ p.block) ∧ Below Wa.heap.size Wa w1))
    (H2 : Hid (Below w.heap.size w w2 ∧ EndsAt w2 w.heap.size g1 g2 g3 ∧ w2.heap[w.heap.size + 1]? = some (.cells #[.int .i64 stock, .int .i64 store, .slice a ds.length cap] 56 (0, 0)) ∧ w2.heap[w.heap.size + 1 + 1]? = some (.cells #[.int .i64 0, .int .i64 0, .slice none 0 0, .slice none 0 0, .slice none 0 0, .slice none 0 0] 156 (0, 0)) ∧ IntSl w2 am (ds.map fun d => f2 d.make) ∧ (∀ p, am = some p → w1.heap.size ≤ p.block) ∧ Below w1.heap.size w1 w2))
    (H3 : Hid (Below w.heap.size w w3 ∧ w3.heap[w.heap.size + 1 + 1]? = some (.cells #[.int .i64 0, .int .i64 0, .slice none 0 0, .slice none 0 0, .slice none 0 0, .slice none 0 0] 156 (0, 0)) ∧ IntSl w3 al (ds.map fun d => f3 d.loss) ∧ (∀ p, al = some p → w2.heap.size ≤ p.block) ∧ Below w2.heap.size w2 w3))
    (act : Act) (hp : act.tmps[4]? = some (.pointer (some ⟨w.heap.size + 1 + 1, 0, none⟩))) (hd : act.defers = []) :
    Code.wp Tryz.prog Code.ret (bodyPost Tryz.prog Tryz.f93 (OutSpell w stock store a ds cap f1 f2 f3)) act ((((((w3.setCell ⟨w.heap.size + 1 + 1, 0, none⟩ (.int .i64 stock)).setCell ⟨w.heap.size + 1 + 1, 1, none⟩ (.int .i64 store)).setCell ⟨w.heap.size + 1 + 1, 2, none⟩ (.slice a ds.length cap)).setCell ⟨w.heap.size + 1 + 1, 3, none⟩ (.slice an ds.length cn)).setCell ⟨w.heap.size + 1 + 1, 4, none⟩ (.slice am ds.length cm)).setCell ⟨w.heap.size + 1 + 1, 5, none⟩ (.slice al ds.length cl)) := by
  obtain ⟨_, _, _, hr, _, _⟩ := HH.out
  obtain ⟨_, _, _, hr1, hI1, hf1, hb1⟩ := H1.out
  obtain ⟨_, _, _, hr2, hI2, hf2, hb2⟩ := H2.out
  obtain ⟨k3, hr3, hI3, hf3, hb3⟩ := H3.out
  have Z6 : w3.heap.size ≤ ((((((w3.setCell ⟨w.heap.size + 1 + 1, 0, none⟩ (.int .i64 stock)).setCell ⟨w.heap.size + 1 + 1, 1, none⟩ (.int .i64 store)).setCell ⟨w.heap.size + 1 + 1, 2, none⟩ (.slice a ds.length cap)).setCell ⟨w.heap.size + 1 + 1, 3, none⟩ (.slice an ds.length cn)).setCell ⟨w.heap.size + 1 + 1, 4, none⟩ (.slice am ds.length cm)).setCell ⟨w.heap.size + 1 + 1, 5, none⟩ (.slice al ds.length cl)).heap.size := by simp only [World.size_setCell]; exact Nat.le_refl _
  obtain ⟨P6, R6, O6⟩ := six_put (v0 := .int .i64 stock) (v1 := .int .i64 store) (v2 := .slice a ds.length cap) (v3 := .slice an ds.length cn) (v4 := .slice am ds.length cm) (v5 := .slice al ds.length cl) hr3 (show w.heap.size ≤ w.heap.size + 1 + 1 by omega) k3
  generalize ((((((w3.setCell ⟨w.heap.size + 1 + 1, 0, none⟩ (.int .i64 stock)).setCell ⟨w.heap.size + 1 + 1, 1, none⟩ (.int .i64 store)).setCell ⟨w.heap.size + 1 + 1, 2, none⟩ (.slice a ds.length cap)).setCell ⟨w.heap.size + 1 + 1, 3, none⟩ (.slice an ds.length cn)).setCell ⟨w.heap.size + 1 + 1, 4, none⟩ (.slice am ds.length cm)).setCell ⟨w.heap.size + 1 + 1, 5, none⟩ (.slice al ds.length cl)) = W6 at P6 R6 O6 Z6 ⊢
  have q0 := blk_cell R6 0 rfl
  have q1 := blk_cell R6 1 rfl
  have q2 := blk_cell R6 2 rfl
  have q3 := blk_cell R6 3 rfl
  have q4 := blk_cell R6 4 rfl
  have q5 := blk_cell R6 5 rfl
  have hO : OutSpell w stock store a ds cap f1 f2 f3 (.returned (sv stock store a ds.length cap an ds.length cn am ds.length cm al ds.length cl)) W6 :=
    ⟨an, cn, am, cm, al, cl, rfl, ints_put hI1 (hb2.trans (hb3.mono hb2.size)) O6 Z6 (fun p hp => by have := hf1 p hp; have := lt_of_block hr; omega), ints_put hI2 hb3 O6 Z6 (fun p hp => by have := hf2 p hp; have := lt_of_block hr1; omega), ints_put hI3 (Below.refl _ _) O6 Z6 (fun p hp => by have := hf3 p hp; have := lt_of_block hr2; omega), P6⟩
  clear hI1 hI2 hI3 hf1 hf2 hf3 hb1 hb2 hb3 hr hr1 hr2 hr3 O6 Z6 R6 HH H1 H2 H3 k3 P6
  refine wp_ret ?_
  exact bodyPost_ret (v := sv stock store a ds.length cap an ds.length cn am ds.length cm al ds.length cl) (by simp [results, Tryz.results93, go_sem, hp, q0, q1, q2, q3, q4, q5]) hd hO

set_option maxHeartbeats 1000000 in
theorem spell_any (g1 g2 g3 : Nat) (f1 f2 f3 : Sp → Int) (h1 : EndF g1 f1) (h2 : EndF g2 f2) (h3 : EndF g3 f3) (stock store : Int) (a : Option Addr) (ds : List Dy) (cap : Nat) (w : World) (hx : Sl 6 Dy.cells w a ds) (hl : ds.length ≤ 1000000) :
    Calls Tryz.prog 93 #[.agg #[.func (.func g1) #[] #[], .func (.func g2) #[] #[], .func (.func g3) #[] #[]], wv stock store a ds.length cap] w (OutSpell w stock store a ds cap f1 f2 f3) := by
  have F1 := Lib.hid h1
  have F2 := Lib.hid h2
  have F3 := Lib.hid h3
  clear h1 h2 h3
  obtain ⟨Wa, hWa⟩ : ∃ Wa, ((w.alloc (.cells #[.func (.func g1) #[] #[], .func (.func g2) #[] #[], .func (.func g3) #[] #[]] 159)).alloc (.cells #[.int .i64 stock, .int .i64 store, .slice a ds.length cap] 56)).alloc (.cells #[.int .i64 0, .int .i64 0, .slice none 0 0, .slice none 0 0, .slice none 0 0, .slice none 0 0] 156) = Wa := ⟨_, rfl⟩
  have hba : Below w.heap.size w Wa := by rw [← hWa]; exact (((Below.refl _ _).alloc (Nat.le_refl _) _).alloc (by simp) _).alloc (by simp <;> omega) _
  have hE : EndsAt Wa w.heap.size g1 g2 g3 := by rw [← hWa]; exact alk (alk (new_at rfl))
  have h0 : Wa.heap[w.heap.size + 1]? = some (.cells #[.int .i64 stock, .int .i64 store, .slice a ds.length cap] 56 (0, 0)) := by rw [← hWa]; exact alk (new_at (by simp))
  have hr : Wa.heap[w.heap.size + 1 + 1]? = some (.cells #[.int .i64 0, .int .i64 0, .slice none 0 0, .slice none 0 0, .slice none 0 0, .slice none 0 0] 156 (0, 0)) := by rw [← hWa]; exact new_at (by simp)
  have c0 := blk_cell h0 0 rfl
  have c1 := blk_cell h0 1 rfl
  have c2 := blk_cell h0 2 rfl
  go_enter Tryz.func93, Tryz.ntmps93
  go_wp2_with fail
  clear hWa
  have HH : Hid (Below w.heap.size w Wa ∧ EndsAt Wa w.heap.size g1 g2 g3 ∧ Wa.heap[w.heap.size + 1]? = some (.cells #[.int .i64 stock, .int .i64 store, .slice a ds.length cap] 56 (0, 0)) ∧ Wa.heap[w.heap.size + 1 + 1]? = some (.cells #[.int .i64 0, .int .i64 0, .slice none 0 0, .slice none 0 0, .slice none 0 0, .slice none 0 0] 156 (0, 0)) ∧ Sl 6 Dy.cells w a ds ∧ ds.length ≤ 1000000) := ⟨hba, hE, h0, hr, hx, hl⟩
  clear hba hE h0 hr hx hl
  go_region_held3 (fun w' => w'.cell? ⟨w.heap.size + 1, 0, none⟩ = some (.int .i64 stock) ∧ w'.cell? ⟨w.heap.size + 1, 1, none⟩ = some (.int .i64 store) ∧ w'.cell? ⟨w.heap.size + 1, 2, none⟩ = some (.slice a ds.length cap)) (go_keep)
    (first
      | (go_at_call 137; refine (mapped_day a ds cap 140 #[.pointer (some ⟨w.heap.size, 0, none⟩)] (fun d => f3 d.loss) _ (HH.out.2.2.2.2.1.below H2.out.1) HH.out.2.2.2.2.2 eg134 (fun d hd W hW => spell3_any d g1 g2 g3 w.heap.size f3 F3.out W (blk_below H2.out.2.1 hW))).mono ?_; rintro e w3 ⟨al, cl, rfl, hI3, hf3, hb3⟩; have H3 : Hid (Below w.heap.size w w3 ∧ w3.heap[w.heap.size + 1 + 1]? = some (.cells #[.int .i64 0, .int .i64 0, .slice none 0 0, .slice none 0 0, .slice none 0 0, .slice none 0 0] 156 (0, 0)) ∧ IntSl w3 al (ds.map fun d => f3 d.loss) ∧ (∀ p, al = some p → w2.heap.size ≤ p.block) ∧ Below w2.heap.size w2 w3) := ⟨below_self H2.out.1 hb3, blk_below H2.out.2.2.2.1 hb3, hI3, hf3, hb3⟩; have h03 := blk_below H2.out.2.2.1 hb3; clear hb3 hf3 hI3 u0 u1 u2; have e0 := blk_cell h03 0 rfl; have e1 := blk_cell h03 1 rfl; have e2 := blk_cell h03 2 rfl; clear h03; have hr3 := H3.out.2.1; have m0 := blk_free (j := 0) hr3; have m1 := blk_free (j := 1) hr3; have m2 := blk_free (j := 2) hr3; have m3 := blk_free (j := 3) hr3; have m4 := blk_free (j := 4) hr3; have m5 := blk_free (j := 5) hr3; have n0 := blk_cell hr3 0 rfl; have n1 := blk_cell hr3 1 rfl; have n2 := blk_cell hr3 2 rfl; have n3 := blk_cell hr3 3 rfl; have n4 := blk_cell hr3 4 rfl; have n5 := blk_cell hr3 5 rfl; clear hr3)
      | (go_at_call 137; refine (mapped_day a ds cap 139 #[.pointer (some ⟨w.heap.size, 0, none⟩)] (fun d => f2 d.make) _ (HH.out.2.2.2.2.1.below H1.out.1) HH.out.2.2.2.2.2 eg133 (fun d hd W hW => spell2_any d g1 g2 g3 w.heap.size f2 F2.out W (blk_below H1.out.2.1 hW))).mono ?_; rintro e w2 ⟨am, cm, rfl, hI2, hf2, hb2⟩; have H2 : Hid (Below w.heap.size w w2 ∧ EndsAt w2 w.heap.size g1 g2 g3 ∧ w2.heap[w.heap.size + 1]? = some (.cells #[.int .i64 stock, .int .i64 store, .slice a ds.length cap] 56 (0, 0)) ∧ w2.heap[w.heap.size + 1 + 1]? = some (.cells #[.int .i64 0, .int .i64 0, .slice none 0 0, .slice none 0 0, .slice none 0 0, .slice none 0 0] 156 (0, 0)) ∧ IntSl w2 am (ds.map fun d => f2 d.make) ∧ (∀ p, am = some p → w1.heap.size ≤ p.block) ∧ Below w1.heap.size w1 w2) := ⟨below_self H1.out.1 hb2, blk_below H1.out.2.1 hb2, blk_below H1.out.2.2.1 hb2, blk_below H1.out.2.2.2.1 hb2, hI2, hf2, hb2⟩; have h02 := H2.out.2.2.1; clear hb2 hf2 hI2 d0 d1 d2; have u0 := blk_cell h02 0 rfl; have u1 := blk_cell h02 1 rfl; have u2 := blk_cell h02 2 rfl; clear h02)
      | (go_at_call 137; refine (mapped_day a ds cap 138 #[.pointer (some ⟨w.heap.size, 0, none⟩)] (fun d => f1 d.need) _ (HH.out.2.2.2.2.1.below HH.out.1.drew) HH.out.2.2.2.2.2 eg132 (fun d hd W hW => spell1_any d g1 g2 g3 w.heap.size f1 F1.out W (blk_below (w := Wa.drew) HH.out.2.1 hW))).mono ?_; rintro e w1 ⟨an, cn, rfl, hI1, hf1, hb1⟩; have hb1' : Below Wa.heap.size Wa w1 := ⟨hb1.os, hb1.tape, hb1.output, hb1.size, hb1.block⟩; have H1 : Hid (Below w.heap.size w w1 ∧ EndsAt w1 w.heap.size g1 g2 g3 ∧ w1.heap[w.heap.size + 1]? = some (.cells #[.int .i64 stock, .int .i64 store, .slice a ds.length cap] 56 (0, 0)) ∧ w1.heap[w.heap.size + 1 + 1]? = some (.cells #[.int .i64 0, .int .i64 0, .slice none 0 0, .slice none 0 0, .slice none 0 0, .slice none 0 0] 156 (0, 0)) ∧ IntSl w1 an (ds.map fun d => f1 d.need) ∧ (∀ p, an = some p → Wa.heap.size ≤ p.block) ∧ Below Wa.heap.size Wa w1) := ⟨below_self HH.out.1 hb1', blk_below HH.out.2.1 hb1', blk_below HH.out.2.2.1 hb1', blk_below HH.out.2.2.2.1 hb1', hI1, hf1, hb1'⟩; have h01 := H1.out.2.2.1; clear hb1 hb1' hf1 hI1 c0 c1 c2; have d0 := blk_cell h01 0 rfl; have d1 := blk_cell h01 1 rfl; have d2 := blk_cell h01 2 rfl; clear h01))
  all_goals (
    clear e0 e1 e2 m0 m1 m2 m3 m4 m5 n0 n1 n2 n3 n4 n5
    refine (by assumption : ∀ (a_1 : Act) (w_1 : World), Code.wp Tryz.prog Code.ret (bodyPost Tryz.prog Tryz.f93 (OutSpell w stock store a ds cap f1 f2 f3)) a_1 w_1 → Exit.then _ _ Exit.normal a_1 w_1) _ _ (spell_end HH H1 H2 H3 _ rfl rfl))
end Go.Proofs.YtmebmcipmemofaaGreat

namespace Go.Proofs.YtmebmcipmemofaaGreat
open Go.RowKit Go.Shelf
attribute [local go_sem] Oper.semAt_some

theorem Tryz.info85 : (Tryz.prog.info? 85).map (fun i => (i.zero, i.size, i.bytes)) = some (some (.agg #[.int .i64 0, .int .i64 0]), 2, 16) := by kernel_rfl

/-- The block of a slice holds piles, none of them frozen. -/
def Ty6 (W : World) (a : Option Addr) : Prop := ∀ q, a = some q → ∃ cs, W.heap[q.block]? = some (.cells cs 85 (0, 0))
theorem Ty6.below {w w' : World} {a : Option Addr} (h : Ty6 w a) (hb : Below w.heap.size w w') : Ty6 w' a := fun q hq => by
  obtain ⟨cs, h1⟩ := h q hq
  exact ⟨cs, (hb.block _ (lt_of_block h1)).trans h1⟩

theorem owns_mono {w : World} {base base' : Nat} {e : TypeId} {size : Nat} {v : Value} {n : Nat} {xs : List Value} (h : w.ownsRow base e size v n xs) (hb : base' ≤ base) : w.ownsRow base' e size v n xs := by
  refine ⟨h.1, ?_⟩
  rcases h.2 with h1 | ⟨g, cap', cur, h1, h2, h3⟩
  · exact .inl h1
  · exact .inr ⟨g, cap', cur, h1, Nat.le_trans hb h2, h3⟩
theorem owns_form {w : World} {base : Nat} {a : Option Addr} {n cap : Nat} {fs : List Int} (h : w.ownsRow base 85 2 (.slice a n cap) n (fs.map (Value.int .i64))) : IntSl w a fs ∧ Ty6 w a ∧ (∀ p, a = some p → base ≤ p.block ∧ p.off = 0 ∧ p.spot = none) ∧ (a = none → n = 0) ∧ n ≤ cap ∧ fs.length = n * 2 := by
  have hl : fs.length = n * 2 := by have := h.1; simpa using this
  rcases h.2 with ⟨h1, rfl⟩ | ⟨g, cap', cur, h1, hb, hg, hnc, hcm, hcs, htake⟩
  · cases h1
    exact ⟨(fun hp => by omega), (fun p hp => by cases hp), (fun p hp => by cases hp), (fun _ => rfl), Nat.le_refl _, hl⟩
  · cases h1
    refine ⟨fun hp => ⟨g, 0, rfl, lt_of_block hg, fun j hj => ?_⟩, fun p hp => ?_, (fun p hp => by cases hp; exact ⟨hb, rfl, rfl⟩), (fun h => by cases h), hnc, hl⟩
    · have hc := h.cells (g := g) rfl j (.int .i64 (fs[j]?.getD 0)) (by simp [hj])
      have : (⟨g, 0, none⟩ : Addr).add j = ⟨g, 0 + j, none⟩ := by unfold Addr.add; split <;> simp_all
      rwa [this] at hc
    · cases hp; exact ⟨cur, hg⟩
theorem owns_set {w : World} {base g n cap : Nat} {fs : List Int} (h : w.ownsRow base 85 2 (.slice (some ⟨g, 0, none⟩) n cap) n (fs.map (Value.int .i64))) (j : Nat) (x : Int) : (w.setCell ⟨g, j, none⟩ (.int .i64 x)).ownsRow base 85 2 (.slice (some ⟨g, 0, none⟩) n cap) n ((fs.set j x).map (Value.int .i64)) := by
  refine ⟨by have := h.1; simpa using this, ?_⟩
  rcases h.2 with ⟨h1, _⟩ | ⟨g', cap', cur, h1, hb, hg, hnc, hcm, hcs, htake⟩
  · cases h1
  · cases h1
    refine .inr ⟨g, cap, _, rfl, hb, blk_setCell hg, hnc, hcm, by rw [Array.size_setIfInBounds]; exact hcs, ?_⟩
    rw [Array.toList_setIfInBounds, List.take_set, htake, List.map_set]
theorem flats_of_owns {w : World} {base : Nat} {v : Value} {n : Nat} {fs : List Int} (h : w.ownsRow base 85 2 v n (fs.map (Value.int .i64))) : ∃ a cap, v = .slice a n cap ∧ IntSl w a fs ∧ Ty6 w a ∧ (∀ p, a = some p → base ≤ p.block) ∧ (a = none → n = 0) ∧ (∀ p, a = some p → p.off = 0 ∧ p.spot = none) := by
  have hl : fs.length = n * 2 := by have := h.1; simpa using this
  rcases h.2 with ⟨rfl, rfl⟩ | ⟨g, cap, cur, rfl, hb, hg, hnc, hcm, hcs, htake⟩
  · exact ⟨none, 0, rfl, (fun hp => by omega), (fun p hp => by cases hp), (fun p hp => by cases hp), (fun _ => rfl), (fun p hp => by cases hp)⟩
  · refine ⟨some ⟨g, 0, none⟩, cap, rfl, fun hp => ⟨g, 0, rfl, lt_of_block hg, fun j hj => ?_⟩, fun p hp => ?_, (fun p hp => by cases hp; exact hb), (fun h => by cases h), (fun p hp => by cases hp; exact ⟨rfl, rfl⟩)⟩
    · have hc := h.cells (g := g) rfl j (.int .i64 (fs[j]?.getD 0)) (by simp [hj])
      have : (⟨g, 0, none⟩ : Addr).add j = ⟨g, 0 + j, none⟩ := by unfold Addr.add; split <;> simp_all
      rwa [this] at hc
    · cases hp; exact ⟨cur, hg⟩

/-- Piles that were handed back: so many, with these numbers, two of each, in memory of their own. -/
def OutPiles (w : World) (n : Nat) (fs : List Int) (e : Ending) (w' : World) : Prop := ∃ a cap, e = .returned (.slice a n cap) ∧ w'.ownsRow w.heap.size 85 2 (.slice a n cap) n (fs.map (Value.int .i64)) ∧ Below w.heap.size w w'

set_option maxHeartbeats 1000000 in
theorem clonePile_any (a : Option Addr) (fs : List Int) (n cap : Nat) (w : World) (hx : IntSl w a fs) (hn : fs.length = n * 2) (hna : a = none → n = 0) (hl : n ≤ 1000) :
    Calls Tryz.prog 180 #[.slice a n cap] w (OutPiles w n fs) := by
  obtain ⟨i0, hi, hz0, hz1, hz2⟩ := info_parts Tryz.info85
  have q102 : ∀ (w : World) (a : Option Addr) (n c n' c' : Nat), (binOp .eql 77 (.slice a n c) (.slice none n' c')).run Tryz.prog w = .ok (.bool a.isNone) w := fun w a n c n' c' => Lib.run_eql_slice_nil w _ _ a n c n' c' Tryz.underlying77
  cases a with
  | none =>
    have h0 := hna rfl
    subst h0
    have hf : fs = [] := List.length_eq_zero_iff.1 (by omega)
    subst hf
    go_enter Tryz.func180, Tryz.ntmps180
    go_wp2
    go_ret
    exact ⟨none, 0, rfl, ⟨rfl, .inl ⟨rfl, rfl⟩⟩, Below.refl _ _⟩
  | some q =>
    have HC : Hid (∀ j u, (fs.map (Value.int .i64))[j]? = some u → (w.alloc (.cells #[] 85)).cell? (q.add j) = some u) := fun j u hu => by
      have hj : j < fs.length := by
        rcases Nat.lt_or_ge j fs.length with h | h
        · exact h
        · rw [List.getElem?_eq_none (by simpa using h)] at hu; cases hu
      obtain ⟨b, off, hab, hbs, hc⟩ := hx (by omega)
      cases hab
      have e : (⟨b, off, none⟩ : Addr).add j = ⟨b, off + j, none⟩ := by unfold Addr.add; split <;> simp_all
      rw [e, World.cell?_alloc_past _ _ _ (by exact hbs), hc j hj]
      simp [hj] at hu ⊢; exact hu
    have HX := Lib.hid hx
    clear hx
    have hn2 : (fs.map (Value.int .i64)).length = n * 2 := by simpa using hn
    have HN := Lib.hid hn
    clear hn
    go_enter Tryz.func180, Tryz.ntmps180
    go_wp2_with (at_builtin; refine wpList_append_own _ rfl _ _ 77 rfl w.heap.size 85 i0 (.agg #[.int .i64 0, .int .i64 0]) 2 16 Tryz.underlying77 hi hz0 hz1 hz2 rfl (by decide) _ _ _ rfl (World.ownsRow_made w #[] 0 (Nat.le_refl _) (Nat.zero_le _) (by simp)) q n cap (fs.map (Value.int .i64)) rfl ?c0 ?c1 ?c2 ?c3 ?c4 ?c5 ?_)
    case c0 => exact hn2
    case c1 => exact HC.out
    case c2 => intro u hu; obtain ⟨x, _, rfl⟩ := List.mem_map.1 hu; rfl
    case c3 => unfold maxLen; omega
    case c4 => omega
    case c5 => simp
    intro v' w2 hown2 hgrow2 _
    have hb3 : Below w.heap.size w w2 := ((Below.refl _ w).alloc (Nat.le_refl _) _).grown hgrow2 (by simp) (fun j hj => by simp [Value.ownBlock] at hj; omega)
    have hown3 : w2.ownsRow w.heap.size 85 2 v' n (fs.map (Value.int .i64)) := by simpa using hown2
    obtain ⟨a', cap', rfl, hs, hT, hfr, hna', hoff⟩ := flats_of_owns hown3
    go_wp2
    go_ret
    exact ⟨a', cap', rfl, hown3, hb3⟩

/-- Some piles that were handed back, no more than so many, in memory of their own. -/
def OutP (w : World) (n : Nat) (e : Ending) (w' : World) : Prop := ∃ n' fs', fs'.length = n' * 2 ∧ n' ≤ n ∧ OutPiles w n' fs' e w'

theorem IntSl.drop {w : World} {b off : Nat} {fs : List Int} (m : Nat) (h : IntSl w (some ⟨b, off, none⟩) fs) : IntSl w (some ⟨b, off + m, none⟩) (fs.drop m) := fun h0 => by
  simp at h0
  obtain ⟨b', off', e, hb, hc⟩ := h (by omega)
  cases e
  exact ⟨b, off + m, rfl, hb, fun j hj => by simp at hj; have := hc (m + j) (by omega); rw [Nat.add_assoc]; simpa [List.getElem?_drop] using this⟩
theorem IntSl.setAt {w : World} {b : Nat} {fs : List Int} {cs : Array Value} {t : TypeId} (h : IntSl w (some ⟨b, 0, none⟩) fs) (hcs : w.heap[b]? = some (.cells cs t (0, 0))) (j : Nat) (x : Int) : IntSl (w.setCell ⟨b, j, none⟩ (.int .i64 x)) (some ⟨b, 0, none⟩) (fs.set j x) := fun h0 => by
  simp at h0
  obtain ⟨b', off', e, hb, hc⟩ := h h0
  cases e
  refine ⟨b, 0, rfl, by rw [World.size_setCell]; exact hb, fun i hi => ?_⟩
  simp at hi
  have h1 := hc i hi
  rw [cell_of_row w b _ _ _ _ hcs] at h1
  rw [cell_of_row _ b _ _ _ _ (blk_setCell (j := j) (u := .int .i64 x) hcs)]
  rw [Array.getElem?_setIfInBounds, List.getElem?_set]
  have hlt : 0 + i < cs.size := by
    rcases Nat.lt_or_ge (0 + i) cs.size with h | h
    · exact h
    · rw [Array.getElem?_eq_none h] at h1; cases h1
  by_cases hij : j = i
  · subst hij
    simp at hlt ⊢
    simp [hlt, hi]
  · have : ¬ j = 0 + i := by omega
    simp only [this, hij, if_false]
    exact h1

set_option maxHeartbeats 1000000 in
theorem drained_any (a : Option Addr) (fs : List Int) (n cap : Nat) (much : Int) (w : World) (hx : IntSl w a fs) (hn : fs.length = n * 2) (hna : a = none → n = 0) (hnc : n ≤ cap) (hl : n ≤ 1000) :
    Calls Tryz.prog 169 #[.slice a n cap, .int .i64 much] w (OutP w n) := by
  have HX := Lib.hid (And.intro hx (And.intro hn hna))
  clear hx hn hna
  go_enter Tryz.func169, Tryz.ntmps169
  go_wp2
  go_loopw [1, 5] (fun m i wr => ∃ (k : Nat) (mu : Int), k ≤ n ∧ m = .int .i64 mu ∧ i = .int .i64 k ∧ Below w.heap.size w wr) (fun _ i _ => n - (intOf i).toNat)
  case atStart => exact ⟨0, much, Nat.zero_le _, rfl, rfl, Below.refl _ _⟩
  case round =>
    obtain ⟨k, mu, hk, rfl, rfl, hbw⟩ := hrel
    by_cases hlt : k < n
    · have hn := HX.out.2.1
      obtain ⟨b, off, hab, hbs, hc⟩ := HX.out.1 (by omega)
      subst hab
      have hc1 := (hbw.cell (p := ⟨b, off + (k * 2 + 1), none⟩) hbs).trans (hc (k * 2 + 1) (by omega))
      generalize fs[k * 2 + 1]?.getD 0 = x at hc1
      have hc2 : wr.cell? ⟨b, off + k * 2 + 1, none⟩ = some (.int .i64 x) := by rw [Nat.add_assoc]; exact hc1
      clear hc hc1 hn
      by_cases hle : x ≤ mu
      · go_wp2
        go_roundw
        case rel => exact ⟨k + 1, _, by omega, rfl, by go_num, hbw⟩
        case measure => simp [intOf]; omega
      · have hle2 : decide (x ≤ mu) = false := by simp [hle]
        clear hle
        have hd : (fs.drop (k * 2)).length = (n - k) * 2 := by have := HX.out.2.1; simp; omega
        go_wp2_with fail
        all_goals (first | (exfalso; omega) | skip)
        refine (clonePile_any (some ⟨b, off + k * 2, none⟩) (fs.drop (k * 2)) (n - k) (cap - k) _ ((HX.out.1.below hbw).drop (k * 2)) hd (fun h => by cases h) (by omega)).mono ?_
        rintro e w2 ⟨a2, cap2, rfl, hO2, hb2⟩
        obtain ⟨hI2, hT2, hf2, hn2, hc2', _⟩ := owns_form hO2
        cases a2 with
        | none => exact absurd (hn2 rfl) (by omega)
        | some q =>
          obtain ⟨qb, qo, qs⟩ := q
          obtain ⟨hq1, hq2, hq3⟩ := hf2 _ rfl
          simp only at hq1 hq2 hq3
          subst hq2
          subst hq3
          obtain ⟨cs, hcs⟩ := hT2 _ rfl
          simp only at hcs
          obtain ⟨b3, off3, e3, hb3, hc3⟩ := hI2 (by omega)
          cases e3
          have s1 := hc3 1 (by omega)
          have s2 := blk_free (j := 1) hcs
          have FIN : Hid (OutPiles w (n - k) ((fs.drop (k * 2)).set 1 (wrap64 ((fs.drop (k * 2))[1]?.getD 0 - mu))) (.returned (.slice (some ⟨qb, 0, none⟩) (n - k) cap2)) (w2.setCell ⟨qb, 1, none⟩ (.int .i64 (wrap64 ((fs.drop (k * 2))[1]?.getD 0 - mu))))) :=
            ⟨_, _, rfl, owns_mono (owns_set hO2 1 _) (Nat.le_trans hbw.size (Nat.le_refl _)), (below_self hbw hb2).setCell (p := ⟨qb, 1, none⟩) (Nat.le_trans hbw.size hq1) _⟩
          have HL : Hid (((fs.drop (k * 2)).set 1 (wrap64 ((fs.drop (k * 2))[1]?.getD 0 - mu))).length = (n - k) * 2) := by show _ = _; rw [List.length_set]; exact hd
          generalize (fs.drop (k * 2)).set 1 (wrap64 ((fs.drop (k * 2))[1]?.getD 0 - mu)) = fs2 at FIN HL
          generalize (fs.drop (k * 2))[1]?.getD 0 = x2 at FIN s1
          have hpos : 0 < n - k := by omega
          clear hc3 hI2 hT2 hf2 hn2 hc2' hO2 hcs hd hc2 hle2
          go_wp2
          go_ret
          exact ⟨n - k, fs2, HL.out, by omega, FIN.out⟩
    · have : k = n := by omega
      subst this
      clear hlt
      go_wp2_with fail
      all_goals (refine (clonePile_any _ [] 0 _ _ (fun h => by simp at h) rfl (fun _ => rfl) (by omega)).mono ?_; rintro e w2 ⟨a2, cap2, rfl, hO2, hb2⟩)
      all_goals go_wp2
      all_goals go_ret
      all_goals exact ⟨0, [], rfl, by omega, _, _, rfl, owns_mono hO2 hbw.size, below_self hbw hb2⟩
end Go.Proofs.YtmebmcipmemofaaGreat
