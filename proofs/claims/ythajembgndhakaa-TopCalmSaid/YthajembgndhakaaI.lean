/-
  A range over an iterator of numbers whose body always goes on, over this seat's program.
  What is proved: a law for the statement, out of the contract of the iterator (SeqI).
  Conditions: those of the law.
-/
import Derived.Test.YthajembgndhakaaH
namespace Go.Proofs.Ythajembgndhakaa
open Go.RowKit Go.Shelf

theorem Apart.more {own own' : Nat → Prop} {A B : World} (h : Apart own A B) (ho : ∀ k, own k → own' k) : Apart own' A B := ⟨h.os, h.tape, h.output, h.size, fun k hk hn => h.block k hk (fun h' => hn (ho k h'))⟩
theorem putObj_size (A : World) (r : Nat) (o : Obj) : (A.putObj r o).heap.size = A.heap.size := by simp [World.putObj]
theorem Apart.putObj {own : Nat → Prop} (A : World) (r : Nat) (o : Obj) (h : own r) : Apart own A (A.putObj r o) :=
  ⟨rfl, rfl, rfl, by rw [putObj_size]; exact Nat.le_refl _, fun k _ hn => World.putObj_heap_other (fun e => hn (e ▸ h))⟩
theorem Keeps.putObj {own : Nat → Prop} (A : World) (r : Nat) (o : Obj) (h : ¬ own r) : Keeps own A (A.putObj r o) :=
  ⟨by rw [putObj_size]; exact Nat.le_refl _, fun k _ hn => World.putObj_heap_other (fun e => h (e ▸ hn))⟩
/-- How the body of a round may be left. -/
def bPostI (own : Nat → Prop) (I : List Int → World → Prop) (xs : List Int) (W : World) : Exit → Act → World → Prop
  | .normal, _, W' => Keeps own W W' ∧ I xs W'
  | _, _, _ => False

set_option maxHeartbeats 1000000 in
theorem range_seqI {n : Nat} {g : Operand} {p : Tmp} {assign body : Code} {Q : Exit → Act → World → Prop} {a : Act} {w : World} {gf : Nat} {lb : Array Value} {S : List Int} {capt : Nat → Prop} {m : Nat} {w0 : World}
    (hgv : a.eval g = .func (.func gf) #[] lb) (eg : ∀ args w, (callFunc gf args).run Try.prog w = .ok (.enter gf args) w)
    (hseq : SeqI gf lb S capt m w0) (hb0 : Below w0.heap.size w0 w) (hcapt : ∀ k, capt k → k < w.heap.size)
    (I : List Int → World → Prop)
    (hI : ∀ s A B, I s A → Apart (intv (m + 2) w.heap.size) A B → I s B) (h0 : I [] w)
    (a₁ : Value → Act)
    (hassign : ∀ (l k : Nat) (v : Value) (W : World) (K : Act → World → Prop), K (a₁ v) W → assign.wpIn (Fence.wide.inRound l) k Try.prog (Exit.then K (fun _ _ _ => False)) { tmps := a.tmps.setIfInBounds p v, defers := [] } W)
    (hbody : ∀ (l k : Nat) (pre : List Int) (c : Int) (W : World), I pre W → pre ++ [c] <+: S →
      body.wpIn (Fence.wide.inRound l) k Try.prog (bPostI (ownOf capt (m + 2) w.heap.size) I (pre ++ [c]) W) (a₁ (.int .i64 c)) W)
    (hdone : ∀ (W : World), I S W → W.heap[w.heap.size]? = some (.deferred (some [])) → Q .normal { a with defers := { target := .collected w.heap.size, args := #[] } :: a.defers } W) :
    (Code.rangeFunc g #[p] assign body).wpIn Fence.wide n Try.prog Q a w := by
  refine wpIn_rangeFunc ?_
  intro fn hfn
  obtain ⟨rec, hrec⟩ : ∃ rec : LoopState → Option Code → Loop, rec = fun st pe => { state := st, pending := pe, fn, tmps := a.tmps, params := #[p], assign, body, defers := w.heap.size } := ⟨_, rfl⟩
  obtain ⟨W1, hW1⟩ : ∃ W1, (w.alloc (.deferred (some []))).alloc (.loop (rec .ready none)) = W1 := ⟨_, rfl⟩
  have hs1 : W1.heap.size = w.heap.size + 2 := by rw [← hW1]; simp
  have hL1 : W1.heap[w.heap.size + 1]? = some (.loop (rec .ready none)) := by
    rw [← hW1]; have := World.alloc_heap_new (w.alloc (.deferred (some []))) (.loop (rec .ready none)); rwa [World.size_alloc] at this
  have hK1 : W1.heap[w.heap.size]? = some (.deferred (some [])) := by
    rw [← hW1]; exact (Below.heap_alloc _ _ _ (by simp)).trans (World.alloc_heap_new w _)
  have hbw : Below w.heap.size w W1 := by rw [← hW1]; exact ((Below.refl _ w).alloc (Nat.le_refl _) _).alloc (by simp) _
  have hI1 : I [] W1 := hI _ _ _ h0 (Apart.of_below hbw)
  have less : ∀ k, ownOf capt m W1.heap.size k → ownOf capt (m + 2) w.heap.size k := fun k h => by
    rw [hs1] at h
    rcases h with h | h
    · exact .inl h
    · exact .inr ⟨by omega, by omega⟩
  have lessT : ∀ k, intv m W1.heap.size k → intv (m + 2) w.heap.size k := fun k h => by
    rw [hs1] at h; exact ⟨by have := h.1; omega, by have := h.2; omega⟩
  have recInT : intv (m + 2) w.heap.size (w.heap.size + 1) := ⟨by omega, by omega⟩
  have recOutT : ¬ intv m W1.heap.size (w.heap.size + 1) := fun h => by rw [hs1] at h; have := h.1; omega
  have defOutT : ¬ intv m W1.heap.size w.heap.size := fun h => by rw [hs1] at h; have := h.1; omega
  have recIn : ownOf capt (m + 2) w.heap.size (w.heap.size + 1) := .inr ⟨by omega, by omega⟩
  have defIn : ownOf capt (m + 2) w.heap.size w.heap.size := .inr ⟨by omega, by omega⟩
  have recOut : ¬ ownOf capt m W1.heap.size (w.heap.size + 1) := fun h => by
    rw [hs1] at h
    rcases h with h | h
    · have := hcapt _ h; omega
    · omega
  refine ⟨w.heap.size + 1, [{ target := .collected w.heap.size, args := #[] }], W1, { target := .fn (.func gf) lb, args := #[.func (.yield (w.heap.size + 1)) #[] #[]] }, W1, gf,
    #[.func (.yield (w.heap.size + 1)) #[] #[]] ++ lb, W1, ?_, ?_, ?_, ?_, fun h => (by cases h), ?_⟩
  · rw [← hW1, hrec]; exact run_enterLoop_outer _ _ _ _ _
  · simp only [resolve, hgv]
    simp [go_sem]
  · intro f' hf'; trivial
  · simp [invoke, go_sem, eg]
  · refine (hseq (w.heap.size + 1) (n - 1)
      (fun pre W => I pre W ∧ W.heap[w.heap.size + 1]? = some (.loop (rec .ready none)) ∧ W.heap[w.heap.size]? = some (.deferred (some [])))
      W1 (hb0.trans (hbw.mono hb0.size))
      (fun s A B h hap => ⟨hI _ _ _ h.1 (hap.more lessT), (hap.block _ (lt_of_block h.2.1) recOutT).trans h.2.1, (hap.block _ (lt_of_block h.2.2) defOutT).trans h.2.2⟩)
      ?_ ⟨hI1, hL1, hK1⟩).mono ?_
    · -- one round
      rintro n' pre c W ⟨hi, hl, hk⟩ hpre
      have hlt : w.heap.size + 1 < W.heap.size := lt_of_block hl
      have hy := run_yield (P := Try.prog) (args := #[.int .i64 c]) hl (by rw [hrec]; rfl)
      rw [hrec] at hy
      have hz : ((#[p].zip #[Value.int .i64 c]).foldl (fun (tmps : Array Value) (x : Tmp × Value) => tmps.setIfInBounds x.1 x.2) a.tmps) = a.tmps.setIfInBounds p (.int .i64 c) := by simp
      refine ⟨fn, a.tmps.setIfInBounds p (.int .i64 c), assign, body, ?_, ?_⟩
      · rw [← hz]; exact hy
      refine roundIn_of_wpIn hfn ?_
      refine hassign _ _ _ W _ ⟨_, run_beginRound hl (by rw [hrec]), ?_⟩
      obtain ⟨busy, hbusy⟩ : ∃ busy : Loop, { rec .ready none with state := .busy } = busy := ⟨_, rfl⟩
      rw [hbusy]
      have hl2 : (W.putObj (w.heap.size + 1) (.loop busy)).heap[w.heap.size + 1]? = some (.loop busy) := World.putObj_heap_same hlt
      have hk2 : (W.putObj (w.heap.size + 1) (.loop busy)).heap[w.heap.size]? = some (.deferred (some [])) := (World.putObj_heap_other (by omega)).trans hk
      refine wpIn_mono (hbody _ _ pre c _ (hI _ _ _ hi (Apart.putObj _ _ _ recInT)) hpre) ?_
      have fin : ∀ (jump : Option Code) (W3 : World), Keeps (ownOf capt (m + 2) w.heap.size) (W.putObj (w.heap.size + 1) (.loop busy)) W3 →
          (Instr.endRound (w.heap.size + 1) jump).run Try.prog W3 = .ok (.bool jump.isNone) (W3.putObj (w.heap.size + 1) (.loop (rec (if jump.isNone then .ready else .done) jump))) ∧
          (W3.putObj (w.heap.size + 1) (.loop (rec (if jump.isNone then .ready else .done) jump))).heap[w.heap.size + 1]? = some (.loop (rec (if jump.isNone then .ready else .done) jump)) ∧
          (W3.putObj (w.heap.size + 1) (.loop (rec (if jump.isNone then .ready else .done) jump))).heap[w.heap.size]? = some (.deferred (some [])) := fun jump W3 hk3 => by
        have hl3 := hk3.blk recIn hl2
        have := run_endRound (P := Try.prog) jump hl3
        rw [← hbusy, hrec] at this
        rw [hrec]
        exact ⟨this, World.putObj_heap_same (lt_of_block hl3), (World.putObj_heap_other (by omega)).trans (hk3.blk defIn hk2)⟩
      rintro e a3 W3 hp
      cases e with
      | normal =>
        obtain ⟨hk3, hi3⟩ := hp
        obtain ⟨hr, hl4, hk4⟩ := fin none W3 hk3
        exact ⟨_, _, hr, rfl, ⟨hI _ _ _ hi3 (Apart.putObj _ _ _ recInT), hl4, hk4⟩, ((Keeps.putObj _ _ _ recOut).trans (hk3.less less)).trans (Keeps.putObj _ _ _ recOut)⟩
      | ret => exact hp.elim
      | exit id => exact hp.elim
      | goto t => exact hp.elim
      | panic ch => exact hp.elim
      | outgrown => exact hp.elim
    · -- behind the iterator
      rintro e W2 ⟨⟨v, rfl⟩, hi, hl, hk⟩
      exact ⟨none, _, by have := run_endLoop (P := Try.prog) hl (by rw [hrec]; simp); rw [hrec] at this; exact this, hdone _ (hI _ _ _ hi (Apart.putObj _ _ _ recInT)) ((World.putObj_heap_other (by omega)).trans hk)⟩
end Go.Proofs.Ythajembgndhakaa
