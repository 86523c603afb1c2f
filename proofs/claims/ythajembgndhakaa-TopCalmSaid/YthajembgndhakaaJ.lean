/-
  The contest of clicks, over this seat's program: won.
  What is proved: it hands back the first of the clicks that are least bad, and how bad it is; nothing that was there before has turned.
  Conditions: valid ranges.
-/
import Derived.Test.YthajembgndhakaaI
namespace Go.Proofs.Ythajembgndhakaa
open Go.RowKit Go.Shelf
attribute [local go_sem] Oper.semAt_some

def wonStep (bad : Int → Int) (s : Int × Int) (c : Int) : Int × Int := if bad c < s.2 then (c, bad c) else s
def wonL (bad : Int → Int) (S : List Int) : Int × Int := S.foldl (wonStep bad) (0, 9223372036854775807)
theorem wonL_snoc (bad : Int → Int) (S : List Int) (c : Int) : wonL bad (S ++ [c]) = wonStep bad (wonL bad S) c := by simp [wonL]
theorem clTo_in (near n : Int) (hn : withinB near (-n) n = true) (k : Nat) : ∀ c ∈ clTo near n k, withinB c (-n) n = true := by
  induction k with
  | zero => intro c hc; simp [clTo] at hc; subst hc; exact hn
  | succ k ih =>
    intro c hc
    rw [clTo, List.mem_append] at hc
    rcases hc with hc | hc
    · exact ih c hc
    · rw [clAt, List.mem_append] at hc
      rcases hc with hc | hc
      · split at hc
        · simp at hc; subst hc; assumption
        · simp at hc
      · split at hc
        · simp at hc; subst hc; assumption
        · simp at hc

theorem Keeps.setCell {own : Nat → Prop} (A : World) {q : Addr} (hq : ¬ own q.block) (u : Value) : Keeps own A (A.setCell q u) :=
  ⟨by rw [World.size_setCell]; exact Nat.le_refl _, fun k _ ho => Below.heap_setCell _ _ _ _ (fun e => hq (e ▸ ho))⟩
/-- What the contest's loop keeps. -/
structure WInv (w : World) (fs : Array Value) (s : Int × Int) (W : World) : Prop where
  b : Below w.heap.size w W
  f : W.heap[w.heap.size]? = some (.cells fs 62 (0, 0))
  best : W.heap[w.heap.size + 1]? = some (.cells #[.int .i64 s.1] 3 (0, 0))
  least : W.heap[w.heap.size + 1 + 1]? = some (.cells #[.int .i64 s.2] 3 (0, 0))
theorem WInv.apart {w W W' : World} {fs : Array Value} {s : Int × Int} (h : WInv w fs s W) (ha : Apart (intv 2 (w.heap.size + 3)) W W') : WInv w fs s W' := by
  have hk : ∀ k, k < w.heap.size + 3 → k < W.heap.size → W'.heap[k]? = W.heap[k]? := fun k h1 h2 => ha.block k h2 (fun h3 => by have := h3.1; omega)
  exact ⟨h.b.trans ⟨ha.os, ha.tape, ha.output, ha.size, fun k hk' => hk k (by omega) (Nat.lt_of_lt_of_le hk' h.b.size)⟩, (hk _ (by omega) (lt_of_block h.f)).trans h.f, (hk _ (by omega) (lt_of_block h.best)).trans h.best, (hk _ (by omega) (lt_of_block h.least)).trans h.least⟩
theorem WInv.put {w W W' : World} {fs : Array Value} {s : Int × Int} (h : WInv w fs s W) (hb : Below W.heap.size W W') (x y : Int) : WInv w fs (x, y) ((W'.setCell ⟨w.heap.size + 1, 0, none⟩ (.int .i64 x)).setCell ⟨w.heap.size + 1 + 1, 0, none⟩ (.int .i64 y)) :=
  ⟨((h.b.trans (hb.mono h.b.size)).setCell (by show w.heap.size ≤ w.heap.size + 1; omega) _).setCell (by show w.heap.size ≤ w.heap.size + 1 + 1; omega) _, blk_other (blk_other (blk_below h.f hb) (by omega)) (by omega), blk_other (blk_setCell (blk_below h.best hb)) (by omega), blk_setCell (blk_other (blk_below h.least hb) (by omega))⟩

theorem eg38 : ∀ args w, (callFunc 38 args).run Try.prog w = .ok (.enter 38 args) w := enters_of Try.func38 (by kernel_rfl) rfl

set_option maxHeartbeats 4000000 in
set_option maxRecDepth 100000 in
theorem won_in (n : Nat) (R : Rv) (near : Int) (B P O Bn Br : Nat) (w : World) (hd : BdAt w R B P O) (ok : RgOk R.r) (hnr : withinB near (-R.r.clicks) R.r.clicks = true)
    (hbn : w.heap[Bn]? = some (.cells #[.int .i64 near] 3 (0, 0))) (hbr : w.heap[Br]? = some (.cells R.arr 31 (0, 0))) :
    CallsIn Fence.wide n Try.prog 23 #[.agg #[.func (.func 38) #[] #[.pointer (some ⟨Bn, 0, none⟩), .pointer (some ⟨Br, 0, none⟩)], .func (.func 33) #[] #[.pointer (some ⟨P, 0, none⟩), .pointer (some ⟨O, 0, none⟩)]]] w fun e w' =>
      e = .returned (.tuple #[.int .i64 (wonL (badF R.r) (clicksL near R.r.clicks)).1, .int .i64 (wonL (badF R.r) (clicksL near R.r.clicks)).2]) ∧ Below w.heap.size w w' := by
  have hseq := clicks1_seq R near Bn Br w ok.clicks (by have := ok.clicks; simp [withinB] at hnr; omega) hbn hbr
  have hBn := lt_of_block hbn
  have hBr := lt_of_block hbr
  have hin : ∀ c ∈ clicksL near R.r.clicks, -6 ≤ c ∧ c ≤ 6 := fun c hc => by
    have h := clTo_in near R.r.clicks hnr _ c hc
    have := ok.clicks
    simp [withinB] at h; omega
  have HIN := Lib.hid hin
  have HD := Lib.hid hd
  have HO := Lib.hid ok
  obtain ⟨Wr, hWr⟩ : ∃ Wr, ((w.alloc (.cells #[.func (.func 38) #[] #[.pointer (some ⟨Bn, 0, none⟩), .pointer (some ⟨Br, 0, none⟩)], .func (.func 33) #[] #[.pointer (some ⟨P, 0, none⟩), .pointer (some ⟨O, 0, none⟩)]] 62)).alloc (.cells #[.int .i64 0] 3)).alloc (.cells #[.int .i64 9223372036854775807] 3) = Wr := ⟨_, rfl⟩
  have hzr : Wr.heap.size = w.heap.size + 3 := by rw [← hWr]; simp
  have hbw : Below w.heap.size w Wr := by rw [← hWr]; exact ((alloc1 w _).alloc (by simp) _).alloc (by simp; omega) _
  have g0 : Wr.heap[w.heap.size]? = some (.cells #[.func (.func 38) #[] #[.pointer (some ⟨Bn, 0, none⟩), .pointer (some ⟨Br, 0, none⟩)], .func (.func 33) #[] #[.pointer (some ⟨P, 0, none⟩), .pointer (some ⟨O, 0, none⟩)]] 62 (0, 0)) := by
    rw [← hWr]; exact (Below.heap_alloc _ _ _ (by simp; omega)).trans ((Below.heap_alloc _ _ _ (by simp)).trans (heap_alloc_new w _))
  have g1 : Wr.heap[w.heap.size + 1]? = some (.cells #[.int .i64 0] 3 (0, 0)) := by
    rw [← hWr]; refine (Below.heap_alloc _ _ _ (by simp)).trans ?_
    have := heap_alloc_new (w.alloc (.cells #[.func (.func 38) #[] #[.pointer (some ⟨Bn, 0, none⟩), .pointer (some ⟨Br, 0, none⟩)], .func (.func 33) #[] #[.pointer (some ⟨P, 0, none⟩), .pointer (some ⟨O, 0, none⟩)]] 62)) (.cells #[.int .i64 0] 3); simpa using this
  have g2 : Wr.heap[w.heap.size + 1 + 1]? = some (.cells #[.int .i64 9223372036854775807] 3 (0, 0)) := by
    rw [← hWr]; have := heap_alloc_new ((w.alloc (.cells #[.func (.func 38) #[] #[.pointer (some ⟨Bn, 0, none⟩), .pointer (some ⟨Br, 0, none⟩)], .func (.func 33) #[] #[.pointer (some ⟨P, 0, none⟩), .pointer (some ⟨O, 0, none⟩)]] 62)).alloc (.cells #[.int .i64 0] 3)) (.cells #[.int .i64 9223372036854775807] 3); simpa using this
  have c0 := blk_cell g0 0 rfl
  generalize hS : clicksL near R.r.clicks = S at hseq HIN ⊢
  have notOwn : ∀ j, w.heap.size ≤ j → j < w.heap.size + 3 → ¬ ownOf (fun k => k = Bn ∨ k = Br) (0 + 2) Wr.heap.size j := fun j h0 hj h => by
    rw [hzr] at h
    rcases h with (h | h) | h
    · omega
    · omega
    · omega
  clear hin hd ok hnr hbn hbr hS
  refine callsIn_of_wp_marks Try.func23 rfl trivial ?_ rfl
  simp only [Try.ntmps23, List.size_toArray, List.length_cons, List.length_nil, Nat.reduceAdd, Nat.reduceSub, Array.replicate_succ, Array.replicate_zero, List.push_toArray, List.append_toArray, List.nil_append, List.cons_append]
  gi_wp2_with fail
  clear hWr c0
  refine range_seqI (gf := 38) (lb := #[.pointer (some ⟨Bn, 0, none⟩), .pointer (some ⟨Br, 0, none⟩)]) rfl eg38 hseq hbw (fun k h => by
      rw [hzr]
      rcases h with h | h <;> omega)
    (fun pre W' => WInv w #[.func (.func 38) #[] #[.pointer (some ⟨Bn, 0, none⟩), .pointer (some ⟨Br, 0, none⟩)], .func (.func 33) #[] #[.pointer (some ⟨P, 0, none⟩), .pointer (some ⟨O, 0, none⟩)]] (wonL (badF R.r) pre) W')
    (fun s A B h hap => h.apart (by rw [hzr] at hap; exact hap))
    ⟨hbw, g0, g1, g2⟩
    (fun v => { tmps := #[.agg #[.func (.func 38) #[] #[.pointer (some ⟨Bn, 0, none⟩), .pointer (some ⟨Br, 0, none⟩)], .func (.func 33) #[] #[.pointer (some ⟨P, 0, none⟩), .pointer (some ⟨O, 0, none⟩)]], .pointer (some ⟨w.heap.size, 0, none⟩), .int .i64 0, .int .i64 0, .pointer (some ⟨w.heap.size + 1, 0, none⟩), .pointer (some ⟨w.heap.size + 1 + 1, 0, none⟩), v, undef, .pointer (some ⟨w.heap.size, 0, none⟩), .func (.func 38) #[] #[.pointer (some ⟨Bn, 0, none⟩), .pointer (some ⟨Br, 0, none⟩)], v, undef, undef, undef, undef, undef, undef, undef, undef, undef, undef, undef], defers := [] })
    ?assign ?body ?done
  case assign =>
    intro l k v W K hK
    gi_wp2
    exact hK
  case body =>
    rintro l2 k pre c W1 hC hpre
    have hc6 := HIN.out c (hpre.subset (by simp))
    have HST : Hid (wonL (badF R.r) (pre ++ [c]) = wonStep (badF R.r) (wonL (badF R.r) pre) c) := wonL_snoc _ _ _
    have B1 := Lib.hid (bad1_any R B P O c W1 (HD.out.below hC.b) HO.out hc6)
    have HC := Lib.hid hC
    generalize wonL (badF R.r) pre = st at HC HST
    have f1 := blk_cell HC.out.f 1 rfl
    obtain ⟨sb, sl⟩ := st
    obtain ⟨bc, hbc⟩ : ∃ bc, badF R.r c = bc := ⟨_, rfl⟩
    rw [hbc] at B1
    have HBC := Lib.hid hbc
    clear hpre hC hbc
    have arm : ∀ (w2 : World), Below W1.heap.size W1 w2 → Hid (Below W1.heap.size W1 w2) ∧ w2.cell? ⟨w.heap.size + 1, 0, none⟩ = some (.int .i64 sb) ∧ w2.frozen? ⟨w.heap.size + 1, 0, none⟩ = false ∧ w2.cell? ⟨w.heap.size + 1 + 1, 0, none⟩ = some (.int .i64 sl) ∧ w2.frozen? ⟨w.heap.size + 1 + 1, 0, none⟩ = false := fun w2 hb => ⟨hb, blk_cell (blk_below HC.out.best hb) 0 rfl, blk_free (blk_below HC.out.best hb), blk_cell (blk_below HC.out.least hb) 0 rfl, blk_free (blk_below HC.out.least hb)⟩
    have HARM := Lib.hid arm
    clear arm
    by_cases hlt : bc < sl
    · have HF : Hid (wonL (badF R.r) (pre ++ [c]) = (c, bc)) := by show _ = _; rw [HST.out, wonStep, HBC.out, if_pos hlt]
      gi_wp2_with (refine ⟨trivial, (fun h => by cases h), ?_⟩; refine (CallsIn.inRound l2 (callsIn_wide.2 B1.out)).mono ?_; rintro e w2 ⟨rfl, hb2⟩; obtain ⟨HB2, m0, k0, m1, k1⟩ := HARM.out w2 hb2; clear f1)
      refine ⟨((Keeps.of_below HB2.out).trans (Keeps.setCell _ (q := ⟨w.heap.size + 1, 0, none⟩) (notOwn (w.heap.size + 1) (by omega) (by omega)) _)).trans (Keeps.setCell _ (q := ⟨w.heap.size + 1 + 1, 0, none⟩) (notOwn (w.heap.size + 1 + 1) (by omega) (by omega)) _), ?_⟩
      show WInv w _ (wonL (badF R.r) (pre ++ [c])) _
      rw [HF.out]
      exact HC.out.put HB2.out c bc
    · have HF : Hid (wonL (badF R.r) (pre ++ [c]) = (sb, sl)) := by show _ = _; rw [HST.out, wonStep, HBC.out, if_neg hlt]
      gi_wp2_with (refine ⟨trivial, (fun h => by cases h), ?_⟩; refine (CallsIn.inRound l2 (callsIn_wide.2 B1.out)).mono ?_; rintro e w2 ⟨rfl, hb2⟩; obtain ⟨HB2, m0, k0, m1, k1⟩ := HARM.out w2 hb2; clear f1)
      refine ⟨Keeps.of_below HB2.out, ?_⟩
      show WInv w _ (wonL (badF R.r) (pre ++ [c])) _
      rw [HF.out]
      exact HC.out.apart (Apart.of_below HB2.out)
  case done =>
    rintro W2 hC hK
    rw [hzr] at hK
    have f0 := blk_cell hC.best 0 rfl
    have f1 := blk_cell hC.least 0 rfl
    have hB4 : Below w.heap.size w (W2.putObj (w.heap.size + 3) (.deferred none)) := hC.b.trans ⟨rfl, rfl, rfl, by rw [putObj_size]; exact Nat.le_refl _, fun j hj => World.putObj_heap_other (by omega)⟩
    have hB5 := Lib.hid hB4
    clear hB4
    gi_wp2
    gi_region
    all_goals gi_wp2
    all_goals (
      rw [hzr]
      refine ⟨by simp, .inl ⟨_, _, rfl, run_takeDeferred ‹_›, ?_⟩⟩
      refine ⟨_, by simp [results, Try.results23, go_sem]; rfl, ?_⟩
      exact ⟨rfl, by obtain ⟨x1, x2, x3, x4, x5⟩ := hB5; exact ⟨x1, x2, x3, x4, x5⟩⟩)

theorem won_any (R : Rv) (near : Int) (B P O Bn Br : Nat) (w : World) (hd : BdAt w R B P O) (ok : RgOk R.r) (hnr : withinB near (-R.r.clicks) R.r.clicks = true)
    (hbn : w.heap[Bn]? = some (.cells #[.int .i64 near] 3 (0, 0))) (hbr : w.heap[Br]? = some (.cells R.arr 31 (0, 0))) :
    Calls Try.prog 23 #[.agg #[.func (.func 38) #[] #[.pointer (some ⟨Bn, 0, none⟩), .pointer (some ⟨Br, 0, none⟩)], .func (.func 33) #[] #[.pointer (some ⟨P, 0, none⟩), .pointer (some ⟨O, 0, none⟩)]]] w fun e w' =>
      e = .returned (.tuple #[.int .i64 (wonL (badF R.r) (clicksL near R.r.clicks)).1, .int .i64 (wonL (badF R.r) (clicksL near R.r.clicks)).2]) ∧ Below w.heap.size w w' :=
  callsIn_wide.1 (won_in 0 R near B P O Bn Br w hd ok hnr hbn hbr)
end Go.Proofs.Ythajembgndhakaa
