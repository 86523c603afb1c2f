/-
The contract of Yield over this seat's program, once more: the rules that it hands back are new.
  What is proved: what the call returns; nothing that was there before has turned.
  Conditions: slices of at most 1000000 elements.
The contract of CourseYielded over this seat's program.
  What is proved: it answers true; nothing that was there before has turned.
  Conditions: lists of bytes that read as such.
-/
import Derived.Test.YtgldfnkjfgcjpaaGreatPart17
namespace Go.Proofs.YtgldfnkjfgcjpaaGreat
open Go.RowKit Go.Shelf
attribute [local go_sem] Oper.semAt_some

/-- A call that hands back rules, a course and an error; the rules are new; nothing that was there before it has turned. -/
def OutYF (w : World) (x : List Int × List Int × Int) (e : Ending) (w' : World) : Prop := ∃ a ca b cb, e = .returned (.tuple #[.slice a x.1.length ca, .slice b x.2.1.length cb, .int .i64 x.2.2]) ∧ IntSl w' a x.1 ∧ IntSl w' b x.2.1 ∧ Below w.heap.size w w' ∧ (∀ p, a = some p → w.heap.size ≤ p.block)
theorem OutYF.nil {w w' : World} {err : Int} {e : Ending} (he : e = .returned (.tuple #[.slice none 0 0, .slice none 0 0, .int .i64 err])) (hb : Below w.heap.size w w') : OutYF w ([], [], err) e w' :=
  ⟨none, 0, none, 0, he, (fun h => by simp at h), (fun h => by simp at h), hb, (fun p h => by cases h)⟩

set_option maxHeartbeats 800000 in
set_option maxRecDepth 100000 in
theorem yield_far_in (n : Nat) (a : Option Addr) (xs : List Lp) (cap : Nat) (r : Ru) (w : World) (hx : Sl 3 Lp.cells w a xs) (hl : xs.length ≤ 1000000) :
    CallsIn Fence.wide n Tryz.prog 60 #[.slice a xs.length cap, r.v] w (OutYF w (yieldR xs r)) := by
  have q136 : ∀ (w : World) (a : Option Addr) (n c n' c' : Nat), (binOp .eql 137 (.slice a n c) (.slice none n' c')).run Tryz.prog w = .ok (.bool a.isNone) w := fun w a n c n' c' => Lib.run_eql_slice_nil w _ _ a n c n' c' Tryz.underlying137
  obtain ⟨Wa, hWa⟩ : ∃ Wa, (w.alloc (.cells #[.slice a xs.length cap] 22)).alloc r.o = Wa := ⟨_, rfl⟩
  have hba : Below w.heap.size w Wa := by rw [← hWa]; exact ((Below.refl _ _).alloc (Nat.le_refl _) _).alloc (by simp) _
  have h0 : Wa.heap[w.heap.size]? = some (.cells #[.slice a xs.length cap] 22 (0, 0)) := by rw [← hWa]; exact alk (new_at rfl)
  have h1 : RuAt Wa (w.heap.size + 1) r := by rw [← hWa]; exact new_at (by simp)
  refine callsIn_of_wp_marks Tryz.func60 rfl trivial ?_ rfl
  simp only [Tryz.ntmps60, List.size_toArray, List.length_cons, List.length_nil, Nat.reduceAdd, Nat.reduceSub, Array.replicate_succ, Array.replicate_zero, List.push_toArray, List.append_toArray, List.nil_append, List.cons_append]
  have t00 := blk_cell h0 0 rfl
  obtain ⟨d0, d1, d2, d3, d4, d5, d6, d7, d8⟩ := h1.cells
  gi_wp2_with fail
  clear hWa t00 d0 d1 d2 d3 d4 d5 d6 d7 d8
  refine ⟨trivial, (fun h => by cases h), ?_⟩
  refine (callsIn_wide.2 (check_any a xs cap r _ (hx.below hba) hl)).mono ?_
  rintro e w1 ⟨rfl, hb⟩
  have hb1 := below_self hba hb
  by_cases hck : checkE xs r = 0
  · have h1b : (checkE xs r != 0) = false := by simp [hck]
    have HR : Hid (yieldR xs r = yPair (yOf xs r (extC xs.length r.laps.toNat [] 0))) := by show _ = _; rw [yieldR, if_pos hck]
    have HCK := Lib.hid hck
    clear hck
    have t0 := blk_cell (blk_below h0 hb) 0 rfl
    obtain ⟨c0, c1, c2, c3, c4, c5, c6, c7, c8⟩ := (h1.below hb).cells
    have hz1 : w.heap.size + 2 ≤ w1.heap.size := by have := lt_of_block h1; have := hb.size; omega
    have hz2 : w.heap.size < w1.heap.size := by omega
    have hz3 : w.heap.size + 1 < w1.heap.size := by omega
    gi_wp2_with (refine ⟨trivial, (fun h => by cases h), ?_⟩; refine (callsIn_wide.2 (courses_any xs.length r.laps _)).mono ?_; rintro e w2 ⟨rfl, rfl⟩)
    have hal := (stad_ok (check_ok HCK.out).1).1
    have hl12 := (stad_ok (check_ok HCK.out).1).2
    have hab : ∀ p, a = some p → p.block < w.heap.size := sl_lt hx (by omega)
    have hs0 := blk_below h0 hb
    have hs1 := h1.below hb
    clear t0 c0 c1 c2 c3 c4 c5 c6 c7 c8
    obtain ⟨Wr, hWr⟩ : ∃ Wr, (((w1.alloc (.cells #[.slice none 0 0] 106)).alloc (.cells #[.slice none 0 0] 137)).alloc (.cells #[.int .i64 xs.length] 3)).alloc (.cells #[.int .i64 r.laps] 3) = Wr := ⟨_, rfl⟩
    have hzr : Wr.heap.size = w1.heap.size + 4 := by rw [← hWr]; simp
    have hbr : Below w1.heap.size w1 Wr := by rw [← hWr]; exact ((((Below.refl _ _).alloc (Nat.le_refl _) _).alloc (by simp) _).alloc (by simp <;> omega) _).alloc (by simp <;> omega) _
    have g0 : Wr.heap[w1.heap.size]? = some (.cells #[.slice none 0 0] 106 (0, 0)) := by rw [← hWr]; exact alk (alk (alk (new_at rfl)))
    have g1 : Wr.heap[w1.heap.size + 1]? = some (.cells #[.slice none 0 0] 137 (0, 0)) := by rw [← hWr]; exact alk (alk (new_at (by simp)))
    have g2 : Wr.heap[w1.heap.size + 1 + 1]? = some (.cells #[.int .i64 xs.length] 3 (0, 0)) := by rw [← hWr]; exact alk (new_at (by simp))
    have g3 : Wr.heap[w1.heap.size + 1 + 1 + 1]? = some (.cells #[.int .i64 ((r.laps.toNat : Nat) : Int)] 3 (0, 0)) := by rw [← (laps_nat HCK.out).1, ← hWr]; exact new_at (by simp)
    have hlap := (laps_nat HCK.out).2
    have hseq := courses1_seq xs.length r.laps.toNat (by omega) ⟨hlap.1, by omega⟩ (w1.heap.size + 1 + 1) (w1.heap.size + 1 + 1 + 1) Wr g2 g3
    have notOwn : ∀ j, w1.heap.size ≤ j → j < w1.heap.size + 2 → ¬ ownOf (fun k => k = w1.heap.size + 1 + 1 ∨ k = w1.heap.size + 1 + 1 + 1) (4 + 2) Wr.heap.size j := fun j h0 hj h => by
        rw [hzr] at h
        rcases h with (h | h) | h
        · omega
        · omega
        · omega
    have hext : ∀ c ∈ extC xs.length r.laps.toNat [] 0, c.length = r.laps.toNat ∧ ∀ i ∈ c, 0 ≤ i ∧ i < (xs.length : Int) := fun c hc => by simpa using extC_ok xs.length r.laps.toNat [] 0 (by simp) c hc
    generalize hS : extC xs.length r.laps.toNat [] 0 = S at hseq HR hext
    rw [hWr]
    clear hWr hS
    refine range_seqC (gf := 153) (lb := #[.pointer (some ⟨w1.heap.size + 1 + 1 + 1, 0, none⟩), .pointer (some ⟨w1.heap.size + 1 + 1, 0, none⟩)]) rfl eg123 hseq (Below.refl _ _) (fun k h => by
        rw [hzr]
        rcases h with h | h <;> omega)
      (fun pre W' => YInv w1 (yOf xs r pre) W') (fun _ _ => False)
      (fun s A B h hap => h.apart (by rw [hzr] at hap; exact hap)) (fun _ _ _ h _ => h)
      ⟨hbr, g0, g1⟩
      (fun v => { tmps := #[.slice a xs.length cap, r.v, .pointer (some ⟨w.heap.size, 0, none⟩), .pointer (some ⟨w.heap.size + 1, 0, none⟩), .slice none 0 0, .slice none 0 0, .int .i64 0, .int .i64 (checkE xs r), .pointer (some ⟨w1.heap.size, 0, none⟩), .pointer (some ⟨w1.heap.size + 1, 0, none⟩), v, undef, .slice a xs.length cap, r.v, .int .i64 (checkE xs r), .int .i64 (checkE xs r), .bool false, undef, .slice a xs.length cap, .int .i64 xs.length, .pointer (some ⟨w.heap.size + 1, 0, none⟩), .int .i64 r.laps, .func (.func 153) #[] #[.pointer (some ⟨w1.heap.size + 1 + 1 + 1, 0, none⟩), .pointer (some ⟨w1.heap.size + 1 + 1, 0, none⟩)], v, undef, undef, undef, undef, undef, undef, undef, undef, undef, undef, undef, undef, undef, undef, undef, undef], defers := [] })
      ?assign ?body ?done ?stop
    case assign =>
      intro l k v W K hK
      gi_wp2
      exact hK
    case body =>
      rintro l2 k pre c av ccap W1 hC hpre hsl hty hfr
      have hcS : c ∈ S := hpre.subset (by simp)
      obtain ⟨hcl, hci⟩ := hext c hcS
      have HCI := Lib.hid hci
      clear hci hext
      have hc1 : 0 < c.length := by omega
      have hc2 : c.length ≤ 1000000 := by omega
      have HST : Hid (yOf xs r (pre ++ [c]) = yStep xs r (yOf xs r pre) c) := yOf_snoc _ _ _ _
      clear hcl hcS hpre
      obtain ⟨qb, qo, hav, hqb, hqc⟩ := hsl hc1
      subst hav
      have hq10 : w1.heap.size + 10 ≤ qb := by have := hfr _ rfl; rw [hzr] at this; have : w1.heap.size + 4 + 2 + 4 ≤ qb := this; omega
      clear hqc hfr
      have s0 := blk_cell (blk_below hs0 hC.b) 0 rfl
      obtain ⟨c0, c1, c2, c3, c4, c5, c6, c7, c8⟩ := (hs1.below hC.b).cells
      have hxW := hx.below (below_self hb1 hC.b)
      generalize hst : yOf xs r pre = st at hC HST
      clear hst
      have hbest := hC.best
      have HW := Lib.hid (And.intro hxW (And.intro hsl (And.intro hal (And.intro hl12 hc2))))
      have HQ : Hid (w1.heap.size + 10 ≤ qb ∧ qb < W1.heap.size) := ⟨hq10, hqb⟩
      cases st with
      | none =>
        obtain ⟨e0, e1⟩ := hbest
        have HF : Hid (yOf xs r (pre ++ [c]) = some (rulesL (judgeM xs r c), c)) := HST.out
        gi_wp2_with (first
          | (refine ⟨trivial, (fun h => by cases h), ?_⟩; gi_at_call 109; refine (CallsIn.inRound l2 (callsIn_wide.2 (judge_any a xs cap r (some ⟨qb, qo, none⟩) c ccap _ HW.out.1 HW.out.2.1 (by have := HW.out.2.2.2.1; omega) HW.out.2.2.2.2 HW.out.2.2.1 HCI.out))).mono ?_; rintro e w2 ⟨rfl, hb2⟩)
          | (refine ⟨trivial, (fun h => by cases h), ?_⟩; gi_at_call 110; refine (CallsIn.inRound l2 (callsIn_wide.2 (rules_any (judgeM xs r c) _))).mono ?_; rintro e w3 ⟨p3, pcap3, rfl, hI3, hf3, hb3⟩; have hb23 := below_self hb2 hb3; have f0 := blk_cell (blk_below e0 hb23) 0 rfl; have f1 := blk_free (j := 0) (blk_below e0 hb23); have f2 := blk_cell (blk_below e1 hb23) 0 rfl; have f3 := blk_free (j := 0) (blk_below e1 hb23)))
        refine ⟨trivial, ?_⟩
        gi_wp2
        refine ⟨((Keeps.of_below hb23).trans (Keeps.setCell _ (q := ⟨w1.heap.size, 0, none⟩) (notOwn (w1.heap.size) (by omega) (by omega)) _)).trans (Keeps.setCell _ (q := ⟨w1.heap.size + 1, 0, none⟩) (notOwn (w1.heap.size + 1) (by omega) (by omega)) _), ?_⟩
        show YInv w1 (yOf xs r (pre ++ [c])) _
        rw [HF.out]
        exact hC.put hb23 e0 e1 hI3 (fun x hx => by have h1 := hf3 x hx; have h2 := hb2.size; have h3 := HQ.out; omega) (hsl.below hb23) hq10
      | some s =>
        obtain ⟨rs, f⟩ := s
        obtain ⟨p, pcap, q, qcap, e0, e1, e2, e3, e4, e5⟩ := hbest
        have HE := Lib.hid (And.intro e2 e3)
        clear e2 e3
        cases hbf : beforeB (rulesL (judgeM xs r c)) rs
        · have HF : Hid (yOf xs r (pre ++ [c]) = some (rs, f)) := by show _ = _; rw [HST.out]; simp [yStep, hbf]
          gi_wp2_with (first
            | (refine ⟨trivial, (fun h => by cases h), ?_⟩; gi_at_call 109; refine (CallsIn.inRound l2 (callsIn_wide.2 (judge_any a xs cap r (some ⟨qb, qo, none⟩) c ccap _ HW.out.1 HW.out.2.1 (by have := HW.out.2.2.2.1; omega) HW.out.2.2.2.2 HW.out.2.2.1 HCI.out))).mono ?_; rintro e w2 ⟨rfl, hb2⟩)
            | (refine ⟨trivial, (fun h => by cases h), ?_⟩; gi_at_call 110; refine (CallsIn.inRound l2 (callsIn_wide.2 (rules_any (judgeM xs r c) _))).mono ?_; rintro e w3 ⟨p3, pcap3, rfl, hI3, hf3, hb3⟩; have hb23 := below_self hb2 hb3; have HI3 := Lib.hid hI3; clear hI3; have f0 := blk_cell (blk_below e0 hb23) 0 rfl; have f2 := blk_cell (blk_below e1 hb23) 0 rfl)
            | (refine ⟨trivial, (fun h => by cases h), ?_⟩; gi_at_call 114; refine (CallsIn.inRound l2 (callsIn_wide.2 (before_any p3 (rulesL (judgeM xs r c)) pcap3 p rs pcap _ HI3.out (HE.out.1.below hb23) (by have := rulesTo_le (judgeM xs r c).list 5; show (rulesTo _ 5).length ≤ _; omega)))).mono ?_; rintro e w4 ⟨rfl, hb4⟩; rw [hbf]; have hb24 := below_self hb23 hb4))
          refine ⟨Keeps.of_below hb24, ?_⟩
          show YInv w1 (yOf xs r (pre ++ [c])) _
          rw [HF.out]
          exact hC.apart (Apart.of_below hb24)
        · have HF : Hid (yOf xs r (pre ++ [c]) = some (rulesL (judgeM xs r c), c)) := by show _ = _; rw [HST.out]; simp [yStep, hbf]
          gi_wp2_with (first
            | (refine ⟨trivial, (fun h => by cases h), ?_⟩; gi_at_call 109; refine (CallsIn.inRound l2 (callsIn_wide.2 (judge_any a xs cap r (some ⟨qb, qo, none⟩) c ccap _ HW.out.1 HW.out.2.1 (by have := HW.out.2.2.2.1; omega) HW.out.2.2.2.2 HW.out.2.2.1 HCI.out))).mono ?_; rintro e w2 ⟨rfl, hb2⟩)
            | (refine ⟨trivial, (fun h => by cases h), ?_⟩; gi_at_call 110; refine (CallsIn.inRound l2 (callsIn_wide.2 (rules_any (judgeM xs r c) _))).mono ?_; rintro e w3 ⟨p3, pcap3, rfl, hI3, hf3, hb3⟩; have hb23 := below_self hb2 hb3; have HI3 := Lib.hid hI3; clear hI3; have f0 := blk_cell (blk_below e0 hb23) 0 rfl; have f2 := blk_cell (blk_below e1 hb23) 0 rfl)
            | (refine ⟨trivial, (fun h => by cases h), ?_⟩; gi_at_call 114; refine (CallsIn.inRound l2 (callsIn_wide.2 (before_any p3 (rulesL (judgeM xs r c)) pcap3 p rs pcap _ HI3.out (HE.out.1.below hb23) (by have := rulesTo_le (judgeM xs r c).list 5; show (rulesTo _ 5).length ≤ _; omega)))).mono ?_; rintro e w4 ⟨rfl, hb4⟩; rw [hbf]; have hb24 := below_self hb23 hb4; have hI4 := Lib.hid (HI3.out.below hb4); clear f0 f2; have f0 := blk_cell (blk_below e0 hb24) 0 rfl; have f1 := blk_free (j := 0) (blk_below e0 hb24); have f2 := blk_cell (blk_below e1 hb24) 0 rfl; have f3 := blk_free (j := 0) (blk_below e1 hb24)))
          refine ⟨((Keeps.of_below hb24).trans (Keeps.setCell _ (q := ⟨w1.heap.size, 0, none⟩) (notOwn (w1.heap.size) (by omega) (by omega)) _)).trans (Keeps.setCell _ (q := ⟨w1.heap.size + 1, 0, none⟩) (notOwn (w1.heap.size + 1) (by omega) (by omega)) _), ?_⟩
          show YInv w1 (yOf xs r (pre ++ [c])) _
          rw [HF.out]
          exact hC.put hb24 e0 e1 hI4.out (fun x hx => by have h1 := hf3 x hx; have h2 := hb2.size; have h3 := HQ.out; omega) (hsl.below hb24) hq10
    case done =>
      rintro W2 hC hK
      have hbest := hC.best
      have hB4 : Below w.heap.size w (W2.putObj Wr.heap.size (.deferred none)) := (below_self hb1 hC.b).trans ⟨rfl, rfl, rfl, by rw [putObj_size]; exact Nat.le_refl _, fun j hj => World.putObj_heap_other (by omega)⟩
      have HB4 := Lib.hid hB4
      clear hB4
      generalize yOf xs r S = st at hC HR hbest
      cases st with
      | none =>
        obtain ⟨e0, e1⟩ := hbest
        have f0 := blk_cell e0 0 rfl
        have f1 := blk_cell e1 0 rfl
        gi_wp2
        gi_region
        all_goals gi_wp2
        all_goals (try refine ⟨by simp, ?_⟩)
        all_goals refine .inl ⟨_, _, rfl, run_takeDeferred (show W2.drew.heap[_]? = _ from hK), ?_⟩
        all_goals (refine ⟨_, by simp [results, Tryz.results60, go_sem]; rfl, ?_⟩; rw [HR.out])
        all_goals exact OutYF.nil rfl (by obtain ⟨x1, x2, x3, x4, x5⟩ := HB4.out; exact ⟨x1, x2, x3, x4, x5⟩)
      | some s =>
        obtain ⟨rs, f⟩ := s
        obtain ⟨p, pcap, q, qcap, e0, e1, e2, e3, e4, e5⟩ := hbest
        have f0 := blk_cell e0 0 rfl
        have f1 := blk_cell e1 0 rfl
        have HE := Lib.hid (And.intro e2 (And.intro e3 (And.intro e4 e5)))
        clear e2 e3 e4 e5
        gi_wp2
        gi_region
        all_goals gi_wp2
        all_goals (try refine ⟨by simp, ?_⟩)
        all_goals refine .inl ⟨_, _, rfl, run_takeDeferred (show W2.drew.heap[_]? = _ from hK), ?_⟩
        all_goals (refine ⟨_, by simp [results, Tryz.results60, go_sem]; rfl, ?_⟩; rw [HR.out])
        all_goals exact ⟨p, pcap, some q, qcap, rfl, ints_same HE.out.1 (by rw [putObj_size]; exact Nat.le_refl _) (fun x hx _ => World.putObj_heap_other (w := W2) (by have := HE.out.2.1 x hx; omega)), ints_same HE.out.2.2.1 (by rw [putObj_size]; exact Nat.le_refl _) (fun x hx _ => by cases hx; exact World.putObj_heap_other (w := W2) (by have := HE.out.2.2.2; omega)), (by obtain ⟨x1, x2, x3, x4, x5⟩ := HB4.out; exact ⟨x1, x2, x3, x4, x5⟩), fun x hx => by have := HE.out.2.1 x hx; omega⟩
    case stop =>
      rintro pre W2 _ h _
      exact h.elim
  · have h1b : (checkE xs r != 0) = true := by simp [hck]
    have HR2 : Hid (yieldR xs r = ([], [], checkE xs r)) := by show _ = _; rw [yieldR, if_neg hck]
    clear hck
    gi_wp2
    refine ⟨_, by simp [results, Tryz.results60, go_sem]; rfl, ?_⟩
    rw [HR2.out]
    exact OutYF.nil rfl hb1
theorem yield_far (a : Option Addr) (xs : List Lp) (cap : Nat) (r : Ru) (w : World) (hx : Sl 3 Lp.cells w a xs) (hl : xs.length ≤ 1000000) :
    Calls Tryz.prog 60 #[.slice a xs.length cap, r.v] w (OutYF w (yieldR xs r)) := callsIn_wide.1 (yield_far_in 0 a xs cap r w hx hl)
end Go.Proofs.YtgldfnkjfgcjpaaGreat

namespace Go.Proofs.YtgldfnkjfgcjpaaGreat
open Go.RowKit Go.Shelf
attribute [local go_sem] Oper.semAt_some

set_option maxRecDepth 100000 in
set_option maxHeartbeats 20000000 in
theorem yielded_law (a : Option Addr) (n cap : Nat) (a2 : Option Addr) (n2 cap2 : Nat) (w : World) (hb : BytesAt w a n) (hn : n ≤ 140737488355328) (hb2 : BytesAt w a2 n2) (hn2 : n2 ≤ 140737488355328) :
  Calls Tryz.prog 7 #[.slice a n cap, .slice a2 n2 cap2] w fun e w' => e = .returned (.bool true) ∧ Below w.heap.size w w' := by
  have HB := Lib.hid (And.intro hb hb2)
  clear hb hb2
  go_enter Tryz.func7, Tryz.ntmps7
  go_wp2_with (fail)
  refine (of_any a n cap w HB.out.1 hn).mono ?_
  rintro e W1 ⟨rfl, hD, hb⟩
  have H1 := Lib.hid (And.intro hb hD)
  clear hb hD
  go_wp2_with (fail)
  refine (stadMade_any w.heap.size (w.heap.size + 1) a n cap 0 5 4 W1 H1.out.2 (by omega) (by omega) (by omega)).mono ?_
  rintro e W2 ⟨sa, xs, sc, r, rfl, hsl, hxl, hxs, hr, hrl, hD, hA, hfar⟩
  have H2 : Hid (Below w.heap.size w W2 ∧ Sl 3 Lp.cells W2 sa xs) := ⟨below_apart H1.out.1 hA (fun j hj => by omega), hsl⟩
  obtain ⟨hx1, hx5⟩ := hxl
  have hx6 : xs.length ≤ 5 := by omega
  have hla : 1 ≤ r.laps ∧ r.laps ≤ 4 := ⟨hr.1.1, hrl⟩
  have HK : Hid (checkE xs r = 0) := small_ok ⟨hx1, by omega⟩ hxs hr
  clear hsl hxs hr hD hA hfar H1 hx5 hrl
  go_upto_region 2 with (fail)
  obtain ⟨T, hT⟩ : ∃ T, W2.heap.size = T := ⟨_, rfl⟩
  have H3 : Hid ((Below w.heap.size w (W2.alloc (.cells #[.int .i64 r.laps, .int .i64 r.len.lo, .int .i64 r.len.hi, .int .i64 r.climb.lo, .int .i64 r.climb.hi, .int .i64 r.lap.lo, .int .i64 r.lap.hi, .int .i64 r.wide, .int .i64 r.uses] 26)) ∧ RuAt (W2.alloc (.cells #[.int .i64 r.laps, .int .i64 r.len.lo, .int .i64 r.len.hi, .int .i64 r.climb.lo, .int .i64 r.climb.hi, .int .i64 r.lap.lo, .int .i64 r.lap.hi, .int .i64 r.wide, .int .i64 r.uses] 26)) T r ∧ Sl 3 Lp.cells (W2.alloc (.cells #[.int .i64 r.laps, .int .i64 r.len.lo, .int .i64 r.len.hi, .int .i64 r.climb.lo, .int .i64 r.climb.hi, .int .i64 r.lap.lo, .int .i64 r.lap.hi, .int .i64 r.wide, .int .i64 r.uses] 26)) sa xs ∧ w.heap.size ≤ T) ∧ T < (W2.alloc (.cells #[.int .i64 r.laps, .int .i64 r.len.lo, .int .i64 r.len.hi, .int .i64 r.climb.lo, .int .i64 r.climb.hi, .int .i64 r.lap.lo, .int .i64 r.lap.hi, .int .i64 r.wide, .int .i64 r.uses] 26)).heap.size ∧ (∀ p, sa = some p → p.block < (W2.alloc (.cells #[.int .i64 r.laps, .int .i64 r.len.lo, .int .i64 r.len.hi, .int .i64 r.climb.lo, .int .i64 r.climb.hi, .int .i64 r.lap.lo, .int .i64 r.lap.hi, .int .i64 r.wide, .int .i64 r.uses] 26)).heap.size) ∧ BytesAt (W2.alloc (.cells #[.int .i64 r.laps, .int .i64 r.len.lo, .int .i64 r.len.hi, .int .i64 r.climb.lo, .int .i64 r.climb.hi, .int .i64 r.lap.lo, .int .i64 r.lap.hi, .int .i64 r.wide, .int .i64 r.uses] 26)) a2 n2) := by
    have hb3 := alloc1 W2 (.cells #[.int .i64 r.laps, .int .i64 r.len.lo, .int .i64 r.len.hi, .int .i64 r.climb.lo, .int .i64 r.climb.hi, .int .i64 r.lap.lo, .int .i64 r.lap.hi, .int .i64 r.wide, .int .i64 r.uses] 26)
    have hsl := H2.out.2.below hb3
    have hbb := below_self H2.out.1 hb3
    exact ⟨⟨hbb, by rw [← hT]; exact heap_alloc_new _ _, hsl, by rw [← hT]; exact H2.out.1.size⟩, by rw [← hT]; simp, sl_lt hsl (by omega), HB.out.2.keep hbb.size (fun _ p _ hl => hbb.block _ hl)⟩
  rw [hT]
  clear H2 hT HB
  generalize W2.alloc (.cells #[.int .i64 r.laps, .int .i64 r.len.lo, .int .i64 r.len.hi, .int .i64 r.climb.lo, .int .i64 r.climb.hi, .int .i64 r.lap.lo, .int .i64 r.lap.hi, .int .i64 r.wide, .int .i64 r.uses] 26) = W3 at H3 ⊢
  go_wp2_with (fail)
  refine (of_any a2 n2 cap2 W3 H3.out.2.2.2 hn2).mono ?_
  rintro e W4 ⟨rfl, hD, hb⟩
  have H4 : Hid (YI w T W3.heap.size r sa xs none [] a2 n2 cap2 0 W4) := ⟨below_self H3.out.1.1 hb, H3.out.1.2.1.below hb, H3.out.1.2.2.1.below hb, hD, (fun h => absurd h (Nat.lt_irrefl 0)), H3.out.1.2.2.2, H3.out.2.1, by omega, H3.out.2.2.1, (fun p h => by cases h)⟩
  clear hD hb H3
  generalize W3.heap.size = B at H4 ⊢
  have HYF := Lib.hid (yield_facts HK.out)
  have HGU := Lib.hid (fun skip hs => given_up HK.out (by omega) hla.2 skip hs)
  obtain ⟨YR, YC, YE, hYE⟩ : ∃ YR YC YE, yieldR xs r = (YR, YC, YE) := ⟨_, _, _, rfl⟩
  rw [hYE] at HYF HGU
  obtain rfl : YE = 0 := HYF.out.1
  have HC4 : Hid (∀ W, Sl 3 Lp.cells W sa xs → Calls Tryz.prog 60 #[.slice sa xs.length sc, r.v] W (OutYF W (YR, YC, 0))) := fun W hW => by
    have h := yield_far sa xs sc r W hW (by omega)
    rw [hYE] at h
    exact h
  have HC5 : Hid (∀ W ca ccap, Sl 3 Lp.cells W sa xs → IntSl W ca YC → Calls Tryz.prog 53 #[.slice sa xs.length sc, r.v, .slice ca YC.length ccap] W (OutIntsE W YR 0)) := fun W ca ccap hW hc => by
    have h := broken_any sa xs sc r ca YC ccap W hW hc (by omega) (by have := HYF.out.2.2.1; simp at this; omega)
    rw [show brokenR xs r YC = (YR, 0) from HYF.out.2.1] at h
    exact h
  have HC6 : Hid (∀ W (o : List Int) ca ccap, (o.length : Int) = r.laps → (∀ i ∈ o, 0 ≤ i ∧ i < (xs.length : Int)) → o.Pairwise (fun x y => x ≤ y) → Sl 3 Lp.cells W sa xs → IntSl W ca o → Calls Tryz.prog 53 #[.slice sa xs.length sc, r.v, .slice ca o.length ccap] W (OutIntsE W (rulesL (judgeM xs r o)) 0) ∧ beforeB (rulesL (judgeM xs r o)) YR = false) := fun W o ca ccap hl hi hp hW hc => by
    have h := broken_any sa xs sc r ca o ccap W hW hc (by omega) (by omega)
    obtain ⟨h1, h2⟩ := HYF.out.2.2.2.2 o hl hi hp
    rw [h1] at h
    exact ⟨h, h2⟩
  have HY5 : Hid (YR.length ≤ 5) := HYF.out.2.2.2.1
  clear hYE HYF
  have c0 := blk_cell H4.out.t 0 rfl
  have c1 := blk_cell H4.out.t 1 rfl
  have c2 := blk_cell H4.out.t 2 rfl
  have c3 := blk_cell H4.out.t 3 rfl
  have c4 := blk_cell H4.out.t 4 rfl
  have c5 := blk_cell H4.out.t 5 rfl
  have c6 := blk_cell H4.out.t 6 rfl
  have c7 := blk_cell H4.out.t 7 rfl
  have c8 := blk_cell H4.out.t 8 rfl
  go_wp2_with (fail)
  clear c0 c1 c2 c3 c4 c5 c6 c7 c8
  refine (HC4.out W4 H4.out.sl).mono ?_
  rintro e W5 ⟨pa, pcap, pb, pbcap, rfl, h1, h2, hb, hf⟩
  have H5 : Hid (YI w T B r sa xs pa YR a2 n2 cap2 0 W5 ∧ IntSl W5 pb YC) := by
    have h := H4.out.below hb
    have hl := H4.out.dk.lt
    exact ⟨⟨h.b, h.t, h.sl, h.dk, h1, h.hT, h.hB, h.pos, h.fs, fun p hp => by have := hf p hp; omega⟩, h2⟩
  clear h1 h2 hb hf H4 HC4
  have c0 := blk_cell H5.out.1.t 0 rfl
  have c1 := blk_cell H5.out.1.t 1 rfl
  have c2 := blk_cell H5.out.1.t 2 rfl
  have c3 := blk_cell H5.out.1.t 3 rfl
  have c4 := blk_cell H5.out.1.t 4 rfl
  have c5 := blk_cell H5.out.1.t 5 rfl
  have c6 := blk_cell H5.out.1.t 6 rfl
  have c7 := blk_cell H5.out.1.t 7 rfl
  have c8 := blk_cell H5.out.1.t 8 rfl
  go_wp2_with (fail)
  clear c0 c1 c2 c3 c4 c5 c6 c7 c8
  refine (HC5.out W5 pb pbcap H5.out.1.sl H5.out.2).mono ?_
  rintro e W6 ⟨ba, bcap, rfl, h1, _, hb⟩
  have H6 : Hid (YI w T B r sa xs pa YR a2 n2 cap2 0 W6 ∧ IntSl W6 ba YR) := ⟨H5.out.1.below hb, h1⟩
  clear h1 hb H5 HC5
  go_wp2_with (fail)
  refine (equal_rule pa YR pcap ba YR bcap W6 H6.out.1.ys H6.out.2 (by have := HY5.out; omega)).mono ?_
  rintro e W7 ⟨rfl, hb⟩
  have H7 : Hid (YI w T B r sa xs pa YR a2 n2 cap2 0 W7) := H6.out.1.below hb
  clear hb H6
  rw [show decide (YR = YR) = true from decide_eq_true rfl]
  go_wp2_with (fail)
  go_loopw [55] (fun i W => ∃ (q : Nat), q ≤ 8 ∧ i = .int .i64 q ∧ Hid (YI w T B r sa xs pa YR a2 n2 cap2 (6 * q) W)) (fun i _ => 8 - (intOf i).toNat)
  case atStart => exact ⟨0, by omega, rfl, H7.out⟩
  case round =>
    obtain ⟨q, hq, rfl, hX⟩ := hrel
    obtain ⟨V, hV⟩ : ∃ V, V = wr := ⟨_, rfl⟩
    subst hV
    by_cases hlq : q < 8
    · have HX := Lib.hid hX.out
      clear hX H7
      have s0 := HX.out.t.cells
      obtain ⟨c0, c1, c2, c3, c4, c5, c6, c7, c8⟩ := s0
      go_upto_region 9 with (fail)
      go_region_held3 (fun w' => w'.cell? ⟨T, 0, none⟩ = some (.int .i64 r.laps) ∧ w'.cell? ⟨T, 1, none⟩ = some (.int .i64 r.len.lo) ∧ w'.cell? ⟨T, 2, none⟩ = some (.int .i64 r.len.hi) ∧ w'.cell? ⟨T, 3, none⟩ = some (.int .i64 r.climb.lo) ∧ w'.cell? ⟨T, 4, none⟩ = some (.int .i64 r.climb.hi) ∧ w'.cell? ⟨T, 5, none⟩ = some (.int .i64 r.lap.lo) ∧ w'.cell? ⟨T, 6, none⟩ = some (.int .i64 r.lap.hi) ∧ w'.cell? ⟨T, 7, none⟩ = some (.int .i64 r.wide) ∧ w'.cell? ⟨T, 8, none⟩ = some (.int .i64 r.uses)) (go_keep)
        (first
          | (go_at_call 53; obtain ⟨hcall, hbef⟩ := HC6.out _ o (some ⟨g, 0, none⟩) oc Q1.out.2.1 Q1.out.2.2.1 Q1.out.2.2.2.1 Q1.out.1.sl Q1.out.2.2.2.2.ints; refine hcall.mono ?_; clear hcall; rintro e Y2 ⟨ba2, bcap2, rfl, h1, _, hb⟩; have Q2 : Hid (YI w T B r sa xs pa YR a2 n2 cap2 (6 * q + 6) Y2 ∧ IntSl Y2 ba2 (rulesL (judgeM xs r o)) ∧ beforeB (rulesL (judgeM xs r o)) YR = false) := ⟨Q1.out.1.below hb, h1, hbef⟩; clear h1 hb hbef; have f0 := blk_cell Q2.out.1.t 0 rfl; have f1 := blk_cell Q2.out.1.t 1 rfl; have f2 := blk_cell Q2.out.1.t 2 rfl; have f3 := blk_cell Q2.out.1.t 3 rfl; have f4 := blk_cell Q2.out.1.t 4 rfl; have f5 := blk_cell Q2.out.1.t 5 rfl; have f6 := blk_cell Q2.out.1.t 6 rfl; have f7 := blk_cell Q2.out.1.t 7 rfl; have f8 := blk_cell Q2.out.1.t 8 rfl)
          | (go_at_call 58; refine (picked_int B (B + 1) a2 n2 cap2 (6 * q) _ _ _ (HX.out.below ((Below.refl _ _).drew)).dk (by omega) ⟨by omega, by omega⟩ ⟨hla.1, by omega⟩).mono ?_; rintro e Y1 ⟨g, oc, o, rfl, ol, oi, op, orow, hD, hA⟩; have Q1 : Hid (YI w T B r sa xs pa YR a2 n2 cap2 (6 * q + 6) Y1 ∧ (o.length : Int) = r.laps ∧ (∀ i ∈ o, 0 ≤ i ∧ i < (xs.length : Int)) ∧ o.Pairwise (fun x y => x ≤ y) ∧ RowI Y1 g o) := ⟨(HX.out.below ((Below.refl _ _).drew)).step hA hD, ol, oi, op, orow⟩; clear ol oi op orow hD hA; have e0 := blk_cell Q1.out.1.t 0 rfl; have e1 := blk_cell Q1.out.1.t 1 rfl; have e2 := blk_cell Q1.out.1.t 2 rfl; have e3 := blk_cell Q1.out.1.t 3 rfl; have e4 := blk_cell Q1.out.1.t 4 rfl; have e5 := blk_cell Q1.out.1.t 5 rfl; have e6 := blk_cell Q1.out.1.t 6 rfl; have e7 := blk_cell Q1.out.1.t 7 rfl; have e8 := blk_cell Q1.out.1.t 8 rfl))
      all_goals (
        clear c0 c1 c2 c3 c4 c5 c6 c7 c8 e0 e1 e2 e3 e4 e5 e6 e7 e8 f0 f1 f2 f3 f4 f5 f6 f7 f8 HX Q1
        generalize rulesL (judgeM xs r o) = b at Q2 ⊢
        have hbef := Q2.out.2.2
        by_cases hbl : b.length = YR.length
        · have hc : ¬ cmpL b YR < 0 := by
            have := before_no.1 hbef
            rcases this with h | h
            · omega
            · have := h.2; omega
          have hcall : Hid (Calls Tryz.prog 62 #[.slice ba2 YR.length bcap2, .slice pa YR.length pcap] Y2 (fun e w' => e = .returned (.int .i64 (cmpL b YR)) ∧ Below Y2.heap.size Y2 w')) := by
            have h := compare_any ba2 b bcap2 pa YR pcap Y2 Q2.out.2.1 Q2.out.1.ys (by have := HY5.out; omega)
            rw [hbl] at h
            exact h
          rw [hbl]
          clear hbef hbl
          go_wp2_with (fail)
          refine hcall.out.mono ?_
          rintro e Y3 ⟨rfl, hb⟩
          have Q3 := Lib.hid (Q2.out.1.below hb)
          clear hb Q2 hcall
          generalize cmpL b YR = cv at hc ⊢
          go_wp2_with (fail)
          go_roundw
          case rel => exact ⟨q + 1, by omega, by go_num, Q3.out.mono (by omega)⟩
          case measure => first | (simp [intOf]; done) | (simp [intOf]; omega)
        · have hgt : YR.length < b.length := by
            have := before_no.1 hbef
            rcases this with h | h
            · exact h
            · exact absurd h.1 hbl
          clear hbef
          go_wp2_with (fail)
          go_roundw
          case rel => exact ⟨q + 1, by omega, by go_num, Q2.out.1.mono (by omega)⟩
          case measure => first | (simp [intOf]; done) | (simp [intOf]; omega))
    · have H8 := Lib.hid hX.out
      have hy5 : YR.length ≤ 5 := HY5.out
      clear hX H7
      go_wp2_with (fail)
      generalize Value.int IntKind.i64 (q : Int) = u55
      clear hlq
      go_loopw [15] (fun v W => ∃ (m : Nat), v = .int .i64 ((m : Int) - 1) ∧ m ≤ YR.length + 1 ∧ Hid (Below V.heap.size V W)) (fun v _ => YR.length + 1 - (intOf v + 1).toNat)
      case atStart => exact ⟨0, rfl, by omega, Below.refl _ _⟩
      case round =>
        obtain ⟨m, rfl, hm, hW⟩ := hrel
        obtain ⟨U, hU⟩ : ∃ U, U = wr := ⟨_, rfl⟩
        subst hU
        by_cases hlm : (m : Int) - 1 < YR.length
        · have HY := Lib.hid (H8.out.below hW.out)
          have c0 := blk_cell HY.out.t 0 rfl
          have c1 := blk_cell HY.out.t 1 rfl
          have c2 := blk_cell HY.out.t 2 rfl
          have c3 := blk_cell HY.out.t 3 rfl
          have c4 := blk_cell HY.out.t 4 rfl
          have c5 := blk_cell HY.out.t 5 rfl
          have c6 := blk_cell HY.out.t 6 rfl
          have c7 := blk_cell HY.out.t 7 rfl
          have c8 := blk_cell HY.out.t 8 rfl
          go_upto_region 17 with (fail)
          obtain ⟨T2, hT2⟩ : ∃ T2, U.heap.size = T2 := ⟨_, rfl⟩
          have H9 : Hid (Below U.heap.size U (U.alloc (.cells #[.int .i64 r.laps, .int .i64 r.len.lo, .int .i64 r.len.hi, .int .i64 r.climb.lo, .int .i64 r.climb.hi, .int .i64 r.lap.lo, .int .i64 r.lap.hi, .int .i64 r.wide, .int .i64 r.uses] 26)) ∧ RuAt (U.alloc (.cells #[.int .i64 r.laps, .int .i64 r.len.lo, .int .i64 r.len.hi, .int .i64 r.climb.lo, .int .i64 r.climb.hi, .int .i64 r.lap.lo, .int .i64 r.lap.hi, .int .i64 r.wide, .int .i64 r.uses] 26)) T2 (wideTo r YR ((m : Int) - 1) 0)) := ⟨alloc1 U _, by rw [← hT2]; exact heap_alloc_new U _⟩
          have HT2 : Hid (U.heap.size ≤ T2) := Nat.le_of_eq hT2
          rw [hT2]
          clear hT2 c0 c1 c2 c3 c4 c5 c6 c7 c8
          generalize U.alloc (.cells #[.int .i64 r.laps, .int .i64 r.len.lo, .int .i64 r.len.hi, .int .i64 r.climb.lo, .int .i64 r.climb.hi, .int .i64 r.lap.lo, .int .i64 r.lap.hi, .int .i64 r.wide, .int .i64 r.uses] 26) = U1 at H9 ⊢
          go_wp2_with (fail)
          go_loopw [101] (fun v W => ∃ (j : Nat), j ≤ YR.length ∧ v = .int .i64 j ∧ Hid (RuAt W T2 (wideTo r YR ((m : Int) - 1) j) ∧ Below U.heap.size U W)) (fun v _ => YR.length - (intOf v).toNat)
          case atStart => exact ⟨0, Nat.zero_le _, rfl, H9.out.2, H9.out.1⟩
          case round =>
            obtain ⟨j, hj, rfl, hJ⟩ := hrel
            obtain ⟨X, hX⟩ : ∃ X, X = wr := ⟨_, rfl⟩
            subst hX
            by_cases hlj : j < YR.length
            · obtain ⟨yb, yo, rfl, hbs, hcc⟩ := HY.out.ys (by omega)
              have y := (hJ.out.2.cell (p := ⟨yb, yo + j, none⟩) hbs).trans (hcc j hlj)
              clear hcc hbs
              have HE : Hid (wideTo r YR ((m : Int) - 1) (j + 1) = if (j : Int) = (m : Int) - 1 then wideTo r YR ((m : Int) - 1) j else wideS (wideTo r YR ((m : Int) - 1) j) (YR[j]?.getD 0)) := by
                show wideTo r YR _ (j + 1) = _
                rw [wideTo]
              generalize YR[j]?.getD 0 = x at y HE
              by_cases hs : (j : Int) = (m : Int) - 1
              · have HN : Hid (RuAt X T2 (wideTo r YR ((m : Int) - 1) (j + 1)) ∧ Below U.heap.size U X) := by
                  have h := hJ.out
                  rw [HE.out, if_pos hs]; exact h
                have hsb : ((j : Int) == (m : Int) - 1) = true := by rw [beq_iff_eq]; exact hs
                clear hs hJ HE
                go_wp2_with (fail)
                go_roundw
                case rel => exact ⟨j + 1, by omega, by go_num, HN.out⟩
                case measure => first | (simp [intOf]; done) | (simp [intOf]; omega)
              · have hsb : ((j : Int) == (m : Int) - 1) = false := by rw [beq_eq_false_iff_ne]; exact hs
                rw [if_neg hs] at HE
                clear hs
                generalize wideTo r YR ((m : Int) - 1) j = rr at hJ HE
                by_cases hx0 : x = 0
                · subst hx0
                  rw [show wideS rr 0 = { rr with len := ⟨0, 200000⟩ } from rfl] at HE
                  go_wp2_with (fail)
                  refine (span_any 0 200000 _).mono ?_
                  rintro e X1 ⟨rfl, hw⟩
                  have hb1 := alloc1 X (.cells #[.int .i64 0, .int .i64 200000] 24)
                  rw [hw] at hb1
                  have J1 : Hid (RuAt X1 T2 rr ∧ Below U.heap.size U X1) := ⟨hJ.out.1.below hb1, below_self hJ.out.2 hb1⟩
                  clear hb1 hw hJ
                  have y0 := blk_cell J1.out.1 1 rfl
                  have y1 := blk_cell J1.out.1 2 rfl
                  have z0 := blk_free (j := 1) J1.out.1
                  have z1 := blk_free (j := 2) J1.out.1
                  have HN : Hid (RuAt ((X1.setCell ⟨T2, 1, none⟩ (.int .i64 0)).setCell ⟨T2, 2, none⟩ (.int .i64 200000)) T2 (wideTo r YR ((m : Int) - 1) (j + 1)) ∧ Below U.heap.size U ((X1.setCell ⟨T2, 1, none⟩ (.int .i64 0)).setCell ⟨T2, 2, none⟩ (.int .i64 200000))) := by
                    refine ⟨?_, (J1.out.2.setCell (p := ⟨T2, _, none⟩) HT2.out _).setCell (p := ⟨T2, _, none⟩) HT2.out _⟩
                    rw [HE.out]
                    exact blk_setCell (j := 2) (u := .int .i64 200000) (blk_setCell (j := 1) (u := .int .i64 0) J1.out.1)
                  go_wp2_with (fail)
                  go_roundw
                  case rel => exact ⟨j + 1, by omega, by go_num, HN.out⟩
                  case measure => first | (simp [intOf]; done) | (simp [intOf]; omega)
                by_cases hx1 : x = 1
                · subst hx1
                  rw [show wideS rr 1 = { rr with climb := ⟨0, 200000⟩ } from rfl] at HE
                  go_wp2_with (fail)
                  refine (span_any 0 200000 _).mono ?_
                  rintro e X1 ⟨rfl, hw⟩
                  have hb1 := alloc1 X (.cells #[.int .i64 0, .int .i64 200000] 24)
                  rw [hw] at hb1
                  have J1 : Hid (RuAt X1 T2 rr ∧ Below U.heap.size U X1) := ⟨hJ.out.1.below hb1, below_self hJ.out.2 hb1⟩
                  clear hb1 hw hJ
                  have y0 := blk_cell J1.out.1 3 rfl
                  have y1 := blk_cell J1.out.1 4 rfl
                  have z0 := blk_free (j := 3) J1.out.1
                  have z1 := blk_free (j := 4) J1.out.1
                  have HN : Hid (RuAt ((X1.setCell ⟨T2, 3, none⟩ (.int .i64 0)).setCell ⟨T2, 4, none⟩ (.int .i64 200000)) T2 (wideTo r YR ((m : Int) - 1) (j + 1)) ∧ Below U.heap.size U ((X1.setCell ⟨T2, 3, none⟩ (.int .i64 0)).setCell ⟨T2, 4, none⟩ (.int .i64 200000))) := by
                    refine ⟨?_, (J1.out.2.setCell (p := ⟨T2, _, none⟩) HT2.out _).setCell (p := ⟨T2, _, none⟩) HT2.out _⟩
                    rw [HE.out]
                    exact blk_setCell (j := 4) (u := .int .i64 200000) (blk_setCell (j := 3) (u := .int .i64 0) J1.out.1)
                  go_wp2_with (fail)
                  go_roundw
                  case rel => exact ⟨j + 1, by omega, by go_num, HN.out⟩
                  case measure => first | (simp [intOf]; done) | (simp [intOf]; omega)
                by_cases hx2 : x = 2
                · subst hx2
                  rw [show wideS rr 2 = { rr with lap := ⟨0, 200000⟩ } from rfl] at HE
                  go_wp2_with (fail)
                  refine (span_any 0 200000 _).mono ?_
                  rintro e X1 ⟨rfl, hw⟩
                  have hb1 := alloc1 X (.cells #[.int .i64 0, .int .i64 200000] 24)
                  rw [hw] at hb1
                  have J1 : Hid (RuAt X1 T2 rr ∧ Below U.heap.size U X1) := ⟨hJ.out.1.below hb1, below_self hJ.out.2 hb1⟩
                  clear hb1 hw hJ
                  have y0 := blk_cell J1.out.1 5 rfl
                  have y1 := blk_cell J1.out.1 6 rfl
                  have z0 := blk_free (j := 5) J1.out.1
                  have z1 := blk_free (j := 6) J1.out.1
                  have HN : Hid (RuAt ((X1.setCell ⟨T2, 5, none⟩ (.int .i64 0)).setCell ⟨T2, 6, none⟩ (.int .i64 200000)) T2 (wideTo r YR ((m : Int) - 1) (j + 1)) ∧ Below U.heap.size U ((X1.setCell ⟨T2, 5, none⟩ (.int .i64 0)).setCell ⟨T2, 6, none⟩ (.int .i64 200000))) := by
                    refine ⟨?_, (J1.out.2.setCell (p := ⟨T2, _, none⟩) HT2.out _).setCell (p := ⟨T2, _, none⟩) HT2.out _⟩
                    rw [HE.out]
                    exact blk_setCell (j := 6) (u := .int .i64 200000) (blk_setCell (j := 5) (u := .int .i64 0) J1.out.1)
                  go_wp2_with (fail)
                  go_roundw
                  case rel => exact ⟨j + 1, by omega, by go_num, HN.out⟩
                  case measure => first | (simp [intOf]; done) | (simp [intOf]; omega)
                by_cases hx3 : x = 3
                · subst hx3
                  rw [show wideS rr 3 = { rr with wide := 1 } from rfl] at HE
                  have y0 := blk_cell hJ.out.1 7 rfl
                  have z0 := blk_free (j := 7) hJ.out.1
                  have HN : Hid (RuAt (X.setCell ⟨T2, 7, none⟩ (.int .i64 1)) T2 (wideTo r YR ((m : Int) - 1) (j + 1)) ∧ Below U.heap.size U (X.setCell ⟨T2, 7, none⟩ (.int .i64 1))) := by
                    refine ⟨?_, hJ.out.2.setCell (p := ⟨T2, _, none⟩) HT2.out _⟩
                    rw [HE.out]
                    exact blk_setCell (j := 7) (u := .int .i64 1) hJ.out.1
                  go_wp2_with (fail)
                  go_roundw
                  case rel => exact ⟨j + 1, by omega, by go_num, HN.out⟩
                  case measure => first | (simp [intOf]; done) | (simp [intOf]; omega)
                rw [show wideS rr x = { rr with uses := 6 } from by unfold wideS; rw [if_neg hx0, if_neg hx1, if_neg hx2, if_neg hx3]] at HE
                have y0 := blk_cell hJ.out.1 8 rfl
                have z0 := blk_free (j := 8) hJ.out.1
                have HN : Hid (RuAt (X.setCell ⟨T2, 8, none⟩ (.int .i64 6)) T2 (wideTo r YR ((m : Int) - 1) (j + 1)) ∧ Below U.heap.size U (X.setCell ⟨T2, 8, none⟩ (.int .i64 6))) := by
                  refine ⟨?_, hJ.out.2.setCell (p := ⟨T2, _, none⟩) HT2.out _⟩
                  rw [HE.out]
                  exact blk_setCell (j := 8) (u := .int .i64 6) hJ.out.1
                go_wp2_with (fail)
                go_roundw
                case rel => exact ⟨j + 1, by omega, by go_num, HN.out⟩
                case measure => first | (simp [intOf]; done) | (simp [intOf]; omega)
            · obtain rfl : j = YR.length := by omega
              obtain ⟨hg1, hg2⟩ := HGU.out ((m : Int) - 1) ⟨by omega, hlm⟩
              generalize wideTo r YR ((m : Int) - 1) YR.length = rq at hJ hg1 hg2
              generalize rightL xs rq = R at hg1 hg2
              have HCA : Hid (∀ W, Sl 3 Lp.cells W sa xs → Calls Tryz.prog 50 #[.slice sa xs.length sc, rq.v] W (OutCs W R 0)) := fun W hW => by
                have h := all_any sa xs sc rq W hW (by omega)
                unfold AllOut at h
                rw [hg1] at h
                exact h
              clear hg1
              have HZ := Lib.hid (HY.out.below hJ.out.2)
              have c0 := blk_cell hJ.out.1 0 rfl
              have c1 := blk_cell hJ.out.1 1 rfl
              have c2 := blk_cell hJ.out.1 2 rfl
              have c3 := blk_cell hJ.out.1 3 rfl
              have c4 := blk_cell hJ.out.1 4 rfl
              have c5 := blk_cell hJ.out.1 5 rfl
              have c6 := blk_cell hJ.out.1 6 rfl
              have c7 := blk_cell hJ.out.1 7 rfl
              have c8 := blk_cell hJ.out.1 8 rfl
              go_wp2_with (fail)
              clear c0 c1 c2 c3 c4 c5 c6 c7 c8
              refine (HCA.out X HZ.out.sl).mono ?_
              rintro e X2 ⟨la, lcap, rfl, h1, hb⟩
              have HN : Hid (Below V.heap.size V X2) := below_self hW.out (below_self hJ.out.2 hb)
              clear h1 hb HCA HZ hJ
              by_cases h0 : m = 0
              · have hp : 0 < R.length := hg2.2 (by omega)
                clear hg2
                go_wp2_with (fail)
                go_roundw
                case rel => exact ⟨m + 1, by congr 1; omega, by omega, HN.out⟩
                case measure => first | (simp [intOf]; done) | (simp [intOf]; omega)
              · have hp : R.length = 0 := by
                  have := fun (h : 0 < R.length) => h0 (by have := hg2.1 h; omega)
                  omega
                clear hg2
                go_wp2_with (fail)
                go_roundw
                case rel => exact ⟨m + 1, by congr 1; omega, by omega, HN.out⟩
                case measure => first | (simp [intOf]; done) | (simp [intOf]; omega)
        · have HN := Lib.hid (H8.out.below hW.out)
          clear hW H8
          go_wp2_with (fail)
          refine (awake_any U).mono ?_
          rintro e UA ⟨rfl, hb⟩
          have GA : Hid (Below w.heap.size w UA) := below_self HN.out.b hb
          clear hb HN
          go_wp2_with (fail)
          go_ret
          exact ⟨rfl, GA.out⟩
end Go.Proofs.YtgldfnkjfgcjpaaGreat
