/-
  The contract of Yield over this seat's program.
  What is proved: it hands back the fewest rules to be given up and the first course for them, or the error; nothing that was there before has turned.
  Conditions: slices of at most 1000000 elements.
-/
import Derived.Test.YtkmcdmidegcbaaaAK
import Derived.Test.YtkmcdmidegcbaaaR
namespace Go.Proofs.Ytkmcdmidegcbaaa
open Go.RowKit Go.Shelf
attribute [local go_sem] Oper.semAt_some

/-- One course more. -/
def yStep (xs : List Lp) (r : Ru) (st : Option (List Int × List Int)) (c : List Int) : Option (List Int × List Int) :=
  match st with
  | none => some (rulesL (judgeM xs r c), c)
  | some (b, f) => if beforeB (rulesL (judgeM xs r c)) b = true then some (rulesL (judgeM xs r c), c) else some (b, f)
def yOf (xs : List Lp) (r : Ru) (cs : List (List Int)) : Option (List Int × List Int) := cs.foldl (yStep xs r) none
theorem yOf_snoc (xs : List Lp) (r : Ru) (cs : List (List Int)) (c : List Int) : yOf xs r (cs ++ [c]) = yStep xs r (yOf xs r cs) c := by simp [yOf]
def yPair (st : Option (List Int × List Int)) : List Int × List Int × Int := match st with | none => ([], [], 0) | some (b, f) => (b, f, 0)
def yieldR (xs : List Lp) (r : Ru) : List Int × List Int × Int :=
  if checkE xs r = 0 then yPair (yOf xs r (extC xs.length r.laps.toNat [] 0)) else ([], [], checkE xs r)

/-- A call that hands back rules, a course and an error; nothing that was there before it has turned. -/
def OutY (w : World) (x : List Int × List Int × Int) (e : Ending) (w' : World) : Prop := ∃ a ca b cb, e = .returned (.tuple #[.slice a x.1.length ca, .slice b x.2.1.length cb, .int .i64 x.2.2]) ∧ IntSl w' a x.1 ∧ IntSl w' b x.2.1 ∧ Below w.heap.size w w'
theorem OutY.nil {w w' : World} {err : Int} {e : Ending} (he : e = .returned (.tuple #[.slice none 0 0, .slice none 0 0, .int .i64 err])) (hb : Below w.heap.size w w') : OutY w ([], [], err) e w' :=
  ⟨none, 0, none, 0, he, (fun h => by simp at h), (fun h => by simp at h), hb⟩

/-- What Yield's loop keeps. -/
structure YInv (W0 : World) (st : Option (List Int × List Int)) (W : World) : Prop where
  b : Below W0.heap.size W0 W
  best : match st with
    | none => W.heap[W0.heap.size]? = some (.cells #[.slice none 0 0] 39 (0, 0)) ∧ W.heap[W0.heap.size + 1]? = some (.cells #[.slice none 0 0] 136 (0, 0))
    | some (rs, c) => ∃ (p : Option Addr) (pcap : Nat) (q : Addr) (cap : Nat), W.heap[W0.heap.size]? = some (.cells #[.slice p rs.length pcap] 39 (0, 0)) ∧ W.heap[W0.heap.size + 1]? = some (.cells #[.slice (some q) c.length cap] 136 (0, 0)) ∧ IntSl W p rs ∧ (∀ x, p = some x → W0.heap.size + 10 ≤ x.block) ∧ IntSl W (some q) c ∧ W0.heap.size + 10 ≤ q.block

theorem YInv.apart {W0 W W' : World} {st : Option (List Int × List Int)} (h : YInv W0 st W) (ha : Apart (intv 6 (W0.heap.size + 4)) W W') : YInv W0 st W' := by
  have hk : ∀ k, k < W0.heap.size + 4 ∨ W0.heap.size + 10 ≤ k → k < W.heap.size → W'.heap[k]? = W.heap[k]? := fun k h1 h2 => ha.block k h2 (fun h3 => by have := h3.1; have := h3.2; omega)
  refine ⟨h.b.trans ⟨ha.os, ha.tape, ha.output, ha.size, fun k hk' => hk k (by omega) (Nat.lt_of_lt_of_le hk' h.b.size)⟩, ?_⟩
  have hb := h.best
  cases st with
  | none => exact ⟨(hk _ (by omega) (lt_of_block hb.1)).trans hb.1, (hk _ (by omega) (lt_of_block hb.2)).trans hb.2⟩
  | some s =>
    obtain ⟨p, pcap, q, cap, h1, h2, h3, h4, h5, h6⟩ := hb
    exact ⟨p, pcap, q, cap, (hk _ (by omega) (lt_of_block h1)).trans h1, (hk _ (by omega) (lt_of_block h2)).trans h2, ints_same h3 ha.size (fun x hx hl => hk _ (.inr (h4 x hx)) hl), h4, ints_same h5 ha.size (fun p hp hl => by cases hp; exact hk _ (.inr h6) hl), h6⟩

theorem YInv.put {w1 W1 w2 : World} {st : Option (List Int × List Int)} (hC : YInv w1 st W1) (hb2 : Below W1.heap.size W1 w2) {v0 v1 : Value} (e0 : W1.heap[w1.heap.size]? = some (.cells #[v0] 39 (0, 0))) (e1 : W1.heap[w1.heap.size + 1]? = some (.cells #[v1] 136 (0, 0)))
    {rs c : List Int} {p : Option Addr} {pcap : Nat} {q : Addr} {cap : Nat} (hP : IntSl w2 p rs) (hp : ∀ x, p = some x → w1.heap.size + 10 ≤ x.block) (hI : IntSl w2 (some q) c) (hq : w1.heap.size + 10 ≤ q.block) :
    YInv w1 (some (rs, c)) ((w2.setCell ⟨w1.heap.size, 0, none⟩ (.slice p rs.length pcap)).setCell ⟨w1.heap.size + 1, 0, none⟩ (.slice (some q) c.length cap)) := by
  have key : ∀ (k : Nat), w1.heap.size + 10 ≤ k → ((w2.setCell ⟨w1.heap.size, 0, none⟩ (.slice p rs.length pcap)).setCell ⟨w1.heap.size + 1, 0, none⟩ (.slice (some q) c.length cap)).heap[k]? = w2.heap[k]? := fun k hk =>
    (Below.heap_setCell _ _ _ _ (by show k ≠ w1.heap.size + 1; omega)).trans (Below.heap_setCell _ _ _ _ (by show k ≠ w1.heap.size; omega))
  refine ⟨((hC.b.trans (hb2.mono hC.b.size)).setCell (p := ⟨w1.heap.size, 0, none⟩) (Nat.le_refl _) _).setCell (p := ⟨w1.heap.size + 1, 0, none⟩) (by show w1.heap.size ≤ w1.heap.size + 1; omega) _, p, pcap, q, cap, blk_other (blk_setCell (blk_below e0 hb2)) (by omega), blk_setCell (blk_other (blk_below e1 hb2) (by omega)), ?_, hp, ?_, hq⟩
  · refine ints_same hP (by rw [World.size_setCell, World.size_setCell]; exact Nat.le_refl _) (fun x hx _ => key _ (hp x hx))
  · refine ints_same hI (by rw [World.size_setCell, World.size_setCell]; exact Nat.le_refl _) (fun x hx _ => by cases hx; exact key _ hq)

set_option maxHeartbeats 800000 in
set_option maxRecDepth 100000 in
theorem yield_in (n : Nat) (a : Option Addr) (xs : List Lp) (cap : Nat) (r : Ru) (w : World) (hx : Sl 3 Lp.cells w a xs) (hl : xs.length ≤ 1000000) :
    CallsIn Fence.wide n Try.prog 30 #[.slice a xs.length cap, r.v] w (OutY w (yieldR xs r)) := by
  have q136 : ∀ (w : World) (a : Option Addr) (n c n' c' : Nat), (binOp .eql 136 (.slice a n c) (.slice none n' c')).run Try.prog w = .ok (.bool a.isNone) w := fun w a n c n' c' => Lib.run_eql_slice_nil w _ _ a n c n' c' Try.underlying136
  obtain ⟨Wa, hWa⟩ : ∃ Wa, (w.alloc (.cells #[.slice a xs.length cap] 22)).alloc r.o = Wa := ⟨_, rfl⟩
  have hba : Below w.heap.size w Wa := by rw [← hWa]; exact ((Below.refl _ _).alloc (Nat.le_refl _) _).alloc (by simp) _
  have h0 : Wa.heap[w.heap.size]? = some (.cells #[.slice a xs.length cap] 22 (0, 0)) := by rw [← hWa]; exact alk (new_at rfl)
  have h1 : RuAt Wa (w.heap.size + 1) r := by rw [← hWa]; exact new_at (by simp)
  refine callsIn_of_wp_marks Try.func30 rfl trivial ?_ rfl
  simp only [Try.ntmps30, List.size_toArray, List.length_cons, List.length_nil, Nat.reduceAdd, Nat.reduceSub, Array.replicate_succ, Array.replicate_zero, List.push_toArray, List.append_toArray, List.nil_append, List.cons_append]
  have t00 := blk_cell h0 0 rfl
  obtain ⟨d0, d1, d2, d3, d4, d5, d6, d7, d8⟩ := h1.cells
  gi_wp2_with fail
  clear hWa t00 d0 d1 d2 d3 d4 d5 d6 d7 d8
  refine ⟨trivial, (fun h => by cases h), ?_⟩
  refine (callsIn_wide.2 (check_any a xs cap r _ (hx.below hba) hl)).mono ?_
  rintro e w1 ⟨rfl, hb⟩
  have hb1 := below_self hba hb
  by_cases hck : checkE xs r = 0
  · have h1b : (checkE xs r != 0) = false := by simp [hck]
    have HR : Hid (yieldR xs r = yPair (yOf xs r (extC xs.length r.laps.toNat [] 0))) := by show _ = _; rw [yieldR, if_pos hck]
    have HCK := Lib.hid hck
    clear hck
    have t0 := blk_cell (blk_below h0 hb) 0 rfl
    obtain ⟨c0, c1, c2, c3, c4, c5, c6, c7, c8⟩ := (h1.below hb).cells
    have hz1 : w.heap.size + 2 ≤ w1.heap.size := by have := lt_of_block h1; have := hb.size; omega
    have hz2 : w.heap.size < w1.heap.size := by omega
    have hz3 : w.heap.size + 1 < w1.heap.size := by omega
    gi_wp2_with (refine ⟨trivial, (fun h => by cases h), ?_⟩; refine (callsIn_wide.2 (courses_any xs.length r.laps _)).mono ?_; rintro e w2 ⟨rfl, rfl⟩)
    have hal := (stad_ok (check_ok HCK.out).1).1
    have hl12 := (stad_ok (check_ok HCK.out).1).2
    have hab : ∀ p, a = some p → p.block < w.heap.size := sl_lt hx (by omega)
    have hs0 := blk_below h0 hb
    have hs1 := h1.below hb
    clear t0 c0 c1 c2 c3 c4 c5 c6 c7 c8
    obtain ⟨Wr, hWr⟩ : ∃ Wr, (((w1.alloc (.cells #[.slice none 0 0] 39)).alloc (.cells #[.slice none 0 0] 136)).alloc (.cells #[.int .i64 xs.length] 3)).alloc (.cells #[.int .i64 r.laps] 3) = Wr := ⟨_, rfl⟩
    have hzr : Wr.heap.size = w1.heap.size + 4 := by rw [← hWr]; simp
    have hbr : Below w1.heap.size w1 Wr := by rw [← hWr]; exact ((((Below.refl _ _).alloc (Nat.le_refl _) _).alloc (by simp) _).alloc (by simp <;> omega) _).alloc (by simp <;> omega) _
    have g0 : Wr.heap[w1.heap.size]? = some (.cells #[.slice none 0 0] 39 (0, 0)) := by rw [← hWr]; exact alk (alk (alk (new_at rfl)))
    have g1 : Wr.heap[w1.heap.size + 1]? = some (.cells #[.slice none 0 0] 136 (0, 0)) := by rw [← hWr]; exact alk (alk (new_at (by simp)))
    have g2 : Wr.heap[w1.heap.size + 1 + 1]? = some (.cells #[.int .i64 xs.length] 3 (0, 0)) := by rw [← hWr]; exact alk (new_at (by simp))
    have g3 : Wr.heap[w1.heap.size + 1 + 1 + 1]? = some (.cells #[.int .i64 ((r.laps.toNat : Nat) : Int)] 3 (0, 0)) := by rw [← (laps_nat HCK.out).1, ← hWr]; exact new_at (by simp)
    have hlap := (laps_nat HCK.out).2
    have hseq := courses1_seq xs.length r.laps.toNat (by omega) ⟨hlap.1, by omega⟩ (w1.heap.size + 1 + 1) (w1.heap.size + 1 + 1 + 1) Wr g2 g3
    have notOwn : ∀ j, w1.heap.size ≤ j → j < w1.heap.size + 2 → ¬ ownOf (fun k => k = w1.heap.size + 1 + 1 ∨ k = w1.heap.size + 1 + 1 + 1) (4 + 2) Wr.heap.size j := fun j h0 hj h => by
        rw [hzr] at h
        rcases h with (h | h) | h
        · omega
        · omega
        · omega
    have hext : ∀ c ∈ extC xs.length r.laps.toNat [] 0, c.length = r.laps.toNat ∧ ∀ i ∈ c, 0 ≤ i ∧ i < (xs.length : Int) := fun c hc => by simpa using extC_ok xs.length r.laps.toNat [] 0 (by simp) c hc
    generalize hS : extC xs.length r.laps.toNat [] 0 = S at hseq HR hext
    rw [hWr]
    clear hWr hS
    refine range_seqC (gf := 123) (lb := #[.pointer (some ⟨w1.heap.size + 1 + 1 + 1, 0, none⟩), .pointer (some ⟨w1.heap.size + 1 + 1, 0, none⟩)]) rfl eg123 hseq (Below.refl _ _) (fun k h => by
        rw [hzr]
        rcases h with h | h <;> omega)
      (fun pre W' => YInv w1 (yOf xs r pre) W') (fun _ _ => False)
      (fun s A B h hap => h.apart (by rw [hzr] at hap; exact hap)) (fun _ _ _ h _ => h)
      ⟨hbr, g0, g1⟩
      (fun v => { tmps := #[.slice a xs.length cap, r.v, .pointer (some ⟨w.heap.size, 0, none⟩), .pointer (some ⟨w.heap.size + 1, 0, none⟩), .slice none 0 0, .slice none 0 0, .int .i64 0, .int .i64 (checkE xs r), .pointer (some ⟨w1.heap.size, 0, none⟩), .pointer (some ⟨w1.heap.size + 1, 0, none⟩), v, undef, .slice a xs.length cap, r.v, .int .i64 (checkE xs r), .int .i64 (checkE xs r), .bool false, undef, .slice a xs.length cap, .int .i64 xs.length, .pointer (some ⟨w.heap.size + 1, 0, none⟩), .int .i64 r.laps, .func (.func 123) #[] #[.pointer (some ⟨w1.heap.size + 1 + 1 + 1, 0, none⟩), .pointer (some ⟨w1.heap.size + 1 + 1, 0, none⟩)], v, undef, undef, undef, undef, undef, undef, undef, undef, undef, undef, undef, undef, undef, undef, undef, undef], defers := [] })
      ?assign ?body ?done ?stop
    case assign =>
      intro l k v W K hK
      gi_wp2
      exact hK
    case body =>
      rintro l2 k pre c av ccap W1 hC hpre hsl hty hfr
      have hcS : c ∈ S := hpre.subset (by simp)
      obtain ⟨hcl, hci⟩ := hext c hcS
      have HCI := Lib.hid hci
      clear hci hext
      have hc1 : 0 < c.length := by omega
      have hc2 : c.length ≤ 1000000 := by omega
      have HST : Hid (yOf xs r (pre ++ [c]) = yStep xs r (yOf xs r pre) c) := yOf_snoc _ _ _ _
      clear hcl hcS hpre
      obtain ⟨qb, qo, hav, hqb, hqc⟩ := hsl hc1
      subst hav
      have hq10 : w1.heap.size + 10 ≤ qb := by have := hfr _ rfl; rw [hzr] at this; have : w1.heap.size + 4 + 2 + 4 ≤ qb := this; omega
      clear hqc hfr
      have s0 := blk_cell (blk_below hs0 hC.b) 0 rfl
      obtain ⟨c0, c1, c2, c3, c4, c5, c6, c7, c8⟩ := (hs1.below hC.b).cells
      have hxW := hx.below (below_self hb1 hC.b)
      generalize hst : yOf xs r pre = st at hC HST
      clear hst
      have hbest := hC.best
      have HW := Lib.hid (And.intro hxW (And.intro hsl (And.intro hal (And.intro hl12 hc2))))
      have HQ : Hid (w1.heap.size + 10 ≤ qb ∧ qb < W1.heap.size) := ⟨hq10, hqb⟩
      cases st with
      | none =>
        obtain ⟨e0, e1⟩ := hbest
        have HF : Hid (yOf xs r (pre ++ [c]) = some (rulesL (judgeM xs r c), c)) := HST.out
        gi_wp2_with (first
          | (refine ⟨trivial, (fun h => by cases h), ?_⟩; gi_at_call 76; refine (CallsIn.inRound l2 (callsIn_wide.2 (judge_any a xs cap r (some ⟨qb, qo, none⟩) c ccap _ HW.out.1 HW.out.2.1 (by have := HW.out.2.2.2.1; omega) HW.out.2.2.2.2 HW.out.2.2.1 HCI.out))).mono ?_; rintro e w2 ⟨rfl, hb2⟩)
          | (refine ⟨trivial, (fun h => by cases h), ?_⟩; gi_at_call 77; refine (CallsIn.inRound l2 (callsIn_wide.2 (rules_any (judgeM xs r c) _))).mono ?_; rintro e w3 ⟨p3, pcap3, rfl, hI3, hf3, hb3⟩; have hb23 := below_self hb2 hb3; have f0 := blk_cell (blk_below e0 hb23) 0 rfl; have f1 := blk_free (j := 0) (blk_below e0 hb23); have f2 := blk_cell (blk_below e1 hb23) 0 rfl; have f3 := blk_free (j := 0) (blk_below e1 hb23)))
        refine ⟨trivial, ?_⟩
        gi_wp2
        refine ⟨((Keeps.of_below hb23).trans (Keeps.setCell _ (q := ⟨w1.heap.size, 0, none⟩) (notOwn (w1.heap.size) (by omega) (by omega)) _)).trans (Keeps.setCell _ (q := ⟨w1.heap.size + 1, 0, none⟩) (notOwn (w1.heap.size + 1) (by omega) (by omega)) _), ?_⟩
        show YInv w1 (yOf xs r (pre ++ [c])) _
        rw [HF.out]
        exact hC.put hb23 e0 e1 hI3 (fun x hx => by have h1 := hf3 x hx; have h2 := hb2.size; have h3 := HQ.out; omega) (hsl.below hb23) hq10
      | some s =>
        obtain ⟨rs, f⟩ := s
        obtain ⟨p, pcap, q, qcap, e0, e1, e2, e3, e4, e5⟩ := hbest
        have HE := Lib.hid (And.intro e2 e3)
        clear e2 e3
        cases hbf : beforeB (rulesL (judgeM xs r c)) rs
        · have HF : Hid (yOf xs r (pre ++ [c]) = some (rs, f)) := by show _ = _; rw [HST.out]; simp [yStep, hbf]
          gi_wp2_with (first
            | (refine ⟨trivial, (fun h => by cases h), ?_⟩; gi_at_call 76; refine (CallsIn.inRound l2 (callsIn_wide.2 (judge_any a xs cap r (some ⟨qb, qo, none⟩) c ccap _ HW.out.1 HW.out.2.1 (by have := HW.out.2.2.2.1; omega) HW.out.2.2.2.2 HW.out.2.2.1 HCI.out))).mono ?_; rintro e w2 ⟨rfl, hb2⟩)
            | (refine ⟨trivial, (fun h => by cases h), ?_⟩; gi_at_call 77; refine (CallsIn.inRound l2 (callsIn_wide.2 (rules_any (judgeM xs r c) _))).mono ?_; rintro e w3 ⟨p3, pcap3, rfl, hI3, hf3, hb3⟩; have hb23 := below_self hb2 hb3; have HI3 := Lib.hid hI3; clear hI3; have f0 := blk_cell (blk_below e0 hb23) 0 rfl; have f2 := blk_cell (blk_below e1 hb23) 0 rfl)
            | (refine ⟨trivial, (fun h => by cases h), ?_⟩; gi_at_call 84; refine (CallsIn.inRound l2 (callsIn_wide.2 (before_any p3 (rulesL (judgeM xs r c)) pcap3 p rs pcap _ HI3.out (HE.out.1.below hb23) (by have := rulesTo_le (judgeM xs r c).list 5; show (rulesTo _ 5).length ≤ _; omega)))).mono ?_; rintro e w4 ⟨rfl, hb4⟩; rw [hbf]; have hb24 := below_self hb23 hb4))
          refine ⟨Keeps.of_below hb24, ?_⟩
          show YInv w1 (yOf xs r (pre ++ [c])) _
          rw [HF.out]
          exact hC.apart (Apart.of_below hb24)
        · have HF : Hid (yOf xs r (pre ++ [c]) = some (rulesL (judgeM xs r c), c)) := by show _ = _; rw [HST.out]; simp [yStep, hbf]
          gi_wp2_with (first
            | (refine ⟨trivial, (fun h => by cases h), ?_⟩; gi_at_call 76; refine (CallsIn.inRound l2 (callsIn_wide.2 (judge_any a xs cap r (some ⟨qb, qo, none⟩) c ccap _ HW.out.1 HW.out.2.1 (by have := HW.out.2.2.2.1; omega) HW.out.2.2.2.2 HW.out.2.2.1 HCI.out))).mono ?_; rintro e w2 ⟨rfl, hb2⟩)
            | (refine ⟨trivial, (fun h => by cases h), ?_⟩; gi_at_call 77; refine (CallsIn.inRound l2 (callsIn_wide.2 (rules_any (judgeM xs r c) _))).mono ?_; rintro e w3 ⟨p3, pcap3, rfl, hI3, hf3, hb3⟩; have hb23 := below_self hb2 hb3; have HI3 := Lib.hid hI3; clear hI3; have f0 := blk_cell (blk_below e0 hb23) 0 rfl; have f2 := blk_cell (blk_below e1 hb23) 0 rfl)
            | (refine ⟨trivial, (fun h => by cases h), ?_⟩; gi_at_call 84; refine (CallsIn.inRound l2 (callsIn_wide.2 (before_any p3 (rulesL (judgeM xs r c)) pcap3 p rs pcap _ HI3.out (HE.out.1.below hb23) (by have := rulesTo_le (judgeM xs r c).list 5; show (rulesTo _ 5).length ≤ _; omega)))).mono ?_; rintro e w4 ⟨rfl, hb4⟩; rw [hbf]; have hb24 := below_self hb23 hb4; have hI4 := Lib.hid (HI3.out.below hb4); clear f0 f2; have f0 := blk_cell (blk_below e0 hb24) 0 rfl; have f1 := blk_free (j := 0) (blk_below e0 hb24); have f2 := blk_cell (blk_below e1 hb24) 0 rfl; have f3 := blk_free (j := 0) (blk_below e1 hb24)))
          refine ⟨((Keeps.of_below hb24).trans (Keeps.setCell _ (q := ⟨w1.heap.size, 0, none⟩) (notOwn (w1.heap.size) (by omega) (by omega)) _)).trans (Keeps.setCell _ (q := ⟨w1.heap.size + 1, 0, none⟩) (notOwn (w1.heap.size + 1) (by omega) (by omega)) _), ?_⟩
          show YInv w1 (yOf xs r (pre ++ [c])) _
          rw [HF.out]
          exact hC.put hb24 e0 e1 hI4.out (fun x hx => by have h1 := hf3 x hx; have h2 := hb2.size; have h3 := HQ.out; omega) (hsl.below hb24) hq10
    case done =>
      rintro W2 hC hK
      have hbest := hC.best
      have hB4 : Below w.heap.size w (W2.putObj Wr.heap.size (.deferred none)) := (below_self hb1 hC.b).trans ⟨rfl, rfl, rfl, by rw [putObj_size]; exact Nat.le_refl _, fun j hj => World.putObj_heap_other (by omega)⟩
      have HB4 := Lib.hid hB4
      clear hB4
      generalize yOf xs r S = st at hC HR hbest
      cases st with
      | none =>
        obtain ⟨e0, e1⟩ := hbest
        have f0 := blk_cell e0 0 rfl
        have f1 := blk_cell e1 0 rfl
        gi_wp2
        gi_region
        all_goals gi_wp2
        all_goals (try refine ⟨by simp, ?_⟩)
        all_goals refine .inl ⟨_, _, rfl, run_takeDeferred (show W2.drew.heap[_]? = _ from hK), ?_⟩
        all_goals (refine ⟨_, by simp [results, Try.results30, go_sem]; rfl, ?_⟩; rw [HR.out])
        all_goals exact OutY.nil rfl (by obtain ⟨x1, x2, x3, x4, x5⟩ := HB4.out; exact ⟨x1, x2, x3, x4, x5⟩)
      | some s =>
        obtain ⟨rs, f⟩ := s
        obtain ⟨p, pcap, q, qcap, e0, e1, e2, e3, e4, e5⟩ := hbest
        have f0 := blk_cell e0 0 rfl
        have f1 := blk_cell e1 0 rfl
        have HE := Lib.hid (And.intro e2 (And.intro e3 (And.intro e4 e5)))
        clear e2 e3 e4 e5
        gi_wp2
        gi_region
        all_goals gi_wp2
        all_goals (try refine ⟨by simp, ?_⟩)
        all_goals refine .inl ⟨_, _, rfl, run_takeDeferred (show W2.drew.heap[_]? = _ from hK), ?_⟩
        all_goals (refine ⟨_, by simp [results, Try.results30, go_sem]; rfl, ?_⟩; rw [HR.out])
        all_goals exact ⟨p, pcap, some q, qcap, rfl, ints_same HE.out.1 (by rw [putObj_size]; exact Nat.le_refl _) (fun x hx _ => World.putObj_heap_other (w := W2) (by have := HE.out.2.1 x hx; omega)), ints_same HE.out.2.2.1 (by rw [putObj_size]; exact Nat.le_refl _) (fun x hx _ => by cases hx; exact World.putObj_heap_other (w := W2) (by have := HE.out.2.2.2; omega)), (by obtain ⟨x1, x2, x3, x4, x5⟩ := HB4.out; exact ⟨x1, x2, x3, x4, x5⟩)⟩
    case stop =>
      rintro pre W2 _ h _
      exact h.elim
  · have h1b : (checkE xs r != 0) = true := by simp [hck]
    have HR2 : Hid (yieldR xs r = ([], [], checkE xs r)) := by show _ = _; rw [yieldR, if_neg hck]
    clear hck
    gi_wp2
    refine ⟨_, by simp [results, Try.results30, go_sem]; rfl, ?_⟩
    rw [HR2.out]
    exact OutY.nil rfl hb1
theorem yield_any (a : Option Addr) (xs : List Lp) (cap : Nat) (r : Ru) (w : World) (hx : Sl 3 Lp.cells w a xs) (hl : xs.length ≤ 1000000) :
    Calls Try.prog 30 #[.slice a xs.length cap, r.v] w (OutY w (yieldR xs r)) := callsIn_wide.1 (yield_in 0 a xs cap r w hx hl)
end Go.Proofs.Ytkmcdmidegcbaaa
