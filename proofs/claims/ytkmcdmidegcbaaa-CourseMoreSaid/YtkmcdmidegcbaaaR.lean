/-
  The contract of Cheapest over this seat's program.
  What is proved: it hands back the right course with the least snow, the first one of several, and its snow, or the error; nothing that was there before has turned.
  Conditions: slices of at most 1000000 elements.
-/
import Derived.Test.YtkmcdmidegcbaaaQ
namespace Go.Proofs.Ytkmcdmidegcbaaa
open Go.RowKit Go.Shelf
attribute [local go_sem] Oper.semAt_some

/-- One course more. -/
def bestStep (xs : List Lp) (depth : Int) (st : Option (List Int × Int)) (c : List Int) : Option (List Int × Int) :=
  match st with
  | none => some (c, snowL xs c depth)
  | some (b, m) => if snowL xs c depth < m then some (c, snowL xs c depth) else some (b, m)
def bestOf (xs : List Lp) (depth : Int) (cs : List (List Int)) : Option (List Int × Int) := cs.foldl (bestStep xs depth) none
theorem bestOf_snoc (xs : List Lp) (depth : Int) (cs : List (List Int)) (c : List Int) : bestOf xs depth (cs ++ [c]) = bestStep xs depth (bestOf xs depth cs) c := by simp [bestOf]

def cheapR (xs : List Lp) (r : Ru) (depth : Int) : List Int × Int × Int :=
  if checkE xs r = 0 then (if withinB depth 1 200 = true then (match bestOf xs depth (rightL xs r) with | none => ([], 0, 6) | some (b, m) => (b, m, 0)) else ([], 0, 3)) else ([], 0, checkE xs r)

/-- A call that hands back a course, a number and an error; nothing that was there before it has turned. -/
def OutC3 (w : World) (x : List Int × Int × Int) (e : Ending) (w' : World) : Prop := ∃ a cap, e = .returned (.tuple #[.slice a x.1.length cap, .int .i64 x.2.1, .int .i64 x.2.2]) ∧ IntSl w' a x.1 ∧ Below w.heap.size w w'
theorem OutC3.nil {w w' : World} {m err : Int} {e : Ending} (he : e = .returned (.tuple #[.slice none 0 0, .int .i64 m, .int .i64 err])) (hb : Below w.heap.size w w') : OutC3 w ([], m, err) e w' :=
  ⟨none, 0, he, (fun h => by simp at h), hb⟩

/-- What Cheapest's loop keeps. -/
structure BInv (W0 : World) (st : Option (List Int × Int)) (W : World) : Prop where
  b : Below W0.heap.size W0 W
  best : match st with
    | none => W.heap[W0.heap.size]? = some (.cells #[.slice none 0 0] 136 (0, 0)) ∧ W.heap[W0.heap.size + 1]? = some (.cells #[.int .i64 0] 3 (0, 0))
    | some (c, m) => ∃ (q : Addr) (cap : Nat), W.heap[W0.heap.size]? = some (.cells #[.slice (some q) c.length cap] 136 (0, 0)) ∧ W.heap[W0.heap.size + 1]? = some (.cells #[.int .i64 m] 3 (0, 0)) ∧ IntSl W (some q) c ∧ W0.heap.size + 15 ≤ q.block

theorem BInv.apart {W0 W W' : World} {st : Option (List Int × Int)} (h : BInv W0 st W) (ha : Apart (intv 11 (W0.heap.size + 4)) W W') : BInv W0 st W' := by
  have hk : ∀ k, k < W0.heap.size + 4 ∨ W0.heap.size + 15 ≤ k → k < W.heap.size → W'.heap[k]? = W.heap[k]? := fun k h1 h2 => ha.block k h2 (fun h3 => by have := h3.1; have := h3.2; omega)
  refine ⟨h.b.trans ⟨ha.os, ha.tape, ha.output, ha.size, fun k hk' => hk k (by omega) (Nat.lt_of_lt_of_le hk' h.b.size)⟩, ?_⟩
  have hb := h.best
  cases st with
  | none => exact ⟨(hk _ (by omega) (lt_of_block hb.1)).trans hb.1, (hk _ (by omega) (lt_of_block hb.2)).trans hb.2⟩
  | some p =>
    obtain ⟨q, cap, h1, h2, h3, h4⟩ := hb
    exact ⟨q, cap, (hk _ (by omega) (lt_of_block h1)).trans h1, (hk _ (by omega) (lt_of_block h2)).trans h2, ints_same h3 ha.size (fun p hp hl => by cases hp; exact hk _ (.inr h4) hl), h4⟩

theorem BInv.put {w1 W1 w2 : World} {st : Option (List Int × Int)} (hC : BInv w1 st W1) (hb2 : Below W1.heap.size W1 w2) {v0 v1 : Value} (e0 : W1.heap[w1.heap.size]? = some (.cells #[v0] 136 (0, 0))) (e1 : W1.heap[w1.heap.size + 1]? = some (.cells #[v1] 3 (0, 0)))
    {c : List Int} {m : Int} {q : Addr} {cap : Nat} (hI : IntSl w2 (some q) c) (hq : w1.heap.size + 15 ≤ q.block) :
    BInv w1 (some (c, m)) ((w2.setCell ⟨w1.heap.size, 0, none⟩ (.slice (some q) c.length cap)).setCell ⟨w1.heap.size + 1, 0, none⟩ (.int .i64 m)) := by
  refine ⟨((hC.b.trans (hb2.mono hC.b.size)).setCell (p := ⟨w1.heap.size, 0, none⟩) (Nat.le_refl _) _).setCell (p := ⟨w1.heap.size + 1, 0, none⟩) (by show w1.heap.size ≤ w1.heap.size + 1; omega) _, q, cap, blk_other (blk_setCell (blk_below e0 hb2)) (by omega), blk_setCell (blk_other (blk_below e1 hb2) (by omega)), ?_, hq⟩
  refine ints_same hI (by rw [World.size_setCell, World.size_setCell]; exact Nat.le_refl _) (fun p hp _ => ?_)
  cases hp
  exact (Below.heap_setCell _ _ _ _ (by show q.block ≠ w1.heap.size + 1; omega)).trans (Below.heap_setCell _ _ _ _ (by show q.block ≠ w1.heap.size; omega))

set_option maxHeartbeats 800000 in
set_option maxRecDepth 100000 in
theorem cheapest_in (n : Nat) (a : Option Addr) (xs : List Lp) (cap : Nat) (r : Ru) (depth : Int) (w : World) (hx : Sl 3 Lp.cells w a xs) (hl : xs.length ≤ 1000000) :
    CallsIn Fence.wide n Try.prog 63 #[.slice a xs.length cap, r.v, .int .i64 depth] w (OutC3 w (cheapR xs r depth)) := by
  have q136 : ∀ (w : World) (a : Option Addr) (n c n' c' : Nat), (binOp .eql 136 (.slice a n c) (.slice none n' c')).run Try.prog w = .ok (.bool a.isNone) w := fun w a n c n' c' => Lib.run_eql_slice_nil w _ _ a n c n' c' Try.underlying136
  obtain ⟨Wa, hWa⟩ : ∃ Wa, ((w.alloc (.cells #[.slice a xs.length cap] 22)).alloc r.o).alloc (.cells #[.int .i64 depth] 3) = Wa := ⟨_, rfl⟩
  have hba : Below w.heap.size w Wa := by rw [← hWa]; exact (((Below.refl _ _).alloc (Nat.le_refl _) _).alloc (by simp) _).alloc (by simp <;> omega) _
  have h0 : Wa.heap[w.heap.size]? = some (.cells #[.slice a xs.length cap] 22 (0, 0)) := by rw [← hWa]; exact alk (alk (new_at rfl))
  have h1 : RuAt Wa (w.heap.size + 1) r := by rw [← hWa]; exact alk (new_at (by simp))
  have h2 : Wa.heap[w.heap.size + 1 + 1]? = some (.cells #[.int .i64 depth] 3 (0, 0)) := by rw [← hWa]; exact new_at (by simp)
  refine callsIn_of_wp_marks Try.func63 rfl trivial ?_ rfl
  simp only [Try.ntmps63, List.size_toArray, List.length_cons, List.length_nil, Nat.reduceAdd, Nat.reduceSub, Array.replicate_succ, Array.replicate_zero, List.push_toArray, List.append_toArray, List.nil_append, List.cons_append]
  have t00 := blk_cell h0 0 rfl
  obtain ⟨d0, d1, d2, d3, d4, d5, d6, d7, d8⟩ := h1.cells
  gi_wp2_with fail
  clear hWa t00 d0 d1 d2 d3 d4 d5 d6 d7 d8
  refine ⟨trivial, (fun h => by cases h), ?_⟩
  refine (callsIn_wide.2 (check_any a xs cap r _ (hx.below hba) hl)).mono ?_
  rintro e w1 ⟨rfl, hb⟩
  have hb1 := below_self hba hb
  by_cases hck : checkE xs r = 0
  · have h1b : (checkE xs r != 0) = false := by simp [hck]
    have HR : Hid (cheapR xs r depth = (if withinB depth 1 200 = true then (match bestOf xs depth (rightL xs r) with | none => ([], 0, 6) | some (b, m) => (b, m, 0)) else ([], 0, 3) : List Int × Int × Int)) := by show _ = _; rw [cheapR, if_pos hck]
    have HCK := Lib.hid hck
    clear hck
    have t2 := blk_cell (blk_below h2 hb) 0 rfl
    cases hd : withinB depth 1 200
    · have HR2 : Hid (cheapR xs r depth = ([], 0, 3)) := by show _ = _; rw [HR.out, hd]; rfl
      gi_wp2_with (refine ⟨trivial, (fun h => by cases h), ?_⟩; refine (callsIn_wide.2 (within_any _ _ _ _)).mono ?_; rintro e w' ⟨rfl, rfl⟩)
      refine ⟨_, by simp [results, Try.results63, go_sem]; rfl, ?_⟩
      rw [HR2.out]
      exact OutC3.nil rfl hb1
    · have HR2 : Hid (cheapR xs r depth = (match bestOf xs depth (rightL xs r) with | none => ([], 0, 6) | some (b, m) => (b, m, 0) : List Int × Int × Int)) := by show _ = _; rw [HR.out, hd]; rfl
      have HD := Lib.hid hd
      have t0 := blk_cell (blk_below h0 hb) 0 rfl
      obtain ⟨c0, c1, c2, c3, c4, c5, c6, c7, c8⟩ := (h1.below hb).cells
      have hz1 : w.heap.size + 3 ≤ w1.heap.size := by have := lt_of_block h2; have := hb.size; omega
      have hz2 : w.heap.size < w1.heap.size := by omega
      have hz3 : w.heap.size + 1 < w1.heap.size := by omega
      have hz4 : w.heap.size + 1 + 1 < w1.heap.size := by omega
      gi_wp2_with (first | (refine ⟨trivial, (fun h => by cases h), ?_⟩; gi_at_call 71; refine (callsIn_wide.2 (within_any _ _ _ _)).mono ?_; rintro e w' ⟨rfl, rfl⟩; rw [hd]) | (refine ⟨trivial, (fun h => by cases h), ?_⟩; refine (callsIn_wide.2 (right_any a xs.length cap r _)).mono ?_; rintro e w2 ⟨rfl, rfl⟩))
      have hal := (stad_ok (check_ok HCK.out).1).1
      have hl12 := (stad_ok (check_ok HCK.out).1).2
      have hab : ∀ p, a = some p → p.block < w.heap.size := sl_lt hx (by omega)
      have hdd : 1 ≤ depth ∧ depth ≤ 200 := by have := HD.out; simp [withinB] at this; omega
      have hs0 := blk_below h0 hb
      have hs2 := blk_below h2 hb
      clear t0 t2 c0 c1 c2 c3 c4 c5 c6 c7 c8 hd
      obtain ⟨Wr, hWr⟩ : ∃ Wr, (((w1.alloc (.cells #[.slice none 0 0] 136)).alloc (.cells #[.int .i64 0] 3)).alloc (.cells #[.slice a xs.length cap] 22)).alloc r.o = Wr := ⟨_, rfl⟩
      have hzr : Wr.heap.size = w1.heap.size + 4 := by rw [← hWr]; simp
      have hbr : Below w1.heap.size w1 Wr := by rw [← hWr]; exact ((((Below.refl _ _).alloc (Nat.le_refl _) _).alloc (by simp) _).alloc (by simp <;> omega) _).alloc (by simp <;> omega) _
      have g0 : Wr.heap[w1.heap.size]? = some (.cells #[.slice none 0 0] 136 (0, 0)) := by rw [← hWr]; exact alk (alk (alk (new_at rfl)))
      have g1 : Wr.heap[w1.heap.size + 1]? = some (.cells #[.int .i64 0] 3 (0, 0)) := by rw [← hWr]; exact alk (alk (new_at (by simp)))
      have g2 : Wr.heap[w1.heap.size + 1 + 1]? = some (.cells #[.slice a xs.length cap] 22 (0, 0)) := by rw [← hWr]; exact alk (new_at (by simp))
      have g3 : RuAt Wr (w1.heap.size + 1 + 1 + 1) r := by rw [← hWr]; exact new_at (by simp)
      have hseq := right1_seq a xs cap r r.laps.toNat (w1.heap.size + 1 + 1) (w1.heap.size + 1 + 1 + 1) Wr (hx.below (below_self hb1 hbr)) HCK.out (laps_nat HCK.out).1 g2 g3
      have hlap := (laps_nat HCK.out).2
      have HRL : Hid (rightL xs r = (extC xs.length r.laps.toNat [] 0).filter (okC xs r)) := rfl
      have hSub : ∀ c ∈ (extC xs.length r.laps.toNat [] 0).filter (okC xs r), c ∈ extC xs.length r.laps.toNat [] 0 := fun c hc => (List.mem_filter.1 hc).1
      generalize hS : (extC xs.length r.laps.toNat [] 0).filter (okC xs r) = S at hseq hSub HRL
      have notOwn : ∀ j, w1.heap.size ≤ j → j < w1.heap.size + 2 → ¬ ownOf (fun k => k = w1.heap.size + 1 + 1 ∨ k = w1.heap.size + 1 + 1 + 1 ∨ ∃ p, a = some p ∧ k = p.block) (9 + 2) Wr.heap.size j := fun j h0 hj h => by
        rw [hzr] at h
        rcases h with (h | h | ⟨q, hq, rfl⟩) | h
        · omega
        · omega
        · have := hab q hq; omega
        · omega
      rw [hWr]
      clear hWr hS
      refine range_seqC (gf := 140) (lb := #[.pointer (some ⟨w1.heap.size + 1 + 1, 0, none⟩), .pointer (some ⟨w1.heap.size + 1 + 1 + 1, 0, none⟩)]) rfl eg140 hseq (Below.refl _ _) (fun k h => by
          rw [hzr]
          rcases h with h | h | ⟨q, hq, rfl⟩
          · omega
          · omega
          · have := hab q hq; omega)
        (fun pre W' => BInv w1 (bestOf xs depth pre) W') (fun _ _ => False)
        (fun s A B h hap => h.apart (by rw [hzr] at hap; exact hap)) (fun _ _ _ h _ => h)
        ⟨hbr, g0, g1⟩
        (fun v => { tmps := #[.slice a xs.length cap, r.v, .int .i64 depth, .pointer (some ⟨w.heap.size, 0, none⟩), .pointer (some ⟨w.heap.size + 1, 0, none⟩), .pointer (some ⟨w.heap.size + 1 + 1, 0, none⟩), .slice none 0 0, .int .i64 0, .int .i64 0, .int .i64 (checkE xs r), .pointer (some ⟨w1.heap.size, 0, none⟩), .pointer (some ⟨w1.heap.size + 1, 0, none⟩), v, undef, .slice a xs.length cap, r.v, .int .i64 (checkE xs r), .int .i64 (checkE xs r), .bool false, undef, .int .i64 depth, .bool true, .bool false, .slice a xs.length cap, r.v, .func (.func 140) #[] #[.pointer (some ⟨w1.heap.size + 1 + 1, 0, none⟩), .pointer (some ⟨w1.heap.size + 1 + 1 + 1, 0, none⟩)], v, undef, undef, undef, undef, undef, undef, undef, undef, undef, undef, undef, undef, undef, undef, undef, undef, undef], defers := [] })
        ?assign ?body ?done ?stop
      case assign =>
        intro l k v W K hK
        gi_wp2
        exact hK
      case body =>
        rintro l2 k pre c av ccap W1 hC hpre hsl hty hfr
        have hcS : c ∈ S := hpre.subset (by simp)
        obtain ⟨hcl, _⟩ := extC_ok xs.length r.laps.toNat [] 0 (by simp) c (hSub c hcS)
        simp at hcl
        have hc1 : 0 < c.length := by omega
        have hc2 : c.length ≤ 1000000 := by omega
        have HST : Hid (bestOf xs depth (pre ++ [c]) = bestStep xs depth (bestOf xs depth pre) c) := bestOf_snoc _ _ _ _
        clear hcl hcS hpre
        obtain ⟨qb, qo, hav, hqb, hqc⟩ := hsl hc1
        subst hav
        have hq15 : w1.heap.size + 15 ≤ qb := by have := hfr _ rfl; rw [hzr] at this; have : w1.heap.size + 4 + 2 + 9 ≤ qb := this; omega
        clear hqc hfr
        have hw0 := hs0
        have s0 := blk_cell (blk_below hs0 hC.b) 0 rfl
        have s2 := blk_cell (blk_below hs2 hC.b) 0 rfl
        have hxW := hx.below (below_self hb1 hC.b)
        generalize hst : bestOf xs depth pre = st at hC HST
        clear hst
        have hbest := hC.best
        cases st with
        | none =>
          obtain ⟨e0, e1⟩ := hbest
          have HF : Hid (bestOf xs depth (pre ++ [c]) = some (c, snowL xs c depth)) := HST.out
          gi_wp2_with (refine ⟨trivial, (fun h => by cases h), ?_⟩; refine (CallsIn.inRound l2 (callsIn_wide.2 (snow_any a xs cap _ c ccap depth _ hxW hsl hl12.2 hc2 hal hdd))).mono ?_; rintro e w2 ⟨rfl, hb2⟩; have f0 := blk_cell (blk_below e0 hb2) 0 rfl; have f1 := blk_free (j := 0) (blk_below e0 hb2); have f2 := blk_cell (blk_below e1 hb2) 0 rfl; have f3 := blk_free (j := 0) (blk_below e1 hb2))
          refine ⟨((Keeps.of_below hb2).trans (Keeps.setCell _ (q := ⟨w1.heap.size, 0, none⟩) (notOwn (w1.heap.size) (by omega) (by omega)) _)).trans (Keeps.setCell _ (q := ⟨w1.heap.size + 1, 0, none⟩) (notOwn (w1.heap.size + 1) (by omega) (by omega)) _), ?_⟩
          show BInv w1 (bestOf xs depth (pre ++ [c])) _
          rw [HF.out]
          exact hC.put hb2 e0 e1 (hsl.below hb2) hq15
        | some p =>
          obtain ⟨pb, pm⟩ := p
          obtain ⟨q, bcap, e0, e1, e2, e3⟩ := hbest
          by_cases hlt : snowL xs c depth < pm
          · have HF : Hid (bestOf xs depth (pre ++ [c]) = some (c, snowL xs c depth)) := by show _ = _; rw [HST.out]; simp [bestStep, hlt]
            gi_wp2_with (refine ⟨trivial, (fun h => by cases h), ?_⟩; refine (CallsIn.inRound l2 (callsIn_wide.2 (snow_any a xs cap _ c ccap depth _ hxW hsl hl12.2 hc2 hal hdd))).mono ?_; rintro e w2 ⟨rfl, hb2⟩; have f0 := blk_cell (blk_below e0 hb2) 0 rfl; have f1 := blk_free (j := 0) (blk_below e0 hb2); have f2 := blk_cell (blk_below e1 hb2) 0 rfl; have f3 := blk_free (j := 0) (blk_below e1 hb2))
            refine ⟨((Keeps.of_below hb2).trans (Keeps.setCell _ (q := ⟨w1.heap.size, 0, none⟩) (notOwn (w1.heap.size) (by omega) (by omega)) _)).trans (Keeps.setCell _ (q := ⟨w1.heap.size + 1, 0, none⟩) (notOwn (w1.heap.size + 1) (by omega) (by omega)) _), ?_⟩
            show BInv w1 (bestOf xs depth (pre ++ [c])) _
            rw [HF.out]
            exact hC.put hb2 e0 e1 (hsl.below hb2) hq15
          · have HF : Hid (bestOf xs depth (pre ++ [c]) = some (pb, pm)) := by show _ = _; rw [HST.out]; simp [bestStep, hlt]
            gi_wp2_with (refine ⟨trivial, (fun h => by cases h), ?_⟩; refine (CallsIn.inRound l2 (callsIn_wide.2 (snow_any a xs cap _ c ccap depth _ hxW hsl hl12.2 hc2 hal hdd))).mono ?_; rintro e w2 ⟨rfl, hb2⟩; have f0 := blk_cell (blk_below e0 hb2) 0 rfl; have f1 := blk_free (j := 0) (blk_below e0 hb2); have f2 := blk_cell (blk_below e1 hb2) 0 rfl; have f3 := blk_free (j := 0) (blk_below e1 hb2))
            refine ⟨Keeps.of_below hb2, ?_⟩
            show BInv w1 (bestOf xs depth (pre ++ [c])) _
            rw [HF.out]
            exact hC.apart (Apart.of_below hb2)
      case done =>
        rintro W2 hC hK
        rw [hzr] at hK
        have HR3 : Hid (cheapR xs r depth = (match bestOf xs depth S with | none => ([], 0, 6) | some (b, m) => (b, m, 0) : List Int × Int × Int)) := by show _ = _; rw [HR2.out, HRL.out]
        have hbest := hC.best
        generalize bestOf xs depth S = st at hC HR3 hbest
        have hB4 : Below w.heap.size w (W2.putObj (w1.heap.size + 4) (.deferred none)) := (below_self hb1 hC.b).trans ⟨rfl, rfl, rfl, by rw [putObj_size]; exact Nat.le_refl _, fun j hj => World.putObj_heap_other (by omega)⟩
        cases st with
        | none =>
          obtain ⟨e0, e1⟩ := hbest
          have f0 := blk_cell e0 0 rfl
          gi_wp2
          refine ⟨by simp, .inl ⟨_, _, rfl, run_takeDeferred hK, ?_⟩⟩
          refine ⟨_, by simp [results, Try.results63, go_sem]; rfl, ?_⟩
          rw [HR3.out]
          exact OutC3.nil rfl hB4
        | some p =>
          obtain ⟨pb, pm⟩ := p
          obtain ⟨q, bcap, e0, e1, e2, e3⟩ := hbest
          have f0 := blk_cell e0 0 rfl
          have f1 := blk_cell e1 0 rfl
          gi_wp2
          gi_region
          all_goals gi_wp2
          all_goals first | refine ⟨by simp, .inl ⟨_, _, rfl, run_takeDeferred ‹_›, ?_⟩⟩ | skip
          all_goals (refine ⟨_, by simp [results, Try.results63, go_sem]; rfl, ?_⟩; rw [HR3.out])
          all_goals exact ⟨some q, bcap, rfl, ints_same e2 (by rw [putObj_size]; exact Nat.le_refl _) (fun p hp _ => by cases hp; exact World.putObj_heap_other (w := W2) (by omega)), (by obtain ⟨x1, x2, x3, x4, x5⟩ := hB4; exact ⟨x1, x2, x3, x4, x5⟩)⟩
      case stop =>
        rintro pre W2 _ h _
        exact h.elim
  · have h1b : (checkE xs r != 0) = true := by simp [hck]
    have HR2 : Hid (cheapR xs r depth = ([], 0, checkE xs r)) := by show _ = _; rw [cheapR, if_neg hck]
    clear hck
    gi_wp2
    refine ⟨_, by simp [results, Try.results63, go_sem]; rfl, ?_⟩
    rw [HR2.out]
    exact OutC3.nil rfl hb1
theorem cheapest_any (a : Option Addr) (xs : List Lp) (cap : Nat) (r : Ru) (depth : Int) (w : World) (hx : Sl 3 Lp.cells w a xs) (hl : xs.length ≤ 1000000) :
    Calls Try.prog 63 #[.slice a xs.length cap, r.v, .int .i64 depth] w (OutC3 w (cheapR xs r depth)) := callsIn_wide.1 (cheapest_in 0 a xs cap r depth w hx hl)
end Go.Proofs.Ytkmcdmidegcbaaa
