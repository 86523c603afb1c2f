/-
  The iterator that right makes, over this seat's program.
  What is proved: it yields each course that breaks no rule, in lexicographic order.
  Conditions: a stadium and rules that Check lets pass.
-/
import Derived.Test.YtkmcdmidegcbaaaL
namespace Go.Proofs.Ytkmcdmidegcbaaa
open Go.RowKit Go.Shelf
attribute [local go_sem] Oper.semAt_some

def Mk.none (m : Mk) : Bool := !m.a && !m.b && !m.c && !m.d && !m.e
/-- A course breaks no rule. -/
def okC (xs : List Lp) (r : Ru) (c : List Int) : Bool := (judgeM xs r c).none

theorem eg123 : ∀ args w, (callFunc 123 args).run Try.prog w = .ok (.enter 123 args) w := enters_of Try.func123 (by kernel_rfl) rfl

theorem extC_ok (loops : Nat) : ∀ (d : Nat) (cur : List Int) (least : Nat), (∀ i ∈ cur, 0 ≤ i ∧ i < (loops : Int)) → ∀ c ∈ extC loops d cur least, c.length = cur.length + d ∧ ∀ i ∈ c, 0 ≤ i ∧ i < (loops : Int) := by
  intro d
  induction d with
  | zero => intro cur least h c hc; simp [extC] at hc; subst hc; exact ⟨rfl, h⟩
  | succ d ih =>
    intro cur least h c hc
    simp only [extC, List.mem_flatten, List.mem_map] at hc
    obtain ⟨l, ⟨i, hi, rfl⟩, hc⟩ := hc
    have hi' := List.mem_range'.1 hi
    obtain ⟨j, hj, rfl⟩ := hi'
    have := ih (cur ++ [((least + 1 * j : Nat) : Int)]) (least + 1 * j) (fun x hx => by
      rcases List.mem_append.1 hx with hx | hx
      · exact h x hx
      · simp at hx; subst hx; omega) c hc
    rw [List.length_append] at this
    simp at this
    exact ⟨by omega, this.2⟩

theorem sl_apart {α : Type} {sz : Nat} {cells : α → List Int} {A B : World} {a : Option Addr} {xs : List α} (h : Sl sz cells A a xs) (hs : A.heap.size ≤ B.heap.size) (hb : ∀ p, a = some p → B.heap[p.block]? = A.heap[p.block]?) : Sl sz cells B a xs := fun h0 => by
  obtain ⟨b, off, rfl, hbs, hc⟩ := h h0
  exact ⟨b, off, rfl, Nat.lt_of_lt_of_le hbs hs, fun j x i u hx hu => (World.cell?_of_block (w := A) (a := ⟨b, off + j * sz + i, none⟩) (hb ⟨b, off, none⟩ rfl)).trans (hc j x i u hx hu)⟩

theorem eq130 (a b c d e : Bool) (w : World) : (Op.equalIn 10000 130 (.agg #[.bool a, .bool b, .bool c, .bool d, .bool e]) (.agg #[.bool false, .bool false, .bool false, .bool false, .bool false])).run Try.prog w = .ok (!a && !b && !c && !d && !e) w := by
  cases a <;> cases b <;> cases c <;> cases d <;> cases e <;> kernel_rfl
theorem eq130' (m : Mk) (bb : Bool) (h : m.none = bb) (w : World) : (Op.equalIn 10000 130 (.agg #[.bool m.a, .bool m.b, .bool m.c, .bool m.d, .bool m.e]) (.agg #[.bool false, .bool false, .bool false, .bool false, .bool false])).run Try.prog w = .ok bb w := by
  rw [← h]; exact eq130 _ _ _ _ _ w

/-- What stays while the loop of right's iterator runs. -/
structure RInv (B Bs Br l : Nat) (a : Option Addr) (xs : List Lp) (cap : Nat) (r : Ru) (W : World) : Prop where
  yd : W.heap[B]? = some (.cells #[.func (.yield l) #[] #[]] 137 (0, 0))
  s : W.heap[Bs]? = some (.cells #[.slice a xs.length cap] 22 (0, 0))
  r : RuAt W Br r
  x : Sl 3 Lp.cells W a xs
theorem RInv.below {B Bs Br l : Nat} {a : Option Addr} {xs : List Lp} {cap : Nat} {r : Ru} {W W' : World} (h : RInv B Bs Br l a xs cap r W) (hb : Below W.heap.size W W') : RInv B Bs Br l a xs cap r W' :=
  ⟨blk_below h.yd hb, blk_below h.s hb, h.r.below hb, h.x.below hb⟩
theorem sl_lt {α : Type} {sz : Nat} {cells : α → List Int} {A : World} {a : Option Addr} {xs : List α} (h : Sl sz cells A a xs) (h0 : 0 < xs.length) : ∀ p, a = some p → p.block < A.heap.size := fun p hp => by
  obtain ⟨b, off, rfl, hbs, _⟩ := h h0; cases hp; exact hbs
theorem RInv.same {B Bs Br l : Nat} {a : Option Addr} {xs : List Lp} {cap : Nat} {r : Ru} {W W' : World} (h : RInv B Bs Br l a xs cap r W) (h0 : 0 < xs.length) (hs : W.heap.size ≤ W'.heap.size)
    (hk : ∀ k, k < W.heap.size → (k = B ∨ k = Bs ∨ k = Br ∨ ∃ p, a = some p ∧ k = p.block) → W'.heap[k]? = W.heap[k]?) : RInv B Bs Br l a xs cap r W' :=
  ⟨(hk _ (lt_of_block h.yd) (.inl rfl)).trans h.yd, (hk _ (lt_of_block h.s) (.inr (.inl rfl))).trans h.s, (hk _ (lt_of_block h.r) (.inr (.inr (.inl rfl)))).trans h.r,
   sl_apart h.x hs (fun p hp => hk _ (sl_lt h.x h0 p hp) (.inr (.inr (.inr ⟨p, hp, rfl⟩))))⟩

set_option maxHeartbeats 600000 in
set_option maxRecDepth 100000 in
theorem right1_seq (a : Option Addr) (xs : List Lp) (cap : Nat) (r : Ru) (laps : Nat) (Bs Br : Nat) (w : World) (hx : Sl 3 Lp.cells w a xs) (hck : checkE xs r = 0) (hlaps : r.laps = laps)
    (hs : w.heap[Bs]? = some (.cells #[.slice a xs.length cap] 22 (0, 0))) (hr : RuAt w Br r) :
    SeqC 140 #[.pointer (some ⟨Bs, 0, none⟩), .pointer (some ⟨Br, 0, none⟩)] ((extC xs.length laps [] 0).filter (okC xs r)) (fun k => k = Bs ∨ k = Br ∨ ∃ p, a = some p ∧ k = p.block) 9 w := by
  obtain ⟨hst, hru⟩ := check_ok hck
  obtain ⟨hal, hl1, hl2⟩ := stad_ok hst
  have hlap : 1 ≤ laps ∧ laps ≤ 6 := by
    simp [rulesB, withinB] at hru; omega
  clear hck hst hru
  intro l n J Jx W hW hJ hJx hY hj
  have hxW := hx.below hW
  have hsW := blk_below hs hW
  have hrW : RuAt W Br r := hr.below hW
  have hBs : Bs < W.heap.size := lt_of_block hsW
  have hBr : Br < W.heap.size := lt_of_block hrW
  have c0 := blk_cell hsW 0 rfl
  have c1 : W.cell? ⟨Br, 0, none⟩ = some (.int .i64 laps) := by rw [← hlaps]; exact hrW.cells.1
  clear hlaps
  refine callsIn_of_wp_marks Try.func140 rfl trivial ?_ rfl
  simp only [Try.ntmps140, List.size_toArray, List.length_cons, List.length_nil, Nat.reduceAdd, Nat.reduceSub, Array.replicate_succ, Array.replicate_zero, List.push_toArray, List.append_toArray, List.nil_append, List.cons_append]
  gi_wp2_with (refine ⟨trivial, (fun h => by cases h), ?_⟩; refine (callsIn_wide.2 (courses_any xs.length laps _)).mono ?_; rintro e w1 ⟨rfl, rfl⟩)
  obtain ⟨Wr, hWr⟩ : ∃ Wr, ((W.alloc (.cells #[.func (.yield l) #[] #[]] 137)).alloc (.cells #[.int .i64 (xs.length : Int)] 3)).alloc (.cells #[.int .i64 (laps : Int)] 3) = Wr := ⟨_, rfl⟩
  have hzr : Wr.heap.size = W.heap.size + 3 := by rw [← hWr]; simp
  have hbr : Below W.heap.size W Wr := by rw [← hWr]; exact (((Below.refl _ _).alloc (Nat.le_refl _) _).alloc (by simp) _).alloc (by simp <;> omega) _
  have hyd : Wr.heap[W.heap.size]? = some (.cells #[.func (.yield l) #[] #[]] 137 (0, 0)) := by
    rw [← hWr]; exact (Below.heap_alloc _ _ _ (by simp <;> omega)).trans ((Below.heap_alloc _ _ _ (by simp)).trans (heap_alloc_new W _))
  have hho : Wr.heap[W.heap.size + 1]? = some (.cells #[.int .i64 (xs.length : Int)] 3 (0, 0)) := by
    rw [← hWr]; refine (Below.heap_alloc _ _ _ (by simp)).trans ?_
    have := heap_alloc_new (W.alloc (.cells #[.func (.yield l) #[] #[]] 137)) (.cells #[.int .i64 (xs.length : Int)] 3); simpa using this
  have hhl : Wr.heap[W.heap.size + 1 + 1]? = some (.cells #[.int .i64 (laps : Int)] 3 (0, 0)) := by
    rw [← hWr]; have := heap_alloc_new ((W.alloc (.cells #[.func (.yield l) #[] #[]] 137)).alloc (.cells #[.int .i64 (xs.length : Int)] 3)) (.cells #[.int .i64 (laps : Int)] 3); simpa using this
  have hR0 : RInv W.heap.size Bs Br l a xs cap r Wr := ⟨hyd, blk_below hsW hbr, hrW.below hbr, hxW.below hbr⟩
  have hab : ∀ p, a = some p → p.block < W.heap.size := sl_lt hxW (by omega)
  rw [hWr]
  have hseq := courses1_seq xs.length laps (by omega) ⟨hlap.1, by omega⟩ (W.heap.size + 1) (W.heap.size + 1 + 1) Wr hho hhl
  have more : ∀ k, ownOf (fun k => k = W.heap.size + 1 ∨ k = W.heap.size + 1 + 1) (4 + 2) Wr.heap.size k → ownOf (fun k => k = Bs ∨ k = Br ∨ ∃ p, a = some p ∧ k = p.block) 9 W.heap.size k := fun k h => by
    rw [hzr] at h
    refine .inr ?_
    rcases h with (h | h) | h <;> omega
  have moreT : ∀ k, intv (4 + 2) Wr.heap.size k → intv 9 W.heap.size k := fun k h => by
    rw [hzr] at h; exact ⟨by have := h.1; omega, by have := h.2; omega⟩
  have notIn : ∀ k, (k = W.heap.size ∨ k = Bs ∨ k = Br ∨ ∃ p, a = some p ∧ k = p.block) → ¬ intv (4 + 2) Wr.heap.size k := fun k h h' => by
    rw [hzr] at h'
    have h1 := h'.1
    rcases h with h | h | h | ⟨p, hp, rfl⟩
    · omega
    · omega
    · omega
    · have := hab p hp; omega
  refine range_seqC (gf := 123) (lb := #[.pointer (some ⟨W.heap.size + 1 + 1, 0, none⟩), .pointer (some ⟨W.heap.size + 1, 0, none⟩)]) rfl eg123 hseq (Below.refl _ _) (fun k h => by rw [hzr]; rcases h with h | h <;> omega)
    (fun pre W' => J (pre.filter (okC xs r)) W' ∧ RInv W.heap.size Bs Br l a xs cap r W') (fun pre W' => Jx (pre.filter (okC xs r)) W')
    (fun s A B h hap => ⟨hJ _ _ _ h.1 (hap.more moreT), h.2.same (by omega) hap.size (fun k hk hk' => hap.block k hk (notIn k hk'))⟩) (fun s A B h hap => hJx _ _ _ h (hap.more moreT))
    ⟨hJ _ _ _ hj (Apart.of_below hbr), hR0⟩
    (fun v => { tmps := #[.func (.yield l) #[] #[], .pointer (some ⟨Bs, 0, none⟩), .pointer (some ⟨Br, 0, none⟩), .pointer (some ⟨W.heap.size, 0, none⟩), v, .slice a xs.length cap, .int .i64 (xs.length : Int), .pointer (some ⟨Br, 0, none⟩), .int .i64 (laps : Int), .func (.func 123) #[] #[.pointer (some ⟨W.heap.size + 1 + 1, 0, none⟩), .pointer (some ⟨W.heap.size + 1, 0, none⟩)], v, undef, undef, undef, undef, undef, undef, undef, undef, undef, undef, undef, undef], defers := [] })
    ?assign ?body ?done ?stop
  case assign =>
    intro l k v W K hK
    gi_wp2
    exact hK
  case body =>
    rintro l2 k pre c av ccap W1 ⟨hj1, hr1⟩ hpre hsl hty hfr
    have hcS : c ∈ extC xs.length laps [] 0 := hpre.subset (by simp)
    obtain ⟨hcl, hcin⟩ := extC_ok xs.length laps [] 0 (by simp) c hcS
    simp at hcl
    have hcl1 : c.length ≤ 6 := by omega
    clear hcl
    have d0 := blk_cell hr1.s 0 rfl
    obtain ⟨e0, e1, e2, e3, e4, e5, e6, e7, e8⟩ := hr1.r.cells
    have HI := Lib.hid hcin
    clear hcin
    have Hpre := Lib.hid hpre
    clear hpre
    have hfil : (pre ++ [c]).filter (okC xs r) = pre.filter (okC xs r) ++ [c].filter (okC xs r) := List.filter_append _ _
    cases hok : okC xs r c
    · have heq := eq130' (judgeM xs r c) false hok
      have HF : Hid ((pre ++ [c]).filter (okC xs r) = pre.filter (okC xs r)) := by show _ = _; rw [hfil]; simp [hok]
      clear hok hfil
      gi_wp2_with (refine ⟨trivial, (fun h => by cases h), ?_⟩; refine (CallsIn.inRound l2 (callsIn_wide.2 (judge_any a xs cap r av c ccap _ hr1.x hsl (by omega) (by omega) hal HI.out))).mono ?_; rintro e w1 ⟨rfl, hb1⟩)
      refine ⟨fun _ h => (by cases h), ?_⟩
      gi_wp2
      exact ⟨Keeps.of_below hb1, by rw [HF.out]; exact hJ _ _ _ hj1 (Apart.of_below hb1), hr1.below hb1⟩
    · have heq := eq130' (judgeM xs r c) true hok
      have HF : Hid ((pre ++ [c]).filter (okC xs r) = pre.filter (okC xs r) ++ [c]) := by show _ = _; rw [hfil]; simp [hok]
      have HS : Hid (pre.filter (okC xs r) ++ [c] <+: (extC xs.length laps [] 0).filter (okC xs r)) := by
        obtain ⟨t, ht⟩ := Hpre.out
        exact ⟨t.filter (okC xs r), by rw [← HF.out, ← List.filter_append, ht]⟩
      clear hok hfil
      gi_wp2_with (first
        | (refine ⟨trivial, (fun h => by cases h), ?_⟩; refine (CallsIn.inRound l2 (callsIn_wide.2 (judge_any a xs cap r av c ccap _ hr1.x hsl (by omega) (by omega) hal HI.out))).mono ?_; rintro e w1 ⟨rfl, hb1⟩; have f0 := blk_cell (blk_below hr1.yd hb1) 0 rfl; obtain ⟨fn, tmps, assign, body, hy, hR⟩ := hY (k - 1) _ c av ccap w1 (hJ _ _ _ hj1 (Apart.of_below hb1)) HS.out (hsl.below hb1) (hty.below hb1) (fun p hp => by have := hfr p hp; omega); replace hR := hR.mono (one_way (A := fun W' => J (pre.filter (okC xs r) ++ [c]) W' ∧ Keeps (ownOf (fun k => k = Bs ∨ k = Br ∨ ∃ p, a = some p ∧ k = p.block) 9 W.heap.size) w1 W') (B := fun W' => Jx (pre.filter (okC xs r) ++ [c]) W' ∧ Keeps (ownOf (fun k => k = Bs ∨ k = Br ∨ ∃ p, a = some p ∧ k = p.block) 9 W.heap.size) w1 W')))
        | (refine ⟨(fun h => by cases h), ?_⟩; refine (show RoundIn (Fence.wide.inRound l2) _ _ _ _ _ _ _ _ _ from hR).mono ?_; clear hR hy; rintro e w2 ⟨bb, rfl, hout⟩))
      · have hb : bb = false := by simp_all
        rcases hout with ⟨h, _⟩ | ⟨_, hx2, hk2⟩
        · rw [hb] at h; cases h
        · exact ⟨(Keeps.of_below hb1).trans (hk2.less more), by show Jx ((pre ++ [c]).filter (okC xs r)) w2; rw [HF.out]; exact hx2⟩
      · have hb : bb = true := by simp_all
        rcases hout with ⟨_, hj2, hk2⟩ | ⟨h, _⟩
        · refine ⟨(Keeps.of_below hb1).trans (hk2.less more), by show J ((pre ++ [c]).filter (okC xs r)) w2; rw [HF.out]; exact hj2, (hr1.below hb1).same (by omega) hk2.size (fun k hk hm => hk2.block k hk ?_)⟩
          rcases hm with hm | hm
          · exact .inr ⟨by omega, by omega⟩
          · exact .inl hm
        · rw [hb] at h; cases h
  case done =>
    rintro W2 ⟨hj2, _⟩ hK
    gi_wp2
    refine ⟨by simp, .inl ⟨_, _, rfl, run_takeDeferred hK, ?_⟩⟩
    refine ⟨_, results_none rfl _ _ _, ⟨_, rfl⟩, .inl ?_⟩
    exact hJ _ _ _ hj2 (Apart.putObj _ _ _ ⟨by omega, by omega⟩)
  case stop =>
    rintro pre W2 hpre hx2 hK
    gi_wp2
    refine ⟨by simp, .inl ⟨_, _, rfl, run_takeDeferred hK, ?_⟩⟩
    refine ⟨_, results_none rfl _ _ _, ⟨_, rfl⟩, .inr ⟨pre.filter (okC xs r), ?_, ?_⟩⟩
    · obtain ⟨t, ht⟩ := hpre
      exact ⟨t.filter (okC xs r), by rw [← List.filter_append, ht]⟩
    · exact hJx _ _ _ hx2 (Apart.putObj _ _ _ ⟨by omega, by omega⟩)

set_option maxHeartbeats 1000000 in
theorem right_any (a : Option Addr) (n cap : Nat) (r : Ru) (w : World) :
    Calls Try.prog 107 #[.slice a n cap, r.v] w fun e w' => e = .returned (.func (.func 140) #[] #[.pointer (some ⟨w.heap.size, 0, none⟩), .pointer (some ⟨w.heap.size + 1, 0, none⟩)]) ∧ (w.alloc (.cells #[.slice a n cap] 22)).alloc (.cells #[.int .i64 r.laps, .int .i64 r.len.lo, .int .i64 r.len.hi, .int .i64 r.climb.lo, .int .i64 r.climb.hi, .int .i64 r.lap.lo, .int .i64 r.lap.hi, .int .i64 r.wide, .int .i64 r.uses] 26) = w' := by
  go_enter Try.func107, Try.ntmps107
  go_wp2
  go_ret
  exact ⟨rfl, rfl⟩
end Go.Proofs.Ytkmcdmidegcbaaa
