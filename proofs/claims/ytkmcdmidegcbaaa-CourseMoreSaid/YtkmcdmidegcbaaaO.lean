/-
  The contracts of chosen and All over this seat's program.
  What is proved: they hand back the right courses that are wanted, in lexicographic order, or that these are too many; nothing that was there before has turned.
  Conditions: slices of at most 1000000 elements.
-/
import Derived.Test.YtkmcdmidegcbaaaN
namespace Go.Proofs.Ytkmcdmidegcbaaa
open Go.RowKit Go.Shelf
attribute [local go_sem] Oper.semAt_some

theorem alk {A : World} {k : Nat} {o o' : Obj} (h : A.heap[k]? = some o) : (A.alloc o').heap[k]? = some o := (Below.heap_alloc _ _ _ (lt_of_block h)).trans h
theorem new_at {A : World} {k : Nat} {o : Obj} (h : A.heap.size = k) : (A.alloc o).heap[k]? = some o := by subst h; exact heap_alloc_new A o

theorem eg140 : ∀ args w, (callFunc 140 args).run Try.prog w = .ok (.enter 140 args) w := enters_of Try.func140 (by kernel_rfl) rfl

abbrev Ru.o (r : Ru) : Obj := .cells #[.int .i64 r.laps, .int .i64 r.len.lo, .int .i64 r.len.hi, .int .i64 r.climb.lo, .int .i64 r.climb.hi, .int .i64 r.lap.lo, .int .i64 r.lap.hi, .int .i64 r.wide, .int .i64 r.uses] 26

theorem Keeps.setCell {own : Nat → Prop} (A : World) {q : Addr} (h : ¬ own q.block) (u : Value) : Keeps own A (A.setCell q u) :=
  ⟨by rw [World.size_setCell]; exact Nat.le_refl _, fun k _ hn => Below.heap_setCell _ _ _ _ (fun e => h (e ▸ hn))⟩
theorem Keeps.grown {own : Nat → Prop} {A B : World} {row : Option Nat} (hg : A.grownBy B row) (h : ∀ j, row = some j → ¬ own j) : Keeps own A B :=
  ⟨hg.size, fun k hk hn => hg.block k hk (fun e => h k e.symm hn)⟩
theorem slice_of_owns {w : World} {base : Nat} {e : TypeId} {size : Nat} {v : Value} {n : Nat} {xs : List Value} (h : w.ownsRow base e size v n xs) : ∃ la lcap, v = .slice la n lcap := by
  rcases h.2 with ⟨rfl, h0⟩ | ⟨g, cap, cur, rfl, _⟩
  · exact ⟨none, 0, by rw [h0]⟩
  · exact ⟨_, _, rfl⟩

theorem list_box {w w1 w2 : World} {o o' : Obj} {v : Value} {n : Nat} {xs : List Value} (h : w1.heap[w.heap.size + 4]? = some o) (hown : w1.ownsRow (w.heap.size + 18) 27 1 v n xs) (hg : (w1.alloc o').grownBy w2 v.ownBlock) : w2.heap[w.heap.size + 4]? = some o :=
  (hg.block _ (by have := lt_of_block h; simp; omega) (fun e => by have := (hown.lt _ e.symm).1; omega)).trans (alk h)

/-- What chosen hands back: the courses, if they are not too many. -/
def ChosenOut (w : World) (cs : List (List Int)) (e : Ending) (w' : World) : Prop := OutCs w (if cs.length ≤ 300 then cs else []) (if cs.length ≤ 300 then 0 else 10) e w'

set_option maxHeartbeats 600000 in
set_option maxRecDepth 100000 in
theorem chosen_in (n : Nat) (a : Option Addr) (xs : List Lp) (cap : Nat) (r : Ru) (g laps : Nat) (lb : Array Value) (p : List Int → Bool) (w : World) (hx : Sl 3 Lp.cells w a xs) (hck : checkE xs r = 0) (hlaps : r.laps = laps)
    (eg : ∀ args w, (callFunc g args).run Try.prog w = .ok (.enter g args) w)
    (hg : ∀ c ∈ extC xs.length laps [] 0, ∀ (av : Option Addr) (ccap : Nat) (W : World), Below w.heap.size w W → IntSl W av c → Calls Try.prog g (#[.slice av c.length ccap] ++ lb) W fun e W' => e = .returned (.bool (p c)) ∧ Below W.heap.size W W')
    (cs : List (List Int)) (hcs : ((extC xs.length laps [] 0).filter (okC xs r)).filter p = cs) :
    CallsIn Fence.wide n Try.prog 80 #[.slice a xs.length cap, r.v, .func (.func g) #[] lb] w (ChosenOut w cs) := by
  obtain ⟨hal, hl1, hl2⟩ := stad_ok (check_ok hck).1
  have HCK := Lib.hid hck
  have HL := Lib.hid hlaps
  have HCS := Lib.hid hcs
  have HG := Lib.hid hg
  clear hck hlaps hcs hg
  have hab : ∀ p, a = some p → p.block < w.heap.size := sl_lt hx (by omega)
  refine callsIn_of_wp_marks Try.func80 rfl trivial ?_ rfl
  simp only [Try.ntmps80, List.size_toArray, List.length_cons, List.length_nil, Nat.reduceAdd, Nat.reduceSub, Array.replicate_succ, Array.replicate_zero, List.push_toArray, List.append_toArray, List.nil_append, List.cons_append]
  gi_wp2_with (refine ⟨trivial, (fun h => by cases h), ?_⟩; refine (callsIn_wide.2 (right_any a xs.length cap r _)).mono ?_; rintro e w1 ⟨rfl, rfl⟩)
  obtain ⟨Wr, hWr⟩ : ∃ Wr, ((((((w.alloc r.o).alloc (.cells #[.func (.func g) #[] lb] 137)).alloc (.cells #[.slice none 0 0] 49)).alloc (.cells #[.int .i64 0] 33)).alloc (.cells #[.slice none 0 0] 49)).alloc (.cells #[.slice a xs.length cap] 22)).alloc r.o = Wr := ⟨_, rfl⟩
  have hzr : Wr.heap.size = w.heap.size + 7 := by rw [← hWr]; simp
  have hbr : Below w.heap.size w Wr := by rw [← hWr]; exact (((((((Below.refl _ _).alloc (Nat.le_refl _) _).alloc (by simp) _).alloc (by simp <;> omega) _).alloc (by simp <;> omega) _).alloc (by simp <;> omega) _).alloc (by simp <;> omega) _).alloc (by simp <;> omega) _
  have h1 : Wr.heap[w.heap.size + 1]? = some (.cells #[.func (.func g) #[] lb] 137 (0, 0)) := by rw [← hWr]; exact alk (alk (alk (alk (alk (new_at (by simp))))))
  have h2 : Wr.heap[w.heap.size + 2]? = some (.cells #[.slice none 0 0] 49 (0, 0)) := by rw [← hWr]; exact alk (alk (alk (alk (new_at (by simp)))))
  have h3 : Wr.heap[w.heap.size + 3]? = some (.cells #[.int .i64 0] 33 (0, 0)) := by rw [← hWr]; exact alk (alk (alk (new_at (by simp))))
  have h4 : Wr.heap[w.heap.size + 4]? = some (.cells #[.slice none 0 0] 49 (0, 0)) := by rw [← hWr]; exact alk (alk (new_at (by simp)))
  have h5 : Wr.heap[w.heap.size + 5]? = some (.cells #[.slice a xs.length cap] 22 (0, 0)) := by rw [← hWr]; exact alk (new_at (by simp))
  have h6 : RuAt Wr (w.heap.size + 6) r := by rw [← hWr]; exact new_at (by simp)
  have hC0 : CInv w g lb [] Wr := ⟨hbr, h1, h2, h3, by simp, .slice none 0 0, [], h4, World.ownsRow_nil _ _ _ _, Rows2.nil _ _⟩
  have hseq := right1_seq a xs cap r laps (w.heap.size + 5) (w.heap.size + 6) Wr (hx.below hbr) HCK.out HL.out h5 h6
  obtain ⟨S, hS⟩ : ∃ S, (extC xs.length laps [] 0).filter (okC xs r) = S := ⟨_, rfl⟩
  rw [hS] at hseq
  have hSub : ∀ c ∈ S, c ∈ extC xs.length laps [] 0 := fun c hc => by rw [← hS] at hc; exact (List.mem_filter.1 hc).1
  have HS2 : Hid (S.filter p = cs) := by rw [← hS]; exact HCS.out
  clear HCS hS
  have hlap : 1 ≤ laps := by
    have := (check_ok HCK.out).2; have h := HL.out; simp [rulesB, withinB] at this; omega
  rw [hWr]
  refine range_seqC (gf := 140) (lb := #[.pointer (some ⟨w.heap.size + 5, 0, none⟩), .pointer (some ⟨w.heap.size + 6, 0, none⟩)]) rfl eg140 hseq (Below.refl _ _) (fun k h => by
      rw [hzr]
      rcases h with h | h | ⟨q, hq, rfl⟩
      · omega
      · omega
      · have := hab q hq; omega)
    (fun pre W' => CInv w g lb (pre.filter p) W') (fun pre W' => 300 < (pre.filter p).length ∧ Below w.heap.size w W' ∧ W'.heap[w.heap.size + 2]? = some (.cells #[.slice none 0 0] 49 (0, 0)) ∧ W'.heap[w.heap.size + 3]? = some (.cells #[.int .i64 10] 33 (0, 0)))
    (fun s A B h hap => h.apart (by rw [hzr] at hap; exact hap))
    (fun s A B h hap => by
      rw [hzr] at hap
      have hk : ∀ k, k < w.heap.size + 7 → k < A.heap.size → B.heap[k]? = A.heap[k]? := fun k h1 h2 => hap.block k h2 (fun h3 => by have := h3.1; omega)
      exact ⟨h.1, h.2.1.trans ⟨hap.os, hap.tape, hap.output, hap.size, fun k hk' => hk k (by omega) (Nat.lt_of_lt_of_le hk' h.2.1.size)⟩, (hk _ (by omega) (lt_of_block h.2.2.1)).trans h.2.2.1, (hk _ (by omega) (lt_of_block h.2.2.2)).trans h.2.2.2⟩)
    hC0
    (fun v => { tmps := #[.slice a xs.length cap, r.v, .func (.func g) #[] lb, undef, .pointer (some ⟨w.heap.size, 0, none⟩), .pointer (some ⟨w.heap.size + 1, 0, none⟩), .pointer (some ⟨w.heap.size + 2, 0, none⟩), .pointer (some ⟨w.heap.size + 3, 0, none⟩), .pointer (some ⟨w.heap.size + 4, 0, none⟩), v, .slice a xs.length cap, r.v, .func (.func 140) #[] #[.pointer (some ⟨w.heap.size + 5, 0, none⟩), .pointer (some ⟨w.heap.size + 6, 0, none⟩)], v, undef, undef, undef, undef, undef, undef, undef, undef, undef, undef, undef, undef], defers := [] })
    ?assign ?body ?done ?stop
  case assign =>
    intro l k v W K hK
    gi_wp2
    exact hK
  case body =>
    rintro l2 k pre c av ccap W1 hC hpre hsl hty hfr
    have hcS : c ∈ S := hpre.subset (by simp)
    have hcE := hSub c hcS
    obtain ⟨hcl, _⟩ := extC_ok xs.length laps [] 0 (by simp) c hcE
    simp at hcl
    have hc0 : 0 < c.length := by omega
    have hz18 : w.heap.size + 18 < W1.heap.size := by
      obtain ⟨b, off, rfl, hbs, _⟩ := hsl hc0
      have := hfr _ rfl
      rw [hzr] at this
      have : w.heap.size + 7 + 2 + 9 ≤ b := this
      omega
    have HFR : Hid (∀ q, av = some q → w.heap.size + 18 ≤ q.block) := fun q hq => by have := hfr q hq; rw [hzr] at this; omega
    clear hcl hfr
    have notOwn : ∀ j, w.heap.size ≤ j → j < w.heap.size + 5 ∨ w.heap.size + 18 ≤ j → ¬ ownOf (fun k => k = w.heap.size + 5 ∨ k = w.heap.size + 6 ∨ ∃ p, a = some p ∧ k = p.block) (9 + 2) Wr.heap.size j := fun j h0 hj h => by
      rw [hzr] at h
      rcases h with (h | h | ⟨q, hq, rfl⟩) | h
      · omega
      · omega
      · have := hab q hq; omega
      · omega
    have HG1 := Lib.hid (HG.out c hcE av ccap W1 hC.b hsl)
    have k1 := blk_cell hC.want 0 rfl
    have hfil : (pre ++ [c]).filter p = pre.filter p ++ [c].filter p := List.filter_append _ _
    cases hp : p c
    · have HF : Hid ((pre ++ [c]).filter p = pre.filter p) := by show _ = _; rw [hfil]; simp [hp]
      rw [hp] at HG1
      clear hp hfil
      gi_wp2_with (refine ⟨trivial, (fun h => by cases h), ?_⟩; refine (CallsIn.inRound l2 (callsIn_wide.2 HG1.out)).mono ?_; rintro e w1 ⟨rfl, hb1⟩)
      exact ⟨Keeps.of_below hb1, by show CInv w g lb ((pre ++ [c]).filter p) w1; rw [HF.out]; exact hC.apart (Apart.of_below hb1)⟩
    · have HF : Hid ((pre ++ [c]).filter p = pre.filter p ++ [c]) := by show _ = _; rw [hfil]; simp [hp]
      rw [hp] at HG1
      clear hp hfil
      obtain ⟨v, vals, t1, t2, t3⟩ := hC.list
      obtain ⟨la, lcap, rfl⟩ := slice_of_owns t2
      have hlen := t3.len
      have HLEN := Lib.hid hlen
      clear hlen
      by_cases h300 : vals.length = 300
      · have hb300 : ((vals.length : Int) == 300) = true := by simp; omega
        have H300 := Lib.hid h300
        clear h300
        gi_wp2_with (refine ⟨trivial, (fun h => by cases h), ?_⟩; refine (CallsIn.inRound l2 (callsIn_wide.2 HG1.out)).mono ?_; rintro e w1 ⟨rfl, hb1⟩; have u1 := blk_cell (blk_below t1 hb1) 0 rfl; have u2 := blk_cell (blk_below hC.r0 hb1) 0 rfl; have u3 := blk_cell (blk_below hC.r1 hb1) 0 rfl; have u4 := blk_free (j := 0) (blk_below hC.r0 hb1); have u5 := blk_free (j := 0) (blk_below hC.r1 hb1))
        have hB1 := hC.b.trans (hb1.mono hC.b.size)
        refine ⟨((Keeps.of_below hb1).trans (Keeps.setCell _ (q := ⟨w.heap.size + 2, 0, none⟩) (notOwn (w.heap.size + 2) (by omega) (by omega)) _)).trans (Keeps.setCell _ (q := ⟨w.heap.size + 3, 0, none⟩) (notOwn (w.heap.size + 3) (by omega) (by omega)) _), ?_⟩
        refine ⟨by rw [HF.out, List.length_append, ← HLEN.out, H300.out]; simp, (hB1.setCell (p := ⟨w.heap.size + 2, 0, none⟩) (by show w.heap.size ≤ w.heap.size + 2; omega) _).setCell (p := ⟨w.heap.size + 3, 0, none⟩) (by show w.heap.size ≤ w.heap.size + 3; omega) _, blk_other (blk_setCell (blk_below hC.r0 hb1)) (by omega), blk_setCell (blk_other (blk_below hC.r1 hb1) (by omega))⟩
      · have hb300 : ((vals.length : Int) == 300) = false := by simp; omega
        have hlt : vals.length < 300 := by have := hC.few; rw [← HLEN.out] at this; omega
        clear h300
        obtain ⟨i0, hi, hz0, hz1, hz2⟩ := info_parts Try.info27
        gi_wp2_with (first
          | (refine ⟨trivial, (fun h => by cases h), ?_⟩; refine (CallsIn.inRound l2 (callsIn_wide.2 HG1.out)).mono ?_; rintro e w1 ⟨rfl, hb1⟩; have u1 := blk_cell (blk_below t1 hb1) 0 rfl; have hown1 := owns_below t2 hb1)
          | (gi_at_builtin; refine wpListIn_append_own _ rfl _ _ 49 rfl (w.heap.size + 18) 27 i0 (.slice none 0 0) 1 24 Try.underlying49 hi hz0 hz1 hz2 rfl (by decide) _ _ _ rfl (hown1.alloc _) ⟨w1.heap.size, 0, none⟩ 1 1 [.slice av c.length ccap] rfl rfl (cell_one_new _ _ _) (by simp [Value.oneCell']) (by unfold maxLen; omega) (by omega) (by have := hb1.size; simp; omega) ?_; intro v' w2 hown2 hgrow2 _; obtain ⟨g', cap', rfl⟩ := ownsRow_succ hown2; have t4 := list_box (blk_below t1 hb1) hown1 hgrow2; have u6 := blk_cell t4 0 rfl; have u7 := blk_free (j := 0) t4))
        have hs1 : W1.heap.size ≤ w1.heap.size := hb1.size
        have hs2 : w1.heap.size + 1 ≤ w2.heap.size := by have := hgrow2.size; simp at this; omega
        have hrow : ∀ j, (Value.slice la vals.length lcap).ownBlock = some j → w.heap.size + 18 ≤ j := fun j hj => (hown1.lt j hj).1
        have hB2 : Below w.heap.size w w2 := ((hC.b.trans (hb1.mono hC.b.size)).alloc (by omega) _).grown hgrow2 (by simp; omega) (fun j hj => by have := hrow j hj; omega)
        have hsame : ∀ j, j < w1.heap.size → w.heap.size + 18 ≤ j → some j ≠ (Value.slice la vals.length lcap).ownBlock → w2.heap[j]? = w1.heap[j]? := fun j h1 _ h3 => (hgrow2.block j (by simp; omega) h3).trans (Below.heap_alloc _ _ _ h1)
        have old : ∀ {j : Nat} {o : Obj}, j < w.heap.size + 18 → w1.heap[j]? = some o → w2.heap[j]? = some o := fun {j o} hj h => (hgrow2.block j (by have := lt_of_block h; simp; omega) (fun e => by have := hrow j e.symm; omega)).trans (alk h)
        have R1 : Rows2 w1 (w.heap.size + 18) vals (pre.filter p) := t3.same hs1 (fun j _ h2 _ => hb1.block j h2)
        have R2 : Rows2 w2 (w.heap.size + 18) (vals ++ [.slice av c.length ccap]) (pre.filter p ++ [c]) := by
          have ne : ∀ j, (∃ cs, w1.heap[j]? = some (.cells cs 3 (0, 0))) → some j ≠ (Value.slice la vals.length lcap).ownBlock := fun j ⟨ds, hd⟩ e => by
            rcases hown1.2 with ⟨h1, _⟩ | ⟨g2, cap2, cur2, h1, _, hg2, _⟩
            · rw [h1] at e; simp [Value.ownBlock] at e
            · rw [h1] at e; simp [Value.ownBlock] at e; subst e; rw [hd] at hg2; simp at hg2
          have hk : ∀ j, w.heap.size + 18 ≤ j → j < w1.heap.size → (∃ cs, w1.heap[j]? = some (.cells cs 3 (0, 0))) → w2.heap[j]? = w1.heap[j]? := fun j h1 h2 h3 => hsame j h2 h1 (ne j h3)
          have hb : ∀ q, av = some q → q.block < w1.heap.size → w2.heap[q.block]? = w1.heap[q.block]? := fun q hq hl => hk _ (HFR.out q hq) hl (hty.below hb1 q hq)
          exact (R1.same (by omega) hk).snoc (ints_same (hsl.below hb1) (by omega) hb) (ty3_same (hty.below hb1) hb) HFR.out
        have fin : ∀ j, j ≠ w.heap.size + 4 → (w2.setCell ⟨w.heap.size + 4, 0, none⟩ (.slice (some ⟨g', 0, none⟩) (vals.length + 1) cap')).heap[j]? = w2.heap[j]? := fun j hj => Below.heap_setCell _ _ _ _ hj
        refine ⟨(((Keeps.of_below hb1).trans (Keeps.of_below ((Below.refl _ _).alloc (Nat.le_refl _) _))).trans (Keeps.grown hgrow2 (fun j hj => notOwn j (by have := hrow j hj; omega) (.inr (hrow j hj))))).trans (Keeps.setCell _ (q := ⟨w.heap.size + 4, 0, none⟩) (notOwn (w.heap.size + 4) (by omega) (by omega)) _), ?_⟩
        show CInv w g lb ((pre ++ [c]).filter p) _
        rw [HF.out]
        refine ⟨hB2.setCell (p := ⟨w.heap.size + 4, 0, none⟩) (by show w.heap.size ≤ w.heap.size + 4; omega) _, blk_other (old (by omega) (blk_below hC.want hb1)) (by omega), blk_other (old (by omega) (blk_below hC.r0 hb1)) (by omega), blk_other (old (by omega) (blk_below hC.r1 hb1)) (by omega), by rw [List.length_append, ← HLEN.out]; simp; omega, _, vals ++ [Value.slice av c.length ccap], blk_setCell t4, ?_, ?_⟩
        · have h := owns_same hown2 (B := w2.setCell ⟨w.heap.size + 4, 0, none⟩ (.slice (some ⟨g', 0, none⟩) (vals.length + 1) cap')) (fun j h1 _ => fin j (by omega))
          rw [show vals.length + 1 = (vals ++ [Value.slice av c.length ccap]).length by simp] at h ⊢
          exact h
        · exact R2.same (by rw [World.size_setCell]; exact Nat.le_refl _) (fun j h1 _ _ => fin j (by omega))
  case done =>
    rintro W2 hC hK
    obtain ⟨v, vals, t1, t2, t3⟩ := hC.list
    obtain ⟨la, lcap, rfl⟩ := slice_of_owns t2
    have u1 := blk_cell t1 0 rfl
    have u2 := blk_cell hC.r0 0 rfl
    have u3 := blk_cell hC.r1 0 rfl
    have u4 := blk_free (j := 0) hC.r0
    have u5 := blk_free (j := 0) hC.r1
    gi_wp2
    have hK' : ((W2.setCell ⟨w.heap.size + 2, 0, none⟩ (.slice la vals.length lcap)).setCell ⟨w.heap.size + 3, 0, none⟩ (.int .i64 0)).heap[Wr.heap.size]? = some (.deferred (some [])) := blk_other (blk_other hK (by omega)) (by omega)
    have q0' : ((W2.setCell ⟨w.heap.size + 2, 0, none⟩ (.slice la vals.length lcap)).setCell ⟨w.heap.size + 3, 0, none⟩ (.int .i64 0)).heap[w.heap.size + 2]? = some (.cells #[.slice la vals.length lcap] 49 (0, 0)) := blk_other (blk_setCell hC.r0) (by omega)
    have q1' : ((W2.setCell ⟨w.heap.size + 2, 0, none⟩ (.slice la vals.length lcap)).setCell ⟨w.heap.size + 3, 0, none⟩ (.int .i64 0)).heap[w.heap.size + 3]? = some (.cells #[.int .i64 0] 33 (0, 0)) := blk_setCell (blk_other hC.r1 (by omega))
    have hB3 : Below w.heap.size w ((W2.setCell ⟨w.heap.size + 2, 0, none⟩ (.slice la vals.length lcap)).setCell ⟨w.heap.size + 3, 0, none⟩ (.int .i64 0)) := (hC.b.setCell (p := ⟨w.heap.size + 2, 0, none⟩) (by show w.heap.size ≤ w.heap.size + 2; omega) _).setCell (p := ⟨w.heap.size + 3, 0, none⟩) (by show w.heap.size ≤ w.heap.size + 3; omega) _
    have hsz : ((W2.setCell ⟨w.heap.size + 2, 0, none⟩ (.slice la vals.length lcap)).setCell ⟨w.heap.size + 3, 0, none⟩ (.int .i64 0)).heap.size = W2.heap.size := by rw [World.size_setCell, World.size_setCell]
    have hoth : ∀ j, w.heap.size + 18 ≤ j → ((W2.setCell ⟨w.heap.size + 2, 0, none⟩ (.slice la vals.length lcap)).setCell ⟨w.heap.size + 3, 0, none⟩ (.int .i64 0)).heap[j]? = W2.heap[j]? := fun j hj => (Below.heap_setCell _ _ _ _ (by show j ≠ w.heap.size + 3; omega)).trans (Below.heap_setCell _ _ _ _ (by show j ≠ w.heap.size + 2; omega))
    clear u1 u2 u3 u4 u5
    generalize (W2.setCell ⟨w.heap.size + 2, 0, none⟩ (.slice la vals.length lcap)).setCell ⟨w.heap.size + 3, 0, none⟩ (.int .i64 0) = W3 at hK' q0' q1' hB3 hsz hoth ⊢
    refine ⟨by simp, .inl ⟨_, _, rfl, run_takeDeferred hK', ?_⟩⟩
    have q0 : (W3.putObj Wr.heap.size (.deferred none)).cell? ⟨w.heap.size + 2, 0, none⟩ = some (.slice la vals.length lcap) := blk_cell (cur := #[.slice la vals.length lcap]) (t := 49) ((World.putObj_heap_other (by omega)).trans q0') 0 rfl
    have q1 : (W3.putObj Wr.heap.size (.deferred none)).cell? ⟨w.heap.size + 3, 0, none⟩ = some (.int .i64 0) := blk_cell (cur := #[.int .i64 0]) (t := 33) ((World.putObj_heap_other (by omega)).trans q1') 0 rfl
    have hk4 : ∀ j, w.heap.size + 18 ≤ j → (W3.putObj Wr.heap.size (.deferred none)).heap[j]? = W2.heap[j]? := fun j hj => (World.putObj_heap_other (by omega)).trans (hoth j hj)
    have O4 := owns_same t2 (B := W3.putObj Wr.heap.size (.deferred none)) (fun j h1 _ => hk4 j h1)
    have R4 := t3.same (B := W3.putObj Wr.heap.size (.deferred none)) (by rw [putObj_size, hsz]; exact Nat.le_refl _) (fun j h1 _ _ => hk4 j h1)
    have hB4 : Below w.heap.size w (W3.putObj Wr.heap.size (.deferred none)) := hB3.trans ⟨rfl, rfl, rfl, by rw [putObj_size]; exact Nat.le_refl _, fun j hj => World.putObj_heap_other (by omega)⟩
    refine ⟨.tuple #[.slice la vals.length lcap, .int .i64 0], by simp [results, Try.results80, go_sem, q0, q1], ?_⟩
    have hfew := hC.few
    rw [HS2.out] at hfew R4
    show OutCs w _ _ _ _
    rw [if_pos hfew, if_pos hfew]
    obtain ⟨a4, cap4, h5, h6⟩ := sls_of_owns O4 R4
    exact ⟨a4, cap4, by rw [h5], h6, hB4⟩
  case stop =>
    rintro pre W2 hpre ⟨h300, hB, q0', q1'⟩ hK
    gi_wp2
    refine ⟨by simp, .inl ⟨_, _, rfl, run_takeDeferred hK, ?_⟩⟩
    have q0 : (W2.putObj Wr.heap.size (.deferred none)).cell? ⟨w.heap.size + 2, 0, none⟩ = some (.slice none 0 0) := blk_cell (cur := #[.slice none 0 0]) (t := 49) ((World.putObj_heap_other (by omega)).trans q0') 0 rfl
    have q1 : (W2.putObj Wr.heap.size (.deferred none)).cell? ⟨w.heap.size + 3, 0, none⟩ = some (.int .i64 10) := blk_cell (cur := #[.int .i64 10]) (t := 33) ((World.putObj_heap_other (by omega)).trans q1') 0 rfl
    have hB4 : Below w.heap.size w (W2.putObj Wr.heap.size (.deferred none)) := hB.trans ⟨rfl, rfl, rfl, by rw [putObj_size]; exact Nat.le_refl _, fun j hj => World.putObj_heap_other (by omega)⟩
    refine ⟨.tuple #[.slice none 0 0, .int .i64 10], by simp [results, Try.results80, go_sem, q0, q1], ?_⟩
    have hbig : ¬ cs.length ≤ 300 := by
      obtain ⟨t, ht⟩ := hpre
      rw [← HS2.out, ← ht, List.filter_append, List.length_append]; omega
    show OutCs w _ _ _ _
    rw [if_neg hbig, if_neg hbig]
    exact ⟨none, 0, rfl, fun h => by simp at h, hB4⟩
end Go.Proofs.Ytkmcdmidegcbaaa
