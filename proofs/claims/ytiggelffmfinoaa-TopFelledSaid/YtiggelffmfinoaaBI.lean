/-
  A region that draws its order, in two parts: all operations of the second wait for all of the first, and come in the text's order.
  What is proved: it is enough to go through the first part in whatever order, a condition on the world held behind each of its operations, and through the second part in the text's order.
  Conditions: no operation of the region is guarded; each waits for earlier ones alone.
-/
import Derived.Test.YtiggelffmfinoaaC
import Derived.StillTailTactics
namespace Go.Proofs.Ytiggelffmfinoaa
open Go.RowKit Go.Shelf

section
variable {P : Program} {md : Region.Mode} {ops ops' : Array Oper} {Q : Exit → Act → World → Prop} {X : Act → World → Prop}

/-- What follows the first part. -/
def headQ (Q : Exit → Act → World → Prop) (X : Act → World → Prop) : Exit → Act → World → Prop
  | .normal, a, w => X a w
  | e, a, w => Q e a w

theorem letsOut_head (h : LetsOut (headQ Q X)) : LetsOut Q := by
  obtain ⟨a, w, h⟩ := h
  exact ⟨a, w, h⟩

theorem wp_head {o : Oper} {a : Act} {w : World} {K K' : Act → World → Prop} (hk : ∀ a w, K a w → K' a w) (h : o.wp P a w K (headQ Q X)) : o.wp P a w K' Q := by
  unfold Oper.wp at *
  generalize (execOp a.eval o).run P w = r at *
  cases r with
  | ok n w' =>
    cases n <;> simp only [Oper.upon] at h ⊢
    case value u => exact hk _ _ h
    case skip => exact hk _ _ h
    case defer d => exact hk _ _ h
    case enter f args =>
      refine Calls.mono h fun e w'' he => ?_
      cases e with
      | returned u => exact hk _ _ he
      | panicked c => exact he
      | outgrown => exact letsOut_head he
    case row row args => exact Rows.mono h fun u w'' he => hk _ _ he
  | halt x w' =>
    cases x <;> simp only [Oper.upon] at h ⊢
    case panic u => exact h

theorem wpOp_head {i : Nat} {o : Oper} (h1 : ops[i]? = some o) (h2 : ops'[i]? = some o) (hg : o.guard = none) {a : Act} {w : World} {K K' : Act → World → Prop} (hk : ∀ a w, K a w → K' a w) (h : wpOp P ops' (headQ Q X) i K a w) : wpOp P ops Q i K' a w := by
  unfold wpOp at *
  simp only [h1, h2] at *
  have w1 : Region.wanted o (yielded ops a.tmps) = true := by simp [Region.wanted, hg]
  have w2 : Region.wanted o (yielded ops' a.tmps) = true := by simp [Region.wanted, hg]
  rw [if_pos w1]
  rw [if_pos w2] at h
  rcases h with h | ⟨h, h'⟩
  · exact .inl (wp_head hk h)
  · exact .inr ⟨h, letsOut_head h'⟩

theorem wpAny_more (m : Nat) : ∀ (n : Nat) (listed : Array Bool) (a : Act) (w : World), wpAny P md ops Q n listed a w → wpAny P md ops Q (n + m) listed a w
  | 0, listed, a, w, h => by
    obtain ⟨h1, h2⟩ := h
    cases m with
    | zero => exact ⟨h1, h2⟩
    | succ m =>
      rw [Nat.zero_add]
      exact ⟨fun _ => h2, by rw [h1]; intro i hi; cases hi⟩
  | n + 1, listed, a, w, h => by
    rw [show n + 1 + m = (n + m) + 1 by omega]
    exact ⟨h.1, fun i hi => wpOp_mono (fun a w hh => wpAny_more m n _ a w hh) (h.2 i hi)⟩

/-- What an operation waits for. -/
def depsOf (md : Region.Mode) (ops : Array Oper) (i : Nat) : List Nat := match ops[i]? with
  | none => []
  | some o => (o.after.toList.filter fun e => Region.binds md e).map fun e => e.on
/-- What an operation waits for, and what that waits for. -/
def closeOf (md : Region.Mode) (ops : Array Oper) (j : Nat) : List Nat := (List.range j).reverse.foldl (fun mk i => if mk.contains i then depsOf md ops i ++ mk else mk) (depsOf md ops j)
theorem mem_deps {md : Region.Mode} {ops : Array Oper} {i x : Nat} : x ∈ depsOf md ops i ↔ ∃ o, ops[i]? = some o ∧ ∃ e ∈ o.after, Region.binds md e = true ∧ e.on = x := by
  unfold depsOf
  cases h : ops[i]? with
  | none => simp
  | some o => simp [List.mem_filter, and_assoc]

/-- The operations of the list tl wait for all others; none of these is guarded, and each waits for earlier ones alone, none of them in tl. -/
structure SplitAt (md : Region.Mode) (ops : Array Oper) (tl : List Nat) : Prop where
  plain : ∀ (i : Nat) (o : Oper), ops[i]? = some o → i ∉ tl → o.guard = none
  back : ∀ (i : Nat) (o : Oper), ops[i]? = some o → i ∉ tl → ∀ e ∈ o.after, Region.binds md e = true → e.on < i ∧ e.on ∉ tl
  bar : ∀ (j : Nat), j < ops.size → j ∈ tl → (∃ x ∈ depsOf md ops j, x ∈ tl) ∨ ∀ i, i < ops.size → i ∉ tl → i ∈ closeOf md ops j

/-- The list of the whole, while the first part is gone through: there the last operations count as done. -/
structure Ext (md : Region.Mode) (ops : Array Oper) (N : Nat) (tl : List Nat) (l L : Array Bool) : Prop where
  sl : l.size = N
  sL : L.size = N
  head : ∀ i, i ∉ tl → L[i]? = l[i]?
  tail : ∀ i, i ∈ tl → i < N → L[i]? = some false ∧ l[i]? = some true
  down : ∀ i, i ∉ tl → l[i]? = some true → ∀ x ∈ depsOf md ops i, l[x]? = some true

theorem Ext.set {N : Nat} {tl : List Nat} {l L : Array Bool} (h : Ext md ops N tl l L) {i : Nat} (hi : i ∉ tl) (hr : ∀ x ∈ depsOf md ops i, l[x]? = some true) : Ext md ops N tl (l.setIfInBounds i true) (L.setIfInBounds i true) := by
  have up : ∀ x, l[x]? = some true → (l.setIfInBounds i true)[x]? = some true := fun x hx => by
    by_cases hix : i = x
    · subst hix
      rcases Nat.lt_or_ge i l.size with hN | hN
      · rw [Array.getElem?_setIfInBounds_self_of_lt hN]
      · rw [Array.getElem?_eq_none hN] at hx; cases hx
    · rw [Array.getElem?_setIfInBounds_ne hix]; exact hx
  refine ⟨by simp [h.sl], by simp [h.sL], fun j hj => ?_, fun j hj hN => ?_, fun j hj hjt x hx => ?_⟩
  · by_cases hij : i = j
    · subst hij
      rcases Nat.lt_or_ge i N with hN | hN
      · rw [Array.getElem?_setIfInBounds_self_of_lt (by rw [h.sL]; exact hN), Array.getElem?_setIfInBounds_self_of_lt (by rw [h.sl]; exact hN)]
      · rw [Array.getElem?_eq_none (by simp [h.sL]; exact hN), Array.getElem?_eq_none (by simp [h.sl]; exact hN)]
    · rw [Array.getElem?_setIfInBounds_ne hij, Array.getElem?_setIfInBounds_ne hij]; exact h.head j hj
  · have hij : i ≠ j := fun e => hi (e ▸ hj)
    rw [Array.getElem?_setIfInBounds_ne hij, Array.getElem?_setIfInBounds_ne hij]; exact h.tail j hj hN
  · by_cases hij : i = j
    · subst hij; exact up x (hr x hx)
    · rw [Array.getElem?_setIfInBounds_ne hij] at hjt
      exact up x (h.down j hj hjt x hx)

theorem lt_of_some {ops : Array Oper} {i : Nat} {o : Oper} (h : ops[i]? = some o) : i < ops.size := by
  rcases Nat.lt_or_ge i ops.size with h' | h'
  · exact h'
  · rw [Array.getElem?_eq_none h'] at h; cases h

theorem ready_head {tl : List Nat} (hs : SplitAt md ops tl) {l L : Array Bool} (h : Ext md ops ops.size tl l L) (hu : ∃ i, i ∉ tl ∧ l[i]? = some false) (j : Nat) : j ∈ Region.ready md ops L ↔ j ∈ Region.ready md ops l := by
  rw [mem_ready, mem_ready]
  have gd : ∀ i, i ∉ tl → ∀ d, L.getD i d = l.getD i d := fun i hi d => by rw [Array.getD_eq_getD_getElem?, Array.getD_eq_getD_getElem?, h.head i hi]
  constructor
  · rintro ⟨h0, o, ho, hall⟩
    have hj : j ∉ tl := fun hj => by
      obtain ⟨i, hi, hf⟩ := hu
      have hlt : i < ops.size := by
        rw [← h.sl]
        rcases Nat.lt_or_ge i l.size with h' | h'
        · exact h'
        · rw [Array.getElem?_eq_none h'] at hf; cases hf
      have dep : ∀ x ∈ depsOf md ops j, x ∉ tl ∧ l[x]? = some true := fun x hx => by
        obtain ⟨o', ho', e, he, hb, rfl⟩ := mem_deps.1 hx
        rw [ho] at ho'
        cases ho'
        have h1 := hall e he hb
        rw [Array.getD_eq_getD_getElem?] at h1
        have hL : L[e.on]? = some true := by
          cases hv : L[e.on]? with
          | none => rw [hv] at h1; cases h1
          | some b => rw [hv] at h1; exact congrArg some h1
        have hN : e.on < ops.size := by
          rw [← h.sL]
          rcases Nat.lt_or_ge e.on L.size with h' | h'
          · exact h'
          · rw [Array.getElem?_eq_none h'] at hL; cases hL
        have hnt : e.on ∉ tl := fun ht => by rw [(h.tail _ ht hN).1] at hL; cases hL
        exact ⟨hnt, by rw [← h.head _ hnt]; exact hL⟩
      rcases hs.bar j (lt_of_some ho) hj with ⟨x, hx, hxt⟩ | hall'
      · exact (dep x hx).1 hxt
      · have inv : ∀ (is mk : List Nat), (∀ x ∈ mk, x ∉ tl ∧ l[x]? = some true) → ∀ x ∈ is.foldl (fun mk i => if mk.contains i then depsOf md ops i ++ mk else mk) mk, x ∉ tl ∧ l[x]? = some true := by
          intro is
          induction is with
          | nil => intro mk hm; exact hm
          | cons i is ih =>
            intro mk hm
            rw [List.foldl_cons]
            refine ih _ ?_
            split
            · rename_i hc
              intro x hx
              rcases List.mem_append.1 hx with hx | hx
              · have hi' := hm i (by simpa using hc)
                obtain ⟨o', ho', e, he, hb, rfl⟩ := mem_deps.1 hx
                exact ⟨(hs.back i o' ho' hi'.1 e he hb).2, h.down i hi'.1 hi'.2 _ hx⟩
              · exact hm x hx
            · exact hm
        have := (inv _ _ dep i (hall' i hlt hi)).2
        rw [hf] at this
        cases this
    exact ⟨by rw [← gd j hj]; exact h0, o, ho, fun e he hb => by rw [← gd _ (hs.back j o ho hj e he hb).2]; exact hall e he hb⟩
  · rintro ⟨h0, o, ho, hall⟩
    have hj : j ∉ tl := fun hj => by
      rw [Array.getD_eq_getD_getElem?, (h.tail j hj (lt_of_some ho)).2] at h0
      cases h0
    exact ⟨by rw [gd j hj]; exact h0, o, ho, fun e he hb => by rw [gd _ (hs.back j o ho hj e he hb).2]; exact hall e he hb⟩

theorem ready_least {tl : List Nat} (hs : SplitAt md ops tl) {l : Array Bool} (hl : l.size = ops.size) : ∀ i, i ∉ tl → l[i]? = some false → Region.ready md ops l ≠ [] := by
  intro i
  induction i using Nat.strongRecOn with
  | _ i ih =>
    intro hi hf
    by_cases hx : ∃ k, k < i ∧ k ∉ tl ∧ l[k]? = some false
    · obtain ⟨k, hk, hkt, hkf⟩ := hx
      exact ih k hk hkt hkf
    · intro h0
      have hlt : i < ops.size := by
        rw [← hl]
        rcases Nat.lt_or_ge i l.size with h' | h'
        · exact h'
        · rw [Array.getElem?_eq_none h'] at hf; cases hf
      have : i ∈ Region.ready md ops l := by
        rw [mem_ready]
        refine ⟨by rw [Array.getD_eq_getD_getElem?, hf]; rfl, ops[i], Array.getElem?_eq_getElem hlt, fun e he hb => ?_⟩
        obtain ⟨hlt', hnt⟩ := hs.back i _ (Array.getElem?_eq_getElem hlt) hi e he hb
        have hsz : e.on < l.size := by omega
        rw [Array.getD_eq_getD_getElem?, Array.getElem?_eq_getElem hsz]
        cases hv : l[e.on] with
        | true => rfl
        | false => exact absurd ⟨e.on, hlt', hnt, by rw [Array.getElem?_eq_getElem hsz, hv]⟩ hx
      rw [h0] at this
      cases this

/-- The list of the whole, when the first part is done. -/
def lastL (N : Nat) (tl : List Nat) : Array Bool := ((List.range N).map fun i => !tl.contains i).toArray
/-- The list with which the first part begins. -/
def firstL (N : Nat) (tl : List Nat) : Array Bool := ((List.range N).map fun i => tl.contains i).toArray

theorem wpAny_split {tl : List Nat} {g : Nat} (hs : SplitAt md ops tl) (hX : ∀ (a : Act) (w : World), X a w → wpAny P md ops Q g (lastL ops.size tl) a w) :
    ∀ (m : Nat) (l L : Array Bool) (a : Act) (w : World), Ext md ops ops.size tl l L → wpAny P md ops (headQ Q X) m l a w → wpAny P md ops Q (m + g) L a w := by
  intro m
  have fin : ∀ (l L : Array Bool), Ext md ops ops.size tl l L → (¬ ∃ i, i ∉ tl ∧ l[i]? = some false) → L = lastL ops.size tl := by
    intro l L h hu
    apply Array.ext_getElem?
    intro i
    have e0 : (lastL ops.size tl)[i]? = ((List.range ops.size).map fun i => !tl.contains i)[i]? := by unfold lastL; rw [List.getElem?_toArray]
    rw [e0, List.getElem?_map]
    rcases Nat.lt_or_ge i ops.size with hi | hi
    · rw [List.getElem?_range hi]
      by_cases ht : i ∈ tl
      · rw [(h.tail i ht hi).1]
        simp [ht]
      · rw [h.head i ht]
        have hsz : i < l.size := by rw [h.sl]; exact hi
        rw [Array.getElem?_eq_getElem hsz]
        cases hv : l[i] with
        | true => simp [ht]
        | false => exact absurd ⟨i, ht, by rw [Array.getElem?_eq_getElem hsz, hv]⟩ hu
    · rw [Array.getElem?_eq_none (by rw [h.sL]; exact hi), List.getElem?_eq_none (by simpa using hi)]
      rfl
  have empty : ∀ (l L : Array Bool), Ext md ops ops.size tl l L → (¬ ∃ i, i ∉ tl ∧ l[i]? = some false) → Region.ready md ops l = [] := by
    intro l L h hu
    apply List.eq_nil_iff_forall_not_mem.2
    intro i hi
    obtain ⟨h0, o, ho, _⟩ := mem_ready.1 hi
    have hsz : i < l.size := by rw [h.sl]; exact lt_of_some ho
    rw [Array.getD_eq_getD_getElem?, Array.getElem?_eq_getElem hsz] at h0
    have hf : l[i]? = some false := by rw [Array.getElem?_eq_getElem hsz]; exact congrArg some h0
    by_cases ht : i ∈ tl
    · rw [(h.tail i ht (lt_of_some ho)).2] at hf; cases hf
    · exact hu ⟨i, ht, hf⟩
  induction m with
  | zero =>
    intro l L a w h hw
    by_cases hu : ∃ i, i ∉ tl ∧ l[i]? = some false
    · obtain ⟨i, hi, hf⟩ := hu
      exact absurd hw.1 (ready_least hs h.sl i hi hf)
    · rw [Nat.zero_add, fin l L h hu]
      exact hX a w hw.2
  | succ m ih =>
    intro l L a w h hw
    by_cases hu : ∃ i, i ∉ tl ∧ l[i]? = some false
    · rw [show m + 1 + g = (m + g) + 1 by omega]
      refine ⟨fun h0 => ?_, fun i hi => ?_⟩
      · obtain ⟨i, hi, hf⟩ := hu
        refine absurd ?_ (ready_least hs h.sl i hi hf)
        apply List.eq_nil_iff_forall_not_mem.2
        intro j hj
        have := (ready_head hs h ⟨i, hi, hf⟩ j).2 hj
        rw [h0] at this
        cases this
      · have hi' := (ready_head hs h hu i).1 hi
        obtain ⟨h0, o, ho, _⟩ := mem_ready.1 hi'
        have hin : i ∉ tl := fun ht => by
          rw [Array.getD_eq_getD_getElem?, (h.tail i ht (lt_of_some ho)).2] at h0
          cases h0
        have hr : ∀ x ∈ depsOf md ops i, l[x]? = some true := fun x hx => by
          obtain ⟨_, o2, ho2, hall⟩ := mem_ready.1 hi'
          obtain ⟨o3, ho3, e, he, hb, rfl⟩ := mem_deps.1 hx
          rw [ho2] at ho3
          cases ho3
          have h1 := hall e he hb
          rw [Array.getD_eq_getD_getElem?] at h1
          cases hv : l[e.on]? with
          | none => rw [hv] at h1; cases h1
          | some b => rw [hv] at h1; exact congrArg some h1
        exact wpOp_head ho ho (hs.plain i o ho hin) (fun a w hh => ih _ _ a w (h.set hin hr) hh) (hw.2 i hi')
    · have := hX a w (hw.1 (empty l L h hu))
      rw [← fin l L h hu] at this
      rw [show m + 1 + g = g + (m + 1) by omega]
      exact wpAny_more _ _ _ _ _ this

/-- These numbers come up one by one, nothing else beside them. -/
def seqI (md : Region.Mode) (ops : Array Oper) : List Nat → Array Bool → Bool
  | [], listed => (Region.ready md ops listed).isEmpty
  | k :: ks, listed => decide (Region.ready md ops listed = [k]) && seqI md ops ks (listed.setIfInBounds k true)
/-- The operations of these numbers. -/
def opsAt (ops : Array Oper) (tl : List Nat) : List Oper := tl.filterMap fun i => ops[i]?

theorem wpAny_of_idx : ∀ (tl : List Nat) (listed : Array Bool) (a : Act) (w : World), (∀ i ∈ tl, i < ops.size) → seqI md ops tl listed = true → wpList P ops Q (opsAt ops tl) a w → wpAny P md ops Q tl.length listed a w
  | [], listed, a, w, _, hB, h => ⟨by simpa [seqI] using hB, h⟩
  | k :: ks, listed, a, w, hl, hB, h => by
    have h0 : ops[k]? = some (ops[k]'(hl k (by simp))) := Array.getElem?_eq_getElem _
    have hl2 : opsAt ops (k :: ks) = ops[k]'(hl k (by simp)) :: opsAt ops ks := by
      unfold opsAt
      rw [List.filterMap_cons, h0]
    rw [hl2] at h
    simp only [seqI, Bool.and_eq_true, decide_eq_true_eq] at hB
    refine ⟨fun h1 => (by rw [hB.1] at h1; cases h1), fun i hi => ?_⟩
    rw [hB.1] at hi
    have hik : i = k := by simpa using hi
    subst hik
    have hw : wpOp P ops Q i (wpList P ops Q (opsAt ops ks)) a w := by unfold wpOp; simp only [h0]; exact h
    exact wpOp_mono (fun a' w' h' => wpAny_of_idx ks _ a' w' (fun j hj => hl j (by simp [hj])) hB.2 h') hw
end

/-- The conditions, as a Bool. -/
def splitB (md : Region.Mode) (ops : Array Oper) (tl : List Nat) : Bool :=
  (tl.all fun i => decide (i < ops.size)) &&
  ((List.range ops.size).all fun i => match ops[i]? with
    | none => false
    | some o => if tl.contains i then (depsOf md ops i).any (fun x => tl.contains x) || (List.range ops.size).all fun k => tl.contains k || (closeOf md ops i).contains k
      else o.guard.isNone && o.after.all fun e => !Region.binds md e || (decide (e.on < i) && !tl.contains e.on)) &&
  seqI md ops tl (lastL ops.size tl)

theorem splitB_spec {md : Region.Mode} {ops : Array Oper} {tl : List Nat} (h : splitB md ops tl = true) : (∀ i ∈ tl, i < ops.size) ∧ SplitAt md ops tl ∧ seqI md ops tl (lastL ops.size tl) = true := by
  unfold splitB at h
  simp only [Bool.and_eq_true, List.all_eq_true, List.mem_range, decide_eq_true_eq] at h
  obtain ⟨⟨h1, h2⟩, h3⟩ := h
  refine ⟨h1, ⟨fun i o ho hi => ?_, fun i o ho hi e he hb => ?_, fun j hlt hj => ?_⟩, h3⟩
  · have := h2 i (lt_of_some ho)
    rw [ho] at this
    simp only [List.contains_iff_mem, hi, if_false, Bool.and_eq_true] at this
    exact Option.isNone_iff_eq_none.1 this.1
  · have := h2 i (lt_of_some ho)
    rw [ho] at this
    simp only [List.contains_iff_mem, hi, if_false, Bool.and_eq_true] at this
    have := Array.all_eq_true'.1 this.2 e he
    rw [hb] at this
    simpa using this
  · have ho : ops[j]? = some ops[j] := Array.getElem?_eq_getElem hlt
    have := h2 j hlt
    rw [ho] at this
    simp only [List.contains_iff_mem, hj, if_true, Bool.or_eq_true, List.any_eq_true, List.all_eq_true, List.mem_range] at this
    rcases this with h' | h'
    · exact .inl h'
    · refine .inr fun i hi ht => ?_
      rcases h' i hi with h'' | h''
      · exact absurd h'' ht
      · exact h''

/-- A region in two parts. -/
theorem wp_region_split {P : Program} {ops : Array Oper} {id : Nat} {Q : Exit → Act → World → Prop} {S : World → Prop} {a : Act} {w : World} (tl : List Nat) (m : Nat) (hm : P.follows .mixedOrders = true) (hB : splitB .any ops tl = true)
    (hn : m + tl.length = ops.size) (h : wpAnyH P .any ops (headQ Q (fun a w => wpList P ops Q (opsAt ops tl) a w)) S m (firstL ops.size tl) a w.drew) : (Code.region id ops true).wp P Q a w := by
  obtain ⟨hl, hs, hq⟩ := splitB_spec hB
  refine wp_region_any hm ?_
  have := wpAny_split hs (fun a w hh => wpAny_of_idx tl _ a w hl hq hh) m (firstL ops.size tl) (Array.replicate ops.size false) a w.drew ⟨by simp [firstL], by simp, fun i hi => ?_, fun i hi hN => ?_, fun i hi ht => ?_⟩ (wpAny_of_held _ _ _ _ h)
  · rw [hn] at this
    exact this
  · unfold firstL
    rw [Array.getElem?_replicate, List.getElem?_toArray, List.getElem?_map]
    split
    · rename_i hlt
      rw [List.getElem?_range hlt]
      simp [hi]
    · rename_i hge
      rw [List.getElem?_eq_none (by simpa using hge)]
      rfl
  · unfold firstL
    rw [Array.getElem?_replicate, if_pos hN, List.getElem?_toArray, List.getElem?_map, List.getElem?_range hN]
    simp [hi]
  · exfalso
    unfold firstL at ht
    rw [List.getElem?_toArray, List.getElem?_map] at ht
    rcases Nat.lt_or_ge i ops.size with hlt | hge
    · rw [List.getElem?_range hlt] at ht
      simp [hi] at ht
    · rw [List.getElem?_eq_none (by simpa using hge)] at ht
      cases ht
end Go.Proofs.Ytiggelffmfinoaa
