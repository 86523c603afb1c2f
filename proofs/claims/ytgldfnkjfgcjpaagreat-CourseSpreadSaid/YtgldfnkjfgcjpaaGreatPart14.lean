/-
Loops in another order: plain mathematics of courses.
  What is proved: there are as many right courses, with the same rules to be given up, and the same cheapest snow; and what is twice as great has the same courses.
  Conditions: each lemma states its own.
Loops in another order, and numbers that are twice as great: plain mathematics of courses.
  What is proved: the same cheapest snow; the same courses.
  Conditions: each lemma states its own.
Rules that are given up, of lists: with those that Yield returns set wide some course is right,
  and with all but one of them set wide none is.
  No program is named here. Conditions: stadiums and rules that Check passes.
The contracts of klisterkit.Of, and of Between and Coin of a deck, over this seat's program.
  What is proved: what is dealt lies within its bounds; only the deck itself turns.
  Conditions: a deck that has dealt at most 1000000 times.
The contracts of klisterkit.Clone, of the conversions to the reference's types, and of Equal for loops, over this seat's program.
  What is proved: a clone, and what is converted, read as the list that came in; Equal says whether two lists are the same.
  Conditions: lists of at most 1000 elements.
-/
import Derived.Test.YtgldfnkjfgcjpaaGreatPart13
namespace Go.Proofs.YtgldfnkjfgcjpaaGreat
open Go.RowKit

/-- A list in order. -/
def sortI (c : List Int) : List Int := c.mergeSort (fun a b => decide (a ≤ b))
theorem sortI_perm (c : List Int) : (sortI c).Perm c := List.mergeSort_perm _ _
theorem sortI_pair (c : List Int) : (sortI c).Pairwise (fun a b => a ≤ b) := by
  have := List.pairwise_mergeSort (le := fun a b : Int => decide (a ≤ b)) (by intro a b c h1 h2; simp at *; omega) (by intro a b; simp; omega) c
  exact this.imp (by intro a b h; simpa using h)
theorem pair_eq {a b : List Int} (ha : a.Pairwise (fun a b => a ≤ b)) (hb : b.Pairwise (fun a b => a ≤ b)) (h : a.Perm b) : a = b :=
  List.Perm.eq_of_pairwise (fun _ _ _ _ h1 h2 => Int.le_antisymm h1 h2) ha hb h
theorem sf_pair : ∀ (c : List Int) (m : Int), sf m c = true ↔ (∀ x ∈ c, m ≤ x) ∧ c.Pairwise (fun a b => a ≤ b)
  | [], m => by simp [sf]
  | x :: t, m => by
    rw [sf, Bool.and_eq_true, decide_eq_true_eq, sf_pair t x, List.pairwise_cons]
    constructor
    · rintro ⟨h1, h2, h3⟩
      refine ⟨fun y hy => ?_, h2, h3⟩
      rcases List.mem_cons.1 hy with rfl | hy
      · exact h1
      · exact Int.le_trans h1 (h2 y hy)
    · rintro ⟨h1, h2, h3⟩
      exact ⟨h1 x List.mem_cons_self, h2, h3⟩
theorem allC_mk (L : Nat) : ∀ (c : List Int), (∀ i ∈ c, 0 ≤ i ∧ i < (L : Int)) → c ∈ allC L c.length
  | [], _ => by simp [allC]
  | x :: t, h => by
    have hx := h x List.mem_cons_self
    have ht := allC_mk L t (fun i hi => h i (List.mem_cons_of_mem _ hi))
    rw [List.length_cons, allC, List.mem_flatten]
    refine ⟨_, List.mem_map.2 ⟨x.toNat, List.mem_range.2 (by omega), rfl⟩, List.mem_map.2 ⟨t, ht, ?_⟩⟩
    rw [Int.toNat_of_nonneg hx.1]
theorem ext_filter (L d : Nat) : extC L d [] 0 = (allC L d).filter (sf 0) := by
  rw [ext_all L d [] 0 (Nat.zero_le _)]
  simp only [List.nil_append, List.map_id']
  rfl
theorem ext_mem (L d : Nat) (c : List Int) : c ∈ extC L d [] 0 ↔ c.length = d ∧ (∀ i ∈ c, 0 ≤ i ∧ i < (L : Int)) ∧ c.Pairwise (fun a b => a ≤ b) := by
  rw [ext_filter, List.mem_filter, sf_pair]
  constructor
  · rintro ⟨h1, _, h3⟩
    obtain ⟨a, b⟩ := allC_mem L d c h1
    exact ⟨a, b, h3⟩
  · rintro ⟨rfl, h2, h3⟩
    exact ⟨allC_mk L c h2, fun x hx => (h2 x hx).1, h3⟩
theorem allC_nodup (L : Nat) : ∀ d : Nat, (allC L d).Nodup
  | 0 => by simp [allC]
  | d + 1 => by
    rw [allC]
    refine List.pairwise_flatten.2 ⟨fun l hl => ?_, ?_⟩
    · obtain ⟨i, _, rfl⟩ := List.mem_map.1 hl
      exact List.pairwise_map.2 ((allC_nodup L d).imp (fun h e => h (List.cons.inj e).2))
    · refine List.pairwise_map.2 ((List.nodup_range (n := L)).imp (fun {a b} hab x hx y hy e => ?_))
      obtain ⟨t, _, rfl⟩ := List.mem_map.1 hx
      obtain ⟨u, _, rfl⟩ := List.mem_map.1 hy
      have := (List.cons.inj e).1
      exact hab (by omega)
theorem ext_nodup (L d : Nat) : (extC L d [] 0).Nodup := by
  rw [ext_filter]; exact List.Pairwise.filter _ (allC_nodup L d)
theorem perm_of_sub : ∀ (l1 l2 : List (List Int)), l1.Nodup → (∀ x ∈ l1, x ∈ l2) → l2.length ≤ l1.length → l1.Perm l2
  | [], l2, _, _, h => by
    have : l2 = [] := List.eq_nil_of_length_eq_zero (by simpa using h)
    subst this; exact List.Perm.refl _
  | a :: t, l2, hn, hs, hl => by
    obtain ⟨ha, ht⟩ := List.pairwise_cons.1 hn
    have ha2 := hs a List.mem_cons_self
    have hp := List.perm_cons_erase ha2
    have hlen := hp.length_eq
    refine ((perm_of_sub t (l2.erase a) ht (fun x hx => ?_) (by simp at hlen hl; omega)).cons a).trans hp.symm
    exact (List.mem_erase_of_ne (fun e => ha x hx e.symm)).2 (hs x (List.mem_cons_of_mem _ hx))

theorem foldl_add (xs : List Int) : ∀ a : Int, xs.foldl (· + ·) a = a + sumI xs := by
  induction xs with
  | nil => intro a; simp [sumI]
  | cons x t ih => intro a; rw [sumI, List.foldl_cons, List.foldl_cons, ih, ih]; omega
theorem sumI_cons (x : Int) (t : List Int) : sumI (x :: t) = x + sumI t := by
  rw [sumI, List.foldl_cons, foldl_add]; omega
theorem sumI_perm {a b : List Int} (h : a.Perm b) : sumI a = sumI b := by
  induction h with
  | nil => rfl
  | cons x _ ih => rw [sumI_cons, sumI_cons, ih]
  | swap x y l => rw [sumI_cons, sumI_cons, sumI_cons, sumI_cons]; omega
  | trans _ _ h1 h2 => exact h1.trans h2
theorem often_perm {a b : List Int} (h : a.Perm b) (u : Int) : oftenB a u = oftenB b u := by
  unfold oftenB
  rw [h.any_eq]
  congr 1
  funext i
  rw [h.count_eq]
theorem judge_perm (xs : List Lp) (r : Ru) {a b : List Int} (h : a.Perm b) : judgeM xs r a = judgeM xs r b := by
  unfold judgeM
  rw [sumI_perm (h.map (lenAt xs)), sumI_perm (h.map (climbAt xs)), (h.map (lenAt xs)).all_eq, h.all_eq, often_perm h]

/-- An order of loops: mixed has them so. -/
structure Ord (n : Nat) (o : List Int) (xs ys : List Lp) : Prop where
  lx : xs.length = n
  ly : ys.length = n
  p : o.Perm ((List.range n).map Int.ofNat)
  at' : ∀ j : Nat, j < n → ys[j]? = xs[(o[j]?.getD 0).toNat]?
/-- The loop that a number names. -/
def nameO (o : List Int) (j : Int) : Int := o[j.toNat]?.getD 0
theorem Ord.len {n : Nat} {o : List Int} {xs ys : List Lp} (h : Ord n o xs ys) : o.length = n := by simpa using h.p.length_eq
theorem Ord.get {n : Nat} {o : List Int} {xs ys : List Lp} (h : Ord n o xs ys) {j : Nat} (hj : j < n) : ∃ k : Nat, k < n ∧ o[j]? = some (k : Int) := by
  have hl := h.len
  have hm : o[j]'(by omega) ∈ o := List.getElem_mem _
  obtain ⟨k, hk, e⟩ := List.mem_map.1 (h.p.mem_iff.1 hm)
  refine ⟨k, List.mem_range.1 hk, ?_⟩
  rw [List.getElem?_eq_getElem (by omega), ← e]
  rfl
theorem Ord.name {n : Nat} {o : List Int} {xs ys : List Lp} (h : Ord n o xs ys) {j : Int} (h0 : 0 ≤ j ∧ j < n) : 0 ≤ nameO o j ∧ nameO o j < n := by
  obtain ⟨k, hk, e⟩ := h.get (j := j.toNat) (by omega)
  rw [nameO, e]
  show 0 ≤ (k : Int) ∧ (k : Int) < n
  omega
theorem Ord.nodup {n : Nat} {o : List Int} {xs ys : List Lp} (h : Ord n o xs ys) : o.Nodup := by
  have h1 : ((List.range n).map Int.ofNat).Nodup := List.pairwise_map.2 ((List.nodup_range (n := n)).imp (fun h e => h (Int.ofNat.inj e)))
  exact h.p.symm.pairwise h1 (fun h e => h e.symm)
theorem Ord.inj {n : Nat} {o : List Int} {xs ys : List Lp} (h : Ord n o xs ys) {i j : Int} (hi : 0 ≤ i ∧ i < n) (hj : 0 ≤ j ∧ j < n) (e : nameO o i = nameO o j) : i = j := by
  have hl := h.len
  have hn := List.pairwise_iff_getElem.1 h.nodup
  unfold nameO at e
  rw [List.getElem?_eq_getElem (show i.toNat < o.length by omega), List.getElem?_eq_getElem (show j.toNat < o.length by omega)] at e
  rcases Nat.lt_trichotomy i.toNat j.toNat with hh | hh | hh
  · exact absurd e (hn _ _ _ _ hh)
  · omega
  · exact absurd e.symm (hn _ _ _ _ hh)
theorem Ord.lenAt {n : Nat} {o : List Int} {xs ys : List Lp} (h : Ord n o xs ys) {j : Int} (hj : 0 ≤ j ∧ j < n) : ys[j.toNat]? = xs[(nameO o j).toNat]? := h.at' j.toNat (by omega)
theorem Ord.count {n : Nat} {o : List Int} {xs ys : List Lp} (h : Ord n o xs ys) (c : List Int) (hc : ∀ i ∈ c, 0 ≤ i ∧ i < (n : Int)) {x : Int} (hx : 0 ≤ x ∧ x < n) : (c.map (nameO o)).count (nameO o x) = c.count x := by
  induction c with
  | nil => rfl
  | cons y t ih =>
    rw [List.map_cons, List.count_cons, List.count_cons, ih (fun i hi => hc i (List.mem_cons_of_mem _ hi))]
    congr 1
    have hy := hc y List.mem_cons_self
    by_cases e : y = x
    · simp [e]
    · have : ¬ nameO o y = nameO o x := fun hh => e (h.inj hy hx hh)
      simp [e, this]
theorem Ord.judge {n : Nat} {o : List Int} {xs ys : List Lp} (h : Ord n o xs ys) (r : Ru) (c : List Int) (hc : ∀ i ∈ c, 0 ≤ i ∧ i < (n : Int)) : judgeM ys r c = judgeM xs r (c.map (nameO o)) := by
  have e1 : c.map (Go.Proofs.YtgldfnkjfgcjpaaGreat.lenAt ys) = (c.map (nameO o)).map (Go.Proofs.YtgldfnkjfgcjpaaGreat.lenAt xs) := by
    rw [List.map_map]; exact List.map_congr_left (fun i hi => by simp only [Function.comp_apply, Go.Proofs.YtgldfnkjfgcjpaaGreat.lenAt]; rw [h.lenAt (hc i hi)])
  have e2 : c.map (climbAt ys) = (c.map (nameO o)).map (climbAt xs) := by
    rw [List.map_map]; exact List.map_congr_left (fun i hi => by simp only [Function.comp_apply, climbAt]; rw [h.lenAt (hc i hi)])
  have ew : ∀ i ∈ c, wideAt ys i = wideAt xs (nameO o i) := fun i hi => by unfold wideAt; rw [h.lenAt (hc i hi)]
  have e3 : c.all (fun i => decide (r.wide ≤ wideAt ys i)) = (c.map (nameO o)).all (fun i => decide (r.wide ≤ wideAt xs i)) := by
    rw [List.all_map, Bool.eq_iff_iff, List.all_eq_true, List.all_eq_true]
    constructor
    · intro hh i hi
      have := hh i hi
      rw [ew i hi] at this
      exact this
    · intro hh i hi
      have := hh i hi
      simp only [Function.comp_apply] at this
      rw [ew i hi]
      exact this
  have e4 : oftenB c r.uses = oftenB (c.map (nameO o)) r.uses := by
    unfold oftenB
    rw [List.any_map, Bool.eq_iff_iff, List.any_eq_true, List.any_eq_true]
    constructor
    · rintro ⟨i, hi, hh⟩
      exact ⟨i, hi, by simp only [Function.comp_apply]; rw [h.count c hc (hc i hi)]; exact hh⟩
    · rintro ⟨i, hi, hh⟩
      refine ⟨i, hi, ?_⟩
      simp only [Function.comp_apply] at hh
      rw [h.count c hc (hc i hi)] at hh; exact hh
  unfold judgeM
  rw [e1, e2, e3, e4]

/-- A course by the other names. -/
def turnO (o : List Int) (c : List Int) : List Int := sortI (c.map (nameO o))
theorem Ord.turn_mem {n : Nat} {o : List Int} {xs ys : List Lp} (h : Ord n o xs ys) {d : Nat} {c : List Int} (hc : c ∈ extC n d [] 0) : turnO o c ∈ extC n d [] 0 := by
  obtain ⟨h1, h2, _⟩ := (ext_mem n d c).1 hc
  refine (ext_mem n d _).2 ⟨?_, fun i hi => ?_, sortI_pair _⟩
  · rw [turnO, (sortI_perm _).length_eq, List.length_map]; exact h1
  · obtain ⟨j, hj, rfl⟩ := List.mem_map.1 ((sortI_perm _).mem_iff.1 hi)
    exact h.name (h2 j hj)
theorem Ord.turn_inj {n : Nat} {o : List Int} {xs ys : List Lp} (h : Ord n o xs ys) {d : Nat} {c b : List Int} (hc : c ∈ extC n d [] 0) (hb : b ∈ extC n d [] 0) (e : turnO o c = turnO o b) : c = b := by
  obtain ⟨_, c2, c3⟩ := (ext_mem n d c).1 hc
  obtain ⟨_, b2, b3⟩ := (ext_mem n d b).1 hb
  have hp : (c.map (nameO o)).Perm (b.map (nameO o)) := (sortI_perm _).symm.trans ((by rw [← turnO, e, turnO] : sortI (c.map (nameO o)) = sortI (b.map (nameO o))) ▸ sortI_perm _)
  refine pair_eq c3 b3 (List.perm_iff_count.2 fun x => ?_)
  by_cases hx : 0 ≤ x ∧ x < (n : Int)
  · rw [← h.count c c2 hx, ← h.count b b2 hx]; exact hp.count_eq _
  · rw [List.count_eq_zero_of_not_mem (fun hm => hx (c2 x hm)), List.count_eq_zero_of_not_mem (fun hm => hx (b2 x hm))]
theorem Ord.turn_perm {n : Nat} {o : List Int} {xs ys : List Lp} (h : Ord n o xs ys) (d : Nat) : ((extC n d [] 0).map (turnO o)).Perm (extC n d [] 0) := by
  refine perm_of_sub _ _ ?_ (fun x hx => ?_) (by simp)
  · rw [List.Nodup, List.pairwise_map]
    refine List.Pairwise.imp_of_mem (fun {a b} ha hb hab e => hab (h.turn_inj ha hb e)) (ext_nodup n d)
  · obtain ⟨c, hc, rfl⟩ := List.mem_map.1 hx
    exact h.turn_mem hc
theorem Ord.judge_turn {n : Nat} {o : List Int} {xs ys : List Lp} (h : Ord n o xs ys) (r : Ru) {d : Nat} {c : List Int} (hc : c ∈ extC n d [] 0) : judgeM ys r c = judgeM xs r (turnO o c) := by
  rw [h.judge r c ((ext_mem n d c).1 hc).2.1]
  exact (judge_perm xs r (sortI_perm _)).symm
theorem Ord.right_perm {n : Nat} {o : List Int} {xs ys : List Lp} (h : Ord n o xs ys) (r : Ru) : ((rightL ys r).map (turnO o)).Perm (rightL xs r) := by
  have e : (rightL ys r).map (turnO o) = ((extC n r.laps.toNat [] 0).map (turnO o)).filter (okC xs r) := by
    rw [List.filter_map]
    unfold rightL
    rw [h.ly]
    congr 1
    apply List.filter_congr
    intro c hc
    simp only [Function.comp_apply, okC]
    rw [h.judge_turn r hc]
  rw [e]
  unfold rightL
  rw [h.lx]
  exact (h.turn_perm _).filter _
theorem Ord.right_len {n : Nat} {o : List Int} {xs ys : List Lp} (h : Ord n o xs ys) (r : Ru) : (rightL ys r).length = (rightL xs r).length := by
  have := (h.right_perm r).length_eq
  rw [List.length_map] at this
  exact this

theorem cmpI_cases (x y : Int) : (x < y ∧ cmpI x y = -1) ∨ (x = y ∧ cmpI x y = 0) ∨ (y < x ∧ cmpI x y = 1) := by
  unfold cmpI
  split
  · exact .inl ⟨by assumption, rfl⟩
  · split
    · exact .inr (.inr ⟨by assumption, rfl⟩)
    · exact .inr (.inl ⟨by omega, rfl⟩)
theorem cmpL_trans : ∀ (x y z : List Int), 0 ≤ cmpL x y → 0 ≤ cmpL y z → 0 ≤ cmpL x z
  | [], [], z, _, h => h
  | [], _ :: _, _, h, _ => by simp [cmpL] at h
  | _ :: _, [], [], _, _ => by simp [cmpL]
  | _ :: _, [], _ :: _, _, h => by simp [cmpL] at h
  | _ :: _, _ :: _, [], _, _ => by simp [cmpL]
  | a :: x, b :: y, c :: z, h1, h2 => by
    rw [cmpL] at h1 h2 ⊢
    rcases cmpI_cases a b with ⟨p1, p2⟩ | ⟨p1, p2⟩ | ⟨p1, p2⟩ <;> rcases cmpI_cases b c with ⟨q1, q2⟩ | ⟨q1, q2⟩ | ⟨q1, q2⟩ <;> rcases cmpI_cases a c with ⟨r1, r2⟩ | ⟨r1, r2⟩ | ⟨r1, r2⟩ <;> rw [p2] at h1 <;> rw [q2] at h2 <;> rw [r2] <;> simp at h1 h2 ⊢ <;> first | omega | (exact cmpL_trans x y z h1 h2) | skip
theorem cmpL_anti : ∀ (x y : List Int), 0 ≤ cmpL x y → 0 ≤ cmpL y x → x = y
  | [], [], _, _ => rfl
  | [], _ :: _, h, _ => by simp [cmpL] at h
  | _ :: _, [], _, h => by simp [cmpL] at h
  | a :: x, b :: y, h1, h2 => by
    rw [cmpL] at h1 h2
    rcases cmpI_cases a b with ⟨p1, p2⟩ | ⟨p1, p2⟩ | ⟨p1, p2⟩ <;> rcases cmpI_cases b a with ⟨q1, q2⟩ | ⟨q1, q2⟩ | ⟨q1, q2⟩ <;> rw [p2] at h1 <;> rw [q2] at h2 <;> simp at h1 h2 <;> first | omega | (rw [p1, cmpL_anti x y h1 h2])
theorem before_no {x y : List Int} : beforeB x y = false ↔ y.length < x.length ∨ (x.length = y.length ∧ 0 ≤ cmpL x y) := by
  unfold beforeB
  split
  · rename_i h
    rw [decide_eq_false_iff_not]
    constructor
    · intro hh; exact .inr ⟨h, by omega⟩
    · rintro (hh | ⟨_, hh⟩) <;> omega
  · rename_i h
    rw [decide_eq_false_iff_not]
    constructor
    · intro hh; exact .inl (by omega)
    · rintro (hh | ⟨hh, _⟩)
      · omega
      · exact absurd hh h
theorem before_trans {x y z : List Int} (h1 : beforeB x y = false) (h2 : beforeB y z = false) : beforeB x z = false := by
  rw [before_no] at *
  rcases h1 with h1 | ⟨h1, k1⟩ <;> rcases h2 with h2 | ⟨h2, k2⟩
  · exact .inl (by omega)
  · exact .inl (by omega)
  · exact .inl (by omega)
  · exact .inr ⟨by omega, cmpL_trans x y z k1 k2⟩
theorem before_anti {x y : List Int} (h1 : beforeB x y = false) (h2 : beforeB y x = false) : x = y := by
  rw [before_no] at *
  rcases h1 with h1 | ⟨h1, k1⟩ <;> rcases h2 with h2 | ⟨h2, k2⟩
  · omega
  · omega
  · omega
  · exact cmpL_anti x y k1 k2
theorem cmpL_self : ∀ x : List Int, cmpL x x = 0
  | [] => rfl
  | a :: x => by rw [cmpL, if_pos (by simp [cmpI]), cmpL_self x]
theorem before_self (x : List Int) : beforeB x x = false := before_no.2 (.inr ⟨rfl, by rw [cmpL_self]; exact Int.le_refl _⟩)
theorem cmpL_flip : ∀ (x y : List Int), cmpL x y < 0 → 0 ≤ cmpL y x
  | [], [], h => by simp [cmpL] at h
  | [], _ :: _, _ => by simp [cmpL]
  | _ :: _, [], h => by simp [cmpL] at h
  | a :: x, b :: y, h => by
    rw [cmpL] at h ⊢
    rcases cmpI_cases a b with ⟨p1, p2⟩ | ⟨p1, p2⟩ | ⟨p1, p2⟩ <;> rcases cmpI_cases b a with ⟨q1, q2⟩ | ⟨q1, q2⟩ | ⟨q1, q2⟩ <;> rw [p2] at h <;> rw [q2] <;> simp at h ⊢ <;> first | omega | (exact cmpL_flip x y h) | skip
theorem before_flip {x y : List Int} (h : beforeB x y = true) : beforeB y x = false := by
  rw [before_no]
  unfold beforeB at h
  split at h
  · rename_i e
    exact .inr ⟨e.symm, cmpL_flip x y (by simpa using h)⟩
  · exact .inl (by simpa using h)

/-- The rules that are given up are the least ones. -/
theorem yFold_min (xs : List Lp) (r : Ru) : ∀ (cs : List (List Int)) (b f : List Int), ∃ b' f', cs.foldl (yStep xs r) (some (b, f)) = some (b', f') ∧ (b' = b ∨ ∃ c ∈ cs, rulesL (judgeM xs r c) = b') ∧ beforeB b b' = false ∧ ∀ c ∈ cs, beforeB (rulesL (judgeM xs r c)) b' = false
  | [], b, f => ⟨b, f, rfl, .inl rfl, before_self b, fun c hc => by cases hc⟩
  | c :: cs, b, f => by
    cases hb : beforeB (rulesL (judgeM xs r c)) b
    · obtain ⟨b', f', h1, h2, h3, h4⟩ := yFold_min xs r cs b f
      refine ⟨b', f', by rw [List.foldl_cons, yStep]; simp only [hb]; exact h1, ?_, h3, fun c' hc => ?_⟩
      · rcases h2 with h2 | ⟨c', hc, h2⟩
        · exact .inl h2
        · exact .inr ⟨c', List.mem_cons_of_mem _ hc, h2⟩
      · rcases List.mem_cons.1 hc with rfl | hc
        · exact before_trans hb h3
        · exact h4 c' hc
    · obtain ⟨b', f', h1, h2, h3, h4⟩ := yFold_min xs r cs (rulesL (judgeM xs r c)) c
      refine ⟨b', f', by rw [List.foldl_cons, yStep]; simp only [hb]; exact h1, ?_, before_trans (before_flip hb) h3, fun c' hc => ?_⟩
      · rcases h2 with h2 | ⟨c', hc, h2⟩
        · exact .inr ⟨c, List.mem_cons_self, h2.symm⟩
        · exact .inr ⟨c', List.mem_cons_of_mem _ hc, h2⟩
      · rcases List.mem_cons.1 hc with rfl | hc
        · exact h3
        · exact h4 c' hc
theorem yOf_min (xs : List Lp) (r : Ru) (cs : List (List Int)) (h : cs ≠ []) : ∃ b f, yOf xs r cs = some (b, f) ∧ (∃ c ∈ cs, rulesL (judgeM xs r c) = b) ∧ ∀ c ∈ cs, beforeB (rulesL (judgeM xs r c)) b = false := by
  cases cs with
  | nil => exact absurd rfl h
  | cons c cs =>
    obtain ⟨b, f, h1, h2, h3, h4⟩ := yFold_min xs r cs (rulesL (judgeM xs r c)) c
    refine ⟨b, f, h1, ?_, fun c' hc => ?_⟩
    · rcases h2 with h2 | ⟨c', hc, h2⟩
      · exact ⟨c, List.mem_cons_self, h2.symm⟩
      · exact ⟨c', List.mem_cons_of_mem _ hc, h2⟩
    · rcases List.mem_cons.1 hc with rfl | hc
      · exact h3
      · exact h4 c' hc
theorem Ord.yield {n : Nat} {o : List Int} {xs ys : List Lp} (h : Ord n o xs ys) (r : Ru) (hx : checkE xs r = 0) (hy : checkE ys r = 0) : (yieldR ys r).1 = (yieldR xs r).1 ∧ (yieldR ys r).2.2 = 0 ∧ (yieldR xs r).2.2 = 0 := by
  obtain ⟨hl1, hl2⟩ := (stad_ok (check_ok hx).1).2
  have hd := laps_nat hx
  have hne : extC n r.laps.toNat [] 0 ≠ [] := by
    have := ext_one n r.laps.toNat (by rw [← h.lx]; exact ⟨hl1, hl2⟩)
    intro e; rw [e] at this; simp at this
  obtain ⟨b1, f1, a1, ⟨c1, m1, k1⟩, g1⟩ := yOf_min xs r _ hne
  obtain ⟨b2, f2, a2, ⟨c2, m2, k2⟩, g2⟩ := yOf_min ys r _ hne
  rw [yieldR, yieldR, if_pos hx, if_pos hy, h.lx, h.ly, a1, a2]
  refine ⟨before_anti ?_ ?_, rfl, rfl⟩
  · show beforeB b2 b1 = false
    rw [← k2, h.judge_turn r m2]
    exact g1 _ (h.turn_mem m2)
  · show beforeB b1 b2 = false
    have hm : c1 ∈ (extC n r.laps.toNat [] 0).map (turnO o) := (h.turn_perm _).mem_iff.2 m1
    obtain ⟨c, hc, rfl⟩ := List.mem_map.1 hm
    rw [← k1, ← h.judge_turn r hc]
    exact g2 _ hc
end Go.Proofs.YtgldfnkjfgcjpaaGreat

namespace Go.Proofs.YtgldfnkjfgcjpaaGreat
open Go.RowKit

/-- What a loop adds to the area. -/
def areaOne (xs : List Lp) (c : List Int) (i : Int) : Int := if c.contains i = true then (match xs[i.toNat]? with | some x => x.l * x.d | none => 0) else 0
theorem sumI_append (a b : List Int) : sumI (a ++ b) = sumI a + sumI b := by
  rw [sumI, List.foldl_append, foldl_add]; rfl
theorem areaTo_sum (xs : List Lp) (c : List Int) : ∀ k : Nat, areaTo xs c k = sumI ((List.range k).map (fun (i : Nat) => areaOne xs c (i : Int)))
  | 0 => rfl
  | k + 1 => by
    rw [areaTo, areaTo_sum xs c k, List.range_succ, List.map_append, sumI_append]
    congr 1
    show _ = sumI [areaOne xs c (k : Int)]
    rw [sumI_cons]
    unfold areaOne
    rw [Int.toNat_natCast, show sumI [] = 0 from rfl, Int.add_zero]
    cases xs[k]? <;> rfl
theorem area_perm (xs : List Lp) {a b : List Int} (h : a.Perm b) : areaL xs a = areaL xs b := by
  unfold areaL
  rw [areaTo_sum, areaTo_sum]
  congr 1
  apply List.map_congr_left
  intro i _
  unfold areaOne
  have : a.contains (i : Int) = b.contains (i : Int) := by
    rw [Bool.eq_iff_iff, List.contains_iff_mem, List.contains_iff_mem]; exact h.mem_iff
  rw [this]
theorem Ord.area {n : Nat} {o : List Int} {xs ys : List Lp} (h : Ord n o xs ys) (c : List Int) (hc : ∀ i ∈ c, 0 ≤ i ∧ i < (n : Int)) : areaL ys c = areaL xs (c.map (nameO o)) := by
  unfold areaL
  rw [areaTo_sum, areaTo_sum, h.lx, h.ly]
  have e : (List.range n).map (fun (i : Nat) => areaOne ys c (i : Int)) = o.map (areaOne xs (c.map (nameO o))) := by
    apply List.ext_getElem?
    intro j
    rw [List.getElem?_map, List.getElem?_map]
    by_cases hj : j < n
    · obtain ⟨k, hk, e⟩ := h.get hj
      rw [List.getElem?_range hj, e]
      show some _ = some _
      congr 1
      have hn : nameO o (j : Int) = (k : Int) := by unfold nameO; rw [Int.toNat_natCast, e]; rfl
      have hcc : (c.map (nameO o)).contains (k : Int) = c.contains (j : Int) := by
        rw [Bool.eq_iff_iff, List.contains_iff_mem, List.contains_iff_mem]
        constructor
        · intro hm
          obtain ⟨i, hi, hh⟩ := List.mem_map.1 hm
          have := h.inj (hc i hi) (j := (j : Int)) (by omega) (by rw [hh, hn])
          rw [← this]; exact hi
        · intro hm
          exact List.mem_map.2 ⟨_, hm, hn⟩
      show areaOne ys c (j : Int) = areaOne xs (c.map (nameO o)) (k : Int)
      unfold areaOne
      rw [hcc, h.lenAt (j := (j : Int)) (by omega), hn]
    · have hl := h.len
      rw [List.getElem?_eq_none (by simp; omega), List.getElem?_eq_none (by omega)]; rfl
  rw [e, sumI_perm (h.p.map _), List.map_map]
  rfl
theorem Ord.snow {n : Nat} {o : List Int} {xs ys : List Lp} (h : Ord n o xs ys) (depth : Int) {d : Nat} {c : List Int} (hc : c ∈ extC n d [] 0) : snowL ys c depth = snowL xs (turnO o c) depth := by
  unfold snowL
  rw [h.area c ((ext_mem n d c).1 hc).2.1, turnO, area_perm xs (sortI_perm _)]

theorem bFold_min (xs : List Lp) (depth : Int) : ∀ (cs : List (List Int)) (b : List Int) (m : Int), ∃ b' m', cs.foldl (bestStep xs depth) (some (b, m)) = some (b', m') ∧ (m' = m ∨ ∃ c ∈ cs, snowL xs c depth = m') ∧ m' ≤ m ∧ ∀ c ∈ cs, m' ≤ snowL xs c depth
  | [], b, m => ⟨b, m, rfl, .inl rfl, Int.le_refl _, fun c hc => by cases hc⟩
  | c :: cs, b, m => by
    by_cases hb : snowL xs c depth < m
    · obtain ⟨b', m', h1, h2, h3, h4⟩ := bFold_min xs depth cs c (snowL xs c depth)
      refine ⟨b', m', by rw [List.foldl_cons, bestStep]; simp only [if_pos hb]; exact h1, ?_, by omega, fun c' hc => ?_⟩
      · rcases h2 with h2 | ⟨c', hc, h2⟩
        · exact .inr ⟨c, List.mem_cons_self, h2.symm⟩
        · exact .inr ⟨c', List.mem_cons_of_mem _ hc, h2⟩
      · rcases List.mem_cons.1 hc with rfl | hc
        · exact h3
        · exact h4 c' hc
    · obtain ⟨b', m', h1, h2, h3, h4⟩ := bFold_min xs depth cs b m
      refine ⟨b', m', by rw [List.foldl_cons, bestStep]; simp only [if_neg hb]; exact h1, ?_, h3, fun c' hc => ?_⟩
      · rcases h2 with h2 | ⟨c', hc, h2⟩
        · exact .inl h2
        · exact .inr ⟨c', List.mem_cons_of_mem _ hc, h2⟩
      · rcases List.mem_cons.1 hc with rfl | hc
        · omega
        · exact h4 c' hc
theorem bestOf_min (xs : List Lp) (depth : Int) (cs : List (List Int)) (h : cs ≠ []) : ∃ b m, bestOf xs depth cs = some (b, m) ∧ (∃ c ∈ cs, snowL xs c depth = m) ∧ ∀ c ∈ cs, m ≤ snowL xs c depth := by
  cases cs with
  | nil => exact absurd rfl h
  | cons c cs =>
    obtain ⟨b, m, h1, h2, h3, h4⟩ := bFold_min xs depth cs c (snowL xs c depth)
    refine ⟨b, m, h1, ?_, fun c' hc => ?_⟩
    · rcases h2 with h2 | ⟨c', hc, h2⟩
      · exact ⟨c, List.mem_cons_self, h2.symm⟩
      · exact ⟨c', List.mem_cons_of_mem _ hc, h2⟩
    · rcases List.mem_cons.1 hc with rfl | hc
      · exact h3
      · exact h4 c' hc
theorem Ord.cheap {n : Nat} {o : List Int} {xs ys : List Lp} (h : Ord n o xs ys) (r : Ru) (depth : Int) (hx : checkE xs r = 0) (hy : checkE ys r = 0) : (cheapR ys r depth).2 = (cheapR xs r depth).2 := by
  rw [cheapR, cheapR, if_pos hx, if_pos hy]
  split
  · have hp := h.right_perm r
    have hs : ∀ c ∈ rightL ys r, snowL ys c depth = snowL xs (turnO o c) depth := fun c hc => by
      have hc' := (List.mem_filter.1 hc).1
      rw [h.ly] at hc'
      exact h.snow depth hc'
    by_cases h0 : rightL xs r = []
    · have : rightL ys r = [] := by
        have := h.right_len r
        rw [h0] at this
        exact List.eq_nil_of_length_eq_zero this
      rw [this, h0]; rfl
    · have h1 : rightL ys r ≠ [] := fun e => h0 (List.eq_nil_of_length_eq_zero (by rw [← h.right_len r, e]; rfl))
      obtain ⟨b1, m1, a1, ⟨c1, k1, e1⟩, g1⟩ := bestOf_min xs depth _ h0
      obtain ⟨b2, m2, a2, ⟨c2, k2, e2⟩, g2⟩ := bestOf_min ys depth _ h1
      rw [a1, a2]
      show (m2, (0 : Int)) = (m1, 0)
      congr 1
      have q1 : m1 ≤ m2 := by
        rw [← e2, hs c2 k2]
        exact g1 _ (hp.mem_iff.1 (List.mem_map.2 ⟨c2, k2, rfl⟩))
      have q2 : m2 ≤ m1 := by
        obtain ⟨c, hc, e⟩ := List.mem_map.1 (hp.mem_iff.2 k1)
        rw [← e1, ← e, ← hs c hc]
        exact g2 c hc
      omega
  · rfl

/-- A loop twice as long. -/
def twoL (x : Lp) : Lp := ⟨2 * x.l, 2 * x.c, x.d⟩
def twoS (s : Sp) : Sp := ⟨2 * s.lo, 2 * s.hi⟩
def twoR (r : Ru) : Ru := ⟨r.laps, twoS r.len, twoS r.climb, twoS r.lap, r.wide, r.uses⟩
theorem two_len (xs : List Lp) (i : Int) : lenAt (xs.map twoL) i = 2 * lenAt xs i := by
  unfold lenAt
  rw [List.getElem?_map]
  cases xs[i.toNat]? <;> rfl
theorem two_climb (xs : List Lp) (i : Int) : climbAt (xs.map twoL) i = 2 * climbAt xs i := by
  unfold climbAt
  rw [List.getElem?_map]
  cases xs[i.toNat]? <;> rfl
theorem two_wide (xs : List Lp) (i : Int) : wideAt (xs.map twoL) i = wideAt xs i := by
  unfold wideAt
  rw [List.getElem?_map]
  cases xs[i.toNat]? <;> rfl
theorem sumI_two (f : Int → Int) (c : List Int) : sumI (c.map (fun i => 2 * f i)) = 2 * sumI (c.map f) := by
  induction c with
  | nil => rfl
  | cons x t ih => rw [List.map_cons, List.map_cons, sumI_cons, sumI_cons, ih]; omega
theorem inside_two (n : Int) (s : Sp) : insideB (2 * n) (twoS s) = insideB n s := by
  have a : (twoS s).lo = 2 * s.lo := rfl
  have b : (twoS s).hi = 2 * s.hi := rfl
  rw [Bool.eq_iff_iff]
  unfold insideB
  rw [a, b]
  simp only [withinB, Bool.and_eq_true, decide_eq_true_eq]
  omega
theorem judge_two (xs : List Lp) (r : Ru) (c : List Int) : judgeM (xs.map twoL) (twoR r) c = judgeM xs r c := by
  have e1 : c.map (lenAt (xs.map twoL)) = c.map (fun i => 2 * lenAt xs i) := List.map_congr_left (fun i _ => two_len xs i)
  have e2 : c.map (climbAt (xs.map twoL)) = c.map (fun i => 2 * climbAt xs i) := List.map_congr_left (fun i _ => two_climb xs i)
  have e3 : c.all (fun i => decide ((twoR r).wide ≤ wideAt (xs.map twoL) i)) = c.all (fun i => decide (r.wide ≤ wideAt xs i)) := by
    congr 1
    funext i
    rw [two_wide]; rfl
  have e4 : (c.map (fun i => 2 * lenAt xs i)).all (fun n => insideB n (twoR r).lap) = (c.map (lenAt xs)).all (fun n => insideB n r.lap) := by
    rw [List.all_map, List.all_map]
    congr 1
    funext i
    exact inside_two _ _
  unfold judgeM
  rw [e1, e2, e3, e4, sumI_two, sumI_two]
  show Mk.mk (!insideB _ (twoS r.len)) (!insideB _ (twoS r.climb)) _ _ (oftenB c r.uses) = _
  rw [inside_two, inside_two]
theorem right_two (xs : List Lp) (r : Ru) : rightL (xs.map twoL) (twoR r) = rightL xs r := by
  unfold rightL
  rw [List.length_map]
  show (extC xs.length r.laps.toNat [] 0).filter _ = _
  congr 1
  funext c
  unfold okC
  rw [judge_two]

set_option maxRecDepth 100000 in
theorem ext_small : ∀ n, n < 7 → ∀ d, d < 5 → (extC n d [] 0).length ≤ 126 := by decide +kernel
theorem right_small (xs : List Lp) (r : Ru) (h1 : xs.length ≤ 6) (h2 : r.laps.toNat ≤ 4) : (rightL xs r).length ≤ 300 := by
  have := ext_small xs.length (by omega) r.laps.toNat (by omega)
  exact Nat.le_trans (List.length_filter_le _ _) (by omega)
end Go.Proofs.YtgldfnkjfgcjpaaGreat

namespace Go.Proofs.YtgldfnkjfgcjpaaGreat
open Go.RowKit Go.Shelf

/-- Marks without one. -/
def Mk.clear (m : Mk) (x : Int) : Mk := if x = 0 then { m with a := false } else if x = 1 then { m with b := false } else if x = 2 then { m with c := false } else if x = 3 then { m with d := false } else { m with e := false }
/-- Marks without those of a list's first n, but for one place. -/
def clearTo (m : Mk) (l : List Int) (skip : Int) : Nat → Mk
  | 0 => m
  | n + 1 => if (n : Int) = skip then clearTo m l skip n else (clearTo m l skip n).clear (l[n]?.getD 0)
/-- Rules of which one is set wide. -/
def wideS (r : Ru) (x : Int) : Ru := if x = 0 then { r with len := ⟨0, 200000⟩ } else if x = 1 then { r with climb := ⟨0, 200000⟩ } else if x = 2 then { r with lap := ⟨0, 200000⟩ } else if x = 3 then { r with wide := 1 } else { r with uses := 6 }
def wideTo (r : Ru) (l : List Int) (skip : Int) : Nat → Ru
  | 0 => r
  | n + 1 => if (n : Int) = skip then wideTo r l skip n else wideS (wideTo r l skip n) (l[n]?.getD 0)
theorem wideS_laps (r : Ru) (x : Int) : (wideS r x).laps = r.laps := by
  unfold wideS; (repeat' split) <;> rfl
theorem wideTo_laps (r : Ru) (l : List Int) (skip : Int) (n : Nat) : (wideTo r l skip n).laps = r.laps := by
  induction n with
  | zero => rfl
  | succ n ih =>
    unfold wideTo; split
    · exact ih
    · rw [wideS_laps]; exact ih
theorem wideS_ok {r : Ru} (x : Int) (h : rulesB r = true) : rulesB (wideS r x) = true := by
  simp only [rulesB, List.all_cons, List.all_nil, Bool.and_true, Bool.and_eq_true] at h
  obtain ⟨⟨h1, h2, h3⟩, h4, h5, h6⟩ := h
  have hb : boundedB ⟨0, 200000⟩ 200000 = true := by decide
  have hw : withinB 1 1 20 = true := by decide
  have hu : withinB 6 1 6 = true := by decide
  unfold wideS
  (repeat' split) <;> simp [rulesB, *]
theorem wideTo_ok {r : Ru} (l : List Int) (skip : Int) (n : Nat) (h : rulesB r = true) : rulesB (wideTo r l skip n) = true := by
  induction n with
  | zero => exact h
  | succ n ih =>
    unfold wideTo; split
    · exact ih
    · exact wideS_ok _ ih
theorem wideTo_check {xs : List Lp} {r : Ru} (l : List Int) (skip : Int) (n : Nat) (h : checkE xs r = 0) : checkE xs (wideTo r l skip n) = 0 := by
  rw [checkE, if_pos (check_ok h).1, if_pos (wideTo_ok l skip n (check_ok h).2)]
theorem sumI_le (f : Int → Int) (k : Int) : ∀ c : List Int, (∀ i ∈ c, 0 ≤ f i ∧ f i ≤ k) → 0 ≤ sumI (c.map f) ∧ sumI (c.map f) ≤ k * c.length
  | [], _ => by simp [sumI]
  | x :: c, h => by
    have h1 := sumI_le f k c (fun i hi => h i (List.mem_cons_of_mem _ hi))
    have h2 := h x List.mem_cons_self
    rw [List.map_cons, sumI_cons, List.length_cons]
    have : k * ((c.length + 1 : Nat) : Int) = k * c.length + k := by rw [Int.natCast_add, Int.mul_add]; simp
    omega
theorem at_ok {xs : List Lp} (h : xs.all allowedB = true) {i : Int} (hi : 0 ≤ i ∧ i < (xs.length : Int)) : (1 ≤ lenAt xs i ∧ lenAt xs i ≤ 20000) ∧ (0 ≤ climbAt xs i ∧ climbAt xs i ≤ 2000) ∧ 1 ≤ wideAt xs i := by
  have hl : i.toNat < xs.length := by omega
  have h1 := List.all_eq_true.1 h _ (List.getElem_mem hl)
  unfold lenAt climbAt wideAt
  rw [List.getElem?_eq_getElem hl]
  simp only [allowedB, withinB, Bool.and_eq_true, decide_eq_true_eq] at h1
  exact ⟨h1.1, h1.2.1, h1.2.2.1⟩
theorem judge_wide {xs : List Lp} (hx : xs.all allowedB = true) {c : List Int} (hc : c.length ≤ 6) (hi : ∀ i ∈ c, 0 ≤ i ∧ i < (xs.length : Int)) (r : Ru) (x : Int) : judgeM xs (wideS r x) c = (judgeM xs r c).clear x := by
  have s1 := sumI_le (lenAt xs) 20000 c (fun i h => by have := (at_ok hx (hi i h)).1; omega)
  have s2 := sumI_le (climbAt xs) 2000 c (fun i h => (at_ok hx (hi i h)).2.1)
  unfold wideS Mk.clear
  split
  · have : insideB (sumI (c.map (lenAt xs))) ⟨0, 200000⟩ = true := by simp [insideB, withinB]; omega
    simp [judgeM, this]
  split
  · have : insideB (sumI (c.map (climbAt xs))) ⟨0, 200000⟩ = true := by simp [insideB, withinB]; omega
    simp [judgeM, this]
  split
  · have : (c.map (lenAt xs)).all (fun n => insideB n ⟨0, 200000⟩) = true := by
      rw [List.all_map, List.all_eq_true]
      intro i h
      have := (at_ok hx (hi i h)).1
      simp [insideB, withinB]; omega
    simp only [judgeM, this]; rfl
  split
  · have : c.all (fun i => decide (1 ≤ wideAt xs i)) = true := by
      rw [List.all_eq_true]
      intro i h
      exact decide_eq_true (at_ok hx (hi i h)).2.2
    simp only [judgeM, this]; rfl
  · have : oftenB c 6 = false := often_false c 6 (fun y _ => by have := List.count_le_length (a := y) (l := c); omega)
    simp only [judgeM, this]
theorem judge_wideTo {xs : List Lp} (hx : xs.all allowedB = true) {c : List Int} (hc : c.length ≤ 6) (hi : ∀ i ∈ c, 0 ≤ i ∧ i < (xs.length : Int)) (r : Ru) (l : List Int) (skip : Int) (n : Nat) : judgeM xs (wideTo r l skip n) c = clearTo (judgeM xs r c) l skip n := by
  induction n with
  | zero => rfl
  | succ n ih =>
    unfold wideTo clearTo
    split
    · exact ih
    · rw [judge_wide hx hc hi, ih]
/-- Of marks alone: all of a list cleared, nothing is left; all but one cleared, nothing left: then those marks come before the list. -/
theorem clear_all (m : Mk) : (clearTo m (rulesL m) (-1) (rulesL m).length).none = true := by
  obtain ⟨a, b, c, d, e⟩ := m
  revert a b c d e
  decide +kernel
theorem clear_but (m m0 : Mk) (k : Nat) (hk : k < (rulesL m0).length) (h : (clearTo m (rulesL m0) k (rulesL m0).length).none = true) : beforeB (rulesL m) (rulesL m0) = true := by
  obtain ⟨a, b, c, d, e⟩ := m
  obtain ⟨a', b', c', d', e'⟩ := m0
  have hk5 : k < 5 := Nat.lt_of_lt_of_le hk (rulesTo_le _ 5)
  have key : ∀ a b c d e a' b' c' d' e' : Bool, ∀ k, k < 5 → k < (rulesL ⟨a', b', c', d', e'⟩).length → (clearTo ⟨a, b, c, d, e⟩ (rulesL ⟨a', b', c', d', e'⟩) (k : Nat) (rulesL ⟨a', b', c', d', e'⟩).length).none = true → beforeB (rulesL ⟨a, b, c, d, e⟩) (rulesL ⟨a', b', c', d', e'⟩) = true := by decide +kernel
  exact key a b c d e a' b' c' d' e' k hk5 hk h
/-- What the last part of CourseYielded asks. -/
theorem given_up {xs : List Lp} {r : Ru} (h : checkE xs r = 0) (h6 : xs.length ≤ 6) (h4 : r.laps ≤ 4) (skip : Int) (hs : -1 ≤ skip ∧ skip < ((yieldR xs r).1.length : Int)) :
    allR xs (wideTo r (yieldR xs r).1 skip (yieldR xs r).1.length) = (rightL xs (wideTo r (yieldR xs r).1 skip (yieldR xs r).1.length), 0) ∧ (0 < (rightL xs (wideTo r (yieldR xs r).1 skip (yieldR xs r).1.length)).length ↔ skip < 0) := by
  obtain ⟨hxs, hl1, hl2⟩ := stad_ok (check_ok h).1
  have hd := laps_nat h
  have hne : extC xs.length r.laps.toNat [] 0 ≠ [] := by
    have := ext_one xs.length r.laps.toNat ⟨hl1, hl2⟩
    intro e; rw [e] at this; simp at this
  obtain ⟨b, f, a1, ⟨c1, m1, k1⟩, g1⟩ := yOf_min xs r _ hne
  have hy : (yieldR xs r).1 = b := by rw [yieldR, if_pos h, a1]; rfl
  rw [hy] at hs ⊢
  have hck := wideTo_check b skip b.length h
  have hlap := wideTo_laps r b skip b.length
  have hj : ∀ c ∈ extC xs.length r.laps.toNat [] 0, judgeM xs (wideTo r b skip b.length) c = clearTo (judgeM xs r c) b skip b.length := fun c hc => by
    have h1 := extC_ok xs.length r.laps.toNat [] 0 (by simp) c hc
    exact judge_wideTo hxs (by have := h1.1; simp at this; omega) h1.2 r b skip b.length
  constructor
  · have := right_small xs (wideTo r b skip b.length) h6 (by rw [hlap]; omega)
    rw [allR, if_pos hck, if_pos this, if_pos this]
  · rw [List.length_pos_iff_exists_mem]
    unfold rightL
    rw [hlap]
    constructor
    · rintro ⟨c, hcm⟩
      obtain ⟨hc, ho⟩ := List.mem_filter.1 hcm
      by_cases h0 : skip < 0
      · exact h0
      · exfalso
        obtain ⟨k, rfl⟩ := Int.eq_ofNat_of_zero_le (Int.not_lt.1 h0)
        unfold okC at ho
        rw [hj c hc, ← k1] at ho
        have := clear_but (judgeM xs r c) (judgeM xs r c1) k (by rw [k1]; omega) ho
        have h2 := g1 c hc
        rw [k1] at this
        rw [h2] at this
        cases this
    · intro h0
      obtain rfl : skip = -1 := by omega
      refine ⟨c1, List.mem_filter.2 ⟨m1, ?_⟩⟩
      unfold okC
      rw [hj c1 m1, ← k1]
      exact clear_all _
end Go.Proofs.YtgldfnkjfgcjpaaGreat

namespace Go.Proofs.YtgldfnkjfgcjpaaGreat
open Go.RowKit Go.Shelf
attribute [local go_sem] Oper.semAt_some

set_option maxHeartbeats 1000000 in
theorem between_any (B L : Nat) (a : Option Addr) (n cap k : Nat) (lo hi : Int) (w : World) (hd : Deck w B L a n cap k) (hk : k ≤ 1000000) (hl : 0 ≤ lo ∧ lo ≤ hi ∧ hi ≤ 1000000) :
    Calls Tryz.prog 63 #[.pointer (some ⟨B, 0, none⟩), .int .i64 lo, .int .i64 hi] w fun e w' => (∃ r : Int, e = .returned (.int .i64 r) ∧ lo ≤ r ∧ r ≤ hi) ∧ Deck w' B L a n cap (k + 1) ∧ Apart (fun j => j = B) w w' := by
  have w1 : IntKind.i64.wrap (hi - lo) = hi - lo := IntWalk.i64_in _ (by omega)
  have w2 : IntKind.i64.wrap (hi - lo + 1) = hi - lo + 1 := IntWalk.i64_in _ (by omega)
  have HC := Lib.hid (draw_any B L a n cap k (hi - lo + 1) w hd hk (by omega))
  clear hd
  go_enter Tryz.func63, Tryz.ntmps63
  go_wp2_with (fail)
  refine HC.out.mono ?_
  rintro e w' ⟨⟨r, rfl, hr0, hr1⟩, hD, hA⟩
  have HD := Lib.hid (And.intro hD hA)
  clear hD hA
  have w3 : IntKind.i64.wrap (lo + r) = lo + r := IntWalk.i64_in _ (by omega)
  go_wp2
  go_ret
  exact ⟨⟨lo + r, rfl, by omega, by omega⟩, HD.out⟩

set_option maxHeartbeats 1000000 in
theorem of_any (a : Option Addr) (n cap : Nat) (w : World) (hb : BytesAt w a n) (hl : n ≤ 140737488355328) :
    Calls Tryz.prog 52 #[.slice a n cap] w fun e w' => e = .returned (.pointer (some ⟨w.heap.size, 0, none⟩)) ∧ Deck w' w.heap.size (w.heap.size + 1) a n cap 0 ∧ Below w.heap.size w w' := by
  have HB := Lib.hid hb
  clear hb
  go_enter Tryz.func52, Tryz.ntmps52
  go_wp2
  go_ret
  refine ⟨rfl, ⟨⟨0, 17, heap_alloc_new _ _, by omega, by omega, by omega, by omega⟩, HB.out.keep (alloc1 w _).size (fun _ p _ hp => (alloc1 w _).block _ hp), fun h0 p hp => ?_, hl, by omega, by simp⟩, alloc1 w _⟩
  obtain ⟨b, off, rfl, hb, _⟩ := HB.out h0
  cases hp
  exact ⟨Nat.ne_of_lt hb, by show b < _; omega⟩
end Go.Proofs.YtgldfnkjfgcjpaaGreat

namespace Go.Proofs.YtgldfnkjfgcjpaaGreat
open Go.RowKit Go.Shelf
attribute [local go_sem] Oper.semAt_some
theorem cells_new (w : World) (news : List Value) (t : TypeId) : ∀ j u, news[j]? = some u → (w.alloc (.cells news.toArray t)).cell? ((⟨w.heap.size, 0, none⟩ : Addr).add j) = some u := by
  intro j u hj
  have : (⟨w.heap.size, 0, none⟩ : Addr).add j = ⟨w.heap.size, j, none⟩ := by unfold Addr.add; split <;> simp_all
  rw [this]
  exact blk_cell (heap_alloc_new w _) j (by simpa using hj)

theorem Tryz.info32 : (Tryz.prog.info? 32).map (fun i => (i.zero, i.size, i.bytes)) = some (some (.agg #[.int .i64 0, .int .i64 0, .int .i64 0]), 3, 24) := by kernel_rfl
theorem Tryz.info132 : (Tryz.prog.info? 132).map (fun i => (i.zero, i.size, i.bytes)) = some (some (.agg #[.int .i64 0, .int .i64 0, .int .i64 0]), 3, 24) := by kernel_rfl

theorem Lp.cells_len (x : Lp) : (Lp.cells x).length = 3 := rfl
theorem flatP_len (xs : List Lp) : (xs.flatMap Lp.cells).length = xs.length * 3 := by
  induction xs with
  | nil => rfl
  | cons d ds ih => rw [List.flatMap_cons, List.length_append, ih, Lp.cells_len, List.length_cons]; omega
theorem flatP_get (ds : List Lp) : ∀ (j : Nat) (x : Lp) (i : Nat) (u : Int), ds[j]? = some x → (Lp.cells x)[i]? = some u → (ds.flatMap Lp.cells)[j * 3 + i]? = some u := by
  induction ds with
  | nil => intro j x i u hx _; simp at hx
  | cons d ds ih =>
    intro j x i u hx hu
    have hi : i < 3 := by
      rcases Nat.lt_or_ge i 3 with h | h
      · exact h
      · rw [List.getElem?_eq_none (by rw [Lp.cells_len]; exact h)] at hu; cases hu
    rw [List.flatMap_cons]
    cases j with
    | zero =>
      simp at hx; subst hx
      rw [Nat.zero_mul, Nat.zero_add, List.getElem?_append_left (by rw [Lp.cells_len]; exact hi)]
      exact hu
    | succ j =>
      rw [List.getElem?_append_right (by rw [Lp.cells_len]; omega), Lp.cells_len, show (j + 1) * 3 + i - 3 = j * 3 + i by omega]
      exact ih j x i u (by simpa using hx) hu
theorem lps_of_owns {W : World} {base : Nat} {t : TypeId} {v : Value} {ds : List Lp} (h : W.ownsRow base t 3 v ds.length ((ds.flatMap Lp.cells).map (Value.int .i64))) : ∃ a cap, v = .slice a ds.length cap ∧ Sl 3 Lp.cells W a ds ∧ (∀ p, a = some p → base ≤ p.block) := by
  rcases h.2 with ⟨rfl, h0⟩ | ⟨g, cap, cur, rfl, hb, hg, _⟩
  · exact ⟨none, 0, by rw [h0], (fun hp => by omega), (fun p hp => by cases hp)⟩
  · refine ⟨some ⟨g, 0, none⟩, cap, rfl, fun _ => ⟨g, 0, rfl, lt_of_block hg, fun j x i u hx hu => ?_⟩, (fun p hp => by cases hp; exact hb)⟩
    have hc := h.cells (g := g) rfl (j * 3 + i) (.int .i64 u) (by rw [List.getElem?_map, flatP_get ds j x i u hx hu]; rfl)
    have : (⟨g, 0, none⟩ : Addr).add (j * 3 + i) = ⟨g, 0 + j * 3 + i, none⟩ := by unfold Addr.add; split <;> simp_all
    rw [this] at hc
    exact hc

/-- A call that hands back a slice of loops; nothing that was there before it has turned. -/
def OutLps (w : World) (ys : List Lp) (e : Ending) (w' : World) : Prop := ∃ a cap, e = .returned (.slice a ys.length cap) ∧ Sl 3 Lp.cells w' a ys ∧ (∀ p, a = some p → w.heap.size ≤ p.block) ∧ Below w.heap.size w w'

set_option maxHeartbeats 1000000 in
theorem cloneLp_any (a : Option Addr) (ds : List Lp) (cap : Nat) (w : World) (hx : Sl 3 Lp.cells w a ds) (hna : a = none → ds.length = 0 ∧ cap = 0) (hl : ds.length ≤ 1000) :
    Calls Tryz.prog 11 #[.slice a ds.length cap] w (OutLps w ds) := by
  obtain ⟨i0, hi, hz0, hz1, hz2⟩ := info_parts Tryz.info32
  cases a with
  | none =>
    obtain ⟨h1, rfl⟩ := hna rfl
    have : ds = [] := List.eq_nil_of_length_eq_zero h1
    subst this
    have hap : ∀ w, (Builtin.append_ #[22, 22] 22 #[.slice none 0 0, .slice none 0 0]).run Tryz.prog w = .ok (.slice none 0 0) w := fun _ => by kernel_rfl
    clear hna
    show Calls Tryz.prog 11 #[.slice none 0 0] w _
    go_enter Tryz.func11, Tryz.ntmps11
    go_wp2
    go_ret
    exact ⟨none, 0, rfl, hx, (fun p hp => by cases hp), Below.refl _ _⟩
  | some ad =>
    have HC : Hid (∀ j u, ((ds.flatMap Lp.cells).map (Value.int .i64))[j]? = some u → w.cell? (ad.add j) = some u) := fun j u hu => by
      have hj : j < ds.length * 3 := by
        rcases Nat.lt_or_ge j (ds.length * 3) with h | h
        · exact h
        · rw [List.getElem?_eq_none (by rw [List.length_map, flatP_len]; exact h)] at hu; cases hu
      obtain ⟨b, off, e, hbs, hc⟩ := hx (by omega)
      cases e
      have hq : j / 3 < ds.length := by omega
      have e : (⟨b, off, none⟩ : Addr).add j = ⟨b, off + (j / 3) * 3 + j % 3, none⟩ := by
        rw [show off + (j / 3) * 3 + j % 3 = off + j by omega]
        unfold Addr.add; split <;> simp_all
      have hr : j % 3 < (Lp.cells ds[j / 3]).length := by rw [Lp.cells_len]; omega
      have h1 := hc (j / 3) ds[j / 3] (j % 3) _ (List.getElem?_eq_getElem hq) (List.getElem?_eq_getElem hr)
      have h2 := flatP_get ds (j / 3) ds[j / 3] (j % 3) _ (List.getElem?_eq_getElem hq) (List.getElem?_eq_getElem hr)
      rw [show j / 3 * 3 + j % 3 = j by omega] at h2
      rw [e, h1]
      rw [List.getElem?_map, h2] at hu
      simpa using hu
    have HLL := Lib.hid (flatP_len ds)
    clear hx hna
    go_enter Tryz.func11, Tryz.ntmps11
    go_wp2_with (at_builtin; refine wpList_append_own_at _ rfl _ _ 22 rfl w.heap.size 32 i0 (.agg #[.int .i64 0, .int .i64 0, .int .i64 0]) 3 24 Tryz.underlying22 hi hz0 hz1 hz2 rfl (by decide) (.slice none 0 0) 0 [] rfl ⟨rfl, .inl ⟨rfl, rfl⟩⟩ ad ds.length cap ((ds.flatMap Lp.cells).map (Value.int .i64)) rfl ?c0 ?c1 ?c2 ?c3 ?c4 ?c5 ?_)
    case c0 => rw [List.length_map]; exact HLL.out
    case c1 => exact HC.out
    case c2 => intro u hu; obtain ⟨x, _, rfl⟩ := List.mem_map.1 hu; rfl
    case c3 => unfold maxLen; omega
    case c4 => omega
    case c5 => exact Nat.le_refl _
    intro v' w2 hown2 hgrow2 _ _
    have hb3 : Below w.heap.size w w2 := (Below.refl _ w).grown hgrow2 (Nat.le_refl _) (fun j hj => by simp [Value.ownBlock] at hj)
    obtain ⟨a', c', rfl, hs, hf⟩ := lps_of_owns hown2
    have HO := Lib.hid (And.intro hs (And.intro hf hb3))
    clear hown2 hgrow2 hs hf hb3
    go_wp2
    go_ret
    exact ⟨a', c', rfl, HO.out⟩

set_option maxHeartbeats 1000000 in
theorem cloneInt_any (a : Option Addr) (xs : List Int) (cap : Nat) (w : World) (hx : IntSl w a xs) (hna : a = none → xs.length = 0 ∧ cap = 0) (hl : xs.length ≤ 1000) :
    Calls Tryz.prog 12 #[.slice a xs.length cap] w (OutInts w xs) := by
  obtain ⟨i0, hi, hz0, hz1, hz2⟩ := info_parts Tryz.info3
  cases a with
  | none =>
    obtain ⟨h1, rfl⟩ := hna rfl
    have : xs = [] := List.eq_nil_of_length_eq_zero h1
    subst this
    have hap : ∀ w, (Builtin.append_ #[27, 27] 27 #[.slice none 0 0, .slice none 0 0]).run Tryz.prog w = .ok (.slice none 0 0) w := fun _ => by kernel_rfl
    clear hna
    show Calls Tryz.prog 12 #[.slice none 0 0] w _
    go_enter Tryz.func12, Tryz.ntmps12
    go_wp2
    go_ret
    exact ⟨none, 0, rfl, hx, (fun p hp => by cases hp), Below.refl _ _⟩
  | some ad =>
    have HC : Hid (∀ j u, (xs.map (Value.int .i64))[j]? = some u → w.cell? (ad.add j) = some u) := fun j u hu => by
      have hj : j < xs.length := by
        rcases Nat.lt_or_ge j xs.length with h | h
        · exact h
        · rw [List.getElem?_eq_none (by rw [List.length_map]; exact h)] at hu; cases hu
      obtain ⟨b, off, e, hbs, hc⟩ := hx (by omega)
      cases e
      have e : (⟨b, off, none⟩ : Addr).add j = ⟨b, off + j, none⟩ := by unfold Addr.add; split <;> simp_all
      rw [e, hc j hj]
      rw [List.getElem?_map, List.getElem?_eq_getElem hj] at hu
      rw [List.getElem?_eq_getElem hj]
      simpa using hu
    clear hx hna
    go_enter Tryz.func12, Tryz.ntmps12
    go_wp2_with (at_builtin; refine wpList_append_own_at _ rfl _ _ 27 rfl w.heap.size 3 i0 (.int .i64 0) 1 8 Tryz.underlying27 hi hz0 hz1 hz2 rfl (by decide) (.slice none 0 0) 0 [] rfl ⟨rfl, .inl ⟨rfl, rfl⟩⟩ ad xs.length cap (xs.map (Value.int .i64)) rfl ?c0 ?c1 ?c2 ?c3 ?c4 ?c5 ?_)
    case c0 => rw [List.length_map, Nat.mul_one]
    case c1 => exact HC.out
    case c2 => intro u hu; obtain ⟨x, _, rfl⟩ := List.mem_map.1 hu; rfl
    case c3 => unfold maxLen; omega
    case c4 => omega
    case c5 => exact Nat.le_refl _
    intro v' w2 hown2 hgrow2 _ _
    have hb3 : Below w.heap.size w w2 := (Below.refl _ w).grown hgrow2 (Nat.le_refl _) (fun j hj => by simp [Value.ownBlock] at hj)
    obtain ⟨a', c', rfl, hs, hf⟩ := ints_of_owns hown2
    have HO := Lib.hid (And.intro hs (And.intro hf hb3))
    clear hown2 hgrow2 hs hf hb3
    go_wp2
    go_ret
    exact ⟨a', c', rfl, HO.out⟩

set_option maxHeartbeats 1000000 in
theorem numbers_any (a : Option Addr) (xs : List Int) (cap : Nat) (w : World) (hx : IntSl w a xs) (hl : xs.length ≤ 1000) :
    Calls Tryz.prog 97 #[.slice a xs.length cap] w (OutInts w xs) := by
  obtain ⟨i0, hi, hz0, hz1, hz2⟩ := info_parts Tryz.info3
  go_enter Tryz.func97, Tryz.ntmps97
  go_wp2
  go_loopw [3, 8] (fun v i wr => ∃ k : Nat, k ≤ xs.length ∧ i = .int .i64 k ∧ wr.ownsRow w.heap.size 3 1 v k ((xs.take k).map (Value.int .i64)) ∧ Below w.heap.size w wr) (fun _ i _ => xs.length - (intOf i).toNat)
  case atStart => exact ⟨0, Nat.zero_le _, rfl, World.ownsRow_nil _ _ _ _, Below.refl _ _⟩
  case round =>
    obtain ⟨k, hk, rfl, hown, hbw⟩ := hrel
    by_cases hlt : k < xs.length
    · obtain ⟨b, off, rfl, hbs, hc⟩ := hx (by omega)
      have hck := (hbw.cell (p := ⟨b, off + k, none⟩) hbs).trans (hc k hlt)
      rw [List.getElem?_eq_getElem hlt, Option.getD_some] at hck
      have HE : Hid ((xs.take (k + 1)).map (Value.int .i64) = (xs.map (Value.int .i64)).take k ++ [.int .i64 xs[k]]) := by show _ = _; rw [← List.map_take]; exact map_take_succ (Value.int .i64) xs k hlt
      clear hc
      generalize xs[k] = x at *
      have hsz := hbw.size
      go_wp2_with (at_builtin; refine wpList_append_own _ rfl _ _ 27 rfl w.heap.size 3 i0 (.int .i64 0) 1 8 Tryz.underlying27 hi hz0 hz1 hz2 rfl (by decide) _ _ _ rfl (hown.alloc _) ⟨wr.heap.size, 0, none⟩ 1 1 [.int .i64 x] rfl rfl ?c1 ?c2 ?c3 ?c4 ?c5 ?_)
      case c1 => exact cell_one_new _ _ _
      case c2 => intro u hu; simp at hu; subst hu; rfl
      case c3 => unfold maxLen; omega
      case c4 => omega
      case c5 => simp; omega
      intro v' w2 hown2 hgrow2 _
      have hb3 : Below w.heap.size w w2 := (hbw.alloc hbw.size _).grown hgrow2 (by simp; omega) (fun j hj => (hown.lt j hj).1)
      rw [← HE.out] at hown2
      have HO := Lib.hid (And.intro hown2 hb3)
      clear hown2 hgrow2 hown hck hb3
      go_wp2
      go_roundw
      case rel => exact ⟨k + 1, by omega, by go_num, HO.out⟩
      case measure => simp [intOf]; omega
    · have : k = xs.length := by omega
      subst this
      rw [List.take_length] at hown
      obtain ⟨a', cap', rfl, hs, hfr⟩ := ints_of_owns hown
      go_wp2
      go_ret
      exact ⟨a', cap', rfl, hs, hfr, hbw⟩

theorem cells_newP (w : World) (x : Lp) (t : TypeId) : ∀ j u, ((Lp.cells x).map (Value.int .i64))[j]? = some u → (w.alloc (.cells #[.int .i64 x.l, .int .i64 x.c, .int .i64 x.d] t)).cell? ((⟨w.heap.size, 0, none⟩ : Addr).add j) = some u := fun j u h => cells_new w [.int .i64 x.l, .int .i64 x.c, .int .i64 x.d] t j u h

set_option maxHeartbeats 2000000 in
theorem loops_any (a : Option Addr) (xs : List Lp) (cap : Nat) (w : World) (hx : Sl 3 Lp.cells w a xs) (hl : xs.length ≤ 1000) :
    Calls Tryz.prog 13 #[.slice a xs.length cap] w (OutLps w xs) := by
  obtain ⟨i0, hi, hz0, hz1, hz2⟩ := info_parts Tryz.info132
  go_enter Tryz.func13, Tryz.ntmps13
  go_wp2
  go_loopw [3, 8] (fun v i wr => ∃ k : Nat, k ≤ xs.length ∧ i = .int .i64 k ∧ wr.ownsRow w.heap.size 132 3 v k (((xs.take k).flatMap Lp.cells).map (Value.int .i64)) ∧ Below w.heap.size w wr) (fun _ i _ => xs.length - (intOf i).toNat)
  case atStart => exact ⟨0, Nat.zero_le _, rfl, World.ownsRow_nil _ _ _ _, Below.refl _ _⟩
  case round =>
    obtain ⟨k, hk, rfl, hown, hbw⟩ := hrel
    by_cases hlt : k < xs.length
    · obtain ⟨b, off, rfl, hbs, hc⟩ := hx (by omega)
      have hxk := List.getElem?_eq_getElem hlt
      have d0 : wr.cell? ⟨b, off + k * 3, none⟩ = some (.int .i64 xs[k].l) := (hbw.cell (p := ⟨b, off + k * 3 + 0, none⟩) hbs).trans (hc k xs[k] 0 _ hxk rfl)
      have d1 := (hbw.cell (p := ⟨b, off + k * 3 + 1, none⟩) hbs).trans (hc k xs[k] 1 _ hxk rfl)
      have d2 := (hbw.cell (p := ⟨b, off + k * 3 + 2, none⟩) hbs).trans (hc k xs[k] 2 _ hxk rfl)
      have HE : Hid (((xs.take (k + 1)).flatMap Lp.cells).map (Value.int .i64) = ((xs.take k).flatMap Lp.cells).map (Value.int .i64) ++ (Lp.cells xs[k]).map (Value.int .i64)) := by
        show _ = _
        rw [List.take_add_one, hxk, List.flatMap_append, List.map_append]
        simp
      clear hc hxk
      generalize xs[k] = x at *
      have hsz := hbw.size
      obtain ⟨Wx, hWx⟩ : ∃ Wx, wr.alloc (.cells #[.int .i64 x.l, .int .i64 x.c, .int .i64 x.d] 32) = Wx := ⟨_, rfl⟩
      have hbx : Below wr.heap.size wr Wx := by rw [← hWx]; exact (Below.refl _ _).alloc (Nat.le_refl _) _
      have HNX : Hid (Wx.heap[wr.heap.size]? = some (.cells #[.int .i64 x.l, .int .i64 x.c, .int .i64 x.d] 32 (0, 0))) := by rw [← hWx]; exact heap_alloc_new _ _
      have HBW := Lib.hid (below_self hbw hbx)
      have HOX := Lib.hid (owns_below hown hbx)
      go_upto_region 5 with (fail)
      clear hWx d0 d1 d2 hbw hown hbx
      have n0 := blk_cell HNX.out 0 rfl
      have n1 := blk_cell HNX.out 1 rfl
      have n2 := blk_cell HNX.out 2 rfl
      have hsx := HBW.out.size
      go_wp2_with (at_builtin; refine wpList_append_own_at _ rfl _ _ 34 rfl w.heap.size 132 i0 (.agg #[.int .i64 0, .int .i64 0, .int .i64 0]) 3 24 Tryz.underlying34 hi hz0 hz1 hz2 rfl (by decide) _ k (((xs.take k).flatMap Lp.cells).map (Value.int .i64)) rfl (HOX.out.alloc _) ⟨Wx.heap.size, 0, none⟩ 1 1 ((Lp.cells x).map (Value.int .i64)) rfl rfl (cells_newP _ x _) (by intro u hu; obtain ⟨x, _, rfl⟩ := List.mem_map.1 hu; rfl) (by unfold maxLen; omega) (by omega) (by simp; omega) ?_)
      intro v' w2 hown2 hgrow2 _ _
      have hb3 : Below w.heap.size w w2 := (HBW.out.alloc HBW.out.size _).grown hgrow2 (by simp; omega) (fun j hj => (HOX.out.lt j hj).1)
      rw [← HE.out] at hown2
      have HO := Lib.hid (And.intro hown2 hb3)
      clear hown2 hgrow2 n0 n1 n2 hb3
      go_wp2
      go_roundw
      case rel => exact ⟨k + 1, by omega, by go_num, HO.out⟩
      case measure => simp [intOf]; omega
    · have : k = xs.length := by omega
      subst this
      rw [List.take_length] at hown
      obtain ⟨a', cap', rfl, hs, hfr⟩ := lps_of_owns hown
      go_wp2
      go_ret
      exact ⟨a', cap', rfl, hs, hfr, hbw⟩

def eqLp (x y : Lp) : Bool := decide (x.l = y.l) && (decide (x.c = y.c) && decide (x.d = y.d))
theorem eqLp_self (x : Lp) : eqLp x x = true := by simp [eqLp]
theorem eq31 (a b c d e f : Int) (w : World) : (Op.equalIn 10000 32 (.agg #[.int .i64 a, .int .i64 b, .int .i64 c]) (.agg #[.int .i64 d, .int .i64 e, .int .i64 f])).run Tryz.prog w = .ok (decide (a = d) && (decide (b = e) && decide (c = f))) w := by
  rw [Op.equalIn]
  simp [go_sem]
  by_cases h1 : a = d <;> by_cases h2 : b = e <;> by_cases h3 : c = f <;> simp [h1, h2, h3]
theorem eq31_self (x : Lp) (w : World) : (Op.equalIn 10000 32 (.agg #[.int .i64 x.l, .int .i64 x.c, .int .i64 x.d]) (.agg #[.int .i64 x.l, .int .i64 x.c, .int .i64 x.d])).run Tryz.prog w = .ok true w := by
  rw [eq31]; simp

set_option maxHeartbeats 1000000 in
theorem equalLp_same (a : Option Addr) (xs : List Lp) (ca : Nat) (b : Option Addr) (cb : Nat) (w : World) (hx : Sl 3 Lp.cells w a xs) (hy : Sl 3 Lp.cells w b xs) (hl : xs.length ≤ 1000000) :
    Calls Tryz.prog 24 #[.slice a xs.length ca, .slice b xs.length cb] w fun e w' => e = .returned (.bool true) ∧ Below w.heap.size w w' := by
  have HX := Lib.hid (And.intro hx hy)
  clear hx hy
  go_enter Tryz.func24, Tryz.ntmps24
  go_wp2
  go_loopw [13] (fun i wr => ∃ k : Nat, k ≤ xs.length ∧ i = .int .i64 k ∧ Below w.heap.size w wr) (fun i _ => xs.length - (intOf i).toNat)
  case atStart => exact ⟨0, Nat.zero_le _, rfl, Below.refl _ _⟩
  case round =>
    obtain ⟨k, hk, rfl, hbw⟩ := hrel
    by_cases hlt : k < xs.length
    · obtain ⟨b1, o1, rfl, hb1, hc1⟩ := HX.out.1 (by omega)
      obtain ⟨b2, o2, rfl, hb2, hc2⟩ := HX.out.2 (by omega)
      have hxk := List.getElem?_eq_getElem hlt
      have d1 : wr.cell? ⟨b1, o1 + k * 3, none⟩ = some (.int .i64 xs[k].l) := (hbw.cell (p := ⟨b1, o1 + k * 3 + 0, none⟩) hb1).trans (hc1 k _ 0 _ hxk rfl)
      have d2 := (hbw.cell (p := ⟨b1, o1 + k * 3 + 1, none⟩) hb1).trans (hc1 k _ 1 _ hxk rfl)
      have d3 := (hbw.cell (p := ⟨b1, o1 + k * 3 + 2, none⟩) hb1).trans (hc1 k _ 2 _ hxk rfl)
      have d4 : wr.cell? ⟨b2, o2 + k * 3, none⟩ = some (.int .i64 xs[k].l) := (hbw.cell (p := ⟨b2, o2 + k * 3 + 0, none⟩) hb2).trans (hc2 k _ 0 _ hxk rfl)
      have d5 := (hbw.cell (p := ⟨b2, o2 + k * 3 + 1, none⟩) hb2).trans (hc2 k _ 1 _ hxk rfl)
      have d6 := (hbw.cell (p := ⟨b2, o2 + k * 3 + 2, none⟩) hb2).trans (hc2 k _ 2 _ hxk rfl)
      clear hc1 hc2 hxk
      generalize xs[k] = x at *
      have q31 := eq31_self x
      go_wp2_with fail
      go_quiet (fail)
      have hwd := below_drewN hbw nq
      go_wp2
      go_roundw
      case rel => exact ⟨k + 1, by omega, by go_num, hwd⟩
      case measure => simp [intOf]; omega
    · have : k = xs.length := by omega
      subst this
      go_wp2
      go_ret
      exact ⟨rfl, hbw⟩
end Go.Proofs.YtgldfnkjfgcjpaaGreat
