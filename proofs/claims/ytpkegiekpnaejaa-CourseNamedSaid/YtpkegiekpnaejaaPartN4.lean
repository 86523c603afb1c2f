/-
Loops in another order: plain mathematics of courses.
  What is proved: there are as many right courses, with the same rules to be given up, and the same cheapest snow; and what is twice as great has the same courses.
  Conditions: each lemma states its own.
Loops in another order, and numbers that are twice as great: plain mathematics of courses.
  What is proved: the same cheapest snow; the same courses.
  Conditions: each lemma states its own.
-/
import Derived.Test.YtpkegiekpnaejaaPartN3
namespace Go.Proofs.Ytpkegiekpnaejaa
open Go.RowKit

/-- A list in order. -/
def sortI (c : List Int) : List Int := c.mergeSort (fun a b => decide (a ≤ b))
theorem sortI_perm (c : List Int) : (sortI c).Perm c := List.mergeSort_perm _ _
theorem sortI_pair (c : List Int) : (sortI c).Pairwise (fun a b => a ≤ b) := by
  have := List.pairwise_mergeSort (le := fun a b : Int => decide (a ≤ b)) (by intro a b c h1 h2; simp at *; omega) (by intro a b; simp; omega) c
  exact this.imp (by intro a b h; simpa using h)
theorem pair_eq {a b : List Int} (ha : a.Pairwise (fun a b => a ≤ b)) (hb : b.Pairwise (fun a b => a ≤ b)) (h : a.Perm b) : a = b :=
  List.Perm.eq_of_pairwise (fun _ _ _ _ h1 h2 => Int.le_antisymm h1 h2) ha hb h
theorem sf_pair : ∀ (c : List Int) (m : Int), sf m c = true ↔ (∀ x ∈ c, m ≤ x) ∧ c.Pairwise (fun a b => a ≤ b)
  | [], m => by simp [sf]
  | x :: t, m => by
    rw [sf, Bool.and_eq_true, decide_eq_true_eq, sf_pair t x, List.pairwise_cons]
    constructor
    · rintro ⟨h1, h2, h3⟩
      refine ⟨fun y hy => ?_, h2, h3⟩
      rcases List.mem_cons.1 hy with rfl | hy
      · exact h1
      · exact Int.le_trans h1 (h2 y hy)
    · rintro ⟨h1, h2, h3⟩
      exact ⟨h1 x List.mem_cons_self, h2, h3⟩
theorem allC_mk (L : Nat) : ∀ (c : List Int), (∀ i ∈ c, 0 ≤ i ∧ i < (L : Int)) → c ∈ allC L c.length
  | [], _ => by simp [allC]
  | x :: t, h => by
    have hx := h x List.mem_cons_self
    have ht := allC_mk L t (fun i hi => h i (List.mem_cons_of_mem _ hi))
    rw [List.length_cons, allC, List.mem_flatten]
    refine ⟨_, List.mem_map.2 ⟨x.toNat, List.mem_range.2 (by omega), rfl⟩, List.mem_map.2 ⟨t, ht, ?_⟩⟩
    rw [Int.toNat_of_nonneg hx.1]
theorem ext_filter (L d : Nat) : extC L d [] 0 = (allC L d).filter (sf 0) := by
  rw [ext_all L d [] 0 (Nat.zero_le _)]
  simp only [List.nil_append, List.map_id']
  rfl
theorem ext_mem (L d : Nat) (c : List Int) : c ∈ extC L d [] 0 ↔ c.length = d ∧ (∀ i ∈ c, 0 ≤ i ∧ i < (L : Int)) ∧ c.Pairwise (fun a b => a ≤ b) := by
  rw [ext_filter, List.mem_filter, sf_pair]
  constructor
  · rintro ⟨h1, _, h3⟩
    obtain ⟨a, b⟩ := allC_mem L d c h1
    exact ⟨a, b, h3⟩
  · rintro ⟨rfl, h2, h3⟩
    exact ⟨allC_mk L c h2, fun x hx => (h2 x hx).1, h3⟩
theorem allC_nodup (L : Nat) : ∀ d : Nat, (allC L d).Nodup
  | 0 => by simp [allC]
  | d + 1 => by
    rw [allC]
    refine List.pairwise_flatten.2 ⟨fun l hl => ?_, ?_⟩
    · obtain ⟨i, _, rfl⟩ := List.mem_map.1 hl
      exact List.pairwise_map.2 ((allC_nodup L d).imp (fun h e => h (List.cons.inj e).2))
    · refine List.pairwise_map.2 ((List.nodup_range (n := L)).imp (fun {a b} hab x hx y hy e => ?_))
      obtain ⟨t, _, rfl⟩ := List.mem_map.1 hx
      obtain ⟨u, _, rfl⟩ := List.mem_map.1 hy
      have := (List.cons.inj e).1
      exact hab (by omega)
theorem ext_nodup (L d : Nat) : (extC L d [] 0).Nodup := by
  rw [ext_filter]; exact List.Pairwise.filter _ (allC_nodup L d)
theorem perm_of_sub : ∀ (l1 l2 : List (List Int)), l1.Nodup → (∀ x ∈ l1, x ∈ l2) → l2.length ≤ l1.length → l1.Perm l2
  | [], l2, _, _, h => by
    have : l2 = [] := List.eq_nil_of_length_eq_zero (by simpa using h)
    subst this; exact List.Perm.refl _
  | a :: t, l2, hn, hs, hl => by
    obtain ⟨ha, ht⟩ := List.pairwise_cons.1 hn
    have ha2 := hs a List.mem_cons_self
    have hp := List.perm_cons_erase ha2
    have hlen := hp.length_eq
    refine ((perm_of_sub t (l2.erase a) ht (fun x hx => ?_) (by simp at hlen hl; omega)).cons a).trans hp.symm
    exact (List.mem_erase_of_ne (fun e => ha x hx e.symm)).2 (hs x (List.mem_cons_of_mem _ hx))

theorem foldl_add (xs : List Int) : ∀ a : Int, xs.foldl (· + ·) a = a + sumI xs := by
  induction xs with
  | nil => intro a; simp [sumI]
  | cons x t ih => intro a; rw [sumI, List.foldl_cons, List.foldl_cons, ih, ih]; omega
theorem sumI_cons (x : Int) (t : List Int) : sumI (x :: t) = x + sumI t := by
  rw [sumI, List.foldl_cons, foldl_add]; omega
theorem sumI_perm {a b : List Int} (h : a.Perm b) : sumI a = sumI b := by
  induction h with
  | nil => rfl
  | cons x _ ih => rw [sumI_cons, sumI_cons, ih]
  | swap x y l => rw [sumI_cons, sumI_cons, sumI_cons, sumI_cons]; omega
  | trans _ _ h1 h2 => exact h1.trans h2
theorem often_perm {a b : List Int} (h : a.Perm b) (u : Int) : oftenB a u = oftenB b u := by
  unfold oftenB
  rw [h.any_eq]
  congr 1
  funext i
  rw [h.count_eq]
theorem judge_perm (xs : List Lp) (r : Ru) {a b : List Int} (h : a.Perm b) : judgeM xs r a = judgeM xs r b := by
  unfold judgeM
  rw [sumI_perm (h.map (lenAt xs)), sumI_perm (h.map (climbAt xs)), (h.map (lenAt xs)).all_eq, h.all_eq, often_perm h]

/-- An order of loops: mixed has them so. -/
structure Ord (n : Nat) (o : List Int) (xs ys : List Lp) : Prop where
  lx : xs.length = n
  ly : ys.length = n
  p : o.Perm ((List.range n).map Int.ofNat)
  at' : ∀ j : Nat, j < n → ys[j]? = xs[(o[j]?.getD 0).toNat]?
/-- The loop that a number names. -/
def nameO (o : List Int) (j : Int) : Int := o[j.toNat]?.getD 0
theorem Ord.len {n : Nat} {o : List Int} {xs ys : List Lp} (h : Ord n o xs ys) : o.length = n := by simpa using h.p.length_eq
theorem Ord.get {n : Nat} {o : List Int} {xs ys : List Lp} (h : Ord n o xs ys) {j : Nat} (hj : j < n) : ∃ k : Nat, k < n ∧ o[j]? = some (k : Int) := by
  have hl := h.len
  have hm : o[j]'(by omega) ∈ o := List.getElem_mem _
  obtain ⟨k, hk, e⟩ := List.mem_map.1 (h.p.mem_iff.1 hm)
  refine ⟨k, List.mem_range.1 hk, ?_⟩
  rw [List.getElem?_eq_getElem (by omega), ← e]
  rfl
theorem Ord.name {n : Nat} {o : List Int} {xs ys : List Lp} (h : Ord n o xs ys) {j : Int} (h0 : 0 ≤ j ∧ j < n) : 0 ≤ nameO o j ∧ nameO o j < n := by
  obtain ⟨k, hk, e⟩ := h.get (j := j.toNat) (by omega)
  rw [nameO, e]
  show 0 ≤ (k : Int) ∧ (k : Int) < n
  omega
theorem Ord.nodup {n : Nat} {o : List Int} {xs ys : List Lp} (h : Ord n o xs ys) : o.Nodup := by
  have h1 : ((List.range n).map Int.ofNat).Nodup := List.pairwise_map.2 ((List.nodup_range (n := n)).imp (fun h e => h (Int.ofNat.inj e)))
  exact h.p.symm.pairwise h1 (fun h e => h e.symm)
theorem Ord.inj {n : Nat} {o : List Int} {xs ys : List Lp} (h : Ord n o xs ys) {i j : Int} (hi : 0 ≤ i ∧ i < n) (hj : 0 ≤ j ∧ j < n) (e : nameO o i = nameO o j) : i = j := by
  have hl := h.len
  have hn := List.pairwise_iff_getElem.1 h.nodup
  unfold nameO at e
  rw [List.getElem?_eq_getElem (show i.toNat < o.length by omega), List.getElem?_eq_getElem (show j.toNat < o.length by omega)] at e
  rcases Nat.lt_trichotomy i.toNat j.toNat with hh | hh | hh
  · exact absurd e (hn _ _ _ _ hh)
  · omega
  · exact absurd e.symm (hn _ _ _ _ hh)
theorem Ord.lenAt {n : Nat} {o : List Int} {xs ys : List Lp} (h : Ord n o xs ys) {j : Int} (hj : 0 ≤ j ∧ j < n) : ys[j.toNat]? = xs[(nameO o j).toNat]? := h.at' j.toNat (by omega)
theorem Ord.count {n : Nat} {o : List Int} {xs ys : List Lp} (h : Ord n o xs ys) (c : List Int) (hc : ∀ i ∈ c, 0 ≤ i ∧ i < (n : Int)) {x : Int} (hx : 0 ≤ x ∧ x < n) : (c.map (nameO o)).count (nameO o x) = c.count x := by
  induction c with
  | nil => rfl
  | cons y t ih =>
    rw [List.map_cons, List.count_cons, List.count_cons, ih (fun i hi => hc i (List.mem_cons_of_mem _ hi))]
    congr 1
    have hy := hc y List.mem_cons_self
    by_cases e : y = x
    · simp [e]
    · have : ¬ nameO o y = nameO o x := fun hh => e (h.inj hy hx hh)
      simp [e, this]
theorem Ord.judge {n : Nat} {o : List Int} {xs ys : List Lp} (h : Ord n o xs ys) (r : Ru) (c : List Int) (hc : ∀ i ∈ c, 0 ≤ i ∧ i < (n : Int)) : judgeM ys r c = judgeM xs r (c.map (nameO o)) := by
  have e1 : c.map (Go.Proofs.Ytpkegiekpnaejaa.lenAt ys) = (c.map (nameO o)).map (Go.Proofs.Ytpkegiekpnaejaa.lenAt xs) := by
    rw [List.map_map]; exact List.map_congr_left (fun i hi => by simp only [Function.comp_apply, Go.Proofs.Ytpkegiekpnaejaa.lenAt]; rw [h.lenAt (hc i hi)])
  have e2 : c.map (climbAt ys) = (c.map (nameO o)).map (climbAt xs) := by
    rw [List.map_map]; exact List.map_congr_left (fun i hi => by simp only [Function.comp_apply, climbAt]; rw [h.lenAt (hc i hi)])
  have ew : ∀ i ∈ c, wideAt ys i = wideAt xs (nameO o i) := fun i hi => by unfold wideAt; rw [h.lenAt (hc i hi)]
  have e3 : c.all (fun i => decide (r.wide ≤ wideAt ys i)) = (c.map (nameO o)).all (fun i => decide (r.wide ≤ wideAt xs i)) := by
    rw [List.all_map, Bool.eq_iff_iff, List.all_eq_true, List.all_eq_true]
    constructor
    · intro hh i hi
      have := hh i hi
      rw [ew i hi] at this
      exact this
    · intro hh i hi
      have := hh i hi
      simp only [Function.comp_apply] at this
      rw [ew i hi]
      exact this
  have e4 : oftenB c r.uses = oftenB (c.map (nameO o)) r.uses := by
    unfold oftenB
    rw [List.any_map, Bool.eq_iff_iff, List.any_eq_true, List.any_eq_true]
    constructor
    · rintro ⟨i, hi, hh⟩
      exact ⟨i, hi, by simp only [Function.comp_apply]; rw [h.count c hc (hc i hi)]; exact hh⟩
    · rintro ⟨i, hi, hh⟩
      refine ⟨i, hi, ?_⟩
      simp only [Function.comp_apply] at hh
      rw [h.count c hc (hc i hi)] at hh; exact hh
  unfold judgeM
  rw [e1, e2, e3, e4]

/-- A course by the other names. -/
def turnO (o : List Int) (c : List Int) : List Int := sortI (c.map (nameO o))
theorem Ord.turn_mem {n : Nat} {o : List Int} {xs ys : List Lp} (h : Ord n o xs ys) {d : Nat} {c : List Int} (hc : c ∈ extC n d [] 0) : turnO o c ∈ extC n d [] 0 := by
  obtain ⟨h1, h2, _⟩ := (ext_mem n d c).1 hc
  refine (ext_mem n d _).2 ⟨?_, fun i hi => ?_, sortI_pair _⟩
  · rw [turnO, (sortI_perm _).length_eq, List.length_map]; exact h1
  · obtain ⟨j, hj, rfl⟩ := List.mem_map.1 ((sortI_perm _).mem_iff.1 hi)
    exact h.name (h2 j hj)
theorem Ord.turn_inj {n : Nat} {o : List Int} {xs ys : List Lp} (h : Ord n o xs ys) {d : Nat} {c b : List Int} (hc : c ∈ extC n d [] 0) (hb : b ∈ extC n d [] 0) (e : turnO o c = turnO o b) : c = b := by
  obtain ⟨_, c2, c3⟩ := (ext_mem n d c).1 hc
  obtain ⟨_, b2, b3⟩ := (ext_mem n d b).1 hb
  have hp : (c.map (nameO o)).Perm (b.map (nameO o)) := (sortI_perm _).symm.trans ((by rw [← turnO, e, turnO] : sortI (c.map (nameO o)) = sortI (b.map (nameO o))) ▸ sortI_perm _)
  refine pair_eq c3 b3 (List.perm_iff_count.2 fun x => ?_)
  by_cases hx : 0 ≤ x ∧ x < (n : Int)
  · rw [← h.count c c2 hx, ← h.count b b2 hx]; exact hp.count_eq _
  · rw [List.count_eq_zero_of_not_mem (fun hm => hx (c2 x hm)), List.count_eq_zero_of_not_mem (fun hm => hx (b2 x hm))]
theorem Ord.turn_perm {n : Nat} {o : List Int} {xs ys : List Lp} (h : Ord n o xs ys) (d : Nat) : ((extC n d [] 0).map (turnO o)).Perm (extC n d [] 0) := by
  refine perm_of_sub _ _ ?_ (fun x hx => ?_) (by simp)
  · rw [List.Nodup, List.pairwise_map]
    refine List.Pairwise.imp_of_mem (fun {a b} ha hb hab e => hab (h.turn_inj ha hb e)) (ext_nodup n d)
  · obtain ⟨c, hc, rfl⟩ := List.mem_map.1 hx
    exact h.turn_mem hc
theorem Ord.judge_turn {n : Nat} {o : List Int} {xs ys : List Lp} (h : Ord n o xs ys) (r : Ru) {d : Nat} {c : List Int} (hc : c ∈ extC n d [] 0) : judgeM ys r c = judgeM xs r (turnO o c) := by
  rw [h.judge r c ((ext_mem n d c).1 hc).2.1]
  exact (judge_perm xs r (sortI_perm _)).symm
theorem Ord.right_perm {n : Nat} {o : List Int} {xs ys : List Lp} (h : Ord n o xs ys) (r : Ru) : ((rightL ys r).map (turnO o)).Perm (rightL xs r) := by
  have e : (rightL ys r).map (turnO o) = ((extC n r.laps.toNat [] 0).map (turnO o)).filter (okC xs r) := by
    rw [List.filter_map]
    unfold rightL
    rw [h.ly]
    congr 1
    apply List.filter_congr
    intro c hc
    simp only [Function.comp_apply, okC]
    rw [h.judge_turn r hc]
  rw [e]
  unfold rightL
  rw [h.lx]
  exact (h.turn_perm _).filter _
theorem Ord.right_len {n : Nat} {o : List Int} {xs ys : List Lp} (h : Ord n o xs ys) (r : Ru) : (rightL ys r).length = (rightL xs r).length := by
  have := (h.right_perm r).length_eq
  rw [List.length_map] at this
  exact this

theorem cmpI_cases (x y : Int) : (x < y ∧ cmpI x y = -1) ∨ (x = y ∧ cmpI x y = 0) ∨ (y < x ∧ cmpI x y = 1) := by
  unfold cmpI
  split
  · exact .inl ⟨by assumption, rfl⟩
  · split
    · exact .inr (.inr ⟨by assumption, rfl⟩)
    · exact .inr (.inl ⟨by omega, rfl⟩)
theorem cmpL_trans : ∀ (x y z : List Int), 0 ≤ cmpL x y → 0 ≤ cmpL y z → 0 ≤ cmpL x z
  | [], [], z, _, h => h
  | [], _ :: _, _, h, _ => by simp [cmpL] at h
  | _ :: _, [], [], _, _ => by simp [cmpL]
  | _ :: _, [], _ :: _, _, h => by simp [cmpL] at h
  | _ :: _, _ :: _, [], _, _ => by simp [cmpL]
  | a :: x, b :: y, c :: z, h1, h2 => by
    rw [cmpL] at h1 h2 ⊢
    rcases cmpI_cases a b with ⟨p1, p2⟩ | ⟨p1, p2⟩ | ⟨p1, p2⟩ <;> rcases cmpI_cases b c with ⟨q1, q2⟩ | ⟨q1, q2⟩ | ⟨q1, q2⟩ <;> rcases cmpI_cases a c with ⟨r1, r2⟩ | ⟨r1, r2⟩ | ⟨r1, r2⟩ <;> rw [p2] at h1 <;> rw [q2] at h2 <;> rw [r2] <;> simp at h1 h2 ⊢ <;> first | omega | (exact cmpL_trans x y z h1 h2) | skip
theorem cmpL_anti : ∀ (x y : List Int), 0 ≤ cmpL x y → 0 ≤ cmpL y x → x = y
  | [], [], _, _ => rfl
  | [], _ :: _, h, _ => by simp [cmpL] at h
  | _ :: _, [], _, h => by simp [cmpL] at h
  | a :: x, b :: y, h1, h2 => by
    rw [cmpL] at h1 h2
    rcases cmpI_cases a b with ⟨p1, p2⟩ | ⟨p1, p2⟩ | ⟨p1, p2⟩ <;> rcases cmpI_cases b a with ⟨q1, q2⟩ | ⟨q1, q2⟩ | ⟨q1, q2⟩ <;> rw [p2] at h1 <;> rw [q2] at h2 <;> simp at h1 h2 <;> first | omega | (rw [p1, cmpL_anti x y h1 h2])
theorem before_no {x y : List Int} : beforeB x y = false ↔ y.length < x.length ∨ (x.length = y.length ∧ 0 ≤ cmpL x y) := by
  unfold beforeB
  split
  · rename_i h
    rw [decide_eq_false_iff_not]
    constructor
    · intro hh; exact .inr ⟨h, by omega⟩
    · rintro (hh | ⟨_, hh⟩) <;> omega
  · rename_i h
    rw [decide_eq_false_iff_not]
    constructor
    · intro hh; exact .inl (by omega)
    · rintro (hh | ⟨hh, _⟩)
      · omega
      · exact absurd hh h
theorem before_trans {x y z : List Int} (h1 : beforeB x y = false) (h2 : beforeB y z = false) : beforeB x z = false := by
  rw [before_no] at *
  rcases h1 with h1 | ⟨h1, k1⟩ <;> rcases h2 with h2 | ⟨h2, k2⟩
  · exact .inl (by omega)
  · exact .inl (by omega)
  · exact .inl (by omega)
  · exact .inr ⟨by omega, cmpL_trans x y z k1 k2⟩
theorem before_anti {x y : List Int} (h1 : beforeB x y = false) (h2 : beforeB y x = false) : x = y := by
  rw [before_no] at *
  rcases h1 with h1 | ⟨h1, k1⟩ <;> rcases h2 with h2 | ⟨h2, k2⟩
  · omega
  · omega
  · omega
  · exact cmpL_anti x y k1 k2
theorem cmpL_self : ∀ x : List Int, cmpL x x = 0
  | [] => rfl
  | a :: x => by rw [cmpL, if_pos (by simp [cmpI]), cmpL_self x]
theorem before_self (x : List Int) : beforeB x x = false := before_no.2 (.inr ⟨rfl, by rw [cmpL_self]; exact Int.le_refl _⟩)
theorem cmpL_flip : ∀ (x y : List Int), cmpL x y < 0 → 0 ≤ cmpL y x
  | [], [], h => by simp [cmpL] at h
  | [], _ :: _, _ => by simp [cmpL]
  | _ :: _, [], h => by simp [cmpL] at h
  | a :: x, b :: y, h => by
    rw [cmpL] at h ⊢
    rcases cmpI_cases a b with ⟨p1, p2⟩ | ⟨p1, p2⟩ | ⟨p1, p2⟩ <;> rcases cmpI_cases b a with ⟨q1, q2⟩ | ⟨q1, q2⟩ | ⟨q1, q2⟩ <;> rw [p2] at h <;> rw [q2] <;> simp at h ⊢ <;> first | omega | (exact cmpL_flip x y h) | skip
theorem before_flip {x y : List Int} (h : beforeB x y = true) : beforeB y x = false := by
  rw [before_no]
  unfold beforeB at h
  split at h
  · rename_i e
    exact .inr ⟨e.symm, cmpL_flip x y (by simpa using h)⟩
  · exact .inl (by simpa using h)

/-- The rules that are given up are the least ones. -/
theorem yFold_min (xs : List Lp) (r : Ru) : ∀ (cs : List (List Int)) (b f : List Int), ∃ b' f', cs.foldl (yStep xs r) (some (b, f)) = some (b', f') ∧ (b' = b ∨ ∃ c ∈ cs, rulesL (judgeM xs r c) = b') ∧ beforeB b b' = false ∧ ∀ c ∈ cs, beforeB (rulesL (judgeM xs r c)) b' = false
  | [], b, f => ⟨b, f, rfl, .inl rfl, before_self b, fun c hc => by cases hc⟩
  | c :: cs, b, f => by
    cases hb : beforeB (rulesL (judgeM xs r c)) b
    · obtain ⟨b', f', h1, h2, h3, h4⟩ := yFold_min xs r cs b f
      refine ⟨b', f', by rw [List.foldl_cons, yStep]; simp only [hb]; exact h1, ?_, h3, fun c' hc => ?_⟩
      · rcases h2 with h2 | ⟨c', hc, h2⟩
        · exact .inl h2
        · exact .inr ⟨c', List.mem_cons_of_mem _ hc, h2⟩
      · rcases List.mem_cons.1 hc with rfl | hc
        · exact before_trans hb h3
        · exact h4 c' hc
    · obtain ⟨b', f', h1, h2, h3, h4⟩ := yFold_min xs r cs (rulesL (judgeM xs r c)) c
      refine ⟨b', f', by rw [List.foldl_cons, yStep]; simp only [hb]; exact h1, ?_, before_trans (before_flip hb) h3, fun c' hc => ?_⟩
      · rcases h2 with h2 | ⟨c', hc, h2⟩
        · exact .inr ⟨c, List.mem_cons_self, h2.symm⟩
        · exact .inr ⟨c', List.mem_cons_of_mem _ hc, h2⟩
      · rcases List.mem_cons.1 hc with rfl | hc
        · exact h3
        · exact h4 c' hc
theorem yOf_min (xs : List Lp) (r : Ru) (cs : List (List Int)) (h : cs ≠ []) : ∃ b f, yOf xs r cs = some (b, f) ∧ (∃ c ∈ cs, rulesL (judgeM xs r c) = b) ∧ ∀ c ∈ cs, beforeB (rulesL (judgeM xs r c)) b = false := by
  cases cs with
  | nil => exact absurd rfl h
  | cons c cs =>
    obtain ⟨b, f, h1, h2, h3, h4⟩ := yFold_min xs r cs (rulesL (judgeM xs r c)) c
    refine ⟨b, f, h1, ?_, fun c' hc => ?_⟩
    · rcases h2 with h2 | ⟨c', hc, h2⟩
      · exact ⟨c, List.mem_cons_self, h2.symm⟩
      · exact ⟨c', List.mem_cons_of_mem _ hc, h2⟩
    · rcases List.mem_cons.1 hc with rfl | hc
      · exact h3
      · exact h4 c' hc
theorem Ord.yield {n : Nat} {o : List Int} {xs ys : List Lp} (h : Ord n o xs ys) (r : Ru) (hx : checkE xs r = 0) (hy : checkE ys r = 0) : (yieldR ys r).1 = (yieldR xs r).1 ∧ (yieldR ys r).2.2 = 0 ∧ (yieldR xs r).2.2 = 0 := by
  obtain ⟨hl1, hl2⟩ := (stad_ok (check_ok hx).1).2
  have hd := laps_nat hx
  have hne : extC n r.laps.toNat [] 0 ≠ [] := by
    have := ext_one n r.laps.toNat (by rw [← h.lx]; exact ⟨hl1, hl2⟩)
    intro e; rw [e] at this; simp at this
  obtain ⟨b1, f1, a1, ⟨c1, m1, k1⟩, g1⟩ := yOf_min xs r _ hne
  obtain ⟨b2, f2, a2, ⟨c2, m2, k2⟩, g2⟩ := yOf_min ys r _ hne
  rw [yieldR, yieldR, if_pos hx, if_pos hy, h.lx, h.ly, a1, a2]
  refine ⟨before_anti ?_ ?_, rfl, rfl⟩
  · show beforeB b2 b1 = false
    rw [← k2, h.judge_turn r m2]
    exact g1 _ (h.turn_mem m2)
  · show beforeB b1 b2 = false
    have hm : c1 ∈ (extC n r.laps.toNat [] 0).map (turnO o) := (h.turn_perm _).mem_iff.2 m1
    obtain ⟨c, hc, rfl⟩ := List.mem_map.1 hm
    rw [← k1, ← h.judge_turn r hc]
    exact g2 _ hc
end Go.Proofs.Ytpkegiekpnaejaa

namespace Go.Proofs.Ytpkegiekpnaejaa
open Go.RowKit

/-- What a loop adds to the area. -/
def areaOne (xs : List Lp) (c : List Int) (i : Int) : Int := if c.contains i = true then (match xs[i.toNat]? with | some x => x.l * x.d | none => 0) else 0
theorem sumI_append (a b : List Int) : sumI (a ++ b) = sumI a + sumI b := by
  rw [sumI, List.foldl_append, foldl_add]; rfl
theorem areaTo_sum (xs : List Lp) (c : List Int) : ∀ k : Nat, areaTo xs c k = sumI ((List.range k).map (fun (i : Nat) => areaOne xs c (i : Int)))
  | 0 => rfl
  | k + 1 => by
    rw [areaTo, areaTo_sum xs c k, List.range_succ, List.map_append, sumI_append]
    congr 1
    show _ = sumI [areaOne xs c (k : Int)]
    rw [sumI_cons]
    unfold areaOne
    rw [Int.toNat_natCast, show sumI [] = 0 from rfl, Int.add_zero]
    cases xs[k]? <;> rfl
theorem area_perm (xs : List Lp) {a b : List Int} (h : a.Perm b) : areaL xs a = areaL xs b := by
  unfold areaL
  rw [areaTo_sum, areaTo_sum]
  congr 1
  apply List.map_congr_left
  intro i _
  unfold areaOne
  have : a.contains (i : Int) = b.contains (i : Int) := by
    rw [Bool.eq_iff_iff, List.contains_iff_mem, List.contains_iff_mem]; exact h.mem_iff
  rw [this]
theorem Ord.area {n : Nat} {o : List Int} {xs ys : List Lp} (h : Ord n o xs ys) (c : List Int) (hc : ∀ i ∈ c, 0 ≤ i ∧ i < (n : Int)) : areaL ys c = areaL xs (c.map (nameO o)) := by
  unfold areaL
  rw [areaTo_sum, areaTo_sum, h.lx, h.ly]
  have e : (List.range n).map (fun (i : Nat) => areaOne ys c (i : Int)) = o.map (areaOne xs (c.map (nameO o))) := by
    apply List.ext_getElem?
    intro j
    rw [List.getElem?_map, List.getElem?_map]
    by_cases hj : j < n
    · obtain ⟨k, hk, e⟩ := h.get hj
      rw [List.getElem?_range hj, e]
      show some _ = some _
      congr 1
      have hn : nameO o (j : Int) = (k : Int) := by unfold nameO; rw [Int.toNat_natCast, e]; rfl
      have hcc : (c.map (nameO o)).contains (k : Int) = c.contains (j : Int) := by
        rw [Bool.eq_iff_iff, List.contains_iff_mem, List.contains_iff_mem]
        constructor
        · intro hm
          obtain ⟨i, hi, hh⟩ := List.mem_map.1 hm
          have := h.inj (hc i hi) (j := (j : Int)) (by omega) (by rw [hh, hn])
          rw [← this]; exact hi
        · intro hm
          exact List.mem_map.2 ⟨_, hm, hn⟩
      show areaOne ys c (j : Int) = areaOne xs (c.map (nameO o)) (k : Int)
      unfold areaOne
      rw [hcc, h.lenAt (j := (j : Int)) (by omega), hn]
    · have hl := h.len
      rw [List.getElem?_eq_none (by simp; omega), List.getElem?_eq_none (by omega)]; rfl
  rw [e, sumI_perm (h.p.map _), List.map_map]
  rfl
theorem Ord.snow {n : Nat} {o : List Int} {xs ys : List Lp} (h : Ord n o xs ys) (depth : Int) {d : Nat} {c : List Int} (hc : c ∈ extC n d [] 0) : snowL ys c depth = snowL xs (turnO o c) depth := by
  unfold snowL
  rw [h.area c ((ext_mem n d c).1 hc).2.1, turnO, area_perm xs (sortI_perm _)]

theorem bFold_min (xs : List Lp) (depth : Int) : ∀ (cs : List (List Int)) (b : List Int) (m : Int), ∃ b' m', cs.foldl (bestStep xs depth) (some (b, m)) = some (b', m') ∧ (m' = m ∨ ∃ c ∈ cs, snowL xs c depth = m') ∧ m' ≤ m ∧ ∀ c ∈ cs, m' ≤ snowL xs c depth
  | [], b, m => ⟨b, m, rfl, .inl rfl, Int.le_refl _, fun c hc => by cases hc⟩
  | c :: cs, b, m => by
    by_cases hb : snowL xs c depth < m
    · obtain ⟨b', m', h1, h2, h3, h4⟩ := bFold_min xs depth cs c (snowL xs c depth)
      refine ⟨b', m', by rw [List.foldl_cons, bestStep]; simp only [if_pos hb]; exact h1, ?_, by omega, fun c' hc => ?_⟩
      · rcases h2 with h2 | ⟨c', hc, h2⟩
        · exact .inr ⟨c, List.mem_cons_self, h2.symm⟩
        · exact .inr ⟨c', List.mem_cons_of_mem _ hc, h2⟩
      · rcases List.mem_cons.1 hc with rfl | hc
        · exact h3
        · exact h4 c' hc
    · obtain ⟨b', m', h1, h2, h3, h4⟩ := bFold_min xs depth cs b m
      refine ⟨b', m', by rw [List.foldl_cons, bestStep]; simp only [if_neg hb]; exact h1, ?_, h3, fun c' hc => ?_⟩
      · rcases h2 with h2 | ⟨c', hc, h2⟩
        · exact .inl h2
        · exact .inr ⟨c', List.mem_cons_of_mem _ hc, h2⟩
      · rcases List.mem_cons.1 hc with rfl | hc
        · omega
        · exact h4 c' hc
theorem bestOf_min (xs : List Lp) (depth : Int) (cs : List (List Int)) (h : cs ≠ []) : ∃ b m, bestOf xs depth cs = some (b, m) ∧ (∃ c ∈ cs, snowL xs c depth = m) ∧ ∀ c ∈ cs, m ≤ snowL xs c depth := by
  cases cs with
  | nil => exact absurd rfl h
  | cons c cs =>
    obtain ⟨b, m, h1, h2, h3, h4⟩ := bFold_min xs depth cs c (snowL xs c depth)
    refine ⟨b, m, h1, ?_, fun c' hc => ?_⟩
    · rcases h2 with h2 | ⟨c', hc, h2⟩
      · exact ⟨c, List.mem_cons_self, h2.symm⟩
      · exact ⟨c', List.mem_cons_of_mem _ hc, h2⟩
    · rcases List.mem_cons.1 hc with rfl | hc
      · exact h3
      · exact h4 c' hc
theorem Ord.cheap {n : Nat} {o : List Int} {xs ys : List Lp} (h : Ord n o xs ys) (r : Ru) (depth : Int) (hx : checkE xs r = 0) (hy : checkE ys r = 0) : (cheapR ys r depth).2 = (cheapR xs r depth).2 := by
  rw [cheapR, cheapR, if_pos hx, if_pos hy]
  split
  · have hp := h.right_perm r
    have hs : ∀ c ∈ rightL ys r, snowL ys c depth = snowL xs (turnO o c) depth := fun c hc => by
      have hc' := (List.mem_filter.1 hc).1
      rw [h.ly] at hc'
      exact h.snow depth hc'
    by_cases h0 : rightL xs r = []
    · have : rightL ys r = [] := by
        have := h.right_len r
        rw [h0] at this
        exact List.eq_nil_of_length_eq_zero this
      rw [this, h0]; rfl
    · have h1 : rightL ys r ≠ [] := fun e => h0 (List.eq_nil_of_length_eq_zero (by rw [← h.right_len r, e]; rfl))
      obtain ⟨b1, m1, a1, ⟨c1, k1, e1⟩, g1⟩ := bestOf_min xs depth _ h0
      obtain ⟨b2, m2, a2, ⟨c2, k2, e2⟩, g2⟩ := bestOf_min ys depth _ h1
      rw [a1, a2]
      show (m2, (0 : Int)) = (m1, 0)
      congr 1
      have q1 : m1 ≤ m2 := by
        rw [← e2, hs c2 k2]
        exact g1 _ (hp.mem_iff.1 (List.mem_map.2 ⟨c2, k2, rfl⟩))
      have q2 : m2 ≤ m1 := by
        obtain ⟨c, hc, e⟩ := List.mem_map.1 (hp.mem_iff.2 k1)
        rw [← e1, ← e, ← hs c hc]
        exact g2 c hc
      omega
  · rfl

/-- A loop twice as long. -/
def twoL (x : Lp) : Lp := ⟨2 * x.l, 2 * x.c, x.d⟩
def twoS (s : Sp) : Sp := ⟨2 * s.lo, 2 * s.hi⟩
def twoR (r : Ru) : Ru := ⟨r.laps, twoS r.len, twoS r.climb, twoS r.lap, r.wide, r.uses⟩
theorem two_len (xs : List Lp) (i : Int) : lenAt (xs.map twoL) i = 2 * lenAt xs i := by
  unfold lenAt
  rw [List.getElem?_map]
  cases xs[i.toNat]? <;> rfl
theorem two_climb (xs : List Lp) (i : Int) : climbAt (xs.map twoL) i = 2 * climbAt xs i := by
  unfold climbAt
  rw [List.getElem?_map]
  cases xs[i.toNat]? <;> rfl
theorem two_wide (xs : List Lp) (i : Int) : wideAt (xs.map twoL) i = wideAt xs i := by
  unfold wideAt
  rw [List.getElem?_map]
  cases xs[i.toNat]? <;> rfl
theorem sumI_two (f : Int → Int) (c : List Int) : sumI (c.map (fun i => 2 * f i)) = 2 * sumI (c.map f) := by
  induction c with
  | nil => rfl
  | cons x t ih => rw [List.map_cons, List.map_cons, sumI_cons, sumI_cons, ih]; omega
theorem inside_two (n : Int) (s : Sp) : insideB (2 * n) (twoS s) = insideB n s := by
  have a : (twoS s).lo = 2 * s.lo := rfl
  have b : (twoS s).hi = 2 * s.hi := rfl
  rw [Bool.eq_iff_iff]
  unfold insideB
  rw [a, b]
  simp only [withinB, Bool.and_eq_true, decide_eq_true_eq]
  omega
theorem judge_two (xs : List Lp) (r : Ru) (c : List Int) : judgeM (xs.map twoL) (twoR r) c = judgeM xs r c := by
  have e1 : c.map (lenAt (xs.map twoL)) = c.map (fun i => 2 * lenAt xs i) := List.map_congr_left (fun i _ => two_len xs i)
  have e2 : c.map (climbAt (xs.map twoL)) = c.map (fun i => 2 * climbAt xs i) := List.map_congr_left (fun i _ => two_climb xs i)
  have e3 : c.all (fun i => decide ((twoR r).wide ≤ wideAt (xs.map twoL) i)) = c.all (fun i => decide (r.wide ≤ wideAt xs i)) := by
    congr 1
    funext i
    rw [two_wide]; rfl
  have e4 : (c.map (fun i => 2 * lenAt xs i)).all (fun n => insideB n (twoR r).lap) = (c.map (lenAt xs)).all (fun n => insideB n r.lap) := by
    rw [List.all_map, List.all_map]
    congr 1
    funext i
    exact inside_two _ _
  unfold judgeM
  rw [e1, e2, e3, e4, sumI_two, sumI_two]
  show Mk.mk (!insideB _ (twoS r.len)) (!insideB _ (twoS r.climb)) _ _ (oftenB c r.uses) = _
  rw [inside_two, inside_two]
theorem right_two (xs : List Lp) (r : Ru) : rightL (xs.map twoL) (twoR r) = rightL xs r := by
  unfold rightL
  rw [List.length_map]
  show (extC xs.length r.laps.toNat [] 0).filter _ = _
  congr 1
  funext c
  unfold okC
  rw [judge_two]

set_option maxRecDepth 100000 in
theorem ext_small : ∀ n, n < 7 → ∀ d, d < 5 → (extC n d [] 0).length ≤ 126 := by decide +kernel
theorem right_small (xs : List Lp) (r : Ru) (h1 : xs.length ≤ 6) (h2 : r.laps.toNat ≤ 4) : (rightL xs r).length ≤ 300 := by
  have := ext_small xs.length (by omega) r.laps.toNat (by omega)
  exact Nat.le_trans (List.length_filter_le _ _) (by omega)
end Go.Proofs.Ytpkegiekpnaejaa
