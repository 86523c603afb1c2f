/-
  What a proof that holds says of the worst weather; and what more stock, more room and better days do.
  What is proved: a day up to the proof's day fails in the worst weather; a proof of which so much is met does not hold; with more of everything no day fails earlier.
  Conditions: valid winters of small numbers.
-/
import Derived.Test.YtkmcdmidegcbaaaAW
import Derived.Test.YtkmcdmidegcbaaaAB
namespace Go.Proofs.Ytkmcdmidegcbaaa
open Go.RowKit Go.Shelf

theorem getD_nonneg {f : Dy → Int} {ds : List Dy} (h : ∀ d ∈ ds, 0 ≤ f d) (k : Nat) : 0 ≤ (ds.map f)[k]?.getD 0 := by
  rw [map_getD]
  cases e : ds[k]? with
  | none => exact Int.le_refl _
  | some d => exact h d (List.mem_of_getElem? e)

/-- What has not failed has no more than a proof says. -/
theorem lack_above {stock store pf : Int} {N M L : List Int} (hs : 0 ≤ stock ∧ stock ≤ store) (hM : ∀ k : Nat, 0 ≤ M[k]?.getD 0) (hL : ∀ k : Nat, 0 ≤ L[k]?.getD 0) (hN : ∀ k : Nat, 0 ≤ N[k]?.getD 0) (j : Nat) (left : Int)
    (h : lackS store pf N M L pf.toNat stock j = some left) (hf : (playL stock store N M L (pf.toNat + j)).fails = -1) :
    (0 ≤ (playL stock store N M L (pf.toNat + j)).stock ∧ (playL stock store N M L (pf.toNat + j)).stock ≤ store) ∧ ((j = 0 ∧ 0 ≤ pf) ∨ (playL stock store N M L (pf.toNat + j)).stock ≤ left) := by
  have inv : ∀ k : Nat, (playL stock store N M L k).fails = -1 → 0 ≤ (playL stock store N M L k).stock ∧ (playL stock store N M L k).stock ≤ store := by
    intro k
    induction k with
    | zero => intro _; exact hs
    | succ k ih =>
      rw [playL_succ]
      have hm := hM k
      have hl := hL k
      have hn := hN k
      generalize playL stock store N M L k = a at ih ⊢
      intro h1
      by_cases hfa : a.fails = -1
      · obtain ⟨i1, i2⟩ := ih hfa
        rw [stepP, if_pos hfa] at h1 ⊢
        split at h1
        · have : (k : Int) = -1 := h1
          omega
        · rename_i hc
          rw [if_neg hc]
          unfold madeD lostD at *
          constructor
          · show 0 ≤ _ - _; omega
          · show _ - _ ≤ store; omega
      · rw [stepP, if_neg hfa] at h1; exact absurd h1 hfa
  refine ⟨inv _ hf, ?_⟩
  induction j generalizing left with
  | zero =>
    by_cases hp : 0 ≤ pf
    · exact .inl ⟨rfl, hp⟩
    · right
      have : pf.toNat = 0 := by omega
      rw [this]
      simp [lackS] at h
      show stock ≤ left
      omega
  | succ j ih =>
    right
    rw [lackS] at h
    cases h1 : lackS store pf N M L pf.toNat stock j with
    | none => rw [h1] at h; cases h
    | some l1 =>
      rw [h1] at h
      simp only [Option.bind_some] at h
      split at h
      · cases h
      · cases h
        rw [show pf.toNat + (j + 1) = (pf.toNat + j) + 1 by omega, playL_succ] at hf ⊢
        have i1 := inv (pf.toNat + j)
        have i2 := ih l1 h1
        have hm := hM (pf.toNat + j)
        have hl := hL (pf.toNat + j)
        have hn := hN (pf.toNat + j)
        generalize playL stock store N M L (pf.toNat + j) = a at hf i1 i2 ⊢
        by_cases hfa : a.fails = -1
        · obtain ⟨b1, b2⟩ := i1 hfa
          have i3 := i2 hfa
          rw [stepP, if_pos hfa] at hf ⊢
          split at hf
          · have : ((pf.toNat + j : Nat) : Int) = -1 := hf
            omega
          · rename_i hc
            rw [if_neg hc]
            show _ - _ ≤ _
            unfold madeD lostD atMostL at *
            rcases i3 with ⟨rfl, hp⟩ | i3
            · rw [if_pos (by omega)]; omega
            · split <;> omega
        · rw [stepP, if_neg hfa] at hf; exact absurd hf hfa

theorem lack_fails {stock store pf : Int} {N M L : List Int} (hs : 0 ≤ stock ∧ stock ≤ store) (hM : ∀ k : Nat, 0 ≤ M[k]?.getD 0) (hL : ∀ k : Nat, 0 ≤ L[k]?.getD 0) (hN : ∀ k : Nat, 0 ≤ N[k]?.getD 0) (pd n : Nat) (hpf : pf ≤ pd) (hn : pd < n)
    (h : (lackR stock store pf N M L pd).2 = true) : (playL stock store N M L n).fails ≠ -1 ∧ 0 ≤ (playL stock store N M L n).fails ∧ (playL stock store N M L n).fails ≤ pd := by
  unfold lackR at h
  cases h1 : lackS store pf N M L pf.toNat stock (pd - pf.toNat) with
  | none => rw [h1] at h; cases h
  | some left =>
    rw [h1] at h
    simp only [decide_eq_true_eq] at h
    by_cases hf : (playL stock store N M L pd).fails = -1
    · have e0 : pf.toNat + (pd - pf.toNat) = pd := by omega
      have ha := lack_above hs hM hL hN (pd - pf.toNat) left h1 (by rw [e0]; exact hf)
      rw [e0] at ha
      have hm := hM pd
      have hl := hL pd
      have e : (playL stock store N M L (pd + 1)).fails = pd := by
        rw [playL_succ]
        generalize playL stock store N M L pd = a at hf ha ⊢
        rw [stepP, if_pos hf, if_pos]
        obtain ⟨a1, a2⟩ := ha
        unfold madeD lostD atMostL at *
        rcases a2 with ⟨a2, a3⟩ | a2
        · rw [if_pos (by omega)] at h; omega
        · split at h <;> omega
      have := playL_stop stock store N M L (pd + 1) (by rw [e]; omega) n (by omega)
      rw [this, e]
      omega
    · have := playL_stop stock store N M L pd hf n (by omega)
      rw [this]
      rcases play_len stock store N M L pd with ⟨h2, _⟩ | ⟨d, h2, _, _, h3⟩
      · exact absurd h2 hf
      · rw [h2]; omega

theorem lackS_congr {store pf : Int} {N M L N' M' L' : List Int} (d0 : Nat) (stock : Int) (j : Nat) (h : ∀ k : Nat, k < d0 + j → N[k]?.getD 0 = N'[k]?.getD 0 ∧ M[k]?.getD 0 = M'[k]?.getD 0 ∧ L[k]?.getD 0 = L'[k]?.getD 0) :
    lackS store pf N M L d0 stock j = lackS store pf N' M' L' d0 stock j := by
  induction j with
  | zero => rfl
  | succ j ih =>
    rw [lackS, lackS, ih (fun k hk => h k (by omega))]
    obtain ⟨h1, h2, h3⟩ := h (d0 + j) (by omega)
    unfold atMostL
    rw [h1, h2, h3]

theorem set_getD {f : Dy → Int} {ds : List Dy} {p : Nat} {d : Dy} (hp : p < ds.length) (k : Nat) : ((ds.set p d).map f)[k]?.getD 0 = if k = p then f d else (ds.map f)[k]?.getD 0 := by
  rw [List.map_set, List.getElem?_set]
  split
  · rename_i h
    subst h
    rw [if_pos (by simpa using hp), if_pos rfl]
    rfl
  · rename_i h
    rw [if_neg (fun e => h e.symm)]

theorem winE_day {stock store : Int} {ds : List Dy} (h1 : 1 ≤ store ∧ store ≤ 1000000) (h2 : 0 ≤ stock ∧ stock ≤ store) (h3 : 1 ≤ ds.length ∧ (ds.length : Int) ≤ 60) (h4 : ∀ d ∈ ds, DayOk d) : winE stock store ds = 0 := by
  unfold winE
  have a : withinB store 1 1000000 = true := by simp [withinB]; omega
  have b : withinB stock 0 store = true := by simp [withinB]; omega
  have c : withinB ds.length 1 60 = true := by simp [withinB]; omega
  have d : ds.all dayB = true := by
    rw [List.all_eq_true]
    intro x hx
    obtain ⟨s1, s2, s3⟩ := h4 x hx
    simp [dayB, boundedB]; omega
  simp [a, b, c, d]

theorem get_map {f : Dy → Int} {ds : List Dy} {p : Nat} {d : Dy} (h : ds[p]? = some d) : (ds.map f)[p]?.getD 0 = f d := by rw [map_getD, h]

/-- A proof that holds, and the day that it is about. -/
theorem proof_true {stock store : Int} {ds : List Dy} {pf : Int} {pd : Nat} {d : Dy} (hs : 0 ≤ stock ∧ stock ≤ store) (hd : ∀ x ∈ ds, DayOk x) (hpf : pf ≤ pd) (hp : ds[pd]? = some d) (h : (worstLack stock store pf ds pd).2 = true) :
    ((worstL stock store ds).fails ≠ -1 ∧ 0 ≤ (worstL stock store ds).fails ∧ (worstL stock store ds).fails ≤ pd) ∧
    (1 ≤ (worstLack stock store pf ds pd).1 ∧ (worstLack stock store pf ds pd).1 ≤ d.need.hi) ∧
    (∀ lo : Int, (worstLack stock store pf (ds.set pd { d with need := ⟨lo, d.need.hi - (worstLack stock store pf ds pd).1⟩ }) pd).2 = false) ∧
    (pf < pd → (worstLack stock store pf (ds.set pd { d with make := ⟨d.make.lo + (worstLack stock store pf ds pd).1, d.make.hi + (worstLack stock store pf ds pd).1⟩ }) pd).2 = false) := by
  have hlt : pd < ds.length := by
    rcases Nat.lt_or_ge pd ds.length with h | h
    · exact h
    · rw [List.getElem?_eq_none h] at hp; cases hp
  have nN : ∀ k : Nat, 0 ≤ (ds.map fun d => d.need.hi)[k]?.getD 0 := getD_nonneg (fun x hx => by obtain ⟨a, b, c⟩ := hd x hx; omega)
  have nM : ∀ k : Nat, 0 ≤ (ds.map fun d => d.make.lo)[k]?.getD 0 := getD_nonneg (fun x hx => by obtain ⟨a, b, c⟩ := hd x hx; omega)
  have nL : ∀ k : Nat, 0 ≤ (ds.map fun d => d.loss.hi)[k]?.getD 0 := getD_nonneg (fun x hx => by obtain ⟨a, b, c⟩ := hd x hx; omega)
  refine ⟨lack_fails hs nM nL nN pd ds.length hpf hlt h, ?_⟩
  have eN := get_map (f := fun d => d.need.hi) hp
  have eM := get_map (f := fun d => d.make.lo) hp
  have eL := get_map (f := fun d => d.loss.hi) hp
  have m0 := nM pd
  unfold worstLack lackR at *
  cases h1 : lackS store pf (ds.map fun d => d.need.hi) (ds.map fun d => d.make.lo) (ds.map fun d => d.loss.hi) pf.toNat stock (pd - pf.toNat) with
  | none => rw [h1] at h; cases h
  | some left =>
    rw [h1] at h
    simp only [decide_eq_true_eq] at h ⊢
    have hq : ∀ d', lackS store pf ((ds.set pd d').map fun d => d.need.hi) ((ds.set pd d').map fun d => d.make.lo) ((ds.set pd d').map fun d => d.loss.hi) pf.toNat stock (pd - pf.toNat) = some left := fun d' => by
      rw [← h1]
      refine lackS_congr _ _ _ (fun k hk => ?_)
      have : k ≠ pd := by omega
      rw [set_getD hlt, set_getD hlt, set_getD hlt, if_neg this, if_neg this, if_neg this]
      exact ⟨rfl, rfl, rfl⟩
    have hat : 0 ≤ atMostL store pf (ds.map fun d => d.make.lo) (ds.map fun d => d.loss.hi) pd left := by
      unfold atMostL
      split
      · omega
      · split <;> omega
    refine ⟨⟨by omega, by omega⟩, fun lo => ?_, fun hlt' => ?_⟩
    · rw [hq]
      simp only [decide_eq_false_iff_not]
      unfold atMostL at *
      rw [set_getD hlt, set_getD hlt, set_getD hlt, if_pos rfl, if_pos rfl, if_pos rfl]
      simp only
      rw [eN, eM, eL] at *
      split <;> omega
    · rw [hq]
      simp only [decide_eq_false_iff_not]
      unfold atMostL at *
      rw [set_getD hlt, set_getD hlt, set_getD hlt, if_pos rfl, if_pos rfl, if_pos rfl]
      simp only
      rw [eN, eM, eL] at *
      rw [if_neg (by omega)] at *
      split <;> omega

/-- A day that is no worse. -/
def MoreDay (d d' : Dy) : Prop := (d.need.lo ≤ d'.need.hi ∧ d'.need.hi ≤ d.need.hi) ∧ (d.make.lo ≤ d'.make.lo ∧ d'.make.lo ≤ d.make.hi) ∧ (d.loss.lo ≤ d'.loss.hi ∧ d'.loss.hi ≤ d.loss.hi) ∧ d'.need.lo = d.need.lo ∧ d'.make.hi = d.make.hi ∧ d'.loss.lo = d.loss.lo
/-- Days that are no worse, from the first to the k-th; the others are the same. -/
def MoreDays (ds ds' : List Dy) : Prop := ds'.length = ds.length ∧ ∀ (k : Nat) (d d' : Dy), ds[k]? = some d → ds'[k]? = some d' → MoreDay d d'

theorem worst_less {st S st' S' : Int} {ds ds' : List Dy} (hd : ∀ d ∈ ds, SmallDay d) (hm : MoreDays ds ds') (h1 : st ≤ st') (h2 : S ≤ S') (h3 : 0 ≤ st ∧ st ≤ S) (h4 : st' ≤ S') : Less S S' (worstL st S ds) (worstL st' S' ds') := by
  unfold worstL
  rw [hm.1]
  refine playL_less h1 h2 h3 h4 (fun k => ?_) (fun k => ?_) (fun k => ?_) ds.length
  all_goals
    rw [map_getD, map_getD]
    cases h : ds[k]? with
    | none =>
      have : ds'[k]? = none := by
        rw [List.getElem?_eq_none_iff] at h ⊢
        have := hm.1
        omega
      rw [this]
      exact ⟨Int.le_refl _, Int.le_refl _⟩
    | some d =>
      have hk : k < ds'.length := by
        rcases Nat.lt_or_ge k ds.length with hh | hh
        · have := hm.1; omega
        · rw [List.getElem?_eq_none hh] at h; cases h
      have e := List.getElem?_eq_getElem hk
      rw [e]
      have := hm.2 k d _ h e
      obtain ⟨⟨a1, a2, a3⟩, ⟨b1, b2, b3⟩, c1, c2, c3⟩ := hd d (List.mem_of_getElem? h)
      obtain ⟨x1, x2, x3, _⟩ := this
      constructor <;> dsimp only <;> omega

theorem more_ok {st S st' S' : Int} {ds ds' : List Dy} (hd : ∀ d ∈ ds, SmallDay d) (hm : MoreDays ds ds') (h1 : st ≤ st') (h2 : S ≤ S') (h3 : 0 ≤ st ∧ st ≤ S) (h4 : st' ≤ S') (h : okB st S ds = true) : okB st' S' ds' = true := by
  unfold okB at *
  rw [beq_iff_eq] at *
  exact ((worst_less hd hm h1 h2 h3 h4).run h).1
end Go.Proofs.Ytkmcdmidegcbaaa
