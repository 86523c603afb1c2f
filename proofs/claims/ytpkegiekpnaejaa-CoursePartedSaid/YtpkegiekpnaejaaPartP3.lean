/-
A winter that is parted, and one with twice as much of everything, as functions of lists.
  What is proved: what happens after a day is what happens in the second part; twice as much of everything has twice the stocks.
  Conditions: each lemma states its own.
The memory of a law that makes a winter and a weather with twice as much of everything.
  What is proved: these facts go on from one step to the next.
  Conditions: each lemma states its own.
The contract of MadeWinter over this seat's program, with the room of its days.
  What is proved: as before, and the days' list has room for all of them.
  Conditions: a deck that has dealt at most 1000 times; at most 30 days.
The contract of Drawn over this seat's program, with the room of its lists.
  What is proved: as before, and each list has room for all of its numbers.
  Conditions: a deck that has dealt at most 1000 times; at most 60 days of small numbers.
The contract of Stocks over this seat's program, with the room of its list.
  What is proved: as before, and the list has room for all of its numbers.
  Conditions: a valid winter, and a weather within its spans.
-/
import Derived.Test.YtpkegiekpnaejaaPartP2
namespace Go.Proofs.Ytpkegiekpnaejaa
open Go.RowKit Go.Shelf

/-- Twice as much of everything. -/
def twiceP (s : Ps) : Ps := ⟨2 * s.stock, s.stocks.map (2 * ·), s.made.map (2 * ·), s.fails, s.full⟩
theorem getD_twice (N : List Int) (k : Nat) : (N.map (2 * ·))[k]?.getD 0 = 2 * N[k]?.getD 0 := by
  rw [List.getElem?_map]
  cases N[k]? <;> simp
theorem twice_step (store : Int) (s : Ps) (k : Nat) (n m l : Int) : stepP (2 * store) (twiceP s) k (2 * n) (2 * m) (2 * l) = twiceP (stepP store s k n m l) := by
  have h1 : lostD (2 * s.stock) (2 * l) = 2 * lostD s.stock l := by unfold lostD; omega
  have h2 : madeD (2 * store) (2 * s.stock) (2 * m) (2 * l) = 2 * madeD store s.stock m l := by unfold madeD; rw [h1]; omega
  unfold stepP
  have e1 : (twiceP s).fails = s.fails := rfl
  have e2 : (twiceP s).stock = 2 * s.stock := rfl
  have e3 : (twiceP s).full = s.full := rfl
  have e4 : (twiceP s).stocks = s.stocks.map (2 * ·) := rfl
  have e5 : (twiceP s).made = s.made.map (2 * ·) := rfl
  rw [e1, e2, e3, e4, e5, h1, h2]
  generalize lostD s.stock l = lo
  generalize madeD store s.stock m l = ma
  by_cases hf : s.fails = -1
  · rw [if_pos hf, if_pos hf]
    have e6 : (if 2 * ma < 2 * m then (k : Int) else s.full) = if ma < m then (k : Int) else s.full := by
      by_cases h : ma < m
      · rw [if_pos h, if_pos (by omega)]
      · rw [if_neg h, if_neg (by omega)]
    rw [e6]
    by_cases hn : s.stock + (ma - lo) < n
    · rw [if_pos hn, if_pos (by omega)]
      rfl
    · rw [if_neg hn, if_neg (by omega)]
      have e7 : 2 * s.stock + (2 * ma - 2 * lo) - 2 * n = 2 * (s.stock + (ma - lo) - n) := by omega
      rw [e7]
      simp [twiceP]
  · rw [if_neg hf, if_neg hf]
theorem playL_twice (stock store : Int) (N M L : List Int) (k : Nat) : playL (2 * stock) (2 * store) (N.map (2 * ·)) (M.map (2 * ·)) (L.map (2 * ·)) k = twiceP (playL stock store N M L k) := by
  induction k with
  | zero => rfl
  | succ k ih => rw [playL_succ, playL_succ, ih, getD_twice, getD_twice, getD_twice, twice_step]

/-- Two tales, one after the other. -/
def joinP (k : Nat) (a b : Ps) : Ps := ⟨b.stock, a.stocks ++ b.stocks, a.made ++ b.made, if b.fails = -1 then -1 else k + b.fails, if b.full = -1 then a.full else k + b.full⟩
theorem joinP_step (store : Int) (k m : Nat) (a b : Ps) (n mk l : Int) (hb : -1 ≤ b.fails) : stepP store (joinP k a b) (k + m) n mk l = joinP k a (stepP store b m n mk l) := by
  unfold stepP
  have e2 : (joinP k a b).stock = b.stock := rfl
  rw [e2]
  generalize madeD store b.stock mk l = ma
  generalize lostD b.stock l = lo
  have e6 : ∀ x : Int, (if ma < mk then ((k + m : Nat) : Int) else (if x = -1 then a.full else k + x)) = if (if ma < mk then (m : Int) else x) = -1 then a.full else k + (if ma < mk then (m : Int) else x) := by
    intro x
    by_cases h : ma < mk
    · rw [if_pos h, if_pos h, if_neg (by omega)]; omega
    · rw [if_neg h, if_neg h]
  by_cases hf : b.fails = -1
  · have hj : (joinP k a b).fails = -1 := if_pos hf
    rw [if_pos hf, if_pos hj]
    by_cases hn : b.stock + (ma - lo) < n
    · rw [if_pos hn, if_pos hn]
      simp only [joinP, e6, Ps.mk.injEq, true_and, and_true]
      rw [if_neg (by omega)]
      omega
    · rw [if_neg hn, if_neg hn]
      simp only [joinP, e6, if_true, List.append_assoc]
  · have hj : ¬ (joinP k a b).fails = -1 := by
      show ¬ (if b.fails = -1 then (-1 : Int) else k + b.fails) = -1
      rw [if_neg hf]; omega
    rw [if_neg hf, if_neg hj]
theorem play_ge (st S : Int) (N M L : List Int) (k : Nat) : -1 ≤ (playL st S N M L k).fails := by
  rcases play_len st S N M L k with ⟨h, _⟩ | ⟨d, h, _⟩ <;> omega
theorem getD_drop (N : List Int) (k m : Nat) : (N.drop k)[m]?.getD 0 = N[k + m]?.getD 0 := by rw [List.getElem?_drop]
theorem playL_part (stock store : Int) (N M L : List Int) (k : Nat) (ha : (playL stock store N M L k).fails = -1) (m : Nat) :
    playL stock store N M L (k + m) = joinP k (playL stock store N M L k) (playL (playL stock store N M L k).stock store (N.drop k) (M.drop k) (L.drop k) m) := by
  induction m with
  | zero =>
    show playL stock store N M L k = _
    generalize playL stock store N M L k = a at ha
    cases a
    subst ha
    simp [joinP, playL]
  | succ m ih =>
    rw [← Nat.add_assoc, playL_succ, ih, playL_succ, joinP_step _ _ _ _ _ _ _ _ (play_ge _ _ _ _ _ _), getD_drop, getD_drop, getD_drop]
theorem playL_take (stock store : Int) (N M L : List Int) (n k : Nat) (hk : k ≤ n) : playL stock store (N.take n) (M.take n) (L.take n) k = playL stock store N M L k := by
  induction k with
  | zero => rfl
  | succ k ih =>
    rw [playL_succ, playL_succ, ih (by omega), List.getElem?_take_of_lt (by omega), List.getElem?_take_of_lt (by omega), List.getElem?_take_of_lt (by omega)]
theorem playL_held (stock store : Int) (N M L : List Int) (k : Nat) (h : (playL stock store N M L k).fails ≠ -1) (m : Nat) : playL stock store N M L (k + m) = playL stock store N M L k := by
  induction m with
  | zero => rfl
  | succ m ih => rw [← Nat.add_assoc, playL_succ, ih, stepP, if_neg h]
/-- The stock after the last day told of. -/
theorem stock_last (stock store : Int) (N M L : List Int) (k : Nat) : (playL stock store N M L k).stock = if (playL stock store N M L k).stocks.length = 0 then stock else (playL stock store N M L k).stocks[(playL stock store N M L k).stocks.length - 1]?.getD 0 := by
  induction k with
  | zero => rfl
  | succ k ih =>
    rw [playL_succ, stepP]
    generalize playL stock store N M L k = s at ih ⊢
    generalize madeD store s.stock (M[k]?.getD 0) (L[k]?.getD 0) = ma
    generalize lostD s.stock (L[k]?.getD 0) = lo
    by_cases hf : s.fails = -1
    · rw [if_pos hf]
      by_cases hn : s.stock + (ma - lo) < N[k]?.getD 0
      · rw [if_pos hn]; exact ih
      · rw [if_neg hn]
        show s.stock + (ma - lo) - N[k]?.getD 0 = if (s.stocks ++ [s.stock + (ma - lo) - N[k]?.getD 0]).length = 0 then _ else (s.stocks ++ [s.stock + (ma - lo) - N[k]?.getD 0])[(s.stocks ++ [s.stock + (ma - lo) - N[k]?.getD 0]).length - 1]?.getD 0
        rw [if_neg (by simp), List.length_append, List.length_singleton, Nat.add_sub_cancel]
        simp
    · rw [if_neg hf]; exact ih
/-- What a winter that is parted after k days tells. -/
theorem parted (stock store : Int) (N M L : List Int) (n k : Nat) (hk : 1 ≤ k ∧ k ≤ n) (hl : k ≤ (playL stock store N M L n).stocks.length) :
    (playL stock store N M L k).fails = -1 ∧ (playL stock store N M L k).stock = (playL stock store N M L n).stocks[k - 1]?.getD 0 ∧
    (playL ((playL stock store N M L n).stocks[k - 1]?.getD 0) store (N.drop k) (M.drop k) (L.drop k) (n - k)).stocks = (playL stock store N M L n).stocks.drop k ∧
    ((playL stock store N M L n).fails = if (playL ((playL stock store N M L n).stocks[k - 1]?.getD 0) store (N.drop k) (M.drop k) (L.drop k) (n - k)).fails = -1 then -1 else k + (playL ((playL stock store N M L n).stocks[k - 1]?.getD 0) store (N.drop k) (M.drop k) (L.drop k) (n - k)).fails) := by
  obtain ⟨m, rfl⟩ : ∃ m, n = k + m := ⟨n - k, by omega⟩
  have h0 : (playL stock store N M L k).fails = -1 := by
    by_cases h : (playL stock store N M L k).fails = -1
    · exact h
    · rw [playL_held _ _ _ _ _ _ h] at hl
      rcases play_len stock store N M L k with ⟨h', _⟩ | ⟨d, _, h2, _, h4⟩
      · exact absurd h' h
      · omega
  have hp := playL_part stock store N M L k h0 m
  have hlen : (playL stock store N M L k).stocks.length = k := by
    rcases play_len stock store N M L k with ⟨_, h, _⟩ | ⟨d, h, _⟩
    · exact h
    · omega
  have hs := stock_last stock store N M L k
  rw [hlen, if_neg (by omega)] at hs
  have hst : (playL stock store N M L k).stock = (playL stock store N M L (k + m)).stocks[k - 1]?.getD 0 := by
    rw [hp]
    show _ = (_ ++ _)[k - 1]?.getD 0
    rw [List.getElem?_append_left (by omega)]
    exact hs
  rw [← hst, Nat.add_sub_cancel_left]
  refine ⟨h0, rfl, ?_, ?_⟩
  · rw [hp]
    show _ = List.drop k (_ ++ _)
    rw [List.drop_append_of_le_length (by rw [hlen]; exact Nat.le_refl _), List.drop_of_length_le (l := (playL stock store N M L k).stocks) (by rw [hlen]; exact Nat.le_refl _)]
    rfl
  · rw [hp]; rfl

theorem win_mk {stock store : Int} {ds : List Dy} (h1 : 0 ≤ stock ∧ stock ≤ store) (h2 : 1 ≤ store ∧ store ≤ 1000000) (h3 : 1 ≤ ds.length ∧ ds.length ≤ 60) (h4 : ∀ d ∈ ds, DayOk d) : winE stock store ds = 0 := by
  unfold winE
  rw [if_pos (by simp [withinB]; omega), if_pos (by simp [withinB]; omega), if_pos (by simp [withinB]; omega), if_pos]
  rw [List.all_eq_true]
  intro d hd
  obtain ⟨⟨a1, a2, a3⟩, ⟨b1, b2, b3⟩, c1, c2, c3⟩ := h4 d hd
  simp [dayB, boundedB]
  omega
theorem win_drop {stock store st : Int} {ds : List Dy} {k : Nat} (h : winE stock store ds = 0) (hs : 0 ≤ st ∧ st ≤ store) (hk : k < ds.length) : winE st store (ds.drop k) = 0 := by
  obtain ⟨b1, b2, b3⟩ := win_ok h
  exact win_mk hs ⟨b1.2.2.1, b1.2.2.2⟩ (by simp; omega) (fun d hd => b3 d (List.mem_of_mem_drop hd))
theorem win_take {stock store : Int} {ds : List Dy} {k : Nat} (h : winE stock store ds = 0) (hk : 1 ≤ k ∧ k ≤ ds.length) : winE stock store (ds.take k) = 0 := by
  obtain ⟨b1, b2, b3⟩ := win_ok h
  exact win_mk ⟨b1.1, b1.2.1⟩ ⟨b1.2.2.1, b1.2.2.2⟩ (by simp; omega) (fun d hd => b3 d (List.mem_of_mem_take hd))
def Sp.dbl (s : Sp) : Sp := ⟨2 * s.lo, 2 * s.hi⟩
def Dy.dbl (d : Dy) : Dy := ⟨d.need.dbl, d.make.dbl, d.loss.dbl⟩
theorem win_dbl {stock store : Int} {ds : List Dy} (h1 : 0 ≤ stock ∧ stock ≤ store) (h2 : 20 ≤ store ∧ store ≤ 200) (h3 : 1 ≤ ds.length ∧ ds.length ≤ 20) (h4 : ∀ d ∈ ds, SmallDay d) : winE (2 * stock) (2 * store) (ds.map Dy.dbl) = 0 := by
  refine win_mk (by omega) (by omega) (by simp; omega) (fun d hd => ?_)
  obtain ⟨d', hd', rfl⟩ := List.mem_map.1 hd
  obtain ⟨⟨a1, a2, a3⟩, ⟨b1, b2, b3⟩, c1, c2, c3⟩ := h4 d' hd'
  unfold DayOk Dy.dbl Sp.dbl
  dsimp only
  omega
theorem sky_drop {ds : List Dy} {N M L : List Int} (h : Sky ds N M L) (k : Nat) : Sky (ds.drop k) (N.drop k) (M.drop k) (L.drop k) := by
  obtain ⟨⟨l1, l2, l3⟩, h⟩ := h
  refine ⟨by simp; omega, fun i d hd => ?_⟩
  rw [List.getElem?_drop] at hd
  rw [getD_drop, getD_drop, getD_drop]
  exact h (k + i) d hd
theorem sky_dbl {ds : List Dy} {N M L : List Int} (h : Sky ds N M L) : Sky (ds.map Dy.dbl) (N.map (2 * ·)) (M.map (2 * ·)) (L.map (2 * ·)) := by
  obtain ⟨⟨l1, l2, l3⟩, h⟩ := h
  refine ⟨by simp; omega, fun i d hd => ?_⟩
  rw [List.getElem?_map] at hd
  cases e : ds[i]? with
  | none => rw [e] at hd; cases hd
  | some d' =>
    rw [e] at hd
    simp only [Option.map_some, Option.some.injEq] at hd
    subst hd
    obtain ⟨a, b, c⟩ := h i d' e
    rw [getD_twice, getD_twice, getD_twice]
    unfold Dy.dbl Sp.dbl
    dsimp only
    omega
/-- A slice of days from one of them on. -/
theorem Sl.from {w : World} {b off k : Nat} {ds : List Dy} (h : Sl 6 Dy.cells w (some ⟨b, off, none⟩) ds) (hk : k < ds.length) : Sl 6 Dy.cells w (some ⟨b, off + k * 6, none⟩) (ds.drop k) := fun _ => by
  obtain ⟨b', off', e, hb, hc⟩ := h (by omega)
  cases e
  refine ⟨b, off + k * 6, rfl, hb, fun j x i u hx hu => ?_⟩
  rw [List.getElem?_drop] at hx
  have := hc (k + j) x i u hx hu
  rw [show off + k * 6 + j * 6 + i = off + (k + j) * 6 + i by omega]
  exact this
theorem Sl.upto {w : World} {a : Option Addr} {k : Nat} {ds : List Dy} (h : Sl 6 Dy.cells w a ds) : Sl 6 Dy.cells w a (ds.take k) := fun h0 => by
  obtain ⟨b, off, e, hb, hc⟩ := h (by simp at h0; omega)
  refine ⟨b, off, e, hb, fun j x i u hx hu => hc j x i u ?_ hu⟩
  rw [List.getElem?_take] at hx
  split at hx
  · exact hx
  · cases hx
theorem held_len (stock store : Int) (N M L : List Int) (n k : Nat) (hk : k ≤ n) (h : (playL stock store N M L k).fails = -1) : k ≤ (playL stock store N M L n).stocks.length := by
  obtain ⟨m, rfl⟩ : ∃ m, n = k + m := ⟨n - k, by omega⟩
  rw [playL_part stock store N M L k h m]
  rcases play_len stock store N M L k with ⟨_, h1, _⟩ | ⟨d, h1, _⟩
  · show k ≤ (List.append _ _).length
    rw [List.append_eq, List.length_append, h1]; omega
  · omega
theorem held_bd {stock store : Int} {N M L : List Int} (hs : 0 ≤ stock ∧ stock ≤ store) (hN : ∀ k : Nat, 0 ≤ N[k]?.getD 0) (hM : ∀ k : Nat, 0 ≤ M[k]?.getD 0) (hL : ∀ k : Nat, 0 ≤ L[k]?.getD 0) (k : Nat) (h : (playL stock store N M L k).fails = -1) : 0 ≤ (playL stock store N M L k).stock ∧ (playL stock store N M L k).stock ≤ store := by
  have := (playL_less (Int.le_refl stock) (Int.le_refl store) hs hs.2 (fun q => ⟨hM q, Int.le_refl _⟩) (fun q => ⟨hL q, Int.le_refl _⟩) (fun q => ⟨hN q, Int.le_refl _⟩) k).run h
  exact ⟨this.2.2.1, this.2.2.2.1⟩
theorem map_pos {ds : List Dy} {f : Dy → Int} (h : ∀ d ∈ ds, 0 ≤ f d) (k : Nat) : 0 ≤ (ds.map f)[k]?.getD 0 := by
  rw [map_getD]
  cases e : ds[k]? with
  | none => exact Int.le_refl _
  | some d => exact h d (List.mem_of_getElem? e)
/-- What the law asks of the first days that can fail. -/
theorem parted_first {stock store : Int} {ds : List Dy} {k : Nat} (hw : winE stock store ds = 0) (hk : 1 ≤ k ∧ k < ds.length) :
    (∃ x f : Int, failR stock store (ds.take k) = (x, f, 0) ∧ ∃ f' : Int, failR stock store ds = (x, f', 0)) ∨
    (∃ f : Int, failR stock store (ds.take k) = (0, f, 6) ∧ k ≤ (rangesL stock store ds).length ∧ ∃ s : Sp, (rangesL stock store ds)[k - 1]? = some s ∧ (0 ≤ s.lo ∧ s.lo ≤ store) ∧
      ∃ x f f' e : Int, failR s.lo store (ds.drop k) = (x, f, e) ∧ ((e = 6 ∧ failR stock store ds = (0, f', 6)) ∨ (e = 0 ∧ failR stock store ds = (x + k, f', 0)))) := by
  obtain ⟨b1, b2, b3⟩ := win_ok hw
  have ht := win_take (k := k) hw ⟨hk.1, by omega⟩
  have hN := map_pos (ds := ds) (f := fun d => d.need.hi) (fun d hd => by have := b3 d hd; unfold DayOk at this; omega)
  have hM := map_pos (ds := ds) (f := fun d => d.make.lo) (fun d hd => by have := b3 d hd; unfold DayOk at this; omega)
  have hL := map_pos (ds := ds) (f := fun d => d.loss.hi) (fun d hd => by have := b3 d hd; unfold DayOk at this; omega)
  obtain ⟨N, eN⟩ : ∃ N, (ds.map fun d => d.need.hi) = N := ⟨_, rfl⟩
  obtain ⟨M, eM⟩ : ∃ M, (ds.map fun d => d.make.lo) = M := ⟨_, rfl⟩
  obtain ⟨L, eL⟩ : ∃ L, (ds.map fun d => d.loss.hi) = L := ⟨_, rfl⟩
  have e0 : worstL stock store ds = playL stock store N M L ds.length := by rw [worstL, eN, eM, eL]
  have e1 : worstL stock store (ds.take k) = playL stock store N M L k := by
    rw [worstL, List.map_take, List.map_take, List.map_take, List.length_take, Nat.min_eq_left (by omega), eN, eM, eL]
    exact playL_take _ _ _ _ _ _ _ (Nat.le_refl _)
  have e2 : ∀ st, worstL st store (ds.drop k) = playL st store (N.drop k) (M.drop k) (L.drop k) (ds.length - k) := fun st => by
    rw [worstL, List.map_drop, List.map_drop, List.map_drop, List.length_drop, eN, eM, eL]
  rw [eN] at hN
  rw [eM] at hM
  rw [eL] at hL
  clear eN eM eL
  have er : rangesL stock store ds = (List.range (playL stock store N M L ds.length).stocks.length).map fun j => ⟨(playL stock store N M L ds.length).stocks[j]?.getD 0, (bestL stock store ds).stocks[j]?.getD 0⟩ := by rw [rangesL, e0]
  have f0 : failR stock store ds = if (playL stock store N M L ds.length).fails = -1 then (0, 0, 6) else ((playL stock store N M L ds.length).fails, (playL stock store N M L ds.length).full, 0) := by rw [failR, if_pos hw, e0]
  have f1 : failR stock store (ds.take k) = if (playL stock store N M L k).fails = -1 then (0, 0, 6) else ((playL stock store N M L k).fails, (playL stock store N M L k).full, 0) := by rw [failR, if_pos ht, e1]
  rw [f0, f1, er]
  by_cases hf : (playL stock store N M L k).fails = -1
  · right
    have hl := held_len stock store N M L ds.length k (by omega) hf
    obtain ⟨p1, p2, p3, p4⟩ := parted stock store N M L ds.length k ⟨hk.1, by omega⟩ hl
    have hbd := held_bd ⟨b1.1, b1.2.1⟩ hN hM hL k hf
    rw [p2] at hbd
    have hd := win_drop (k := k) hw hbd hk.2
    rw [if_pos hf]
    refine ⟨0, rfl, by simpa using hl, ⟨(playL stock store N M L ds.length).stocks[k - 1]?.getD 0, (bestL stock store ds).stocks[k - 1]?.getD 0⟩, ?_, hbd, ?_⟩
    · rw [List.getElem?_map, List.getElem?_range (by omega)]
      rfl
    · have f2 : failR ((playL stock store N M L ds.length).stocks[k - 1]?.getD 0) store (ds.drop k) = if (playL ((playL stock store N M L ds.length).stocks[k - 1]?.getD 0) store (N.drop k) (M.drop k) (L.drop k) (ds.length - k)).fails = -1 then (0, 0, 6) else ((playL ((playL stock store N M L ds.length).stocks[k - 1]?.getD 0) store (N.drop k) (M.drop k) (L.drop k) (ds.length - k)).fails, (playL ((playL stock store N M L ds.length).stocks[k - 1]?.getD 0) store (N.drop k) (M.drop k) (L.drop k) (ds.length - k)).full, 0) := by rw [failR, if_pos hd, e2]
      show ∃ x f f' e : Int, failR ((playL stock store N M L ds.length).stocks[k - 1]?.getD 0) store (ds.drop k) = (x, f, e) ∧ _
      rw [f2]
      have hge := play_ge ((playL stock store N M L ds.length).stocks[k - 1]?.getD 0) store (N.drop k) (M.drop k) (L.drop k) (ds.length - k)
      generalize playL ((playL stock store N M L ds.length).stocks[k - 1]?.getD 0) store (N.drop k) (M.drop k) (L.drop k) (ds.length - k) = t at *
      by_cases hg : t.fails = -1
      · rw [if_pos hg] at p4
        rw [if_pos hg, if_pos p4]
        exact ⟨0, 0, 0, 6, rfl, .inl ⟨rfl, rfl⟩⟩
      · rw [if_neg hg] at p4
        rw [if_neg hg, if_neg (by omega)]
        refine ⟨_, _, (playL stock store N M L ds.length).full, 0, rfl, .inr ⟨rfl, ?_⟩⟩
        rw [p4, Int.add_comm]
  · left
    have hh := playL_held stock store N M L k hf (ds.length - k)
    rw [show k + (ds.length - k) = ds.length by omega] at hh
    rw [hh, if_neg hf]
    exact ⟨_, _, rfl, _, rfl⟩
/-- A day that can fail is one of the days. -/
theorem fail_small {stock store : Int} {ds : List Dy} {x f : Int} (h : failR stock store ds = (x, f, 0)) : 0 ≤ x ∧ x ≤ ds.length := by
  unfold failR at h
  by_cases hw : winE stock store ds = 0
  · rw [if_pos hw] at h
    by_cases hf : (worstL stock store ds).fails = -1
    · rw [if_pos hf] at h
      simp at h
    · rw [if_neg hf] at h
      simp only [Prod.mk.injEq] at h
      obtain ⟨rfl, _, _⟩ := h
      rcases play_len stock store (ds.map fun d => d.need.hi) (ds.map fun d => d.make.lo) (ds.map fun d => d.loss.hi) ds.length with ⟨h1, _⟩ | ⟨d, h1, _, _, h2⟩
      · exact absurd h1 hf
      · have h3 : (worstL stock store ds).fails = d := h1
        omega
  · rw [if_neg hw] at h
    simp only [Prod.mk.injEq] at h
    exact absurd h.2.2 hw
end Go.Proofs.Ytpkegiekpnaejaa

namespace Go.Proofs.Ytpkegiekpnaejaa
open Go.RowKit Go.Shelf

/-- A winter in box T, its days a row of the call's own. -/
structure WR (W : World) (T base : Nat) (stock store : Int) (sv : Value) (ds : List Dy) : Prop where
  wb : W.heap[T]? = some (.cells #[.int .i64 stock, .int .i64 store, sv] 60 (0, 0))
  row : W.ownsRow base 97 6 sv ds.length (flatD ds)
section
variable {w0 W W' : World} {T T2 base : Nat} {stock store : Int} {sv : Value} {ds : List Dy} {tN tM tL vN vM vL : Value} {N M L : List Int}
theorem WR.below (h : WR W T base stock store sv ds) (hb : Below W.heap.size W W') : WR W' T base stock store sv ds := ⟨blk_below h.wb hb, owns_below h.row hb⟩
theorem int_block {n : Nat} {v : Value} {xs : List Value} {g : Nat} (h : W.ownsRow base 3 1 v n xs) (he : some g = v.ownBlock) : ∃ cur, W.heap[g]? = some (.cells cur 3 (0, 0)) := by
  rcases h.2 with ⟨e', _⟩ | ⟨g', c, cur, e', _, hgb, _⟩
  · rw [e'] at he; cases he
  · rw [e'] at he
    simp only [Value.ownBlock, Option.some.injEq] at he
    subst he
    exact ⟨cur, hgb⟩
theorem day_block {n : Nat} {v : Value} {xs : List Value} {g : Nat} (h : W.ownsRow base 97 6 v n xs) (he : some g = v.ownBlock) : base ≤ g ∧ ∃ cur, W.heap[g]? = some (.cells cur 97 (0, 0)) := by
  rcases h.2 with ⟨e', _⟩ | ⟨g', c, cur, e', hb, hgb, _⟩
  · rw [e'] at he; cases he
  · rw [e'] at he
    simp only [Value.ownBlock, Option.some.injEq] at he
    subst he
    exact ⟨hb, cur, hgb⟩
/-- A number more in a list leaves the winter. -/
theorem WR.keep (h : WR W T base stock store sv ds) (ht : TR w0 T2 tN tM tL W vN vM vL N M L) (hg : W.grownBy W' vN.ownBlock) : WR W' T base stock store sv ds := by
  refine ⟨(hg.block T (lt_of_block h.wb) (fun e => ?_)).trans h.wb, owns_step h.row (fun g _ he hlt => hg.block g hlt (fun e => ?_))⟩
  · obtain ⟨cur, hc⟩ := int_block ht.r.n e
    rw [h.wb] at hc
    simp at hc
  · obtain ⟨cur, hc⟩ := int_block ht.r.n e
    obtain ⟨_, cur2, hc2⟩ := day_block h.row he.symm
    rw [hc2] at hc
    simp at hc
/-- A day more leaves the lists. -/
theorem TR.day (ht : TR w0 T2 tN tM tL W vN vM vL N M L) (h : W.ownsRow (T2 + 1) 97 6 sv ds.length (flatD ds)) (hg : W.grownBy W' sv.ownBlock) : TR w0 T2 tN tM tL W' vN vM vL N M L := by
  have hT := ht.hT
  have low : ∀ j, j < W.heap.size → j ≤ T2 → W'.heap[j]? = W.heap[j]? := fun j hj hT => hg.block j hj (fun e => by have := (day_block h e).1; omega)
  have oth : ∀ (v : Value) (n : Nat) (xs : List Value), W.ownsRow (T2 + 1) 3 1 v n xs → W'.ownsRow (T2 + 1) 3 1 v n xs := fun v n xs hv => owns_step hv (fun g _ he hlt => hg.block g hlt (fun e => by
    obtain ⟨cur, hc⟩ := int_block hv he.symm
    obtain ⟨_, cur2, hc2⟩ := day_block h e
    rw [hc2] at hc
    simp at hc))
  exact ⟨⟨hg.os.trans ht.b.os, hg.tape.trans ht.b.tape, hg.output.trans ht.b.output, Nat.le_trans ht.b.size hg.size, fun j hj => (low j (Nat.lt_of_lt_of_le hj ht.b.size) (by omega)).trans (ht.b.block j hj)⟩, (low T2 (lt_of_block ht.tb) (Nat.le_refl _)).trans ht.tb, hT, oth _ _ _ ht.r.n, oth _ _ _ ht.r.m, oth _ _ _ ht.r.l, ht.r.d1, ht.r.d2, ht.r.d3⟩
/-- Both. -/
structure PQ (w0 : World) (stock store : Int) (W : World) (sv vN vM vL : Value) (ds : List Dy) (N M L : List Int) : Prop where
  tr : TR w0 (w0.heap.size + 1) vN vM vL W vN vM vL N M L
  wr : WR W w0.heap.size (w0.heap.size + 1 + 1) stock store sv ds
theorem PQ.below (h : PQ w0 stock store W sv vN vM vL ds N M L) (hb : Below W.heap.size W W') : PQ w0 stock store W' sv vN vM vL ds N M L := ⟨h.tr.below hb, h.wr.below hb⟩
theorem PQ.start (w0 : World) (stock store : Int) : PQ w0 stock store ((w0.alloc (.cells #[.int .i64 stock, .int .i64 store, .slice none 0 0] 60)).alloc zero88) (.slice none 0 0) (.slice none 0 0) (.slice none 0 0) (.slice none 0 0) [] [] [] [] := by
  have h1 := alloc1 w0 (.cells #[.int .i64 stock, .int .i64 store, .slice none 0 0] 60)
  have h2 := alloc1 (w0.alloc (.cells #[.int .i64 stock, .int .i64 store, .slice none 0 0] 60)) zero88
  have hz : (w0.alloc (.cells #[.int .i64 stock, .int .i64 store, .slice none 0 0] 60)).heap.size = w0.heap.size + 1 := by simp
  refine ⟨⟨below_self h1 h2, ?_, by omega, ⟨World.ownsRow_nil _ _ _ _, World.ownsRow_nil _ _ _ _, World.ownsRow_nil _ _ _ _, ?_, ?_, ?_⟩⟩, ⟨blk_below (heap_alloc_new _ _) h2, World.ownsRow_nil _ _ _ _⟩⟩
  · rw [← hz]; exact heap_alloc_new _ _
  all_goals (intro i hi; cases hi)
/-- A day more, stored to the winter's box. -/
theorem PQ.more (h : PQ w0 stock store W sv vN vM vL ds N M L) {d : Dy} {g c : Nat} (ho : W'.ownsRow (w0.heap.size + 1 + 1) 97 6 (.slice (some ⟨g, 0, none⟩) (ds.length + 1) c) (ds.length + 1) (flatD ds ++ (Dy.cells d).map (Value.int .i64))) (hg : W.grownBy W' sv.ownBlock) :
    PQ w0 stock store (W'.setCell ⟨w0.heap.size, 2, none⟩ (.slice (some ⟨g, 0, none⟩) (ds.length + 1) c)) (.slice (some ⟨g, 0, none⟩) (ds.length + 1) c) vN vM vL (ds ++ [d]) N M L := by
  have h1 := h.tr.day h.wr.row hg
  have hl : (ds ++ [d]).length = ds.length + 1 := by simp
  have hf : flatD (ds ++ [d]) = flatD ds ++ (Dy.cells d).map (Value.int .i64) := by simp [flatD]
  have hw : W'.heap[w0.heap.size]? = some (.cells #[.int .i64 stock, .int .i64 store, sv] 60 (0, 0)) := (hg.block _ (lt_of_block h.wr.wb) (fun e => by have := (day_block h.wr.row e).1; omega)).trans h.wr.wb
  have ko : ∀ j, j ≠ w0.heap.size → (W'.setCell ⟨w0.heap.size, 2, none⟩ (.slice (some ⟨g, 0, none⟩) (ds.length + 1) c)).heap[j]? = W'.heap[j]? := fun j hj => Below.heap_setCell _ _ _ _ hj
  refine ⟨⟨h1.b.setCell (p := ⟨w0.heap.size, 2, none⟩) (Nat.le_refl _) _, (ko _ (by omega)).trans h1.tb, h1.hT, h1.r.step (fun g hg _ => ko g (by omega))⟩, ⟨blk_setCell (j := 2) hw, ?_⟩⟩
  rw [hl, hf]
  exact owns_step ho (fun g hg _ _ => ko g (by omega))
/-- The winter's box, and another block, behind the append of a day. -/
theorem PQ.box (h : PQ w0 stock store W sv vN vM vL ds N M L) (hg : W.grownBy W' sv.ownBlock) : W'.heap[w0.heap.size]? = some (.cells #[.int .i64 stock, .int .i64 store, sv] 60 (0, 0)) :=
  (hg.block _ (lt_of_block h.wr.wb) (fun e => by have := (day_block h.wr.row e).1; omega)).trans h.wr.wb
/-- A number more in each list, stored to the weather's box. -/
theorem PQ.put (ht : TR w0 (w0.heap.size + 1) tN tM tL W vN vM vL N M L) (h : WR W w0.heap.size (w0.heap.size + 1 + 1) stock store sv ds) :
    PQ w0 stock store (((W.setCell ⟨w0.heap.size + 1, 0, none⟩ vN).setCell ⟨w0.heap.size + 1, 1, none⟩ vM).setCell ⟨w0.heap.size + 1, 2, none⟩ vL) sv vN vM vL ds N M L := by
  have ko : ∀ j, j ≠ w0.heap.size + 1 → (((W.setCell ⟨w0.heap.size + 1, 0, none⟩ vN).setCell ⟨w0.heap.size + 1, 1, none⟩ vM).setCell ⟨w0.heap.size + 1, 2, none⟩ vL).heap[j]? = W.heap[j]? := fun j hj => (Below.heap_setCell _ _ _ _ hj).trans ((Below.heap_setCell _ _ _ _ hj).trans (Below.heap_setCell _ _ _ _ hj))
  exact ⟨ht.store, ⟨(ko _ (by omega)).trans h.wb, owns_step h.row (fun g hg _ _ => ko g (by omega))⟩⟩
end
theorem cells_newD (w : World) (d : Dy) : ∀ j u, ((Dy.cells d).map (Value.int .i64))[j]? = some u → (w.alloc (.cells #[.int .i64 d.need.lo, .int .i64 d.need.hi, .int .i64 d.make.lo, .int .i64 d.make.hi, .int .i64 d.loss.lo, .int .i64 d.loss.hi] 97)).cell? ((⟨w.heap.size, 0, none⟩ : Addr).add j) = some u := fun j u h => cells_new w _ 97 j u h
theorem dbl_more {ds : List Dy} {j : Nat} {d : Dy} (h : ds[j]? = some d) : (ds.take j).map Dy.dbl ++ [d.dbl] = (ds.take (j + 1)).map Dy.dbl := by
  rw [List.take_add_one, h]; simp
theorem two_more {N : List Int} {j : Nat} {x : Int} (h : N[j]? = some x) : (N.take j).map (2 * ·) ++ [2 * x] = (N.take (j + 1)).map (2 * ·) := by
  rw [List.take_add_one, h]; simp
end Go.Proofs.Ytpkegiekpnaejaa

namespace Go.Proofs.Ytpkegiekpnaejaa
open Go.RowKit Go.Shelf
attribute [local go_sem] Oper.semAt_some

theorem owns_cap {w : World} {base : Nat} {e : TypeId} {size n : Nat} {v : Value} {xs : List Value} (h : w.ownsRow base e size v n xs) : ∀ (a : Option Addr) (l c : Nat), v = .slice a l c → n ≤ c := by
  intro a l c hv
  rcases h.2 with ⟨e1, e2⟩ | ⟨g, cap, cur, e1, _, _, hnc, _⟩
  · rw [hv] at e1
    cases e1
    omega
  · rw [hv] at e1
    cases e1
    exact hnc
/-- What MadeWinter hands back. -/
def OutMadeC (w : World) (B L : Nat) (a : Option Addr) (n cap k : Nat) (days : Int) (e : Ending) (w' : World) : Prop := ∃ (stock store : Int) (ad : Option Addr) (ds : List Dy) (cp : Nat),
  e = .returned (wv stock store ad ds.length cp) ∧ Sl 6 Dy.cells w' ad ds ∧ (20 ≤ store ∧ store ≤ 200) ∧ (0 ≤ stock ∧ stock ≤ store) ∧ (1 ≤ ds.length ∧ ds.length ≤ days) ∧ (∀ d ∈ ds, SmallDay d) ∧ Deck w' B L a n cap (k + 500) ∧ Apart (fun j => j = B) w w' ∧ (∀ p, ad = some p → w.heap.size ≤ p.block) ∧ ds.length ≤ cp

set_option maxRecDepth 100000 in
set_option maxHeartbeats 1000000 in
theorem made_caps (B L : Nat) (a : Option Addr) (n cap k : Nat) (days : Int) (w : World) (hd : Deck w B L a n cap k) (hk : k ≤ 1000) (hdays : 1 ≤ days ∧ days ≤ 30) :
    Calls Try.prog 48 #[.pointer (some ⟨B, 0, none⟩), .int .i64 days] w (OutMadeC w B L a n cap k days) := by
  have HD := Lib.hid hd
  have HK := Lib.hid hk
  have HDY := Lib.hid hdays
  clear hd hk
  go_enter Try.func48, Try.ntmps48
  go_wp2_with (fail)
  have hb0 := alloc1 w (.cells #[.int .i64 0, .int .i64 0, .slice none 0 0] 60)
  refine (between_any B L a n cap k 20 200 _ (HD.out.below hb0) (by have := HK.out; omega) ⟨by omega, by omega, by omega⟩).mono ?_
  rintro e w1 ⟨⟨store, rfl, hs0, hs1⟩, hD, hA⟩
  have HS := Lib.hid (And.intro hs0 hs1)
  have H1 : Hid (Deck w1 B L a n cap (k + 1) ∧ Apart (fun j => j = B) w w1 ∧ w1.heap[w.heap.size]? = some (.cells #[.int .i64 0, .int .i64 0, .slice none 0 0] 60 (0, 0))) :=
    ⟨hD, (Apart.of_below hb0).trans hA, (hA.block _ (by simp) (by have := HD.out.lt; omega)).trans (heap_alloc_new w _)⟩
  clear hD hA hb0
  have hwst : IntKind.i64.wrap (store + 1) = store + 1 := IntWalk.i64_in _ (by omega)
  go_wp2_with (fail)
  have hb1 := alloc1 w1 (.cells #[.int .i64 0, .int .i64 store, .slice none 0 0] 60)
  have hlt1 := lt_of_block H1.out.2.2
  have hBL := HD.out.lt
  refine (draw_any B L a n cap (k + 1) (store + 1) _ (H1.out.1.below hb1) (by have := HK.out; omega) (by omega)).mono ?_
  rintro e w2 ⟨⟨stock, rfl, hr0, hr1⟩, hD, hA⟩
  have HS2 : Hid (0 ≤ stock ∧ stock ≤ store) := ⟨hr0, by omega⟩
  have H2 : Hid (Deck w2 B L a n cap (k + 2) ∧ Apart (fun j => j = B) w w2 ∧ w2.heap[w.heap.size]? = some (.cells #[.int .i64 0, .int .i64 0, .slice none 0 0] 60 (0, 0)) ∧ w2.heap[w1.heap.size]? = some (.cells #[.int .i64 0, .int .i64 store, .slice none 0 0] 60 (0, 0))) :=
    ⟨hD, H1.out.2.1.trans ((Apart.of_below hb1).trans hA), (hA.block _ (by simp; omega) (by omega)).trans (alk H1.out.2.2), (hA.block _ (by simp) (by omega)).trans (heap_alloc_new w1 _)⟩
  clear hD hA hb1 hr0 hr1 hs0 hs1 hwst
  have c0 := blk_cell H2.out.2.2.2 0 rfl
  have f0 := blk_free (j := 0) H2.out.2.2.2
  go_wp2_with (fail)
  clear c0 f0
  have H3 : Hid (MI w B L w1.heap.size a n cap (k + 2) stock store (w2.setCell ⟨w1.heap.size, 0, none⟩ (.int .i64 stock)) (.slice none 0 0) []) := by
    have hoth : ∀ j, j ≠ w1.heap.size → (w2.setCell ⟨w1.heap.size, 0, none⟩ (.int .i64 stock)).heap[j]? = w2.heap[j]? := fun j hj => Below.heap_setCell _ _ _ _ hj
    refine ⟨⟨H2.out.2.1.os, H2.out.2.1.tape, H2.out.2.1.output, by rw [World.size_setCell]; exact H2.out.2.1.size, fun j hj hB => (hoth j (by omega)).trans (H2.out.2.1.block j hj hB)⟩, H2.out.1.keep (by rw [World.size_setCell]; exact Nat.le_refl _) (fun j hj => hoth j (by omega)), (hoth _ (by omega)).trans H2.out.2.2.1, blk_setCell (j := 0) H2.out.2.2.2, World.ownsRow_nil _ _ _ _, (fun d hd => by simp at hd), hlt1, hBL.2⟩
  clear hlt1 hBL
  generalize w2.setCell ⟨w1.heap.size, 0, none⟩ (.int .i64 stock) = W3 at H3 ⊢
  refine (between_any B L a n cap (k + 2) 1 days _ H3.out.dk (by have := HK.out; omega) ⟨by omega, hdays.1, by omega⟩).mono ?_
  rintro e w4 ⟨⟨N, rfl, hN0, hN1⟩, hD, hA⟩
  have H4 : Hid (MI w B L w1.heap.size a n cap (k + 3) stock store w4 (.slice none 0 0) []) := by
    have h := H3.out
    have hBL := h.dk.lt
    have hL := h.hL
    have hW := h.hW
    exact ⟨h.ap.trans hA, hD, (hA.block _ (lt_of_block h.rs) (by omega)).trans h.rs, (hA.block _ (lt_of_block h.wb) (by omega)).trans h.wb, World.ownsRow_nil _ _ _ _, h.ok, h.hW, h.hL⟩
  clear hD hA
  obtain ⟨NN, rfl⟩ := Int.eq_ofNat_of_zero_le (show 0 ≤ N by omega)
  have HN : Hid (1 ≤ NN ∧ (NN : Int) ≤ days ∧ NN ≤ 30) := ⟨by omega, hN1, by omega⟩
  clear hN0 hN1
  go_wp2_with (fail)
  go_loopw [22] (fun i wr => ∃ (j : Nat), j ≤ NN ∧ i = .int .i64 j ∧ Hid (∃ (sv : Value) (ds : List Dy), ds.length = j ∧ MI w B L w1.heap.size a n cap (k + 3 + 8 * j) stock store wr sv ds)) (fun i _ => NN - (intOf i).toNat)
  case atStart => exact ⟨0, Nat.zero_le _, rfl, .slice none 0 0, [], rfl, H4.out⟩
  case round =>
    obtain ⟨Wo, rfl⟩ : ∃ Wo, Wo = wr := ⟨_, rfl⟩
    obtain ⟨j, hj, rfl, hM⟩ := hrel
    by_cases hlt : j < NN
    · obtain ⟨sv, ds, hl, hM⟩ := hM.out
      have HM := Lib.hid hM
      have HL := Lib.hid hl
      clear hl hM
      have hn30 := HN.out.2.2
      go_wp2_with (fail)
      generalize hWx : World.alloc _ _ = Wx
      have HX0 : Hid (Below Wo.heap.size Wo Wx ∧ XI Wx B L Wo.heap.size a n cap (k + 3 + 8 * j) Wx ⟨⟨0, 0⟩, ⟨0, 0⟩, ⟨0, 0⟩⟩ ∧ Wx.heap[Wo.heap.size + 1]? = some (.cells #[.pointer (some ⟨Wo.heap.size, 0, none⟩), .pointer (some ⟨Wo.heap.size, 2, none⟩), .pointer (some ⟨Wo.heap.size, 4, none⟩)] 113 (0, 0))) := by
        have hb : Below Wo.heap.size Wo Wx := by rw [← hWx]; exact ((Below.refl _ _).alloc (Nat.le_refl _) _).alloc (by simp) _
        have hz : SmallSp ⟨0, 0⟩ := ⟨Int.le_refl _, Int.le_refl _, by show (0 : Int) ≤ 100; omega⟩
        exact ⟨hb, ⟨Apart.refl _ _, HM.out.dk.below hb, by rw [← hWx]; exact alk (heap_alloc_new Wo _), ⟨hz, hz, hz⟩, HM.out.dk.lt.2⟩, by rw [← hWx]; exact new_at (by simp)⟩
      clear hWx
      have hk1 := HK.out
      go_loopw [29] (fun i W => ∃ (q : Nat), q ≤ 3 ∧ i = .int .i64 q ∧ Hid (∃ d, XI Wx B L Wo.heap.size a n cap (k + 3 + 8 * j + 2 * q) W d)) (fun i _ => 3 - (intOf i).toNat)
      case atStart => exact ⟨0, by omega, rfl, _, HX0.out.2.1⟩
      case round =>
        obtain ⟨q, hq, rfl, hX⟩ := hrel
        obtain ⟨W, rfl⟩ : ∃ W, W = wr := ⟨_, rfl⟩
        by_cases hlq : q < 3
        · obtain ⟨d, hX⟩ := hX.out
          have HXI := Lib.hid hX
          have HXS : W.heap[Wo.heap.size + 1]? = some (.cells #[.pointer (some ⟨Wo.heap.size, 0, none⟩), .pointer (some ⟨Wo.heap.size, 2, none⟩), .pointer (some ⟨Wo.heap.size, 4, none⟩)] 113 (0, 0)) := (hX.ap.block _ (lt_of_block HX0.out.2.2) (by have := hX.dk.lt; have := hX.hX; omega)).trans HX0.out.2.2
          clear hX
          rcases (show q = 0 ∨ q = 1 ∨ q = 2 by omega) with hq0 | hq1 | hq2
          · subst hq0
            have e0 := blk_cell HXS 0 rfl
            clear HXS
            go_wp2_with (fail)
            refine (draw_any B L a n cap (k + 3 + 8 * j + 2 * 0) 30 _ (HXI.out.dk.below (alloc1 W _)) (by omega) (by omega)).mono ?_
            rintro e w5 ⟨⟨r, rfl, hr0, hr1⟩, hD, hA⟩
            have HX5 := Lib.hid ((HXI.out.below (alloc1 W _)).step hA hD)
            clear hD hA e0
            go_wp2_with (fail)
            refine (draw_any B L a n cap _ 12 _ (HX5.out.dk.below (alloc1 w5 _)) (by omega) (by omega)).mono ?_
            rintro e w6 ⟨⟨s, rfl, hs0, hs1⟩, hD, hA⟩
            have HX6 := Lib.hid ((HX5.out.below (alloc1 w5 _)).step hA hD)
            clear hD hA
            have hrs : IntKind.i64.wrap (r + s) = r + s := IntWalk.i64_in _ (by omega)
            go_wp2_with (fail)
            refine (span_any r (r + s) _).mono ?_
            rintro e w7 ⟨rfl, hw7⟩
            have hb7 := alloc1 w6 (.cells #[.int .i64 r, .int .i64 (r + s)] 24)
            rw [hw7] at hb7
            have HX7 := Lib.hid (HX6.out.below hb7)
            clear hb7 hw7
            have y0 := blk_cell HX7.out.x 0 rfl
            have y1 := blk_cell HX7.out.x 1 rfl
            have z0 := blk_free (j := 0) HX7.out.x
            have z1 := blk_free (j := 1) HX7.out.x
            have HX8 : Hid (XI Wx B L Wo.heap.size a n cap (k + 3 + 8 * j + 2 * (0 + 1)) ((w7.setCell ⟨Wo.heap.size, 0, none⟩ (.int .i64 r)).setCell ⟨Wo.heap.size, 1, none⟩ (.int .i64 (r + s))) { d with need := ⟨r, r + s⟩ }) := by
              have hok := HX7.out.ok
              have h := HX7.out.put 0 1 (.int .i64 r) (.int .i64 (r + s)) (d' := { d with need := ⟨r, r + s⟩ }) rfl (by
                have hsp : SmallSp ⟨r, r + s⟩ := ⟨hr0, by show r ≤ r + s; omega, by show r + s ≤ 100; omega⟩
                first | exact ⟨hsp, hok.2.1, hok.2.2⟩ | exact ⟨hok.1, hsp, hok.2.2⟩ | exact ⟨hok.1, hok.2.1, hsp⟩)
              exact h
            clear hrs hr0 hr1 hs0 hs1
            go_wp2
            go_roundw
            case rel => exact ⟨0 + 1, by omega, by go_num, _, HX8⟩
            case measure => simp [intOf]
          · subst hq1
            have e0 := blk_cell HXS 1 rfl
            clear HXS
            go_wp2_with (fail)
            refine (draw_any B L a n cap (k + 3 + 8 * j + 2 * 1) 40 _ (HXI.out.dk.below (alloc1 W _)) (by omega) (by omega)).mono ?_
            rintro e w5 ⟨⟨r, rfl, hr0, hr1⟩, hD, hA⟩
            have HX5 := Lib.hid ((HXI.out.below (alloc1 W _)).step hA hD)
            clear hD hA e0
            go_wp2_with (fail)
            refine (draw_any B L a n cap _ 20 _ (HX5.out.dk.below (alloc1 w5 _)) (by omega) (by omega)).mono ?_
            rintro e w6 ⟨⟨s, rfl, hs0, hs1⟩, hD, hA⟩
            have HX6 := Lib.hid ((HX5.out.below (alloc1 w5 _)).step hA hD)
            clear hD hA
            have hrs : IntKind.i64.wrap (r + s) = r + s := IntWalk.i64_in _ (by omega)
            go_wp2_with (fail)
            refine (span_any r (r + s) _).mono ?_
            rintro e w7 ⟨rfl, hw7⟩
            have hb7 := alloc1 w6 (.cells #[.int .i64 r, .int .i64 (r + s)] 24)
            rw [hw7] at hb7
            have HX7 := Lib.hid (HX6.out.below hb7)
            clear hb7 hw7
            have y0 := blk_cell HX7.out.x 2 rfl
            have y1 := blk_cell HX7.out.x 3 rfl
            have z0 := blk_free (j := 2) HX7.out.x
            have z1 := blk_free (j := 3) HX7.out.x
            have HX8 : Hid (XI Wx B L Wo.heap.size a n cap (k + 3 + 8 * j + 2 * (1 + 1)) ((w7.setCell ⟨Wo.heap.size, 2, none⟩ (.int .i64 r)).setCell ⟨Wo.heap.size, 3, none⟩ (.int .i64 (r + s))) { d with make := ⟨r, r + s⟩ }) := by
              have hok := HX7.out.ok
              have h := HX7.out.put 2 3 (.int .i64 r) (.int .i64 (r + s)) (d' := { d with make := ⟨r, r + s⟩ }) rfl (by
                have hsp : SmallSp ⟨r, r + s⟩ := ⟨hr0, by show r ≤ r + s; omega, by show r + s ≤ 100; omega⟩
                first | exact ⟨hsp, hok.2.1, hok.2.2⟩ | exact ⟨hok.1, hsp, hok.2.2⟩ | exact ⟨hok.1, hok.2.1, hsp⟩)
              exact h
            clear hrs hr0 hr1 hs0 hs1
            go_wp2
            go_roundw
            case rel => exact ⟨1 + 1, by omega, by go_num, _, HX8⟩
            case measure => simp [intOf]
          · subst hq2
            have e0 := blk_cell HXS 2 rfl
            clear HXS
            go_wp2_with (fail)
            refine (draw_any B L a n cap (k + 3 + 8 * j + 2 * 2) 6 _ (HXI.out.dk.below (alloc1 W _)) (by omega) (by omega)).mono ?_
            rintro e w5 ⟨⟨r, rfl, hr0, hr1⟩, hD, hA⟩
            have HX5 := Lib.hid ((HXI.out.below (alloc1 W _)).step hA hD)
            clear hD hA e0
            go_wp2_with (fail)
            refine (draw_any B L a n cap _ 4 _ (HX5.out.dk.below (alloc1 w5 _)) (by omega) (by omega)).mono ?_
            rintro e w6 ⟨⟨s, rfl, hs0, hs1⟩, hD, hA⟩
            have HX6 := Lib.hid ((HX5.out.below (alloc1 w5 _)).step hA hD)
            clear hD hA
            have hrs : IntKind.i64.wrap (r + s) = r + s := IntWalk.i64_in _ (by omega)
            go_wp2_with (fail)
            refine (span_any r (r + s) _).mono ?_
            rintro e w7 ⟨rfl, hw7⟩
            have hb7 := alloc1 w6 (.cells #[.int .i64 r, .int .i64 (r + s)] 24)
            rw [hw7] at hb7
            have HX7 := Lib.hid (HX6.out.below hb7)
            clear hb7 hw7
            have y0 := blk_cell HX7.out.x 4 rfl
            have y1 := blk_cell HX7.out.x 5 rfl
            have z0 := blk_free (j := 4) HX7.out.x
            have z1 := blk_free (j := 5) HX7.out.x
            have HX8 : Hid (XI Wx B L Wo.heap.size a n cap (k + 3 + 8 * j + 2 * (2 + 1)) ((w7.setCell ⟨Wo.heap.size, 4, none⟩ (.int .i64 r)).setCell ⟨Wo.heap.size, 5, none⟩ (.int .i64 (r + s))) { d with loss := ⟨r, r + s⟩ }) := by
              have hok := HX7.out.ok
              have h := HX7.out.put 4 5 (.int .i64 r) (.int .i64 (r + s)) (d' := { d with loss := ⟨r, r + s⟩ }) rfl (by
                have hsp : SmallSp ⟨r, r + s⟩ := ⟨hr0, by show r ≤ r + s; omega, by show r + s ≤ 100; omega⟩
                first | exact ⟨hsp, hok.2.1, hok.2.2⟩ | exact ⟨hok.1, hsp, hok.2.2⟩ | exact ⟨hok.1, hok.2.1, hsp⟩)
              exact h
            clear hrs hr0 hr1 hs0 hs1
            go_wp2
            go_roundw
            case rel => exact ⟨2 + 1, by omega, by go_num, _, HX8⟩
            case measure => simp [intOf]
        · have : q = 3 := by omega
          subst this
          obtain ⟨d, hX⟩ := hX.out
          have HXI := Lib.hid hX
          clear hX
          go_wp2_with (fail)
          refine (coin_any B L a n cap (k + 3 + 8 * j + 2 * 3) 4 _ HXI.out.dk (by omega) (by omega)).mono ?_
          rintro e w5 ⟨⟨b, rfl⟩, hD, hA⟩
          have HX5 := Lib.hid (HXI.out.step hA hD)
          clear hD hA
          cases b
          · have HXF := HX5
            have HX6 := Lib.hid (XI.mono HXF.out (k' := k + 3 + 8 * (j + 1)) (by omega))
            have HMI := Lib.hid (HM.out.dealt HX0.out.1 rfl HX6.out)
            have t2 := blk_cell HMI.out.wb 2 rfl
            have x0 := blk_cell HX6.out.x 0 rfl
            have x1 := blk_cell HX6.out.x 1 rfl
            have x2 := blk_cell HX6.out.x 2 rfl
            have x3 := blk_cell HX6.out.x 3 rfl
            have x4 := blk_cell HX6.out.x 4 rfl
            have x5 := blk_cell HX6.out.x 5 rfl
            obtain ⟨i0, hi, hz0, hz1, hz2⟩ := info_parts Try.info97
            go_wp2_with (at_builtin; refine wpList_append_own_at _ rfl _ _ 58 rfl (w1.heap.size + 1) 97 i0 (.agg #[.int .i64 0, .int .i64 0, .int .i64 0, .int .i64 0, .int .i64 0, .int .i64 0]) 6 48 Try.underlying58 hi hz0 hz1 hz2 rfl (by decide) sv ds.length ((ds.flatMap Dy.cells).map (Value.int .i64)) rfl (HMI.out.row.alloc _) ⟨w5.heap.size, 0, none⟩ 1 1 ((Dy.cells d).map (Value.int .i64)) rfl rfl (cells_new _ _ _) (by intro u hu; simp [Dy.cells] at hu; rcases hu with rfl | rfl | rfl | rfl | rfl | rfl <;> rfl) (by have := HL.out; unfold maxLen; omega) (by have := HL.out; omega) (by have := lt_of_block HMI.out.wb; rw [World.size_alloc]; omega) ?_)
            intro v8 w8 hrow hgrow _ _
            obtain ⟨g8, cap8, rfl⟩ := ownsRow_succ hrow
            have HMM := Lib.hid (HMI.out.more (alloc1 w5 _) hgrow hrow HX6.out.ok)
            have hwb8 : w8.heap[w1.heap.size]? = some (.cells #[.int .i64 stock, .int .i64 store, sv] 60 (0, 0)) := (hgrow.block _ (by have := lt_of_block HMI.out.wb; rw [World.size_alloc]; omega) (fun e => by have := (HMI.out.row.lt _ e.symm).1; omega)).trans (alk HMI.out.wb)
            have s2 := blk_cell hwb8 2 rfl
            have sf2 := blk_free (j := 2) hwb8
            clear hrow hgrow hwb8 x0 x1 x2 x3 x4 x5 t2 hi hz0 hz1 hz2
            go_wp2
            go_roundw
            case rel => exact ⟨j + 1, by omega, by go_num, _, _, by have := HL.out; simp; omega, HMM.out⟩
            case measure => simp [intOf]; omega
          · go_wp2_with (fail)
            refine (draw_any B L a n cap _ 3 _ HX5.out.dk (by omega) (by omega)).mono ?_
            rintro e w6 ⟨⟨r, rfl, hr0, hr1⟩, hD, hA⟩
            have HX6 := Lib.hid (HX5.out.step hA hD)
            clear hD hA
            go_wp2_with (fail)
            refine (span_any 0 r _).mono ?_
            rintro e w7 ⟨rfl, hw7⟩
            have hb7 := alloc1 w6 (.cells #[.int .i64 0, .int .i64 r] 24)
            rw [hw7] at hb7
            have HX7 := Lib.hid (HX6.out.below hb7)
            clear hb7 hw7 HX6
            have y0 := blk_cell HX7.out.x 2 rfl
            have y1 := blk_cell HX7.out.x 3 rfl
            have z0 := blk_free (j := 2) HX7.out.x
            have z1 := blk_free (j := 3) HX7.out.x
            have HXF0 : Hid (XI Wx B L Wo.heap.size a n cap (k + 3 + 8 * j + 2 * 3 + 1 + 1) ((w7.setCell ⟨Wo.heap.size, 2, none⟩ (.int .i64 0)).setCell ⟨Wo.heap.size, 3, none⟩ (.int .i64 r)) { d with make := ⟨0, r⟩ }) := by
              have hok := HX7.out.ok
              exact HX7.out.put 2 3 (.int .i64 0) (.int .i64 r) (d' := { d with make := ⟨0, r⟩ }) rfl ⟨hok.1, ⟨Int.le_refl _, hr0, by show r ≤ 100; omega⟩, hok.2.2⟩
            clear hr0 hr1
            go_upto_region 14 with (fail)
            generalize (w7.setCell ⟨Wo.heap.size, 2, none⟩ (.int .i64 0)).setCell ⟨Wo.heap.size, 3, none⟩ (.int .i64 r) = W8 at HXF0 ⊢
            have HXF := HXF0
            clear y0 y1 z0 z1
            have HX6 := Lib.hid (XI.mono HXF.out (k' := k + 3 + 8 * (j + 1)) (by omega))
            have HMI := Lib.hid (HM.out.dealt HX0.out.1 rfl HX6.out)
            have t2 := blk_cell HMI.out.wb 2 rfl
            have x0 := blk_cell HX6.out.x 0 rfl
            have x1 := blk_cell HX6.out.x 1 rfl
            have x2 := blk_cell HX6.out.x 2 rfl
            have x3 := blk_cell HX6.out.x 3 rfl
            have x4 := blk_cell HX6.out.x 4 rfl
            have x5 := blk_cell HX6.out.x 5 rfl
            obtain ⟨i0, hi, hz0, hz1, hz2⟩ := info_parts Try.info97
            go_wp2_with (at_builtin; refine wpList_append_own_at _ rfl _ _ 58 rfl (w1.heap.size + 1) 97 i0 (.agg #[.int .i64 0, .int .i64 0, .int .i64 0, .int .i64 0, .int .i64 0, .int .i64 0]) 6 48 Try.underlying58 hi hz0 hz1 hz2 rfl (by decide) sv ds.length ((ds.flatMap Dy.cells).map (Value.int .i64)) rfl (HMI.out.row.alloc _) ⟨W8.heap.size, 0, none⟩ 1 1 ((Dy.cells { d with make := ⟨0, r⟩ }).map (Value.int .i64)) rfl rfl (cells_new _ _ _) (by intro u hu; simp [Dy.cells] at hu; rcases hu with rfl | rfl | rfl | rfl | rfl | rfl <;> rfl) (by have := HL.out; unfold maxLen; omega) (by have := HL.out; omega) (by have := lt_of_block HMI.out.wb; rw [World.size_alloc]; omega) ?_)
            intro v8 w8 hrow hgrow _ _
            obtain ⟨g8, cap8, rfl⟩ := ownsRow_succ hrow
            have HMM := Lib.hid (HMI.out.more (alloc1 W8 _) hgrow hrow HX6.out.ok)
            have hwb8 : w8.heap[w1.heap.size]? = some (.cells #[.int .i64 stock, .int .i64 store, sv] 60 (0, 0)) := (hgrow.block _ (by have := lt_of_block HMI.out.wb; rw [World.size_alloc]; omega) (fun e => by have := (HMI.out.row.lt _ e.symm).1; omega)).trans (alk HMI.out.wb)
            have s2 := blk_cell hwb8 2 rfl
            have sf2 := blk_free (j := 2) hwb8
            clear hrow hgrow hwb8 x0 x1 x2 x3 x4 x5 t2 hi hz0 hz1 hz2
            go_wp2
            go_roundw
            case rel => exact ⟨j + 1, by omega, by go_num, _, _, by have := HL.out; simp; omega, HMM.out⟩
            case measure => simp [intOf]; omega
    · have : j = NN := by omega
      subst this
      obtain ⟨sv, ds, hl, hM⟩ := hM.out
      have hcap := owns_cap hM.row
      obtain ⟨ad, cp, rfl, hSl, hAd⟩ := days_of_owns hM.row
      have HCP := Lib.hid (hcap _ _ _ rfl)
      clear hcap
      have HM := Lib.hid hM
      have HSL := Lib.hid (And.intro hSl hAd)
      have HLL := Lib.hid hl
      clear hSl hAd hM hl
      have c0 := blk_cell HM.out.wb 0 rfl
      have c1 := blk_cell HM.out.wb 1 rfl
      have c2 := blk_cell HM.out.wb 2 rfl
      have d0 := blk_cell HM.out.rs 0 rfl
      have d1 := blk_cell HM.out.rs 1 rfl
      have d2 := blk_cell HM.out.rs 2 rfl
      have f0 := blk_free (j := 0) HM.out.rs
      have f1 := blk_free (j := 1) HM.out.rs
      have f2 := blk_free (j := 2) HM.out.rs
      go_wp2_with (fail)
      have HR : Hid ((((Wo.setCell ⟨w.heap.size, 0, none⟩ (.int .i64 stock)).setCell ⟨w.heap.size, 1, none⟩ (.int .i64 store)).setCell ⟨w.heap.size, 2, none⟩ (.slice ad ds.length cp)).heap[w.heap.size]? = some (.cells #[.int .i64 stock, .int .i64 store, .slice ad ds.length cp] 60 (0, 0))) := blk_setCell (j := 2) (blk_setCell (j := 1) (blk_setCell (j := 0) HM.out.rs))
      have HO : Hid (∀ m, m ≠ w.heap.size → (((Wo.setCell ⟨w.heap.size, 0, none⟩ (.int .i64 stock)).setCell ⟨w.heap.size, 1, none⟩ (.int .i64 store)).setCell ⟨w.heap.size, 2, none⟩ (.slice ad ds.length cp)).heap[m]? = Wo.heap[m]?) := fun m hm => (Below.heap_setCell _ _ _ _ hm).trans ((Below.heap_setCell _ _ _ _ hm).trans (Below.heap_setCell _ _ _ _ hm))
      have HZ : Hid ((((Wo.setCell ⟨w.heap.size, 0, none⟩ (.int .i64 stock)).setCell ⟨w.heap.size, 1, none⟩ (.int .i64 store)).setCell ⟨w.heap.size, 2, none⟩ (.slice ad ds.length cp)).heap.size = Wo.heap.size) := by show _ = _; rw [World.size_setCell, World.size_setCell, World.size_setCell]
      have HE : Hid ((((Wo.setCell ⟨w.heap.size, 0, none⟩ (.int .i64 stock)).setCell ⟨w.heap.size, 1, none⟩ (.int .i64 store)).setCell ⟨w.heap.size, 2, none⟩ (.slice ad ds.length cp)).os = Wo.os ∧ (((Wo.setCell ⟨w.heap.size, 0, none⟩ (.int .i64 stock)).setCell ⟨w.heap.size, 1, none⟩ (.int .i64 store)).setCell ⟨w.heap.size, 2, none⟩ (.slice ad ds.length cp)).tape = Wo.tape ∧ (((Wo.setCell ⟨w.heap.size, 0, none⟩ (.int .i64 stock)).setCell ⟨w.heap.size, 1, none⟩ (.int .i64 store)).setCell ⟨w.heap.size, 2, none⟩ (.slice ad ds.length cp)).output = Wo.output) := ⟨rfl, rfl, rfl⟩
      clear c0 c1 c2 d0 d1 d2 f0 f1 f2
      generalize ((Wo.setCell ⟨w.heap.size, 0, none⟩ (.int .i64 stock)).setCell ⟨w.heap.size, 1, none⟩ (.int .i64 store)).setCell ⟨w.heap.size, 2, none⟩ (.slice ad ds.length cp) = We at HR HO HZ HE ⊢
      have r0 := blk_cell HR.out 0 rfl
      have r1 := blk_cell HR.out 1 rfl
      have r2 := blk_cell HR.out 2 rfl
      refine bodyPost_ret (v := wv stock store ad ds.length cp) (by simp [results, Try.results48, go_sem, r0, r1, r2]) rfl ?_
      have hL := HM.out.hL
      have hBL := HM.out.dk.lt
      have hW := HM.out.hW
      have hN := HN.out
      have hlen := HLL.out
      refine ⟨stock, store, ad, ds, cp, rfl, ?_, HS.out, HS2.out, ⟨by omega, by omega⟩, HM.out.ok, (HM.out.dk.keep (by rw [HZ.out]; exact Nat.le_refl _) (fun m hm => HO.out m (by omega))).mono (by omega), ⟨HE.out.1.trans HM.out.ap.os, HE.out.2.1.trans HM.out.ap.tape, HE.out.2.2.trans HM.out.ap.output, by rw [HZ.out]; exact HM.out.ap.size, fun m hm hB => (HO.out m (by omega)).trans (HM.out.ap.block m hm hB)⟩, fun p hp => by have := HSL.out.2 p hp; omega, HCP.out⟩
      intro h0
      obtain ⟨b, off, rfl, hb, hc⟩ := HSL.out.1 h0
      have hbw := HSL.out.2 _ rfl
      refine ⟨b, off, rfl, by rw [HZ.out]; exact hb, fun m x i u hx hu => (World.cell?_of_block (w := Wo) (a := ⟨b, off + m * 6 + i, none⟩) (HO.out b (by have : w1.heap.size + 1 ≤ b := hbw; omega))).trans (hc m x i u hx hu)⟩
end Go.Proofs.Ytpkegiekpnaejaa

namespace Go.Proofs.Ytpkegiekpnaejaa
open Go.RowKit Go.Shelf
attribute [local go_sem] Oper.semAt_some

set_option maxRecDepth 100000 in
set_option maxHeartbeats 4000000 in
theorem drawn_caps (Bd : Nat) (a2 : Option Addr) (n2 cap2 k : Nat) (stock store : Int) (ad : Option Addr) (ds : List Dy) (cp : Nat) (w : World) (hd : Deck w Bd (Bd + 1) a2 n2 cap2 k) (hk : k ≤ 1000) (hx : Sl 6 Dy.cells w ad ds) (hfar : ∀ p, ad = some p → p.block ≠ Bd) (hl : ds.length ≤ 60) (hs : ∀ d ∈ ds, SmallDay d) :
    Calls Try.prog 52 #[.pointer (some ⟨Bd, 0, none⟩), wv stock store ad ds.length cp] w fun e w' => ∃ an cn am cm al cl N M L, e = .returned (tv an ds.length cn am ds.length cm al ds.length cl) ∧ IntSl w' an N ∧ IntSl w' am M ∧ IntSl w' al L ∧ Sky ds N M L ∧ Deck w' Bd (Bd + 1) a2 n2 cap2 (k + 3 * ds.length) ∧ Apart (fun j => j = Bd) w w' ∧ (∀ p, an = some p → w.heap.size ≤ p.block) ∧ (∀ p, am = some p → w.heap.size ≤ p.block) ∧ (∀ p, al = some p → w.heap.size ≤ p.block) ∧ (ds.length ≤ cn ∧ ds.length ≤ cm ∧ ds.length ≤ cl) := by
  obtain ⟨i0, hi, hz0, hz1, hz2⟩ := info_parts Try.info3
  have HX := Lib.hid (And.intro hx (And.intro hfar hs))
  obtain ⟨Wa, hWa⟩ : ∃ Wa, ((w.alloc (.cells #[.int .i64 stock, .int .i64 store, .slice ad ds.length cp] 60)).alloc (.cells #[.slice none 0 0, .slice none 0 0, .slice none 0 0] 88)).alloc (.cells #[.slice none 0 0, .slice none 0 0, .slice none 0 0] 88) = Wa := ⟨_, rfl⟩
  have hlt := hd.lt
  have HR : Hid (DR w Bd a2 n2 cap2 k #[.int .i64 stock, .int .i64 store, .slice ad ds.length cp] (w.heap.size + 1 + 1) (.slice none 0 0) (.slice none 0 0) (.slice none 0 0) Wa (.slice none 0 0) (.slice none 0 0) (.slice none 0 0) [] [] []) := by
    have hb : Below w.heap.size w Wa := by rw [← hWa]; exact (((Below.refl _ _).alloc (Nat.le_refl _) _).alloc (by simp) _).alloc (by simp; omega) _
    refine ⟨Apart.of_below hb, hd.below hb, by rw [← hWa]; exact alk (alk (new_at rfl)), by rw [← hWa]; exact alk (new_at (by simp)), by rw [← hWa]; exact new_at (by simp), by omega, by omega, ⟨?_, ?_, ?_, ?_, ?_, ?_⟩⟩
    · exact World.ownsRow_nil _ _ _ _
    · exact World.ownsRow_nil _ _ _ _
    · exact World.ownsRow_nil _ _ _ _
    all_goals (intro i hi; cases hi)
  clear hd hx hfar hs
  have c2 := blk_cell HR.out.wb 2 rfl
  go_enter Try.func52, Try.ntmps52
  go_wp2_with (fail)
  clear hWa c2
  go_loopw [11] (fun i wr => ∃ (j : Nat) (vN vM vL : Value) (N M L : List Int), i = .int .i64 j ∧ j ≤ ds.length ∧ Hid (DR w Bd a2 n2 cap2 (k + 3 * j) #[.int .i64 stock, .int .i64 store, .slice ad ds.length cp] (w.heap.size + 1 + 1) vN vM vL wr vN vM vL N M L) ∧ Hid (PreSky ds N M L j)) (fun i _ => ds.length - (intOf i).toNat)
  case atStart => exact ⟨0, _, _, _, [], [], [], rfl, Nat.zero_le _, HR.out, ⟨⟨rfl, rfl, rfl⟩, fun k d h => by omega⟩⟩
  case round =>
    obtain ⟨j, vN, vM, vL, N, M, L, rfl, hj, hR, hP⟩ := hrel
    by_cases hltj : j < ds.length
    · obtain ⟨b, off, rfl, hbs, hc⟩ := HX.out.1 (by omega)
      have hne := HX.out.2.1 _ rfl
      have HD : Hid (ds[j]? = some ds[j] ∧ SmallDay ds[j]) := ⟨List.getElem?_eq_getElem hltj, HX.out.2.2 _ (List.getElem_mem hltj)⟩
      have ck : ∀ (i : Nat) (u : Int), (Dy.cells ds[j])[i]? = some u → wr.cell? ⟨b, off + j * 6 + i, none⟩ = some (.int .i64 u) := fun i u hu => (World.cell?_of_block (w := w) (a := ⟨b, off + j * 6 + i, none⟩) (hR.out.ap.block b hbs hne)).trans (hc j ds[j] i u (List.getElem?_eq_getElem hltj) hu)
      have d0 : wr.cell? ⟨b, off + j * 6, none⟩ = some (.int .i64 ds[j].need.lo) := ck 0 _ rfl
      have d1 := ck 1 _ rfl
      have d2 := ck 2 _ rfl
      have d3 := ck 3 _ rfl
      have d4 := ck 4 _ rfl
      have d5 := ck 5 _ rfl
      clear ck hc
      generalize ds[j] = d at *
      obtain ⟨Wx, hWx⟩ : ∃ Wx, wr.alloc (.cells #[.int .i64 d.need.lo, .int .i64 d.need.hi, .int .i64 d.make.lo, .int .i64 d.make.hi, .int .i64 d.loss.lo, .int .i64 d.loss.hi] 97) = Wx := ⟨_, rfl⟩
      have HW : Hid (DR w Bd a2 n2 cap2 (k + 3 * j) #[.int .i64 stock, .int .i64 store, .slice (some ⟨b, off, none⟩) ds.length cp] (w.heap.size + 1 + 1) vN vM vL Wx vN vM vL N M L ∧ Wx.heap[wr.heap.size]? = some (.cells #[.int .i64 d.need.lo, .int .i64 d.need.hi, .int .i64 d.make.lo, .int .i64 d.make.hi, .int .i64 d.loss.lo, .int .i64 d.loss.hi] 97 (0, 0))) := by
        rw [← hWx]
        exact ⟨hR.out.below ((Below.refl _ _).alloc (Nat.le_refl _) _), heap_alloc_new _ _⟩
      go_upto_region 5 with (fail)
      clear hWx d0 d1 d2 d3 d4 d5
      refine wp_region_split (S := fun W' => (W'.cell? ⟨w.heap.size + 1 + 1, 0, none⟩ = some vN ∧ W'.cell? ⟨w.heap.size + 1 + 1, 1, none⟩ = some vM ∧ W'.cell? ⟨w.heap.size + 1 + 1, 2, none⟩ = some vL) ∧ W'.heap[wr.heap.size]? = some (.cells #[.int .i64 d.need.lo, .int .i64 d.need.hi, .int .i64 d.make.lo, .int .i64 d.make.hi, .int .i64 d.loss.lo, .int .i64 d.loss.hi] 97 (0, 0))) [37, 38, 39, 40, 41] 37 (by kernel_rfl) (by kernel_rfl) rfl ?_
      have hS0 : (Wx.drew.cell? ⟨w.heap.size + 1 + 1, 0, none⟩ = some vN ∧ Wx.drew.cell? ⟨w.heap.size + 1 + 1, 1, none⟩ = some vM ∧ Wx.drew.cell? ⟨w.heap.size + 1 + 1, 2, none⟩ = some vL) ∧ Wx.drew.heap[wr.heap.size]? = some (.cells #[.int .i64 d.need.lo, .int .i64 d.need.hi, .int .i64 d.make.lo, .int .i64 d.make.hi, .int .i64 d.loss.lo, .int .i64 d.loss.hi] 97 (0, 0)) := ⟨⟨blk_cell HW.out.1.tb 0 rfl, blk_cell HW.out.1.tb 1 rfl, blk_cell HW.out.1.tb 2 rfl⟩, HW.out.2⟩
      have HS0 := Lib.hid hS0
      clear hS0
      rw [show firstL _ [37, 38, 39, 40, 41] = #[false, false, false, false, false, false, false, false, false, false, false, false, false, false, false, false, false, false, false, false, false, false, false, false, false, false, false, false, false, false, false, false, false, false, false, false, false, true, true, true, true, true] from by kernel_rfl]
      refine wpAnyH_take (i := 0) (v := .pointer (some ⟨w.heap.size + 1 + 1, 0, none⟩)) rfl (by kernel_rfl) (by kernel_rfl) (by kernel_rfl) (fun _ _ _ h => h) (Or.inl ⟨by rfl, by (intro W hSw; clear hSw; go_simp)⟩) HS0.out ?_
      simp only [Act.put, List.setIfInBounds_toArray, List.set_cons_zero]
      refine wpAnyH_take (i := 1) (v := vN) rfl (by kernel_rfl) (by kernel_rfl) (by kernel_rfl) (fun _ _ _ h => h) (Or.inl ⟨by rfl, by (intro W hSw; have c := hSw.1.1; clear hSw; go_simp)⟩) HS0.out ?_
      simp only [Act.put, List.setIfInBounds_toArray, List.set_cons_zero, List.set_cons_succ]
      refine wpAnyH_take (i := 2) (v := .pointer (some ⟨Bd, 0, none⟩)) rfl (by kernel_rfl) (by kernel_rfl) (by kernel_rfl) (fun _ _ _ h => h) (Or.inl ⟨by rfl, by (intro W hSw; clear hSw; go_simp)⟩) HS0.out ?_
      simp only [Act.put, List.setIfInBounds_toArray, List.set_cons_zero, List.set_cons_succ]
      refine wpAnyH_take (i := 3) (v := .pointer (some ⟨wr.heap.size, 0, none⟩)) rfl (by kernel_rfl) (by kernel_rfl) (by kernel_rfl) (fun _ _ _ h => h) (Or.inl ⟨by rfl, by (intro W hSw; clear hSw; go_simp)⟩) HS0.out ?_
      simp only [Act.put, List.setIfInBounds_toArray, List.set_cons_zero, List.set_cons_succ]
      refine wpAnyH_take (i := 4) (v := .pointer (some ⟨wr.heap.size, 0, none⟩)) rfl (by kernel_rfl) (by kernel_rfl) (by kernel_rfl) (fun _ _ _ h => h) (Or.inl ⟨by rfl, by (intro W hSw; clear hSw; go_simp)⟩) HS0.out ?_
      simp only [Act.put, List.setIfInBounds_toArray, List.set_cons_zero, List.set_cons_succ]
      refine wpAnyH_take (i := 5) (v := .int .i64 d.need.lo) rfl (by kernel_rfl) (by kernel_rfl) (by kernel_rfl) (fun _ _ _ h => h) (Or.inl ⟨by rfl, by (intro W hSw; have c := blk_cell hSw.2 0 rfl; clear hSw; go_simp)⟩) HS0.out ?_
      simp only [Act.put, List.setIfInBounds_toArray, List.set_cons_zero, List.set_cons_succ]
      refine wpAnyH_take (i := 6) (v := .pointer (some ⟨wr.heap.size, 0, none⟩)) rfl (by kernel_rfl) (by kernel_rfl) (by kernel_rfl) (fun _ _ _ h => h) (Or.inl ⟨by rfl, by (intro W hSw; clear hSw; go_simp)⟩) HS0.out ?_
      simp only [Act.put, List.setIfInBounds_toArray, List.set_cons_zero, List.set_cons_succ]
      refine wpAnyH_take (i := 7) (v := .pointer (some ⟨wr.heap.size, 1, none⟩)) rfl (by kernel_rfl) (by kernel_rfl) (by kernel_rfl) (fun _ _ _ h => h) (Or.inl ⟨by rfl, by (intro W hSw; clear hSw; go_simp)⟩) HS0.out ?_
      simp only [Act.put, List.setIfInBounds_toArray, List.set_cons_zero, List.set_cons_succ]
      refine wpAnyH_take (i := 8) (v := .int .i64 d.need.hi) rfl (by kernel_rfl) (by kernel_rfl) (by kernel_rfl) (fun _ _ _ h => h) (Or.inl ⟨by rfl, by (intro W hSw; have c := blk_cell hSw.2 1 rfl; clear hSw; go_simp)⟩) HS0.out ?_
      simp only [Act.put, List.setIfInBounds_toArray, List.set_cons_zero, List.set_cons_succ]
      refine wpAnyH_take (i := 12) (v := .pointer (some ⟨w.heap.size + 1 + 1, 1, none⟩)) rfl (by kernel_rfl) (by kernel_rfl) (by kernel_rfl) (fun _ _ _ h => h) (Or.inl ⟨by rfl, by (intro W hSw; clear hSw; go_simp)⟩) HS0.out ?_
      simp only [Act.put, List.setIfInBounds_toArray, List.set_cons_zero, List.set_cons_succ]
      refine wpAnyH_take (i := 13) (v := vM) rfl (by kernel_rfl) (by kernel_rfl) (by kernel_rfl) (fun _ _ _ h => h) (Or.inl ⟨by rfl, by (intro W hSw; have c := hSw.1.2.1; clear hSw; go_simp)⟩) HS0.out ?_
      simp only [Act.put, List.setIfInBounds_toArray, List.set_cons_zero, List.set_cons_succ]
      refine wpAnyH_take (i := 14) (v := .pointer (some ⟨Bd, 0, none⟩)) rfl (by kernel_rfl) (by kernel_rfl) (by kernel_rfl) (fun _ _ _ h => h) (Or.inl ⟨by rfl, by (intro W hSw; clear hSw; go_simp)⟩) HS0.out ?_
      simp only [Act.put, List.setIfInBounds_toArray, List.set_cons_zero, List.set_cons_succ]
      refine wpAnyH_take (i := 15) (v := .pointer (some ⟨wr.heap.size, 2, none⟩)) rfl (by kernel_rfl) (by kernel_rfl) (by kernel_rfl) (fun _ _ _ h => h) (Or.inl ⟨by rfl, by (intro W hSw; clear hSw; go_simp)⟩) HS0.out ?_
      simp only [Act.put, List.setIfInBounds_toArray, List.set_cons_zero, List.set_cons_succ]
      refine wpAnyH_take (i := 16) (v := .pointer (some ⟨wr.heap.size, 2, none⟩)) rfl (by kernel_rfl) (by kernel_rfl) (by kernel_rfl) (fun _ _ _ h => h) (Or.inl ⟨by rfl, by (intro W hSw; clear hSw; go_simp)⟩) HS0.out ?_
      simp only [Act.put, List.setIfInBounds_toArray, List.set_cons_zero, List.set_cons_succ]
      refine wpAnyH_take (i := 17) (v := .int .i64 d.make.lo) rfl (by kernel_rfl) (by kernel_rfl) (by kernel_rfl) (fun _ _ _ h => h) (Or.inl ⟨by rfl, by (intro W hSw; have c := blk_cell hSw.2 2 rfl; clear hSw; go_simp)⟩) HS0.out ?_
      simp only [Act.put, List.setIfInBounds_toArray, List.set_cons_zero, List.set_cons_succ]
      refine wpAnyH_take (i := 18) (v := .pointer (some ⟨wr.heap.size, 2, none⟩)) rfl (by kernel_rfl) (by kernel_rfl) (by kernel_rfl) (fun _ _ _ h => h) (Or.inl ⟨by rfl, by (intro W hSw; clear hSw; go_simp)⟩) HS0.out ?_
      simp only [Act.put, List.setIfInBounds_toArray, List.set_cons_zero, List.set_cons_succ]
      refine wpAnyH_take (i := 19) (v := .pointer (some ⟨wr.heap.size, 3, none⟩)) rfl (by kernel_rfl) (by kernel_rfl) (by kernel_rfl) (fun _ _ _ h => h) (Or.inl ⟨by rfl, by (intro W hSw; clear hSw; go_simp)⟩) HS0.out ?_
      simp only [Act.put, List.setIfInBounds_toArray, List.set_cons_zero, List.set_cons_succ]
      refine wpAnyH_take (i := 20) (v := .int .i64 d.make.hi) rfl (by kernel_rfl) (by kernel_rfl) (by kernel_rfl) (fun _ _ _ h => h) (Or.inl ⟨by rfl, by (intro W hSw; have c := blk_cell hSw.2 3 rfl; clear hSw; go_simp)⟩) HS0.out ?_
      simp only [Act.put, List.setIfInBounds_toArray, List.set_cons_zero, List.set_cons_succ]
      refine wpAnyH_take (i := 24) (v := .pointer (some ⟨w.heap.size + 1 + 1, 2, none⟩)) rfl (by kernel_rfl) (by kernel_rfl) (by kernel_rfl) (fun _ _ _ h => h) (Or.inl ⟨by rfl, by (intro W hSw; clear hSw; go_simp)⟩) HS0.out ?_
      simp only [Act.put, List.setIfInBounds_toArray, List.set_cons_zero, List.set_cons_succ]
      refine wpAnyH_take (i := 25) (v := vL) rfl (by kernel_rfl) (by kernel_rfl) (by kernel_rfl) (fun _ _ _ h => h) (Or.inl ⟨by rfl, by (intro W hSw; have c := hSw.1.2.2; clear hSw; go_simp)⟩) HS0.out ?_
      simp only [Act.put, List.setIfInBounds_toArray, List.set_cons_zero, List.set_cons_succ]
      refine wpAnyH_take (i := 26) (v := .pointer (some ⟨Bd, 0, none⟩)) rfl (by kernel_rfl) (by kernel_rfl) (by kernel_rfl) (fun _ _ _ h => h) (Or.inl ⟨by rfl, by (intro W hSw; clear hSw; go_simp)⟩) HS0.out ?_
      simp only [Act.put, List.setIfInBounds_toArray, List.set_cons_zero, List.set_cons_succ]
      refine wpAnyH_take (i := 27) (v := .pointer (some ⟨wr.heap.size, 4, none⟩)) rfl (by kernel_rfl) (by kernel_rfl) (by kernel_rfl) (fun _ _ _ h => h) (Or.inl ⟨by rfl, by (intro W hSw; clear hSw; go_simp)⟩) HS0.out ?_
      simp only [Act.put, List.setIfInBounds_toArray, List.set_cons_zero, List.set_cons_succ]
      refine wpAnyH_take (i := 28) (v := .pointer (some ⟨wr.heap.size, 4, none⟩)) rfl (by kernel_rfl) (by kernel_rfl) (by kernel_rfl) (fun _ _ _ h => h) (Or.inl ⟨by rfl, by (intro W hSw; clear hSw; go_simp)⟩) HS0.out ?_
      simp only [Act.put, List.setIfInBounds_toArray, List.set_cons_zero, List.set_cons_succ]
      refine wpAnyH_take (i := 29) (v := .int .i64 d.loss.lo) rfl (by kernel_rfl) (by kernel_rfl) (by kernel_rfl) (fun _ _ _ h => h) (Or.inl ⟨by rfl, by (intro W hSw; have c := blk_cell hSw.2 4 rfl; clear hSw; go_simp)⟩) HS0.out ?_
      simp only [Act.put, List.setIfInBounds_toArray, List.set_cons_zero, List.set_cons_succ]
      refine wpAnyH_take (i := 30) (v := .pointer (some ⟨wr.heap.size, 4, none⟩)) rfl (by kernel_rfl) (by kernel_rfl) (by kernel_rfl) (fun _ _ _ h => h) (Or.inl ⟨by rfl, by (intro W hSw; clear hSw; go_simp)⟩) HS0.out ?_
      simp only [Act.put, List.setIfInBounds_toArray, List.set_cons_zero, List.set_cons_succ]
      refine wpAnyH_take (i := 31) (v := .pointer (some ⟨wr.heap.size, 5, none⟩)) rfl (by kernel_rfl) (by kernel_rfl) (by kernel_rfl) (fun _ _ _ h => h) (Or.inl ⟨by rfl, by (intro W hSw; clear hSw; go_simp)⟩) HS0.out ?_
      simp only [Act.put, List.setIfInBounds_toArray, List.set_cons_zero, List.set_cons_succ]
      refine wpAnyH_take (i := 32) (v := .int .i64 d.loss.hi) rfl (by kernel_rfl) (by kernel_rfl) (by kernel_rfl) (fun _ _ _ h => h) (Or.inl ⟨by rfl, by (intro W hSw; have c := blk_cell hSw.2 5 rfl; clear hSw; go_simp)⟩) HS0.out ?_
      simp only [Act.put, List.setIfInBounds_toArray, List.set_cons_zero, List.set_cons_succ]
      have hTX : w.heap.size + 1 + 1 < wr.heap.size := lt_of_block hR.out.tb
      have hBd := HW.out.1.hB
      have hXB : wr.heap.size ≠ Bd := by omega
      have hNl : N.length = j := hP.out.1.1
      have hMl : M.length = j := hP.out.1.2.1
      have hLl : L.length = j := hP.out.1.2.2
      have hbs' : (0 ≤ d.need.lo ∧ d.need.lo ≤ d.need.hi ∧ d.need.hi ≤ 1000000) ∧ (0 ≤ d.make.lo ∧ d.make.lo ≤ d.make.hi ∧ d.make.hi ≤ 1000000) ∧ (0 ≤ d.loss.lo ∧ d.loss.lo ≤ d.loss.hi ∧ d.loss.hi ≤ 1000000) := by
        have h := HD.out.2
        unfold SmallDay SmallSp at h
        omega
      refine wpAnyH_ready (rs := [9]) (by kernel_rfl) (by simp) ?_
      refine AllReadyH.cons (o := _) rfl (fun K hK => ?_) AllReadyH.nil
      go_simp
      go_at_call 53
      refine (between_any Bd (Bd + 1) a2 n2 cap2 (k + 3 * j) d.need.lo d.need.hi _ (HW.out.1.dk.below ((Below.refl _ _).drew)) (by omega) (by omega)).mono ?_
      rintro e w4 ⟨⟨x, rfl, hx0, hx1⟩, hD, hA⟩
      have hA' : Apart (fun j => j = Bd) Wx w4 := ⟨hA.os, hA.tape, hA.output, hA.size, hA.block⟩
      have H4 : Hid (DR w Bd a2 n2 cap2 (k + 3 * j + 1) #[.int .i64 stock, .int .i64 store, .slice (some ⟨b, off, none⟩) ds.length cp] (w.heap.size + 1 + 1) vN vM vL w4 vN vM vL N M L ∧ w4.heap[wr.heap.size]? = some (.cells #[.int .i64 d.need.lo, .int .i64 d.need.hi, .int .i64 d.make.lo, .int .i64 d.make.hi, .int .i64 d.loss.lo, .int .i64 d.loss.hi] 97 (0, 0))) := ⟨HW.out.1.call hA' hD, (hA'.block _ (lt_of_block HW.out.2) hXB).trans HW.out.2⟩
      clear hD hA hA'
      refine hK.out _ _ ⟨⟨blk_cell H4.out.1.tb 0 rfl, blk_cell H4.out.1.tb 1 rfl, blk_cell H4.out.1.tb 2 rfl⟩, H4.out.2⟩ (fun _ => ?_)
      clear hK
      simp only [List.setIfInBounds_toArray, List.set_cons_zero, List.set_cons_succ]
      refine wpAnyH_ready (rs := [10]) (by kernel_rfl) (by simp) ?_
      refine AllReadyH.cons (o := _) rfl (fun K hK => ?_) AllReadyH.nil
      go_simp
      have H4a : Hid (DR w Bd a2 n2 cap2 (k + 3 * j + 1) #[.int .i64 stock, .int .i64 store, .slice (some ⟨b, off, none⟩) ds.length cp] (w.heap.size + 1 + 1) vN vM vL (w4.alloc (.cells #[.int .i64 x] 3)) vN vM vL N M L ∧ (w4.alloc (.cells #[.int .i64 x] 3)).heap[wr.heap.size]? = some (.cells #[.int .i64 d.need.lo, .int .i64 d.need.hi, .int .i64 d.make.lo, .int .i64 d.make.hi, .int .i64 d.loss.lo, .int .i64 d.loss.hi] 97 (0, 0))) := ⟨H4.out.1.below ((Below.refl _ _).alloc (Nat.le_refl _) _), alk H4.out.2⟩
      refine hK.out _ _ ⟨⟨blk_cell H4a.out.1.tb 0 rfl, blk_cell H4a.out.1.tb 1 rfl, blk_cell H4a.out.1.tb 2 rfl⟩, H4a.out.2⟩ (fun _ => ?_)
      clear hK
      simp only [List.setIfInBounds_toArray, List.set_cons_zero, List.set_cons_succ]
      refine wpAnyH_ready (rs := [11]) (by kernel_rfl) (by simp) ?_
      refine AllReadyH.cons (o := _) rfl (fun K hK => ?_) AllReadyH.nil
      refine step_append_lies _ rfl (.tmp 16) (.tmp 25) 27 rfl (w.heap.size + 1 + 1 + 1) 3 i0 (.int .i64 0) 1 8 Try.underlying27 hi hz0 hz1 hz2 rfl (by decide) vN N.length (N.map (Value.int .i64)) rfl H4a.out.1.r.n ⟨w4.heap.size, 0, none⟩ 1 1 [.int .i64 x] rfl rfl (cells_new w4 [.int .i64 x] 3) (by intro u hu; simp at hu; subst hu; rfl) (by decide) (by unfold maxLen; omega) (by omega) (by have := lt_of_block H4a.out.1.tb; omega) _ rfl ?_
      intro g0 c0 w5 hown hgrow hat _
      have H5 : Hid (DR w Bd a2 n2 cap2 (k + 3 * j + 1) #[.int .i64 stock, .int .i64 store, .slice (some ⟨b, off, none⟩) ds.length cp] (w.heap.size + 1 + 1) vN vM vL w5 (.slice (some ⟨g0, 0, none⟩) (N.length + 1) c0) vM vL (N ++ [x]) M L ∧ w5.heap[wr.heap.size]? = some (.cells #[.int .i64 d.need.lo, .int .i64 d.need.hi, .int .i64 d.make.lo, .int .i64 d.make.hi, .int .i64 d.loss.lo, .int .i64 d.loss.hi] 97 (0, 0))) := ⟨(H4.out.1).push hown hgrow hat, (H4.out.1).keep H4.out.2 hgrow⟩
      clear hown hgrow hat
      refine hK.out _ _ ⟨⟨blk_cell H5.out.1.tb 0 rfl, blk_cell H5.out.1.tb 1 rfl, blk_cell H5.out.1.tb 2 rfl⟩, H5.out.2⟩ (fun _ => ?_)
      clear hK
      simp only [Act.put, List.setIfInBounds_toArray, List.set_cons_zero, List.set_cons_succ]
      refine wpAnyH_take (i := 36) (v := .pointer (some ⟨w.heap.size + 1 + 1, 0, none⟩)) rfl (by kernel_rfl) (by kernel_rfl) (by kernel_rfl) (fun _ _ _ h => h) (Or.inl ⟨by rfl, by (intro W hSw; clear hSw; go_simp)⟩) ⟨⟨blk_cell H5.out.1.tb 0 rfl, blk_cell H5.out.1.tb 1 rfl, blk_cell H5.out.1.tb 2 rfl⟩, H5.out.2⟩ ?_
      simp only [Act.put, List.setIfInBounds_toArray, List.set_cons_zero, List.set_cons_succ]
      refine wpAnyH_ready (rs := [21]) (by kernel_rfl) (by simp) ?_
      refine AllReadyH.cons (o := _) rfl (fun K hK => ?_) AllReadyH.nil
      go_simp
      go_at_call 53
      refine (between_any Bd (Bd + 1) a2 n2 cap2 (k + 3 * j + 1) d.make.lo d.make.hi _ H5.out.1.dk (by omega) (by omega)).mono ?_
      rintro e w6 ⟨⟨y, rfl, hy0, hy1⟩, hD, hA⟩
      have hA' := hA
      have H6 : Hid (DR w Bd a2 n2 cap2 (k + 3 * j + 1 + 1) #[.int .i64 stock, .int .i64 store, .slice (some ⟨b, off, none⟩) ds.length cp] (w.heap.size + 1 + 1) vN vM vL w6 (.slice (some ⟨g0, 0, none⟩) (N.length + 1) c0) vM vL (N ++ [x]) M L ∧ w6.heap[wr.heap.size]? = some (.cells #[.int .i64 d.need.lo, .int .i64 d.need.hi, .int .i64 d.make.lo, .int .i64 d.make.hi, .int .i64 d.loss.lo, .int .i64 d.loss.hi] 97 (0, 0))) := ⟨H5.out.1.call hA' hD, (hA'.block _ (lt_of_block H5.out.2) hXB).trans H5.out.2⟩
      clear hD hA hA'
      refine hK.out _ _ ⟨⟨blk_cell H6.out.1.tb 0 rfl, blk_cell H6.out.1.tb 1 rfl, blk_cell H6.out.1.tb 2 rfl⟩, H6.out.2⟩ (fun _ => ?_)
      clear hK
      simp only [List.setIfInBounds_toArray, List.set_cons_zero, List.set_cons_succ]
      refine wpAnyH_ready (rs := [22]) (by kernel_rfl) (by simp) ?_
      refine AllReadyH.cons (o := _) rfl (fun K hK => ?_) AllReadyH.nil
      go_simp
      have H6a : Hid (DR w Bd a2 n2 cap2 (k + 3 * j + 1 + 1) #[.int .i64 stock, .int .i64 store, .slice (some ⟨b, off, none⟩) ds.length cp] (w.heap.size + 1 + 1) vN vM vL (w6.alloc (.cells #[.int .i64 y] 3)) (.slice (some ⟨g0, 0, none⟩) (N.length + 1) c0) vM vL (N ++ [x]) M L ∧ (w6.alloc (.cells #[.int .i64 y] 3)).heap[wr.heap.size]? = some (.cells #[.int .i64 d.need.lo, .int .i64 d.need.hi, .int .i64 d.make.lo, .int .i64 d.make.hi, .int .i64 d.loss.lo, .int .i64 d.loss.hi] 97 (0, 0))) := ⟨H6.out.1.below ((Below.refl _ _).alloc (Nat.le_refl _) _), alk H6.out.2⟩
      refine hK.out _ _ ⟨⟨blk_cell H6a.out.1.tb 0 rfl, blk_cell H6a.out.1.tb 1 rfl, blk_cell H6a.out.1.tb 2 rfl⟩, H6a.out.2⟩ (fun _ => ?_)
      clear hK
      simp only [List.setIfInBounds_toArray, List.set_cons_zero, List.set_cons_succ]
      refine wpAnyH_ready (rs := [23]) (by kernel_rfl) (by simp) ?_
      refine AllReadyH.cons (o := _) rfl (fun K hK => ?_) AllReadyH.nil
      refine step_append_lies _ rfl (.tmp 28) (.tmp 37) 27 rfl (w.heap.size + 1 + 1 + 1) 3 i0 (.int .i64 0) 1 8 Try.underlying27 hi hz0 hz1 hz2 rfl (by decide) vM M.length (M.map (Value.int .i64)) rfl H6a.out.1.rot.r.n ⟨w6.heap.size, 0, none⟩ 1 1 [.int .i64 y] rfl rfl (cells_new w6 [.int .i64 y] 3) (by intro u hu; simp at hu; subst hu; rfl) (by decide) (by unfold maxLen; omega) (by omega) (by have := lt_of_block H6a.out.1.tb; omega) _ rfl ?_
      intro g1 c1 w7 hown hgrow hat _
      have H7 : Hid (DR w Bd a2 n2 cap2 (k + 3 * j + 1 + 1) #[.int .i64 stock, .int .i64 store, .slice (some ⟨b, off, none⟩) ds.length cp] (w.heap.size + 1 + 1) vN vM vL w7 (.slice (some ⟨g1, 0, none⟩) (M.length + 1) c1) vL (.slice (some ⟨g0, 0, none⟩) (N.length + 1) c0) (M ++ [y]) L (N ++ [x]) ∧ w7.heap[wr.heap.size]? = some (.cells #[.int .i64 d.need.lo, .int .i64 d.need.hi, .int .i64 d.make.lo, .int .i64 d.make.hi, .int .i64 d.loss.lo, .int .i64 d.loss.hi] 97 (0, 0))) := ⟨(H6.out.1.rot).push hown hgrow hat, (H6.out.1.rot).keep H6.out.2 hgrow⟩
      clear hown hgrow hat
      refine hK.out _ _ ⟨⟨blk_cell H7.out.1.tb 0 rfl, blk_cell H7.out.1.tb 1 rfl, blk_cell H7.out.1.tb 2 rfl⟩, H7.out.2⟩ (fun _ => ?_)
      clear hK
      simp only [Act.put, List.setIfInBounds_toArray, List.set_cons_zero, List.set_cons_succ]
      refine wpAnyH_ready (rs := [33]) (by kernel_rfl) (by simp) ?_
      refine AllReadyH.cons (o := _) rfl (fun K hK => ?_) AllReadyH.nil
      go_simp
      go_at_call 53
      refine (between_any Bd (Bd + 1) a2 n2 cap2 (k + 3 * j + 1 + 1) d.loss.lo d.loss.hi _ H7.out.1.dk (by omega) (by omega)).mono ?_
      rintro e w8 ⟨⟨q, rfl, hq0, hq1⟩, hD, hA⟩
      have hA' := hA
      have H8 : Hid (DR w Bd a2 n2 cap2 (k + 3 * j + 1 + 1 + 1) #[.int .i64 stock, .int .i64 store, .slice (some ⟨b, off, none⟩) ds.length cp] (w.heap.size + 1 + 1) vN vM vL w8 (.slice (some ⟨g1, 0, none⟩) (M.length + 1) c1) vL (.slice (some ⟨g0, 0, none⟩) (N.length + 1) c0) (M ++ [y]) L (N ++ [x]) ∧ w8.heap[wr.heap.size]? = some (.cells #[.int .i64 d.need.lo, .int .i64 d.need.hi, .int .i64 d.make.lo, .int .i64 d.make.hi, .int .i64 d.loss.lo, .int .i64 d.loss.hi] 97 (0, 0))) := ⟨H7.out.1.call hA' hD, (hA'.block _ (lt_of_block H7.out.2) hXB).trans H7.out.2⟩
      clear hD hA hA'
      refine hK.out _ _ ⟨⟨blk_cell H8.out.1.tb 0 rfl, blk_cell H8.out.1.tb 1 rfl, blk_cell H8.out.1.tb 2 rfl⟩, H8.out.2⟩ (fun _ => ?_)
      clear hK
      simp only [List.setIfInBounds_toArray, List.set_cons_zero, List.set_cons_succ]
      refine wpAnyH_ready (rs := [34]) (by kernel_rfl) (by simp) ?_
      refine AllReadyH.cons (o := _) rfl (fun K hK => ?_) AllReadyH.nil
      go_simp
      have H8a : Hid (DR w Bd a2 n2 cap2 (k + 3 * j + 1 + 1 + 1) #[.int .i64 stock, .int .i64 store, .slice (some ⟨b, off, none⟩) ds.length cp] (w.heap.size + 1 + 1) vN vM vL (w8.alloc (.cells #[.int .i64 q] 3)) (.slice (some ⟨g1, 0, none⟩) (M.length + 1) c1) vL (.slice (some ⟨g0, 0, none⟩) (N.length + 1) c0) (M ++ [y]) L (N ++ [x]) ∧ (w8.alloc (.cells #[.int .i64 q] 3)).heap[wr.heap.size]? = some (.cells #[.int .i64 d.need.lo, .int .i64 d.need.hi, .int .i64 d.make.lo, .int .i64 d.make.hi, .int .i64 d.loss.lo, .int .i64 d.loss.hi] 97 (0, 0))) := ⟨H8.out.1.below ((Below.refl _ _).alloc (Nat.le_refl _) _), alk H8.out.2⟩
      refine hK.out _ _ ⟨⟨blk_cell H8a.out.1.tb 0 rfl, blk_cell H8a.out.1.tb 1 rfl, blk_cell H8a.out.1.tb 2 rfl⟩, H8a.out.2⟩ (fun _ => ?_)
      clear hK
      simp only [List.setIfInBounds_toArray, List.set_cons_zero, List.set_cons_succ]
      refine wpAnyH_ready (rs := [35]) (by kernel_rfl) (by simp) ?_
      refine AllReadyH.cons (o := _) rfl (fun K hK => ?_) AllReadyH.nil
      refine step_append_lies _ rfl (.tmp 40) (.tmp 49) 27 rfl (w.heap.size + 1 + 1 + 1) 3 i0 (.int .i64 0) 1 8 Try.underlying27 hi hz0 hz1 hz2 rfl (by decide) vL L.length (L.map (Value.int .i64)) rfl H8a.out.1.rot.r.n ⟨w8.heap.size, 0, none⟩ 1 1 [.int .i64 q] rfl rfl (cells_new w8 [.int .i64 q] 3) (by intro u hu; simp at hu; subst hu; rfl) (by decide) (by unfold maxLen; omega) (by omega) (by have := lt_of_block H8a.out.1.tb; omega) _ rfl ?_
      intro g2 c2 w9 hown hgrow hat _
      have H9 : Hid (DR w Bd a2 n2 cap2 (k + 3 * j + 1 + 1 + 1) #[.int .i64 stock, .int .i64 store, .slice (some ⟨b, off, none⟩) ds.length cp] (w.heap.size + 1 + 1) vN vM vL w9 (.slice (some ⟨g2, 0, none⟩) (L.length + 1) c2) (.slice (some ⟨g0, 0, none⟩) (N.length + 1) c0) (.slice (some ⟨g1, 0, none⟩) (M.length + 1) c1) (L ++ [q]) (N ++ [x]) (M ++ [y]) ∧ w9.heap[wr.heap.size]? = some (.cells #[.int .i64 d.need.lo, .int .i64 d.need.hi, .int .i64 d.make.lo, .int .i64 d.make.hi, .int .i64 d.loss.lo, .int .i64 d.loss.hi] 97 (0, 0))) := ⟨(H8.out.1.rot).push hown hgrow hat, (H8.out.1.rot).keep H8.out.2 hgrow⟩
      clear hown hgrow hat
      refine hK.out _ _ ⟨⟨blk_cell H9.out.1.tb 0 rfl, blk_cell H9.out.1.tb 1 rfl, blk_cell H9.out.1.tb 2 rfl⟩, H9.out.2⟩ (fun _ => ?_)
      clear hK
      simp only [Act.put, List.setIfInBounds_toArray, List.set_cons_zero, List.set_cons_succ]
      refine wpAnyH_done (by kernel_rfl) ?_ _
      show wpList _ _ _ (opsAt _ [37, 38, 39, 40, 41]) _ _
      simp only [opsAt, List.filterMap_cons, List.filterMap_nil, List.getElem?_toArray, List.getElem?_cons_succ, List.getElem?_cons_zero]
      have HP2 : Hid (PreSky ds (N ++ [x]) (M ++ [y]) (L ++ [q]) (j + 1)) := hP.out.more HD.out.1 ⟨hx0, hx1⟩ ⟨hy0, hy1⟩ ⟨hq0, hq1⟩
      have H9s := Lib.hid (H9.out.1.rot).store
      have t0 := blk_cell H9.out.1.tb 0 rfl
      have t1 := blk_cell H9.out.1.tb 1 rfl
      have t2 := blk_cell H9.out.1.tb 2 rfl
      have f0 := blk_free (j := 0) H9.out.1.tb
      have f1 := blk_free (j := 1) H9.out.1.tb
      have f2 := blk_free (j := 2) H9.out.1.tb
      clear HS0 H4 H4a H5 H6 H6a H7 H8 H8a HW HD hP hR hx0 hx1 hy0 hy1 hq0 hq1 hbs'
      go_wp2_with (fail)
      go_roundw
      case rel => exact ⟨j + 1, _, _, _, _, _, _, by go_num, by omega, (by have h := H9s.out; rw [show k + 3 * j + 1 + 1 + 1 = k + 3 * (j + 1) by omega, hNl, hMl, hLl] at h; exact h), HP2⟩
      case measure => simp [intOf]; omega
    · have hjl : j = ds.length := by omega
      subst hjl
      have hNl : N.length = ds.length := hP.out.1.1
      have hMl : M.length = ds.length := hP.out.1.2.1
      have hLl : L.length = ds.length := hP.out.1.2.2
      have kn := owns_cap hR.out.r.n
      have km := owns_cap hR.out.r.m
      have kl := owns_cap hR.out.r.l
      obtain ⟨an, cn, rfl, iN, fN⟩ := ints_of_owns hR.out.r.n
      obtain ⟨am, cm, rfl, iM, fM⟩ := ints_of_owns hR.out.r.m
      obtain ⟨al, cl, rfl, iL, fL⟩ := ints_of_owns hR.out.r.l
      have HK3 : Hid (ds.length ≤ cn ∧ ds.length ≤ cm ∧ ds.length ≤ cl) := ⟨by have := kn _ _ _ rfl; omega, by have := km _ _ _ rfl; omega, by have := kl _ _ _ rfl; omega⟩
      clear kn km kl
      have HI := Lib.hid (And.intro iN (And.intro iM (And.intro iL (And.intro fN (And.intro fM fL)))))
      clear iN iM iL fN fM fL
      have t0 := blk_cell hR.out.tb 0 rfl
      have t1 := blk_cell hR.out.tb 1 rfl
      have t2 := blk_cell hR.out.tb 2 rfl
      have r0 := blk_cell hR.out.rs 0 rfl
      have r1 := blk_cell hR.out.rs 1 rfl
      have r2 := blk_cell hR.out.rs 2 rfl
      have f0 := blk_free (j := 0) hR.out.rs
      have f1 := blk_free (j := 1) hR.out.rs
      have f2 := blk_free (j := 2) hR.out.rs
      have hsk := Lib.hid hP.out.sky
      go_wp2_with (fail)
      have p2 := blk_setCell (j := 2) (u := .slice al ds.length cl) (blk_setCell (j := 1) (u := .slice am ds.length cm) (blk_setCell (j := 0) (u := .slice an ds.length cn) hR.out.rs))
      have q0 := blk_cell p2 0 rfl
      have q1 := blk_cell p2 1 rfl
      have q2 := blk_cell p2 2 rfl
      refine bodyPost_ret (v := tv an ds.length cn am ds.length cm al ds.length cl) (by simp [results, Try.results52, go_sem, q0, q1, q2]) rfl ?_
      have ko : ∀ i, i ≠ w.heap.size + 1 → (((wr.setCell ⟨w.heap.size + 1, 0, none⟩ (.slice an ds.length cn)).setCell ⟨w.heap.size + 1, 1, none⟩ (.slice am ds.length cm)).setCell ⟨w.heap.size + 1, 2, none⟩ (.slice al ds.length cl)).heap[i]? = wr.heap[i]? := fun i hi => (Below.heap_setCell _ _ _ _ hi).trans ((Below.heap_setCell _ _ _ _ hi).trans (Below.heap_setCell _ _ _ _ hi))
      have hsz : (((wr.setCell ⟨w.heap.size + 1, 0, none⟩ (.slice an ds.length cn)).setCell ⟨w.heap.size + 1, 1, none⟩ (.slice am ds.length cm)).setCell ⟨w.heap.size + 1, 2, none⟩ (.slice al ds.length cl)).heap.size = wr.heap.size := by simp only [World.size_setCell]
      have hB := hR.out.hB
      have hap := hR.out.ap
      exact ⟨an, cn, am, cm, al, cl, N, M, L, rfl, ints_other HI.out.1 ko (Nat.le_of_eq hsz.symm) (fun p hp => by have := HI.out.2.2.2.1 p hp; omega), ints_other HI.out.2.1 ko (Nat.le_of_eq hsz.symm) (fun p hp => by have := HI.out.2.2.2.2.1 p hp; omega), ints_other HI.out.2.2.1 ko (Nat.le_of_eq hsz.symm) (fun p hp => by have := HI.out.2.2.2.2.2 p hp; omega), hsk.out, hR.out.dk.keep (Nat.le_of_eq hsz.symm) (fun i hi => ko i (by omega)),
        ⟨hap.os, hap.tape, hap.output, by rw [hsz]; exact hap.size, fun i hi hB' => (ko i (by omega)).trans (hap.block i hi hB')⟩, fun p hp => by have := HI.out.2.2.2.1 p hp; omega, fun p hp => by have := HI.out.2.2.2.2.1 p hp; omega, fun p hp => by have := HI.out.2.2.2.2.2 p hp; omega, HK3.out⟩
end Go.Proofs.Ytpkegiekpnaejaa

namespace Go.Proofs.Ytpkegiekpnaejaa
open Go.RowKit Go.Shelf
attribute [local go_sem] Oper.semAt_some

/-- What play hands back: lists that are new, the piles told. -/
def OutTaleC (w : World) (s : Ps) (F : List Sp) (e : Ending) (w' : World) : Prop := ∃ sa sc ma mc pa pc, e = .returned (.agg #[.slice sa s.stocks.length sc, .slice ma s.made.length mc, .slice pa F.length pc, .int .i64 s.fails, .int .i64 s.full]) ∧ ((IntSl w' sa s.stocks ∧ s.stocks.length ≤ sc) ∧ ∀ p, sa = some p → w.heap.size ≤ p.block) ∧ (IntSl w' ma s.made ∧ ∀ p, ma = some p → w.heap.size ≤ p.block) ∧ (IntSl w' pa (flatS F) ∧ ∀ p, pa = some p → w.heap.size ≤ p.block) ∧ Below w.heap.size w w'
theorem PV.endC {w : World} {T : Nat} {sp : Value} {s : Ps} {F : List Sp} {k : Nat} {wr : World} (h : PV w T sp s F k wr) : ∃ sa sc ma mc pa pc, wr.heap[T]? = some (.cells #[.slice sa s.stocks.length sc, .slice ma s.made.length mc, .slice pa F.length pc, .int .i64 s.fails, .int .i64 s.full] 146 (0, 0)) ∧
    Hid (((((((wr.setCell ⟨w.heap.size + 1, 0, none⟩ (.slice sa s.stocks.length sc)).setCell ⟨w.heap.size + 1, 1, none⟩ (.slice ma s.made.length mc)).setCell ⟨w.heap.size + 1, 2, none⟩ (.slice pa F.length pc)).setCell ⟨w.heap.size + 1, 3, none⟩ (.int .i64 s.fails)).setCell ⟨w.heap.size + 1, 4, none⟩ (.int .i64 s.full))).heap[w.heap.size + 1]? = some (.cells #[.slice sa s.stocks.length sc, .slice ma s.made.length mc, .slice pa F.length pc, .int .i64 s.fails, .int .i64 s.full] 146 (0, 0))) ∧ Hid (OutTaleC w s F (.returned (.agg #[.slice sa s.stocks.length sc, .slice ma s.made.length mc, .slice pa F.length pc, .int .i64 s.fails, .int .i64 s.full])) (((((wr.setCell ⟨w.heap.size + 1, 0, none⟩ (.slice sa s.stocks.length sc)).setCell ⟨w.heap.size + 1, 1, none⟩ (.slice ma s.made.length mc)).setCell ⟨w.heap.size + 1, 2, none⟩ (.slice pa F.length pc)).setCell ⟨w.heap.size + 1, 3, none⟩ (.int .i64 s.fails)).setCell ⟨w.heap.size + 1, 4, none⟩ (.int .i64 s.full))) := by
  obtain ⟨sl, ml, pl, h1, h2, h3, h4, h5, h6⟩ := h.t
  have kc := owns_cap h2
  obtain ⟨sa, sc, rfl, hs, hsf⟩ := ints_of_owns h2
  have kc2 := kc _ _ _ rfl
  obtain ⟨ma, mc, rfl, hm, hmf⟩ := ints_of_owns h3
  obtain ⟨pa, pc, rfl, hp, _, hpf, _⟩ := flats_of_owns h4
  refine ⟨sa, sc, ma, mc, pa, pc, h1, ?_⟩
  obtain ⟨a1, a2, a3, a4⟩ := five_put (v0 := .slice sa s.stocks.length sc) (v1 := .slice ma s.made.length mc) (v2 := .slice pa F.length pc) (v3 := .int .i64 s.fails) (v4 := .int .i64 s.full) h.rs (show w.heap.size ≤ w.heap.size + 1 by omega) h.b
  exact ⟨a2, sa, sc, ma, mc, pa, pc, rfl, ⟨⟨ints_put hs (Below.refl _ _) a3 a4 (fun p hp => by have := hsf p hp; have := h.hT; omega), kc2⟩, fun p hp => by have := hsf p hp; have := h.hT; omega⟩, ⟨ints_put hm (Below.refl _ _) a3 a4 (fun p hp => by have := hmf p hp; have := h.hT; omega), fun p hp => by have := hmf p hp; have := h.hT; omega⟩, ⟨ints_put hp (Below.refl _ _) a3 a4 (fun p hp => by have := hpf p hp; omega), fun p hp => by have := hpf p hp; omega⟩, a1⟩

set_option maxRecDepth 100000 in
set_option maxHeartbeats 4000000 in
theorem play_caps (stock store : Int) (a : Option Addr) (n cap : Nat) (an : Option Addr) (N : List Int) (cn : Nat) (am : Option Addr) (M : List Int) (cm : Nat) (al : Option Addr) (L : List Int) (cl : Nat) (w : World)
    (hN : IntSl w an N) (hM : IntSl w am M) (hL : IntSl w al L) (hNn : N.length = n) (hMn : M.length = n) (hLn : L.length = n) (hn : n ≤ 60) (hst : 0 ≤ stock ∧ stock ≤ store ∧ store ≤ 1000000)
    (hb : (∀ x ∈ N, 0 ≤ x ∧ x ≤ 100000) ∧ (∀ x ∈ M, 0 ≤ x ∧ x ≤ 100000) ∧ (∀ x ∈ L, 0 ≤ x ∧ x ≤ 100000)) :
    Calls Try.prog 101 #[sv stock store a n cap an n cn am n cm al n cl] w (OutTaleC w (playL stock store N M L n) (pileL stock store N M L n)) := by
  have HH := Lib.hid (And.intro hN (And.intro hM (And.intro hL (And.intro hNn (And.intro hMn hLn)))))
  have HB := Lib.hid hb
  have HS := Lib.hid hst
  clear hN hM hL hNn hMn hLn hb hst
  obtain ⟨Wa, hWa⟩ : ∃ Wa, (w.alloc (.cells #[.int .i64 stock, .int .i64 store, .slice a n cap, .slice an n cn, .slice am n cm, .slice al n cl] 157)).alloc (.cells #[.slice none 0 0, .slice none 0 0, .slice none 0 0, .int .i64 0, .int .i64 0] 146) = Wa := ⟨_, rfl⟩
  have hba : Below w.heap.size w Wa := by rw [← hWa]; exact ((Below.refl _ _).alloc (Nat.le_refl _) _).alloc (by simp) _
  have h0 : Wa.heap[w.heap.size]? = some (.cells #[.int .i64 stock, .int .i64 store, .slice a n cap, .slice an n cn, .slice am n cm, .slice al n cl] 157 (0, 0)) := by rw [← hWa]; exact alk (new_at rfl)
  have r0 : Wa.heap[w.heap.size + 1]? = some (.cells #[.slice none 0 0, .slice none 0 0, .slice none 0 0, .int .i64 0, .int .i64 0] 146 (0, 0)) := by rw [← hWa]; exact new_at (by simp)
  have c0 := blk_cell h0 0 rfl
  go_enter Try.func101, Try.ntmps101
  go_wp2
  go_step3
  have hbc : Below Wa.heap.size Wa (Wa.alloc (.cells #[.int .i64 (-1), .int .i64 stock] 106)) := (Below.refl _ _).alloc (Nat.le_refl _) _
  have hnc : (Wa.alloc (.cells #[.int .i64 (-1), .int .i64 stock] 106)).heap[Wa.heap.size]? = some (.cells #[.int .i64 (-1), .int .i64 stock] 106 (0, 0)) := heap_alloc_new _ _
  go_wp2_with (fail)
  have HC0 := drained_piles (some ⟨Wa.heap.size, 0, none⟩) [⟨-1, stock⟩] 1 1 0 _ (pair_sl hnc) rfl (fun h => by cases h) (Nat.le_refl _) (by omega) (by omega) (fun p hp => by
    have e : p = ⟨-1, stock⟩ := by simpa using hp
    have h := HS.out
    subst e
    exact ⟨h.1, by show stock ≤ 10000000; omega⟩)
  obtain ⟨F0, hF0⟩ : ∃ F0, drainS [⟨-1, stock⟩] 0 = F0 := ⟨_, rfl⟩
  have hF0l : F0.length ≤ 1 := by rw [← hF0]; exact drainS_len _ _
  rw [hF0] at HC0
  have HF0 := Lib.hid hF0
  clear hF0
  refine HC0.mono ?_
  rintro e w1 ⟨pa, pcap, rfl, hown, hb1⟩
  clear HC0
  have hza : Wa.heap.size = w.heap.size + 2 := by rw [← hWa]; simp
  have hown' : w1.ownsRow (w.heap.size + 2) 106 2 (.slice pa F0.length pcap) F0.length ((flatS F0).map (Value.int .i64)) := owns_mono hown (by rw [World.size_alloc, hza]; omega)
  have k1 : Below w.heap.size w w1 := below_self (below_self hba hbc) hb1
  have h1 := blk_below (blk_below h0 hbc) hb1
  have r1 := blk_below (blk_below r0 hbc) hb1
  have hz1 : w.heap.size + 3 ≤ w1.heap.size := by have := hb1.size; rw [World.size_alloc, hza] at this; omega
  clear hnc hown hb1 hbc h0 r0 c0 hba hza hWa
  obtain ⟨Wt, hWt⟩ : ∃ Wt, w1.alloc (.cells #[.slice none 0 0, .slice none 0 0, .slice pa F0.length pcap, .int .i64 (-1), .int .i64 (-1)] 146) = Wt := ⟨_, rfl⟩
  have hbt : Below w1.heap.size w1 Wt := by rw [← hWt]; exact (Below.refl _ _).alloc (Nat.le_refl _) _
  have hT : Wt.heap[w1.heap.size]? = some (.cells #[.slice none 0 0, .slice none 0 0, .slice pa F0.length pcap, .int .i64 (-1), .int .i64 (-1)] 146 (0, 0)) := by rw [← hWt]; exact heap_alloc_new _ _
  have hPW : PV w w1.heap.size (sv stock store a n cap an n cn am n cm al n cl) ⟨stock, [], [], -1, -1⟩ F0 0 Wt :=
    ⟨below_self k1 hbt, by omega, blk_below h1 hbt, blk_below r1 hbt, _, _, _, hT, World.ownsRow_nil _ _ _ _, World.ownsRow_nil _ _ _ _, owns_below hown' hbt, by omega, (fun i h => by cases h)⟩
  have d0 := blk_cell (blk_below h1 hbt) 0 rfl
  have d2 := blk_cell (blk_below h1 hbt) 2 rfl
  have HP := Lib.hid hPW
  clear hPW hT hbt k1 h1 r1 hown' hF0l
  generalize hTT : w1.heap.size = T at HP hz1 hWt ⊢
  go_wp2_with (fail)
  go_step3
  go_wp2_with (fail)
  clear hWt d0 d2 hTT
  go_loopw [4, 24] (fun st i wr => ∃ (k : Nat) (s : Ps) (F : List Sp), k ≤ n ∧ i = .int .i64 k ∧ Hid (s = playL stock store N M L k) ∧ st = .int .i64 s.stock ∧ Hid (s.fails = -1) ∧ Hid (0 ≤ s.stock ∧ s.stock ≤ store) ∧ Hid (F = pileL stock store N M L k) ∧ Hid (PV w T (sv stock store a n cap an n cn am n cm al n cl) s F k wr)) (fun _ i _ => n - (intOf i).toNat)
  case atStart => exact ⟨0, _, _, Nat.zero_le _, rfl, rfl, rfl, rfl, ⟨HS.out.1, HS.out.2.1⟩, HF0.out.symm, HP⟩
  case round =>
    obtain ⟨k, s, F, hk, rfl, hs, rfl, hf, hst, hF, hpw⟩ := hrel
    by_cases hlt : k < n
    · obtain ⟨hN, hM, hL, hNn, hMn, hLn⟩ := HH.out
      obtain ⟨bn, on, rfl, hbn, hcn⟩ := hN (by omega)
      obtain ⟨bm, om, rfl, hbm, hcm⟩ := hM (by omega)
      obtain ⟨bl, ol, rfl, hbl, hcl⟩ := hL (by omega)
      have cN := (hpw.out.b.cell (p := ⟨bn, on + k, none⟩) hbn).trans (hcn k (by omega))
      have cM := (hpw.out.b.cell (p := ⟨bm, om + k, none⟩) hbm).trans (hcm k (by omega))
      have cL := (hpw.out.b.cell (p := ⟨bl, ol + k, none⟩) hbl).trans (hcl k (by omega))
      have bN : 0 ≤ N[k]?.getD 0 ∧ N[k]?.getD 0 ≤ 100000 := HB.out.1 _ (by rw [List.getElem?_eq_getElem (by omega)]; exact List.getElem_mem _)
      have bM : 0 ≤ M[k]?.getD 0 ∧ M[k]?.getD 0 ≤ 100000 := HB.out.2.1 _ (by rw [List.getElem?_eq_getElem (by omega)]; exact List.getElem_mem _)
      have bL : 0 ≤ L[k]?.getD 0 ∧ L[k]?.getD 0 ≤ 100000 := HB.out.2.2 _ (by rw [List.getElem?_eq_getElem (by omega)]; exact List.getElem_mem _)
      have HSTEP : Hid (playL stock store N M L (k + 1) = stepP store s k (N[k]?.getD 0) (M[k]?.getD 0) (L[k]?.getD 0)) := by show _ = _; rw [playL_succ, ← hs.out]
      have HPST : Hid (pileL stock store N M L (k + 1) = pileStep store s F k (N[k]?.getD 0) (M[k]?.getD 0) (L[k]?.getD 0)) := by show _ = _; rw [pileL, ← hs.out, ← hF.out]
      have HPB : Hid (Pil stock s.made F ∧ sumS F = s.stock) := by
        have h := pile_inv (N := N) (M := M) (L := L) ⟨HS.out.1, HS.out.2.1⟩ (getD_pos HB.out.2.1) (getD_pos HB.out.2.2) (getD_pos HB.out.1) k
        rw [← hs.out, ← hF.out] at h
        exact ⟨h.1, h.2.1⟩
      generalize N[k]?.getD 0 = nk at cN bN HSTEP HPST
      generalize M[k]?.getD 0 = mk at cM bM HSTEP HPST
      generalize L[k]?.getD 0 = lk at cL bL HSTEP HPST
      have c1 := blk_cell hpw.out.sp 1 rfl
      have c3 := blk_cell hpw.out.sp 3 rfl
      have c4 := blk_cell hpw.out.sp 4 rfl
      have c5 := blk_cell hpw.out.sp 5 rfl
      have hst' := hst.out
      have hS3 := HS.out
      clear hcn hcm hcl hN hM hL
      go_wp2_with (fail)
      go_quiet (fail)
      clear cN cM c1 c3 c4 HP hz1
      have HB3 := Lib.hid (And.intro hS3 (And.intro hst' (And.intro bN (And.intro bM bL))))
      have hn' := hn
      have HLT := Lib.hid hlt
      clear hS3 hst' hn bN bM bL
      go_upto_region 8 with (fail)
      have hlo : (if s.stock < lk then s.stock else lk) = lostD s.stock lk := by unfold lostD; have := HB3.out; split <;> omega
      have blo : 0 ≤ lostD s.stock lk ∧ lostD s.stock lk ≤ s.stock := by unfold lostD; have := HB3.out; omega
      rw [hlo]
      clear hlo
      have hpw2 := Lib.hid (hpw.out.drewN nq)
      clear hpw
      generalize wr.drewN nq = W1 at hpw2 ⊢
      have c1 := blk_cell hpw2.out.sp 1 rfl
      obtain ⟨lo, hlo⟩ : ∃ lo, lostD s.stock lk = lo := ⟨_, rfl⟩
      rw [hlo] at blo ⊢
      have HLO := Lib.hid hlo
      clear hlo
      have b1 := HB3.out.1
      have b2 := HB3.out.2.1
      have b3 := HB3.out.2.2.2.1
      go_upto_region 9 with (fail)
      have hma' : (if store - (s.stock - lo) < mk then store - (s.stock - lo) else mk) = madeD store s.stock mk lk := by unfold madeD; rw [HLO.out]; split <;> omega
      have bma : 0 ≤ madeD store s.stock mk lk ∧ madeD store s.stock mk lk ≤ mk ∧ s.stock - lo + madeD store s.stock mk lk ≤ store := by unfold madeD; rw [HLO.out]; omega
      rw [hma']
      clear hma' c1
      obtain ⟨ma, hma⟩ : ∃ ma, madeD store s.stock mk lk = ma := ⟨_, rfl⟩
      rw [hma] at bma ⊢
      have HMA := Lib.hid hma
      clear hma
      by_cases hfu : ma < mk
      · have g3 := hpw2.out.free.2.1 4
        have g4 := hpw2.out.free.2.2.2
        obtain ⟨_, _, _, hT2, _⟩ := hpw2.out.t
        have t3 := blk_cell hT2 4 rfl
        clear hT2
        go_upto_region 11 with (fail)
        have hpw3 := Lib.hid (hpw2.out.put (s' := ⟨s.stock, s.stocks, s.made, s.fails, if ma < mk then (k : Int) else s.full⟩) 4 k ⟨rfl, rfl⟩ (.inr ⟨rfl, rfl, if_pos hfu⟩))
        clear hpw2 g3 g4 t3
        generalize W1.setCell ⟨T, 4, none⟩ (.int .i64 k) = W2 at hpw3 ⊢
        clear hfu
        generalize hs2' : (⟨s.stock, s.stocks, s.made, s.fails, if ma < mk then (k : Int) else s.full⟩ : Ps) = s2 at hpw3
        have hs2 := Lib.hid hs2'
        clear hs2'
        go_upto_region 13 with (fail)
        generalize hst2 : s.stock + (ma - lo) = st2
        have HST := Lib.hid hst2
        have bst : 0 ≤ st2 ∧ st2 ≤ store ∧ store ≤ 1000000 := by omega
        have HBL := Lib.hid (And.intro blo (And.intro bma b1))
        clear hst2 blo bma b1 b2 b3
        by_cases hfa : st2 < nk
        · skip
          have HF : Hid (playL stock store N M L n = ⟨s2.stock, s2.stocks, s2.made, k, s2.full⟩) := by
            show _ = _
            have h1 : playL stock store N M L (k + 1) = ⟨s2.stock, s2.stocks, s2.made, k, s2.full⟩ := by
              rw [HSTEP.out, stepP, if_pos hf.out, HMA.out, HLO.out, if_pos (by rw [HST.out]; exact hfa), ← hs2.out]
            rw [← h1]
            exact playL_stop _ _ _ _ _ _ (by rw [h1]; show (k : Int) ≠ -1; omega) _ (by omega)
          have HFP : Hid (pileL stock store N M L n = F) := by
            show _ = _
            have h1 : playL stock store N M L (k + 1) = ⟨s2.stock, s2.stocks, s2.made, k, s2.full⟩ := by
              rw [HSTEP.out, stepP, if_pos hf.out, HMA.out, HLO.out, if_pos (by rw [HST.out]; exact hfa), ← hs2.out]
            rw [pileL_stop stock store N M L (k + 1) (by rw [h1]; show (k : Int) ≠ -1; omega) n (by omega), HPST.out, pileStep, if_pos hf.out, HMA.out, HLO.out, if_pos (by rw [HST.out]; exact hfa)]
          obtain ⟨W3, hW3⟩ : ∃ W3, W2.setCell ⟨T, 3, none⟩ (.int .i64 k) = W3 := ⟨_, rfl⟩
          have hpw4 : Hid (PV w T (sv stock store a n cap (some ⟨bn, on, none⟩) n cn (some ⟨bm, om, none⟩) n cm (some ⟨bl, ol, none⟩) n cl) ⟨s2.stock, s2.stocks, s2.made, k, s2.full⟩ F k W3) := by rw [← hW3]; exact hpw3.out.put 3 k ⟨rfl, rfl⟩ (.inl ⟨rfl, rfl, rfl⟩)
          have g3 := hpw3.out.free.2.1 3
          have g4 := hpw3.out.free.2.2.2
          obtain ⟨_, _, _, hT2, _⟩ := hpw3.out.t
          have t3 := blk_cell hT2 3 rfl
          clear hT2
          obtain ⟨sa, sc, ma', mc, pa2, pc, hTc, HC, HO⟩ := hpw4.out.endC
          have r0 := hpw4.out.rs
          have b0 := blk_cell r0 0 rfl
          have b1 := blk_cell r0 1 rfl
          have b2 := blk_cell r0 2 rfl
          have b3 := blk_cell r0 3 rfl
          have b4 := blk_cell r0 4 rfl
          have f0 := blk_free (j := 0) r0
          have f1 := blk_free (j := 1) r0
          have f2 := blk_free (j := 2) r0
          have f3 := blk_free (j := 3) r0
          have f4 := blk_free (j := 4) r0
          have e0 := blk_cell hTc 0 rfl
          have e1 := blk_cell hTc 1 rfl
          have e2 := blk_cell hTc 2 rfl
          have e3 := blk_cell hTc 3 rfl
          have e4 := blk_cell hTc 4 rfl
          clear hTc r0
          go_wp2_with (fail)
          clear b0 b1 b2 b3 b4 f0 f1 f2 f3 f4 e0 e1 e2 e3 e4
          try rw [Exit.noGoto_ret]
          generalize (((((W3.setCell ⟨w.heap.size + 1, 0, none⟩ (.slice sa s2.stocks.length sc)).setCell ⟨w.heap.size + 1, 1, none⟩ (.slice ma' s2.made.length mc)).setCell ⟨w.heap.size + 1, 2, none⟩ (.slice pa2 F.length pc)).setCell ⟨w.heap.size + 1, 3, none⟩ (.int .i64 k)).setCell ⟨w.heap.size + 1, 4, none⟩ (.int .i64 s2.full)) = W5 at HC HO ⊢
          have q0 := blk_cell HC.out 0 rfl
          have q1 := blk_cell HC.out 1 rfl
          have q2 := blk_cell HC.out 2 rfl
          have q3 := blk_cell HC.out 3 rfl
          have q4 := blk_cell HC.out 4 rfl
          refine bodyPost_ret (v := .agg #[.slice sa s2.stocks.length sc, .slice ma' s2.made.length mc, .slice pa2 F.length pc, .int .i64 k, .int .i64 s2.full]) (by simp [results, Try.results101, go_sem, q0, q1, q2, q3, q4]) rfl ?_
          rw [HF.out, HFP.out]
          exact HO.out

        · have bst4 : 0 ≤ st2 - nk ∧ st2 - nk ≤ 1000000 := by have := HB3.out.2.2.1; omega
          have BST := Lib.hid bst
          obtain ⟨sl, ml, pl, hTc, hO1, hO2, hO3, hnp2, hdis⟩ := hpw3.out.t
          obtain ⟨pa3, pc3, rfl, _⟩ := flats_of_owns hO3
          have HF := Lib.hid (owns_form hO3)
          have p2 := blk_cell hTc 2 rfl
          have p3 := blk_free (j := 2) hTc
          have HNP := Lib.hid hnp2
          have HTc := Lib.hid hTc
          have hTlt := lt_of_block hTc
          have HHn := Lib.hid hn'
          clear hTc hO1 hO2 hO3 hnp2 hdis bst hn'
          by_cases hmd : 0 < ma
          · go_wp2_with (fail)
            have HC5 := drained_piles pa3 F F.length pc3 lo _ HF.out.1 rfl HF.out.2.2.2.1 HF.out.2.2.2.2.1 (by have := HNP.out; have := HHn.out; omega) (by have := HBL.out; have := HB3.out; omega) (pil_bd HPB.out (by have := HB3.out; omega))
            obtain ⟨F5, hF5⟩ : ∃ F5, drainS F lo = F5 := ⟨_, rfl⟩
            have hnp5 : F5.length ≤ F.length := by rw [← hF5]; exact drainS_len _ _
            rw [hF5] at HC5
            refine HC5.mono ?_
            rintro e w5 ⟨pa5, pc5, rfl, hO5, hb5⟩
            clear HC5
            have HF5 := Lib.hid hF5
            clear hF5
            obtain ⟨j0, hj, hjz0, hjz1, hjz2⟩ := info_parts Try.info106
            have HNP5 : Hid (F5.length ≤ k + 1 ∧ k + 1 ≤ 61) := by have := HNP.out; have := HHn.out; have := HLT.out; exact ⟨by omega, by omega⟩
            have HO5 := Lib.hid hO5
            have HB5 := Lib.hid hb5
            clear hO5 hb5 hnp5 p2 p3
            go_wp2_with (at_builtin; refine wpList_append_own_at _ rfl _ _ 102 rfl W2.heap.size 106 j0 (.agg #[.int .i64 0, .int .i64 0]) 2 16 Try.underlying102 hj hjz0 hjz1 hjz2 rfl (by decide) (.slice pa5 F5.length pc5) F5.length ((flatS F5).map (Value.int .i64)) rfl (HO5.out.alloc _) ⟨w5.heap.size, 0, none⟩ 1 1 [.int .i64 k, .int .i64 ma] rfl rfl (cell_two_new _ _ _ _) (by intro u hu; simp at hu; rcases hu with rfl | rfl <;> rfl) (by have := HNP5.out; unfold maxLen; omega) (by have := HNP5.out; omega) (by have := HB5.out.size; rw [World.size_alloc]; omega) ?_)
            intro v6 w6 hown6 hgrow6 _ hv6
            obtain ⟨g6, cap6, rfl⟩ := ownsRow_succ hown6
            have hb6 : Below W2.heap.size W2 w6 := (HB5.out.alloc HB5.out.size _).grown hgrow6 (by rw [World.size_alloc]; have := HB5.out.size; omega) (fun j hj => (HO5.out.lt j hj).1)
            have hown6' : w6.ownsRow W2.heap.size 106 2 (.slice (some ⟨g6, 0, none⟩) (F5.length + 1) cap6) (F5 ++ [(⟨k, ma⟩ : Sp)]).length ((flatS (F5 ++ [(⟨k, ma⟩ : Sp)])).map (Value.int .i64)) := by rw [flatS_append, List.length_append]; simpa [flatS_cons, show flatS [] = [] from rfl] using hown6
            have HPB6 := Lib.hid (pil_bd2 (k := (k : Int)) HPB.out (by have := HBL.out; exact ⟨this.1.1, this.1.2⟩) hmd (by have := HBL.out; have := HB3.out; omega))
            obtain ⟨F6, hF6⟩ : ∃ F6, F5 ++ [(⟨k, ma⟩ : Sp)] = F6 := ⟨_, rfl⟩
            have hF6l : F6.length = F5.length + 1 := by rw [← hF6]; simp
            rw [HF5.out, hF6] at HPB6
            rw [hF6] at hown6'
            have hpw6 := Lib.hid (hpw3.out.piles (k' := k + 1) hb6 hown6' (by have := HNP5.out; omega))
            have HF6 := Lib.hid hF6
            clear hF6 hF6l
            have t6 := blk_below HTc.out hb6
            have y6 := blk_cell t6 2 rfl
            have y6f := blk_free (j := 2) t6
            clear t6 hown6' hb6 hown6 hgrow6 hv6
            go_upto_region 17 with (fail)
            generalize w6.setCell ⟨T, 2, none⟩ (.slice (some ⟨g6, 0, none⟩) (F5.length + 1) cap6) = W6 at hpw6 ⊢
            clear y6 y6f
            obtain ⟨sl6, ml6, pl6, hTc6, _, _, hO6, hnp6, _⟩ := hpw6.out.t
            obtain ⟨pa6, pc6, rfl, _⟩ := flats_of_owns hO6
            have HG6 := Lib.hid (owns_form hO6)
            have p2 := blk_cell hTc6 2 rfl
            have p3 := blk_free (j := 2) hTc6
            have HNP6 := Lib.hid hnp6
            have HTc6 := Lib.hid hTc6
            have hTlt6 := lt_of_block hTc6
            clear hTc6 hO6 hnp6
            go_wp2_with (fail)
            have HC7 := drained_piles pa6 F6 F6.length pc6 nk W6 HG6.out.1 rfl HG6.out.2.2.2.1 HG6.out.2.2.2.2.1 (by have := HNP6.out; have := HNP5.out; omega) (by have := HB3.out; omega) HPB6.out
            obtain ⟨F7, hF7⟩ : ∃ F7, drainS F6 nk = F7 := ⟨_, rfl⟩
            have hnp7 : F7.length ≤ F6.length := by rw [← hF7]; exact drainS_len _ _
            rw [hF7] at HC7
            refine HC7.mono ?_
            rintro e w7 ⟨pa7, pc7, rfl, hO7, hb7⟩
            clear HC7
            have HEQF : Hid (F7 = pileL stock store N M L (k + 1)) := by
              show _ = _
              rw [HPST.out, pileStep, if_pos hf.out, HMA.out, HLO.out, HST.out, if_neg (by omega), if_pos hmd, HF5.out, HF6.out, hF7]
            clear hF7
            have hpw5 := Lib.hid (hpw6.out.piles (k' := k + 1) hb7 hO7 (by have := HNP6.out; omega))
            have p5 := blk_free (j := 2) (blk_below HTc6.out hb7)
            have p6 := blk_cell (blk_below HTc6.out hb7) 2 rfl
            clear hb7 hO7 hnp7 p2 p3
            go_upto_region 19 with (fail)
            generalize w7.setCell ⟨T, 2, none⟩ (.slice pa7 F7.length pc7) = W5 at hpw5 ⊢
            clear p5 p6
            have HLEN : Hid (s2.stocks.length ≤ 60 ∧ s2.made.length ≤ 60) := by
              have h1 := playL_len stock store N M L k
              rw [← hs.out] at h1
              have h2 := HHn.out
              show _ ∧ _
              rw [← hs2.out]
              exact ⟨by show s.stocks.length ≤ 60; omega, by show s.made.length ≤ 60; omega⟩
            have HEQ : Hid (playL stock store N M L (k + 1) = ⟨st2 - nk, s2.stocks ++ [st2 - nk], s2.made ++ [ma], -1, s2.full⟩) := by
              show _ = _
              rw [HSTEP.out, stepP, if_pos hf.out, HMA.out, HLO.out, HST.out, if_neg (by omega), ← hs2.out]
            have HFL : Hid (s2.fails = -1) := by show _ = _; rw [← hs2.out]; exact hf.out
            obtain ⟨sl5, ml5, pl5, PT5⟩ := hpw5.out.t
            have HPT5 : Hid (PT w T s2 (k + 1) W5 sl5 ml5 pl5 F7.length (flatS F7)) := PT5
            have q0 := blk_cell PT5.1 0 rfl
            have r0 := blk_free (j := 0) PT5.1
            clear PT5
            obtain ⟨i0, hi, hz0, hz1, hz2⟩ := info_parts Try.info3
            go_wp2_with (at_builtin; refine wpList_append_own_at _ rfl _ _ 27 rfl (T + 1) 3 i0 (.int .i64 0) 1 8 Try.underlying27 hi hz0 hz1 hz2 rfl (by decide) sl5 s2.stocks.length (s2.stocks.map (Value.int .i64)) rfl (HPT5.out.2.1.alloc _) ⟨W5.heap.size, 0, none⟩ 1 1 [.int .i64 (st2 - nk)] rfl rfl ?c1 ?c2 ?c3 ?c4 ?c5 ?_)
            case c1 => exact cell_one_new _ _ _
            case c2 => intro u hu; simp at hu; subst hu; rfl
            case c3 => have := HLEN.out.1; unfold maxLen; omega
            case c4 => have := HLEN.out.1; omega
            case c5 => have := lt_of_block HPT5.out.1; rw [World.size_alloc]; omega
            intro v6 w6 hown6 hgrow6 _ hv6
            obtain ⟨g6, cap6, rfl⟩ := ownsRow_succ hown6
            obtain ⟨hpw6, hpt6, hh6⟩ := hpw5.out.push0 HPT5.out _ hown6 hgrow6 (by rw [World.size_alloc]; exact hv6)
            have z0 := hh6.trans HPT5.out.1
            have y0 := blk_cell z0 0 rfl
            have y0f := blk_free (j := 0) z0
            have HPP := Lib.hid (And.intro hpw6 hpt6)
            clear hpw6 hpt6 hh6 z0 hown6 hgrow6 hv6 q0 r0
            go_upto_region 20 with (fail)
            clear y0 y0f
            have hpw6 := HPP.out.1
            have hpt6 := HPP.out.2
            clear HPP
            generalize w6.setCell ⟨T, 0, none⟩ (.slice (some ⟨g6, 0, none⟩) (s2.stocks.length + 1) cap6) = W6 at hpw6 hpt6 ⊢
            have HPW6 := Lib.hid hpw6
            have HPT6 := Lib.hid hpt6
            have y1 := blk_cell hpt6.1 1 rfl
            have y1f := blk_free (j := 1) hpt6.1
            clear hpw6 hpt6
            go_wp2_with (at_builtin; refine wpList_append_own_at _ rfl _ _ 27 rfl (T + 1) 3 i0 (.int .i64 0) 1 8 Try.underlying27 hi hz0 hz1 hz2 rfl (by decide) ml5 s2.made.length (s2.made.map (Value.int .i64)) rfl (HPT6.out.2.2.1.alloc _) ⟨W6.heap.size, 0, none⟩ 1 1 [.int .i64 ma] rfl rfl (cell_one_new _ _ _) (by intro u hu; simp at hu; subst hu; rfl) (by have := HLEN.out.2; unfold maxLen; omega) (by have := HLEN.out.2; omega) (by have := lt_of_block HPT6.out.1; rw [World.size_alloc]; omega) ?_)
            intro v7 w7 hown7 hgrow7 _ hv7
            obtain ⟨g7, cap7, rfl⟩ := ownsRow_succ hown7
            obtain ⟨hpw7, hh7⟩ := HPW6.out.push1 HPT6.out _ hown7 hgrow7 (by rw [World.size_alloc]; exact hv7)
            have z1 := hh7.trans HPT6.out.1
            have y2 := blk_cell z1 1 rfl
            have y2f := blk_free (j := 1) z1
            have HPW7 := Lib.hid hpw7
            clear hpw7 hh7 z1 hown7 hgrow7 hv7 y1 y1f
            have hk1 := HLT.out
            have hk2 := HHn.out
            go_wp2
            go_roundw
            case rel => exact ⟨k + 1, ⟨st2 - nk, s2.stocks ++ [st2 - nk], s2.made ++ [ma], -1, s2.full⟩, F7, HLT.out, by have := HHn.out; have := HLT.out; go_num, HEQ.out.symm, rfl, rfl, ⟨bst4.1, by have := HB3.out.2.2.1; have := BST.out; show st2 - nk ≤ store; omega⟩, HEQF.out, ⟨HPW7.out.b, HPW7.out.hT, HPW7.out.sp, HPW7.out.rs, by have h := HPW7.out.t; rw [HFL.out] at h; exact h⟩⟩
            case measure => have := HLT.out; have := HHn.out; simp [intOf]; omega
          · go_wp2_with (fail)
            rw [wrap_small (x := lo + nk) (by have := HBL.out; have := HB3.out; omega)]
            have HC5 := drained_piles pa3 F F.length pc3 (lo + nk) W2 HF.out.1 rfl HF.out.2.2.2.1 HF.out.2.2.2.2.1 (by have := HNP.out; have := HHn.out; omega) (by have := HBL.out; have := HB3.out; omega) (pil_bd HPB.out (by have := HB3.out; omega))
            obtain ⟨F7, hF7⟩ : ∃ F7, drainS F (lo + nk) = F7 := ⟨_, rfl⟩
            have hnp5 : F7.length ≤ F.length := by rw [← hF7]; exact drainS_len _ _
            rw [hF7] at HC5
            refine HC5.mono ?_
            rintro e w5 ⟨pa5, pc5, rfl, hO5, hb5⟩
            clear HC5
            have HEQF : Hid (F7 = pileL stock store N M L (k + 1)) := by
              show _ = _
              rw [HPST.out, pileStep, if_pos hf.out, HMA.out, HLO.out, HST.out, if_neg (by omega), if_neg (show ¬ 0 < ma by omega), hF7]
            clear hF7
            have hpw5 := Lib.hid (hpw3.out.piles (k' := k + 1) hb5 hO5 (by have := HNP.out; omega))
            have p5 := blk_free (j := 2) (blk_below HTc.out hb5)
            have p6 := blk_cell (blk_below HTc.out hb5) 2 rfl
            clear hb5 hO5 hnp5 p2 p3
            go_upto_region 19 with (fail)
            generalize w5.setCell ⟨T, 2, none⟩ (.slice pa5 F7.length pc5) = W5 at hpw5 ⊢
            clear p5 p6
            have HLEN : Hid (s2.stocks.length ≤ 60 ∧ s2.made.length ≤ 60) := by
              have h1 := playL_len stock store N M L k
              rw [← hs.out] at h1
              have h2 := HHn.out
              show _ ∧ _
              rw [← hs2.out]
              exact ⟨by show s.stocks.length ≤ 60; omega, by show s.made.length ≤ 60; omega⟩
            have HEQ : Hid (playL stock store N M L (k + 1) = ⟨st2 - nk, s2.stocks ++ [st2 - nk], s2.made ++ [ma], -1, s2.full⟩) := by
              show _ = _
              rw [HSTEP.out, stepP, if_pos hf.out, HMA.out, HLO.out, HST.out, if_neg (by omega), ← hs2.out]
            have HFL : Hid (s2.fails = -1) := by show _ = _; rw [← hs2.out]; exact hf.out
            obtain ⟨sl5, ml5, pl5, PT5⟩ := hpw5.out.t
            have HPT5 : Hid (PT w T s2 (k + 1) W5 sl5 ml5 pl5 F7.length (flatS F7)) := PT5
            have q0 := blk_cell PT5.1 0 rfl
            have r0 := blk_free (j := 0) PT5.1
            clear PT5
            obtain ⟨i0, hi, hz0, hz1, hz2⟩ := info_parts Try.info3
            go_wp2_with (at_builtin; refine wpList_append_own_at _ rfl _ _ 27 rfl (T + 1) 3 i0 (.int .i64 0) 1 8 Try.underlying27 hi hz0 hz1 hz2 rfl (by decide) sl5 s2.stocks.length (s2.stocks.map (Value.int .i64)) rfl (HPT5.out.2.1.alloc _) ⟨W5.heap.size, 0, none⟩ 1 1 [.int .i64 (st2 - nk)] rfl rfl ?c1 ?c2 ?c3 ?c4 ?c5 ?_)
            case c1 => exact cell_one_new _ _ _
            case c2 => intro u hu; simp at hu; subst hu; rfl
            case c3 => have := HLEN.out.1; unfold maxLen; omega
            case c4 => have := HLEN.out.1; omega
            case c5 => have := lt_of_block HPT5.out.1; rw [World.size_alloc]; omega
            intro v6 w6 hown6 hgrow6 _ hv6
            obtain ⟨g6, cap6, rfl⟩ := ownsRow_succ hown6
            obtain ⟨hpw6, hpt6, hh6⟩ := hpw5.out.push0 HPT5.out _ hown6 hgrow6 (by rw [World.size_alloc]; exact hv6)
            have z0 := hh6.trans HPT5.out.1
            have y0 := blk_cell z0 0 rfl
            have y0f := blk_free (j := 0) z0
            have HPP := Lib.hid (And.intro hpw6 hpt6)
            clear hpw6 hpt6 hh6 z0 hown6 hgrow6 hv6 q0 r0
            go_upto_region 20 with (fail)
            clear y0 y0f
            have hpw6 := HPP.out.1
            have hpt6 := HPP.out.2
            clear HPP
            generalize w6.setCell ⟨T, 0, none⟩ (.slice (some ⟨g6, 0, none⟩) (s2.stocks.length + 1) cap6) = W6 at hpw6 hpt6 ⊢
            have HPW6 := Lib.hid hpw6
            have HPT6 := Lib.hid hpt6
            have y1 := blk_cell hpt6.1 1 rfl
            have y1f := blk_free (j := 1) hpt6.1
            clear hpw6 hpt6
            go_wp2_with (at_builtin; refine wpList_append_own_at _ rfl _ _ 27 rfl (T + 1) 3 i0 (.int .i64 0) 1 8 Try.underlying27 hi hz0 hz1 hz2 rfl (by decide) ml5 s2.made.length (s2.made.map (Value.int .i64)) rfl (HPT6.out.2.2.1.alloc _) ⟨W6.heap.size, 0, none⟩ 1 1 [.int .i64 ma] rfl rfl (cell_one_new _ _ _) (by intro u hu; simp at hu; subst hu; rfl) (by have := HLEN.out.2; unfold maxLen; omega) (by have := HLEN.out.2; omega) (by have := lt_of_block HPT6.out.1; rw [World.size_alloc]; omega) ?_)
            intro v7 w7 hown7 hgrow7 _ hv7
            obtain ⟨g7, cap7, rfl⟩ := ownsRow_succ hown7
            obtain ⟨hpw7, hh7⟩ := HPW6.out.push1 HPT6.out _ hown7 hgrow7 (by rw [World.size_alloc]; exact hv7)
            have z1 := hh7.trans HPT6.out.1
            have y2 := blk_cell z1 1 rfl
            have y2f := blk_free (j := 1) z1
            have HPW7 := Lib.hid hpw7
            clear hpw7 hh7 z1 hown7 hgrow7 hv7 y1 y1f
            have hk1 := HLT.out
            have hk2 := HHn.out
            go_wp2
            go_roundw
            case rel => exact ⟨k + 1, ⟨st2 - nk, s2.stocks ++ [st2 - nk], s2.made ++ [ma], -1, s2.full⟩, F7, HLT.out, by have := HHn.out; have := HLT.out; go_num, HEQ.out.symm, rfl, rfl, ⟨bst4.1, by have := HB3.out.2.2.1; have := BST.out; show st2 - nk ≤ store; omega⟩, HEQF.out, ⟨HPW7.out.b, HPW7.out.hT, HPW7.out.sp, HPW7.out.rs, by have h := HPW7.out.t; rw [HFL.out] at h; exact h⟩⟩
            case measure => have := HLT.out; have := HHn.out; simp [intOf]; omega
      · go_upto_region 11 with (fail)
        have hpw3 : Hid (PV w T (sv stock store a n cap (some ⟨bn, on, none⟩) n cn (some ⟨bm, om, none⟩) n cm (some ⟨bl, ol, none⟩) n cl) ⟨s.stock, s.stocks, s.made, s.fails, if ma < mk then (k : Int) else s.full⟩ F k W1) := by show PV _ _ _ _ _ _ _; rw [if_neg hfu]; exact hpw2.out
        clear hpw2
        generalize W1 = W2 at hpw3 ⊢
        clear hfu
        generalize hs2' : (⟨s.stock, s.stocks, s.made, s.fails, if ma < mk then (k : Int) else s.full⟩ : Ps) = s2 at hpw3
        have hs2 := Lib.hid hs2'
        clear hs2'
        go_upto_region 13 with (fail)
        generalize hst2 : s.stock + (ma - lo) = st2
        have HST := Lib.hid hst2
        have bst : 0 ≤ st2 ∧ st2 ≤ store ∧ store ≤ 1000000 := by omega
        have HBL := Lib.hid (And.intro blo (And.intro bma b1))
        clear hst2 blo bma b1 b2 b3
        by_cases hfa : st2 < nk
        · skip
          have HF : Hid (playL stock store N M L n = ⟨s2.stock, s2.stocks, s2.made, k, s2.full⟩) := by
            show _ = _
            have h1 : playL stock store N M L (k + 1) = ⟨s2.stock, s2.stocks, s2.made, k, s2.full⟩ := by
              rw [HSTEP.out, stepP, if_pos hf.out, HMA.out, HLO.out, if_pos (by rw [HST.out]; exact hfa), ← hs2.out]
            rw [← h1]
            exact playL_stop _ _ _ _ _ _ (by rw [h1]; show (k : Int) ≠ -1; omega) _ (by omega)
          have HFP : Hid (pileL stock store N M L n = F) := by
            show _ = _
            have h1 : playL stock store N M L (k + 1) = ⟨s2.stock, s2.stocks, s2.made, k, s2.full⟩ := by
              rw [HSTEP.out, stepP, if_pos hf.out, HMA.out, HLO.out, if_pos (by rw [HST.out]; exact hfa), ← hs2.out]
            rw [pileL_stop stock store N M L (k + 1) (by rw [h1]; show (k : Int) ≠ -1; omega) n (by omega), HPST.out, pileStep, if_pos hf.out, HMA.out, HLO.out, if_pos (by rw [HST.out]; exact hfa)]
          obtain ⟨W3, hW3⟩ : ∃ W3, W2.setCell ⟨T, 3, none⟩ (.int .i64 k) = W3 := ⟨_, rfl⟩
          have hpw4 : Hid (PV w T (sv stock store a n cap (some ⟨bn, on, none⟩) n cn (some ⟨bm, om, none⟩) n cm (some ⟨bl, ol, none⟩) n cl) ⟨s2.stock, s2.stocks, s2.made, k, s2.full⟩ F k W3) := by rw [← hW3]; exact hpw3.out.put 3 k ⟨rfl, rfl⟩ (.inl ⟨rfl, rfl, rfl⟩)
          have g3 := hpw3.out.free.2.1 3
          have g4 := hpw3.out.free.2.2.2
          obtain ⟨_, _, _, hT2, _⟩ := hpw3.out.t
          have t3 := blk_cell hT2 3 rfl
          clear hT2
          obtain ⟨sa, sc, ma', mc, pa2, pc, hTc, HC, HO⟩ := hpw4.out.endC
          have r0 := hpw4.out.rs
          have b0 := blk_cell r0 0 rfl
          have b1 := blk_cell r0 1 rfl
          have b2 := blk_cell r0 2 rfl
          have b3 := blk_cell r0 3 rfl
          have b4 := blk_cell r0 4 rfl
          have f0 := blk_free (j := 0) r0
          have f1 := blk_free (j := 1) r0
          have f2 := blk_free (j := 2) r0
          have f3 := blk_free (j := 3) r0
          have f4 := blk_free (j := 4) r0
          have e0 := blk_cell hTc 0 rfl
          have e1 := blk_cell hTc 1 rfl
          have e2 := blk_cell hTc 2 rfl
          have e3 := blk_cell hTc 3 rfl
          have e4 := blk_cell hTc 4 rfl
          clear hTc r0
          go_wp2_with (fail)
          clear b0 b1 b2 b3 b4 f0 f1 f2 f3 f4 e0 e1 e2 e3 e4
          try rw [Exit.noGoto_ret]
          generalize (((((W3.setCell ⟨w.heap.size + 1, 0, none⟩ (.slice sa s2.stocks.length sc)).setCell ⟨w.heap.size + 1, 1, none⟩ (.slice ma' s2.made.length mc)).setCell ⟨w.heap.size + 1, 2, none⟩ (.slice pa2 F.length pc)).setCell ⟨w.heap.size + 1, 3, none⟩ (.int .i64 k)).setCell ⟨w.heap.size + 1, 4, none⟩ (.int .i64 s2.full)) = W5 at HC HO ⊢
          have q0 := blk_cell HC.out 0 rfl
          have q1 := blk_cell HC.out 1 rfl
          have q2 := blk_cell HC.out 2 rfl
          have q3 := blk_cell HC.out 3 rfl
          have q4 := blk_cell HC.out 4 rfl
          refine bodyPost_ret (v := .agg #[.slice sa s2.stocks.length sc, .slice ma' s2.made.length mc, .slice pa2 F.length pc, .int .i64 k, .int .i64 s2.full]) (by simp [results, Try.results101, go_sem, q0, q1, q2, q3, q4]) rfl ?_
          rw [HF.out, HFP.out]
          exact HO.out

        · have bst4 : 0 ≤ st2 - nk ∧ st2 - nk ≤ 1000000 := by have := HB3.out.2.2.1; omega
          have BST := Lib.hid bst
          obtain ⟨sl, ml, pl, hTc, hO1, hO2, hO3, hnp2, hdis⟩ := hpw3.out.t
          obtain ⟨pa3, pc3, rfl, _⟩ := flats_of_owns hO3
          have HF := Lib.hid (owns_form hO3)
          have p2 := blk_cell hTc 2 rfl
          have p3 := blk_free (j := 2) hTc
          have HNP := Lib.hid hnp2
          have HTc := Lib.hid hTc
          have hTlt := lt_of_block hTc
          have HHn := Lib.hid hn'
          clear hTc hO1 hO2 hO3 hnp2 hdis bst hn'
          by_cases hmd : 0 < ma
          · go_wp2_with (fail)
            have HC5 := drained_piles pa3 F F.length pc3 lo _ HF.out.1 rfl HF.out.2.2.2.1 HF.out.2.2.2.2.1 (by have := HNP.out; have := HHn.out; omega) (by have := HBL.out; have := HB3.out; omega) (pil_bd HPB.out (by have := HB3.out; omega))
            obtain ⟨F5, hF5⟩ : ∃ F5, drainS F lo = F5 := ⟨_, rfl⟩
            have hnp5 : F5.length ≤ F.length := by rw [← hF5]; exact drainS_len _ _
            rw [hF5] at HC5
            refine HC5.mono ?_
            rintro e w5 ⟨pa5, pc5, rfl, hO5, hb5⟩
            clear HC5
            have HF5 := Lib.hid hF5
            clear hF5
            obtain ⟨j0, hj, hjz0, hjz1, hjz2⟩ := info_parts Try.info106
            have HNP5 : Hid (F5.length ≤ k + 1 ∧ k + 1 ≤ 61) := by have := HNP.out; have := HHn.out; have := HLT.out; exact ⟨by omega, by omega⟩
            have HO5 := Lib.hid hO5
            have HB5 := Lib.hid hb5
            clear hO5 hb5 hnp5 p2 p3
            go_wp2_with (at_builtin; refine wpList_append_own_at _ rfl _ _ 102 rfl W2.heap.size 106 j0 (.agg #[.int .i64 0, .int .i64 0]) 2 16 Try.underlying102 hj hjz0 hjz1 hjz2 rfl (by decide) (.slice pa5 F5.length pc5) F5.length ((flatS F5).map (Value.int .i64)) rfl (HO5.out.alloc _) ⟨w5.heap.size, 0, none⟩ 1 1 [.int .i64 k, .int .i64 ma] rfl rfl (cell_two_new _ _ _ _) (by intro u hu; simp at hu; rcases hu with rfl | rfl <;> rfl) (by have := HNP5.out; unfold maxLen; omega) (by have := HNP5.out; omega) (by have := HB5.out.size; rw [World.size_alloc]; omega) ?_)
            intro v6 w6 hown6 hgrow6 _ hv6
            obtain ⟨g6, cap6, rfl⟩ := ownsRow_succ hown6
            have hb6 : Below W2.heap.size W2 w6 := (HB5.out.alloc HB5.out.size _).grown hgrow6 (by rw [World.size_alloc]; have := HB5.out.size; omega) (fun j hj => (HO5.out.lt j hj).1)
            have hown6' : w6.ownsRow W2.heap.size 106 2 (.slice (some ⟨g6, 0, none⟩) (F5.length + 1) cap6) (F5 ++ [(⟨k, ma⟩ : Sp)]).length ((flatS (F5 ++ [(⟨k, ma⟩ : Sp)])).map (Value.int .i64)) := by rw [flatS_append, List.length_append]; simpa [flatS_cons, show flatS [] = [] from rfl] using hown6
            have HPB6 := Lib.hid (pil_bd2 (k := (k : Int)) HPB.out (by have := HBL.out; exact ⟨this.1.1, this.1.2⟩) hmd (by have := HBL.out; have := HB3.out; omega))
            obtain ⟨F6, hF6⟩ : ∃ F6, F5 ++ [(⟨k, ma⟩ : Sp)] = F6 := ⟨_, rfl⟩
            have hF6l : F6.length = F5.length + 1 := by rw [← hF6]; simp
            rw [HF5.out, hF6] at HPB6
            rw [hF6] at hown6'
            have hpw6 := Lib.hid (hpw3.out.piles (k' := k + 1) hb6 hown6' (by have := HNP5.out; omega))
            have HF6 := Lib.hid hF6
            clear hF6 hF6l
            have t6 := blk_below HTc.out hb6
            have y6 := blk_cell t6 2 rfl
            have y6f := blk_free (j := 2) t6
            clear t6 hown6' hb6 hown6 hgrow6 hv6
            go_upto_region 17 with (fail)
            generalize w6.setCell ⟨T, 2, none⟩ (.slice (some ⟨g6, 0, none⟩) (F5.length + 1) cap6) = W6 at hpw6 ⊢
            clear y6 y6f
            obtain ⟨sl6, ml6, pl6, hTc6, _, _, hO6, hnp6, _⟩ := hpw6.out.t
            obtain ⟨pa6, pc6, rfl, _⟩ := flats_of_owns hO6
            have HG6 := Lib.hid (owns_form hO6)
            have p2 := blk_cell hTc6 2 rfl
            have p3 := blk_free (j := 2) hTc6
            have HNP6 := Lib.hid hnp6
            have HTc6 := Lib.hid hTc6
            have hTlt6 := lt_of_block hTc6
            clear hTc6 hO6 hnp6
            go_wp2_with (fail)
            have HC7 := drained_piles pa6 F6 F6.length pc6 nk W6 HG6.out.1 rfl HG6.out.2.2.2.1 HG6.out.2.2.2.2.1 (by have := HNP6.out; have := HNP5.out; omega) (by have := HB3.out; omega) HPB6.out
            obtain ⟨F7, hF7⟩ : ∃ F7, drainS F6 nk = F7 := ⟨_, rfl⟩
            have hnp7 : F7.length ≤ F6.length := by rw [← hF7]; exact drainS_len _ _
            rw [hF7] at HC7
            refine HC7.mono ?_
            rintro e w7 ⟨pa7, pc7, rfl, hO7, hb7⟩
            clear HC7
            have HEQF : Hid (F7 = pileL stock store N M L (k + 1)) := by
              show _ = _
              rw [HPST.out, pileStep, if_pos hf.out, HMA.out, HLO.out, HST.out, if_neg (by omega), if_pos hmd, HF5.out, HF6.out, hF7]
            clear hF7
            have hpw5 := Lib.hid (hpw6.out.piles (k' := k + 1) hb7 hO7 (by have := HNP6.out; omega))
            have p5 := blk_free (j := 2) (blk_below HTc6.out hb7)
            have p6 := blk_cell (blk_below HTc6.out hb7) 2 rfl
            clear hb7 hO7 hnp7 p2 p3
            go_upto_region 19 with (fail)
            generalize w7.setCell ⟨T, 2, none⟩ (.slice pa7 F7.length pc7) = W5 at hpw5 ⊢
            clear p5 p6
            have HLEN : Hid (s2.stocks.length ≤ 60 ∧ s2.made.length ≤ 60) := by
              have h1 := playL_len stock store N M L k
              rw [← hs.out] at h1
              have h2 := HHn.out
              show _ ∧ _
              rw [← hs2.out]
              exact ⟨by show s.stocks.length ≤ 60; omega, by show s.made.length ≤ 60; omega⟩
            have HEQ : Hid (playL stock store N M L (k + 1) = ⟨st2 - nk, s2.stocks ++ [st2 - nk], s2.made ++ [ma], -1, s2.full⟩) := by
              show _ = _
              rw [HSTEP.out, stepP, if_pos hf.out, HMA.out, HLO.out, HST.out, if_neg (by omega), ← hs2.out]
            have HFL : Hid (s2.fails = -1) := by show _ = _; rw [← hs2.out]; exact hf.out
            obtain ⟨sl5, ml5, pl5, PT5⟩ := hpw5.out.t
            have HPT5 : Hid (PT w T s2 (k + 1) W5 sl5 ml5 pl5 F7.length (flatS F7)) := PT5
            have q0 := blk_cell PT5.1 0 rfl
            have r0 := blk_free (j := 0) PT5.1
            clear PT5
            obtain ⟨i0, hi, hz0, hz1, hz2⟩ := info_parts Try.info3
            go_wp2_with (at_builtin; refine wpList_append_own_at _ rfl _ _ 27 rfl (T + 1) 3 i0 (.int .i64 0) 1 8 Try.underlying27 hi hz0 hz1 hz2 rfl (by decide) sl5 s2.stocks.length (s2.stocks.map (Value.int .i64)) rfl (HPT5.out.2.1.alloc _) ⟨W5.heap.size, 0, none⟩ 1 1 [.int .i64 (st2 - nk)] rfl rfl ?c1 ?c2 ?c3 ?c4 ?c5 ?_)
            case c1 => exact cell_one_new _ _ _
            case c2 => intro u hu; simp at hu; subst hu; rfl
            case c3 => have := HLEN.out.1; unfold maxLen; omega
            case c4 => have := HLEN.out.1; omega
            case c5 => have := lt_of_block HPT5.out.1; rw [World.size_alloc]; omega
            intro v6 w6 hown6 hgrow6 _ hv6
            obtain ⟨g6, cap6, rfl⟩ := ownsRow_succ hown6
            obtain ⟨hpw6, hpt6, hh6⟩ := hpw5.out.push0 HPT5.out _ hown6 hgrow6 (by rw [World.size_alloc]; exact hv6)
            have z0 := hh6.trans HPT5.out.1
            have y0 := blk_cell z0 0 rfl
            have y0f := blk_free (j := 0) z0
            have HPP := Lib.hid (And.intro hpw6 hpt6)
            clear hpw6 hpt6 hh6 z0 hown6 hgrow6 hv6 q0 r0
            go_upto_region 20 with (fail)
            clear y0 y0f
            have hpw6 := HPP.out.1
            have hpt6 := HPP.out.2
            clear HPP
            generalize w6.setCell ⟨T, 0, none⟩ (.slice (some ⟨g6, 0, none⟩) (s2.stocks.length + 1) cap6) = W6 at hpw6 hpt6 ⊢
            have HPW6 := Lib.hid hpw6
            have HPT6 := Lib.hid hpt6
            have y1 := blk_cell hpt6.1 1 rfl
            have y1f := blk_free (j := 1) hpt6.1
            clear hpw6 hpt6
            go_wp2_with (at_builtin; refine wpList_append_own_at _ rfl _ _ 27 rfl (T + 1) 3 i0 (.int .i64 0) 1 8 Try.underlying27 hi hz0 hz1 hz2 rfl (by decide) ml5 s2.made.length (s2.made.map (Value.int .i64)) rfl (HPT6.out.2.2.1.alloc _) ⟨W6.heap.size, 0, none⟩ 1 1 [.int .i64 ma] rfl rfl (cell_one_new _ _ _) (by intro u hu; simp at hu; subst hu; rfl) (by have := HLEN.out.2; unfold maxLen; omega) (by have := HLEN.out.2; omega) (by have := lt_of_block HPT6.out.1; rw [World.size_alloc]; omega) ?_)
            intro v7 w7 hown7 hgrow7 _ hv7
            obtain ⟨g7, cap7, rfl⟩ := ownsRow_succ hown7
            obtain ⟨hpw7, hh7⟩ := HPW6.out.push1 HPT6.out _ hown7 hgrow7 (by rw [World.size_alloc]; exact hv7)
            have z1 := hh7.trans HPT6.out.1
            have y2 := blk_cell z1 1 rfl
            have y2f := blk_free (j := 1) z1
            have HPW7 := Lib.hid hpw7
            clear hpw7 hh7 z1 hown7 hgrow7 hv7 y1 y1f
            have hk1 := HLT.out
            have hk2 := HHn.out
            go_wp2
            go_roundw
            case rel => exact ⟨k + 1, ⟨st2 - nk, s2.stocks ++ [st2 - nk], s2.made ++ [ma], -1, s2.full⟩, F7, HLT.out, by have := HHn.out; have := HLT.out; go_num, HEQ.out.symm, rfl, rfl, ⟨bst4.1, by have := HB3.out.2.2.1; have := BST.out; show st2 - nk ≤ store; omega⟩, HEQF.out, ⟨HPW7.out.b, HPW7.out.hT, HPW7.out.sp, HPW7.out.rs, by have h := HPW7.out.t; rw [HFL.out] at h; exact h⟩⟩
            case measure => have := HLT.out; have := HHn.out; simp [intOf]; omega
          · go_wp2_with (fail)
            rw [wrap_small (x := lo + nk) (by have := HBL.out; have := HB3.out; omega)]
            have HC5 := drained_piles pa3 F F.length pc3 (lo + nk) W2 HF.out.1 rfl HF.out.2.2.2.1 HF.out.2.2.2.2.1 (by have := HNP.out; have := HHn.out; omega) (by have := HBL.out; have := HB3.out; omega) (pil_bd HPB.out (by have := HB3.out; omega))
            obtain ⟨F7, hF7⟩ : ∃ F7, drainS F (lo + nk) = F7 := ⟨_, rfl⟩
            have hnp5 : F7.length ≤ F.length := by rw [← hF7]; exact drainS_len _ _
            rw [hF7] at HC5
            refine HC5.mono ?_
            rintro e w5 ⟨pa5, pc5, rfl, hO5, hb5⟩
            clear HC5
            have HEQF : Hid (F7 = pileL stock store N M L (k + 1)) := by
              show _ = _
              rw [HPST.out, pileStep, if_pos hf.out, HMA.out, HLO.out, HST.out, if_neg (by omega), if_neg (show ¬ 0 < ma by omega), hF7]
            clear hF7
            have hpw5 := Lib.hid (hpw3.out.piles (k' := k + 1) hb5 hO5 (by have := HNP.out; omega))
            have p5 := blk_free (j := 2) (blk_below HTc.out hb5)
            have p6 := blk_cell (blk_below HTc.out hb5) 2 rfl
            clear hb5 hO5 hnp5 p2 p3
            go_upto_region 19 with (fail)
            generalize w5.setCell ⟨T, 2, none⟩ (.slice pa5 F7.length pc5) = W5 at hpw5 ⊢
            clear p5 p6
            have HLEN : Hid (s2.stocks.length ≤ 60 ∧ s2.made.length ≤ 60) := by
              have h1 := playL_len stock store N M L k
              rw [← hs.out] at h1
              have h2 := HHn.out
              show _ ∧ _
              rw [← hs2.out]
              exact ⟨by show s.stocks.length ≤ 60; omega, by show s.made.length ≤ 60; omega⟩
            have HEQ : Hid (playL stock store N M L (k + 1) = ⟨st2 - nk, s2.stocks ++ [st2 - nk], s2.made ++ [ma], -1, s2.full⟩) := by
              show _ = _
              rw [HSTEP.out, stepP, if_pos hf.out, HMA.out, HLO.out, HST.out, if_neg (by omega), ← hs2.out]
            have HFL : Hid (s2.fails = -1) := by show _ = _; rw [← hs2.out]; exact hf.out
            obtain ⟨sl5, ml5, pl5, PT5⟩ := hpw5.out.t
            have HPT5 : Hid (PT w T s2 (k + 1) W5 sl5 ml5 pl5 F7.length (flatS F7)) := PT5
            have q0 := blk_cell PT5.1 0 rfl
            have r0 := blk_free (j := 0) PT5.1
            clear PT5
            obtain ⟨i0, hi, hz0, hz1, hz2⟩ := info_parts Try.info3
            go_wp2_with (at_builtin; refine wpList_append_own_at _ rfl _ _ 27 rfl (T + 1) 3 i0 (.int .i64 0) 1 8 Try.underlying27 hi hz0 hz1 hz2 rfl (by decide) sl5 s2.stocks.length (s2.stocks.map (Value.int .i64)) rfl (HPT5.out.2.1.alloc _) ⟨W5.heap.size, 0, none⟩ 1 1 [.int .i64 (st2 - nk)] rfl rfl ?c1 ?c2 ?c3 ?c4 ?c5 ?_)
            case c1 => exact cell_one_new _ _ _
            case c2 => intro u hu; simp at hu; subst hu; rfl
            case c3 => have := HLEN.out.1; unfold maxLen; omega
            case c4 => have := HLEN.out.1; omega
            case c5 => have := lt_of_block HPT5.out.1; rw [World.size_alloc]; omega
            intro v6 w6 hown6 hgrow6 _ hv6
            obtain ⟨g6, cap6, rfl⟩ := ownsRow_succ hown6
            obtain ⟨hpw6, hpt6, hh6⟩ := hpw5.out.push0 HPT5.out _ hown6 hgrow6 (by rw [World.size_alloc]; exact hv6)
            have z0 := hh6.trans HPT5.out.1
            have y0 := blk_cell z0 0 rfl
            have y0f := blk_free (j := 0) z0
            have HPP := Lib.hid (And.intro hpw6 hpt6)
            clear hpw6 hpt6 hh6 z0 hown6 hgrow6 hv6 q0 r0
            go_upto_region 20 with (fail)
            clear y0 y0f
            have hpw6 := HPP.out.1
            have hpt6 := HPP.out.2
            clear HPP
            generalize w6.setCell ⟨T, 0, none⟩ (.slice (some ⟨g6, 0, none⟩) (s2.stocks.length + 1) cap6) = W6 at hpw6 hpt6 ⊢
            have HPW6 := Lib.hid hpw6
            have HPT6 := Lib.hid hpt6
            have y1 := blk_cell hpt6.1 1 rfl
            have y1f := blk_free (j := 1) hpt6.1
            clear hpw6 hpt6
            go_wp2_with (at_builtin; refine wpList_append_own_at _ rfl _ _ 27 rfl (T + 1) 3 i0 (.int .i64 0) 1 8 Try.underlying27 hi hz0 hz1 hz2 rfl (by decide) ml5 s2.made.length (s2.made.map (Value.int .i64)) rfl (HPT6.out.2.2.1.alloc _) ⟨W6.heap.size, 0, none⟩ 1 1 [.int .i64 ma] rfl rfl (cell_one_new _ _ _) (by intro u hu; simp at hu; subst hu; rfl) (by have := HLEN.out.2; unfold maxLen; omega) (by have := HLEN.out.2; omega) (by have := lt_of_block HPT6.out.1; rw [World.size_alloc]; omega) ?_)
            intro v7 w7 hown7 hgrow7 _ hv7
            obtain ⟨g7, cap7, rfl⟩ := ownsRow_succ hown7
            obtain ⟨hpw7, hh7⟩ := HPW6.out.push1 HPT6.out _ hown7 hgrow7 (by rw [World.size_alloc]; exact hv7)
            have z1 := hh7.trans HPT6.out.1
            have y2 := blk_cell z1 1 rfl
            have y2f := blk_free (j := 1) z1
            have HPW7 := Lib.hid hpw7
            clear hpw7 hh7 z1 hown7 hgrow7 hv7 y1 y1f
            have hk1 := HLT.out
            have hk2 := HHn.out
            go_wp2
            go_roundw
            case rel => exact ⟨k + 1, ⟨st2 - nk, s2.stocks ++ [st2 - nk], s2.made ++ [ma], -1, s2.full⟩, F7, HLT.out, by have := HHn.out; have := HLT.out; go_num, HEQ.out.symm, rfl, rfl, ⟨bst4.1, by have := HB3.out.2.2.1; have := BST.out; show st2 - nk ≤ store; omega⟩, HEQF.out, ⟨HPW7.out.b, HPW7.out.hT, HPW7.out.sp, HPW7.out.rs, by have h := HPW7.out.t; rw [HFL.out] at h; exact h⟩⟩
            case measure => have := HLT.out; have := HHn.out; simp [intOf]; omega
    · have : k = n := by omega
      subst this
      clear hlt
      obtain ⟨sa, sc, ma, mc, pa2, pc, hTc, HC, HO⟩ := hpw.out.endC
      have r0 := hpw.out.rs
      have b0 := blk_cell r0 0 rfl
      have b1 := blk_cell r0 1 rfl
      have b2 := blk_cell r0 2 rfl
      have b3 := blk_cell r0 3 rfl
      have b4 := blk_cell r0 4 rfl
      have f0 := blk_free (j := 0) r0
      have f1 := blk_free (j := 1) r0
      have f2 := blk_free (j := 2) r0
      have f3 := blk_free (j := 3) r0
      have f4 := blk_free (j := 4) r0
      have e0 := blk_cell hTc 0 rfl
      have e1 := blk_cell hTc 1 rfl
      have e2 := blk_cell hTc 2 rfl
      have e3 := blk_cell hTc 3 rfl
      have e4 := blk_cell hTc 4 rfl
      clear hTc r0
      go_wp2_with (fail)
      clear b0 b1 b2 b3 b4 f0 f1 f2 f3 f4 e0 e1 e2 e3 e4
      try rw [Exit.noGoto_ret]
      generalize (((((wr.setCell ⟨w.heap.size + 1, 0, none⟩ (.slice sa s.stocks.length sc)).setCell ⟨w.heap.size + 1, 1, none⟩ (.slice ma s.made.length mc)).setCell ⟨w.heap.size + 1, 2, none⟩ (.slice pa2 F.length pc)).setCell ⟨w.heap.size + 1, 3, none⟩ (.int .i64 s.fails)).setCell ⟨w.heap.size + 1, 4, none⟩ (.int .i64 s.full)) = W5 at HC HO ⊢
      have q0 := blk_cell HC.out 0 rfl
      have q1 := blk_cell HC.out 1 rfl
      have q2 := blk_cell HC.out 2 rfl
      have q3 := blk_cell HC.out 3 rfl
      have q4 := blk_cell HC.out 4 rfl
      refine bodyPost_ret (v := .agg #[.slice sa s.stocks.length sc, .slice ma s.made.length mc, .slice pa2 F.length pc, .int .i64 s.fails, .int .i64 s.full]) (by simp [results, Try.results101, go_sem, q0, q1, q2, q3, q4]) rfl ?_
      rw [← hs.out, ← hF.out]
      exact HO.out

/-- What told hands back, with the piles. -/
def OutToldC (w : World) (x : Ps) (F : List Sp) (e : Ending) (w' : World) : Prop := ∃ sa sc ma mc pa pc, e = .returned (.tuple #[.agg #[.slice sa x.stocks.length sc, .slice ma x.made.length mc, .slice pa F.length pc, .int .i64 x.fails, .int .i64 x.full], .int .i64 0]) ∧ ((IntSl w' sa x.stocks ∧ x.stocks.length ≤ sc) ∧ ∀ p, sa = some p → w.heap.size ≤ p.block) ∧ (IntSl w' ma x.made ∧ ∀ p, ma = some p → w.heap.size ≤ p.block) ∧ (IntSl w' pa (flatS F) ∧ ∀ p, pa = some p → w.heap.size ≤ p.block) ∧ Below w.heap.size w w'
set_option maxRecDepth 100000 in
set_option maxHeartbeats 2000000 in
theorem told_caps (stock store : Int) (a : Option Addr) (ds : List Dy) (cap : Nat) (an : Option Addr) (N : List Int) (cn : Nat) (am : Option Addr) (M : List Int) (cm : Nat) (al : Option Addr) (L : List Int) (cl : Nat) (w : World)
    (hx : Sl 6 Dy.cells w a ds) (hN : IntSl w an N) (hM : IntSl w am M) (hL : IntSl w al L) (hw : winE stock store ds = 0) (hs : Sky ds N M L) :
    Calls Try.prog 105 #[wv stock store a ds.length cap, tv an ds.length cn am ds.length cm al ds.length cl] w (OutToldC w (playL stock store N M L ds.length) (pileL stock store N M L ds.length)) := by
  have HX := Lib.hid (And.intro hx (And.intro hN (And.intro hM (And.intro hL (And.intro hw hs)))))
  obtain ⟨b1, b2, b3⟩ := win_ok hw
  have HOK := Lib.hid (And.intro b1 (And.intro b2 b3))
  clear hx hN hM hL hw hs b1 b2 b3
  generalize hS : playL stock store N M L ds.length = s
  have HS := Lib.hid hS
  clear hS
  generalize hG : pileL stock store N M L ds.length = F
  have HG := Lib.hid hG
  clear hG
  obtain ⟨Wa, hWa⟩ : ∃ Wa, ((w.alloc (.cells #[.int .i64 stock, .int .i64 store, .slice a ds.length cap] 60)).alloc (.cells #[.slice an ds.length cn, .slice am ds.length cm, .slice al ds.length cl] 88)).alloc (.cells #[.slice none 0 0, .slice none 0 0, .slice none 0 0, .int .i64 0, .int .i64 0] 146) = Wa := ⟨_, rfl⟩
  have hba : Below w.heap.size w Wa := by rw [← hWa]; exact (((Below.refl _ _).alloc (Nat.le_refl _) _).alloc (by simp) _).alloc (by simp; omega) _
  have h0 : Wa.heap[w.heap.size]? = some (.cells #[.int .i64 stock, .int .i64 store, .slice a ds.length cap] 60 (0, 0)) := by rw [← hWa]; exact alk (alk (new_at rfl))
  have h1 : Wa.heap[w.heap.size + 1]? = some (.cells #[.slice an ds.length cn, .slice am ds.length cm, .slice al ds.length cl] 88 (0, 0)) := by rw [← hWa]; exact alk (new_at (by simp))
  have h2 : Wa.heap[w.heap.size + 1 + 1]? = some (.cells #[.slice none 0 0, .slice none 0 0, .slice none 0 0, .int .i64 0, .int .i64 0] 146 (0, 0)) := by rw [← hWa]; exact new_at (by simp)
  have a0 := blk_cell h0 0 rfl
  have a1 := blk_cell h0 1 rfl
  have a2 := blk_cell h0 2 rfl
  have HW0 := Lib.hid (And.intro hba (And.intro h0 (And.intro h1 h2)))
  clear hba h0 h1 h2
  go_enter Try.func105, Try.ntmps105
  go_wp2_with (fail)
  clear hWa a0 a1 a2
  refine (checkWinter_any stock store a ds cap _ (HX.out.1.below HW0.out.1) (by have := HOK.out.2.1.2; omega)).mono ?_
  rintro e w1 ⟨rfl, hb1⟩
  rw [HX.out.2.2.2.2.1]
  have H1 := Lib.hid (And.intro (below_self HW0.out.1 hb1) (And.intro (blk_below HW0.out.2.1 hb1) (And.intro (blk_below HW0.out.2.2.1 hb1) (blk_below HW0.out.2.2.2 hb1))))
  clear hb1
  have a0 := blk_cell H1.out.2.1 0 rfl
  have a1 := blk_cell H1.out.2.1 1 rfl
  have a2 := blk_cell H1.out.2.1 2 rfl
  have a3 := blk_cell H1.out.2.2.1 0 rfl
  have a4 := blk_cell H1.out.2.2.1 1 rfl
  have a5 := blk_cell H1.out.2.2.1 2 rfl
  go_wp2_with (fail)
  clear a0 a1 a2 a3 a4 a5
  have HC := checkWeather_any stock store a ds cap an N cn am M cm al L cl w1 (HX.out.1.below H1.out.1) HOK.out.2.1.2 (HX.out.2.1.below H1.out.1) (HX.out.2.2.1.below H1.out.1) (HX.out.2.2.2.1.below H1.out.1) HX.out.2.2.2.2.2
  rw [HX.out.2.2.2.2.2.1.1, HX.out.2.2.2.2.2.1.2.1, HX.out.2.2.2.2.2.1.2.2] at HC
  refine HC.mono ?_
  rintro e w2 ⟨rfl, hb2⟩
  have H2 := Lib.hid (And.intro (below_self H1.out.1 hb2) (And.intro (blk_below H1.out.2.1 hb2) (And.intro (blk_below H1.out.2.2.1 hb2) (blk_below H1.out.2.2.2 hb2))))
  clear hb2 HC
  have a0 := blk_cell H2.out.2.1 0 rfl
  have a1 := blk_cell H2.out.2.1 1 rfl
  have a2 := blk_cell H2.out.2.1 2 rfl
  have a3 := blk_cell H2.out.2.2.1 0 rfl
  have a4 := blk_cell H2.out.2.2.1 1 rfl
  have a5 := blk_cell H2.out.2.2.1 2 rfl
  have y0 := blk_free (j := 0) H2.out.2.2.2
  have y1 := blk_free (j := 1) H2.out.2.2.2
  have y2 := blk_free (j := 2) H2.out.2.2.2
  have y3 := blk_free (j := 3) H2.out.2.2.2
  have y4 := blk_free (j := 4) H2.out.2.2.2
  go_wp2_with (fail)
  have HC := play_caps stock store a ds.length cap an N cn am M cm al L cl w2 (HX.out.2.1.below H2.out.1) (HX.out.2.2.1.below H2.out.1) (HX.out.2.2.2.1.below H2.out.1) HX.out.2.2.2.2.2.1.1 HX.out.2.2.2.2.2.1.2.1 HX.out.2.2.2.2.2.1.2.2 HOK.out.2.1.2 ⟨HOK.out.1.1, HOK.out.1.2.1, HOK.out.1.2.2.2⟩ (HX.out.2.2.2.2.2.bd HOK.out.2.2)
  rw [HS.out, HG.out] at HC
  refine HC.mono ?_
  rintro e w3 ⟨sa, sc, ma, mc, pa, pc, rfl, hs, hm, hp, hb3⟩
  have H3 := Lib.hid (And.intro (below_self H2.out.1 hb3) (And.intro (blk_below H2.out.2.2.2 hb3) (And.intro hs (And.intro hm (And.intro hp (lt_of_block H2.out.2.2.2))))))
  clear HC hb3 hs hm hp a0 a1 a2 a3 a4 a5 y0 y1 y2 y3 y4
  have z0 := blk_cell H3.out.2.1 0 rfl
  have z1 := blk_cell H3.out.2.1 1 rfl
  have z2 := blk_cell H3.out.2.1 2 rfl
  have z3 := blk_cell H3.out.2.1 3 rfl
  have z4 := blk_cell H3.out.2.1 4 rfl
  have y0 := blk_free (j := 0) H3.out.2.1
  have y1 := blk_free (j := 1) H3.out.2.1
  have y2 := blk_free (j := 2) H3.out.2.1
  have y3 := blk_free (j := 3) H3.out.2.1
  have y4 := blk_free (j := 4) H3.out.2.1
  go_wp2_with (fail)
  obtain ⟨p1, p2, p3, p4⟩ := five_put (v0 := .slice sa s.stocks.length sc) (v1 := .slice ma s.made.length mc) (v2 := .slice pa F.length pc) (v3 := .int .i64 s.fails) (v4 := .int .i64 s.full) H3.out.2.1 (show w.heap.size ≤ w.heap.size + 1 + 1 by omega) H3.out.1
  have q0 := blk_cell p2 0 rfl
  have q1 := blk_cell p2 1 rfl
  have q2 := blk_cell p2 2 rfl
  have q3 := blk_cell p2 3 rfl
  have q4 := blk_cell p2 4 rfl
  refine bodyPost_ret (v := .tuple #[.agg #[.slice sa s.stocks.length sc, .slice ma s.made.length mc, .slice pa F.length pc, .int .i64 s.fails, .int .i64 s.full], .int .i64 0]) (by simp [results, Try.results105, go_sem, q0, q1, q2, q3, q4]) rfl ?_
  have hlt := H3.out.2.2.2.2.2
  exact ⟨sa, sc, ma, mc, pa, pc, rfl, ⟨⟨ints_put H3.out.2.2.1.1.1 (Below.refl _ _) p3 p4 (fun p hp => by have := H3.out.2.2.1.2 p hp; omega), H3.out.2.2.1.1.2⟩, fun p hp => by have := H3.out.2.2.1.2 p hp; have := H2.out.1.size; omega⟩, ⟨ints_put H3.out.2.2.2.1.1 (Below.refl _ _) p3 p4 (fun p hp => by have := H3.out.2.2.2.1.2 p hp; omega), fun p hp => by have := H3.out.2.2.2.1.2 p hp; have := H2.out.1.size; omega⟩, ⟨ints_put H3.out.2.2.2.2.1.1 (Below.refl _ _) p3 p4 (fun p hp => by have := H3.out.2.2.2.2.1.2 p hp; omega), fun p hp => by have := H3.out.2.2.2.2.1.2 p hp; have := H2.out.1.size; omega⟩, p1⟩

section
variable (stock store : Int) (a : Option Addr) (ds : List Dy) (cap : Nat) (an : Option Addr) (N : List Int) (cn : Nat) (am : Option Addr) (M : List Int) (cm : Nat) (al : Option Addr) (L : List Int) (cl : Nat) (w : World)
  (hx : Sl 6 Dy.cells w a ds) (hN : IntSl w an N) (hM : IntSl w am M) (hL : IntSl w al L) (hw : winE stock store ds = 0) (hs : Sky ds N M L)
include hx hN hM hL hw hs

set_option maxRecDepth 100000 in
set_option maxHeartbeats 600000 in
theorem Stocks_cap : Calls Try.prog 56 #[wv stock store a ds.length cap, tv an ds.length cn am ds.length cm al ds.length cl] w fun e w' => ∃ b c, e = .returned (.tuple #[.slice b (playL stock store N M L ds.length).stocks.length c, .int .i64 0]) ∧ ((IntSl w' b (playL stock store N M L ds.length).stocks ∧ (playL stock store N M L ds.length).stocks.length ≤ c) ∧ ∀ p, b = some p → w.heap.size ≤ p.block) ∧ Below w.heap.size w w' := by
  have HX := Lib.hid (And.intro hx (And.intro hN (And.intro hM (And.intro hL (And.intro hw hs)))))
  clear hx hN hM hL hw hs
  generalize hS : playL stock store N M L ds.length = s
  have HS := Lib.hid hS
  clear hS
  generalize hG : pileL stock store N M L ds.length = F
  have HG := Lib.hid hG
  clear hG
  obtain ⟨Wa, hWa⟩ : ∃ Wa, (w.alloc (.cells #[.int .i64 stock, .int .i64 store, .slice a ds.length cap] 60)).alloc (.cells #[.slice an ds.length cn, .slice am ds.length cm, .slice al ds.length cl] 88) = Wa := ⟨_, rfl⟩
  have hba : Below w.heap.size w Wa := by rw [← hWa]; exact ((Below.refl _ _).alloc (Nat.le_refl _) _).alloc (by simp) _
  have h0 : Wa.heap[w.heap.size]? = some (.cells #[.int .i64 stock, .int .i64 store, .slice a ds.length cap] 60 (0, 0)) := by rw [← hWa]; exact alk (new_at rfl)
  have h1 : Wa.heap[w.heap.size + 1]? = some (.cells #[.slice an ds.length cn, .slice am ds.length cm, .slice al ds.length cl] 88 (0, 0)) := by rw [← hWa]; exact new_at (by simp)
  have a0 := blk_cell h0 0 rfl
  have a1 := blk_cell h0 1 rfl
  have a2 := blk_cell h0 2 rfl
  have a3 := blk_cell h1 0 rfl
  have a4 := blk_cell h1 1 rfl
  have a5 := blk_cell h1 2 rfl
  have HB := Lib.hid hba
  clear hba h0 h1
  go_enter Try.func56, Try.ntmps56
  go_wp2_with (fail)
  clear hWa a0 a1 a2 a3 a4 a5
  have HC := told_caps stock store a ds cap an N cn am M cm al L cl Wa (HX.out.1.below HB.out) (HX.out.2.1.below HB.out) (HX.out.2.2.1.below HB.out) (HX.out.2.2.2.1.below HB.out) HX.out.2.2.2.2.1 HX.out.2.2.2.2.2
  rw [HS.out, HG.out] at HC
  refine HC.mono ?_
  rintro e w1 ⟨sa, sc, ma, mc, pa, pc, rfl, hs, hm, hp, hb1⟩
  have H1 := Lib.hid (And.intro (below_self HB.out hb1) (And.intro hs hm))
  clear HC hb1 hs hm hp
  go_wp2_with (fail)
  go_ret2
  exact ⟨sa, sc, rfl, ⟨⟨H1.out.2.1.1.1.below ((Below.refl _ _).alloc (Nat.le_refl _) _), H1.out.2.1.1.2⟩, fun p hp => by have := H1.out.2.1.2 p hp; have := HB.out.size; omega⟩, H1.out.1.alloc H1.out.1.size _⟩

end
end Go.Proofs.Ytpkegiekpnaejaa
