/-
What the law of CourseWinters calls, each by one contract for all its ways; and the law's boxes in memory.
  What is proved: what each call answers; how the boxes go on from one step to the next.
  Conditions: each lemma states its own.
The contract of CourseWinters over this seat's program.
  What is proved: it answers true; nothing that was there before has turned.
  Conditions: a winter and a weather whose lists read as such.
-/
import Derived.Test.YtmebmcipmemofaaGreatPart18
namespace Go.Proofs.YtmebmcipmemofaaGreat
open Go.RowKit Go.Shelf
attribute [local go_sem] Oper.semAt_some

set_option maxHeartbeats 1000000 in
theorem equal_pile (a : Option Addr) (xs : List Sp) (ca : Nat) (b : Option Addr) (ys : List Sp) (cb : Nat) (w : World) (hx : Sl 2 Sp.cells w a xs) (hy : Sl 2 Sp.cells w b ys) (hl : xs.length ≤ 1000000) :
    Calls Tryz.prog 42 #[.slice a xs.length ca, .slice b ys.length cb] w fun e w' => e = .returned (.bool (eqSps xs ys)) ∧ Below w.heap.size w w' := by
  have HX := Lib.hid (And.intro hx hy)
  clear hx hy
  by_cases hlen : xs.length = ys.length
  · have HL := Lib.hid hlen
    go_enter Tryz.func42, Tryz.ntmps42
    rw [← hlen]
    clear hlen
    go_wp2
    go_loopw [13] (fun i wr => ∃ k : Nat, k ≤ xs.length ∧ i = .int .i64 k ∧ Hid (∀ j x y, j < k → xs[j]? = some x → ys[j]? = some y → eqSp x y = true) ∧ Below w.heap.size w wr) (fun i _ => xs.length - (intOf i).toNat)
    case atStart => exact ⟨0, Nat.zero_le _, rfl, fun j x y hj => by omega, Below.refl _ _⟩
    case round =>
      obtain ⟨k, hk, rfl, hall, hbw⟩ := hrel
      by_cases hlt : k < xs.length
      · obtain ⟨b1, o1, rfl, hb1, hc1⟩ := HX.out.1 (by omega)
        obtain ⟨b2, o2, rfl, hb2, hc2⟩ := HX.out.2 (by have := HL.out; omega)
        have hlt2 : k < ys.length := by have := HL.out; omega
        have HXY : Hid (xs[k]? = some xs[k] ∧ ys[k]? = some ys[k]) := ⟨List.getElem?_eq_getElem hlt, List.getElem?_eq_getElem hlt2⟩
        have d1 := (hbw.cell (p := ⟨b1, o1 + k * 2, none⟩) hb1).trans (hc1 k _ 0 _ HXY.out.1 rfl)
        have d2 := (hbw.cell (p := ⟨b1, o1 + k * 2 + 1, none⟩) hb1).trans (hc1 k _ 1 _ HXY.out.1 rfl)
        have d3 := (hbw.cell (p := ⟨b2, o2 + k * 2, none⟩) hb2).trans (hc2 k _ 0 _ HXY.out.2 rfl)
        have d4 := (hbw.cell (p := ⟨b2, o2 + k * 2 + 1, none⟩) hb2).trans (hc2 k _ 1 _ HXY.out.2 rfl)
        clear hc1 hc2
        generalize xs[k] = x at d1 d2 HXY
        generalize ys[k] = y at d3 d4 HXY
        cases he : eqSp x y
        · have q24 := eq106' x y false he
          have HF : Hid (eqSps xs ys = false) := by
            show _ = _
            rw [eqSps]
            have : ((List.range xs.length).all (fun j => match xs[j]?, ys[j]? with | some x, some y => eqSp x y | _, _ => true)) = false := by
              rw [List.all_eq_false]
              exact ⟨k, List.mem_range.2 hlt, by rw [HXY.out.1, HXY.out.2]; simp [he]⟩
            exact Bool.and_eq_false_iff.2 (.inr this)
          clear he hall
          go_wp2_with fail
          go_quiet (fail)
          have hwd := below_drewN hbw nq
          go_wp2
          go_ret
          exact ⟨by rw [HF.out]; rfl, hwd⟩
        · have q24 := eq106' x y true he
          have HA : Hid (∀ j x y, j < k + 1 → xs[j]? = some x → ys[j]? = some y → eqSp x y = true) := fun j x' y' hj hx' hy' => by
            rcases Nat.lt_or_ge j k with h | h
            · exact hall.out j x' y' h hx' hy'
            · have : j = k := by omega
              subst this
              rw [HXY.out.1] at hx'; rw [HXY.out.2] at hy'
              cases hx'; cases hy'; exact he
          clear he hall
          go_wp2_with fail
          go_quiet (fail)
          have hwd := below_drewN hbw nq
          go_wp2
          go_roundw
          case rel => exact ⟨k + 1, by omega, by go_num, HA, hwd⟩
          case measure => simp [intOf]; omega
      · have : k = xs.length := by omega
        subst this
        have HT : Hid (eqSps xs ys = true) := by
          show _ = _
          rw [eqSps, HL.out]
          simp only [decide_true, Bool.true_and, List.all_eq_true, List.mem_range]
          intro j hj
          cases h1 : xs[j]? with
          | none => rfl
          | some x => cases h2 : ys[j]? with
            | none => rfl
            | some y => exact hall.out j x y (by rw [HL.out]; exact hj) h1 h2
        go_wp2
        go_ret
        exact ⟨by rw [HT.out]; rfl, hbw⟩
  · have hlb : ((xs.length : Int) != (ys.length : Int)) = true := by simp; omega
    have HR : Hid (eqSps xs ys = false) := by show _ = _; rw [eqSps]; simp [hlen]
    clear hlen
    go_enter Tryz.func42, Tryz.ntmps42
    go_wp2
    go_ret
    exact ⟨by rw [HR.out]; rfl, Below.refl _ _⟩

theorem eqSps_self (xs : List Sp) : eqSps xs xs = true := by
  simp [eqSps]
  intro x hx
  cases xs[x]? <;> simp [eqSp]
theorem equal_piles (a : Option Addr) (xs : List Sp) (ca : Nat) (b : Option Addr) (cb : Nat) (w : World) (hx : Sl 2 Sp.cells w a xs) (hy : Sl 2 Sp.cells w b xs) (hl : xs.length ≤ 1000000) :
    Calls Tryz.prog 42 #[.slice a xs.length ca, .slice b xs.length cb] w fun e w' => e = .returned (.bool true) ∧ Below w.heap.size w w' := by
  have h := equal_pile a xs ca b xs cb w hx hy hl
  rw [eqSps_self] at h
  exact h
theorem equal_same (a : Option Addr) (xs : List Int) (ca : Nat) (b : Option Addr) (cb : Nat) (w : World) (hx : IntSl w a xs) (hy : IntSl w b xs) (hl : xs.length ≤ 1000000) :
    Calls Tryz.prog 23 #[.slice a xs.length ca, .slice b xs.length cb] w fun e w' => e = .returned (.bool true) ∧ Below w.heap.size w w' := by
  have h := equal_int a xs ca b xs cb w hx hy hl
  rw [decide_eq_true rfl] at h
  exact h
theorem sls3 {W : World} {B : Nat} {t : TypeId} {x y z : Option Addr} {N M L : List Int} {c d e : Nat} (h : W.heap[B]? = some (.cells #[.slice x N.length c, .slice y M.length d, .slice z L.length e] t (0, 0))) (h1 : IntSl W x N) (h2 : IntSl W y M) (h3 : IntSl W z L) : SlsAt W (some ⟨B, 0, none⟩) [N, M, L] := fun _ => by
  refine ⟨B, 0, rfl, lt_of_block h, fun j u hu => ?_⟩
  rw [cell_of_row W B _ _ _ _ h]
  match j, hu with
  | 0, hu => cases hu; exact ⟨x, c, rfl, h1⟩
  | 1, hu => cases hu; exact ⟨y, d, rfl, h2⟩
  | 2, hu => cases hu; exact ⟨z, e, rfl, h3⟩
  | (j+3), hu => simp at hu
theorem pos_take {R : List Int} {k : Nat} {x : Int} (h : R[k]? = some x) : posL (-1) (R.take (k + 1)) = posL (-1) (R.take k) ++ (if 0 < x then [⟨(k : Int) - 1, x⟩] else []) := by
  have hk := (List.getElem?_eq_some_iff.1 h).1
  rw [List.take_add_one, h]
  show posL (-1) (R.take k ++ [x]) = _
  rw [pos_append, List.length_take, Nat.min_eq_left (by omega)]
  rw [show (-1 : Int) + (k : Int) = (k : Int) - 1 by omega]
theorem pos_len : ∀ (R : List Int) (i : Int), (posL i R).length ≤ R.length
  | [], _ => Nat.le_refl _
  | x :: r, i => by
    rw [posL]
    split
    · simp only [List.length_cons]; exact Nat.succ_le_succ (pos_len r (i + 1))
    · exact Nat.le_succ_of_le (pos_len r (i + 1))

theorem worst_all (stock store : Int) (a : Option Addr) (ds : List Dy) (cap : Nat) (w : World) (hx : Sl 6 Dy.cells w a ds) (hl : ds.length ≤ 1000000) :
    Calls Tryz.prog 31 #[wv stock store a ds.length cap] w fun e w' => ∃ un cn um cm ul cl, ∃ U1 U2 U3 : List Int, e = .returned (.tuple #[tv un U1.length cn um U2.length cm ul U3.length cl, .int .i64 (winE stock store ds)]) ∧ (IntSl w' un U1 ∧ IntSl w' um U2 ∧ IntSl w' ul U3) ∧ (winE stock store ds = 0 → U1 = ds.map (fun d => d.need.hi) ∧ U2 = ds.map (fun d => d.make.lo) ∧ U3 = ds.map (fun d => d.loss.hi)) ∧ (winE stock store ds ≠ 0 → U1.length = 0 ∧ U2.length = 0 ∧ U3.length = 0) ∧ Below w.heap.size w w' := by
  by_cases h0 : winE stock store ds = 0
  · refine (Worst_any stock store a ds cap w hx hl h0).mono ?_
    rintro e w' ⟨an, cn, am, cm, al, cl, rfl, h1, h2, h3, hb⟩
    exact ⟨an, cn, am, cm, al, cl, ds.map (fun d => d.need.hi), ds.map (fun d => d.make.lo), ds.map (fun d => d.loss.hi), by rw [List.length_map, List.length_map, List.length_map, h0], ⟨h1, h2, h3⟩, fun _ => ⟨rfl, rfl, rfl⟩, fun h => absurd h0 h, hb⟩
  · refine (Worst_bad stock store a ds cap w hx hl h0).mono ?_
    rintro e w' ⟨rfl, hb⟩
    have hn : IntSl w' none [] := fun h => absurd h (Nat.lt_irrefl _)
    exact ⟨none, 0, none, 0, none, 0, [], [], [], rfl, ⟨hn, hn, hn⟩, fun h => absurd h h0, fun _ => ⟨rfl, rfl, rfl⟩, hb⟩
theorem fails_all (stock store : Int) (a : Option Addr) (ds : List Dy) (cap : Nat) (an : Option Addr) (N : List Int) (cn : Nat) (am : Option Addr) (M : List Int) (cm : Nat) (al : Option Addr) (L : List Int) (cl : Nat) (w : World)
    (hx : Sl 6 Dy.cells w a ds) (hl : ds.length ≤ 1000000) (hN : IntSl w an N) (hM : IntSl w am M) (hL : IntSl w al L) :
    Calls Tryz.prog 35 #[wv stock store a ds.length cap, tv an N.length cn am M.length cm al L.length cl] w fun e w' => ∃ fd : Int, e = .returned (.tuple #[.int .i64 fd, .int .i64 (wthE stock store ds N M L)]) ∧ (wthE stock store ds N M L = 0 → fd = (playL stock store N M L ds.length).fails) ∧ (wthE stock store ds N M L ≠ 0 → fd = 0) ∧ Below w.heap.size w w' := by
  by_cases h0 : wthE stock store ds N M L = 0
  · obtain ⟨hw, hs⟩ := wth_ok h0
    have h := Fails_any stock store a ds cap an N cn am M cm al L cl w hx hN hM hL hw hs
    rw [hs.1.1, hs.1.2.1, hs.1.2.2]
    refine h.mono ?_
    rintro e w' ⟨rfl, hb⟩
    exact ⟨_, by rw [h0], fun _ => rfl, fun h => absurd h0 h, hb⟩
  · refine (Fails_bad stock store a ds cap an N cn am M cm al L cl w hx hl hN hM hL h0).mono ?_
    rintro e w' ⟨rfl, hb⟩
    exact ⟨0, rfl, fun h => absurd h h0, fun _ => rfl, hb⟩
theorem stocks_all (stock store : Int) (a : Option Addr) (ds : List Dy) (cap : Nat) (an : Option Addr) (N : List Int) (cn : Nat) (am : Option Addr) (M : List Int) (cm : Nat) (al : Option Addr) (L : List Int) (cl : Nat) (w : World)
    (hx : Sl 6 Dy.cells w a ds) (hl : ds.length ≤ 1000000) (hN : IntSl w an N) (hM : IntSl w am M) (hL : IntSl w al L) :
    Calls Tryz.prog 36 #[wv stock store a ds.length cap, tv an N.length cn am M.length cm al L.length cl] w fun e w' => ∃ b c, ∃ X : List Int, e = .returned (.tuple #[.slice b X.length c, .int .i64 (wthE stock store ds N M L)]) ∧ IntSl w' b X ∧ (wthE stock store ds N M L = 0 → X = (playL stock store N M L ds.length).stocks) ∧ (wthE stock store ds N M L ≠ 0 → X.length = 0) ∧ Below w.heap.size w w' := by
  by_cases h0 : wthE stock store ds N M L = 0
  · obtain ⟨hw, hs⟩ := wth_ok h0
    have h := Stocks_any stock store a ds cap an N cn am M cm al L cl w hx hN hM hL hw hs
    rw [hs.1.1, hs.1.2.1, hs.1.2.2]
    refine h.mono ?_
    rintro e w' ⟨b, c, rfl, ⟨hi, _⟩, hb⟩
    exact ⟨b, c, _, by rw [h0], hi, fun _ => rfl, fun h => absurd h0 h, hb⟩
  · refine (Stocks_bad stock store a ds cap an N cn am M cm al L cl w hx hl hN hM hL h0).mono ?_
    rintro e w' ⟨rfl, hb⟩
    exact ⟨none, 0, [], rfl, fun h => absurd h (Nat.lt_irrefl _), fun h => absurd h h0, fun _ => rfl, hb⟩
theorem made_all (stock store : Int) (a : Option Addr) (ds : List Dy) (cap : Nat) (an : Option Addr) (N : List Int) (cn : Nat) (am : Option Addr) (M : List Int) (cm : Nat) (al : Option Addr) (L : List Int) (cl : Nat) (w : World)
    (hx : Sl 6 Dy.cells w a ds) (hl : ds.length ≤ 1000000) (hN : IntSl w an N) (hM : IntSl w am M) (hL : IntSl w al L) :
    Calls Tryz.prog 37 #[wv stock store a ds.length cap, tv an N.length cn am M.length cm al L.length cl] w fun e w' => ∃ b c, ∃ X : List Int, e = .returned (.tuple #[.slice b X.length c, .int .i64 (wthE stock store ds N M L)]) ∧ IntSl w' b X ∧ (wthE stock store ds N M L = 0 → X = (playL stock store N M L ds.length).made) ∧ (wthE stock store ds N M L ≠ 0 → X.length = 0) ∧ Below w.heap.size w w' := by
  by_cases h0 : wthE stock store ds N M L = 0
  · obtain ⟨hw, hs⟩ := wth_ok h0
    have h := Made_any stock store a ds cap an N cn am M cm al L cl w hx hN hM hL hw hs
    rw [hs.1.1, hs.1.2.1, hs.1.2.2]
    refine h.mono ?_
    rintro e w' ⟨b, c, rfl, ⟨hi, _⟩, hb⟩
    exact ⟨b, c, _, by rw [h0], hi, fun _ => rfl, fun h => absurd h0 h, hb⟩
  · refine (Made_bad stock store a ds cap an N cn am M cm al L cl w hx hl hN hM hL h0).mono ?_
    rintro e w' ⟨rfl, hb⟩
    exact ⟨none, 0, [], rfl, fun h => absurd h (Nat.lt_irrefl _), fun h => absurd h h0, fun _ => rfl, hb⟩
theorem piles_all (stock store : Int) (a : Option Addr) (ds : List Dy) (cap : Nat) (an : Option Addr) (N : List Int) (cn : Nat) (am : Option Addr) (M : List Int) (cm : Nat) (al : Option Addr) (L : List Int) (cl : Nat) (w : World)
    (hx : Sl 6 Dy.cells w a ds) (hl : ds.length ≤ 1000000) (hN : IntSl w an N) (hM : IntSl w am M) (hL : IntSl w al L) :
    Calls Tryz.prog 38 #[wv stock store a ds.length cap, tv an N.length cn am M.length cm al L.length cl] w fun e w' => ∃ b c, ∃ F : List Sp, e = .returned (.tuple #[.slice b F.length c, .int .i64 (wthE stock store ds N M L)]) ∧ Sl 2 Sp.cells w' b F ∧ (wthE stock store ds N M L = 0 → F = pileL stock store N M L ds.length) ∧ (wthE stock store ds N M L ≠ 0 → F.length = 0) ∧ Below w.heap.size w w' := by
  by_cases h0 : wthE stock store ds N M L = 0
  · obtain ⟨hw, hs⟩ := wth_ok h0
    have h := Piles_any stock store a ds cap an N cn am M cm al L cl w hx hN hM hL hw hs
    rw [hs.1.1, hs.1.2.1, hs.1.2.2]
    refine h.mono ?_
    rintro e w' ⟨b, c, rfl, ⟨hi, _⟩, hb⟩
    exact ⟨b, c, _, by rw [h0], hi, fun _ => rfl, fun h => absurd h0 h, hb⟩
  · refine (Piles_bad stock store a ds cap an N cn am M cm al L cl w hx hl hN hM hL h0).mono ?_
    rintro e w' ⟨rfl, hb⟩
    exact ⟨none, 0, [], rfl, fun h => absurd h (Nat.lt_irrefl _), fun h => absurd h h0, fun _ => rfl, hb⟩
theorem happens_all (stock store : Int) (a : Option Addr) (ds : List Dy) (cap : Nat) (an : Option Addr) (N : List Int) (cn : Nat) (am : Option Addr) (M : List Int) (cm : Nat) (al : Option Addr) (L : List Int) (cl : Nat) (w : World)
    (hN : IntSl w an N) (hM : IntSl w am M) (hL : IntSl w al L) (h0 : wthE stock store ds N M L = 0) :
    Calls Tryz.prog 40 #[wv stock store a ds.length cap, .slice an N.length cn, .slice am M.length cm, .slice al L.length cl] w (OutHap w (playL stock store N M L ds.length)) := by
  obtain ⟨hw, hs⟩ := wth_ok h0
  obtain ⟨b1, b2, b3⟩ := win_ok hw
  exact happens_any stock store a ds.length cap an N cn am M cm al L cl w hN hM hL hs.1.1 hs.1.2.1 hs.1.2.2 b2.2 ⟨b1.1, b1.2.1, b1.2.2.2⟩ (hs.bd b3)
theorem refPiles_all (stock store : Int) (a : Option Addr) (ds : List Dy) (cap : Nat) (an : Option Addr) (N : List Int) (cn : Nat) (am : Option Addr) (M : List Int) (cm : Nat) (al : Option Addr) (L : List Int) (cl : Nat) (w : World)
    (hN : IntSl w an N) (hM : IntSl w am M) (hL : IntSl w al L) (h0 : wthE stock store ds N M L = 0) :
    Calls Tryz.prog 41 #[wv stock store a ds.length cap, .slice an N.length cn, .slice am M.length cm, .slice al L.length cl] w fun e w' => ∃ b c, e = .returned (.slice b (rpL stock store N M L ds.length).length c) ∧ IntSl w' b (rpL stock store N M L ds.length) ∧ Below w.heap.size w w' := by
  obtain ⟨hw, hs⟩ := wth_ok h0
  obtain ⟨b1, b2, b3⟩ := win_ok hw
  have h := refPiles_any stock store a ds.length cap an N cn am M cm al L cl w hN hM hL hs.1.1 hs.1.2.1 hs.1.2.2 b2.2 ⟨b1.1, b1.2.1, b1.2.2.2⟩ (hs.bd b3)
  rw [hs.1.1, hs.1.2.1, hs.1.2.2]
  exact h
/-- The piles that are not empty are those of the play; there are few. -/
theorem rp_all {stock store : Int} {ds : List Dy} {N M L : List Int} (h0 : wthE stock store ds N M L = 0) : posL (-1) (rpL stock store N M L ds.length) = pileL stock store N M L ds.length ∧ (rpL stock store N M L ds.length).length ≤ 61 := by
  obtain ⟨hw, hs⟩ := wth_ok h0
  obtain ⟨b1, b2, b3⟩ := win_ok hw
  have hbd := hs.bd b3
  have hc := rp_pile (stock := stock) (store := store) (N := N) (M := M) (L := L) ⟨b1.1, b1.2.1⟩ (fun k => (getD_small hbd.2.1 k).1) (fun k => (getD_small hbd.2.2 k).1) (fun k => (getD_small hbd.1 k).1)
  refine ⟨(hc ds.length).1, ?_⟩
  rw [(rp_end (stock := stock) (store := store) (N := N) (M := M) (L := L) ds.length).1]
  have h1 := (playL_len stock store N M L ds.length).1
  have h2 := b2.2
  generalize hq : (playL stock store N M L ds.length).stocks.length = q at *
  by_cases hz : q = 0
  · subst hz; show (1 : Nat) ≤ 61; omega
  · obtain ⟨_, _, h3, _⟩ := play_nth (stock := stock) (store := store) (N := N) (M := M) (L := L) ds.length (q - 1) (by omega)
    rw [show q - 1 + 1 = q by omega] at h3
    rw [(hc q).2.2 h3]; omega

/-- A list of numbers does not lie in a block. -/
def NeI (an : Option Addr) (N : List Int) (A : Nat) : Prop := 0 < N.length → ∀ p, an = some p → p.block ≠ A
theorem nei_new {W : World} {an : Option Addr} {N : List Int} (h : IntSl W an N) {A : Nat} (hA : W.heap.size ≤ A) : NeI an N A := fun h0 p hp => by
  obtain ⟨b, off, rfl, hb, _⟩ := h h0
  cases hp
  show b ≠ A
  omega
theorem nei_old {an : Option Addr} {N : List Int} {A s : Nat} (h : ∀ p, an = some p → s ≤ p.block) (hA : A < s) : NeI an N A := fun _ p hp => by
  have := h p hp; omega
abbrev put3 (W : World) (A : Nat) (p q r : Value) : World := ((W.setCell ⟨A, 0, none⟩ p).setCell ⟨A, 1, none⟩ q).setCell ⟨A, 2, none⟩ r
theorem ints_put3 {W : World} {an : Option Addr} {N : List Int} {A : Nat} (h : IntSl W an N) (hn : NeI an N A) (p q r : Value) : IntSl (put3 W A p q r) an N := fun h0 =>
  ints_set (ints_set (ints_set h (hn h0)) (hn h0)) (hn h0) h0
theorem sl_not {W : World} {A : Nat} {t : TypeId} {u v x : Value} {a : Option Addr} {ds : List Dy} (h : Sl 6 Dy.cells W a ds) (hA : W.heap[A]? = some (.cells #[u, v, x] t (0, 0))) (h0 : 0 < ds.length) : ∀ p, a = some p → p.block ≠ A := by
  obtain ⟨b, off, rfl, hb, hc⟩ := h h0
  intro p hp
  cases hp
  intro e
  have e' : b = A := e
  subst e'
  have hd : ds[0]? = some ds[0] := List.getElem?_eq_getElem h0
  have h5 := hc 0 ds[0] 5 _ hd rfl
  have h6 : W.cell? ⟨b, off + 0 * 6 + 5, none⟩ = (#[u, v, x])[off + 0 * 6 + 5]? := by simp [World.cell?, hA]
  rw [h5, Array.getElem?_eq_none (by simp)] at h6
  cases h6
theorem sl_put3 {W : World} {A : Nat} {t : TypeId} {u v x : Value} {a : Option Addr} {ds : List Dy} (h : Sl 6 Dy.cells W a ds) (hA : W.heap[A]? = some (.cells #[u, v, x] t (0, 0))) (p q r : Value) : Sl 6 Dy.cells (put3 W A p q r) a ds := fun h0 =>
  sl_set (sl_set (sl_set h (sl_not h hA h0)) (sl_not h hA h0)) (sl_not h hA h0) h0
theorem put3_keep {W : World} {A j : Nat} (h : j ≠ A) (p q r : Value) : (put3 W A p q r).heap[j]? = W.heap[j]? := by
  rw [Below.heap_setCell _ ⟨A, 2, none⟩ _ _ h, Below.heap_setCell _ ⟨A, 1, none⟩ _ _ h, Below.heap_setCell _ ⟨A, 0, none⟩ _ _ h]
theorem put3_at {W : World} {A : Nat} {t : TypeId} {u v x : Value} (h : W.heap[A]? = some (.cells #[u, v, x] t (0, 0))) (p q r : Value) : (put3 W A p q r).heap[A]? = some (.cells #[p, q, r] t (0, 0)) :=
  blk_setCell (j := 2) (blk_setCell (j := 1) (blk_setCell (j := 0) h))

/-- The law's arguments and its first boxes. -/
structure OB (w W : World) (stock store : Int) (a : Option Addr) (ds : List Dy) (cap : Nat) (an : Option Addr) (N : List Int) (cn : Nat) (am : Option Addr) (M : List Int) (cm : Nat) (al : Option Addr) (L : List Int) (cl : Nat) : Prop where
  b : Below w.heap.size w W
  p0 : W.heap[w.heap.size]? = some (.cells #[.int .i64 stock, .int .i64 store, .slice a ds.length cap] 56 (0, 0))
  p1 : W.heap[w.heap.size + 1]? = some (.cells #[.slice an N.length cn, .slice am M.length cm, .slice al L.length cl] 58 (0, 0))
  x : Sl 6 Dy.cells W a ds
  n : IntSl W an N ∧ IntSl W am M ∧ IntSl W al L
  f : ∀ A, w.heap.size ≤ A → NeI an N A ∧ NeI am M A ∧ NeI al L A
  sz : w.heap.size + 1 + 1 ≤ W.heap.size
section
variable {w W W' : World} {stock store : Int} {a : Option Addr} {ds : List Dy} {cap : Nat} {an : Option Addr} {N : List Int} {cn : Nat} {am : Option Addr} {M : List Int} {cm : Nat} {al : Option Addr} {L : List Int} {cl : Nat}
theorem OB.below (h : OB w W stock store a ds cap an N cn am M cm al L cl) (hb : Below W.heap.size W W') : OB w W' stock store a ds cap an N cn am M cm al L cl := ⟨below_self h.b hb, blk_below h.p0 hb, blk_below h.p1 hb, h.x.below hb, ⟨h.n.1.below hb, h.n.2.1.below hb, h.n.2.2.below hb⟩, h.f, Nat.le_trans h.sz hb.size⟩
theorem OB.put3 {A : Nat} {t : TypeId} {u v x : Value} (h : OB w W stock store a ds cap an N cn am M cm al L cl) (hA : W.heap[A]? = some (.cells #[u, v, x] t (0, 0))) (hl : w.heap.size + 1 < A) (p q r : Value) : OB w (put3 W A p q r) stock store a ds cap an N cn am M cm al L cl :=
  ⟨((h.b.setCell (p := ⟨A, 0, none⟩) (by show w.heap.size ≤ A; omega) _).setCell (p := ⟨A, 1, none⟩) (by show w.heap.size ≤ A; omega) _).setCell (p := ⟨A, 2, none⟩) (by show w.heap.size ≤ A; omega) _,
   (put3_keep (by omega) _ _ _).trans h.p0, (put3_keep (by omega) _ _ _).trans h.p1, sl_put3 h.x hA _ _ _, ⟨ints_put3 h.n.1 (h.f A (by omega)).1 _ _ _, ints_put3 h.n.2.1 (h.f A (by omega)).2.1 _ _ _, ints_put3 h.n.2.2 (h.f A (by omega)).2.2 _ _ _⟩, h.f, by simpa using h.sz⟩
end
/-- Three lists of numbers. -/
structure TL (W : World) (b1 : Option Addr) (N : List Int) (b2 : Option Addr) (M : List Int) (b3 : Option Addr) (L : List Int) : Prop where
  n : IntSl W b1 N
  m : IntSl W b2 M
  l : IntSl W b3 L
/-- They do not lie in a block. -/
structure TN (A : Nat) (b1 : Option Addr) (N : List Int) (b2 : Option Addr) (M : List Int) (b3 : Option Addr) (L : List Int) : Prop where
  n : NeI b1 N A
  m : NeI b2 M A
  l : NeI b3 L A
section
variable {W W' : World} {b1 b2 b3 : Option Addr} {N M L : List Int} {A : Nat}
theorem TL.below (h : TL W b1 N b2 M b3 L) (hb : Below W.heap.size W W') : TL W' b1 N b2 M b3 L := ⟨h.n.below hb, h.m.below hb, h.l.below hb⟩
theorem TL.new (h : TL W b1 N b2 M b3 L) : TN W.heap.size b1 N b2 M b3 L := ⟨nei_new h.n (Nat.le_refl _), nei_new h.m (Nat.le_refl _), nei_new h.l (Nat.le_refl _)⟩
theorem TL.put3 (h : TL W b1 N b2 M b3 L) (hn : TN A b1 N b2 M b3 L) (p q r : Value) : TL (put3 W A p q r) b1 N b2 M b3 L := ⟨ints_put3 h.n hn.n _ _ _, ints_put3 h.m hn.m _ _ _, ints_put3 h.l hn.l _ _ _⟩
theorem TN.old {s : Nat} (h : (∀ p, b1 = some p → s ≤ p.block) ∧ (∀ p, b2 = some p → s ≤ p.block) ∧ (∀ p, b3 = some p → s ≤ p.block)) (hA : A < s) : TN A b1 N b2 M b3 L := ⟨nei_old h.1 hA, nei_old h.2.1 hA, nei_old h.2.2 hA⟩
end
/-- All boxes. -/
structure OC (w W : World) (stock store : Int) (a : Option Addr) (ds : List Dy) (cap : Nat) (an : Option Addr) (N : List Int) (cn : Nat) (am : Option Addr) (M : List Int) (cm : Nat) (al : Option Addr) (L : List Int) (cl : Nat) (A5 A6 A7 : Nat) (a1 : Option Addr) (c1 : Nat) (b1 : Option Addr) (e1 : Nat) (b2 : Option Addr) (e2 : Nat) (b3 : Option Addr) (e3 : Nat) (a2 : Option Addr) (c2 : Nat) : Prop where
  ob : OB w W stock store a ds cap an N cn am M cm al L cl
  o : W.heap[A5]? = some (.cells #[.int .i64 stock, .int .i64 store, .slice a1 ds.length c1] 56 (0, 0))
  q : W.heap[A6]? = some (.cells #[.slice b1 N.length e1, .slice b2 M.length e2, .slice b3 L.length e3] 58 (0, 0))
  m : W.heap[A7]? = some (.cells #[.int .i64 stock, .int .i64 store, .slice a2 ds.length c2] 64 (0, 0))
  x1 : Sl 6 Dy.cells W a1 ds
  t : TL W b1 N b2 M b3 L
  x2 : Sl 6 Dy.cells W a2 ds
section
variable {w W W' : World} {stock store : Int} {a : Option Addr} {ds : List Dy} {cap : Nat} {an : Option Addr} {N : List Int} {cn : Nat} {am : Option Addr} {M : List Int} {cm : Nat} {al : Option Addr} {L : List Int} {cl A5 A6 A7 : Nat} {a1 b1 b2 b3 a2 : Option Addr} {c1 e1 e2 e3 c2 : Nat}
theorem OC.below (h : OC w W stock store a ds cap an N cn am M cm al L cl A5 A6 A7 a1 c1 b1 e1 b2 e2 b3 e3 a2 c2) (hb : Below W.heap.size W W') : OC w W' stock store a ds cap an N cn am M cm al L cl A5 A6 A7 a1 c1 b1 e1 b2 e2 b3 e3 a2 c2 :=
  ⟨h.ob.below hb, blk_below h.o hb, blk_below h.q hb, blk_below h.m hb, h.x1.below hb, h.t.below hb, h.x2.below hb⟩
theorem OC.of (h : OB w W stock store a ds cap an N cn am M cm al L cl) (x1 : Sl 6 Dy.cells W a1 ds) (t : TL W b1 N b2 M b3 L) (x2 : Sl 6 Dy.cells W a2 ds)
    (h5 : W.heap[A5]? = some (.cells #[.int .i64 0, .int .i64 0, .slice none 0 0] 56 (0, 0))) (l5 : w.heap.size + 1 < A5) (h6 : W.heap[A6]? = some (.cells #[.slice none 0 0, .slice none 0 0, .slice none 0 0] 58 (0, 0))) (l6 : w.heap.size + 1 < A6) (h7 : W.heap[A7]? = some (.cells #[.int .i64 0, .int .i64 0, .slice none 0 0] 64 (0, 0))) (l7 : w.heap.size + 1 < A7)
    (n56 : A5 ≠ A6) (n57 : A5 ≠ A7) (n67 : A6 ≠ A7) (t5 : TN A5 b1 N b2 M b3 L) (t6 : TN A6 b1 N b2 M b3 L) (t7 : TN A7 b1 N b2 M b3 L) :
    OC w (put3 (put3 (put3 W A5 (.int .i64 stock) (.int .i64 store) (.slice a1 ds.length c1)) A6 (.slice b1 N.length e1) (.slice b2 M.length e2) (.slice b3 L.length e3)) A7 (.int .i64 stock) (.int .i64 store) (.slice a2 ds.length c2)) stock store a ds cap an N cn am M cm al L cl A5 A6 A7 a1 c1 b1 e1 b2 e2 b3 e3 a2 c2 := by
  have g6 := (put3_keep n56.symm (.int .i64 stock) (.int .i64 store) (.slice a1 ds.length c1) (W := W)).trans h6
  have g7 := (put3_keep n57.symm (.int .i64 stock) (.int .i64 store) (.slice a1 ds.length c1) (W := W)).trans h7
  have k7 := (put3_keep n67.symm (.slice b1 N.length e1) (.slice b2 M.length e2) (.slice b3 L.length e3)).trans g7
  exact ⟨((h.put3 h5 l5 _ _ _).put3 g6 l6 _ _ _).put3 k7 l7 _ _ _, (put3_keep n57 _ _ _).trans ((put3_keep n56 _ _ _).trans (put3_at h5 _ _ _)), (put3_keep n67 _ _ _).trans (put3_at g6 _ _ _), put3_at k7 _ _ _,
    sl_put3 (sl_put3 (sl_put3 x1 h5 _ _ _) g6 _ _ _) k7 _ _ _, ((t.put3 t5 _ _ _).put3 t6 _ _ _).put3 t7 _ _ _, sl_put3 (sl_put3 (sl_put3 x2 h5 _ _ _) g6 _ _ _) k7 _ _ _⟩
end
end Go.Proofs.YtmebmcipmemofaaGreat

namespace Go.Proofs.YtmebmcipmemofaaGreat
open Go.RowKit Go.Shelf
attribute [local go_sem] Oper.semAt_some

/-- A law of a state of a walk, kept for all ways that come to it. -/
theorem with_join {P : Program} {md : Region.Mode} {ops : Array Oper} {Q : Exit → Act → World → Prop} {S : World → Prop} {f0 : Nat} {l0 : Array Bool} {a0 : Act} {w0 : World} (J : (Nat → Array Bool → Act → World → Prop) → Array Bool → Act → Prop)
    (hJ : J (fun f l a w => wpAnyH P md ops Q S f l a w) l0 a0) (k : J (fun f l a w => wpAnyH P md ops Q S f l a w) l0 a0 → wpAnyH P md ops Q S f0 l0 a0 w0) : wpAnyH P md ops Q S f0 l0 a0 w0 := k hJ
/-- A list of piles that grows, above all that there was before. -/
structure WO (V W : World) (v : Value) (F : List Sp) : Prop where
  b : Below V.heap.size V W
  o : W.ownsRow V.heap.size 85 2 v F.length ((flatS F).map (Value.int .i64))
theorem WO.push {V W W' : World} {v v' : Value} {F : List Sp} {p q : Int} (hb : Below V.heap.size V W) (ho : W.ownsRow V.heap.size 85 2 v F.length ((flatS F).map (Value.int .i64))) (hn : W'.ownsRow V.heap.size 85 2 v' (F.length + 1) ((flatS F).map (Value.int .i64) ++ [.int .i64 p, .int .i64 q])) (hg : W.grownBy W' v.ownBlock) : WO V W' v' (F ++ [⟨p, q⟩]) := by
  refine ⟨hb.grown hg hb.size (fun j hj => (ho.lt j hj).1), ?_⟩
  rw [List.length_append, List.length_singleton, flatS_append, List.map_append]
  exact hn
theorem WO.read {V W : World} {v : Value} {F : List Sp} (h : WO V W v F) : ∃ a c, v = .slice a F.length c ∧ Sl 2 Sp.cells W a F := by
  have hl := flatS_len F
  rcases h.o.2 with ⟨rfl, h0⟩ | ⟨g, cap', cur, rfl, hb, hg, hnc, hcm, hcs, htake⟩
  · exact ⟨none, 0, by rw [h0], fun h1 => absurd h1 (by omega)⟩
  · exact ⟨some ⟨g, 0, none⟩, cap', rfl, sl_of_flat (owns_form h.o).1⟩

set_option maxRecDepth 100000 in
set_option maxHeartbeats 40000000 in
theorem winters_law (stock store : Int) (a : Option Addr) (ds : List Dy) (cap : Nat) (an : Option Addr) (N : List Int) (cn : Nat) (am : Option Addr) (M : List Int) (cm : Nat) (al : Option Addr) (L : List Int) (cl : Nat) (w : World)
    (hx : Sl 6 Dy.cells w a ds) (hna : a = none → ds.length = 0 ∧ cap = 0) (hN : IntSl w an N) (hM : IntSl w am M) (hL : IntSl w al L) (hnn : (an = none → N.length = 0 ∧ cn = 0) ∧ (am = none → M.length = 0 ∧ cm = 0) ∧ (al = none → L.length = 0 ∧ cl = 0)) :
    Calls Tryz.prog 4 #[wv stock store a ds.length cap, tv an N.length cn am M.length cm al L.length cl] w fun e w' => e = .returned (.bool true) ∧ Below w.heap.size w w' := by
  have h0 : OB w ((w.alloc (.cells #[.int .i64 stock, .int .i64 store, .slice a ds.length cap] 56)).alloc (.cells #[.slice an N.length cn, .slice am M.length cm, .slice al L.length cl] 58)) stock store a ds cap an N cn am M cm al L cl := by
    have hb : Below w.heap.size w ((w.alloc (.cells #[.int .i64 stock, .int .i64 store, .slice a ds.length cap] 56)).alloc (.cells #[.slice an N.length cn, .slice am M.length cm, .slice al L.length cl] 58)) := ((Below.refl _ _).alloc (Nat.le_refl _) _).alloc (by simp) _
    exact ⟨hb, alk (new_at rfl), new_at (by simp), hx.below hb, ⟨hN.below hb, hM.below hb, hL.below hb⟩, fun A hA => ⟨nei_new hN hA, nei_new hM hA, nei_new hL hA⟩, by simp⟩
  have HNA := Lib.hid (And.intro hna hnn)
  have HO := Lib.hid h0
  clear h0 hx hna hN hM hL hnn
  go_enter Tryz.func4, Tryz.ntmps4
  go_upto_region 1 with (fail)
  generalize (w.alloc (.cells #[.int .i64 stock, .int .i64 store, .slice a ds.length cap] 56)).alloc (.cells #[.slice an N.length cn, .slice am M.length cm, .slice al L.length cl] 58) = Wa at HO ⊢
  have r0 := blk_cell HO.out.p0 0 rfl
  have r1 := blk_cell HO.out.p0 1 rfl
  have r2 := blk_cell HO.out.p0 2 rfl
  have s0 := blk_cell HO.out.p1 0 rfl
  have s1 := blk_cell HO.out.p1 1 rfl
  have s2 := blk_cell HO.out.p1 2 rfl
  go_wp2_with (fail)
  clear r0 r1 r2 s0 s1 s2
  refine (long_any stock store a ds.length cap (some ⟨Wa.heap.size, 0, none⟩) [N, M, L] 3 _ (sls3 (heap_alloc_new Wa _) (HO.out.n.1.below (alloc1 Wa _)) (HO.out.n.2.1.below (alloc1 Wa _)) (HO.out.n.2.2.below (alloc1 Wa _))) (by simp)).mono ?_
  rintro e Wb ⟨rfl, hb⟩
  replace HO := Lib.hid (HO.out.below (below_self (alloc1 Wa _) hb))
  clear hb
  by_cases hlong : ([N, M, L].any (fun c => decide (70 < c.length)) || decide (65 < ds.length)) = true
  · rw [hlong]
    have HBB := Lib.hid HO.out.b
    clear hlong
    go_wp2_with (fail)
    refine (awake_any _).mono ?_
    rintro e v7 ⟨rfl, hb⟩
    have HM2 := Lib.hid (below_self HBB.out hb)
    clear hb
    go_wp2_with (fail)
    go_ret
    exact ⟨rfl, HM2.out⟩
  have HL : Hid (ds.length ≤ 1000 ∧ ds.length ≤ 1000000 ∧ N.length ≤ 1000 ∧ M.length ≤ 1000 ∧ L.length ≤ 1000) := by
    simp only [List.any_cons, List.any_nil, Bool.or_false, Bool.or_eq_true, decide_eq_true_eq, not_or, Nat.not_lt] at hlong
    exact ⟨by omega, by omega, by omega, by omega, by omega⟩
  rw [Bool.eq_false_iff.2 hlong]
  clear hlong
  go_upto_region 3 with (fail)
  refine wp_region_split (S := fun W' => W'.cell? ⟨w.heap.size, 0, none⟩ = some (.int .i64 stock) ∧ W'.cell? ⟨w.heap.size, 1, none⟩ = some (.int .i64 store) ∧ W'.cell? ⟨w.heap.size, 2, none⟩ = some (.slice a ds.length cap) ∧ W'.cell? ⟨w.heap.size + 1, 0, none⟩ = some (.slice an N.length cn) ∧ W'.cell? ⟨w.heap.size + 1, 1, none⟩ = some (.slice am M.length cm) ∧ W'.cell? ⟨w.heap.size + 1, 2, none⟩ = some (.slice al L.length cl)) [9, 10, 11] 9 (by kernel_rfl) (by kernel_rfl) rfl ?_
  have H0 : Hid (OB w Wb.drew stock store a ds cap an N cn am M cm al L cl) := HO.out.below (Below.refl _ _).drew
  clear HO
  generalize Wb.drew = W0 at H0 ⊢
  rw [show firstL _ [9, 10, 11] = #[false, false, false, false, false, false, false, false, false, true, true, true] from by kernel_rfl]
  refine wpAnyH_take (i := 0) (v := (.agg #[.int .i64 stock, .int .i64 store, .slice a ds.length cap])) rfl (by kernel_rfl) (by kernel_rfl) (by kernel_rfl) (fun _ _ _ h => h) (Or.inl ⟨by rfl, by (intro W hSw; obtain ⟨c0, c1, c2, d0, d1, d2⟩ := hSw; go_simp)⟩) ⟨blk_cell H0.out.p0 0 rfl, blk_cell H0.out.p0 1 rfl, blk_cell H0.out.p0 2 rfl, blk_cell H0.out.p1 0 rfl, blk_cell H0.out.p1 1 rfl, blk_cell H0.out.p1 2 rfl⟩ ?_
  simp only [Act.put, List.getElem_toArray, List.getElem_cons_zero, List.setIfInBounds_toArray, List.set_cons_zero, List.set_cons_succ]
  refine wpAnyH_take (i := 2) (v := (.agg #[.slice an N.length cn, .slice am M.length cm, .slice al L.length cl])) rfl (by kernel_rfl) (by kernel_rfl) (by kernel_rfl) (fun _ _ _ h => h) (Or.inl ⟨by rfl, by (intro W hSw; obtain ⟨c0, c1, c2, d0, d1, d2⟩ := hSw; go_simp)⟩) ⟨blk_cell H0.out.p0 0 rfl, blk_cell H0.out.p0 1 rfl, blk_cell H0.out.p0 2 rfl, blk_cell H0.out.p1 0 rfl, blk_cell H0.out.p1 1 rfl, blk_cell H0.out.p1 2 rfl⟩ ?_
  simp only [Act.put, List.getElem_toArray, List.getElem_cons_succ, List.getElem_cons_zero, List.setIfInBounds_toArray, List.set_cons_zero, List.set_cons_succ]
  refine wpAnyH_take (i := 4) (v := (.agg #[.int .i64 stock, .int .i64 store, .slice a ds.length cap])) rfl (by kernel_rfl) (by kernel_rfl) (by kernel_rfl) (fun _ _ _ h => h) (Or.inl ⟨by rfl, by (intro W hSw; obtain ⟨c0, c1, c2, d0, d1, d2⟩ := hSw; go_simp)⟩) ⟨blk_cell H0.out.p0 0 rfl, blk_cell H0.out.p0 1 rfl, blk_cell H0.out.p0 2 rfl, blk_cell H0.out.p1 0 rfl, blk_cell H0.out.p1 1 rfl, blk_cell H0.out.p1 2 rfl⟩ ?_
  simp only [Act.put, List.getElem_toArray, List.getElem_cons_succ, List.getElem_cons_zero, List.setIfInBounds_toArray, List.set_cons_zero, List.set_cons_succ]
  refine with_join (fun G lz az => ∀ (Wz : World) (a1 : Option Addr) (c1 : Nat) (b1 : Option Addr) (e1 : Nat) (b2 : Option Addr) (e2 : Nat) (b3 : Option Addr) (e3 : Nat) (a2 : Option Addr) (c2 : Nat) (A5 : Nat) (A6 : Nat) (A7 : Nat), Hid (OB w Wz stock store a ds cap an N cn am M cm al L cl ∧ Sl 6 Dy.cells Wz a1 ds ∧ TL Wz b1 N b2 M b3 L ∧ Sl 6 Dy.cells Wz a2 ds ∧ Wz.heap[A5]? = some (.cells #[.int .i64 0, .int .i64 0, .slice none 0 0] 56 (0, 0)) ∧ w.heap.size + 1 < A5 ∧ Wz.heap[A6]? = some (.cells #[.slice none 0 0, .slice none 0 0, .slice none 0 0] 58 (0, 0)) ∧ w.heap.size + 1 < A6 ∧ Wz.heap[A7]? = some (.cells #[.int .i64 0, .int .i64 0, .slice none 0 0] 64 (0, 0)) ∧ w.heap.size + 1 < A7 ∧ A5 ≠ A6 ∧ A5 ≠ A7 ∧ A6 ≠ A7 ∧ TN A5 b1 N b2 M b3 L ∧ TN A6 b1 N b2 M b3 L ∧ TN A7 b1 N b2 M b3 L) → G 0 ((((((lz.setIfInBounds 1 true).setIfInBounds 3 true).setIfInBounds 5 true).setIfInBounds 6 true).setIfInBounds 7 true).setIfInBounds 8 true) ((((((az.put (some 38) (wv stock store a1 ds.length c1)).put (some 40) (tv b1 N.length e1 b2 M.length e2 b3 L.length e3)).put (some 42) (wv stock store a2 ds.length c2)).put (some 5) (.pointer (some ⟨A5, 0, none⟩))).put (some 6) (.pointer (some ⟨A6, 0, none⟩))).put (some 7) (.pointer (some ⟨A7, 0, none⟩))) Wz) ?_ (fun J3111 => ?_)
  · intro Wz a1 c1 b1 e1 b2 e2 b3 e3 a2 c2 A5 A6 A7 Hz
    simp only [Act.put, List.setIfInBounds_toArray, List.set_cons_zero, List.set_cons_succ]
    refine wpAnyH_done (by kernel_rfl) ?_ _
    show wpList _ _ _ (opsAt _ [9, 10, 11]) _ _
    simp only [opsAt, List.filterMap_cons, List.filterMap_nil, List.getElem?_toArray, List.getElem?_cons_succ, List.getElem?_cons_zero]
    have h5 := Hz.out.2.2.2.2.1
    have v0 := blk_cell h5 0 rfl
    have v1 := blk_cell h5 1 rfl
    have v2 := blk_cell h5 2 rfl
    have vf0 := blk_free (j := 0) h5
    have vf1 := blk_free (j := 1) h5
    have vf2 := blk_free (j := 2) h5
    have h6 := Hz.out.2.2.2.2.2.2.1
    have g0 := blk_cell h6 0 rfl
    have g1 := blk_cell h6 1 rfl
    have g2 := blk_cell h6 2 rfl
    have gf0 := blk_free (j := 0) h6
    have gf1 := blk_free (j := 1) h6
    have gf2 := blk_free (j := 2) h6
    have h7 := Hz.out.2.2.2.2.2.2.2.2.1
    have k0 := blk_cell h7 0 rfl
    have k1 := blk_cell h7 1 rfl
    have k2 := blk_cell h7 2 rfl
    have kf0 := blk_free (j := 0) h7
    have kf1 := blk_free (j := 1) h7
    have kf2 := blk_free (j := 2) h7
    have n56 : A5 ≠ A6 := Hz.out.2.2.2.2.2.2.2.2.2.2.1
    have n57 : A5 ≠ A7 := Hz.out.2.2.2.2.2.2.2.2.2.2.2.1
    have n67 : A6 ≠ A7 := Hz.out.2.2.2.2.2.2.2.2.2.2.2.2.1
    have HW : Hid (OC w (((((((((Wz.setCell ⟨A5, 0, none⟩ (.int .i64 stock)).setCell ⟨A5, 1, none⟩ (.int .i64 store)).setCell ⟨A5, 2, none⟩ (.slice a1 ds.length c1)).setCell ⟨A6, 0, none⟩ (.slice b1 N.length e1)).setCell ⟨A6, 1, none⟩ (.slice b2 M.length e2)).setCell ⟨A6, 2, none⟩ (.slice b3 L.length e3)).setCell ⟨A7, 0, none⟩ (.int .i64 stock)).setCell ⟨A7, 1, none⟩ (.int .i64 store)).setCell ⟨A7, 2, none⟩ (.slice a2 ds.length c2)) stock store a ds cap an N cn am M cm al L cl A5 A6 A7 a1 c1 b1 e1 b2 e2 b3 e3 a2 c2) := OC.of Hz.out.1 Hz.out.2.1 Hz.out.2.2.1 Hz.out.2.2.2.1 h5 Hz.out.2.2.2.2.2.1 h6 Hz.out.2.2.2.2.2.2.2.1 h7 Hz.out.2.2.2.2.2.2.2.2.2.1 n56 n57 n67 Hz.out.2.2.2.2.2.2.2.2.2.2.2.2.2.1 Hz.out.2.2.2.2.2.2.2.2.2.2.2.2.2.2.1 Hz.out.2.2.2.2.2.2.2.2.2.2.2.2.2.2.2
    clear Hz h5 h6 h7
    go_upto_region 4 with (fail)
    clear v0 v1 v2 vf0 vf1 vf2 g0 g1 g2 gf0 gf1 gf2 k0 k1 k2 kf0 kf1 kf2 n56 n57 n67
    generalize (((((((((Wz.setCell ⟨A5, 0, none⟩ (.int .i64 stock)).setCell ⟨A5, 1, none⟩ (.int .i64 store)).setCell ⟨A5, 2, none⟩ (.slice a1 ds.length c1)).setCell ⟨A6, 0, none⟩ (.slice b1 N.length e1)).setCell ⟨A6, 1, none⟩ (.slice b2 M.length e2)).setCell ⟨A6, 2, none⟩ (.slice b3 L.length e3)).setCell ⟨A7, 0, none⟩ (.int .i64 stock)).setCell ⟨A7, 1, none⟩ (.int .i64 store)).setCell ⟨A7, 2, none⟩ (.slice a2 ds.length c2)) = V0 at HW ⊢
    obtain ⟨we, hwe⟩ : ∃ x, winE stock store ds = x := ⟨_, rfl⟩
    obtain ⟨xe, hxe⟩ : ∃ x, wthE stock store ds N M L = x := ⟨_, rfl⟩
    have HE := Lib.hid (And.intro hwe hxe)
    clear hwe hxe
    have HC1 : Hid (∀ W, Sl 6 Dy.cells W a2 ds → Calls Tryz.prog 29 #[wv stock store a2 ds.length c2] W fun e w' => e = .returned (.int .i64 we) ∧ Below W.heap.size W w') := fun W hW => by
      have h := refWinter_any stock store a2 ds c2 W hW HL.out.2.1
      rw [HE.out.1] at h; exact h
    have HC2 : Hid (∀ W, Sl 6 Dy.cells W a1 ds → Calls Tryz.prog 30 #[wv stock store a1 ds.length c1] W fun e w' => e = .returned (.int .i64 we) ∧ Below W.heap.size W w') := fun W hW => by
      have h := checkWinter_any stock store a1 ds c1 W hW HL.out.2.1
      rw [HE.out.1] at h; exact h
    have m0 := blk_cell HW.out.m 0 rfl
    have m1 := blk_cell HW.out.m 1 rfl
    have m2 := blk_cell HW.out.m 2 rfl
    go_wp2_with (fail)
    clear m0 m1 m2
    refine (HC1.out _ HW.out.x2).mono ?_
    rintro e V1 ⟨rfl, hb⟩
    have HW1 := Lib.hid (HW.out.below hb)
    clear hb HW HC1
    have o0 := blk_cell HW1.out.o 0 rfl
    have o1 := blk_cell HW1.out.o 1 rfl
    have o2 := blk_cell HW1.out.o 2 rfl
    go_wp2_with (fail)
    clear o0 o1 o2
    refine (HC2.out _ HW1.out.x1).mono ?_
    rintro e V2 ⟨rfl, hb⟩
    have HW2 := Lib.hid (HW1.out.below hb)
    clear hb HW1 HC2
    have o0 := blk_cell HW2.out.o 0 rfl
    have o1 := blk_cell HW2.out.o 1 rfl
    have o2 := blk_cell HW2.out.o 2 rfl
    go_wp2_with (fail)
    clear o0 o1 o2
    have HC3 := worst_all stock store a1 ds c1 V2 HW2.out.x1 HL.out.2.1
    rw [HE.out.1] at HC3
    refine HC3.mono ?_
    rintro e V3 ⟨un, d1, um, d2, ul, d3, U1, U2, U3, rfl, ⟨i1, i2, i3⟩, hu0, hu1, hb⟩
    have HU := Lib.hid (And.intro hu0 hu1)
    go_upto_region 8 with (fail)
    have HW4 : Hid (OC w (V3.alloc (.cells #[.slice un U1.length d1, .slice um U2.length d2, .slice ul U3.length d3] 58)) stock store a ds cap an N cn am M cm al L cl A5 A6 A7 a1 c1 b1 e1 b2 e2 b3 e3 a2 c2 ∧ (V3.alloc (.cells #[.slice un U1.length d1, .slice um U2.length d2, .slice ul U3.length d3] 58)).heap[V3.heap.size]? = some (.cells #[.slice un U1.length d1, .slice um U2.length d2, .slice ul U3.length d3] 58 (0, 0)) ∧ IntSl (V3.alloc (.cells #[.slice un U1.length d1, .slice um U2.length d2, .slice ul U3.length d3] 58)) un U1 ∧ IntSl (V3.alloc (.cells #[.slice un U1.length d1, .slice um U2.length d2, .slice ul U3.length d3] 58)) um U2 ∧ IntSl (V3.alloc (.cells #[.slice un U1.length d1, .slice um U2.length d2, .slice ul U3.length d3] 58)) ul U3) := by
      have hb2 := alloc1 V3 (.cells #[.slice un U1.length d1, .slice um U2.length d2, .slice ul U3.length d3] 58)
      exact ⟨(HW2.out.below hb).below hb2, heap_alloc_new _ _, i1.below hb2, i2.below hb2, i3.below hb2⟩
    clear i1 i2 i3 hu0 hu1 hb HC3 HW2
    generalize (V3.alloc (.cells #[.slice un U1.length d1, .slice um U2.length d2, .slice ul U3.length d3] 58)) = V4 at HW4 ⊢
    generalize V3.heap.size = A9 at HW4 ⊢
    have u0 := blk_cell HW4.out.2.1 0 rfl
    have u1 := blk_cell HW4.out.2.1 1 rfl
    have u2 := blk_cell HW4.out.2.1 2 rfl
    go_cut [74] (fun s wx => s = .bool false ∧ wx = V4)
    case first =>
      by_cases h : we = 0
      · subst h
        go_wp2_with (fail)
        go_meet
        exact ⟨rfl, rfl⟩
      · obtain ⟨l1, l2, l3⟩ := HU.out.2 h
        have g : (we != 0) = true := by simpa using h
        rw [l1] at u0
        rw [l2] at u1
        rw [l3] at u2
        clear l1 l2 l3 h
        go_wp2_with (fail)
        go_meet
        exact ⟨rfl, rfl⟩
    case rest =>
      obtain ⟨rfl, rfl⟩ := hcut
      obtain ⟨V4, rfl⟩ : ∃ W : World, W = wc := ⟨_, rfl⟩
      clear u0 u1 u2
      go_upto_if 76 with (fail)
      go_cut [11, 12, 13] (fun _ _ _ wx => OC w wx stock store a ds cap an N cn am M cm al L cl A5 A6 A7 a1 c1 b1 e1 b2 e2 b3 e3 a2 c2)
      case first =>
        by_cases h : we = 0
        · subst h
          obtain ⟨rfl, rfl, rfl⟩ := HU.out.1 rfl
          have m0 := blk_cell HW4.out.1.m 0 rfl
          have m1 := blk_cell HW4.out.1.m 1 rfl
          have m2 := blk_cell HW4.out.1.m 2 rfl
          go_wp2_with (fail)
          clear m0 m1 m2
          refine (ends_worst stock store a2 ds c2 V4 HW4.out.1.x2 HL.out.1).mono ?_
          rintro e V5 ⟨en, f1, em, f2, el, f3, rfl, i1, i2, i3, hb⟩
          have HW5 := Lib.hid (And.intro (HW4.out.1.below hb) (And.intro (blk_below HW4.out.2.1 hb) (And.intro (HW4.out.2.2.1.below hb) (And.intro (HW4.out.2.2.2.1.below hb) (HW4.out.2.2.2.2.below hb)))))
          have HI5 := Lib.hid (And.intro i1 (And.intro i2 i3))
          clear i1 i2 i3 hb HW4
          have u0 := blk_cell HW5.out.2.1 0 rfl
          have u1 := blk_cell HW5.out.2.1 1 rfl
          have u2 := blk_cell HW5.out.2.1 2 rfl
          go_wp2_with (fail)
          clear u0 u1 u2
          have HA := alike_same (ds.map (fun d => d.need.hi)) (ds.map (fun d => d.make.lo)) (ds.map (fun d => d.loss.hi)) un d1 um d2 ul d3 en f1 em f2 el f3 V5 HW5.out.2.2.1 HW5.out.2.2.2.1 HW5.out.2.2.2.2 HI5.out.1 HI5.out.2.1 HI5.out.2.2 (by simp only [List.length_map]; exact ⟨HL.out.1, HL.out.1, HL.out.1⟩)
          simp only [List.length_map] at HA
          refine HA.mono ?_
          rintro e V6 ⟨rfl, hb⟩
          have HW6 := HW5.out.1.below hb
          clear hb HW5 HI5 HA
          go_wp2_with (fail)
          go_meet
          exact HW6
        · have g : (we == 0) = false := by simpa using h
          clear h
          go_wp2_with (fail)
          go_meet
          exact HW4.out.1
      case rest =>
        have HX5 := Lib.hid hcut
        obtain ⟨V5, rfl⟩ : ∃ W : World, W = wc := ⟨_, rfl⟩
        clear hcut HW4 HU
        have HC4 := refWeather_any stock store a2 ds c2 an N cn am M cm al L cl V5 HX5.out.x2 HL.out.2.1 HX5.out.ob.n.1 HX5.out.ob.n.2.1 HX5.out.ob.n.2.2
        rw [HE.out.2] at HC4
        have HC := Lib.hid HC4
        clear HC4
        have m0 := blk_cell HX5.out.m 0 rfl
        have m1 := blk_cell HX5.out.m 1 rfl
        have m2 := blk_cell HX5.out.m 2 rfl
        have s0 := blk_cell HX5.out.ob.p1 0 rfl
        have s1 := blk_cell HX5.out.ob.p1 1 rfl
        have s2 := blk_cell HX5.out.ob.p1 2 rfl
        go_wp2_with (fail)
        clear m0 m1 m2 s0 s1 s2
        refine HC.out.mono ?_
        rintro e V6 ⟨rfl, hb⟩
        have HX6 := Lib.hid (HX5.out.below hb)
        clear hb HC HX5
        have HC4 := fails_all stock store a1 ds c1 b1 N e1 b2 M e2 b3 L e3 V6 HX6.out.x1 HL.out.2.1 HX6.out.t.n HX6.out.t.m HX6.out.t.l
        rw [HE.out.2] at HC4
        have HC := Lib.hid HC4
        clear HC4
        have o0 := blk_cell HX6.out.o 0 rfl
        have o1 := blk_cell HX6.out.o 1 rfl
        have o2 := blk_cell HX6.out.o 2 rfl
        have q0 := blk_cell HX6.out.q 0 rfl
        have q1 := blk_cell HX6.out.q 1 rfl
        have q2 := blk_cell HX6.out.q 2 rfl
        go_wp2_with (fail)
        clear o0 o1 o2 q0 q1 q2
        refine HC.out.mono ?_
        rintro e V7 ⟨fd, rfl, z0, z1, hb⟩
        have HF7 := Lib.hid (And.intro z0 z1)
        have HX7 := Lib.hid (HX6.out.below hb)
        clear z0 z1 hb HC HX6
        have HC4 := stocks_all stock store a1 ds c1 b1 N e1 b2 M e2 b3 L e3 V7 HX7.out.x1 HL.out.2.1 HX7.out.t.n HX7.out.t.m HX7.out.t.l
        rw [HE.out.2] at HC4
        have HC := Lib.hid HC4
        clear HC4
        have o0 := blk_cell HX7.out.o 0 rfl
        have o1 := blk_cell HX7.out.o 1 rfl
        have o2 := blk_cell HX7.out.o 2 rfl
        have q0 := blk_cell HX7.out.q 0 rfl
        have q1 := blk_cell HX7.out.q 1 rfl
        have q2 := blk_cell HX7.out.q 2 rfl
        go_wp2_with (fail)
        clear o0 o1 o2 q0 q1 q2
        refine HC.out.mono ?_
        rintro e V8 ⟨ya, yc, Y1, rfl, i1, z0, z1, hb⟩
        have HF8 := Lib.hid (And.intro z0 z1)
        have HX8 := Lib.hid (And.intro (HX7.out.below hb) i1)
        clear z0 z1 hb i1 HC HX7
        have HC4 := made_all stock store a1 ds c1 b1 N e1 b2 M e2 b3 L e3 V8 HX8.out.1.x1 HL.out.2.1 HX8.out.1.t.n HX8.out.1.t.m HX8.out.1.t.l
        rw [HE.out.2] at HC4
        have HC := Lib.hid HC4
        clear HC4
        have o0 := blk_cell HX8.out.1.o 0 rfl
        have o1 := blk_cell HX8.out.1.o 1 rfl
        have o2 := blk_cell HX8.out.1.o 2 rfl
        have q0 := blk_cell HX8.out.1.q 0 rfl
        have q1 := blk_cell HX8.out.1.q 1 rfl
        have q2 := blk_cell HX8.out.1.q 2 rfl
        go_wp2_with (fail)
        clear o0 o1 o2 q0 q1 q2
        refine HC.out.mono ?_
        rintro e V9 ⟨za, zc, Y2, rfl, i1, z0, z1, hb⟩
        have HF9 := Lib.hid (And.intro z0 z1)
        have HX9 := Lib.hid (And.intro (HX8.out.1.below hb) (And.intro (HX8.out.2.below hb) i1))
        clear z0 z1 hb i1 HC HX8
        have HC4 := piles_all stock store a1 ds c1 b1 N e1 b2 M e2 b3 L e3 V9 HX9.out.1.x1 HL.out.2.1 HX9.out.1.t.n HX9.out.1.t.m HX9.out.1.t.l
        rw [HE.out.2] at HC4
        have HC := Lib.hid HC4
        clear HC4
        have o0 := blk_cell HX9.out.1.o 0 rfl
        have o1 := blk_cell HX9.out.1.o 1 rfl
        have o2 := blk_cell HX9.out.1.o 2 rfl
        have q0 := blk_cell HX9.out.1.q 0 rfl
        have q1 := blk_cell HX9.out.1.q 1 rfl
        have q2 := blk_cell HX9.out.1.q 2 rfl
        go_wp2_with (fail)
        clear o0 o1 o2 q0 q1 q2
        refine HC.out.mono ?_
        rintro e V10 ⟨pa, pc, F, rfl, i1, z0, z1, hb⟩
        have HF10 := Lib.hid (And.intro z0 z1)
        have HX10 := Lib.hid (And.intro (HX9.out.1.below hb) (And.intro (HX9.out.2.1.below hb) (And.intro (HX9.out.2.2.below hb) i1)))
        clear z0 z1 hb i1 HC HX9
        go_upto_if 141 with (fail)
        by_cases h : xe = 0
        · subst h
          obtain rfl := HF7.out.1 rfl
          obtain rfl := HF8.out.1 rfl
          obtain rfl := HF9.out.1 rfl
          obtain rfl := HF10.out.1 rfl
          clear HF7 HF8 HF9 HF10
          obtain ⟨rp1, rp2⟩ := rp_all (stock := stock) (store := store) (ds := ds) (N := N) (M := M) (L := L) HE.out.2
          have HC9 : Hid (∀ W, IntSl W an N → IntSl W am M → IntSl W al L → Calls Tryz.prog 40 #[wv stock store a2 ds.length c2, .slice an N.length cn, .slice am M.length cm, .slice al L.length cl] W (OutHap W (playL stock store N M L ds.length))) := fun W h1 h2 h3 => happens_all stock store a2 ds c2 an N cn am M cm al L cl W h1 h2 h3 HE.out.2
          have HC10 : Hid (∀ W, IntSl W an N → IntSl W am M → IntSl W al L → Calls Tryz.prog 41 #[wv stock store a2 ds.length c2, .slice an N.length cn, .slice am M.length cm, .slice al L.length cl] W fun e w' => ∃ b c, e = .returned (.slice b (rpL stock store N M L ds.length).length c) ∧ IntSl w' b (rpL stock store N M L ds.length) ∧ Below W.heap.size W w') := fun W h1 h2 h3 => refPiles_all stock store a2 ds c2 an N cn am M cm al L cl W h1 h2 h3 HE.out.2
          have HPL := Lib.hid (playL_len stock store N M L ds.length)
          clear HE
          generalize rpL stock store N M L ds.length = R at *
          generalize pileL stock store N M L ds.length = PX at *
          unfold OutHap at HC9
          generalize (playL stock store N M L ds.length).stocks = SX at *
          generalize (playL stock store N M L ds.length).made = MX at *
          generalize (playL stock store N M L ds.length).fails = FX at *
          have HRP := Lib.hid (And.intro rp1 rp2)
          clear rp1 rp2
          have m0 := blk_cell HX10.out.1.m 0 rfl
          have m1 := blk_cell HX10.out.1.m 1 rfl
          have m2 := blk_cell HX10.out.1.m 2 rfl
          have s0 := blk_cell HX10.out.1.ob.p1 0 rfl
          have s1 := blk_cell HX10.out.1.ob.p1 1 rfl
          have s2 := blk_cell HX10.out.1.ob.p1 2 rfl
          go_wp2_with (fail)
          clear m0 m1 m2 s0 s1 s2
          refine (HC9.out _ HX10.out.1.ob.n.1 HX10.out.1.ob.n.2.1 HX10.out.1.ob.n.2.2).mono ?_
          rintro e V11 ⟨ha, hc, ga, gc, rfl, i1, i2, hb⟩
          have HX11 := Lib.hid (And.intro (HX10.out.1.below hb) (And.intro (HX10.out.2.1.below hb) (And.intro (HX10.out.2.2.1.below hb) (And.intro (HX10.out.2.2.2.below hb) (And.intro i1 i2)))))
          clear hb i1 i2 HC9 HX10
          have m0 := blk_cell HX11.out.1.m 0 rfl
          have m1 := blk_cell HX11.out.1.m 1 rfl
          have m2 := blk_cell HX11.out.1.m 2 rfl
          have s0 := blk_cell HX11.out.1.ob.p1 0 rfl
          have s1 := blk_cell HX11.out.1.ob.p1 1 rfl
          have s2 := blk_cell HX11.out.1.ob.p1 2 rfl
          go_wp2_with (fail)
          clear m0 m1 m2 s0 s1 s2
          refine (HC10.out _ HX11.out.1.ob.n.1 HX11.out.1.ob.n.2.1 HX11.out.1.ob.n.2.2).mono ?_
          rintro e V12 ⟨ra, rc, rfl, i1, hb⟩
          have HX12 := Lib.hid (And.intro (HX11.out.1.below hb) (And.intro (HX11.out.2.1.below hb) (And.intro (HX11.out.2.2.1.below hb) (And.intro (HX11.out.2.2.2.1.below hb) (And.intro (HX11.out.2.2.2.2.1.below hb) (HX11.out.2.2.2.2.2.below hb))))))
          have HR := Lib.hid i1
          clear hb i1 HC10 HX11
          go_wp2_with (fail)
          go_loopw [24, 189] (fun v i wr => ∃ (k : Nat) (v24 : Value), v24 = v ∧ i = .int .i64 k ∧ k ≤ R.length ∧ Hid (WO V12 wr v24 (posL (-1) (R.take k)))) (fun _ i _ => R.length - (intOf i).toNat)
          case atStart => exact ⟨0, _, rfl, rfl, Nat.zero_le _, Below.refl _ _, World.ownsRow_nil _ _ _ _⟩
          case round =>
            obtain ⟨k, v24, rfl, rfl, hk, hR⟩ := hrel
            have hr61 : R.length ≤ 61 := HRP.out.2
            by_cases hlt : k < R.length
            · obtain ⟨b, off, rfl, hbs, hcc⟩ := HR.out (by omega)
              obtain ⟨x, hx⟩ : ∃ x, R[k]? = some x := ⟨_, List.getElem?_eq_getElem hlt⟩
              have c1 := (hR.out.b.cell (p := ⟨b, off + k, none⟩) hbs).trans (hcc k hlt)
              rw [hx] at c1
              replace c1 : wr.cell? ⟨b, off + k, none⟩ = some (.int .i64 x) := c1
              have HPT := Lib.hid (pos_take hx)
              have hpl : (posL (-1) (R.take k)).length ≤ 61 := by have h1 := pos_len (R.take k) (-1); rw [List.length_take] at h1; omega
              clear hcc hx
              have ew : IntKind.i64.wrap ((k : Int) - 1) = (k : Int) - 1 := IntWalk.i64_in _ (by omega)
              by_cases hx0 : 0 < x
              · have HN : Hid (posL (-1) (R.take (k + 1)) = posL (-1) (R.take k) ++ [⟨(k : Int) - 1, x⟩]) := by show _ = _; rw [HPT.out, if_pos hx0]
                clear HPT
                generalize posL (-1) (R.take k) = F0 at *
                obtain ⟨j0, hj, hjz0, hjz1, hjz2⟩ := info_parts Tryz.info85
                go_upto_region 29 with (fail)
                have HO := Lib.hid (hR.out.o)
                have HB := Lib.hid hR.out.b
                clear hR
                go_wp2_with (at_builtin; refine wpList_append_own_at _ rfl _ _ 77 rfl V12.heap.size 85 j0 (.agg #[.int .i64 0, .int .i64 0]) 2 16 Tryz.underlying77 hj hjz0 hjz1 hjz2 rfl (by decide) v24 F0.length ((flatS F0).map (Value.int .i64)) rfl (HO.out.alloc _) ⟨wr.heap.size, 0, none⟩ 1 1 [.int .i64 ((k : Int) - 1), .int .i64 x] rfl rfl (cell_two_new _ _ _ _) (by intro u hu; simp at hu; rcases hu with rfl | rfl <;> rfl) (by unfold maxLen; omega) (by omega) (by have := HB.out.size; rw [World.size_alloc]; omega) ?_)
                intro v6 w6 hown6 hgrow6 _ _
                have HN6 : Hid (WO V12 w6 v6 (posL (-1) (R.take (k + 1)))) := by
                  rw [HN.out]
                  exact WO.push (HB.out.alloc HB.out.size _) (HO.out.alloc _) hown6 hgrow6
                clear hown6 hgrow6 HO HB HN
                go_wp2_with (fail)
                go_roundw
                case rel => exact ⟨k + 1, _, rfl, by go_num, by omega, HN6.out⟩
                case measure => first | (simp [intOf]; done) | (simp [intOf]; omega)
              · have HN6 : Hid (WO V12 wr v24 (posL (-1) (R.take (k + 1)))) := by
                  have h := HPT.out
                  rw [if_neg hx0, List.append_nil] at h
                  show WO _ _ _ _
                  rw [h]; exact hR.out
                clear HPT hR
                go_wp2_with (fail)
                go_roundw
                case rel => exact ⟨k + 1, _, rfl, by go_num, by omega, HN6.out⟩
                case measure => first | (simp [intOf]; done) | (simp [intOf]; omega)
            · have hke : k = R.length := by omega
              have HV : Hid (WO V12 wr v24 PX) := by
                have h := hR.out
                rw [hke, List.take_length, HRP.out.1] at h
                exact h
              obtain ⟨ba, bc, rfl, i1⟩ := HV.out.read
              have hb := HV.out.b
              have HX13 := Lib.hid (And.intro (HX12.out.1.below hb) (And.intro (HX12.out.2.1.below hb) (And.intro (HX12.out.2.2.1.below hb) (And.intro (HX12.out.2.2.2.1.below hb) (And.intro (HX12.out.2.2.2.2.1.below hb) (And.intro (HX12.out.2.2.2.2.2.below hb) i1))))))
              have HPX : Hid (PX.length ≤ 1000000) := by show _ ≤ _; have h1 := HRP.out.1; have h2 := pos_len R (-1); rw [h1] at h2; omega
              have HSX : Hid (SX.length ≤ 1000000 ∧ MX.length ≤ 1000000) := by have h1 := HPL.out; have h2 := HL.out.1; exact ⟨by omega, by omega⟩
              clear hb i1 HV hR HX12 HR hke
              go_wp2_with (fail)
              refine (equal_same ya SX yc ha hc _ HX13.out.2.1 HX13.out.2.2.2.2.1 HSX.out.1).mono ?_
              rintro e V14 ⟨rfl, hb⟩
              have HX14 := Lib.hid (And.intro (HX13.out.1.below hb) (And.intro (HX13.out.2.1.below hb) (And.intro (HX13.out.2.2.1.below hb) (And.intro (HX13.out.2.2.2.1.below hb) (And.intro (HX13.out.2.2.2.2.1.below hb) (And.intro (HX13.out.2.2.2.2.2.1.below hb) (HX13.out.2.2.2.2.2.2.below hb)))))))
              clear hb HX13
              go_wp2_with (fail)
              refine (equal_same za MX zc ga gc _ HX14.out.2.2.1 HX14.out.2.2.2.2.2.1 HSX.out.2).mono ?_
              rintro e V15 ⟨rfl, hb⟩
              have HX15 := Lib.hid (And.intro (HX14.out.1.below hb) (And.intro (HX14.out.2.1.below hb) (And.intro (HX14.out.2.2.1.below hb) (And.intro (HX14.out.2.2.2.1.below hb) (And.intro (HX14.out.2.2.2.2.1.below hb) (And.intro (HX14.out.2.2.2.2.2.1.below hb) (HX14.out.2.2.2.2.2.2.below hb)))))))
              clear hb HX14
              go_wp2_with (fail)
              refine (equal_piles pa PX pc ba bc _ HX15.out.2.2.2.1 HX15.out.2.2.2.2.2.2 HPX.out).mono ?_
              rintro e V16 ⟨rfl, hb⟩
              have HX16 := Lib.hid (HX15.out.1.below hb)
              clear hb HX15
              have o0 := blk_cell HX16.out.o 0 rfl
              have o1 := blk_cell HX16.out.o 1 rfl
              have o2 := blk_cell HX16.out.o 2 rfl
              have r0 := blk_cell HX16.out.ob.p0 0 rfl
              have r1 := blk_cell HX16.out.ob.p0 1 rfl
              have r2 := blk_cell HX16.out.ob.p0 2 rfl
              go_wp2_with (fail)
              clear o0 o1 o2 r0 r1 r2
              refine (same_any stock store a1 ds c1 a cap _ HX16.out.x1 HX16.out.ob.x HL.out.1).mono ?_
              rintro e V17 ⟨rfl, hb⟩
              have HX17 := Lib.hid (HX16.out.below hb)
              clear hb HX16
              have q0 := blk_cell HX17.out.q 0 rfl
              have q1 := blk_cell HX17.out.q 1 rfl
              have q2 := blk_cell HX17.out.q 2 rfl
              have s0 := blk_cell HX17.out.ob.p1 0 rfl
              have s1 := blk_cell HX17.out.ob.p1 1 rfl
              have s2 := blk_cell HX17.out.ob.p1 2 rfl
              go_wp2_with (fail)
              clear q0 q1 q2 s0 s1 s2
              refine (alike_same N M L b1 e1 b2 e2 b3 e3 an cn am cm al cl _ HX17.out.t.n HX17.out.t.m HX17.out.t.l HX17.out.ob.n.1 HX17.out.ob.n.2.1 HX17.out.ob.n.2.2 HL.out.2.2).mono ?_
              rintro e V18 ⟨rfl, hb⟩
              have HX18 := Lib.hid (HX17.out.below hb)
              clear hb HX17
              go_wp2_with (fail)
              refine (awake_any _).mono ?_
              rintro e V19 ⟨rfl, hb⟩
              have HX19 := Lib.hid (below_self HX18.out.ob.b hb)
              clear hb HX18
              go_wp2_with (fail)
              go_ret
              exact ⟨rfl, HX19.out⟩
        · have g : (xe != 0) = true := by simpa using h
          obtain rfl := HF7.out.2 h
          have l1 := HF8.out.2 h
          have l2 := HF9.out.2 h
          have l3 := HF10.out.2 h
          have HX16 := Lib.hid HX10.out.1
          clear h HX10 HF7 HF8 HF9 HF10 HE
          rw [l1, l2, l3]
          clear l1 l2 l3
          have o0 := blk_cell HX16.out.o 0 rfl
          have o1 := blk_cell HX16.out.o 1 rfl
          have o2 := blk_cell HX16.out.o 2 rfl
          have r0 := blk_cell HX16.out.ob.p0 0 rfl
          have r1 := blk_cell HX16.out.ob.p0 1 rfl
          have r2 := blk_cell HX16.out.ob.p0 2 rfl
          go_wp2_with (fail)
          clear o0 o1 o2 r0 r1 r2
          refine (same_any stock store a1 ds c1 a cap _ HX16.out.x1 HX16.out.ob.x HL.out.1).mono ?_
          rintro e V17 ⟨rfl, hb⟩
          have HX17 := Lib.hid (HX16.out.below hb)
          clear hb HX16
          have q0 := blk_cell HX17.out.q 0 rfl
          have q1 := blk_cell HX17.out.q 1 rfl
          have q2 := blk_cell HX17.out.q 2 rfl
          have s0 := blk_cell HX17.out.ob.p1 0 rfl
          have s1 := blk_cell HX17.out.ob.p1 1 rfl
          have s2 := blk_cell HX17.out.ob.p1 2 rfl
          go_wp2_with (fail)
          clear q0 q1 q2 s0 s1 s2
          refine (alike_same N M L b1 e1 b2 e2 b3 e3 an cn am cm al cl _ HX17.out.t.n HX17.out.t.m HX17.out.t.l HX17.out.ob.n.1 HX17.out.ob.n.2.1 HX17.out.ob.n.2.2 HL.out.2.2).mono ?_
          rintro e V18 ⟨rfl, hb⟩
          have HX18 := Lib.hid (HX17.out.below hb)
          clear hb HX17
          go_wp2_with (fail)
          refine (awake_any _).mono ?_
          rintro e V19 ⟨rfl, hb⟩
          have HX19 := Lib.hid (below_self HX18.out.ob.b hb)
          clear hb HX18
          go_wp2_with (fail)
          go_ret
          exact ⟨rfl, HX19.out⟩
  simp only [Act.put, List.setIfInBounds_toArray, List.set_cons_zero, List.set_cons_succ] at J3111
  refine with_join (fun G lz az => ∀ (Wz : World) (a1 : Option Addr) (c1 : Nat) (b1 : Option Addr) (e1 : Nat) (b2 : Option Addr) (e2 : Nat) (b3 : Option Addr) (e3 : Nat) (a2 : Option Addr) (c2 : Nat) (A5 : Nat) (A6 : Nat), Hid (OB w Wz stock store a ds cap an N cn am M cm al L cl ∧ Sl 6 Dy.cells Wz a1 ds ∧ TL Wz b1 N b2 M b3 L ∧ Sl 6 Dy.cells Wz a2 ds ∧ Wz.heap[A5]? = some (.cells #[.int .i64 0, .int .i64 0, .slice none 0 0] 56 (0, 0)) ∧ w.heap.size + 1 < A5 ∧ Wz.heap[A6]? = some (.cells #[.slice none 0 0, .slice none 0 0, .slice none 0 0] 58 (0, 0)) ∧ w.heap.size + 1 < A6 ∧ A5 ≠ A6 ∧ TN A5 b1 N b2 M b3 L ∧ TN A6 b1 N b2 M b3 L) → G 1 (((((lz.setIfInBounds 1 true).setIfInBounds 3 true).setIfInBounds 5 true).setIfInBounds 6 true).setIfInBounds 7 true) (((((az.put (some 38) (wv stock store a1 ds.length c1)).put (some 40) (tv b1 N.length e1 b2 M.length e2 b3 L.length e3)).put (some 42) (wv stock store a2 ds.length c2)).put (some 5) (.pointer (some ⟨A5, 0, none⟩))).put (some 6) (.pointer (some ⟨A6, 0, none⟩))) Wz) ?_ (fun J3110 => ?_)
  · intro Wz a1 c1 b1 e1 b2 e2 b3 e3 a2 c2 A5 A6 Hz
    simp only [Act.put, List.setIfInBounds_toArray, List.set_cons_zero, List.set_cons_succ]
    refine wpAnyH_ready (rs := [8]) (by kernel_rfl) (by simp) ?_
    refine AllReadyH.cons (o := _) rfl (fun K hK => ?_) AllReadyH.nil
    go_simp
    have hb : Below Wz.heap.size Wz (Wz.alloc (.cells #[.int .i64 0, .int .i64 0, .slice none 0 0] 64)) := (Below.refl _ _).alloc (Nat.le_refl _) _
    have H1 : Hid (OB w (Wz.alloc (.cells #[.int .i64 0, .int .i64 0, .slice none 0 0] 64)) stock store a ds cap an N cn am M cm al L cl ∧ Sl 6 Dy.cells (Wz.alloc (.cells #[.int .i64 0, .int .i64 0, .slice none 0 0] 64)) a1 ds ∧ TL (Wz.alloc (.cells #[.int .i64 0, .int .i64 0, .slice none 0 0] 64)) b1 N b2 M b3 L ∧ Sl 6 Dy.cells (Wz.alloc (.cells #[.int .i64 0, .int .i64 0, .slice none 0 0] 64)) a2 ds ∧ (Wz.alloc (.cells #[.int .i64 0, .int .i64 0, .slice none 0 0] 64)).heap[A5]? = some (.cells #[.int .i64 0, .int .i64 0, .slice none 0 0] 56 (0, 0)) ∧ w.heap.size + 1 < A5 ∧ (Wz.alloc (.cells #[.int .i64 0, .int .i64 0, .slice none 0 0] 64)).heap[A6]? = some (.cells #[.slice none 0 0, .slice none 0 0, .slice none 0 0] 58 (0, 0)) ∧ w.heap.size + 1 < A6 ∧ (Wz.alloc (.cells #[.int .i64 0, .int .i64 0, .slice none 0 0] 64)).heap[Wz.heap.size]? = some (.cells #[.int .i64 0, .int .i64 0, .slice none 0 0] 64 (0, 0)) ∧ w.heap.size + 1 < Wz.heap.size ∧ A5 ≠ A6 ∧ A5 ≠ Wz.heap.size ∧ A6 ≠ Wz.heap.size ∧ TN A5 b1 N b2 M b3 L ∧ TN A6 b1 N b2 M b3 L ∧ TN Wz.heap.size b1 N b2 M b3 L) := ⟨Hz.out.1.below hb, Hz.out.2.1.below hb, Hz.out.2.2.1.below hb, Hz.out.2.2.2.1.below hb, blk_below Hz.out.2.2.2.2.1 hb, Hz.out.2.2.2.2.2.1, blk_below Hz.out.2.2.2.2.2.2.1 hb, Hz.out.2.2.2.2.2.2.2.1, heap_alloc_new _ _, Nat.lt_of_succ_le Hz.out.1.sz, Hz.out.2.2.2.2.2.2.2.2.1, Nat.ne_of_lt (lt_of_block Hz.out.2.2.2.2.1), Nat.ne_of_lt (lt_of_block Hz.out.2.2.2.2.2.2.1), Hz.out.2.2.2.2.2.2.2.2.2.1, Hz.out.2.2.2.2.2.2.2.2.2.2, Hz.out.2.2.1.new⟩
    clear hb
    refine hK.out _ _ ⟨blk_cell H1.out.1.p0 0 rfl, blk_cell H1.out.1.p0 1 rfl, blk_cell H1.out.1.p0 2 rfl, blk_cell H1.out.1.p1 0 rfl, blk_cell H1.out.1.p1 1 rfl, blk_cell H1.out.1.p1 2 rfl⟩ (fun _ => ?_)
    clear hK
    simp only [List.setIfInBounds_toArray, List.set_cons_zero, List.set_cons_succ]
    exact J3111 _ a1 c1 b1 e1 b2 e2 b3 e3 a2 c2 A5 A6 _ H1
  simp only [Act.put, List.setIfInBounds_toArray, List.set_cons_zero, List.set_cons_succ] at J3110
  refine with_join (fun G lz az => ∀ (Wz : World) (a1 : Option Addr) (c1 : Nat) (b1 : Option Addr) (e1 : Nat) (b2 : Option Addr) (e2 : Nat) (b3 : Option Addr) (e3 : Nat) (a2 : Option Addr) (c2 : Nat) (A5 : Nat) (A7 : Nat), Hid (OB w Wz stock store a ds cap an N cn am M cm al L cl ∧ Sl 6 Dy.cells Wz a1 ds ∧ TL Wz b1 N b2 M b3 L ∧ Sl 6 Dy.cells Wz a2 ds ∧ Wz.heap[A5]? = some (.cells #[.int .i64 0, .int .i64 0, .slice none 0 0] 56 (0, 0)) ∧ w.heap.size + 1 < A5 ∧ Wz.heap[A7]? = some (.cells #[.int .i64 0, .int .i64 0, .slice none 0 0] 64 (0, 0)) ∧ w.heap.size + 1 < A7 ∧ A5 ≠ A7 ∧ TN A5 b1 N b2 M b3 L ∧ TN A7 b1 N b2 M b3 L) → G 1 (((((lz.setIfInBounds 1 true).setIfInBounds 3 true).setIfInBounds 5 true).setIfInBounds 6 true).setIfInBounds 8 true) (((((az.put (some 38) (wv stock store a1 ds.length c1)).put (some 40) (tv b1 N.length e1 b2 M.length e2 b3 L.length e3)).put (some 42) (wv stock store a2 ds.length c2)).put (some 5) (.pointer (some ⟨A5, 0, none⟩))).put (some 7) (.pointer (some ⟨A7, 0, none⟩))) Wz) ?_ (fun J3101 => ?_)
  · intro Wz a1 c1 b1 e1 b2 e2 b3 e3 a2 c2 A5 A7 Hz
    simp only [Act.put, List.setIfInBounds_toArray, List.set_cons_zero, List.set_cons_succ]
    refine wpAnyH_ready (rs := [7]) (by kernel_rfl) (by simp) ?_
    refine AllReadyH.cons (o := _) rfl (fun K hK => ?_) AllReadyH.nil
    go_simp
    have hb : Below Wz.heap.size Wz (Wz.alloc (.cells #[.slice none 0 0, .slice none 0 0, .slice none 0 0] 58)) := (Below.refl _ _).alloc (Nat.le_refl _) _
    have H2 : Hid (OB w (Wz.alloc (.cells #[.slice none 0 0, .slice none 0 0, .slice none 0 0] 58)) stock store a ds cap an N cn am M cm al L cl ∧ Sl 6 Dy.cells (Wz.alloc (.cells #[.slice none 0 0, .slice none 0 0, .slice none 0 0] 58)) a1 ds ∧ TL (Wz.alloc (.cells #[.slice none 0 0, .slice none 0 0, .slice none 0 0] 58)) b1 N b2 M b3 L ∧ Sl 6 Dy.cells (Wz.alloc (.cells #[.slice none 0 0, .slice none 0 0, .slice none 0 0] 58)) a2 ds ∧ (Wz.alloc (.cells #[.slice none 0 0, .slice none 0 0, .slice none 0 0] 58)).heap[A5]? = some (.cells #[.int .i64 0, .int .i64 0, .slice none 0 0] 56 (0, 0)) ∧ w.heap.size + 1 < A5 ∧ (Wz.alloc (.cells #[.slice none 0 0, .slice none 0 0, .slice none 0 0] 58)).heap[Wz.heap.size]? = some (.cells #[.slice none 0 0, .slice none 0 0, .slice none 0 0] 58 (0, 0)) ∧ w.heap.size + 1 < Wz.heap.size ∧ (Wz.alloc (.cells #[.slice none 0 0, .slice none 0 0, .slice none 0 0] 58)).heap[A7]? = some (.cells #[.int .i64 0, .int .i64 0, .slice none 0 0] 64 (0, 0)) ∧ w.heap.size + 1 < A7 ∧ A5 ≠ Wz.heap.size ∧ A5 ≠ A7 ∧ Wz.heap.size ≠ A7 ∧ TN A5 b1 N b2 M b3 L ∧ TN Wz.heap.size b1 N b2 M b3 L ∧ TN A7 b1 N b2 M b3 L) := ⟨Hz.out.1.below hb, Hz.out.2.1.below hb, Hz.out.2.2.1.below hb, Hz.out.2.2.2.1.below hb, blk_below Hz.out.2.2.2.2.1 hb, Hz.out.2.2.2.2.2.1, heap_alloc_new _ _, Nat.lt_of_succ_le Hz.out.1.sz, blk_below Hz.out.2.2.2.2.2.2.1 hb, Hz.out.2.2.2.2.2.2.2.1, Nat.ne_of_lt (lt_of_block Hz.out.2.2.2.2.1), Hz.out.2.2.2.2.2.2.2.2.1, Nat.ne_of_gt (lt_of_block Hz.out.2.2.2.2.2.2.1), Hz.out.2.2.2.2.2.2.2.2.2.1, Hz.out.2.2.1.new, Hz.out.2.2.2.2.2.2.2.2.2.2⟩
    clear hb
    refine hK.out _ _ ⟨blk_cell H2.out.1.p0 0 rfl, blk_cell H2.out.1.p0 1 rfl, blk_cell H2.out.1.p0 2 rfl, blk_cell H2.out.1.p1 0 rfl, blk_cell H2.out.1.p1 1 rfl, blk_cell H2.out.1.p1 2 rfl⟩ (fun _ => ?_)
    clear hK
    simp only [List.setIfInBounds_toArray, List.set_cons_zero, List.set_cons_succ]
    exact J3111 _ a1 c1 b1 e1 b2 e2 b3 e3 a2 c2 A5 _ A7 H2
  simp only [Act.put, List.setIfInBounds_toArray, List.set_cons_zero, List.set_cons_succ] at J3101
  refine with_join (fun G lz az => ∀ (Wz : World) (a1 : Option Addr) (c1 : Nat) (b1 : Option Addr) (e1 : Nat) (b2 : Option Addr) (e2 : Nat) (b3 : Option Addr) (e3 : Nat) (a2 : Option Addr) (c2 : Nat) (A6 : Nat) (A7 : Nat), Hid (OB w Wz stock store a ds cap an N cn am M cm al L cl ∧ Sl 6 Dy.cells Wz a1 ds ∧ TL Wz b1 N b2 M b3 L ∧ Sl 6 Dy.cells Wz a2 ds ∧ Wz.heap[A6]? = some (.cells #[.slice none 0 0, .slice none 0 0, .slice none 0 0] 58 (0, 0)) ∧ w.heap.size + 1 < A6 ∧ Wz.heap[A7]? = some (.cells #[.int .i64 0, .int .i64 0, .slice none 0 0] 64 (0, 0)) ∧ w.heap.size + 1 < A7 ∧ A6 ≠ A7 ∧ TN A6 b1 N b2 M b3 L ∧ TN A7 b1 N b2 M b3 L) → G 1 (((((lz.setIfInBounds 1 true).setIfInBounds 3 true).setIfInBounds 5 true).setIfInBounds 7 true).setIfInBounds 8 true) (((((az.put (some 38) (wv stock store a1 ds.length c1)).put (some 40) (tv b1 N.length e1 b2 M.length e2 b3 L.length e3)).put (some 42) (wv stock store a2 ds.length c2)).put (some 6) (.pointer (some ⟨A6, 0, none⟩))).put (some 7) (.pointer (some ⟨A7, 0, none⟩))) Wz) ?_ (fun J3011 => ?_)
  · intro Wz a1 c1 b1 e1 b2 e2 b3 e3 a2 c2 A6 A7 Hz
    simp only [Act.put, List.setIfInBounds_toArray, List.set_cons_zero, List.set_cons_succ]
    refine wpAnyH_ready (rs := [6]) (by kernel_rfl) (by simp) ?_
    refine AllReadyH.cons (o := _) rfl (fun K hK => ?_) AllReadyH.nil
    go_simp
    have hb : Below Wz.heap.size Wz (Wz.alloc (.cells #[.int .i64 0, .int .i64 0, .slice none 0 0] 56)) := (Below.refl _ _).alloc (Nat.le_refl _) _
    have H3 : Hid (OB w (Wz.alloc (.cells #[.int .i64 0, .int .i64 0, .slice none 0 0] 56)) stock store a ds cap an N cn am M cm al L cl ∧ Sl 6 Dy.cells (Wz.alloc (.cells #[.int .i64 0, .int .i64 0, .slice none 0 0] 56)) a1 ds ∧ TL (Wz.alloc (.cells #[.int .i64 0, .int .i64 0, .slice none 0 0] 56)) b1 N b2 M b3 L ∧ Sl 6 Dy.cells (Wz.alloc (.cells #[.int .i64 0, .int .i64 0, .slice none 0 0] 56)) a2 ds ∧ (Wz.alloc (.cells #[.int .i64 0, .int .i64 0, .slice none 0 0] 56)).heap[Wz.heap.size]? = some (.cells #[.int .i64 0, .int .i64 0, .slice none 0 0] 56 (0, 0)) ∧ w.heap.size + 1 < Wz.heap.size ∧ (Wz.alloc (.cells #[.int .i64 0, .int .i64 0, .slice none 0 0] 56)).heap[A6]? = some (.cells #[.slice none 0 0, .slice none 0 0, .slice none 0 0] 58 (0, 0)) ∧ w.heap.size + 1 < A6 ∧ (Wz.alloc (.cells #[.int .i64 0, .int .i64 0, .slice none 0 0] 56)).heap[A7]? = some (.cells #[.int .i64 0, .int .i64 0, .slice none 0 0] 64 (0, 0)) ∧ w.heap.size + 1 < A7 ∧ Wz.heap.size ≠ A6 ∧ Wz.heap.size ≠ A7 ∧ A6 ≠ A7 ∧ TN Wz.heap.size b1 N b2 M b3 L ∧ TN A6 b1 N b2 M b3 L ∧ TN A7 b1 N b2 M b3 L) := ⟨Hz.out.1.below hb, Hz.out.2.1.below hb, Hz.out.2.2.1.below hb, Hz.out.2.2.2.1.below hb, heap_alloc_new _ _, Nat.lt_of_succ_le Hz.out.1.sz, blk_below Hz.out.2.2.2.2.1 hb, Hz.out.2.2.2.2.2.1, blk_below Hz.out.2.2.2.2.2.2.1 hb, Hz.out.2.2.2.2.2.2.2.1, Nat.ne_of_gt (lt_of_block Hz.out.2.2.2.2.1), Nat.ne_of_gt (lt_of_block Hz.out.2.2.2.2.2.2.1), Hz.out.2.2.2.2.2.2.2.2.1, Hz.out.2.2.1.new, Hz.out.2.2.2.2.2.2.2.2.2.1, Hz.out.2.2.2.2.2.2.2.2.2.2⟩
    clear hb
    refine hK.out _ _ ⟨blk_cell H3.out.1.p0 0 rfl, blk_cell H3.out.1.p0 1 rfl, blk_cell H3.out.1.p0 2 rfl, blk_cell H3.out.1.p1 0 rfl, blk_cell H3.out.1.p1 1 rfl, blk_cell H3.out.1.p1 2 rfl⟩ (fun _ => ?_)
    clear hK
    simp only [List.setIfInBounds_toArray, List.set_cons_zero, List.set_cons_succ]
    exact J3111 _ a1 c1 b1 e1 b2 e2 b3 e3 a2 c2 _ A6 A7 H3
  simp only [Act.put, List.setIfInBounds_toArray, List.set_cons_zero, List.set_cons_succ] at J3011
  refine with_join (fun G lz az => ∀ (Wz : World) (a1 : Option Addr) (c1 : Nat) (b1 : Option Addr) (e1 : Nat) (b2 : Option Addr) (e2 : Nat) (b3 : Option Addr) (e3 : Nat) (A5 : Nat) (A6 : Nat) (A7 : Nat), Hid (OB w Wz stock store a ds cap an N cn am M cm al L cl ∧ Sl 6 Dy.cells Wz a1 ds ∧ TL Wz b1 N b2 M b3 L ∧ Wz.heap[A5]? = some (.cells #[.int .i64 0, .int .i64 0, .slice none 0 0] 56 (0, 0)) ∧ w.heap.size + 1 < A5 ∧ Wz.heap[A6]? = some (.cells #[.slice none 0 0, .slice none 0 0, .slice none 0 0] 58 (0, 0)) ∧ w.heap.size + 1 < A6 ∧ Wz.heap[A7]? = some (.cells #[.int .i64 0, .int .i64 0, .slice none 0 0] 64 (0, 0)) ∧ w.heap.size + 1 < A7 ∧ A5 ≠ A6 ∧ A5 ≠ A7 ∧ A6 ≠ A7 ∧ TN A5 b1 N b2 M b3 L ∧ TN A6 b1 N b2 M b3 L ∧ TN A7 b1 N b2 M b3 L) → G 1 (((((lz.setIfInBounds 1 true).setIfInBounds 3 true).setIfInBounds 6 true).setIfInBounds 7 true).setIfInBounds 8 true) (((((az.put (some 38) (wv stock store a1 ds.length c1)).put (some 40) (tv b1 N.length e1 b2 M.length e2 b3 L.length e3)).put (some 5) (.pointer (some ⟨A5, 0, none⟩))).put (some 6) (.pointer (some ⟨A6, 0, none⟩))).put (some 7) (.pointer (some ⟨A7, 0, none⟩))) Wz) ?_ (fun J2111 => ?_)
  · intro Wz a1 c1 b1 e1 b2 e2 b3 e3 A5 A6 A7 Hz
    simp only [Act.put, List.setIfInBounds_toArray, List.set_cons_zero, List.set_cons_succ]
    refine wpAnyH_ready (rs := [5]) (by kernel_rfl) (by simp) ?_
    refine AllReadyH.cons (o := _) rfl (fun K hK => ?_) AllReadyH.nil
    go_simp
    go_at_call 28
    refine (winter_any stock store a ds cap Wz Hz.out.1.x HL.out.1).mono ?_
    rintro e W4 ⟨a2, c2, rfl, hs, hb⟩
    have H4 : Hid (OB w W4 stock store a ds cap an N cn am M cm al L cl ∧ Sl 6 Dy.cells W4 a1 ds ∧ TL W4 b1 N b2 M b3 L ∧ Sl 6 Dy.cells W4 a2 ds ∧ W4.heap[A5]? = some (.cells #[.int .i64 0, .int .i64 0, .slice none 0 0] 56 (0, 0)) ∧ w.heap.size + 1 < A5 ∧ W4.heap[A6]? = some (.cells #[.slice none 0 0, .slice none 0 0, .slice none 0 0] 58 (0, 0)) ∧ w.heap.size + 1 < A6 ∧ W4.heap[A7]? = some (.cells #[.int .i64 0, .int .i64 0, .slice none 0 0] 64 (0, 0)) ∧ w.heap.size + 1 < A7 ∧ A5 ≠ A6 ∧ A5 ≠ A7 ∧ A6 ≠ A7 ∧ TN A5 b1 N b2 M b3 L ∧ TN A6 b1 N b2 M b3 L ∧ TN A7 b1 N b2 M b3 L) := ⟨Hz.out.1.below hb, Hz.out.2.1.below hb, Hz.out.2.2.1.below hb, hs, blk_below Hz.out.2.2.2.1 hb, Hz.out.2.2.2.2.1, blk_below Hz.out.2.2.2.2.2.1 hb, Hz.out.2.2.2.2.2.2.1, blk_below Hz.out.2.2.2.2.2.2.2.1 hb, Hz.out.2.2.2.2.2.2.2.2.1, Hz.out.2.2.2.2.2.2.2.2.2.1, Hz.out.2.2.2.2.2.2.2.2.2.2.1, Hz.out.2.2.2.2.2.2.2.2.2.2.2.1, Hz.out.2.2.2.2.2.2.2.2.2.2.2.2.1, Hz.out.2.2.2.2.2.2.2.2.2.2.2.2.2.1, Hz.out.2.2.2.2.2.2.2.2.2.2.2.2.2.2⟩
    clear hs hb
    refine hK.out _ _ ⟨blk_cell H4.out.1.p0 0 rfl, blk_cell H4.out.1.p0 1 rfl, blk_cell H4.out.1.p0 2 rfl, blk_cell H4.out.1.p1 0 rfl, blk_cell H4.out.1.p1 1 rfl, blk_cell H4.out.1.p1 2 rfl⟩ (fun _ => ?_)
    clear hK
    simp only [List.setIfInBounds_toArray, List.set_cons_zero, List.set_cons_succ]
    exact J3111 _ a1 c1 b1 e1 b2 e2 b3 e3 a2 c2 A5 A6 A7 H4
  simp only [Act.put, List.setIfInBounds_toArray, List.set_cons_zero, List.set_cons_succ] at J2111
  refine with_join (fun G lz az => ∀ (Wz : World) (a1 : Option Addr) (c1 : Nat) (b1 : Option Addr) (e1 : Nat) (b2 : Option Addr) (e2 : Nat) (b3 : Option Addr) (e3 : Nat) (a2 : Option Addr) (c2 : Nat) (A5 : Nat), Hid (OB w Wz stock store a ds cap an N cn am M cm al L cl ∧ Sl 6 Dy.cells Wz a1 ds ∧ TL Wz b1 N b2 M b3 L ∧ Sl 6 Dy.cells Wz a2 ds ∧ Wz.heap[A5]? = some (.cells #[.int .i64 0, .int .i64 0, .slice none 0 0] 56 (0, 0)) ∧ w.heap.size + 1 < A5 ∧ TN A5 b1 N b2 M b3 L) → G 2 ((((lz.setIfInBounds 1 true).setIfInBounds 3 true).setIfInBounds 5 true).setIfInBounds 6 true) ((((az.put (some 38) (wv stock store a1 ds.length c1)).put (some 40) (tv b1 N.length e1 b2 M.length e2 b3 L.length e3)).put (some 42) (wv stock store a2 ds.length c2)).put (some 5) (.pointer (some ⟨A5, 0, none⟩))) Wz) ?_ (fun J3100 => ?_)
  · intro Wz a1 c1 b1 e1 b2 e2 b3 e3 a2 c2 A5 Hz
    simp only [Act.put, List.setIfInBounds_toArray, List.set_cons_zero, List.set_cons_succ]
    refine wpAnyH_ready (rs := [7, 8]) (by kernel_rfl) (by simp) ?_
    refine AllReadyH.cons (o := _) rfl (fun K hK => ?_) ?_
    · go_simp
      have hb : Below Wz.heap.size Wz (Wz.alloc (.cells #[.slice none 0 0, .slice none 0 0, .slice none 0 0] 58)) := (Below.refl _ _).alloc (Nat.le_refl _) _
      have H5 : Hid (OB w (Wz.alloc (.cells #[.slice none 0 0, .slice none 0 0, .slice none 0 0] 58)) stock store a ds cap an N cn am M cm al L cl ∧ Sl 6 Dy.cells (Wz.alloc (.cells #[.slice none 0 0, .slice none 0 0, .slice none 0 0] 58)) a1 ds ∧ TL (Wz.alloc (.cells #[.slice none 0 0, .slice none 0 0, .slice none 0 0] 58)) b1 N b2 M b3 L ∧ Sl 6 Dy.cells (Wz.alloc (.cells #[.slice none 0 0, .slice none 0 0, .slice none 0 0] 58)) a2 ds ∧ (Wz.alloc (.cells #[.slice none 0 0, .slice none 0 0, .slice none 0 0] 58)).heap[A5]? = some (.cells #[.int .i64 0, .int .i64 0, .slice none 0 0] 56 (0, 0)) ∧ w.heap.size + 1 < A5 ∧ (Wz.alloc (.cells #[.slice none 0 0, .slice none 0 0, .slice none 0 0] 58)).heap[Wz.heap.size]? = some (.cells #[.slice none 0 0, .slice none 0 0, .slice none 0 0] 58 (0, 0)) ∧ w.heap.size + 1 < Wz.heap.size ∧ A5 ≠ Wz.heap.size ∧ TN A5 b1 N b2 M b3 L ∧ TN Wz.heap.size b1 N b2 M b3 L) := ⟨Hz.out.1.below hb, Hz.out.2.1.below hb, Hz.out.2.2.1.below hb, Hz.out.2.2.2.1.below hb, blk_below Hz.out.2.2.2.2.1 hb, Hz.out.2.2.2.2.2.1, heap_alloc_new _ _, Nat.lt_of_succ_le Hz.out.1.sz, Nat.ne_of_lt (lt_of_block Hz.out.2.2.2.2.1), Hz.out.2.2.2.2.2.2, Hz.out.2.2.1.new⟩
      clear hb
      refine hK.out _ _ ⟨blk_cell H5.out.1.p0 0 rfl, blk_cell H5.out.1.p0 1 rfl, blk_cell H5.out.1.p0 2 rfl, blk_cell H5.out.1.p1 0 rfl, blk_cell H5.out.1.p1 1 rfl, blk_cell H5.out.1.p1 2 rfl⟩ (fun _ => ?_)
      clear hK
      simp only [List.setIfInBounds_toArray, List.set_cons_zero, List.set_cons_succ]
      exact J3110 _ a1 c1 b1 e1 b2 e2 b3 e3 a2 c2 A5 _ H5
    refine AllReadyH.cons (o := _) rfl (fun K hK => ?_) AllReadyH.nil
    go_simp
    have hb : Below Wz.heap.size Wz (Wz.alloc (.cells #[.int .i64 0, .int .i64 0, .slice none 0 0] 64)) := (Below.refl _ _).alloc (Nat.le_refl _) _
    have H6 : Hid (OB w (Wz.alloc (.cells #[.int .i64 0, .int .i64 0, .slice none 0 0] 64)) stock store a ds cap an N cn am M cm al L cl ∧ Sl 6 Dy.cells (Wz.alloc (.cells #[.int .i64 0, .int .i64 0, .slice none 0 0] 64)) a1 ds ∧ TL (Wz.alloc (.cells #[.int .i64 0, .int .i64 0, .slice none 0 0] 64)) b1 N b2 M b3 L ∧ Sl 6 Dy.cells (Wz.alloc (.cells #[.int .i64 0, .int .i64 0, .slice none 0 0] 64)) a2 ds ∧ (Wz.alloc (.cells #[.int .i64 0, .int .i64 0, .slice none 0 0] 64)).heap[A5]? = some (.cells #[.int .i64 0, .int .i64 0, .slice none 0 0] 56 (0, 0)) ∧ w.heap.size + 1 < A5 ∧ (Wz.alloc (.cells #[.int .i64 0, .int .i64 0, .slice none 0 0] 64)).heap[Wz.heap.size]? = some (.cells #[.int .i64 0, .int .i64 0, .slice none 0 0] 64 (0, 0)) ∧ w.heap.size + 1 < Wz.heap.size ∧ A5 ≠ Wz.heap.size ∧ TN A5 b1 N b2 M b3 L ∧ TN Wz.heap.size b1 N b2 M b3 L) := ⟨Hz.out.1.below hb, Hz.out.2.1.below hb, Hz.out.2.2.1.below hb, Hz.out.2.2.2.1.below hb, blk_below Hz.out.2.2.2.2.1 hb, Hz.out.2.2.2.2.2.1, heap_alloc_new _ _, Nat.lt_of_succ_le Hz.out.1.sz, Nat.ne_of_lt (lt_of_block Hz.out.2.2.2.2.1), Hz.out.2.2.2.2.2.2, Hz.out.2.2.1.new⟩
    clear hb
    refine hK.out _ _ ⟨blk_cell H6.out.1.p0 0 rfl, blk_cell H6.out.1.p0 1 rfl, blk_cell H6.out.1.p0 2 rfl, blk_cell H6.out.1.p1 0 rfl, blk_cell H6.out.1.p1 1 rfl, blk_cell H6.out.1.p1 2 rfl⟩ (fun _ => ?_)
    clear hK
    simp only [List.setIfInBounds_toArray, List.set_cons_zero, List.set_cons_succ]
    exact J3101 _ a1 c1 b1 e1 b2 e2 b3 e3 a2 c2 A5 _ H6
  simp only [Act.put, List.setIfInBounds_toArray, List.set_cons_zero, List.set_cons_succ] at J3100
  refine with_join (fun G lz az => ∀ (Wz : World) (a1 : Option Addr) (c1 : Nat) (b1 : Option Addr) (e1 : Nat) (b2 : Option Addr) (e2 : Nat) (b3 : Option Addr) (e3 : Nat) (a2 : Option Addr) (c2 : Nat) (A6 : Nat), Hid (OB w Wz stock store a ds cap an N cn am M cm al L cl ∧ Sl 6 Dy.cells Wz a1 ds ∧ TL Wz b1 N b2 M b3 L ∧ Sl 6 Dy.cells Wz a2 ds ∧ Wz.heap[A6]? = some (.cells #[.slice none 0 0, .slice none 0 0, .slice none 0 0] 58 (0, 0)) ∧ w.heap.size + 1 < A6 ∧ TN A6 b1 N b2 M b3 L) → G 2 ((((lz.setIfInBounds 1 true).setIfInBounds 3 true).setIfInBounds 5 true).setIfInBounds 7 true) ((((az.put (some 38) (wv stock store a1 ds.length c1)).put (some 40) (tv b1 N.length e1 b2 M.length e2 b3 L.length e3)).put (some 42) (wv stock store a2 ds.length c2)).put (some 6) (.pointer (some ⟨A6, 0, none⟩))) Wz) ?_ (fun J3010 => ?_)
  · intro Wz a1 c1 b1 e1 b2 e2 b3 e3 a2 c2 A6 Hz
    simp only [Act.put, List.setIfInBounds_toArray, List.set_cons_zero, List.set_cons_succ]
    refine wpAnyH_ready (rs := [6, 8]) (by kernel_rfl) (by simp) ?_
    refine AllReadyH.cons (o := _) rfl (fun K hK => ?_) ?_
    · go_simp
      have hb : Below Wz.heap.size Wz (Wz.alloc (.cells #[.int .i64 0, .int .i64 0, .slice none 0 0] 56)) := (Below.refl _ _).alloc (Nat.le_refl _) _
      have H7 : Hid (OB w (Wz.alloc (.cells #[.int .i64 0, .int .i64 0, .slice none 0 0] 56)) stock store a ds cap an N cn am M cm al L cl ∧ Sl 6 Dy.cells (Wz.alloc (.cells #[.int .i64 0, .int .i64 0, .slice none 0 0] 56)) a1 ds ∧ TL (Wz.alloc (.cells #[.int .i64 0, .int .i64 0, .slice none 0 0] 56)) b1 N b2 M b3 L ∧ Sl 6 Dy.cells (Wz.alloc (.cells #[.int .i64 0, .int .i64 0, .slice none 0 0] 56)) a2 ds ∧ (Wz.alloc (.cells #[.int .i64 0, .int .i64 0, .slice none 0 0] 56)).heap[Wz.heap.size]? = some (.cells #[.int .i64 0, .int .i64 0, .slice none 0 0] 56 (0, 0)) ∧ w.heap.size + 1 < Wz.heap.size ∧ (Wz.alloc (.cells #[.int .i64 0, .int .i64 0, .slice none 0 0] 56)).heap[A6]? = some (.cells #[.slice none 0 0, .slice none 0 0, .slice none 0 0] 58 (0, 0)) ∧ w.heap.size + 1 < A6 ∧ Wz.heap.size ≠ A6 ∧ TN Wz.heap.size b1 N b2 M b3 L ∧ TN A6 b1 N b2 M b3 L) := ⟨Hz.out.1.below hb, Hz.out.2.1.below hb, Hz.out.2.2.1.below hb, Hz.out.2.2.2.1.below hb, heap_alloc_new _ _, Nat.lt_of_succ_le Hz.out.1.sz, blk_below Hz.out.2.2.2.2.1 hb, Hz.out.2.2.2.2.2.1, Nat.ne_of_gt (lt_of_block Hz.out.2.2.2.2.1), Hz.out.2.2.1.new, Hz.out.2.2.2.2.2.2⟩
      clear hb
      refine hK.out _ _ ⟨blk_cell H7.out.1.p0 0 rfl, blk_cell H7.out.1.p0 1 rfl, blk_cell H7.out.1.p0 2 rfl, blk_cell H7.out.1.p1 0 rfl, blk_cell H7.out.1.p1 1 rfl, blk_cell H7.out.1.p1 2 rfl⟩ (fun _ => ?_)
      clear hK
      simp only [List.setIfInBounds_toArray, List.set_cons_zero, List.set_cons_succ]
      exact J3110 _ a1 c1 b1 e1 b2 e2 b3 e3 a2 c2 _ A6 H7
    refine AllReadyH.cons (o := _) rfl (fun K hK => ?_) AllReadyH.nil
    go_simp
    have hb : Below Wz.heap.size Wz (Wz.alloc (.cells #[.int .i64 0, .int .i64 0, .slice none 0 0] 64)) := (Below.refl _ _).alloc (Nat.le_refl _) _
    have H8 : Hid (OB w (Wz.alloc (.cells #[.int .i64 0, .int .i64 0, .slice none 0 0] 64)) stock store a ds cap an N cn am M cm al L cl ∧ Sl 6 Dy.cells (Wz.alloc (.cells #[.int .i64 0, .int .i64 0, .slice none 0 0] 64)) a1 ds ∧ TL (Wz.alloc (.cells #[.int .i64 0, .int .i64 0, .slice none 0 0] 64)) b1 N b2 M b3 L ∧ Sl 6 Dy.cells (Wz.alloc (.cells #[.int .i64 0, .int .i64 0, .slice none 0 0] 64)) a2 ds ∧ (Wz.alloc (.cells #[.int .i64 0, .int .i64 0, .slice none 0 0] 64)).heap[A6]? = some (.cells #[.slice none 0 0, .slice none 0 0, .slice none 0 0] 58 (0, 0)) ∧ w.heap.size + 1 < A6 ∧ (Wz.alloc (.cells #[.int .i64 0, .int .i64 0, .slice none 0 0] 64)).heap[Wz.heap.size]? = some (.cells #[.int .i64 0, .int .i64 0, .slice none 0 0] 64 (0, 0)) ∧ w.heap.size + 1 < Wz.heap.size ∧ A6 ≠ Wz.heap.size ∧ TN A6 b1 N b2 M b3 L ∧ TN Wz.heap.size b1 N b2 M b3 L) := ⟨Hz.out.1.below hb, Hz.out.2.1.below hb, Hz.out.2.2.1.below hb, Hz.out.2.2.2.1.below hb, blk_below Hz.out.2.2.2.2.1 hb, Hz.out.2.2.2.2.2.1, heap_alloc_new _ _, Nat.lt_of_succ_le Hz.out.1.sz, Nat.ne_of_lt (lt_of_block Hz.out.2.2.2.2.1), Hz.out.2.2.2.2.2.2, Hz.out.2.2.1.new⟩
    clear hb
    refine hK.out _ _ ⟨blk_cell H8.out.1.p0 0 rfl, blk_cell H8.out.1.p0 1 rfl, blk_cell H8.out.1.p0 2 rfl, blk_cell H8.out.1.p1 0 rfl, blk_cell H8.out.1.p1 1 rfl, blk_cell H8.out.1.p1 2 rfl⟩ (fun _ => ?_)
    clear hK
    simp only [List.setIfInBounds_toArray, List.set_cons_zero, List.set_cons_succ]
    exact J3011 _ a1 c1 b1 e1 b2 e2 b3 e3 a2 c2 A6 _ H8
  simp only [Act.put, List.setIfInBounds_toArray, List.set_cons_zero, List.set_cons_succ] at J3010
  refine with_join (fun G lz az => ∀ (Wz : World) (a1 : Option Addr) (c1 : Nat) (b1 : Option Addr) (e1 : Nat) (b2 : Option Addr) (e2 : Nat) (b3 : Option Addr) (e3 : Nat) (a2 : Option Addr) (c2 : Nat) (A7 : Nat), Hid (OB w Wz stock store a ds cap an N cn am M cm al L cl ∧ Sl 6 Dy.cells Wz a1 ds ∧ TL Wz b1 N b2 M b3 L ∧ Sl 6 Dy.cells Wz a2 ds ∧ Wz.heap[A7]? = some (.cells #[.int .i64 0, .int .i64 0, .slice none 0 0] 64 (0, 0)) ∧ w.heap.size + 1 < A7 ∧ TN A7 b1 N b2 M b3 L) → G 2 ((((lz.setIfInBounds 1 true).setIfInBounds 3 true).setIfInBounds 5 true).setIfInBounds 8 true) ((((az.put (some 38) (wv stock store a1 ds.length c1)).put (some 40) (tv b1 N.length e1 b2 M.length e2 b3 L.length e3)).put (some 42) (wv stock store a2 ds.length c2)).put (some 7) (.pointer (some ⟨A7, 0, none⟩))) Wz) ?_ (fun J3001 => ?_)
  · intro Wz a1 c1 b1 e1 b2 e2 b3 e3 a2 c2 A7 Hz
    simp only [Act.put, List.setIfInBounds_toArray, List.set_cons_zero, List.set_cons_succ]
    refine wpAnyH_ready (rs := [6, 7]) (by kernel_rfl) (by simp) ?_
    refine AllReadyH.cons (o := _) rfl (fun K hK => ?_) ?_
    · go_simp
      have hb : Below Wz.heap.size Wz (Wz.alloc (.cells #[.int .i64 0, .int .i64 0, .slice none 0 0] 56)) := (Below.refl _ _).alloc (Nat.le_refl _) _
      have H9 : Hid (OB w (Wz.alloc (.cells #[.int .i64 0, .int .i64 0, .slice none 0 0] 56)) stock store a ds cap an N cn am M cm al L cl ∧ Sl 6 Dy.cells (Wz.alloc (.cells #[.int .i64 0, .int .i64 0, .slice none 0 0] 56)) a1 ds ∧ TL (Wz.alloc (.cells #[.int .i64 0, .int .i64 0, .slice none 0 0] 56)) b1 N b2 M b3 L ∧ Sl 6 Dy.cells (Wz.alloc (.cells #[.int .i64 0, .int .i64 0, .slice none 0 0] 56)) a2 ds ∧ (Wz.alloc (.cells #[.int .i64 0, .int .i64 0, .slice none 0 0] 56)).heap[Wz.heap.size]? = some (.cells #[.int .i64 0, .int .i64 0, .slice none 0 0] 56 (0, 0)) ∧ w.heap.size + 1 < Wz.heap.size ∧ (Wz.alloc (.cells #[.int .i64 0, .int .i64 0, .slice none 0 0] 56)).heap[A7]? = some (.cells #[.int .i64 0, .int .i64 0, .slice none 0 0] 64 (0, 0)) ∧ w.heap.size + 1 < A7 ∧ Wz.heap.size ≠ A7 ∧ TN Wz.heap.size b1 N b2 M b3 L ∧ TN A7 b1 N b2 M b3 L) := ⟨Hz.out.1.below hb, Hz.out.2.1.below hb, Hz.out.2.2.1.below hb, Hz.out.2.2.2.1.below hb, heap_alloc_new _ _, Nat.lt_of_succ_le Hz.out.1.sz, blk_below Hz.out.2.2.2.2.1 hb, Hz.out.2.2.2.2.2.1, Nat.ne_of_gt (lt_of_block Hz.out.2.2.2.2.1), Hz.out.2.2.1.new, Hz.out.2.2.2.2.2.2⟩
      clear hb
      refine hK.out _ _ ⟨blk_cell H9.out.1.p0 0 rfl, blk_cell H9.out.1.p0 1 rfl, blk_cell H9.out.1.p0 2 rfl, blk_cell H9.out.1.p1 0 rfl, blk_cell H9.out.1.p1 1 rfl, blk_cell H9.out.1.p1 2 rfl⟩ (fun _ => ?_)
      clear hK
      simp only [List.setIfInBounds_toArray, List.set_cons_zero, List.set_cons_succ]
      exact J3101 _ a1 c1 b1 e1 b2 e2 b3 e3 a2 c2 _ A7 H9
    refine AllReadyH.cons (o := _) rfl (fun K hK => ?_) AllReadyH.nil
    go_simp
    have hb : Below Wz.heap.size Wz (Wz.alloc (.cells #[.slice none 0 0, .slice none 0 0, .slice none 0 0] 58)) := (Below.refl _ _).alloc (Nat.le_refl _) _
    have H10 : Hid (OB w (Wz.alloc (.cells #[.slice none 0 0, .slice none 0 0, .slice none 0 0] 58)) stock store a ds cap an N cn am M cm al L cl ∧ Sl 6 Dy.cells (Wz.alloc (.cells #[.slice none 0 0, .slice none 0 0, .slice none 0 0] 58)) a1 ds ∧ TL (Wz.alloc (.cells #[.slice none 0 0, .slice none 0 0, .slice none 0 0] 58)) b1 N b2 M b3 L ∧ Sl 6 Dy.cells (Wz.alloc (.cells #[.slice none 0 0, .slice none 0 0, .slice none 0 0] 58)) a2 ds ∧ (Wz.alloc (.cells #[.slice none 0 0, .slice none 0 0, .slice none 0 0] 58)).heap[Wz.heap.size]? = some (.cells #[.slice none 0 0, .slice none 0 0, .slice none 0 0] 58 (0, 0)) ∧ w.heap.size + 1 < Wz.heap.size ∧ (Wz.alloc (.cells #[.slice none 0 0, .slice none 0 0, .slice none 0 0] 58)).heap[A7]? = some (.cells #[.int .i64 0, .int .i64 0, .slice none 0 0] 64 (0, 0)) ∧ w.heap.size + 1 < A7 ∧ Wz.heap.size ≠ A7 ∧ TN Wz.heap.size b1 N b2 M b3 L ∧ TN A7 b1 N b2 M b3 L) := ⟨Hz.out.1.below hb, Hz.out.2.1.below hb, Hz.out.2.2.1.below hb, Hz.out.2.2.2.1.below hb, heap_alloc_new _ _, Nat.lt_of_succ_le Hz.out.1.sz, blk_below Hz.out.2.2.2.2.1 hb, Hz.out.2.2.2.2.2.1, Nat.ne_of_gt (lt_of_block Hz.out.2.2.2.2.1), Hz.out.2.2.1.new, Hz.out.2.2.2.2.2.2⟩
    clear hb
    refine hK.out _ _ ⟨blk_cell H10.out.1.p0 0 rfl, blk_cell H10.out.1.p0 1 rfl, blk_cell H10.out.1.p0 2 rfl, blk_cell H10.out.1.p1 0 rfl, blk_cell H10.out.1.p1 1 rfl, blk_cell H10.out.1.p1 2 rfl⟩ (fun _ => ?_)
    clear hK
    simp only [List.setIfInBounds_toArray, List.set_cons_zero, List.set_cons_succ]
    exact J3011 _ a1 c1 b1 e1 b2 e2 b3 e3 a2 c2 _ A7 H10
  simp only [Act.put, List.setIfInBounds_toArray, List.set_cons_zero, List.set_cons_succ] at J3001
  refine with_join (fun G lz az => ∀ (Wz : World) (a1 : Option Addr) (c1 : Nat) (b1 : Option Addr) (e1 : Nat) (b2 : Option Addr) (e2 : Nat) (b3 : Option Addr) (e3 : Nat) (A5 : Nat) (A6 : Nat), Hid (OB w Wz stock store a ds cap an N cn am M cm al L cl ∧ Sl 6 Dy.cells Wz a1 ds ∧ TL Wz b1 N b2 M b3 L ∧ Wz.heap[A5]? = some (.cells #[.int .i64 0, .int .i64 0, .slice none 0 0] 56 (0, 0)) ∧ w.heap.size + 1 < A5 ∧ Wz.heap[A6]? = some (.cells #[.slice none 0 0, .slice none 0 0, .slice none 0 0] 58 (0, 0)) ∧ w.heap.size + 1 < A6 ∧ A5 ≠ A6 ∧ TN A5 b1 N b2 M b3 L ∧ TN A6 b1 N b2 M b3 L) → G 2 ((((lz.setIfInBounds 1 true).setIfInBounds 3 true).setIfInBounds 6 true).setIfInBounds 7 true) ((((az.put (some 38) (wv stock store a1 ds.length c1)).put (some 40) (tv b1 N.length e1 b2 M.length e2 b3 L.length e3)).put (some 5) (.pointer (some ⟨A5, 0, none⟩))).put (some 6) (.pointer (some ⟨A6, 0, none⟩))) Wz) ?_ (fun J2110 => ?_)
  · intro Wz a1 c1 b1 e1 b2 e2 b3 e3 A5 A6 Hz
    simp only [Act.put, List.setIfInBounds_toArray, List.set_cons_zero, List.set_cons_succ]
    refine wpAnyH_ready (rs := [5, 8]) (by kernel_rfl) (by simp) ?_
    refine AllReadyH.cons (o := _) rfl (fun K hK => ?_) ?_
    · go_simp
      go_at_call 28
      refine (winter_any stock store a ds cap Wz Hz.out.1.x HL.out.1).mono ?_
      rintro e W11 ⟨a2, c2, rfl, hs, hb⟩
      have H11 : Hid (OB w W11 stock store a ds cap an N cn am M cm al L cl ∧ Sl 6 Dy.cells W11 a1 ds ∧ TL W11 b1 N b2 M b3 L ∧ Sl 6 Dy.cells W11 a2 ds ∧ W11.heap[A5]? = some (.cells #[.int .i64 0, .int .i64 0, .slice none 0 0] 56 (0, 0)) ∧ w.heap.size + 1 < A5 ∧ W11.heap[A6]? = some (.cells #[.slice none 0 0, .slice none 0 0, .slice none 0 0] 58 (0, 0)) ∧ w.heap.size + 1 < A6 ∧ A5 ≠ A6 ∧ TN A5 b1 N b2 M b3 L ∧ TN A6 b1 N b2 M b3 L) := ⟨Hz.out.1.below hb, Hz.out.2.1.below hb, Hz.out.2.2.1.below hb, hs, blk_below Hz.out.2.2.2.1 hb, Hz.out.2.2.2.2.1, blk_below Hz.out.2.2.2.2.2.1 hb, Hz.out.2.2.2.2.2.2.1, Hz.out.2.2.2.2.2.2.2.1, Hz.out.2.2.2.2.2.2.2.2.1, Hz.out.2.2.2.2.2.2.2.2.2⟩
      clear hs hb
      refine hK.out _ _ ⟨blk_cell H11.out.1.p0 0 rfl, blk_cell H11.out.1.p0 1 rfl, blk_cell H11.out.1.p0 2 rfl, blk_cell H11.out.1.p1 0 rfl, blk_cell H11.out.1.p1 1 rfl, blk_cell H11.out.1.p1 2 rfl⟩ (fun _ => ?_)
      clear hK
      simp only [List.setIfInBounds_toArray, List.set_cons_zero, List.set_cons_succ]
      exact J3110 _ a1 c1 b1 e1 b2 e2 b3 e3 a2 c2 A5 A6 H11
    refine AllReadyH.cons (o := _) rfl (fun K hK => ?_) AllReadyH.nil
    go_simp
    have hb : Below Wz.heap.size Wz (Wz.alloc (.cells #[.int .i64 0, .int .i64 0, .slice none 0 0] 64)) := (Below.refl _ _).alloc (Nat.le_refl _) _
    have H12 : Hid (OB w (Wz.alloc (.cells #[.int .i64 0, .int .i64 0, .slice none 0 0] 64)) stock store a ds cap an N cn am M cm al L cl ∧ Sl 6 Dy.cells (Wz.alloc (.cells #[.int .i64 0, .int .i64 0, .slice none 0 0] 64)) a1 ds ∧ TL (Wz.alloc (.cells #[.int .i64 0, .int .i64 0, .slice none 0 0] 64)) b1 N b2 M b3 L ∧ (Wz.alloc (.cells #[.int .i64 0, .int .i64 0, .slice none 0 0] 64)).heap[A5]? = some (.cells #[.int .i64 0, .int .i64 0, .slice none 0 0] 56 (0, 0)) ∧ w.heap.size + 1 < A5 ∧ (Wz.alloc (.cells #[.int .i64 0, .int .i64 0, .slice none 0 0] 64)).heap[A6]? = some (.cells #[.slice none 0 0, .slice none 0 0, .slice none 0 0] 58 (0, 0)) ∧ w.heap.size + 1 < A6 ∧ (Wz.alloc (.cells #[.int .i64 0, .int .i64 0, .slice none 0 0] 64)).heap[Wz.heap.size]? = some (.cells #[.int .i64 0, .int .i64 0, .slice none 0 0] 64 (0, 0)) ∧ w.heap.size + 1 < Wz.heap.size ∧ A5 ≠ A6 ∧ A5 ≠ Wz.heap.size ∧ A6 ≠ Wz.heap.size ∧ TN A5 b1 N b2 M b3 L ∧ TN A6 b1 N b2 M b3 L ∧ TN Wz.heap.size b1 N b2 M b3 L) := ⟨Hz.out.1.below hb, Hz.out.2.1.below hb, Hz.out.2.2.1.below hb, blk_below Hz.out.2.2.2.1 hb, Hz.out.2.2.2.2.1, blk_below Hz.out.2.2.2.2.2.1 hb, Hz.out.2.2.2.2.2.2.1, heap_alloc_new _ _, Nat.lt_of_succ_le Hz.out.1.sz, Hz.out.2.2.2.2.2.2.2.1, Nat.ne_of_lt (lt_of_block Hz.out.2.2.2.1), Nat.ne_of_lt (lt_of_block Hz.out.2.2.2.2.2.1), Hz.out.2.2.2.2.2.2.2.2.1, Hz.out.2.2.2.2.2.2.2.2.2, Hz.out.2.2.1.new⟩
    clear hb
    refine hK.out _ _ ⟨blk_cell H12.out.1.p0 0 rfl, blk_cell H12.out.1.p0 1 rfl, blk_cell H12.out.1.p0 2 rfl, blk_cell H12.out.1.p1 0 rfl, blk_cell H12.out.1.p1 1 rfl, blk_cell H12.out.1.p1 2 rfl⟩ (fun _ => ?_)
    clear hK
    simp only [List.setIfInBounds_toArray, List.set_cons_zero, List.set_cons_succ]
    exact J2111 _ a1 c1 b1 e1 b2 e2 b3 e3 A5 A6 _ H12
  simp only [Act.put, List.setIfInBounds_toArray, List.set_cons_zero, List.set_cons_succ] at J2110
  refine with_join (fun G lz az => ∀ (Wz : World) (a1 : Option Addr) (c1 : Nat) (b1 : Option Addr) (e1 : Nat) (b2 : Option Addr) (e2 : Nat) (b3 : Option Addr) (e3 : Nat) (A5 : Nat) (A7 : Nat), Hid (OB w Wz stock store a ds cap an N cn am M cm al L cl ∧ Sl 6 Dy.cells Wz a1 ds ∧ TL Wz b1 N b2 M b3 L ∧ Wz.heap[A5]? = some (.cells #[.int .i64 0, .int .i64 0, .slice none 0 0] 56 (0, 0)) ∧ w.heap.size + 1 < A5 ∧ Wz.heap[A7]? = some (.cells #[.int .i64 0, .int .i64 0, .slice none 0 0] 64 (0, 0)) ∧ w.heap.size + 1 < A7 ∧ A5 ≠ A7 ∧ TN A5 b1 N b2 M b3 L ∧ TN A7 b1 N b2 M b3 L) → G 2 ((((lz.setIfInBounds 1 true).setIfInBounds 3 true).setIfInBounds 6 true).setIfInBounds 8 true) ((((az.put (some 38) (wv stock store a1 ds.length c1)).put (some 40) (tv b1 N.length e1 b2 M.length e2 b3 L.length e3)).put (some 5) (.pointer (some ⟨A5, 0, none⟩))).put (some 7) (.pointer (some ⟨A7, 0, none⟩))) Wz) ?_ (fun J2101 => ?_)
  · intro Wz a1 c1 b1 e1 b2 e2 b3 e3 A5 A7 Hz
    simp only [Act.put, List.setIfInBounds_toArray, List.set_cons_zero, List.set_cons_succ]
    refine wpAnyH_ready (rs := [5, 7]) (by kernel_rfl) (by simp) ?_
    refine AllReadyH.cons (o := _) rfl (fun K hK => ?_) ?_
    · go_simp
      go_at_call 28
      refine (winter_any stock store a ds cap Wz Hz.out.1.x HL.out.1).mono ?_
      rintro e W13 ⟨a2, c2, rfl, hs, hb⟩
      have H13 : Hid (OB w W13 stock store a ds cap an N cn am M cm al L cl ∧ Sl 6 Dy.cells W13 a1 ds ∧ TL W13 b1 N b2 M b3 L ∧ Sl 6 Dy.cells W13 a2 ds ∧ W13.heap[A5]? = some (.cells #[.int .i64 0, .int .i64 0, .slice none 0 0] 56 (0, 0)) ∧ w.heap.size + 1 < A5 ∧ W13.heap[A7]? = some (.cells #[.int .i64 0, .int .i64 0, .slice none 0 0] 64 (0, 0)) ∧ w.heap.size + 1 < A7 ∧ A5 ≠ A7 ∧ TN A5 b1 N b2 M b3 L ∧ TN A7 b1 N b2 M b3 L) := ⟨Hz.out.1.below hb, Hz.out.2.1.below hb, Hz.out.2.2.1.below hb, hs, blk_below Hz.out.2.2.2.1 hb, Hz.out.2.2.2.2.1, blk_below Hz.out.2.2.2.2.2.1 hb, Hz.out.2.2.2.2.2.2.1, Hz.out.2.2.2.2.2.2.2.1, Hz.out.2.2.2.2.2.2.2.2.1, Hz.out.2.2.2.2.2.2.2.2.2⟩
      clear hs hb
      refine hK.out _ _ ⟨blk_cell H13.out.1.p0 0 rfl, blk_cell H13.out.1.p0 1 rfl, blk_cell H13.out.1.p0 2 rfl, blk_cell H13.out.1.p1 0 rfl, blk_cell H13.out.1.p1 1 rfl, blk_cell H13.out.1.p1 2 rfl⟩ (fun _ => ?_)
      clear hK
      simp only [List.setIfInBounds_toArray, List.set_cons_zero, List.set_cons_succ]
      exact J3101 _ a1 c1 b1 e1 b2 e2 b3 e3 a2 c2 A5 A7 H13
    refine AllReadyH.cons (o := _) rfl (fun K hK => ?_) AllReadyH.nil
    go_simp
    have hb : Below Wz.heap.size Wz (Wz.alloc (.cells #[.slice none 0 0, .slice none 0 0, .slice none 0 0] 58)) := (Below.refl _ _).alloc (Nat.le_refl _) _
    have H14 : Hid (OB w (Wz.alloc (.cells #[.slice none 0 0, .slice none 0 0, .slice none 0 0] 58)) stock store a ds cap an N cn am M cm al L cl ∧ Sl 6 Dy.cells (Wz.alloc (.cells #[.slice none 0 0, .slice none 0 0, .slice none 0 0] 58)) a1 ds ∧ TL (Wz.alloc (.cells #[.slice none 0 0, .slice none 0 0, .slice none 0 0] 58)) b1 N b2 M b3 L ∧ (Wz.alloc (.cells #[.slice none 0 0, .slice none 0 0, .slice none 0 0] 58)).heap[A5]? = some (.cells #[.int .i64 0, .int .i64 0, .slice none 0 0] 56 (0, 0)) ∧ w.heap.size + 1 < A5 ∧ (Wz.alloc (.cells #[.slice none 0 0, .slice none 0 0, .slice none 0 0] 58)).heap[Wz.heap.size]? = some (.cells #[.slice none 0 0, .slice none 0 0, .slice none 0 0] 58 (0, 0)) ∧ w.heap.size + 1 < Wz.heap.size ∧ (Wz.alloc (.cells #[.slice none 0 0, .slice none 0 0, .slice none 0 0] 58)).heap[A7]? = some (.cells #[.int .i64 0, .int .i64 0, .slice none 0 0] 64 (0, 0)) ∧ w.heap.size + 1 < A7 ∧ A5 ≠ Wz.heap.size ∧ A5 ≠ A7 ∧ Wz.heap.size ≠ A7 ∧ TN A5 b1 N b2 M b3 L ∧ TN Wz.heap.size b1 N b2 M b3 L ∧ TN A7 b1 N b2 M b3 L) := ⟨Hz.out.1.below hb, Hz.out.2.1.below hb, Hz.out.2.2.1.below hb, blk_below Hz.out.2.2.2.1 hb, Hz.out.2.2.2.2.1, heap_alloc_new _ _, Nat.lt_of_succ_le Hz.out.1.sz, blk_below Hz.out.2.2.2.2.2.1 hb, Hz.out.2.2.2.2.2.2.1, Nat.ne_of_lt (lt_of_block Hz.out.2.2.2.1), Hz.out.2.2.2.2.2.2.2.1, Nat.ne_of_gt (lt_of_block Hz.out.2.2.2.2.2.1), Hz.out.2.2.2.2.2.2.2.2.1, Hz.out.2.2.1.new, Hz.out.2.2.2.2.2.2.2.2.2⟩
    clear hb
    refine hK.out _ _ ⟨blk_cell H14.out.1.p0 0 rfl, blk_cell H14.out.1.p0 1 rfl, blk_cell H14.out.1.p0 2 rfl, blk_cell H14.out.1.p1 0 rfl, blk_cell H14.out.1.p1 1 rfl, blk_cell H14.out.1.p1 2 rfl⟩ (fun _ => ?_)
    clear hK
    simp only [List.setIfInBounds_toArray, List.set_cons_zero, List.set_cons_succ]
    exact J2111 _ a1 c1 b1 e1 b2 e2 b3 e3 A5 _ A7 H14
  simp only [Act.put, List.setIfInBounds_toArray, List.set_cons_zero, List.set_cons_succ] at J2101
  refine with_join (fun G lz az => ∀ (Wz : World) (a1 : Option Addr) (c1 : Nat) (b1 : Option Addr) (e1 : Nat) (b2 : Option Addr) (e2 : Nat) (b3 : Option Addr) (e3 : Nat) (A6 : Nat) (A7 : Nat), Hid (OB w Wz stock store a ds cap an N cn am M cm al L cl ∧ Sl 6 Dy.cells Wz a1 ds ∧ TL Wz b1 N b2 M b3 L ∧ Wz.heap[A6]? = some (.cells #[.slice none 0 0, .slice none 0 0, .slice none 0 0] 58 (0, 0)) ∧ w.heap.size + 1 < A6 ∧ Wz.heap[A7]? = some (.cells #[.int .i64 0, .int .i64 0, .slice none 0 0] 64 (0, 0)) ∧ w.heap.size + 1 < A7 ∧ A6 ≠ A7 ∧ TN A6 b1 N b2 M b3 L ∧ TN A7 b1 N b2 M b3 L) → G 2 ((((lz.setIfInBounds 1 true).setIfInBounds 3 true).setIfInBounds 7 true).setIfInBounds 8 true) ((((az.put (some 38) (wv stock store a1 ds.length c1)).put (some 40) (tv b1 N.length e1 b2 M.length e2 b3 L.length e3)).put (some 6) (.pointer (some ⟨A6, 0, none⟩))).put (some 7) (.pointer (some ⟨A7, 0, none⟩))) Wz) ?_ (fun J2011 => ?_)
  · intro Wz a1 c1 b1 e1 b2 e2 b3 e3 A6 A7 Hz
    simp only [Act.put, List.setIfInBounds_toArray, List.set_cons_zero, List.set_cons_succ]
    refine wpAnyH_ready (rs := [5, 6]) (by kernel_rfl) (by simp) ?_
    refine AllReadyH.cons (o := _) rfl (fun K hK => ?_) ?_
    · go_simp
      go_at_call 28
      refine (winter_any stock store a ds cap Wz Hz.out.1.x HL.out.1).mono ?_
      rintro e W15 ⟨a2, c2, rfl, hs, hb⟩
      have H15 : Hid (OB w W15 stock store a ds cap an N cn am M cm al L cl ∧ Sl 6 Dy.cells W15 a1 ds ∧ TL W15 b1 N b2 M b3 L ∧ Sl 6 Dy.cells W15 a2 ds ∧ W15.heap[A6]? = some (.cells #[.slice none 0 0, .slice none 0 0, .slice none 0 0] 58 (0, 0)) ∧ w.heap.size + 1 < A6 ∧ W15.heap[A7]? = some (.cells #[.int .i64 0, .int .i64 0, .slice none 0 0] 64 (0, 0)) ∧ w.heap.size + 1 < A7 ∧ A6 ≠ A7 ∧ TN A6 b1 N b2 M b3 L ∧ TN A7 b1 N b2 M b3 L) := ⟨Hz.out.1.below hb, Hz.out.2.1.below hb, Hz.out.2.2.1.below hb, hs, blk_below Hz.out.2.2.2.1 hb, Hz.out.2.2.2.2.1, blk_below Hz.out.2.2.2.2.2.1 hb, Hz.out.2.2.2.2.2.2.1, Hz.out.2.2.2.2.2.2.2.1, Hz.out.2.2.2.2.2.2.2.2.1, Hz.out.2.2.2.2.2.2.2.2.2⟩
      clear hs hb
      refine hK.out _ _ ⟨blk_cell H15.out.1.p0 0 rfl, blk_cell H15.out.1.p0 1 rfl, blk_cell H15.out.1.p0 2 rfl, blk_cell H15.out.1.p1 0 rfl, blk_cell H15.out.1.p1 1 rfl, blk_cell H15.out.1.p1 2 rfl⟩ (fun _ => ?_)
      clear hK
      simp only [List.setIfInBounds_toArray, List.set_cons_zero, List.set_cons_succ]
      exact J3011 _ a1 c1 b1 e1 b2 e2 b3 e3 a2 c2 A6 A7 H15
    refine AllReadyH.cons (o := _) rfl (fun K hK => ?_) AllReadyH.nil
    go_simp
    have hb : Below Wz.heap.size Wz (Wz.alloc (.cells #[.int .i64 0, .int .i64 0, .slice none 0 0] 56)) := (Below.refl _ _).alloc (Nat.le_refl _) _
    have H16 : Hid (OB w (Wz.alloc (.cells #[.int .i64 0, .int .i64 0, .slice none 0 0] 56)) stock store a ds cap an N cn am M cm al L cl ∧ Sl 6 Dy.cells (Wz.alloc (.cells #[.int .i64 0, .int .i64 0, .slice none 0 0] 56)) a1 ds ∧ TL (Wz.alloc (.cells #[.int .i64 0, .int .i64 0, .slice none 0 0] 56)) b1 N b2 M b3 L ∧ (Wz.alloc (.cells #[.int .i64 0, .int .i64 0, .slice none 0 0] 56)).heap[Wz.heap.size]? = some (.cells #[.int .i64 0, .int .i64 0, .slice none 0 0] 56 (0, 0)) ∧ w.heap.size + 1 < Wz.heap.size ∧ (Wz.alloc (.cells #[.int .i64 0, .int .i64 0, .slice none 0 0] 56)).heap[A6]? = some (.cells #[.slice none 0 0, .slice none 0 0, .slice none 0 0] 58 (0, 0)) ∧ w.heap.size + 1 < A6 ∧ (Wz.alloc (.cells #[.int .i64 0, .int .i64 0, .slice none 0 0] 56)).heap[A7]? = some (.cells #[.int .i64 0, .int .i64 0, .slice none 0 0] 64 (0, 0)) ∧ w.heap.size + 1 < A7 ∧ Wz.heap.size ≠ A6 ∧ Wz.heap.size ≠ A7 ∧ A6 ≠ A7 ∧ TN Wz.heap.size b1 N b2 M b3 L ∧ TN A6 b1 N b2 M b3 L ∧ TN A7 b1 N b2 M b3 L) := ⟨Hz.out.1.below hb, Hz.out.2.1.below hb, Hz.out.2.2.1.below hb, heap_alloc_new _ _, Nat.lt_of_succ_le Hz.out.1.sz, blk_below Hz.out.2.2.2.1 hb, Hz.out.2.2.2.2.1, blk_below Hz.out.2.2.2.2.2.1 hb, Hz.out.2.2.2.2.2.2.1, Nat.ne_of_gt (lt_of_block Hz.out.2.2.2.1), Nat.ne_of_gt (lt_of_block Hz.out.2.2.2.2.2.1), Hz.out.2.2.2.2.2.2.2.1, Hz.out.2.2.1.new, Hz.out.2.2.2.2.2.2.2.2.1, Hz.out.2.2.2.2.2.2.2.2.2⟩
    clear hb
    refine hK.out _ _ ⟨blk_cell H16.out.1.p0 0 rfl, blk_cell H16.out.1.p0 1 rfl, blk_cell H16.out.1.p0 2 rfl, blk_cell H16.out.1.p1 0 rfl, blk_cell H16.out.1.p1 1 rfl, blk_cell H16.out.1.p1 2 rfl⟩ (fun _ => ?_)
    clear hK
    simp only [List.setIfInBounds_toArray, List.set_cons_zero, List.set_cons_succ]
    exact J2111 _ a1 c1 b1 e1 b2 e2 b3 e3 _ A6 A7 H16
  simp only [Act.put, List.setIfInBounds_toArray, List.set_cons_zero, List.set_cons_succ] at J2011
  refine with_join (fun G lz az => ∀ (Wz : World) (a1 : Option Addr) (c1 : Nat) (A5 : Nat) (A6 : Nat) (A7 : Nat), Hid (OB w Wz stock store a ds cap an N cn am M cm al L cl ∧ Sl 6 Dy.cells Wz a1 ds ∧ Wz.heap[A5]? = some (.cells #[.int .i64 0, .int .i64 0, .slice none 0 0] 56 (0, 0)) ∧ w.heap.size + 1 < A5 ∧ Wz.heap[A6]? = some (.cells #[.slice none 0 0, .slice none 0 0, .slice none 0 0] 58 (0, 0)) ∧ w.heap.size + 1 < A6 ∧ Wz.heap[A7]? = some (.cells #[.int .i64 0, .int .i64 0, .slice none 0 0] 64 (0, 0)) ∧ w.heap.size + 1 < A7 ∧ A5 ≠ A6 ∧ A5 ≠ A7 ∧ A6 ≠ A7) → G 2 ((((lz.setIfInBounds 1 true).setIfInBounds 6 true).setIfInBounds 7 true).setIfInBounds 8 true) ((((az.put (some 38) (wv stock store a1 ds.length c1)).put (some 5) (.pointer (some ⟨A5, 0, none⟩))).put (some 6) (.pointer (some ⟨A6, 0, none⟩))).put (some 7) (.pointer (some ⟨A7, 0, none⟩))) Wz) ?_ (fun J1111 => ?_)
  · intro Wz a1 c1 A5 A6 A7 Hz
    simp only [Act.put, List.setIfInBounds_toArray, List.set_cons_zero, List.set_cons_succ]
    refine wpAnyH_ready (rs := [3]) (by kernel_rfl) (by simp) ?_
    refine AllReadyH.cons (o := _) rfl (fun K hK => ?_) AllReadyH.nil
    go_simp
    go_at_call 27
    refine (cloneWth_any N M L an cn am cm al cl Wz Hz.out.1.n.1 Hz.out.1.n.2.1 Hz.out.1.n.2.2 HNA.out.2 HL.out.2.2).mono ?_
    rintro e W17 ⟨b1, e1, b2, e2, b3, e3, rfl, ⟨hs1, hs2, hs3⟩, hb, hf⟩
    have H17 : Hid (OB w W17 stock store a ds cap an N cn am M cm al L cl ∧ Sl 6 Dy.cells W17 a1 ds ∧ TL W17 b1 N b2 M b3 L ∧ W17.heap[A5]? = some (.cells #[.int .i64 0, .int .i64 0, .slice none 0 0] 56 (0, 0)) ∧ w.heap.size + 1 < A5 ∧ W17.heap[A6]? = some (.cells #[.slice none 0 0, .slice none 0 0, .slice none 0 0] 58 (0, 0)) ∧ w.heap.size + 1 < A6 ∧ W17.heap[A7]? = some (.cells #[.int .i64 0, .int .i64 0, .slice none 0 0] 64 (0, 0)) ∧ w.heap.size + 1 < A7 ∧ A5 ≠ A6 ∧ A5 ≠ A7 ∧ A6 ≠ A7 ∧ TN A5 b1 N b2 M b3 L ∧ TN A6 b1 N b2 M b3 L ∧ TN A7 b1 N b2 M b3 L) := ⟨Hz.out.1.below hb, Hz.out.2.1.below hb, ⟨hs1, hs2, hs3⟩, blk_below Hz.out.2.2.1 hb, Hz.out.2.2.2.1, blk_below Hz.out.2.2.2.2.1 hb, Hz.out.2.2.2.2.2.1, blk_below Hz.out.2.2.2.2.2.2.1 hb, Hz.out.2.2.2.2.2.2.2.1, Hz.out.2.2.2.2.2.2.2.2.1, Hz.out.2.2.2.2.2.2.2.2.2.1, Hz.out.2.2.2.2.2.2.2.2.2.2, TN.old hf (lt_of_block Hz.out.2.2.1), TN.old hf (lt_of_block Hz.out.2.2.2.2.1), TN.old hf (lt_of_block Hz.out.2.2.2.2.2.2.1)⟩
    clear hs1 hs2 hs3 hf hb
    refine hK.out _ _ ⟨blk_cell H17.out.1.p0 0 rfl, blk_cell H17.out.1.p0 1 rfl, blk_cell H17.out.1.p0 2 rfl, blk_cell H17.out.1.p1 0 rfl, blk_cell H17.out.1.p1 1 rfl, blk_cell H17.out.1.p1 2 rfl⟩ (fun _ => ?_)
    clear hK
    simp only [List.setIfInBounds_toArray, List.set_cons_zero, List.set_cons_succ]
    exact J2111 _ a1 c1 b1 e1 b2 e2 b3 e3 A5 A6 A7 H17
  simp only [Act.put, List.setIfInBounds_toArray, List.set_cons_zero, List.set_cons_succ] at J1111
  refine with_join (fun G lz az => ∀ (Wz : World) (a1 : Option Addr) (c1 : Nat) (b1 : Option Addr) (e1 : Nat) (b2 : Option Addr) (e2 : Nat) (b3 : Option Addr) (e3 : Nat) (a2 : Option Addr) (c2 : Nat), Hid (OB w Wz stock store a ds cap an N cn am M cm al L cl ∧ Sl 6 Dy.cells Wz a1 ds ∧ TL Wz b1 N b2 M b3 L ∧ Sl 6 Dy.cells Wz a2 ds) → G 3 (((lz.setIfInBounds 1 true).setIfInBounds 3 true).setIfInBounds 5 true) (((az.put (some 38) (wv stock store a1 ds.length c1)).put (some 40) (tv b1 N.length e1 b2 M.length e2 b3 L.length e3)).put (some 42) (wv stock store a2 ds.length c2)) Wz) ?_ (fun J3000 => ?_)
  · intro Wz a1 c1 b1 e1 b2 e2 b3 e3 a2 c2 Hz
    simp only [Act.put, List.setIfInBounds_toArray, List.set_cons_zero, List.set_cons_succ]
    refine wpAnyH_ready (rs := [6, 7, 8]) (by kernel_rfl) (by simp) ?_
    refine AllReadyH.cons (o := _) rfl (fun K hK => ?_) ?_
    · go_simp
      have hb : Below Wz.heap.size Wz (Wz.alloc (.cells #[.int .i64 0, .int .i64 0, .slice none 0 0] 56)) := (Below.refl _ _).alloc (Nat.le_refl _) _
      have H18 : Hid (OB w (Wz.alloc (.cells #[.int .i64 0, .int .i64 0, .slice none 0 0] 56)) stock store a ds cap an N cn am M cm al L cl ∧ Sl 6 Dy.cells (Wz.alloc (.cells #[.int .i64 0, .int .i64 0, .slice none 0 0] 56)) a1 ds ∧ TL (Wz.alloc (.cells #[.int .i64 0, .int .i64 0, .slice none 0 0] 56)) b1 N b2 M b3 L ∧ Sl 6 Dy.cells (Wz.alloc (.cells #[.int .i64 0, .int .i64 0, .slice none 0 0] 56)) a2 ds ∧ (Wz.alloc (.cells #[.int .i64 0, .int .i64 0, .slice none 0 0] 56)).heap[Wz.heap.size]? = some (.cells #[.int .i64 0, .int .i64 0, .slice none 0 0] 56 (0, 0)) ∧ w.heap.size + 1 < Wz.heap.size ∧ TN Wz.heap.size b1 N b2 M b3 L) := ⟨Hz.out.1.below hb, Hz.out.2.1.below hb, Hz.out.2.2.1.below hb, Hz.out.2.2.2.below hb, heap_alloc_new _ _, Nat.lt_of_succ_le Hz.out.1.sz, Hz.out.2.2.1.new⟩
      clear hb
      refine hK.out _ _ ⟨blk_cell H18.out.1.p0 0 rfl, blk_cell H18.out.1.p0 1 rfl, blk_cell H18.out.1.p0 2 rfl, blk_cell H18.out.1.p1 0 rfl, blk_cell H18.out.1.p1 1 rfl, blk_cell H18.out.1.p1 2 rfl⟩ (fun _ => ?_)
      clear hK
      simp only [List.setIfInBounds_toArray, List.set_cons_zero, List.set_cons_succ]
      exact J3100 _ a1 c1 b1 e1 b2 e2 b3 e3 a2 c2 _ H18
    refine AllReadyH.cons (o := _) rfl (fun K hK => ?_) ?_
    · go_simp
      have hb : Below Wz.heap.size Wz (Wz.alloc (.cells #[.slice none 0 0, .slice none 0 0, .slice none 0 0] 58)) := (Below.refl _ _).alloc (Nat.le_refl _) _
      have H19 : Hid (OB w (Wz.alloc (.cells #[.slice none 0 0, .slice none 0 0, .slice none 0 0] 58)) stock store a ds cap an N cn am M cm al L cl ∧ Sl 6 Dy.cells (Wz.alloc (.cells #[.slice none 0 0, .slice none 0 0, .slice none 0 0] 58)) a1 ds ∧ TL (Wz.alloc (.cells #[.slice none 0 0, .slice none 0 0, .slice none 0 0] 58)) b1 N b2 M b3 L ∧ Sl 6 Dy.cells (Wz.alloc (.cells #[.slice none 0 0, .slice none 0 0, .slice none 0 0] 58)) a2 ds ∧ (Wz.alloc (.cells #[.slice none 0 0, .slice none 0 0, .slice none 0 0] 58)).heap[Wz.heap.size]? = some (.cells #[.slice none 0 0, .slice none 0 0, .slice none 0 0] 58 (0, 0)) ∧ w.heap.size + 1 < Wz.heap.size ∧ TN Wz.heap.size b1 N b2 M b3 L) := ⟨Hz.out.1.below hb, Hz.out.2.1.below hb, Hz.out.2.2.1.below hb, Hz.out.2.2.2.below hb, heap_alloc_new _ _, Nat.lt_of_succ_le Hz.out.1.sz, Hz.out.2.2.1.new⟩
      clear hb
      refine hK.out _ _ ⟨blk_cell H19.out.1.p0 0 rfl, blk_cell H19.out.1.p0 1 rfl, blk_cell H19.out.1.p0 2 rfl, blk_cell H19.out.1.p1 0 rfl, blk_cell H19.out.1.p1 1 rfl, blk_cell H19.out.1.p1 2 rfl⟩ (fun _ => ?_)
      clear hK
      simp only [List.setIfInBounds_toArray, List.set_cons_zero, List.set_cons_succ]
      exact J3010 _ a1 c1 b1 e1 b2 e2 b3 e3 a2 c2 _ H19
    refine AllReadyH.cons (o := _) rfl (fun K hK => ?_) AllReadyH.nil
    go_simp
    have hb : Below Wz.heap.size Wz (Wz.alloc (.cells #[.int .i64 0, .int .i64 0, .slice none 0 0] 64)) := (Below.refl _ _).alloc (Nat.le_refl _) _
    have H20 : Hid (OB w (Wz.alloc (.cells #[.int .i64 0, .int .i64 0, .slice none 0 0] 64)) stock store a ds cap an N cn am M cm al L cl ∧ Sl 6 Dy.cells (Wz.alloc (.cells #[.int .i64 0, .int .i64 0, .slice none 0 0] 64)) a1 ds ∧ TL (Wz.alloc (.cells #[.int .i64 0, .int .i64 0, .slice none 0 0] 64)) b1 N b2 M b3 L ∧ Sl 6 Dy.cells (Wz.alloc (.cells #[.int .i64 0, .int .i64 0, .slice none 0 0] 64)) a2 ds ∧ (Wz.alloc (.cells #[.int .i64 0, .int .i64 0, .slice none 0 0] 64)).heap[Wz.heap.size]? = some (.cells #[.int .i64 0, .int .i64 0, .slice none 0 0] 64 (0, 0)) ∧ w.heap.size + 1 < Wz.heap.size ∧ TN Wz.heap.size b1 N b2 M b3 L) := ⟨Hz.out.1.below hb, Hz.out.2.1.below hb, Hz.out.2.2.1.below hb, Hz.out.2.2.2.below hb, heap_alloc_new _ _, Nat.lt_of_succ_le Hz.out.1.sz, Hz.out.2.2.1.new⟩
    clear hb
    refine hK.out _ _ ⟨blk_cell H20.out.1.p0 0 rfl, blk_cell H20.out.1.p0 1 rfl, blk_cell H20.out.1.p0 2 rfl, blk_cell H20.out.1.p1 0 rfl, blk_cell H20.out.1.p1 1 rfl, blk_cell H20.out.1.p1 2 rfl⟩ (fun _ => ?_)
    clear hK
    simp only [List.setIfInBounds_toArray, List.set_cons_zero, List.set_cons_succ]
    exact J3001 _ a1 c1 b1 e1 b2 e2 b3 e3 a2 c2 _ H20
  simp only [Act.put, List.setIfInBounds_toArray, List.set_cons_zero, List.set_cons_succ] at J3000
  refine with_join (fun G lz az => ∀ (Wz : World) (a1 : Option Addr) (c1 : Nat) (b1 : Option Addr) (e1 : Nat) (b2 : Option Addr) (e2 : Nat) (b3 : Option Addr) (e3 : Nat) (A5 : Nat), Hid (OB w Wz stock store a ds cap an N cn am M cm al L cl ∧ Sl 6 Dy.cells Wz a1 ds ∧ TL Wz b1 N b2 M b3 L ∧ Wz.heap[A5]? = some (.cells #[.int .i64 0, .int .i64 0, .slice none 0 0] 56 (0, 0)) ∧ w.heap.size + 1 < A5 ∧ TN A5 b1 N b2 M b3 L) → G 3 (((lz.setIfInBounds 1 true).setIfInBounds 3 true).setIfInBounds 6 true) (((az.put (some 38) (wv stock store a1 ds.length c1)).put (some 40) (tv b1 N.length e1 b2 M.length e2 b3 L.length e3)).put (some 5) (.pointer (some ⟨A5, 0, none⟩))) Wz) ?_ (fun J2100 => ?_)
  · intro Wz a1 c1 b1 e1 b2 e2 b3 e3 A5 Hz
    simp only [Act.put, List.setIfInBounds_toArray, List.set_cons_zero, List.set_cons_succ]
    refine wpAnyH_ready (rs := [5, 7, 8]) (by kernel_rfl) (by simp) ?_
    refine AllReadyH.cons (o := _) rfl (fun K hK => ?_) ?_
    · go_simp
      go_at_call 28
      refine (winter_any stock store a ds cap Wz Hz.out.1.x HL.out.1).mono ?_
      rintro e W21 ⟨a2, c2, rfl, hs, hb⟩
      have H21 : Hid (OB w W21 stock store a ds cap an N cn am M cm al L cl ∧ Sl 6 Dy.cells W21 a1 ds ∧ TL W21 b1 N b2 M b3 L ∧ Sl 6 Dy.cells W21 a2 ds ∧ W21.heap[A5]? = some (.cells #[.int .i64 0, .int .i64 0, .slice none 0 0] 56 (0, 0)) ∧ w.heap.size + 1 < A5 ∧ TN A5 b1 N b2 M b3 L) := ⟨Hz.out.1.below hb, Hz.out.2.1.below hb, Hz.out.2.2.1.below hb, hs, blk_below Hz.out.2.2.2.1 hb, Hz.out.2.2.2.2.1, Hz.out.2.2.2.2.2⟩
      clear hs hb
      refine hK.out _ _ ⟨blk_cell H21.out.1.p0 0 rfl, blk_cell H21.out.1.p0 1 rfl, blk_cell H21.out.1.p0 2 rfl, blk_cell H21.out.1.p1 0 rfl, blk_cell H21.out.1.p1 1 rfl, blk_cell H21.out.1.p1 2 rfl⟩ (fun _ => ?_)
      clear hK
      simp only [List.setIfInBounds_toArray, List.set_cons_zero, List.set_cons_succ]
      exact J3100 _ a1 c1 b1 e1 b2 e2 b3 e3 a2 c2 A5 H21
    refine AllReadyH.cons (o := _) rfl (fun K hK => ?_) ?_
    · go_simp
      have hb : Below Wz.heap.size Wz (Wz.alloc (.cells #[.slice none 0 0, .slice none 0 0, .slice none 0 0] 58)) := (Below.refl _ _).alloc (Nat.le_refl _) _
      have H22 : Hid (OB w (Wz.alloc (.cells #[.slice none 0 0, .slice none 0 0, .slice none 0 0] 58)) stock store a ds cap an N cn am M cm al L cl ∧ Sl 6 Dy.cells (Wz.alloc (.cells #[.slice none 0 0, .slice none 0 0, .slice none 0 0] 58)) a1 ds ∧ TL (Wz.alloc (.cells #[.slice none 0 0, .slice none 0 0, .slice none 0 0] 58)) b1 N b2 M b3 L ∧ (Wz.alloc (.cells #[.slice none 0 0, .slice none 0 0, .slice none 0 0] 58)).heap[A5]? = some (.cells #[.int .i64 0, .int .i64 0, .slice none 0 0] 56 (0, 0)) ∧ w.heap.size + 1 < A5 ∧ (Wz.alloc (.cells #[.slice none 0 0, .slice none 0 0, .slice none 0 0] 58)).heap[Wz.heap.size]? = some (.cells #[.slice none 0 0, .slice none 0 0, .slice none 0 0] 58 (0, 0)) ∧ w.heap.size + 1 < Wz.heap.size ∧ A5 ≠ Wz.heap.size ∧ TN A5 b1 N b2 M b3 L ∧ TN Wz.heap.size b1 N b2 M b3 L) := ⟨Hz.out.1.below hb, Hz.out.2.1.below hb, Hz.out.2.2.1.below hb, blk_below Hz.out.2.2.2.1 hb, Hz.out.2.2.2.2.1, heap_alloc_new _ _, Nat.lt_of_succ_le Hz.out.1.sz, Nat.ne_of_lt (lt_of_block Hz.out.2.2.2.1), Hz.out.2.2.2.2.2, Hz.out.2.2.1.new⟩
      clear hb
      refine hK.out _ _ ⟨blk_cell H22.out.1.p0 0 rfl, blk_cell H22.out.1.p0 1 rfl, blk_cell H22.out.1.p0 2 rfl, blk_cell H22.out.1.p1 0 rfl, blk_cell H22.out.1.p1 1 rfl, blk_cell H22.out.1.p1 2 rfl⟩ (fun _ => ?_)
      clear hK
      simp only [List.setIfInBounds_toArray, List.set_cons_zero, List.set_cons_succ]
      exact J2110 _ a1 c1 b1 e1 b2 e2 b3 e3 A5 _ H22
    refine AllReadyH.cons (o := _) rfl (fun K hK => ?_) AllReadyH.nil
    go_simp
    have hb : Below Wz.heap.size Wz (Wz.alloc (.cells #[.int .i64 0, .int .i64 0, .slice none 0 0] 64)) := (Below.refl _ _).alloc (Nat.le_refl _) _
    have H23 : Hid (OB w (Wz.alloc (.cells #[.int .i64 0, .int .i64 0, .slice none 0 0] 64)) stock store a ds cap an N cn am M cm al L cl ∧ Sl 6 Dy.cells (Wz.alloc (.cells #[.int .i64 0, .int .i64 0, .slice none 0 0] 64)) a1 ds ∧ TL (Wz.alloc (.cells #[.int .i64 0, .int .i64 0, .slice none 0 0] 64)) b1 N b2 M b3 L ∧ (Wz.alloc (.cells #[.int .i64 0, .int .i64 0, .slice none 0 0] 64)).heap[A5]? = some (.cells #[.int .i64 0, .int .i64 0, .slice none 0 0] 56 (0, 0)) ∧ w.heap.size + 1 < A5 ∧ (Wz.alloc (.cells #[.int .i64 0, .int .i64 0, .slice none 0 0] 64)).heap[Wz.heap.size]? = some (.cells #[.int .i64 0, .int .i64 0, .slice none 0 0] 64 (0, 0)) ∧ w.heap.size + 1 < Wz.heap.size ∧ A5 ≠ Wz.heap.size ∧ TN A5 b1 N b2 M b3 L ∧ TN Wz.heap.size b1 N b2 M b3 L) := ⟨Hz.out.1.below hb, Hz.out.2.1.below hb, Hz.out.2.2.1.below hb, blk_below Hz.out.2.2.2.1 hb, Hz.out.2.2.2.2.1, heap_alloc_new _ _, Nat.lt_of_succ_le Hz.out.1.sz, Nat.ne_of_lt (lt_of_block Hz.out.2.2.2.1), Hz.out.2.2.2.2.2, Hz.out.2.2.1.new⟩
    clear hb
    refine hK.out _ _ ⟨blk_cell H23.out.1.p0 0 rfl, blk_cell H23.out.1.p0 1 rfl, blk_cell H23.out.1.p0 2 rfl, blk_cell H23.out.1.p1 0 rfl, blk_cell H23.out.1.p1 1 rfl, blk_cell H23.out.1.p1 2 rfl⟩ (fun _ => ?_)
    clear hK
    simp only [List.setIfInBounds_toArray, List.set_cons_zero, List.set_cons_succ]
    exact J2101 _ a1 c1 b1 e1 b2 e2 b3 e3 A5 _ H23
  simp only [Act.put, List.setIfInBounds_toArray, List.set_cons_zero, List.set_cons_succ] at J2100
  refine with_join (fun G lz az => ∀ (Wz : World) (a1 : Option Addr) (c1 : Nat) (b1 : Option Addr) (e1 : Nat) (b2 : Option Addr) (e2 : Nat) (b3 : Option Addr) (e3 : Nat) (A6 : Nat), Hid (OB w Wz stock store a ds cap an N cn am M cm al L cl ∧ Sl 6 Dy.cells Wz a1 ds ∧ TL Wz b1 N b2 M b3 L ∧ Wz.heap[A6]? = some (.cells #[.slice none 0 0, .slice none 0 0, .slice none 0 0] 58 (0, 0)) ∧ w.heap.size + 1 < A6 ∧ TN A6 b1 N b2 M b3 L) → G 3 (((lz.setIfInBounds 1 true).setIfInBounds 3 true).setIfInBounds 7 true) (((az.put (some 38) (wv stock store a1 ds.length c1)).put (some 40) (tv b1 N.length e1 b2 M.length e2 b3 L.length e3)).put (some 6) (.pointer (some ⟨A6, 0, none⟩))) Wz) ?_ (fun J2010 => ?_)
  · intro Wz a1 c1 b1 e1 b2 e2 b3 e3 A6 Hz
    simp only [Act.put, List.setIfInBounds_toArray, List.set_cons_zero, List.set_cons_succ]
    refine wpAnyH_ready (rs := [5, 6, 8]) (by kernel_rfl) (by simp) ?_
    refine AllReadyH.cons (o := _) rfl (fun K hK => ?_) ?_
    · go_simp
      go_at_call 28
      refine (winter_any stock store a ds cap Wz Hz.out.1.x HL.out.1).mono ?_
      rintro e W24 ⟨a2, c2, rfl, hs, hb⟩
      have H24 : Hid (OB w W24 stock store a ds cap an N cn am M cm al L cl ∧ Sl 6 Dy.cells W24 a1 ds ∧ TL W24 b1 N b2 M b3 L ∧ Sl 6 Dy.cells W24 a2 ds ∧ W24.heap[A6]? = some (.cells #[.slice none 0 0, .slice none 0 0, .slice none 0 0] 58 (0, 0)) ∧ w.heap.size + 1 < A6 ∧ TN A6 b1 N b2 M b3 L) := ⟨Hz.out.1.below hb, Hz.out.2.1.below hb, Hz.out.2.2.1.below hb, hs, blk_below Hz.out.2.2.2.1 hb, Hz.out.2.2.2.2.1, Hz.out.2.2.2.2.2⟩
      clear hs hb
      refine hK.out _ _ ⟨blk_cell H24.out.1.p0 0 rfl, blk_cell H24.out.1.p0 1 rfl, blk_cell H24.out.1.p0 2 rfl, blk_cell H24.out.1.p1 0 rfl, blk_cell H24.out.1.p1 1 rfl, blk_cell H24.out.1.p1 2 rfl⟩ (fun _ => ?_)
      clear hK
      simp only [List.setIfInBounds_toArray, List.set_cons_zero, List.set_cons_succ]
      exact J3010 _ a1 c1 b1 e1 b2 e2 b3 e3 a2 c2 A6 H24
    refine AllReadyH.cons (o := _) rfl (fun K hK => ?_) ?_
    · go_simp
      have hb : Below Wz.heap.size Wz (Wz.alloc (.cells #[.int .i64 0, .int .i64 0, .slice none 0 0] 56)) := (Below.refl _ _).alloc (Nat.le_refl _) _
      have H25 : Hid (OB w (Wz.alloc (.cells #[.int .i64 0, .int .i64 0, .slice none 0 0] 56)) stock store a ds cap an N cn am M cm al L cl ∧ Sl 6 Dy.cells (Wz.alloc (.cells #[.int .i64 0, .int .i64 0, .slice none 0 0] 56)) a1 ds ∧ TL (Wz.alloc (.cells #[.int .i64 0, .int .i64 0, .slice none 0 0] 56)) b1 N b2 M b3 L ∧ (Wz.alloc (.cells #[.int .i64 0, .int .i64 0, .slice none 0 0] 56)).heap[Wz.heap.size]? = some (.cells #[.int .i64 0, .int .i64 0, .slice none 0 0] 56 (0, 0)) ∧ w.heap.size + 1 < Wz.heap.size ∧ (Wz.alloc (.cells #[.int .i64 0, .int .i64 0, .slice none 0 0] 56)).heap[A6]? = some (.cells #[.slice none 0 0, .slice none 0 0, .slice none 0 0] 58 (0, 0)) ∧ w.heap.size + 1 < A6 ∧ Wz.heap.size ≠ A6 ∧ TN Wz.heap.size b1 N b2 M b3 L ∧ TN A6 b1 N b2 M b3 L) := ⟨Hz.out.1.below hb, Hz.out.2.1.below hb, Hz.out.2.2.1.below hb, heap_alloc_new _ _, Nat.lt_of_succ_le Hz.out.1.sz, blk_below Hz.out.2.2.2.1 hb, Hz.out.2.2.2.2.1, Nat.ne_of_gt (lt_of_block Hz.out.2.2.2.1), Hz.out.2.2.1.new, Hz.out.2.2.2.2.2⟩
      clear hb
      refine hK.out _ _ ⟨blk_cell H25.out.1.p0 0 rfl, blk_cell H25.out.1.p0 1 rfl, blk_cell H25.out.1.p0 2 rfl, blk_cell H25.out.1.p1 0 rfl, blk_cell H25.out.1.p1 1 rfl, blk_cell H25.out.1.p1 2 rfl⟩ (fun _ => ?_)
      clear hK
      simp only [List.setIfInBounds_toArray, List.set_cons_zero, List.set_cons_succ]
      exact J2110 _ a1 c1 b1 e1 b2 e2 b3 e3 _ A6 H25
    refine AllReadyH.cons (o := _) rfl (fun K hK => ?_) AllReadyH.nil
    go_simp
    have hb : Below Wz.heap.size Wz (Wz.alloc (.cells #[.int .i64 0, .int .i64 0, .slice none 0 0] 64)) := (Below.refl _ _).alloc (Nat.le_refl _) _
    have H26 : Hid (OB w (Wz.alloc (.cells #[.int .i64 0, .int .i64 0, .slice none 0 0] 64)) stock store a ds cap an N cn am M cm al L cl ∧ Sl 6 Dy.cells (Wz.alloc (.cells #[.int .i64 0, .int .i64 0, .slice none 0 0] 64)) a1 ds ∧ TL (Wz.alloc (.cells #[.int .i64 0, .int .i64 0, .slice none 0 0] 64)) b1 N b2 M b3 L ∧ (Wz.alloc (.cells #[.int .i64 0, .int .i64 0, .slice none 0 0] 64)).heap[A6]? = some (.cells #[.slice none 0 0, .slice none 0 0, .slice none 0 0] 58 (0, 0)) ∧ w.heap.size + 1 < A6 ∧ (Wz.alloc (.cells #[.int .i64 0, .int .i64 0, .slice none 0 0] 64)).heap[Wz.heap.size]? = some (.cells #[.int .i64 0, .int .i64 0, .slice none 0 0] 64 (0, 0)) ∧ w.heap.size + 1 < Wz.heap.size ∧ A6 ≠ Wz.heap.size ∧ TN A6 b1 N b2 M b3 L ∧ TN Wz.heap.size b1 N b2 M b3 L) := ⟨Hz.out.1.below hb, Hz.out.2.1.below hb, Hz.out.2.2.1.below hb, blk_below Hz.out.2.2.2.1 hb, Hz.out.2.2.2.2.1, heap_alloc_new _ _, Nat.lt_of_succ_le Hz.out.1.sz, Nat.ne_of_lt (lt_of_block Hz.out.2.2.2.1), Hz.out.2.2.2.2.2, Hz.out.2.2.1.new⟩
    clear hb
    refine hK.out _ _ ⟨blk_cell H26.out.1.p0 0 rfl, blk_cell H26.out.1.p0 1 rfl, blk_cell H26.out.1.p0 2 rfl, blk_cell H26.out.1.p1 0 rfl, blk_cell H26.out.1.p1 1 rfl, blk_cell H26.out.1.p1 2 rfl⟩ (fun _ => ?_)
    clear hK
    simp only [List.setIfInBounds_toArray, List.set_cons_zero, List.set_cons_succ]
    exact J2011 _ a1 c1 b1 e1 b2 e2 b3 e3 A6 _ H26
  simp only [Act.put, List.setIfInBounds_toArray, List.set_cons_zero, List.set_cons_succ] at J2010
  refine with_join (fun G lz az => ∀ (Wz : World) (a1 : Option Addr) (c1 : Nat) (b1 : Option Addr) (e1 : Nat) (b2 : Option Addr) (e2 : Nat) (b3 : Option Addr) (e3 : Nat) (A7 : Nat), Hid (OB w Wz stock store a ds cap an N cn am M cm al L cl ∧ Sl 6 Dy.cells Wz a1 ds ∧ TL Wz b1 N b2 M b3 L ∧ Wz.heap[A7]? = some (.cells #[.int .i64 0, .int .i64 0, .slice none 0 0] 64 (0, 0)) ∧ w.heap.size + 1 < A7 ∧ TN A7 b1 N b2 M b3 L) → G 3 (((lz.setIfInBounds 1 true).setIfInBounds 3 true).setIfInBounds 8 true) (((az.put (some 38) (wv stock store a1 ds.length c1)).put (some 40) (tv b1 N.length e1 b2 M.length e2 b3 L.length e3)).put (some 7) (.pointer (some ⟨A7, 0, none⟩))) Wz) ?_ (fun J2001 => ?_)
  · intro Wz a1 c1 b1 e1 b2 e2 b3 e3 A7 Hz
    simp only [Act.put, List.setIfInBounds_toArray, List.set_cons_zero, List.set_cons_succ]
    refine wpAnyH_ready (rs := [5, 6, 7]) (by kernel_rfl) (by simp) ?_
    refine AllReadyH.cons (o := _) rfl (fun K hK => ?_) ?_
    · go_simp
      go_at_call 28
      refine (winter_any stock store a ds cap Wz Hz.out.1.x HL.out.1).mono ?_
      rintro e W27 ⟨a2, c2, rfl, hs, hb⟩
      have H27 : Hid (OB w W27 stock store a ds cap an N cn am M cm al L cl ∧ Sl 6 Dy.cells W27 a1 ds ∧ TL W27 b1 N b2 M b3 L ∧ Sl 6 Dy.cells W27 a2 ds ∧ W27.heap[A7]? = some (.cells #[.int .i64 0, .int .i64 0, .slice none 0 0] 64 (0, 0)) ∧ w.heap.size + 1 < A7 ∧ TN A7 b1 N b2 M b3 L) := ⟨Hz.out.1.below hb, Hz.out.2.1.below hb, Hz.out.2.2.1.below hb, hs, blk_below Hz.out.2.2.2.1 hb, Hz.out.2.2.2.2.1, Hz.out.2.2.2.2.2⟩
      clear hs hb
      refine hK.out _ _ ⟨blk_cell H27.out.1.p0 0 rfl, blk_cell H27.out.1.p0 1 rfl, blk_cell H27.out.1.p0 2 rfl, blk_cell H27.out.1.p1 0 rfl, blk_cell H27.out.1.p1 1 rfl, blk_cell H27.out.1.p1 2 rfl⟩ (fun _ => ?_)
      clear hK
      simp only [List.setIfInBounds_toArray, List.set_cons_zero, List.set_cons_succ]
      exact J3001 _ a1 c1 b1 e1 b2 e2 b3 e3 a2 c2 A7 H27
    refine AllReadyH.cons (o := _) rfl (fun K hK => ?_) ?_
    · go_simp
      have hb : Below Wz.heap.size Wz (Wz.alloc (.cells #[.int .i64 0, .int .i64 0, .slice none 0 0] 56)) := (Below.refl _ _).alloc (Nat.le_refl _) _
      have H28 : Hid (OB w (Wz.alloc (.cells #[.int .i64 0, .int .i64 0, .slice none 0 0] 56)) stock store a ds cap an N cn am M cm al L cl ∧ Sl 6 Dy.cells (Wz.alloc (.cells #[.int .i64 0, .int .i64 0, .slice none 0 0] 56)) a1 ds ∧ TL (Wz.alloc (.cells #[.int .i64 0, .int .i64 0, .slice none 0 0] 56)) b1 N b2 M b3 L ∧ (Wz.alloc (.cells #[.int .i64 0, .int .i64 0, .slice none 0 0] 56)).heap[Wz.heap.size]? = some (.cells #[.int .i64 0, .int .i64 0, .slice none 0 0] 56 (0, 0)) ∧ w.heap.size + 1 < Wz.heap.size ∧ (Wz.alloc (.cells #[.int .i64 0, .int .i64 0, .slice none 0 0] 56)).heap[A7]? = some (.cells #[.int .i64 0, .int .i64 0, .slice none 0 0] 64 (0, 0)) ∧ w.heap.size + 1 < A7 ∧ Wz.heap.size ≠ A7 ∧ TN Wz.heap.size b1 N b2 M b3 L ∧ TN A7 b1 N b2 M b3 L) := ⟨Hz.out.1.below hb, Hz.out.2.1.below hb, Hz.out.2.2.1.below hb, heap_alloc_new _ _, Nat.lt_of_succ_le Hz.out.1.sz, blk_below Hz.out.2.2.2.1 hb, Hz.out.2.2.2.2.1, Nat.ne_of_gt (lt_of_block Hz.out.2.2.2.1), Hz.out.2.2.1.new, Hz.out.2.2.2.2.2⟩
      clear hb
      refine hK.out _ _ ⟨blk_cell H28.out.1.p0 0 rfl, blk_cell H28.out.1.p0 1 rfl, blk_cell H28.out.1.p0 2 rfl, blk_cell H28.out.1.p1 0 rfl, blk_cell H28.out.1.p1 1 rfl, blk_cell H28.out.1.p1 2 rfl⟩ (fun _ => ?_)
      clear hK
      simp only [List.setIfInBounds_toArray, List.set_cons_zero, List.set_cons_succ]
      exact J2101 _ a1 c1 b1 e1 b2 e2 b3 e3 _ A7 H28
    refine AllReadyH.cons (o := _) rfl (fun K hK => ?_) AllReadyH.nil
    go_simp
    have hb : Below Wz.heap.size Wz (Wz.alloc (.cells #[.slice none 0 0, .slice none 0 0, .slice none 0 0] 58)) := (Below.refl _ _).alloc (Nat.le_refl _) _
    have H29 : Hid (OB w (Wz.alloc (.cells #[.slice none 0 0, .slice none 0 0, .slice none 0 0] 58)) stock store a ds cap an N cn am M cm al L cl ∧ Sl 6 Dy.cells (Wz.alloc (.cells #[.slice none 0 0, .slice none 0 0, .slice none 0 0] 58)) a1 ds ∧ TL (Wz.alloc (.cells #[.slice none 0 0, .slice none 0 0, .slice none 0 0] 58)) b1 N b2 M b3 L ∧ (Wz.alloc (.cells #[.slice none 0 0, .slice none 0 0, .slice none 0 0] 58)).heap[Wz.heap.size]? = some (.cells #[.slice none 0 0, .slice none 0 0, .slice none 0 0] 58 (0, 0)) ∧ w.heap.size + 1 < Wz.heap.size ∧ (Wz.alloc (.cells #[.slice none 0 0, .slice none 0 0, .slice none 0 0] 58)).heap[A7]? = some (.cells #[.int .i64 0, .int .i64 0, .slice none 0 0] 64 (0, 0)) ∧ w.heap.size + 1 < A7 ∧ Wz.heap.size ≠ A7 ∧ TN Wz.heap.size b1 N b2 M b3 L ∧ TN A7 b1 N b2 M b3 L) := ⟨Hz.out.1.below hb, Hz.out.2.1.below hb, Hz.out.2.2.1.below hb, heap_alloc_new _ _, Nat.lt_of_succ_le Hz.out.1.sz, blk_below Hz.out.2.2.2.1 hb, Hz.out.2.2.2.2.1, Nat.ne_of_gt (lt_of_block Hz.out.2.2.2.1), Hz.out.2.2.1.new, Hz.out.2.2.2.2.2⟩
    clear hb
    refine hK.out _ _ ⟨blk_cell H29.out.1.p0 0 rfl, blk_cell H29.out.1.p0 1 rfl, blk_cell H29.out.1.p0 2 rfl, blk_cell H29.out.1.p1 0 rfl, blk_cell H29.out.1.p1 1 rfl, blk_cell H29.out.1.p1 2 rfl⟩ (fun _ => ?_)
    clear hK
    simp only [List.setIfInBounds_toArray, List.set_cons_zero, List.set_cons_succ]
    exact J2011 _ a1 c1 b1 e1 b2 e2 b3 e3 _ A7 H29
  simp only [Act.put, List.setIfInBounds_toArray, List.set_cons_zero, List.set_cons_succ] at J2001
  refine with_join (fun G lz az => ∀ (Wz : World) (a1 : Option Addr) (c1 : Nat) (A5 : Nat) (A6 : Nat), Hid (OB w Wz stock store a ds cap an N cn am M cm al L cl ∧ Sl 6 Dy.cells Wz a1 ds ∧ Wz.heap[A5]? = some (.cells #[.int .i64 0, .int .i64 0, .slice none 0 0] 56 (0, 0)) ∧ w.heap.size + 1 < A5 ∧ Wz.heap[A6]? = some (.cells #[.slice none 0 0, .slice none 0 0, .slice none 0 0] 58 (0, 0)) ∧ w.heap.size + 1 < A6 ∧ A5 ≠ A6) → G 3 (((lz.setIfInBounds 1 true).setIfInBounds 6 true).setIfInBounds 7 true) (((az.put (some 38) (wv stock store a1 ds.length c1)).put (some 5) (.pointer (some ⟨A5, 0, none⟩))).put (some 6) (.pointer (some ⟨A6, 0, none⟩))) Wz) ?_ (fun J1110 => ?_)
  · intro Wz a1 c1 A5 A6 Hz
    simp only [Act.put, List.setIfInBounds_toArray, List.set_cons_zero, List.set_cons_succ]
    refine wpAnyH_ready (rs := [3, 8]) (by kernel_rfl) (by simp) ?_
    refine AllReadyH.cons (o := _) rfl (fun K hK => ?_) ?_
    · go_simp
      go_at_call 27
      refine (cloneWth_any N M L an cn am cm al cl Wz Hz.out.1.n.1 Hz.out.1.n.2.1 Hz.out.1.n.2.2 HNA.out.2 HL.out.2.2).mono ?_
      rintro e W30 ⟨b1, e1, b2, e2, b3, e3, rfl, ⟨hs1, hs2, hs3⟩, hb, hf⟩
      have H30 : Hid (OB w W30 stock store a ds cap an N cn am M cm al L cl ∧ Sl 6 Dy.cells W30 a1 ds ∧ TL W30 b1 N b2 M b3 L ∧ W30.heap[A5]? = some (.cells #[.int .i64 0, .int .i64 0, .slice none 0 0] 56 (0, 0)) ∧ w.heap.size + 1 < A5 ∧ W30.heap[A6]? = some (.cells #[.slice none 0 0, .slice none 0 0, .slice none 0 0] 58 (0, 0)) ∧ w.heap.size + 1 < A6 ∧ A5 ≠ A6 ∧ TN A5 b1 N b2 M b3 L ∧ TN A6 b1 N b2 M b3 L) := ⟨Hz.out.1.below hb, Hz.out.2.1.below hb, ⟨hs1, hs2, hs3⟩, blk_below Hz.out.2.2.1 hb, Hz.out.2.2.2.1, blk_below Hz.out.2.2.2.2.1 hb, Hz.out.2.2.2.2.2.1, Hz.out.2.2.2.2.2.2, TN.old hf (lt_of_block Hz.out.2.2.1), TN.old hf (lt_of_block Hz.out.2.2.2.2.1)⟩
      clear hs1 hs2 hs3 hf hb
      refine hK.out _ _ ⟨blk_cell H30.out.1.p0 0 rfl, blk_cell H30.out.1.p0 1 rfl, blk_cell H30.out.1.p0 2 rfl, blk_cell H30.out.1.p1 0 rfl, blk_cell H30.out.1.p1 1 rfl, blk_cell H30.out.1.p1 2 rfl⟩ (fun _ => ?_)
      clear hK
      simp only [List.setIfInBounds_toArray, List.set_cons_zero, List.set_cons_succ]
      exact J2110 _ a1 c1 b1 e1 b2 e2 b3 e3 A5 A6 H30
    refine AllReadyH.cons (o := _) rfl (fun K hK => ?_) AllReadyH.nil
    go_simp
    have hb : Below Wz.heap.size Wz (Wz.alloc (.cells #[.int .i64 0, .int .i64 0, .slice none 0 0] 64)) := (Below.refl _ _).alloc (Nat.le_refl _) _
    have H31 : Hid (OB w (Wz.alloc (.cells #[.int .i64 0, .int .i64 0, .slice none 0 0] 64)) stock store a ds cap an N cn am M cm al L cl ∧ Sl 6 Dy.cells (Wz.alloc (.cells #[.int .i64 0, .int .i64 0, .slice none 0 0] 64)) a1 ds ∧ (Wz.alloc (.cells #[.int .i64 0, .int .i64 0, .slice none 0 0] 64)).heap[A5]? = some (.cells #[.int .i64 0, .int .i64 0, .slice none 0 0] 56 (0, 0)) ∧ w.heap.size + 1 < A5 ∧ (Wz.alloc (.cells #[.int .i64 0, .int .i64 0, .slice none 0 0] 64)).heap[A6]? = some (.cells #[.slice none 0 0, .slice none 0 0, .slice none 0 0] 58 (0, 0)) ∧ w.heap.size + 1 < A6 ∧ (Wz.alloc (.cells #[.int .i64 0, .int .i64 0, .slice none 0 0] 64)).heap[Wz.heap.size]? = some (.cells #[.int .i64 0, .int .i64 0, .slice none 0 0] 64 (0, 0)) ∧ w.heap.size + 1 < Wz.heap.size ∧ A5 ≠ A6 ∧ A5 ≠ Wz.heap.size ∧ A6 ≠ Wz.heap.size) := ⟨Hz.out.1.below hb, Hz.out.2.1.below hb, blk_below Hz.out.2.2.1 hb, Hz.out.2.2.2.1, blk_below Hz.out.2.2.2.2.1 hb, Hz.out.2.2.2.2.2.1, heap_alloc_new _ _, Nat.lt_of_succ_le Hz.out.1.sz, Hz.out.2.2.2.2.2.2, Nat.ne_of_lt (lt_of_block Hz.out.2.2.1), Nat.ne_of_lt (lt_of_block Hz.out.2.2.2.2.1)⟩
    clear hb
    refine hK.out _ _ ⟨blk_cell H31.out.1.p0 0 rfl, blk_cell H31.out.1.p0 1 rfl, blk_cell H31.out.1.p0 2 rfl, blk_cell H31.out.1.p1 0 rfl, blk_cell H31.out.1.p1 1 rfl, blk_cell H31.out.1.p1 2 rfl⟩ (fun _ => ?_)
    clear hK
    simp only [List.setIfInBounds_toArray, List.set_cons_zero, List.set_cons_succ]
    exact J1111 _ a1 c1 A5 A6 _ H31
  simp only [Act.put, List.setIfInBounds_toArray, List.set_cons_zero, List.set_cons_succ] at J1110
  refine with_join (fun G lz az => ∀ (Wz : World) (a1 : Option Addr) (c1 : Nat) (A5 : Nat) (A7 : Nat), Hid (OB w Wz stock store a ds cap an N cn am M cm al L cl ∧ Sl 6 Dy.cells Wz a1 ds ∧ Wz.heap[A5]? = some (.cells #[.int .i64 0, .int .i64 0, .slice none 0 0] 56 (0, 0)) ∧ w.heap.size + 1 < A5 ∧ Wz.heap[A7]? = some (.cells #[.int .i64 0, .int .i64 0, .slice none 0 0] 64 (0, 0)) ∧ w.heap.size + 1 < A7 ∧ A5 ≠ A7) → G 3 (((lz.setIfInBounds 1 true).setIfInBounds 6 true).setIfInBounds 8 true) (((az.put (some 38) (wv stock store a1 ds.length c1)).put (some 5) (.pointer (some ⟨A5, 0, none⟩))).put (some 7) (.pointer (some ⟨A7, 0, none⟩))) Wz) ?_ (fun J1101 => ?_)
  · intro Wz a1 c1 A5 A7 Hz
    simp only [Act.put, List.setIfInBounds_toArray, List.set_cons_zero, List.set_cons_succ]
    refine wpAnyH_ready (rs := [3, 7]) (by kernel_rfl) (by simp) ?_
    refine AllReadyH.cons (o := _) rfl (fun K hK => ?_) ?_
    · go_simp
      go_at_call 27
      refine (cloneWth_any N M L an cn am cm al cl Wz Hz.out.1.n.1 Hz.out.1.n.2.1 Hz.out.1.n.2.2 HNA.out.2 HL.out.2.2).mono ?_
      rintro e W32 ⟨b1, e1, b2, e2, b3, e3, rfl, ⟨hs1, hs2, hs3⟩, hb, hf⟩
      have H32 : Hid (OB w W32 stock store a ds cap an N cn am M cm al L cl ∧ Sl 6 Dy.cells W32 a1 ds ∧ TL W32 b1 N b2 M b3 L ∧ W32.heap[A5]? = some (.cells #[.int .i64 0, .int .i64 0, .slice none 0 0] 56 (0, 0)) ∧ w.heap.size + 1 < A5 ∧ W32.heap[A7]? = some (.cells #[.int .i64 0, .int .i64 0, .slice none 0 0] 64 (0, 0)) ∧ w.heap.size + 1 < A7 ∧ A5 ≠ A7 ∧ TN A5 b1 N b2 M b3 L ∧ TN A7 b1 N b2 M b3 L) := ⟨Hz.out.1.below hb, Hz.out.2.1.below hb, ⟨hs1, hs2, hs3⟩, blk_below Hz.out.2.2.1 hb, Hz.out.2.2.2.1, blk_below Hz.out.2.2.2.2.1 hb, Hz.out.2.2.2.2.2.1, Hz.out.2.2.2.2.2.2, TN.old hf (lt_of_block Hz.out.2.2.1), TN.old hf (lt_of_block Hz.out.2.2.2.2.1)⟩
      clear hs1 hs2 hs3 hf hb
      refine hK.out _ _ ⟨blk_cell H32.out.1.p0 0 rfl, blk_cell H32.out.1.p0 1 rfl, blk_cell H32.out.1.p0 2 rfl, blk_cell H32.out.1.p1 0 rfl, blk_cell H32.out.1.p1 1 rfl, blk_cell H32.out.1.p1 2 rfl⟩ (fun _ => ?_)
      clear hK
      simp only [List.setIfInBounds_toArray, List.set_cons_zero, List.set_cons_succ]
      exact J2101 _ a1 c1 b1 e1 b2 e2 b3 e3 A5 A7 H32
    refine AllReadyH.cons (o := _) rfl (fun K hK => ?_) AllReadyH.nil
    go_simp
    have hb : Below Wz.heap.size Wz (Wz.alloc (.cells #[.slice none 0 0, .slice none 0 0, .slice none 0 0] 58)) := (Below.refl _ _).alloc (Nat.le_refl _) _
    have H33 : Hid (OB w (Wz.alloc (.cells #[.slice none 0 0, .slice none 0 0, .slice none 0 0] 58)) stock store a ds cap an N cn am M cm al L cl ∧ Sl 6 Dy.cells (Wz.alloc (.cells #[.slice none 0 0, .slice none 0 0, .slice none 0 0] 58)) a1 ds ∧ (Wz.alloc (.cells #[.slice none 0 0, .slice none 0 0, .slice none 0 0] 58)).heap[A5]? = some (.cells #[.int .i64 0, .int .i64 0, .slice none 0 0] 56 (0, 0)) ∧ w.heap.size + 1 < A5 ∧ (Wz.alloc (.cells #[.slice none 0 0, .slice none 0 0, .slice none 0 0] 58)).heap[Wz.heap.size]? = some (.cells #[.slice none 0 0, .slice none 0 0, .slice none 0 0] 58 (0, 0)) ∧ w.heap.size + 1 < Wz.heap.size ∧ (Wz.alloc (.cells #[.slice none 0 0, .slice none 0 0, .slice none 0 0] 58)).heap[A7]? = some (.cells #[.int .i64 0, .int .i64 0, .slice none 0 0] 64 (0, 0)) ∧ w.heap.size + 1 < A7 ∧ A5 ≠ Wz.heap.size ∧ A5 ≠ A7 ∧ Wz.heap.size ≠ A7) := ⟨Hz.out.1.below hb, Hz.out.2.1.below hb, blk_below Hz.out.2.2.1 hb, Hz.out.2.2.2.1, heap_alloc_new _ _, Nat.lt_of_succ_le Hz.out.1.sz, blk_below Hz.out.2.2.2.2.1 hb, Hz.out.2.2.2.2.2.1, Nat.ne_of_lt (lt_of_block Hz.out.2.2.1), Hz.out.2.2.2.2.2.2, Nat.ne_of_gt (lt_of_block Hz.out.2.2.2.2.1)⟩
    clear hb
    refine hK.out _ _ ⟨blk_cell H33.out.1.p0 0 rfl, blk_cell H33.out.1.p0 1 rfl, blk_cell H33.out.1.p0 2 rfl, blk_cell H33.out.1.p1 0 rfl, blk_cell H33.out.1.p1 1 rfl, blk_cell H33.out.1.p1 2 rfl⟩ (fun _ => ?_)
    clear hK
    simp only [List.setIfInBounds_toArray, List.set_cons_zero, List.set_cons_succ]
    exact J1111 _ a1 c1 A5 _ A7 H33
  simp only [Act.put, List.setIfInBounds_toArray, List.set_cons_zero, List.set_cons_succ] at J1101
  refine with_join (fun G lz az => ∀ (Wz : World) (a1 : Option Addr) (c1 : Nat) (A6 : Nat) (A7 : Nat), Hid (OB w Wz stock store a ds cap an N cn am M cm al L cl ∧ Sl 6 Dy.cells Wz a1 ds ∧ Wz.heap[A6]? = some (.cells #[.slice none 0 0, .slice none 0 0, .slice none 0 0] 58 (0, 0)) ∧ w.heap.size + 1 < A6 ∧ Wz.heap[A7]? = some (.cells #[.int .i64 0, .int .i64 0, .slice none 0 0] 64 (0, 0)) ∧ w.heap.size + 1 < A7 ∧ A6 ≠ A7) → G 3 (((lz.setIfInBounds 1 true).setIfInBounds 7 true).setIfInBounds 8 true) (((az.put (some 38) (wv stock store a1 ds.length c1)).put (some 6) (.pointer (some ⟨A6, 0, none⟩))).put (some 7) (.pointer (some ⟨A7, 0, none⟩))) Wz) ?_ (fun J1011 => ?_)
  · intro Wz a1 c1 A6 A7 Hz
    simp only [Act.put, List.setIfInBounds_toArray, List.set_cons_zero, List.set_cons_succ]
    refine wpAnyH_ready (rs := [3, 6]) (by kernel_rfl) (by simp) ?_
    refine AllReadyH.cons (o := _) rfl (fun K hK => ?_) ?_
    · go_simp
      go_at_call 27
      refine (cloneWth_any N M L an cn am cm al cl Wz Hz.out.1.n.1 Hz.out.1.n.2.1 Hz.out.1.n.2.2 HNA.out.2 HL.out.2.2).mono ?_
      rintro e W34 ⟨b1, e1, b2, e2, b3, e3, rfl, ⟨hs1, hs2, hs3⟩, hb, hf⟩
      have H34 : Hid (OB w W34 stock store a ds cap an N cn am M cm al L cl ∧ Sl 6 Dy.cells W34 a1 ds ∧ TL W34 b1 N b2 M b3 L ∧ W34.heap[A6]? = some (.cells #[.slice none 0 0, .slice none 0 0, .slice none 0 0] 58 (0, 0)) ∧ w.heap.size + 1 < A6 ∧ W34.heap[A7]? = some (.cells #[.int .i64 0, .int .i64 0, .slice none 0 0] 64 (0, 0)) ∧ w.heap.size + 1 < A7 ∧ A6 ≠ A7 ∧ TN A6 b1 N b2 M b3 L ∧ TN A7 b1 N b2 M b3 L) := ⟨Hz.out.1.below hb, Hz.out.2.1.below hb, ⟨hs1, hs2, hs3⟩, blk_below Hz.out.2.2.1 hb, Hz.out.2.2.2.1, blk_below Hz.out.2.2.2.2.1 hb, Hz.out.2.2.2.2.2.1, Hz.out.2.2.2.2.2.2, TN.old hf (lt_of_block Hz.out.2.2.1), TN.old hf (lt_of_block Hz.out.2.2.2.2.1)⟩
      clear hs1 hs2 hs3 hf hb
      refine hK.out _ _ ⟨blk_cell H34.out.1.p0 0 rfl, blk_cell H34.out.1.p0 1 rfl, blk_cell H34.out.1.p0 2 rfl, blk_cell H34.out.1.p1 0 rfl, blk_cell H34.out.1.p1 1 rfl, blk_cell H34.out.1.p1 2 rfl⟩ (fun _ => ?_)
      clear hK
      simp only [List.setIfInBounds_toArray, List.set_cons_zero, List.set_cons_succ]
      exact J2011 _ a1 c1 b1 e1 b2 e2 b3 e3 A6 A7 H34
    refine AllReadyH.cons (o := _) rfl (fun K hK => ?_) AllReadyH.nil
    go_simp
    have hb : Below Wz.heap.size Wz (Wz.alloc (.cells #[.int .i64 0, .int .i64 0, .slice none 0 0] 56)) := (Below.refl _ _).alloc (Nat.le_refl _) _
    have H35 : Hid (OB w (Wz.alloc (.cells #[.int .i64 0, .int .i64 0, .slice none 0 0] 56)) stock store a ds cap an N cn am M cm al L cl ∧ Sl 6 Dy.cells (Wz.alloc (.cells #[.int .i64 0, .int .i64 0, .slice none 0 0] 56)) a1 ds ∧ (Wz.alloc (.cells #[.int .i64 0, .int .i64 0, .slice none 0 0] 56)).heap[Wz.heap.size]? = some (.cells #[.int .i64 0, .int .i64 0, .slice none 0 0] 56 (0, 0)) ∧ w.heap.size + 1 < Wz.heap.size ∧ (Wz.alloc (.cells #[.int .i64 0, .int .i64 0, .slice none 0 0] 56)).heap[A6]? = some (.cells #[.slice none 0 0, .slice none 0 0, .slice none 0 0] 58 (0, 0)) ∧ w.heap.size + 1 < A6 ∧ (Wz.alloc (.cells #[.int .i64 0, .int .i64 0, .slice none 0 0] 56)).heap[A7]? = some (.cells #[.int .i64 0, .int .i64 0, .slice none 0 0] 64 (0, 0)) ∧ w.heap.size + 1 < A7 ∧ Wz.heap.size ≠ A6 ∧ Wz.heap.size ≠ A7 ∧ A6 ≠ A7) := ⟨Hz.out.1.below hb, Hz.out.2.1.below hb, heap_alloc_new _ _, Nat.lt_of_succ_le Hz.out.1.sz, blk_below Hz.out.2.2.1 hb, Hz.out.2.2.2.1, blk_below Hz.out.2.2.2.2.1 hb, Hz.out.2.2.2.2.2.1, Nat.ne_of_gt (lt_of_block Hz.out.2.2.1), Nat.ne_of_gt (lt_of_block Hz.out.2.2.2.2.1), Hz.out.2.2.2.2.2.2⟩
    clear hb
    refine hK.out _ _ ⟨blk_cell H35.out.1.p0 0 rfl, blk_cell H35.out.1.p0 1 rfl, blk_cell H35.out.1.p0 2 rfl, blk_cell H35.out.1.p1 0 rfl, blk_cell H35.out.1.p1 1 rfl, blk_cell H35.out.1.p1 2 rfl⟩ (fun _ => ?_)
    clear hK
    simp only [List.setIfInBounds_toArray, List.set_cons_zero, List.set_cons_succ]
    exact J1111 _ a1 c1 _ A6 A7 H35
  simp only [Act.put, List.setIfInBounds_toArray, List.set_cons_zero, List.set_cons_succ] at J1011
  refine with_join (fun G lz az => ∀ (Wz : World) (A5 : Nat) (A6 : Nat) (A7 : Nat), Hid (OB w Wz stock store a ds cap an N cn am M cm al L cl ∧ Wz.heap[A5]? = some (.cells #[.int .i64 0, .int .i64 0, .slice none 0 0] 56 (0, 0)) ∧ w.heap.size + 1 < A5 ∧ Wz.heap[A6]? = some (.cells #[.slice none 0 0, .slice none 0 0, .slice none 0 0] 58 (0, 0)) ∧ w.heap.size + 1 < A6 ∧ Wz.heap[A7]? = some (.cells #[.int .i64 0, .int .i64 0, .slice none 0 0] 64 (0, 0)) ∧ w.heap.size + 1 < A7 ∧ A5 ≠ A6 ∧ A5 ≠ A7 ∧ A6 ≠ A7) → G 3 (((lz.setIfInBounds 6 true).setIfInBounds 7 true).setIfInBounds 8 true) (((az.put (some 5) (.pointer (some ⟨A5, 0, none⟩))).put (some 6) (.pointer (some ⟨A6, 0, none⟩))).put (some 7) (.pointer (some ⟨A7, 0, none⟩))) Wz) ?_ (fun J0111 => ?_)
  · intro Wz A5 A6 A7 Hz
    simp only [Act.put, List.setIfInBounds_toArray, List.set_cons_zero, List.set_cons_succ]
    refine wpAnyH_ready (rs := [1]) (by kernel_rfl) (by simp) ?_
    refine AllReadyH.cons (o := _) rfl (fun K hK => ?_) AllReadyH.nil
    go_simp
    go_at_call 26
    refine (cloneWin_any stock store a ds cap Wz Hz.out.1.x HNA.out.1 HL.out.1).mono ?_
    rintro e W36 ⟨a1, c1, rfl, hs, hb⟩
    have H36 : Hid (OB w W36 stock store a ds cap an N cn am M cm al L cl ∧ Sl 6 Dy.cells W36 a1 ds ∧ W36.heap[A5]? = some (.cells #[.int .i64 0, .int .i64 0, .slice none 0 0] 56 (0, 0)) ∧ w.heap.size + 1 < A5 ∧ W36.heap[A6]? = some (.cells #[.slice none 0 0, .slice none 0 0, .slice none 0 0] 58 (0, 0)) ∧ w.heap.size + 1 < A6 ∧ W36.heap[A7]? = some (.cells #[.int .i64 0, .int .i64 0, .slice none 0 0] 64 (0, 0)) ∧ w.heap.size + 1 < A7 ∧ A5 ≠ A6 ∧ A5 ≠ A7 ∧ A6 ≠ A7) := ⟨Hz.out.1.below hb, hs, blk_below Hz.out.2.1 hb, Hz.out.2.2.1, blk_below Hz.out.2.2.2.1 hb, Hz.out.2.2.2.2.1, blk_below Hz.out.2.2.2.2.2.1 hb, Hz.out.2.2.2.2.2.2.1, Hz.out.2.2.2.2.2.2.2.1, Hz.out.2.2.2.2.2.2.2.2.1, Hz.out.2.2.2.2.2.2.2.2.2⟩
    clear hs hb
    refine hK.out _ _ ⟨blk_cell H36.out.1.p0 0 rfl, blk_cell H36.out.1.p0 1 rfl, blk_cell H36.out.1.p0 2 rfl, blk_cell H36.out.1.p1 0 rfl, blk_cell H36.out.1.p1 1 rfl, blk_cell H36.out.1.p1 2 rfl⟩ (fun _ => ?_)
    clear hK
    simp only [List.setIfInBounds_toArray, List.set_cons_zero, List.set_cons_succ]
    exact J1111 _ a1 c1 A5 A6 A7 H36
  simp only [Act.put, List.setIfInBounds_toArray, List.set_cons_zero, List.set_cons_succ] at J0111
  refine with_join (fun G lz az => ∀ (Wz : World) (a1 : Option Addr) (c1 : Nat) (b1 : Option Addr) (e1 : Nat) (b2 : Option Addr) (e2 : Nat) (b3 : Option Addr) (e3 : Nat), Hid (OB w Wz stock store a ds cap an N cn am M cm al L cl ∧ Sl 6 Dy.cells Wz a1 ds ∧ TL Wz b1 N b2 M b3 L) → G 4 ((lz.setIfInBounds 1 true).setIfInBounds 3 true) ((az.put (some 38) (wv stock store a1 ds.length c1)).put (some 40) (tv b1 N.length e1 b2 M.length e2 b3 L.length e3)) Wz) ?_ (fun J2000 => ?_)
  · intro Wz a1 c1 b1 e1 b2 e2 b3 e3 Hz
    simp only [Act.put, List.setIfInBounds_toArray, List.set_cons_zero, List.set_cons_succ]
    refine wpAnyH_ready (rs := [5, 6, 7, 8]) (by kernel_rfl) (by simp) ?_
    refine AllReadyH.cons (o := _) rfl (fun K hK => ?_) ?_
    · go_simp
      go_at_call 28
      refine (winter_any stock store a ds cap Wz Hz.out.1.x HL.out.1).mono ?_
      rintro e W37 ⟨a2, c2, rfl, hs, hb⟩
      have H37 : Hid (OB w W37 stock store a ds cap an N cn am M cm al L cl ∧ Sl 6 Dy.cells W37 a1 ds ∧ TL W37 b1 N b2 M b3 L ∧ Sl 6 Dy.cells W37 a2 ds) := ⟨Hz.out.1.below hb, Hz.out.2.1.below hb, Hz.out.2.2.below hb, hs⟩
      clear hs hb
      refine hK.out _ _ ⟨blk_cell H37.out.1.p0 0 rfl, blk_cell H37.out.1.p0 1 rfl, blk_cell H37.out.1.p0 2 rfl, blk_cell H37.out.1.p1 0 rfl, blk_cell H37.out.1.p1 1 rfl, blk_cell H37.out.1.p1 2 rfl⟩ (fun _ => ?_)
      clear hK
      simp only [List.setIfInBounds_toArray, List.set_cons_zero, List.set_cons_succ]
      exact J3000 _ a1 c1 b1 e1 b2 e2 b3 e3 a2 c2 H37
    refine AllReadyH.cons (o := _) rfl (fun K hK => ?_) ?_
    · go_simp
      have hb : Below Wz.heap.size Wz (Wz.alloc (.cells #[.int .i64 0, .int .i64 0, .slice none 0 0] 56)) := (Below.refl _ _).alloc (Nat.le_refl _) _
      have H38 : Hid (OB w (Wz.alloc (.cells #[.int .i64 0, .int .i64 0, .slice none 0 0] 56)) stock store a ds cap an N cn am M cm al L cl ∧ Sl 6 Dy.cells (Wz.alloc (.cells #[.int .i64 0, .int .i64 0, .slice none 0 0] 56)) a1 ds ∧ TL (Wz.alloc (.cells #[.int .i64 0, .int .i64 0, .slice none 0 0] 56)) b1 N b2 M b3 L ∧ (Wz.alloc (.cells #[.int .i64 0, .int .i64 0, .slice none 0 0] 56)).heap[Wz.heap.size]? = some (.cells #[.int .i64 0, .int .i64 0, .slice none 0 0] 56 (0, 0)) ∧ w.heap.size + 1 < Wz.heap.size ∧ TN Wz.heap.size b1 N b2 M b3 L) := ⟨Hz.out.1.below hb, Hz.out.2.1.below hb, Hz.out.2.2.below hb, heap_alloc_new _ _, Nat.lt_of_succ_le Hz.out.1.sz, Hz.out.2.2.new⟩
      clear hb
      refine hK.out _ _ ⟨blk_cell H38.out.1.p0 0 rfl, blk_cell H38.out.1.p0 1 rfl, blk_cell H38.out.1.p0 2 rfl, blk_cell H38.out.1.p1 0 rfl, blk_cell H38.out.1.p1 1 rfl, blk_cell H38.out.1.p1 2 rfl⟩ (fun _ => ?_)
      clear hK
      simp only [List.setIfInBounds_toArray, List.set_cons_zero, List.set_cons_succ]
      exact J2100 _ a1 c1 b1 e1 b2 e2 b3 e3 _ H38
    refine AllReadyH.cons (o := _) rfl (fun K hK => ?_) ?_
    · go_simp
      have hb : Below Wz.heap.size Wz (Wz.alloc (.cells #[.slice none 0 0, .slice none 0 0, .slice none 0 0] 58)) := (Below.refl _ _).alloc (Nat.le_refl _) _
      have H39 : Hid (OB w (Wz.alloc (.cells #[.slice none 0 0, .slice none 0 0, .slice none 0 0] 58)) stock store a ds cap an N cn am M cm al L cl ∧ Sl 6 Dy.cells (Wz.alloc (.cells #[.slice none 0 0, .slice none 0 0, .slice none 0 0] 58)) a1 ds ∧ TL (Wz.alloc (.cells #[.slice none 0 0, .slice none 0 0, .slice none 0 0] 58)) b1 N b2 M b3 L ∧ (Wz.alloc (.cells #[.slice none 0 0, .slice none 0 0, .slice none 0 0] 58)).heap[Wz.heap.size]? = some (.cells #[.slice none 0 0, .slice none 0 0, .slice none 0 0] 58 (0, 0)) ∧ w.heap.size + 1 < Wz.heap.size ∧ TN Wz.heap.size b1 N b2 M b3 L) := ⟨Hz.out.1.below hb, Hz.out.2.1.below hb, Hz.out.2.2.below hb, heap_alloc_new _ _, Nat.lt_of_succ_le Hz.out.1.sz, Hz.out.2.2.new⟩
      clear hb
      refine hK.out _ _ ⟨blk_cell H39.out.1.p0 0 rfl, blk_cell H39.out.1.p0 1 rfl, blk_cell H39.out.1.p0 2 rfl, blk_cell H39.out.1.p1 0 rfl, blk_cell H39.out.1.p1 1 rfl, blk_cell H39.out.1.p1 2 rfl⟩ (fun _ => ?_)
      clear hK
      simp only [List.setIfInBounds_toArray, List.set_cons_zero, List.set_cons_succ]
      exact J2010 _ a1 c1 b1 e1 b2 e2 b3 e3 _ H39
    refine AllReadyH.cons (o := _) rfl (fun K hK => ?_) AllReadyH.nil
    go_simp
    have hb : Below Wz.heap.size Wz (Wz.alloc (.cells #[.int .i64 0, .int .i64 0, .slice none 0 0] 64)) := (Below.refl _ _).alloc (Nat.le_refl _) _
    have H40 : Hid (OB w (Wz.alloc (.cells #[.int .i64 0, .int .i64 0, .slice none 0 0] 64)) stock store a ds cap an N cn am M cm al L cl ∧ Sl 6 Dy.cells (Wz.alloc (.cells #[.int .i64 0, .int .i64 0, .slice none 0 0] 64)) a1 ds ∧ TL (Wz.alloc (.cells #[.int .i64 0, .int .i64 0, .slice none 0 0] 64)) b1 N b2 M b3 L ∧ (Wz.alloc (.cells #[.int .i64 0, .int .i64 0, .slice none 0 0] 64)).heap[Wz.heap.size]? = some (.cells #[.int .i64 0, .int .i64 0, .slice none 0 0] 64 (0, 0)) ∧ w.heap.size + 1 < Wz.heap.size ∧ TN Wz.heap.size b1 N b2 M b3 L) := ⟨Hz.out.1.below hb, Hz.out.2.1.below hb, Hz.out.2.2.below hb, heap_alloc_new _ _, Nat.lt_of_succ_le Hz.out.1.sz, Hz.out.2.2.new⟩
    clear hb
    refine hK.out _ _ ⟨blk_cell H40.out.1.p0 0 rfl, blk_cell H40.out.1.p0 1 rfl, blk_cell H40.out.1.p0 2 rfl, blk_cell H40.out.1.p1 0 rfl, blk_cell H40.out.1.p1 1 rfl, blk_cell H40.out.1.p1 2 rfl⟩ (fun _ => ?_)
    clear hK
    simp only [List.setIfInBounds_toArray, List.set_cons_zero, List.set_cons_succ]
    exact J2001 _ a1 c1 b1 e1 b2 e2 b3 e3 _ H40
  simp only [Act.put, List.setIfInBounds_toArray, List.set_cons_zero, List.set_cons_succ] at J2000
  refine with_join (fun G lz az => ∀ (Wz : World) (a1 : Option Addr) (c1 : Nat) (A5 : Nat), Hid (OB w Wz stock store a ds cap an N cn am M cm al L cl ∧ Sl 6 Dy.cells Wz a1 ds ∧ Wz.heap[A5]? = some (.cells #[.int .i64 0, .int .i64 0, .slice none 0 0] 56 (0, 0)) ∧ w.heap.size + 1 < A5) → G 4 ((lz.setIfInBounds 1 true).setIfInBounds 6 true) ((az.put (some 38) (wv stock store a1 ds.length c1)).put (some 5) (.pointer (some ⟨A5, 0, none⟩))) Wz) ?_ (fun J1100 => ?_)
  · intro Wz a1 c1 A5 Hz
    simp only [Act.put, List.setIfInBounds_toArray, List.set_cons_zero, List.set_cons_succ]
    refine wpAnyH_ready (rs := [3, 7, 8]) (by kernel_rfl) (by simp) ?_
    refine AllReadyH.cons (o := _) rfl (fun K hK => ?_) ?_
    · go_simp
      go_at_call 27
      refine (cloneWth_any N M L an cn am cm al cl Wz Hz.out.1.n.1 Hz.out.1.n.2.1 Hz.out.1.n.2.2 HNA.out.2 HL.out.2.2).mono ?_
      rintro e W41 ⟨b1, e1, b2, e2, b3, e3, rfl, ⟨hs1, hs2, hs3⟩, hb, hf⟩
      have H41 : Hid (OB w W41 stock store a ds cap an N cn am M cm al L cl ∧ Sl 6 Dy.cells W41 a1 ds ∧ TL W41 b1 N b2 M b3 L ∧ W41.heap[A5]? = some (.cells #[.int .i64 0, .int .i64 0, .slice none 0 0] 56 (0, 0)) ∧ w.heap.size + 1 < A5 ∧ TN A5 b1 N b2 M b3 L) := ⟨Hz.out.1.below hb, Hz.out.2.1.below hb, ⟨hs1, hs2, hs3⟩, blk_below Hz.out.2.2.1 hb, Hz.out.2.2.2, TN.old hf (lt_of_block Hz.out.2.2.1)⟩
      clear hs1 hs2 hs3 hf hb
      refine hK.out _ _ ⟨blk_cell H41.out.1.p0 0 rfl, blk_cell H41.out.1.p0 1 rfl, blk_cell H41.out.1.p0 2 rfl, blk_cell H41.out.1.p1 0 rfl, blk_cell H41.out.1.p1 1 rfl, blk_cell H41.out.1.p1 2 rfl⟩ (fun _ => ?_)
      clear hK
      simp only [List.setIfInBounds_toArray, List.set_cons_zero, List.set_cons_succ]
      exact J2100 _ a1 c1 b1 e1 b2 e2 b3 e3 A5 H41
    refine AllReadyH.cons (o := _) rfl (fun K hK => ?_) ?_
    · go_simp
      have hb : Below Wz.heap.size Wz (Wz.alloc (.cells #[.slice none 0 0, .slice none 0 0, .slice none 0 0] 58)) := (Below.refl _ _).alloc (Nat.le_refl _) _
      have H42 : Hid (OB w (Wz.alloc (.cells #[.slice none 0 0, .slice none 0 0, .slice none 0 0] 58)) stock store a ds cap an N cn am M cm al L cl ∧ Sl 6 Dy.cells (Wz.alloc (.cells #[.slice none 0 0, .slice none 0 0, .slice none 0 0] 58)) a1 ds ∧ (Wz.alloc (.cells #[.slice none 0 0, .slice none 0 0, .slice none 0 0] 58)).heap[A5]? = some (.cells #[.int .i64 0, .int .i64 0, .slice none 0 0] 56 (0, 0)) ∧ w.heap.size + 1 < A5 ∧ (Wz.alloc (.cells #[.slice none 0 0, .slice none 0 0, .slice none 0 0] 58)).heap[Wz.heap.size]? = some (.cells #[.slice none 0 0, .slice none 0 0, .slice none 0 0] 58 (0, 0)) ∧ w.heap.size + 1 < Wz.heap.size ∧ A5 ≠ Wz.heap.size) := ⟨Hz.out.1.below hb, Hz.out.2.1.below hb, blk_below Hz.out.2.2.1 hb, Hz.out.2.2.2, heap_alloc_new _ _, Nat.lt_of_succ_le Hz.out.1.sz, Nat.ne_of_lt (lt_of_block Hz.out.2.2.1)⟩
      clear hb
      refine hK.out _ _ ⟨blk_cell H42.out.1.p0 0 rfl, blk_cell H42.out.1.p0 1 rfl, blk_cell H42.out.1.p0 2 rfl, blk_cell H42.out.1.p1 0 rfl, blk_cell H42.out.1.p1 1 rfl, blk_cell H42.out.1.p1 2 rfl⟩ (fun _ => ?_)
      clear hK
      simp only [List.setIfInBounds_toArray, List.set_cons_zero, List.set_cons_succ]
      exact J1110 _ a1 c1 A5 _ H42
    refine AllReadyH.cons (o := _) rfl (fun K hK => ?_) AllReadyH.nil
    go_simp
    have hb : Below Wz.heap.size Wz (Wz.alloc (.cells #[.int .i64 0, .int .i64 0, .slice none 0 0] 64)) := (Below.refl _ _).alloc (Nat.le_refl _) _
    have H43 : Hid (OB w (Wz.alloc (.cells #[.int .i64 0, .int .i64 0, .slice none 0 0] 64)) stock store a ds cap an N cn am M cm al L cl ∧ Sl 6 Dy.cells (Wz.alloc (.cells #[.int .i64 0, .int .i64 0, .slice none 0 0] 64)) a1 ds ∧ (Wz.alloc (.cells #[.int .i64 0, .int .i64 0, .slice none 0 0] 64)).heap[A5]? = some (.cells #[.int .i64 0, .int .i64 0, .slice none 0 0] 56 (0, 0)) ∧ w.heap.size + 1 < A5 ∧ (Wz.alloc (.cells #[.int .i64 0, .int .i64 0, .slice none 0 0] 64)).heap[Wz.heap.size]? = some (.cells #[.int .i64 0, .int .i64 0, .slice none 0 0] 64 (0, 0)) ∧ w.heap.size + 1 < Wz.heap.size ∧ A5 ≠ Wz.heap.size) := ⟨Hz.out.1.below hb, Hz.out.2.1.below hb, blk_below Hz.out.2.2.1 hb, Hz.out.2.2.2, heap_alloc_new _ _, Nat.lt_of_succ_le Hz.out.1.sz, Nat.ne_of_lt (lt_of_block Hz.out.2.2.1)⟩
    clear hb
    refine hK.out _ _ ⟨blk_cell H43.out.1.p0 0 rfl, blk_cell H43.out.1.p0 1 rfl, blk_cell H43.out.1.p0 2 rfl, blk_cell H43.out.1.p1 0 rfl, blk_cell H43.out.1.p1 1 rfl, blk_cell H43.out.1.p1 2 rfl⟩ (fun _ => ?_)
    clear hK
    simp only [List.setIfInBounds_toArray, List.set_cons_zero, List.set_cons_succ]
    exact J1101 _ a1 c1 A5 _ H43
  simp only [Act.put, List.setIfInBounds_toArray, List.set_cons_zero, List.set_cons_succ] at J1100
  refine with_join (fun G lz az => ∀ (Wz : World) (a1 : Option Addr) (c1 : Nat) (A6 : Nat), Hid (OB w Wz stock store a ds cap an N cn am M cm al L cl ∧ Sl 6 Dy.cells Wz a1 ds ∧ Wz.heap[A6]? = some (.cells #[.slice none 0 0, .slice none 0 0, .slice none 0 0] 58 (0, 0)) ∧ w.heap.size + 1 < A6) → G 4 ((lz.setIfInBounds 1 true).setIfInBounds 7 true) ((az.put (some 38) (wv stock store a1 ds.length c1)).put (some 6) (.pointer (some ⟨A6, 0, none⟩))) Wz) ?_ (fun J1010 => ?_)
  · intro Wz a1 c1 A6 Hz
    simp only [Act.put, List.setIfInBounds_toArray, List.set_cons_zero, List.set_cons_succ]
    refine wpAnyH_ready (rs := [3, 6, 8]) (by kernel_rfl) (by simp) ?_
    refine AllReadyH.cons (o := _) rfl (fun K hK => ?_) ?_
    · go_simp
      go_at_call 27
      refine (cloneWth_any N M L an cn am cm al cl Wz Hz.out.1.n.1 Hz.out.1.n.2.1 Hz.out.1.n.2.2 HNA.out.2 HL.out.2.2).mono ?_
      rintro e W44 ⟨b1, e1, b2, e2, b3, e3, rfl, ⟨hs1, hs2, hs3⟩, hb, hf⟩
      have H44 : Hid (OB w W44 stock store a ds cap an N cn am M cm al L cl ∧ Sl 6 Dy.cells W44 a1 ds ∧ TL W44 b1 N b2 M b3 L ∧ W44.heap[A6]? = some (.cells #[.slice none 0 0, .slice none 0 0, .slice none 0 0] 58 (0, 0)) ∧ w.heap.size + 1 < A6 ∧ TN A6 b1 N b2 M b3 L) := ⟨Hz.out.1.below hb, Hz.out.2.1.below hb, ⟨hs1, hs2, hs3⟩, blk_below Hz.out.2.2.1 hb, Hz.out.2.2.2, TN.old hf (lt_of_block Hz.out.2.2.1)⟩
      clear hs1 hs2 hs3 hf hb
      refine hK.out _ _ ⟨blk_cell H44.out.1.p0 0 rfl, blk_cell H44.out.1.p0 1 rfl, blk_cell H44.out.1.p0 2 rfl, blk_cell H44.out.1.p1 0 rfl, blk_cell H44.out.1.p1 1 rfl, blk_cell H44.out.1.p1 2 rfl⟩ (fun _ => ?_)
      clear hK
      simp only [List.setIfInBounds_toArray, List.set_cons_zero, List.set_cons_succ]
      exact J2010 _ a1 c1 b1 e1 b2 e2 b3 e3 A6 H44
    refine AllReadyH.cons (o := _) rfl (fun K hK => ?_) ?_
    · go_simp
      have hb : Below Wz.heap.size Wz (Wz.alloc (.cells #[.int .i64 0, .int .i64 0, .slice none 0 0] 56)) := (Below.refl _ _).alloc (Nat.le_refl _) _
      have H45 : Hid (OB w (Wz.alloc (.cells #[.int .i64 0, .int .i64 0, .slice none 0 0] 56)) stock store a ds cap an N cn am M cm al L cl ∧ Sl 6 Dy.cells (Wz.alloc (.cells #[.int .i64 0, .int .i64 0, .slice none 0 0] 56)) a1 ds ∧ (Wz.alloc (.cells #[.int .i64 0, .int .i64 0, .slice none 0 0] 56)).heap[Wz.heap.size]? = some (.cells #[.int .i64 0, .int .i64 0, .slice none 0 0] 56 (0, 0)) ∧ w.heap.size + 1 < Wz.heap.size ∧ (Wz.alloc (.cells #[.int .i64 0, .int .i64 0, .slice none 0 0] 56)).heap[A6]? = some (.cells #[.slice none 0 0, .slice none 0 0, .slice none 0 0] 58 (0, 0)) ∧ w.heap.size + 1 < A6 ∧ Wz.heap.size ≠ A6) := ⟨Hz.out.1.below hb, Hz.out.2.1.below hb, heap_alloc_new _ _, Nat.lt_of_succ_le Hz.out.1.sz, blk_below Hz.out.2.2.1 hb, Hz.out.2.2.2, Nat.ne_of_gt (lt_of_block Hz.out.2.2.1)⟩
      clear hb
      refine hK.out _ _ ⟨blk_cell H45.out.1.p0 0 rfl, blk_cell H45.out.1.p0 1 rfl, blk_cell H45.out.1.p0 2 rfl, blk_cell H45.out.1.p1 0 rfl, blk_cell H45.out.1.p1 1 rfl, blk_cell H45.out.1.p1 2 rfl⟩ (fun _ => ?_)
      clear hK
      simp only [List.setIfInBounds_toArray, List.set_cons_zero, List.set_cons_succ]
      exact J1110 _ a1 c1 _ A6 H45
    refine AllReadyH.cons (o := _) rfl (fun K hK => ?_) AllReadyH.nil
    go_simp
    have hb : Below Wz.heap.size Wz (Wz.alloc (.cells #[.int .i64 0, .int .i64 0, .slice none 0 0] 64)) := (Below.refl _ _).alloc (Nat.le_refl _) _
    have H46 : Hid (OB w (Wz.alloc (.cells #[.int .i64 0, .int .i64 0, .slice none 0 0] 64)) stock store a ds cap an N cn am M cm al L cl ∧ Sl 6 Dy.cells (Wz.alloc (.cells #[.int .i64 0, .int .i64 0, .slice none 0 0] 64)) a1 ds ∧ (Wz.alloc (.cells #[.int .i64 0, .int .i64 0, .slice none 0 0] 64)).heap[A6]? = some (.cells #[.slice none 0 0, .slice none 0 0, .slice none 0 0] 58 (0, 0)) ∧ w.heap.size + 1 < A6 ∧ (Wz.alloc (.cells #[.int .i64 0, .int .i64 0, .slice none 0 0] 64)).heap[Wz.heap.size]? = some (.cells #[.int .i64 0, .int .i64 0, .slice none 0 0] 64 (0, 0)) ∧ w.heap.size + 1 < Wz.heap.size ∧ A6 ≠ Wz.heap.size) := ⟨Hz.out.1.below hb, Hz.out.2.1.below hb, blk_below Hz.out.2.2.1 hb, Hz.out.2.2.2, heap_alloc_new _ _, Nat.lt_of_succ_le Hz.out.1.sz, Nat.ne_of_lt (lt_of_block Hz.out.2.2.1)⟩
    clear hb
    refine hK.out _ _ ⟨blk_cell H46.out.1.p0 0 rfl, blk_cell H46.out.1.p0 1 rfl, blk_cell H46.out.1.p0 2 rfl, blk_cell H46.out.1.p1 0 rfl, blk_cell H46.out.1.p1 1 rfl, blk_cell H46.out.1.p1 2 rfl⟩ (fun _ => ?_)
    clear hK
    simp only [List.setIfInBounds_toArray, List.set_cons_zero, List.set_cons_succ]
    exact J1011 _ a1 c1 A6 _ H46
  simp only [Act.put, List.setIfInBounds_toArray, List.set_cons_zero, List.set_cons_succ] at J1010
  refine with_join (fun G lz az => ∀ (Wz : World) (a1 : Option Addr) (c1 : Nat) (A7 : Nat), Hid (OB w Wz stock store a ds cap an N cn am M cm al L cl ∧ Sl 6 Dy.cells Wz a1 ds ∧ Wz.heap[A7]? = some (.cells #[.int .i64 0, .int .i64 0, .slice none 0 0] 64 (0, 0)) ∧ w.heap.size + 1 < A7) → G 4 ((lz.setIfInBounds 1 true).setIfInBounds 8 true) ((az.put (some 38) (wv stock store a1 ds.length c1)).put (some 7) (.pointer (some ⟨A7, 0, none⟩))) Wz) ?_ (fun J1001 => ?_)
  · intro Wz a1 c1 A7 Hz
    simp only [Act.put, List.setIfInBounds_toArray, List.set_cons_zero, List.set_cons_succ]
    refine wpAnyH_ready (rs := [3, 6, 7]) (by kernel_rfl) (by simp) ?_
    refine AllReadyH.cons (o := _) rfl (fun K hK => ?_) ?_
    · go_simp
      go_at_call 27
      refine (cloneWth_any N M L an cn am cm al cl Wz Hz.out.1.n.1 Hz.out.1.n.2.1 Hz.out.1.n.2.2 HNA.out.2 HL.out.2.2).mono ?_
      rintro e W47 ⟨b1, e1, b2, e2, b3, e3, rfl, ⟨hs1, hs2, hs3⟩, hb, hf⟩
      have H47 : Hid (OB w W47 stock store a ds cap an N cn am M cm al L cl ∧ Sl 6 Dy.cells W47 a1 ds ∧ TL W47 b1 N b2 M b3 L ∧ W47.heap[A7]? = some (.cells #[.int .i64 0, .int .i64 0, .slice none 0 0] 64 (0, 0)) ∧ w.heap.size + 1 < A7 ∧ TN A7 b1 N b2 M b3 L) := ⟨Hz.out.1.below hb, Hz.out.2.1.below hb, ⟨hs1, hs2, hs3⟩, blk_below Hz.out.2.2.1 hb, Hz.out.2.2.2, TN.old hf (lt_of_block Hz.out.2.2.1)⟩
      clear hs1 hs2 hs3 hf hb
      refine hK.out _ _ ⟨blk_cell H47.out.1.p0 0 rfl, blk_cell H47.out.1.p0 1 rfl, blk_cell H47.out.1.p0 2 rfl, blk_cell H47.out.1.p1 0 rfl, blk_cell H47.out.1.p1 1 rfl, blk_cell H47.out.1.p1 2 rfl⟩ (fun _ => ?_)
      clear hK
      simp only [List.setIfInBounds_toArray, List.set_cons_zero, List.set_cons_succ]
      exact J2001 _ a1 c1 b1 e1 b2 e2 b3 e3 A7 H47
    refine AllReadyH.cons (o := _) rfl (fun K hK => ?_) ?_
    · go_simp
      have hb : Below Wz.heap.size Wz (Wz.alloc (.cells #[.int .i64 0, .int .i64 0, .slice none 0 0] 56)) := (Below.refl _ _).alloc (Nat.le_refl _) _
      have H48 : Hid (OB w (Wz.alloc (.cells #[.int .i64 0, .int .i64 0, .slice none 0 0] 56)) stock store a ds cap an N cn am M cm al L cl ∧ Sl 6 Dy.cells (Wz.alloc (.cells #[.int .i64 0, .int .i64 0, .slice none 0 0] 56)) a1 ds ∧ (Wz.alloc (.cells #[.int .i64 0, .int .i64 0, .slice none 0 0] 56)).heap[Wz.heap.size]? = some (.cells #[.int .i64 0, .int .i64 0, .slice none 0 0] 56 (0, 0)) ∧ w.heap.size + 1 < Wz.heap.size ∧ (Wz.alloc (.cells #[.int .i64 0, .int .i64 0, .slice none 0 0] 56)).heap[A7]? = some (.cells #[.int .i64 0, .int .i64 0, .slice none 0 0] 64 (0, 0)) ∧ w.heap.size + 1 < A7 ∧ Wz.heap.size ≠ A7) := ⟨Hz.out.1.below hb, Hz.out.2.1.below hb, heap_alloc_new _ _, Nat.lt_of_succ_le Hz.out.1.sz, blk_below Hz.out.2.2.1 hb, Hz.out.2.2.2, Nat.ne_of_gt (lt_of_block Hz.out.2.2.1)⟩
      clear hb
      refine hK.out _ _ ⟨blk_cell H48.out.1.p0 0 rfl, blk_cell H48.out.1.p0 1 rfl, blk_cell H48.out.1.p0 2 rfl, blk_cell H48.out.1.p1 0 rfl, blk_cell H48.out.1.p1 1 rfl, blk_cell H48.out.1.p1 2 rfl⟩ (fun _ => ?_)
      clear hK
      simp only [List.setIfInBounds_toArray, List.set_cons_zero, List.set_cons_succ]
      exact J1101 _ a1 c1 _ A7 H48
    refine AllReadyH.cons (o := _) rfl (fun K hK => ?_) AllReadyH.nil
    go_simp
    have hb : Below Wz.heap.size Wz (Wz.alloc (.cells #[.slice none 0 0, .slice none 0 0, .slice none 0 0] 58)) := (Below.refl _ _).alloc (Nat.le_refl _) _
    have H49 : Hid (OB w (Wz.alloc (.cells #[.slice none 0 0, .slice none 0 0, .slice none 0 0] 58)) stock store a ds cap an N cn am M cm al L cl ∧ Sl 6 Dy.cells (Wz.alloc (.cells #[.slice none 0 0, .slice none 0 0, .slice none 0 0] 58)) a1 ds ∧ (Wz.alloc (.cells #[.slice none 0 0, .slice none 0 0, .slice none 0 0] 58)).heap[Wz.heap.size]? = some (.cells #[.slice none 0 0, .slice none 0 0, .slice none 0 0] 58 (0, 0)) ∧ w.heap.size + 1 < Wz.heap.size ∧ (Wz.alloc (.cells #[.slice none 0 0, .slice none 0 0, .slice none 0 0] 58)).heap[A7]? = some (.cells #[.int .i64 0, .int .i64 0, .slice none 0 0] 64 (0, 0)) ∧ w.heap.size + 1 < A7 ∧ Wz.heap.size ≠ A7) := ⟨Hz.out.1.below hb, Hz.out.2.1.below hb, heap_alloc_new _ _, Nat.lt_of_succ_le Hz.out.1.sz, blk_below Hz.out.2.2.1 hb, Hz.out.2.2.2, Nat.ne_of_gt (lt_of_block Hz.out.2.2.1)⟩
    clear hb
    refine hK.out _ _ ⟨blk_cell H49.out.1.p0 0 rfl, blk_cell H49.out.1.p0 1 rfl, blk_cell H49.out.1.p0 2 rfl, blk_cell H49.out.1.p1 0 rfl, blk_cell H49.out.1.p1 1 rfl, blk_cell H49.out.1.p1 2 rfl⟩ (fun _ => ?_)
    clear hK
    simp only [List.setIfInBounds_toArray, List.set_cons_zero, List.set_cons_succ]
    exact J1011 _ a1 c1 _ A7 H49
  simp only [Act.put, List.setIfInBounds_toArray, List.set_cons_zero, List.set_cons_succ] at J1001
  refine with_join (fun G lz az => ∀ (Wz : World) (A5 : Nat) (A6 : Nat), Hid (OB w Wz stock store a ds cap an N cn am M cm al L cl ∧ Wz.heap[A5]? = some (.cells #[.int .i64 0, .int .i64 0, .slice none 0 0] 56 (0, 0)) ∧ w.heap.size + 1 < A5 ∧ Wz.heap[A6]? = some (.cells #[.slice none 0 0, .slice none 0 0, .slice none 0 0] 58 (0, 0)) ∧ w.heap.size + 1 < A6 ∧ A5 ≠ A6) → G 4 ((lz.setIfInBounds 6 true).setIfInBounds 7 true) ((az.put (some 5) (.pointer (some ⟨A5, 0, none⟩))).put (some 6) (.pointer (some ⟨A6, 0, none⟩))) Wz) ?_ (fun J0110 => ?_)
  · intro Wz A5 A6 Hz
    simp only [Act.put, List.setIfInBounds_toArray, List.set_cons_zero, List.set_cons_succ]
    refine wpAnyH_ready (rs := [1, 8]) (by kernel_rfl) (by simp) ?_
    refine AllReadyH.cons (o := _) rfl (fun K hK => ?_) ?_
    · go_simp
      go_at_call 26
      refine (cloneWin_any stock store a ds cap Wz Hz.out.1.x HNA.out.1 HL.out.1).mono ?_
      rintro e W50 ⟨a1, c1, rfl, hs, hb⟩
      have H50 : Hid (OB w W50 stock store a ds cap an N cn am M cm al L cl ∧ Sl 6 Dy.cells W50 a1 ds ∧ W50.heap[A5]? = some (.cells #[.int .i64 0, .int .i64 0, .slice none 0 0] 56 (0, 0)) ∧ w.heap.size + 1 < A5 ∧ W50.heap[A6]? = some (.cells #[.slice none 0 0, .slice none 0 0, .slice none 0 0] 58 (0, 0)) ∧ w.heap.size + 1 < A6 ∧ A5 ≠ A6) := ⟨Hz.out.1.below hb, hs, blk_below Hz.out.2.1 hb, Hz.out.2.2.1, blk_below Hz.out.2.2.2.1 hb, Hz.out.2.2.2.2.1, Hz.out.2.2.2.2.2⟩
      clear hs hb
      refine hK.out _ _ ⟨blk_cell H50.out.1.p0 0 rfl, blk_cell H50.out.1.p0 1 rfl, blk_cell H50.out.1.p0 2 rfl, blk_cell H50.out.1.p1 0 rfl, blk_cell H50.out.1.p1 1 rfl, blk_cell H50.out.1.p1 2 rfl⟩ (fun _ => ?_)
      clear hK
      simp only [List.setIfInBounds_toArray, List.set_cons_zero, List.set_cons_succ]
      exact J1110 _ a1 c1 A5 A6 H50
    refine AllReadyH.cons (o := _) rfl (fun K hK => ?_) AllReadyH.nil
    go_simp
    have hb : Below Wz.heap.size Wz (Wz.alloc (.cells #[.int .i64 0, .int .i64 0, .slice none 0 0] 64)) := (Below.refl _ _).alloc (Nat.le_refl _) _
    have H51 : Hid (OB w (Wz.alloc (.cells #[.int .i64 0, .int .i64 0, .slice none 0 0] 64)) stock store a ds cap an N cn am M cm al L cl ∧ (Wz.alloc (.cells #[.int .i64 0, .int .i64 0, .slice none 0 0] 64)).heap[A5]? = some (.cells #[.int .i64 0, .int .i64 0, .slice none 0 0] 56 (0, 0)) ∧ w.heap.size + 1 < A5 ∧ (Wz.alloc (.cells #[.int .i64 0, .int .i64 0, .slice none 0 0] 64)).heap[A6]? = some (.cells #[.slice none 0 0, .slice none 0 0, .slice none 0 0] 58 (0, 0)) ∧ w.heap.size + 1 < A6 ∧ (Wz.alloc (.cells #[.int .i64 0, .int .i64 0, .slice none 0 0] 64)).heap[Wz.heap.size]? = some (.cells #[.int .i64 0, .int .i64 0, .slice none 0 0] 64 (0, 0)) ∧ w.heap.size + 1 < Wz.heap.size ∧ A5 ≠ A6 ∧ A5 ≠ Wz.heap.size ∧ A6 ≠ Wz.heap.size) := ⟨Hz.out.1.below hb, blk_below Hz.out.2.1 hb, Hz.out.2.2.1, blk_below Hz.out.2.2.2.1 hb, Hz.out.2.2.2.2.1, heap_alloc_new _ _, Nat.lt_of_succ_le Hz.out.1.sz, Hz.out.2.2.2.2.2, Nat.ne_of_lt (lt_of_block Hz.out.2.1), Nat.ne_of_lt (lt_of_block Hz.out.2.2.2.1)⟩
    clear hb
    refine hK.out _ _ ⟨blk_cell H51.out.1.p0 0 rfl, blk_cell H51.out.1.p0 1 rfl, blk_cell H51.out.1.p0 2 rfl, blk_cell H51.out.1.p1 0 rfl, blk_cell H51.out.1.p1 1 rfl, blk_cell H51.out.1.p1 2 rfl⟩ (fun _ => ?_)
    clear hK
    simp only [List.setIfInBounds_toArray, List.set_cons_zero, List.set_cons_succ]
    exact J0111 _ A5 A6 _ H51
  simp only [Act.put, List.setIfInBounds_toArray, List.set_cons_zero, List.set_cons_succ] at J0110
  refine with_join (fun G lz az => ∀ (Wz : World) (A5 : Nat) (A7 : Nat), Hid (OB w Wz stock store a ds cap an N cn am M cm al L cl ∧ Wz.heap[A5]? = some (.cells #[.int .i64 0, .int .i64 0, .slice none 0 0] 56 (0, 0)) ∧ w.heap.size + 1 < A5 ∧ Wz.heap[A7]? = some (.cells #[.int .i64 0, .int .i64 0, .slice none 0 0] 64 (0, 0)) ∧ w.heap.size + 1 < A7 ∧ A5 ≠ A7) → G 4 ((lz.setIfInBounds 6 true).setIfInBounds 8 true) ((az.put (some 5) (.pointer (some ⟨A5, 0, none⟩))).put (some 7) (.pointer (some ⟨A7, 0, none⟩))) Wz) ?_ (fun J0101 => ?_)
  · intro Wz A5 A7 Hz
    simp only [Act.put, List.setIfInBounds_toArray, List.set_cons_zero, List.set_cons_succ]
    refine wpAnyH_ready (rs := [1, 7]) (by kernel_rfl) (by simp) ?_
    refine AllReadyH.cons (o := _) rfl (fun K hK => ?_) ?_
    · go_simp
      go_at_call 26
      refine (cloneWin_any stock store a ds cap Wz Hz.out.1.x HNA.out.1 HL.out.1).mono ?_
      rintro e W52 ⟨a1, c1, rfl, hs, hb⟩
      have H52 : Hid (OB w W52 stock store a ds cap an N cn am M cm al L cl ∧ Sl 6 Dy.cells W52 a1 ds ∧ W52.heap[A5]? = some (.cells #[.int .i64 0, .int .i64 0, .slice none 0 0] 56 (0, 0)) ∧ w.heap.size + 1 < A5 ∧ W52.heap[A7]? = some (.cells #[.int .i64 0, .int .i64 0, .slice none 0 0] 64 (0, 0)) ∧ w.heap.size + 1 < A7 ∧ A5 ≠ A7) := ⟨Hz.out.1.below hb, hs, blk_below Hz.out.2.1 hb, Hz.out.2.2.1, blk_below Hz.out.2.2.2.1 hb, Hz.out.2.2.2.2.1, Hz.out.2.2.2.2.2⟩
      clear hs hb
      refine hK.out _ _ ⟨blk_cell H52.out.1.p0 0 rfl, blk_cell H52.out.1.p0 1 rfl, blk_cell H52.out.1.p0 2 rfl, blk_cell H52.out.1.p1 0 rfl, blk_cell H52.out.1.p1 1 rfl, blk_cell H52.out.1.p1 2 rfl⟩ (fun _ => ?_)
      clear hK
      simp only [List.setIfInBounds_toArray, List.set_cons_zero, List.set_cons_succ]
      exact J1101 _ a1 c1 A5 A7 H52
    refine AllReadyH.cons (o := _) rfl (fun K hK => ?_) AllReadyH.nil
    go_simp
    have hb : Below Wz.heap.size Wz (Wz.alloc (.cells #[.slice none 0 0, .slice none 0 0, .slice none 0 0] 58)) := (Below.refl _ _).alloc (Nat.le_refl _) _
    have H53 : Hid (OB w (Wz.alloc (.cells #[.slice none 0 0, .slice none 0 0, .slice none 0 0] 58)) stock store a ds cap an N cn am M cm al L cl ∧ (Wz.alloc (.cells #[.slice none 0 0, .slice none 0 0, .slice none 0 0] 58)).heap[A5]? = some (.cells #[.int .i64 0, .int .i64 0, .slice none 0 0] 56 (0, 0)) ∧ w.heap.size + 1 < A5 ∧ (Wz.alloc (.cells #[.slice none 0 0, .slice none 0 0, .slice none 0 0] 58)).heap[Wz.heap.size]? = some (.cells #[.slice none 0 0, .slice none 0 0, .slice none 0 0] 58 (0, 0)) ∧ w.heap.size + 1 < Wz.heap.size ∧ (Wz.alloc (.cells #[.slice none 0 0, .slice none 0 0, .slice none 0 0] 58)).heap[A7]? = some (.cells #[.int .i64 0, .int .i64 0, .slice none 0 0] 64 (0, 0)) ∧ w.heap.size + 1 < A7 ∧ A5 ≠ Wz.heap.size ∧ A5 ≠ A7 ∧ Wz.heap.size ≠ A7) := ⟨Hz.out.1.below hb, blk_below Hz.out.2.1 hb, Hz.out.2.2.1, heap_alloc_new _ _, Nat.lt_of_succ_le Hz.out.1.sz, blk_below Hz.out.2.2.2.1 hb, Hz.out.2.2.2.2.1, Nat.ne_of_lt (lt_of_block Hz.out.2.1), Hz.out.2.2.2.2.2, Nat.ne_of_gt (lt_of_block Hz.out.2.2.2.1)⟩
    clear hb
    refine hK.out _ _ ⟨blk_cell H53.out.1.p0 0 rfl, blk_cell H53.out.1.p0 1 rfl, blk_cell H53.out.1.p0 2 rfl, blk_cell H53.out.1.p1 0 rfl, blk_cell H53.out.1.p1 1 rfl, blk_cell H53.out.1.p1 2 rfl⟩ (fun _ => ?_)
    clear hK
    simp only [List.setIfInBounds_toArray, List.set_cons_zero, List.set_cons_succ]
    exact J0111 _ A5 _ A7 H53
  simp only [Act.put, List.setIfInBounds_toArray, List.set_cons_zero, List.set_cons_succ] at J0101
  refine with_join (fun G lz az => ∀ (Wz : World) (A6 : Nat) (A7 : Nat), Hid (OB w Wz stock store a ds cap an N cn am M cm al L cl ∧ Wz.heap[A6]? = some (.cells #[.slice none 0 0, .slice none 0 0, .slice none 0 0] 58 (0, 0)) ∧ w.heap.size + 1 < A6 ∧ Wz.heap[A7]? = some (.cells #[.int .i64 0, .int .i64 0, .slice none 0 0] 64 (0, 0)) ∧ w.heap.size + 1 < A7 ∧ A6 ≠ A7) → G 4 ((lz.setIfInBounds 7 true).setIfInBounds 8 true) ((az.put (some 6) (.pointer (some ⟨A6, 0, none⟩))).put (some 7) (.pointer (some ⟨A7, 0, none⟩))) Wz) ?_ (fun J0011 => ?_)
  · intro Wz A6 A7 Hz
    simp only [Act.put, List.setIfInBounds_toArray, List.set_cons_zero, List.set_cons_succ]
    refine wpAnyH_ready (rs := [1, 6]) (by kernel_rfl) (by simp) ?_
    refine AllReadyH.cons (o := _) rfl (fun K hK => ?_) ?_
    · go_simp
      go_at_call 26
      refine (cloneWin_any stock store a ds cap Wz Hz.out.1.x HNA.out.1 HL.out.1).mono ?_
      rintro e W54 ⟨a1, c1, rfl, hs, hb⟩
      have H54 : Hid (OB w W54 stock store a ds cap an N cn am M cm al L cl ∧ Sl 6 Dy.cells W54 a1 ds ∧ W54.heap[A6]? = some (.cells #[.slice none 0 0, .slice none 0 0, .slice none 0 0] 58 (0, 0)) ∧ w.heap.size + 1 < A6 ∧ W54.heap[A7]? = some (.cells #[.int .i64 0, .int .i64 0, .slice none 0 0] 64 (0, 0)) ∧ w.heap.size + 1 < A7 ∧ A6 ≠ A7) := ⟨Hz.out.1.below hb, hs, blk_below Hz.out.2.1 hb, Hz.out.2.2.1, blk_below Hz.out.2.2.2.1 hb, Hz.out.2.2.2.2.1, Hz.out.2.2.2.2.2⟩
      clear hs hb
      refine hK.out _ _ ⟨blk_cell H54.out.1.p0 0 rfl, blk_cell H54.out.1.p0 1 rfl, blk_cell H54.out.1.p0 2 rfl, blk_cell H54.out.1.p1 0 rfl, blk_cell H54.out.1.p1 1 rfl, blk_cell H54.out.1.p1 2 rfl⟩ (fun _ => ?_)
      clear hK
      simp only [List.setIfInBounds_toArray, List.set_cons_zero, List.set_cons_succ]
      exact J1011 _ a1 c1 A6 A7 H54
    refine AllReadyH.cons (o := _) rfl (fun K hK => ?_) AllReadyH.nil
    go_simp
    have hb : Below Wz.heap.size Wz (Wz.alloc (.cells #[.int .i64 0, .int .i64 0, .slice none 0 0] 56)) := (Below.refl _ _).alloc (Nat.le_refl _) _
    have H55 : Hid (OB w (Wz.alloc (.cells #[.int .i64 0, .int .i64 0, .slice none 0 0] 56)) stock store a ds cap an N cn am M cm al L cl ∧ (Wz.alloc (.cells #[.int .i64 0, .int .i64 0, .slice none 0 0] 56)).heap[Wz.heap.size]? = some (.cells #[.int .i64 0, .int .i64 0, .slice none 0 0] 56 (0, 0)) ∧ w.heap.size + 1 < Wz.heap.size ∧ (Wz.alloc (.cells #[.int .i64 0, .int .i64 0, .slice none 0 0] 56)).heap[A6]? = some (.cells #[.slice none 0 0, .slice none 0 0, .slice none 0 0] 58 (0, 0)) ∧ w.heap.size + 1 < A6 ∧ (Wz.alloc (.cells #[.int .i64 0, .int .i64 0, .slice none 0 0] 56)).heap[A7]? = some (.cells #[.int .i64 0, .int .i64 0, .slice none 0 0] 64 (0, 0)) ∧ w.heap.size + 1 < A7 ∧ Wz.heap.size ≠ A6 ∧ Wz.heap.size ≠ A7 ∧ A6 ≠ A7) := ⟨Hz.out.1.below hb, heap_alloc_new _ _, Nat.lt_of_succ_le Hz.out.1.sz, blk_below Hz.out.2.1 hb, Hz.out.2.2.1, blk_below Hz.out.2.2.2.1 hb, Hz.out.2.2.2.2.1, Nat.ne_of_gt (lt_of_block Hz.out.2.1), Nat.ne_of_gt (lt_of_block Hz.out.2.2.2.1), Hz.out.2.2.2.2.2⟩
    clear hb
    refine hK.out _ _ ⟨blk_cell H55.out.1.p0 0 rfl, blk_cell H55.out.1.p0 1 rfl, blk_cell H55.out.1.p0 2 rfl, blk_cell H55.out.1.p1 0 rfl, blk_cell H55.out.1.p1 1 rfl, blk_cell H55.out.1.p1 2 rfl⟩ (fun _ => ?_)
    clear hK
    simp only [List.setIfInBounds_toArray, List.set_cons_zero, List.set_cons_succ]
    exact J0111 _ _ A6 A7 H55
  simp only [Act.put, List.setIfInBounds_toArray, List.set_cons_zero, List.set_cons_succ] at J0011
  refine with_join (fun G lz az => ∀ (Wz : World) (a1 : Option Addr) (c1 : Nat), Hid (OB w Wz stock store a ds cap an N cn am M cm al L cl ∧ Sl 6 Dy.cells Wz a1 ds) → G 5 (lz.setIfInBounds 1 true) (az.put (some 38) (wv stock store a1 ds.length c1)) Wz) ?_ (fun J1000 => ?_)
  · intro Wz a1 c1 Hz
    simp only [Act.put, List.setIfInBounds_toArray, List.set_cons_zero, List.set_cons_succ]
    refine wpAnyH_ready (rs := [3, 6, 7, 8]) (by kernel_rfl) (by simp) ?_
    refine AllReadyH.cons (o := _) rfl (fun K hK => ?_) ?_
    · go_simp
      go_at_call 27
      refine (cloneWth_any N M L an cn am cm al cl Wz Hz.out.1.n.1 Hz.out.1.n.2.1 Hz.out.1.n.2.2 HNA.out.2 HL.out.2.2).mono ?_
      rintro e W56 ⟨b1, e1, b2, e2, b3, e3, rfl, ⟨hs1, hs2, hs3⟩, hb, hf⟩
      have H56 : Hid (OB w W56 stock store a ds cap an N cn am M cm al L cl ∧ Sl 6 Dy.cells W56 a1 ds ∧ TL W56 b1 N b2 M b3 L) := ⟨Hz.out.1.below hb, Hz.out.2.below hb, ⟨hs1, hs2, hs3⟩⟩
      clear hs1 hs2 hs3 hf hb
      refine hK.out _ _ ⟨blk_cell H56.out.1.p0 0 rfl, blk_cell H56.out.1.p0 1 rfl, blk_cell H56.out.1.p0 2 rfl, blk_cell H56.out.1.p1 0 rfl, blk_cell H56.out.1.p1 1 rfl, blk_cell H56.out.1.p1 2 rfl⟩ (fun _ => ?_)
      clear hK
      simp only [List.setIfInBounds_toArray, List.set_cons_zero, List.set_cons_succ]
      exact J2000 _ a1 c1 b1 e1 b2 e2 b3 e3 H56
    refine AllReadyH.cons (o := _) rfl (fun K hK => ?_) ?_
    · go_simp
      have hb : Below Wz.heap.size Wz (Wz.alloc (.cells #[.int .i64 0, .int .i64 0, .slice none 0 0] 56)) := (Below.refl _ _).alloc (Nat.le_refl _) _
      have H57 : Hid (OB w (Wz.alloc (.cells #[.int .i64 0, .int .i64 0, .slice none 0 0] 56)) stock store a ds cap an N cn am M cm al L cl ∧ Sl 6 Dy.cells (Wz.alloc (.cells #[.int .i64 0, .int .i64 0, .slice none 0 0] 56)) a1 ds ∧ (Wz.alloc (.cells #[.int .i64 0, .int .i64 0, .slice none 0 0] 56)).heap[Wz.heap.size]? = some (.cells #[.int .i64 0, .int .i64 0, .slice none 0 0] 56 (0, 0)) ∧ w.heap.size + 1 < Wz.heap.size) := ⟨Hz.out.1.below hb, Hz.out.2.below hb, heap_alloc_new _ _, Nat.lt_of_succ_le Hz.out.1.sz⟩
      clear hb
      refine hK.out _ _ ⟨blk_cell H57.out.1.p0 0 rfl, blk_cell H57.out.1.p0 1 rfl, blk_cell H57.out.1.p0 2 rfl, blk_cell H57.out.1.p1 0 rfl, blk_cell H57.out.1.p1 1 rfl, blk_cell H57.out.1.p1 2 rfl⟩ (fun _ => ?_)
      clear hK
      simp only [List.setIfInBounds_toArray, List.set_cons_zero, List.set_cons_succ]
      exact J1100 _ a1 c1 _ H57
    refine AllReadyH.cons (o := _) rfl (fun K hK => ?_) ?_
    · go_simp
      have hb : Below Wz.heap.size Wz (Wz.alloc (.cells #[.slice none 0 0, .slice none 0 0, .slice none 0 0] 58)) := (Below.refl _ _).alloc (Nat.le_refl _) _
      have H58 : Hid (OB w (Wz.alloc (.cells #[.slice none 0 0, .slice none 0 0, .slice none 0 0] 58)) stock store a ds cap an N cn am M cm al L cl ∧ Sl 6 Dy.cells (Wz.alloc (.cells #[.slice none 0 0, .slice none 0 0, .slice none 0 0] 58)) a1 ds ∧ (Wz.alloc (.cells #[.slice none 0 0, .slice none 0 0, .slice none 0 0] 58)).heap[Wz.heap.size]? = some (.cells #[.slice none 0 0, .slice none 0 0, .slice none 0 0] 58 (0, 0)) ∧ w.heap.size + 1 < Wz.heap.size) := ⟨Hz.out.1.below hb, Hz.out.2.below hb, heap_alloc_new _ _, Nat.lt_of_succ_le Hz.out.1.sz⟩
      clear hb
      refine hK.out _ _ ⟨blk_cell H58.out.1.p0 0 rfl, blk_cell H58.out.1.p0 1 rfl, blk_cell H58.out.1.p0 2 rfl, blk_cell H58.out.1.p1 0 rfl, blk_cell H58.out.1.p1 1 rfl, blk_cell H58.out.1.p1 2 rfl⟩ (fun _ => ?_)
      clear hK
      simp only [List.setIfInBounds_toArray, List.set_cons_zero, List.set_cons_succ]
      exact J1010 _ a1 c1 _ H58
    refine AllReadyH.cons (o := _) rfl (fun K hK => ?_) AllReadyH.nil
    go_simp
    have hb : Below Wz.heap.size Wz (Wz.alloc (.cells #[.int .i64 0, .int .i64 0, .slice none 0 0] 64)) := (Below.refl _ _).alloc (Nat.le_refl _) _
    have H59 : Hid (OB w (Wz.alloc (.cells #[.int .i64 0, .int .i64 0, .slice none 0 0] 64)) stock store a ds cap an N cn am M cm al L cl ∧ Sl 6 Dy.cells (Wz.alloc (.cells #[.int .i64 0, .int .i64 0, .slice none 0 0] 64)) a1 ds ∧ (Wz.alloc (.cells #[.int .i64 0, .int .i64 0, .slice none 0 0] 64)).heap[Wz.heap.size]? = some (.cells #[.int .i64 0, .int .i64 0, .slice none 0 0] 64 (0, 0)) ∧ w.heap.size + 1 < Wz.heap.size) := ⟨Hz.out.1.below hb, Hz.out.2.below hb, heap_alloc_new _ _, Nat.lt_of_succ_le Hz.out.1.sz⟩
    clear hb
    refine hK.out _ _ ⟨blk_cell H59.out.1.p0 0 rfl, blk_cell H59.out.1.p0 1 rfl, blk_cell H59.out.1.p0 2 rfl, blk_cell H59.out.1.p1 0 rfl, blk_cell H59.out.1.p1 1 rfl, blk_cell H59.out.1.p1 2 rfl⟩ (fun _ => ?_)
    clear hK
    simp only [List.setIfInBounds_toArray, List.set_cons_zero, List.set_cons_succ]
    exact J1001 _ a1 c1 _ H59
  simp only [Act.put, List.setIfInBounds_toArray, List.set_cons_zero, List.set_cons_succ] at J1000
  refine with_join (fun G lz az => ∀ (Wz : World) (A5 : Nat), Hid (OB w Wz stock store a ds cap an N cn am M cm al L cl ∧ Wz.heap[A5]? = some (.cells #[.int .i64 0, .int .i64 0, .slice none 0 0] 56 (0, 0)) ∧ w.heap.size + 1 < A5) → G 5 (lz.setIfInBounds 6 true) (az.put (some 5) (.pointer (some ⟨A5, 0, none⟩))) Wz) ?_ (fun J0100 => ?_)
  · intro Wz A5 Hz
    simp only [Act.put, List.setIfInBounds_toArray, List.set_cons_zero, List.set_cons_succ]
    refine wpAnyH_ready (rs := [1, 7, 8]) (by kernel_rfl) (by simp) ?_
    refine AllReadyH.cons (o := _) rfl (fun K hK => ?_) ?_
    · go_simp
      go_at_call 26
      refine (cloneWin_any stock store a ds cap Wz Hz.out.1.x HNA.out.1 HL.out.1).mono ?_
      rintro e W60 ⟨a1, c1, rfl, hs, hb⟩
      have H60 : Hid (OB w W60 stock store a ds cap an N cn am M cm al L cl ∧ Sl 6 Dy.cells W60 a1 ds ∧ W60.heap[A5]? = some (.cells #[.int .i64 0, .int .i64 0, .slice none 0 0] 56 (0, 0)) ∧ w.heap.size + 1 < A5) := ⟨Hz.out.1.below hb, hs, blk_below Hz.out.2.1 hb, Hz.out.2.2⟩
      clear hs hb
      refine hK.out _ _ ⟨blk_cell H60.out.1.p0 0 rfl, blk_cell H60.out.1.p0 1 rfl, blk_cell H60.out.1.p0 2 rfl, blk_cell H60.out.1.p1 0 rfl, blk_cell H60.out.1.p1 1 rfl, blk_cell H60.out.1.p1 2 rfl⟩ (fun _ => ?_)
      clear hK
      simp only [List.setIfInBounds_toArray, List.set_cons_zero, List.set_cons_succ]
      exact J1100 _ a1 c1 A5 H60
    refine AllReadyH.cons (o := _) rfl (fun K hK => ?_) ?_
    · go_simp
      have hb : Below Wz.heap.size Wz (Wz.alloc (.cells #[.slice none 0 0, .slice none 0 0, .slice none 0 0] 58)) := (Below.refl _ _).alloc (Nat.le_refl _) _
      have H61 : Hid (OB w (Wz.alloc (.cells #[.slice none 0 0, .slice none 0 0, .slice none 0 0] 58)) stock store a ds cap an N cn am M cm al L cl ∧ (Wz.alloc (.cells #[.slice none 0 0, .slice none 0 0, .slice none 0 0] 58)).heap[A5]? = some (.cells #[.int .i64 0, .int .i64 0, .slice none 0 0] 56 (0, 0)) ∧ w.heap.size + 1 < A5 ∧ (Wz.alloc (.cells #[.slice none 0 0, .slice none 0 0, .slice none 0 0] 58)).heap[Wz.heap.size]? = some (.cells #[.slice none 0 0, .slice none 0 0, .slice none 0 0] 58 (0, 0)) ∧ w.heap.size + 1 < Wz.heap.size ∧ A5 ≠ Wz.heap.size) := ⟨Hz.out.1.below hb, blk_below Hz.out.2.1 hb, Hz.out.2.2, heap_alloc_new _ _, Nat.lt_of_succ_le Hz.out.1.sz, Nat.ne_of_lt (lt_of_block Hz.out.2.1)⟩
      clear hb
      refine hK.out _ _ ⟨blk_cell H61.out.1.p0 0 rfl, blk_cell H61.out.1.p0 1 rfl, blk_cell H61.out.1.p0 2 rfl, blk_cell H61.out.1.p1 0 rfl, blk_cell H61.out.1.p1 1 rfl, blk_cell H61.out.1.p1 2 rfl⟩ (fun _ => ?_)
      clear hK
      simp only [List.setIfInBounds_toArray, List.set_cons_zero, List.set_cons_succ]
      exact J0110 _ A5 _ H61
    refine AllReadyH.cons (o := _) rfl (fun K hK => ?_) AllReadyH.nil
    go_simp
    have hb : Below Wz.heap.size Wz (Wz.alloc (.cells #[.int .i64 0, .int .i64 0, .slice none 0 0] 64)) := (Below.refl _ _).alloc (Nat.le_refl _) _
    have H62 : Hid (OB w (Wz.alloc (.cells #[.int .i64 0, .int .i64 0, .slice none 0 0] 64)) stock store a ds cap an N cn am M cm al L cl ∧ (Wz.alloc (.cells #[.int .i64 0, .int .i64 0, .slice none 0 0] 64)).heap[A5]? = some (.cells #[.int .i64 0, .int .i64 0, .slice none 0 0] 56 (0, 0)) ∧ w.heap.size + 1 < A5 ∧ (Wz.alloc (.cells #[.int .i64 0, .int .i64 0, .slice none 0 0] 64)).heap[Wz.heap.size]? = some (.cells #[.int .i64 0, .int .i64 0, .slice none 0 0] 64 (0, 0)) ∧ w.heap.size + 1 < Wz.heap.size ∧ A5 ≠ Wz.heap.size) := ⟨Hz.out.1.below hb, blk_below Hz.out.2.1 hb, Hz.out.2.2, heap_alloc_new _ _, Nat.lt_of_succ_le Hz.out.1.sz, Nat.ne_of_lt (lt_of_block Hz.out.2.1)⟩
    clear hb
    refine hK.out _ _ ⟨blk_cell H62.out.1.p0 0 rfl, blk_cell H62.out.1.p0 1 rfl, blk_cell H62.out.1.p0 2 rfl, blk_cell H62.out.1.p1 0 rfl, blk_cell H62.out.1.p1 1 rfl, blk_cell H62.out.1.p1 2 rfl⟩ (fun _ => ?_)
    clear hK
    simp only [List.setIfInBounds_toArray, List.set_cons_zero, List.set_cons_succ]
    exact J0101 _ A5 _ H62
  simp only [Act.put, List.setIfInBounds_toArray, List.set_cons_zero, List.set_cons_succ] at J0100
  refine with_join (fun G lz az => ∀ (Wz : World) (A6 : Nat), Hid (OB w Wz stock store a ds cap an N cn am M cm al L cl ∧ Wz.heap[A6]? = some (.cells #[.slice none 0 0, .slice none 0 0, .slice none 0 0] 58 (0, 0)) ∧ w.heap.size + 1 < A6) → G 5 (lz.setIfInBounds 7 true) (az.put (some 6) (.pointer (some ⟨A6, 0, none⟩))) Wz) ?_ (fun J0010 => ?_)
  · intro Wz A6 Hz
    simp only [Act.put, List.setIfInBounds_toArray, List.set_cons_zero, List.set_cons_succ]
    refine wpAnyH_ready (rs := [1, 6, 8]) (by kernel_rfl) (by simp) ?_
    refine AllReadyH.cons (o := _) rfl (fun K hK => ?_) ?_
    · go_simp
      go_at_call 26
      refine (cloneWin_any stock store a ds cap Wz Hz.out.1.x HNA.out.1 HL.out.1).mono ?_
      rintro e W63 ⟨a1, c1, rfl, hs, hb⟩
      have H63 : Hid (OB w W63 stock store a ds cap an N cn am M cm al L cl ∧ Sl 6 Dy.cells W63 a1 ds ∧ W63.heap[A6]? = some (.cells #[.slice none 0 0, .slice none 0 0, .slice none 0 0] 58 (0, 0)) ∧ w.heap.size + 1 < A6) := ⟨Hz.out.1.below hb, hs, blk_below Hz.out.2.1 hb, Hz.out.2.2⟩
      clear hs hb
      refine hK.out _ _ ⟨blk_cell H63.out.1.p0 0 rfl, blk_cell H63.out.1.p0 1 rfl, blk_cell H63.out.1.p0 2 rfl, blk_cell H63.out.1.p1 0 rfl, blk_cell H63.out.1.p1 1 rfl, blk_cell H63.out.1.p1 2 rfl⟩ (fun _ => ?_)
      clear hK
      simp only [List.setIfInBounds_toArray, List.set_cons_zero, List.set_cons_succ]
      exact J1010 _ a1 c1 A6 H63
    refine AllReadyH.cons (o := _) rfl (fun K hK => ?_) ?_
    · go_simp
      have hb : Below Wz.heap.size Wz (Wz.alloc (.cells #[.int .i64 0, .int .i64 0, .slice none 0 0] 56)) := (Below.refl _ _).alloc (Nat.le_refl _) _
      have H64 : Hid (OB w (Wz.alloc (.cells #[.int .i64 0, .int .i64 0, .slice none 0 0] 56)) stock store a ds cap an N cn am M cm al L cl ∧ (Wz.alloc (.cells #[.int .i64 0, .int .i64 0, .slice none 0 0] 56)).heap[Wz.heap.size]? = some (.cells #[.int .i64 0, .int .i64 0, .slice none 0 0] 56 (0, 0)) ∧ w.heap.size + 1 < Wz.heap.size ∧ (Wz.alloc (.cells #[.int .i64 0, .int .i64 0, .slice none 0 0] 56)).heap[A6]? = some (.cells #[.slice none 0 0, .slice none 0 0, .slice none 0 0] 58 (0, 0)) ∧ w.heap.size + 1 < A6 ∧ Wz.heap.size ≠ A6) := ⟨Hz.out.1.below hb, heap_alloc_new _ _, Nat.lt_of_succ_le Hz.out.1.sz, blk_below Hz.out.2.1 hb, Hz.out.2.2, Nat.ne_of_gt (lt_of_block Hz.out.2.1)⟩
      clear hb
      refine hK.out _ _ ⟨blk_cell H64.out.1.p0 0 rfl, blk_cell H64.out.1.p0 1 rfl, blk_cell H64.out.1.p0 2 rfl, blk_cell H64.out.1.p1 0 rfl, blk_cell H64.out.1.p1 1 rfl, blk_cell H64.out.1.p1 2 rfl⟩ (fun _ => ?_)
      clear hK
      simp only [List.setIfInBounds_toArray, List.set_cons_zero, List.set_cons_succ]
      exact J0110 _ _ A6 H64
    refine AllReadyH.cons (o := _) rfl (fun K hK => ?_) AllReadyH.nil
    go_simp
    have hb : Below Wz.heap.size Wz (Wz.alloc (.cells #[.int .i64 0, .int .i64 0, .slice none 0 0] 64)) := (Below.refl _ _).alloc (Nat.le_refl _) _
    have H65 : Hid (OB w (Wz.alloc (.cells #[.int .i64 0, .int .i64 0, .slice none 0 0] 64)) stock store a ds cap an N cn am M cm al L cl ∧ (Wz.alloc (.cells #[.int .i64 0, .int .i64 0, .slice none 0 0] 64)).heap[A6]? = some (.cells #[.slice none 0 0, .slice none 0 0, .slice none 0 0] 58 (0, 0)) ∧ w.heap.size + 1 < A6 ∧ (Wz.alloc (.cells #[.int .i64 0, .int .i64 0, .slice none 0 0] 64)).heap[Wz.heap.size]? = some (.cells #[.int .i64 0, .int .i64 0, .slice none 0 0] 64 (0, 0)) ∧ w.heap.size + 1 < Wz.heap.size ∧ A6 ≠ Wz.heap.size) := ⟨Hz.out.1.below hb, blk_below Hz.out.2.1 hb, Hz.out.2.2, heap_alloc_new _ _, Nat.lt_of_succ_le Hz.out.1.sz, Nat.ne_of_lt (lt_of_block Hz.out.2.1)⟩
    clear hb
    refine hK.out _ _ ⟨blk_cell H65.out.1.p0 0 rfl, blk_cell H65.out.1.p0 1 rfl, blk_cell H65.out.1.p0 2 rfl, blk_cell H65.out.1.p1 0 rfl, blk_cell H65.out.1.p1 1 rfl, blk_cell H65.out.1.p1 2 rfl⟩ (fun _ => ?_)
    clear hK
    simp only [List.setIfInBounds_toArray, List.set_cons_zero, List.set_cons_succ]
    exact J0011 _ A6 _ H65
  simp only [Act.put, List.setIfInBounds_toArray, List.set_cons_zero, List.set_cons_succ] at J0010
  refine with_join (fun G lz az => ∀ (Wz : World) (A7 : Nat), Hid (OB w Wz stock store a ds cap an N cn am M cm al L cl ∧ Wz.heap[A7]? = some (.cells #[.int .i64 0, .int .i64 0, .slice none 0 0] 64 (0, 0)) ∧ w.heap.size + 1 < A7) → G 5 (lz.setIfInBounds 8 true) (az.put (some 7) (.pointer (some ⟨A7, 0, none⟩))) Wz) ?_ (fun J0001 => ?_)
  · intro Wz A7 Hz
    simp only [Act.put, List.setIfInBounds_toArray, List.set_cons_zero, List.set_cons_succ]
    refine wpAnyH_ready (rs := [1, 6, 7]) (by kernel_rfl) (by simp) ?_
    refine AllReadyH.cons (o := _) rfl (fun K hK => ?_) ?_
    · go_simp
      go_at_call 26
      refine (cloneWin_any stock store a ds cap Wz Hz.out.1.x HNA.out.1 HL.out.1).mono ?_
      rintro e W66 ⟨a1, c1, rfl, hs, hb⟩
      have H66 : Hid (OB w W66 stock store a ds cap an N cn am M cm al L cl ∧ Sl 6 Dy.cells W66 a1 ds ∧ W66.heap[A7]? = some (.cells #[.int .i64 0, .int .i64 0, .slice none 0 0] 64 (0, 0)) ∧ w.heap.size + 1 < A7) := ⟨Hz.out.1.below hb, hs, blk_below Hz.out.2.1 hb, Hz.out.2.2⟩
      clear hs hb
      refine hK.out _ _ ⟨blk_cell H66.out.1.p0 0 rfl, blk_cell H66.out.1.p0 1 rfl, blk_cell H66.out.1.p0 2 rfl, blk_cell H66.out.1.p1 0 rfl, blk_cell H66.out.1.p1 1 rfl, blk_cell H66.out.1.p1 2 rfl⟩ (fun _ => ?_)
      clear hK
      simp only [List.setIfInBounds_toArray, List.set_cons_zero, List.set_cons_succ]
      exact J1001 _ a1 c1 A7 H66
    refine AllReadyH.cons (o := _) rfl (fun K hK => ?_) ?_
    · go_simp
      have hb : Below Wz.heap.size Wz (Wz.alloc (.cells #[.int .i64 0, .int .i64 0, .slice none 0 0] 56)) := (Below.refl _ _).alloc (Nat.le_refl _) _
      have H67 : Hid (OB w (Wz.alloc (.cells #[.int .i64 0, .int .i64 0, .slice none 0 0] 56)) stock store a ds cap an N cn am M cm al L cl ∧ (Wz.alloc (.cells #[.int .i64 0, .int .i64 0, .slice none 0 0] 56)).heap[Wz.heap.size]? = some (.cells #[.int .i64 0, .int .i64 0, .slice none 0 0] 56 (0, 0)) ∧ w.heap.size + 1 < Wz.heap.size ∧ (Wz.alloc (.cells #[.int .i64 0, .int .i64 0, .slice none 0 0] 56)).heap[A7]? = some (.cells #[.int .i64 0, .int .i64 0, .slice none 0 0] 64 (0, 0)) ∧ w.heap.size + 1 < A7 ∧ Wz.heap.size ≠ A7) := ⟨Hz.out.1.below hb, heap_alloc_new _ _, Nat.lt_of_succ_le Hz.out.1.sz, blk_below Hz.out.2.1 hb, Hz.out.2.2, Nat.ne_of_gt (lt_of_block Hz.out.2.1)⟩
      clear hb
      refine hK.out _ _ ⟨blk_cell H67.out.1.p0 0 rfl, blk_cell H67.out.1.p0 1 rfl, blk_cell H67.out.1.p0 2 rfl, blk_cell H67.out.1.p1 0 rfl, blk_cell H67.out.1.p1 1 rfl, blk_cell H67.out.1.p1 2 rfl⟩ (fun _ => ?_)
      clear hK
      simp only [List.setIfInBounds_toArray, List.set_cons_zero, List.set_cons_succ]
      exact J0101 _ _ A7 H67
    refine AllReadyH.cons (o := _) rfl (fun K hK => ?_) AllReadyH.nil
    go_simp
    have hb : Below Wz.heap.size Wz (Wz.alloc (.cells #[.slice none 0 0, .slice none 0 0, .slice none 0 0] 58)) := (Below.refl _ _).alloc (Nat.le_refl _) _
    have H68 : Hid (OB w (Wz.alloc (.cells #[.slice none 0 0, .slice none 0 0, .slice none 0 0] 58)) stock store a ds cap an N cn am M cm al L cl ∧ (Wz.alloc (.cells #[.slice none 0 0, .slice none 0 0, .slice none 0 0] 58)).heap[Wz.heap.size]? = some (.cells #[.slice none 0 0, .slice none 0 0, .slice none 0 0] 58 (0, 0)) ∧ w.heap.size + 1 < Wz.heap.size ∧ (Wz.alloc (.cells #[.slice none 0 0, .slice none 0 0, .slice none 0 0] 58)).heap[A7]? = some (.cells #[.int .i64 0, .int .i64 0, .slice none 0 0] 64 (0, 0)) ∧ w.heap.size + 1 < A7 ∧ Wz.heap.size ≠ A7) := ⟨Hz.out.1.below hb, heap_alloc_new _ _, Nat.lt_of_succ_le Hz.out.1.sz, blk_below Hz.out.2.1 hb, Hz.out.2.2, Nat.ne_of_gt (lt_of_block Hz.out.2.1)⟩
    clear hb
    refine hK.out _ _ ⟨blk_cell H68.out.1.p0 0 rfl, blk_cell H68.out.1.p0 1 rfl, blk_cell H68.out.1.p0 2 rfl, blk_cell H68.out.1.p1 0 rfl, blk_cell H68.out.1.p1 1 rfl, blk_cell H68.out.1.p1 2 rfl⟩ (fun _ => ?_)
    clear hK
    simp only [List.setIfInBounds_toArray, List.set_cons_zero, List.set_cons_succ]
    exact J0011 _ _ A7 H68
  simp only [Act.put, List.setIfInBounds_toArray, List.set_cons_zero, List.set_cons_succ] at J0001
  refine wpAnyH_ready (rs := [1, 6, 7, 8]) (by kernel_rfl) (by simp) ?_
  refine AllReadyH.cons (o := _) rfl (fun K hK => ?_) ?_
  · go_simp
    go_at_call 26
    refine (cloneWin_any stock store a ds cap W0 H0.out.x HNA.out.1 HL.out.1).mono ?_
    rintro e W69 ⟨a1, c1, rfl, hs, hb⟩
    have H69 : Hid (OB w W69 stock store a ds cap an N cn am M cm al L cl ∧ Sl 6 Dy.cells W69 a1 ds) := ⟨H0.out.below hb, hs⟩
    clear hs hb
    refine hK.out _ _ ⟨blk_cell H69.out.1.p0 0 rfl, blk_cell H69.out.1.p0 1 rfl, blk_cell H69.out.1.p0 2 rfl, blk_cell H69.out.1.p1 0 rfl, blk_cell H69.out.1.p1 1 rfl, blk_cell H69.out.1.p1 2 rfl⟩ (fun _ => ?_)
    clear hK
    simp only [List.setIfInBounds_toArray, List.set_cons_zero, List.set_cons_succ]
    exact J1000 _ a1 c1 H69
  refine AllReadyH.cons (o := _) rfl (fun K hK => ?_) ?_
  · go_simp
    have hb : Below W0.heap.size W0 (W0.alloc (.cells #[.int .i64 0, .int .i64 0, .slice none 0 0] 56)) := (Below.refl _ _).alloc (Nat.le_refl _) _
    have H70 : Hid (OB w (W0.alloc (.cells #[.int .i64 0, .int .i64 0, .slice none 0 0] 56)) stock store a ds cap an N cn am M cm al L cl ∧ (W0.alloc (.cells #[.int .i64 0, .int .i64 0, .slice none 0 0] 56)).heap[W0.heap.size]? = some (.cells #[.int .i64 0, .int .i64 0, .slice none 0 0] 56 (0, 0)) ∧ w.heap.size + 1 < W0.heap.size) := ⟨H0.out.below hb, heap_alloc_new _ _, Nat.lt_of_succ_le H0.out.sz⟩
    clear hb
    refine hK.out _ _ ⟨blk_cell H70.out.1.p0 0 rfl, blk_cell H70.out.1.p0 1 rfl, blk_cell H70.out.1.p0 2 rfl, blk_cell H70.out.1.p1 0 rfl, blk_cell H70.out.1.p1 1 rfl, blk_cell H70.out.1.p1 2 rfl⟩ (fun _ => ?_)
    clear hK
    simp only [List.setIfInBounds_toArray, List.set_cons_zero, List.set_cons_succ]
    exact J0100 _ _ H70
  refine AllReadyH.cons (o := _) rfl (fun K hK => ?_) ?_
  · go_simp
    have hb : Below W0.heap.size W0 (W0.alloc (.cells #[.slice none 0 0, .slice none 0 0, .slice none 0 0] 58)) := (Below.refl _ _).alloc (Nat.le_refl _) _
    have H71 : Hid (OB w (W0.alloc (.cells #[.slice none 0 0, .slice none 0 0, .slice none 0 0] 58)) stock store a ds cap an N cn am M cm al L cl ∧ (W0.alloc (.cells #[.slice none 0 0, .slice none 0 0, .slice none 0 0] 58)).heap[W0.heap.size]? = some (.cells #[.slice none 0 0, .slice none 0 0, .slice none 0 0] 58 (0, 0)) ∧ w.heap.size + 1 < W0.heap.size) := ⟨H0.out.below hb, heap_alloc_new _ _, Nat.lt_of_succ_le H0.out.sz⟩
    clear hb
    refine hK.out _ _ ⟨blk_cell H71.out.1.p0 0 rfl, blk_cell H71.out.1.p0 1 rfl, blk_cell H71.out.1.p0 2 rfl, blk_cell H71.out.1.p1 0 rfl, blk_cell H71.out.1.p1 1 rfl, blk_cell H71.out.1.p1 2 rfl⟩ (fun _ => ?_)
    clear hK
    simp only [List.setIfInBounds_toArray, List.set_cons_zero, List.set_cons_succ]
    exact J0010 _ _ H71
  refine AllReadyH.cons (o := _) rfl (fun K hK => ?_) AllReadyH.nil
  go_simp
  have hb : Below W0.heap.size W0 (W0.alloc (.cells #[.int .i64 0, .int .i64 0, .slice none 0 0] 64)) := (Below.refl _ _).alloc (Nat.le_refl _) _
  have H72 : Hid (OB w (W0.alloc (.cells #[.int .i64 0, .int .i64 0, .slice none 0 0] 64)) stock store a ds cap an N cn am M cm al L cl ∧ (W0.alloc (.cells #[.int .i64 0, .int .i64 0, .slice none 0 0] 64)).heap[W0.heap.size]? = some (.cells #[.int .i64 0, .int .i64 0, .slice none 0 0] 64 (0, 0)) ∧ w.heap.size + 1 < W0.heap.size) := ⟨H0.out.below hb, heap_alloc_new _ _, Nat.lt_of_succ_le H0.out.sz⟩
  clear hb
  refine hK.out _ _ ⟨blk_cell H72.out.1.p0 0 rfl, blk_cell H72.out.1.p0 1 rfl, blk_cell H72.out.1.p0 2 rfl, blk_cell H72.out.1.p1 0 rfl, blk_cell H72.out.1.p1 1 rfl, blk_cell H72.out.1.p1 2 rfl⟩ (fun _ => ?_)
  clear hK
  simp only [List.setIfInBounds_toArray, List.set_cons_zero, List.set_cons_succ]
  exact J0001 _ _ H72
end Go.Proofs.YtmebmcipmemofaaGreat
