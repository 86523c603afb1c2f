/-
The contracts of told and Piles with what is left, and of slices.Contains for piles, over this seat's program.
  What is proved: each answers what happens in a weather; Contains finds a pile that is there.
  Conditions: a valid winter, and a weather within its spans.
What CoursePiled asks, of lists.
  What is proved: what is told of each day, and of each pile.
  Conditions: a valid winter, and a weather within its spans.
The contract of CourseLazy over this seat's program.
  What is proved: it answers true; nothing that was there before has turned.
  Conditions: lists of bytes that read as such.
The memory of a law that draws one weather into a box.
  What is proved: in whatever order the box is made, it holds the weather in the end.
  Conditions: each lemma states its own.
-/
import Derived.Test.YtpkegiekpnaejaaPartP1
namespace Go.Proofs.Ytpkegiekpnaejaa
open Go.RowKit Go.Shelf
attribute [local go_sem] Oper.semAt_some

/-- What told hands back, with the piles. -/
def OutToldP (w : World) (x : Ps) (F : List Sp) (e : Ending) (w' : World) : Prop := ∃ sa sc ma mc pa pc, e = .returned (.tuple #[.agg #[.slice sa x.stocks.length sc, .slice ma x.made.length mc, .slice pa F.length pc, .int .i64 x.fails, .int .i64 x.full], .int .i64 0]) ∧ (IntSl w' sa x.stocks ∧ ∀ p, sa = some p → w.heap.size ≤ p.block) ∧ (IntSl w' ma x.made ∧ ∀ p, ma = some p → w.heap.size ≤ p.block) ∧ (IntSl w' pa (flatS F) ∧ ∀ p, pa = some p → w.heap.size ≤ p.block) ∧ Below w.heap.size w w'
theorem eq106 (a b c d : Int) (w : World) : (Op.equalIn 10000 106 (.agg #[.int .i64 a, .int .i64 b]) (.agg #[.int .i64 c, .int .i64 d])).run Try.prog w = .ok (decide (a = c) && decide (b = d)) w := by
  rw [Op.equalIn]
  simp [go_sem]
  by_cases h1 : a = c <;> by_cases h2 : b = d <;> simp [h1, h2]
theorem eq106' (x y : Sp) (bb : Bool) (h : (decide (x.lo = y.lo) && decide (x.hi = y.hi)) = bb) (w : World) : (Op.equalIn 10000 106 (.agg #[.int .i64 x.lo, .int .i64 x.hi]) (.agg #[.int .i64 y.lo, .int .i64 y.hi])).run Try.prog w = .ok bb w := by
  rw [← h]; exact eq106 _ _ _ _ w

set_option maxHeartbeats 1000000 in
theorem index_pile (a : Option Addr) (F : List Sp) (ca : Nat) (x : Sp) (w : World) (hx : Sl 2 Sp.cells w a F) (hl : F.length ≤ 1000000) (hm : x ∈ F) :
    Calls Try.prog 106 #[.slice a F.length ca, .agg #[.int .i64 x.lo, .int .i64 x.hi]] w fun e w' => (∃ q : Nat, e = .returned (.int .i64 q)) ∧ Below w.heap.size w w' := by
  have HX := Lib.hid (And.intro hx hm)
  clear hx hm
  obtain ⟨Wa, hWa⟩ : ∃ Wa, w.alloc (.cells #[.int .i64 x.lo, .int .i64 x.hi] 106) = Wa := ⟨_, rfl⟩
  have HA : Hid (Below w.heap.size w Wa ∧ Wa.heap[w.heap.size]? = some (.cells #[.int .i64 x.lo, .int .i64 x.hi] 106 (0, 0))) := by
    rw [← hWa]; exact ⟨(Below.refl _ _).alloc (Nat.le_refl _) _, heap_alloc_new _ _⟩
  go_enter Try.func106, Try.ntmps106
  go_wp2_with (fail)
  clear hWa
  go_loopw [8] (fun i wr => ∃ k : Nat, k ≤ F.length ∧ i = .int .i64 k ∧ Hid (∀ j, j < k → F[j]? ≠ some x) ∧ Below Wa.heap.size Wa wr) (fun i _ => F.length - (intOf i).toNat)
  case atStart => exact ⟨0, Nat.zero_le _, rfl, fun j hj => by omega, Below.refl _ _⟩
  case round =>
    obtain ⟨k, hk, rfl, hall, hbw⟩ := hrel
    by_cases hlt : k < F.length
    · obtain ⟨b2, o2, rfl, hb2, hc2⟩ := HX.out.1 (by omega)
      have HXY : Hid (F[k]? = some F[k]) := List.getElem?_eq_getElem hlt
      have d3 := (hbw.cell (p := ⟨b2, o2 + k * 2, none⟩) (Nat.lt_of_lt_of_le hb2 HA.out.1.size)).trans ((HA.out.1.cell (p := ⟨b2, o2 + k * 2, none⟩) hb2).trans (hc2 k _ 0 _ HXY.out rfl))
      have d4 := (hbw.cell (p := ⟨b2, o2 + k * 2 + 1, none⟩) (Nat.lt_of_lt_of_le hb2 HA.out.1.size)).trans ((HA.out.1.cell (p := ⟨b2, o2 + k * 2 + 1, none⟩) hb2).trans (hc2 k _ 1 _ HXY.out rfl))
      have hbx := blk_below HA.out.2 hbw
      have n0 := blk_cell hbx 0 rfl
      have n1 := blk_cell hbx 1 rfl
      clear hc2 hbx
      generalize F[k] = y at d3 d4 HXY
      cases he : eqSp x y
      · have q106 := eq106' x y false he
        have HA2 : Hid (∀ j, j < k + 1 → F[j]? ≠ some x) := fun j hj => by
          rcases Nat.lt_or_ge j k with h | h
          · exact hall.out j h
          · have : j = k := by omega
            subst this
            rw [HXY.out]
            intro e
            cases e
            simp [eqSp] at he
        clear he hall
        go_wp2_with fail
        go_quiet (fail)
        have hwd := below_drewN hbw nq
        go_wp2
        go_roundw
        case rel => exact ⟨k + 1, by omega, by go_num, HA2, hwd⟩
        case measure => simp [intOf]; omega
      · have q106 := eq106' x y true he
        clear he hall
        go_wp2_with fail
        go_quiet (fail)
        have hwd := below_drewN hbw nq
        go_wp2
        go_ret
        exact ⟨⟨k, rfl⟩, below_self HA.out.1 hwd⟩
    · exfalso
      obtain ⟨j, hj, he⟩ := List.mem_iff_getElem.1 HX.out.2
      exact hall.out j (by omega) (by rw [List.getElem?_eq_getElem hj, he])
set_option maxHeartbeats 1000000 in
theorem contains_pile (a : Option Addr) (F : List Sp) (ca : Nat) (x : Sp) (w : World) (hx : Sl 2 Sp.cells w a F) (hl : F.length ≤ 1000000) (hm : x ∈ F) :
    Calls Try.prog 60 #[.slice a F.length ca, .agg #[.int .i64 x.lo, .int .i64 x.hi]] w fun e w' => e = .returned (.bool true) ∧ Below w.heap.size w w' := by
  have HX := Lib.hid (And.intro hx hm)
  clear hx hm
  obtain ⟨Wa, hWa⟩ : ∃ Wa, w.alloc (.cells #[.int .i64 x.lo, .int .i64 x.hi] 106) = Wa := ⟨_, rfl⟩
  have HA : Hid (Below w.heap.size w Wa ∧ Wa.heap[w.heap.size]? = some (.cells #[.int .i64 x.lo, .int .i64 x.hi] 106 (0, 0))) := by
    rw [← hWa]; exact ⟨(Below.refl _ _).alloc (Nat.le_refl _) _, heap_alloc_new _ _⟩
  have n0 := blk_cell HA.out.2 0 rfl
  have n1 := blk_cell HA.out.2 1 rfl
  go_enter Try.func60, Try.ntmps60
  go_wp2_with (fail)
  clear hWa n0 n1
  refine (index_pile a F ca x Wa (HX.out.1.below HA.out.1) hl HX.out.2).mono ?_
  rintro e w1 ⟨⟨q, rfl⟩, hb⟩
  have hq : decide ((0 : Int) ≤ (q : Int)) = true := by simp
  have HB := Lib.hid (below_self HA.out.1 hb)
  clear hb
  go_wp2_with (fail)
  go_ret
  exact ⟨rfl, HB.out⟩

set_option maxRecDepth 100000 in
set_option maxHeartbeats 2000000 in
theorem told_piles (stock store : Int) (a : Option Addr) (ds : List Dy) (cap : Nat) (an : Option Addr) (N : List Int) (cn : Nat) (am : Option Addr) (M : List Int) (cm : Nat) (al : Option Addr) (L : List Int) (cl : Nat) (w : World)
    (hx : Sl 6 Dy.cells w a ds) (hN : IntSl w an N) (hM : IntSl w am M) (hL : IntSl w al L) (hw : winE stock store ds = 0) (hs : Sky ds N M L) :
    Calls Try.prog 105 #[wv stock store a ds.length cap, tv an ds.length cn am ds.length cm al ds.length cl] w (OutToldP w (playL stock store N M L ds.length) (pileL stock store N M L ds.length)) := by
  have HX := Lib.hid (And.intro hx (And.intro hN (And.intro hM (And.intro hL (And.intro hw hs)))))
  obtain ⟨b1, b2, b3⟩ := win_ok hw
  have HOK := Lib.hid (And.intro b1 (And.intro b2 b3))
  clear hx hN hM hL hw hs b1 b2 b3
  generalize hS : playL stock store N M L ds.length = s
  have HS := Lib.hid hS
  clear hS
  generalize hG : pileL stock store N M L ds.length = F
  have HG := Lib.hid hG
  clear hG
  obtain ⟨Wa, hWa⟩ : ∃ Wa, ((w.alloc (.cells #[.int .i64 stock, .int .i64 store, .slice a ds.length cap] 60)).alloc (.cells #[.slice an ds.length cn, .slice am ds.length cm, .slice al ds.length cl] 88)).alloc (.cells #[.slice none 0 0, .slice none 0 0, .slice none 0 0, .int .i64 0, .int .i64 0] 146) = Wa := ⟨_, rfl⟩
  have hba : Below w.heap.size w Wa := by rw [← hWa]; exact (((Below.refl _ _).alloc (Nat.le_refl _) _).alloc (by simp) _).alloc (by simp; omega) _
  have h0 : Wa.heap[w.heap.size]? = some (.cells #[.int .i64 stock, .int .i64 store, .slice a ds.length cap] 60 (0, 0)) := by rw [← hWa]; exact alk (alk (new_at rfl))
  have h1 : Wa.heap[w.heap.size + 1]? = some (.cells #[.slice an ds.length cn, .slice am ds.length cm, .slice al ds.length cl] 88 (0, 0)) := by rw [← hWa]; exact alk (new_at (by simp))
  have h2 : Wa.heap[w.heap.size + 1 + 1]? = some (.cells #[.slice none 0 0, .slice none 0 0, .slice none 0 0, .int .i64 0, .int .i64 0] 146 (0, 0)) := by rw [← hWa]; exact new_at (by simp)
  have a0 := blk_cell h0 0 rfl
  have a1 := blk_cell h0 1 rfl
  have a2 := blk_cell h0 2 rfl
  have HW0 := Lib.hid (And.intro hba (And.intro h0 (And.intro h1 h2)))
  clear hba h0 h1 h2
  go_enter Try.func105, Try.ntmps105
  go_wp2_with (fail)
  clear hWa a0 a1 a2
  refine (checkWinter_any stock store a ds cap _ (HX.out.1.below HW0.out.1) (by have := HOK.out.2.1.2; omega)).mono ?_
  rintro e w1 ⟨rfl, hb1⟩
  rw [HX.out.2.2.2.2.1]
  have H1 := Lib.hid (And.intro (below_self HW0.out.1 hb1) (And.intro (blk_below HW0.out.2.1 hb1) (And.intro (blk_below HW0.out.2.2.1 hb1) (blk_below HW0.out.2.2.2 hb1))))
  clear hb1
  have a0 := blk_cell H1.out.2.1 0 rfl
  have a1 := blk_cell H1.out.2.1 1 rfl
  have a2 := blk_cell H1.out.2.1 2 rfl
  have a3 := blk_cell H1.out.2.2.1 0 rfl
  have a4 := blk_cell H1.out.2.2.1 1 rfl
  have a5 := blk_cell H1.out.2.2.1 2 rfl
  go_wp2_with (fail)
  clear a0 a1 a2 a3 a4 a5
  have HC := checkWeather_any stock store a ds cap an N cn am M cm al L cl w1 (HX.out.1.below H1.out.1) HOK.out.2.1.2 (HX.out.2.1.below H1.out.1) (HX.out.2.2.1.below H1.out.1) (HX.out.2.2.2.1.below H1.out.1) HX.out.2.2.2.2.2
  rw [HX.out.2.2.2.2.2.1.1, HX.out.2.2.2.2.2.1.2.1, HX.out.2.2.2.2.2.1.2.2] at HC
  refine HC.mono ?_
  rintro e w2 ⟨rfl, hb2⟩
  have H2 := Lib.hid (And.intro (below_self H1.out.1 hb2) (And.intro (blk_below H1.out.2.1 hb2) (And.intro (blk_below H1.out.2.2.1 hb2) (blk_below H1.out.2.2.2 hb2))))
  clear hb2 HC
  have a0 := blk_cell H2.out.2.1 0 rfl
  have a1 := blk_cell H2.out.2.1 1 rfl
  have a2 := blk_cell H2.out.2.1 2 rfl
  have a3 := blk_cell H2.out.2.2.1 0 rfl
  have a4 := blk_cell H2.out.2.2.1 1 rfl
  have a5 := blk_cell H2.out.2.2.1 2 rfl
  have y0 := blk_free (j := 0) H2.out.2.2.2
  have y1 := blk_free (j := 1) H2.out.2.2.2
  have y2 := blk_free (j := 2) H2.out.2.2.2
  have y3 := blk_free (j := 3) H2.out.2.2.2
  have y4 := blk_free (j := 4) H2.out.2.2.2
  go_wp2_with (fail)
  have HC := play_piles stock store a ds.length cap an N cn am M cm al L cl w2 (HX.out.2.1.below H2.out.1) (HX.out.2.2.1.below H2.out.1) (HX.out.2.2.2.1.below H2.out.1) HX.out.2.2.2.2.2.1.1 HX.out.2.2.2.2.2.1.2.1 HX.out.2.2.2.2.2.1.2.2 HOK.out.2.1.2 ⟨HOK.out.1.1, HOK.out.1.2.1, HOK.out.1.2.2.2⟩ (HX.out.2.2.2.2.2.bd HOK.out.2.2)
  rw [HS.out, HG.out] at HC
  refine HC.mono ?_
  rintro e w3 ⟨sa, sc, ma, mc, pa, pc, rfl, hs, hm, hp, hb3⟩
  have H3 := Lib.hid (And.intro (below_self H2.out.1 hb3) (And.intro (blk_below H2.out.2.2.2 hb3) (And.intro hs (And.intro hm (And.intro hp (lt_of_block H2.out.2.2.2))))))
  clear HC hb3 hs hm hp a0 a1 a2 a3 a4 a5 y0 y1 y2 y3 y4
  have z0 := blk_cell H3.out.2.1 0 rfl
  have z1 := blk_cell H3.out.2.1 1 rfl
  have z2 := blk_cell H3.out.2.1 2 rfl
  have z3 := blk_cell H3.out.2.1 3 rfl
  have z4 := blk_cell H3.out.2.1 4 rfl
  have y0 := blk_free (j := 0) H3.out.2.1
  have y1 := blk_free (j := 1) H3.out.2.1
  have y2 := blk_free (j := 2) H3.out.2.1
  have y3 := blk_free (j := 3) H3.out.2.1
  have y4 := blk_free (j := 4) H3.out.2.1
  go_wp2_with (fail)
  obtain ⟨p1, p2, p3, p4⟩ := five_put (v0 := .slice sa s.stocks.length sc) (v1 := .slice ma s.made.length mc) (v2 := .slice pa F.length pc) (v3 := .int .i64 s.fails) (v4 := .int .i64 s.full) H3.out.2.1 (show w.heap.size ≤ w.heap.size + 1 + 1 by omega) H3.out.1
  have q0 := blk_cell p2 0 rfl
  have q1 := blk_cell p2 1 rfl
  have q2 := blk_cell p2 2 rfl
  have q3 := blk_cell p2 3 rfl
  have q4 := blk_cell p2 4 rfl
  refine bodyPost_ret (v := .tuple #[.agg #[.slice sa s.stocks.length sc, .slice ma s.made.length mc, .slice pa F.length pc, .int .i64 s.fails, .int .i64 s.full], .int .i64 0]) (by simp [results, Try.results105, go_sem, q0, q1, q2, q3, q4]) rfl ?_
  have hlt := H3.out.2.2.2.2.2
  exact ⟨sa, sc, ma, mc, pa, pc, rfl, ⟨ints_put H3.out.2.2.1.1 (Below.refl _ _) p3 p4 (fun p hp => by have := H3.out.2.2.1.2 p hp; omega), fun p hp => by have := H3.out.2.2.1.2 p hp; have := H2.out.1.size; omega⟩, ⟨ints_put H3.out.2.2.2.1.1 (Below.refl _ _) p3 p4 (fun p hp => by have := H3.out.2.2.2.1.2 p hp; omega), fun p hp => by have := H3.out.2.2.2.1.2 p hp; have := H2.out.1.size; omega⟩, ⟨ints_put H3.out.2.2.2.2.1.1 (Below.refl _ _) p3 p4 (fun p hp => by have := H3.out.2.2.2.2.1.2 p hp; omega), fun p hp => by have := H3.out.2.2.2.2.1.2 p hp; have := H2.out.1.size; omega⟩, p1⟩

section
variable (stock store : Int) (a : Option Addr) (ds : List Dy) (cap : Nat) (an : Option Addr) (N : List Int) (cn : Nat) (am : Option Addr) (M : List Int) (cm : Nat) (al : Option Addr) (L : List Int) (cl : Nat) (w : World)
  (hx : Sl 6 Dy.cells w a ds) (hN : IntSl w an N) (hM : IntSl w am M) (hL : IntSl w al L) (hw : winE stock store ds = 0) (hs : Sky ds N M L)
include hx hN hM hL hw hs

set_option maxRecDepth 100000 in
set_option maxHeartbeats 600000 in
theorem Piles_any : Calls Try.prog 59 #[wv stock store a ds.length cap, tv an ds.length cn am ds.length cm al ds.length cl] w fun e w' => ∃ b c, e = .returned (.tuple #[.slice b (pileL stock store N M L ds.length).length c, .int .i64 0]) ∧ (Sl 2 Sp.cells w' b (pileL stock store N M L ds.length) ∧ ∀ p, b = some p → w.heap.size ≤ p.block) ∧ Below w.heap.size w w' := by
  have HX := Lib.hid (And.intro hx (And.intro hN (And.intro hM (And.intro hL (And.intro hw hs)))))
  clear hx hN hM hL hw hs
  generalize hS : playL stock store N M L ds.length = s
  have HS := Lib.hid hS
  clear hS
  generalize hG : pileL stock store N M L ds.length = F
  have HG := Lib.hid hG
  clear hG
  obtain ⟨Wa, hWa⟩ : ∃ Wa, (w.alloc (.cells #[.int .i64 stock, .int .i64 store, .slice a ds.length cap] 60)).alloc (.cells #[.slice an ds.length cn, .slice am ds.length cm, .slice al ds.length cl] 88) = Wa := ⟨_, rfl⟩
  have hba : Below w.heap.size w Wa := by rw [← hWa]; exact ((Below.refl _ _).alloc (Nat.le_refl _) _).alloc (by simp) _
  have h0 : Wa.heap[w.heap.size]? = some (.cells #[.int .i64 stock, .int .i64 store, .slice a ds.length cap] 60 (0, 0)) := by rw [← hWa]; exact alk (new_at rfl)
  have h1 : Wa.heap[w.heap.size + 1]? = some (.cells #[.slice an ds.length cn, .slice am ds.length cm, .slice al ds.length cl] 88 (0, 0)) := by rw [← hWa]; exact new_at (by simp)
  have a0 := blk_cell h0 0 rfl
  have a1 := blk_cell h0 1 rfl
  have a2 := blk_cell h0 2 rfl
  have a3 := blk_cell h1 0 rfl
  have a4 := blk_cell h1 1 rfl
  have a5 := blk_cell h1 2 rfl
  have HB := Lib.hid hba
  clear hba h0 h1
  go_enter Try.func59, Try.ntmps59
  go_wp2_with (fail)
  clear hWa a0 a1 a2 a3 a4 a5
  have HC := told_piles stock store a ds cap an N cn am M cm al L cl Wa (HX.out.1.below HB.out) (HX.out.2.1.below HB.out) (HX.out.2.2.1.below HB.out) (HX.out.2.2.2.1.below HB.out) HX.out.2.2.2.2.1 HX.out.2.2.2.2.2
  rw [HS.out, HG.out] at HC
  refine HC.mono ?_
  rintro e w1 ⟨sa, sc, ma, mc, pa, pc, rfl, hs, hm, hp, hb1⟩
  have H1 := Lib.hid (And.intro (below_self HB.out hb1) (And.intro hs (And.intro hm hp)))
  clear HC hb1 hs hm hp
  go_wp2_with (fail)
  go_ret2
  exact ⟨pa, pc, rfl, ⟨(sl_of_flat H1.out.2.2.2.1).below ((Below.refl _ _).alloc (Nat.le_refl _) _), fun p hp => by have := H1.out.2.2.2.2 p hp; have := HB.out.size; omega⟩, H1.out.1.alloc H1.out.1.size _⟩

end
end Go.Proofs.Ytpkegiekpnaejaa

namespace Go.Proofs.Ytpkegiekpnaejaa
open Go.RowKit Go.Shelf

/-- The stock before a day. -/
def prevS (stock : Int) (S : List Int) : Nat → Int
  | 0 => stock
  | i + 1 => S[i]?.getD 0
/-- What is told of a day. -/
def DayT (store stock : Int) (N M L S Md : List Int) (i : Nat) : Prop :=
  (0 ≤ Md[i]?.getD 0 ∧ Md[i]?.getD 0 ≤ M[i]?.getD 0) ∧ (Md[i]?.getD 0 < M[i]?.getD 0 → prevS stock S i - min (prevS stock S i) (L[i]?.getD 0) + Md[i]?.getD 0 = store) ∧ S[i]?.getD 0 = prevS stock S i - min (prevS stock S i) (L[i]?.getD 0) + Md[i]?.getD 0 - N[i]?.getD 0 ∧ (0 ≤ prevS stock S i ∧ prevS stock S i ≤ store) ∧ (0 ≤ S[i]?.getD 0 ∧ S[i]?.getD 0 ≤ store)
theorem prevS_snoc {stock : Int} {S : List Int} {x : Int} {i : Nat} (h : i ≤ S.length) : prevS stock (S ++ [x]) i = prevS stock S i := by
  cases i with
  | zero => rfl
  | succ i => exact getD_left (by omega)
theorem days_told {stock store : Int} {N M L : List Int} (hs : 0 ≤ stock ∧ stock ≤ store) (hM : ∀ k : Nat, 0 ≤ M[k]?.getD 0) (hL : ∀ k : Nat, 0 ≤ L[k]?.getD 0) (hN : ∀ k : Nat, 0 ≤ N[k]?.getD 0) (k : Nat) :
    (playL stock store N M L k).made.length = (playL stock store N M L k).stocks.length ∧ (playL stock store N M L k).stocks.length ≤ k ∧ ((playL stock store N M L k).fails = -1 → (playL stock store N M L k).stocks.length = k) ∧ (playL stock store N M L k).stock = prevS stock (playL stock store N M L k).stocks (playL stock store N M L k).stocks.length ∧ (0 ≤ (playL stock store N M L k).stock ∧ (playL stock store N M L k).stock ≤ store) ∧
    ∀ i, i < (playL stock store N M L k).stocks.length → DayT store stock N M L (playL stock store N M L k).stocks (playL stock store N M L k).made i := by
  induction k with
  | zero => exact ⟨rfl, Nat.le_refl _, fun _ => rfl, rfl, hs, fun i hi => absurd hi (Nat.not_lt_zero _)⟩
  | succ k ih =>
    obtain ⟨i1, i2, i3, i4, i5, i6⟩ := ih
    rw [playL_succ, stepP]
    have m0 := hM k
    have l0 := hL k
    have n0 := hN k
    generalize playL stock store N M L k = s at i1 i2 i3 i4 i5 i6 ⊢
    by_cases hf : s.fails = -1
    · rw [if_pos hf]
      have hk := i3 hf
      have blo : lostD s.stock (L[k]?.getD 0) = min s.stock (L[k]?.getD 0) ∧ 0 ≤ lostD s.stock (L[k]?.getD 0) ∧ lostD s.stock (L[k]?.getD 0) ≤ s.stock := by unfold lostD; omega
      have bma : 0 ≤ madeD store s.stock (M[k]?.getD 0) (L[k]?.getD 0) ∧ madeD store s.stock (M[k]?.getD 0) (L[k]?.getD 0) ≤ M[k]?.getD 0 ∧ s.stock - lostD s.stock (L[k]?.getD 0) + madeD store s.stock (M[k]?.getD 0) (L[k]?.getD 0) ≤ store ∧ (madeD store s.stock (M[k]?.getD 0) (L[k]?.getD 0) < M[k]?.getD 0 → s.stock - lostD s.stock (L[k]?.getD 0) + madeD store s.stock (M[k]?.getD 0) (L[k]?.getD 0) = store) := by unfold madeD; omega
      generalize madeD store s.stock (M[k]?.getD 0) (L[k]?.getD 0) = ma at *
      by_cases hq : s.stock + (ma - lostD s.stock (L[k]?.getD 0)) < N[k]?.getD 0
      · rw [if_pos hq]
        exact ⟨i1, Nat.le_succ_of_le i2, fun h => absurd (show ((k : Int)) = -1 from h) (by omega), i4, i5, i6⟩
      · rw [if_neg hq]
        refine ⟨by show (s.made ++ [ma]).length = (s.stocks ++ [_]).length; simp [i1], by show (s.stocks ++ [_]).length ≤ k + 1; simp; omega, fun _ => by show (s.stocks ++ [_]).length = k + 1; simp [hk], ?_, ?_, ?_⟩
        · show _ = prevS stock (s.stocks ++ [_]) (s.stocks ++ [_]).length
          rw [List.length_append]
          exact getD_last.symm
        · show 0 ≤ s.stock + (ma - lostD s.stock (L[k]?.getD 0)) - N[k]?.getD 0 ∧ s.stock + (ma - lostD s.stock (L[k]?.getD 0)) - N[k]?.getD 0 ≤ store
          omega
        · intro i hi
          show DayT store stock N M L (s.stocks ++ [s.stock + (ma - lostD s.stock (L[k]?.getD 0)) - N[k]?.getD 0]) (s.made ++ [ma]) i
          have hi' : i < s.stocks.length + 1 := by
            have : i < (s.stocks ++ [s.stock + (ma - lostD s.stock (L[k]?.getD 0)) - N[k]?.getD 0]).length := hi
            simpa using this
          unfold DayT
          rcases Nat.lt_or_ge i s.stocks.length with h | h
          · rw [prevS_snoc (by omega), getD_left h, getD_left (by omega)]
            exact i6 i h
          · have hik : i = s.stocks.length := by omega
            have e2 : (s.made ++ [ma])[i]?.getD 0 = ma := by rw [hik, ← i1]; exact getD_last
            have e1 : (s.stocks ++ [s.stock + (ma - lostD s.stock (L[k]?.getD 0)) - N[k]?.getD 0])[i]?.getD 0 = s.stock + (ma - lostD s.stock (L[k]?.getD 0)) - N[k]?.getD 0 := by rw [hik]; exact getD_last
            have e3 : prevS stock (s.stocks ++ [s.stock + (ma - lostD s.stock (L[k]?.getD 0)) - N[k]?.getD 0]) i = s.stock := by rw [prevS_snoc (by omega), hik]; exact i4.symm
            rw [e1, e2, e3]
            have hik2 : i = k := by omega
            rw [hik2, ← blo.1]
            refine ⟨⟨bma.1, bma.2.1⟩, bma.2.2.2, by omega, i5, by omega, by omega⟩
    · rw [if_neg hf]
      exact ⟨i1, by omega, fun h => absurd h hf, i4, i5, i6⟩
theorem sumS_take {ps : List Sp} (h : ∀ p ∈ ps, 0 ≤ p.hi) (j : Nat) : 0 ≤ sumS (ps.take j) ∧ sumS (ps.take j) ≤ sumS ps := by
  have h1 := (sumS_le (ps := ps.take j) (fun p hp => h p (List.mem_of_mem_take hp))).1
  have h2 := (sumS_le (ps := ps.drop j) (fun p hp => h p (List.mem_of_mem_drop hp))).1
  have h3 := sumS_append (ps.take j) (ps.drop j)
  rw [List.take_append_drop] at h3
  omega
theorem sumS_more {ps : List Sp} {j : Nat} {p : Sp} (h : ps[j]? = some p) : sumS (ps.take (j + 1)) = sumS (ps.take j) + p.hi := by
  rw [List.take_add_one, h, sumS_append]
  show _ + (p.hi + 0) = _
  omega
/-- What CoursePiled asks, of lists. -/
structure PiledL (store stock : Int) (n : Nat) (N M L S Md : List Int) (F : List Sp) : Prop where
  ln : Md.length = S.length
  le : S.length ≤ n
  day : ∀ i, i < S.length → DayT store stock N M L S Md i
  sum : sumS F = prevS stock S S.length
  top : 0 ≤ sumS F ∧ sumS F ≤ store
  fl : F.length ≤ n + 1
  each : ∀ (i : Nat) (p : Sp), F[i]? = some p → 1 ≤ p.hi ∧ ((p.lo = -1 ∧ p.hi ≤ stock ∧ i = 0) ∨ (∃ d : Nat, p.lo = (d : Int) ∧ d < Md.length ∧ p.hi ≤ Md[d]?.getD 0 ∧ (0 < i → p.hi = Md[d]?.getD 0 ∧ (F[i - 1]?.getD ⟨0, 0⟩).lo < p.lo)))
  all : ∀ h t, F = h :: t → -1 ≤ h.lo ∧ ∀ d : Nat, h.lo < d → d < Md.length → 0 < Md[d]?.getD 0 → (⟨d, Md[d]?.getD 0⟩ : Sp) ∈ F
theorem piled_tells {stock store : Int} {ds : List Dy} {N M L : List Int} (hw : winE stock store ds = 0) (hs : Sky ds N M L) :
    PiledL store stock ds.length N M L (playL stock store N M L ds.length).stocks (playL stock store N M L ds.length).made (pileL stock store N M L ds.length) := by
  obtain ⟨b1, b2, b3⟩ := win_ok hw
  obtain ⟨c1, c2, c3⟩ := hs.bd b3
  obtain ⟨d1, d2, d3, d4, d5, d6⟩ := days_told (stock := stock) (store := store) ⟨b1.1, b1.2.1⟩ (getD_pos c2) (getD_pos c3) (getD_pos c1) ds.length
  obtain ⟨p1, p2, p3, p4, p5⟩ := pile_inv (stock := stock) (store := store) ⟨b1.1, b1.2.1⟩ (getD_pos c2) (getD_pos c3) (getD_pos c1) ds.length
  generalize playL stock store N M L ds.length = s at *
  generalize pileL stock store N M L ds.length = F at *
  refine ⟨d1, d2, d6, by rw [p2, d4], by omega, p5, fun i p hp => ?_, fun h t e => ?_⟩
  · obtain ⟨e1, e2⟩ := p1.each p (List.mem_of_getElem? hp)
    refine ⟨e1, ?_⟩
    have hil : i < F.length := by
      rcases Nat.lt_or_ge i F.length with h | h
      · exact h
      · rw [List.getElem?_eq_none h] at hp; cases hp
    have hpe : F[i] = p := by rw [List.getElem?_eq_getElem hil] at hp; simpa using hp
    by_cases hi : 0 < i
    · have htl : p ∈ F.tail := by
        rw [← hpe]
        refine List.mem_iff_getElem.2 ⟨i - 1, by simp; omega, ?_⟩
        rw [List.getElem_tail]
        congr 1
        omega
      obtain ⟨r1, r2⟩ := p1.rest p htl
      have hlt : F[i - 1].lo < p.lo := by rw [← hpe]; exact List.pairwise_iff_getElem.1 p1.inc (i - 1) i (by omega) hil (by omega)
      refine .inr ⟨p.lo.toNat, by omega, ?_, by omega, fun _ => ⟨r2, ?_⟩⟩
      · rcases e2 with e2 | e2 <;> omega
      · rw [List.getElem?_eq_getElem (by omega), Option.getD_some]
        exact hlt
    · rcases e2 with e2 | e2
      · exact .inl ⟨e2.1, e2.2, by omega⟩
      · exact .inr ⟨p.lo.toNat, by omega, by omega, e2.2.2, fun h => absurd h hi⟩
  · subst e
    refine ⟨?_, fun d h1 h2 h3 => List.mem_cons_of_mem _ (p1.all h t rfl d h1 h2 h3)⟩
    rcases (p1.each h List.mem_cons_self).2 with e2 | e2 <;> omega
end Go.Proofs.Ytpkegiekpnaejaa

namespace Go.Proofs.Ytpkegiekpnaejaa
open Go.RowKit Go.Shelf
attribute [local go_sem] Oper.semAt_some

theorem drew_apart' {own : Nat → Prop} {X w2 : World} (h : Apart own X.drew w2) : Apart own X w2 := ⟨h.os, h.tape, h.output, h.size, h.block⟩
theorem ints_apart {W W' : World} {Bd : Nat} {a : Option Addr} {xs : List Int} (h : IntSl W a xs) (ha : Apart (fun j => j = Bd) W W') (hn : ∀ p, a = some p → Bd < p.block) : IntSl W' a xs := fun h0 => by
  obtain ⟨b, off, rfl, hb, hc⟩ := h h0
  have hne : Bd < b := hn _ rfl
  exact ⟨b, off, rfl, Nat.lt_of_lt_of_le hb ha.size, fun j hj => (World.cell?_of_block (w := W) (a := ⟨b, off + j, none⟩) (ha.block b hb (by omega))).trans (hc j hj)⟩

/-- A weather in box T, its lists, and a list of stocks, all behind the deck. -/
structure LW (W : World) (Bd T : Nat) (an : Option Addr) (cn : Nat) (am : Option Addr) (cm : Nat) (al : Option Addr) (cl : Nat) (sb : Option Addr) (m : Nat) (N M L S : List Int) : Prop where
  tb : W.heap[T]? = some (.cells #[.slice an m cn, .slice am m cm, .slice al m cl] 88 (0, 0))
  n : IntSl W an N
  m : IntSl W am M
  l : IntSl W al L
  s : IntSl W sb S
  hT : Bd < T
  fn : ∀ p, an = some p → Bd < p.block
  fm : ∀ p, am = some p → Bd < p.block
  fl : ∀ p, al = some p → Bd < p.block
  fs : ∀ p, sb = some p → Bd < p.block
section
variable {W W' : World} {Bd T : Nat} {an : Option Addr} {cn : Nat} {am : Option Addr} {cm : Nat} {al : Option Addr} {cl : Nat} {sb : Option Addr} {m : Nat} {N M L S : List Int}
theorem LW.below (h : LW W Bd T an cn am cm al cl sb m N M L S) (hb : Below W.heap.size W W') : LW W' Bd T an cn am cm al cl sb m N M L S := ⟨blk_below h.tb hb, h.n.below hb, h.m.below hb, h.l.below hb, h.s.below hb, h.hT, h.fn, h.fm, h.fl, h.fs⟩
theorem LW.apart (h : LW W Bd T an cn am cm al cl sb m N M L S) (ha : Apart (fun j => j = Bd) W W') : LW W' Bd T an cn am cm al cl sb m N M L S := by
  have hT := h.hT
  exact ⟨(ha.block _ (lt_of_block h.tb) (by omega)).trans h.tb, ints_apart h.n ha h.fn, ints_apart h.m ha h.fm, ints_apart h.l ha h.fl, ints_apart h.s ha h.fs, h.hT, h.fn, h.fm, h.fl, h.fs⟩
end

set_option maxRecDepth 100000 in
set_option maxHeartbeats 8000000 in
theorem lazy_any (a : Option Addr) (n cap : Nat) (a2 : Option Addr) (n2 cap2 : Nat) (w : World) (hb : BytesAt w a n) (hn : n ≤ 140737488355328) (hb2 : BytesAt w a2 n2) (hn2 : n2 ≤ 140737488355328) :
    Calls Try.prog 8 #[.slice a n cap, .slice a2 n2 cap2] w fun e w' => e = .returned (.bool true) ∧ Below w.heap.size w w' := by
  have HO := Lib.hid (of_any a n cap w hb hn)
  have HB2 := Lib.hid (And.intro hb2 hn2)
  clear hb hn hb2 hn2
  go_enter Try.func8, Try.ntmps8
  go_wp2_with (fail)
  refine HO.out.mono ?_
  rintro e w1 ⟨rfl, hD, hb1⟩
  have HD := Lib.hid (And.intro hD hb1)
  clear hD hb1 HO
  go_wp2_with (fail)
  refine (made_any w.heap.size (w.heap.size + 1) a n cap 0 20 w1 HD.out.1 (by omega) (by omega)).mono ?_
  rintro e w2 ⟨stock, store, ad, ds, cp, rfl, hS, h1, h2, h3, h4, _, hA, _⟩
  obtain ⟨Wa, hWa⟩ : ∃ Wa, w2.alloc (.cells #[.int .i64 stock, .int .i64 store, .slice ad ds.length cp] 60) = Wa := ⟨_, rfl⟩
  have hb2 : Below w.heap.size w w2 := below_apart HD.out.2 hA (fun j hj => by omega)
  have HF : Hid ((20 ≤ store ∧ store ≤ 200) ∧ (0 ≤ stock ∧ stock ≤ store) ∧ (1 ≤ ds.length ∧ ds.length ≤ 20) ∧ (∀ d ∈ ds, SmallDay d)) := ⟨h1, h2, ⟨h3.1, by omega⟩, h4⟩
  have HW := Lib.hid (winE_small (stock := stock) (store := store) (ds := ds) ⟨by omega, by omega⟩ h2 ⟨h3.1, by omega⟩ h4)
  have HK : Hid (KW w Wa w2.heap.size stock store ad ds cp ∧ w2.heap.size < Wa.heap.size ∧ (∀ p, ad = some p → p.block < Wa.heap.size)) := by
    rw [← hWa]
    refine ⟨⟨hb2.alloc hb2.size _, heap_alloc_new _ _, hS.below (alloc1 _ _)⟩, by simp, fun p hp => ?_⟩
    obtain ⟨b, off, e, hlt, _⟩ := hS (by omega)
    rw [hp] at e
    cases e
    show b < _
    simp; omega
  clear hS h1 h2 h3 h4 hA hb2
  go_wp2_with (fail)
  clear hWa
  refine (of_any a2 n2 cap2 Wa (HB2.out.1.keep HK.out.1.1.size (fun _ p _ hp => HK.out.1.1.block _ hp)) HB2.out.2).mono ?_
  rintro e w3 ⟨rfl, hD, hb⟩
  have HM : Hid (MP w w3 w2.heap.size Wa.heap.size stock store ad ds cp a2 n2 cap2 0) := ⟨HK.out.1.below hb, hD, HK.out.1.1.size, HK.out.2.1, HK.out.2.2⟩
  have HL : Hid (ds.length ≤ 1000000) := by have := HF.out.2.2.1; show _ ≤ _; omega
  clear hD hb
  have c0 := blk_cell HM.out.kw.2.1 0 rfl
  have c1 := blk_cell HM.out.kw.2.1 1 rfl
  have c2 := blk_cell HM.out.kw.2.1 2 rfl
  go_wp2_with (fail)
  clear c0 c1 c2
  refine (drawn_any Wa.heap.size a2 n2 cap2 0 stock store ad ds cp w3 HM.out.dk (by omega) HM.out.kw.2.2 (fun p hp => Nat.ne_of_lt (HM.out.far p hp)) (by have := HF.out.2.2.1; omega) HF.out.2.2.2).mono ?_
  rintro e w4 ⟨an, cn, am, cm, al, cl, N, M, L, rfl, iN, iM, iL, hsk, hD, hA, fN, fM, fL⟩
  obtain ⟨Wt, hWt⟩ : ∃ Wt, w4.alloc (.cells #[.slice an ds.length cn, .slice am ds.length cm, .slice al ds.length cl] 88) = Wt := ⟨_, rfl⟩
  have hBd3 := HM.out.dk.lt.2
  have HT : Hid (MP w Wt w2.heap.size Wa.heap.size stock store ad ds cp a2 n2 cap2 (0 + 3 * ds.length) ∧ LW Wt Wa.heap.size w4.heap.size an cn am cm al cl none ds.length N M L []) := by
    rw [← hWt]
    have h1 : Below w4.heap.size w4 (w4.alloc (.cells #[.slice an ds.length cn, .slice am ds.length cm, .slice al ds.length cl] 88)) := (Below.refl _ _).alloc (Nat.le_refl _) _
    have h2 := hA.size
    exact ⟨(HM.out.draw hA hD).below h1, ⟨heap_alloc_new _ _, iN.below h1, iM.below h1, iL.below h1, fun h => absurd h (by simp), by omega, fun p hp => by have := fN p hp; omega, fun p hp => by have := fM p hp; omega, fun p hp => by have := fL p hp; omega, fun p hp => by cases hp⟩⟩
  have HSK := Lib.hid hsk
  clear iN iM iL hsk hD hA fN fM fL
  have c0 := blk_cell HT.out.1.kw.2.1 0 rfl
  have c1 := blk_cell HT.out.1.kw.2.1 1 rfl
  have c2 := blk_cell HT.out.1.kw.2.1 2 rfl
  have t0 := blk_cell HT.out.2.tb 0 rfl
  have t1 := blk_cell HT.out.2.tb 1 rfl
  have t2 := blk_cell HT.out.2.tb 2 rfl
  go_wp2_with (fail)
  clear c0 c1 c2 t0 t1 t2 hWt
  obtain ⟨s, hS⟩ : ∃ s, playL stock store N M L ds.length = s := ⟨_, rfl⟩
  have HS := Lib.hid hS
  have hln := play_len stock store N M L ds.length
  rw [hS] at hln
  have HLN := Lib.hid hln
  clear hS hln
  have HC := Stocks_any stock store ad ds cp an N cn am M cm al L cl Wt HT.out.1.kw.2.2 HT.out.2.n HT.out.2.m HT.out.2.l HW.out HSK.out
  rw [HS.out] at HC
  refine HC.mono ?_
  rintro e w5 ⟨sb, sc, rfl, ⟨iS, fS⟩, hb⟩
  have HV : Hid (MP w w5 w2.heap.size Wa.heap.size stock store ad ds cp a2 n2 cap2 (0 + 3 * ds.length) ∧ LW w5 Wa.heap.size w4.heap.size an cn am cm al cl sb ds.length N M L s.stocks) := by
    have h := HT.out.2.below hb
    have h2 := HT.out.1.dk.lt
    exact ⟨HT.out.1.below hb, ⟨h.tb, h.n, h.m, h.l, iS, h.hT, h.fn, h.fm, h.fl, fun p hp => by have := fS p hp; omega⟩⟩
  clear HC iS fS hb
  have c0 := blk_cell HV.out.1.kw.2.1 0 rfl
  have c1 := blk_cell HV.out.1.kw.2.1 1 rfl
  have c2 := blk_cell HV.out.1.kw.2.1 2 rfl
  have t0 := blk_cell HV.out.2.tb 0 rfl
  have t1 := blk_cell HV.out.2.tb 1 rfl
  have t2 := blk_cell HV.out.2.tb 2 rfl
  go_wp2_with (fail)
  clear c0 c1 c2 t0 t1 t2
  have HC := Fails_any stock store ad ds cp an N cn am M cm al L cl w5 HV.out.1.kw.2.2 HV.out.2.n HV.out.2.m HV.out.2.l HW.out HSK.out
  rw [HS.out] at HC
  refine HC.mono ?_
  rintro e w6 ⟨rfl, hb⟩
  have HV := Lib.hid (And.intro (HV.out.1.below hb) (HV.out.2.below hb))
  clear HC hb
  go_upto_region 6 with (fail)
  go_cut [61] (fun b wx => b = .bool false ∧ wx = w6)
  case first => as_aux_lemma =>
    have c2 := blk_cell HV.out.1.kw.2.1 2 rfl
    rcases HLN.out with ⟨h1, h2, _⟩ | ⟨d, h1, h2, _, hlt⟩
    · have q1 : (s.fails == -1) = true := by simp [h1]
      have q2 : ((s.stocks.length : Int) != (ds.length : Int)) = false := by simp [h2]
      have q3 : (s.fails != -1) = false := by simp [h1]
      clear h1 h2
      go_wp2_with (fail)
      go_meet
      exact ⟨rfl, rfl⟩
    · have q1 : (s.fails == -1) = false := by simp [h1]
      have q2 : (s.fails != -1) = true := by simp [h1]
      have q3 : ((s.stocks.length : Int) != s.fails) = false := by simp [h1, h2]
      clear h1 h2
      go_wp2_with (fail)
      go_meet
      exact ⟨rfl, rfl⟩
  case rest => as_aux_lemma =>
    obtain ⟨rfl, rfl⟩ := hcut
    have c0 := blk_cell HV.out.1.kw.2.1 0 rfl
    have c2 := blk_cell HV.out.1.kw.2.1 2 rfl
    go_wp2_with (fail)
    clear c0 c2
    have HBD := Lib.hid (HSK.out.bd (win_ok HW.out).2.2)
    go_loopw [12, 67] (fun st i wr => ∃ (j k : Nat) (x : Int), st = .int .i64 x ∧ i = .int .i64 j ∧ j ≤ ds.length ∧ Hid (k ≤ 60 + j) ∧ Hid ((playL stock store N M L j).fails = -1 ∧ 0 ≤ x ∧ x ≤ (playL stock store N M L j).stock) ∧ Hid (MP w wr w2.heap.size Wa.heap.size stock store ad ds cp a2 n2 cap2 k ∧ LW wr Wa.heap.size w4.heap.size an cn am cm al cl sb ds.length N M L s.stocks)) (fun _ i _ => ds.length - (intOf i).toNat)
    case atStart => exact ⟨0, 0 + 3 * ds.length, stock, rfl, rfl, Nat.zero_le _, (by show 0 + 3 * ds.length ≤ 60 + 0; have := HF.out.2.2.1; omega), ⟨rfl, HF.out.2.1.1, Int.le_refl _⟩, HV.out⟩
    case round =>
      obtain ⟨j, k, x, rfl, rfl, hj, hk, hL, hM⟩ := hrel
      by_cases hlt : j < ds.length
      · obtain ⟨d, hd⟩ : ∃ d, ds[j]? = some d := ⟨_, List.getElem?_eq_getElem hlt⟩
        have hsm := HF.out.2.2.2 d (List.mem_of_getElem? hd)
        have hsp := HSK.out.2 j d hd
        have hps := play_stock (stock := stock) (store := store) HF.out.2.1 (fun k => getD_nn HBD.out.2.1 k) (fun k => getD_nn HBD.out.2.2 k) (fun k => getD_nn HBD.out.1 k) j hL.out.1
        have hlz := fun (y1 r : Int) (h1 : y1 = max 0 (x - L[j]?.getD 0)) (h2 : 0 ≤ r) (h3 : r ≤ M[j]?.getD 0) (h4 : 0 ≤ y1 + min (store - y1) r - N[j]?.getD 0) => lazy_step (stock := stock) (store := store) HF.out.2.1 (fun k => getD_nn HBD.out.2.1 k) (fun k => getD_nn HBD.out.2.2 k) (fun k => getD_nn HBD.out.1 k) j hL.out.1 x r ⟨hL.out.2.1, hL.out.2.2⟩ ⟨h2, h3⟩ (y1 + min (store - y1) r - N[j]?.getD 0) (by rw [h1]) h4
        have hln := HSK.out.1
        obtain ⟨bn, on, ean, hbn, hcn⟩ := hM.out.2.n (by omega)
        obtain ⟨bm, om, eam, hbm, hcm⟩ := hM.out.2.m (by omega)
        obtain ⟨bl, ol, eal, hbl, hcl⟩ := hM.out.2.l (by omega)
        have cN := hcn j (by omega)
        have cM := hcm j (by omega)
        have cL := hcl j (by omega)
        have hxb : 0 ≤ x ∧ x ≤ store ∧ store ≤ 200 := ⟨hL.out.2.1, by have := hL.out.2.2; omega, HF.out.1.2⟩
        have hbb : (0 ≤ N[j]?.getD 0 ∧ N[j]?.getD 0 ≤ 100) ∧ (0 ≤ M[j]?.getD 0 ∧ M[j]?.getD 0 ≤ 100) ∧ (0 ≤ L[j]?.getD 0 ∧ L[j]?.getD 0 ≤ 100) := by
          unfold SmallDay SmallSp at hsm
          omega
        have HLZ := Lib.hid hlz
        have HM := hM
        have HE : Hid (an = some ⟨bn, on, none⟩ ∧ am = some ⟨bm, om, none⟩ ∧ al = some ⟨bl, ol, none⟩) := ⟨ean, eam, eal⟩
        clear hlz hsm hsp hps hd hcn hcm hcl hM hln ean eam eal
        generalize hnj : N[j]?.getD 0 = nj at *
        have HNJ := Lib.hid hnj
        clear hnj
        generalize M[j]?.getD 0 = mj at *
        generalize L[j]?.getD 0 = lj at *
        have t0 : wr.cell? ⟨w4.heap.size, 0, none⟩ = some (.slice (some ⟨bn, on, none⟩) ds.length cn) := by rw [← HE.out.1]; exact blk_cell HM.out.2.tb 0 rfl
        have t1 : wr.cell? ⟨w4.heap.size, 1, none⟩ = some (.slice (some ⟨bm, om, none⟩) ds.length cm) := by rw [← HE.out.2.1]; exact blk_cell HM.out.2.tb 1 rfl
        have t2 : wr.cell? ⟨w4.heap.size, 2, none⟩ = some (.slice (some ⟨bl, ol, none⟩) ds.length cl) := by rw [← HE.out.2.2]; exact blk_cell HM.out.2.tb 2 rfl
        have c1 := blk_cell HM.out.1.kw.2.1 1 rfl
        go_upto_region 12 with (fail)
        go_cut [12, 67] (fun st i wx => st = .int .i64 (max 0 (x - lj)) ∧ i = .int .i64 j ∧ wx = wr)
        case first =>
          have hw1 : IntKind.i64.wrap (x - lj) = x - lj := IntWalk.i64_in _ (by omega)
          go_wp2_with (fail)
          all_goals (
            go_meet
            exact ⟨congrArg (Value.int .i64) (by omega), rfl, rfl⟩)
        case rest =>
          obtain ⟨rfl, rfl, rfl⟩ := hcut
          obtain ⟨y1, hy1⟩ : ∃ y1, max 0 (x - lj) = y1 := ⟨_, rfl⟩
          rw [hy1]
          have hyb : 0 ≤ y1 ∧ y1 ≤ store := by omega
          have HY := Lib.hid hy1.symm
          clear hy1
          have hbm2 : bm ≠ Wa.heap.size := by have h := HM.out.2.fm ⟨bm, om, none⟩ HE.out.2.1; exact Nat.ne_of_gt h
          have hmj := hbb.2.1
          go_upto_region 13 with (fail)
          go_cut [12, 67] (fun st i wx => i = .int .i64 j ∧ ∃ r : Int, (0 ≤ r ∧ r ≤ mj) ∧ st = .int .i64 (y1 + min (store - y1) r) ∧ MP w wx w2.heap.size Wa.heap.size stock store ad ds cp a2 n2 cap2 (k + 1) ∧ LW wx Wa.heap.size w4.heap.size an cn am cm al cl sb ds.length N M L s.stocks)
          case first =>
            have hwa : IntKind.i64.wrap (store - y1) = store - y1 := IntWalk.i64_in _ (by omega)
            have hwm : IntKind.i64.wrap (mj + 1) = mj + 1 := IntWalk.i64_in _ (by omega)
            go_region_held3 (fun w' => w'.cell? ⟨w2.heap.size, 1, none⟩ = some (.int .i64 store) ∧ w'.cell? ⟨w4.heap.size, 1, none⟩ = some (.slice (some ⟨bm, om, none⟩) ds.length cm) ∧ w'.cell? ⟨bm, om + j, none⟩ = some (.int .i64 mj)) (go_keep)
              (first | (go_at_call 54; refine (draw_any Wa.heap.size (Wa.heap.size + 1) a2 n2 cap2 k (mj + 1) _ (HM.out.1.dk.below ((Below.refl _ _).drew)) (by have := hk.out; have := HF.out.2.2.1; omega) (by omega)).mono ?_; rintro e w5' ⟨⟨r, rfl, hr0, hr1⟩, hD, hA⟩; have hA' := drew_apart' hA; have HM5 := Lib.hid (And.intro (HM.out.1.draw hA' hD) (HM.out.2.apart hA')); have cM' := (World.cell?_of_block (a := ⟨bm, om + j, none⟩) (hA'.block bm hbm hbm2)).trans cM; clear hD hA hA' cM c1 t1 t0 t2; have cM := cM'; clear cM'; have c1 := blk_cell HM5.out.1.kw.2.1 1 rfl; have t1 := blk_cell HM5.out.2.tb 1 rfl; rw [HE.out.2.1] at t1; have hw2 : IntKind.i64.wrap (y1 + (store - y1)) = y1 + (store - y1) := IntWalk.i64_in _ (by omega); have hw3 : IntKind.i64.wrap (y1 + r) = y1 + r := IntWalk.i64_in _ (by omega)))
            all_goals (
              go_wp2_with (fail)
              all_goals (
                go_meet
                exact ⟨rfl, r, ⟨hr0, by omega⟩, congrArg (Value.int .i64) (by omega), HM5.out.1, HM5.out.2⟩))
          case rest =>
            obtain ⟨rfl, r, hr, rfl, hm1, hm2⟩ := hcut
            have HM6 := Lib.hid (And.intro hm1 hm2)
            have HR := Lib.hid hr
            have hyy := fun h4 => HLZ.out y1 r HY.out hr.1 hr.2 h4
            obtain ⟨y2, hy2⟩ : ∃ y2, y1 + min (store - y1) r = y2 := ⟨_, rfl⟩
            rw [hy2] at hyy ⊢
            have hyb2 : 0 ≤ y2 ∧ y2 ≤ store := by omega
            clear hm1 hm2 hr hy2 t0 t1 t2 c1 cN cM cL
            obtain ⟨bn', on', ean, hbn', hcn⟩ := HM6.out.2.n (by have := HSK.out.1.1; omega)
            have cN := hcn j (by have := HSK.out.1.1; omega)
            rw [HNJ.out] at cN
            have t0 : wc.cell? ⟨w4.heap.size, 0, none⟩ = some (.slice (some ⟨bn', on', none⟩) ds.length cn) := by rw [← ean]; exact blk_cell HM6.out.2.tb 0 rfl
            have hw4 : IntKind.i64.wrap (y2 - nj) = y2 - nj := IntWalk.i64_in _ (by omega)
            clear hcn ean
            by_cases hneg : y2 - nj < 0
            · have hpl := play_later stock store N M L j ds.length hj hL.out.1
              rw [HS.out] at hpl
              by_cases hF : s.fails = -1
              · have q1 : (s.fails == -1) = true := by simp [hF]
                clear hpl hF hyy
                go_wp2_with (first | (go_at_call 15; refine (awake_any _).mono ?_; rintro e v7 ⟨rfl, hb⟩; have HM2 := Lib.hid (HM6.out.1.below hb); clear hb))
                go_ret
                exact ⟨rfl, HM2.out.kw.1⟩
              · have q1 : (s.fails == -1) = false := by simp [hF]
                have q2 : (j : Int) ≤ s.fails := by omega
                clear hpl hF hyy
                go_wp2_with (first | (go_at_call 15; refine (awake_any _).mono ?_; rintro e v7 ⟨rfl, hb⟩; have HM2 := Lib.hid (HM6.out.1.below hb); clear hb))
                go_ret
                exact ⟨rfl, HM2.out.kw.1⟩
            · have hz := hyy (by omega)
              have htd := play_told stock store N M L j ds.length (by omega) hz.1
              rw [HS.out] at htd
              have HZ := Lib.hid hz
              obtain ⟨bs, os, rfl, hbs, hcs⟩ := HM6.out.2.s (by omega)
              have cS := hcs j htd.1
              rw [htd.2] at cS
              have hlS : (j : Int) < (s.stocks.length : Int) := by omega
              have hle := hz.2
              clear hcs hz htd hyy
              generalize (playL stock store N M L (j + 1)).stock = p1 at cS hle
              have hle2 : ¬ p1 < y2 - nj := by omega
              have hdl := HF.out.2.2.1
              go_wp2_with (fail)
              go_roundw
              case rel => exact ⟨j + 1, k + 1, y2 - nj, by go_num, by go_num, by omega, (by show k + 1 ≤ 60 + (j + 1); have := hk.out; omega), ⟨HZ.out.1, by omega, HZ.out.2⟩, HM6.out⟩
              case measure => simp [intOf]; omega
      · have hjl : j = ds.length := by omega
        subst hjl
        have hF : s.fails = -1 := by rw [← HS.out]; exact hL.out.1
        have q1 : (s.fails == -1) = true := by simp [hF]
        clear hF
        go_wp2_with (first | (go_at_call 15; refine (awake_any _).mono ?_; rintro e v7 ⟨rfl, hb⟩; have HM2 := Lib.hid (hM.out.1.below hb); clear hb))
        go_ret
        exact ⟨rfl, HM2.out.kw.1⟩
end Go.Proofs.Ytpkegiekpnaejaa

namespace Go.Proofs.Ytpkegiekpnaejaa
open Go.RowKit Go.Shelf
attribute [local go_sem] Oper.semAt_some

/-- A weather in box T, and its lists. -/
structure LV (W : World) (T : Nat) (an : Option Addr) (cn : Nat) (am : Option Addr) (cm : Nat) (al : Option Addr) (cl : Nat) (m : Nat) (N M L : List Int) : Prop where
  tb : W.heap[T]? = some (.cells #[.slice an m cn, .slice am m cm, .slice al m cl] 88 (0, 0))
  n : IntSl W an N
  m : IntSl W am M
  l : IntSl W al L
theorem LV.below {W W' : World} {T : Nat} {an : Option Addr} {cn : Nat} {am : Option Addr} {cm : Nat} {al : Option Addr} {cl : Nat} {m : Nat} {N M L : List Int} (h : LV W T an cn am cm al cl m N M L) (hb : Below W.heap.size W W') : LV W' T an cn am cm al cl m N M L := ⟨blk_below h.tb hb, h.n.below hb, h.m.below hb, h.l.below hb⟩

abbrev zero88 : Obj := .cells #[.slice none 0 0, .slice none 0 0, .slice none 0 0] 88
section
variable {w Wa : World} {Bw : Nat} {stock store : Int} {ad : Option Addr} {ds : List Dy} {cp : Nat} {a2 : Option Addr} {n2 cap2 : Nat}
/-- The deck is made behind the box. -/
theorem deck_late (hk : KW w Wa Bw stock store ad ds cp ∧ Bw < Wa.heap.size ∧ (∀ p, ad = some p → p.block < Wa.heap.size)) {w3 : World} (hD : Deck w3 (Wa.heap.size + 1) (Wa.heap.size + 1 + 1) a2 n2 cap2 0) (hb : Below (Wa.drew.alloc zero88).heap.size (Wa.drew.alloc zero88) w3) :
    MP w w3 Bw (Wa.heap.size + 1) stock store ad ds cp a2 n2 cap2 0 ∧ w3.heap[Wa.heap.size]? = some (.cells #[.slice none 0 0, .slice none 0 0, .slice none 0 0] 88 (0, 0)) := by
  have h0 : Below Wa.heap.size Wa (Wa.drew.alloc zero88) := ((Below.refl Wa.heap.size Wa).drew).alloc (Nat.le_refl _) _
  have h1 := below_self h0 hb
  have h2 := hk.1.1.size
  exact ⟨⟨hk.1.below h1, hD, by omega, by omega, fun p hp => by have := hk.2.2 p hp; omega⟩, blk_below (heap_alloc_new Wa.drew zero88) hb⟩
/-- A store of the weather into the box. -/
theorem box_put {W : World} {B Bd k : Nat} {an : Option Addr} {cn : Nat} {am : Option Addr} {cm : Nat} {al : Option Addr} {cl : Nat} {m : Nat} {N M L : List Int} {u0 u1 u2 : Value} (hm : MP w W Bw Bd stock store ad ds cp a2 n2 cap2 k) (hB : W.heap[B]? = some (.cells #[u0, u1, u2] 88 (0, 0))) (h1 : w.heap.size ≤ B) (h2 : Bw ≠ B) (h3 : ∀ p, ad = some p → p.block ≠ B) (iN : IntSl W an N) (iM : IntSl W am M) (iL : IntSl W al L) (fN : ∀ p, an = some p → B < p.block) (fM : ∀ p, am = some p → B < p.block) (fL : ∀ p, al = some p → B < p.block) :
    KW w (((W.setCell ⟨B, 0, none⟩ (.slice an m cn)).setCell ⟨B, 1, none⟩ (.slice am m cm)).setCell ⟨B, 2, none⟩ (.slice al m cl)) Bw stock store ad ds cp ∧ LV (((W.setCell ⟨B, 0, none⟩ (.slice an m cn)).setCell ⟨B, 1, none⟩ (.slice am m cm)).setCell ⟨B, 2, none⟩ (.slice al m cl)) B an cn am cm al cl m N M L := by
  obtain ⟨p1, p2, p3, p4⟩ := three_put (v0 := .slice an m cn) (v1 := .slice am m cm) (v2 := .slice al m cl) hB h1 hm.kw.1
  exact ⟨⟨p1, (p3 _ h2).trans hm.kw.2.1, sl_apart hm.kw.2.2 p4 (fun p hp => p3 _ (h3 p hp))⟩, ⟨p2, ints_other iN p3 p4 (fun p hp => Nat.ne_of_gt (fN p hp)), ints_other iM p3 p4 (fun p hp => Nat.ne_of_gt (fM p hp)), ints_other iL p3 p4 (fun p hp => Nat.ne_of_gt (fL p hp))⟩⟩
/-- The weather in a box that is made last. -/
theorem box_new {W : World} {Bd k : Nat} {an : Option Addr} {cn : Nat} {am : Option Addr} {cm : Nat} {al : Option Addr} {cl : Nat} {m : Nat} {N M L : List Int} (hm : MP w W Bw Bd stock store ad ds cp a2 n2 cap2 k) (iN : IntSl W an N) (iM : IntSl W am M) (iL : IntSl W al L) :
    KW w (W.alloc (.cells #[.slice an m cn, .slice am m cm, .slice al m cl] 88)) Bw stock store ad ds cp ∧ LV (W.alloc (.cells #[.slice an m cn, .slice am m cm, .slice al m cl] 88)) W.heap.size an cn am cm al cl m N M L := by
  have h1 := alloc1 W (.cells #[.slice an m cn, .slice am m cm, .slice al m cl] 88)
  exact ⟨hm.kw.below h1, ⟨heap_alloc_new _ _, iN.below h1, iM.below h1, iL.below h1⟩⟩
end
end Go.Proofs.Ytpkegiekpnaejaa
