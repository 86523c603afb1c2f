/-
The contract of lack over this seat's program.
  What is proved: by how much snow is lacking by a proof, and whether it holds.
  Conditions: a weather of a valid winter, and a proof of its days.
The contract of Proves over this seat's program.
  What is proved: Proves answers by how much snow is lacking by a proof, or the error.
  Conditions: slices of at most 1000000 elements.
The contract of sort.Search over this seat's program.
  What is proved: it answers the least number from 0 to n at which the function answers true, or n.
  Conditions: n of at most 2000000; a function that answers true for all numbers that are greater than one for which it does.
The contract of least over this seat's program.
  What is proved: it answers the least number from lo to hi that is enough, or the error.
  Conditions: at most 1000001 numbers; a function that answers true for all numbers that are greater than one for which it does.
More stock and more room never make a day fail.
  What is proved: if no day fails with some stock and store, none fails with more of both.
  Conditions: numbers of a weather that are not below 0; stocks of at most the store.
The contracts of Least and Room over this seat's program.
  What is proved: they answer the least stock, and the least store, with which no day fails in the worst weather, or the error.
  Conditions: slices of at most 1000000 elements.
The contract of Room over this seat's program.
  What is proved: it answers the least store with which no day fails in the worst weather, or the error.
  Conditions: slices of at most 1000000 elements.
Better weather, more stock and more room never make a day fail; the stocks are no less.
  What is proved: of two runs of play day by day, the one with more has no less on each day, and fails no earlier.
  Conditions: numbers of a weather that are not below 0; stocks of at most the store.
The contract of Ranges over this seat's program.
  What is proved: Ranges answers the stocks after each day in the worst and in the best weather, or the error.
  Conditions: slices of at most 1000000 elements.
The contracts of span, Three and Short over this seat's program.
  What is proved: what each call returns; nothing that was there before has turned.
  Conditions: none, but a need that is no greater than 1000000.
The contracts of klisterkit.Equal over this seat's program.
  What is proved: it tells whether two lists are the same.
  Conditions: slices of at most 1000000 elements.
The contracts of klisterkit.EqualAll and of Equal for spans over this seat's program.
  What is proved: they tell whether two lists are the same.
  Conditions: slices of at most 1000000 elements.
The contracts of before, slices.Compare and cmp.Compare for rules, over this seat's program.
  What is proved: before tells whether a list of rules is shorter than another one, or as long and before it.
  Conditions: slices of at most 1000000 elements.
The contract of Yield over this seat's program.
  What is proved: it hands back the fewest rules to be given up and the first course for them, or the error; nothing that was there before has turned.
  Conditions: slices of at most 1000000 elements.
The contract of failing over this seat's program.
  What is proved: failing tells what happens in the worst weather, if a day fails in it, or the error.
  Conditions: slices of at most 1000000 elements.
The contract of First over this seat's program.
  What is proved: First answers the first day that fails in the worst weather, or the error.
  Conditions: slices of at most 1000000 elements.
The numbers of the chapter's examples, by the plain notions of this seat's texts.
  What is proved: closed facts.
  Conditions: none.
The contract of awake over this seat's program.
  What is proved: it answers true; nothing that was there before has turned.
  Conditions: none.
The contracts of klisterkit.Of, and of Draw, Between and Coin of a deck, over this seat's program.
  What is proved: what is dealt lies within its bounds; only the deck itself turns.
  Conditions: a deck that has dealt at most 1000000 times.
-/
import Derived.Test.YtmebmcipmemofaaGreatPart9
import Derived.IntWalk
namespace Go.Proofs.YtmebmcipmemofaaGreat
open Go.RowKit Go.Shelf
attribute [local go_sem] Oper.semAt_some

/-- What is left before day d0 + j by a proof, if it has not been refuted. -/
def lackS (store pf : Int) (N M L : List Int) (d0 : Nat) (stock : Int) : Nat → Option Int
  | 0 => some stock
  | j + 1 => (lackS store pf N M L d0 stock j).bind fun left => if atMostL store pf M L (d0 + j) left - N[d0 + j]?.getD 0 < 0 then none else some (atMostL store pf M L (d0 + j) left - N[d0 + j]?.getD 0)
def lackR (stock store pf : Int) (N M L : List Int) (pd : Nat) : Int × Bool :=
  match lackS store pf N M L pf.toNat stock (pd - pf.toNat) with
  | none => (0, false)
  | some left => (N[pd]?.getD 0 - atMostL store pf M L pd left, decide (0 < N[pd]?.getD 0 - atMostL store pf M L pd left))

theorem lackS_none (store pf : Int) (N M L : List Int) (d0 : Nat) (stock : Int) (j : Nat) (h : lackS store pf N M L d0 stock j = none) (m : Nat) (hm : j ≤ m) : lackS store pf N M L d0 stock m = none := by
  induction m with
  | zero => have : j = 0 := by omega
            subst this; exact h
  | succ m ih =>
    rcases Nat.lt_or_ge m j with h1 | h1
    · have : j = m + 1 := by omega
      subst this; exact h
    · rw [lackS, ih h1]; rfl

set_option maxRecDepth 100000 in
set_option maxHeartbeats 2000000 in
theorem lack_any (stock store pf : Int) (pd : Nat) (a : Option Addr) (n cap : Nat) (an : Option Addr) (N : List Int) (cn : Nat) (am : Option Addr) (M : List Int) (cm : Nat) (al : Option Addr) (L : List Int) (cl : Nat) (w : World)
    (hN : IntSl w an N) (hM : IntSl w am M) (hL : IntSl w al L) (hNn : N.length = n) (hMn : M.length = n) (hLn : L.length = n) (hn : n ≤ 60) (hst : 0 ≤ stock ∧ stock ≤ store ∧ store ≤ 1000000)
    (hb : (∀ x ∈ N, 0 ≤ x ∧ x ≤ 100000) ∧ (∀ x ∈ M, 0 ≤ x ∧ x ≤ 100000) ∧ (∀ x ∈ L, 0 ≤ x ∧ x ≤ 100000)) (hp : -1 ≤ pf ∧ pf ≤ pd ∧ pd < n) :
    Calls Tryz.prog 119 #[sv stock store a n cap an n cn am n cm al n cl, .agg #[.int .i64 pf, .int .i64 pd]] w fun e w' => e = .returned (.tuple #[.int .i64 (lackR stock store pf N M L pd).1, .bool (lackR stock store pf N M L pd).2]) ∧ Below w.heap.size w w' := by
  have HH := Lib.hid (And.intro hN (And.intro hM (And.intro hL (And.intro hNn (And.intro hMn hLn)))))
  have HB := Lib.hid hb
  have HS := Lib.hid hst
  have HP := Lib.hid hp
  have HN := Lib.hid hn
  clear hN hM hL hNn hMn hLn hb hst hn
  obtain ⟨Wa, hWa⟩ : ∃ Wa, (w.alloc (.cells #[.int .i64 stock, .int .i64 store, .slice a n cap, .slice an n cn, .slice am n cm, .slice al n cl] 156)).alloc (.cells #[.int .i64 pf, .int .i64 pd] 95) = Wa := ⟨_, rfl⟩
  have hba : Below w.heap.size w Wa := by rw [← hWa]; exact ((Below.refl _ _).alloc (Nat.le_refl _) _).alloc (by simp) _
  have h0 : Wa.heap[w.heap.size]? = some (.cells #[.int .i64 stock, .int .i64 store, .slice a n cap, .slice an n cn, .slice am n cm, .slice al n cl] 156 (0, 0)) := by rw [← hWa]; exact alk (new_at rfl)
  have h1 : Wa.heap[w.heap.size + 1]? = some (.cells #[.int .i64 pf, .int .i64 pd] 95 (0, 0)) := by rw [← hWa]; exact new_at (by simp)
  have c0 := blk_cell h0 0 rfl
  have d0 := blk_cell h1 0 rfl
  have d1 := blk_cell h1 1 rfl
  have HA := Lib.hid (And.intro hba (And.intro h0 h1))
  clear hba h0 h1
  go_enter Tryz.func119, Tryz.ntmps119
  go_wp2_with (fail)
  all_goals clear hWa c0 d0 d1
  all_goals (
    go_loopw [6, 7] (fun l d wr => ∃ (j : Nat) (left : Int), d = .int .i64 ((pf.toNat + j : Nat) : Int) ∧ j ≤ pd - pf.toNat ∧ l = .int .i64 left ∧ Hid (lackS store pf N M L pf.toNat stock j = some left) ∧ Hid (0 ≤ left ∧ left ≤ 1000000 + (j : Int) * 100000) ∧ Hid (Below Wa.heap.size Wa wr)) (fun _ d _ => pd - (intOf d).toNat)
    case atStart =>
      refine ⟨0, stock, ?_, Nat.zero_le _, rfl, rfl, ?_, Below.refl _ _⟩
      · first | rw [show ((pf.toNat + 0 : Nat) : Int) = 0 by omega] | rw [show ((pf.toNat + 0 : Nat) : Int) = pf by omega]
      · have := HS.out; exact ⟨this.1, by omega⟩
    case round =>
      obtain ⟨j, left, rfl, hj, rfl, hS, hlb, hbw⟩ := hrel
      have h0 := blk_below HA.out.2.1 hbw.out
      have h1 := blk_below HA.out.2.2 hbw.out
      have c0 := blk_cell h0 0 rfl
      have c1 := blk_cell h0 1 rfl
      have c2 := blk_cell h0 2 rfl
      have c3 := blk_cell h0 3 rfl
      have c4 := blk_cell h0 4 rfl
      have c5 := blk_cell h0 5 rfl
      have d0 := blk_cell h1 0 rfl
      have d1 := blk_cell h1 1 rfl
      have H01 := Lib.hid (And.intro h0 h1)
      clear h0 h1
      by_cases hlt : pf.toNat + j < pd
      · have hpn := HP.out
        have hnn := HN.out
        obtain ⟨hN, hM, hL, hNn, hMn, hLn⟩ := HH.out
        obtain ⟨bn, on, hab, hbn, hcn⟩ := hN (by omega)
        have HSUCC : Hid (lackS store pf N M L pf.toNat stock (j + 1) = if atMostL store pf M L (pf.toNat + j) left - N[pf.toNat + j]?.getD 0 < 0 then none else some (atMostL store pf M L (pf.toNat + j) left - N[pf.toNat + j]?.getD 0)) := by show _ = _; rw [lackS, hS.out]; rfl
        generalize hk : pf.toNat + j = k at hlt HSUCC ⊢
        have HK := Lib.hid hk
        have hkn : k < n := by omega
        have cN := ((HA.out.1.trans (hbw.out.mono HA.out.1.size)).cell (p := ⟨bn, on + k, none⟩) hbn).trans (hcn k (by omega))
        have bN : 0 ≤ N[k]?.getD 0 ∧ N[k]?.getD 0 ≤ 100000 := HB.out.1 _ (by rw [List.getElem?_eq_getElem (by omega)]; exact List.getElem_mem _)
        have bA : -100000 ≤ atMostL store pf M L k left ∧ atMostL store pf M L k left ≤ 1000000 + ((j : Int) + 1) * 100000 := by
          have b1 : 0 ≤ M[k]?.getD 0 ∧ M[k]?.getD 0 ≤ 100000 := HB.out.2.1 _ (by rw [List.getElem?_eq_getElem (by omega)]; exact List.getElem_mem _)
          have b2 : 0 ≤ L[k]?.getD 0 ∧ L[k]?.getD 0 ≤ 100000 := HB.out.2.2 _ (by rw [List.getElem?_eq_getElem (by omega)]; exact List.getElem_mem _)
          have b3 := hlb.out
          have b4 := HS.out
          unfold atMostL
          split
          · omega
          · split <;> omega
        have hjj : (j : Int) ≤ 60 := by omega
        have HLB : Hid (-1000000 ≤ left ∧ left ≤ 10000000) := by have := hlb.out; exact ⟨by omega, by omega⟩
        clear hcn hN hM hL hNn hMn hLn hk
        have HC := atMost_any stock store pf pd left k a n cap an cn am M cm al L cl
        have HCC := Lib.hid HC
        clear HC
        generalize hnk : N[k]?.getD 0 = nk at cN bN HSUCC
        generalize ham : atMostL store pf M L k left = ax at bA HSUCC
        have HAM := Lib.hid ham
        clear hnk ham
        have hw1 : IntKind.i64.wrap (ax - nk) = ax - nk := IntWalk.i64_in _ (by omega)
        subst hab
        have HBN : Hid (bn < wr.heap.size) := by have h1 := HA.out.1.size; have h2 := hbw.out.size; show bn < _; omega
        go_wp2_with (fail)
        go_region_held3 (fun w' => w'.cell? ⟨w.heap.size, 0, none⟩ = some (.int .i64 stock) ∧ w'.cell? ⟨w.heap.size, 1, none⟩ = some (.int .i64 store) ∧ w'.cell? ⟨w.heap.size, 2, none⟩ = some (.slice a n cap) ∧ w'.cell? ⟨w.heap.size, 3, none⟩ = some (.slice (some ⟨bn, on, none⟩) n cn) ∧ w'.cell? ⟨w.heap.size, 4, none⟩ = some (.slice am n cm) ∧ w'.cell? ⟨w.heap.size, 5, none⟩ = some (.slice al n cl) ∧ w'.cell? ⟨w.heap.size + 1, 0, none⟩ = some (.int .i64 pf) ∧ w'.cell? ⟨w.heap.size + 1, 1, none⟩ = some (.int .i64 pd) ∧ w'.cell? ⟨bn, on + k, none⟩ = some (.int .i64 nk)) (go_keep)
          (first | (go_at_call 168; refine (HCC.out _ (HH.out.2.1.below (HA.out.1.trans (hbw.out.mono HA.out.1.size)).drew) (HH.out.2.2.1.below (HA.out.1.trans (hbw.out.mono HA.out.1.size)).drew) HH.out.2.2.2.2.1 HH.out.2.2.2.2.2 hkn hnn HLB.out HB.out.2.1 HB.out.2.2).mono ?_; rintro e w5 ⟨rfl, hb5⟩; rw [HAM.out]; have hb5' : Below wr.heap.size wr w5 := ⟨hb5.os, hb5.tape, hb5.output, hb5.size, hb5.block⟩; have e0 := blk_cell (blk_below H01.out.1 hb5') 0 rfl; have e1 := blk_cell (blk_below H01.out.1 hb5') 1 rfl; have e2 := blk_cell (blk_below H01.out.1 hb5') 2 rfl; have e3 := blk_cell (blk_below H01.out.1 hb5') 3 rfl; have e4 := blk_cell (blk_below H01.out.1 hb5') 4 rfl; have e5 := blk_cell (blk_below H01.out.1 hb5') 5 rfl; have g0 := blk_cell (blk_below H01.out.2 hb5') 0 rfl; have g1 := blk_cell (blk_below H01.out.2 hb5') 1 rfl; have eN := (hb5'.cell (p := ⟨bn, on + k, none⟩) HBN.out).trans cN))
        have hk5 : Hid (Below Wa.heap.size Wa w5) := below_self hbw.out hb5'
        have HKN := Lib.hid hkn
        have HLT := Lib.hid hlt
        clear e0 e1 e2 e3 e4 e5 g0 g1 eN hb5 hb5' cN hw1 c0 c1 c2 c3 c4 c5 d0 d1
        by_cases hneg : ax - nk < 0
        · have HL : Hid (lackR stock store pf N M L pd = (0, false)) := by
            show _ = _
            rw [lackR, lackS_none _ _ _ _ _ _ _ (j + 1) (by rw [HSUCC.out, if_pos hneg]) _ (by have := HK.out; have := HLT.out; omega)]
          go_wp2
          refine bodyPost_ret (v := .tuple #[.int .i64 0, .bool false]) (by simp [results, Tryz.results119, go_sem]) rfl ?_
          exact ⟨by rw [HL.out], HA.out.1.trans (hk5.out.mono HA.out.1.size)⟩
        · have HS1 : Hid (lackS store pf N M L pf.toNat stock (j + 1) = some (ax - nk)) := by show _ = _; rw [HSUCC.out, if_neg hneg]
          have HB1 : Hid (0 ≤ ax - nk ∧ ax - nk ≤ 1000000 + ((j + 1 : Nat) : Int) * 100000) := ⟨by omega, by omega⟩
          clear hlt
          go_wp2
          go_roundw
          case rel => exact ⟨j + 1, ax - nk, by rw [show ((pf.toNat + (j + 1) : Nat) : Int) = (k : Int) + 1 by have := HK.out; omega], by have := HK.out; have := HLT.out; omega, rfl, HS1, HB1, hk5⟩
          case measure => have := HK.out; have := HLT.out; simp [intOf]; omega
      · have hpn := HP.out
        have hnn := HN.out
        have hjp : j = pd - pf.toNat := by omega
        obtain ⟨hN, hM, hL, hNn, hMn, hLn⟩ := HH.out
        obtain ⟨bn, on, hab, hbn, hcn⟩ := hN (by omega)
        have HR : Hid (lackR stock store pf N M L pd = (N[pd]?.getD 0 - atMostL store pf M L pd left, decide (0 < N[pd]?.getD 0 - atMostL store pf M L pd left))) := by show _ = _; rw [lackR, ← hjp, hS.out]
        have cN := ((HA.out.1.trans (hbw.out.mono HA.out.1.size)).cell (p := ⟨bn, on + pd, none⟩) hbn).trans (hcn pd (by omega))
        have bN : 0 ≤ N[pd]?.getD 0 ∧ N[pd]?.getD 0 ≤ 100000 := HB.out.1 _ (by rw [List.getElem?_eq_getElem (by omega)]; exact List.getElem_mem _)
        have bA : -100000 ≤ atMostL store pf M L pd left ∧ atMostL store pf M L pd left ≤ 1000000 + ((j : Int) + 1) * 100000 := by
          have b1 : 0 ≤ M[pd]?.getD 0 ∧ M[pd]?.getD 0 ≤ 100000 := HB.out.2.1 _ (by rw [List.getElem?_eq_getElem (by omega)]; exact List.getElem_mem _)
          have b2 : 0 ≤ L[pd]?.getD 0 ∧ L[pd]?.getD 0 ≤ 100000 := HB.out.2.2 _ (by rw [List.getElem?_eq_getElem (by omega)]; exact List.getElem_mem _)
          have b3 := hlb.out
          have b4 := HS.out
          unfold atMostL
          split
          · omega
          · split <;> omega
        have hjj : (j : Int) ≤ 60 := by omega
        have HLB : Hid (-1000000 ≤ left ∧ left ≤ 10000000) := by have := hlb.out; exact ⟨by omega, by omega⟩
        have hkn : pd < n := by omega
        clear hcn hN hM hL hNn hMn hLn hjp
        have HC := atMost_any stock store pf pd left pd a n cap an cn am M cm al L cl
        have HCC := Lib.hid HC
        clear HC
        generalize hnk : N[pd]?.getD 0 = nk at cN bN HR
        generalize ham : atMostL store pf M L pd left = ax at bA HR
        have HAM := Lib.hid ham
        clear hnk ham
        have hw1 : IntKind.i64.wrap (nk - ax) = nk - ax := IntWalk.i64_in _ (by omega)
        subst hab
        have HBN : Hid (bn < wr.heap.size) := by have h1 := HA.out.1.size; have h2 := hbw.out.size; show bn < _; omega
        go_wp2_with (fail)
        go_region_held3 (fun w' => w'.cell? ⟨w.heap.size, 0, none⟩ = some (.int .i64 stock) ∧ w'.cell? ⟨w.heap.size, 1, none⟩ = some (.int .i64 store) ∧ w'.cell? ⟨w.heap.size, 2, none⟩ = some (.slice a n cap) ∧ w'.cell? ⟨w.heap.size, 3, none⟩ = some (.slice (some ⟨bn, on, none⟩) n cn) ∧ w'.cell? ⟨w.heap.size, 4, none⟩ = some (.slice am n cm) ∧ w'.cell? ⟨w.heap.size, 5, none⟩ = some (.slice al n cl) ∧ w'.cell? ⟨w.heap.size + 1, 0, none⟩ = some (.int .i64 pf) ∧ w'.cell? ⟨w.heap.size + 1, 1, none⟩ = some (.int .i64 pd) ∧ w'.cell? ⟨bn, on + pd, none⟩ = some (.int .i64 nk)) (go_keep)
          (first | (go_at_call 168; refine (HCC.out _ (HH.out.2.1.below (HA.out.1.trans (hbw.out.mono HA.out.1.size)).drew) (HH.out.2.2.1.below (HA.out.1.trans (hbw.out.mono HA.out.1.size)).drew) HH.out.2.2.2.2.1 HH.out.2.2.2.2.2 hkn hnn HLB.out HB.out.2.1 HB.out.2.2).mono ?_; rintro e w5 ⟨rfl, hb5⟩; rw [HAM.out]; have hb5' : Below wr.heap.size wr w5 := ⟨hb5.os, hb5.tape, hb5.output, hb5.size, hb5.block⟩; have e0 := blk_cell (blk_below H01.out.1 hb5') 0 rfl; have e1 := blk_cell (blk_below H01.out.1 hb5') 1 rfl; have e2 := blk_cell (blk_below H01.out.1 hb5') 2 rfl; have e3 := blk_cell (blk_below H01.out.1 hb5') 3 rfl; have e4 := blk_cell (blk_below H01.out.1 hb5') 4 rfl; have e5 := blk_cell (blk_below H01.out.1 hb5') 5 rfl; have g0 := blk_cell (blk_below H01.out.2 hb5') 0 rfl; have g1 := blk_cell (blk_below H01.out.2 hb5') 1 rfl; have eN := (hb5'.cell (p := ⟨bn, on + pd, none⟩) HBN.out).trans cN))
        have hk5 : Hid (Below Wa.heap.size Wa w5) := below_self hbw.out hb5'
        clear e0 e1 e2 e3 e4 e5 g0 g1 eN hb5 hb5' cN hw1 c0 c1 c2 c3 c4 c5 d0 d1 hlt
        go_wp2
        refine bodyPost_ret (v := .tuple #[.int .i64 (nk - ax), .bool (decide (0 < nk - ax))]) (by simp [results, Tryz.results119, go_sem]) rfl ?_
        exact ⟨by rw [HR.out], HA.out.1.trans (hk5.out.mono HA.out.1.size)⟩)
end Go.Proofs.YtmebmcipmemofaaGreat

namespace Go.Proofs.YtmebmcipmemofaaGreat
open Go.RowKit Go.Shelf
attribute [local go_sem] Oper.semAt_some

def worstLack (stock store pf : Int) (ds : List Dy) (pd : Nat) : Int × Bool := lackR stock store pf (ds.map fun d => d.need.hi) (ds.map fun d => d.make.lo) (ds.map fun d => d.loss.hi) pd
def provesR (stock store : Int) (ds : List Dy) (pf pd : Int) : Int × Int :=
  if winE stock store ds = 0 then (if withinB pd 0 (ds.length - 1) = true then (if withinB pf (-1) pd = true then (if (worstLack stock store pf ds pd.toNat).2 = true then ((worstLack stock store pf ds pd.toNat).1, 0) else (0, 8)) else (0, 1)) else (0, 1)) else (0, winE stock store ds)

set_option maxRecDepth 100000 in
set_option maxHeartbeats 1000000 in
theorem proves_any (stock store pf pd : Int) (a : Option Addr) (ds : List Dy) (cap : Nat) (w : World) (hx : Sl 6 Dy.cells w a ds) (hl : ds.length ≤ 1000000) :
    Calls Tryz.prog 67 #[wv stock store a ds.length cap, .agg #[.int .i64 pf, .int .i64 pd]] w fun e w' => e = .returned (.tuple #[.int .i64 (provesR stock store ds pf pd).1, .int .i64 (provesR stock store ds pf pd).2]) ∧ Below w.heap.size w w' := by
  have HX := Lib.hid (And.intro hx hl)
  clear hx
  obtain ⟨Wa, hWa⟩ : ∃ Wa, (w.alloc (.cells #[.int .i64 stock, .int .i64 store, .slice a ds.length cap] 56)).alloc (.cells #[.int .i64 pf, .int .i64 pd] 95) = Wa := ⟨_, rfl⟩
  have hba : Below w.heap.size w Wa := by rw [← hWa]; exact ((Below.refl _ _).alloc (Nat.le_refl _) _).alloc (by simp) _
  have h0 : Wa.heap[w.heap.size]? = some (.cells #[.int .i64 stock, .int .i64 store, .slice a ds.length cap] 56 (0, 0)) := by rw [← hWa]; exact alk (new_at rfl)
  have h1 : Wa.heap[w.heap.size + 1]? = some (.cells #[.int .i64 pf, .int .i64 pd] 95 (0, 0)) := by rw [← hWa]; exact new_at (by simp)
  have a0 := blk_cell h0 0 rfl
  have a1 := blk_cell h0 1 rfl
  have a2 := blk_cell h0 2 rfl
  go_enter Tryz.func67, Tryz.ntmps67
  go_wp2_with (fail)
  clear hWa a0 a1 a2
  refine (checkWinter_any stock store a ds cap _ (HX.out.1.below hba) HX.out.2).mono ?_
  rintro e w1 ⟨rfl, hb1⟩
  have H1 := Lib.hid (And.intro (below_self hba hb1) (And.intro (blk_below h0 hb1) (blk_below h1 hb1)))
  clear hba h0 h1 hb1
  have c0 := blk_cell H1.out.2.1 0 rfl
  have c1 := blk_cell H1.out.2.1 1 rfl
  have c2 := blk_cell H1.out.2.1 2 rfl
  have d0 := blk_cell H1.out.2.2 0 rfl
  have d1 := blk_cell H1.out.2.2 1 rfl
  by_cases hw : winE stock store ds = 0
  · have hwb : (winE stock store ds != 0) = false := by simp [hw]
    have HW := Lib.hid hw
    clear hw
    cases q1 : withinB pd 0 (ds.length - 1)
    · have HR : Hid (provesR stock store ds pf pd = (0, 1)) := by show _ = _; rw [provesR, if_pos HW.out, q1]; rfl
      go_wp2_with (go_at_call 79; refine (within_any _ _ _ _).mono ?_; rintro e w' ⟨rfl, rfl⟩)
      refine bodyPost_ret (v := .tuple #[.int .i64 0, .int .i64 1]) (by simp [results, Tryz.results67, go_sem]) rfl ?_
      exact ⟨by rw [HR.out], H1.out.1⟩
    · cases q2 : withinB pf (-1) pd
      · have HR : Hid (provesR stock store ds pf pd = (0, 1)) := by show _ = _; rw [provesR, if_pos HW.out, q1, q2]; rfl
        go_wp2_with (go_at_call 79; refine (within_any _ _ _ _).mono ?_; rintro e w' ⟨rfl, rfl⟩)
        refine bodyPost_ret (v := .tuple #[.int .i64 0, .int .i64 1]) (by simp [results, Tryz.results67, go_sem]) rfl ?_
        exact ⟨by rw [HR.out], H1.out.1⟩
      · have HR : Hid (provesR stock store ds pf pd = (if (worstLack stock store pf ds pd.toNat).2 = true then ((worstLack stock store pf ds pd.toNat).1, 0) else (0, 8))) := by show _ = _; rw [provesR, if_pos HW.out, q1, q2]; rfl
        go_wp2_with (go_at_call 79; refine (within_any _ _ _ _).mono ?_; rintro e w' ⟨rfl, rfl⟩)
        have hq1 : 0 ≤ pd ∧ pd ≤ (ds.length : Int) - 1 := by simp [withinB] at q1; omega
        have hq2 : -1 ≤ pf ∧ pf ≤ pd := by simp [withinB] at q2; omega
        obtain ⟨p, rfl⟩ := Int.eq_ofNat_of_zero_le hq1.1
        have HQ : Hid (-1 ≤ pf ∧ pf ≤ (p : Int) ∧ p < ds.length) := ⟨hq2.1, hq2.2, by omega⟩
        have HD := win_ok HW.out
        have HDD := Lib.hid HD
        clear HD q1 q2 hq1 hq2
        go_region_held3 (fun w' => w'.cell? ⟨w.heap.size, 0, none⟩ = some (.int .i64 stock) ∧ w'.cell? ⟨w.heap.size, 1, none⟩ = some (.int .i64 store) ∧ w'.cell? ⟨w.heap.size, 2, none⟩ = some (.slice a ds.length cap) ∧ w'.cell? ⟨w.heap.size + 1, 0, none⟩ = some (.int .i64 pf) ∧ w'.cell? ⟨w.heap.size + 1, 1, none⟩ = some (.int .i64 p)) (go_keep)
          (first
            | (go_at_call 119; refine (lack_any stock store pf p a ds.length cap an _ cn am _ cm al _ cl _ H3.out.2.2.2.1 H3.out.2.2.2.2.1 H3.out.2.2.2.2.2 (by simp) (by simp) (by simp) HDD.out.2.1.2 ⟨HDD.out.1.1, HDD.out.1.2.1, HDD.out.1.2.2.2⟩ (worst_bd HDD.out.2.2) HQ.out).mono ?_; rintro e w4 ⟨rfl, hb4⟩; have H4 := Lib.hid (And.intro (below_self H3.out.1 hb4) (And.intro (blk_below H3.out.2.1 hb4) (And.intro (blk_below H3.out.2.2.1 hb4) trivial))); clear hb4 y0 y1 y2 y3 y4; have z0 := blk_cell H4.out.2.1 0 rfl; have z1 := blk_cell H4.out.2.1 1 rfl; have z2 := blk_cell H4.out.2.1 2 rfl; have z3 := blk_cell H4.out.2.2.1 0 rfl; have z4 := blk_cell H4.out.2.2.1 1 rfl)
            | (go_at_call 93; refine (spell_any 135 136 135 Sp.hi Sp.lo Sp.hi high_f low_f high_f stock store a ds cap _ (HX.out.1.below H2.out.1) HX.out.2).mono ?_; rintro e w3 ⟨⟨an, cn, am, cm, al, cl, rfl, hN, hM, hL, hb3⟩⟩; have H3 := Lib.hid (And.intro (below_self H2.out.1 hb3) (And.intro (blk_below H2.out.2.1 hb3) (And.intro (blk_below H2.out.2.2.1 hb3) (And.intro hN (And.intro hM hL))))); clear hb3 hN hM hL x0 x1 x2 x3 x4; have y0 := blk_cell H3.out.2.1 0 rfl; have y1 := blk_cell H3.out.2.1 1 rfl; have y2 := blk_cell H3.out.2.1 2 rfl; have y3 := blk_cell H3.out.2.2.1 0 rfl; have y4 := blk_cell H3.out.2.2.1 1 rfl)
            | (go_at_call 92; refine (worst_any _).mono ?_; rintro e w2 ⟨rfl, hb2⟩; have hb2' : Below w1.heap.size w1 w2 := ⟨hb2.os, hb2.tape, hb2.output, hb2.size, hb2.block⟩; have H2 := Lib.hid (And.intro (below_self H1.out.1 hb2') (And.intro (blk_below H1.out.2.1 hb2') (And.intro (blk_below H1.out.2.2 hb2') trivial))); clear hb2 hb2' c0 c1 c2 d0 d1; have x0 := blk_cell H2.out.2.1 0 rfl; have x1 := blk_cell H2.out.2.1 1 rfl; have x2 := blk_cell H2.out.2.1 2 rfl; have x3 := blk_cell H2.out.2.2.1 0 rfl; have x4 := blk_cell H2.out.2.2.1 1 rfl))
        all_goals (
          clear z0 z1 z2 z3 z4
          have HR2 : Hid (provesR stock store ds pf p = (if (worstLack stock store pf ds p).2 = true then ((worstLack stock store pf ds p).1, 0) else (0, 8))) := by show _ = _; rw [HR.out, Int.toNat_natCast]
          have hfold : lackR stock store pf (List.map (fun d => d.need.hi) ds) (List.map (fun d => d.make.lo) ds) (List.map (fun d => d.loss.hi) ds) p = worstLack stock store pf ds p := rfl
          rw [hfold]
          clear hfold
          generalize worstLack stock store pf ds p = lk at HR2 ⊢
          obtain ⟨x, b⟩ := lk
          cases b
          · have HR3 : Hid (provesR stock store ds pf p = (0, 8)) := HR2.out
            go_wp2
            refine bodyPost_ret (v := .tuple #[.int .i64 0, .int .i64 8]) (by simp [results, Tryz.results67, go_sem]) rfl ?_
            exact ⟨by rw [HR3.out], H4.out.1⟩
          · have HR3 : Hid (provesR stock store ds pf p = (x, 0)) := HR2.out
            go_wp2
            refine bodyPost_ret (v := .tuple #[.int .i64 x, .int .i64 0]) (by simp [results, Tryz.results67, go_sem]) rfl ?_
            exact ⟨by rw [HR3.out], H4.out.1⟩)
  · have hwb : (winE stock store ds != 0) = true := by simp [hw]
    have HR : Hid (provesR stock store ds pf pd = (0, winE stock store ds)) := by show _ = _; rw [provesR, if_neg hw]
    clear hw c0 c1 c2 d0 d1
    go_wp2
    refine bodyPost_ret (v := .tuple #[.int .i64 0, .int .i64 (winE stock store ds)]) (by simp [results, Tryz.results67, go_sem]) rfl ?_
    exact ⟨by rw [HR.out], H1.out.1⟩
end Go.Proofs.YtmebmcipmemofaaGreat

namespace Go.Proofs.YtmebmcipmemofaaGreat
open Go.RowKit Go.Shelf
attribute [local go_sem] Oper.semAt_some

/-- The least number that is enough, or n. -/
def LeastOf (n : Nat) (p : Nat → Bool) (r : Nat) : Prop := r ≤ n ∧ (∀ t, t < r → p t = false) ∧ (∀ t, r ≤ t → t < n → p t = true)

set_option maxHeartbeats 1000000 in
theorem search_any (n g : Nat) (lb : Array Value) (p : Nat → Bool) (w : World) (hn : n ≤ 2000000) (hm : ∀ s t, s ≤ t → t < n → p s = true → p t = true)
    (eg : ∀ args w, (callFunc g args).run Tryz.prog w = .ok (.enter g args) w)
    (hg : ∀ h : Nat, h < n → ∀ W, Below w.heap.size w W → Calls Tryz.prog g (#[.int .i64 h] ++ lb) W fun e W' => e = .returned (.bool (p h)) ∧ Below W.heap.size W W') :
    Calls Tryz.prog 170 #[.int .i64 n, .func (.func g) #[] lb] w fun e w' => (∃ r : Nat, e = .returned (.int .i64 r) ∧ LeastOf n p r) ∧ Below w.heap.size w w' := by
  have Hg := Lib.hid hg
  have Hm := Lib.hid hm
  clear hg hm
  go_enter Tryz.func170, Tryz.ntmps170
  go_wp2_with (fail)
  go_loopw [5, 6] (fun vi vj wr => ∃ i j : Nat, vi = .int .i64 i ∧ vj = .int .i64 j ∧ i ≤ j ∧ j ≤ n ∧ Hid ((∀ t, t < i → p t = false) ∧ (∀ t, j ≤ t → t < n → p t = true)) ∧ Below w.heap.size w wr) (fun vi vj _ => (intOf vj).toNat - (intOf vi).toNat)
  case atStart => exact ⟨0, n, rfl, rfl, Nat.zero_le _, Nat.le_refl _, ⟨fun t h => by omega, fun t h1 h2 => by omega⟩, Below.refl _ _⟩
  case round =>
    obtain ⟨i, j, rfl, rfl, hij, hjn, hinv, hbw⟩ := hrel
    by_cases hlt : i < j
    · go_upto_region 4 with (fail)
      obtain ⟨h, hh⟩ : ∃ h : Nat, ((i : Int) + (j : Int)) / 2 = (h : Int) := ⟨(i + j) / 2, by omega⟩
      rw [hh]
      have h1 : i ≤ h ∧ h < j := by omega
      clear hh
      go_wp2_with (fail)
      refine (Hg.out h (by omega) _ hbw).mono ?_
      rintro e w1 ⟨rfl, hb1⟩
      have hb2 := below_self hbw hb1
      cases hp : p h
      · have H2 : Hid ((∀ t, t < h + 1 → p t = false) ∧ (∀ t, j ≤ t → t < n → p t = true)) := ⟨fun t ht => Bool.eq_false_iff.2 (fun hq => by rw [Hm.out t h (by omega) (by omega) hq] at hp; simp at hp), hinv.out.2⟩
        clear hp hb1 hbw
        go_wp2
        go_roundw
        case rel => exact ⟨h + 1, j, by go_num, rfl, by omega, hjn, H2, hb2⟩
        case measure => simp [intOf]; omega
      · have H2 : Hid ((∀ t, t < i → p t = false) ∧ (∀ t, h ≤ t → t < n → p t = true)) := ⟨hinv.out.1, fun t h3 h4 => Hm.out h t h3 h4 hp⟩
        clear hp hb1 hbw
        go_wp2
        go_roundw
        case rel => exact ⟨i, h, rfl, rfl, h1.1, by omega, H2, hb2⟩
        case measure => simp [intOf]; omega
    · have : i = j := by omega
      subst this
      go_wp2
      go_ret
      exact ⟨⟨i, rfl, hjn, hinv.out.1, hinv.out.2⟩, hbw⟩
end Go.Proofs.YtmebmcipmemofaaGreat

namespace Go.Proofs.YtmebmcipmemofaaGreat
open Go.RowKit Go.Shelf
attribute [local go_sem] Oper.semAt_some

theorem eg137 : ∀ args w, (callFunc 171 args).run Tryz.prog w = .ok (.enter 171 args) w := enters_of Tryz.func171 (by kernel_rfl) rfl
theorem least1_any (lo : Int) (i g Be Bl : Nat) (lb : Array Value) (b : Bool) (w : World) (hb : -1000000000 ≤ lo ∧ lo ≤ 1000000000) (hi : i ≤ 2000000)
    (eg : ∀ args w, (callFunc g args).run Tryz.prog w = .ok (.enter g args) w)
    (he : w.cell? ⟨Be, 0, none⟩ = some (.func (.func g) #[] lb)) (hl : w.cell? ⟨Bl, 0, none⟩ = some (.int .i64 lo))
    (hg : Calls Tryz.prog g (#[.int .i64 (lo + i)] ++ lb) w fun e W' => e = .returned (.bool b) ∧ Below w.heap.size w W') :
    Calls Tryz.prog 171 #[.int .i64 i, .pointer (some ⟨Be, 0, none⟩), .pointer (some ⟨Bl, 0, none⟩)] w fun e w' => e = .returned (.bool b) ∧ Below w.heap.size w w' := by
  have Hg := Lib.hid hg
  clear hg
  go_enter Tryz.func171, Tryz.ntmps171
  go_wp2_with (fail)
  refine Hg.out.mono ?_
  rintro e w1 ⟨rfl, hb1⟩
  go_wp2
  go_ret
  exact ⟨rfl, hb1⟩

set_option maxHeartbeats 1000000 in
theorem least_any (lo hi : Int) (g : Nat) (lb : Array Value) (q : Int → Bool) (w : World) (hb : 0 ≤ lo ∧ lo ≤ hi ∧ hi ≤ 1000000)
    (eg : ∀ args w, (callFunc g args).run Tryz.prog w = .ok (.enter g args) w)
    (hm : ∀ s t, lo ≤ s → s ≤ t → t ≤ hi → q s = true → q t = true)
    (hg : ∀ v, lo ≤ v → v ≤ hi → ∀ W, Below w.heap.size w W → Calls Tryz.prog g (#[.int .i64 v] ++ lb) W fun e W' => e = .returned (.bool (q v)) ∧ Below W.heap.size W W') :
    Calls Tryz.prog 122 #[.int .i64 lo, .int .i64 hi, .func (.func g) #[] lb] w fun e w' => (∃ r : Nat, LeastOf (hi - lo + 1).toNat (fun t => q (lo + t)) r ∧ e = .returned (if lo + r ≤ hi then .tuple #[.int .i64 (lo + r), .int .i64 0] else .tuple #[.int .i64 0, .int .i64 6])) ∧ Below w.heap.size w w' := by
  have Hg := Lib.hid hg
  have Hm := Lib.hid hm
  clear hg hm
  obtain ⟨Wa, hWa⟩ : ∃ Wa, (w.alloc (.cells #[.int .i64 lo] 3)).alloc (.cells #[.func (.func g) #[] lb] 136) = Wa := ⟨_, rfl⟩
  have hba : Below w.heap.size w Wa := by rw [← hWa]; exact ((Below.refl _ _).alloc (Nat.le_refl _) _).alloc (by simp) _
  have h0 : Wa.heap[w.heap.size]? = some (.cells #[.int .i64 lo] 3 (0, 0)) := by rw [← hWa]; exact alk (new_at rfl)
  have h1 : Wa.heap[w.heap.size + 1]? = some (.cells #[.func (.func g) #[] lb] 136 (0, 0)) := by rw [← hWa]; exact new_at (by simp)
  have c0 := blk_cell h0 0 rfl
  obtain ⟨n, hn⟩ : ∃ n : Nat, hi - lo + 1 = (n : Int) := ⟨(hi - lo + 1).toNat, by omega⟩
  have HA := Lib.hid (And.intro hba (And.intro h0 h1))
  clear hba h0 h1
  go_enter Tryz.func122, Tryz.ntmps122
  go_wp2_with (fail)
  have HMN : Hid (∀ s t : Nat, s ≤ t → t < n → q (lo + s) = true → q (lo + t) = true) := fun s t h1 h2 h3 => Hm.out _ _ (by omega) (by omega) (by omega) h3
  have hw1 : IntKind.i64.wrap (hi - lo) = hi - lo := IntWalk.i64_in _ (by omega)
  have hw2 : IntKind.i64.wrap (hi - lo + 1) = (n : Int) := by rw [hn]; exact IntWalk.i64_in _ (by omega)
  have hn1 : n ≤ 1000001 := by omega
  have HNN := Lib.hid hn
  have HBD := Lib.hid hb
  clear hn
  go_region_held3 (fun w' => w'.cell? ⟨w.heap.size, 0, none⟩ = some (.int .i64 lo)) (go_keep)
    (first
      | (go_at_call 170; refine (search_any n 171 #[.pointer (some ⟨w.heap.size + 1, 0, none⟩), .pointer (some ⟨w.heap.size, 0, none⟩)] (fun t => q (lo + t)) _ (by omega) HMN.out eg137 (fun h hh W hW => least1_any lo h g (w.heap.size + 1) w.heap.size lb _ W (by omega) (by omega) eg (blk_cell (blk_below (w := Wa.drew) HA.out.2.2 hW) 0 rfl) (blk_cell (blk_below (w := Wa.drew) HA.out.2.1 hW) 0 rfl) (Hg.out _ (by omega) (by have := HNN.out; omega) W (below_self HA.out.1.drew hW)))).mono ?_; rintro e w1 ⟨⟨r, rfl, hr⟩, hb1⟩; have hb1' : Below Wa.heap.size Wa w1 := ⟨hb1.os, hb1.tape, hb1.output, hb1.size, hb1.block⟩; have e0 := blk_cell (blk_below HA.out.2.1 hb1') 0 rfl; have hrn := hr.1; have hw3 : IntKind.i64.wrap (lo + r) = lo + r := IntWalk.i64_in _ (by omega)))
  all_goals (
    have HR := Lib.hid hr
    have HB1 : Hid (Below w.heap.size w w1) := below_self HA.out.1 hb1'
    have HLE : Hid (LeastOf (hi - lo + 1).toNat (fun t => q (lo + t)) r) := by show LeastOf _ _ _; rw [HNN.out, Int.toNat_natCast]; exact HR.out
    clear hr hb1 hb1' e0 hw1 hw2
    by_cases hgt : lo + (r : Int) ≤ hi
    · go_wp2
      refine bodyPost_ret (v := .tuple #[.int .i64 (lo + r), .int .i64 0]) (by simp [results, Tryz.results122, go_sem]) rfl ?_
      exact ⟨⟨r, HLE.out, by rw [if_pos hgt]⟩, HB1.out⟩
    · go_wp2
      refine bodyPost_ret (v := .tuple #[.int .i64 0, .int .i64 6]) (by simp [results, Tryz.results122, go_sem]) rfl ?_
      exact ⟨⟨r, HLE.out, by rw [if_neg (by omega)]⟩, HB1.out⟩)
end Go.Proofs.YtmebmcipmemofaaGreat

namespace Go.Proofs.YtmebmcipmemofaaGreat
open Go.RowKit Go.Shelf

theorem playL_more {st S st' S' : Int} {N M L : List Int} (h1 : st ≤ st') (h2 : S ≤ S') (h3 : 0 ≤ st ∧ st ≤ S) (h4 : st' ≤ S') (hM : ∀ k : Nat, 0 ≤ M[k]?.getD 0) (hL : ∀ k : Nat, 0 ≤ L[k]?.getD 0) (hN : ∀ k : Nat, 0 ≤ N[k]?.getD 0) (k : Nat) :
    (playL st S N M L k).fails = -1 → (playL st' S' N M L k).fails = -1 ∧ (playL st S N M L k).stock ≤ (playL st' S' N M L k).stock ∧ 0 ≤ (playL st S N M L k).stock ∧ (playL st S N M L k).stock ≤ S ∧ (playL st' S' N M L k).stock ≤ S' := by
  induction k with
  | zero => intro _; exact ⟨rfl, h1, h3.1, h3.2, h4⟩
  | succ k ih =>
    intro h
    rw [playL_succ] at h
    rw [playL_succ, playL_succ]
    have m := hM k
    have l := hL k
    have n := hN k
    generalize playL st S N M L k = a at ih h ⊢
    generalize playL st' S' N M L k = b at ih ⊢
    generalize M[k]?.getD 0 = mk at *
    generalize L[k]?.getD 0 = lk at *
    generalize N[k]?.getD 0 = nk at *
    by_cases hf : a.fails = -1
    · obtain ⟨i1, i2, i3, i4, i5⟩ := ih hf
      by_cases hc : a.stock + (madeD S a.stock mk lk - lostD a.stock lk) < nk
      · rw [show stepP S a k nk mk lk = ⟨a.stock, a.stocks, a.made, k, if madeD S a.stock mk lk < mk then k else a.full⟩ by rw [stepP, if_pos hf, if_pos hc]] at h
        exact absurd h (by show (k : Int) ≠ -1; omega)
      · have e1 : a.stock + (madeD S a.stock mk lk - lostD a.stock lk) ≤ b.stock + (madeD S' b.stock mk lk - lostD b.stock lk) ∧ a.stock + (madeD S a.stock mk lk - lostD a.stock lk) ≤ S ∧ b.stock + (madeD S' b.stock mk lk - lostD b.stock lk) ≤ S' := by
          unfold madeD lostD; omega
        rw [show stepP S a k nk mk lk = ⟨a.stock + (madeD S a.stock mk lk - lostD a.stock lk) - nk, a.stocks ++ [a.stock + (madeD S a.stock mk lk - lostD a.stock lk) - nk], a.made ++ [madeD S a.stock mk lk], -1, if madeD S a.stock mk lk < mk then k else a.full⟩ by rw [stepP, if_pos hf, if_neg hc],
          show stepP S' b k nk mk lk = ⟨b.stock + (madeD S' b.stock mk lk - lostD b.stock lk) - nk, b.stocks ++ [b.stock + (madeD S' b.stock mk lk - lostD b.stock lk) - nk], b.made ++ [madeD S' b.stock mk lk], -1, if madeD S' b.stock mk lk < mk then k else b.full⟩ by rw [stepP, if_pos i1, if_neg (by omega)]]
        refine ⟨rfl, ?_, ?_, ?_, ?_⟩
        · show _ - nk ≤ _ - nk; omega
        · show 0 ≤ _ - nk; omega
        · show _ - nk ≤ S; omega
        · show _ - nk ≤ S'; omega
    · rw [stepP, if_neg hf] at h
      exact absurd h hf
theorem getD_nn {xs : List Int} (h : ∀ x ∈ xs, 0 ≤ x ∧ x ≤ 100000) (k : Nat) : 0 ≤ xs[k]?.getD 0 := by
  cases hx : xs[k]? with
  | none => exact Int.le_refl _
  | some x => exact (h x (List.mem_of_getElem? hx)).1
/-- More stock and more room: no day fails that did not. -/
theorem worst_more {st S st' S' : Int} {ds : List Dy} (hd : ∀ d ∈ ds, DayOk d) (h1 : st ≤ st') (h2 : S ≤ S') (h3 : 0 ≤ st ∧ st ≤ S) (h4 : st' ≤ S') (h : (worstL st S ds).fails = -1) : (worstL st' S' ds).fails = -1 :=
  (playL_more h1 h2 h3 h4 (getD_nn (worst_bd hd).2.1) (getD_nn (worst_bd hd).2.2) (getD_nn (worst_bd hd).1) ds.length h).1
end Go.Proofs.YtmebmcipmemofaaGreat

namespace Go.Proofs.YtmebmcipmemofaaGreat
open Go.RowKit Go.Shelf
attribute [local go_sem] Oper.semAt_some

theorem eg97 : ∀ args w, (callFunc 123 args).run Tryz.prog w = .ok (.enter 123 args) w := enters_of Tryz.func123 (by kernel_rfl) rfl
theorem eg100 : ∀ args w, (callFunc 125 args).run Tryz.prog w = .ok (.enter 125 args) w := enters_of Tryz.func125 (by kernel_rfl) rfl

theorem least97_any (v stock store : Int) (a : Option Addr) (ds : List Dy) (cap B : Nat) (w : World) (hx : Sl 6 Dy.cells w a ds) (hn : ds.length ≤ 60) (hst : 0 ≤ v ∧ v ≤ store ∧ store ≤ 1000000) (hd : ∀ d ∈ ds, DayOk d)
    (hB : w.heap[B]? = some (.cells #[.int .i64 stock, .int .i64 store, .slice a ds.length cap] 56 (0, 0))) :
    Calls Tryz.prog 123 #[.int .i64 v, .pointer (some ⟨B, 0, none⟩)] w fun e w' => e = .returned (.bool ((worstL v store ds).fails == -1)) ∧ Below w.heap.size w w' := by
  have HL := Lib.hid (lasts_any v store stock store a ds cap w hx hn hst hd)
  have c0 := blk_cell hB 0 rfl
  have c1 := blk_cell hB 1 rfl
  have c2 := blk_cell hB 2 rfl
  clear hx hn hst hd hB
  go_enter Tryz.func123, Tryz.ntmps123
  go_wp2_with (fail)
  refine HL.out.mono ?_
  rintro e w1 ⟨rfl, hb1⟩
  go_wp2
  go_ret
  exact ⟨rfl, hb1⟩
theorem room100_any (v stock store : Int) (a : Option Addr) (ds : List Dy) (cap B : Nat) (w : World) (hx : Sl 6 Dy.cells w a ds) (hn : ds.length ≤ 60) (hst : 0 ≤ stock ∧ stock ≤ v ∧ v ≤ 1000000) (hd : ∀ d ∈ ds, DayOk d)
    (hB : w.heap[B]? = some (.cells #[.int .i64 stock, .int .i64 store, .slice a ds.length cap] 56 (0, 0))) :
    Calls Tryz.prog 125 #[.int .i64 v, .pointer (some ⟨B, 0, none⟩)] w fun e w' => e = .returned (.bool ((worstL stock v ds).fails == -1)) ∧ Below w.heap.size w w' := by
  have HL := Lib.hid (lasts_any stock v stock store a ds cap w hx hn hst hd)
  have c0 := blk_cell hB 0 rfl
  have c1 := blk_cell hB 1 rfl
  have c2 := blk_cell hB 2 rfl
  clear hx hn hst hd hB
  go_enter Tryz.func125, Tryz.ntmps125
  go_wp2_with (fail)
  refine HL.out.mono ?_
  rintro e w1 ⟨rfl, hb1⟩
  go_wp2
  go_ret
  exact ⟨rfl, hb1⟩

/-- What Least hands back. -/
def OutLeast (lo hi : Int) (q : Int → Bool) (e : Ending) : Prop := ∃ r : Nat, LeastOf (hi - lo + 1).toNat (fun t => q (lo + t)) r ∧ e = .returned (if lo + r ≤ hi then .tuple #[.int .i64 (lo + r), .int .i64 0] else .tuple #[.int .i64 0, .int .i64 6])

def OutLeastW (w : World) (stock store : Int) (ds : List Dy) (lo hi : Int) (q : Int → Bool) (e : Ending) (w' : World) : Prop :=
  (if winE stock store ds = 0 then OutLeast lo hi q e else e = .returned (.tuple #[.int .i64 0, .int .i64 (winE stock store ds)])) ∧ Below w.heap.size w w'

set_option maxHeartbeats 1000000 in
theorem Least_any (stock store : Int) (a : Option Addr) (ds : List Dy) (cap : Nat) (w : World) (hx : Sl 6 Dy.cells w a ds) (hl : ds.length ≤ 1000000) :
    Calls Tryz.prog 70 #[wv stock store a ds.length cap] w (OutLeastW w stock store ds 0 store (fun v => (worstL v store ds).fails == -1)) := by
  have HX := Lib.hid (And.intro hx hl)
  clear hx hl
  obtain ⟨Wa, hWa⟩ : ∃ Wa, w.alloc (.cells #[.int .i64 stock, .int .i64 store, .slice a ds.length cap] 56) = Wa := ⟨_, rfl⟩
  have hba : Below w.heap.size w Wa := by rw [← hWa]; exact (Below.refl _ _).alloc (Nat.le_refl _) _
  have h0 : Wa.heap[w.heap.size]? = some (.cells #[.int .i64 stock, .int .i64 store, .slice a ds.length cap] 56 (0, 0)) := by rw [← hWa]; exact new_at rfl
  have a0 := blk_cell h0 0 rfl
  have a1 := blk_cell h0 1 rfl
  have a2 := blk_cell h0 2 rfl
  go_enter Tryz.func70, Tryz.ntmps70
  go_wp2_with (fail)
  clear hWa a0 a1 a2
  refine (checkWinter_any stock store a ds cap _ (HX.out.1.below hba) HX.out.2).mono ?_
  rintro e w1 ⟨rfl, hb1⟩
  have H1 := Lib.hid (And.intro (below_self hba hb1) (blk_below h0 hb1))
  clear hba h0 hb1
  have c0 := blk_cell H1.out.2 0 rfl
  have c1 := blk_cell H1.out.2 1 rfl
  have c2 := blk_cell H1.out.2 2 rfl
  by_cases hw : winE stock store ds = 0
  · have hwb : (winE stock store ds != 0) = false := by simp [hw]
    have HW := Lib.hid hw
    clear hw
    obtain ⟨b1, b2, b3⟩ := win_ok HW.out
    have HOK := Lib.hid (And.intro b1 (And.intro b2 b3))
    clear b1 b2 b3
    go_wp2_with (fail)
    refine (least_any 0 store 123 #[.pointer (some ⟨w.heap.size, 0, none⟩)] (fun v => (worstL v store ds).fails == -1) w1 ⟨by omega, by have := HOK.out.1; omega, HOK.out.1.2.2.2⟩ eg97 (fun s t h1 h2 h3 hq => by simp only [beq_iff_eq] at hq ⊢; exact worst_more HOK.out.2.2 h2 (Int.le_refl _) ⟨h1, by omega⟩ h3 hq) (fun v h1 h2 W hW => least97_any v stock store a ds cap w.heap.size W (HX.out.1.below (below_self H1.out.1 hW)) HOK.out.2.1.2 ⟨h1, h2, HOK.out.1.2.2.2⟩ HOK.out.2.2 (blk_below H1.out.2 hW))).mono ?_
    rintro e w2 ⟨⟨r, hr, rfl⟩, hb2⟩
    have HR := Lib.hid hr
    have HB2 := Lib.hid (below_self H1.out.1 hb2)
    clear hr hb2 c0 c1 c2
    by_cases hle : (0 : Int) + (r : Int) ≤ store
    · rw [if_pos hle]
      have HLE := Lib.hid hle
      clear hle
      go_wp2
      refine bodyPost_ret (v := .tuple #[.int .i64 (0 + r), .int .i64 0]) (by simp [results, Tryz.results70, go_sem]) rfl ?_
      exact ⟨by rw [if_pos HW.out]; exact ⟨r, HR.out, by rw [if_pos HLE.out]⟩, HB2.out⟩
    · rw [if_neg hle]
      have HLE := Lib.hid hle
      clear hle
      go_wp2
      refine bodyPost_ret (v := .tuple #[.int .i64 0, .int .i64 6]) (by simp [results, Tryz.results70, go_sem]) rfl ?_
      exact ⟨by rw [if_pos HW.out]; exact ⟨r, HR.out, by rw [if_neg (by have := HLE.out; omega)]⟩, HB2.out⟩
  · have hwb : (winE stock store ds != 0) = true := by simp [hw]
    have HW := Lib.hid hw
    clear hw c0 c1 c2
    go_wp2
    refine bodyPost_ret (v := .tuple #[.int .i64 0, .int .i64 (winE stock store ds)]) (by simp [results, Tryz.results70, go_sem]) rfl ?_
    exact ⟨by rw [if_neg HW.out], H1.out.1⟩
end Go.Proofs.YtmebmcipmemofaaGreat

namespace Go.Proofs.YtmebmcipmemofaaGreat
open Go.RowKit Go.Shelf
attribute [local go_sem] Oper.semAt_some

def roomLo (stock : Int) : Int := if stock < 1 then 1 else stock

set_option maxRecDepth 100000 in
set_option maxHeartbeats 1000000 in
theorem Room_any (stock store : Int) (a : Option Addr) (ds : List Dy) (cap : Nat) (w : World) (hx : Sl 6 Dy.cells w a ds) (hl : ds.length ≤ 1000000) :
    Calls Tryz.prog 71 #[wv stock store a ds.length cap] w (OutLeastW w stock store ds (roomLo stock) 1000000 (fun v => (worstL stock v ds).fails == -1)) := by
  have HX := Lib.hid (And.intro hx hl)
  clear hx hl
  obtain ⟨Wa, hWa⟩ : ∃ Wa, w.alloc (.cells #[.int .i64 stock, .int .i64 store, .slice a ds.length cap] 56) = Wa := ⟨_, rfl⟩
  have hba : Below w.heap.size w Wa := by rw [← hWa]; exact (Below.refl _ _).alloc (Nat.le_refl _) _
  have h0 : Wa.heap[w.heap.size]? = some (.cells #[.int .i64 stock, .int .i64 store, .slice a ds.length cap] 56 (0, 0)) := by rw [← hWa]; exact new_at rfl
  have a0 := blk_cell h0 0 rfl
  have a1 := blk_cell h0 1 rfl
  have a2 := blk_cell h0 2 rfl
  go_enter Tryz.func71, Tryz.ntmps71
  go_wp2_with (fail)
  clear hWa a0 a1 a2
  refine (checkWinter_any stock store a ds cap _ (HX.out.1.below hba) HX.out.2).mono ?_
  rintro e w1 ⟨rfl, hb1⟩
  have H1 := Lib.hid (And.intro (below_self hba hb1) (blk_below h0 hb1))
  clear hba h0 hb1
  have c0 := blk_cell H1.out.2 0 rfl
  have c1 := blk_cell H1.out.2 1 rfl
  have c2 := blk_cell H1.out.2 2 rfl
  by_cases hw : winE stock store ds = 0
  · have hwb : (winE stock store ds != 0) = false := by simp [hw]
    have HW := Lib.hid hw
    clear hw
    obtain ⟨b1, b2, b3⟩ := win_ok HW.out
    have HOK := Lib.hid (And.intro b1 (And.intro b2 b3))
    clear b1 b2 b3
    by_cases hs1 : stock < 1
    · have HS := Lib.hid hs1
      go_wp2_with (fail)
      refine (least_any 1 1000000 125 #[.pointer (some ⟨w.heap.size, 0, none⟩)] (fun v => (worstL stock v ds).fails == -1) w1 ⟨by have := HOK.out.1; omega, by have := HOK.out.1; omega, Int.le_refl _⟩ eg100 (fun s t h1 h2 h3 hq => by simp only [beq_iff_eq] at hq ⊢; have h := HOK.out.1; have h' := HS.out; exact worst_more HOK.out.2.2 (Int.le_refl _) h2 ⟨h.1, by omega⟩ (by omega) hq) (fun v h1 h2 W hW => room100_any v stock store a ds cap w.heap.size W (HX.out.1.below (below_self H1.out.1 hW)) HOK.out.2.1.2 ⟨HOK.out.1.1, by have h' := HS.out; omega, h2⟩ HOK.out.2.2 (blk_below H1.out.2 hW))).mono ?_
      rintro e w2 ⟨⟨r, hr, rfl⟩, hb2⟩
      have HR := Lib.hid hr
      have HB2 := Lib.hid (below_self H1.out.1 hb2)
      clear hr hb2 c0 c1 c2 hs1
      by_cases hle : (1 : Int) + (r : Int) ≤ 1000000
      · rw [if_pos hle]
        have HLE := Lib.hid hle
        clear hle
        go_wp2
        refine bodyPost_ret (v := .tuple #[.int .i64 (1 + r), .int .i64 0]) (by simp [results, Tryz.results71, go_sem]) rfl ?_
        exact ⟨by rw [if_pos HW.out, show roomLo stock = 1 from if_pos HS.out]; exact ⟨r, HR.out, by rw [if_pos (by have := HLE.out; omega)]⟩, HB2.out⟩
      · rw [if_neg hle]
        have HLE := Lib.hid hle
        clear hle
        go_wp2
        refine bodyPost_ret (v := .tuple #[.int .i64 0, .int .i64 6]) (by simp [results, Tryz.results71, go_sem]) rfl ?_
        exact ⟨by rw [if_pos HW.out, show roomLo stock = 1 from if_pos HS.out]; exact ⟨r, HR.out, by rw [if_neg (by have := HLE.out; omega)]⟩, HB2.out⟩
    · have HS := Lib.hid hs1
      go_wp2_with (fail)
      refine (least_any stock 1000000 125 #[.pointer (some ⟨w.heap.size, 0, none⟩)] (fun v => (worstL stock v ds).fails == -1) w1 ⟨by have := HOK.out.1; omega, by have := HOK.out.1; omega, Int.le_refl _⟩ eg100 (fun s t h1 h2 h3 hq => by simp only [beq_iff_eq] at hq ⊢; have h := HOK.out.1; have h' := HS.out; exact worst_more HOK.out.2.2 (Int.le_refl _) h2 ⟨h.1, by omega⟩ (by omega) hq) (fun v h1 h2 W hW => room100_any v stock store a ds cap w.heap.size W (HX.out.1.below (below_self H1.out.1 hW)) HOK.out.2.1.2 ⟨HOK.out.1.1, by have h' := HS.out; omega, h2⟩ HOK.out.2.2 (blk_below H1.out.2 hW))).mono ?_
      rintro e w2 ⟨⟨r, hr, rfl⟩, hb2⟩
      have HR := Lib.hid hr
      have HB2 := Lib.hid (below_self H1.out.1 hb2)
      clear hr hb2 c0 c1 c2 hs1
      by_cases hle : stock + (r : Int) ≤ 1000000
      · rw [if_pos hle]
        have HLE := Lib.hid hle
        clear hle
        go_wp2
        refine bodyPost_ret (v := .tuple #[.int .i64 (stock + r), .int .i64 0]) (by simp [results, Tryz.results71, go_sem]) rfl ?_
        exact ⟨by rw [if_pos HW.out, show roomLo stock = stock from if_neg (by have := HS.out; omega)]; exact ⟨r, HR.out, by rw [if_pos (by have := HLE.out; omega)]⟩, HB2.out⟩
      · rw [if_neg hle]
        have HLE := Lib.hid hle
        clear hle
        go_wp2
        refine bodyPost_ret (v := .tuple #[.int .i64 0, .int .i64 6]) (by simp [results, Tryz.results71, go_sem]) rfl ?_
        exact ⟨by rw [if_pos HW.out, show roomLo stock = stock from if_neg (by have := HS.out; omega)]; exact ⟨r, HR.out, by rw [if_neg (by have := HLE.out; omega)]⟩, HB2.out⟩
  · have hwb : (winE stock store ds != 0) = true := by simp [hw]
    have HW := Lib.hid hw
    clear hw c0 c1 c2
    go_wp2
    refine bodyPost_ret (v := .tuple #[.int .i64 0, .int .i64 (winE stock store ds)]) (by simp [results, Tryz.results71, go_sem]) rfl ?_
    exact ⟨by rw [if_neg HW.out], H1.out.1⟩
end Go.Proofs.YtmebmcipmemofaaGreat

namespace Go.Proofs.YtmebmcipmemofaaGreat
open Go.RowKit Go.Shelf

/-- How many days are told of. -/
theorem play_len (st S : Int) (N M L : List Int) (k : Nat) :
    ((playL st S N M L k).fails = -1 ∧ (playL st S N M L k).stocks.length = k ∧ (playL st S N M L k).made.length = k) ∨ (∃ d : Nat, (playL st S N M L k).fails = d ∧ (playL st S N M L k).stocks.length = d ∧ (playL st S N M L k).made.length = d ∧ d < k) := by
  induction k with
  | zero => left; exact ⟨rfl, rfl, rfl⟩
  | succ k ih =>
    rw [playL_succ]
    generalize playL st S N M L k = a at ih ⊢
    rcases ih with ⟨h1, h2, h3⟩ | ⟨d, h1, h2, h3, h4⟩
    · rw [stepP, if_pos h1]
      split
      · right; exact ⟨k, rfl, h2, h3, by omega⟩
      · left; exact ⟨rfl, by simp [h2], by simp [h3]⟩
    · right
      rw [stepP, if_neg (by omega)]
      exact ⟨d, h1, h2, h3, by omega⟩

theorem getD_snoc {xs : List Int} {x : Int} {j : Nat} : (xs ++ [x])[j]?.getD 0 = if j < xs.length then xs[j]?.getD 0 else if j = xs.length then x else 0 := by
  split
  · rw [List.getElem?_append_left (by assumption)]
  · split
    · rename_i h; subst h; simp
    · rw [List.getElem?_eq_none (by simp; omega)]; rfl

structure Less (S S' : Int) (a b : Ps) : Prop where
  run : a.fails = -1 → b.fails = -1 ∧ a.stock ≤ b.stock ∧ 0 ≤ a.stock ∧ a.stock ≤ S ∧ b.stock ≤ S'
  len : a.stocks.length ≤ b.stocks.length
  at' : ∀ j : Nat, j < a.stocks.length → a.stocks[j]?.getD 0 ≤ b.stocks[j]?.getD 0
  day : b.fails = -1 ∨ (0 ≤ a.fails ∧ a.fails ≤ b.fails)

theorem playL_less {st S st' S' : Int} {N M L N' M' L' : List Int} (h1 : st ≤ st') (h2 : S ≤ S') (h3 : 0 ≤ st ∧ st ≤ S) (h4 : st' ≤ S') (hM : ∀ k : Nat, 0 ≤ M[k]?.getD 0 ∧ M[k]?.getD 0 ≤ M'[k]?.getD 0) (hL : ∀ k : Nat, 0 ≤ L'[k]?.getD 0 ∧ L'[k]?.getD 0 ≤ L[k]?.getD 0) (hN : ∀ k : Nat, 0 ≤ N'[k]?.getD 0 ∧ N'[k]?.getD 0 ≤ N[k]?.getD 0) (k : Nat) :
    Less S S' (playL st S N M L k) (playL st' S' N' M' L' k) := by
  induction k with
  | zero => exact ⟨fun _ => ⟨rfl, h1, h3.1, h3.2, h4⟩, Nat.le_refl _, fun j hj => by simp [playL] at hj, .inl rfl⟩
  | succ k ih =>
    have la := play_len st S N M L k
    have lb := play_len st' S' N' M' L' k
    rw [playL_succ, playL_succ]
    have m := hM k
    have l := hL k
    have n := hN k
    generalize playL st S N M L k = a at ih la ⊢
    generalize playL st' S' N' M' L' k = b at ih lb ⊢
    generalize M[k]?.getD 0 = mk at *
    generalize L[k]?.getD 0 = lk at *
    generalize N[k]?.getD 0 = nk at *
    generalize M'[k]?.getD 0 = mk' at *
    generalize L'[k]?.getD 0 = lk' at *
    generalize N'[k]?.getD 0 = nk' at *
    obtain ⟨i1, i2, i3, i4⟩ := ih
    by_cases hf : a.fails = -1
    · obtain ⟨r1, r2, r3, r4, r5⟩ := i1 hf
      have la' : a.stocks.length = k := by rcases la with h | ⟨d, h, _⟩ <;> omega
      have lb' : b.stocks.length = k := by rcases lb with h | ⟨d, h, _⟩ <;> omega
      have e1 : a.stock + (madeD S a.stock mk lk - lostD a.stock lk) ≤ b.stock + (madeD S' b.stock mk' lk' - lostD b.stock lk') ∧ a.stock + (madeD S a.stock mk lk - lostD a.stock lk) ≤ S ∧ b.stock + (madeD S' b.stock mk' lk' - lostD b.stock lk') ≤ S' := by
        unfold madeD lostD; omega
      by_cases ca : a.stock + (madeD S a.stock mk lk - lostD a.stock lk) < nk
      · by_cases cb : b.stock + (madeD S' b.stock mk' lk' - lostD b.stock lk') < nk'
        · rw [stepP, if_pos hf, if_pos ca, stepP, if_pos r1, if_pos cb]
          exact ⟨fun h => absurd h (by show (k : Int) ≠ -1; omega), by show a.stocks.length ≤ b.stocks.length; omega, i3, .inr ⟨by show 0 ≤ (k : Int); omega, by show (k : Int) ≤ k; omega⟩⟩
        · rw [stepP, if_pos hf, if_pos ca, stepP, if_pos r1, if_neg cb]
          refine ⟨fun h => absurd h (by show (k : Int) ≠ -1; omega), ?_, ?_, .inl rfl⟩
          · show a.stocks.length ≤ (b.stocks ++ _).length; simp; omega
          · intro j hj
            show a.stocks[j]?.getD 0 ≤ (b.stocks ++ _)[j]?.getD 0
            rw [getD_snoc, if_pos (by have : j < a.stocks.length := hj; omega)]
            exact i3 j hj
      · have cb : ¬ (b.stock + (madeD S' b.stock mk' lk' - lostD b.stock lk') < nk') := by omega
        rw [stepP, if_pos hf, if_neg ca, stepP, if_pos r1, if_neg cb]
        refine ⟨fun _ => ⟨rfl, ?_, ?_, ?_, ?_⟩, ?_, ?_, .inl rfl⟩
        · show _ - nk ≤ _ - nk'; omega
        · show 0 ≤ _ - nk; omega
        · show _ - nk ≤ S; omega
        · show _ - nk' ≤ S'; omega
        · show (a.stocks ++ _).length ≤ (b.stocks ++ _).length; simp; omega
        · intro j hj
          have hj' : j < k + 1 := by have : j < (a.stocks ++ [_]).length := hj; simp at this; omega
          show (a.stocks ++ _)[j]?.getD 0 ≤ (b.stocks ++ _)[j]?.getD 0
          rw [getD_snoc, getD_snoc, la', lb']
          by_cases hjk : j < k
          · rw [if_pos hjk, if_pos hjk]; exact i3 j (by omega)
          · rw [if_neg hjk, if_neg hjk, if_pos (by omega), if_pos (by omega)]; omega
    · have la' : ∃ d : Nat, a.fails = d ∧ a.stocks.length = d ∧ d < k := by
        rcases la with ⟨h, _⟩ | ⟨d, h, h', _, h''⟩
        · exact absurd h hf
        · exact ⟨d, h, h', h''⟩
      obtain ⟨d, d1, d2, d3⟩ := la'
      rcases i4 with hb | hb
      · have lb' : b.stocks.length = k := by rcases lb with h | ⟨d, h, _⟩ <;> omega
        by_cases cb : b.stock + (madeD S' b.stock mk' lk' - lostD b.stock lk') < nk'
        · rw [stepP, if_neg hf, stepP, if_pos hb, if_pos cb]
          exact ⟨fun h => absurd h hf, i2, i3, .inr ⟨by omega, by show a.fails ≤ (k : Int); omega⟩⟩
        · rw [stepP, if_neg hf, stepP, if_pos hb, if_neg cb]
          refine ⟨fun h => absurd h hf, ?_, ?_, .inl rfl⟩
          · show a.stocks.length ≤ (b.stocks ++ _).length; simp; omega
          · intro j hj
            show a.stocks[j]?.getD 0 ≤ (b.stocks ++ _)[j]?.getD 0
            rw [getD_snoc, if_pos (by omega)]
            exact i3 j hj
      · rw [stepP, if_neg hf, stepP, if_neg (by omega)]
        exact ⟨fun h => absurd h hf, i2, i3, .inr hb⟩

theorem map_getD {α : Type} (f : α → Int) (xs : List α) (k : Nat) : (xs.map f)[k]?.getD 0 = match xs[k]? with | none => 0 | some x => f x := by
  rw [List.getElem?_map]; cases xs[k]? <;> rfl

/-- The best weather leaves no less than the worst. -/
theorem best_less {stock store : Int} {ds : List Dy} (hd : ∀ d ∈ ds, DayOk d) (hst : 0 ≤ stock ∧ stock ≤ store) : Less store store (worstL stock store ds) (bestL stock store ds) := by
  refine playL_less (Int.le_refl _) (Int.le_refl _) hst hst.2 (fun k => ?_) (fun k => ?_) (fun k => ?_) ds.length
  all_goals
    rw [map_getD, map_getD]
    cases h : ds[k]? with
    | none => exact ⟨Int.le_refl _, Int.le_refl _⟩
    | some d =>
      obtain ⟨a, b, c⟩ := hd d (List.mem_of_getElem? h)
      constructor <;> dsimp only <;> omega
end Go.Proofs.YtmebmcipmemofaaGreat

namespace Go.Proofs.YtmebmcipmemofaaGreat
open Go.RowKit Go.Shelf
attribute [local go_sem] Oper.semAt_some

theorem Tryz.info24 : (Tryz.prog.info? 24).map (fun i => (i.zero, i.size, i.bytes)) = some (some (.agg #[.int .i64 0, .int .i64 0]), 2, 16) := by kernel_rfl
theorem mk76 (n : Nat) (h : n ≤ 1000) (w : World) : (Instr.makeSlice 128 (.int .i64 (n : Int)) (.int .i64 (n : Int))).run Tryz.prog w = .ok (.slice (some ⟨w.heap.size, 0, none⟩) n n) (w.alloc (.cells (madeCells #[.int .i64 0, .int .i64 0] (n * 2)) 24)) := by
  obtain ⟨i0, hi, hz0, hz1, hz2⟩ := info_parts Tryz.info24
  have hr := run_make (P := Tryz.prog) w 128 24 i0 (.agg #[.int .i64 0, .int .i64 0]) Tryz.underlying128 hi hz0 .i64 .i64 n n (by omega) (by omega) (by rw [hz2]; omega) (by omega)
  simp only [Int.toNat_natCast, hz1] at hr
  exact hr

def rangesL (stock store : Int) (ds : List Dy) : List Sp := (List.range (worstL stock store ds).stocks.length).map fun j => ⟨(worstL stock store ds).stocks[j]?.getD 0, (bestL stock store ds).stocks[j]?.getD 0⟩
def rangesR (stock store : Int) (ds : List Dy) : List Sp × Int := if winE stock store ds = 0 then (rangesL stock store ds, 0) else ([], winE stock store ds)
def OutSps (w : World) (x : List Sp × Int) (e : Ending) (w' : World) : Prop := ∃ a cap, e = .returned (.tuple #[.slice a x.1.length cap, .int .i64 x.2]) ∧ Sl 2 Sp.cells w' a x.1 ∧ Below w.heap.size w w'

set_option maxRecDepth 100000 in
set_option maxHeartbeats 1000000 in
theorem ranges_any (stock store : Int) (a : Option Addr) (ds : List Dy) (cap : Nat) (w : World) (hx : Sl 6 Dy.cells w a ds) (hl : ds.length ≤ 1000000) :
    Calls Tryz.prog 68 #[wv stock store a ds.length cap] w (OutSps w (rangesR stock store ds)) := by
  have F0 := fld0
  have HX := Lib.hid (And.intro hx hl)
  clear hx hl
  obtain ⟨Wa, hWa⟩ : ∃ Wa, w.alloc (.cells #[.int .i64 stock, .int .i64 store, .slice a ds.length cap] 56) = Wa := ⟨_, rfl⟩
  have hba : Below w.heap.size w Wa := by rw [← hWa]; exact (Below.refl _ _).alloc (Nat.le_refl _) _
  have h0 : Wa.heap[w.heap.size]? = some (.cells #[.int .i64 stock, .int .i64 store, .slice a ds.length cap] 56 (0, 0)) := by rw [← hWa]; exact new_at rfl
  have a0 := blk_cell h0 0 rfl
  have a1 := blk_cell h0 1 rfl
  have a2 := blk_cell h0 2 rfl
  go_enter Tryz.func68, Tryz.ntmps68
  go_wp2_with (fail)
  clear hWa a0 a1 a2
  refine (checkWinter_any stock store a ds cap _ (HX.out.1.below hba) HX.out.2).mono ?_
  rintro e w1 ⟨rfl, hb1⟩
  have H1 := Lib.hid (And.intro (below_self hba hb1) (blk_below h0 hb1))
  clear hba h0 hb1
  by_cases hw : winE stock store ds = 0
  · have hwb : (winE stock store ds != 0) = false := by simp [hw]
    have HR : Hid (rangesR stock store ds = (rangesL stock store ds, 0)) := by show _ = _; rw [rangesR, if_pos hw]
    obtain ⟨b1, b2, b3⟩ := win_ok hw
    have HOK := Lib.hid (And.intro b1 (And.intro b2 b3))
    clear b1 b2 b3 hw
    have c0 := blk_cell H1.out.2 0 rfl
    have c1 := blk_cell H1.out.2 1 rfl
    have c2 := blk_cell H1.out.2 2 rfl
    go_wp2_with (fail)
    go_region_held3 (fun w' => w'.cell? ⟨w.heap.size, 0, none⟩ = some (.int .i64 stock) ∧ w'.cell? ⟨w.heap.size, 1, none⟩ = some (.int .i64 store) ∧ w'.cell? ⟨w.heap.size, 2, none⟩ = some (.slice a ds.length cap)) (go_keep)
      (first
        | (go_at_call 120
           refine (play_worst H3.out.2.2.1 H3.out.2.2.2.1 H3.out.2.2.2.2 HOK.out.2.1.2 ⟨HOK.out.1.1, HOK.out.1.2.1, HOK.out.1.2.2.2⟩ HOK.out.2.2).mono ?_
           rintro e w4 ⟨sa, sc, ma, mc, pa, pn, pc, rfl, hs, hm, hb4⟩
           have H4 := Lib.hid (And.intro (below_self H3.out.1 hb4) (And.intro (blk_below H3.out.2.1 hb4) hs))
           clear hs hm hb4 e0 e1 e2
           have e0 := blk_cell H4.out.2.1 0 rfl; have e1 := blk_cell H4.out.2.1 1 rfl; have e2 := blk_cell H4.out.2.1 2 rfl)
        | (go_at_call 93
           refine (spell_any 135 136 135 Sp.hi Sp.lo Sp.hi high_f low_f high_f stock store a ds cap _ (HX.out.1.below H2.out.1) HX.out.2).mono ?_
           rintro e w3 ⟨⟨an, cn, am, cm, al, cl, rfl, hN, hM, hL, hb3⟩⟩
           have H3 := Lib.hid (And.intro (below_self H2.out.1 hb3) (And.intro (blk_below H2.out.2 hb3) (And.intro hN (And.intro hM hL))))
           clear hN hM hL hb3 d0 d1 d2
           have e0 := blk_cell H3.out.2.1 0 rfl; have e1 := blk_cell H3.out.2.1 1 rfl; have e2 := blk_cell H3.out.2.1 2 rfl)
        | (go_at_call 92
           refine (worst_any _).mono ?_
           rintro e w2 ⟨rfl, hb2⟩
           have hb2' : Below w1.heap.size w1 w2 := ⟨hb2.os, hb2.tape, hb2.output, hb2.size, hb2.block⟩
           have H2 := Lib.hid (And.intro (below_self H1.out.1 hb2') (blk_below H1.out.2 hb2'))
           clear hb2 hb2' c0 c1 c2
           have d0 := blk_cell H2.out.2 0 rfl; have d1 := blk_cell H2.out.2 1 rfl; have d2 := blk_cell H2.out.2 2 rfl))
    go_wp2_with (fail)
    go_region_held3 (fun w' => w'.cell? ⟨w.heap.size, 0, none⟩ = some (.int .i64 stock) ∧ w'.cell? ⟨w.heap.size, 1, none⟩ = some (.int .i64 store) ∧ w'.cell? ⟨w.heap.size, 2, none⟩ = some (.slice a ds.length cap)) (go_keep)
      (first
        | (go_at_call 120
           refine (play_best H6.out.2.2.1 H6.out.2.2.2.1 H6.out.2.2.2.2.1 HOK.out.2.1.2 ⟨HOK.out.1.1, HOK.out.1.2.1, HOK.out.1.2.2.2⟩ HOK.out.2.2).mono ?_
           rintro e w7 ⟨ta, tc, na, nc, qa, qn, qc, rfl, hs, hm, hb7⟩
           have H7 := Lib.hid (And.intro (below_self H6.out.1 hb7) (And.intro (H6.out.2.2.2.2.2.below hb7) hs))
           have K7 := Lib.hid (blk_below H6.out.2.1 hb7)
           clear hs hm hb7 h0 h1 h2
           have h0 := blk_cell K7.out 0 rfl; have h1 := blk_cell K7.out 1 rfl; have h2 := blk_cell K7.out 2 rfl)
        | (go_at_call 93
           refine (spell_any 136 135 136 Sp.lo Sp.hi Sp.lo low_f high_f low_f stock store a ds cap _ (HX.out.1.below H5.out.1) HX.out.2).mono ?_
           rintro e w6 ⟨⟨bn, dn, bm, dm, bl, dl, rfl, hN, hM, hL, hb6⟩⟩
           have H6 := Lib.hid (And.intro (below_self H5.out.1 hb6) (And.intro (blk_below H5.out.2.1 hb6) (And.intro hN (And.intro hM (And.intro hL (H5.out.2.2.below hb6))))))
           clear hN hM hL hb6 g0 g1 g2
           have h0 := blk_cell H6.out.2.1 0 rfl; have h1 := blk_cell H6.out.2.1 1 rfl; have h2 := blk_cell H6.out.2.1 2 rfl)
        | (go_at_call 121
           refine (best_any _).mono ?_
           rintro e w5 ⟨rfl, hb5⟩
           have hb5' : Below w4.heap.size w4 w5 := ⟨hb5.os, hb5.tape, hb5.output, hb5.size, hb5.block⟩
           have H5 := Lib.hid (And.intro (below_self H4.out.1 hb5') (And.intro (blk_below H4.out.2.1 hb5') (H4.out.2.2.below hb5')))
           clear hb5 hb5' e0 e1 e2
           have g0 := blk_cell H5.out.2.1 0 rfl; have g1 := blk_cell H5.out.2.1 1 rfl; have g2 := blk_cell H5.out.2.1 2 rfl))
    have HLESS := Lib.hid (best_less HOK.out.2.2 ⟨HOK.out.1.1, HOK.out.1.2.1⟩)
    have HLEN : Hid ((worstL stock store ds).stocks.length ≤ 60) := by
      show _ ≤ _
      have h := HOK.out.2.1.2
      rcases play_len stock store (ds.map fun d => d.need.hi) (ds.map fun d => d.make.lo) (ds.map fun d => d.loss.hi) ds.length with ⟨_, h', _⟩ | ⟨d, _, h', _, h''⟩
      · have : (worstL stock store ds).stocks.length = ds.length := h'; omega
      · have : (worstL stock store ds).stocks.length = d := h'; omega
    clear h0 h1 h2
    have HRL : Hid (rangesL stock store ds = (List.range (worstL stock store ds).stocks.length).map fun j => ⟨(worstL stock store ds).stocks[j]?.getD 0, (bestL stock store ds).stocks[j]?.getD 0⟩) := rfl
    generalize (worstL stock store ds) = wo at H7 HLESS HLEN HRL ⊢
    generalize (bestL stock store ds) = be at H7 HLESS HRL ⊢
    generalize hn : wo.stocks.length = n at HLEN HRL ⊢
    have hmk := mk76 n (by have := HLEN.out; omega)
    go_wp2_with (fail)
    have HC7 : Hid (∀ (C : Array Value) (W : World) (k : Nat), k < n → C.size = n * 2 → ∃ v0 v1, C[k * 2]? = some v0 ∧ C[k * 2 + 1]? = some v1) := fun C W k h1 h2 => ⟨_, _, Array.getElem?_eq_getElem (by omega), Array.getElem?_eq_getElem (by omega)⟩
    go_loopw [29] (fun i wr => ∃ k : Nat, k ≤ n ∧ i = .int .i64 k ∧ Hid (Below w7.heap.size w7 wr ∧ ∃ C : Array Value, wr.heap[w7.heap.size]? = some (.cells C 24 (0, 0)) ∧ C.size = n * 2 ∧ ∀ j, j < k → C[j * 2]? = some (.int .i64 (wo.stocks[j]?.getD 0)) ∧ C[j * 2 + 1]? = some (.int .i64 (be.stocks[j]?.getD 0)))) (fun i _ => n - (intOf i).toNat)
    case atStart => exact ⟨0, Nat.zero_le _, rfl, (Below.refl _ _).alloc (Nat.le_refl _) _, _, heap_alloc_new _ _, size_madeCells _ _, fun j hj => by omega⟩
    case round =>
      obtain ⟨k, hk, rfl, hinv⟩ := hrel
      by_cases hlt : k < n
      · obtain ⟨hbw, C, hB, hsz, hall⟩ := hinv.out
        obtain ⟨v0, v1, e0, e1⟩ := HC7.out C wr k hlt hsz
        have hnn := hn
        have hle := HLESS.out.len
        obtain ⟨bs, os, hsa, hbs, hcs⟩ := H7.out.2.1 (by omega)
        obtain ⟨bt, ot, hta, hbt, hct⟩ := H7.out.2.2 (by omega)
        subst hsa
        subst hta
        have hkm : k < be.stocks.length := by omega
        have x0 := (hbw.cell (p := ⟨bs, os + k, none⟩) hbs).trans (hcs k (by omega))
        have x1 := (hbw.cell (p := ⟨bt, ot + k, none⟩) hbt).trans (hct k hkm)
        generalize hlo : wo.stocks[k]?.getD 0 = lo at x0
        generalize hhi : be.stocks[k]?.getD 0 = hi at x1
        have HLO := Lib.hid (And.intro hlo hhi)
        have HI := Lib.hid (And.intro hbw (And.intro hB (And.intro hsz hall)))
        have y0 := blk_cell hB (k * 2) e0
        have y1 := blk_cell hB (k * 2 + 1) e1
        have z0 := blk_free (j := k * 2) hB
        have z1 := blk_free (j := k * 2 + 1) hB
        clear hinv hbw hB hsz hall hcs hct hlo hhi hnn hle
        go_wp2_with (fail)
        go_region
        have HN : Hid (Below w7.heap.size w7 ((wr.setCell ⟨w7.heap.size, k * 2, none⟩ (.int .i64 lo)).setCell ⟨w7.heap.size, k * 2 + 1, none⟩ (.int .i64 hi)).drew ∧ ∃ C : Array Value, ((wr.setCell ⟨w7.heap.size, k * 2, none⟩ (.int .i64 lo)).setCell ⟨w7.heap.size, k * 2 + 1, none⟩ (.int .i64 hi)).drew.heap[w7.heap.size]? = some (.cells C 24 (0, 0)) ∧ C.size = n * 2 ∧ ∀ j, j < k + 1 → C[j * 2]? = some (.int .i64 (wo.stocks[j]?.getD 0)) ∧ C[j * 2 + 1]? = some (.int .i64 (be.stocks[j]?.getD 0))) := by
          obtain ⟨hbw, hB, hsz, hall⟩ := HI.out
          refine ⟨((hbw.setCell (p := ⟨w7.heap.size, k * 2, none⟩) (Nat.le_refl _) _).setCell (p := ⟨w7.heap.size, k * 2 + 1, none⟩) (Nat.le_refl _) _).drew, (C.setIfInBounds (k * 2) (.int .i64 lo)).setIfInBounds (k * 2 + 1) (.int .i64 hi), blk_setCell (blk_setCell hB), by simp [hsz], fun j hj => ?_⟩
          rcases Nat.lt_or_ge j k with h | h
          · rw [Array.getElem?_setIfInBounds_ne (by omega), Array.getElem?_setIfInBounds_ne (by omega), Array.getElem?_setIfInBounds_ne (by omega), Array.getElem?_setIfInBounds_ne (by omega)]
            exact hall j h
          · have : j = k := by omega
            subst this
            rw [Array.getElem?_setIfInBounds_ne (by omega), Array.getElem?_setIfInBounds_self_of_lt (by omega), Array.getElem?_setIfInBounds_self_of_lt (by simp; omega), HLO.out.1, HLO.out.2]
            exact ⟨rfl, rfl⟩
        clear HI x0 x1 y0 y1 z0 z1 e0 e1
        have hn60 := HLEN.out
        generalize ((wr.setCell ⟨w7.heap.size, k * 2, none⟩ (.int .i64 lo)).setCell ⟨w7.heap.size, k * 2 + 1, none⟩ (.int .i64 hi)).drew = W8 at HN ⊢
        go_wp2
        go_roundw
        case rel => exact ⟨k + 1, by omega, by go_num, HN⟩
        case measure => simp [intOf]; omega
      · have : k = n := by omega
        subst this
        have HLL : Hid ((rangesL stock store ds).length = k) := by show _ = _; rw [HRL.out]; simp
        go_wp2
        refine bodyPost_ret (v := .tuple #[.slice (some ⟨w7.heap.size, 0, none⟩) k k, .int .i64 0]) (by simp [results, Tryz.results68, go_sem]) rfl ?_
        rw [HR.out]
        obtain ⟨hbw, C, hB, hsz, hall⟩ := hinv.out
        refine ⟨some ⟨w7.heap.size, 0, none⟩, k, by rw [show (rangesL stock store ds, (0 : Int)).1.length = k from HLL.out], fun _ => ⟨w7.heap.size, 0, rfl, lt_of_block hB, fun j x i u hx hu => ?_⟩, H7.out.1.trans (hbw.mono H7.out.1.size)⟩
        have hjk : j < k := by
          rcases Nat.lt_or_ge j (rangesL stock store ds).length with h | h
          · rw [HLL.out] at h; exact h
          · rw [show (rangesL stock store ds, (0 : Int)).1 = rangesL stock store ds from rfl, List.getElem?_eq_none h] at hx; cases hx
        have hx' : x = ⟨wo.stocks[j]?.getD 0, be.stocks[j]?.getD 0⟩ := by
          rw [show (rangesL stock store ds, (0 : Int)).1 = rangesL stock store ds from rfl, HRL.out, List.getElem?_map, List.getElem?_range hjk] at hx
          simpa using hx.symm
        subst hx'
        match i, hu with
        | 0, hu => simp [Sp.cells] at hu; subst hu; rw [Nat.zero_add]; exact blk_cell hB (j * 2) (hall j hjk).1
        | 1, hu => simp [Sp.cells] at hu; subst hu; rw [Nat.zero_add]; exact blk_cell hB (j * 2 + 1) (hall j hjk).2
        | i + 2, hu => simp [Sp.cells] at hu
  · have hwb : (winE stock store ds != 0) = true := by simp [hw]
    have HR : Hid (rangesR stock store ds = ([], winE stock store ds)) := by show _ = _; rw [rangesR, if_neg hw]
    clear hw
    go_wp2
    refine bodyPost_ret (v := .tuple #[.slice none 0 0, .int .i64 (winE stock store ds)]) (by simp [results, Tryz.results68, go_sem]) rfl ?_
    rw [HR.out]
    exact ⟨none, 0, rfl, fun h => by simp at h, H1.out.1⟩
end Go.Proofs.YtmebmcipmemofaaGreat

namespace Go.Proofs.YtmebmcipmemofaaGreat
open Go.RowKit Go.Shelf
attribute [local go_sem] Oper.semAt_some

theorem span_any (lo hi : Int) (w : World) : Calls Tryz.prog 48 #[.int .i64 lo, .int .i64 hi] w fun e w' => e = .returned (.agg #[.int .i64 lo, .int .i64 hi]) ∧ w.alloc (.cells #[.int .i64 lo, .int .i64 hi] 24) = w' := by
  go_enter Tryz.func48, Tryz.ntmps48
  go_wp2
  refine bodyPost_ret (v := .agg #[.int .i64 lo, .int .i64 hi]) (by simp [results, Tryz.results48, go_sem]) rfl ?_
  exact ⟨rfl, rfl⟩

def threeL : List Lp := [⟨2000, 60, 6⟩, ⟨2500, 90, 6⟩, ⟨3000, 100, 6⟩]
def threeR : Ru := ⟨3, ⟨7000, 7500⟩, ⟨200, 270⟩, ⟨2000, 3000⟩, 6, 2⟩
def shortL (need : Int) : List Dy := [⟨⟨300, 300⟩, ⟨100, 200⟩, ⟨10, 20⟩⟩, ⟨⟨200, 400⟩, ⟨300, 600⟩, ⟨10, 20⟩⟩, ⟨⟨if 500 < need then 500 else need, need⟩, ⟨0, 100⟩, ⟨10, 20⟩⟩]

/-- A block of integers, read as elements of so many each. -/
theorem Sl.of_block {α : Type} {sz : Nat} {cells : α → List Int} {W : World} {B : Nat} {xs : List α} {cur : Array Value} {t : TypeId} (h : W.heap[B]? = some (.cells cur t (0, 0))) (hc : ∀ (j : Nat) (x : α) (i : Nat) (u : Int), xs[j]? = some x → (cells x)[i]? = some u → cur[j * sz + i]? = some (Value.int .i64 u)) : Sl sz cells W (some ⟨B, 0, none⟩) xs :=
  fun _ => ⟨B, 0, rfl, lt_of_block h, fun j x i u hx hu => by rw [Nat.zero_add]; exact blk_cell h _ (hc j x i u hx hu)⟩

def OutThree (w : World) (e : Ending) (w' : World) : Prop := ∃ a, e = .returned (.tuple #[.slice a 3 3, threeR.v]) ∧ Sl 3 Lp.cells w' a threeL ∧ Below w.heap.size w w'

set_option maxRecDepth 100000 in
set_option maxHeartbeats 1000000 in
theorem three_any (w : World) : Calls Tryz.prog 43 #[] w (OutThree w) := by
  go_enter Tryz.func43, Tryz.ntmps43
  go_wp2_with (first | (go_at_call 48; refine (span_any _ _ _).mono ?_; rintro e w' ⟨rfl, rfl⟩))
  generalize hWf : World.alloc _ _ = Wf
  have h0 : Wf.heap[w.heap.size]? = some (.cells #[.int .i64 3, .int .i64 7000, .int .i64 7500, .int .i64 200, .int .i64 270, .int .i64 2000, .int .i64 3000, .int .i64 6, .int .i64 2] 26 (0, 0)) := by rw [← hWf]; exact alk (alk (alk (alk (heap_alloc_new w _))))
  have h1 : Wf.heap[w.heap.size + 1]? = some (.cells #[.int .i64 2000, .int .i64 60, .int .i64 6, .int .i64 2500, .int .i64 90, .int .i64 6, .int .i64 3000, .int .i64 100, .int .i64 6] 32 (0, 0)) := by rw [← hWf]; exact alk (alk (alk (new_at (by simp))))
  have hb : Below w.heap.size w Wf := by rw [← hWf]; repeat (first | exact Below.refl _ _ | refine Below.alloc ?_ (by simp <;> omega) _)
  clear hWf
  have q0 := blk_cell h0 0 rfl
  have q1 := blk_cell h0 1 rfl
  have q2 := blk_cell h0 2 rfl
  have q3 := blk_cell h0 3 rfl
  have q4 := blk_cell h0 4 rfl
  have q5 := blk_cell h0 5 rfl
  have q6 := blk_cell h0 6 rfl
  have q7 := blk_cell h0 7 rfl
  have q8 := blk_cell h0 8 rfl
  refine bodyPost_ret (v := .tuple #[.slice (some ⟨w.heap.size + 1, 0, none⟩) 3 3, threeR.v]) (by simp [results, Tryz.results43, go_sem, q0, q1, q2, q3, q4, q5, q6, q7, q8, threeR]) rfl ?_
  refine ⟨_, rfl, Sl.of_block h1 ?_, hb⟩
  intro j x i u hx hu
  rcases j with _ | _ | _ | j
  all_goals simp [threeL] at hx
  all_goals subst hx
  all_goals (rcases i with _ | _ | _ | i <;> simp [Lp.cells] at hu <;> subst hu <;> rfl)

def OutShort (w : World) (need : Int) (e : Ending) (w' : World) : Prop := ∃ a, e = .returned (wv 500 800 a 3 3) ∧ Sl 6 Dy.cells w' a (shortL need) ∧ Below w.heap.size w w'
set_option maxRecDepth 100000 in
set_option maxHeartbeats 1000000 in
theorem short_any (need : Int) (w : World) : Calls Tryz.prog 46 #[.int .i64 need] w (OutShort w need) := by
  go_enter Tryz.func46, Tryz.ntmps46
  go_wp2_with (first | (go_at_call 48; refine (span_any _ _ _).mono ?_; rintro e w' ⟨rfl, rfl⟩))
  · have h2 := h
    generalize hWf : World.alloc _ _ = Wf
    have h0 : Wf.heap[w.heap.size]? = some (.cells #[.int .i64 500, .int .i64 800, .slice (some ⟨w.heap.size + 1 + 1 + 1 + 1 + 1 + 1 + 1 + 1 + 1 + 1, 0, none⟩) 3 3] 56 (0, 0)) := by rw [← hWf]; exact alk (alk (alk (alk (alk (alk (alk (alk (alk (alk (heap_alloc_new w _))))))))))
    have h1 : Wf.heap[w.heap.size + 1 + 1 + 1 + 1 + 1 + 1 + 1 + 1 + 1 + 1]? = some (.cells #[.int .i64 300, .int .i64 300, .int .i64 100, .int .i64 200, .int .i64 10, .int .i64 20, .int .i64 200, .int .i64 400, .int .i64 300, .int .i64 600, .int .i64 10, .int .i64 20, .int .i64 500, .int .i64 need, .int .i64 0, .int .i64 100, .int .i64 10, .int .i64 20] 97 (0, 0)) := by rw [← hWf]; exact new_at (by simp)
    have hb : Below w.heap.size w Wf := by rw [← hWf]; repeat (first | exact Below.refl _ _ | refine Below.alloc ?_ (by simp <;> omega) _)
    clear hWf
    have q0 := blk_cell h0 0 rfl
    have q1 := blk_cell h0 1 rfl
    have q2 := blk_cell h0 2 rfl
    refine bodyPost_ret (v := wv 500 800 (some ⟨w.heap.size + 1 + 1 + 1 + 1 + 1 + 1 + 1 + 1 + 1 + 1, 0, none⟩) 3 3) (by simp [results, Tryz.results46, go_sem, q0, q1, q2]) rfl ?_
    refine ⟨_, rfl, Sl.of_block h1 ?_, hb⟩
    intro j x i u hx hu
    rcases j with _ | _ | _ | j
    all_goals simp [shortL, h2] at hx
    all_goals subst hx
    all_goals (rcases i with _ | _ | _ | _ | _ | _ | i <;> simp [Dy.cells] at hu <;> subst hu <;> rfl)
  · skip
    have h2 : ¬ 500 < need := by omega
    generalize hWf : World.alloc _ _ = Wf
    have h0 : Wf.heap[w.heap.size]? = some (.cells #[.int .i64 500, .int .i64 800, .slice (some ⟨w.heap.size + 1 + 1 + 1 + 1 + 1 + 1 + 1 + 1 + 1 + 1, 0, none⟩) 3 3] 56 (0, 0)) := by rw [← hWf]; exact alk (alk (alk (alk (alk (alk (alk (alk (alk (alk (heap_alloc_new w _))))))))))
    have h1 : Wf.heap[w.heap.size + 1 + 1 + 1 + 1 + 1 + 1 + 1 + 1 + 1 + 1]? = some (.cells #[.int .i64 300, .int .i64 300, .int .i64 100, .int .i64 200, .int .i64 10, .int .i64 20, .int .i64 200, .int .i64 400, .int .i64 300, .int .i64 600, .int .i64 10, .int .i64 20, .int .i64 need, .int .i64 need, .int .i64 0, .int .i64 100, .int .i64 10, .int .i64 20] 97 (0, 0)) := by rw [← hWf]; exact new_at (by simp)
    have hb : Below w.heap.size w Wf := by rw [← hWf]; repeat (first | exact Below.refl _ _ | refine Below.alloc ?_ (by simp <;> omega) _)
    clear hWf
    have q0 := blk_cell h0 0 rfl
    have q1 := blk_cell h0 1 rfl
    have q2 := blk_cell h0 2 rfl
    refine bodyPost_ret (v := wv 500 800 (some ⟨w.heap.size + 1 + 1 + 1 + 1 + 1 + 1 + 1 + 1 + 1 + 1, 0, none⟩) 3 3) (by simp [results, Tryz.results46, go_sem, q0, q1, q2]) rfl ?_
    refine ⟨_, rfl, Sl.of_block h1 ?_, hb⟩
    intro j x i u hx hu
    rcases j with _ | _ | _ | j
    all_goals simp [shortL, h2] at hx
    all_goals subst hx
    all_goals (rcases i with _ | _ | _ | _ | _ | _ | i <;> simp [Dy.cells] at hu <;> subst hu <;> rfl)
end Go.Proofs.YtmebmcipmemofaaGreat

namespace Go.Proofs.YtmebmcipmemofaaGreat
open Go.RowKit Go.Shelf
attribute [local go_sem] Oper.semAt_some

theorem eq_lists {xs ys : List Int} (hl : xs.length = ys.length) (h : ∀ j, j < xs.length → xs[j]?.getD 0 = ys[j]?.getD 0) : decide (xs = ys) = true := by
  simp only [decide_eq_true_eq]
  apply List.ext_getElem hl
  intro i h1 h2
  have := h i h1
  rw [List.getElem?_eq_getElem h1, List.getElem?_eq_getElem h2] at this
  simpa using this
theorem ne_lists {xs ys : List Int} (j : Nat) (h : xs[j]?.getD 0 ≠ ys[j]?.getD 0) : decide (xs = ys) = false := by
  simp only [decide_eq_false_iff_not]
  intro e; subst e; exact h rfl

set_option maxHeartbeats 1000000 in
theorem equal_int (a : Option Addr) (xs : List Int) (ca : Nat) (b : Option Addr) (ys : List Int) (cb : Nat) (w : World) (hx : IntSl w a xs) (hy : IntSl w b ys) (hl : xs.length ≤ 1000000) :
    Calls Tryz.prog 23 #[.slice a xs.length ca, .slice b ys.length cb] w fun e w' => e = .returned (.bool (decide (xs = ys))) ∧ Below w.heap.size w w' := by
  have HX := Lib.hid (And.intro hx hy)
  clear hx hy
  by_cases hlen : xs.length = ys.length
  · have HL := Lib.hid hlen
    go_enter Tryz.func23, Tryz.ntmps23
    rw [← hlen]
    clear hlen
    go_wp2
    go_loopw [13] (fun i wr => ∃ k : Nat, k ≤ xs.length ∧ i = .int .i64 k ∧ Hid (∀ j, j < k → xs[j]?.getD 0 = ys[j]?.getD 0) ∧ Below w.heap.size w wr) (fun i _ => xs.length - (intOf i).toNat)
    case atStart => exact ⟨0, Nat.zero_le _, rfl, fun j hj => by omega, Below.refl _ _⟩
    case round =>
      obtain ⟨k, hk, rfl, hall, hbw⟩ := hrel
      by_cases hlt : k < xs.length
      · obtain ⟨b1, o1, rfl, hb1, hc1⟩ := HX.out.1 (by omega)
        obtain ⟨b2, o2, rfl, hb2, hc2⟩ := HX.out.2 (by have := HL.out; omega)
        have d1 := (hbw.cell (p := ⟨b1, o1 + k, none⟩) hb1).trans (hc1 k hlt)
        have d2 := (hbw.cell (p := ⟨b2, o2 + k, none⟩) hb2).trans (hc2 k (by have := HL.out; omega))
        clear hc1 hc2
        generalize hxk : xs[k]?.getD 0 = xk at d1
        generalize hyk : ys[k]?.getD 0 = yk at d2
        by_cases he : xk = yk
        · have heb : (xk != yk) = false := by simp [he]
          have HA : Hid (∀ j, j < k + 1 → xs[j]?.getD 0 = ys[j]?.getD 0) := fun j hj => by
            rcases Nat.lt_or_ge j k with h | h
            · exact hall.out j h
            · have : j = k := by omega
              subst this; rw [hxk, hyk, he]
          clear hxk hyk he hall
          go_wp2_with fail
          go_quiet (fail)
          have hwd := below_drewN hbw nq
          go_wp2
          go_roundw
          case rel => exact ⟨k + 1, by omega, by go_num, HA, hwd⟩
          case measure => simp [intOf]; omega
        · have heb : (xk != yk) = true := by simp [he]
          have HF : Hid (decide (xs = ys) = false) := ne_lists k (by rw [hxk, hyk]; exact he)
          clear hxk hyk he hall
          go_wp2_with fail
          go_quiet (fail)
          have hwd := below_drewN hbw nq
          go_wp2
          go_ret
          exact ⟨by rw [HF.out]; rfl, hwd⟩
      · have : k = xs.length := by omega
        subst this
        have HT := Lib.hid (eq_lists HL.out hall.out)
        go_wp2
        go_ret
        exact ⟨by rw [HT.out]; rfl, hbw⟩
  · have hlb : ((xs.length : Int) != (ys.length : Int)) = true := by simp; omega
    have HR : Hid (decide (xs = ys) = false) := by show _ = _; simp only [decide_eq_false_iff_not]; intro e; subst e; exact hlen rfl
    clear hlen
    go_enter Tryz.func23, Tryz.ntmps23
    go_wp2
    go_ret
    exact ⟨by rw [HR.out]; rfl, Below.refl _ _⟩
set_option maxHeartbeats 1000000 in
theorem equal_rule (a : Option Addr) (xs : List Int) (ca : Nat) (b : Option Addr) (ys : List Int) (cb : Nat) (w : World) (hx : IntSl w a xs) (hy : IntSl w b ys) (hl : xs.length ≤ 1000000) :
    Calls Tryz.prog 61 #[.slice a xs.length ca, .slice b ys.length cb] w fun e w' => e = .returned (.bool (decide (xs = ys))) ∧ Below w.heap.size w w' := by
  have HX := Lib.hid (And.intro hx hy)
  clear hx hy
  by_cases hlen : xs.length = ys.length
  · have HL := Lib.hid hlen
    go_enter Tryz.func61, Tryz.ntmps61
    rw [← hlen]
    clear hlen
    go_wp2
    go_loopw [13] (fun i wr => ∃ k : Nat, k ≤ xs.length ∧ i = .int .i64 k ∧ Hid (∀ j, j < k → xs[j]?.getD 0 = ys[j]?.getD 0) ∧ Below w.heap.size w wr) (fun i _ => xs.length - (intOf i).toNat)
    case atStart => exact ⟨0, Nat.zero_le _, rfl, fun j hj => by omega, Below.refl _ _⟩
    case round =>
      obtain ⟨k, hk, rfl, hall, hbw⟩ := hrel
      by_cases hlt : k < xs.length
      · obtain ⟨b1, o1, rfl, hb1, hc1⟩ := HX.out.1 (by omega)
        obtain ⟨b2, o2, rfl, hb2, hc2⟩ := HX.out.2 (by have := HL.out; omega)
        have d1 := (hbw.cell (p := ⟨b1, o1 + k, none⟩) hb1).trans (hc1 k hlt)
        have d2 := (hbw.cell (p := ⟨b2, o2 + k, none⟩) hb2).trans (hc2 k (by have := HL.out; omega))
        clear hc1 hc2
        generalize hxk : xs[k]?.getD 0 = xk at d1
        generalize hyk : ys[k]?.getD 0 = yk at d2
        by_cases he : xk = yk
        · have heb : (xk != yk) = false := by simp [he]
          have HA : Hid (∀ j, j < k + 1 → xs[j]?.getD 0 = ys[j]?.getD 0) := fun j hj => by
            rcases Nat.lt_or_ge j k with h | h
            · exact hall.out j h
            · have : j = k := by omega
              subst this; rw [hxk, hyk, he]
          clear hxk hyk he hall
          go_wp2_with fail
          go_quiet (fail)
          have hwd := below_drewN hbw nq
          go_wp2
          go_roundw
          case rel => exact ⟨k + 1, by omega, by go_num, HA, hwd⟩
          case measure => simp [intOf]; omega
        · have heb : (xk != yk) = true := by simp [he]
          have HF : Hid (decide (xs = ys) = false) := ne_lists k (by rw [hxk, hyk]; exact he)
          clear hxk hyk he hall
          go_wp2_with fail
          go_quiet (fail)
          have hwd := below_drewN hbw nq
          go_wp2
          go_ret
          exact ⟨by rw [HF.out]; rfl, hwd⟩
      · have : k = xs.length := by omega
        subst this
        have HT := Lib.hid (eq_lists HL.out hall.out)
        go_wp2
        go_ret
        exact ⟨by rw [HT.out]; rfl, hbw⟩
  · have hlb : ((xs.length : Int) != (ys.length : Int)) = true := by simp; omega
    have HR : Hid (decide (xs = ys) = false) := by show _ = _; simp only [decide_eq_false_iff_not]; intro e; subst e; exact hlen rfl
    clear hlen
    go_enter Tryz.func61, Tryz.ntmps61
    go_wp2
    go_ret
    exact ⟨by rw [HR.out]; rfl, Below.refl _ _⟩
end Go.Proofs.YtmebmcipmemofaaGreat

namespace Go.Proofs.YtmebmcipmemofaaGreat
open Go.RowKit Go.Shelf
attribute [local go_sem] Oper.semAt_some

set_option maxRecDepth 100000 in
set_option maxHeartbeats 1000000 in
theorem equalAll_any (a : Option Addr) (xs : List (List Int)) (ca : Nat) (b : Option Addr) (ys : List (List Int)) (cb : Nat) (w : World) (hx : SlsAt w a xs) (hy : SlsAt w b ys) (hl : xs.length ≤ 1000000) (hls : ∀ c ∈ xs, c.length ≤ 1000000) :
    Calls Tryz.prog 20 #[.slice a xs.length ca, .slice b ys.length cb] w fun e w' => e = .returned (.bool (decide (xs = ys))) ∧ Below w.heap.size w w' := by
  have HX := Lib.hid (And.intro hx (And.intro hy hls))
  clear hx hy hls
  by_cases hlen : xs.length = ys.length
  · have HL := Lib.hid hlen
    go_enter Tryz.func20, Tryz.ntmps20
    rw [← hlen]
    clear hlen
    go_wp2
    go_loopw [13] (fun i wr => ∃ k : Nat, k ≤ xs.length ∧ i = .int .i64 k ∧ Hid (∀ j, j < k → xs[j]? = ys[j]?) ∧ Below w.heap.size w wr) (fun i _ => xs.length - (intOf i).toNat)
    case atStart => exact ⟨0, Nat.zero_le _, rfl, fun j hj => by omega, Below.refl _ _⟩
    case round =>
      obtain ⟨k, hk, rfl, hall, hbw⟩ := hrel
      by_cases hlt : k < xs.length
      · obtain ⟨b1, o1, rfl, hb1, hc1⟩ := HX.out.1 (by omega)
        obtain ⟨b2, o2, rfl, hb2, hc2⟩ := HX.out.2.1 (by have := HL.out; omega)
        have hlt2 : k < ys.length := by have := HL.out; omega
        obtain ⟨a1, k1, v1, i1⟩ := hc1 k _ (List.getElem?_eq_getElem hlt)
        obtain ⟨a2, k2, v2, i2⟩ := hc2 k _ (List.getElem?_eq_getElem hlt2)
        have hcl := Lib.hid (HX.out.2.2 _ (List.getElem_mem hlt))
        have d1 := (hbw.cell (p := ⟨b1, o1 + k, none⟩) hb1).trans v1
        have d2 := (hbw.cell (p := ⟨b2, o2 + k, none⟩) hb2).trans v2
        have HI := Lib.hid (And.intro i1 i2)
        have HXY : Hid (xs[k]? = some xs[k] ∧ ys[k]? = some ys[k]) := ⟨List.getElem?_eq_getElem hlt, List.getElem?_eq_getElem hlt2⟩
        clear hc1 hc2 v1 v2 i1 i2
        generalize xs[k] = c at d1 HI hcl HXY
        generalize ys[k] = d at d2 HI HXY
        have HB := Lib.hid hbw
        clear hlt2 hbw
        go_wp2_with (fail)
        go_region_held3 (fun w' => w'.cell? ⟨b1, o1 + k, none⟩ = some (.slice a1 c.length k1) ∧ w'.cell? ⟨b2, o2 + k, none⟩ = some (.slice a2 d.length k2)) (go_keep)
          (first | (go_at_call 23; refine (equal_int a1 c k1 a2 d k2 _ (HI.out.1.below HB.out.drew) (HI.out.2.below HB.out.drew) hcl.out).mono ?_; rintro e w5 ⟨rfl, hb5⟩; have H5 : Hid (Below wr.heap.size wr w5) := ⟨hb5.os, hb5.tape, hb5.output, hb5.size, hb5.block⟩; have e1 := (H5.out.cell (p := ⟨b1, o1 + k, none⟩) (Nat.lt_of_lt_of_le hb1 HB.out.size)).trans d1; have e2 := (H5.out.cell (p := ⟨b2, o2 + k, none⟩) (Nat.lt_of_lt_of_le hb2 HB.out.size)).trans d2))
        all_goals (
          have hbw := below_self HB.out H5.out
          clear e1 e2 hb5 d1 d2
          by_cases he : c = d
          · have HA : Hid (∀ j, j < k + 1 → xs[j]? = ys[j]?) := fun j hj => by
              rcases Nat.lt_or_ge j k with h | h
              · exact hall.out j h
              · have : j = k := by omega
                subst this; rw [HXY.out.1, HXY.out.2, he]
            simp only [he, decide_true]
            clear he hall
            go_wp2
            go_roundw
            case rel => exact ⟨k + 1, by omega, by go_num, HA, hbw⟩
            case measure => simp [intOf]; omega
          · have HF : Hid (decide (xs = ys) = false) := by
              show _ = _
              simp only [decide_eq_false_iff_not]
              intro e; subst e
              have := HXY.out.1.symm.trans HXY.out.2
              exact he (by simpa using this)
            simp only [he, decide_false]
            clear he hall
            go_wp2
            go_ret
            exact ⟨by rw [HF.out]; rfl, hbw⟩)
      · have : k = xs.length := by omega
        subst this
        have HT : Hid (decide (xs = ys) = true) := by
          show _ = _
          simp only [decide_eq_true_eq]
          apply List.ext_getElem?
          intro j
          rcases Nat.lt_or_ge j xs.length with h | h
          · exact hall.out j h
          · rw [List.getElem?_eq_none h, List.getElem?_eq_none (by have := HL.out; omega)]
        go_wp2
        go_ret
        exact ⟨by rw [HT.out]; rfl, hbw⟩
  · have hlb : ((xs.length : Int) != (ys.length : Int)) = true := by simp; omega
    have HR : Hid (decide (xs = ys) = false) := by show _ = _; simp only [decide_eq_false_iff_not]; intro e; subst e; exact hlen rfl
    clear hlen
    go_enter Tryz.func20, Tryz.ntmps20
    go_wp2
    go_ret
    exact ⟨by rw [HR.out]; rfl, Below.refl _ _⟩
theorem eq24 (a b c d : Int) (w : World) : (Op.equalIn 10000 24 (.agg #[.int .i64 a, .int .i64 b]) (.agg #[.int .i64 c, .int .i64 d])).run Tryz.prog w = .ok (decide (a = c) && decide (b = d)) w := by
  rw [Op.equalIn]
  simp [go_sem]
  by_cases h1 : a = c <;> by_cases h2 : b = d <;> simp [h1, h2]
theorem eq24' (x y : Sp) (bb : Bool) (h : (decide (x.lo = y.lo) && decide (x.hi = y.hi)) = bb) (w : World) : (Op.equalIn 10000 24 (.agg #[.int .i64 x.lo, .int .i64 x.hi]) (.agg #[.int .i64 y.lo, .int .i64 y.hi])).run Tryz.prog w = .ok bb w := by
  rw [← h]; exact eq24 _ _ _ _ w

def eqSp (x y : Sp) : Bool := decide (x.lo = y.lo) && decide (x.hi = y.hi)
/-- Two lists of spans are the same. -/
def eqSps (xs ys : List Sp) : Bool := decide (xs.length = ys.length) && (List.range xs.length).all (fun j => match xs[j]?, ys[j]? with | some x, some y => eqSp x y | _, _ => true)

set_option maxHeartbeats 1000000 in
theorem equal_span (a : Option Addr) (xs : List Sp) (ca : Nat) (b : Option Addr) (ys : List Sp) (cb : Nat) (w : World) (hx : Sl 2 Sp.cells w a xs) (hy : Sl 2 Sp.cells w b ys) (hl : xs.length ≤ 1000000) :
    Calls Tryz.prog 69 #[.slice a xs.length ca, .slice b ys.length cb] w fun e w' => e = .returned (.bool (eqSps xs ys)) ∧ Below w.heap.size w w' := by
  have HX := Lib.hid (And.intro hx hy)
  clear hx hy
  by_cases hlen : xs.length = ys.length
  · have HL := Lib.hid hlen
    go_enter Tryz.func69, Tryz.ntmps69
    rw [← hlen]
    clear hlen
    go_wp2
    go_loopw [13] (fun i wr => ∃ k : Nat, k ≤ xs.length ∧ i = .int .i64 k ∧ Hid (∀ j x y, j < k → xs[j]? = some x → ys[j]? = some y → eqSp x y = true) ∧ Below w.heap.size w wr) (fun i _ => xs.length - (intOf i).toNat)
    case atStart => exact ⟨0, Nat.zero_le _, rfl, fun j x y hj => by omega, Below.refl _ _⟩
    case round =>
      obtain ⟨k, hk, rfl, hall, hbw⟩ := hrel
      by_cases hlt : k < xs.length
      · obtain ⟨b1, o1, rfl, hb1, hc1⟩ := HX.out.1 (by omega)
        obtain ⟨b2, o2, rfl, hb2, hc2⟩ := HX.out.2 (by have := HL.out; omega)
        have hlt2 : k < ys.length := by have := HL.out; omega
        have HXY : Hid (xs[k]? = some xs[k] ∧ ys[k]? = some ys[k]) := ⟨List.getElem?_eq_getElem hlt, List.getElem?_eq_getElem hlt2⟩
        have d1 := (hbw.cell (p := ⟨b1, o1 + k * 2, none⟩) hb1).trans (hc1 k _ 0 _ HXY.out.1 rfl)
        have d2 := (hbw.cell (p := ⟨b1, o1 + k * 2 + 1, none⟩) hb1).trans (hc1 k _ 1 _ HXY.out.1 rfl)
        have d3 := (hbw.cell (p := ⟨b2, o2 + k * 2, none⟩) hb2).trans (hc2 k _ 0 _ HXY.out.2 rfl)
        have d4 := (hbw.cell (p := ⟨b2, o2 + k * 2 + 1, none⟩) hb2).trans (hc2 k _ 1 _ HXY.out.2 rfl)
        clear hc1 hc2
        generalize xs[k] = x at d1 d2 HXY
        generalize ys[k] = y at d3 d4 HXY
        cases he : eqSp x y
        · have q24 := eq24' x y false he
          have HF : Hid (eqSps xs ys = false) := by
            show _ = _
            rw [eqSps]
            have : ((List.range xs.length).all (fun j => match xs[j]?, ys[j]? with | some x, some y => eqSp x y | _, _ => true)) = false := by
              rw [List.all_eq_false]
              exact ⟨k, List.mem_range.2 hlt, by rw [HXY.out.1, HXY.out.2]; simp [he]⟩
            rw [this, Bool.and_false]
          clear he hall
          go_wp2_with fail
          go_quiet (fail)
          have hwd := below_drewN hbw nq
          go_wp2
          go_ret
          exact ⟨by rw [HF.out]; rfl, hwd⟩
        · have q24 := eq24' x y true he
          have HA : Hid (∀ j x y, j < k + 1 → xs[j]? = some x → ys[j]? = some y → eqSp x y = true) := fun j x' y' hj hx' hy' => by
            rcases Nat.lt_or_ge j k with h | h
            · exact hall.out j x' y' h hx' hy'
            · have : j = k := by omega
              subst this
              rw [HXY.out.1] at hx'; rw [HXY.out.2] at hy'
              cases hx'; cases hy'; exact he
          clear he hall
          go_wp2_with fail
          go_quiet (fail)
          have hwd := below_drewN hbw nq
          go_wp2
          go_roundw
          case rel => exact ⟨k + 1, by omega, by go_num, HA, hwd⟩
          case measure => simp [intOf]; omega
      · have : k = xs.length := by omega
        subst this
        have HT : Hid (eqSps xs ys = true) := by
          show _ = _
          rw [eqSps, HL.out]
          simp only [decide_true, Bool.true_and, List.all_eq_true, List.mem_range]
          intro j hj
          cases h1 : xs[j]? with
          | none => rfl
          | some x => cases h2 : ys[j]? with
            | none => rfl
            | some y => exact hall.out j x y (by rw [HL.out]; exact hj) h1 h2
        go_wp2
        go_ret
        exact ⟨by rw [HT.out]; rfl, hbw⟩
  · have hlb : ((xs.length : Int) != (ys.length : Int)) = true := by simp; omega
    have HR : Hid (eqSps xs ys = false) := by show _ = _; rw [eqSps]; simp [hlen]
    clear hlen
    go_enter Tryz.func69, Tryz.ntmps69
    go_wp2
    go_ret
    exact ⟨by rw [HR.out]; rfl, Below.refl _ _⟩
end Go.Proofs.YtmebmcipmemofaaGreat

namespace Go.Proofs.YtmebmcipmemofaaGreat
open Go.RowKit Go.Shelf
attribute [local go_sem] Oper.semAt_some

theorem isNaN_any (x : Int) (w : World) : Calls Tryz.prog 156 #[.int .i64 x] w fun e w' => e = .returned (.bool false) ∧ w = w' := by
  go_enter Tryz.func156, Tryz.ntmps156
  go_wp2
  go_ret
  exact ⟨ret_bool (by simp), rfl⟩

def cmpI (x y : Int) : Int := if x < y then -1 else if y < x then 1 else 0
set_option maxHeartbeats 1000000 in
theorem cmp_any (x y : Int) (w : World) : Calls Tryz.prog 115 #[.int .i64 x, .int .i64 y] w fun e w' => e = .returned (.int .i64 (cmpI x y)) ∧ w = w' := by
  go_enter Tryz.func115, Tryz.ntmps115
  go_wp2_with (go_at_call 156; refine (isNaN_any _ _).mono ?_; rintro e w' ⟨rfl, rfl⟩)
  all_goals go_ret
  all_goals exact ⟨ret_int (by simp only [cmpI]; repeat' split <;> omega), rfl⟩

/-- The comparison of two lists. -/
def cmpL : List Int → List Int → Int
  | [], [] => 0
  | [], _ :: _ => -1
  | _ :: _, [] => 1
  | x :: xs, y :: ys => if cmpI x y = 0 then cmpL xs ys else cmpI x y
def beforeB (xs ys : List Int) : Bool := if xs.length = ys.length then decide (cmpL xs ys < 0) else decide (xs.length < ys.length)

theorem cmpL_at {xs ys : List Int} {k : Nat} (hx : k < xs.length) (hy : k < ys.length) : cmpL (xs.drop k) (ys.drop k) = if cmpI (xs[k]?.getD 0) (ys[k]?.getD 0) = 0 then cmpL (xs.drop (k + 1)) (ys.drop (k + 1)) else cmpI (xs[k]?.getD 0) (ys[k]?.getD 0) := by
  rw [List.drop_eq_getElem_cons hx, List.drop_eq_getElem_cons hy, cmpL, List.getElem?_eq_getElem hx, List.getElem?_eq_getElem hy]; rfl
theorem cmpL_end {xs ys : List Int} : cmpL (xs.drop xs.length) (ys.drop xs.length) = if xs.length < ys.length then -1 else 0 := by
  rw [List.drop_length]
  cases h : ys.drop xs.length with
  | nil => rw [if_neg (by have := List.drop_eq_nil_iff.1 h; omega)]; rfl
  | cons y t => rw [if_pos (by have : ¬ ys.length ≤ xs.length := fun h' => by rw [List.drop_eq_nil_iff.2 h'] at h; cases h
                               omega)]; rfl
theorem cmpL_long {xs ys : List Int} (h : ys.length < xs.length) : cmpL (xs.drop ys.length) (ys.drop ys.length) = 1 := by
  rw [List.drop_length]
  cases h' : xs.drop ys.length with
  | nil => have := List.drop_eq_nil_iff.1 h'; omega
  | cons x t => rfl

set_option maxHeartbeats 1000000 in
theorem compare_any (a : Option Addr) (xs : List Int) (ca : Nat) (b : Option Addr) (ys : List Int) (cb : Nat) (w : World) (hx : IntSl w a xs) (hy : IntSl w b ys) (hl : xs.length ≤ 1000000) :
    Calls Tryz.prog 62 #[.slice a xs.length ca, .slice b ys.length cb] w fun e w' => e = .returned (.int .i64 (cmpL xs ys)) ∧ Below w.heap.size w w' := by
  have HX := Lib.hid (And.intro hx hy)
  clear hx hy
  go_enter Tryz.func62, Tryz.ntmps62
  go_wp2
  go_loopw [11] (fun i wr => ∃ k : Nat, k ≤ xs.length ∧ k ≤ ys.length ∧ i = .int .i64 k ∧ Hid (cmpL xs ys = cmpL (xs.drop k) (ys.drop k)) ∧ Below w.heap.size w wr) (fun i _ => xs.length - (intOf i).toNat)
  case atStart => exact ⟨0, Nat.zero_le _, Nat.zero_le _, rfl, rfl, Below.refl _ _⟩
  case round =>
    obtain ⟨k, hk, hk2, rfl, hc, hbw⟩ := hrel
    by_cases hlt : k < xs.length
    · obtain ⟨b1, o1, rfl, hb1, hc1⟩ := HX.out.1 (by omega)
      have d1 := (hbw.cell (p := ⟨b1, o1 + k, none⟩) hb1).trans (hc1 k hlt)
      clear hc1
      by_cases hlt2 : k < ys.length
      · obtain ⟨b2, o2, rfl, hb2, hc2⟩ := HX.out.2 (by omega)
        have d2 := (hbw.cell (p := ⟨b2, o2 + k, none⟩) hb2).trans (hc2 k hlt2)
        clear hc2
        have HA := Lib.hid (hc.out.trans (cmpL_at hlt hlt2))
        generalize xs[k]?.getD 0 = xk at d1 HA
        generalize ys[k]?.getD 0 = yk at d2 HA
        by_cases he : cmpI xk yk = 0
        · have heb : (cmpI xk yk != 0) = false := by simp [he]
          have HA2 : Hid (cmpL xs ys = cmpL (xs.drop (k + 1)) (ys.drop (k + 1))) := by show _ = _; rw [HA.out, if_pos he]
          clear he
          go_wp2_with (go_at_call 115; refine (cmp_any _ _ _).mono ?_; rintro e w1 ⟨rfl, rfl⟩)
          go_roundw
          case rel => exact ⟨k + 1, by omega, by omega, by go_num, HA2, hbw⟩
          case measure => simp [intOf]; omega
        · have heb : (cmpI xk yk != 0) = true := by simp [he]
          have HA2 : Hid (cmpL xs ys = cmpI xk yk) := by show _ = _; rw [HA.out, if_neg he]
          clear he
          go_wp2_with (go_at_call 115; refine (cmp_any _ _ _).mono ?_; rintro e w1 ⟨rfl, rfl⟩)
          go_ret
          exact ⟨by rw [HA2.out]; rfl, hbw⟩
      · have hkk : k = ys.length := by omega
        have HA2 : Hid (cmpL xs ys = 1) := by show _ = _; rw [hc.out, hkk]; exact cmpL_long (by omega)
        clear hkk
        go_wp2
        go_ret
        exact ⟨by rw [HA2.out]; rfl, hbw⟩
    · have hkk : k = xs.length := by omega
      subst hkk
      have HA := Lib.hid (hc.out.trans cmpL_end)
      by_cases hlt2 : xs.length < ys.length
      · have HA2 : Hid (cmpL xs ys = -1) := by show _ = _; rw [HA.out, if_pos hlt2]
        go_wp2
        go_ret
        exact ⟨by rw [HA2.out]; rfl, hbw⟩
      · have HA2 : Hid (cmpL xs ys = 0) := by show _ = _; rw [HA.out, if_neg hlt2]
        go_wp2
        go_ret
        exact ⟨by rw [HA2.out]; rfl, hbw⟩

set_option maxHeartbeats 1000000 in
theorem before_any (a : Option Addr) (xs : List Int) (ca : Nat) (b : Option Addr) (ys : List Int) (cb : Nat) (w : World) (hx : IntSl w a xs) (hy : IntSl w b ys) (hl : xs.length ≤ 1000000) :
    Calls Tryz.prog 114 #[.slice a xs.length ca, .slice b ys.length cb] w fun e w' => e = .returned (.bool (beforeB xs ys)) ∧ Below w.heap.size w w' := by
  have HX := Lib.hid (And.intro hx (And.intro hy hl))
  clear hx hy hl
  by_cases hlen : xs.length = ys.length
  · have hlb : ((xs.length : Int) != (ys.length : Int)) = false := by simp [hlen]
    have HR : Hid (beforeB xs ys = decide (cmpL xs ys < 0)) := by show _ = _; rw [beforeB, if_pos hlen]
    clear hlen
    go_enter Tryz.func114, Tryz.ntmps114
    go_wp2_with (go_at_call 62; refine (compare_any a xs ca b ys cb _ HX.out.1 HX.out.2.1 HX.out.2.2).mono ?_; rintro e w1 ⟨rfl, hb1⟩)
    go_ret
    exact ⟨by rw [HR.out]; rfl, hb1⟩
  · have hlb : ((xs.length : Int) != (ys.length : Int)) = true := by simp; omega
    have HR : Hid (beforeB xs ys = decide (xs.length < ys.length)) := by show _ = _; rw [beforeB, if_neg hlen]
    clear hlen
    go_enter Tryz.func114, Tryz.ntmps114
    go_wp2
    go_ret
    exact ⟨ret_bool (by rw [HR.out]), Below.refl _ _⟩
end Go.Proofs.YtmebmcipmemofaaGreat

namespace Go.Proofs.YtmebmcipmemofaaGreat
open Go.RowKit Go.Shelf
attribute [local go_sem] Oper.semAt_some

/-- One course more. -/
def yStep (xs : List Lp) (r : Ru) (st : Option (List Int × List Int)) (c : List Int) : Option (List Int × List Int) :=
  match st with
  | none => some (rulesL (judgeM xs r c), c)
  | some (b, f) => if beforeB (rulesL (judgeM xs r c)) b = true then some (rulesL (judgeM xs r c), c) else some (b, f)
def yOf (xs : List Lp) (r : Ru) (cs : List (List Int)) : Option (List Int × List Int) := cs.foldl (yStep xs r) none
theorem yOf_snoc (xs : List Lp) (r : Ru) (cs : List (List Int)) (c : List Int) : yOf xs r (cs ++ [c]) = yStep xs r (yOf xs r cs) c := by simp [yOf]
def yPair (st : Option (List Int × List Int)) : List Int × List Int × Int := match st with | none => ([], [], 0) | some (b, f) => (b, f, 0)
def yieldR (xs : List Lp) (r : Ru) : List Int × List Int × Int :=
  if checkE xs r = 0 then yPair (yOf xs r (extC xs.length r.laps.toNat [] 0)) else ([], [], checkE xs r)

/-- A call that hands back rules, a course and an error; nothing that was there before it has turned. -/
def OutY (w : World) (x : List Int × List Int × Int) (e : Ending) (w' : World) : Prop := ∃ a ca b cb, e = .returned (.tuple #[.slice a x.1.length ca, .slice b x.2.1.length cb, .int .i64 x.2.2]) ∧ IntSl w' a x.1 ∧ IntSl w' b x.2.1 ∧ Below w.heap.size w w'
theorem OutY.nil {w w' : World} {err : Int} {e : Ending} (he : e = .returned (.tuple #[.slice none 0 0, .slice none 0 0, .int .i64 err])) (hb : Below w.heap.size w w') : OutY w ([], [], err) e w' :=
  ⟨none, 0, none, 0, he, (fun h => by simp at h), (fun h => by simp at h), hb⟩

/-- What Yield's loop keeps. -/
structure YInv (W0 : World) (st : Option (List Int × List Int)) (W : World) : Prop where
  b : Below W0.heap.size W0 W
  best : match st with
    | none => W.heap[W0.heap.size]? = some (.cells #[.slice none 0 0] 106 (0, 0)) ∧ W.heap[W0.heap.size + 1]? = some (.cells #[.slice none 0 0] 137 (0, 0))
    | some (rs, c) => ∃ (p : Option Addr) (pcap : Nat) (q : Addr) (cap : Nat), W.heap[W0.heap.size]? = some (.cells #[.slice p rs.length pcap] 106 (0, 0)) ∧ W.heap[W0.heap.size + 1]? = some (.cells #[.slice (some q) c.length cap] 137 (0, 0)) ∧ IntSl W p rs ∧ (∀ x, p = some x → W0.heap.size + 10 ≤ x.block) ∧ IntSl W (some q) c ∧ W0.heap.size + 10 ≤ q.block

theorem YInv.apart {W0 W W' : World} {st : Option (List Int × List Int)} (h : YInv W0 st W) (ha : Apart (intv 6 (W0.heap.size + 4)) W W') : YInv W0 st W' := by
  have hk : ∀ k, k < W0.heap.size + 4 ∨ W0.heap.size + 10 ≤ k → k < W.heap.size → W'.heap[k]? = W.heap[k]? := fun k h1 h2 => ha.block k h2 (fun h3 => by have := h3.1; have := h3.2; omega)
  refine ⟨h.b.trans ⟨ha.os, ha.tape, ha.output, ha.size, fun k hk' => hk k (by omega) (Nat.lt_of_lt_of_le hk' h.b.size)⟩, ?_⟩
  have hb := h.best
  cases st with
  | none => exact ⟨(hk _ (by omega) (lt_of_block hb.1)).trans hb.1, (hk _ (by omega) (lt_of_block hb.2)).trans hb.2⟩
  | some s =>
    obtain ⟨p, pcap, q, cap, h1, h2, h3, h4, h5, h6⟩ := hb
    exact ⟨p, pcap, q, cap, (hk _ (by omega) (lt_of_block h1)).trans h1, (hk _ (by omega) (lt_of_block h2)).trans h2, ints_same h3 ha.size (fun x hx hl => hk _ (.inr (h4 x hx)) hl), h4, ints_same h5 ha.size (fun p hp hl => by cases hp; exact hk _ (.inr h6) hl), h6⟩

theorem YInv.put {w1 W1 w2 : World} {st : Option (List Int × List Int)} (hC : YInv w1 st W1) (hb2 : Below W1.heap.size W1 w2) {v0 v1 : Value} (e0 : W1.heap[w1.heap.size]? = some (.cells #[v0] 106 (0, 0))) (e1 : W1.heap[w1.heap.size + 1]? = some (.cells #[v1] 137 (0, 0)))
    {rs c : List Int} {p : Option Addr} {pcap : Nat} {q : Addr} {cap : Nat} (hP : IntSl w2 p rs) (hp : ∀ x, p = some x → w1.heap.size + 10 ≤ x.block) (hI : IntSl w2 (some q) c) (hq : w1.heap.size + 10 ≤ q.block) :
    YInv w1 (some (rs, c)) ((w2.setCell ⟨w1.heap.size, 0, none⟩ (.slice p rs.length pcap)).setCell ⟨w1.heap.size + 1, 0, none⟩ (.slice (some q) c.length cap)) := by
  have key : ∀ (k : Nat), w1.heap.size + 10 ≤ k → ((w2.setCell ⟨w1.heap.size, 0, none⟩ (.slice p rs.length pcap)).setCell ⟨w1.heap.size + 1, 0, none⟩ (.slice (some q) c.length cap)).heap[k]? = w2.heap[k]? := fun k hk =>
    (Below.heap_setCell _ _ _ _ (by show k ≠ w1.heap.size + 1; omega)).trans (Below.heap_setCell _ _ _ _ (by show k ≠ w1.heap.size; omega))
  refine ⟨((hC.b.trans (hb2.mono hC.b.size)).setCell (p := ⟨w1.heap.size, 0, none⟩) (Nat.le_refl _) _).setCell (p := ⟨w1.heap.size + 1, 0, none⟩) (by show w1.heap.size ≤ w1.heap.size + 1; omega) _, p, pcap, q, cap, blk_other (blk_setCell (blk_below e0 hb2)) (by omega), blk_setCell (blk_other (blk_below e1 hb2) (by omega)), ?_, hp, ?_, hq⟩
  · refine ints_same hP (by rw [World.size_setCell, World.size_setCell]; exact Nat.le_refl _) (fun x hx _ => key _ (hp x hx))
  · refine ints_same hI (by rw [World.size_setCell, World.size_setCell]; exact Nat.le_refl _) (fun x hx _ => by cases hx; exact key _ hq)

set_option maxHeartbeats 800000 in
set_option maxRecDepth 100000 in
theorem yield_in (n : Nat) (a : Option Addr) (xs : List Lp) (cap : Nat) (r : Ru) (w : World) (hx : Sl 3 Lp.cells w a xs) (hl : xs.length ≤ 1000000) :
    CallsIn Fence.wide n Tryz.prog 60 #[.slice a xs.length cap, r.v] w (OutY w (yieldR xs r)) := by
  have q136 : ∀ (w : World) (a : Option Addr) (n c n' c' : Nat), (binOp .eql 137 (.slice a n c) (.slice none n' c')).run Tryz.prog w = .ok (.bool a.isNone) w := fun w a n c n' c' => Lib.run_eql_slice_nil w _ _ a n c n' c' Tryz.underlying137
  obtain ⟨Wa, hWa⟩ : ∃ Wa, (w.alloc (.cells #[.slice a xs.length cap] 22)).alloc r.o = Wa := ⟨_, rfl⟩
  have hba : Below w.heap.size w Wa := by rw [← hWa]; exact ((Below.refl _ _).alloc (Nat.le_refl _) _).alloc (by simp) _
  have h0 : Wa.heap[w.heap.size]? = some (.cells #[.slice a xs.length cap] 22 (0, 0)) := by rw [← hWa]; exact alk (new_at rfl)
  have h1 : RuAt Wa (w.heap.size + 1) r := by rw [← hWa]; exact new_at (by simp)
  refine callsIn_of_wp_marks Tryz.func60 rfl trivial ?_ rfl
  simp only [Tryz.ntmps60, List.size_toArray, List.length_cons, List.length_nil, Nat.reduceAdd, Nat.reduceSub, Array.replicate_succ, Array.replicate_zero, List.push_toArray, List.append_toArray, List.nil_append, List.cons_append]
  have t00 := blk_cell h0 0 rfl
  obtain ⟨d0, d1, d2, d3, d4, d5, d6, d7, d8⟩ := h1.cells
  gi_wp2_with fail
  clear hWa t00 d0 d1 d2 d3 d4 d5 d6 d7 d8
  refine ⟨trivial, (fun h => by cases h), ?_⟩
  refine (callsIn_wide.2 (check_any a xs cap r _ (hx.below hba) hl)).mono ?_
  rintro e w1 ⟨rfl, hb⟩
  have hb1 := below_self hba hb
  by_cases hck : checkE xs r = 0
  · have h1b : (checkE xs r != 0) = false := by simp [hck]
    have HR : Hid (yieldR xs r = yPair (yOf xs r (extC xs.length r.laps.toNat [] 0))) := by show _ = _; rw [yieldR, if_pos hck]
    have HCK := Lib.hid hck
    clear hck
    have t0 := blk_cell (blk_below h0 hb) 0 rfl
    obtain ⟨c0, c1, c2, c3, c4, c5, c6, c7, c8⟩ := (h1.below hb).cells
    have hz1 : w.heap.size + 2 ≤ w1.heap.size := by have := lt_of_block h1; have := hb.size; omega
    have hz2 : w.heap.size < w1.heap.size := by omega
    have hz3 : w.heap.size + 1 < w1.heap.size := by omega
    gi_wp2_with (refine ⟨trivial, (fun h => by cases h), ?_⟩; refine (callsIn_wide.2 (courses_any xs.length r.laps _)).mono ?_; rintro e w2 ⟨rfl, rfl⟩)
    have hal := (stad_ok (check_ok HCK.out).1).1
    have hl12 := (stad_ok (check_ok HCK.out).1).2
    have hab : ∀ p, a = some p → p.block < w.heap.size := sl_lt hx (by omega)
    have hs0 := blk_below h0 hb
    have hs1 := h1.below hb
    clear t0 c0 c1 c2 c3 c4 c5 c6 c7 c8
    obtain ⟨Wr, hWr⟩ : ∃ Wr, (((w1.alloc (.cells #[.slice none 0 0] 106)).alloc (.cells #[.slice none 0 0] 137)).alloc (.cells #[.int .i64 xs.length] 3)).alloc (.cells #[.int .i64 r.laps] 3) = Wr := ⟨_, rfl⟩
    have hzr : Wr.heap.size = w1.heap.size + 4 := by rw [← hWr]; simp
    have hbr : Below w1.heap.size w1 Wr := by rw [← hWr]; exact ((((Below.refl _ _).alloc (Nat.le_refl _) _).alloc (by simp) _).alloc (by simp <;> omega) _).alloc (by simp <;> omega) _
    have g0 : Wr.heap[w1.heap.size]? = some (.cells #[.slice none 0 0] 106 (0, 0)) := by rw [← hWr]; exact alk (alk (alk (new_at rfl)))
    have g1 : Wr.heap[w1.heap.size + 1]? = some (.cells #[.slice none 0 0] 137 (0, 0)) := by rw [← hWr]; exact alk (alk (new_at (by simp)))
    have g2 : Wr.heap[w1.heap.size + 1 + 1]? = some (.cells #[.int .i64 xs.length] 3 (0, 0)) := by rw [← hWr]; exact alk (new_at (by simp))
    have g3 : Wr.heap[w1.heap.size + 1 + 1 + 1]? = some (.cells #[.int .i64 ((r.laps.toNat : Nat) : Int)] 3 (0, 0)) := by rw [← (laps_nat HCK.out).1, ← hWr]; exact new_at (by simp)
    have hlap := (laps_nat HCK.out).2
    have hseq := courses1_seq xs.length r.laps.toNat (by omega) ⟨hlap.1, by omega⟩ (w1.heap.size + 1 + 1) (w1.heap.size + 1 + 1 + 1) Wr g2 g3
    have notOwn : ∀ j, w1.heap.size ≤ j → j < w1.heap.size + 2 → ¬ ownOf (fun k => k = w1.heap.size + 1 + 1 ∨ k = w1.heap.size + 1 + 1 + 1) (4 + 2) Wr.heap.size j := fun j h0 hj h => by
        rw [hzr] at h
        rcases h with (h | h) | h
        · omega
        · omega
        · omega
    have hext : ∀ c ∈ extC xs.length r.laps.toNat [] 0, c.length = r.laps.toNat ∧ ∀ i ∈ c, 0 ≤ i ∧ i < (xs.length : Int) := fun c hc => by simpa using extC_ok xs.length r.laps.toNat [] 0 (by simp) c hc
    generalize hS : extC xs.length r.laps.toNat [] 0 = S at hseq HR hext
    rw [hWr]
    clear hWr hS
    refine range_seqC (gf := 153) (lb := #[.pointer (some ⟨w1.heap.size + 1 + 1 + 1, 0, none⟩), .pointer (some ⟨w1.heap.size + 1 + 1, 0, none⟩)]) rfl eg123 hseq (Below.refl _ _) (fun k h => by
        rw [hzr]
        rcases h with h | h <;> omega)
      (fun pre W' => YInv w1 (yOf xs r pre) W') (fun _ _ => False)
      (fun s A B h hap => h.apart (by rw [hzr] at hap; exact hap)) (fun _ _ _ h _ => h)
      ⟨hbr, g0, g1⟩
      (fun v => { tmps := #[.slice a xs.length cap, r.v, .pointer (some ⟨w.heap.size, 0, none⟩), .pointer (some ⟨w.heap.size + 1, 0, none⟩), .slice none 0 0, .slice none 0 0, .int .i64 0, .int .i64 (checkE xs r), .pointer (some ⟨w1.heap.size, 0, none⟩), .pointer (some ⟨w1.heap.size + 1, 0, none⟩), v, undef, .slice a xs.length cap, r.v, .int .i64 (checkE xs r), .int .i64 (checkE xs r), .bool false, undef, .slice a xs.length cap, .int .i64 xs.length, .pointer (some ⟨w.heap.size + 1, 0, none⟩), .int .i64 r.laps, .func (.func 153) #[] #[.pointer (some ⟨w1.heap.size + 1 + 1 + 1, 0, none⟩), .pointer (some ⟨w1.heap.size + 1 + 1, 0, none⟩)], v, undef, undef, undef, undef, undef, undef, undef, undef, undef, undef, undef, undef, undef, undef, undef, undef], defers := [] })
      ?assign ?body ?done ?stop
    case assign =>
      intro l k v W K hK
      gi_wp2
      exact hK
    case body =>
      rintro l2 k pre c av ccap W1 hC hpre hsl hty hfr
      have hcS : c ∈ S := hpre.subset (by simp)
      obtain ⟨hcl, hci⟩ := hext c hcS
      have HCI := Lib.hid hci
      clear hci hext
      have hc1 : 0 < c.length := by omega
      have hc2 : c.length ≤ 1000000 := by omega
      have HST : Hid (yOf xs r (pre ++ [c]) = yStep xs r (yOf xs r pre) c) := yOf_snoc _ _ _ _
      clear hcl hcS hpre
      obtain ⟨qb, qo, hav, hqb, hqc⟩ := hsl hc1
      subst hav
      have hq10 : w1.heap.size + 10 ≤ qb := by have := hfr _ rfl; rw [hzr] at this; have : w1.heap.size + 4 + 2 + 4 ≤ qb := this; omega
      clear hqc hfr
      have s0 := blk_cell (blk_below hs0 hC.b) 0 rfl
      obtain ⟨c0, c1, c2, c3, c4, c5, c6, c7, c8⟩ := (hs1.below hC.b).cells
      have hxW := hx.below (below_self hb1 hC.b)
      generalize hst : yOf xs r pre = st at hC HST
      clear hst
      have hbest := hC.best
      have HW := Lib.hid (And.intro hxW (And.intro hsl (And.intro hal (And.intro hl12 hc2))))
      have HQ : Hid (w1.heap.size + 10 ≤ qb ∧ qb < W1.heap.size) := ⟨hq10, hqb⟩
      cases st with
      | none =>
        obtain ⟨e0, e1⟩ := hbest
        have HF : Hid (yOf xs r (pre ++ [c]) = some (rulesL (judgeM xs r c), c)) := HST.out
        gi_wp2_with (first
          | (refine ⟨trivial, (fun h => by cases h), ?_⟩; gi_at_call 109; refine (CallsIn.inRound l2 (callsIn_wide.2 (judge_any a xs cap r (some ⟨qb, qo, none⟩) c ccap _ HW.out.1 HW.out.2.1 (by have := HW.out.2.2.2.1; omega) HW.out.2.2.2.2 HW.out.2.2.1 HCI.out))).mono ?_; rintro e w2 ⟨rfl, hb2⟩)
          | (refine ⟨trivial, (fun h => by cases h), ?_⟩; gi_at_call 110; refine (CallsIn.inRound l2 (callsIn_wide.2 (rules_any (judgeM xs r c) _))).mono ?_; rintro e w3 ⟨p3, pcap3, rfl, hI3, hf3, hb3⟩; have hb23 := below_self hb2 hb3; have f0 := blk_cell (blk_below e0 hb23) 0 rfl; have f1 := blk_free (j := 0) (blk_below e0 hb23); have f2 := blk_cell (blk_below e1 hb23) 0 rfl; have f3 := blk_free (j := 0) (blk_below e1 hb23)))
        refine ⟨trivial, ?_⟩
        gi_wp2
        refine ⟨((Keeps.of_below hb23).trans (Keeps.setCell _ (q := ⟨w1.heap.size, 0, none⟩) (notOwn (w1.heap.size) (by omega) (by omega)) _)).trans (Keeps.setCell _ (q := ⟨w1.heap.size + 1, 0, none⟩) (notOwn (w1.heap.size + 1) (by omega) (by omega)) _), ?_⟩
        show YInv w1 (yOf xs r (pre ++ [c])) _
        rw [HF.out]
        exact hC.put hb23 e0 e1 hI3 (fun x hx => by have h1 := hf3 x hx; have h2 := hb2.size; have h3 := HQ.out; omega) (hsl.below hb23) hq10
      | some s =>
        obtain ⟨rs, f⟩ := s
        obtain ⟨p, pcap, q, qcap, e0, e1, e2, e3, e4, e5⟩ := hbest
        have HE := Lib.hid (And.intro e2 e3)
        clear e2 e3
        cases hbf : beforeB (rulesL (judgeM xs r c)) rs
        · have HF : Hid (yOf xs r (pre ++ [c]) = some (rs, f)) := by show _ = _; rw [HST.out]; simp [yStep, hbf]
          gi_wp2_with (first
            | (refine ⟨trivial, (fun h => by cases h), ?_⟩; gi_at_call 109; refine (CallsIn.inRound l2 (callsIn_wide.2 (judge_any a xs cap r (some ⟨qb, qo, none⟩) c ccap _ HW.out.1 HW.out.2.1 (by have := HW.out.2.2.2.1; omega) HW.out.2.2.2.2 HW.out.2.2.1 HCI.out))).mono ?_; rintro e w2 ⟨rfl, hb2⟩)
            | (refine ⟨trivial, (fun h => by cases h), ?_⟩; gi_at_call 110; refine (CallsIn.inRound l2 (callsIn_wide.2 (rules_any (judgeM xs r c) _))).mono ?_; rintro e w3 ⟨p3, pcap3, rfl, hI3, hf3, hb3⟩; have hb23 := below_self hb2 hb3; have HI3 := Lib.hid hI3; clear hI3; have f0 := blk_cell (blk_below e0 hb23) 0 rfl; have f2 := blk_cell (blk_below e1 hb23) 0 rfl)
            | (refine ⟨trivial, (fun h => by cases h), ?_⟩; gi_at_call 114; refine (CallsIn.inRound l2 (callsIn_wide.2 (before_any p3 (rulesL (judgeM xs r c)) pcap3 p rs pcap _ HI3.out (HE.out.1.below hb23) (by have := rulesTo_le (judgeM xs r c).list 5; show (rulesTo _ 5).length ≤ _; omega)))).mono ?_; rintro e w4 ⟨rfl, hb4⟩; rw [hbf]; have hb24 := below_self hb23 hb4))
          refine ⟨Keeps.of_below hb24, ?_⟩
          show YInv w1 (yOf xs r (pre ++ [c])) _
          rw [HF.out]
          exact hC.apart (Apart.of_below hb24)
        · have HF : Hid (yOf xs r (pre ++ [c]) = some (rulesL (judgeM xs r c), c)) := by show _ = _; rw [HST.out]; simp [yStep, hbf]
          gi_wp2_with (first
            | (refine ⟨trivial, (fun h => by cases h), ?_⟩; gi_at_call 109; refine (CallsIn.inRound l2 (callsIn_wide.2 (judge_any a xs cap r (some ⟨qb, qo, none⟩) c ccap _ HW.out.1 HW.out.2.1 (by have := HW.out.2.2.2.1; omega) HW.out.2.2.2.2 HW.out.2.2.1 HCI.out))).mono ?_; rintro e w2 ⟨rfl, hb2⟩)
            | (refine ⟨trivial, (fun h => by cases h), ?_⟩; gi_at_call 110; refine (CallsIn.inRound l2 (callsIn_wide.2 (rules_any (judgeM xs r c) _))).mono ?_; rintro e w3 ⟨p3, pcap3, rfl, hI3, hf3, hb3⟩; have hb23 := below_self hb2 hb3; have HI3 := Lib.hid hI3; clear hI3; have f0 := blk_cell (blk_below e0 hb23) 0 rfl; have f2 := blk_cell (blk_below e1 hb23) 0 rfl)
            | (refine ⟨trivial, (fun h => by cases h), ?_⟩; gi_at_call 114; refine (CallsIn.inRound l2 (callsIn_wide.2 (before_any p3 (rulesL (judgeM xs r c)) pcap3 p rs pcap _ HI3.out (HE.out.1.below hb23) (by have := rulesTo_le (judgeM xs r c).list 5; show (rulesTo _ 5).length ≤ _; omega)))).mono ?_; rintro e w4 ⟨rfl, hb4⟩; rw [hbf]; have hb24 := below_self hb23 hb4; have hI4 := Lib.hid (HI3.out.below hb4); clear f0 f2; have f0 := blk_cell (blk_below e0 hb24) 0 rfl; have f1 := blk_free (j := 0) (blk_below e0 hb24); have f2 := blk_cell (blk_below e1 hb24) 0 rfl; have f3 := blk_free (j := 0) (blk_below e1 hb24)))
          refine ⟨((Keeps.of_below hb24).trans (Keeps.setCell _ (q := ⟨w1.heap.size, 0, none⟩) (notOwn (w1.heap.size) (by omega) (by omega)) _)).trans (Keeps.setCell _ (q := ⟨w1.heap.size + 1, 0, none⟩) (notOwn (w1.heap.size + 1) (by omega) (by omega)) _), ?_⟩
          show YInv w1 (yOf xs r (pre ++ [c])) _
          rw [HF.out]
          exact hC.put hb24 e0 e1 hI4.out (fun x hx => by have h1 := hf3 x hx; have h2 := hb2.size; have h3 := HQ.out; omega) (hsl.below hb24) hq10
    case done =>
      rintro W2 hC hK
      have hbest := hC.best
      have hB4 : Below w.heap.size w (W2.putObj Wr.heap.size (.deferred none)) := (below_self hb1 hC.b).trans ⟨rfl, rfl, rfl, by rw [putObj_size]; exact Nat.le_refl _, fun j hj => World.putObj_heap_other (by omega)⟩
      have HB4 := Lib.hid hB4
      clear hB4
      generalize yOf xs r S = st at hC HR hbest
      cases st with
      | none =>
        obtain ⟨e0, e1⟩ := hbest
        have f0 := blk_cell e0 0 rfl
        have f1 := blk_cell e1 0 rfl
        gi_wp2
        gi_region
        all_goals gi_wp2
        all_goals (try refine ⟨by simp, ?_⟩)
        all_goals refine .inl ⟨_, _, rfl, run_takeDeferred (show W2.drew.heap[_]? = _ from hK), ?_⟩
        all_goals (refine ⟨_, by simp [results, Tryz.results60, go_sem]; rfl, ?_⟩; rw [HR.out])
        all_goals exact OutY.nil rfl (by obtain ⟨x1, x2, x3, x4, x5⟩ := HB4.out; exact ⟨x1, x2, x3, x4, x5⟩)
      | some s =>
        obtain ⟨rs, f⟩ := s
        obtain ⟨p, pcap, q, qcap, e0, e1, e2, e3, e4, e5⟩ := hbest
        have f0 := blk_cell e0 0 rfl
        have f1 := blk_cell e1 0 rfl
        have HE := Lib.hid (And.intro e2 (And.intro e3 (And.intro e4 e5)))
        clear e2 e3 e4 e5
        gi_wp2
        gi_region
        all_goals gi_wp2
        all_goals (try refine ⟨by simp, ?_⟩)
        all_goals refine .inl ⟨_, _, rfl, run_takeDeferred (show W2.drew.heap[_]? = _ from hK), ?_⟩
        all_goals (refine ⟨_, by simp [results, Tryz.results60, go_sem]; rfl, ?_⟩; rw [HR.out])
        all_goals exact ⟨p, pcap, some q, qcap, rfl, ints_same HE.out.1 (by rw [putObj_size]; exact Nat.le_refl _) (fun x hx _ => World.putObj_heap_other (w := W2) (by have := HE.out.2.1 x hx; omega)), ints_same HE.out.2.2.1 (by rw [putObj_size]; exact Nat.le_refl _) (fun x hx _ => by cases hx; exact World.putObj_heap_other (w := W2) (by have := HE.out.2.2.2; omega)), (by obtain ⟨x1, x2, x3, x4, x5⟩ := HB4.out; exact ⟨x1, x2, x3, x4, x5⟩)⟩
    case stop =>
      rintro pre W2 _ h _
      exact h.elim
  · have h1b : (checkE xs r != 0) = true := by simp [hck]
    have HR2 : Hid (yieldR xs r = ([], [], checkE xs r)) := by show _ = _; rw [yieldR, if_neg hck]
    clear hck
    gi_wp2
    refine ⟨_, by simp [results, Tryz.results60, go_sem]; rfl, ?_⟩
    rw [HR2.out]
    exact OutY.nil rfl hb1
theorem yield_any (a : Option Addr) (xs : List Lp) (cap : Nat) (r : Ru) (w : World) (hx : Sl 3 Lp.cells w a xs) (hl : xs.length ≤ 1000000) :
    Calls Tryz.prog 60 #[.slice a xs.length cap, r.v] w (OutY w (yieldR xs r)) := callsIn_wide.1 (yield_in 0 a xs cap r w hx hl)
end Go.Proofs.YtmebmcipmemofaaGreat

namespace Go.Proofs.YtmebmcipmemofaaGreat
open Go.RowKit Go.Shelf
attribute [local go_sem] Oper.semAt_some

def failR (stock store : Int) (ds : List Dy) : Int × Int × Int := if winE stock store ds = 0 then (if (worstL stock store ds).fails = -1 then (0, 0, 6) else ((worstL stock store ds).fails, (worstL stock store ds).full, 0)) else (0, 0, winE stock store ds)
def OutFail (w : World) (x : Int × Int × Int) (e : Ending) (w' : World) : Prop := ∃ (a b c : Option Addr) (n1 c1 n2 c2 n3 c3 : Nat), e = .returned (.tuple #[.agg #[.slice a n1 c1, .slice b n2 c2, .slice c n3 c3, .int .i64 x.1, .int .i64 x.2.1], .int .i64 x.2.2]) ∧ Below w.heap.size w w'

/-- What stands below a world past which little has happened. -/
theorem below_past {X Y w2 : World} (hb : Below Y.heap.size Y w2) (h1 : Y.os = X.os) (h2 : Y.tape = X.tape) (h3 : Y.output = X.output) (h4 : X.heap.size ≤ Y.heap.size) (h5 : ∀ k, k < X.heap.size → Y.heap[k]? = X.heap[k]?) : Below X.heap.size X w2 :=
  ⟨hb.os.trans h1, hb.tape.trans h2, hb.output.trans h3, Nat.le_trans h4 hb.size, fun k hk => (hb.block k (Nat.lt_of_lt_of_le hk h4)).trans (h5 k hk)⟩
theorem past_drew {X w2 : World} (hb : Below X.drew.heap.size X.drew w2) : Below X.heap.size X w2 := below_past hb rfl rfl rfl (Nat.le_refl _) (fun _ _ => rfl)
theorem past_alloc {X w2 : World} {o : Obj} (hb : Below (X.drew.alloc o).heap.size (X.drew.alloc o) w2) : Below X.heap.size X w2 ∧ w2.heap[X.heap.size]? = some o := ⟨below_past hb rfl rfl rfl (by simp) (fun k hk => Below.heap_alloc X.drew o k hk), blk_below (heap_alloc_new X.drew o) hb⟩
theorem past_alloc' {X w2 : World} {o : Obj} (hb : Below (X.alloc o).heap.size (X.alloc o) w2) : Below X.heap.size X w2 ∧ w2.heap[X.heap.size]? = some o := ⟨below_past hb rfl rfl rfl (by simp) (fun k hk => Below.heap_alloc X o k hk), blk_below (heap_alloc_new X o) hb⟩

theorem tale_new {w W : World} (hb : Below w.heap.size w W) {k : Nat} {o0 : Obj} (h : W.heap[k]? = some o0) (o : Obj) : Below w.heap.size w (W.alloc o) ∧ (W.alloc o).heap[W.heap.size]? = some o ∧ (W.alloc o).heap[k]? = some o0 :=
  ⟨hb.alloc hb.size o, heap_alloc_new W o, alk h⟩

set_option maxRecDepth 100000 in
set_option maxHeartbeats 1000000 in
theorem failing_any (stock store : Int) (a : Option Addr) (ds : List Dy) (cap : Nat) (w : World) (hx : Sl 6 Dy.cells w a ds) (hl : ds.length ≤ 1000000) :
    Calls Tryz.prog 118 #[wv stock store a ds.length cap] w (OutFail w (failR stock store ds)) := by
  have HX := Lib.hid (And.intro hx hl)
  clear hx hl
  obtain ⟨Wa, hWa⟩ : ∃ Wa, (w.alloc (.cells #[.int .i64 stock, .int .i64 store, .slice a ds.length cap] 56)).alloc (.cells #[.slice none 0 0, .slice none 0 0, .slice none 0 0, .int .i64 0, .int .i64 0] 163) = Wa := ⟨_, rfl⟩
  have hba : Below w.heap.size w Wa := by rw [← hWa]; exact ((Below.refl _ _).alloc (Nat.le_refl _) _).alloc (by simp) _
  have h0 : Wa.heap[w.heap.size]? = some (.cells #[.int .i64 stock, .int .i64 store, .slice a ds.length cap] 56 (0, 0)) := by rw [← hWa]; exact alk (new_at rfl)
  have h1 : Wa.heap[w.heap.size + 1]? = some (.cells #[.slice none 0 0, .slice none 0 0, .slice none 0 0, .int .i64 0, .int .i64 0] 163 (0, 0)) := by rw [← hWa]; exact new_at (by simp)
  have a0 := blk_cell h0 0 rfl
  have a1 := blk_cell h0 1 rfl
  have a2 := blk_cell h0 2 rfl
  go_enter Tryz.func118, Tryz.ntmps118
  go_wp2_with (fail)
  clear hWa a0 a1 a2
  refine (checkWinter_any stock store a ds cap _ (HX.out.1.below hba) HX.out.2).mono ?_
  rintro e w1 ⟨rfl, hb1⟩
  have H1 := Lib.hid (And.intro (below_self hba hb1) (And.intro (blk_below h0 hb1) (blk_below h1 hb1)))
  clear hba h0 h1 hb1
  by_cases hw : winE stock store ds = 0
  · have hwb : (winE stock store ds != 0) = false := by simp [hw]
    have HW := Lib.hid hw
    clear hw
    have c0 := blk_cell H1.out.2.1 0 rfl
    have c1 := blk_cell H1.out.2.1 1 rfl
    have c2 := blk_cell H1.out.2.1 2 rfl
    obtain ⟨b1, b2, b3⟩ := win_ok HW.out
    have HOK := Lib.hid (And.intro b1 (And.intro b2 b3))
    clear b1 b2 b3
    have n1 : w1.heap.size ≠ w.heap.size := Nat.ne_of_gt (lt_of_block H1.out.2.1)
    go_wp2_with (fail)
    go_region_held3 (fun w' => w'.cell? ⟨w.heap.size, 0, none⟩ = some (.int .i64 stock) ∧ w'.cell? ⟨w.heap.size, 1, none⟩ = some (.int .i64 store) ∧ w'.cell? ⟨w.heap.size, 2, none⟩ = some (.slice a ds.length cap)) (go_keep)
      (first
        | (go_at_call 120
           refine (play_worst (by first | exact H3.out.2.2.2.1 | exact H3.out.2.2.2.1.below ((Below.refl _ _).alloc (Nat.le_refl _) _)) (by first | exact H3.out.2.2.2.2.1 | exact H3.out.2.2.2.2.1.below ((Below.refl _ _).alloc (Nat.le_refl _) _)) (by first | exact H3.out.2.2.2.2.2 | exact H3.out.2.2.2.2.2.below ((Below.refl _ _).alloc (Nat.le_refl _) _)) HOK.out.2.1.2 ⟨HOK.out.1.1, HOK.out.1.2.1, HOK.out.1.2.2.2⟩ HOK.out.2.2).mono ?_
           rintro e w4 ⟨sa, sc, ma, mc, pa, pn, pc, rfl, hs, hm, hb4⟩
           first
             | (have K4 : Hid (Below w3.heap.size w3 w4) := hb4
                try (have TT' := Lib.hid (blk_below TT.out K4.out); clear TT t0 u0 t1 u1 t2 u2 t3 u3 t4 u4; have TT := TT'; clear TT'; have t0 := blk_cell TT.out 0 rfl; have u0 := blk_free (j := 0) TT.out; have t1 := blk_cell TT.out 1 rfl; have u1 := blk_free (j := 1) TT.out; have t2 := blk_cell TT.out 2 rfl; have u2 := blk_free (j := 2) TT.out; have t3 := blk_cell TT.out 3 rfl; have u3 := blk_free (j := 3) TT.out; have t4 := blk_cell TT.out 4 rfl; have u4 := blk_free (j := 4) TT.out))
             | (have K4' := past_alloc' (X := w3) (o := .cells #[.slice none 0 0, .slice none 0 0, .slice none 0 0, .int .i64 0, .int .i64 0] 163) hb4; have K4 := Lib.hid K4'.1; have TT := Lib.hid K4'.2; clear K4'; have t0 := blk_cell TT.out 0 rfl; have u0 := blk_free (j := 0) TT.out; have t1 := blk_cell TT.out 1 rfl; have u1 := blk_free (j := 1) TT.out; have t2 := blk_cell TT.out 2 rfl; have u2 := blk_free (j := 2) TT.out; have t3 := blk_cell TT.out 3 rfl; have u3 := blk_free (j := 3) TT.out; have t4 := blk_cell TT.out 4 rfl; have u4 := blk_free (j := 4) TT.out)
           have H4 := Lib.hid (And.intro (below_self H3.out.1 K4.out) (And.intro (blk_below H3.out.2.1 K4.out) (blk_below H3.out.2.2.1 K4.out)))
           clear hs hm hb4 K4 e0 e1 e2
           have n4 : w4.heap.size ≠ w.heap.size := Nat.ne_of_gt (lt_of_block H4.out.2.1); have e0 := blk_cell H4.out.2.1 0 rfl; have e1 := blk_cell H4.out.2.1 1 rfl; have e2 := blk_cell H4.out.2.1 2 rfl)
        | (go_at_call 93
           refine (spell_any 135 136 135 Sp.hi Sp.lo Sp.hi high_f low_f high_f stock store a ds cap _ (by first | exact HX.out.1.below H2.out.1 | exact HX.out.1.below (H2.out.1.alloc H2.out.1.size _)) HX.out.2).mono ?_
           rintro e w3 ⟨⟨an, cn, am, cm, al, cl, rfl, hN, hM, hL, hb3⟩⟩
           first
             | (have K3 : Hid (Below w2.heap.size w2 w3) := hb3
                try (have TT' := Lib.hid (blk_below TT.out K3.out); clear TT t0 u0 t1 u1 t2 u2 t3 u3 t4 u4; have TT := TT'; clear TT'; have t0 := blk_cell TT.out 0 rfl; have u0 := blk_free (j := 0) TT.out; have t1 := blk_cell TT.out 1 rfl; have u1 := blk_free (j := 1) TT.out; have t2 := blk_cell TT.out 2 rfl; have u2 := blk_free (j := 2) TT.out; have t3 := blk_cell TT.out 3 rfl; have u3 := blk_free (j := 3) TT.out; have t4 := blk_cell TT.out 4 rfl; have u4 := blk_free (j := 4) TT.out))
             | (have K3' := past_alloc' (X := w2) (o := .cells #[.slice none 0 0, .slice none 0 0, .slice none 0 0, .int .i64 0, .int .i64 0] 163) hb3; have K3 := Lib.hid K3'.1; have TT := Lib.hid K3'.2; clear K3'; have t0 := blk_cell TT.out 0 rfl; have u0 := blk_free (j := 0) TT.out; have t1 := blk_cell TT.out 1 rfl; have u1 := blk_free (j := 1) TT.out; have t2 := blk_cell TT.out 2 rfl; have u2 := blk_free (j := 2) TT.out; have t3 := blk_cell TT.out 3 rfl; have u3 := blk_free (j := 3) TT.out; have t4 := blk_cell TT.out 4 rfl; have u4 := blk_free (j := 4) TT.out)
           have H3 := Lib.hid (And.intro (below_self H2.out.1 K3.out) (And.intro (blk_below H2.out.2.1 K3.out) (And.intro (blk_below H2.out.2.2 K3.out) (And.intro hN (And.intro hM hL)))))
           clear hN hM hL hb3 K3 d0 d1 d2
           have n3 : w3.heap.size ≠ w.heap.size := Nat.ne_of_gt (lt_of_block H3.out.2.1); have e0 := blk_cell H3.out.2.1 0 rfl; have e1 := blk_cell H3.out.2.1 1 rfl; have e2 := blk_cell H3.out.2.1 2 rfl)
        | (go_at_call 92
           refine (worst_any _).mono ?_
           rintro e w2 ⟨rfl, hb2⟩
           first
             | (have K2 := Lib.hid (past_drew (X := w1) hb2))
             | (have K2' := past_alloc (X := w1) (o := .cells #[.slice none 0 0, .slice none 0 0, .slice none 0 0, .int .i64 0, .int .i64 0] 163) hb2; have K2 := Lib.hid K2'.1; have TT := Lib.hid K2'.2; clear K2'; have t0 := blk_cell TT.out 0 rfl; have u0 := blk_free (j := 0) TT.out; have t1 := blk_cell TT.out 1 rfl; have u1 := blk_free (j := 1) TT.out; have t2 := blk_cell TT.out 2 rfl; have u2 := blk_free (j := 2) TT.out; have t3 := blk_cell TT.out 3 rfl; have u3 := blk_free (j := 3) TT.out; have t4 := blk_cell TT.out 4 rfl; have u4 := blk_free (j := 4) TT.out)
           have H2 := Lib.hid (And.intro (below_self H1.out.1 K2.out) (And.intro (blk_below H1.out.2.1 K2.out) (blk_below H1.out.2.2 K2.out)))
           clear hb2 K2 c0 c1 c2
           have n2 : w2.heap.size ≠ w.heap.size := Nat.ne_of_gt (lt_of_block H2.out.2.1); have d0 := blk_cell H2.out.2.1 0 rfl; have d1 := blk_cell H2.out.2.1 1 rfl; have d2 := blk_cell H2.out.2.1 2 rfl))
    all_goals (
      have k1 := lt_of_block H1.out.2.2
      have k2 := lt_of_block H2.out.2.2
      have k3 := lt_of_block H3.out.2.2.1
      have k4 := lt_of_block H4.out.2.2
      have HZ0 : Hid (∃ T : Nat, True) := ⟨0, trivial⟩
      first
        | (obtain ⟨p1, p2, p3, _⟩ := five_put (v0 := .slice sa (worstL stock store ds).stocks.length sc) (v1 := .slice ma (worstL stock store ds).made.length mc) (v2 := .slice pa pn pc) (v3 := .int .i64 (worstL stock store ds).fails) (v4 := .int .i64 (worstL stock store ds).full) TT.out (show w.heap.size ≤ _ by omega) H4.out.1
           have HZ := Lib.hid (And.intro p1 (And.intro p2 ((p3 (w.heap.size + 1) (by omega)).trans H4.out.2.2)))
           clear p1 p2 p3
           revert HZ
           generalize World.setCell _ _ _ = W5
           intro HZ)
        | (have HZ := Lib.hid (tale_new H4.out.1 H4.out.2.2 (.cells #[.slice sa (worstL stock store ds).stocks.length sc, .slice ma (worstL stock store ds).made.length mc, .slice pa pn pc, .int .i64 (worstL stock store ds).fails, .int .i64 (worstL stock store ds).full] 163))
           revert HZ
           generalize World.alloc _ _ = W5
           intro HZ)
      clear k1 k2 k3 k4 HZ0 e0 e1 e2 n1 n2 n3 n4
      have x0 := blk_cell HZ.out.2.1 0 rfl
      have x1 := blk_cell HZ.out.2.1 1 rfl
      have x2 := blk_cell HZ.out.2.1 2 rfl
      have x3 := blk_cell HZ.out.2.1 3 rfl
      have x4 := blk_cell HZ.out.2.1 4 rfl
      have z0 := blk_cell HZ.out.2.2 0 rfl
      have z1 := blk_cell HZ.out.2.2 1 rfl
      have z2 := blk_cell HZ.out.2.2 2 rfl
      have z3 := blk_cell HZ.out.2.2 3 rfl
      have z4 := blk_cell HZ.out.2.2 4 rfl
      have y0 := blk_free (j := 0) HZ.out.2.2
      have y1 := blk_free (j := 1) HZ.out.2.2
      have y2 := blk_free (j := 2) HZ.out.2.2
      have y3 := blk_free (j := 3) HZ.out.2.2
      have y4 := blk_free (j := 4) HZ.out.2.2
      by_cases hf : (worstL stock store ds).fails = -1
      · have hfb : ((worstL stock store ds).fails == -1) = true := by simp [hf]
        have HR : Hid (failR stock store ds = (0, 0, 6)) := by show _ = _; rw [failR, if_pos HW.out, if_pos hf]
        clear hf
        go_wp2_with (fail)
        obtain ⟨p1, p2, p3, p4⟩ := five_put (v0 := .slice none 0 0) (v1 := .slice none 0 0) (v2 := .slice none 0 0) (v3 := .int .i64 0) (v4 := .int .i64 0) HZ.out.2.2 (show w.heap.size ≤ w.heap.size + 1 by omega) HZ.out.1
        have q0 := blk_cell p2 0 rfl
        have q1 := blk_cell p2 1 rfl
        have q2 := blk_cell p2 2 rfl
        have q3 := blk_cell p2 3 rfl
        have q4 := blk_cell p2 4 rfl
        refine bodyPost_ret (v := .tuple #[.agg #[.slice none 0 0, .slice none 0 0, .slice none 0 0, .int .i64 0, .int .i64 0], .int .i64 6]) (by simp [results, Tryz.results118, go_sem, q0, q1, q2, q3, q4]) rfl ?_
        rw [HR.out]
        exact ⟨none, none, none, 0, 0, 0, 0, 0, 0, rfl, p1⟩
      · have hfb : ((worstL stock store ds).fails == -1) = false := by simp [hf]
        have HR : Hid (failR stock store ds = ((worstL stock store ds).fails, (worstL stock store ds).full, 0)) := by show _ = _; rw [failR, if_pos HW.out, if_neg hf]
        clear hf
        go_wp2_with (fail)
        obtain ⟨p1, p2, p3, p4⟩ := five_put (v0 := .slice sa (worstL stock store ds).stocks.length sc) (v1 := .slice ma (worstL stock store ds).made.length mc) (v2 := .slice pa pn pc) (v3 := .int .i64 (worstL stock store ds).fails) (v4 := .int .i64 (worstL stock store ds).full) HZ.out.2.2 (show w.heap.size ≤ w.heap.size + 1 by omega) HZ.out.1
        have q0 := blk_cell p2 0 rfl
        have q1 := blk_cell p2 1 rfl
        have q2 := blk_cell p2 2 rfl
        have q3 := blk_cell p2 3 rfl
        have q4 := blk_cell p2 4 rfl
        refine bodyPost_ret (v := .tuple #[.agg #[.slice sa (worstL stock store ds).stocks.length sc, .slice ma (worstL stock store ds).made.length mc, .slice pa pn pc, .int .i64 (worstL stock store ds).fails, .int .i64 (worstL stock store ds).full], .int .i64 0]) (by simp [results, Tryz.results118, go_sem, q0, q1, q2, q3, q4]) rfl ?_
        rw [HR.out]
        exact ⟨sa, ma, pa, _, sc, _, mc, pn, pc, rfl, p1⟩)
  · have hwb : (winE stock store ds != 0) = true := by simp [hw]
    have HR : Hid (failR stock store ds = (0, 0, winE stock store ds)) := by show _ = _; rw [failR, if_neg hw]
    clear hw
    have z0 := blk_cell H1.out.2.2 0 rfl
    have z1 := blk_cell H1.out.2.2 1 rfl
    have z2 := blk_cell H1.out.2.2 2 rfl
    have z3 := blk_cell H1.out.2.2 3 rfl
    have z4 := blk_cell H1.out.2.2 4 rfl
    have y0 := blk_free (j := 0) H1.out.2.2
    have y1 := blk_free (j := 1) H1.out.2.2
    have y2 := blk_free (j := 2) H1.out.2.2
    have y3 := blk_free (j := 3) H1.out.2.2
    have y4 := blk_free (j := 4) H1.out.2.2
    go_wp2_with (fail)
    obtain ⟨p1, p2, p3, p4⟩ := five_put (v0 := .slice none 0 0) (v1 := .slice none 0 0) (v2 := .slice none 0 0) (v3 := .int .i64 0) (v4 := .int .i64 0) H1.out.2.2 (show w.heap.size ≤ w.heap.size + 1 by omega) H1.out.1
    have q0 := blk_cell p2 0 rfl
    have q1 := blk_cell p2 1 rfl
    have q2 := blk_cell p2 2 rfl
    have q3 := blk_cell p2 3 rfl
    have q4 := blk_cell p2 4 rfl
    refine bodyPost_ret (v := .tuple #[.agg #[.slice none 0 0, .slice none 0 0, .slice none 0 0, .int .i64 0, .int .i64 0], .int .i64 (winE stock store ds)]) (by simp [results, Tryz.results118, go_sem, q0, q1, q2, q3, q4]) rfl ?_
    rw [HR.out]
    exact ⟨none, none, none, 0, 0, 0, 0, 0, 0, rfl, p1⟩
end Go.Proofs.YtmebmcipmemofaaGreat

namespace Go.Proofs.YtmebmcipmemofaaGreat
open Go.RowKit Go.Shelf
attribute [local go_sem] Oper.semAt_some

set_option maxRecDepth 100000 in
set_option maxHeartbeats 600000 in
theorem First_any (stock store : Int) (a : Option Addr) (ds : List Dy) (cap : Nat) (w : World) (hx : Sl 6 Dy.cells w a ds) (hl : ds.length ≤ 1000000) :
    Calls Tryz.prog 66 #[wv stock store a ds.length cap] w fun e w' => e = .returned (.tuple #[.int .i64 (failR stock store ds).1, .int .i64 (failR stock store ds).2.2]) ∧ Below w.heap.size w w' := by
  have HX := Lib.hid (And.intro hx hl)
  clear hx hl
  generalize hF : failR stock store ds = x
  have HF := Lib.hid hF
  clear hF
  obtain ⟨Wa, hWa⟩ : ∃ Wa, w.alloc (.cells #[.int .i64 stock, .int .i64 store, .slice a ds.length cap] 56) = Wa := ⟨_, rfl⟩
  have hba : Below w.heap.size w Wa := by rw [← hWa]; exact (Below.refl _ _).alloc (Nat.le_refl _) _
  have h0 : Wa.heap[w.heap.size]? = some (.cells #[.int .i64 stock, .int .i64 store, .slice a ds.length cap] 56 (0, 0)) := by rw [← hWa]; exact new_at rfl
  have a0 := blk_cell h0 0 rfl
  have a1 := blk_cell h0 1 rfl
  have a2 := blk_cell h0 2 rfl
  go_enter Tryz.func66, Tryz.ntmps66
  go_wp2_with (fail)
  clear hWa a0 a1 a2
  have HC := failing_any stock store a ds cap Wa (HX.out.1.below hba) HX.out.2
  rw [HF.out] at HC
  refine HC.mono ?_
  rintro e w1 ⟨ta, tb, tc, n1, c1, n2, c2, n3, c3, rfl, hb1⟩
  have H1 := Lib.hid (below_self hba hb1)
  clear hba h0 hb1 HC
  go_wp2_with (fail)
  go_ret2
  exact ⟨rfl, H1.out.alloc H1.out.size _⟩
end Go.Proofs.YtmebmcipmemofaaGreat

namespace Go.Proofs.YtmebmcipmemofaaGreat
open Go.RowKit Go.Shelf

def threeR2 : Ru := ⟨3, ⟨7000, 7000⟩, ⟨200, 270⟩, ⟨2000, 3000⟩, 6, 1⟩
theorem all_three : allR threeL threeR = ([[0, 0, 2], [0, 1, 1], [0, 1, 2]], 0) := by kernel_rfl
theorem broken_three : brokenR threeL threeR [1, 1, 1] = ([4], 0) := by kernel_rfl
theorem cheap_three : cheapR threeL threeR 40 = ([0, 1, 1], 10800, 0) := by kernel_rfl
theorem yield_three : yieldR threeL threeR2 = ([0], [0, 1, 2], 0) := by kernel_rfl
theorem fail_short : (failR 500 800 (shortL 500)).1 = 2 ∧ (failR 500 800 (shortL 500)).2.2 = 0 := ⟨by kernel_rfl, by kernel_rfl⟩
theorem proves_short : provesR 500 800 (shortL 500) (-1) 2 = (360, 0) := by kernel_rfl
theorem ranges_short : rangesR 500 800 (shortL 500) = ([⟨280, 390⟩, ⟨160, 600⟩], 0) := by kernel_rfl
theorem win_short : winE 500 800 (shortL 100) = 0 := by kernel_rfl

theorem least_at {n : Nat} {p : Nat → Bool} {r k : Nat} (h : LeastOf n p r) (hk : k + 1 < n) (h1 : p k = false) (h2 : p (k + 1) = true) : r = k + 1 := by
  obtain ⟨_, a, b⟩ := h
  rcases Nat.lt_trichotomy r (k + 1) with h' | h' | h'
  · have := b k (by omega) (by omega); rw [h1] at this; cases this
  · exact h'
  · have := a (k + 1) h'; rw [h2] at this; cases this
theorem least_short {e : Ending} {w w' : World} (h : OutLeastW w 500 800 (shortL 100) 0 800 (fun v => (worstL v 800 (shortL 100)).fails == -1) e w') : e = .returned (.tuple #[.int .i64 460, .int .i64 0]) ∧ Below w.heap.size w w' := by
  obtain ⟨h1, h2⟩ := h
  rw [if_pos win_short] at h1
  obtain ⟨r, hr, he⟩ := h1
  have : r = 460 := least_at (k := 459) hr (by decide) (by kernel_rfl) (by kernel_rfl)
  subst this
  exact ⟨he, h2⟩
theorem room_short {e : Ending} {w w' : World} (h : OutLeastW w 500 800 (shortL 100) (roomLo 500) 1000000 (fun v => (worstL 500 v (shortL 100)).fails == -1) e w') : e = .returned (.tuple #[.int .i64 540, .int .i64 0]) ∧ Below w.heap.size w w' := by
  obtain ⟨h1, h2⟩ := h
  rw [if_pos win_short] at h1
  obtain ⟨r, hr, he⟩ := h1
  have : r = 40 := least_at (k := 39) hr (by decide) (by kernel_rfl) (by kernel_rfl)
  subst this
  exact ⟨he, h2⟩
end Go.Proofs.YtmebmcipmemofaaGreat

namespace Go.Proofs.YtmebmcipmemofaaGreat
open Go.RowKit Go.Shelf
attribute [local go_sem] Oper.semAt_some

theorem ints_of_block {W : World} {B : Nat} {cur : Array Value} {t : TypeId} {xs : List Int} (h : W.heap[B]? = some (.cells cur t (0, 0))) (hc : cur = (xs.map (Value.int .i64)).toArray) : IntSl W (some ⟨B, 0, none⟩) xs :=
  fun _ => ⟨B, 0, rfl, lt_of_block h, fun j hj => by rw [Nat.zero_add]; exact blk_cell h j (by subst hc; simp [hj])⟩

theorem all_three_any (a : Option Addr) (w : World) (hx : Sl 3 Lp.cells w a threeL) : Calls Tryz.prog 50 #[.slice a 3 3, threeR.v] w (OutCs w [[0, 0, 2], [0, 1, 1], [0, 1, 2]] 0) := by
  have h := all_any a threeL 3 threeR w hx (by decide)
  unfold AllOut at h
  rw [all_three] at h
  exact h
theorem broken_three_any (a : Option Addr) (b : Option Addr) (w : World) (hx : Sl 3 Lp.cells w a threeL) (hb : IntSl w b [1, 1, 1]) : Calls Tryz.prog 53 #[.slice a 3 3, threeR.v, .slice b 3 3] w fun e w' => ∃ c cap, e = .returned (.tuple #[.slice c 1 cap, .int .i64 0]) ∧ IntSl w' c [4] ∧ Below w.heap.size w w' := by
  have h := broken_any a threeL 3 threeR b [1, 1, 1] 3 w hx hb (by decide) (by decide)
  rw [broken_three] at h
  exact h.mono (fun e w' ⟨c, cap, h1, h2, _, h3⟩ => ⟨c, cap, h1, h2, h3⟩)
theorem cheap_three_any (a : Option Addr) (w : World) (hx : Sl 3 Lp.cells w a threeL) : Calls Tryz.prog 21 #[.slice a 3 3, threeR.v, .int .i64 40] w fun e w' => ∃ c cap, e = .returned (.tuple #[.slice c 3 cap, .int .i64 10800, .int .i64 0]) ∧ IntSl w' c [0, 1, 1] ∧ Below w.heap.size w w' := by
  have h := cheapest_any a threeL 3 threeR 40 w hx (by decide)
  rw [cheap_three] at h
  exact h
theorem yield_three_any (a : Option Addr) (w : World) (hx : Sl 3 Lp.cells w a threeL) : Calls Tryz.prog 60 #[.slice a 3 3, threeR2.v] w fun e w' => ∃ b cb c cc, e = .returned (.tuple #[.slice b 1 cb, .slice c 3 cc, .int .i64 0]) ∧ IntSl w' b [0] ∧ IntSl w' c [0, 1, 2] ∧ Below w.heap.size w w' := by
  have h := yield_any a threeL 3 threeR2 w hx (by decide)
  rw [yield_three] at h
  exact h

theorem same_all (a : Option Addr) (ca : Nat) (b : Option Addr) (cb : Nat) (w : World) (hx : SlsAt w a [[0, 0, 2], [0, 1, 1], [0, 1, 2]]) (hy : SlsAt w b [[0, 0, 2], [0, 1, 1], [0, 1, 2]]) :
    Calls Tryz.prog 20 #[.slice a 3 ca, .slice b 3 cb] w fun e w' => e = .returned (.bool true) ∧ Below w.heap.size w w' :=
  (equalAll_any a [[0, 0, 2], [0, 1, 1], [0, 1, 2]] ca b [[0, 0, 2], [0, 1, 1], [0, 1, 2]] cb w hx hy (by decide) (by decide)).mono (fun e w' h => ⟨by rw [h.1, decide_eq_true rfl], h.2⟩)
theorem same_int (a : Option Addr) (ca : Nat) (b : Option Addr) (cb : Nat) (x y z : Int) (w : World) (hx : IntSl w a [x, y, z]) (hy : IntSl w b [x, y, z]) :
    Calls Tryz.prog 23 #[.slice a 3 ca, .slice b 3 cb] w fun e w' => e = .returned (.bool true) ∧ Below w.heap.size w w' :=
  (equal_int a [x, y, z] ca b [x, y, z] cb w hx hy (by simp)).mono (fun e w' h => ⟨by rw [h.1, decide_eq_true rfl], h.2⟩)
theorem same_rule (a : Option Addr) (ca : Nat) (b : Option Addr) (cb : Nat) (x : Int) (w : World) (hx : IntSl w a [x]) (hy : IntSl w b [x]) :
    Calls Tryz.prog 61 #[.slice a 1 ca, .slice b 1 cb] w fun e w' => e = .returned (.bool true) ∧ Below w.heap.size w w' :=
  (equal_rule a [x] ca b [x] cb w hx hy (by simp)).mono (fun e w' h => ⟨by rw [h.1, decide_eq_true rfl], h.2⟩)
def spansL : List Sp := [⟨280, 390⟩, ⟨160, 600⟩]
theorem same_span (a : Option Addr) (ca : Nat) (b : Option Addr) (cb : Nat) (w : World) (hx : Sl 2 Sp.cells w a spansL) (hy : Sl 2 Sp.cells w b spansL) :
    Calls Tryz.prog 69 #[.slice a 2 ca, .slice b 2 cb] w fun e w' => e = .returned (.bool true) ∧ Below w.heap.size w w' :=
  (equal_span a spansL ca b spansL cb w hx hy (by decide)).mono (fun e w' h => ⟨by rw [h.1]; rfl, h.2⟩)
theorem first_short_any (a : Option Addr) (w : World) (hx : Sl 6 Dy.cells w a (shortL 500)) : Calls Tryz.prog 66 #[wv 500 800 a 3 3] w fun e w' => e = .returned (.tuple #[.int .i64 2, .int .i64 0]) ∧ Below w.heap.size w w' := by
  have h := First_any 500 800 a (shortL 500) 3 w hx (by decide)
  rw [fail_short.1, fail_short.2] at h
  exact h
theorem proves_short_any (a : Option Addr) (w : World) (hx : Sl 6 Dy.cells w a (shortL 500)) : Calls Tryz.prog 67 #[wv 500 800 a 3 3, .agg #[.int .i64 (-1), .int .i64 2]] w fun e w' => e = .returned (.tuple #[.int .i64 360, .int .i64 0]) ∧ Below w.heap.size w w' := by
  have h := proves_any 500 800 (-1) 2 a (shortL 500) 3 w hx (by decide)
  rw [proves_short] at h
  exact h
theorem ranges_short_any (a : Option Addr) (w : World) (hx : Sl 6 Dy.cells w a (shortL 500)) : Calls Tryz.prog 68 #[wv 500 800 a 3 3] w fun e w' => ∃ b cb, e = .returned (.tuple #[.slice b 2 cb, .int .i64 0]) ∧ Sl 2 Sp.cells w' b spansL ∧ Below w.heap.size w w' := by
  have h := ranges_any 500 800 a (shortL 500) 3 w hx (by decide)
  rw [ranges_short] at h
  exact h
theorem least_short_any (a : Option Addr) (w : World) (hx : Sl 6 Dy.cells w a (shortL 100)) : Calls Tryz.prog 70 #[wv 500 800 a 3 3] w fun e w' => e = .returned (.tuple #[.int .i64 460, .int .i64 0]) ∧ Below w.heap.size w w' :=
  (Least_any 500 800 a (shortL 100) 3 w hx (by decide)).mono (fun e w' h => least_short h)
theorem room_short_any (a : Option Addr) (w : World) (hx : Sl 6 Dy.cells w a (shortL 100)) : Calls Tryz.prog 71 #[wv 500 800 a 3 3] w fun e w' => e = .returned (.tuple #[.int .i64 540, .int .i64 0]) ∧ Below w.heap.size w w' :=
  (Room_any 500 800 a (shortL 100) 3 w hx (by decide)).mono (fun e w' h => room_short h)

theorem alloc1 (W : World) (o : Obj) : Below W.heap.size W (W.alloc o) := (Below.refl _ _).alloc (Nat.le_refl _) _
theorem threeSls (W : World) : SlsAt ((((W.alloc (.cells #[.int .i64 0, .int .i64 0, .int .i64 2] 3)).alloc (.cells #[.int .i64 0, .int .i64 1, .int .i64 1] 3)).alloc (.cells #[.int .i64 0, .int .i64 1, .int .i64 2] 3)).alloc (.cells #[.slice (some ⟨W.heap.size, 0, none⟩) 3 3, .slice (some ⟨W.heap.size + 1, 0, none⟩) 3 3, .slice (some ⟨W.heap.size + 1 + 1, 0, none⟩) 3 3] 27)) (some ⟨W.heap.size + 1 + 1 + 1, 0, none⟩) [[0, 0, 2], [0, 1, 1], [0, 1, 2]] := by
  generalize hWf : World.alloc _ _ = Wf
  have h0 : Wf.heap[W.heap.size]? = some (.cells #[.int .i64 0, .int .i64 0, .int .i64 2] 3 (0, 0)) := by rw [← hWf]; exact alk (alk (alk (heap_alloc_new W _)))
  have h1 : Wf.heap[W.heap.size + 1]? = some (.cells #[.int .i64 0, .int .i64 1, .int .i64 1] 3 (0, 0)) := by rw [← hWf]; exact alk (alk (new_at (by simp)))
  have h2 : Wf.heap[W.heap.size + 1 + 1]? = some (.cells #[.int .i64 0, .int .i64 1, .int .i64 2] 3 (0, 0)) := by rw [← hWf]; exact alk (new_at (by simp))
  have h3 : Wf.heap[W.heap.size + 1 + 1 + 1]? = some (.cells #[.slice (some ⟨W.heap.size, 0, none⟩) 3 3, .slice (some ⟨W.heap.size + 1, 0, none⟩) 3 3, .slice (some ⟨W.heap.size + 1 + 1, 0, none⟩) 3 3] 27 (0, 0)) := by rw [← hWf]; exact new_at (by simp)
  clear hWf
  intro _
  refine ⟨_, 0, rfl, lt_of_block h3, fun j c hj => ?_⟩
  rcases j with _ | _ | _ | j
  · simp at hj; subst hj; exact ⟨_, _, blk_cell h3 0 rfl, ints_of_block h0 rfl⟩
  · simp at hj; subst hj; exact ⟨_, _, blk_cell h3 1 rfl, ints_of_block h1 rfl⟩
  · simp at hj; subst hj; exact ⟨_, _, blk_cell h3 2 rfl, ints_of_block h2 rfl⟩
  · simp at hj

theorem spans_new (W : World) (t : TypeId) : Sl 2 Sp.cells (W.alloc (.cells #[.int .i64 280, .int .i64 390, .int .i64 160, .int .i64 600] t)) (some ⟨W.heap.size, 0, none⟩) spansL := by
  refine Sl.of_block (heap_alloc_new W _) ?_
  intro j x i u hx hu
  rcases j with _ | _ | j
  all_goals simp [spansL] at hx
  all_goals subst hx
  all_goals (rcases i with _ | _ | i <;> simp [Sp.cells] at hu <;> subst hu <;> rfl)

set_option maxRecDepth 100000 in
set_option maxHeartbeats 1000000 in
theorem awake_any (w : World) : Calls Tryz.prog 10 #[] w fun e w' => e = .returned (.bool true) ∧ Below w.heap.size w w' := by
  go_enter Tryz.func10, Tryz.ntmps10
  go_wp2_with (fail)
  refine (three_any w).mono ?_
  rintro e w1 ⟨a, rfl, hS, hb⟩
  have H1 := Lib.hid (And.intro hb hS)
  clear hb hS
  obtain ⟨Wa, hWa⟩ : ∃ Wa, w1.alloc threeR.o = Wa := ⟨_, rfl⟩
  have H2 := Lib.hid (show Below w.heap.size w Wa ∧ RuAt Wa w1.heap.size threeR ∧ Sl 3 Lp.cells Wa a threeL by rw [← hWa]; exact ⟨H1.out.1.alloc H1.out.1.size _, heap_alloc_new _ _, H1.out.2.below ((Below.refl _ _).alloc (Nat.le_refl _) _)⟩)
  obtain ⟨c0, c1, c2, c3, c4, c5, c6, c7, c8⟩ := H2.out.2.1.cells
  go_wp2_with (fail)
  clear hWa c0 c1 c2 c3 c4 c5 c6 c7 c8
  refine (all_three_any a _ H2.out.2.2).mono ?_
  rintro e w2 ⟨a2, cap2, rfl, hcs, hb2⟩
  have H3 := Lib.hid (And.intro (below_self H2.out.1 hb2) (And.intro (H2.out.2.1.below hb2) (And.intro (H2.out.2.2.below hb2) hcs)))
  clear hcs hb2
  obtain ⟨c0, c1, c2, c3, c4, c5, c6, c7, c8⟩ := H3.out.2.1.cells
  go_wp2_with (fail)
  clear c0 c1 c2 c3 c4 c5 c6 c7 c8
  refine (broken_three_any a _ _ (H3.out.2.2.1.below (alloc1 w2 _)) (ints_of_block (heap_alloc_new w2 _) rfl)).mono ?_
  rintro e w3 ⟨a3, cap3, rfl, hI, hb⟩
  have hb3 := below_self (alloc1 w2 _) hb
  have H4 := Lib.hid (And.intro (below_self H3.out.1 hb3) (And.intro (H3.out.2.1.below hb3) (And.intro (H3.out.2.2.1.below hb3) (And.intro (H3.out.2.2.2.below hb3) hI))))
  clear hI hb hb3
  obtain ⟨c0, c1, c2, c3, c4, c5, c6, c7, c8⟩ := H4.out.2.1.cells
  go_wp2_with (fail)
  clear c0 c1 c2 c3 c4 c5 c6 c7 c8
  refine (cheap_three_any a _ H4.out.2.2.1).mono ?_
  rintro e w4 ⟨a4, cap4, rfl, hI, hb⟩
  have H5 := Lib.hid (And.intro (below_self H4.out.1 hb) (And.intro (H4.out.2.1.below hb) (And.intro (H4.out.2.2.1.below hb) (And.intro (H4.out.2.2.2.1.below hb) (And.intro (H4.out.2.2.2.2.below hb) hI)))))
  clear hI hb
  go_wp2_with (fail)
  have HB4 : Hid (∀ o1 o2 o3 o4, Below w4.heap.size w4 ((((w4.alloc o1).alloc o2).alloc o3).alloc o4)) := fun o1 o2 o3 o4 => ((((Below.refl _ _).alloc (Nat.le_refl _) _).alloc (by simp) _).alloc (by simp <;> omega) _).alloc (by simp <;> omega) _
  refine (same_all a2 cap2 _ 3 _ (H5.out.2.2.2.1.below (HB4.out _ _ _ _)) (threeSls w4)).mono ?_
  rintro e w5 ⟨rfl, hb⟩
  have hb5 := below_self (HB4.out _ _ _ _) hb
  have H6 := Lib.hid (And.intro (below_self H5.out.1 hb5) (And.intro (H5.out.2.1.below hb5) (And.intro (H5.out.2.2.1.below hb5) (And.intro (H5.out.2.2.2.2.1.below hb5) (H5.out.2.2.2.2.2.below hb5)))))
  clear hb hb5 HB4
  go_wp2_with (fail)
  refine (same_rule a3 cap3 _ 1 4 _ (H6.out.2.2.2.1.below (alloc1 w5 _)) (ints_of_block (heap_alloc_new w5 _) rfl)).mono ?_
  rintro e w6 ⟨rfl, hb⟩
  have hb6 := below_self (alloc1 w5 _) hb
  have H7 := Lib.hid (And.intro (below_self H6.out.1 hb6) (And.intro (H6.out.2.1.below hb6) (And.intro (H6.out.2.2.1.below hb6) (H6.out.2.2.2.2.below hb6))))
  clear hb hb6
  go_wp2_with (fail)
  refine (same_int a4 cap4 _ 3 0 1 1 _ (H7.out.2.2.2.below (alloc1 w6 _)) (ints_of_block (heap_alloc_new w6 _) rfl)).mono ?_
  rintro e w7 ⟨rfl, hb⟩
  have hb7 := below_self (alloc1 w6 _) hb
  have H8 := Lib.hid (And.intro (below_self H7.out.1 hb7) (And.intro (H7.out.2.1.below hb7) (H7.out.2.2.1.below hb7)))
  clear hb hb7
  go_wp2_with (fail)
  refine (span_any 7000 7000 _).mono ?_
  rintro e w8 ⟨rfl, hw8⟩
  have hb := alloc1 w7 (.cells #[.int .i64 7000, .int .i64 7000] 24)
  rw [hw8] at hb
  have H9 := Lib.hid (And.intro (below_self H8.out.1 hb) (And.intro (H8.out.2.1.below hb) (H8.out.2.2.below hb)))
  clear hb hw8
  obtain ⟨c0, c1, c2, c3, c4, c5, c6, c7, c8⟩ := H9.out.2.1.cells
  have f1 := blk_free (j := 1) H9.out.2.1
  have f2 := blk_free (j := 2) H9.out.2.1
  have f8 := blk_free (j := 8) H9.out.2.1
  go_wp2_with (fail)
  clear c0 c1 c2 c3 c4 c5 c6 c7 c8 f1 f2 f8
  have hne : ∀ p, a = some p → p.block ≠ w1.heap.size := fun p hp => Nat.ne_of_lt (sl_lt H1.out.2 (by decide) p hp)
  have hsz := H1.out.1.size
  have H10 := Lib.hid (show Below w.heap.size w (((w8.setCell ⟨w1.heap.size, 8, none⟩ (.int .i64 1)).setCell ⟨w1.heap.size, 1, none⟩ (.int .i64 7000)).setCell ⟨w1.heap.size, 2, none⟩ (.int .i64 7000)) ∧ Sl 3 Lp.cells (((w8.setCell ⟨w1.heap.size, 8, none⟩ (.int .i64 1)).setCell ⟨w1.heap.size, 1, none⟩ (.int .i64 7000)).setCell ⟨w1.heap.size, 2, none⟩ (.int .i64 7000)) a threeL from
    ⟨((H9.out.1.setCell (p := ⟨w1.heap.size, 8, none⟩) hsz _).setCell (p := ⟨w1.heap.size, 1, none⟩) hsz _).setCell (p := ⟨w1.heap.size, 2, none⟩) hsz _, sl_set (sl_set (sl_set H9.out.2.2 hne) hne) hne⟩)
  clear hne hsz
  refine (yield_three_any a _ H10.out.2).mono ?_
  rintro e w9 ⟨b9, k9, c9, m9, rfl, hI, hJ, hb⟩
  have G9 := Lib.hid (And.intro (below_self H10.out.1 hb) (And.intro hI hJ))
  clear hI hJ hb
  go_wp2_with (fail)
  refine (short_any 500 w9).mono ?_
  rintro e w10 ⟨s10, rfl, hS, hb⟩
  have G10 := Lib.hid (And.intro (below_self G9.out.1 hb) (And.intro (G9.out.2.1.below hb) (And.intro (G9.out.2.2.below hb) hS)))
  clear hS hb
  go_wp2_with (fail)
  refine (first_short_any s10 w10 G10.out.2.2.2).mono ?_
  rintro e w11 ⟨rfl, hb⟩
  have G11 := Lib.hid (And.intro (below_self G10.out.1 hb) (And.intro (G10.out.2.1.below hb) (G10.out.2.2.1.below hb)))
  clear hb
  go_wp2_with (fail)
  refine (short_any 500 w11).mono ?_
  rintro e w12 ⟨s12, rfl, hS, hb⟩
  have G12 := Lib.hid (And.intro (below_self G11.out.1 hb) (And.intro (G11.out.2.1.below hb) (And.intro (G11.out.2.2.below hb) hS)))
  clear hS hb
  go_wp2_with (fail)
  refine (proves_short_any s12 w12 G12.out.2.2.2).mono ?_
  rintro e w13 ⟨rfl, hb⟩
  have G13 := Lib.hid (And.intro (below_self G12.out.1 hb) (And.intro (G12.out.2.1.below hb) (G12.out.2.2.1.below hb)))
  clear hb
  go_wp2_with (fail)
  refine (short_any 500 w13).mono ?_
  rintro e w14 ⟨s14, rfl, hS, hb⟩
  have G14 := Lib.hid (And.intro (below_self G13.out.1 hb) (And.intro (G13.out.2.1.below hb) (And.intro (G13.out.2.2.below hb) hS)))
  clear hS hb
  go_wp2_with (fail)
  refine (ranges_short_any s14 w14 G14.out.2.2.2).mono ?_
  rintro e w15 ⟨r15, k15, rfl, hS, hb⟩
  have G15 := Lib.hid (And.intro (below_self G14.out.1 hb) (And.intro (G14.out.2.1.below hb) (And.intro (G14.out.2.2.1.below hb) hS)))
  clear hS hb
  go_wp2_with (fail)
  refine (same_rule b9 k9 _ 1 0 _ (G15.out.2.1.below (alloc1 w15 _)) (ints_of_block (heap_alloc_new w15 _) rfl)).mono ?_
  rintro e w16 ⟨rfl, hb⟩
  have hb16 := below_self (alloc1 w15 _) hb
  have G16 := Lib.hid (And.intro (below_self G15.out.1 hb16) (And.intro (G15.out.2.2.1.below hb16) (G15.out.2.2.2.below hb16)))
  clear hb hb16
  go_wp2_with (fail)
  refine (same_int c9 m9 _ 3 0 1 2 _ (G16.out.2.1.below (alloc1 w16 _)) (ints_of_block (heap_alloc_new w16 _) rfl)).mono ?_
  rintro e w17 ⟨rfl, hb⟩
  have hb17 := below_self (alloc1 w16 _) hb
  have G17 := Lib.hid (And.intro (below_self G16.out.1 hb17) (G16.out.2.2.below hb17))
  clear hb hb17
  go_wp2_with (fail)
  refine (same_span r15 k15 _ 2 _ (G17.out.2.below (alloc1 w17 _)) (spans_new w17 _)).mono ?_
  rintro e w18 ⟨rfl, hb⟩
  have G18 := Lib.hid (below_self G17.out.1 (below_self (alloc1 w17 _) hb))
  clear hb
  go_wp2_with (fail)
  refine (short_any 100 w18).mono ?_
  rintro e w19 ⟨s19, rfl, hS, hb⟩
  have G19 := Lib.hid (And.intro (below_self G18.out hb) hS)
  clear hS hb
  go_wp2_with (fail)
  refine (least_short_any s19 w19 G19.out.2).mono ?_
  rintro e w20 ⟨rfl, hb⟩
  have G20 := Lib.hid (below_self G19.out.1 hb)
  clear hb
  go_wp2_with (fail)
  refine (short_any 100 w20).mono ?_
  rintro e w21 ⟨s21, rfl, hS, hb⟩
  have G21 := Lib.hid (And.intro (below_self G20.out hb) hS)
  clear hS hb
  go_wp2_with (fail)
  refine (room_short_any s21 w21 G21.out.2).mono ?_
  rintro e w22 ⟨rfl, hb⟩
  have G22 := Lib.hid (below_self G21.out.1 hb)
  clear hb
  go_wp2
  go_ret
  exact ⟨rfl, G22.out⟩
end Go.Proofs.YtmebmcipmemofaaGreat

namespace Go.Proofs.YtmebmcipmemofaaGreat
open Go.RowKit Go.Shelf
attribute [local go_sem] Oper.semAt_some

/-- Bytes, as they read in a world. -/
def BytesAt (w : World) (a : Option Addr) (n : Nat) : Prop := 0 < n → ∃ b off, a = some ⟨b, off, none⟩ ∧ b < w.heap.size ∧ ∀ j, j < n → ∃ x : Int, w.cell? ⟨b, off + j, none⟩ = some (.int .u8 x) ∧ 0 ≤ x ∧ x < 256
/-- A deck that has dealt at most k times; it and its bytes lie below L. -/
structure Deck (w : World) (B L : Nat) (a : Option Addr) (n cap k : Nat) : Prop where
  o : ∃ nx st : Int, w.heap[B]? = some (.cells #[.slice a n cap, .int .i64 nx, .int .u32 st] 181 (0, 0)) ∧ 0 ≤ nx ∧ nx ≤ k ∧ 0 ≤ st ∧ st < 4294967296
  bytes : BytesAt w a n
  far : 0 < n → ∀ p, a = some p → p.block ≠ B ∧ p.block < L
  len : n ≤ 140737488355328
  lt : B < L ∧ L ≤ w.heap.size

theorem BytesAt.keep {w w' : World} {a : Option Addr} {n : Nat} (h : BytesAt w a n) (hs : w.heap.size ≤ w'.heap.size) (hk : 0 < n → ∀ p, a = some p → p.block < w.heap.size → w'.heap[p.block]? = w.heap[p.block]?) : BytesAt w' a n := fun h0 => by
  obtain ⟨b, off, rfl, hb, hc⟩ := h h0
  refine ⟨b, off, rfl, Nat.lt_of_lt_of_le hb hs, fun j hj => ?_⟩
  obtain ⟨x, h1, h2⟩ := hc j hj
  exact ⟨x, (World.cell?_of_block (w := w) (a := ⟨b, off + j, none⟩) (hk h0 ⟨b, off, none⟩ rfl hb)).trans h1, h2⟩
theorem Deck.keep {w w' : World} {B L : Nat} {a : Option Addr} {n cap k : Nat} (h : Deck w B L a n cap k) (hs : w.heap.size ≤ w'.heap.size) (hk : ∀ j, j < L → w'.heap[j]? = w.heap[j]?) : Deck w' B L a n cap k := by
  obtain ⟨nx, st, h1, h2⟩ := h.o
  exact ⟨⟨nx, st, (hk B h.lt.1).trans h1, h2⟩, h.bytes.keep hs (fun h0 p hp _ => hk _ (h.far h0 p hp).2), h.far, h.len, h.lt.1, Nat.le_trans h.lt.2 hs⟩
theorem Deck.below {w w' : World} {B L : Nat} {a : Option Addr} {n cap k : Nat} (h : Deck w B L a n cap k) (hb : Below w.heap.size w w') : Deck w' B L a n cap k := h.keep hb.size (fun j hj => hb.block j (Nat.lt_of_lt_of_le hj h.lt.2))
theorem Deck.mono {w : World} {B L : Nat} {a : Option Addr} {n cap k k' : Nat} (h : Deck w B L a n cap k) (hk : k ≤ k') : Deck w B L a n cap k' := by
  obtain ⟨nx, st, h1, h2, h3, h4⟩ := h.o
  exact ⟨⟨nx, st, h1, h2, by omega, h4⟩, h.bytes, h.far, h.len, h.lt⟩
theorem Apart.drew' {own : Nat → Prop} {A B : World} (h : Apart own A B) : Apart own A B.drew := ⟨h.os, h.tape, h.output, h.size, h.block⟩
theorem deck_end {w : World} {B L : Nat} {a : Option Addr} {n cap k : Nat} {x : Int} {st s : Int} (hB : w.heap[B]? = some (.cells #[.slice a n cap, .int .i64 x, .int .u32 st] 181 (0, 0))) (hx : 0 ≤ x ∧ x ≤ k) (hs : 0 ≤ s ∧ s < 4294967296) (hb : BytesAt w a n) (hf : 0 < n → ∀ p, a = some p → p.block ≠ B ∧ p.block < L) (hl : n ≤ 140737488355328) (hlt : B < L ∧ L ≤ w.heap.size) :
    Deck ((w.setCell ⟨B, 1, none⟩ (.int .i64 (x + 1))).setCell ⟨B, 2, none⟩ (.int .u32 s)).drew B L a n cap (k + 1) ∧ Apart (fun j => j = B) w ((w.setCell ⟨B, 1, none⟩ (.int .i64 (x + 1))).setCell ⟨B, 2, none⟩ (.int .u32 s)).drew := by
  have ha : Apart (fun j => j = B) w ((w.setCell ⟨B, 1, none⟩ (.int .i64 (x + 1))).setCell ⟨B, 2, none⟩ (.int .u32 s)).drew := ((Apart.setCell (own := fun j => j = B) w (p := ⟨B, 1, none⟩) rfl _).trans (Apart.setCell (own := fun j => j = B) _ (p := ⟨B, 2, none⟩) rfl _)).drew'
  exact ⟨⟨⟨x + 1, s, blk_setCell (j := 2) (blk_setCell (j := 1) hB), by omega, by omega, hs.1, hs.2⟩, hb.keep ha.size (fun h0 p hp hlt => ha.block _ hlt (hf h0 p hp).1), hf, hl, hlt.1, Nat.le_trans hlt.2 ha.size⟩, ha⟩

set_option maxHeartbeats 1000000 in
theorem draw_any (B L : Nat) (a : Option Addr) (n cap k : Nat) (m : Int) (w : World) (hd : Deck w B L a n cap k) (hk : k ≤ 1000000) (hm : m ≤ 10000000) :
    Calls Tryz.prog 59 #[.pointer (some ⟨B, 0, none⟩), .int .i64 m] w fun e w' => (∃ r : Int, e = .returned (.int .i64 r) ∧ 0 ≤ r ∧ (r < m ∨ r = 0)) ∧ Deck w' B L a n cap (k + 1) ∧ Apart (fun j => j = B) w w' := by
  obtain ⟨⟨nx, st, hB, h1, h2, h3, h4⟩, hbytes, hfar, hlen, hlt⟩ := hd
  have HB := Lib.hid hB
  have c0 := blk_cell hB 0 rfl
  have c1 := blk_cell hB 1 rfl
  have c2 := blk_cell hB 2 rfl
  have f1 := blk_free (j := 1) hB
  have f2 := blk_free (j := 2) hB
  by_cases hm1 : m ≤ 1
  · go_enter Tryz.func59, Tryz.ntmps59
    go_wp2
    go_ret
    exact ⟨⟨0, rfl, Int.le_refl _, .inr rfl⟩, ⟨⟨nx, st, HB.out, h1, by omega, h3, h4⟩, hbytes, hfar, hlen, hlt⟩, Apart.of_below (Below.refl _ _)⟩
  · by_cases hn : n = 0
    · subst hn
      go_enter Tryz.func59, Tryz.ntmps59
      go_wp2
      go_ret
      exact ⟨⟨0, rfl, Int.le_refl _, .inr rfl⟩, ⟨⟨nx, st, HB.out, h1, by omega, h3, h4⟩, hbytes, hfar, hlen, hlt⟩, Apart.of_below (Below.refl _ _)⟩
    · obtain ⟨b, off, rfl, hbs, hc⟩ := hbytes (by omega)
      have hne : ((n : Int) == 0) = false := by simp; omega
      obtain ⟨x, rfl⟩ := Int.eq_ofNat_of_zero_le h1
      have hjl : x % n < n := Nat.mod_lt _ (by omega)
      obtain ⟨y, hy, hy0, hy1⟩ := hc (x % n) hjl
      clear hc
      generalize hj : x % n = j at hjl hy
      generalize hq : x / n = q
      have ht : Int.tmod (x : Int) (n : Int) = (j : Int) := by rw [← hj]; rfl
      have hqq : Int.tdiv (x : Int) (n : Int) = (q : Int) := by rw [← hq]; rfl
      have hqx : q ≤ x := by rw [← hq]; exact Nat.div_le_self _ _
      have wy : IntKind.u32.wrap y = y := IntWalk.u32_in _ ⟨hy0, by omega⟩
      have wq : IntKind.i64.wrap (q : Int) = q := IntWalk.i64_in _ (by omega)
      have wq2 : IntKind.u32.wrap (q : Int) = q := IntWalk.u32_in _ ⟨by omega, by omega⟩
      have wx : IntKind.i64.wrap ((x : Int) + 1) = x + 1 := IntWalk.i64_in _ (by omega)
      clear hj hq
      go_enter Tryz.func59, Tryz.ntmps59
      go_wp2_with (fail)
      go_region_held3 (fun w' => w'.cell? ⟨B, 0, none⟩ = some (.slice (some ⟨b, off, none⟩) n cap) ∧ w'.cell? ⟨B, 1, none⟩ = some (.int .i64 x) ∧ w'.cell? ⟨b, off + j, none⟩ = some (.int .u8 y)) (go_keep) (fail)
      have HD : Hid (∀ s : Int, 0 ≤ s ∧ s < 4294967296 → Deck ((w.setCell ⟨B, 1, none⟩ (.int .i64 (x + 1))).setCell ⟨B, 2, none⟩ (.int .u32 s)).drew B L (some ⟨b, off, none⟩) n cap (k + 1) ∧ Apart (fun j => j = B) w ((w.setCell ⟨B, 1, none⟩ (.int .i64 (x + 1))).setCell ⟨B, 2, none⟩ (.int .u32 s)).drew) := fun s hs => deck_end HB.out ⟨h1, h2⟩ hs hbytes hfar hlen hlt
      go_wp2_with (fail)
      all_goals go_ret
      all_goals exact ⟨⟨_, rfl, Int.emod_nonneg _ (by omega), .inl (Int.emod_lt_of_pos _ (by omega))⟩, HD.out _ (by constructor <;> omega)⟩
end Go.Proofs.YtmebmcipmemofaaGreat
