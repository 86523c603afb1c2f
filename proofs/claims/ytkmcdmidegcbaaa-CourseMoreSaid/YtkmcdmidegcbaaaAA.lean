/-
  The contract of lack over this seat's program.
  What is proved: by how much snow is lacking by a proof, and whether it holds.
  Conditions: a weather of a valid winter, and a proof of its days.
-/
import Derived.Test.YtkmcdmidegcbaaaZ
import Derived.IntWalk
namespace Go.Proofs.Ytkmcdmidegcbaaa
open Go.RowKit Go.Shelf
attribute [local go_sem] Oper.semAt_some

/-- What is left before day d0 + j by a proof, if it has not been refuted. -/
def lackS (store pf : Int) (N M L : List Int) (d0 : Nat) (stock : Int) : Nat → Option Int
  | 0 => some stock
  | j + 1 => (lackS store pf N M L d0 stock j).bind fun left => if atMostL store pf M L (d0 + j) left - N[d0 + j]?.getD 0 < 0 then none else some (atMostL store pf M L (d0 + j) left - N[d0 + j]?.getD 0)
def lackR (stock store pf : Int) (N M L : List Int) (pd : Nat) : Int × Bool :=
  match lackS store pf N M L pf.toNat stock (pd - pf.toNat) with
  | none => (0, false)
  | some left => (N[pd]?.getD 0 - atMostL store pf M L pd left, decide (0 < N[pd]?.getD 0 - atMostL store pf M L pd left))

theorem lackS_none (store pf : Int) (N M L : List Int) (d0 : Nat) (stock : Int) (j : Nat) (h : lackS store pf N M L d0 stock j = none) (m : Nat) (hm : j ≤ m) : lackS store pf N M L d0 stock m = none := by
  induction m with
  | zero => have : j = 0 := by omega
            subst this; exact h
  | succ m ih =>
    rcases Nat.lt_or_ge m j with h1 | h1
    · have : j = m + 1 := by omega
      subst this; exact h
    · rw [lackS, ih h1]; rfl

set_option maxRecDepth 100000 in
set_option maxHeartbeats 2000000 in
theorem lack_any (stock store pf : Int) (pd : Nat) (a : Option Addr) (n cap : Nat) (an : Option Addr) (N : List Int) (cn : Nat) (am : Option Addr) (M : List Int) (cm : Nat) (al : Option Addr) (L : List Int) (cl : Nat) (w : World)
    (hN : IntSl w an N) (hM : IntSl w am M) (hL : IntSl w al L) (hNn : N.length = n) (hMn : M.length = n) (hLn : L.length = n) (hn : n ≤ 60) (hst : 0 ≤ stock ∧ stock ≤ store ∧ store ≤ 1000000)
    (hb : (∀ x ∈ N, 0 ≤ x ∧ x ≤ 100000) ∧ (∀ x ∈ M, 0 ≤ x ∧ x ≤ 100000) ∧ (∀ x ∈ L, 0 ≤ x ∧ x ≤ 100000)) (hp : -1 ≤ pf ∧ pf ≤ pd ∧ pd < n) :
    Calls Try.prog 95 #[sv stock store a n cap an n cn am n cm al n cl, .agg #[.int .i64 pf, .int .i64 pd]] w fun e w' => e = .returned (.tuple #[.int .i64 (lackR stock store pf N M L pd).1, .bool (lackR stock store pf N M L pd).2]) ∧ Below w.heap.size w w' := by
  have HH := Lib.hid (And.intro hN (And.intro hM (And.intro hL (And.intro hNn (And.intro hMn hLn)))))
  have HB := Lib.hid hb
  have HS := Lib.hid hst
  have HP := Lib.hid hp
  have HN := Lib.hid hn
  clear hN hM hL hNn hMn hLn hb hst hn
  obtain ⟨Wa, hWa⟩ : ∃ Wa, (w.alloc (.cells #[.int .i64 stock, .int .i64 store, .slice a n cap, .slice an n cn, .slice am n cm, .slice al n cl] 157)).alloc (.cells #[.int .i64 pf, .int .i64 pd] 62) = Wa := ⟨_, rfl⟩
  have hba : Below w.heap.size w Wa := by rw [← hWa]; exact ((Below.refl _ _).alloc (Nat.le_refl _) _).alloc (by simp) _
  have h0 : Wa.heap[w.heap.size]? = some (.cells #[.int .i64 stock, .int .i64 store, .slice a n cap, .slice an n cn, .slice am n cm, .slice al n cl] 157 (0, 0)) := by rw [← hWa]; exact alk (new_at rfl)
  have h1 : Wa.heap[w.heap.size + 1]? = some (.cells #[.int .i64 pf, .int .i64 pd] 62 (0, 0)) := by rw [← hWa]; exact new_at (by simp)
  have c0 := blk_cell h0 0 rfl
  have d0 := blk_cell h1 0 rfl
  have d1 := blk_cell h1 1 rfl
  have HA := Lib.hid (And.intro hba (And.intro h0 h1))
  clear hba h0 h1
  go_enter Try.func95, Try.ntmps95
  go_wp2_with (fail)
  all_goals clear hWa c0 d0 d1
  all_goals (
    go_loopw [6, 7] (fun l d wr => ∃ (j : Nat) (left : Int), d = .int .i64 ((pf.toNat + j : Nat) : Int) ∧ j ≤ pd - pf.toNat ∧ l = .int .i64 left ∧ Hid (lackS store pf N M L pf.toNat stock j = some left) ∧ Hid (0 ≤ left ∧ left ≤ 1000000 + (j : Int) * 100000) ∧ Hid (Below Wa.heap.size Wa wr)) (fun _ d _ => pd - (intOf d).toNat)
    case atStart =>
      refine ⟨0, stock, ?_, Nat.zero_le _, rfl, rfl, ?_, Below.refl _ _⟩
      · first | rw [show ((pf.toNat + 0 : Nat) : Int) = 0 by omega] | rw [show ((pf.toNat + 0 : Nat) : Int) = pf by omega]
      · have := HS.out; exact ⟨this.1, by omega⟩
    case round =>
      obtain ⟨j, left, rfl, hj, rfl, hS, hlb, hbw⟩ := hrel
      have h0 := blk_below HA.out.2.1 hbw.out
      have h1 := blk_below HA.out.2.2 hbw.out
      have c0 := blk_cell h0 0 rfl
      have c1 := blk_cell h0 1 rfl
      have c2 := blk_cell h0 2 rfl
      have c3 := blk_cell h0 3 rfl
      have c4 := blk_cell h0 4 rfl
      have c5 := blk_cell h0 5 rfl
      have d0 := blk_cell h1 0 rfl
      have d1 := blk_cell h1 1 rfl
      have H01 := Lib.hid (And.intro h0 h1)
      clear h0 h1
      by_cases hlt : pf.toNat + j < pd
      · have hpn := HP.out
        have hnn := HN.out
        obtain ⟨hN, hM, hL, hNn, hMn, hLn⟩ := HH.out
        obtain ⟨bn, on, hab, hbn, hcn⟩ := hN (by omega)
        have HSUCC : Hid (lackS store pf N M L pf.toNat stock (j + 1) = if atMostL store pf M L (pf.toNat + j) left - N[pf.toNat + j]?.getD 0 < 0 then none else some (atMostL store pf M L (pf.toNat + j) left - N[pf.toNat + j]?.getD 0)) := by show _ = _; rw [lackS, hS.out]; rfl
        generalize hk : pf.toNat + j = k at hlt HSUCC ⊢
        have HK := Lib.hid hk
        have hkn : k < n := by omega
        have cN := ((HA.out.1.trans (hbw.out.mono HA.out.1.size)).cell (p := ⟨bn, on + k, none⟩) hbn).trans (hcn k (by omega))
        have bN : 0 ≤ N[k]?.getD 0 ∧ N[k]?.getD 0 ≤ 100000 := HB.out.1 _ (by rw [List.getElem?_eq_getElem (by omega)]; exact List.getElem_mem _)
        have bA : -100000 ≤ atMostL store pf M L k left ∧ atMostL store pf M L k left ≤ 1000000 + ((j : Int) + 1) * 100000 := by
          have b1 : 0 ≤ M[k]?.getD 0 ∧ M[k]?.getD 0 ≤ 100000 := HB.out.2.1 _ (by rw [List.getElem?_eq_getElem (by omega)]; exact List.getElem_mem _)
          have b2 : 0 ≤ L[k]?.getD 0 ∧ L[k]?.getD 0 ≤ 100000 := HB.out.2.2 _ (by rw [List.getElem?_eq_getElem (by omega)]; exact List.getElem_mem _)
          have b3 := hlb.out
          have b4 := HS.out
          unfold atMostL
          split
          · omega
          · split <;> omega
        have hjj : (j : Int) ≤ 60 := by omega
        have HLB : Hid (-1000000 ≤ left ∧ left ≤ 10000000) := by have := hlb.out; exact ⟨by omega, by omega⟩
        clear hcn hN hM hL hNn hMn hLn hk
        have HC := atMost_any stock store pf pd left k a n cap an cn am M cm al L cl
        have HCC := Lib.hid HC
        clear HC
        generalize hnk : N[k]?.getD 0 = nk at cN bN HSUCC
        generalize ham : atMostL store pf M L k left = ax at bA HSUCC
        have HAM := Lib.hid ham
        clear hnk ham
        have hw1 : IntKind.i64.wrap (ax - nk) = ax - nk := IntWalk.i64_in _ (by omega)
        subst hab
        have HBN : Hid (bn < wr.heap.size) := by have h1 := HA.out.1.size; have h2 := hbw.out.size; show bn < _; omega
        go_wp2_with (fail)
        go_region_held3 (fun w' => w'.cell? ⟨w.heap.size, 0, none⟩ = some (.int .i64 stock) ∧ w'.cell? ⟨w.heap.size, 1, none⟩ = some (.int .i64 store) ∧ w'.cell? ⟨w.heap.size, 2, none⟩ = some (.slice a n cap) ∧ w'.cell? ⟨w.heap.size, 3, none⟩ = some (.slice (some ⟨bn, on, none⟩) n cn) ∧ w'.cell? ⟨w.heap.size, 4, none⟩ = some (.slice am n cm) ∧ w'.cell? ⟨w.heap.size, 5, none⟩ = some (.slice al n cl) ∧ w'.cell? ⟨w.heap.size + 1, 0, none⟩ = some (.int .i64 pf) ∧ w'.cell? ⟨w.heap.size + 1, 1, none⟩ = some (.int .i64 pd) ∧ w'.cell? ⟨bn, on + k, none⟩ = some (.int .i64 nk)) (go_keep)
          (first | (go_at_call 135; refine (HCC.out _ (HH.out.2.1.below (HA.out.1.trans (hbw.out.mono HA.out.1.size)).drew) (HH.out.2.2.1.below (HA.out.1.trans (hbw.out.mono HA.out.1.size)).drew) HH.out.2.2.2.2.1 HH.out.2.2.2.2.2 hkn hnn HLB.out HB.out.2.1 HB.out.2.2).mono ?_; rintro e w5 ⟨rfl, hb5⟩; rw [HAM.out]; have hb5' : Below wr.heap.size wr w5 := ⟨hb5.os, hb5.tape, hb5.output, hb5.size, hb5.block⟩; have e0 := blk_cell (blk_below H01.out.1 hb5') 0 rfl; have e1 := blk_cell (blk_below H01.out.1 hb5') 1 rfl; have e2 := blk_cell (blk_below H01.out.1 hb5') 2 rfl; have e3 := blk_cell (blk_below H01.out.1 hb5') 3 rfl; have e4 := blk_cell (blk_below H01.out.1 hb5') 4 rfl; have e5 := blk_cell (blk_below H01.out.1 hb5') 5 rfl; have g0 := blk_cell (blk_below H01.out.2 hb5') 0 rfl; have g1 := blk_cell (blk_below H01.out.2 hb5') 1 rfl; have eN := (hb5'.cell (p := ⟨bn, on + k, none⟩) HBN.out).trans cN))
        have hk5 : Hid (Below Wa.heap.size Wa w5) := below_self hbw.out hb5'
        have HKN := Lib.hid hkn
        have HLT := Lib.hid hlt
        clear e0 e1 e2 e3 e4 e5 g0 g1 eN hb5 hb5' cN hw1 c0 c1 c2 c3 c4 c5 d0 d1
        by_cases hneg : ax - nk < 0
        · have HL : Hid (lackR stock store pf N M L pd = (0, false)) := by
            show _ = _
            rw [lackR, lackS_none _ _ _ _ _ _ _ (j + 1) (by rw [HSUCC.out, if_pos hneg]) _ (by have := HK.out; have := HLT.out; omega)]
          go_wp2
          refine bodyPost_ret (v := .tuple #[.int .i64 0, .bool false]) (by simp [results, Try.results95, go_sem]) rfl ?_
          exact ⟨by rw [HL.out], HA.out.1.trans (hk5.out.mono HA.out.1.size)⟩
        · have HS1 : Hid (lackS store pf N M L pf.toNat stock (j + 1) = some (ax - nk)) := by show _ = _; rw [HSUCC.out, if_neg hneg]
          have HB1 : Hid (0 ≤ ax - nk ∧ ax - nk ≤ 1000000 + ((j + 1 : Nat) : Int) * 100000) := ⟨by omega, by omega⟩
          clear hlt
          go_wp2
          go_roundw
          case rel => exact ⟨j + 1, ax - nk, by rw [show ((pf.toNat + (j + 1) : Nat) : Int) = (k : Int) + 1 by have := HK.out; omega], by have := HK.out; have := HLT.out; omega, rfl, HS1, HB1, hk5⟩
          case measure => have := HK.out; have := HLT.out; simp [intOf]; omega
      · have hpn := HP.out
        have hnn := HN.out
        have hjp : j = pd - pf.toNat := by omega
        obtain ⟨hN, hM, hL, hNn, hMn, hLn⟩ := HH.out
        obtain ⟨bn, on, hab, hbn, hcn⟩ := hN (by omega)
        have HR : Hid (lackR stock store pf N M L pd = (N[pd]?.getD 0 - atMostL store pf M L pd left, decide (0 < N[pd]?.getD 0 - atMostL store pf M L pd left))) := by show _ = _; rw [lackR, ← hjp, hS.out]
        have cN := ((HA.out.1.trans (hbw.out.mono HA.out.1.size)).cell (p := ⟨bn, on + pd, none⟩) hbn).trans (hcn pd (by omega))
        have bN : 0 ≤ N[pd]?.getD 0 ∧ N[pd]?.getD 0 ≤ 100000 := HB.out.1 _ (by rw [List.getElem?_eq_getElem (by omega)]; exact List.getElem_mem _)
        have bA : -100000 ≤ atMostL store pf M L pd left ∧ atMostL store pf M L pd left ≤ 1000000 + ((j : Int) + 1) * 100000 := by
          have b1 : 0 ≤ M[pd]?.getD 0 ∧ M[pd]?.getD 0 ≤ 100000 := HB.out.2.1 _ (by rw [List.getElem?_eq_getElem (by omega)]; exact List.getElem_mem _)
          have b2 : 0 ≤ L[pd]?.getD 0 ∧ L[pd]?.getD 0 ≤ 100000 := HB.out.2.2 _ (by rw [List.getElem?_eq_getElem (by omega)]; exact List.getElem_mem _)
          have b3 := hlb.out
          have b4 := HS.out
          unfold atMostL
          split
          · omega
          · split <;> omega
        have hjj : (j : Int) ≤ 60 := by omega
        have HLB : Hid (-1000000 ≤ left ∧ left ≤ 10000000) := by have := hlb.out; exact ⟨by omega, by omega⟩
        have hkn : pd < n := by omega
        clear hcn hN hM hL hNn hMn hLn hjp
        have HC := atMost_any stock store pf pd left pd a n cap an cn am M cm al L cl
        have HCC := Lib.hid HC
        clear HC
        generalize hnk : N[pd]?.getD 0 = nk at cN bN HR
        generalize ham : atMostL store pf M L pd left = ax at bA HR
        have HAM := Lib.hid ham
        clear hnk ham
        have hw1 : IntKind.i64.wrap (nk - ax) = nk - ax := IntWalk.i64_in _ (by omega)
        subst hab
        have HBN : Hid (bn < wr.heap.size) := by have h1 := HA.out.1.size; have h2 := hbw.out.size; show bn < _; omega
        go_wp2_with (fail)
        go_region_held3 (fun w' => w'.cell? ⟨w.heap.size, 0, none⟩ = some (.int .i64 stock) ∧ w'.cell? ⟨w.heap.size, 1, none⟩ = some (.int .i64 store) ∧ w'.cell? ⟨w.heap.size, 2, none⟩ = some (.slice a n cap) ∧ w'.cell? ⟨w.heap.size, 3, none⟩ = some (.slice (some ⟨bn, on, none⟩) n cn) ∧ w'.cell? ⟨w.heap.size, 4, none⟩ = some (.slice am n cm) ∧ w'.cell? ⟨w.heap.size, 5, none⟩ = some (.slice al n cl) ∧ w'.cell? ⟨w.heap.size + 1, 0, none⟩ = some (.int .i64 pf) ∧ w'.cell? ⟨w.heap.size + 1, 1, none⟩ = some (.int .i64 pd) ∧ w'.cell? ⟨bn, on + pd, none⟩ = some (.int .i64 nk)) (go_keep)
          (first | (go_at_call 135; refine (HCC.out _ (HH.out.2.1.below (HA.out.1.trans (hbw.out.mono HA.out.1.size)).drew) (HH.out.2.2.1.below (HA.out.1.trans (hbw.out.mono HA.out.1.size)).drew) HH.out.2.2.2.2.1 HH.out.2.2.2.2.2 hkn hnn HLB.out HB.out.2.1 HB.out.2.2).mono ?_; rintro e w5 ⟨rfl, hb5⟩; rw [HAM.out]; have hb5' : Below wr.heap.size wr w5 := ⟨hb5.os, hb5.tape, hb5.output, hb5.size, hb5.block⟩; have e0 := blk_cell (blk_below H01.out.1 hb5') 0 rfl; have e1 := blk_cell (blk_below H01.out.1 hb5') 1 rfl; have e2 := blk_cell (blk_below H01.out.1 hb5') 2 rfl; have e3 := blk_cell (blk_below H01.out.1 hb5') 3 rfl; have e4 := blk_cell (blk_below H01.out.1 hb5') 4 rfl; have e5 := blk_cell (blk_below H01.out.1 hb5') 5 rfl; have g0 := blk_cell (blk_below H01.out.2 hb5') 0 rfl; have g1 := blk_cell (blk_below H01.out.2 hb5') 1 rfl; have eN := (hb5'.cell (p := ⟨bn, on + pd, none⟩) HBN.out).trans cN))
        have hk5 : Hid (Below Wa.heap.size Wa w5) := below_self hbw.out hb5'
        clear e0 e1 e2 e3 e4 e5 g0 g1 eN hb5 hb5' cN hw1 c0 c1 c2 c3 c4 c5 d0 d1 hlt
        go_wp2
        refine bodyPost_ret (v := .tuple #[.int .i64 (nk - ax), .bool (decide (0 < nk - ax))]) (by simp [results, Try.results95, go_sem]) rfl ?_
        exact ⟨by rw [HR.out], HA.out.1.trans (hk5.out.mono HA.out.1.size)⟩)
end Go.Proofs.Ytkmcdmidegcbaaa
