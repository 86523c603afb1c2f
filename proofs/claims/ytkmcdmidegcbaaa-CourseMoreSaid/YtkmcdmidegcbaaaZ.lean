/-
  The contract of atMost over this seat's program.
  What is proved: what the store has at most, by a proof, after snow is made on a day before which so much was left.
  Conditions: a day of the weather; numbers within their bounds.
-/
import Derived.Test.YtkmcdmidegcbaaaY
namespace Go.Proofs.Ytkmcdmidegcbaaa
open Go.RowKit Go.Shelf
attribute [local go_sem] Oper.semAt_some

def atMostL (store pf : Int) (M L : List Int) (k : Nat) (left : Int) : Int := if (k : Int) = pf then store else (if left - L[k]?.getD 0 < 0 then 0 else left - L[k]?.getD 0) + M[k]?.getD 0

set_option maxHeartbeats 1000000 in
theorem atMost_any (stock store pf pd left : Int) (k : Nat) (a : Option Addr) (n cap : Nat) (an : Option Addr) (cn : Nat) (am : Option Addr) (M : List Int) (cm : Nat) (al : Option Addr) (L : List Int) (cl : Nat) (w : World)
    (hM : IntSl w am M) (hL : IntSl w al L) (hMn : M.length = n) (hLn : L.length = n) (hk : k < n) (hn : n ≤ 60) (hl : -1000000 ≤ left ∧ left ≤ 10000000)
    (hbM : ∀ x ∈ M, 0 ≤ x ∧ x ≤ 100000) (hbL : ∀ x ∈ L, 0 ≤ x ∧ x ≤ 100000) :
    Calls Try.prog 135 #[sv stock store a n cap an n cn am n cm al n cl, .agg #[.int .i64 pf, .int .i64 pd], .int .i64 k, .int .i64 left] w fun e w' => e = .returned (.int .i64 (atMostL store pf M L k left)) ∧ Below w.heap.size w w' := by
  obtain ⟨bm, om, rfl, hbm, hcm⟩ := hM (by omega)
  obtain ⟨bl, ol, rfl, hbl, hcl⟩ := hL (by omega)
  have bM : 0 ≤ M[k]?.getD 0 ∧ M[k]?.getD 0 ≤ 100000 := hbM _ (by rw [List.getElem?_eq_getElem (by omega)]; exact List.getElem_mem _)
  have bL : 0 ≤ L[k]?.getD 0 ∧ L[k]?.getD 0 ≤ 100000 := hbL _ (by rw [List.getElem?_eq_getElem (by omega)]; exact List.getElem_mem _)
  have cM := hcm k (by omega)
  have cL := hcl k (by omega)
  have HA : Hid (atMostL store pf M L k left = if (k : Int) = pf then store else (if left - L[k]?.getD 0 < 0 then 0 else left - L[k]?.getD 0) + M[k]?.getD 0) := rfl
  generalize M[k]?.getD 0 = mk at cM bM HA
  generalize L[k]?.getD 0 = lk at cL bL HA
  clear hcm hcl hM hL hMn hLn hbM hbL
  obtain ⟨Wa, hWa⟩ : ∃ Wa, (w.alloc (.cells #[.int .i64 stock, .int .i64 store, .slice a n cap, .slice an n cn, .slice (some ⟨bm, om, none⟩) n cm, .slice (some ⟨bl, ol, none⟩) n cl] 157)).alloc (.cells #[.int .i64 pf, .int .i64 pd] 62) = Wa := ⟨_, rfl⟩
  have hba : Below w.heap.size w Wa := by rw [← hWa]; exact ((Below.refl _ _).alloc (Nat.le_refl _) _).alloc (by simp) _
  have h0 : Wa.heap[w.heap.size]? = some (.cells #[.int .i64 stock, .int .i64 store, .slice a n cap, .slice an n cn, .slice (some ⟨bm, om, none⟩) n cm, .slice (some ⟨bl, ol, none⟩) n cl] 157 (0, 0)) := by rw [← hWa]; exact alk (new_at rfl)
  have h1 : Wa.heap[w.heap.size + 1]? = some (.cells #[.int .i64 pf, .int .i64 pd] 62 (0, 0)) := by rw [← hWa]; exact new_at (by simp)
  have c1 := blk_cell h0 1 rfl
  have c4 := blk_cell h0 4 rfl
  have c5 := blk_cell h0 5 rfl
  have d0 := blk_cell h1 0 rfl
  have cM' := (hba.cell (p := ⟨bm, om + k, none⟩) hbm).trans cM
  have cL' := (hba.cell (p := ⟨bl, ol + k, none⟩) hbl).trans cL
  have HB := Lib.hid hba
  clear hba h0 h1 cM cL
  go_enter Try.func135, Try.ntmps135
  by_cases hp : (k : Int) = pf
  · have HR : Hid (atMostL store pf M L k left = store) := by show _ = _; rw [HA.out, if_pos hp]
    have hpb : ((k : Int) == pf) = true := by simp [hp]
    clear hp
    go_wp2
    go_ret
    exact ⟨by rw [HR.out]; rfl, HB.out⟩
  · have HR : Hid (atMostL store pf M L k left = (if left - lk < 0 then 0 else left - lk) + mk) := by show _ = _; rw [HA.out, if_neg hp]
    have hpb : ((k : Int) == pf) = false := by simp [hp]
    clear hp
    go_wp2_with (fail)
    go_quiet (fail)
    go_wp2
    all_goals go_ret
    all_goals exact ⟨ret_int (by rw [HR.out]; split <;> omega), ⟨HB.out.os, HB.out.tape, HB.out.output, HB.out.size, HB.out.block⟩⟩
end Go.Proofs.Ytkmcdmidegcbaaa
