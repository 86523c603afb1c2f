/-
  The contract of CourseEnough over this seat's program.
  What is proved: it answers true; nothing that was there before has turned.
  Conditions: a list of bytes that reads as such.
-/
import Derived.Test.YtkmcdmidegcbaaaAW
import Derived.Deep.DeepCutAuto
namespace Go.Proofs.Ytkmcdmidegcbaaa
open Go.RowKit Go.Shelf
attribute [local go_sem] Oper.semAt_some

set_option maxRecDepth 100000 in
set_option maxHeartbeats 4000000 in
theorem enough_any (a : Option Addr) (n cap : Nat) (w : World) (hb : BytesAt w a n) (hn : n ≤ 140737488355328) :
    Calls Try.prog 9 #[.slice a n cap] w fun e w' => e = .returned (.bool true) ∧ Below w.heap.size w w' := by
  have HO := Lib.hid (of_any a n cap w hb hn)
  clear hb hn
  go_enter Try.func9, Try.ntmps9
  go_wp2_with (fail)
  refine HO.out.mono ?_
  rintro e w1 ⟨rfl, hD, hb1⟩
  have HD := Lib.hid (And.intro hD hb1)
  clear hD hb1 HO
  go_wp2_with (fail)
  refine (made_any w.heap.size (w.heap.size + 1) a n cap 0 20 w1 HD.out.1 (by omega) (by omega)).mono ?_
  rintro e w2 ⟨stock, store, ad, ds, cp, rfl, hS, h1, h2, h3, h4, _, hA, _⟩
  obtain ⟨Wa, hWa⟩ : ∃ Wa, w2.alloc (.cells #[.int .i64 stock, .int .i64 store, .slice ad ds.length cp] 60) = Wa := ⟨_, rfl⟩
  have hb2 : Below w.heap.size w w2 := below_apart HD.out.2 hA (fun j hj => by omega)
  have HF : Hid ((20 ≤ store ∧ store ≤ 200) ∧ (0 ≤ stock ∧ stock ≤ store) ∧ (1 ≤ ds.length ∧ ds.length ≤ 20) ∧ (∀ d ∈ ds, SmallDay d)) := ⟨h1, h2, ⟨h3.1, by omega⟩, h4⟩
  have HW := Lib.hid (winE_small (stock := stock) (store := store) (ds := ds) ⟨by omega, by omega⟩ h2 ⟨h3.1, by omega⟩ h4)
  have HK : Hid (KW w Wa w2.heap.size stock store ad ds cp) := by rw [← hWa]; exact ⟨hb2.alloc hb2.size _, heap_alloc_new _ _, hS.below (alloc1 _ _)⟩
  clear hS h1 h2 h3 h4 hA hb2
  have c0 := blk_cell HK.out.2.1 0 rfl; have c1 := blk_cell HK.out.2.1 1 rfl; have c2 := blk_cell HK.out.2.1 2 rfl
  go_wp2_with (fail)
  clear hWa
  refine (First_any stock store ad ds cp Wa HK.out.2.2 (by have := HF.out.2.2.1; omega)).mono ?_
  rintro e w3 ⟨rfl, hb⟩
  have HK := Lib.hid (HK.out.below hb)
  clear hb
  have c0 := blk_cell HK.out.2.1 0 rfl; have c1 := blk_cell HK.out.2.1 1 rfl; have c2 := blk_cell HK.out.2.1 2 rfl
  go_wp2_with (fail)
  refine (Least_any stock store ad ds cp w3 HK.out.2.2 (by have := HF.out.2.2.1; omega)).mono ?_
  rintro e w4 ⟨ho, hb⟩
  rw [if_pos HW.out] at ho
  obtain ⟨N, E, hL, rfl⟩ := least_or ho
  have HL := Lib.hid hL
  have HK := Lib.hid (HK.out.below hb)
  clear hb ho hL
  have c0 := blk_cell HK.out.2.1 0 rfl; have c1 := blk_cell HK.out.2.1 1 rfl; have c2 := blk_cell HK.out.2.1 2 rfl
  go_wp2_with (fail)
  refine (Room_any stock store ad ds cp w4 HK.out.2.2 (by have := HF.out.2.2.1; omega)).mono ?_
  rintro e w5 ⟨ho, hb⟩
  rw [if_pos HW.out] at ho
  obtain ⟨M, F, hR, rfl⟩ := least_or ho
  have HR := Lib.hid hR
  have HK := Lib.hid (HK.out.below hb)
  clear hb ho hR
  have c0 := blk_cell HK.out.2.1 0 rfl; have c1 := blk_cell HK.out.2.1 1 rfl; have c2 := blk_cell HK.out.2.1 2 rfl
  go_upto_region 5 with (fail)
  go_cut [55] (fun s wx => s = .bool false ∧ wx = w5)
  case first =>
    have hfe := fail_ok HW.out
    have hst := HF.out.2.1
    have hso := HF.out.1
    have hFv : F = 0 ∨ F = 6 := by rcases HR.out with h | h <;> omega
    rcases HL.out with ⟨rfl, hN, q1, q2⟩ | ⟨rfl, rfl, q2⟩
    · by_cases hNs : N ≤ stock
      · have hok : okB stock store ds = true := ok_more HF.out.2.2.2 hNs (Int.le_refl _) ⟨hN.1, by omega⟩ hst.2 q1
        rw [hok] at hfe
        clear q1 q2 hok
        rcases hFv with rfl | rfl
        all_goals (go_wp2_with (fail); go_meet; exact ⟨rfl, rfl⟩)
      · have hok : okB stock store ds = false := q2 stock hst.1 (by omega)
        rw [hok] at hfe
        clear q1 q2 hok
        rcases hFv with rfl | rfl
        all_goals (go_wp2_with (fail); go_meet; exact ⟨rfl, rfl⟩)
    · have hok : okB stock store ds = false := q2 stock hst.1 hst.2
      rw [hok] at hfe
      clear q2 hok
      rcases hFv with rfl | rfl
      all_goals (go_wp2_with (fail); go_meet; exact ⟨rfl, rfl⟩)
  case rest =>
    obtain ⟨rfl, rfl⟩ := hcut
    go_upto_region 8 with (fail)
    go_cut [100] (fun s wx => s = .bool false ∧ KW w wx w2.heap.size stock store ad ds cp)
    case first =>
      have hst := HF.out.2.1
      have hso := HF.out.1
      rcases HL.out with ⟨rfl, hN, q1, q2⟩ | ⟨rfl, rfl, q2⟩
      · have hc : N = 0 ∨ (0 < N ∧ okB (N - 1) store ds = false) := by
          by_cases h : N = 0
          · exact .inl h
          · exact .inr ⟨by omega, q2 (N - 1) (by omega) (by omega)⟩
        have k1 : okB N store ds = true := q1
        have d1 : ¬ N < 0 := by omega
        have d2 : ¬ store < N := by omega
        clear q1 q2
        rcases hc with rfl | ⟨hp, k2⟩
        all_goals (go_wp2_with (go_at_call 57; refine (held57_any _ _ stock store ad ds cp w2.heap.size _ HK.out.2.2 (by have := HF.out.2.2.1; omega) (winE_small ⟨by omega, by omega⟩ ⟨by omega, by omega⟩ ⟨HF.out.2.2.1.1, by have := HF.out.2.2.1; omega⟩ HF.out.2.2.2) HK.out.2.1).mono ?_; rintro e w6 ⟨rfl, hb⟩; have HK := Lib.hid (HK.out.below hb); clear hb; have c0 := blk_cell HK.out.2.1 0 rfl; have c1 := blk_cell HK.out.2.1 1 rfl; have c2 := blk_cell HK.out.2.1 2 rfl); go_meet; exact ⟨rfl, HK.out⟩)
      · have k1 : okB store store ds = false := q2 store (by omega) (Int.le_refl _)
        clear q2
        go_wp2_with (go_at_call 57; refine (held57_any _ _ stock store ad ds cp w2.heap.size _ HK.out.2.2 (by have := HF.out.2.2.1; omega) (winE_small ⟨by omega, by omega⟩ ⟨by omega, by omega⟩ ⟨HF.out.2.2.1.1, by have := HF.out.2.2.1; omega⟩ HF.out.2.2.2) HK.out.2.1).mono ?_; rintro e w6 ⟨rfl, hb⟩; have HK := Lib.hid (HK.out.below hb); clear hb; have c0 := blk_cell HK.out.2.1 0 rfl; have c1 := blk_cell HK.out.2.1 1 rfl; have c2 := blk_cell HK.out.2.1 2 rfl)
        go_meet
        exact ⟨rfl, HK.out⟩
    case rest =>
      obtain ⟨rfl, hcut⟩ := hcut
      have HK := Lib.hid hcut
      clear hcut
      have c0 := blk_cell HK.out.2.1 0 rfl; have c1 := blk_cell HK.out.2.1 1 rfl; have c2 := blk_cell HK.out.2.1 2 rfl
      go_upto_region 10 with (fail)
      go_cut [149] (fun s wx => s = .bool false ∧ KW w wx w2.heap.size stock store ad ds cp)
      case first =>
        have hst := HF.out.2.1
        have hso := HF.out.1
        have hM' : roomLo stock = if stock < 1 then 1 else stock := rfl
        rcases HR.out with ⟨rfl, hM, q1, q2⟩ | ⟨rfl, rfl, q2⟩
        · have hc : (stock < 1 ∧ M = 1) ∨ (stock < 1 ∧ 1 < M ∧ okB stock (M - 1) ds = false) ∨ (1 ≤ stock ∧ stock = M) ∨ (1 ≤ stock ∧ stock < M ∧ okB stock (M - 1) ds = false) := by
            by_cases h1 : stock < 1
            · rw [if_pos h1] at hM'
              by_cases h2 : M = 1
              · exact .inl ⟨h1, h2⟩
              · exact .inr (.inl ⟨h1, by omega, q2 (M - 1) (by omega) (by omega)⟩)
            · rw [if_neg h1] at hM'
              by_cases h2 : M = stock
              · exact .inr (.inr (.inl ⟨by omega, h2.symm⟩))
              · exact .inr (.inr (.inr ⟨by omega, by omega, q2 (M - 1) (by omega) (by omega)⟩))
          have hM1 : stock ≤ M ∧ 1 ≤ M ∧ M ≤ 1000000 := by
            by_cases h1 : stock < 1
            · rw [if_pos h1] at hM'; omega
            · rw [if_neg h1] at hM'; omega
          have d1 : ¬ M < stock := by omega
          have d2 : ¬ M < 1 := by omega
          have d3 : ¬ 1000000 < M := by omega
          have k1 : okB stock M ds = true := q1
          clear q1 q2 hM hM'
          rcases hc with ⟨hs1, rfl⟩ | ⟨hs1, hm1, k4⟩ | ⟨hs1, rfl⟩ | ⟨hs1, hm1, k4⟩
          all_goals (go_wp2_with (go_at_call 57; refine (held57_any _ _ stock store ad ds cp w2.heap.size _ HK.out.2.2 (by have := HF.out.2.2.1; omega) (winE_small ⟨by omega, by omega⟩ ⟨by omega, by omega⟩ ⟨HF.out.2.2.1.1, by have := HF.out.2.2.1; omega⟩ HF.out.2.2.2) HK.out.2.1).mono ?_; rintro e w6 ⟨rfl, hb⟩; have HK := Lib.hid (HK.out.below hb); clear hb; have c0 := blk_cell HK.out.2.1 0 rfl; have c1 := blk_cell HK.out.2.1 1 rfl; have c2 := blk_cell HK.out.2.1 2 rfl); all_goals (go_meet; exact ⟨rfl, HK.out⟩))
        · have hlo : roomLo stock ≤ 1000000 := by rw [hM']; split <;> omega
          have k1 : okB stock 1000000 ds = false := q2 1000000 hlo (Int.le_refl _)
          clear q2 hM' hlo
          go_wp2_with (go_at_call 57; refine (held57_any _ _ stock store ad ds cp w2.heap.size _ HK.out.2.2 (by have := HF.out.2.2.1; omega) (winE_small ⟨by omega, by omega⟩ ⟨by omega, by omega⟩ ⟨HF.out.2.2.1.1, by have := HF.out.2.2.1; omega⟩ HF.out.2.2.2) HK.out.2.1).mono ?_; rintro e w6 ⟨rfl, hb⟩; have HK := Lib.hid (HK.out.below hb); clear hb; have c0 := blk_cell HK.out.2.1 0 rfl; have c1 := blk_cell HK.out.2.1 1 rfl; have c2 := blk_cell HK.out.2.1 2 rfl)
          go_meet
          exact ⟨rfl, HK.out⟩
      case rest =>
        obtain ⟨rfl, hcut⟩ := hcut
        have HK := Lib.hid hcut
        clear hcut
        go_wp2_with (fail)
        refine (awake_any _).mono ?_
        rintro e w6 ⟨rfl, hb⟩
        have HK := Lib.hid (HK.out.below hb)
        clear hb
        go_wp2_with (fail)
        go_ret
        exact ⟨rfl, HK.out.1⟩
end Go.Proofs.Ytkmcdmidegcbaaa
