/-
  Best, over this seat's program.
  What is proved: for a valid range it hands back the first of the clicks that are least bad, and the misses to be expected with it; nothing that was there before has turned.
  Conditions: valid ranges.
-/
import Derived.Test.YthajembgndhakaaJ
namespace Go.Proofs.Ythajembgndhakaa
open Go.RowKit Go.Shelf
attribute [local go_sem] Oper.semAt_some

set_option maxHeartbeats 4000000 in
theorem Best_ok (R : Rv) (n d : Nat) (w : World) (hA : RgAt w R) (ok : RgOk R.r) (hnb : (wonL (badF R.r) (clicksL 0 R.r.clicks)).2 = n) (hn : n ≤ 1000000000000000000) (hd : (d : Int) = sumI R.r.group * powI R.r.total 5) :
    Calls Try.prog 11 #[R.v] w fun e w' => e = .returned (.tuple #[.int .i64 (wonL (badF R.r) (clicksL 0 R.r.clicks)).1, ratV n d, .int .i64 0]) ∧ Below w.heap.size w w' := by
  have hmf := hmf
  have HX := Lib.hid fun W B (hK : WkAt W R B) => expected_any R B n d W hK ok hn hd
  have HWN := Lib.hid fun W B P O Bn Br (hd : BdAt W R B P O) (hbn : W.heap[Bn]? = some (.cells #[.int .i64 0] 3 (0, 0))) (hbr : W.heap[Br]? = some (.cells R.arr 31 (0, 0))) => won_any R 0 B P O Bn Br W hd ok (within_of (by have := ok.clicks; omega)) hbn hbr
  unfold ratV at HX
  generalize hn1 : ((n / Nat.gcd d n : Nat) : Int) = n1 at HX
  generalize hd1 : ((d / Nat.gcd d n : Nat) : Int) = d1 at HX
  have HE := Lib.hid (And.intro hn1 hd1)
  clear hn1 hd1
  generalize (wonL (badF R.r) (clicksL 0 R.r.clicks)).1 = cc at HWN ⊢
  rw [hnb] at HWN
  clear hnb hn hd
  obtain ⟨W0, hW0⟩ : ∃ W0, (w.alloc (.cells R.arr 31)).alloc (.cells #[.int .i64 0, .int .i64 0] 33) = W0 := ⟨_, rfl⟩
  have h0 : Below w.heap.size w W0 := by rw [← hW0]; exact (alloc1 w _).alloc (by simp) _
  have hb : W0.heap[w.heap.size]? = some (.cells R.arr 31 (0, 0)) := by rw [← hW0]; exact (Below.heap_alloc _ _ _ (by simp)).trans (heap_alloc_new w _)
  have hz : W0.heap[w.heap.size + 1]? = some (.cells #[.int .i64 0, .int .i64 0] 33 (0, 0)) := by
    rw [← hW0]; have := heap_alloc_new (w.alloc (.cells R.arr 31)) (.cells #[.int .i64 0, .int .i64 0] 33); simpa using this
  have HBG := Lib.hid (begin_ok R W0 (hA.below h0) ok)
  have HO := Lib.hid ok
  have H0 := Lib.hid (And.intro h0 hz)
  have c0 := blk_cell hb 0 rfl
  have c1 := blk_cell hb 1 rfl
  have c2 := blk_cell hb 2 rfl
  have c3 := blk_cell hb 3 rfl
  have c4 := blk_cell hb 4 rfl
  have c5 := blk_cell hb 5 rfl
  have c6 := blk_cell hb 6 rfl
  have c7 := blk_cell hb 7 rfl
  clear hA ok h0 hb hz
  go_enter Try.func11, Try.ntmps11
  go_wp2_with (fail)
  refine HBG.out.mono ?_
  rintro e w1 ⟨B, rfl, hK, hBl, hb1⟩
  have H1 : Hid (WkAt w1 R B ∧ Below w.heap.size w w1 ∧ w1.heap[w.heap.size + 1]? = some (.cells #[.int .i64 0, .int .i64 0] 33 (0, 0))) := ⟨hK, H0.out.1.trans (hb1.mono H0.out.1.size), blk_below H0.out.2 hb1⟩
  clear hW0 hK hBl hb1 c0 c1 c2 c3 c4 c5 c6 c7
  have c0 := blk_cell H1.out.1.b 0 rfl
  have c1 := blk_cell H1.out.1.b 1 rfl
  have c2 := blk_cell H1.out.1.b 2 rfl
  have c3 := blk_cell H1.out.1.b 3 rfl
  have c4 := blk_cell H1.out.1.b 4 rfl
  have c5 := blk_cell H1.out.1.b 5 rfl
  have c6 := blk_cell H1.out.1.b 6 rfl
  have c7 := blk_cell H1.out.1.b 7 rfl
  go_wp2_with (fail)
  refine (clicks_any R 0 w1).mono ?_
  rintro e w2 ⟨rfl, h2⟩
  have hb2 : Below w1.heap.size w1 w2 := by rw [← h2]; exact (alloc1 w1 _).alloc (by simp) _
  have hr2 : w2.heap[w1.heap.size]? = some (.cells R.arr 31 (0, 0)) := by rw [← h2]; exact (Below.heap_alloc _ _ _ (by simp)).trans (heap_alloc_new w1 _)
  have hn2 : w2.heap[w1.heap.size + 1]? = some (.cells #[.int .i64 0] 3 (0, 0)) := by
    rw [← h2]; have := heap_alloc_new (w1.alloc (.cells R.arr 31)) (.cells #[.int .i64 0] 3); simpa using this
  have HC2 := Lib.hid (And.intro hr2 hn2)
  clear h2 hr2 hn2 c0 c1 c2 c3 c4 c5 c6 c7
  have H2 : Hid (WkAt w2 R B ∧ Below w.heap.size w w2 ∧ w2.heap[w.heap.size + 1]? = some (.cells #[.int .i64 0, .int .i64 0] 33 (0, 0))) := ⟨H1.out.1.below hb2, H1.out.2.1.trans (hb2.mono H1.out.2.1.size), blk_below H1.out.2.2 hb2⟩
  clear hb2
  go_wp2_with (fail)
  refine (bad_any R B w2 H2.out.1 HO.out).mono ?_
  rintro e w3 ⟨P, O, rfl, hBd, hP, hO, hb3⟩
  have HBD := Lib.hid hBd
  have HC3 := Lib.hid (And.intro (blk_below HC2.out.1 hb3) (blk_below HC2.out.2 hb3))
  have H3 : Hid (WkAt w3 R B ∧ Below w.heap.size w w3 ∧ w3.heap[w.heap.size + 1]? = some (.cells #[.int .i64 0, .int .i64 0] 33 (0, 0))) := ⟨H2.out.1.below hb3, H2.out.2.1.trans (hb3.mono H2.out.2.1.size), blk_below H2.out.2.2 hb3⟩
  clear hb3
  clear hBd hP hO
  go_wp2_with (fail)
  refine (HWN.out w3 B P O _ _ HBD.out HC3.out.2 HC3.out.1).mono ?_
  rintro e w4 ⟨rfl, hb4⟩
  have H4 : Hid (WkAt w4 R B ∧ Below w.heap.size w w4 ∧ w4.heap[w.heap.size + 1]? = some (.cells #[.int .i64 0, .int .i64 0] 33 (0, 0))) := ⟨H3.out.1.below hb4, H3.out.2.1.trans (hb4.mono H3.out.2.1.size), blk_below H3.out.2.2 hb4⟩
  clear hb4
  go_wp2_with (fail)
  refine (HX.out w4 B H4.out.1).mono ?_
  rintro e w5 ⟨rfl, hb5⟩
  have H5 : Hid (WkAt w5 R B ∧ Below w.heap.size w w5 ∧ w5.heap[w.heap.size + 1]? = some (.cells #[.int .i64 0, .int .i64 0] 33 (0, 0))) := ⟨H4.out.1.below hb5, H4.out.2.1.trans (hb5.mono H4.out.2.1.size), blk_below H4.out.2.2 hb5⟩
  clear hb5
  have m0 := blk_cell H5.out.2.2 0 rfl
  have m1 := blk_cell H5.out.2.2 1 rfl
  have k0 := blk_free (j := 0) H5.out.2.2
  have k1 := blk_free (j := 1) H5.out.2.2
  have hz10 := blk_setCell (j := 1) (u := .int .i64 d1) (blk_setCell (j := 0) (u := .int .i64 n1) H5.out.2.2)
  have hb10 : Below w.heap.size w ((w5.setCell ⟨w.heap.size + 1, 0, none⟩ (.int .i64 n1)).setCell ⟨w.heap.size + 1, 1, none⟩ (.int .i64 d1)) := (H5.out.2.1.setCell (by show w.heap.size ≤ w.heap.size + 1; omega) _).setCell (by show w.heap.size ≤ w.heap.size + 1; omega) _
  have HF := Lib.hid (And.intro hz10 hb10)
  clear hz10 hb10
  go_wp2_with (fail)
  have q0 := blk_cell HF.out.1 0 rfl
  have q1 := blk_cell HF.out.1 1 rfl
  clear m0 m1 k0 k1
  exact bodyPost_ret (v := .tuple #[.int .i64 cc, .agg #[.int .i64 n1, .int .i64 d1], .int .i64 0]) (by simp [results, Try.results11, go_sem, q0, q1]) rfl ⟨by rw [← HE.out.1, ← HE.out.2], HF.out.2⟩
end Go.Proofs.Ythajembgndhakaa
