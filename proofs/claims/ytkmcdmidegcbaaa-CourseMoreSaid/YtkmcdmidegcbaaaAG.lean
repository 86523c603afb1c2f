/-
  The contract of Room over this seat's program.
  What is proved: it answers the least store with which no day fails in the worst weather, or the error.
  Conditions: slices of at most 1000000 elements.
-/
import Derived.Test.YtkmcdmidegcbaaaAF
namespace Go.Proofs.Ytkmcdmidegcbaaa
open Go.RowKit Go.Shelf
attribute [local go_sem] Oper.semAt_some

def roomLo (stock : Int) : Int := if stock < 1 then 1 else stock

set_option maxRecDepth 100000 in
set_option maxHeartbeats 1000000 in
theorem Room_any (stock store : Int) (a : Option Addr) (ds : List Dy) (cap : Nat) (w : World) (hx : Sl 6 Dy.cells w a ds) (hl : ds.length ≤ 1000000) :
    Calls Try.prog 42 #[wv stock store a ds.length cap] w (OutLeastW w stock store ds (roomLo stock) 1000000 (fun v => (worstL stock v ds).fails == -1)) := by
  have HX := Lib.hid (And.intro hx hl)
  clear hx hl
  obtain ⟨Wa, hWa⟩ : ∃ Wa, w.alloc (.cells #[.int .i64 stock, .int .i64 store, .slice a ds.length cap] 60) = Wa := ⟨_, rfl⟩
  have hba : Below w.heap.size w Wa := by rw [← hWa]; exact (Below.refl _ _).alloc (Nat.le_refl _) _
  have h0 : Wa.heap[w.heap.size]? = some (.cells #[.int .i64 stock, .int .i64 store, .slice a ds.length cap] 60 (0, 0)) := by rw [← hWa]; exact new_at rfl
  have a0 := blk_cell h0 0 rfl
  have a1 := blk_cell h0 1 rfl
  have a2 := blk_cell h0 2 rfl
  go_enter Try.func42, Try.ntmps42
  go_wp2_with (fail)
  clear hWa a0 a1 a2
  refine (checkWinter_any stock store a ds cap _ (HX.out.1.below hba) HX.out.2).mono ?_
  rintro e w1 ⟨rfl, hb1⟩
  have H1 := Lib.hid (And.intro (below_self hba hb1) (blk_below h0 hb1))
  clear hba h0 hb1
  have c0 := blk_cell H1.out.2 0 rfl
  have c1 := blk_cell H1.out.2 1 rfl
  have c2 := blk_cell H1.out.2 2 rfl
  by_cases hw : winE stock store ds = 0
  · have hwb : (winE stock store ds != 0) = false := by simp [hw]
    have HW := Lib.hid hw
    clear hw
    obtain ⟨b1, b2, b3⟩ := win_ok HW.out
    have HOK := Lib.hid (And.intro b1 (And.intro b2 b3))
    clear b1 b2 b3
    by_cases hs1 : stock < 1
    · have HS := Lib.hid hs1
      go_wp2_with (fail)
      refine (least_any 1 1000000 100 #[.pointer (some ⟨w.heap.size, 0, none⟩)] (fun v => (worstL stock v ds).fails == -1) w1 ⟨by have := HOK.out.1; omega, by have := HOK.out.1; omega, Int.le_refl _⟩ eg100 (fun s t h1 h2 h3 hq => by simp only [beq_iff_eq] at hq ⊢; have h := HOK.out.1; have h' := HS.out; exact worst_more HOK.out.2.2 (Int.le_refl _) h2 ⟨h.1, by omega⟩ (by omega) hq) (fun v h1 h2 W hW => room100_any v stock store a ds cap w.heap.size W (HX.out.1.below (below_self H1.out.1 hW)) HOK.out.2.1.2 ⟨HOK.out.1.1, by have h' := HS.out; omega, h2⟩ HOK.out.2.2 (blk_below H1.out.2 hW))).mono ?_
      rintro e w2 ⟨⟨r, hr, rfl⟩, hb2⟩
      have HR := Lib.hid hr
      have HB2 := Lib.hid (below_self H1.out.1 hb2)
      clear hr hb2 c0 c1 c2 hs1
      by_cases hle : (1 : Int) + (r : Int) ≤ 1000000
      · rw [if_pos hle]
        have HLE := Lib.hid hle
        clear hle
        go_wp2
        refine bodyPost_ret (v := .tuple #[.int .i64 (1 + r), .int .i64 0]) (by simp [results, Try.results42, go_sem]) rfl ?_
        exact ⟨by rw [if_pos HW.out, show roomLo stock = 1 from if_pos HS.out]; exact ⟨r, HR.out, by rw [if_pos (by have := HLE.out; omega)]⟩, HB2.out⟩
      · rw [if_neg hle]
        have HLE := Lib.hid hle
        clear hle
        go_wp2
        refine bodyPost_ret (v := .tuple #[.int .i64 0, .int .i64 6]) (by simp [results, Try.results42, go_sem]) rfl ?_
        exact ⟨by rw [if_pos HW.out, show roomLo stock = 1 from if_pos HS.out]; exact ⟨r, HR.out, by rw [if_neg (by have := HLE.out; omega)]⟩, HB2.out⟩
    · have HS := Lib.hid hs1
      go_wp2_with (fail)
      refine (least_any stock 1000000 100 #[.pointer (some ⟨w.heap.size, 0, none⟩)] (fun v => (worstL stock v ds).fails == -1) w1 ⟨by have := HOK.out.1; omega, by have := HOK.out.1; omega, Int.le_refl _⟩ eg100 (fun s t h1 h2 h3 hq => by simp only [beq_iff_eq] at hq ⊢; have h := HOK.out.1; have h' := HS.out; exact worst_more HOK.out.2.2 (Int.le_refl _) h2 ⟨h.1, by omega⟩ (by omega) hq) (fun v h1 h2 W hW => room100_any v stock store a ds cap w.heap.size W (HX.out.1.below (below_self H1.out.1 hW)) HOK.out.2.1.2 ⟨HOK.out.1.1, by have h' := HS.out; omega, h2⟩ HOK.out.2.2 (blk_below H1.out.2 hW))).mono ?_
      rintro e w2 ⟨⟨r, hr, rfl⟩, hb2⟩
      have HR := Lib.hid hr
      have HB2 := Lib.hid (below_self H1.out.1 hb2)
      clear hr hb2 c0 c1 c2 hs1
      by_cases hle : stock + (r : Int) ≤ 1000000
      · rw [if_pos hle]
        have HLE := Lib.hid hle
        clear hle
        go_wp2
        refine bodyPost_ret (v := .tuple #[.int .i64 (stock + r), .int .i64 0]) (by simp [results, Try.results42, go_sem]) rfl ?_
        exact ⟨by rw [if_pos HW.out, show roomLo stock = stock from if_neg (by have := HS.out; omega)]; exact ⟨r, HR.out, by rw [if_pos (by have := HLE.out; omega)]⟩, HB2.out⟩
      · rw [if_neg hle]
        have HLE := Lib.hid hle
        clear hle
        go_wp2
        refine bodyPost_ret (v := .tuple #[.int .i64 0, .int .i64 6]) (by simp [results, Try.results42, go_sem]) rfl ?_
        exact ⟨by rw [if_pos HW.out, show roomLo stock = stock from if_neg (by have := HS.out; omega)]; exact ⟨r, HR.out, by rw [if_neg (by have := HLE.out; omega)]⟩, HB2.out⟩
  · have hwb : (winE stock store ds != 0) = true := by simp [hw]
    have HW := Lib.hid hw
    clear hw c0 c1 c2
    go_wp2
    refine bodyPost_ret (v := .tuple #[.int .i64 0, .int .i64 (winE stock store ds)]) (by simp [results, Try.results42, go_sem]) rfl ?_
    exact ⟨by rw [if_neg HW.out], H1.out.1⟩
end Go.Proofs.Ytkmcdmidegcbaaa
