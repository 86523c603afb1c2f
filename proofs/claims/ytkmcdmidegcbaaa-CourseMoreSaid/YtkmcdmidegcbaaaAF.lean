/-
  The contracts of Least and Room over this seat's program.
  What is proved: they answer the least stock, and the least store, with which no day fails in the worst weather, or the error.
  Conditions: slices of at most 1000000 elements.
-/
import Derived.Test.YtkmcdmidegcbaaaAE
namespace Go.Proofs.Ytkmcdmidegcbaaa
open Go.RowKit Go.Shelf
attribute [local go_sem] Oper.semAt_some

theorem eg97 : ∀ args w, (callFunc 97 args).run Try.prog w = .ok (.enter 97 args) w := enters_of Try.func97 (by kernel_rfl) rfl
theorem eg100 : ∀ args w, (callFunc 100 args).run Try.prog w = .ok (.enter 100 args) w := enters_of Try.func100 (by kernel_rfl) rfl

theorem least97_any (v stock store : Int) (a : Option Addr) (ds : List Dy) (cap B : Nat) (w : World) (hx : Sl 6 Dy.cells w a ds) (hn : ds.length ≤ 60) (hst : 0 ≤ v ∧ v ≤ store ∧ store ≤ 1000000) (hd : ∀ d ∈ ds, DayOk d)
    (hB : w.heap[B]? = some (.cells #[.int .i64 stock, .int .i64 store, .slice a ds.length cap] 60 (0, 0))) :
    Calls Try.prog 97 #[.int .i64 v, .pointer (some ⟨B, 0, none⟩)] w fun e w' => e = .returned (.bool ((worstL v store ds).fails == -1)) ∧ Below w.heap.size w w' := by
  have HL := Lib.hid (lasts_any v store stock store a ds cap w hx hn hst hd)
  have c0 := blk_cell hB 0 rfl
  have c1 := blk_cell hB 1 rfl
  have c2 := blk_cell hB 2 rfl
  clear hx hn hst hd hB
  go_enter Try.func97, Try.ntmps97
  go_wp2_with (fail)
  refine HL.out.mono ?_
  rintro e w1 ⟨rfl, hb1⟩
  go_wp2
  go_ret
  exact ⟨rfl, hb1⟩
theorem room100_any (v stock store : Int) (a : Option Addr) (ds : List Dy) (cap B : Nat) (w : World) (hx : Sl 6 Dy.cells w a ds) (hn : ds.length ≤ 60) (hst : 0 ≤ stock ∧ stock ≤ v ∧ v ≤ 1000000) (hd : ∀ d ∈ ds, DayOk d)
    (hB : w.heap[B]? = some (.cells #[.int .i64 stock, .int .i64 store, .slice a ds.length cap] 60 (0, 0))) :
    Calls Try.prog 100 #[.int .i64 v, .pointer (some ⟨B, 0, none⟩)] w fun e w' => e = .returned (.bool ((worstL stock v ds).fails == -1)) ∧ Below w.heap.size w w' := by
  have HL := Lib.hid (lasts_any stock v stock store a ds cap w hx hn hst hd)
  have c0 := blk_cell hB 0 rfl
  have c1 := blk_cell hB 1 rfl
  have c2 := blk_cell hB 2 rfl
  clear hx hn hst hd hB
  go_enter Try.func100, Try.ntmps100
  go_wp2_with (fail)
  refine HL.out.mono ?_
  rintro e w1 ⟨rfl, hb1⟩
  go_wp2
  go_ret
  exact ⟨rfl, hb1⟩

/-- What Least hands back. -/
def OutLeast (lo hi : Int) (q : Int → Bool) (e : Ending) : Prop := ∃ r : Nat, LeastOf (hi - lo + 1).toNat (fun t => q (lo + t)) r ∧ e = .returned (if lo + r ≤ hi then .tuple #[.int .i64 (lo + r), .int .i64 0] else .tuple #[.int .i64 0, .int .i64 6])

def OutLeastW (w : World) (stock store : Int) (ds : List Dy) (lo hi : Int) (q : Int → Bool) (e : Ending) (w' : World) : Prop :=
  (if winE stock store ds = 0 then OutLeast lo hi q e else e = .returned (.tuple #[.int .i64 0, .int .i64 (winE stock store ds)])) ∧ Below w.heap.size w w'

set_option maxHeartbeats 1000000 in
theorem Least_any (stock store : Int) (a : Option Addr) (ds : List Dy) (cap : Nat) (w : World) (hx : Sl 6 Dy.cells w a ds) (hl : ds.length ≤ 1000000) :
    Calls Try.prog 40 #[wv stock store a ds.length cap] w (OutLeastW w stock store ds 0 store (fun v => (worstL v store ds).fails == -1)) := by
  have HX := Lib.hid (And.intro hx hl)
  clear hx hl
  obtain ⟨Wa, hWa⟩ : ∃ Wa, w.alloc (.cells #[.int .i64 stock, .int .i64 store, .slice a ds.length cap] 60) = Wa := ⟨_, rfl⟩
  have hba : Below w.heap.size w Wa := by rw [← hWa]; exact (Below.refl _ _).alloc (Nat.le_refl _) _
  have h0 : Wa.heap[w.heap.size]? = some (.cells #[.int .i64 stock, .int .i64 store, .slice a ds.length cap] 60 (0, 0)) := by rw [← hWa]; exact new_at rfl
  have a0 := blk_cell h0 0 rfl
  have a1 := blk_cell h0 1 rfl
  have a2 := blk_cell h0 2 rfl
  go_enter Try.func40, Try.ntmps40
  go_wp2_with (fail)
  clear hWa a0 a1 a2
  refine (checkWinter_any stock store a ds cap _ (HX.out.1.below hba) HX.out.2).mono ?_
  rintro e w1 ⟨rfl, hb1⟩
  have H1 := Lib.hid (And.intro (below_self hba hb1) (blk_below h0 hb1))
  clear hba h0 hb1
  have c0 := blk_cell H1.out.2 0 rfl
  have c1 := blk_cell H1.out.2 1 rfl
  have c2 := blk_cell H1.out.2 2 rfl
  by_cases hw : winE stock store ds = 0
  · have hwb : (winE stock store ds != 0) = false := by simp [hw]
    have HW := Lib.hid hw
    clear hw
    obtain ⟨b1, b2, b3⟩ := win_ok HW.out
    have HOK := Lib.hid (And.intro b1 (And.intro b2 b3))
    clear b1 b2 b3
    go_wp2_with (fail)
    refine (least_any 0 store 97 #[.pointer (some ⟨w.heap.size, 0, none⟩)] (fun v => (worstL v store ds).fails == -1) w1 ⟨by omega, by have := HOK.out.1; omega, HOK.out.1.2.2.2⟩ eg97 (fun s t h1 h2 h3 hq => by simp only [beq_iff_eq] at hq ⊢; exact worst_more HOK.out.2.2 h2 (Int.le_refl _) ⟨h1, by omega⟩ h3 hq) (fun v h1 h2 W hW => least97_any v stock store a ds cap w.heap.size W (HX.out.1.below (below_self H1.out.1 hW)) HOK.out.2.1.2 ⟨h1, h2, HOK.out.1.2.2.2⟩ HOK.out.2.2 (blk_below H1.out.2 hW))).mono ?_
    rintro e w2 ⟨⟨r, hr, rfl⟩, hb2⟩
    have HR := Lib.hid hr
    have HB2 := Lib.hid (below_self H1.out.1 hb2)
    clear hr hb2 c0 c1 c2
    by_cases hle : (0 : Int) + (r : Int) ≤ store
    · rw [if_pos hle]
      have HLE := Lib.hid hle
      clear hle
      go_wp2
      refine bodyPost_ret (v := .tuple #[.int .i64 (0 + r), .int .i64 0]) (by simp [results, Try.results40, go_sem]) rfl ?_
      exact ⟨by rw [if_pos HW.out]; exact ⟨r, HR.out, by rw [if_pos HLE.out]⟩, HB2.out⟩
    · rw [if_neg hle]
      have HLE := Lib.hid hle
      clear hle
      go_wp2
      refine bodyPost_ret (v := .tuple #[.int .i64 0, .int .i64 6]) (by simp [results, Try.results40, go_sem]) rfl ?_
      exact ⟨by rw [if_pos HW.out]; exact ⟨r, HR.out, by rw [if_neg (by have := HLE.out; omega)]⟩, HB2.out⟩
  · have hwb : (winE stock store ds != 0) = true := by simp [hw]
    have HW := Lib.hid hw
    clear hw c0 c1 c2
    go_wp2
    refine bodyPost_ret (v := .tuple #[.int .i64 0, .int .i64 (winE stock store ds)]) (by simp [results, Try.results40, go_sem]) rfl ?_
    exact ⟨by rw [if_neg HW.out], H1.out.1⟩
end Go.Proofs.Ytkmcdmidegcbaaa
