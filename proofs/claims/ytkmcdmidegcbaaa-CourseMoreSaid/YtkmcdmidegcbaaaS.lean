/-
  The contracts of CheckWinter, the ends of spans, and the weathers of ends, over this seat's program.
  What is proved: CheckWinter answers the error of a winter; the lists of the worst and of the best weather read as the ends of the days' spans.
  Conditions: slices of at most 1000000 elements.
-/
import Derived.Test.YtkmcdmidegcbaaaR
namespace Go.Proofs.Ytkmcdmidegcbaaa
open Go.RowKit Go.Shelf
attribute [local go_sem] Oper.semAt_some

abbrev wv (stock store : Int) (a : Option Addr) (n cap : Nat) : Value := .agg #[.int .i64 stock, .int .i64 store, .slice a n cap]
def dayB (d : Dy) : Bool := boundedB d.need 100000 && (boundedB d.make 100000 && boundedB d.loss 100000)
def winE (stock store : Int) (ds : List Dy) : Int := if withinB store 1 1000000 = true then (if withinB stock 0 store = true then (if withinB ds.length 1 60 = true then (if ds.all dayB = true then 0 else 3) else 2) else 3) else 3

set_option maxHeartbeats 400000 in
theorem day_any (d : Dy) (w : World) : Calls Try.prog 127 #[d.v] w fun e w' => e = .returned (.bool (dayB d)) ∧ Below w.heap.size w w' := by
  go_enter Try.func127, Try.ntmps127
  obtain ⟨Wa, hWa⟩ : ∃ Wa, w.alloc (.cells #[.int .i64 d.need.lo, .int .i64 d.need.hi, .int .i64 d.make.lo, .int .i64 d.make.hi, .int .i64 d.loss.lo, .int .i64 d.loss.hi] 97) = Wa := ⟨_, rfl⟩
  have hba : Below w.heap.size w Wa := by rw [← hWa]; exact (Below.refl _ _).alloc (Nat.le_refl _) _
  have h0 : Wa.heap[w.heap.size]? = some (.cells #[.int .i64 d.need.lo, .int .i64 d.need.hi, .int .i64 d.make.lo, .int .i64 d.make.hi, .int .i64 d.loss.lo, .int .i64 d.loss.hi] 97 (0, 0)) := by rw [← hWa]; exact new_at rfl
  have c0 := blk_cell h0 0 rfl
  have c1 := blk_cell h0 1 rfl
  go_wp2_with fail
  clear hWa c0 c1
  refine (bounded_any d.need _ _).mono ?_
  rintro e w1 ⟨rfl, hb⟩
  have h1 := blk_below h0 hb
  have hb1 := below_self hba hb
  have c2 := blk_cell h1 2 rfl
  have c3 := blk_cell h1 3 rfl
  clear hb hba h0
  cases e1 : boundedB d.need 100000
  · have HD := Lib.hid (show dayB d = false by simp [dayB, e1])
    go_wp2
    go_ret
    exact ⟨by rw [HD.out]; rfl, hb1⟩
  · go_wp2_with fail
    refine (bounded_any d.make _ _).mono ?_
    rintro e w2 ⟨rfl, hb⟩
    have h2 := blk_below h1 hb
    have hb2 := below_self hb1 hb
    have c4 := blk_cell h2 4 rfl
    have c5 := blk_cell h2 5 rfl
    clear hb hb1 h1 c2 c3
    cases e2 : boundedB d.make 100000
    · have HD := Lib.hid (show dayB d = false by simp [dayB, e2])
      go_wp2
      go_ret
      exact ⟨by rw [HD.out]; rfl, hb2⟩
    · have HD := Lib.hid (show dayB d = boundedB d.loss 100000 by simp [dayB, e1, e2])
      go_wp2_with fail
      refine (bounded_any d.loss _ _).mono ?_
      rintro e w3 ⟨rfl, hb⟩
      go_wp2
      go_ret
      exact ⟨by rw [HD.out]; rfl, below_self hb2 hb⟩

theorem eg127 : ∀ args w, (callFunc 127 args).run Try.prog w = .ok (.enter 127 args) w := enters_of Try.func127 (by kernel_rfl) rfl
set_option maxHeartbeats 800000 in
theorem checkWinter_any (stock store : Int) (a : Option Addr) (ds : List Dy) (cap : Nat) (w : World) (hx : Sl 6 Dy.cells w a ds) (hl : ds.length ≤ 1000000) :
    Calls Try.prog 92 #[wv stock store a ds.length cap] w fun e w' => e = .returned (.int .i64 (winE stock store ds)) ∧ Below w.heap.size w w' := by
  go_enter Try.func92, Try.ntmps92
  obtain ⟨Wa, hWa⟩ : ∃ Wa, w.alloc (.cells #[.int .i64 stock, .int .i64 store, .slice a ds.length cap] 60) = Wa := ⟨_, rfl⟩
  have hba : Below w.heap.size w Wa := by rw [← hWa]; exact (Below.refl _ _).alloc (Nat.le_refl _) _
  have h0 : Wa.heap[w.heap.size]? = some (.cells #[.int .i64 stock, .int .i64 store, .slice a ds.length cap] 60 (0, 0)) := by rw [← hWa]; exact new_at rfl
  have c0 := blk_cell h0 0 rfl
  have c1 := blk_cell h0 1 rfl
  have c2 := blk_cell h0 2 rfl
  have hlt := lt_of_block h0
  cases e1 : withinB store 1 1000000
  · have HD := Lib.hid (show winE stock store ds = 3 by simp [winE, e1])
    go_wp2_with (go_at_call 71; refine (within_any _ _ _ _).mono ?_; rintro e w' ⟨rfl, rfl⟩)
    go_ret
    exact ⟨by rw [HD.out]; rfl, hba⟩
  · cases e2 : withinB stock 0 store
    · have HD := Lib.hid (show winE stock store ds = 3 by simp [winE, e1, e2])
      go_wp2_with (go_at_call 71; refine (within_any _ _ _ _).mono ?_; rintro e w' ⟨rfl, rfl⟩)
      go_ret
      exact ⟨by rw [HD.out]; rfl, hba⟩
    · cases e3 : withinB ds.length 1 60
      · have HD := Lib.hid (show winE stock store ds = 2 by simp [winE, e1, e2, e3])
        go_wp2_with (go_at_call 71; refine (within_any _ _ _ _).mono ?_; rintro e w' ⟨rfl, rfl⟩)
        go_ret
        exact ⟨by rw [HD.out]; rfl, hba⟩
      · have HD := Lib.hid (show winE stock store ds = (if ds.all dayB = true then 0 else 3) by simp [winE, e1, e2, e3])
        go_wp2_with (go_at_call 71; refine (within_any _ _ _ _).mono ?_; rintro e w' ⟨rfl, rfl⟩)
        refine (every_day a ds cap 127 #[] dayB _ (hx.below hba) hl eg127 (fun x _ W _ => day_any x W)).mono ?_
        rintro e w1 ⟨rfl, hb⟩
        have hb1 := below_self hba hb
        cases e4 : ds.all dayB
        · have HD2 := Lib.hid (show winE stock store ds = 3 by rw [HD.out]; simp [e4])
          go_wp2
          go_ret
          exact ⟨by rw [HD2.out]; rfl, hb1⟩
        · have HD2 := Lib.hid (show winE stock store ds = 0 by rw [HD.out]; simp [e4])
          go_wp2
          go_ret
          exact ⟨by rw [HD2.out]; rfl, hb1⟩
end Go.Proofs.Ytkmcdmidegcbaaa
