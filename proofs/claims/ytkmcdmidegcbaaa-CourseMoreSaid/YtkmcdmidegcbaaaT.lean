/-
  The contracts of the ends of spans and of the weathers of ends, over this seat's program.
  What is proved: the lists of the worst and of the best weather read as the ends of the days' spans.
  Conditions: slices of at most 1000000 elements.
-/
import Derived.Test.YtkmcdmidegcbaaaS
namespace Go.Proofs.Ytkmcdmidegcbaaa
open Go.RowKit Go.Shelf
attribute [local go_sem] Oper.semAt_some

set_option maxHeartbeats 1000000 in
theorem mapped_day (a : Option Addr) (xs : List Dy) (cap g : Nat) (lb : Array Value) (f : Dy → Int) (w : World) (hx : Sl 6 Dy.cells w a xs) (hl : xs.length ≤ 1000000)
    (eg : ∀ args w, (callFunc g args).run Try.prog w = .ok (.enter g args) w)
    (hg : ∀ x ∈ xs, ∀ W, Below w.heap.size w W → Calls Try.prog g (#[Dy.v x] ++ lb) W fun e W' => e = .returned (.int .i64 (f x)) ∧ Below W.heap.size W W') :
    Calls Try.prog 131 #[.slice a xs.length cap, .func (.func g) #[] lb] w (OutInts w (xs.map f)) := by
  have Hg := Lib.hid hg
  clear hg
  obtain ⟨i0, hi, hz0, hz1, hz2⟩ := info_parts Try.info3
  go_enter Try.func131, Try.ntmps131
  go_wp2_with (at_make; refine wpList_make_own _ rfl _ _ 27 rfl w.heap.size 3 i0 (.int .i64 0) 1 Try.underlying27 hi hz0 hz1 _ _ _ xs.length rfl rfl (by omega) ?b2 ?b3 (Nat.le_refl _) ?_)
  case b2 => rw [hz2]; omega
  case b3 => unfold maxLen; omega
  intro w0 hown0 hgrow0
  have hb0 : Below w.heap.size w w0 := (Below.refl _ _).grown hgrow0 (Nat.le_refl _) (fun k h => by cases h)
  clear hgrow0
  go_wp2
  go_loopw [5, 13] (fun v i wr => ∃ k : Nat, k ≤ xs.length ∧ i = .int .i64 k ∧ wr.ownsRow w.heap.size 3 1 v k (((xs.take k).map f).map (Value.int .i64)) ∧ Below w.heap.size w wr) (fun _ i _ => xs.length - (intOf i).toNat)
  case atStart => exact ⟨0, Nat.zero_le _, rfl, hown0, hb0⟩
  case round =>
    obtain ⟨k, hk, rfl, hown, hbw⟩ := hrel
    by_cases hlt : k < xs.length
    · obtain ⟨b, off, rfl, hbs, hc⟩ := hx (by omega)
      have hc0 := (hbw.cell (p := ⟨b, off + k * 6, none⟩) hbs).trans (hc k xs[k] 0 _ (List.getElem?_eq_getElem hlt) rfl)
      have hc1 := (hbw.cell (p := ⟨b, off + k * 6 + 1, none⟩) hbs).trans (hc k xs[k] 1 _ (List.getElem?_eq_getElem hlt) rfl)
      have hc2 := (hbw.cell (p := ⟨b, off + k * 6 + 2, none⟩) hbs).trans (hc k xs[k] 2 _ (List.getElem?_eq_getElem hlt) rfl)
      have hc3 := (hbw.cell (p := ⟨b, off + k * 6 + 3, none⟩) hbs).trans (hc k xs[k] 3 _ (List.getElem?_eq_getElem hlt) rfl)
      have hc4 := (hbw.cell (p := ⟨b, off + k * 6 + 4, none⟩) hbs).trans (hc k xs[k] 4 _ (List.getElem?_eq_getElem hlt) rfl)
      have hc5 := (hbw.cell (p := ⟨b, off + k * 6 + 5, none⟩) hbs).trans (hc k xs[k] 5 _ (List.getElem?_eq_getElem hlt) rfl)
      clear hc
      go_wp2_with fail
      refine (Hg.out _ (List.getElem_mem hlt) _ (hbw.alloc hbw.size _)).mono ?_
      rintro e w1 ⟨rfl, hb1⟩
      have hb2 := below_self (hbw.alloc hbw.size _) hb1
      have hown1 := owns_below (hown.alloc _) hb1
      clear hbw hc0 hc1 hc2 hc3 hc4 hc5 hb1 hown
      go_wp2_with (at_builtin; refine wpList_append_own _ rfl _ _ 27 rfl w.heap.size 3 i0 (.int .i64 0) 1 8 Try.underlying27 hi hz0 hz1 hz2 rfl (by decide) _ _ _ rfl (hown1.alloc _) ⟨w1.heap.size, 0, none⟩ 1 1 [.int .i64 (f xs[k])] rfl rfl ?c1 ?c2 ?c3 ?c4 ?c5 ?_)
      case c1 => exact cell_one_new _ _ _
      case c2 => intro u hu; simp at hu; subst hu; rfl
      case c3 => unfold maxLen; omega
      case c4 => omega
      case c5 => have := hb2.size; simp; omega
      intro v' w2 hown2 hgrow2 _
      have hb3 : Below w.heap.size w w2 := (hb2.alloc hb2.size _).grown hgrow2 (by have := hb2.size; simp; omega) (fun j hj => (hown1.lt j hj).1)
      have hown3 : w2.ownsRow w.heap.size 3 1 v' (k + 1) (((xs.take (k+1)).map f).map (Value.int .i64)) := by
        have e : ((xs.take (k + 1)).map f).map (Value.int .i64) = (xs.map (Value.int .i64 ∘ f)).take k ++ [.int .i64 (f xs[k])] := by
          rw [map_take_succ f xs k hlt, List.map_append]; simp
        rw [e]; exact hown2
      clear hown2 hgrow2 hown1 hb2
      go_wp2
      go_roundw
      case rel => exact ⟨k + 1, by omega, by go_num, hown3, hb3⟩
      case measure => simp [intOf]; omega
    · have : k = xs.length := by omega
      subst this
      rw [List.take_length] at hown
      obtain ⟨a', cap', rfl, hs, hfr⟩ := ints_of_owns hown
      go_wp2
      go_ret
      exact ⟨a', cap', rfl, hs, hfr, hbw⟩


theorem eg129 : ∀ args w, (callFunc 129 args).run Try.prog w = .ok (.enter 129 args) w := enters_of Try.func129 (by kernel_rfl) rfl
theorem eg130 : ∀ args w, (callFunc 130 args).run Try.prog w = .ok (.enter 130 args) w := enters_of Try.func130 (by kernel_rfl) rfl
theorem eg132 : ∀ args w, (callFunc 132 args).run Try.prog w = .ok (.enter 132 args) w := enters_of Try.func132 (by kernel_rfl) rfl
theorem eg133 : ∀ args w, (callFunc 133 args).run Try.prog w = .ok (.enter 133 args) w := enters_of Try.func133 (by kernel_rfl) rfl
theorem eg134 : ∀ args w, (callFunc 134 args).run Try.prog w = .ok (.enter 134 args) w := enters_of Try.func134 (by kernel_rfl) rfl

theorem high_any (s : Sp) (w : World) : Calls Try.prog 129 #[s.v] w fun e w' => e = .returned (.int .i64 s.hi) ∧ Below w.heap.size w w' := by
  go_enter Try.func129, Try.ntmps129
  go_wp2
  go_ret
  exact ⟨rfl, (Below.refl _ _).alloc (Nat.le_refl _) _⟩
theorem low_any (s : Sp) (w : World) : Calls Try.prog 130 #[s.v] w fun e w' => e = .returned (.int .i64 s.lo) ∧ Below w.heap.size w w' := by
  go_enter Try.func130, Try.ntmps130
  go_wp2
  go_ret
  exact ⟨rfl, (Below.refl _ _).alloc (Nat.le_refl _) _⟩

theorem worst_any (w : World) : Calls Try.prog 93 #[] w fun e w' => e = .returned (.agg #[.func (.func 129) #[] #[], .func (.func 130) #[] #[], .func (.func 129) #[] #[]]) ∧ Below w.heap.size w w' := by
  go_enter Try.func93, Try.ntmps93
  obtain ⟨Wa, hWa⟩ : ∃ Wa, w.alloc (.cells #[.func (.func 129) #[] #[], .func (.func 130) #[] #[], .func (.func 129) #[] #[]] 160) = Wa := ⟨_, rfl⟩
  have hba : Below w.heap.size w Wa := by rw [← hWa]; exact (Below.refl _ _).alloc (Nat.le_refl _) _
  have h0 : Wa.heap[w.heap.size]? = some (.cells #[.func (.func 129) #[] #[], .func (.func 130) #[] #[], .func (.func 129) #[] #[]] 160 (0, 0)) := by rw [← hWa]; exact new_at rfl
  have q0 := blk_cell h0 0 rfl
  have q1 := blk_cell h0 1 rfl
  have q2 := blk_cell h0 2 rfl
  go_wp2
  try rw [hWa]
  exact bodyPost_ret (v := .agg #[.func (.func 129) #[] #[], .func (.func 130) #[] #[], .func (.func 129) #[] #[]]) (by simp [results, Try.results93, go_sem, q0, q1, q2]) rfl ⟨rfl, hba⟩
theorem best_any (w : World) : Calls Try.prog 102 #[] w fun e w' => e = .returned (.agg #[.func (.func 130) #[] #[], .func (.func 129) #[] #[], .func (.func 130) #[] #[]]) ∧ Below w.heap.size w w' := by
  go_enter Try.func102, Try.ntmps102
  obtain ⟨Wa, hWa⟩ : ∃ Wa, w.alloc (.cells #[.func (.func 130) #[] #[], .func (.func 129) #[] #[], .func (.func 130) #[] #[]] 160) = Wa := ⟨_, rfl⟩
  have hba : Below w.heap.size w Wa := by rw [← hWa]; exact (Below.refl _ _).alloc (Nat.le_refl _) _
  have h0 : Wa.heap[w.heap.size]? = some (.cells #[.func (.func 130) #[] #[], .func (.func 129) #[] #[], .func (.func 130) #[] #[]] 160 (0, 0)) := by rw [← hWa]; exact new_at rfl
  have q0 := blk_cell h0 0 rfl
  have q1 := blk_cell h0 1 rfl
  have q2 := blk_cell h0 2 rfl
  go_wp2
  try rw [hWa]
  exact bodyPost_ret (v := .agg #[.func (.func 130) #[] #[], .func (.func 129) #[] #[], .func (.func 130) #[] #[]]) (by simp [results, Try.results102, go_sem, q0, q1, q2]) rfl ⟨rfl, hba⟩

def EndsAt (w : World) (B : Nat) (g1 g2 g3 : Nat) : Prop := w.heap[B]? = some (.cells #[.func (.func g1) #[] #[], .func (.func g2) #[] #[], .func (.func g3) #[] #[]] 160 (0, 0))

/-- A function that answers a number of a span, and leaves what was there. -/
def EndF (g : Nat) (f : Sp → Int) : Prop := (∀ args w, (callFunc g args).run Try.prog w = .ok (.enter g args) w) ∧ ∀ (s : Sp) (w : World), Calls Try.prog g #[s.v] w fun e w' => e = .returned (.int .i64 (f s)) ∧ Below w.heap.size w w'
theorem high_f : EndF 129 Sp.hi := ⟨eg129, high_any⟩
theorem low_f : EndF 130 Sp.lo := ⟨eg130, low_any⟩

theorem spell1_any (d : Dy) (g1 g2 g3 B : Nat) (f : Sp → Int) (hf : EndF g1 f) (w : World) (h : EndsAt w B g1 g2 g3) :
    Calls Try.prog 132 #[d.v, .pointer (some ⟨B, 0, none⟩)] w fun e w' => e = .returned (.int .i64 (f d.need)) ∧ Below w.heap.size w w' := by
  obtain ⟨eg, hc⟩ := hf
  have Hc := Lib.hid hc
  clear hc
  have hB := lt_of_block h
  have hbox : Below w.heap.size w (w.alloc (.cells #[.int .i64 d.need.lo, .int .i64 d.need.hi, .int .i64 d.make.lo, .int .i64 d.make.hi, .int .i64 d.loss.lo, .int .i64 d.loss.hi] 97)) := (Below.refl _ _).alloc (Nat.le_refl _) _
  have c0 := blk_cell h 0 rfl
  have c1 := blk_cell h 1 rfl
  have c2 := blk_cell h 2 rfl
  go_enter Try.func132, Try.ntmps132
  go_wp2_with fail
  refine (Hc.out d.need _).mono ?_
  rintro e w1 ⟨rfl, hb⟩
  go_wp2
  go_ret
  exact ⟨rfl, below_self hbox hb⟩
theorem spell2_any (d : Dy) (g1 g2 g3 B : Nat) (f : Sp → Int) (hf : EndF g2 f) (w : World) (h : EndsAt w B g1 g2 g3) :
    Calls Try.prog 133 #[d.v, .pointer (some ⟨B, 0, none⟩)] w fun e w' => e = .returned (.int .i64 (f d.make)) ∧ Below w.heap.size w w' := by
  obtain ⟨eg, hc⟩ := hf
  have Hc := Lib.hid hc
  clear hc
  have hB := lt_of_block h
  have hbox : Below w.heap.size w (w.alloc (.cells #[.int .i64 d.need.lo, .int .i64 d.need.hi, .int .i64 d.make.lo, .int .i64 d.make.hi, .int .i64 d.loss.lo, .int .i64 d.loss.hi] 97)) := (Below.refl _ _).alloc (Nat.le_refl _) _
  have c0 := blk_cell h 0 rfl
  have c1 := blk_cell h 1 rfl
  have c2 := blk_cell h 2 rfl
  go_enter Try.func133, Try.ntmps133
  go_wp2_with fail
  refine (Hc.out d.make _).mono ?_
  rintro e w1 ⟨rfl, hb⟩
  go_wp2
  go_ret
  exact ⟨rfl, below_self hbox hb⟩
theorem spell3_any (d : Dy) (g1 g2 g3 B : Nat) (f : Sp → Int) (hf : EndF g3 f) (w : World) (h : EndsAt w B g1 g2 g3) :
    Calls Try.prog 134 #[d.v, .pointer (some ⟨B, 0, none⟩)] w fun e w' => e = .returned (.int .i64 (f d.loss)) ∧ Below w.heap.size w w' := by
  obtain ⟨eg, hc⟩ := hf
  have Hc := Lib.hid hc
  clear hc
  have hB := lt_of_block h
  have hbox : Below w.heap.size w (w.alloc (.cells #[.int .i64 d.need.lo, .int .i64 d.need.hi, .int .i64 d.make.lo, .int .i64 d.make.hi, .int .i64 d.loss.lo, .int .i64 d.loss.hi] 97)) := (Below.refl _ _).alloc (Nat.le_refl _) _
  have c0 := blk_cell h 0 rfl
  have c1 := blk_cell h 1 rfl
  have c2 := blk_cell h 2 rfl
  go_enter Try.func134, Try.ntmps134
  go_wp2_with fail
  refine (Hc.out d.loss _).mono ?_
  rintro e w1 ⟨rfl, hb⟩
  go_wp2
  go_ret
  exact ⟨rfl, below_self hbox hb⟩
end Go.Proofs.Ytkmcdmidegcbaaa
