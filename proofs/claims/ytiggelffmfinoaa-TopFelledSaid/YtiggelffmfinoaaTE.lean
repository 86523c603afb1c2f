/-
  rifle.Gap of one hold from 0 to 7, asked from 0 to 9, over this seat's program.
  What is proved: it answers 7; nothing that was there before has turned.
  Conditions: none.
-/
import Derived.Test.YtiggelffmfinoaaFI
namespace Go.Proofs.Ytiggelffmfinoaa
open Go.RowKit Go.Shelf
attribute [local go_sem] Oper.semAt_some

set_option maxHeartbeats 1000000 in
theorem every_hold (a : Option Addr) (xs : List Lp) (cap g : Nat) (lb : Array Value) (p : Lp → Bool) (w : World) (hx : Sl 3 Lp.cells w a xs) (hl : xs.length ≤ 1000000)
    (eg : ∀ args w, (callFunc g args).run Try.prog w = .ok (.enter g args) w)
    (hg : ∀ x ∈ xs, ∀ W, Below w.heap.size w W → Calls Try.prog g (#[Lp.v x] ++ lb) W fun e W' => e = .returned (.bool (p x)) ∧ Below W.heap.size W W') :
    Calls Try.prog 74 #[.slice a xs.length cap, .func (.func g) #[] lb] w fun e w' => e = .returned (.bool (xs.all p)) ∧ Below w.heap.size w w' := by
  have Hg := Lib.hid hg
  clear hg
  go_enter Try.func74, Try.ntmps74
  go_wp2
  go_loopw [9] (fun i wr => ∃ k : Nat, k ≤ xs.length ∧ i = .int .i64 k ∧ Hid ((xs.take k).all p = true) ∧ Below w.heap.size w wr) (fun i _ => xs.length - (intOf i).toNat)
  case atStart => exact ⟨0, Nat.zero_le _, rfl, by simp [Hid], Below.refl _ _⟩
  case round =>
    obtain ⟨k, hk, rfl, hall, hbw⟩ := hrel
    by_cases hlt : k < xs.length
    · obtain ⟨b, off, rfl, hbs, hc⟩ := hx (by omega)
      have hc0 := (hbw.cell (p := ⟨b, off + k * 3, none⟩) hbs).trans (hc k xs[k] 0 _ (List.getElem?_eq_getElem hlt) rfl)
      have hc1 := (hbw.cell (p := ⟨b, off + k * 3 + 1, none⟩) hbs).trans (hc k xs[k] 1 _ (List.getElem?_eq_getElem hlt) rfl)
      have hc2 := (hbw.cell (p := ⟨b, off + k * 3 + 2, none⟩) hbs).trans (hc k xs[k] 2 _ (List.getElem?_eq_getElem hlt) rfl)
      clear hc
      go_wp2_with fail
      refine (Hg.out xs[k] (List.getElem_mem hlt) _ (hbw.alloc hbw.size _)).mono ?_
      rintro e w1 ⟨rfl, hb1⟩
      have hb2 := below_self (hbw.alloc hbw.size _) hb1
      clear hbw hc0 hc1 hc2 hb1
      cases hp : p xs[k]
      · have HF := Lib.hid (all_false p xs k hlt hp)
        clear hp
        go_wp2
        go_ret
        exact ⟨by rw [HF.out]; rfl, hb2⟩
      · have HF := Lib.hid ((all_take_succ p xs k hlt).trans (by rw [hall.out, hp]))
        clear hp hall
        go_wp2
        go_roundw
        case rel => exact ⟨k + 1, by omega, by go_num, HF, hb2⟩
        case measure => simp [intOf]; omega
    · have : k = xs.length := by omega
      subst this
      rw [List.take_length] at hall
      go_wp2
      go_ret
      exact ⟨by rw [hall.out]; rfl, hbw⟩


theorem cells_new (w : World) (news : List Value) (t : TypeId) : ∀ j u, news[j]? = some u → (w.alloc (.cells news.toArray t)).cell? ((⟨w.heap.size, 0, none⟩ : Addr).add j) = some u := by
  intro j u hj
  have : (⟨w.heap.size, 0, none⟩ : Addr).add j = ⟨w.heap.size, j, none⟩ := by unfold Addr.add; split <;> simp_all
  rw [this]
  exact blk_cell (heap_alloc_new w _) j (by simpa using hj)
theorem eg75 : ∀ args w, (callFunc 75 args).run Try.prog w = .ok (.enter 75 args) w := enters_of Try.func75 (by kernel_rfl) rfl
abbrev h7 : Lp := ⟨0, 0, 7⟩
set_option maxHeartbeats 400000 in
theorem hold_ok (w : World) : Calls Try.prog 75 #[h7.v] w fun e w' => e = .returned (.bool true) ∧ Below w.heap.size w w' := by
  have h0 : Below w.heap.size w (w.alloc (.cells #[.int .i64 0, .int .i64 0, .int .i64 7] 70)) := alloc1 w _
  have hw : withinB 0 0 99 = true := by decide
  go_enter Try.func75, Try.ntmps75
  go_wp2_with (go_at_call 73; refine (within_r _ _ _ _).mono ?_; rintro e w' ⟨rfl, rfl⟩)
  go_ret
  exact ⟨rfl, h0⟩
set_option maxHeartbeats 400000 in
theorem checkGuard_ok (a : Option Addr) (w : World) (hx : Sl 3 Lp.cells w a [h7]) : Calls Try.prog 50 #[.slice a 1 1] w fun e w' => e = .returned (.int .i64 0) ∧ Below w.heap.size w w' := by
  have HC := Lib.hid (every_hold a [h7] 1 75 #[] (fun _ => true) w hx (by decide) eg75 (fun x h W _ => by
    have : x = h7 := by simpa using h
    subst this; exact hold_ok W))
  have hw : withinB 1 1 30 = true := by decide
  clear hx
  go_enter Try.func50, Try.ntmps50
  go_wp2_with (go_at_call 73; refine (within_r _ _ _ _).mono ?_; rintro e w' ⟨rfl, rfl⟩)
  refine HC.out.mono ?_
  rintro e w1 ⟨rfl, hb⟩
  go_wp2
  go_ret
  exact ⟨rfl, hb⟩
set_option maxHeartbeats 400000 in
theorem checkSpan_ok (a : Option Addr) (w : World) (hx : Sl 3 Lp.cells w a [h7]) : Calls Try.prog 40 #[.slice a 1 1, .int .i64 0, .int .i64 9] w fun e w' => e = .returned (.int .i64 0) ∧ Below w.heap.size w w' := by
  have HC := Lib.hid (checkGuard_ok a w hx)
  clear hx
  go_enter Try.func40, Try.ntmps40
  go_wp2_with (fail)
  refine HC.out.mono ?_
  rintro e w1 ⟨rfl, hb⟩
  go_wp2
  go_ret
  exact ⟨rfl, hb⟩

theorem Try.info70 : (Try.prog.info? 70).map (fun i => (i.zero, i.size, i.bytes)) = some (some (.agg #[.int .i64 0, .int .i64 0, .int .i64 0]), 3, 24) := by kernel_rfl
/-- One hold in a block of the call's own. -/
def OutHold (w : World) (e : Ending) (w' : World) : Prop := ∃ g cap cur, e = .returned (.slice (some ⟨g, 0, none⟩) 1 cap) ∧ w'.heap[g]? = some (.cells cur 70 (0, 0)) ∧ cur[0]? = some (.int .i64 0) ∧ cur[1]? = some (.int .i64 0) ∧ cur[2]? = some (.int .i64 7) ∧ w.heap.size ≤ g ∧ Below w.heap.size w w'
set_option maxHeartbeats 1000000 in
theorem cloneHold_ok (q : Addr) (w : World) (hx : Sl 3 Lp.cells w (some q) [h7]) : Calls Try.prog 51 #[.slice (some q) 1 1] w (OutHold w) := by
  obtain ⟨i0, hi, hz0, hz1, hz2⟩ := info_parts Try.info70
  have q102 : ∀ (w : World) (a : Option Addr) (n c n' c' : Nat), (binOp .eql 71 (.slice a n c) (.slice none n' c')).run Try.prog w = .ok (.bool a.isNone) w := fun w a n c n' c' => Lib.run_eql_slice_nil w _ _ a n c n' c' Try.underlying71
  have HC : Hid (∀ j u, ([.int .i64 0, .int .i64 0, .int .i64 7] : List Value)[j]? = some u → (w.alloc (.cells #[] 70)).cell? (q.add j) = some u) := fun j u hu => by
    obtain ⟨b, off, hab, hbs, hc⟩ := hx (by decide)
    cases hab
    have e : (⟨b, off, none⟩ : Addr).add j = ⟨b, off + j, none⟩ := by unfold Addr.add; split <;> simp_all
    rw [e, World.cell?_alloc_past _ _ _ (by exact hbs)]
    match j, hu with
    | 0, hu => simp at hu; subst hu; exact hc 0 h7 0 0 rfl rfl
    | 1, hu => simp at hu; subst hu; exact hc 0 h7 1 0 rfl rfl
    | 2, hu => simp at hu; subst hu; exact hc 0 h7 2 7 rfl rfl
    | j + 3, hu => simp at hu
  clear hx
  go_enter Try.func51, Try.ntmps51
  go_wp2_with (at_builtin; refine wpList_append_own _ rfl _ _ 71 rfl w.heap.size 70 i0 (.agg #[.int .i64 0, .int .i64 0, .int .i64 0]) 3 24 Try.underlying71 hi hz0 hz1 hz2 rfl (by decide) _ _ _ rfl (World.ownsRow_made w #[] 0 (Nat.le_refl _) (Nat.zero_le _) (by simp)) q 1 1 [.int .i64 0, .int .i64 0, .int .i64 7] rfl ?c0 ?c1 ?c2 ?c3 ?c4 ?c5 ?_)
  case c0 => rfl
  case c1 => exact HC.out
  case c2 => intro u hu; simp at hu; rcases hu with rfl | rfl <;> rfl
  case c3 => unfold maxLen; omega
  case c4 => omega
  case c5 => simp
  intro v' w2 hown2 hgrow2 _
  have hb3 : Below w.heap.size w w2 := ((Below.refl _ w).alloc (Nat.le_refl _) _).grown hgrow2 (by simp) (fun j hj => by simp [Value.ownBlock] at hj; omega)
  have hown3 : w2.ownsRow w.heap.size 70 3 v' 1 [.int .i64 0, .int .i64 0, .int .i64 7] := by simpa using hown2
  rcases hown3.2 with ⟨_, h⟩ | ⟨g, cap, cur, rfl, hb, hg, hnc, hcm, hcs, htake⟩
  · omega
  go_wp2
  go_ret
  have hk : ∀ k, k < 3 → cur[k]? = ([.int .i64 0, .int .i64 0, .int .i64 7] : List Value)[k]? := fun k hk => by
    have := congrArg (fun l => l[k]?) htake
    simp only [List.getElem?_take] at this
    rw [if_pos (by omega)] at this
    rw [← this]; simp
  exact ⟨g, cap, cur, rfl, hg, hk 0 (by omega), hk 1 (by omega), hk 2 (by omega), hb, hb3⟩

set_option maxHeartbeats 1000000 in
theorem insertion_one (g cap : Nat) (f : Value) (w : World) : Calls Try.prog 79 #[.slice (some ⟨g, 0, none⟩) 1 cap, .int .i64 0, .int .i64 1, f] w fun e w' => e = .returned (.tuple #[]) ∧ w = w' := by
  go_enter Try.func79, Try.ntmps79
  go_wp2_with (fail)
  refine wp_loop_once ?_
  go_wp2_with (fail)
  refine bodyPost_end (v := .tuple #[]) (by simp [results, Try.results79, go_sem]) rfl ?_
  exact ⟨rfl, rfl⟩
set_option maxHeartbeats 1000000 in
theorem stable_one (g cap : Nat) (f : Value) (w : World) : Calls Try.prog 76 #[.slice (some ⟨g, 0, none⟩) 1 cap, .int .i64 1, f] w fun e w' => e = .returned (.tuple #[]) ∧ w = w' := by
  go_enter Try.func76, Try.ntmps76
  go_wp2_with (fail)
  refine wp_loop_once ?_
  go_wp2_with (fail)
  refine (insertion_one g cap f w).mono ?_
  rintro e w' ⟨rfl, rfl⟩
  go_wp2_with (fail)
  refine wp_loop_once ?_
  go_wp2_with (fail)
  refine bodyPost_end (v := .tuple #[]) (by simp [results, Try.results76, go_sem]) rfl ?_
  exact ⟨rfl, rfl⟩
set_option maxHeartbeats 1000000 in
theorem sort_one (g cap : Nat) (f : Value) (w : World) : Calls Try.prog 52 #[.slice (some ⟨g, 0, none⟩) 1 cap, f] w fun e w' => e = .returned (.tuple #[]) ∧ w = w' := by
  go_enter Try.func52, Try.ntmps52
  go_wp2_with (fail)
  refine (stable_one g cap f w).mono ?_
  rintro e w' ⟨rfl, rfl⟩
  go_wp2_with (fail)
  refine bodyPost_end (v := .tuple #[]) (by simp [results, Try.results52, go_sem]) rfl ?_
  exact ⟨rfl, rfl⟩
set_option maxHeartbeats 400000 in
theorem covered_ok (m : Int) (w : World) : Calls Try.prog 55 #[.int .i64 m, h7.v] w fun e w' => e = .returned (.bool (decide (0 ≤ m) && decide (m < 7))) ∧ Below w.heap.size w w' := by
  have h0 : Below w.heap.size w (w.alloc (.cells #[.int .i64 0, .int .i64 0, .int .i64 7] 70)) := alloc1 w _
  go_enter Try.func55, Try.ntmps55
  go_wp2
  all_goals go_ret
  all_goals exact ⟨ret_bool (by simp; try omega), h0⟩
theorem covered_yes (w : World) : Calls Try.prog 55 #[.int .i64 0, h7.v] w fun e w' => e = .returned (.bool true) ∧ Below w.heap.size w w' := covered_ok 0 w
theorem covered_no (w : World) : Calls Try.prog 55 #[.int .i64 7, h7.v] w fun e w' => e = .returned (.bool false) ∧ Below w.heap.size w w' := covered_ok 7 w
theorem Try.info115 : (Try.prog.info? 115).map (fun i => (i.zero, i.size, i.bytes)) = some (some (.agg #[.int .i64 0, .int .i64 0, .int .i64 0, .int .i64 0]), 4, 32) := by kernel_rfl
def OutTurns (w : World) (e : Ending) (w' : World) : Prop := ∃ a n c, e = .returned (.tuple #[.slice a n c, .int .i64 7]) ∧ Below w.heap.size w w'
set_option maxRecDepth 100000 in
set_option maxHeartbeats 4000000 in
theorem turns_ok (q : Addr) (w : World) (hx : Sl 3 Lp.cells w (some q) [h7]) : Calls Try.prog 41 #[.slice (some q) 1 1, .int .i64 0, .int .i64 9] w (OutTurns w) := by
  obtain ⟨i0, hi, hz0, hz1, hz2⟩ := info_parts Try.info115
  have HC := Lib.hid (cloneHold_ok q w hx)
  clear hx
  go_enter Try.func41, Try.ntmps41
  go_wp2_with (fail)
  go_step3
  go_wp2_with (fail)
  refine HC.out.mono ?_
  rintro e w1 ⟨g, cap, cur, rfl, hg, h0, h1, h2, hgl, hb⟩
  have HG := Lib.hid (And.intro hg (And.intro h0 (And.intro h1 (And.intro h2 hb))))
  clear hg h0 h1 h2 hgl hb HC
  go_wp2_with (fail)
  refine (sort_one g cap _ _).mono ?_
  rintro e w' ⟨rfl, rfl⟩
  go_wp2_with (fail)
  go_step3
  go_wp2_with (fail)
  go_loopw [9, 10] (fun v i wr => (i = .int .i64 0 ∧ v = .slice none 0 0 ∧ Hid (Below w1.heap.size w1 wr)) ∨ (i = .int .i64 7 ∧ (∃ a n c, v = .slice a n c) ∧ Hid (Below w1.heap.size w1 wr))) (fun _ i _ => (7 - intOf i).toNat)
  case atStart => exact .inl ⟨rfl, rfl, Below.refl _ _⟩
  case round =>
    rcases hrel with ⟨rfl, rfl, HB⟩ | ⟨rfl, ⟨va, vn, vc, rfl⟩, HB⟩
    · go_wp2_with (fail)
      go_loopw [9, 10, 26] (fun v t i wr => v = .slice none 0 0 ∧ t = .int .i64 0 ∧ i = .int .i64 0 ∧ Hid (Below w1.heap.size w1 wr)) (fun _ _ _ _ => 0)
      case atStart => exact ⟨rfl, rfl, rfl, HB⟩
      case round =>
        obtain ⟨rfl, rfl, rfl, HB2⟩ := hrel
        have n0 := blk_cell (blk_below HG.out.1 HB2.out) 0 HG.out.2.1
        have n1 := blk_cell (blk_below HG.out.1 HB2.out) 1 HG.out.2.2.1
        have n2 := blk_cell (blk_below HG.out.1 HB2.out) 2 HG.out.2.2.2.1
        clear HB
        obtain ⟨W2, hW2⟩ : ∃ W2, wr.alloc (.cells #[.int .i64 0, .int .i64 0, .int .i64 7] 70) = W2 := ⟨_, rfl⟩
        have HC2 := Lib.hid (covered_yes W2)
        have HW2 : Hid (Below w1.heap.size w1 W2 ∧ W2.heap[wr.heap.size]? = some (.cells #[.int .i64 0, .int .i64 0, .int .i64 7] 70 (0, 0))) := by
          rw [← hW2]; exact ⟨below_self HB2.out (alloc1 wr _), heap_alloc_new wr _⟩
        have k0 := blk_cell HW2.out.2 0 rfl
        have k1 := blk_cell HW2.out.2 1 rfl
        have k2 := blk_cell HW2.out.2 2 rfl
        go_wp2_with (fail)
        clear n0 n1 n2 hW2 k0 k1 k2
        refine HC2.out.mono ?_
        rintro e w3 ⟨rfl, hb3⟩
        have HW3 := Lib.hid (And.intro (below_self HW2.out.1 hb3) (blk_below HW2.out.2 hb3))
        have m0 := blk_cell HW3.out.2 0 rfl
        have m1 := blk_cell HW3.out.2 1 rfl
        have m2 := blk_cell HW3.out.2 2 rfl
        clear HC2 HW2 hb3 HB2
        go_wp2_with (at_builtin; refine wpList_append_own _ rfl _ _ 92 rfl w3.heap.size 115 i0 (.agg #[.int .i64 0, .int .i64 0, .int .i64 0, .int .i64 0]) 4 32 Try.underlying92 hi hz0 hz1 hz2 rfl (by decide) _ 0 [] rfl (World.ownsRow_nil _ _ _ _) ⟨w3.heap.size, 0, none⟩ 1 1 [.int .i64 0, .int .i64 0, .int .i64 7, .int .i64 0] rfl ?d0 ?d1 ?d2 ?d3 ?d4 ?d5 ?_)
        case d0 => rfl
        case d1 => exact cells_new w3 [.int .i64 0, .int .i64 0, .int .i64 7, .int .i64 0] 115
        case d2 => intro u hu; simp at hu; rcases hu with rfl | rfl | rfl <;> rfl
        case d3 => unfold maxLen; omega
        case d4 => omega
        case d5 => simp
        intro v' w4 hown4 hgrow4 _
        have hb4 : Below w3.heap.size w3 w4 := ((Below.refl _ w3).alloc (Nat.le_refl _) _).grown hgrow4 (by simp) (fun j hj => by simp [Value.ownBlock] at hj)
        have HW4 := Lib.hid (below_self HW3.out.1 hb4)
        rcases hown4.2 with ⟨_, h⟩ | ⟨g4, cap4, cur4, rfl, _⟩
        · omega
        have m2' : w4.cell? ⟨wr.heap.size, 2, none⟩ = some (.int .i64 7) := blk_cell (blk_below HW3.out.2 hb4) 2 rfl
        clear hown4 hgrow4 hb4 m0 m1 m2 HW3
        go_wp2_with (fail)
        go_roundw
        case rel => exact .inr ⟨rfl, ⟨_, _, _, rfl⟩, HW4⟩
        case measure => simp [intOf]
    · go_wp2_with (fail)
      go_loopw [9, 10, 26] (fun v t i wr => v = .slice va vn vc ∧ t = .int .i64 7 ∧ (i = .int .i64 0 ∨ i = .int .i64 1) ∧ Hid (Below w1.heap.size w1 wr)) (fun _ _ i _ => (1 - intOf i).toNat)
      case atStart => exact ⟨rfl, rfl, .inl rfl, HB⟩
      case round =>
        obtain ⟨rfl, rfl, hi', HB2⟩ := hrel
        clear HB
        rcases hi' with rfl | rfl
        · have n0 := blk_cell (blk_below HG.out.1 HB2.out) 0 HG.out.2.1
          have n1 := blk_cell (blk_below HG.out.1 HB2.out) 1 HG.out.2.2.1
          have n2 := blk_cell (blk_below HG.out.1 HB2.out) 2 HG.out.2.2.2.1
          obtain ⟨W2, hW2⟩ : ∃ W2, wr.alloc (.cells #[.int .i64 0, .int .i64 0, .int .i64 7] 70) = W2 := ⟨_, rfl⟩
          have HC2 := Lib.hid (covered_no W2)
          have HW2 : Hid (Below w1.heap.size w1 W2 ∧ W2.heap[wr.heap.size]? = some (.cells #[.int .i64 0, .int .i64 0, .int .i64 7] 70 (0, 0))) := by
            rw [← hW2]; exact ⟨below_self HB2.out (alloc1 wr _), heap_alloc_new wr _⟩
          have k0 := blk_cell HW2.out.2 0 rfl
          have k1 := blk_cell HW2.out.2 1 rfl
          have k2 := blk_cell HW2.out.2 2 rfl
          go_wp2_with (fail)
          clear n0 n1 n2 hW2 k0 k1 k2
          refine HC2.out.mono ?_
          rintro e w3 ⟨rfl, hb3⟩
          have HW3 := Lib.hid (below_self HW2.out.1 hb3)
          clear HC2 HW2 hb3 HB2
          go_wp2_with (fail)
          go_roundw
          case rel => exact ⟨rfl, rfl, .inr rfl, HW3⟩
          case measure => simp [intOf]
        · have HE := Lib.hid (below_self HG.out.2.2.2.2 HB2.out)
          go_wp2_with (fail)
          go_ret2
          exact ⟨va, vn, vc, rfl, HE.out⟩
set_option maxHeartbeats 1000000 in
theorem gap_ok (q : Addr) (w : World) (hx : Sl 3 Lp.cells w (some q) [h7]) : Calls Try.prog 27 #[.slice (some q) 1 1, .int .i64 0, .int .i64 9] w fun e w' => e = .returned (.tuple #[.int .i64 7, .int .i64 0]) ∧ Below w.heap.size w w' := by
  have HC := Lib.hid (checkSpan_ok (some q) w hx)
  have HX := Lib.hid hx
  clear hx
  go_enter Try.func27, Try.ntmps27
  go_wp2_with (fail)
  refine HC.out.mono ?_
  rintro e w1 ⟨rfl, hb⟩
  have HT := Lib.hid (And.intro (turns_ok q w1 (HX.out.below hb)) hb)
  clear hb HC
  go_wp2_with (fail)
  refine HT.out.1.mono ?_
  rintro e w2 ⟨a, n, c, rfl, hb2⟩
  have HB := Lib.hid (below_self HT.out.2 hb2)
  clear hb2 HT
  go_wp2_with (fail)
  go_ret2
  exact ⟨rfl, HB.out⟩
/-- The layers compute at all. -/
theorem awake_any (w : World) : Calls Try.prog 9 #[] w fun e w' => e = .returned (.bool true) ∧ Below w.heap.size w w' := by
  go_enter Try.func9, Try.ntmps9
  go_wp2_with (fail)
  refine (short_any 500 w).mono ?_
  rintro e w1 ⟨a, rfl, hs, hb⟩
  have HF := Lib.hid (And.intro (first_short_any a w1 hs) hb)
  clear hs hb
  go_wp2_with (fail)
  refine HF.out.1.mono ?_
  rintro e w2 ⟨rfl, hb2⟩
  obtain ⟨w3, hw3⟩ : ∃ w3, w2.alloc (.cells #[.int .i64 0, .int .i64 0, .int .i64 7] 70) = w3 := ⟨_, rfl⟩
  have hb3 : Below w2.heap.size w2 w3 := by rw [← hw3]; exact alloc1 w2 _
  have hc3 : w3.heap[w2.heap.size]? = some (.cells #[.int .i64 0, .int .i64 0, .int .i64 7] 70 (0, 0)) := by rw [← hw3]; exact heap_alloc_new w2 _
  have hx : Sl 3 Lp.cells w3 (some ⟨w2.heap.size, 0, none⟩) [h7] := Sl.of_block hc3 (fun j x i u hj hu => by
    rcases j with _ | j
    · simp at hj
      subst hj
      rcases i with _ | _ | _ | i <;> simp [Lp.cells] at hu <;> subst hu <;> rfl
    · simp at hj)
  have HG := Lib.hid (And.intro (gap_ok _ w3 hx) (below_self (below_self HF.out.2 hb2) hb3))
  clear hx hb3 hc3 hb2 HF
  go_wp2_with (fail)
  refine HG.out.1.mono ?_
  rintro e w4 ⟨rfl, hb4⟩
  have HB := Lib.hid (below_self HG.out.2 hb4)
  clear hb4 HG hw3
  go_wp2_with (fail)
  go_ret
  exact ⟨rfl, HB.out⟩
end Go.Proofs.Ytiggelffmfinoaa
