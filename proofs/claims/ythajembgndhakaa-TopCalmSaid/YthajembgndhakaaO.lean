/-
  The waits with the fewest misses, over this seat's program: best and Best of package rifle.
  What is proved: what each call returns, and that nothing that was there before it has turned.
  Conditions: valid aims, totals that are not below 0.
-/
import Derived.Test.YthajembgndhakaaN
import Derived.Deep.CutRange
namespace Go.Proofs.Ythajembgndhakaa
open Go.RowKit Go.Shelf
attribute [local go_sem] Oper.semAt_some

/-- How many rounds there are. -/
def roundsN (a : List (List Int)) (t : Int) : Nat := (min t (tgTo a a.length)).toNat

set_option maxHeartbeats 4000000 in
theorem best_r (aa : Option Addr) (a : List (List Int)) (ca : Nat) (t : Int) (w : World) (ha : SlsAt w aa a) (ok : AimOk a) (ht : 0 ≤ t ∧ t ≤ 1000000) :
    Calls Try.prog 27 #[.slice aa a.length ca, .int .i64 t] w fun e w' => ∃ g, e = .returned (.slice (some ⟨g, 0, none⟩) a.length a.length) ∧ w'.heap[g]? = some (.cells ((iterW a (roundsN a t)).map (Value.int .i64)).toArray 3 (0, 0)) ∧ w.heap.size ≤ g ∧ Below w.heap.size w w' := by
  have hl8 := ok.len
  have hmk := mkInts a.length (by omega) w
  have HA := Lib.hid ha
  have HO := Lib.hid ok
  obtain ⟨W0, hW0⟩ : ∃ W0, w.alloc (.cells ((List.replicate a.length (0 : Int)).map (Value.int .i64)).toArray 3) = W0 := ⟨_, rfl⟩
  have h0 : Hid (Below w.heap.size w W0 ∧ W0.heap[w.heap.size]? = some (.cells ((iterW a 0).map (Value.int .i64)).toArray 3 (0, 0))) := ⟨by rw [← hW0]; exact alloc1 w _, by rw [← hW0]; exact heap_alloc_new w _⟩
  rw [hW0] at hmk
  have htg := tgTo_bd ok a.length (Nat.le_refl _)
  have HT := Lib.hid (together_r aa a ca W0 (ha.below h0.out.1) ok)
  have HR : Hid (((roundsN a t : Nat) : Int) = min t (tgTo a a.length)) := by show _ = _; unfold roundsN; omega
  generalize roundsN a t = rn at HR ⊢
  generalize hG : tgTo a a.length = tg at HT HR htg
  clear ha ok hW0 hG
  go_enter Try.func27, Try.ntmps27
  go_upto_region 2 with (fail)
  go_cut [14, 15] from 11 to 15 (fun v i wx => v = .int .i64 rn ∧ i = .int .i64 0 ∧ W0 = wx)
  case first =>
    have h3 : t < tg ∨ t = tg ∨ tg < t := by omega
    rcases h3 with h3 | h3 | h3
    · have hr : (rn : Int) = t := by rw [HR.out]; omega
      have h4 : ¬ (tg < t) := by omega
      go_wp2_with (go_at_call 41; refine HT.out.mono ?_; rintro e w' ⟨rfl, rfl⟩)
      all_goals (go_meet; exact ⟨by rw [hr], rfl, rfl⟩)
    · subst h3
      have hr : (rn : Int) = t := by rw [HR.out]; omega
      go_wp2_with (go_at_call 41; refine HT.out.mono ?_; rintro e w' ⟨rfl, rfl⟩)
      all_goals (go_meet; exact ⟨by rw [hr], rfl, rfl⟩)
    · have hr : (rn : Int) = tg := by rw [HR.out]; omega
      have h4 : ¬ (t < tg) := by omega
      go_wp2_with (go_at_call 41; refine HT.out.mono ?_; rintro e w' ⟨rfl, rfl⟩)
      all_goals (go_meet; exact ⟨by rw [hr], rfl, rfl⟩)
  case rest =>
    obtain ⟨rfl, rfl, rfl⟩ := hcut
    have hrn : rn ≤ 1000000 := by have := HR.out; omega
    clear HT HR htg hmk
    go_wp2_with (fail)
    go_loopw [15] (fun i wr => ∃ k : Nat, k ≤ rn ∧ i = .int .i64 k ∧ Hid (Below w.heap.size w wr ∧ wr.heap[w.heap.size]? = some (.cells ((iterW a k).map (Value.int .i64)).toArray 3 (0, 0)))) (fun i _ => rn - (intOf i).toNat)
    case atStart => exact ⟨0, Nat.zero_le _, rfl, h0⟩
    case round =>
      obtain ⟨k, hk, rfl, hC⟩ := hrel
      by_cases hlt : k < rn
      · have hwo := iterW_ok HO.out k
        have hIs : IntSl wr (some ⟨w.heap.size, 0, none⟩) (iterW a k) := ints_of_block hC.out.2 rfl
        have H1 := Lib.hid (helps_r aa a ca (some ⟨w.heap.size, 0, none⟩) (iterW a k) a.length wr (HA.out.below hC.out.1) hIs HO.out hwo)
        rw [hwo.len] at H1
        have hwl := hwo.len
        have HS : Hid (iterW a (k + 1) = stepW a (iterW a k)) := rfl
        generalize hws : iterW a k = ws at H1 hC hwl HS
        have HWS := Lib.hid hws
        clear hIs hws hwo
        go_wp2_with (fail)
        refine H1.out.mono ?_
        rintro e w1 ⟨g, rfl, hg, hgl, hb1⟩
        have H2 := Lib.hid (And.intro (below_self hC.out.1 hb1) (And.intro (blk_below hC.out.2 hb1) hg))
        have hal := hsTo_len a ws a.length
        generalize hall : hsTo a ws a.length = all at H2 hal hg
        have HALL := Lib.hid hall
        have HI1 : Hid (IntSl w1 (some ⟨g, 0, none⟩) all) := ints_of_block hg rfl
        have HGr := Lib.hid (greatest_r (some ⟨g, 0, none⟩) all a.length w1 HI1.out (by omega))
        rw [hal] at HGr
        clear hg hb1 hgl hall H1
        go_wp2_with (fail)
        refine HGr.out.mono ?_
        rintro e w2 ⟨rfl, rfl⟩
        obtain ⟨m, hm⟩ : ∃ m, greatTo all a.length = m := ⟨_, rfl⟩
        rw [hm]
        have hmm : greatTo all all.length = m := by rw [hal, hm]
        by_cases hm0 : m = 0
        · have HE : Hid (iterW a rn = ws) := by
            show _ = _
            have hst : stepW a (iterW a k) = iterW a k := by
              rw [HWS.out]; unfold stepW; simp only; rw [HALL.out, hmm, if_pos hm0]
            have := iterW_stop a k hst (rn - k)
            rw [show k + (rn - k) = rn by omega] at this
            rw [this, HWS.out]
          clear hm hmm
          subst hm0
          go_wp2_with (fail)
          go_ret
          exact ⟨w.heap.size, rfl, by rw [HE.out]; exact H2.out.2.1, Nat.le_refl _, H2.out.1⟩
        · obtain ⟨f1, f2, f3⟩ := find_great all (by rw [hmm]; exact hm0)
          rw [hmm] at f1 f2 f3
          obtain ⟨j, hj⟩ : ∃ j, all.findIdx (fun x => x == m) = j := ⟨_, rfl⟩
          rw [hj] at f1 f2 f3
          have HX := Lib.hid (index_r (some ⟨g, 0, none⟩) all a.length j m w1 HI1.out (by omega) f1 f2 f3)
          rw [hal] at HX f1
          have hbw := msTo_bd HO.out (iterW_ok HO.out k) 0 (by omega)
          have hwk := (iterW_ok HO.out k).at' j f1
          have hlj := HO.out.lens a[j] (List.getElem_mem f1)
          rw [List.getElem?_eq_getElem f1] at hwk
          rw [HWS.out] at hwk
          have hwj2 : (ws[j]?.getD 0).toNat < a[j].length := hwk.2
          have HN : Hid (iterW a (k + 1) = ws.set j (ws[j]?.getD 0 + 1)) := by
            show _ = _
            rw [HS.out]; unfold stepW; simp only; rw [HALL.out, hmm, if_neg hm0, hj]
          have m0 := blk_cell H2.out.2.1 j (v := .int .i64 (ws[j]?.getD 0)) (by simp [hwl, f1])
          have k0 := blk_free (j := j) H2.out.2.1
          have hv0 := hwk.1
          have HY : Hid (∀ v, Below w.heap.size w (w1.setCell ⟨w.heap.size, j, none⟩ (.int .i64 v)) ∧ (w1.setCell ⟨w.heap.size, j, none⟩ (.int .i64 v)).heap[w.heap.size]? = some (.cells ((ws.set j v).map (Value.int .i64)).toArray 3 (0, 0))) := fun v => ⟨H2.out.1.setCell (Nat.le_refl _) _, by rw [blk_setCell H2.out.2.1, List.map_set]; simp⟩
          generalize ws[j]?.getD 0 = x at m0 HN hv0 hwj2
          have q : IntKind.i64.wrap (x + 1) = x + 1 := IntWalk.i64_in _ (by omega)
          have gj : (j : Int) < a.length := by omega
          clear hm hmm f2 f3 hbw hwk hlj hwj2 hj hv0
          go_wp2_with (fail)
          refine HX.out.mono ?_
          rintro e w3 ⟨rfl, rfl⟩
          go_wp2_with (fail)
          clear m0 k0
          go_roundw
          case rel => exact ⟨k + 1, by omega, by go_num, by rw [HN.out]; exact HY.out _⟩
          case measure => first | (simp [intOf]; done) | (simp [intOf]; omega)
      · have : k = rn := by omega
        subst this
        go_wp2_with (fail)
        go_ret
        exact ⟨w.heap.size, rfl, hC.out.2, Nat.le_refl _, hC.out.1⟩

set_option maxHeartbeats 4000000 in
theorem rBest_ok (aa : Option Addr) (a : List (List Int)) (ca : Nat) (t : Int) (w : World) (ha : SlsAt w aa a) (ok : AimOk a) (ht : 0 ≤ t ∧ t ≤ 1000000) :
    Calls Try.prog 13 #[.slice aa a.length ca, .int .i64 t] w fun e w' => ∃ g, e = .returned (.tuple #[.slice (some ⟨g, 0, none⟩) a.length a.length, .int .i64 (msTo a (iterW a (roundsN a t)) a.length), .int .i64 0]) ∧ w.heap.size ≤ g ∧ Below w.heap.size w w' := by
  have C := Lib.hid (checkTotal_ok aa a ca t w ha ok ht.1)
  have D := Lib.hid fun W (hW : Below w.heap.size w W) => best_r aa a ca t W (ha.below hW) ok ht
  have hwo := iterW_ok ok (roundsN a t)
  have HM := Lib.hid fun W g (hW : Below w.heap.size w W) (hg : W.heap[g]? = some (.cells ((iterW a (roundsN a t)).map (Value.int .i64)).toArray 3 (0, 0))) => misses_r aa a ca (some ⟨g, 0, none⟩) (iterW a (roundsN a t)) a.length W (ha.below hW) (ints_of_block hg rfl) ok hwo
  rw [hwo.len] at HM
  generalize iterW a (roundsN a t) = ws at D HM ⊢
  clear ha ok hwo
  go_enter Try.func13, Try.ntmps13
  go_wp2_with (fail)
  refine C.out.mono ?_
  rintro e w1 ⟨rfl, hb1⟩
  have H1 := Lib.hid hb1
  clear hb1
  go_wp2_with (fail)
  refine (D.out _ H1.out).mono ?_
  rintro e w2 ⟨g, rfl, hg, hgl, hb2⟩
  have H2 := Lib.hid (And.intro (below_self H1.out hb2) (And.intro hg (Nat.le_trans H1.out.size hgl)))
  clear hg hgl hb2
  go_wp2_with (fail)
  refine (HM.out _ g H2.out.1 H2.out.2.1).mono ?_
  rintro e w3 ⟨rfl, rfl⟩
  go_wp2
  go_ret3
  exact ⟨g, rfl, H2.out.2.2, H2.out.1⟩
end Go.Proofs.Ythajembgndhakaa
