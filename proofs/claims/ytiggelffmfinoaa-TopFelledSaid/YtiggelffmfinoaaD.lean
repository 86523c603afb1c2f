/-
  Hits and misses of a click, over this seat's program: hasClick, hasState, reach, aim, hits, misses; power and ratio.
  What is proved: what each call returns, and that nothing that was there before it has turned.
  Conditions: valid ranges.
-/
import Derived.Test.YtiggelffmfinoaaC
namespace Go.Proofs.Ytiggelffmfinoaa
open Go.RowKit Go.Shelf
attribute [local go_sem] Oper.semAt_some

theorem wrap_small {x : Int} (h : -100000000 ≤ x ∧ x ≤ 100000000) : wrap64 x = x := by
  first
    | (unfold wrap64; omega)
    | exact WalkArith.wrap64_small (by omega)
    | (simp [wrap64]; omega)

set_option maxHeartbeats 400000 in
theorem hasClick_any (R : Rv) (c : Int) (w : World) (ok : 0 ≤ R.r.clicks ∧ R.r.clicks ≤ 6) : Calls Try.prog 15 #[R.v, .int .i64 c] w fun e w' => e = .returned (.bool (withinB c (-R.r.clicks) R.r.clicks)) ∧ Below w.heap.size w w' := by
  have q : IntKind.i64.wrap (-R.r.clicks) = -R.r.clicks := IntWalk.i64_in _ (by omega)
  have h0 : Below w.heap.size w (w.alloc (.cells R.arr 26)) := alloc1 w _
  go_enter Try.func15, Try.ntmps15
  go_wp2_with (go_at_call 30; refine (within_w _ _ _ _).mono ?_; rintro e w' ⟨rfl, rfl⟩)
  go_ret
  exact ⟨rfl, h0⟩

set_option maxHeartbeats 400000 in
theorem hasState_any (R : Rv) (c : Int) (w : World) (ok : 1 ≤ R.r.drifts.length ∧ R.r.drifts.length ≤ 5) : Calls Try.prog 14 #[R.v, .int .i64 c] w fun e w' => e = .returned (.bool (withinB c 0 (R.r.drifts.length - 1))) ∧ Below w.heap.size w w' := by
  have q : IntKind.i64.wrap ((R.r.drifts.length : Int) - 1) = R.r.drifts.length - 1 := IntWalk.i64_in _ (by omega)
  have h0 : Below w.heap.size w (w.alloc (.cells R.arr 26)) := alloc1 w _
  go_enter Try.func14, Try.ntmps14
  go_wp2_with (go_at_call 30; refine (within_w _ _ _ _).mono ?_; rintro e w' ⟨rfl, rfl⟩)
  go_ret
  exact ⟨rfl, h0⟩

set_option maxHeartbeats 400000 in
theorem reach_any (R : Rv) (w : World) (ok : R.r.group.length % 2 = 1 ∧ R.r.group.length ≤ 21) : Calls Try.prog 33 #[R.v] w fun e w' => e = .returned (.int .i64 (R.r.group.length / 2 : Nat)) ∧ Below w.heap.size w w' := by
  have h0 : Below w.heap.size w (w.alloc (.cells R.arr 26)) := alloc1 w _
  go_enter Try.func33, Try.ntmps33
  go_wp2
  go_ret
  exact ⟨ret_int (by first | omega | (rw [wrap_small (by omega)]; omega)), h0⟩

set_option maxHeartbeats 400000 in
theorem aim_any (R : Rv) (d c : Int) (w : World) (ok : RgOk R.r) (hd : -300 ≤ d ∧ d ≤ 300) (hc : -6 ≤ c ∧ c ≤ 6) : Calls Try.prog 31 #[R.v, .int .i64 d, .int .i64 c] w fun e w' => e = .returned (.agg #[.int .i64 R.r.radius, .int .i64 (d + c * R.r.unit)]) ∧ Below w.heap.size w w' := by
  have hu := ok.unit
  have b : -120 ≤ c * R.r.unit ∧ c * R.r.unit ≤ 120 := by
    obtain ⟨h1, h2⟩ := hu
    generalize R.r.unit = u at h1 h2
    have : c = -6 ∨ c = -5 ∨ c = -4 ∨ c = -3 ∨ c = -2 ∨ c = -1 ∨ c = 0 ∨ c = 1 ∨ c = 2 ∨ c = 3 ∨ c = 4 ∨ c = 5 ∨ c = 6 := by omega
    rcases this with rfl | rfl | rfl | rfl | rfl | rfl | rfl | rfl | rfl | rfl | rfl | rfl | rfl <;> omega
  have q1 : IntKind.i64.wrap (c * R.r.unit) = c * R.r.unit := IntWalk.i64_in _ (by omega)
  have q2 : IntKind.i64.wrap (d + c * R.r.unit) = d + c * R.r.unit := IntWalk.i64_in _ (by omega)
  have h0 : Below w.heap.size w ((w.alloc (.cells R.arr 26)).alloc (.cells #[.int .i64 0, .int .i64 0] 76)) := (alloc1 w _).alloc (by simp) _
  have hs : ∀ j v, Below w.heap.size w ((((w.alloc (.cells R.arr 26)).alloc (.cells #[.int .i64 0, .int .i64 0] 76)).setCell ⟨w.heap.size + 1, j, none⟩ v)) := fun j v => h0.setCell (by simp) v
  have h1 : Below w.heap.size w ((w.alloc (.cells R.arr 26)).alloc (.cells #[.int .i64 R.r.radius, .int .i64 (d + c * R.r.unit)] 76)) := (alloc1 w _).alloc (by simp) _
  clear b hu hs h0
  go_enter Try.func31, Try.ntmps31
  go_wp2
  exact bodyPost_ret (v := .agg #[.int .i64 R.r.radius, .int .i64 (d + c * R.r.unit)]) (by simp [results, Try.results31, go_sem]) rfl ⟨rfl, h1⟩

set_option maxHeartbeats 400000 in
theorem aimHits_any (rad bes off : Int) (w : World) (hr : 0 ≤ rad ∧ rad ≤ 200) (hb : -1000 ≤ bes ∧ bes ≤ 1000) (ho : -1000 ≤ off ∧ off ≤ 1000) : Calls Try.prog 32 #[.agg #[.int .i64 rad, .int .i64 bes], .int .i64 off] w fun e w' => e = .returned (.bool (withinB (bes + off) (-rad) rad)) ∧ Below w.heap.size w w' := by
  have q1 : IntKind.i64.wrap (bes + off) = bes + off := IntWalk.i64_in _ (by omega)
  have q2 : IntKind.i64.wrap (-rad) = -rad := IntWalk.i64_in _ (by omega)
  have h0 : Below w.heap.size w (w.alloc (.cells #[.int .i64 rad, .int .i64 bes] 76)) := alloc1 w _
  go_enter Try.func32, Try.ntmps32
  go_wp2_with (go_at_call 30; refine (within_w _ _ _ _).mono ?_; rintro e w' ⟨rfl, rfl⟩)
  go_ret
  exact ⟨rfl, h0⟩

/-- The weights of the first k offsets with which a shot hits, together. -/
def hitsTo (g : List Int) (rad bes : Int) : Nat → Int
  | 0 => 0
  | k + 1 => if withinB (bes + ((k : Int) - (g.length / 2 : Nat))) (-rad) rad then hitsTo g rad bes k + g[k]?.getD 0 else hitsTo g rad bes k
def hitsR (r : Rg) (d c : Int) : Int := hitsTo r.group r.radius (d + c * r.unit) r.group.length
theorem hitsTo_bd (g : List Int) (rad bes : Int) (h : ∀ x ∈ g, 0 ≤ x ∧ x ≤ 100) (k : Nat) (hk : k ≤ g.length) : 0 ≤ hitsTo g rad bes k ∧ hitsTo g rad bes k ≤ sumI (g.take k) := by
  induction k with
  | zero => simp [hitsTo, sumI]
  | succ k ih =>
    have hk' : k < g.length := by omega
    have := ih (by omega)
    have hx := h g[k] (List.getElem_mem hk')
    rw [sumI_take_succ g k hk', hitsTo]
    rw [List.getElem?_eq_getElem hk']
    split
    · show 0 ≤ hitsTo g rad bes k + g[k] ∧ hitsTo g rad bes k + g[k] ≤ _; omega
    · omega

set_option maxHeartbeats 2000000 in
theorem hits_any (R : Rv) (B : Nat) (d c : Int) (w : World) (hw : WkAt w R B) (ok : RgOk R.r) (hd : -300 ≤ d ∧ d ≤ 300) (hc : -6 ≤ c ∧ c ≤ 6) : Calls Try.prog 17 #[.pointer (some ⟨B, 0, none⟩), .int .i64 d, .int .i64 c] w fun e w' => e = .returned (.int .i64 (hitsR R.r d c)) ∧ Below w.heap.size w w' := by
  have hmf := hmf
  have hg1 := ok.glen.2
  have bbes : -420 ≤ d + c * R.r.unit ∧ d + c * R.r.unit ≤ 420 := by
    obtain ⟨h1, h2⟩ := ok.unit
    generalize R.r.unit = u at h1 h2
    have : c = -6 ∨ c = -5 ∨ c = -4 ∨ c = -3 ∨ c = -2 ∨ c = -1 ∨ c = 0 ∨ c = 1 ∨ c = 2 ∨ c = 3 ∨ c = 4 ∨ c = 5 ∨ c = 6 := by omega
    rcases this with rfl | rfl | rfl | rfl | rfl | rfl | rfl | rfl | rfl | rfl | rfl | rfl | rfl <;> omega
  obtain ⟨bes, hbes⟩ : ∃ bes, d + c * R.r.unit = bes := ⟨_, rfl⟩
  have A := Lib.hid (aim_any R d c w ok hd hc)
  rw [hbes] at bbes A
  have HW := Lib.hid hw
  have HO := Lib.hid ok
  have HR : Hid (hitsR R.r d c = hitsTo R.r.group R.r.radius bes R.r.group.length) := by show _ = _; unfold hitsR; rw [hbes]
  have c0 := blk_cell hw.b 0 rfl
  have c1 := blk_cell hw.b 1 rfl
  have c2 := blk_cell hw.b 2 rfl
  have c3 := blk_cell hw.b 3 rfl
  have c4 := blk_cell hw.b 4 rfl
  have c5 := blk_cell hw.b 5 rfl
  have c6 := blk_cell hw.b 6 rfl
  have c7 := blk_cell hw.b 7 rfl
  clear hw ok hbes
  go_enter Try.func17, Try.ntmps17
  go_wp2_with (fail)
  refine A.out.mono ?_
  rintro e w1 ⟨rfl, hb1⟩
  have H1 := Lib.hid hb1
  clear c0 c1 c2 c3 c4 c5 c6 c7
  have c0 := blk_cell (HW.out.below hb1).b 0 rfl
  have c1 := blk_cell (HW.out.below hb1).b 1 rfl
  have c2 := blk_cell (HW.out.below hb1).b 2 rfl
  have c3 := blk_cell (HW.out.below hb1).b 3 rfl
  have c4 := blk_cell (HW.out.below hb1).b 4 rfl
  have c5 := blk_cell (HW.out.below hb1).b 5 rfl
  have c6 := blk_cell (HW.out.below hb1).b 6 rfl
  have c7 := blk_cell (HW.out.below hb1).b 7 rfl
  clear hb1
  go_wp2_with (fail)
  clear c0 c1 c2 c3 c4 c5 c6 c7
  go_loopw [7, 25] (fun t i wr => ∃ k : Nat, k ≤ R.r.group.length ∧ i = .int .i64 k ∧ t = .int .i64 (hitsTo R.r.group R.r.radius bes k) ∧ Hid (Below w.heap.size w wr)) (fun _ i _ => R.r.group.length - (intOf i).toNat)
  case atStart => exact ⟨0, Nat.zero_le _, rfl, rfl, H1.out⟩
  case round =>
    obtain ⟨k, hk, rfl, rfl, hb⟩ := hrel
    by_cases hlt : k < R.r.group.length
    · obtain ⟨b, off, hag, hbs, hcc⟩ := HW.out.at'.g (by omega)
      have hck := (hb.out.cell (p := ⟨b, off + k, none⟩) hbs).trans ((hcc k hlt).trans (by rw [List.getElem?_eq_getElem hlt]; rfl : _ = some (.int .i64 R.r.group[k])))
      clear hcc
      have hx := HO.out.group R.r.group[k] (List.getElem_mem hlt)
      have hbd := hitsTo_bd R.r.group R.r.radius bes HO.out.group k hk
      have hbd2 := sumI_bd R.r.group 100 (by omega) HO.out.group k
      have hmx : (k : Int) * 100 ≤ 2100 := by omega
      have hbd3 : 0 ≤ hitsTo R.r.group R.r.radius bes k ∧ hitsTo R.r.group R.r.radius bes k ≤ 2100 := by omega
      clear hbd hbd2 hmx
      have HT : Hid (hitsTo R.r.group R.r.radius bes (k + 1) = if withinB (bes + ((k : Int) - (R.r.group.length / 2 : Nat))) (-R.r.radius) R.r.radius then hitsTo R.r.group R.r.radius bes k + R.r.group[k] else hitsTo R.r.group R.r.radius bes k) := by show _ = _; rw [hitsTo, List.getElem?_eq_getElem hlt]; rfl
      generalize hhk : hitsTo R.r.group R.r.radius bes k = hk0 at hbd3 HT ⊢
      clear hhk
      generalize R.r.group[k] = x at hck hx HT
      have q2 : IntKind.i64.wrap (hk0 + x) = hk0 + x := IntWalk.i64_in _ (by omega)
      have q1 : IntKind.i64.wrap ((k : Int) - (R.r.group.length / 2 : Nat)) = (k : Int) - (R.r.group.length / 2 : Nat) := IntWalk.i64_in _ (by omega)
      have HRe := Lib.hid (reach_any R wr HO.out.glen)
      have HAi := Lib.hid fun W => aimHits_any R.r.radius bes ((k : Int) - (R.r.group.length / 2 : Nat)) W HO.out.rad (by omega) (by omega)
      generalize ((R.r.group.length / 2 : Nat) : Int) = h2 at q1 HRe HAi HT
      have c0 := blk_cell (HW.out.below hb.out).b 0 rfl
      have c1 := blk_cell (HW.out.below hb.out).b 1 rfl
      have c2 := blk_cell (HW.out.below hb.out).b 2 rfl
      have c3 := blk_cell (HW.out.below hb.out).b 3 rfl
      have c4 := blk_cell (HW.out.below hb.out).b 4 rfl
      have c5 := blk_cell (HW.out.below hb.out).b 5 rfl
      have c6 := blk_cell (HW.out.below hb.out).b 6 rfl
      have c7 := blk_cell (HW.out.below hb.out).b 7 rfl
      rw [hag]
      clear hag
      go_wp2_with (fail)
      refine HRe.out.mono ?_
      rintro e w2 ⟨rfl, hb2⟩
      have H2 : Hid (Below w.heap.size w w2) := below_self hb.out hb2
      clear c0 c1 c2 c3 c4 c5 c6 c7 hck hb hb2 HRe
      go_wp2_with (fail)
      refine (HAi.out w2).mono ?_
      rintro e w3 ⟨rfl, hb3⟩
      have H3 : Hid (Below w.heap.size w w3) := below_self H2.out hb3
      clear hb3 H2 HAi
      cases hh : withinB (bes + ((k : Int) - h2)) (-R.r.radius) R.r.radius
      · have HN : Hid (hitsTo R.r.group R.r.radius bes (k + 1) = hk0) := by show _ = _; rw [HT.out, hh]; rfl
        clear HT hh
        go_wp2
        go_roundw
        case rel => exact ⟨k + 1, by omega, by go_num, by rw [HN.out], H3⟩
        case measure => simp [intOf]; omega
      · have HN : Hid (hitsTo R.r.group R.r.radius bes (k + 1) = hk0 + x) := by show _ = _; rw [HT.out, hh]; rfl
        clear HT hh
        go_wp2
        go_roundw
        case rel => exact ⟨k + 1, by omega, by go_num, by rw [HN.out], H3⟩
        case measure => simp [intOf]; omega
    · have : k = R.r.group.length := by omega
      subst this
      go_wp2
      go_ret
      exact ⟨ret_int HR.out.symm, hb.out⟩

theorem hitsR_bd {r : Rg} (ok : RgOk r) (d c : Int) : 0 ≤ hitsR r d c ∧ hitsR r d c ≤ sumI r.group := by
  have := hitsTo_bd r.group r.radius (d + c * r.unit) ok.group r.group.length (Nat.le_refl _)
  rw [List.take_length] at this
  exact this

set_option maxHeartbeats 1000000 in
theorem ratio_any (n d : Nat) (w : World) (hd : 0 < d) (hn : n ≤ 1000000000000000000) (hdd : d ≤ 1000000000000000000) : Calls Try.prog 16 #[.int .i64 n, .int .i64 d] w fun e w' => e = .returned (.agg #[.int .i64 (n / Nat.gcd d n : Nat), .int .i64 (d / Nat.gcd d n : Nat)]) ∧ Below w.heap.size w w' := by
  obtain ⟨W0, hW0⟩ : ∃ W0, w.alloc (.cells #[.int .i64 0, .int .i64 0] 32) = W0 := ⟨_, rfl⟩
  have H0 : Hid (Below w.heap.size w W0 ∧ W0.heap[w.heap.size]? = some (.cells #[.int .i64 0, .int .i64 0] 32 (0, 0))) := ⟨by rw [← hW0]; exact alloc1 w _, by rw [← hW0]; exact heap_alloc_new w _⟩
  go_enter Try.func16, Try.ntmps16
  go_wp2_with (fail)
  clear hW0
  go_loopw [5, 6] (fun p q wr => ∃ X Y : Int, p = .int .i64 X ∧ q = .int .i64 Y ∧ Hid (∃ x y : Nat, X = x ∧ Y = y ∧ Nat.gcd x y = Nat.gcd d n ∧ 0 < x) ∧ (0 ≤ Y ∧ 0 < X) ∧ Hid (Below w.heap.size w wr ∧ wr.heap[w.heap.size]? = some (.cells #[.int .i64 0, .int .i64 0] 32 (0, 0)))) (fun _ q _ => (intOf q).toNat)
  case atStart => exact ⟨d, n, rfl, rfl, ⟨d, n, rfl, rfl, rfl, hd⟩, by omega, H0⟩
  case round =>
    obtain ⟨X, Y, rfl, rfl, hg, ⟨hY, hX⟩, hM⟩ := hrel
    by_cases hy0 : 0 < Y
    · have gy : decide ((0 : Int) < Y) = true := decide_eq_true hy0
      have hne : ¬ (Y = 0) := by omega
      obtain ⟨Z, hZ⟩ : ∃ Z, X.tmod Y = Z := ⟨_, rfl⟩
      have HG : Hid ((∃ x y : Nat, Y = x ∧ Z = y ∧ Nat.gcd x y = Nat.gcd d n ∧ 0 < x) ∧ 0 ≤ Z ∧ Z < Y) := by
        obtain ⟨x, y, rfl, rfl, h1, h2⟩ := hg.out
        have hz : Z = ((x % y : Nat) : Int) := by rw [← hZ]; rfl
        have hm : x % y < y := Nat.mod_lt _ (by omega)
        exact ⟨⟨y, x % y, rfl, hz, by rw [← h1, Nat.gcd_comm x y, Nat.gcd_rec y x, Nat.gcd_comm], by omega⟩, by omega, by omega⟩
      clear hg
      go_wp2_with (fail)
      go_region_held3 (fun w' => True) (trivial) (fail)
      all_goals (
        go_wp2
        go_roundw
        case rel => exact ⟨Y, Z, rfl, rfl, HG.out.1, by have := HG.out.2; omega, ⟨hM.out.1.drew, hM.out.2⟩⟩
        case measure => have := HG.out.2; first | (simp [intOf]; done) | (simp [intOf]; omega))
    · have gy : decide ((0 : Int) < Y) = false := decide_eq_false hy0
      have hx0 : ¬ (X = 0) := by omega
      obtain ⟨n1, hn1⟩ : ∃ n1 : Nat, n / Nat.gcd d n = n1 := ⟨_, rfl⟩
      obtain ⟨d1, hd1⟩ : ∃ d1 : Nat, d / Nat.gcd d n = d1 := ⟨_, rfl⟩
      have hXg : X = (Nat.gcd d n : Nat) := by
        obtain ⟨x, y, rfl, rfl, h1, h2⟩ := hg.out
        have : y = 0 := by omega
        rw [← h1, this, Nat.gcd_zero_right]
      have HN1 : (n : Int).tdiv X = n1 := by rw [hXg, ← hn1]; rfl
      have HN2 : (d : Int).tdiv X = d1 := by rw [hXg, ← hd1]; rfl
      have hq1 : n1 ≤ n := by rw [← hn1]; exact Nat.div_le_self _ _
      have hq2 : d1 ≤ d := by rw [← hd1]; exact Nat.div_le_self _ _
      have HN1' : (n : Int) / X = n1 := by rw [← HN1, Int.tdiv_eq_ediv_of_nonneg (by omega)]
      have HN2' : (d : Int) / X = d1 := by rw [← HN2, Int.tdiv_eq_ediv_of_nonneg (by omega)]
      have w1 : IntKind.i64.wrap (n1 : Int) = n1 := IntWalk.i64_in _ (by omega)
      have w2 : IntKind.i64.wrap (d1 : Int) = d1 := IntWalk.i64_in _ (by omega)
      have HE : Hid (n / Nat.gcd d n = n1 ∧ d / Nat.gcd d n = d1) := ⟨hn1, hd1⟩
      have k0 := blk_free (j := 0) hM.out.2
      have k1 := blk_free (j := 1) hM.out.2
      have m0 := blk_cell hM.out.2 0 rfl
      have m1 := blk_cell hM.out.2 1 rfl
      clear hg hXg hn1 hd1 hq1 hq2
      go_wp2_with (fail)
      go_region_held3 (fun w' => True) (trivial) (fail)
      all_goals (
        obtain ⟨W9, hW9⟩ : ∃ W9, ((wr.setCell ⟨w.heap.size, 0, none⟩ (.int .i64 n1)).setCell ⟨w.heap.size, 1, none⟩ (.int .i64 d1)).drew = W9 := ⟨_, rfl⟩
        have hz : W9.heap[w.heap.size]? = some (.cells #[.int .i64 n1, .int .i64 d1] 32 (0, 0)) := by
          rw [← hW9]; exact blk_setCell (j := 1) (u := .int .i64 d1) (blk_setCell (j := 0) (u := .int .i64 n1) hM.out.2)
        have h9 : Below w.heap.size w W9 := by rw [← hW9]; exact ((hM.out.1.setCell (Nat.le_refl _) _).setCell (Nat.le_refl _) _).drew
        rw [hW9]
        clear k0 k1 m0 m1 hW9
        have q0 := blk_cell hz 0 rfl
        have q1 := blk_cell hz 1 rfl
        go_wp2_with (fail)
        exact bodyPost_ret (v := .agg #[.int .i64 n1, .int .i64 d1]) (by simp [results, Try.results16, go_sem, q0, q1]) rfl ⟨by rw [HE.out.1, HE.out.2], h9⟩)
end Go.Proofs.Ytiggelffmfinoaa
