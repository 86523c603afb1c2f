/-
The contract of CourseNamed over this seat's program.
  What is proved: it answers true; nothing that was there before has turned.
  Conditions: lists of bytes that read as such.
-/
import Derived.Test.YtpkegiekpnaejaaPartN7
namespace Go.Proofs.Ytpkegiekpnaejaa
open Go.RowKit Go.Shelf
attribute [local go_sem] Oper.semAt_some

/-- What lies while the law makes its loops: the stadium, and its rules in block T. -/
structure KI (w : World) (T : Nat) (r : Ru) (sa : Option Addr) (xs : List Lp) (W : World) : Prop where
  b : Below w.heap.size w W
  t : RuAt W T r
  sl : Sl 3 Lp.cells W sa xs
  hT : w.heap.size ≤ T
theorem KI.below {w W W' : World} {T : Nat} {r : Ru} {sa : Option Addr} {xs : List Lp} (h : KI w T r sa xs W) (hb : Below W.heap.size W W') : KI w T r sa xs W' := ⟨below_self h.b hb, h.t.below hb, h.sl.below hb, h.hT⟩
/-- The loops of the first numbers of an order. -/
theorem mix_take (xs : List Lp) (o : List Int) (j : Nat) (hj : j < o.length) : mixL xs (o.take (j + 1)) = mixL xs (o.take j) ++ [(xs[(o[j]).toNat]?).getD ⟨0, 0, 0⟩] := by
  unfold mixL
  rw [List.take_add_one, List.getElem?_eq_getElem hj, List.map_append]; rfl
/-- The rules with the spans of the first q doubled. -/
def dbl (r : Ru) (q : Nat) : Ru := ⟨r.laps, if 0 < q then twoS r.len else r.len, if 1 < q then twoS r.climb else r.climb, if 2 < q then twoS r.lap else r.lap, r.wide, r.uses⟩
theorem dbl_three (r : Ru) : dbl r 3 = twoR r := rfl
/-- What the loop over the spans keeps. -/
structure TW (W8 : World) (T : Nat) (W : World) (r : Ru) : Prop where
  t : RuAt W T r
  ap : Apart (fun j => j = T) W8 W
theorem TW.drew {W8 W : World} {T : Nat} {r : Ru} (h : TW W8 T W r) : TW W8 T W.drew r := ⟨h.t, h.ap.drew'⟩
theorem TW.put {W8 W : World} {T : Nat} {r : Ru} (h : TW W8 T W r) (r' : Ru) (i j : Nat) (u v : Value)
    (hd : (#[Value.int .i64 r.laps, .int .i64 r.len.lo, .int .i64 r.len.hi, .int .i64 r.climb.lo, .int .i64 r.climb.hi, .int .i64 r.lap.lo, .int .i64 r.lap.hi, .int .i64 r.wide, .int .i64 r.uses].setIfInBounds i u).setIfInBounds j v = #[.int .i64 r'.laps, .int .i64 r'.len.lo, .int .i64 r'.len.hi, .int .i64 r'.climb.lo, .int .i64 r'.climb.hi, .int .i64 r'.lap.lo, .int .i64 r'.lap.hi, .int .i64 r'.wide, .int .i64 r'.uses]) :
    TW W8 T ((W.setCell ⟨T, i, none⟩ u).setCell ⟨T, j, none⟩ v) r' := by
  refine ⟨?_, h.ap.trans ((Apart.setCell (own := fun j => j = T) W (p := ⟨T, i, none⟩) rfl _).trans (Apart.setCell (own := fun j => j = T) _ (p := ⟨T, j, none⟩) rfl _))⟩
  have := blk_setCell (j := j) (u := v) (blk_setCell (j := i) (u := u) h.t)
  rw [hd] at this
  exact this
theorem yFoldN (xs : List Lp) (r : Ru) : ∀ (cs : List (List Int)) (st : Option (List Int × List Int)), (∀ b f, st = some (b, f) → b.length ≤ 5) → ∀ b f, cs.foldl (yStep xs r) st = some (b, f) → b.length ≤ 5
  | [], st, h, b, f, e => h b f e
  | c :: cs, st, h, b, f, e => by
    refine yFoldN xs r cs (yStep xs r st c) (fun b' f' e' => ?_) b f e
    unfold yStep at e'
    cases st with
    | none => cases e'; exact rulesL_le _
    | some s =>
      obtain ⟨b0, f0⟩ := s
      simp only at e'
      split at e'
      · cases e'; exact rulesL_le _
      · cases e'; exact h _ _ rfl
theorem yield_short (xs : List Lp) (r : Ru) : (yieldR xs r).1.length ≤ 5 := by
  rw [yieldR]
  split
  · have hh := yFoldN xs r (extC xs.length r.laps.toNat [] 0) none (fun b f e => by cases e)
    unfold yOf
    generalize (extC xs.length r.laps.toNat [] 0).foldl (yStep xs r) none = st at *
    cases st with
    | none => exact Nat.zero_le _
    | some s => exact hh _ _ rfl
  · exact Nat.zero_le _

set_option maxRecDepth 100000 in
set_option maxHeartbeats 20000000 in
theorem named_law (a : Option Addr) (n cap : Nat) (a2 : Option Addr) (n2 cap2 : Nat) (z : Int) (w : World) (hb : BytesAt w a n) (hn : n ≤ 140737488355328) (hb2 : BytesAt w a2 n2) (hn2 : n2 ≤ 140737488355328) (hz : 0 ≤ z ∧ z < 256) :
    Calls Try.prog 14 #[.slice a n cap, .slice a2 n2 cap2, .int .u8 z] w fun e w' => e = .returned (.bool true) ∧ Below w.heap.size w w' := by
  obtain ⟨i0, hi, hz0, hz1, hz2⟩ := info_parts Try.info31
  have HB := Lib.hid (And.intro hb hb2)
  clear hb hb2
  go_enter Try.func14, Try.ntmps14
  go_wp2_with (fail)
  refine (of_any a n cap w HB.out.1 hn).mono ?_
  rintro e W1 ⟨rfl, hD, hb⟩
  have H1 := Lib.hid (And.intro hb hD)
  clear hb hD
  go_wp2_with (fail)
  refine (stadMade_any w.heap.size (w.heap.size + 1) a n cap 0 W1 H1.out.2 (by omega)).mono ?_
  rintro e W2 ⟨sa, xs, sc, r, rfl, hsl, hxl, hxs, hr, hD, hA, hfar⟩
  have H2 : Hid (Below w.heap.size w W2 ∧ Sl 3 Lp.cells W2 sa xs) := ⟨below_apart H1.out.1 hA (fun j hj => by omega), hsl⟩
  have HX := Lib.hid (And.intro hxl (And.intro hxs hr))
  obtain ⟨hx1, hx6⟩ := hxl
  clear hsl hxs hr hD hA hfar H1
  go_upto_region 4 with (fail)
  obtain ⟨T, hT⟩ : ∃ T, W2.heap.size = T := ⟨_, rfl⟩
  have H3 : Hid (KI w T r sa xs (W2.alloc (.cells #[.int .i64 r.laps, .int .i64 r.len.lo, .int .i64 r.len.hi, .int .i64 r.climb.lo, .int .i64 r.climb.hi, .int .i64 r.lap.lo, .int .i64 r.lap.hi, .int .i64 r.wide, .int .i64 r.uses] 26)) ∧ T < (W2.alloc (.cells #[.int .i64 r.laps, .int .i64 r.len.lo, .int .i64 r.len.hi, .int .i64 r.climb.lo, .int .i64 r.climb.hi, .int .i64 r.lap.lo, .int .i64 r.lap.hi, .int .i64 r.wide, .int .i64 r.uses] 26)).heap.size ∧ (∀ p, sa = some p → p.block < (W2.alloc (.cells #[.int .i64 r.laps, .int .i64 r.len.lo, .int .i64 r.len.hi, .int .i64 r.climb.lo, .int .i64 r.climb.hi, .int .i64 r.lap.lo, .int .i64 r.lap.hi, .int .i64 r.wide, .int .i64 r.uses] 26)).heap.size) ∧ BytesAt (W2.alloc (.cells #[.int .i64 r.laps, .int .i64 r.len.lo, .int .i64 r.len.hi, .int .i64 r.climb.lo, .int .i64 r.climb.hi, .int .i64 r.lap.lo, .int .i64 r.lap.hi, .int .i64 r.wide, .int .i64 r.uses] 26)) a2 n2) := by
    have hb3 := alloc1 W2 (.cells #[.int .i64 r.laps, .int .i64 r.len.lo, .int .i64 r.len.hi, .int .i64 r.climb.lo, .int .i64 r.climb.hi, .int .i64 r.lap.lo, .int .i64 r.lap.hi, .int .i64 r.wide, .int .i64 r.uses] 26)
    have hsl := H2.out.2.below hb3
    have hbb := below_self H2.out.1 hb3
    exact ⟨⟨hbb, by rw [← hT]; exact heap_alloc_new _ _, hsl, by rw [← hT]; exact H2.out.1.size⟩, by rw [← hT]; simp, sl_lt hsl (by omega), HB.out.2.keep hbb.size (fun _ p _ hl => hbb.block _ hl)⟩
  rw [hT]
  clear H2 hT HB
  generalize W2.alloc (.cells #[.int .i64 r.laps, .int .i64 r.len.lo, .int .i64 r.len.hi, .int .i64 r.climb.lo, .int .i64 r.climb.hi, .int .i64 r.lap.lo, .int .i64 r.lap.hi, .int .i64 r.wide, .int .i64 r.uses] 26) = W3 at H3 ⊢
  have hdp : 1 ≤ 1 + z % 200 ∧ 1 + z % 200 ≤ 200 := by omega
  generalize 1 + z % 200 = D at hdp ⊢
  go_wp2_with (fail)
  refine (of_any a2 n2 cap2 W3 H3.out.2.2.2 hn2).mono ?_
  rintro e W4 ⟨rfl, hD, hb⟩
  have H4 : Hid (KI w T r sa xs W4 ∧ Deck W4 W3.heap.size (W3.heap.size + 1) a2 n2 cap2 0) := ⟨H3.out.1.below hb, hD⟩
  clear hD hb
  go_wp2_with (fail)
  refine (shuffle_any W3.heap.size (W3.heap.size + 1) a2 n2 cap2 0 xs.length W4 H4.out.2 (by omega) ⟨hx1, hx6⟩).mono ?_
  rintro e W5 ⟨g, oc, o, rfl, hop, hS⟩
  have HO := Lib.hid hop
  have H5 : Hid (KI w T r sa xs W5 ∧ RowI W5 g o ∧ g < W5.heap.size) := by
    have hk := H4.out.1
    have h3 := H3.out
    have hap := hS.ap
    exact ⟨⟨below_apart hk.b hap (fun j hj => by have := h3.1.b.size; omega), (hap.block _ (lt_of_block hk.t) (by omega)).trans hk.t, sl_apart hk.sl hap.size (fun p hp => hap.block _ (sl_lt hk.sl (by omega) p hp) (by have := h3.2.2.1 p hp; omega)), hk.hT⟩, hS.row, by obtain ⟨cur, h1, _⟩ := hS.row; exact lt_of_block h1⟩
  clear hop hS H3 H4
  go_wp2_with (fail)
  generalize W3.heap.size = B3
  go_loopw [10, 50] (fun v i wr => ∃ (la : Option Addr) (lc : Nat) (ys : List Lp), v = .slice la ys.length lc ∧ i = .int .i64 ys.length ∧ ys.length ≤ xs.length ∧ Hid (wr.ownsRow W5.heap.size 31 3 (.slice la ys.length lc) ys.length ((ys.flatMap Lp.cells).map (Value.int .i64)) ∧ ys = mixL xs (o.take ys.length) ∧ Below W5.heap.size W5 wr)) (fun _ i _ => xs.length - (intOf i).toNat)
  case atStart => exact ⟨none, 0, [], rfl, rfl, Nat.zero_le _, World.ownsRow_nil _ _ _ _, rfl, Below.refl _ _⟩
  case round =>
    obtain ⟨la, lc, ys, rfl, rfl, hj, hI⟩ := hrel
    obtain ⟨V, hV⟩ : ∃ V, V = wr := ⟨_, rfl⟩
    subst hV
    by_cases hlt : ys.length < xs.length
    · have hol : Hid (o.length = xs.length) := by show o.length = xs.length; rw [HO.out.length_eq, firstI_len]
      obtain ⟨k, hk, ek⟩ := (mix_ord HO.out).get hlt
      have x0 := (hI.out.2.2.cell (p := ⟨g, ys.length, none⟩) H5.out.2.2).trans (H5.out.2.1.cell (j := ys.length) (by have := hol.out; omega))
      have HE : Hid (mixL xs (o.take (ys.length + 1)) = mixL xs (o.take ys.length) ++ [xs[k]]) := by
        show _ = _
        rw [mix_take xs o _ (by have := hol.out; omega)]
        rw [List.getElem?_eq_getElem (by have := hol.out; omega)] at ek
        rw [Option.some.inj ek, Int.toNat_natCast, List.getElem?_eq_getElem hk]; rfl
      rw [List.getElem?_eq_getElem (by have := hol.out; omega)] at ek
      rw [Option.some.inj ek] at x0
      clear ek
      obtain ⟨b, off, rfl, hbs, hcc⟩ := H5.out.1.sl (by omega)
      have d0 := (hI.out.2.2.cell (p := ⟨b, off + k * 3, none⟩) hbs).trans (hcc k xs[k] 0 _ (List.getElem?_eq_getElem hk) rfl)
      have d1 := (hI.out.2.2.cell (p := ⟨b, off + k * 3 + 1, none⟩) hbs).trans (hcc k xs[k] 1 _ (List.getElem?_eq_getElem hk) rfl)
      have d2 := (hI.out.2.2.cell (p := ⟨b, off + k * 3 + 2, none⟩) hbs).trans (hcc k xs[k] 2 _ (List.getElem?_eq_getElem hk) rfl)
      clear hcc hbs
      generalize xs[k] = x at *
      have hsz := Lib.hid hI.out.2.2.size
      go_wp2_with (at_builtin; refine wpList_append_own_at _ rfl _ _ 22 rfl W5.heap.size 31 i0 (.agg #[.int .i64 0, .int .i64 0, .int .i64 0]) 3 24 Try.underlying22 hi hz0 hz1 hz2 rfl (by decide) (.slice la ys.length lc) ys.length ((ys.flatMap Lp.cells).map (Value.int .i64)) rfl (hI.out.1.alloc _) ⟨V.heap.size, 0, none⟩ 1 1 ((Lp.cells x).map (Value.int .i64)) rfl rfl (cells_newP _ _ _) (by intro u hu; simp [Lp.cells] at hu; rcases hu with rfl | rfl | rfl <;> rfl) (by unfold maxLen; omega) (by omega) (by have := hsz.out; rw [World.size_alloc]; omega) ?_)
      intro v8 w8 hrow hgrow _ _
      obtain ⟨g8, cap8, rfl⟩ := ownsRow_succ hrow
      have HM : Hid (w8.ownsRow W5.heap.size 31 3 (.slice (some ⟨g8, 0, none⟩) (ys ++ [x]).length cap8) (ys ++ [x]).length (((ys ++ [x]).flatMap Lp.cells).map (Value.int .i64)) ∧ (ys ++ [x]) = mixL xs (o.take (ys ++ [x]).length) ∧ Below W5.heap.size W5 w8) := by
        refine ⟨?_, ?_, (hI.out.2.2.alloc hsz.out _).grown hgrow (by have := hsz.out; rw [World.size_alloc]; omega) (fun j hj => (hI.out.1.lt j hj).1)⟩
        · rw [List.length_append, List.flatMap_append, List.map_append]
          simpa using hrow
        · rw [List.length_append]
          show ys ++ [x] = mixL xs (o.take (ys.length + 1))
          rw [HE.out, ← hI.out.2.1]
      clear hrow hgrow x0 d0 d1 d2
      go_wp2_with (fail)
      go_roundw
      case rel => exact ⟨some ⟨g8, 0, none⟩, cap8, ys ++ [x], by simp, by simp, by simp; omega, HM.out⟩
      case measure => simp [intOf]; omega
    · have hjn : Hid (ys.length = xs.length) := by show ys.length = xs.length; omega
      obtain ⟨ya, yc, hye, hYs, hYf⟩ := lps_of_owns hI.out.1
      rw [hye]
      have HY : Hid (ys = mixL xs o) := by
        show _ = _
        rw [hI.out.2.1, List.take_of_length_le (by rw [HO.out.length_eq, firstI_len, hjn.out]; exact Nat.le_refl _)]
      have H6 : Hid (KI w T r sa xs V ∧ Sl 3 Lp.cells V ya ys) := ⟨H5.out.1.below hI.out.2.2, hYs⟩
      clear hye hYs hYf hI H5
      go_wp2_with (fail)
      obtain ⟨W6, hV6⟩ : ∃ W6, W6 = V := ⟨_, rfl⟩
      subst hV6
      go_loopw [11, 64] (fun v i wr => ∃ (la : Option Addr) (lc : Nat) (zs : List Lp), v = .slice la zs.length lc ∧ i = .int .i64 zs.length ∧ zs.length ≤ xs.length ∧ Hid (wr.ownsRow W6.heap.size 31 3 (.slice la zs.length lc) zs.length ((zs.flatMap Lp.cells).map (Value.int .i64)) ∧ zs = (xs.take zs.length).map twoL ∧ Below W6.heap.size W6 wr)) (fun _ i _ => xs.length - (intOf i).toNat)
      case atStart => exact ⟨none, 0, [], rfl, rfl, Nat.zero_le _, World.ownsRow_nil _ _ _ _, rfl, Below.refl _ _⟩
      case round =>
        obtain ⟨la, lc, zs, rfl, rfl, hj, hI⟩ := hrel
        obtain ⟨V, hV⟩ : ∃ V, V = wr := ⟨_, rfl⟩
        subst hV
        by_cases hlt : zs.length < xs.length
        · have HE : Hid ((xs.take (zs.length + 1)).map twoL = (xs.take zs.length).map twoL ++ [twoL xs[zs.length]]) := by
            show _ = _
            rw [List.take_add_one, List.getElem?_eq_getElem hlt, List.map_append]; rfl
          obtain ⟨b, off, rfl, hbs, hcc⟩ := H6.out.1.sl (by omega)
          have d0 := (hI.out.2.2.cell (p := ⟨b, off + zs.length * 3, none⟩) hbs).trans (hcc zs.length xs[zs.length] 0 _ (List.getElem?_eq_getElem hlt) rfl)
          have d1 := (hI.out.2.2.cell (p := ⟨b, off + zs.length * 3 + 1, none⟩) hbs).trans (hcc zs.length xs[zs.length] 1 _ (List.getElem?_eq_getElem hlt) rfl)
          have d2 := (hI.out.2.2.cell (p := ⟨b, off + zs.length * 3 + 2, none⟩) hbs).trans (hcc zs.length xs[zs.length] 2 _ (List.getElem?_eq_getElem hlt) rfl)
          have hsm := HX.out.2.1 xs[zs.length] (List.getElem_mem hlt)
          clear hcc hbs
          generalize xs[zs.length] = x at *
          obtain ⟨⟨m1, m2⟩, ⟨m3, m4⟩, m5, m6⟩ := hsm
          go_upto_region 12 with (fail)
          have HVX : Hid (Below V.heap.size V (V.alloc (.cells #[.int .i64 x.l, .int .i64 x.c, .int .i64 x.d] 31)) ∧ (V.alloc (.cells #[.int .i64 x.l, .int .i64 x.c, .int .i64 x.d] 31)).heap[V.heap.size]? = some (.cells #[.int .i64 x.l, .int .i64 x.c, .int .i64 x.d] 31 (0, 0))) := ⟨alloc1 V _, heap_alloc_new V _⟩
          generalize V.alloc (.cells #[.int .i64 x.l, .int .i64 x.c, .int .i64 x.d] 31) = VX at HVX ⊢
          have e0 := blk_cell HVX.out.2 0 rfl
          have e1 := blk_cell HVX.out.2 1 rfl
          have e2 := blk_cell HVX.out.2 2 rfl
          have hI2 : Hid (VX.ownsRow W6.heap.size 31 3 (.slice la zs.length lc) zs.length ((zs.flatMap Lp.cells).map (Value.int .i64)) ∧ zs = (xs.take zs.length).map twoL ∧ Below W6.heap.size W6 VX) := ⟨owns_below hI.out.1 HVX.out.1, hI.out.2.1, below_self hI.out.2.2 HVX.out.1⟩
          have hsz := Lib.hid hI2.out.2.2.size
          clear hI d0 d1 d2
          go_wp2_with (at_builtin; refine wpList_append_own_at _ rfl _ _ 22 rfl W6.heap.size 31 i0 (.agg #[.int .i64 0, .int .i64 0, .int .i64 0]) 3 24 Try.underlying22 hi hz0 hz1 hz2 rfl (by decide) (.slice la zs.length lc) zs.length ((zs.flatMap Lp.cells).map (Value.int .i64)) rfl (hI2.out.1.alloc _) ⟨VX.heap.size, 0, none⟩ 1 1 ((Lp.cells (twoL x)).map (Value.int .i64)) rfl rfl (cells_newP _ _ _) (by intro u hu; simp [Lp.cells] at hu; rcases hu with rfl | rfl | rfl <;> rfl) (by unfold maxLen; omega) (by omega) (by have := hsz.out; rw [World.size_alloc]; omega) ?_)
          intro v8 w8 hrow hgrow _ _
          obtain ⟨g8, cap8, rfl⟩ := ownsRow_succ hrow
          have HM : Hid (w8.ownsRow W6.heap.size 31 3 (.slice (some ⟨g8, 0, none⟩) (zs ++ [twoL x]).length cap8) (zs ++ [twoL x]).length (((zs ++ [twoL x]).flatMap Lp.cells).map (Value.int .i64)) ∧ (zs ++ [twoL x]) = (xs.take (zs ++ [twoL x]).length).map twoL ∧ Below W6.heap.size W6 w8) := by
            refine ⟨?_, ?_, (hI2.out.2.2.alloc hsz.out _).grown hgrow (by have := hsz.out; rw [World.size_alloc]; omega) (fun j hj => (hI2.out.1.lt j hj).1)⟩
            · rw [List.length_append, List.flatMap_append, List.map_append]
              simpa using hrow
            · rw [List.length_append]
              show zs ++ [twoL x] = (xs.take (zs.length + 1)).map twoL
              rw [HE.out, ← hI2.out.2.1]
          clear hrow hgrow e0 e1 e2
          go_wp2_with (fail)
          go_roundw
          case rel => exact ⟨some ⟨g8, 0, none⟩, cap8, zs ++ [twoL x], by simp, by simp, by simp; omega, HM.out⟩
          case measure => simp [intOf]; omega
        · have hjn2 : Hid (zs.length = xs.length) := by show zs.length = xs.length; omega
          obtain ⟨za, zc, hze, hZs, hZf⟩ := lps_of_owns hI.out.1
          rw [hze]
          have HZ : Hid (zs = xs.map twoL) := by
            show _ = _
            rw [hI.out.2.1, List.take_of_length_le (by rw [hjn2.out]; exact Nat.le_refl _)]
          have H7 : Hid (KI w T r sa xs V ∧ Sl 3 Lp.cells V ya ys ∧ Sl 3 Lp.cells V za zs) := ⟨H6.out.1.below hI.out.2.2, H6.out.2.below hI.out.2.2, hZs⟩
          clear hze hZs hZf hI H6
          have c0 := blk_cell H7.out.1.t 0 rfl
          have c1 := blk_cell H7.out.1.t 1 rfl
          have c2 := blk_cell H7.out.1.t 2 rfl
          have c3 := blk_cell H7.out.1.t 3 rfl
          have c4 := blk_cell H7.out.1.t 4 rfl
          have c5 := blk_cell H7.out.1.t 5 rfl
          have c6 := blk_cell H7.out.1.t 6 rfl
          have c7 := blk_cell H7.out.1.t 7 rfl
          have c8 := blk_cell H7.out.1.t 8 rfl
          go_upto_region 15 with (fail)
          obtain ⟨T2, hT2⟩ : ∃ T2, V.heap.size = T2 := ⟨_, rfl⟩
          have hT2' : Hid (T2 = V.heap.size) := hT2.symm
          have H8 : Hid (Below V.heap.size V (V.alloc (.cells #[.int .i64 r.laps, .int .i64 r.len.lo, .int .i64 r.len.hi, .int .i64 r.climb.lo, .int .i64 r.climb.hi, .int .i64 r.lap.lo, .int .i64 r.lap.hi, .int .i64 r.wide, .int .i64 r.uses] 26)) ∧ RuAt (V.alloc (.cells #[.int .i64 r.laps, .int .i64 r.len.lo, .int .i64 r.len.hi, .int .i64 r.climb.lo, .int .i64 r.climb.hi, .int .i64 r.lap.lo, .int .i64 r.lap.hi, .int .i64 r.wide, .int .i64 r.uses] 26)) T2 (dbl r 0)) := ⟨alloc1 V _, by rw [← hT2]; exact heap_alloc_new V _⟩
          rw [hT2]
          clear hT2 c0 c1 c2 c3 c4 c5 c6 c7 c8
          generalize V.alloc (.cells #[.int .i64 r.laps, .int .i64 r.len.lo, .int .i64 r.len.hi, .int .i64 r.climb.lo, .int .i64 r.climb.hi, .int .i64 r.lap.lo, .int .i64 r.lap.hi, .int .i64 r.wide, .int .i64 r.uses] 26) = W8 at H8 ⊢
          go_upto_region 16 with (fail)
          obtain ⟨P, hP⟩ : ∃ P, W8.heap.size = P := ⟨_, rfl⟩
          have H9 : Hid (Below V.heap.size V (W8.alloc (.cells #[.pointer (some ⟨T2, 1, none⟩), .pointer (some ⟨T2, 3, none⟩), .pointer (some ⟨T2, 5, none⟩)] 113)) ∧ TW (W8.alloc (.cells #[.pointer (some ⟨T2, 1, none⟩), .pointer (some ⟨T2, 3, none⟩), .pointer (some ⟨T2, 5, none⟩)] 113)) T2 (W8.alloc (.cells #[.pointer (some ⟨T2, 1, none⟩), .pointer (some ⟨T2, 3, none⟩), .pointer (some ⟨T2, 5, none⟩)] 113)) (dbl r 0) ∧ (W8.alloc (.cells #[.pointer (some ⟨T2, 1, none⟩), .pointer (some ⟨T2, 3, none⟩), .pointer (some ⟨T2, 5, none⟩)] 113)).heap[P]? = some (.cells #[.pointer (some ⟨T2, 1, none⟩), .pointer (some ⟨T2, 3, none⟩), .pointer (some ⟨T2, 5, none⟩)] 113 (0, 0)) ∧ P ≠ T2) := by
            have hb8 := alloc1 W8 (.cells #[.pointer (some ⟨T2, 1, none⟩), .pointer (some ⟨T2, 3, none⟩), .pointer (some ⟨T2, 5, none⟩)] 113)
            have hlt := lt_of_block H8.out.2
            exact ⟨below_self H8.out.1 hb8, ⟨H8.out.2.below hb8, Apart.refl _ _⟩, by rw [← hP]; exact heap_alloc_new W8 _, by omega⟩
          rw [hP]
          clear hP H8
          generalize W8.alloc (.cells #[.pointer (some ⟨T2, 1, none⟩), .pointer (some ⟨T2, 3, none⟩), .pointer (some ⟨T2, 5, none⟩)] 113) = W9 at H9 ⊢
          go_loopw [87] (fun i W => ∃ (q : Nat), q ≤ 3 ∧ i = .int .i64 q ∧ Hid (TW W9 T2 W (dbl r q))) (fun i _ => 3 - (intOf i).toNat)
          case atStart => exact ⟨0, by omega, rfl, H9.out.2.1⟩
          case round =>
            obtain ⟨q, hq, rfl, hX⟩ := hrel
            obtain ⟨U, hU⟩ : ∃ U, U = wr := ⟨_, rfl⟩
            subst hU
            have HPB : Hid (U.heap[P]? = some (.cells #[.pointer (some ⟨T2, 1, none⟩), .pointer (some ⟨T2, 3, none⟩), .pointer (some ⟨T2, 5, none⟩)] 113 (0, 0))) := (hX.out.ap.block _ (lt_of_block H9.out.2.2.1) H9.out.2.2.2).trans H9.out.2.2.1
            by_cases hlq : q < 3
            · rcases (show q = 0 ∨ q = 1 ∨ q = 2 by omega) with hq0 | hq1 | hq2
              · subst hq0
                have e0 := blk_cell HPB.out 0 rfl
                clear HPB
                go_upto_region 18 with (fail)
                clear e0
                refine wp_region_split (S := fun _ => True) [15, 16, 17] 15 (by kernel_rfl) (by kernel_rfl) rfl ?_
                have S2 := Lib.hid hX.out.drew
                clear hX
                generalize U.drew = U2 at S2 ⊢
                rw [show firstL _ [15, 16, 17] = #[false, false, false, false, false, false, false, false, false, false, false, false, false, false, false, true, true, true] from by kernel_rfl]
                have c1 : U2.cell? ⟨T2, 1, none⟩ = some (.int .i64 r.len.lo) := blk_cell S2.out.t 1 rfl
                have c2 : U2.cell? ⟨T2, 2, none⟩ = some (.int .i64 r.len.hi) := blk_cell S2.out.t 2 rfl
                have f1 : U2.frozen? ⟨T2, 1, none⟩ = false := blk_free S2.out.t
                have c3 : (U2.setCell ⟨T2, 1, none⟩ (.int .i64 (2 * r.len.lo))).cell? ⟨T2, 2, none⟩ = some (.int .i64 r.len.hi) := blk_cell (blk_setCell S2.out.t) 2 rfl
                have f3 : (U2.setCell ⟨T2, 1, none⟩ (.int .i64 (2 * r.len.lo))).frozen? ⟨T2, 2, none⟩ = false := blk_free (blk_setCell S2.out.t)
                have S4 := Lib.hid (S2.out.put (dbl r 1) 1 2 (.int .i64 (2 * r.len.lo)) (.int .i64 (2 * r.len.hi)) rfl)
                have hsr := HX.out.2.2
                have h2lo : IntKind.i64.wrap (2 * r.len.lo) = 2 * r.len.lo := IntWalk.i64_in _ (by unfold SmallRu at hsr; omega)
                have h2hi : IntKind.i64.wrap (2 * r.len.hi) = 2 * r.len.hi := IntWalk.i64_in _ (by unfold SmallRu at hsr; omega)
                clear hsr
                refine wpAnyH_take (i := 0) (v := .pointer (some ⟨T2, 1, none⟩)) rfl (by kernel_rfl) (by kernel_rfl) (by kernel_rfl) (fun _ _ _ h => h) (Or.inl ⟨by rfl, by (intro W hSw; clear hSw; go_simp)⟩) trivial ?_
                simp only [Act.put, List.getElem_toArray, List.getElem_cons_zero, List.setIfInBounds_toArray, List.set_cons_zero, List.set_cons_succ]
                refine wpAnyH_take (i := 1) (v := .pointer (some ⟨T2, 1, none⟩)) rfl (by kernel_rfl) (by kernel_rfl) (by kernel_rfl) (fun _ _ _ h => h) (Or.inl ⟨by rfl, by (intro W hSw; clear hSw; go_simp)⟩) trivial ?_
                simp only [Act.put, List.getElem_toArray, List.getElem_cons_succ, List.getElem_cons_zero, List.setIfInBounds_toArray, List.set_cons_zero, List.set_cons_succ]
                refine wpAnyH_take (i := 2) (v := .pointer (some ⟨T2, 1, none⟩)) rfl (by kernel_rfl) (by kernel_rfl) (by kernel_rfl) (fun _ _ _ h => h) (Or.inl ⟨by rfl, by (intro W hSw; clear hSw; go_simp)⟩) trivial ?_
                simp only [Act.put, List.getElem_toArray, List.getElem_cons_succ, List.getElem_cons_zero, List.setIfInBounds_toArray, List.set_cons_zero, List.set_cons_succ]
                refine wpAnyH_take (i := 3) (v := .pointer (some ⟨T2, 1, none⟩)) rfl (by kernel_rfl) (by kernel_rfl) (by kernel_rfl) (fun _ _ _ h => h) (Or.inl ⟨by rfl, by (intro W hSw; clear hSw; go_simp)⟩) trivial ?_
                simp only [Act.put, List.getElem_toArray, List.getElem_cons_succ, List.getElem_cons_zero, List.setIfInBounds_toArray, List.set_cons_zero, List.set_cons_succ]
                refine wpAnyH_take (i := 4) (v := .pointer (some ⟨T2, 1, none⟩)) rfl (by kernel_rfl) (by kernel_rfl) (by kernel_rfl) (fun _ _ _ h => h) (Or.inl ⟨by rfl, by (intro W hSw; clear hSw; go_simp)⟩) trivial ?_
                simp only [Act.put, List.getElem_toArray, List.getElem_cons_succ, List.getElem_cons_zero, List.setIfInBounds_toArray, List.set_cons_zero, List.set_cons_succ]
                refine wpAnyH_take (i := 7) (v := .pointer (some ⟨T2, 1, none⟩)) rfl (by kernel_rfl) (by kernel_rfl) (by kernel_rfl) (fun _ _ _ h => h) (Or.inl ⟨by rfl, by (intro W hSw; clear hSw; go_simp)⟩) trivial ?_
                simp only [Act.put, List.getElem_toArray, List.getElem_cons_succ, List.getElem_cons_zero, List.setIfInBounds_toArray, List.set_cons_zero, List.set_cons_succ]
                refine wpAnyH_take (i := 8) (v := .pointer (some ⟨T2, 1, none⟩)) rfl (by kernel_rfl) (by kernel_rfl) (by kernel_rfl) (fun _ _ _ h => h) (Or.inl ⟨by rfl, by (intro W hSw; clear hSw; go_simp)⟩) trivial ?_
                simp only [Act.put, List.getElem_toArray, List.getElem_cons_succ, List.getElem_cons_zero, List.setIfInBounds_toArray, List.set_cons_zero, List.set_cons_succ]
                refine wpAnyH_take (i := 9) (v := .pointer (some ⟨T2, 2, none⟩)) rfl (by kernel_rfl) (by kernel_rfl) (by kernel_rfl) (fun _ _ _ h => h) (Or.inl ⟨by rfl, by (intro W hSw; clear hSw; go_simp)⟩) trivial ?_
                simp only [Act.put, List.getElem_toArray, List.getElem_cons_succ, List.getElem_cons_zero, List.setIfInBounds_toArray, List.set_cons_zero, List.set_cons_succ]
                refine wpAnyH_ready (rs := [5, 10]) (by kernel_rfl) (by simp) ?_
                refine AllReadyH.cons (o := _) rfl (fun K hK => ?_) ?_
                · skip
                  go_simp
                  refine hK.out _ _ trivial (fun _ => ?_)
                  clear hK
                  simp only [List.setIfInBounds_toArray, List.set_cons_zero, List.set_cons_succ]
                  refine wpAnyH_take (i := 6) (v := .int .i64 (2 * r.len.lo)) rfl (by kernel_rfl) (by kernel_rfl) (by kernel_rfl) (fun _ _ _ h => h) (Or.inl ⟨by rfl, by (intro W hSw; clear hSw; go_simp)⟩) trivial ?_
                  simp only [Act.put, List.getElem_toArray, List.getElem_cons_succ, List.getElem_cons_zero, List.setIfInBounds_toArray, List.set_cons_zero, List.set_cons_succ]
                  refine wpAnyH_ready (rs := [10]) (by kernel_rfl) (by simp) ?_
                  refine AllReadyH.cons (o := _) rfl (fun K hK => ?_) AllReadyH.nil
                  go_simp
                  refine hK.out _ _ trivial (fun _ => ?_)
                  clear hK
                  simp only [List.setIfInBounds_toArray, List.set_cons_zero, List.set_cons_succ]
                  refine wpAnyH_take (i := 11) (v := .int .i64 (2 * r.len.hi)) rfl (by kernel_rfl) (by kernel_rfl) (by kernel_rfl) (fun _ _ _ h => h) (Or.inl ⟨by rfl, by (intro W hSw; clear hSw; go_simp)⟩) trivial ?_
                  simp only [Act.put, List.getElem_toArray, List.getElem_cons_succ, List.getElem_cons_zero, List.setIfInBounds_toArray, List.set_cons_zero, List.set_cons_succ]
                  refine wpAnyH_take (i := 12) (v := .pointer (some ⟨T2, 1, none⟩)) rfl (by kernel_rfl) (by kernel_rfl) (by kernel_rfl) (fun _ _ _ h => h) (Or.inl ⟨by rfl, by (intro W hSw; clear hSw; go_simp)⟩) trivial ?_
                  simp only [Act.put, List.getElem_toArray, List.getElem_cons_succ, List.getElem_cons_zero, List.setIfInBounds_toArray, List.set_cons_zero, List.set_cons_succ]
                  refine wpAnyH_take (i := 13) (v := .pointer (some ⟨T2, 1, none⟩)) rfl (by kernel_rfl) (by kernel_rfl) (by kernel_rfl) (fun _ _ _ h => h) (Or.inl ⟨by rfl, by (intro W hSw; clear hSw; go_simp)⟩) trivial ?_
                  simp only [Act.put, List.getElem_toArray, List.getElem_cons_succ, List.getElem_cons_zero, List.setIfInBounds_toArray, List.set_cons_zero, List.set_cons_succ]
                  refine wpAnyH_ready (rs := [14]) (by kernel_rfl) (by simp) ?_
                  refine AllReadyH.cons (o := _) rfl (fun K hK => ?_) AllReadyH.nil
                  go_simp
                  refine hK.out _ _ trivial (fun _ => ?_)
                  clear hK
                  simp only [List.setIfInBounds_toArray, List.set_cons_zero, List.set_cons_succ]
                  refine wpAnyH_done (by kernel_rfl) ?_ _
                  show wpList _ _ _ (opsAt _ [15, 16, 17]) _ _
                  simp only [opsAt, List.filterMap_cons, List.filterMap_nil, List.getElem?_toArray, List.getElem?_cons_succ, List.getElem?_cons_zero]
                  go_wp2_with (fail)
                  go_roundw
                  case rel => exact ⟨0 + 1, by omega, by go_num, S4.out⟩
                  case measure => simp [intOf]
                refine AllReadyH.cons (o := _) rfl (fun K hK => ?_) AllReadyH.nil
                go_simp
                refine hK.out _ _ trivial (fun _ => ?_)
                clear hK
                simp only [List.setIfInBounds_toArray, List.set_cons_zero, List.set_cons_succ]
                refine wpAnyH_take (i := 11) (v := .int .i64 (2 * r.len.hi)) rfl (by kernel_rfl) (by kernel_rfl) (by kernel_rfl) (fun _ _ _ h => h) (Or.inl ⟨by rfl, by (intro W hSw; clear hSw; go_simp)⟩) trivial ?_
                simp only [Act.put, List.getElem_toArray, List.getElem_cons_succ, List.getElem_cons_zero, List.setIfInBounds_toArray, List.set_cons_zero, List.set_cons_succ]
                refine wpAnyH_ready (rs := [5]) (by kernel_rfl) (by simp) ?_
                refine AllReadyH.cons (o := _) rfl (fun K hK => ?_) AllReadyH.nil
                go_simp
                refine hK.out _ _ trivial (fun _ => ?_)
                clear hK
                simp only [List.setIfInBounds_toArray, List.set_cons_zero, List.set_cons_succ]
                refine wpAnyH_take (i := 6) (v := .int .i64 (2 * r.len.lo)) rfl (by kernel_rfl) (by kernel_rfl) (by kernel_rfl) (fun _ _ _ h => h) (Or.inl ⟨by rfl, by (intro W hSw; clear hSw; go_simp)⟩) trivial ?_
                simp only [Act.put, List.getElem_toArray, List.getElem_cons_succ, List.getElem_cons_zero, List.setIfInBounds_toArray, List.set_cons_zero, List.set_cons_succ]
                refine wpAnyH_take (i := 12) (v := .pointer (some ⟨T2, 1, none⟩)) rfl (by kernel_rfl) (by kernel_rfl) (by kernel_rfl) (fun _ _ _ h => h) (Or.inl ⟨by rfl, by (intro W hSw; clear hSw; go_simp)⟩) trivial ?_
                simp only [Act.put, List.getElem_toArray, List.getElem_cons_succ, List.getElem_cons_zero, List.setIfInBounds_toArray, List.set_cons_zero, List.set_cons_succ]
                refine wpAnyH_take (i := 13) (v := .pointer (some ⟨T2, 1, none⟩)) rfl (by kernel_rfl) (by kernel_rfl) (by kernel_rfl) (fun _ _ _ h => h) (Or.inl ⟨by rfl, by (intro W hSw; clear hSw; go_simp)⟩) trivial ?_
                simp only [Act.put, List.getElem_toArray, List.getElem_cons_succ, List.getElem_cons_zero, List.setIfInBounds_toArray, List.set_cons_zero, List.set_cons_succ]
                refine wpAnyH_ready (rs := [14]) (by kernel_rfl) (by simp) ?_
                refine AllReadyH.cons (o := _) rfl (fun K hK => ?_) AllReadyH.nil
                go_simp
                refine hK.out _ _ trivial (fun _ => ?_)
                clear hK
                simp only [List.setIfInBounds_toArray, List.set_cons_zero, List.set_cons_succ]
                refine wpAnyH_done (by kernel_rfl) ?_ _
                show wpList _ _ _ (opsAt _ [15, 16, 17]) _ _
                simp only [opsAt, List.filterMap_cons, List.filterMap_nil, List.getElem?_toArray, List.getElem?_cons_succ, List.getElem?_cons_zero]
                go_wp2_with (fail)
                go_roundw
                case rel => exact ⟨0 + 1, by omega, by go_num, S4.out⟩
                case measure => simp [intOf]
              · subst hq1
                have e0 := blk_cell HPB.out 1 rfl
                clear HPB
                go_upto_region 18 with (fail)
                clear e0
                refine wp_region_split (S := fun _ => True) [15, 16, 17] 15 (by kernel_rfl) (by kernel_rfl) rfl ?_
                have S2 := Lib.hid hX.out.drew
                clear hX
                generalize U.drew = U2 at S2 ⊢
                rw [show firstL _ [15, 16, 17] = #[false, false, false, false, false, false, false, false, false, false, false, false, false, false, false, true, true, true] from by kernel_rfl]
                have c1 : U2.cell? ⟨T2, 3, none⟩ = some (.int .i64 r.climb.lo) := blk_cell S2.out.t 3 rfl
                have c2 : U2.cell? ⟨T2, 4, none⟩ = some (.int .i64 r.climb.hi) := blk_cell S2.out.t 4 rfl
                have f1 : U2.frozen? ⟨T2, 3, none⟩ = false := blk_free S2.out.t
                have c3 : (U2.setCell ⟨T2, 3, none⟩ (.int .i64 (2 * r.climb.lo))).cell? ⟨T2, 4, none⟩ = some (.int .i64 r.climb.hi) := blk_cell (blk_setCell S2.out.t) 4 rfl
                have f3 : (U2.setCell ⟨T2, 3, none⟩ (.int .i64 (2 * r.climb.lo))).frozen? ⟨T2, 4, none⟩ = false := blk_free (blk_setCell S2.out.t)
                have S4 := Lib.hid (S2.out.put (dbl r 2) 3 4 (.int .i64 (2 * r.climb.lo)) (.int .i64 (2 * r.climb.hi)) rfl)
                have hsr := HX.out.2.2
                have h2lo : IntKind.i64.wrap (2 * r.climb.lo) = 2 * r.climb.lo := IntWalk.i64_in _ (by unfold SmallRu at hsr; omega)
                have h2hi : IntKind.i64.wrap (2 * r.climb.hi) = 2 * r.climb.hi := IntWalk.i64_in _ (by unfold SmallRu at hsr; omega)
                clear hsr
                refine wpAnyH_take (i := 0) (v := .pointer (some ⟨T2, 3, none⟩)) rfl (by kernel_rfl) (by kernel_rfl) (by kernel_rfl) (fun _ _ _ h => h) (Or.inl ⟨by rfl, by (intro W hSw; clear hSw; go_simp)⟩) trivial ?_
                simp only [Act.put, List.getElem_toArray, List.getElem_cons_zero, List.setIfInBounds_toArray, List.set_cons_zero, List.set_cons_succ]
                refine wpAnyH_take (i := 1) (v := .pointer (some ⟨T2, 3, none⟩)) rfl (by kernel_rfl) (by kernel_rfl) (by kernel_rfl) (fun _ _ _ h => h) (Or.inl ⟨by rfl, by (intro W hSw; clear hSw; go_simp)⟩) trivial ?_
                simp only [Act.put, List.getElem_toArray, List.getElem_cons_succ, List.getElem_cons_zero, List.setIfInBounds_toArray, List.set_cons_zero, List.set_cons_succ]
                refine wpAnyH_take (i := 2) (v := .pointer (some ⟨T2, 3, none⟩)) rfl (by kernel_rfl) (by kernel_rfl) (by kernel_rfl) (fun _ _ _ h => h) (Or.inl ⟨by rfl, by (intro W hSw; clear hSw; go_simp)⟩) trivial ?_
                simp only [Act.put, List.getElem_toArray, List.getElem_cons_succ, List.getElem_cons_zero, List.setIfInBounds_toArray, List.set_cons_zero, List.set_cons_succ]
                refine wpAnyH_take (i := 3) (v := .pointer (some ⟨T2, 3, none⟩)) rfl (by kernel_rfl) (by kernel_rfl) (by kernel_rfl) (fun _ _ _ h => h) (Or.inl ⟨by rfl, by (intro W hSw; clear hSw; go_simp)⟩) trivial ?_
                simp only [Act.put, List.getElem_toArray, List.getElem_cons_succ, List.getElem_cons_zero, List.setIfInBounds_toArray, List.set_cons_zero, List.set_cons_succ]
                refine wpAnyH_take (i := 4) (v := .pointer (some ⟨T2, 3, none⟩)) rfl (by kernel_rfl) (by kernel_rfl) (by kernel_rfl) (fun _ _ _ h => h) (Or.inl ⟨by rfl, by (intro W hSw; clear hSw; go_simp)⟩) trivial ?_
                simp only [Act.put, List.getElem_toArray, List.getElem_cons_succ, List.getElem_cons_zero, List.setIfInBounds_toArray, List.set_cons_zero, List.set_cons_succ]
                refine wpAnyH_take (i := 7) (v := .pointer (some ⟨T2, 3, none⟩)) rfl (by kernel_rfl) (by kernel_rfl) (by kernel_rfl) (fun _ _ _ h => h) (Or.inl ⟨by rfl, by (intro W hSw; clear hSw; go_simp)⟩) trivial ?_
                simp only [Act.put, List.getElem_toArray, List.getElem_cons_succ, List.getElem_cons_zero, List.setIfInBounds_toArray, List.set_cons_zero, List.set_cons_succ]
                refine wpAnyH_take (i := 8) (v := .pointer (some ⟨T2, 3, none⟩)) rfl (by kernel_rfl) (by kernel_rfl) (by kernel_rfl) (fun _ _ _ h => h) (Or.inl ⟨by rfl, by (intro W hSw; clear hSw; go_simp)⟩) trivial ?_
                simp only [Act.put, List.getElem_toArray, List.getElem_cons_succ, List.getElem_cons_zero, List.setIfInBounds_toArray, List.set_cons_zero, List.set_cons_succ]
                refine wpAnyH_take (i := 9) (v := .pointer (some ⟨T2, 4, none⟩)) rfl (by kernel_rfl) (by kernel_rfl) (by kernel_rfl) (fun _ _ _ h => h) (Or.inl ⟨by rfl, by (intro W hSw; clear hSw; go_simp)⟩) trivial ?_
                simp only [Act.put, List.getElem_toArray, List.getElem_cons_succ, List.getElem_cons_zero, List.setIfInBounds_toArray, List.set_cons_zero, List.set_cons_succ]
                refine wpAnyH_ready (rs := [5, 10]) (by kernel_rfl) (by simp) ?_
                refine AllReadyH.cons (o := _) rfl (fun K hK => ?_) ?_
                · skip
                  go_simp
                  refine hK.out _ _ trivial (fun _ => ?_)
                  clear hK
                  simp only [List.setIfInBounds_toArray, List.set_cons_zero, List.set_cons_succ]
                  refine wpAnyH_take (i := 6) (v := .int .i64 (2 * r.climb.lo)) rfl (by kernel_rfl) (by kernel_rfl) (by kernel_rfl) (fun _ _ _ h => h) (Or.inl ⟨by rfl, by (intro W hSw; clear hSw; go_simp)⟩) trivial ?_
                  simp only [Act.put, List.getElem_toArray, List.getElem_cons_succ, List.getElem_cons_zero, List.setIfInBounds_toArray, List.set_cons_zero, List.set_cons_succ]
                  refine wpAnyH_ready (rs := [10]) (by kernel_rfl) (by simp) ?_
                  refine AllReadyH.cons (o := _) rfl (fun K hK => ?_) AllReadyH.nil
                  go_simp
                  refine hK.out _ _ trivial (fun _ => ?_)
                  clear hK
                  simp only [List.setIfInBounds_toArray, List.set_cons_zero, List.set_cons_succ]
                  refine wpAnyH_take (i := 11) (v := .int .i64 (2 * r.climb.hi)) rfl (by kernel_rfl) (by kernel_rfl) (by kernel_rfl) (fun _ _ _ h => h) (Or.inl ⟨by rfl, by (intro W hSw; clear hSw; go_simp)⟩) trivial ?_
                  simp only [Act.put, List.getElem_toArray, List.getElem_cons_succ, List.getElem_cons_zero, List.setIfInBounds_toArray, List.set_cons_zero, List.set_cons_succ]
                  refine wpAnyH_take (i := 12) (v := .pointer (some ⟨T2, 3, none⟩)) rfl (by kernel_rfl) (by kernel_rfl) (by kernel_rfl) (fun _ _ _ h => h) (Or.inl ⟨by rfl, by (intro W hSw; clear hSw; go_simp)⟩) trivial ?_
                  simp only [Act.put, List.getElem_toArray, List.getElem_cons_succ, List.getElem_cons_zero, List.setIfInBounds_toArray, List.set_cons_zero, List.set_cons_succ]
                  refine wpAnyH_take (i := 13) (v := .pointer (some ⟨T2, 3, none⟩)) rfl (by kernel_rfl) (by kernel_rfl) (by kernel_rfl) (fun _ _ _ h => h) (Or.inl ⟨by rfl, by (intro W hSw; clear hSw; go_simp)⟩) trivial ?_
                  simp only [Act.put, List.getElem_toArray, List.getElem_cons_succ, List.getElem_cons_zero, List.setIfInBounds_toArray, List.set_cons_zero, List.set_cons_succ]
                  refine wpAnyH_ready (rs := [14]) (by kernel_rfl) (by simp) ?_
                  refine AllReadyH.cons (o := _) rfl (fun K hK => ?_) AllReadyH.nil
                  go_simp
                  refine hK.out _ _ trivial (fun _ => ?_)
                  clear hK
                  simp only [List.setIfInBounds_toArray, List.set_cons_zero, List.set_cons_succ]
                  refine wpAnyH_done (by kernel_rfl) ?_ _
                  show wpList _ _ _ (opsAt _ [15, 16, 17]) _ _
                  simp only [opsAt, List.filterMap_cons, List.filterMap_nil, List.getElem?_toArray, List.getElem?_cons_succ, List.getElem?_cons_zero]
                  go_wp2_with (fail)
                  go_roundw
                  case rel => exact ⟨1 + 1, by omega, by go_num, S4.out⟩
                  case measure => simp [intOf]
                refine AllReadyH.cons (o := _) rfl (fun K hK => ?_) AllReadyH.nil
                go_simp
                refine hK.out _ _ trivial (fun _ => ?_)
                clear hK
                simp only [List.setIfInBounds_toArray, List.set_cons_zero, List.set_cons_succ]
                refine wpAnyH_take (i := 11) (v := .int .i64 (2 * r.climb.hi)) rfl (by kernel_rfl) (by kernel_rfl) (by kernel_rfl) (fun _ _ _ h => h) (Or.inl ⟨by rfl, by (intro W hSw; clear hSw; go_simp)⟩) trivial ?_
                simp only [Act.put, List.getElem_toArray, List.getElem_cons_succ, List.getElem_cons_zero, List.setIfInBounds_toArray, List.set_cons_zero, List.set_cons_succ]
                refine wpAnyH_ready (rs := [5]) (by kernel_rfl) (by simp) ?_
                refine AllReadyH.cons (o := _) rfl (fun K hK => ?_) AllReadyH.nil
                go_simp
                refine hK.out _ _ trivial (fun _ => ?_)
                clear hK
                simp only [List.setIfInBounds_toArray, List.set_cons_zero, List.set_cons_succ]
                refine wpAnyH_take (i := 6) (v := .int .i64 (2 * r.climb.lo)) rfl (by kernel_rfl) (by kernel_rfl) (by kernel_rfl) (fun _ _ _ h => h) (Or.inl ⟨by rfl, by (intro W hSw; clear hSw; go_simp)⟩) trivial ?_
                simp only [Act.put, List.getElem_toArray, List.getElem_cons_succ, List.getElem_cons_zero, List.setIfInBounds_toArray, List.set_cons_zero, List.set_cons_succ]
                refine wpAnyH_take (i := 12) (v := .pointer (some ⟨T2, 3, none⟩)) rfl (by kernel_rfl) (by kernel_rfl) (by kernel_rfl) (fun _ _ _ h => h) (Or.inl ⟨by rfl, by (intro W hSw; clear hSw; go_simp)⟩) trivial ?_
                simp only [Act.put, List.getElem_toArray, List.getElem_cons_succ, List.getElem_cons_zero, List.setIfInBounds_toArray, List.set_cons_zero, List.set_cons_succ]
                refine wpAnyH_take (i := 13) (v := .pointer (some ⟨T2, 3, none⟩)) rfl (by kernel_rfl) (by kernel_rfl) (by kernel_rfl) (fun _ _ _ h => h) (Or.inl ⟨by rfl, by (intro W hSw; clear hSw; go_simp)⟩) trivial ?_
                simp only [Act.put, List.getElem_toArray, List.getElem_cons_succ, List.getElem_cons_zero, List.setIfInBounds_toArray, List.set_cons_zero, List.set_cons_succ]
                refine wpAnyH_ready (rs := [14]) (by kernel_rfl) (by simp) ?_
                refine AllReadyH.cons (o := _) rfl (fun K hK => ?_) AllReadyH.nil
                go_simp
                refine hK.out _ _ trivial (fun _ => ?_)
                clear hK
                simp only [List.setIfInBounds_toArray, List.set_cons_zero, List.set_cons_succ]
                refine wpAnyH_done (by kernel_rfl) ?_ _
                show wpList _ _ _ (opsAt _ [15, 16, 17]) _ _
                simp only [opsAt, List.filterMap_cons, List.filterMap_nil, List.getElem?_toArray, List.getElem?_cons_succ, List.getElem?_cons_zero]
                go_wp2_with (fail)
                go_roundw
                case rel => exact ⟨1 + 1, by omega, by go_num, S4.out⟩
                case measure => simp [intOf]
              · subst hq2
                have e0 := blk_cell HPB.out 2 rfl
                clear HPB
                go_upto_region 18 with (fail)
                clear e0
                refine wp_region_split (S := fun _ => True) [15, 16, 17] 15 (by kernel_rfl) (by kernel_rfl) rfl ?_
                have S2 := Lib.hid hX.out.drew
                clear hX
                generalize U.drew = U2 at S2 ⊢
                rw [show firstL _ [15, 16, 17] = #[false, false, false, false, false, false, false, false, false, false, false, false, false, false, false, true, true, true] from by kernel_rfl]
                have c1 : U2.cell? ⟨T2, 5, none⟩ = some (.int .i64 r.lap.lo) := blk_cell S2.out.t 5 rfl
                have c2 : U2.cell? ⟨T2, 6, none⟩ = some (.int .i64 r.lap.hi) := blk_cell S2.out.t 6 rfl
                have f1 : U2.frozen? ⟨T2, 5, none⟩ = false := blk_free S2.out.t
                have c3 : (U2.setCell ⟨T2, 5, none⟩ (.int .i64 (2 * r.lap.lo))).cell? ⟨T2, 6, none⟩ = some (.int .i64 r.lap.hi) := blk_cell (blk_setCell S2.out.t) 6 rfl
                have f3 : (U2.setCell ⟨T2, 5, none⟩ (.int .i64 (2 * r.lap.lo))).frozen? ⟨T2, 6, none⟩ = false := blk_free (blk_setCell S2.out.t)
                have S4 := Lib.hid (S2.out.put (dbl r 3) 5 6 (.int .i64 (2 * r.lap.lo)) (.int .i64 (2 * r.lap.hi)) rfl)
                have hsr := HX.out.2.2
                have h2lo : IntKind.i64.wrap (2 * r.lap.lo) = 2 * r.lap.lo := IntWalk.i64_in _ (by unfold SmallRu at hsr; omega)
                have h2hi : IntKind.i64.wrap (2 * r.lap.hi) = 2 * r.lap.hi := IntWalk.i64_in _ (by unfold SmallRu at hsr; omega)
                clear hsr
                refine wpAnyH_take (i := 0) (v := .pointer (some ⟨T2, 5, none⟩)) rfl (by kernel_rfl) (by kernel_rfl) (by kernel_rfl) (fun _ _ _ h => h) (Or.inl ⟨by rfl, by (intro W hSw; clear hSw; go_simp)⟩) trivial ?_
                simp only [Act.put, List.getElem_toArray, List.getElem_cons_zero, List.setIfInBounds_toArray, List.set_cons_zero, List.set_cons_succ]
                refine wpAnyH_take (i := 1) (v := .pointer (some ⟨T2, 5, none⟩)) rfl (by kernel_rfl) (by kernel_rfl) (by kernel_rfl) (fun _ _ _ h => h) (Or.inl ⟨by rfl, by (intro W hSw; clear hSw; go_simp)⟩) trivial ?_
                simp only [Act.put, List.getElem_toArray, List.getElem_cons_succ, List.getElem_cons_zero, List.setIfInBounds_toArray, List.set_cons_zero, List.set_cons_succ]
                refine wpAnyH_take (i := 2) (v := .pointer (some ⟨T2, 5, none⟩)) rfl (by kernel_rfl) (by kernel_rfl) (by kernel_rfl) (fun _ _ _ h => h) (Or.inl ⟨by rfl, by (intro W hSw; clear hSw; go_simp)⟩) trivial ?_
                simp only [Act.put, List.getElem_toArray, List.getElem_cons_succ, List.getElem_cons_zero, List.setIfInBounds_toArray, List.set_cons_zero, List.set_cons_succ]
                refine wpAnyH_take (i := 3) (v := .pointer (some ⟨T2, 5, none⟩)) rfl (by kernel_rfl) (by kernel_rfl) (by kernel_rfl) (fun _ _ _ h => h) (Or.inl ⟨by rfl, by (intro W hSw; clear hSw; go_simp)⟩) trivial ?_
                simp only [Act.put, List.getElem_toArray, List.getElem_cons_succ, List.getElem_cons_zero, List.setIfInBounds_toArray, List.set_cons_zero, List.set_cons_succ]
                refine wpAnyH_take (i := 4) (v := .pointer (some ⟨T2, 5, none⟩)) rfl (by kernel_rfl) (by kernel_rfl) (by kernel_rfl) (fun _ _ _ h => h) (Or.inl ⟨by rfl, by (intro W hSw; clear hSw; go_simp)⟩) trivial ?_
                simp only [Act.put, List.getElem_toArray, List.getElem_cons_succ, List.getElem_cons_zero, List.setIfInBounds_toArray, List.set_cons_zero, List.set_cons_succ]
                refine wpAnyH_take (i := 7) (v := .pointer (some ⟨T2, 5, none⟩)) rfl (by kernel_rfl) (by kernel_rfl) (by kernel_rfl) (fun _ _ _ h => h) (Or.inl ⟨by rfl, by (intro W hSw; clear hSw; go_simp)⟩) trivial ?_
                simp only [Act.put, List.getElem_toArray, List.getElem_cons_succ, List.getElem_cons_zero, List.setIfInBounds_toArray, List.set_cons_zero, List.set_cons_succ]
                refine wpAnyH_take (i := 8) (v := .pointer (some ⟨T2, 5, none⟩)) rfl (by kernel_rfl) (by kernel_rfl) (by kernel_rfl) (fun _ _ _ h => h) (Or.inl ⟨by rfl, by (intro W hSw; clear hSw; go_simp)⟩) trivial ?_
                simp only [Act.put, List.getElem_toArray, List.getElem_cons_succ, List.getElem_cons_zero, List.setIfInBounds_toArray, List.set_cons_zero, List.set_cons_succ]
                refine wpAnyH_take (i := 9) (v := .pointer (some ⟨T2, 6, none⟩)) rfl (by kernel_rfl) (by kernel_rfl) (by kernel_rfl) (fun _ _ _ h => h) (Or.inl ⟨by rfl, by (intro W hSw; clear hSw; go_simp)⟩) trivial ?_
                simp only [Act.put, List.getElem_toArray, List.getElem_cons_succ, List.getElem_cons_zero, List.setIfInBounds_toArray, List.set_cons_zero, List.set_cons_succ]
                refine wpAnyH_ready (rs := [5, 10]) (by kernel_rfl) (by simp) ?_
                refine AllReadyH.cons (o := _) rfl (fun K hK => ?_) ?_
                · skip
                  go_simp
                  refine hK.out _ _ trivial (fun _ => ?_)
                  clear hK
                  simp only [List.setIfInBounds_toArray, List.set_cons_zero, List.set_cons_succ]
                  refine wpAnyH_take (i := 6) (v := .int .i64 (2 * r.lap.lo)) rfl (by kernel_rfl) (by kernel_rfl) (by kernel_rfl) (fun _ _ _ h => h) (Or.inl ⟨by rfl, by (intro W hSw; clear hSw; go_simp)⟩) trivial ?_
                  simp only [Act.put, List.getElem_toArray, List.getElem_cons_succ, List.getElem_cons_zero, List.setIfInBounds_toArray, List.set_cons_zero, List.set_cons_succ]
                  refine wpAnyH_ready (rs := [10]) (by kernel_rfl) (by simp) ?_
                  refine AllReadyH.cons (o := _) rfl (fun K hK => ?_) AllReadyH.nil
                  go_simp
                  refine hK.out _ _ trivial (fun _ => ?_)
                  clear hK
                  simp only [List.setIfInBounds_toArray, List.set_cons_zero, List.set_cons_succ]
                  refine wpAnyH_take (i := 11) (v := .int .i64 (2 * r.lap.hi)) rfl (by kernel_rfl) (by kernel_rfl) (by kernel_rfl) (fun _ _ _ h => h) (Or.inl ⟨by rfl, by (intro W hSw; clear hSw; go_simp)⟩) trivial ?_
                  simp only [Act.put, List.getElem_toArray, List.getElem_cons_succ, List.getElem_cons_zero, List.setIfInBounds_toArray, List.set_cons_zero, List.set_cons_succ]
                  refine wpAnyH_take (i := 12) (v := .pointer (some ⟨T2, 5, none⟩)) rfl (by kernel_rfl) (by kernel_rfl) (by kernel_rfl) (fun _ _ _ h => h) (Or.inl ⟨by rfl, by (intro W hSw; clear hSw; go_simp)⟩) trivial ?_
                  simp only [Act.put, List.getElem_toArray, List.getElem_cons_succ, List.getElem_cons_zero, List.setIfInBounds_toArray, List.set_cons_zero, List.set_cons_succ]
                  refine wpAnyH_take (i := 13) (v := .pointer (some ⟨T2, 5, none⟩)) rfl (by kernel_rfl) (by kernel_rfl) (by kernel_rfl) (fun _ _ _ h => h) (Or.inl ⟨by rfl, by (intro W hSw; clear hSw; go_simp)⟩) trivial ?_
                  simp only [Act.put, List.getElem_toArray, List.getElem_cons_succ, List.getElem_cons_zero, List.setIfInBounds_toArray, List.set_cons_zero, List.set_cons_succ]
                  refine wpAnyH_ready (rs := [14]) (by kernel_rfl) (by simp) ?_
                  refine AllReadyH.cons (o := _) rfl (fun K hK => ?_) AllReadyH.nil
                  go_simp
                  refine hK.out _ _ trivial (fun _ => ?_)
                  clear hK
                  simp only [List.setIfInBounds_toArray, List.set_cons_zero, List.set_cons_succ]
                  refine wpAnyH_done (by kernel_rfl) ?_ _
                  show wpList _ _ _ (opsAt _ [15, 16, 17]) _ _
                  simp only [opsAt, List.filterMap_cons, List.filterMap_nil, List.getElem?_toArray, List.getElem?_cons_succ, List.getElem?_cons_zero]
                  go_wp2_with (fail)
                  go_roundw
                  case rel => exact ⟨2 + 1, by omega, by go_num, S4.out⟩
                  case measure => simp [intOf]
                refine AllReadyH.cons (o := _) rfl (fun K hK => ?_) AllReadyH.nil
                go_simp
                refine hK.out _ _ trivial (fun _ => ?_)
                clear hK
                simp only [List.setIfInBounds_toArray, List.set_cons_zero, List.set_cons_succ]
                refine wpAnyH_take (i := 11) (v := .int .i64 (2 * r.lap.hi)) rfl (by kernel_rfl) (by kernel_rfl) (by kernel_rfl) (fun _ _ _ h => h) (Or.inl ⟨by rfl, by (intro W hSw; clear hSw; go_simp)⟩) trivial ?_
                simp only [Act.put, List.getElem_toArray, List.getElem_cons_succ, List.getElem_cons_zero, List.setIfInBounds_toArray, List.set_cons_zero, List.set_cons_succ]
                refine wpAnyH_ready (rs := [5]) (by kernel_rfl) (by simp) ?_
                refine AllReadyH.cons (o := _) rfl (fun K hK => ?_) AllReadyH.nil
                go_simp
                refine hK.out _ _ trivial (fun _ => ?_)
                clear hK
                simp only [List.setIfInBounds_toArray, List.set_cons_zero, List.set_cons_succ]
                refine wpAnyH_take (i := 6) (v := .int .i64 (2 * r.lap.lo)) rfl (by kernel_rfl) (by kernel_rfl) (by kernel_rfl) (fun _ _ _ h => h) (Or.inl ⟨by rfl, by (intro W hSw; clear hSw; go_simp)⟩) trivial ?_
                simp only [Act.put, List.getElem_toArray, List.getElem_cons_succ, List.getElem_cons_zero, List.setIfInBounds_toArray, List.set_cons_zero, List.set_cons_succ]
                refine wpAnyH_take (i := 12) (v := .pointer (some ⟨T2, 5, none⟩)) rfl (by kernel_rfl) (by kernel_rfl) (by kernel_rfl) (fun _ _ _ h => h) (Or.inl ⟨by rfl, by (intro W hSw; clear hSw; go_simp)⟩) trivial ?_
                simp only [Act.put, List.getElem_toArray, List.getElem_cons_succ, List.getElem_cons_zero, List.setIfInBounds_toArray, List.set_cons_zero, List.set_cons_succ]
                refine wpAnyH_take (i := 13) (v := .pointer (some ⟨T2, 5, none⟩)) rfl (by kernel_rfl) (by kernel_rfl) (by kernel_rfl) (fun _ _ _ h => h) (Or.inl ⟨by rfl, by (intro W hSw; clear hSw; go_simp)⟩) trivial ?_
                simp only [Act.put, List.getElem_toArray, List.getElem_cons_succ, List.getElem_cons_zero, List.setIfInBounds_toArray, List.set_cons_zero, List.set_cons_succ]
                refine wpAnyH_ready (rs := [14]) (by kernel_rfl) (by simp) ?_
                refine AllReadyH.cons (o := _) rfl (fun K hK => ?_) AllReadyH.nil
                go_simp
                refine hK.out _ _ trivial (fun _ => ?_)
                clear hK
                simp only [List.setIfInBounds_toArray, List.set_cons_zero, List.set_cons_succ]
                refine wpAnyH_done (by kernel_rfl) ?_ _
                show wpList _ _ _ (opsAt _ [15, 16, 17]) _ _
                simp only [opsAt, List.filterMap_cons, List.filterMap_nil, List.getElem?_toArray, List.getElem?_cons_succ, List.getElem?_cons_zero]
                go_wp2_with (fail)
                go_roundw
                case rel => exact ⟨2 + 1, by omega, by go_num, S4.out⟩
                case measure => simp [intOf]
            · have hq3 : q = 3 := by omega
              subst hq3
              have HG : Hid (KI w T r sa xs U ∧ Sl 3 Lp.cells U ya ys ∧ Sl 3 Lp.cells U za zs ∧ RuAt U T2 (twoR r)) := by
                have hb := below_apart H9.out.1 hX.out.ap (fun j hj => by rw [hj, hT2'.out]; exact Nat.le_refl _)
                exact ⟨H7.out.1.below hb, H7.out.2.1.below hb, H7.out.2.2.below hb, hX.out.t⟩
              clear hX HPB H9 H7
              have hsm := HX.out.2.1
              have hru := HX.out.2.2
              have hor : Ord xs.length o xs ys := by rw [HY.out]; exact mix_ord HO.out
              have hys : ∀ x ∈ ys, SmallLp x := by rw [HY.out]; exact mix_small HO.out hsm
              have hk1 : checkE xs r = 0 := small_ok ⟨hx1, hx6⟩ hsm hru
              have hk2 : checkE ys r = 0 := small_ok (by rw [hjn.out]; exact ⟨hx1, hx6⟩) hys hru
              have hk3 : checkE zs (twoR r) = 0 := by rw [HZ.out]; exact two_ok ⟨hx1, hx6⟩ hsm hru
              have ha1 := all_small hx6 hru.1.2 hk1
              have ha2 := all_small (xs := ys) (by rw [hjn.out]; exact hx6) hru.1.2 hk2
              have ha3 := all_small (xs := zs) (r := twoR r) (by rw [hjn2.out]; exact hx6) hru.1.2 hk3
              rw [show rightL zs (twoR r) = rightL xs r from by rw [HZ.out]; exact right_two xs r] at ha3
              have hrl := hor.right_len r
              have hrs := right_small xs r hx6 (by have := hru.1; omega)
              have hrc : ∀ c ∈ rightL xs r, c.length ≤ 1000000 := fun c hc => by
                have h1 := ((ext_mem xs.length r.laps.toNat c).1 (List.mem_filter.1 hc).1).1
                have h2 := hru.1
                omega
              obtain ⟨hy1, hy2, hy3⟩ := hor.yield r hk1 hk2
              have hys5 := yield_short xs r
              have hch := hor.cheap r D hk1 hk2
              generalize hRR : rightL xs r = R at ha1 ha3 hrl hrs hrc
              generalize hRR2 : rightL ys r = R2 at ha2 hrl
              obtain ⟨YR, YC, YE, hYE⟩ : ∃ YR YC YE, yieldR xs r = (YR, YC, YE) := ⟨_, _, _, rfl⟩
              obtain ⟨YR2, YC2, YE2, hYE2⟩ : ∃ YR YC YE, yieldR ys r = (YR, YC, YE) := ⟨_, _, _, rfl⟩
              obtain ⟨C, M, E, hCE⟩ : ∃ C M E, cheapR xs r D = (C, M, E) := ⟨_, _, _, rfl⟩
              obtain ⟨C2, M2, E2, hCE2⟩ : ∃ C M E, cheapR ys r D = (C, M, E) := ⟨_, _, _, rfl⟩
              rw [hYE, hYE2] at hy1
              rw [hYE2] at hy2
              rw [hYE] at hy3 hys5
              rw [hCE, hCE2] at hch
              obtain rfl : YR2 = YR := hy1
              obtain rfl : YE2 = 0 := hy2
              obtain rfl : YE = 0 := hy3
              obtain ⟨rfl, rfl⟩ : M2 = M ∧ E2 = E := by cases hch; exact ⟨rfl, rfl⟩
              have HB : Hid (R.length ≤ 1000000 ∧ (∀ c ∈ R, c.length ≤ 1000000) ∧ YR2.length ≤ 1000000 ∧ R2.length = R.length) := ⟨Nat.le_trans hrs (by omega), hrc, Nat.le_trans hys5 (by omega), hrl⟩
              have HC1 : Hid (∀ W, Sl 3 Lp.cells W sa xs → Calls Try.prog 27 #[.slice sa xs.length sc, r.v] W (OutCs W R 0)) := fun W hW => by
                have h := all_any sa xs sc r W hW (by omega)
                unfold AllOut at h
                rw [ha1] at h
                exact h
              have HC2 : Hid (∀ W, Sl 3 Lp.cells W ya ys → Calls Try.prog 27 #[.slice ya ys.length yc, r.v] W (OutCs W R2 0)) := fun W hW => by
                have h := all_any ya ys yc r W hW (by have := hjn.out; omega)
                unfold AllOut at h
                rw [ha2] at h
                exact h
              have HC3 : Hid (∀ W, Sl 3 Lp.cells W za zs → Calls Try.prog 27 #[.slice za zs.length zc, (twoR r).v] W (OutCs W R 0)) := fun W hW => by
                have h := all_any za zs zc (twoR r) W hW (by have := hjn2.out; omega)
                unfold AllOut at h
                rw [ha3] at h
                exact h
              have HC4 : Hid (∀ W, Sl 3 Lp.cells W sa xs → Calls Try.prog 30 #[.slice sa xs.length sc, r.v] W (OutY W (YR2, YC, 0))) := fun W hW => by
                have h := yield_any sa xs sc r W hW (by omega)
                rw [hYE] at h
                exact h
              have HC5 : Hid (∀ W, Sl 3 Lp.cells W ya ys → Calls Try.prog 30 #[.slice ya ys.length yc, r.v] W (OutY W (YR2, YC2, 0))) := fun W hW => by
                have h := yield_any ya ys yc r W hW (by have := hjn.out; omega)
                rw [hYE2] at h
                exact h
              have HC6 : Hid (∀ W, Sl 3 Lp.cells W sa xs → Calls Try.prog 63 #[.slice sa xs.length sc, r.v, .int .i64 D] W (OutC3 W (C, M2, E2))) := fun W hW => by
                have h := cheapest_any sa xs sc r D W hW (by omega)
                rw [hCE] at h
                exact h
              have HC7 : Hid (∀ W, Sl 3 Lp.cells W ya ys → Calls Try.prog 63 #[.slice ya ys.length yc, r.v, .int .i64 D] W (OutC3 W (C2, M2, E2))) := fun W hW => by
                have h := cheapest_any ya ys yc r D W hW (by have := hjn.out; omega)
                rw [hCE2] at h
                exact h
              clear hsm hru hor hys hk1 hk2 hk3 ha1 ha2 ha3 hrl hrs hrc hys5 hch hRR hRR2 hYE hYE2 hCE hCE2 HX HO HY HZ
              have c0 := blk_cell HG.out.1.t 0 rfl
              have c1 := blk_cell HG.out.1.t 1 rfl
              have c2 := blk_cell HG.out.1.t 2 rfl
              have c3 := blk_cell HG.out.1.t 3 rfl
              have c4 := blk_cell HG.out.1.t 4 rfl
              have c5 := blk_cell HG.out.1.t 5 rfl
              have c6 := blk_cell HG.out.1.t 6 rfl
              have c7 := blk_cell HG.out.1.t 7 rfl
              have c8 := blk_cell HG.out.1.t 8 rfl
              go_wp2_with (fail)
              clear c0 c1 c2 c3 c4 c5 c6 c7 c8
              refine (HC1.out U HG.out.1.sl).mono ?_
              rintro e U1 ⟨la, lcap, rfl, h1, hb⟩
              have G1 : Hid (KI w T r sa xs U1 ∧ Sl 3 Lp.cells U1 ya ys ∧ Sl 3 Lp.cells U1 za zs ∧ RuAt U1 T2 (twoR r) ∧ SlsAt U1 la R) := ⟨HG.out.1.below hb, HG.out.2.1.below hb, HG.out.2.2.1.below hb, HG.out.2.2.2.below hb, h1⟩
              clear h1 hb HG HC1
              have c0 := blk_cell G1.out.1.t 0 rfl
              have c1 := blk_cell G1.out.1.t 1 rfl
              have c2 := blk_cell G1.out.1.t 2 rfl
              have c3 := blk_cell G1.out.1.t 3 rfl
              have c4 := blk_cell G1.out.1.t 4 rfl
              have c5 := blk_cell G1.out.1.t 5 rfl
              have c6 := blk_cell G1.out.1.t 6 rfl
              have c7 := blk_cell G1.out.1.t 7 rfl
              have c8 := blk_cell G1.out.1.t 8 rfl
              go_wp2_with (fail)
              clear c0 c1 c2 c3 c4 c5 c6 c7 c8
              refine (HC2.out U1 G1.out.2.1).mono ?_
              rintro e U2 ⟨ma, mcap, rfl, h1, hb⟩
              rw [HB.out.2.2.2]
              have G2 : Hid (KI w T r sa xs U2 ∧ Sl 3 Lp.cells U2 ya ys ∧ Sl 3 Lp.cells U2 za zs ∧ RuAt U2 T2 (twoR r) ∧ SlsAt U2 la R) := ⟨G1.out.1.below hb, G1.out.2.1.below hb, G1.out.2.2.1.below hb, G1.out.2.2.2.1.below hb, G1.out.2.2.2.2.below hb⟩
              clear h1 hb G1 HC2
              have c0 := blk_cell G2.out.2.2.2.1 0 rfl
              have c1 := blk_cell G2.out.2.2.2.1 1 rfl
              have c2 := blk_cell G2.out.2.2.2.1 2 rfl
              have c3 := blk_cell G2.out.2.2.2.1 3 rfl
              have c4 := blk_cell G2.out.2.2.2.1 4 rfl
              have c5 := blk_cell G2.out.2.2.2.1 5 rfl
              have c6 := blk_cell G2.out.2.2.2.1 6 rfl
              have c7 := blk_cell G2.out.2.2.2.1 7 rfl
              have c8 := blk_cell G2.out.2.2.2.1 8 rfl
              go_wp2_with (fail)
              clear c0 c1 c2 c3 c4 c5 c6 c7 c8
              refine (HC3.out U2 G2.out.2.2.1).mono ?_
              rintro e U3 ⟨ka, kcap, rfl, h1, hb⟩
              have G3 : Hid (KI w T r sa xs U3 ∧ Sl 3 Lp.cells U3 ya ys ∧ SlsAt U3 la R ∧ SlsAt U3 ka R) := ⟨G2.out.1.below hb, G2.out.2.1.below hb, G2.out.2.2.2.2.below hb, h1⟩
              clear h1 hb G2 HC3
              go_wp2_with (fail)
              refine (equalAll_any la R lcap ka R kcap U3 G3.out.2.2.1 G3.out.2.2.2 HB.out.1 HB.out.2.1).mono ?_
              rintro e U4 ⟨rfl, hb⟩
              have G4 : Hid (KI w T r sa xs U4 ∧ Sl 3 Lp.cells U4 ya ys) := ⟨G3.out.1.below hb, G3.out.2.1.below hb⟩
              clear hb G3
              rw [show decide (R = R) = true from decide_eq_true rfl]
              have c0 := blk_cell G4.out.1.t 0 rfl
              have c1 := blk_cell G4.out.1.t 1 rfl
              have c2 := blk_cell G4.out.1.t 2 rfl
              have c3 := blk_cell G4.out.1.t 3 rfl
              have c4 := blk_cell G4.out.1.t 4 rfl
              have c5 := blk_cell G4.out.1.t 5 rfl
              have c6 := blk_cell G4.out.1.t 6 rfl
              have c7 := blk_cell G4.out.1.t 7 rfl
              have c8 := blk_cell G4.out.1.t 8 rfl
              go_wp2_with (fail)
              clear c0 c1 c2 c3 c4 c5 c6 c7 c8
              refine (HC4.out U4 G4.out.1.sl).mono ?_
              rintro e U5 ⟨pa, pcap, pb, pbcap, rfl, h1, h2, hb⟩
              have G5 : Hid (KI w T r sa xs U5 ∧ Sl 3 Lp.cells U5 ya ys ∧ IntSl U5 pa YR2) := ⟨G4.out.1.below hb, G4.out.2.below hb, h1⟩
              clear h1 h2 hb G4 HC4
              have c0 := blk_cell G5.out.1.t 0 rfl
              have c1 := blk_cell G5.out.1.t 1 rfl
              have c2 := blk_cell G5.out.1.t 2 rfl
              have c3 := blk_cell G5.out.1.t 3 rfl
              have c4 := blk_cell G5.out.1.t 4 rfl
              have c5 := blk_cell G5.out.1.t 5 rfl
              have c6 := blk_cell G5.out.1.t 6 rfl
              have c7 := blk_cell G5.out.1.t 7 rfl
              have c8 := blk_cell G5.out.1.t 8 rfl
              go_wp2_with (fail)
              clear c0 c1 c2 c3 c4 c5 c6 c7 c8
              refine (HC5.out U5 G5.out.2.1).mono ?_
              rintro e U6 ⟨qa, qcap, qb, qbcap, rfl, h1, h2, hb⟩
              have G6 : Hid (KI w T r sa xs U6 ∧ Sl 3 Lp.cells U6 ya ys ∧ IntSl U6 pa YR2 ∧ IntSl U6 qa YR2) := ⟨G5.out.1.below hb, G5.out.2.1.below hb, G5.out.2.2.below hb, h1⟩
              clear h1 h2 hb G5 HC5
              have c0 := blk_cell G6.out.1.t 0 rfl
              have c1 := blk_cell G6.out.1.t 1 rfl
              have c2 := blk_cell G6.out.1.t 2 rfl
              have c3 := blk_cell G6.out.1.t 3 rfl
              have c4 := blk_cell G6.out.1.t 4 rfl
              have c5 := blk_cell G6.out.1.t 5 rfl
              have c6 := blk_cell G6.out.1.t 6 rfl
              have c7 := blk_cell G6.out.1.t 7 rfl
              have c8 := blk_cell G6.out.1.t 8 rfl
              go_wp2_with (fail)
              clear c0 c1 c2 c3 c4 c5 c6 c7 c8
              refine (HC6.out U6 G6.out.1.sl).mono ?_
              rintro e U7 ⟨ea, ecap, rfl, h1, hb⟩
              have G7 : Hid (KI w T r sa xs U7 ∧ Sl 3 Lp.cells U7 ya ys ∧ IntSl U7 pa YR2 ∧ IntSl U7 qa YR2) := ⟨G6.out.1.below hb, G6.out.2.1.below hb, G6.out.2.2.1.below hb, G6.out.2.2.2.below hb⟩
              clear h1 hb G6 HC6
              have c0 := blk_cell G7.out.1.t 0 rfl
              have c1 := blk_cell G7.out.1.t 1 rfl
              have c2 := blk_cell G7.out.1.t 2 rfl
              have c3 := blk_cell G7.out.1.t 3 rfl
              have c4 := blk_cell G7.out.1.t 4 rfl
              have c5 := blk_cell G7.out.1.t 5 rfl
              have c6 := blk_cell G7.out.1.t 6 rfl
              have c7 := blk_cell G7.out.1.t 7 rfl
              have c8 := blk_cell G7.out.1.t 8 rfl
              go_wp2_with (fail)
              clear c0 c1 c2 c3 c4 c5 c6 c7 c8
              refine (HC7.out U7 G7.out.2.1).mono ?_
              rintro e U8 ⟨fa, fcap, rfl, h1, hb⟩
              have G8 : Hid (KI w T r sa xs U8 ∧ IntSl U8 pa YR2 ∧ IntSl U8 qa YR2) := ⟨G7.out.1.below hb, G7.out.2.2.1.below hb, G7.out.2.2.2.below hb⟩
              clear h1 hb G7 HC7
              go_wp2_with (fail)
              refine (equal_rule pa YR2 pcap qa YR2 qcap U8 G8.out.2.1 G8.out.2.2 HB.out.2.2.1).mono ?_
              rintro e U9 ⟨rfl, hb⟩
              have G9 : Hid (Below w.heap.size w U9) := (G8.out.1.below hb).b
              clear hb G8
              rw [show decide (YR2 = YR2) = true from decide_eq_true rfl]
              go_wp2_with (fail)
              refine (awake_any U9).mono ?_
              rintro e UA ⟨rfl, hb⟩
              have GA : Hid (Below w.heap.size w UA) := below_self G9.out hb
              clear hb G9
              go_wp2_with (fail)
              go_ret
              exact ⟨rfl, GA.out⟩
end Go.Proofs.Ytpkegiekpnaejaa
