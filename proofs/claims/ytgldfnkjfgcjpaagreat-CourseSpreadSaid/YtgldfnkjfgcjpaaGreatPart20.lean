/-
The contract of CourseSpread over this seat's program.
  What is proved: it answers true; nothing that was there before has turned.
  Conditions: lists of bytes that read as such, and a byte.
-/
import Derived.Test.YtgldfnkjfgcjpaaGreatPart19
import Derived.Deep.DeepCutAuto
namespace Go.Proofs.YtgldfnkjfgcjpaaGreat
open Go.RowKit Go.Shelf
attribute [local go_sem] Oper.semAt_some

theorem picked_new (B L : Nat) (a : Option Addr) (n cap k : Nat) (m p : Int) (w : World) (hd : Deck w B L a n cap k) (hk : k ≤ 100000) (hm : 1 ≤ m ∧ m ≤ 12) (hp : 1 ≤ p ∧ p ≤ 6) :
    Calls Tryz.prog 58 #[.pointer (some ⟨B, 0, none⟩), .int .i64 m, .int .i64 p] w fun e w' => ∃ (g c : Nat) (o : List Int), e = .returned (.slice (some ⟨g, 0, none⟩) o.length c) ∧ (o.length : Int) = p ∧ (∀ x ∈ o, 0 ≤ x ∧ x < m) ∧ o.Pairwise (fun x y => x ≤ y) ∧ RowI w' g o ∧ w.heap.size ≤ g ∧ Deck w' B L a n cap (k + 6) ∧ Apart (fun j => j = B) w w' := by
  obtain ⟨m, rfl⟩ := Int.eq_ofNat_of_zero_le (show 0 ≤ m by omega)
  obtain ⟨p, rfl⟩ := Int.eq_ofNat_of_zero_le (show 0 ≤ p by omega)
  refine (picked_any B L a n cap k m p w hd hk (by omega) (by omega)).mono ?_
  rintro e w' ⟨g, c, o, he, hl, h1, h2, h3, h6, h4, h5⟩
  exact ⟨g, c, o, by rw [he, hl], by rw [hl], h1, h2, h3, h6, h4.mono (by omega), h5⟩
/-- What lies while the law runs. -/
structure GI (w : World) (T B : Nat) (r : Ru) (sa : Option Addr) (xs : List Lp) (la : Option Addr) (R : List (List Int)) (a2 : Option Addr) (n2 cap2 k : Nat) (W : World) : Prop where
  b : Below w.heap.size w W
  t : RuAt W T r
  sl : Sl 3 Lp.cells W sa xs
  dk : Deck W B (B + 1) a2 n2 cap2 k
  ls : SlsF (B + 1) W la R
  hT : w.heap.size ≤ T
  hB : T < B
  pos : 0 < xs.length
  fs : ∀ p, sa = some p → p.block < B
section
variable {w W W' : World} {T B : Nat} {r : Ru} {sa : Option Addr} {xs : List Lp} {la : Option Addr} {R : List (List Int)} {a2 : Option Addr} {n2 cap2 k k' : Nat}
theorem GI.step (h : GI w T B r sa xs la R a2 n2 cap2 k W) (ha : Apart (fun j => j = B) W W') (hd : Deck W' B (B + 1) a2 n2 cap2 k') : GI w T B r sa xs la R a2 n2 cap2 k' W' := by
  have h1 := h.hT
  have h2 := h.hB
  exact ⟨below_apart h.b ha (fun j hj => by omega), (ha.block _ (lt_of_block h.t) (by omega)).trans h.t, sl_apart h.sl ha.size (fun p hp => ha.block _ (sl_lt h.sl h.pos p hp) (by have := h.fs p hp; omega)), hd, h.ls.apart ha (fun j hj => by omega), h.hT, h.hB, h.pos, h.fs⟩
theorem GI.below (h : GI w T B r sa xs la R a2 n2 cap2 k W) (hb : Below W.heap.size W W') : GI w T B r sa xs la R a2 n2 cap2 k W' := h.step (Apart.of_below hb) (h.dk.below hb)
theorem GI.high (h : GI w T B r sa xs none [] a2 n2 cap2 k W) {M : Nat} (hM : B < M) (ha : Apart (fun j => M ≤ j) W W') : GI w T B r sa xs none [] a2 n2 cap2 k W' := by
  have h1 := h.hT
  have h2 := h.hB
  exact ⟨below_apart h.b ha (fun j hj => by omega), (ha.block _ (lt_of_block h.t) (by omega)).trans h.t, sl_apart h.sl ha.size (fun p hp => ha.block _ (sl_lt h.sl h.pos p hp) (by have := h.fs p hp; omega)), h.dk.keep ha.size (fun j hj => ha.block j (by have := h.dk.lt.2; omega) (by omega)), (fun h0 => absurd h0 (Nat.lt_irrefl 0)), h.hT, h.hB, h.pos, h.fs⟩
end
theorem Below.sorted {V A C : World} {g : Nat} (h : Below V.heap.size V A) (k : Apart (fun j => j = g) A C) (hg : V.heap.size ≤ g) : Below V.heap.size V C := below_apart h k (fun j hj => by omega)
theorem RowI.below {A C : World} {g : Nat} {o : List Int} (h : RowI A g o) (k : Below A.heap.size A C) : RowI C g o := h.keep (k.block g h.lt)
/-- A course. -/
def Crs (n : Nat) (o : List Int) : Prop := (1 ≤ o.length ∧ o.length ≤ 6) ∧ (∀ i ∈ o, 0 ≤ i ∧ i < (n : Int)) ∧ o.Pairwise (fun x y => x ≤ y)
theorem atI_mem {o : List Int} {i : Nat} (h : i < o.length) : atI o i ∈ o := by
  unfold atI
  rw [List.getElem?_eq_getElem h]
  exact List.getElem_mem h

set_option maxRecDepth 100000 in
set_option maxHeartbeats 20000000 in
theorem spread_law (a : Option Addr) (n cap : Nat) (a2 : Option Addr) (n2 cap2 : Nat) (z : Int) (w : World) (hb : BytesAt w a n) (hn : n ≤ 140737488355328) (hb2 : BytesAt w a2 n2) (hn2 : n2 ≤ 140737488355328) (hz : 0 ≤ z ∧ z ≤ 255) :
  Calls Tryz.prog 8 #[.slice a n cap, .slice a2 n2 cap2, .int .u8 z] w fun e w' => e = .returned (.bool true) ∧ Below w.heap.size w w' := by
  obtain ⟨i0, hi, hz0, hz1, hz2⟩ := info_parts Tryz.info3
  have HB := Lib.hid (And.intro hb hb2)
  clear hb hb2
  go_enter Tryz.func8, Tryz.ntmps8
  go_wp2_with (fail)
  refine (of_any a n cap w HB.out.1 hn).mono ?_
  rintro e W1 ⟨rfl, hD, hb⟩
  have H1 := Lib.hid (And.intro hb hD)
  clear hb hD
  go_wp2_with (fail)
  refine (stadMade_any w.heap.size (w.heap.size + 1) a n cap 0 6 4 W1 H1.out.2 (by omega) (by omega) (by omega)).mono ?_
  rintro e W2 ⟨sa, xs, sc, r, rfl, hsl, hxl, hxs, hr, hrl, hD, hA, hfar⟩
  have H2 : Hid (Below w.heap.size w W2 ∧ Sl 3 Lp.cells W2 sa xs) := ⟨below_apart H1.out.1 hA (fun j hj => by omega), hsl⟩
  obtain ⟨hx1, hx5⟩ := hxl
  have hx6 : xs.length ≤ 6 := by omega
  have hla : 1 ≤ r.laps ∧ r.laps ≤ 4 := ⟨hr.1.1, hrl⟩
  have HK : Hid (checkE xs r = 0) := small_ok ⟨hx1, hx6⟩ hxs hr
  clear hsl hxs hr hD hA hfar H1 hx5 hrl
  go_upto_region 2 with (fail)
  obtain ⟨T, hT⟩ : ∃ T, W2.heap.size = T := ⟨_, rfl⟩
  have H3 : Hid ((Below w.heap.size w (W2.alloc (.cells #[.int .i64 r.laps, .int .i64 r.len.lo, .int .i64 r.len.hi, .int .i64 r.climb.lo, .int .i64 r.climb.hi, .int .i64 r.lap.lo, .int .i64 r.lap.hi, .int .i64 r.wide, .int .i64 r.uses] 26)) ∧ RuAt (W2.alloc (.cells #[.int .i64 r.laps, .int .i64 r.len.lo, .int .i64 r.len.hi, .int .i64 r.climb.lo, .int .i64 r.climb.hi, .int .i64 r.lap.lo, .int .i64 r.lap.hi, .int .i64 r.wide, .int .i64 r.uses] 26)) T r ∧ Sl 3 Lp.cells (W2.alloc (.cells #[.int .i64 r.laps, .int .i64 r.len.lo, .int .i64 r.len.hi, .int .i64 r.climb.lo, .int .i64 r.climb.hi, .int .i64 r.lap.lo, .int .i64 r.lap.hi, .int .i64 r.wide, .int .i64 r.uses] 26)) sa xs ∧ w.heap.size ≤ T) ∧ T < (W2.alloc (.cells #[.int .i64 r.laps, .int .i64 r.len.lo, .int .i64 r.len.hi, .int .i64 r.climb.lo, .int .i64 r.climb.hi, .int .i64 r.lap.lo, .int .i64 r.lap.hi, .int .i64 r.wide, .int .i64 r.uses] 26)).heap.size ∧ (∀ p, sa = some p → p.block < (W2.alloc (.cells #[.int .i64 r.laps, .int .i64 r.len.lo, .int .i64 r.len.hi, .int .i64 r.climb.lo, .int .i64 r.climb.hi, .int .i64 r.lap.lo, .int .i64 r.lap.hi, .int .i64 r.wide, .int .i64 r.uses] 26)).heap.size) ∧ BytesAt (W2.alloc (.cells #[.int .i64 r.laps, .int .i64 r.len.lo, .int .i64 r.len.hi, .int .i64 r.climb.lo, .int .i64 r.climb.hi, .int .i64 r.lap.lo, .int .i64 r.lap.hi, .int .i64 r.wide, .int .i64 r.uses] 26)) a2 n2) := by
    have hb3 := alloc1 W2 (.cells #[.int .i64 r.laps, .int .i64 r.len.lo, .int .i64 r.len.hi, .int .i64 r.climb.lo, .int .i64 r.climb.hi, .int .i64 r.lap.lo, .int .i64 r.lap.hi, .int .i64 r.wide, .int .i64 r.uses] 26)
    have hsl := H2.out.2.below hb3
    have hbb := below_self H2.out.1 hb3
    exact ⟨⟨hbb, by rw [← hT]; exact heap_alloc_new _ _, hsl, by rw [← hT]; exact H2.out.1.size⟩, by rw [← hT]; simp, sl_lt hsl (by omega), HB.out.2.keep hbb.size (fun _ p _ hl => hbb.block _ hl)⟩
  rw [hT]
  clear H2 hT HB
  generalize W2.alloc (.cells #[.int .i64 r.laps, .int .i64 r.len.lo, .int .i64 r.len.hi, .int .i64 r.climb.lo, .int .i64 r.climb.hi, .int .i64 r.lap.lo, .int .i64 r.lap.hi, .int .i64 r.wide, .int .i64 r.uses] 26) = W3 at H3 ⊢
  have hdp : 1 ≤ 1 + z % 200 ∧ 1 + z % 200 ≤ 200 := by omega
  go_wp2_with (fail)
  refine (of_any a2 n2 cap2 W3 H3.out.2.2.2 hn2).mono ?_
  rintro e W4 ⟨rfl, hD, hb⟩
  have H4 : Hid (GI w T W3.heap.size r sa xs none [] a2 n2 cap2 0 W4) := ⟨below_self H3.out.1.1 hb, H3.out.1.2.1.below hb, H3.out.1.2.2.1.below hb, hD, (fun h => absurd h (Nat.lt_irrefl 0)), H3.out.1.2.2.2, H3.out.2.1, by omega, H3.out.2.2.1⟩
  clear hD hb H3
  generalize W3.heap.size = B at H4 ⊢
  go_wp2_with (fail)
  generalize 1 + z % 200 = D at hdp ⊢
  refine (between_any B (B + 1) a2 n2 cap2 0 1 3 W4 H4.out.dk (by omega) (by omega)).mono ?_
  rintro e W5 ⟨⟨pa, rfl, pa0, pa1⟩, hD, hA⟩
  have H5 : Hid (GI w T B r sa xs none [] a2 n2 cap2 (0 + 1) W5) := H4.out.step hA hD
  clear hD hA H4
  go_wp2_with (fail)
  refine (picked_new B (B + 1) a2 n2 cap2 (0 + 1) xs.length pa W5 H5.out.dk (by omega) ⟨by omega, by omega⟩ ⟨by omega, by omega⟩).mono ?_
  rintro e W6 ⟨ga, ca, oa, rfl, la, ia, pwa, ra, fa, hD, hA⟩
  have H6 : Hid (GI w T B r sa xs none [] a2 n2 cap2 (0 + 1 + 6) W6 ∧ RowI W6 ga oa ∧ B < ga) := ⟨H5.out.step hA hD, ra, by have := H5.out.dk.lt; omega⟩
  have HCa : Hid (Crs xs.length oa ∧ oa.length ≤ 3) := ⟨⟨⟨by omega, by omega⟩, ia, pwa⟩, by omega⟩
  clear la ia pwa ra fa hD hA H5 pa0 pa1
  go_wp2_with (fail)
  refine (between_any B (B + 1) a2 n2 cap2 (0 + 1 + 6) 1 3 W6 H6.out.1.dk (by omega) (by omega)).mono ?_
  rintro e W7 ⟨⟨pb, rfl, pb0, pb1⟩, hD, hA⟩
  have H7 : Hid (GI w T B r sa xs none [] a2 n2 cap2 (0 + 1 + 6 + 1) W7 ∧ RowI W7 ga oa ∧ B < ga) := ⟨H6.out.1.step hA hD, H6.out.2.1.apart hA (by have := H6.out.2.2; omega), H6.out.2.2⟩
  clear hD hA H6
  go_wp2_with (fail)
  refine (picked_new B (B + 1) a2 n2 cap2 (0 + 1 + 6 + 1) xs.length pb W7 H7.out.1.dk (by omega) ⟨by omega, by omega⟩ ⟨by omega, by omega⟩).mono ?_
  rintro e W8 ⟨gb, cb, ob, rfl, lb, ib, pwb, rb, fb, hD, hA⟩
  have H8 : Hid (GI w T B r sa xs none [] a2 n2 cap2 14 W8 ∧ RowI W8 ga oa ∧ RowI W8 gb ob ∧ B < ga ∧ B < gb) := ⟨H7.out.1.step hA hD, H7.out.2.1.apart hA (by have := H7.out.2.2; omega), rb, H7.out.2.2, by have := H7.out.1.dk.lt; omega⟩
  have HCb : Hid (Crs xs.length ob ∧ ob.length ≤ 3) := ⟨⟨⟨by omega, by omega⟩, ib, pwb⟩, by omega⟩
  clear lb ib pwb rb fb hD hA H7 pb0 pb1
  have hal : 1 ≤ oa.length ∧ oa.length ≤ 3 := ⟨HCa.out.1.1.1, HCa.out.2⟩
  have hbl : 1 ≤ ob.length ∧ ob.length ≤ 3 := ⟨HCb.out.1.1.1, HCb.out.2⟩
  go_wp2_with (fail)
  refine (cloneOwn_any ga oa ca W8 H8.out.2.1 (by omega)).mono ?_
  rintro e X1 ⟨v1, rfl, hown, hb⟩
  obtain ⟨g1, c1, rfl, _, hg1, _⟩ := row_of_owns hown (by omega)
  have K1 : Hid (X1.ownsRow W8.heap.size 3 1 (.slice (some ⟨g1, 0, none⟩) oa.length c1) oa.length (oa.map (Value.int .i64)) ∧ Below W8.heap.size W8 X1 ∧ W8.heap.size ≤ g1 ∧ RowI X1 gb ob) := ⟨hown, hb, hg1, H8.out.2.2.1.below hb⟩
  clear hown hb hg1
  go_wp2_with (at_builtin; refine wpList_append_own_at _ rfl _ _ 27 rfl W8.heap.size 3 i0 (.int .i64 0) 1 8 Tryz.underlying27 hi hz0 hz1 hz2 rfl (by decide) (.slice (some ⟨g1, 0, none⟩) oa.length c1) oa.length (oa.map (Value.int .i64)) rfl K1.out.1 ⟨gb, 0, none⟩ ob.length cb (ob.map (Value.int .i64)) rfl ?c0 ?c1 ?c2 ?c3 ?c4 ?c5 ?_)
  case c0 => rw [List.length_map, Nat.mul_one]
  case c1 => exact K1.out.2.2.2.at'
  case c2 => intro u hu; obtain ⟨x, _, rfl⟩ := List.mem_map.1 hu; rfl
  case c3 => unfold maxLen; omega
  case c4 => omega
  case c5 => exact K1.out.2.1.size
  intro v2 X2 hown2 hgrow2 _ _
  rw [← List.map_append] at hown2
  obtain ⟨gz, cz, rfl, rz, fz, lz⟩ := row_of_owns hown2 (by omega)
  have hb2 : Below W8.heap.size W8 X2 := K1.out.2.1.grown hgrow2 K1.out.2.1.size (fun j hj => by simp [Value.ownBlock] at hj; have := K1.out.2.2.1; omega)
  obtain ⟨z0, hz0e⟩ : ∃ z0, oa ++ ob = z0 := ⟨_, rfl⟩
  rw [hz0e] at rz lz
  have K2 : Hid (RowI X2 gz z0 ∧ W8.heap.size ≤ gz ∧ Below W8.heap.size W8 X2 ∧ oa ++ ob = z0) := ⟨rz, fz, hb2, hz0e⟩
  rw [← lz]
  have hzl : 1 ≤ z0.length ∧ z0.length ≤ 6 := by omega
  clear hown2 hgrow2 rz fz hb2 lz hz0e K1
  go_wp2_with (fail)
  refine (sortR_any gz z0 cz X2 K2.out.1 hzl).mono ?_
  rintro e X3 ⟨⟨vv1, rfl⟩, oz, hpm, hpw, rz, hap⟩
  have H9 : Hid (GI w T B r sa xs none [] a2 n2 cap2 14 X3 ∧ RowI X3 ga oa ∧ RowI X3 gb ob ∧ RowI X3 gz oz ∧ B < ga ∧ B < gb ∧ B < gz ∧ oz.Perm (oa ++ ob)) := by
    have hb := Below.sorted K2.out.2.2.1 hap K2.out.2.1
    exact ⟨H8.out.1.below hb, H8.out.2.1.below hb, H8.out.2.2.1.below hb, rz, H8.out.2.2.2.1, H8.out.2.2.2.2, by have := K2.out.2.1; have := H8.out.1.dk.lt; omega, by rw [K2.out.2.2.2]; exact hpm⟩
  have hle : oz.length = z0.length := hpm.length_eq
  rw [← hle]
  have HCz : Hid (Crs xs.length oz) := by
    refine ⟨by omega, fun i hi => ?_, hpw⟩
    have h1 := hpm.mem_iff.1 hi
    rw [← K2.out.2.2.2] at h1
    rcases List.mem_append.1 h1 with h | h
    · exact HCa.out.1.2.1 i h
    · exact HCb.out.1.2.1 i h
  clear hpm hpw rz hap K2 H8 hle hzl
  go_wp2_with (fail)
  refine (cloneOwn_any ga oa ca X3 H9.out.2.1 (by omega)).mono ?_
  rintro e Y1 ⟨v3, rfl, hown, hb⟩
  obtain ⟨g3, c3, rfl, _, hg3, _⟩ := row_of_owns hown (by omega)
  have J1 : Hid (GI w T B r sa xs none [] a2 n2 cap2 14 Y1 ∧ RowI Y1 ga oa ∧ RowI Y1 gb ob ∧ RowI Y1 gz oz) := ⟨H9.out.1.below hb, H9.out.2.1.below hb, H9.out.2.2.1.below hb, H9.out.2.2.2.1.below hb⟩
  have HO1 : Hid (Y1.ownsRow X3.heap.size 3 1 (.slice (some ⟨g3, 0, none⟩) oa.length c3) oa.length (oa.map (Value.int .i64)) ∧ X3.heap.size ≤ g3 ∧ X3.heap.size ≤ Y1.heap.size) := ⟨hown, hg3, hb.size⟩
  clear hown hb hg3
  go_wp2_with (fail)
  refine (draw_any B (B + 1) a2 n2 cap2 14 oa.length Y1 J1.out.1.dk (by omega) (by omega)).mono ?_
  rintro e Y2 ⟨⟨i, rfl, i00, i01⟩, hD, hA⟩
  have hBX : B < X3.heap.size := by have := H9.out.1.dk.lt; omega
  have J2 : Hid (GI w T B r sa xs none [] a2 n2 cap2 15 Y2 ∧ RowI Y2 ga oa ∧ RowI Y2 gb ob ∧ RowI Y2 gz oz) := ⟨J1.out.1.step hA hD, J1.out.2.1.apart hA (by have := H9.out.2.2.2.2.1; omega), J1.out.2.2.1.apart hA (by have := H9.out.2.2.2.2.2.1; omega), J1.out.2.2.2.apart hA (by have := H9.out.2.2.2.2.2.2.1; omega)⟩
  have HO2 : Hid (Y2.ownsRow X3.heap.size 3 1 (.slice (some ⟨g3, 0, none⟩) oa.length c3) oa.length (oa.map (Value.int .i64)) ∧ X3.heap.size ≤ g3 ∧ X3.heap.size ≤ Y2.heap.size) := ⟨owns_same HO1.out.1 (fun k hk hks => hA.block k hks (by omega)), HO1.out.2.1, Nat.le_trans HO1.out.2.2 hA.size⟩
  clear hD hA J1 HO1
  obtain ⟨i, rfl⟩ := Int.eq_ofNat_of_zero_le i00
  have hil : i < oa.length := by omega
  have ci := J2.out.2.1.cell hil
  have HIm := Lib.hid (atI_mem hil)
  generalize atI oa i = xi at ci HIm
  clear i00 i01
  go_wp2_with (at_builtin; refine wpList_append_own _ rfl _ _ 27 rfl X3.heap.size 3 i0 (.int .i64 0) 1 8 Tryz.underlying27 hi hz0 hz1 hz2 rfl (by decide) _ _ _ rfl (HO2.out.1.alloc _) ⟨Y2.heap.size, 0, none⟩ 1 1 [.int .i64 xi] rfl rfl ?c1 ?c2 ?c3 ?c4 ?c5 ?_)
  case c1 => exact cell_one_new _ _ _
  case c2 => intro u hu; simp at hu; subst hu; rfl
  case c3 => unfold maxLen; omega
  case c4 => omega
  case c5 => have := HO2.out.2.2; simp; omega
  intro v4 Y3 hown4 hgrow4 _
  rw [show oa.map (Value.int .i64) ++ [Value.int .i64 xi] = (oa ++ [xi]).map (Value.int .i64) by simp] at hown4
  obtain ⟨gm, cm, rfl, rm, fm, lm⟩ := row_of_owns hown4 (by omega)
  have hap3 : Apart (fun j => X3.heap.size ≤ j) Y2 Y3 := by
    have hs := hgrow4.size
    refine ⟨hgrow4.os, hgrow4.tape, hgrow4.output, by simp at hs; omega, fun j hj hn => ?_⟩
    exact (hgrow4.block j (by simp; omega) (fun e => hn (by simp [Value.ownBlock] at e; have := HO2.out.2.1; omega))).trans (Below.heap_alloc _ _ _ hj)
  obtain ⟨m0, hm0e⟩ : ∃ m0, oa ++ [xi] = m0 := ⟨_, rfl⟩
  rw [hm0e] at rm lm
  have J3 : Hid (GI w T B r sa xs none [] a2 n2 cap2 15 Y3 ∧ RowI Y3 ga oa ∧ RowI Y3 gb ob ∧ RowI Y3 gz oz ∧ RowI Y3 gm m0 ∧ X3.heap.size ≤ gm ∧ oa ++ [xi] = m0) := ⟨J2.out.1.high hBX hap3, J2.out.2.1.apart hap3 (by have := H9.out.2.1.lt; omega), J2.out.2.2.1.apart hap3 (by have := H9.out.2.2.1.lt; omega), J2.out.2.2.2.apart hap3 (by have := H9.out.2.2.2.1.lt; omega), rm, fm, hm0e⟩
  rw [← lm]
  have hml : 1 ≤ m0.length ∧ m0.length ≤ 6 := by omega
  clear hown4 hgrow4 rm fm lm hm0e hap3 HO2 J2 ci hil
  go_wp2_with (fail)
  refine (sortR_any gm m0 cm Y3 J3.out.2.2.2.2.1 hml).mono ?_
  rintro e Y4 ⟨⟨vv2, rfl⟩, om, hpm, hpw, rm, hap⟩
  have J4 : Hid (GI w T B r sa xs none [] a2 n2 cap2 15 Y4 ∧ RowI Y4 ga oa ∧ RowI Y4 gb ob ∧ RowI Y4 gz oz ∧ RowI Y4 gm om) := by
    have hh : Apart (fun j => X3.heap.size ≤ j) Y3 Y4 := hap.more (fun j hj => by have := J3.out.2.2.2.2.2.1; omega)
    exact ⟨J3.out.1.high hBX hh, J3.out.2.1.apart hh (by have := H9.out.2.1.lt; omega), J3.out.2.2.1.apart hh (by have := H9.out.2.2.1.lt; omega), J3.out.2.2.2.1.apart hh (by have := H9.out.2.2.2.1.lt; omega), rm⟩
  have hle : om.length = m0.length := hpm.length_eq
  rw [← hle]
  have hpm2 : om.Perm (oa ++ [xi]) := by rw [J3.out.2.2.2.2.2.2]; exact hpm
  have HCm : Hid (Crs xs.length om) := by
    refine ⟨by omega, fun i hi => ?_, hpw⟩
    rcases List.mem_append.1 (hpm2.mem_iff.1 hi) with h | h
    · exact HCa.out.1.2.1 i h
    · rw [List.mem_singleton.1 h]; exact HCa.out.1.2.1 _ HIm.out
  have HAF := Lib.hid (area_facts (check_ok HK.out).1 (by omega) HCa.out.1.2.1 H9.out.2.2.2.2.2.2.2 HIm.out hpm2)
  clear hpm hpw rm hap hle hpm2 J3 H9 hml hBX HIm
  have HCA : Hid (∀ W g (c : List Int) cc, Crs xs.length c → Sl 3 Lp.cells W sa xs → RowI W g c → Calls Tryz.prog 14 #[.slice sa xs.length sc, .slice (some ⟨g, 0, none⟩) c.length cc] W (Out2 W (areaL xs c, 0))) := fun W g c cc hc hW hr => by
    have h := Area_any sa xs sc (some ⟨g, 0, none⟩) c cc W hW hr.ints (by omega) (by have := hc.1.2; omega)
    rw [area_of (check_ok HK.out).1 hc.1 hc.2.1 hc.2.2] at h; exact h
  have HCS : Hid (∀ W ga' (c : List Int) cc, Crs xs.length c → Sl 3 Lp.cells W sa xs → IntSl W ga' c → Calls Tryz.prog 16 #[.slice sa xs.length sc, .slice ga' c.length cc, .int .i64 D] W (Out2 W (snowL xs c D, 0))) := fun W g c cc hc hW hr => by
    have h := Snow_any sa xs sc g c cc D W hW hr (by omega) (by have := hc.1.2; omega)
    rw [snow_of (check_ok HK.out).1 hc.1 hc.2.1 hc.2.2 hdp] at h; exact h
  have haf := HAF.out
  have hsb := snow_between (x := areaL xs oa) (depth := D) (by omega)
  have hsn : snowL xs oa D = (areaL xs oa * D + 99) / 100 := rfl
  have hm1 : 1 * 1 ≤ areaL xs oa * D := Int.mul_le_mul haf.1 hdp.1 (by omega) (by omega)
  have hm2 : areaL xs oa * D ≤ 4800000 * 200 := Int.mul_le_mul haf.2.2.2.2.2.1 hdp.2 (by omega) (by omega)
  have HW : Hid (∀ W g cc, Sl 3 Lp.cells W sa xs → RowI W g om → Calls Tryz.prog 14 #[.slice sa xs.length sc, .slice (some ⟨g, 0, none⟩) om.length cc] W (Out2 W (areaL xs oa, 0))) := fun W g cc hW hr => by
    have h := HCA.out W g om cc HCm.out hW hr
    rw [haf.2.1] at h; exact h
  rw [← hsn] at hsb
  have HX1 := Lib.hid (HCA.out · ga oa ca HCa.out.1)
  have HX2 := Lib.hid (HCA.out · gb ob cb HCb.out.1)
  have HX3 := Lib.hid (HCA.out · gz oz cz HCz.out)
  have HX5 := Lib.hid (HCS.out · (some ⟨ga, 0, none⟩) oa ca HCa.out.1)
  have hax : 1 ≤ areaL xs oa ∧ areaL xs oz ≤ areaL xs oa + areaL xs ob ∧ areaL xs oa ≤ areaL xs oz ∧ areaL xs ob ≤ areaL xs oz ∧ areaL xs oa ≤ 4800000 ∧ areaL xs ob ≤ 4800000 ∧ 0 ≤ areaL xs ob := by omega
  clear haf hsn HAF HCA
  generalize snowL xs oa D = SN at hsb HX5
  have hwt : IntKind.i64.wrap (areaL xs oa * D) = areaL xs oa * D := IntWalk.i64_in _ (by omega)
  generalize areaL xs oa = AX at *
  generalize areaL xs ob = AY at *
  generalize areaL xs oz = AZ at *
  have hws : IntKind.i64.wrap (100 * SN) = 100 * SN := IntWalk.i64_in _ (by omega)
  have hws1 : IntKind.i64.wrap (SN - 1) = SN - 1 := IntWalk.i64_in _ (by omega)
  have hws2 : IntKind.i64.wrap (100 * (SN - 1)) = 100 * (SN - 1) := IntWalk.i64_in _ (by omega)
  have hwa : IntKind.i64.wrap (AX + AY) = AX + AY := IntWalk.i64_in _ (by omega)
  go_wp2_with (fail)
  refine (HX1.out Y4 J4.out.1.sl J4.out.2.1).mono ?_
  rintro e U1 ⟨rfl, hb⟩
  have M1 : Hid (GI w T B r sa xs none [] a2 n2 cap2 15 U1 ∧ RowI U1 ga oa ∧ RowI U1 gb ob ∧ RowI U1 gz oz ∧ RowI U1 gm om) := ⟨J4.out.1.below hb, J4.out.2.1.below hb, J4.out.2.2.1.below hb, J4.out.2.2.2.1.below hb, J4.out.2.2.2.2.below hb⟩
  clear hb J4 HX1
  go_wp2_with (fail)
  refine (HX2.out U1 M1.out.1.sl M1.out.2.2.1).mono ?_
  rintro e U2 ⟨rfl, hb⟩
  have M2 : Hid (GI w T B r sa xs none [] a2 n2 cap2 15 U2 ∧ RowI U2 ga oa ∧ RowI U2 gb ob ∧ RowI U2 gz oz ∧ RowI U2 gm om) := ⟨M1.out.1.below hb, M1.out.2.1.below hb, M1.out.2.2.1.below hb, M1.out.2.2.2.1.below hb, M1.out.2.2.2.2.below hb⟩
  clear hb M1 HX2
  go_wp2_with (fail)
  refine (HX3.out U2 M2.out.1.sl M2.out.2.2.2.1).mono ?_
  rintro e U3 ⟨rfl, hb⟩
  have M3 : Hid (GI w T B r sa xs none [] a2 n2 cap2 15 U3 ∧ RowI U3 ga oa ∧ RowI U3 gb ob ∧ RowI U3 gz oz ∧ RowI U3 gm om) := ⟨M2.out.1.below hb, M2.out.2.1.below hb, M2.out.2.2.1.below hb, M2.out.2.2.2.1.below hb, M2.out.2.2.2.2.below hb⟩
  clear hb M2 HX3
  go_wp2_with (fail)
  refine (HW.out U3 gm cm M3.out.1.sl M3.out.2.2.2.2).mono ?_
  rintro e U4 ⟨rfl, hb⟩
  have M4 : Hid (GI w T B r sa xs none [] a2 n2 cap2 15 U4 ∧ RowI U4 ga oa ∧ RowI U4 gb ob ∧ RowI U4 gz oz ∧ RowI U4 gm om) := ⟨M3.out.1.below hb, M3.out.2.1.below hb, M3.out.2.2.1.below hb, M3.out.2.2.2.1.below hb, M3.out.2.2.2.2.below hb⟩
  clear hb M3 HW
  go_wp2_with (fail)
  refine (HX5.out U4 M4.out.1.sl M4.out.2.1.ints).mono ?_
  rintro e U5 ⟨rfl, hb⟩
  have M5 : Hid (GI w T B r sa xs none [] a2 n2 cap2 15 U5) := M4.out.1.below hb
  clear hb M4 HX5
  go_upto_region 14 with (fail)
  go_cut [167] (fun s wx => s = .bool false ∧ wx = U5)
  case first =>
    go_wp2_with (fail)
    all_goals go_meet
    all_goals refine ⟨?_, rfl⟩
    all_goals congr 1
    all_goals simp only [Bool.or_eq_false_iff, decide_eq_false_iff_not]
    all_goals omega
  case rest =>
    obtain ⟨rfl, rfl⟩ := hcut
    obtain ⟨U5, rfl⟩ : ∃ W : World, W = wc := ⟨_, rfl⟩
    clear hsb hwt hws hws1 hws2 hwa hax hm1 hm2 hi hz0 hz1 hz2
    have hrs := right_small xs r hx6 (by omega)
    have hall : allR xs r = (rightL xs r, 0) := by rw [allR, if_pos HK.out, if_pos hrs, if_pos hrs]
    have HRL : Hid ((rightL xs r).length ≤ 300 ∧ ∀ c ∈ rightL xs r, Crs xs.length c) := by
      refine ⟨hrs, fun c hc => ?_⟩
      obtain ⟨h1, h2, h3⟩ := (ext_mem xs.length r.laps.toNat c).1 (List.mem_filter.1 hc).1
      exact ⟨by omega, h2, h3⟩
    have HC1 : Hid (∀ W, Sl 3 Lp.cells W sa xs → Calls Tryz.prog 50 #[.slice sa xs.length sc, r.v] W (OutCsF W (rightL xs r) 0)) := fun W hW => by
      have h := all_far sa xs sc r W hW (by omega)
      unfold AllOutF at h; rw [hall] at h; exact h
    have HC2 : Hid (∀ W, Sl 3 Lp.cells W sa xs → Calls Tryz.prog 21 #[.slice sa xs.length sc, r.v, .int .i64 D] W (OutC3F W (cheapR xs r D))) := fun W hW => cheapest_far sa xs sc r D W hW (by omega)
    have HC3 : Hid (∀ v, 0 ≤ v → v ≤ 10000000 → ∀ W, Sl 3 Lp.cells W sa xs → Calls Tryz.prog 18 #[.slice sa xs.length sc, r.v, .int .i64 D, .int .i64 v] W (OutCsF W (covL xs r D v) 0)) := fun v h0 h1 W hW => by
      have h := Covered_far sa xs sc r D v W hW (by omega)
      rw [cov_ok HK.out hx6 hla.2 hdp ⟨h0, h1⟩] at h; exact h
    have HCV : Hid ((∀ v, ∀ c ∈ covL xs r D v, c ∈ rightL xs r ∧ snowL xs c D ≤ v) ∧ ∀ v v', v ≤ v' → (covL xs r D v).length ≤ (covL xs r D v').length ∧ (covL xs r D v').length ≤ (rightL xs r).length) :=
      ⟨fun v c hc => ⟨(List.mem_filter.1 hc).1, of_decide_eq_true (List.mem_filter.1 hc).2⟩, fun v v' h => cov_mono xs r D h⟩
    have HC4 : Hid (∀ (f : List Int) m fa fc, snowR xs f D = (m, 0) → f.length ≤ 6 → ∀ W, Sl 3 Lp.cells W sa xs → IntSl W fa f → Calls Tryz.prog 16 #[.slice sa xs.length sc, .slice fa f.length fc, .int .i64 D] W (Out2 W (m, 0))) := fun f m fa fc hs hl W hW hi => by
      have h := Snow_any sa xs sc fa f fc D W hW hi (by omega) (by omega)
      rw [hs] at h; exact h
    have HCF := Lib.hid (cheap_facts HK.out hdp)
    clear hrs hall
    generalize rightL xs r = R at HRL HC1 HCV HCF
    generalize covL xs r D = cov at HC3 HCV HCF
    generalize cheapR xs r D = chp at HC2 HCF
    have hR3 : R.length ≤ 300 := HRL.out.1
    have c0 := blk_cell M5.out.t 0 rfl
    have c1 := blk_cell M5.out.t 1 rfl
    have c2 := blk_cell M5.out.t 2 rfl
    have c3 := blk_cell M5.out.t 3 rfl
    have c4 := blk_cell M5.out.t 4 rfl
    have c5 := blk_cell M5.out.t 5 rfl
    have c6 := blk_cell M5.out.t 6 rfl
    have c7 := blk_cell M5.out.t 7 rfl
    have c8 := blk_cell M5.out.t 8 rfl
    go_wp2_with (fail)
    clear c0 c1 c2 c3 c4 c5 c6 c7 c8
    refine (HC1.out U5 M5.out.sl).mono ?_
    rintro e U6 ⟨la, lcap, rfl, h1, hb⟩
    have M6 : Hid (GI w T B r sa xs la R a2 n2 cap2 15 U6) := by
      have h := M5.out.below hb
      exact ⟨h.b, h.t, h.sl, h.dk, h1.less (by have := M5.out.dk.lt; omega), h.hT, h.hB, h.pos, h.fs⟩
    clear h1 hb M5 HC1
    rcases HCF.out with ⟨hR0, hch⟩ | ⟨hR0, f, m, hch, hsf, hm0, hm1, hct, hcn, hfl⟩
    · have HC2' : Hid (∀ W, Sl 3 Lp.cells W sa xs → Calls Tryz.prog 21 #[.slice sa xs.length sc, r.v, .int .i64 D] W (OutC3F W ([], 0, 6))) := fun W hW => by have h := HC2.out W hW; rw [hch] at h; exact h
      have hRl : ¬ (0 : Int) < (R.length : Int) := by rw [hR0]; simp
      have HR0 := Lib.hid hR0
      clear hR0 hch HC2 HCF HC4
      have c0 := blk_cell M6.out.t 0 rfl
      have c1 := blk_cell M6.out.t 1 rfl
      have c2 := blk_cell M6.out.t 2 rfl
      have c3 := blk_cell M6.out.t 3 rfl
      have c4 := blk_cell M6.out.t 4 rfl
      have c5 := blk_cell M6.out.t 5 rfl
      have c6 := blk_cell M6.out.t 6 rfl
      have c7 := blk_cell M6.out.t 7 rfl
      have c8 := blk_cell M6.out.t 8 rfl
      go_wp2_with (fail)
      clear c0 c1 c2 c3 c4 c5 c6 c7 c8
      refine (HC2'.out U6 M6.out.sl).mono ?_
      rintro e U7 ⟨cA, ccap, rfl, hci, hb, hfar⟩
      have M7 : Hid (GI w T B r sa xs la R a2 n2 cap2 15 U7 ∧ IntSl U7 cA ([] : List Int) ∧ ∀ p, cA = some p → B < p.block) := ⟨M6.out.below hb, hci, fun p hp => by have := hfar p hp; have := M6.out.dk.lt; omega⟩
      clear hci hb hfar M6 HC2'
      go_wp2_with (fail)
      refine (draw_any B (B + 1) a2 n2 cap2 15 100000 U7 M7.out.1.dk (by omega) (by omega)).mono ?_
      rintro e U8 ⟨⟨vo, rfl, v0, v1⟩, hD, hA⟩
      have M8 : Hid (GI w T B r sa xs la R a2 n2 cap2 16 U8 ∧ IntSl U8 cA ([] : List Int) ∧ ∀ p, cA = some p → B < p.block) := ⟨M7.out.1.step hA hD, ints_same M7.out.2.1 hA.size (fun p hp hl => hA.block _ hl (by have := M7.out.2.2 p hp; omega)), M7.out.2.2⟩
      have hvo : 0 ≤ vo ∧ vo ≤ 100000 := by omega
      clear hD hA M7 v0 v1
      have c0 := blk_cell M8.out.1.t 0 rfl
      have c1 := blk_cell M8.out.1.t 1 rfl
      have c2 := blk_cell M8.out.1.t 2 rfl
      have c3 := blk_cell M8.out.1.t 3 rfl
      have c4 := blk_cell M8.out.1.t 4 rfl
      have c5 := blk_cell M8.out.1.t 5 rfl
      have c6 := blk_cell M8.out.1.t 6 rfl
      have c7 := blk_cell M8.out.1.t 7 rfl
      have c8 := blk_cell M8.out.1.t 8 rfl
      go_wp2_with (fail)
      clear c0 c1 c2 c3 c4 c5 c6 c7 c8
      refine (HC3.out vo (by omega) (by omega) U8 M8.out.1.sl).mono ?_
      rintro e U9 ⟨l1, l1cap, rfl, hl1, hb⟩
      have M9 : Hid (GI w T B r sa xs la R a2 n2 cap2 16 U9 ∧ IntSl U9 cA ([] : List Int) ∧ (∀ p, cA = some p → B < p.block) ∧ SlsF (B + 1) U9 l1 (cov vo)) := ⟨M8.out.1.below hb, M8.out.2.1.below hb, M8.out.2.2, hl1.less (by have := M8.out.1.dk.lt; omega)⟩
      clear hl1 hb M8
      obtain ⟨c0, c1, c2, c3, c4, c5, c6, c7, c8⟩ := M9.out.1.t.cells
      go_upto_region 22 with (fail)
      refine wp_region_split (S := fun w' => w'.cell? ⟨T, 0, none⟩ = some (.int .i64 r.laps) ∧ w'.cell? ⟨T, 1, none⟩ = some (.int .i64 r.len.lo) ∧ w'.cell? ⟨T, 2, none⟩ = some (.int .i64 r.len.hi) ∧ w'.cell? ⟨T, 3, none⟩ = some (.int .i64 r.climb.lo) ∧ w'.cell? ⟨T, 4, none⟩ = some (.int .i64 r.climb.hi) ∧ w'.cell? ⟨T, 5, none⟩ = some (.int .i64 r.lap.lo) ∧ w'.cell? ⟨T, 6, none⟩ = some (.int .i64 r.lap.hi) ∧ w'.cell? ⟨T, 7, none⟩ = some (.int .i64 r.wide) ∧ w'.cell? ⟨T, 8, none⟩ = some (.int .i64 r.uses)) [12] 12 (by kernel_rfl) (by kernel_rfl) rfl ?_
      have S0 : Hid (GI w T B r sa xs la R a2 n2 cap2 16 U9.drew ∧ IntSl U9.drew cA ([] : List Int) ∧ (∀ p, cA = some p → B < p.block) ∧ SlsF (B + 1) U9.drew l1 (cov vo)) := by
        have hd := (Below.refl U9.heap.size U9).drew
        exact ⟨M9.out.1.below hd, M9.out.2.1.below hd, M9.out.2.2.1, M9.out.2.2.2.below hd⟩
      clear M9 c0 c1 c2 c3 c4 c5 c6 c7 c8
      generalize U9.drew = X0 at S0 ⊢
      rw [show firstL _ [12] = #[false, false, false, false, false, false, false, false, false, false, false, false, true] from by kernel_rfl]
      refine wpAnyH_take (i := 0) (v := .slice sa xs.length sc) rfl (by kernel_rfl) (by kernel_rfl) (by kernel_rfl) (fun _ _ _ h => h) (Or.inl ⟨by rfl, by (intro W hSw; clear hSw; go_simp)⟩) S0.out.1.t.cells ?_
      simp only [Act.put, List.getElem_toArray, List.getElem_cons_zero, List.setIfInBounds_toArray, List.set_cons_zero, List.set_cons_succ]
      refine wpAnyH_take (i := 1) (v := r.v) rfl (by kernel_rfl) (by kernel_rfl) (by kernel_rfl) (fun _ _ _ h => h) (Or.inl ⟨by rfl, by (intro W hSw; obtain ⟨d0, d1, d2, d3, d4, d5, d6, d7, d8⟩ := hSw; go_simp)⟩) S0.out.1.t.cells ?_
      simp only [Act.put, List.getElem_toArray, List.getElem_cons_succ, List.getElem_cons_zero, List.setIfInBounds_toArray, List.set_cons_zero, List.set_cons_succ]
      refine wpAnyH_take (i := 2) (v := .int .i64 D) rfl (by kernel_rfl) (by kernel_rfl) (by kernel_rfl) (fun _ _ _ h => h) (Or.inl ⟨by rfl, by (intro W hSw; clear hSw; go_simp)⟩) S0.out.1.t.cells ?_
      simp only [Act.put, List.getElem_toArray, List.getElem_cons_succ, List.getElem_cons_zero, List.setIfInBounds_toArray, List.set_cons_zero, List.set_cons_succ]
      refine wpAnyH_take (i := 3) (v := .int .i64 vo) rfl (by kernel_rfl) (by kernel_rfl) (by kernel_rfl) (fun _ _ _ h => h) (Or.inl ⟨by rfl, by (intro W hSw; clear hSw; go_simp)⟩) S0.out.1.t.cells ?_
      simp only [Act.put, List.getElem_toArray, List.getElem_cons_succ, List.getElem_cons_zero, List.setIfInBounds_toArray, List.set_cons_zero, List.set_cons_succ]
      refine wpAnyH_take (i := 4) (v := .pointer (some ⟨B, 0, none⟩)) rfl (by kernel_rfl) (by kernel_rfl) (by kernel_rfl) (fun _ _ _ h => h) (Or.inl ⟨by rfl, by (intro W hSw; clear hSw; go_simp)⟩) S0.out.1.t.cells ?_
      simp only [Act.put, List.getElem_toArray, List.getElem_cons_succ, List.getElem_cons_zero, List.setIfInBounds_toArray, List.set_cons_zero, List.set_cons_succ]
      refine wpAnyH_ready (rs := [5]) (by kernel_rfl) (by simp) ?_
      refine AllReadyH.cons (o := _) rfl (fun K hK => ?_) AllReadyH.nil
      go_simp
      go_at_call 59
      refine (draw_any B (B + 1) a2 n2 cap2 16 50000 X0 S0.out.1.dk (by omega) (by omega)).mono ?_
      rintro e X1 ⟨⟨yo, rfl, y0, y1⟩, hD, hA⟩
      have S1 : Hid (GI w T B r sa xs la R a2 n2 cap2 17 X1 ∧ IntSl X1 cA ([] : List Int) ∧ (∀ p, cA = some p → B < p.block) ∧ SlsF (B + 1) X1 l1 (cov vo)) := ⟨S0.out.1.step hA hD, ints_same S0.out.2.1 hA.size (fun p hp hl => hA.block _ hl (by have := S0.out.2.2.1 p hp; omega)), S0.out.2.2.1, S0.out.2.2.2.apart hA (fun j hj => by omega)⟩
      have hyo : 0 ≤ yo ∧ yo ≤ 50000 := by omega
      have hwy : IntKind.i64.wrap (vo + yo) = vo + yo := IntWalk.i64_in _ (by omega)
      clear y0 y1 hD hA
      refine hK.out _ _ S1.out.1.t.cells (fun _ => ?_)
      clear hK
      simp only [List.setIfInBounds_toArray, List.set_cons_zero, List.set_cons_succ]
      refine wpAnyH_take (i := 6) (v := .int .i64 (vo + yo)) rfl (by kernel_rfl) (by kernel_rfl) (by kernel_rfl) (fun _ _ _ h => h) (Or.inl ⟨by rfl, by (intro W hSw; clear hSw; go_simp)⟩) S1.out.1.t.cells ?_
      simp only [Act.put, List.getElem_toArray, List.getElem_cons_succ, List.getElem_cons_zero, List.setIfInBounds_toArray, List.set_cons_zero, List.set_cons_succ]
      refine wpAnyH_ready (rs := [7]) (by kernel_rfl) (by simp) ?_
      refine AllReadyH.cons (o := _) rfl (fun K hK => ?_) AllReadyH.nil
      go_simp
      go_at_call 18
      refine (HC3.out (vo + yo) (by omega) (by omega) X1 S1.out.1.sl).mono ?_
      rintro e X2 ⟨l2, l2c, rfl, _, hb⟩
      have Q2 : Hid (GI w T B r sa xs la R a2 n2 cap2 17 X2 ∧ IntSl X2 cA ([] : List Int) ∧ (∀ p, cA = some p → B < p.block) ∧ SlsF (B + 1) X2 l1 (cov vo)) := ⟨S1.out.1.below hb, S1.out.2.1.below hb, S1.out.2.2.1, S1.out.2.2.2.below hb⟩
      clear hb
      refine hK.out _ _ Q2.out.1.t.cells (fun _ => ?_)
      clear hK
      simp only [List.setIfInBounds_toArray, List.set_cons_zero, List.set_cons_succ]
      refine wpAnyH_take (i := 8) (v := .tuple #[.slice l2 (cov (vo + yo)).length l2c, .int .i64 0]) rfl (by kernel_rfl) (by kernel_rfl) (by kernel_rfl) (fun _ _ _ h => h) (Or.inl ⟨by rfl, by (intro W hSw; clear hSw; go_simp)⟩) Q2.out.1.t.cells ?_
      simp only [Act.put, List.getElem_toArray, List.getElem_cons_succ, List.getElem_cons_zero, List.setIfInBounds_toArray, List.set_cons_zero, List.set_cons_succ]
      refine wpAnyH_take (i := 9) (v := .slice l2 (cov (vo + yo)).length l2c) rfl (by kernel_rfl) (by kernel_rfl) (by kernel_rfl) (fun _ _ _ h => h) (Or.inl ⟨by rfl, by (intro W hSw; clear hSw; go_simp)⟩) Q2.out.1.t.cells ?_
      simp only [Act.put, List.getElem_toArray, List.getElem_cons_succ, List.getElem_cons_zero, List.setIfInBounds_toArray, List.set_cons_zero, List.set_cons_succ]
      refine wpAnyH_take (i := 10) (v := .int .i64 0) rfl (by kernel_rfl) (by kernel_rfl) (by kernel_rfl) (fun _ _ _ h => h) (Or.inl ⟨by rfl, by (intro W hSw; clear hSw; go_simp)⟩) Q2.out.1.t.cells ?_
      simp only [Act.put, List.getElem_toArray, List.getElem_cons_succ, List.getElem_cons_zero, List.setIfInBounds_toArray, List.set_cons_zero, List.set_cons_succ]
      refine wpAnyH_take (i := 11) (v := .slice l2 (cov (vo + yo)).length l2c) rfl (by kernel_rfl) (by kernel_rfl) (by kernel_rfl) (fun _ _ _ h => h) (Or.inl ⟨by rfl, by (intro W hSw; clear hSw; go_simp)⟩) Q2.out.1.t.cells ?_
      simp only [Act.put, List.getElem_toArray, List.getElem_cons_succ, List.getElem_cons_zero, List.setIfInBounds_toArray, List.set_cons_zero, List.set_cons_succ]
      refine wpAnyH_done (by kernel_rfl) ?_ _
      show wpList _ _ _ (opsAt _ [12]) _ _
      simp only [opsAt, List.filterMap_cons, List.filterMap_nil, List.getElem?_toArray, List.getElem?_cons_succ, List.getElem?_cons_zero]
      have HLN := Lib.hid (HCV.out.2 vo (vo + yo) (by omega))
      clear S0 S1 hwy
      generalize cov (vo + yo) = L2 at HLN ⊢
      clear hyo
      obtain ⟨V0, rfl⟩ : ∃ W : World, W = X2 := ⟨_, rfl⟩
      have HL1 := Lib.hid (HCV.out.1 vo)
      have hln := HLN.out
      have hR0 : R.length = 0 := by rw [HR0.out]; rfl
      have hL20 : L2.length = 0 := by omega
      have HL20 := Lib.hid hL20
      clear hR0 hL20
      generalize cov vo = L1 at HL1 Q2 hln ⊢
      clear HLN
      have HL10 : Hid (L1.length = 0) := by have := HL20.out; show _ = _; omega
      have hbb3 : L1.length ≤ 300 := by omega
      go_wp2_with (fail)
      have hbb1 : decide (L2.length < L1.length) = false := decide_eq_false (by omega)
      have hbb2 : decide (R.length < L2.length) = false := decide_eq_false (by omega)
      simp only [hbb1]
      clear hbb1 hbb2 hln
      go_loopw [243] (fun i W => ∃ (k : Nat), k ≤ L1.length ∧ i = .int .i64 k ∧ Hid (Below V0.heap.size V0 W)) (fun i _ => L1.length - (intOf i).toNat)
      case atStart => exact ⟨0, Nat.zero_le _, rfl, Below.refl _ _⟩
      case round =>
        obtain ⟨k, hk, rfl, hX⟩ := hrel
        obtain ⟨V, hV⟩ : ∃ V, V = wr := ⟨_, rfl⟩
        subst hV
        by_cases hlk : k < L1.length
        · exact absurd hlk (by have := HL10.out; omega)
        · have HN : Hid (GI w T B r sa xs la R a2 n2 cap2 17 V ∧ IntSl V cA ([] : List Int)) := ⟨Q2.out.1.below hX.out, Q2.out.2.1.below hX.out⟩
          clear hX Q2
          rw [HL20.out]
          go_wp2_with (fail)
          refine (awake_any V).mono ?_
          rintro e UA ⟨rfl, hb⟩
          have GA : Hid (Below w.heap.size w UA) := below_self HN.out.1.b hb
          clear hb HN
          go_wp2_with (fail)
          go_ret
          exact ⟨rfl, GA.out⟩
    · have HC2' : Hid (∀ W, Sl 3 Lp.cells W sa xs → Calls Tryz.prog 21 #[.slice sa xs.length sc, r.v, .int .i64 D] W (OutC3F W (f, m, 0))) := fun W hW => by have h := HC2.out W hW; rw [hch] at h; exact h
      have hRl : (0 : Int) < (R.length : Int) := by omega
      have HFM : Hid (snowR xs f D = (m, 0) ∧ (∃ t, cov m = f :: t) ∧ cov (m - 1) = [] ∧ f.length ≤ 6) := ⟨hsf, hct, hcn, hfl⟩
      clear hR0 hch HC2 HCF hsf hct hcn hfl
      have c0 := blk_cell M6.out.t 0 rfl
      have c1 := blk_cell M6.out.t 1 rfl
      have c2 := blk_cell M6.out.t 2 rfl
      have c3 := blk_cell M6.out.t 3 rfl
      have c4 := blk_cell M6.out.t 4 rfl
      have c5 := blk_cell M6.out.t 5 rfl
      have c6 := blk_cell M6.out.t 6 rfl
      have c7 := blk_cell M6.out.t 7 rfl
      have c8 := blk_cell M6.out.t 8 rfl
      go_wp2_with (fail)
      clear c0 c1 c2 c3 c4 c5 c6 c7 c8
      refine (HC2'.out U6 M6.out.sl).mono ?_
      rintro e U7 ⟨cA, ccap, rfl, hci, hb, hfar⟩
      have M7 : Hid (GI w T B r sa xs la R a2 n2 cap2 15 U7 ∧ IntSl U7 cA f ∧ ∀ p, cA = some p → B < p.block) := ⟨M6.out.below hb, hci, fun p hp => by have := hfar p hp; have := M6.out.dk.lt; omega⟩
      clear hci hb hfar M6 HC2'
      go_wp2_with (fail)
      refine (draw_any B (B + 1) a2 n2 cap2 15 100000 U7 M7.out.1.dk (by omega) (by omega)).mono ?_
      rintro e U8 ⟨⟨vo, rfl, v0, v1⟩, hD, hA⟩
      have M8 : Hid (GI w T B r sa xs la R a2 n2 cap2 16 U8 ∧ IntSl U8 cA f ∧ ∀ p, cA = some p → B < p.block) := ⟨M7.out.1.step hA hD, ints_same M7.out.2.1 hA.size (fun p hp hl => hA.block _ hl (by have := M7.out.2.2 p hp; omega)), M7.out.2.2⟩
      have hvo : 0 ≤ vo ∧ vo ≤ 100000 := by omega
      clear hD hA M7 v0 v1
      have c0 := blk_cell M8.out.1.t 0 rfl
      have c1 := blk_cell M8.out.1.t 1 rfl
      have c2 := blk_cell M8.out.1.t 2 rfl
      have c3 := blk_cell M8.out.1.t 3 rfl
      have c4 := blk_cell M8.out.1.t 4 rfl
      have c5 := blk_cell M8.out.1.t 5 rfl
      have c6 := blk_cell M8.out.1.t 6 rfl
      have c7 := blk_cell M8.out.1.t 7 rfl
      have c8 := blk_cell M8.out.1.t 8 rfl
      go_wp2_with (fail)
      clear c0 c1 c2 c3 c4 c5 c6 c7 c8
      refine (HC3.out vo (by omega) (by omega) U8 M8.out.1.sl).mono ?_
      rintro e U9 ⟨l1, l1cap, rfl, hl1, hb⟩
      have M9 : Hid (GI w T B r sa xs la R a2 n2 cap2 16 U9 ∧ IntSl U9 cA f ∧ (∀ p, cA = some p → B < p.block) ∧ SlsF (B + 1) U9 l1 (cov vo)) := ⟨M8.out.1.below hb, M8.out.2.1.below hb, M8.out.2.2, hl1.less (by have := M8.out.1.dk.lt; omega)⟩
      clear hl1 hb M8
      obtain ⟨c0, c1, c2, c3, c4, c5, c6, c7, c8⟩ := M9.out.1.t.cells
      go_upto_region 22 with (fail)
      refine wp_region_split (S := fun w' => w'.cell? ⟨T, 0, none⟩ = some (.int .i64 r.laps) ∧ w'.cell? ⟨T, 1, none⟩ = some (.int .i64 r.len.lo) ∧ w'.cell? ⟨T, 2, none⟩ = some (.int .i64 r.len.hi) ∧ w'.cell? ⟨T, 3, none⟩ = some (.int .i64 r.climb.lo) ∧ w'.cell? ⟨T, 4, none⟩ = some (.int .i64 r.climb.hi) ∧ w'.cell? ⟨T, 5, none⟩ = some (.int .i64 r.lap.lo) ∧ w'.cell? ⟨T, 6, none⟩ = some (.int .i64 r.lap.hi) ∧ w'.cell? ⟨T, 7, none⟩ = some (.int .i64 r.wide) ∧ w'.cell? ⟨T, 8, none⟩ = some (.int .i64 r.uses)) [12] 12 (by kernel_rfl) (by kernel_rfl) rfl ?_
      have S0 : Hid (GI w T B r sa xs la R a2 n2 cap2 16 U9.drew ∧ IntSl U9.drew cA f ∧ (∀ p, cA = some p → B < p.block) ∧ SlsF (B + 1) U9.drew l1 (cov vo)) := by
        have hd := (Below.refl U9.heap.size U9).drew
        exact ⟨M9.out.1.below hd, M9.out.2.1.below hd, M9.out.2.2.1, M9.out.2.2.2.below hd⟩
      clear M9 c0 c1 c2 c3 c4 c5 c6 c7 c8
      generalize U9.drew = X0 at S0 ⊢
      rw [show firstL _ [12] = #[false, false, false, false, false, false, false, false, false, false, false, false, true] from by kernel_rfl]
      refine wpAnyH_take (i := 0) (v := .slice sa xs.length sc) rfl (by kernel_rfl) (by kernel_rfl) (by kernel_rfl) (fun _ _ _ h => h) (Or.inl ⟨by rfl, by (intro W hSw; clear hSw; go_simp)⟩) S0.out.1.t.cells ?_
      simp only [Act.put, List.getElem_toArray, List.getElem_cons_zero, List.setIfInBounds_toArray, List.set_cons_zero, List.set_cons_succ]
      refine wpAnyH_take (i := 1) (v := r.v) rfl (by kernel_rfl) (by kernel_rfl) (by kernel_rfl) (fun _ _ _ h => h) (Or.inl ⟨by rfl, by (intro W hSw; obtain ⟨d0, d1, d2, d3, d4, d5, d6, d7, d8⟩ := hSw; go_simp)⟩) S0.out.1.t.cells ?_
      simp only [Act.put, List.getElem_toArray, List.getElem_cons_succ, List.getElem_cons_zero, List.setIfInBounds_toArray, List.set_cons_zero, List.set_cons_succ]
      refine wpAnyH_take (i := 2) (v := .int .i64 D) rfl (by kernel_rfl) (by kernel_rfl) (by kernel_rfl) (fun _ _ _ h => h) (Or.inl ⟨by rfl, by (intro W hSw; clear hSw; go_simp)⟩) S0.out.1.t.cells ?_
      simp only [Act.put, List.getElem_toArray, List.getElem_cons_succ, List.getElem_cons_zero, List.setIfInBounds_toArray, List.set_cons_zero, List.set_cons_succ]
      refine wpAnyH_take (i := 3) (v := .int .i64 vo) rfl (by kernel_rfl) (by kernel_rfl) (by kernel_rfl) (fun _ _ _ h => h) (Or.inl ⟨by rfl, by (intro W hSw; clear hSw; go_simp)⟩) S0.out.1.t.cells ?_
      simp only [Act.put, List.getElem_toArray, List.getElem_cons_succ, List.getElem_cons_zero, List.setIfInBounds_toArray, List.set_cons_zero, List.set_cons_succ]
      refine wpAnyH_take (i := 4) (v := .pointer (some ⟨B, 0, none⟩)) rfl (by kernel_rfl) (by kernel_rfl) (by kernel_rfl) (fun _ _ _ h => h) (Or.inl ⟨by rfl, by (intro W hSw; clear hSw; go_simp)⟩) S0.out.1.t.cells ?_
      simp only [Act.put, List.getElem_toArray, List.getElem_cons_succ, List.getElem_cons_zero, List.setIfInBounds_toArray, List.set_cons_zero, List.set_cons_succ]
      refine wpAnyH_ready (rs := [5]) (by kernel_rfl) (by simp) ?_
      refine AllReadyH.cons (o := _) rfl (fun K hK => ?_) AllReadyH.nil
      go_simp
      go_at_call 59
      refine (draw_any B (B + 1) a2 n2 cap2 16 50000 X0 S0.out.1.dk (by omega) (by omega)).mono ?_
      rintro e X1 ⟨⟨yo, rfl, y0, y1⟩, hD, hA⟩
      have S1 : Hid (GI w T B r sa xs la R a2 n2 cap2 17 X1 ∧ IntSl X1 cA f ∧ (∀ p, cA = some p → B < p.block) ∧ SlsF (B + 1) X1 l1 (cov vo)) := ⟨S0.out.1.step hA hD, ints_same S0.out.2.1 hA.size (fun p hp hl => hA.block _ hl (by have := S0.out.2.2.1 p hp; omega)), S0.out.2.2.1, S0.out.2.2.2.apart hA (fun j hj => by omega)⟩
      have hyo : 0 ≤ yo ∧ yo ≤ 50000 := by omega
      have hwy : IntKind.i64.wrap (vo + yo) = vo + yo := IntWalk.i64_in _ (by omega)
      clear y0 y1 hD hA
      refine hK.out _ _ S1.out.1.t.cells (fun _ => ?_)
      clear hK
      simp only [List.setIfInBounds_toArray, List.set_cons_zero, List.set_cons_succ]
      refine wpAnyH_take (i := 6) (v := .int .i64 (vo + yo)) rfl (by kernel_rfl) (by kernel_rfl) (by kernel_rfl) (fun _ _ _ h => h) (Or.inl ⟨by rfl, by (intro W hSw; clear hSw; go_simp)⟩) S1.out.1.t.cells ?_
      simp only [Act.put, List.getElem_toArray, List.getElem_cons_succ, List.getElem_cons_zero, List.setIfInBounds_toArray, List.set_cons_zero, List.set_cons_succ]
      refine wpAnyH_ready (rs := [7]) (by kernel_rfl) (by simp) ?_
      refine AllReadyH.cons (o := _) rfl (fun K hK => ?_) AllReadyH.nil
      go_simp
      go_at_call 18
      refine (HC3.out (vo + yo) (by omega) (by omega) X1 S1.out.1.sl).mono ?_
      rintro e X2 ⟨l2, l2c, rfl, _, hb⟩
      have Q2 : Hid (GI w T B r sa xs la R a2 n2 cap2 17 X2 ∧ IntSl X2 cA f ∧ (∀ p, cA = some p → B < p.block) ∧ SlsF (B + 1) X2 l1 (cov vo)) := ⟨S1.out.1.below hb, S1.out.2.1.below hb, S1.out.2.2.1, S1.out.2.2.2.below hb⟩
      clear hb
      refine hK.out _ _ Q2.out.1.t.cells (fun _ => ?_)
      clear hK
      simp only [List.setIfInBounds_toArray, List.set_cons_zero, List.set_cons_succ]
      refine wpAnyH_take (i := 8) (v := .tuple #[.slice l2 (cov (vo + yo)).length l2c, .int .i64 0]) rfl (by kernel_rfl) (by kernel_rfl) (by kernel_rfl) (fun _ _ _ h => h) (Or.inl ⟨by rfl, by (intro W hSw; clear hSw; go_simp)⟩) Q2.out.1.t.cells ?_
      simp only [Act.put, List.getElem_toArray, List.getElem_cons_succ, List.getElem_cons_zero, List.setIfInBounds_toArray, List.set_cons_zero, List.set_cons_succ]
      refine wpAnyH_take (i := 9) (v := .slice l2 (cov (vo + yo)).length l2c) rfl (by kernel_rfl) (by kernel_rfl) (by kernel_rfl) (fun _ _ _ h => h) (Or.inl ⟨by rfl, by (intro W hSw; clear hSw; go_simp)⟩) Q2.out.1.t.cells ?_
      simp only [Act.put, List.getElem_toArray, List.getElem_cons_succ, List.getElem_cons_zero, List.setIfInBounds_toArray, List.set_cons_zero, List.set_cons_succ]
      refine wpAnyH_take (i := 10) (v := .int .i64 0) rfl (by kernel_rfl) (by kernel_rfl) (by kernel_rfl) (fun _ _ _ h => h) (Or.inl ⟨by rfl, by (intro W hSw; clear hSw; go_simp)⟩) Q2.out.1.t.cells ?_
      simp only [Act.put, List.getElem_toArray, List.getElem_cons_succ, List.getElem_cons_zero, List.setIfInBounds_toArray, List.set_cons_zero, List.set_cons_succ]
      refine wpAnyH_take (i := 11) (v := .slice l2 (cov (vo + yo)).length l2c) rfl (by kernel_rfl) (by kernel_rfl) (by kernel_rfl) (fun _ _ _ h => h) (Or.inl ⟨by rfl, by (intro W hSw; clear hSw; go_simp)⟩) Q2.out.1.t.cells ?_
      simp only [Act.put, List.getElem_toArray, List.getElem_cons_succ, List.getElem_cons_zero, List.setIfInBounds_toArray, List.set_cons_zero, List.set_cons_succ]
      refine wpAnyH_done (by kernel_rfl) ?_ _
      show wpList _ _ _ (opsAt _ [12]) _ _
      simp only [opsAt, List.filterMap_cons, List.filterMap_nil, List.getElem?_toArray, List.getElem?_cons_succ, List.getElem?_cons_zero]
      have HLN := Lib.hid (HCV.out.2 vo (vo + yo) (by omega))
      clear S0 S1 hwy
      generalize cov (vo + yo) = L2 at HLN ⊢
      clear hyo
      obtain ⟨V0, rfl⟩ : ∃ W : World, W = X2 := ⟨_, rfl⟩
      have HL1 := Lib.hid (HCV.out.1 vo)
      have hln := HLN.out
      generalize cov vo = L1 at HL1 Q2 hln ⊢
      clear HLN
      have hbb3 : L1.length ≤ 300 := by omega
      go_wp2_with (fail)
      have hbb1 : decide (L2.length < L1.length) = false := decide_eq_false (by omega)
      have hbb2 : decide (R.length < L2.length) = false := decide_eq_false (by omega)
      simp only [hbb1, hbb2, Bool.or_self]
      clear hbb1 hbb2 hln
      go_loopw [243] (fun i W => ∃ (k : Nat), k ≤ L1.length ∧ i = .int .i64 k ∧ Hid (Below V0.heap.size V0 W)) (fun i _ => L1.length - (intOf i).toNat)
      case atStart => exact ⟨0, Nat.zero_le _, rfl, Below.refl _ _⟩
      case round =>
        obtain ⟨k, hk, rfl, hX⟩ := hrel
        obtain ⟨V, hV⟩ : ∃ V, V = wr := ⟨_, rfl⟩
        subst hV
        by_cases hlk : k < L1.length
        · have HV : Hid (GI w T B r sa xs la R a2 n2 cap2 17 V ∧ IntSl V cA f ∧ (∀ p, cA = some p → B < p.block) ∧ SlsF (B + 1) V l1 L1) := ⟨Q2.out.1.below hX.out, Q2.out.2.1.below hX.out, Q2.out.2.2.1, Q2.out.2.2.2.below hX.out⟩
          obtain ⟨lb, lo, rfl, hlb, hlo, hlc⟩ := HV.out.2.2.2 (by omega)
          obtain ⟨ca', cc', v1, i1, _⟩ := hlc k _ (List.getElem?_eq_getElem hlk)
          have HCC : Hid (L1[k] ∈ R ∧ snowL xs L1[k] D ≤ vo ∧ Crs xs.length L1[k]) := by
            have h := HL1.out _ (List.getElem_mem hlk)
            exact ⟨h.1, h.2, HRL.out.2 _ h.1⟩
          have HI1 := Lib.hid i1
          clear hlc i1
          generalize L1[k] = c at v1 HCC HI1
          go_upto_region 28 with (fail)
          obtain ⟨X, hX0⟩ : ∃ X, V.heap.size = X := ⟨_, rfl⟩
          have HB1 : Hid (Below V.heap.size V (V.alloc (.cells #[.slice ca' c.length cc'] 27)) ∧ (V.alloc (.cells #[.slice ca' c.length cc'] 27)).heap[X]? = some (.cells #[.slice ca' c.length cc'] 27 (0, 0))) := ⟨alloc1 V _, by rw [← hX0]; exact heap_alloc_new V _⟩
          rw [hX0]
          clear hX0
          generalize V.alloc (.cells #[.slice ca' c.length cc'] 27) = V1 at HB1 ⊢
          have HV1 : Hid (GI w T B r sa xs la R a2 n2 cap2 17 V1 ∧ IntSl V1 ca' c ∧ Below V0.heap.size V0 V1) := ⟨HV.out.1.below HB1.out.1, HI1.out.below HB1.out.1, below_self hX.out HB1.out.1⟩
          have t0 := blk_cell HB1.out.2 0 rfl
          clear v1 HI1 HV hX
          go_wp2_with (fail)
          refine (HCS.out V1 ca' c cc' HCC.out.2.2 HV1.out.1.sl HV1.out.2.1).mono ?_
          rintro e V2 ⟨rfl, hb⟩
          have HCN : Hid (Calls Tryz.prog 56 #[.slice la R.length lcap, .func (.func 65) #[] #[.pointer (some ⟨X, 0, none⟩)]] V2 (fun e w' => e = .returned (.bool true) ∧ Below V2.heap.size V2 w')) := by
            have h := containsF_any la R lcap 65 #[.pointer (some ⟨X, 0, none⟩)] (fun y => decide (c = y)) V2 (HV1.out.1.below hb).ls.sls (by omega) eg65 (fun y hy a1 k1 W hW hi => same2_any X a1 y k1 ca' c cc' W (blk_below (blk_below HB1.out.2 hb) hW) hi ((HV1.out.2.1.below hb).below hW) (by have := HCC.out.2.2.1.2; omega))
            rw [show R.any (fun y => decide (c = y)) = true from List.any_eq_true.2 ⟨c, HCC.out.1, by simp⟩] at h
            exact h
          have HV2 : Hid (Below V0.heap.size V0 V2) := below_self HV1.out.2.2 hb
          have hsn : ¬ vo < snowL xs c D := by have := HCC.out.2.1; omega
          clear hb HV1 t0 HB1 HCC
          generalize snowL xs c D = sn at hsn ⊢
          go_wp2_with (fail)
          refine HCN.out.mono ?_
          rintro e V3 ⟨rfl, hb⟩
          have HV3 := Lib.hid (below_self HV2.out hb)
          clear hb HV2 HCN
          go_wp2_with (fail)
          go_roundw
          case rel => exact ⟨k + 1, by omega, by go_num, HV3.out⟩
          case measure => first | (simp [intOf]; done) | (simp [intOf]; omega)
        · have HN : Hid (GI w T B r sa xs la R a2 n2 cap2 17 V ∧ IntSl V cA f) := ⟨Q2.out.1.below hX.out, Q2.out.2.1.below hX.out⟩
          clear hX Q2
          obtain ⟨t, ht⟩ := HFM.out.2.1
          have HT := Lib.hid ht
          clear ht
          have hwm : IntKind.i64.wrap (m - 1) = m - 1 := IntWalk.i64_in _ (by omega)
          go_wp2_with (fail)
          refine (HC4.out f m cA ccap HFM.out.1 HFM.out.2.2.2 V HN.out.1.sl HN.out.2).mono ?_
          rintro e V1 ⟨rfl, hb⟩
          have N1 : Hid (GI w T B r sa xs la R a2 n2 cap2 17 V1 ∧ IntSl V1 cA f) := ⟨HN.out.1.below hb, HN.out.2.below hb⟩
          clear hb HN
          have c0 := blk_cell N1.out.1.t 0 rfl
          have c1 := blk_cell N1.out.1.t 1 rfl
          have c2 := blk_cell N1.out.1.t 2 rfl
          have c3 := blk_cell N1.out.1.t 3 rfl
          have c4 := blk_cell N1.out.1.t 4 rfl
          have c5 := blk_cell N1.out.1.t 5 rfl
          have c6 := blk_cell N1.out.1.t 6 rfl
          have c7 := blk_cell N1.out.1.t 7 rfl
          have c8 := blk_cell N1.out.1.t 8 rfl
          go_wp2_with (fail)
          clear c0 c1 c2 c3 c4 c5 c6 c7 c8
          refine (HC3.out m (by omega) (by omega) V1 N1.out.1.sl).mono ?_
          rintro e V2 ⟨q1, q1c, rfl, hq1, hb⟩
          rw [HT.out] at hq1
          rw [HT.out]
          have N2 : Hid (GI w T B r sa xs la R a2 n2 cap2 17 V2 ∧ IntSl V2 cA f ∧ SlsAt V2 q1 (f :: t)) := ⟨N1.out.1.below hb, N1.out.2.below hb, hq1.sls⟩
          clear hb N1 hq1
          have c0 := blk_cell N2.out.1.t 0 rfl
          have c1 := blk_cell N2.out.1.t 1 rfl
          have c2 := blk_cell N2.out.1.t 2 rfl
          have c3 := blk_cell N2.out.1.t 3 rfl
          have c4 := blk_cell N2.out.1.t 4 rfl
          have c5 := blk_cell N2.out.1.t 5 rfl
          have c6 := blk_cell N2.out.1.t 6 rfl
          have c7 := blk_cell N2.out.1.t 7 rfl
          have c8 := blk_cell N2.out.1.t 8 rfl
          go_wp2_with (fail)
          clear c0 c1 c2 c3 c4 c5 c6 c7 c8
          refine (HC3.out (m - 1) (by omega) (by omega) V2 N2.out.1.sl).mono ?_
          rintro e V3 ⟨q2, q2c, rfl, _, hb⟩
          rw [HFM.out.2.2.1]
          have N3 : Hid (Below w.heap.size w V3 ∧ IntSl V3 cA f ∧ SlsAt V3 q1 (f :: t)) := ⟨(N2.out.1.below hb).b, N2.out.2.1.below hb, N2.out.2.2.below hb⟩
          clear hb N2
          obtain ⟨qb, qo, rfl, hqb, hqc⟩ := N3.out.2.2 (by simp)
          obtain ⟨fa', fc', vf, iff'⟩ := hqc 0 f rfl
          rw [Nat.add_zero] at vf
          have HEQ : Hid (Calls Tryz.prog 23 #[.slice fa' f.length fc', .slice cA f.length ccap] V3 (fun e w' => e = .returned (.bool true) ∧ Below V3.heap.size V3 w')) := by
            have h := equal_int fa' f fc' cA f ccap V3 iff' N3.out.2.1 (by have := HFM.out.2.2.2; omega)
            rw [show decide (f = f) = true from decide_eq_true rfl] at h; exact h
          have N4 := Lib.hid N3.out.1
          clear hqc iff' N3 hqb
          go_wp2_with (fail)
          refine HEQ.out.mono ?_
          rintro e V4 ⟨rfl, hb⟩
          have N5 := Lib.hid (below_self N4.out hb)
          clear hb N4 HEQ vf
          go_wp2_with (fail)
          refine (awake_any V4).mono ?_
          rintro e UA ⟨rfl, hb⟩
          have GA : Hid (Below w.heap.size w UA) := below_self N5.out hb
          clear hb N5
          go_wp2_with (fail)
          go_ret
          exact ⟨rfl, GA.out⟩
end Go.Proofs.YtgldfnkjfgcjpaaGreat
