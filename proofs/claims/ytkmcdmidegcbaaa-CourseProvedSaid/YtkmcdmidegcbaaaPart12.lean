/-
The contract of CourseProved over this seat's program.
  What is proved: it answers true; nothing that was there before has turned.
  Conditions: lists of bytes that read as such.
-/
import Derived.Test.YtkmcdmidegcbaaaPart11
import Derived.Deep.DeepCutAuto
import Derived.Deep.RegionLaw
import Derived.StillTailTactics
namespace Go.Proofs.Ytkmcdmidegcbaaa
open Go.RowKit Go.Shelf
attribute [local go_sem] Oper.semAt_some

/-- From the memory before a call to that of a box made before it. -/
theorem MP.box {w W W' : World} {Bw Bd : Nat} {stock store : Int} {ad : Option Addr} {ds : List Dy} {cp : Nat} {a : Option Addr} {n cap k : Nat} (h : MP w W Bw Bd stock store ad ds cp a n cap k) {o : Obj} (ha : Apart (fun j => j = Bd) (W.drew.alloc o) W') : W'.heap[W.heap.size]? = some o := by
  have h1 := h.dk.lt
  have h2 : (W.drew.alloc o).heap[W.heap.size]? = some o := heap_alloc_new W.drew o
  exact (ha.block _ (lt_of_block h2) (by omega)).trans h2
theorem MP.box' {w W W' : World} {Bw Bd : Nat} {stock store : Int} {ad : Option Addr} {ds : List Dy} {cp : Nat} {a : Option Addr} {n cap k : Nat} (h : MP w W Bw Bd stock store ad ds cp a n cap k) {o : Obj} (ha : Apart (fun j => j = Bd) (W.alloc o) W') : W'.heap[W.heap.size]? = some o := by
  have h1 := h.dk.lt
  have h2 : (W.alloc o).heap[W.heap.size]? = some o := heap_alloc_new W o
  exact (ha.block _ (lt_of_block h2) (by omega)).trans h2
theorem MP.old {w W W' : World} {Bw Bd : Nat} {stock store : Int} {ad : Option Addr} {ds : List Dy} {cp : Nat} {a : Option Addr} {n cap k : Nat} (h : MP w W Bw Bd stock store ad ds cp a n cap k) {P : Nat} {o : Obj} (hP : W.heap[P]? = some o) (hne : Bd < P) (ha : Apart (fun j => j = Bd) W W') : W'.heap[P]? = some o := (ha.block _ (lt_of_block hP) (by omega)).trans hP
theorem MP.put {w W : World} {Bw Bd : Nat} {stock store : Int} {ad : Option Addr} {ds : List Dy} {cp : Nat} {a : Option Addr} {n cap k : Nat} (h : MP w W Bw Bd stock store ad ds cp a n cap k) (P j : Nat) (u : Value) (hP : Bd < P) : MP w (W.setCell ⟨P, j, none⟩ u) Bw Bd stock store ad ds cp a n cap k := by
  have ha : Apart (fun i => i = P) W (W.setCell ⟨P, j, none⟩ u) := Apart.setCell (own := fun i => i = P) W (p := ⟨P, j, none⟩) rfl u
  have h1 := h.o1
  have h2 := h.o2
  exact ⟨h.kw.apart ha (by omega) (by omega) (fun p hp => by have := h.far p hp; omega), h.dk.keep (by rw [World.size_setCell]; exact Nat.le_refl _) (fun i hi => Below.heap_setCell _ _ _ _ (by show i ≠ P; omega)), h.o1, h.o2, h.far⟩
theorem put2 {W : World} {b g i j k : Nat} {u v : Value} (h : b ≠ g) : ((W.setCell ⟨g, i, none⟩ u).setCell ⟨g, j, none⟩ v).cell? ⟨b, k, none⟩ = W.cell? ⟨b, k, none⟩ :=
  World.cell?_of_block (w := W) (a := ⟨b, k, none⟩) ((Below.heap_setCell _ _ _ _ h).trans (Below.heap_setCell _ _ _ _ h))
theorem span_below {W w' : World} {o : Obj} (h : W.drew.alloc o = w') : Below W.heap.size W w' := by
  subst h
  exact (Below.refl _ W).drew.alloc (Nat.le_refl _) _
/-- What a proof that was dealt is told. -/
theorem proves_in {stock store : Int} {ds : List Dy} {pf : Int} {q : Nat} (hw : winE stock store ds = 0) (h1 : -1 ≤ pf) (h2 : q < ds.length) :
    ∃ N E : Int, (provesR stock store ds pf q).1 = N ∧ (provesR stock store ds pf q).2 = E ∧ (((q : Int) < pf ∧ N = 0 ∧ E = 1) ∨ (pf ≤ (q : Int) ∧ N = 0 ∧ E = 8) ∨ (pf ≤ (q : Int) ∧ E = 0 ∧ N = (worstLack stock store pf ds q).1 ∧ (worstLack stock store pf ds q).2 = true)) := by
  refine ⟨_, _, rfl, rfl, ?_⟩
  have b1 : withinB (q : Int) 0 (ds.length - 1) = true := by simp [withinB]; omega
  unfold provesR
  rw [if_pos hw, if_pos b1]
  by_cases h : pf ≤ (q : Int)
  · have b2 : withinB pf (-1) q = true := by simp [withinB]; omega
    rw [if_pos b2, Int.toNat_natCast]
    by_cases hh : (worstLack stock store pf ds q).2 = true
    · rw [if_pos hh]; exact .inr (.inr ⟨h, rfl, rfl, hh⟩)
    · rw [if_neg hh]; exact .inr (.inl ⟨h, rfl, rfl⟩)
  · have b2 : ¬ withinB pf (-1) q = true := by simp [withinB]; omega
    rw [if_neg b2]
    exact .inl ⟨by omega, rfl, rfl⟩
/-- A proof that does not hold. -/
theorem proves_not {stock store : Int} {ds : List Dy} {pf : Int} {q : Nat} (hw : winE stock store ds = 0) (h1 : -1 ≤ pf) (h2 : q < ds.length) (h : pf ≤ (q : Int)) (hh : (worstLack stock store pf ds q).2 = false) : provesR stock store ds pf q = (0, 8) := by
  have b1 : withinB (q : Int) 0 (ds.length - 1) = true := by simp [withinB]; omega
  have b2 : withinB pf (-1) q = true := by simp [withinB]; omega
  unfold provesR
  rw [if_pos hw, if_pos b1, if_pos b2, Int.toNat_natCast, if_neg (by rw [hh]; exact Bool.false_ne_true)]

/-- A proof that was dealt, in a box. -/
def PB (W : World) (P : Nat) (pf pd : Int) : Prop := W.heap[P]? = some (.cells #[.int .i64 pf, .int .i64 pd] 62 (0, 0))

set_option maxRecDepth 100000 in
set_option maxHeartbeats 16000000 in
theorem proved_any (a : Option Addr) (n cap : Nat) (a2 : Option Addr) (n2 cap2 : Nat) (w : World) (hb : BytesAt w a n) (hn : n ≤ 140737488355328) (hb2 : BytesAt w a2 n2) (hn2 : n2 ≤ 140737488355328) :
    Calls Try.prog 7 #[.slice a n cap, .slice a2 n2 cap2] w fun e w' => e = .returned (.bool true) ∧ Below w.heap.size w w' := by
  have HO := Lib.hid (of_any a n cap w hb hn)
  have HB2 := Lib.hid (And.intro hb2 hn2)
  clear hb hn hb2 hn2
  go_enter Try.func7, Try.ntmps7
  go_wp2_with (fail)
  refine HO.out.mono ?_
  rintro e w1 ⟨rfl, hD, hb1⟩
  have HD := Lib.hid (And.intro hD hb1)
  clear hD hb1 HO
  go_wp2_with (fail)
  refine (made_any w.heap.size (w.heap.size + 1) a n cap 0 12 w1 HD.out.1 (by omega) (by omega)).mono ?_
  rintro e w2 ⟨stock, store, ad, ds, cp, rfl, hS, h1, h2, h3, h4, _, hA, _⟩
  obtain ⟨Wa, hWa⟩ : ∃ Wa, w2.alloc (.cells #[.int .i64 stock, .int .i64 store, .slice ad ds.length cp] 60) = Wa := ⟨_, rfl⟩
  have hb2 : Below w.heap.size w w2 := below_apart HD.out.2 hA (fun j hj => by omega)
  have HF : Hid ((20 ≤ store ∧ store ≤ 200) ∧ (0 ≤ stock ∧ stock ≤ store) ∧ (1 ≤ ds.length ∧ ds.length ≤ 12) ∧ (∀ d ∈ ds, SmallDay d)) := ⟨h1, h2, ⟨h3.1, by omega⟩, h4⟩
  have HW := Lib.hid (winE_small (stock := stock) (store := store) (ds := ds) ⟨by omega, by omega⟩ h2 ⟨h3.1, by omega⟩ h4)
  have HK : Hid (KW w Wa w2.heap.size stock store ad ds cp ∧ w2.heap.size < Wa.heap.size ∧ (∀ p, ad = some p → p.block < Wa.heap.size)) := by
    rw [← hWa]
    refine ⟨⟨hb2.alloc hb2.size _, heap_alloc_new _ _, hS.below (alloc1 _ _)⟩, by simp, fun p hp => ?_⟩
    obtain ⟨b, off, e, hlt, _⟩ := hS (by omega)
    rw [hp] at e
    cases e
    show b < _
    simp; omega
  clear hS h1 h2 h3 h4 hA hb2
  go_wp2_with (fail)
  clear hWa
  refine (of_any a2 n2 cap2 Wa (HB2.out.1.keep HK.out.1.1.size (fun _ p _ hp => HK.out.1.1.block _ hp)) HB2.out.2).mono ?_
  rintro e w3 ⟨rfl, hD, hb⟩
  have HM : Hid (MP w w3 w2.heap.size Wa.heap.size stock store ad ds cp a2 n2 cap2 0) := ⟨HK.out.1.below hb, hD, HK.out.1.1.size, HK.out.2.1, HK.out.2.2⟩
  clear hD hb
  have c0 := blk_cell HM.out.kw.2.1 0 rfl
  have c1 := blk_cell HM.out.kw.2.1 1 rfl
  have c2 := blk_cell HM.out.kw.2.1 2 rfl
  go_wp2_with (fail)
  clear c0 c1 c2
  refine (First_any stock store ad ds cp w3 HM.out.kw.2.2 (by have := HF.out.2.2.1; omega)).mono ?_
  rintro e w4 ⟨rfl, hb⟩
  have HM := Lib.hid (HM.out.below hb)
  have HFO := Lib.hid (first_or HW.out)
  clear hb
  generalize (failR stock store ds).1 = x1 at HFO ⊢
  generalize (failR stock store ds).2.2 = e1 at HFO ⊢
  go_wp2_with (fail)
  go_loopw [28] (fun i wr => ∃ (j k : Nat), i = .int .i64 j ∧ j ≤ 8 ∧ Hid (k ≤ 2 * j) ∧ Hid (MP w wr w2.heap.size Wa.heap.size stock store ad ds cp a2 n2 cap2 k)) (fun i _ => 8 - (intOf i).toNat)
  case atStart => exact ⟨0, 0, rfl, by omega, by show 0 ≤ 2 * 0; omega, HM.out⟩
  case round =>
    obtain ⟨j, k, rfl, hj, hk, hM⟩ := hrel
    by_cases hlt : j < 8
    · go_upto_region 6 with (fail)
      go_cut [9, 28] (fun p i wx => i = .int .i64 j ∧ ∃ (P : Nat) (pf pd : Int), p = .pointer (some ⟨P, 0, none⟩) ∧ (-1 ≤ pf ∧ pf ≤ (ds.length : Int) - 1) ∧ (0 ≤ pd ∧ pd < (ds.length : Int)) ∧ MP w wx w2.heap.size Wa.heap.size stock store ad ds cp a2 n2 cap2 (k + 2) ∧ PB wx P pf pd ∧ Wa.heap.size < P)
      case first => as_aux_lemma =>
        have c2 := blk_cell hM.out.kw.2.1 2 rfl
        have hbd := HF.out.2.2.1
        have hwl : IntKind.i64.wrap ((ds.length : Int) - 1) = (ds.length : Int) - 1 := IntWalk.i64_in _ (by omega)
        have hdl := hM.out.dk.lt
        have n0 : w2.heap.size < wr.heap.size := lt_of_block hM.out.kw.2.1
        have e0 : wr.heap.size ≠ w2.heap.size := by omega
        go_region_held3 (fun w' => w'.cell? ⟨w2.heap.size, 2, none⟩ = some (.slice ad ds.length cp)) (go_keep) (first
          | (go_at_call 53
             refine (between_more Wa.heap.size (Wa.heap.size + 1) a2 n2 cap2 k (-1) ((ds.length : Int) - 1) _ (by first | exact hM.out.dk.below ((Below.refl _ _).drew) | exact hM.out.dk.below (((Below.refl _ _).drew).alloc (Nat.le_refl _) _)) (by have := hk.out; omega) ⟨by omega, by omega, by omega⟩).mono ?_
             rintro e w5 ⟨⟨pf, rfl, hf0, hf1⟩, hD, hA⟩
             have HM5 := Lib.hid (MP.draw (by first | exact hM.out.below ((Below.refl _ _).drew) | exact hM.out.below (((Below.refl _ _).drew).alloc (Nat.le_refl _) _)) hA hD)
             try (have HB5 := Lib.hid (And.intro (hM.out.box hA) (And.intro hdl.2 trivial)); have t0 := blk_cell HB5.out.1 0 rfl; have t1 := blk_cell HB5.out.1 1 rfl; have u0 := blk_free (j := 0) HB5.out.1; have u1 := blk_free (j := 1) HB5.out.1)
             clear hD hA c2
             have n5 : w2.heap.size < w5.heap.size := lt_of_block HM5.out.kw.2.1
             have e5 : w5.heap.size ≠ w2.heap.size := by omega
             have c2 := blk_cell HM5.out.kw.2.1 2 rfl)
          | (go_at_call 54
             refine (draw_any Wa.heap.size (Wa.heap.size + 1) a2 n2 cap2 (k + 1) (ds.length : Int) _ (by first | exact HM5.out.dk | exact HM5.out.dk.below ((Below.refl _ _).alloc (Nat.le_refl _) _)) (by have := hk.out; omega) (by omega)).mono ?_
             rintro e w6 ⟨⟨pd, rfl, hp0, hp1⟩, hD, hA⟩
             have HM6 := Lib.hid (MP.draw (by first | exact HM5.out | exact HM5.out.below ((Below.refl _ _).alloc (Nat.le_refl _) _)) hA hD)
             try (have HB6 := Lib.hid (And.intro (HM5.out.old HB5.out.1 (by omega) hA) HB5.out.2); clear t0 t1 u0 u1; have t0 := blk_cell HB6.out.1 0 rfl; have t1 := blk_cell HB6.out.1 1 rfl; have u0 := blk_free (j := 0) HB6.out.1; have u1 := blk_free (j := 1) HB6.out.1)
             try (have HB6 := Lib.hid (HM5.out.box' hA); have t0 := blk_cell HB6.out 0 rfl; have t1 := blk_cell HB6.out 1 rfl; have u0 := blk_free (j := 0) HB6.out; have u1 := blk_free (j := 1) HB6.out)
             clear hD hA c2
             have n6 : w2.heap.size < w6.heap.size := lt_of_block HM6.out.kw.2.1
             have e6 : w6.heap.size ≠ w2.heap.size := by omega
             have c2 := blk_cell HM6.out.kw.2.1 2 rfl))
        all_goals (
          have hlt5 := HM5.out.dk.lt
          have hlt6 := HM6.out.dk.lt
          go_wp2_with (fail)
          go_meet
          first
            | exact ⟨rfl, w6.heap.size, pf, pd, rfl, ⟨by omega, by omega⟩, ⟨hp0, by omega⟩, HM6.out.below ((Below.refl _ _).alloc (Nat.le_refl _) _), heap_alloc_new _ _, by omega⟩
            | exact ⟨rfl, w5.heap.size, pf, pd, rfl, ⟨by omega, by omega⟩, ⟨hp0, by omega⟩, (HM6.out.put _ 0 _ (by omega)).put _ 1 _ (by omega), blk_setCell (j := 1) (blk_setCell (j := 0) HB6.out), by omega⟩
            | exact ⟨rfl, wr.heap.size, pf, pd, rfl, ⟨by omega, by omega⟩, ⟨hp0, by omega⟩, (HM6.out.put _ 0 _ (by omega)).put _ 1 _ (by omega), blk_setCell (j := 1) (blk_setCell (j := 0) HB6.out.1), by omega⟩)
      case rest => as_aux_lemma =>
        obtain ⟨rfl, P, pf, pd, rfl, h1, h2, h3, h4, h5⟩ := hcut
        obtain ⟨q, rfl⟩ := Int.eq_ofNat_of_zero_le h2.1
        have HM := Lib.hid (And.intro h3 (And.intro h4 h5))
        have HQ : Hid (-1 ≤ pf ∧ q < ds.length) := ⟨h1.1, by omega⟩
        clear h1 h2 h3 h4 h5
        have c0 := blk_cell HM.out.1.kw.2.1 0 rfl
        have c1 := blk_cell HM.out.1.kw.2.1 1 rfl
        have c2 := blk_cell HM.out.1.kw.2.1 2 rfl
        have p0 := blk_cell HM.out.2.1 0 rfl
        have p1 := blk_cell HM.out.2.1 1 rfl
        go_wp2_with (fail)
        clear c0 c1 c2 p0 p1
        obtain ⟨N, E, g1, g2, hc⟩ := proves_in HW.out HQ.out.1 HQ.out.2
        have HG := Lib.hid (And.intro g1 g2)
        clear g1 g2
        have HC := proves_any stock store pf q ad ds cp wc HM.out.1.kw.2.2 (by have := HF.out.2.2.1; omega)
        rw [HG.out.1, HG.out.2] at HC
        refine HC.mono ?_
        rintro e w7 ⟨rfl, hb⟩
        have HM7 : Hid (MP w w7 w2.heap.size Wa.heap.size stock store ad ds cp a2 n2 cap2 (k + 2) ∧ PB w7 P pf q ∧ Wa.heap.size < P) := ⟨HM.out.1.below hb, blk_below HM.out.2.1 hb, HM.out.2.2⟩
        clear hb HC
        have p0 := blk_cell HM7.out.2.1 0 rfl
        have p1 := blk_cell HM7.out.2.1 1 rfl
        rcases hc with ⟨hq, rfl, rfl⟩ | ⟨hq, rfl, rfl⟩ | ⟨hq, rfl, hN, hL⟩
        · go_wp2_with (fail)
          go_roundw
          case rel => exact ⟨j + 1, k + 2, by go_num, by omega, by show k + 2 ≤ 2 * (j + 1); have := hk.out; omega, HM7.out.1⟩
          case measure => simp [intOf]; omega
        · go_wp2_with (fail)
          go_roundw
          case rel => exact ⟨j + 1, k + 2, by go_num, by omega, by show k + 2 ≤ 2 * (j + 1); have := hk.out; omega, HM7.out.1⟩
          case measure => simp [intOf]; omega
        · obtain ⟨d, hd⟩ : ∃ d, ds[q]? = some d := ⟨_, List.getElem?_eq_getElem HQ.out.2⟩
          have hpt := proof_true HF.out.2.1 (fun x hx => (HF.out.2.2.2 x hx).ok) hq hd hL
          rw [← hN] at hpt
          have HPT := Lib.hid hpt
          have HDD := Lib.hid (And.intro hd (HF.out.2.2.2 d (List.mem_of_getElem? hd)))
          clear hpt hN hL hd
          rcases HFO.out with ⟨_, _, hok⟩ | ⟨rfl, hx1, _⟩
          · exfalso
            unfold okB at hok
            rw [beq_iff_eq] at hok
            exact HPT.out.1.1 hok
          · have hle : x1 ≤ (q : Int) := by have := HPT.out.1.2.2; omega
            clear hx1
            obtain ⟨b, off, rfl, hbl, hcs⟩ := HM7.out.1.kw.2.2 (by have := HF.out.2.2.1; omega)
            have n1 := hcs q d 1 _ HDD.out.1 rfl
            clear hcs
            have hql : (q : Int) < (ds.length : Int) := by have := HQ.out.2; omega
            have hN1 : 1 ≤ N := HPT.out.2.1.1
            have hN2 : N ≤ d.need.hi := HPT.out.2.1.2
            have hN3 : N ≤ 100 := by have h := HDD.out.2; unfold SmallDay SmallSp at h; omega
            have c0 := blk_cell HM7.out.1.kw.2.1 0 rfl
            have c1 := blk_cell HM7.out.1.kw.2.1 1 rfl
            have c2 := blk_cell HM7.out.1.kw.2.1 2 rfl
            go_wp2_with (fail)
            refine (cloneWinter_any stock store (some ⟨b, off, none⟩) ds cp w7 HM7.out.1.kw.2.2 (by have := HF.out.2.2.1; omega) (by have := HF.out.2.2.1; omega)).mono ?_
            rintro e w8 ⟨g, cp', rfl, hd, hb⟩
            obtain ⟨Wb, hWb⟩ : ∃ Wb, w8.alloc (.cells #[.int .i64 stock, .int .i64 store, .slice (some ⟨g, 0, none⟩) ds.length cp'] 60) = Wb := ⟨_, rfl⟩
            obtain ⟨Wc, hWc⟩ : ∃ Wc, Wb.setCell ⟨g, q * 6 + 1, none⟩ (.int .i64 (d.need.hi - N)) = Wc := ⟨_, rfl⟩
            have HR : Hid (MR w Wb w2.heap.size w8.heap.size Wa.heap.size g stock store stock store (some ⟨b, off, none⟩) ds cp ds cp' a2 n2 cap2 (k + 2) ∧ PB Wb P pf q ∧ P < g) := by
              rw [← hWb]
              exact ⟨HM7.out.1.rich hd hb, alk (blk_below HM7.out.2.1 hb), Nat.lt_of_lt_of_le (lt_of_block HM7.out.2.1) hd.1⟩
            have HR1 : Hid (MR w Wc w2.heap.size w8.heap.size Wa.heap.size g stock store stock store (some ⟨b, off, none⟩) ds cp (ds.set q { d with need := ⟨d.need.lo, d.need.hi - N⟩ }) cp' a2 n2 cap2 (k + 2) ∧ PB Wc P pf q) := by
              rw [← hWc]
              exact ⟨HR.out.1.setDay q d { d with need := ⟨d.need.lo, d.need.hi - N⟩ } 1 (d.need.hi - N) HDD.out.1 (by omega) rfl, (Below.heap_setCell _ _ _ _ (by show P ≠ g; have := HR.out.2.2; omega)).trans HR.out.2.1⟩
            clear hd hb c0 c1 c2 p0 p1 n1
            have r2 := blk_cell HR.out.1.rb 2 rfl
            have y1 := HR.out.1.dy.cell q d 1 _ HDD.out.1 rfl
            have f1 := HR.out.1.dy.free (q * 6 + 1)
            have p0 := blk_cell HR.out.2.1 0 rfl
            have p1 := blk_cell HR.out.2.1 1 rfl
            have hwn : IntKind.i64.wrap (d.need.hi - N) = d.need.hi - N := IntWalk.i64_in _ (by have h := HDD.out.2; unfold SmallDay SmallSp at h; omega)
            go_upto_region 16 with (fail)
            clear hWb hWc r2 y1 f1 p0 p1 hwn
            go_cut [28] (fun i wx => i = .int .i64 j ∧ ∃ lo' : Int, (0 ≤ lo' ∧ lo' ≤ d.need.hi - N) ∧ MR w wx w2.heap.size w8.heap.size Wa.heap.size g stock store stock store (some ⟨b, off, none⟩) ds cp (ds.set q { d with need := ⟨lo', d.need.hi - N⟩ }) cp' a2 n2 cap2 (k + 2) ∧ PB wx P pf q)
            case first => as_aux_lemma =>
              have hq1 : (ds.set q { d with need := ⟨d.need.lo, d.need.hi - N⟩ })[q]? = some { d with need := ⟨d.need.lo, d.need.hi - N⟩ } := List.getElem?_set_self HQ.out.2
              obtain ⟨Wd, hWd⟩ : ∃ Wd, Wc.drew = Wd := ⟨_, rfl⟩
              have HR2 : Hid (MR w Wd w2.heap.size w8.heap.size Wa.heap.size g stock store stock store (some ⟨b, off, none⟩) ds cp (ds.set q { d with need := ⟨d.need.lo, d.need.hi - N⟩ }) cp' a2 n2 cap2 (k + 2) ∧ PB Wd P pf q) := by
                rw [← hWd]
                exact ⟨HR1.out.1.below (Below.refl _ _).drew, HR1.out.2⟩
              have r2 : Wd.cell? ⟨w8.heap.size, 2, none⟩ = some (.slice (some ⟨g, 0, none⟩) ds.length cp') := by have h := blk_cell HR2.out.1.rb 2 rfl; rw [show ds.length = (ds.set q { d with need := ⟨d.need.lo, d.need.hi - N⟩ }).length by rw [List.length_set]]; exact h
              have y0 : Wd.cell? ⟨g, q * 6, none⟩ = some (.int .i64 d.need.lo) := HR2.out.1.dy.cell q _ 0 _ hq1 rfl
              have y1 : Wd.cell? ⟨g, q * 6 + 1, none⟩ = some (.int .i64 (d.need.hi - N)) := HR2.out.1.dy.cell q _ 1 _ hq1 rfl
              have f0 : Wd.frozen? ⟨g, q * 6, none⟩ = false := HR2.out.1.dy.free (q * 6)
              have p0 := blk_cell HR2.out.2 0 rfl
              have p1 := blk_cell HR2.out.2 1 rfl
              have hs1 : (0 ≤ d.need.lo ∧ 0 ≤ d.need.hi - N) := by have h := HDD.out.2; unfold SmallDay SmallSp at h; omega
              go_still_tail 24, (by kernel_rfl)
              change wpList _ _ _ _ _ Wc.drew
              rw [hWd]
              clear hWd
              go_wp2_with (fail)
              all_goals (
                go_meet
                have hPg : P ≠ g := by have := HR.out.2.2; omega
                first
                  | exact ⟨rfl, d.need.lo, ⟨by omega, by omega⟩, (by have h := HR2.out.1.setDay q { d with need := ⟨d.need.lo, d.need.hi - N⟩ } { d with need := ⟨d.need.lo, d.need.hi - N⟩ } 0 d.need.lo hq1 (by omega) rfl; rw [List.set_set] at h; exact h), (Below.heap_setCell _ _ _ _ hPg).trans HR2.out.2⟩
                  | exact ⟨rfl, d.need.hi - N, ⟨by omega, by omega⟩, (by have h := HR2.out.1.setDay q { d with need := ⟨d.need.lo, d.need.hi - N⟩ } { d with need := ⟨d.need.hi - N, d.need.hi - N⟩ } 0 (d.need.hi - N) hq1 (by omega) rfl; rw [List.set_set] at h; exact h), (Below.heap_setCell _ _ _ _ hPg).trans HR2.out.2⟩)
            case rest => as_aux_lemma =>
              obtain ⟨rfl, lo', hlo, hm, hp⟩ := hcut
              rename World => W9
              have HR9 := Lib.hid (And.intro hm hp)
              have HW9 : Hid (winE stock store (ds.set q { d with need := ⟨lo', d.need.hi - N⟩ }) = 0) := by
                have h1 := HF.out
                refine winE_day ⟨by omega, by omega⟩ h1.2.1 ⟨by rw [List.length_set]; omega, by rw [List.length_set]; omega⟩ (fun x hx => ?_)
                rcases List.mem_or_eq_of_mem_set hx with h | rfl
                · exact (h1.2.2.2 x h).ok
                · have h := (HDD.out.2).ok
                  unfold DayOk at h ⊢
                  dsimp only
                  omega
              have HP9 := Lib.hid (proves_not HW9.out HQ.out.1 (by rw [List.length_set]; exact HQ.out.2) hq (HPT.out.2.2.1 lo'))
              clear hm hp hlo
              have r0 := blk_cell HR9.out.1.rb 0 rfl
              have r1 := blk_cell HR9.out.1.rb 1 rfl
              have r2 : W9.cell? ⟨w8.heap.size, 2, none⟩ = some (.slice (some ⟨g, 0, none⟩) ds.length cp') := by have h := blk_cell HR9.out.1.rb 2 rfl; rw [show ds.length = (ds.set q { d with need := ⟨lo', d.need.hi - N⟩ }).length by rw [List.length_set]]; exact h
              have p0 := blk_cell HR9.out.2 0 rfl
              have p1 := blk_cell HR9.out.2 1 rfl
              go_wp2_with (fail)
              clear r0 r1 r2 p0 p1
              have HC := proves_any stock store pf q (some ⟨g, 0, none⟩) (ds.set q { d with need := ⟨lo', d.need.hi - N⟩ }) cp' W9 HR9.out.1.dy.sl (by rw [List.length_set]; have := HF.out.2.2.1; omega)
              rw [HP9.out, List.length_set] at HC
              refine HC.mono ?_
              rintro e w10 ⟨rfl, hb⟩
              have HMA : Hid (MP w w10 w2.heap.size Wa.heap.size stock store (some ⟨b, off, none⟩) ds cp a2 n2 cap2 (k + 2) ∧ PB w10 P pf q) := ⟨HR9.out.1.mp.below hb, blk_below HR9.out.2 hb⟩
              clear hb HC
              have p0 := blk_cell HMA.out.2 0 rfl
              have p1 := blk_cell HMA.out.2 1 rfl
              by_cases hlt2 : pf < (q : Int)
              · have c0 := blk_cell HMA.out.1.kw.2.1 0 rfl
                have c1 := blk_cell HMA.out.1.kw.2.1 1 rfl
                have c2 := blk_cell HMA.out.1.kw.2.1 2 rfl
                go_wp2_with (fail)
                clear c0 c1 c2
                refine (cloneWinter_any stock store (some ⟨b, off, none⟩) ds cp w10 HMA.out.1.kw.2.2 (by have := HF.out.2.2.1; omega) (by have := HF.out.2.2.1; omega)).mono ?_
                rintro e w11 ⟨g', cp2, rfl, hd, hb⟩
                obtain ⟨Wf, hWf⟩ : ∃ Wf, w11.alloc (.cells #[.int .i64 stock, .int .i64 store, .slice (some ⟨g', 0, none⟩) ds.length cp2] 60) = Wf := ⟨_, rfl⟩
                have HT : Hid (MR w Wf w2.heap.size w11.heap.size Wa.heap.size g' stock store stock store (some ⟨b, off, none⟩) ds cp ds cp2 a2 n2 cap2 (k + 2) ∧ PB Wf P pf q ∧ P < g') := by
                  rw [← hWf]
                  exact ⟨HMA.out.1.rich hd hb, alk (blk_below HMA.out.2 hb), Nat.lt_of_lt_of_le (lt_of_block HMA.out.2) hd.1⟩
                clear hd hb p0 p1
                go_upto_region 22 with (fail)
                clear hWf
                obtain ⟨_, _, e0, _, hcs⟩ := HT.out.1.kw.2.2 (by have := HF.out.2.2.1; omega)
                cases e0
                have m2 := hcs q d 2 _ HDD.out.1 rfl
                have m3 := hcs q d 3 _ HDD.out.1 rfl
                clear hcs
                have hwa : IntKind.i64.wrap (d.make.lo + N) = d.make.lo + N := IntWalk.i64_in _ (by have h := HDD.out.2; unfold SmallDay SmallSp at h; omega)
                have hwb : IntKind.i64.wrap (d.make.hi + N) = d.make.hi + N := IntWalk.i64_in _ (by have h := HDD.out.2; unfold SmallDay SmallSp at h; omega)
                have r2 := blk_cell HT.out.1.rb 2 rfl
                have c2 := blk_cell HT.out.1.kw.2.1 2 rfl
                have p1 := blk_cell HT.out.2.1 1 rfl
                have hbd : b < Wa.heap.size := HT.out.1.far ⟨b, off, none⟩ rfl
                have hog := HT.out.1.og
                have ne1 : w11.heap.size ≠ g' := by have := HT.out.1.o3; omega
                have ne2 : w2.heap.size ≠ g' := by have := HT.out.1.o2; omega
                have ne3 : P ≠ g' := by have := HT.out.2.2; omega
                have ne4 : b ≠ g' := by omega
                go_region_held3 (fun w' => w'.cell? ⟨w11.heap.size, 2, none⟩ = some (.slice (some ⟨g', 0, none⟩) ds.length cp2) ∧ w'.cell? ⟨w2.heap.size, 2, none⟩ = some (.slice (some ⟨b, off, none⟩) ds.length cp) ∧ w'.cell? ⟨P, 1, none⟩ = some (.int .i64 q) ∧ w'.cell? ⟨b, off + q * 6 + 2, none⟩ = some (.int .i64 d.make.lo) ∧ w'.cell? ⟨b, off + q * 6 + 3, none⟩ = some (.int .i64 d.make.hi)) (first | go_keep | exact ⟨(put2 ne1).trans r2, (put2 ne2).trans c2, (put2 ne3).trans p1, (put2 ne4).trans m2, (put2 ne4).trans m3⟩)
                  (first | (go_at_call 55; refine (span_any _ _ _).mono ?_; rintro e w12 ⟨rfl, hw12⟩; have hb12 := span_below hw12; have HT2 : Hid (MR w w12 w2.heap.size w11.heap.size Wa.heap.size g' stock store stock store (some ⟨b, off, none⟩) ds cp ds cp2 a2 n2 cap2 (k + 2) ∧ PB w12 P pf q) := ⟨HT.out.1.below hb12, blk_below HT.out.2.1 hb12⟩; clear hb12 hw12 m2 m3 r2 c2 p1; obtain ⟨_, _, e0, _, hcs⟩ := HT2.out.1.kw.2.2 (by have := HF.out.2.2.1; omega); cases e0; have m2 := hcs q d 2 _ HDD.out.1 rfl; have m3 := hcs q d 3 _ HDD.out.1 rfl; clear hcs; have r2 := blk_cell HT2.out.1.rb 2 rfl; have c2 := blk_cell HT2.out.1.kw.2.1 2 rfl; have p1 := blk_cell HT2.out.2 1 rfl; have y2 := HT2.out.1.dy.cell q d 2 _ HDD.out.1 rfl; have y3 := HT2.out.1.dy.cell q d 3 _ HDD.out.1 rfl; have f2 := HT2.out.1.dy.free (q * 6 + 2); have f3 := HT2.out.1.dy.free (q * 6 + 3)))
                all_goals (
                  obtain ⟨Wh, hWh⟩ : ∃ Wh, (w12.setCell ⟨g', q * 6 + 2, none⟩ (.int .i64 (d.make.lo + N))).setCell ⟨g', q * 6 + 2 + 1, none⟩ (.int .i64 (d.make.hi + N)) = Wh := ⟨_, rfl⟩
                  have HT3 : Hid (MR w Wh w2.heap.size w11.heap.size Wa.heap.size g' stock store stock store (some ⟨b, off, none⟩) ds cp (ds.set q { d with make := ⟨d.make.lo + N, d.make.hi + N⟩ }) cp2 a2 n2 cap2 (k + 2) ∧ PB Wh P pf q) := by
                    have hPg : P ≠ g' := by have := HT.out.2.2; omega
                    have hm1 := HT2.out.1.setDay q d { d with make := ⟨d.make.lo + N, d.make.hi⟩ } 2 (d.make.lo + N) HDD.out.1 (by omega) rfl
                    have hm2 := hm1.setDay q { d with make := ⟨d.make.lo + N, d.make.hi⟩ } { d with make := ⟨d.make.lo + N, d.make.hi + N⟩ } 3 (d.make.hi + N) (List.getElem?_set_self HQ.out.2) (by omega) rfl
                    rw [List.set_set] at hm2
                    rw [← hWh]
                    exact ⟨hm2, (Below.heap_setCell _ _ _ _ hPg).trans ((Below.heap_setCell _ _ _ _ hPg).trans HT2.out.2)⟩
                  clear m2 m3 r2 c2 p1 y2 y3 f2 f3 hwa hwb ne1 ne2 ne3 ne4
                  have HW9' : Hid (winE stock store (ds.set q { d with make := ⟨d.make.lo + N, d.make.hi + N⟩ }) = 0) := by
                    have h1 := HF.out
                    refine winE_day ⟨by omega, by omega⟩ h1.2.1 ⟨by rw [List.length_set]; omega, by rw [List.length_set]; omega⟩ (fun x hx => ?_)
                    rcases List.mem_or_eq_of_mem_set hx with h | rfl
                    · exact (h1.2.2.2 x h).ok
                    · have h := HDD.out.2
                      unfold SmallDay SmallSp at h
                      unfold DayOk
                      dsimp only
                      omega
                  have HP9' := Lib.hid (proves_not HW9'.out HQ.out.1 (by rw [List.length_set]; exact HQ.out.2) hq (HPT.out.2.2.2 hlt2))
                  have r0 := blk_cell HT3.out.1.rb 0 rfl
                  have r1 := blk_cell HT3.out.1.rb 1 rfl
                  have r2 : Wh.cell? ⟨w11.heap.size, 2, none⟩ = some (.slice (some ⟨g', 0, none⟩) ds.length cp2) := by have h := blk_cell HT3.out.1.rb 2 rfl; rw [show ds.length = (ds.set q { d with make := ⟨d.make.lo + N, d.make.hi + N⟩ }).length by rw [List.length_set]]; exact h
                  have p0 := blk_cell HT3.out.2 0 rfl
                  have p1 := blk_cell HT3.out.2 1 rfl
                  go_wp2_with (fail)
                  clear hWh r0 r1 r2 p0 p1
                  have HC := proves_any stock store pf q (some ⟨g', 0, none⟩) (ds.set q { d with make := ⟨d.make.lo + N, d.make.hi + N⟩ }) cp2 Wh HT3.out.1.dy.sl (by rw [List.length_set]; have := HF.out.2.2.1; omega)
                  rw [HP9'.out, List.length_set] at HC
                  refine HC.mono ?_
                  rintro e w13 ⟨rfl, hb⟩
                  have HME : Hid (MP w w13 w2.heap.size Wa.heap.size stock store (some ⟨b, off, none⟩) ds cp a2 n2 cap2 (k + 2)) := HT3.out.1.mp.below hb
                  clear hb HC
                  go_wp2_with (fail)
                  go_roundw
                  case rel => exact ⟨j + 1, k + 2, by go_num, by omega, by show k + 2 ≤ 2 * (j + 1); have := hk.out; omega, HME.out⟩
                  case measure => simp [intOf]; omega)
              · go_wp2_with (fail)
                go_roundw
                case rel => exact ⟨j + 1, k + 2, by go_num, by omega, by show k + 2 ≤ 2 * (j + 1); have := hk.out; omega, HMA.out.1⟩
                case measure => simp [intOf]; omega
    · have : j = 8 := by omega
      subst this
      go_wp2_with (first | (go_at_call 15; refine (awake_any _).mono ?_; rintro e v7 ⟨rfl, hb⟩; have HM2 := Lib.hid (hM.out.below hb); clear hb))
      go_ret
      exact ⟨rfl, HM2.out.kw.1⟩
end Go.Proofs.Ytkmcdmidegcbaaa
