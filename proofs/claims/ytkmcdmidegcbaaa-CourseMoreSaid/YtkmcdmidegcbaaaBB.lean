/-
  The contract of CourseMore over this seat's program.
  What is proved: it answers true; nothing that was there before has turned.
  Conditions: lists of bytes that read as such.
-/
import Derived.Test.YtkmcdmidegcbaaaBA
import Derived.Deep.DeepCutAuto
import Derived.Deep.RegionLaw
namespace Go.Proofs.Ytkmcdmidegcbaaa
open Go.RowKit Go.Shelf
attribute [local go_sem] Oper.semAt_some

set_option maxRecDepth 100000 in
set_option maxHeartbeats 16000000 in
theorem more_any (a : Option Addr) (n cap : Nat) (a2 : Option Addr) (n2 cap2 : Nat) (w : World) (hb : BytesAt w a n) (hn : n ≤ 140737488355328) (hb2 : BytesAt w a2 n2) (hn2 : n2 ≤ 140737488355328) :
    Calls Try.prog 12 #[.slice a n cap, .slice a2 n2 cap2] w fun e w' => e = .returned (.bool true) ∧ Below w.heap.size w w' := by
  have HO := Lib.hid (of_any a n cap w hb hn)
  have HB2 := Lib.hid (And.intro hb2 hn2)
  clear hb hn hb2 hn2
  go_enter Try.func12, Try.ntmps12
  go_wp2_with (fail)
  refine HO.out.mono ?_
  rintro e w1 ⟨rfl, hD, hb1⟩
  have HD := Lib.hid (And.intro hD hb1)
  clear hD hb1 HO
  go_wp2_with (fail)
  refine (made_any w.heap.size (w.heap.size + 1) a n cap 0 15 w1 HD.out.1 (by omega) (by omega)).mono ?_
  rintro e w2 ⟨stock, store, ad, ds, cp, rfl, hS, h1, h2, h3, h4, _, hA, _⟩
  obtain ⟨Wa, hWa⟩ : ∃ Wa, w2.alloc (.cells #[.int .i64 stock, .int .i64 store, .slice ad ds.length cp] 60) = Wa := ⟨_, rfl⟩
  have hb2 : Below w.heap.size w w2 := below_apart HD.out.2 hA (fun j hj => by omega)
  have HF : Hid ((20 ≤ store ∧ store ≤ 200) ∧ (0 ≤ stock ∧ stock ≤ store) ∧ (1 ≤ ds.length ∧ ds.length ≤ 15) ∧ (∀ d ∈ ds, SmallDay d)) := ⟨h1, h2, ⟨h3.1, by omega⟩, h4⟩
  have HW := Lib.hid (winE_small (stock := stock) (store := store) (ds := ds) ⟨by omega, by omega⟩ h2 ⟨h3.1, by omega⟩ h4)
  have HK : Hid (KW w Wa w2.heap.size stock store ad ds cp ∧ w2.heap.size < Wa.heap.size ∧ (∀ p, ad = some p → p.block < Wa.heap.size)) := by
    rw [← hWa]
    refine ⟨⟨hb2.alloc hb2.size _, heap_alloc_new _ _, hS.below (alloc1 _ _)⟩, by simp, fun p hp => ?_⟩
    obtain ⟨b, off, e, hlt, _⟩ := hS (by omega)
    rw [hp] at e
    cases e
    show b < _
    simp; omega
  clear hS h1 h2 h3 h4 hA hb2
  go_wp2_with (fail)
  clear hWa
  refine (of_any a2 n2 cap2 Wa (HB2.out.1.keep HK.out.1.1.size (fun _ p _ hp => HK.out.1.1.block _ hp)) HB2.out.2).mono ?_
  rintro e w3 ⟨rfl, hD, hb⟩
  have HK3 := Lib.hid (And.intro (HK.out.1.below hb) (And.intro hD hb))
  clear hD hb
  have c0 := blk_cell HK3.out.1.2.1 0 rfl
  have c1 := blk_cell HK3.out.1.2.1 1 rfl
  have c2 := blk_cell HK3.out.1.2.1 2 rfl
  go_wp2_with (fail)
  clear c0 c1 c2
  refine (cloneWinter_any stock store ad ds cp w3 HK3.out.1.2.2 (by have := HF.out.2.2.1; omega) (by have := HF.out.2.2.1; omega)).mono ?_
  rintro e w4 ⟨g, cp', rfl, hd, hb⟩
  obtain ⟨Wb, hWb⟩ : ∃ Wb, w4.alloc (.cells #[.int .i64 stock, .int .i64 store, .slice (some ⟨g, 0, none⟩) ds.length cp'] 60) = Wb := ⟨_, rfl⟩
  have HM : Hid (MR w Wb w2.heap.size w4.heap.size Wa.heap.size g stock store stock store ad ds cp ds cp' a2 n2 cap2 0) := by
    rw [← hWb]
    have hsz := HK3.out.2.1.lt
    have k1 := (HK3.out.1.below hb).below (alloc1 w4 (.cells #[.int .i64 stock, .int .i64 store, .slice (some ⟨g, 0, none⟩) ds.length cp'] 60))
    exact ⟨k1, heap_alloc_new _ _, (HK3.out.2.1.below hb).below (alloc1 _ _), by
      have h := hd.below (alloc1 w4 (.cells #[.int .i64 stock, .int .i64 store, .slice (some ⟨g, 0, none⟩) ds.length cp'] 60))
      exact ⟨by have := h.1; omega, owns_mono h.2 (by omega)⟩, HK.out.1.1.size, HK.out.2.1, hd.lt, HK.out.2.2⟩
  clear hd hb
  go_upto_region 4 with (fail)
  clear hWb
  go_cut [31] (fun _ wx => ∃ r : Int, (0 ≤ r ∧ r ≤ 19) ∧ MR w wx w2.heap.size w4.heap.size Wa.heap.size g stock store stock (store + r) ad ds cp ds cp' a2 n2 cap2 1)
  case first =>
    have d1 := blk_cell HM.out.rb 1 rfl
    have f1 := blk_free (j := 1) HM.out.rb
    have hso := HF.out.1
    go_region_law (first
      | (go_simp
         go_at_call 54
         refine (draw_any Wa.heap.size (Wa.heap.size + 1) a2 n2 cap2 0 20 _ (HM.out.dk.below ((Below.refl _ _).drew)) (by omega) (by omega)).mono ?_
         rintro e w5 ⟨⟨r, rfl, hr0, hr1⟩, hD, hA⟩
         have hA' : Apart (fun j => j = Wa.heap.size) Wb w5 := ⟨hA.os, hA.tape, hA.output, hA.size, hA.block⟩
         have HM5 := Lib.hid (HM.out.draw hA' hD)
         clear hD hA hA' d1 f1
         have d1 := blk_cell HM5.out.rb 1 rfl
         have f1 := blk_free (j := 1) HM5.out.rb
         have hwr : IntKind.i64.wrap (store + r) = store + r := IntWalk.i64_in _ (by omega)))
    all_goals (go_wp2_with (fail); go_meet; exact ⟨r, ⟨hr0, by omega⟩, HM5.out.setStore _⟩)
  case rest =>
    obtain ⟨r, hr, hM⟩ := hcut
    have HR := Lib.hid hr
    have HM := Lib.hid hM
    clear hr hM
    have d2 := blk_cell HM.out.rb 2 rfl
    go_wp2_with (fail)
    clear d2
    go_loopw [36] (fun i wr => ∃ (j : Nat) (ds' : List Dy) (k : Nat), i = .int .i64 j ∧ j ≤ ds.length ∧ Hid (k ≤ 1 + 3 * j) ∧ Hid (MR w wr w2.heap.size w4.heap.size Wa.heap.size g stock store stock (store + r) ad ds cp ds' cp' a2 n2 cap2 k ∧ Rich ds ds')) (fun i _ => ds.length - (intOf i).toNat)
    case atStart => exact ⟨0, ds, 1, rfl, Nat.zero_le _, by show 1 ≤ 1 + 3 * 0; omega, HM.out, rich_refl HF.out.2.2.2⟩
    case round =>
      obtain ⟨j, ds', k, rfl, hj, hk, hM⟩ := hrel
      have hlen : Hid (ds'.length = ds.length) := hM.out.2.1.1
      have hbd := HF.out.2.2.1
      have d2 : wr.cell? ⟨w4.heap.size, 2, none⟩ = some (.slice (some ⟨g, 0, none⟩) ds.length cp') := by have h := blk_cell hM.out.1.rb 2 rfl; rw [← hlen.out]; exact h
      by_cases hlt : j < ds.length
      · obtain ⟨d, hd⟩ : ∃ d, ds'[j]? = some d := ⟨_, List.getElem?_eq_getElem (by have := hlen.out; omega)⟩
        have HD := Lib.hid hd
        clear hd
        go_upto_region 9 with (fail)
        go_cut [36] from 36 to 91 (fun i wx => i = .int .i64 j ∧ ∃ (l : List Dy) (y : Dy), MR w wx w2.heap.size w4.heap.size Wa.heap.size g stock store stock (store + r) ad ds cp l cp' a2 n2 cap2 (k + 1) ∧ Rich ds l ∧ l[j]? = some y)
        case first =>
          have x0 : wr.cell? ⟨g, j * 6, none⟩ = some (.int .i64 d.need.lo) := hM.out.1.dy.cell j d 0 _ HD.out rfl
          have x1 := hM.out.1.dy.cell j d 1 _ HD.out rfl
          have f1 := hM.out.1.dy.free (j * 6 + 1)
          have hbs : (0 ≤ d.need.lo ∧ d.need.lo ≤ d.need.hi ∧ d.need.hi ≤ 100) ∧ d.make.lo ≤ d.make.hi ∧ d.loss.lo ≤ d.loss.hi := by
            have h := hM.out.2.2 d (List.mem_of_getElem? HD.out)
            obtain ⟨⟨a1, a2, a3⟩, ⟨b1, b2, b3⟩, c1, c2, c3⟩ := h
            omega
          go_region_law (first
            | (go_simp
               go_at_call 53
               refine (between_any Wa.heap.size (Wa.heap.size + 1) a2 n2 cap2 k d.need.lo d.need.hi _ (hM.out.1.dk.below ((Below.refl _ _).drew)) (by have := hk.out; omega) ⟨by omega, by omega, by omega⟩).mono ?_
               rintro e w5 ⟨⟨v, rfl, hv0, hv1⟩, hD, hA⟩
               have hA' : Apart (fun j => j = Wa.heap.size) wr w5 := ⟨hA.os, hA.tape, hA.output, hA.size, hA.block⟩
               have HM5 := Lib.hid (hM.out.1.draw hA' hD)
               clear hD hA hA' x0 x1 f1
               have x1 := HM5.out.dy.cell j d 1 _ HD.out rfl
               have f1 := HM5.out.dy.free (j * 6 + 1)))
          all_goals (
            go_wp2_with (fail)
            go_meet
            refine ⟨rfl, ds'.set j { d with need := ⟨d.need.lo, v⟩ }, { d with need := ⟨d.need.lo, v⟩ }, HM5.out.setDay j d { d with need := ⟨d.need.lo, v⟩ } 1 v HD.out (by omega) rfl, rich_set hM.out.2 j d { d with need := ⟨d.need.lo, v⟩ } HD.out ?_ ⟨hv0, hv1⟩ ⟨Int.le_refl _, hbs.2.1⟩ ⟨hbs.2.2, Int.le_refl _⟩ ⟨rfl, rfl, rfl⟩, ?_⟩
            · have h := hM.out.2.2 d (List.mem_of_getElem? HD.out)
              unfold SmallDay SmallSp at h ⊢
              dsimp only
              omega
            · rw [List.getElem?_set_self]
              have h := HD.out
              rcases Nat.lt_or_ge j ds'.length with hh | hh
              · exact hh
              · rw [List.getElem?_eq_none hh] at h; cases h)
        obtain ⟨rfl, l9, d9, hm1, hm2, hm3⟩ := hcut
        have HM9 := Lib.hid (And.intro hm1 hm2)
        have HD9 := Lib.hid hm3
        clear hm1 hm2 hm3
        rename World => W9
        go_upto_region 10 with (fail)
        go_cut [36] from 36 to 91 (fun i wx => i = .int .i64 j ∧ ∃ (l : List Dy) (y : Dy), MR w wx w2.heap.size w4.heap.size Wa.heap.size g stock store stock (store + r) ad ds cp l cp' a2 n2 cap2 ((k + 1) + 1) ∧ Rich ds l ∧ l[j]? = some y)
        case first =>
          have x0 := HM9.out.1.dy.cell j d9 2 _ HD9.out rfl
          have x1 := HM9.out.1.dy.cell j d9 3 _ HD9.out rfl
          have f1 := HM9.out.1.dy.free (j * 6 + 2)
          have hbs : (0 ≤ d9.make.lo ∧ d9.make.lo ≤ d9.make.hi ∧ d9.make.hi ≤ 100) ∧ d9.need.lo ≤ d9.need.hi ∧ d9.loss.lo ≤ d9.loss.hi := by
            have h := HM9.out.2.2 d9 (List.mem_of_getElem? HD9.out)
            obtain ⟨⟨a1, a2, a3⟩, ⟨b1, b2, b3⟩, c1, c2, c3⟩ := h
            omega
          go_region_law (first
            | (go_simp
               go_at_call 53
               refine (between_any Wa.heap.size (Wa.heap.size + 1) a2 n2 cap2 (k + 1) d9.make.lo d9.make.hi _ (HM9.out.1.dk.below ((Below.refl _ _).drew)) (by have := hk.out; omega) ⟨by omega, by omega, by omega⟩).mono ?_
               rintro e w5 ⟨⟨v, rfl, hv0, hv1⟩, hD, hA⟩
               have hA' : Apart (fun j => j = Wa.heap.size) W9 w5 := ⟨hA.os, hA.tape, hA.output, hA.size, hA.block⟩
               have HM5 := Lib.hid (HM9.out.1.draw hA' hD)
               clear hD hA hA' x0 x1 f1
               have x1 := HM5.out.dy.cell j d9 2 _ HD9.out rfl
               have f1 := HM5.out.dy.free (j * 6 + 2)))
          all_goals (
            go_wp2_with (fail)
            go_meet
            refine ⟨rfl, l9.set j { d9 with make := ⟨v, d9.make.hi⟩ }, { d9 with make := ⟨v, d9.make.hi⟩ }, HM5.out.setDay j d9 { d9 with make := ⟨v, d9.make.hi⟩ } 2 v HD9.out (by omega) rfl, rich_set HM9.out.2 j d9 { d9 with make := ⟨v, d9.make.hi⟩ } HD9.out ?_ ⟨hbs.2.1, Int.le_refl _⟩ ⟨hv0, hv1⟩ ⟨hbs.2.2, Int.le_refl _⟩ ⟨rfl, rfl, rfl⟩, ?_⟩
            · have h := HM9.out.2.2 d9 (List.mem_of_getElem? HD9.out)
              unfold SmallDay SmallSp at h ⊢
              dsimp only
              omega
            · rw [List.getElem?_set_self]
              have h := HD9.out
              rcases Nat.lt_or_ge j l9.length with hh | hh
              · exact hh
              · rw [List.getElem?_eq_none hh] at h; cases h)
        obtain ⟨rfl, l10, d10, hm1, hm2, hm3⟩ := hcut
        have HM10 := Lib.hid (And.intro hm1 hm2)
        have HD10 := Lib.hid hm3
        clear hm1 hm2 hm3
        rename World => W10
        go_upto_region 11 with (fail)
        have x0 := HM10.out.1.dy.cell j d10 4 _ HD10.out rfl
        have x1 := HM10.out.1.dy.cell j d10 5 _ HD10.out rfl
        have f1 := HM10.out.1.dy.free (j * 6 + 5)
        have hbs : (0 ≤ d10.loss.lo ∧ d10.loss.lo ≤ d10.loss.hi ∧ d10.loss.hi ≤ 100) ∧ d10.need.lo ≤ d10.need.hi ∧ d10.make.lo ≤ d10.make.hi := by
          have h := HM10.out.2.2 d10 (List.mem_of_getElem? HD10.out)
          obtain ⟨⟨a1, a2, a3⟩, ⟨b1, b2, b3⟩, c1, c2, c3⟩ := h
          omega
        go_region_law (first
          | (go_simp
             go_at_call 53
             refine (between_any Wa.heap.size (Wa.heap.size + 1) a2 n2 cap2 (k + 1 + 1) d10.loss.lo d10.loss.hi _ (HM10.out.1.dk.below ((Below.refl _ _).drew)) (by have := hk.out; omega) ⟨by omega, by omega, by omega⟩).mono ?_
             rintro e w5 ⟨⟨v, rfl, hv0, hv1⟩, hD, hA⟩
             have hA' : Apart (fun j => j = Wa.heap.size) W10 w5 := ⟨hA.os, hA.tape, hA.output, hA.size, hA.block⟩
             have HM5 := Lib.hid (HM10.out.1.draw hA' hD)
             clear hD hA hA' x0 x1 f1
             have x1 := HM5.out.dy.cell j d10 5 _ HD10.out rfl
             have f1 := HM5.out.dy.free (j * 6 + 5)))
        all_goals (
          have HM11 : Hid (MR w (w5.setCell ⟨g, j * 6 + 5, none⟩ (.int .i64 v)) w2.heap.size w4.heap.size Wa.heap.size g stock store stock (store + r) ad ds cp (l10.set j { d10 with loss := ⟨d10.loss.lo, v⟩ }) cp' a2 n2 cap2 (k + 1 + 1 + 1) ∧ Rich ds (l10.set j { d10 with loss := ⟨d10.loss.lo, v⟩ })) := by
            refine ⟨HM5.out.setDay j d10 { d10 with loss := ⟨d10.loss.lo, v⟩ } 5 v HD10.out (by omega) rfl, rich_set HM10.out.2 j d10 { d10 with loss := ⟨d10.loss.lo, v⟩ } HD10.out ?_ ⟨hbs.2.1, Int.le_refl _⟩ ⟨Int.le_refl _, hbs.2.2⟩ ⟨hv0, hv1⟩ ⟨rfl, rfl, rfl⟩⟩
            have h := HM10.out.2.2 d10 (List.mem_of_getElem? HD10.out)
            unfold SmallDay SmallSp at h ⊢
            dsimp only
            omega
          clear hbs hv0 hv1
          go_wp2_with (fail)
          go_roundw
          case rel => exact ⟨j + 1, _, k + 1 + 1 + 1, by go_num, by omega, by show k + 1 + 1 + 1 ≤ 1 + 3 * (j + 1); have := hk.out; omega, HM11⟩
          case measure => simp [intOf]; omega)
      · have : j = ds.length := by omega
        subst this
        have HM := Lib.hid hM.out.1
        have HR2 := Lib.hid hM.out.2
        clear hM
        have HW2 : Hid (winE stock (store + r) ds' = 0) := by
          have h1 := HF.out
          have h2 := HR.out
          exact winE_small ⟨by omega, by omega⟩ ⟨by omega, by omega⟩ ⟨by rw [hlen.out]; omega, by rw [hlen.out]; omega⟩ HR2.out.2
        have HLn : Hid (ds.length ≤ 1000000 ∧ ds'.length ≤ 1000000) := by
          have h1 := hlen.out
          exact ⟨by omega, by omega⟩
        clear hbd d2 hj hlt
        have c0 := blk_cell HM.out.kw.2.1 0 rfl
        have c1 := blk_cell HM.out.kw.2.1 1 rfl
        have c2 := blk_cell HM.out.kw.2.1 2 rfl
        go_wp2_with (fail)
        clear c0 c1 c2
        refine (Least_any stock store ad ds cp wr HM.out.kw.2.2 HLn.out.1).mono ?_
        rintro e v1 ⟨ho, hb⟩
        rw [if_pos HW.out] at ho
        obtain ⟨N, E, hL, rfl⟩ := least_or ho
        have HL1 := Lib.hid hL
        have HM := Lib.hid (HM.out.below hb)
        clear hb ho hL
        have c0 := blk_cell HM.out.rb 0 rfl
        have c1 := blk_cell HM.out.rb 1 rfl
        have c2 := blk_cell HM.out.rb 2 rfl
        go_wp2_with (fail)
        clear c0 c1 c2
        refine (Least_any stock (store + r) (some ⟨g, 0, none⟩) ds' cp' v1 HM.out.dy.sl HLn.out.2).mono ?_
        rintro e v2 ⟨ho, hb⟩
        rw [if_pos HW2.out] at ho
        obtain ⟨N', E', hL, rfl⟩ := least_or ho
        have HL2 := Lib.hid hL
        have HM := Lib.hid (HM.out.below hb)
        clear hb ho hL
        have c0 := blk_cell HM.out.kw.2.1 0 rfl
        have c1 := blk_cell HM.out.kw.2.1 1 rfl
        have c2 := blk_cell HM.out.kw.2.1 2 rfl
        go_wp2_with (fail)
        clear c0 c1 c2
        refine (Room_any stock store ad ds cp v2 HM.out.kw.2.2 HLn.out.1).mono ?_
        rintro e v3 ⟨ho, hb⟩
        rw [if_pos HW.out] at ho
        obtain ⟨M, F, hL, rfl⟩ := least_or ho
        have HL3 := Lib.hid hL
        have HM := Lib.hid (HM.out.below hb)
        clear hb ho hL
        have c0 := blk_cell HM.out.rb 0 rfl
        have c1 := blk_cell HM.out.rb 1 rfl
        have c2 := blk_cell HM.out.rb 2 rfl
        go_wp2_with (fail)
        clear c0 c1 c2
        refine (Room_any stock (store + r) (some ⟨g, 0, none⟩) ds' cp' v3 HM.out.dy.sl HLn.out.2).mono ?_
        rintro e v4 ⟨ho, hb⟩
        rw [if_pos HW2.out] at ho
        obtain ⟨M', F', hL, rfl⟩ := least_or ho
        have HL4 := Lib.hid hL
        have HM := Lib.hid (HM.out.below hb)
        clear hb ho hL
        go_upto_region 17 with (fail)
        go_cut [138] (fun s wx => s = .bool false ∧ wx = v4)
        case first => as_aux_lemma =>
          have hst := HF.out.2.1
          have hr0 := HR.out
          have c0 := blk_cell HM.out.rb 0 rfl
          have m1 := least_mono HL1.out HL2.out (by omega) (fun v h1 h2 h3 => more_ok HF.out.2.2.2 HR2.out.1 (Int.le_refl v) (show store ≤ store + r by omega) ⟨h1, h2⟩ (by omega) h3)
          have hlo : stock ≤ roomLo stock := by unfold roomLo; split <;> omega
          have m2 := least_mono HL3.out HL4.out (Int.le_refl _) (fun v h1 h2 h3 => more_ok HF.out.2.2.2 HR2.out.1 (Int.le_refl stock) (Int.le_refl v) ⟨hst.1, by omega⟩ (by omega) h3)
          rcases m1 with ⟨rfl, rfl, a1, a2, a3, a4⟩ | ⟨rfl, rfl | rfl⟩
          all_goals (rcases m2 with ⟨rfl, rfl, b1, b2, b3, b4⟩ | ⟨rfl, rfl | rfl⟩)
          all_goals (
            try (have b5 : stock ≤ M := by omega)
            go_wp2_with (fail)
            go_meet
            first | exact ⟨rfl, rfl⟩ | exact ⟨congrArg Value.bool (by simp; omega), rfl⟩)
        case rest => as_aux_lemma =>
          obtain ⟨rfl, rfl⟩ := hcut
          go_upto_region 19 with (fail)
          go_cut [146] (fun _ wx => ∃ x : Int, (stock ≤ x ∧ x ≤ store + r) ∧ ∃ k', MR w wx w2.heap.size w4.heap.size Wa.heap.size g stock store x (store + r) ad ds cp ds' cp' a2 n2 cap2 k')
          case first => as_aux_lemma =>
            have hst := HF.out.2.1
            have hso := HF.out.1
            have hr0 := HR.out
            have hbd := HF.out.2.2.1
            have d1 := blk_cell HM.out.rb 1 rfl
            have f0 := blk_free (j := 0) HM.out.rb
            have e0 := blk_cell HM.out.rb 0 rfl
            have b0 := blk_cell HM.out.kw.2.1 0 rfl
            go_region_law (first
              | (go_simp
                 go_at_call 54
                 refine (draw_any Wa.heap.size (Wa.heap.size + 1) a2 n2 cap2 k 20 _ (HM.out.dk.below ((Below.refl _ _).drew)) (by have := hk.out; omega) (by omega)).mono ?_
                 rintro e w5 ⟨⟨t, rfl, ht0, ht1⟩, hD, hA⟩
                 have hA' : Apart (fun j => j = Wa.heap.size) wc w5 := ⟨hA.os, hA.tape, hA.output, hA.size, hA.block⟩
                 have HM5 := Lib.hid (HM.out.draw hA' hD)
                 clear hD hA hA' d1 f0 e0 b0
                 have d1 := blk_cell HM5.out.rb 1 rfl
                 have e0 := blk_cell HM5.out.rb 0 rfl
                 have b0 := blk_cell HM5.out.kw.2.1 0 rfl
                 have f0 := blk_free (j := 0) HM5.out.rb
                 have hwt : IntKind.i64.wrap (stock + t) = stock + t := IntWalk.i64_in _ (by omega)))
            all_goals (
              go_wp2_with (fail)
              all_goals (
                go_meet
                exact ⟨_, ⟨by omega, by omega⟩, _, HM5.out.setStock _⟩))
          case rest => as_aux_lemma =>
            obtain ⟨x, hx, k', hM⟩ := hcut
            have HX := Lib.hid hx
            have HM := Lib.hid hM
            clear hx hM
            have c0 := blk_cell HM.out.kw.2.1 0 rfl
            have c1 := blk_cell HM.out.kw.2.1 1 rfl
            have c2 := blk_cell HM.out.kw.2.1 2 rfl
            go_wp2_with (fail)
            clear c0 c1 c2
            refine (First_any stock store ad ds cp _ HM.out.kw.2.2 HLn.out.1).mono ?_
            rintro e v5 ⟨rfl, hb⟩
            have HM := Lib.hid (HM.out.below hb)
            clear hb
            have c0 := blk_cell HM.out.rb 0 rfl
            have c1 := blk_cell HM.out.rb 1 rfl
            have c2 := blk_cell HM.out.rb 2 rfl
            go_wp2_with (fail)
            clear c0 c1 c2
            refine (First_any x (store + r) (some ⟨g, 0, none⟩) ds' cp' v5 HM.out.dy.sl HLn.out.2).mono ?_
            rintro e v6 ⟨rfl, hb⟩
            have HM := Lib.hid (HM.out.below hb)
            clear hb
            have HW3 : Hid (winE x (store + r) ds' = 0) := by
              have h1 := HF.out
              have h2 := HR.out
              have h3 := HX.out
              exact winE_small ⟨by omega, by omega⟩ ⟨by omega, by omega⟩ ⟨by rw [hlen.out]; omega, by rw [hlen.out]; omega⟩ HR2.out.2
            have q1 := first_or HW.out
            have q2 := first_or HW3.out
            have q3 := more_ok HF.out.2.2.2 HR2.out.1 HX.out.1 (show store ≤ store + r by have := HR.out; omega) HF.out.2.1 HX.out.2
            have q4 := (worst_less HF.out.2.2.2 HR2.out.1 HX.out.1 (show store ≤ store + r by have := HR.out; omega) HF.out.2.1 HX.out.2).day
            have HC : Hid (∃ x1 e1 x2 e2 : Int, (failR stock store ds).1 = x1 ∧ (failR stock store ds).2.2 = e1 ∧ (failR x (store + r) ds').1 = x2 ∧ (failR x (store + r) ds').2.2 = e2 ∧ ((e1 = 6 ∧ e2 = 6) ∨ (e1 = 0 ∧ e2 = 6) ∨ (e1 = 0 ∧ e2 = 0 ∧ x1 ≤ x2))) := by
              refine ⟨_, _, _, _, rfl, rfl, rfl, rfl, ?_⟩
              rcases q1 with ⟨a1, a2, a3⟩ | ⟨a1, a2, a3⟩
              · rcases q2 with ⟨b1, b2, b3⟩ | ⟨b1, b2, b3⟩
                · exact .inl ⟨a1, b1⟩
                · rw [q3 a3] at b3; cases b3
              · rcases q2 with ⟨b1, b2, b3⟩ | ⟨b1, b2, b3⟩
                · exact .inr (.inl ⟨a1, b1⟩)
                · refine .inr (.inr ⟨a1, b1, ?_⟩)
                  rw [a2, b2]
                  rcases q4 with h | h
                  · rw [okB, h] at b3; cases b3
                  · exact h.2
            clear q1 q2 q3 q4
            obtain ⟨x1, e1, x2, e2, g1, g2, g3, g4, hc⟩ := HC.out
            rw [g1, g2, g3, g4]
            clear g1 g2 g3 g4 HC
            rcases hc with ⟨rfl, rfl⟩ | ⟨rfl, rfl⟩ | ⟨rfl, rfl, hle⟩
            all_goals (
              go_wp2_with (first | (go_at_call 15; refine (awake_any _).mono ?_; rintro e v7 ⟨rfl, hb⟩; have HM := Lib.hid (HM.out.below hb); clear hb))
              go_ret
              exact ⟨rfl, HM.out.kw.1⟩)
end Go.Proofs.Ytkmcdmidegcbaaa
