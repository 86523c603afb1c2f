/-
The contracts of judge, marks.rules and Broken over this seat's program.
  What is proved: what each call returns, and that nothing that was there before it has turned.
  Conditions: a stadium whose numbers are allowed, and a course of its loops.
The contracts of marks.rules and Broken over this seat's program.
  What is proved: what each call returns, and that nothing that was there before it has turned.
  Conditions: slices of at most 1000000 elements.
-/
import Derived.Test.YtmebmcipmemofaaGreatPart4
import Derived.Handy
import Derived.Deep.RegionHeld3
import Derived.Deep.DeepCutAuto
namespace Go.Proofs.YtmebmcipmemofaaGreat
open Go.RowKit

structure Mk where
  a : Bool
  b : Bool
  c : Bool
  d : Bool
  e : Bool
abbrev Mk.v (m : Mk) : Value := .agg #[.bool m.a, .bool m.b, .bool m.c, .bool m.d, .bool m.e]

def lenAt (xs : List Lp) (i : Int) : Int := ((xs[i.toNat]?).map Lp.l).getD 0
def climbAt (xs : List Lp) (i : Int) : Int := ((xs[i.toNat]?).map Lp.c).getD 0
def wideAt (xs : List Lp) (i : Int) : Int := ((xs[i.toNat]?).map Lp.d).getD 0

/-- The marks of a course. -/
def judgeM (xs : List Lp) (r : Ru) (c : List Int) : Mk :=
  { a := !insideB (sumI (c.map (lenAt xs))) r.len,
    b := !insideB (sumI (c.map (climbAt xs))) r.climb,
    c := !(c.map (lenAt xs)).all (fun n => insideB n r.lap),
    d := !c.all (fun i => decide (r.wide ≤ wideAt xs i)),
    e := oftenB c r.uses }

theorem eg115 : ∀ args w, (callFunc 145 args).run Tryz.prog w = .ok (.enter 145 args) w := enters_of Tryz.func145 (by kernel_rfl) rfl
theorem eg116 : ∀ args w, (callFunc 146 args).run Tryz.prog w = .ok (.enter 146 args) w := enters_of Tryz.func146 (by kernel_rfl) rfl
theorem eg119 : ∀ args w, (callFunc 149 args).run Tryz.prog w = .ok (.enter 149 args) w := enters_of Tryz.func149 (by kernel_rfl) rfl
theorem eg120 : ∀ args w, (callFunc 150 args).run Tryz.prog w = .ok (.enter 150 args) w := enters_of Tryz.func150 (by kernel_rfl) rfl

theorem blk_setCell {w : World} {B j : Nat} {u : Value} {cur : Array Value} {t : TypeId} (h : w.heap[B]? = some (.cells cur t (0, 0))) : (w.setCell ⟨B, j, none⟩ u).heap[B]? = some (.cells (cur.setIfInBounds j u) t (0, 0)) := by
  have hlt := lt_of_block h
  have h' : w.heap[B] = .cells cur t (0, 0) := by simpa [Array.getElem?_eq_getElem hlt] using h
  show (w.heap.modify B _)[B]? = _
  rw [Array.getElem?_eq_getElem (by simpa using hlt), Array.getElem_modify_self, h']
  rfl
theorem blk_other {w : World} {B C j : Nat} {u : Value} {o : Obj} (h : w.heap[C]? = some o) (hne : C ≠ B) : (w.setCell ⟨B, j, none⟩ u).heap[C]? = some o := (Below.heap_setCell w ⟨B, j, none⟩ u C hne).trans h
theorem blk_below {w w' : World} {B : Nat} {o : Obj} (h : w.heap[B]? = some o) (hb : Below w.heap.size w w') : w'.heap[B]? = some o := (hb.block B (lt_of_block h)).trans h
theorem blk_cell {w : World} {B : Nat} {cur : Array Value} {t : TypeId} (h : w.heap[B]? = some (.cells cur t (0, 0))) (j : Nat) {v : Value} (hv : cur[j]? = some v) : w.cell? ⟨B, j, none⟩ = some v := (cell_of_row w B j _ _ _ h).trans hv
theorem blk_free {w : World} {B j : Nat} {cur : Array Value} {t : TypeId} (h : w.heap[B]? = some (.cells cur t (0, 0))) : w.frozen? ⟨B, j, none⟩ = false := by simp [World.frozen?, h]
theorem sl_set {α : Type} {sz : Nat} {cells : α → List Int} {w : World} {a : Option Addr} {xs : List α} {B j : Nat} {u : Value} (h : Sl sz cells w a xs) (hne : ∀ p, a = some p → p.block ≠ B) : Sl sz cells (w.setCell ⟨B, j, none⟩ u) a xs := fun h0 => by
  obtain ⟨b, off, rfl, hbs, hc⟩ := h h0
  refine ⟨b, off, rfl, by rw [World.size_setCell]; exact hbs, fun k x i v hx hu => ?_⟩
  rw [World.cell?_of_block (w := w) (Below.heap_setCell w _ u b (hne _ rfl))]
  exact hc k x i v hx hu
theorem ints_set {w : World} {a : Option Addr} {xs : List Int} {B j : Nat} {u : Value} (h : IntSl w a xs) (hne : ∀ p, a = some p → p.block ≠ B) : IntSl (w.setCell ⟨B, j, none⟩ u) a xs := fun h0 => by
  obtain ⟨b, off, rfl, hbs, hc⟩ := h h0
  refine ⟨b, off, rfl, by rw [World.size_setCell]; exact hbs, fun k hk => ?_⟩
  rw [World.cell?_of_block (w := w) (Below.heap_setCell w _ u b (hne _ rfl))]
  exact hc k hk

def MkAt (w : World) (B : Nat) (m : Mk) : Prop := w.heap[B]? = some (.cells #[.bool m.a, .bool m.b, .bool m.c, .bool m.d, .bool m.e] 183 (0, 0))

/-- What stays as it is while judge runs. -/
structure JEnv (w : World) (a : Option Addr) (n cap : Nat) (r : Ru) (W : World) : Prop where
  b : Below w.heap.size w W
  r : RuAt W (w.heap.size + 1) r
  s : W.heap[w.heap.size]? = some (.cells #[.slice a n cap] 22 (0, 0))
theorem JEnv.below {w W W' : World} {a : Option Addr} {n cap : Nat} {r : Ru} (h : JEnv w a n cap r W) (hb : Below W.heap.size W W') : JEnv w a n cap r W' := ⟨below_self h.b hb, h.r.below hb, blk_below h.s hb⟩
theorem JEnv.set {w W : World} {a : Option Addr} {n cap : Nat} {r : Ru} (h : JEnv w a n cap r W) (j : Nat) (u : Value) : JEnv w a n cap r (W.setCell ⟨w.heap.size + 1 + 1, j, none⟩ u) :=
  ⟨h.b.setCell (p := ⟨w.heap.size + 1 + 1, j, none⟩) (by show w.heap.size ≤ w.heap.size + 1 + 1; omega) _, blk_other h.r (by omega), blk_other h.s (by omega)⟩

set_option maxHeartbeats 1000000 in
set_option maxRecDepth 100000 in
theorem judge_any (a : Option Addr) (xs : List Lp) (cap : Nat) (r : Ru) (ac : Option Addr) (c : List Int) (ccap : Nat) (w : World) (hx : Sl 3 Lp.cells w a xs) (hc : IntSl w ac c)
    (hl : xs.length ≤ 1000000) (hcl : c.length ≤ 1000000) (hal : xs.all allowedB = true) (hin : ∀ i ∈ c, 0 ≤ i ∧ i < xs.length) :
    Calls Tryz.prog 109 #[.slice a xs.length cap, r.v, .slice ac c.length ccap] w fun e w' => e = .returned (judgeM xs r c).v ∧ Below w.heap.size w w' := by
  have hmf : ∀ (fn : Fn) (first cap : Array Value) (w : World), (Instr.makeFunc fn first cap).run Tryz.prog w = .ok (.func fn first cap) w := fun _ _ _ _ => rfl
  obtain ⟨ys, hys⟩ : ∃ ys, c.map (lenAt xs) = ys := ⟨_, rfl⟩
  obtain ⟨zs, hzs⟩ : ∃ zs, c.map (climbAt xs) = zs := ⟨_, rfl⟩
  have hal' : ∀ x ∈ xs, 0 ≤ x.l ∧ x.l ≤ 1000000000 ∧ 0 ≤ x.c ∧ x.c ≤ 1000000000 := fun x hx => by
    have := List.all_eq_true.1 hal x hx
    simp [allowedB, withinB] at this; omega
  have hgl : ∀ i ∈ c, 0 ≤ lenAt xs i ∧ lenAt xs i ≤ 1000000000 ∧ 0 ≤ climbAt xs i ∧ climbAt xs i ≤ 1000000000 := fun i hi => by
    obtain ⟨h0, h1⟩ := hin i hi
    have hlt : i.toNat < xs.length := by omega
    have := hal' xs[i.toNat] (List.getElem_mem hlt)
    simp [lenAt, climbAt, List.getElem?_eq_getElem hlt]; omega
  have hyl : ys.length ≤ 1000000 := by rw [← hys, List.length_map]; exact hcl
  have hzl : zs.length ≤ 1000000 := by rw [← hzs, List.length_map]; exact hcl
  have hyb : ∀ x ∈ ys, 0 ≤ x ∧ x ≤ 1000000000 := fun x hx => by
    rw [← hys] at hx; obtain ⟨i, hi, rfl⟩ := List.mem_map.1 hx; have := hgl i hi; omega
  have hzb : ∀ x ∈ zs, 0 ≤ x ∧ x ≤ 1000000000 := fun x hx => by
    rw [← hzs] at hx; obtain ⟨i, hi, rfl⟩ := List.mem_map.1 hx; have := hgl i hi; omega
  have hwf : ∀ x ∈ c, (Lit.int .i64 x).wf = true := fun x hx => by have := hin x hx; exact WalkArith.wf_i64 (by omega)
  obtain ⟨W0, hW0⟩ : ∃ W0, ((w.alloc (.cells #[.slice a xs.length cap] 22)).alloc (.cells #[.int .i64 r.laps, .int .i64 r.len.lo, .int .i64 r.len.hi, .int .i64 r.climb.lo, .int .i64 r.climb.hi, .int .i64 r.lap.lo, .int .i64 r.lap.hi, .int .i64 r.wide, .int .i64 r.uses] 26)).alloc (.cells #[.bool false, .bool false, .bool false, .bool false, .bool false] 183) = W0 := ⟨_, rfl⟩
  have hb0 : Below w.heap.size w W0 := by rw [← hW0]; exact (((Below.refl _ _).alloc (Nat.le_refl _) _).alloc (by simp) _).alloc (by simp; omega) _
  have hz0 : W0.heap.size = w.heap.size + 3 := by rw [← hW0]; simp
  have hM0 : W0.heap[w.heap.size + 2]? = some (.cells #[.bool false, .bool false, .bool false, .bool false, .bool false] 183 (0, 0)) := by
    rw [← hW0]; have := heap_alloc_new ((w.alloc (.cells #[.slice a xs.length cap] 22)).alloc (.cells #[.int .i64 r.laps, .int .i64 r.len.lo, .int .i64 r.len.hi, .int .i64 r.climb.lo, .int .i64 r.climb.hi, .int .i64 r.lap.lo, .int .i64 r.lap.hi, .int .i64 r.wide, .int .i64 r.uses] 26)) (.cells #[.bool false, .bool false, .bool false, .bool false, .bool false] 183); simpa using this
  have hR0 : RuAt W0 (w.heap.size + 1) r := by
    rw [← hW0]; have := heap_alloc_new (w.alloc (.cells #[.slice a xs.length cap] 22)) (.cells #[.int .i64 r.laps, .int .i64 r.len.lo, .int .i64 r.len.hi, .int .i64 r.climb.lo, .int .i64 r.climb.hi, .int .i64 r.lap.lo, .int .i64 r.lap.hi, .int .i64 r.wide, .int .i64 r.uses] 26)
    exact (Below.heap_alloc _ _ _ (by simp)).trans (by simpa using this)
  have hS0 : W0.heap[w.heap.size]? = some (.cells #[.slice a xs.length cap] 22 (0, 0)) := by
    rw [← hW0]; exact (Below.heap_alloc _ _ _ (by simp; omega)).trans ((Below.heap_alloc _ _ _ (by simp)).trans (heap_alloc_new w _))
  have Hpost : Hid (judgeM xs r c = { a := !insideB (sumI ys) r.len, b := !insideB (sumI zs) r.climb, c := !ys.all (fun n => insideB n r.lap), d := !c.all (fun i => decide (r.wide ≤ wideAt xs i)), e := oftenB c r.uses }) := by
    rw [← hys, ← hzs]; rfl
  have E0 : JEnv w a xs.length cap r W0 := ⟨hb0, hR0, hS0⟩
  have C1 : Calls Tryz.prog 144 #[.slice ac c.length ccap, .func (.func 145) #[] #[.pointer (some ⟨w.heap.size, 0, none⟩)]] W0 (OutInts W0 ys) := by
    rw [← hys]
    refine mapped_int ac c ccap 145 _ (lenAt xs) W0 (hc.below hb0) hcl eg115 fun x hxc W hW => ?_
    obtain ⟨h0, h1⟩ := hin x hxc
    obtain ⟨i, rfl⟩ := Int.eq_ofNat_of_zero_le h0
    have hlt : i < xs.length := by omega
    have E := E0.below hW
    exact (judge1_any i a xs cap w.heap.size W (hx.below E.b) hlt hl (blk_cell E.s 0 rfl)).mono fun e W' h => ⟨h.1.trans (by simp [lenAt, hlt]), h.2 ▸ Below.refl _ _⟩
  have C2 : ∀ W1, JEnv w a xs.length cap r W1 → Calls Tryz.prog 144 #[.slice ac c.length ccap, .func (.func 146) #[] #[.pointer (some ⟨w.heap.size, 0, none⟩)]] W1 (OutInts W1 zs) := fun W1 E1 => by
    rw [← hzs]
    refine mapped_int ac c ccap 146 _ (climbAt xs) W1 (hc.below E1.b) hcl eg116 fun x hxc W hW => ?_
    obtain ⟨h0, h1⟩ := hin x hxc
    obtain ⟨i, rfl⟩ := Int.eq_ofNat_of_zero_le h0
    have hlt : i < xs.length := by omega
    have E := E1.below hW
    exact (judge2_any i a xs cap w.heap.size W (hx.below E.b) hlt hl (blk_cell E.s 0 rfl)).mono fun e W' h => ⟨h.1.trans (by simp [climbAt, hlt]), h.2 ▸ Below.refl _ _⟩
  have HC2 := Lib.hid C2
  clear C2 hys hzs
  have HZ0 := Lib.hid hz0
  clear hz0
  go_enter Tryz.func109, Tryz.ntmps109
  go_wp2_with fail
  refine C1.mono ?_
  rintro e w1 ⟨a1, cap1, rfl, hY, hYf, hb1⟩
  have E1 := E0.below hb1
  have M1 := blk_below hM0 hb1
  clear C1 hW0 hM0 hR0 hS0 E0
  go_wp2_with fail
  refine (HC2.out _ E1).mono ?_
  rintro e w2 ⟨a2, cap2, rfl, hZ, hZf, hb2⟩
  have E2 := E1.below hb2
  have hY2 := hY.below hb2
  have R2 := blk_below M1 hb2
  clear M1 E1 HC2
  have hne1 : ¬ w.heap.size + 1 = w2.heap.size := by have := HZ0.out; have := hb1.size; have := hb2.size; omega
  have hne2 : ¬ w2.heap.size = w.heap.size + 1 := fun h => hne1 h.symm
  have hF3 : Below w2.heap.size w2 (w2.alloc (.cells #[.bool false, .bool false, .bool false, .bool false, .bool false] 183)) := (Below.refl _ _).alloc (Nat.le_refl _) _
  have hM3 : (w2.alloc (.cells #[.bool false, .bool false, .bool false, .bool false, .bool false] 183)).heap[w2.heap.size]? = some (.cells #[.bool false, .bool false, .bool false, .bool false, .bool false] 183 (0, 0)) := heap_alloc_new _ _
  go_wp2_with fail
  generalize w2.alloc (.cells #[.bool false, .bool false, .bool false, .bool false, .bool false] 183) = W3 at hF3 hM3 ⊢
  obtain ⟨c0, c1, c2, c3, c4, c5, c6, c7, c8⟩ := (E2.below hF3).r.cells
  go_region_held3 (fun w' => w'.cell? ⟨w.heap.size + 1, 1, none⟩ = some (.int .i64 r.len.lo) ∧ w'.cell? ⟨w.heap.size + 1, 2, none⟩ = some (.int .i64 r.len.hi)) (go_keep)
    (first
      | (go_at_call 148; refine (sum_any a1 ys cap1 _ ?_ hyl hyb).mono ?_; exact hY2.below hF3.drew; rintro e w' ⟨rfl, rfl⟩)
      | (go_at_call 147; refine (inside_any _ r.len _).mono ?_; rintro e w4 ⟨rfl, hb4⟩; have hb4' : Below W3.heap.size W3 w4 := ⟨hb4.os, hb4.tape, hb4.output, hb4.size, hb4.block⟩; have mc := blk_cell (blk_below hM3 hb4') 0 rfl; have mf := blk_free (j := 0) (blk_below hM3 hb4'); obtain ⟨d0, d1, d2, _, _, _, _, _, _⟩ := ((E2.below hF3).below hb4').r.cells))
  have hF4 : Below w2.heap.size w2 (w4.setCell ⟨w2.heap.size, 0, none⟩ (.bool (!insideB (sumI ys) r.len))) := (below_self hF3 hb4').setCell (p := ⟨w2.heap.size, 0, none⟩) (Nat.le_refl _) _
  have hM4 : (w4.setCell ⟨w2.heap.size, 0, none⟩ (.bool (!insideB (sumI ys) r.len))).heap[w2.heap.size]? = some (.cells #[.bool (!insideB (sumI ys) r.len), .bool false, .bool false, .bool false, .bool false] 183 (0, 0)) := blk_setCell (blk_below hM3 hb4')
  clear c0 c1 c2 c3 c4 c5 c6 c7 c8 mc mf d0 d1 d2 hb4
  generalize w4.setCell ⟨w2.heap.size, 0, none⟩ (.bool (!insideB (sumI ys) r.len)) = W4 at hF4 hM4 ⊢
  generalize HbA : (!insideB (sumI ys) r.len) = bA at hM4
  have HA := Lib.hid HbA
  clear HbA hF3 hM3 hb4'
  go_wp2_with fail
  obtain ⟨c0, c1, c2, c3, c4, c5, c6, c7, c8⟩ := (E2.below hF4).r.cells
  go_region_held3 (fun w' => w'.cell? ⟨w.heap.size + 1, 3, none⟩ = some (.int .i64 r.climb.lo) ∧ w'.cell? ⟨w.heap.size + 1, 4, none⟩ = some (.int .i64 r.climb.hi)) (go_keep)
    (first
      | (go_at_call 148; refine (sum_any a2 zs cap2 _ ?_ hzl hzb).mono ?_; exact hZ.below hF4.drew; rintro e w' ⟨rfl, rfl⟩)
      | (go_at_call 147; refine (inside_any _ r.climb _).mono ?_; rintro e w5 ⟨rfl, hb5⟩; have hb5' : Below W4.heap.size W4 w5 := ⟨hb5.os, hb5.tape, hb5.output, hb5.size, hb5.block⟩; have mc := blk_cell (blk_below hM4 hb5') 1 rfl; have mf := blk_free (j := 1) (blk_below hM4 hb5'); obtain ⟨_, _, _, d3, d4, _, _, _, _⟩ := ((E2.below hF4).below hb5').r.cells))
  have hF5 : Below w2.heap.size w2 (w5.setCell ⟨w2.heap.size, 1, none⟩ (.bool (!insideB (sumI zs) r.climb))) := (below_self hF4 hb5').setCell (p := ⟨w2.heap.size, 1, none⟩) (Nat.le_refl _) _
  have hM5 : (w5.setCell ⟨w2.heap.size, 1, none⟩ (.bool (!insideB (sumI zs) r.climb))).heap[w2.heap.size]? = some (.cells #[.bool bA, .bool (!insideB (sumI zs) r.climb), .bool false, .bool false, .bool false] 183 (0, 0)) := blk_setCell (blk_below hM4 hb5')
  clear c0 c1 c2 c3 c4 c5 c6 c7 c8 mc mf d3 d4 hb5
  generalize w5.setCell ⟨w2.heap.size, 1, none⟩ (.bool (!insideB (sumI zs) r.climb)) = W5 at hF5 hM5 ⊢
  generalize HbB : (!insideB (sumI zs) r.climb) = bB at hM5
  have HB := Lib.hid HbB
  clear HbB hF4 hM4 hb5'
  go_wp2_with fail
  refine (every_int a1 ys cap1 149 #[.pointer (some ⟨w.heap.size + 1, 0, none⟩)] (fun n => insideB n r.lap) W5 (hY2.below hF5) hyl eg119 (fun x _ W hW => judge3_any x r (w.heap.size + 1) W ((E2.below hF5).below hW).r)).mono ?_
  rintro e w6 ⟨rfl, hb6⟩
  have mc := blk_cell (blk_below hM5 hb6) 2 rfl
  have mf := blk_free (j := 2) (blk_below hM5 hb6)
  have hF6 : Below w2.heap.size w2 (w6.setCell ⟨w2.heap.size, 2, none⟩ (.bool (!ys.all (fun n => insideB n r.lap)))) := (below_self hF5 hb6).setCell (p := ⟨w2.heap.size, 2, none⟩) (Nat.le_refl _) _
  have hM6 : (w6.setCell ⟨w2.heap.size, 2, none⟩ (.bool (!ys.all (fun n => insideB n r.lap)))).heap[w2.heap.size]? = some (.cells #[.bool bA, .bool bB, .bool (!ys.all (fun n => insideB n r.lap)), .bool false, .bool false] 183 (0, 0)) := blk_setCell (blk_below hM5 hb6)
  generalize HbC : ys.all (fun n => insideB n r.lap) = bC at hF6 hM6 ⊢
  have HC := Lib.hid HbC
  clear HbC
  go_wp2_with fail
  generalize w6.setCell ⟨w2.heap.size, 2, none⟩ (.bool (!bC)) = W6 at hF6 hM6 ⊢
  clear mc mf hF5 hM5
  refine (every_int ac c ccap 150 #[.pointer (some ⟨w.heap.size, 0, none⟩), .pointer (some ⟨w.heap.size + 1, 0, none⟩)] (fun i => decide (r.wide ≤ wideAt xs i)) W6 (hc.below (below_self E2.b hF6)) hcl eg120 (fun x hxc W hW => by
    obtain ⟨h0, h1⟩ := hin x hxc
    obtain ⟨i, rfl⟩ := Int.eq_ofNat_of_zero_le h0
    have hlt : i < xs.length := by omega
    have E := (E2.below hF6).below hW
    exact (judge4_any i a xs cap w.heap.size (w.heap.size + 1) r W (hx.below E.b) hlt hl (blk_cell E.s 0 rfl) E.r).mono fun e W' h => ⟨h.1.trans (by simp [wideAt, hlt]), h.2⟩)).mono ?_
  rintro e w7 ⟨rfl, hb7⟩
  have mc := blk_cell (blk_below hM6 hb7) 3 rfl
  have mf := blk_free (j := 3) (blk_below hM6 hb7)
  generalize HbD : c.all (fun i => decide (r.wide ≤ wideAt xs i)) = bD at mc mf ⊢
  have HD := Lib.hid HbD
  clear HbD
  have hF7 : Below w2.heap.size w2 (w7.setCell ⟨w2.heap.size, 3, none⟩ (.bool (!bD))) := (below_self hF6 hb7).setCell (p := ⟨w2.heap.size, 3, none⟩) (Nat.le_refl _) _
  have hM7 : (w7.setCell ⟨w2.heap.size, 3, none⟩ (.bool (!bD))).heap[w2.heap.size]? = some (.cells #[.bool bA, .bool bB, .bool (!bC), .bool (!bD), .bool false] 183 (0, 0)) := blk_setCell (blk_below hM6 hb7)
  obtain ⟨c0, c1, c2, c3, c4, c5, c6, c7, c8⟩ := (E2.below hF7).r.cells
  go_wp2_with fail
  generalize w7.setCell ⟨w2.heap.size, 3, none⟩ (.bool (!bD)) = W7 at hF7 hM7 c0 c1 c2 c3 c4 c5 c6 c7 c8 ⊢
  clear mc mf hF6 hM6
  refine (repeats_any ac c ccap r.uses _ (hc.below (below_self E2.b hF7)) hcl hwf).mono ?_
  rintro e w8 ⟨rfl, hb8⟩
  have mc := blk_cell (blk_below hM7 hb8) 4 rfl
  have mf := blk_free (j := 4) (blk_below hM7 hb8)
  generalize HbE : oftenB c r.uses = bE at mc mf ⊢
  have HE := Lib.hid HbE
  clear HbE c0 c1 c2 c3 c4 c5 c6 c7 c8
  have hF8 : Below w2.heap.size w2 (w8.setCell ⟨w2.heap.size, 4, none⟩ (.bool bE)) := (below_self hF7 hb8).setCell (p := ⟨w2.heap.size, 4, none⟩) (Nat.le_refl _) _
  have hM8 : (w8.setCell ⟨w2.heap.size, 4, none⟩ (.bool bE)).heap[w2.heap.size]? = some (.cells #[.bool bA, .bool bB, .bool (!bC), .bool (!bD), .bool bE] 183 (0, 0)) := blk_setCell (blk_below hM7 hb8)
  have R8 := blk_below R2 hF8
  have m0 := blk_cell hM8 0 rfl
  have m1 := blk_cell hM8 1 rfl
  have m2 := blk_cell hM8 2 rfl
  have m3 := blk_cell hM8 3 rfl
  have m4 := blk_cell hM8 4 rfl
  have r0 := blk_cell R8 0 rfl
  have r1 := blk_cell R8 1 rfl
  have r2 := blk_cell R8 2 rfl
  have r3 := blk_cell R8 3 rfl
  have r4 := blk_cell R8 4 rfl
  have f0 := blk_free (j := 0) R8
  have f1 := blk_free (j := 1) R8
  have f2 := blk_free (j := 2) R8
  have f3 := blk_free (j := 3) R8
  have f4 := blk_free (j := 4) R8
  have hne3 : ¬ w2.heap.size = w.heap.size + 2 := by have := HZ0.out; have := hb1.size; have := hb2.size; omega
  have hne4 : ¬ w.heap.size + 2 = w2.heap.size := fun h => hne3 h.symm
  go_wp2_with fail
  have hB9 : Below w.heap.size w ((((((w8.setCell ⟨w2.heap.size, 4, none⟩ (.bool bE)).setCell ⟨w.heap.size + 1 + 1, 0, none⟩ (.bool bA)).setCell ⟨w.heap.size + 1 + 1, 1, none⟩ (.bool bB)).setCell ⟨w.heap.size + 1 + 1, 2, none⟩ (.bool (!bC))).setCell ⟨w.heap.size + 1 + 1, 3, none⟩ (.bool (!bD))).setCell ⟨w.heap.size + 1 + 1, 4, none⟩ (.bool bE)) := by
    have h := below_self E2.b hF8
    exact ((((h.setCell (p := ⟨w.heap.size + 1 + 1, 0, none⟩) (by show w.heap.size ≤ w.heap.size + 1 + 1; omega) _).setCell (p := ⟨w.heap.size + 1 + 1, 1, none⟩) (by show w.heap.size ≤ w.heap.size + 1 + 1; omega) _).setCell (p := ⟨w.heap.size + 1 + 1, 2, none⟩) (by show w.heap.size ≤ w.heap.size + 1 + 1; omega) _).setCell (p := ⟨w.heap.size + 1 + 1, 3, none⟩) (by show w.heap.size ≤ w.heap.size + 1 + 1; omega) _).setCell (p := ⟨w.heap.size + 1 + 1, 4, none⟩) (by show w.heap.size ≤ w.heap.size + 1 + 1; omega) _
  have R9 := blk_setCell (j := 4) (u := .bool bE) (blk_setCell (j := 3) (u := .bool (!bD)) (blk_setCell (j := 2) (u := .bool (!bC)) (blk_setCell (j := 1) (u := .bool bB) (blk_setCell (j := 0) (u := .bool bA) R8))))
  clear m0 m1 m2 m3 m4 r0 r1 r2 r3 r4 f0 f1 f2 f3 f4
  generalize ((((((w8.setCell ⟨w2.heap.size, 4, none⟩ (.bool bE)).setCell ⟨w.heap.size + 1 + 1, 0, none⟩ (.bool bA)).setCell ⟨w.heap.size + 1 + 1, 1, none⟩ (.bool bB)).setCell ⟨w.heap.size + 1 + 1, 2, none⟩ (.bool (!bC))).setCell ⟨w.heap.size + 1 + 1, 3, none⟩ (.bool (!bD))).setCell ⟨w.heap.size + 1 + 1, 4, none⟩ (.bool bE)) = W9 at hB9 R9 ⊢
  have q0 := blk_cell R9 0 rfl
  have q1 := blk_cell R9 1 rfl
  have q2 := blk_cell R9 2 rfl
  have q3 := blk_cell R9 3 rfl
  have q4 := blk_cell R9 4 rfl
  refine bodyPost_ret (v := .agg #[.bool bA, .bool bB, .bool (!bC), .bool (!bD), .bool bE]) (by simp [results, Tryz.results109, go_sem, q0, q1, q2, q3, q4]) rfl ⟨?_, hB9⟩
  rw [Hpost.out, HA.out, HB.out, HC.out, HD.out, HE.out]
end Go.Proofs.YtmebmcipmemofaaGreat

namespace Go.Proofs.YtmebmcipmemofaaGreat
open Go.RowKit

theorem Tryz.info121 : (Tryz.prog.info? 121).map (fun i => (i.zero, i.size, i.bytes)) = some (some (.int .i64 0), 1, 8) := by kernel_rfl

def Mk.list (m : Mk) : List Bool := [m.a, m.b, m.c, m.d, m.e]
/-- The numbers of the first k rules that are broken. -/
def rulesTo (l : List Bool) : Nat → List Int
  | 0 => []
  | k + 1 => rulesTo l k ++ (if l[k]?.getD false = true then [(k : Int)] else [])
def rulesL (m : Mk) : List Int := rulesTo m.list 5

theorem rulesTo_le (l : List Bool) (k : Nat) : (rulesTo l k).length ≤ k := by
  induction k with
  | zero => simp [rulesTo]
  | succ k ih => simp only [rulesTo, List.length_append]; split <;> simp <;> omega

theorem ix0 (a b c d e : Bool) (w : World) : (Instr.index 183 (.agg #[.bool a, .bool b, .bool c, .bool d, .bool e]) (.int .i64 0)).run Tryz.prog w = .ok (.bool a) w := by kernel_rfl
theorem ix1 (a b c d e : Bool) (w : World) : (Instr.index 183 (.agg #[.bool a, .bool b, .bool c, .bool d, .bool e]) (.int .i64 1)).run Tryz.prog w = .ok (.bool b) w := by kernel_rfl
theorem ix2 (a b c d e : Bool) (w : World) : (Instr.index 183 (.agg #[.bool a, .bool b, .bool c, .bool d, .bool e]) (.int .i64 2)).run Tryz.prog w = .ok (.bool c) w := by kernel_rfl
theorem ix3 (a b c d e : Bool) (w : World) : (Instr.index 183 (.agg #[.bool a, .bool b, .bool c, .bool d, .bool e]) (.int .i64 3)).run Tryz.prog w = .ok (.bool d) w := by kernel_rfl
theorem ix4 (a b c d e : Bool) (w : World) : (Instr.index 183 (.agg #[.bool a, .bool b, .bool c, .bool d, .bool e]) (.int .i64 4)).run Tryz.prog w = .ok (.bool e) w := by kernel_rfl
theorem ixk (m : Mk) (k : Nat) (hk : k < 5) (w : World) : (Instr.index 183 (.agg #[.bool m.a, .bool m.b, .bool m.c, .bool m.d, .bool m.e]) (.int .i64 k)).run Tryz.prog w = .ok (.bool (m.list[k]?.getD false)) w := by
  match k, hk with
  | 0, _ => exact ix0 _ _ _ _ _ w
  | 1, _ => exact ix1 _ _ _ _ _ w
  | 2, _ => exact ix2 _ _ _ _ _ w
  | 3, _ => exact ix3 _ _ _ _ _ w
  | 4, _ => exact ix4 _ _ _ _ _ w

set_option maxHeartbeats 1000000 in
set_option maxRecDepth 100000 in
theorem rules_any (m : Mk) (w : World) :
    Calls Tryz.prog 110 #[m.v] w (OutInts w (rulesL m)) := by
  obtain ⟨i0, hi, hz0, hz1, hz2⟩ := info_parts Tryz.info121
  obtain ⟨l, hl⟩ : ∃ l, m.list = l := ⟨_, rfl⟩
  have HL := Lib.hid hl
  clear hl
  go_enter Tryz.func110, Tryz.ntmps110
  go_wp2
  go_loopw [3, 7] (fun v i wr => ∃ k : Nat, k ≤ 5 ∧ i = .int .i64 k ∧ wr.ownsRow w.heap.size 121 1 v (rulesTo l k).length ((rulesTo l k).map (Value.int .i64)) ∧ Below w.heap.size w wr) (fun _ i _ => 5 - (intOf i).toNat)
  case atStart => exact ⟨0, Nat.zero_le _, rfl, World.ownsRow_nil _ _ _ _, (Below.refl _ _).alloc (Nat.le_refl _) _⟩
  case round =>
    obtain ⟨k, hk, rfl, hown, hbw⟩ := hrel
    by_cases hlt : k < 5
    · have hix := ixk m k hlt
      rw [HL.out] at hix
      have hle := rulesTo_le l k
      cases hb : l[k]?.getD false
      · rw [hb] at hix
        have HF : Hid (rulesTo l (k + 1) = rulesTo l k) := by show _ = _; simp [rulesTo, hb]
        clear hb
        go_wp2
        go_roundw
        case rel => exact ⟨k + 1, by omega, by go_num, by rw [HF.out]; exact hown, hbw⟩
        case measure => simp [intOf]; omega
      · rw [hb] at hix
        have HF : Hid (rulesTo l (k + 1) = rulesTo l k ++ [(k : Int)]) := by show _ = _; simp [rulesTo, hb]
        clear hb
        go_wp2_with (at_builtin; refine wpList_append_own _ rfl _ _ 106 rfl w.heap.size 121 i0 (.int .i64 0) 1 8 Tryz.underlying106 hi hz0 hz1 hz2 rfl (by decide) _ _ _ rfl (hown.alloc _) ⟨wr.heap.size, 0, none⟩ 1 1 [.int .i64 (k : Int)] rfl rfl ?c1 ?c2 ?c3 ?c4 ?c5 ?_)
        case c1 => exact cell_one_new _ _ _
        case c2 => intro u hu; simp at hu; subst hu; rfl
        case c3 => unfold maxLen; omega
        case c4 => omega
        case c5 => have := hbw.size; simp; omega
        intro v' w2 hown2 hgrow2 _
        have hb3 : Below w.heap.size w w2 := (hbw.alloc hbw.size _).grown hgrow2 (by have := hbw.size; simp; omega) (fun j hj => (hown.lt j hj).1)
        have hown3 : w2.ownsRow w.heap.size 121 1 v' (rulesTo l (k + 1)).length ((rulesTo l (k + 1)).map (Value.int .i64)) := by
          rw [HF.out, List.length_append, List.map_append]; exact hown2
        clear hown2 hgrow2 hown hix
        go_wp2
        go_roundw
        case rel => exact ⟨k + 1, by omega, by go_num, hown3, hb3⟩
        case measure => simp [intOf]; omega
    · have : k = 5 := by omega
      subst this
      obtain ⟨a', cap', rfl, hs, hfr⟩ := ints_of_owns hown
      go_wp2
      go_ret
      exact ⟨a', cap', by rw [rulesL, HL.out]; rfl, by rw [rulesL, HL.out]; exact hs, hfr, hbw⟩

/-- A call that hands back a slice of integers and an error; nothing that was there before it has turned. -/
def OutIntsE (w : World) (ys : List Int) (err : Int) (e : Ending) (w' : World) : Prop := ∃ a cap, e = .returned (.tuple #[.slice a ys.length cap, .int .i64 err]) ∧ IntSl w' a ys ∧ (∀ p, a = some p → w.heap.size ≤ p.block) ∧ Below w.heap.size w w'

theorem OutIntsE.nil {w w' : World} {err : Int} {e : Ending} (he : e = .returned (.tuple #[.slice none 0 0, .int .i64 err])) (hb : Below w.heap.size w w') : OutIntsE w [] err e w' :=
  ⟨none, 0, he, (fun h => by simp at h), (fun p h => by cases h), hb⟩

def brokenR (xs : List Lp) (r : Ru) (c : List Int) : List Int × Int :=
  if checkE xs r = 0 then (if courseE xs.length c = 0 then (if (c.length : Int) = r.laps then (rulesL (judgeM xs r c), 0) else ([], 2)) else ([], courseE xs.length c)) else ([], checkE xs r)

theorem stad_ok {xs : List Lp} (h : stadE xs = 0) : xs.all allowedB = true ∧ 1 ≤ xs.length ∧ xs.length ≤ 12 := by
  unfold stadE at h
  split at h
  · rename_i h1
    split at h
    · rename_i h2; simp [withinB] at h1; exact ⟨h2, by omega, by omega⟩
    · omega
  · omega
theorem check_ok {xs : List Lp} {r : Ru} (h : checkE xs r = 0) : stadE xs = 0 ∧ rulesB r = true := by
  unfold checkE at h
  split at h
  · rename_i h1
    split at h
    · rename_i h2; exact ⟨h1, h2⟩
    · omega
  · rename_i h1; exact absurd h h1
theorem course_ok {n : Int} {c : List Int} (h : courseE n c = 0) : 1 ≤ c.length ∧ c.length ≤ 6 ∧ (∀ i ∈ c, 0 ≤ i ∧ i < n) ∧ sortedB c = true := by
  unfold courseE at h
  split at h
  · rename_i h1
    split at h
    · rename_i h2
      split at h
      · rename_i h3
        simp [withinB] at h1
        refine ⟨by omega, by omega, fun i hi => ?_, h3⟩
        have := List.all_eq_true.1 h2 i hi
        simp [withinB] at this; omega
      · omega
    · omega
  · omega

set_option maxHeartbeats 1000000 in
set_option maxRecDepth 100000 in
theorem broken_any (a : Option Addr) (xs : List Lp) (cap : Nat) (r : Ru) (ac : Option Addr) (c : List Int) (ccap : Nat) (w : World) (hx : Sl 3 Lp.cells w a xs) (hc : IntSl w ac c)
    (hl : xs.length ≤ 1000000) (hcl : c.length ≤ 1000000) :
    Calls Tryz.prog 53 #[.slice a xs.length cap, r.v, .slice ac c.length ccap] w (OutIntsE w (brokenR xs r c).1 (brokenR xs r c).2) := by
  have hB0 : Below w.heap.size w (w.alloc (.cells #[.int .i64 r.laps, .int .i64 r.len.lo, .int .i64 r.len.hi, .int .i64 r.climb.lo, .int .i64 r.climb.hi, .int .i64 r.lap.lo, .int .i64 r.lap.hi, .int .i64 r.wide, .int .i64 r.uses] 26)) := (Below.refl _ _).alloc (Nat.le_refl _) _
  have hR0 : RuAt (w.alloc (.cells #[.int .i64 r.laps, .int .i64 r.len.lo, .int .i64 r.len.hi, .int .i64 r.climb.lo, .int .i64 r.climb.hi, .int .i64 r.lap.lo, .int .i64 r.lap.hi, .int .i64 r.wide, .int .i64 r.uses] 26)) w.heap.size r := heap_alloc_new _ _
  go_enter Tryz.func53, Tryz.ntmps53
  go_wp2_with fail
  generalize w.alloc (.cells #[.int .i64 r.laps, .int .i64 r.len.lo, .int .i64 r.len.hi, .int .i64 r.climb.lo, .int .i64 r.climb.hi, .int .i64 r.lap.lo, .int .i64 r.lap.hi, .int .i64 r.wide, .int .i64 r.uses] 26) = W0 at hB0 hR0 ⊢
  refine (check_any a xs cap r _ (hx.below hB0) hl).mono ?_
  rintro e w1 ⟨rfl, hb⟩
  have hb1 := below_self hB0 hb
  have hR1 := hR0.below hb
  by_cases h1 : checkE xs r = 0
  · have h1b : (checkE xs r != 0) = false := by simp [h1]
    have hbr : Hid (brokenR xs r c = if courseE xs.length c = 0 then (if (c.length : Int) = r.laps then (rulesL (judgeM xs r c), 0) else ([], 2)) else ([], courseE xs.length c)) := by show _ = _; rw [brokenR, if_pos h1]
    have H1 := Lib.hid h1
    clear h1
    go_wp2_with fail
    refine (checkCourse_any xs.length ac c ccap _ (hc.below hb1) hcl (by omega)).mono ?_
    rintro e w2 ⟨rfl, hb'⟩
    have hb2 := below_self hb1 hb'
    have hR2 := hR1.below hb'
    by_cases h2 : courseE xs.length c = 0
    · have h2b : (courseE xs.length c != 0) = false := by simp [h2]
      have H2 := Lib.hid h2
      have hbr2 : Hid (brokenR xs r c = if (c.length : Int) = r.laps then (rulesL (judgeM xs r c), 0) else ([], 2)) := by show _ = _; rw [hbr.out, if_pos h2]
      clear h2
      obtain ⟨c0, c1, c2, c3, c4, c5, c6, c7, c8⟩ := hR2.cells
      by_cases h3 : (c.length : Int) = r.laps
      · have h3b : ((c.length : Int) != r.laps) = false := by simp [h3]
        have hbr3 : Hid (brokenR xs r c = (rulesL (judgeM xs r c), 0)) := by show _ = _; rw [hbr2.out, if_pos h3]
        clear h3
        go_wp2_with fail
        obtain ⟨k1, k2, k3, k4⟩ := course_ok H2.out
        have HK := Lib.hid k3
        clear k3 k4
        refine (judge_any a xs cap r ac c ccap _ (hx.below hb2) (hc.below hb2) hl hcl (stad_ok (check_ok H1.out).1).1 HK.out).mono ?_
        rintro e w3 ⟨rfl, hb3⟩
        have hb4 := below_self hb2 hb3
        go_wp2_with fail
        refine (rules_any (judgeM xs r c) _).mono ?_
        rintro e w4 ⟨a4, cap4, rfl, hI, hf, hb5⟩
        have hb6 := below_self hb4 hb5
        have hf6 : Hid (∀ p, a4 = some p → w.heap.size ≤ p.block) := fun p hp => Nat.le_trans hb4.size (hf p hp)
        clear hf
        go_wp2
        go_ret2
        rw [hbr3.out]
        exact ⟨a4, cap4, rfl, hI, hf6.out, hb6⟩
      · have h3b : ((c.length : Int) != r.laps) = true := by simp [h3]
        have hbr3 : Hid (brokenR xs r c = ([], 2)) := by show _ = _; rw [hbr2.out, if_neg h3]
        clear h3
        go_wp2
        go_ret2
        rw [hbr3.out]
        exact OutIntsE.nil rfl hb2
    · have h2b : (courseE xs.length c != 0) = true := by simp [h2]
      have hbr3 : Hid (brokenR xs r c = ([], courseE xs.length c)) := by show _ = _; rw [hbr.out, if_neg h2]
      clear h2
      go_wp2
      go_ret2
      rw [hbr3.out]
      exact OutIntsE.nil rfl hb2
  · have h1b : (checkE xs r != 0) = true := by simp [h1]
    have hbr3 : Hid (brokenR xs r c = ([], checkE xs r)) := by show _ = _; rw [brokenR, if_neg h1]
    clear h1
    go_wp2
    go_ret2
    rw [hbr3.out]
    exact OutIntsE.nil rfl hb1
end Go.Proofs.YtmebmcipmemofaaGreat
