/-
The contract of Made over this seat's program.
  What is proved: it hands back a small stadium and small rules; the deck has dealt, and nothing else that was there before has turned.
  Conditions: a deck that has dealt at most 100000 times; at most 6 loops and 5 laps.
-/
import Derived.Test.YtgldfnkjfgcjpaaGreatPart15
import Derived.Deep.RegionHeld3
import Derived.Laws.CopyOwn
namespace Go.Proofs.YtgldfnkjfgcjpaaGreat
open Go.RowKit Go.Shelf
attribute [local go_sem] Oper.semAt_some

def SmallLp (x : Lp) : Prop := (1500 ≤ x.l ∧ x.l ≤ 3400) ∧ (0 ≤ x.c ∧ x.c ≤ 110) ∧ (4 ≤ x.d ∧ x.d ≤ 8)
def SmallRu (r : Ru) : Prop := (1 ≤ r.laps ∧ r.laps ≤ 5) ∧ (0 ≤ r.len.lo ∧ r.len.lo ≤ r.len.hi ∧ r.len.hi ≤ 20000) ∧ (0 ≤ r.climb.lo ∧ r.climb.lo ≤ r.climb.hi ∧ r.climb.hi ≤ 20000) ∧ (0 ≤ r.lap.lo ∧ r.lap.lo ≤ r.lap.hi ∧ r.lap.hi ≤ 20000) ∧ (3 ≤ r.wide ∧ r.wide ≤ 5) ∧ (1 ≤ r.uses ∧ r.uses ≤ 5)
abbrev R0 : Obj := .cells #[.int .i64 0, .int .i64 0, .int .i64 0, .int .i64 0, .int .i64 0, .int .i64 0, .int .i64 0, .int .i64 0, .int .i64 0] 26

/-- What Made's loop keeps. -/
structure NI (w0 : World) (B L : Nat) (a : Option Addr) (n cap k : Nat) (W : World) (sv : Value) (xs : List Lp) : Prop where
  ap : Apart (fun j => j = B) w0 W
  dk : Deck W B L a n cap k
  rs : W.heap[w0.heap.size]? = some (.cells #[.int .i64 0, .int .i64 0, .int .i64 0, .int .i64 0, .int .i64 0, .int .i64 0, .int .i64 0, .int .i64 0, .int .i64 0] 26 (0, 0))
  row : W.ownsRow (w0.heap.size + 1) 32 3 sv xs.length ((xs.flatMap Lp.cells).map (Value.int .i64))
  ok : ∀ x ∈ xs, SmallLp x
  hL : L ≤ w0.heap.size
theorem NI.step {w0 W W' : World} {B L : Nat} {a : Option Addr} {n cap k k' : Nat} {sv : Value} {xs : List Lp} (h : NI w0 B L a n cap k W sv xs) (ha : Apart (fun j => j = B) W W') (hd : Deck W' B L a n cap k') : NI w0 B L a n cap k' W' sv xs := by
  have hB : B < w0.heap.size := Nat.lt_of_lt_of_le h.dk.lt.1 h.hL
  exact ⟨h.ap.trans ha, hd, (ha.block _ (lt_of_block h.rs) (by omega)).trans h.rs, owns_same h.row (fun j h1 h2 => ha.block j h2 (by omega)), h.ok, h.hL⟩
theorem NI.below {w0 W W' : World} {B L : Nat} {a : Option Addr} {n cap k : Nat} {sv : Value} {xs : List Lp} (h : NI w0 B L a n cap k W sv xs) (hb : Below W.heap.size W W') : NI w0 B L a n cap k W' sv xs := h.step (Apart.of_below hb) (h.dk.below hb)
theorem NI.mono {w0 W : World} {B L : Nat} {a : Option Addr} {n cap k k' : Nat} {sv : Value} {xs : List Lp} (h : NI w0 B L a n cap k W sv xs) (hk : k ≤ k') : NI w0 B L a n cap k' W sv xs := ⟨h.ap, h.dk.mono hk, h.rs, h.row, h.ok, h.hL⟩
theorem NI.more {w0 W W' : World} {B L : Nat} {a : Option Addr} {n cap k : Nat} {sv : Value} {xs : List Lp} {x : Lp} {g c : Nat} {o : Obj} (h : NI w0 B L a n cap k W sv xs) (hg : (W.alloc o).grownBy W' sv.ownBlock) (ho : W'.ownsRow (w0.heap.size + 1) 32 3 (.slice (some ⟨g, 0, none⟩) (xs.length + 1) c) (xs.length + 1) ((xs.flatMap Lp.cells).map (Value.int .i64) ++ (Lp.cells x).map (Value.int .i64))) (hx : SmallLp x) :
    NI w0 B L a n cap k W' (.slice (some ⟨g, 0, none⟩) (xs.length + 1) c) (xs ++ [x]) := by
  have hrow : ∀ j, sv.ownBlock = some j → w0.heap.size + 1 ≤ j := fun j hj => (h.row.lt j hj).1
  have hs := h.ap.size
  have hrs := lt_of_block h.rs
  have hb : Below w0.heap.size W W' := (((Below.refl _ W).alloc (Nat.le_refl _) o).mono hs).grown hg (by simp; omega) (fun j hj => by have := hrow j hj; omega)
  have hk : ∀ j, j < w0.heap.size + 1 → j < W.heap.size → W'.heap[j]? = W.heap[j]? := fun j h1 h2 => (hg.block j (by simp; omega) (fun e => by have := hrow j e.symm; omega)).trans (Below.heap_alloc _ _ _ h2)
  refine ⟨⟨hb.os.trans h.ap.os, hb.tape.trans h.ap.tape, hb.output.trans h.ap.output, Nat.le_trans hs hb.size, fun j hj hn => (hk j (by omega) (by omega)).trans (h.ap.block j hj hn)⟩, h.dk.keep hb.size (fun j hj => hk j (by have := h.hL; omega) (by have := h.dk.lt.2; omega)), (hk _ (by omega) hrs).trans h.rs, ?_, fun y hy => ?_, h.hL⟩
  · rw [List.flatMap_append, List.map_append, List.length_append]
    simpa using ho
  · rcases List.mem_append.1 hy with hy | hy
    · exact h.ok y hy
    · simp at hy; subst hy; exact hx
/-- What lies when the stadium is made. -/
structure PI (w0 : World) (B L : Nat) (a : Option Addr) (n cap k : Nat) (W : World) (sa : Option Addr) (xs : List Lp) : Prop where
  ap : Apart (fun j => j = B) w0 W
  dk : Deck W B L a n cap k
  rs : W.heap[w0.heap.size]? = some (.cells #[.int .i64 0, .int .i64 0, .int .i64 0, .int .i64 0, .int .i64 0, .int .i64 0, .int .i64 0, .int .i64 0, .int .i64 0] 26 (0, 0))
  sl : Sl 3 Lp.cells W sa xs
  far : ∀ p, sa = some p → w0.heap.size + 1 ≤ p.block
  pos : 0 < xs.length
  hL : L ≤ w0.heap.size
theorem PI.step {w0 W W' : World} {B L : Nat} {a : Option Addr} {n cap k k' : Nat} {sa : Option Addr} {xs : List Lp} (h : PI w0 B L a n cap k W sa xs) (ha : Apart (fun j => j = B) W W') (hd : Deck W' B L a n cap k') : PI w0 B L a n cap k' W' sa xs := by
  have hB : B < w0.heap.size := Nat.lt_of_lt_of_le h.dk.lt.1 h.hL
  exact ⟨h.ap.trans ha, hd, (ha.block _ (lt_of_block h.rs) (by omega)).trans h.rs, sl_apart h.sl ha.size (fun p hp => ha.block _ (sl_lt h.sl h.pos p hp) (by have := h.far p hp; omega)), h.far, h.pos, h.hL⟩
theorem PI.below {w0 W W' : World} {B L : Nat} {a : Option Addr} {n cap k : Nat} {sa : Option Addr} {xs : List Lp} (h : PI w0 B L a n cap k W sa xs) (hb : Below W.heap.size W W') : PI w0 B L a n cap k W' sa xs := h.step (Apart.of_below hb) (h.dk.below hb)
theorem PI.mono {w0 W : World} {B L : Nat} {a : Option Addr} {n cap k k' : Nat} {sa : Option Addr} {xs : List Lp} (h : PI w0 B L a n cap k W sa xs) (hk : k ≤ k') : PI w0 B L a n cap k' W sa xs := ⟨h.ap, h.dk.mono hk, h.rs, h.sl, h.far, h.pos, h.hL⟩
/-- .. and rules in block T. -/
structure QI (w0 : World) (B L T : Nat) (a : Option Addr) (n cap k : Nat) (W : World) (sa : Option Addr) (xs : List Lp) (cs : Array Value) : Prop where
  p : PI w0 B L a n cap k W sa xs
  t : W.heap[T]? = some (.cells cs 26 (0, 0))
  hT : w0.heap.size < T
  ne : ∀ q, sa = some q → q.block ≠ T
theorem QI.step {w0 W W' : World} {B L T : Nat} {a : Option Addr} {n cap k k' : Nat} {sa : Option Addr} {xs : List Lp} {cs : Array Value} (h : QI w0 B L T a n cap k W sa xs cs) (ha : Apart (fun j => j = B) W W') (hd : Deck W' B L a n cap k') : QI w0 B L T a n cap k' W' sa xs cs :=
  ⟨h.p.step ha hd, (ha.block _ (lt_of_block h.t) (by have := h.p.dk.lt; have := h.p.hL; have := h.hT; omega)).trans h.t, h.hT, h.ne⟩
theorem QI.below {w0 W W' : World} {B L T : Nat} {a : Option Addr} {n cap k : Nat} {sa : Option Addr} {xs : List Lp} {cs : Array Value} (h : QI w0 B L T a n cap k W sa xs cs) (hb : Below W.heap.size W W') : QI w0 B L T a n cap k W' sa xs cs := h.step (Apart.of_below hb) (h.p.dk.below hb)
theorem QI.put {w0 W : World} {B L T : Nat} {a : Option Addr} {n cap k : Nat} {sa : Option Addr} {xs : List Lp} {cs : Array Value} (h : QI w0 B L T a n cap k W sa xs cs) (j : Nat) (u : Value) : QI w0 B L T a n cap k (W.setCell ⟨T, j, none⟩ u) sa xs (cs.setIfInBounds j u) := by
  have ho : ∀ m, m ≠ T → (W.setCell ⟨T, j, none⟩ u).heap[m]? = W.heap[m]? := fun m hm => Below.heap_setCell _ _ _ _ hm
  have hs : (W.setCell ⟨T, j, none⟩ u).heap.size = W.heap.size := World.size_setCell _ _ _
  have h1 := h.hT
  have h2 := h.p.hL
  refine ⟨⟨⟨h.p.ap.os, h.p.ap.tape, h.p.ap.output, by rw [hs]; exact h.p.ap.size, fun m hm hB => (ho m (by omega)).trans (h.p.ap.block m hm hB)⟩, h.p.dk.keep (by rw [hs]; exact Nat.le_refl _) (fun m hm => ho m (by omega)), (ho _ (by omega)).trans h.p.rs, sl_apart h.p.sl (by rw [hs]; exact Nat.le_refl _) (fun q hq => ho _ (h.ne q hq)), h.p.far, h.p.pos, h.p.hL⟩, blk_setCell h.t, h.hT, h.ne⟩
theorem mul_bd {x y X Y : Int} (hx : 0 ≤ x ∧ x ≤ X) (hy : 0 ≤ y ∧ y ≤ Y) : 0 ≤ x * y ∧ x * y ≤ X * Y :=
  ⟨Int.mul_nonneg hx.1 hy.1, Int.mul_le_mul hx.2 hy.2 hy.1 (Int.le_trans hx.1 hx.2)⟩

set_option maxHeartbeats 8000000 in
set_option maxRecDepth 100000 in
theorem stadMade_any (B L : Nat) (a : Option Addr) (n cap k : Nat) (mm pp : Int) (w : World) (hd : Deck w B L a n cap k) (hk : k ≤ 100000) (hmm : 1 ≤ mm ∧ mm ≤ 6) (hpp : 1 ≤ pp ∧ pp ≤ 5) :
    Calls Tryz.prog 51 #[.pointer (some ⟨B, 0, none⟩), .int .i64 mm, .int .i64 pp] w fun e w' => ∃ (sa : Option Addr) (xs : List Lp) (sc : Nat) (r : Ru), e = .returned (.tuple #[.slice sa xs.length sc, r.v]) ∧ Sl 3 Lp.cells w' sa xs ∧ (1 ≤ xs.length ∧ (xs.length : Int) ≤ mm) ∧ (∀ x ∈ xs, SmallLp x) ∧ SmallRu r ∧ r.laps ≤ pp ∧ Deck w' B L a n cap (k + 100) ∧ Apart (fun j => j = B) w w' ∧ (∀ p, sa = some p → w.heap.size ≤ p.block) := by
  obtain ⟨i0, hi, hz0, hz1, hz2⟩ := info_parts Tryz.info32
  have hL := hd.lt
  have H0 : Hid (NI w B L a n cap k (w.alloc R0) (.slice none 0 0) []) := ⟨Apart.of_below (alloc1 w _), hd.below (alloc1 w _), heap_alloc_new w _, World.ownsRow_nil _ _ _ _, (fun x hx => by cases hx), hL.2⟩
  have HL := Lib.hid hL
  clear hd hL
  go_enter Tryz.func51, Tryz.ntmps51
  go_wp2_with (fail)
  generalize w.alloc R0 = W0 at H0 ⊢
  refine (between_any B L a n cap k 1 mm W0 H0.out.dk (by omega) (by omega)).mono ?_
  rintro e W1 ⟨⟨N, rfl, hN0, hN1⟩, hD, hA⟩
  have H1 := Lib.hid (H0.out.step hA hD)
  clear hD hA H0
  obtain ⟨NN, rfl⟩ := Int.eq_ofNat_of_zero_le (show 0 ≤ N by omega)
  have hN2 : 1 ≤ NN := by omega
  have hN3 : NN ≤ 6 := by omega
  have hN4 : (NN : Int) ≤ mm := by omega
  clear hN0 hN1
  go_wp2_with (fail)
  go_loopw [8, 15] (fun sv i wr => ∃ (la : Option Addr) (lc : Nat) (xs : List Lp), sv = .slice la xs.length lc ∧ i = .int .i64 xs.length ∧ xs.length ≤ NN ∧ Hid (NI w B L a n cap (k + 1 + 3 * xs.length) wr (.slice la xs.length lc) xs)) (fun _ i _ => NN - (intOf i).toNat)
  case atStart => exact ⟨none, 0, [], rfl, rfl, Nat.zero_le _, H1.out⟩
  case round =>
    obtain ⟨la, lc, xs, rfl, rfl, hj, hM⟩ := hrel
    obtain ⟨V, hV⟩ : ∃ V, V = wr := ⟨_, rfl⟩
    subst hV
    by_cases hlt : xs.length < NN
    · go_wp2_with (fail)
      refine (draw_any B L a n cap _ 20 V hM.out.dk (by omega) (by omega)).mono ?_
      rintro e V1 ⟨⟨q1, rfl, p1, p2⟩, hD, hA⟩
      have M1 := Lib.hid (hM.out.step hA hD)
      clear hD hA
      have p3 : q1 ≤ 19 := by omega
      clear p2
      go_wp2_with (fail)
      refine (draw_any B L a n cap _ 12 V1 M1.out.dk (by omega) (by omega)).mono ?_
      rintro e V2 ⟨⟨q2, rfl, p4, p5⟩, hD, hA⟩
      have M2 := Lib.hid (M1.out.step hA hD)
      clear hD hA M1
      have p6 : q2 ≤ 11 := by omega
      clear p5
      go_wp2_with (fail)
      refine (between_any B L a n cap _ 4 8 V2 M2.out.dk (by omega) (by omega)).mono ?_
      rintro e V3 ⟨⟨q3, rfl, p7, p8⟩, hD, hA⟩
      have M3 := Lib.hid (M2.out.step hA hD)
      clear hD hA M2
      have HSM : Hid (SmallLp ⟨1500 + 100 * q1, 10 * q2, q3⟩) := ⟨⟨by show 1500 ≤ 1500 + 100 * q1; omega, by show 1500 + 100 * q1 ≤ 3400; omega⟩, ⟨by show 0 ≤ 10 * q2; omega, by show 10 * q2 ≤ 110; omega⟩, ⟨p7, p8⟩⟩
      go_wp2_with (at_builtin; refine wpList_append_own_at _ rfl _ _ 22 rfl (w.heap.size + 1) 32 i0 (.agg #[.int .i64 0, .int .i64 0, .int .i64 0]) 3 24 Tryz.underlying22 hi hz0 hz1 hz2 rfl (by decide) (.slice la xs.length lc) xs.length ((xs.flatMap Lp.cells).map (Value.int .i64)) rfl (M3.out.row.alloc _) ⟨V3.heap.size, 0, none⟩ 1 1 ((Lp.cells ⟨1500 + 100 * q1, 10 * q2, q3⟩).map (Value.int .i64)) rfl rfl (cells_new _ _ _) (by intro u hu; simp [Lp.cells] at hu; rcases hu with rfl | rfl | rfl <;> rfl) (by unfold maxLen; omega) (by omega) (by have := lt_of_block M3.out.rs; rw [World.size_alloc]; omega) ?_)
      intro v8 w8 hrow hgrow _ _
      obtain ⟨g8, cap8, rfl⟩ := ownsRow_succ hrow
      have M4 := Lib.hid (M3.out.more hgrow hrow HSM.out)
      clear hrow hgrow M3 HSM
      go_wp2_with (fail)
      go_roundw
      case rel => exact ⟨some ⟨g8, 0, none⟩, cap8, xs ++ [⟨1500 + 100 * q1, 10 * q2, q3⟩], by simp, by simp, by simp; omega, by rw [show (xs ++ [(⟨1500 + 100 * q1, 10 * q2, q3⟩ : Lp)]).length = xs.length + 1 by simp]; exact M4.out.mono (by omega)⟩
      case measure => simp [intOf]; omega
    · have hjn : NN = xs.length := by omega
      subst hjn
      obtain ⟨sa, sc, hse, hSl, hfr⟩ := lps_of_owns hM.out.row
      rw [hse]
      have HM : Hid (PI w B L a n cap (k + 19) V sa xs) := ⟨hM.out.ap, hM.out.dk.mono (by omega), hM.out.rs, hSl, hfr, by omega, hM.out.hL⟩
      have HOK := Lib.hid hM.out.ok
      clear hse hSl hfr hM H1 hlt hj
      go_wp2_with (fail)
      refine (between_any B L a n cap _ 1 pp V HM.out.dk (by omega) (by omega)).mono ?_
      rintro e U1 ⟨⟨q1, rfl, p1, p2⟩, hD, hA⟩
      have P1 := Lib.hid (HM.out.step hA hD)
      clear hD hA HM
      go_wp2_with (fail)
      refine (between_any B L a n cap _ 3 5 U1 P1.out.dk (by omega) (by omega)).mono ?_
      rintro e U2 ⟨⟨q2, rfl, p3, p4⟩, hD, hA⟩
      have P2 := Lib.hid (P1.out.step hA hD)
      clear hD hA P1
      go_wp2_with (fail)
      refine (between_any B L a n cap _ 1 pp U2 P2.out.dk (by omega) (by omega)).mono ?_
      rintro e U3 ⟨⟨q3, rfl, p5, p6⟩, hD, hA⟩
      have P3 := Lib.hid (P2.out.step hA hD)
      clear hD hA P2
      go_upto_region 7 with (fail)
      have HQ : Hid (QI w B L U3.heap.size a n cap (k + 22) (U3.alloc (.cells #[.int .i64 q1, .int .i64 0, .int .i64 0, .int .i64 0, .int .i64 0, .int .i64 0, .int .i64 0, .int .i64 q2, .int .i64 q3] 26)) sa xs #[.int .i64 q1, .int .i64 0, .int .i64 0, .int .i64 0, .int .i64 0, .int .i64 0, .int .i64 0, .int .i64 q2, .int .i64 q3]) :=
        ⟨P3.out.below (alloc1 U3 _), heap_alloc_new _ _, lt_of_block P3.out.rs, fun q hq => Nat.ne_of_lt (sl_lt P3.out.sl P3.out.pos q hq)⟩
      clear P3
      generalize U3.heap.size = T at HQ ⊢
      generalize U3.alloc (.cells #[.int .i64 q1, .int .i64 0, .int .i64 0, .int .i64 0, .int .i64 0, .int .i64 0, .int .i64 0, .int .i64 q2, .int .i64 q3] 26) = Y0 at HQ ⊢
      have c0 := blk_cell HQ.out.t 0 rfl
      go_region_held3 (fun w' => w'.cell? ⟨T, 0, none⟩ = some (.int .i64 q1)) (go_keep)
        (first
          | (go_at_call 59; refine (draw_any B L a n cap _ 8 Y1 Q1.out.p.dk (by omega) (by omega)).mono ?_; rintro e Y2 ⟨⟨x2, rfl, b1, b2⟩, hD, hA⟩; have Q2 := Lib.hid (Q1.out.step hA hD); clear hD hA; have b3 : x2 ≤ 7 := (by omega); clear b2; have m2 := mul_bd (x := 10 * x2) (X := 70) (y := q1) (Y := 5) ⟨by omega, by omega⟩ ⟨by omega, by omega⟩; have e2 := blk_cell Q2.out.t 0 rfl)
          | (go_at_call 59; refine (draw_any B L a n cap _ 12 _ (HQ.out.below ((Below.refl _ _).drew)).p.dk (by omega) (by omega)).mono ?_; rintro e Y1 ⟨⟨x1, rfl, a1, a2⟩, hD, hA⟩; have Q1 := Lib.hid ((HQ.out.below ((Below.refl _ _).drew)).step hA hD); clear hD hA; have a3 : x1 ≤ 11 := (by omega); clear a2; have m1 := mul_bd (x := q1) (X := 5) (y := 1500 + 100 * x1) (Y := 2600) ⟨by omega, by omega⟩ ⟨by omega, by omega⟩; have e1 := blk_cell Q1.out.t 0 rfl))
      all_goals (
        have w1 : IntKind.i64.wrap (100 * x1) = 100 * x1 := IntWalk.i64_in _ (by omega)
        have w2 : IntKind.i64.wrap (1500 + 100 * x1) = 1500 + 100 * x1 := IntWalk.i64_in _ (by omega)
        have w3 : IntKind.i64.wrap (q1 * (1500 + 100 * x1)) = q1 * (1500 + 100 * x1) := IntWalk.i64_in _ (by omega)
        have w4 : IntKind.i64.wrap (10 * x2) = 10 * x2 := IntWalk.i64_in _ (by omega)
        have w5 : IntKind.i64.wrap (10 * x2 * q1) = 10 * x2 * q1 := IntWalk.i64_in _ (by omega)
        simp only [w1, w2, w3, w4, w5]
        clear w1 w2 w3 w4 w5 c0 e1 e2
        obtain ⟨m1a, m1b⟩ := m1
        obtain ⟨m2a, m2b⟩ := m2
        generalize q1 * (1500 + 100 * x1) = lo at m1a m1b ⊢
        generalize 10 * x2 * q1 = up at m2a m2b ⊢
        have l1 : lo ≤ 13000 := by omega
        have u1 : up ≤ 350 := by omega
        clear m1b m2b HQ Q1
        go_wp2_with (fail)
        refine (draw_any B L a n cap _ 30 Y2 Q2.out.p.dk (by omega) (by omega)).mono ?_
        rintro e Y3 ⟨⟨y1, rfl, d1, d2⟩, hD, hA⟩
        have Q3 := Lib.hid (Q2.out.step hA hD)
        clear hD hA Q2
        have d3 : y1 ≤ 29 := by omega
        clear d2
        go_wp2_with (fail)
        refine (span_any lo (lo + 100 * y1) Y3).mono ?_
        rintro e Y4 ⟨rfl, hw⟩
        have hb := alloc1 Y3 (.cells #[.int .i64 lo, .int .i64 (lo + 100 * y1)] 24)
        rw [hw] at hb
        have Q4 := Lib.hid (Q3.out.below hb)
        clear hb hw Q3
        go_wp2_with (fail)
        refine (draw_any B L a n cap _ 40 Y4 Q4.out.p.dk (by omega) (by omega)).mono ?_
        rintro e Y5 ⟨⟨y2, rfl, f1, f2⟩, hD, hA⟩
        have Q5 := Lib.hid (Q4.out.step hA hD)
        clear hD hA Q4
        have f3 : y2 ≤ 39 := by omega
        clear f2
        go_wp2_with (fail)
        refine (span_any up (up + 10 * y2) Y5).mono ?_
        rintro e Y6 ⟨rfl, hw⟩
        have hb := alloc1 Y5 (.cells #[.int .i64 up, .int .i64 (up + 10 * y2)] 24)
        rw [hw] at hb
        have Q6 := Lib.hid (Q5.out.below hb)
        clear hb hw Q5
        go_wp2_with (fail)
        refine (draw_any B L a n cap _ 4 Y6 Q6.out.p.dk (by omega) (by omega)).mono ?_
        rintro e Y7 ⟨⟨y3, rfl, g1, g2⟩, hD, hA⟩
        have Q7a := Lib.hid (Q6.out.step hA hD)
        clear hD hA Q6
        have g3 : y3 ≤ 3 := by omega
        clear g2
        go_wp2_with (fail)
        refine (draw_any B L a n cap _ 10 Y7 Q7a.out.p.dk (by omega) (by omega)).mono ?_
        rintro e Y8 ⟨⟨y4, rfl, h1, h2⟩, hD, hA⟩
        have Q7 := Lib.hid (Q7a.out.step hA hD)
        clear hD hA Q7a
        have h3 : y4 ≤ 9 := by omega
        clear h2
        go_wp2_with (fail)
        refine (span_any (1500 + 100 * y3) (2500 + 100 * y4) Y8).mono ?_
        rintro e Y9 ⟨rfl, hw⟩
        have hb := alloc1 Y8 (.cells #[.int .i64 (1500 + 100 * y3), .int .i64 (2500 + 100 * y4)] 24)
        rw [hw] at hb
        have Q8 := Lib.hid (Q7.out.below hb)
        clear hb hw Q7
        have s1 := blk_cell Q8.out.t 1 rfl
        have r1 := blk_free (j := 1) Q8.out.t
        have s2 := blk_cell Q8.out.t 2 rfl
        have r2 := blk_free (j := 2) Q8.out.t
        have s3 := blk_cell Q8.out.t 3 rfl
        have r3 := blk_free (j := 3) Q8.out.t
        have s4 := blk_cell Q8.out.t 4 rfl
        have r4 := blk_free (j := 4) Q8.out.t
        have s5 := blk_cell Q8.out.t 5 rfl
        have r5 := blk_free (j := 5) Q8.out.t
        have s6 := blk_cell Q8.out.t 6 rfl
        have r6 := blk_free (j := 6) Q8.out.t
        have HF : Hid (QI w B L T a n cap (k + 22 + 1 + 1 + 1 + 1 + 1 + 1) ((((((Y9.setCell ⟨T, 1, none⟩ (.int .i64 (lo))).setCell ⟨T, 2, none⟩ (.int .i64 (lo + 100 * y1))).setCell ⟨T, 3, none⟩ (.int .i64 (up))).setCell ⟨T, 4, none⟩ (.int .i64 (up + 10 * y2))).setCell ⟨T, 5, none⟩ (.int .i64 (1500 + 100 * y3))).setCell ⟨T, 6, none⟩ (.int .i64 (2500 + 100 * y4))) sa xs #[.int .i64 q1, .int .i64 lo, .int .i64 (lo + 100 * y1), .int .i64 up, .int .i64 (up + 10 * y2), .int .i64 (1500 + 100 * y3), .int .i64 (2500 + 100 * y4), .int .i64 q2, .int .i64 q3]) := ((((((Q8.out.put 1 (.int .i64 (lo))).put 2 (.int .i64 (lo + 100 * y1))).put 3 (.int .i64 (up))).put 4 (.int .i64 (up + 10 * y2))).put 5 (.int .i64 (1500 + 100 * y3))).put 6 (.int .i64 (2500 + 100 * y4)))
        go_upto_region 9 with (fail)
        clear s1 s2 s3 s4 s5 s6 r1 r2 r3 r4 r5 r6 Q8
        generalize ((((((Y9.setCell ⟨T, 1, none⟩ (.int .i64 (lo))).setCell ⟨T, 2, none⟩ (.int .i64 (lo + 100 * y1))).setCell ⟨T, 3, none⟩ (.int .i64 (up))).setCell ⟨T, 4, none⟩ (.int .i64 (up + 10 * y2))).setCell ⟨T, 5, none⟩ (.int .i64 (1500 + 100 * y3))).setCell ⟨T, 6, none⟩ (.int .i64 (2500 + 100 * y4))) = Yb at HF ⊢
        refine wp_region_split (S := fun W' => W'.cell? ⟨T, 0, none⟩ = some (.int .i64 (q1)) ∧ W'.cell? ⟨T, 1, none⟩ = some (.int .i64 (lo)) ∧ W'.cell? ⟨T, 2, none⟩ = some (.int .i64 (lo + 100 * y1)) ∧ W'.cell? ⟨T, 3, none⟩ = some (.int .i64 (up)) ∧ W'.cell? ⟨T, 4, none⟩ = some (.int .i64 (up + 10 * y2)) ∧ W'.cell? ⟨T, 5, none⟩ = some (.int .i64 (1500 + 100 * y3)) ∧ W'.cell? ⟨T, 6, none⟩ = some (.int .i64 (2500 + 100 * y4)) ∧ W'.cell? ⟨T, 7, none⟩ = some (.int .i64 (q2)) ∧ W'.cell? ⟨T, 8, none⟩ = some (.int .i64 (q3))) [3] 3 (by kernel_rfl) (by kernel_rfl) rfl ?_
        have HY := Lib.hid (HF.out.below ((Below.refl Yb.heap.size Yb).drew))
        clear HF
        generalize Yb.drew = Yc at HY ⊢
        rw [show firstL _ [3] = #[false, false, false, true] from by kernel_rfl]
        refine wpAnyH_take (i := 0) (v := .slice sa xs.length sc) rfl (by kernel_rfl) (by kernel_rfl) (by kernel_rfl) (fun _ _ _ h => h) (Or.inl ⟨by rfl, by (intro W hSw; have c0 := hSw.1; have c1 := hSw.2.1; have c2 := hSw.2.2.1; have c3 := hSw.2.2.2.1; have c4 := hSw.2.2.2.2.1; have c5 := hSw.2.2.2.2.2.1; have c6 := hSw.2.2.2.2.2.2.1; have c7 := hSw.2.2.2.2.2.2.2.1; have c8 := hSw.2.2.2.2.2.2.2.2; clear hSw; go_simp)⟩) ⟨blk_cell HY.out.t 0 rfl, blk_cell HY.out.t 1 rfl, blk_cell HY.out.t 2 rfl, blk_cell HY.out.t 3 rfl, blk_cell HY.out.t 4 rfl, blk_cell HY.out.t 5 rfl, blk_cell HY.out.t 6 rfl, blk_cell HY.out.t 7 rfl, blk_cell HY.out.t 8 rfl⟩ ?_
        simp only [Act.put, List.getElem_toArray, List.getElem_cons_zero, List.setIfInBounds_toArray, List.set_cons_zero, List.set_cons_succ]
        refine wpAnyH_take (i := 1) (v := .agg #[.int .i64 q1, .int .i64 lo, .int .i64 (lo + 100 * y1), .int .i64 up, .int .i64 (up + 10 * y2), .int .i64 (1500 + 100 * y3), .int .i64 (2500 + 100 * y4), .int .i64 q2, .int .i64 q3]) rfl (by kernel_rfl) (by kernel_rfl) (by kernel_rfl) (fun _ _ _ h => h) (Or.inl ⟨by rfl, by (intro W hSw; have c0 := hSw.1; have c1 := hSw.2.1; have c2 := hSw.2.2.1; have c3 := hSw.2.2.2.1; have c4 := hSw.2.2.2.2.1; have c5 := hSw.2.2.2.2.2.1; have c6 := hSw.2.2.2.2.2.2.1; have c7 := hSw.2.2.2.2.2.2.2.1; have c8 := hSw.2.2.2.2.2.2.2.2; clear hSw; go_simp)⟩) ⟨blk_cell HY.out.t 0 rfl, blk_cell HY.out.t 1 rfl, blk_cell HY.out.t 2 rfl, blk_cell HY.out.t 3 rfl, blk_cell HY.out.t 4 rfl, blk_cell HY.out.t 5 rfl, blk_cell HY.out.t 6 rfl, blk_cell HY.out.t 7 rfl, blk_cell HY.out.t 8 rfl⟩ ?_
        simp only [Act.put, List.getElem_toArray, List.getElem_cons_succ, List.getElem_cons_zero, List.setIfInBounds_toArray, List.set_cons_zero, List.set_cons_succ]
        refine wpAnyH_take (i := 2) (v := .slice sa xs.length sc) rfl (by kernel_rfl) (by kernel_rfl) (by kernel_rfl) (fun _ _ _ h => h) (Or.inl ⟨by rfl, by (intro W hSw; have c0 := hSw.1; have c1 := hSw.2.1; have c2 := hSw.2.2.1; have c3 := hSw.2.2.2.1; have c4 := hSw.2.2.2.2.1; have c5 := hSw.2.2.2.2.2.1; have c6 := hSw.2.2.2.2.2.2.1; have c7 := hSw.2.2.2.2.2.2.2.1; have c8 := hSw.2.2.2.2.2.2.2.2; clear hSw; go_simp)⟩) ⟨blk_cell HY.out.t 0 rfl, blk_cell HY.out.t 1 rfl, blk_cell HY.out.t 2 rfl, blk_cell HY.out.t 3 rfl, blk_cell HY.out.t 4 rfl, blk_cell HY.out.t 5 rfl, blk_cell HY.out.t 6 rfl, blk_cell HY.out.t 7 rfl, blk_cell HY.out.t 8 rfl⟩ ?_
        simp only [Act.put, List.getElem_toArray, List.getElem_cons_succ, List.getElem_cons_zero, List.setIfInBounds_toArray, List.set_cons_zero, List.set_cons_succ]
        refine wpAnyH_done (by kernel_rfl) ?_ _
        show wpList _ _ _ (opsAt _ [3]) _ _
        simp only [opsAt, List.filterMap_cons, List.filterMap_nil, List.getElem?_toArray, List.getElem?_cons_succ, List.getElem?_cons_zero]
        refine wpList_store_row rfl 26 (.tmp 7) (.tmp 80) rfl w.heap.size #[.int .i64 q1, .int .i64 lo, .int .i64 (lo + 100 * y1), .int .i64 up, .int .i64 (up + 10 * y2), .int .i64 (1500 + 100 * y3), .int .i64 (2500 + 100 * y4), .int .i64 q2, .int .i64 q3] (by kernel_rfl) (by kernel_rfl) 26 _ HY.out.p.rs (by kernel_rfl) (by kernel_rfl) (by kernel_rfl) ?_
        have z0 : (Yc.setRow w.heap.size #[.int .i64 q1, .int .i64 lo, .int .i64 (lo + 100 * y1), .int .i64 up, .int .i64 (up + 10 * y2), .int .i64 (1500 + 100 * y3), .int .i64 (2500 + 100 * y4), .int .i64 q2, .int .i64 q3]).cell? ⟨w.heap.size, 0, none⟩ = some (.int .i64 (q1)) := cell_setRow_same Yc w.heap.size 0 _ _ 26 (0, 0) HY.out.p.rs
        have z1 : (Yc.setRow w.heap.size #[.int .i64 q1, .int .i64 lo, .int .i64 (lo + 100 * y1), .int .i64 up, .int .i64 (up + 10 * y2), .int .i64 (1500 + 100 * y3), .int .i64 (2500 + 100 * y4), .int .i64 q2, .int .i64 q3]).cell? ⟨w.heap.size, 1, none⟩ = some (.int .i64 (lo)) := cell_setRow_same Yc w.heap.size 1 _ _ 26 (0, 0) HY.out.p.rs
        have z2 : (Yc.setRow w.heap.size #[.int .i64 q1, .int .i64 lo, .int .i64 (lo + 100 * y1), .int .i64 up, .int .i64 (up + 10 * y2), .int .i64 (1500 + 100 * y3), .int .i64 (2500 + 100 * y4), .int .i64 q2, .int .i64 q3]).cell? ⟨w.heap.size, 2, none⟩ = some (.int .i64 (lo + 100 * y1)) := cell_setRow_same Yc w.heap.size 2 _ _ 26 (0, 0) HY.out.p.rs
        have z3 : (Yc.setRow w.heap.size #[.int .i64 q1, .int .i64 lo, .int .i64 (lo + 100 * y1), .int .i64 up, .int .i64 (up + 10 * y2), .int .i64 (1500 + 100 * y3), .int .i64 (2500 + 100 * y4), .int .i64 q2, .int .i64 q3]).cell? ⟨w.heap.size, 3, none⟩ = some (.int .i64 (up)) := cell_setRow_same Yc w.heap.size 3 _ _ 26 (0, 0) HY.out.p.rs
        have z4 : (Yc.setRow w.heap.size #[.int .i64 q1, .int .i64 lo, .int .i64 (lo + 100 * y1), .int .i64 up, .int .i64 (up + 10 * y2), .int .i64 (1500 + 100 * y3), .int .i64 (2500 + 100 * y4), .int .i64 q2, .int .i64 q3]).cell? ⟨w.heap.size, 4, none⟩ = some (.int .i64 (up + 10 * y2)) := cell_setRow_same Yc w.heap.size 4 _ _ 26 (0, 0) HY.out.p.rs
        have z5 : (Yc.setRow w.heap.size #[.int .i64 q1, .int .i64 lo, .int .i64 (lo + 100 * y1), .int .i64 up, .int .i64 (up + 10 * y2), .int .i64 (1500 + 100 * y3), .int .i64 (2500 + 100 * y4), .int .i64 q2, .int .i64 q3]).cell? ⟨w.heap.size, 5, none⟩ = some (.int .i64 (1500 + 100 * y3)) := cell_setRow_same Yc w.heap.size 5 _ _ 26 (0, 0) HY.out.p.rs
        have z6 : (Yc.setRow w.heap.size #[.int .i64 q1, .int .i64 lo, .int .i64 (lo + 100 * y1), .int .i64 up, .int .i64 (up + 10 * y2), .int .i64 (1500 + 100 * y3), .int .i64 (2500 + 100 * y4), .int .i64 q2, .int .i64 q3]).cell? ⟨w.heap.size, 6, none⟩ = some (.int .i64 (2500 + 100 * y4)) := cell_setRow_same Yc w.heap.size 6 _ _ 26 (0, 0) HY.out.p.rs
        have z7 : (Yc.setRow w.heap.size #[.int .i64 q1, .int .i64 lo, .int .i64 (lo + 100 * y1), .int .i64 up, .int .i64 (up + 10 * y2), .int .i64 (1500 + 100 * y3), .int .i64 (2500 + 100 * y4), .int .i64 q2, .int .i64 q3]).cell? ⟨w.heap.size, 7, none⟩ = some (.int .i64 (q2)) := cell_setRow_same Yc w.heap.size 7 _ _ 26 (0, 0) HY.out.p.rs
        have z8 : (Yc.setRow w.heap.size #[.int .i64 q1, .int .i64 lo, .int .i64 (lo + 100 * y1), .int .i64 up, .int .i64 (up + 10 * y2), .int .i64 (1500 + 100 * y3), .int .i64 (2500 + 100 * y4), .int .i64 q2, .int .i64 q3]).cell? ⟨w.heap.size, 8, none⟩ = some (.int .i64 (q3)) := cell_setRow_same Yc w.heap.size 8 _ _ 26 (0, 0) HY.out.p.rs
        have hBw : B < w.heap.size := Nat.lt_of_lt_of_le HL.out.1 HL.out.2
        have HE : Hid (Sl 3 Lp.cells (Yc.setRow w.heap.size #[.int .i64 q1, .int .i64 lo, .int .i64 (lo + 100 * y1), .int .i64 up, .int .i64 (up + 10 * y2), .int .i64 (1500 + 100 * y3), .int .i64 (2500 + 100 * y4), .int .i64 q2, .int .i64 q3]) sa xs ∧ Deck (Yc.setRow w.heap.size #[.int .i64 q1, .int .i64 lo, .int .i64 (lo + 100 * y1), .int .i64 up, .int .i64 (up + 10 * y2), .int .i64 (1500 + 100 * y3), .int .i64 (2500 + 100 * y4), .int .i64 q2, .int .i64 q3]) B L a n cap (k + 100) ∧ Apart (fun j => j = B) w (Yc.setRow w.heap.size #[.int .i64 q1, .int .i64 lo, .int .i64 (lo + 100 * y1), .int .i64 up, .int .i64 (up + 10 * y2), .int .i64 (1500 + 100 * y3), .int .i64 (2500 + 100 * y4), .int .i64 q2, .int .i64 q3])) := by
          have hp := HY.out.p
          have ho : ∀ m, m ≠ w.heap.size → (Yc.setRow w.heap.size #[.int .i64 q1, .int .i64 lo, .int .i64 (lo + 100 * y1), .int .i64 up, .int .i64 (up + 10 * y2), .int .i64 (1500 + 100 * y3), .int .i64 (2500 + 100 * y4), .int .i64 q2, .int .i64 q3]).heap[m]? = Yc.heap[m]? := fun m hm => setRow_other _ _ _ _ hm
          refine ⟨sl_apart hp.sl (by simp) (fun q hq => ho _ (by have := hp.far q hq; omega)), (hp.dk.keep (by simp) (fun m hm => ho m (by have := hp.hL; omega))).mono (by omega), ⟨hp.ap.os, hp.ap.tape, hp.ap.output, by simpa using hp.ap.size, fun m hm hn => (ho m (by omega)).trans (hp.ap.block m hm hn)⟩⟩
        have HFAR := Lib.hid HY.out.p.far
        clear HY
        generalize Yc.setRow w.heap.size #[.int .i64 q1, .int .i64 lo, .int .i64 (lo + 100 * y1), .int .i64 up, .int .i64 (up + 10 * y2), .int .i64 (1500 + 100 * y3), .int .i64 (2500 + 100 * y4), .int .i64 q2, .int .i64 q3] = Yd at HE z0 z1 z2 z3 z4 z5 z6 z7 z8 ⊢
        go_wp2_with (fail)
        refine bodyPost_ret (v := .tuple #[.slice sa xs.length sc, (⟨q1, ⟨lo, lo + 100 * y1⟩, ⟨up, up + 10 * y2⟩, ⟨1500 + 100 * y3, 2500 + 100 * y4⟩, q2, q3⟩ : Ru).v]) (by simp [results, Tryz.results51, go_sem, z0, z1, z2, z3, z4, z5, z6, z7, z8]) rfl ?_
        exact ⟨sa, xs, sc, _, rfl, HE.out.1, ⟨hN2, hN4⟩, HOK.out, ⟨⟨p1, by show q1 ≤ 5; omega⟩, ⟨m1a, by show lo ≤ lo + 100 * y1; omega, by show lo + 100 * y1 ≤ 20000; omega⟩, ⟨m2a, by show up ≤ up + 10 * y2; omega, by show up + 10 * y2 ≤ 20000; omega⟩, ⟨by show 0 ≤ 1500 + 100 * y3; omega, by show 1500 + 100 * y3 ≤ 2500 + 100 * y4; omega, by show 2500 + 100 * y4 ≤ 20000; omega⟩, ⟨p3, p4⟩, ⟨p5, by show q3 ≤ 5; omega⟩⟩, p2, HE.out.2.1, HE.out.2.2, fun q hq => by have := HFAR.out q hq; omega⟩)
end Go.Proofs.YtgldfnkjfgcjpaaGreat
