/-
The contract of CourseListed over this seat's program.
  What is proved: it answers true; nothing that was there before has turned.
  Conditions: lists of bytes that read as such.
-/
import Derived.Test.YtgldfnkjfgcjpaaGreatPart18
namespace Go.Proofs.YtgldfnkjfgcjpaaGreat
open Go.RowKit Go.Shelf
attribute [local go_sem] Oper.semAt_some

/-- What lies while the law runs. -/
structure LI (w : World) (T B : Nat) (r : Ru) (sa : Option Addr) (xs : List Lp) (la : Option Addr) (R : List (List Int)) (a2 : Option Addr) (n2 cap2 k : Nat) (W : World) : Prop where
  b : Below w.heap.size w W
  t : RuAt W T r
  sl : Sl 3 Lp.cells W sa xs
  dk : Deck W B (B + 1) a2 n2 cap2 k
  ls : SlsF (B + 1) W la R
  hT : w.heap.size ≤ T
  hB : T < B
  pos : 0 < xs.length
  fs : ∀ p, sa = some p → p.block < B
section
variable {w W W' : World} {T B : Nat} {r : Ru} {sa : Option Addr} {xs : List Lp} {la : Option Addr} {R : List (List Int)} {a2 : Option Addr} {n2 cap2 k k' : Nat}
theorem LI.step (h : LI w T B r sa xs la R a2 n2 cap2 k W) (ha : Apart (fun j => j = B) W W') (hd : Deck W' B (B + 1) a2 n2 cap2 k') : LI w T B r sa xs la R a2 n2 cap2 k' W' := by
  have h1 := h.hT
  have h2 := h.hB
  exact ⟨below_apart h.b ha (fun j hj => by omega), (ha.block _ (lt_of_block h.t) (by omega)).trans h.t, sl_apart h.sl ha.size (fun p hp => ha.block _ (sl_lt h.sl h.pos p hp) (by have := h.fs p hp; omega)), hd, h.ls.apart ha (fun j hj => by omega), h.hT, h.hB, h.pos, h.fs⟩
theorem LI.below (h : LI w T B r sa xs la R a2 n2 cap2 k W) (hb : Below W.heap.size W W') : LI w T B r sa xs la R a2 n2 cap2 k W' := h.step (Apart.of_below hb) (h.dk.below hb)
theorem LI.mono (h : LI w T B r sa xs la R a2 n2 cap2 k W) (hk : k ≤ k') : LI w T B r sa xs la R a2 n2 cap2 k' W := ⟨h.b, h.t, h.sl, h.dk.mono hk, h.ls, h.hT, h.hB, h.pos, h.fs⟩
end
/-- One span of rules. -/
def spanAt (r : Ru) (q : Nat) : Sp := if q = 0 then r.len else if q = 1 then r.climb else r.lap
def setSpan (r : Ru) (q : Nat) (s : Sp) : Ru := if q = 0 then { r with len := s } else if q = 1 then { r with climb := s } else { r with lap := s }
theorem three_q {q : Nat} (hq : q < 3) : q = 0 ∨ q = 1 ∨ q = 2 := by omega
theorem span_cells {W : World} {T : Nat} {r : Ru} (h : RuAt W T r) {q : Nat} (hq : q < 3) : W.cell? ⟨T, 1 + 2 * q, none⟩ = some (.int .i64 (spanAt r q).lo) ∧ W.cell? ⟨T, 1 + 2 * q + 1, none⟩ = some (.int .i64 (spanAt r q).hi) := by
  rcases three_q hq with rfl | rfl | rfl
  · exact ⟨blk_cell h 1 rfl, blk_cell h 2 rfl⟩
  · exact ⟨blk_cell h 3 rfl, blk_cell h 4 rfl⟩
  · exact ⟨blk_cell h 5 rfl, blk_cell h 6 rfl⟩
theorem span_put {W : World} {T : Nat} {r : Ru} (h : RuAt W T r) {q : Nat} (hq : q < 3) (lo hi : Int) : RuAt ((W.setCell ⟨T, 1 + 2 * q, none⟩ (.int .i64 lo)).setCell ⟨T, 1 + 2 * q + 1, none⟩ (.int .i64 hi)) T (setSpan r q ⟨lo, hi⟩) := by
  rcases three_q hq with rfl | rfl | rfl
  · exact blk_setCell (j := 2) (u := .int .i64 hi) (blk_setCell (j := 1) (u := .int .i64 lo) h)
  · exact blk_setCell (j := 4) (u := .int .i64 hi) (blk_setCell (j := 3) (u := .int .i64 lo) h)
  · exact blk_setCell (j := 6) (u := .int .i64 hi) (blk_setCell (j := 5) (u := .int .i64 lo) h)
/-- Rules of which the spans of the first q are wider. -/
structure WidR (r rr : Ru) (q : Nat) : Prop where
  w : Wider r rr
  b : rulesB rr = true
  s : ∀ j, q ≤ j → j < 3 → spanAt rr j = spanAt r j
  e : rr.wide = r.wide ∧ rr.uses = r.uses
theorem span_small {r : Ru} (h : SmallRu r) (q : Nat) : 0 ≤ (spanAt r q).lo ∧ (spanAt r q).lo ≤ (spanAt r q).hi ∧ (spanAt r q).hi ≤ 20000 := by
  unfold SmallRu at h
  unfold spanAt
  (repeat' split) <;> omega
theorem small_rules {r : Ru} (hr : SmallRu r) : rulesB r = true := by
  unfold SmallRu at hr
  simp [rulesB, boundedB, withinB]
  omega
theorem WidR.zero {r : Ru} (h : SmallRu r) : WidR r r 0 := ⟨⟨rfl, ⟨Int.le_refl _, Int.le_refl _⟩, ⟨Int.le_refl _, Int.le_refl _⟩, ⟨Int.le_refl _, Int.le_refl _⟩, Int.le_refl _, Int.le_refl _⟩, small_rules h, fun _ _ _ => rfl, rfl, rfl⟩
theorem WidR.step {r rr : Ru} {q : Nat} (h : WidR r rr q) (hr : SmallRu r) (hq : q < 3) {lo hi : Int} (h1 : 0 ≤ lo ∧ lo ≤ (spanAt rr q).lo) (h2 : (spanAt rr q).hi ≤ hi ∧ hi ≤ 30000) : WidR r (setSpan rr q ⟨lo, hi⟩) (q + 1) := by
  have hs := h.s q (Nat.le_refl _) hq
  have hm := span_small hr q
  rw [← hs] at hm
  have hb := h.b
  have hw := h.w
  simp only [rulesB, List.all_cons, List.all_nil, Bool.and_true, Bool.and_eq_true, boundedB, decide_eq_true_eq] at hb
  rcases three_q hq with rfl | rfl | rfl
  · refine ⟨⟨hw.laps, ?_, hw.climb, hw.lap, hw.wide, hw.uses⟩, ?_, fun j hj hj3 => ?_, h.e⟩
    · have h3 := hw.len
      show lo ≤ r.len.lo ∧ r.len.hi ≤ hi
      simp [spanAt] at h1 h2; omega
    · have hbd : 0 ≤ lo ∧ lo ≤ hi ∧ hi ≤ 200000 := by omega
      show rulesB { rr with len := ⟨lo, hi⟩ } = true
      simp only [rulesB, List.all_cons, List.all_nil, Bool.and_true, Bool.and_eq_true, boundedB, decide_eq_true_eq]
      exact ⟨⟨hbd, hb.1.2.1, hb.1.2.2⟩, hb.2⟩
    · have := h.s j (by omega) hj3
      have h0 : j ≠ 0 := by omega
      simpa [spanAt, setSpan, h0] using this
  · refine ⟨⟨hw.laps, hw.len, ?_, hw.lap, hw.wide, hw.uses⟩, ?_, fun j hj hj3 => ?_, h.e⟩
    · have h3 := hw.climb
      show lo ≤ r.climb.lo ∧ r.climb.hi ≤ hi
      simp [spanAt] at h1 h2; omega
    · have hbd : 0 ≤ lo ∧ lo ≤ hi ∧ hi ≤ 200000 := by omega
      show rulesB { rr with climb := ⟨lo, hi⟩ } = true
      simp only [rulesB, List.all_cons, List.all_nil, Bool.and_true, Bool.and_eq_true, boundedB, decide_eq_true_eq]
      exact ⟨⟨hb.1.1, hbd, hb.1.2.2⟩, hb.2⟩
    · have := h.s j (by omega) hj3
      obtain rfl : j = 2 := by omega
      exact this
  · refine ⟨⟨hw.laps, hw.len, hw.climb, ?_, hw.wide, hw.uses⟩, ?_, fun j hj hj3 => by omega, h.e⟩
    · have h3 := hw.lap
      show lo ≤ r.lap.lo ∧ r.lap.hi ≤ hi
      simp [spanAt] at h1 h2; omega
    · have hbd : 0 ≤ lo ∧ lo ≤ hi ∧ hi ≤ 200000 := by omega
      show rulesB { rr with lap := ⟨lo, hi⟩ } = true
      simp only [rulesB, List.all_cons, List.all_nil, Bool.and_true, Bool.and_eq_true, boundedB, decide_eq_true_eq]
      exact ⟨⟨hb.1.1, hb.1.2.1, hbd⟩, hb.2⟩
theorem WidR.last {r rr : Ru} (h : WidR r rr 3) (hr : SmallRu r) {wd us : Int} (h1 : 1 ≤ wd ∧ wd ≤ r.wide) (h2 : r.uses ≤ us ∧ us ≤ 6) : Wider r { rr with wide := wd, uses := us } ∧ rulesB { rr with wide := wd, uses := us } = true := by
  have hw := h.w
  have hb := h.b
  refine ⟨⟨hw.laps, hw.len, hw.climb, hw.lap, h1.2, h2.1⟩, ?_⟩
  unfold SmallRu at hr
  simp only [rulesB, List.all_cons, List.all_nil, Bool.and_true, Bool.and_eq_true, withinB, decide_eq_true_eq] at hb ⊢
  exact ⟨hb.1, hb.2.1, ⟨h1.1, by omega⟩, by omega, h2.2⟩
theorem last_put {W : World} {T : Nat} {r : Ru} (h : RuAt W T r) (wd us : Int) : RuAt ((W.setCell ⟨T, 7, none⟩ (.int .i64 wd)).setCell ⟨T, 8, none⟩ (.int .i64 us)) T { r with wide := wd, uses := us } :=
  blk_setCell (j := 8) (u := .int .i64 us) (blk_setCell (j := 7) (u := .int .i64 wd) h)
/-- What the loop over the spans keeps. -/
structure SP (U : World) (T2 P B : Nat) (a2 : Option Addr) (n2 cap2 k : Nat) (rr : Ru) (W : World) : Prop where
  ap : Apart (fun j => j = B) U W
  dk : Deck W B (B + 1) a2 n2 cap2 k
  pb : W.heap[P]? = some (.cells #[.pointer (some ⟨T2, 1, none⟩), .pointer (some ⟨T2, 3, none⟩), .pointer (some ⟨T2, 5, none⟩)] 114 (0, 0))
  t : RuAt W T2 rr
  h1 : B < U.heap.size
  h2 : U.heap.size ≤ T2
  h3 : T2 < P
section
variable {U W W' : World} {T2 P B : Nat} {a2 : Option Addr} {n2 cap2 k k' : Nat} {rr : Ru}
theorem SP.drew (h : SP U T2 P B a2 n2 cap2 k rr W) : SP U T2 P B a2 n2 cap2 k rr W.drew := ⟨h.ap.drew', h.dk.below ((Below.refl _ _).drew), h.pb, h.t, h.h1, h.h2, h.h3⟩
theorem SP.call (h : SP U T2 P B a2 n2 cap2 k rr W) (ha : Apart (fun j => j = B) W W') (hd : Deck W' B (B + 1) a2 n2 cap2 k') : SP U T2 P B a2 n2 cap2 k' rr W' := by
  have h1 := h.h1
  have h2 := h.h2
  have h3 := h.h3
  exact ⟨h.ap.trans ha, hd, (ha.block _ (lt_of_block h.pb) (by omega)).trans h.pb, (ha.block _ (lt_of_block h.t) (by omega)).trans h.t, h1, h2, h3⟩
theorem SP.put (h : SP U T2 P B a2 n2 cap2 k rr W) (i j : Nat) (u v : Value) {rq : Ru} (ht : RuAt ((W.setCell ⟨T2, i, none⟩ u).setCell ⟨T2, j, none⟩ v) T2 rq) : SP U T2 P B a2 n2 cap2 k rq ((W.setCell ⟨T2, i, none⟩ u).setCell ⟨T2, j, none⟩ v) := by
  have h1 := h.h1
  have h2 := h.h2
  have h3 := h.h3
  have hsz : ((W.setCell ⟨T2, i, none⟩ u).setCell ⟨T2, j, none⟩ v).heap.size = W.heap.size := by simp only [World.size_setCell]
  have ko : ∀ b, b ≠ T2 → ((W.setCell ⟨T2, i, none⟩ u).setCell ⟨T2, j, none⟩ v).heap[b]? = W.heap[b]? := fun b hb => (Below.heap_setCell _ _ _ _ hb).trans (Below.heap_setCell _ _ _ _ hb)
  exact ⟨⟨h.ap.os, h.ap.tape, h.ap.output, by rw [hsz]; exact h.ap.size, fun b hb hn => (ko b (by omega)).trans (h.ap.block b hb hn)⟩, h.dk.keep (Nat.le_of_eq hsz.symm) (fun b hb => ko b (by omega)), (ko P (by omega)).trans h.pb, ht, h1, h2, h3⟩
end

set_option maxRecDepth 100000 in
set_option maxHeartbeats 20000000 in
theorem listed_law (a : Option Addr) (n cap : Nat) (a2 : Option Addr) (n2 cap2 : Nat) (w : World) (hb : BytesAt w a n) (hn : n ≤ 140737488355328) (hb2 : BytesAt w a2 n2) (hn2 : n2 ≤ 140737488355328) :
  Calls Tryz.prog 6 #[.slice a n cap, .slice a2 n2 cap2] w fun e w' => e = .returned (.bool true) ∧ Below w.heap.size w w' := by
  have HB := Lib.hid (And.intro hb hb2)
  clear hb hb2
  have eg := eg55
  go_enter Tryz.func6, Tryz.ntmps6
  go_wp2_with (fail)
  refine (of_any a n cap w HB.out.1 hn).mono ?_
  rintro e W1 ⟨rfl, hD, hb⟩
  have H1 := Lib.hid (And.intro hb hD)
  clear hb hD
  go_wp2_with (fail)
  refine (stadMade_any w.heap.size (w.heap.size + 1) a n cap 0 6 5 W1 H1.out.2 (by omega) (by omega) (by omega)).mono ?_
  rintro e W2 ⟨sa, xs, sc, r, rfl, hsl, hxl, hxs, hr, hrl, hD, hA, hfar⟩
  have H2 : Hid (Below w.heap.size w W2 ∧ Sl 3 Lp.cells W2 sa xs) := ⟨below_apart H1.out.1 hA (fun j hj => by omega), hsl⟩
  obtain ⟨hx1, hx5⟩ := hxl
  have hx6 : xs.length ≤ 6 := by omega
  have hla : 1 ≤ r.laps ∧ r.laps ≤ 5 := ⟨hr.1.1, hrl⟩
  have HK : Hid (checkE xs r = 0) := small_ok ⟨hx1, hx6⟩ hxs hr
  have HSR : Hid (SmallRu r) := hr
  clear hsl hxs hr hD hA hfar H1 hx5 hrl
  go_upto_region 2 with (fail)
  obtain ⟨T, hT⟩ : ∃ T, W2.heap.size = T := ⟨_, rfl⟩
  have H3 : Hid ((Below w.heap.size w (W2.alloc (.cells #[.int .i64 r.laps, .int .i64 r.len.lo, .int .i64 r.len.hi, .int .i64 r.climb.lo, .int .i64 r.climb.hi, .int .i64 r.lap.lo, .int .i64 r.lap.hi, .int .i64 r.wide, .int .i64 r.uses] 26)) ∧ RuAt (W2.alloc (.cells #[.int .i64 r.laps, .int .i64 r.len.lo, .int .i64 r.len.hi, .int .i64 r.climb.lo, .int .i64 r.climb.hi, .int .i64 r.lap.lo, .int .i64 r.lap.hi, .int .i64 r.wide, .int .i64 r.uses] 26)) T r ∧ Sl 3 Lp.cells (W2.alloc (.cells #[.int .i64 r.laps, .int .i64 r.len.lo, .int .i64 r.len.hi, .int .i64 r.climb.lo, .int .i64 r.climb.hi, .int .i64 r.lap.lo, .int .i64 r.lap.hi, .int .i64 r.wide, .int .i64 r.uses] 26)) sa xs ∧ w.heap.size ≤ T) ∧ T < (W2.alloc (.cells #[.int .i64 r.laps, .int .i64 r.len.lo, .int .i64 r.len.hi, .int .i64 r.climb.lo, .int .i64 r.climb.hi, .int .i64 r.lap.lo, .int .i64 r.lap.hi, .int .i64 r.wide, .int .i64 r.uses] 26)).heap.size ∧ (∀ p, sa = some p → p.block < (W2.alloc (.cells #[.int .i64 r.laps, .int .i64 r.len.lo, .int .i64 r.len.hi, .int .i64 r.climb.lo, .int .i64 r.climb.hi, .int .i64 r.lap.lo, .int .i64 r.lap.hi, .int .i64 r.wide, .int .i64 r.uses] 26)).heap.size) ∧ BytesAt (W2.alloc (.cells #[.int .i64 r.laps, .int .i64 r.len.lo, .int .i64 r.len.hi, .int .i64 r.climb.lo, .int .i64 r.climb.hi, .int .i64 r.lap.lo, .int .i64 r.lap.hi, .int .i64 r.wide, .int .i64 r.uses] 26)) a2 n2) := by
    have hb3 := alloc1 W2 (.cells #[.int .i64 r.laps, .int .i64 r.len.lo, .int .i64 r.len.hi, .int .i64 r.climb.lo, .int .i64 r.climb.hi, .int .i64 r.lap.lo, .int .i64 r.lap.hi, .int .i64 r.wide, .int .i64 r.uses] 26)
    have hsl := H2.out.2.below hb3
    have hbb := below_self H2.out.1 hb3
    exact ⟨⟨hbb, by rw [← hT]; exact heap_alloc_new _ _, hsl, by rw [← hT]; exact H2.out.1.size⟩, by rw [← hT]; simp, sl_lt hsl (by omega), HB.out.2.keep hbb.size (fun _ p _ hl => hbb.block _ hl)⟩
  rw [hT]
  clear H2 hT HB
  generalize W2.alloc (.cells #[.int .i64 r.laps, .int .i64 r.len.lo, .int .i64 r.len.hi, .int .i64 r.climb.lo, .int .i64 r.climb.hi, .int .i64 r.lap.lo, .int .i64 r.lap.hi, .int .i64 r.wide, .int .i64 r.uses] 26) = W3 at H3 ⊢
  go_wp2_with (fail)
  refine (of_any a2 n2 cap2 W3 H3.out.2.2.2 hn2).mono ?_
  rintro e W4 ⟨rfl, hD, hb⟩
  have H4 : Hid (LI w T W3.heap.size r sa xs none [] a2 n2 cap2 0 W4) := ⟨below_self H3.out.1.1 hb, H3.out.1.2.1.below hb, H3.out.1.2.2.1.below hb, hD, (fun h => absurd h (Nat.lt_irrefl 0)), H3.out.1.2.2.2, H3.out.2.1, by omega, H3.out.2.2.1⟩
  clear hD hb H3
  generalize W3.heap.size = B at H4 ⊢
  have hall := all_small5 HK.out hx6 hla.2
  have HRS := Lib.hid (right_sorted xs r)
  have hrm := right_mem HK.out
  have HRL : Hid ((rightL xs r).length ≤ 300 ∧ ∀ c ∈ rightL xs r, c.length ≤ 6) := by
    refine ⟨?_, fun c hc => ?_⟩
    · have := ext_small5 xs.length (by omega) r.laps.toNat (by omega)
      exact Nat.le_trans (List.length_filter_le _ _) this
    · have := ((hrm c).1 hc).1; omega
  have HC1 : Hid (∀ W, Sl 3 Lp.cells W sa xs → Calls Tryz.prog 50 #[.slice sa xs.length sc, r.v] W (OutCsF W (rightL xs r) 0)) := fun W hW => by
    have h := all_far sa xs sc r W hW (by omega)
    unfold AllOutF at h
    rw [hall] at h
    exact h
  have HC2 : Hid (∀ W (c : List Int) ca ccap, c ∈ rightL xs r → Sl 3 Lp.cells W sa xs → IntSl W ca c → Calls Tryz.prog 53 #[.slice sa xs.length sc, r.v, .slice ca c.length ccap] W (OutIntsE W [] 0)) := fun W c ca ccap hc hW hi => by
    obtain ⟨h1, h2, h3, h4⟩ := (hrm c).1 hc
    have h := broken_any sa xs sc r ca c ccap W hW hi (by omega) (by omega)
    rw [broken_ok HK.out h1 h2 h3, List.length_eq_zero_iff.1 h4] at h
    exact h
  have HC3 : Hid (∀ W (o : List Int) ca ccap, (o.length : Int) = r.laps → (∀ i ∈ o, 0 ≤ i ∧ i < (xs.length : Int)) → o.Pairwise (fun x y => x ≤ y) → Sl 3 Lp.cells W sa xs → IntSl W ca o → Calls Tryz.prog 53 #[.slice sa xs.length sc, r.v, .slice ca o.length ccap] W (OutIntsE W (rulesL (judgeM xs r o)) 0) ∧ ((rulesL (judgeM xs r o)).length = 0 ↔ o ∈ rightL xs r)) := fun W o ca ccap hl hi hp hW hc => by
    have h := broken_any sa xs sc r ca o ccap W hW hc (by omega) (by omega)
    rw [broken_ok HK.out hl hi hp] at h
    exact ⟨h, ⟨fun h0 => (hrm o).2 ⟨hl, hi, hp, h0⟩, fun hm => ((hrm o).1 hm).2.2.2⟩⟩
  have HC4 : Hid (∀ q, rulesB q = true → Wider r q → ∃ M : List (List Int), (∀ c ∈ rightL xs r, c ∈ M) ∧ M.length ≤ 300 ∧ (∀ c ∈ M, c.length ≤ 6) ∧ ∀ W, Sl 3 Lp.cells W sa xs → Calls Tryz.prog 50 #[.slice sa xs.length sc, q.v] W (OutCs W M 0)) := fun q hq hw => by
    have hk : checkE xs q = 0 := by rw [checkE, if_pos (check_ok HK.out).1, if_pos hq]
    have hql : q.laps ≤ 5 := by rw [hw.laps]; exact hla.2
    refine ⟨rightL xs q, fun c hc => right_wider HK.out hk hw c hc, ?_, fun c hc => ?_, fun W hW => ?_⟩
    · have := ext_small5 xs.length (by omega) q.laps.toNat (by omega)
      exact Nat.le_trans (List.length_filter_le _ _) this
    · have := ((right_mem hk c).1 hc).1; omega
    · have h := all_any sa xs sc q W hW (by omega)
      unfold AllOut at h; rw [all_small5 hk hx6 hql] at h; exact h
  clear hall hrm
  generalize rightL xs r = R at HRS HRL HC1 HC2 HC3 HC4
  have c0 := blk_cell H4.out.t 0 rfl
  have c1 := blk_cell H4.out.t 1 rfl
  have c2 := blk_cell H4.out.t 2 rfl
  have c3 := blk_cell H4.out.t 3 rfl
  have c4 := blk_cell H4.out.t 4 rfl
  have c5 := blk_cell H4.out.t 5 rfl
  have c6 := blk_cell H4.out.t 6 rfl
  have c7 := blk_cell H4.out.t 7 rfl
  have c8 := blk_cell H4.out.t 8 rfl
  go_wp2_with (fail)
  clear c0 c1 c2 c3 c4 c5 c6 c7 c8
  refine (HC1.out W4 H4.out.sl).mono ?_
  rintro e W5 ⟨la, lcap, rfl, h1, hb⟩
  have H5 : Hid (LI w T B r sa xs la R a2 n2 cap2 0 W5) := by
    have h := H4.out.below hb
    exact ⟨h.b, h.t, h.sl, h.dk, h1.less (by have := H4.out.dk.lt; omega), h.hT, h.hB, h.pos, h.fs⟩
  clear h1 hb H4 HC1
  have hR3 : R.length ≤ 300 := HRL.out.1
  go_wp2_with (fail)
  go_loopw [42] (fun i W => ∃ (k : Nat), k ≤ R.length ∧ i = .int .i64 k ∧ Hid (LI w T B r sa xs la R a2 n2 cap2 0 W)) (fun i _ => R.length - (intOf i).toNat)
  case atStart => exact ⟨0, Nat.zero_le _, rfl, H5.out⟩
  case round =>
    obtain ⟨k, hk, rfl, hX⟩ := hrel
    obtain ⟨V, hV⟩ : ∃ V, V = wr := ⟨_, rfl⟩
    subst hV
    by_cases hlk : k < R.length
    · have HX := Lib.hid hX.out
      clear hX H5
      obtain ⟨lb, lo, rfl, hlb, hlo, hlc⟩ := HX.out.ls (by omega)
      obtain ⟨ca, cc, v1, i1, _⟩ := hlc k _ (List.getElem?_eq_getElem hlk)
      have hcR : Hid (R[k] ∈ R) := List.getElem_mem hlk
      have HI1 := Lib.hid i1
      clear i1
      rcases Nat.eq_zero_or_pos k with hk0 | hkp
      · have hkz : ¬ (0 : Int) < (k : Int) := by omega
        clear hlc hk0
        generalize R[k] = c at v1 HI1 hcR
        have c0 := blk_cell HX.out.t 0 rfl
        have c1 := blk_cell HX.out.t 1 rfl
        have c2 := blk_cell HX.out.t 2 rfl
        have c3 := blk_cell HX.out.t 3 rfl
        have c4 := blk_cell HX.out.t 4 rfl
        have c5 := blk_cell HX.out.t 5 rfl
        have c6 := blk_cell HX.out.t 6 rfl
        have c7 := blk_cell HX.out.t 7 rfl
        have c8 := blk_cell HX.out.t 8 rfl
        go_wp2_with (fail)
        clear c0 c1 c2 c3 c4 c5 c6 c7 c8
        refine (HC2.out V c ca cc hcR.out HX.out.sl HI1.out).mono ?_
        rintro e V2 ⟨ba, bcap, rfl, _, _, hb⟩
        have H6 : Hid (LI w T B r sa xs (some ⟨lb, lo, none⟩) R a2 n2 cap2 0 V2) := HX.out.below hb
        clear v1 HI1 hb HX hcR
        go_wp2_with (fail)
        go_roundw
        case rel => exact ⟨k + 1, by omega, by go_num, H6.out⟩
        case measure => first | (simp [intOf]; done) | (simp [intOf]; omega)
      · obtain ⟨j, rfl⟩ : ∃ j, k = j + 1 := ⟨k - 1, by omega⟩
        obtain ⟨pa, pc, v0, i0, _⟩ := hlc j _ (List.getElem?_eq_getElem (by omega))
        have HCM : Hid (cmpL (R[j]'(by omega)) R[j + 1] < 0) := (List.pairwise_iff_getElem.1 HRS.out) j (j + 1) (by omega) hlk (by omega)
        have hp6 : (R[j]'(by omega)).length ≤ 6 := HRL.out.2 _ (List.getElem_mem _)
        have HI0 := Lib.hid i0
        clear i0 hlc
        generalize R[j]'(by omega) = pr at v0 HI0 HCM hp6
        generalize R[j + 1] = c at v1 HI1 hcR HCM
        have c0 := blk_cell HX.out.t 0 rfl
        have c1 := blk_cell HX.out.t 1 rfl
        have c2 := blk_cell HX.out.t 2 rfl
        have c3 := blk_cell HX.out.t 3 rfl
        have c4 := blk_cell HX.out.t 4 rfl
        have c5 := blk_cell HX.out.t 5 rfl
        have c6 := blk_cell HX.out.t 6 rfl
        have c7 := blk_cell HX.out.t 7 rfl
        have c8 := blk_cell HX.out.t 8 rfl
        go_wp2_with (fail)
        clear c0 c1 c2 c3 c4 c5 c6 c7 c8
        refine (HC2.out V c ca cc hcR.out HX.out.sl HI1.out).mono ?_
        rintro e V2 ⟨ba, bcap, rfl, _, _, hb⟩
        have H6 : Hid (LI w T B r sa xs (some ⟨lb, lo, none⟩) R a2 n2 cap2 0 V2) := HX.out.below hb
        have HI : Hid (IntSl V2 pa pr ∧ IntSl V2 ca c) := ⟨HI0.out.below hb, HI1.out.below hb⟩
        have d0 := (hb.cell (p := ⟨lb, lo + j, none⟩) hlb).trans v0
        clear v0 HI0
        clear v1 HI1 hb HX hcR
        go_wp2_with (fail)
        refine (compare54_any pa pr pc ca c cc V2 HI.out.1 HI.out.2 (by omega)).mono ?_
        rintro e V3 ⟨rfl, hb⟩
        have H7 : Hid (LI w T B r sa xs (some ⟨lb, lo, none⟩) R a2 n2 cap2 0 V3) := H6.out.below hb
        have hcm : ¬ 0 ≤ cmpL pr c := by have := HCM.out; omega
        clear hb H6 HCM HI d0
        generalize cmpL pr c = cv at hcm ⊢
        go_wp2_with (fail)
        go_roundw
        case rel => exact ⟨j + 1 + 1, by omega, by go_num, H7.out⟩
        case measure => first | (simp [intOf]; done) | (simp [intOf]; omega)
    · have H8 := Lib.hid hX.out
      clear hX H5
      go_wp2_with (fail)
      generalize Value.int IntKind.i64 (k : Int) = u42
      clear hlk hk HRS HC2
      go_loopw [76] (fun i W => ∃ (q : Nat), q ≤ 6 ∧ i = .int .i64 q ∧ Hid (LI w T B r sa xs la R a2 n2 cap2 (6 * q) W)) (fun i _ => 6 - (intOf i).toNat)
      case atStart => exact ⟨0, by omega, rfl, H8.out⟩
      case round =>
        obtain ⟨q, hq, rfl, hX⟩ := hrel
        obtain ⟨V2, hV⟩ : ∃ V2, V2 = wr := ⟨_, rfl⟩
        subst hV
        by_cases hlq : q < 6
        · have HX := Lib.hid hX.out
          clear hX H8
          have c0 := blk_cell HX.out.t 0 rfl
          go_wp2_with (fail)
          clear c0
          refine (picked_int B (B + 1) a2 n2 cap2 (6 * q) xs.length r.laps V2 HX.out.dk (by omega) ⟨by omega, by omega⟩ ⟨hla.1, by omega⟩).mono ?_
          rintro e Y1 ⟨g, oc, o, rfl, ol, oi, op, orow, hD, hA⟩
          have Q1 : Hid (LI w T B r sa xs la R a2 n2 cap2 (6 * q + 6) Y1 ∧ RowI Y1 g o) := ⟨HX.out.step hA hD, orow⟩
          have ho6 : o.length ≤ 5 := by omega
          have HC5 : Hid (Calls Tryz.prog 53 #[.slice sa xs.length sc, r.v, .slice (some ⟨g, 0, none⟩) o.length oc] Y1 (OutIntsE Y1 (rulesL (judgeM xs r o)) 0) ∧ ((rulesL (judgeM xs r o)).length = 0 ↔ o ∈ R)) := HC3.out Y1 o (some ⟨g, 0, none⟩) oc ol oi op Q1.out.1.sl Q1.out.2.ints
          clear ol oi op orow hD hA HX
          generalize rulesL (judgeM xs r o) = b at HC5
          have c0 := blk_cell Q1.out.1.t 0 rfl
          have c1 := blk_cell Q1.out.1.t 1 rfl
          have c2 := blk_cell Q1.out.1.t 2 rfl
          have c3 := blk_cell Q1.out.1.t 3 rfl
          have c4 := blk_cell Q1.out.1.t 4 rfl
          have c5 := blk_cell Q1.out.1.t 5 rfl
          have c6 := blk_cell Q1.out.1.t 6 rfl
          have c7 := blk_cell Q1.out.1.t 7 rfl
          have c8 := blk_cell Q1.out.1.t 8 rfl
          go_wp2_with (fail)
          clear c0 c1 c2 c3 c4 c5 c6 c7 c8
          refine HC5.out.1.mono ?_
          rintro e Y2 ⟨ba, bcap, rfl, _, _, hb⟩
          have Q2 : Hid (LI w T B r sa xs la R a2 n2 cap2 (6 * q + 6) Y2 ∧ IntSl Y2 (some ⟨g, 0, none⟩) o) := ⟨Q1.out.1.below hb, Q1.out.2.ints.below hb⟩
          have hbm := HC5.out.2
          clear hb Q1 HC5
          by_cases hm : o ∈ R
          · have hbl : b.length = 0 := hbm.2 hm
            have HCL : Hid (Calls Tryz.prog 55 #[.slice la R.length lcap, .slice (some ⟨g, 0, none⟩) o.length oc] Y2 (fun e w' => e = .returned (.bool true) ∧ Below Y2.heap.size Y2 w')) := by
              have h := among_any la R lcap (some ⟨g, 0, none⟩) o oc Y2 Q2.out.1.ls.sls Q2.out.2 (by omega) (fun x hx => by have := HRL.out.2 x hx; omega)
              rw [show decide (o ∈ R) = true from decide_eq_true hm] at h
              exact h
            clear hm hbm
            rw [hbl]
            go_wp2_with (fail)
            refine HCL.out.mono ?_
            rintro e Y3 ⟨rfl, hb⟩
            have Q3 : Hid (LI w T B r sa xs la R a2 n2 cap2 (6 * q + 6) Y3) := Q2.out.1.below hb
            clear hb Q2 HCL
            go_wp2_with (fail)
            go_roundw
            case rel => exact ⟨q + 1, by omega, by go_num, Q3.out.mono (by omega)⟩
            case measure => first | (simp [intOf]; done) | (simp [intOf]; omega)
          · have hbl : ¬ b.length = 0 := fun h => hm (hbm.1 h)
            have HCL : Hid (Calls Tryz.prog 55 #[.slice la R.length lcap, .slice (some ⟨g, 0, none⟩) o.length oc] Y2 (fun e w' => e = .returned (.bool false) ∧ Below Y2.heap.size Y2 w')) := by
              have h := among_any la R lcap (some ⟨g, 0, none⟩) o oc Y2 Q2.out.1.ls.sls Q2.out.2 (by omega) (fun x hx => by have := HRL.out.2 x hx; omega)
              rw [show decide (o ∈ R) = false from decide_eq_false hm] at h
              exact h
            clear hm hbm
            have hbb : ((b.length : Int) == 0) = false := by rw [beq_eq_false_iff_ne]; omega
            go_wp2_with (fail)
            refine HCL.out.mono ?_
            rintro e Y3 ⟨rfl, hb⟩
            have Q3 : Hid (LI w T B r sa xs la R a2 n2 cap2 (6 * q + 6) Y3) := Q2.out.1.below hb
            clear hb Q2 HCL
            go_wp2_with (fail)
            go_roundw
            case rel => exact ⟨q + 1, by omega, by go_num, Q3.out.mono (by omega)⟩
            case measure => first | (simp [intOf]; done) | (simp [intOf]; omega)
        · have H9 : Hid (LI w T B r sa xs la R a2 n2 cap2 36 V2) := hX.out.mono (by omega)
          clear hX H8
          have c0 := blk_cell H9.out.t 0 rfl
          have c1 := blk_cell H9.out.t 1 rfl
          have c2 := blk_cell H9.out.t 2 rfl
          have c3 := blk_cell H9.out.t 3 rfl
          have c4 := blk_cell H9.out.t 4 rfl
          have c5 := blk_cell H9.out.t 5 rfl
          have c6 := blk_cell H9.out.t 6 rfl
          have c7 := blk_cell H9.out.t 7 rfl
          have c8 := blk_cell H9.out.t 8 rfl
          go_upto_region 22 with (fail)
          generalize Value.int IntKind.i64 (q : Int) = u76
          clear hlq hq HC3
          obtain ⟨T2, hT2⟩ : ∃ T2, V2.heap.size = T2 := ⟨_, rfl⟩
          have HA1 : Hid (Below V2.heap.size V2 (V2.alloc (.cells #[.int .i64 r.laps, .int .i64 r.len.lo, .int .i64 r.len.hi, .int .i64 r.climb.lo, .int .i64 r.climb.hi, .int .i64 r.lap.lo, .int .i64 r.lap.hi, .int .i64 r.wide, .int .i64 r.uses] 26)) ∧ RuAt (V2.alloc (.cells #[.int .i64 r.laps, .int .i64 r.len.lo, .int .i64 r.len.hi, .int .i64 r.climb.lo, .int .i64 r.climb.hi, .int .i64 r.lap.lo, .int .i64 r.lap.hi, .int .i64 r.wide, .int .i64 r.uses] 26)) T2 r) := ⟨alloc1 V2 _, by rw [← hT2]; exact heap_alloc_new V2 _⟩
          have HT2 : Hid (T2 = V2.heap.size) := hT2.symm
          rw [hT2]
          clear hT2 c0 c1 c2 c3 c4 c5 c6 c7 c8
          generalize V2.alloc (.cells #[.int .i64 r.laps, .int .i64 r.len.lo, .int .i64 r.len.hi, .int .i64 r.climb.lo, .int .i64 r.climb.hi, .int .i64 r.lap.lo, .int .i64 r.lap.hi, .int .i64 r.wide, .int .i64 r.uses] 26) = U1 at HA1 ⊢
          go_upto_region 23 with (fail)
          obtain ⟨P, hP⟩ : ∃ P, U1.heap.size = P := ⟨_, rfl⟩
          have HS0 : Hid (SP V2 T2 P B a2 n2 cap2 36 r (U1.alloc (.cells #[.pointer (some ⟨T2, 1, none⟩), .pointer (some ⟨T2, 3, none⟩), .pointer (some ⟨T2, 5, none⟩)] 114))) := by
            have hb8 := alloc1 U1 (.cells #[.pointer (some ⟨T2, 1, none⟩), .pointer (some ⟨T2, 3, none⟩), .pointer (some ⟨T2, 5, none⟩)] 114)
            have hlt := lt_of_block HA1.out.2
            have hbb := below_self HA1.out.1 hb8
            have hB := H9.out.dk.lt
            exact ⟨Apart.of_below hbb, H9.out.dk.below hbb, by rw [← hP]; exact heap_alloc_new U1 _, HA1.out.2.below hb8, by omega, by rw [HT2.out]; exact Nat.le_refl _, by omega⟩
          rw [hP]
          clear hP HA1
          generalize U1.alloc (.cells #[.pointer (some ⟨T2, 1, none⟩), .pointer (some ⟨T2, 3, none⟩), .pointer (some ⟨T2, 5, none⟩)] 114) = U2 at HS0 ⊢
          have HW0 := Lib.hid (WidR.zero HSR.out)
          go_loopw [110] (fun i W => ∃ (q : Nat), q ≤ 3 ∧ i = .int .i64 q ∧ Hid (∃ rr, SP V2 T2 P B a2 n2 cap2 (36 + 2 * q) rr W ∧ WidR r rr q)) (fun i _ => 3 - (intOf i).toNat)
          case atStart => exact ⟨0, by omega, rfl, r, HS0.out, HW0.out⟩
          case round =>
            obtain ⟨q, hq, rfl, hX⟩ := hrel
            obtain ⟨U, hU⟩ : ∃ U, U = wr := ⟨_, rfl⟩
            subst hU
            obtain ⟨rr, hsp, hwr⟩ := hX.out
            have HX := Lib.hid hsp
            have HWR := Lib.hid hwr
            clear hX hsp hwr HS0 HW0
            by_cases hlq : q < 3
            · have hsm := span_small HSR.out q
              obtain ⟨p, hp⟩ : ∃ p, 1 + 2 * q = p := ⟨_, rfl⟩
              have e0 : U.cell? ⟨P, q, none⟩ = some (.pointer (some ⟨T2, p, none⟩)) := by
                rw [← hp]
                rcases three_q hlq with rfl | rfl | rfl
                · exact blk_cell HX.out.pb 0 rfl
                · exact blk_cell HX.out.pb 1 rfl
                · exact blk_cell HX.out.pb 2 rfl
              have hss := HWR.out.s q (Nat.le_refl _) hlq
              rw [← hss] at hsm
              clear hss
              have HCE : Hid (∀ W, RuAt W T2 rr → W.cell? ⟨T2, p, none⟩ = some (.int .i64 (spanAt rr q).lo) ∧ W.cell? ⟨T2, p + 1, none⟩ = some (.int .i64 (spanAt rr q).hi) ∧ W.frozen? ⟨T2, p, none⟩ = false ∧ ∀ u, (W.setCell ⟨T2, p, none⟩ u).cell? ⟨T2, p + 1, none⟩ = some (.int .i64 (spanAt rr q).hi) ∧ (W.setCell ⟨T2, p, none⟩ u).frozen? ⟨T2, p + 1, none⟩ = false) := fun W h => by
                rw [← hp]
                refine ⟨(span_cells h hlq).1, (span_cells h hlq).2, blk_free h, fun u => ⟨?_, blk_free (blk_setCell h)⟩⟩
                rcases three_q hlq with rfl | rfl | rfl
                · exact blk_cell (blk_setCell h) 2 rfl
                · exact blk_cell (blk_setCell h) 4 rfl
                · exact blk_cell (blk_setCell h) 6 rfl
              have HPU : Hid (∀ W lo hi k, SP V2 T2 P B a2 n2 cap2 k rr W → 0 ≤ lo → lo ≤ (spanAt rr q).lo → (spanAt rr q).hi ≤ hi → hi ≤ 30000 → SP V2 T2 P B a2 n2 cap2 k (setSpan rr q ⟨lo, hi⟩) ((W.setCell ⟨T2, p, none⟩ (.int .i64 lo)).setCell ⟨T2, p + 1, none⟩ (.int .i64 hi)) ∧ WidR r (setSpan rr q ⟨lo, hi⟩) (q + 1)) := fun W lo hi k h h1 h2 h3 h4 => by
                rw [← hp]
                exact ⟨h.put _ _ _ _ (span_put h.t hlq lo hi), HWR.out.step HSR.out hlq ⟨h1, h2⟩ ⟨h3, h4⟩⟩
              clear hp HWR
              generalize spanAt rr q = s at hsm HCE HPU
              go_upto_region 25 with (fail)
              clear e0
              refine wp_region_split (S := fun w' => w'.cell? ⟨T2, p + 1, none⟩ = some (.int .i64 s.hi)) [22, 23, 24] 22 (by kernel_rfl) (by kernel_rfl) rfl ?_
              have S0 := Lib.hid HX.out.drew
              clear HX
              generalize U.drew = X0 at S0 ⊢
              rw [show firstL _ [22, 23, 24] = #[false, false, false, false, false, false, false, false, false, false, false, false, false, false, false, false, false, false, false, false, false, false, true, true, true] from by kernel_rfl]
              refine wpAnyH_take (i := 0) (v := .pointer (some ⟨T2, p, none⟩)) rfl (by kernel_rfl) (by kernel_rfl) (by kernel_rfl) (fun _ _ _ h => h) (Or.inl ⟨by rfl, by (intro W hSw; clear hSw; go_simp)⟩) (HCE.out _ S0.out.t).2.1 ?_
              simp only [Act.put, List.getElem_toArray, List.getElem_cons_zero, List.setIfInBounds_toArray, List.set_cons_zero, List.set_cons_succ]
              refine wpAnyH_take (i := 1) (v := .pointer (some ⟨T2, p, none⟩)) rfl (by kernel_rfl) (by kernel_rfl) (by kernel_rfl) (fun _ _ _ h => h) (Or.inl ⟨by rfl, by (intro W hSw; clear hSw; go_simp)⟩) (HCE.out _ S0.out.t).2.1 ?_
              simp only [Act.put, List.getElem_toArray, List.getElem_cons_succ, List.getElem_cons_zero, List.setIfInBounds_toArray, List.set_cons_zero, List.set_cons_succ]
              refine wpAnyH_take (i := 2) (v := .pointer (some ⟨T2, p, none⟩)) rfl (by kernel_rfl) (by kernel_rfl) (by kernel_rfl) (fun _ _ _ h => h) (Or.inl ⟨by rfl, by (intro W hSw; clear hSw; go_simp)⟩) (HCE.out _ S0.out.t).2.1 ?_
              simp only [Act.put, List.getElem_toArray, List.getElem_cons_succ, List.getElem_cons_zero, List.setIfInBounds_toArray, List.set_cons_zero, List.set_cons_succ]
              refine wpAnyH_take (i := 3) (v := .pointer (some ⟨T2, p, none⟩)) rfl (by kernel_rfl) (by kernel_rfl) (by kernel_rfl) (fun _ _ _ h => h) (Or.inl ⟨by rfl, by (intro W hSw; clear hSw; go_simp)⟩) (HCE.out _ S0.out.t).2.1 ?_
              simp only [Act.put, List.getElem_toArray, List.getElem_cons_succ, List.getElem_cons_zero, List.setIfInBounds_toArray, List.set_cons_zero, List.set_cons_succ]
              refine wpAnyH_take (i := 4) (v := .pointer (some ⟨T2, p, none⟩)) rfl (by kernel_rfl) (by kernel_rfl) (by kernel_rfl) (fun _ _ _ h => h) (Or.inl ⟨by rfl, by (intro W hSw; clear hSw; go_simp)⟩) (HCE.out _ S0.out.t).2.1 ?_
              simp only [Act.put, List.getElem_toArray, List.getElem_cons_succ, List.getElem_cons_zero, List.setIfInBounds_toArray, List.set_cons_zero, List.set_cons_succ]
              refine wpAnyH_take (i := 6) (v := .pointer (some ⟨B, 0, none⟩)) rfl (by kernel_rfl) (by kernel_rfl) (by kernel_rfl) (fun _ _ _ h => h) (Or.inl ⟨by rfl, by (intro W hSw; clear hSw; go_simp)⟩) (HCE.out _ S0.out.t).2.1 ?_
              simp only [Act.put, List.getElem_toArray, List.getElem_cons_succ, List.getElem_cons_zero, List.setIfInBounds_toArray, List.set_cons_zero, List.set_cons_succ]
              refine wpAnyH_take (i := 11) (v := .pointer (some ⟨T2, p, none⟩)) rfl (by kernel_rfl) (by kernel_rfl) (by kernel_rfl) (fun _ _ _ h => h) (Or.inl ⟨by rfl, by (intro W hSw; clear hSw; go_simp)⟩) (HCE.out _ S0.out.t).2.1 ?_
              simp only [Act.put, List.getElem_toArray, List.getElem_cons_succ, List.getElem_cons_zero, List.setIfInBounds_toArray, List.set_cons_zero, List.set_cons_succ]
              refine wpAnyH_take (i := 12) (v := .pointer (some ⟨T2, p, none⟩)) rfl (by kernel_rfl) (by kernel_rfl) (by kernel_rfl) (fun _ _ _ h => h) (Or.inl ⟨by rfl, by (intro W hSw; clear hSw; go_simp)⟩) (HCE.out _ S0.out.t).2.1 ?_
              simp only [Act.put, List.getElem_toArray, List.getElem_cons_succ, List.getElem_cons_zero, List.setIfInBounds_toArray, List.set_cons_zero, List.set_cons_succ]
              refine wpAnyH_take (i := 13) (v := .pointer (some ⟨T2, p + 1, none⟩)) rfl (by kernel_rfl) (by kernel_rfl) (by kernel_rfl) (fun _ _ _ h => h) (Or.inl ⟨by rfl, by (intro W hSw; clear hSw; go_simp)⟩) (HCE.out _ S0.out.t).2.1 ?_
              simp only [Act.put, List.getElem_toArray, List.getElem_cons_succ, List.getElem_cons_zero, List.setIfInBounds_toArray, List.set_cons_zero, List.set_cons_succ]
              refine wpAnyH_take (i := 14) (v := .int .i64 s.hi) rfl (by kernel_rfl) (by kernel_rfl) (by kernel_rfl) (fun _ _ _ h => h) (Or.inl ⟨by rfl, by (intro W hSw; skip; go_simp)⟩) (HCE.out _ S0.out.t).2.1 ?_
              simp only [Act.put, List.getElem_toArray, List.getElem_cons_succ, List.getElem_cons_zero, List.setIfInBounds_toArray, List.set_cons_zero, List.set_cons_succ]
              refine wpAnyH_take (i := 15) (v := .pointer (some ⟨B, 0, none⟩)) rfl (by kernel_rfl) (by kernel_rfl) (by kernel_rfl) (fun _ _ _ h => h) (Or.inl ⟨by rfl, by (intro W hSw; clear hSw; go_simp)⟩) (HCE.out _ S0.out.t).2.1 ?_
              simp only [Act.put, List.getElem_toArray, List.getElem_cons_succ, List.getElem_cons_zero, List.setIfInBounds_toArray, List.set_cons_zero, List.set_cons_succ]
              refine wpAnyH_ready (rs := [5, 7]) (by kernel_rfl) (by simp) ?_
              refine AllReadyH.cons (o := _) rfl (fun K hK => ?_) ?_
              · skip
                have c5 := (HCE.out _ S0.out.t).1
                go_simp
                clear c5
                refine hK.out _ _ (HCE.out _ S0.out.t).2.1 (fun _ => ?_)
                clear hK
                simp only [List.setIfInBounds_toArray, List.set_cons_zero, List.set_cons_succ]
                refine wpAnyH_ready (rs := [7]) (by kernel_rfl) (by simp) ?_
                refine AllReadyH.cons (o := _) rfl (fun K hK => ?_) AllReadyH.nil
                go_simp
                go_at_call 59
                refine (draw_any B (B + 1) a2 n2 cap2 (36 + 2 * q) 4 X0 S0.out.dk (by omega) (by omega)).mono ?_
                rintro e X1 ⟨⟨x1, rfl, hx10, hx11⟩, hD, hA⟩
                have S1 := Lib.hid (S0.out.call hA hD)
                have hx1 : x1 ≤ 3 := by omega
                have wx1 : IntKind.i64.wrap (100 * x1) = 100 * x1 := IntWalk.i64_in _ (by omega)
                have wl : IntKind.i64.wrap (s.lo - 100 * x1) = s.lo - 100 * x1 := IntWalk.i64_in _ (by omega)
                clear hD hA hx11
                refine hK.out _ _ (HCE.out _ S1.out.t).2.1 (fun _ => ?_)
                clear hK
                simp only [List.setIfInBounds_toArray, List.set_cons_zero, List.set_cons_succ]
                refine wpAnyH_take (i := 8) (v := .int .i64 (100 * x1)) rfl (by kernel_rfl) (by kernel_rfl) (by kernel_rfl) (fun _ _ _ h => h) (Or.inl ⟨by rfl, by (intro W hSw; clear hSw; go_simp)⟩) (HCE.out _ S1.out.t).2.1 ?_
                simp only [Act.put, List.getElem_toArray, List.getElem_cons_succ, List.getElem_cons_zero, List.setIfInBounds_toArray, List.set_cons_zero, List.set_cons_succ]
                refine wpAnyH_take (i := 9) (v := .int .i64 (s.lo - 100 * x1)) rfl (by kernel_rfl) (by kernel_rfl) (by kernel_rfl) (fun _ _ _ h => h) (Or.inl ⟨by rfl, by (intro W hSw; clear hSw; go_simp)⟩) (HCE.out _ S1.out.t).2.1 ?_
                simp only [Act.put, List.getElem_toArray, List.getElem_cons_succ, List.getElem_cons_zero, List.setIfInBounds_toArray, List.set_cons_zero, List.set_cons_succ]
                refine wpAnyH_take (i := 10) (v := .int .i64 (max 0 (s.lo - 100 * x1))) rfl (by kernel_rfl) (by kernel_rfl) (by kernel_rfl) (fun _ _ _ h => h) (Or.inl ⟨by rfl, by (intro W hSw; clear hSw; go_simp; (repeat split) <;> omega)⟩) (HCE.out _ S1.out.t).2.1 ?_
                simp only [Act.put, List.getElem_toArray, List.getElem_cons_succ, List.getElem_cons_zero, List.setIfInBounds_toArray, List.set_cons_zero, List.set_cons_succ]
                refine wpAnyH_ready (rs := [16]) (by kernel_rfl) (by simp) ?_
                refine AllReadyH.cons (o := _) rfl (fun K hK => ?_) AllReadyH.nil
                go_simp
                go_at_call 59
                refine (draw_any B (B + 1) a2 n2 cap2 (36 + 2 * q + 1) 4 X1 S1.out.dk (by omega) (by omega)).mono ?_
                rintro e X2 ⟨⟨x2, rfl, hx20, hx21⟩, hD, hA⟩
                have S2 := Lib.hid (S1.out.call hA hD)
                have hx2 : x2 ≤ 3 := by omega
                have wx2 : IntKind.i64.wrap (100 * x2) = 100 * x2 := IntWalk.i64_in _ (by omega)
                have wh : IntKind.i64.wrap (s.hi + 100 * x2) = s.hi + 100 * x2 := IntWalk.i64_in _ (by omega)
                clear hD hA hx21
                refine hK.out _ _ (HCE.out _ S2.out.t).2.1 (fun _ => ?_)
                clear hK
                simp only [List.setIfInBounds_toArray, List.set_cons_zero, List.set_cons_succ]
                refine wpAnyH_take (i := 17) (v := .int .i64 (100 * x2)) rfl (by kernel_rfl) (by kernel_rfl) (by kernel_rfl) (fun _ _ _ h => h) (Or.inl ⟨by rfl, by (intro W hSw; clear hSw; go_simp)⟩) (HCE.out _ S2.out.t).2.1 ?_
                simp only [Act.put, List.getElem_toArray, List.getElem_cons_succ, List.getElem_cons_zero, List.setIfInBounds_toArray, List.set_cons_zero, List.set_cons_succ]
                refine wpAnyH_take (i := 18) (v := .int .i64 (s.hi + 100 * x2)) rfl (by kernel_rfl) (by kernel_rfl) (by kernel_rfl) (fun _ _ _ h => h) (Or.inl ⟨by rfl, by (intro W hSw; clear hSw; go_simp)⟩) (HCE.out _ S2.out.t).2.1 ?_
                simp only [Act.put, List.getElem_toArray, List.getElem_cons_succ, List.getElem_cons_zero, List.setIfInBounds_toArray, List.set_cons_zero, List.set_cons_succ]
                refine wpAnyH_take (i := 19) (v := .pointer (some ⟨T2, p, none⟩)) rfl (by kernel_rfl) (by kernel_rfl) (by kernel_rfl) (fun _ _ _ h => h) (Or.inl ⟨by rfl, by (intro W hSw; clear hSw; go_simp)⟩) (HCE.out _ S2.out.t).2.1 ?_
                simp only [Act.put, List.getElem_toArray, List.getElem_cons_succ, List.getElem_cons_zero, List.setIfInBounds_toArray, List.set_cons_zero, List.set_cons_succ]
                refine wpAnyH_take (i := 20) (v := .pointer (some ⟨T2, p, none⟩)) rfl (by kernel_rfl) (by kernel_rfl) (by kernel_rfl) (fun _ _ _ h => h) (Or.inl ⟨by rfl, by (intro W hSw; clear hSw; go_simp)⟩) (HCE.out _ S2.out.t).2.1 ?_
                simp only [Act.put, List.getElem_toArray, List.getElem_cons_succ, List.getElem_cons_zero, List.setIfInBounds_toArray, List.set_cons_zero, List.set_cons_succ]
                refine wpAnyH_ready (rs := [21]) (by kernel_rfl) (by simp) ?_
                refine AllReadyH.cons (o := _) rfl (fun K hK => ?_) AllReadyH.nil
                have c5 := (HCE.out _ S2.out.t).1
                have f5 := (HCE.out _ S2.out.t).2.2.1
                go_simp
                clear c5 f5
                refine hK.out _ _ ((HCE.out _ S2.out.t).2.2.2 _).1 (fun _ => ?_)
                clear hK
                simp only [List.setIfInBounds_toArray, List.set_cons_zero, List.set_cons_succ]
                refine wpAnyH_done (by kernel_rfl) ?_ _
                show wpList _ _ _ (opsAt _ [22, 23, 24]) _ _
                simp only [opsAt, List.filterMap_cons, List.filterMap_nil, List.getElem?_toArray, List.getElem?_cons_succ, List.getElem?_cons_zero]
                have c3 := ((HCE.out _ S2.out.t).2.2.2 (.int .i64 (max 0 (s.lo - 100 * x1)))).1
                have f3 := ((HCE.out _ S2.out.t).2.2.2 (.int .i64 (max 0 (s.lo - 100 * x1)))).2
                have HN := Lib.hid (HPU.out X2 (max 0 (s.lo - 100 * x1)) (s.hi + 100 * x2) _ S2.out (by omega) (by omega) (by omega) (by omega))
                clear HCE HPU
                go_wp2_with (fail)
                go_roundw
                case rel => exact ⟨q + 1, by omega, by go_num, _, (by have h := HN.out.1; rw [show 36 + 2 * q + 1 + 1 = 36 + 2 * (q + 1) by omega] at h; exact h), HN.out.2⟩
                case measure => first | (simp [intOf]; done) | (simp [intOf]; omega)
              refine AllReadyH.cons (o := _) rfl (fun K hK => ?_) AllReadyH.nil
              go_simp
              go_at_call 59
              refine (draw_any B (B + 1) a2 n2 cap2 (36 + 2 * q) 4 X0 S0.out.dk (by omega) (by omega)).mono ?_
              rintro e X1 ⟨⟨x1, rfl, hx10, hx11⟩, hD, hA⟩
              have S1 := Lib.hid (S0.out.call hA hD)
              have hx1 : x1 ≤ 3 := by omega
              have wx1 : IntKind.i64.wrap (100 * x1) = 100 * x1 := IntWalk.i64_in _ (by omega)
              have wl : IntKind.i64.wrap (s.lo - 100 * x1) = s.lo - 100 * x1 := IntWalk.i64_in _ (by omega)
              clear hD hA hx11
              refine hK.out _ _ (HCE.out _ S1.out.t).2.1 (fun _ => ?_)
              clear hK
              simp only [List.setIfInBounds_toArray, List.set_cons_zero, List.set_cons_succ]
              refine wpAnyH_take (i := 8) (v := .int .i64 (100 * x1)) rfl (by kernel_rfl) (by kernel_rfl) (by kernel_rfl) (fun _ _ _ h => h) (Or.inl ⟨by rfl, by (intro W hSw; clear hSw; go_simp)⟩) (HCE.out _ S1.out.t).2.1 ?_
              simp only [Act.put, List.getElem_toArray, List.getElem_cons_succ, List.getElem_cons_zero, List.setIfInBounds_toArray, List.set_cons_zero, List.set_cons_succ]
              refine wpAnyH_ready (rs := [5, 16]) (by kernel_rfl) (by simp) ?_
              refine AllReadyH.cons (o := _) rfl (fun K hK => ?_) ?_
              · skip
                have c5 := (HCE.out _ S1.out.t).1
                go_simp
                clear c5
                refine hK.out _ _ (HCE.out _ S1.out.t).2.1 (fun _ => ?_)
                clear hK
                simp only [List.setIfInBounds_toArray, List.set_cons_zero, List.set_cons_succ]
                refine wpAnyH_take (i := 9) (v := .int .i64 (s.lo - 100 * x1)) rfl (by kernel_rfl) (by kernel_rfl) (by kernel_rfl) (fun _ _ _ h => h) (Or.inl ⟨by rfl, by (intro W hSw; clear hSw; go_simp)⟩) (HCE.out _ S1.out.t).2.1 ?_
                simp only [Act.put, List.getElem_toArray, List.getElem_cons_succ, List.getElem_cons_zero, List.setIfInBounds_toArray, List.set_cons_zero, List.set_cons_succ]
                refine wpAnyH_take (i := 10) (v := .int .i64 (max 0 (s.lo - 100 * x1))) rfl (by kernel_rfl) (by kernel_rfl) (by kernel_rfl) (fun _ _ _ h => h) (Or.inl ⟨by rfl, by (intro W hSw; clear hSw; go_simp; (repeat split) <;> omega)⟩) (HCE.out _ S1.out.t).2.1 ?_
                simp only [Act.put, List.getElem_toArray, List.getElem_cons_succ, List.getElem_cons_zero, List.setIfInBounds_toArray, List.set_cons_zero, List.set_cons_succ]
                refine wpAnyH_ready (rs := [16]) (by kernel_rfl) (by simp) ?_
                refine AllReadyH.cons (o := _) rfl (fun K hK => ?_) AllReadyH.nil
                go_simp
                go_at_call 59
                refine (draw_any B (B + 1) a2 n2 cap2 (36 + 2 * q + 1) 4 X1 S1.out.dk (by omega) (by omega)).mono ?_
                rintro e X2 ⟨⟨x2, rfl, hx20, hx21⟩, hD, hA⟩
                have S2 := Lib.hid (S1.out.call hA hD)
                have hx2 : x2 ≤ 3 := by omega
                have wx2 : IntKind.i64.wrap (100 * x2) = 100 * x2 := IntWalk.i64_in _ (by omega)
                have wh : IntKind.i64.wrap (s.hi + 100 * x2) = s.hi + 100 * x2 := IntWalk.i64_in _ (by omega)
                clear hD hA hx21
                refine hK.out _ _ (HCE.out _ S2.out.t).2.1 (fun _ => ?_)
                clear hK
                simp only [List.setIfInBounds_toArray, List.set_cons_zero, List.set_cons_succ]
                refine wpAnyH_take (i := 17) (v := .int .i64 (100 * x2)) rfl (by kernel_rfl) (by kernel_rfl) (by kernel_rfl) (fun _ _ _ h => h) (Or.inl ⟨by rfl, by (intro W hSw; clear hSw; go_simp)⟩) (HCE.out _ S2.out.t).2.1 ?_
                simp only [Act.put, List.getElem_toArray, List.getElem_cons_succ, List.getElem_cons_zero, List.setIfInBounds_toArray, List.set_cons_zero, List.set_cons_succ]
                refine wpAnyH_take (i := 18) (v := .int .i64 (s.hi + 100 * x2)) rfl (by kernel_rfl) (by kernel_rfl) (by kernel_rfl) (fun _ _ _ h => h) (Or.inl ⟨by rfl, by (intro W hSw; clear hSw; go_simp)⟩) (HCE.out _ S2.out.t).2.1 ?_
                simp only [Act.put, List.getElem_toArray, List.getElem_cons_succ, List.getElem_cons_zero, List.setIfInBounds_toArray, List.set_cons_zero, List.set_cons_succ]
                refine wpAnyH_take (i := 19) (v := .pointer (some ⟨T2, p, none⟩)) rfl (by kernel_rfl) (by kernel_rfl) (by kernel_rfl) (fun _ _ _ h => h) (Or.inl ⟨by rfl, by (intro W hSw; clear hSw; go_simp)⟩) (HCE.out _ S2.out.t).2.1 ?_
                simp only [Act.put, List.getElem_toArray, List.getElem_cons_succ, List.getElem_cons_zero, List.setIfInBounds_toArray, List.set_cons_zero, List.set_cons_succ]
                refine wpAnyH_take (i := 20) (v := .pointer (some ⟨T2, p, none⟩)) rfl (by kernel_rfl) (by kernel_rfl) (by kernel_rfl) (fun _ _ _ h => h) (Or.inl ⟨by rfl, by (intro W hSw; clear hSw; go_simp)⟩) (HCE.out _ S2.out.t).2.1 ?_
                simp only [Act.put, List.getElem_toArray, List.getElem_cons_succ, List.getElem_cons_zero, List.setIfInBounds_toArray, List.set_cons_zero, List.set_cons_succ]
                refine wpAnyH_ready (rs := [21]) (by kernel_rfl) (by simp) ?_
                refine AllReadyH.cons (o := _) rfl (fun K hK => ?_) AllReadyH.nil
                have c5 := (HCE.out _ S2.out.t).1
                have f5 := (HCE.out _ S2.out.t).2.2.1
                go_simp
                clear c5 f5
                refine hK.out _ _ ((HCE.out _ S2.out.t).2.2.2 _).1 (fun _ => ?_)
                clear hK
                simp only [List.setIfInBounds_toArray, List.set_cons_zero, List.set_cons_succ]
                refine wpAnyH_done (by kernel_rfl) ?_ _
                show wpList _ _ _ (opsAt _ [22, 23, 24]) _ _
                simp only [opsAt, List.filterMap_cons, List.filterMap_nil, List.getElem?_toArray, List.getElem?_cons_succ, List.getElem?_cons_zero]
                have c3 := ((HCE.out _ S2.out.t).2.2.2 (.int .i64 (max 0 (s.lo - 100 * x1)))).1
                have f3 := ((HCE.out _ S2.out.t).2.2.2 (.int .i64 (max 0 (s.lo - 100 * x1)))).2
                have HN := Lib.hid (HPU.out X2 (max 0 (s.lo - 100 * x1)) (s.hi + 100 * x2) _ S2.out (by omega) (by omega) (by omega) (by omega))
                clear HCE HPU
                go_wp2_with (fail)
                go_roundw
                case rel => exact ⟨q + 1, by omega, by go_num, _, (by have h := HN.out.1; rw [show 36 + 2 * q + 1 + 1 = 36 + 2 * (q + 1) by omega] at h; exact h), HN.out.2⟩
                case measure => first | (simp [intOf]; done) | (simp [intOf]; omega)
              refine AllReadyH.cons (o := _) rfl (fun K hK => ?_) AllReadyH.nil
              go_simp
              go_at_call 59
              refine (draw_any B (B + 1) a2 n2 cap2 (36 + 2 * q + 1) 4 X1 S1.out.dk (by omega) (by omega)).mono ?_
              rintro e X2 ⟨⟨x2, rfl, hx20, hx21⟩, hD, hA⟩
              have S2 := Lib.hid (S1.out.call hA hD)
              have hx2 : x2 ≤ 3 := by omega
              have wx2 : IntKind.i64.wrap (100 * x2) = 100 * x2 := IntWalk.i64_in _ (by omega)
              have wh : IntKind.i64.wrap (s.hi + 100 * x2) = s.hi + 100 * x2 := IntWalk.i64_in _ (by omega)
              clear hD hA hx21
              refine hK.out _ _ (HCE.out _ S2.out.t).2.1 (fun _ => ?_)
              clear hK
              simp only [List.setIfInBounds_toArray, List.set_cons_zero, List.set_cons_succ]
              refine wpAnyH_take (i := 17) (v := .int .i64 (100 * x2)) rfl (by kernel_rfl) (by kernel_rfl) (by kernel_rfl) (fun _ _ _ h => h) (Or.inl ⟨by rfl, by (intro W hSw; clear hSw; go_simp)⟩) (HCE.out _ S2.out.t).2.1 ?_
              simp only [Act.put, List.getElem_toArray, List.getElem_cons_succ, List.getElem_cons_zero, List.setIfInBounds_toArray, List.set_cons_zero, List.set_cons_succ]
              refine wpAnyH_take (i := 18) (v := .int .i64 (s.hi + 100 * x2)) rfl (by kernel_rfl) (by kernel_rfl) (by kernel_rfl) (fun _ _ _ h => h) (Or.inl ⟨by rfl, by (intro W hSw; clear hSw; go_simp)⟩) (HCE.out _ S2.out.t).2.1 ?_
              simp only [Act.put, List.getElem_toArray, List.getElem_cons_succ, List.getElem_cons_zero, List.setIfInBounds_toArray, List.set_cons_zero, List.set_cons_succ]
              refine wpAnyH_ready (rs := [5]) (by kernel_rfl) (by simp) ?_
              refine AllReadyH.cons (o := _) rfl (fun K hK => ?_) AllReadyH.nil
              have c5 := (HCE.out _ S2.out.t).1
              go_simp
              clear c5
              refine hK.out _ _ (HCE.out _ S2.out.t).2.1 (fun _ => ?_)
              clear hK
              simp only [List.setIfInBounds_toArray, List.set_cons_zero, List.set_cons_succ]
              refine wpAnyH_take (i := 9) (v := .int .i64 (s.lo - 100 * x1)) rfl (by kernel_rfl) (by kernel_rfl) (by kernel_rfl) (fun _ _ _ h => h) (Or.inl ⟨by rfl, by (intro W hSw; clear hSw; go_simp)⟩) (HCE.out _ S2.out.t).2.1 ?_
              simp only [Act.put, List.getElem_toArray, List.getElem_cons_succ, List.getElem_cons_zero, List.setIfInBounds_toArray, List.set_cons_zero, List.set_cons_succ]
              refine wpAnyH_take (i := 10) (v := .int .i64 (max 0 (s.lo - 100 * x1))) rfl (by kernel_rfl) (by kernel_rfl) (by kernel_rfl) (fun _ _ _ h => h) (Or.inl ⟨by rfl, by (intro W hSw; clear hSw; go_simp; (repeat split) <;> omega)⟩) (HCE.out _ S2.out.t).2.1 ?_
              simp only [Act.put, List.getElem_toArray, List.getElem_cons_succ, List.getElem_cons_zero, List.setIfInBounds_toArray, List.set_cons_zero, List.set_cons_succ]
              refine wpAnyH_take (i := 19) (v := .pointer (some ⟨T2, p, none⟩)) rfl (by kernel_rfl) (by kernel_rfl) (by kernel_rfl) (fun _ _ _ h => h) (Or.inl ⟨by rfl, by (intro W hSw; clear hSw; go_simp)⟩) (HCE.out _ S2.out.t).2.1 ?_
              simp only [Act.put, List.getElem_toArray, List.getElem_cons_succ, List.getElem_cons_zero, List.setIfInBounds_toArray, List.set_cons_zero, List.set_cons_succ]
              refine wpAnyH_take (i := 20) (v := .pointer (some ⟨T2, p, none⟩)) rfl (by kernel_rfl) (by kernel_rfl) (by kernel_rfl) (fun _ _ _ h => h) (Or.inl ⟨by rfl, by (intro W hSw; clear hSw; go_simp)⟩) (HCE.out _ S2.out.t).2.1 ?_
              simp only [Act.put, List.getElem_toArray, List.getElem_cons_succ, List.getElem_cons_zero, List.setIfInBounds_toArray, List.set_cons_zero, List.set_cons_succ]
              refine wpAnyH_ready (rs := [21]) (by kernel_rfl) (by simp) ?_
              refine AllReadyH.cons (o := _) rfl (fun K hK => ?_) AllReadyH.nil
              have c5 := (HCE.out _ S2.out.t).1
              have f5 := (HCE.out _ S2.out.t).2.2.1
              go_simp
              clear c5 f5
              refine hK.out _ _ ((HCE.out _ S2.out.t).2.2.2 _).1 (fun _ => ?_)
              clear hK
              simp only [List.setIfInBounds_toArray, List.set_cons_zero, List.set_cons_succ]
              refine wpAnyH_done (by kernel_rfl) ?_ _
              show wpList _ _ _ (opsAt _ [22, 23, 24]) _ _
              simp only [opsAt, List.filterMap_cons, List.filterMap_nil, List.getElem?_toArray, List.getElem?_cons_succ, List.getElem?_cons_zero]
              have c3 := ((HCE.out _ S2.out.t).2.2.2 (.int .i64 (max 0 (s.lo - 100 * x1)))).1
              have f3 := ((HCE.out _ S2.out.t).2.2.2 (.int .i64 (max 0 (s.lo - 100 * x1)))).2
              have HN := Lib.hid (HPU.out X2 (max 0 (s.lo - 100 * x1)) (s.hi + 100 * x2) _ S2.out (by omega) (by omega) (by omega) (by omega))
              clear HCE HPU
              go_wp2_with (fail)
              go_roundw
              case rel => exact ⟨q + 1, by omega, by go_num, _, (by have h := HN.out.1; rw [show 36 + 2 * q + 1 + 1 = 36 + 2 * (q + 1) by omega] at h; exact h), HN.out.2⟩
              case measure => first | (simp [intOf]; done) | (simp [intOf]; omega)
            · have hq3 : q = 3 := by omega
              have HW3 : Hid (WidR r rr 3) := by have h := HWR.out; rw [hq3] at h; exact h
              clear hq3 HWR
              have HT0 : Hid (RuAt U T r) := (HX.out.ap.block _ (lt_of_block H9.out.t) (by have := H9.out.hB; omega)).trans H9.out.t
              have hTB : T ≠ B := by have := H9.out.hB; omega
              have hTT2 : T ≠ T2 := by have h1 := HT2.out; have h2 := lt_of_block H9.out.t; omega
              go_upto_region 27 with (fail)
              generalize Value.int IntKind.i64 (q : Int) = u110
              refine wp_region_split (S := fun w' => w'.cell? ⟨T, 7, none⟩ = some (.int .i64 r.wide) ∧ w'.cell? ⟨T, 8, none⟩ = some (.int .i64 r.uses)) [14, 15] 14 (by kernel_rfl) (by kernel_rfl) rfl ?_
              have S0 : Hid (SP V2 T2 P B a2 n2 cap2 (36 + 2 * q) rr U.drew ∧ RuAt U.drew T r) := ⟨HX.out.drew, HT0.out⟩
              clear HX HT0
              have hsr := HSR.out
              unfold SmallRu at hsr
              have hsw : (3 ≤ r.wide ∧ r.wide ≤ 5) ∧ 1 ≤ r.uses ∧ r.uses ≤ 5 := ⟨hsr.2.2.2.2.1, hsr.2.2.2.2.2⟩
              clear hsr
              generalize U.drew = X0 at S0 ⊢
              rw [show firstL _ [14, 15] = #[false, false, false, false, false, false, false, false, false, false, false, false, false, false, true, true] from by kernel_rfl]
              refine wpAnyH_take (i := 0) (v := .pointer (some ⟨T, 7, none⟩)) rfl (by kernel_rfl) (by kernel_rfl) (by kernel_rfl) (fun _ _ _ h => h) (Or.inl ⟨by rfl, by (intro W hSw; clear hSw; go_simp)⟩) ⟨blk_cell S0.out.2 7 rfl, blk_cell S0.out.2 8 rfl⟩ ?_
              simp only [Act.put, List.getElem_toArray, List.getElem_cons_zero, List.setIfInBounds_toArray, List.set_cons_zero, List.set_cons_succ]
              refine wpAnyH_take (i := 1) (v := .int .i64 r.wide) rfl (by kernel_rfl) (by kernel_rfl) (by kernel_rfl) (fun _ _ _ h => h) (Or.inl ⟨by rfl, by (intro W hSw; have c := hSw.1; clear hSw; go_simp)⟩) ⟨blk_cell S0.out.2 7 rfl, blk_cell S0.out.2 8 rfl⟩ ?_
              simp only [Act.put, List.getElem_toArray, List.getElem_cons_succ, List.getElem_cons_zero, List.setIfInBounds_toArray, List.set_cons_zero, List.set_cons_succ]
              refine wpAnyH_take (i := 2) (v := .pointer (some ⟨B, 0, none⟩)) rfl (by kernel_rfl) (by kernel_rfl) (by kernel_rfl) (fun _ _ _ h => h) (Or.inl ⟨by rfl, by (intro W hSw; clear hSw; go_simp)⟩) ⟨blk_cell S0.out.2 7 rfl, blk_cell S0.out.2 8 rfl⟩ ?_
              simp only [Act.put, List.getElem_toArray, List.getElem_cons_succ, List.getElem_cons_zero, List.setIfInBounds_toArray, List.set_cons_zero, List.set_cons_succ]
              refine wpAnyH_take (i := 6) (v := .pointer (some ⟨T, 8, none⟩)) rfl (by kernel_rfl) (by kernel_rfl) (by kernel_rfl) (fun _ _ _ h => h) (Or.inl ⟨by rfl, by (intro W hSw; clear hSw; go_simp)⟩) ⟨blk_cell S0.out.2 7 rfl, blk_cell S0.out.2 8 rfl⟩ ?_
              simp only [Act.put, List.getElem_toArray, List.getElem_cons_succ, List.getElem_cons_zero, List.setIfInBounds_toArray, List.set_cons_zero, List.set_cons_succ]
              refine wpAnyH_take (i := 7) (v := .int .i64 r.uses) rfl (by kernel_rfl) (by kernel_rfl) (by kernel_rfl) (fun _ _ _ h => h) (Or.inl ⟨by rfl, by (intro W hSw; have c := hSw.2; clear hSw; go_simp)⟩) ⟨blk_cell S0.out.2 7 rfl, blk_cell S0.out.2 8 rfl⟩ ?_
              simp only [Act.put, List.getElem_toArray, List.getElem_cons_succ, List.getElem_cons_zero, List.setIfInBounds_toArray, List.set_cons_zero, List.set_cons_succ]
              refine wpAnyH_take (i := 8) (v := .pointer (some ⟨B, 0, none⟩)) rfl (by kernel_rfl) (by kernel_rfl) (by kernel_rfl) (fun _ _ _ h => h) (Or.inl ⟨by rfl, by (intro W hSw; clear hSw; go_simp)⟩) ⟨blk_cell S0.out.2 7 rfl, blk_cell S0.out.2 8 rfl⟩ ?_
              simp only [Act.put, List.getElem_toArray, List.getElem_cons_succ, List.getElem_cons_zero, List.setIfInBounds_toArray, List.set_cons_zero, List.set_cons_succ]
              refine wpAnyH_ready (rs := [3]) (by kernel_rfl) (by simp) ?_
              refine AllReadyH.cons (o := _) rfl (fun K hK => ?_) AllReadyH.nil
              go_simp
              go_at_call 59
              refine (draw_any B (B + 1) a2 n2 cap2 (36 + 2 * q) 2 X0 S0.out.1.dk (by omega) (by omega)).mono ?_
              rintro e X1 ⟨⟨x1, rfl, hx10, hx11⟩, hD, hA⟩
              have S1 : Hid (SP V2 T2 P B a2 n2 cap2 (36 + 2 * q + 1) rr X1 ∧ RuAt X1 T r) := ⟨S0.out.1.call hA hD, (hA.block _ (lt_of_block S0.out.2) hTB).trans S0.out.2⟩
              have hx1 : x1 ≤ 1 := by omega
              have wl : IntKind.i64.wrap (r.wide - x1) = r.wide - x1 := IntWalk.i64_in _ (by omega)
              clear hD hA hx11
              refine hK.out _ _ ⟨blk_cell S1.out.2 7 rfl, blk_cell S1.out.2 8 rfl⟩ (fun _ => ?_)
              clear hK
              simp only [List.setIfInBounds_toArray, List.set_cons_zero, List.set_cons_succ]
              refine wpAnyH_take (i := 4) (v := .int .i64 (r.wide - x1)) rfl (by kernel_rfl) (by kernel_rfl) (by kernel_rfl) (fun _ _ _ h => h) (Or.inl ⟨by rfl, by (intro W hSw; clear hSw; go_simp)⟩) ⟨blk_cell S1.out.2 7 rfl, blk_cell S1.out.2 8 rfl⟩ ?_
              simp only [Act.put, List.getElem_toArray, List.getElem_cons_succ, List.getElem_cons_zero, List.setIfInBounds_toArray, List.set_cons_zero, List.set_cons_succ]
              refine wpAnyH_take (i := 5) (v := .int .i64 (max 1 (r.wide - x1))) rfl (by kernel_rfl) (by kernel_rfl) (by kernel_rfl) (fun _ _ _ h => h) (Or.inl ⟨by rfl, by (intro W hSw; clear hSw; go_simp; (repeat split) <;> omega)⟩) ⟨blk_cell S1.out.2 7 rfl, blk_cell S1.out.2 8 rfl⟩ ?_
              simp only [Act.put, List.getElem_toArray, List.getElem_cons_succ, List.getElem_cons_zero, List.setIfInBounds_toArray, List.set_cons_zero, List.set_cons_succ]
              refine wpAnyH_ready (rs := [9]) (by kernel_rfl) (by simp) ?_
              refine AllReadyH.cons (o := _) rfl (fun K hK => ?_) AllReadyH.nil
              go_simp
              go_at_call 59
              refine (draw_any B (B + 1) a2 n2 cap2 (36 + 2 * q + 1) 2 X1 S1.out.1.dk (by omega) (by omega)).mono ?_
              rintro e X2 ⟨⟨x2, rfl, hx20, hx21⟩, hD, hA⟩
              have S2 : Hid (SP V2 T2 P B a2 n2 cap2 (36 + 2 * q + 1 + 1) rr X2 ∧ RuAt X2 T r) := ⟨S1.out.1.call hA hD, (hA.block _ (lt_of_block S1.out.2) hTB).trans S1.out.2⟩
              have hx2 : x2 ≤ 1 := by omega
              have wh : IntKind.i64.wrap (r.uses + x2) = r.uses + x2 := IntWalk.i64_in _ (by omega)
              clear hD hA hx21
              refine hK.out _ _ ⟨blk_cell S2.out.2 7 rfl, blk_cell S2.out.2 8 rfl⟩ (fun _ => ?_)
              clear hK
              simp only [List.setIfInBounds_toArray, List.set_cons_zero, List.set_cons_succ]
              refine wpAnyH_take (i := 10) (v := .int .i64 (r.uses + x2)) rfl (by kernel_rfl) (by kernel_rfl) (by kernel_rfl) (fun _ _ _ h => h) (Or.inl ⟨by rfl, by (intro W hSw; clear hSw; go_simp)⟩) ⟨blk_cell S2.out.2 7 rfl, blk_cell S2.out.2 8 rfl⟩ ?_
              simp only [Act.put, List.getElem_toArray, List.getElem_cons_succ, List.getElem_cons_zero, List.setIfInBounds_toArray, List.set_cons_zero, List.set_cons_succ]
              refine wpAnyH_take (i := 11) (v := .int .i64 (min 6 (r.uses + x2))) rfl (by kernel_rfl) (by kernel_rfl) (by kernel_rfl) (fun _ _ _ h => h) (Or.inl ⟨by rfl, by (intro W hSw; clear hSw; go_simp; (repeat split) <;> omega)⟩) ⟨blk_cell S2.out.2 7 rfl, blk_cell S2.out.2 8 rfl⟩ ?_
              simp only [Act.put, List.getElem_toArray, List.getElem_cons_succ, List.getElem_cons_zero, List.setIfInBounds_toArray, List.set_cons_zero, List.set_cons_succ]
              refine wpAnyH_take (i := 12) (v := .pointer (some ⟨T2, 7, none⟩)) rfl (by kernel_rfl) (by kernel_rfl) (by kernel_rfl) (fun _ _ _ h => h) (Or.inl ⟨by rfl, by (intro W hSw; clear hSw; go_simp)⟩) ⟨blk_cell S2.out.2 7 rfl, blk_cell S2.out.2 8 rfl⟩ ?_
              simp only [Act.put, List.getElem_toArray, List.getElem_cons_succ, List.getElem_cons_zero, List.setIfInBounds_toArray, List.set_cons_zero, List.set_cons_succ]
              refine wpAnyH_ready (rs := [13]) (by kernel_rfl) (by simp) ?_
              refine AllReadyH.cons (o := _) rfl (fun K hK => ?_) AllReadyH.nil
              have c5 := blk_cell S2.out.1.t 7 rfl
              have f5 := blk_free (j := 7) S2.out.1.t
              go_simp
              clear c5 f5
              refine hK.out _ _ ⟨blk_cell (blk_other (u := _) (j := 7) S2.out.2 hTT2) 7 rfl, blk_cell (blk_other (u := _) (j := 7) S2.out.2 hTT2) 8 rfl⟩ (fun _ => ?_)
              clear hK
              simp only [List.setIfInBounds_toArray, List.set_cons_zero, List.set_cons_succ]
              refine wpAnyH_done (by kernel_rfl) ?_ _
              show wpList _ _ _ (opsAt _ [14, 15]) _ _
              simp only [opsAt, List.filterMap_cons, List.filterMap_nil, List.getElem?_toArray, List.getElem?_cons_succ, List.getElem?_cons_zero]
              have c3 := blk_cell (blk_setCell (j := 7) (u := .int .i64 (max 1 (r.wide - x1))) S2.out.1.t) 8 rfl
              have f3 := blk_free (j := 8) (blk_setCell (j := 7) (u := .int .i64 (max 1 (r.wide - x1))) S2.out.1.t)
              have HN : Hid (∃ rq, SP V2 T2 P B a2 n2 cap2 (36 + 2 * q + 1 + 1) rq ((X2.setCell ⟨T2, 7, none⟩ (.int .i64 (max 1 (r.wide - x1)))).setCell ⟨T2, 8, none⟩ (.int .i64 (min 6 (r.uses + x2)))) ∧ Wider r rq ∧ rulesB rq = true) := by
                obtain ⟨h1, h2⟩ := HW3.out.last HSR.out (wd := max 1 (r.wide - x1)) (us := min 6 (r.uses + x2)) ⟨by omega, by omega⟩ ⟨by omega, by omega⟩
                exact ⟨_, S2.out.1.put 7 8 _ _ (last_put S2.out.1.t _ _), h1, h2⟩
              clear HW3 S0 S1 S2
              go_upto_region 28 with (fail)
              clear c3 f3
              generalize ((X2.setCell ⟨T2, 7, none⟩ (.int .i64 (max 1 (r.wide - x1)))).setCell ⟨T2, 8, none⟩ (.int .i64 (min 6 (r.uses + x2)))) = Z at HN ⊢
              obtain ⟨rq, h1, h2, h3⟩ := HN.out
              obtain ⟨M, hM1, hM2, hM3, hM4⟩ := HC4.out rq h3 h2
              have HM := Lib.hid (And.intro hM1 (And.intro hM2 (And.intro hM3 hM4)))
              have H10 : Hid (LI w T B r sa xs la R a2 n2 cap2 (36 + 2 * q + 1 + 1) Z ∧ RuAt Z T2 rq) := ⟨H9.out.step h1.ap h1.dk, h1.t⟩
              clear h1 h2 h3 hM1 hM2 hM3 hM4 HN HC4 H9
              have c0 := blk_cell H10.out.2 0 rfl
              have c1 := blk_cell H10.out.2 1 rfl
              have c2 := blk_cell H10.out.2 2 rfl
              have c3 := blk_cell H10.out.2 3 rfl
              have c4 := blk_cell H10.out.2 4 rfl
              have c5 := blk_cell H10.out.2 5 rfl
              have c6 := blk_cell H10.out.2 6 rfl
              have c7 := blk_cell H10.out.2 7 rfl
              have c8 := blk_cell H10.out.2 8 rfl
              go_wp2_with (fail)
              clear c0 c1 c2 c3 c4 c5 c6 c7 c8
              refine (HM.out.2.2.2 Z H10.out.1.sl).mono ?_
              rintro e Z1 ⟨ma, mcap, rfl, hms, hb⟩
              have H11 : Hid (LI w T B r sa xs la R a2 n2 cap2 (36 + 2 * q + 1 + 1) Z1 ∧ SlsAt Z1 ma M) := ⟨H10.out.1.below hb, hms⟩
              clear hb hms H10
              have hM3 : M.length ≤ 300 := HM.out.2.1
              go_wp2_with (fail)
              go_loopw [162] (fun i W => ∃ (k : Nat), k ≤ R.length ∧ i = .int .i64 k ∧ Hid (Below Z1.heap.size Z1 W)) (fun i _ => R.length - (intOf i).toNat)
              case atStart => exact ⟨0, Nat.zero_le _, rfl, Below.refl _ _⟩
              case round =>
                obtain ⟨k, hk, rfl, hX⟩ := hrel
                obtain ⟨V, hV⟩ : ∃ V, V = wr := ⟨_, rfl⟩
                subst hV
                by_cases hlk : k < R.length
                · have HV : Hid (SlsF (B + 1) V la R ∧ SlsAt V ma M) := ⟨H11.out.1.ls.below hX.out, H11.out.2.below hX.out⟩
                  obtain ⟨lb, lo, rfl, hlb, hlo, hlc⟩ := HV.out.1 (by omega)
                  obtain ⟨ca, cc, v1, i1, _⟩ := hlc k _ (List.getElem?_eq_getElem hlk)
                  have HCL : Hid (Calls Tryz.prog 55 #[.slice ma M.length mcap, .slice ca (R[k]).length cc] V (fun e w' => e = .returned (.bool true) ∧ Below V.heap.size V w')) := by
                    have hm : R[k] ∈ M := HM.out.1 _ (List.getElem_mem hlk)
                    have h := among_any ma M mcap ca R[k] cc V HV.out.2 i1 (by omega) (fun x hx => by have := HM.out.2.2.1 x hx; omega)
                    rw [show decide (R[k] ∈ M) = true from decide_eq_true hm] at h
                    exact h
                  clear hlc i1 HV
                  generalize R[k] = c at v1 HCL
                  go_wp2_with (fail)
                  refine HCL.out.mono ?_
                  rintro e V3 ⟨rfl, hb⟩
                  have HN := Lib.hid (below_self hX.out hb)
                  clear hb hX HCL v1
                  go_wp2_with (fail)
                  go_roundw
                  case rel => exact ⟨k + 1, by omega, by go_num, HN.out⟩
                  case measure => first | (simp [intOf]; done) | (simp [intOf]; omega)
                · have HN := Lib.hid (H11.out.1.below hX.out)
                  clear hX H11
                  go_wp2_with (fail)
                  refine (awake_any V).mono ?_
                  rintro e UA ⟨rfl, hb⟩
                  have GA : Hid (Below w.heap.size w UA) := below_self HN.out.b hb
                  clear hb HN
                  go_wp2_with (fail)
                  go_ret
                  exact ⟨rfl, GA.out⟩
end Go.Proofs.YtgldfnkjfgcjpaaGreat
