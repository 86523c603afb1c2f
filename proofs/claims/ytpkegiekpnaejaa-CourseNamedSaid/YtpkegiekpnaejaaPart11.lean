/-
How a list of bytes that came in reads, over this seat's program.
  What is proved: a list of bytes that is an argument reads as bytes, in whatever memory.
  Conditions: the form's own reach.
The contracts of klisterkit.Of, and of Between and Coin of a deck, over this seat's program.
  What is proved: what is dealt lies within its bounds; only the deck itself turns.
  Conditions: a deck that has dealt at most 1000000 times.
What MadeWinter's memory holds.
  What is proved: these facts go on from one step of MadeWinter to the next.
  Conditions: each lemma states its own.
The contract of MadeWinter over this seat's program.
  What is proved: the winter that is dealt is a valid one, of at most so many days.
  Conditions: a deck that has dealt at most 1000 times; at most 30 days.
What the statements on winters share, over this seat's program.
  What is proved: what Least and Room hand back for a dealt winter; the contract of the closure of CourseEnough; a deck that deals leaves older memory as it lay.
  Conditions: each lemma states its own.
The contracts of klisterkit.Clone for days and of CloneWinter over this seat's program; and a list of days in a block of the call's own that is written to.
  What is proved: the clone reads as the list that is cloned, in a new block; nothing that was there before has turned.
  Conditions: at least one day, and at most 1000.
What a proof that holds says of the worst weather; and what more stock, more room and better days do.
  What is proved: a day up to the proof's day fails in the worst weather; a proof of which so much is met does not hold; with more of everything no day fails earlier.
  Conditions: valid winters of small numbers.
What the memory of CourseMore holds.
  What is proved: these facts go on from one step of CourseMore to the next.
  Conditions: each lemma states its own.
What happens in a weather, day by day.
  What is proved: a weather within its spans leaves no less than the worst and no more than the best; the day that fails in the worst weather is shown by a proof that begins at the last day on which the store was full; what is told of a day stays told.
  Conditions: valid winters, weathers within their spans.
What the memory of a law with a winter and a deck holds; a number dealt from -1 on.
  What is proved: these facts go on from one step to the next.
  Conditions: each lemma states its own.
-/
import Derived.Test.YtpkegiekpnaejaaRows
import Derived.Test.YtpkegiekpnaejaaPart10
import Derived.ProofKit
import Derived.SizedLaws
namespace Go.Proofs.Ytpkegiekpnaejaa
open Go.ChangeShapes Go.WideShapes Go.ChangeAt Go.RowKit

theorem Try.own : ownKnob Try.prog.godebug = none := by kernel_rfl
theorem Try.laidOut : laidOutB Try.prog = true := by kernel_rfl
theorem Try.cells5 : Try.prog.cellsOf 5 = 1 := by kernel_rfl
theorem Try.bytes5 : Try.prog.bytesOf 5 = 1 := by kernel_rfl

section
variable {H : Type} {enc : TypeId × Value → H}
set_option maxRecDepth 100000 in
/-- A list of bytes that is an argument. -/
theorem bytes_open {W : World} {base : Nat} {v : Value} {d : DataW H} {p : List MemPlace} (hval : Value.okWide Try.prog W .any base 83 v) (h : DataW.Trod enc Try.prog W 0 (fun _ => true) true 83 v d p) :
    ∃ a n cap, v = .slice a n cap ∧ BytesAt W a n ∧ (n = 0 ∨ ∃ elems spare, d = .slice elems spare ∧ elems.length = n) := by
  obtain ⟨a, len, cap, rfl⟩ := okWide_slice Try.underlying83 hval
  obtain ⟨fuel, hf⟩ := h
  rcases open_ints Try.underlying83 Try.underlying5 Try.cells5 hf with ⟨hcs, hx⟩ | ⟨a', len', cap', zs, hcs, _, hl, hm, hz, hx, hcell, hwz⟩
  · simp [Value.cells] at hcs
    obtain ⟨rfl, rfl, rfl⟩ := hcs
    exact ⟨_, _, _, rfl, fun h0 => absurd h0 (Nat.lt_irrefl 0), .inl rfl⟩
  · simp [Value.cells] at hcs
    obtain ⟨rfl, rfl, rfl⟩ := hcs
    simp only [Prod.mk.injEq] at hx
    obtain ⟨rfl, rfl⟩ := hx
    simp only [if_true] at hz
    refine ⟨_, _, _, rfl, fun h0 => ?_, .inr ⟨_, _, rfl, by simp [lits]; omega⟩⟩
    obtain ⟨b, off, spot⟩ := a'
    have hspot : spot = none := by simpa [Addr.add] using World.cell?_spot (hcell 0 (by omega))
    subst hspot
    have hadd : ∀ j, (⟨b, off, none⟩ : Addr).add j = ⟨b, off + j, none⟩ := fun j => by rw [Addr.add_lit]
    refine ⟨b, off, rfl, ?_, fun j hj => ?_⟩
    · have h1 := hcell 0 (by omega)
      by_cases hb : b < W.heap.size
      · exact hb
      · simp [Addr.add_lit, World.cell?, Array.getElem?_eq_none (Nat.le_of_not_lt hb)] at h1
    · have h1 := hcell j (by omega)
      rw [hadd] at h1
      have e : zs.getD j 0 = zs[j]'(by omega) := by simp [List.getD, List.getElem?_eq_getElem (show j < zs.length by omega)]
      have h2 := hwz _ (List.getElem_mem (show j < zs.length by omega))
      rw [← e] at h2
      generalize zs.getD j 0 = y at h1 h2
      have h3 : (Lit.int .u8 y).wf = true := h2
      simp only [Lit.wf, Bool.and_eq_true, decide_eq_true_eq] at h3
      have h4 : (0 : Int) ≤ y := h3.1
      have h5 : y ≤ 255 := h3.2
      exact ⟨y, h1, h4, by omega⟩
end
end Go.Proofs.Ytpkegiekpnaejaa

namespace Go.Proofs.Ytpkegiekpnaejaa
open Go.RowKit Go.Shelf
attribute [local go_sem] Oper.semAt_some

set_option maxHeartbeats 1000000 in
theorem between_any (B L : Nat) (a : Option Addr) (n cap k : Nat) (lo hi : Int) (w : World) (hd : Deck w B L a n cap k) (hk : k ≤ 1000000) (hl : 0 ≤ lo ∧ lo ≤ hi ∧ hi ≤ 1000000) :
    Calls Try.prog 53 #[.pointer (some ⟨B, 0, none⟩), .int .i64 lo, .int .i64 hi] w fun e w' => (∃ r : Int, e = .returned (.int .i64 r) ∧ lo ≤ r ∧ r ≤ hi) ∧ Deck w' B L a n cap (k + 1) ∧ Apart (fun j => j = B) w w' := by
  have w1 : IntKind.i64.wrap (hi - lo) = hi - lo := IntWalk.i64_in _ (by omega)
  have w2 : IntKind.i64.wrap (hi - lo + 1) = hi - lo + 1 := IntWalk.i64_in _ (by omega)
  have HC := Lib.hid (draw_any B L a n cap k (hi - lo + 1) w hd hk (by omega))
  clear hd
  go_enter Try.func53, Try.ntmps53
  go_wp2_with (fail)
  refine HC.out.mono ?_
  rintro e w' ⟨⟨r, rfl, hr0, hr1⟩, hD, hA⟩
  have HD := Lib.hid (And.intro hD hA)
  clear hD hA
  have w3 : IntKind.i64.wrap (lo + r) = lo + r := IntWalk.i64_in _ (by omega)
  go_wp2
  go_ret
  exact ⟨⟨lo + r, rfl, by omega, by omega⟩, HD.out⟩

set_option maxHeartbeats 1000000 in
theorem coin_any (B L : Nat) (a : Option Addr) (n cap k : Nat) (m : Int) (w : World) (hd : Deck w B L a n cap k) (hk : k ≤ 1000000) (hl : m ≤ 1000000) :
    Calls Try.prog 104 #[.pointer (some ⟨B, 0, none⟩), .int .i64 m] w fun e w' => (∃ r : Bool, e = .returned (.bool r)) ∧ Deck w' B L a n cap (k + 1) ∧ Apart (fun j => j = B) w w' := by
  have HC := Lib.hid (draw_any B L a n cap k m w hd hk (by omega))
  clear hd
  go_enter Try.func104, Try.ntmps104
  go_wp2_with (fail)
  refine HC.out.mono ?_
  rintro e w' ⟨⟨r, rfl, hr0, hr1⟩, hD, hA⟩
  have HD := Lib.hid (And.intro hD hA)
  clear hD hA
  go_wp2
  go_ret
  exact ⟨⟨_, rfl⟩, HD.out⟩

set_option maxHeartbeats 1000000 in
theorem of_any (a : Option Addr) (n cap : Nat) (w : World) (hb : BytesAt w a n) (hl : n ≤ 140737488355328) :
    Calls Try.prog 49 #[.slice a n cap] w fun e w' => e = .returned (.pointer (some ⟨w.heap.size, 0, none⟩)) ∧ Deck w' w.heap.size (w.heap.size + 1) a n cap 0 ∧ Below w.heap.size w w' := by
  have HB := Lib.hid hb
  clear hb
  go_enter Try.func49, Try.ntmps49
  go_wp2
  go_ret
  refine ⟨rfl, ⟨⟨0, 17, heap_alloc_new _ _, by omega, by omega, by omega, by omega⟩, HB.out.keep (alloc1 w _).size (fun _ p _ hp => (alloc1 w _).block _ hp), fun h0 p hp => ?_, hl, by omega, by simp⟩, alloc1 w _⟩
  obtain ⟨b, off, rfl, hb, _⟩ := HB.out h0
  cases hp
  exact ⟨Nat.ne_of_lt hb, by show b < _; omega⟩
end Go.Proofs.Ytpkegiekpnaejaa

namespace Go.Proofs.Ytpkegiekpnaejaa
open Go.RowKit Go.Shelf
attribute [local go_sem] Oper.semAt_some

theorem Try.info97 : (Try.prog.info? 97).map (fun i => (i.zero, i.size, i.bytes)) = some (some (.agg #[.int .i64 0, .int .i64 0, .int .i64 0, .int .i64 0, .int .i64 0, .int .i64 0]), 6, 48) := by kernel_rfl

theorem cells_new (w : World) (news : List Value) (t : TypeId) : ∀ j u, news[j]? = some u → (w.alloc (.cells news.toArray t)).cell? ((⟨w.heap.size, 0, none⟩ : Addr).add j) = some u := by
  intro j u hj
  have : (⟨w.heap.size, 0, none⟩ : Addr).add j = ⟨w.heap.size, j, none⟩ := by unfold Addr.add; split <;> simp_all
  rw [this]
  exact blk_cell (heap_alloc_new w _) j (by simpa using hj)

def SmallSp (s : Sp) : Prop := 0 ≤ s.lo ∧ s.lo ≤ s.hi ∧ s.hi ≤ 100
def SmallDay (d : Dy) : Prop := SmallSp d.need ∧ SmallSp d.make ∧ SmallSp d.loss
theorem SmallDay.ok {d : Dy} (h : SmallDay d) : DayOk d := by
  obtain ⟨⟨a1, a2, a3⟩, ⟨b1, b2, b3⟩, c1, c2, c3⟩ := h
  exact ⟨⟨a1, a2, by omega⟩, ⟨b1, b2, by omega⟩, c1, c2, by omega⟩
abbrev Dy.o (d : Dy) : Obj := .cells #[.int .i64 d.need.lo, .int .i64 d.need.hi, .int .i64 d.make.lo, .int .i64 d.make.hi, .int .i64 d.loss.lo, .int .i64 d.loss.hi] 97

/-- A day that is being dealt, in block X. -/
structure XI (Wx : World) (B L X : Nat) (a : Option Addr) (n cap k : Nat) (W : World) (d : Dy) : Prop where
  ap : Apart (fun j => j = B ∨ j = X) Wx W
  dk : Deck W B L a n cap k
  x : W.heap[X]? = some d.o
  ok : SmallDay d
  hX : L ≤ X

theorem XI.step {Wx W W' : World} {B L X : Nat} {a : Option Addr} {n cap k k' : Nat} {d : Dy} (h : XI Wx B L X a n cap k W d) (ha : Apart (fun j => j = B) W W') (hd : Deck W' B L a n cap k') : XI Wx B L X a n cap k' W' d :=
  ⟨h.ap.trans (ha.more fun _ hj => .inl hj), hd, (ha.block X (lt_of_block h.x) (fun e => by have := h.dk.lt.1; have := h.hX; omega)).trans h.x, h.ok, h.hX⟩
theorem XI.below {Wx W W' : World} {B L X : Nat} {a : Option Addr} {n cap k : Nat} {d : Dy} (h : XI Wx B L X a n cap k W d) (hb : Below W.heap.size W W') : XI Wx B L X a n cap k W' d := h.step (Apart.of_below hb) (h.dk.below hb)
theorem XI.put {Wx W : World} {B L X : Nat} {a : Option Addr} {n cap k : Nat} {d d' : Dy} (h : XI Wx B L X a n cap k W d) (i j : Nat) (u v : Value)
    (hd : (#[Value.int .i64 d.need.lo, .int .i64 d.need.hi, .int .i64 d.make.lo, .int .i64 d.make.hi, .int .i64 d.loss.lo, .int .i64 d.loss.hi].setIfInBounds i u).setIfInBounds j v = #[.int .i64 d'.need.lo, .int .i64 d'.need.hi, .int .i64 d'.make.lo, .int .i64 d'.make.hi, .int .i64 d'.loss.lo, .int .i64 d'.loss.hi]) (hok : SmallDay d') :
    XI Wx B L X a n cap k ((W.setCell ⟨X, i, none⟩ u).setCell ⟨X, j, none⟩ v) d' := by
  have hsz : ((W.setCell ⟨X, i, none⟩ u).setCell ⟨X, j, none⟩ v).heap.size = W.heap.size := by rw [World.size_setCell, World.size_setCell]
  have hoth : ∀ k, k ≠ X → ((W.setCell ⟨X, i, none⟩ u).setCell ⟨X, j, none⟩ v).heap[k]? = W.heap[k]? := fun k hk => (Below.heap_setCell _ _ _ _ hk).trans (Below.heap_setCell _ _ _ _ hk)
  refine ⟨h.ap.trans ((Apart.setCell (own := fun j => j = B ∨ j = X) W (p := ⟨X, i, none⟩) (.inr rfl) _).trans (Apart.setCell (own := fun j => j = B ∨ j = X) _ (p := ⟨X, j, none⟩) (.inr rfl) _)), h.dk.keep (by rw [hsz]; exact Nat.le_refl _) (fun m hm => hoth m (by have := h.hX; omega)), ?_, hok, h.hX⟩
  have := blk_setCell (j := j) (u := v) (blk_setCell (j := i) (u := u) h.x)
  rw [hd] at this
  exact this

theorem XI.mono {Wx W : World} {B L X : Nat} {a : Option Addr} {n cap k k' : Nat} {d : Dy} (h : XI Wx B L X a n cap k W d) (hk : k ≤ k') : XI Wx B L X a n cap k' W d := ⟨h.ap, h.dk.mono hk, h.x, h.ok, h.hX⟩

/-- What MadeWinter's outer loop keeps: the winter's box is block Wb. -/
structure MI (w0 : World) (B L Wb : Nat) (a : Option Addr) (n cap k : Nat) (stock store : Int) (W : World) (sv : Value) (ds : List Dy) : Prop where
  ap : Apart (fun j => j = B) w0 W
  dk : Deck W B L a n cap k
  rs : W.heap[w0.heap.size]? = some (.cells #[.int .i64 0, .int .i64 0, .slice none 0 0] 60 (0, 0))
  wb : W.heap[Wb]? = some (.cells #[.int .i64 stock, .int .i64 store, sv] 60 (0, 0))
  row : W.ownsRow (Wb + 1) 97 6 sv ds.length ((ds.flatMap Dy.cells).map (Value.int .i64))
  ok : ∀ d ∈ ds, SmallDay d
  hW : w0.heap.size < Wb
  hL : L ≤ w0.heap.size

theorem owns_step {A B : World} {base : Nat} {e : TypeId} {size : Nat} {v : Value} {n : Nat} {xs : List Value} (h : A.ownsRow base e size v n xs) (hk : ∀ g, base ≤ g → v.ownBlock = some g → g < A.heap.size → B.heap[g]? = A.heap[g]?) : B.ownsRow base e size v n xs := by
  refine ⟨h.1, ?_⟩
  rcases h.2 with hn | ⟨g, cap, cur, rfl, hb, hg, rest⟩
  · exact .inl hn
  · exact .inr ⟨g, cap, cur, rfl, hb, (hk g hb rfl (lt_of_block hg)).trans hg, rest⟩

theorem Dy.cells_len (d : Dy) : (Dy.cells d).length = 6 := rfl
theorem flat_get (ds : List Dy) : ∀ (j : Nat) (x : Dy) (i : Nat) (u : Int), ds[j]? = some x → (Dy.cells x)[i]? = some u → (ds.flatMap Dy.cells)[j * 6 + i]? = some u := by
  induction ds with
  | nil => intro j x i u hx _; simp at hx
  | cons d ds ih =>
    intro j x i u hx hu
    have hi : i < 6 := by
      rcases Nat.lt_or_ge i 6 with h | h
      · exact h
      · rw [List.getElem?_eq_none (by rw [Dy.cells_len]; exact h)] at hu; cases hu
    rw [List.flatMap_cons]
    cases j with
    | zero =>
      simp at hx; subst hx
      rw [Nat.zero_mul, Nat.zero_add, List.getElem?_append_left (by rw [Dy.cells_len]; exact hi)]
      exact hu
    | succ j =>
      rw [List.getElem?_append_right (by rw [Dy.cells_len]; omega), Dy.cells_len, show (j + 1) * 6 + i - 6 = j * 6 + i by omega]
      exact ih j x i u (by simpa using hx) hu
theorem days_of_owns {W : World} {base : Nat} {v : Value} {ds : List Dy} (h : W.ownsRow base 97 6 v ds.length ((ds.flatMap Dy.cells).map (Value.int .i64))) : ∃ a cap, v = .slice a ds.length cap ∧ Sl 6 Dy.cells W a ds ∧ (∀ p, a = some p → base ≤ p.block) := by
  rcases h.2 with ⟨rfl, h0⟩ | ⟨g, cap, cur, rfl, hb, hg, _⟩
  · exact ⟨none, 0, by rw [h0], (fun hp => by omega), (fun p hp => by cases hp)⟩
  · refine ⟨some ⟨g, 0, none⟩, cap, rfl, fun _ => ⟨g, 0, rfl, lt_of_block hg, fun j x i u hx hu => ?_⟩, (fun p hp => by cases hp; exact hb)⟩
    have hc := h.cells (g := g) rfl (j * 6 + i) (.int .i64 u) (by rw [List.getElem?_map, flat_get ds j x i u hx hu]; rfl)
    have : (⟨g, 0, none⟩ : Addr).add (j * 6 + i) = ⟨g, 0 + j * 6 + i, none⟩ := by unfold Addr.add; split <;> simp_all
    rw [this] at hc
    exact hc

/-- From the memory before a day is dealt to that behind it. -/
theorem MI.dealt {w0 W Wx W' : World} {B L Wb X : Nat} {a : Option Addr} {n cap k k' : Nat} {stock store : Int} {sv : Value} {ds : List Dy} {d : Dy} (h : MI w0 B L Wb a n cap k stock store W sv ds) (hb : Below W.heap.size W Wx) (hX : W.heap.size = X) (hx : XI Wx B L X a n cap k' W' d) : MI w0 B L Wb a n cap k' stock store W' sv ds := by
  have hBL := h.dk.lt.1
  have same : ∀ j, j < W.heap.size → j ≠ B → W'.heap[j]? = W.heap[j]? := fun j hj hB => (hx.ap.block j (Nat.lt_of_lt_of_le hj hb.size) (fun e => by rcases e with e | e <;> omega)).trans (hb.block j hj)
  have hWb := lt_of_block h.wb
  have hR := lt_of_block h.rs
  have hL := h.hL
  have hW := h.hW
  exact ⟨h.ap.trans ⟨hx.ap.os.trans hb.os, hx.ap.tape.trans hb.tape, hx.ap.output.trans hb.output, Nat.le_trans hb.size hx.ap.size, fun j hj hB => same j hj hB⟩, hx.dk, (same _ hR (by omega)).trans h.rs, (same _ hWb (by omega)).trans h.wb, owns_step h.row (fun g hg _ hlt => same g hlt (by omega)), h.ok, h.hW, h.hL⟩

/-- The list with one day more, stored to the winter's box. -/
theorem MI.more {w0 W W1 W2 : World} {B L Wb : Nat} {a : Option Addr} {n cap k : Nat} {stock store : Int} {sv sv' : Value} {ds : List Dy} {d : Dy} (h : MI w0 B L Wb a n cap k stock store W sv ds) (hb : Below W.heap.size W W1) (hg : W1.grownBy W2 sv.ownBlock) (hrow : W2.ownsRow (Wb + 1) 97 6 sv' (ds.length + 1) ((ds.flatMap Dy.cells).map (Value.int .i64) ++ (Dy.cells d).map (Value.int .i64))) (hd : SmallDay d) :
    MI w0 B L Wb a n cap k stock store (W2.setCell ⟨Wb, 2, none⟩ sv') sv' (ds ++ [d]) := by
  have hBL := h.dk.lt.1
  have hL := h.hL
  have hW := h.hW
  have hWb := lt_of_block h.wb
  have hR := lt_of_block h.rs
  have same : ∀ j, j < W.heap.size → j ≤ Wb → W2.heap[j]? = W.heap[j]? := fun j hj hB => (hg.block j (Nat.lt_of_lt_of_le hj hb.size) (fun e => by have := (h.row.lt j e.symm).1; omega)).trans (hb.block j hj)
  have hsz : W.heap.size ≤ W2.heap.size := Nat.le_trans hb.size hg.size
  have hoth : ∀ j, j ≠ Wb → (W2.setCell ⟨Wb, 2, none⟩ sv').heap[j]? = W2.heap[j]? := fun j hj => Below.heap_setCell _ _ _ _ hj
  refine ⟨?_, h.dk.keep (by rw [World.size_setCell]; exact hsz) (fun j hj => (hoth j (by omega)).trans (same j (by omega) (by omega))), (hoth _ (by omega)).trans ((same _ hR (by omega)).trans h.rs), ?_, ?_, ?_, hW, hL⟩
  · exact ⟨hg.os.trans (hb.os.trans h.ap.os), hg.tape.trans (hb.tape.trans h.ap.tape), hg.output.trans (hb.output.trans h.ap.output), by rw [World.size_setCell]; exact Nat.le_trans h.ap.size hsz, fun j hj hB => (hoth j (by omega)).trans ((same j (Nat.lt_of_lt_of_le hj h.ap.size) (by omega)).trans (h.ap.block j hj hB))⟩
  · have := blk_setCell (j := 2) (u := sv') ((same Wb hWb (Nat.le_refl _)).trans h.wb)
    exact this
  · have h1 : (ds ++ [d]).length = ds.length + 1 := by simp
    have h2 : ((ds ++ [d]).flatMap Dy.cells).map (Value.int .i64) = (ds.flatMap Dy.cells).map (Value.int .i64) ++ (Dy.cells d).map (Value.int .i64) := by simp
    rw [h1, h2]
    exact owns_step hrow (fun g hg _ _ => hoth g (by omega))
  · intro x hx
    rcases List.mem_append.1 hx with h' | h'
    · exact h.ok x h'
    · simp at h'; subst h'; exact hd
end Go.Proofs.Ytpkegiekpnaejaa

namespace Go.Proofs.Ytpkegiekpnaejaa
open Go.RowKit Go.Shelf
attribute [local go_sem] Oper.semAt_some

/-- What MadeWinter hands back. -/
def OutMade (w : World) (B L : Nat) (a : Option Addr) (n cap k : Nat) (days : Int) (e : Ending) (w' : World) : Prop := ∃ (stock store : Int) (ad : Option Addr) (ds : List Dy) (cp : Nat),
  e = .returned (wv stock store ad ds.length cp) ∧ Sl 6 Dy.cells w' ad ds ∧ (20 ≤ store ∧ store ≤ 200) ∧ (0 ≤ stock ∧ stock ≤ store) ∧ (1 ≤ ds.length ∧ ds.length ≤ days) ∧ (∀ d ∈ ds, SmallDay d) ∧ Deck w' B L a n cap (k + 500) ∧ Apart (fun j => j = B) w w' ∧ (∀ p, ad = some p → w.heap.size ≤ p.block)

set_option maxRecDepth 100000 in
set_option maxHeartbeats 1000000 in
theorem made_any (B L : Nat) (a : Option Addr) (n cap k : Nat) (days : Int) (w : World) (hd : Deck w B L a n cap k) (hk : k ≤ 1000) (hdays : 1 ≤ days ∧ days ≤ 30) :
    Calls Try.prog 48 #[.pointer (some ⟨B, 0, none⟩), .int .i64 days] w (OutMade w B L a n cap k days) := by
  have HD := Lib.hid hd
  have HK := Lib.hid hk
  have HDY := Lib.hid hdays
  clear hd hk
  go_enter Try.func48, Try.ntmps48
  go_wp2_with (fail)
  have hb0 := alloc1 w (.cells #[.int .i64 0, .int .i64 0, .slice none 0 0] 60)
  refine (between_any B L a n cap k 20 200 _ (HD.out.below hb0) (by have := HK.out; omega) ⟨by omega, by omega, by omega⟩).mono ?_
  rintro e w1 ⟨⟨store, rfl, hs0, hs1⟩, hD, hA⟩
  have HS := Lib.hid (And.intro hs0 hs1)
  have H1 : Hid (Deck w1 B L a n cap (k + 1) ∧ Apart (fun j => j = B) w w1 ∧ w1.heap[w.heap.size]? = some (.cells #[.int .i64 0, .int .i64 0, .slice none 0 0] 60 (0, 0))) :=
    ⟨hD, (Apart.of_below hb0).trans hA, (hA.block _ (by simp) (by have := HD.out.lt; omega)).trans (heap_alloc_new w _)⟩
  clear hD hA hb0
  have hwst : IntKind.i64.wrap (store + 1) = store + 1 := IntWalk.i64_in _ (by omega)
  go_wp2_with (fail)
  have hb1 := alloc1 w1 (.cells #[.int .i64 0, .int .i64 store, .slice none 0 0] 60)
  have hlt1 := lt_of_block H1.out.2.2
  have hBL := HD.out.lt
  refine (draw_any B L a n cap (k + 1) (store + 1) _ (H1.out.1.below hb1) (by have := HK.out; omega) (by omega)).mono ?_
  rintro e w2 ⟨⟨stock, rfl, hr0, hr1⟩, hD, hA⟩
  have HS2 : Hid (0 ≤ stock ∧ stock ≤ store) := ⟨hr0, by omega⟩
  have H2 : Hid (Deck w2 B L a n cap (k + 2) ∧ Apart (fun j => j = B) w w2 ∧ w2.heap[w.heap.size]? = some (.cells #[.int .i64 0, .int .i64 0, .slice none 0 0] 60 (0, 0)) ∧ w2.heap[w1.heap.size]? = some (.cells #[.int .i64 0, .int .i64 store, .slice none 0 0] 60 (0, 0))) :=
    ⟨hD, H1.out.2.1.trans ((Apart.of_below hb1).trans hA), (hA.block _ (by simp; omega) (by omega)).trans (alk H1.out.2.2), (hA.block _ (by simp) (by omega)).trans (heap_alloc_new w1 _)⟩
  clear hD hA hb1 hr0 hr1 hs0 hs1 hwst
  have c0 := blk_cell H2.out.2.2.2 0 rfl
  have f0 := blk_free (j := 0) H2.out.2.2.2
  go_wp2_with (fail)
  clear c0 f0
  have H3 : Hid (MI w B L w1.heap.size a n cap (k + 2) stock store (w2.setCell ⟨w1.heap.size, 0, none⟩ (.int .i64 stock)) (.slice none 0 0) []) := by
    have hoth : ∀ j, j ≠ w1.heap.size → (w2.setCell ⟨w1.heap.size, 0, none⟩ (.int .i64 stock)).heap[j]? = w2.heap[j]? := fun j hj => Below.heap_setCell _ _ _ _ hj
    refine ⟨⟨H2.out.2.1.os, H2.out.2.1.tape, H2.out.2.1.output, by rw [World.size_setCell]; exact H2.out.2.1.size, fun j hj hB => (hoth j (by omega)).trans (H2.out.2.1.block j hj hB)⟩, H2.out.1.keep (by rw [World.size_setCell]; exact Nat.le_refl _) (fun j hj => hoth j (by omega)), (hoth _ (by omega)).trans H2.out.2.2.1, blk_setCell (j := 0) H2.out.2.2.2, World.ownsRow_nil _ _ _ _, (fun d hd => by simp at hd), hlt1, hBL.2⟩
  clear hlt1 hBL
  generalize w2.setCell ⟨w1.heap.size, 0, none⟩ (.int .i64 stock) = W3 at H3 ⊢
  refine (between_any B L a n cap (k + 2) 1 days _ H3.out.dk (by have := HK.out; omega) ⟨by omega, hdays.1, by omega⟩).mono ?_
  rintro e w4 ⟨⟨N, rfl, hN0, hN1⟩, hD, hA⟩
  have H4 : Hid (MI w B L w1.heap.size a n cap (k + 3) stock store w4 (.slice none 0 0) []) := by
    have h := H3.out
    have hBL := h.dk.lt
    have hL := h.hL
    have hW := h.hW
    exact ⟨h.ap.trans hA, hD, (hA.block _ (lt_of_block h.rs) (by omega)).trans h.rs, (hA.block _ (lt_of_block h.wb) (by omega)).trans h.wb, World.ownsRow_nil _ _ _ _, h.ok, h.hW, h.hL⟩
  clear hD hA
  obtain ⟨NN, rfl⟩ := Int.eq_ofNat_of_zero_le (show 0 ≤ N by omega)
  have HN : Hid (1 ≤ NN ∧ (NN : Int) ≤ days ∧ NN ≤ 30) := ⟨by omega, hN1, by omega⟩
  clear hN0 hN1
  go_wp2_with (fail)
  go_loopw [22] (fun i wr => ∃ (j : Nat), j ≤ NN ∧ i = .int .i64 j ∧ Hid (∃ (sv : Value) (ds : List Dy), ds.length = j ∧ MI w B L w1.heap.size a n cap (k + 3 + 8 * j) stock store wr sv ds)) (fun i _ => NN - (intOf i).toNat)
  case atStart => exact ⟨0, Nat.zero_le _, rfl, .slice none 0 0, [], rfl, H4.out⟩
  case round =>
    obtain ⟨Wo, rfl⟩ : ∃ Wo, Wo = wr := ⟨_, rfl⟩
    obtain ⟨j, hj, rfl, hM⟩ := hrel
    by_cases hlt : j < NN
    · obtain ⟨sv, ds, hl, hM⟩ := hM.out
      have HM := Lib.hid hM
      have HL := Lib.hid hl
      clear hl hM
      have hn30 := HN.out.2.2
      go_wp2_with (fail)
      generalize hWx : World.alloc _ _ = Wx
      have HX0 : Hid (Below Wo.heap.size Wo Wx ∧ XI Wx B L Wo.heap.size a n cap (k + 3 + 8 * j) Wx ⟨⟨0, 0⟩, ⟨0, 0⟩, ⟨0, 0⟩⟩ ∧ Wx.heap[Wo.heap.size + 1]? = some (.cells #[.pointer (some ⟨Wo.heap.size, 0, none⟩), .pointer (some ⟨Wo.heap.size, 2, none⟩), .pointer (some ⟨Wo.heap.size, 4, none⟩)] 113 (0, 0))) := by
        have hb : Below Wo.heap.size Wo Wx := by rw [← hWx]; exact ((Below.refl _ _).alloc (Nat.le_refl _) _).alloc (by simp) _
        have hz : SmallSp ⟨0, 0⟩ := ⟨Int.le_refl _, Int.le_refl _, by show (0 : Int) ≤ 100; omega⟩
        exact ⟨hb, ⟨Apart.refl _ _, HM.out.dk.below hb, by rw [← hWx]; exact alk (heap_alloc_new Wo _), ⟨hz, hz, hz⟩, HM.out.dk.lt.2⟩, by rw [← hWx]; exact new_at (by simp)⟩
      clear hWx
      have hk1 := HK.out
      go_loopw [29] (fun i W => ∃ (q : Nat), q ≤ 3 ∧ i = .int .i64 q ∧ Hid (∃ d, XI Wx B L Wo.heap.size a n cap (k + 3 + 8 * j + 2 * q) W d)) (fun i _ => 3 - (intOf i).toNat)
      case atStart => exact ⟨0, by omega, rfl, _, HX0.out.2.1⟩
      case round =>
        obtain ⟨q, hq, rfl, hX⟩ := hrel
        obtain ⟨W, rfl⟩ : ∃ W, W = wr := ⟨_, rfl⟩
        by_cases hlq : q < 3
        · obtain ⟨d, hX⟩ := hX.out
          have HXI := Lib.hid hX
          have HXS : W.heap[Wo.heap.size + 1]? = some (.cells #[.pointer (some ⟨Wo.heap.size, 0, none⟩), .pointer (some ⟨Wo.heap.size, 2, none⟩), .pointer (some ⟨Wo.heap.size, 4, none⟩)] 113 (0, 0)) := (hX.ap.block _ (lt_of_block HX0.out.2.2) (by have := hX.dk.lt; have := hX.hX; omega)).trans HX0.out.2.2
          clear hX
          rcases (show q = 0 ∨ q = 1 ∨ q = 2 by omega) with hq0 | hq1 | hq2
          · subst hq0
            have e0 := blk_cell HXS 0 rfl
            clear HXS
            go_wp2_with (fail)
            refine (draw_any B L a n cap (k + 3 + 8 * j + 2 * 0) 30 _ (HXI.out.dk.below (alloc1 W _)) (by omega) (by omega)).mono ?_
            rintro e w5 ⟨⟨r, rfl, hr0, hr1⟩, hD, hA⟩
            have HX5 := Lib.hid ((HXI.out.below (alloc1 W _)).step hA hD)
            clear hD hA e0
            go_wp2_with (fail)
            refine (draw_any B L a n cap _ 12 _ (HX5.out.dk.below (alloc1 w5 _)) (by omega) (by omega)).mono ?_
            rintro e w6 ⟨⟨s, rfl, hs0, hs1⟩, hD, hA⟩
            have HX6 := Lib.hid ((HX5.out.below (alloc1 w5 _)).step hA hD)
            clear hD hA
            have hrs : IntKind.i64.wrap (r + s) = r + s := IntWalk.i64_in _ (by omega)
            go_wp2_with (fail)
            refine (span_any r (r + s) _).mono ?_
            rintro e w7 ⟨rfl, hw7⟩
            have hb7 := alloc1 w6 (.cells #[.int .i64 r, .int .i64 (r + s)] 24)
            rw [hw7] at hb7
            have HX7 := Lib.hid (HX6.out.below hb7)
            clear hb7 hw7
            have y0 := blk_cell HX7.out.x 0 rfl
            have y1 := blk_cell HX7.out.x 1 rfl
            have z0 := blk_free (j := 0) HX7.out.x
            have z1 := blk_free (j := 1) HX7.out.x
            have HX8 : Hid (XI Wx B L Wo.heap.size a n cap (k + 3 + 8 * j + 2 * (0 + 1)) ((w7.setCell ⟨Wo.heap.size, 0, none⟩ (.int .i64 r)).setCell ⟨Wo.heap.size, 1, none⟩ (.int .i64 (r + s))) { d with need := ⟨r, r + s⟩ }) := by
              have hok := HX7.out.ok
              have h := HX7.out.put 0 1 (.int .i64 r) (.int .i64 (r + s)) (d' := { d with need := ⟨r, r + s⟩ }) rfl (by
                have hsp : SmallSp ⟨r, r + s⟩ := ⟨hr0, by show r ≤ r + s; omega, by show r + s ≤ 100; omega⟩
                first | exact ⟨hsp, hok.2.1, hok.2.2⟩ | exact ⟨hok.1, hsp, hok.2.2⟩ | exact ⟨hok.1, hok.2.1, hsp⟩)
              exact h
            clear hrs hr0 hr1 hs0 hs1
            go_wp2
            go_roundw
            case rel => exact ⟨0 + 1, by omega, by go_num, _, HX8⟩
            case measure => simp [intOf]
          · subst hq1
            have e0 := blk_cell HXS 1 rfl
            clear HXS
            go_wp2_with (fail)
            refine (draw_any B L a n cap (k + 3 + 8 * j + 2 * 1) 40 _ (HXI.out.dk.below (alloc1 W _)) (by omega) (by omega)).mono ?_
            rintro e w5 ⟨⟨r, rfl, hr0, hr1⟩, hD, hA⟩
            have HX5 := Lib.hid ((HXI.out.below (alloc1 W _)).step hA hD)
            clear hD hA e0
            go_wp2_with (fail)
            refine (draw_any B L a n cap _ 20 _ (HX5.out.dk.below (alloc1 w5 _)) (by omega) (by omega)).mono ?_
            rintro e w6 ⟨⟨s, rfl, hs0, hs1⟩, hD, hA⟩
            have HX6 := Lib.hid ((HX5.out.below (alloc1 w5 _)).step hA hD)
            clear hD hA
            have hrs : IntKind.i64.wrap (r + s) = r + s := IntWalk.i64_in _ (by omega)
            go_wp2_with (fail)
            refine (span_any r (r + s) _).mono ?_
            rintro e w7 ⟨rfl, hw7⟩
            have hb7 := alloc1 w6 (.cells #[.int .i64 r, .int .i64 (r + s)] 24)
            rw [hw7] at hb7
            have HX7 := Lib.hid (HX6.out.below hb7)
            clear hb7 hw7
            have y0 := blk_cell HX7.out.x 2 rfl
            have y1 := blk_cell HX7.out.x 3 rfl
            have z0 := blk_free (j := 2) HX7.out.x
            have z1 := blk_free (j := 3) HX7.out.x
            have HX8 : Hid (XI Wx B L Wo.heap.size a n cap (k + 3 + 8 * j + 2 * (1 + 1)) ((w7.setCell ⟨Wo.heap.size, 2, none⟩ (.int .i64 r)).setCell ⟨Wo.heap.size, 3, none⟩ (.int .i64 (r + s))) { d with make := ⟨r, r + s⟩ }) := by
              have hok := HX7.out.ok
              have h := HX7.out.put 2 3 (.int .i64 r) (.int .i64 (r + s)) (d' := { d with make := ⟨r, r + s⟩ }) rfl (by
                have hsp : SmallSp ⟨r, r + s⟩ := ⟨hr0, by show r ≤ r + s; omega, by show r + s ≤ 100; omega⟩
                first | exact ⟨hsp, hok.2.1, hok.2.2⟩ | exact ⟨hok.1, hsp, hok.2.2⟩ | exact ⟨hok.1, hok.2.1, hsp⟩)
              exact h
            clear hrs hr0 hr1 hs0 hs1
            go_wp2
            go_roundw
            case rel => exact ⟨1 + 1, by omega, by go_num, _, HX8⟩
            case measure => simp [intOf]
          · subst hq2
            have e0 := blk_cell HXS 2 rfl
            clear HXS
            go_wp2_with (fail)
            refine (draw_any B L a n cap (k + 3 + 8 * j + 2 * 2) 6 _ (HXI.out.dk.below (alloc1 W _)) (by omega) (by omega)).mono ?_
            rintro e w5 ⟨⟨r, rfl, hr0, hr1⟩, hD, hA⟩
            have HX5 := Lib.hid ((HXI.out.below (alloc1 W _)).step hA hD)
            clear hD hA e0
            go_wp2_with (fail)
            refine (draw_any B L a n cap _ 4 _ (HX5.out.dk.below (alloc1 w5 _)) (by omega) (by omega)).mono ?_
            rintro e w6 ⟨⟨s, rfl, hs0, hs1⟩, hD, hA⟩
            have HX6 := Lib.hid ((HX5.out.below (alloc1 w5 _)).step hA hD)
            clear hD hA
            have hrs : IntKind.i64.wrap (r + s) = r + s := IntWalk.i64_in _ (by omega)
            go_wp2_with (fail)
            refine (span_any r (r + s) _).mono ?_
            rintro e w7 ⟨rfl, hw7⟩
            have hb7 := alloc1 w6 (.cells #[.int .i64 r, .int .i64 (r + s)] 24)
            rw [hw7] at hb7
            have HX7 := Lib.hid (HX6.out.below hb7)
            clear hb7 hw7
            have y0 := blk_cell HX7.out.x 4 rfl
            have y1 := blk_cell HX7.out.x 5 rfl
            have z0 := blk_free (j := 4) HX7.out.x
            have z1 := blk_free (j := 5) HX7.out.x
            have HX8 : Hid (XI Wx B L Wo.heap.size a n cap (k + 3 + 8 * j + 2 * (2 + 1)) ((w7.setCell ⟨Wo.heap.size, 4, none⟩ (.int .i64 r)).setCell ⟨Wo.heap.size, 5, none⟩ (.int .i64 (r + s))) { d with loss := ⟨r, r + s⟩ }) := by
              have hok := HX7.out.ok
              have h := HX7.out.put 4 5 (.int .i64 r) (.int .i64 (r + s)) (d' := { d with loss := ⟨r, r + s⟩ }) rfl (by
                have hsp : SmallSp ⟨r, r + s⟩ := ⟨hr0, by show r ≤ r + s; omega, by show r + s ≤ 100; omega⟩
                first | exact ⟨hsp, hok.2.1, hok.2.2⟩ | exact ⟨hok.1, hsp, hok.2.2⟩ | exact ⟨hok.1, hok.2.1, hsp⟩)
              exact h
            clear hrs hr0 hr1 hs0 hs1
            go_wp2
            go_roundw
            case rel => exact ⟨2 + 1, by omega, by go_num, _, HX8⟩
            case measure => simp [intOf]
        · have : q = 3 := by omega
          subst this
          obtain ⟨d, hX⟩ := hX.out
          have HXI := Lib.hid hX
          clear hX
          go_wp2_with (fail)
          refine (coin_any B L a n cap (k + 3 + 8 * j + 2 * 3) 4 _ HXI.out.dk (by omega) (by omega)).mono ?_
          rintro e w5 ⟨⟨b, rfl⟩, hD, hA⟩
          have HX5 := Lib.hid (HXI.out.step hA hD)
          clear hD hA
          cases b
          · have HXF := HX5
            have HX6 := Lib.hid (XI.mono HXF.out (k' := k + 3 + 8 * (j + 1)) (by omega))
            have HMI := Lib.hid (HM.out.dealt HX0.out.1 rfl HX6.out)
            have t2 := blk_cell HMI.out.wb 2 rfl
            have x0 := blk_cell HX6.out.x 0 rfl
            have x1 := blk_cell HX6.out.x 1 rfl
            have x2 := blk_cell HX6.out.x 2 rfl
            have x3 := blk_cell HX6.out.x 3 rfl
            have x4 := blk_cell HX6.out.x 4 rfl
            have x5 := blk_cell HX6.out.x 5 rfl
            obtain ⟨i0, hi, hz0, hz1, hz2⟩ := info_parts Try.info97
            go_wp2_with (at_builtin; refine wpList_append_own_at _ rfl _ _ 58 rfl (w1.heap.size + 1) 97 i0 (.agg #[.int .i64 0, .int .i64 0, .int .i64 0, .int .i64 0, .int .i64 0, .int .i64 0]) 6 48 Try.underlying58 hi hz0 hz1 hz2 rfl (by decide) sv ds.length ((ds.flatMap Dy.cells).map (Value.int .i64)) rfl (HMI.out.row.alloc _) ⟨w5.heap.size, 0, none⟩ 1 1 ((Dy.cells d).map (Value.int .i64)) rfl rfl (cells_new _ _ _) (by intro u hu; simp [Dy.cells] at hu; rcases hu with rfl | rfl | rfl | rfl | rfl | rfl <;> rfl) (by have := HL.out; unfold maxLen; omega) (by have := HL.out; omega) (by have := lt_of_block HMI.out.wb; rw [World.size_alloc]; omega) ?_)
            intro v8 w8 hrow hgrow _ _
            obtain ⟨g8, cap8, rfl⟩ := ownsRow_succ hrow
            have HMM := Lib.hid (HMI.out.more (alloc1 w5 _) hgrow hrow HX6.out.ok)
            have hwb8 : w8.heap[w1.heap.size]? = some (.cells #[.int .i64 stock, .int .i64 store, sv] 60 (0, 0)) := (hgrow.block _ (by have := lt_of_block HMI.out.wb; rw [World.size_alloc]; omega) (fun e => by have := (HMI.out.row.lt _ e.symm).1; omega)).trans (alk HMI.out.wb)
            have s2 := blk_cell hwb8 2 rfl
            have sf2 := blk_free (j := 2) hwb8
            clear hrow hgrow hwb8 x0 x1 x2 x3 x4 x5 t2 hi hz0 hz1 hz2
            go_wp2
            go_roundw
            case rel => exact ⟨j + 1, by omega, by go_num, _, _, by have := HL.out; simp; omega, HMM.out⟩
            case measure => simp [intOf]; omega
          · go_wp2_with (fail)
            refine (draw_any B L a n cap _ 3 _ HX5.out.dk (by omega) (by omega)).mono ?_
            rintro e w6 ⟨⟨r, rfl, hr0, hr1⟩, hD, hA⟩
            have HX6 := Lib.hid (HX5.out.step hA hD)
            clear hD hA
            go_wp2_with (fail)
            refine (span_any 0 r _).mono ?_
            rintro e w7 ⟨rfl, hw7⟩
            have hb7 := alloc1 w6 (.cells #[.int .i64 0, .int .i64 r] 24)
            rw [hw7] at hb7
            have HX7 := Lib.hid (HX6.out.below hb7)
            clear hb7 hw7 HX6
            have y0 := blk_cell HX7.out.x 2 rfl
            have y1 := blk_cell HX7.out.x 3 rfl
            have z0 := blk_free (j := 2) HX7.out.x
            have z1 := blk_free (j := 3) HX7.out.x
            have HXF0 : Hid (XI Wx B L Wo.heap.size a n cap (k + 3 + 8 * j + 2 * 3 + 1 + 1) ((w7.setCell ⟨Wo.heap.size, 2, none⟩ (.int .i64 0)).setCell ⟨Wo.heap.size, 3, none⟩ (.int .i64 r)) { d with make := ⟨0, r⟩ }) := by
              have hok := HX7.out.ok
              exact HX7.out.put 2 3 (.int .i64 0) (.int .i64 r) (d' := { d with make := ⟨0, r⟩ }) rfl ⟨hok.1, ⟨Int.le_refl _, hr0, by show r ≤ 100; omega⟩, hok.2.2⟩
            clear hr0 hr1
            go_upto_region 14 with (fail)
            generalize (w7.setCell ⟨Wo.heap.size, 2, none⟩ (.int .i64 0)).setCell ⟨Wo.heap.size, 3, none⟩ (.int .i64 r) = W8 at HXF0 ⊢
            have HXF := HXF0
            clear y0 y1 z0 z1
            have HX6 := Lib.hid (XI.mono HXF.out (k' := k + 3 + 8 * (j + 1)) (by omega))
            have HMI := Lib.hid (HM.out.dealt HX0.out.1 rfl HX6.out)
            have t2 := blk_cell HMI.out.wb 2 rfl
            have x0 := blk_cell HX6.out.x 0 rfl
            have x1 := blk_cell HX6.out.x 1 rfl
            have x2 := blk_cell HX6.out.x 2 rfl
            have x3 := blk_cell HX6.out.x 3 rfl
            have x4 := blk_cell HX6.out.x 4 rfl
            have x5 := blk_cell HX6.out.x 5 rfl
            obtain ⟨i0, hi, hz0, hz1, hz2⟩ := info_parts Try.info97
            go_wp2_with (at_builtin; refine wpList_append_own_at _ rfl _ _ 58 rfl (w1.heap.size + 1) 97 i0 (.agg #[.int .i64 0, .int .i64 0, .int .i64 0, .int .i64 0, .int .i64 0, .int .i64 0]) 6 48 Try.underlying58 hi hz0 hz1 hz2 rfl (by decide) sv ds.length ((ds.flatMap Dy.cells).map (Value.int .i64)) rfl (HMI.out.row.alloc _) ⟨W8.heap.size, 0, none⟩ 1 1 ((Dy.cells { d with make := ⟨0, r⟩ }).map (Value.int .i64)) rfl rfl (cells_new _ _ _) (by intro u hu; simp [Dy.cells] at hu; rcases hu with rfl | rfl | rfl | rfl | rfl | rfl <;> rfl) (by have := HL.out; unfold maxLen; omega) (by have := HL.out; omega) (by have := lt_of_block HMI.out.wb; rw [World.size_alloc]; omega) ?_)
            intro v8 w8 hrow hgrow _ _
            obtain ⟨g8, cap8, rfl⟩ := ownsRow_succ hrow
            have HMM := Lib.hid (HMI.out.more (alloc1 W8 _) hgrow hrow HX6.out.ok)
            have hwb8 : w8.heap[w1.heap.size]? = some (.cells #[.int .i64 stock, .int .i64 store, sv] 60 (0, 0)) := (hgrow.block _ (by have := lt_of_block HMI.out.wb; rw [World.size_alloc]; omega) (fun e => by have := (HMI.out.row.lt _ e.symm).1; omega)).trans (alk HMI.out.wb)
            have s2 := blk_cell hwb8 2 rfl
            have sf2 := blk_free (j := 2) hwb8
            clear hrow hgrow hwb8 x0 x1 x2 x3 x4 x5 t2 hi hz0 hz1 hz2
            go_wp2
            go_roundw
            case rel => exact ⟨j + 1, by omega, by go_num, _, _, by have := HL.out; simp; omega, HMM.out⟩
            case measure => simp [intOf]; omega
    · have : j = NN := by omega
      subst this
      obtain ⟨sv, ds, hl, hM⟩ := hM.out
      obtain ⟨ad, cp, rfl, hSl, hAd⟩ := days_of_owns hM.row
      have HM := Lib.hid hM
      have HSL := Lib.hid (And.intro hSl hAd)
      have HLL := Lib.hid hl
      clear hSl hAd hM hl
      have c0 := blk_cell HM.out.wb 0 rfl
      have c1 := blk_cell HM.out.wb 1 rfl
      have c2 := blk_cell HM.out.wb 2 rfl
      have d0 := blk_cell HM.out.rs 0 rfl
      have d1 := blk_cell HM.out.rs 1 rfl
      have d2 := blk_cell HM.out.rs 2 rfl
      have f0 := blk_free (j := 0) HM.out.rs
      have f1 := blk_free (j := 1) HM.out.rs
      have f2 := blk_free (j := 2) HM.out.rs
      go_wp2_with (fail)
      have HR : Hid ((((Wo.setCell ⟨w.heap.size, 0, none⟩ (.int .i64 stock)).setCell ⟨w.heap.size, 1, none⟩ (.int .i64 store)).setCell ⟨w.heap.size, 2, none⟩ (.slice ad ds.length cp)).heap[w.heap.size]? = some (.cells #[.int .i64 stock, .int .i64 store, .slice ad ds.length cp] 60 (0, 0))) := blk_setCell (j := 2) (blk_setCell (j := 1) (blk_setCell (j := 0) HM.out.rs))
      have HO : Hid (∀ m, m ≠ w.heap.size → (((Wo.setCell ⟨w.heap.size, 0, none⟩ (.int .i64 stock)).setCell ⟨w.heap.size, 1, none⟩ (.int .i64 store)).setCell ⟨w.heap.size, 2, none⟩ (.slice ad ds.length cp)).heap[m]? = Wo.heap[m]?) := fun m hm => (Below.heap_setCell _ _ _ _ hm).trans ((Below.heap_setCell _ _ _ _ hm).trans (Below.heap_setCell _ _ _ _ hm))
      have HZ : Hid ((((Wo.setCell ⟨w.heap.size, 0, none⟩ (.int .i64 stock)).setCell ⟨w.heap.size, 1, none⟩ (.int .i64 store)).setCell ⟨w.heap.size, 2, none⟩ (.slice ad ds.length cp)).heap.size = Wo.heap.size) := by show _ = _; rw [World.size_setCell, World.size_setCell, World.size_setCell]
      have HE : Hid ((((Wo.setCell ⟨w.heap.size, 0, none⟩ (.int .i64 stock)).setCell ⟨w.heap.size, 1, none⟩ (.int .i64 store)).setCell ⟨w.heap.size, 2, none⟩ (.slice ad ds.length cp)).os = Wo.os ∧ (((Wo.setCell ⟨w.heap.size, 0, none⟩ (.int .i64 stock)).setCell ⟨w.heap.size, 1, none⟩ (.int .i64 store)).setCell ⟨w.heap.size, 2, none⟩ (.slice ad ds.length cp)).tape = Wo.tape ∧ (((Wo.setCell ⟨w.heap.size, 0, none⟩ (.int .i64 stock)).setCell ⟨w.heap.size, 1, none⟩ (.int .i64 store)).setCell ⟨w.heap.size, 2, none⟩ (.slice ad ds.length cp)).output = Wo.output) := ⟨rfl, rfl, rfl⟩
      clear c0 c1 c2 d0 d1 d2 f0 f1 f2
      generalize ((Wo.setCell ⟨w.heap.size, 0, none⟩ (.int .i64 stock)).setCell ⟨w.heap.size, 1, none⟩ (.int .i64 store)).setCell ⟨w.heap.size, 2, none⟩ (.slice ad ds.length cp) = We at HR HO HZ HE ⊢
      have r0 := blk_cell HR.out 0 rfl
      have r1 := blk_cell HR.out 1 rfl
      have r2 := blk_cell HR.out 2 rfl
      refine bodyPost_ret (v := wv stock store ad ds.length cp) (by simp [results, Try.results48, go_sem, r0, r1, r2]) rfl ?_
      have hL := HM.out.hL
      have hBL := HM.out.dk.lt
      have hW := HM.out.hW
      have hN := HN.out
      have hlen := HLL.out
      refine ⟨stock, store, ad, ds, cp, rfl, ?_, HS.out, HS2.out, ⟨by omega, by omega⟩, HM.out.ok, (HM.out.dk.keep (by rw [HZ.out]; exact Nat.le_refl _) (fun m hm => HO.out m (by omega))).mono (by omega), ⟨HE.out.1.trans HM.out.ap.os, HE.out.2.1.trans HM.out.ap.tape, HE.out.2.2.trans HM.out.ap.output, by rw [HZ.out]; exact HM.out.ap.size, fun m hm hB => (HO.out m (by omega)).trans (HM.out.ap.block m hm hB)⟩, fun p hp => by have := HSL.out.2 p hp; omega⟩
      intro h0
      obtain ⟨b, off, rfl, hb, hc⟩ := HSL.out.1 h0
      have hbw := HSL.out.2 _ rfl
      refine ⟨b, off, rfl, by rw [HZ.out]; exact hb, fun m x i u hx hu => (World.cell?_of_block (w := Wo) (a := ⟨b, off + m * 6 + i, none⟩) (HO.out b (by have : w1.heap.size + 1 ≤ b := hbw; omega))).trans (hc m x i u hx hu)⟩
end Go.Proofs.Ytpkegiekpnaejaa

namespace Go.Proofs.Ytpkegiekpnaejaa
open Go.RowKit Go.Shelf
attribute [local go_sem] Oper.semAt_some

/-- What turned a block that is new to an elder world turned nothing of it. -/
theorem below_apart {W A B : World} {own : Nat → Prop} (h : Below W.heap.size W A) (k : Apart own A B) (hB : ∀ j, own j → W.heap.size ≤ j) : Below W.heap.size W B :=
  ⟨k.os.trans h.os, k.tape.trans h.tape, k.output.trans h.output, Nat.le_trans h.size k.size, fun j hj => (k.block j (Nat.lt_of_lt_of_le hj h.size) (fun hh => by have := hB j hh; omega)).trans (h.block j hj)⟩

/-- No day fails in the worst weather, with this stock and store. -/
def okB (st so : Int) (ds : List Dy) : Bool := (worstL st so ds).fails == -1

theorem winE_small {stock store : Int} {ds : List Dy} (h1 : 1 ≤ store ∧ store ≤ 1000000) (h2 : 0 ≤ stock ∧ stock ≤ store) (h3 : 1 ≤ ds.length ∧ (ds.length : Int) ≤ 60) (h4 : ∀ d ∈ ds, SmallDay d) : winE stock store ds = 0 := by
  unfold winE
  have a : withinB store 1 1000000 = true := by simp [withinB]; omega
  have b : withinB stock 0 store = true := by simp [withinB]; omega
  have c : withinB ds.length 1 60 = true := by simp [withinB]; omega
  have d : ds.all dayB = true := by
    rw [List.all_eq_true]
    intro x hx
    obtain ⟨s1, s2, s3⟩ := h4 x hx
    unfold SmallSp at s1 s2 s3
    simp [dayB, boundedB]; omega
  simp [a, b, c, d]

/-- The least number from lo to hi that is enough, or none. -/
def LeastIs (lo hi : Int) (q : Int → Bool) (e : Ending) : Prop :=
  (∃ N : Int, (lo ≤ N ∧ N ≤ hi) ∧ q N = true ∧ (∀ t, lo ≤ t → t < N → q t = false) ∧ e = .returned (.tuple #[.int .i64 N, .int .i64 0])) ∨
  ((∀ t, lo ≤ t → t ≤ hi → q t = false) ∧ e = .returned (.tuple #[.int .i64 0, .int .i64 6]))
theorem least_is {lo hi : Int} {q : Int → Bool} {e : Ending} (h : OutLeast lo hi q e) : LeastIs lo hi q e := by
  obtain ⟨r, ⟨h1, h2, h3⟩, he⟩ := h
  by_cases hr : lo + r ≤ hi
  · rw [if_pos hr] at he
    refine .inl ⟨lo + r, ⟨by omega, hr⟩, h3 r (Nat.le_refl _) (by omega), fun t h4 h5 => ?_, he⟩
    have : q (lo + ((t - lo).toNat : Int)) = false := h2 (t - lo).toNat (by omega)
    rwa [show lo + ((t - lo).toNat : Int) = t by omega] at this
  · rw [if_neg hr] at he
    refine .inr ⟨fun t h4 h5 => ?_, he⟩
    have : q (lo + ((t - lo).toNat : Int)) = false := h2 (t - lo).toNat (by omega)
    rwa [show lo + ((t - lo).toNat : Int) = t by omega] at this

/-- A number and an error: the least number from lo to hi that is enough, or none. -/
def LeastOr (lo hi : Int) (q : Int → Bool) (N E : Int) : Prop :=
  (E = 0 ∧ (lo ≤ N ∧ N ≤ hi) ∧ q N = true ∧ (∀ t, lo ≤ t → t < N → q t = false)) ∨ (E = 6 ∧ N = 0 ∧ ∀ t, lo ≤ t → t ≤ hi → q t = false)
theorem least_or {lo hi : Int} {q : Int → Bool} {e : Ending} (h : OutLeast lo hi q e) : ∃ N E : Int, LeastOr lo hi q N E ∧ e = .returned (.tuple #[.int .i64 N, .int .i64 E]) := by
  rcases least_is h with ⟨N, h1, h2, h3, h4⟩ | ⟨h1, h2⟩
  · exact ⟨N, 0, .inl ⟨rfl, h1, h2, h3⟩, h4⟩
  · exact ⟨0, 6, .inr ⟨rfl, rfl, h1⟩, h2⟩

/-- An elder world, what has become of it, a winter in a box, and its days. -/
def KW (w W : World) (B : Nat) (stock store : Int) (ad : Option Addr) (ds : List Dy) (cp : Nat) : Prop :=
  Below w.heap.size w W ∧ W.heap[B]? = some (.cells #[.int .i64 stock, .int .i64 store, .slice ad ds.length cp] 60 (0, 0)) ∧ Sl 6 Dy.cells W ad ds
theorem KW.below {w W W' : World} {B : Nat} {stock store : Int} {ad : Option Addr} {ds : List Dy} {cp : Nat} (h : KW w W B stock store ad ds cp) (hb : Below W.heap.size W W') : KW w W' B stock store ad ds cp :=
  ⟨below_self h.1 hb, blk_below h.2.1 hb, h.2.2.below hb⟩

theorem ok_more {st S st' S' : Int} {ds : List Dy} (hd : ∀ d ∈ ds, SmallDay d) (h1 : st ≤ st') (h2 : S ≤ S') (h3 : 0 ≤ st ∧ st ≤ S) (h4 : st' ≤ S') (h : okB st S ds = true) : okB st' S' ds = true := by
  unfold okB at *
  rw [beq_iff_eq] at *
  exact worst_more (fun d hx => (hd d hx).ok) h1 h2 h3 h4 h

theorem fail_ok {stock store : Int} {ds : List Dy} (hw : winE stock store ds = 0) : ((failR stock store ds).2.2 == 6) = okB stock store ds := by
  unfold failR okB
  rw [if_pos hw]
  by_cases h : (worstL stock store ds).fails = -1
  · rw [if_pos h, h]; rfl
  · rw [if_neg h]
    show (0 == (6 : Int)) = _
    rw [Bool.eq_iff_iff]; simp [h]

set_option maxHeartbeats 1000000 in
/-- The closure of CourseEnough. -/
theorem held57_any (v s stock store : Int) (a : Option Addr) (ds : List Dy) (cap B : Nat) (w : World) (hx : Sl 6 Dy.cells w a ds) (hl : ds.length ≤ 1000000) (hw : winE v s ds = 0)
    (hB : w.heap[B]? = some (.cells #[.int .i64 stock, .int .i64 store, .slice a ds.length cap] 60 (0, 0))) :
    Calls Try.prog 57 #[.int .i64 v, .int .i64 s, .pointer (some ⟨B, 0, none⟩)] w fun e w' => e = .returned (.bool (okB v s ds)) ∧ Below w.heap.size w w' := by
  have HL := Lib.hid (First_any v s a ds cap w hx hl)
  have HW := Lib.hid (fail_ok hw)
  have c2 := blk_cell hB 2 rfl
  clear hx hl hB hw
  go_enter Try.func57, Try.ntmps57
  go_wp2_with (fail)
  refine HL.out.mono ?_
  rintro e w1 ⟨rfl, hb1⟩
  go_wp2
  go_ret
  exact ⟨ret_bool HW.out, hb1⟩
end Go.Proofs.Ytpkegiekpnaejaa

namespace Go.Proofs.Ytpkegiekpnaejaa
open Go.RowKit Go.Shelf
attribute [local go_sem] Oper.semAt_some

abbrev flatD (ds : List Dy) : List Value := (ds.flatMap Dy.cells).map (Value.int .i64)

theorem flatD_len (ds : List Dy) : (ds.flatMap Dy.cells).length = ds.length * 6 := by
  induction ds with
  | nil => rfl
  | cons d ds ih => rw [List.flatMap_cons, List.length_append, ih, Dy.cells_len, List.length_cons]; omega

theorem owns_put {w : World} {base g n cap : Nat} {e : TypeId} {size : Nat} {xs : List Value} (h : w.ownsRow base e size (.slice (some ⟨g, 0, none⟩) n cap) n xs) (j : Nat) (u : Value) : (w.setCell ⟨g, j, none⟩ u).ownsRow base e size (.slice (some ⟨g, 0, none⟩) n cap) n (xs.set j u) := by
  refine ⟨by have := h.1; simpa using this, ?_⟩
  rcases h.2 with ⟨h1, _⟩ | ⟨g', cap', cur, h1, hb, hg, hnc, hcm, hcs, htake⟩
  · cases h1
  · cases h1
    refine .inr ⟨g, cap, _, rfl, hb, blk_setCell hg, hnc, hcm, by rw [Array.size_setIfInBounds]; exact hcs, ?_⟩
    rw [Array.toList_setIfInBounds, List.take_set, htake]

theorem flat_set (ds : List Dy) : ∀ (j : Nat) (d d' : Dy) (i : Nat) (x : Int), ds[j]? = some d → i < 6 → (Dy.cells d).set i x = Dy.cells d' → (ds.flatMap Dy.cells).set (j * 6 + i) x = (ds.set j d').flatMap Dy.cells := by
  induction ds with
  | nil => intro j d d' i x h _ _; simp at h
  | cons y ds ih =>
    intro j d d' i x h hi hd
    cases j with
    | zero =>
      simp at h; subst h
      rw [Nat.zero_mul, Nat.zero_add, List.flatMap_cons, List.set_append_left _ _ (by rw [Dy.cells_len]; exact hi), hd, List.set_cons_zero, List.flatMap_cons]
    | succ j =>
      rw [List.flatMap_cons, List.set_append_right _ _ (by rw [Dy.cells_len]; omega), Dy.cells_len, show (j + 1) * 6 + i - 6 = j * 6 + i by omega, ih j d d' i x (by simpa using h) hi hd, List.set_cons_succ, List.flatMap_cons]

/-- Days in block g of the call's own. -/
def DaysIn (w : World) (base g cap : Nat) (ds : List Dy) : Prop := base ≤ g ∧ w.ownsRow base 97 6 (.slice (some ⟨g, 0, none⟩) ds.length cap) ds.length (flatD ds)

theorem DaysIn.sl {w : World} {base g cap : Nat} {ds : List Dy} (h : DaysIn w base g cap ds) : Sl 6 Dy.cells w (some ⟨g, 0, none⟩) ds := by
  obtain ⟨a, c, e, hs, _⟩ := days_of_owns h.2
  cases e; exact hs
theorem DaysIn.keep {w w' : World} {base g cap : Nat} {ds : List Dy} (h : DaysIn w base g cap ds) (hk : w'.heap[g]? = w.heap[g]?) : DaysIn w' base g cap ds :=
  ⟨h.1, owns_step h.2 (fun k _ he _ => by simp [Value.ownBlock] at he; subst he; exact hk)⟩
theorem DaysIn.lt {w : World} {base g cap : Nat} {ds : List Dy} (h : DaysIn w base g cap ds) : g < w.heap.size := by
  obtain ⟨_, cs, h2⟩ := owns_blk h.2 (g := g) rfl
  exact lt_of_block h2
theorem DaysIn.free {w : World} {base g cap : Nat} {ds : List Dy} (h : DaysIn w base g cap ds) (j : Nat) : w.frozen? ⟨g, j, none⟩ = false := by
  obtain ⟨_, cs, h2⟩ := owns_blk h.2 (g := g) rfl
  exact blk_free h2
theorem DaysIn.below {w w' : World} {base g cap : Nat} {ds : List Dy} (h : DaysIn w base g cap ds) (hb : Below w.heap.size w w') : DaysIn w' base g cap ds := h.keep (hb.block g h.lt)
theorem DaysIn.put {w : World} {base g cap : Nat} {ds : List Dy} (h : DaysIn w base g cap ds) (j : Nat) (d d' : Dy) (i : Nat) (x : Int) (hj : ds[j]? = some d) (hi : i < 6) (hd : (Dy.cells d).set i x = Dy.cells d') : DaysIn (w.setCell ⟨g, j * 6 + i, none⟩ (.int .i64 x)) base g cap (ds.set j d') := by
  refine ⟨h.1, ?_⟩
  have := owns_put h.2 (j * 6 + i) (.int .i64 x)
  rw [List.length_set]
  show World.ownsRow _ _ _ _ _ _ (((ds.set j d').flatMap Dy.cells).map (Value.int .i64))
  rw [← flat_set ds j d d' i x hj hi hd, List.map_set]
  exact this
theorem DaysIn.cell {w : World} {base g cap : Nat} {ds : List Dy} (h : DaysIn w base g cap ds) (j : Nat) (d : Dy) (i : Nat) (x : Int) (hj : ds[j]? = some d) (hx : (Dy.cells d)[i]? = some x) : w.cell? ⟨g, j * 6 + i, none⟩ = some (.int .i64 x) := by
  have h0 : 0 < ds.length := by
    rcases Nat.eq_zero_or_pos ds.length with h | h
    · rw [List.getElem?_eq_none (by omega)] at hj; cases hj
    · exact h
  obtain ⟨b, off, e, _, hc⟩ := h.sl h0
  cases e
  have := hc j d i x hj hx
  rwa [Nat.zero_add] at this

/-- Days that were handed back, in a block of their own. -/
def OutDays (w : World) (ds : List Dy) (e : Ending) (w' : World) : Prop := ∃ g cap, e = .returned (.slice (some ⟨g, 0, none⟩) ds.length cap) ∧ DaysIn w' w.heap.size g cap ds ∧ Below w.heap.size w w'

set_option maxHeartbeats 1000000 in
theorem cloneDay_any (a : Option Addr) (ds : List Dy) (cap : Nat) (w : World) (hx : Sl 6 Dy.cells w a ds) (h0 : 0 < ds.length) (hl : ds.length ≤ 1000) :
    Calls Try.prog 87 #[.slice a ds.length cap] w (OutDays w ds) := by
  obtain ⟨i0, hi, hz0, hz1, hz2⟩ := info_parts Try.info97
  obtain ⟨b, off, rfl, hbs, hc⟩ := hx h0
  have HC : Hid (∀ j u, (flatD ds)[j]? = some u → w.cell? ((⟨b, off, none⟩ : Addr).add j) = some u) := fun j u hu => by
    have hj : j < ds.length * 6 := by
      rcases Nat.lt_or_ge j (ds.length * 6) with h | h
      · exact h
      · rw [List.getElem?_eq_none (by rw [List.length_map, flatD_len]; exact h)] at hu; cases hu
    have hq : j / 6 < ds.length := by omega
    have e : (⟨b, off, none⟩ : Addr).add j = ⟨b, off + (j / 6) * 6 + j % 6, none⟩ := by
      rw [show off + (j / 6) * 6 + j % 6 = off + j by omega]
      unfold Addr.add; split <;> simp_all
    have hr : j % 6 < (Dy.cells ds[j / 6]).length := by rw [Dy.cells_len]; omega
    have h1 := hc (j / 6) ds[j / 6] (j % 6) _ (List.getElem?_eq_getElem hq) (List.getElem?_eq_getElem hr)
    have h2 := flat_get ds (j / 6) ds[j / 6] (j % 6) _ (List.getElem?_eq_getElem hq) (List.getElem?_eq_getElem hr)
    rw [show j / 6 * 6 + j % 6 = j by omega] at h2
    rw [e, h1]
    rw [List.getElem?_map, h2] at hu
    simpa using hu
  have hlen := flatD_len ds
  have HLL := Lib.hid hlen
  clear hc hlen
  go_enter Try.func87, Try.ntmps87
  go_wp2_with (at_builtin; refine wpList_append_own_at _ rfl _ _ 58 rfl w.heap.size 97 i0 (.agg #[.int .i64 0, .int .i64 0, .int .i64 0, .int .i64 0, .int .i64 0, .int .i64 0]) 6 48 Try.underlying58 hi hz0 hz1 hz2 rfl (by decide) (.slice none 0 0) 0 [] rfl ⟨rfl, .inl ⟨rfl, rfl⟩⟩ ⟨b, off, none⟩ ds.length cap (flatD ds) rfl ?c0 ?c1 ?c2 ?c3 ?c4 ?c5 ?_)
  case c0 => rw [List.length_map]; exact HLL.out
  case c1 => exact HC.out
  case c2 => intro u hu; obtain ⟨x, _, rfl⟩ := List.mem_map.1 hu; rfl
  case c3 => unfold maxLen; omega
  case c4 => omega
  case c5 => exact Nat.le_refl _
  intro v' w2 hown2 hgrow2 hnil _
  have hb3 : Below w.heap.size w w2 := (Below.refl _ w).grown hgrow2 (Nat.le_refl _) (fun j hj => by simp [Value.ownBlock] at hj)
  have HO : Hid (∃ g c, v' = .slice (some ⟨g, 0, none⟩) ds.length c ∧ DaysIn w2 w.heap.size g c ds) := by
    rcases hown2.2 with ⟨rfl, h2⟩ | ⟨g, c, cur, rfl, hb, _⟩
    · exact absurd (hnil.1 rfl) (fun h => by rw [h] at h0; simp at h0)
    · exact ⟨g, c, rfl, hb, hown2⟩
  obtain ⟨g, c, rfl, hd⟩ := HO.out
  have HD := Lib.hid hd
  clear hown2 hgrow2 hnil hd HO
  go_wp2
  go_ret
  exact ⟨g, c, rfl, HD.out, hb3⟩

/-- A winter that was handed back, its days in a block of their own. -/
def OutWin (w : World) (stock store : Int) (ds : List Dy) (e : Ending) (w' : World) : Prop := ∃ g cap, e = .returned (wv stock store (some ⟨g, 0, none⟩) ds.length cap) ∧ DaysIn w' w.heap.size g cap ds ∧ Below w.heap.size w w'

set_option maxRecDepth 100000 in
set_option maxHeartbeats 1000000 in
theorem cloneWinter_any (stock store : Int) (a : Option Addr) (ds : List Dy) (cap : Nat) (w : World) (hx : Sl 6 Dy.cells w a ds) (h0 : 0 < ds.length) (hl : ds.length ≤ 1000) :
    Calls Try.prog 33 #[wv stock store a ds.length cap] w (OutWin w stock store ds) := by
  have HX := Lib.hid (And.intro hx (And.intro h0 hl))
  clear hx h0 hl
  obtain ⟨Wa, hWa⟩ : ∃ Wa, (w.alloc (.cells #[.int .i64 stock, .int .i64 store, .slice a ds.length cap] 60)).alloc (.cells #[.int .i64 0, .int .i64 0, .slice none 0 0] 60) = Wa := ⟨_, rfl⟩
  have hba : Below w.heap.size w Wa := by rw [← hWa]; exact ((Below.refl _ _).alloc (Nat.le_refl _) _).alloc (by simp) _
  have g0 : Wa.heap[w.heap.size]? = some (.cells #[.int .i64 stock, .int .i64 store, .slice a ds.length cap] 60 (0, 0)) := by rw [← hWa]; exact alk (new_at rfl)
  have g1 : Wa.heap[w.heap.size + 1]? = some (.cells #[.int .i64 0, .int .i64 0, .slice none 0 0] 60 (0, 0)) := by rw [← hWa]; exact new_at (by simp)
  have c0 := blk_cell g0 0 rfl
  have c1 := blk_cell g0 1 rfl
  have c2 := blk_cell g0 2 rfl
  have HA := Lib.hid (And.intro hba (And.intro g0 g1))
  clear hba g0 g1
  go_enter Try.func33, Try.ntmps33
  go_wp2_with (fail)
  clear hWa
  go_region_held3 (fun w' => w'.cell? ⟨w.heap.size, 0, none⟩ = some (.int .i64 stock) ∧ w'.cell? ⟨w.heap.size, 1, none⟩ = some (.int .i64 store) ∧ w'.cell? ⟨w.heap.size, 2, none⟩ = some (.slice a ds.length cap)) (go_keep)
    (first | (go_at_call 87; refine (cloneDay_any a ds cap Wa.drew (HX.out.1.below HA.out.1.drew) HX.out.2.1 HX.out.2.2).mono ?_; rintro e w1 ⟨g, c, rfl, hd, hb1'⟩; have hb1 : Below Wa.heap.size Wa w1 := ⟨hb1'.os, hb1'.tape, hb1'.output, hb1'.size, hb1'.block⟩; clear hb1'; have H1 := Lib.hid (And.intro (below_self HA.out.1 hb1) (And.intro (blk_below HA.out.2.1 hb1) (And.intro (blk_below HA.out.2.2 hb1) (And.intro (show DaysIn w1 Wa.heap.size g c ds from hd) hb1)))); clear hd hb1 c0 c1 c2; have d0 := blk_cell H1.out.2.1 0 rfl; have d1 := blk_cell H1.out.2.1 1 rfl; have d2 := blk_cell H1.out.2.1 2 rfl; have f0 := blk_free (j := 0) H1.out.2.2.1; have f1 := blk_free (j := 1) H1.out.2.2.1; have f2 := blk_free (j := 2) H1.out.2.2.1; have e0 := blk_cell H1.out.2.2.1 0 rfl; have e1 := blk_cell H1.out.2.2.1 1 rfl; have e2 := blk_cell H1.out.2.2.1 2 rfl))
  go_wp2_with (fail)
  have HE : Hid (∀ W, W = ((w1.setCell ⟨w.heap.size + 1, 0, none⟩ (.int .i64 stock)).setCell ⟨w.heap.size + 1, 1, none⟩ (.int .i64 store)).setCell ⟨w.heap.size + 1, 2, none⟩ (.slice (some ⟨g, 0, none⟩) ds.length c) →
      W.heap[w.heap.size + 1]? = some (.cells #[.int .i64 stock, .int .i64 store, .slice (some ⟨g, 0, none⟩) ds.length c] 60 (0, 0)) ∧ DaysIn W w.heap.size g c ds ∧ Below w.heap.size w W) := by
    rintro W rfl
    have hd := H1.out.2.2.2.1
    have hg : w.heap.size + 1 < g := by have := hd.1; have := lt_of_block HA.out.2.2; omega
    refine ⟨blk_setCell (j := 2) (blk_setCell (j := 1) (blk_setCell (j := 0) H1.out.2.2.1)), ?_, ((H1.out.1.setCell (p := ⟨w.heap.size + 1, 0, none⟩) (by show w.heap.size ≤ w.heap.size + 1; omega) _).setCell (p := ⟨w.heap.size + 1, 1, none⟩) (by show w.heap.size ≤ w.heap.size + 1; omega) _).setCell (p := ⟨w.heap.size + 1, 2, none⟩) (by show w.heap.size ≤ w.heap.size + 1; omega) _⟩
    have h2 : DaysIn w1 w.heap.size g c ds := ⟨by omega, owns_mono hd.2 (by have := lt_of_block HA.out.2.2; omega)⟩
    have hne : g ≠ w.heap.size + 1 := by omega
    exact ((h2.keep (Below.heap_setCell _ ⟨w.heap.size + 1, 0, none⟩ _ _ hne)).keep (Below.heap_setCell _ ⟨w.heap.size + 1, 1, none⟩ _ _ hne)).keep (Below.heap_setCell _ ⟨w.heap.size + 1, 2, none⟩ _ _ hne)
  clear d0 d1 d2 f0 f1 f2 e0 e1 e2
  generalize hWe : World.setCell _ _ _ = We
  have HF := Lib.hid (HE.out We hWe.symm)
  clear hWe HE
  have r0 := blk_cell HF.out.1 0 rfl
  have r1 := blk_cell HF.out.1 1 rfl
  have r2 := blk_cell HF.out.1 2 rfl
  refine bodyPost_ret (v := wv stock store (some ⟨g, 0, none⟩) ds.length c) (by simp [results, Try.results33, go_sem, r0, r1, r2]) rfl ?_
  exact ⟨g, c, rfl, HF.out.2.1, HF.out.2.2⟩
end Go.Proofs.Ytpkegiekpnaejaa

namespace Go.Proofs.Ytpkegiekpnaejaa
open Go.RowKit Go.Shelf

theorem getD_nonneg {f : Dy → Int} {ds : List Dy} (h : ∀ d ∈ ds, 0 ≤ f d) (k : Nat) : 0 ≤ (ds.map f)[k]?.getD 0 := by
  rw [map_getD]
  cases e : ds[k]? with
  | none => exact Int.le_refl _
  | some d => exact h d (List.mem_of_getElem? e)

/-- What has not failed has no more than a proof says. -/
theorem lack_above {stock store pf : Int} {N M L : List Int} (hs : 0 ≤ stock ∧ stock ≤ store) (hM : ∀ k : Nat, 0 ≤ M[k]?.getD 0) (hL : ∀ k : Nat, 0 ≤ L[k]?.getD 0) (hN : ∀ k : Nat, 0 ≤ N[k]?.getD 0) (j : Nat) (left : Int)
    (h : lackS store pf N M L pf.toNat stock j = some left) (hf : (playL stock store N M L (pf.toNat + j)).fails = -1) :
    (0 ≤ (playL stock store N M L (pf.toNat + j)).stock ∧ (playL stock store N M L (pf.toNat + j)).stock ≤ store) ∧ ((j = 0 ∧ 0 ≤ pf) ∨ (playL stock store N M L (pf.toNat + j)).stock ≤ left) := by
  have inv : ∀ k : Nat, (playL stock store N M L k).fails = -1 → 0 ≤ (playL stock store N M L k).stock ∧ (playL stock store N M L k).stock ≤ store := by
    intro k
    induction k with
    | zero => intro _; exact hs
    | succ k ih =>
      rw [playL_succ]
      have hm := hM k
      have hl := hL k
      have hn := hN k
      generalize playL stock store N M L k = a at ih ⊢
      intro h1
      by_cases hfa : a.fails = -1
      · obtain ⟨i1, i2⟩ := ih hfa
        rw [stepP, if_pos hfa] at h1 ⊢
        split at h1
        · have : (k : Int) = -1 := h1
          omega
        · rename_i hc
          rw [if_neg hc]
          unfold madeD lostD at *
          constructor
          · show 0 ≤ _ - _; omega
          · show _ - _ ≤ store; omega
      · rw [stepP, if_neg hfa] at h1; exact absurd h1 hfa
  refine ⟨inv _ hf, ?_⟩
  induction j generalizing left with
  | zero =>
    by_cases hp : 0 ≤ pf
    · exact .inl ⟨rfl, hp⟩
    · right
      have : pf.toNat = 0 := by omega
      rw [this]
      simp [lackS] at h
      show stock ≤ left
      omega
  | succ j ih =>
    right
    rw [lackS] at h
    cases h1 : lackS store pf N M L pf.toNat stock j with
    | none => rw [h1] at h; cases h
    | some l1 =>
      rw [h1] at h
      simp only [Option.bind_some] at h
      split at h
      · cases h
      · cases h
        rw [show pf.toNat + (j + 1) = (pf.toNat + j) + 1 by omega, playL_succ] at hf ⊢
        have i1 := inv (pf.toNat + j)
        have i2 := ih l1 h1
        have hm := hM (pf.toNat + j)
        have hl := hL (pf.toNat + j)
        have hn := hN (pf.toNat + j)
        generalize playL stock store N M L (pf.toNat + j) = a at hf i1 i2 ⊢
        by_cases hfa : a.fails = -1
        · obtain ⟨b1, b2⟩ := i1 hfa
          have i3 := i2 hfa
          rw [stepP, if_pos hfa] at hf ⊢
          split at hf
          · have : ((pf.toNat + j : Nat) : Int) = -1 := hf
            omega
          · rename_i hc
            rw [if_neg hc]
            show _ - _ ≤ _
            unfold madeD lostD atMostL at *
            rcases i3 with ⟨rfl, hp⟩ | i3
            · rw [if_pos (by omega)]; omega
            · split <;> omega
        · rw [stepP, if_neg hfa] at hf; exact absurd hf hfa

theorem lack_fails {stock store pf : Int} {N M L : List Int} (hs : 0 ≤ stock ∧ stock ≤ store) (hM : ∀ k : Nat, 0 ≤ M[k]?.getD 0) (hL : ∀ k : Nat, 0 ≤ L[k]?.getD 0) (hN : ∀ k : Nat, 0 ≤ N[k]?.getD 0) (pd n : Nat) (hpf : pf ≤ pd) (hn : pd < n)
    (h : (lackR stock store pf N M L pd).2 = true) : (playL stock store N M L n).fails ≠ -1 ∧ 0 ≤ (playL stock store N M L n).fails ∧ (playL stock store N M L n).fails ≤ pd := by
  unfold lackR at h
  cases h1 : lackS store pf N M L pf.toNat stock (pd - pf.toNat) with
  | none => rw [h1] at h; cases h
  | some left =>
    rw [h1] at h
    simp only [decide_eq_true_eq] at h
    by_cases hf : (playL stock store N M L pd).fails = -1
    · have e0 : pf.toNat + (pd - pf.toNat) = pd := by omega
      have ha := lack_above hs hM hL hN (pd - pf.toNat) left h1 (by rw [e0]; exact hf)
      rw [e0] at ha
      have hm := hM pd
      have hl := hL pd
      have e : (playL stock store N M L (pd + 1)).fails = pd := by
        rw [playL_succ]
        generalize playL stock store N M L pd = a at hf ha ⊢
        rw [stepP, if_pos hf, if_pos]
        obtain ⟨a1, a2⟩ := ha
        unfold madeD lostD atMostL at *
        rcases a2 with ⟨a2, a3⟩ | a2
        · rw [if_pos (by omega)] at h; omega
        · split at h <;> omega
      have := playL_stop stock store N M L (pd + 1) (by rw [e]; omega) n (by omega)
      rw [this, e]
      omega
    · have := playL_stop stock store N M L pd hf n (by omega)
      rw [this]
      rcases play_len stock store N M L pd with ⟨h2, _⟩ | ⟨d, h2, _, _, h3⟩
      · exact absurd h2 hf
      · rw [h2]; omega

theorem lackS_congr {store pf : Int} {N M L N' M' L' : List Int} (d0 : Nat) (stock : Int) (j : Nat) (h : ∀ k : Nat, k < d0 + j → N[k]?.getD 0 = N'[k]?.getD 0 ∧ M[k]?.getD 0 = M'[k]?.getD 0 ∧ L[k]?.getD 0 = L'[k]?.getD 0) :
    lackS store pf N M L d0 stock j = lackS store pf N' M' L' d0 stock j := by
  induction j with
  | zero => rfl
  | succ j ih =>
    rw [lackS, lackS, ih (fun k hk => h k (by omega))]
    obtain ⟨h1, h2, h3⟩ := h (d0 + j) (by omega)
    unfold atMostL
    rw [h1, h2, h3]

theorem set_getD {f : Dy → Int} {ds : List Dy} {p : Nat} {d : Dy} (hp : p < ds.length) (k : Nat) : ((ds.set p d).map f)[k]?.getD 0 = if k = p then f d else (ds.map f)[k]?.getD 0 := by
  rw [List.map_set, List.getElem?_set]
  split
  · rename_i h
    subst h
    rw [if_pos (by simpa using hp), if_pos rfl]
    rfl
  · rename_i h
    rw [if_neg (fun e => h e.symm)]

theorem winE_day {stock store : Int} {ds : List Dy} (h1 : 1 ≤ store ∧ store ≤ 1000000) (h2 : 0 ≤ stock ∧ stock ≤ store) (h3 : 1 ≤ ds.length ∧ (ds.length : Int) ≤ 60) (h4 : ∀ d ∈ ds, DayOk d) : winE stock store ds = 0 := by
  unfold winE
  have a : withinB store 1 1000000 = true := by simp [withinB]; omega
  have b : withinB stock 0 store = true := by simp [withinB]; omega
  have c : withinB ds.length 1 60 = true := by simp [withinB]; omega
  have d : ds.all dayB = true := by
    rw [List.all_eq_true]
    intro x hx
    obtain ⟨s1, s2, s3⟩ := h4 x hx
    simp [dayB, boundedB]; omega
  simp [a, b, c, d]

theorem get_map {f : Dy → Int} {ds : List Dy} {p : Nat} {d : Dy} (h : ds[p]? = some d) : (ds.map f)[p]?.getD 0 = f d := by rw [map_getD, h]

/-- A proof that holds, and the day that it is about. -/
theorem proof_true {stock store : Int} {ds : List Dy} {pf : Int} {pd : Nat} {d : Dy} (hs : 0 ≤ stock ∧ stock ≤ store) (hd : ∀ x ∈ ds, DayOk x) (hpf : pf ≤ pd) (hp : ds[pd]? = some d) (h : (worstLack stock store pf ds pd).2 = true) :
    ((worstL stock store ds).fails ≠ -1 ∧ 0 ≤ (worstL stock store ds).fails ∧ (worstL stock store ds).fails ≤ pd) ∧
    (1 ≤ (worstLack stock store pf ds pd).1 ∧ (worstLack stock store pf ds pd).1 ≤ d.need.hi) ∧
    (∀ lo : Int, (worstLack stock store pf (ds.set pd { d with need := ⟨lo, d.need.hi - (worstLack stock store pf ds pd).1⟩ }) pd).2 = false) ∧
    (pf < pd → (worstLack stock store pf (ds.set pd { d with make := ⟨d.make.lo + (worstLack stock store pf ds pd).1, d.make.hi + (worstLack stock store pf ds pd).1⟩ }) pd).2 = false) := by
  have hlt : pd < ds.length := by
    rcases Nat.lt_or_ge pd ds.length with h | h
    · exact h
    · rw [List.getElem?_eq_none h] at hp; cases hp
  have nN : ∀ k : Nat, 0 ≤ (ds.map fun d => d.need.hi)[k]?.getD 0 := getD_nonneg (fun x hx => by obtain ⟨a, b, c⟩ := hd x hx; omega)
  have nM : ∀ k : Nat, 0 ≤ (ds.map fun d => d.make.lo)[k]?.getD 0 := getD_nonneg (fun x hx => by obtain ⟨a, b, c⟩ := hd x hx; omega)
  have nL : ∀ k : Nat, 0 ≤ (ds.map fun d => d.loss.hi)[k]?.getD 0 := getD_nonneg (fun x hx => by obtain ⟨a, b, c⟩ := hd x hx; omega)
  refine ⟨lack_fails hs nM nL nN pd ds.length hpf hlt h, ?_⟩
  have eN := get_map (f := fun d => d.need.hi) hp
  have eM := get_map (f := fun d => d.make.lo) hp
  have eL := get_map (f := fun d => d.loss.hi) hp
  have m0 := nM pd
  unfold worstLack lackR at *
  cases h1 : lackS store pf (ds.map fun d => d.need.hi) (ds.map fun d => d.make.lo) (ds.map fun d => d.loss.hi) pf.toNat stock (pd - pf.toNat) with
  | none => rw [h1] at h; cases h
  | some left =>
    rw [h1] at h
    simp only [decide_eq_true_eq] at h ⊢
    have hq : ∀ d', lackS store pf ((ds.set pd d').map fun d => d.need.hi) ((ds.set pd d').map fun d => d.make.lo) ((ds.set pd d').map fun d => d.loss.hi) pf.toNat stock (pd - pf.toNat) = some left := fun d' => by
      rw [← h1]
      refine lackS_congr _ _ _ (fun k hk => ?_)
      have : k ≠ pd := by omega
      rw [set_getD hlt, set_getD hlt, set_getD hlt, if_neg this, if_neg this, if_neg this]
      exact ⟨rfl, rfl, rfl⟩
    have hat : 0 ≤ atMostL store pf (ds.map fun d => d.make.lo) (ds.map fun d => d.loss.hi) pd left := by
      unfold atMostL
      split
      · omega
      · split <;> omega
    refine ⟨⟨by omega, by omega⟩, fun lo => ?_, fun hlt' => ?_⟩
    · rw [hq]
      simp only [decide_eq_false_iff_not]
      unfold atMostL at *
      rw [set_getD hlt, set_getD hlt, set_getD hlt, if_pos rfl, if_pos rfl, if_pos rfl]
      simp only
      rw [eN, eM, eL] at *
      split <;> omega
    · rw [hq]
      simp only [decide_eq_false_iff_not]
      unfold atMostL at *
      rw [set_getD hlt, set_getD hlt, set_getD hlt, if_pos rfl, if_pos rfl, if_pos rfl]
      simp only
      rw [eN, eM, eL] at *
      rw [if_neg (by omega)] at *
      split <;> omega

/-- A day that is no worse. -/
def MoreDay (d d' : Dy) : Prop := (d.need.lo ≤ d'.need.hi ∧ d'.need.hi ≤ d.need.hi) ∧ (d.make.lo ≤ d'.make.lo ∧ d'.make.lo ≤ d.make.hi) ∧ (d.loss.lo ≤ d'.loss.hi ∧ d'.loss.hi ≤ d.loss.hi) ∧ d'.need.lo = d.need.lo ∧ d'.make.hi = d.make.hi ∧ d'.loss.lo = d.loss.lo
/-- Days that are no worse, from the first to the k-th; the others are the same. -/
def MoreDays (ds ds' : List Dy) : Prop := ds'.length = ds.length ∧ ∀ (k : Nat) (d d' : Dy), ds[k]? = some d → ds'[k]? = some d' → MoreDay d d'

theorem worst_less {st S st' S' : Int} {ds ds' : List Dy} (hd : ∀ d ∈ ds, SmallDay d) (hm : MoreDays ds ds') (h1 : st ≤ st') (h2 : S ≤ S') (h3 : 0 ≤ st ∧ st ≤ S) (h4 : st' ≤ S') : Less S S' (worstL st S ds) (worstL st' S' ds') := by
  unfold worstL
  rw [hm.1]
  refine playL_less h1 h2 h3 h4 (fun k => ?_) (fun k => ?_) (fun k => ?_) ds.length
  all_goals
    rw [map_getD, map_getD]
    cases h : ds[k]? with
    | none =>
      have : ds'[k]? = none := by
        rw [List.getElem?_eq_none_iff] at h ⊢
        have := hm.1
        omega
      rw [this]
      exact ⟨Int.le_refl _, Int.le_refl _⟩
    | some d =>
      have hk : k < ds'.length := by
        rcases Nat.lt_or_ge k ds.length with hh | hh
        · have := hm.1; omega
        · rw [List.getElem?_eq_none hh] at h; cases h
      have e := List.getElem?_eq_getElem hk
      rw [e]
      have := hm.2 k d _ h e
      obtain ⟨⟨a1, a2, a3⟩, ⟨b1, b2, b3⟩, c1, c2, c3⟩ := hd d (List.mem_of_getElem? h)
      obtain ⟨x1, x2, x3, _⟩ := this
      constructor <;> dsimp only <;> omega

theorem more_ok {st S st' S' : Int} {ds ds' : List Dy} (hd : ∀ d ∈ ds, SmallDay d) (hm : MoreDays ds ds') (h1 : st ≤ st') (h2 : S ≤ S') (h3 : 0 ≤ st ∧ st ≤ S) (h4 : st' ≤ S') (h : okB st S ds = true) : okB st' S' ds' = true := by
  unfold okB at *
  rw [beq_iff_eq] at *
  exact ((worst_less hd hm h1 h2 h3 h4).run h).1
end Go.Proofs.Ytpkegiekpnaejaa

namespace Go.Proofs.Ytpkegiekpnaejaa
open Go.RowKit Go.Shelf
attribute [local go_sem] Oper.semAt_some

/-- What First hands back for a valid winter. -/
def FirstOr (stock store : Int) (ds : List Dy) (x e : Int) : Prop := (e = 6 ∧ x = 0 ∧ okB stock store ds = true) ∨ (e = 0 ∧ x = (worstL stock store ds).fails ∧ okB stock store ds = false)
theorem first_or {stock store : Int} {ds : List Dy} (hw : winE stock store ds = 0) : FirstOr stock store ds (failR stock store ds).1 (failR stock store ds).2.2 := by
  unfold failR FirstOr okB
  rw [if_pos hw]
  by_cases h : (worstL stock store ds).fails = -1
  · rw [if_pos h]; exact .inl ⟨rfl, rfl, by rw [h]; rfl⟩
  · rw [if_neg h]; exact .inr ⟨rfl, rfl, by simp [h]⟩

theorem KW.apart {w W W' : World} {B Bd : Nat} {stock store : Int} {ad : Option Addr} {ds : List Dy} {cp : Nat} (h : KW w W B stock store ad ds cp) (ha : Apart (fun j => j = Bd) W W') (h1 : w.heap.size ≤ Bd) (h2 : B < Bd) (h3 : ∀ p, ad = some p → p.block < Bd) : KW w W' B stock store ad ds cp := by
  refine ⟨below_apart h.1 ha (fun j hj => by omega), (ha.block B (lt_of_block h.2.1) (by omega)).trans h.2.1, fun h0 => ?_⟩
  obtain ⟨b, off, rfl, hb, hc⟩ := h.2.2 h0
  have hlt := h3 _ rfl
  have hlt' : b < Bd := hlt
  exact ⟨b, off, rfl, Nat.lt_of_lt_of_le hb ha.size, fun j x i u hx hu => (World.cell?_of_block (w := W) (a := ⟨b, off + j * 6 + i, none⟩) (ha.block b hb (by omega))).trans (hc j x i u hx hu)⟩

/-- The memory of CourseMore: a winter in box Bw, a deck in block Bd, a richer winter in box Br with its days in block g. -/
structure MR (w W : World) (Bw Br Bd g : Nat) (stock store stock' store' : Int) (ad : Option Addr) (ds : List Dy) (cp : Nat) (ds' : List Dy) (cp' : Nat) (a : Option Addr) (n cap k : Nat) : Prop where
  kw : KW w W Bw stock store ad ds cp
  rb : W.heap[Br]? = some (.cells #[.int .i64 stock', .int .i64 store', .slice (some ⟨g, 0, none⟩) ds'.length cp'] 60 (0, 0))
  dk : Deck W Bd (Bd + 1) a n cap k
  dy : DaysIn W (Bd + 1) g cp' ds'
  o1 : w.heap.size ≤ Bd
  o2 : Bw < Bd
  o3 : g < Br
  far : ∀ p, ad = some p → p.block < Bd

section
variable {w W W' : World} {Bw Br Bd g : Nat} {stock store stock' store' : Int} {ad : Option Addr} {ds : List Dy} {cp : Nat} {ds' : List Dy} {cp' : Nat} {a : Option Addr} {n cap k k' : Nat}
theorem MR.og (h : MR w W Bw Br Bd g stock store stock' store' ad ds cp ds' cp' a n cap k) : Bd < g := h.dy.1
theorem MR.below (h : MR w W Bw Br Bd g stock store stock' store' ad ds cp ds' cp' a n cap k) (hb : Below W.heap.size W W') : MR w W' Bw Br Bd g stock store stock' store' ad ds cp ds' cp' a n cap k :=
  ⟨h.kw.below hb, blk_below h.rb hb, h.dk.below hb, h.dy.below hb, h.o1, h.o2, h.o3, h.far⟩
theorem MR.draw (h : MR w W Bw Br Bd g stock store stock' store' ad ds cp ds' cp' a n cap k) (ha : Apart (fun j => j = Bd) W W') (hd : Deck W' Bd (Bd + 1) a n cap k') : MR w W' Bw Br Bd g stock store stock' store' ad ds cp ds' cp' a n cap k' := by
  have hg := h.og
  have hr := h.o3
  exact ⟨h.kw.apart ha h.o1 h.o2 h.far, (ha.block Br (lt_of_block h.rb) (by omega)).trans h.rb, hd, h.dy.keep (ha.block g h.dy.lt (by omega)), h.o1, h.o2, h.o3, h.far⟩
theorem MR.other (h : MR w W Bw Br Bd g stock store stock' store' ad ds cp ds' cp' a n cap k) (B j : Nat) (u : Value) (hB : Bd < B) : KW w (W.setCell ⟨B, j, none⟩ u) Bw stock store ad ds cp ∧ Deck (W.setCell ⟨B, j, none⟩ u) Bd (Bd + 1) a n cap k := by
  have ha : Apart (fun i => i = B) W (W.setCell ⟨B, j, none⟩ u) := Apart.setCell (own := fun i => i = B) W (p := ⟨B, j, none⟩) rfl u
  have h1 := h.o1
  have h2 := h.o2
  refine ⟨h.kw.apart ha (by omega) (by omega) (fun p hp => by have := h.far p hp; omega), h.dk.keep (by rw [World.size_setCell]; exact Nat.le_refl _) (fun i hi => Below.heap_setCell _ _ _ _ (by show i ≠ B; omega))⟩
theorem MR.setStock (h : MR w W Bw Br Bd g stock store stock' store' ad ds cp ds' cp' a n cap k) (x : Int) : MR w (W.setCell ⟨Br, 0, none⟩ (.int .i64 x)) Bw Br Bd g stock store x store' ad ds cp ds' cp' a n cap k := by
  have hg := h.og
  have hr := h.o3
  obtain ⟨h1, h2⟩ := h.other Br 0 (.int .i64 x) (by omega)
  exact ⟨h1, blk_setCell (j := 0) h.rb, h2, h.dy.keep (Below.heap_setCell _ _ _ _ (by show g ≠ Br; omega)), h.o1, h.o2, h.o3, h.far⟩
theorem MR.setStore (h : MR w W Bw Br Bd g stock store stock' store' ad ds cp ds' cp' a n cap k) (x : Int) : MR w (W.setCell ⟨Br, 1, none⟩ (.int .i64 x)) Bw Br Bd g stock store stock' x ad ds cp ds' cp' a n cap k := by
  have hg := h.og
  have hr := h.o3
  obtain ⟨h1, h2⟩ := h.other Br 1 (.int .i64 x) (by omega)
  exact ⟨h1, blk_setCell (j := 1) h.rb, h2, h.dy.keep (Below.heap_setCell _ _ _ _ (by show g ≠ Br; omega)), h.o1, h.o2, h.o3, h.far⟩
theorem MR.setDay (h : MR w W Bw Br Bd g stock store stock' store' ad ds cp ds' cp' a n cap k) (j : Nat) (d d' : Dy) (i : Nat) (x : Int) (hj : ds'[j]? = some d) (hi : i < 6) (hd : (Dy.cells d).set i x = Dy.cells d') :
    MR w (W.setCell ⟨g, j * 6 + i, none⟩ (.int .i64 x)) Bw Br Bd g stock store stock' store' ad ds cp (ds'.set j d') cp' a n cap k := by
  have hg := h.og
  have hr := h.o3
  obtain ⟨h1, h2⟩ := h.other g (j * 6 + i) (.int .i64 x) (by omega)
  refine ⟨h1, ?_, h2, h.dy.put j d d' i x hj hi hd, h.o1, h.o2, h.o3, h.far⟩
  rw [List.length_set]
  exact (Below.heap_setCell _ _ _ _ (by show Br ≠ g; omega)).trans h.rb
end

theorem least_mono {lo hi hi' : Int} {q q' : Int → Bool} {N E N' E' : Int} (h : LeastOr lo hi q N E) (h' : LeastOr lo hi' q' N' E') (hh : hi ≤ hi') (hq : ∀ v, lo ≤ v → v ≤ hi → q v = true → q' v = true) :
    (E = 0 ∧ E' = 0 ∧ lo ≤ N ∧ N ≤ hi ∧ lo ≤ N' ∧ N' ≤ N) ∨ (E = 6 ∧ (E' = 0 ∨ E' = 6)) := by
  rcases h with ⟨rfl, h1, h2, h3⟩ | ⟨rfl, rfl, h3⟩
  · have hN := hq N h1.1 h1.2 h2
    left
    rcases h' with ⟨rfl, k1, k2, k3⟩ | ⟨rfl, rfl, k3⟩
    · refine ⟨rfl, rfl, h1.1, h1.2, k1.1, ?_⟩
      rcases Int.lt_or_le N N' with hlt | hle
      · rw [k3 N h1.1 hlt] at hN; cases hN
      · exact hle
    · rw [k3 N h1.1 (by omega)] at hN; cases hN
  · right
    rcases h' with ⟨rfl, _⟩ | ⟨rfl, _⟩
    · exact ⟨rfl, .inl rfl⟩
    · exact ⟨rfl, .inr rfl⟩

/-- Richer days that are still small. -/
def Rich (ds ds' : List Dy) : Prop := MoreDays ds ds' ∧ ∀ d ∈ ds', SmallDay d
theorem rich_refl {ds : List Dy} (h : ∀ d ∈ ds, SmallDay d) : Rich ds ds := by
  refine ⟨⟨rfl, fun k d d' h1 h2 => ?_⟩, h⟩
  rw [h1] at h2
  cases h2
  obtain ⟨⟨a1, a2, a3⟩, ⟨b1, b2, b3⟩, c1, c2, c3⟩ := h d (List.mem_of_getElem? h1)
  unfold MoreDay
  omega
theorem rich_set {ds ds' : List Dy} (h : Rich ds ds') (j : Nat) (d' e : Dy) (hj : ds'[j]? = some d') (hs : SmallDay e)
    (hn : d'.need.lo ≤ e.need.hi ∧ e.need.hi ≤ d'.need.hi) (hm : d'.make.lo ≤ e.make.lo ∧ e.make.lo ≤ d'.make.hi) (hl : d'.loss.lo ≤ e.loss.hi ∧ e.loss.hi ≤ d'.loss.hi) (he : e.need.lo = d'.need.lo ∧ e.make.hi = d'.make.hi ∧ e.loss.lo = d'.loss.lo) : Rich ds (ds'.set j e) := by
  refine ⟨⟨by rw [List.length_set]; exact h.1.1, fun k d x h1 h2 => ?_⟩, fun x hx => ?_⟩
  · rw [List.getElem?_set] at h2
    split at h2
    · rename_i hjk
      subst hjk
      split at h2
      · cases h2
        have := h.1.2 j d d' h1 hj
        unfold MoreDay at *
        omega
      · cases h2
    · exact h.1.2 k d x h1 h2
  · rcases List.mem_or_eq_of_mem_set hx with h1 | rfl
    · exact h.2 x h1
    · exact hs
end Go.Proofs.Ytpkegiekpnaejaa

namespace Go.Proofs.Ytpkegiekpnaejaa
open Go.RowKit Go.Shelf

/-- A weather of some days. -/
def Sky (ds : List Dy) (N M L : List Int) : Prop :=
  (N.length = ds.length ∧ M.length = ds.length ∧ L.length = ds.length) ∧
  ∀ (k : Nat) (d : Dy), ds[k]? = some d → (d.need.lo ≤ N[k]?.getD 0 ∧ N[k]?.getD 0 ≤ d.need.hi) ∧ (d.make.lo ≤ M[k]?.getD 0 ∧ M[k]?.getD 0 ≤ d.make.hi) ∧ (d.loss.lo ≤ L[k]?.getD 0 ∧ L[k]?.getD 0 ≤ d.loss.hi)

theorem getD_none {xs : List Int} {k : Nat} (h : xs.length ≤ k) : xs[k]?.getD 0 = 0 := by
  rw [List.getElem?_eq_none h]; rfl

theorem Sky.bd {ds : List Dy} {N M L : List Int} (h : Sky ds N M L) (hd : ∀ d ∈ ds, DayOk d) : (∀ x ∈ N, 0 ≤ x ∧ x ≤ 100000) ∧ (∀ x ∈ M, 0 ≤ x ∧ x ≤ 100000) ∧ (∀ x ∈ L, 0 ≤ x ∧ x ≤ 100000) := by
  obtain ⟨⟨l1, l2, l3⟩, h⟩ := h
  refine ⟨fun x hx => ?_, fun x hx => ?_, fun x hx => ?_⟩
  all_goals
    obtain ⟨k, hk, rfl⟩ := List.mem_iff_getElem.1 hx
    have hk' : k < ds.length := by omega
    have e := List.getElem?_eq_getElem hk'
    obtain ⟨⟨a1, a2⟩, ⟨b1, b2⟩, c1, c2⟩ := h k _ e
    obtain ⟨⟨x1, x2, x3⟩, ⟨y1, y2, y3⟩, z1, z2, z3⟩ := hd _ (List.getElem_mem hk')
    rw [List.getElem?_eq_getElem (by omega)] at a1 a2 b1 b2 c1 c2
    simp only [Option.getD_some] at a1 a2 b1 b2 c1 c2
    omega

theorem sky_less {stock store : Int} {ds : List Dy} {N M L : List Int} (h : Sky ds N M L) (hd : ∀ d ∈ ds, DayOk d) (hst : 0 ≤ stock ∧ stock ≤ store) :
    Less store store (worstL stock store ds) (playL stock store N M L ds.length) ∧ Less store store (playL stock store N M L ds.length) (bestL stock store ds) := by
  obtain ⟨⟨l1, l2, l3⟩, h⟩ := h
  refine ⟨playL_less (Int.le_refl _) (Int.le_refl _) hst hst.2 (fun k => ?_) (fun k => ?_) (fun k => ?_) ds.length, playL_less (Int.le_refl _) (Int.le_refl _) hst hst.2 (fun k => ?_) (fun k => ?_) (fun k => ?_) ds.length⟩
  all_goals
    rw [map_getD]
    cases e : ds[k]? with
    | none =>
      have hk : ds.length ≤ k := List.getElem?_eq_none_iff.1 e
      first
        | (rw [getD_none (xs := N) (by omega)]; exact ⟨Int.le_refl _, Int.le_refl _⟩)
        | (rw [getD_none (xs := M) (by omega)]; exact ⟨Int.le_refl _, Int.le_refl _⟩)
        | (rw [getD_none (xs := L) (by omega)]; exact ⟨Int.le_refl _, Int.le_refl _⟩)
    | some d =>
      obtain ⟨⟨a1, a2⟩, ⟨b1, b2⟩, c1, c2⟩ := h k d e
      obtain ⟨⟨x1, x2, x3⟩, ⟨y1, y2, y3⟩, z1, z2, z3⟩ := hd _ (List.mem_of_getElem? e)
      constructor <;> omega

/-- What a proof from the last day on which the store was full reckons is what happens. -/
theorem why_inv (stock store : Int) (N M L : List Int) (k : Nat) (hf : (playL stock store N M L k).fails = -1) :
    (-1 ≤ (playL stock store N M L k).full ∧ (playL stock store N M L k).full < k) ∧
    lackS store (playL stock store N M L k).full N M L (playL stock store N M L k).full.toNat stock (k - (playL stock store N M L k).full.toNat) = some (playL stock store N M L k).stock := by
  induction k with
  | zero => exact ⟨⟨Int.le_refl _, by show (-1 : Int) < 0; omega⟩, rfl⟩
  | succ k ih =>
    rw [playL_succ] at hf ⊢
    generalize playL stock store N M L k = a at ih hf ⊢
    by_cases hfa : a.fails = -1
    · obtain ⟨⟨i1, i2⟩, i3⟩ := ih hfa
      rw [stepP, if_pos hfa] at hf ⊢
      split at hf
      · have : (k : Int) = -1 := hf
        omega
      · rename_i hc
        rw [if_neg hc]
        by_cases hm : madeD store a.stock (M[k]?.getD 0) (L[k]?.getD 0) < M[k]?.getD 0
        · simp only [if_pos hm]
          refine ⟨⟨by omega, by omega⟩, ?_⟩
          rw [Int.toNat_natCast, show k + 1 - k = 0 + 1 by omega, lackS, lackS]
          simp only [Option.bind_some, Nat.add_zero]
          have e : atMostL store k M L k stock = store := by unfold atMostL; rw [if_pos rfl]
          rw [e, if_neg (by unfold madeD lostD at *; omega)]
          congr 1
          unfold madeD lostD at *; omega
        · simp only [if_neg hm]
          refine ⟨⟨i1, by omega⟩, ?_⟩
          rw [show k + 1 - a.full.toNat = (k - a.full.toNat) + 1 by omega, lackS, i3]
          simp only [Option.bind_some]
          rw [show a.full.toNat + (k - a.full.toNat) = k by omega]
          have e : atMostL store a.full M L k a.stock = a.stock + (madeD store a.stock (M[k]?.getD 0) (L[k]?.getD 0) - lostD a.stock (L[k]?.getD 0)) := by
            unfold atMostL
            rw [if_neg (by omega)]
            unfold madeD lostD at *
            split <;> omega
          rw [e, if_neg (by omega)]
    · rw [stepP, if_neg hfa] at hf; exact absurd hf hfa

theorem why_lack (stock store : Int) (N M L : List Int) (n : Nat) (hf : (playL stock store N M L n).fails ≠ -1) :
    (-1 ≤ (playL stock store N M L n).full ∧ (playL stock store N M L n).full ≤ (playL stock store N M L n).fails) ∧
    (lackR stock store (playL stock store N M L n).full N M L (playL stock store N M L n).fails.toNat).2 = true := by
  induction n with
  | zero => exact absurd rfl hf
  | succ k ih =>
    rw [playL_succ] at hf ⊢
    have hw := why_inv stock store N M L k
    generalize playL stock store N M L k = a at ih hf hw ⊢
    by_cases hfa : a.fails = -1
    · obtain ⟨⟨i1, i2⟩, i3⟩ := hw hfa
      rw [stepP, if_pos hfa] at hf ⊢
      split at hf
      · rename_i hc
        rw [if_pos hc]
        by_cases hm : madeD store a.stock (M[k]?.getD 0) (L[k]?.getD 0) < M[k]?.getD 0
        · simp only [if_pos hm]
          refine ⟨⟨by omega, Int.le_refl _⟩, ?_⟩
          unfold lackR
          rw [Int.toNat_natCast, show k - k = 0 by omega, lackS]
          have e : atMostL store k M L k stock = store := by unfold atMostL; rw [if_pos rfl]
          simp only [e, decide_eq_true_eq]
          unfold madeD lostD at *; omega
        · simp only [if_neg hm]
          refine ⟨⟨i1, by show a.full ≤ (k : Int); omega⟩, ?_⟩
          unfold lackR
          rw [Int.toNat_natCast, i3]
          have e : atMostL store a.full M L k a.stock = a.stock + (madeD store a.stock (M[k]?.getD 0) (L[k]?.getD 0) - lostD a.stock (L[k]?.getD 0)) := by
            unfold atMostL
            rw [if_neg (by omega)]
            unfold madeD lostD at *
            split <;> omega
          simp only [e, decide_eq_true_eq]
          omega
      · rename_i hc
        exact absurd rfl hf
    · rw [stepP, if_neg hfa]
      exact ih hfa

/-- Behind a day that has not failed. -/
theorem play_later (stock store : Int) (N M L : List Int) (i n : Nat) (hi : i ≤ n) (hf : (playL stock store N M L i).fails = -1) :
    (playL stock store N M L n).fails = -1 ∨ (i : Int) ≤ (playL stock store N M L n).fails := by
  rcases play_len stock store N M L n with ⟨h, _⟩ | ⟨d, h, h2, _, h3⟩
  · exact .inl h
  · right
    rcases Nat.lt_or_ge d i with hlt | hge
    · exfalso
      induction n with
      | zero => omega
      | succ n ih =>
        by_cases hn : i = n + 1
        · subst hn; rw [h] at hf; omega
        · rw [playL_succ] at h h2
          have hq := play_len stock store N M L n
          generalize playL stock store N M L n = a at ih hq h h2
          by_cases hfa : a.fails = -1
          · rw [stepP, if_pos hfa] at h
            split at h
            · have : (n : Int) = d := h
              omega
            · have : (-1 : Int) = d := h
              omega
          · rw [stepP, if_neg hfa] at h h2
            rcases hq with ⟨q, _⟩ | ⟨d', q, _, _, q'⟩
            · omega
            · exact ih (by omega) h h2 (by omega) (by omega)
    · omega

theorem play_told (stock store : Int) (N M L : List Int) (i n : Nat) (hi : i + 1 ≤ n) (hf : (playL stock store N M L (i + 1)).fails = -1) :
    i < (playL stock store N M L n).stocks.length ∧ (playL stock store N M L n).stocks[i]?.getD 0 = (playL stock store N M L (i + 1)).stock := by
  induction n with
  | zero => omega
  | succ n ih =>
    by_cases hn : n = i
    · subst hn
      have hl := play_len stock store N M L n
      rw [playL_succ] at hf ⊢
      generalize playL stock store N M L n = a at hf hl ⊢
      by_cases hfa : a.fails = -1
      · have hl' : a.stocks.length = n := by rcases hl with h | ⟨d, h, _⟩ <;> omega
        rw [stepP, if_pos hfa] at hf ⊢
        split at hf
        · have : (n : Int) = -1 := hf
          omega
        · rename_i hc
          rw [if_neg hc]
          refine ⟨by show n < (a.stocks ++ _).length; simp; omega, ?_⟩
          show (a.stocks ++ _)[n]?.getD 0 = _
          rw [getD_snoc, if_neg (by omega), if_pos hl'.symm]
      · rw [stepP, if_neg hfa] at hf; exact absurd hf hfa
    · obtain ⟨h1, h2⟩ := ih (by omega)
      rw [playL_succ, ← h2]
      generalize playL stock store N M L n = a at h1 ⊢
      rw [stepP]
      split
      · split
        · exact ⟨h1, rfl⟩
        · refine ⟨by show i < (a.stocks ++ _).length; simp; omega, ?_⟩
          show (a.stocks ++ _)[i]?.getD 0 = _
          rw [getD_snoc, if_pos h1]
      · exact ⟨h1, rfl⟩

/-- The stock before a day that is told of. -/
theorem play_stock {stock store : Int} {N M L : List Int} (hs : 0 ≤ stock ∧ stock ≤ store) (hM : ∀ k : Nat, 0 ≤ M[k]?.getD 0) (hL : ∀ k : Nat, 0 ≤ L[k]?.getD 0) (hN : ∀ k : Nat, 0 ≤ N[k]?.getD 0) (k : Nat) (hf : (playL stock store N M L k).fails = -1) :
    0 ≤ (playL stock store N M L k).stock ∧ (playL stock store N M L k).stock ≤ store := by
  have h := (playL_less (Int.le_refl stock) (Int.le_refl store) hs hs.2 (fun k => ⟨hM k, Int.le_refl _⟩) (fun k => ⟨hL k, Int.le_refl _⟩) (fun k => ⟨hN k, Int.le_refl _⟩) k).run hf
  exact ⟨h.2.2.1, h.2.2.2.1⟩

/-- One day on which less is made. -/
theorem lazy_step {stock store : Int} {N M L : List Int} (hs : 0 ≤ stock ∧ stock ≤ store) (hM : ∀ k : Nat, 0 ≤ M[k]?.getD 0) (hL : ∀ k : Nat, 0 ≤ L[k]?.getD 0) (hN : ∀ k : Nat, 0 ≤ N[k]?.getD 0) (k : Nat) (hf : (playL stock store N M L k).fails = -1)
    (x r : Int) (hx : 0 ≤ x ∧ x ≤ (playL stock store N M L k).stock) (hr : 0 ≤ r ∧ r ≤ M[k]?.getD 0) (y : Int) (hy : y = max 0 (x - L[k]?.getD 0) + min (store - max 0 (x - L[k]?.getD 0)) r - N[k]?.getD 0) (hy0 : 0 ≤ y) :
    (playL stock store N M L (k + 1)).fails = -1 ∧ y ≤ (playL stock store N M L (k + 1)).stock := by
  have hb := play_stock hs hM hL hN k hf
  have m := hM k
  have l := hL k
  have n := hN k
  rw [playL_succ]
  generalize playL stock store N M L k = a at hf hx hb ⊢
  rw [stepP, if_pos hf, if_neg (by unfold madeD lostD; omega)]
  refine ⟨rfl, ?_⟩
  show y ≤ _ - _
  unfold madeD lostD
  omega
end Go.Proofs.Ytpkegiekpnaejaa

namespace Go.Proofs.Ytpkegiekpnaejaa
open Go.RowKit Go.Shelf
attribute [local go_sem] Oper.semAt_some

set_option maxHeartbeats 1000000 in
theorem between_more (B L : Nat) (a : Option Addr) (n cap k : Nat) (lo hi : Int) (w : World) (hd : Deck w B L a n cap k) (hk : k ≤ 1000000) (hl : -1 ≤ lo ∧ lo ≤ hi ∧ hi ≤ 1000000) :
    Calls Try.prog 53 #[.pointer (some ⟨B, 0, none⟩), .int .i64 lo, .int .i64 hi] w fun e w' => (∃ r : Int, e = .returned (.int .i64 r) ∧ lo ≤ r ∧ r ≤ hi) ∧ Deck w' B L a n cap (k + 1) ∧ Apart (fun j => j = B) w w' := by
  have w1 : IntKind.i64.wrap (hi - lo) = hi - lo := IntWalk.i64_in _ (by omega)
  have w2 : IntKind.i64.wrap (hi - lo + 1) = hi - lo + 1 := IntWalk.i64_in _ (by omega)
  have HC := Lib.hid (draw_any B L a n cap k (hi - lo + 1) w hd hk (by omega))
  clear hd
  go_enter Try.func53, Try.ntmps53
  go_wp2_with (fail)
  refine HC.out.mono ?_
  rintro e w' ⟨⟨r, rfl, hr0, hr1⟩, hD, hA⟩
  have HD := Lib.hid (And.intro hD hA)
  clear hD hA
  have w3 : IntKind.i64.wrap (lo + r) = lo + r := IntWalk.i64_in _ (by omega)
  go_wp2
  go_ret
  exact ⟨⟨lo + r, rfl, by omega, by omega⟩, HD.out⟩

/-- The memory of a law: a winter in box Bw, a deck in block Bd. -/
structure MP (w W : World) (Bw Bd : Nat) (stock store : Int) (ad : Option Addr) (ds : List Dy) (cp : Nat) (a : Option Addr) (n cap k : Nat) : Prop where
  kw : KW w W Bw stock store ad ds cp
  dk : Deck W Bd (Bd + 1) a n cap k
  o1 : w.heap.size ≤ Bd
  o2 : Bw < Bd
  far : ∀ p, ad = some p → p.block < Bd

section
variable {w W W' : World} {Bw Bd : Nat} {stock store : Int} {ad : Option Addr} {ds : List Dy} {cp : Nat} {a : Option Addr} {n cap k k' : Nat}
theorem MP.below (h : MP w W Bw Bd stock store ad ds cp a n cap k) (hb : Below W.heap.size W W') : MP w W' Bw Bd stock store ad ds cp a n cap k :=
  ⟨h.kw.below hb, h.dk.below hb, h.o1, h.o2, h.far⟩
theorem MP.mono (h : MP w W Bw Bd stock store ad ds cp a n cap k) (hk : k ≤ k') : MP w W Bw Bd stock store ad ds cp a n cap k' :=
  ⟨h.kw, h.dk.mono hk, h.o1, h.o2, h.far⟩
theorem MP.draw (h : MP w W Bw Bd stock store ad ds cp a n cap k) (ha : Apart (fun j => j = Bd) W W') (hd : Deck W' Bd (Bd + 1) a n cap k') : MP w W' Bw Bd stock store ad ds cp a n cap k' :=
  ⟨h.kw.apart ha h.o1 h.o2 h.far, hd, h.o1, h.o2, h.far⟩
theorem MR.mp {Br g : Nat} {stock' store' : Int} {ds' : List Dy} {cp' : Nat} (h : MR w W Bw Br Bd g stock store stock' store' ad ds cp ds' cp' a n cap k) : MP w W Bw Bd stock store ad ds cp a n cap k :=
  ⟨h.kw, h.dk, h.o1, h.o2, h.far⟩
/-- A winter that was copied, in a box of its own. -/
theorem MP.rich {w2 : World} {g cp' : Nat} (h : MP w W Bw Bd stock store ad ds cp a n cap k) (hd : DaysIn w2 W.heap.size g cp' ds) (hb : Below W.heap.size W w2) :
    MR w (w2.alloc (.cells #[.int .i64 stock, .int .i64 store, .slice (some ⟨g, 0, none⟩) ds.length cp'] 60)) Bw w2.heap.size Bd g stock store stock store ad ds cp ds cp' a n cap k := by
  have k1 := (h.below hb).below (alloc1 w2 (.cells #[.int .i64 stock, .int .i64 store, .slice (some ⟨g, 0, none⟩) ds.length cp'] 60))
  refine ⟨k1.kw, heap_alloc_new _ _, k1.dk, ?_, h.o1, h.o2, hd.lt, h.far⟩
  have h2 := hd.below (alloc1 w2 (.cells #[.int .i64 stock, .int .i64 store, .slice (some ⟨g, 0, none⟩) ds.length cp'] 60))
  have h3 := h.dk.lt.2
  exact ⟨by have := h2.1; omega, owns_mono h2.2 h3⟩
end
end Go.Proofs.Ytpkegiekpnaejaa
