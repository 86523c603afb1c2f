/-
  What Made of the wind's laws is proved by (no function of the program).
  What is proved: the range that it deals is valid, within its bounds; only the deck has turned of what was there before.
  Conditions: at most 5 states, 6 clicks, 5 weights a side; a deck that has dealt at most 500 times.
-/
import Derived.Test.YtiggelffmfinoaaMA
import Derived.Deep.CutBlock
namespace Go.Proofs.Ytiggelffmfinoaa
open Go.RowKit Go.Shelf
attribute [local go_sem] Oper.semAt_some

abbrev Z8 : Array Value := #[.int .i64 0, .int .i64 0, .int .i64 0, .int .i64 0, .slice none 0 0, .slice none 0 0, .slice none 0 0, .slice none 0 0]
theorem LG.off {w W : World} {B L n cap k bx : Nat} {a : Option Addr} {z c : Array Value} {vg vd : Value} {xs ds : List Int} (h : LG (w.heap.size + 1) vg vd xs ds W) (m : MD w B L a n cap k bx z c W) : (∀ i, vg.ownBlock = some i → w.heap.size < i ∧ i ≠ bx) ∧ (∀ i, vd.ownBlock = some i → w.heap.size < i ∧ i ≠ bx) := by
  refine ⟨fun i hi => ?_, fun i hi => ?_⟩
  · obtain ⟨h1, _, c2, h2⟩ := own_cells h.g hi
    exact ⟨h1, fun he => by rw [he, m.box] at h2; cases h2⟩
  · obtain ⟨h1, _, c2, h2⟩ := own_cells h.d hi
    exact ⟨h1, fun he => by rw [he, m.box] at h2; cases h2⟩
theorem LG.put {w W : World} {B L n cap k bx : Nat} {a : Option Addr} {z c : Array Value} {vg vd : Value} {xs ds : List Int} (h : LG (w.heap.size + 1) vg vd xs ds W) (m : MD w B L a n cap k bx z c W) (j : Nat) (u : Value) : LG (w.heap.size + 1) vg vd xs ds (W.setCell ⟨bx, j, none⟩ u) :=
  h.keep (fun i _ _ ⟨c2, hc⟩ => Below.heap_setCell _ _ _ _ (fun he => by have he : i = bx := he; rw [he, m.box] at hc; cases hc))
theorem LG.draw {w W W' : World} {B L n cap k bx : Nat} {a : Option Addr} {z c : Array Value} {vg vd : Value} {xs ds : List Int} (h : LG (w.heap.size + 1) vg vd xs ds W) (m : MD w B L a n cap k bx z c W) (hA : Apart (fun j => j = B) W W') : LG (w.heap.size + 1) vg vd xs ds W' :=
  h.keep (fun i h1 h2 _ => hA.block i h2 (by have := m.deck.lt; have := m.le; show ¬ (_ = _); omega))
theorem LH.off {w W : World} {B L n cap k bx gf : Nat} {a : Option Addr} {z c : Array Value} {fs : List Int} {vn : Value} {RR : List Rw} (h : LH (w.heap.size + 1) gf fs vn RR W) (m : MD w B L a n cap k bx z c W) : ∀ i, vn.ownBlock = some i → w.heap.size < i ∧ i ≠ bx := fun i hi => by
  obtain ⟨h1, _, c2, h2⟩ := own_cells h.av hi
  exact ⟨h1, fun he => by rw [he, m.box] at h2; cases h2⟩
theorem LH.put {w W : World} {B L n cap k bx gf : Nat} {a : Option Addr} {z c : Array Value} {fs : List Int} {vn : Value} {RR : List Rw} (h : LH (w.heap.size + 1) gf fs vn RR W) (m : MD w B L a n cap k bx z c W) (j : Nat) (u : Value) : LH (w.heap.size + 1) gf fs vn RR (W.setCell ⟨bx, j, none⟩ u) :=
  h.keep (fun i _ _ ⟨c2, hc⟩ => Below.heap_setCell _ _ _ _ (fun he => by have he : i = bx := he; rw [he, m.box] at hc; rcases hc with hc | hc <;> cases hc))
theorem LH.draw {w W W' : World} {B L n cap k bx gf : Nat} {a : Option Addr} {z c : Array Value} {fs : List Int} {vn : Value} {RR : List Rw} (h : LH (w.heap.size + 1) gf fs vn RR W) (m : MD w B L a n cap k bx z c W) (hA : Apart (fun j => j = B) W W') : LH (w.heap.size + 1) gf fs vn RR W' :=
  h.keep (fun i h1 h2 _ => hA.block i h2 (by have := m.deck.lt; have := m.le; show ¬ (_ = _); omega))
theorem own_slice {W : World} {base e s n : Nat} {v : Value} {xs : List Value} (h : W.ownsRow base e s v n xs) (h0 : 0 < n) : ∃ g c, v = .slice (some ⟨g, 0, none⟩) n c := by
  rcases h.2 with ⟨_, h1⟩ | ⟨g, cap', cur, hv, _⟩
  · omega
  · exact ⟨g, cap', hv⟩
theorem sumI_drop (xs : List Int) (q : Nat) (x : Int) (h : ∀ y ∈ xs, 0 ≤ y) (hx : xs[q]? = some x) : x ≤ sumI xs := by
  induction xs generalizing q with
  | nil => simp at hx
  | cons y ys ih =>
    have h1 := h y (by simp)
    have h2 : 0 ≤ sumI ys := by
      have : ∀ zs : List Int, (∀ z ∈ zs, 0 ≤ z) → 0 ≤ sumI zs := by
        intro zs
        induction zs with
        | nil => intro _; simp [sumI]
        | cons z zs ih => intro hz; rw [sumI_cons]; have := ih (fun u hu => hz u (by simp [hu])); have := hz z (by simp); omega
      exact this ys (fun z hz => h z (by simp [hz]))
    rw [sumI_cons]
    cases q with
    | zero => simp at hx; omega
    | succ q =>
      have := ih q (fun z hz => h z (by simp [hz])) (by simpa using hx)
      omega
theorem ints_at {W : World} {base g m c n : Nat} {xs : List Int} (h : W.ownsRow base 3 1 (.slice (some ⟨g, 0, none⟩) m c) n (xs.map (Value.int .i64))) : IntSl W (some ⟨g, 0, none⟩) xs := by
  obtain ⟨a', c', hv, hi, _⟩ := ints_of_owns h
  simp only [Value.slice.injEq] at hv
  rw [hv.1]; exact hi
/-- What a box of eight cells holds that is written cell by cell; nothing else turns. -/
structure P8 (b : Nat) (W : World) (c : Array Value) (W' : World) : Prop where
  res : W'.heap[b]? = some (.cells c 26 (0, 0))
  oth : ∀ i, i ≠ b → W'.heap[i]? = W.heap[i]?
  sz : W'.heap.size = W.heap.size
  os : W'.os = W.os
  tape : W'.tape = W.tape
  output : W'.output = W.output
theorem P8.put {b : Nat} {W W' : World} {c : Array Value} (h : P8 b W c W') (j : Nat) (v : Value) : P8 b W (c.setIfInBounds j v) (W'.setCell ⟨b, j, none⟩ v) :=
  ⟨blk_setCell h.res, fun i hi => (Below.heap_setCell _ _ _ _ hi).trans (h.oth i hi), by rw [World.size_setCell]; exact h.sz, h.os, h.tape, h.output⟩
theorem P8.put0 {b : Nat} {W W' : World} {z0 z1 z2 z3 z4 z5 z6 z7 : Value} (h : P8 b W #[z0, z1, z2, z3, z4, z5, z6, z7] W') (v : Value) : P8 b W #[v, z1, z2, z3, z4, z5, z6, z7] (W'.setCell ⟨b, 0, none⟩ v) := h.put 0 v
theorem P8.put1 {b : Nat} {W W' : World} {z0 z1 z2 z3 z4 z5 z6 z7 : Value} (h : P8 b W #[z0, z1, z2, z3, z4, z5, z6, z7] W') (v : Value) : P8 b W #[z0, v, z2, z3, z4, z5, z6, z7] (W'.setCell ⟨b, 1, none⟩ v) := h.put 1 v
theorem P8.put2 {b : Nat} {W W' : World} {z0 z1 z2 z3 z4 z5 z6 z7 : Value} (h : P8 b W #[z0, z1, z2, z3, z4, z5, z6, z7] W') (v : Value) : P8 b W #[z0, z1, v, z3, z4, z5, z6, z7] (W'.setCell ⟨b, 2, none⟩ v) := h.put 2 v
theorem P8.put3 {b : Nat} {W W' : World} {z0 z1 z2 z3 z4 z5 z6 z7 : Value} (h : P8 b W #[z0, z1, z2, z3, z4, z5, z6, z7] W') (v : Value) : P8 b W #[z0, z1, z2, v, z4, z5, z6, z7] (W'.setCell ⟨b, 3, none⟩ v) := h.put 3 v
theorem P8.put4 {b : Nat} {W W' : World} {z0 z1 z2 z3 z4 z5 z6 z7 : Value} (h : P8 b W #[z0, z1, z2, z3, z4, z5, z6, z7] W') (v : Value) : P8 b W #[z0, z1, z2, z3, v, z5, z6, z7] (W'.setCell ⟨b, 4, none⟩ v) := h.put 4 v
theorem P8.put5 {b : Nat} {W W' : World} {z0 z1 z2 z3 z4 z5 z6 z7 : Value} (h : P8 b W #[z0, z1, z2, z3, z4, z5, z6, z7] W') (v : Value) : P8 b W #[z0, z1, z2, z3, z4, v, z6, z7] (W'.setCell ⟨b, 5, none⟩ v) := h.put 5 v
theorem P8.put6 {b : Nat} {W W' : World} {z0 z1 z2 z3 z4 z5 z6 z7 : Value} (h : P8 b W #[z0, z1, z2, z3, z4, z5, z6, z7] W') (v : Value) : P8 b W #[z0, z1, z2, z3, z4, z5, v, z7] (W'.setCell ⟨b, 6, none⟩ v) := h.put 6 v
theorem P8.put7 {b : Nat} {W W' : World} {z0 z1 z2 z3 z4 z5 z6 z7 : Value} (h : P8 b W #[z0, z1, z2, z3, z4, z5, z6, z7] W') (v : Value) : P8 b W #[z0, z1, z2, z3, z4, z5, z6, v] (W'.setCell ⟨b, 7, none⟩ v) := h.put 7 v
theorem MD.fin8 {w W : World} {B L n cap k bx : Nat} {a : Option Addr} {c : Array Value} (h : MD w B L a n cap k bx Z8 c W) (v0 v1 v2 v3 v4 v5 v6 v7 : Value) : P8 w.heap.size W #[v0, v1, v2, v3, v4, v5, v6, v7] ((((((((W.setCell ⟨w.heap.size, 0, none⟩ v0).setCell ⟨w.heap.size, 1, none⟩ v1).setCell ⟨w.heap.size, 2, none⟩ v2).setCell ⟨w.heap.size, 3, none⟩ v3).setCell ⟨w.heap.size, 4, none⟩ v4).setCell ⟨w.heap.size, 5, none⟩ v5).setCell ⟨w.heap.size, 6, none⟩ v6).setCell ⟨w.heap.size, 7, none⟩ v7) := by
  have h0 : P8 w.heap.size W #[.int .i64 0, .int .i64 0, .int .i64 0, .int .i64 0, .slice none 0 0, .slice none 0 0, .slice none 0 0, .slice none 0 0] W := ⟨h.res, fun _ _ => rfl, rfl, rfl, rfl, rfl⟩
  exact h0.put0 v0 |>.put1 v1 |>.put2 v2 |>.put3 v3 |>.put4 v4 |>.put5 v5 |>.put6 v6 |>.put7 v7
theorem P8.deck {w W W' : World} {B L n cap k bx : Nat} {a : Option Addr} {z c c' : Array Value} (h : MD w B L a n cap k bx z c W) (p : P8 w.heap.size W c' W') : Deck W' B L a n cap k ∧ Apart (fun j => j = B) w W' := by
  have h1 := h.deck.lt
  have h2 := h.le
  exact ⟨h.deck.keep (by rw [p.sz]; exact Nat.le_refl _) (fun i hi => p.oth i (by omega)), ⟨p.os.trans h.ap.os, p.tape.trans h.ap.tape, p.output.trans h.ap.output, by rw [p.sz]; exact h.ap.size, fun i hi hb => (p.oth i (by omega)).trans (h.ap.block i hi hb)⟩⟩
theorem share_le {s : Nat} {t : Int} {xs : List Int} {x : Int} (h : Share s t xs) (hx : x ∈ xs) : x ≤ t := by
  obtain ⟨i, hi⟩ := List.getElem?_of_mem hx
  have := sumI_drop xs i x h.nn hi
  rw [h.sum] at this
  exact this
/-- What is known of a range that is dealt. -/
structure MadeOk (st cl sd : Nat) (r : Rg) : Prop where
  ok : RgOk r
  rad : 1 ≤ r.radius ∧ r.radius ≤ 12
  unit : r.unit ≤ 5
  clicks : r.clicks ≤ cl
  total : r.total ≤ 6
  glen : r.group.length ≤ 2 * sd + 1
  gle : ∀ x ∈ r.group, x ≤ 5
  dlen : r.drifts.length ≤ st
  dle : ∀ x ∈ r.drifts, -15 ≤ x ∧ x ≤ 15

end Go.Proofs.Ytiggelffmfinoaa
