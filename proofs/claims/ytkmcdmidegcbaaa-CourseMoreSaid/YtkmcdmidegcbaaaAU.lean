/-
  What MadeWinter's memory holds.
  What is proved: these facts go on from one step of MadeWinter to the next.
  Conditions: each lemma states its own.
-/
import Derived.Test.YtkmcdmidegcbaaaAT
namespace Go.Proofs.Ytkmcdmidegcbaaa
open Go.RowKit Go.Shelf
attribute [local go_sem] Oper.semAt_some

theorem Try.info97 : (Try.prog.info? 97).map (fun i => (i.zero, i.size, i.bytes)) = some (some (.agg #[.int .i64 0, .int .i64 0, .int .i64 0, .int .i64 0, .int .i64 0, .int .i64 0]), 6, 48) := by kernel_rfl

theorem cells_new (w : World) (news : List Value) (t : TypeId) : ∀ j u, news[j]? = some u → (w.alloc (.cells news.toArray t)).cell? ((⟨w.heap.size, 0, none⟩ : Addr).add j) = some u := by
  intro j u hj
  have : (⟨w.heap.size, 0, none⟩ : Addr).add j = ⟨w.heap.size, j, none⟩ := by unfold Addr.add; split <;> simp_all
  rw [this]
  exact blk_cell (heap_alloc_new w _) j (by simpa using hj)

def SmallSp (s : Sp) : Prop := 0 ≤ s.lo ∧ s.lo ≤ s.hi ∧ s.hi ≤ 100
def SmallDay (d : Dy) : Prop := SmallSp d.need ∧ SmallSp d.make ∧ SmallSp d.loss
theorem SmallDay.ok {d : Dy} (h : SmallDay d) : DayOk d := by
  obtain ⟨⟨a1, a2, a3⟩, ⟨b1, b2, b3⟩, c1, c2, c3⟩ := h
  exact ⟨⟨a1, a2, by omega⟩, ⟨b1, b2, by omega⟩, c1, c2, by omega⟩
abbrev Dy.o (d : Dy) : Obj := .cells #[.int .i64 d.need.lo, .int .i64 d.need.hi, .int .i64 d.make.lo, .int .i64 d.make.hi, .int .i64 d.loss.lo, .int .i64 d.loss.hi] 97

/-- A day that is being dealt, in block X. -/
structure XI (Wx : World) (B L X : Nat) (a : Option Addr) (n cap k : Nat) (W : World) (d : Dy) : Prop where
  ap : Apart (fun j => j = B ∨ j = X) Wx W
  dk : Deck W B L a n cap k
  x : W.heap[X]? = some d.o
  ok : SmallDay d
  hX : L ≤ X

theorem XI.step {Wx W W' : World} {B L X : Nat} {a : Option Addr} {n cap k k' : Nat} {d : Dy} (h : XI Wx B L X a n cap k W d) (ha : Apart (fun j => j = B) W W') (hd : Deck W' B L a n cap k') : XI Wx B L X a n cap k' W' d :=
  ⟨h.ap.trans (ha.more fun _ hj => .inl hj), hd, (ha.block X (lt_of_block h.x) (fun e => by have := h.dk.lt.1; have := h.hX; omega)).trans h.x, h.ok, h.hX⟩
theorem XI.below {Wx W W' : World} {B L X : Nat} {a : Option Addr} {n cap k : Nat} {d : Dy} (h : XI Wx B L X a n cap k W d) (hb : Below W.heap.size W W') : XI Wx B L X a n cap k W' d := h.step (Apart.of_below hb) (h.dk.below hb)
theorem XI.put {Wx W : World} {B L X : Nat} {a : Option Addr} {n cap k : Nat} {d d' : Dy} (h : XI Wx B L X a n cap k W d) (i j : Nat) (u v : Value)
    (hd : (#[Value.int .i64 d.need.lo, .int .i64 d.need.hi, .int .i64 d.make.lo, .int .i64 d.make.hi, .int .i64 d.loss.lo, .int .i64 d.loss.hi].setIfInBounds i u).setIfInBounds j v = #[.int .i64 d'.need.lo, .int .i64 d'.need.hi, .int .i64 d'.make.lo, .int .i64 d'.make.hi, .int .i64 d'.loss.lo, .int .i64 d'.loss.hi]) (hok : SmallDay d') :
    XI Wx B L X a n cap k ((W.setCell ⟨X, i, none⟩ u).setCell ⟨X, j, none⟩ v) d' := by
  have hsz : ((W.setCell ⟨X, i, none⟩ u).setCell ⟨X, j, none⟩ v).heap.size = W.heap.size := by rw [World.size_setCell, World.size_setCell]
  have hoth : ∀ k, k ≠ X → ((W.setCell ⟨X, i, none⟩ u).setCell ⟨X, j, none⟩ v).heap[k]? = W.heap[k]? := fun k hk => (Below.heap_setCell _ _ _ _ hk).trans (Below.heap_setCell _ _ _ _ hk)
  refine ⟨h.ap.trans ((Apart.setCell (own := fun j => j = B ∨ j = X) W (p := ⟨X, i, none⟩) (.inr rfl) _).trans (Apart.setCell (own := fun j => j = B ∨ j = X) _ (p := ⟨X, j, none⟩) (.inr rfl) _)), h.dk.keep (by rw [hsz]; exact Nat.le_refl _) (fun m hm => hoth m (by have := h.hX; omega)), ?_, hok, h.hX⟩
  have := blk_setCell (j := j) (u := v) (blk_setCell (j := i) (u := u) h.x)
  rw [hd] at this
  exact this

theorem XI.mono {Wx W : World} {B L X : Nat} {a : Option Addr} {n cap k k' : Nat} {d : Dy} (h : XI Wx B L X a n cap k W d) (hk : k ≤ k') : XI Wx B L X a n cap k' W d := ⟨h.ap, h.dk.mono hk, h.x, h.ok, h.hX⟩

/-- What MadeWinter's outer loop keeps: the winter's box is block Wb. -/
structure MI (w0 : World) (B L Wb : Nat) (a : Option Addr) (n cap k : Nat) (stock store : Int) (W : World) (sv : Value) (ds : List Dy) : Prop where
  ap : Apart (fun j => j = B) w0 W
  dk : Deck W B L a n cap k
  rs : W.heap[w0.heap.size]? = some (.cells #[.int .i64 0, .int .i64 0, .slice none 0 0] 60 (0, 0))
  wb : W.heap[Wb]? = some (.cells #[.int .i64 stock, .int .i64 store, sv] 60 (0, 0))
  row : W.ownsRow (Wb + 1) 97 6 sv ds.length ((ds.flatMap Dy.cells).map (Value.int .i64))
  ok : ∀ d ∈ ds, SmallDay d
  hW : w0.heap.size < Wb
  hL : L ≤ w0.heap.size

theorem owns_step {A B : World} {base : Nat} {e : TypeId} {size : Nat} {v : Value} {n : Nat} {xs : List Value} (h : A.ownsRow base e size v n xs) (hk : ∀ g, base ≤ g → v.ownBlock = some g → g < A.heap.size → B.heap[g]? = A.heap[g]?) : B.ownsRow base e size v n xs := by
  refine ⟨h.1, ?_⟩
  rcases h.2 with hn | ⟨g, cap, cur, rfl, hb, hg, rest⟩
  · exact .inl hn
  · exact .inr ⟨g, cap, cur, rfl, hb, (hk g hb rfl (lt_of_block hg)).trans hg, rest⟩

theorem Dy.cells_len (d : Dy) : (Dy.cells d).length = 6 := rfl
theorem flat_get (ds : List Dy) : ∀ (j : Nat) (x : Dy) (i : Nat) (u : Int), ds[j]? = some x → (Dy.cells x)[i]? = some u → (ds.flatMap Dy.cells)[j * 6 + i]? = some u := by
  induction ds with
  | nil => intro j x i u hx _; simp at hx
  | cons d ds ih =>
    intro j x i u hx hu
    have hi : i < 6 := by
      rcases Nat.lt_or_ge i 6 with h | h
      · exact h
      · rw [List.getElem?_eq_none (by rw [Dy.cells_len]; exact h)] at hu; cases hu
    rw [List.flatMap_cons]
    cases j with
    | zero =>
      simp at hx; subst hx
      rw [Nat.zero_mul, Nat.zero_add, List.getElem?_append_left (by rw [Dy.cells_len]; exact hi)]
      exact hu
    | succ j =>
      rw [List.getElem?_append_right (by rw [Dy.cells_len]; omega), Dy.cells_len, show (j + 1) * 6 + i - 6 = j * 6 + i by omega]
      exact ih j x i u (by simpa using hx) hu
theorem days_of_owns {W : World} {base : Nat} {v : Value} {ds : List Dy} (h : W.ownsRow base 97 6 v ds.length ((ds.flatMap Dy.cells).map (Value.int .i64))) : ∃ a cap, v = .slice a ds.length cap ∧ Sl 6 Dy.cells W a ds ∧ (∀ p, a = some p → base ≤ p.block) := by
  rcases h.2 with ⟨rfl, h0⟩ | ⟨g, cap, cur, rfl, hb, hg, _⟩
  · exact ⟨none, 0, by rw [h0], (fun hp => by omega), (fun p hp => by cases hp)⟩
  · refine ⟨some ⟨g, 0, none⟩, cap, rfl, fun _ => ⟨g, 0, rfl, lt_of_block hg, fun j x i u hx hu => ?_⟩, (fun p hp => by cases hp; exact hb)⟩
    have hc := h.cells (g := g) rfl (j * 6 + i) (.int .i64 u) (by rw [List.getElem?_map, flat_get ds j x i u hx hu]; rfl)
    have : (⟨g, 0, none⟩ : Addr).add (j * 6 + i) = ⟨g, 0 + j * 6 + i, none⟩ := by unfold Addr.add; split <;> simp_all
    rw [this] at hc
    exact hc

/-- From the memory before a day is dealt to that behind it. -/
theorem MI.dealt {w0 W Wx W' : World} {B L Wb X : Nat} {a : Option Addr} {n cap k k' : Nat} {stock store : Int} {sv : Value} {ds : List Dy} {d : Dy} (h : MI w0 B L Wb a n cap k stock store W sv ds) (hb : Below W.heap.size W Wx) (hX : W.heap.size = X) (hx : XI Wx B L X a n cap k' W' d) : MI w0 B L Wb a n cap k' stock store W' sv ds := by
  have hBL := h.dk.lt.1
  have same : ∀ j, j < W.heap.size → j ≠ B → W'.heap[j]? = W.heap[j]? := fun j hj hB => (hx.ap.block j (Nat.lt_of_lt_of_le hj hb.size) (fun e => by rcases e with e | e <;> omega)).trans (hb.block j hj)
  have hWb := lt_of_block h.wb
  have hR := lt_of_block h.rs
  have hL := h.hL
  have hW := h.hW
  exact ⟨h.ap.trans ⟨hx.ap.os.trans hb.os, hx.ap.tape.trans hb.tape, hx.ap.output.trans hb.output, Nat.le_trans hb.size hx.ap.size, fun j hj hB => same j hj hB⟩, hx.dk, (same _ hR (by omega)).trans h.rs, (same _ hWb (by omega)).trans h.wb, owns_step h.row (fun g hg _ hlt => same g hlt (by omega)), h.ok, h.hW, h.hL⟩

/-- The list with one day more, stored to the winter's box. -/
theorem MI.more {w0 W W1 W2 : World} {B L Wb : Nat} {a : Option Addr} {n cap k : Nat} {stock store : Int} {sv sv' : Value} {ds : List Dy} {d : Dy} (h : MI w0 B L Wb a n cap k stock store W sv ds) (hb : Below W.heap.size W W1) (hg : W1.grownBy W2 sv.ownBlock) (hrow : W2.ownsRow (Wb + 1) 97 6 sv' (ds.length + 1) ((ds.flatMap Dy.cells).map (Value.int .i64) ++ (Dy.cells d).map (Value.int .i64))) (hd : SmallDay d) :
    MI w0 B L Wb a n cap k stock store (W2.setCell ⟨Wb, 2, none⟩ sv') sv' (ds ++ [d]) := by
  have hBL := h.dk.lt.1
  have hL := h.hL
  have hW := h.hW
  have hWb := lt_of_block h.wb
  have hR := lt_of_block h.rs
  have same : ∀ j, j < W.heap.size → j ≤ Wb → W2.heap[j]? = W.heap[j]? := fun j hj hB => (hg.block j (Nat.lt_of_lt_of_le hj hb.size) (fun e => by have := (h.row.lt j e.symm).1; omega)).trans (hb.block j hj)
  have hsz : W.heap.size ≤ W2.heap.size := Nat.le_trans hb.size hg.size
  have hoth : ∀ j, j ≠ Wb → (W2.setCell ⟨Wb, 2, none⟩ sv').heap[j]? = W2.heap[j]? := fun j hj => Below.heap_setCell _ _ _ _ hj
  refine ⟨?_, h.dk.keep (by rw [World.size_setCell]; exact hsz) (fun j hj => (hoth j (by omega)).trans (same j (by omega) (by omega))), (hoth _ (by omega)).trans ((same _ hR (by omega)).trans h.rs), ?_, ?_, ?_, hW, hL⟩
  · exact ⟨hg.os.trans (hb.os.trans h.ap.os), hg.tape.trans (hb.tape.trans h.ap.tape), hg.output.trans (hb.output.trans h.ap.output), by rw [World.size_setCell]; exact Nat.le_trans h.ap.size hsz, fun j hj hB => (hoth j (by omega)).trans ((same j (Nat.lt_of_lt_of_le hj h.ap.size) (by omega)).trans (h.ap.block j hj hB))⟩
  · have := blk_setCell (j := 2) (u := sv') ((same Wb hWb (Nat.le_refl _)).trans h.wb)
    exact this
  · have h1 : (ds ++ [d]).length = ds.length + 1 := by simp
    have h2 : ((ds ++ [d]).flatMap Dy.cells).map (Value.int .i64) = (ds.flatMap Dy.cells).map (Value.int .i64) ++ (Dy.cells d).map (Value.int .i64) := by simp
    rw [h1, h2]
    exact owns_step hrow (fun g hg _ _ => hoth g (by omega))
  · intro x hx
    rcases List.mem_append.1 hx with h' | h'
    · exact h.ok x h'
    · simp at h'; subst h'; exact hd
end Go.Proofs.Ytkmcdmidegcbaaa
