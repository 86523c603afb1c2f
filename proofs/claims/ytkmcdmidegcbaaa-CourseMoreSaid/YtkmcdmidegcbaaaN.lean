/-
  What a slice of slices of integers reads as; what chosen's loop keeps.
  What is proved: these notions are kept where other blocks turn.
  Conditions: slices of at most 1000000 elements.
-/
import Derived.Test.YtkmcdmidegcbaaaM
namespace Go.Proofs.Ytkmcdmidegcbaaa
open Go.RowKit Go.Shelf
attribute [local go_sem] Oper.semAt_some

theorem Try.info27 : (Try.prog.info? 27).map (fun i => (i.zero, i.size, i.bytes)) = some (some (.slice none 0 0), 1, 24) := by kernel_rfl

/-- Values that are slices of integers, each in a block from lo on. -/
structure Rows2 (W : World) (lo : Nat) (vals : List Value) (cs : List (List Int)) : Prop where
  len : vals.length = cs.length
  at' : ∀ (j : Nat) (c : List Int), cs[j]? = some c → ∃ (a : Option Addr) (cap : Nat), vals[j]? = some (Value.slice a c.length cap) ∧ IntSl W a c ∧ Ty3 W a ∧ (∀ p, a = some p → lo ≤ p.block)

theorem Rows2.nil (W : World) (lo : Nat) : Rows2 W lo [] [] := ⟨rfl, fun j c h => by simp at h⟩
theorem ints_same {A B : World} {a : Option Addr} {c : List Int} (h : IntSl A a c) (hs : A.heap.size ≤ B.heap.size) (hb : ∀ p, a = some p → p.block < A.heap.size → B.heap[p.block]? = A.heap[p.block]?) : IntSl B a c := fun h0 => by
  obtain ⟨b, off, rfl, hbs, hc⟩ := h h0
  exact ⟨b, off, rfl, Nat.lt_of_lt_of_le hbs hs, fun j hj => (World.cell?_of_block (w := A) (a := ⟨b, off + j, none⟩) (hb ⟨b, off, none⟩ rfl hbs)).trans (hc j hj)⟩
theorem ty3_same {A B : World} {a : Option Addr} (h : Ty3 A a) (hb : ∀ p, a = some p → p.block < A.heap.size → B.heap[p.block]? = A.heap[p.block]?) : Ty3 B a := fun q hq => by
  obtain ⟨cs, h1⟩ := h q hq
  exact ⟨cs, (hb q hq (lt_of_block h1)).trans h1⟩
theorem Rows2.same {A B : World} {lo : Nat} {vals : List Value} {cs : List (List Int)} (h : Rows2 A lo vals cs) (hs : A.heap.size ≤ B.heap.size) (hk : ∀ k, lo ≤ k → k < A.heap.size → (∃ cs, A.heap[k]? = some (.cells cs 3 (0, 0))) → B.heap[k]? = A.heap[k]?) : Rows2 B lo vals cs :=
  ⟨h.len, fun j c hc => by
    obtain ⟨a, cap, h1, h2, h4, h3⟩ := h.at' j c hc
    have hb : ∀ p, a = some p → p.block < A.heap.size → B.heap[p.block]? = A.heap[p.block]? := fun p hp hl => hk _ (h3 p hp) hl (h4 p hp)
    exact ⟨a, cap, h1, ints_same h2 hs hb, ty3_same h4 hb, h3⟩⟩
theorem Rows2.snoc {W : World} {lo : Nat} {vals : List Value} {cs : List (List Int)} (h : Rows2 W lo vals cs) {a : Option Addr} {c : List Int} {cap : Nat} (hi : IntSl W a c) (ht : Ty3 W a) (hl : ∀ p, a = some p → lo ≤ p.block) :
    Rows2 W lo (vals ++ [.slice a c.length cap]) (cs ++ [c]) := by
  refine ⟨by simp [h.len], fun j d hd => ?_⟩
  rcases Nat.lt_or_ge j cs.length with hj | hj
  · rw [List.getElem?_append_left hj] at hd
    rw [List.getElem?_append_left (by rw [h.len]; exact hj)]
    exact h.at' j d hd
  · rw [List.getElem?_append_right hj] at hd
    rw [List.getElem?_append_right (by rw [h.len]; exact hj), h.len]
    obtain ⟨i, hi'⟩ : ∃ i, j - cs.length = i := ⟨_, rfl⟩
    rw [hi'] at hd ⊢
    match i, hd with
    | 0, hd => simp at hd; subst hd; exact ⟨a, cap, rfl, hi, ht, hl⟩
    | i + 1, hd => simp at hd

theorem owns_same {A B : World} {base : Nat} {e : TypeId} {size : Nat} {v : Value} {n : Nat} {xs : List Value} (h : A.ownsRow base e size v n xs) (hk : ∀ k, base ≤ k → k < A.heap.size → B.heap[k]? = A.heap[k]?) : B.ownsRow base e size v n xs := by
  refine ⟨h.1, ?_⟩
  rcases h.2 with hn | ⟨g, cap, cur, rfl, hb, hg, rest⟩
  · exact .inl hn
  · exact .inr ⟨g, cap, cur, rfl, hb, (hk g hb (lt_of_block hg)).trans hg, rest⟩

/-- A slice of slices of integers, as it reads in a world. -/
def SlsAt (W : World) (a : Option Addr) (cs : List (List Int)) : Prop :=
  0 < cs.length → ∃ b off, a = some ⟨b, off, none⟩ ∧ b < W.heap.size ∧ ∀ (j : Nat) (c : List Int), cs[j]? = some c → ∃ (a' : Option Addr) (cap' : Nat), W.cell? ⟨b, off + j, none⟩ = some (Value.slice a' c.length cap') ∧ IntSl W a' c

theorem SlsAt.below {w w' : World} {a : Option Addr} {cs : List (List Int)} (h : SlsAt w a cs) (hb : Below w.heap.size w w') : SlsAt w' a cs := fun h0 => by
  obtain ⟨b, off, rfl, hbs, hc⟩ := h h0
  refine ⟨b, off, rfl, Nat.lt_of_lt_of_le hbs hb.size, fun j c hj => ?_⟩
  obtain ⟨a', cap', h1, h2⟩ := hc j c hj
  exact ⟨a', cap', (hb.cell (p := ⟨b, off + j, none⟩) hbs).trans h1, h2.below hb⟩

theorem sls_of_owns {W : World} {base lo : Nat} {v : Value} {vals : List Value} {cs : List (List Int)} (h : W.ownsRow base 27 1 v vals.length vals) (hr : Rows2 W lo vals cs) : ∃ a cap, v = .slice a cs.length cap ∧ SlsAt W a cs := by
  rcases h.2 with ⟨rfl, h0⟩ | ⟨g, cap, cur, rfl, hb, hg, hnc, hcm, hcs, htake⟩
  · exact ⟨none, 0, by rw [← hr.len, h0], fun hp => by rw [← hr.len] at hp; omega⟩
  · refine ⟨some ⟨g, 0, none⟩, cap, by rw [hr.len], fun _ => ⟨g, 0, rfl, lt_of_block hg, fun j c hj => ?_⟩⟩
    obtain ⟨a', cap', h1, h2, _, _⟩ := hr.at' j c hj
    have hc := h.cells (g := g) rfl j _ h1
    have : (⟨g, 0, none⟩ : Addr).add j = ⟨g, 0 + j, none⟩ := by unfold Addr.add; split <;> simp_all
    rw [this] at hc
    exact ⟨a', cap', hc, h2⟩

/-- A call that hands back a slice of courses and an error; nothing that was there before it has turned. -/
def OutCs (w : World) (cs : List (List Int)) (err : Int) (e : Ending) (w' : World) : Prop := ∃ a cap, e = .returned (.tuple #[.slice a cs.length cap, .int .i64 err]) ∧ SlsAt w' a cs ∧ Below w.heap.size w w'

/-- What chosen's loop keeps. -/
structure CInv (w : World) (g : Nat) (lb : Array Value) (cs : List (List Int)) (W : World) : Prop where
  b : Below w.heap.size w W
  want : W.heap[w.heap.size + 1]? = some (.cells #[.func (.func g) #[] lb] 137 (0, 0))
  r0 : W.heap[w.heap.size + 2]? = some (.cells #[.slice none 0 0] 49 (0, 0))
  r1 : W.heap[w.heap.size + 3]? = some (.cells #[.int .i64 0] 33 (0, 0))
  few : cs.length ≤ 300
  list : ∃ v vals, W.heap[w.heap.size + 4]? = some (.cells #[v] 49 (0, 0)) ∧ W.ownsRow (w.heap.size + 18) 27 1 v vals.length vals ∧ Rows2 W (w.heap.size + 18) vals cs

theorem CInv.apart {w W W' : World} {g : Nat} {lb : Array Value} {cs : List (List Int)} (h : CInv w g lb cs W) (ha : Apart (intv 11 (w.heap.size + 7)) W W') : CInv w g lb cs W' := by
  have hk : ∀ k, k < w.heap.size + 7 ∨ w.heap.size + 18 ≤ k → k < W.heap.size → W'.heap[k]? = W.heap[k]? := fun k h1 h2 => ha.block k h2 (fun h3 => by have := h3.1; have := h3.2; omega)
  obtain ⟨v, vals, h1, h2, h3⟩ := h.list
  exact ⟨h.b.trans ⟨ha.os, ha.tape, ha.output, ha.size, fun k hk' => hk k (by omega) (Nat.lt_of_lt_of_le hk' h.b.size)⟩, (hk _ (by omega) (lt_of_block h.want)).trans h.want, (hk _ (by omega) (lt_of_block h.r0)).trans h.r0, (hk _ (by omega) (lt_of_block h.r1)).trans h.r1, h.few,
    v, vals, (hk _ (by omega) (lt_of_block h1)).trans h1, owns_same h2 (fun k h4 h5 => hk k (.inr h4) h5), h3.same ha.size (fun k h4 h5 _ => hk k (.inr h4) h5)⟩

end Go.Proofs.Ytkmcdmidegcbaaa
