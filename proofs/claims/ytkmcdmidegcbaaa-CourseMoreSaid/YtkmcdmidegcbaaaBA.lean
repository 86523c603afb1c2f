/-
  What the memory of CourseMore holds.
  What is proved: these facts go on from one step of CourseMore to the next.
  Conditions: each lemma states its own.
-/
import Derived.Test.YtkmcdmidegcbaaaAY
import Derived.Test.YtkmcdmidegcbaaaAZ
namespace Go.Proofs.Ytkmcdmidegcbaaa
open Go.RowKit Go.Shelf
attribute [local go_sem] Oper.semAt_some

/-- What First hands back for a valid winter. -/
def FirstOr (stock store : Int) (ds : List Dy) (x e : Int) : Prop := (e = 6 ∧ x = 0 ∧ okB stock store ds = true) ∨ (e = 0 ∧ x = (worstL stock store ds).fails ∧ okB stock store ds = false)
theorem first_or {stock store : Int} {ds : List Dy} (hw : winE stock store ds = 0) : FirstOr stock store ds (failR stock store ds).1 (failR stock store ds).2.2 := by
  unfold failR FirstOr okB
  rw [if_pos hw]
  by_cases h : (worstL stock store ds).fails = -1
  · rw [if_pos h]; exact .inl ⟨rfl, rfl, by rw [h]; rfl⟩
  · rw [if_neg h]; exact .inr ⟨rfl, rfl, by simp [h]⟩

theorem KW.apart {w W W' : World} {B Bd : Nat} {stock store : Int} {ad : Option Addr} {ds : List Dy} {cp : Nat} (h : KW w W B stock store ad ds cp) (ha : Apart (fun j => j = Bd) W W') (h1 : w.heap.size ≤ Bd) (h2 : B < Bd) (h3 : ∀ p, ad = some p → p.block < Bd) : KW w W' B stock store ad ds cp := by
  refine ⟨below_apart h.1 ha (fun j hj => by omega), (ha.block B (lt_of_block h.2.1) (by omega)).trans h.2.1, fun h0 => ?_⟩
  obtain ⟨b, off, rfl, hb, hc⟩ := h.2.2 h0
  have hlt := h3 _ rfl
  have hlt' : b < Bd := hlt
  exact ⟨b, off, rfl, Nat.lt_of_lt_of_le hb ha.size, fun j x i u hx hu => (World.cell?_of_block (w := W) (a := ⟨b, off + j * 6 + i, none⟩) (ha.block b hb (by omega))).trans (hc j x i u hx hu)⟩

/-- The memory of CourseMore: a winter in box Bw, a deck in block Bd, a richer winter in box Br with its days in block g. -/
structure MR (w W : World) (Bw Br Bd g : Nat) (stock store stock' store' : Int) (ad : Option Addr) (ds : List Dy) (cp : Nat) (ds' : List Dy) (cp' : Nat) (a : Option Addr) (n cap k : Nat) : Prop where
  kw : KW w W Bw stock store ad ds cp
  rb : W.heap[Br]? = some (.cells #[.int .i64 stock', .int .i64 store', .slice (some ⟨g, 0, none⟩) ds'.length cp'] 60 (0, 0))
  dk : Deck W Bd (Bd + 1) a n cap k
  dy : DaysIn W (Bd + 1) g cp' ds'
  o1 : w.heap.size ≤ Bd
  o2 : Bw < Bd
  o3 : g < Br
  far : ∀ p, ad = some p → p.block < Bd

section
variable {w W W' : World} {Bw Br Bd g : Nat} {stock store stock' store' : Int} {ad : Option Addr} {ds : List Dy} {cp : Nat} {ds' : List Dy} {cp' : Nat} {a : Option Addr} {n cap k k' : Nat}
theorem MR.og (h : MR w W Bw Br Bd g stock store stock' store' ad ds cp ds' cp' a n cap k) : Bd < g := h.dy.1
theorem MR.below (h : MR w W Bw Br Bd g stock store stock' store' ad ds cp ds' cp' a n cap k) (hb : Below W.heap.size W W') : MR w W' Bw Br Bd g stock store stock' store' ad ds cp ds' cp' a n cap k :=
  ⟨h.kw.below hb, blk_below h.rb hb, h.dk.below hb, h.dy.below hb, h.o1, h.o2, h.o3, h.far⟩
theorem MR.draw (h : MR w W Bw Br Bd g stock store stock' store' ad ds cp ds' cp' a n cap k) (ha : Apart (fun j => j = Bd) W W') (hd : Deck W' Bd (Bd + 1) a n cap k') : MR w W' Bw Br Bd g stock store stock' store' ad ds cp ds' cp' a n cap k' := by
  have hg := h.og
  have hr := h.o3
  exact ⟨h.kw.apart ha h.o1 h.o2 h.far, (ha.block Br (lt_of_block h.rb) (by omega)).trans h.rb, hd, h.dy.keep (ha.block g h.dy.lt (by omega)), h.o1, h.o2, h.o3, h.far⟩
theorem MR.other (h : MR w W Bw Br Bd g stock store stock' store' ad ds cp ds' cp' a n cap k) (B j : Nat) (u : Value) (hB : Bd < B) : KW w (W.setCell ⟨B, j, none⟩ u) Bw stock store ad ds cp ∧ Deck (W.setCell ⟨B, j, none⟩ u) Bd (Bd + 1) a n cap k := by
  have ha : Apart (fun i => i = B) W (W.setCell ⟨B, j, none⟩ u) := Apart.setCell (own := fun i => i = B) W (p := ⟨B, j, none⟩) rfl u
  have h1 := h.o1
  have h2 := h.o2
  refine ⟨h.kw.apart ha (by omega) (by omega) (fun p hp => by have := h.far p hp; omega), h.dk.keep (by rw [World.size_setCell]; exact Nat.le_refl _) (fun i hi => Below.heap_setCell _ _ _ _ (by show i ≠ B; omega))⟩
theorem MR.setStock (h : MR w W Bw Br Bd g stock store stock' store' ad ds cp ds' cp' a n cap k) (x : Int) : MR w (W.setCell ⟨Br, 0, none⟩ (.int .i64 x)) Bw Br Bd g stock store x store' ad ds cp ds' cp' a n cap k := by
  have hg := h.og
  have hr := h.o3
  obtain ⟨h1, h2⟩ := h.other Br 0 (.int .i64 x) (by omega)
  exact ⟨h1, blk_setCell (j := 0) h.rb, h2, h.dy.keep (Below.heap_setCell _ _ _ _ (by show g ≠ Br; omega)), h.o1, h.o2, h.o3, h.far⟩
theorem MR.setStore (h : MR w W Bw Br Bd g stock store stock' store' ad ds cp ds' cp' a n cap k) (x : Int) : MR w (W.setCell ⟨Br, 1, none⟩ (.int .i64 x)) Bw Br Bd g stock store stock' x ad ds cp ds' cp' a n cap k := by
  have hg := h.og
  have hr := h.o3
  obtain ⟨h1, h2⟩ := h.other Br 1 (.int .i64 x) (by omega)
  exact ⟨h1, blk_setCell (j := 1) h.rb, h2, h.dy.keep (Below.heap_setCell _ _ _ _ (by show g ≠ Br; omega)), h.o1, h.o2, h.o3, h.far⟩
theorem MR.setDay (h : MR w W Bw Br Bd g stock store stock' store' ad ds cp ds' cp' a n cap k) (j : Nat) (d d' : Dy) (i : Nat) (x : Int) (hj : ds'[j]? = some d) (hi : i < 6) (hd : (Dy.cells d).set i x = Dy.cells d') :
    MR w (W.setCell ⟨g, j * 6 + i, none⟩ (.int .i64 x)) Bw Br Bd g stock store stock' store' ad ds cp (ds'.set j d') cp' a n cap k := by
  have hg := h.og
  have hr := h.o3
  obtain ⟨h1, h2⟩ := h.other g (j * 6 + i) (.int .i64 x) (by omega)
  refine ⟨h1, ?_, h2, h.dy.put j d d' i x hj hi hd, h.o1, h.o2, h.o3, h.far⟩
  rw [List.length_set]
  exact (Below.heap_setCell _ _ _ _ (by show Br ≠ g; omega)).trans h.rb
end

theorem least_mono {lo hi hi' : Int} {q q' : Int → Bool} {N E N' E' : Int} (h : LeastOr lo hi q N E) (h' : LeastOr lo hi' q' N' E') (hh : hi ≤ hi') (hq : ∀ v, lo ≤ v → v ≤ hi → q v = true → q' v = true) :
    (E = 0 ∧ E' = 0 ∧ lo ≤ N ∧ N ≤ hi ∧ lo ≤ N' ∧ N' ≤ N) ∨ (E = 6 ∧ (E' = 0 ∨ E' = 6)) := by
  rcases h with ⟨rfl, h1, h2, h3⟩ | ⟨rfl, rfl, h3⟩
  · have hN := hq N h1.1 h1.2 h2
    left
    rcases h' with ⟨rfl, k1, k2, k3⟩ | ⟨rfl, rfl, k3⟩
    · refine ⟨rfl, rfl, h1.1, h1.2, k1.1, ?_⟩
      rcases Int.lt_or_le N N' with hlt | hle
      · rw [k3 N h1.1 hlt] at hN; cases hN
      · exact hle
    · rw [k3 N h1.1 (by omega)] at hN; cases hN
  · right
    rcases h' with ⟨rfl, _⟩ | ⟨rfl, _⟩
    · exact ⟨rfl, .inl rfl⟩
    · exact ⟨rfl, .inr rfl⟩

/-- Richer days that are still small. -/
def Rich (ds ds' : List Dy) : Prop := MoreDays ds ds' ∧ ∀ d ∈ ds', SmallDay d
theorem rich_refl {ds : List Dy} (h : ∀ d ∈ ds, SmallDay d) : Rich ds ds := by
  refine ⟨⟨rfl, fun k d d' h1 h2 => ?_⟩, h⟩
  rw [h1] at h2
  cases h2
  obtain ⟨⟨a1, a2, a3⟩, ⟨b1, b2, b3⟩, c1, c2, c3⟩ := h d (List.mem_of_getElem? h1)
  unfold MoreDay
  omega
theorem rich_set {ds ds' : List Dy} (h : Rich ds ds') (j : Nat) (d' e : Dy) (hj : ds'[j]? = some d') (hs : SmallDay e)
    (hn : d'.need.lo ≤ e.need.hi ∧ e.need.hi ≤ d'.need.hi) (hm : d'.make.lo ≤ e.make.lo ∧ e.make.lo ≤ d'.make.hi) (hl : d'.loss.lo ≤ e.loss.hi ∧ e.loss.hi ≤ d'.loss.hi) (he : e.need.lo = d'.need.lo ∧ e.make.hi = d'.make.hi ∧ e.loss.lo = d'.loss.lo) : Rich ds (ds'.set j e) := by
  refine ⟨⟨by rw [List.length_set]; exact h.1.1, fun k d x h1 h2 => ?_⟩, fun x hx => ?_⟩
  · rw [List.getElem?_set] at h2
    split at h2
    · rename_i hjk
      subst hjk
      split at h2
      · cases h2
        have := h.1.2 j d d' h1 hj
        unfold MoreDay at *
        omega
      · cases h2
    · exact h.1.2 k d x h1 h2
  · rcases List.mem_or_eq_of_mem_set hx with h1 | rfl
    · exact h.2 x h1
    · exact hs
end Go.Proofs.Ytkmcdmidegcbaaa
