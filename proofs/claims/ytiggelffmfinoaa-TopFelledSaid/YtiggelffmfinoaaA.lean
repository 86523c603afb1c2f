/-
  Plain notions that the texts of this seat share: no program is imported here.
  What is proved: small facts on lists, and that what was read below a block's number reads on.
  Conditions: each lemma states its own.
-/
import Derived.WalkKit
import Derived.WalkSpells
import Derived.Lib.Hide
namespace Go.Proofs.Ytiggelffmfinoaa
open Go.RowKit

theorem ret_bool {a b : Bool} (h : a = b) : Ending.returned (.bool a) = .returned (.bool b) := by rw [h]
theorem ret_int {k : IntKind} {a b : Int} (h : a = b) : Ending.returned (.int k a) = .returned (.int k b) := by rw [h]

/-- A number lies within two bounds. -/
def withinB (n lo hi : Int) : Bool := decide (lo ≤ n) && decide (n ≤ hi)

structure Lp where
  l : Int
  c : Int
  d : Int
structure Sp where
  lo : Int
  hi : Int
structure Ru where
  laps : Int
  len : Sp
  climb : Sp
  lap : Sp
  wide : Int
  uses : Int
structure Dy where
  need : Sp
  make : Sp
  loss : Sp

abbrev Lp.v (x : Lp) : Value := .agg #[.int .i64 x.l, .int .i64 x.c, .int .i64 x.d]
abbrev Sp.v (x : Sp) : Value := .agg #[.int .i64 x.lo, .int .i64 x.hi]
abbrev Ru.v (x : Ru) : Value := .agg #[.int .i64 x.laps, .int .i64 x.len.lo, .int .i64 x.len.hi, .int .i64 x.climb.lo, .int .i64 x.climb.hi, .int .i64 x.lap.lo, .int .i64 x.lap.hi, .int .i64 x.wide, .int .i64 x.uses]
abbrev Dy.v (x : Dy) : Value := .agg #[.int .i64 x.need.lo, .int .i64 x.need.hi, .int .i64 x.make.lo, .int .i64 x.make.hi, .int .i64 x.loss.lo, .int .i64 x.loss.hi]

def boundedB (s : Sp) (most : Int) : Bool := decide (0 ≤ s.lo) && (decide (s.lo ≤ s.hi) && decide (s.hi ≤ most))
def insideB (n : Int) (s : Sp) : Bool := withinB n s.lo s.hi
def allowedB (x : Lp) : Bool := withinB x.l 1 20000 && (withinB x.c 0 2000 && withinB x.d 1 20)
/-- The error of a stadium. -/
def stadE (xs : List Lp) : Int := if withinB xs.length 1 12 = true then (if xs.all allowedB = true then 0 else 3) else 2
def rulesB (r : Ru) : Bool := [r.len, r.climb, r.lap].all (fun s => boundedB s 200000) && (withinB r.laps 1 6 && (withinB r.wide 1 20 && withinB r.uses 1 6))
def checkE (xs : List Lp) (r : Ru) : Int := if stadE xs = 0 then (if rulesB r = true then 0 else 3) else stadE xs

def sortedB (c : List Int) : Bool := (List.range (c.length - 1)).all (fun j => decide (c[j]?.getD 0 ≤ c[j+1]?.getD 0))
/-- The error of a course on so many loops. -/
def courseE (n : Int) (c : List Int) : Int := if withinB c.length 1 6 = true then (if c.all (fun i => withinB i 0 (n - 1)) = true then (if sortedB c = true then 0 else 4) else 1) else 2

theorem sortedB_true {c : List Int} (h : ∀ j, 0 ≤ j → j + 1 < c.length → c[j]?.getD 0 ≤ c[j+1]?.getD 0) : sortedB c = true := by
  simp only [sortedB, List.all_eq_true, List.mem_range, decide_eq_true_eq]
  exact fun j hj => h j (Nat.zero_le _) (by omega)
theorem sortedB_false {c : List Int} (j : Nat) (hj : j + 1 < c.length) (h : c[j+1]?.getD 0 < c[j]?.getD 0) : sortedB c = false := by
  simp only [sortedB, List.all_eq_false, List.mem_range, decide_eq_true_eq]
  exact ⟨j, by omega, by omega⟩

/-- The cells of one element, by its kind. -/
def Lp.cells (x : Lp) : List Int := [x.l, x.c, x.d]
def Sp.cells (x : Sp) : List Int := [x.lo, x.hi]
def Dy.cells (x : Dy) : List Int := [x.need.lo, x.need.hi, x.make.lo, x.make.hi, x.loss.lo, x.loss.hi]

/-- A slice of elements of sz integers each, as it reads in a world. -/
def Sl {α : Type} (sz : Nat) (cells : α → List Int) (w : World) (a : Option Addr) (xs : List α) : Prop :=
  0 < xs.length → ∃ b off, a = some ⟨b, off, none⟩ ∧ b < w.heap.size ∧ ∀ j x i u, xs[j]? = some x → (cells x)[i]? = some u → w.cell? ⟨b, off + j * sz + i, none⟩ = some (.int .i64 u)

/-- A slice of integers, as it reads in a world. -/
def IntSl (w : World) (a : Option Addr) (xs : List Int) : Prop :=
  0 < xs.length → ∃ b off, a = some ⟨b, off, none⟩ ∧ b < w.heap.size ∧ ∀ j, j < xs.length → w.cell? ⟨b, off + j, none⟩ = some (.int .i64 (xs[j]?.getD 0))

theorem Sl.below {α : Type} {sz : Nat} {cells : α → List Int} {w w' : World} {a : Option Addr} {xs : List α} (h : Sl sz cells w a xs) (hb : Below w.heap.size w w') : Sl sz cells w' a xs := fun h0 => by
  obtain ⟨b, off, rfl, hbs, hc⟩ := h h0
  exact ⟨b, off, rfl, Nat.lt_of_lt_of_le hbs hb.size, fun j x i u hx hu => (hb.cell (p := ⟨b, off + j * sz + i, none⟩) hbs).trans (hc j x i u hx hu)⟩

theorem IntSl.below {w w' : World} {a : Option Addr} {xs : List Int} (h : IntSl w a xs) (hb : Below w.heap.size w w') : IntSl w' a xs := fun h0 => by
  obtain ⟨b, off, rfl, hbs, hc⟩ := h h0
  exact ⟨b, off, rfl, Nat.lt_of_lt_of_le hbs hb.size, fun j hj => (hb.cell (p := ⟨b, off + j, none⟩) hbs).trans (hc j hj)⟩

theorem below_self {a w w' : World} (h : Below a.heap.size a w) (k : Below w.heap.size w w') : Below a.heap.size a w' := h.trans (k.mono h.size)

theorem all_take_succ {α : Type} (p : α → Bool) (xs : List α) (k : Nat) (h : k < xs.length) : (xs.take (k+1)).all p = ((xs.take k).all p && p xs[k]) := by
  rw [List.take_add_one, List.getElem?_eq_getElem h, List.all_append]; simp
theorem all_false {α : Type} (p : α → Bool) (xs : List α) (k : Nat) (h : k < xs.length) (hp : p xs[k] = false) : xs.all p = false := by
  rw [List.all_eq_false]; exact ⟨xs[k], List.getElem_mem h, by simp [hp]⟩

theorem bcell {W w1 : World} (hb : Below W.heap.size W w1) : (∀ b o, b < W.heap.size → w1.cell? ⟨b, o, none⟩ = W.cell? ⟨b, o, none⟩) ∧ (∀ b o, b < W.heap.size → w1.frozen? ⟨b, o, none⟩ = W.frozen? ⟨b, o, none⟩) :=
  ⟨fun b o h => hb.cell (p := ⟨b, o, none⟩) h, fun b o h => hb.frozen (p := ⟨b, o, none⟩) h⟩

end Go.Proofs.Ytiggelffmfinoaa
