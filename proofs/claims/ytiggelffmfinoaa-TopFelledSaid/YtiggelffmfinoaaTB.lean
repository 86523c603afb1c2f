/-
  slices.Delete and slices.DeleteFunc over this seat's program, in the words of its other texts.
  What is proved: which numbers the row holds then, how long the slice is, and that no other block has turned.
  Conditions: rows of at most 1000 numbers that lie in a block of their own.
-/
import Derived.Test.YtiggelffmfinoaaTA
import Derived.Test.YtiggelffmfinoaaDL
import Derived.Test.YtiggelffmfinoaaN
namespace Go.Proofs.Ytiggelffmfinoaa
open Go.RowKit Go.Shelf Go.Lib Go.Sort
attribute [local go_sem] Oper.semAt_some

theorem put_eq (xs ys rest : List Int) (hl : ys.length = xs.length) : putCells (Value.int .i64) 0 ys.toArray ((xs ++ rest).map (Value.int .i64)).toArray = ((ys ++ rest).map (Value.int .i64)).toArray := by
  apply Array.ext_getElem?
  intro k
  simp only [putCells, Array.getElem?_mapIdx, List.getElem?_toArray, List.getElem?_map, List.size_toArray, Nat.zero_add, Nat.zero_le, true_and, Nat.sub_zero]
  by_cases hk : k < ys.length
  · rw [List.getElem?_append_left (by omega), List.getElem?_append_left hk, List.getElem?_eq_getElem (by omega), List.getElem?_eq_getElem hk]
    simp only [Option.map_some, if_pos hk]
    rw [getElem!_pos _ _ (by simpa using hk)]
    simp
  · rw [List.getElem?_append_right (by omega), List.getElem?_append_right (by omega), hl]
    cases rest[k - xs.length]? with
    | none => rfl
    | some v => simp [show ¬ k < xs.length from by omega]
theorem heap_putRow {w : World} {b t : Nat} {c : Array Value} {fr : Nat × Nat} (d : Array Int) (h : w.heap[b]? = some (.cells c t fr)) : (putRow (Value.int .i64) w b 0 d).heap[b]? = some (.cells (putCells (Value.int .i64) 0 d c) t fr) := by
  simp [putRow, mapBlock, Array.getElem?_modify, h, onCells]
theorem apart_putRow (w : World) (b q : Nat) (d : Array Int) : Apart (fun j => j = b) w (putRow (Value.int .i64) (Sort.ahead w q) b 0 d) := by
  refine ⟨rfl, rfl, rfl, by rw [size_putRow]; exact Nat.le_refl _, fun k _ hk => ?_⟩
  simp only [putRow, mapBlock, Array.getElem?_modify]
  rw [if_neg (by intro h; exact hk h.symm)]
  rfl
theorem holds_row {w : World} {b : Nat} {xs rest : List Int} (h : w.heap[b]? = some (.cells ((xs ++ rest).map (Value.int .i64)).toArray 3 (0, 0))) : Holds (Value.int .i64) w b 0 xs.toArray := fun j hj => by
  have hj' : j < xs.length := by simpa using hj
  rw [Nat.zero_add]
  refine ⟨blk_cell h j ?_, blk_free (j := j) h⟩
  rw [getElem!_pos xs.toArray j hj, List.getElem?_toArray, List.map_append, List.getElem?_append_left (by simpa using hj'), List.getElem?_map, List.getElem?_eq_getElem hj']
  rfl

set_option maxHeartbeats 1000000 in
theorem delete_t (b k : Nat) (xs rest : List Int) (w : World) (hb : w.heap[b]? = some (.cells ((xs ++ rest).map (Value.int .i64)).toArray 3 (0, 0))) (hk : k < xs.length) (hl : xs.length + rest.length ≤ 1000) :
    Calls Try.prog 22 #[.slice (some ⟨b, 0, none⟩) xs.length (xs.length + rest.length), .int .i64 (k : Int), .int .i64 ((k : Int) + 1)] w fun e w' => e = .returned (.slice (some ⟨b, 0, none⟩) (xs.length - 1) (xs.length + rest.length)) ∧
      w'.heap[b]? = some (.cells (((xs.take k ++ xs.drop (k + 1)) ++ (0 :: rest)).map (Value.int .i64)).toArray 3 (0, 0)) ∧ Apart (fun j => j = b) w w' := by
  obtain ⟨i0, hi, _, hz1, _⟩ := info_parts Try.info3
  have h := AnyE.slices_Delete Try.l22 (Value.int .i64) (fun _ => rfl) 0 Try.zeroValue3 i0 hi hz1 b 0 (xs.length + rest.length) k (k + 1) xs.toArray w (holds_row hb) (by simp) (by omega) (by omega) (by simp; omega)
  have ek : ((k + 1 : Nat) : Int) = (k : Int) + 1 := by omega
  rw [ek] at h
  simp only [List.size_toArray] at h
  change Calls Try.prog 22 _ _ _ at h
  refine h.mono ?_
  rintro e w' ⟨rfl, q, rfl⟩
  refine ⟨by rw [show k + 1 - k = 1 by omega], ?_, apart_putRow w b q _⟩
  rw [heap_putRow _ (show (Sort.ahead w q).heap[b]? = _ from hb)]
  have e3 : (List.take k xs.toArray.toList ++ List.drop (k + 1) xs.toArray.toList ++ List.replicate (k + 1 - k) (0 : Int)) = (xs.take k ++ xs.drop (k + 1)) ++ [0] := by
    rw [show k + 1 - k = 1 by omega]; rfl
  rw [e3, put_eq xs _ rest (by simp; omega), List.append_assoc (xs.take k ++ xs.drop (k + 1))]
  rfl

def zeroB (n : Int) : Bool := decide (n = 0)
theorem eg23 : ∀ args w, (callFunc 23 args).run Try.prog w = .ok (.enter 23 args) w := enters_of Try.func23 (by kernel_rfl) rfl
set_option maxHeartbeats 400000 in
theorem loops1_any (n : Int) (w : World) : Calls Try.prog 23 #[.int .i64 n] w fun e w' => e = .returned (.bool (zeroB n)) ∧ w' = w := by
  go_enter Try.func23, Try.ntmps23
  go_wp2
  all_goals go_ret
  all_goals exact ⟨ret_bool (by unfold zeroB; by_cases h : n = 0 <;> simp [h]), rfl⟩
set_option maxHeartbeats 1000000 in
theorem deleteFunc_t (b : Nat) (xs rest : List Int) (w : World) (hb : w.heap[b]? = some (.cells ((xs ++ rest).map (Value.int .i64)).toArray 3 (0, 0))) (hl : xs.length + rest.length ≤ 1000) :
    Calls Try.prog 24 #[.slice (some ⟨b, 0, none⟩) xs.length (xs.length + rest.length), .func (.func 23) #[] #[]] w fun e w' => e = .returned (.slice (some ⟨b, 0, none⟩) (xs.filter fun n => !zeroB n).length (xs.length + rest.length)) ∧ Apart (fun j => j = b) w w' := by
  have h := AnyE.slices_DeleteFunc Try.l24 (Value.int .i64) (fun _ => rfl) zeroB 23 #[] eg23 0 Try.zeroValue3 b 0 (xs.length + rest.length) xs.toArray w
    (fun W x _ => (loops1_any x W).mono fun _ _ hh => ⟨hh.1, 0, hh.2⟩) (fun n os dk x _ => (loops1_any x _).mono fun _ _ hh => ⟨hh.1, 0, hh.2⟩) (holds_row hb) (by simp; omega) (by simp)
  simp only [List.size_toArray] at h
  change Calls Try.prog 24 _ _ _ at h
  refine h.mono ?_
  rintro e w' ⟨rfl, q, rfl⟩
  exact ⟨rfl, apart_putRow w b q _⟩
end Go.Proofs.Ytiggelffmfinoaa
