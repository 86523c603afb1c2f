/-
Sorting by insertion, of lists.
  No program is named here.
The contract of insertionSortOrdered over this seat's program.
  What is proved: it puts a row's numbers in order; nothing else that was there before has turned.
  Conditions: a row of 1 to 12 numbers.
The contracts of bits.Len, of pdqsortOrdered and of slices.Sort over this seat's program.
  What is proved: a row's numbers stand in order; nothing else that was there before has turned.
  Conditions: a row of 1 to 6 numbers.
The contract of Picked over this seat's program.
  What is proved: it hands back a list of so many numbers of loops, in order; the deck has dealt, and nothing else that was there before has turned.
  Conditions: a deck that has dealt at most 100000 times; 1 to 6 loops and laps.
What CourseYielded asks of Yield and of lists that are tried.
  No program is named here beyond those below. Conditions: stadiums and rules that Check passes.
What the great laws over made stadiums share: made stadiums pass Check, picked courses, and what lies while such a law runs.
  Conditions: stadiums and rules that Made makes.
-/
import Derived.Test.YtgldfnkjfgcjpaaGreatPart16
namespace Go.Proofs.YtgldfnkjfgcjpaaGreat

/-- The element at a place. -/
def atI (o : List Int) (p : Nat) : Int := o[p]?.getD 0
/-- The first i + 1 elements stand in order but for the one at place j, which is no greater than those behind it. -/
def SrtX (o : List Int) (i j : Nat) : Prop := ∀ p q : Nat, p < q → q ≤ i → q ≠ j → atI o p ≤ atI o q
/-- The first i elements stand in order. -/
def Srt (o : List Int) (i : Nat) : Prop := ∀ p q : Nat, p < q → q < i → atI o p ≤ atI o q
/-- Two neighbours change places. -/
def swapI (o : List Int) (j : Nat) : List Int := (o.set j (atI o (j - 1))).set (j - 1) (atI o j)
theorem swapI_len (o : List Int) (j : Nat) : (swapI o j).length = o.length := by simp [swapI]
theorem swapI_at (o : List Int) (j : Nat) (h0 : 0 < j) (hj : j < o.length) (p : Nat) : atI (swapI o j) p = if p = j - 1 then atI o j else if p = j then atI o (j - 1) else atI o p := by
  unfold swapI
  by_cases h1 : p = j - 1
  · subst h1
    rw [if_pos rfl]
    show ((List.set _ _ _)[j - 1]?).getD 0 = _
    rw [List.getElem?_set_self (by simp; omega)]; rfl
  · rw [if_neg h1]
    show ((List.set _ _ _)[p]?).getD 0 = _
    rw [List.getElem?_set_ne (by omega)]
    by_cases h2 : p = j
    · subst h2
      rw [if_pos rfl, List.getElem?_set_self hj]; rfl
    · rw [if_neg h2, List.getElem?_set_ne (by omega)]; rfl
theorem Srt.start {o : List Int} {i : Nat} (h : Srt o i) : SrtX o i i := fun p q hp hq hn => h p q hp (by omega)
theorem SrtX.step {o : List Int} {i j : Nat} (h : SrtX o i j) (h0 : 0 < j) (hi : j ≤ i) (hj : j < o.length) (hlt : atI o j < atI o (j - 1)) : SrtX (swapI o j) i (j - 1) := by
  intro p q hp hq hn
  rw [swapI_at o j h0 hj p, swapI_at o j h0 hj q, if_neg hn]
  by_cases hqj : q = j
  · rw [if_pos hqj]
    by_cases hp1 : p = j - 1
    · rw [if_pos hp1]; omega
    · rw [if_neg hp1, if_neg (by omega)]
      exact h p (j - 1) (by omega) (by omega) (by omega)
  · rw [if_neg hqj]
    by_cases hp1 : p = j - 1
    · rw [if_pos hp1]
      exact h j q (by omega) hq hqj
    · rw [if_neg hp1]
      by_cases hpj : p = j
      · rw [if_pos hpj]
        exact h (j - 1) q (by omega) hq hqj
      · rw [if_neg hpj]
        exact h p q hp hq hqj
theorem SrtX.stop0 {o : List Int} {i : Nat} (h : SrtX o i 0) : Srt o (i + 1) := fun p q hp hq => h p q hp (by omega) (by omega)
theorem SrtX.stop {o : List Int} {i j : Nat} (h : SrtX o i j) (h0 : 0 < j) (hge : ¬ atI o j < atI o (j - 1)) : Srt o (i + 1) := by
  intro p q hp hq
  by_cases hqj : q = j
  · subst hqj
    by_cases hp1 : p = q - 1
    · subst hp1; omega
    · have := h p (q - 1) (by omega) (by omega) (by omega)
      omega
  · exact h p q hp (by omega) hqj
theorem Srt.one (o : List Int) : Srt o 1 := fun p q hp hq => by omega
theorem Srt.pairs {o : List Int} (h : Srt o o.length) : o.Pairwise (fun a b => a ≤ b) := by
  rw [List.pairwise_iff_getElem]
  intro p q hp hq hlt
  have := h p q hlt hq
  unfold atI at this
  rw [List.getElem?_eq_getElem hp, List.getElem?_eq_getElem hq] at this
  exact this
theorem swapI_perm (o : List Int) (j : Nat) (h0 : 0 < j) (hj : j < o.length) : (swapI o j).Perm o := by
  have hj1 : j - 1 < o.length := by omega
  have e : swapI o j = (o.set j o[j - 1]).set (j - 1) o[j] := by
    unfold swapI atI
    rw [List.getElem?_eq_getElem hj, List.getElem?_eq_getElem hj1]; rfl
  rw [e]
  have h := Array.swap_perm (xs := o.toArray) (i := j) (j := j - 1) (by simpa using hj) (by simpa using hj1)
  have h2 := h.toList
  rw [Array.toList_swap] at h2
  simpa using h2
end Go.Proofs.YtgldfnkjfgcjpaaGreat

namespace Go.Proofs.YtgldfnkjfgcjpaaGreat
open Go.RowKit Go.Shelf
attribute [local go_sem] Oper.semAt_some

/-- A row's beginning: numbers. -/
def RowI (W : World) (g : Nat) (o : List Int) : Prop := ∃ cur : Array Value, W.heap[g]? = some (.cells cur 3 (0, 0)) ∧ cur.toList.take o.length = o.map (Value.int .i64)
theorem RowI.cell {W : World} {g : Nat} {o : List Int} (h : RowI W g o) {j : Nat} (hj : j < o.length) : W.cell? ⟨g, j, none⟩ = some (.int .i64 (atI o j)) := by
  obtain ⟨cur, h1, h2⟩ := h
  refine blk_cell h1 j ?_
  have h3 : (cur.toList.take o.length)[j]? = some (.int .i64 (atI o j)) := by
    rw [h2, List.getElem?_map]
    unfold atI
    rw [List.getElem?_eq_getElem hj]; rfl
  rw [List.getElem?_take_of_lt hj, Array.getElem?_toList] at h3
  exact h3
theorem RowI.free {W : World} {g : Nat} {o : List Int} (h : RowI W g o) (j : Nat) : W.frozen? ⟨g, j, none⟩ = false := by
  obtain ⟨cur, h1, _⟩ := h; exact blk_free h1
theorem RowI.set {W : World} {g : Nat} {o : List Int} (h : RowI W g o) (j : Nat) (x : Int) : RowI (W.setCell ⟨g, j, none⟩ (.int .i64 x)) g (o.set j x) := by
  obtain ⟨cur, h1, h2⟩ := h
  exact ⟨_, blk_setCell h1, by rw [List.length_set, Array.toList_setIfInBounds, List.take_set, h2, List.map_set]⟩
theorem RowI.keep {W W' : World} {g : Nat} {o : List Int} (h : RowI W g o) (hk : W'.heap[g]? = W.heap[g]?) : RowI W' g o := by
  obtain ⟨cur, h1, h2⟩ := h
  exact ⟨cur, hk.trans h1, h2⟩

/-- What lies while a row is put in order. -/
structure SS (w0 : World) (g : Nat) (o0 : List Int) (W : World) (o : List Int) : Prop where
  ap : Apart (fun j => j = g) w0 W
  row : RowI W g o
  p : o.Perm o0
theorem SS.drew {w0 W : World} {g : Nat} {o0 o : List Int} (h : SS w0 g o0 W o) : SS w0 g o0 W.drew o := ⟨h.ap.drew', h.row, h.p⟩
theorem SS.drewN {w0 W : World} {g : Nat} {o0 o : List Int} (h : SS w0 g o0 W o) (n : Nat) : SS w0 g o0 (W.drewN n) o := by
  induction n with
  | zero => exact h
  | succ n ih => exact ih.drew
theorem SS.put {w0 W : World} {g : Nat} {o0 o : List Int} (h : SS w0 g o0 W o) (j : Nat) (h0 : 0 < j) (hj : j < o.length) : SS w0 g o0 ((W.setCell ⟨g, j, none⟩ (.int .i64 (atI o (j - 1)))).setCell ⟨g, j - 1, none⟩ (.int .i64 (atI o j))) (swapI o j) :=
  ⟨h.ap.trans ((Apart.setCell (own := fun j => j = g) W (p := ⟨g, j, none⟩) rfl _).trans (Apart.setCell (own := fun j => j = g) _ (p := ⟨g, j - 1, none⟩) rfl _)), (h.row.set j _).set (j - 1) _, (swapI_perm o j h0 hj).trans h.p⟩
set_option maxRecDepth 100000 in
set_option maxHeartbeats 4000000 in
theorem insert_any (g : Nat) (o : List Int) (n cap : Nat) (w : World) (h : RowI w g o) (hn : o.length = n) (hl : 1 ≤ n) (hm : n ≤ 12) :
  Calls Tryz.prog 157 #[.slice (some ⟨g, 0, none⟩) n cap, .int .i64 0, .int .i64 n] w fun e w' => (∃ v, e = .returned v) ∧ ∃ o', SS w g o w' o' ∧ Srt o' n := by
  go_enter Tryz.func157, Tryz.ntmps157
  have HW : Hid (SS w g o w o) := ⟨Apart.refl _ _, h, List.Perm.refl _⟩
  have HN : Hid (o.length = n) := hn
  clear h hn
  go_wp2_with (fail)
  go_loopw [6] (fun v W => ∃ (i : Nat), 1 ≤ i ∧ i ≤ n ∧ v = .int .i64 i ∧ Hid (∃ o', SS w g o W o' ∧ Srt o' i)) (fun v _ => n - (intOf v).toNat)
  case atStart => exact ⟨1, Nat.le_refl _, hl, rfl, o, HW.out, Srt.one _⟩
  case round =>
    obtain ⟨i, hi1, hin, rfl, hI⟩ := hrel
    obtain ⟨V, hV⟩ : ∃ V, V = wr := ⟨_, rfl⟩
    subst hV
    by_cases hlt : i < n
    · have HS0 : Hid (∃ o', SS w g o V o' ∧ SrtX o' i i) := by
        obtain ⟨o', h1, h2⟩ := hI.out
        exact ⟨o', h1, h2.start⟩
      clear hI
      go_wp2_with (fail)
      go_loopw [7] (fun v W => ∃ (j : Nat), j ≤ i ∧ v = .int .i64 j ∧ Hid (∃ o', SS w g o W o' ∧ SrtX o' i j)) (fun v _ => (intOf v).toNat)
      case atStart => exact ⟨i, Nat.le_refl _, rfl, HS0.out⟩
      case round =>
        obtain ⟨j, hji, rfl, hJ⟩ := hrel
        obtain ⟨U, hU⟩ : ∃ U, U = wr := ⟨_, rfl⟩
        subst hU
        obtain ⟨o', hS, hX⟩ := hJ.out
        have HU := Lib.hid hS
        have HX := Lib.hid hX
        have HL : Hid (o'.length = n) := by
          show o'.length = n
          rw [hS.p.length_eq]; exact HN.out
        clear hS hX hJ
        by_cases h0 : 0 < j
        · obtain ⟨k, rfl⟩ : ∃ k, j = k + 1 := ⟨j - 1, by omega⟩
          have c1 := HU.out.row.cell (j := k + 1) (by have := HL.out; omega)
          have c0 := HU.out.row.cell (j := k) (by have := HL.out; omega)
          rw [show ((k + 1 : Nat) : Int) = (k : Int) + 1 from by omega]
          have q1 : (0 : Int) ≤ (k : Int) + 1 := by omega
          have q2 : ((k : Int) + 1).toNat = k + 1 := by omega
          have q3 : IntKind.i64.wrap (k : Int) = k := by rw [IntWalk.i64_in _ (by omega)]
          have q4 : (k : Int) + 1 < n := by omega
          have q5 : (k : Int) < n := by omega
          go_wp2_with (fail)
          go_quiet ((go_at_call 163; exact q_of (less_any _ _ _)))
          have HD := Lib.hid (HU.out.drewN nq)
          clear HU c1 c0
          generalize U.drewN nq = U1 at HD ⊢
          by_cases hd : atI o' (k + 1) < atI o' k
          · go_upto_region 6 with (fail)
            refine wp_region_split (S := fun _ => True) [16, 17] 16 (by kernel_rfl) (by kernel_rfl) rfl ?_
            have S2 := Lib.hid HD.out.drew
            clear HD
            generalize U1.drew = U2 at S2 ⊢
            rw [show firstL _ [16, 17] = #[false, false, false, false, false, false, false, false, false, false, false, false, false, false, false, false, true, true] from by kernel_rfl]
            have c1 := S2.out.row.cell (j := k + 1) (by have := HL.out; omega)
            have c0 := S2.out.row.cell (j := k) (by have := HL.out; omega)
            have f1 := S2.out.row.free (k + 1)
            have S3 := Lib.hid (S2.out.row.set (k + 1) (atI o' k))
            have c3 := S3.out.cell (j := k) (by rw [List.length_set]; have := HL.out; omega)
            have f3 := S3.out.free k
            have S4 : Hid (SS w g o ((U2.setCell ⟨g, k + 1, none⟩ (.int .i64 (atI o' k))).setCell ⟨g, k, none⟩ (.int .i64 (atI o' (k + 1)))) (swapI o' (k + 1)) ∧ SrtX (swapI o' (k + 1)) i k) := ⟨S2.out.put (k + 1) (by omega) (by have := HL.out; omega), HX.out.step (by omega) hji (by have := HL.out; omega) hd⟩
            refine wpAnyH_take (i := 0) (v := .slice (some ⟨g, 0, none⟩) n cap) rfl (by kernel_rfl) (by kernel_rfl) (by kernel_rfl) (fun _ _ _ h => h) (Or.inl ⟨by rfl, by (intro W hSw; clear hSw; go_simp)⟩) trivial ?_
            simp only [Act.put, List.getElem_toArray, List.getElem_cons_zero, List.setIfInBounds_toArray, List.set_cons_zero, List.set_cons_succ]
            refine wpAnyH_take (i := 1) (v := .int .i64 ((k : Int) + 1)) rfl (by kernel_rfl) (by kernel_rfl) (by kernel_rfl) (fun _ _ _ h => h) (Or.inl ⟨by rfl, by (intro W hSw; clear hSw; go_simp)⟩) trivial ?_
            simp only [Act.put, List.getElem_toArray, List.getElem_cons_succ, List.getElem_cons_zero, List.setIfInBounds_toArray, List.set_cons_zero, List.set_cons_succ]
            refine wpAnyH_take (i := 2) (v := .slice (some ⟨g, 0, none⟩) n cap) rfl (by kernel_rfl) (by kernel_rfl) (by kernel_rfl) (fun _ _ _ h => h) (Or.inl ⟨by rfl, by (intro W hSw; clear hSw; go_simp)⟩) trivial ?_
            simp only [Act.put, List.getElem_toArray, List.getElem_cons_succ, List.getElem_cons_zero, List.setIfInBounds_toArray, List.set_cons_zero, List.set_cons_succ]
            refine wpAnyH_take (i := 3) (v := .int .i64 ((k : Int) + 1)) rfl (by kernel_rfl) (by kernel_rfl) (by kernel_rfl) (fun _ _ _ h => h) (Or.inl ⟨by rfl, by (intro W hSw; clear hSw; go_simp)⟩) trivial ?_
            simp only [Act.put, List.getElem_toArray, List.getElem_cons_succ, List.getElem_cons_zero, List.setIfInBounds_toArray, List.set_cons_zero, List.set_cons_succ]
            refine wpAnyH_take (i := 4) (v := .int .i64 (k : Int)) rfl (by kernel_rfl) (by kernel_rfl) (by kernel_rfl) (fun _ _ _ h => h) (Or.inl ⟨by rfl, by (intro W hSw; clear hSw; go_simp)⟩) trivial ?_
            simp only [Act.put, List.getElem_toArray, List.getElem_cons_succ, List.getElem_cons_zero, List.setIfInBounds_toArray, List.set_cons_zero, List.set_cons_succ]
            refine wpAnyH_take (i := 5) (v := .slice (some ⟨g, 0, none⟩) n cap) rfl (by kernel_rfl) (by kernel_rfl) (by kernel_rfl) (fun _ _ _ h => h) (Or.inl ⟨by rfl, by (intro W hSw; clear hSw; go_simp)⟩) trivial ?_
            simp only [Act.put, List.getElem_toArray, List.getElem_cons_succ, List.getElem_cons_zero, List.setIfInBounds_toArray, List.set_cons_zero, List.set_cons_succ]
            refine wpAnyH_take (i := 6) (v := .int .i64 ((k : Int) + 1)) rfl (by kernel_rfl) (by kernel_rfl) (by kernel_rfl) (fun _ _ _ h => h) (Or.inl ⟨by rfl, by (intro W hSw; clear hSw; go_simp)⟩) trivial ?_
            simp only [Act.put, List.getElem_toArray, List.getElem_cons_succ, List.getElem_cons_zero, List.setIfInBounds_toArray, List.set_cons_zero, List.set_cons_succ]
            refine wpAnyH_take (i := 7) (v := .int .i64 (k : Int)) rfl (by kernel_rfl) (by kernel_rfl) (by kernel_rfl) (fun _ _ _ h => h) (Or.inl ⟨by rfl, by (intro W hSw; clear hSw; go_simp)⟩) trivial ?_
            simp only [Act.put, List.getElem_toArray, List.getElem_cons_succ, List.getElem_cons_zero, List.setIfInBounds_toArray, List.set_cons_zero, List.set_cons_succ]
            refine wpAnyH_take (i := 8) (v := .pointer (some ⟨g, k, none⟩)) rfl (by kernel_rfl) (by kernel_rfl) (by kernel_rfl) (fun _ _ _ h => h) (Or.inl ⟨by rfl, by (intro W hSw; clear hSw; go_simp)⟩) trivial ?_
            simp only [Act.put, List.getElem_toArray, List.getElem_cons_succ, List.getElem_cons_zero, List.setIfInBounds_toArray, List.set_cons_zero, List.set_cons_succ]
            refine wpAnyH_take (i := 10) (v := .slice (some ⟨g, 0, none⟩) n cap) rfl (by kernel_rfl) (by kernel_rfl) (by kernel_rfl) (fun _ _ _ h => h) (Or.inl ⟨by rfl, by (intro W hSw; clear hSw; go_simp)⟩) trivial ?_
            simp only [Act.put, List.getElem_toArray, List.getElem_cons_succ, List.getElem_cons_zero, List.setIfInBounds_toArray, List.set_cons_zero, List.set_cons_succ]
            refine wpAnyH_take (i := 11) (v := .int .i64 ((k : Int) + 1)) rfl (by kernel_rfl) (by kernel_rfl) (by kernel_rfl) (fun _ _ _ h => h) (Or.inl ⟨by rfl, by (intro W hSw; clear hSw; go_simp)⟩) trivial ?_
            simp only [Act.put, List.getElem_toArray, List.getElem_cons_succ, List.getElem_cons_zero, List.setIfInBounds_toArray, List.set_cons_zero, List.set_cons_succ]
            refine wpAnyH_take (i := 12) (v := .pointer (some ⟨g, k + 1, none⟩)) rfl (by kernel_rfl) (by kernel_rfl) (by kernel_rfl) (fun _ _ _ h => h) (Or.inl ⟨by rfl, by (intro W hSw; clear hSw; go_simp)⟩) trivial ?_
            simp only [Act.put, List.getElem_toArray, List.getElem_cons_succ, List.getElem_cons_zero, List.setIfInBounds_toArray, List.set_cons_zero, List.set_cons_succ]
            refine wpAnyH_ready (rs := [9, 13]) (by kernel_rfl) (by simp) ?_
            refine AllReadyH.cons (o := _) rfl (fun K hK => ?_) ?_
            · skip
              go_simp
              refine hK.out _ _ trivial (fun _ => ?_)
              clear hK
              simp only [List.setIfInBounds_toArray, List.set_cons_zero, List.set_cons_succ]
              refine wpAnyH_ready (rs := [13]) (by kernel_rfl) (by simp) ?_
              refine AllReadyH.cons (o := _) rfl (fun K hK => ?_) AllReadyH.nil
              go_simp
              refine hK.out _ _ trivial (fun _ => ?_)
              clear hK
              simp only [List.setIfInBounds_toArray, List.set_cons_zero, List.set_cons_succ]
              refine wpAnyH_take (i := 14) (v := .pointer (some ⟨g, k + 1, none⟩)) rfl (by kernel_rfl) (by kernel_rfl) (by kernel_rfl) (fun _ _ _ h => h) (Or.inl ⟨by rfl, by (intro W hSw; clear hSw; go_simp)⟩) trivial ?_
              simp only [Act.put, List.getElem_toArray, List.getElem_cons_succ, List.getElem_cons_zero, List.setIfInBounds_toArray, List.set_cons_zero, List.set_cons_succ]
              refine wpAnyH_ready (rs := [15]) (by kernel_rfl) (by simp) ?_
              refine AllReadyH.cons (o := _) rfl (fun K hK => ?_) AllReadyH.nil
              go_simp
              refine hK.out _ _ trivial (fun _ => ?_)
              clear hK
              simp only [List.setIfInBounds_toArray, List.set_cons_zero, List.set_cons_succ]
              refine wpAnyH_done (by kernel_rfl) ?_ _
              show wpList _ _ _ (opsAt _ [16, 17]) _ _
              simp only [opsAt, List.filterMap_cons, List.filterMap_nil, List.getElem?_toArray, List.getElem?_cons_succ, List.getElem?_cons_zero]
              go_wp2_with (fail)
              go_roundw
              case rel => exact ⟨k, by omega, rfl, _, S4.out.1, S4.out.2⟩
              case measure => first | (simp [intOf]; done) | (simp [intOf]; omega)
            refine AllReadyH.cons (o := _) rfl (fun K hK => ?_) AllReadyH.nil
            go_simp
            refine hK.out _ _ trivial (fun _ => ?_)
            clear hK
            simp only [List.setIfInBounds_toArray, List.set_cons_zero, List.set_cons_succ]
            refine wpAnyH_ready (rs := [9]) (by kernel_rfl) (by simp) ?_
            refine AllReadyH.cons (o := _) rfl (fun K hK => ?_) AllReadyH.nil
            go_simp
            refine hK.out _ _ trivial (fun _ => ?_)
            clear hK
            simp only [List.setIfInBounds_toArray, List.set_cons_zero, List.set_cons_succ]
            refine wpAnyH_take (i := 14) (v := .pointer (some ⟨g, k + 1, none⟩)) rfl (by kernel_rfl) (by kernel_rfl) (by kernel_rfl) (fun _ _ _ h => h) (Or.inl ⟨by rfl, by (intro W hSw; clear hSw; go_simp)⟩) trivial ?_
            simp only [Act.put, List.getElem_toArray, List.getElem_cons_succ, List.getElem_cons_zero, List.setIfInBounds_toArray, List.set_cons_zero, List.set_cons_succ]
            refine wpAnyH_ready (rs := [15]) (by kernel_rfl) (by simp) ?_
            refine AllReadyH.cons (o := _) rfl (fun K hK => ?_) AllReadyH.nil
            go_simp
            refine hK.out _ _ trivial (fun _ => ?_)
            clear hK
            simp only [List.setIfInBounds_toArray, List.set_cons_zero, List.set_cons_succ]
            refine wpAnyH_done (by kernel_rfl) ?_ _
            show wpList _ _ _ (opsAt _ [16, 17]) _ _
            simp only [opsAt, List.filterMap_cons, List.filterMap_nil, List.getElem?_toArray, List.getElem?_cons_succ, List.getElem?_cons_zero]
            go_wp2_with (fail)
            go_roundw
            case rel => exact ⟨k, by omega, rfl, _, S4.out.1, S4.out.2⟩
            case measure => first | (simp [intOf]; done) | (simp [intOf]; omega)
          · have HO : Hid (∃ o', SS w g o U1 o' ∧ Srt o' (i + 1)) := ⟨o', HD.out, HX.out.stop (by omega) (by simpa using hd)⟩
            go_wp2_with (fail)
            go_roundw
            case rel => exact ⟨i + 1, by omega, by omega, by go_num, HO.out⟩
            case measure => first | (simp [intOf]; done) | (simp [intOf]; omega)
        · obtain rfl : j = 0 := by omega
          rw [show ((0 : Nat) : Int) = 0 from rfl]
          go_wp2_with (fail)
          go_quiet (fail)
          have HO : Hid (∃ o', SS w g o (U.drewN nq) o' ∧ Srt o' (i + 1)) := ⟨o', HU.out.drewN nq, HX.out.stop0⟩
          go_wp2_with (fail)
          go_roundw
          case rel => exact ⟨i + 1, by omega, by omega, by go_num, HO.out⟩
          case measure => first | (simp [intOf]; done) | (simp [intOf]; omega)
    · have hin' : i = n := by omega
      subst hin'
      go_wp2_with (fail)
      refine bodyPost_end (v := .tuple #[]) (by simp [results, Tryz.results157, go_sem]) rfl ?_
      exact ⟨⟨_, rfl⟩, hI.out⟩
end Go.Proofs.YtgldfnkjfgcjpaaGreat

namespace Go.Proofs.YtgldfnkjfgcjpaaGreat
open Go.RowKit Go.Shelf
attribute [local go_sem] Oper.semAt_some

set_option maxRecDepth 100000 in
set_option maxHeartbeats 4000000 in
theorem len64_any (n : Nat) (hn : 1 ≤ n ∧ n ≤ 6) (w : World) : Calls Tryz.prog 167 #[.int .u64 n] w fun e w' => (∃ v : Int, e = .returned (.int .i64 v)) ∧ w = w' := by
  rcases (show n = 1 ∨ n = 2 ∨ n = 3 ∨ n = 4 ∨ n = 5 ∨ n = 6 by omega) with rfl | rfl | rfl | rfl | rfl | rfl
  all_goals
    go_enter Tryz.func167, Tryz.ntmps167
    go_wp2
    go_ret
    exact ⟨⟨_, rfl⟩, rfl⟩

set_option maxRecDepth 100000 in
set_option maxHeartbeats 4000000 in
theorem len_any (n : Nat) (hn : 1 ≤ n ∧ n ≤ 6) (w : World) : Calls Tryz.prog 117 #[.int .u64 n] w fun e w' => (∃ v : Int, e = .returned (.int .i64 v)) ∧ w = w' := by
  go_enter Tryz.func117, Tryz.ntmps117
  go_wp2_with (fail)
  refine (len64_any n hn _).mono ?_
  rintro e w' ⟨⟨v, rfl⟩, rfl⟩
  go_wp2
  go_ret
  exact ⟨⟨_, rfl⟩, rfl⟩

set_option maxRecDepth 100000 in
set_option maxHeartbeats 4000000 in
theorem pdq_any (g : Nat) (o : List Int) (n cap : Nat) (d : Int) (w : World) (h : RowI w g o) (hn : o.length = n) (hl : 1 ≤ n) (hm : n ≤ 12) :
    Calls Tryz.prog 116 #[.slice (some ⟨g, 0, none⟩) n cap, .int .i64 0, .int .i64 n, .int .i64 d] w fun e w' => (∃ v, e = .returned v) ∧ ∃ o', SS w g o w' o' ∧ Srt o' n := by
  have HC := Lib.hid (insert_any g o n cap w h hn hl hm)
  clear h hn
  have q : IntKind.i64.wrap (n : Int) = n := by rw [IntWalk.i64_in _ (by omega)]
  go_enter Tryz.func116, Tryz.ntmps116
  go_wp2_with (fail)
  refine wp_loop_once ?_
  go_wp2_with (fail)
  refine HC.out.mono ?_
  rintro e w' ⟨⟨v, rfl⟩, hS⟩
  have HS := Lib.hid hS
  clear hS
  go_wp2_with (fail)
  refine bodyPost_ret (v := .tuple #[]) (by simp [results, Tryz.results116, go_sem]) rfl ?_
  exact ⟨⟨_, rfl⟩, HS.out⟩

set_option maxRecDepth 100000 in
set_option maxHeartbeats 4000000 in
theorem sort_any (g : Nat) (o : List Int) (n cap : Nat) (w : World) (h : RowI w g o) (hn : o.length = n) (hl : 1 ≤ n) (hm : n ≤ 6) :
    Calls Tryz.prog 64 #[.slice (some ⟨g, 0, none⟩) n cap] w fun e w' => (∃ v, e = .returned v) ∧ ∃ o', SS w g o w' o' ∧ Srt o' n := by
  have HH : Hid (RowI w g o ∧ o.length = n) := ⟨h, hn⟩
  clear h hn
  go_enter Tryz.func64, Tryz.ntmps64
  go_wp2_with (fail)
  refine (len_any n ⟨hl, hm⟩ _).mono ?_
  rintro e w' ⟨⟨v, rfl⟩, rfl⟩
  go_wp2_with (fail)
  refine (pdq_any g o n cap v _ HH.out.1 HH.out.2 hl (by omega)).mono ?_
  rintro e w' ⟨⟨v, rfl⟩, hS⟩
  have HS := Lib.hid hS
  clear hS
  go_wp2_with (fail)
  refine bodyPost_end (v := .tuple #[]) (by simp [results, Tryz.results64, go_sem]) rfl ?_
  exact ⟨⟨_, rfl⟩, HS.out⟩
end Go.Proofs.YtgldfnkjfgcjpaaGreat

namespace Go.Proofs.YtgldfnkjfgcjpaaGreat
open Go.RowKit Go.Shelf
attribute [local go_sem] Oper.semAt_some

/-- What lies while a course is dealt. -/
structure PK (w0 : World) (B L : Nat) (a : Option Addr) (n cap k : Nat) (W : World) (v : Value) (o : List Int) : Prop where
  ap : Apart (fun j => j = B) w0 W
  dk : Deck W B L a n cap k
  row : W.ownsRow w0.heap.size 3 1 v o.length (o.map (Value.int .i64))
  hL : L ≤ w0.heap.size
theorem PK.step {w0 W W' : World} {B L : Nat} {a : Option Addr} {n cap k k' : Nat} {v : Value} {o : List Int} (h : PK w0 B L a n cap k W v o) (ha : Apart (fun j => j = B) W W') (hd : Deck W' B L a n cap k') : PK w0 B L a n cap k' W' v o := by
  have hB : B < w0.heap.size := Nat.lt_of_lt_of_le h.dk.lt.1 h.hL
  exact ⟨h.ap.trans ha, hd, owns_same h.row (fun j h1 h2 => ha.block j h2 (by omega)), h.hL⟩
theorem PK.more {w0 W W' : World} {B L : Nat} {a : Option Addr} {n cap k : Nat} {v v' : Value} {o : List Int} {x : Int} {ob : Obj} (h : PK w0 B L a n cap k W v o) (hg : (W.alloc ob).grownBy W' v.ownBlock) (ho : W'.ownsRow w0.heap.size 3 1 v' (o.length + 1) (o.map (Value.int .i64) ++ [.int .i64 x])) :
    PK w0 B L a n cap k W' v' (o ++ [x]) := by
  have hrow : ∀ j, v.ownBlock = some j → w0.heap.size ≤ j := fun j hj => (h.row.lt j hj).1
  have hs := h.ap.size
  have hb : Below w0.heap.size W W' := (((Below.refl _ W).alloc (Nat.le_refl _) ob).mono hs).grown hg (by simp; omega) hrow
  have hk : ∀ j, j < w0.heap.size → W'.heap[j]? = W.heap[j]? := fun j h1 => hb.block j h1
  refine ⟨⟨hb.os.trans h.ap.os, hb.tape.trans h.ap.tape, hb.output.trans h.ap.output, Nat.le_trans hs hb.size, fun j hj hn => (hk j hj).trans (h.ap.block j hj hn)⟩, h.dk.keep hb.size (fun j hj => hk j (by have := h.hL; omega)), ?_, h.hL⟩
  rw [List.length_append, List.map_append]
  exact ho

set_option maxRecDepth 100000 in
set_option maxHeartbeats 4000000 in
theorem picked_any (B L : Nat) (a : Option Addr) (n cap k m p : Nat) (w : World) (hd : Deck w B L a n cap k) (hk : k ≤ 100000) (hm : 1 ≤ m ∧ m ≤ 12) (hp : 1 ≤ p ∧ p ≤ 6) :
    Calls Tryz.prog 58 #[.pointer (some ⟨B, 0, none⟩), .int .i64 m, .int .i64 p] w fun e w' => ∃ (g c : Nat) (o : List Int), e = .returned (.slice (some ⟨g, 0, none⟩) p c) ∧ o.length = p ∧ (∀ x ∈ o, 0 ≤ x ∧ x < (m : Int)) ∧ o.Pairwise (fun x y => x ≤ y) ∧ RowI w' g o ∧ w.heap.size ≤ g ∧ Deck w' B L a n cap (k + p) ∧ Apart (fun j => j = B) w w' := by
  obtain ⟨i0, hi, hz0, hz1, hz2⟩ := info_parts Tryz.info3
  have H0 : Hid (PK w B L a n cap k w (.slice none 0 0) []) := ⟨Apart.refl _ _, hd, World.ownsRow_nil _ _ _ _, hd.lt.2⟩
  clear hd
  go_enter Tryz.func58, Tryz.ntmps58
  go_wp2_with (fail)
  go_loopw [7, 9] (fun v i W => ∃ (j : Nat), i = .int .i64 j ∧ j ≤ p ∧ Hid (∃ o : List Int, o.length = j ∧ (∀ x ∈ o, 0 ≤ x ∧ x < (m : Int)) ∧ PK w B L a n cap (k + j) W v o)) (fun _ i _ => p - (intOf i).toNat)
  case atStart => exact ⟨0, rfl, Nat.zero_le _, [], rfl, (fun x hx => by cases hx), H0.out⟩
  case round =>
    obtain ⟨j, rfl, hj, hI⟩ := hrel
    obtain ⟨V, hV⟩ : ∃ V, V = wr := ⟨_, rfl⟩
    subst hV
    obtain ⟨o, hlo, hlx, hP⟩ := hI.out
    have HO : Hid (o.length = j ∧ ∀ x ∈ o, 0 ≤ x ∧ x < (m : Int)) := ⟨hlo, hlx⟩
    have HP := Lib.hid hP
    clear hlo hlx hP hI
    by_cases hlt : j < p
    · go_wp2_with (fail)
      refine (draw_any B L a n cap _ m V HP.out.dk (by omega) (by omega)).mono ?_
      rintro e V1 ⟨⟨x, rfl, x0, x1⟩, hD, hA⟩
      have P1 := Lib.hid (HP.out.step hA hD)
      clear hD hA HP
      have hx : Hid (0 ≤ x ∧ x < (m : Int)) := ⟨x0, by omega⟩
      clear x0 x1
      go_wp2_with (at_builtin; refine wpList_append_own _ rfl _ _ 27 rfl w.heap.size 3 i0 (.int .i64 0) 1 8 Tryz.underlying27 hi hz0 hz1 hz2 rfl (by decide) _ _ _ rfl (P1.out.row.alloc _) ⟨V1.heap.size, 0, none⟩ 1 1 [.int .i64 x] rfl rfl ?c1 ?c2 ?c3 ?c4 ?c5 ?_)
      case c1 => exact cell_one_new _ _ _
      case c2 => intro u hu; simp at hu; subst hu; rfl
      case c3 => have := HO.out.1; unfold maxLen; omega
      case c4 => have := HO.out.1; omega
      case c5 => have := P1.out.ap.size; simp; omega
      intro v' w2 hown2 hgrow2 _
      have P2 : Hid (∃ o' : List Int, o'.length = j + 1 ∧ (∀ x ∈ o', 0 ≤ x ∧ x < (m : Int)) ∧ PK w B L a n cap (k + (j + 1)) w2 v' o') := by
        refine ⟨o ++ [x], by simp [HO.out.1], fun y hy => ?_, P1.out.more hgrow2 hown2⟩
        rcases List.mem_append.1 hy with hy | hy
        · exact HO.out.2 y hy
        · simp at hy; subst hy; exact hx.out
      clear hown2 hgrow2 P1
      go_wp2_with (fail)
      go_roundw
      case rel => exact ⟨j + 1, by go_num, by omega, P2.out⟩
      case measure => first | (simp [intOf]; done) | (simp [intOf]; omega)
    · obtain rfl : j = p := by omega
      have hrow := HP.out.row
      rcases hrow.2 with ⟨_, h0⟩ | ⟨g, oc, cur, rfl, hgb, hg, hnc, hcm, hcs, htake⟩
      · have := HO.out.1; omega
      have HR : Hid (RowI V g o ∧ w.heap.size ≤ g) := ⟨⟨cur, hg, by simpa using htake⟩, hgb⟩
      rw [HO.out.1]
      clear hrow hgb hg hnc hcm hcs htake hlt
      go_wp2_with (fail)
      refine (sort_any g o j oc V HR.out.1 HO.out.1 hp.1 hp.2).mono ?_
      rintro e W ⟨⟨v, rfl⟩, o', hS, hT⟩
      have HE : Hid (o'.length = j ∧ (∀ x ∈ o', 0 ≤ x ∧ x < (m : Int)) ∧ o'.Pairwise (fun x y => x ≤ y) ∧ RowI W g o' ∧ w.heap.size ≤ g ∧ Deck W B L a n cap (k + j) ∧ Apart (fun j => j = B) w W) := by
        have h1 : o'.length = j := by rw [hS.p.length_eq]; exact HO.out.1
        have hg := HR.out.2
        refine ⟨h1, fun x hx => HO.out.2 x (hS.p.mem_iff.1 hx), Srt.pairs (by rw [h1]; exact hT), hS.row, hg, HP.out.dk.keep hS.ap.size (fun m hm => hS.ap.block m (by have := HP.out.dk.lt.2; omega) (by have := HP.out.hL; omega)), ?_⟩
        exact ⟨hS.ap.os.trans HP.out.ap.os, hS.ap.tape.trans HP.out.ap.tape, hS.ap.output.trans HP.out.ap.output, Nat.le_trans HP.out.ap.size hS.ap.size, fun m hm hn => (hS.ap.block m (by have := HP.out.ap.size; omega) (by omega)).trans (HP.out.ap.block m hm hn)⟩
      clear hS hT HR HP HO
      go_wp2_with (fail)
      go_ret
      exact ⟨g, oc, o', rfl, HE.out⟩
end Go.Proofs.YtgldfnkjfgcjpaaGreat

namespace Go.Proofs.YtgldfnkjfgcjpaaGreat
open Go.RowKit Go.Shelf

theorem sorted_pair {c : List Int} (h : c.Pairwise (fun x y => x ≤ y)) : sortedB c = true := by
  unfold sortedB
  rw [List.all_eq_true]
  intro j hj
  have hj' : j < c.length - 1 := by simpa using hj
  rw [decide_eq_true_eq, List.getElem?_eq_getElem (by omega), List.getElem?_eq_getElem (by omega)]
  exact (List.pairwise_iff_getElem.1 h) j (j + 1) (by omega) (by omega) (by omega)
/-- What a list of laps breaks. -/
theorem broken_ok {xs : List Lp} {r : Ru} {c : List Int} (h : checkE xs r = 0) (hl : (c.length : Int) = r.laps) (hi : ∀ i ∈ c, 0 ≤ i ∧ i < (xs.length : Int)) (hp : c.Pairwise (fun x y => x ≤ y)) : brokenR xs r c = (rulesL (judgeM xs r c), 0) := by
  have hd := laps_nat h
  have h1 : withinB c.length 1 6 = true := by simp [withinB]; omega
  have h2 : c.all (fun i => withinB i 0 ((xs.length : Int) - 1)) = true := by
    rw [List.all_eq_true]
    intro i hi'
    have := hi i hi'
    simp [withinB]; omega
  have hc : courseE xs.length c = 0 := by
    rw [courseE, if_pos h1, if_pos h2, if_pos (sorted_pair hp)]
  rw [brokenR, if_pos h, if_pos hc, if_pos hl]
theorem yFold_own (xs : List Lp) (r : Ru) : ∀ (cs : List (List Int)) (st : Option (List Int × List Int)) (S : List (List Int)), (∀ c ∈ cs, c ∈ S) → (∀ b f, st = some (b, f) → b = rulesL (judgeM xs r f) ∧ f ∈ S) → ∀ b f, cs.foldl (yStep xs r) st = some (b, f) → b = rulesL (judgeM xs r f) ∧ f ∈ S
  | [], st, S, _, h, b, f, e => h b f e
  | c :: cs, st, S, hS, h, b, f, e => by
    refine yFold_own xs r cs (yStep xs r st c) S (fun x hx => hS x (List.mem_cons_of_mem _ hx)) (fun b' f' e' => ?_) b f e
    have hc := hS c List.mem_cons_self
    unfold yStep at e'
    cases st with
    | none => cases e'; exact ⟨rfl, hc⟩
    | some s =>
      obtain ⟨b0, f0⟩ := s
      simp only at e'
      split at e'
      · cases e'; exact ⟨rfl, hc⟩
      · cases e'; exact h _ _ rfl
/-- Yield: its rules are those that its course breaks, and no list of laps breaks fewer, nor as many that come first. -/
theorem yield_facts {xs : List Lp} {r : Ru} (h : checkE xs r = 0) :
    (yieldR xs r).2.2 = 0 ∧ brokenR xs r (yieldR xs r).2.1 = ((yieldR xs r).1, 0) ∧ ((yieldR xs r).2.1.length : Int) = r.laps ∧ (yieldR xs r).1.length ≤ 5 ∧
    ∀ c : List Int, (c.length : Int) = r.laps → (∀ i ∈ c, 0 ≤ i ∧ i < (xs.length : Int)) → c.Pairwise (fun x y => x ≤ y) → brokenR xs r c = (rulesL (judgeM xs r c), 0) ∧ beforeB (rulesL (judgeM xs r c)) (yieldR xs r).1 = false := by
  obtain ⟨hxs, hl1, hl2⟩ := stad_ok (check_ok h).1
  have hd := laps_nat h
  have hne : extC xs.length r.laps.toNat [] 0 ≠ [] := by
    have := ext_one xs.length r.laps.toNat ⟨hl1, hl2⟩
    intro e; rw [e] at this; simp at this
  obtain ⟨b, f, a1, _, g1⟩ := yOf_min xs r _ hne
  obtain ⟨hb, hf⟩ := yFold_own xs r _ none _ (fun c hc => hc) (fun b f e => by cases e) b f a1
  have hfm := (ext_mem xs.length r.laps.toNat f).1 hf
  have hfl : (f.length : Int) = r.laps := by rw [hfm.1]; omega
  have hy : yieldR xs r = (b, f, 0) := by rw [yieldR, if_pos h, a1]; rfl
  rw [hy]
  refine ⟨rfl, ?_, hfl, ?_, fun c hc hi hp => ⟨broken_ok h hc hi hp, g1 c ((ext_mem _ _ c).2 ⟨by omega, hi, hp⟩)⟩⟩
  · show brokenR xs r f = (b, 0)
    rw [broken_ok h hfl hfm.2.1 hfm.2.2, ← hb]
  · show b.length ≤ 5
    rw [hb]; exact rulesL_le _
end Go.Proofs.YtgldfnkjfgcjpaaGreat

namespace Go.Proofs.YtgldfnkjfgcjpaaGreat
open Go.RowKit Go.Shelf
attribute [local go_sem] Oper.semAt_some

theorem small_ok {xs : List Lp} {r : Ru} (h1 : 1 ≤ xs.length ∧ xs.length ≤ 6) (hx : ∀ x ∈ xs, SmallLp x) (hr : SmallRu r) : checkE xs r = 0 := by
  have hs : stadE xs = 0 := by
    rw [stadE, if_pos (by simp [withinB]; omega), if_pos]
    rw [List.all_eq_true]
    intro x hx'
    have := hx x hx'
    unfold SmallLp at this
    simp [allowedB, withinB]; omega
  have hb : rulesB r = true := by
    unfold SmallRu at hr
    simp [rulesB, boundedB, withinB]
    omega
  rw [checkE, if_pos hs, if_pos hb]
theorem below_apart {W A B : World} {own : Nat → Prop} (h : Below W.heap.size W A) (k : Apart own A B) (hB : ∀ j, own j → W.heap.size ≤ j) : Below W.heap.size W B :=
  ⟨k.os.trans h.os, k.tape.trans h.tape, k.output.trans h.output, Nat.le_trans h.size k.size, fun j hj => (k.block j (Nat.lt_of_lt_of_le hj h.size) (fun hh => by have := hB j hh; omega)).trans (h.block j hj)⟩
theorem RowI.ints {W : World} {g : Nat} {o : List Int} (h : RowI W g o) : IntSl W (some ⟨g, 0, none⟩) o := fun _ => by
  have hl : g < W.heap.size := by obtain ⟨cur, h1, _⟩ := h; exact lt_of_block h1
  refine ⟨g, 0, rfl, hl, fun j hj => ?_⟩
  rw [Nat.zero_add, h.cell hj]; rfl
theorem picked_int (B L : Nat) (a : Option Addr) (n cap k : Nat) (m p : Int) (w : World) (hd : Deck w B L a n cap k) (hk : k ≤ 100000) (hm : 1 ≤ m ∧ m ≤ 12) (hp : 1 ≤ p ∧ p ≤ 6) :
    Calls Tryz.prog 58 #[.pointer (some ⟨B, 0, none⟩), .int .i64 m, .int .i64 p] w fun e w' => ∃ (g c : Nat) (o : List Int), e = .returned (.slice (some ⟨g, 0, none⟩) o.length c) ∧ (o.length : Int) = p ∧ (∀ x ∈ o, 0 ≤ x ∧ x < m) ∧ o.Pairwise (fun x y => x ≤ y) ∧ RowI w' g o ∧ Deck w' B L a n cap (k + 6) ∧ Apart (fun j => j = B) w w' := by
  obtain ⟨m, rfl⟩ := Int.eq_ofNat_of_zero_le (show 0 ≤ m by omega)
  obtain ⟨p, rfl⟩ := Int.eq_ofNat_of_zero_le (show 0 ≤ p by omega)
  refine (picked_any B L a n cap k m p w hd hk (by omega) (by omega)).mono ?_
  rintro e w' ⟨g, c, o, he, hl, h1, h2, h3, _, h4, h5⟩
  exact ⟨g, c, o, by rw [he, hl], by rw [hl], h1, h2, h3, h4.mono (by omega), h5⟩
/-- What lies while the law runs. -/
structure YI (w : World) (T B : Nat) (r : Ru) (sa : Option Addr) (xs : List Lp) (pa : Option Addr) (ys : List Int) (a2 : Option Addr) (n2 cap2 k : Nat) (W : World) : Prop where
  b : Below w.heap.size w W
  t : RuAt W T r
  sl : Sl 3 Lp.cells W sa xs
  dk : Deck W B (B + 1) a2 n2 cap2 k
  ys : IntSl W pa ys
  hT : w.heap.size ≤ T
  hB : T < B
  pos : 0 < xs.length
  fs : ∀ p, sa = some p → p.block < B
  fp : ∀ p, pa = some p → B < p.block
section
variable {w W W' : World} {T B : Nat} {r : Ru} {sa : Option Addr} {xs : List Lp} {pa : Option Addr} {ys : List Int} {a2 : Option Addr} {n2 cap2 k k' : Nat}
theorem YI.step (h : YI w T B r sa xs pa ys a2 n2 cap2 k W) (ha : Apart (fun j => j = B) W W') (hd : Deck W' B (B + 1) a2 n2 cap2 k') : YI w T B r sa xs pa ys a2 n2 cap2 k' W' := by
  have h1 := h.hT
  have h2 := h.hB
  exact ⟨below_apart h.b ha (fun j hj => by omega), (ha.block _ (lt_of_block h.t) (by omega)).trans h.t, sl_apart h.sl ha.size (fun p hp => ha.block _ (sl_lt h.sl h.pos p hp) (by have := h.fs p hp; omega)), hd, ints_same h.ys ha.size (fun x hx hl => ha.block _ hl (by have := h.fp x hx; omega)), h.hT, h.hB, h.pos, h.fs, h.fp⟩
theorem YI.below (h : YI w T B r sa xs pa ys a2 n2 cap2 k W) (hb : Below W.heap.size W W') : YI w T B r sa xs pa ys a2 n2 cap2 k W' := h.step (Apart.of_below hb) (h.dk.below hb)
theorem YI.mono (h : YI w T B r sa xs pa ys a2 n2 cap2 k W) (hk : k ≤ k') : YI w T B r sa xs pa ys a2 n2 cap2 k' W := ⟨h.b, h.t, h.sl, h.dk.mono hk, h.ys, h.hT, h.hB, h.pos, h.fs, h.fp⟩
end

end Go.Proofs.YtgldfnkjfgcjpaaGreat
