/-
  The waits with the fewest misses, over this seat's program: helps, best, Best of package rifle.
  What is proved: what each call returns, and that nothing that was there before it has turned.
  Conditions: valid aims.
-/
import Derived.Test.YthajembgndhakaaM
namespace Go.Proofs.Ythajembgndhakaa
open Go.RowKit Go.Shelf
attribute [local go_sem] Oper.semAt_some

theorem Try.info3 : (Try.prog.info? 3).map (fun i => (i.zero, i.size, i.bytes)) = some (some (.int .i64 0), 1, 8) := by kernel_rfl
theorem mkInts (n : Nat) (h : n ≤ 1000) (w : World) : (Instr.makeSlice 27 (.int .i64 (n : Int)) (.int .i64 (n : Int))).run Try.prog w = .ok (.slice (some ⟨w.heap.size, 0, none⟩) n n) (w.alloc (.cells ((List.replicate n (0 : Int)).map (Value.int .i64)).toArray 3)) := by
  obtain ⟨i0, hi, hz0, hz1, hz2⟩ := info_parts Try.info3
  have hr := run_make (P := Try.prog) w 27 3 i0 (.int .i64 0) Try.underlying27 hi hz0 .i64 .i64 n n (by omega) (Int.le_refl _) (by rw [hz2]; omega) (by omega)
  simp only [Int.toNat_natCast, hz1, Nat.mul_one] at hr
  have e : madeCells (Value.int .i64 0).cells n = ((List.replicate n (0 : Int)).map (Value.int .i64)).toArray := by
    have := toList_madeCells_one (Value.int .i64 0) n
    rw [List.map_replicate, ← this]
    rfl
  rw [e] at hr
  exact hr

/-- By how much one more breath helps each shot: what the first k rounds have stored. -/
def hsTo (a : List (List Int)) (ws : List Int) : Nat → List Int
  | 0 => List.replicate a.length 0
  | k + 1 => (hsTo a ws k).set k (helpI (a[k]?.getD []) (ws[k]?.getD 0).toNat)
theorem hsTo_len (a : List (List Int)) (ws : List Int) (k : Nat) : (hsTo a ws k).length = a.length := by
  induction k with
  | zero => simp [hsTo]
  | succ k ih => rw [hsTo, List.length_set, ih]
theorem hsTo_at (a : List (List Int)) (ws : List Int) (k : Nat) (hk : k ≤ a.length) (j : Nat) : (hsTo a ws k)[j]?.getD 0 = if j < k then helpI (a[j]?.getD []) (ws[j]?.getD 0).toNat else 0 := by
  induction k with
  | zero => simp [hsTo, List.getElem?_replicate]; split <;> rfl
  | succ k ih =>
    rw [hsTo, List.getElem?_set]
    by_cases hj : k = j
    · subst hj
      rw [if_pos rfl, if_pos (by rw [hsTo_len]; omega), if_pos (by omega)]; rfl
    · rw [if_neg hj, ih (by omega)]
      by_cases hlt : j < k
      · rw [if_pos hlt, if_pos (by omega)]
      · rw [if_neg hlt, if_neg (by omega)]

set_option maxHeartbeats 2000000 in
theorem helps_r (aa : Option Addr) (a : List (List Int)) (ca : Nat) (aw : Option Addr) (ws : List Int) (cw : Nat) (w : World) (ha : SlsAt w aa a) (hws : IntSl w aw ws) (ok : AimOk a) (hw : WaitsOk a ws) :
    Calls Try.prog 42 #[.slice aa a.length ca, .slice aw ws.length cw] w fun e w' => ∃ g, e = .returned (.slice (some ⟨g, 0, none⟩) a.length a.length) ∧ w'.heap[g]? = some (.cells ((hsTo a ws a.length).map (Value.int .i64)).toArray 3 (0, 0)) ∧ w.heap.size ≤ g ∧ Below w.heap.size w w' := by
  have hl8 := ok.len
  have hmk := mkInts a.length (by omega) w
  obtain ⟨ab, ao, rfl, hab, hac⟩ := ha (by omega)
  obtain ⟨wb, wo, rfl, hwb, hwc⟩ := hws (by have := hw.len; omega)
  have HA := Lib.hid hac
  have HWc := Lib.hid hwc
  have HWo := Lib.hid hw
  have HO := Lib.hid ok
  have hl : ws.length = a.length := hw.len
  have HL := Lib.hid hl
  rw [hl]
  obtain ⟨W0, hW0⟩ : ∃ W0, w.alloc (.cells ((List.replicate a.length (0 : Int)).map (Value.int .i64)).toArray 3) = W0 := ⟨_, rfl⟩
  have h0 : Hid (Below w.heap.size w W0 ∧ W0.heap[w.heap.size]? = some (.cells ((hsTo a ws 0).map (Value.int .i64)).toArray 3 (0, 0))) := ⟨by rw [← hW0]; exact alloc1 w _, by rw [← hW0]; exact heap_alloc_new w _⟩
  rw [hW0] at hmk
  clear ha hws hac hwc hw ok hl hW0
  go_enter Try.func42, Try.ntmps42
  go_wp2_with (fail)
  go_loopw [13] (fun i wr => ∃ k : Nat, k ≤ a.length ∧ i = .int .i64 k ∧ Hid (Below w.heap.size w wr ∧ wr.heap[w.heap.size]? = some (.cells ((hsTo a ws k).map (Value.int .i64)).toArray 3 (0, 0)))) (fun i _ => a.length - (intOf i).toNat)
  case atStart => exact ⟨0, Nat.zero_le _, rfl, h0⟩
  case round =>
    obtain ⟨k, hk, rfl, hC⟩ := hrel
    by_cases hlt : k < a.length
    · obtain ⟨ra, rc, hr1, hr2⟩ := HA.out k a[k] (List.getElem?_eq_getElem hlt)
      have hwk := HWc.out k (by have := HL.out; omega)
      have hwa := HWo.out.at' k hlt
      have hlk := HO.out.lens a[k] (List.getElem_mem _)
      have hbk := HO.out.bd a[k] (List.getElem_mem _)
      rw [List.getElem?_eq_getElem hlt] at hwa
      obtain ⟨j, hj⟩ : ∃ j : Nat, ws[k]?.getD 0 = j := ⟨(ws[k]?.getD 0).toNat, by omega⟩
      rw [hj] at hwk hwa
      have hjl : j < a[k].length := hwa.2
      have e1 := (hC.out.1.cell (p := ⟨ab, ao + k, none⟩) hab).trans hr1
      have e2 := (hC.out.1.cell (p := ⟨wb, wo + k, none⟩) hwb).trans hwk
      have hlw : (k : Int) < ws.length := by have := HL.out; omega
      have C := Lib.hid (help_any ra a[k] rc j wr ((hr2.below hC.out.1)) hlk.2 hbk (by omega))
      have HN : Hid (hsTo a ws (k + 1) = (hsTo a ws k).set k (helpI a[k] j)) := by
        show _ = _; rw [hsTo, List.getElem?_eq_getElem hlt, hj]; rfl
      have hF := hC.out.2
      have m0 := blk_cell hF k (v := .int .i64 ((hsTo a ws k)[k]?.getD 0)) (by simp [hsTo_len, hlt])
      have hl1 := hsTo_len a ws k
      generalize helpI a[k] j = hv at C HN
      generalize hsTo a ws k = F at hC HN hF m0 hl1
      generalize F[k]?.getD 0 = fv at m0
      generalize a[k].length = rl at e1 C
      clear hr2 hwa hj hr1 hwk hjl hbk hlk m0 hF
      go_wp2_with (fail)
      refine C.out.mono ?_
      rintro e w1 ⟨rfl, hb1⟩
      have H1 := Lib.hid (And.intro (below_self hC.out.1 hb1) (blk_below hC.out.2 hb1))
      have m0 := blk_cell H1.out.2 k (v := .int .i64 (F[k]?.getD 0)) (by simp [hl1, hlt])
      have k0 := blk_free (j := k) H1.out.2
      have HX : Hid (Below w.heap.size w (w1.setCell ⟨w.heap.size, k, none⟩ (.int .i64 hv)) ∧ (w1.setCell ⟨w.heap.size, k, none⟩ (.int .i64 hv)).heap[w.heap.size]? = some (.cells ((F.set k hv).map (Value.int .i64)).toArray 3 (0, 0))) := ⟨H1.out.1.setCell (Nat.le_refl _) _, by rw [blk_setCell H1.out.2, List.map_set]; simp⟩
      generalize F[k]?.getD 0 = fv at m0
      clear e1 e2 hb1 hl1
      go_wp2_with (fail)
      clear m0 k0
      go_roundw
      case rel => exact ⟨k + 1, by omega, by go_num, by rw [HN.out]; exact HX.out⟩
      case measure => first | (simp [intOf]; done) | (simp [intOf]; omega)
    · have : k = a.length := by omega
      subst this
      go_wp2_with (fail)
      go_ret
      exact ⟨w.heap.size, rfl, hC.out.2, Nat.le_refl _, hC.out.1⟩

/-- One breath more, for the shot that it helps most. -/
def stepW (a : List (List Int)) (ws : List Int) : List Int :=
  let all := hsTo a ws a.length
  let m := greatTo all all.length
  if m = 0 then ws else
    let j := all.findIdx (fun x => x == m)
    ws.set j (ws[j]?.getD 0 + 1)
def iterW (a : List (List Int)) : Nat → List Int
  | 0 => List.replicate a.length 0
  | k + 1 => stepW a (iterW a k)
theorem iterW_stop (a : List (List Int)) (k : Nat) (h : stepW a (iterW a k) = iterW a k) (j : Nat) : iterW a (k + j) = iterW a k := by
  induction j with
  | zero => rfl
  | succ j ih => show stepW a (iterW a (k + j)) = _; rw [ih, h]
theorem greatTo_nn (xs : List Int) (k : Nat) : 0 ≤ greatTo xs k := by
  induction k with
  | zero => simp [greatTo]
  | succ k ih => rw [greatTo]; omega
theorem greatTo_mem (xs : List Int) (k : Nat) (hk : k ≤ xs.length) (h : greatTo xs k ≠ 0) : ∃ j, j < k ∧ xs[j]?.getD 0 = greatTo xs k := by
  induction k with
  | zero => simp [greatTo] at h
  | succ k ih =>
    rw [greatTo] at h ⊢
    by_cases hm : greatTo xs k < xs[k]?.getD 0
    · exact ⟨k, by omega, by omega⟩
    · have e : max (greatTo xs k) (xs[k]?.getD 0) = greatTo xs k := by omega
      rw [e] at h ⊢
      obtain ⟨j, hj, hx⟩ := ih (by omega) h
      exact ⟨j, by omega, hx⟩
theorem find_great (xs : List Int) (h : greatTo xs xs.length ≠ 0) : xs.findIdx (fun x => x == greatTo xs xs.length) < xs.length ∧ xs[xs.findIdx (fun x => x == greatTo xs xs.length)]?.getD 0 = greatTo xs xs.length ∧ ∀ i, i < xs.findIdx (fun x => x == greatTo xs xs.length) → xs[i]?.getD 0 ≠ greatTo xs xs.length := by
  obtain ⟨j, hj, hx⟩ := greatTo_mem xs xs.length (Nat.le_refl _) h
  have hlt : xs.findIdx (fun x => x == greatTo xs xs.length) < xs.length := List.findIdx_lt_length_of_exists ⟨xs[j], List.getElem_mem hj, by rw [List.getElem?_eq_getElem hj] at hx; simpa using hx⟩
  refine ⟨hlt, ?_, fun i hi => ?_⟩
  · rw [List.getElem?_eq_getElem hlt]
    have := List.findIdx_getElem (w := hlt)
    simpa using this
  · have := List.not_of_lt_findIdx hi
    rw [List.getElem?_eq_getElem (by omega)]
    simpa using this
theorem stepW_ok {a : List (List Int)} {ws : List Int} (hw : WaitsOk a ws) : WaitsOk a (stepW a ws) := by
  unfold stepW
  simp only
  split
  · exact hw
  · rename_i hm
    obtain ⟨h1, h2, _⟩ := find_great _ hm
    generalize (hsTo a ws a.length).findIdx _ = j at h1 h2
    rw [hsTo_len] at h1
    refine ⟨by rw [List.length_set]; exact hw.len, fun k hk => ?_⟩
    by_cases hj : j = k
    · subst hj
      have hwj := hw.at' j h1
      rw [hsTo_at a ws a.length (Nat.le_refl _), if_pos h1] at h2
      have hne : helpI (a[j]?.getD []) (ws[j]?.getD 0).toNat ≠ 0 := by rw [h2]; exact hm
      have hlt : (ws[j]?.getD 0).toNat + 1 < (a[j]?.getD []).length := by
        unfold helpI at hne
        split at hne
        · assumption
        · exact absurd rfl hne
      rw [List.getElem?_set_self (by rw [hw.len]; exact h1)]
      show 0 ≤ ws[j]?.getD 0 + 1 ∧ (ws[j]?.getD 0 + 1).toNat < _
      omega
    · rw [List.getElem?_set_ne hj]; exact hw.at' k hk
theorem iterW_ok {a : List (List Int)} (ok : AimOk a) (k : Nat) : WaitsOk a (iterW a k) := by
  induction k with
  | zero => exact ⟨by simp [iterW], fun k hk => by
      have := ok.lens a[k] (List.getElem_mem hk)
      rw [List.getElem?_eq_getElem hk]
      have e : (iterW a 0)[k]?.getD 0 = 0 := by simp [iterW, hk]
      rw [e]
      show (0 : Int) ≤ 0 ∧ (0 : Int).toNat < a[k].length
      omega⟩
  | succ k ih => exact stepW_ok ih
end Go.Proofs.Ythajembgndhakaa
