/-
  The iterator that clicks makes, over this seat's program.
  What is proved: the function that clicks hands back yields each click that is allowed, the nearest first.
  Conditions: at most 6 clicks on each side.
-/
import Derived.Test.YthajembgndhakaaG
import Derived.Laws.EntriesVeiled
namespace Go.Proofs.Ythajembgndhakaa
open Go.RowKit Go.Shelf
attribute [local go_sem] Oper.semAt_some

/-- The blocks that are the iterator's own: those that it has captured, and so many that it lays. -/
def ownOf (capt : Nat → Prop) (m : Nat) (B : Nat) (k : Nat) : Prop := capt k ∨ (B ≤ k ∧ k < B + m)
/-- The blocks that it may turn. -/
def intv (m : Nat) (B : Nat) (k : Nat) : Prop := B ≤ k ∧ k < B + m

/-- THE CONTRACT OF AN ITERATOR OF NUMBERS whose caller always goes on. -/
def SeqI (g : Nat) (lb : Array Value) (S : List Int) (capt : Nat → Prop) (m : Nat) (w : World) : Prop :=
  ∀ (l n : Nat) (J : List Int → World → Prop) (W : World), Below w.heap.size w W →
    (∀ s A B, J s A → Apart (intv m W.heap.size) A B → J s B) →
    (∀ n' pre c W1, J pre W1 → pre ++ [c] <+: S → YieldAt Fence.wide n' Try.prog l #[.int .i64 c] W1 fun e W' =>
      e = .returned (.bool true) ∧ J (pre ++ [c]) W' ∧ Keeps (ownOf capt m W.heap.size) W1 W') →
    J [] W →
    CallsIn Fence.wide n Try.prog g (#[.func (.yield l) #[] #[]] ++ lb) W fun e W' => (∃ v, e = .returned v) ∧ J S W'

/-- The clicks at one distance. -/
def clAt (near n : Int) (k : Nat) : List Int := (if withinB (near - k) (-n) n then [near - (k : Int)] else []) ++ (if withinB (near + k) (-n) n then [near + (k : Int)] else [])
def clTo (near n : Int) : Nat → List Int
  | 0 => [near]
  | k + 1 => clTo near n k ++ clAt near n (k + 1)
def clicksL (near n : Int) : List Int := clTo near n (2 * n).toNat
theorem clTo_pre (near n : Int) (k m : Nat) (h : k ≤ m) : clTo near n k <+: clTo near n m := by
  induction m with
  | zero => have : k = 0 := by omega
            subst this; exact List.prefix_rfl
  | succ m ih =>
    rcases Nat.lt_or_ge k (m + 1) with hk | hk
    · exact (ih (by omega)).trans (List.prefix_append _ _)
    · have : k = m + 1 := by omega
      subst this; exact List.prefix_rfl

theorem under79 : Try.prog.underlying 79 = some (.array 2 3) := by kernel_rfl
theorem idx79 (x0 x1 : Int) (w : World) : (Instr.index 79 (.agg #[.int .i64 x0, .int .i64 x1]) (.int .i64 0)).run Try.prog w = .ok (.int .i64 x0) w ∧ (Instr.index 79 (.agg #[.int .i64 x0, .int .i64 x1]) (.int .i64 1)).run Try.prog w = .ok (.int .i64 x1) w := by
  have hq := inf3
  cases hq2 : Try.prog.info? 3 with
  | none => simp [hq2] at hq
  | some i =>
    have hs : i.size = 1 := by simpa [hq2] using hq
    constructor <;> simp [Instr.index, run_underlying under79, run_underlying under3, asIntOf, go_sem, part, isAgg, sizeOf, typeInfo, hq2, hs]

/-- What has been yielded behind the first j of two. -/
def partL (L : List Int) (x0 x1 n : Int) : Nat → List Int
  | 0 => L
  | 1 => L ++ (if withinB x0 (-n) n then [x0] else [])
  | _ => L ++ (if withinB x0 (-n) n then [x0] else []) ++ (if withinB x1 (-n) n then [x1] else [])
theorem partL_pre (L : List Int) (x0 x1 n : Int) (j : Nat) (hj : j ≤ 2) : partL L x0 x1 n j <+: L ++ ((if withinB x0 (-n) n then [x0] else []) ++ (if withinB x1 (-n) n then [x1] else [])) := by
  have : j = 0 ∨ j = 1 ∨ j = 2 := by omega
  rcases this with rfl | rfl | rfl
  · exact List.prefix_append _ _
  · rw [partL, ← List.append_assoc]; exact List.prefix_append _ _
  · rw [partL, ← List.append_assoc] <;> first | exact List.prefix_rfl | omega

set_option maxHeartbeats 4000000 in
set_option maxRecDepth 100000 in
theorem clicks1_seq (R : Rv) (near : Int) (Bn Br : Nat) (w : World) (ok : 0 ≤ R.r.clicks ∧ R.r.clicks ≤ 6) (hnr : -6 ≤ near ∧ near ≤ 6)
    (hn : w.heap[Bn]? = some (.cells #[.int .i64 near] 3 (0, 0))) (hr : w.heap[Br]? = some (.cells R.arr 31 (0, 0))) :
    SeqI 38 #[.pointer (some ⟨Bn, 0, none⟩), .pointer (some ⟨Br, 0, none⟩)] (clicksL near R.r.clicks) (fun k => k = Bn ∨ k = Br) 0 w := by
  intro l n J W hW hJ hY hj
  have HY := Lib.hid hY
  have HJ := Lib.hid hJ
  have H0 : Hid (J [] W ∧ W.heap[Bn]? = some (.cells #[.int .i64 near] 3 (0, 0)) ∧ W.heap[Br]? = some (.cells R.arr 31 (0, 0))) := ⟨hj, blk_below hn hW, blk_below hr hW⟩
  have c0 := blk_cell H0.out.2.1 0 rfl
  obtain ⟨m, hm⟩ : ∃ m : Nat, R.r.clicks = m := ⟨R.r.clicks.toNat, by omega⟩
  have hm6 : m ≤ 6 := by omega
  have HM := Lib.hid hm
  have HS : Hid (∀ k, k ≤ 2 * m → clTo near R.r.clicks k <+: clicksL near R.r.clicks) := fun k hk => clTo_pre _ _ _ _ (by omega)
  have HE : Hid (clicksL near R.r.clicks = clTo near R.r.clicks (2 * m)) := by show _ = _; unfold clicksL; congr 1; omega
  obtain ⟨fn, tmps, assign, body, hy, hR⟩ := HY.out (n - 1) [] near W hj (HS.out 0 (by omega))
  clear hj hn hr hY hJ hm
  refine callsIn_of_wp Try.func38 rfl trivial ?_ rfl
  simp only [Try.ntmps38, List.size_toArray, List.length_cons, List.length_nil, Nat.reduceAdd, Nat.reduceSub, Array.replicate_succ, Array.replicate_zero, List.push_toArray, List.append_toArray, List.nil_append, List.cons_append]
  gi_wp2_with (refine ⟨(fun h => by cases h), ?_⟩; refine hR.mono ?_; clear hR hy; rintro e w2 ⟨rfl, hj2, hk2⟩)
  have H2 : Hid (J (clTo near R.r.clicks 0) w2 ∧ w2.heap[Bn]? = some (.cells #[.int .i64 near] 3 (0, 0)) ∧ w2.heap[Br]? = some (.cells R.arr 31 (0, 0))) := ⟨hj2, hk2.blk (.inl (.inl rfl)) H0.out.2.1, hk2.blk (.inl (.inr rfl)) H0.out.2.2⟩
  clear hj2 hk2 c0
  gi_loopw [4] (fun i wr => ∃ k : Nat, k ≤ 2 * m ∧ i = .int .i64 ((k : Int) + 1) ∧ Hid (J (clTo near R.r.clicks k) wr ∧ wr.heap[Bn]? = some (.cells #[.int .i64 near] 3 (0, 0)) ∧ wr.heap[Br]? = some (.cells R.arr 31 (0, 0)))) (fun i _ => 2 * m + 1 - (intOf i).toNat)
  case atStart => exact ⟨0, Nat.zero_le _, rfl, H2⟩
  case round =>
    obtain ⟨k, hk, rfl, HK⟩ := hrel
    have c0 := blk_cell HK.out.2.1 0 rfl
    have d0 := blk_cell HK.out.2.2 0 rfl
    have d1 := blk_cell HK.out.2.2 1 rfl
    have d2 := blk_cell HK.out.2.2 2 rfl
    have d3 := blk_cell HK.out.2.2 3 rfl
    have d4 := blk_cell HK.out.2.2 4 rfl
    have d5 := blk_cell HK.out.2.2 5 rfl
    have d6 := blk_cell HK.out.2.2 6 rfl
    have d7 := blk_cell HK.out.2.2 7 rfl
    have qm : IntKind.i64.wrap (2 * R.r.clicks) = 2 * R.r.clicks := IntWalk.i64_in _ (by have := HM.out; omega)
    by_cases hlt : k < 2 * m
    · have gl : decide ((k : Int) + 1 ≤ 2 * R.r.clicks) = true := decide_eq_true (by have := HM.out; omega)
      obtain ⟨x0, hx0⟩ : ∃ x0, near - ((k : Int) + 1) = x0 := ⟨_, rfl⟩
      obtain ⟨x1, hx1⟩ : ∃ x1, near + ((k : Int) + 1) = x1 := ⟨_, rfl⟩
      have q0 : IntKind.i64.wrap (near - ((k : Int) + 1)) = x0 := by rw [← hx0]; exact IntWalk.i64_in _ (by omega)
      have q1 : IntKind.i64.wrap (near + ((k : Int) + 1)) = x1 := by rw [← hx1]; exact IntWalk.i64_in _ (by omega)
      have HC : Hid (clTo near R.r.clicks (k + 1) = clTo near R.r.clicks k ++ ((if withinB x0 (-R.r.clicks) R.r.clicks then [x0] else []) ++ (if withinB x1 (-R.r.clicks) R.r.clicks then [x1] else []))) := by
        show _ = _; rw [clTo, clAt, ← hx0, ← hx1]; simp
      have HP := HS.out (k + 1) (by omega)
      rw [HC.out] at HP
      have HP2 := Lib.hid HP
      clear hx0 hx1 HP
      gi_wp2
      clear c0 d0 d1 d2 d3 d4 d5 d6 d7
      have i0 := fun W => (idx79 x0 x1 W).1
      have i1 := fun W => (idx79 x0 x1 W).2
      have HPre := Lib.hid (partL_pre (clTo near R.r.clicks k) x0 x1 R.r.clicks)
      gi_loopw [25] (fun i wx => ∃ j : Nat, j ≤ 2 ∧ i = .int .i64 j ∧ Hid (J (partL (clTo near R.r.clicks k) x0 x1 R.r.clicks j) wx ∧ wx.heap[Bn]? = some (.cells #[.int .i64 near] 3 (0, 0)) ∧ wx.heap[Br]? = some (.cells R.arr 31 (0, 0)))) (fun i _ => 2 - (intOf i).toNat)
      case atStart => exact ⟨0, Nat.zero_le _, rfl, HK⟩
      case round =>
        obtain ⟨j, hj2, rfl, HR⟩ := hrel
        have hj3 : j = 0 ∨ j = 1 ∨ j = 2 := by omega
        rcases hj3 with rfl | rfl | rfl
        · cases hh : withinB x0 (-R.r.clicks) R.r.clicks
          · have HQ : Hid (partL (clTo near R.r.clicks k) x0 x1 R.r.clicks 1 = partL (clTo near R.r.clicks k) x0 x1 R.r.clicks 0) := by show _ = _; simp [partL, hh]
            generalize partL (clTo near R.r.clicks k) x0 x1 R.r.clicks 0 = P0 at HR HQ
            have c0 := blk_cell HR.out.2.1 0 rfl
            have d0 := blk_cell HR.out.2.2 0 rfl
            have d1 := blk_cell HR.out.2.2 1 rfl
            have d2 := blk_cell HR.out.2.2 2 rfl
            have d3 := blk_cell HR.out.2.2 3 rfl
            have d4 := blk_cell HR.out.2.2 4 rfl
            have d5 := blk_cell HR.out.2.2 5 rfl
            have d6 := blk_cell HR.out.2.2 6 rfl
            have d7 := blk_cell HR.out.2.2 7 rfl
            gi_wp2_with (refine ⟨trivial, (fun h => by cases h), ?_⟩; gi_at_call 16; refine (callsIn_wide.2 (hasClick_any R x0 _ ok)).mono ?_; rintro e w3 ⟨rfl, hb3⟩; have H3 : Hid (J P0 w3 ∧ w3.heap[Bn]? = some (.cells #[.int .i64 near] 3 (0, 0)) ∧ w3.heap[Br]? = some (.cells R.arr 31 (0, 0))) := ⟨HJ.out _ _ _ HR.out.1 (Apart.of_below hb3), blk_below HR.out.2.1 hb3, blk_below HR.out.2.2 hb3⟩; clear hb3 c0 d0 d1 d2 d3 d4 d5 d6 d7; rw [hh])
            refine ⟨(fun _ h => by cases h), ?_⟩
            gi_wp2
            refine ⟨⟨1, by omega, rfl, by rw [HQ.out]; exact H3.out⟩, by simp [intOf]⟩
          · have HQ : Hid (partL (clTo near R.r.clicks k) x0 x1 R.r.clicks 1 = partL (clTo near R.r.clicks k) x0 x1 R.r.clicks 0 ++ [x0]) := by show _ = _; simp [partL, hh]
            have HQ2 : Hid (partL (clTo near R.r.clicks k) x0 x1 R.r.clicks 0 ++ [x0] <+: clicksL near R.r.clicks) := by show _ <+: _; rw [← HQ.out]; exact (HPre.out 1 (by omega)).trans HP2.out
            generalize partL (clTo near R.r.clicks k) x0 x1 R.r.clicks 0 = P0 at HR HQ HQ2
            have c0 := blk_cell HR.out.2.1 0 rfl
            have d0 := blk_cell HR.out.2.2 0 rfl
            have d1 := blk_cell HR.out.2.2 1 rfl
            have d2 := blk_cell HR.out.2.2 2 rfl
            have d3 := blk_cell HR.out.2.2 3 rfl
            have d4 := blk_cell HR.out.2.2 4 rfl
            have d5 := blk_cell HR.out.2.2 5 rfl
            have d6 := blk_cell HR.out.2.2 6 rfl
            have d7 := blk_cell HR.out.2.2 7 rfl
            gi_wp2_with (first | (refine ⟨trivial, (fun h => by cases h), ?_⟩; gi_at_call 16; refine (callsIn_wide.2 (hasClick_any R x0 _ ok)).mono ?_; rintro e w3 ⟨rfl, hb3⟩; have H3 : Hid (J P0 w3 ∧ w3.heap[Bn]? = some (.cells #[.int .i64 near] 3 (0, 0)) ∧ w3.heap[Br]? = some (.cells R.arr 31 (0, 0))) := ⟨HJ.out _ _ _ HR.out.1 (Apart.of_below hb3), blk_below HR.out.2.1 hb3, blk_below HR.out.2.2 hb3⟩; clear hb3 c0 d0 d1 d2 d3 d4 d5 d6 d7; rw [hh]; obtain ⟨fn, tmps, assign, body, hy, hR⟩ := HY.out (n - 1) P0 x0 w3 H3.out.1 HQ2.out) | (refine ⟨(fun h => by cases h), ?_⟩; refine hR.mono ?_; clear hR hy; rintro e w4 ⟨rfl, hj4, hk4⟩; have H4 : Hid (J (P0 ++ [x0]) w4 ∧ w4.heap[Bn]? = some (.cells #[.int .i64 near] 3 (0, 0)) ∧ w4.heap[Br]? = some (.cells R.arr 31 (0, 0))) := ⟨hj4, hk4.blk (.inl (.inl rfl)) H3.out.2.1, hk4.blk (.inl (.inr rfl)) H3.out.2.2⟩; clear hj4 hk4))
            refine ⟨⟨1, by omega, rfl, by rw [HQ.out]; exact H4.out⟩, by simp [intOf]⟩
        · cases hh : withinB x1 (-R.r.clicks) R.r.clicks
          · have HQ : Hid (partL (clTo near R.r.clicks k) x0 x1 R.r.clicks 2 = partL (clTo near R.r.clicks k) x0 x1 R.r.clicks 1) := by show _ = _; simp [partL, hh]
            generalize partL (clTo near R.r.clicks k) x0 x1 R.r.clicks 1 = P0 at HR HQ
            have c0 := blk_cell HR.out.2.1 0 rfl
            have d0 := blk_cell HR.out.2.2 0 rfl
            have d1 := blk_cell HR.out.2.2 1 rfl
            have d2 := blk_cell HR.out.2.2 2 rfl
            have d3 := blk_cell HR.out.2.2 3 rfl
            have d4 := blk_cell HR.out.2.2 4 rfl
            have d5 := blk_cell HR.out.2.2 5 rfl
            have d6 := blk_cell HR.out.2.2 6 rfl
            have d7 := blk_cell HR.out.2.2 7 rfl
            gi_wp2_with (refine ⟨trivial, (fun h => by cases h), ?_⟩; gi_at_call 16; refine (callsIn_wide.2 (hasClick_any R x1 _ ok)).mono ?_; rintro e w3 ⟨rfl, hb3⟩; have H3 : Hid (J P0 w3 ∧ w3.heap[Bn]? = some (.cells #[.int .i64 near] 3 (0, 0)) ∧ w3.heap[Br]? = some (.cells R.arr 31 (0, 0))) := ⟨HJ.out _ _ _ HR.out.1 (Apart.of_below hb3), blk_below HR.out.2.1 hb3, blk_below HR.out.2.2 hb3⟩; clear hb3 c0 d0 d1 d2 d3 d4 d5 d6 d7; rw [hh])
            refine ⟨(fun _ h => by cases h), ?_⟩
            gi_wp2
            refine ⟨⟨2, by omega, rfl, by rw [HQ.out]; exact H3.out⟩, by simp [intOf]⟩
          · have HQ : Hid (partL (clTo near R.r.clicks k) x0 x1 R.r.clicks 2 = partL (clTo near R.r.clicks k) x0 x1 R.r.clicks 1 ++ [x1]) := by show _ = _; simp [partL, hh]
            have HQ2 : Hid (partL (clTo near R.r.clicks k) x0 x1 R.r.clicks 1 ++ [x1] <+: clicksL near R.r.clicks) := by show _ <+: _; rw [← HQ.out]; exact (HPre.out 2 (by omega)).trans HP2.out
            generalize partL (clTo near R.r.clicks k) x0 x1 R.r.clicks 1 = P0 at HR HQ HQ2
            have c0 := blk_cell HR.out.2.1 0 rfl
            have d0 := blk_cell HR.out.2.2 0 rfl
            have d1 := blk_cell HR.out.2.2 1 rfl
            have d2 := blk_cell HR.out.2.2 2 rfl
            have d3 := blk_cell HR.out.2.2 3 rfl
            have d4 := blk_cell HR.out.2.2 4 rfl
            have d5 := blk_cell HR.out.2.2 5 rfl
            have d6 := blk_cell HR.out.2.2 6 rfl
            have d7 := blk_cell HR.out.2.2 7 rfl
            gi_wp2_with (first | (refine ⟨trivial, (fun h => by cases h), ?_⟩; gi_at_call 16; refine (callsIn_wide.2 (hasClick_any R x1 _ ok)).mono ?_; rintro e w3 ⟨rfl, hb3⟩; have H3 : Hid (J P0 w3 ∧ w3.heap[Bn]? = some (.cells #[.int .i64 near] 3 (0, 0)) ∧ w3.heap[Br]? = some (.cells R.arr 31 (0, 0))) := ⟨HJ.out _ _ _ HR.out.1 (Apart.of_below hb3), blk_below HR.out.2.1 hb3, blk_below HR.out.2.2 hb3⟩; clear hb3 c0 d0 d1 d2 d3 d4 d5 d6 d7; rw [hh]; obtain ⟨fn, tmps, assign, body, hy, hR⟩ := HY.out (n - 1) P0 x1 w3 H3.out.1 HQ2.out) | (refine ⟨(fun h => by cases h), ?_⟩; refine hR.mono ?_; clear hR hy; rintro e w4 ⟨rfl, hj4, hk4⟩; have H4 : Hid (J (P0 ++ [x1]) w4 ∧ w4.heap[Bn]? = some (.cells #[.int .i64 near] 3 (0, 0)) ∧ w4.heap[Br]? = some (.cells R.arr 31 (0, 0))) := ⟨hj4, hk4.blk (.inl (.inl rfl)) H3.out.2.1, hk4.blk (.inl (.inr rfl)) H3.out.2.2⟩; clear hj4 hk4))
            refine ⟨⟨2, by omega, rfl, by rw [HQ.out]; exact H4.out⟩, by simp [intOf]⟩
        · gi_wp2
          refine ⟨⟨k + 1, by omega, by go_num, by rw [HC.out]; have := HR.out; rw [partL, List.append_assoc] at this; exact this; all_goals omega⟩, by simp [intOf]; omega⟩
    · have hk2 : Hid (k = 2 * m) := by show _ = _; omega
      have gl : decide ((k : Int) + 1 ≤ 2 * R.r.clicks) = false := decide_eq_false (by have := HM.out; omega)
      gi_wp2
      go_end0
      exact ⟨⟨_, rfl⟩, by rw [HE.out, ← hk2.out]; exact HK.out.1⟩

set_option maxHeartbeats 1000000 in
theorem clicks_any (R : Rv) (near : Int) (w : World) :
    Calls Try.prog 22 #[R.v, .int .i64 near] w fun e w' => e = .returned (.func (.func 38) #[] #[.pointer (some ⟨w.heap.size + 1, 0, none⟩), .pointer (some ⟨w.heap.size, 0, none⟩)]) ∧ (w.alloc (.cells R.arr 31)).alloc (.cells #[.int .i64 near] 3) = w' := by
  have hmf := hmf
  go_enter Try.func22, Try.ntmps22
  go_wp2
  go_ret
  exact ⟨rfl, rfl⟩
end Go.Proofs.Ythajembgndhakaa
