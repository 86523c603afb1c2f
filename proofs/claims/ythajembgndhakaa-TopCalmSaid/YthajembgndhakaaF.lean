/-
  How bad a click is, over this seat's program: bad, expected; Expected and Hit.
  What is proved: what each call returns, and that nothing that was there before it has turned.
  Conditions: valid ranges.
-/
import Derived.Test.YthajembgndhakaaE
namespace Go.Proofs.Ythajembgndhakaa
open Go.RowKit Go.Shelf
attribute [local go_sem] Oper.semAt_some

/-- How often each state is met, as whole numbers: what the rounds up to one have added. -/
def ofIn (O F : List Int) (tot : Int) (k : Nat) : Nat → List Int
  | 0 => O
  | s + 1 => (ofIn O F tot k s).set s (IntKind.i64.wrap ((ofIn O F tot k s)[s]?.getD 0 + IntKind.i64.wrap (F[5 * k + s]?.getD 0 * powI tot (4 - k))))
def ofOut (F : List Int) (tot : Int) : Nat → List Int
  | 0 => [0, 0, 0, 0, 0]
  | k + 1 => ofIn (ofOut F tot k) F tot k 5
def oftenF (r : Rg) : List Int := ofOut (chF r) r.total 5
theorem ofIn_len (O F : List Int) (tot : Int) (k s : Nat) : (ofIn O F tot k s).length = O.length := by
  induction s with
  | zero => rfl
  | succ s ih => rw [ofIn, List.length_set, ih]
theorem chF_len {r : Rg} (ok : RgOk r) : (chF r).length = 25 := by
  have := ok.flen; have := ok.dlen
  rw [chF, chK_len]; simp; omega
theorem list5 (G : List Int) (h : G.length = 5) : ∃ a b c d e, G = [a, b, c, d, e] :=
  match G, h with
  | [a, b, c, d, e], _ => ⟨a, b, c, d, e, rfl⟩
theorem ofOut_len (F : List Int) (tot : Int) (k : Nat) : (ofOut F tot k).length = 5 := by
  induction k with
  | zero => rfl
  | succ k ih => rw [ofOut, ofIn_len, ih]

/-- How bad a click is: what the first s states add. -/
def badTo (r : Rg) (O : List Int) (c : Int) : Nat → Int
  | 0 => 0
  | s + 1 => IntKind.i64.wrap (badTo r O c s + IntKind.i64.wrap (O[s]?.getD 0 * (sumI r.group - hitsR r (r.drifts[s]?.getD 0) c)))
def badF (r : Rg) (c : Int) : Int := badTo r (oftenF r) c r.drifts.length

theorem under73 : Try.prog.underlying 73 = some (.array 5 72) := by kernel_rfl
theorem under72 : Try.prog.underlying 72 = some (.array 5 3) := by kernel_rfl
theorem under3 : Try.prog.underlying 3 = some (.int .i64) := by kernel_rfl
theorem inf72 : (Try.prog.info? 72).map (·.size) = some 5 := by kernel_rfl
theorem inf3 : (Try.prog.info? 3).map (·.size) = some 1 := by kernel_rfl
theorem idx73 (F : List Int) (k : Nat) (hk : k < 5) (w : World) : (Instr.index 73 (.agg (F.map (Value.int .i64)).toArray) (.int .i64 k)).run Try.prog w = .ok (.agg (((F.drop (k * 5)).take 5).map (Value.int .i64)).toArray) w := by
  have hn : 0 ≤ (k : Int) ∧ (k : Int) < 5 := by omega
  have hq := inf72
  cases hq2 : Try.prog.info? 72 with
  | none => simp [hq2] at hq
  | some i =>
    have hs : i.size = 5 := by simpa [hq2] using hq
    simp [Instr.index, run_underlying under73, run_underlying under72, asIntOf, hn, go_sem, part, isAgg, sizeOf, typeInfo, hq2, hs, List.map_take, List.map_drop]
    intro h; omega
theorem idx72 (G : List Int) (k : Nat) (hl : G.length = 5) (hk : k < 5) (w : World) : (Instr.index 72 (.agg (G.map (Value.int .i64)).toArray) (.int .i64 k)).run Try.prog w = .ok (.int .i64 (G[k]?.getD 0)) w := by
  have hn : 0 ≤ (k : Int) ∧ (k : Int) < 5 := by omega
  have hq := inf3
  have hkl : k < G.length := by omega
  cases hq2 : Try.prog.info? 3 with
  | none => simp [hq2] at hq
  | some i =>
    have hs : i.size = 1 := by simpa [hq2] using hq
    simp [Instr.index, run_underlying under72, run_underlying under3, asIntOf, hn, go_sem, part, isAgg, sizeOf, typeInfo, hq2, hs, hkl]
    intro h; omega

/-- What bad has captured: the range at work, and how often each state is met. -/
structure BdAt (w : World) (R : Rv) (B P O : Nat) : Prop where
  wk : WkAt w R B
  p : w.heap[P]? = some (.cells #[.pointer (some ⟨B, 0, none⟩)] 48 (0, 0))
  o : w.heap[O]? = some (.cells ((oftenF R.r).map (Value.int .i64)).toArray 72 (0, 0))
theorem BdAt.below {w w' : World} {R : Rv} {B P O : Nat} (h : BdAt w R B P O) (hb : Below w.heap.size w w') : BdAt w' R B P O := ⟨h.wk.below hb, blk_below h.p hb, blk_below h.o hb⟩

set_option maxHeartbeats 4000000 in
theorem bad_any (R : Rv) (B : Nat) (w : World) (hw : WkAt w R B) (ok : RgOk R.r) : Calls Try.prog 18 #[.pointer (some ⟨B, 0, none⟩)] w fun e w' => ∃ P O, e = .returned (.func (.func 33) #[] #[.pointer (some ⟨P, 0, none⟩), .pointer (some ⟨O, 0, none⟩)]) ∧ BdAt w' R B P O ∧ w.heap.size ≤ P ∧ w.heap.size ≤ O ∧ Below w.heap.size w w' := by
  have hmf := hmf
  obtain ⟨W0, hW0⟩ : ∃ W0, (w.alloc (.cells #[.pointer (some ⟨B, 0, none⟩)] 48)).alloc (.cells #[.int .i64 0, .int .i64 0, .int .i64 0, .int .i64 0, .int .i64 0] 72) = W0 := ⟨_, rfl⟩
  have h0 : Below w.heap.size w W0 := by rw [← hW0]; exact (alloc1 w _).alloc (by simp) _
  have hp : W0.heap[w.heap.size]? = some (.cells #[.pointer (some ⟨B, 0, none⟩)] 48 (0, 0)) := by
    rw [← hW0]; exact (Below.heap_alloc _ _ _ (by simp)).trans (heap_alloc_new w _)
  have ho : W0.heap[w.heap.size + 1]? = some (.cells (([0, 0, 0, 0, 0] : List Int).map (Value.int .i64)).toArray 72 (0, 0)) := by
    rw [← hW0]; have := heap_alloc_new (w.alloc (.cells #[.pointer (some ⟨B, 0, none⟩)] 48)) (.cells #[.int .i64 0, .int .i64 0, .int .i64 0, .int .i64 0, .int .i64 0] 72); simpa using this
  have HW0 : Hid (WkAt W0 R B) := hw.below h0
  have c0 := blk_cell hp 0 rfl
  have C := Lib.hid (chances_any R B W0 HW0.out ok)
  have HO := Lib.hid ok
  have HWw := Lib.hid hw
  have H0 := Lib.hid (And.intro h0 (And.intro hp ho))
  clear hw ok h0 hp ho
  go_enter Try.func18, Try.ntmps18
  go_wp2_with (fail)
  refine C.out.mono ?_
  rintro e w1 ⟨rfl, hb1⟩
  clear hW0 c0
  have hbw := H0.out.1.trans (hb1.mono H0.out.1.size)
  have h1 : Hid (WkAt w1 R B ∧ Below w.heap.size w w1 ∧ w1.heap[w.heap.size]? = some (.cells #[.pointer (some ⟨B, 0, none⟩)] 48 (0, 0)) ∧ w1.heap[w.heap.size + 1]? = some (.cells ((ofOut (chF R.r) R.r.total 0).map (Value.int .i64)).toArray 72 (0, 0))) := ⟨HW0.out.below hb1, hbw, blk_below H0.out.2.1 hb1, blk_below H0.out.2.2 hb1⟩
  clear hb1 hbw
  go_wp2_with (fail)
  go_loopw [10] (fun i wr => ∃ k : Nat, k ≤ 5 ∧ i = .int .i64 k ∧ Hid (WkAt wr R B ∧ Below w.heap.size w wr ∧ wr.heap[w.heap.size]? = some (.cells #[.pointer (some ⟨B, 0, none⟩)] 48 (0, 0)) ∧ wr.heap[w.heap.size + 1]? = some (.cells ((ofOut (chF R.r) R.r.total k).map (Value.int .i64)).toArray 72 (0, 0)))) (fun i _ => 5 - (intOf i).toNat)
  case atStart => exact ⟨0, Nat.zero_le _, rfl, h1⟩
  case round =>
    obtain ⟨k, hk, rfl, hC⟩ := hrel
    by_cases hlt : k < 5
    · have g5 : decide ((k : Int) < 5) = true := decide_eq_true (by omega)
      have g5' : (k : Int) < 5 := by omega
      have hi73 := idx73 (chF R.r) k hlt
      generalize hG : (List.drop (k * 5) (chF R.r)).take 5 = G at hi73
      have hGl : G.length = 5 := by rw [← hG, List.length_take, List.length_drop, chF_len HO.out]; omega
      have HG : Hid (∀ s, s < 5 → G[s]?.getD 0 = (chF R.r)[5 * k + s]?.getD 0) := fun s hs => by rw [← hG, List.getElem?_take_of_lt hs, List.getElem?_drop, Nat.mul_comm]
      clear hG
      obtain ⟨a0, a1, a2, a3, a4, rfl⟩ := list5 G hGl
      simp only [List.map_cons, List.map_nil] at hi73
      clear hGl
      have hcC := hC.out.2.2.1
      have c0 := blk_cell hcC 0 rfl
      clear hcC
      go_wp2_with (fail)
      clear hi73 c0
      have hA1 := alloc1 wr (.cells #[.int .i64 a0, .int .i64 a1, .int .i64 a2, .int .i64 a3, .int .i64 a4] 72)
      have hD : Hid (WkAt (wr.alloc (.cells #[.int .i64 a0, .int .i64 a1, .int .i64 a2, .int .i64 a3, .int .i64 a4] 72)) R B ∧ Below w.heap.size w (wr.alloc (.cells #[.int .i64 a0, .int .i64 a1, .int .i64 a2, .int .i64 a3, .int .i64 a4] 72)) ∧ (wr.alloc (.cells #[.int .i64 a0, .int .i64 a1, .int .i64 a2, .int .i64 a3, .int .i64 a4] 72)).heap[w.heap.size]? = some (.cells #[.pointer (some ⟨B, 0, none⟩)] 48 (0, 0)) ∧ (wr.alloc (.cells #[.int .i64 a0, .int .i64 a1, .int .i64 a2, .int .i64 a3, .int .i64 a4] 72)).heap[w.heap.size + 1]? = some (.cells ((ofIn (ofOut (chF R.r) R.r.total k) (chF R.r) R.r.total k 0).map (Value.int .i64)).toArray 72 (0, 0))) := ⟨hC.out.1.below hA1, below_self hC.out.2.1 hA1, blk_below hC.out.2.2.1 hA1, blk_below hC.out.2.2.2 hA1⟩
      clear hA1
      generalize wr.alloc _ = W1 at hD ⊢
      go_loopw [15] (fun i wx => ∃ s : Nat, s ≤ 5 ∧ i = .int .i64 s ∧ Hid (WkAt wx R B ∧ Below w.heap.size w wx ∧ wx.heap[w.heap.size]? = some (.cells #[.pointer (some ⟨B, 0, none⟩)] 48 (0, 0)) ∧ wx.heap[w.heap.size + 1]? = some (.cells ((ofIn (ofOut (chF R.r) R.r.total k) (chF R.r) R.r.total k s).map (Value.int .i64)).toArray 72 (0, 0)))) (fun i _ => 5 - (intOf i).toNat)
      case atStart => exact ⟨0, Nat.zero_le _, rfl, hD⟩
      case round =>
        obtain ⟨s, hs, rfl, hE⟩ := hrel
        by_cases hlt2 : s < 5
        · have g5' : (s : Int) < 5 := by omega
          have hi72 := idx72 [a0, a1, a2, a3, a4] s rfl hlt2
          have hgs := HG.out s hlt2
          generalize ([a0, a1, a2, a3, a4] : List Int)[s]?.getD 0 = ax at hi72 hgs
          simp only [List.map_cons, List.map_nil] at hi72
          have HGS := Lib.hid hgs
          clear hgs
          have hOl : (ofIn (ofOut (chF R.r) R.r.total k) (chF R.r) R.r.total k s).length = 5 := by rw [ofIn_len, ofOut_len]
          generalize hO1 : ofIn (ofOut (chF R.r) R.r.total k) (chF R.r) R.r.total k s = O1 at hE hOl
          have e1 := blk_cell hE.out.2.2.2 s (v := .int .i64 (O1[s]?.getD 0)) (by simp [hOl, hlt2])
          have f1 := blk_free (j := s) hE.out.2.2.2
          have hcE := hE.out.2.2.1
          have c0 := blk_cell hcE 0 rfl
          clear hcE
          have c3 := blk_cell hE.out.1.b 3 rfl
          obtain ⟨o1, ho1⟩ : ∃ o1, O1[s]?.getD 0 = o1 := ⟨_, rfl⟩
          rw [ho1] at e1
          have q1 : IntKind.i64.wrap (4 - (k : Int)) = ((4 - k : Nat) : Int) := by rw [IntWalk.i64_in _ (by omega)]; omega
          have HPW := Lib.hid fun W => power_any R.r.total (4 - k) W (by have := HO.out.total; omega) (by omega)
          generalize ((4 - k : Nat) : Int) = k4 at q1 HPW
          generalize hpw : powI R.r.total (4 - k) = pw at HPW
          obtain ⟨p3, hp3⟩ : ∃ p3, IntKind.i64.wrap (ax * pw) = p3 := ⟨_, rfl⟩
          obtain ⟨p4, hp4⟩ : ∃ p4, IntKind.i64.wrap (o1 + p3) = p4 := ⟨_, rfl⟩
          have HN : Hid (ofIn (ofOut (chF R.r) R.r.total k) (chF R.r) R.r.total k (s + 1) = O1.set s p4) := by
            show _ = _
            rw [ofIn, hO1, ho1, ← HGS.out, hpw, hp3, hp4]
          clear hO1 ho1 hpw HGS
          go_wp2_with (fail)
          clear hi72
          have HS0 := Lib.hid ((⟨c0, c3, e1⟩ : wr.drew.cell? ⟨w.heap.size, 0, none⟩ = some (.pointer (some ⟨B, 0, none⟩)) ∧ wr.drew.cell? ⟨B, 3, none⟩ = some (.int .i64 R.r.total) ∧ wr.drew.cell? ⟨w.heap.size + 1, s, none⟩ = some (.int .i64 o1)))
          refine wp_region_split (S := fun w' => w'.cell? ⟨w.heap.size, 0, none⟩ = some (.pointer (some ⟨B, 0, none⟩)) ∧ w'.cell? ⟨B, 3, none⟩ = some (.int .i64 R.r.total) ∧ w'.cell? ⟨w.heap.size + 1, s, none⟩ = some (.int .i64 o1)) [14, 15] 14 (by kernel_rfl) (by kernel_rfl) rfl ?_
          rw [show firstL _ [14, 15] = #[false, false, false, false, false, false, false, false, false, false, false, false, false, false, true, true] from by kernel_rfl]
          refine wpAnyH_take (i := 0) (v := ?v0_1) rfl (by kernel_rfl) (by kernel_rfl) (by kernel_rfl) (fun _ _ _ h => h) (Or.inl ⟨by rfl, ?h0_1⟩) HS0.out ?r0_1
          case h0_1 => (intro W hSw; have u1 := hSw.1; have u2 := hSw.2.1; have u3 := hSw.2.2; clear hSw; go_simp; try with_reducible rfl)
          simp only [Act.put, List.getElem_toArray, List.getElem_cons_zero, List.setIfInBounds_toArray, List.set_cons_zero, List.set_cons_succ]
          refine wpAnyH_take (i := 1) (v := ?v1_2) rfl (by kernel_rfl) (by kernel_rfl) (by kernel_rfl) (fun _ _ _ h => h) (Or.inl ⟨by rfl, ?h1_2⟩) HS0.out ?r1_2
          case h1_2 => (intro W hSw; have u1 := hSw.1; have u2 := hSw.2.1; have u3 := hSw.2.2; clear hSw; go_simp; try with_reducible rfl)
          simp only [Act.put, List.getElem_toArray, List.getElem_cons_succ, List.getElem_cons_zero, List.setIfInBounds_toArray, List.set_cons_zero, List.set_cons_succ]
          refine wpAnyH_take (i := 2) (v := ?v2_3) rfl (by kernel_rfl) (by kernel_rfl) (by kernel_rfl) (fun _ _ _ h => h) (Or.inl ⟨by rfl, ?h2_3⟩) HS0.out ?r2_3
          case h2_3 => (intro W hSw; have u1 := hSw.1; have u2 := hSw.2.1; have u3 := hSw.2.2; clear hSw; go_simp; try with_reducible rfl)
          simp only [Act.put, List.getElem_toArray, List.getElem_cons_succ, List.getElem_cons_zero, List.setIfInBounds_toArray, List.set_cons_zero, List.set_cons_succ]
          refine wpAnyH_take (i := 3) (v := ?v3_4) rfl (by kernel_rfl) (by kernel_rfl) (by kernel_rfl) (fun _ _ _ h => h) (Or.inl ⟨by rfl, ?h3_4⟩) HS0.out ?r3_4
          case h3_4 => (intro W hSw; have u1 := hSw.1; have u2 := hSw.2.1; have u3 := hSw.2.2; clear hSw; go_simp; try with_reducible rfl)
          simp only [Act.put, List.getElem_toArray, List.getElem_cons_succ, List.getElem_cons_zero, List.setIfInBounds_toArray, List.set_cons_zero, List.set_cons_succ]
          refine wpAnyH_take (i := 4) (v := ?v4_5) rfl (by kernel_rfl) (by kernel_rfl) (by kernel_rfl) (fun _ _ _ h => h) (Or.inl ⟨by rfl, ?h4_5⟩) HS0.out ?r4_5
          case h4_5 => (intro W hSw; have u1 := hSw.1; have u2 := hSw.2.1; have u3 := hSw.2.2; clear hSw; go_simp; try with_reducible rfl)
          simp only [Act.put, List.getElem_toArray, List.getElem_cons_succ, List.getElem_cons_zero, List.setIfInBounds_toArray, List.set_cons_zero, List.set_cons_succ]
          refine wpAnyH_take (i := 5) (v := ?v5_6) rfl (by kernel_rfl) (by kernel_rfl) (by kernel_rfl) (fun _ _ _ h => h) (Or.inl ⟨by rfl, ?h5_6⟩) HS0.out ?r5_6
          case h5_6 => (intro W hSw; have u1 := hSw.1; have u2 := hSw.2.1; have u3 := hSw.2.2; clear hSw; go_simp; try with_reducible rfl)
          simp only [Act.put, List.getElem_toArray, List.getElem_cons_succ, List.getElem_cons_zero, List.setIfInBounds_toArray, List.set_cons_zero, List.set_cons_succ]
          refine wpAnyH_take (i := 6) (v := ?v6_7) rfl (by kernel_rfl) (by kernel_rfl) (by kernel_rfl) (fun _ _ _ h => h) (Or.inl ⟨by rfl, ?h6_7⟩) HS0.out ?r6_7
          case h6_7 => (intro W hSw; have u1 := hSw.1; have u2 := hSw.2.1; have u3 := hSw.2.2; clear hSw; go_simp; try with_reducible rfl)
          simp only [Act.put, List.getElem_toArray, List.getElem_cons_succ, List.getElem_cons_zero, List.setIfInBounds_toArray, List.set_cons_zero, List.set_cons_succ]
          refine wpAnyH_take (i := 7) (v := ?v7_8) rfl (by kernel_rfl) (by kernel_rfl) (by kernel_rfl) (fun _ _ _ h => h) (Or.inl ⟨by rfl, ?h7_8⟩) HS0.out ?r7_8
          case h7_8 => (intro W hSw; have u1 := hSw.1; have u2 := hSw.2.1; have u3 := hSw.2.2; clear hSw; go_simp; try with_reducible rfl)
          simp only [Act.put, List.getElem_toArray, List.getElem_cons_succ, List.getElem_cons_zero, List.setIfInBounds_toArray, List.set_cons_zero, List.set_cons_succ]
          refine wpAnyH_take (i := 8) (v := ?v8_9) rfl (by kernel_rfl) (by kernel_rfl) (by kernel_rfl) (fun _ _ _ h => h) (Or.inl ⟨by rfl, ?h8_9⟩) HS0.out ?r8_9
          case h8_9 => (intro W hSw; have u1 := hSw.1; have u2 := hSw.2.1; have u3 := hSw.2.2; clear hSw; go_simp; try with_reducible rfl)
          simp only [Act.put, List.getElem_toArray, List.getElem_cons_succ, List.getElem_cons_zero, List.setIfInBounds_toArray, List.set_cons_zero, List.set_cons_succ]
          refine wpAnyH_take (i := 9) (v := ?v9_10) rfl (by kernel_rfl) (by kernel_rfl) (by kernel_rfl) (fun _ _ _ h => h) (Or.inl ⟨by rfl, ?h9_10⟩) HS0.out ?r9_10
          case h9_10 => (intro W hSw; have u1 := hSw.1; have u2 := hSw.2.1; have u3 := hSw.2.2; clear hSw; go_simp; try with_reducible rfl)
          simp only [Act.put, List.getElem_toArray, List.getElem_cons_succ, List.getElem_cons_zero, List.setIfInBounds_toArray, List.set_cons_zero, List.set_cons_succ]
          refine wpAnyH_take (i := 10) (v := ?v10_11) rfl (by kernel_rfl) (by kernel_rfl) (by kernel_rfl) (fun _ _ _ h => h) (Or.inl ⟨by rfl, ?h10_11⟩) HS0.out ?r10_11
          case h10_11 => (intro W hSw; have u1 := hSw.1; have u2 := hSw.2.1; have u3 := hSw.2.2; clear hSw; go_simp; try with_reducible rfl)
          simp only [Act.put, List.getElem_toArray, List.getElem_cons_succ, List.getElem_cons_zero, List.setIfInBounds_toArray, List.set_cons_zero, List.set_cons_succ]
          refine wpAnyH_ready (rs := [11]) (by kernel_rfl) (by simp) ?_
          refine AllReadyH.cons (o := _) rfl (fun K hK => ?_) AllReadyH.nil
          go_simp
          go_at_call 31
          refine (HPW.out _).mono ?_
          rintro e w9 ⟨rfl, rfl⟩
          refine hK.out _ _ HS0.out (fun _ => ?_)
          clear hK
          simp only [List.setIfInBounds_toArray, List.set_cons_zero, List.set_cons_succ]
          refine wpAnyH_take (i := 12) (v := ?v12_12) rfl (by kernel_rfl) (by kernel_rfl) (by kernel_rfl) (fun _ _ _ h => h) (Or.inl ⟨by rfl, ?h12_12⟩) HS0.out ?r12_12
          case h12_12 => (intro W hSw; have u1 := hSw.1; have u2 := hSw.2.1; have u3 := hSw.2.2; clear hSw; go_simp; try with_reducible rfl)
          simp only [Act.put, List.getElem_toArray, List.getElem_cons_succ, List.getElem_cons_zero, List.setIfInBounds_toArray, List.set_cons_zero, List.set_cons_succ]
          refine wpAnyH_take (i := 13) (v := ?v13_13) rfl (by kernel_rfl) (by kernel_rfl) (by kernel_rfl) (fun _ _ _ h => h) (Or.inl ⟨by rfl, ?h13_13⟩) HS0.out ?r13_13
          case h13_13 => (intro W hSw; have u1 := hSw.1; have u2 := hSw.2.1; have u3 := hSw.2.2; clear hSw; go_simp; try with_reducible rfl)
          simp only [Act.put, List.getElem_toArray, List.getElem_cons_succ, List.getElem_cons_zero, List.setIfInBounds_toArray, List.set_cons_zero, List.set_cons_succ]
          refine wpAnyH_done (by kernel_rfl) ?_ _
          show wpList _ _ _ (opsAt _ [14, 15]) _ _
          simp only [opsAt, List.filterMap_cons, List.filterMap_nil, List.getElem?_toArray, List.getElem?_cons_succ, List.getElem?_cons_zero]

          have HX : Hid (WkAt (wr.setCell ⟨w.heap.size + 1, s, none⟩ (.int .i64 p4)) R B ∧ Below w.heap.size w (wr.setCell ⟨w.heap.size + 1, s, none⟩ (.int .i64 p4)) ∧ (wr.setCell ⟨w.heap.size + 1, s, none⟩ (.int .i64 p4)).heap[w.heap.size]? = some (.cells #[.pointer (some ⟨B, 0, none⟩)] 48 (0, 0)) ∧ (wr.setCell ⟨w.heap.size + 1, s, none⟩ (.int .i64 p4)).heap[w.heap.size + 1]? = some (.cells ((O1.set s p4).map (Value.int .i64)).toArray 72 (0, 0))) := by
            have hb : Below w.heap.size w (wr.setCell ⟨w.heap.size + 1, s, none⟩ (.int .i64 p4)) := hE.out.2.1.setCell (by show w.heap.size ≤ w.heap.size + 1; omega) _
            exact ⟨HWw.out.below hb, hb, blk_other hE.out.2.2.1 (by omega), by rw [blk_setCell hE.out.2.2.2, List.map_set]; simp⟩
          clear hp3 hp4 hE c0 c3 HS0
          go_wp2_with (fail)
          clear e1 f1
          go_roundw
          case rel => exact ⟨s + 1, by omega, by go_num, by rw [HN.out]; exact ⟨HX.out.1.below (Below.refl _ _).drew, HX.out.2.1.drew, HX.out.2.2.1, HX.out.2.2.2⟩⟩
          case measure => first | (simp [intOf]; done) | (simp [intOf]; omega)
        · have : s = 5 := by omega
          subst this
          have g5s : decide ((5 : Int) < 5) = false := rfl
          go_wp2_with (fail)
          go_roundw
          case rel => exact ⟨k + 1, by omega, by go_num, by rw [ofOut]; exact hE.out⟩
          case measure => first | (simp [intOf]; done) | (simp [intOf]; omega)
    · have : k = 5 := by omega
      subst this
      go_wp2_with (fail)
      go_ret
      exact ⟨w.heap.size, w.heap.size + 1, rfl, ⟨hC.out.1, hC.out.2.2.1, hC.out.2.2.2⟩, Nat.le_refl _, Nat.le_succ _, hC.out.2.1⟩

set_option maxHeartbeats 2000000 in
theorem bad1_any (R : Rv) (B P O : Nat) (c : Int) (w : World) (hd : BdAt w R B P O) (ok : RgOk R.r) (hc : -6 ≤ c ∧ c ≤ 6) : Calls Try.prog 33 #[.int .i64 c, .pointer (some ⟨P, 0, none⟩), .pointer (some ⟨O, 0, none⟩)] w fun e w' => e = .returned (.int .i64 (badF R.r c)) ∧ Below w.heap.size w w' := by
  have HD := Lib.hid hd
  have HO := Lib.hid ok
  have hcp := hd.p
  have c0 := blk_cell hcp 0 rfl
  have c5 := blk_cell hd.wk.b 5 rfl
  clear hd ok hcp
  go_enter Try.func33, Try.ntmps33
  go_wp2_with (fail)
  clear c0 c5
  go_loopw [5, 14] (fun t i wr => ∃ s : Nat, s ≤ R.r.drifts.length ∧ i = .int .i64 s ∧ t = .int .i64 (badTo R.r (oftenF R.r) c s) ∧ Hid (Below w.heap.size w wr)) (fun _ i _ => R.r.drifts.length - (intOf i).toNat)
  case atStart => exact ⟨0, Nat.zero_le _, rfl, rfl, Below.refl _ _⟩
  case round =>
    obtain ⟨s, hs, rfl, rfl, hb⟩ := hrel
    by_cases hlt : s < R.r.drifts.length
    · obtain ⟨b, off, had, hbs, hcc⟩ := HD.out.wk.at'.d (by omega)
      have hck := (hb.out.cell (p := ⟨b, off + s, none⟩) hbs).trans ((hcc s hlt).trans (by rw [List.getElem?_eq_getElem hlt]; rfl : _ = some (.int .i64 R.r.drifts[s])))
      have hx := HO.out.drifts R.r.drifts[s] (List.getElem_mem hlt)
      have hE := Lib.hid (HD.out.below hb.out)
      have hs5 : s < 5 := by have := HO.out.dlen; omega
      have hOl : (oftenF R.r).length = 5 := ofOut_len _ _ _
      have e1 := blk_cell hE.out.o s (v := .int .i64 ((oftenF R.r)[s]?.getD 0)) (by simp [hOl, hs5])
      have hcp := hE.out.p
      have c0 := blk_cell hcp 0 rfl
      have HT : Hid (badTo R.r (oftenF R.r) c (s + 1) = IntKind.i64.wrap (badTo R.r (oftenF R.r) c s + IntKind.i64.wrap ((oftenF R.r)[s]?.getD 0 * (sumI R.r.group - hitsR R.r R.r.drifts[s] c)))) := by
        show _ = _
        rw [badTo, List.getElem?_eq_getElem hlt]; rfl
      have hoo : ((oftenF R.r).map (Value.int .i64)).toArray[s]? = some (.int .i64 ((oftenF R.r)[s]?.getD 0)) := by simp [hOl, hs5]
      generalize (oftenF R.r)[s]?.getD 0 = o1 at e1 HT hoo
      have HOO := Lib.hid hoo
      generalize badTo R.r (oftenF R.r) c s = t0 at HT ⊢
      have M := Lib.hid (misses_any R B R.r.drifts[s] c wr.drew (hE.out.wk.below (Below.refl _ _).drew) HO.out hx hc)
      generalize R.r.drifts[s] = x at hck M HT
      generalize sumI R.r.group - hitsR R.r x c = m0 at M HT
      obtain ⟨p3, hp3⟩ : ∃ p3, IntKind.i64.wrap (o1 * m0) = p3 := ⟨_, rfl⟩
      obtain ⟨p4, hp4⟩ : ∃ p4, IntKind.i64.wrap (t0 + p3) = p4 := ⟨_, rfl⟩
      have HN : Hid (badTo R.r (oftenF R.r) c (s + 1) = p4) := by show _ = _; rw [HT.out, hp3, hp4]
      rw [had]
      have gs5 : (s : Int) < 5 := by omega
      clear hcc had hcp hOl HT hoo
      go_wp2_with (fail)
      clear hck
      go_region_held3 (fun w' => w'.cell? ⟨O, s, none⟩ = some (.int .i64 o1) ∧ w'.cell? ⟨P, 0, none⟩ = some (.pointer (some ⟨B, 0, none⟩))) (go_keep)
        (first | (go_at_call 34; refine M.out.mono ?_; rintro e w2 ⟨rfl, hb2⟩; have HB2 : Hid (Below w.heap.size w w2) := below_self hb.out (⟨hb2.os, hb2.tape, hb2.output, hb2.size, hb2.block⟩ : Below wr.heap.size wr w2); have e2 := blk_cell (HD.out.below HB2.out).o s (v := .int .i64 o1) HOO.out; have c2 := blk_cell (HD.out.below HB2.out).p 0 rfl; clear hb2 e1 c0))
      all_goals (
        clear hp3 hp4 e2 c2
        go_wp2
        go_roundw
        case rel => exact ⟨s + 1, by omega, by go_num, by rw [HN.out], HB2⟩
        case measure => first | (simp [intOf]; done) | (simp [intOf]; omega))
    · have : s = R.r.drifts.length := by omega
      subst this
      go_wp2
      go_ret
      exact ⟨rfl, hb.out⟩

/-- A fraction in lowest terms. -/
abbrev ratV (n d : Nat) : Value := .agg #[.int .i64 (n / Nat.gcd d n : Nat), .int .i64 (d / Nat.gcd d n : Nat)]

set_option maxHeartbeats 2000000 in
theorem expected_any (R : Rv) (B n d : Nat) (w : World) (hw : WkAt w R B) (ok : RgOk R.r) (hn : n ≤ 1000000000000000000) (hd : (d : Int) = sumI R.r.group * powI R.r.total 5) : Calls Try.prog 17 #[.pointer (some ⟨B, 0, none⟩), .int .i64 n] w fun e w' => e = .returned (ratV n d) ∧ Below w.heap.size w w' := by
  obtain ⟨W0, hW0⟩ : ∃ W0, w.alloc (.cells #[.int .i64 0, .int .i64 0] 33) = W0 := ⟨_, rfl⟩
  have h0 : Below w.heap.size w W0 := by rw [← hW0]; exact alloc1 w _
  have hz : W0.heap[w.heap.size]? = some (.cells #[.int .i64 0, .int .i64 0] 33 (0, 0)) := by rw [← hW0]; exact heap_alloc_new w _
  have HW := Lib.hid (hw.below h0)
  have c8 : W0.cell? ⟨B, 8, none⟩ = some (.int .i64 (sumI R.r.group)) := blk_cell HW.out.b 8 rfl
  have c3 := blk_cell HW.out.b 3 rfl
  have hp5 := powI_bd R.r.total (by have := ok.total; omega) 5 (by omega)
  have hs := ok.gsum
  have hpos : 0 < powI R.r.total 5 := by
    have h1 := ok.total.1
    have : ∀ j, 0 < powI R.r.total j := fun j => by
      induction j with
      | zero => exact Int.one_pos
      | succ j ih => exact Int.mul_pos ih (by omega)
    exact this 5
  have hdb : 0 < (d : Int) ∧ (d : Int) ≤ 42998169600 := by
    rw [hd]
    refine ⟨Int.mul_pos (by omega) hpos, ?_⟩
    exact Int.le_trans (Int.mul_le_mul hs.2 hp5.2 (by omega) (by omega)) (by omega)
  have HPW := Lib.hid fun W => power_any R.r.total 5 W (by have := ok.total; omega) (by omega)
  have HRT := Lib.hid fun W => ratio_any n d W (by omega) hn (by omega)
  generalize hn1 : ((n / Nat.gcd d n : Nat) : Int) = n1 at HRT
  generalize hd1 : ((d / Nat.gcd d n : Nat) : Int) = d1 at HRT
  have HE := Lib.hid (And.intro hn1 hd1)
  have q : IntKind.i64.wrap (sumI R.r.group * powI R.r.total 5) = d := by rw [← hd]; exact IntWalk.i64_in _ (by omega)
  have H0 := Lib.hid (And.intro h0 hz)
  generalize powI R.r.total 5 = p5 at q HPW
  generalize hgs : sumI R.r.group = gs at q c8
  clear hw h0 hz hp5 hs hpos hd ok hn1 hd1
  go_enter Try.func17, Try.ntmps17
  go_wp2_with (fail)
  clear hW0
  have HS0 := Lib.hid ((⟨c8, c3⟩ : W0.drew.cell? ⟨B, 8, none⟩ = some (.int .i64 gs) ∧ W0.drew.cell? ⟨B, 3, none⟩ = some (.int .i64 R.r.total)))
  refine wp_region_split (S := fun w' => w'.cell? ⟨B, 8, none⟩ = some (.int .i64 gs) ∧ w'.cell? ⟨B, 3, none⟩ = some (.int .i64 R.r.total)) [13] 13 (by kernel_rfl) (by kernel_rfl) rfl ?_
  rw [show firstL _ [13] = #[false, false, false, false, false, false, false, false, false, false, false, false, false, true] from by kernel_rfl]
  refine wpAnyH_take (i := 0) (v := ?v0_14) rfl (by kernel_rfl) (by kernel_rfl) (by kernel_rfl) (fun _ _ _ h => h) (Or.inl ⟨by rfl, ?h0_14⟩) HS0.out ?r0_14
  case h0_14 => (intro W hSw; have u1 := hSw.1; have u2 := hSw.2; clear hSw; go_simp; try with_reducible rfl)
  simp only [Act.put, List.getElem_toArray, List.getElem_cons_zero, List.setIfInBounds_toArray, List.set_cons_zero, List.set_cons_succ]
  refine wpAnyH_take (i := 1) (v := ?v1_15) rfl (by kernel_rfl) (by kernel_rfl) (by kernel_rfl) (fun _ _ _ h => h) (Or.inl ⟨by rfl, ?h1_15⟩) HS0.out ?r1_15
  case h1_15 => (intro W hSw; have u1 := hSw.1; have u2 := hSw.2; clear hSw; go_simp; try with_reducible rfl)
  simp only [Act.put, List.getElem_toArray, List.getElem_cons_succ, List.getElem_cons_zero, List.setIfInBounds_toArray, List.set_cons_zero, List.set_cons_succ]
  refine wpAnyH_take (i := 2) (v := ?v2_16) rfl (by kernel_rfl) (by kernel_rfl) (by kernel_rfl) (fun _ _ _ h => h) (Or.inl ⟨by rfl, ?h2_16⟩) HS0.out ?r2_16
  case h2_16 => (intro W hSw; have u1 := hSw.1; have u2 := hSw.2; clear hSw; go_simp; try with_reducible rfl)
  simp only [Act.put, List.getElem_toArray, List.getElem_cons_succ, List.getElem_cons_zero, List.setIfInBounds_toArray, List.set_cons_zero, List.set_cons_succ]
  refine wpAnyH_take (i := 3) (v := ?v3_17) rfl (by kernel_rfl) (by kernel_rfl) (by kernel_rfl) (fun _ _ _ h => h) (Or.inl ⟨by rfl, ?h3_17⟩) HS0.out ?r3_17
  case h3_17 => (intro W hSw; have u1 := hSw.1; have u2 := hSw.2; clear hSw; go_simp; try with_reducible rfl)
  simp only [Act.put, List.getElem_toArray, List.getElem_cons_succ, List.getElem_cons_zero, List.setIfInBounds_toArray, List.set_cons_zero, List.set_cons_succ]
  refine wpAnyH_take (i := 4) (v := ?v4_18) rfl (by kernel_rfl) (by kernel_rfl) (by kernel_rfl) (fun _ _ _ h => h) (Or.inl ⟨by rfl, ?h4_18⟩) HS0.out ?r4_18
  case h4_18 => (intro W hSw; have u1 := hSw.1; have u2 := hSw.2; clear hSw; go_simp; try with_reducible rfl)
  simp only [Act.put, List.getElem_toArray, List.getElem_cons_succ, List.getElem_cons_zero, List.setIfInBounds_toArray, List.set_cons_zero, List.set_cons_succ]
  refine wpAnyH_take (i := 5) (v := ?v5_19) rfl (by kernel_rfl) (by kernel_rfl) (by kernel_rfl) (fun _ _ _ h => h) (Or.inl ⟨by rfl, ?h5_19⟩) HS0.out ?r5_19
  case h5_19 => (intro W hSw; have u1 := hSw.1; have u2 := hSw.2; clear hSw; go_simp; try with_reducible rfl)
  simp only [Act.put, List.getElem_toArray, List.getElem_cons_succ, List.getElem_cons_zero, List.setIfInBounds_toArray, List.set_cons_zero, List.set_cons_succ]
  refine wpAnyH_take (i := 6) (v := ?v6_20) rfl (by kernel_rfl) (by kernel_rfl) (by kernel_rfl) (fun _ _ _ h => h) (Or.inl ⟨by rfl, ?h6_20⟩) HS0.out ?r6_20
  case h6_20 => (intro W hSw; have u1 := hSw.1; have u2 := hSw.2; clear hSw; go_simp; try with_reducible rfl)
  simp only [Act.put, List.getElem_toArray, List.getElem_cons_succ, List.getElem_cons_zero, List.setIfInBounds_toArray, List.set_cons_zero, List.set_cons_succ]
  refine wpAnyH_take (i := 7) (v := ?v7_21) rfl (by kernel_rfl) (by kernel_rfl) (by kernel_rfl) (fun _ _ _ h => h) (Or.inl ⟨by rfl, ?h7_21⟩) HS0.out ?r7_21
  case h7_21 => (intro W hSw; have u1 := hSw.1; have u2 := hSw.2; clear hSw; go_simp; try with_reducible rfl)
  simp only [Act.put, List.getElem_toArray, List.getElem_cons_succ, List.getElem_cons_zero, List.setIfInBounds_toArray, List.set_cons_zero, List.set_cons_succ]
  refine wpAnyH_take (i := 8) (v := ?v8_22) rfl (by kernel_rfl) (by kernel_rfl) (by kernel_rfl) (fun _ _ _ h => h) (Or.inl ⟨by rfl, ?h8_22⟩) HS0.out ?r8_22
  case h8_22 => (intro W hSw; have u1 := hSw.1; have u2 := hSw.2; clear hSw; go_simp; try with_reducible rfl)
  simp only [Act.put, List.getElem_toArray, List.getElem_cons_succ, List.getElem_cons_zero, List.setIfInBounds_toArray, List.set_cons_zero, List.set_cons_succ]
  refine wpAnyH_take (i := 9) (v := ?v9_23) rfl (by kernel_rfl) (by kernel_rfl) (by kernel_rfl) (fun _ _ _ h => h) (Or.inl ⟨by rfl, ?h9_23⟩) HS0.out ?r9_23
  case h9_23 => (intro W hSw; have u1 := hSw.1; have u2 := hSw.2; clear hSw; go_simp; try with_reducible rfl)
  simp only [Act.put, List.getElem_toArray, List.getElem_cons_succ, List.getElem_cons_zero, List.setIfInBounds_toArray, List.set_cons_zero, List.set_cons_succ]
  refine wpAnyH_ready (rs := [10]) (by kernel_rfl) (by simp) ?_
  refine AllReadyH.cons (o := _) rfl (fun K hK => ?_) AllReadyH.nil
  go_simp
  go_at_call 31
  refine (HPW.out _).mono ?_
  rintro e w9 ⟨rfl, rfl⟩
  refine hK.out _ _ HS0.out (fun _ => ?_)
  clear hK
  simp only [List.setIfInBounds_toArray, List.set_cons_zero, List.set_cons_succ]
  refine wpAnyH_take (i := 11) (v := ?v11_24) rfl (by kernel_rfl) (by kernel_rfl) (by kernel_rfl) (fun _ _ _ h => h) (Or.inl ⟨by rfl, ?h11_24⟩) HS0.out ?r11_24
  case h11_24 => (intro W hSw; have u1 := hSw.1; have u2 := hSw.2; clear hSw; go_simp; try with_reducible rfl)
  simp only [Act.put, List.getElem_toArray, List.getElem_cons_succ, List.getElem_cons_zero, List.setIfInBounds_toArray, List.set_cons_zero, List.set_cons_succ]
  refine wpAnyH_ready (rs := [12]) (by kernel_rfl) (by simp) ?_
  refine AllReadyH.cons (o := _) rfl (fun K hK => ?_) AllReadyH.nil
  go_simp
  go_at_call 20
  refine (HRT.out _).mono ?_
  rintro e w9 ⟨rfl, hb9⟩
  have HB9 : Hid (Below W0.heap.size W0 w9) := ⟨hb9.os, hb9.tape, hb9.output, hb9.size, hb9.block⟩
  have e8 : w9.cell? ⟨B, 8, none⟩ = some (.int .i64 gs) := by rw [← hgs]; exact blk_cell (HW.out.below HB9.out).b 8 rfl
  have e3 := blk_cell (HW.out.below HB9.out).b 3 rfl
  clear hb9
  refine hK.out _ _ ⟨e8, e3⟩ (fun _ => ?_)
  clear hK
  simp only [List.setIfInBounds_toArray, List.set_cons_zero, List.set_cons_succ]
  refine wpAnyH_done (by kernel_rfl) ?_ _
  show wpList _ _ _ (opsAt _ [13]) _ _
  simp only [opsAt, List.filterMap_cons, List.filterMap_nil, List.getElem?_toArray, List.getElem?_cons_succ, List.getElem?_cons_zero]
  have hz9 := blk_below H0.out.2 HB9.out
  have hb9 : Below w.heap.size w w9 := H0.out.1.trans (HB9.out.mono H0.out.1.size)
  have m0 := blk_cell hz9 0 rfl
  have m1 := blk_cell hz9 1 rfl
  have k0 := blk_free (j := 0) hz9
  have k1 := blk_free (j := 1) hz9
  have hz10 := blk_setCell (j := 1) (u := .int .i64 d1) (blk_setCell (j := 0) (u := .int .i64 n1) hz9)
  have hb10 : Below w.heap.size w ((w9.setCell ⟨w.heap.size, 0, none⟩ (.int .i64 n1)).setCell ⟨w.heap.size, 1, none⟩ (.int .i64 d1)) := (hb9.setCell (Nat.le_refl _) _).setCell (Nat.le_refl _) _
  have HF := Lib.hid (And.intro hz10 hb10)
  clear hz9 hb9 hz10 hb10 e8 e3 c8 c3
  go_wp2_with (fail)
  have q0 := blk_cell HF.out.1 0 rfl
  have q1 := blk_cell HF.out.1 1 rfl
  clear m0 m1 k0 k1
  exact bodyPost_ret (v := .agg #[.int .i64 n1, .int .i64 d1]) (by simp [results, Try.results17, go_sem, q0, q1]) rfl ⟨by rw [← HE.out.1, ← HE.out.2], HF.out.2⟩


end Go.Proofs.Ythajembgndhakaa
