/-
The contract of checkWeather for any weather over this seat's program.
  What is proved: it answers the error of a weather in a winter; nothing that was there before has turned.
  Conditions: lists of at most 1000000 elements.
The contract of drained over this seat's program, with what is left.
  What is proved: what is left of the piles if so much comes from the oldest ones.
  Conditions: at most 1000 piles; numbers of at most 10000000, none of what a pile holds below 0.
The piles of a spell, as a function of lists.
  What is proved: they are the stock, oldest first, and all that was made after the first of them is left.
  Conditions: each lemma states its own.
What play's memory holds, with the piles.
  What is proved: the memory's facts go on from one store or append of play to the next.
  Conditions: each lemma states its own.
The contract of play over this seat's program, with the piles.
  What is proved: the tale that play hands back, its piles too.
  Conditions: lists of as many numbers as there are days, at most 60; numbers of at most 100000; a stock from 0 to the store, which is at most 1000000.
The contracts of told and Piles with what is left, and of slices.Contains for piles, over this seat's program.
  What is proved: each answers what happens in a weather; Contains finds a pile that is there.
  Conditions: a valid winter, and a weather within its spans.
The contracts of told, Stocks, Fails, Made, Piles and Worst over this seat's program, where a winter or a weather is not valid.
  What is proved: each answers the error, and nothing besides.
  Conditions: winters of at most 1000000 days.
The contract of the reference's Weather over this seat's program.
  What is proved: it answers the error of a winter, or of a weather in it.
  Conditions: lists of at most 1000000 elements.
The piles of the reference, of lists: those that are not empty are the piles of the program.
  No program is named here. Conditions: numbers that are not less than 0.
Of lists: how the reference's piles come about, number by number and day by day.
  No program is named here. Conditions: numbers that are not less than 0.
The contract of the reference's Piles over this seat's program.
  What is proved: it hands back the piles of the reference, as lists have them; nothing that was there before has turned.
  Conditions: at most 60 days of small numbers.
-/
import Derived.Test.YtmebmcipmemofaaGreatPart16
namespace Go.Proofs.YtmebmcipmemofaaGreat
open Go.RowKit Go.Shelf
attribute [local go_sem] Oper.semAt_some

theorem sky_succ (ds : List Dy) (N M L : List Int) (k : Nat) : (List.range (k + 1)).all (skyB ds N M L) = ((List.range k).all (skyB ds N M L) && skyB ds N M L k) := by
  rw [List.range_succ, List.all_append, List.all_cons, List.all_nil, Bool.and_true]
theorem sky_bad (ds : List Dy) (N M L : List Int) (k : Nat) (h : k < ds.length) (hb : skyB ds N M L k = false) : (List.range ds.length).all (skyB ds N M L) = false := by
  rw [List.all_eq_false]
  exact ⟨k, List.mem_range.2 h, by simp [hb]⟩

/-- What the day's region reads. -/
def WS (T D b1 o1 b2 o2 b3 o3 k : Nat) (u v x : Value) (d : Dy) (nk mk lk : Int) (W : World) : Prop :=
  W.cell? ⟨T, 0, none⟩ = some u ∧ W.cell? ⟨T, 1, none⟩ = some v ∧ W.cell? ⟨T, 2, none⟩ = some x ∧
  W.cell? ⟨D, 0, none⟩ = some (.int .i64 d.need.lo) ∧ W.cell? ⟨D, 1, none⟩ = some (.int .i64 d.need.hi) ∧ W.cell? ⟨D, 2, none⟩ = some (.int .i64 d.make.lo) ∧ W.cell? ⟨D, 3, none⟩ = some (.int .i64 d.make.hi) ∧ W.cell? ⟨D, 4, none⟩ = some (.int .i64 d.loss.lo) ∧ W.cell? ⟨D, 5, none⟩ = some (.int .i64 d.loss.hi) ∧
  W.cell? ⟨b1, o1 + k, none⟩ = some (.int .i64 nk) ∧ W.cell? ⟨b2, o2 + k, none⟩ = some (.int .i64 mk) ∧ W.cell? ⟨b3, o3 + k, none⟩ = some (.int .i64 lk)
theorem ws_of {W : World} {T D b1 o1 b2 o2 b3 o3 k : Nat} {u v x : Value} {d : Dy} {nk mk lk : Int} (h : WQ W T D #[u, v, x] d b1 o1 b2 o2 b3 o3 k nk mk lk) : WS T D b1 o1 b2 o2 b3 o3 k u v x d nk mk lk W :=
  ⟨blk_cell h.1 0 rfl, blk_cell h.1 1 rfl, blk_cell h.1 2 rfl, blk_cell h.2.1 0 rfl, blk_cell h.2.1 1 rfl, blk_cell h.2.1 2 rfl, blk_cell h.2.1 3 rfl, blk_cell h.2.1 4 rfl, blk_cell h.2.1 5 rfl, h.2.2.1.2, h.2.2.2.1.2, h.2.2.2.2.2⟩

set_option maxRecDepth 100000 in
set_option maxHeartbeats 8000000 in
theorem checkWeather_all (stock store : Int) (a : Option Addr) (ds : List Dy) (cap : Nat) (an : Option Addr) (N : List Int) (cn : Nat) (am : Option Addr) (M : List Int) (cm : Nat) (al : Option Addr) (L : List Int) (cl : Nat) (w : World)
    (hx : Sl 6 Dy.cells w a ds) (hl : ds.length ≤ 1000000) (hN : IntSl w an N) (hM : IntSl w am M) (hL : IntSl w al L) :
    Calls Tryz.prog 141 #[wv stock store a ds.length cap, tv an N.length cn am M.length cm al L.length cl] w fun e w' => e = .returned (.int .i64 (skyE ds N M L)) ∧ Below w.heap.size w w' := by
  have HX := Lib.hid (And.intro hx (And.intro hN (And.intro hM hL)))
  clear hx hN hM hL
  obtain ⟨Wa, hWa⟩ : ∃ Wa, (w.alloc (.cells #[.int .i64 stock, .int .i64 store, .slice a ds.length cap] 56)).alloc (.cells #[.slice an N.length cn, .slice am M.length cm, .slice al L.length cl] 58) = Wa := ⟨_, rfl⟩
  have hba : Below w.heap.size w Wa := by rw [← hWa]; exact ((Below.refl _ _).alloc (Nat.le_refl _) _).alloc (by simp) _
  have h0 : Wa.heap[w.heap.size]? = some (.cells #[.int .i64 stock, .int .i64 store, .slice a ds.length cap] 56 (0, 0)) := by rw [← hWa]; exact alk (new_at rfl)
  have h1 : Wa.heap[w.heap.size + 1]? = some (.cells #[.slice an N.length cn, .slice am M.length cm, .slice al L.length cl] 58 (0, 0)) := by rw [← hWa]; exact new_at (by simp)
  have a0 := blk_cell h1 0 rfl
  have a1 := blk_cell h1 1 rfl
  have a2 := blk_cell h1 2 rfl
  go_enter Tryz.func141, Tryz.ntmps141
  go_wp2_with (fail)
  clear hWa a0 a1 a2
  have hb2 : Below w.heap.size w (Wa.alloc (.cells #[.slice an N.length cn, .slice am M.length cm, .slice al L.length cl] 27)) := hba.alloc hba.size _
  refine (every_list (some ⟨Wa.heap.size, 0, none⟩) [N.length, M.length, L.length] 3 174 #[.pointer (some ⟨w.heap.size, 0, none⟩)] (fun l => decide (l = ds.length)) _ (lens3 (heap_alloc_new _ _)) (by simp) eg147 (fun x l c W hW => checkWeather1_any x l c w.heap.size ds.length _ _ a cap W (blk_below (alk h0) hW) (by omega))).mono ?_
  rintro e w1 ⟨rfl, hb⟩
  have H1 := Lib.hid (And.intro (below_self hb2 hb) (And.intro (blk_below (alk h0) hb) (blk_below (alk h1) hb)))
  clear hb hb2 hba h0 h1
  by_cases hlen : ([N.length, M.length, L.length].all (fun l => decide (l = ds.length))) = true
  · have HSE : Hid (skyE ds N M L = if ((List.range ds.length).all (skyB ds N M L)) = true then 0 else 3) := by show _ = _; rw [skyE, if_pos hlen]
    have HLn : Hid (N.length = ds.length ∧ M.length = ds.length ∧ L.length = ds.length) := by show _ ∧ _; simpa using hlen
    rw [hlen]
    clear hlen
    have c2 := blk_cell H1.out.2.1 2 rfl
    go_wp2_with (fail)
    clear c2
    go_loopw [22] (fun i wr => ∃ k : Nat, k ≤ ds.length ∧ i = .int .i64 k ∧ Hid ((List.range k).all (skyB ds N M L) = true) ∧ Below w1.heap.size w1 wr) (fun i _ => ds.length - (intOf i).toNat)
    case atStart => exact ⟨0, Nat.zero_le _, rfl, rfl, Below.refl _ _⟩
    case round =>
      obtain ⟨k, hk, rfl, hsk, hbw⟩ := hrel
      by_cases hlt : k < ds.length
      · obtain ⟨b, off, rfl, hbs, hc⟩ := HX.out.1 (by omega)
        obtain ⟨b1, o1, rfl, hb1, hc1⟩ := HX.out.2.1 (by have := HLn.out; omega)
        obtain ⟨b2, o2, rfl, hb2, hc2⟩ := HX.out.2.2.1 (by have := HLn.out; omega)
        obtain ⟨b3, o3, rfl, hb3, hc3⟩ := HX.out.2.2.2 (by have := HLn.out; omega)
        have HB := Lib.hid (below_self H1.out.1 hbw)
        have hsu := Lib.hid (sky_succ ds N M L k)
        have hsb := Lib.hid (sky_bad ds N M L k hlt)
        have hsd : Hid (skyB ds N M L k = (insideB (N[k]?.getD 0) ds[k].need && (insideB (M[k]?.getD 0) ds[k].make && insideB (L[k]?.getD 0) ds[k].loss))) := by show _ = _; rw [skyB, List.getElem?_eq_getElem hlt]
        have d0 := (HB.out.cell (p := ⟨b, off + k * 6, none⟩) hbs).trans (hc k ds[k] 0 _ (List.getElem?_eq_getElem hlt) rfl)
        have d1 := (HB.out.cell (p := ⟨b, off + k * 6 + 1, none⟩) hbs).trans (hc k ds[k] 1 _ (List.getElem?_eq_getElem hlt) rfl)
        have d2 := (HB.out.cell (p := ⟨b, off + k * 6 + 2, none⟩) hbs).trans (hc k ds[k] 2 _ (List.getElem?_eq_getElem hlt) rfl)
        have d3 := (HB.out.cell (p := ⟨b, off + k * 6 + 3, none⟩) hbs).trans (hc k ds[k] 3 _ (List.getElem?_eq_getElem hlt) rfl)
        have d4 := (HB.out.cell (p := ⟨b, off + k * 6 + 4, none⟩) hbs).trans (hc k ds[k] 4 _ (List.getElem?_eq_getElem hlt) rfl)
        have d5 := (HB.out.cell (p := ⟨b, off + k * 6 + 5, none⟩) hbs).trans (hc k ds[k] 5 _ (List.getElem?_eq_getElem hlt) rfl)
        have e1 := (HB.out.cell (p := ⟨b1, o1 + k, none⟩) hb1).trans (hc1 k (by have := HLn.out; omega))
        have e2 := (HB.out.cell (p := ⟨b2, o2 + k, none⟩) hb2).trans (hc2 k (by have := HLn.out; omega))
        have e3 := (HB.out.cell (p := ⟨b3, o3 + k, none⟩) hb3).trans (hc3 k (by have := HLn.out; omega))
        clear hc hc1 hc2 hc3
        generalize ds[k] = d at *
        generalize N[k]?.getD 0 = nk at *
        generalize M[k]?.getD 0 = mk at *
        generalize L[k]?.getD 0 = lk at *
        obtain ⟨Wd, hWd⟩ : ∃ Wd, wr.alloc (.cells #[.int .i64 d.need.lo, .int .i64 d.need.hi, .int .i64 d.make.lo, .int .i64 d.make.hi, .int .i64 d.loss.lo, .int .i64 d.loss.hi] 97) = Wd := ⟨_, rfl⟩
        have HQ : Hid (WQ Wd (w.heap.size + 1) wr.heap.size #[.slice (some ⟨b1, o1, none⟩) N.length cn, .slice (some ⟨b2, o2, none⟩) M.length cm, .slice (some ⟨b3, o3, none⟩) L.length cl] d b1 o1 b2 o2 b3 o3 k nk mk lk ∧ Below w.heap.size w Wd ∧ Below w1.heap.size w1 Wd) := by
          rw [← hWd]
          have q1 := HB.out.size
          exact ⟨⟨alk (blk_below H1.out.2.2 hbw), heap_alloc_new _ _, ⟨by simp; omega, (World.cell?_alloc_lt _ _ _ (by show b1 < _; omega)).trans e1⟩, ⟨by simp; omega, (World.cell?_alloc_lt _ _ _ (by show b2 < _; omega)).trans e2⟩, by simp; omega, (World.cell?_alloc_lt _ _ _ (by show b3 < _; omega)).trans e3⟩, HB.out.alloc HB.out.size _, hbw.alloc hbw.size _⟩
        clear e1 e2 e3
        go_upto_region 7 with (fail)
        clear hWd d0 d1 d2 d3 d4 d5
        have t0 := blk_cell HQ.out.1.1 0 rfl
        have t1 := blk_cell HQ.out.1.1 1 rfl
        have t2 := blk_cell HQ.out.1.1 2 rfl
        have x0 := blk_cell HQ.out.1.2.1 0 rfl
        have x1 := blk_cell HQ.out.1.2.1 1 rfl
        have x2 := blk_cell HQ.out.1.2.1 2 rfl
        have x3 := blk_cell HQ.out.1.2.1 3 rfl
        have x4 := blk_cell HQ.out.1.2.1 4 rfl
        have x5 := blk_cell HQ.out.1.2.1 5 rfl
        have y1 := HQ.out.1.2.2.1.2
        have y2 := HQ.out.1.2.2.2.1.2
        have y3 := HQ.out.1.2.2.2.2.2
        have lN : k < N.length := by have := HLn.out; omega
        have lM : k < M.length := by have := HLn.out; omega
        have lL : k < L.length := by have := HLn.out; omega
        refine wp_region_held (S := WS (w.heap.size + 1) wr.heap.size b1 o1 b2 o2 b3 o3 k (.slice (some ⟨b1, o1, none⟩) N.length cn) (.slice (some ⟨b2, o2, none⟩) M.length cm) (.slice (some ⟨b3, o3, none⟩) L.length cl) d nk mk lk) (by kernel_rfl) ?_
        have HQ0 := Lib.hid (day_step HQ.out (Below.refl _ _).drew)
        clear t0 t1 t2 x0 x1 x2 x3 x4 x5 y1 y2 y3 HQ
        change wpAnyH _ _ _ _ _ _ _ _ Wd.drew
        generalize Wd.drew = X0 at HQ0 ⊢
        rw [show (Array.replicate _ false) = #[false, false, false, false, false, false, false, false, false, false, false, false, false, false, false, false, false, false, false, false, false, false, false, false, false, false, false, false, false, false, false] from by kernel_rfl]
        refine wpAnyH_take (i := 0) (v := .pointer (some ⟨w.heap.size + 1, 0, none⟩)) rfl (by kernel_rfl) (by kernel_rfl) (by kernel_rfl) (fun _ _ _ h => h) (Or.inl ⟨by rfl, by (intro W hSw; obtain ⟨s0, s1, s2, s3, s4, s5, s6, s7, s8, s9, s10, s11⟩ := hSw; go_simp)⟩) (ws_of HQ0.out.1) ?_
        simp only [Act.put, List.getElem_toArray, List.getElem_cons_zero, List.setIfInBounds_toArray, List.set_cons_zero]
        refine wpAnyH_take (i := 1) (v := .slice (some ⟨b1, o1, none⟩) N.length cn) rfl (by kernel_rfl) (by kernel_rfl) (by kernel_rfl) (fun _ _ _ h => h) (Or.inl ⟨by rfl, by (intro W hSw; obtain ⟨s0, s1, s2, s3, s4, s5, s6, s7, s8, s9, s10, s11⟩ := hSw; go_simp)⟩) (ws_of HQ0.out.1) ?_
        simp only [Act.put, List.getElem_toArray, List.getElem_cons_succ, List.getElem_cons_zero, List.setIfInBounds_toArray, List.set_cons_zero, List.set_cons_succ]
        refine wpAnyH_take (i := 2) (v := .int .i64 (k : Int)) rfl (by kernel_rfl) (by kernel_rfl) (by kernel_rfl) (fun _ _ _ h => h) (Or.inl ⟨by rfl, by (intro W hSw; obtain ⟨s0, s1, s2, s3, s4, s5, s6, s7, s8, s9, s10, s11⟩ := hSw; go_simp)⟩) (ws_of HQ0.out.1) ?_
        simp only [Act.put, List.getElem_toArray, List.getElem_cons_succ, List.getElem_cons_zero, List.setIfInBounds_toArray, List.set_cons_zero, List.set_cons_succ]
        refine wpAnyH_take (i := 3) (v := .pointer (some ⟨b1, o1 + k, none⟩)) rfl (by kernel_rfl) (by kernel_rfl) (by kernel_rfl) (fun _ _ _ h => h) (Or.inl ⟨by rfl, by (intro W hSw; obtain ⟨s0, s1, s2, s3, s4, s5, s6, s7, s8, s9, s10, s11⟩ := hSw; go_simp)⟩) (ws_of HQ0.out.1) ?_
        simp only [Act.put, List.getElem_toArray, List.getElem_cons_succ, List.getElem_cons_zero, List.setIfInBounds_toArray, List.set_cons_zero, List.set_cons_succ]
        refine wpAnyH_take (i := 4) (v := .int .i64 nk) rfl (by kernel_rfl) (by kernel_rfl) (by kernel_rfl) (fun _ _ _ h => h) (Or.inl ⟨by rfl, by (intro W hSw; obtain ⟨s0, s1, s2, s3, s4, s5, s6, s7, s8, s9, s10, s11⟩ := hSw; go_simp)⟩) (ws_of HQ0.out.1) ?_
        simp only [Act.put, List.getElem_toArray, List.getElem_cons_succ, List.getElem_cons_zero, List.setIfInBounds_toArray, List.set_cons_zero, List.set_cons_succ]
        refine wpAnyH_take (i := 5) (v := .pointer (some ⟨wr.heap.size, 0, none⟩)) rfl (by kernel_rfl) (by kernel_rfl) (by kernel_rfl) (fun _ _ _ h => h) (Or.inl ⟨by rfl, by (intro W hSw; obtain ⟨s0, s1, s2, s3, s4, s5, s6, s7, s8, s9, s10, s11⟩ := hSw; go_simp)⟩) (ws_of HQ0.out.1) ?_
        simp only [Act.put, List.getElem_toArray, List.getElem_cons_succ, List.getElem_cons_zero, List.setIfInBounds_toArray, List.set_cons_zero, List.set_cons_succ]
        refine wpAnyH_take (i := 6) (v := .agg #[.int .i64 d.need.lo, .int .i64 d.need.hi]) rfl (by kernel_rfl) (by kernel_rfl) (by kernel_rfl) (fun _ _ _ h => h) (Or.inl ⟨by rfl, by (intro W hSw; obtain ⟨s0, s1, s2, s3, s4, s5, s6, s7, s8, s9, s10, s11⟩ := hSw; go_simp)⟩) (ws_of HQ0.out.1) ?_
        simp only [Act.put, List.getElem_toArray, List.getElem_cons_succ, List.getElem_cons_zero, List.setIfInBounds_toArray, List.set_cons_zero, List.set_cons_succ]
        refine wpAnyH_ready (rs := [7]) (by kernel_rfl) (by simp) ?_
        refine AllReadyH.cons (o := _) rfl (fun K hK => ?_) AllReadyH.nil
        go_simp
        go_at_call 147
        refine (inside_any _ _ _).mono ?_
        rintro e X1 ⟨rfl, hb⟩
        have HQ1 := Lib.hid (day_step HQ0.out hb)
        clear hb HQ0
        cases q1 : insideB nk d.need
        · have HF : Hid ((List.range ds.length).all (skyB ds N M L) = false) := hsb.out (by rw [hsd.out, q1]; rfl)
          clear hsb hsd hsu
          refine hK.out _ _ (ws_of HQ1.out.1) (fun _ => ?_)
          clear hK
          simp only [List.setIfInBounds_toArray, List.set_cons_zero, List.set_cons_succ]
          refine wpAnyH_take (i := 8) (v := .bool true) rfl (by kernel_rfl) (by kernel_rfl) (by kernel_rfl) (fun _ _ _ h => h) (Or.inl ⟨by rfl, by (intro W hSw; obtain ⟨s0, s1, s2, s3, s4, s5, s6, s7, s8, s9, s10, s11⟩ := hSw; go_simp)⟩) (ws_of HQ1.out.1) ?_
          simp only [Act.put, List.getElem_toArray, List.getElem_cons_succ, List.getElem_cons_zero, List.setIfInBounds_toArray, List.set_cons_zero, List.set_cons_succ]
          refine wpAnyH_take (i := 9) (v := .bool true) rfl (by kernel_rfl) (by kernel_rfl) (by kernel_rfl) (fun _ _ _ h => h) (Or.inl ⟨by rfl, by (intro W hSw; obtain ⟨s0, s1, s2, s3, s4, s5, s6, s7, s8, s9, s10, s11⟩ := hSw; go_simp)⟩) (ws_of HQ1.out.1) ?_
          simp only [Act.put, List.getElem_toArray, List.getElem_cons_succ, List.getElem_cons_zero, List.setIfInBounds_toArray, List.set_cons_zero, List.set_cons_succ]
          refine wpAnyH_take (i := 10) (v := undef) rfl (by kernel_rfl) (by kernel_rfl) (by kernel_rfl) (fun _ _ _ h => h) (Or.inr ⟨by kernel_rfl, rfl⟩) (ws_of HQ1.out.1) ?_
          simp only [Act.put, List.getElem_toArray, List.getElem_cons_succ, List.getElem_cons_zero, List.setIfInBounds_toArray, List.set_cons_zero, List.set_cons_succ]
          refine wpAnyH_take (i := 11) (v := undef) rfl (by kernel_rfl) (by kernel_rfl) (by kernel_rfl) (fun _ _ _ h => h) (Or.inr ⟨by kernel_rfl, rfl⟩) (ws_of HQ1.out.1) ?_
          simp only [Act.put, List.getElem_toArray, List.getElem_cons_succ, List.getElem_cons_zero, List.setIfInBounds_toArray, List.set_cons_zero, List.set_cons_succ]
          refine wpAnyH_take (i := 12) (v := undef) rfl (by kernel_rfl) (by kernel_rfl) (by kernel_rfl) (fun _ _ _ h => h) (Or.inr ⟨by kernel_rfl, rfl⟩) (ws_of HQ1.out.1) ?_
          simp only [Act.put, List.getElem_toArray, List.getElem_cons_succ, List.getElem_cons_zero, List.setIfInBounds_toArray, List.set_cons_zero, List.set_cons_succ]
          refine wpAnyH_take (i := 13) (v := undef) rfl (by kernel_rfl) (by kernel_rfl) (by kernel_rfl) (fun _ _ _ h => h) (Or.inr ⟨by kernel_rfl, rfl⟩) (ws_of HQ1.out.1) ?_
          simp only [Act.put, List.getElem_toArray, List.getElem_cons_succ, List.getElem_cons_zero, List.setIfInBounds_toArray, List.set_cons_zero, List.set_cons_succ]
          refine wpAnyH_take (i := 14) (v := undef) rfl (by kernel_rfl) (by kernel_rfl) (by kernel_rfl) (fun _ _ _ h => h) (Or.inr ⟨by kernel_rfl, rfl⟩) (ws_of HQ1.out.1) ?_
          simp only [Act.put, List.getElem_toArray, List.getElem_cons_succ, List.getElem_cons_zero, List.setIfInBounds_toArray, List.set_cons_zero, List.set_cons_succ]
          refine wpAnyH_take (i := 15) (v := undef) rfl (by kernel_rfl) (by kernel_rfl) (by kernel_rfl) (fun _ _ _ h => h) (Or.inr ⟨by kernel_rfl, rfl⟩) (ws_of HQ1.out.1) ?_
          simp only [Act.put, List.getElem_toArray, List.getElem_cons_succ, List.getElem_cons_zero, List.setIfInBounds_toArray, List.set_cons_zero, List.set_cons_succ]
          refine wpAnyH_take (i := 16) (v := undef) rfl (by kernel_rfl) (by kernel_rfl) (by kernel_rfl) (fun _ _ _ h => h) (Or.inr ⟨by kernel_rfl, rfl⟩) (ws_of HQ1.out.1) ?_
          simp only [Act.put, List.getElem_toArray, List.getElem_cons_succ, List.getElem_cons_zero, List.setIfInBounds_toArray, List.set_cons_zero, List.set_cons_succ]
          refine wpAnyH_take (i := 17) (v := undef) rfl (by kernel_rfl) (by kernel_rfl) (by kernel_rfl) (fun _ _ _ h => h) (Or.inr ⟨by kernel_rfl, rfl⟩) (ws_of HQ1.out.1) ?_
          simp only [Act.put, List.getElem_toArray, List.getElem_cons_succ, List.getElem_cons_zero, List.setIfInBounds_toArray, List.set_cons_zero, List.set_cons_succ]
          refine wpAnyH_take (i := 18) (v := undef) rfl (by kernel_rfl) (by kernel_rfl) (by kernel_rfl) (fun _ _ _ h => h) (Or.inr ⟨by kernel_rfl, rfl⟩) (ws_of HQ1.out.1) ?_
          simp only [Act.put, List.getElem_toArray, List.getElem_cons_succ, List.getElem_cons_zero, List.setIfInBounds_toArray, List.set_cons_zero, List.set_cons_succ]
          refine wpAnyH_take (i := 19) (v := .bool true) rfl (by kernel_rfl) (by kernel_rfl) (by kernel_rfl) (fun _ _ _ h => h) (Or.inl ⟨by rfl, by (intro W hSw; obtain ⟨s0, s1, s2, s3, s4, s5, s6, s7, s8, s9, s10, s11⟩ := hSw; go_simp)⟩) (ws_of HQ1.out.1) ?_
          simp only [Act.put, List.getElem_toArray, List.getElem_cons_succ, List.getElem_cons_zero, List.setIfInBounds_toArray, List.set_cons_zero, List.set_cons_succ]
          refine wpAnyH_take (i := 20) (v := .bool true) rfl (by kernel_rfl) (by kernel_rfl) (by kernel_rfl) (fun _ _ _ h => h) (Or.inl ⟨by rfl, by (intro W hSw; obtain ⟨s0, s1, s2, s3, s4, s5, s6, s7, s8, s9, s10, s11⟩ := hSw; go_simp)⟩) (ws_of HQ1.out.1) ?_
          simp only [Act.put, List.getElem_toArray, List.getElem_cons_succ, List.getElem_cons_zero, List.setIfInBounds_toArray, List.set_cons_zero, List.set_cons_succ]
          refine wpAnyH_take (i := 21) (v := undef) rfl (by kernel_rfl) (by kernel_rfl) (by kernel_rfl) (fun _ _ _ h => h) (Or.inr ⟨by kernel_rfl, rfl⟩) (ws_of HQ1.out.1) ?_
          simp only [Act.put, List.getElem_toArray, List.getElem_cons_succ, List.getElem_cons_zero, List.setIfInBounds_toArray, List.set_cons_zero, List.set_cons_succ]
          refine wpAnyH_take (i := 22) (v := undef) rfl (by kernel_rfl) (by kernel_rfl) (by kernel_rfl) (fun _ _ _ h => h) (Or.inr ⟨by kernel_rfl, rfl⟩) (ws_of HQ1.out.1) ?_
          simp only [Act.put, List.getElem_toArray, List.getElem_cons_succ, List.getElem_cons_zero, List.setIfInBounds_toArray, List.set_cons_zero, List.set_cons_succ]
          refine wpAnyH_take (i := 23) (v := undef) rfl (by kernel_rfl) (by kernel_rfl) (by kernel_rfl) (fun _ _ _ h => h) (Or.inr ⟨by kernel_rfl, rfl⟩) (ws_of HQ1.out.1) ?_
          simp only [Act.put, List.getElem_toArray, List.getElem_cons_succ, List.getElem_cons_zero, List.setIfInBounds_toArray, List.set_cons_zero, List.set_cons_succ]
          refine wpAnyH_take (i := 24) (v := undef) rfl (by kernel_rfl) (by kernel_rfl) (by kernel_rfl) (fun _ _ _ h => h) (Or.inr ⟨by kernel_rfl, rfl⟩) (ws_of HQ1.out.1) ?_
          simp only [Act.put, List.getElem_toArray, List.getElem_cons_succ, List.getElem_cons_zero, List.setIfInBounds_toArray, List.set_cons_zero, List.set_cons_succ]
          refine wpAnyH_take (i := 25) (v := undef) rfl (by kernel_rfl) (by kernel_rfl) (by kernel_rfl) (fun _ _ _ h => h) (Or.inr ⟨by kernel_rfl, rfl⟩) (ws_of HQ1.out.1) ?_
          simp only [Act.put, List.getElem_toArray, List.getElem_cons_succ, List.getElem_cons_zero, List.setIfInBounds_toArray, List.set_cons_zero, List.set_cons_succ]
          refine wpAnyH_take (i := 26) (v := undef) rfl (by kernel_rfl) (by kernel_rfl) (by kernel_rfl) (fun _ _ _ h => h) (Or.inr ⟨by kernel_rfl, rfl⟩) (ws_of HQ1.out.1) ?_
          simp only [Act.put, List.getElem_toArray, List.getElem_cons_succ, List.getElem_cons_zero, List.setIfInBounds_toArray, List.set_cons_zero, List.set_cons_succ]
          refine wpAnyH_take (i := 27) (v := undef) rfl (by kernel_rfl) (by kernel_rfl) (by kernel_rfl) (fun _ _ _ h => h) (Or.inr ⟨by kernel_rfl, rfl⟩) (ws_of HQ1.out.1) ?_
          simp only [Act.put, List.getElem_toArray, List.getElem_cons_succ, List.getElem_cons_zero, List.setIfInBounds_toArray, List.set_cons_zero, List.set_cons_succ]
          refine wpAnyH_take (i := 28) (v := undef) rfl (by kernel_rfl) (by kernel_rfl) (by kernel_rfl) (fun _ _ _ h => h) (Or.inr ⟨by kernel_rfl, rfl⟩) (ws_of HQ1.out.1) ?_
          simp only [Act.put, List.getElem_toArray, List.getElem_cons_succ, List.getElem_cons_zero, List.setIfInBounds_toArray, List.set_cons_zero, List.set_cons_succ]
          refine wpAnyH_take (i := 29) (v := undef) rfl (by kernel_rfl) (by kernel_rfl) (by kernel_rfl) (fun _ _ _ h => h) (Or.inr ⟨by kernel_rfl, rfl⟩) (ws_of HQ1.out.1) ?_
          simp only [Act.put, List.getElem_toArray, List.getElem_cons_succ, List.getElem_cons_zero, List.setIfInBounds_toArray, List.set_cons_zero, List.set_cons_succ]
          refine wpAnyH_take (i := 30) (v := .bool true) rfl (by kernel_rfl) (by kernel_rfl) (by kernel_rfl) (fun _ _ _ h => h) (Or.inl ⟨by rfl, by (intro W hSw; obtain ⟨s0, s1, s2, s3, s4, s5, s6, s7, s8, s9, s10, s11⟩ := hSw; go_simp)⟩) (ws_of HQ1.out.1) ?_
          simp only [Act.put, List.getElem_toArray, List.getElem_cons_succ, List.getElem_cons_zero, List.setIfInBounds_toArray, List.set_cons_zero, List.set_cons_succ]
          refine wpAnyH_done (by kernel_rfl) ?_ _
          go_wp2_with (fail)
          go_ret
          exact ⟨by rw [HSE.out, HF.out]; rfl, HQ1.out.2.1⟩
        · skip
          refine hK.out _ _ (ws_of HQ1.out.1) (fun _ => ?_)
          clear hK
          simp only [List.setIfInBounds_toArray, List.set_cons_zero, List.set_cons_succ]
          refine wpAnyH_take (i := 8) (v := .bool false) rfl (by kernel_rfl) (by kernel_rfl) (by kernel_rfl) (fun _ _ _ h => h) (Or.inl ⟨by rfl, by (intro W hSw; obtain ⟨s0, s1, s2, s3, s4, s5, s6, s7, s8, s9, s10, s11⟩ := hSw; go_simp)⟩) (ws_of HQ1.out.1) ?_
          simp only [Act.put, List.getElem_toArray, List.getElem_cons_succ, List.getElem_cons_zero, List.setIfInBounds_toArray, List.set_cons_zero, List.set_cons_succ]
          refine wpAnyH_take (i := 9) (v := .bool false) rfl (by kernel_rfl) (by kernel_rfl) (by kernel_rfl) (fun _ _ _ h => h) (Or.inl ⟨by rfl, by (intro W hSw; obtain ⟨s0, s1, s2, s3, s4, s5, s6, s7, s8, s9, s10, s11⟩ := hSw; go_simp)⟩) (ws_of HQ1.out.1) ?_
          simp only [Act.put, List.getElem_toArray, List.getElem_cons_succ, List.getElem_cons_zero, List.setIfInBounds_toArray, List.set_cons_zero, List.set_cons_succ]
          refine wpAnyH_take (i := 10) (v := .pointer (some ⟨w.heap.size + 1, 1, none⟩)) rfl (by kernel_rfl) (by kernel_rfl) (by kernel_rfl) (fun _ _ _ h => h) (Or.inl ⟨by rfl, by (intro W hSw; obtain ⟨s0, s1, s2, s3, s4, s5, s6, s7, s8, s9, s10, s11⟩ := hSw; go_simp)⟩) (ws_of HQ1.out.1) ?_
          simp only [Act.put, List.getElem_toArray, List.getElem_cons_succ, List.getElem_cons_zero, List.setIfInBounds_toArray, List.set_cons_zero, List.set_cons_succ]
          refine wpAnyH_take (i := 11) (v := .slice (some ⟨b2, o2, none⟩) M.length cm) rfl (by kernel_rfl) (by kernel_rfl) (by kernel_rfl) (fun _ _ _ h => h) (Or.inl ⟨by rfl, by (intro W hSw; obtain ⟨s0, s1, s2, s3, s4, s5, s6, s7, s8, s9, s10, s11⟩ := hSw; go_simp)⟩) (ws_of HQ1.out.1) ?_
          simp only [Act.put, List.getElem_toArray, List.getElem_cons_succ, List.getElem_cons_zero, List.setIfInBounds_toArray, List.set_cons_zero, List.set_cons_succ]
          refine wpAnyH_take (i := 12) (v := .int .i64 (k : Int)) rfl (by kernel_rfl) (by kernel_rfl) (by kernel_rfl) (fun _ _ _ h => h) (Or.inl ⟨by rfl, by (intro W hSw; obtain ⟨s0, s1, s2, s3, s4, s5, s6, s7, s8, s9, s10, s11⟩ := hSw; go_simp)⟩) (ws_of HQ1.out.1) ?_
          simp only [Act.put, List.getElem_toArray, List.getElem_cons_succ, List.getElem_cons_zero, List.setIfInBounds_toArray, List.set_cons_zero, List.set_cons_succ]
          refine wpAnyH_take (i := 13) (v := .pointer (some ⟨b2, o2 + k, none⟩)) rfl (by kernel_rfl) (by kernel_rfl) (by kernel_rfl) (fun _ _ _ h => h) (Or.inl ⟨by rfl, by (intro W hSw; obtain ⟨s0, s1, s2, s3, s4, s5, s6, s7, s8, s9, s10, s11⟩ := hSw; go_simp)⟩) (ws_of HQ1.out.1) ?_
          simp only [Act.put, List.getElem_toArray, List.getElem_cons_succ, List.getElem_cons_zero, List.setIfInBounds_toArray, List.set_cons_zero, List.set_cons_succ]
          refine wpAnyH_take (i := 14) (v := .int .i64 mk) rfl (by kernel_rfl) (by kernel_rfl) (by kernel_rfl) (fun _ _ _ h => h) (Or.inl ⟨by rfl, by (intro W hSw; obtain ⟨s0, s1, s2, s3, s4, s5, s6, s7, s8, s9, s10, s11⟩ := hSw; go_simp)⟩) (ws_of HQ1.out.1) ?_
          simp only [Act.put, List.getElem_toArray, List.getElem_cons_succ, List.getElem_cons_zero, List.setIfInBounds_toArray, List.set_cons_zero, List.set_cons_succ]
          refine wpAnyH_take (i := 15) (v := .pointer (some ⟨wr.heap.size, 2, none⟩)) rfl (by kernel_rfl) (by kernel_rfl) (by kernel_rfl) (fun _ _ _ h => h) (Or.inl ⟨by rfl, by (intro W hSw; obtain ⟨s0, s1, s2, s3, s4, s5, s6, s7, s8, s9, s10, s11⟩ := hSw; go_simp)⟩) (ws_of HQ1.out.1) ?_
          simp only [Act.put, List.getElem_toArray, List.getElem_cons_succ, List.getElem_cons_zero, List.setIfInBounds_toArray, List.set_cons_zero, List.set_cons_succ]
          refine wpAnyH_take (i := 16) (v := .agg #[.int .i64 d.make.lo, .int .i64 d.make.hi]) rfl (by kernel_rfl) (by kernel_rfl) (by kernel_rfl) (fun _ _ _ h => h) (Or.inl ⟨by rfl, by (intro W hSw; obtain ⟨s0, s1, s2, s3, s4, s5, s6, s7, s8, s9, s10, s11⟩ := hSw; go_simp)⟩) (ws_of HQ1.out.1) ?_
          simp only [Act.put, List.getElem_toArray, List.getElem_cons_succ, List.getElem_cons_zero, List.setIfInBounds_toArray, List.set_cons_zero, List.set_cons_succ]
          refine wpAnyH_ready (rs := [17]) (by kernel_rfl) (by simp) ?_
          refine AllReadyH.cons (o := _) rfl (fun K hK => ?_) AllReadyH.nil
          go_simp
          go_at_call 147
          refine (inside_any _ _ _).mono ?_
          rintro e X2 ⟨rfl, hb⟩
          have HQ2 := Lib.hid (day_step HQ1.out hb)
          clear hb HQ1
          cases q2 : insideB mk d.make
          · have HF : Hid ((List.range ds.length).all (skyB ds N M L) = false) := hsb.out (by rw [hsd.out, q1, q2]; rfl)
            clear hsb hsd hsu
            refine hK.out _ _ (ws_of HQ2.out.1) (fun _ => ?_)
            clear hK
            simp only [List.setIfInBounds_toArray, List.set_cons_zero, List.set_cons_succ]
            refine wpAnyH_take (i := 18) (v := .bool true) rfl (by kernel_rfl) (by kernel_rfl) (by kernel_rfl) (fun _ _ _ h => h) (Or.inl ⟨by rfl, by (intro W hSw; obtain ⟨s0, s1, s2, s3, s4, s5, s6, s7, s8, s9, s10, s11⟩ := hSw; go_simp)⟩) (ws_of HQ2.out.1) ?_
            simp only [Act.put, List.getElem_toArray, List.getElem_cons_succ, List.getElem_cons_zero, List.setIfInBounds_toArray, List.set_cons_zero, List.set_cons_succ]
            refine wpAnyH_take (i := 19) (v := .bool true) rfl (by kernel_rfl) (by kernel_rfl) (by kernel_rfl) (fun _ _ _ h => h) (Or.inl ⟨by rfl, by (intro W hSw; obtain ⟨s0, s1, s2, s3, s4, s5, s6, s7, s8, s9, s10, s11⟩ := hSw; go_simp)⟩) (ws_of HQ2.out.1) ?_
            simp only [Act.put, List.getElem_toArray, List.getElem_cons_succ, List.getElem_cons_zero, List.setIfInBounds_toArray, List.set_cons_zero, List.set_cons_succ]
            refine wpAnyH_take (i := 20) (v := .bool true) rfl (by kernel_rfl) (by kernel_rfl) (by kernel_rfl) (fun _ _ _ h => h) (Or.inl ⟨by rfl, by (intro W hSw; obtain ⟨s0, s1, s2, s3, s4, s5, s6, s7, s8, s9, s10, s11⟩ := hSw; go_simp)⟩) (ws_of HQ2.out.1) ?_
            simp only [Act.put, List.getElem_toArray, List.getElem_cons_succ, List.getElem_cons_zero, List.setIfInBounds_toArray, List.set_cons_zero, List.set_cons_succ]
            refine wpAnyH_take (i := 21) (v := undef) rfl (by kernel_rfl) (by kernel_rfl) (by kernel_rfl) (fun _ _ _ h => h) (Or.inr ⟨by kernel_rfl, rfl⟩) (ws_of HQ2.out.1) ?_
            simp only [Act.put, List.getElem_toArray, List.getElem_cons_succ, List.getElem_cons_zero, List.setIfInBounds_toArray, List.set_cons_zero, List.set_cons_succ]
            refine wpAnyH_take (i := 22) (v := undef) rfl (by kernel_rfl) (by kernel_rfl) (by kernel_rfl) (fun _ _ _ h => h) (Or.inr ⟨by kernel_rfl, rfl⟩) (ws_of HQ2.out.1) ?_
            simp only [Act.put, List.getElem_toArray, List.getElem_cons_succ, List.getElem_cons_zero, List.setIfInBounds_toArray, List.set_cons_zero, List.set_cons_succ]
            refine wpAnyH_take (i := 23) (v := undef) rfl (by kernel_rfl) (by kernel_rfl) (by kernel_rfl) (fun _ _ _ h => h) (Or.inr ⟨by kernel_rfl, rfl⟩) (ws_of HQ2.out.1) ?_
            simp only [Act.put, List.getElem_toArray, List.getElem_cons_succ, List.getElem_cons_zero, List.setIfInBounds_toArray, List.set_cons_zero, List.set_cons_succ]
            refine wpAnyH_take (i := 24) (v := undef) rfl (by kernel_rfl) (by kernel_rfl) (by kernel_rfl) (fun _ _ _ h => h) (Or.inr ⟨by kernel_rfl, rfl⟩) (ws_of HQ2.out.1) ?_
            simp only [Act.put, List.getElem_toArray, List.getElem_cons_succ, List.getElem_cons_zero, List.setIfInBounds_toArray, List.set_cons_zero, List.set_cons_succ]
            refine wpAnyH_take (i := 25) (v := undef) rfl (by kernel_rfl) (by kernel_rfl) (by kernel_rfl) (fun _ _ _ h => h) (Or.inr ⟨by kernel_rfl, rfl⟩) (ws_of HQ2.out.1) ?_
            simp only [Act.put, List.getElem_toArray, List.getElem_cons_succ, List.getElem_cons_zero, List.setIfInBounds_toArray, List.set_cons_zero, List.set_cons_succ]
            refine wpAnyH_take (i := 26) (v := undef) rfl (by kernel_rfl) (by kernel_rfl) (by kernel_rfl) (fun _ _ _ h => h) (Or.inr ⟨by kernel_rfl, rfl⟩) (ws_of HQ2.out.1) ?_
            simp only [Act.put, List.getElem_toArray, List.getElem_cons_succ, List.getElem_cons_zero, List.setIfInBounds_toArray, List.set_cons_zero, List.set_cons_succ]
            refine wpAnyH_take (i := 27) (v := undef) rfl (by kernel_rfl) (by kernel_rfl) (by kernel_rfl) (fun _ _ _ h => h) (Or.inr ⟨by kernel_rfl, rfl⟩) (ws_of HQ2.out.1) ?_
            simp only [Act.put, List.getElem_toArray, List.getElem_cons_succ, List.getElem_cons_zero, List.setIfInBounds_toArray, List.set_cons_zero, List.set_cons_succ]
            refine wpAnyH_take (i := 28) (v := undef) rfl (by kernel_rfl) (by kernel_rfl) (by kernel_rfl) (fun _ _ _ h => h) (Or.inr ⟨by kernel_rfl, rfl⟩) (ws_of HQ2.out.1) ?_
            simp only [Act.put, List.getElem_toArray, List.getElem_cons_succ, List.getElem_cons_zero, List.setIfInBounds_toArray, List.set_cons_zero, List.set_cons_succ]
            refine wpAnyH_take (i := 29) (v := undef) rfl (by kernel_rfl) (by kernel_rfl) (by kernel_rfl) (fun _ _ _ h => h) (Or.inr ⟨by kernel_rfl, rfl⟩) (ws_of HQ2.out.1) ?_
            simp only [Act.put, List.getElem_toArray, List.getElem_cons_succ, List.getElem_cons_zero, List.setIfInBounds_toArray, List.set_cons_zero, List.set_cons_succ]
            refine wpAnyH_take (i := 30) (v := .bool true) rfl (by kernel_rfl) (by kernel_rfl) (by kernel_rfl) (fun _ _ _ h => h) (Or.inl ⟨by rfl, by (intro W hSw; obtain ⟨s0, s1, s2, s3, s4, s5, s6, s7, s8, s9, s10, s11⟩ := hSw; go_simp)⟩) (ws_of HQ2.out.1) ?_
            simp only [Act.put, List.getElem_toArray, List.getElem_cons_succ, List.getElem_cons_zero, List.setIfInBounds_toArray, List.set_cons_zero, List.set_cons_succ]
            refine wpAnyH_done (by kernel_rfl) ?_ _
            go_wp2_with (fail)
            go_ret
            exact ⟨by rw [HSE.out, HF.out]; rfl, HQ2.out.2.1⟩
          · skip
            refine hK.out _ _ (ws_of HQ2.out.1) (fun _ => ?_)
            clear hK
            simp only [List.setIfInBounds_toArray, List.set_cons_zero, List.set_cons_succ]
            refine wpAnyH_take (i := 18) (v := .bool false) rfl (by kernel_rfl) (by kernel_rfl) (by kernel_rfl) (fun _ _ _ h => h) (Or.inl ⟨by rfl, by (intro W hSw; obtain ⟨s0, s1, s2, s3, s4, s5, s6, s7, s8, s9, s10, s11⟩ := hSw; go_simp)⟩) (ws_of HQ2.out.1) ?_
            simp only [Act.put, List.getElem_toArray, List.getElem_cons_succ, List.getElem_cons_zero, List.setIfInBounds_toArray, List.set_cons_zero, List.set_cons_succ]
            refine wpAnyH_take (i := 19) (v := .bool false) rfl (by kernel_rfl) (by kernel_rfl) (by kernel_rfl) (fun _ _ _ h => h) (Or.inl ⟨by rfl, by (intro W hSw; obtain ⟨s0, s1, s2, s3, s4, s5, s6, s7, s8, s9, s10, s11⟩ := hSw; go_simp)⟩) (ws_of HQ2.out.1) ?_
            simp only [Act.put, List.getElem_toArray, List.getElem_cons_succ, List.getElem_cons_zero, List.setIfInBounds_toArray, List.set_cons_zero, List.set_cons_succ]
            refine wpAnyH_take (i := 20) (v := .bool false) rfl (by kernel_rfl) (by kernel_rfl) (by kernel_rfl) (fun _ _ _ h => h) (Or.inl ⟨by rfl, by (intro W hSw; obtain ⟨s0, s1, s2, s3, s4, s5, s6, s7, s8, s9, s10, s11⟩ := hSw; go_simp)⟩) (ws_of HQ2.out.1) ?_
            simp only [Act.put, List.getElem_toArray, List.getElem_cons_succ, List.getElem_cons_zero, List.setIfInBounds_toArray, List.set_cons_zero, List.set_cons_succ]
            refine wpAnyH_take (i := 21) (v := .pointer (some ⟨w.heap.size + 1, 2, none⟩)) rfl (by kernel_rfl) (by kernel_rfl) (by kernel_rfl) (fun _ _ _ h => h) (Or.inl ⟨by rfl, by (intro W hSw; obtain ⟨s0, s1, s2, s3, s4, s5, s6, s7, s8, s9, s10, s11⟩ := hSw; go_simp)⟩) (ws_of HQ2.out.1) ?_
            simp only [Act.put, List.getElem_toArray, List.getElem_cons_succ, List.getElem_cons_zero, List.setIfInBounds_toArray, List.set_cons_zero, List.set_cons_succ]
            refine wpAnyH_take (i := 22) (v := .slice (some ⟨b3, o3, none⟩) L.length cl) rfl (by kernel_rfl) (by kernel_rfl) (by kernel_rfl) (fun _ _ _ h => h) (Or.inl ⟨by rfl, by (intro W hSw; obtain ⟨s0, s1, s2, s3, s4, s5, s6, s7, s8, s9, s10, s11⟩ := hSw; go_simp)⟩) (ws_of HQ2.out.1) ?_
            simp only [Act.put, List.getElem_toArray, List.getElem_cons_succ, List.getElem_cons_zero, List.setIfInBounds_toArray, List.set_cons_zero, List.set_cons_succ]
            refine wpAnyH_take (i := 23) (v := .int .i64 (k : Int)) rfl (by kernel_rfl) (by kernel_rfl) (by kernel_rfl) (fun _ _ _ h => h) (Or.inl ⟨by rfl, by (intro W hSw; obtain ⟨s0, s1, s2, s3, s4, s5, s6, s7, s8, s9, s10, s11⟩ := hSw; go_simp)⟩) (ws_of HQ2.out.1) ?_
            simp only [Act.put, List.getElem_toArray, List.getElem_cons_succ, List.getElem_cons_zero, List.setIfInBounds_toArray, List.set_cons_zero, List.set_cons_succ]
            refine wpAnyH_take (i := 24) (v := .pointer (some ⟨b3, o3 + k, none⟩)) rfl (by kernel_rfl) (by kernel_rfl) (by kernel_rfl) (fun _ _ _ h => h) (Or.inl ⟨by rfl, by (intro W hSw; obtain ⟨s0, s1, s2, s3, s4, s5, s6, s7, s8, s9, s10, s11⟩ := hSw; go_simp)⟩) (ws_of HQ2.out.1) ?_
            simp only [Act.put, List.getElem_toArray, List.getElem_cons_succ, List.getElem_cons_zero, List.setIfInBounds_toArray, List.set_cons_zero, List.set_cons_succ]
            refine wpAnyH_take (i := 25) (v := .int .i64 lk) rfl (by kernel_rfl) (by kernel_rfl) (by kernel_rfl) (fun _ _ _ h => h) (Or.inl ⟨by rfl, by (intro W hSw; obtain ⟨s0, s1, s2, s3, s4, s5, s6, s7, s8, s9, s10, s11⟩ := hSw; go_simp)⟩) (ws_of HQ2.out.1) ?_
            simp only [Act.put, List.getElem_toArray, List.getElem_cons_succ, List.getElem_cons_zero, List.setIfInBounds_toArray, List.set_cons_zero, List.set_cons_succ]
            refine wpAnyH_take (i := 26) (v := .pointer (some ⟨wr.heap.size, 4, none⟩)) rfl (by kernel_rfl) (by kernel_rfl) (by kernel_rfl) (fun _ _ _ h => h) (Or.inl ⟨by rfl, by (intro W hSw; obtain ⟨s0, s1, s2, s3, s4, s5, s6, s7, s8, s9, s10, s11⟩ := hSw; go_simp)⟩) (ws_of HQ2.out.1) ?_
            simp only [Act.put, List.getElem_toArray, List.getElem_cons_succ, List.getElem_cons_zero, List.setIfInBounds_toArray, List.set_cons_zero, List.set_cons_succ]
            refine wpAnyH_take (i := 27) (v := .agg #[.int .i64 d.loss.lo, .int .i64 d.loss.hi]) rfl (by kernel_rfl) (by kernel_rfl) (by kernel_rfl) (fun _ _ _ h => h) (Or.inl ⟨by rfl, by (intro W hSw; obtain ⟨s0, s1, s2, s3, s4, s5, s6, s7, s8, s9, s10, s11⟩ := hSw; go_simp)⟩) (ws_of HQ2.out.1) ?_
            simp only [Act.put, List.getElem_toArray, List.getElem_cons_succ, List.getElem_cons_zero, List.setIfInBounds_toArray, List.set_cons_zero, List.set_cons_succ]
            refine wpAnyH_ready (rs := [28]) (by kernel_rfl) (by simp) ?_
            refine AllReadyH.cons (o := _) rfl (fun K hK => ?_) AllReadyH.nil
            go_simp
            go_at_call 147
            refine (inside_any _ _ _).mono ?_
            rintro e X3 ⟨rfl, hb⟩
            have HQ3 := Lib.hid (day_step HQ2.out hb)
            clear hb HQ2
            cases q3 : insideB lk d.loss
            · have HF : Hid ((List.range ds.length).all (skyB ds N M L) = false) := hsb.out (by rw [hsd.out, q1, q2, q3]; rfl)
              clear hsb hsd hsu
              refine hK.out _ _ (ws_of HQ3.out.1) (fun _ => ?_)
              clear hK
              simp only [List.setIfInBounds_toArray, List.set_cons_zero, List.set_cons_succ]
              refine wpAnyH_take (i := 29) (v := .bool true) rfl (by kernel_rfl) (by kernel_rfl) (by kernel_rfl) (fun _ _ _ h => h) (Or.inl ⟨by rfl, by (intro W hSw; obtain ⟨s0, s1, s2, s3, s4, s5, s6, s7, s8, s9, s10, s11⟩ := hSw; go_simp)⟩) (ws_of HQ3.out.1) ?_
              simp only [Act.put, List.getElem_toArray, List.getElem_cons_succ, List.getElem_cons_zero, List.setIfInBounds_toArray, List.set_cons_zero, List.set_cons_succ]
              refine wpAnyH_take (i := 30) (v := .bool true) rfl (by kernel_rfl) (by kernel_rfl) (by kernel_rfl) (fun _ _ _ h => h) (Or.inl ⟨by rfl, by (intro W hSw; obtain ⟨s0, s1, s2, s3, s4, s5, s6, s7, s8, s9, s10, s11⟩ := hSw; go_simp)⟩) (ws_of HQ3.out.1) ?_
              simp only [Act.put, List.getElem_toArray, List.getElem_cons_succ, List.getElem_cons_zero, List.setIfInBounds_toArray, List.set_cons_zero, List.set_cons_succ]
              refine wpAnyH_done (by kernel_rfl) ?_ _
              go_wp2_with (fail)
              go_ret
              exact ⟨by rw [HSE.out, HF.out]; rfl, HQ3.out.2.1⟩
            · skip
              have HN : Hid ((List.range (k + 1)).all (skyB ds N M L) = true) := by show _ = _; rw [hsu.out, hsk.out, hsd.out, q1, q2, q3]; rfl
              clear hsb hsd hsu hsk
              refine hK.out _ _ (ws_of HQ3.out.1) (fun _ => ?_)
              clear hK
              simp only [List.setIfInBounds_toArray, List.set_cons_zero, List.set_cons_succ]
              refine wpAnyH_take (i := 29) (v := .bool false) rfl (by kernel_rfl) (by kernel_rfl) (by kernel_rfl) (fun _ _ _ h => h) (Or.inl ⟨by rfl, by (intro W hSw; obtain ⟨s0, s1, s2, s3, s4, s5, s6, s7, s8, s9, s10, s11⟩ := hSw; go_simp)⟩) (ws_of HQ3.out.1) ?_
              simp only [Act.put, List.getElem_toArray, List.getElem_cons_succ, List.getElem_cons_zero, List.setIfInBounds_toArray, List.set_cons_zero, List.set_cons_succ]
              refine wpAnyH_take (i := 30) (v := .bool false) rfl (by kernel_rfl) (by kernel_rfl) (by kernel_rfl) (fun _ _ _ h => h) (Or.inl ⟨by rfl, by (intro W hSw; obtain ⟨s0, s1, s2, s3, s4, s5, s6, s7, s8, s9, s10, s11⟩ := hSw; go_simp)⟩) (ws_of HQ3.out.1) ?_
              simp only [Act.put, List.getElem_toArray, List.getElem_cons_succ, List.getElem_cons_zero, List.setIfInBounds_toArray, List.set_cons_zero, List.set_cons_succ]
              refine wpAnyH_done (by kernel_rfl) ?_ _
              go_wp2_with (fail)
              go_roundw
              case rel => exact ⟨k + 1, by omega, by go_num, HN, HQ3.out.2.2⟩
              case measure => simp [intOf]; omega
      · have hk2 : k = ds.length := by omega
        have HF : Hid ((List.range ds.length).all (skyB ds N M L) = true) := by have h := hsk.out; rw [hk2] at h; exact h
        subst hk2
        clear hsk
        go_wp2_with (fail)
        go_ret
        exact ⟨by rw [HSE.out, HF.out]; rfl, below_self H1.out.1 hbw⟩
  · have HSE : Hid (skyE ds N M L = 2) := by show _ = _; rw [skyE, if_neg hlen]
    rw [Bool.eq_false_iff.2 hlen]
    clear hlen
    go_wp2_with (fail)
    go_ret
    exact ⟨by rw [HSE.out]; rfl, H1.out.1⟩
end Go.Proofs.YtmebmcipmemofaaGreat

namespace Go.Proofs.YtmebmcipmemofaaGreat
open Go.RowKit Go.Shelf
attribute [local go_sem] Oper.semAt_some

/-- What is left of piles, two numbers each. -/
def drainF : List Int → Int → List Int
  | a :: b :: r, mu => if b ≤ mu then drainF r (mu - b) else a :: (b - mu) :: r
  | _, _ => []
theorem drop_two {fs : List Int} {k : Nat} (h : k * 2 + 1 < fs.length) : fs.drop (k * 2) = fs[k * 2]?.getD 0 :: fs[k * 2 + 1]?.getD 0 :: fs.drop ((k + 1) * 2) := by
  rw [List.getElem?_eq_getElem (show k * 2 < fs.length by omega), List.getElem?_eq_getElem h, Option.getD_some, Option.getD_some, List.drop_eq_getElem_cons (show k * 2 < fs.length by omega), List.drop_eq_getElem_cons h, show (k + 1) * 2 = k * 2 + 1 + 1 by omega]

theorem wrap_small {x : Int} (h : -100000000 ≤ x ∧ x ≤ 100000000) : wrap64 x = x := by
  first
    | (unfold wrap64; omega)
    | exact WalkArith.wrap64_small (by omega)
    | (simp [wrap64]; omega)

set_option maxHeartbeats 1000000 in
theorem drained_tells (a : Option Addr) (fs : List Int) (n cap : Nat) (much : Int) (w : World) (hx : IntSl w a fs) (hn : fs.length = n * 2) (hna : a = none → n = 0) (hnc : n ≤ cap) (hl : n ≤ 1000) (hm : 0 ≤ much ∧ much ≤ 10000000) (hf : ∀ k, k < n → 0 ≤ fs[k * 2 + 1]?.getD 0 ∧ fs[k * 2 + 1]?.getD 0 ≤ 10000000) :
    Calls Tryz.prog 169 #[.slice a n cap, .int .i64 much] w (fun e w' => ∃ n', (drainF fs much).length = n' * 2 ∧ OutPiles w n' (drainF fs much) e w') := by
  have HX := Lib.hid (And.intro hx (And.intro hn hna))
  have HFS := Lib.hid hf
  clear hx hn hna hf
  go_enter Tryz.func169, Tryz.ntmps169
  go_wp2
  go_loopw [1, 5] (fun m i wr => ∃ (k : Nat) (mu : Int), k ≤ n ∧ m = .int .i64 mu ∧ i = .int .i64 k ∧ (0 ≤ mu ∧ mu ≤ 10000000) ∧ Hid (drainF (fs.drop (k * 2)) mu = drainF fs much) ∧ Below w.heap.size w wr) (fun _ i _ => n - (intOf i).toNat)
  case atStart => exact ⟨0, much, Nat.zero_le _, rfl, rfl, hm, rfl, Below.refl _ _⟩
  case round =>
    obtain ⟨k, mu, hk, rfl, rfl, hmu, hdr, hbw⟩ := hrel
    by_cases hlt : k < n
    · have hn := HX.out.2.1
      obtain ⟨b, off, hab, hbs, hc⟩ := HX.out.1 (by omega)
      subst hab
      have hc1 := (hbw.cell (p := ⟨b, off + (k * 2 + 1), none⟩) hbs).trans (hc (k * 2 + 1) (by omega))
      have hxb := HFS.out k hlt
      have hd2 := drop_two (fs := fs) (k := k) (by omega)
      have hdr2 := hdr.out
      rw [hd2, drainF] at hdr2
      have hd3 : (fs.drop (k * 2))[1]?.getD 0 = fs[k * 2 + 1]?.getD 0 := by rw [hd2]; rfl
      have HD2 := Lib.hid (And.intro hd2 hd3)
      clear hd2 hd3
      generalize fs[k * 2 + 1]?.getD 0 = x at hc1 hxb hdr2 HD2
      have hc2 : wr.cell? ⟨b, off + k * 2 + 1, none⟩ = some (.int .i64 x) := by rw [Nat.add_assoc]; exact hc1
      clear hc hc1 hn
      by_cases hle : x ≤ mu
      · rw [if_pos hle] at hdr2
        have HR2 := Lib.hid hdr2
        have hws : IntKind.i64.wrap (mu - x) = mu - x := IntWalk.i64_in _ (by omega)
        clear hdr2
        go_wp2
        go_roundw
        case rel => exact ⟨k + 1, mu - x, by omega, by go_num, by go_num, ⟨by omega, by omega⟩, HR2, hbw⟩
        case measure => simp [intOf]; omega
      · have hle2 : decide (x ≤ mu) = false := by simp [hle]
        rw [if_neg hle] at hdr2
        have HR2 := Lib.hid hdr2
        clear hle hdr2
        have hd : (fs.drop (k * 2)).length = (n - k) * 2 := by have := HX.out.2.1; simp; omega
        go_wp2_with fail
        all_goals (first | (exfalso; omega) | skip)
        refine (clonePile_any (some ⟨b, off + k * 2, none⟩) (fs.drop (k * 2)) (n - k) (cap - k) _ ((HX.out.1.below hbw).drop (k * 2)) hd (fun h => by cases h) (by omega)).mono ?_
        rintro e w2 ⟨a2, cap2, rfl, hO2, hb2⟩
        obtain ⟨hI2, hT2, hf2, hn2, hc2', _⟩ := owns_form hO2
        cases a2 with
        | none => exact absurd (hn2 rfl) (by omega)
        | some q =>
          obtain ⟨qb, qo, qs⟩ := q
          obtain ⟨hq1, hq2, hq3⟩ := hf2 _ rfl
          simp only at hq1 hq2 hq3
          subst hq2
          subst hq3
          obtain ⟨cs, hcs⟩ := hT2 _ rfl
          simp only at hcs
          obtain ⟨b3, off3, e3, hb3, hc3⟩ := hI2 (by omega)
          cases e3
          have s1 := hc3 1 (by omega)
          have s2 := blk_free (j := 1) hcs
          have FIN : Hid (OutPiles w (n - k) ((fs.drop (k * 2)).set 1 (wrap64 ((fs.drop (k * 2))[1]?.getD 0 - mu))) (.returned (.slice (some ⟨qb, 0, none⟩) (n - k) cap2)) (w2.setCell ⟨qb, 1, none⟩ (.int .i64 (wrap64 ((fs.drop (k * 2))[1]?.getD 0 - mu))))) :=
            ⟨_, _, rfl, owns_mono (owns_set hO2 1 _) (Nat.le_trans hbw.size (Nat.le_refl _)), (below_self hbw hb2).setCell (p := ⟨qb, 1, none⟩) (Nat.le_trans hbw.size hq1) _⟩
          have HL : Hid (((fs.drop (k * 2)).set 1 (wrap64 ((fs.drop (k * 2))[1]?.getD 0 - mu))).length = (n - k) * 2) := by show _ = _; rw [List.length_set]; exact hd
          have HQ : Hid ((fs.drop (k * 2)).set 1 (wrap64 ((fs.drop (k * 2))[1]?.getD 0 - mu)) = drainF fs much) := by
            show _ = _
            rw [HD2.out.2, HD2.out.1, ← HR2.out, wrap_small (by omega)]
            rfl
          generalize (fs.drop (k * 2)).set 1 (wrap64 ((fs.drop (k * 2))[1]?.getD 0 - mu)) = fs2 at FIN HL HQ
          generalize (fs.drop (k * 2))[1]?.getD 0 = x2 at FIN s1
          have hpos : 0 < n - k := by omega
          clear hc3 hI2 hT2 hf2 hn2 hc2' hO2 hcs hd hc2 hle2
          go_wp2
          go_ret
          rw [← HQ.out]
          exact ⟨n - k, HL.out, FIN.out⟩
    · have : k = n := by omega
      subst this
      clear hlt
      have hnil : drainF fs much = [] := by
        rw [← hdr.out, List.drop_eq_nil_of_le (by have := HX.out.2.1; omega)]
        rfl
      have HNIL := Lib.hid hnil
      clear hnil
      go_wp2_with fail
      all_goals (refine (clonePile_any _ [] 0 _ _ (fun h => by simp at h) rfl (fun _ => rfl) (by omega)).mono ?_; rintro e w2 ⟨a2, cap2, rfl, hO2, hb2⟩)
      all_goals go_wp2
      all_goals go_ret
      all_goals (rw [HNIL.out]; exact ⟨0, rfl, _, _, rfl, owns_mono hO2 hbw.size, below_self hbw hb2⟩)
end Go.Proofs.YtmebmcipmemofaaGreat

namespace Go.Proofs.YtmebmcipmemofaaGreat
open Go.RowKit Go.Shelf

def flatS (ps : List Sp) : List Int := ps.flatMap Sp.cells
def drainS : List Sp → Int → List Sp
  | p :: r, mu => if p.hi ≤ mu then drainS r (mu - p.hi) else ⟨p.lo, p.hi - mu⟩ :: r
  | [], _ => []
def sumS : List Sp → Int
  | p :: r => p.hi + sumS r
  | [] => 0
theorem flatS_cons (p : Sp) (r : List Sp) : flatS (p :: r) = p.lo :: p.hi :: flatS r := rfl
theorem flatS_append (ps qs : List Sp) : flatS (ps ++ qs) = flatS ps ++ flatS qs := by simp [flatS]
theorem flatS_len (ps : List Sp) : (flatS ps).length = ps.length * 2 := by
  induction ps with
  | nil => rfl
  | cons p r ih => rw [flatS_cons, List.length_cons, List.length_cons, List.length_cons, ih]; omega
theorem flatS_get {ps : List Sp} {j : Nat} {p : Sp} (h : ps[j]? = some p) : (flatS ps)[j * 2]? = some p.lo ∧ (flatS ps)[j * 2 + 1]? = some p.hi := by
  induction ps generalizing j with
  | nil => simp at h
  | cons q r ih =>
    rw [flatS_cons]
    cases j with
    | zero => simp at h; subst h; exact ⟨rfl, rfl⟩
    | succ j =>
      rw [List.getElem?_cons_succ] at h
      have := ih h
      rw [show (j + 1) * 2 = j * 2 + 1 + 1 by omega]
      simpa using this
theorem drain_flat (ps : List Sp) (mu : Int) : drainF (flatS ps) mu = flatS (drainS ps mu) := by
  induction ps generalizing mu with
  | nil => rfl
  | cons p r ih =>
    rw [flatS_cons, drainF, drainS]
    split
    · exact ih _
    · rfl
theorem drainS_len (ps : List Sp) (mu : Int) : (drainS ps mu).length ≤ ps.length := by
  induction ps generalizing mu with
  | nil => exact Nat.le_refl _
  | cons p r ih =>
    rw [drainS]
    split
    · exact Nat.le_trans (ih _) (Nat.le_succ _)
    · exact Nat.le_refl _
theorem sumS_append (ps qs : List Sp) : sumS (ps ++ qs) = sumS ps + sumS qs := by
  induction ps with
  | nil => simp [sumS]
  | cons p r ih => show p.hi + sumS (r ++ qs) = p.hi + sumS r + sumS qs; rw [ih]; omega
theorem sumS_le {ps : List Sp} (h : ∀ p ∈ ps, 0 ≤ p.hi) : 0 ≤ sumS ps ∧ ∀ p ∈ ps, p.hi ≤ sumS ps := by
  induction ps with
  | nil => exact ⟨Int.le_refl _, fun p hp => by cases hp⟩
  | cons q r ih =>
    obtain ⟨h1, h2⟩ := ih (fun p hp => h p (List.mem_cons_of_mem _ hp))
    have hq := h q List.mem_cons_self
    refine ⟨by show 0 ≤ q.hi + sumS r; omega, fun p hp => ?_⟩
    show p.hi ≤ q.hi + sumS r
    rcases List.mem_cons.1 hp with rfl | hp
    · omega
    · have := h2 p hp; omega
theorem sumS_drain {ps : List Sp} {mu : Int} (h : ∀ p ∈ ps, 0 ≤ p.hi) (h0 : 0 ≤ mu) (hm : mu ≤ sumS ps) : sumS (drainS ps mu) = sumS ps - mu := by
  induction ps generalizing mu with
  | nil => show (0 : Int) = 0 - mu; have : mu ≤ 0 := hm; omega
  | cons p r ih =>
    have hm' : mu ≤ p.hi + sumS r := hm
    rw [drainS]
    split
    · rw [ih (fun q hq => h q (List.mem_cons_of_mem _ hq)) (by omega) (by omega)]
      show _ = p.hi + sumS r - mu
      omega
    · show p.hi - mu + sumS r = p.hi + sumS r - mu
      omega

/-- Piles of a spell: what was made, oldest first; all that was made after the first one is left. -/
structure Pil (st0 : Int) (made : List Int) (F : List Sp) : Prop where
  each : ∀ p ∈ F, 1 ≤ p.hi ∧ ((p.lo = -1 ∧ p.hi ≤ st0) ∨ (0 ≤ p.lo ∧ p.lo < made.length ∧ p.hi ≤ made[p.lo.toNat]?.getD 0))
  rest : ∀ p ∈ F.tail, 0 ≤ p.lo ∧ p.hi = made[p.lo.toNat]?.getD 0
  inc : F.Pairwise (fun p q => p.lo < q.lo)
  all : ∀ h t, F = h :: t → ∀ d : Nat, h.lo < d → d < made.length → 0 < made[d]?.getD 0 → (⟨d, made[d]?.getD 0⟩ : Sp) ∈ t
theorem Pil.drain {st0 : Int} {made : List Int} {F : List Sp} {mu : Int} (h : Pil st0 made F) (h0 : 0 ≤ mu) : Pil st0 made (drainS F mu) := by
  induction F generalizing mu with
  | nil => exact h
  | cons p r ih =>
    rw [drainS]
    split
    · refine ih ⟨fun q hq => h.each q (List.mem_cons_of_mem _ hq), fun q hq => h.rest q (List.mem_of_mem_tail hq), (List.pairwise_cons.1 h.inc).2, ?_⟩ (by omega)
      intro h' t' e d h1 h2 h3
      subst e
      have hlt := (List.pairwise_cons.1 h.inc).1 h' List.mem_cons_self
      rcases List.mem_cons.1 (h.all p (h' :: t') rfl d (by omega) h2 h3) with e | e
      · rw [← e] at h1
        exact absurd h1 (by show ¬ (d : Int) < d; omega)
      · exact e
    · rename_i hle
      refine ⟨?_, h.rest, ?_, ?_⟩
      · intro q hq
        rcases List.mem_cons.1 hq with rfl | hq
        · obtain ⟨h1, h2⟩ := h.each p List.mem_cons_self
          refine ⟨by show 1 ≤ p.hi - mu; omega, ?_⟩
          rcases h2 with ⟨a, b⟩ | ⟨a, b, c⟩
          · exact .inl ⟨a, by show p.hi - mu ≤ st0; omega⟩
          · exact .inr ⟨a, b, by show p.hi - mu ≤ made[p.lo.toNat]?.getD 0; omega⟩
        · exact h.each q (List.mem_cons_of_mem _ hq)
      · exact List.pairwise_cons.2 (List.pairwise_cons.1 h.inc)
      · intro h' t' e d h1 h2 h3
        cases e
        exact h.all p r rfl d h1 h2 h3
theorem getD_left {xs : List Int} {x : Int} {j : Nat} (h : j < xs.length) : (xs ++ [x])[j]?.getD 0 = xs[j]?.getD 0 := by rw [getD_snoc, if_pos h]
theorem getD_last {xs : List Int} {x : Int} : (xs ++ [x])[xs.length]?.getD 0 = x := by rw [getD_snoc, if_neg (by omega), if_pos rfl]
theorem Pil.none {st0 : Int} {made : List Int} {F : List Sp} {m : Int} (h : Pil st0 made F) (hm : ¬ 0 < m) : Pil st0 (made ++ [m]) F := by
  have key : ∀ p ∈ F, 0 ≤ p.lo → (made ++ [m])[p.lo.toNat]?.getD 0 = made[p.lo.toNat]?.getD 0 := fun p hp h0 => by
    rcases (h.each p hp).2 with ⟨a, _⟩ | ⟨a, b, _⟩
    · omega
    · exact getD_left (by omega)
  refine ⟨fun p hp => ⟨(h.each p hp).1, ?_⟩, fun p hp => ?_, h.inc, ?_⟩
  · rcases (h.each p hp).2 with a | ⟨a, b, c⟩
    · exact .inl a
    · exact .inr ⟨a, by simp; omega, by rw [key p hp a]; exact c⟩
  · obtain ⟨a, b⟩ := h.rest p hp
    exact ⟨a, by rw [key p (List.mem_of_mem_tail hp) a]; exact b⟩
  · intro h' t' e d h1 h2 h3
    rcases Nat.lt_or_ge d made.length with hd | hd
    · rw [getD_left hd] at h3 ⊢
      exact h.all h' t' e d h1 hd h3
    · have : d = made.length := by simp at h2; omega
      subst this
      rw [getD_last] at h3
      exact absurd h3 hm
theorem Pil.push {st0 : Int} {made : List Int} {F : List Sp} {m : Int} (h : Pil st0 made F) (hm : 0 < m) : Pil st0 (made ++ [m]) (F ++ [⟨made.length, m⟩]) := by
  have key : ∀ p ∈ F, 0 ≤ p.lo → (made ++ [m])[p.lo.toNat]?.getD 0 = made[p.lo.toNat]?.getD 0 := fun p hp h0 => by
    rcases (h.each p hp).2 with ⟨a, _⟩ | ⟨a, b, _⟩
    · omega
    · exact getD_left (by omega)
  have hlast : (made ++ [m])[((made.length : Int)).toNat]?.getD 0 = m := by rw [Int.toNat_natCast]; exact getD_last
  have hlt : ∀ p ∈ F, p.lo < made.length := fun p hp => by
    rcases (h.each p hp).2 with ⟨a, _⟩ | ⟨a, b, _⟩ <;> omega
  refine ⟨fun p hp => ?_, fun p hp => ?_, ?_, ?_⟩
  · rcases List.mem_append.1 hp with hp | hp
    · refine ⟨(h.each p hp).1, ?_⟩
      rcases (h.each p hp).2 with a | ⟨a, b, c⟩
      · exact .inl a
      · exact .inr ⟨a, by simp; omega, by rw [key p hp a]; exact c⟩
    · have : p = ⟨made.length, m⟩ := by simpa using hp
      subst this
      exact ⟨by show 1 ≤ m; omega, .inr ⟨by show 0 ≤ (made.length : Int); omega, by rw [List.length_append]; show (made.length : Int) < ((made.length + 1 : Nat) : Int); omega, by show m ≤ _; rw [hlast]; exact Int.le_refl _⟩⟩
  · cases F with
    | nil => simp at hp
    | cons q r =>
      have hp' : p ∈ r ++ [⟨made.length, m⟩] := hp
      rcases List.mem_append.1 hp' with hp' | hp'
      · obtain ⟨a, b⟩ := h.rest p hp'
        exact ⟨a, by rw [key p (List.mem_cons_of_mem _ hp') a]; exact b⟩
      · have : p = ⟨made.length, m⟩ := by simpa using hp'
        subst this
        exact ⟨by show 0 ≤ (made.length : Int); omega, by show m = _; rw [hlast]⟩
  · rw [List.pairwise_append]
    refine ⟨h.inc, List.pairwise_singleton _ _, fun p hp q hq => ?_⟩
    have : q = ⟨made.length, m⟩ := by simpa using hq
    subst this
    exact hlt p hp
  · intro h' t' e d h1 h2 h3
    cases F with
    | nil =>
      simp at e
      obtain ⟨rfl, rfl⟩ := e
      have h1' : (made.length : Int) < d := h1
      simp at h2
      omega
    | cons q r =>
      rw [List.cons_append] at e
      simp only [List.cons.injEq] at e
      obtain ⟨rfl, rfl⟩ := e
      rcases Nat.lt_or_ge d made.length with hd | hd
      · rw [getD_left hd] at h3 ⊢
        exact List.mem_append_left _ (h.all q r rfl d h1 hd h3)
      · have : d = made.length := by simp at h2; omega
        subst this
        rw [getD_last]
        exact List.mem_append_right _ (by simp)

/-- The piles of a spell, a day further. -/
def pileStep (store : Int) (s : Ps) (F : List Sp) (k : Nat) (n m l : Int) : List Sp :=
  if s.fails = -1 then
    (if s.stock + (madeD store s.stock m l - lostD s.stock l) < n then F
     else if 0 < madeD store s.stock m l then drainS (drainS F (lostD s.stock l) ++ [⟨k, madeD store s.stock m l⟩]) n
     else drainS F (lostD s.stock l + n))
  else F
def pileL (stock store : Int) (N M L : List Int) : Nat → List Sp
  | 0 => drainS [⟨-1, stock⟩] 0
  | k + 1 => pileStep store (playL stock store N M L k) (pileL stock store N M L k) k (N[k]?.getD 0) (M[k]?.getD 0) (L[k]?.getD 0)
theorem pileL_stop (stock store : Int) (N M L : List Int) (k : Nat) (h : (playL stock store N M L k).fails ≠ -1) (n : Nat) (hn : k ≤ n) : pileL stock store N M L n = pileL stock store N M L k := by
  induction n with
  | zero =>
    have : k = 0 := by omega
    subst this
    rfl
  | succ n ih =>
    rcases Nat.lt_or_ge n k with h1 | h1
    · have : k = n + 1 := by omega
      subst this
      rfl
    · rw [pileL, pileStep, playL_stop _ _ _ _ _ _ h n h1, if_neg h]
      exact ih h1
theorem pile_inv {stock store : Int} {N M L : List Int} (hs : 0 ≤ stock ∧ stock ≤ store) (hM : ∀ k : Nat, 0 ≤ M[k]?.getD 0) (hL : ∀ k : Nat, 0 ≤ L[k]?.getD 0) (hN : ∀ k : Nat, 0 ≤ N[k]?.getD 0) (k : Nat) :
    Pil stock (playL stock store N M L k).made (pileL stock store N M L k) ∧ sumS (pileL stock store N M L k) = (playL stock store N M L k).stock ∧ (0 ≤ (playL stock store N M L k).stock ∧ (playL stock store N M L k).stock ≤ store) ∧ ((playL stock store N M L k).fails = -1 → (playL stock store N M L k).made.length = k) ∧ (pileL stock store N M L k).length ≤ k + 1 := by
  induction k with
  | zero =>
    have h1 : Pil stock [] [⟨-1, stock⟩] → Pil stock [] (drainS [⟨-1, stock⟩] 0) := fun h => h.drain (Int.le_refl _)
    show Pil stock [] (drainS [⟨-1, stock⟩] 0) ∧ sumS (drainS [⟨-1, stock⟩] 0) = stock ∧ (0 ≤ stock ∧ stock ≤ store) ∧ _ ∧ _
    refine ⟨?_, ?_, hs, fun _ => rfl, drainS_len _ _⟩
    · rw [drainS]
      split
      · exact ⟨fun p hp => (by cases hp), fun p hp => (by cases hp), List.Pairwise.nil, fun h t e => (by cases e)⟩
      · rename_i hle
        have hle' : ¬ stock ≤ 0 := hle
        refine ⟨fun p hp => ?_, fun p hp => (by cases hp), List.pairwise_singleton _ _, fun h t e d h1 h2 => absurd h2 (by simp)⟩
        have : p = ⟨-1, stock - 0⟩ := by simpa using hp
        subst this
        exact ⟨by show 1 ≤ stock - 0; omega, .inl ⟨rfl, by show stock - 0 ≤ stock; omega⟩⟩
    · rw [sumS_drain (fun p hp => ?_) (Int.le_refl _) (by show 0 ≤ stock + 0; omega)]
      · show stock + 0 - 0 = stock
        omega
      · have : p = ⟨-1, stock⟩ := by simpa using hp
        subst this
        exact hs.1
  | succ k ih =>
    obtain ⟨i1, i2, i3, i4, i5⟩ := ih
    rw [playL_succ, pileL, stepP, pileStep]
    have m0 := hM k
    have l0 := hL k
    have n0 := hN k
    generalize playL stock store N M L k = s at i1 i2 i3 i4 ⊢
    generalize pileL stock store N M L k = F at i1 i2 i5 ⊢
    generalize N[k]?.getD 0 = n at n0 ⊢
    generalize M[k]?.getD 0 = m at m0 ⊢
    generalize L[k]?.getD 0 = l at l0 ⊢
    have e1 : ∀ p ∈ F, 0 ≤ p.hi := fun p hp => by have := (i1.each p hp).1; omega
    by_cases hf : s.fails = -1
    · rw [if_pos hf, if_pos hf]
      have hlen := i4 hf
      have blo : 0 ≤ lostD s.stock l ∧ lostD s.stock l ≤ s.stock := by unfold lostD; omega
      have bma : 0 ≤ madeD store s.stock m l ∧ s.stock - lostD s.stock l + madeD store s.stock m l ≤ store := by unfold madeD; omega
      generalize lostD s.stock l = lo at *
      generalize madeD store s.stock m l = ma at *
      by_cases hq : s.stock + (ma - lo) < n
      · rw [if_pos hq, if_pos hq]
        exact ⟨i1, i2, i3, fun h => absurd (show ((k : Int)) = -1 from h) (by omega), by omega⟩
      · rw [if_neg hq, if_neg hq]
        have hln : (s.made ++ [ma]).length = k + 1 := by simp [hlen]
        by_cases hp : 0 < ma
        · rw [if_pos hp]
          have d1 := i1.drain (mu := lo) blo.1
          have s1 : sumS (drainS F lo) = s.stock - lo := by rw [sumS_drain e1 blo.1 (by omega), i2]
          have d2 := d1.push hp
          rw [hlen] at d2
          have s2 : sumS (drainS F lo ++ [⟨k, ma⟩]) = s.stock - lo + ma := by
            rw [sumS_append, s1]
            show _ + (ma + 0) = _
            omega
          have e2 : ∀ p ∈ drainS F lo ++ [(⟨k, ma⟩ : Sp)], 0 ≤ p.hi := fun p hp => by have := (d2.each p hp).1; omega
          refine ⟨d2.drain n0, ?_, ?_, fun _ => hln, ?_⟩
          · rw [sumS_drain e2 n0 (by omega), s2]
            show _ = s.stock + (ma - lo) - n
            omega
          · show 0 ≤ s.stock + (ma - lo) - n ∧ s.stock + (ma - lo) - n ≤ store
            omega
          · refine Nat.le_trans (drainS_len _ _) ?_
            have := drainS_len F lo
            simp
            omega
        · rw [if_neg hp]
          have d1 := (i1.drain (mu := lo + n) (by omega)).none hp
          refine ⟨d1, ?_, ?_, fun _ => hln, ?_⟩
          · rw [sumS_drain e1 (by omega) (by omega), i2]
            show _ = s.stock + (ma - lo) - n
            omega
          · show 0 ≤ s.stock + (ma - lo) - n ∧ s.stock + (ma - lo) - n ≤ store
            omega
          · have := drainS_len F (lo + n)
            omega
    · rw [if_neg hf, if_neg hf]
      exact ⟨i1, i2, i3, fun h => absurd h hf, by omega⟩

/-- The contract of drained over piles. -/
theorem drained_piles (a : Option Addr) (F : List Sp) (n cap : Nat) (much : Int) (w : World) (hx : IntSl w a (flatS F)) (hn : F.length = n) (hna : a = none → n = 0) (hnc : n ≤ cap) (hl : n ≤ 1000) (hm : 0 ≤ much ∧ much ≤ 10000000) (hf : ∀ p ∈ F, 0 ≤ p.hi ∧ p.hi ≤ 10000000) :
    Calls Tryz.prog 169 #[.slice a n cap, .int .i64 much] w (OutPiles w (drainS F much).length (flatS (drainS F much))) := by
  refine (drained_tells a (flatS F) n cap much w hx (by rw [flatS_len, hn]) hna hnc hl hm (fun k hk => ?_)).mono ?_
  · have h := List.getElem?_eq_getElem (show k < F.length by omega)
    rw [(flatS_get h).2, Option.getD_some]
    exact hf _ (List.getElem_mem _)
  · rintro e w' ⟨n', h1, h2⟩
    rw [drain_flat] at h1 h2
    have : n' = (drainS F much).length := by have := flatS_len (drainS F much); omega
    rw [← this]
    exact h2
theorem sl_of_flat {w : World} {a : Option Addr} {F : List Sp} (h : IntSl w a (flatS F)) : Sl 2 Sp.cells w a F := fun h0 => by
  obtain ⟨b, off, e, hb, hc⟩ := h (by rw [flatS_len]; omega)
  refine ⟨b, off, e, hb, fun j x i u hj hu => ?_⟩
  have hjl : j < F.length := by
    rcases Nat.lt_or_ge j F.length with h | h
    · exact h
    · rw [List.getElem?_eq_none h] at hj; cases hj
  obtain ⟨g1, g2⟩ := flatS_get hj
  match i, hu with
  | 0, hu =>
    simp [Sp.cells] at hu
    subst hu
    have := hc (j * 2) (by rw [flatS_len]; omega)
    rw [g1] at this
    exact this
  | 1, hu =>
    simp [Sp.cells] at hu
    subst hu
    have := hc (j * 2 + 1) (by rw [flatS_len]; omega)
    rw [g2] at this
    rw [Nat.add_assoc]
    exact this
  | i + 2, hu => simp [Sp.cells] at hu
theorem getD_pos {M : List Int} (h : ∀ x ∈ M, 0 ≤ x ∧ x ≤ 100000) (k : Nat) : 0 ≤ M[k]?.getD 0 := by
  rcases Nat.lt_or_ge k M.length with hk | hk
  · rw [List.getElem?_eq_getElem hk]; exact (h _ (List.getElem_mem _)).1
  · rw [getD_none hk]; exact Int.le_refl _
theorem pil_bd {st0 stk : Int} {made : List Int} {F : List Sp} (h : Pil st0 made F ∧ sumS F = stk) (hs : stk ≤ 1000000) : ∀ p ∈ F, 0 ≤ p.hi ∧ p.hi ≤ 10000000 := fun p hp => by
  have e1 : ∀ p ∈ F, 0 ≤ p.hi := fun p hp => by have := (h.1.each p hp).1; omega
  have := (sumS_le e1).2 p hp
  have := e1 p hp
  have := h.2
  omega
theorem pil_bd2 {st0 stk lo ma k : Int} {made : List Int} {F : List Sp} (h : Pil st0 made F ∧ sumS F = stk) (hl : 0 ≤ lo ∧ lo ≤ stk) (hm : 0 < ma) (hs : stk - lo + ma ≤ 1000000) : ∀ p ∈ drainS F lo ++ [(⟨k, ma⟩ : Sp)], 0 ≤ p.hi ∧ p.hi ≤ 10000000 := fun p hp => by
  have e1 : ∀ p ∈ F, 0 ≤ p.hi := fun p hp => by have := (h.1.each p hp).1; omega
  have e2 : ∀ p ∈ drainS F lo ++ [(⟨k, ma⟩ : Sp)], 0 ≤ p.hi := fun p hp => by
    rcases List.mem_append.1 hp with hp | hp
    · have := ((h.1.drain hl.1).each p hp).1; omega
    · have : p = ⟨k, ma⟩ := by simpa using hp
      subst this
      show 0 ≤ ma
      omega
  have h1 : sumS (drainS F lo ++ [(⟨k, ma⟩ : Sp)]) = stk - lo + ma := by
    rw [sumS_append, sumS_drain e1 hl.1 (by rw [h.2]; exact hl.2), h.2]
    show _ + (ma + 0) = _
    omega
  have := (sumS_le e2).2 p hp
  have := e2 p hp
  omega
end Go.Proofs.YtmebmcipmemofaaGreat

namespace Go.Proofs.YtmebmcipmemofaaGreat
open Go.RowKit Go.Shelf
attribute [local go_sem] Oper.semAt_some

/-- What play's memory holds, with the piles F. -/
structure PV (w : World) (T : Nat) (sp : Value) (s : Ps) (F : List Sp) (k : Nat) (wr : World) : Prop where
  b : Below w.heap.size w wr
  hT : w.heap.size + 2 ≤ T
  sp : wr.heap[w.heap.size]? = some (.cells sp.cells 156 (0, 0))
  rs : wr.heap[w.heap.size + 1]? = some (.cells #[.slice none 0 0, .slice none 0 0, .slice none 0 0, .int .i64 0, .int .i64 0] 163 (0, 0))
  t : ∃ (sl ml pl : Value), PT w T s k wr sl ml pl F.length (flatS F)
/-- What play hands back: lists that are new, the piles told. -/
def OutTaleP (w : World) (s : Ps) (F : List Sp) (e : Ending) (w' : World) : Prop := ∃ sa sc ma mc pa pc, e = .returned (.agg #[.slice sa s.stocks.length sc, .slice ma s.made.length mc, .slice pa F.length pc, .int .i64 s.fails, .int .i64 s.full]) ∧ (IntSl w' sa s.stocks ∧ ∀ p, sa = some p → w.heap.size ≤ p.block) ∧ (IntSl w' ma s.made ∧ ∀ p, ma = some p → w.heap.size ≤ p.block) ∧ (IntSl w' pa (flatS F) ∧ ∀ p, pa = some p → w.heap.size ≤ p.block) ∧ Below w.heap.size w w'
/-- What is known of the memory at play's end. -/
theorem PV.end {w : World} {T : Nat} {sp : Value} {s : Ps} {F : List Sp} {k : Nat} {wr : World} (h : PV w T sp s F k wr) : ∃ sa sc ma mc pa pc, wr.heap[T]? = some (.cells #[.slice sa s.stocks.length sc, .slice ma s.made.length mc, .slice pa F.length pc, .int .i64 s.fails, .int .i64 s.full] 163 (0, 0)) ∧
    Hid (((((((wr.setCell ⟨w.heap.size + 1, 0, none⟩ (.slice sa s.stocks.length sc)).setCell ⟨w.heap.size + 1, 1, none⟩ (.slice ma s.made.length mc)).setCell ⟨w.heap.size + 1, 2, none⟩ (.slice pa F.length pc)).setCell ⟨w.heap.size + 1, 3, none⟩ (.int .i64 s.fails)).setCell ⟨w.heap.size + 1, 4, none⟩ (.int .i64 s.full))).heap[w.heap.size + 1]? = some (.cells #[.slice sa s.stocks.length sc, .slice ma s.made.length mc, .slice pa F.length pc, .int .i64 s.fails, .int .i64 s.full] 163 (0, 0))) ∧ Hid (OutTaleP w s F (.returned (.agg #[.slice sa s.stocks.length sc, .slice ma s.made.length mc, .slice pa F.length pc, .int .i64 s.fails, .int .i64 s.full])) (((((wr.setCell ⟨w.heap.size + 1, 0, none⟩ (.slice sa s.stocks.length sc)).setCell ⟨w.heap.size + 1, 1, none⟩ (.slice ma s.made.length mc)).setCell ⟨w.heap.size + 1, 2, none⟩ (.slice pa F.length pc)).setCell ⟨w.heap.size + 1, 3, none⟩ (.int .i64 s.fails)).setCell ⟨w.heap.size + 1, 4, none⟩ (.int .i64 s.full))) := by
  obtain ⟨sl, ml, pl, h1, h2, h3, h4, h5, h6⟩ := h.t
  obtain ⟨sa, sc, rfl, hs, hsf⟩ := ints_of_owns h2
  obtain ⟨ma, mc, rfl, hm, hmf⟩ := ints_of_owns h3
  obtain ⟨pa, pc, rfl, hp, _, hpf, _⟩ := flats_of_owns h4
  refine ⟨sa, sc, ma, mc, pa, pc, h1, ?_⟩
  obtain ⟨a1, a2, a3, a4⟩ := five_put (v0 := .slice sa s.stocks.length sc) (v1 := .slice ma s.made.length mc) (v2 := .slice pa F.length pc) (v3 := .int .i64 s.fails) (v4 := .int .i64 s.full) h.rs (show w.heap.size ≤ w.heap.size + 1 by omega) h.b
  exact ⟨a2, sa, sc, ma, mc, pa, pc, rfl, ⟨ints_put hs (Below.refl _ _) a3 a4 (fun p hp => by have := hsf p hp; have := h.hT; omega), fun p hp => by have := hsf p hp; have := h.hT; omega⟩, ⟨ints_put hm (Below.refl _ _) a3 a4 (fun p hp => by have := hmf p hp; have := h.hT; omega), fun p hp => by have := hmf p hp; have := h.hT; omega⟩, ⟨ints_put hp (Below.refl _ _) a3 a4 (fun p hp => by have := hpf p hp; omega), fun p hp => by have := hpf p hp; omega⟩, a1⟩
theorem PV.free {w : World} {T : Nat} {sp : Value} {s : Ps} {F : List Sp} {k : Nat} {wr : World} (h : PV w T sp s F k wr) : (∀ j, wr.frozen? ⟨w.heap.size + 1, j, none⟩ = false) ∧ (∀ j, wr.frozen? ⟨T, j, none⟩ = false) ∧ w.heap.size + 1 < wr.heap.size ∧ T < wr.heap.size := by
  obtain ⟨sl, ml, pl, h1, _⟩ := h.t
  exact ⟨fun j => blk_free h.rs, fun j => blk_free h1, lt_of_block h.rs, lt_of_block h1⟩

theorem PV.drewN {w : World} {T : Nat} {sp : Value} {s : Ps} {F : List Sp} {k : Nat} {wr : World} (h : PV w T sp s F k wr) (q : Nat) : PV w T sp s F k (wr.drewN q) :=
  ⟨⟨h.b.os, h.b.tape, h.b.output, h.b.size, h.b.block⟩, h.hT, h.sp, h.rs, h.t⟩
/-- A number of the tale is set. -/
theorem PV.put {w : World} {T : Nat} {sp : Value} {s s' : Ps} {F : List Sp} {k : Nat} {wr : World} (h : PV w T sp s F k wr) (j : Nat) (x : Int) (hs : s'.stocks = s.stocks ∧ s'.made = s.made) (hj : (j = 3 ∧ s'.fails = x ∧ s'.full = s.full) ∨ (j = 4 ∧ s'.fails = s.fails ∧ s'.full = x)) : PV w T sp s' F k (wr.setCell ⟨T, j, none⟩ (.int .i64 x)) := by
  obtain ⟨sl, ml, pl, h1, h2, h3, h4, h5, h6⟩ := h.t
  have hT := h.hT
  have hne : ∀ {base e sz v n xs}, wr.ownsRow base e sz v n xs → (e ≠ 163) → v.ownBlock ≠ some T := fun ho he hv => by
    obtain ⟨_, cs, hc⟩ := owns_blk ho hv
    rw [h1] at hc
    cases hc
    exact he rfl
  refine ⟨h.b.setCell (p := ⟨T, j, none⟩) (by show w.heap.size ≤ T; omega) _, hT, blk_other h.sp (by omega), blk_other h.rs (by omega), sl, ml, pl, ?_, ?_, ?_, owns_other h4 (hne h4 (by decide)), h5, h6⟩
  · rcases hj with ⟨rfl, e1, e2⟩ | ⟨rfl, e1, e2⟩ <;> rw [e1, e2] <;> exact blk_setCell h1
  · rw [hs.1]; exact owns_other h2 (hne h2 (by decide))
  · rw [hs.2]; exact owns_other h3 (hne h3 (by decide))

theorem PV.piles {w W w5 : World} {T : Nat} {sp : Value} {s : Ps} {F F' : List Sp} {k k' : Nat} (h : PV w T sp s F k W) (hb : Below W.heap.size W w5) {v : Value} (ho : w5.ownsRow W.heap.size 85 2 v F'.length ((flatS F').map (Value.int .i64))) (hn : F'.length ≤ k' + 1) : PV w T sp s F' k' (w5.setCell ⟨T, 2, none⟩ v) := by
  obtain ⟨sl, ml, pl, h1, h2, h3, h4, h5, h6⟩ := h.t
  have hT := h.hT
  have hTW := lt_of_block h1
  have hne : ∀ {base e sz v n xs}, W.ownsRow base e sz v n xs → (e ≠ 163) → v.ownBlock ≠ some T := fun ho he hv => by
    obtain ⟨_, cs, hc⟩ := owns_blk ho hv
    rw [h1] at hc
    cases hc
    exact he rfl
  exact ⟨(below_self h.b hb).setCell (p := ⟨T, 2, none⟩) (by show w.heap.size ≤ T; omega) _, hT, blk_other (blk_below h.sp hb) (by omega), blk_other (blk_below h.rs hb) (by omega), sl, ml, v, blk_setCell (blk_below h1 hb), owns_other (owns_below h2 hb) (hne h2 (by decide)), owns_other (owns_below h3 hb) (hne h3 (by decide)), owns_other (owns_mono ho (by omega)) (fun hv => by have := (ho.lt _ hv).1; omega), hn, h6⟩
theorem PV.push0 {w W w' : World} {T : Nat} {sp : Value} {s : Ps} {F : List Sp} {k : Nat} (h : PV w T sp s F k W) {sl ml pl : Value} (ht : PT w T s k W sl ml pl F.length (flatS F)) (o : Obj) {v' : Value} {x : Int}
    (ho : w'.ownsRow (T + 1) 3 1 v' (s.stocks.length + 1) (s.stocks.map (Value.int .i64) ++ [.int .i64 x])) (hg : (W.alloc o).grownBy w' sl.ownBlock) (hv : v'.ownBlock = sl.ownBlock ∨ v'.ownBlock = some (W.alloc o).heap.size) :
    PV w T sp ⟨s.stock, s.stocks ++ [x], s.made, s.fails, s.full⟩ F k (w'.setCell ⟨T, 0, none⟩ v') ∧ PT w T ⟨s.stock, s.stocks ++ [x], s.made, s.fails, s.full⟩ k (w'.setCell ⟨T, 0, none⟩ v') v' ml pl F.length (flatS F) ∧ w'.heap[T]? = W.heap[T]? := by
  obtain ⟨h1, h2, h3, h4, h5, h6⟩ := ht
  have hT := h.hT
  have hTW := lt_of_block h1
  have hsl : ∀ i, sl.ownBlock = some i → T + 1 ≤ i := fun i hi => (h2.lt i hi).1
  have keep : ∀ j, j < W.heap.size → some j ≠ sl.ownBlock → w'.heap[j]? = W.heap[j]? := fun j hj hn => (hg.block j (by rw [World.size_alloc]; omega) hn).trans (heap_alloc_old W o hj)
  have low : ∀ j, j ≤ T → w'.heap[j]? = W.heap[j]? := fun j hj => keep j (by omega) (fun e => by have := hsl j e.symm; omega)
  have hne : ∀ {base e sz v n xs}, W.ownsRow base e sz v n xs → (e ≠ 163) → v.ownBlock ≠ some T := fun ho he hv => by
    obtain ⟨_, cs, hc⟩ := owns_blk ho hv
    rw [h1] at hc
    cases hc
    exact he rfl
  have hml : ml.ownBlock = none ∨ ml.ownBlock ≠ sl.ownBlock := by
    cases hm : ml.ownBlock with
    | none => exact .inl rfl
    | some i => exact .inr (fun e => h6 i e.symm hm)
  have hpl : pl.ownBlock = none ∨ pl.ownBlock ≠ sl.ownBlock := by
    cases hm : pl.ownBlock with
    | none => exact .inl rfl
    | some i =>
      refine .inr (fun e => ?_)
      obtain ⟨_, c1, e1⟩ := owns_blk h4 hm
      obtain ⟨_, c2, e2⟩ := owns_blk h2 e.symm
      rw [e1] at e2; cases e2
  have PTN : PT w T ⟨s.stock, s.stocks ++ [x], s.made, s.fails, s.full⟩ k (w'.setCell ⟨T, 0, none⟩ v') v' ml pl F.length (flatS F) := by
    refine ⟨blk_setCell ((low T (Nat.le_refl _)).trans h1), ?_, owns_other ((h3.alloc o).kept hg hml) (hne h3 (by decide)), owns_other ((h4.alloc o).kept hg hpl) (hne h4 (by decide)), h5, ?_⟩
    · have e1 : (s.stocks ++ [x]).length = s.stocks.length + 1 := by simp
      have e2 : (s.stocks ++ [x]).map (Value.int .i64) = s.stocks.map (Value.int .i64) ++ [.int .i64 x] := by simp
      show World.ownsRow _ _ _ _ _ (s.stocks ++ [x]).length ((s.stocks ++ [x]).map (Value.int .i64))
      rw [e1, e2]
      exact owns_other ho (fun hv' => by have := (ho.lt _ hv').1; omega)
    · intro i hi hm
      rcases hv with hv | hv
      · exact h6 i (by rw [← hv]; exact hi) hm
      · rw [hv] at hi; cases hi
        have := (h3.lt _ hm).2
        rw [World.size_alloc] at this; omega
  exact ⟨⟨((h.b.alloc h.b.size o).grown hg (by rw [World.size_alloc]; have := h.b.size; omega) (fun i hi => by have := hsl i hi; omega)).setCell (p := ⟨T, 0, none⟩) (by show w.heap.size ≤ T; omega) _, hT, blk_other ((low _ (by omega)).trans h.sp) (by omega), blk_other ((low _ (by omega)).trans h.rs) (by omega), _, _, _, PTN⟩, PTN, low T (Nat.le_refl _)⟩
theorem PV.push1 {w W w' : World} {T : Nat} {sp : Value} {s : Ps} {F : List Sp} {k : Nat} (h : PV w T sp s F k W) {sl ml pl : Value} (ht : PT w T s k W sl ml pl F.length (flatS F)) (o : Obj) {v' : Value} {x : Int}
    (ho : w'.ownsRow (T + 1) 3 1 v' (s.made.length + 1) (s.made.map (Value.int .i64) ++ [.int .i64 x])) (hg : (W.alloc o).grownBy w' ml.ownBlock) (hv : v'.ownBlock = ml.ownBlock ∨ v'.ownBlock = some (W.alloc o).heap.size) :
    PV w T sp ⟨s.stock, s.stocks, s.made ++ [x], s.fails, s.full⟩ F k (w'.setCell ⟨T, 1, none⟩ v') ∧ w'.heap[T]? = W.heap[T]? := by
  obtain ⟨h1, h2, h3, h4, h5, h6⟩ := ht
  have hT := h.hT
  have hTW := lt_of_block h1
  have hsl : ∀ i, ml.ownBlock = some i → T + 1 ≤ i := fun i hi => (h3.lt i hi).1
  have keep : ∀ j, j < W.heap.size → some j ≠ ml.ownBlock → w'.heap[j]? = W.heap[j]? := fun j hj hn => (hg.block j (by rw [World.size_alloc]; omega) hn).trans (heap_alloc_old W o hj)
  have low : ∀ j, j ≤ T → w'.heap[j]? = W.heap[j]? := fun j hj => keep j (by omega) (fun e => by have := hsl j e.symm; omega)
  have hne : ∀ {base e sz v n xs}, W.ownsRow base e sz v n xs → (e ≠ 163) → v.ownBlock ≠ some T := fun ho he hv => by
    obtain ⟨_, cs, hc⟩ := owns_blk ho hv
    rw [h1] at hc
    cases hc
    exact he rfl
  have hml : sl.ownBlock = none ∨ sl.ownBlock ≠ ml.ownBlock := by
    cases hm : sl.ownBlock with
    | none => exact .inl rfl
    | some i => exact .inr (fun e => h6 i hm e.symm)
  have hpl : pl.ownBlock = none ∨ pl.ownBlock ≠ ml.ownBlock := by
    cases hm : pl.ownBlock with
    | none => exact .inl rfl
    | some i =>
      refine .inr (fun e => ?_)
      obtain ⟨_, c1, e1⟩ := owns_blk h4 hm
      obtain ⟨_, c2, e2⟩ := owns_blk h3 e.symm
      rw [e1] at e2; cases e2
  have PTN : PT w T ⟨s.stock, s.stocks, s.made ++ [x], s.fails, s.full⟩ k (w'.setCell ⟨T, 1, none⟩ v') sl v' pl F.length (flatS F) := by
    refine ⟨blk_setCell ((low T (Nat.le_refl _)).trans h1), owns_other ((h2.alloc o).kept hg hml) (hne h2 (by decide)), ?_, owns_other ((h4.alloc o).kept hg hpl) (hne h4 (by decide)), h5, ?_⟩
    · have e1 : (s.made ++ [x]).length = s.made.length + 1 := by simp
      have e2 : (s.made ++ [x]).map (Value.int .i64) = s.made.map (Value.int .i64) ++ [.int .i64 x] := by simp
      show World.ownsRow _ _ _ _ _ (s.made ++ [x]).length ((s.made ++ [x]).map (Value.int .i64))
      rw [e1, e2]
      exact owns_other ho (fun hv' => by have := (ho.lt _ hv').1; omega)
    · intro i hi hm
      rcases hv with hv | hv
      · exact h6 i hi (by rw [← hv]; exact hm)
      · rw [hv] at hm; cases hm
        have := (h2.lt _ hi).2
        rw [World.size_alloc] at this; omega
  exact ⟨⟨((h.b.alloc h.b.size o).grown hg (by rw [World.size_alloc]; have := h.b.size; omega) (fun i hi => by have := hsl i hi; omega)).setCell (p := ⟨T, 1, none⟩) (by show w.heap.size ≤ T; omega) _, hT, blk_other ((low _ (by omega)).trans h.sp) (by omega), blk_other ((low _ (by omega)).trans h.rs) (by omega), _, _, _, PTN⟩, low T (Nat.le_refl _)⟩
end Go.Proofs.YtmebmcipmemofaaGreat

namespace Go.Proofs.YtmebmcipmemofaaGreat
open Go.RowKit Go.Shelf
attribute [local go_sem] Oper.semAt_some

set_option maxRecDepth 100000 in
set_option maxHeartbeats 4000000 in
theorem play_piles (stock store : Int) (a : Option Addr) (n cap : Nat) (an : Option Addr) (N : List Int) (cn : Nat) (am : Option Addr) (M : List Int) (cm : Nat) (al : Option Addr) (L : List Int) (cl : Nat) (w : World)
    (hN : IntSl w an N) (hM : IntSl w am M) (hL : IntSl w al L) (hNn : N.length = n) (hMn : M.length = n) (hLn : L.length = n) (hn : n ≤ 60) (hst : 0 ≤ stock ∧ stock ≤ store ∧ store ≤ 1000000)
    (hb : (∀ x ∈ N, 0 ≤ x ∧ x ≤ 100000) ∧ (∀ x ∈ M, 0 ≤ x ∧ x ≤ 100000) ∧ (∀ x ∈ L, 0 ≤ x ∧ x ≤ 100000)) :
    Calls Tryz.prog 120 #[sv stock store a n cap an n cn am n cm al n cl] w (OutTaleP w (playL stock store N M L n) (pileL stock store N M L n)) := by
  have HH := Lib.hid (And.intro hN (And.intro hM (And.intro hL (And.intro hNn (And.intro hMn hLn)))))
  have HB := Lib.hid hb
  have HS := Lib.hid hst
  clear hN hM hL hNn hMn hLn hb hst
  obtain ⟨Wa, hWa⟩ : ∃ Wa, (w.alloc (.cells #[.int .i64 stock, .int .i64 store, .slice a n cap, .slice an n cn, .slice am n cm, .slice al n cl] 156)).alloc (.cells #[.slice none 0 0, .slice none 0 0, .slice none 0 0, .int .i64 0, .int .i64 0] 163) = Wa := ⟨_, rfl⟩
  have hba : Below w.heap.size w Wa := by rw [← hWa]; exact ((Below.refl _ _).alloc (Nat.le_refl _) _).alloc (by simp) _
  have h0 : Wa.heap[w.heap.size]? = some (.cells #[.int .i64 stock, .int .i64 store, .slice a n cap, .slice an n cn, .slice am n cm, .slice al n cl] 156 (0, 0)) := by rw [← hWa]; exact alk (new_at rfl)
  have r0 : Wa.heap[w.heap.size + 1]? = some (.cells #[.slice none 0 0, .slice none 0 0, .slice none 0 0, .int .i64 0, .int .i64 0] 163 (0, 0)) := by rw [← hWa]; exact new_at (by simp)
  have c0 := blk_cell h0 0 rfl
  go_enter Tryz.func120, Tryz.ntmps120
  go_wp2
  go_step3
  have hbc : Below Wa.heap.size Wa (Wa.alloc (.cells #[.int .i64 (-1), .int .i64 stock] 85)) := (Below.refl _ _).alloc (Nat.le_refl _) _
  have hnc : (Wa.alloc (.cells #[.int .i64 (-1), .int .i64 stock] 85)).heap[Wa.heap.size]? = some (.cells #[.int .i64 (-1), .int .i64 stock] 85 (0, 0)) := heap_alloc_new _ _
  go_wp2_with (fail)
  have HC0 := drained_piles (some ⟨Wa.heap.size, 0, none⟩) [⟨-1, stock⟩] 1 1 0 _ (pair_sl hnc) rfl (fun h => by cases h) (Nat.le_refl _) (by omega) (by omega) (fun p hp => by
    have e : p = ⟨-1, stock⟩ := by simpa using hp
    have h := HS.out
    subst e
    exact ⟨h.1, by show stock ≤ 10000000; omega⟩)
  obtain ⟨F0, hF0⟩ : ∃ F0, drainS [⟨-1, stock⟩] 0 = F0 := ⟨_, rfl⟩
  have hF0l : F0.length ≤ 1 := by rw [← hF0]; exact drainS_len _ _
  rw [hF0] at HC0
  have HF0 := Lib.hid hF0
  clear hF0
  refine HC0.mono ?_
  rintro e w1 ⟨pa, pcap, rfl, hown, hb1⟩
  clear HC0
  have hza : Wa.heap.size = w.heap.size + 2 := by rw [← hWa]; simp
  have hown' : w1.ownsRow (w.heap.size + 2) 85 2 (.slice pa F0.length pcap) F0.length ((flatS F0).map (Value.int .i64)) := owns_mono hown (by rw [World.size_alloc, hza]; omega)
  have k1 : Below w.heap.size w w1 := below_self (below_self hba hbc) hb1
  have h1 := blk_below (blk_below h0 hbc) hb1
  have r1 := blk_below (blk_below r0 hbc) hb1
  have hz1 : w.heap.size + 3 ≤ w1.heap.size := by have := hb1.size; rw [World.size_alloc, hza] at this; omega
  clear hnc hown hb1 hbc h0 r0 c0 hba hza hWa
  obtain ⟨Wt, hWt⟩ : ∃ Wt, w1.alloc (.cells #[.slice none 0 0, .slice none 0 0, .slice pa F0.length pcap, .int .i64 (-1), .int .i64 (-1)] 163) = Wt := ⟨_, rfl⟩
  have hbt : Below w1.heap.size w1 Wt := by rw [← hWt]; exact (Below.refl _ _).alloc (Nat.le_refl _) _
  have hT : Wt.heap[w1.heap.size]? = some (.cells #[.slice none 0 0, .slice none 0 0, .slice pa F0.length pcap, .int .i64 (-1), .int .i64 (-1)] 163 (0, 0)) := by rw [← hWt]; exact heap_alloc_new _ _
  have hPW : PV w w1.heap.size (sv stock store a n cap an n cn am n cm al n cl) ⟨stock, [], [], -1, -1⟩ F0 0 Wt :=
    ⟨below_self k1 hbt, by omega, blk_below h1 hbt, blk_below r1 hbt, _, _, _, hT, World.ownsRow_nil _ _ _ _, World.ownsRow_nil _ _ _ _, owns_below hown' hbt, by omega, (fun i h => by cases h)⟩
  have d0 := blk_cell (blk_below h1 hbt) 0 rfl
  have d2 := blk_cell (blk_below h1 hbt) 2 rfl
  have HP := Lib.hid hPW
  clear hPW hT hbt k1 h1 r1 hown' hF0l
  generalize hTT : w1.heap.size = T at HP hz1 hWt ⊢
  go_wp2_with (fail)
  go_step3
  go_wp2_with (fail)
  clear hWt d0 d2 hTT
  go_loopw [4, 24] (fun st i wr => ∃ (k : Nat) (s : Ps) (F : List Sp), k ≤ n ∧ i = .int .i64 k ∧ Hid (s = playL stock store N M L k) ∧ st = .int .i64 s.stock ∧ Hid (s.fails = -1) ∧ Hid (0 ≤ s.stock ∧ s.stock ≤ store) ∧ Hid (F = pileL stock store N M L k) ∧ Hid (PV w T (sv stock store a n cap an n cn am n cm al n cl) s F k wr)) (fun _ i _ => n - (intOf i).toNat)
  case atStart => exact ⟨0, _, _, Nat.zero_le _, rfl, rfl, rfl, rfl, ⟨HS.out.1, HS.out.2.1⟩, HF0.out.symm, HP⟩
  case round =>
    obtain ⟨k, s, F, hk, rfl, hs, rfl, hf, hst, hF, hpw⟩ := hrel
    by_cases hlt : k < n
    · obtain ⟨hN, hM, hL, hNn, hMn, hLn⟩ := HH.out
      obtain ⟨bn, on, rfl, hbn, hcn⟩ := hN (by omega)
      obtain ⟨bm, om, rfl, hbm, hcm⟩ := hM (by omega)
      obtain ⟨bl, ol, rfl, hbl, hcl⟩ := hL (by omega)
      have cN := (hpw.out.b.cell (p := ⟨bn, on + k, none⟩) hbn).trans (hcn k (by omega))
      have cM := (hpw.out.b.cell (p := ⟨bm, om + k, none⟩) hbm).trans (hcm k (by omega))
      have cL := (hpw.out.b.cell (p := ⟨bl, ol + k, none⟩) hbl).trans (hcl k (by omega))
      have bN : 0 ≤ N[k]?.getD 0 ∧ N[k]?.getD 0 ≤ 100000 := HB.out.1 _ (by rw [List.getElem?_eq_getElem (by omega)]; exact List.getElem_mem _)
      have bM : 0 ≤ M[k]?.getD 0 ∧ M[k]?.getD 0 ≤ 100000 := HB.out.2.1 _ (by rw [List.getElem?_eq_getElem (by omega)]; exact List.getElem_mem _)
      have bL : 0 ≤ L[k]?.getD 0 ∧ L[k]?.getD 0 ≤ 100000 := HB.out.2.2 _ (by rw [List.getElem?_eq_getElem (by omega)]; exact List.getElem_mem _)
      have HSTEP : Hid (playL stock store N M L (k + 1) = stepP store s k (N[k]?.getD 0) (M[k]?.getD 0) (L[k]?.getD 0)) := by show _ = _; rw [playL_succ, ← hs.out]
      have HPST : Hid (pileL stock store N M L (k + 1) = pileStep store s F k (N[k]?.getD 0) (M[k]?.getD 0) (L[k]?.getD 0)) := by show _ = _; rw [pileL, ← hs.out, ← hF.out]
      have HPB : Hid (Pil stock s.made F ∧ sumS F = s.stock) := by
        have h := pile_inv (N := N) (M := M) (L := L) ⟨HS.out.1, HS.out.2.1⟩ (getD_pos HB.out.2.1) (getD_pos HB.out.2.2) (getD_pos HB.out.1) k
        rw [← hs.out, ← hF.out] at h
        exact ⟨h.1, h.2.1⟩
      generalize N[k]?.getD 0 = nk at cN bN HSTEP HPST
      generalize M[k]?.getD 0 = mk at cM bM HSTEP HPST
      generalize L[k]?.getD 0 = lk at cL bL HSTEP HPST
      have c1 := blk_cell hpw.out.sp 1 rfl
      have c3 := blk_cell hpw.out.sp 3 rfl
      have c4 := blk_cell hpw.out.sp 4 rfl
      have c5 := blk_cell hpw.out.sp 5 rfl
      have hst' := hst.out
      have hS3 := HS.out
      clear hcn hcm hcl hN hM hL
      go_wp2_with (fail)
      go_quiet (fail)
      clear cN cM c1 c3 c4 HP hz1
      have HB3 := Lib.hid (And.intro hS3 (And.intro hst' (And.intro bN (And.intro bM bL))))
      have hn' := hn
      have HLT := Lib.hid hlt
      clear hS3 hst' hn bN bM bL
      go_upto_region 8 with (fail)
      have hlo : (if s.stock < lk then s.stock else lk) = lostD s.stock lk := by unfold lostD; have := HB3.out; split <;> omega
      have blo : 0 ≤ lostD s.stock lk ∧ lostD s.stock lk ≤ s.stock := by unfold lostD; have := HB3.out; omega
      rw [hlo]
      clear hlo
      have hpw2 := Lib.hid (hpw.out.drewN nq)
      clear hpw
      generalize wr.drewN nq = W1 at hpw2 ⊢
      have c1 := blk_cell hpw2.out.sp 1 rfl
      obtain ⟨lo, hlo⟩ : ∃ lo, lostD s.stock lk = lo := ⟨_, rfl⟩
      rw [hlo] at blo ⊢
      have HLO := Lib.hid hlo
      clear hlo
      have b1 := HB3.out.1
      have b2 := HB3.out.2.1
      have b3 := HB3.out.2.2.2.1
      go_upto_region 9 with (fail)
      have hma' : (if store - (s.stock - lo) < mk then store - (s.stock - lo) else mk) = madeD store s.stock mk lk := by unfold madeD; rw [HLO.out]; split <;> omega
      have bma : 0 ≤ madeD store s.stock mk lk ∧ madeD store s.stock mk lk ≤ mk ∧ s.stock - lo + madeD store s.stock mk lk ≤ store := by unfold madeD; rw [HLO.out]; omega
      rw [hma']
      clear hma' c1
      obtain ⟨ma, hma⟩ : ∃ ma, madeD store s.stock mk lk = ma := ⟨_, rfl⟩
      rw [hma] at bma ⊢
      have HMA := Lib.hid hma
      clear hma
      by_cases hfu : ma < mk
      · have g3 := hpw2.out.free.2.1 4
        have g4 := hpw2.out.free.2.2.2
        obtain ⟨_, _, _, hT2, _⟩ := hpw2.out.t
        have t3 := blk_cell hT2 4 rfl
        clear hT2
        go_upto_region 11 with (fail)
        have hpw3 := Lib.hid (hpw2.out.put (s' := ⟨s.stock, s.stocks, s.made, s.fails, if ma < mk then (k : Int) else s.full⟩) 4 k ⟨rfl, rfl⟩ (.inr ⟨rfl, rfl, if_pos hfu⟩))
        clear hpw2 g3 g4 t3
        generalize W1.setCell ⟨T, 4, none⟩ (.int .i64 k) = W2 at hpw3 ⊢
        clear hfu
        generalize hs2' : (⟨s.stock, s.stocks, s.made, s.fails, if ma < mk then (k : Int) else s.full⟩ : Ps) = s2 at hpw3
        have hs2 := Lib.hid hs2'
        clear hs2'
        go_upto_region 13 with (fail)
        generalize hst2 : s.stock + (ma - lo) = st2
        have HST := Lib.hid hst2
        have bst : 0 ≤ st2 ∧ st2 ≤ store ∧ store ≤ 1000000 := by omega
        have HBL := Lib.hid (And.intro blo (And.intro bma b1))
        clear hst2 blo bma b1 b2 b3
        by_cases hfa : st2 < nk
        · skip
          have HF : Hid (playL stock store N M L n = ⟨s2.stock, s2.stocks, s2.made, k, s2.full⟩) := by
            show _ = _
            have h1 : playL stock store N M L (k + 1) = ⟨s2.stock, s2.stocks, s2.made, k, s2.full⟩ := by
              rw [HSTEP.out, stepP, if_pos hf.out, HMA.out, HLO.out, if_pos (by rw [HST.out]; exact hfa), ← hs2.out]
            rw [← h1]
            exact playL_stop _ _ _ _ _ _ (by rw [h1]; show (k : Int) ≠ -1; omega) _ (by omega)
          have HFP : Hid (pileL stock store N M L n = F) := by
            show _ = _
            have h1 : playL stock store N M L (k + 1) = ⟨s2.stock, s2.stocks, s2.made, k, s2.full⟩ := by
              rw [HSTEP.out, stepP, if_pos hf.out, HMA.out, HLO.out, if_pos (by rw [HST.out]; exact hfa), ← hs2.out]
            rw [pileL_stop stock store N M L (k + 1) (by rw [h1]; show (k : Int) ≠ -1; omega) n (by omega), HPST.out, pileStep, if_pos hf.out, HMA.out, HLO.out, if_pos (by rw [HST.out]; exact hfa)]
          obtain ⟨W3, hW3⟩ : ∃ W3, W2.setCell ⟨T, 3, none⟩ (.int .i64 k) = W3 := ⟨_, rfl⟩
          have hpw4 : Hid (PV w T (sv stock store a n cap (some ⟨bn, on, none⟩) n cn (some ⟨bm, om, none⟩) n cm (some ⟨bl, ol, none⟩) n cl) ⟨s2.stock, s2.stocks, s2.made, k, s2.full⟩ F k W3) := by rw [← hW3]; exact hpw3.out.put 3 k ⟨rfl, rfl⟩ (.inl ⟨rfl, rfl, rfl⟩)
          have g3 := hpw3.out.free.2.1 3
          have g4 := hpw3.out.free.2.2.2
          obtain ⟨_, _, _, hT2, _⟩ := hpw3.out.t
          have t3 := blk_cell hT2 3 rfl
          clear hT2
          obtain ⟨sa, sc, ma', mc, pa2, pc, hTc, HC, HO⟩ := hpw4.out.end
          have r0 := hpw4.out.rs
          have b0 := blk_cell r0 0 rfl
          have b1 := blk_cell r0 1 rfl
          have b2 := blk_cell r0 2 rfl
          have b3 := blk_cell r0 3 rfl
          have b4 := blk_cell r0 4 rfl
          have f0 := blk_free (j := 0) r0
          have f1 := blk_free (j := 1) r0
          have f2 := blk_free (j := 2) r0
          have f3 := blk_free (j := 3) r0
          have f4 := blk_free (j := 4) r0
          have e0 := blk_cell hTc 0 rfl
          have e1 := blk_cell hTc 1 rfl
          have e2 := blk_cell hTc 2 rfl
          have e3 := blk_cell hTc 3 rfl
          have e4 := blk_cell hTc 4 rfl
          clear hTc r0
          go_wp2_with (fail)
          clear b0 b1 b2 b3 b4 f0 f1 f2 f3 f4 e0 e1 e2 e3 e4
          try rw [Exit.noGoto_ret]
          generalize (((((W3.setCell ⟨w.heap.size + 1, 0, none⟩ (.slice sa s2.stocks.length sc)).setCell ⟨w.heap.size + 1, 1, none⟩ (.slice ma' s2.made.length mc)).setCell ⟨w.heap.size + 1, 2, none⟩ (.slice pa2 F.length pc)).setCell ⟨w.heap.size + 1, 3, none⟩ (.int .i64 k)).setCell ⟨w.heap.size + 1, 4, none⟩ (.int .i64 s2.full)) = W5 at HC HO ⊢
          have q0 := blk_cell HC.out 0 rfl
          have q1 := blk_cell HC.out 1 rfl
          have q2 := blk_cell HC.out 2 rfl
          have q3 := blk_cell HC.out 3 rfl
          have q4 := blk_cell HC.out 4 rfl
          refine bodyPost_ret (v := .agg #[.slice sa s2.stocks.length sc, .slice ma' s2.made.length mc, .slice pa2 F.length pc, .int .i64 k, .int .i64 s2.full]) (by simp [results, Tryz.results120, go_sem, q0, q1, q2, q3, q4]) rfl ?_
          rw [HF.out, HFP.out]
          exact HO.out

        · have bst4 : 0 ≤ st2 - nk ∧ st2 - nk ≤ 1000000 := by have := HB3.out.2.2.1; omega
          have BST := Lib.hid bst
          obtain ⟨sl, ml, pl, hTc, hO1, hO2, hO3, hnp2, hdis⟩ := hpw3.out.t
          obtain ⟨pa3, pc3, rfl, _⟩ := flats_of_owns hO3
          have HF := Lib.hid (owns_form hO3)
          have p2 := blk_cell hTc 2 rfl
          have p3 := blk_free (j := 2) hTc
          have HNP := Lib.hid hnp2
          have HTc := Lib.hid hTc
          have hTlt := lt_of_block hTc
          have HHn := Lib.hid hn'
          clear hTc hO1 hO2 hO3 hnp2 hdis bst hn'
          by_cases hmd : 0 < ma
          · go_wp2_with (fail)
            have HC5 := drained_piles pa3 F F.length pc3 lo _ HF.out.1 rfl HF.out.2.2.2.1 HF.out.2.2.2.2.1 (by have := HNP.out; have := HHn.out; omega) (by have := HBL.out; have := HB3.out; omega) (pil_bd HPB.out (by have := HB3.out; omega))
            obtain ⟨F5, hF5⟩ : ∃ F5, drainS F lo = F5 := ⟨_, rfl⟩
            have hnp5 : F5.length ≤ F.length := by rw [← hF5]; exact drainS_len _ _
            rw [hF5] at HC5
            refine HC5.mono ?_
            rintro e w5 ⟨pa5, pc5, rfl, hO5, hb5⟩
            clear HC5
            have HF5 := Lib.hid hF5
            clear hF5
            obtain ⟨j0, hj, hjz0, hjz1, hjz2⟩ := info_parts Tryz.info85
            have HNP5 : Hid (F5.length ≤ k + 1 ∧ k + 1 ≤ 61) := by have := HNP.out; have := HHn.out; have := HLT.out; exact ⟨by omega, by omega⟩
            have HO5 := Lib.hid hO5
            have HB5 := Lib.hid hb5
            clear hO5 hb5 hnp5 p2 p3
            go_wp2_with (at_builtin; refine wpList_append_own_at _ rfl _ _ 77 rfl W2.heap.size 85 j0 (.agg #[.int .i64 0, .int .i64 0]) 2 16 Tryz.underlying77 hj hjz0 hjz1 hjz2 rfl (by decide) (.slice pa5 F5.length pc5) F5.length ((flatS F5).map (Value.int .i64)) rfl (HO5.out.alloc _) ⟨w5.heap.size, 0, none⟩ 1 1 [.int .i64 k, .int .i64 ma] rfl rfl (cell_two_new _ _ _ _) (by intro u hu; simp at hu; rcases hu with rfl | rfl <;> rfl) (by have := HNP5.out; unfold maxLen; omega) (by have := HNP5.out; omega) (by have := HB5.out.size; rw [World.size_alloc]; omega) ?_)
            intro v6 w6 hown6 hgrow6 _ hv6
            obtain ⟨g6, cap6, rfl⟩ := ownsRow_succ hown6
            have hb6 : Below W2.heap.size W2 w6 := (HB5.out.alloc HB5.out.size _).grown hgrow6 (by rw [World.size_alloc]; have := HB5.out.size; omega) (fun j hj => (HO5.out.lt j hj).1)
            have hown6' : w6.ownsRow W2.heap.size 85 2 (.slice (some ⟨g6, 0, none⟩) (F5.length + 1) cap6) (F5 ++ [(⟨k, ma⟩ : Sp)]).length ((flatS (F5 ++ [(⟨k, ma⟩ : Sp)])).map (Value.int .i64)) := by rw [flatS_append, List.length_append]; simpa [flatS_cons, show flatS [] = [] from rfl] using hown6
            have HPB6 := Lib.hid (pil_bd2 (k := (k : Int)) HPB.out (by have := HBL.out; exact ⟨this.1.1, this.1.2⟩) hmd (by have := HBL.out; have := HB3.out; omega))
            obtain ⟨F6, hF6⟩ : ∃ F6, F5 ++ [(⟨k, ma⟩ : Sp)] = F6 := ⟨_, rfl⟩
            have hF6l : F6.length = F5.length + 1 := by rw [← hF6]; simp
            rw [HF5.out, hF6] at HPB6
            rw [hF6] at hown6'
            have hpw6 := Lib.hid (hpw3.out.piles (k' := k + 1) hb6 hown6' (by have := HNP5.out; omega))
            have HF6 := Lib.hid hF6
            clear hF6 hF6l
            have t6 := blk_below HTc.out hb6
            have y6 := blk_cell t6 2 rfl
            have y6f := blk_free (j := 2) t6
            clear t6 hown6' hb6 hown6 hgrow6 hv6
            go_upto_region 17 with (fail)
            generalize w6.setCell ⟨T, 2, none⟩ (.slice (some ⟨g6, 0, none⟩) (F5.length + 1) cap6) = W6 at hpw6 ⊢
            clear y6 y6f
            obtain ⟨sl6, ml6, pl6, hTc6, _, _, hO6, hnp6, _⟩ := hpw6.out.t
            obtain ⟨pa6, pc6, rfl, _⟩ := flats_of_owns hO6
            have HG6 := Lib.hid (owns_form hO6)
            have p2 := blk_cell hTc6 2 rfl
            have p3 := blk_free (j := 2) hTc6
            have HNP6 := Lib.hid hnp6
            have HTc6 := Lib.hid hTc6
            have hTlt6 := lt_of_block hTc6
            clear hTc6 hO6 hnp6
            go_wp2_with (fail)
            have HC7 := drained_piles pa6 F6 F6.length pc6 nk W6 HG6.out.1 rfl HG6.out.2.2.2.1 HG6.out.2.2.2.2.1 (by have := HNP6.out; have := HNP5.out; omega) (by have := HB3.out; omega) HPB6.out
            obtain ⟨F7, hF7⟩ : ∃ F7, drainS F6 nk = F7 := ⟨_, rfl⟩
            have hnp7 : F7.length ≤ F6.length := by rw [← hF7]; exact drainS_len _ _
            rw [hF7] at HC7
            refine HC7.mono ?_
            rintro e w7 ⟨pa7, pc7, rfl, hO7, hb7⟩
            clear HC7
            have HEQF : Hid (F7 = pileL stock store N M L (k + 1)) := by
              show _ = _
              rw [HPST.out, pileStep, if_pos hf.out, HMA.out, HLO.out, HST.out, if_neg (by omega), if_pos hmd, HF5.out, HF6.out, hF7]
            clear hF7
            have hpw5 := Lib.hid (hpw6.out.piles (k' := k + 1) hb7 hO7 (by have := HNP6.out; omega))
            have p5 := blk_free (j := 2) (blk_below HTc6.out hb7)
            have p6 := blk_cell (blk_below HTc6.out hb7) 2 rfl
            clear hb7 hO7 hnp7 p2 p3
            go_upto_region 19 with (fail)
            generalize w7.setCell ⟨T, 2, none⟩ (.slice pa7 F7.length pc7) = W5 at hpw5 ⊢
            clear p5 p6
            have HLEN : Hid (s2.stocks.length ≤ 60 ∧ s2.made.length ≤ 60) := by
              have h1 := playL_len stock store N M L k
              rw [← hs.out] at h1
              have h2 := HHn.out
              show _ ∧ _
              rw [← hs2.out]
              exact ⟨by show s.stocks.length ≤ 60; omega, by show s.made.length ≤ 60; omega⟩
            have HEQ : Hid (playL stock store N M L (k + 1) = ⟨st2 - nk, s2.stocks ++ [st2 - nk], s2.made ++ [ma], -1, s2.full⟩) := by
              show _ = _
              rw [HSTEP.out, stepP, if_pos hf.out, HMA.out, HLO.out, HST.out, if_neg (by omega), ← hs2.out]
            have HFL : Hid (s2.fails = -1) := by show _ = _; rw [← hs2.out]; exact hf.out
            obtain ⟨sl5, ml5, pl5, PT5⟩ := hpw5.out.t
            have HPT5 : Hid (PT w T s2 (k + 1) W5 sl5 ml5 pl5 F7.length (flatS F7)) := PT5
            have q0 := blk_cell PT5.1 0 rfl
            have r0 := blk_free (j := 0) PT5.1
            clear PT5
            obtain ⟨i0, hi, hz0, hz1, hz2⟩ := info_parts Tryz.info3
            go_wp2_with (at_builtin; refine wpList_append_own_at _ rfl _ _ 27 rfl (T + 1) 3 i0 (.int .i64 0) 1 8 Tryz.underlying27 hi hz0 hz1 hz2 rfl (by decide) sl5 s2.stocks.length (s2.stocks.map (Value.int .i64)) rfl (HPT5.out.2.1.alloc _) ⟨W5.heap.size, 0, none⟩ 1 1 [.int .i64 (st2 - nk)] rfl rfl ?c1 ?c2 ?c3 ?c4 ?c5 ?_)
            case c1 => exact cell_one_new _ _ _
            case c2 => intro u hu; simp at hu; subst hu; rfl
            case c3 => have := HLEN.out.1; unfold maxLen; omega
            case c4 => have := HLEN.out.1; omega
            case c5 => have := lt_of_block HPT5.out.1; rw [World.size_alloc]; omega
            intro v6 w6 hown6 hgrow6 _ hv6
            obtain ⟨g6, cap6, rfl⟩ := ownsRow_succ hown6
            obtain ⟨hpw6, hpt6, hh6⟩ := hpw5.out.push0 HPT5.out _ hown6 hgrow6 (by rw [World.size_alloc]; exact hv6)
            have z0 := hh6.trans HPT5.out.1
            have y0 := blk_cell z0 0 rfl
            have y0f := blk_free (j := 0) z0
            have HPP := Lib.hid (And.intro hpw6 hpt6)
            clear hpw6 hpt6 hh6 z0 hown6 hgrow6 hv6 q0 r0
            go_upto_region 20 with (fail)
            clear y0 y0f
            have hpw6 := HPP.out.1
            have hpt6 := HPP.out.2
            clear HPP
            generalize w6.setCell ⟨T, 0, none⟩ (.slice (some ⟨g6, 0, none⟩) (s2.stocks.length + 1) cap6) = W6 at hpw6 hpt6 ⊢
            have HPW6 := Lib.hid hpw6
            have HPT6 := Lib.hid hpt6
            have y1 := blk_cell hpt6.1 1 rfl
            have y1f := blk_free (j := 1) hpt6.1
            clear hpw6 hpt6
            go_wp2_with (at_builtin; refine wpList_append_own_at _ rfl _ _ 27 rfl (T + 1) 3 i0 (.int .i64 0) 1 8 Tryz.underlying27 hi hz0 hz1 hz2 rfl (by decide) ml5 s2.made.length (s2.made.map (Value.int .i64)) rfl (HPT6.out.2.2.1.alloc _) ⟨W6.heap.size, 0, none⟩ 1 1 [.int .i64 ma] rfl rfl (cell_one_new _ _ _) (by intro u hu; simp at hu; subst hu; rfl) (by have := HLEN.out.2; unfold maxLen; omega) (by have := HLEN.out.2; omega) (by have := lt_of_block HPT6.out.1; rw [World.size_alloc]; omega) ?_)
            intro v7 w7 hown7 hgrow7 _ hv7
            obtain ⟨g7, cap7, rfl⟩ := ownsRow_succ hown7
            obtain ⟨hpw7, hh7⟩ := HPW6.out.push1 HPT6.out _ hown7 hgrow7 (by rw [World.size_alloc]; exact hv7)
            have z1 := hh7.trans HPT6.out.1
            have y2 := blk_cell z1 1 rfl
            have y2f := blk_free (j := 1) z1
            have HPW7 := Lib.hid hpw7
            clear hpw7 hh7 z1 hown7 hgrow7 hv7 y1 y1f
            have hk1 := HLT.out
            have hk2 := HHn.out
            go_wp2
            go_roundw
            case rel => exact ⟨k + 1, ⟨st2 - nk, s2.stocks ++ [st2 - nk], s2.made ++ [ma], -1, s2.full⟩, F7, HLT.out, by have := HHn.out; have := HLT.out; go_num, HEQ.out.symm, rfl, rfl, ⟨bst4.1, by have := HB3.out.2.2.1; have := BST.out; show st2 - nk ≤ store; omega⟩, HEQF.out, ⟨HPW7.out.b, HPW7.out.hT, HPW7.out.sp, HPW7.out.rs, by have h := HPW7.out.t; rw [HFL.out] at h; exact h⟩⟩
            case measure => have := HLT.out; have := HHn.out; simp [intOf]; omega
          · go_wp2_with (fail)
            rw [wrap_small (x := lo + nk) (by have := HBL.out; have := HB3.out; omega)]
            have HC5 := drained_piles pa3 F F.length pc3 (lo + nk) W2 HF.out.1 rfl HF.out.2.2.2.1 HF.out.2.2.2.2.1 (by have := HNP.out; have := HHn.out; omega) (by have := HBL.out; have := HB3.out; omega) (pil_bd HPB.out (by have := HB3.out; omega))
            obtain ⟨F7, hF7⟩ : ∃ F7, drainS F (lo + nk) = F7 := ⟨_, rfl⟩
            have hnp5 : F7.length ≤ F.length := by rw [← hF7]; exact drainS_len _ _
            rw [hF7] at HC5
            refine HC5.mono ?_
            rintro e w5 ⟨pa5, pc5, rfl, hO5, hb5⟩
            clear HC5
            have HEQF : Hid (F7 = pileL stock store N M L (k + 1)) := by
              show _ = _
              rw [HPST.out, pileStep, if_pos hf.out, HMA.out, HLO.out, HST.out, if_neg (by omega), if_neg (show ¬ 0 < ma by omega), hF7]
            clear hF7
            have hpw5 := Lib.hid (hpw3.out.piles (k' := k + 1) hb5 hO5 (by have := HNP.out; omega))
            have p5 := blk_free (j := 2) (blk_below HTc.out hb5)
            have p6 := blk_cell (blk_below HTc.out hb5) 2 rfl
            clear hb5 hO5 hnp5 p2 p3
            go_upto_region 19 with (fail)
            generalize w5.setCell ⟨T, 2, none⟩ (.slice pa5 F7.length pc5) = W5 at hpw5 ⊢
            clear p5 p6
            have HLEN : Hid (s2.stocks.length ≤ 60 ∧ s2.made.length ≤ 60) := by
              have h1 := playL_len stock store N M L k
              rw [← hs.out] at h1
              have h2 := HHn.out
              show _ ∧ _
              rw [← hs2.out]
              exact ⟨by show s.stocks.length ≤ 60; omega, by show s.made.length ≤ 60; omega⟩
            have HEQ : Hid (playL stock store N M L (k + 1) = ⟨st2 - nk, s2.stocks ++ [st2 - nk], s2.made ++ [ma], -1, s2.full⟩) := by
              show _ = _
              rw [HSTEP.out, stepP, if_pos hf.out, HMA.out, HLO.out, HST.out, if_neg (by omega), ← hs2.out]
            have HFL : Hid (s2.fails = -1) := by show _ = _; rw [← hs2.out]; exact hf.out
            obtain ⟨sl5, ml5, pl5, PT5⟩ := hpw5.out.t
            have HPT5 : Hid (PT w T s2 (k + 1) W5 sl5 ml5 pl5 F7.length (flatS F7)) := PT5
            have q0 := blk_cell PT5.1 0 rfl
            have r0 := blk_free (j := 0) PT5.1
            clear PT5
            obtain ⟨i0, hi, hz0, hz1, hz2⟩ := info_parts Tryz.info3
            go_wp2_with (at_builtin; refine wpList_append_own_at _ rfl _ _ 27 rfl (T + 1) 3 i0 (.int .i64 0) 1 8 Tryz.underlying27 hi hz0 hz1 hz2 rfl (by decide) sl5 s2.stocks.length (s2.stocks.map (Value.int .i64)) rfl (HPT5.out.2.1.alloc _) ⟨W5.heap.size, 0, none⟩ 1 1 [.int .i64 (st2 - nk)] rfl rfl ?c1 ?c2 ?c3 ?c4 ?c5 ?_)
            case c1 => exact cell_one_new _ _ _
            case c2 => intro u hu; simp at hu; subst hu; rfl
            case c3 => have := HLEN.out.1; unfold maxLen; omega
            case c4 => have := HLEN.out.1; omega
            case c5 => have := lt_of_block HPT5.out.1; rw [World.size_alloc]; omega
            intro v6 w6 hown6 hgrow6 _ hv6
            obtain ⟨g6, cap6, rfl⟩ := ownsRow_succ hown6
            obtain ⟨hpw6, hpt6, hh6⟩ := hpw5.out.push0 HPT5.out _ hown6 hgrow6 (by rw [World.size_alloc]; exact hv6)
            have z0 := hh6.trans HPT5.out.1
            have y0 := blk_cell z0 0 rfl
            have y0f := blk_free (j := 0) z0
            have HPP := Lib.hid (And.intro hpw6 hpt6)
            clear hpw6 hpt6 hh6 z0 hown6 hgrow6 hv6 q0 r0
            go_upto_region 20 with (fail)
            clear y0 y0f
            have hpw6 := HPP.out.1
            have hpt6 := HPP.out.2
            clear HPP
            generalize w6.setCell ⟨T, 0, none⟩ (.slice (some ⟨g6, 0, none⟩) (s2.stocks.length + 1) cap6) = W6 at hpw6 hpt6 ⊢
            have HPW6 := Lib.hid hpw6
            have HPT6 := Lib.hid hpt6
            have y1 := blk_cell hpt6.1 1 rfl
            have y1f := blk_free (j := 1) hpt6.1
            clear hpw6 hpt6
            go_wp2_with (at_builtin; refine wpList_append_own_at _ rfl _ _ 27 rfl (T + 1) 3 i0 (.int .i64 0) 1 8 Tryz.underlying27 hi hz0 hz1 hz2 rfl (by decide) ml5 s2.made.length (s2.made.map (Value.int .i64)) rfl (HPT6.out.2.2.1.alloc _) ⟨W6.heap.size, 0, none⟩ 1 1 [.int .i64 ma] rfl rfl (cell_one_new _ _ _) (by intro u hu; simp at hu; subst hu; rfl) (by have := HLEN.out.2; unfold maxLen; omega) (by have := HLEN.out.2; omega) (by have := lt_of_block HPT6.out.1; rw [World.size_alloc]; omega) ?_)
            intro v7 w7 hown7 hgrow7 _ hv7
            obtain ⟨g7, cap7, rfl⟩ := ownsRow_succ hown7
            obtain ⟨hpw7, hh7⟩ := HPW6.out.push1 HPT6.out _ hown7 hgrow7 (by rw [World.size_alloc]; exact hv7)
            have z1 := hh7.trans HPT6.out.1
            have y2 := blk_cell z1 1 rfl
            have y2f := blk_free (j := 1) z1
            have HPW7 := Lib.hid hpw7
            clear hpw7 hh7 z1 hown7 hgrow7 hv7 y1 y1f
            have hk1 := HLT.out
            have hk2 := HHn.out
            go_wp2
            go_roundw
            case rel => exact ⟨k + 1, ⟨st2 - nk, s2.stocks ++ [st2 - nk], s2.made ++ [ma], -1, s2.full⟩, F7, HLT.out, by have := HHn.out; have := HLT.out; go_num, HEQ.out.symm, rfl, rfl, ⟨bst4.1, by have := HB3.out.2.2.1; have := BST.out; show st2 - nk ≤ store; omega⟩, HEQF.out, ⟨HPW7.out.b, HPW7.out.hT, HPW7.out.sp, HPW7.out.rs, by have h := HPW7.out.t; rw [HFL.out] at h; exact h⟩⟩
            case measure => have := HLT.out; have := HHn.out; simp [intOf]; omega
      · go_upto_region 11 with (fail)
        have hpw3 : Hid (PV w T (sv stock store a n cap (some ⟨bn, on, none⟩) n cn (some ⟨bm, om, none⟩) n cm (some ⟨bl, ol, none⟩) n cl) ⟨s.stock, s.stocks, s.made, s.fails, if ma < mk then (k : Int) else s.full⟩ F k W1) := by show PV _ _ _ _ _ _ _; rw [if_neg hfu]; exact hpw2.out
        clear hpw2
        generalize W1 = W2 at hpw3 ⊢
        clear hfu
        generalize hs2' : (⟨s.stock, s.stocks, s.made, s.fails, if ma < mk then (k : Int) else s.full⟩ : Ps) = s2 at hpw3
        have hs2 := Lib.hid hs2'
        clear hs2'
        go_upto_region 13 with (fail)
        generalize hst2 : s.stock + (ma - lo) = st2
        have HST := Lib.hid hst2
        have bst : 0 ≤ st2 ∧ st2 ≤ store ∧ store ≤ 1000000 := by omega
        have HBL := Lib.hid (And.intro blo (And.intro bma b1))
        clear hst2 blo bma b1 b2 b3
        by_cases hfa : st2 < nk
        · skip
          have HF : Hid (playL stock store N M L n = ⟨s2.stock, s2.stocks, s2.made, k, s2.full⟩) := by
            show _ = _
            have h1 : playL stock store N M L (k + 1) = ⟨s2.stock, s2.stocks, s2.made, k, s2.full⟩ := by
              rw [HSTEP.out, stepP, if_pos hf.out, HMA.out, HLO.out, if_pos (by rw [HST.out]; exact hfa), ← hs2.out]
            rw [← h1]
            exact playL_stop _ _ _ _ _ _ (by rw [h1]; show (k : Int) ≠ -1; omega) _ (by omega)
          have HFP : Hid (pileL stock store N M L n = F) := by
            show _ = _
            have h1 : playL stock store N M L (k + 1) = ⟨s2.stock, s2.stocks, s2.made, k, s2.full⟩ := by
              rw [HSTEP.out, stepP, if_pos hf.out, HMA.out, HLO.out, if_pos (by rw [HST.out]; exact hfa), ← hs2.out]
            rw [pileL_stop stock store N M L (k + 1) (by rw [h1]; show (k : Int) ≠ -1; omega) n (by omega), HPST.out, pileStep, if_pos hf.out, HMA.out, HLO.out, if_pos (by rw [HST.out]; exact hfa)]
          obtain ⟨W3, hW3⟩ : ∃ W3, W2.setCell ⟨T, 3, none⟩ (.int .i64 k) = W3 := ⟨_, rfl⟩
          have hpw4 : Hid (PV w T (sv stock store a n cap (some ⟨bn, on, none⟩) n cn (some ⟨bm, om, none⟩) n cm (some ⟨bl, ol, none⟩) n cl) ⟨s2.stock, s2.stocks, s2.made, k, s2.full⟩ F k W3) := by rw [← hW3]; exact hpw3.out.put 3 k ⟨rfl, rfl⟩ (.inl ⟨rfl, rfl, rfl⟩)
          have g3 := hpw3.out.free.2.1 3
          have g4 := hpw3.out.free.2.2.2
          obtain ⟨_, _, _, hT2, _⟩ := hpw3.out.t
          have t3 := blk_cell hT2 3 rfl
          clear hT2
          obtain ⟨sa, sc, ma', mc, pa2, pc, hTc, HC, HO⟩ := hpw4.out.end
          have r0 := hpw4.out.rs
          have b0 := blk_cell r0 0 rfl
          have b1 := blk_cell r0 1 rfl
          have b2 := blk_cell r0 2 rfl
          have b3 := blk_cell r0 3 rfl
          have b4 := blk_cell r0 4 rfl
          have f0 := blk_free (j := 0) r0
          have f1 := blk_free (j := 1) r0
          have f2 := blk_free (j := 2) r0
          have f3 := blk_free (j := 3) r0
          have f4 := blk_free (j := 4) r0
          have e0 := blk_cell hTc 0 rfl
          have e1 := blk_cell hTc 1 rfl
          have e2 := blk_cell hTc 2 rfl
          have e3 := blk_cell hTc 3 rfl
          have e4 := blk_cell hTc 4 rfl
          clear hTc r0
          go_wp2_with (fail)
          clear b0 b1 b2 b3 b4 f0 f1 f2 f3 f4 e0 e1 e2 e3 e4
          try rw [Exit.noGoto_ret]
          generalize (((((W3.setCell ⟨w.heap.size + 1, 0, none⟩ (.slice sa s2.stocks.length sc)).setCell ⟨w.heap.size + 1, 1, none⟩ (.slice ma' s2.made.length mc)).setCell ⟨w.heap.size + 1, 2, none⟩ (.slice pa2 F.length pc)).setCell ⟨w.heap.size + 1, 3, none⟩ (.int .i64 k)).setCell ⟨w.heap.size + 1, 4, none⟩ (.int .i64 s2.full)) = W5 at HC HO ⊢
          have q0 := blk_cell HC.out 0 rfl
          have q1 := blk_cell HC.out 1 rfl
          have q2 := blk_cell HC.out 2 rfl
          have q3 := blk_cell HC.out 3 rfl
          have q4 := blk_cell HC.out 4 rfl
          refine bodyPost_ret (v := .agg #[.slice sa s2.stocks.length sc, .slice ma' s2.made.length mc, .slice pa2 F.length pc, .int .i64 k, .int .i64 s2.full]) (by simp [results, Tryz.results120, go_sem, q0, q1, q2, q3, q4]) rfl ?_
          rw [HF.out, HFP.out]
          exact HO.out

        · have bst4 : 0 ≤ st2 - nk ∧ st2 - nk ≤ 1000000 := by have := HB3.out.2.2.1; omega
          have BST := Lib.hid bst
          obtain ⟨sl, ml, pl, hTc, hO1, hO2, hO3, hnp2, hdis⟩ := hpw3.out.t
          obtain ⟨pa3, pc3, rfl, _⟩ := flats_of_owns hO3
          have HF := Lib.hid (owns_form hO3)
          have p2 := blk_cell hTc 2 rfl
          have p3 := blk_free (j := 2) hTc
          have HNP := Lib.hid hnp2
          have HTc := Lib.hid hTc
          have hTlt := lt_of_block hTc
          have HHn := Lib.hid hn'
          clear hTc hO1 hO2 hO3 hnp2 hdis bst hn'
          by_cases hmd : 0 < ma
          · go_wp2_with (fail)
            have HC5 := drained_piles pa3 F F.length pc3 lo _ HF.out.1 rfl HF.out.2.2.2.1 HF.out.2.2.2.2.1 (by have := HNP.out; have := HHn.out; omega) (by have := HBL.out; have := HB3.out; omega) (pil_bd HPB.out (by have := HB3.out; omega))
            obtain ⟨F5, hF5⟩ : ∃ F5, drainS F lo = F5 := ⟨_, rfl⟩
            have hnp5 : F5.length ≤ F.length := by rw [← hF5]; exact drainS_len _ _
            rw [hF5] at HC5
            refine HC5.mono ?_
            rintro e w5 ⟨pa5, pc5, rfl, hO5, hb5⟩
            clear HC5
            have HF5 := Lib.hid hF5
            clear hF5
            obtain ⟨j0, hj, hjz0, hjz1, hjz2⟩ := info_parts Tryz.info85
            have HNP5 : Hid (F5.length ≤ k + 1 ∧ k + 1 ≤ 61) := by have := HNP.out; have := HHn.out; have := HLT.out; exact ⟨by omega, by omega⟩
            have HO5 := Lib.hid hO5
            have HB5 := Lib.hid hb5
            clear hO5 hb5 hnp5 p2 p3
            go_wp2_with (at_builtin; refine wpList_append_own_at _ rfl _ _ 77 rfl W2.heap.size 85 j0 (.agg #[.int .i64 0, .int .i64 0]) 2 16 Tryz.underlying77 hj hjz0 hjz1 hjz2 rfl (by decide) (.slice pa5 F5.length pc5) F5.length ((flatS F5).map (Value.int .i64)) rfl (HO5.out.alloc _) ⟨w5.heap.size, 0, none⟩ 1 1 [.int .i64 k, .int .i64 ma] rfl rfl (cell_two_new _ _ _ _) (by intro u hu; simp at hu; rcases hu with rfl | rfl <;> rfl) (by have := HNP5.out; unfold maxLen; omega) (by have := HNP5.out; omega) (by have := HB5.out.size; rw [World.size_alloc]; omega) ?_)
            intro v6 w6 hown6 hgrow6 _ hv6
            obtain ⟨g6, cap6, rfl⟩ := ownsRow_succ hown6
            have hb6 : Below W2.heap.size W2 w6 := (HB5.out.alloc HB5.out.size _).grown hgrow6 (by rw [World.size_alloc]; have := HB5.out.size; omega) (fun j hj => (HO5.out.lt j hj).1)
            have hown6' : w6.ownsRow W2.heap.size 85 2 (.slice (some ⟨g6, 0, none⟩) (F5.length + 1) cap6) (F5 ++ [(⟨k, ma⟩ : Sp)]).length ((flatS (F5 ++ [(⟨k, ma⟩ : Sp)])).map (Value.int .i64)) := by rw [flatS_append, List.length_append]; simpa [flatS_cons, show flatS [] = [] from rfl] using hown6
            have HPB6 := Lib.hid (pil_bd2 (k := (k : Int)) HPB.out (by have := HBL.out; exact ⟨this.1.1, this.1.2⟩) hmd (by have := HBL.out; have := HB3.out; omega))
            obtain ⟨F6, hF6⟩ : ∃ F6, F5 ++ [(⟨k, ma⟩ : Sp)] = F6 := ⟨_, rfl⟩
            have hF6l : F6.length = F5.length + 1 := by rw [← hF6]; simp
            rw [HF5.out, hF6] at HPB6
            rw [hF6] at hown6'
            have hpw6 := Lib.hid (hpw3.out.piles (k' := k + 1) hb6 hown6' (by have := HNP5.out; omega))
            have HF6 := Lib.hid hF6
            clear hF6 hF6l
            have t6 := blk_below HTc.out hb6
            have y6 := blk_cell t6 2 rfl
            have y6f := blk_free (j := 2) t6
            clear t6 hown6' hb6 hown6 hgrow6 hv6
            go_upto_region 17 with (fail)
            generalize w6.setCell ⟨T, 2, none⟩ (.slice (some ⟨g6, 0, none⟩) (F5.length + 1) cap6) = W6 at hpw6 ⊢
            clear y6 y6f
            obtain ⟨sl6, ml6, pl6, hTc6, _, _, hO6, hnp6, _⟩ := hpw6.out.t
            obtain ⟨pa6, pc6, rfl, _⟩ := flats_of_owns hO6
            have HG6 := Lib.hid (owns_form hO6)
            have p2 := blk_cell hTc6 2 rfl
            have p3 := blk_free (j := 2) hTc6
            have HNP6 := Lib.hid hnp6
            have HTc6 := Lib.hid hTc6
            have hTlt6 := lt_of_block hTc6
            clear hTc6 hO6 hnp6
            go_wp2_with (fail)
            have HC7 := drained_piles pa6 F6 F6.length pc6 nk W6 HG6.out.1 rfl HG6.out.2.2.2.1 HG6.out.2.2.2.2.1 (by have := HNP6.out; have := HNP5.out; omega) (by have := HB3.out; omega) HPB6.out
            obtain ⟨F7, hF7⟩ : ∃ F7, drainS F6 nk = F7 := ⟨_, rfl⟩
            have hnp7 : F7.length ≤ F6.length := by rw [← hF7]; exact drainS_len _ _
            rw [hF7] at HC7
            refine HC7.mono ?_
            rintro e w7 ⟨pa7, pc7, rfl, hO7, hb7⟩
            clear HC7
            have HEQF : Hid (F7 = pileL stock store N M L (k + 1)) := by
              show _ = _
              rw [HPST.out, pileStep, if_pos hf.out, HMA.out, HLO.out, HST.out, if_neg (by omega), if_pos hmd, HF5.out, HF6.out, hF7]
            clear hF7
            have hpw5 := Lib.hid (hpw6.out.piles (k' := k + 1) hb7 hO7 (by have := HNP6.out; omega))
            have p5 := blk_free (j := 2) (blk_below HTc6.out hb7)
            have p6 := blk_cell (blk_below HTc6.out hb7) 2 rfl
            clear hb7 hO7 hnp7 p2 p3
            go_upto_region 19 with (fail)
            generalize w7.setCell ⟨T, 2, none⟩ (.slice pa7 F7.length pc7) = W5 at hpw5 ⊢
            clear p5 p6
            have HLEN : Hid (s2.stocks.length ≤ 60 ∧ s2.made.length ≤ 60) := by
              have h1 := playL_len stock store N M L k
              rw [← hs.out] at h1
              have h2 := HHn.out
              show _ ∧ _
              rw [← hs2.out]
              exact ⟨by show s.stocks.length ≤ 60; omega, by show s.made.length ≤ 60; omega⟩
            have HEQ : Hid (playL stock store N M L (k + 1) = ⟨st2 - nk, s2.stocks ++ [st2 - nk], s2.made ++ [ma], -1, s2.full⟩) := by
              show _ = _
              rw [HSTEP.out, stepP, if_pos hf.out, HMA.out, HLO.out, HST.out, if_neg (by omega), ← hs2.out]
            have HFL : Hid (s2.fails = -1) := by show _ = _; rw [← hs2.out]; exact hf.out
            obtain ⟨sl5, ml5, pl5, PT5⟩ := hpw5.out.t
            have HPT5 : Hid (PT w T s2 (k + 1) W5 sl5 ml5 pl5 F7.length (flatS F7)) := PT5
            have q0 := blk_cell PT5.1 0 rfl
            have r0 := blk_free (j := 0) PT5.1
            clear PT5
            obtain ⟨i0, hi, hz0, hz1, hz2⟩ := info_parts Tryz.info3
            go_wp2_with (at_builtin; refine wpList_append_own_at _ rfl _ _ 27 rfl (T + 1) 3 i0 (.int .i64 0) 1 8 Tryz.underlying27 hi hz0 hz1 hz2 rfl (by decide) sl5 s2.stocks.length (s2.stocks.map (Value.int .i64)) rfl (HPT5.out.2.1.alloc _) ⟨W5.heap.size, 0, none⟩ 1 1 [.int .i64 (st2 - nk)] rfl rfl ?c1 ?c2 ?c3 ?c4 ?c5 ?_)
            case c1 => exact cell_one_new _ _ _
            case c2 => intro u hu; simp at hu; subst hu; rfl
            case c3 => have := HLEN.out.1; unfold maxLen; omega
            case c4 => have := HLEN.out.1; omega
            case c5 => have := lt_of_block HPT5.out.1; rw [World.size_alloc]; omega
            intro v6 w6 hown6 hgrow6 _ hv6
            obtain ⟨g6, cap6, rfl⟩ := ownsRow_succ hown6
            obtain ⟨hpw6, hpt6, hh6⟩ := hpw5.out.push0 HPT5.out _ hown6 hgrow6 (by rw [World.size_alloc]; exact hv6)
            have z0 := hh6.trans HPT5.out.1
            have y0 := blk_cell z0 0 rfl
            have y0f := blk_free (j := 0) z0
            have HPP := Lib.hid (And.intro hpw6 hpt6)
            clear hpw6 hpt6 hh6 z0 hown6 hgrow6 hv6 q0 r0
            go_upto_region 20 with (fail)
            clear y0 y0f
            have hpw6 := HPP.out.1
            have hpt6 := HPP.out.2
            clear HPP
            generalize w6.setCell ⟨T, 0, none⟩ (.slice (some ⟨g6, 0, none⟩) (s2.stocks.length + 1) cap6) = W6 at hpw6 hpt6 ⊢
            have HPW6 := Lib.hid hpw6
            have HPT6 := Lib.hid hpt6
            have y1 := blk_cell hpt6.1 1 rfl
            have y1f := blk_free (j := 1) hpt6.1
            clear hpw6 hpt6
            go_wp2_with (at_builtin; refine wpList_append_own_at _ rfl _ _ 27 rfl (T + 1) 3 i0 (.int .i64 0) 1 8 Tryz.underlying27 hi hz0 hz1 hz2 rfl (by decide) ml5 s2.made.length (s2.made.map (Value.int .i64)) rfl (HPT6.out.2.2.1.alloc _) ⟨W6.heap.size, 0, none⟩ 1 1 [.int .i64 ma] rfl rfl (cell_one_new _ _ _) (by intro u hu; simp at hu; subst hu; rfl) (by have := HLEN.out.2; unfold maxLen; omega) (by have := HLEN.out.2; omega) (by have := lt_of_block HPT6.out.1; rw [World.size_alloc]; omega) ?_)
            intro v7 w7 hown7 hgrow7 _ hv7
            obtain ⟨g7, cap7, rfl⟩ := ownsRow_succ hown7
            obtain ⟨hpw7, hh7⟩ := HPW6.out.push1 HPT6.out _ hown7 hgrow7 (by rw [World.size_alloc]; exact hv7)
            have z1 := hh7.trans HPT6.out.1
            have y2 := blk_cell z1 1 rfl
            have y2f := blk_free (j := 1) z1
            have HPW7 := Lib.hid hpw7
            clear hpw7 hh7 z1 hown7 hgrow7 hv7 y1 y1f
            have hk1 := HLT.out
            have hk2 := HHn.out
            go_wp2
            go_roundw
            case rel => exact ⟨k + 1, ⟨st2 - nk, s2.stocks ++ [st2 - nk], s2.made ++ [ma], -1, s2.full⟩, F7, HLT.out, by have := HHn.out; have := HLT.out; go_num, HEQ.out.symm, rfl, rfl, ⟨bst4.1, by have := HB3.out.2.2.1; have := BST.out; show st2 - nk ≤ store; omega⟩, HEQF.out, ⟨HPW7.out.b, HPW7.out.hT, HPW7.out.sp, HPW7.out.rs, by have h := HPW7.out.t; rw [HFL.out] at h; exact h⟩⟩
            case measure => have := HLT.out; have := HHn.out; simp [intOf]; omega
          · go_wp2_with (fail)
            rw [wrap_small (x := lo + nk) (by have := HBL.out; have := HB3.out; omega)]
            have HC5 := drained_piles pa3 F F.length pc3 (lo + nk) W2 HF.out.1 rfl HF.out.2.2.2.1 HF.out.2.2.2.2.1 (by have := HNP.out; have := HHn.out; omega) (by have := HBL.out; have := HB3.out; omega) (pil_bd HPB.out (by have := HB3.out; omega))
            obtain ⟨F7, hF7⟩ : ∃ F7, drainS F (lo + nk) = F7 := ⟨_, rfl⟩
            have hnp5 : F7.length ≤ F.length := by rw [← hF7]; exact drainS_len _ _
            rw [hF7] at HC5
            refine HC5.mono ?_
            rintro e w5 ⟨pa5, pc5, rfl, hO5, hb5⟩
            clear HC5
            have HEQF : Hid (F7 = pileL stock store N M L (k + 1)) := by
              show _ = _
              rw [HPST.out, pileStep, if_pos hf.out, HMA.out, HLO.out, HST.out, if_neg (by omega), if_neg (show ¬ 0 < ma by omega), hF7]
            clear hF7
            have hpw5 := Lib.hid (hpw3.out.piles (k' := k + 1) hb5 hO5 (by have := HNP.out; omega))
            have p5 := blk_free (j := 2) (blk_below HTc.out hb5)
            have p6 := blk_cell (blk_below HTc.out hb5) 2 rfl
            clear hb5 hO5 hnp5 p2 p3
            go_upto_region 19 with (fail)
            generalize w5.setCell ⟨T, 2, none⟩ (.slice pa5 F7.length pc5) = W5 at hpw5 ⊢
            clear p5 p6
            have HLEN : Hid (s2.stocks.length ≤ 60 ∧ s2.made.length ≤ 60) := by
              have h1 := playL_len stock store N M L k
              rw [← hs.out] at h1
              have h2 := HHn.out
              show _ ∧ _
              rw [← hs2.out]
              exact ⟨by show s.stocks.length ≤ 60; omega, by show s.made.length ≤ 60; omega⟩
            have HEQ : Hid (playL stock store N M L (k + 1) = ⟨st2 - nk, s2.stocks ++ [st2 - nk], s2.made ++ [ma], -1, s2.full⟩) := by
              show _ = _
              rw [HSTEP.out, stepP, if_pos hf.out, HMA.out, HLO.out, HST.out, if_neg (by omega), ← hs2.out]
            have HFL : Hid (s2.fails = -1) := by show _ = _; rw [← hs2.out]; exact hf.out
            obtain ⟨sl5, ml5, pl5, PT5⟩ := hpw5.out.t
            have HPT5 : Hid (PT w T s2 (k + 1) W5 sl5 ml5 pl5 F7.length (flatS F7)) := PT5
            have q0 := blk_cell PT5.1 0 rfl
            have r0 := blk_free (j := 0) PT5.1
            clear PT5
            obtain ⟨i0, hi, hz0, hz1, hz2⟩ := info_parts Tryz.info3
            go_wp2_with (at_builtin; refine wpList_append_own_at _ rfl _ _ 27 rfl (T + 1) 3 i0 (.int .i64 0) 1 8 Tryz.underlying27 hi hz0 hz1 hz2 rfl (by decide) sl5 s2.stocks.length (s2.stocks.map (Value.int .i64)) rfl (HPT5.out.2.1.alloc _) ⟨W5.heap.size, 0, none⟩ 1 1 [.int .i64 (st2 - nk)] rfl rfl ?c1 ?c2 ?c3 ?c4 ?c5 ?_)
            case c1 => exact cell_one_new _ _ _
            case c2 => intro u hu; simp at hu; subst hu; rfl
            case c3 => have := HLEN.out.1; unfold maxLen; omega
            case c4 => have := HLEN.out.1; omega
            case c5 => have := lt_of_block HPT5.out.1; rw [World.size_alloc]; omega
            intro v6 w6 hown6 hgrow6 _ hv6
            obtain ⟨g6, cap6, rfl⟩ := ownsRow_succ hown6
            obtain ⟨hpw6, hpt6, hh6⟩ := hpw5.out.push0 HPT5.out _ hown6 hgrow6 (by rw [World.size_alloc]; exact hv6)
            have z0 := hh6.trans HPT5.out.1
            have y0 := blk_cell z0 0 rfl
            have y0f := blk_free (j := 0) z0
            have HPP := Lib.hid (And.intro hpw6 hpt6)
            clear hpw6 hpt6 hh6 z0 hown6 hgrow6 hv6 q0 r0
            go_upto_region 20 with (fail)
            clear y0 y0f
            have hpw6 := HPP.out.1
            have hpt6 := HPP.out.2
            clear HPP
            generalize w6.setCell ⟨T, 0, none⟩ (.slice (some ⟨g6, 0, none⟩) (s2.stocks.length + 1) cap6) = W6 at hpw6 hpt6 ⊢
            have HPW6 := Lib.hid hpw6
            have HPT6 := Lib.hid hpt6
            have y1 := blk_cell hpt6.1 1 rfl
            have y1f := blk_free (j := 1) hpt6.1
            clear hpw6 hpt6
            go_wp2_with (at_builtin; refine wpList_append_own_at _ rfl _ _ 27 rfl (T + 1) 3 i0 (.int .i64 0) 1 8 Tryz.underlying27 hi hz0 hz1 hz2 rfl (by decide) ml5 s2.made.length (s2.made.map (Value.int .i64)) rfl (HPT6.out.2.2.1.alloc _) ⟨W6.heap.size, 0, none⟩ 1 1 [.int .i64 ma] rfl rfl (cell_one_new _ _ _) (by intro u hu; simp at hu; subst hu; rfl) (by have := HLEN.out.2; unfold maxLen; omega) (by have := HLEN.out.2; omega) (by have := lt_of_block HPT6.out.1; rw [World.size_alloc]; omega) ?_)
            intro v7 w7 hown7 hgrow7 _ hv7
            obtain ⟨g7, cap7, rfl⟩ := ownsRow_succ hown7
            obtain ⟨hpw7, hh7⟩ := HPW6.out.push1 HPT6.out _ hown7 hgrow7 (by rw [World.size_alloc]; exact hv7)
            have z1 := hh7.trans HPT6.out.1
            have y2 := blk_cell z1 1 rfl
            have y2f := blk_free (j := 1) z1
            have HPW7 := Lib.hid hpw7
            clear hpw7 hh7 z1 hown7 hgrow7 hv7 y1 y1f
            have hk1 := HLT.out
            have hk2 := HHn.out
            go_wp2
            go_roundw
            case rel => exact ⟨k + 1, ⟨st2 - nk, s2.stocks ++ [st2 - nk], s2.made ++ [ma], -1, s2.full⟩, F7, HLT.out, by have := HHn.out; have := HLT.out; go_num, HEQ.out.symm, rfl, rfl, ⟨bst4.1, by have := HB3.out.2.2.1; have := BST.out; show st2 - nk ≤ store; omega⟩, HEQF.out, ⟨HPW7.out.b, HPW7.out.hT, HPW7.out.sp, HPW7.out.rs, by have h := HPW7.out.t; rw [HFL.out] at h; exact h⟩⟩
            case measure => have := HLT.out; have := HHn.out; simp [intOf]; omega
    · have : k = n := by omega
      subst this
      clear hlt
      obtain ⟨sa, sc, ma, mc, pa2, pc, hTc, HC, HO⟩ := hpw.out.end
      have r0 := hpw.out.rs
      have b0 := blk_cell r0 0 rfl
      have b1 := blk_cell r0 1 rfl
      have b2 := blk_cell r0 2 rfl
      have b3 := blk_cell r0 3 rfl
      have b4 := blk_cell r0 4 rfl
      have f0 := blk_free (j := 0) r0
      have f1 := blk_free (j := 1) r0
      have f2 := blk_free (j := 2) r0
      have f3 := blk_free (j := 3) r0
      have f4 := blk_free (j := 4) r0
      have e0 := blk_cell hTc 0 rfl
      have e1 := blk_cell hTc 1 rfl
      have e2 := blk_cell hTc 2 rfl
      have e3 := blk_cell hTc 3 rfl
      have e4 := blk_cell hTc 4 rfl
      clear hTc r0
      go_wp2_with (fail)
      clear b0 b1 b2 b3 b4 f0 f1 f2 f3 f4 e0 e1 e2 e3 e4
      try rw [Exit.noGoto_ret]
      generalize (((((wr.setCell ⟨w.heap.size + 1, 0, none⟩ (.slice sa s.stocks.length sc)).setCell ⟨w.heap.size + 1, 1, none⟩ (.slice ma s.made.length mc)).setCell ⟨w.heap.size + 1, 2, none⟩ (.slice pa2 F.length pc)).setCell ⟨w.heap.size + 1, 3, none⟩ (.int .i64 s.fails)).setCell ⟨w.heap.size + 1, 4, none⟩ (.int .i64 s.full)) = W5 at HC HO ⊢
      have q0 := blk_cell HC.out 0 rfl
      have q1 := blk_cell HC.out 1 rfl
      have q2 := blk_cell HC.out 2 rfl
      have q3 := blk_cell HC.out 3 rfl
      have q4 := blk_cell HC.out 4 rfl
      refine bodyPost_ret (v := .agg #[.slice sa s.stocks.length sc, .slice ma s.made.length mc, .slice pa2 F.length pc, .int .i64 s.fails, .int .i64 s.full]) (by simp [results, Tryz.results120, go_sem, q0, q1, q2, q3, q4]) rfl ?_
      rw [← hs.out, ← hF.out]
      exact HO.out

end Go.Proofs.YtmebmcipmemofaaGreat

namespace Go.Proofs.YtmebmcipmemofaaGreat
open Go.RowKit Go.Shelf
attribute [local go_sem] Oper.semAt_some

/-- What told hands back, with the piles. -/
def OutToldP (w : World) (x : Ps) (F : List Sp) (e : Ending) (w' : World) : Prop := ∃ sa sc ma mc pa pc, e = .returned (.tuple #[.agg #[.slice sa x.stocks.length sc, .slice ma x.made.length mc, .slice pa F.length pc, .int .i64 x.fails, .int .i64 x.full], .int .i64 0]) ∧ (IntSl w' sa x.stocks ∧ ∀ p, sa = some p → w.heap.size ≤ p.block) ∧ (IntSl w' ma x.made ∧ ∀ p, ma = some p → w.heap.size ≤ p.block) ∧ (IntSl w' pa (flatS F) ∧ ∀ p, pa = some p → w.heap.size ≤ p.block) ∧ Below w.heap.size w w'
theorem eq106 (a b c d : Int) (w : World) : (Op.equalIn 10000 85 (.agg #[.int .i64 a, .int .i64 b]) (.agg #[.int .i64 c, .int .i64 d])).run Tryz.prog w = .ok (decide (a = c) && decide (b = d)) w := by
  rw [Op.equalIn]
  simp [go_sem]
  by_cases h1 : a = c <;> by_cases h2 : b = d <;> simp [h1, h2]
theorem eq106' (x y : Sp) (bb : Bool) (h : (decide (x.lo = y.lo) && decide (x.hi = y.hi)) = bb) (w : World) : (Op.equalIn 10000 85 (.agg #[.int .i64 x.lo, .int .i64 x.hi]) (.agg #[.int .i64 y.lo, .int .i64 y.hi])).run Tryz.prog w = .ok bb w := by
  rw [← h]; exact eq106 _ _ _ _ w

set_option maxRecDepth 100000 in
set_option maxHeartbeats 2000000 in
theorem told_piles (stock store : Int) (a : Option Addr) (ds : List Dy) (cap : Nat) (an : Option Addr) (N : List Int) (cn : Nat) (am : Option Addr) (M : List Int) (cm : Nat) (al : Option Addr) (L : List Int) (cl : Nat) (w : World)
    (hx : Sl 6 Dy.cells w a ds) (hN : IntSl w an N) (hM : IntSl w am M) (hL : IntSl w al L) (hw : winE stock store ds = 0) (hs : Sky ds N M L) :
    Calls Tryz.prog 94 #[wv stock store a ds.length cap, tv an ds.length cn am ds.length cm al ds.length cl] w (OutToldP w (playL stock store N M L ds.length) (pileL stock store N M L ds.length)) := by
  have HX := Lib.hid (And.intro hx (And.intro hN (And.intro hM (And.intro hL (And.intro hw hs)))))
  obtain ⟨b1, b2, b3⟩ := win_ok hw
  have HOK := Lib.hid (And.intro b1 (And.intro b2 b3))
  clear hx hN hM hL hw hs b1 b2 b3
  generalize hS : playL stock store N M L ds.length = s
  have HS := Lib.hid hS
  clear hS
  generalize hG : pileL stock store N M L ds.length = F
  have HG := Lib.hid hG
  clear hG
  obtain ⟨Wa, hWa⟩ : ∃ Wa, ((w.alloc (.cells #[.int .i64 stock, .int .i64 store, .slice a ds.length cap] 56)).alloc (.cells #[.slice an ds.length cn, .slice am ds.length cm, .slice al ds.length cl] 58)).alloc (.cells #[.slice none 0 0, .slice none 0 0, .slice none 0 0, .int .i64 0, .int .i64 0] 163) = Wa := ⟨_, rfl⟩
  have hba : Below w.heap.size w Wa := by rw [← hWa]; exact (((Below.refl _ _).alloc (Nat.le_refl _) _).alloc (by simp) _).alloc (by simp; omega) _
  have h0 : Wa.heap[w.heap.size]? = some (.cells #[.int .i64 stock, .int .i64 store, .slice a ds.length cap] 56 (0, 0)) := by rw [← hWa]; exact alk (alk (new_at rfl))
  have h1 : Wa.heap[w.heap.size + 1]? = some (.cells #[.slice an ds.length cn, .slice am ds.length cm, .slice al ds.length cl] 58 (0, 0)) := by rw [← hWa]; exact alk (new_at (by simp))
  have h2 : Wa.heap[w.heap.size + 1 + 1]? = some (.cells #[.slice none 0 0, .slice none 0 0, .slice none 0 0, .int .i64 0, .int .i64 0] 163 (0, 0)) := by rw [← hWa]; exact new_at (by simp)
  have a0 := blk_cell h0 0 rfl
  have a1 := blk_cell h0 1 rfl
  have a2 := blk_cell h0 2 rfl
  have HW0 := Lib.hid (And.intro hba (And.intro h0 (And.intro h1 h2)))
  clear hba h0 h1 h2
  go_enter Tryz.func94, Tryz.ntmps94
  go_wp2_with (fail)
  clear hWa a0 a1 a2
  refine (checkWinter_any stock store a ds cap _ (HX.out.1.below HW0.out.1) (by have := HOK.out.2.1.2; omega)).mono ?_
  rintro e w1 ⟨rfl, hb1⟩
  rw [HX.out.2.2.2.2.1]
  have H1 := Lib.hid (And.intro (below_self HW0.out.1 hb1) (And.intro (blk_below HW0.out.2.1 hb1) (And.intro (blk_below HW0.out.2.2.1 hb1) (blk_below HW0.out.2.2.2 hb1))))
  clear hb1
  have a0 := blk_cell H1.out.2.1 0 rfl
  have a1 := blk_cell H1.out.2.1 1 rfl
  have a2 := blk_cell H1.out.2.1 2 rfl
  have a3 := blk_cell H1.out.2.2.1 0 rfl
  have a4 := blk_cell H1.out.2.2.1 1 rfl
  have a5 := blk_cell H1.out.2.2.1 2 rfl
  go_wp2_with (fail)
  clear a0 a1 a2 a3 a4 a5
  have HC := checkWeather_any stock store a ds cap an N cn am M cm al L cl w1 (HX.out.1.below H1.out.1) HOK.out.2.1.2 (HX.out.2.1.below H1.out.1) (HX.out.2.2.1.below H1.out.1) (HX.out.2.2.2.1.below H1.out.1) HX.out.2.2.2.2.2
  rw [HX.out.2.2.2.2.2.1.1, HX.out.2.2.2.2.2.1.2.1, HX.out.2.2.2.2.2.1.2.2] at HC
  refine HC.mono ?_
  rintro e w2 ⟨rfl, hb2⟩
  have H2 := Lib.hid (And.intro (below_self H1.out.1 hb2) (And.intro (blk_below H1.out.2.1 hb2) (And.intro (blk_below H1.out.2.2.1 hb2) (blk_below H1.out.2.2.2 hb2))))
  clear hb2 HC
  have a0 := blk_cell H2.out.2.1 0 rfl
  have a1 := blk_cell H2.out.2.1 1 rfl
  have a2 := blk_cell H2.out.2.1 2 rfl
  have a3 := blk_cell H2.out.2.2.1 0 rfl
  have a4 := blk_cell H2.out.2.2.1 1 rfl
  have a5 := blk_cell H2.out.2.2.1 2 rfl
  have y0 := blk_free (j := 0) H2.out.2.2.2
  have y1 := blk_free (j := 1) H2.out.2.2.2
  have y2 := blk_free (j := 2) H2.out.2.2.2
  have y3 := blk_free (j := 3) H2.out.2.2.2
  have y4 := blk_free (j := 4) H2.out.2.2.2
  go_wp2_with (fail)
  have HC := play_piles stock store a ds.length cap an N cn am M cm al L cl w2 (HX.out.2.1.below H2.out.1) (HX.out.2.2.1.below H2.out.1) (HX.out.2.2.2.1.below H2.out.1) HX.out.2.2.2.2.2.1.1 HX.out.2.2.2.2.2.1.2.1 HX.out.2.2.2.2.2.1.2.2 HOK.out.2.1.2 ⟨HOK.out.1.1, HOK.out.1.2.1, HOK.out.1.2.2.2⟩ (HX.out.2.2.2.2.2.bd HOK.out.2.2)
  rw [HS.out, HG.out] at HC
  refine HC.mono ?_
  rintro e w3 ⟨sa, sc, ma, mc, pa, pc, rfl, hs, hm, hp, hb3⟩
  have H3 := Lib.hid (And.intro (below_self H2.out.1 hb3) (And.intro (blk_below H2.out.2.2.2 hb3) (And.intro hs (And.intro hm (And.intro hp (lt_of_block H2.out.2.2.2))))))
  clear HC hb3 hs hm hp a0 a1 a2 a3 a4 a5 y0 y1 y2 y3 y4
  have z0 := blk_cell H3.out.2.1 0 rfl
  have z1 := blk_cell H3.out.2.1 1 rfl
  have z2 := blk_cell H3.out.2.1 2 rfl
  have z3 := blk_cell H3.out.2.1 3 rfl
  have z4 := blk_cell H3.out.2.1 4 rfl
  have y0 := blk_free (j := 0) H3.out.2.1
  have y1 := blk_free (j := 1) H3.out.2.1
  have y2 := blk_free (j := 2) H3.out.2.1
  have y3 := blk_free (j := 3) H3.out.2.1
  have y4 := blk_free (j := 4) H3.out.2.1
  go_wp2_with (fail)
  obtain ⟨p1, p2, p3, p4⟩ := five_put (v0 := .slice sa s.stocks.length sc) (v1 := .slice ma s.made.length mc) (v2 := .slice pa F.length pc) (v3 := .int .i64 s.fails) (v4 := .int .i64 s.full) H3.out.2.1 (show w.heap.size ≤ w.heap.size + 1 + 1 by omega) H3.out.1
  have q0 := blk_cell p2 0 rfl
  have q1 := blk_cell p2 1 rfl
  have q2 := blk_cell p2 2 rfl
  have q3 := blk_cell p2 3 rfl
  have q4 := blk_cell p2 4 rfl
  refine bodyPost_ret (v := .tuple #[.agg #[.slice sa s.stocks.length sc, .slice ma s.made.length mc, .slice pa F.length pc, .int .i64 s.fails, .int .i64 s.full], .int .i64 0]) (by simp [results, Tryz.results94, go_sem, q0, q1, q2, q3, q4]) rfl ?_
  have hlt := H3.out.2.2.2.2.2
  exact ⟨sa, sc, ma, mc, pa, pc, rfl, ⟨ints_put H3.out.2.2.1.1 (Below.refl _ _) p3 p4 (fun p hp => by have := H3.out.2.2.1.2 p hp; omega), fun p hp => by have := H3.out.2.2.1.2 p hp; have := H2.out.1.size; omega⟩, ⟨ints_put H3.out.2.2.2.1.1 (Below.refl _ _) p3 p4 (fun p hp => by have := H3.out.2.2.2.1.2 p hp; omega), fun p hp => by have := H3.out.2.2.2.1.2 p hp; have := H2.out.1.size; omega⟩, ⟨ints_put H3.out.2.2.2.2.1.1 (Below.refl _ _) p3 p4 (fun p hp => by have := H3.out.2.2.2.2.1.2 p hp; omega), fun p hp => by have := H3.out.2.2.2.2.1.2 p hp; have := H2.out.1.size; omega⟩, p1⟩

section
variable (stock store : Int) (a : Option Addr) (ds : List Dy) (cap : Nat) (an : Option Addr) (N : List Int) (cn : Nat) (am : Option Addr) (M : List Int) (cm : Nat) (al : Option Addr) (L : List Int) (cl : Nat) (w : World)
  (hx : Sl 6 Dy.cells w a ds) (hN : IntSl w an N) (hM : IntSl w am M) (hL : IntSl w al L) (hw : winE stock store ds = 0) (hs : Sky ds N M L)
include hx hN hM hL hw hs

set_option maxRecDepth 100000 in
set_option maxHeartbeats 600000 in
theorem Piles_any : Calls Tryz.prog 38 #[wv stock store a ds.length cap, tv an ds.length cn am ds.length cm al ds.length cl] w fun e w' => ∃ b c, e = .returned (.tuple #[.slice b (pileL stock store N M L ds.length).length c, .int .i64 0]) ∧ (Sl 2 Sp.cells w' b (pileL stock store N M L ds.length) ∧ ∀ p, b = some p → w.heap.size ≤ p.block) ∧ Below w.heap.size w w' := by
  have HX := Lib.hid (And.intro hx (And.intro hN (And.intro hM (And.intro hL (And.intro hw hs)))))
  clear hx hN hM hL hw hs
  generalize hS : playL stock store N M L ds.length = s
  have HS := Lib.hid hS
  clear hS
  generalize hG : pileL stock store N M L ds.length = F
  have HG := Lib.hid hG
  clear hG
  obtain ⟨Wa, hWa⟩ : ∃ Wa, (w.alloc (.cells #[.int .i64 stock, .int .i64 store, .slice a ds.length cap] 56)).alloc (.cells #[.slice an ds.length cn, .slice am ds.length cm, .slice al ds.length cl] 58) = Wa := ⟨_, rfl⟩
  have hba : Below w.heap.size w Wa := by rw [← hWa]; exact ((Below.refl _ _).alloc (Nat.le_refl _) _).alloc (by simp) _
  have h0 : Wa.heap[w.heap.size]? = some (.cells #[.int .i64 stock, .int .i64 store, .slice a ds.length cap] 56 (0, 0)) := by rw [← hWa]; exact alk (new_at rfl)
  have h1 : Wa.heap[w.heap.size + 1]? = some (.cells #[.slice an ds.length cn, .slice am ds.length cm, .slice al ds.length cl] 58 (0, 0)) := by rw [← hWa]; exact new_at (by simp)
  have a0 := blk_cell h0 0 rfl
  have a1 := blk_cell h0 1 rfl
  have a2 := blk_cell h0 2 rfl
  have a3 := blk_cell h1 0 rfl
  have a4 := blk_cell h1 1 rfl
  have a5 := blk_cell h1 2 rfl
  have HB := Lib.hid hba
  clear hba h0 h1
  go_enter Tryz.func38, Tryz.ntmps38
  go_wp2_with (fail)
  clear hWa a0 a1 a2 a3 a4 a5
  have HC := told_piles stock store a ds cap an N cn am M cm al L cl Wa (HX.out.1.below HB.out) (HX.out.2.1.below HB.out) (HX.out.2.2.1.below HB.out) (HX.out.2.2.2.1.below HB.out) HX.out.2.2.2.2.1 HX.out.2.2.2.2.2
  rw [HS.out, HG.out] at HC
  refine HC.mono ?_
  rintro e w1 ⟨sa, sc, ma, mc, pa, pc, rfl, hs, hm, hp, hb1⟩
  have H1 := Lib.hid (And.intro (below_self HB.out hb1) (And.intro hs (And.intro hm hp)))
  clear HC hb1 hs hm hp
  go_wp2_with (fail)
  go_ret2
  exact ⟨pa, pc, rfl, ⟨(sl_of_flat H1.out.2.2.2.1).below ((Below.refl _ _).alloc (Nat.le_refl _) _), fun p hp => by have := H1.out.2.2.2.2 p hp; have := HB.out.size; omega⟩, H1.out.1.alloc H1.out.1.size _⟩

end
end Go.Proofs.YtmebmcipmemofaaGreat

namespace Go.Proofs.YtmebmcipmemofaaGreat
open Go.RowKit Go.Shelf
attribute [local go_sem] Oper.semAt_some

def wthE (stock store : Int) (ds : List Dy) (N M L : List Int) : Int := if winE stock store ds = 0 then skyE ds N M L else winE stock store ds
theorem wth_ok {stock store : Int} {ds : List Dy} {N M L : List Int} (h : wthE stock store ds N M L = 0) : winE stock store ds = 0 ∧ Sky ds N M L := by
  unfold wthE at h
  by_cases h0 : winE stock store ds = 0
  · rw [if_pos h0, skyE] at h
    refine ⟨h0, ?_⟩
    by_cases h1 : ([N.length, M.length, L.length].all fun l => decide (l = ds.length)) = true
    · rw [if_pos h1] at h
      by_cases h2 : ((List.range ds.length).all (skyB ds N M L)) = true
      · have h1' : N.length = ds.length ∧ M.length = ds.length ∧ L.length = ds.length := by simpa using h1
        refine ⟨h1', fun k d hk => ?_⟩
        have hlt := (List.getElem?_eq_some_iff.1 hk).1
        have h3 := List.all_eq_true.1 h2 k (List.mem_range.2 hlt)
        rw [skyB, hk] at h3
        simp only [Bool.and_eq_true] at h3
        exact ⟨inside_ok h3.1, inside_ok h3.2.1, inside_ok h3.2.2⟩
      · rw [if_neg h2] at h; exact absurd h (by decide)
    · rw [if_neg h1] at h; exact absurd h (by decide)
  · rw [if_neg h0] at h; exact absurd h h0

set_option maxRecDepth 100000 in
set_option maxHeartbeats 2000000 in
theorem told_bad (stock store : Int) (a : Option Addr) (ds : List Dy) (cap : Nat) (an : Option Addr) (N : List Int) (cn : Nat) (am : Option Addr) (M : List Int) (cm : Nat) (al : Option Addr) (L : List Int) (cl : Nat) (w : World)
    (hx : Sl 6 Dy.cells w a ds) (hl : ds.length ≤ 1000000) (hN : IntSl w an N) (hM : IntSl w am M) (hL : IntSl w al L) (hz : wthE stock store ds N M L ≠ 0) :
    Calls Tryz.prog 94 #[wv stock store a ds.length cap, tv an N.length cn am M.length cm al L.length cl] w fun e w' => e = .returned (.tuple #[.agg #[.slice none 0 0, .slice none 0 0, .slice none 0 0, .int .i64 0, .int .i64 0], .int .i64 (wthE stock store ds N M L)]) ∧ Below w.heap.size w w' := by
  have HX := Lib.hid (And.intro hx (And.intro hN (And.intro hM hL)))
  have HZ := Lib.hid hz
  clear hx hN hM hL hz
  obtain ⟨Wa, hWa⟩ : ∃ Wa, ((w.alloc (.cells #[.int .i64 stock, .int .i64 store, .slice a ds.length cap] 56)).alloc (.cells #[.slice an N.length cn, .slice am M.length cm, .slice al L.length cl] 58)).alloc (.cells #[.slice none 0 0, .slice none 0 0, .slice none 0 0, .int .i64 0, .int .i64 0] 163) = Wa := ⟨_, rfl⟩
  have hba : Below w.heap.size w Wa := by rw [← hWa]; exact (((Below.refl _ _).alloc (Nat.le_refl _) _).alloc (by simp) _).alloc (by simp; omega) _
  have h0 : Wa.heap[w.heap.size]? = some (.cells #[.int .i64 stock, .int .i64 store, .slice a ds.length cap] 56 (0, 0)) := by rw [← hWa]; exact alk (alk (new_at rfl))
  have h1 : Wa.heap[w.heap.size + 1]? = some (.cells #[.slice an N.length cn, .slice am M.length cm, .slice al L.length cl] 58 (0, 0)) := by rw [← hWa]; exact alk (new_at (by simp))
  have h2 : Wa.heap[w.heap.size + 1 + 1]? = some (.cells #[.slice none 0 0, .slice none 0 0, .slice none 0 0, .int .i64 0, .int .i64 0] 163 (0, 0)) := by rw [← hWa]; exact new_at (by simp)
  have a0 := blk_cell h0 0 rfl
  have a1 := blk_cell h0 1 rfl
  have a2 := blk_cell h0 2 rfl
  have HW0 := Lib.hid (And.intro hba (And.intro h0 (And.intro h1 h2)))
  clear hba h0 h1 h2
  go_enter Tryz.func94, Tryz.ntmps94
  go_wp2_with (fail)
  clear hWa a0 a1 a2
  refine (checkWinter_any stock store a ds cap _ (HX.out.1.below HW0.out.1) hl).mono ?_
  rintro e w1 ⟨rfl, hb1⟩
  have H1 := Lib.hid (And.intro (below_self HW0.out.1 hb1) (And.intro (blk_below HW0.out.2.1 hb1) (And.intro (blk_below HW0.out.2.2.1 hb1) (blk_below HW0.out.2.2.2 hb1))))
  clear hb1
  by_cases hwe : winE stock store ds = 0
  · have HR : Hid (wthE stock store ds N M L = skyE ds N M L) := by show _ = _; rw [wthE, if_pos hwe]
    rw [hwe]
    clear hwe
    have a0 := blk_cell H1.out.2.1 0 rfl
    have a1 := blk_cell H1.out.2.1 1 rfl
    have a2 := blk_cell H1.out.2.1 2 rfl
    have a3 := blk_cell H1.out.2.2.1 0 rfl
    have a4 := blk_cell H1.out.2.2.1 1 rfl
    have a5 := blk_cell H1.out.2.2.1 2 rfl
    go_wp2_with (fail)
    clear a0 a1 a2 a3 a4 a5
    refine (checkWeather_all stock store a ds cap an N cn am M cm al L cl w1 (HX.out.1.below H1.out.1) hl (HX.out.2.1.below H1.out.1) (HX.out.2.2.1.below H1.out.1) (HX.out.2.2.2.below H1.out.1)).mono ?_
    rintro e w2 ⟨rfl, hb2⟩
    have H2 := Lib.hid (And.intro (below_self H1.out.1 hb2) (blk_below H1.out.2.2.2 hb2))
    clear hb2
    have hne : (skyE ds N M L != 0) = true := by
      have := HZ.out; rw [HR.out] at this; simpa using this
    have z0 := blk_cell H2.out.2 0 rfl
    have z1 := blk_cell H2.out.2 1 rfl
    have z2 := blk_cell H2.out.2 2 rfl
    have z3 := blk_cell H2.out.2 3 rfl
    have z4 := blk_cell H2.out.2 4 rfl
    have y0 := blk_free (j := 0) H2.out.2
    have y1 := blk_free (j := 1) H2.out.2
    have y2 := blk_free (j := 2) H2.out.2
    have y3 := blk_free (j := 3) H2.out.2
    have y4 := blk_free (j := 4) H2.out.2
    go_wp2_with (fail)
    obtain ⟨p1, p2, p3, p4⟩ := five_put (v0 := .slice none 0 0) (v1 := .slice none 0 0) (v2 := .slice none 0 0) (v3 := .int .i64 0) (v4 := .int .i64 0) H2.out.2 (show w.heap.size ≤ w.heap.size + 1 + 1 by omega) H2.out.1
    have q0 := blk_cell p2 0 rfl
    have q1 := blk_cell p2 1 rfl
    have q2 := blk_cell p2 2 rfl
    have q3 := blk_cell p2 3 rfl
    have q4 := blk_cell p2 4 rfl
    refine bodyPost_ret (v := .tuple #[.agg #[.slice none 0 0, .slice none 0 0, .slice none 0 0, .int .i64 0, .int .i64 0], .int .i64 (skyE ds N M L)]) (by simp [results, Tryz.results94, go_sem, q0, q1, q2, q3, q4]) rfl ?_
    exact ⟨by rw [HR.out], p1⟩
  · have HR : Hid (wthE stock store ds N M L = winE stock store ds) := by show _ = _; rw [wthE, if_neg hwe]
    have hne : (winE stock store ds != 0) = true := by simpa using hwe
    have z0 := blk_cell H1.out.2.2.2 0 rfl
    have z1 := blk_cell H1.out.2.2.2 1 rfl
    have z2 := blk_cell H1.out.2.2.2 2 rfl
    have z3 := blk_cell H1.out.2.2.2 3 rfl
    have z4 := blk_cell H1.out.2.2.2 4 rfl
    have y0 := blk_free (j := 0) H1.out.2.2.2
    have y1 := blk_free (j := 1) H1.out.2.2.2
    have y2 := blk_free (j := 2) H1.out.2.2.2
    have y3 := blk_free (j := 3) H1.out.2.2.2
    have y4 := blk_free (j := 4) H1.out.2.2.2
    go_wp2_with (fail)
    obtain ⟨p1, p2, p3, p4⟩ := five_put (v0 := .slice none 0 0) (v1 := .slice none 0 0) (v2 := .slice none 0 0) (v3 := .int .i64 0) (v4 := .int .i64 0) H1.out.2.2.2 (show w.heap.size ≤ w.heap.size + 1 + 1 by omega) H1.out.1
    have q0 := blk_cell p2 0 rfl
    have q1 := blk_cell p2 1 rfl
    have q2 := blk_cell p2 2 rfl
    have q3 := blk_cell p2 3 rfl
    have q4 := blk_cell p2 4 rfl
    refine bodyPost_ret (v := .tuple #[.agg #[.slice none 0 0, .slice none 0 0, .slice none 0 0, .int .i64 0, .int .i64 0], .int .i64 (winE stock store ds)]) (by simp [results, Tryz.results94, go_sem, q0, q1, q2, q3, q4]) rfl ?_
    exact ⟨by rw [HR.out], p1⟩

set_option maxRecDepth 100000 in
set_option maxHeartbeats 600000 in
theorem Fails_bad (stock store : Int) (a : Option Addr) (ds : List Dy) (cap : Nat) (an : Option Addr) (N : List Int) (cn : Nat) (am : Option Addr) (M : List Int) (cm : Nat) (al : Option Addr) (L : List Int) (cl : Nat) (w : World)
    (hx : Sl 6 Dy.cells w a ds) (hl : ds.length ≤ 1000000) (hN : IntSl w an N) (hM : IntSl w am M) (hL : IntSl w al L) (hz : wthE stock store ds N M L ≠ 0) :
    Calls Tryz.prog 35 #[wv stock store a ds.length cap, tv an N.length cn am M.length cm al L.length cl] w fun e w' => e = .returned (.tuple #[.int .i64 0, .int .i64 (wthE stock store ds N M L)]) ∧ Below w.heap.size w w' := by
  have HX := Lib.hid (And.intro hx (And.intro hN (And.intro hM (And.intro hL hz))))
  clear hx hN hM hL hz
  obtain ⟨Wa, hWa⟩ : ∃ Wa, (w.alloc (.cells #[.int .i64 stock, .int .i64 store, .slice a ds.length cap] 56)).alloc (.cells #[.slice an N.length cn, .slice am M.length cm, .slice al L.length cl] 58) = Wa := ⟨_, rfl⟩
  have hba : Below w.heap.size w Wa := by rw [← hWa]; exact ((Below.refl _ _).alloc (Nat.le_refl _) _).alloc (by simp) _
  have h0 : Wa.heap[w.heap.size]? = some (.cells #[.int .i64 stock, .int .i64 store, .slice a ds.length cap] 56 (0, 0)) := by rw [← hWa]; exact alk (new_at rfl)
  have h1 : Wa.heap[w.heap.size + 1]? = some (.cells #[.slice an N.length cn, .slice am M.length cm, .slice al L.length cl] 58 (0, 0)) := by rw [← hWa]; exact new_at (by simp)
  have a0 := blk_cell h0 0 rfl
  have a1 := blk_cell h0 1 rfl
  have a2 := blk_cell h0 2 rfl
  have a3 := blk_cell h1 0 rfl
  have a4 := blk_cell h1 1 rfl
  have a5 := blk_cell h1 2 rfl
  have HB := Lib.hid hba
  clear hba h0 h1
  go_enter Tryz.func35, Tryz.ntmps35
  go_wp2_with (fail)
  clear hWa a0 a1 a2 a3 a4 a5
  refine (told_bad stock store a ds cap an N cn am M cm al L cl Wa (HX.out.1.below HB.out) hl (HX.out.2.1.below HB.out) (HX.out.2.2.1.below HB.out) (HX.out.2.2.2.1.below HB.out) HX.out.2.2.2.2).mono ?_
  rintro e w1 ⟨rfl, hb1⟩
  have H1 := Lib.hid (below_self HB.out hb1)
  clear hb1
  go_wp2_with (fail)
  go_ret2
  exact ⟨rfl, H1.out.alloc H1.out.size _⟩

set_option maxRecDepth 100000 in
set_option maxHeartbeats 600000 in
theorem Stocks_bad (stock store : Int) (a : Option Addr) (ds : List Dy) (cap : Nat) (an : Option Addr) (N : List Int) (cn : Nat) (am : Option Addr) (M : List Int) (cm : Nat) (al : Option Addr) (L : List Int) (cl : Nat) (w : World)
    (hx : Sl 6 Dy.cells w a ds) (hl : ds.length ≤ 1000000) (hN : IntSl w an N) (hM : IntSl w am M) (hL : IntSl w al L) (hz : wthE stock store ds N M L ≠ 0) :
    Calls Tryz.prog 36 #[wv stock store a ds.length cap, tv an N.length cn am M.length cm al L.length cl] w fun e w' => e = .returned (.tuple #[.slice none 0 0, .int .i64 (wthE stock store ds N M L)]) ∧ Below w.heap.size w w' := by
  have HX := Lib.hid (And.intro hx (And.intro hN (And.intro hM (And.intro hL hz))))
  clear hx hN hM hL hz
  obtain ⟨Wa, hWa⟩ : ∃ Wa, (w.alloc (.cells #[.int .i64 stock, .int .i64 store, .slice a ds.length cap] 56)).alloc (.cells #[.slice an N.length cn, .slice am M.length cm, .slice al L.length cl] 58) = Wa := ⟨_, rfl⟩
  have hba : Below w.heap.size w Wa := by rw [← hWa]; exact ((Below.refl _ _).alloc (Nat.le_refl _) _).alloc (by simp) _
  have h0 : Wa.heap[w.heap.size]? = some (.cells #[.int .i64 stock, .int .i64 store, .slice a ds.length cap] 56 (0, 0)) := by rw [← hWa]; exact alk (new_at rfl)
  have h1 : Wa.heap[w.heap.size + 1]? = some (.cells #[.slice an N.length cn, .slice am M.length cm, .slice al L.length cl] 58 (0, 0)) := by rw [← hWa]; exact new_at (by simp)
  have a0 := blk_cell h0 0 rfl
  have a1 := blk_cell h0 1 rfl
  have a2 := blk_cell h0 2 rfl
  have a3 := blk_cell h1 0 rfl
  have a4 := blk_cell h1 1 rfl
  have a5 := blk_cell h1 2 rfl
  have HB := Lib.hid hba
  clear hba h0 h1
  go_enter Tryz.func36, Tryz.ntmps36
  go_wp2_with (fail)
  clear hWa a0 a1 a2 a3 a4 a5
  refine (told_bad stock store a ds cap an N cn am M cm al L cl Wa (HX.out.1.below HB.out) hl (HX.out.2.1.below HB.out) (HX.out.2.2.1.below HB.out) (HX.out.2.2.2.1.below HB.out) HX.out.2.2.2.2).mono ?_
  rintro e w1 ⟨rfl, hb1⟩
  have H1 := Lib.hid (below_self HB.out hb1)
  clear hb1
  go_wp2_with (fail)
  go_ret2
  exact ⟨rfl, H1.out.alloc H1.out.size _⟩

set_option maxRecDepth 100000 in
set_option maxHeartbeats 600000 in
theorem Made_bad (stock store : Int) (a : Option Addr) (ds : List Dy) (cap : Nat) (an : Option Addr) (N : List Int) (cn : Nat) (am : Option Addr) (M : List Int) (cm : Nat) (al : Option Addr) (L : List Int) (cl : Nat) (w : World)
    (hx : Sl 6 Dy.cells w a ds) (hl : ds.length ≤ 1000000) (hN : IntSl w an N) (hM : IntSl w am M) (hL : IntSl w al L) (hz : wthE stock store ds N M L ≠ 0) :
    Calls Tryz.prog 37 #[wv stock store a ds.length cap, tv an N.length cn am M.length cm al L.length cl] w fun e w' => e = .returned (.tuple #[.slice none 0 0, .int .i64 (wthE stock store ds N M L)]) ∧ Below w.heap.size w w' := by
  have HX := Lib.hid (And.intro hx (And.intro hN (And.intro hM (And.intro hL hz))))
  clear hx hN hM hL hz
  obtain ⟨Wa, hWa⟩ : ∃ Wa, (w.alloc (.cells #[.int .i64 stock, .int .i64 store, .slice a ds.length cap] 56)).alloc (.cells #[.slice an N.length cn, .slice am M.length cm, .slice al L.length cl] 58) = Wa := ⟨_, rfl⟩
  have hba : Below w.heap.size w Wa := by rw [← hWa]; exact ((Below.refl _ _).alloc (Nat.le_refl _) _).alloc (by simp) _
  have h0 : Wa.heap[w.heap.size]? = some (.cells #[.int .i64 stock, .int .i64 store, .slice a ds.length cap] 56 (0, 0)) := by rw [← hWa]; exact alk (new_at rfl)
  have h1 : Wa.heap[w.heap.size + 1]? = some (.cells #[.slice an N.length cn, .slice am M.length cm, .slice al L.length cl] 58 (0, 0)) := by rw [← hWa]; exact new_at (by simp)
  have a0 := blk_cell h0 0 rfl
  have a1 := blk_cell h0 1 rfl
  have a2 := blk_cell h0 2 rfl
  have a3 := blk_cell h1 0 rfl
  have a4 := blk_cell h1 1 rfl
  have a5 := blk_cell h1 2 rfl
  have HB := Lib.hid hba
  clear hba h0 h1
  go_enter Tryz.func37, Tryz.ntmps37
  go_wp2_with (fail)
  clear hWa a0 a1 a2 a3 a4 a5
  refine (told_bad stock store a ds cap an N cn am M cm al L cl Wa (HX.out.1.below HB.out) hl (HX.out.2.1.below HB.out) (HX.out.2.2.1.below HB.out) (HX.out.2.2.2.1.below HB.out) HX.out.2.2.2.2).mono ?_
  rintro e w1 ⟨rfl, hb1⟩
  have H1 := Lib.hid (below_self HB.out hb1)
  clear hb1
  go_wp2_with (fail)
  go_ret2
  exact ⟨rfl, H1.out.alloc H1.out.size _⟩

set_option maxRecDepth 100000 in
set_option maxHeartbeats 600000 in
theorem Piles_bad (stock store : Int) (a : Option Addr) (ds : List Dy) (cap : Nat) (an : Option Addr) (N : List Int) (cn : Nat) (am : Option Addr) (M : List Int) (cm : Nat) (al : Option Addr) (L : List Int) (cl : Nat) (w : World)
    (hx : Sl 6 Dy.cells w a ds) (hl : ds.length ≤ 1000000) (hN : IntSl w an N) (hM : IntSl w am M) (hL : IntSl w al L) (hz : wthE stock store ds N M L ≠ 0) :
    Calls Tryz.prog 38 #[wv stock store a ds.length cap, tv an N.length cn am M.length cm al L.length cl] w fun e w' => e = .returned (.tuple #[.slice none 0 0, .int .i64 (wthE stock store ds N M L)]) ∧ Below w.heap.size w w' := by
  have HX := Lib.hid (And.intro hx (And.intro hN (And.intro hM (And.intro hL hz))))
  clear hx hN hM hL hz
  obtain ⟨Wa, hWa⟩ : ∃ Wa, (w.alloc (.cells #[.int .i64 stock, .int .i64 store, .slice a ds.length cap] 56)).alloc (.cells #[.slice an N.length cn, .slice am M.length cm, .slice al L.length cl] 58) = Wa := ⟨_, rfl⟩
  have hba : Below w.heap.size w Wa := by rw [← hWa]; exact ((Below.refl _ _).alloc (Nat.le_refl _) _).alloc (by simp) _
  have h0 : Wa.heap[w.heap.size]? = some (.cells #[.int .i64 stock, .int .i64 store, .slice a ds.length cap] 56 (0, 0)) := by rw [← hWa]; exact alk (new_at rfl)
  have h1 : Wa.heap[w.heap.size + 1]? = some (.cells #[.slice an N.length cn, .slice am M.length cm, .slice al L.length cl] 58 (0, 0)) := by rw [← hWa]; exact new_at (by simp)
  have a0 := blk_cell h0 0 rfl
  have a1 := blk_cell h0 1 rfl
  have a2 := blk_cell h0 2 rfl
  have a3 := blk_cell h1 0 rfl
  have a4 := blk_cell h1 1 rfl
  have a5 := blk_cell h1 2 rfl
  have HB := Lib.hid hba
  clear hba h0 h1
  go_enter Tryz.func38, Tryz.ntmps38
  go_wp2_with (fail)
  clear hWa a0 a1 a2 a3 a4 a5
  refine (told_bad stock store a ds cap an N cn am M cm al L cl Wa (HX.out.1.below HB.out) hl (HX.out.2.1.below HB.out) (HX.out.2.2.1.below HB.out) (HX.out.2.2.2.1.below HB.out) HX.out.2.2.2.2).mono ?_
  rintro e w1 ⟨rfl, hb1⟩
  have H1 := Lib.hid (below_self HB.out hb1)
  clear hb1
  go_wp2_with (fail)
  go_ret2
  exact ⟨rfl, H1.out.alloc H1.out.size _⟩

set_option maxRecDepth 100000 in
set_option maxHeartbeats 2000000 in
theorem Worst_bad (stock store : Int) (a : Option Addr) (ds : List Dy) (cap : Nat) (w : World) (hx : Sl 6 Dy.cells w a ds) (hl : ds.length ≤ 1000000) (hz : winE stock store ds ≠ 0) :
    Calls Tryz.prog 31 #[wv stock store a ds.length cap] w fun e w' => e = .returned (.tuple #[.agg #[.slice none 0 0, .slice none 0 0, .slice none 0 0], .int .i64 (winE stock store ds)]) ∧ Below w.heap.size w w' := by
  have HX := Lib.hid hx
  clear hx
  obtain ⟨Wa, hWa⟩ : ∃ Wa, (w.alloc (.cells #[.int .i64 stock, .int .i64 store, .slice a ds.length cap] 56)).alloc (.cells #[.slice none 0 0, .slice none 0 0, .slice none 0 0] 58) = Wa := ⟨_, rfl⟩
  have hba : Below w.heap.size w Wa := by rw [← hWa]; exact ((Below.refl _ _).alloc (Nat.le_refl _) _).alloc (by simp) _
  have h0 : Wa.heap[w.heap.size]? = some (.cells #[.int .i64 stock, .int .i64 store, .slice a ds.length cap] 56 (0, 0)) := by rw [← hWa]; exact alk (new_at rfl)
  have h1 : Wa.heap[w.heap.size + 1]? = some (.cells #[.slice none 0 0, .slice none 0 0, .slice none 0 0] 58 (0, 0)) := by rw [← hWa]; exact new_at (by simp)
  have a0 := blk_cell h0 0 rfl
  have a1 := blk_cell h0 1 rfl
  have a2 := blk_cell h0 2 rfl
  have HW0 := Lib.hid (And.intro hba h1)
  clear hba h0 h1
  go_enter Tryz.func31, Tryz.ntmps31
  go_wp2_with (fail)
  clear hWa a0 a1 a2
  refine (checkWinter_any stock store a ds cap _ (HX.out.below HW0.out.1) hl).mono ?_
  rintro e w1 ⟨rfl, hb1⟩
  have H1 := Lib.hid (And.intro (below_self HW0.out.1 hb1) (blk_below HW0.out.2 hb1))
  clear hb1
  have hne : (winE stock store ds != 0) = true := by simpa using hz
  have z0 := blk_cell H1.out.2 0 rfl
  have z1 := blk_cell H1.out.2 1 rfl
  have z2 := blk_cell H1.out.2 2 rfl
  have f0 := blk_free (j := 0) H1.out.2
  have f1 := blk_free (j := 1) H1.out.2
  have f2 := blk_free (j := 2) H1.out.2
  go_wp2_with (fail)
  obtain ⟨p1, p2, p3, p4⟩ := three_put (v0 := .slice none 0 0) (v1 := .slice none 0 0) (v2 := .slice none 0 0) H1.out.2 (show w.heap.size ≤ w.heap.size + 1 by omega) H1.out.1
  have q0 := blk_cell p2 0 rfl
  have q1 := blk_cell p2 1 rfl
  have q2 := blk_cell p2 2 rfl
  refine bodyPost_ret (v := .tuple #[.agg #[.slice none 0 0, .slice none 0 0, .slice none 0 0], .int .i64 (winE stock store ds)]) (by simp [results, Tryz.results31, go_sem, q0, q1, q2]) rfl ?_
  exact ⟨rfl, p1⟩
end Go.Proofs.YtmebmcipmemofaaGreat

namespace Go.Proofs.YtmebmcipmemofaaGreat
open Go.RowKit Go.Shelf
attribute [local go_sem] Oper.semAt_some

theorem outside_no {n lo hi : Int} (h : withinB n lo hi = true) (w : World) : Calls Tryz.prog 81 #[.int .i64 n, .int .i64 lo, .int .i64 hi] w fun e w' => e = .returned (.bool false) ∧ w = w' := by
  have := outside_any n lo hi w; rw [h] at this; exact this
theorem outside_yes {n lo hi : Int} (h : withinB n lo hi = false) (w : World) : Calls Tryz.prog 81 #[.int .i64 n, .int .i64 lo, .int .i64 hi] w fun e w' => e = .returned (.bool true) ∧ w = w' := by
  have := outside_any n lo hi w; rw [h] at this; exact this
/-- What the day's region reads. -/
def WR (D b1 o1 b2 o2 b3 o3 k : Nat) (d : Dy) (nk mk lk : Int) (W : World) : Prop :=
  W.cell? ⟨D, 0, none⟩ = some (.int .i64 d.need.lo) ∧ W.cell? ⟨D, 1, none⟩ = some (.int .i64 d.need.hi) ∧ W.cell? ⟨D, 2, none⟩ = some (.int .i64 d.make.lo) ∧ W.cell? ⟨D, 3, none⟩ = some (.int .i64 d.make.hi) ∧ W.cell? ⟨D, 4, none⟩ = some (.int .i64 d.loss.lo) ∧ W.cell? ⟨D, 5, none⟩ = some (.int .i64 d.loss.hi) ∧
  W.cell? ⟨b1, o1 + k, none⟩ = some (.int .i64 nk) ∧ W.cell? ⟨b2, o2 + k, none⟩ = some (.int .i64 mk) ∧ W.cell? ⟨b3, o3 + k, none⟩ = some (.int .i64 lk)
set_option maxHeartbeats 4000000 in
set_option maxRecDepth 100000 in
theorem refWeather_any (stock store : Int) (a : Option Addr) (ds : List Dy) (cap : Nat) (an : Option Addr) (N : List Int) (cn : Nat) (am : Option Addr) (M : List Int) (cm : Nat) (al : Option Addr) (L : List Int) (cl : Nat) (w : World)
    (hx : Sl 6 Dy.cells w a ds) (hl : ds.length ≤ 1000000) (hN : IntSl w an N) (hM : IntSl w am M) (hL : IntSl w al L) :
    Calls Tryz.prog 34 #[wv stock store a ds.length cap, .slice an N.length cn, .slice am M.length cm, .slice al L.length cl] w fun e w' => e = .returned (.int .i64 (wthE stock store ds N M L)) ∧ Below w.heap.size w w' := by
  obtain ⟨W0, hW0⟩ : ∃ W0, w.alloc (.cells #[.int .i64 stock, .int .i64 store, .slice a ds.length cap] 64) = W0 := ⟨_, rfl⟩
  have hb0 : Below w.heap.size w W0 := by rw [← hW0]; exact alloc1 w _
  have g0 : W0.heap[w.heap.size]? = some (.cells #[.int .i64 stock, .int .i64 store, .slice a ds.length cap] 64 (0, 0)) := by rw [← hW0]; exact heap_alloc_new w _
  have H0 : Hid (Below w.heap.size w W0 ∧ W0.heap[w.heap.size]? = some (.cells #[.int .i64 stock, .int .i64 store, .slice a ds.length cap] 64 (0, 0)) ∧ Sl 6 Dy.cells W0 a ds ∧ IntSl W0 an N ∧ IntSl W0 am M ∧ IntSl W0 al L) := ⟨hb0, g0, hx.below hb0, hN.below hb0, hM.below hb0, hL.below hb0⟩
  have t0 := blk_cell g0 0 rfl
  have t1 := blk_cell g0 1 rfl
  have t2 := blk_cell g0 2 rfl
  clear hb0 g0 hx hN hM hL
  go_enter Tryz.func34, Tryz.ntmps34
  go_wp2_with (fail)
  clear hW0 t0 t1 t2
  refine (refWinter_any stock store a ds cap W0 H0.out.2.2.1 hl).mono ?_
  rintro e W1 ⟨rfl, hb⟩
  have H1 : Hid (Below w.heap.size w W1 ∧ W1.heap[w.heap.size]? = some (.cells #[.int .i64 stock, .int .i64 store, .slice a ds.length cap] 64 (0, 0)) ∧ Sl 6 Dy.cells W1 a ds ∧ IntSl W1 an N ∧ IntSl W1 am M ∧ IntSl W1 al L) := ⟨below_self H0.out.1 hb, blk_below H0.out.2.1 hb, H0.out.2.2.1.below hb, H0.out.2.2.2.1.below hb, H0.out.2.2.2.2.1.below hb, H0.out.2.2.2.2.2.below hb⟩
  clear hb H0
  by_cases hwe : winE stock store ds = 0
  · have HR : Hid (wthE stock store ds N M L = skyE ds N M L) := by show _ = _; rw [wthE, if_pos hwe]
    have hwb : (winE stock store ds != 0) = false := by simp [hwe]
    clear hwe
    have t2 := blk_cell H1.out.2.1 2 rfl
    by_cases hlen : N.length = ds.length ∧ M.length = ds.length ∧ L.length = ds.length
    · have HS : Hid (skyE ds N M L = if ((List.range ds.length).all (skyB ds N M L)) = true then 0 else 3) := by show _ = _; rw [skyE, if_pos (by simpa using hlen)]
      obtain ⟨e1, e2, e3⟩ := hlen
      have HE : Hid (N.length = ds.length ∧ M.length = ds.length ∧ L.length = ds.length) := ⟨e1, e2, e3⟩
      rw [e1, e2, e3]
      clear e1 e2 e3
      go_wp2_with (fail)
      clear t2
      go_loopw [11] (fun i wr => ∃ k : Nat, k ≤ ds.length ∧ i = .int .i64 k ∧ Hid ((List.range k).all (skyB ds N M L) = true) ∧ Hid (Below W1.heap.size W1 wr)) (fun i _ => ds.length - (intOf i).toNat)
      case atStart => exact ⟨0, Nat.zero_le _, rfl, rfl, Below.refl _ _⟩
      case round =>
        obtain ⟨k, hk, rfl, hsk, hX⟩ := hrel
        obtain ⟨V, hV⟩ : ∃ V, V = wr := ⟨_, rfl⟩
        subst hV
        by_cases hlt : k < ds.length
        · have HV : Hid (V.heap[w.heap.size]? = some (.cells #[.int .i64 stock, .int .i64 store, .slice a ds.length cap] 64 (0, 0)) ∧ Sl 6 Dy.cells V a ds ∧ IntSl V an N ∧ IntSl V am M ∧ IntSl V al L) := ⟨blk_below H1.out.2.1 hX.out, H1.out.2.2.1.below hX.out, H1.out.2.2.2.1.below hX.out, H1.out.2.2.2.2.1.below hX.out, H1.out.2.2.2.2.2.below hX.out⟩
          have u2 := blk_cell HV.out.1 2 rfl
          have hsu := Lib.hid (sky_succ ds N M L k)
          have hsb := Lib.hid (sky_bad ds N M L k hlt)
          have hsd : Hid (skyB ds N M L k = (insideB (N[k]?.getD 0) ds[k].need && (insideB (M[k]?.getD 0) ds[k].make && insideB (L[k]?.getD 0) ds[k].loss))) := by show _ = _; rw [skyB, List.getElem?_eq_getElem hlt]
          obtain ⟨b, off, rfl, hbs, hc⟩ := HV.out.2.1 (by omega)
          obtain ⟨b1, o1, rfl, hb1, hc1⟩ := HV.out.2.2.1 (by have := HE.out.1; omega)
          obtain ⟨b2, o2, rfl, hb2, hc2⟩ := HV.out.2.2.2.1 (by have := HE.out.2.1; omega)
          obtain ⟨b3, o3, rfl, hb3, hc3⟩ := HV.out.2.2.2.2 (by have := HE.out.2.2; omega)
          have n1 := hc1 k (by have := HE.out.1; omega)
          have n2 := hc2 k (by have := HE.out.2.1; omega)
          have n3 := hc3 k (by have := HE.out.2.2; omega)
          have d0 : V.cell? ⟨b, off + k * 6, none⟩ = some (.int .i64 ds[k].need.lo) := hc k ds[k] 0 _ (List.getElem?_eq_getElem hlt) rfl
          have d1 := hc k ds[k] 1 _ (List.getElem?_eq_getElem hlt) rfl
          have d2 := hc k ds[k] 2 _ (List.getElem?_eq_getElem hlt) rfl
          have d3 := hc k ds[k] 3 _ (List.getElem?_eq_getElem hlt) rfl
          have d4 := hc k ds[k] 4 _ (List.getElem?_eq_getElem hlt) rfl
          have d5 := hc k ds[k] 5 _ (List.getElem?_eq_getElem hlt) rfl
          clear hc hbs hc1 hc2 hc3
          generalize ds[k] = d at d0 d1 d2 d3 d4 d5 hsd
          generalize N[k]?.getD 0 = nk at n1 hsd
          generalize M[k]?.getD 0 = mk at n2 hsd
          generalize L[k]?.getD 0 = lk at n3 hsd
          go_upto_region 11 with (fail)
          obtain ⟨D, hD⟩ : ∃ D, V.heap.size = D := ⟨_, rfl⟩
          have HB : Hid (Below V.heap.size V (V.alloc (.cells #[.int .i64 d.need.lo, .int .i64 d.need.hi, .int .i64 d.make.lo, .int .i64 d.make.hi, .int .i64 d.loss.lo, .int .i64 d.loss.hi] 151)) ∧ (V.alloc (.cells #[.int .i64 d.need.lo, .int .i64 d.need.hi, .int .i64 d.make.lo, .int .i64 d.make.hi, .int .i64 d.loss.lo, .int .i64 d.loss.hi] 151)).heap[D]? = some (.cells #[.int .i64 d.need.lo, .int .i64 d.need.hi, .int .i64 d.make.lo, .int .i64 d.make.hi, .int .i64 d.loss.lo, .int .i64 d.loss.hi] 151 (0, 0))) := ⟨alloc1 V _, by rw [← hD]; exact heap_alloc_new V _⟩
          rw [hD]
          clear hD d0 d1 d2 d3 d4 d5 u2
          generalize V.alloc (.cells #[.int .i64 d.need.lo, .int .i64 d.need.hi, .int .i64 d.make.lo, .int .i64 d.make.hi, .int .i64 d.loss.lo, .int .i64 d.loss.hi] 151) = V1 at HB ⊢
          have m1 := (HB.out.1.cell (p := ⟨b1, o1 + k, none⟩) hb1).trans n1
          have m2 := (HB.out.1.cell (p := ⟨b2, o2 + k, none⟩) hb2).trans n2
          have m3 := (HB.out.1.cell (p := ⟨b3, o3 + k, none⟩) hb3).trans n3
          have x0 : V1.cell? ⟨D, 0, none⟩ = some (.int .i64 d.need.lo) := blk_cell HB.out.2 0 rfl
          have x1 : V1.cell? ⟨D, 1, none⟩ = some (.int .i64 d.need.hi) := blk_cell HB.out.2 1 rfl
          have x2 : V1.cell? ⟨D, 2, none⟩ = some (.int .i64 d.make.lo) := blk_cell HB.out.2 2 rfl
          have x3 : V1.cell? ⟨D, 3, none⟩ = some (.int .i64 d.make.hi) := blk_cell HB.out.2 3 rfl
          have x4 : V1.cell? ⟨D, 4, none⟩ = some (.int .i64 d.loss.lo) := blk_cell HB.out.2 4 rfl
          have x5 : V1.cell? ⟨D, 5, none⟩ = some (.int .i64 d.loss.hi) := blk_cell HB.out.2 5 rfl
          have HV1 : Hid (Below W1.heap.size W1 V1) := below_self hX.out HB.out.1
          clear n1 n2 n3 hb1 hb2 hb3 HB HV hX
          unfold insideB at hsd
          refine wp_region_held (S := WR D b1 o1 b2 o2 b3 o3 k d nk mk lk) (by kernel_rfl) ?_
          have hS : WR D b1 o1 b2 o2 b3 o3 k d nk mk lk V1 := ⟨x0, x1, x2, x3, x4, x5, m1, m2, m3⟩
          have HV2 : Hid (WR D b1 o1 b2 o2 b3 o3 k d nk mk lk V1.drew ∧ Below W1.heap.size W1 V1.drew) := ⟨hS, below_self HV1.out (Below.refl _ _).drew⟩
          clear hS HV1 m1 m2 m3 x0 x1 x2 x3 x4 x5
          change wpAnyH _ _ _ _ _ _ _ _ V1.drew
          generalize V1.drew = V2 at HV2 ⊢
          rw [show (Array.replicate _ false) = #[false, false, false, false, false, false, false, false, false, false, false, false, false, false, false, false, false, false, false, false, false, false, false, false, false, false, false, false, false, false, false, false, false, false, false, false, false] from by kernel_rfl]
          refine wpAnyH_take (i := 0) (v := .slice (some ⟨b1, o1, none⟩) ds.length cn) rfl (by kernel_rfl) (by kernel_rfl) (by kernel_rfl) (fun _ _ _ h => h) (Or.inl ⟨by rfl, by (intro W hSw; obtain ⟨s0, s1, s2, s3, s4, s5, s6, s7, s8⟩ := hSw; go_simp)⟩) HV2.out.1 ?_
          simp only [Act.put, List.getElem_toArray, List.getElem_cons_zero, List.setIfInBounds_toArray, List.set_cons_zero]
          refine wpAnyH_take (i := 1) (v := .int .i64 (k : Int)) rfl (by kernel_rfl) (by kernel_rfl) (by kernel_rfl) (fun _ _ _ h => h) (Or.inl ⟨by rfl, by (intro W hSw; obtain ⟨s0, s1, s2, s3, s4, s5, s6, s7, s8⟩ := hSw; go_simp)⟩) HV2.out.1 ?_
          simp only [Act.put, List.getElem_toArray, List.getElem_cons_succ, List.getElem_cons_zero, List.setIfInBounds_toArray, List.set_cons_zero, List.set_cons_succ]
          refine wpAnyH_take (i := 2) (v := .pointer (some ⟨b1, o1 + k, none⟩)) rfl (by kernel_rfl) (by kernel_rfl) (by kernel_rfl) (fun _ _ _ h => h) (Or.inl ⟨by rfl, by (intro W hSw; obtain ⟨s0, s1, s2, s3, s4, s5, s6, s7, s8⟩ := hSw; go_simp)⟩) HV2.out.1 ?_
          simp only [Act.put, List.getElem_toArray, List.getElem_cons_succ, List.getElem_cons_zero, List.setIfInBounds_toArray, List.set_cons_zero, List.set_cons_succ]
          refine wpAnyH_take (i := 3) (v := .int .i64 nk) rfl (by kernel_rfl) (by kernel_rfl) (by kernel_rfl) (fun _ _ _ h => h) (Or.inl ⟨by rfl, by (intro W hSw; obtain ⟨s0, s1, s2, s3, s4, s5, s6, s7, s8⟩ := hSw; go_simp)⟩) HV2.out.1 ?_
          simp only [Act.put, List.getElem_toArray, List.getElem_cons_succ, List.getElem_cons_zero, List.setIfInBounds_toArray, List.set_cons_zero, List.set_cons_succ]
          refine wpAnyH_take (i := 4) (v := .pointer (some ⟨D, 0, none⟩)) rfl (by kernel_rfl) (by kernel_rfl) (by kernel_rfl) (fun _ _ _ h => h) (Or.inl ⟨by rfl, by (intro W hSw; obtain ⟨s0, s1, s2, s3, s4, s5, s6, s7, s8⟩ := hSw; go_simp)⟩) HV2.out.1 ?_
          simp only [Act.put, List.getElem_toArray, List.getElem_cons_succ, List.getElem_cons_zero, List.setIfInBounds_toArray, List.set_cons_zero, List.set_cons_succ]
          refine wpAnyH_take (i := 5) (v := .pointer (some ⟨D, 0, none⟩)) rfl (by kernel_rfl) (by kernel_rfl) (by kernel_rfl) (fun _ _ _ h => h) (Or.inl ⟨by rfl, by (intro W hSw; obtain ⟨s0, s1, s2, s3, s4, s5, s6, s7, s8⟩ := hSw; go_simp)⟩) HV2.out.1 ?_
          simp only [Act.put, List.getElem_toArray, List.getElem_cons_succ, List.getElem_cons_zero, List.setIfInBounds_toArray, List.set_cons_zero, List.set_cons_succ]
          refine wpAnyH_take (i := 6) (v := .int .i64 d.need.lo) rfl (by kernel_rfl) (by kernel_rfl) (by kernel_rfl) (fun _ _ _ h => h) (Or.inl ⟨by rfl, by (intro W hSw; obtain ⟨s0, s1, s2, s3, s4, s5, s6, s7, s8⟩ := hSw; go_simp)⟩) HV2.out.1 ?_
          simp only [Act.put, List.getElem_toArray, List.getElem_cons_succ, List.getElem_cons_zero, List.setIfInBounds_toArray, List.set_cons_zero, List.set_cons_succ]
          refine wpAnyH_take (i := 7) (v := .pointer (some ⟨D, 0, none⟩)) rfl (by kernel_rfl) (by kernel_rfl) (by kernel_rfl) (fun _ _ _ h => h) (Or.inl ⟨by rfl, by (intro W hSw; obtain ⟨s0, s1, s2, s3, s4, s5, s6, s7, s8⟩ := hSw; go_simp)⟩) HV2.out.1 ?_
          simp only [Act.put, List.getElem_toArray, List.getElem_cons_succ, List.getElem_cons_zero, List.setIfInBounds_toArray, List.set_cons_zero, List.set_cons_succ]
          refine wpAnyH_take (i := 8) (v := .pointer (some ⟨D, 1, none⟩)) rfl (by kernel_rfl) (by kernel_rfl) (by kernel_rfl) (fun _ _ _ h => h) (Or.inl ⟨by rfl, by (intro W hSw; obtain ⟨s0, s1, s2, s3, s4, s5, s6, s7, s8⟩ := hSw; go_simp)⟩) HV2.out.1 ?_
          simp only [Act.put, List.getElem_toArray, List.getElem_cons_succ, List.getElem_cons_zero, List.setIfInBounds_toArray, List.set_cons_zero, List.set_cons_succ]
          refine wpAnyH_take (i := 9) (v := .int .i64 d.need.hi) rfl (by kernel_rfl) (by kernel_rfl) (by kernel_rfl) (fun _ _ _ h => h) (Or.inl ⟨by rfl, by (intro W hSw; obtain ⟨s0, s1, s2, s3, s4, s5, s6, s7, s8⟩ := hSw; go_simp)⟩) HV2.out.1 ?_
          simp only [Act.put, List.getElem_toArray, List.getElem_cons_succ, List.getElem_cons_zero, List.setIfInBounds_toArray, List.set_cons_zero, List.set_cons_succ]
          refine wpAnyH_ready (rs := [10]) (by kernel_rfl) (by simp) ?_
          refine AllReadyH.cons (o := _) rfl (fun K hK => ?_) AllReadyH.nil
          go_simp
          go_at_call 81
          cases q1 : withinB nk d.need.lo d.need.hi
          · have HF : Hid ((List.range ds.length).all (skyB ds N M L) = false) := hsb.out (by rw [hsd.out, q1]; rfl)
            clear hsb hsd hsu
            refine (outside_yes q1 _).mono ?_
            rintro e w' ⟨rfl, rfl⟩
            refine hK.out _ _ HV2.out.1 (fun _ => ?_)
            clear hK
            simp only [List.setIfInBounds_toArray, List.set_cons_zero, List.set_cons_succ]
            refine wpAnyH_take (i := 11) (v := .bool true) rfl (by kernel_rfl) (by kernel_rfl) (by kernel_rfl) (fun _ _ _ h => h) (Or.inl ⟨by rfl, by (intro W hSw; obtain ⟨s0, s1, s2, s3, s4, s5, s6, s7, s8⟩ := hSw; go_simp)⟩) HV2.out.1 ?_
            simp only [Act.put, List.getElem_toArray, List.getElem_cons_succ, List.getElem_cons_zero, List.setIfInBounds_toArray, List.set_cons_zero, List.set_cons_succ]
            refine wpAnyH_take (i := 12) (v := undef) rfl (by kernel_rfl) (by kernel_rfl) (by kernel_rfl) (fun _ _ _ h => h) (Or.inr ⟨by kernel_rfl, rfl⟩) HV2.out.1 ?_
            simp only [Act.put, List.getElem_toArray, List.getElem_cons_succ, List.getElem_cons_zero, List.setIfInBounds_toArray, List.set_cons_zero, List.set_cons_succ]
            refine wpAnyH_take (i := 13) (v := undef) rfl (by kernel_rfl) (by kernel_rfl) (by kernel_rfl) (fun _ _ _ h => h) (Or.inr ⟨by kernel_rfl, rfl⟩) HV2.out.1 ?_
            simp only [Act.put, List.getElem_toArray, List.getElem_cons_succ, List.getElem_cons_zero, List.setIfInBounds_toArray, List.set_cons_zero, List.set_cons_succ]
            refine wpAnyH_take (i := 14) (v := undef) rfl (by kernel_rfl) (by kernel_rfl) (by kernel_rfl) (fun _ _ _ h => h) (Or.inr ⟨by kernel_rfl, rfl⟩) HV2.out.1 ?_
            simp only [Act.put, List.getElem_toArray, List.getElem_cons_succ, List.getElem_cons_zero, List.setIfInBounds_toArray, List.set_cons_zero, List.set_cons_succ]
            refine wpAnyH_take (i := 15) (v := undef) rfl (by kernel_rfl) (by kernel_rfl) (by kernel_rfl) (fun _ _ _ h => h) (Or.inr ⟨by kernel_rfl, rfl⟩) HV2.out.1 ?_
            simp only [Act.put, List.getElem_toArray, List.getElem_cons_succ, List.getElem_cons_zero, List.setIfInBounds_toArray, List.set_cons_zero, List.set_cons_succ]
            refine wpAnyH_take (i := 16) (v := undef) rfl (by kernel_rfl) (by kernel_rfl) (by kernel_rfl) (fun _ _ _ h => h) (Or.inr ⟨by kernel_rfl, rfl⟩) HV2.out.1 ?_
            simp only [Act.put, List.getElem_toArray, List.getElem_cons_succ, List.getElem_cons_zero, List.setIfInBounds_toArray, List.set_cons_zero, List.set_cons_succ]
            refine wpAnyH_take (i := 17) (v := undef) rfl (by kernel_rfl) (by kernel_rfl) (by kernel_rfl) (fun _ _ _ h => h) (Or.inr ⟨by kernel_rfl, rfl⟩) HV2.out.1 ?_
            simp only [Act.put, List.getElem_toArray, List.getElem_cons_succ, List.getElem_cons_zero, List.setIfInBounds_toArray, List.set_cons_zero, List.set_cons_succ]
            refine wpAnyH_take (i := 18) (v := undef) rfl (by kernel_rfl) (by kernel_rfl) (by kernel_rfl) (fun _ _ _ h => h) (Or.inr ⟨by kernel_rfl, rfl⟩) HV2.out.1 ?_
            simp only [Act.put, List.getElem_toArray, List.getElem_cons_succ, List.getElem_cons_zero, List.setIfInBounds_toArray, List.set_cons_zero, List.set_cons_succ]
            refine wpAnyH_take (i := 19) (v := undef) rfl (by kernel_rfl) (by kernel_rfl) (by kernel_rfl) (fun _ _ _ h => h) (Or.inr ⟨by kernel_rfl, rfl⟩) HV2.out.1 ?_
            simp only [Act.put, List.getElem_toArray, List.getElem_cons_succ, List.getElem_cons_zero, List.setIfInBounds_toArray, List.set_cons_zero, List.set_cons_succ]
            refine wpAnyH_take (i := 20) (v := undef) rfl (by kernel_rfl) (by kernel_rfl) (by kernel_rfl) (fun _ _ _ h => h) (Or.inr ⟨by kernel_rfl, rfl⟩) HV2.out.1 ?_
            simp only [Act.put, List.getElem_toArray, List.getElem_cons_succ, List.getElem_cons_zero, List.setIfInBounds_toArray, List.set_cons_zero, List.set_cons_succ]
            refine wpAnyH_take (i := 21) (v := undef) rfl (by kernel_rfl) (by kernel_rfl) (by kernel_rfl) (fun _ _ _ h => h) (Or.inr ⟨by kernel_rfl, rfl⟩) HV2.out.1 ?_
            simp only [Act.put, List.getElem_toArray, List.getElem_cons_succ, List.getElem_cons_zero, List.setIfInBounds_toArray, List.set_cons_zero, List.set_cons_succ]
            refine wpAnyH_take (i := 22) (v := undef) rfl (by kernel_rfl) (by kernel_rfl) (by kernel_rfl) (fun _ _ _ h => h) (Or.inr ⟨by kernel_rfl, rfl⟩) HV2.out.1 ?_
            simp only [Act.put, List.getElem_toArray, List.getElem_cons_succ, List.getElem_cons_zero, List.setIfInBounds_toArray, List.set_cons_zero, List.set_cons_succ]
            refine wpAnyH_take (i := 23) (v := .bool true) rfl (by kernel_rfl) (by kernel_rfl) (by kernel_rfl) (fun _ _ _ h => h) (Or.inl ⟨by rfl, by (intro W hSw; obtain ⟨s0, s1, s2, s3, s4, s5, s6, s7, s8⟩ := hSw; go_simp)⟩) HV2.out.1 ?_
            simp only [Act.put, List.getElem_toArray, List.getElem_cons_succ, List.getElem_cons_zero, List.setIfInBounds_toArray, List.set_cons_zero, List.set_cons_succ]
            refine wpAnyH_take (i := 24) (v := .bool true) rfl (by kernel_rfl) (by kernel_rfl) (by kernel_rfl) (fun _ _ _ h => h) (Or.inl ⟨by rfl, by (intro W hSw; obtain ⟨s0, s1, s2, s3, s4, s5, s6, s7, s8⟩ := hSw; go_simp)⟩) HV2.out.1 ?_
            simp only [Act.put, List.getElem_toArray, List.getElem_cons_succ, List.getElem_cons_zero, List.setIfInBounds_toArray, List.set_cons_zero, List.set_cons_succ]
            refine wpAnyH_take (i := 25) (v := undef) rfl (by kernel_rfl) (by kernel_rfl) (by kernel_rfl) (fun _ _ _ h => h) (Or.inr ⟨by kernel_rfl, rfl⟩) HV2.out.1 ?_
            simp only [Act.put, List.getElem_toArray, List.getElem_cons_succ, List.getElem_cons_zero, List.setIfInBounds_toArray, List.set_cons_zero, List.set_cons_succ]
            refine wpAnyH_take (i := 26) (v := undef) rfl (by kernel_rfl) (by kernel_rfl) (by kernel_rfl) (fun _ _ _ h => h) (Or.inr ⟨by kernel_rfl, rfl⟩) HV2.out.1 ?_
            simp only [Act.put, List.getElem_toArray, List.getElem_cons_succ, List.getElem_cons_zero, List.setIfInBounds_toArray, List.set_cons_zero, List.set_cons_succ]
            refine wpAnyH_take (i := 27) (v := undef) rfl (by kernel_rfl) (by kernel_rfl) (by kernel_rfl) (fun _ _ _ h => h) (Or.inr ⟨by kernel_rfl, rfl⟩) HV2.out.1 ?_
            simp only [Act.put, List.getElem_toArray, List.getElem_cons_succ, List.getElem_cons_zero, List.setIfInBounds_toArray, List.set_cons_zero, List.set_cons_succ]
            refine wpAnyH_take (i := 28) (v := undef) rfl (by kernel_rfl) (by kernel_rfl) (by kernel_rfl) (fun _ _ _ h => h) (Or.inr ⟨by kernel_rfl, rfl⟩) HV2.out.1 ?_
            simp only [Act.put, List.getElem_toArray, List.getElem_cons_succ, List.getElem_cons_zero, List.setIfInBounds_toArray, List.set_cons_zero, List.set_cons_succ]
            refine wpAnyH_take (i := 29) (v := undef) rfl (by kernel_rfl) (by kernel_rfl) (by kernel_rfl) (fun _ _ _ h => h) (Or.inr ⟨by kernel_rfl, rfl⟩) HV2.out.1 ?_
            simp only [Act.put, List.getElem_toArray, List.getElem_cons_succ, List.getElem_cons_zero, List.setIfInBounds_toArray, List.set_cons_zero, List.set_cons_succ]
            refine wpAnyH_take (i := 30) (v := undef) rfl (by kernel_rfl) (by kernel_rfl) (by kernel_rfl) (fun _ _ _ h => h) (Or.inr ⟨by kernel_rfl, rfl⟩) HV2.out.1 ?_
            simp only [Act.put, List.getElem_toArray, List.getElem_cons_succ, List.getElem_cons_zero, List.setIfInBounds_toArray, List.set_cons_zero, List.set_cons_succ]
            refine wpAnyH_take (i := 31) (v := undef) rfl (by kernel_rfl) (by kernel_rfl) (by kernel_rfl) (fun _ _ _ h => h) (Or.inr ⟨by kernel_rfl, rfl⟩) HV2.out.1 ?_
            simp only [Act.put, List.getElem_toArray, List.getElem_cons_succ, List.getElem_cons_zero, List.setIfInBounds_toArray, List.set_cons_zero, List.set_cons_succ]
            refine wpAnyH_take (i := 32) (v := undef) rfl (by kernel_rfl) (by kernel_rfl) (by kernel_rfl) (fun _ _ _ h => h) (Or.inr ⟨by kernel_rfl, rfl⟩) HV2.out.1 ?_
            simp only [Act.put, List.getElem_toArray, List.getElem_cons_succ, List.getElem_cons_zero, List.setIfInBounds_toArray, List.set_cons_zero, List.set_cons_succ]
            refine wpAnyH_take (i := 33) (v := undef) rfl (by kernel_rfl) (by kernel_rfl) (by kernel_rfl) (fun _ _ _ h => h) (Or.inr ⟨by kernel_rfl, rfl⟩) HV2.out.1 ?_
            simp only [Act.put, List.getElem_toArray, List.getElem_cons_succ, List.getElem_cons_zero, List.setIfInBounds_toArray, List.set_cons_zero, List.set_cons_succ]
            refine wpAnyH_take (i := 34) (v := undef) rfl (by kernel_rfl) (by kernel_rfl) (by kernel_rfl) (fun _ _ _ h => h) (Or.inr ⟨by kernel_rfl, rfl⟩) HV2.out.1 ?_
            simp only [Act.put, List.getElem_toArray, List.getElem_cons_succ, List.getElem_cons_zero, List.setIfInBounds_toArray, List.set_cons_zero, List.set_cons_succ]
            refine wpAnyH_take (i := 35) (v := undef) rfl (by kernel_rfl) (by kernel_rfl) (by kernel_rfl) (fun _ _ _ h => h) (Or.inr ⟨by kernel_rfl, rfl⟩) HV2.out.1 ?_
            simp only [Act.put, List.getElem_toArray, List.getElem_cons_succ, List.getElem_cons_zero, List.setIfInBounds_toArray, List.set_cons_zero, List.set_cons_succ]
            refine wpAnyH_take (i := 36) (v := .bool true) rfl (by kernel_rfl) (by kernel_rfl) (by kernel_rfl) (fun _ _ _ h => h) (Or.inl ⟨by rfl, by (intro W hSw; obtain ⟨s0, s1, s2, s3, s4, s5, s6, s7, s8⟩ := hSw; go_simp)⟩) HV2.out.1 ?_
            simp only [Act.put, List.getElem_toArray, List.getElem_cons_succ, List.getElem_cons_zero, List.setIfInBounds_toArray, List.set_cons_zero, List.set_cons_succ]
            refine wpAnyH_done (by kernel_rfl) ?_ _
            go_wp2_with (fail)
            go_ret
            exact ⟨by rw [HR.out, HS.out, HF.out]; rfl, below_self H1.out.1 HV2.out.2⟩
          · skip
            refine (outside_no q1 _).mono ?_
            rintro e w' ⟨rfl, rfl⟩
            refine hK.out _ _ HV2.out.1 (fun _ => ?_)
            clear hK
            simp only [List.setIfInBounds_toArray, List.set_cons_zero, List.set_cons_succ]
            refine wpAnyH_take (i := 11) (v := .bool false) rfl (by kernel_rfl) (by kernel_rfl) (by kernel_rfl) (fun _ _ _ h => h) (Or.inl ⟨by rfl, by (intro W hSw; obtain ⟨s0, s1, s2, s3, s4, s5, s6, s7, s8⟩ := hSw; go_simp)⟩) HV2.out.1 ?_
            simp only [Act.put, List.getElem_toArray, List.getElem_cons_succ, List.getElem_cons_zero, List.setIfInBounds_toArray, List.set_cons_zero, List.set_cons_succ]
            refine wpAnyH_take (i := 12) (v := .slice (some ⟨b2, o2, none⟩) ds.length cm) rfl (by kernel_rfl) (by kernel_rfl) (by kernel_rfl) (fun _ _ _ h => h) (Or.inl ⟨by rfl, by (intro W hSw; obtain ⟨s0, s1, s2, s3, s4, s5, s6, s7, s8⟩ := hSw; go_simp)⟩) HV2.out.1 ?_
            simp only [Act.put, List.getElem_toArray, List.getElem_cons_succ, List.getElem_cons_zero, List.setIfInBounds_toArray, List.set_cons_zero, List.set_cons_succ]
            refine wpAnyH_take (i := 13) (v := .int .i64 (k : Int)) rfl (by kernel_rfl) (by kernel_rfl) (by kernel_rfl) (fun _ _ _ h => h) (Or.inl ⟨by rfl, by (intro W hSw; obtain ⟨s0, s1, s2, s3, s4, s5, s6, s7, s8⟩ := hSw; go_simp)⟩) HV2.out.1 ?_
            simp only [Act.put, List.getElem_toArray, List.getElem_cons_succ, List.getElem_cons_zero, List.setIfInBounds_toArray, List.set_cons_zero, List.set_cons_succ]
            refine wpAnyH_take (i := 14) (v := .pointer (some ⟨b2, o2 + k, none⟩)) rfl (by kernel_rfl) (by kernel_rfl) (by kernel_rfl) (fun _ _ _ h => h) (Or.inl ⟨by rfl, by (intro W hSw; obtain ⟨s0, s1, s2, s3, s4, s5, s6, s7, s8⟩ := hSw; go_simp)⟩) HV2.out.1 ?_
            simp only [Act.put, List.getElem_toArray, List.getElem_cons_succ, List.getElem_cons_zero, List.setIfInBounds_toArray, List.set_cons_zero, List.set_cons_succ]
            refine wpAnyH_take (i := 15) (v := .int .i64 mk) rfl (by kernel_rfl) (by kernel_rfl) (by kernel_rfl) (fun _ _ _ h => h) (Or.inl ⟨by rfl, by (intro W hSw; obtain ⟨s0, s1, s2, s3, s4, s5, s6, s7, s8⟩ := hSw; go_simp)⟩) HV2.out.1 ?_
            simp only [Act.put, List.getElem_toArray, List.getElem_cons_succ, List.getElem_cons_zero, List.setIfInBounds_toArray, List.set_cons_zero, List.set_cons_succ]
            refine wpAnyH_take (i := 16) (v := .pointer (some ⟨D, 2, none⟩)) rfl (by kernel_rfl) (by kernel_rfl) (by kernel_rfl) (fun _ _ _ h => h) (Or.inl ⟨by rfl, by (intro W hSw; obtain ⟨s0, s1, s2, s3, s4, s5, s6, s7, s8⟩ := hSw; go_simp)⟩) HV2.out.1 ?_
            simp only [Act.put, List.getElem_toArray, List.getElem_cons_succ, List.getElem_cons_zero, List.setIfInBounds_toArray, List.set_cons_zero, List.set_cons_succ]
            refine wpAnyH_take (i := 17) (v := .pointer (some ⟨D, 2, none⟩)) rfl (by kernel_rfl) (by kernel_rfl) (by kernel_rfl) (fun _ _ _ h => h) (Or.inl ⟨by rfl, by (intro W hSw; obtain ⟨s0, s1, s2, s3, s4, s5, s6, s7, s8⟩ := hSw; go_simp)⟩) HV2.out.1 ?_
            simp only [Act.put, List.getElem_toArray, List.getElem_cons_succ, List.getElem_cons_zero, List.setIfInBounds_toArray, List.set_cons_zero, List.set_cons_succ]
            refine wpAnyH_take (i := 18) (v := .int .i64 d.make.lo) rfl (by kernel_rfl) (by kernel_rfl) (by kernel_rfl) (fun _ _ _ h => h) (Or.inl ⟨by rfl, by (intro W hSw; obtain ⟨s0, s1, s2, s3, s4, s5, s6, s7, s8⟩ := hSw; go_simp)⟩) HV2.out.1 ?_
            simp only [Act.put, List.getElem_toArray, List.getElem_cons_succ, List.getElem_cons_zero, List.setIfInBounds_toArray, List.set_cons_zero, List.set_cons_succ]
            refine wpAnyH_take (i := 19) (v := .pointer (some ⟨D, 2, none⟩)) rfl (by kernel_rfl) (by kernel_rfl) (by kernel_rfl) (fun _ _ _ h => h) (Or.inl ⟨by rfl, by (intro W hSw; obtain ⟨s0, s1, s2, s3, s4, s5, s6, s7, s8⟩ := hSw; go_simp)⟩) HV2.out.1 ?_
            simp only [Act.put, List.getElem_toArray, List.getElem_cons_succ, List.getElem_cons_zero, List.setIfInBounds_toArray, List.set_cons_zero, List.set_cons_succ]
            refine wpAnyH_take (i := 20) (v := .pointer (some ⟨D, 3, none⟩)) rfl (by kernel_rfl) (by kernel_rfl) (by kernel_rfl) (fun _ _ _ h => h) (Or.inl ⟨by rfl, by (intro W hSw; obtain ⟨s0, s1, s2, s3, s4, s5, s6, s7, s8⟩ := hSw; go_simp)⟩) HV2.out.1 ?_
            simp only [Act.put, List.getElem_toArray, List.getElem_cons_succ, List.getElem_cons_zero, List.setIfInBounds_toArray, List.set_cons_zero, List.set_cons_succ]
            refine wpAnyH_take (i := 21) (v := .int .i64 d.make.hi) rfl (by kernel_rfl) (by kernel_rfl) (by kernel_rfl) (fun _ _ _ h => h) (Or.inl ⟨by rfl, by (intro W hSw; obtain ⟨s0, s1, s2, s3, s4, s5, s6, s7, s8⟩ := hSw; go_simp)⟩) HV2.out.1 ?_
            simp only [Act.put, List.getElem_toArray, List.getElem_cons_succ, List.getElem_cons_zero, List.setIfInBounds_toArray, List.set_cons_zero, List.set_cons_succ]
            refine wpAnyH_ready (rs := [22]) (by kernel_rfl) (by simp) ?_
            refine AllReadyH.cons (o := _) rfl (fun K hK => ?_) AllReadyH.nil
            go_simp
            go_at_call 81
            cases q2 : withinB mk d.make.lo d.make.hi
            · have HF : Hid ((List.range ds.length).all (skyB ds N M L) = false) := hsb.out (by rw [hsd.out, q1, q2]; rfl)
              clear hsb hsd hsu
              refine (outside_yes q2 _).mono ?_
              rintro e w' ⟨rfl, rfl⟩
              refine hK.out _ _ HV2.out.1 (fun _ => ?_)
              clear hK
              simp only [List.setIfInBounds_toArray, List.set_cons_zero, List.set_cons_succ]
              refine wpAnyH_take (i := 23) (v := .bool true) rfl (by kernel_rfl) (by kernel_rfl) (by kernel_rfl) (fun _ _ _ h => h) (Or.inl ⟨by rfl, by (intro W hSw; obtain ⟨s0, s1, s2, s3, s4, s5, s6, s7, s8⟩ := hSw; go_simp)⟩) HV2.out.1 ?_
              simp only [Act.put, List.getElem_toArray, List.getElem_cons_succ, List.getElem_cons_zero, List.setIfInBounds_toArray, List.set_cons_zero, List.set_cons_succ]
              refine wpAnyH_take (i := 24) (v := .bool true) rfl (by kernel_rfl) (by kernel_rfl) (by kernel_rfl) (fun _ _ _ h => h) (Or.inl ⟨by rfl, by (intro W hSw; obtain ⟨s0, s1, s2, s3, s4, s5, s6, s7, s8⟩ := hSw; go_simp)⟩) HV2.out.1 ?_
              simp only [Act.put, List.getElem_toArray, List.getElem_cons_succ, List.getElem_cons_zero, List.setIfInBounds_toArray, List.set_cons_zero, List.set_cons_succ]
              refine wpAnyH_take (i := 25) (v := undef) rfl (by kernel_rfl) (by kernel_rfl) (by kernel_rfl) (fun _ _ _ h => h) (Or.inr ⟨by kernel_rfl, rfl⟩) HV2.out.1 ?_
              simp only [Act.put, List.getElem_toArray, List.getElem_cons_succ, List.getElem_cons_zero, List.setIfInBounds_toArray, List.set_cons_zero, List.set_cons_succ]
              refine wpAnyH_take (i := 26) (v := undef) rfl (by kernel_rfl) (by kernel_rfl) (by kernel_rfl) (fun _ _ _ h => h) (Or.inr ⟨by kernel_rfl, rfl⟩) HV2.out.1 ?_
              simp only [Act.put, List.getElem_toArray, List.getElem_cons_succ, List.getElem_cons_zero, List.setIfInBounds_toArray, List.set_cons_zero, List.set_cons_succ]
              refine wpAnyH_take (i := 27) (v := undef) rfl (by kernel_rfl) (by kernel_rfl) (by kernel_rfl) (fun _ _ _ h => h) (Or.inr ⟨by kernel_rfl, rfl⟩) HV2.out.1 ?_
              simp only [Act.put, List.getElem_toArray, List.getElem_cons_succ, List.getElem_cons_zero, List.setIfInBounds_toArray, List.set_cons_zero, List.set_cons_succ]
              refine wpAnyH_take (i := 28) (v := undef) rfl (by kernel_rfl) (by kernel_rfl) (by kernel_rfl) (fun _ _ _ h => h) (Or.inr ⟨by kernel_rfl, rfl⟩) HV2.out.1 ?_
              simp only [Act.put, List.getElem_toArray, List.getElem_cons_succ, List.getElem_cons_zero, List.setIfInBounds_toArray, List.set_cons_zero, List.set_cons_succ]
              refine wpAnyH_take (i := 29) (v := undef) rfl (by kernel_rfl) (by kernel_rfl) (by kernel_rfl) (fun _ _ _ h => h) (Or.inr ⟨by kernel_rfl, rfl⟩) HV2.out.1 ?_
              simp only [Act.put, List.getElem_toArray, List.getElem_cons_succ, List.getElem_cons_zero, List.setIfInBounds_toArray, List.set_cons_zero, List.set_cons_succ]
              refine wpAnyH_take (i := 30) (v := undef) rfl (by kernel_rfl) (by kernel_rfl) (by kernel_rfl) (fun _ _ _ h => h) (Or.inr ⟨by kernel_rfl, rfl⟩) HV2.out.1 ?_
              simp only [Act.put, List.getElem_toArray, List.getElem_cons_succ, List.getElem_cons_zero, List.setIfInBounds_toArray, List.set_cons_zero, List.set_cons_succ]
              refine wpAnyH_take (i := 31) (v := undef) rfl (by kernel_rfl) (by kernel_rfl) (by kernel_rfl) (fun _ _ _ h => h) (Or.inr ⟨by kernel_rfl, rfl⟩) HV2.out.1 ?_
              simp only [Act.put, List.getElem_toArray, List.getElem_cons_succ, List.getElem_cons_zero, List.setIfInBounds_toArray, List.set_cons_zero, List.set_cons_succ]
              refine wpAnyH_take (i := 32) (v := undef) rfl (by kernel_rfl) (by kernel_rfl) (by kernel_rfl) (fun _ _ _ h => h) (Or.inr ⟨by kernel_rfl, rfl⟩) HV2.out.1 ?_
              simp only [Act.put, List.getElem_toArray, List.getElem_cons_succ, List.getElem_cons_zero, List.setIfInBounds_toArray, List.set_cons_zero, List.set_cons_succ]
              refine wpAnyH_take (i := 33) (v := undef) rfl (by kernel_rfl) (by kernel_rfl) (by kernel_rfl) (fun _ _ _ h => h) (Or.inr ⟨by kernel_rfl, rfl⟩) HV2.out.1 ?_
              simp only [Act.put, List.getElem_toArray, List.getElem_cons_succ, List.getElem_cons_zero, List.setIfInBounds_toArray, List.set_cons_zero, List.set_cons_succ]
              refine wpAnyH_take (i := 34) (v := undef) rfl (by kernel_rfl) (by kernel_rfl) (by kernel_rfl) (fun _ _ _ h => h) (Or.inr ⟨by kernel_rfl, rfl⟩) HV2.out.1 ?_
              simp only [Act.put, List.getElem_toArray, List.getElem_cons_succ, List.getElem_cons_zero, List.setIfInBounds_toArray, List.set_cons_zero, List.set_cons_succ]
              refine wpAnyH_take (i := 35) (v := undef) rfl (by kernel_rfl) (by kernel_rfl) (by kernel_rfl) (fun _ _ _ h => h) (Or.inr ⟨by kernel_rfl, rfl⟩) HV2.out.1 ?_
              simp only [Act.put, List.getElem_toArray, List.getElem_cons_succ, List.getElem_cons_zero, List.setIfInBounds_toArray, List.set_cons_zero, List.set_cons_succ]
              refine wpAnyH_take (i := 36) (v := .bool true) rfl (by kernel_rfl) (by kernel_rfl) (by kernel_rfl) (fun _ _ _ h => h) (Or.inl ⟨by rfl, by (intro W hSw; obtain ⟨s0, s1, s2, s3, s4, s5, s6, s7, s8⟩ := hSw; go_simp)⟩) HV2.out.1 ?_
              simp only [Act.put, List.getElem_toArray, List.getElem_cons_succ, List.getElem_cons_zero, List.setIfInBounds_toArray, List.set_cons_zero, List.set_cons_succ]
              refine wpAnyH_done (by kernel_rfl) ?_ _
              go_wp2_with (fail)
              go_ret
              exact ⟨by rw [HR.out, HS.out, HF.out]; rfl, below_self H1.out.1 HV2.out.2⟩
            · skip
              refine (outside_no q2 _).mono ?_
              rintro e w' ⟨rfl, rfl⟩
              refine hK.out _ _ HV2.out.1 (fun _ => ?_)
              clear hK
              simp only [List.setIfInBounds_toArray, List.set_cons_zero, List.set_cons_succ]
              refine wpAnyH_take (i := 23) (v := .bool false) rfl (by kernel_rfl) (by kernel_rfl) (by kernel_rfl) (fun _ _ _ h => h) (Or.inl ⟨by rfl, by (intro W hSw; obtain ⟨s0, s1, s2, s3, s4, s5, s6, s7, s8⟩ := hSw; go_simp)⟩) HV2.out.1 ?_
              simp only [Act.put, List.getElem_toArray, List.getElem_cons_succ, List.getElem_cons_zero, List.setIfInBounds_toArray, List.set_cons_zero, List.set_cons_succ]
              refine wpAnyH_take (i := 24) (v := .bool false) rfl (by kernel_rfl) (by kernel_rfl) (by kernel_rfl) (fun _ _ _ h => h) (Or.inl ⟨by rfl, by (intro W hSw; obtain ⟨s0, s1, s2, s3, s4, s5, s6, s7, s8⟩ := hSw; go_simp)⟩) HV2.out.1 ?_
              simp only [Act.put, List.getElem_toArray, List.getElem_cons_succ, List.getElem_cons_zero, List.setIfInBounds_toArray, List.set_cons_zero, List.set_cons_succ]
              refine wpAnyH_take (i := 25) (v := .slice (some ⟨b3, o3, none⟩) ds.length cl) rfl (by kernel_rfl) (by kernel_rfl) (by kernel_rfl) (fun _ _ _ h => h) (Or.inl ⟨by rfl, by (intro W hSw; obtain ⟨s0, s1, s2, s3, s4, s5, s6, s7, s8⟩ := hSw; go_simp)⟩) HV2.out.1 ?_
              simp only [Act.put, List.getElem_toArray, List.getElem_cons_succ, List.getElem_cons_zero, List.setIfInBounds_toArray, List.set_cons_zero, List.set_cons_succ]
              refine wpAnyH_take (i := 26) (v := .int .i64 (k : Int)) rfl (by kernel_rfl) (by kernel_rfl) (by kernel_rfl) (fun _ _ _ h => h) (Or.inl ⟨by rfl, by (intro W hSw; obtain ⟨s0, s1, s2, s3, s4, s5, s6, s7, s8⟩ := hSw; go_simp)⟩) HV2.out.1 ?_
              simp only [Act.put, List.getElem_toArray, List.getElem_cons_succ, List.getElem_cons_zero, List.setIfInBounds_toArray, List.set_cons_zero, List.set_cons_succ]
              refine wpAnyH_take (i := 27) (v := .pointer (some ⟨b3, o3 + k, none⟩)) rfl (by kernel_rfl) (by kernel_rfl) (by kernel_rfl) (fun _ _ _ h => h) (Or.inl ⟨by rfl, by (intro W hSw; obtain ⟨s0, s1, s2, s3, s4, s5, s6, s7, s8⟩ := hSw; go_simp)⟩) HV2.out.1 ?_
              simp only [Act.put, List.getElem_toArray, List.getElem_cons_succ, List.getElem_cons_zero, List.setIfInBounds_toArray, List.set_cons_zero, List.set_cons_succ]
              refine wpAnyH_take (i := 28) (v := .int .i64 lk) rfl (by kernel_rfl) (by kernel_rfl) (by kernel_rfl) (fun _ _ _ h => h) (Or.inl ⟨by rfl, by (intro W hSw; obtain ⟨s0, s1, s2, s3, s4, s5, s6, s7, s8⟩ := hSw; go_simp)⟩) HV2.out.1 ?_
              simp only [Act.put, List.getElem_toArray, List.getElem_cons_succ, List.getElem_cons_zero, List.setIfInBounds_toArray, List.set_cons_zero, List.set_cons_succ]
              refine wpAnyH_take (i := 29) (v := .pointer (some ⟨D, 4, none⟩)) rfl (by kernel_rfl) (by kernel_rfl) (by kernel_rfl) (fun _ _ _ h => h) (Or.inl ⟨by rfl, by (intro W hSw; obtain ⟨s0, s1, s2, s3, s4, s5, s6, s7, s8⟩ := hSw; go_simp)⟩) HV2.out.1 ?_
              simp only [Act.put, List.getElem_toArray, List.getElem_cons_succ, List.getElem_cons_zero, List.setIfInBounds_toArray, List.set_cons_zero, List.set_cons_succ]
              refine wpAnyH_take (i := 30) (v := .pointer (some ⟨D, 4, none⟩)) rfl (by kernel_rfl) (by kernel_rfl) (by kernel_rfl) (fun _ _ _ h => h) (Or.inl ⟨by rfl, by (intro W hSw; obtain ⟨s0, s1, s2, s3, s4, s5, s6, s7, s8⟩ := hSw; go_simp)⟩) HV2.out.1 ?_
              simp only [Act.put, List.getElem_toArray, List.getElem_cons_succ, List.getElem_cons_zero, List.setIfInBounds_toArray, List.set_cons_zero, List.set_cons_succ]
              refine wpAnyH_take (i := 31) (v := .int .i64 d.loss.lo) rfl (by kernel_rfl) (by kernel_rfl) (by kernel_rfl) (fun _ _ _ h => h) (Or.inl ⟨by rfl, by (intro W hSw; obtain ⟨s0, s1, s2, s3, s4, s5, s6, s7, s8⟩ := hSw; go_simp)⟩) HV2.out.1 ?_
              simp only [Act.put, List.getElem_toArray, List.getElem_cons_succ, List.getElem_cons_zero, List.setIfInBounds_toArray, List.set_cons_zero, List.set_cons_succ]
              refine wpAnyH_take (i := 32) (v := .pointer (some ⟨D, 4, none⟩)) rfl (by kernel_rfl) (by kernel_rfl) (by kernel_rfl) (fun _ _ _ h => h) (Or.inl ⟨by rfl, by (intro W hSw; obtain ⟨s0, s1, s2, s3, s4, s5, s6, s7, s8⟩ := hSw; go_simp)⟩) HV2.out.1 ?_
              simp only [Act.put, List.getElem_toArray, List.getElem_cons_succ, List.getElem_cons_zero, List.setIfInBounds_toArray, List.set_cons_zero, List.set_cons_succ]
              refine wpAnyH_take (i := 33) (v := .pointer (some ⟨D, 5, none⟩)) rfl (by kernel_rfl) (by kernel_rfl) (by kernel_rfl) (fun _ _ _ h => h) (Or.inl ⟨by rfl, by (intro W hSw; obtain ⟨s0, s1, s2, s3, s4, s5, s6, s7, s8⟩ := hSw; go_simp)⟩) HV2.out.1 ?_
              simp only [Act.put, List.getElem_toArray, List.getElem_cons_succ, List.getElem_cons_zero, List.setIfInBounds_toArray, List.set_cons_zero, List.set_cons_succ]
              refine wpAnyH_take (i := 34) (v := .int .i64 d.loss.hi) rfl (by kernel_rfl) (by kernel_rfl) (by kernel_rfl) (fun _ _ _ h => h) (Or.inl ⟨by rfl, by (intro W hSw; obtain ⟨s0, s1, s2, s3, s4, s5, s6, s7, s8⟩ := hSw; go_simp)⟩) HV2.out.1 ?_
              simp only [Act.put, List.getElem_toArray, List.getElem_cons_succ, List.getElem_cons_zero, List.setIfInBounds_toArray, List.set_cons_zero, List.set_cons_succ]
              refine wpAnyH_ready (rs := [35]) (by kernel_rfl) (by simp) ?_
              refine AllReadyH.cons (o := _) rfl (fun K hK => ?_) AllReadyH.nil
              go_simp
              go_at_call 81
              cases q3 : withinB lk d.loss.lo d.loss.hi
              · have HF : Hid ((List.range ds.length).all (skyB ds N M L) = false) := hsb.out (by rw [hsd.out, q1, q2, q3]; rfl)
                clear hsb hsd hsu
                refine (outside_yes q3 _).mono ?_
                rintro e w' ⟨rfl, rfl⟩
                refine hK.out _ _ HV2.out.1 (fun _ => ?_)
                clear hK
                simp only [List.setIfInBounds_toArray, List.set_cons_zero, List.set_cons_succ]
                refine wpAnyH_take (i := 36) (v := .bool true) rfl (by kernel_rfl) (by kernel_rfl) (by kernel_rfl) (fun _ _ _ h => h) (Or.inl ⟨by rfl, by (intro W hSw; obtain ⟨s0, s1, s2, s3, s4, s5, s6, s7, s8⟩ := hSw; go_simp)⟩) HV2.out.1 ?_
                simp only [Act.put, List.getElem_toArray, List.getElem_cons_succ, List.getElem_cons_zero, List.setIfInBounds_toArray, List.set_cons_zero, List.set_cons_succ]
                refine wpAnyH_done (by kernel_rfl) ?_ _
                go_wp2_with (fail)
                go_ret
                exact ⟨by rw [HR.out, HS.out, HF.out]; rfl, below_self H1.out.1 HV2.out.2⟩
              · skip
                have HN : Hid ((List.range (k + 1)).all (skyB ds N M L) = true) := by show _ = _; rw [hsu.out, hsk.out, hsd.out, q1, q2, q3]; rfl
                clear hsb hsd hsu hsk
                refine (outside_no q3 _).mono ?_
                rintro e w' ⟨rfl, rfl⟩
                refine hK.out _ _ HV2.out.1 (fun _ => ?_)
                clear hK
                simp only [List.setIfInBounds_toArray, List.set_cons_zero, List.set_cons_succ]
                refine wpAnyH_take (i := 36) (v := .bool false) rfl (by kernel_rfl) (by kernel_rfl) (by kernel_rfl) (fun _ _ _ h => h) (Or.inl ⟨by rfl, by (intro W hSw; obtain ⟨s0, s1, s2, s3, s4, s5, s6, s7, s8⟩ := hSw; go_simp)⟩) HV2.out.1 ?_
                simp only [Act.put, List.getElem_toArray, List.getElem_cons_succ, List.getElem_cons_zero, List.setIfInBounds_toArray, List.set_cons_zero, List.set_cons_succ]
                refine wpAnyH_done (by kernel_rfl) ?_ _
                go_wp2_with (fail)
                go_roundw
                case rel => exact ⟨k + 1, by omega, by go_num, HN, HV2.out.2⟩
                case measure => first | (simp [intOf]; done) | (simp [intOf]; omega)
        · have hk2 : k = ds.length := by omega
          have HF : Hid ((List.range ds.length).all (skyB ds N M L) = true) := by have h := hsk.out; rw [hk2] at h; exact h
          clear hk2 hsk
          go_wp2_with (fail)
          go_ret
          exact ⟨by rw [HR.out, HS.out, HF.out]; rfl, below_self H1.out.1 hX.out⟩
    · have HS : Hid (skyE ds N M L = 2) := by show _ = _; rw [skyE, if_neg (by simpa using hlen)]
      by_cases f1 : N.length = ds.length
      · have p1 : ((N.length : Int) != (ds.length : Int)) = false := by simp [f1]
        by_cases f2 : M.length = ds.length
        · have p2 : ((M.length : Int) != (ds.length : Int)) = false := by simp [f2]
          have p3 : ((L.length : Int) != (ds.length : Int)) = true := by
            have h3 : ¬ L.length = ds.length := fun h => hlen ⟨f1, f2, h⟩
            simp; omega
          clear f1 f2 hlen
          go_wp2_with (fail)
          go_ret
          exact ⟨by rw [HR.out, HS.out]; rfl, H1.out.1⟩
        · have p2 : ((M.length : Int) != (ds.length : Int)) = true := by simp; omega
          clear f1 f2 hlen
          go_wp2_with (fail)
          go_ret
          exact ⟨by rw [HR.out, HS.out]; rfl, H1.out.1⟩
      · have p1 : ((N.length : Int) != (ds.length : Int)) = true := by simp; omega
        clear f1 hlen
        go_wp2_with (fail)
        go_ret
        exact ⟨by rw [HR.out, HS.out]; rfl, H1.out.1⟩
  · have HR : Hid (wthE stock store ds N M L = winE stock store ds) := by show _ = _; rw [wthE, if_neg hwe]
    have hwb : (winE stock store ds != 0) = true := by simp [hwe]
    clear hwe
    go_wp2_with (fail)
    go_ret
    exact ⟨by rw [HR.out]; rfl, H1.out.1⟩
end Go.Proofs.YtmebmcipmemofaaGreat

namespace Go.Proofs.YtmebmcipmemofaaGreat
open Go.RowKit Go.Shelf

/-- So much is taken from the first ones. -/
def rd : List Int → Int → List Int
  | [], _ => []
  | x :: r, mu => if x ≤ mu then 0 :: rd r (mu - x) else (x - mu) :: r
/-- The piles that are not empty, with their days. -/
def posL (i : Int) : List Int → List Sp
  | [] => []
  | x :: r => if 0 < x then ⟨i, x⟩ :: posL (i + 1) r else posL (i + 1) r
theorem rd_len : ∀ (xs : List Int) (mu : Int), (rd xs mu).length = xs.length
  | [], _ => rfl
  | x :: r, mu => by
    rw [rd]; split
    · simp [rd_len r]
    · rfl
theorem rd_nonneg : ∀ (xs : List Int) (mu : Int), (∀ x ∈ xs, 0 ≤ x) → 0 ≤ mu → ∀ x ∈ rd xs mu, 0 ≤ x
  | [], _, _, _, x, hx => by cases hx
  | y :: r, mu, h, hm, x, hx => by
    rw [rd] at hx
    split at hx
    · rcases List.mem_cons.1 hx with rfl | hx
      · exact Int.le_refl _
      · exact rd_nonneg r (mu - y) (fun z hz => h z (List.mem_cons_of_mem _ hz)) (by omega) x hx
    · rcases List.mem_cons.1 hx with rfl | hx
      · omega
      · exact h x (List.mem_cons_of_mem _ hx)
theorem pos_rd : ∀ (xs : List Int) (mu i : Int), (∀ x ∈ xs, 0 ≤ x) → 0 ≤ mu → posL i (rd xs mu) = drainS (posL i xs) mu
  | [], _, _, _, _ => rfl
  | x :: r, mu, i, h, hm => by
    have hx := h x List.mem_cons_self
    have ih := pos_rd r (mu - x) (i + 1) (fun z hz => h z (List.mem_cons_of_mem _ hz))
    rw [rd]
    by_cases h1 : x ≤ mu
    · rw [if_pos h1, posL, if_neg (by omega), ih (by omega), posL]
      by_cases h0 : 0 < x
      · rw [if_pos h0, drainS, if_pos h1]
      · rw [if_neg h0, show mu - x = mu by omega]
    · rw [if_neg h1, posL, if_pos (by omega), posL, if_pos (by omega), drainS, if_neg h1]
theorem pos_append : ∀ (xs : List Int) (i m : Int), posL i (xs ++ [m]) = posL i xs ++ (if 0 < m then [⟨i + xs.length, m⟩] else [])
  | [], i, m => by
    simp only [List.nil_append, posL, List.length_nil]
    split <;> simp
  | x :: r, i, m => by
    simp only [List.cons_append, posL, List.length_cons]
    rw [pos_append r (i + 1) m]
    have : i + 1 + (r.length : Int) = i + ((r.length + 1 : Nat) : Int) := by omega
    rw [this]
    split <;> simp
theorem drain_twice : ∀ (ps : List Sp) (a b : Int), (∀ p ∈ ps, 0 < p.hi) → 0 ≤ a → 0 ≤ b → drainS (drainS ps a) b = drainS ps (a + b)
  | [], _, _, _, _, _ => rfl
  | p :: r, a, b, h, ha, hb => by
    have hp := h p List.mem_cons_self
    rw [drainS]
    by_cases h1 : p.hi ≤ a
    · rw [if_pos h1, drain_twice r (a - p.hi) b (fun z hz => h z (List.mem_cons_of_mem _ hz)) (by omega) hb, drainS, if_pos (by omega)]
      congr 1; omega
    · rw [if_neg h1, drainS]
      show (if p.hi - a ≤ b then drainS r (b - (p.hi - a)) else ⟨p.lo, p.hi - a - b⟩ :: r) = _
      by_cases h2 : p.hi - a ≤ b
      · rw [if_pos h2, drainS, if_pos (by omega)]
        congr 1; omega
      · rw [if_neg h2, drainS, if_neg (by omega)]
        congr 2; omega
theorem pos_pos : ∀ (xs : List Int) (i : Int), ∀ p ∈ posL i xs, 0 < p.hi
  | [], _, p, hp => by cases hp
  | x :: r, i, p, hp => by
    rw [posL] at hp
    split at hp
    · rcases List.mem_cons.1 hp with rfl | hp
      · assumption
      · exact pos_pos r (i + 1) p hp
    · exact pos_pos r (i + 1) p hp
/-- The piles of the reference, a day further. -/
def rpStep (store : Int) (s : Ps) (F : List Int) (n m l : Int) : List Int :=
  if s.fails = -1 then (if s.stock + (madeD store s.stock m l - lostD s.stock l) < n then F else rd (rd F (lostD s.stock l) ++ [madeD store s.stock m l]) n) else F
def rpL (stock store : Int) (N M L : List Int) : Nat → List Int
  | 0 => [stock]
  | k + 1 => rpStep store (playL stock store N M L k) (rpL stock store N M L k) (N[k]?.getD 0) (M[k]?.getD 0) (L[k]?.getD 0)
theorem play_fail (stock store : Int) (N M L : List Int) (k : Nat) (h : (playL stock store N M L (k + 1)).fails = -1) : (playL stock store N M L k).fails = -1 := by
  by_cases h0 : (playL stock store N M L k).fails = -1
  · exact h0
  · rw [playL_stop _ _ _ _ _ _ h0 (k + 1) (by omega)] at h; exact h
theorem rp_pile {stock store : Int} {N M L : List Int} (hs : 0 ≤ stock ∧ stock ≤ store) (hM : ∀ k : Nat, 0 ≤ M[k]?.getD 0) (hL : ∀ k : Nat, 0 ≤ L[k]?.getD 0) (hN : ∀ k : Nat, 0 ≤ N[k]?.getD 0) (k : Nat) :
    posL (-1) (rpL stock store N M L k) = pileL stock store N M L k ∧ (∀ x ∈ rpL stock store N M L k, 0 ≤ x) ∧ ((playL stock store N M L k).fails = -1 → (rpL stock store N M L k).length = k + 1) := by
  induction k with
  | zero =>
    refine ⟨?_, fun x hx => by have : x = stock := by simpa [rpL] using hx
                               omega, fun _ => rfl⟩
    show posL (-1) [stock] = drainS [⟨-1, stock⟩] 0
    rw [posL, drainS]
    by_cases h0 : 0 < stock
    · rw [if_pos h0, if_neg (by show ¬ stock ≤ 0; omega)]
      simp [posL]
    · rw [if_neg h0, if_pos (by show stock ≤ 0; omega)]
      rfl
  | succ k ih =>
    obtain ⟨h1, h2, h3⟩ := ih
    obtain ⟨_, _, h4, _, _⟩ := pile_inv (stock := stock) (store := store) (N := N) (M := M) (L := L) hs hM hL hN k
    have hN' := hN k
    have hM' := hM k
    have hL' := hL k
    rw [rpL, pileL, rpStep, pileStep]
    by_cases hf : (playL stock store N M L k).fails = -1
    · rw [if_pos hf, if_pos hf]
      have hlen := h3 hf
      have hfl : (playL stock store N M L k).stock + (madeD store (playL stock store N M L k).stock (M[k]?.getD 0) (L[k]?.getD 0) - lostD (playL stock store N M L k).stock (L[k]?.getD 0)) < N[k]?.getD 0 → (playL stock store N M L (k + 1)).fails ≠ -1 := fun hd => by
        rw [playL_succ, stepP, if_pos hf, if_pos hd]
        show (k : Int) ≠ -1
        omega
      generalize playL stock store N M L k = s at *
      generalize N[k]?.getD 0 = n at *
      generalize M[k]?.getD 0 = m at *
      generalize L[k]?.getD 0 = l at *
      have hlo : 0 ≤ lostD s.stock l := by unfold lostD; omega
      have hma : 0 ≤ madeD store s.stock m l := by unfold madeD lostD; omega
      by_cases hd : s.stock + (madeD store s.stock m l - lostD s.stock l) < n
      · rw [if_pos hd, if_pos hd]
        refine ⟨h1, h2, fun hh => ?_⟩
        exact absurd hh (hfl hd)
      · rw [if_neg hd, if_neg hd]
        have hn1 := rd_nonneg _ (lostD s.stock l) h2 hlo
        have hn2 : ∀ x ∈ rd (rpL stock store N M L k) (lostD s.stock l) ++ [madeD store s.stock m l], 0 ≤ x := fun x hx => by
          rcases List.mem_append.1 hx with hx | hx
          · exact hn1 x hx
          · rw [List.mem_singleton.1 hx]; exact hma
        refine ⟨?_, rd_nonneg _ n hn2 hN', fun _ => by rw [rd_len, List.length_append, rd_len, hlen]; rfl⟩
        rw [pos_rd _ n _ hn2 hN', pos_append, pos_rd _ _ _ h2 hlo, h1, rd_len, hlen]
        by_cases h0 : 0 < madeD store s.stock m l
        · rw [if_pos h0, if_pos h0, show (-1 : Int) + ((k + 1 : Nat) : Int) = (k : Int) by omega]
        · rw [if_neg h0, if_neg h0, List.append_nil, ← h1, drain_twice _ _ _ (pos_pos _ _) hlo hN']
    · rw [if_neg hf, if_neg hf]
      exact ⟨h1, h2, fun hh => absurd (play_fail _ _ _ _ _ _ hh) hf⟩
end Go.Proofs.YtmebmcipmemofaaGreat

namespace Go.Proofs.YtmebmcipmemofaaGreat
open Go.RowKit Go.Shelf

def takeD (x l : Int) : Int := if l < x then l else x
theorem rd_zero : ∀ (xs : List Int), (∀ x ∈ xs, 0 ≤ x) → rd xs 0 = xs
  | [], _ => rfl
  | x :: r, h => by
    have hx := h x List.mem_cons_self
    rw [rd]
    by_cases h1 : x ≤ 0
    · rw [if_pos h1, show (0 : Int) - x = 0 by omega, rd_zero r (fun z hz => h z (List.mem_cons_of_mem _ hz)), show (0 : Int) = x by omega]
    · rw [if_neg h1, show x - 0 = x by omega]
theorem rd_step (G : List Int) (k : Nat) (x l : Int) (hx : G[k]? = some x) (hn : ∀ x ∈ G, 0 ≤ x) :
    (G.set k (x - takeD x l)).take (k + 1) ++ rd ((G.set k (x - takeD x l)).drop (k + 1)) (l - takeD x l) = G.take k ++ rd (G.drop k) l := by
  have hk := (List.getElem?_eq_some_iff.1 hx).1
  have hx' := (List.getElem?_eq_some_iff.1 hx).2
  have hd : G.drop k = x :: G.drop (k + 1) := by rw [List.drop_eq_getElem_cons hk, hx']
  have ht : (G.set k (x - takeD x l)).take (k + 1) = G.take k ++ [x - takeD x l] := by
    rw [List.take_add_one, List.getElem?_set_self hk, List.take_set_of_le (Nat.le_refl _)]
    rfl
  have hu : (G.set k (x - takeD x l)).drop (k + 1) = G.drop (k + 1) := List.drop_set_of_lt (by omega)
  rw [ht, hu, hd, List.append_assoc]
  congr 1
  rw [rd, takeD]
  have hnn : ∀ z ∈ G.drop (k + 1), 0 ≤ z := fun z hz => hn z (List.mem_of_mem_drop hz)
  by_cases h1 : x ≤ l
  · rw [if_pos h1, if_neg (by omega)]
    show (x - x) :: _ = _
    rw [show x - x = 0 by omega]
    rfl
  · rw [if_neg h1, if_pos (by omega), show l - l = 0 by omega, rd_zero _ hnn]
    rfl
theorem rd_at_end (G : List Int) (l : Int) : G.take G.length ++ rd (G.drop G.length) l = G := by
  rw [List.take_length, List.drop_length, rd, List.append_nil]
theorem rd_at_zero (G : List Int) (k : Nat) (hn : ∀ x ∈ G, 0 ≤ x) : G.take k ++ rd (G.drop k) 0 = G := by
  rw [rd_zero _ (fun z hz => hn z (List.mem_of_mem_drop hz)), List.take_append_drop]
theorem take_bound {x l : Int} (hx : 0 ≤ x) (hl : 0 ≤ l) : 0 ≤ takeD x l ∧ takeD x l ≤ x ∧ takeD x l ≤ l := by
  unfold takeD; split <;> omega
theorem set_small {G : List Int} {k : Nat} {y : Int} (h : ∀ x ∈ G, 0 ≤ x ∧ x ≤ 1000000) (hy : 0 ≤ y ∧ y ≤ 1000000) : ∀ x ∈ G.set k y, 0 ≤ x ∧ x ≤ 1000000 := fun x hx => by
  rcases List.mem_or_eq_of_mem_set hx with h1 | rfl
  · exact h x h1
  · exact hy

/-- What is taken, with so much being left to take. -/
structure RdI (F : List Int) (mu : Int) (k : Nat) (G : List Int) (l : Int) : Prop where
  e : G.take k ++ rd (G.drop k) l = rd F mu
  n : G.length = F.length
  p : ∀ x ∈ G, 0 ≤ x ∧ x ≤ 1000000
  l0 : 0 ≤ l ∧ l ≤ 1000000
theorem RdI.start {F : List Int} {mu : Int} (hp : ∀ x ∈ F, 0 ≤ x ∧ x ≤ 1000000) (h : 0 ≤ mu ∧ mu ≤ 1000000) : RdI F mu 0 F mu := ⟨by simp, rfl, hp, h⟩
theorem RdI.next {F G : List Int} {mu l x : Int} {k : Nat} (h : RdI F mu k G l) (hx : G[k]? = some x) : RdI F mu (k + 1) (G.set k (x - takeD x l)) (l - takeD x l) := by
  have hp := h.p x (List.mem_of_getElem? hx)
  have hl := h.l0
  have hb := take_bound hp.1 hl.1
  exact ⟨(rd_step G k x l hx (fun z hz => (h.p z hz).1)).trans h.e, by rw [List.length_set, h.n], set_small h.p (by omega), by omega⟩
theorem RdI.full {F G : List Int} {mu l : Int} {k : Nat} (h : RdI F mu k G l) (hk : k = G.length ∨ l = 0) : G = rd F mu := by
  rw [← h.e]
  rcases hk with rfl | rfl
  · exact (rd_at_end G l).symm
  · exact (rd_at_zero G k (fun z hz => (h.p z hz).1)).symm

section
variable {stock store : Int} {N M L : List Int}
theorem made_len (n : Nat) : (playL stock store N M L n).made.length = (playL stock store N M L n).stocks.length := by
  induction n with
  | zero => rfl
  | succ n ih =>
    rw [playL_succ, stepP]
    split
    · split
      · exact ih
      · simp [ih]
    · exact ih
theorem play_nth (n : Nat) : ∀ i, i < (playL stock store N M L n).stocks.length → i < n ∧ (playL stock store N M L i).fails = -1 ∧ (playL stock store N M L (i + 1)).fails = -1 ∧ (playL stock store N M L n).stocks[i]? = some (playL stock store N M L (i + 1)).stock ∧ (playL stock store N M L n).made[i]? = some (madeD store (playL stock store N M L i).stock (M[i]?.getD 0) (L[i]?.getD 0)) := by
  have HL : ∀ n, ((playL stock store N M L n).fails = -1 → (playL stock store N M L n).stocks.length = n) ∧ (playL stock store N M L n).made.length = (playL stock store N M L n).stocks.length := by
    intro n
    induction n with
    | zero => exact ⟨fun _ => rfl, rfl⟩
    | succ n ih =>
      rw [playL_succ, stepP]
      by_cases hf : (playL stock store N M L n).fails = -1
      · rw [if_pos hf]
        by_cases hd : (playL stock store N M L n).stock + (madeD store (playL stock store N M L n).stock (M[n]?.getD 0) (L[n]?.getD 0) - lostD (playL stock store N M L n).stock (L[n]?.getD 0)) < N[n]?.getD 0
        · rw [if_pos hd]
          exact ⟨fun h => by have : (n : Int) = -1 := h
                             omega, ih.2⟩
        · rw [if_neg hd]
          exact ⟨fun _ => by simp [ih.1 hf], by simp [ih.2]⟩
      · rw [if_neg hf]
        exact ⟨fun h => absurd h hf, ih.2⟩
  induction n with
  | zero => intro i hi; exact absurd hi (Nat.not_lt_zero _)
  | succ n ih =>
    intro i hi
    have hs := playL_succ stock store N M L n
    rw [stepP] at hs
    by_cases hf : (playL stock store N M L n).fails = -1
    · rw [if_pos hf] at hs
      by_cases hd : (playL stock store N M L n).stock + (madeD store (playL stock store N M L n).stock (M[n]?.getD 0) (L[n]?.getD 0) - lostD (playL stock store N M L n).stock (L[n]?.getD 0)) < N[n]?.getD 0
      · rw [if_pos hd] at hs
        have e1 : (playL stock store N M L (n + 1)).stocks = (playL stock store N M L n).stocks := by rw [hs]
        have e2 : (playL stock store N M L (n + 1)).made = (playL stock store N M L n).made := by rw [hs]
        rw [e1] at hi
        rw [e1, e2]
        obtain ⟨a, b⟩ := ih i hi
        exact ⟨by omega, b⟩
      · rw [if_neg hd] at hs
        have hl := (HL n).1 hf
        have hm := (HL n).2
        have e1 : (playL stock store N M L (n + 1)).stocks = (playL stock store N M L n).stocks ++ [(playL stock store N M L (n + 1)).stock] := by rw [hs]
        have e2 : (playL stock store N M L (n + 1)).made = (playL stock store N M L n).made ++ [madeD store (playL stock store N M L n).stock (M[n]?.getD 0) (L[n]?.getD 0)] := by rw [hs]
        have e3 : (playL stock store N M L (n + 1)).fails = -1 := by rw [hs]
        by_cases hin : i < (playL stock store N M L n).stocks.length
        · obtain ⟨a, b, c, d, e⟩ := ih i hin
          exact ⟨by omega, b, c, by rw [e1, List.getElem?_append_left hin]; exact d, by rw [e2, List.getElem?_append_left (by omega)]; exact e⟩
        · have hi' : i = n := by rw [e1, List.length_append, List.length_singleton] at hi; omega
          subst hi'
          refine ⟨by omega, hf, e3, ?_, ?_⟩
          · rw [e1, List.getElem?_append_right (by omega), show i - (playL stock store N M L i).stocks.length = 0 by omega]; rfl
          · rw [e2, List.getElem?_append_right (by omega), show i - (playL stock store N M L i).made.length = 0 by omega]; rfl
    · rw [if_neg hf] at hs
      rw [hs] at hi ⊢
      obtain ⟨a, b⟩ := ih i hi
      exact ⟨by omega, b⟩
theorem rp_next {n i : Nat} (h : i < (playL stock store N M L n).stocks.length) : rpL stock store N M L (i + 1) = rd (rd (rpL stock store N M L i) (lostD (playL stock store N M L i).stock (L[i]?.getD 0)) ++ [madeD store (playL stock store N M L i).stock (M[i]?.getD 0) (L[i]?.getD 0)]) (N[i]?.getD 0) := by
  obtain ⟨_, b, c, _, _⟩ := play_nth n i h
  rw [rpL, rpStep, if_pos b]
  by_cases hd : (playL stock store N M L i).stock + (madeD store (playL stock store N M L i).stock (M[i]?.getD 0) (L[i]?.getD 0) - lostD (playL stock store N M L i).stock (L[i]?.getD 0)) < N[i]?.getD 0
  · rw [playL_succ, stepP, if_pos b, if_pos hd] at c
    have : (i : Int) = -1 := c
    omega
  · rw [if_neg hd]
theorem rp_end (n : Nat) : rpL stock store N M L n = rpL stock store N M L (playL stock store N M L n).stocks.length ∧ ((playL stock store N M L n).fails = -1 → (playL stock store N M L n).stocks.length = n) := by
  induction n with
  | zero => exact ⟨rfl, fun _ => rfl⟩
  | succ n ih =>
    have hs := playL_succ stock store N M L n
    rw [stepP] at hs
    by_cases hf : (playL stock store N M L n).fails = -1
    · rw [if_pos hf] at hs
      by_cases hd : (playL stock store N M L n).stock + (madeD store (playL stock store N M L n).stock (M[n]?.getD 0) (L[n]?.getD 0) - lostD (playL stock store N M L n).stock (L[n]?.getD 0)) < N[n]?.getD 0
      · rw [if_pos hd] at hs
        refine ⟨?_, fun h => ?_⟩
        · rw [rpL, rpStep, if_pos hf, if_pos hd, ih.1, hs]
        · rw [hs] at h
          have : (n : Int) = -1 := h
          omega
      · rw [if_neg hd] at hs
        have hl : (playL stock store N M L (n + 1)).stocks.length = n + 1 := by rw [hs]; simp [ih.2 hf]
        exact ⟨by rw [hl], fun _ => hl⟩
    · rw [if_neg hf] at hs
      refine ⟨?_, fun h => ?_⟩
      · rw [rpL, rpStep, if_neg hf, ih.1, hs]
      · rw [hs] at h; exact absurd h hf
end
end Go.Proofs.YtmebmcipmemofaaGreat

namespace Go.Proofs.YtmebmcipmemofaaGreat
open Go.RowKit Go.Shelf
attribute [local go_sem] Oper.semAt_some

/-- A list of the call's own, above all that there was before. -/
structure PZ (w0 W : World) (g c n : Nat) (F : List Int) : Prop where
  b : Below w0.heap.size w0 W
  o : W.ownsRow w0.heap.size 3 1 (.slice (some ⟨g, 0, none⟩) n c) n (F.map (Value.int .i64))
theorem PZ.len {w0 W : World} {g c n : Nat} {F : List Int} (h : PZ w0 W g c n F) : F.length = n := by have := h.o.1; simpa using this
theorem PZ.blk {w0 W : World} {g c n : Nat} {F : List Int} (h : PZ w0 W g c n F) : w0.heap.size ≤ g ∧ n ≤ c ∧ c ≤ maxLen ∧ ∃ cur : Array Value, W.heap[g]? = some (.cells cur 3 (0, 0)) ∧ cur.size = c * 1 ∧ cur.toList.take (n * 1) = F.map (Value.int .i64) := by
  rcases h.o.2 with ⟨h1, _⟩ | ⟨g', cap', cur, h1, hb, hg, hnc, hcm, hcs, htake⟩
  · cases h1
  · cases h1
    exact ⟨hb, hnc, hcm, cur, hg, hcs, htake⟩
theorem PZ.cell {w0 W : World} {g c n : Nat} {F : List Int} (h : PZ w0 W g c n F) {j : Nat} {x : Int} (hj : F[j]? = some x) : W.cell? ⟨g, j, none⟩ = some (.int .i64 x) := by
  obtain ⟨_, _, _, cur, h1, _, h2⟩ := h.blk
  refine blk_cell h1 j ?_
  have hl := (List.getElem?_eq_some_iff.1 hj).1
  have h3 : (cur.toList.take (n * 1))[j]? = some (.int .i64 x) := by rw [h2, List.getElem?_map, hj]; rfl
  have hn := h.len
  rw [List.getElem?_take_of_lt (by omega), Array.getElem?_toList] at h3
  exact h3
theorem PZ.free {w0 W : World} {g c n : Nat} {F : List Int} (h : PZ w0 W g c n F) (j : Nat) : W.frozen? ⟨g, j, none⟩ = false := by
  obtain ⟨_, _, _, cur, h1, _⟩ := h.blk
  exact blk_free h1
theorem PZ.put {w0 W : World} {g c n : Nat} {F : List Int} (h : PZ w0 W g c n F) (j : Nat) (x : Int) : PZ w0 (W.setCell ⟨g, j, none⟩ (.int .i64 x)) g c n (F.set j x) := by
  obtain ⟨hg, hn, hc, cur, h1, h2, h3⟩ := h.blk
  have hl := h.len
  refine ⟨h.b.setCell (p := ⟨g, j, none⟩) hg _, by rw [List.length_map, List.length_set, Nat.mul_one, hl], .inr ⟨g, c, _, rfl, hg, blk_setCell h1, hn, hc, by rw [Array.size_setIfInBounds]; exact h2, ?_⟩⟩
  rw [Array.toList_setIfInBounds, List.take_set, h3, List.map_set]
theorem PZ.below {w0 W W' : World} {g c n : Nat} {F : List Int} (h : PZ w0 W g c n F) (hb : Below W.heap.size W W') : PZ w0 W' g c n F := ⟨below_self h.b hb, owns_below h.o hb⟩
theorem PZ.start (w0 : World) (x : Int) : PZ w0 (w0.alloc (.cells #[.int .i64 x] 3)) w0.heap.size 1 1 [x] :=
  ⟨(Below.refl _ _).alloc (Nat.le_refl _) _, rfl, .inr ⟨w0.heap.size, 1, #[.int .i64 x], rfl, Nat.le_refl _, heap_alloc_new _ _, Nat.le_refl _, by unfold maxLen; omega, rfl, rfl⟩⟩
theorem PZ.push {w0 W W' : World} {g c n : Nat} {F : List Int} {v' : Value} {x : Int} (h : PZ w0 W g c n F) (ho : W'.ownsRow w0.heap.size 3 1 v' (n + 1) (F.map (Value.int .i64) ++ [.int .i64 x])) (hg : W.grownBy W' (Value.slice (some ⟨g, 0, none⟩) n c).ownBlock) :
    ∃ g' c', v' = .slice (some ⟨g', 0, none⟩) (n + 1) c' ∧ PZ w0 W' g' c' (n + 1) (F ++ [x]) := by
  have hgb := h.blk.1
  have hB : Below w0.heap.size w0 W' := ⟨hg.os.trans h.b.os, hg.tape.trans h.b.tape, hg.output.trans h.b.output, Nat.le_trans h.b.size hg.size, fun j hj => (hg.block j (Nat.lt_of_lt_of_le hj h.b.size) (fun e => by
    have : j = g := by simpa [Value.ownBlock] using e
    omega)).trans (h.b.block j hj)⟩
  have ho' := ho
  rcases ho.2 with ⟨_, h0⟩ | ⟨g', c', cur, rfl, _⟩
  · exact absurd h0 (by omega)
  · exact ⟨g', c', rfl, hB, by rw [List.map_append, List.map_cons, List.map_nil]; exact ho'⟩
end Go.Proofs.YtmebmcipmemofaaGreat
