/-
The contracts of the reference's right and All over this seat's program.
  What is proved: they hand back the right courses in lexicographic order, or the error; nothing that was there before has turned.
  Conditions: slices of at most 1000000 elements; for right a stadium and rules that are allowed.
-/
import Derived.Test.YtpkegiekpnaejaaGreatPart15
import Derived.Deep.RegionHeld3
import Derived.Deep.DeepCutAuto
namespace Go.Proofs.YtpkegiekpnaejaaGreat
open Go.RowKit Go.Shelf
attribute [local go_sem] Oper.semAt_some

/-- Rules in a box of the reference's kind. -/
def RB38 (w : World) (B : Nat) (r : Ru) : Prop := w.heap[B]? = some (.cells #[.int .i64 r.laps, .int .i64 r.len.lo, .int .i64 r.len.hi, .int .i64 r.climb.lo, .int .i64 r.climb.hi, .int .i64 r.lap.lo, .int .i64 r.lap.hi, .int .i64 r.wide, .int .i64 r.uses] 36 (0, 0))
theorem RB38.below {w w' : World} {B : Nat} {r : Ru} (h : RB38 w B r) (hb : Below w.heap.size w w') : RB38 w' B r := blk_below h hb

/-- Values that are slices of integers of an earlier world. -/
structure Rows0 (W : World) (vals : List Value) (cs : List (List Int)) : Prop where
  len : vals.length = cs.length
  at' : ∀ (j : Nat) (c : List Int), cs[j]? = some c → ∃ (a : Option Addr) (cap : Nat), vals[j]? = some (Value.slice a c.length cap) ∧ IntSl W a c
theorem Rows0.nil (W : World) : Rows0 W [] [] := ⟨rfl, fun j c h => by simp at h⟩
theorem Rows0.snoc {W : World} {vals : List Value} {cs : List (List Int)} (h : Rows0 W vals cs) {a : Option Addr} {c : List Int} {cap : Nat} (hi : IntSl W a c) :
    Rows0 W (vals ++ [.slice a c.length cap]) (cs ++ [c]) := by
  refine ⟨by simp [h.len], fun j d hd => ?_⟩
  rcases Nat.lt_or_ge j cs.length with hj | hj
  · rw [List.getElem?_append_left hj] at hd
    rw [List.getElem?_append_left (by rw [h.len]; exact hj)]
    exact h.at' j d hd
  · rw [List.getElem?_append_right hj] at hd
    rw [List.getElem?_append_right (by rw [h.len]; exact hj), h.len]
    obtain ⟨i, hi'⟩ : ∃ i, j - cs.length = i := ⟨_, rfl⟩
    rw [hi'] at hd ⊢
    match i, hd with
    | 0, hd => simp at hd; subst hd; exact ⟨a, cap, rfl, hi⟩
    | i + 1, hd => simp at hd
theorem sls_of_owns0 {V W : World} {base : Nat} {v : Value} {vals : List Value} {cs : List (List Int)} (h : W.ownsRow base 27 1 v vals.length vals) (hr : Rows0 V vals cs) (hb : Below V.heap.size V W) : ∃ a cap, v = .slice a cs.length cap ∧ SlsAt W a cs := by
  rcases h.2 with ⟨rfl, h0⟩ | ⟨g, cap, cur, rfl, hb', hg, hnc, hcm, hcs, htake⟩
  · exact ⟨none, 0, by rw [← hr.len, h0], fun hp => by rw [← hr.len] at hp; omega⟩
  · refine ⟨some ⟨g, 0, none⟩, cap, by rw [hr.len], fun _ => ⟨g, 0, rfl, lt_of_block hg, fun j c hj => ?_⟩⟩
    obtain ⟨a', cap', h1, h2⟩ := hr.at' j c hj
    have hc := h.cells (g := g) rfl j _ h1
    have : (⟨g, 0, none⟩ : Addr).add j = ⟨g, 0 + j, none⟩ := by unfold Addr.add; split <;> simp_all
    rw [this] at hc
    exact ⟨a', cap', hc, h2.below hb⟩

theorem rules_none (m : Mk) : (((rulesL m).length : Int) == 0) = m.none := by
  obtain ⟨a, b, c, d, e⟩ := m
  cases a <;> cases b <;> cases c <;> cases d <;> cases e <;> rfl
theorem rulesL_le (m : Mk) : (rulesL m).length ≤ 5 := rulesTo_le m.list 5
theorem ext_ok (L d : Nat) (hL : 0 < L) (hd : 1 ≤ d ∧ d ≤ 6) (c : List Int) (h : c ∈ extC L d [] 0) : courseE L c = 0 := by
  rw [← numC_all L d hL hd, numC, List.mem_filter] at h
  simpa using h.2
theorem ext_few (L d : Nat) (hL : 1 ≤ L ∧ L ≤ 12) (hd : 1 ≤ d ∧ d ≤ 6) : (extC L d [] 0).length ≤ 2985984 := by
  rw [← numC_all L d (by omega) hd]
  exact Nat.le_trans (numC_len _ _ _) (pow_le L d hL hd.2)
theorem ext_one (L d : Nat) (hL : 1 ≤ L ∧ L ≤ 12) : 1 ≤ (extC L d [] 0).length := by
  rw [ext_all L d [] 0 (Nat.zero_le _), List.length_map]
  have : List.replicate d (0 : Int) ∈ (allC L d).filter (sf 0) := by
    have hm : ∀ d : Nat, List.replicate d (0 : Int) ∈ (allC L d).filter (sf 0) := by
      intro d
      induction d with
      | zero => simp [allC, sf]
      | succ d ih =>
        obtain ⟨h1, h2⟩ := List.mem_filter.1 ih
        refine List.mem_filter.2 ⟨?_, by rw [List.replicate_succ, sf]; simpa using h2⟩
        simp only [allC, List.mem_flatten, List.mem_map, List.mem_range]
        exact ⟨_, ⟨0, by omega, rfl⟩, List.mem_map.2 ⟨_, h1, rfl⟩⟩
    exact hm d
  exact List.length_pos_of_mem this
theorem take_filter {α : Type} (p : α → Bool) (S : List α) (k : Nat) (hk : k < S.length) : (S.take (k + 1)).filter p = (S.take k).filter p ++ if p S[k] = true then [S[k]] else [] := by
  rw [List.take_add_one, List.getElem?_eq_getElem hk, List.filter_append]
  congr 1
  simp [List.filter_cons]

set_option maxHeartbeats 4000000 in
set_option maxRecDepth 100000 in
theorem refRight_any (a : Option Addr) (xs : List Lp) (cap : Nat) (r : Ru) (w : World) (hx : Sl 3 Lp.cells w a xs) (hck : checkE xs r = 0) :
    Calls Tryz.prog 85 #[.slice a xs.length cap, r.v] w (OutSls w (rightL xs r)) := by
  obtain ⟨i0, hi, hz0, hz1, hz2⟩ := info_parts Tryz.info27
  have hB0 : Below w.heap.size w (w.alloc (.cells #[.int .i64 r.laps, .int .i64 r.len.lo, .int .i64 r.len.hi, .int .i64 r.climb.lo, .int .i64 r.climb.hi, .int .i64 r.lap.lo, .int .i64 r.lap.hi, .int .i64 r.wide, .int .i64 r.uses] 36)) := (Below.refl _ _).alloc (Nat.le_refl _) _
  have hR0 : RB38 (w.alloc (.cells #[.int .i64 r.laps, .int .i64 r.len.lo, .int .i64 r.len.hi, .int .i64 r.climb.lo, .int .i64 r.climb.hi, .int .i64 r.lap.lo, .int .i64 r.lap.hi, .int .i64 r.wide, .int .i64 r.uses] 36)) w.heap.size r := heap_alloc_new _ _
  have HX := Lib.hid (And.intro hx (check_ok hck).1)
  obtain ⟨hst, hl1, hl2⟩ := stad_ok (check_ok hck).1
  obtain ⟨hd0, hd1, hd2⟩ := laps_nat hck
  have HRL : Hid (rightL xs r = (extC xs.length r.laps.toNat [] 0).filter (okC xs r)) := rfl
  generalize r.laps.toNat = d at hd0 hd1 hd2 HRL
  have HE := Lib.hid (ext_ok xs.length d (by omega) ⟨hd1, hd2⟩)
  have hfew := ext_few xs.length d ⟨hl1, hl2⟩ ⟨hd1, hd2⟩
  have HD0 := Lib.hid hd0
  clear hx hck hst hd0
  go_enter Tryz.func85, Tryz.ntmps85
  go_wp2_with (fail)
  have HB0 := Lib.hid hB0
  have HR0 := Lib.hid hR0
  have HXA := Lib.hid (HX.out.1.below hB0)
  generalize w.alloc (.cells #[.int .i64 r.laps, .int .i64 r.len.lo, .int .i64 r.len.hi, .int .i64 r.climb.lo, .int .i64 r.climb.hi, .int .i64 r.lap.lo, .int .i64 r.lap.hi, .int .i64 r.wide, .int .i64 r.uses] 36) = W0 at HB0 HR0 HXA ⊢
  clear hB0 hR0
  have HC := refCourses_any a xs cap d W0 ⟨hl1, hl2⟩ ⟨hd1, hd2⟩
  rw [← HD0.out] at HC
  refine HC.mono ?_
  clear HC
  rintro e W1 ⟨la, lcap, rfl, hS, hb⟩
  generalize hSd : extC xs.length d [] 0 = S at *
  have HB1 := Lib.hid (And.intro (below_self HB0.out hb) hb)
  have HR1 := Lib.hid (HR0.out.below hb)
  have HS := Lib.hid hS
  have HX1 := Lib.hid (HXA.out.below hb)
  clear hS hb hSd HXA HR0
  go_wp2_with (fail)
  go_loopw [6, 7] (fun v6 iv wr => ∃ (k : Nat) (oa : Option Addr) (ocap : Nat) (vals : List Value), v6 = .slice oa vals.length ocap ∧ iv = .int .i64 k ∧ k ≤ S.length ∧ vals.length ≤ k ∧ Hid (wr.ownsRow W1.heap.size 27 1 (.slice oa vals.length ocap) vals.length vals ∧ Rows0 W1 vals ((S.take k).filter (okC xs r)) ∧ Below W1.heap.size W1 wr)) (fun _ iv _ => S.length - (intOf iv).toNat)
  case atStart => exact ⟨0, none, 0, [], rfl, rfl, Nat.zero_le _, Nat.le_refl _, World.ownsRow_nil _ _ _ _, Rows0.nil _, Below.refl _ _⟩
  case round =>
    obtain ⟨k, oa, ocap, vals, rfl, rfl, hk, hvk, hI⟩ := hrel
    obtain ⟨V, hV⟩ : ∃ V, V = wr := ⟨_, rfl⟩
    subst hV
    by_cases hlt : k < S.length
    · obtain ⟨b, off, rfl, hbs, hc⟩ := HS.out (by omega)
      obtain ⟨ac, ccap, hcell, hint⟩ := hc k S[k] (List.getElem?_eq_getElem hlt)
      have HCO := Lib.hid (HE.out S[k] (List.getElem_mem hlt))
      have HT := Lib.hid (take_filter (okC xs r) S k hlt)
      have HI := Lib.hid hint
      have x1 := (hI.out.2.2.cell (p := ⟨b, off + k, none⟩) hbs).trans hcell
      have HBS := Lib.hid hbs
      clear hc hcell hint hbs
      generalize S[k] = c at *
      have HR2 := Lib.hid (HR1.out.below hI.out.2.2)
      have HX2 := Lib.hid (HX1.out.below hI.out.2.2)
      have HI2 := Lib.hid (HI.out.below hI.out.2.2)
      go_upto_region 6 with (fail)
      have c0 := blk_cell HR2.out 0 rfl
      have c1 := blk_cell HR2.out 1 rfl
      have c2 := blk_cell HR2.out 2 rfl
      have c3 := blk_cell HR2.out 3 rfl
      have c4 := blk_cell HR2.out 4 rfl
      have c5 := blk_cell HR2.out 5 rfl
      have c6 := blk_cell HR2.out 6 rfl
      have c7 := blk_cell HR2.out 7 rfl
      have c8 := blk_cell HR2.out 8 rfl
      go_region_held3 (fun w' => w'.cell? ⟨b, off + k, none⟩ = some (.slice ac c.length ccap) ∧ w'.cell? ⟨w.heap.size, 0, none⟩ = some (.int .i64 r.laps) ∧ w'.cell? ⟨w.heap.size, 1, none⟩ = some (.int .i64 r.len.lo) ∧ w'.cell? ⟨w.heap.size, 2, none⟩ = some (.int .i64 r.len.hi) ∧ w'.cell? ⟨w.heap.size, 3, none⟩ = some (.int .i64 r.climb.lo) ∧ w'.cell? ⟨w.heap.size, 4, none⟩ = some (.int .i64 r.climb.hi) ∧ w'.cell? ⟨w.heap.size, 5, none⟩ = some (.int .i64 r.lap.lo) ∧ w'.cell? ⟨w.heap.size, 6, none⟩ = some (.int .i64 r.lap.hi) ∧ w'.cell? ⟨w.heap.size, 7, none⟩ = some (.int .i64 r.wide) ∧ w'.cell? ⟨w.heap.size, 8, none⟩ = some (.int .i64 r.uses)) (go_keep)
        (first
          | (go_at_call 133; refine (refBroken_in a xs cap r ac c ccap _ (HX2.out.below ((Below.refl _ _).drew)) (HI2.out.below ((Below.refl _ _).drew)) HX.out.2 HCO.out).mono ?_; rintro e W3 ⟨ra, rcap, rfl, h1, h2, hb⟩; have HB3 := Lib.hid (below_self (below_self hI.out.2.2 ((Below.refl V.heap.size V).drew)) hb); have HV3 := Lib.hid (below_self ((Below.refl V.heap.size V).drew) hb); clear h1 h2 hb; clear c0 c1 c2 c3 c4 c5 c6 c7 c8; have hh := HR1.out.below HB3.out; have y1 := (HV3.out.cell (p := ⟨b, off + k, none⟩) (Nat.lt_of_lt_of_le HBS.out hI.out.2.2.size)).trans x1; have c0 := blk_cell hh 0 rfl; have c1 := blk_cell hh 1 rfl; have c2 := blk_cell hh 2 rfl; have c3 := blk_cell hh 3 rfl; have c4 := blk_cell hh 4 rfl; have c5 := blk_cell hh 5 rfl; have c6 := blk_cell hh 6 rfl; have c7 := blk_cell hh 7 rfl; have c8 := blk_cell hh 8 rfl; clear hh))
      all_goals (
        clear c0 c1 c2 c3 c4 c5 c6 c7 c8
        have hrn := rules_none (judgeM xs r c)
        have hown := owns_below hI.out.1 HV3.out
        have HO := Lib.hid hown
        clear hown
        cases hok : okC xs r c
        · rw [show (judgeM xs r c).none = false from hok] at hrn
          have HT2 : Hid ((S.take (k + 1)).filter (okC xs r) = (S.take k).filter (okC xs r)) := by show _ = _; rw [HT.out, hok]; simp
          clear hok
          go_wp2_with (fail)
          clear hrn
          go_roundw
          case rel =>
            refine ⟨k + 1, oa, ocap, vals, rfl, by go_num, by omega, by omega, ?_⟩
            show _ ∧ _ ∧ _
            rw [HT2.out]
            exact ⟨HO.out, hI.out.2.1, HB3.out⟩
          case measure => simp [intOf]; omega
        · rw [show (judgeM xs r c).none = true from hok] at hrn
          have HT2 : Hid ((S.take (k + 1)).filter (okC xs r) = (S.take k).filter (okC xs r) ++ [c]) := by show _ = _; rw [HT.out, hok]; simp
          clear hok
          go_wp2_with (at_builtin; refine wpList_append_own_at _ rfl _ _ 43 rfl W1.heap.size 27 i0 (.slice none 0 0) 1 24 Tryz.underlying43 hi hz0 hz1 hz2 rfl (by decide) (.slice oa vals.length ocap) vals.length vals rfl (HO.out.alloc _) ⟨W3.heap.size, 0, none⟩ 1 1 [.slice ac c.length ccap] rfl rfl (cell_one_new _ _ _) (by simp [Value.oneCell']) (by unfold maxLen; omega) (by omega) (by have := HB3.out.size; rw [World.size_alloc]; omega) ?_)
          intro v' W4 hown4 hgrow4 _ _
          obtain ⟨g', cap', rfl⟩ := ownsRow_succ hown4
          have hsz := HB3.out.size
          have hrow : ∀ j, (Value.slice oa vals.length ocap).ownBlock = some j → W1.heap.size ≤ j := fun j hj => (HO.out.lt j hj).1
          have hB4 : Below W1.heap.size W1 W4 := (HB3.out.alloc (by omega) _).grown hgrow4 (by simp; omega) (fun j hj => hrow j hj)
          have R2 := hI.out.2.1.snoc (cap := ccap) HI.out
          have HF := Lib.hid (And.intro hown4 (And.intro R2 hB4))
          clear hown4 hgrow4 hsz hrow hB4 R2 HO
          go_wp2_with (fail)
          clear hrn
          go_roundw
          case rel =>
            refine ⟨k + 1, some ⟨g', 0, none⟩, cap', vals ++ [Value.slice ac c.length ccap], by simp, by go_num, by omega, by simp; omega, ?_⟩
            show _ ∧ _ ∧ _
            rw [HT2.out, show (vals ++ [Value.slice ac c.length ccap]).length = vals.length + 1 by simp]
            exact HF.out
          case measure => simp [intOf]; omega)
    · have hke : k = S.length := by omega
      subst hke
      go_wp2_with (fail)
      go_ret
      have h1 := hI.out.2.1
      rw [List.take_length, ← HRL.out] at h1
      obtain ⟨a4, cap4, h5, h6⟩ := sls_of_owns0 hI.out.1 h1 hI.out.2.2
      exact ⟨a4, cap4, by rw [← h5]; rfl, h6, below_self HB1.out.1 hI.out.2.2⟩

set_option maxHeartbeats 2000000 in
set_option maxRecDepth 100000 in
theorem refAll_any (a : Option Addr) (xs : List Lp) (cap : Nat) (r : Ru) (w : World) (hx : Sl 3 Lp.cells w a xs) (hl : xs.length ≤ 1000000) :
    Calls Tryz.prog 98 #[.slice a xs.length cap, r.v] w (AllOut xs r w) := by
  have hB0 : Below w.heap.size w (w.alloc (.cells #[.int .i64 r.laps, .int .i64 r.len.lo, .int .i64 r.len.hi, .int .i64 r.climb.lo, .int .i64 r.climb.hi, .int .i64 r.lap.lo, .int .i64 r.lap.hi, .int .i64 r.wide, .int .i64 r.uses] 36)) := (Below.refl _ _).alloc (Nat.le_refl _) _
  have hR0 : RB38 (w.alloc (.cells #[.int .i64 r.laps, .int .i64 r.len.lo, .int .i64 r.len.hi, .int .i64 r.climb.lo, .int .i64 r.climb.hi, .int .i64 r.lap.lo, .int .i64 r.lap.hi, .int .i64 r.wide, .int .i64 r.uses] 36)) w.heap.size r := heap_alloc_new _ _
  have HX := Lib.hid hx
  clear hx
  go_enter Tryz.func98, Tryz.ntmps98
  go_wp2_with (fail)
  have HXA := Lib.hid (HX.out.below hB0)
  generalize w.alloc (.cells #[.int .i64 r.laps, .int .i64 r.len.lo, .int .i64 r.len.hi, .int .i64 r.climb.lo, .int .i64 r.climb.hi, .int .i64 r.lap.lo, .int .i64 r.lap.hi, .int .i64 r.wide, .int .i64 r.uses] 36) = W0 at hB0 hR0 HXA ⊢
  refine (refCheck_any a xs cap r _ HXA.out hl).mono ?_
  rintro e W1 ⟨rfl, hb⟩
  have HB1 := Lib.hid (below_self hB0 hb)
  have HR1 := Lib.hid (RB38.below hR0 hb)
  have HX1 := Lib.hid (HXA.out.below hb)
  clear hB0 hR0 hb
  by_cases h1 : checkE xs r = 0
  · have h1b : (checkE xs r != 0) = false := by simp [h1]
    have HR : Hid (allR xs r = (if (rightL xs r).length ≤ 300 then rightL xs r else [], if (rightL xs r).length ≤ 300 then 0 else 10)) := by show _ = _; rw [allR, if_pos h1]
    have H1 := Lib.hid h1
    clear h1
    have c0 := blk_cell HR1.out 0 rfl
    have c1 := blk_cell HR1.out 1 rfl
    have c2 := blk_cell HR1.out 2 rfl
    have c3 := blk_cell HR1.out 3 rfl
    have c4 := blk_cell HR1.out 4 rfl
    have c5 := blk_cell HR1.out 5 rfl
    have c6 := blk_cell HR1.out 6 rfl
    have c7 := blk_cell HR1.out 7 rfl
    have c8 := blk_cell HR1.out 8 rfl
    go_wp2_with (fail)
    clear c0 c1 c2 c3 c4 c5 c6 c7 c8
    refine (refRight_any a xs cap r W1 HX1.out H1.out).mono ?_
    rintro e W2 ⟨la, lcap, rfl, hS, hb⟩
    have HS := Lib.hid (And.intro hS (below_self HB1.out hb))
    clear hS hb h1b
    generalize rightL xs r = S at *
    by_cases h3 : 300 < S.length
    · have h3b : decide (300 < S.length) = true := decide_eq_true h3
      have HR2 : Hid (allR xs r = ([], 10)) := by show _ = _; rw [HR.out, if_neg (by omega), if_neg (by omega)]
      go_wp2_with (fail)
      go_ret2
      show OutCs w (allR xs r).1 (allR xs r).2 _ _
      rw [HR2.out]
      exact ⟨none, 0, rfl, fun h => by simp at h, HS.out.2⟩
    · have h3b : decide (300 < S.length) = false := decide_eq_false h3
      have HR2 : Hid (allR xs r = (S, 0)) := by show _ = _; rw [HR.out, if_pos (by omega), if_pos (by omega)]
      go_wp2_with (fail)
      go_ret2
      show OutCs w (allR xs r).1 (allR xs r).2 _ _
      rw [HR2.out]
      exact ⟨la, lcap, rfl, HS.out.1, HS.out.2⟩
  · have h1b : (checkE xs r != 0) = true := by simp [h1]
    have HR : Hid (allR xs r = ([], checkE xs r)) := by show _ = _; rw [allR, if_neg h1]
    clear h1
    go_wp2_with (fail)
    go_ret2
    show OutCs w (allR xs r).1 (allR xs r).2 _ _
    rw [HR.out]
    exact ⟨none, 0, rfl, fun h => by simp at h, HB1.out⟩
end Go.Proofs.YtpkegiekpnaejaaGreat
