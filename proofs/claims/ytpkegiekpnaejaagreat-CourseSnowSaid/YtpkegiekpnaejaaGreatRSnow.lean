/-
  For every input CourseSnow returns true, and the input reads as it read: the given statement.
  Conditions: none but the statement's own.
-/
import Derived.Test.YtpkegiekpnaejaaGreatPart19
import Derived.Carry
import Derived.Deep.Slices
import Derived.Deep.Fields
namespace Go.Proofs.YtpkegiekpnaejaaGreat
open Go.ChangeShapes Go.WideShapes Go.ChangeAt Go.RowKit

section
variable {H : Type} {enc : TypeId × Value → H}
theorem pick_lt {α : Type} {n : Nat} {p : Nat → α → Prop} (z : α) (h : ∀ i, i < n → ∃ x, p i x) : ∃ f : Nat → α, ∀ i, i < n → p i (f i) := by
  refine ⟨fun i => if hi : i < n then (h i hi).choose else z, fun i hi => ?_⟩
  simp only [dif_pos hi]
  exact (h i hi).choose_spec
theorem spot_none {W : World} {a : Addr} {v : Value} (h : W.cell? a = some v) : a.spot = none := World.cell?_spot h
theorem blk_lt {W : World} {b o : Nat} {v : Value} (h : W.cell? ⟨b, o, none⟩ = some v) : b < W.heap.size := by
  by_cases hb : b < W.heap.size
  · exact hb
  · simp [World.cell?, Array.getElem?_eq_none (Nat.le_of_not_lt hb)] at h
set_option maxRecDepth 100000 in
/-- A list of numbers that is an argument. -/
theorem nums_open {W : World} {base : Nat} {v : Value} {d : DataW H} {p : List MemPlace} (hval : Value.okWide Tryz.prog W .any base 27 v) (h : DataW.Trod enc Tryz.prog W 0 (fun _ => true) true 27 v d p) :
    ∃ a xs cap, v = .slice a xs.length cap ∧ IntSl W a xs ∧ (a = none → xs.length = 0 ∧ cap = 0) := by
  obtain ⟨a, len, cap, rfl⟩ := okWide_slice Tryz.underlying27 hval
  obtain ⟨fuel, hf⟩ := h
  rcases Go.Deep.open_slice1 Tryz.underlying27 (by kernel_rfl) hf with ⟨hcs, hx⟩ | ⟨a', len', cap', m, n, V, D, Pl, hcs, _, hl, hm, hmm, hx, hcell⟩
  · simp [Value.cells] at hcs
    obtain ⟨rfl, rfl, rfl⟩ := hcs
    exact ⟨none, [], 0, rfl, fun h0 => absurd h0 (Nat.lt_irrefl 0), fun _ => ⟨rfl, rfl⟩⟩
  · simp [Value.cells] at hcs
    obtain ⟨rfl, rfl, rfl⟩ := hcs
    simp only [if_true] at hmm
    subst hmm
    have hV : ∀ i, i < len → ∃ x : Int, V i = .int .i64 x := fun i hi => by
      obtain ⟨_, h2⟩ := hcell i (by omega)
      obtain ⟨x, hx, _⟩ := DataW.trod_int Tryz.underlying3 h2
      simp at hx
      exact ⟨x, hx⟩
    obtain ⟨f, hg⟩ := pick_lt (p := fun i x => V i = .int .i64 x) 0 hV
    refine ⟨some a', (List.range len).map f, m, by simp, fun h0 => ?_, fun h => by cases h⟩
    have hl0 : 0 < len := by simpa using h0
    obtain ⟨b, off, spot⟩ := a'
    have h1 := (hcell 0 (by omega)).1
    have hspot : spot = none := by simpa [Addr.add] using spot_none h1
    subst hspot
    have hadd : ∀ j, (⟨b, off, none⟩ : Addr).add j = ⟨b, off + j, none⟩ := fun j => by rw [Addr.add_lit]
    rw [hadd] at h1
    refine ⟨b, off, rfl, blk_lt h1, fun j hj => ?_⟩
    have hj' : j < len := by simpa using hj
    have h2 := (hcell j (by omega)).1
    rw [hadd, hg j hj'] at h2
    rw [h2]
    simp [List.getElem?_map, List.getElem?_range hj']

set_option maxRecDepth 100000 in
/-- A list of loops that is an argument. -/
theorem lps_open {W : World} {base : Nat} {v : Value} {d : DataW H} {p : List MemPlace} (hval : Value.okWide Tryz.prog W .any base 22 v) (h : DataW.Trod enc Tryz.prog W 0 (fun _ => true) true 22 v d p) :
    ∃ a xs cap, v = .slice a xs.length cap ∧ Sl 3 Lp.cells W a xs ∧ (a = none → xs.length = 0 ∧ cap = 0) := by
  obtain ⟨a, len, cap, rfl⟩ := okWide_slice Tryz.underlying22 hval
  obtain ⟨fuel, hf⟩ := h
  have hC : Tryz.prog.cellsOf 32 = 3 := by kernel_rfl
  rcases Go.Deep.open_slice Tryz.underlying22 hf with ⟨hcs, hx⟩ | ⟨a', len', cap', m, n, D, Pl, hcs, _, hl, hm, hmm, hx, hcell⟩
  · simp [Value.cells] at hcs
    obtain ⟨rfl, rfl, rfl⟩ := hcs
    exact ⟨none, [], 0, rfl, fun h0 => absurd h0 (Nat.lt_irrefl 0), fun _ => ⟨rfl, rfl⟩⟩
  · simp [Value.cells] at hcs
    obtain ⟨rfl, rfl, rfl⟩ := hcs
    simp only [if_true] at hmm
    subst hmm
    rw [hC] at hcell
    have hV : ∀ i, i < len → ∃ x : Lp, ∀ j u, (Lp.cells x)[j]? = some u → W.cell? (a'.add (i * 3 + j)) = some (.int .i64 u) := fun i hi => by
      obtain ⟨cs', h1, h2⟩ := hcell i (by omega)
      obtain ⟨_, hcl, hat⟩ := World.cells?_some h1
      obtain ⟨xs, n', _, hx', _, hlen, hg⟩ := DataW.trod_struct Tryz.underlying32 h2
      match cs', hcl with
      | [c0, c1, c2], _ =>
        have g0 := hg 0 _ rfl
        have g1 := hg 1 _ rfl
        have g2 := hg 2 _ rfl
        match xs, hlen with
        | [y0, y1, y2], _ =>
          have e0 : DataW.trod enc Tryz.prog W 0 (fun _ => true) true n' 3 [c0] = some y0 := by simpa [show Tryz.prog.cellsOf 3 = 1 by kernel_rfl] using g0
          have e1 : DataW.trod enc Tryz.prog W 0 (fun _ => true) true n' 3 [c1] = some y1 := by simpa [show Tryz.prog.cellsOf 3 = 1 by kernel_rfl] using g1
          have e2 : DataW.trod enc Tryz.prog W 0 (fun _ => true) true n' 3 [c2] = some y2 := by simpa [show Tryz.prog.cellsOf 3 = 1 by kernel_rfl] using g2
          obtain ⟨x0, q0, _⟩ := DataW.trod_int Tryz.underlying3 e0
          obtain ⟨x1, q1, _⟩ := DataW.trod_int Tryz.underlying3 e1
          obtain ⟨x2, q2, _⟩ := DataW.trod_int Tryz.underlying3 e2
          simp at q0 q1 q2
          subst q0 q1 q2
          refine ⟨⟨x0, x1, x2⟩, fun j u hu => ?_⟩
          have hj : j < 3 := by
            rcases Nat.lt_or_ge j 3 with h | h
            · exact h
            · rw [List.getElem?_eq_none (by rw [Lp.cells_len]; exact h)] at hu; cases hu
          have h3 := hat j hj
          rw [Go.Deep.add_add] at h3
          rw [h3]
          match j, hj with
          | 0, _ => simp [Lp.cells] at hu; subst hu; rfl
          | 1, _ => simp [Lp.cells] at hu; subst hu; rfl
          | 2, _ => simp [Lp.cells] at hu; subst hu; rfl
    obtain ⟨f, hg⟩ := pick_lt (p := fun i (x : Lp) => ∀ j u, (Lp.cells x)[j]? = some u → W.cell? (a'.add (i * 3 + j)) = some (.int .i64 u)) ⟨0, 0, 0⟩ hV
    refine ⟨some a', (List.range len).map f, m, by simp, fun h0 => ?_, fun h => by cases h⟩
    have hl0 : 0 < len := by simpa using h0
    obtain ⟨b, off, spot⟩ := a'
    have h1 := hg 0 hl0 0 _ rfl
    have hspot : spot = none := by simpa [Addr.add] using spot_none h1
    subst hspot
    have hadd : ∀ j, (⟨b, off, none⟩ : Addr).add j = ⟨b, off + j, none⟩ := fun j => by rw [Addr.add_lit]
    rw [hadd] at h1
    refine ⟨b, off, rfl, blk_lt h1, fun j x i u hx hu => ?_⟩
    have hj' : j < len := by
      rcases Nat.lt_or_ge j len with h | h
      · exact h
      · rw [List.getElem?_eq_none (by simpa using h)] at hx; cases hx
    rw [List.getElem?_map, List.getElem?_range hj'] at hx
    simp at hx
    subst hx
    have h2 := hg j hj' i u hu
    rw [hadd] at h2
    rw [show off + j * 3 + i = off + (j * 3 + i) by omega]
    exact h2

set_option maxRecDepth 100000 in
/-- Rules that are an argument. -/
theorem rules_open {W : World} {base : Nat} {v : Value} {d : DataW H} {p : List MemPlace} (hval : Value.okWide Tryz.prog W .any base 26 v) (h : DataW.Trod enc Tryz.prog W 0 (fun _ => true) true 26 v d p) :
    ∃ r : Ru, v = r.v := by
  obtain ⟨cs, rfl, hsz⟩ := okWide_struct Tryz.underlying26 hval
  obtain ⟨l⟩ := cs
  have h9 : Tryz.prog.cellsOf 26 = 9 := by kernel_rfl
  have h3 : Tryz.prog.cellsOf 3 = 1 := by kernel_rfl
  have h24 : Tryz.prog.cellsOf 24 = 2 := by kernel_rfl
  match l, hsz.trans h9 with
  | [c0, c1, c2, c3, c4, c5, c6, c7, c8], _ =>
    obtain ⟨fuel, hf⟩ := h
    obtain ⟨xs, n, _, _, _, hlen, hg⟩ := DataW.trod_struct Tryz.underlying26 hf
    have g0 := hg 0 _ rfl
    have g1 := hg 1 _ rfl
    have g2 := hg 2 _ rfl
    have g3 := hg 3 _ rfl
    have g4 := hg 4 _ rfl
    have g5 := hg 5 _ rfl
    match xs, hlen with
    | [y0, y1, y2, y3, y4, y5], _ =>
      have sp : ∀ (u v : Value) (y : DataW H × List MemPlace), DataW.trod enc Tryz.prog W 0 (fun _ => true) true n 24 [u, v] = some y → ∃ s : Sp, u = .int .i64 s.lo ∧ v = .int .i64 s.hi := fun u v y hy => by
        obtain ⟨zs, n', _, _, _, hl2, hh⟩ := DataW.trod_struct Tryz.underlying24 hy
        have k0 := hh 0 _ rfl
        have k1 := hh 1 _ rfl
        match zs, hl2 with
        | [z0, z1], _ =>
          have e0 : DataW.trod enc Tryz.prog W 0 (fun _ => true) true n' 3 [u] = some z0 := by simpa [h3] using k0
          have e1 : DataW.trod enc Tryz.prog W 0 (fun _ => true) true n' 3 [v] = some z1 := by simpa [h3] using k1
          obtain ⟨x0, q0, _⟩ := DataW.trod_int Tryz.underlying3 e0
          obtain ⟨x1, q1, _⟩ := DataW.trod_int Tryz.underlying3 e1
          simp at q0 q1
          exact ⟨⟨x0, x1⟩, q0, q1⟩
      have e0 : DataW.trod enc Tryz.prog W 0 (fun _ => true) true n 3 [c0] = some y0 := by simpa [h3, Value.cells] using g0
      have e1 : DataW.trod enc Tryz.prog W 0 (fun _ => true) true n 24 [c1, c2] = some y1 := by simpa [h24, Value.cells] using g1
      have e2 : DataW.trod enc Tryz.prog W 0 (fun _ => true) true n 24 [c3, c4] = some y2 := by simpa [h24, Value.cells] using g2
      have e3 : DataW.trod enc Tryz.prog W 0 (fun _ => true) true n 24 [c5, c6] = some y3 := by simpa [h24, Value.cells] using g3
      have e4 : DataW.trod enc Tryz.prog W 0 (fun _ => true) true n 3 [c7] = some y4 := by simpa [h3, Value.cells] using g4
      have e5 : DataW.trod enc Tryz.prog W 0 (fun _ => true) true n 3 [c8] = some y5 := by simpa [h3, Value.cells] using g5
      obtain ⟨x0, q0, _⟩ := DataW.trod_int Tryz.underlying3 e0
      obtain ⟨s1, q1, q2⟩ := sp _ _ _ e1
      obtain ⟨s2, q3, q4⟩ := sp _ _ _ e2
      obtain ⟨s3, q5, q6⟩ := sp _ _ _ e3
      obtain ⟨x4, q7, _⟩ := DataW.trod_int Tryz.underlying3 e4
      obtain ⟨x5, q8, _⟩ := DataW.trod_int Tryz.underlying3 e5
      simp at q0 q7 q8
      subst q0 q1 q2 q3 q4 q5 q6 q7 q8
      exact ⟨⟨x0, s1, s2, s3, x4, x5⟩, rfl⟩
end

section
variable {H : Type} {enc : TypeId × Value → H} {P : Program} {w : World} {base : Nat} {spare : Nat → Bool} {held : Bool}
/-- Five arguments. -/
theorem trodAll_five {t t' t'' t3 t4 : TypeId} {args : Array Value} {ds : List (DataW H)} {ps : List MemPlace} (h : DataW.TrodAll enc P w base spare held [t, t', t'', t3, t4] args.toList ds ps) :
    ∃ v v' v'' v3 v4 d d' d'' d3 d4 p p' p'' p3 p4, args = #[v, v', v'', v3, v4] ∧ ds = [d, d', d'', d3, d4] ∧ ps = p ++ (p' ++ (p'' ++ (p3 ++ p4))) ∧ DataW.Trod enc P w base spare held t v d p ∧ DataW.Trod enc P w base spare held t' v' d' p' ∧ DataW.Trod enc P w base spare held t'' v'' d'' p'' ∧ DataW.Trod enc P w base spare held t3 v3 d3 p3 ∧ DataW.Trod enc P w base spare held t4 v4 d4 p4 := by
  obtain ⟨v, vs, d, ds1, p, q, hargs, rfl, rfl, hd, hrest⟩ := trodAll_cons h
  obtain ⟨v', vs', d', ds2, p', q', rfl, rfl, rfl, hd', hrest'⟩ := trodAll_cons hrest
  obtain ⟨v'', vs'', d'', ds3, p'', q'', rfl, rfl, rfl, hd'', hrest''⟩ := trodAll_cons hrest'
  obtain ⟨v3, vs3, d3, ds4, p3, q3, rfl, rfl, rfl, hd3, hrest3⟩ := trodAll_cons hrest''
  obtain ⟨v4, vs4, d4, ds5, p4, q4, rfl, rfl, rfl, hd4, hrest4⟩ := trodAll_cons hrest3
  obtain ⟨rfl, rfl, rfl⟩ := trodAll_nil hrest4
  exact ⟨v, v', v'', v3, v4, d, d', d'', d3, d4, p, p', p'', p3, p4, by cases args; simp_all, rfl, by simp, hd, hd', hd'', hd3, hd4⟩
theorem trodAll_mk5 {t t' t'' t3 t4 : TypeId} {v v' v'' v3 v4 : Value} {d d' d'' d3 d4 : DataW H} {p p' p'' p3 p4 : List MemPlace} (h : DataW.Trod enc P w base spare held t v d p) (h' : DataW.Trod enc P w base spare held t' v' d' p')
    (h'' : DataW.Trod enc P w base spare held t'' v'' d'' p'') (h3 : DataW.Trod enc P w base spare held t3 v3 d3 p3) (h4 : DataW.Trod enc P w base spare held t4 v4 d4 p4) : DataW.TrodAll enc P w base spare held [t, t', t'', t3, t4] [v, v', v'', v3, v4] [d, d', d'', d3, d4] (p ++ (p' ++ (p'' ++ (p3 ++ p4)))) := ⟨p, p' ++ (p'' ++ (p3 ++ p4)), h, trodAll_mk4 h' h'' h3 h4, rfl⟩
end

set_option maxRecDepth 100000 in
theorem snow_lifted (os : Os) (started : os.Started) (H : Type) (enc : TypeId × Value → H) :
    ReturnsInHanded {} Tryz.checked os 3 .any (Rows.courseSnowSpec.pre6 enc Tryz.prog Tryz.f3 Rows.courseSnowRow.domain false) (Rows.courseSnowSpec.post enc Tryz.prog Tryz.f3 false true false false) := by
  refine returnsInHanded_of_change_sized (C := Tryz.checked) Tryz.own started (by kernel_rfl) Tryz.func3
    (ChangeSpec.witness6 (enc := enc) (C := Tryz.checked) false ⟨#[], #[.slice none 0 0, .agg #[.int .i64 0, .int .i64 0, .int .i64 0, .int .i64 0, .int .i64 0, .int .i64 0, .int .i64 0, .int .i64 0, .int .i64 0], .slice none 0 0, .int .i64 0, .int .i64 0], []⟩ 8 (by kernel_rfl) (by kernel_rfl) (by kernel_rfl) (by kernel_rfl)) ?_
  intro W base args ds gs before hval0 hW _ hsz0 _
  clear hsz0
  have hval : ∀ (j : Nat) t v, Tryz.f3.params[j]? = some t → args[j]? = some v → Value.okWide Tryz.prog W .any base t v := hval0
  have hW' := hW
  obtain ⟨p, q, hA0, hV, rfl, hfz, hnd⟩ := hW
  have hA : DataW.TrodAll enc Tryz.prog W 0 (fun _ => true) true Tryz.f3.params.toList args.toList ds p := hA0
  rw [Tryz.params3] at hA hval
  obtain ⟨v0, v1, v2, v3, v4, d0, d1, d2, d3, d4, p0, p1, p2, p3, p4, rfl, rfl, rfl, h0, h1, h2, h3, h4⟩ := trodAll_five hA
  obtain ⟨rfl, rfl⟩ := trodVars_none hV
  have hlt0 : ∀ x ∈ p0, x.block < W.heap.size := fun x hx => by simpa using hW'.lt x (by simp [hx])
  have hlt1 : ∀ x ∈ p1, x.block < W.heap.size := fun x hx => by simpa using hW'.lt x (by simp [hx])
  have hlt2 : ∀ x ∈ p2, x.block < W.heap.size := fun x hx => by simpa using hW'.lt x (by simp [hx])
  obtain ⟨a0, xs, c0, rfl, hx, hna⟩ := lps_open (hval 0 22 v0 rfl rfl) h0
  obtain ⟨r, rfl⟩ := rules_open (hval 1 26 v1 rfl rfl) h1
  obtain ⟨a2, c, c2, rfl, hc, hnc⟩ := nums_open (hval 2 27 v2 rfl rfl) h2
  obtain ⟨n3, rfl, rfl, rfl, hw3⟩ := open_int Tryz.underlying3 (hval 3 3 v3 rfl rfl) h3
  obtain ⟨n4, rfl, rfl, rfl, hw4⟩ := open_int Tryz.underlying3 (hval 4 3 v4 rfl rfl) h4
  clear hA0 hval0 h3 h4
  simp only [List.append_nil] at hW'
  refine (snow_law a0 xs c0 r a2 c c2 n3 n4 W hx hc hna hnc).mono fun e W' ⟨he, hbel⟩ => ?_
  subst he
  have hT := trodAll_mk5 (Below.trod Tryz.laidOut (by kernel_rfl) (of_decide_eq_true (by kernel_rfl)) h0 hbel hlt0) (Below.trod Tryz.laidOut (by kernel_rfl) (of_decide_eq_true (by kernel_rfl)) h1 hbel hlt1) (Below.trod Tryz.laidOut (by kernel_rfl) (of_decide_eq_true (by kernel_rfl)) h2 hbel hlt2) (shut_int (n := n3) Tryz.underlying3 hw3) (shut_int (n := n4) Tryz.underlying3 hw4)
  simp only [List.append_nil] at hT
  exact ⟨_, rfl, _, _, _, [], _, [], hW', trodAll_mk1 (shut_bool Tryz.underlying4 _), hT, rfl, hbel.frame _, fun h => by cases h⟩

theorem snow_holds : Rows.CourseSnowSaid :=
  OpenClaim.holds_of_wide 3 Tryz.f3 rfl rfl rfl rfl rfl rfl rfl ⟨rfl, rfl, rfl, rfl, rfl⟩ rfl rfl rfl rfl rfl (by kernel_rfl) Tryz.func3 (by kernel_rfl)
    (of_decide_eq_true (by kernel_rfl)) (by unfold Func.isWrapper; first | (rw [if_pos (by decide +kernel)]; kernel_rfl) | (rw [if_neg (by decide +kernel)]; exact ⟨rfl, rfl⟩))
    (fun os started H enc _ => snow_lifted os started H enc)
#print axioms snow_holds
end Go.Proofs.YtpkegiekpnaejaaGreat
