/-
  For every input CourseWinters returns true, and the input reads as it read: the given statement.
  Conditions: none but the statement's own.
-/
import Derived.Test.YtmebmcipmemofaaGreatPart19
import Derived.Carry
import Derived.Deep.Slices
import Derived.Deep.Fields
namespace Go.Proofs.YtmebmcipmemofaaGreat
open Go.ChangeShapes Go.WideShapes Go.ChangeAt Go.RowKit

section
variable {H : Type} {enc : TypeId × Value → H}
theorem pick_lt {α : Type} {n : Nat} {p : Nat → α → Prop} (z : α) (h : ∀ i, i < n → ∃ x, p i x) : ∃ f : Nat → α, ∀ i, i < n → p i (f i) := by
  refine ⟨fun i => if hi : i < n then (h i hi).choose else z, fun i hi => ?_⟩
  simp only [dif_pos hi]
  exact (h i hi).choose_spec
theorem spot_none {W : World} {a : Addr} {v : Value} (h : W.cell? a = some v) : a.spot = none := World.cell?_spot h
theorem blk_lt {W : World} {b o : Nat} {v : Value} (h : W.cell? ⟨b, o, none⟩ = some v) : b < W.heap.size := by
  by_cases hb : b < W.heap.size
  · exact hb
  · simp [World.cell?, Array.getElem?_eq_none (Nat.le_of_not_lt hb)] at h
/-- A span among a day's cells. -/
theorem span_cells {W : World} {n : Nat} {u v : Value} {y : DataW H × List MemPlace} (hy : DataW.trod enc Tryz.prog W 0 (fun _ => true) true n 24 [u, v] = some y) : ∃ s : Sp, u = .int .i64 s.lo ∧ v = .int .i64 s.hi := by
  have h3 : Tryz.prog.cellsOf 3 = 1 := by kernel_rfl
  obtain ⟨zs, n', _, _, _, hl2, hh⟩ := DataW.trod_struct Tryz.underlying24 hy
  have k0 := hh 0 _ rfl
  have k1 := hh 1 _ rfl
  match zs, hl2 with
  | [z0, z1], _ =>
    have e0 : DataW.trod enc Tryz.prog W 0 (fun _ => true) true n' 3 [u] = some z0 := by simpa [h3] using k0
    have e1 : DataW.trod enc Tryz.prog W 0 (fun _ => true) true n' 3 [v] = some z1 := by simpa [h3] using k1
    obtain ⟨x0, q0, _⟩ := DataW.trod_int Tryz.underlying3 e0
    obtain ⟨x1, q1, _⟩ := DataW.trod_int Tryz.underlying3 e1
    simp at q0 q1
    exact ⟨⟨x0, x1⟩, q0, q1⟩

set_option maxRecDepth 100000 in
/-- A list of days in a cell. -/
theorem days_cell {W : World} {c : Value} {fuel : Nat} {y : DataW H × List MemPlace} (hf : DataW.trod enc Tryz.prog W 0 (fun _ => true) true fuel 54 [c] = some y) :
    ∃ a xs cap, c = .slice a xs.length cap ∧ Sl 6 Dy.cells W a xs ∧ (a = none → xs.length = 0 ∧ cap = 0) := by
  have hC : Tryz.prog.cellsOf 97 = 6 := by kernel_rfl
  have h24 : Tryz.prog.cellsOf 24 = 2 := by kernel_rfl
  obtain ⟨y1, y2⟩ := y
  rcases Go.Deep.open_slice Tryz.underlying54 hf with ⟨hcs, hx⟩ | ⟨a', len, cap', m, n, D, Pl, hcs, _, hl, hm, hmm, hx, hcell⟩
  · simp at hcs
    subst hcs
    exact ⟨none, [], 0, rfl, fun h0 => absurd h0 (Nat.lt_irrefl 0), fun _ => ⟨rfl, rfl⟩⟩
  · simp at hcs
    subst hcs
    simp only [if_true] at hmm
    subst hmm
    rw [hC] at hcell
    have hV : ∀ i, i < len → ∃ x : Dy, ∀ j u, (Dy.cells x)[j]? = some u → W.cell? (a'.add (i * 6 + j)) = some (.int .i64 u) := fun i hi => by
      obtain ⟨cs', h1, h2⟩ := hcell i (by omega)
      obtain ⟨_, hcl, hat⟩ := World.cells?_some h1
      obtain ⟨xs, n', _, hx', _, hlen, hg⟩ := DataW.trod_struct Tryz.underlying97 h2
      match cs', hcl with
      | [c0, c1, c2, c3, c4, c5], _ =>
        have g0 := hg 0 _ rfl
        have g1 := hg 1 _ rfl
        have g2 := hg 2 _ rfl
        match xs, hlen with
        | [y0, y1, y2], _ =>
          have e0 : DataW.trod enc Tryz.prog W 0 (fun _ => true) true n' 24 [c0, c1] = some y0 := by simpa [h24] using g0
          have e1 : DataW.trod enc Tryz.prog W 0 (fun _ => true) true n' 24 [c2, c3] = some y1 := by simpa [h24] using g1
          have e2 : DataW.trod enc Tryz.prog W 0 (fun _ => true) true n' 24 [c4, c5] = some y2 := by simpa [h24] using g2
          obtain ⟨s0, q0, q1⟩ := span_cells e0
          obtain ⟨s1, q2, q3⟩ := span_cells e1
          obtain ⟨s2, q4, q5⟩ := span_cells e2
          subst q0 q1 q2 q3 q4 q5
          refine ⟨⟨s0, s1, s2⟩, fun j u hu => ?_⟩
          have hj : j < 6 := by
            rcases Nat.lt_or_ge j 6 with h | h
            · exact h
            · rw [List.getElem?_eq_none (by rw [Dy.cells_len]; exact h)] at hu; cases hu
          have h3 := hat j hj
          rw [Go.Deep.add_add] at h3
          rw [h3]
          match j, hj with
          | 0, _ => simp [Dy.cells] at hu; subst hu; rfl
          | 1, _ => simp [Dy.cells] at hu; subst hu; rfl
          | 2, _ => simp [Dy.cells] at hu; subst hu; rfl
          | 3, _ => simp [Dy.cells] at hu; subst hu; rfl
          | 4, _ => simp [Dy.cells] at hu; subst hu; rfl
          | 5, _ => simp [Dy.cells] at hu; subst hu; rfl
    obtain ⟨f, hg⟩ := pick_lt (p := fun i (x : Dy) => ∀ j u, (Dy.cells x)[j]? = some u → W.cell? (a'.add (i * 6 + j)) = some (.int .i64 u)) ⟨⟨0, 0⟩, ⟨0, 0⟩, ⟨0, 0⟩⟩ hV
    refine ⟨some a', (List.range len).map f, m, by simp, fun h0 => ?_, fun h => by cases h⟩
    have hl0 : 0 < len := by simpa using h0
    obtain ⟨b, off, spot⟩ := a'
    have h1 := hg 0 hl0 0 _ rfl
    have hspot : spot = none := by simpa [Addr.add] using spot_none h1
    subst hspot
    have hadd : ∀ j, (⟨b, off, none⟩ : Addr).add j = ⟨b, off + j, none⟩ := fun j => by rw [Addr.add_lit]
    rw [hadd] at h1
    refine ⟨b, off, rfl, blk_lt h1, fun j x i u hx hu => ?_⟩
    have hj' : j < len := by
      rcases Nat.lt_or_ge j len with h | h
      · exact h
      · rw [List.getElem?_eq_none (by simpa using h)] at hx; cases hx
    rw [List.getElem?_map, List.getElem?_range hj'] at hx
    simp at hx
    subst hx
    have h2 := hg j hj' i u hu
    rw [hadd] at h2
    rw [show off + j * 6 + i = off + (j * 6 + i) by omega]
    exact h2

set_option maxRecDepth 100000 in
/-- A winter that is an argument. -/
theorem winter_open {W : World} {base : Nat} {v : Value} {d : DataW H} {p : List MemPlace} (hval : Value.okWide Tryz.prog W .any base 56 v) (h : DataW.Trod enc Tryz.prog W 0 (fun _ => true) true 56 v d p) :
    ∃ (stock store : Int) (a : Option Addr) (ds : List Dy) (cap : Nat), v = wv stock store a ds.length cap ∧ Sl 6 Dy.cells W a ds ∧ (a = none → ds.length = 0 ∧ cap = 0) := by
  obtain ⟨cs, rfl, hsz⟩ := okWide_struct Tryz.underlying56 hval
  obtain ⟨l⟩ := cs
  have h9 : Tryz.prog.cellsOf 56 = 3 := by kernel_rfl
  have h3 : Tryz.prog.cellsOf 3 = 1 := by kernel_rfl
  have h54 : Tryz.prog.cellsOf 54 = 1 := by kernel_rfl
  match l, hsz.trans h9 with
  | [c0, c1, c2], _ =>
    obtain ⟨fuel, hf⟩ := h
    obtain ⟨xs, n, _, _, _, hlen, hg⟩ := DataW.trod_struct Tryz.underlying56 hf
    have g0 := hg 0 _ rfl
    have g1 := hg 1 _ rfl
    have g2 := hg 2 _ rfl
    match xs, hlen with
    | [y0, y1, y2], _ =>
      have e0 : DataW.trod enc Tryz.prog W 0 (fun _ => true) true n 3 [c0] = some y0 := by simpa [h3, Value.cells] using g0
      have e1 : DataW.trod enc Tryz.prog W 0 (fun _ => true) true n 3 [c1] = some y1 := by simpa [h3, Value.cells] using g1
      have e2 : DataW.trod enc Tryz.prog W 0 (fun _ => true) true n 54 [c2] = some y2 := by simpa [h3, h54, Value.cells] using g2
      obtain ⟨x0, q0, _⟩ := DataW.trod_int Tryz.underlying3 e0
      obtain ⟨x1, q1, _⟩ := DataW.trod_int Tryz.underlying3 e1
      obtain ⟨a, ds, cap, rfl, hs, hn⟩ := days_cell e2
      simp at q0 q1
      subst q0 q1
      exact ⟨x0, x1, a, ds, cap, rfl, hs, hn⟩

set_option maxRecDepth 100000 in
/-- A list of numbers in a cell. -/
theorem nums_cell {W : World} {c : Value} {fuel : Nat} {y : DataW H × List MemPlace} (hf : DataW.trod enc Tryz.prog W 0 (fun _ => true) true fuel 27 [c] = some y) :
    ∃ a xs cap, c = .slice a xs.length cap ∧ IntSl W a xs ∧ (a = none → xs.length = 0 ∧ cap = 0) := by
  obtain ⟨y1, y2⟩ := y
  rcases Go.Deep.open_slice1 Tryz.underlying27 (by kernel_rfl) hf with ⟨hcs, hx⟩ | ⟨a', len, cap', m, n, V, D, Pl, hcs, _, hl, hm, hmm, hx, hcell⟩
  · simp at hcs
    subst hcs
    exact ⟨none, [], 0, rfl, fun h0 => absurd h0 (Nat.lt_irrefl 0), fun _ => ⟨rfl, rfl⟩⟩
  · simp at hcs
    subst hcs
    simp only [if_true] at hmm
    subst hmm
    have hV : ∀ i, i < len → ∃ x : Int, V i = .int .i64 x := fun i hi => by
      obtain ⟨_, h2⟩ := hcell i (by omega)
      obtain ⟨x, hx, _⟩ := DataW.trod_int Tryz.underlying3 h2
      simp at hx
      exact ⟨x, hx⟩
    obtain ⟨f, hg⟩ := pick_lt (p := fun i x => V i = .int .i64 x) 0 hV
    refine ⟨some a', (List.range len).map f, m, by simp, fun h0 => ?_, fun h => by cases h⟩
    have hl0 : 0 < len := by simpa using h0
    obtain ⟨b, off, spot⟩ := a'
    have h1 := (hcell 0 (by omega)).1
    have hspot : spot = none := by simpa [Addr.add] using spot_none h1
    subst hspot
    have hadd : ∀ j, (⟨b, off, none⟩ : Addr).add j = ⟨b, off + j, none⟩ := fun j => by rw [Addr.add_lit]
    rw [hadd] at h1
    refine ⟨b, off, rfl, blk_lt h1, fun j hj => ?_⟩
    have hj' : j < len := by simpa using hj
    have h2 := (hcell j (by omega)).1
    rw [hadd, hg j hj'] at h2
    rw [h2]
    simp [List.getElem?_map, List.getElem?_range hj']

set_option maxRecDepth 100000 in
/-- A weather that is an argument. -/
theorem weather_open {W : World} {base : Nat} {v : Value} {d : DataW H} {p : List MemPlace} (hval : Value.okWide Tryz.prog W .any base 58 v) (h : DataW.Trod enc Tryz.prog W 0 (fun _ => true) true 58 v d p) :
    ∃ (an : Option Addr) (N : List Int) (cn : Nat) (am : Option Addr) (M : List Int) (cm : Nat) (al : Option Addr) (L : List Int) (cl : Nat), v = tv an N.length cn am M.length cm al L.length cl ∧ (IntSl W an N ∧ IntSl W am M ∧ IntSl W al L) ∧ (an = none → N.length = 0 ∧ cn = 0) ∧ (am = none → M.length = 0 ∧ cm = 0) ∧ (al = none → L.length = 0 ∧ cl = 0) := by
  obtain ⟨cs, rfl, hsz⟩ := okWide_struct Tryz.underlying58 hval
  obtain ⟨l⟩ := cs
  have h9 : Tryz.prog.cellsOf 58 = 3 := by kernel_rfl
  have h27 : Tryz.prog.cellsOf 27 = 1 := by kernel_rfl
  match l, hsz.trans h9 with
  | [c0, c1, c2], _ =>
    obtain ⟨fuel, hf⟩ := h
    obtain ⟨xs, n, _, _, _, hlen, hg⟩ := DataW.trod_struct Tryz.underlying58 hf
    have g0 := hg 0 _ rfl
    have g1 := hg 1 _ rfl
    have g2 := hg 2 _ rfl
    match xs, hlen with
    | [y0, y1, y2], _ =>
      have e0 : DataW.trod enc Tryz.prog W 0 (fun _ => true) true n 27 [c0] = some y0 := by simpa [h27, Value.cells] using g0
      have e1 : DataW.trod enc Tryz.prog W 0 (fun _ => true) true n 27 [c1] = some y1 := by simpa [h27, Value.cells] using g1
      have e2 : DataW.trod enc Tryz.prog W 0 (fun _ => true) true n 27 [c2] = some y2 := by simpa [h27, Value.cells] using g2
      obtain ⟨an, N, cn, rfl, i1, n1⟩ := nums_cell e0
      obtain ⟨am, M, cm, rfl, i2, n2⟩ := nums_cell e1
      obtain ⟨al, L, cl, rfl, i3, n3⟩ := nums_cell e2
      exact ⟨an, N, cn, am, M, cm, al, L, cl, rfl, ⟨i1, i2, i3⟩, n1, n2, n3⟩
end

set_option maxRecDepth 100000 in
theorem winters_lifted (os : Os) (started : os.Started) (H : Type) (enc : TypeId × Value → H) :
    ReturnsInHanded {} Tryz.checked os 4 .any (Rows.courseWintersSpec.pre6 enc Tryz.prog Tryz.f4 Rows.courseWintersRow.domain false) (Rows.courseWintersSpec.post enc Tryz.prog Tryz.f4 false true false false) := by
  refine returnsInHanded_of_change_sized (C := Tryz.checked) Tryz.own started (by kernel_rfl) Tryz.func4
    (ChangeSpec.witness6 (enc := enc) (C := Tryz.checked) false ⟨#[], #[.agg #[.int .i64 0, .int .i64 0, .slice none 0 0], .agg #[.slice none 0 0, .slice none 0 0, .slice none 0 0]], []⟩ 8 (by kernel_rfl) (by kernel_rfl) (by kernel_rfl) (by kernel_rfl)) ?_
  intro W base args ds gs before hval0 hW _ hsz0 _
  clear hsz0
  have hval : ∀ (j : Nat) t v, Tryz.f4.params[j]? = some t → args[j]? = some v → Value.okWide Tryz.prog W .any base t v := hval0
  have hW' := hW
  obtain ⟨p, q, hA0, hV, rfl, hfz, hnd⟩ := hW
  have hA : DataW.TrodAll enc Tryz.prog W 0 (fun _ => true) true Tryz.f4.params.toList args.toList ds p := hA0
  rw [Tryz.params4] at hA hval
  obtain ⟨v0, v1, d0, d1, p0, p1, rfl, rfl, rfl, h0, h1⟩ := trodAll_two hA
  obtain ⟨rfl, rfl⟩ := trodVars_none hV
  have hlt0 : ∀ x ∈ p0, x.block < W.heap.size := fun x hx => by simpa using hW'.lt x (by simp [hx])
  have hlt1 : ∀ x ∈ p1, x.block < W.heap.size := fun x hx => by simpa using hW'.lt x (by simp [hx])
  obtain ⟨stock, store, a, dys, cap, rfl, hx, hna⟩ := winter_open (hval 0 56 v0 rfl rfl) h0
  obtain ⟨an, N, cn, am, M, cm, al, L, cl, rfl, hi, hnn⟩ := weather_open (hval 1 58 v1 rfl rfl) h1
  clear hA0 hval0
  simp only [List.append_nil] at hW'
  refine (winters_law stock store a dys cap an N cn am M cm al L cl W hx hna hi.1 hi.2.1 hi.2.2 hnn).mono fun e W' ⟨he, hbel⟩ => ?_
  subst he
  exact ⟨_, rfl, _, _, _, [], _, [], hW', trodAll_mk1 (shut_bool Tryz.underlying4 _), trodAll_mk2 (Below.trod Tryz.laidOut (by kernel_rfl) (of_decide_eq_true (by kernel_rfl)) h0 hbel hlt0) (Below.trod Tryz.laidOut (by kernel_rfl) (of_decide_eq_true (by kernel_rfl)) h1 hbel hlt1), rfl, hbel.frame _, fun h => by cases h⟩

theorem winters_holds : Rows.CourseWintersSaid :=
  OpenClaim.holds_of_wide 4 Tryz.f4 rfl rfl rfl rfl rfl rfl rfl ⟨rfl, rfl, rfl, rfl, rfl⟩ rfl rfl rfl rfl rfl (by kernel_rfl) Tryz.func4 (by kernel_rfl)
    (of_decide_eq_true (by kernel_rfl)) (by unfold Func.isWrapper; first | (rw [if_pos (by decide +kernel)]; kernel_rfl) | (rw [if_neg (by decide +kernel)]; exact ⟨rfl, rfl⟩))
    (fun os started H enc _ => winters_lifted os started H enc)
#print axioms winters_holds
end Go.Proofs.YtmebmcipmemofaaGreat
