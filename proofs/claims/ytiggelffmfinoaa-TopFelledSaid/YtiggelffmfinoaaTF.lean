/-
  TopFelled over this seat's program.
  What is proved: it answers true, whatever the bytes, the state, the click and the position; nothing that was there before has turned.
  Conditions: at most 140737488355328 bytes.
-/
import Derived.Test.YtiggelffmfinoaaTD
import Derived.Test.YtiggelffmfinoaaTE
import Derived.Test.YtiggelffmfinoaaMD
namespace Go.Proofs.Ytiggelffmfinoaa
open Go.RowKit Go.Shelf
attribute [local go_sem] Oper.semAt_some

theorem below_apart {w w1 w2 : World} (h : Below w.heap.size w w1) (hA : Apart (fun j => j = w.heap.size) w1 w2) : Below w.heap.size w w2 :=
  ⟨hA.os.trans h.os, hA.tape.trans h.tape, hA.output.trans h.output, Nat.le_trans h.size hA.size, fun i hi => (hA.block i (Nat.lt_of_lt_of_le hi h.size) (by show ¬ (_ = _); omega)).trans (h.block i hi)⟩
/-- The radius that a unit of ten asks for. -/
def radU (p : Nat) : Int := if p = 0 then 22 else 57
theorem hit_radU (p : Nat) (hp : p < 2) (y : Int) (hy : -34 ≤ y ∧ y ≤ 34) : hit0 p (10 * y) = withinB y (-radU p) (radU p) := by
  have h1 : (10 * y) * (10 * y) = 100 * (y * y) := by rw [Int.mul_assoc, Int.mul_left_comm y 10 y, ← Int.mul_assoc]; rfl
  unfold hit0 withinB
  rw [h1]
  have hb := sq_bd hy
  match p, hp with
  | 0, _ =>
    have e1 : radT 0 * radT 0 = 50625 := rfl
    have e2 : radU 0 = 22 := rfl
    rw [e1, e2]
    by_cases h : -22 ≤ y ∧ y ≤ 22
    · have := sq_bd h
      rw [decide_eq_true (by omega : 100 * (y * y) ≤ 50625)]
      simp [h.1, h.2]
    · have h2 : 23 * 23 ≤ y * y := by
        rcases (by omega : 23 ≤ y ∨ y ≤ -23) with h2 | h2
        · exact Int.mul_le_mul h2 h2 (by omega) (by omega)
        · rw [← Int.neg_mul_neg y y]; exact Int.mul_le_mul (by omega) (by omega) (by omega) (by omega)
      rw [decide_eq_false (by omega : ¬ 100 * (y * y) ≤ 50625)]
      rcases (by omega : 23 ≤ y ∨ y ≤ -23) with h3 | h3 <;> simp <;> omega
  | 1, _ =>
    have e1 : radT 1 * radT 1 = 330625 := rfl
    have e2 : radU 1 = 57 := rfl
    rw [e1, e2, decide_eq_true (by omega : 100 * (y * y) ≤ 330625)]
    simp
    omega
theorem ratio_eq (n d : Nat) : (n / Nat.gcd d n) * d = n * (d / Nat.gcd d n) := by
  obtain ⟨a, ha⟩ := Nat.gcd_dvd_right d n
  obtain ⟨b, hb⟩ := Nat.gcd_dvd_left d n
  rcases Nat.eq_zero_or_pos (Nat.gcd d n) with h | h
  · rw [h] at ha hb; simp at ha hb; subst ha; subst hb; simp
  · have e1 : n / Nat.gcd d n = a := by rw [Nat.div_eq_iff_eq_mul_right h (Nat.gcd_dvd_right d n)]; exact ha
    have e2 : d / Nat.gcd d n = b := by rw [Nat.div_eq_iff_eq_mul_right h (Nat.gcd_dvd_left d n)]; exact hb
    rw [e1, e2]
    calc a * d = a * (Nat.gcd d n * b) := by rw [← hb]
      _ = Nat.gcd d n * a * b := by rw [Nat.mul_left_comm, ← Nat.mul_assoc]
      _ = n * b := by rw [← ha]
theorem hits_step (p : Nat) (hp : p < 2) (G : List Int) (b : Int) (k gl hf : Nat) (yv gk hh : Int) (hgl : G.length = gl) (hhf : gl / 2 = hf) (hy : b + (k : Int) - (hf : Int) = yv) (hyb : -34 ≤ yv ∧ yv ≤ 34) (hgk : G[k]? = some gk) (hhh : (if hit0 p (10 * yv) then 1 else 0) = hh) :
    hitsTo G (radU p) b (k + 1) = hitsTo G (radU p) b k + gk * hh := by
  rw [hitsTo, hgl, hhf, show b + ((k : Int) - (hf : Int)) = yv by omega, ← hit_radU p hp yv hyb, hgk]
  subst hhh
  cases hit0 p (10 * yv) <;> simp
/-- The cells of the first shots, one near each target. -/
def flatF (y : Int) (j : Nat) : List Value := (List.range j).flatMap fun (k : Nat) => [.int .i64 (2500 * (k : Int) + y), .int .i64 0]
theorem flatF_succ (y : Int) (j : Nat) : flatF y (j + 1) = flatF y j ++ [.int .i64 (2500 * (j : Int) + y), .int .i64 0] := by
  unfold flatF
  rw [List.range_succ, List.flatMap_append]
  simp
theorem Try.info39 : (Try.prog.info? 39).map (fun i => (i.zero, i.size, i.bytes)) = some (some (.agg #[.int .i64 0, .int .i64 0]), 2, 16) := by kernel_rfl
theorem sl_five {W : World} {base g cap : Nat} {y : Int} (h : W.ownsRow base 39 2 (.slice (some ⟨g, 0, none⟩) 5 cap) 5 (flatF y 5)) : Sl 2 Sp.cells W (some ⟨g, 0, none⟩) (fiveL y) := fun _ => by
  obtain ⟨_, hlt, _⟩ := own_cells h (i := g) rfl
  refine ⟨g, 0, rfl, hlt, fun j s i u hj hu => ?_⟩
  have e : ∀ m, (⟨g, 0, none⟩ : Addr).add m = ⟨g, 0 + m, none⟩ := fun m => by unfold Addr.add; split <;> simp_all
  have hc := fun m u hm => h.cells (g := g) rfl m u hm
  simp only [e] at hc
  rw [Nat.add_assoc]
  refine hc _ _ ?_
  have hf : fiveL y = [⟨2500 * ((0 : Nat) : Int) + y, 0⟩, ⟨2500 * ((1 : Nat) : Int) + y, 0⟩, ⟨2500 * ((2 : Nat) : Int) + y, 0⟩, ⟨2500 * ((3 : Nat) : Int) + y, 0⟩, ⟨2500 * ((4 : Nat) : Int) + y, 0⟩] := rfl
  have hv : flatF y 5 = [.int .i64 (2500 * ((0 : Nat) : Int) + y), .int .i64 0, .int .i64 (2500 * ((1 : Nat) : Int) + y), .int .i64 0, .int .i64 (2500 * ((2 : Nat) : Int) + y), .int .i64 0, .int .i64 (2500 * ((3 : Nat) : Int) + y), .int .i64 0, .int .i64 (2500 * ((4 : Nat) : Int) + y), .int .i64 0] := rfl
  rw [hv]
  rw [hf] at hj
  rcases j with _ | _ | _ | _ | _ | j
  all_goals first | (obtain rfl := Option.some.inj hj; rcases i with _ | _ | i; (obtain rfl := Option.some.inj hu; rfl); (obtain rfl := Option.some.inj hu; rfl); (exact absurd hu (by simp [Sp.cells]))) | (exact absurd hj (by simp))
theorem five_shots {y : Int} (hy : -340 ≤ y ∧ y ≤ 340) : ∀ s ∈ fiveL y, shotB s = true := fun s hs => by
  unfold fiveL at hs
  obtain ⟨k, hk, rfl⟩ := List.mem_map.1 hs
  have := List.mem_range.1 hk
  simp [shotB, withinB]
  omega

set_option maxRecDepth 100000 in
set_option maxHeartbeats 20000000 in
theorem felled_any (a : Option Addr) (n cap st cl ps : Nat) (w : World) (hb : BytesAt w a n) (hl : n ≤ 140737488355328) (hst : st < 256) (hcl : cl < 256) (hps : ps < 256) :
    Calls Try.prog 3 #[.slice a n cap, .int .u8 (st : Int), .int .u8 (cl : Int), .int .u8 (ps : Int)] w fun e w' => e = .returned (.bool true) ∧ Below w.heap.size w w' := by
  have HO1 := Lib.hid (of_any a n cap w hb hl)
  clear hb hl
  go_enter Try.func3, Try.ntmps3
  go_wp2_with (fail)
  refine HO1.out.mono ?_
  rintro e w1 ⟨rfl, hD, hb1⟩
  have H1 := Lib.hid (And.intro hD hb1)
  clear hD hb1 HO1
  go_wp2_with (fail)
  refine (Made_any w.heap.size (w.heap.size + 1) a n cap 0 3 3 4 w1 H1.out.1 (by omega) (by omega) (by omega) (by omega)).mono ?_
  rintro e w2 ⟨⟨⟨rad, unit, clk, tot, G, D, F, X⟩, ag, cg, ad, cd, af, cf, an, cn⟩, rfl, hR, hok, hD, hA⟩
  have hb2 := below_apart H1.out.2 hA
  clear hA H1 hD
  obtain ⟨gl, hgl⟩ : ∃ gl, G.length = gl := ⟨_, rfl⟩
  obtain ⟨dl, hdl⟩ : ∃ dl, D.length = dl := ⟨_, rfl⟩
  obtain ⟨fl, hfl⟩ : ∃ fl, F.length = fl := ⟨_, rfl⟩
  obtain ⟨xl, hxl⟩ : ∃ xl, X.length = xl := ⟨_, rfl⟩
  have hdl1 : 1 ≤ dl ∧ dl ≤ 3 := by have h1 := hok.ok.dlen.1; have h2 := hok.dlen; simp only at h1 h2; omega
  have hgl1 : 1 ≤ gl ∧ gl ≤ 9 := by have h1 := hok.ok.glen.1; have h2 := hok.glen; simp only at h1 h2; omega
  have hunit : 1 ≤ unit ∧ unit ≤ 5 := by have h1 := hok.ok.unit.1; have h2 := hok.unit; simp only at h1 h2; omega
  have hclk : 0 ≤ clk ∧ clk ≤ 3 := by have h1 := hok.ok.clicks.1; have h2 := hok.clicks; simp only at h1 h2; omega
  have HK := Lib.hid (And.intro hR (And.intro hok (And.intro hgl (And.intro hdl (And.intro hfl hxl)))))
  have HB2 := Lib.hid hb2
  clear hR hok hb2
  simp only [Rv.v, Rv.arr]
  rw [hgl, hdl, hfl, hxl]
  clear hgl hdl hfl hxl
  obtain ⟨hdl1, hdl2⟩ := hdl1
  obtain ⟨hgl1, hgl2⟩ := hgl1
  obtain ⟨hunit1, hunit2⟩ := hunit
  obtain ⟨hclk1, hclk2⟩ := hclk
  obtain ⟨s, hs⟩ : ∃ s, st % dl = s := ⟨_, rfl⟩
  have hs1 : s < dl := by rw [← hs]; exact Nat.mod_lt _ (by omega)
  have e1' : (st : Int) % (dl : Int) = (s : Int) := by rw [← hs]; exact (Int.natCast_emod st dl).symm
  have e1 : (st : Int).tmod (dl : Int) = (s : Int) := by rw [Int.tmod_eq_emod_of_nonneg (by omega)]; exact e1'
  obtain ⟨q, e2'⟩ : ∃ q : Int, (cl : Int) % (2 * clk + 1) = q := ⟨_, rfl⟩
  have hq1 : 0 ≤ q := by rw [← e2']; exact Int.emod_nonneg _ (by omega)
  have hq2 : q < 2 * clk + 1 := by rw [← e2']; exact Int.emod_lt_of_pos _ (by omega)
  have e2 : (cl : Int).tmod (2 * clk + 1) = q := by rw [Int.tmod_eq_emod_of_nonneg (by omega)]; exact e2'
  obtain ⟨p, hp⟩ : ∃ p, ps % 2 = p := ⟨_, rfl⟩
  have hp1 : p < 2 := by omega
  have e3' : (ps : Int) % 2 = (p : Int) := by omega
  have e3 : (ps : Int).tmod 2 = (p : Int) := by rw [Int.tmod_eq_emod_of_nonneg (by omega)]; exact e3'
  have z1 : ((dl : Int) == 0) = false := by simp; omega
  have z2 : ((2 * clk + 1 : Int) == 0) = false := by simp; omega
  have hst' : (st : Int) ≤ 255 := by omega
  have hcl' : (cl : Int) ≤ 255 := by omega
  have hps' : (ps : Int) ≤ 255 := by omega
  clear hs hp hst hcl hps
  go_wp2_with (fail)
  obtain ⟨W3, hW3⟩ : ∃ W3, w2.alloc (.cells #[.int .i64 rad, .int .i64 unit, .int .i64 clk, .int .i64 tot, .slice ag gl cg, .slice ad dl cd, .slice af fl cf, .slice an xl cn] 26) = W3 := ⟨_, rfl⟩
  obtain ⟨bx, hbx⟩ : ∃ bx, w2.heap.size = bx := ⟨_, rfl⟩
  have HW3 : Hid (Below w.heap.size w W3 ∧ W3.heap[bx]? = some (.cells #[.int .i64 rad, .int .i64 unit, .int .i64 clk, .int .i64 tot, .slice ag gl cg, .slice ad dl cd, .slice af fl cf, .slice an xl cn] 26 (0, 0)) ∧ Below w2.heap.size w2 W3 ∧ w.heap.size ≤ w2.heap.size ∧ w2.heap.size = bx) := by
    have hb3 : Below w2.heap.size w2 W3 := by rw [← hW3]; exact alloc1 w2 _
    refine ⟨below_self HB2.out hb3, ?_, hb3, HB2.out.size, hbx⟩
    rw [← hbx, ← hW3]; exact heap_alloc_new w2 _
  rw [hW3, hbx]
  clear hW3 hbx HB2
  have m2 := blk_cell HW3.out.2.1 2 rfl
  have m5 := blk_cell HW3.out.2.1 5 rfl
  have y1 : IntKind.i64.wrap (st : Int) = (st : Int) := IntWalk.i64_in _ (by omega)
  have y2 : IntKind.i64.wrap (cl : Int) = (cl : Int) := IntWalk.i64_in _ (by omega)
  have y3 : IntKind.i64.wrap (2 * clk) = 2 * clk := IntWalk.i64_in _ (by omega)
  have y4 : IntKind.i64.wrap (2 * clk + 1) = 2 * clk + 1 := IntWalk.i64_in _ (by omega)
  have y5 : IntKind.i64.wrap (q - clk) = q - clk := IntWalk.i64_in _ (by omega)
  have y6 : IntKind.i64.wrap (p : Int) = (p : Int) := IntWalk.i64_in _ (by omega)
  have y7 : IntKind.i64.wrap q = q := IntWalk.i64_in _ (by omega)
  have y8 : IntKind.i64.wrap (s : Int) = (s : Int) := IntWalk.i64_in _ (by omega)
  go_quiet (fail)
  clear e1 e1' e2 e2' e3 e3' z1 z2 m2 m5 hst' hcl' hps' y1 y2 y3 y4 y5 y6 y7 y8
  have hc1 : -clk ≤ q - clk := by omega
  have hc2 : q - clk ≤ clk := by omega
  clear hq1 hq2
  generalize q - clk = c at hc1 hc2 ⊢
  have HW4 : Hid (Below w.heap.size w (W3.drewN nq) ∧ (W3.drewN nq).heap[bx]? = some (.cells #[.int .i64 rad, .int .i64 unit, .int .i64 clk, .int .i64 tot, .slice ag gl cg, .slice ad dl cd, .slice af fl cf, .slice an xl cn] 26 (0, 0)) ∧ Below w2.heap.size w2 (W3.drewN nq) ∧ w.heap.size ≤ w2.heap.size ∧ w2.heap.size = bx) :=
    ⟨below_drewN HW3.out.1 nq, HW3.out.2.1, below_drewN HW3.out.2.2.1 nq, HW3.out.2.2.2⟩
  generalize W3.drewN nq = W4 at HW4 ⊢
  clear HW3
  obtain ⟨W5, hW5⟩ : ∃ W5, W4.alloc (.cells #[.int .i64 22, .int .i64 57] 3) = W5 := ⟨_, rfl⟩
  have hb5 : Below W4.heap.size W4 W5 := by rw [← hW5]; exact alloc1 W4 _
  have hc5 : W5.heap[W4.heap.size]? = some (.cells #[.int .i64 22, .int .i64 57] 3 (0, 0)) := by rw [← hW5]; exact heap_alloc_new W4 _
  have mp : W5.cell? ⟨W4.heap.size, p, none⟩ = some (.int .i64 (radU p)) := blk_cell hc5 p (by
    match p, hp1 with
    | 0, _ => rfl
    | 1, _ => rfl)
  have hbx5 := blk_below HW4.out.2.1 hb5
  have m0 := blk_cell hbx5 0 rfl
  have f0 := blk_free (j := 0) hbx5
  obtain ⟨W6, hW6⟩ : ∃ W6, W5.setCell ⟨bx, 0, none⟩ (.int .i64 (radU p)) = W6 := ⟨_, rfl⟩
  have hbx6 : W6.heap[bx]? = some (.cells #[.int .i64 (radU p), .int .i64 unit, .int .i64 clk, .int .i64 tot, .slice ag gl cg, .slice ad dl cd, .slice af fl cf, .slice an xl cn] 26 (0, 0)) := by
    rw [← hW6]; exact blk_setCell (j := 0) hbx5
  have hlt := lt_of_block HW4.out.2.1
  have HW6 : Hid (Below w.heap.size w W6 ∧ W6.heap[bx]? = some (.cells #[.int .i64 (radU p), .int .i64 unit, .int .i64 clk, .int .i64 tot, .slice ag gl cg, .slice ad dl cd, .slice af fl cf, .slice an xl cn] 26 (0, 0)) ∧ Below w2.heap.size w2 W6) := by
    obtain ⟨q1, _, q3, q4, q5⟩ := HW4.out
    rw [← hW6]
    exact ⟨(below_self q1 hb5).setCell (p := ⟨bx, 0, none⟩) (by show w.heap.size ≤ bx; omega) _, by rw [hW6]; exact hbx6, (below_self q3 hb5).setCell (p := ⟨bx, 0, none⟩) (by show w2.heap.size ≤ bx; omega) _⟩
  have n0 := blk_cell hbx6 0 rfl
  have n1 := blk_cell hbx6 1 rfl
  have n2 := blk_cell hbx6 2 rfl
  have n3 := blk_cell hbx6 3 rfl
  have n4 := blk_cell hbx6 4 rfl
  have n5 := blk_cell hbx6 5 rfl
  have n6 := blk_cell hbx6 6 rfl
  have n7 := blk_cell hbx6 7 rfl
  clear hb5 hc5 hbx5 hbx6 hlt
  have hp2 : (p : Int) < 2 := by omega
  go_wp2_with (fail)
  clear n0 n1 n2 n3 n4 n5 n6 n7 mp m0 f0 hp2 hW5 hW6
  obtain ⟨x, hx⟩ : ∃ x, D[s]?.getD 0 = x := ⟨_, rfl⟩
  have hok6 : Hid (RgOk ⟨radU p, unit, clk, tot, G, D, F, X⟩ ∧ (-15 ≤ x ∧ x ≤ 15) ∧ D[s]? = some x) := by
    obtain ⟨_, hok, _, hdl, _, _⟩ := HK.out
    have ok := hok.ok
    refine ⟨⟨by show 0 ≤ radU p ∧ radU p ≤ 200; unfold radU; split <;> omega, ok.unit, ok.clicks, ok.total, ok.glen, ok.dlen, ok.flen, ok.nlen, ok.nlens, ok.drifts, ok.group, ok.first, ok.next, ok.gsum, ok.fsum, ok.nsum⟩, ?_, ?_⟩
    · rw [← hx, List.getElem?_eq_getElem (by omega)]; exact hok.dle _ (List.getElem_mem _)
    · rw [← hx, List.getElem?_eq_getElem (by omega)]; rfl
  have hnb := hitsR_bd hok6.out.1 x c
  obtain ⟨hn, hhn⟩ : ∃ hn : Nat, hitsR ⟨radU p, unit, clk, tot, G, D, F, X⟩ x c = hn := Int.eq_ofNat_of_zero_le hnb.1
  obtain ⟨sd, hsd⟩ : ∃ sd : Nat, sumI G = sd := Int.eq_ofNat_of_zero_le (by have := hok6.out.1.gsum.1; simp only at this; omega)
  have hsd1 : 1 ≤ sd ∧ sd ≤ 100 := by have := hok6.out.1.gsum; simp only at this; omega
  have hhn1 : hn ≤ sd := by have := hnb.2; rw [hhn] at this; simp only at this; omega
  have HRA : Hid (RgAt W6 (⟨⟨radU p, unit, clk, tot, G, D, F, X⟩, ag, cg, ad, cd, af, cf, an, cn⟩ : Rv)) := by
    have h := HK.out.1.below HW6.out.2.2
    exact ⟨h.g, h.d, h.f, h.n⟩
  have HH := Hit_ok (⟨⟨radU p, unit, clk, tot, G, D, F, X⟩, ag, cg, ad, cd, af, cf, an, cn⟩ : Rv) s c hn sd W6 HRA.out hok6.out.1 (by obtain ⟨_, _, _, hdl, _, _⟩ := HK.out; show s < D.length; omega) ⟨hc1, hc2⟩ (by show hitsR _ (D[s]?.getD 0) c = _; rw [hx]; exact hhn) (by show (sd : Int) = sumI G; exact hsd.symm)
  simp only [Rv.v, Rv.arr, ratV] at HH
  obtain ⟨_, _, hgl, hdl, hfl, hxl⟩ := HK.out
  rw [hgl, hdl, hfl, hxl] at HH
  have hrt := ratio_eq hn sd
  have hgp : 0 < Nat.gcd sd hn := Nat.gcd_pos_of_pos_left _ (by omega)
  obtain ⟨ra, hra⟩ : ∃ ra, hn / Nat.gcd sd hn = ra := ⟨_, rfl⟩
  obtain ⟨rb, hrb⟩ : ∃ rb, sd / Nat.gcd sd hn = rb := ⟨_, rfl⟩
  have hra1 : ra ≤ 100 := by rw [← hra]; have := Nat.div_le_self hn (Nat.gcd sd hn); omega
  have hrb1 : 1 ≤ rb := by rw [← hrb]; exact Nat.div_pos (Nat.le_of_dvd (by omega) (Nat.gcd_dvd_left sd hn)) hgp
  have hrb2 : rb ≤ 100 := by rw [← hrb]; have := Nat.div_le_self sd (Nat.gcd sd hn); omega
  rw [hra, hrb] at HH hrt
  have HH := Lib.hid HH
  have HN := Lib.hid (And.intro hhn (And.intro hsd (And.intro hrt (And.intro hsd1 hhn1))))
  clear hnb hhn hsd hrt hsd1 hhn1 hra hrb hgp hgl hdl hfl hxl hx
  refine HH.out.mono ?_
  rintro e W7 ⟨rfl, hb7⟩
  have HW7 : Hid (Below w.heap.size w W7 ∧ W7.heap[bx]? = some (.cells #[.int .i64 (radU p), .int .i64 unit, .int .i64 clk, .int .i64 tot, .slice ag gl cg, .slice ad dl cd, .slice af fl cf, .slice an xl cn] 26 (0, 0)) ∧ RgAt W7 (⟨⟨radU p, unit, clk, tot, G, D, F, X⟩, ag, cg, ad, cd, af, cf, an, cn⟩ : Rv)) :=
    ⟨below_self HW6.out.1 hb7, blk_below HW6.out.2.1 hb7, HRA.out.below hb7⟩
  clear HH hb7 HW6 HRA HW4
  obtain ⟨W8, hW8⟩ : ∃ W8, W7.alloc (.cells #[.int .i64 (ra : Int), .int .i64 (rb : Int)] 32) = W8 := ⟨_, rfl⟩
  obtain ⟨bh, hbh⟩ : ∃ bh, W7.heap.size = bh := ⟨_, rfl⟩
  have HW8 : Hid (Below w.heap.size w W8 ∧ W8.heap[bx]? = some (.cells #[.int .i64 (radU p), .int .i64 unit, .int .i64 clk, .int .i64 tot, .slice ag gl cg, .slice ad dl cd, .slice af fl cf, .slice an xl cn] 26 (0, 0)) ∧ RgAt W8 (⟨⟨radU p, unit, clk, tot, G, D, F, X⟩, ag, cg, ad, cd, af, cf, an, cn⟩ : Rv) ∧ W8.heap[bh]? = some (.cells #[.int .i64 (ra : Int), .int .i64 (rb : Int)] 32 (0, 0))) := by
    have hb8 : Below W7.heap.size W7 W8 := by rw [← hW8]; exact alloc1 W7 _
    refine ⟨below_self HW7.out.1 hb8, blk_below HW7.out.2.1 hb8, HW7.out.2.2.below hb8, ?_⟩
    rw [← hbh, ← hW8]; exact heap_alloc_new W7 _
  have k1 := blk_cell HW8.out.2.2.2 1 rfl
  have k4 := blk_cell HW8.out.2.1 4 rfl
  have hrb3 : decide ((rb : Int) < 1) = false := decide_eq_false (by omega)
  go_wp2_with (fail)
  clear k1 k4 hrb3 hW8 hbh
  have hl8 := hok6.out.2
  obtain ⟨⟨hx1, hx2⟩, hDs⟩ := hl8
  obtain ⟨_, _, hgl, hdl, _, _⟩ := HK.out
  obtain ⟨bg, og, hag, hbg, hcg⟩ := HW8.out.2.2.1.g (by show 0 < G.length; omega)
  obtain ⟨bd, od, had, hbd, hcd⟩ := HW8.out.2.2.1.d (by show 0 < D.length; omega)
  simp only at hag had hcg hcd
  subst hag
  subst had
  have hcs : W8.cell? ⟨bd, od + s, none⟩ = some (.int .i64 x) := by rw [hcd s (by omega), hDs]; rfl
  have HG := Lib.hid (And.intro hbg (And.intro hcg hgl))
  have HD := Lib.hid (And.intro hbd hcs)
  clear hbg hcg hgl hbd hcd hcs hdl hDs
  obtain ⟨cu, hcu⟩ : ∃ cu, c * unit = cu := ⟨_, rfl⟩
  have hcu1 : -15 ≤ cu ∧ cu ≤ 15 := by
    rw [← hcu]
    rcases (by omega : c = -3 ∨ c = -2 ∨ c = -1 ∨ c = 0 ∨ c = 1 ∨ c = 2 ∨ c = 3) with rfl | rfl | rfl | rfl | rfl | rfl | rfl <;> omega
  obtain ⟨hcu1, hcu2⟩ := hcu1
  obtain ⟨hf, hhf⟩ : ∃ hf, gl / 2 = hf := ⟨_, rfl⟩
  have HU := Lib.hid (And.intro hcu hhf)
  have p1 : IntKind.i64.wrap (c * unit) = cu := by rw [hcu]; exact IntWalk.i64_in _ (by omega)
  have p2' : (gl : Int) / 2 = (hf : Int) := by omega
  have p2 : (gl : Int).tdiv 2 = (hf : Int) := by rw [Int.tdiv_eq_ediv_of_nonneg (by omega)]; exact p2'
  have hf2 : 2 * hf ≤ gl ∧ gl ≤ 2 * hf + 1 := by omega
  obtain ⟨hf2, hf3⟩ := hf2
  clear hcu hhf
  go_loopw [15, 16, 70] (fun hi su i wr => ∃ (k : Nat) (h1 s1 : Int), i = .int .i64 (k : Int) ∧ k ≤ gl ∧ hi = .int .i64 h1 ∧ su = .int .i64 s1 ∧ Hid (h1 = hitsTo G (radU p) (x + cu) k ∧ s1 = sumI (G.take k)) ∧ Hid (Below W8.heap.size W8 wr)) (fun _ _ i _ => gl - (intOf i).toNat)
  case atStart => exact ⟨0, 0, 0, rfl, by omega, rfl, rfl, ⟨rfl, rfl⟩, Below.refl _ _⟩
  case round =>
    obtain ⟨k, h1, s1, rfl, hk, rfl, rfl, HR, HB⟩ := hrel
    by_cases hlt : k < gl
    · have gl1 : decide ((k : Int) < (gl : Int)) = true := decide_eq_true (by omega)
      obtain ⟨gk, hgk⟩ : ∃ gk, G[k]? = some gk := ⟨G[k]'(by have := HG.out.2.2; omega), List.getElem?_eq_getElem (by have := HG.out.2.2; omega)⟩
      have hgk1 : 0 ≤ gk ∧ gk ≤ 5 := by
        have h := List.mem_of_getElem? hgk
        exact ⟨(hok6.out.1.group gk h).1, HK.out.2.1.gle gk h⟩
      obtain ⟨hgk1, hgk2⟩ := hgk1
      have hhb : 0 ≤ h1 ∧ h1 ≤ s1 := by
        rw [HR.out.1, HR.out.2]; exact hitsTo_bd G (radU p) (x + cu) (fun y hy => hok6.out.1.group y hy) k (by have := HG.out.2.2; omega)
      have hsb : 0 ≤ s1 ∧ s1 ≤ (k : Int) * 5 := by
        rw [HR.out.2]; exact sumI_bd G 5 (by omega) (fun y hy => ⟨(hok6.out.1.group y hy).1, HK.out.2.1.gle y hy⟩) k
      have hh1 : 0 ≤ h1 ∧ h1 ≤ 100 := by omega
      have hs1 : 0 ≤ s1 ∧ s1 ≤ 100 := by omega
      obtain ⟨hh1, hh2⟩ := hh1
      obtain ⟨hs1, hs2⟩ := hs1
      clear hhb hsb
      have hbw := HB.out
      have b1 := blk_cell (blk_below HW8.out.2.1 hbw) 1 rfl
      have b4 := blk_cell (blk_below HW8.out.2.1 hbw) 4 rfl
      have b5 := blk_cell (blk_below HW8.out.2.1 hbw) 5 rfl
      have cg1 := (hbw.cell (p := ⟨bg, og + k, none⟩) HG.out.1).trans ((HG.out.2.1 k (by have := HG.out.2.2; omega)).trans (by rw [hgk]; rfl : _ = some (.int .i64 gk)))
      have cd1 := (hbw.cell (p := ⟨bd, od + s, none⟩) HD.out.1).trans HD.out.2
      have HGK := Lib.hid hgk
      clear hgk hbw
      go_wp2_with (fail)
      obtain ⟨yv, hyv⟩ : ∃ yv, x + cu + (k : Int) - (hf : Int) = yv := ⟨_, rfl⟩
      have hy1 : -34 ≤ yv ∧ yv ≤ 34 := by omega
      have w1' : IntKind.i64.wrap (x + cu) = x + cu := IntWalk.i64_in _ (by omega)
      have w2' : IntKind.i64.wrap (x + cu + (k : Int)) = x + cu + (k : Int) := IntWalk.i64_in _ (by omega)
      have w3' : IntKind.i64.wrap (x + cu + (k : Int) - (hf : Int)) = yv := by rw [hyv]; exact IntWalk.i64_in _ (by omega)
      have w4' : IntKind.i64.wrap (10 * yv) = 10 * yv := IntWalk.i64_in _ (by omega)
      have HY := Lib.hid (And.intro hyv hy1)
      clear hyv hy1
      go_quiet (fail)
      clear w1' w2' w3' w4' b1 b4 b5 cg1 cd1 gl1
      have hy2 : -340 ≤ 10 * yv := by have := HY.out.2; omega
      have hy3 : 10 * yv ≤ 340 := by have := HY.out.2; omega
      obtain ⟨at0, hat⟩ : ∃ at0, 10 * yv = at0 := ⟨_, rfl⟩
      rw [hat] at hy2 hy3 ⊢
      have HAT := Lib.hid hat
      clear hat
      have HB1 := Lib.hid (below_drewN HB.out nq)
      clear HB
      generalize wr.drewN nq = v1 at HB1 ⊢
      obtain ⟨v2, hv2⟩ : ∃ v2, v1.alloc (.cells #[.int .i64 at0, .int .i64 0] 39) = v2 := ⟨_, rfl⟩
      have hb2 : Below v1.heap.size v1 v2 := by rw [← hv2]; exact alloc1 v1 _
      have hc2 : v2.heap[v1.heap.size]? = some (.cells #[.int .i64 at0, .int .i64 0] 39 (0, 0)) := by rw [← hv2]; exact heap_alloc_new v1 _
      have hsl : Sl 2 Sp.cells v2 (some ⟨v1.heap.size, 0, none⟩) [(⟨at0, 0⟩ : Sp)] := Sl.of_block hc2 (fun j y i u hj hu => by
        rcases j with _ | j
        · simp at hj
          subst hj
          rcases i with _ | _ | i <;> simp [Sp.cells] at hu <;> subst hu <;> rfl
        · simp at hj)
      have HF := falls_ok p _ [(⟨at0, 0⟩ : Sp)] 1 1 v2 hp1 hsl rfl (by omega) (fun y hy => by
        have : y = ⟨at0, 0⟩ := by simpa using hy
        subst this
        simp [shotB, withinB]; omega)
      have HF := Lib.hid HF
      have HB2 := Lib.hid (below_self HB1.out hb2)
      clear hb2 hc2 hsl HB1
      go_wp2_with (fail)
      refine HF.out.mono ?_
      rintro e v3 ⟨g1, rfl, hg1, _, hb3⟩
      rw [falls_one p at0 ⟨hy2, hy3⟩] at hg1
      obtain ⟨hh, hhh⟩ : ∃ hh : Int, (if hit0 p at0 then 1 else 0) = hh := ⟨_, rfl⟩
      rw [hhh] at hg1
      have hh01 : hh = 0 ∨ hh = 1 := by rw [← hhh]; split <;> simp
      have HB3 := Lib.hid (And.intro (below_self HB2.out hb3) (And.intro hg1 hhh))
      clear hg1 hhh hb3 HF HB2 hv2
      go_wp2_with (fail)
      go_loopw [22, 101] (fun v i wr => ∃ j : Nat, i = .int .i64 (j : Int) ∧ j ≤ 5 ∧ Hid (wr.ownsRow v3.heap.size 39 2 v j (flatF at0 j) ∧ Below v3.heap.size v3 wr)) (fun _ i _ => 5 - (intOf i).toNat)
      case atStart => exact ⟨0, rfl, by omega, World.ownsRow_nil _ _ _ _, Below.refl _ _⟩
      case round =>
        obtain ⟨j, rfl, hj, HO⟩ := hrel
        by_cases hlj : j < 5
        · have gj : decide ((j : Int) < 5) = true := decide_eq_true (by omega)
          obtain ⟨i39, hi, hz0, hz1, hz2⟩ := info_parts Try.info39
          go_wp2_with (at_builtin; refine wpList_append_own _ rfl _ _ 40 rfl v3.heap.size 39 i39 (.agg #[.int .i64 0, .int .i64 0]) 2 16 Try.underlying40 hi hz0 hz1 hz2 rfl (by decide) _ j (flatF at0 j) rfl (owns_below HO.out.1 (alloc1 wr _)) ⟨wr.heap.size, 0, none⟩ 1 1 [.int .i64 (2500 * (j : Int) + at0), .int .i64 0] rfl ?d0 ?d1 ?d2 ?d3 ?d4 ?d5 ?_)
          case d0 => rfl
          case d1 => exact cells_new wr [.int .i64 (2500 * (j : Int) + at0), .int .i64 0] 39
          case d2 => intro u hu; simp at hu; rcases hu with rfl | rfl <;> rfl
          case d3 => unfold maxLen; omega
          case d4 => omega
          case d5 => have := HO.out.2.size; simp; omega
          intro v' w2 hown hgrow _
          have HO2 : Hid (w2.ownsRow v3.heap.size 39 2 v' (j + 1) (flatF at0 (j + 1)) ∧ Below v3.heap.size v3 w2) := by
            refine ⟨by rw [flatF_succ]; exact hown, ?_⟩
            exact (HO.out.2.alloc HO.out.2.size _).grown hgrow (by have := HO.out.2.size; simp; omega) (fun i hi => (own_cells HO.out.1 hi).1)
          clear hown hgrow HO gj
          go_wp2_with (fail)
          go_roundw
          case rel => exact ⟨j + 1, by go_num, by omega, HO2⟩
          case measure => simp [intOf]; omega
        · have hj5 : j = 5 := by omega
          subst hj5
          obtain ⟨gf, cf5, rfl, _, _⟩ := World.ownsRow.form HO.out.1 (by omega)
          have HLp := loops_ok p (some ⟨gf, 0, none⟩) (fiveL at0) cf5 5 wr hp1 (sl_five HO.out.1) rfl (by omega) (five_shots ⟨hy2, hy3⟩)
          rw [left_five p at0 ⟨hy2, hy3⟩, HB3.out.2.2] at HLp
          have HLp := Lib.hid HLp
          have HR1 : Hid (h1 + gk * hh = hitsTo G (radU p) (x + cu) (k + 1) ∧ s1 + gk = sumI (G.take (k + 1))) := by
            obtain ⟨_, _, hgl, _, _, _⟩ := HK.out
            refine ⟨?_, ?_⟩
            · rw [hits_step p hp1 G (x + cu) k gl hf yv gk hh hgl HU.out.2 HY.out.1 HY.out.2 HGK.out (by rw [HAT.out]; exact HB3.out.2.2), HR.out.1]
            · have hkl : k < G.length := by omega
              have := HGK.out
              rw [List.getElem?_eq_getElem hkl, Option.some.injEq] at this
              rw [sumI_take_succ G k hkl, this, HR.out.2]
          go_wp2_with (fail)
          refine HLp.out.mono ?_
          rintro e w5 ⟨rfl, hb5⟩
          have m1 : w5.cell? ⟨g1, 0, none⟩ = some (.int .i64 hh) := blk_cell (blk_below (blk_below HB3.out.2.1 HO.out.2) hb5) 0 rfl
          have HB5 := Lib.hid (below_self (below_self HB3.out.1 HO.out.2) hb5)
          clear hb5 HLp HO HB3 HR hlj hj
          rcases hh01 with rfl | rfl
          · go_wp2_with (fail)
            go_roundw
            case rel => exact ⟨k + 1, h1 + gk * 0, s1 + gk, by go_num, by omega, by simp, rfl, HR1, HB5⟩
            case measure => simp [intOf]; omega
          · go_wp2_with (fail)
            go_roundw
            case rel => exact ⟨k + 1, h1 + gk * 1, s1 + gk, by go_num, by omega, by simp, rfl, HR1, HB5⟩
            case measure => simp [intOf]; omega
    · have hkl : k = gl := by omega
      subst hkl
      have gl1 : decide ((k : Int) < (k : Int)) = false := decide_eq_false (by omega)
      have hE : h1 = (hn : Int) ∧ s1 = (sd : Int) := by
        obtain ⟨_, _, hgl, _, _, _⟩ := HK.out
        refine ⟨?_, ?_⟩
        · rw [HR.out.1, ← HN.out.1]
          show _ = hitsTo G (radU p) (x + c * unit) G.length
          rw [HU.out.1, hgl]
        · rw [HR.out.2, ← hgl, List.take_length, HN.out.2.1]
      obtain ⟨rfl, rfl⟩ := hE
      obtain ⟨_, _, hrt, hsd1, hhn1⟩ := HN.out
      obtain ⟨pr, hpr⟩ : ∃ pr : Nat, ra * sd = pr := ⟨_, rfl⟩
      have hpb : pr ≤ 100 * 100 := by rw [← hpr]; exact Nat.mul_le_mul hra1 hsd1.2
      have w1' : IntKind.i64.wrap ((ra : Int) * (sd : Int)) = (pr : Int) := by rw [← Int.natCast_mul, hpr]; exact IntWalk.i64_in _ (by omega)
      have w2' : IntKind.i64.wrap ((hn : Int) * (rb : Int)) = (pr : Int) := by rw [← Int.natCast_mul, ← hrt, hpr]; exact IntWalk.i64_in _ (by omega)
      have m0 := blk_cell (blk_below HW8.out.2.2.2 HB.out) 0 rfl
      have m1 := blk_cell (blk_below HW8.out.2.2.2 HB.out) 1 rfl
      have HBE := Lib.hid (below_self HW8.out.1 HB.out)
      clear hrt hsd1 hhn1 hpr hpb HR HB
      go_wp2_with (fail)
      refine (awake_any _).mono ?_
      rintro e w9 ⟨rfl, hb9⟩
      have HB9 := Lib.hid (below_self HBE.out hb9)
      clear hb9 HBE
      go_wp2_with (fail)
      go_ret
      exact ⟨rfl, HB9.out⟩
end Go.Proofs.Ytiggelffmfinoaa
