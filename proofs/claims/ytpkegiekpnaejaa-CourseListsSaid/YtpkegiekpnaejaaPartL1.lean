/-
The contracts of klisterkit.Clone, of the conversions to the reference's types, and of Equal for loops, over this seat's program.
  What is proved: a clone, and what is converted, read as the list that came in; Equal says whether two lists are the same.
  Conditions: lists of at most 1000 elements.
The contract of CourseRules over this seat's program.
  What is proved: it answers true; nothing that was there before has turned.
  Conditions: lists that read as such.
-/
import Derived.Test.YtpkegiekpnaejaaPartL0
namespace Go.Proofs.Ytpkegiekpnaejaa
open Go.RowKit Go.Shelf
attribute [local go_sem] Oper.semAt_some

theorem Try.info31 : (Try.prog.info? 31).map (fun i => (i.zero, i.size, i.bytes)) = some (some (.agg #[.int .i64 0, .int .i64 0, .int .i64 0]), 3, 24) := by kernel_rfl
theorem Try.info127 : (Try.prog.info? 127).map (fun i => (i.zero, i.size, i.bytes)) = some (some (.agg #[.int .i64 0, .int .i64 0, .int .i64 0]), 3, 24) := by kernel_rfl

theorem Lp.cells_len (x : Lp) : (Lp.cells x).length = 3 := rfl
theorem flatP_len (xs : List Lp) : (xs.flatMap Lp.cells).length = xs.length * 3 := by
  induction xs with
  | nil => rfl
  | cons d ds ih => rw [List.flatMap_cons, List.length_append, ih, Lp.cells_len, List.length_cons]; omega
theorem flatP_get (ds : List Lp) : ∀ (j : Nat) (x : Lp) (i : Nat) (u : Int), ds[j]? = some x → (Lp.cells x)[i]? = some u → (ds.flatMap Lp.cells)[j * 3 + i]? = some u := by
  induction ds with
  | nil => intro j x i u hx _; simp at hx
  | cons d ds ih =>
    intro j x i u hx hu
    have hi : i < 3 := by
      rcases Nat.lt_or_ge i 3 with h | h
      · exact h
      · rw [List.getElem?_eq_none (by rw [Lp.cells_len]; exact h)] at hu; cases hu
    rw [List.flatMap_cons]
    cases j with
    | zero =>
      simp at hx; subst hx
      rw [Nat.zero_mul, Nat.zero_add, List.getElem?_append_left (by rw [Lp.cells_len]; exact hi)]
      exact hu
    | succ j =>
      rw [List.getElem?_append_right (by rw [Lp.cells_len]; omega), Lp.cells_len, show (j + 1) * 3 + i - 3 = j * 3 + i by omega]
      exact ih j x i u (by simpa using hx) hu
theorem lps_of_owns {W : World} {base : Nat} {t : TypeId} {v : Value} {ds : List Lp} (h : W.ownsRow base t 3 v ds.length ((ds.flatMap Lp.cells).map (Value.int .i64))) : ∃ a cap, v = .slice a ds.length cap ∧ Sl 3 Lp.cells W a ds ∧ (∀ p, a = some p → base ≤ p.block) := by
  rcases h.2 with ⟨rfl, h0⟩ | ⟨g, cap, cur, rfl, hb, hg, _⟩
  · exact ⟨none, 0, by rw [h0], (fun hp => by omega), (fun p hp => by cases hp)⟩
  · refine ⟨some ⟨g, 0, none⟩, cap, rfl, fun _ => ⟨g, 0, rfl, lt_of_block hg, fun j x i u hx hu => ?_⟩, (fun p hp => by cases hp; exact hb)⟩
    have hc := h.cells (g := g) rfl (j * 3 + i) (.int .i64 u) (by rw [List.getElem?_map, flatP_get ds j x i u hx hu]; rfl)
    have : (⟨g, 0, none⟩ : Addr).add (j * 3 + i) = ⟨g, 0 + j * 3 + i, none⟩ := by unfold Addr.add; split <;> simp_all
    rw [this] at hc
    exact hc

/-- A call that hands back a slice of loops; nothing that was there before it has turned. -/
def OutLps (w : World) (ys : List Lp) (e : Ending) (w' : World) : Prop := ∃ a cap, e = .returned (.slice a ys.length cap) ∧ Sl 3 Lp.cells w' a ys ∧ (∀ p, a = some p → w.heap.size ≤ p.block) ∧ Below w.heap.size w w'

set_option maxHeartbeats 1000000 in
theorem cloneLp_any (a : Option Addr) (ds : List Lp) (cap : Nat) (w : World) (hx : Sl 3 Lp.cells w a ds) (hna : a = none → ds.length = 0 ∧ cap = 0) (hl : ds.length ≤ 1000) :
    Calls Try.prog 16 #[.slice a ds.length cap] w (OutLps w ds) := by
  obtain ⟨i0, hi, hz0, hz1, hz2⟩ := info_parts Try.info31
  cases a with
  | none =>
    obtain ⟨h1, rfl⟩ := hna rfl
    have : ds = [] := List.eq_nil_of_length_eq_zero h1
    subst this
    have hap : ∀ w, (Builtin.append_ #[22, 22] 22 #[.slice none 0 0, .slice none 0 0]).run Try.prog w = .ok (.slice none 0 0) w := fun _ => by kernel_rfl
    clear hna
    show Calls Try.prog 16 #[.slice none 0 0] w _
    go_enter Try.func16, Try.ntmps16
    go_wp2
    go_ret
    exact ⟨none, 0, rfl, hx, (fun p hp => by cases hp), Below.refl _ _⟩
  | some ad =>
    have HC : Hid (∀ j u, ((ds.flatMap Lp.cells).map (Value.int .i64))[j]? = some u → w.cell? (ad.add j) = some u) := fun j u hu => by
      have hj : j < ds.length * 3 := by
        rcases Nat.lt_or_ge j (ds.length * 3) with h | h
        · exact h
        · rw [List.getElem?_eq_none (by rw [List.length_map, flatP_len]; exact h)] at hu; cases hu
      obtain ⟨b, off, e, hbs, hc⟩ := hx (by omega)
      cases e
      have hq : j / 3 < ds.length := by omega
      have e : (⟨b, off, none⟩ : Addr).add j = ⟨b, off + (j / 3) * 3 + j % 3, none⟩ := by
        rw [show off + (j / 3) * 3 + j % 3 = off + j by omega]
        unfold Addr.add; split <;> simp_all
      have hr : j % 3 < (Lp.cells ds[j / 3]).length := by rw [Lp.cells_len]; omega
      have h1 := hc (j / 3) ds[j / 3] (j % 3) _ (List.getElem?_eq_getElem hq) (List.getElem?_eq_getElem hr)
      have h2 := flatP_get ds (j / 3) ds[j / 3] (j % 3) _ (List.getElem?_eq_getElem hq) (List.getElem?_eq_getElem hr)
      rw [show j / 3 * 3 + j % 3 = j by omega] at h2
      rw [e, h1]
      rw [List.getElem?_map, h2] at hu
      simpa using hu
    have HLL := Lib.hid (flatP_len ds)
    clear hx hna
    go_enter Try.func16, Try.ntmps16
    go_wp2_with (at_builtin; refine wpList_append_own_at _ rfl _ _ 22 rfl w.heap.size 31 i0 (.agg #[.int .i64 0, .int .i64 0, .int .i64 0]) 3 24 Try.underlying22 hi hz0 hz1 hz2 rfl (by decide) (.slice none 0 0) 0 [] rfl ⟨rfl, .inl ⟨rfl, rfl⟩⟩ ad ds.length cap ((ds.flatMap Lp.cells).map (Value.int .i64)) rfl ?c0 ?c1 ?c2 ?c3 ?c4 ?c5 ?_)
    case c0 => rw [List.length_map]; exact HLL.out
    case c1 => exact HC.out
    case c2 => intro u hu; obtain ⟨x, _, rfl⟩ := List.mem_map.1 hu; rfl
    case c3 => unfold maxLen; omega
    case c4 => omega
    case c5 => exact Nat.le_refl _
    intro v' w2 hown2 hgrow2 _ _
    have hb3 : Below w.heap.size w w2 := (Below.refl _ w).grown hgrow2 (Nat.le_refl _) (fun j hj => by simp [Value.ownBlock] at hj)
    obtain ⟨a', c', rfl, hs, hf⟩ := lps_of_owns hown2
    have HO := Lib.hid (And.intro hs (And.intro hf hb3))
    clear hown2 hgrow2 hs hf hb3
    go_wp2
    go_ret
    exact ⟨a', c', rfl, HO.out⟩

set_option maxHeartbeats 1000000 in
theorem cloneInt_any (a : Option Addr) (xs : List Int) (cap : Nat) (w : World) (hx : IntSl w a xs) (hna : a = none → xs.length = 0 ∧ cap = 0) (hl : xs.length ≤ 1000) :
    Calls Try.prog 17 #[.slice a xs.length cap] w (OutInts w xs) := by
  obtain ⟨i0, hi, hz0, hz1, hz2⟩ := info_parts Try.info3
  cases a with
  | none =>
    obtain ⟨h1, rfl⟩ := hna rfl
    have : xs = [] := List.eq_nil_of_length_eq_zero h1
    subst this
    have hap : ∀ w, (Builtin.append_ #[27, 27] 27 #[.slice none 0 0, .slice none 0 0]).run Try.prog w = .ok (.slice none 0 0) w := fun _ => by kernel_rfl
    clear hna
    show Calls Try.prog 17 #[.slice none 0 0] w _
    go_enter Try.func17, Try.ntmps17
    go_wp2
    go_ret
    exact ⟨none, 0, rfl, hx, (fun p hp => by cases hp), Below.refl _ _⟩
  | some ad =>
    have HC : Hid (∀ j u, (xs.map (Value.int .i64))[j]? = some u → w.cell? (ad.add j) = some u) := fun j u hu => by
      have hj : j < xs.length := by
        rcases Nat.lt_or_ge j xs.length with h | h
        · exact h
        · rw [List.getElem?_eq_none (by rw [List.length_map]; exact h)] at hu; cases hu
      obtain ⟨b, off, e, hbs, hc⟩ := hx (by omega)
      cases e
      have e : (⟨b, off, none⟩ : Addr).add j = ⟨b, off + j, none⟩ := by unfold Addr.add; split <;> simp_all
      rw [e, hc j hj]
      rw [List.getElem?_map, List.getElem?_eq_getElem hj] at hu
      rw [List.getElem?_eq_getElem hj]
      simpa using hu
    clear hx hna
    go_enter Try.func17, Try.ntmps17
    go_wp2_with (at_builtin; refine wpList_append_own_at _ rfl _ _ 27 rfl w.heap.size 3 i0 (.int .i64 0) 1 8 Try.underlying27 hi hz0 hz1 hz2 rfl (by decide) (.slice none 0 0) 0 [] rfl ⟨rfl, .inl ⟨rfl, rfl⟩⟩ ad xs.length cap (xs.map (Value.int .i64)) rfl ?c0 ?c1 ?c2 ?c3 ?c4 ?c5 ?_)
    case c0 => rw [List.length_map, Nat.mul_one]
    case c1 => exact HC.out
    case c2 => intro u hu; obtain ⟨x, _, rfl⟩ := List.mem_map.1 hu; rfl
    case c3 => unfold maxLen; omega
    case c4 => omega
    case c5 => exact Nat.le_refl _
    intro v' w2 hown2 hgrow2 _ _
    have hb3 : Below w.heap.size w w2 := (Below.refl _ w).grown hgrow2 (Nat.le_refl _) (fun j hj => by simp [Value.ownBlock] at hj)
    obtain ⟨a', c', rfl, hs, hf⟩ := ints_of_owns hown2
    have HO := Lib.hid (And.intro hs (And.intro hf hb3))
    clear hown2 hgrow2 hs hf hb3
    go_wp2
    go_ret
    exact ⟨a', c', rfl, HO.out⟩

set_option maxHeartbeats 1000000 in
theorem numbers_any (a : Option Addr) (xs : List Int) (cap : Nat) (w : World) (hx : IntSl w a xs) (hl : xs.length ≤ 1000) :
    Calls Try.prog 24 #[.slice a xs.length cap] w (OutInts w xs) := by
  obtain ⟨i0, hi, hz0, hz1, hz2⟩ := info_parts Try.info3
  go_enter Try.func24, Try.ntmps24
  go_wp2
  go_loopw [3, 8] (fun v i wr => ∃ k : Nat, k ≤ xs.length ∧ i = .int .i64 k ∧ wr.ownsRow w.heap.size 3 1 v k ((xs.take k).map (Value.int .i64)) ∧ Below w.heap.size w wr) (fun _ i _ => xs.length - (intOf i).toNat)
  case atStart => exact ⟨0, Nat.zero_le _, rfl, World.ownsRow_nil _ _ _ _, Below.refl _ _⟩
  case round =>
    obtain ⟨k, hk, rfl, hown, hbw⟩ := hrel
    by_cases hlt : k < xs.length
    · obtain ⟨b, off, rfl, hbs, hc⟩ := hx (by omega)
      have hck := (hbw.cell (p := ⟨b, off + k, none⟩) hbs).trans (hc k hlt)
      rw [List.getElem?_eq_getElem hlt, Option.getD_some] at hck
      have HE : Hid ((xs.take (k + 1)).map (Value.int .i64) = (xs.map (Value.int .i64)).take k ++ [.int .i64 xs[k]]) := by show _ = _; rw [← List.map_take]; exact map_take_succ (Value.int .i64) xs k hlt
      clear hc
      generalize xs[k] = x at *
      have hsz := hbw.size
      go_wp2_with (at_builtin; refine wpList_append_own _ rfl _ _ 27 rfl w.heap.size 3 i0 (.int .i64 0) 1 8 Try.underlying27 hi hz0 hz1 hz2 rfl (by decide) _ _ _ rfl (hown.alloc _) ⟨wr.heap.size, 0, none⟩ 1 1 [.int .i64 x] rfl rfl ?c1 ?c2 ?c3 ?c4 ?c5 ?_)
      case c1 => exact cell_one_new _ _ _
      case c2 => intro u hu; simp at hu; subst hu; rfl
      case c3 => unfold maxLen; omega
      case c4 => omega
      case c5 => simp; omega
      intro v' w2 hown2 hgrow2 _
      have hb3 : Below w.heap.size w w2 := (hbw.alloc hbw.size _).grown hgrow2 (by simp; omega) (fun j hj => (hown.lt j hj).1)
      rw [← HE.out] at hown2
      have HO := Lib.hid (And.intro hown2 hb3)
      clear hown2 hgrow2 hown hck hb3
      go_wp2
      go_roundw
      case rel => exact ⟨k + 1, by omega, by go_num, HO.out⟩
      case measure => simp [intOf]; omega
    · have : k = xs.length := by omega
      subst this
      rw [List.take_length] at hown
      obtain ⟨a', cap', rfl, hs, hfr⟩ := ints_of_owns hown
      go_wp2
      go_ret
      exact ⟨a', cap', rfl, hs, hfr, hbw⟩

theorem cells_newP (w : World) (x : Lp) (t : TypeId) : ∀ j u, ((Lp.cells x).map (Value.int .i64))[j]? = some u → (w.alloc (.cells #[.int .i64 x.l, .int .i64 x.c, .int .i64 x.d] t)).cell? ((⟨w.heap.size, 0, none⟩ : Addr).add j) = some u := fun j u h => cells_new w [.int .i64 x.l, .int .i64 x.c, .int .i64 x.d] t j u h

set_option maxHeartbeats 2000000 in
theorem loops_any (a : Option Addr) (xs : List Lp) (cap : Nat) (w : World) (hx : Sl 3 Lp.cells w a xs) (hl : xs.length ≤ 1000) :
    Calls Try.prog 20 #[.slice a xs.length cap] w (OutLps w xs) := by
  obtain ⟨i0, hi, hz0, hz1, hz2⟩ := info_parts Try.info127
  go_enter Try.func20, Try.ntmps20
  go_wp2
  go_loopw [3, 8] (fun v i wr => ∃ k : Nat, k ≤ xs.length ∧ i = .int .i64 k ∧ wr.ownsRow w.heap.size 127 3 v k (((xs.take k).flatMap Lp.cells).map (Value.int .i64)) ∧ Below w.heap.size w wr) (fun _ i _ => xs.length - (intOf i).toNat)
  case atStart => exact ⟨0, Nat.zero_le _, rfl, World.ownsRow_nil _ _ _ _, Below.refl _ _⟩
  case round =>
    obtain ⟨k, hk, rfl, hown, hbw⟩ := hrel
    by_cases hlt : k < xs.length
    · obtain ⟨b, off, rfl, hbs, hc⟩ := hx (by omega)
      have hxk := List.getElem?_eq_getElem hlt
      have d0 : wr.cell? ⟨b, off + k * 3, none⟩ = some (.int .i64 xs[k].l) := (hbw.cell (p := ⟨b, off + k * 3 + 0, none⟩) hbs).trans (hc k xs[k] 0 _ hxk rfl)
      have d1 := (hbw.cell (p := ⟨b, off + k * 3 + 1, none⟩) hbs).trans (hc k xs[k] 1 _ hxk rfl)
      have d2 := (hbw.cell (p := ⟨b, off + k * 3 + 2, none⟩) hbs).trans (hc k xs[k] 2 _ hxk rfl)
      have HE : Hid (((xs.take (k + 1)).flatMap Lp.cells).map (Value.int .i64) = ((xs.take k).flatMap Lp.cells).map (Value.int .i64) ++ (Lp.cells xs[k]).map (Value.int .i64)) := by
        show _ = _
        rw [List.take_add_one, hxk, List.flatMap_append, List.map_append]
        simp
      clear hc hxk
      generalize xs[k] = x at *
      have hsz := hbw.size
      obtain ⟨Wx, hWx⟩ : ∃ Wx, wr.alloc (.cells #[.int .i64 x.l, .int .i64 x.c, .int .i64 x.d] 31) = Wx := ⟨_, rfl⟩
      have hbx : Below wr.heap.size wr Wx := by rw [← hWx]; exact (Below.refl _ _).alloc (Nat.le_refl _) _
      have HNX : Hid (Wx.heap[wr.heap.size]? = some (.cells #[.int .i64 x.l, .int .i64 x.c, .int .i64 x.d] 31 (0, 0))) := by rw [← hWx]; exact heap_alloc_new _ _
      have HBW := Lib.hid (below_self hbw hbx)
      have HOX := Lib.hid (owns_below hown hbx)
      go_upto_region 5 with (fail)
      clear hWx d0 d1 d2 hbw hown hbx
      have n0 := blk_cell HNX.out 0 rfl
      have n1 := blk_cell HNX.out 1 rfl
      have n2 := blk_cell HNX.out 2 rfl
      have hsx := HBW.out.size
      go_wp2_with (at_builtin; refine wpList_append_own_at _ rfl _ _ 36 rfl w.heap.size 127 i0 (.agg #[.int .i64 0, .int .i64 0, .int .i64 0]) 3 24 Try.underlying36 hi hz0 hz1 hz2 rfl (by decide) _ k (((xs.take k).flatMap Lp.cells).map (Value.int .i64)) rfl (HOX.out.alloc _) ⟨Wx.heap.size, 0, none⟩ 1 1 ((Lp.cells x).map (Value.int .i64)) rfl rfl (cells_newP _ x _) (by intro u hu; obtain ⟨x, _, rfl⟩ := List.mem_map.1 hu; rfl) (by unfold maxLen; omega) (by omega) (by simp; omega) ?_)
      intro v' w2 hown2 hgrow2 _ _
      have hb3 : Below w.heap.size w w2 := (HBW.out.alloc HBW.out.size _).grown hgrow2 (by simp; omega) (fun j hj => (HOX.out.lt j hj).1)
      rw [← HE.out] at hown2
      have HO := Lib.hid (And.intro hown2 hb3)
      clear hown2 hgrow2 n0 n1 n2 hb3
      go_wp2
      go_roundw
      case rel => exact ⟨k + 1, by omega, by go_num, HO.out⟩
      case measure => simp [intOf]; omega
    · have : k = xs.length := by omega
      subst this
      rw [List.take_length] at hown
      obtain ⟨a', cap', rfl, hs, hfr⟩ := lps_of_owns hown
      go_wp2
      go_ret
      exact ⟨a', cap', rfl, hs, hfr, hbw⟩

def eqLp (x y : Lp) : Bool := decide (x.l = y.l) && (decide (x.c = y.c) && decide (x.d = y.d))
theorem eqLp_self (x : Lp) : eqLp x x = true := by simp [eqLp]
theorem eq31 (a b c d e f : Int) (w : World) : (Op.equalIn 10000 31 (.agg #[.int .i64 a, .int .i64 b, .int .i64 c]) (.agg #[.int .i64 d, .int .i64 e, .int .i64 f])).run Try.prog w = .ok (decide (a = d) && (decide (b = e) && decide (c = f))) w := by
  rw [Op.equalIn]
  simp [go_sem]
  by_cases h1 : a = d <;> by_cases h2 : b = e <;> by_cases h3 : c = f <;> simp [h1, h2, h3]
theorem eq31_self (x : Lp) (w : World) : (Op.equalIn 10000 31 (.agg #[.int .i64 x.l, .int .i64 x.c, .int .i64 x.d]) (.agg #[.int .i64 x.l, .int .i64 x.c, .int .i64 x.d])).run Try.prog w = .ok true w := by
  rw [eq31]; simp

set_option maxHeartbeats 1000000 in
theorem equalLp_same (a : Option Addr) (xs : List Lp) (ca : Nat) (b : Option Addr) (cb : Nat) (w : World) (hx : Sl 3 Lp.cells w a xs) (hy : Sl 3 Lp.cells w b xs) (hl : xs.length ≤ 1000000) :
    Calls Try.prog 25 #[.slice a xs.length ca, .slice b xs.length cb] w fun e w' => e = .returned (.bool true) ∧ Below w.heap.size w w' := by
  have HX := Lib.hid (And.intro hx hy)
  clear hx hy
  go_enter Try.func25, Try.ntmps25
  go_wp2
  go_loopw [13] (fun i wr => ∃ k : Nat, k ≤ xs.length ∧ i = .int .i64 k ∧ Below w.heap.size w wr) (fun i _ => xs.length - (intOf i).toNat)
  case atStart => exact ⟨0, Nat.zero_le _, rfl, Below.refl _ _⟩
  case round =>
    obtain ⟨k, hk, rfl, hbw⟩ := hrel
    by_cases hlt : k < xs.length
    · obtain ⟨b1, o1, rfl, hb1, hc1⟩ := HX.out.1 (by omega)
      obtain ⟨b2, o2, rfl, hb2, hc2⟩ := HX.out.2 (by omega)
      have hxk := List.getElem?_eq_getElem hlt
      have d1 : wr.cell? ⟨b1, o1 + k * 3, none⟩ = some (.int .i64 xs[k].l) := (hbw.cell (p := ⟨b1, o1 + k * 3 + 0, none⟩) hb1).trans (hc1 k _ 0 _ hxk rfl)
      have d2 := (hbw.cell (p := ⟨b1, o1 + k * 3 + 1, none⟩) hb1).trans (hc1 k _ 1 _ hxk rfl)
      have d3 := (hbw.cell (p := ⟨b1, o1 + k * 3 + 2, none⟩) hb1).trans (hc1 k _ 2 _ hxk rfl)
      have d4 : wr.cell? ⟨b2, o2 + k * 3, none⟩ = some (.int .i64 xs[k].l) := (hbw.cell (p := ⟨b2, o2 + k * 3 + 0, none⟩) hb2).trans (hc2 k _ 0 _ hxk rfl)
      have d5 := (hbw.cell (p := ⟨b2, o2 + k * 3 + 1, none⟩) hb2).trans (hc2 k _ 1 _ hxk rfl)
      have d6 := (hbw.cell (p := ⟨b2, o2 + k * 3 + 2, none⟩) hb2).trans (hc2 k _ 2 _ hxk rfl)
      clear hc1 hc2 hxk
      generalize xs[k] = x at *
      have q31 := eq31_self x
      go_wp2_with fail
      go_quiet (fail)
      have hwd := below_drewN hbw nq
      go_wp2
      go_roundw
      case rel => exact ⟨k + 1, by omega, by go_num, hwd⟩
      case measure => simp [intOf]; omega
    · have : k = xs.length := by omega
      subst this
      go_wp2
      go_ret
      exact ⟨rfl, hbw⟩
end Go.Proofs.Ytpkegiekpnaejaa

namespace Go.Proofs.Ytpkegiekpnaejaa
open Go.RowKit Go.Shelf
attribute [local go_sem] Oper.semAt_some

/-- Rules in a box. -/
def RB (w : World) (B : Nat) (r : Ru) : Prop := w.heap[B]? = some (.cells #[.int .i64 r.laps, .int .i64 r.len.lo, .int .i64 r.len.hi, .int .i64 r.climb.lo, .int .i64 r.climb.hi, .int .i64 r.lap.lo, .int .i64 r.lap.hi, .int .i64 r.wide, .int .i64 r.uses] 26 (0, 0))
theorem RB.below {w w' : World} {B : Nat} {r : Ru} (h : RB w B r) (hb : Below w.heap.size w w') : RB w' B r := blk_below h hb
theorem broken_le {xs : List Lp} {r : Ru} {c R : List Int} {E : Int} (h : brokenR xs r c = (R, E)) : R.length ≤ 5 := by
  have h1 : R = (brokenR xs r c).1 := by rw [h]
  rw [h1, brokenR]
  split
  · split
    · split
      · exact rulesTo_le _ 5
      · simp
    · simp
  · simp

set_option maxHeartbeats 4000000 in
set_option maxRecDepth 100000 in
theorem rules_law (a : Option Addr) (xs : List Lp) (cap : Nat) (r : Ru) (ac : Option Addr) (c : List Int) (ccap : Nat) (w : World) (hx : Sl 3 Lp.cells w a xs) (hc : IntSl w ac c)
    (hna : a = none → xs.length = 0 ∧ cap = 0) (hnc : ac = none → c.length = 0 ∧ ccap = 0) :
    Calls Try.prog 3 #[.slice a xs.length cap, r.v, .slice ac c.length ccap] w fun e w' => e = .returned (.bool true) ∧ Below w.heap.size w w' := by
  have hB0 : Below w.heap.size w (w.alloc (.cells #[.int .i64 r.laps, .int .i64 r.len.lo, .int .i64 r.len.hi, .int .i64 r.climb.lo, .int .i64 r.climb.hi, .int .i64 r.lap.lo, .int .i64 r.lap.hi, .int .i64 r.wide, .int .i64 r.uses] 26)) := (Below.refl _ _).alloc (Nat.le_refl _) _
  have hR0 : RB (w.alloc (.cells #[.int .i64 r.laps, .int .i64 r.len.lo, .int .i64 r.len.hi, .int .i64 r.climb.lo, .int .i64 r.climb.hi, .int .i64 r.lap.lo, .int .i64 r.lap.hi, .int .i64 r.wide, .int .i64 r.uses] 26)) w.heap.size r := heap_alloc_new _ _
  have HX := Lib.hid (And.intro hx (And.intro hc (And.intro hna hnc)))
  clear hx hc hna hnc
  obtain ⟨W0, hW0⟩ : ∃ W0, w.alloc (.cells #[.int .i64 r.laps, .int .i64 r.len.lo, .int .i64 r.len.hi, .int .i64 r.climb.lo, .int .i64 r.climb.hi, .int .i64 r.lap.lo, .int .i64 r.lap.hi, .int .i64 r.wide, .int .i64 r.uses] 26) = W0 := ⟨_, rfl⟩
  rw [hW0] at hB0 hR0
  have HB0 := Lib.hid hB0
  have HR0 := Lib.hid hR0
  clear hB0 hR0
  by_cases hbig : xs.length ≤ 15 ∧ c.length ≤ 10
  · obtain ⟨hb1, hb2⟩ := hbig
    go_enter Try.func3, Try.ntmps3
    go_wp2_with (fail)
    clear hW0
    refine (cloneLp_any a xs cap _ (HX.out.1.below HB0.out) HX.out.2.2.1 (by omega)).mono ?_
    rintro e w1 ⟨oa, ocap, rfl, h1, h2, hb⟩
    have HB1 := Lib.hid (below_self HB0.out hb)
    have HR1 := Lib.hid (HR0.out.below hb)
    have HO1 := Lib.hid h1
    clear h1 h2 hb
    go_wp2_with (fail)
    refine (cloneInt_any ac c ccap _ (HX.out.2.1.below HB1.out) HX.out.2.2.2 (by omega)).mono ?_
    rintro e w2 ⟨om, mcap, rfl, h1, h2, hb⟩
    have HB2 := Lib.hid (below_self HB1.out hb)
    have HR2 := Lib.hid (HR1.out.below hb)
    have HO2 := Lib.hid (And.intro (HO1.out.below hb) h1)
    clear h1 h2 hb
    go_upto_region 4 with (fail)
    have c0 := blk_cell HR2.out 0 rfl
    have c1 := blk_cell HR2.out 1 rfl
    have c2 := blk_cell HR2.out 2 rfl
    have c3 := blk_cell HR2.out 3 rfl
    have c4 := blk_cell HR2.out 4 rfl
    have c5 := blk_cell HR2.out 5 rfl
    have c6 := blk_cell HR2.out 6 rfl
    have c7 := blk_cell HR2.out 7 rfl
    have c8 := blk_cell HR2.out 8 rfl
    have hcl : c.length ≤ 1000000 := by omega
    go_region_held3 (fun w' => w'.cell? ⟨w.heap.size, 0, none⟩ = some (.int .i64 r.laps) ∧ w'.cell? ⟨w.heap.size, 1, none⟩ = some (.int .i64 r.len.lo) ∧ w'.cell? ⟨w.heap.size, 2, none⟩ = some (.int .i64 r.len.hi) ∧ w'.cell? ⟨w.heap.size, 3, none⟩ = some (.int .i64 r.climb.lo) ∧ w'.cell? ⟨w.heap.size, 4, none⟩ = some (.int .i64 r.climb.hi) ∧ w'.cell? ⟨w.heap.size, 5, none⟩ = some (.int .i64 r.lap.lo) ∧ w'.cell? ⟨w.heap.size, 6, none⟩ = some (.int .i64 r.lap.hi) ∧ w'.cell? ⟨w.heap.size, 7, none⟩ = some (.int .i64 r.wide) ∧ w'.cell? ⟨w.heap.size, 8, none⟩ = some (.int .i64 r.uses)) (go_keep)
      (first
        | (go_at_call 19; refine (refCheck_any ta xs tcap r w4 HO4.out (by omega)).mono ?_; rintro e w5 ⟨rfl, hb⟩; have HB5 := Lib.hid (below_self HB4.out hb); have HR5 := Lib.hid (HR4.out.below hb); have HO5 := Lib.hid (And.intro (HOO4.out.1.below hb) (HOO4.out.2.below hb)); clear hb; clear c0 c1 c2 c3 c4 c5 c6 c7 c8; have c0 := blk_cell HR5.out 0 rfl; have c1 := blk_cell HR5.out 1 rfl; have c2 := blk_cell HR5.out 2 rfl; have c3 := blk_cell HR5.out 3 rfl; have c4 := blk_cell HR5.out 4 rfl; have c5 := blk_cell HR5.out 5 rfl; have c6 := blk_cell HR5.out 6 rfl; have c7 := blk_cell HR5.out 7 rfl; have c8 := blk_cell HR5.out 8 rfl)
        | (go_at_call 20; refine (loops_any a xs cap w3 (HX.out.1.below HB3.out) (by omega)).mono ?_; rintro e w4 ⟨ta, tcap, rfl, h1, h2, hb⟩; have HB4 := Lib.hid (below_self HB3.out hb); have HR4 := Lib.hid (HR3.out.below hb); have HO4 := Lib.hid h1; have HOO4 := Lib.hid (And.intro (HO3.out.1.below hb) (HO3.out.2.below hb)); clear h1 h2 hb; clear c0 c1 c2 c3 c4 c5 c6 c7 c8; have c0 := blk_cell HR4.out 0 rfl; have c1 := blk_cell HR4.out 1 rfl; have c2 := blk_cell HR4.out 2 rfl; have c3 := blk_cell HR4.out 3 rfl; have c4 := blk_cell HR4.out 4 rfl; have c5 := blk_cell HR4.out 5 rfl; have c6 := blk_cell HR4.out 6 rfl; have c7 := blk_cell HR4.out 7 rfl; have c8 := blk_cell HR4.out 8 rfl)
        | (go_at_call 18; refine (check_any oa xs ocap r _ (HO2.out.1.below ((Below.refl _ _).drew)) (by omega)).mono ?_; rintro e w3 ⟨rfl, hb⟩; have HB3 := Lib.hid (below_self (HB2.out.drew) hb); have HR3 := Lib.hid (RB.below (w := w2.drew) HR2.out hb); have HO3 := Lib.hid (And.intro (HO2.out.1.below (below_self ((Below.refl w2.heap.size w2).drew) hb)) (HO2.out.2.below (below_self ((Below.refl w2.heap.size w2).drew) hb))); clear hb; clear c0 c1 c2 c3 c4 c5 c6 c7 c8; have c0 := blk_cell HR3.out 0 rfl; have c1 := blk_cell HR3.out 1 rfl; have c2 := blk_cell HR3.out 2 rfl; have c3 := blk_cell HR3.out 3 rfl; have c4 := blk_cell HR3.out 4 rfl; have c5 := blk_cell HR3.out 5 rfl; have c6 := blk_cell HR3.out 6 rfl; have c7 := blk_cell HR3.out 7 rfl; have c8 := blk_cell HR3.out 8 rfl))
    all_goals (
      clear c0 c1 c2 c3 c4 c5 c6 c7 c8
      go_wp2_with (fail)
      obtain ⟨R, E, hRE⟩ : ∃ R E, brokenR xs r c = (R, E) := ⟨_, _, rfl⟩
      have c0 := blk_cell HR5.out 0 rfl
      have c1 := blk_cell HR5.out 1 rfl
      have c2 := blk_cell HR5.out 2 rfl
      have c3 := blk_cell HR5.out 3 rfl
      have c4 := blk_cell HR5.out 4 rfl
      have c5 := blk_cell HR5.out 5 rfl
      have c6 := blk_cell HR5.out 6 rfl
      have c7 := blk_cell HR5.out 7 rfl
      have c8 := blk_cell HR5.out 8 rfl
      go_wp2_with (fail)
      clear c0 c1 c2 c3 c4 c5 c6 c7 c8
      have HC := broken_any oa xs ocap r om c mcap w5 HO5.out.1 HO5.out.2 (by omega) hcl
      rw [hRE] at HC
      have HC2 := fun (b : Option Addr) (bcap : Nat) (W : World) (h1 : Sl 3 Lp.cells W b xs) (h2 : IntSl W ac c) => refBroken_any b xs bcap r ac c ccap W h1 h2 (by omega) hcl
      rw [hRE] at HC2
      have HB22 := Lib.hid HC2
      have HRL := Lib.hid (broken_le hRE)
      clear HC2 hRE
      refine HC.mono ?_
      clear HC
      rintro e w6 ⟨ra, rcap, rfl, h1, h2, hb⟩
      have HB6 := Lib.hid (below_self HB5.out hb)
      have HR6 := Lib.hid (HR5.out.below hb)
      have HO6 := Lib.hid (And.intro (HO5.out.1.below hb) (And.intro (HO5.out.2.below hb) h1))
      clear h1 h2 hb
      have c0 := blk_cell HR6.out 0 rfl
      have c1 := blk_cell HR6.out 1 rfl
      have c2 := blk_cell HR6.out 2 rfl
      have c3 := blk_cell HR6.out 3 rfl
      have c4 := blk_cell HR6.out 4 rfl
      have c5 := blk_cell HR6.out 5 rfl
      have c6 := blk_cell HR6.out 6 rfl
      have c7 := blk_cell HR6.out 7 rfl
      have c8 := blk_cell HR6.out 8 rfl
      go_upto_region 7 with (fail)
      go_region_held3 (fun w' => w'.cell? ⟨w.heap.size, 0, none⟩ = some (.int .i64 r.laps) ∧ w'.cell? ⟨w.heap.size, 1, none⟩ = some (.int .i64 r.len.lo) ∧ w'.cell? ⟨w.heap.size, 2, none⟩ = some (.int .i64 r.len.hi) ∧ w'.cell? ⟨w.heap.size, 3, none⟩ = some (.int .i64 r.climb.lo) ∧ w'.cell? ⟨w.heap.size, 4, none⟩ = some (.int .i64 r.climb.hi) ∧ w'.cell? ⟨w.heap.size, 5, none⟩ = some (.int .i64 r.lap.lo) ∧ w'.cell? ⟨w.heap.size, 6, none⟩ = some (.int .i64 r.lap.hi) ∧ w'.cell? ⟨w.heap.size, 7, none⟩ = some (.int .i64 r.wide) ∧ w'.cell? ⟨w.heap.size, 8, none⟩ = some (.int .i64 r.uses)) (go_keep)
        (first
          | (go_at_call 22; refine (HB22.out tb tbcap w7 HO7.out.2.2.2 (HX.out.2.1.below HB7.out)).mono ?_; rintro e w8 ⟨rb, rbcap, rfl, h1, h2, hb⟩; have HB8 := Lib.hid (below_self HB7.out hb); have HR8 := Lib.hid (HR7.out.below hb); have HO8 := Lib.hid (And.intro (HO7.out.1.below hb) (And.intro (HO7.out.2.1.below hb) (And.intro (HO7.out.2.2.1.below hb) h1))); clear h1 h2 hb; clear c0 c1 c2 c3 c4 c5 c6 c7 c8; have c0 := blk_cell HR8.out 0 rfl; have c1 := blk_cell HR8.out 1 rfl; have c2 := blk_cell HR8.out 2 rfl; have c3 := blk_cell HR8.out 3 rfl; have c4 := blk_cell HR8.out 4 rfl; have c5 := blk_cell HR8.out 5 rfl; have c6 := blk_cell HR8.out 6 rfl; have c7 := blk_cell HR8.out 7 rfl; have c8 := blk_cell HR8.out 8 rfl)
          | (go_at_call 20; refine (loops_any a xs cap _ (HX.out.1.below (HB6.out.drew)) (by omega)).mono ?_; rintro e w7 ⟨tb, tbcap, rfl, h1, h2, hb⟩; have HB7 := Lib.hid (below_self (HB6.out.drew) hb); have HR7 := Lib.hid (RB.below (w := w6.drew) HR6.out hb); have hbb := below_self ((Below.refl w6.heap.size w6).drew) hb; have HO7 := Lib.hid (And.intro (HO6.out.1.below hbb) (And.intro (HO6.out.2.1.below hbb) (And.intro (HO6.out.2.2.below hbb) h1))); clear h1 h2 hb hbb; clear c0 c1 c2 c3 c4 c5 c6 c7 c8; have c0 := blk_cell HR7.out 0 rfl; have c1 := blk_cell HR7.out 1 rfl; have c2 := blk_cell HR7.out 2 rfl; have c3 := blk_cell HR7.out 3 rfl; have c4 := blk_cell HR7.out 4 rfl; have c5 := blk_cell HR7.out 5 rfl; have c6 := blk_cell HR7.out 6 rfl; have c7 := blk_cell HR7.out 7 rfl; have c8 := blk_cell HR7.out 8 rfl))
      all_goals (
        clear c0 c1 c2 c3 c4 c5 c6 c7 c8
        go_wp2_with (fail)
        refine (numbers_any ra R rcap w8 HO8.out.2.2.1 (by have := HRL.out; omega)).mono ?_
        rintro e w9 ⟨na, ncap, rfl, h1, h2, hb⟩
        have HB9 := Lib.hid (below_self HB8.out hb)
        have HO9 := Lib.hid (And.intro (HO8.out.1.below hb) (And.intro (HO8.out.2.1.below hb) (And.intro (HO8.out.2.2.2.below hb) h1)))
        clear h1 h2 hb
        go_wp2_with (fail)
        refine (equal_int na R ncap rb R rbcap w9 HO9.out.2.2.2 HO9.out.2.2.1 (by have := HRL.out; omega)).mono ?_
        rintro e w10 ⟨rfl, hb⟩
        have HB10 := Lib.hid (below_self HB9.out hb)
        have HO10 := Lib.hid (And.intro (HO9.out.1.below hb) (HO9.out.2.1.below hb))
        clear hb
        go_wp2_with (fail)
        refine (equalLp_same oa xs ocap a cap w10 HO10.out.1 (HX.out.1.below HB10.out) (by omega)).mono ?_
        rintro e w11 ⟨rfl, hb⟩
        have HB11 := Lib.hid (below_self HB10.out hb)
        have HO11 := Lib.hid (HO10.out.2.below hb)
        clear hb
        go_wp2_with (fail)
        refine (equal_int om c mcap ac c ccap w11 HO11.out (HX.out.2.1.below HB11.out) (by omega)).mono ?_
        rintro e w12 ⟨rfl, hb⟩
        have HB12 := Lib.hid (below_self HB11.out hb)
        clear hb
        go_wp2_with (fail)
        refine (awake_any w12).mono ?_
        rintro e w13 ⟨rfl, hb⟩
        have HB13 := Lib.hid (below_self HB12.out hb)
        clear hb
        go_wp2_with (fail)
        go_ret
        exact ⟨rfl, HB13.out⟩)
      )
  · go_enter Try.func3, Try.ntmps3
    go_wp2_with (first | (go_at_call 15; refine (awake_any _).mono ?_; rintro e w13 ⟨rfl, hb⟩; have HB13 := Lib.hid (below_self HB0.out hb); clear hb))
    all_goals first
      | (exfalso; omega)
      | (go_ret; exact ⟨rfl, HB13.out⟩)
end Go.Proofs.Ytpkegiekpnaejaa
