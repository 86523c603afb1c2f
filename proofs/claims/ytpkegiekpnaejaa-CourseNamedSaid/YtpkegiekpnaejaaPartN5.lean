/-
The contracts of klisterkit.Clone, of the conversions to the reference's types, and of Equal for loops, over this seat's program.
  What is proved: a clone, and what is converted, read as the list that came in; Equal says whether two lists are the same.
  Conditions: lists of at most 1000 elements.
-/
import Derived.Test.YtpkegiekpnaejaaPartN4
namespace Go.Proofs.Ytpkegiekpnaejaa
open Go.RowKit Go.Shelf
attribute [local go_sem] Oper.semAt_some

theorem Try.info31 : (Try.prog.info? 31).map (fun i => (i.zero, i.size, i.bytes)) = some (some (.agg #[.int .i64 0, .int .i64 0, .int .i64 0]), 3, 24) := by kernel_rfl
theorem Try.info127 : (Try.prog.info? 127).map (fun i => (i.zero, i.size, i.bytes)) = some (some (.agg #[.int .i64 0, .int .i64 0, .int .i64 0]), 3, 24) := by kernel_rfl

theorem Lp.cells_len (x : Lp) : (Lp.cells x).length = 3 := rfl
theorem flatP_len (xs : List Lp) : (xs.flatMap Lp.cells).length = xs.length * 3 := by
  induction xs with
  | nil => rfl
  | cons d ds ih => rw [List.flatMap_cons, List.length_append, ih, Lp.cells_len, List.length_cons]; omega
theorem flatP_get (ds : List Lp) : ∀ (j : Nat) (x : Lp) (i : Nat) (u : Int), ds[j]? = some x → (Lp.cells x)[i]? = some u → (ds.flatMap Lp.cells)[j * 3 + i]? = some u := by
  induction ds with
  | nil => intro j x i u hx _; simp at hx
  | cons d ds ih =>
    intro j x i u hx hu
    have hi : i < 3 := by
      rcases Nat.lt_or_ge i 3 with h | h
      · exact h
      · rw [List.getElem?_eq_none (by rw [Lp.cells_len]; exact h)] at hu; cases hu
    rw [List.flatMap_cons]
    cases j with
    | zero =>
      simp at hx; subst hx
      rw [Nat.zero_mul, Nat.zero_add, List.getElem?_append_left (by rw [Lp.cells_len]; exact hi)]
      exact hu
    | succ j =>
      rw [List.getElem?_append_right (by rw [Lp.cells_len]; omega), Lp.cells_len, show (j + 1) * 3 + i - 3 = j * 3 + i by omega]
      exact ih j x i u (by simpa using hx) hu
theorem lps_of_owns {W : World} {base : Nat} {t : TypeId} {v : Value} {ds : List Lp} (h : W.ownsRow base t 3 v ds.length ((ds.flatMap Lp.cells).map (Value.int .i64))) : ∃ a cap, v = .slice a ds.length cap ∧ Sl 3 Lp.cells W a ds ∧ (∀ p, a = some p → base ≤ p.block) := by
  rcases h.2 with ⟨rfl, h0⟩ | ⟨g, cap, cur, rfl, hb, hg, _⟩
  · exact ⟨none, 0, by rw [h0], (fun hp => by omega), (fun p hp => by cases hp)⟩
  · refine ⟨some ⟨g, 0, none⟩, cap, rfl, fun _ => ⟨g, 0, rfl, lt_of_block hg, fun j x i u hx hu => ?_⟩, (fun p hp => by cases hp; exact hb)⟩
    have hc := h.cells (g := g) rfl (j * 3 + i) (.int .i64 u) (by rw [List.getElem?_map, flatP_get ds j x i u hx hu]; rfl)
    have : (⟨g, 0, none⟩ : Addr).add (j * 3 + i) = ⟨g, 0 + j * 3 + i, none⟩ := by unfold Addr.add; split <;> simp_all
    rw [this] at hc
    exact hc

/-- A call that hands back a slice of loops; nothing that was there before it has turned. -/
def OutLps (w : World) (ys : List Lp) (e : Ending) (w' : World) : Prop := ∃ a cap, e = .returned (.slice a ys.length cap) ∧ Sl 3 Lp.cells w' a ys ∧ (∀ p, a = some p → w.heap.size ≤ p.block) ∧ Below w.heap.size w w'

set_option maxHeartbeats 1000000 in
theorem cloneLp_any (a : Option Addr) (ds : List Lp) (cap : Nat) (w : World) (hx : Sl 3 Lp.cells w a ds) (hna : a = none → ds.length = 0 ∧ cap = 0) (hl : ds.length ≤ 1000) :
    Calls Try.prog 16 #[.slice a ds.length cap] w (OutLps w ds) := by
  obtain ⟨i0, hi, hz0, hz1, hz2⟩ := info_parts Try.info31
  cases a with
  | none =>
    obtain ⟨h1, rfl⟩ := hna rfl
    have : ds = [] := List.eq_nil_of_length_eq_zero h1
    subst this
    have hap : ∀ w, (Builtin.append_ #[22, 22] 22 #[.slice none 0 0, .slice none 0 0]).run Try.prog w = .ok (.slice none 0 0) w := fun _ => by kernel_rfl
    clear hna
    show Calls Try.prog 16 #[.slice none 0 0] w _
    go_enter Try.func16, Try.ntmps16
    go_wp2
    go_ret
    exact ⟨none, 0, rfl, hx, (fun p hp => by cases hp), Below.refl _ _⟩
  | some ad =>
    have HC : Hid (∀ j u, ((ds.flatMap Lp.cells).map (Value.int .i64))[j]? = some u → w.cell? (ad.add j) = some u) := fun j u hu => by
      have hj : j < ds.length * 3 := by
        rcases Nat.lt_or_ge j (ds.length * 3) with h | h
        · exact h
        · rw [List.getElem?_eq_none (by rw [List.length_map, flatP_len]; exact h)] at hu; cases hu
      obtain ⟨b, off, e, hbs, hc⟩ := hx (by omega)
      cases e
      have hq : j / 3 < ds.length := by omega
      have e : (⟨b, off, none⟩ : Addr).add j = ⟨b, off + (j / 3) * 3 + j % 3, none⟩ := by
        rw [show off + (j / 3) * 3 + j % 3 = off + j by omega]
        unfold Addr.add; split <;> simp_all
      have hr : j % 3 < (Lp.cells ds[j / 3]).length := by rw [Lp.cells_len]; omega
      have h1 := hc (j / 3) ds[j / 3] (j % 3) _ (List.getElem?_eq_getElem hq) (List.getElem?_eq_getElem hr)
      have h2 := flatP_get ds (j / 3) ds[j / 3] (j % 3) _ (List.getElem?_eq_getElem hq) (List.getElem?_eq_getElem hr)
      rw [show j / 3 * 3 + j % 3 = j by omega] at h2
      rw [e, h1]
      rw [List.getElem?_map, h2] at hu
      simpa using hu
    have HLL := Lib.hid (flatP_len ds)
    clear hx hna
    go_enter Try.func16, Try.ntmps16
    go_wp2_with (at_builtin; refine wpList_append_own_at _ rfl _ _ 22 rfl w.heap.size 31 i0 (.agg #[.int .i64 0, .int .i64 0, .int .i64 0]) 3 24 Try.underlying22 hi hz0 hz1 hz2 rfl (by decide) (.slice none 0 0) 0 [] rfl ⟨rfl, .inl ⟨rfl, rfl⟩⟩ ad ds.length cap ((ds.flatMap Lp.cells).map (Value.int .i64)) rfl ?c0 ?c1 ?c2 ?c3 ?c4 ?c5 ?_)
    case c0 => rw [List.length_map]; exact HLL.out
    case c1 => exact HC.out
    case c2 => intro u hu; obtain ⟨x, _, rfl⟩ := List.mem_map.1 hu; rfl
    case c3 => unfold maxLen; omega
    case c4 => omega
    case c5 => exact Nat.le_refl _
    intro v' w2 hown2 hgrow2 _ _
    have hb3 : Below w.heap.size w w2 := (Below.refl _ w).grown hgrow2 (Nat.le_refl _) (fun j hj => by simp [Value.ownBlock] at hj)
    obtain ⟨a', c', rfl, hs, hf⟩ := lps_of_owns hown2
    have HO := Lib.hid (And.intro hs (And.intro hf hb3))
    clear hown2 hgrow2 hs hf hb3
    go_wp2
    go_ret
    exact ⟨a', c', rfl, HO.out⟩

set_option maxHeartbeats 1000000 in
theorem cloneInt_any (a : Option Addr) (xs : List Int) (cap : Nat) (w : World) (hx : IntSl w a xs) (hna : a = none → xs.length = 0 ∧ cap = 0) (hl : xs.length ≤ 1000) :
    Calls Try.prog 17 #[.slice a xs.length cap] w (OutInts w xs) := by
  obtain ⟨i0, hi, hz0, hz1, hz2⟩ := info_parts Try.info3
  cases a with
  | none =>
    obtain ⟨h1, rfl⟩ := hna rfl
    have : xs = [] := List.eq_nil_of_length_eq_zero h1
    subst this
    have hap : ∀ w, (Builtin.append_ #[27, 27] 27 #[.slice none 0 0, .slice none 0 0]).run Try.prog w = .ok (.slice none 0 0) w := fun _ => by kernel_rfl
    clear hna
    show Calls Try.prog 17 #[.slice none 0 0] w _
    go_enter Try.func17, Try.ntmps17
    go_wp2
    go_ret
    exact ⟨none, 0, rfl, hx, (fun p hp => by cases hp), Below.refl _ _⟩
  | some ad =>
    have HC : Hid (∀ j u, (xs.map (Value.int .i64))[j]? = some u → w.cell? (ad.add j) = some u) := fun j u hu => by
      have hj : j < xs.length := by
        rcases Nat.lt_or_ge j xs.length with h | h
        · exact h
        · rw [List.getElem?_eq_none (by rw [List.length_map]; exact h)] at hu; cases hu
      obtain ⟨b, off, e, hbs, hc⟩ := hx (by omega)
      cases e
      have e : (⟨b, off, none⟩ : Addr).add j = ⟨b, off + j, none⟩ := by unfold Addr.add; split <;> simp_all
      rw [e, hc j hj]
      rw [List.getElem?_map, List.getElem?_eq_getElem hj] at hu
      rw [List.getElem?_eq_getElem hj]
      simpa using hu
    clear hx hna
    go_enter Try.func17, Try.ntmps17
    go_wp2_with (at_builtin; refine wpList_append_own_at _ rfl _ _ 27 rfl w.heap.size 3 i0 (.int .i64 0) 1 8 Try.underlying27 hi hz0 hz1 hz2 rfl (by decide) (.slice none 0 0) 0 [] rfl ⟨rfl, .inl ⟨rfl, rfl⟩⟩ ad xs.length cap (xs.map (Value.int .i64)) rfl ?c0 ?c1 ?c2 ?c3 ?c4 ?c5 ?_)
    case c0 => rw [List.length_map, Nat.mul_one]
    case c1 => exact HC.out
    case c2 => intro u hu; obtain ⟨x, _, rfl⟩ := List.mem_map.1 hu; rfl
    case c3 => unfold maxLen; omega
    case c4 => omega
    case c5 => exact Nat.le_refl _
    intro v' w2 hown2 hgrow2 _ _
    have hb3 : Below w.heap.size w w2 := (Below.refl _ w).grown hgrow2 (Nat.le_refl _) (fun j hj => by simp [Value.ownBlock] at hj)
    obtain ⟨a', c', rfl, hs, hf⟩ := ints_of_owns hown2
    have HO := Lib.hid (And.intro hs (And.intro hf hb3))
    clear hown2 hgrow2 hs hf hb3
    go_wp2
    go_ret
    exact ⟨a', c', rfl, HO.out⟩

set_option maxHeartbeats 1000000 in
theorem numbers_any (a : Option Addr) (xs : List Int) (cap : Nat) (w : World) (hx : IntSl w a xs) (hl : xs.length ≤ 1000) :
    Calls Try.prog 24 #[.slice a xs.length cap] w (OutInts w xs) := by
  obtain ⟨i0, hi, hz0, hz1, hz2⟩ := info_parts Try.info3
  go_enter Try.func24, Try.ntmps24
  go_wp2
  go_loopw [3, 8] (fun v i wr => ∃ k : Nat, k ≤ xs.length ∧ i = .int .i64 k ∧ wr.ownsRow w.heap.size 3 1 v k ((xs.take k).map (Value.int .i64)) ∧ Below w.heap.size w wr) (fun _ i _ => xs.length - (intOf i).toNat)
  case atStart => exact ⟨0, Nat.zero_le _, rfl, World.ownsRow_nil _ _ _ _, Below.refl _ _⟩
  case round =>
    obtain ⟨k, hk, rfl, hown, hbw⟩ := hrel
    by_cases hlt : k < xs.length
    · obtain ⟨b, off, rfl, hbs, hc⟩ := hx (by omega)
      have hck := (hbw.cell (p := ⟨b, off + k, none⟩) hbs).trans (hc k hlt)
      rw [List.getElem?_eq_getElem hlt, Option.getD_some] at hck
      have HE : Hid ((xs.take (k + 1)).map (Value.int .i64) = (xs.map (Value.int .i64)).take k ++ [.int .i64 xs[k]]) := by show _ = _; rw [← List.map_take]; exact map_take_succ (Value.int .i64) xs k hlt
      clear hc
      generalize xs[k] = x at *
      have hsz := hbw.size
      go_wp2_with (at_builtin; refine wpList_append_own _ rfl _ _ 27 rfl w.heap.size 3 i0 (.int .i64 0) 1 8 Try.underlying27 hi hz0 hz1 hz2 rfl (by decide) _ _ _ rfl (hown.alloc _) ⟨wr.heap.size, 0, none⟩ 1 1 [.int .i64 x] rfl rfl ?c1 ?c2 ?c3 ?c4 ?c5 ?_)
      case c1 => exact cell_one_new _ _ _
      case c2 => intro u hu; simp at hu; subst hu; rfl
      case c3 => unfold maxLen; omega
      case c4 => omega
      case c5 => simp; omega
      intro v' w2 hown2 hgrow2 _
      have hb3 : Below w.heap.size w w2 := (hbw.alloc hbw.size _).grown hgrow2 (by simp; omega) (fun j hj => (hown.lt j hj).1)
      rw [← HE.out] at hown2
      have HO := Lib.hid (And.intro hown2 hb3)
      clear hown2 hgrow2 hown hck hb3
      go_wp2
      go_roundw
      case rel => exact ⟨k + 1, by omega, by go_num, HO.out⟩
      case measure => simp [intOf]; omega
    · have : k = xs.length := by omega
      subst this
      rw [List.take_length] at hown
      obtain ⟨a', cap', rfl, hs, hfr⟩ := ints_of_owns hown
      go_wp2
      go_ret
      exact ⟨a', cap', rfl, hs, hfr, hbw⟩

theorem cells_newP (w : World) (x : Lp) (t : TypeId) : ∀ j u, ((Lp.cells x).map (Value.int .i64))[j]? = some u → (w.alloc (.cells #[.int .i64 x.l, .int .i64 x.c, .int .i64 x.d] t)).cell? ((⟨w.heap.size, 0, none⟩ : Addr).add j) = some u := fun j u h => cells_new w [.int .i64 x.l, .int .i64 x.c, .int .i64 x.d] t j u h

set_option maxHeartbeats 2000000 in
theorem loops_any (a : Option Addr) (xs : List Lp) (cap : Nat) (w : World) (hx : Sl 3 Lp.cells w a xs) (hl : xs.length ≤ 1000) :
    Calls Try.prog 20 #[.slice a xs.length cap] w (OutLps w xs) := by
  obtain ⟨i0, hi, hz0, hz1, hz2⟩ := info_parts Try.info127
  go_enter Try.func20, Try.ntmps20
  go_wp2
  go_loopw [3, 8] (fun v i wr => ∃ k : Nat, k ≤ xs.length ∧ i = .int .i64 k ∧ wr.ownsRow w.heap.size 127 3 v k (((xs.take k).flatMap Lp.cells).map (Value.int .i64)) ∧ Below w.heap.size w wr) (fun _ i _ => xs.length - (intOf i).toNat)
  case atStart => exact ⟨0, Nat.zero_le _, rfl, World.ownsRow_nil _ _ _ _, Below.refl _ _⟩
  case round =>
    obtain ⟨k, hk, rfl, hown, hbw⟩ := hrel
    by_cases hlt : k < xs.length
    · obtain ⟨b, off, rfl, hbs, hc⟩ := hx (by omega)
      have hxk := List.getElem?_eq_getElem hlt
      have d0 : wr.cell? ⟨b, off + k * 3, none⟩ = some (.int .i64 xs[k].l) := (hbw.cell (p := ⟨b, off + k * 3 + 0, none⟩) hbs).trans (hc k xs[k] 0 _ hxk rfl)
      have d1 := (hbw.cell (p := ⟨b, off + k * 3 + 1, none⟩) hbs).trans (hc k xs[k] 1 _ hxk rfl)
      have d2 := (hbw.cell (p := ⟨b, off + k * 3 + 2, none⟩) hbs).trans (hc k xs[k] 2 _ hxk rfl)
      have HE : Hid (((xs.take (k + 1)).flatMap Lp.cells).map (Value.int .i64) = ((xs.take k).flatMap Lp.cells).map (Value.int .i64) ++ (Lp.cells xs[k]).map (Value.int .i64)) := by
        show _ = _
        rw [List.take_add_one, hxk, List.flatMap_append, List.map_append]
        simp
      clear hc hxk
      generalize xs[k] = x at *
      have hsz := hbw.size
      obtain ⟨Wx, hWx⟩ : ∃ Wx, wr.alloc (.cells #[.int .i64 x.l, .int .i64 x.c, .int .i64 x.d] 31) = Wx := ⟨_, rfl⟩
      have hbx : Below wr.heap.size wr Wx := by rw [← hWx]; exact (Below.refl _ _).alloc (Nat.le_refl _) _
      have HNX : Hid (Wx.heap[wr.heap.size]? = some (.cells #[.int .i64 x.l, .int .i64 x.c, .int .i64 x.d] 31 (0, 0))) := by rw [← hWx]; exact heap_alloc_new _ _
      have HBW := Lib.hid (below_self hbw hbx)
      have HOX := Lib.hid (owns_below hown hbx)
      go_upto_region 5 with (fail)
      clear hWx d0 d1 d2 hbw hown hbx
      have n0 := blk_cell HNX.out 0 rfl
      have n1 := blk_cell HNX.out 1 rfl
      have n2 := blk_cell HNX.out 2 rfl
      have hsx := HBW.out.size
      go_wp2_with (at_builtin; refine wpList_append_own_at _ rfl _ _ 36 rfl w.heap.size 127 i0 (.agg #[.int .i64 0, .int .i64 0, .int .i64 0]) 3 24 Try.underlying36 hi hz0 hz1 hz2 rfl (by decide) _ k (((xs.take k).flatMap Lp.cells).map (Value.int .i64)) rfl (HOX.out.alloc _) ⟨Wx.heap.size, 0, none⟩ 1 1 ((Lp.cells x).map (Value.int .i64)) rfl rfl (cells_newP _ x _) (by intro u hu; obtain ⟨x, _, rfl⟩ := List.mem_map.1 hu; rfl) (by unfold maxLen; omega) (by omega) (by simp; omega) ?_)
      intro v' w2 hown2 hgrow2 _ _
      have hb3 : Below w.heap.size w w2 := (HBW.out.alloc HBW.out.size _).grown hgrow2 (by simp; omega) (fun j hj => (HOX.out.lt j hj).1)
      rw [← HE.out] at hown2
      have HO := Lib.hid (And.intro hown2 hb3)
      clear hown2 hgrow2 n0 n1 n2 hb3
      go_wp2
      go_roundw
      case rel => exact ⟨k + 1, by omega, by go_num, HO.out⟩
      case measure => simp [intOf]; omega
    · have : k = xs.length := by omega
      subst this
      rw [List.take_length] at hown
      obtain ⟨a', cap', rfl, hs, hfr⟩ := lps_of_owns hown
      go_wp2
      go_ret
      exact ⟨a', cap', rfl, hs, hfr, hbw⟩

def eqLp (x y : Lp) : Bool := decide (x.l = y.l) && (decide (x.c = y.c) && decide (x.d = y.d))
theorem eqLp_self (x : Lp) : eqLp x x = true := by simp [eqLp]
theorem eq31 (a b c d e f : Int) (w : World) : (Op.equalIn 10000 31 (.agg #[.int .i64 a, .int .i64 b, .int .i64 c]) (.agg #[.int .i64 d, .int .i64 e, .int .i64 f])).run Try.prog w = .ok (decide (a = d) && (decide (b = e) && decide (c = f))) w := by
  rw [Op.equalIn]
  simp [go_sem]
  by_cases h1 : a = d <;> by_cases h2 : b = e <;> by_cases h3 : c = f <;> simp [h1, h2, h3]
theorem eq31_self (x : Lp) (w : World) : (Op.equalIn 10000 31 (.agg #[.int .i64 x.l, .int .i64 x.c, .int .i64 x.d]) (.agg #[.int .i64 x.l, .int .i64 x.c, .int .i64 x.d])).run Try.prog w = .ok true w := by
  rw [eq31]; simp

set_option maxHeartbeats 1000000 in
theorem equalLp_same (a : Option Addr) (xs : List Lp) (ca : Nat) (b : Option Addr) (cb : Nat) (w : World) (hx : Sl 3 Lp.cells w a xs) (hy : Sl 3 Lp.cells w b xs) (hl : xs.length ≤ 1000000) :
    Calls Try.prog 25 #[.slice a xs.length ca, .slice b xs.length cb] w fun e w' => e = .returned (.bool true) ∧ Below w.heap.size w w' := by
  have HX := Lib.hid (And.intro hx hy)
  clear hx hy
  go_enter Try.func25, Try.ntmps25
  go_wp2
  go_loopw [13] (fun i wr => ∃ k : Nat, k ≤ xs.length ∧ i = .int .i64 k ∧ Below w.heap.size w wr) (fun i _ => xs.length - (intOf i).toNat)
  case atStart => exact ⟨0, Nat.zero_le _, rfl, Below.refl _ _⟩
  case round =>
    obtain ⟨k, hk, rfl, hbw⟩ := hrel
    by_cases hlt : k < xs.length
    · obtain ⟨b1, o1, rfl, hb1, hc1⟩ := HX.out.1 (by omega)
      obtain ⟨b2, o2, rfl, hb2, hc2⟩ := HX.out.2 (by omega)
      have hxk := List.getElem?_eq_getElem hlt
      have d1 : wr.cell? ⟨b1, o1 + k * 3, none⟩ = some (.int .i64 xs[k].l) := (hbw.cell (p := ⟨b1, o1 + k * 3 + 0, none⟩) hb1).trans (hc1 k _ 0 _ hxk rfl)
      have d2 := (hbw.cell (p := ⟨b1, o1 + k * 3 + 1, none⟩) hb1).trans (hc1 k _ 1 _ hxk rfl)
      have d3 := (hbw.cell (p := ⟨b1, o1 + k * 3 + 2, none⟩) hb1).trans (hc1 k _ 2 _ hxk rfl)
      have d4 : wr.cell? ⟨b2, o2 + k * 3, none⟩ = some (.int .i64 xs[k].l) := (hbw.cell (p := ⟨b2, o2 + k * 3 + 0, none⟩) hb2).trans (hc2 k _ 0 _ hxk rfl)
      have d5 := (hbw.cell (p := ⟨b2, o2 + k * 3 + 1, none⟩) hb2).trans (hc2 k _ 1 _ hxk rfl)
      have d6 := (hbw.cell (p := ⟨b2, o2 + k * 3 + 2, none⟩) hb2).trans (hc2 k _ 2 _ hxk rfl)
      clear hc1 hc2 hxk
      generalize xs[k] = x at *
      have q31 := eq31_self x
      go_wp2_with fail
      go_quiet (fail)
      have hwd := below_drewN hbw nq
      go_wp2
      go_roundw
      case rel => exact ⟨k + 1, by omega, by go_num, hwd⟩
      case measure => simp [intOf]; omega
    · have : k = xs.length := by omega
      subst this
      go_wp2
      go_ret
      exact ⟨rfl, hbw⟩
end Go.Proofs.Ytpkegiekpnaejaa
