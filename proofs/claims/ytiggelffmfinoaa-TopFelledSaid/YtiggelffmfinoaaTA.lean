/-
  The small functions of package target, over this seat's program: within, radius, hits, the check of shots, IndexFunc.
  What is proved: what each call returns, and that nothing that was there before it has turned.
  Conditions: slices of at most 1000000 elements; numbers within their limits.
-/
import Derived.Test.YtiggelffmfinoaaG
import Derived.Deep.CutBlock
namespace Go.Proofs.Ytiggelffmfinoaa
open Go.RowKit Go.Shelf
attribute [local go_sem] Oper.semAt_some

set_option maxHeartbeats 400000 in
theorem within_t (n lo hi : Int) (w : World) : Calls Try.prog 36 #[.int .i64 n, .int .i64 lo, .int .i64 hi] w fun e w' => e = .returned (.bool (withinB n lo hi)) ∧ w = w' := by
  go_enter Try.func36, Try.ntmps36
  go_wp2
  all_goals go_ret
  all_goals exact ⟨ret_bool (by simp [withinB]; try omega), rfl⟩

/-- The radius of a position's targets. -/
def radT (p : Nat) : Int := if p = 0 then 225 else 575
set_option maxHeartbeats 400000 in
theorem radius_any (p : Nat) (w : World) (hp : p < 2) : Calls Try.prog 37 #[.int .i64 (p : Int)] w fun e w' => e = .returned (.int .i64 (radT p)) ∧ w = w' := by
  match p, hp with
  | 0, _ =>
    go_enter Try.func37, Try.ntmps37
    go_wp2
    go_ret
    exact ⟨rfl, rfl⟩
  | 1, _ =>
    go_enter Try.func37, Try.ntmps37
    go_wp2
    go_ret
    exact ⟨rfl, rfl⟩

/-- Whether a shot hits a target. -/
def hitB (p : Nat) (s : Sp) (n : Int) : Bool := decide ((s.lo - (n - 1) * 2500) * (s.lo - (n - 1) * 2500) + s.hi * s.hi ≤ radT p * radT p)
theorem sq_bd {x m : Int} (h : -m ≤ x ∧ x ≤ m) : 0 ≤ x * x ∧ x * x ≤ m * m := by
  have h1 : 0 ≤ m := by omega
  rcases Int.le_total 0 x with hx | hx
  · exact ⟨Int.mul_nonneg hx hx, Int.mul_le_mul h.2 h.2 hx h1⟩
  · have e : x * x = (-x) * (-x) := by rw [Int.neg_mul_neg]
    rw [e]
    exact ⟨Int.mul_nonneg (by omega) (by omega), Int.mul_le_mul (by omega) (by omega) (by omega) h1⟩
theorem radT_bd (p : Nat) : 0 ≤ radT p * radT p ∧ radT p * radT p ≤ 330625 := by unfold radT; split <;> omega
theorem below_drewN {w w' : World} (h : Below w.heap.size w w') (q : Nat) : Below w.heap.size w (w'.drewN q) := ⟨h.os, h.tape, h.output, h.size, h.block⟩
def OutB (w : World) (b : Bool) (e : Ending) (w' : World) : Prop := e = .returned (.bool b) ∧ Below w.heap.size w w'
set_option maxHeartbeats 1000000 in
theorem hits_t (p : Nat) (s : Sp) (n : Int) (w : World) (hp : p < 2) (hn : 1 ≤ n ∧ n ≤ 5) (hs : -20000 ≤ s.lo ∧ s.lo ≤ 20000 ∧ -20000 ≤ s.hi ∧ s.hi ≤ 20000) :
    Calls Try.prog 21 #[.int .i64 (p : Int), s.v, .int .i64 n] w (OutB w (hitB p s n)) := by
  obtain ⟨x, y⟩ := s
  have hx : -40000 ≤ x - (n - 1) * 2500 ∧ x - (n - 1) * 2500 ≤ 40000 := by simp only at hs; omega
  have b1 := sq_bd hx
  have b2 := sq_bd (show -20000 ≤ y ∧ y ≤ 20000 from ⟨hs.2.2.1, hs.2.2.2⟩)
  have b3 := radT_bd p
  have HB := Lib.hid (And.intro b1 (And.intro b2 b3))
  obtain ⟨u, hu⟩ : ∃ u, u = x - (n - 1) * 2500 := ⟨_, rfl⟩
  rw [← hu] at b1 hx
  have HU := Lib.hid hu
  have p1 : IntKind.i64.wrap (n - 1) = n - 1 := IntWalk.i64_in _ (by omega)
  have p2 : IntKind.i64.wrap ((n - 1) * 2500) = (n - 1) * 2500 := IntWalk.i64_in _ (by omega)
  have p3 : IntKind.i64.wrap (x - (n - 1) * 2500) = u := by rw [hu]; exact IntWalk.i64_in _ (by simp only at hs; omega)
  have p4 : IntKind.i64.wrap (u * u) = u * u := IntWalk.i64_in _ (by omega)
  have p5 : IntKind.i64.wrap (y * y) = y * y := IntWalk.i64_in _ (by omega)
  have p6 : IntKind.i64.wrap (u * u + y * y) = u * u + y * y := IntWalk.i64_in _ (by omega)
  have p7 : IntKind.i64.wrap (radT p * radT p) = radT p * radT p := IntWalk.i64_in _ (by omega)
  have HT : Hid (hitB p ⟨x, y⟩ n = decide (u * u + y * y ≤ radT p * radT p)) := by unfold hitB; rw [HU.out]; rfl
  clear hu b1 b2 b3 HU HB
  go_enter Try.func21, Try.ntmps21
  go_upto_region 2 with (fail)
  go_quiet ((go_at_call 37; exact Calls.quiet_of_same ((radius_any p _ hp).mono (fun _ _ h => ⟨h.1, h.2.symm⟩))))
  go_wp2
  go_ret
  exact ⟨by rw [HT.out]; rfl, below_drewN ((Below.refl _ _).alloc (Nat.le_refl _) _) nq⟩
theorem every_shot (a : Option Addr) (xs : List Sp) (cap g : Nat) (lb : Array Value) (p : Sp → Bool) (w : World) (hx : Sl 2 Sp.cells w a xs) (hl : xs.length ≤ 1000000)
    (eg : ∀ args w, (callFunc g args).run Try.prog w = .ok (.enter g args) w)
    (hg : ∀ x ∈ xs, ∀ W, Below w.heap.size w W → Calls Try.prog g (#[Sp.v x] ++ lb) W fun e W' => e = .returned (.bool (p x)) ∧ Below W.heap.size W W') :
    Calls Try.prog 34 #[.slice a xs.length cap, .func (.func g) #[] lb] w fun e w' => e = .returned (.bool (xs.all p)) ∧ Below w.heap.size w w' := by
  have Hg := Lib.hid hg
  clear hg
  go_enter Try.func34, Try.ntmps34
  go_wp2
  go_loopw [9] (fun i wr => ∃ k : Nat, k ≤ xs.length ∧ i = .int .i64 k ∧ Hid ((xs.take k).all p = true) ∧ Below w.heap.size w wr) (fun i _ => xs.length - (intOf i).toNat)
  case atStart => exact ⟨0, Nat.zero_le _, rfl, by simp [Hid], Below.refl _ _⟩
  case round =>
    obtain ⟨k, hk, rfl, hall, hbw⟩ := hrel
    by_cases hlt : k < xs.length
    · obtain ⟨b, off, rfl, hbs, hc⟩ := hx (by omega)
      have hc0 := (hbw.cell (p := ⟨b, off + k * 2, none⟩) hbs).trans (hc k xs[k] 0 _ (List.getElem?_eq_getElem hlt) rfl)
      have hc1 := (hbw.cell (p := ⟨b, off + k * 2 + 1, none⟩) hbs).trans (hc k xs[k] 1 _ (List.getElem?_eq_getElem hlt) rfl)
      clear hc
      go_wp2_with fail
      refine (Hg.out xs[k] (List.getElem_mem hlt) _ (hbw.alloc hbw.size _)).mono ?_
      rintro e w1 ⟨rfl, hb1⟩
      have hb2 := below_self (hbw.alloc hbw.size _) hb1
      clear hbw hc0 hc1 hb1
      cases hp : p xs[k]
      · have HF := Lib.hid (all_false p xs k hlt hp)
        clear hp
        go_wp2
        go_ret
        exact ⟨by rw [HF.out]; rfl, hb2⟩
      · have HF := Lib.hid ((all_take_succ p xs k hlt).trans (by rw [hall.out, hp]))
        clear hp hall
        go_wp2
        go_roundw
        case rel => exact ⟨k + 1, by omega, by go_num, HF, hb2⟩
        case measure => simp [intOf]; omega
    · have : k = xs.length := by omega
      subst this
      rw [List.take_length] at hall
      go_wp2
      go_ret
      exact ⟨by rw [hall.out]; rfl, hbw⟩



/-- Whether the numbers of a shot are within their limits. -/
def shotB (s : Sp) : Bool := withinB s.lo (-20000) 20000 && withinB s.hi (-20000) 20000
set_option maxHeartbeats 400000 in
theorem shot_ok (s : Sp) (w : World) (hs : shotB s = true) : Calls Try.prog 35 #[s.v] w fun e w' => e = .returned (.bool true) ∧ Below w.heap.size w w' := by
  obtain ⟨h1, h2⟩ : withinB s.lo (-20000) 20000 = true ∧ withinB s.hi (-20000) 20000 = true := by simpa [shotB] using hs
  clear hs
  have h0 : Below w.heap.size w (w.alloc (.cells #[.int .i64 s.lo, .int .i64 s.hi] 39)) := alloc1 w _
  go_enter Try.func35, Try.ntmps35
  go_wp2_with (go_at_call 36; refine (within_t _ _ _ _).mono ?_; rintro e w' ⟨rfl, rfl⟩)
  go_ret
  exact ⟨rfl, h0⟩
theorem eg35 : ∀ args w, (callFunc 35 args).run Try.prog w = .ok (.enter 35 args) w := enters_of Try.func35 (by kernel_rfl) rfl
set_option maxHeartbeats 400000 in
theorem checkShots_ok (p : Nat) (a : Option Addr) (xs : List Sp) (cap : Nat) (w : World) (hp : p < 2) (hx : Sl 2 Sp.cells w a xs) (hl : xs.length ≤ 8) (hv : ∀ x ∈ xs, shotB x = true) :
    Calls Try.prog 18 #[.int .i64 (p : Int), .slice a xs.length cap] w fun e w' => e = .returned (.int .i64 0) ∧ Below w.heap.size w w' := by
  have HC := every_shot a xs cap 35 #[] (fun _ => true) w hx (by omega) eg35 (fun x h W _ => shot_ok x W (hv x h))
  have e1 : (xs.all fun _ => true) = true := by simp
  rw [e1] at HC
  have HC := Lib.hid HC
  clear hx hv e1
  have hg : decide (8 < xs.length) = false := decide_eq_false (by omega)
  match p, hp with
  | 0, _ =>
    go_enter Try.func18, Try.ntmps18
    go_wp2_with (fail)
    refine HC.out.mono ?_
    rintro e w1 ⟨rfl, hb⟩
    go_wp2
    go_ret
    exact ⟨rfl, hb⟩
  | 1, _ =>
    go_enter Try.func18, Try.ntmps18
    go_wp2_with (fail)
    refine HC.out.mono ?_
    rintro e w1 ⟨rfl, hb⟩
    go_wp2
    go_ret
    exact ⟨rfl, hb⟩

/-- Whether a shot that lies in a box hits a target (Falls's closure). -/
theorem falls1_any (p : Nat) (s : Sp) (n : Int) (A B : Nat) (w : World) (hp : p < 2) (hn : 1 ≤ n ∧ n ≤ 5) (hs : -20000 ≤ s.lo ∧ s.lo ≤ 20000 ∧ -20000 ≤ s.hi ∧ s.hi ≤ 20000)
    (hA : w.heap[A]? = some (.cells #[.int .i64 (p : Int)] 30 (0, 0))) (hB : w.heap[B]? = some (.cells #[.int .i64 s.lo, .int .i64 s.hi] 39 (0, 0))) :
    Calls Try.prog 20 #[.int .i64 n, .pointer (some ⟨A, 0, none⟩), .pointer (some ⟨B, 0, none⟩)] w (OutB w (hitB p s n)) := by
  have c0 := blk_cell hA 0 rfl
  have c1 := blk_cell hB 0 rfl
  have c2 := blk_cell hB 1 rfl
  clear hA hB
  go_enter Try.func20, Try.ntmps20
  go_wp2_with (fail)
  refine (hits_t p s n _ hp hn hs).mono ?_
  rintro e w1 ⟨rfl, hb⟩
  go_wp2
  go_ret
  exact ⟨rfl, hb⟩

/-- The first place at which a predicate holds, or -1. -/
def idxB (q : Int → Bool) : List Int → Int
  | [] => -1
  | x :: xs => if q x then 0 else (if idxB q xs = -1 then -1 else idxB q xs + 1)
theorem idxB_none (q : Int → Bool) (xs : List Int) (h : ∀ x ∈ xs, q x = false) : idxB q xs = -1 := by
  induction xs with
  | nil => rfl
  | cons x xs ih => simp [idxB, h x (by simp), ih (fun y hy => h y (by simp [hy]))]
theorem idxB_at (q : Int → Bool) (xs : List Int) (k : Nat) (hk : k < xs.length) (h0 : ∀ j (hj : j < k), q (xs[j]'(by omega)) = false) (h1 : q xs[k] = true) : idxB q xs = k := by
  induction xs generalizing k with
  | nil => simp at hk
  | cons x xs ih =>
    cases k with
    | zero => have : q x = true := h1; simp [idxB, this]
    | succ k =>
      have hx : q x = false := h0 0 (by omega)
      have := ih k (by simpa using hk) (fun j hj => h0 (j + 1) (by omega)) h1
      simp only [idxB, hx, this]
      rw [if_neg (by simp), if_neg (by omega)]
      omega
set_option maxHeartbeats 1000000 in
theorem indexFunc_any (a : Option Addr) (xs : List Int) (cap g : Nat) (lb : Array Value) (q : Int → Bool) (w : World) (hx : IntSl w a xs) (hl : xs.length ≤ 1000000)
    (eg : ∀ args w, (callFunc g args).run Try.prog w = .ok (.enter g args) w)
    (hg : ∀ x ∈ xs, ∀ W, Below w.heap.size w W → Calls Try.prog g (#[.int .i64 x] ++ lb) W fun e W' => e = .returned (.bool (q x)) ∧ Below W.heap.size W W') :
    Calls Try.prog 19 #[.slice a xs.length cap, .func (.func g) #[] lb] w fun e w' => e = .returned (.int .i64 (idxB q xs)) ∧ Below w.heap.size w w' := by
  have Hg := Lib.hid hg
  clear hg
  go_enter Try.func19, Try.ntmps19
  go_wp2
  go_loopw [8] (fun i wr => ∃ k : Nat, k ≤ xs.length ∧ i = .int .i64 k ∧ Hid (∀ j (hj : j < xs.length), j < k → q xs[j] = false) ∧ Below w.heap.size w wr) (fun i _ => xs.length - (intOf i).toNat)
  case atStart => exact ⟨0, Nat.zero_le _, rfl, fun j _ hj => absurd hj (Nat.not_lt_zero j), Below.refl _ _⟩
  case round =>
    obtain ⟨k, hk, rfl, hall, hbw⟩ := hrel
    by_cases hlt : k < xs.length
    · obtain ⟨b, off, rfl, hbs, hc⟩ := hx (by omega)
      have hck := (hbw.cell (p := ⟨b, off + k, none⟩) hbs).trans ((hc k hlt).trans (by rw [List.getElem?_eq_getElem hlt]; rfl : _ = some (.int .i64 xs[k])))
      clear hc
      go_wp2_with fail
      refine (Hg.out xs[k] (List.getElem_mem hlt) _ hbw).mono ?_
      rintro e w1 ⟨rfl, hb1⟩
      have hb2 := below_self hbw hb1
      clear hbw hck hb1
      cases hp : q xs[k]
      · have HF : Hid (∀ j (hj : j < xs.length), j < k + 1 → q xs[j] = false) := fun j hj h => by
          rcases Nat.lt_or_ge j k with h' | h'
          · exact hall.out j hj h'
          · have : j = k := by omega
            subst this; exact hp
        clear hp hall
        go_wp2
        go_roundw
        case rel => exact ⟨k + 1, by omega, by go_num, HF, hb2⟩
        case measure => simp [intOf]; omega
      · have HF := Lib.hid (idxB_at q xs k hlt (fun j hj => hall.out j (by omega) hj) hp)
        clear hp hall
        go_wp2
        go_ret
        exact ⟨by rw [HF.out]; rfl, hb2⟩
    · have : k = xs.length := by omega
      subst this
      have HF := Lib.hid (idxB_none q xs (fun x h => by
        obtain ⟨j, hj, rfl⟩ := List.getElem_of_mem h
        exact hall.out j hj hj))
      clear hall
      go_wp2
      go_ret
      exact ⟨by rw [HF.out]; rfl, hbw⟩
end Go.Proofs.Ytiggelffmfinoaa
