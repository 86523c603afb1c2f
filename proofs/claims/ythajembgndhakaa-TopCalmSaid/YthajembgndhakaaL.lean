/-
  Aims of package rifle, over this seat's program: help, settles, CheckAim, checkTotal, together, greatest, Index.
  What is proved: what each call returns, and that nothing that was there before it has turned.
  Conditions: valid aims.
-/
import Derived.Test.YthajembgndhakaaC
import Derived.Deep.CutBlock
import Derived.Laws.EntriesVeiled
namespace Go.Proofs.Ythajembgndhakaa
open Go.RowKit Go.Shelf
attribute [local go_sem] Oper.semAt_some

/-- By how much one more breath makes a chance less. -/
def helpI (l : List Int) (k : Nat) : Int := if k + 1 < l.length then l[k]?.getD 0 - l[k + 1]?.getD 0 else 0
structure AimOk (a : List (List Int)) : Prop where
  len : 1 ≤ a.length ∧ a.length ≤ 8
  lens : ∀ l ∈ a, 1 ≤ l.length ∧ l.length ≤ 21
  bd : ∀ l ∈ a, ∀ x ∈ l, 0 ≤ x ∧ x ≤ 1000
  down : ∀ l ∈ a, ∀ k, k + 1 < l.length → 0 ≤ helpI l k ∧ (0 < k → helpI l k ≤ helpI l (k - 1))

theorem helpI_bd {l : List Int} (h : ∀ x ∈ l, 0 ≤ x ∧ x ≤ 1000) (k : Nat) : -1000 ≤ helpI l k ∧ helpI l k ≤ 1000 := by
  unfold helpI
  split
  · rename_i hk
    rw [List.getElem?_eq_getElem hk, List.getElem?_eq_getElem (show k < l.length by omega)]
    have h1 := h l[k] (List.getElem_mem _)
    have h2 := h l[k + 1] (List.getElem_mem _)
    show -1000 ≤ l[k] - l[k + 1] ∧ l[k] - l[k + 1] ≤ 1000
    omega
  · omega

set_option maxHeartbeats 1000000 in
theorem help_any (a : Option Addr) (l : List Int) (cap k : Nat) (w : World) (hx : IntSl w a l) (hl : l.length ≤ 21) (hb : ∀ x ∈ l, 0 ≤ x ∧ x ≤ 1000) (hk : k ≤ 1000) :
    Calls Try.prog 55 #[.slice a l.length cap, .int .i64 k] w fun e w' => e = .returned (.int .i64 (helpI l k)) ∧ Below w.heap.size w w' := by
  have hd : Below w.heap.size w w.drew := (Below.refl _ _).drew
  have q1 : IntKind.i64.wrap ((k : Int) + 1) = (k : Int) + 1 := IntWalk.i64_in _ (by omega)
  by_cases hlt : k + 1 < l.length
  · obtain ⟨b, off, rfl, hbs, hc⟩ := hx (by omega)
    have h1 := hb l[k] (List.getElem_mem _)
    have h2 := hb l[k + 1] (List.getElem_mem hlt)
    have HP : Hid (helpI l k = l[k] - l[k + 1]) := by
      show _ = _
      rw [helpI, if_pos hlt, List.getElem?_eq_getElem hlt, List.getElem?_eq_getElem (show k < l.length by omega)]; rfl
    have e0 := (hc k (by omega)).trans (by rw [List.getElem?_eq_getElem (show k < l.length by omega)]; rfl : _ = some (.int .i64 l[k]))
    have e1 := (hc (k + 1) hlt).trans (by rw [List.getElem?_eq_getElem hlt]; rfl : _ = some (.int .i64 l[k + 1]))
    have gg : decide (((l.length : Nat) : Int) ≤ (k : Int) + 1) = false := decide_eq_false (by omega)
    have g1 : (k : Int) < l.length := by omega
    have g2 : (k : Int) + 1 < l.length := by omega
    have g3 : (0 : Int) ≤ (k : Int) + 1 := by omega
    have q2 : IntKind.i64.wrap (l[k] - l[k + 1]) = l[k] - l[k + 1] := IntWalk.i64_in _ (by omega)
    generalize l[k] = x at e0 q2 HP h1
    generalize l[k + 1] = y at e1 q2 HP h2
    clear hc hx hb
    go_enter Try.func55, Try.ntmps55
    go_wp2_with (fail)
    go_region_held3 (fun w' => w'.cell? ⟨b, off + k, none⟩ = some (.int .i64 x) ∧ w'.cell? ⟨b, off + (k + 1), none⟩ = some (.int .i64 y)) (go_keep) (fail)
    all_goals (
      go_wp2
      go_ret
      exact ⟨ret_int HP.out.symm, hd⟩)
  · have HP : Hid (helpI l k = 0) := by show _ = _; rw [helpI, if_neg hlt]
    have gg : decide (((l.length : Nat) : Int) ≤ (k : Int) + 1) = true := decide_eq_true (by omega)
    clear hx hb
    go_enter Try.func55, Try.ntmps55
    go_wp2
    go_ret
    exact ⟨ret_int HP.out.symm, Below.refl _ _⟩

set_option maxHeartbeats 2000000 in
theorem settles_ok (a : Option Addr) (l : List Int) (cap : Nat) (w : World) (hx : IntSl w a l) (hl : 1 ≤ l.length ∧ l.length ≤ 21) (hb : ∀ x ∈ l, 0 ≤ x ∧ x ≤ 1000)
    (hd : ∀ k, k + 1 < l.length → 0 ≤ helpI l k ∧ (0 < k → helpI l k ≤ helpI l (k - 1))) :
    Calls Try.prog 54 #[.slice a l.length cap] w fun e w' => e = .returned (.bool true) ∧ Below w.heap.size w w' := by
  have q0 : IntKind.i64.wrap ((l.length : Int) - 1) = (l.length : Int) - 1 := IntWalk.i64_in _ (by omega)
  have HX := Lib.hid hx
  have HBd := Lib.hid hb
  have HDn := Lib.hid hd
  clear hx hb hd
  go_enter Try.func54, Try.ntmps54
  go_wp2
  go_loopw [7] (fun i wr => ∃ k : Nat, k + 1 ≤ l.length ∧ i = .int .i64 k ∧ Hid (Below w.heap.size w wr)) (fun i _ => l.length - (intOf i).toNat)
  case atStart => exact ⟨0, hl.1, rfl, Below.refl _ _⟩
  case round =>
    obtain ⟨k, hk, rfl, hbw⟩ := hrel
    by_cases hlt : k + 1 < l.length
    · have gg : decide ((k : Int) < (l.length : Int) - 1) = true := decide_eq_true (by omega)
      have hdk := HDn.out k hlt
      have C1 := Lib.hid (help_any a l cap k wr (HX.out.below hbw.out) hl.2 HBd.out (by omega))
      have gn : decide (helpI l k < 0) = false := decide_eq_false (by omega)
      have hbd := helpI_bd HBd.out k
      by_cases hk0 : k = 0
      · subst hk0
        clear hdk
        go_wp2_with (fail)
        refine C1.out.mono ?_
        rintro e w1 ⟨rfl, hb1⟩
        have hb2 := Lib.hid (below_self hbw.out hb1)
        clear hb1
        go_wp2
        go_roundw
        case rel => exact ⟨1, by omega, rfl, hb2⟩
        case measure => first | (simp [intOf]; done) | (simp [intOf]; omega)
      · have hk1 : decide ((0 : Int) < (k : Int)) = true := decide_eq_true (by omega)
        have hk1' : 0 < k := by omega
        obtain ⟨j, hj⟩ : ∃ j : Nat, k = j + 1 := ⟨k - 1, by omega⟩
        have C2 := Lib.hid fun W (hW : Below w.heap.size w W) => help_any a l cap k W (HX.out.below hW) hl.2 HBd.out (by omega)
        have C3 := Lib.hid fun W (hW : Below w.heap.size w W) => help_any a l cap j W (HX.out.below hW) hl.2 HBd.out (by omega)
        have q3 : IntKind.i64.wrap ((k : Int) - 1) = (j : Int) := by rw [hj, IntWalk.i64_in _ (by omega)]; omega
        have gle : helpI l k ≤ helpI l j := by have := hdk.2 (by omega); rwa [show k - 1 = j by omega] at this
        have gd : decide (helpI l j < helpI l k) = false := decide_eq_false (by omega)
        clear hdk hk0 hj gle
        generalize helpI l k = hk' at C1 C2 gn gd hbd
        generalize helpI l j = hj' at C3 gd
        go_wp2_with (fail)
        refine C1.out.mono ?_
        rintro e w1 ⟨rfl, hb1⟩
        have hb2 := Lib.hid (below_self hbw.out hb1)
        clear hb1
        go_wp2_with (fail)
        refine (C2.out _ hb2.out).mono ?_
        rintro e w2 ⟨rfl, hb1⟩
        have hb3 := Lib.hid (below_self hb2.out hb1)
        clear hb1
        go_wp2_with (fail)
        refine (C3.out _ hb3.out).mono ?_
        rintro e w3 ⟨rfl, hb1⟩
        have hb4 := Lib.hid (below_self hb3.out hb1)
        clear hb1
        go_wp2
        go_roundw
        case rel => exact ⟨k + 1, by omega, by go_num, hb4⟩
        case measure => first | (simp [intOf]; done) | (simp [intOf]; omega)
    · have gg : decide ((k : Int) < (l.length : Int) - 1) = false := decide_eq_false (by omega)
      go_wp2
      go_ret
      exact ⟨rfl, hbw.out⟩

theorem eg50 : ∀ args w, (callFunc 50 args).run Try.prog w = .ok (.enter 50 args) w := enters_of Try.func50 (by kernel_rfl) rfl
theorem eg51 : ∀ args w, (callFunc 51 args).run Try.prog w = .ok (.enter 51 args) w := enters_of Try.func51 (by kernel_rfl) rfl
theorem eg52 : ∀ args w, (callFunc 52 args).run Try.prog w = .ok (.enter 52 args) w := enters_of Try.func52 (by kernel_rfl) rfl
theorem eg54 : ∀ args w, (callFunc 54 args).run Try.prog w = .ok (.enter 54 args) w := enters_of Try.func54 (by kernel_rfl) rfl

set_option maxHeartbeats 400000 in
theorem ca50_any (a : Option Addr) (n cap : Nat) (w : World) : Calls Try.prog 50 #[.slice a n cap] w fun e w' => e = .returned (.bool (withinB n 1 21)) ∧ w = w' := by
  go_enter Try.func50, Try.ntmps50
  go_wp2_with (go_at_call 40; refine (within_r _ _ _ _).mono ?_; rintro e w' ⟨rfl, rfl⟩)
  go_ret
  exact ⟨rfl, rfl⟩
set_option maxHeartbeats 400000 in
theorem ca51_any (n : Int) (w : World) : Calls Try.prog 51 #[.int .i64 n] w fun e w' => e = .returned (.bool (withinB n 0 1000)) ∧ w = w' := by
  go_enter Try.func51, Try.ntmps51
  go_wp2_with (go_at_call 40; refine (within_r _ _ _ _).mono ?_; rintro e w' ⟨rfl, rfl⟩)
  go_ret
  exact ⟨rfl, rfl⟩
set_option maxHeartbeats 400000 in
theorem ca52_any (a : Option Addr) (xs : List Int) (cap B : Nat) (w : World) (hB : w.heap[B]? = some (.cells #[.func (.func 51) #[] #[]] 51 (0, 0))) (hx : IntSl w a xs) (hl : xs.length ≤ 1000000) :
    Calls Try.prog 52 #[.slice a xs.length cap, .pointer (some ⟨B, 0, none⟩)] w fun e w' => e = .returned (.bool (xs.all (fun x => withinB x 0 1000))) ∧ Below w.heap.size w w' := by
  have c0 := blk_cell hB 0 rfl
  have C := Lib.hid (every_int_r a xs cap 51 #[] (fun x => withinB x 0 1000) w hx hl eg51 (fun x _ W _ => (ca51_any x W).mono (fun e W' h => ⟨h.1, h.2 ▸ Below.refl _ _⟩)))
  clear hB hx
  go_enter Try.func52, Try.ntmps52
  go_wp2_with (fail)
  refine C.out.mono ?_
  rintro e w1 ⟨rfl, hb⟩
  go_wp2
  go_ret
  exact ⟨rfl, hb⟩

set_option maxHeartbeats 2000000 in
theorem checkAim_ok (a : Option Addr) (xs : List (List Int)) (cap : Nat) (w : World) (hx : SlsAt w a xs) (ok : AimOk xs) :
    Calls Try.prog 39 #[.slice a xs.length cap] w fun e w' => e = .returned (.int .i64 0) ∧ Below w.heap.size w w' := by
  have hmf := hmf
  have g1 : withinB (xs.length : Int) 1 8 = true := within_of (by have := ok.len; omega)
  have hl : xs.length ≤ 1000000 := by have := ok.len; omega
  have D1 := Lib.hid ((every_ints_r a xs cap 50 #[] (fun l => withinB l.length 1 21) w hx hl eg50 (fun x _ W _ a' cap' _ => (ca50_any a' x.length cap' W).mono (fun e W' h => ⟨h.1, h.2 ▸ Below.refl _ _⟩))).mono (fun e W' h => (⟨h.1.trans (by rw [List.all_eq_true.2 (fun l hl => within_of (by have := ok.lens l hl; omega))]), h.2⟩ : e = .returned (.bool true) ∧ Below w.heap.size w W')))
  have D2 := Lib.hid fun W B (hW : Below w.heap.size w W) (hB : W.heap[B]? = some (.cells #[.func (.func 51) #[] #[]] 51 (0, 0))) => (every_ints_r a xs cap 52 #[.pointer (some ⟨B, 0, none⟩)] (fun l => l.all (fun x => withinB x 0 1000)) W (hx.below hW) hl eg52 (fun x hx2 W2 hW2 a' cap' hs => ca52_any a' x cap' B W2 (blk_below hB hW2) hs (by have := ok.lens x hx2; omega))).mono (fun e W' h => (⟨h.1.trans (by rw [List.all_eq_true.2 (fun l hl => all_within (ok.bd l hl))]), below_self hW h.2⟩ : e = .returned (.bool true) ∧ Below w.heap.size w W'))
  have D3 := Lib.hid fun W (hW : Below w.heap.size w W) => (every_ints_r a xs cap 54 #[] (fun _ => true) W (hx.below hW) hl eg54 (fun x hx2 W2 _ a' cap' hs => settles_ok a' x cap' W2 hs (ok.lens x hx2) (ok.bd x hx2) (ok.down x hx2))).mono (fun e W' h => (⟨h.1.trans (by rw [List.all_eq_true.2 (fun _ _ => rfl)]), below_self hW h.2⟩ : e = .returned (.bool true) ∧ Below w.heap.size w W'))
  clear hx ok
  go_enter Try.func39, Try.ntmps39
  go_wp2_with (go_at_call 40; refine (within_r _ _ _ _).mono ?_; rintro e w' ⟨rfl, rfl⟩)
  refine D1.out.mono ?_
  rintro e w1 ⟨rfl, hb1⟩
  have H2 : Hid (Below w.heap.size w (w1.alloc (.cells #[.func (.func 51) #[] #[]] 51)) ∧ (w1.alloc (.cells #[.func (.func 51) #[] #[]] 51)).heap[w1.heap.size]? = some (.cells #[.func (.func 51) #[] #[]] 51 (0, 0))) := ⟨hb1.alloc hb1.size _, heap_alloc_new w1 _⟩
  clear hb1
  go_wp2_with (fail)
  refine (D2.out _ _ H2.out.1 H2.out.2).mono ?_
  rintro e w2 ⟨rfl, hb2⟩
  have H3 := Lib.hid hb2
  clear hb2
  go_wp2_with (fail)
  refine (D3.out _ H3.out).mono ?_
  rintro e w3 ⟨rfl, hb3⟩
  go_wp2
  go_ret
  exact ⟨rfl, hb3⟩

set_option maxHeartbeats 1000000 in
theorem checkTotal_ok (a : Option Addr) (xs : List (List Int)) (cap : Nat) (t : Int) (w : World) (hx : SlsAt w a xs) (ok : AimOk xs) (ht : 0 ≤ t) :
    Calls Try.prog 26 #[.slice a xs.length cap, .int .i64 t] w fun e w' => e = .returned (.int .i64 0) ∧ Below w.heap.size w w' := by
  have C := Lib.hid (checkAim_ok a xs cap w hx ok)
  have gt : decide (t < 0) = false := decide_eq_false (by omega)
  clear hx ok
  go_enter Try.func26, Try.ntmps26
  go_wp2_with (fail)
  refine C.out.mono ?_
  rintro e w1 ⟨rfl, hb⟩
  go_wp2
  go_ret
  exact ⟨rfl, hb⟩
end Go.Proofs.Ythajembgndhakaa
