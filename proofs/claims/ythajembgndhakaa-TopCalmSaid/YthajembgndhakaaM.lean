/-
  Misses of waits, over this seat's program: misses, checkWaits, Misses, together, greatest, Index.
  What is proved: what each call returns, and that nothing that was there before it has turned.
  Conditions: valid aims and waits.
-/
import Derived.Test.YthajembgndhakaaL
import Derived.Laws.OwnMore
namespace Go.Proofs.Ythajembgndhakaa
open Go.RowKit Go.Shelf
attribute [local go_sem] Oper.semAt_some

/-- Waits of an aim. -/
structure WaitsOk (a : List (List Int)) (ws : List Int) : Prop where
  len : ws.length = a.length
  at' : ∀ k, k < a.length → 0 ≤ ws[k]?.getD 0 ∧ (ws[k]?.getD 0).toNat < (a[k]?.getD []).length
def msTo (a : List (List Int)) (ws : List Int) : Nat → Int
  | 0 => 0
  | k + 1 => msTo a ws k + (a[k]?.getD [])[(ws[k]?.getD 0).toNat]?.getD 0
theorem msTo_bd {a : List (List Int)} {ws : List Int} (ok : AimOk a) (hw : WaitsOk a ws) (k : Nat) (hk : k ≤ a.length) : 0 ≤ msTo a ws k ∧ msTo a ws k ≤ 1000 * k := by
  induction k with
  | zero => simp [msTo]
  | succ k ih =>
    have h1 := ih (by omega)
    have h2 := hw.at' k (by omega)
    rw [List.getElem?_eq_getElem (show k < a.length by omega)] at h2
    have h3 := ok.bd a[k] (List.getElem_mem _) (a[k][(ws[k]?.getD 0).toNat]'h2.2) (List.getElem_mem _)
    rw [msTo, List.getElem?_eq_getElem (show k < a.length by omega)]
    have h22 : (ws[k]?.getD 0).toNat < a[k].length := h2.2
    show 0 ≤ msTo a ws k + a[k][(ws[k]?.getD 0).toNat]?.getD 0 ∧ msTo a ws k + a[k][(ws[k]?.getD 0).toNat]?.getD 0 ≤ _
    rw [List.getElem?_eq_getElem h22]
    show 0 ≤ msTo a ws k + a[k][(ws[k]?.getD 0).toNat] ∧ msTo a ws k + a[k][(ws[k]?.getD 0).toNat] ≤ _
    omega

set_option maxHeartbeats 2000000 in
theorem misses_r (aa : Option Addr) (a : List (List Int)) (ca : Nat) (aw : Option Addr) (ws : List Int) (cw : Nat) (w : World) (ha : SlsAt w aa a) (hws : IntSl w aw ws) (ok : AimOk a) (hw : WaitsOk a ws) :
    Calls Try.prog 25 #[.slice aa a.length ca, .slice aw ws.length cw] w fun e w' => e = .returned (.int .i64 (msTo a ws a.length)) ∧ w = w' := by
  have hl8 := ok.len
  obtain ⟨ab, ao, rfl, hab, hac⟩ := ha (by omega)
  obtain ⟨wb, wo, rfl, hwb, hwc⟩ := hws (by have := hw.len; omega)
  have HA := Lib.hid hac
  have HWc := Lib.hid hwc
  have HWo := Lib.hid hw
  have HO := Lib.hid ok
  have hl : ws.length = a.length := hw.len
  have HL := Lib.hid hl
  rw [hl]
  clear ha hws hac hwc hw ok hl
  go_enter Try.func25, Try.ntmps25
  go_wp2
  go_loop [5, 10] (fun t i => ∃ k : Nat, k ≤ a.length ∧ i = .int .i64 k ∧ t = .int .i64 (msTo a ws k)) (fun _ i => a.length - (intOf i).toNat)
  case atStart => exact ⟨0, Nat.zero_le _, rfl, rfl⟩
  case round =>
    obtain ⟨k, hk, rfl, rfl⟩ := hrel
    by_cases hlt : k < a.length
    · obtain ⟨ra, rc, hr1, hr2⟩ := HA.out k a[k] (List.getElem?_eq_getElem hlt)
      have hwk := HWc.out k (by have := HL.out; omega)
      have hwa := HWo.out.at' k hlt
      have hbd := msTo_bd HO.out HWo.out (k + 1) (by omega)
      have HM : Hid (msTo a ws (k + 1) = msTo a ws k + a[k][(ws[k]?.getD 0).toNat]?.getD 0) := by show _ = _; rw [msTo, List.getElem?_eq_getElem hlt]; rfl
      rw [HM.out] at hbd
      rw [List.getElem?_eq_getElem hlt] at hwa
      obtain ⟨j, hj⟩ : ∃ j : Nat, ws[k]?.getD 0 = j := ⟨(ws[k]?.getD 0).toNat, by omega⟩
      rw [hj] at hwk hbd HM hwa
      have hjl : j < a[k].length := hwa.2
      obtain ⟨rb, ro, hra, hrb, hrc⟩ := hr2 (by omega)
      have hrj := hrc j hjl
      simp only [Int.toNat_natCast] at hbd HM
      have gj : (j : Int) < a[k].length := by omega
      have q : IntKind.i64.wrap (msTo a ws k + a[k][j]?.getD 0) = msTo a ws k + a[k][j]?.getD 0 := IntWalk.i64_in _ (by omega)
      rw [hra] at hr1
      generalize hrl : a[k].length = rl at hr1 gj
      generalize a[k][j]?.getD 0 = x at hrj q HM
      clear hrc hr2 hra hwa hbd hj
      go_wp2
      go_round
      case rel => exact ⟨k + 1, by omega, by go_num, by rw [HM.out]⟩
      case measure => first | (simp [intOf]; done) | (simp [intOf]; omega)
    · have : k = a.length := by omega
      subst this
      go_wp2
      go_ret
      exact ⟨rfl, rfl⟩

set_option maxHeartbeats 2000000 in
theorem checkWaits_ok (aa : Option Addr) (a : List (List Int)) (ca : Nat) (aw : Option Addr) (ws : List Int) (cw : Nat) (w : World) (ha : SlsAt w aa a) (hws : IntSl w aw ws) (ok : AimOk a) (hw : WaitsOk a ws) :
    Calls Try.prog 24 #[.slice aa a.length ca, .slice aw ws.length cw] w fun e w' => e = .returned (.int .i64 0) ∧ Below w.heap.size w w' := by
  have hl8 := ok.len
  have C := Lib.hid (checkAim_ok aa a ca w ha ok)
  obtain ⟨ab, ao, rfl, hab, hac⟩ := ha (by omega)
  obtain ⟨wb, wo, rfl, hwb, hwc⟩ := hws (by have := hw.len; omega)
  have HA := Lib.hid hac
  have HWc := Lib.hid hwc
  have HWo := Lib.hid hw
  have HO := Lib.hid ok
  have hl : ws.length = a.length := hw.len
  have HL := Lib.hid hl
  rw [hl]
  clear ha hws hac hwc hw ok hl
  go_enter Try.func24, Try.ntmps24
  go_wp2_with (fail)
  refine C.out.mono ?_
  rintro e w1 ⟨rfl, hb1⟩
  have H1 := Lib.hid hb1
  clear hb1
  go_wp2_with (fail)
  go_loop [20] (fun i => ∃ k : Nat, k ≤ a.length ∧ i = .int .i64 k) (fun i => a.length - (intOf i).toNat)
  case atStart => exact ⟨0, Nat.zero_le _, rfl⟩
  case round =>
    obtain ⟨k, hk, rfl⟩ := hrel
    by_cases hlt : k < a.length
    · obtain ⟨ra, rc, hr1, hr2⟩ := HA.out k a[k] (List.getElem?_eq_getElem hlt)
      have hwk := HWc.out k (by have := HL.out; omega)
      have hwa := HWo.out.at' k hlt
      have hlk := HO.out.lens a[k] (List.getElem_mem _)
      rw [List.getElem?_eq_getElem hlt] at hwa
      obtain ⟨j, hj⟩ : ∃ j : Nat, ws[k]?.getD 0 = j := ⟨(ws[k]?.getD 0).toNat, by omega⟩
      rw [hj] at hwk hwa
      have hjl : j < a[k].length := hwa.2
      have e1 := (H1.out.cell (p := ⟨ab, ao + k, none⟩) hab).trans hr1
      have e2 := (H1.out.cell (p := ⟨wb, wo + k, none⟩) hwb).trans hwk
      have q : IntKind.i64.wrap ((a[k].length : Int) - 1) = (a[k].length : Int) - 1 := IntWalk.i64_in _ (by omega)
      have gw : withinB (j : Int) 0 ((a[k].length : Int) - 1) = true := within_of (by omega)
      generalize a[k].length = rl at e1 q gw
      clear hr2 hwa hj hr1 hwk hjl
      go_wp2_with (go_at_call 40; refine (within_r _ _ _ _).mono ?_; rintro e w' ⟨rfl, rfl⟩)
      go_round
      case rel => exact ⟨k + 1, by omega, by go_num⟩
      case measure => first | (simp [intOf]; done) | (simp [intOf]; omega)
    · have : k = a.length := by omega
      subst this
      go_wp2
      go_ret
      exact ⟨rfl, H1.out⟩

set_option maxHeartbeats 2000000 in
theorem Misses_ok (aa : Option Addr) (a : List (List Int)) (ca : Nat) (aw : Option Addr) (ws : List Int) (cw : Nat) (w : World) (ha : SlsAt w aa a) (hws : IntSl w aw ws) (ok : AimOk a) (hw : WaitsOk a ws) :
    Calls Try.prog 12 #[.slice aa a.length ca, .slice aw ws.length cw] w fun e w' => e = .returned (.tuple #[.int .i64 (msTo a ws a.length), .int .i64 0]) ∧ Below w.heap.size w w' := by
  have C := Lib.hid (checkWaits_ok aa a ca aw ws cw w ha hws ok hw)
  have D := Lib.hid fun W (hW : Below w.heap.size w W) => misses_r aa a ca aw ws cw W (ha.below hW) (hws.below hW) ok hw
  clear ha hws ok hw
  go_enter Try.func12, Try.ntmps12
  go_wp2_with (fail)
  refine C.out.mono ?_
  rintro e w1 ⟨rfl, hb1⟩
  have H1 := Lib.hid hb1
  clear hb1
  go_wp2_with (fail)
  refine (D.out _ H1.out).mono ?_
  rintro e w2 ⟨rfl, rfl⟩
  go_wp2
  go_ret2
  exact ⟨rfl, H1.out⟩

def tgTo (a : List (List Int)) : Nat → Int
  | 0 => 0
  | k + 1 => tgTo a k + ((a[k]?.getD []).length - 1)
theorem tgTo_bd {a : List (List Int)} (ok : AimOk a) (k : Nat) (hk : k ≤ a.length) : 0 ≤ tgTo a k ∧ tgTo a k ≤ 20 * k := by
  induction k with
  | zero => simp [tgTo]
  | succ k ih =>
    have h1 := ih (by omega)
    have h2 := ok.lens a[k] (List.getElem_mem _)
    rw [tgTo, List.getElem?_eq_getElem (show k < a.length by omega)]
    show 0 ≤ tgTo a k + ((a[k].length : Int) - 1) ∧ tgTo a k + ((a[k].length : Int) - 1) ≤ _
    omega

set_option maxHeartbeats 2000000 in
theorem together_r (aa : Option Addr) (a : List (List Int)) (ca : Nat) (w : World) (ha : SlsAt w aa a) (ok : AimOk a) :
    Calls Try.prog 41 #[.slice aa a.length ca] w fun e w' => e = .returned (.int .i64 (tgTo a a.length)) ∧ w = w' := by
  have hl8 := ok.len
  obtain ⟨ab, ao, rfl, hab, hac⟩ := ha (by omega)
  have HA := Lib.hid hac
  have HO := Lib.hid ok
  clear ha hac ok
  go_enter Try.func41, Try.ntmps41
  go_wp2
  go_loop [3, 8] (fun t i => ∃ k : Nat, k ≤ a.length ∧ i = .int .i64 k ∧ t = .int .i64 (tgTo a k)) (fun _ i => a.length - (intOf i).toNat)
  case atStart => exact ⟨0, Nat.zero_le _, rfl, rfl⟩
  case round =>
    obtain ⟨k, hk, rfl, rfl⟩ := hrel
    by_cases hlt : k < a.length
    · obtain ⟨ra, rc, hr1, hr2⟩ := HA.out k a[k] (List.getElem?_eq_getElem hlt)
      have hlk := HO.out.lens a[k] (List.getElem_mem _)
      have hbd := tgTo_bd HO.out k hk
      have HM : Hid (tgTo a (k + 1) = tgTo a k + ((a[k].length : Int) - 1)) := by show _ = _; rw [tgTo, List.getElem?_eq_getElem hlt]; rfl
      have q0 : IntKind.i64.wrap ((a[k].length : Int) - 1) = (a[k].length : Int) - 1 := IntWalk.i64_in _ (by omega)
      have q : IntKind.i64.wrap (tgTo a k + ((a[k].length : Int) - 1)) = tgTo a k + ((a[k].length : Int) - 1) := IntWalk.i64_in _ (by omega)
      generalize a[k].length = rl at hr1 q q0 HM
      clear hr2 hbd
      go_wp2
      go_round
      case rel => exact ⟨k + 1, by omega, by go_num, by rw [HM.out]⟩
      case measure => first | (simp [intOf]; done) | (simp [intOf]; omega)
    · have : k = a.length := by omega
      subst this
      go_wp2
      go_ret
      exact ⟨rfl, rfl⟩

/-- The greatest of 0 and of numbers. -/
def greatTo (xs : List Int) : Nat → Int
  | 0 => 0
  | k + 1 => max (greatTo xs k) (xs[k]?.getD 0)

set_option maxHeartbeats 1000000 in
theorem greatest_r (a : Option Addr) (xs : List Int) (cap : Nat) (w : World) (hx : IntSl w a xs) (hl : xs.length ≤ 1000000) :
    Calls Try.prog 43 #[.int .i64 0, .slice a xs.length cap] w fun e w' => e = .returned (.int .i64 (greatTo xs xs.length)) ∧ w = w' := by
  go_enter Try.func43, Try.ntmps43
  go_wp2
  go_loop [0, 9] (fun t i => ∃ k : Nat, k ≤ xs.length ∧ i = .int .i64 k ∧ t = .int .i64 (greatTo xs k)) (fun _ i => xs.length - (intOf i).toNat)
  case atStart => exact ⟨0, Nat.zero_le _, rfl, rfl⟩
  case round =>
    obtain ⟨k, hk, rfl, rfl⟩ := hrel
    by_cases hlt : k < xs.length
    · obtain ⟨b, off, rfl, hbs, hc⟩ := hx (by omega)
      have hck := hc k hlt
      clear hc hx
      go_wp2
      refine ⟨⟨k + 1, by omega, by go_num, ?_⟩, by simp [intOf]; omega⟩
      rw [greatTo, List.getElem?_eq_getElem hlt]
      show Value.int .i64 _ = Value.int .i64 (max (greatTo xs k) xs[k])
      congr 1
      split <;> omega
    · have : k = xs.length := by omega
      subst this
      go_wp2
      go_ret
      exact ⟨rfl, rfl⟩

set_option maxHeartbeats 1000000 in
theorem index_r (a : Option Addr) (xs : List Int) (cap j : Nat) (v : Int) (w : World) (hx : IntSl w a xs) (hl : xs.length ≤ 1000000) (hj : j < xs.length) (hv : xs[j]?.getD 0 = v) (hne : ∀ i, i < j → xs[i]?.getD 0 ≠ v) :
    Calls Try.prog 44 #[.slice a xs.length cap, .int .i64 v] w fun e w' => e = .returned (.int .i64 j) ∧ w = w' := by
  obtain ⟨b, off, rfl, hbs, hc⟩ := hx (by omega)
  have HC := Lib.hid hc
  have HV := Lib.hid hv
  have HN := Lib.hid hne
  clear hx hc hv hne
  go_enter Try.func44, Try.ntmps44
  go_wp2
  go_loop [8] (fun i => ∃ k : Nat, k ≤ j ∧ i = .int .i64 k) (fun i => xs.length - (intOf i).toNat)
  case atStart => exact ⟨0, Nat.zero_le _, rfl⟩
  case round =>
    obtain ⟨k, hk, rfl⟩ := hrel
    have hck := HC.out k (by omega)
    have gk : (k : Int) < xs.length := by omega
    by_cases hkj : k = j
    · subst hkj
      rw [HV.out] at hck
      go_wp2
      go_ret
      exact ⟨rfl, rfl⟩
    · have hn := HN.out k (by omega)
      have hn2 : ¬ (v = xs[k]?.getD 0) := fun h => hn h.symm
      clear hn
      generalize xs[k]?.getD 0 = x at hck hn2
      have hb : (v == x) = false := by simpa using hn2
      go_wp2
      go_round
      case rel => exact ⟨k + 1, by omega, by go_num⟩
      case measure => first | (simp [intOf]; done) | (simp [intOf]; omega)
end Go.Proofs.Ythajembgndhakaa
