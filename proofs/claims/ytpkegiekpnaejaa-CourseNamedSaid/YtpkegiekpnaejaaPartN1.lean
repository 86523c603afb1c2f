/-
The contracts of many, and of the reference's earlier, over this seat's program.
  What is proved: what each call returns; nothing that was there before has turned.
  Conditions: slices of at most 1000000 elements.
-/
import Derived.Test.YtpkegiekpnaejaaPartN0
namespace Go.Proofs.Ytpkegiekpnaejaa
open Go.RowKit Go.Shelf
attribute [local go_sem] Oper.semAt_some

set_option maxHeartbeats 1000000 in
theorem earlier_any (a : Option Addr) (xs : List Int) (ca : Nat) (b : Option Addr) (ys : List Int) (cb : Nat) (w : World) (hx : IntSl w a xs) (hy : IntSl w b ys) (hl : xs.length ≤ 1000000) :
    Calls Try.prog 86 #[.slice a xs.length ca, .slice b ys.length cb] w fun e w' => e = .returned (.bool (beforeB xs ys)) ∧ Below w.heap.size w w' := by
  have HX := Lib.hid (And.intro hx hy)
  clear hx hy
  by_cases hlen : xs.length = ys.length
  · have hlb : ((xs.length : Int) != (ys.length : Int)) = false := by simp; omega
    have HR : Hid (beforeB xs ys = decide (cmpL xs ys < 0)) := by show _ = _; rw [beforeB, if_pos hlen]
    have HL := Lib.hid hlen
    clear hlen
    go_enter Try.func86, Try.ntmps86
    go_wp2_with (fail)
    clear hlb
    go_loopw [5] (fun i wr => ∃ k : Nat, k ≤ xs.length ∧ i = .int .i64 k ∧ Hid (cmpL xs ys = cmpL (xs.drop k) (ys.drop k)) ∧ Below w.heap.size w wr) (fun i _ => xs.length - (intOf i).toNat)
    case atStart => exact ⟨0, Nat.zero_le _, rfl, rfl, Below.refl _ _⟩
    case round =>
      obtain ⟨k, hk, rfl, hc, hbw⟩ := hrel
      by_cases hlt : k < xs.length
      · obtain ⟨b1, o1, rfl, hb1, hc1⟩ := HX.out.1 (by omega)
        have d1 := (hbw.cell (p := ⟨b1, o1 + k, none⟩) hb1).trans (hc1 k hlt)
        have hlt2 : k < ys.length := by have := HL.out; omega
        obtain ⟨b2, o2, rfl, hb2, hc2⟩ := HX.out.2 (by omega)
        have d2 := (hbw.cell (p := ⟨b2, o2 + k, none⟩) hb2).trans (hc2 k hlt2)
        clear hc1 hc2
        have HA := Lib.hid (hc.out.trans (cmpL_at hlt hlt2))
        have HLT := Lib.hid (And.intro hlt hlt2)
        generalize xs[k]?.getD 0 = xk at d1 HA
        generalize ys[k]?.getD 0 = yk at d2 HA
        by_cases he : xk = yk
        · have heb : (xk != yk) = false := by simp [he]
          have HA2 : Hid (cmpL xs ys = cmpL (xs.drop (k + 1)) (ys.drop (k + 1))) := by show _ = _; rw [HA.out, if_pos (by simp [cmpI, he])]
          clear he
          go_upto_region 6 with (fail)
          go_quiet (fail)
          have hwd := Lib.hid (below_drewN hbw nq)
          go_wp2_with (fail)
          go_roundw
          case rel => exact ⟨k + 1, by omega, by go_num, HA2, hwd.out⟩
          case measure => simp [intOf]; omega
        · have heb : (xk != yk) = true := by simp [he]
          have HA2 : Hid (decide (cmpL xs ys < 0) = decide (xk < yk)) := by
            show _ = _
            rw [HA.out]
            by_cases h1 : xk < yk
            · simp [cmpI, h1]
            · have h2 : yk < xk := by omega
              simp [cmpI, h1, h2]
          clear he
          go_upto_region 6 with (fail)
          go_quiet (fail)
          have hwd := Lib.hid (below_drewN hbw nq)
          go_upto_region 7 with (fail)
          go_quiet (fail)
          have hwd2 := Lib.hid (below_drewN hwd.out nq)
          go_wp2_with (fail)
          go_ret
          exact ⟨by rw [HR.out, HA2.out]; rfl, hwd2.out⟩
      · have hkk : k = xs.length := by omega
        subst hkk
        have HA : Hid (decide (cmpL xs ys < 0) = false) := by
          show _ = _
          rw [hc.out.trans cmpL_end, if_neg (by have := HL.out; omega)]; rfl
        go_wp2_with (fail)
        go_ret
        exact ⟨by rw [HR.out, HA.out]; rfl, hbw⟩
  · have hlb : ((xs.length : Int) != (ys.length : Int)) = true := by simp; omega
    have HR : Hid (beforeB xs ys = decide (xs.length < ys.length)) := by show _ = _; rw [beforeB, if_neg hlen]
    clear hlen
    go_enter Try.func86, Try.ntmps86
    go_wp2_with (fail)
    go_ret
    exact ⟨by rw [HR.out]; rfl, Below.refl _ _⟩

/-- What many hands back. -/
def ManyOut (w : World) (n : Nat) (e : Ending) (w' : World) : Prop := ∃ b : Bool, e = .returned (.bool b) ∧ (b = false → n ≤ 15) ∧ Below w.heap.size w w'
set_option maxHeartbeats 1000000 in
theorem many_any (a : Option Addr) (n cap : Nat) (r : Ru) (w : World) :
    Calls Try.prog 26 #[.slice a n cap, r.v] w (ManyOut w n) := by
  have hB0 : Below w.heap.size w (w.alloc (.cells #[.int .i64 r.laps, .int .i64 r.len.lo, .int .i64 r.len.hi, .int .i64 r.climb.lo, .int .i64 r.climb.hi, .int .i64 r.lap.lo, .int .i64 r.lap.hi, .int .i64 r.wide, .int .i64 r.uses] 26)) := (Below.refl _ _).alloc (Nat.le_refl _) _
  have hR0 : (w.alloc (.cells #[.int .i64 r.laps, .int .i64 r.len.lo, .int .i64 r.len.hi, .int .i64 r.climb.lo, .int .i64 r.climb.hi, .int .i64 r.lap.lo, .int .i64 r.lap.hi, .int .i64 r.wide, .int .i64 r.uses] 26)).heap[w.heap.size]? = some (.cells #[.int .i64 r.laps, .int .i64 r.len.lo, .int .i64 r.len.hi, .int .i64 r.climb.lo, .int .i64 r.climb.hi, .int .i64 r.lap.lo, .int .i64 r.lap.hi, .int .i64 r.wide, .int .i64 r.uses] 26 (0, 0)) := heap_alloc_new _ _
  go_enter Try.func26, Try.ntmps26
  by_cases h15 : 15 < n
  · have g1 : decide (15 < n) = true := decide_eq_true h15
    go_wp2_with (fail)
    go_ret
    exact ⟨true, rfl, (fun h => by cases h), hB0⟩
  · have g1 : decide (15 < n) = false := decide_eq_false h15
    have HN : Hid (n ≤ 15) := by show n ≤ 15; omega
    go_wp2_with (fail)
    all_goals (
      clear g1
      go_loop [5, 13] (fun n i => ∃ (x : Int) (k : Nat), n = .int .i64 x ∧ i = .int .i64 k ∧ k ≤ 7) (fun _ i => 8 - (intOf i).toNat) 
      case atStart => exact ⟨1, 0, rfl, rfl, by omega⟩
      case round =>
        obtain ⟨x, k, rfl, rfl, hk⟩ := hrel
        go_wp2_with (fail)
        all_goals first
          | (go_round
             case rel => exact ⟨_, k + 1, rfl, by go_num, by omega⟩
             case measure => simp [intOf]; omega)
          | (go_ret
             exact ⟨_, rfl, fun _ => HN.out, hB0⟩))
end Go.Proofs.Ytpkegiekpnaejaa
