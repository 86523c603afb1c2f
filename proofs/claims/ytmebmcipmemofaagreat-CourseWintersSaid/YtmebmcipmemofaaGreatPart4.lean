/-
The contract of route.repeats over this seat's program: it counts in a map.
  What is proved: it returns whether some loop occurs more often than is allowed; nothing that was there before it has turned.
  Conditions: courses of at most 1000000 laps, whose numbers fit an int.
-/
import Derived.Test.YtmebmcipmemofaaGreatPart3
import Derived.Maps.OwnOps
import Derived.Maps.Views
namespace Go.Proofs.YtmebmcipmemofaaGreat
open Go.RowKit Go.Maps

def oftenB (c : List Int) (uses : Int) : Bool := c.any (fun i => decide (uses < (c.count i : Int)))

theorem often_true (c : List Int) (uses : Int) (k : Nat) (hk : k < c.length) (h : uses < ((c.take (k + 1)).count c[k] : Int)) : oftenB c uses = true := by
  simp only [oftenB, List.any_eq_true, decide_eq_true_eq]
  refine ⟨c[k], List.getElem_mem hk, ?_⟩
  have := (List.take_sublist (k + 1) c).count_le c[k]
  omega

theorem often_false (c : List Int) (uses : Int) (h : ∀ x ∈ c, (c.count x : Int) ≤ uses) : oftenB c uses = false := by
  simp only [oftenB, List.any_eq_false, decide_eq_true_eq]
  intro x hx; have := h x hx; omega

theorem count_take_succ (c : List Int) (k : Nat) (hk : k < c.length) (x : Int) : (c.take (k + 1)).count x = (c.take k).count x + if c[k] = x then 1 else 0 := by
  rw [List.take_add_one, List.getElem?_eq_getElem hk, List.count_append]
  show _ + [c[k]].count x = _
  rw [List.count_singleton]
  by_cases h : c[k] = x <;> simp [h]

theorem often_step (c : List Int) (uses : Int) (k : Nat) (hk : k < c.length) (h : ∀ x ∈ c.take k, ((c.take k).count x : Int) ≤ uses) (hn : ((c.take (k + 1)).count c[k] : Int) ≤ uses) :
    ∀ x ∈ c.take (k + 1), ((c.take (k + 1)).count x : Int) ≤ uses := by
  intro x hx
  by_cases e : x = c[k]
  · rw [e]; exact hn
  · have hm : x ∈ c.take k := by
      rw [List.take_add_one, List.getElem?_eq_getElem hk] at hx
      rcases List.mem_append.1 hx with hx | hx
      · exact hx
      · exact absurd (by simpa using hx) e
    have := h x hm
    rw [count_take_succ c k hk, if_neg (fun h => e h.symm)]
    exact this

/-- What the map holds behind k rounds. -/
structure Tally (c : List Int) (k : Nat) (D : DataW Unit) : Prop where
  map : IsMap D
  at' : ∀ x : Int, D.atKey (.int .i64 x) (.lit (.int .i64 0)) = .lit (.int .i64 ((c.take k).count x : Nat))

theorem Tally.step {c : List Int} {k : Nat} {D : DataW Unit} (h : Tally c k D) (hk : k < c.length) : Tally c (k + 1) (D.put (.int .i64 c[k]) (.lit (.int .i64 ((c.take k).count c[k] + 1 : Nat)))) := by
  refine ⟨h.map.put _ _, fun x => ?_⟩
  rw [count_take_succ c k hk]
  by_cases e : x = c[k]
  · subst e
    rw [atKey_put_same h.map (by trivial), if_pos rfl]
  · rw [atKey_put_other (by simpa using e), h.at', if_neg (fun h => e h.symm)]
    rfl

theorem zero3 (w : World) : (zeroValue 3).run Tryz.prog w = .ok (.int .i64 0) w := by kernel_rfl
theorem lawInt : Keyed Tryz.prog 3 := int_keyed Tryz.underlying3

set_option maxHeartbeats 1000000 in
set_option maxRecDepth 100000 in
theorem repeats_any (a : Option Addr) (c : List Int) (cap : Nat) (uses : Int) (w : World) (hx : IntSl w a c) (hl : c.length ≤ 1000000) (hwf : ∀ x ∈ c, (Lit.int .i64 x).wf = true) :
    Calls Tryz.prog 151 #[.slice a c.length cap, .int .i64 uses] w fun e w' => e = .returned (.bool (oftenB c uses)) ∧ Below w.heap.size w w' := by
  have hmm := @run_makeMap Tryz.prog
  go_enter Tryz.func151, Tryz.ntmps151
  go_wp2
  go_loopw [11] (fun i wr => ∃ (k : Nat) (D : DataW Unit), k ≤ c.length ∧ i = .int .i64 k ∧ wr.ownsMap Tryz.prog 3 (plainElem Tryz.prog 3) w.heap.size k D ∧ Hid (Tally c k D) ∧ Hid (∀ x ∈ c.take k, ((c.take k).count x : Int) ≤ uses) ∧ Below w.heap.size w wr)
    (fun i _ => c.length - (intOf i).toNat)
  case atStart => exact ⟨0, .map [], Nat.zero_le _, rfl, World.ownsMap_made _ _ _ _, ⟨isMap_empty, fun x => by simp; rfl⟩, fun x hx => by simp at hx, (Below.refl _ _).alloc (Nat.le_refl _) _⟩
  case round =>
    obtain ⟨k, D, hk, rfl, hown, hT, hU, hbw⟩ := hrel
    by_cases hlt : k < c.length
    · obtain ⟨b, off, rfl, hbs, hc⟩ := hx (by omega)
      have hck := (hbw.cell (p := ⟨b, off + k, none⟩) hbs).trans (hc k hlt)
      have hkey : keyOf Tryz.prog 3 (.int .i64 c[k]) = some (.int .i64 c[k]) := keyOf_int_mk Tryz.underlying3 (hwf _ (List.getElem_mem hlt))
      clear hc
      obtain ⟨m, hm⟩ : ∃ m : Nat, (c.take k).count c[k] = m := ⟨_, rfl⟩
      have HM := Lib.hid hm
      clear hm
      have hm1 : m ≤ 1000000 := by have := List.count_le_length (a := c[k]) (l := c.take k); rw [HM.out] at this; simp at this; omega
      have hat1 : Hid (∀ v, D.atKey (.int .i64 c[k]) (.lit (.int .i64 0)) = .lit (.int .i64 v) → v = (m : Int)) := fun v h => by
        have h2 := h.symm.trans (hT.out.at' c[k]); rw [HM.out] at h2; simpa using h2
      have hat2 : Hid (∀ v, (D.put (.int .i64 c[k]) (.lit (.int .i64 ((m : Int) + 1)))).atKey (.int .i64 c[k]) (.lit (.int .i64 0)) = .lit (.int .i64 v) → v = (m : Int) + 1) := fun v h => by
        rw [atKey_put_same hT.out.map (by trivial)] at h; simpa using h.symm
      have HS : Hid (Tally c (k + 1) (D.put (.int .i64 c[k]) (.lit (.int .i64 ((m : Int) + 1))))) := by
        have h := hT.out.step hlt; rw [HM.out] at h; exact h
      have Hc : Hid (((c.take (k + 1)).count c[k] : Int) = (m : Int) + 1) := by
        have h := count_take_succ c k hlt c[k]; rw [HM.out, if_pos rfl] at h; show ((_ : Nat) : Int) = _; rw [h]; rfl
      have hwfm : (Lit.int .i64 ((m : Int) + 1)).wf = true := WalkArith.wf_i64 (by omega)
      have tok1 : True := trivial
      go_wp2_with (first
        | (at_lookup; have _t := tok1; refine wpList_lookup_own_int _ rfl _ _ 227 rfl 3 3 .i64 lawInt Tryz.underlying227 Tryz.underlying3 (zero3 _) w.heap.size k D rfl hown _ _ rfl hkey ?_; intro v hat hwc; obtain rfl := hat1.out v hat; clear hat hwc tok1)
        | (at_mapUpdate; refine wpList_mapUpdate_own _ rfl _ _ _ 227 rfl 3 3 lawInt Tryz.underlying227 _ w.heap.size k D rfl hown (by unfold maxLen; omega) _ _ _ rfl rfl hkey _ [] (plainElem_int Tryz.underlying3 hwfm) ?_; intro w1 hown1 hgrow1)
        | (at_lookup; refine wpList_lookup_own_int _ rfl _ _ 227 rfl 3 3 .i64 lawInt Tryz.underlying227 Tryz.underlying3 (zero3 _) w.heap.size (k + 1) _ rfl hown1 _ _ rfl hkey ?_; intro v hat hwc; obtain rfl := hat2.out v hat; clear hat hwc hwfm hat1 hat2 hkey hck hmm))
      · have hgt : uses < (m : Int) + 1 := by assumption
        go_ret
        exact ⟨ret_bool (often_true c uses k hlt (by rw [Hc.out]; exact hgt)).symm, hbw.grown hgrow1 hbw.size (fun j hj => by cases hj; exact Nat.le_refl _)⟩
      · have hle : (m : Int) + 1 ≤ uses := by assumption
        go_roundw
        case rel => exact ⟨k + 1, _, by omega, by go_num, hown1, HS, often_step c uses k hlt hU.out (by rw [Hc.out]; exact hle), hbw.grown hgrow1 hbw.size (fun j hj => by cases hj; exact Nat.le_refl _)⟩
        case measure => simp [intOf]; omega
    · have : k = c.length := by omega
      subst this
      rw [List.take_length] at hU
      go_wp2
      go_ret
      exact ⟨ret_bool (often_false c uses hU.out).symm, hbw⟩
end Go.Proofs.YtmebmcipmemofaaGreat
