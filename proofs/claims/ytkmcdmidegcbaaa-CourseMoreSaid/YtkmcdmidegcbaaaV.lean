/-
  slices.Clone of piles, and drained, over this seat's program.
  What is proved: Clone hands back a new slice with the same numbers; drained hands back some piles, in memory of its own.
  Conditions: at most 1000 piles.
-/
import Derived.Test.YtkmcdmidegcbaaaU
namespace Go.Proofs.Ytkmcdmidegcbaaa
open Go.RowKit Go.Shelf
attribute [local go_sem] Oper.semAt_some

theorem Try.info106 : (Try.prog.info? 106).map (fun i => (i.zero, i.size, i.bytes)) = some (some (.agg #[.int .i64 0, .int .i64 0]), 2, 16) := by kernel_rfl

/-- The block of a slice holds piles, none of them frozen. -/
def Ty6 (W : World) (a : Option Addr) : Prop := ∀ q, a = some q → ∃ cs, W.heap[q.block]? = some (.cells cs 106 (0, 0))
theorem Ty6.below {w w' : World} {a : Option Addr} (h : Ty6 w a) (hb : Below w.heap.size w w') : Ty6 w' a := fun q hq => by
  obtain ⟨cs, h1⟩ := h q hq
  exact ⟨cs, (hb.block _ (lt_of_block h1)).trans h1⟩

theorem owns_mono {w : World} {base base' : Nat} {e : TypeId} {size : Nat} {v : Value} {n : Nat} {xs : List Value} (h : w.ownsRow base e size v n xs) (hb : base' ≤ base) : w.ownsRow base' e size v n xs := by
  refine ⟨h.1, ?_⟩
  rcases h.2 with h1 | ⟨g, cap', cur, h1, h2, h3⟩
  · exact .inl h1
  · exact .inr ⟨g, cap', cur, h1, Nat.le_trans hb h2, h3⟩
theorem owns_form {w : World} {base : Nat} {a : Option Addr} {n cap : Nat} {fs : List Int} (h : w.ownsRow base 106 2 (.slice a n cap) n (fs.map (Value.int .i64))) : IntSl w a fs ∧ Ty6 w a ∧ (∀ p, a = some p → base ≤ p.block ∧ p.off = 0 ∧ p.spot = none) ∧ (a = none → n = 0) ∧ n ≤ cap ∧ fs.length = n * 2 := by
  have hl : fs.length = n * 2 := by have := h.1; simpa using this
  rcases h.2 with ⟨h1, rfl⟩ | ⟨g, cap', cur, h1, hb, hg, hnc, hcm, hcs, htake⟩
  · cases h1
    exact ⟨(fun hp => by omega), (fun p hp => by cases hp), (fun p hp => by cases hp), (fun _ => rfl), Nat.le_refl _, hl⟩
  · cases h1
    refine ⟨fun hp => ⟨g, 0, rfl, lt_of_block hg, fun j hj => ?_⟩, fun p hp => ?_, (fun p hp => by cases hp; exact ⟨hb, rfl, rfl⟩), (fun h => by cases h), hnc, hl⟩
    · have hc := h.cells (g := g) rfl j (.int .i64 (fs[j]?.getD 0)) (by simp [hj])
      have : (⟨g, 0, none⟩ : Addr).add j = ⟨g, 0 + j, none⟩ := by unfold Addr.add; split <;> simp_all
      rwa [this] at hc
    · cases hp; exact ⟨cur, hg⟩
theorem owns_set {w : World} {base g n cap : Nat} {fs : List Int} (h : w.ownsRow base 106 2 (.slice (some ⟨g, 0, none⟩) n cap) n (fs.map (Value.int .i64))) (j : Nat) (x : Int) : (w.setCell ⟨g, j, none⟩ (.int .i64 x)).ownsRow base 106 2 (.slice (some ⟨g, 0, none⟩) n cap) n ((fs.set j x).map (Value.int .i64)) := by
  refine ⟨by have := h.1; simpa using this, ?_⟩
  rcases h.2 with ⟨h1, _⟩ | ⟨g', cap', cur, h1, hb, hg, hnc, hcm, hcs, htake⟩
  · cases h1
  · cases h1
    refine .inr ⟨g, cap, _, rfl, hb, blk_setCell hg, hnc, hcm, by rw [Array.size_setIfInBounds]; exact hcs, ?_⟩
    rw [Array.toList_setIfInBounds, List.take_set, htake, List.map_set]
theorem flats_of_owns {w : World} {base : Nat} {v : Value} {n : Nat} {fs : List Int} (h : w.ownsRow base 106 2 v n (fs.map (Value.int .i64))) : ∃ a cap, v = .slice a n cap ∧ IntSl w a fs ∧ Ty6 w a ∧ (∀ p, a = some p → base ≤ p.block) ∧ (a = none → n = 0) ∧ (∀ p, a = some p → p.off = 0 ∧ p.spot = none) := by
  have hl : fs.length = n * 2 := by have := h.1; simpa using this
  rcases h.2 with ⟨rfl, rfl⟩ | ⟨g, cap, cur, rfl, hb, hg, hnc, hcm, hcs, htake⟩
  · exact ⟨none, 0, rfl, (fun hp => by omega), (fun p hp => by cases hp), (fun p hp => by cases hp), (fun _ => rfl), (fun p hp => by cases hp)⟩
  · refine ⟨some ⟨g, 0, none⟩, cap, rfl, fun hp => ⟨g, 0, rfl, lt_of_block hg, fun j hj => ?_⟩, fun p hp => ?_, (fun p hp => by cases hp; exact hb), (fun h => by cases h), (fun p hp => by cases hp; exact ⟨rfl, rfl⟩)⟩
    · have hc := h.cells (g := g) rfl j (.int .i64 (fs[j]?.getD 0)) (by simp [hj])
      have : (⟨g, 0, none⟩ : Addr).add j = ⟨g, 0 + j, none⟩ := by unfold Addr.add; split <;> simp_all
      rwa [this] at hc
    · cases hp; exact ⟨cur, hg⟩

/-- Piles that were handed back: so many, with these numbers, two of each, in memory of their own. -/
def OutPiles (w : World) (n : Nat) (fs : List Int) (e : Ending) (w' : World) : Prop := ∃ a cap, e = .returned (.slice a n cap) ∧ w'.ownsRow w.heap.size 106 2 (.slice a n cap) n (fs.map (Value.int .i64)) ∧ Below w.heap.size w w'

set_option maxHeartbeats 1000000 in
theorem clonePile_any (a : Option Addr) (fs : List Int) (n cap : Nat) (w : World) (hx : IntSl w a fs) (hn : fs.length = n * 2) (hna : a = none → n = 0) (hl : n ≤ 1000) :
    Calls Try.prog 145 #[.slice a n cap] w (OutPiles w n fs) := by
  obtain ⟨i0, hi, hz0, hz1, hz2⟩ := info_parts Try.info106
  have q102 : ∀ (w : World) (a : Option Addr) (n c n' c' : Nat), (binOp .eql 102 (.slice a n c) (.slice none n' c')).run Try.prog w = .ok (.bool a.isNone) w := fun w a n c n' c' => Lib.run_eql_slice_nil w _ _ a n c n' c' Try.underlying102
  cases a with
  | none =>
    have h0 := hna rfl
    subst h0
    have hf : fs = [] := List.length_eq_zero_iff.1 (by omega)
    subst hf
    go_enter Try.func145, Try.ntmps145
    go_wp2
    go_ret
    exact ⟨none, 0, rfl, ⟨rfl, .inl ⟨rfl, rfl⟩⟩, Below.refl _ _⟩
  | some q =>
    have HC : Hid (∀ j u, (fs.map (Value.int .i64))[j]? = some u → (w.alloc (.cells #[] 106)).cell? (q.add j) = some u) := fun j u hu => by
      have hj : j < fs.length := by
        rcases Nat.lt_or_ge j fs.length with h | h
        · exact h
        · rw [List.getElem?_eq_none (by simpa using h)] at hu; cases hu
      obtain ⟨b, off, hab, hbs, hc⟩ := hx (by omega)
      cases hab
      have e : (⟨b, off, none⟩ : Addr).add j = ⟨b, off + j, none⟩ := by unfold Addr.add; split <;> simp_all
      rw [e, World.cell?_alloc_past _ _ _ (by exact hbs), hc j hj]
      simp [hj] at hu ⊢; exact hu
    have HX := Lib.hid hx
    clear hx
    have hn2 : (fs.map (Value.int .i64)).length = n * 2 := by simpa using hn
    have HN := Lib.hid hn
    clear hn
    go_enter Try.func145, Try.ntmps145
    go_wp2_with (at_builtin; refine wpList_append_own _ rfl _ _ 102 rfl w.heap.size 106 i0 (.agg #[.int .i64 0, .int .i64 0]) 2 16 Try.underlying102 hi hz0 hz1 hz2 rfl (by decide) _ _ _ rfl (World.ownsRow_made w #[] 0 (Nat.le_refl _) (Nat.zero_le _) (by simp)) q n cap (fs.map (Value.int .i64)) rfl ?c0 ?c1 ?c2 ?c3 ?c4 ?c5 ?_)
    case c0 => exact hn2
    case c1 => exact HC.out
    case c2 => intro u hu; obtain ⟨x, _, rfl⟩ := List.mem_map.1 hu; rfl
    case c3 => unfold maxLen; omega
    case c4 => omega
    case c5 => simp
    intro v' w2 hown2 hgrow2 _
    have hb3 : Below w.heap.size w w2 := ((Below.refl _ w).alloc (Nat.le_refl _) _).grown hgrow2 (by simp) (fun j hj => by simp [Value.ownBlock] at hj; omega)
    have hown3 : w2.ownsRow w.heap.size 106 2 v' n (fs.map (Value.int .i64)) := by simpa using hown2
    obtain ⟨a', cap', rfl, hs, hT, hfr, hna', hoff⟩ := flats_of_owns hown3
    go_wp2
    go_ret
    exact ⟨a', cap', rfl, hown3, hb3⟩

/-- Some piles that were handed back, no more than so many, in memory of their own. -/
def OutP (w : World) (n : Nat) (e : Ending) (w' : World) : Prop := ∃ n' fs', fs'.length = n' * 2 ∧ n' ≤ n ∧ OutPiles w n' fs' e w'

theorem IntSl.drop {w : World} {b off : Nat} {fs : List Int} (m : Nat) (h : IntSl w (some ⟨b, off, none⟩) fs) : IntSl w (some ⟨b, off + m, none⟩) (fs.drop m) := fun h0 => by
  simp at h0
  obtain ⟨b', off', e, hb, hc⟩ := h (by omega)
  cases e
  exact ⟨b, off + m, rfl, hb, fun j hj => by simp at hj; have := hc (m + j) (by omega); rw [Nat.add_assoc]; simpa [List.getElem?_drop] using this⟩
theorem IntSl.setAt {w : World} {b : Nat} {fs : List Int} {cs : Array Value} {t : TypeId} (h : IntSl w (some ⟨b, 0, none⟩) fs) (hcs : w.heap[b]? = some (.cells cs t (0, 0))) (j : Nat) (x : Int) : IntSl (w.setCell ⟨b, j, none⟩ (.int .i64 x)) (some ⟨b, 0, none⟩) (fs.set j x) := fun h0 => by
  simp at h0
  obtain ⟨b', off', e, hb, hc⟩ := h h0
  cases e
  refine ⟨b, 0, rfl, by rw [World.size_setCell]; exact hb, fun i hi => ?_⟩
  simp at hi
  have h1 := hc i hi
  rw [cell_of_row w b _ _ _ _ hcs] at h1
  rw [cell_of_row _ b _ _ _ _ (blk_setCell (j := j) (u := .int .i64 x) hcs)]
  rw [Array.getElem?_setIfInBounds, List.getElem?_set]
  have hlt : 0 + i < cs.size := by
    rcases Nat.lt_or_ge (0 + i) cs.size with h | h
    · exact h
    · rw [Array.getElem?_eq_none h] at h1; cases h1
  by_cases hij : j = i
  · subst hij
    simp at hlt ⊢
    simp [hlt, hi]
  · have : ¬ j = 0 + i := by omega
    simp only [this, hij, if_false]
    exact h1

set_option maxHeartbeats 1000000 in
theorem drained_any (a : Option Addr) (fs : List Int) (n cap : Nat) (much : Int) (w : World) (hx : IntSl w a fs) (hn : fs.length = n * 2) (hna : a = none → n = 0) (hnc : n ≤ cap) (hl : n ≤ 1000) :
    Calls Try.prog 138 #[.slice a n cap, .int .i64 much] w (OutP w n) := by
  have HX := Lib.hid (And.intro hx (And.intro hn hna))
  clear hx hn hna
  go_enter Try.func138, Try.ntmps138
  go_wp2
  go_loopw [1, 5] (fun m i wr => ∃ (k : Nat) (mu : Int), k ≤ n ∧ m = .int .i64 mu ∧ i = .int .i64 k ∧ Below w.heap.size w wr) (fun _ i _ => n - (intOf i).toNat)
  case atStart => exact ⟨0, much, Nat.zero_le _, rfl, rfl, Below.refl _ _⟩
  case round =>
    obtain ⟨k, mu, hk, rfl, rfl, hbw⟩ := hrel
    by_cases hlt : k < n
    · have hn := HX.out.2.1
      obtain ⟨b, off, hab, hbs, hc⟩ := HX.out.1 (by omega)
      subst hab
      have hc1 := (hbw.cell (p := ⟨b, off + (k * 2 + 1), none⟩) hbs).trans (hc (k * 2 + 1) (by omega))
      generalize fs[k * 2 + 1]?.getD 0 = x at hc1
      have hc2 : wr.cell? ⟨b, off + k * 2 + 1, none⟩ = some (.int .i64 x) := by rw [Nat.add_assoc]; exact hc1
      clear hc hc1 hn
      by_cases hle : x ≤ mu
      · go_wp2
        go_roundw
        case rel => exact ⟨k + 1, _, by omega, rfl, by go_num, hbw⟩
        case measure => simp [intOf]; omega
      · have hle2 : decide (x ≤ mu) = false := by simp [hle]
        clear hle
        have hd : (fs.drop (k * 2)).length = (n - k) * 2 := by have := HX.out.2.1; simp; omega
        go_wp2_with fail
        all_goals (first | (exfalso; omega) | skip)
        refine (clonePile_any (some ⟨b, off + k * 2, none⟩) (fs.drop (k * 2)) (n - k) (cap - k) _ ((HX.out.1.below hbw).drop (k * 2)) hd (fun h => by cases h) (by omega)).mono ?_
        rintro e w2 ⟨a2, cap2, rfl, hO2, hb2⟩
        obtain ⟨hI2, hT2, hf2, hn2, hc2', _⟩ := owns_form hO2
        cases a2 with
        | none => exact absurd (hn2 rfl) (by omega)
        | some q =>
          obtain ⟨qb, qo, qs⟩ := q
          obtain ⟨hq1, hq2, hq3⟩ := hf2 _ rfl
          simp only at hq1 hq2 hq3
          subst hq2
          subst hq3
          obtain ⟨cs, hcs⟩ := hT2 _ rfl
          simp only at hcs
          obtain ⟨b3, off3, e3, hb3, hc3⟩ := hI2 (by omega)
          cases e3
          have s1 := hc3 1 (by omega)
          have s2 := blk_free (j := 1) hcs
          have FIN : Hid (OutPiles w (n - k) ((fs.drop (k * 2)).set 1 (wrap64 ((fs.drop (k * 2))[1]?.getD 0 - mu))) (.returned (.slice (some ⟨qb, 0, none⟩) (n - k) cap2)) (w2.setCell ⟨qb, 1, none⟩ (.int .i64 (wrap64 ((fs.drop (k * 2))[1]?.getD 0 - mu))))) :=
            ⟨_, _, rfl, owns_mono (owns_set hO2 1 _) (Nat.le_trans hbw.size (Nat.le_refl _)), (below_self hbw hb2).setCell (p := ⟨qb, 1, none⟩) (Nat.le_trans hbw.size hq1) _⟩
          have HL : Hid (((fs.drop (k * 2)).set 1 (wrap64 ((fs.drop (k * 2))[1]?.getD 0 - mu))).length = (n - k) * 2) := by show _ = _; rw [List.length_set]; exact hd
          generalize (fs.drop (k * 2)).set 1 (wrap64 ((fs.drop (k * 2))[1]?.getD 0 - mu)) = fs2 at FIN HL
          generalize (fs.drop (k * 2))[1]?.getD 0 = x2 at FIN s1
          have hpos : 0 < n - k := by omega
          clear hc3 hI2 hT2 hf2 hn2 hc2' hO2 hcs hd hc2 hle2
          go_wp2
          go_ret
          exact ⟨n - k, fs2, HL.out, by omega, FIN.out⟩
    · have : k = n := by omega
      subst this
      clear hlt
      go_wp2_with fail
      all_goals (refine (clonePile_any _ [] 0 _ _ (fun h => by simp at h) rfl (fun _ => rfl) (by omega)).mono ?_; rintro e w2 ⟨a2, cap2, rfl, hO2, hb2⟩)
      all_goals go_wp2
      all_goals go_ret
      all_goals exact ⟨0, [], rfl, by omega, _, _, rfl, owns_mono hO2 hbw.size, below_self hbw hb2⟩
end Go.Proofs.Ytkmcdmidegcbaaa
