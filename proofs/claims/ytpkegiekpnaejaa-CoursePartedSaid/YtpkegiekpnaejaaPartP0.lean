/-
The contract of drained over this seat's program, with what is left.
  What is proved: what is left of the piles if so much comes from the oldest ones.
  Conditions: at most 1000 piles; numbers of at most 10000000, none of what a pile holds below 0.
The piles of a spell, as a function of lists.
  What is proved: they are the stock, oldest first, and all that was made after the first of them is left.
  Conditions: each lemma states its own.
What play's memory holds, with the piles.
  What is proved: the memory's facts go on from one store or append of play to the next.
  Conditions: each lemma states its own.
-/
import Derived.Test.YtpkegiekpnaejaaPart15
namespace Go.Proofs.Ytpkegiekpnaejaa
open Go.RowKit Go.Shelf
attribute [local go_sem] Oper.semAt_some

/-- What is left of piles, two numbers each. -/
def drainF : List Int → Int → List Int
  | a :: b :: r, mu => if b ≤ mu then drainF r (mu - b) else a :: (b - mu) :: r
  | _, _ => []
theorem drop_two {fs : List Int} {k : Nat} (h : k * 2 + 1 < fs.length) : fs.drop (k * 2) = fs[k * 2]?.getD 0 :: fs[k * 2 + 1]?.getD 0 :: fs.drop ((k + 1) * 2) := by
  rw [List.getElem?_eq_getElem (show k * 2 < fs.length by omega), List.getElem?_eq_getElem h, Option.getD_some, Option.getD_some, List.drop_eq_getElem_cons (show k * 2 < fs.length by omega), List.drop_eq_getElem_cons h, show (k + 1) * 2 = k * 2 + 1 + 1 by omega]

theorem wrap_small {x : Int} (h : -100000000 ≤ x ∧ x ≤ 100000000) : wrap64 x = x := by
  first
    | (unfold wrap64; omega)
    | exact WalkArith.wrap64_small (by omega)
    | (simp [wrap64]; omega)

set_option maxHeartbeats 1000000 in
theorem drained_tells (a : Option Addr) (fs : List Int) (n cap : Nat) (much : Int) (w : World) (hx : IntSl w a fs) (hn : fs.length = n * 2) (hna : a = none → n = 0) (hnc : n ≤ cap) (hl : n ≤ 1000) (hm : 0 ≤ much ∧ much ≤ 10000000) (hf : ∀ k, k < n → 0 ≤ fs[k * 2 + 1]?.getD 0 ∧ fs[k * 2 + 1]?.getD 0 ≤ 10000000) :
    Calls Try.prog 138 #[.slice a n cap, .int .i64 much] w (fun e w' => ∃ n', (drainF fs much).length = n' * 2 ∧ OutPiles w n' (drainF fs much) e w') := by
  have HX := Lib.hid (And.intro hx (And.intro hn hna))
  have HFS := Lib.hid hf
  clear hx hn hna hf
  go_enter Try.func138, Try.ntmps138
  go_wp2
  go_loopw [1, 5] (fun m i wr => ∃ (k : Nat) (mu : Int), k ≤ n ∧ m = .int .i64 mu ∧ i = .int .i64 k ∧ (0 ≤ mu ∧ mu ≤ 10000000) ∧ Hid (drainF (fs.drop (k * 2)) mu = drainF fs much) ∧ Below w.heap.size w wr) (fun _ i _ => n - (intOf i).toNat)
  case atStart => exact ⟨0, much, Nat.zero_le _, rfl, rfl, hm, rfl, Below.refl _ _⟩
  case round =>
    obtain ⟨k, mu, hk, rfl, rfl, hmu, hdr, hbw⟩ := hrel
    by_cases hlt : k < n
    · have hn := HX.out.2.1
      obtain ⟨b, off, hab, hbs, hc⟩ := HX.out.1 (by omega)
      subst hab
      have hc1 := (hbw.cell (p := ⟨b, off + (k * 2 + 1), none⟩) hbs).trans (hc (k * 2 + 1) (by omega))
      have hxb := HFS.out k hlt
      have hd2 := drop_two (fs := fs) (k := k) (by omega)
      have hdr2 := hdr.out
      rw [hd2, drainF] at hdr2
      have hd3 : (fs.drop (k * 2))[1]?.getD 0 = fs[k * 2 + 1]?.getD 0 := by rw [hd2]; rfl
      have HD2 := Lib.hid (And.intro hd2 hd3)
      clear hd2 hd3
      generalize fs[k * 2 + 1]?.getD 0 = x at hc1 hxb hdr2 HD2
      have hc2 : wr.cell? ⟨b, off + k * 2 + 1, none⟩ = some (.int .i64 x) := by rw [Nat.add_assoc]; exact hc1
      clear hc hc1 hn
      by_cases hle : x ≤ mu
      · rw [if_pos hle] at hdr2
        have HR2 := Lib.hid hdr2
        have hws : IntKind.i64.wrap (mu - x) = mu - x := IntWalk.i64_in _ (by omega)
        clear hdr2
        go_wp2
        go_roundw
        case rel => exact ⟨k + 1, mu - x, by omega, by go_num, by go_num, ⟨by omega, by omega⟩, HR2, hbw⟩
        case measure => simp [intOf]; omega
      · have hle2 : decide (x ≤ mu) = false := by simp [hle]
        rw [if_neg hle] at hdr2
        have HR2 := Lib.hid hdr2
        clear hle hdr2
        have hd : (fs.drop (k * 2)).length = (n - k) * 2 := by have := HX.out.2.1; simp; omega
        go_wp2_with fail
        all_goals (first | (exfalso; omega) | skip)
        refine (clonePile_any (some ⟨b, off + k * 2, none⟩) (fs.drop (k * 2)) (n - k) (cap - k) _ ((HX.out.1.below hbw).drop (k * 2)) hd (fun h => by cases h) (by omega)).mono ?_
        rintro e w2 ⟨a2, cap2, rfl, hO2, hb2⟩
        obtain ⟨hI2, hT2, hf2, hn2, hc2', _⟩ := owns_form hO2
        cases a2 with
        | none => exact absurd (hn2 rfl) (by omega)
        | some q =>
          obtain ⟨qb, qo, qs⟩ := q
          obtain ⟨hq1, hq2, hq3⟩ := hf2 _ rfl
          simp only at hq1 hq2 hq3
          subst hq2
          subst hq3
          obtain ⟨cs, hcs⟩ := hT2 _ rfl
          simp only at hcs
          obtain ⟨b3, off3, e3, hb3, hc3⟩ := hI2 (by omega)
          cases e3
          have s1 := hc3 1 (by omega)
          have s2 := blk_free (j := 1) hcs
          have FIN : Hid (OutPiles w (n - k) ((fs.drop (k * 2)).set 1 (wrap64 ((fs.drop (k * 2))[1]?.getD 0 - mu))) (.returned (.slice (some ⟨qb, 0, none⟩) (n - k) cap2)) (w2.setCell ⟨qb, 1, none⟩ (.int .i64 (wrap64 ((fs.drop (k * 2))[1]?.getD 0 - mu))))) :=
            ⟨_, _, rfl, owns_mono (owns_set hO2 1 _) (Nat.le_trans hbw.size (Nat.le_refl _)), (below_self hbw hb2).setCell (p := ⟨qb, 1, none⟩) (Nat.le_trans hbw.size hq1) _⟩
          have HL : Hid (((fs.drop (k * 2)).set 1 (wrap64 ((fs.drop (k * 2))[1]?.getD 0 - mu))).length = (n - k) * 2) := by show _ = _; rw [List.length_set]; exact hd
          have HQ : Hid ((fs.drop (k * 2)).set 1 (wrap64 ((fs.drop (k * 2))[1]?.getD 0 - mu)) = drainF fs much) := by
            show _ = _
            rw [HD2.out.2, HD2.out.1, ← HR2.out, wrap_small (by omega)]
            rfl
          generalize (fs.drop (k * 2)).set 1 (wrap64 ((fs.drop (k * 2))[1]?.getD 0 - mu)) = fs2 at FIN HL HQ
          generalize (fs.drop (k * 2))[1]?.getD 0 = x2 at FIN s1
          have hpos : 0 < n - k := by omega
          clear hc3 hI2 hT2 hf2 hn2 hc2' hO2 hcs hd hc2 hle2
          go_wp2
          go_ret
          rw [← HQ.out]
          exact ⟨n - k, HL.out, FIN.out⟩
    · have : k = n := by omega
      subst this
      clear hlt
      have hnil : drainF fs much = [] := by
        rw [← hdr.out, List.drop_eq_nil_of_le (by have := HX.out.2.1; omega)]
        rfl
      have HNIL := Lib.hid hnil
      clear hnil
      go_wp2_with fail
      all_goals (refine (clonePile_any _ [] 0 _ _ (fun h => by simp at h) rfl (fun _ => rfl) (by omega)).mono ?_; rintro e w2 ⟨a2, cap2, rfl, hO2, hb2⟩)
      all_goals go_wp2
      all_goals go_ret
      all_goals (rw [HNIL.out]; exact ⟨0, rfl, _, _, rfl, owns_mono hO2 hbw.size, below_self hbw hb2⟩)
end Go.Proofs.Ytpkegiekpnaejaa

namespace Go.Proofs.Ytpkegiekpnaejaa
open Go.RowKit Go.Shelf

def flatS (ps : List Sp) : List Int := ps.flatMap Sp.cells
def drainS : List Sp → Int → List Sp
  | p :: r, mu => if p.hi ≤ mu then drainS r (mu - p.hi) else ⟨p.lo, p.hi - mu⟩ :: r
  | [], _ => []
def sumS : List Sp → Int
  | p :: r => p.hi + sumS r
  | [] => 0
theorem flatS_cons (p : Sp) (r : List Sp) : flatS (p :: r) = p.lo :: p.hi :: flatS r := rfl
theorem flatS_append (ps qs : List Sp) : flatS (ps ++ qs) = flatS ps ++ flatS qs := by simp [flatS]
theorem flatS_len (ps : List Sp) : (flatS ps).length = ps.length * 2 := by
  induction ps with
  | nil => rfl
  | cons p r ih => rw [flatS_cons, List.length_cons, List.length_cons, List.length_cons, ih]; omega
theorem flatS_get {ps : List Sp} {j : Nat} {p : Sp} (h : ps[j]? = some p) : (flatS ps)[j * 2]? = some p.lo ∧ (flatS ps)[j * 2 + 1]? = some p.hi := by
  induction ps generalizing j with
  | nil => simp at h
  | cons q r ih =>
    rw [flatS_cons]
    cases j with
    | zero => simp at h; subst h; exact ⟨rfl, rfl⟩
    | succ j =>
      rw [List.getElem?_cons_succ] at h
      have := ih h
      rw [show (j + 1) * 2 = j * 2 + 1 + 1 by omega]
      simpa using this
theorem drain_flat (ps : List Sp) (mu : Int) : drainF (flatS ps) mu = flatS (drainS ps mu) := by
  induction ps generalizing mu with
  | nil => rfl
  | cons p r ih =>
    rw [flatS_cons, drainF, drainS]
    split
    · exact ih _
    · rfl
theorem drainS_len (ps : List Sp) (mu : Int) : (drainS ps mu).length ≤ ps.length := by
  induction ps generalizing mu with
  | nil => exact Nat.le_refl _
  | cons p r ih =>
    rw [drainS]
    split
    · exact Nat.le_trans (ih _) (Nat.le_succ _)
    · exact Nat.le_refl _
theorem sumS_append (ps qs : List Sp) : sumS (ps ++ qs) = sumS ps + sumS qs := by
  induction ps with
  | nil => simp [sumS]
  | cons p r ih => show p.hi + sumS (r ++ qs) = p.hi + sumS r + sumS qs; rw [ih]; omega
theorem sumS_le {ps : List Sp} (h : ∀ p ∈ ps, 0 ≤ p.hi) : 0 ≤ sumS ps ∧ ∀ p ∈ ps, p.hi ≤ sumS ps := by
  induction ps with
  | nil => exact ⟨Int.le_refl _, fun p hp => by cases hp⟩
  | cons q r ih =>
    obtain ⟨h1, h2⟩ := ih (fun p hp => h p (List.mem_cons_of_mem _ hp))
    have hq := h q List.mem_cons_self
    refine ⟨by show 0 ≤ q.hi + sumS r; omega, fun p hp => ?_⟩
    show p.hi ≤ q.hi + sumS r
    rcases List.mem_cons.1 hp with rfl | hp
    · omega
    · have := h2 p hp; omega
theorem sumS_drain {ps : List Sp} {mu : Int} (h : ∀ p ∈ ps, 0 ≤ p.hi) (h0 : 0 ≤ mu) (hm : mu ≤ sumS ps) : sumS (drainS ps mu) = sumS ps - mu := by
  induction ps generalizing mu with
  | nil => show (0 : Int) = 0 - mu; have : mu ≤ 0 := hm; omega
  | cons p r ih =>
    have hm' : mu ≤ p.hi + sumS r := hm
    rw [drainS]
    split
    · rw [ih (fun q hq => h q (List.mem_cons_of_mem _ hq)) (by omega) (by omega)]
      show _ = p.hi + sumS r - mu
      omega
    · show p.hi - mu + sumS r = p.hi + sumS r - mu
      omega

/-- Piles of a spell: what was made, oldest first; all that was made after the first one is left. -/
structure Pil (st0 : Int) (made : List Int) (F : List Sp) : Prop where
  each : ∀ p ∈ F, 1 ≤ p.hi ∧ ((p.lo = -1 ∧ p.hi ≤ st0) ∨ (0 ≤ p.lo ∧ p.lo < made.length ∧ p.hi ≤ made[p.lo.toNat]?.getD 0))
  rest : ∀ p ∈ F.tail, 0 ≤ p.lo ∧ p.hi = made[p.lo.toNat]?.getD 0
  inc : F.Pairwise (fun p q => p.lo < q.lo)
  all : ∀ h t, F = h :: t → ∀ d : Nat, h.lo < d → d < made.length → 0 < made[d]?.getD 0 → (⟨d, made[d]?.getD 0⟩ : Sp) ∈ t
theorem Pil.drain {st0 : Int} {made : List Int} {F : List Sp} {mu : Int} (h : Pil st0 made F) (h0 : 0 ≤ mu) : Pil st0 made (drainS F mu) := by
  induction F generalizing mu with
  | nil => exact h
  | cons p r ih =>
    rw [drainS]
    split
    · refine ih ⟨fun q hq => h.each q (List.mem_cons_of_mem _ hq), fun q hq => h.rest q (List.mem_of_mem_tail hq), (List.pairwise_cons.1 h.inc).2, ?_⟩ (by omega)
      intro h' t' e d h1 h2 h3
      subst e
      have hlt := (List.pairwise_cons.1 h.inc).1 h' List.mem_cons_self
      rcases List.mem_cons.1 (h.all p (h' :: t') rfl d (by omega) h2 h3) with e | e
      · rw [← e] at h1
        exact absurd h1 (by show ¬ (d : Int) < d; omega)
      · exact e
    · rename_i hle
      refine ⟨?_, h.rest, ?_, ?_⟩
      · intro q hq
        rcases List.mem_cons.1 hq with rfl | hq
        · obtain ⟨h1, h2⟩ := h.each p List.mem_cons_self
          refine ⟨by show 1 ≤ p.hi - mu; omega, ?_⟩
          rcases h2 with ⟨a, b⟩ | ⟨a, b, c⟩
          · exact .inl ⟨a, by show p.hi - mu ≤ st0; omega⟩
          · exact .inr ⟨a, b, by show p.hi - mu ≤ made[p.lo.toNat]?.getD 0; omega⟩
        · exact h.each q (List.mem_cons_of_mem _ hq)
      · exact List.pairwise_cons.2 (List.pairwise_cons.1 h.inc)
      · intro h' t' e d h1 h2 h3
        cases e
        exact h.all p r rfl d h1 h2 h3
theorem getD_left {xs : List Int} {x : Int} {j : Nat} (h : j < xs.length) : (xs ++ [x])[j]?.getD 0 = xs[j]?.getD 0 := by rw [getD_snoc, if_pos h]
theorem getD_last {xs : List Int} {x : Int} : (xs ++ [x])[xs.length]?.getD 0 = x := by rw [getD_snoc, if_neg (by omega), if_pos rfl]
theorem Pil.none {st0 : Int} {made : List Int} {F : List Sp} {m : Int} (h : Pil st0 made F) (hm : ¬ 0 < m) : Pil st0 (made ++ [m]) F := by
  have key : ∀ p ∈ F, 0 ≤ p.lo → (made ++ [m])[p.lo.toNat]?.getD 0 = made[p.lo.toNat]?.getD 0 := fun p hp h0 => by
    rcases (h.each p hp).2 with ⟨a, _⟩ | ⟨a, b, _⟩
    · omega
    · exact getD_left (by omega)
  refine ⟨fun p hp => ⟨(h.each p hp).1, ?_⟩, fun p hp => ?_, h.inc, ?_⟩
  · rcases (h.each p hp).2 with a | ⟨a, b, c⟩
    · exact .inl a
    · exact .inr ⟨a, by simp; omega, by rw [key p hp a]; exact c⟩
  · obtain ⟨a, b⟩ := h.rest p hp
    exact ⟨a, by rw [key p (List.mem_of_mem_tail hp) a]; exact b⟩
  · intro h' t' e d h1 h2 h3
    rcases Nat.lt_or_ge d made.length with hd | hd
    · rw [getD_left hd] at h3 ⊢
      exact h.all h' t' e d h1 hd h3
    · have : d = made.length := by simp at h2; omega
      subst this
      rw [getD_last] at h3
      exact absurd h3 hm
theorem Pil.push {st0 : Int} {made : List Int} {F : List Sp} {m : Int} (h : Pil st0 made F) (hm : 0 < m) : Pil st0 (made ++ [m]) (F ++ [⟨made.length, m⟩]) := by
  have key : ∀ p ∈ F, 0 ≤ p.lo → (made ++ [m])[p.lo.toNat]?.getD 0 = made[p.lo.toNat]?.getD 0 := fun p hp h0 => by
    rcases (h.each p hp).2 with ⟨a, _⟩ | ⟨a, b, _⟩
    · omega
    · exact getD_left (by omega)
  have hlast : (made ++ [m])[((made.length : Int)).toNat]?.getD 0 = m := by rw [Int.toNat_natCast]; exact getD_last
  have hlt : ∀ p ∈ F, p.lo < made.length := fun p hp => by
    rcases (h.each p hp).2 with ⟨a, _⟩ | ⟨a, b, _⟩ <;> omega
  refine ⟨fun p hp => ?_, fun p hp => ?_, ?_, ?_⟩
  · rcases List.mem_append.1 hp with hp | hp
    · refine ⟨(h.each p hp).1, ?_⟩
      rcases (h.each p hp).2 with a | ⟨a, b, c⟩
      · exact .inl a
      · exact .inr ⟨a, by simp; omega, by rw [key p hp a]; exact c⟩
    · have : p = ⟨made.length, m⟩ := by simpa using hp
      subst this
      exact ⟨by show 1 ≤ m; omega, .inr ⟨by show 0 ≤ (made.length : Int); omega, by rw [List.length_append]; show (made.length : Int) < ((made.length + 1 : Nat) : Int); omega, by show m ≤ _; rw [hlast]; exact Int.le_refl _⟩⟩
  · cases F with
    | nil => simp at hp
    | cons q r =>
      have hp' : p ∈ r ++ [⟨made.length, m⟩] := hp
      rcases List.mem_append.1 hp' with hp' | hp'
      · obtain ⟨a, b⟩ := h.rest p hp'
        exact ⟨a, by rw [key p (List.mem_cons_of_mem _ hp') a]; exact b⟩
      · have : p = ⟨made.length, m⟩ := by simpa using hp'
        subst this
        exact ⟨by show 0 ≤ (made.length : Int); omega, by show m = _; rw [hlast]⟩
  · rw [List.pairwise_append]
    refine ⟨h.inc, List.pairwise_singleton _ _, fun p hp q hq => ?_⟩
    have : q = ⟨made.length, m⟩ := by simpa using hq
    subst this
    exact hlt p hp
  · intro h' t' e d h1 h2 h3
    cases F with
    | nil =>
      simp at e
      obtain ⟨rfl, rfl⟩ := e
      have h1' : (made.length : Int) < d := h1
      simp at h2
      omega
    | cons q r =>
      rw [List.cons_append] at e
      simp only [List.cons.injEq] at e
      obtain ⟨rfl, rfl⟩ := e
      rcases Nat.lt_or_ge d made.length with hd | hd
      · rw [getD_left hd] at h3 ⊢
        exact List.mem_append_left _ (h.all q r rfl d h1 hd h3)
      · have : d = made.length := by simp at h2; omega
        subst this
        rw [getD_last]
        exact List.mem_append_right _ (by simp)

/-- The piles of a spell, a day further. -/
def pileStep (store : Int) (s : Ps) (F : List Sp) (k : Nat) (n m l : Int) : List Sp :=
  if s.fails = -1 then
    (if s.stock + (madeD store s.stock m l - lostD s.stock l) < n then F
     else if 0 < madeD store s.stock m l then drainS (drainS F (lostD s.stock l) ++ [⟨k, madeD store s.stock m l⟩]) n
     else drainS F (lostD s.stock l + n))
  else F
def pileL (stock store : Int) (N M L : List Int) : Nat → List Sp
  | 0 => drainS [⟨-1, stock⟩] 0
  | k + 1 => pileStep store (playL stock store N M L k) (pileL stock store N M L k) k (N[k]?.getD 0) (M[k]?.getD 0) (L[k]?.getD 0)
theorem pileL_stop (stock store : Int) (N M L : List Int) (k : Nat) (h : (playL stock store N M L k).fails ≠ -1) (n : Nat) (hn : k ≤ n) : pileL stock store N M L n = pileL stock store N M L k := by
  induction n with
  | zero =>
    have : k = 0 := by omega
    subst this
    rfl
  | succ n ih =>
    rcases Nat.lt_or_ge n k with h1 | h1
    · have : k = n + 1 := by omega
      subst this
      rfl
    · rw [pileL, pileStep, playL_stop _ _ _ _ _ _ h n h1, if_neg h]
      exact ih h1
theorem pile_inv {stock store : Int} {N M L : List Int} (hs : 0 ≤ stock ∧ stock ≤ store) (hM : ∀ k : Nat, 0 ≤ M[k]?.getD 0) (hL : ∀ k : Nat, 0 ≤ L[k]?.getD 0) (hN : ∀ k : Nat, 0 ≤ N[k]?.getD 0) (k : Nat) :
    Pil stock (playL stock store N M L k).made (pileL stock store N M L k) ∧ sumS (pileL stock store N M L k) = (playL stock store N M L k).stock ∧ (0 ≤ (playL stock store N M L k).stock ∧ (playL stock store N M L k).stock ≤ store) ∧ ((playL stock store N M L k).fails = -1 → (playL stock store N M L k).made.length = k) ∧ (pileL stock store N M L k).length ≤ k + 1 := by
  induction k with
  | zero =>
    have h1 : Pil stock [] [⟨-1, stock⟩] → Pil stock [] (drainS [⟨-1, stock⟩] 0) := fun h => h.drain (Int.le_refl _)
    show Pil stock [] (drainS [⟨-1, stock⟩] 0) ∧ sumS (drainS [⟨-1, stock⟩] 0) = stock ∧ (0 ≤ stock ∧ stock ≤ store) ∧ _ ∧ _
    refine ⟨?_, ?_, hs, fun _ => rfl, drainS_len _ _⟩
    · rw [drainS]
      split
      · exact ⟨fun p hp => (by cases hp), fun p hp => (by cases hp), List.Pairwise.nil, fun h t e => (by cases e)⟩
      · rename_i hle
        have hle' : ¬ stock ≤ 0 := hle
        refine ⟨fun p hp => ?_, fun p hp => (by cases hp), List.pairwise_singleton _ _, fun h t e d h1 h2 => absurd h2 (by simp)⟩
        have : p = ⟨-1, stock - 0⟩ := by simpa using hp
        subst this
        exact ⟨by show 1 ≤ stock - 0; omega, .inl ⟨rfl, by show stock - 0 ≤ stock; omega⟩⟩
    · rw [sumS_drain (fun p hp => ?_) (Int.le_refl _) (by show 0 ≤ stock + 0; omega)]
      · show stock + 0 - 0 = stock
        omega
      · have : p = ⟨-1, stock⟩ := by simpa using hp
        subst this
        exact hs.1
  | succ k ih =>
    obtain ⟨i1, i2, i3, i4, i5⟩ := ih
    rw [playL_succ, pileL, stepP, pileStep]
    have m0 := hM k
    have l0 := hL k
    have n0 := hN k
    generalize playL stock store N M L k = s at i1 i2 i3 i4 ⊢
    generalize pileL stock store N M L k = F at i1 i2 i5 ⊢
    generalize N[k]?.getD 0 = n at n0 ⊢
    generalize M[k]?.getD 0 = m at m0 ⊢
    generalize L[k]?.getD 0 = l at l0 ⊢
    have e1 : ∀ p ∈ F, 0 ≤ p.hi := fun p hp => by have := (i1.each p hp).1; omega
    by_cases hf : s.fails = -1
    · rw [if_pos hf, if_pos hf]
      have hlen := i4 hf
      have blo : 0 ≤ lostD s.stock l ∧ lostD s.stock l ≤ s.stock := by unfold lostD; omega
      have bma : 0 ≤ madeD store s.stock m l ∧ s.stock - lostD s.stock l + madeD store s.stock m l ≤ store := by unfold madeD; omega
      generalize lostD s.stock l = lo at *
      generalize madeD store s.stock m l = ma at *
      by_cases hq : s.stock + (ma - lo) < n
      · rw [if_pos hq, if_pos hq]
        exact ⟨i1, i2, i3, fun h => absurd (show ((k : Int)) = -1 from h) (by omega), by omega⟩
      · rw [if_neg hq, if_neg hq]
        have hln : (s.made ++ [ma]).length = k + 1 := by simp [hlen]
        by_cases hp : 0 < ma
        · rw [if_pos hp]
          have d1 := i1.drain (mu := lo) blo.1
          have s1 : sumS (drainS F lo) = s.stock - lo := by rw [sumS_drain e1 blo.1 (by omega), i2]
          have d2 := d1.push hp
          rw [hlen] at d2
          have s2 : sumS (drainS F lo ++ [⟨k, ma⟩]) = s.stock - lo + ma := by
            rw [sumS_append, s1]
            show _ + (ma + 0) = _
            omega
          have e2 : ∀ p ∈ drainS F lo ++ [(⟨k, ma⟩ : Sp)], 0 ≤ p.hi := fun p hp => by have := (d2.each p hp).1; omega
          refine ⟨d2.drain n0, ?_, ?_, fun _ => hln, ?_⟩
          · rw [sumS_drain e2 n0 (by omega), s2]
            show _ = s.stock + (ma - lo) - n
            omega
          · show 0 ≤ s.stock + (ma - lo) - n ∧ s.stock + (ma - lo) - n ≤ store
            omega
          · refine Nat.le_trans (drainS_len _ _) ?_
            have := drainS_len F lo
            simp
            omega
        · rw [if_neg hp]
          have d1 := (i1.drain (mu := lo + n) (by omega)).none hp
          refine ⟨d1, ?_, ?_, fun _ => hln, ?_⟩
          · rw [sumS_drain e1 (by omega) (by omega), i2]
            show _ = s.stock + (ma - lo) - n
            omega
          · show 0 ≤ s.stock + (ma - lo) - n ∧ s.stock + (ma - lo) - n ≤ store
            omega
          · have := drainS_len F (lo + n)
            omega
    · rw [if_neg hf, if_neg hf]
      exact ⟨i1, i2, i3, fun h => absurd h hf, by omega⟩

/-- The contract of drained over piles. -/
theorem drained_piles (a : Option Addr) (F : List Sp) (n cap : Nat) (much : Int) (w : World) (hx : IntSl w a (flatS F)) (hn : F.length = n) (hna : a = none → n = 0) (hnc : n ≤ cap) (hl : n ≤ 1000) (hm : 0 ≤ much ∧ much ≤ 10000000) (hf : ∀ p ∈ F, 0 ≤ p.hi ∧ p.hi ≤ 10000000) :
    Calls Try.prog 138 #[.slice a n cap, .int .i64 much] w (OutPiles w (drainS F much).length (flatS (drainS F much))) := by
  refine (drained_tells a (flatS F) n cap much w hx (by rw [flatS_len, hn]) hna hnc hl hm (fun k hk => ?_)).mono ?_
  · have h := List.getElem?_eq_getElem (show k < F.length by omega)
    rw [(flatS_get h).2, Option.getD_some]
    exact hf _ (List.getElem_mem _)
  · rintro e w' ⟨n', h1, h2⟩
    rw [drain_flat] at h1 h2
    have : n' = (drainS F much).length := by have := flatS_len (drainS F much); omega
    rw [← this]
    exact h2
theorem sl_of_flat {w : World} {a : Option Addr} {F : List Sp} (h : IntSl w a (flatS F)) : Sl 2 Sp.cells w a F := fun h0 => by
  obtain ⟨b, off, e, hb, hc⟩ := h (by rw [flatS_len]; omega)
  refine ⟨b, off, e, hb, fun j x i u hj hu => ?_⟩
  have hjl : j < F.length := by
    rcases Nat.lt_or_ge j F.length with h | h
    · exact h
    · rw [List.getElem?_eq_none h] at hj; cases hj
  obtain ⟨g1, g2⟩ := flatS_get hj
  match i, hu with
  | 0, hu =>
    simp [Sp.cells] at hu
    subst hu
    have := hc (j * 2) (by rw [flatS_len]; omega)
    rw [g1] at this
    exact this
  | 1, hu =>
    simp [Sp.cells] at hu
    subst hu
    have := hc (j * 2 + 1) (by rw [flatS_len]; omega)
    rw [g2] at this
    rw [Nat.add_assoc]
    exact this
  | i + 2, hu => simp [Sp.cells] at hu
theorem getD_pos {M : List Int} (h : ∀ x ∈ M, 0 ≤ x ∧ x ≤ 100000) (k : Nat) : 0 ≤ M[k]?.getD 0 := by
  rcases Nat.lt_or_ge k M.length with hk | hk
  · rw [List.getElem?_eq_getElem hk]; exact (h _ (List.getElem_mem _)).1
  · rw [getD_none hk]; exact Int.le_refl _
theorem pil_bd {st0 stk : Int} {made : List Int} {F : List Sp} (h : Pil st0 made F ∧ sumS F = stk) (hs : stk ≤ 1000000) : ∀ p ∈ F, 0 ≤ p.hi ∧ p.hi ≤ 10000000 := fun p hp => by
  have e1 : ∀ p ∈ F, 0 ≤ p.hi := fun p hp => by have := (h.1.each p hp).1; omega
  have := (sumS_le e1).2 p hp
  have := e1 p hp
  have := h.2
  omega
theorem pil_bd2 {st0 stk lo ma k : Int} {made : List Int} {F : List Sp} (h : Pil st0 made F ∧ sumS F = stk) (hl : 0 ≤ lo ∧ lo ≤ stk) (hm : 0 < ma) (hs : stk - lo + ma ≤ 1000000) : ∀ p ∈ drainS F lo ++ [(⟨k, ma⟩ : Sp)], 0 ≤ p.hi ∧ p.hi ≤ 10000000 := fun p hp => by
  have e1 : ∀ p ∈ F, 0 ≤ p.hi := fun p hp => by have := (h.1.each p hp).1; omega
  have e2 : ∀ p ∈ drainS F lo ++ [(⟨k, ma⟩ : Sp)], 0 ≤ p.hi := fun p hp => by
    rcases List.mem_append.1 hp with hp | hp
    · have := ((h.1.drain hl.1).each p hp).1; omega
    · have : p = ⟨k, ma⟩ := by simpa using hp
      subst this
      show 0 ≤ ma
      omega
  have h1 : sumS (drainS F lo ++ [(⟨k, ma⟩ : Sp)]) = stk - lo + ma := by
    rw [sumS_append, sumS_drain e1 hl.1 (by rw [h.2]; exact hl.2), h.2]
    show _ + (ma + 0) = _
    omega
  have := (sumS_le e2).2 p hp
  have := e2 p hp
  omega
end Go.Proofs.Ytpkegiekpnaejaa

namespace Go.Proofs.Ytpkegiekpnaejaa
open Go.RowKit Go.Shelf
attribute [local go_sem] Oper.semAt_some

/-- What play's memory holds, with the piles F. -/
structure PV (w : World) (T : Nat) (sp : Value) (s : Ps) (F : List Sp) (k : Nat) (wr : World) : Prop where
  b : Below w.heap.size w wr
  hT : w.heap.size + 2 ≤ T
  sp : wr.heap[w.heap.size]? = some (.cells sp.cells 157 (0, 0))
  rs : wr.heap[w.heap.size + 1]? = some (.cells #[.slice none 0 0, .slice none 0 0, .slice none 0 0, .int .i64 0, .int .i64 0] 146 (0, 0))
  t : ∃ (sl ml pl : Value), PT w T s k wr sl ml pl F.length (flatS F)
/-- What play hands back: lists that are new, the piles told. -/
def OutTaleP (w : World) (s : Ps) (F : List Sp) (e : Ending) (w' : World) : Prop := ∃ sa sc ma mc pa pc, e = .returned (.agg #[.slice sa s.stocks.length sc, .slice ma s.made.length mc, .slice pa F.length pc, .int .i64 s.fails, .int .i64 s.full]) ∧ (IntSl w' sa s.stocks ∧ ∀ p, sa = some p → w.heap.size ≤ p.block) ∧ (IntSl w' ma s.made ∧ ∀ p, ma = some p → w.heap.size ≤ p.block) ∧ (IntSl w' pa (flatS F) ∧ ∀ p, pa = some p → w.heap.size ≤ p.block) ∧ Below w.heap.size w w'
/-- What is known of the memory at play's end. -/
theorem PV.end {w : World} {T : Nat} {sp : Value} {s : Ps} {F : List Sp} {k : Nat} {wr : World} (h : PV w T sp s F k wr) : ∃ sa sc ma mc pa pc, wr.heap[T]? = some (.cells #[.slice sa s.stocks.length sc, .slice ma s.made.length mc, .slice pa F.length pc, .int .i64 s.fails, .int .i64 s.full] 146 (0, 0)) ∧
    Hid (((((((wr.setCell ⟨w.heap.size + 1, 0, none⟩ (.slice sa s.stocks.length sc)).setCell ⟨w.heap.size + 1, 1, none⟩ (.slice ma s.made.length mc)).setCell ⟨w.heap.size + 1, 2, none⟩ (.slice pa F.length pc)).setCell ⟨w.heap.size + 1, 3, none⟩ (.int .i64 s.fails)).setCell ⟨w.heap.size + 1, 4, none⟩ (.int .i64 s.full))).heap[w.heap.size + 1]? = some (.cells #[.slice sa s.stocks.length sc, .slice ma s.made.length mc, .slice pa F.length pc, .int .i64 s.fails, .int .i64 s.full] 146 (0, 0))) ∧ Hid (OutTaleP w s F (.returned (.agg #[.slice sa s.stocks.length sc, .slice ma s.made.length mc, .slice pa F.length pc, .int .i64 s.fails, .int .i64 s.full])) (((((wr.setCell ⟨w.heap.size + 1, 0, none⟩ (.slice sa s.stocks.length sc)).setCell ⟨w.heap.size + 1, 1, none⟩ (.slice ma s.made.length mc)).setCell ⟨w.heap.size + 1, 2, none⟩ (.slice pa F.length pc)).setCell ⟨w.heap.size + 1, 3, none⟩ (.int .i64 s.fails)).setCell ⟨w.heap.size + 1, 4, none⟩ (.int .i64 s.full))) := by
  obtain ⟨sl, ml, pl, h1, h2, h3, h4, h5, h6⟩ := h.t
  obtain ⟨sa, sc, rfl, hs, hsf⟩ := ints_of_owns h2
  obtain ⟨ma, mc, rfl, hm, hmf⟩ := ints_of_owns h3
  obtain ⟨pa, pc, rfl, hp, _, hpf, _⟩ := flats_of_owns h4
  refine ⟨sa, sc, ma, mc, pa, pc, h1, ?_⟩
  obtain ⟨a1, a2, a3, a4⟩ := five_put (v0 := .slice sa s.stocks.length sc) (v1 := .slice ma s.made.length mc) (v2 := .slice pa F.length pc) (v3 := .int .i64 s.fails) (v4 := .int .i64 s.full) h.rs (show w.heap.size ≤ w.heap.size + 1 by omega) h.b
  exact ⟨a2, sa, sc, ma, mc, pa, pc, rfl, ⟨ints_put hs (Below.refl _ _) a3 a4 (fun p hp => by have := hsf p hp; have := h.hT; omega), fun p hp => by have := hsf p hp; have := h.hT; omega⟩, ⟨ints_put hm (Below.refl _ _) a3 a4 (fun p hp => by have := hmf p hp; have := h.hT; omega), fun p hp => by have := hmf p hp; have := h.hT; omega⟩, ⟨ints_put hp (Below.refl _ _) a3 a4 (fun p hp => by have := hpf p hp; omega), fun p hp => by have := hpf p hp; omega⟩, a1⟩
theorem PV.free {w : World} {T : Nat} {sp : Value} {s : Ps} {F : List Sp} {k : Nat} {wr : World} (h : PV w T sp s F k wr) : (∀ j, wr.frozen? ⟨w.heap.size + 1, j, none⟩ = false) ∧ (∀ j, wr.frozen? ⟨T, j, none⟩ = false) ∧ w.heap.size + 1 < wr.heap.size ∧ T < wr.heap.size := by
  obtain ⟨sl, ml, pl, h1, _⟩ := h.t
  exact ⟨fun j => blk_free h.rs, fun j => blk_free h1, lt_of_block h.rs, lt_of_block h1⟩

theorem PV.drewN {w : World} {T : Nat} {sp : Value} {s : Ps} {F : List Sp} {k : Nat} {wr : World} (h : PV w T sp s F k wr) (q : Nat) : PV w T sp s F k (wr.drewN q) :=
  ⟨⟨h.b.os, h.b.tape, h.b.output, h.b.size, h.b.block⟩, h.hT, h.sp, h.rs, h.t⟩
/-- A number of the tale is set. -/
theorem PV.put {w : World} {T : Nat} {sp : Value} {s s' : Ps} {F : List Sp} {k : Nat} {wr : World} (h : PV w T sp s F k wr) (j : Nat) (x : Int) (hs : s'.stocks = s.stocks ∧ s'.made = s.made) (hj : (j = 3 ∧ s'.fails = x ∧ s'.full = s.full) ∨ (j = 4 ∧ s'.fails = s.fails ∧ s'.full = x)) : PV w T sp s' F k (wr.setCell ⟨T, j, none⟩ (.int .i64 x)) := by
  obtain ⟨sl, ml, pl, h1, h2, h3, h4, h5, h6⟩ := h.t
  have hT := h.hT
  have hne : ∀ {base e sz v n xs}, wr.ownsRow base e sz v n xs → (e ≠ 146) → v.ownBlock ≠ some T := fun ho he hv => by
    obtain ⟨_, cs, hc⟩ := owns_blk ho hv
    rw [h1] at hc
    cases hc
    exact he rfl
  refine ⟨h.b.setCell (p := ⟨T, j, none⟩) (by show w.heap.size ≤ T; omega) _, hT, blk_other h.sp (by omega), blk_other h.rs (by omega), sl, ml, pl, ?_, ?_, ?_, owns_other h4 (hne h4 (by decide)), h5, h6⟩
  · rcases hj with ⟨rfl, e1, e2⟩ | ⟨rfl, e1, e2⟩ <;> rw [e1, e2] <;> exact blk_setCell h1
  · rw [hs.1]; exact owns_other h2 (hne h2 (by decide))
  · rw [hs.2]; exact owns_other h3 (hne h3 (by decide))

theorem PV.piles {w W w5 : World} {T : Nat} {sp : Value} {s : Ps} {F F' : List Sp} {k k' : Nat} (h : PV w T sp s F k W) (hb : Below W.heap.size W w5) {v : Value} (ho : w5.ownsRow W.heap.size 106 2 v F'.length ((flatS F').map (Value.int .i64))) (hn : F'.length ≤ k' + 1) : PV w T sp s F' k' (w5.setCell ⟨T, 2, none⟩ v) := by
  obtain ⟨sl, ml, pl, h1, h2, h3, h4, h5, h6⟩ := h.t
  have hT := h.hT
  have hTW := lt_of_block h1
  have hne : ∀ {base e sz v n xs}, W.ownsRow base e sz v n xs → (e ≠ 146) → v.ownBlock ≠ some T := fun ho he hv => by
    obtain ⟨_, cs, hc⟩ := owns_blk ho hv
    rw [h1] at hc
    cases hc
    exact he rfl
  exact ⟨(below_self h.b hb).setCell (p := ⟨T, 2, none⟩) (by show w.heap.size ≤ T; omega) _, hT, blk_other (blk_below h.sp hb) (by omega), blk_other (blk_below h.rs hb) (by omega), sl, ml, v, blk_setCell (blk_below h1 hb), owns_other (owns_below h2 hb) (hne h2 (by decide)), owns_other (owns_below h3 hb) (hne h3 (by decide)), owns_other (owns_mono ho (by omega)) (fun hv => by have := (ho.lt _ hv).1; omega), hn, h6⟩
theorem PV.push0 {w W w' : World} {T : Nat} {sp : Value} {s : Ps} {F : List Sp} {k : Nat} (h : PV w T sp s F k W) {sl ml pl : Value} (ht : PT w T s k W sl ml pl F.length (flatS F)) (o : Obj) {v' : Value} {x : Int}
    (ho : w'.ownsRow (T + 1) 3 1 v' (s.stocks.length + 1) (s.stocks.map (Value.int .i64) ++ [.int .i64 x])) (hg : (W.alloc o).grownBy w' sl.ownBlock) (hv : v'.ownBlock = sl.ownBlock ∨ v'.ownBlock = some (W.alloc o).heap.size) :
    PV w T sp ⟨s.stock, s.stocks ++ [x], s.made, s.fails, s.full⟩ F k (w'.setCell ⟨T, 0, none⟩ v') ∧ PT w T ⟨s.stock, s.stocks ++ [x], s.made, s.fails, s.full⟩ k (w'.setCell ⟨T, 0, none⟩ v') v' ml pl F.length (flatS F) ∧ w'.heap[T]? = W.heap[T]? := by
  obtain ⟨h1, h2, h3, h4, h5, h6⟩ := ht
  have hT := h.hT
  have hTW := lt_of_block h1
  have hsl : ∀ i, sl.ownBlock = some i → T + 1 ≤ i := fun i hi => (h2.lt i hi).1
  have keep : ∀ j, j < W.heap.size → some j ≠ sl.ownBlock → w'.heap[j]? = W.heap[j]? := fun j hj hn => (hg.block j (by rw [World.size_alloc]; omega) hn).trans (heap_alloc_old W o hj)
  have low : ∀ j, j ≤ T → w'.heap[j]? = W.heap[j]? := fun j hj => keep j (by omega) (fun e => by have := hsl j e.symm; omega)
  have hne : ∀ {base e sz v n xs}, W.ownsRow base e sz v n xs → (e ≠ 146) → v.ownBlock ≠ some T := fun ho he hv => by
    obtain ⟨_, cs, hc⟩ := owns_blk ho hv
    rw [h1] at hc
    cases hc
    exact he rfl
  have hml : ml.ownBlock = none ∨ ml.ownBlock ≠ sl.ownBlock := by
    cases hm : ml.ownBlock with
    | none => exact .inl rfl
    | some i => exact .inr (fun e => h6 i e.symm hm)
  have hpl : pl.ownBlock = none ∨ pl.ownBlock ≠ sl.ownBlock := by
    cases hm : pl.ownBlock with
    | none => exact .inl rfl
    | some i =>
      refine .inr (fun e => ?_)
      obtain ⟨_, c1, e1⟩ := owns_blk h4 hm
      obtain ⟨_, c2, e2⟩ := owns_blk h2 e.symm
      rw [e1] at e2; cases e2
  have PTN : PT w T ⟨s.stock, s.stocks ++ [x], s.made, s.fails, s.full⟩ k (w'.setCell ⟨T, 0, none⟩ v') v' ml pl F.length (flatS F) := by
    refine ⟨blk_setCell ((low T (Nat.le_refl _)).trans h1), ?_, owns_other ((h3.alloc o).kept hg hml) (hne h3 (by decide)), owns_other ((h4.alloc o).kept hg hpl) (hne h4 (by decide)), h5, ?_⟩
    · have e1 : (s.stocks ++ [x]).length = s.stocks.length + 1 := by simp
      have e2 : (s.stocks ++ [x]).map (Value.int .i64) = s.stocks.map (Value.int .i64) ++ [.int .i64 x] := by simp
      show World.ownsRow _ _ _ _ _ (s.stocks ++ [x]).length ((s.stocks ++ [x]).map (Value.int .i64))
      rw [e1, e2]
      exact owns_other ho (fun hv' => by have := (ho.lt _ hv').1; omega)
    · intro i hi hm
      rcases hv with hv | hv
      · exact h6 i (by rw [← hv]; exact hi) hm
      · rw [hv] at hi; cases hi
        have := (h3.lt _ hm).2
        rw [World.size_alloc] at this; omega
  exact ⟨⟨((h.b.alloc h.b.size o).grown hg (by rw [World.size_alloc]; have := h.b.size; omega) (fun i hi => by have := hsl i hi; omega)).setCell (p := ⟨T, 0, none⟩) (by show w.heap.size ≤ T; omega) _, hT, blk_other ((low _ (by omega)).trans h.sp) (by omega), blk_other ((low _ (by omega)).trans h.rs) (by omega), _, _, _, PTN⟩, PTN, low T (Nat.le_refl _)⟩
theorem PV.push1 {w W w' : World} {T : Nat} {sp : Value} {s : Ps} {F : List Sp} {k : Nat} (h : PV w T sp s F k W) {sl ml pl : Value} (ht : PT w T s k W sl ml pl F.length (flatS F)) (o : Obj) {v' : Value} {x : Int}
    (ho : w'.ownsRow (T + 1) 3 1 v' (s.made.length + 1) (s.made.map (Value.int .i64) ++ [.int .i64 x])) (hg : (W.alloc o).grownBy w' ml.ownBlock) (hv : v'.ownBlock = ml.ownBlock ∨ v'.ownBlock = some (W.alloc o).heap.size) :
    PV w T sp ⟨s.stock, s.stocks, s.made ++ [x], s.fails, s.full⟩ F k (w'.setCell ⟨T, 1, none⟩ v') ∧ w'.heap[T]? = W.heap[T]? := by
  obtain ⟨h1, h2, h3, h4, h5, h6⟩ := ht
  have hT := h.hT
  have hTW := lt_of_block h1
  have hsl : ∀ i, ml.ownBlock = some i → T + 1 ≤ i := fun i hi => (h3.lt i hi).1
  have keep : ∀ j, j < W.heap.size → some j ≠ ml.ownBlock → w'.heap[j]? = W.heap[j]? := fun j hj hn => (hg.block j (by rw [World.size_alloc]; omega) hn).trans (heap_alloc_old W o hj)
  have low : ∀ j, j ≤ T → w'.heap[j]? = W.heap[j]? := fun j hj => keep j (by omega) (fun e => by have := hsl j e.symm; omega)
  have hne : ∀ {base e sz v n xs}, W.ownsRow base e sz v n xs → (e ≠ 146) → v.ownBlock ≠ some T := fun ho he hv => by
    obtain ⟨_, cs, hc⟩ := owns_blk ho hv
    rw [h1] at hc
    cases hc
    exact he rfl
  have hml : sl.ownBlock = none ∨ sl.ownBlock ≠ ml.ownBlock := by
    cases hm : sl.ownBlock with
    | none => exact .inl rfl
    | some i => exact .inr (fun e => h6 i hm e.symm)
  have hpl : pl.ownBlock = none ∨ pl.ownBlock ≠ ml.ownBlock := by
    cases hm : pl.ownBlock with
    | none => exact .inl rfl
    | some i =>
      refine .inr (fun e => ?_)
      obtain ⟨_, c1, e1⟩ := owns_blk h4 hm
      obtain ⟨_, c2, e2⟩ := owns_blk h3 e.symm
      rw [e1] at e2; cases e2
  have PTN : PT w T ⟨s.stock, s.stocks, s.made ++ [x], s.fails, s.full⟩ k (w'.setCell ⟨T, 1, none⟩ v') sl v' pl F.length (flatS F) := by
    refine ⟨blk_setCell ((low T (Nat.le_refl _)).trans h1), owns_other ((h2.alloc o).kept hg hml) (hne h2 (by decide)), ?_, owns_other ((h4.alloc o).kept hg hpl) (hne h4 (by decide)), h5, ?_⟩
    · have e1 : (s.made ++ [x]).length = s.made.length + 1 := by simp
      have e2 : (s.made ++ [x]).map (Value.int .i64) = s.made.map (Value.int .i64) ++ [.int .i64 x] := by simp
      show World.ownsRow _ _ _ _ _ (s.made ++ [x]).length ((s.made ++ [x]).map (Value.int .i64))
      rw [e1, e2]
      exact owns_other ho (fun hv' => by have := (ho.lt _ hv').1; omega)
    · intro i hi hm
      rcases hv with hv | hv
      · exact h6 i hi (by rw [← hv]; exact hm)
      · rw [hv] at hm; cases hm
        have := (h2.lt _ hi).2
        rw [World.size_alloc] at this; omega
  exact ⟨⟨((h.b.alloc h.b.size o).grown hg (by rw [World.size_alloc]; have := h.b.size; omega) (fun i hi => by have := hsl i hi; omega)).setCell (p := ⟨T, 1, none⟩) (by show w.heap.size ≤ T; omega) _, hT, blk_other ((low _ (by omega)).trans h.sp) (by omega), blk_other ((low _ (by omega)).trans h.rs) (by omega), _, _, _, PTN⟩, low T (Nat.le_refl _)⟩
end Go.Proofs.Ytpkegiekpnaejaa
