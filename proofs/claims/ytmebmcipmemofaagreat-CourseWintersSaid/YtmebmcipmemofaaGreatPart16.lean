/-
What the reference reckons, day by day, is what the program's play and its proofs say.
  What is proved: a day of the reference is a step of the play; the least number that a search by halves finds is the least one; what a proof lacks, day by day.
  Conditions: each lemma states its own.
The contract of the reference's Happens over this seat's program.
  What is proved: it hands back the stocks, what is made, and the day that fails, as the play has them.
  Conditions: at most 60 days of small numbers.
The contract of klisterkit.Equal for days over this seat's program.
  What is proved: it tells whether two lists of days are the same.
  Conditions: slices of at most 1000000 elements.
The contracts of klisterkit.Clone for days, CloneWinter, Winter and same over this seat's program.
  What is proved: copies read as what is copied; a winter is converted to the reference's; winters are compared.
  Conditions: at most 1000 days.
The contracts of slices.ContainsFunc for lists of lists, and of CourseListed's own function.
  What is proved: they tell whether some list is asked for, and whether a list is among others; nothing that was there has turned.
  Conditions: lists of at most 1000000 lists of at most 1000000 numbers.
The contracts of long, alike and CloneWeather over this seat's program.
  What is proved: whether lists are too long; a weather is like itself; a copy reads as what is copied.
  Conditions: lists of at most 1000 numbers.
-/
import Derived.Test.YtmebmcipmemofaaGreatPart15
namespace Go.Proofs.YtmebmcipmemofaaGreat
open Go.RowKit Go.Shelf

/-- What is there behind the loss. -/
def restD (s l : Int) : Int := if s - l < 0 then 0 else s - l
/-- What is made. -/
def makeD (store s m : Int) : Int := if store < s + m then store - s else m

theorem rest_lost (s l : Int) : restD s l = s - lostD s l := by
  unfold restD lostD; split <;> omega
theorem make_made (store s m l : Int) : makeD store (restD s l) m = madeD store s m l := by
  unfold makeD madeD
  rw [rest_lost]
  split <;> omega

theorem play_goes {stock store : Int} {N M L : List Int} {k : Nat} (h : (playL stock store N M L k).fails = -1)
    (h2 : ¬ restD (playL stock store N M L k).stock (L[k]?.getD 0) + makeD store (restD (playL stock store N M L k).stock (L[k]?.getD 0)) (M[k]?.getD 0) - N[k]?.getD 0 < 0) :
    (playL stock store N M L (k + 1)).stock = restD (playL stock store N M L k).stock (L[k]?.getD 0) + makeD store (restD (playL stock store N M L k).stock (L[k]?.getD 0)) (M[k]?.getD 0) - N[k]?.getD 0 ∧
    (playL stock store N M L (k + 1)).stocks = (playL stock store N M L k).stocks ++ [restD (playL stock store N M L k).stock (L[k]?.getD 0) + makeD store (restD (playL stock store N M L k).stock (L[k]?.getD 0)) (M[k]?.getD 0) - N[k]?.getD 0] ∧
    (playL stock store N M L (k + 1)).made = (playL stock store N M L k).made ++ [makeD store (restD (playL stock store N M L k).stock (L[k]?.getD 0)) (M[k]?.getD 0)] ∧
    (playL stock store N M L (k + 1)).fails = -1 := by
  rw [playL_succ]
  generalize playL stock store N M L k = a at *
  generalize N[k]?.getD 0 = n at *
  generalize M[k]?.getD 0 = m at *
  generalize L[k]?.getD 0 = l at *
  rw [make_made, rest_lost] at *
  rw [stepP, if_pos h, if_neg (by omega)]
  refine ⟨by show _ - _ = _; omega, ?_, rfl, rfl⟩
  show _ ++ _ = _
  congr 2
  omega
theorem play_stops {stock store : Int} {N M L : List Int} {k n : Nat} (h : (playL stock store N M L k).fails = -1) (hk : k < n)
    (h2 : restD (playL stock store N M L k).stock (L[k]?.getD 0) + makeD store (restD (playL stock store N M L k).stock (L[k]?.getD 0)) (M[k]?.getD 0) - N[k]?.getD 0 < 0) :
    (playL stock store N M L n).stocks = (playL stock store N M L k).stocks ∧ (playL stock store N M L n).made = (playL stock store N M L k).made ∧ (playL stock store N M L n).fails = k := by
  have hs : (playL stock store N M L (k + 1)).stocks = (playL stock store N M L k).stocks ∧ (playL stock store N M L (k + 1)).made = (playL stock store N M L k).made ∧ (playL stock store N M L (k + 1)).fails = k := by
    rw [playL_succ]
    generalize playL stock store N M L k = a at *
    generalize N[k]?.getD 0 = n at *
    generalize M[k]?.getD 0 = m at *
    generalize L[k]?.getD 0 = l at *
    rw [make_made, rest_lost] at h2
    rw [stepP, if_pos h, if_pos (by omega)]
    exact ⟨rfl, rfl, rfl⟩
  rw [playL_stop stock store N M L (k + 1) (by rw [hs.2.2]; omega) n (by omega)]
  exact hs
/-- While no day has failed the stock lies in the store. -/
theorem play_within {stock store : Int} {N M L : List Int} (hs : 0 ≤ stock ∧ stock ≤ store) (hb : (∀ k : Nat, 0 ≤ N[k]?.getD 0) ∧ (∀ k : Nat, 0 ≤ M[k]?.getD 0) ∧ (∀ k : Nat, 0 ≤ L[k]?.getD 0)) (k : Nat) : (playL stock store N M L k).fails = -1 → 0 ≤ (playL stock store N M L k).stock ∧ (playL stock store N M L k).stock ≤ store := by
  induction k with
  | zero => intro _; exact hs
  | succ k ih =>
    intro hf
    by_cases h : (playL stock store N M L k).fails = -1
    · by_cases h2 : restD (playL stock store N M L k).stock (L[k]?.getD 0) + makeD store (restD (playL stock store N M L k).stock (L[k]?.getD 0)) (M[k]?.getD 0) - N[k]?.getD 0 < 0
      · rw [(play_stops (n := k + 1) h (by omega) h2).2.2] at hf
        omega
      · obtain ⟨h3, _⟩ := play_goes h h2
        obtain ⟨i1, i2⟩ := ih h
        have n1 := hb.1 k
        have n2 := hb.2.1 k
        have n3 := hb.2.2 k
        rw [h3]
        refine ⟨by omega, ?_⟩
        have : restD (playL stock store N M L k).stock (L[k]?.getD 0) ≤ store := by unfold restD; split <;> omega
        unfold makeD
        split <;> omega
    · rw [playL_stop stock store N M L k h (k + 1) (by omega)] at hf
      exact absurd hf h

theorem fails_range (stock store : Int) (N M L : List Int) (k : Nat) : (playL stock store N M L k).fails = -1 ∨ 0 ≤ (playL stock store N M L k).fails := by
  induction k with
  | zero => exact .inl rfl
  | succ k ih =>
    by_cases h : (playL stock store N M L k).fails = -1
    · by_cases h2 : restD (playL stock store N M L k).stock (L[k]?.getD 0) + makeD store (restD (playL stock store N M L k).stock (L[k]?.getD 0)) (M[k]?.getD 0) - N[k]?.getD 0 < 0
      · rw [(play_stops (n := k + 1) h (by omega) h2).2.2]
        exact .inr (by omega)
      · exact .inl (play_goes h h2).2.2.2
    · rw [playL_stop stock store N M L k h (k + 1) (by omega)]
      exact ih

/-- The least number is one. -/
theorem least_one {n : Nat} {p : Nat → Bool} {r s : Nat} (h1 : LeastOf n p r) (h2 : LeastOf n p s) : r = s := by
  obtain ⟨a1, b1, c1⟩ := h1
  obtain ⟨a2, b2, c2⟩ := h2
  rcases Nat.lt_trichotomy r s with h | h | h
  · have := b2 r h
    rw [c1 r (Nat.le_refl _) (by omega)] at this
    cases this
  · exact h
  · have := b1 s h
    rw [c2 s (Nat.le_refl _) (by omega)] at this
    cases this

/-- What the reference has left at the head of day i. -/
def refL (store pf : Int) (N M L : List Int) (stock : Int) : Nat → Int
  | 0 => stock
  | i + 1 => if (i : Int) < pf then refL store pf N M L stock i else atMostL store pf M L i (refL store pf N M L stock i) - N[i]?.getD 0

theorem refL_wait (store pf : Int) (N M L : List Int) (stock : Int) (i : Nat) (h : (i : Int) ≤ pf ∨ i = 0) : refL store pf N M L stock i = stock := by
  induction i with
  | zero => rfl
  | succ i ih =>
    have : (i : Int) < pf := by omega
    rw [refL, if_pos this]
    exact ih (by omega)
theorem refL_lack (store pf : Int) (N M L : List Int) (stock : Int) (hp : -1 ≤ pf) (j : Nat) (h : ∀ i, i < j → 0 ≤ refL store pf N M L stock (pf.toNat + i + 1)) : lackS store pf N M L pf.toNat stock j = some (refL store pf N M L stock (pf.toNat + j)) := by
  induction j with
  | zero => rw [lackS, refL_wait]; omega
  | succ j ih =>
    rw [lackS, ih (fun i hi => h i (by omega))]
    have h1 := h j (by omega)
    rw [show pf.toNat + (j + 1) = pf.toNat + j + 1 by omega]
    rw [refL, if_neg (by omega)] at h1 ⊢
    show (if _ then _ else _) = _
    rw [if_neg (by omega)]
theorem refL_none (store pf : Int) (N M L : List Int) (stock : Int) (hp : -1 ≤ pf) (j : Nat) (h : ∀ i, i < j → 0 ≤ refL store pf N M L stock (pf.toNat + i + 1)) (hn : refL store pf N M L stock (pf.toNat + j + 1) < 0) (m : Nat) (hm : j < m) : lackS store pf N M L pf.toNat stock m = none := by
  refine lackS_none store pf N M L pf.toNat stock (j + 1) ?_ m (by omega)
  rw [lackS, refL_lack store pf N M L stock hp j h]
  rw [refL, if_neg (by omega)] at hn
  show (if _ then _ else _) = _
  rw [if_pos hn]

/-- The answer of the reference, when all days before the last have gone well. -/
theorem refL_end {stock store pf : Int} {N M L : List Int} {pd : Nat} (hp : -1 ≤ pf ∧ pf ≤ pd) (h : ∀ i, i < pd → 0 ≤ refL store pf N M L stock (i + 1) ∨ (i : Int) < pf) :
    lackR stock store pf N M L pd = (-(refL store pf N M L stock (pd + 1)), decide (refL store pf N M L stock (pd + 1) < 0)) := by
  have hd : pf.toNat ≤ pd := by omega
  have h1 := refL_lack store pf N M L stock hp.1 (pd - pf.toNat) (fun i hi => by
    rcases h (pf.toNat + i) (by omega) with h | h
    · exact h
    · omega)
  rw [show pf.toNat + (pd - pf.toNat) = pd by omega] at h1
  unfold lackR
  rw [h1]
  show (_, _) = (_, _)
  have h2 : refL store pf N M L stock (pd + 1) = atMostL store pf M L pd (refL store pf N M L stock pd) - N[pd]?.getD 0 := by
    rw [refL, if_neg (by omega)]
  rw [h2]
  congr 1
  · omega
  · exact decide_eq_decide.2 (by omega)
/-- The answer of the reference, when a day before the last has failed. -/
theorem refL_early {stock store pf : Int} {N M L : List Int} {pd i : Nat} (hp : -1 ≤ pf ∧ pf ≤ pd) (hi : i < pd) (hpi : ¬ (i : Int) < pf) (h : ∀ k, k < i → 0 ≤ refL store pf N M L stock (k + 1) ∨ (k : Int) < pf) (hn : refL store pf N M L stock (i + 1) < 0) :
    lackR stock store pf N M L pd = (0, false) := by
  obtain ⟨j, hj⟩ : ∃ j, i = pf.toNat + j := ⟨i - pf.toNat, by omega⟩
  subst hj
  have h1 := refL_none store pf N M L stock hp.1 j (fun k hk => by
    rcases h (pf.toNat + k) (by omega) with h | h
    · exact h
    · omega) hn (pd - pf.toNat) (by omega)
  unfold lackR
  rw [h1]
/-- How what is left is reckoned. -/
theorem refL_has (store pf : Int) (N M L : List Int) (stock : Int) (i : Nat) (h : ¬ (i : Int) < pf) :
    refL store pf N M L stock (i + 1) = (if (i : Int) = pf then store else if L[i]?.getD 0 < refL store pf N M L stock i then M[i]?.getD 0 + refL store pf N M L stock i - L[i]?.getD 0 else M[i]?.getD 0) - N[i]?.getD 0 := by
  rw [refL, if_neg h]
  unfold atMostL
  split
  · rfl
  · split <;> split <;> omega
end Go.Proofs.YtmebmcipmemofaaGreat

namespace Go.Proofs.YtmebmcipmemofaaGreat
open Go.RowKit Go.Shelf
attribute [local go_sem] Oper.semAt_some

theorem getD_small {xs : List Int} (h : ∀ x ∈ xs, 0 ≤ x ∧ x ≤ 100000) (k : Nat) : 0 ≤ xs[k]?.getD 0 ∧ xs[k]?.getD 0 ≤ 100000 := by
  cases e : xs[k]? with
  | none => exact ⟨Int.le_refl _, by show (0 : Int) ≤ _; omega⟩
  | some x => exact h x (List.mem_of_getElem? e)
/-- The first list has grown. -/
theorem TQ.more {w0 W W' : World} {base : Nat} {vN vM vL v' : Value} {N M L : List Int} (h : TQ w0 W base vN vM vL N M L) {x : Int} (ho : W'.ownsRow base 3 1 v' (N.length + 1) (N.map (Value.int .i64) ++ [.int .i64 x])) (hg : W.grownBy W' vN.ownBlock) (hat : v'.ownBlock = vN.ownBlock ∨ v'.ownBlock = some W.heap.size) :
    TQ w0 W' base v' vM vL (N ++ [x]) M L := by
  have ho' := ho
  rcases ho.2 with ⟨rfl, h0⟩ | ⟨g, c, cur, rfl, _⟩
  · exact absurd h0 (by omega)
  · refine h.push ho' hg ?_
    rcases hat with h1 | h1
    · exact .inl (by rw [← h1]; rfl)
    · refine .inr ?_
      have : some g = some W.heap.size := h1
      simpa using this
/-- A call that hands back what a play tells. -/
def OutHap (w : World) (s : Ps) (e : Ending) (w' : World) : Prop := ∃ sa sc ma mc, e = .returned (.tuple #[.slice sa s.stocks.length sc, .slice ma s.made.length mc, .int .i64 s.fails]) ∧ IntSl w' sa s.stocks ∧ IntSl w' ma s.made ∧ Below w.heap.size w w'

set_option maxRecDepth 100000 in
set_option maxHeartbeats 8000000 in
theorem happens_any (stock store : Int) (a : Option Addr) (n cap : Nat) (an : Option Addr) (N : List Int) (cn : Nat) (am : Option Addr) (M : List Int) (cm : Nat) (al : Option Addr) (L : List Int) (cl : Nat) (w : World)
    (hN : IntSl w an N) (hM : IntSl w am M) (hL : IntSl w al L) (hNn : N.length = n) (hMn : M.length = n) (hLn : L.length = n) (hn : n ≤ 60) (hst : 0 ≤ stock ∧ stock ≤ store ∧ store ≤ 1000000)
    (hb : (∀ x ∈ N, 0 ≤ x ∧ x ≤ 100000) ∧ (∀ x ∈ M, 0 ≤ x ∧ x ≤ 100000) ∧ (∀ x ∈ L, 0 ≤ x ∧ x ≤ 100000)) :
    Calls Tryz.prog 40 #[wv stock store a n cap, .slice an N.length cn, .slice am M.length cm, .slice al L.length cl] w (OutHap w (playL stock store N M L n)) := by
  obtain ⟨i0, hi, hz0, hz1, hz2⟩ := info_parts Tryz.info3
  have hB0 : Below w.heap.size w (w.alloc (.cells #[.int .i64 stock, .int .i64 store, .slice a n cap] 64)) := (Below.refl _ _).alloc (Nat.le_refl _) _
  have hR0 : (w.alloc (.cells #[.int .i64 stock, .int .i64 store, .slice a n cap] 64)).heap[w.heap.size]? = some (.cells #[.int .i64 stock, .int .i64 store, .slice a n cap] 64 (0, 0)) := heap_alloc_new _ _
  have hz : (w.alloc (.cells #[.int .i64 stock, .int .i64 store, .slice a n cap] 64)).heap.size = w.heap.size + 1 := by simp
  have HX := Lib.hid (And.intro hN (And.intro hM hL))
  have HL := Lib.hid (And.intro hNn (And.intro hMn hLn))
  have HN := Lib.hid hn
  have HS := Lib.hid hst
  have HBD := Lib.hid hb
  clear hN hM hL hNn hMn hLn hn hst hb
  go_enter Tryz.func40, Tryz.ntmps40
  go_wp2_with (fail)
  have HQ0 : Hid (TQ w (w.alloc (.cells #[.int .i64 stock, .int .i64 store, .slice a n cap] 64)) (w.heap.size + 1) (.slice none 0 0) (.slice none 0 0) (.slice none 0 0) [] [] [] ∧ (w.alloc (.cells #[.int .i64 stock, .int .i64 store, .slice a n cap] 64)).heap[w.heap.size]? = some (.cells #[.int .i64 stock, .int .i64 store, .slice a n cap] 64 (0, 0))) := ⟨⟨hB0, by omega, by omega, ⟨World.ownsRow_nil _ _ _ _, World.ownsRow_nil _ _ _ _, World.ownsRow_nil _ _ _ _, (by intro i hi; cases hi), (by intro i hi; cases hi), (by intro i hi; cases hi)⟩⟩, hR0⟩
  generalize w.alloc (.cells #[.int .i64 stock, .int .i64 store, .slice a n cap] 64) = Wb at HQ0 hB0 hR0 hz ⊢
  clear hB0 hR0 hz
  go_loopw [11, 12, 13, 14] (fun v11 v12 v13 i wr => ∃ (k : Nat) (vN vM : Value) (s : Int) (NS MS : List Int), vN = v11 ∧ vM = v12 ∧ v13 = .int .i64 s ∧ i = .int .i64 k ∧ k ≤ n ∧ Hid (TQ w wr (w.heap.size + 1) vN vM (.slice none 0 0) NS MS [] ∧ wr.heap[w.heap.size]? = some (.cells #[.int .i64 stock, .int .i64 store, .slice a n cap] 64 (0, 0))) ∧ Hid ((playL stock store N M L k).fails = -1 ∧ (playL stock store N M L k).stock = s ∧ (playL stock store N M L k).stocks = NS ∧ (playL stock store N M L k).made = MS)) (fun _ _ _ i _ => n - (intOf i).toNat)
  case atStart => exact ⟨0, _, _, stock, [], [], rfl, rfl, rfl, rfl, Nat.zero_le _, HQ0.out, ⟨rfl, rfl, rfl, rfl⟩⟩
  case round =>
    obtain ⟨k, vN, vM, s, NS, MS, rfl, rfl, rfl, rfl, hk, hR, hE⟩ := hrel
    have b1 := blk_cell hR.out.2 1 rfl
    have b2 := blk_cell hR.out.2 2 rfl
    by_cases hlt : k < n
    · obtain ⟨bN, oN, rfl, hbN, hcN⟩ := HX.out.1 (by have := HL.out.1; omega)
      obtain ⟨bM, oM, rfl, hbM, hcM⟩ := HX.out.2.1 (by have := HL.out.2.1; omega)
      obtain ⟨bL, oL, rfl, hbL, hcL⟩ := HX.out.2.2 (by have := HL.out.2.2; omega)
      have xN := (hR.out.1.b.cell (p := ⟨bN, oN + k, none⟩) hbN).trans (hcN k (by have := HL.out.1; omega))
      have xM := (hR.out.1.b.cell (p := ⟨bM, oM + k, none⟩) hbM).trans (hcM k (by have := HL.out.2.1; omega))
      have xL := (hR.out.1.b.cell (p := ⟨bL, oL + k, none⟩) hbL).trans (hcL k (by have := HL.out.2.2; omega))
      have q1 : k < N.length := by have := HL.out.1; omega
      have q2 : k < M.length := by have := HL.out.2.1; omega
      have q3 : k < L.length := by have := HL.out.2.2; omega
      clear hcN hcM hcL
      obtain ⟨hE1, hE2, hE3, hE4⟩ := hE.out
      have HGO := Lib.hid (play_goes (stock := stock) (store := store) (N := N) (M := M) (L := L) hE1)
      have HNO := Lib.hid (play_stops (stock := stock) (store := store) (N := N) (M := M) (L := L) (n := n) hE1 hlt)
      have hw := play_within (stock := stock) (store := store) (N := N) (M := M) (L := L) ⟨HS.out.1, HS.out.2.1⟩ ⟨fun k => (getD_small HBD.out.1 k).1, fun k => (getD_small HBD.out.2.1 k).1, fun k => (getD_small HBD.out.2.2 k).1⟩ k hE1
      rw [hE2] at hw
      rw [hE2, hE3, hE4] at HGO
      rw [hE2, hE3, hE4] at HNO
      have hlen := playL_len stock store N M L k
      rw [hE3, hE4] at hlen
      have kN := getD_small HBD.out.1 k
      have kM := getD_small HBD.out.2.1 k
      have kL := getD_small HBD.out.2.2 k
      clear hE1 hE2 hE3 hE4 hE
      generalize N[k]?.getD 0 = xn at *
      generalize M[k]?.getD 0 = xm at *
      generalize L[k]?.getD 0 = xl at *
      have hst := HS.out.2.2
      have hn60 := HN.out
      have e1 : IntKind.i64.wrap (s - xl) = s - xl := IntWalk.i64_in _ (by omega)
      go_upto_if 32 with (fail)
      go_cut [13] (fun v wx => wx = wr ∧ v = .int .i64 (restD s xl))
      case first =>
        by_cases c1 : s - xl < 0
        · have HC : Hid (restD s xl = 0) := if_pos c1
          go_wp2_with (fail)
          go_meet
          exact ⟨rfl, by rw [HC.out]⟩
        · have HC : Hid (restD s xl = s - xl) := if_neg c1
          go_wp2_with (fail)
          go_meet
          exact ⟨rfl, by rw [HC.out]⟩
      case rest =>
        obtain ⟨rfl, rfl⟩ := hcut
        obtain ⟨wr, rfl⟩ : ∃ W : World, W = wc := ⟨_, rfl⟩
        have ht : 0 ≤ restD s xl ∧ restD s xl ≤ store := by unfold restD; split <;> omega
        clear e1 xL
        generalize restD s xl = t at *
        have e2 : IntKind.i64.wrap (t + xm) = t + xm := IntWalk.i64_in _ (by omega)
        have e3 : IntKind.i64.wrap (store - t) = store - t := IntWalk.i64_in _ (by omega)
        go_upto_if 42 with (fail)
        go_cut [15] (fun v wx => wx = wr ∧ v = .int .i64 (makeD store t xm))
        case first =>
          by_cases c1 : store < t + xm
          · have HC : Hid (makeD store t xm = store - t) := if_pos c1
            go_wp2_with (fail)
            go_meet
            exact ⟨rfl, by rw [HC.out]⟩
          · have HC : Hid (makeD store t xm = xm) := if_neg c1
            go_wp2_with (fail)
            go_meet
            exact ⟨rfl, by rw [HC.out]⟩
        case rest =>
          obtain ⟨rfl, rfl⟩ := hcut
          obtain ⟨wr, rfl⟩ : ∃ W : World, W = wc := ⟨_, rfl⟩
          have hq : 0 ≤ makeD store t xm ∧ makeD store t xm ≤ store := by unfold makeD; split <;> omega
          clear e2 e3 xM b1
          generalize makeD store t xm = q at *
          have e4 : IntKind.i64.wrap (t + q) = t + q := IntWalk.i64_in _ (by omega)
          have e5 : IntKind.i64.wrap (t + q - xn) = t + q - xn := IntWalk.i64_in _ (by omega)
          by_cases c3 : t + q - xn < 0
          · have HF := Lib.hid (HNO.out c3)
            obtain ⟨sa, sc, eS, iS, _⟩ := ints_of_owns hR.out.1.r.n
            obtain ⟨ma, mc, eM, iM, _⟩ := ints_of_owns hR.out.1.r.m
            subst eS eM
            have HO := Lib.hid (And.intro iS iM)
            clear iS iM
            go_wp2_with (fail)
            go_ret3
            refine ⟨sa, sc, ma, mc, ?_, ?_, ?_, hR.out.1.b⟩
            · rw [HF.out.1, HF.out.2.1, HF.out.2.2]; rfl
            · rw [HF.out.1]; exact HO.out.1
            · rw [HF.out.2.1]; exact HO.out.2
          · have HG := Lib.hid (HGO.out c3)
            go_upto_region 15 with (fail)
            clear e4 e5 xN b2
            generalize t + q - xn = s2 at *
            have hnb : NS.length ≤ 60 ∧ MS.length ≤ 60 := by omega
            have H0 : Hid (TQ w (wr.alloc (.cells #[.int .i64 s2] 3)) (w.heap.size + 1) vN vM (.slice none 0 0) NS MS [] ∧ (wr.alloc (.cells #[.int .i64 s2] 3)).heap[w.heap.size]? = some (.cells #[.int .i64 stock, .int .i64 store, .slice a n cap] 64 (0, 0))) := ⟨hR.out.1.below ((Below.refl _ _).alloc (Nat.le_refl _) _), alk hR.out.2⟩
            go_wp2_with (at_builtin; refine wpList_append_own_at _ rfl _ _ 27 rfl (w.heap.size + 1) 3 i0 (.int .i64 0) 1 8 Tryz.underlying27 hi hz0 hz1 hz2 rfl (by decide) vN NS.length (NS.map (Value.int .i64)) rfl H0.out.1.r.n ⟨wr.heap.size, 0, none⟩ 1 1 [.int .i64 s2] rfl rfl (cell_one_new _ _ _) (by intro u hu; simp at hu; subst hu; rfl) (by unfold maxLen; omega) (by omega) H0.out.1.hz ?_)
            intro v4 W4 hown hgrow _ hat
            have H1 : Hid (TQ w W4 (w.heap.size + 1) v4 vM (.slice none 0 0) (NS ++ [s2]) MS [] ∧ W4.heap[w.heap.size]? = some (.cells #[.int .i64 stock, .int .i64 store, .slice a n cap] 64 (0, 0))) := ⟨H0.out.1.more hown hgrow (by rw [show (wr.alloc (.cells #[.int .i64 s2] 3)).heap.size = wr.heap.size + 1 from by simp]; exact hat), H0.out.1.keep (by decide) H0.out.2 hgrow⟩
            clear hown hgrow hat H0
            have H2 : Hid (TQ w (W4.alloc (.cells #[.int .i64 q] 3)) (w.heap.size + 1) v4 vM (.slice none 0 0) (NS ++ [s2]) MS [] ∧ (W4.alloc (.cells #[.int .i64 q] 3)).heap[w.heap.size]? = some (.cells #[.int .i64 stock, .int .i64 store, .slice a n cap] 64 (0, 0))) := ⟨H1.out.1.below ((Below.refl _ _).alloc (Nat.le_refl _) _), alk H1.out.2⟩
            clear H1
            go_wp2_with (at_builtin; refine wpList_append_own_at _ rfl _ _ 27 rfl (w.heap.size + 1) 3 i0 (.int .i64 0) 1 8 Tryz.underlying27 hi hz0 hz1 hz2 rfl (by decide) vM MS.length (MS.map (Value.int .i64)) rfl H2.out.1.rot.r.n ⟨W4.heap.size, 0, none⟩ 1 1 [.int .i64 q] rfl rfl (cell_one_new _ _ _) (by intro u hu; simp at hu; subst hu; rfl) (by unfold maxLen; omega) (by omega) H2.out.1.hz ?_)
            intro v5 W5 hown hgrow _ hat
            have H3 : Hid (TQ w W5 (w.heap.size + 1) v5 (.slice none 0 0) v4 (MS ++ [q]) [] (NS ++ [s2]) ∧ W5.heap[w.heap.size]? = some (.cells #[.int .i64 stock, .int .i64 store, .slice a n cap] 64 (0, 0))) := ⟨H2.out.1.rot.more hown hgrow (by rw [show (W4.alloc (.cells #[.int .i64 q] 3)).heap.size = W4.heap.size + 1 from by simp]; exact hat), H2.out.1.rot.keep (by decide) H2.out.2 hgrow⟩
            clear hown hgrow hat H2
            go_wp2_with (fail)
            go_roundw
            case rel => exact ⟨k + 1, _, _, _, _, _, rfl, rfl, rfl, by go_num, by omega, ⟨H3.out.1.rot.rot, H3.out.2⟩, ⟨HG.out.2.2.2, HG.out.1, HG.out.2.1, HG.out.2.2.1⟩⟩
            case measure => simp [intOf]; omega
    · have hke : k = n := by omega
      subst hke
      obtain ⟨hE1, hE2, hE3, hE4⟩ := hE.out
      obtain ⟨sa, sc, eS, iS, _⟩ := ints_of_owns hR.out.1.r.n
      obtain ⟨ma, mc, eM, iM, _⟩ := ints_of_owns hR.out.1.r.m
      subst eS eM
      have HO := Lib.hid (And.intro iS iM)
      have HE := Lib.hid (And.intro hE1 (And.intro hE3 hE4))
      clear iS iM hE1 hE2 hE3 hE4
      go_wp2_with (fail)
      go_ret3
      refine ⟨sa, sc, ma, mc, ?_, ?_, ?_, hR.out.1.b⟩
      · rw [HE.out.1, HE.out.2.1, HE.out.2.2]; rfl
      · rw [HE.out.2.1]; exact HO.out.1
      · rw [HE.out.2.2]; exact HO.out.2
/-- The same, the lists' lengths those of the days. -/
theorem happens_n (stock store : Int) (a : Option Addr) (n cap : Nat) (an : Option Addr) (N : List Int) (cn : Nat) (am : Option Addr) (M : List Int) (cm : Nat) (al : Option Addr) (L : List Int) (cl : Nat) (w : World)
    (hN : IntSl w an N) (hM : IntSl w am M) (hL : IntSl w al L) (hNn : N.length = n) (hMn : M.length = n) (hLn : L.length = n) (hn : n ≤ 60) (hst : 0 ≤ stock ∧ stock ≤ store ∧ store ≤ 1000000)
    (hb : (∀ x ∈ N, 0 ≤ x ∧ x ≤ 100000) ∧ (∀ x ∈ M, 0 ≤ x ∧ x ≤ 100000) ∧ (∀ x ∈ L, 0 ≤ x ∧ x ≤ 100000)) :
    Calls Tryz.prog 40 #[wv stock store a n cap, .slice an n cn, .slice am n cm, .slice al n cl] w (OutHap w (playL stock store N M L n)) := by
  have h := happens_any stock store a n cap an N cn am M cm al L cl w hN hM hL hNn hMn hLn hn hst hb
  rw [hNn, hMn, hLn] at h
  exact h
end Go.Proofs.YtmebmcipmemofaaGreat

namespace Go.Proofs.YtmebmcipmemofaaGreat
open Go.RowKit Go.Shelf
attribute [local go_sem] Oper.semAt_some

/-- Two days are the same. -/
def eqDy (x y : Dy) : Bool := eqSp x.need y.need && (eqSp x.make y.make && eqSp x.loss y.loss)
/-- Two lists of days are the same. -/
def eqDys (xs ys : List Dy) : Bool := decide (xs.length = ys.length) && (List.range xs.length).all (fun j => match xs[j]?, ys[j]? with | some x, some y => eqDy x y | _, _ => true)

theorem eqSp_iff (x y : Sp) : eqSp x y = decide (x.lo = y.lo ∧ x.hi = y.hi) := by simp [eqSp, Bool.decide_and]
theorem eq144 (x y : Dy) (w : World) : (Op.equalIn 10000 97 (.agg #[.int .i64 x.need.lo, .int .i64 x.need.hi, .int .i64 x.make.lo, .int .i64 x.make.hi, .int .i64 x.loss.lo, .int .i64 x.loss.hi]) (.agg #[.int .i64 y.need.lo, .int .i64 y.need.hi, .int .i64 y.make.lo, .int .i64 y.make.hi, .int .i64 y.loss.lo, .int .i64 y.loss.hi])).run Tryz.prog w = .ok (eqDy x y) w := by
  rw [Op.equalIn]
  simp [go_sem]
  by_cases h1 : x.need.lo = y.need.lo <;> by_cases h2 : x.need.hi = y.need.hi <;> by_cases h3 : x.make.lo = y.make.lo <;> by_cases h4 : x.make.hi = y.make.hi <;> by_cases h5 : x.loss.lo = y.loss.lo <;> by_cases h6 : x.loss.hi = y.loss.hi <;> simp [eqDy, eqSp, h1, h2, h3, h4, h5, h6]
theorem eq144' (x y : Dy) (bb : Bool) (h : eqDy x y = bb) (w : World) : (Op.equalIn 10000 97 (.agg #[.int .i64 x.need.lo, .int .i64 x.need.hi, .int .i64 x.make.lo, .int .i64 x.make.hi, .int .i64 x.loss.lo, .int .i64 x.loss.hi]) (.agg #[.int .i64 y.need.lo, .int .i64 y.need.hi, .int .i64 y.make.lo, .int .i64 y.make.hi, .int .i64 y.loss.lo, .int .i64 y.loss.hi])).run Tryz.prog w = .ok bb w := by
  rw [← h]; exact eq144 x y w

set_option maxHeartbeats 4000000 in
theorem equal_day (a : Option Addr) (xs : List Dy) (ca : Nat) (b : Option Addr) (ys : List Dy) (cb : Nat) (w : World) (hx : Sl 6 Dy.cells w a xs) (hy : Sl 6 Dy.cells w b ys) (hl : xs.length ≤ 1000000) :
    Calls Tryz.prog 95 #[.slice a xs.length ca, .slice b ys.length cb] w fun e w' => e = .returned (.bool (eqDys xs ys)) ∧ Below w.heap.size w w' := by
  have HX := Lib.hid (And.intro hx hy)
  clear hx hy
  by_cases hlen : xs.length = ys.length
  · have HL := Lib.hid hlen
    go_enter Tryz.func95, Tryz.ntmps95
    rw [← hlen]
    clear hlen
    go_wp2
    go_loopw [13] (fun i wr => ∃ k : Nat, k ≤ xs.length ∧ i = .int .i64 k ∧ Hid (∀ j x y, j < k → xs[j]? = some x → ys[j]? = some y → eqDy x y = true) ∧ Below w.heap.size w wr) (fun i _ => xs.length - (intOf i).toNat)
    case atStart => exact ⟨0, Nat.zero_le _, rfl, fun j x y hj => by omega, Below.refl _ _⟩
    case round =>
      obtain ⟨k, hk, rfl, hall, hbw⟩ := hrel
      by_cases hlt : k < xs.length
      · obtain ⟨b1, o1, rfl, hb1, hc1⟩ := HX.out.1 (by omega)
        obtain ⟨b2, o2, rfl, hb2, hc2⟩ := HX.out.2 (by have := HL.out; omega)
        have hlt2 : k < ys.length := by have := HL.out; omega
        have HXY : Hid (xs[k]? = some xs[k] ∧ ys[k]? = some ys[k]) := ⟨List.getElem?_eq_getElem hlt, List.getElem?_eq_getElem hlt2⟩
        have d1 := (hbw.cell (p := ⟨b1, o1 + k * 6, none⟩) hb1).trans (hc1 k _ 0 _ HXY.out.1 rfl)
        have d2 := (hbw.cell (p := ⟨b1, o1 + k * 6 + 1, none⟩) hb1).trans (hc1 k _ 1 _ HXY.out.1 rfl)
        have d3 := (hbw.cell (p := ⟨b1, o1 + k * 6 + 2, none⟩) hb1).trans (hc1 k _ 2 _ HXY.out.1 rfl)
        have d4 := (hbw.cell (p := ⟨b1, o1 + k * 6 + 3, none⟩) hb1).trans (hc1 k _ 3 _ HXY.out.1 rfl)
        have d5 := (hbw.cell (p := ⟨b1, o1 + k * 6 + 4, none⟩) hb1).trans (hc1 k _ 4 _ HXY.out.1 rfl)
        have d6 := (hbw.cell (p := ⟨b1, o1 + k * 6 + 5, none⟩) hb1).trans (hc1 k _ 5 _ HXY.out.1 rfl)
        have d7 := (hbw.cell (p := ⟨b2, o2 + k * 6, none⟩) hb2).trans (hc2 k _ 0 _ HXY.out.2 rfl)
        have d8 := (hbw.cell (p := ⟨b2, o2 + k * 6 + 1, none⟩) hb2).trans (hc2 k _ 1 _ HXY.out.2 rfl)
        have d9 := (hbw.cell (p := ⟨b2, o2 + k * 6 + 2, none⟩) hb2).trans (hc2 k _ 2 _ HXY.out.2 rfl)
        have d10 := (hbw.cell (p := ⟨b2, o2 + k * 6 + 3, none⟩) hb2).trans (hc2 k _ 3 _ HXY.out.2 rfl)
        have d11 := (hbw.cell (p := ⟨b2, o2 + k * 6 + 4, none⟩) hb2).trans (hc2 k _ 4 _ HXY.out.2 rfl)
        have d12 := (hbw.cell (p := ⟨b2, o2 + k * 6 + 5, none⟩) hb2).trans (hc2 k _ 5 _ HXY.out.2 rfl)
        clear hc1 hc2
        generalize xs[k] = x at d1 d2 d3 d4 d5 d6 HXY
        generalize ys[k] = y at d7 d8 d9 d10 d11 d12 HXY
        cases he : eqDy x y
        · have q144 := eq144' x y false he
          have HF : Hid (eqDys xs ys = false) := by
            show _ = _
            rw [eqDys]
            have : ((List.range xs.length).all (fun j => match xs[j]?, ys[j]? with | some x, some y => eqDy x y | _, _ => true)) = false := by
              rw [List.all_eq_false]
              exact ⟨k, List.mem_range.2 hlt, by rw [HXY.out.1, HXY.out.2]; simp [he]⟩
            rw [this, Bool.and_false]
          clear he hall
          go_wp2_with fail
          go_quiet (fail)
          have hwd := below_drewN hbw nq
          go_wp2
          go_ret
          exact ⟨by rw [HF.out]; rfl, hwd⟩
        · have q144 := eq144' x y true he
          have HA : Hid (∀ j x y, j < k + 1 → xs[j]? = some x → ys[j]? = some y → eqDy x y = true) := fun j x' y' hj hx' hy' => by
            rcases Nat.lt_or_ge j k with h | h
            · exact hall.out j x' y' h hx' hy'
            · have : j = k := by omega
              subst this
              rw [HXY.out.1] at hx'; rw [HXY.out.2] at hy'
              cases hx'; cases hy'; exact he
          clear he hall
          go_wp2_with fail
          go_quiet (fail)
          have hwd := below_drewN hbw nq
          go_wp2
          go_roundw
          case rel => exact ⟨k + 1, by omega, by go_num, HA, hwd⟩
          case measure => simp [intOf]; omega
      · have : k = xs.length := by omega
        subst this
        have HT : Hid (eqDys xs ys = true) := by
          show _ = _
          rw [eqDys, HL.out]
          simp only [decide_true, Bool.true_and, List.all_eq_true, List.mem_range]
          intro j hj
          cases h1 : xs[j]? with
          | none => rfl
          | some x => cases h2 : ys[j]? with
            | none => rfl
            | some y => exact hall.out j x y (by rw [HL.out]; exact hj) h1 h2
        go_wp2
        go_ret
        exact ⟨by rw [HT.out]; rfl, hbw⟩
  · have hlb : ((xs.length : Int) != (ys.length : Int)) = true := by simp; omega
    have HR : Hid (eqDys xs ys = false) := by show _ = _; rw [eqDys]; simp [hlen]
    clear hlen
    go_enter Tryz.func95, Tryz.ntmps95
    go_wp2
    go_ret
    exact ⟨by rw [HR.out]; rfl, Below.refl _ _⟩
end Go.Proofs.YtmebmcipmemofaaGreat

namespace Go.Proofs.YtmebmcipmemofaaGreat
open Go.RowKit Go.Shelf

theorem Dy.cells_len (d : Dy) : (Dy.cells d).length = 6 := rfl
theorem flatD_len (ds : List Dy) : (ds.flatMap Dy.cells).length = ds.length * 6 := by
  induction ds with
  | nil => rfl
  | cons d ds ih => rw [List.flatMap_cons, List.length_append, ih, Dy.cells_len, List.length_cons]; omega
theorem flat_get (ds : List Dy) : ∀ (j : Nat) (x : Dy) (i : Nat) (u : Int), ds[j]? = some x → (Dy.cells x)[i]? = some u → (ds.flatMap Dy.cells)[j * 6 + i]? = some u := by
  induction ds with
  | nil => intro j x i u hx _; simp at hx
  | cons d ds ih =>
    intro j x i u hx hu
    have hi : i < 6 := by
      rcases Nat.lt_or_ge i 6 with h | h
      · exact h
      · rw [List.getElem?_eq_none (by rw [Dy.cells_len]; exact h)] at hu; cases hu
    rw [List.flatMap_cons]
    cases j with
    | zero =>
      simp at hx; subst hx
      rw [Nat.zero_mul, Nat.zero_add, List.getElem?_append_left (by rw [Dy.cells_len]; exact hi)]
      exact hu
    | succ j =>
      rw [List.getElem?_append_right (by rw [Dy.cells_len]; omega), Dy.cells_len, show (j + 1) * 6 + i - 6 = j * 6 + i by omega]
      exact ih j x i u (by simpa using hx) hu
abbrev flatD (ds : List Dy) : List Value := (ds.flatMap Dy.cells).map (Value.int .i64)
theorem days_of_owns {W : World} {base : Nat} {v : Value} {ds : List Dy} (h : W.ownsRow base 97 6 v ds.length ((ds.flatMap Dy.cells).map (Value.int .i64))) : ∃ a cap, v = .slice a ds.length cap ∧ Sl 6 Dy.cells W a ds ∧ (∀ p, a = some p → base ≤ p.block) := by
  rcases h.2 with ⟨rfl, h0⟩ | ⟨g, cap, cur, rfl, hb, hg, _⟩
  · exact ⟨none, 0, by rw [h0], (fun hp => by omega), (fun p hp => by cases hp)⟩
  · refine ⟨some ⟨g, 0, none⟩, cap, rfl, fun _ => ⟨g, 0, rfl, lt_of_block hg, fun j x i u hx hu => ?_⟩, (fun p hp => by cases hp; exact hb)⟩
    have hc := h.cells (g := g) rfl (j * 6 + i) (.int .i64 u) (by rw [List.getElem?_map, flat_get ds j x i u hx hu]; rfl)
    have : (⟨g, 0, none⟩ : Addr).add (j * 6 + i) = ⟨g, 0 + j * 6 + i, none⟩ := by unfold Addr.add; split <;> simp_all
    rw [this] at hc
    exact hc
attribute [local go_sem] Oper.semAt_some
theorem Tryz.info97 : (Tryz.prog.info? 97).map (fun i => (i.zero, i.size, i.bytes)) = some (some (.agg #[.int .i64 0, .int .i64 0, .int .i64 0, .int .i64 0, .int .i64 0, .int .i64 0]), 6, 48) := by kernel_rfl
attribute [local go_sem] Oper.semAt_some

/-- Days that were handed back. -/
def OutDys (w : World) (ds : List Dy) (e : Ending) (w' : World) : Prop := ∃ a cap, e = .returned (.slice a ds.length cap) ∧ Sl 6 Dy.cells w' a ds ∧ (∀ p, a = some p → w.heap.size ≤ p.block) ∧ Below w.heap.size w w'

set_option maxHeartbeats 1000000 in
theorem cloneDays_any (a : Option Addr) (ds : List Dy) (cap : Nat) (w : World) (hx : Sl 6 Dy.cells w a ds) (hna : a = none → ds.length = 0 ∧ cap = 0) (hl : ds.length ≤ 1000) :
    Calls Tryz.prog 87 #[.slice a ds.length cap] w (OutDys w ds) := by
  obtain ⟨i0, hi, hz0, hz1, hz2⟩ := info_parts Tryz.info97
  cases a with
  | none =>
    obtain ⟨h1, rfl⟩ := hna rfl
    have : ds = [] := List.eq_nil_of_length_eq_zero h1
    subst this
    have hap : ∀ w, (Builtin.append_ #[54, 54] 54 #[.slice none 0 0, .slice none 0 0]).run Tryz.prog w = .ok (.slice none 0 0) w := fun _ => by kernel_rfl
    clear hna
    show Calls Tryz.prog 87 #[.slice none 0 0] w _
    go_enter Tryz.func87, Tryz.ntmps87
    go_wp2
    go_ret
    exact ⟨none, 0, rfl, hx, (fun p hp => by cases hp), Below.refl _ _⟩
  | some ad =>
    have HC : Hid (∀ j u, ((ds.flatMap Dy.cells).map (Value.int .i64))[j]? = some u → w.cell? (ad.add j) = some u) := fun j u hu => by
      have hj : j < ds.length * 6 := by
        rcases Nat.lt_or_ge j (ds.length * 6) with h | h
        · exact h
        · rw [List.getElem?_eq_none (by rw [List.length_map, flatD_len]; exact h)] at hu; cases hu
      obtain ⟨b, off, e, hbs, hc⟩ := hx (by omega)
      cases e
      have hq : j / 6 < ds.length := by omega
      have e : (⟨b, off, none⟩ : Addr).add j = ⟨b, off + (j / 6) * 6 + j % 6, none⟩ := by
        rw [show off + (j / 6) * 6 + j % 6 = off + j by omega]
        unfold Addr.add; split <;> simp_all
      have hr : j % 6 < (Dy.cells ds[j / 6]).length := by rw [Dy.cells_len]; omega
      have h1 := hc (j / 6) ds[j / 6] (j % 6) _ (List.getElem?_eq_getElem hq) (List.getElem?_eq_getElem hr)
      have h2 := flat_get ds (j / 6) ds[j / 6] (j % 6) _ (List.getElem?_eq_getElem hq) (List.getElem?_eq_getElem hr)
      rw [show j / 6 * 6 + j % 6 = j by omega] at h2
      rw [e, h1]
      rw [List.getElem?_map, h2] at hu
      simpa using hu
    have HLL := Lib.hid (flatD_len ds)
    clear hx hna
    go_enter Tryz.func87, Tryz.ntmps87
    go_wp2_with (at_builtin; refine wpList_append_own_at _ rfl _ _ 54 rfl w.heap.size 97 i0 (.agg #[.int .i64 0, .int .i64 0, .int .i64 0, .int .i64 0, .int .i64 0, .int .i64 0]) 6 48 Tryz.underlying54 hi hz0 hz1 hz2 rfl (by decide) (.slice none 0 0) 0 [] rfl ⟨rfl, .inl ⟨rfl, rfl⟩⟩ ad ds.length cap ((ds.flatMap Dy.cells).map (Value.int .i64)) rfl ?c0 ?c1 ?c2 ?c3 ?c4 ?c5 ?_)
    case c0 => rw [List.length_map]; exact HLL.out
    case c1 => exact HC.out
    case c2 => intro u hu; obtain ⟨x, _, rfl⟩ := List.mem_map.1 hu; rfl
    case c3 => unfold maxLen; omega
    case c4 => omega
    case c5 => exact Nat.le_refl _
    intro v' w2 hown2 hgrow2 _ _
    have hb3 : Below w.heap.size w w2 := (Below.refl _ w).grown hgrow2 (Nat.le_refl _) (fun j hj => by simp [Value.ownBlock] at hj)
    obtain ⟨a', c', rfl, hs, hf⟩ := days_of_owns hown2
    have HO := Lib.hid (And.intro hs (And.intro hf hb3))
    clear hown2 hgrow2 hs hf hb3
    go_wp2
    go_ret
    exact ⟨a', c', rfl, HO.out⟩


/-- A winter that was handed back. -/
def OutWinA (w : World) (stock store : Int) (ds : List Dy) (e : Ending) (w' : World) : Prop := ∃ a cap, e = .returned (wv stock store a ds.length cap) ∧ Sl 6 Dy.cells w' a ds ∧ Below w.heap.size w w'

set_option maxRecDepth 100000 in
set_option maxHeartbeats 1000000 in
theorem cloneWin_any (stock store : Int) (a : Option Addr) (ds : List Dy) (cap : Nat) (w : World) (hx : Sl 6 Dy.cells w a ds) (hna : a = none → ds.length = 0 ∧ cap = 0) (hl : ds.length ≤ 1000) :
    Calls Tryz.prog 26 #[wv stock store a ds.length cap] w (OutWinA w stock store ds) := by
  have HX := Lib.hid (And.intro hx (And.intro hna hl))
  clear hx hna hl
  obtain ⟨Wa, hWa⟩ : ∃ Wa, (w.alloc (.cells #[.int .i64 stock, .int .i64 store, .slice a ds.length cap] 56)).alloc (.cells #[.int .i64 0, .int .i64 0, .slice none 0 0] 56) = Wa := ⟨_, rfl⟩
  have hba : Below w.heap.size w Wa := by rw [← hWa]; exact ((Below.refl _ _).alloc (Nat.le_refl _) _).alloc (by simp) _
  have g0 : Wa.heap[w.heap.size]? = some (.cells #[.int .i64 stock, .int .i64 store, .slice a ds.length cap] 56 (0, 0)) := by rw [← hWa]; exact alk (new_at rfl)
  have g1 : Wa.heap[w.heap.size + 1]? = some (.cells #[.int .i64 0, .int .i64 0, .slice none 0 0] 56 (0, 0)) := by rw [← hWa]; exact new_at (by simp)
  have c0 := blk_cell g0 0 rfl
  have c1 := blk_cell g0 1 rfl
  have c2 := blk_cell g0 2 rfl
  have HA := Lib.hid (And.intro hba (And.intro g0 g1))
  clear hba g0 g1
  go_enter Tryz.func26, Tryz.ntmps26
  go_wp2_with (fail)
  clear hWa
  go_region_held3 (fun w' => w'.cell? ⟨w.heap.size, 0, none⟩ = some (.int .i64 stock) ∧ w'.cell? ⟨w.heap.size, 1, none⟩ = some (.int .i64 store) ∧ w'.cell? ⟨w.heap.size, 2, none⟩ = some (.slice a ds.length cap)) (go_keep)
    (first | (go_at_call 87; refine (cloneDays_any a ds cap Wa.drew (HX.out.1.below HA.out.1.drew) HX.out.2.1 HX.out.2.2).mono ?_; rintro e w1 ⟨g, c, rfl, hd1, hd2, hb1'⟩; have hb1 : Below Wa.heap.size Wa w1 := ⟨hb1'.os, hb1'.tape, hb1'.output, hb1'.size, hb1'.block⟩; clear hb1'; have hd := And.intro hd1 hd2; clear hd1 hd2; have H1 := Lib.hid (And.intro (below_self HA.out.1 hb1) (And.intro (blk_below HA.out.2.1 hb1) (And.intro (blk_below HA.out.2.2 hb1) (And.intro (show Sl 6 Dy.cells w1 g ds ∧ ∀ p, g = some p → Wa.heap.size ≤ p.block from hd) hb1)))); clear hd hb1 c0 c1 c2; have d0 := blk_cell H1.out.2.1 0 rfl; have d1 := blk_cell H1.out.2.1 1 rfl; have d2 := blk_cell H1.out.2.1 2 rfl; have f0 := blk_free (j := 0) H1.out.2.2.1; have f1 := blk_free (j := 1) H1.out.2.2.1; have f2 := blk_free (j := 2) H1.out.2.2.1; have e0 := blk_cell H1.out.2.2.1 0 rfl; have e1 := blk_cell H1.out.2.2.1 1 rfl; have e2 := blk_cell H1.out.2.2.1 2 rfl))
  go_wp2_with (fail)
  have HE : Hid (∀ W, W = ((w1.setCell ⟨w.heap.size + 1, 0, none⟩ (.int .i64 stock)).setCell ⟨w.heap.size + 1, 1, none⟩ (.int .i64 store)).setCell ⟨w.heap.size + 1, 2, none⟩ (.slice g ds.length c) →
      W.heap[w.heap.size + 1]? = some (.cells #[.int .i64 stock, .int .i64 store, .slice g ds.length c] 56 (0, 0)) ∧ Sl 6 Dy.cells W g ds ∧ Below w.heap.size w W) := by
    rintro W rfl
    have hd := H1.out.2.2.2.1
    refine ⟨blk_setCell (j := 2) (blk_setCell (j := 1) (blk_setCell (j := 0) H1.out.2.2.1)), ?_, ((H1.out.1.setCell (p := ⟨w.heap.size + 1, 0, none⟩) (by show w.heap.size ≤ w.heap.size + 1; omega) _).setCell (p := ⟨w.heap.size + 1, 1, none⟩) (by show w.heap.size ≤ w.heap.size + 1; omega) _).setCell (p := ⟨w.heap.size + 1, 2, none⟩) (by show w.heap.size ≤ w.heap.size + 1; omega) _⟩
    have hne : ∀ p, g = some p → p.block ≠ w.heap.size + 1 := fun p hp => by have := hd.2 p hp; have := lt_of_block HA.out.2.2; omega
    exact sl_set (sl_set (sl_set hd.1 hne) hne) hne
  clear d0 d1 d2 f0 f1 f2 e0 e1 e2
  generalize hWe : World.setCell _ _ _ = We
  have HF := Lib.hid (HE.out We hWe.symm)
  clear hWe HE
  have r0 := blk_cell HF.out.1 0 rfl
  have r1 := blk_cell HF.out.1 1 rfl
  have r2 := blk_cell HF.out.1 2 rfl
  refine bodyPost_ret (v := wv stock store g ds.length c) (by simp [results, Tryz.results26, go_sem, r0, r1, r2]) rfl ?_
  exact ⟨g, c, rfl, HF.out.2.1, HF.out.2.2⟩

theorem Tryz.info151 : (Tryz.prog.info? 151).map (fun i => (i.zero, i.size, i.bytes)) = some (some (.agg #[.int .i64 0, .int .i64 0, .int .i64 0, .int .i64 0, .int .i64 0, .int .i64 0]), 6, 48) := by kernel_rfl
theorem days_read {W : World} {base : Nat} {t : TypeId} {v : Value} {ds : List Dy} (h : W.ownsRow base t 6 v ds.length (flatD ds)) : ∃ a cap, v = .slice a ds.length cap ∧ Sl 6 Dy.cells W a ds ∧ (∀ p, a = some p → base ≤ p.block) := by
  rcases h.2 with ⟨rfl, h0⟩ | ⟨g, cap, cur, rfl, hb, hg, _⟩
  · exact ⟨none, 0, by rw [h0], (fun hp => by omega), (fun p hp => by cases hp)⟩
  · refine ⟨some ⟨g, 0, none⟩, cap, rfl, fun _ => ⟨g, 0, rfl, lt_of_block hg, fun j x i u hx hu => ?_⟩, (fun p hp => by cases hp; exact hb)⟩
    have hc := h.cells (g := g) rfl (j * 6 + i) (.int .i64 u) (by rw [List.getElem?_map, flat_get ds j x i u hx hu]; rfl)
    have : (⟨g, 0, none⟩ : Addr).add (j * 6 + i) = ⟨g, 0 + j * 6 + i, none⟩ := by unfold Addr.add; split <;> simp_all
    rw [this] at hc
    exact hc

theorem cells_newE (w : World) (d : Dy) : ∀ j u, ((Dy.cells d).map (Value.int .i64))[j]? = some u → (w.alloc (.cells #[.int .i64 d.need.lo, .int .i64 d.need.hi, .int .i64 d.make.lo, .int .i64 d.make.hi, .int .i64 d.loss.lo, .int .i64 d.loss.hi] 151)).cell? ((⟨w.heap.size, 0, none⟩ : Addr).add j) = some u := fun j u h => cells_new w [.int .i64 d.need.lo, .int .i64 d.need.hi, .int .i64 d.make.lo, .int .i64 d.make.hi, .int .i64 d.loss.lo, .int .i64 d.loss.hi] 151 j u h

/-- What is in memory while a winter is converted. -/
structure WN (w W : World) (stock store : Int) (sv : Value) (k : Nat) (ds : List Dy) : Prop where
  b : Below w.heap.size w W
  r : W.heap[w.heap.size + 1]? = some (.cells #[.int .i64 0, .int .i64 0, .slice none 0 0] 64 (0, 0))
  t : W.heap[w.heap.size + 1 + 1]? = some (.cells #[.int .i64 stock, .int .i64 store, sv] 64 (0, 0))
  o : W.ownsRow (w.heap.size + 1 + 1 + 1) 151 6 sv k (flatD ds)
theorem WN.below {w W W' : World} {stock store : Int} {sv : Value} {k : Nat} {ds : List Dy} (h : WN w W stock store sv k ds) (hb : Below W.heap.size W W') : WN w W' stock store sv k ds := ⟨below_self h.b hb, blk_below h.r hb, blk_below h.t hb, owns_below h.o hb⟩
theorem WN.more {w W W' : World} {stock store : Int} {sv v' : Value} {k k' : Nat} {ds ds' : List Dy} (h : WN w W stock store sv k ds) (ho : W'.ownsRow (w.heap.size + 1 + 1 + 1) 151 6 v' k' (flatD ds')) (hg : W.grownBy W' sv.ownBlock) : WN w (W'.setCell ⟨w.heap.size + 1 + 1, 2, none⟩ v') stock store v' k' ds' := by
  have hk : ∀ j, j < W.heap.size → j < w.heap.size + 1 + 1 + 1 → W'.heap[j]? = W.heap[j]? := fun j hj h2 => hg.block j hj (fun e => by have := (h.o.lt j e.symm).1; omega)
  have hT := lt_of_block h.t
  have hb : Below w.heap.size w W' := h.b.grown hg h.b.size (fun j hj => by have := (h.o.lt j hj).1; omega)
  refine ⟨hb.setCell (p := ⟨w.heap.size + 1 + 1, 2, none⟩) (by show w.heap.size ≤ w.heap.size + 1 + 1; omega) _, ?_, ?_, ?_⟩
  · rw [Below.heap_setCell _ ⟨w.heap.size + 1 + 1, 2, none⟩ _ _ (by show w.heap.size + 1 ≠ w.heap.size + 1 + 1; omega), hk _ (by omega) (by omega)]; exact h.r
  · exact blk_setCell (j := 2) ((hk _ hT (by omega)).trans h.t)
  · exact owns_step ho (fun g hg _ _ => Below.heap_setCell _ ⟨w.heap.size + 1 + 1, 2, none⟩ _ _ (by show g ≠ w.heap.size + 1 + 1; omega))

set_option maxRecDepth 100000 in
set_option maxHeartbeats 4000000 in
theorem winter_any (stock store : Int) (a : Option Addr) (ds : List Dy) (cap : Nat) (w : World) (hx : Sl 6 Dy.cells w a ds) (hl : ds.length ≤ 1000) :
    Calls Tryz.prog 28 #[wv stock store a ds.length cap] w (OutWinA w stock store ds) := by
  obtain ⟨i0, hi, hz0, hz1, hz2⟩ := info_parts Tryz.info151
  have HX := Lib.hid hx
  clear hx
  have h0 : WN w (((w.alloc (.cells #[.int .i64 stock, .int .i64 store, .slice a ds.length cap] 56)).alloc (.cells #[.int .i64 0, .int .i64 0, .slice none 0 0] 64)).alloc (.cells #[.int .i64 stock, .int .i64 store, .slice none 0 0] 64)) stock store (.slice none 0 0) 0 (ds.take 0) :=
    ⟨(((Below.refl _ _).alloc (Nat.le_refl _) _).alloc (by simp) _).alloc (by simp; omega) _, alk (new_at (by simp)), new_at (by simp), World.ownsRow_nil _ _ _ _⟩
  have H0 := Lib.hid h0
  clear h0
  go_enter Tryz.func28, Tryz.ntmps28
  go_wp2_with (fail)
  generalize ((w.alloc (.cells #[.int .i64 stock, .int .i64 store, .slice a ds.length cap] 56)).alloc (.cells #[.int .i64 0, .int .i64 0, .slice none 0 0] 64)).alloc (.cells #[.int .i64 stock, .int .i64 store, .slice none 0 0] 64) = W0 at H0 ⊢
  go_loopw [14] (fun i wr => ∃ (k : Nat) (sv : Value), i = .int .i64 k ∧ k ≤ ds.length ∧ Hid (WN w wr stock store sv k (ds.take k))) (fun i _ => ds.length - (intOf i).toNat)
  case atStart => exact ⟨0, _, rfl, Nat.zero_le _, H0.out⟩
  case round =>
    obtain ⟨k, sv, rfl, hk, hR⟩ := hrel
    by_cases hlt : k < ds.length
    · obtain ⟨b, off, rfl, hbs, hc⟩ := HX.out (by omega)
      have hxk := List.getElem?_eq_getElem hlt
      have ck : ∀ (i : Nat) (u : Int), (Dy.cells ds[k])[i]? = some u → wr.cell? ⟨b, off + k * 6 + i, none⟩ = some (.int .i64 u) := fun i u hu => (hR.out.b.cell (p := ⟨b, off + k * 6 + i, none⟩) hbs).trans (hc k ds[k] i u hxk hu)
      have d0 : wr.cell? ⟨b, off + k * 6, none⟩ = some (.int .i64 ds[k].need.lo) := ck 0 _ rfl
      have d1 := ck 1 _ rfl
      have d2 := ck 2 _ rfl
      have d3 := ck 3 _ rfl
      have d4 := ck 4 _ rfl
      have d5 := ck 5 _ rfl
      have HE : Hid (flatD (ds.take (k + 1)) = flatD (ds.take k) ++ (Dy.cells ds[k]).map (Value.int .i64)) := by
        show _ = _
        unfold flatD
        rw [List.take_add_one, hxk, List.flatMap_append, List.map_append]
        simp
      clear hc hxk ck
      generalize ds[k] = d at *
      obtain ⟨Wx, hWx⟩ : ∃ Wx, wr.alloc (.cells #[.int .i64 d.need.lo, .int .i64 d.need.hi, .int .i64 d.make.lo, .int .i64 d.make.hi, .int .i64 d.loss.lo, .int .i64 d.loss.hi] 97) = Wx := ⟨_, rfl⟩
      have hbx : Below wr.heap.size wr Wx := by rw [← hWx]; exact (Below.refl _ _).alloc (Nat.le_refl _) _
      have HNX : Hid (Wx.heap[wr.heap.size]? = some (.cells #[.int .i64 d.need.lo, .int .i64 d.need.hi, .int .i64 d.make.lo, .int .i64 d.make.hi, .int .i64 d.loss.lo, .int .i64 d.loss.hi] 97 (0, 0))) := by rw [← hWx]; exact heap_alloc_new _ _
      have HWX := Lib.hid (hR.out.below hbx)
      go_upto_region 5 with (fail)
      clear hWx d0 d1 d2 d3 d4 d5 hbx
      have n0 := blk_cell HNX.out 0 rfl
      have n1 := blk_cell HNX.out 1 rfl
      have n2 := blk_cell HNX.out 2 rfl
      have n3 := blk_cell HNX.out 3 rfl
      have n4 := blk_cell HNX.out 4 rfl
      have n5 := blk_cell HNX.out 5 rfl
      have t2 := blk_cell HWX.out.t 2 rfl
      have HA := Lib.hid (HWX.out.below ((Below.refl Wx.heap.size Wx).alloc (Nat.le_refl _) (.cells #[.int .i64 d.need.lo, .int .i64 d.need.hi, .int .i64 d.make.lo, .int .i64 d.make.hi, .int .i64 d.loss.lo, .int .i64 d.loss.hi] 151)))
      go_wp2_with (at_builtin; refine wpList_append_own_at _ rfl _ _ 62 rfl (w.heap.size + 1 + 1 + 1) 151 i0 (.agg #[.int .i64 0, .int .i64 0, .int .i64 0, .int .i64 0, .int .i64 0, .int .i64 0]) 6 48 Tryz.underlying62 hi hz0 hz1 hz2 rfl (by decide) sv k (flatD (ds.take k)) rfl HA.out.o ⟨Wx.heap.size, 0, none⟩ 1 1 ((Dy.cells d).map (Value.int .i64)) rfl rfl (cells_newE _ d) (by intro u hu; obtain ⟨x, _, rfl⟩ := List.mem_map.1 hu; rfl) (by unfold maxLen; omega) (by omega) (by have := lt_of_block HA.out.t; omega) ?_)
      intro v' W4 hown hgrow _ _
      rw [← HE.out] at hown
      obtain ⟨g, c, rfl⟩ : ∃ g c, v' = .slice g (k + 1) c := by
        rcases hown.2 with ⟨_, h0⟩ | ⟨g, c, cur, e, _⟩
        · exact absurd h0 (by omega)
        · exact ⟨_, c, e⟩
      have HM := Lib.hid (HA.out.more hown hgrow)
      have hT4 := (hgrow.block _ (lt_of_block HA.out.t) (fun e => by have := (HA.out.o.lt _ e.symm).1; omega)).trans HA.out.t
      have f2 : W4.frozen? ⟨w.heap.size + 1 + 1, 2, none⟩ = false := blk_free (j := 2) hT4
      have t2' := blk_cell hT4 2 rfl
      clear hown hgrow hT4 n0 n1 n2 n3 n4 n5 t2
      go_wp2_with (fail)
      go_roundw
      case rel => exact ⟨k + 1, _, by go_num, by omega, HM.out⟩
      case measure => simp [intOf]; omega
    · have hke : k = ds.length := by omega
      subst hke
      have ho := hR.out.o
      rw [List.take_length] at ho
      obtain ⟨g, c, rfl, hs, hf⟩ := days_read ho
      have HO := Lib.hid (And.intro hs hf)
      clear ho hs hf
      have t0 := blk_cell hR.out.t 0 rfl
      have t1 := blk_cell hR.out.t 1 rfl
      have t2 := blk_cell hR.out.t 2 rfl
      have f0 := blk_free (j := 0) hR.out.r
      have f1 := blk_free (j := 1) hR.out.r
      have f2 := blk_free (j := 2) hR.out.r
      have e0 := blk_cell hR.out.r 0 rfl
      have e1 := blk_cell hR.out.r 1 rfl
      have e2 := blk_cell hR.out.r 2 rfl
      go_wp2_with (fail)
      have HE : Hid (∀ W, W = ((wr.setCell ⟨w.heap.size + 1, 0, none⟩ (.int .i64 stock)).setCell ⟨w.heap.size + 1, 1, none⟩ (.int .i64 store)).setCell ⟨w.heap.size + 1, 2, none⟩ (.slice g ds.length c) →
          W.heap[w.heap.size + 1]? = some (.cells #[.int .i64 stock, .int .i64 store, .slice g ds.length c] 64 (0, 0)) ∧ Sl 6 Dy.cells W g ds ∧ Below w.heap.size w W) := by
        rintro W rfl
        refine ⟨blk_setCell (j := 2) (blk_setCell (j := 1) (blk_setCell (j := 0) hR.out.r)), ?_, ((hR.out.b.setCell (p := ⟨w.heap.size + 1, 0, none⟩) (by show w.heap.size ≤ w.heap.size + 1; omega) _).setCell (p := ⟨w.heap.size + 1, 1, none⟩) (by show w.heap.size ≤ w.heap.size + 1; omega) _).setCell (p := ⟨w.heap.size + 1, 2, none⟩) (by show w.heap.size ≤ w.heap.size + 1; omega) _⟩
        have hne : ∀ p, g = some p → p.block ≠ w.heap.size + 1 := fun p hp => by have := HO.out.2 p hp; omega
        exact sl_set (sl_set (sl_set HO.out.1 hne) hne) hne
      clear t0 t1 t2 f0 f1 f2 e0 e1 e2
      generalize hWe : World.setCell _ _ _ = We
      have HF := Lib.hid (HE.out We hWe.symm)
      clear hWe HE
      have r0 := blk_cell HF.out.1 0 rfl
      have r1 := blk_cell HF.out.1 1 rfl
      have r2 := blk_cell HF.out.1 2 rfl
      refine bodyPost_ret (v := wv stock store g ds.length c) (by simp [results, Tryz.results28, go_sem, r0, r1, r2]) rfl ?_
      exact ⟨g, c, rfl, HF.out.2.1, HF.out.2.2⟩

theorem eqDys_self (xs : List Dy) : eqDys xs xs = true := by
  simp [eqDys, eqDy, eqSp]
  intro j hj
  cases xs[j]? <;> simp

set_option maxRecDepth 100000 in
set_option maxHeartbeats 2000000 in
theorem same_any (s t : Int) (a : Option Addr) (xs : List Dy) (ca : Nat) (b : Option Addr) (cb : Nat) (w : World) (hx : Sl 6 Dy.cells w a xs) (hy : Sl 6 Dy.cells w b xs) (hl : xs.length ≤ 1000) :
    Calls Tryz.prog 39 #[wv s t a xs.length ca, wv s t b xs.length cb] w fun e w' => e = .returned (.bool true) ∧ Below w.heap.size w w' := by
  obtain ⟨Wa, hWa⟩ : ∃ Wa, (w.alloc (.cells #[.int .i64 s, .int .i64 t, .slice a xs.length ca] 56)).alloc (.cells #[.int .i64 s, .int .i64 t, .slice b xs.length cb] 56) = Wa := ⟨_, rfl⟩
  have hba : Below w.heap.size w Wa := by rw [← hWa]; exact ((Below.refl _ _).alloc (Nat.le_refl _) _).alloc (by simp) _
  have g0 : Wa.heap[w.heap.size]? = some (.cells #[.int .i64 s, .int .i64 t, .slice a xs.length ca] 56 (0, 0)) := by rw [← hWa]; exact alk (new_at rfl)
  have g1 : Wa.heap[w.heap.size + 1]? = some (.cells #[.int .i64 s, .int .i64 t, .slice b xs.length cb] 56 (0, 0)) := by rw [← hWa]; exact new_at (by simp)
  have c0 := blk_cell g0 0 rfl
  have c1 := blk_cell g0 1 rfl
  have c2 := blk_cell g0 2 rfl
  have d0 := blk_cell g1 0 rfl
  have d1 := blk_cell g1 1 rfl
  have d2 := blk_cell g1 2 rfl
  have HX := Lib.hid (And.intro (hx.below hba) (And.intro (hy.below hba) hba))
  clear hx hy hba g0 g1
  go_enter Tryz.func39, Tryz.ntmps39
  go_wp2_with (fail)
  refine (equal_day a xs ca b xs cb Wa HX.out.1 HX.out.2.1 (by omega)).mono ?_
  rintro e w' ⟨rfl, hb⟩
  have HB := Lib.hid (below_self HX.out.2.2 hb)
  rw [eqDys_self]
  clear hb
  go_wp2_with (fail)
  go_ret
  exact ⟨rfl, HB.out⟩
end Go.Proofs.YtmebmcipmemofaaGreat

namespace Go.Proofs.YtmebmcipmemofaaGreat
open Go.RowKit Go.Shelf
attribute [local go_sem] Oper.semAt_some

theorem any_take_succ {α : Type} (p : α → Bool) (xs : List α) (k : Nat) (h : k < xs.length) : (xs.take (k+1)).any p = ((xs.take k).any p || p xs[k]) := by
  rw [List.take_add_one, List.getElem?_eq_getElem h, List.any_append]; simp
theorem any_true {α : Type} (p : α → Bool) (xs : List α) (k : Nat) (h : k < xs.length) (hp : p xs[k] = true) : xs.any p = true := List.any_eq_true.2 ⟨xs[k], List.getElem_mem h, hp⟩

set_option maxRecDepth 100000 in
set_option maxHeartbeats 1000000 in
theorem indexF_any (a : Option Addr) (xs : List (List Int)) (cap g : Nat) (lb : Array Value) (p : List Int → Bool) (w : World) (hx : SlsAt w a xs) (hl : xs.length ≤ 1000000)
    (eg : ∀ args w, (callFunc g args).run Tryz.prog w = .ok (.enter g args) w)
    (hg : ∀ c ∈ xs, ∀ (b : Option Addr) (cb : Nat) W, Below w.heap.size w W → IntSl W b c → Calls Tryz.prog g (#[.slice b c.length cb] ++ lb) W fun e W' => e = .returned (.bool (p c)) ∧ Below W.heap.size W W') :
    Calls Tryz.prog 112 #[.slice a xs.length cap, .func (.func g) #[] lb] w fun e w' => (∃ r : Int, e = .returned (.int .i64 r) ∧ decide (0 ≤ r) = xs.any p) ∧ Below w.heap.size w w' := by
  have Hg := Lib.hid hg
  clear hg
  have HX := Lib.hid hx
  clear hx
  go_enter Tryz.func112, Tryz.ntmps112
  go_wp2
  go_loopw [8] (fun i wr => ∃ k : Nat, k ≤ xs.length ∧ i = .int .i64 k ∧ Hid ((xs.take k).any p = false) ∧ Below w.heap.size w wr) (fun i _ => xs.length - (intOf i).toNat)
  case atStart => exact ⟨0, Nat.zero_le _, rfl, by simp [Hid], Below.refl _ _⟩
  case round =>
    obtain ⟨k, hk, rfl, hall, hbw⟩ := hrel
    by_cases hlt : k < xs.length
    · obtain ⟨b1, o1, rfl, hb1, hc1⟩ := HX.out (by omega)
      obtain ⟨a1, k1, v1, i1⟩ := hc1 k _ (List.getElem?_eq_getElem hlt)
      have d1 := (hbw.cell (p := ⟨b1, o1 + k, none⟩) hb1).trans v1
      have hcall := Lib.hid (Hg.out xs[k] (List.getElem_mem hlt) a1 k1 wr hbw (i1.below hbw))
      have hF : Hid (p xs[k] = true → xs.any p = true) := any_true p xs k hlt
      have hT : Hid (p xs[k] = false → (xs.take (k + 1)).any p = false) := fun h => by rw [any_take_succ p xs k hlt, h, hall.out]; rfl
      have HB := Lib.hid hbw
      clear hc1 v1 i1 hbw hall
      generalize xs[k] = c at d1 hcall hF hT
      go_wp2_with (fail)
      refine hcall.out.mono ?_
      rintro e w1 ⟨rfl, hb1⟩
      have hb2 := Lib.hid (below_self HB.out hb1)
      clear HB hcall d1 hb1
      cases hp : p c
      · have HF := Lib.hid (hT.out hp)
        clear hp hF hT
        go_wp2
        go_roundw
        case rel => exact ⟨k + 1, by omega, by go_num, HF, hb2.out⟩
        case measure => first | (simp [intOf]; done) | (simp [intOf]; omega)
      · have HF := Lib.hid (hF.out hp)
        clear hp hF hT
        go_wp2
        go_ret
        exact ⟨⟨k, rfl, by rw [HF.out]; simp⟩, hb2.out⟩
    · have : k = xs.length := by omega
      subst this
      rw [List.take_length] at hall
      go_wp2
      go_ret
      exact ⟨⟨-1, rfl, by rw [hall.out]; rfl⟩, hbw⟩

set_option maxHeartbeats 1000000 in
theorem containsF_any (a : Option Addr) (xs : List (List Int)) (cap g : Nat) (lb : Array Value) (p : List Int → Bool) (w : World) (hx : SlsAt w a xs) (hl : xs.length ≤ 1000000)
    (eg : ∀ args w, (callFunc g args).run Tryz.prog w = .ok (.enter g args) w)
    (hg : ∀ c ∈ xs, ∀ (b : Option Addr) (cb : Nat) W, Below w.heap.size w W → IntSl W b c → Calls Tryz.prog g (#[.slice b c.length cb] ++ lb) W fun e W' => e = .returned (.bool (p c)) ∧ Below W.heap.size W W') :
    Calls Tryz.prog 56 #[.slice a xs.length cap, .func (.func g) #[] lb] w fun e w' => e = .returned (.bool (xs.any p)) ∧ Below w.heap.size w w' := by
  have HC := Lib.hid (indexF_any a xs cap g lb p w hx hl eg hg)
  clear hx hl eg hg
  go_enter Tryz.func56, Tryz.ntmps56
  go_wp2_with (fail)
  refine HC.out.mono ?_
  rintro e w1 ⟨⟨r, rfl, hr⟩, hb⟩
  have HR := Lib.hid hr
  clear hr HC
  go_wp2
  all_goals go_ret
  all_goals exact ⟨ret_bool (HR.out), hb⟩

theorem eg55 : ∀ args w, (callFunc 55 args).run Tryz.prog w = .ok (.enter 55 args) w := enters_of Tryz.func55 (by kernel_rfl) rfl
theorem eg57 : ∀ args w, (callFunc 57 args).run Tryz.prog w = .ok (.enter 57 args) w := enters_of Tryz.func57 (by kernel_rfl) rfl

set_option maxHeartbeats 1000000 in
theorem same1_any (B : Nat) (a : Option Addr) (x : List Int) (ca : Nat) (b : Option Addr) (c : List Int) (cb : Nat) (w : World) (hB : w.heap[B]? = some (.cells #[.slice b c.length cb] 27 (0, 0))) (hx : IntSl w a x) (hc : IntSl w b c) (hl : x.length ≤ 1000000) :
    Calls Tryz.prog 57 #[.slice a x.length ca, .pointer (some ⟨B, 0, none⟩)] w fun e w' => e = .returned (.bool (decide (x = c))) ∧ Below w.heap.size w w' := by
  have HC := Lib.hid (equal_int a x ca b c cb w hx hc hl)
  have t0 := blk_cell hB 0 rfl
  clear hB hx hc
  go_enter Tryz.func57, Tryz.ntmps57
  go_wp2_with (fail)
  refine HC.out.mono ?_
  rintro e w1 ⟨rfl, hb⟩
  go_wp2
  go_ret
  exact ⟨rfl, hb⟩

set_option maxHeartbeats 1000000 in
/-- Whether a list is among others. -/
theorem among_any (a : Option Addr) (xs : List (List Int)) (ca : Nat) (b : Option Addr) (c : List Int) (cb : Nat) (w : World) (hx : SlsAt w a xs) (hc : IntSl w b c) (hl : xs.length ≤ 1000000) (hls : ∀ x ∈ xs, x.length ≤ 1000000) :
    Calls Tryz.prog 55 #[.slice a xs.length ca, .slice b c.length cb] w fun e w' => e = .returned (.bool (decide (c ∈ xs))) ∧ Below w.heap.size w w' := by
  have HE : Hid (xs.any (fun x => decide (x = c)) = decide (c ∈ xs)) := by
    show _ = _
    rw [Bool.eq_iff_iff, List.any_eq_true, decide_eq_true_eq]
    constructor
    · rintro ⟨x, hx, h⟩; rw [← of_decide_eq_true h]; exact hx
    · exact fun h => ⟨c, h, by simp⟩
  obtain ⟨W1, hW1⟩ : ∃ W1, w.alloc (.cells #[.slice b c.length cb] 27) = W1 := ⟨_, rfl⟩
  have hb1 : Below w.heap.size w W1 := by rw [← hW1]; exact alloc1 w _
  have h0 : W1.heap[w.heap.size]? = some (.cells #[.slice b c.length cb] 27 (0, 0)) := by rw [← hW1]; exact heap_alloc_new w _
  have HC := Lib.hid (containsF_any a xs ca 57 #[.pointer (some ⟨w.heap.size, 0, none⟩)] (fun x => decide (x = c)) W1 (hx.below hb1) hl eg57 (fun x hxm a1 k1 W hW hi => same1_any w.heap.size a1 x k1 b c cb W (blk_below h0 hW) hi ((hc.below hb1).below hW) (hls x hxm)))
  have HB := Lib.hid hb1
  clear hx hc hl hls hb1 h0
  go_enter Tryz.func55, Tryz.ntmps55
  rw [← HE.out]
  clear HE
  go_wp2_with (fail)
  refine HC.out.mono ?_
  rintro e w1 ⟨rfl, hb⟩
  have hb2 := below_self HB.out hb
  go_wp2
  go_ret
  exact ⟨rfl, hb2⟩
theorem nan54_any (x : Int) (w : World) : Calls Tryz.prog 152 #[.int .i64 x] w fun e w' => e = .returned (.bool false) ∧ w = w' := by
  go_enter Tryz.func152, Tryz.ntmps152
  go_wp2
  go_ret
  exact ⟨ret_bool (by simp), rfl⟩

set_option maxHeartbeats 1000000 in
theorem cmp54_any (x y : Int) (w : World) : Calls Tryz.prog 111 #[.int .i64 x, .int .i64 y] w fun e w' => e = .returned (.int .i64 (cmpI x y)) ∧ w = w' := by
  go_enter Tryz.func111, Tryz.ntmps111
  go_wp2_with (go_at_call 152; refine (nan54_any _ _).mono ?_; rintro e w' ⟨rfl, rfl⟩)
  all_goals go_ret
  all_goals exact ⟨ret_int (by simp only [cmpI]; repeat' split <;> omega), rfl⟩

set_option maxHeartbeats 1000000 in
theorem compare54_any (a : Option Addr) (xs : List Int) (ca : Nat) (b : Option Addr) (ys : List Int) (cb : Nat) (w : World) (hx : IntSl w a xs) (hy : IntSl w b ys) (hl : xs.length ≤ 1000000) :
    Calls Tryz.prog 54 #[.slice a xs.length ca, .slice b ys.length cb] w fun e w' => e = .returned (.int .i64 (cmpL xs ys)) ∧ Below w.heap.size w w' := by
  have HX := Lib.hid (And.intro hx hy)
  clear hx hy
  go_enter Tryz.func54, Tryz.ntmps54
  go_wp2
  go_loopw [11] (fun i wr => ∃ k : Nat, k ≤ xs.length ∧ k ≤ ys.length ∧ i = .int .i64 k ∧ Hid (cmpL xs ys = cmpL (xs.drop k) (ys.drop k)) ∧ Below w.heap.size w wr) (fun i _ => xs.length - (intOf i).toNat)
  case atStart => exact ⟨0, Nat.zero_le _, Nat.zero_le _, rfl, rfl, Below.refl _ _⟩
  case round =>
    obtain ⟨k, hk, hk2, rfl, hc, hbw⟩ := hrel
    by_cases hlt : k < xs.length
    · obtain ⟨b1, o1, rfl, hb1, hc1⟩ := HX.out.1 (by omega)
      have d1 := (hbw.cell (p := ⟨b1, o1 + k, none⟩) hb1).trans (hc1 k hlt)
      clear hc1
      by_cases hlt2 : k < ys.length
      · obtain ⟨b2, o2, rfl, hb2, hc2⟩ := HX.out.2 (by omega)
        have d2 := (hbw.cell (p := ⟨b2, o2 + k, none⟩) hb2).trans (hc2 k hlt2)
        clear hc2
        have HA := Lib.hid (hc.out.trans (cmpL_at hlt hlt2))
        generalize xs[k]?.getD 0 = xk at d1 HA
        generalize ys[k]?.getD 0 = yk at d2 HA
        by_cases he : cmpI xk yk = 0
        · have heb : (cmpI xk yk != 0) = false := by simp [he]
          have HA2 : Hid (cmpL xs ys = cmpL (xs.drop (k + 1)) (ys.drop (k + 1))) := by show _ = _; rw [HA.out, if_pos he]
          clear he
          go_wp2_with (go_at_call 111; refine (cmp54_any _ _ _).mono ?_; rintro e w1 ⟨rfl, rfl⟩)
          go_roundw
          case rel => exact ⟨k + 1, by omega, by omega, by go_num, HA2, hbw⟩
          case measure => simp [intOf]; omega
        · have heb : (cmpI xk yk != 0) = true := by simp [he]
          have HA2 : Hid (cmpL xs ys = cmpI xk yk) := by show _ = _; rw [HA.out, if_neg he]
          clear he
          go_wp2_with (go_at_call 111; refine (cmp54_any _ _ _).mono ?_; rintro e w1 ⟨rfl, rfl⟩)
          go_ret
          exact ⟨by rw [HA2.out]; rfl, hbw⟩
      · have hkk : k = ys.length := by omega
        have HA2 : Hid (cmpL xs ys = 1) := by show _ = _; rw [hc.out, hkk]; exact cmpL_long (by omega)
        clear hkk
        go_wp2
        go_ret
        exact ⟨by rw [HA2.out]; rfl, hbw⟩
    · have hkk : k = xs.length := by omega
      subst hkk
      have HA := Lib.hid (hc.out.trans cmpL_end)
      by_cases hlt2 : xs.length < ys.length
      · have HA2 : Hid (cmpL xs ys = -1) := by show _ = _; rw [HA.out, if_pos hlt2]
        go_wp2
        go_ret
        exact ⟨by rw [HA2.out]; rfl, hbw⟩
      · have HA2 : Hid (cmpL xs ys = 0) := by show _ = _; rw [HA.out, if_neg hlt2]
        go_wp2
        go_ret
        exact ⟨by rw [HA2.out]; rfl, hbw⟩

end Go.Proofs.YtmebmcipmemofaaGreat

namespace Go.Proofs.YtmebmcipmemofaaGreat
open Go.RowKit Go.Shelf
attribute [local go_sem] Oper.semAt_some

set_option maxRecDepth 100000 in
set_option maxHeartbeats 1000000 in
theorem long_any (stock store : Int) (a : Option Addr) (n cap : Nat) (la : Option Addr) (S : List (List Int)) (lc : Nat) (w : World) (hs : SlsAt w la S) (hl : S.length ≤ 1000) :
    Calls Tryz.prog 25 #[wv stock store a n cap, .slice la S.length lc] w fun e w' => e = .returned (.bool (S.any (fun c => decide (70 < c.length)) || decide (65 < n))) ∧ Below w.heap.size w w' := by
  obtain ⟨Wa, hWa⟩ : ∃ Wa, w.alloc (.cells #[.int .i64 stock, .int .i64 store, .slice a n cap] 56) = Wa := ⟨_, rfl⟩
  have hba : Below w.heap.size w Wa := by rw [← hWa]; exact alloc1 w _
  have g0 : Wa.heap[w.heap.size]? = some (.cells #[.int .i64 stock, .int .i64 store, .slice a n cap] 56 (0, 0)) := by rw [← hWa]; exact heap_alloc_new w _
  have HX := Lib.hid (And.intro hba (And.intro g0 (hs.below hba)))
  clear hba g0 hs
  go_enter Tryz.func25, Tryz.ntmps25
  go_wp2_with (fail)
  go_loopw [9] (fun i wr => ∃ k : Nat, k ≤ S.length ∧ i = .int .i64 k ∧ Hid ((S.take k).any (fun c => decide (70 < c.length)) = false) ∧ wr = Wa) (fun i _ => S.length - (intOf i).toNat)
  case atStart => exact ⟨0, Nat.zero_le _, rfl, by simp [Hid], rfl⟩
  case round =>
    obtain ⟨k, hk, rfl, hall, rfl⟩ := hrel
    by_cases hlt : k < S.length
    · obtain ⟨b1, o1, rfl, hb1, hc1⟩ := HX.out.2.2 (by omega)
      obtain ⟨a1, k1, v1, i1⟩ := hc1 k _ (List.getElem?_eq_getElem hlt)
      have hF : Hid (decide (70 < (S[k]).length) = true → S.any (fun c => decide (70 < c.length)) = true) := any_true (fun (c : List Int) => decide (70 < c.length)) S k hlt
      have hT : Hid (decide (70 < (S[k]).length) = false → (S.take (k + 1)).any (fun c => decide (70 < c.length)) = false) := fun h => by rw [any_take_succ _ S k hlt, h, hall.out]; rfl
      clear hc1 i1 hall
      generalize S[k] = c at v1 hF hT
      by_cases h70 : 70 < c.length
      · have HF := Lib.hid (hF.out (decide_eq_true h70))
        clear hF hT
        go_wp2_with (fail)
        go_ret
        exact ⟨by rw [HF.out]; rfl, HX.out.1⟩
      · have HF := Lib.hid (hT.out (decide_eq_false h70))
        clear hF hT
        go_wp2_with (fail)
        go_roundw
        case rel => exact ⟨k + 1, by omega, by go_num, HF, (by first | rfl | trivial)⟩
        case measure => first | (simp [intOf]; done) | (simp [intOf]; omega)
    · have hk2 : k = S.length := by omega
      have HA : Hid (S.any (fun c => decide (70 < c.length)) = false) := by have h := hall.out; rw [hk2, List.take_length] at h; exact h
      clear hall hk2
      have t0 := blk_cell HX.out.2.1 0 rfl
      have t1 := blk_cell HX.out.2.1 1 rfl
      have t2 := blk_cell HX.out.2.1 2 rfl
      go_wp2_with (fail)
      go_ret
      exact ⟨by rw [HA.out]; simp; omega, HX.out.1⟩

set_option maxRecDepth 100000 in
set_option maxHeartbeats 2000000 in
theorem alike_same (N M L : List Int) (an : Option Addr) (cn : Nat) (am : Option Addr) (cm : Nat) (al : Option Addr) (cl : Nat) (bn : Option Addr) (dn : Nat) (bm : Option Addr) (dm : Nat) (bl : Option Addr) (dl : Nat) (w : World)
    (h1 : IntSl w an N) (h2 : IntSl w am M) (h3 : IntSl w al L) (k1 : IntSl w bn N) (k2 : IntSl w bm M) (k3 : IntSl w bl L) (hl : N.length ≤ 1000 ∧ M.length ≤ 1000 ∧ L.length ≤ 1000) :
    Calls Tryz.prog 33 #[tv an N.length cn am M.length cm al L.length cl, tv bn N.length dn bm M.length dm bl L.length dl] w fun e w' => e = .returned (.bool true) ∧ Below w.heap.size w w' := by
  obtain ⟨Wa, hWa⟩ : ∃ Wa, (w.alloc (.cells #[.slice an N.length cn, .slice am M.length cm, .slice al L.length cl] 58)).alloc (.cells #[.slice bn N.length dn, .slice bm M.length dm, .slice bl L.length dl] 58) = Wa := ⟨_, rfl⟩
  have hba : Below w.heap.size w Wa := by rw [← hWa]; exact ((Below.refl _ _).alloc (Nat.le_refl _) _).alloc (by simp) _
  have g0 : Wa.heap[w.heap.size]? = some (.cells #[.slice an N.length cn, .slice am M.length cm, .slice al L.length cl] 58 (0, 0)) := by rw [← hWa]; exact alk (new_at rfl)
  have g1 : Wa.heap[w.heap.size + 1]? = some (.cells #[.slice bn N.length dn, .slice bm M.length dm, .slice bl L.length dl] 58 (0, 0)) := by rw [← hWa]; exact new_at (by simp)
  have t0 := blk_cell g0 0 rfl
  have t1 := blk_cell g0 1 rfl
  have t2 := blk_cell g0 2 rfl
  have u0 := blk_cell g1 0 rfl
  have u1 := blk_cell g1 1 rfl
  have u2 := blk_cell g1 2 rfl
  have H0 : Hid (Below w.heap.size w Wa ∧ Wa.heap[w.heap.size]? = some (.cells #[.slice an N.length cn, .slice am M.length cm, .slice al L.length cl] 58 (0, 0)) ∧ Wa.heap[w.heap.size + 1]? = some (.cells #[.slice bn N.length dn, .slice bm M.length dm, .slice bl L.length dl] 58 (0, 0)) ∧ (IntSl Wa an N ∧ IntSl Wa am M ∧ IntSl Wa al L) ∧ IntSl Wa bn N ∧ IntSl Wa bm M ∧ IntSl Wa bl L) := ⟨hba, g0, g1, ⟨h1.below hba, h2.below hba, h3.below hba⟩, k1.below hba, k2.below hba, k3.below hba⟩
  clear hba g0 g1 h1 h2 h3 k1 k2 k3
  go_enter Tryz.func33, Tryz.ntmps33
  go_wp2_with (fail)
  clear hWa t0 t1 t2 u0 u1 u2
  refine (equal_int an N cn bn N dn Wa H0.out.2.2.2.1.1 H0.out.2.2.2.2.1 (by omega)).mono ?_
  rintro e W1 ⟨rfl, hb⟩
  have H1 : Hid (Below w.heap.size w W1 ∧ W1.heap[w.heap.size]? = some (.cells #[.slice an N.length cn, .slice am M.length cm, .slice al L.length cl] 58 (0, 0)) ∧ W1.heap[w.heap.size + 1]? = some (.cells #[.slice bn N.length dn, .slice bm M.length dm, .slice bl L.length dl] 58 (0, 0)) ∧ (IntSl W1 am M ∧ IntSl W1 al L) ∧ IntSl W1 bm M ∧ IntSl W1 bl L) := ⟨below_self H0.out.1 hb, blk_below H0.out.2.1 hb, blk_below H0.out.2.2.1 hb, ⟨H0.out.2.2.2.1.2.1.below hb, H0.out.2.2.2.1.2.2.below hb⟩, H0.out.2.2.2.2.2.1.below hb, H0.out.2.2.2.2.2.2.below hb⟩
  clear hb H0
  rw [show decide (N = N) = true from decide_eq_true rfl]
  have t1 := blk_cell H1.out.2.1 1 rfl
  have u1 := blk_cell H1.out.2.2.1 1 rfl
  go_wp2_with (fail)
  clear t1 u1
  refine (equal_int am M cm bm M dm W1 H1.out.2.2.2.1.1 H1.out.2.2.2.2.1 (by omega)).mono ?_
  rintro e W2 ⟨rfl, hb⟩
  have H2 : Hid (Below w.heap.size w W2 ∧ W2.heap[w.heap.size]? = some (.cells #[.slice an N.length cn, .slice am M.length cm, .slice al L.length cl] 58 (0, 0)) ∧ W2.heap[w.heap.size + 1]? = some (.cells #[.slice bn N.length dn, .slice bm M.length dm, .slice bl L.length dl] 58 (0, 0)) ∧ IntSl W2 al L ∧ IntSl W2 bl L) := ⟨below_self H1.out.1 hb, blk_below H1.out.2.1 hb, blk_below H1.out.2.2.1 hb, H1.out.2.2.2.1.2.below hb, H1.out.2.2.2.2.2.below hb⟩
  clear hb H1
  rw [show decide (M = M) = true from decide_eq_true rfl]
  have t1 := blk_cell H2.out.2.1 2 rfl
  have u1 := blk_cell H2.out.2.2.1 2 rfl
  go_wp2_with (fail)
  clear t1 u1
  refine (equal_int al L cl bl L dl W2 H2.out.2.2.2.1 H2.out.2.2.2.2 (by omega)).mono ?_
  rintro e W3 ⟨rfl, hb⟩
  have H3 : Hid (Below w.heap.size w W3) := below_self H2.out.1 hb
  clear hb H2
  rw [show decide (L = L) = true from decide_eq_true rfl]
  go_wp2_with (fail)
  go_ret
  exact ⟨rfl, H3.out⟩

/-- A weather that was handed back, new memory. -/
def OutWth (w : World) (N M L : List Int) (e : Ending) (w' : World) : Prop := ∃ an cn am cm al cl, e = .returned (tv an N.length cn am M.length cm al L.length cl) ∧ (IntSl w' an N ∧ IntSl w' am M ∧ IntSl w' al L) ∧ Below w.heap.size w w' ∧ (∀ p, an = some p → w.heap.size ≤ p.block) ∧ (∀ p, am = some p → w.heap.size ≤ p.block) ∧ (∀ p, al = some p → w.heap.size ≤ p.block)

set_option maxRecDepth 100000 in
set_option maxHeartbeats 4000000 in
theorem cloneWth_any (N M L : List Int) (an : Option Addr) (cn : Nat) (am : Option Addr) (cm : Nat) (al : Option Addr) (cl : Nat) (w : World) (h1 : IntSl w an N) (h2 : IntSl w am M) (h3 : IntSl w al L) (hn : (an = none → N.length = 0 ∧ cn = 0) ∧ (am = none → M.length = 0 ∧ cm = 0) ∧ (al = none → L.length = 0 ∧ cl = 0)) (hl : N.length ≤ 1000 ∧ M.length ≤ 1000 ∧ L.length ≤ 1000) :
  Calls Tryz.prog 27 #[tv an N.length cn am M.length cm al L.length cl] w (OutWth w N M L) := by
  obtain ⟨Wa, hWa⟩ : ∃ Wa, (w.alloc (.cells #[.slice an N.length cn, .slice am M.length cm, .slice al L.length cl] 58)).alloc (.cells #[.slice none 0 0, .slice none 0 0, .slice none 0 0] 58) = Wa := ⟨_, rfl⟩
  have hba : Below w.heap.size w Wa := by rw [← hWa]; exact ((Below.refl _ _).alloc (Nat.le_refl _) _).alloc (by simp) _
  have g0 : Wa.heap[w.heap.size]? = some (.cells #[.slice an N.length cn, .slice am M.length cm, .slice al L.length cl] 58 (0, 0)) := by rw [← hWa]; exact alk (new_at rfl)
  have g1 : Wa.heap[w.heap.size + 1]? = some (.cells #[.slice none 0 0, .slice none 0 0, .slice none 0 0] 58 (0, 0)) := by rw [← hWa]; exact new_at (by simp)
  have H0 : Hid (Below w.heap.size w Wa ∧ (Wa.heap[w.heap.size]? = some (.cells #[.slice an N.length cn, .slice am M.length cm, .slice al L.length cl] 58 (0, 0)) ∧ Wa.heap[w.heap.size + 1]? = some (.cells #[.slice none 0 0, .slice none 0 0, .slice none 0 0] 58 (0, 0))) ∧ (IntSl Wa an N ∧ IntSl Wa am M ∧ IntSl Wa al L)) := ⟨hba, ⟨g0, g1⟩, h1.below hba, h2.below hba, h3.below hba⟩
  have HN := Lib.hid (And.intro hn hl)
  clear hba g0 g1 h1 h2 h3 hn hl
  go_enter Tryz.func27, Tryz.ntmps27
  go_upto_region 1 with (fail)
  clear hWa
  refine wp_region_split (S := fun w' => w'.cell? ⟨w.heap.size, 0, none⟩ = some (.slice an N.length cn) ∧ w'.cell? ⟨w.heap.size, 1, none⟩ = some (.slice am M.length cm) ∧ w'.cell? ⟨w.heap.size, 2, none⟩ = some (.slice al L.length cl)) [10] 10 (by kernel_rfl) (by kernel_rfl) rfl ?_
  have S0 : Hid (Below w.heap.size w Wa.drew ∧ (Wa.drew.heap[w.heap.size]? = some (.cells #[.slice an N.length cn, .slice am M.length cm, .slice al L.length cl] 58 (0, 0)) ∧ Wa.drew.heap[w.heap.size + 1]? = some (.cells #[.slice none 0 0, .slice none 0 0, .slice none 0 0] 58 (0, 0))) ∧ (IntSl Wa.drew an N ∧ IntSl Wa.drew am M ∧ IntSl Wa.drew al L)) := by
    have hd := (Below.refl Wa.heap.size Wa).drew
    exact ⟨below_self H0.out.1 hd, ⟨blk_below H0.out.2.1.1 hd, blk_below H0.out.2.1.2 hd⟩, H0.out.2.2.1.below hd, H0.out.2.2.2.1.below hd, H0.out.2.2.2.2.below hd⟩
  clear H0
  generalize Wa.drew = X0 at S0 ⊢
  rw [show firstL _ [10] = #[false, false, false, false, false, false, false, false, false, false, true] from by kernel_rfl]
  refine wpAnyH_take (i := 0) (v := .pointer (some ⟨w.heap.size, 0, none⟩)) rfl (by kernel_rfl) (by kernel_rfl) (by kernel_rfl) (fun _ _ _ h => h) (Or.inl ⟨by rfl, by (intro W hSw; clear hSw; go_simp)⟩) ⟨blk_cell S0.out.2.1.1 0 rfl, blk_cell S0.out.2.1.1 1 rfl, blk_cell S0.out.2.1.1 2 rfl⟩ ?_
  simp only [Act.put, List.getElem_toArray, List.getElem_cons_zero, List.setIfInBounds_toArray, List.set_cons_zero, List.set_cons_succ]
  refine wpAnyH_take (i := 1) (v := .slice an N.length cn) rfl (by kernel_rfl) (by kernel_rfl) (by kernel_rfl) (fun _ _ _ h => h) (Or.inl ⟨by rfl, by (intro W hSw; have c := hSw.1; clear hSw; go_simp)⟩) ⟨blk_cell S0.out.2.1.1 0 rfl, blk_cell S0.out.2.1.1 1 rfl, blk_cell S0.out.2.1.1 2 rfl⟩ ?_
  simp only [Act.put, List.getElem_toArray, List.getElem_cons_succ, List.getElem_cons_zero, List.setIfInBounds_toArray, List.set_cons_zero, List.set_cons_succ]
  refine wpAnyH_take (i := 3) (v := .pointer (some ⟨w.heap.size, 1, none⟩)) rfl (by kernel_rfl) (by kernel_rfl) (by kernel_rfl) (fun _ _ _ h => h) (Or.inl ⟨by rfl, by (intro W hSw; clear hSw; go_simp)⟩) ⟨blk_cell S0.out.2.1.1 0 rfl, blk_cell S0.out.2.1.1 1 rfl, blk_cell S0.out.2.1.1 2 rfl⟩ ?_
  simp only [Act.put, List.getElem_toArray, List.getElem_cons_succ, List.getElem_cons_zero, List.setIfInBounds_toArray, List.set_cons_zero, List.set_cons_succ]
  refine wpAnyH_take (i := 4) (v := .slice am M.length cm) rfl (by kernel_rfl) (by kernel_rfl) (by kernel_rfl) (fun _ _ _ h => h) (Or.inl ⟨by rfl, by (intro W hSw; have c := hSw.2.1; clear hSw; go_simp)⟩) ⟨blk_cell S0.out.2.1.1 0 rfl, blk_cell S0.out.2.1.1 1 rfl, blk_cell S0.out.2.1.1 2 rfl⟩ ?_
  simp only [Act.put, List.getElem_toArray, List.getElem_cons_succ, List.getElem_cons_zero, List.setIfInBounds_toArray, List.set_cons_zero, List.set_cons_succ]
  refine wpAnyH_take (i := 6) (v := .pointer (some ⟨w.heap.size, 2, none⟩)) rfl (by kernel_rfl) (by kernel_rfl) (by kernel_rfl) (fun _ _ _ h => h) (Or.inl ⟨by rfl, by (intro W hSw; clear hSw; go_simp)⟩) ⟨blk_cell S0.out.2.1.1 0 rfl, blk_cell S0.out.2.1.1 1 rfl, blk_cell S0.out.2.1.1 2 rfl⟩ ?_
  simp only [Act.put, List.getElem_toArray, List.getElem_cons_succ, List.getElem_cons_zero, List.setIfInBounds_toArray, List.set_cons_zero, List.set_cons_succ]
  refine wpAnyH_take (i := 7) (v := .slice al L.length cl) rfl (by kernel_rfl) (by kernel_rfl) (by kernel_rfl) (fun _ _ _ h => h) (Or.inl ⟨by rfl, by (intro W hSw; have c := hSw.2.2; clear hSw; go_simp)⟩) ⟨blk_cell S0.out.2.1.1 0 rfl, blk_cell S0.out.2.1.1 1 rfl, blk_cell S0.out.2.1.1 2 rfl⟩ ?_
  simp only [Act.put, List.getElem_toArray, List.getElem_cons_succ, List.getElem_cons_zero, List.setIfInBounds_toArray, List.set_cons_zero, List.set_cons_succ]
  refine wpAnyH_ready (rs := [2]) (by kernel_rfl) (by simp) ?_
  refine AllReadyH.cons (o := _) rfl (fun K hK => ?_) AllReadyH.nil
  go_simp
  go_at_call 12
  refine (cloneInt_any an N cn X0 S0.out.2.2.1 HN.out.1.1 HN.out.2.1).mono ?_
  rintro e X1 ⟨b0, e0, rfl, hi, hf, hb⟩
  have S1 : Hid (Below w.heap.size w X1 ∧ (X1.heap[w.heap.size]? = some (.cells #[.slice an N.length cn, .slice am M.length cm, .slice al L.length cl] 58 (0, 0)) ∧ X1.heap[w.heap.size + 1]? = some (.cells #[.slice none 0 0, .slice none 0 0, .slice none 0 0] 58 (0, 0))) ∧ (IntSl X1 an N ∧ IntSl X1 am M ∧ IntSl X1 al L) ∧ (IntSl X1 b0 N ∧ ∀ p, b0 = some p → w.heap.size + 2 ≤ p.block)) := by
    obtain ⟨p1, ⟨p2, p3⟩, q1, q2, q3⟩ := S0.out
    have hz := lt_of_block p3
    exact ⟨below_self p1 hb, ⟨blk_below p2 hb, blk_below p3 hb⟩, ⟨q1.below hb, q2.below hb, q3.below hb⟩, hi, fun p hp => by have := hf p hp; omega⟩
  clear hi hf hb S0
  refine hK.out _ _ ⟨blk_cell S1.out.2.1.1 0 rfl, blk_cell S1.out.2.1.1 1 rfl, blk_cell S1.out.2.1.1 2 rfl⟩ (fun _ => ?_)
  clear hK
  simp only [List.setIfInBounds_toArray, List.set_cons_zero, List.set_cons_succ]
  refine wpAnyH_ready (rs := [5]) (by kernel_rfl) (by simp) ?_
  refine AllReadyH.cons (o := _) rfl (fun K hK => ?_) AllReadyH.nil
  go_simp
  go_at_call 12
  refine (cloneInt_any am M cm X1 (show IntSl X1 am M by obtain ⟨_, _, ⟨q1, q2, q3⟩, _⟩ := S1.out; first | exact q1 | exact q2 | exact q3) HN.out.1.2.1 HN.out.2.2.1).mono ?_
  rintro e X2 ⟨b1, e1, rfl, hi, hf, hb⟩
  have S2 : Hid (Below w.heap.size w X2 ∧ (X2.heap[w.heap.size]? = some (.cells #[.slice an N.length cn, .slice am M.length cm, .slice al L.length cl] 58 (0, 0)) ∧ X2.heap[w.heap.size + 1]? = some (.cells #[.slice none 0 0, .slice none 0 0, .slice none 0 0] 58 (0, 0))) ∧ (IntSl X2 an N ∧ IntSl X2 am M ∧ IntSl X2 al L) ∧ (IntSl X2 b0 N ∧ ∀ p, b0 = some p → w.heap.size + 2 ≤ p.block) ∧ (IntSl X2 b1 M ∧ ∀ p, b1 = some p → w.heap.size + 2 ≤ p.block)) := by
    obtain ⟨p1, ⟨p2, p3⟩, ⟨q1, q2, q3⟩, r0⟩ := S1.out
    have hz := lt_of_block p3
    exact ⟨below_self p1 hb, ⟨blk_below p2 hb, blk_below p3 hb⟩, ⟨q1.below hb, q2.below hb, q3.below hb⟩, ⟨r0.1.below hb, r0.2⟩, hi, fun p hp => by have := hf p hp; omega⟩
  clear hi hf hb S1
  refine hK.out _ _ ⟨blk_cell S2.out.2.1.1 0 rfl, blk_cell S2.out.2.1.1 1 rfl, blk_cell S2.out.2.1.1 2 rfl⟩ (fun _ => ?_)
  clear hK
  simp only [List.setIfInBounds_toArray, List.set_cons_zero, List.set_cons_succ]
  refine wpAnyH_ready (rs := [8]) (by kernel_rfl) (by simp) ?_
  refine AllReadyH.cons (o := _) rfl (fun K hK => ?_) AllReadyH.nil
  go_simp
  go_at_call 12
  refine (cloneInt_any al L cl X2 (show IntSl X2 al L by obtain ⟨_, _, ⟨q1, q2, q3⟩, _, _⟩ := S2.out; first | exact q1 | exact q2 | exact q3) HN.out.1.2.2 HN.out.2.2.2).mono ?_
  rintro e X3 ⟨b2, e2, rfl, hi, hf, hb⟩
  have S3 : Hid (Below w.heap.size w X3 ∧ (X3.heap[w.heap.size]? = some (.cells #[.slice an N.length cn, .slice am M.length cm, .slice al L.length cl] 58 (0, 0)) ∧ X3.heap[w.heap.size + 1]? = some (.cells #[.slice none 0 0, .slice none 0 0, .slice none 0 0] 58 (0, 0))) ∧ (IntSl X3 an N ∧ IntSl X3 am M ∧ IntSl X3 al L) ∧ (IntSl X3 b0 N ∧ ∀ p, b0 = some p → w.heap.size + 2 ≤ p.block) ∧ (IntSl X3 b1 M ∧ ∀ p, b1 = some p → w.heap.size + 2 ≤ p.block) ∧ (IntSl X3 b2 L ∧ ∀ p, b2 = some p → w.heap.size + 2 ≤ p.block)) := by
    obtain ⟨p1, ⟨p2, p3⟩, ⟨q1, q2, q3⟩, r0, r1⟩ := S2.out
    have hz := lt_of_block p3
    exact ⟨below_self p1 hb, ⟨blk_below p2 hb, blk_below p3 hb⟩, ⟨q1.below hb, q2.below hb, q3.below hb⟩, ⟨r0.1.below hb, r0.2⟩, ⟨r1.1.below hb, r1.2⟩, hi, fun p hp => by have := hf p hp; omega⟩
  clear hi hf hb S2
  refine hK.out _ _ ⟨blk_cell S3.out.2.1.1 0 rfl, blk_cell S3.out.2.1.1 1 rfl, blk_cell S3.out.2.1.1 2 rfl⟩ (fun _ => ?_)
  clear hK
  simp only [List.setIfInBounds_toArray, List.set_cons_zero, List.set_cons_succ]
  refine wpAnyH_take (i := 9) (v := tv b0 N.length e0 b1 M.length e1 b2 L.length e2) rfl (by kernel_rfl) (by kernel_rfl) (by kernel_rfl) (fun _ _ _ h => h) (Or.inl ⟨by rfl, by (intro W hSw; clear hSw; go_simp)⟩) ⟨blk_cell S3.out.2.1.1 0 rfl, blk_cell S3.out.2.1.1 1 rfl, blk_cell S3.out.2.1.1 2 rfl⟩ ?_
  simp only [Act.put, List.getElem_toArray, List.getElem_cons_succ, List.getElem_cons_zero, List.setIfInBounds_toArray, List.set_cons_zero, List.set_cons_succ]
  refine wpAnyH_done (by kernel_rfl) ?_ _
  show wpList _ _ _ (opsAt _ [10]) _ _
  simp only [opsAt, List.filterMap_cons, List.filterMap_nil, List.getElem?_toArray, List.getElem?_cons_succ, List.getElem?_cons_zero]
  have z0 := blk_cell S3.out.2.1.2 0 rfl
  have z1 := blk_cell S3.out.2.1.2 1 rfl
  have z2 := blk_cell S3.out.2.1.2 2 rfl
  have y0 := blk_free (j := 0) S3.out.2.1.2
  have y1 := blk_free (j := 1) S3.out.2.1.2
  have y2 := blk_free (j := 2) S3.out.2.1.2
  go_wp2_with (fail)
  have HF : Hid (∀ W, W = ((X3.setCell ⟨w.heap.size + 1, 0, none⟩ (.slice b0 N.length e0)).setCell ⟨w.heap.size + 1, 1, none⟩ (.slice b1 M.length e1)).setCell ⟨w.heap.size + 1, 2, none⟩ (.slice b2 L.length e2) → W.heap[w.heap.size + 1]? = some (.cells #[.slice b0 N.length e0, .slice b1 M.length e1, .slice b2 L.length e2] 58 (0, 0)) ∧ (IntSl W b0 N ∧ IntSl W b1 M ∧ IntSl W b2 L) ∧ Below w.heap.size w W) := by
    rintro W rfl
    obtain ⟨p1, ⟨p2, p3⟩, _, r0, r1, r2⟩ := S3.out
    have ne : ∀ {b : Option Addr}, (∀ p, b = some p → w.heap.size + 2 ≤ p.block) → ∀ p, b = some p → p.block ≠ w.heap.size + 1 := fun h p hp => by have := h p hp; omega
    refine ⟨blk_setCell (j := 2) (blk_setCell (j := 1) (blk_setCell (j := 0) p3)), ⟨?_, ?_, ?_⟩, ((p1.setCell (p := ⟨w.heap.size + 1, 0, none⟩) (by show w.heap.size ≤ w.heap.size + 1; omega) _).setCell (p := ⟨w.heap.size + 1, 1, none⟩) (by show w.heap.size ≤ w.heap.size + 1; omega) _).setCell (p := ⟨w.heap.size + 1, 2, none⟩) (by show w.heap.size ≤ w.heap.size + 1; omega) _⟩
    · exact ints_set (ints_set (ints_set r0.1 (ne r0.2)) (ne r0.2)) (ne r0.2)
    · exact ints_set (ints_set (ints_set r1.1 (ne r1.2)) (ne r1.2)) (ne r1.2)
    · exact ints_set (ints_set (ints_set r2.1 (ne r2.2)) (ne r2.2)) (ne r2.2)
  have HBB : Hid ((∀ p, b0 = some p → w.heap.size ≤ p.block) ∧ (∀ p, b1 = some p → w.heap.size ≤ p.block) ∧ (∀ p, b2 = some p → w.heap.size ≤ p.block)) := by
    obtain ⟨_, _, _, r0, r1, r2⟩ := S3.out
    exact ⟨fun p hp => by have := r0.2 p hp; omega, fun p hp => by have := r1.2 p hp; omega, fun p hp => by have := r2.2 p hp; omega⟩
  clear z0 z1 z2 y0 y1 y2 S3
  generalize hWe : World.setCell _ _ _ = We
  have HG := Lib.hid (HF.out We hWe.symm)
  clear hWe HF
  have r0 := blk_cell HG.out.1 0 rfl
  have r1 := blk_cell HG.out.1 1 rfl
  have r2 := blk_cell HG.out.1 2 rfl
  refine bodyPost_ret (v := tv b0 N.length e0 b1 M.length e1 b2 L.length e2) (by simp [results, Tryz.results27, go_sem, r0, r1, r2]) rfl ?_
  exact ⟨b0, e0, b1, e1, b2, e2, rfl, HG.out.2.1, HG.out.2.2, HBB.out⟩
end Go.Proofs.YtmebmcipmemofaaGreat
