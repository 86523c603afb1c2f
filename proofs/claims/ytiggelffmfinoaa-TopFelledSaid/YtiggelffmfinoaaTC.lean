/-
  target.Falls over this seat's program.
  What is proved: which target falls by each shot, by the plain notions of this text, in memory of the call's own; nothing that was there before has turned.
  Conditions: a position that there is, at most five shots within their limits.
-/
import Derived.Test.YtiggelffmfinoaaTB
namespace Go.Proofs.Ytiggelffmfinoaa
open Go.RowKit Go.Shelf
attribute [local go_sem] Oper.semAt_some

/-- What a shot makes of the targets that stand, and of what has fallen so far. -/
def fallStep (p : Nat) (S : List Int × List Int) (s : Sp) : List Int × List Int :=
  if idxB (hitB p s) S.1 = -1 then (S.1, S.2 ++ [0]) else (S.1.take (idxB (hitB p s) S.1).toNat ++ S.1.drop ((idxB (hitB p s) S.1).toNat + 1), S.2 ++ [S.1[(idxB (hitB p s) S.1).toNat]?.getD 0])
def fallTo (p : Nat) (xs : List Sp) (k : Nat) : List Int × List Int := (xs.take k).foldl (fallStep p) ([1, 2, 3, 4, 5], [])
def fallsL (p : Nat) (xs : List Sp) : List Int := (fallTo p xs xs.length).2
theorem fallTo_succ (p : Nat) (xs : List Sp) (k : Nat) (hk : k < xs.length) : fallTo p xs (k + 1) = fallStep p (fallTo p xs k) xs[k] := by
  unfold fallTo
  rw [List.take_add_one, List.getElem?_eq_getElem hk, List.foldl_append]
  rfl
theorem idxB_cases (q : Int → Bool) (xs : List Int) : idxB q xs = -1 ∨ ∃ j : Nat, j < xs.length ∧ idxB q xs = j := by
  induction xs with
  | nil => exact .inl rfl
  | cons x xs ih =>
    unfold idxB
    by_cases h : q x = true
    · right; exact ⟨0, by simp, by rw [if_pos h]; rfl⟩
    · rw [if_neg h]
      rcases ih with ih | ⟨j, hj, ih⟩
      · left; rw [if_pos ih]
      · right; exact ⟨j + 1, by simpa using hj, by rw [ih, if_neg (by omega)]; omega⟩
structure SF (S : List Int × List Int) (k : Nat) : Prop where
  fl : S.2.length = k
  st : 5 ≤ S.1.length + k
  le : S.1.length ≤ 5
  bd : ∀ x ∈ S.1, 1 ≤ x ∧ x ≤ 5
theorem fallTo_sf (p : Nat) (xs : List Sp) (k : Nat) (hk : k ≤ xs.length) : SF (fallTo p xs k) k := by
  induction k with
  | zero =>
    rw [show fallTo p xs 0 = ([1, 2, 3, 4, 5], []) from rfl]
    exact ⟨rfl, by decide, by decide, by decide⟩
  | succ k ih =>
    have h := ih (by omega)
    rw [fallTo_succ p xs k (by omega)]
    generalize fallTo p xs k = S at h
    unfold fallStep
    rcases idxB_cases (hitB p xs[k]) S.1 with hi | ⟨j, hj, hi⟩
    · rw [if_pos hi]
      exact ⟨by simp [h.fl], by have := h.st; show 5 ≤ S.1.length + (k + 1); omega, h.le, h.bd⟩
    · rw [hi, if_neg (by omega)]
      have h1 := h.st; have h2 := h.le
      refine ⟨by simp [h.fl], by simp; omega, by simp; omega, fun x hx => ?_⟩
      rcases List.mem_append.1 hx with hx | hx
      · exact h.bd x (List.mem_of_mem_take hx)
      · exact h.bd x (List.mem_of_mem_drop hx)

/-- What the memory holds behind k shots. -/
structure FT (w : World) (p n bs bf : Nat) (S : List Int × List Int) (k : Nat) (W : World) : Prop where
  b : Below w.heap.size w W
  box : W.heap[w.heap.size]? = some (.cells #[.int .i64 (p : Int)] 30 (0, 0))
  st : ∃ rest, S.1.length + rest.length = 5 ∧ W.heap[bs]? = some (.cells ((S.1 ++ rest).map (Value.int .i64)).toArray 3 (0, 0))
  fl : W.heap[bf]? = some (.cells ((S.2 ++ List.replicate (n - k) 0).map (Value.int .i64)).toArray 3 (0, 0))
  h1 : w.heap.size < bs
  h2 : bs < bf
theorem FT.below {w W W' : World} {p n bs bf k : Nat} {S : List Int × List Int} (h : FT w p n bs bf S k W) (hb : Below W.heap.size W W') : FT w p n bs bf S k W' := by
  obtain ⟨rest, hr, hs⟩ := h.st
  exact ⟨below_self h.b hb, blk_below h.box hb, ⟨rest, hr, blk_below hs hb⟩, blk_below h.fl hb, h.h1, h.h2⟩
theorem FT.miss {w W : World} {p n bs bf k : Nat} {S : List Int × List Int} (h : FT w p n bs bf S k W) (hk : k < n) (hS : S.2.length = k) : FT w p n bs bf (S.1, S.2 ++ [0]) (k + 1) W := by
  refine ⟨h.b, h.box, h.st, ?_, h.h1, h.h2⟩
  rw [h.fl]
  rw [show n - k = (n - (k + 1)) + 1 by omega, List.replicate_succ]
  simp
theorem set_row (A : List Int) (k r : Nat) (x : Int) (hA : A.length = k) : (((A ++ List.replicate (r + 1) 0).map (Value.int .i64)).toArray).setIfInBounds k (.int .i64 x) = (((A ++ [x]) ++ List.replicate r 0).map (Value.int .i64)).toArray := by
  subst hA
  rw [List.setIfInBounds_toArray, List.replicate_succ]
  simp
theorem FT.fell {w W W' : World} {p n bs bf k j : Nat} {S : List Int × List Int} (h : FT w p n bs bf S k W) (hk : k < n) (hS : S.2.length = k) (hj : j < S.1.length) (x : Int)
    (hA : Apart (fun i => i = bs) (W.setCell ⟨bf, k, none⟩ (.int .i64 x)) W') (rest : List Int) (hr : S.1.length + rest.length = 5) (hs : W'.heap[bs]? = some (.cells (((S.1.take j ++ S.1.drop (j + 1)) ++ (0 :: rest)).map (Value.int .i64)).toArray 3 (0, 0))) :
    FT w p n bs bf (S.1.take j ++ S.1.drop (j + 1), S.2 ++ [x]) (k + 1) W' := by
  have e1 := h.h1
  have e2 := h.h2
  have hc : (W.setCell ⟨bf, k, none⟩ (.int .i64 x)).heap[bf]? = some (.cells (((S.2 ++ [x]) ++ List.replicate (n - (k + 1)) 0).map (Value.int .i64)).toArray 3 (0, 0)) := by
    have h0 := blk_setCell (j := k) (u := .int .i64 x) h.fl
    rw [show n - k = (n - (k + 1)) + 1 by omega, set_row S.2 k _ x hS] at h0
    exact h0
  have hbx : (W.setCell ⟨bf, k, none⟩ (.int .i64 x)).heap[w.heap.size]? = some (.cells #[.int .i64 (p : Int)] 30 (0, 0)) := (Below.heap_setCell _ _ _ _ (by show w.heap.size ≠ bf; omega)).trans h.box
  refine ⟨?_, (hA.block _ (lt_of_block hbx) (by show ¬ (_ = _); omega)).trans hbx, ⟨0 :: rest, by simp; omega, hs⟩, (hA.block _ (lt_of_block hc) (by show ¬ (_ = _); omega)).trans hc, e1, e2⟩
  have hb := h.b.setCell (p := ⟨bf, k, none⟩) (by show w.heap.size ≤ bf; omega) (.int .i64 x)
  exact ⟨hA.os.trans hb.os, hA.tape.trans hb.tape, hA.output.trans hb.output, Nat.le_trans hb.size hA.size, fun i hi => (hA.block i (Nat.lt_of_lt_of_le hi hb.size) (by show ¬ (_ = _); omega)).trans (hb.block i hi)⟩
theorem eg20 : ∀ args w, (callFunc 20 args).run Try.prog w = .ok (.enter 20 args) w := enters_of Try.func20 (by kernel_rfl) rfl
theorem shotB_bd {s : Sp} (h : shotB s = true) : -20000 ≤ s.lo ∧ s.lo ≤ 20000 ∧ -20000 ≤ s.hi ∧ s.hi ≤ 20000 := by
  simp [shotB, withinB] at h; omega
theorem ints_row {W : World} {B : Nat} {xs rest : List Int} {t : TypeId} (h : W.heap[B]? = some (.cells ((xs ++ rest).map (Value.int .i64)).toArray t (0, 0))) : IntSl W (some ⟨B, 0, none⟩) xs :=
  fun _ => ⟨B, 0, rfl, lt_of_block h, fun j hj => by rw [Nat.zero_add]; exact blk_cell h j (by simp [List.getElem?_append_left, hj])⟩

def OutFalls (w : World) (p : Nat) (xs : List Sp) (e : Ending) (w' : World) : Prop :=
  ∃ g, e = .returned (.tuple #[.slice (some ⟨g, 0, none⟩) xs.length xs.length, .int .i64 0]) ∧ w'.heap[g]? = some (.cells ((fallsL p xs).map (Value.int .i64)).toArray 3 (0, 0)) ∧ w.heap.size ≤ g ∧ Below w.heap.size w w'
set_option maxRecDepth 100000 in
set_option maxHeartbeats 4000000 in
theorem falls_ok (p : Nat) (a : Option Addr) (xs : List Sp) (cap n : Nat) (w : World) (hp : p < 2) (hx : Sl 2 Sp.cells w a xs) (hn : xs.length = n) (hl : n ≤ 5) (hv : ∀ x ∈ xs, shotB x = true) :
    Calls Try.prog 7 #[.int .i64 (p : Int), .slice a n cap] w (OutFalls w p xs) := by
  have HX := Lib.hid (And.intro hx (And.intro hn hv))
  obtain ⟨Wa, hWa⟩ : ∃ Wa, w.alloc (.cells #[.int .i64 (p : Int)] 30) = Wa := ⟨_, rfl⟩
  have hba : Below w.heap.size w Wa := by rw [← hWa]; exact alloc1 w _
  have hbox : Wa.heap[w.heap.size]? = some (.cells #[.int .i64 (p : Int)] 30 (0, 0)) := by rw [← hWa]; exact heap_alloc_new w _
  have HC := checkShots_ok p a xs cap Wa hp (hx.below hba) (by omega) hv
  rw [hn] at HC
  have HC := Lib.hid HC
  have HB := Lib.hid (And.intro hba hbox)
  have c0 := blk_cell hbox 0 rfl
  clear hx hn hv hba hbox
  go_enter Try.func7, Try.ntmps7
  go_wp2_with (fail)
  clear c0 hWa
  refine HC.out.mono ?_
  rintro e w1 ⟨rfl, hb1⟩
  have H1 := Lib.hid (And.intro (below_self HB.out.1 hb1) (blk_below HB.out.2 hb1))
  clear HB HC hb1
  obtain ⟨W2, hW2⟩ : ∃ W2, w1.alloc (.cells #[.int .i64 1, .int .i64 2, .int .i64 3, .int .i64 4, .int .i64 5] 3) = W2 := ⟨_, rfl⟩
  have hmk := mkInts n (by omega) W2
  obtain ⟨W3, hW3⟩ : ∃ W3, W2.alloc (.cells ((List.replicate n (0 : Int)).map (Value.int .i64)).toArray 3) = W3 := ⟨_, rfl⟩
  rw [hW3] at hmk
  have HM : Hid (FT w p n w1.heap.size W2.heap.size (fallTo p xs 0) 0 W3) := by
    have hb2 : Below w1.heap.size w1 W2 := by rw [← hW2]; exact alloc1 w1 _
    have hb3 : Below W2.heap.size W2 W3 := by rw [← hW3]; exact alloc1 W2 _
    refine ⟨below_self (below_self H1.out.1 hb2) hb3, blk_below (blk_below H1.out.2 hb2) hb3, ⟨[], rfl, ?_⟩, ?_, lt_of_block H1.out.2, ?_⟩
    · refine blk_below ?_ hb3
      rw [← hW2]; exact heap_alloc_new w1 _
    · rw [← hW3]
      exact heap_alloc_new W2 _
    · rw [← hW2]; simp
  have HW := Lib.hid (And.intro hW2 hW3)
  clear hW3
  go_wp2_with (fail)
  clear hmk HW
  obtain ⟨bs, hbs⟩ : ∃ bs, w1.heap.size = bs := ⟨_, rfl⟩
  obtain ⟨bf, hbf⟩ : ∃ bf, W2.heap.size = bf := ⟨_, rfl⟩
  rw [hbs, hbf] at HM
  rw [hbs, hbf]
  clear hbs hbf hW2 H1
  go_loopw [7, 24] (fun v i wr => ∃ (k m : Nat) (S : List Int × List Int), i = .int .i64 (k : Int) ∧ k ≤ n ∧ v = .slice (some ⟨bs, 0, none⟩) m 5 ∧ Hid (S.1.length = m ∧ S = fallTo p xs k ∧ FT w p n bs bf S k wr)) (fun _ i _ => n - (intOf i).toNat)
  case atStart => exact ⟨0, 5, _, rfl, by omega, rfl, rfl, rfl, HM.out⟩
  case round =>
    obtain ⟨k, m, S, rfl, hk, rfl, HR⟩ := hrel
    by_cases hlt : k < n
    · have gl : decide ((k : Int) < (n : Int)) = true := decide_eq_true (by omega)
      obtain ⟨hm, hS, hF⟩ := HR.out
      obtain ⟨hx, hn, hv⟩ := HX.out
      have hsf := fallTo_sf p xs k (by omega)
      rw [← hS] at hsf
      obtain ⟨b, off, ha, hbs, hc⟩ := hx (by omega)
      subst ha
      have hxk : xs[k]? = some (xs[k]'(by omega)) := List.getElem?_eq_getElem (by omega)
      obtain ⟨s, hs⟩ : ∃ s, xs[k]'(by omega) = s := ⟨_, rfl⟩
      rw [hs] at hxk
      have hsv : shotB s = true := by rw [← hs]; exact hv _ (List.getElem_mem _)
      have hstep : fallTo p xs (k + 1) = fallStep p S s := by rw [fallTo_succ p xs k (by omega), ← hS, hs]
      have hc0 := (hF.b.cell (p := ⟨b, off + k * 2, none⟩) hbs).trans (hc k s 0 _ hxk rfl)
      have hc1 := (hF.b.cell (p := ⟨b, off + k * 2 + 1, none⟩) hbs).trans (hc k s 1 _ hxk rfl)
      have hz : ((m : Int) == 0) = false := by have := hsf.st; simp; omega
      have hm1 : 1 ≤ m ∧ m ≤ 5 := by have := hsf.st; have := hsf.le; omega
      have HQ := Lib.hid (And.intro hm (And.intro hsf (And.intro hstep hsv)))
      have hfs : S.2.length = k := hsf.fl
      have HF := Lib.hid (And.intro hF hfs)
      obtain ⟨w2, hw2⟩ : ∃ w2, wr.alloc (.cells #[.int .i64 s.lo, .int .i64 s.hi] 39) = w2 := ⟨_, rfl⟩
      have hb2 : Below wr.heap.size wr w2 := by rw [← hw2]; exact alloc1 wr _
      have hB2 : w2.heap[wr.heap.size]? = some (.cells #[.int .i64 s.lo, .int .i64 s.hi] 39 (0, 0)) := by rw [← hw2]; exact heap_alloc_new wr _
      have hF2 := hF.below hb2
      obtain ⟨rest, hr, hst⟩ := hF2.st
      have HI := indexFunc_any (some ⟨bs, 0, none⟩) S.1 5 20 #[.pointer (some ⟨w.heap.size, 0, none⟩), .pointer (some ⟨wr.heap.size, 0, none⟩)] (hitB p s) w2 (ints_row hst) (by have := hsf.le; omega) eg20
        (fun x hx W hW => falls1_any p s x _ _ W hp (hsf.bd x hx) (shotB_bd hsv) (blk_below hF2.box hW) (blk_below hB2 hW))
      rw [hm] at HI
      have hcs := idxB_cases (hitB p s) S.1
      obtain ⟨r, hri⟩ : ∃ r, idxB (hitB p s) S.1 = r := ⟨_, rfl⟩
      rw [hri] at HI hcs
      have HI := Lib.hid HI
      have H2 := Lib.hid (And.intro hF2 (And.intro hri (And.intro hr hst)))
      clear hm hS hF hx hn hv hsf hc hxk hs hsv hstep hfs hb2 hB2 hF2 hr hst hri HR
      go_wp2_with (fail)
      refine HI.out.mono ?_
      rintro e w3 ⟨rfl, hb3⟩
      clear hw2 hc0 hc1 gl hz HI
      rcases hcs with rfl | ⟨j, hj, rfl⟩
      · have HN : Hid (FT w p n bs bf (fallTo p xs (k + 1)) (k + 1) w3 ∧ (fallTo p xs (k + 1)).1.length = m) := by
          obtain ⟨hm, hsf, hstep, _⟩ := HQ.out
          obtain ⟨hF2, hri, hr, hst⟩ := H2.out
          rw [hstep]
          unfold fallStep
          rw [if_pos hri]
          exact ⟨(hF2.below hb3).miss hlt HF.out.2, hm⟩
        clear H2 hb3 HF HQ
        go_wp2_with (fail)
        go_roundw
        case rel => exact ⟨k + 1, m, _, by go_num, by omega, rfl, HN.out.2, rfl, HN.out.1⟩
        case measure => simp [intOf]; omega
      · obtain ⟨x, hx⟩ : ∃ x, S.1[j]'hj = x := ⟨_, rfl⟩
        have hjm : j < m := by have := HQ.out.1; omega
        obtain ⟨hF2, hri, hr, hst⟩ := H2.out
        have hF3 := hF2.below hb3
        have hst3 := blk_below hst hb3
        have mj : w3.cell? ⟨bs, j, none⟩ = some (.int .i64 x) := blk_cell hst3 j (by simp [List.getElem?_append_left, hj, hx])
        have mk : w3.cell? ⟨bf, k, none⟩ = some (.int .i64 0) := blk_cell hF3.fl k (by
          have := HF.out.2
          rw [List.getElem?_toArray, List.getElem?_map, List.getElem?_append_right (by omega), this, Nat.sub_self, List.getElem?_replicate, if_pos (by omega)]; rfl)
        have fk : w3.frozen? ⟨bf, k, none⟩ = false := blk_free (j := k) hF3.fl
        have hlen : (S.1 ++ rest).length ≤ 1000 := by simp; omega
        have hgj : decide ((0 : Int) ≤ (j : Int)) = true := decide_eq_true (by omega)
        have p1 : IntKind.i64.wrap ((j : Int) + 1) = (j : Int) + 1 := IntWalk.i64_in _ (by omega)
        obtain ⟨w4, hw4⟩ : ∃ w4, w3.setCell ⟨bf, k, none⟩ (.int .i64 x) = w4 := ⟨_, rfl⟩
        have hst4 : w4.heap[bs]? = some (.cells ((S.1 ++ rest).map (Value.int .i64)).toArray 3 (0, 0)) := by
          rw [← hw4]; exact (Below.heap_setCell _ _ _ _ (by show bs ≠ bf; have := hF3.h2; omega)).trans hst3
        have HD := delete_t bs j S.1 rest w4 hst4 hj (by rw [List.length_append] at hlen; exact hlen)
        rw [hr, HQ.out.1] at HD
        have HD := Lib.hid HD
        have H3 := Lib.hid (And.intro hF3 (And.intro hri (And.intro hr (And.intro hw4 hx))))
        clear hF2 hri hr hst hF3 hst3 hlen hst4 H2 hb3 hx
        go_wp2_with (fail)
        refine HD.out.mono ?_
        rintro e w5 ⟨rfl, hst5, hA⟩
        have HN : Hid (FT w p n bs bf (fallTo p xs (k + 1)) (k + 1) w5 ∧ (fallTo p xs (k + 1)).1.length = m - 1) := by
          obtain ⟨hm, hsf, hstep, _⟩ := HQ.out
          obtain ⟨hF3, hri, hr, hw4, hx⟩ := H3.out
          rw [hstep]
          unfold fallStep
          rw [hri, if_neg (by omega)]
          simp only [Int.toNat_natCast]
          rw [List.getElem?_eq_getElem hj, hx]
          refine ⟨hF3.fell hlt HF.out.2 hj x (by rw [hw4]; exact hA) rest hr hst5, ?_⟩
          simp
          omega
        clear H3 HD HF HQ hA hst5 hw4 mj mk fk p1 hgj
        go_wp2_with (fail)
        go_roundw
        case rel => exact ⟨k + 1, m - 1, _, by go_num, by omega, rfl, HN.out.2, rfl, HN.out.1⟩
        case measure => simp [intOf]; omega
    · have hkn : k = n := by omega
      subst hkn
      have gl : decide ((k : Int) < (k : Int)) = false := decide_eq_false (by omega)
      have HF := Lib.hid (And.intro HR.out.2 HX.out.2.1)
      clear HR
      go_wp2_with (fail)
      go_ret2
      obtain ⟨⟨hS, hF⟩, hn⟩ := HF.out
      have hfl := hF.fl
      rw [Nat.sub_self, List.replicate_zero, List.append_nil, hS] at hfl
      refine ⟨bf, by rw [hn]; rfl, ?_, by have := hF.h1; have := hF.h2; omega, hF.b⟩
      unfold fallsL
      rw [hn]
      exact hfl
end Go.Proofs.Ytiggelffmfinoaa
