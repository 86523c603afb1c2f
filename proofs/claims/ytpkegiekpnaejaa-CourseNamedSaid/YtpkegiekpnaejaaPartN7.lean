/-
The contract of Deck.Shuffle over this seat's program.
  What is proved: it hands back the numbers from 0 on, in some order; the deck has dealt, and nothing else that was there before has turned.
  Conditions: a deck that has dealt at most 100000 times; 1 to 6 numbers.
The contract of CourseNamed over this seat's program.
  What is proved: it answers true; nothing that was there before has turned.
  Conditions: lists of bytes that read as such.
-/
import Derived.Test.YtpkegiekpnaejaaPartN6
import Derived.StillTailTactics
namespace Go.Proofs.Ytpkegiekpnaejaa
open Go.RowKit Go.Shelf
attribute [local go_sem] Oper.semAt_some

/-- A row's beginning: numbers. -/
def RowI (W : World) (g : Nat) (o : List Int) : Prop := ∃ cur : Array Value, W.heap[g]? = some (.cells cur 3 (0, 0)) ∧ cur.toList.take o.length = o.map (Value.int .i64)
theorem RowI.cell {W : World} {g : Nat} {o : List Int} (h : RowI W g o) {j : Nat} (hj : j < o.length) : W.cell? ⟨g, j, none⟩ = some (.int .i64 o[j]) := by
  obtain ⟨cur, h1, h2⟩ := h
  refine blk_cell h1 j ?_
  have h3 : (cur.toList.take o.length)[j]? = some (.int .i64 o[j]) := by rw [h2, List.getElem?_map, List.getElem?_eq_getElem hj]; rfl
  rw [List.getElem?_take_of_lt hj, Array.getElem?_toList] at h3
  exact h3
theorem RowI.free {W : World} {g : Nat} {o : List Int} (h : RowI W g o) (j : Nat) : W.frozen? ⟨g, j, none⟩ = false := by
  obtain ⟨cur, h1, _⟩ := h; exact blk_free h1
theorem RowI.set {W : World} {g : Nat} {o : List Int} (h : RowI W g o) (j : Nat) (x : Int) : RowI (W.setCell ⟨g, j, none⟩ (.int .i64 x)) g (o.set j x) := by
  obtain ⟨cur, h1, h2⟩ := h
  exact ⟨_, blk_setCell h1, by rw [List.length_set, Array.toList_setIfInBounds, List.take_set, h2, List.map_set]⟩
theorem RowI.keep {W W' : World} {g : Nat} {o : List Int} (h : RowI W g o) (hk : W'.heap[g]? = W.heap[g]?) : RowI W' g o := by
  obtain ⟨cur, h1, h2⟩ := h
  exact ⟨cur, hk.trans h1, h2⟩
theorem RowI.ints {W : World} {g : Nat} {o : List Int} (h : RowI W g o) : IntSl W (some ⟨g, 0, none⟩) o := fun _ => by
  have hl : g < W.heap.size := by obtain ⟨cur, h1, _⟩ := h; exact lt_of_block h1
  refine ⟨g, 0, rfl, hl, fun j hj => ?_⟩
  rw [Nat.zero_add, h.cell hj, List.getElem?_eq_getElem hj]; rfl
theorem swap_perm (o : List Int) (p q : Nat) (hp : p < o.length) (hq : q < o.length) : ((o.set q o[p]).set p o[q]).Perm o := by
  have h := Array.swap_perm (xs := o.toArray) (i := q) (j := p) (by simpa using hq) (by simpa using hp)
  have h2 := h.toList
  rw [Array.toList_swap] at h2
  simpa using h2

/-- What lies while the deck shuffles. -/
structure SI (w0 : World) (B L g : Nat) (a : Option Addr) (n cap k : Nat) (W : World) (o : List Int) : Prop where
  ap : Apart (fun j => j = B) w0 W
  dk : Deck W B L a n cap k
  row : RowI W g o
  hg : w0.heap.size ≤ g
  hL : L ≤ w0.heap.size
theorem SI.step {w0 W W' : World} {B L g : Nat} {a : Option Addr} {n cap k k' : Nat} {o : List Int} (h : SI w0 B L g a n cap k W o) (ha : Apart (fun j => j = B) W W') (hd : Deck W' B L a n cap k') : SI w0 B L g a n cap k' W' o := by
  have hB : B < w0.heap.size := Nat.lt_of_lt_of_le h.dk.lt.1 h.hL
  have hgl : g < W.heap.size := by obtain ⟨cur, h1, _⟩ := h.row; exact lt_of_block h1
  exact ⟨h.ap.trans ha, hd, h.row.keep (ha.block _ hgl (by have := h.hg; omega)), h.hg, h.hL⟩
theorem SI.below {w0 W W' : World} {B L g : Nat} {a : Option Addr} {n cap k : Nat} {o : List Int} (h : SI w0 B L g a n cap k W o) (hb : Below W.heap.size W W') : SI w0 B L g a n cap k W' o := h.step (Apart.of_below hb) (h.dk.below hb)
theorem SI.put {w0 W : World} {B L g : Nat} {a : Option Addr} {n cap k : Nat} {o : List Int} (h : SI w0 B L g a n cap k W o) (j : Nat) (x : Int) : SI w0 B L g a n cap k (W.setCell ⟨g, j, none⟩ (.int .i64 x)) (o.set j x) := by
  have ho : ∀ m, m ≠ g → (W.setCell ⟨g, j, none⟩ (.int .i64 x)).heap[m]? = W.heap[m]? := fun m hm => Below.heap_setCell _ _ _ _ hm
  have hs : (W.setCell ⟨g, j, none⟩ (.int .i64 x)).heap.size = W.heap.size := World.size_setCell _ _ _
  have h1 := h.hg
  have h2 := h.hL
  exact ⟨⟨h.ap.os, h.ap.tape, h.ap.output, by rw [hs]; exact h.ap.size, fun m hm hB => (ho m (by omega)).trans (h.ap.block m hm hB)⟩, h.dk.keep (by rw [hs]; exact Nat.le_refl _) (fun m hm => ho m (by omega)), h.row.set j x, h.hg, h.hL⟩
theorem SI.mono {w0 W : World} {B L g : Nat} {a : Option Addr} {n cap k k' : Nat} {o : List Int} (h : SI w0 B L g a n cap k W o) (hk : k ≤ k') : SI w0 B L g a n cap k' W o := ⟨h.ap, h.dk.mono hk, h.row, h.hg, h.hL⟩
/-- The first numbers. -/
def firstI (j : Nat) : List Int := (List.range j).map Int.ofNat
def firstV (j : Nat) : List Value := (firstI j).map (Value.int .i64)
theorem firstV_succ (j : Nat) : firstV (j + 1) = firstV j ++ [.int .i64 (j : Int)] := by
  unfold firstV firstI
  rw [List.range_succ, List.map_append, List.map_append]; rfl
theorem firstI_len (j : Nat) : (firstI j).length = j := by simp [firstI]

set_option maxHeartbeats 4000000 in
set_option maxRecDepth 100000 in
theorem shuffle_any (B L : Nat) (a : Option Addr) (n cap k m : Nat) (w : World) (hd : Deck w B L a n cap k) (hk : k ≤ 100000) (hm : 1 ≤ m ∧ m ≤ 6) :
    Calls Try.prog 62 #[.pointer (some ⟨B, 0, none⟩), .int .i64 m] w fun e w' => ∃ (g oc : Nat) (o : List Int), e = .returned (.slice (some ⟨g, 0, none⟩) m oc) ∧ o.Perm (firstI m) ∧ SI w B L g a n cap (k + 100) w' o := by
  obtain ⟨i0, hi, hz0, hz1, hz2⟩ := info_parts Try.info3
  have HD := Lib.hid hd
  clear hd
  go_enter Try.func62, Try.ntmps62
  have hmx : ¬ ((m : Int) < 0) := by omega
  go_wp2_with (fail)
  all_goals (try (exfalso; omega))
  go_loopw [5, 11] (fun v i wr => ∃ j : Nat, j ≤ m ∧ i = .int .i64 j ∧ wr.ownsRow w.heap.size 3 1 v j (firstV j) ∧ Below w.heap.size w wr) (fun _ i _ => m - (intOf i).toNat)
  case atStart => exact ⟨0, Nat.zero_le _, rfl, World.ownsRow_nil _ _ _ _, Below.refl _ _⟩
  case round =>
    obtain ⟨j, hj, rfl, hown, hbw⟩ := hrel
    by_cases hlt : j < m
    · have hsz := hbw.size
      go_wp2_with (at_builtin; refine wpList_append_own _ rfl _ _ 27 rfl w.heap.size 3 i0 (.int .i64 0) 1 8 Try.underlying27 hi hz0 hz1 hz2 rfl (by decide) _ _ _ rfl (hown.alloc _) ⟨wr.heap.size, 0, none⟩ 1 1 [.int .i64 j] rfl rfl ?c1 ?c2 ?c3 ?c4 ?c5 ?_)
      case c1 => exact cell_one_new _ _ _
      case c2 => intro u hu; simp at hu; subst hu; rfl
      case c3 => unfold maxLen; omega
      case c4 => omega
      case c5 => simp; omega
      intro v' w2 hown2 hgrow2 _
      have hb3 : Below w.heap.size w w2 := (hbw.alloc hbw.size _).grown hgrow2 (by simp; omega) (fun q hq => (hown.lt q hq).1)
      have hown3 : w2.ownsRow w.heap.size 3 1 v' (j + 1) (firstV (j + 1)) := by rw [firstV_succ]; exact hown2
      have HO := Lib.hid (And.intro hown3 hb3)
      clear hown3
      clear hown2 hgrow2 hown hb3
      go_wp2
      go_roundw
      case rel => exact ⟨j + 1, by omega, by go_num, HO.out⟩
      case measure => simp [intOf]; omega
    · have hjm : j = m := by omega
      subst hjm
      rcases hown.2 with ⟨_, h0⟩ | ⟨g, oc, cur, rfl, hgb, hg, hnc, hcm, hcs, htake⟩
      · omega
      have HS : Hid (SI w B L g a n cap k wr (firstI j)) := ⟨Apart.of_below hbw, HD.out.below hbw, ⟨cur, hg, by rw [firstI_len]; simpa [firstV] using htake⟩, hgb, HD.out.lt.2⟩
      clear hown hbw hgb hg hnc hcm hcs htake hlt hj
      go_wp2_with (fail)
      go_loopw [7] (fun i W => ∃ (q : Nat) (o : List Int), i = .int .i64 q ∧ q < j ∧ Hid (o.Perm (firstI j) ∧ SI w B L g a n cap (k + (j - q)) W o)) (fun i _ => (intOf i).toNat)
      case atStart => exact ⟨j - 1, _, by simp; omega, by omega, List.Perm.refl _, HS.out.mono (by omega)⟩
      case round =>
        obtain ⟨q, o, rfl, hq, hI⟩ := hrel
        obtain ⟨V, hV⟩ : ∃ V, V = wr := ⟨_, rfl⟩
        subst hV
        by_cases h0 : 0 < q
        · go_wp2_with (fail)
          refine (draw_any B L a n cap _ (q + 1) V hI.out.2.dk (by omega) (by omega)).mono ?_
          rintro e V1 ⟨⟨p, rfl, p1, p2⟩, hD, hA⟩
          have S1 := Lib.hid (hI.out.2.step hA hD)
          clear hD hA
          obtain ⟨pp, rfl⟩ := Int.eq_ofNat_of_zero_le p1
          have hpq : pp ≤ q := by omega
          clear p1 p2
          have hlo : Hid (o.length = j) := by show o.length = j; rw [hI.out.1.length_eq, firstI_len]
          have hpj : pp < j := by omega
          obtain ⟨x, hx⟩ : ∃ x, o[pp]? = some x := ⟨_, List.getElem?_eq_getElem (by have := hlo.out; omega)⟩
          obtain ⟨y, hy⟩ : ∃ y, o[q]? = some y := ⟨_, List.getElem?_eq_getElem (by have := hlo.out; omega)⟩
          have HXY := Lib.hid (And.intro hx hy)
          clear hx hy
          go_upto_region 11 with (fail)
          refine wp_region_split (S := fun _ => True) [14, 15] 14 (by kernel_rfl) (by kernel_rfl) rfl ?_
          have S2 := Lib.hid (S1.out.below (Below.refl V1.heap.size V1).drew)
          clear S1
          generalize V1.drew = V2 at S2 ⊢
          rw [show firstL _ [14, 15] = #[false, false, false, false, false, false, false, false, false, false, false, false, false, false, true, true] from by kernel_rfl]
          have c1 : V2.cell? ⟨g, pp, none⟩ = some (.int .i64 x) := by
            have h := S2.out.row.cell (j := pp) (by have := hlo.out; omega)
            have h2 := HXY.out.1
            rw [List.getElem?_eq_getElem (by have := hlo.out; omega)] at h2
            rw [h]; rw [Option.some.inj h2]
          have c2 : V2.cell? ⟨g, q, none⟩ = some (.int .i64 y) := by
            have h := S2.out.row.cell (j := q) (by have := hlo.out; omega)
            have h2 := HXY.out.2
            rw [List.getElem?_eq_getElem (by have := hlo.out; omega)] at h2
            rw [h]; rw [Option.some.inj h2]
          have f1 := S2.out.row.free q
          have S3 := Lib.hid (S2.out.put q x)
          have c3 : ∃ v, (V2.setCell ⟨g, q, none⟩ (.int .i64 x)).cell? ⟨g, pp, none⟩ = some v := ⟨_, S3.out.row.cell (j := pp) (by rw [List.length_set]; have := hlo.out; omega)⟩
          obtain ⟨c3v, c3⟩ := c3
          have f3 := S3.out.row.free pp
          have S4 := Lib.hid (S3.out.put pp y)
          have HP : Hid (((o.set q x).set pp y).Perm (firstI j)) := by
            have hs := swap_perm o pp q (by have := hlo.out; omega) (by have := hlo.out; omega)
            have h1 := HXY.out.1
            have h2 := HXY.out.2
            rw [List.getElem?_eq_getElem (by have := hlo.out; omega)] at h1 h2
            rw [Option.some.inj h1, Option.some.inj h2] at hs
            exact hs.trans hI.out.1
          refine wpAnyH_take (i := 0) (v := .slice (some ⟨g, 0, none⟩) j oc) rfl (by kernel_rfl) (by kernel_rfl) (by kernel_rfl) (fun _ _ _ h => h) (Or.inl ⟨by rfl, by (intro W hSw; clear hSw; go_simp)⟩) trivial ?_
          simp only [Act.put, List.getElem_toArray, List.getElem_cons_zero, List.setIfInBounds_toArray, List.set_cons_zero, List.set_cons_succ]
          refine wpAnyH_take (i := 1) (v := .int .i64 q) rfl (by kernel_rfl) (by kernel_rfl) (by kernel_rfl) (fun _ _ _ h => h) (Or.inl ⟨by rfl, by (intro W hSw; clear hSw; go_simp)⟩) trivial ?_
          simp only [Act.put, List.getElem_toArray, List.getElem_cons_succ, List.getElem_cons_zero, List.setIfInBounds_toArray, List.set_cons_zero, List.set_cons_succ]
          refine wpAnyH_take (i := 2) (v := .slice (some ⟨g, 0, none⟩) j oc) rfl (by kernel_rfl) (by kernel_rfl) (by kernel_rfl) (fun _ _ _ h => h) (Or.inl ⟨by rfl, by (intro W hSw; clear hSw; go_simp)⟩) trivial ?_
          simp only [Act.put, List.getElem_toArray, List.getElem_cons_succ, List.getElem_cons_zero, List.setIfInBounds_toArray, List.set_cons_zero, List.set_cons_succ]
          refine wpAnyH_take (i := 3) (v := .int .i64 pp) rfl (by kernel_rfl) (by kernel_rfl) (by kernel_rfl) (fun _ _ _ h => h) (Or.inl ⟨by rfl, by (intro W hSw; clear hSw; go_simp)⟩) trivial ?_
          simp only [Act.put, List.getElem_toArray, List.getElem_cons_succ, List.getElem_cons_zero, List.setIfInBounds_toArray, List.set_cons_zero, List.set_cons_succ]
          refine wpAnyH_take (i := 4) (v := .slice (some ⟨g, 0, none⟩) j oc) rfl (by kernel_rfl) (by kernel_rfl) (by kernel_rfl) (fun _ _ _ h => h) (Or.inl ⟨by rfl, by (intro W hSw; clear hSw; go_simp)⟩) trivial ?_
          simp only [Act.put, List.getElem_toArray, List.getElem_cons_succ, List.getElem_cons_zero, List.setIfInBounds_toArray, List.set_cons_zero, List.set_cons_succ]
          refine wpAnyH_take (i := 5) (v := .int .i64 pp) rfl (by kernel_rfl) (by kernel_rfl) (by kernel_rfl) (fun _ _ _ h => h) (Or.inl ⟨by rfl, by (intro W hSw; clear hSw; go_simp)⟩) trivial ?_
          simp only [Act.put, List.getElem_toArray, List.getElem_cons_succ, List.getElem_cons_zero, List.setIfInBounds_toArray, List.set_cons_zero, List.set_cons_succ]
          refine wpAnyH_take (i := 6) (v := .pointer (some ⟨g, pp, none⟩)) rfl (by kernel_rfl) (by kernel_rfl) (by kernel_rfl) (fun _ _ _ h => h) (Or.inl ⟨by rfl, by (intro W hSw; clear hSw; go_simp)⟩) trivial ?_
          simp only [Act.put, List.getElem_toArray, List.getElem_cons_succ, List.getElem_cons_zero, List.setIfInBounds_toArray, List.set_cons_zero, List.set_cons_succ]
          refine wpAnyH_take (i := 8) (v := .slice (some ⟨g, 0, none⟩) j oc) rfl (by kernel_rfl) (by kernel_rfl) (by kernel_rfl) (fun _ _ _ h => h) (Or.inl ⟨by rfl, by (intro W hSw; clear hSw; go_simp)⟩) trivial ?_
          simp only [Act.put, List.getElem_toArray, List.getElem_cons_succ, List.getElem_cons_zero, List.setIfInBounds_toArray, List.set_cons_zero, List.set_cons_succ]
          refine wpAnyH_take (i := 9) (v := .int .i64 q) rfl (by kernel_rfl) (by kernel_rfl) (by kernel_rfl) (fun _ _ _ h => h) (Or.inl ⟨by rfl, by (intro W hSw; clear hSw; go_simp)⟩) trivial ?_
          simp only [Act.put, List.getElem_toArray, List.getElem_cons_succ, List.getElem_cons_zero, List.setIfInBounds_toArray, List.set_cons_zero, List.set_cons_succ]
          refine wpAnyH_take (i := 10) (v := .pointer (some ⟨g, q, none⟩)) rfl (by kernel_rfl) (by kernel_rfl) (by kernel_rfl) (fun _ _ _ h => h) (Or.inl ⟨by rfl, by (intro W hSw; clear hSw; go_simp)⟩) trivial ?_
          simp only [Act.put, List.getElem_toArray, List.getElem_cons_succ, List.getElem_cons_zero, List.setIfInBounds_toArray, List.set_cons_zero, List.set_cons_succ]
          refine wpAnyH_ready (rs := [7, 11]) (by kernel_rfl) (by simp) ?_
          refine AllReadyH.cons (o := _) rfl (fun K hK => ?_) ?_
          · go_simp
            refine hK.out _ _ trivial (fun _ => ?_)
            clear hK
            simp only [List.setIfInBounds_toArray, List.set_cons_zero, List.set_cons_succ]
            refine wpAnyH_ready (rs := [11]) (by kernel_rfl) (by simp) ?_
            refine AllReadyH.cons (o := _) rfl (fun K hK => ?_) AllReadyH.nil
            go_simp
            refine hK.out _ _ trivial (fun _ => ?_)
            clear hK
            simp only [List.setIfInBounds_toArray, List.set_cons_zero, List.set_cons_succ]
            refine wpAnyH_take (i := 12) (v := .pointer (some ⟨g, q, none⟩)) rfl (by kernel_rfl) (by kernel_rfl) (by kernel_rfl) (fun _ _ _ h => h) (Or.inl ⟨by rfl, by (intro W hSw; clear hSw; go_simp)⟩) trivial ?_
            simp only [Act.put, List.getElem_toArray, List.getElem_cons_succ, List.getElem_cons_zero, List.setIfInBounds_toArray, List.set_cons_zero, List.set_cons_succ]
            refine wpAnyH_ready (rs := [13]) (by kernel_rfl) (by simp) ?_
            refine AllReadyH.cons (o := _) rfl (fun K hK => ?_) AllReadyH.nil
            go_simp
            refine hK.out _ _ trivial (fun _ => ?_)
            clear hK
            simp only [List.setIfInBounds_toArray, List.set_cons_zero, List.set_cons_succ]
            refine wpAnyH_done (by kernel_rfl) ?_ _
            show wpList _ _ _ (opsAt _ [14, 15]) _ _
            simp only [opsAt, List.filterMap_cons, List.filterMap_nil, List.getElem?_toArray, List.getElem?_cons_succ, List.getElem?_cons_zero]
            go_wp2_with (fail)
            go_roundw
            case rel => exact ⟨q - 1, (o.set q x).set pp y, by congr 1; omega, by omega, HP.out, S4.out.mono (by omega)⟩
            case measure => simp [intOf]; omega
          refine AllReadyH.cons (o := _) rfl (fun K hK => ?_) AllReadyH.nil
          go_simp
          refine hK.out _ _ trivial (fun _ => ?_)
          clear hK
          simp only [List.setIfInBounds_toArray, List.set_cons_zero, List.set_cons_succ]
          refine wpAnyH_ready (rs := [7]) (by kernel_rfl) (by simp) ?_
          refine AllReadyH.cons (o := _) rfl (fun K hK => ?_) AllReadyH.nil
          go_simp
          refine hK.out _ _ trivial (fun _ => ?_)
          clear hK
          simp only [List.setIfInBounds_toArray, List.set_cons_zero, List.set_cons_succ]
          refine wpAnyH_take (i := 12) (v := .pointer (some ⟨g, q, none⟩)) rfl (by kernel_rfl) (by kernel_rfl) (by kernel_rfl) (fun _ _ _ h => h) (Or.inl ⟨by rfl, by (intro W hSw; clear hSw; go_simp)⟩) trivial ?_
          simp only [Act.put, List.getElem_toArray, List.getElem_cons_succ, List.getElem_cons_zero, List.setIfInBounds_toArray, List.set_cons_zero, List.set_cons_succ]
          refine wpAnyH_ready (rs := [13]) (by kernel_rfl) (by simp) ?_
          refine AllReadyH.cons (o := _) rfl (fun K hK => ?_) AllReadyH.nil
          go_simp
          refine hK.out _ _ trivial (fun _ => ?_)
          clear hK
          simp only [List.setIfInBounds_toArray, List.set_cons_zero, List.set_cons_succ]
          refine wpAnyH_done (by kernel_rfl) ?_ _
          show wpList _ _ _ (opsAt _ [14, 15]) _ _
          simp only [opsAt, List.filterMap_cons, List.filterMap_nil, List.getElem?_toArray, List.getElem?_cons_succ, List.getElem?_cons_zero]
          go_wp2_with (fail)
          go_roundw
          case rel => exact ⟨q - 1, (o.set q x).set pp y, by congr 1; omega, by omega, HP.out, S4.out.mono (by omega)⟩
          case measure => simp [intOf]; omega
        · have hq0 : q = 0 := by omega
          subst hq0
          go_wp2_with (fail)
          go_ret
          exact ⟨g, oc, o, rfl, hI.out.1, hI.out.2.mono (by omega)⟩
end Go.Proofs.Ytpkegiekpnaejaa

namespace Go.Proofs.Ytpkegiekpnaejaa
open Go.RowKit Go.Shelf
attribute [local go_sem] Oper.semAt_some

theorem small_ok {xs : List Lp} {r : Ru} (h1 : 1 ≤ xs.length ∧ xs.length ≤ 6) (hx : ∀ x ∈ xs, SmallLp x) (hr : SmallRu r) : checkE xs r = 0 := by
  have hs : stadE xs = 0 := by
    rw [stadE, if_pos (by simp [withinB]; omega), if_pos]
    rw [List.all_eq_true]
    intro x hx'
    have := hx x hx'
    unfold SmallLp at this
    simp [allowedB, withinB]; omega
  have hb : rulesB r = true := by
    unfold SmallRu at hr
    simp [rulesB, boundedB, withinB]
    omega
  rw [checkE, if_pos hs, if_pos hb]
theorem bounded_two {s : Sp} (h : 0 ≤ s.lo ∧ s.lo ≤ s.hi ∧ s.hi ≤ 20000) : boundedB (twoS s) 200000 = true := by
  have a : (twoS s).lo = 2 * s.lo := rfl
  have b : (twoS s).hi = 2 * s.hi := rfl
  unfold boundedB
  rw [a, b]
  simp; omega
theorem two_ok {xs : List Lp} {r : Ru} (h1 : 1 ≤ xs.length ∧ xs.length ≤ 6) (hx : ∀ x ∈ xs, SmallLp x) (hr : SmallRu r) : checkE (xs.map twoL) (twoR r) = 0 := by
  have hs : stadE (xs.map twoL) = 0 := by
    rw [stadE, List.length_map, if_pos (by simp [withinB]; omega), if_pos]
    rw [List.all_eq_true]
    intro x hx'
    obtain ⟨y, hy, rfl⟩ := List.mem_map.1 hx'
    have := hx y hy
    unfold SmallLp at this
    have e1 : (twoL y).l = 2 * y.l := rfl
    have e2 : (twoL y).c = 2 * y.c := rfl
    have e3 : (twoL y).d = y.d := rfl
    unfold allowedB
    rw [e1, e2, e3]
    simp [withinB]; omega
  have hb : rulesB (twoR r) = true := by
    unfold SmallRu at hr
    obtain ⟨⟨a1, a2⟩, ⟨b1, b2, b3⟩, ⟨c1, c2, c3⟩, ⟨d1, d2, d3⟩, ⟨e1, e2⟩, f1, f2⟩ := hr
    show ([twoS r.len, twoS r.climb, twoS r.lap].all (fun s => boundedB s 200000) && (withinB r.laps 1 6 && (withinB r.wide 1 20 && withinB r.uses 1 6))) = true
    simp only [List.all_cons, List.all_nil, bounded_two ⟨b1, b2, b3⟩, bounded_two ⟨c1, c2, c3⟩, bounded_two ⟨d1, d2, d3⟩]
    simp [withinB]; omega
  rw [checkE, if_pos hs, if_pos hb]
theorem all_small {xs : List Lp} {r : Ru} (h1 : xs.length ≤ 6) (hr : r.laps ≤ 4) (h : checkE xs r = 0) : allR xs r = (rightL xs r, 0) := by
  have := right_small xs r h1 (by omega)
  rw [allR, if_pos h, if_pos this, if_pos this]
/-- The loops in their other order. -/
def mixL (xs : List Lp) (o : List Int) : List Lp := o.map (fun i => (xs[i.toNat]?).getD ⟨0, 0, 0⟩)
theorem mix_ord {xs : List Lp} {o : List Int} (h : o.Perm (firstI xs.length)) : Ord xs.length o xs (mixL xs o) := by
  have hl : o.length = xs.length := by rw [h.length_eq, firstI_len]
  refine ⟨rfl, by rw [mixL, List.length_map, hl], h, fun j hj => ?_⟩
  have hm : o[j]'(by omega) ∈ o := List.getElem_mem _
  obtain ⟨k, hk, e⟩ := List.mem_map.1 (h.mem_iff.1 hm)
  have hk' := List.mem_range.1 hk
  have e2 : o[j]? = some (k : Int) := by rw [List.getElem?_eq_getElem (by omega), ← e]; rfl
  rw [mixL, List.getElem?_map, e2]
  simp only [Option.map_some, Option.getD_some, Int.toNat_natCast]
  rw [List.getElem?_eq_getElem hk']; rfl
theorem mix_small {xs : List Lp} {o : List Int} (h : o.Perm (firstI xs.length)) (hx : ∀ x ∈ xs, SmallLp x) : ∀ x ∈ mixL xs o, SmallLp x := by
  intro x hx'
  obtain ⟨i, hi, rfl⟩ := List.mem_map.1 hx'
  obtain ⟨k, hk, e⟩ := List.mem_map.1 (h.mem_iff.1 hi)
  have hk' := List.mem_range.1 hk
  rw [← e]
  show SmallLp ((xs[(Int.ofNat k).toNat]?).getD ⟨0, 0, 0⟩)
  rw [show (Int.ofNat k).toNat = k from rfl, List.getElem?_eq_getElem hk']
  exact hx _ (List.getElem_mem hk')
end Go.Proofs.Ytpkegiekpnaejaa
