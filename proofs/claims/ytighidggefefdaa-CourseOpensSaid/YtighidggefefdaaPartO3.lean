/-
The contract of the reference's Happens over this seat's program.
  What is proved: it hands back the stocks, what is made, and the day that fails, as the play has them.
  Conditions: at most 60 days of small numbers.
The contracts of the reference's First and held over this seat's program.
  What is proved: they answer the first day that can fail, and whether none does, as the play of the worst weather has it.
  Conditions: at most 1000000 days; of held: a valid winter.
The contract of the reference's Proves over this seat's program.
  What is proved: it answers what the program's own Proves answers.
  Conditions: at most 1000000 days.
The contracts of the reference's Least and Room over this seat's program.
  What is proved: they answer the least stock, and the least store, with which no day fails.
  Conditions: at most 1000000 days.
-/
import Derived.Test.YtighidggefefdaaPartO2
import Derived.Deep.DeepCutAuto
import Derived.Maps.AppendAt
namespace Go.Proofs.Ytighidggefefdaa
open Go.RowKit Go.Shelf
attribute [local go_sem] Oper.semAt_some

theorem getD_small {xs : List Int} (h : ∀ x ∈ xs, 0 ≤ x ∧ x ≤ 100000) (k : Nat) : 0 ≤ xs[k]?.getD 0 ∧ xs[k]?.getD 0 ≤ 100000 := by
  cases e : xs[k]? with
  | none => exact ⟨Int.le_refl _, by show (0 : Int) ≤ _; omega⟩
  | some x => exact h x (List.mem_of_getElem? e)
/-- The first list has grown. -/
theorem TQ.more {w0 W W' : World} {base : Nat} {vN vM vL v' : Value} {N M L : List Int} (h : TQ w0 W base vN vM vL N M L) {x : Int} (ho : W'.ownsRow base 3 1 v' (N.length + 1) (N.map (Value.int .i64) ++ [.int .i64 x])) (hg : W.grownBy W' vN.ownBlock) (hat : v'.ownBlock = vN.ownBlock ∨ v'.ownBlock = some W.heap.size) :
    TQ w0 W' base v' vM vL (N ++ [x]) M L := by
  have ho' := ho
  rcases ho.2 with ⟨rfl, h0⟩ | ⟨g, c, cur, rfl, _⟩
  · exact absurd h0 (by omega)
  · refine h.push ho' hg ?_
    rcases hat with h1 | h1
    · exact .inl (by rw [← h1]; rfl)
    · refine .inr ?_
      have : some g = some W.heap.size := h1
      simpa using this
/-- A call that hands back what a play tells. -/
def OutHap (w : World) (s : Ps) (e : Ending) (w' : World) : Prop := ∃ sa sc ma mc, e = .returned (.tuple #[.slice sa s.stocks.length sc, .slice ma s.made.length mc, .int .i64 s.fails]) ∧ IntSl w' sa s.stocks ∧ IntSl w' ma s.made ∧ Below w.heap.size w w'

set_option maxRecDepth 100000 in
set_option maxHeartbeats 8000000 in
theorem happens_any (stock store : Int) (a : Option Addr) (n cap : Nat) (an : Option Addr) (N : List Int) (cn : Nat) (am : Option Addr) (M : List Int) (cm : Nat) (al : Option Addr) (L : List Int) (cl : Nat) (w : World)
    (hN : IntSl w an N) (hM : IntSl w am M) (hL : IntSl w al L) (hNn : N.length = n) (hMn : M.length = n) (hLn : L.length = n) (hn : n ≤ 60) (hst : 0 ≤ stock ∧ stock ≤ store ∧ store ≤ 1000000)
    (hb : (∀ x ∈ N, 0 ≤ x ∧ x ≤ 100000) ∧ (∀ x ∈ M, 0 ≤ x ∧ x ≤ 100000) ∧ (∀ x ∈ L, 0 ≤ x ∧ x ≤ 100000)) :
    Calls Try.prog 91 #[wv stock store a n cap, .slice an N.length cn, .slice am M.length cm, .slice al L.length cl] w (OutHap w (playL stock store N M L n)) := by
  obtain ⟨i0, hi, hz0, hz1, hz2⟩ := info_parts Try.info3
  have hB0 : Below w.heap.size w (w.alloc (.cells #[.int .i64 stock, .int .i64 store, .slice a n cap] 67)) := (Below.refl _ _).alloc (Nat.le_refl _) _
  have hR0 : (w.alloc (.cells #[.int .i64 stock, .int .i64 store, .slice a n cap] 67)).heap[w.heap.size]? = some (.cells #[.int .i64 stock, .int .i64 store, .slice a n cap] 67 (0, 0)) := heap_alloc_new _ _
  have hz : (w.alloc (.cells #[.int .i64 stock, .int .i64 store, .slice a n cap] 67)).heap.size = w.heap.size + 1 := by simp
  have HX := Lib.hid (And.intro hN (And.intro hM hL))
  have HL := Lib.hid (And.intro hNn (And.intro hMn hLn))
  have HN := Lib.hid hn
  have HS := Lib.hid hst
  have HBD := Lib.hid hb
  clear hN hM hL hNn hMn hLn hn hst hb
  go_enter Try.func91, Try.ntmps91
  go_wp2_with (fail)
  have HQ0 : Hid (TQ w (w.alloc (.cells #[.int .i64 stock, .int .i64 store, .slice a n cap] 67)) (w.heap.size + 1) (.slice none 0 0) (.slice none 0 0) (.slice none 0 0) [] [] [] ∧ (w.alloc (.cells #[.int .i64 stock, .int .i64 store, .slice a n cap] 67)).heap[w.heap.size]? = some (.cells #[.int .i64 stock, .int .i64 store, .slice a n cap] 67 (0, 0))) := ⟨⟨hB0, by omega, by omega, ⟨World.ownsRow_nil _ _ _ _, World.ownsRow_nil _ _ _ _, World.ownsRow_nil _ _ _ _, (by intro i hi; cases hi), (by intro i hi; cases hi), (by intro i hi; cases hi)⟩⟩, hR0⟩
  generalize w.alloc (.cells #[.int .i64 stock, .int .i64 store, .slice a n cap] 67) = Wb at HQ0 hB0 hR0 hz ⊢
  clear hB0 hR0 hz
  go_loopw [11, 12, 13, 14] (fun v11 v12 v13 i wr => ∃ (k : Nat) (vN vM : Value) (s : Int) (NS MS : List Int), vN = v11 ∧ vM = v12 ∧ v13 = .int .i64 s ∧ i = .int .i64 k ∧ k ≤ n ∧ Hid (TQ w wr (w.heap.size + 1) vN vM (.slice none 0 0) NS MS [] ∧ wr.heap[w.heap.size]? = some (.cells #[.int .i64 stock, .int .i64 store, .slice a n cap] 67 (0, 0))) ∧ Hid ((playL stock store N M L k).fails = -1 ∧ (playL stock store N M L k).stock = s ∧ (playL stock store N M L k).stocks = NS ∧ (playL stock store N M L k).made = MS)) (fun _ _ _ i _ => n - (intOf i).toNat)
  case atStart => exact ⟨0, _, _, stock, [], [], rfl, rfl, rfl, rfl, Nat.zero_le _, HQ0.out, ⟨rfl, rfl, rfl, rfl⟩⟩
  case round =>
    obtain ⟨k, vN, vM, s, NS, MS, rfl, rfl, rfl, rfl, hk, hR, hE⟩ := hrel
    have b1 := blk_cell hR.out.2 1 rfl
    have b2 := blk_cell hR.out.2 2 rfl
    by_cases hlt : k < n
    · obtain ⟨bN, oN, rfl, hbN, hcN⟩ := HX.out.1 (by have := HL.out.1; omega)
      obtain ⟨bM, oM, rfl, hbM, hcM⟩ := HX.out.2.1 (by have := HL.out.2.1; omega)
      obtain ⟨bL, oL, rfl, hbL, hcL⟩ := HX.out.2.2 (by have := HL.out.2.2; omega)
      have xN := (hR.out.1.b.cell (p := ⟨bN, oN + k, none⟩) hbN).trans (hcN k (by have := HL.out.1; omega))
      have xM := (hR.out.1.b.cell (p := ⟨bM, oM + k, none⟩) hbM).trans (hcM k (by have := HL.out.2.1; omega))
      have xL := (hR.out.1.b.cell (p := ⟨bL, oL + k, none⟩) hbL).trans (hcL k (by have := HL.out.2.2; omega))
      have q1 : k < N.length := by have := HL.out.1; omega
      have q2 : k < M.length := by have := HL.out.2.1; omega
      have q3 : k < L.length := by have := HL.out.2.2; omega
      clear hcN hcM hcL
      obtain ⟨hE1, hE2, hE3, hE4⟩ := hE.out
      have HGO := Lib.hid (play_goes (stock := stock) (store := store) (N := N) (M := M) (L := L) hE1)
      have HNO := Lib.hid (play_stops (stock := stock) (store := store) (N := N) (M := M) (L := L) (n := n) hE1 hlt)
      have hw := play_within (stock := stock) (store := store) (N := N) (M := M) (L := L) ⟨HS.out.1, HS.out.2.1⟩ ⟨fun k => (getD_small HBD.out.1 k).1, fun k => (getD_small HBD.out.2.1 k).1, fun k => (getD_small HBD.out.2.2 k).1⟩ k hE1
      rw [hE2] at hw
      rw [hE2, hE3, hE4] at HGO
      rw [hE2, hE3, hE4] at HNO
      have hlen := playL_len stock store N M L k
      rw [hE3, hE4] at hlen
      have kN := getD_small HBD.out.1 k
      have kM := getD_small HBD.out.2.1 k
      have kL := getD_small HBD.out.2.2 k
      clear hE1 hE2 hE3 hE4 hE
      generalize N[k]?.getD 0 = xn at *
      generalize M[k]?.getD 0 = xm at *
      generalize L[k]?.getD 0 = xl at *
      have hst := HS.out.2.2
      have hn60 := HN.out
      have e1 : IntKind.i64.wrap (s - xl) = s - xl := IntWalk.i64_in _ (by omega)
      go_upto_if 32 with (fail)
      go_cut [13] (fun v wx => wx = wr ∧ v = .int .i64 (restD s xl))
      case first =>
        by_cases c1 : s - xl < 0
        · have HC : Hid (restD s xl = 0) := if_pos c1
          go_wp2_with (fail)
          go_meet
          exact ⟨rfl, by rw [HC.out]⟩
        · have HC : Hid (restD s xl = s - xl) := if_neg c1
          go_wp2_with (fail)
          go_meet
          exact ⟨rfl, by rw [HC.out]⟩
      case rest =>
        obtain ⟨rfl, rfl⟩ := hcut
        obtain ⟨wr, rfl⟩ : ∃ W : World, W = wc := ⟨_, rfl⟩
        have ht : 0 ≤ restD s xl ∧ restD s xl ≤ store := by unfold restD; split <;> omega
        clear e1 xL
        generalize restD s xl = t at *
        have e2 : IntKind.i64.wrap (t + xm) = t + xm := IntWalk.i64_in _ (by omega)
        have e3 : IntKind.i64.wrap (store - t) = store - t := IntWalk.i64_in _ (by omega)
        go_upto_if 42 with (fail)
        go_cut [15] (fun v wx => wx = wr ∧ v = .int .i64 (makeD store t xm))
        case first =>
          by_cases c1 : store < t + xm
          · have HC : Hid (makeD store t xm = store - t) := if_pos c1
            go_wp2_with (fail)
            go_meet
            exact ⟨rfl, by rw [HC.out]⟩
          · have HC : Hid (makeD store t xm = xm) := if_neg c1
            go_wp2_with (fail)
            go_meet
            exact ⟨rfl, by rw [HC.out]⟩
        case rest =>
          obtain ⟨rfl, rfl⟩ := hcut
          obtain ⟨wr, rfl⟩ : ∃ W : World, W = wc := ⟨_, rfl⟩
          have hq : 0 ≤ makeD store t xm ∧ makeD store t xm ≤ store := by unfold makeD; split <;> omega
          clear e2 e3 xM b1
          generalize makeD store t xm = q at *
          have e4 : IntKind.i64.wrap (t + q) = t + q := IntWalk.i64_in _ (by omega)
          have e5 : IntKind.i64.wrap (t + q - xn) = t + q - xn := IntWalk.i64_in _ (by omega)
          by_cases c3 : t + q - xn < 0
          · have HF := Lib.hid (HNO.out c3)
            obtain ⟨sa, sc, eS, iS, _⟩ := ints_of_owns hR.out.1.r.n
            obtain ⟨ma, mc, eM, iM, _⟩ := ints_of_owns hR.out.1.r.m
            subst eS eM
            have HO := Lib.hid (And.intro iS iM)
            clear iS iM
            go_wp2_with (fail)
            go_ret3
            refine ⟨sa, sc, ma, mc, ?_, ?_, ?_, hR.out.1.b⟩
            · rw [HF.out.1, HF.out.2.1, HF.out.2.2]; rfl
            · rw [HF.out.1]; exact HO.out.1
            · rw [HF.out.2.1]; exact HO.out.2
          · have HG := Lib.hid (HGO.out c3)
            go_upto_region 15 with (fail)
            clear e4 e5 xN b2
            generalize t + q - xn = s2 at *
            have hnb : NS.length ≤ 60 ∧ MS.length ≤ 60 := by omega
            have H0 : Hid (TQ w (wr.alloc (.cells #[.int .i64 s2] 3)) (w.heap.size + 1) vN vM (.slice none 0 0) NS MS [] ∧ (wr.alloc (.cells #[.int .i64 s2] 3)).heap[w.heap.size]? = some (.cells #[.int .i64 stock, .int .i64 store, .slice a n cap] 67 (0, 0))) := ⟨hR.out.1.below ((Below.refl _ _).alloc (Nat.le_refl _) _), alk hR.out.2⟩
            go_wp2_with (at_builtin; refine wpList_append_own_at _ rfl _ _ 27 rfl (w.heap.size + 1) 3 i0 (.int .i64 0) 1 8 Try.underlying27 hi hz0 hz1 hz2 rfl (by decide) vN NS.length (NS.map (Value.int .i64)) rfl H0.out.1.r.n ⟨wr.heap.size, 0, none⟩ 1 1 [.int .i64 s2] rfl rfl (cell_one_new _ _ _) (by intro u hu; simp at hu; subst hu; rfl) (by unfold maxLen; omega) (by omega) H0.out.1.hz ?_)
            intro v4 W4 hown hgrow _ hat
            have H1 : Hid (TQ w W4 (w.heap.size + 1) v4 vM (.slice none 0 0) (NS ++ [s2]) MS [] ∧ W4.heap[w.heap.size]? = some (.cells #[.int .i64 stock, .int .i64 store, .slice a n cap] 67 (0, 0))) := ⟨H0.out.1.more hown hgrow (by rw [show (wr.alloc (.cells #[.int .i64 s2] 3)).heap.size = wr.heap.size + 1 from by simp]; exact hat), H0.out.1.keep (by decide) H0.out.2 hgrow⟩
            clear hown hgrow hat H0
            have H2 : Hid (TQ w (W4.alloc (.cells #[.int .i64 q] 3)) (w.heap.size + 1) v4 vM (.slice none 0 0) (NS ++ [s2]) MS [] ∧ (W4.alloc (.cells #[.int .i64 q] 3)).heap[w.heap.size]? = some (.cells #[.int .i64 stock, .int .i64 store, .slice a n cap] 67 (0, 0))) := ⟨H1.out.1.below ((Below.refl _ _).alloc (Nat.le_refl _) _), alk H1.out.2⟩
            clear H1
            go_wp2_with (at_builtin; refine wpList_append_own_at _ rfl _ _ 27 rfl (w.heap.size + 1) 3 i0 (.int .i64 0) 1 8 Try.underlying27 hi hz0 hz1 hz2 rfl (by decide) vM MS.length (MS.map (Value.int .i64)) rfl H2.out.1.rot.r.n ⟨W4.heap.size, 0, none⟩ 1 1 [.int .i64 q] rfl rfl (cell_one_new _ _ _) (by intro u hu; simp at hu; subst hu; rfl) (by unfold maxLen; omega) (by omega) H2.out.1.hz ?_)
            intro v5 W5 hown hgrow _ hat
            have H3 : Hid (TQ w W5 (w.heap.size + 1) v5 (.slice none 0 0) v4 (MS ++ [q]) [] (NS ++ [s2]) ∧ W5.heap[w.heap.size]? = some (.cells #[.int .i64 stock, .int .i64 store, .slice a n cap] 67 (0, 0))) := ⟨H2.out.1.rot.more hown hgrow (by rw [show (W4.alloc (.cells #[.int .i64 q] 3)).heap.size = W4.heap.size + 1 from by simp]; exact hat), H2.out.1.rot.keep (by decide) H2.out.2 hgrow⟩
            clear hown hgrow hat H2
            go_wp2_with (fail)
            go_roundw
            case rel => exact ⟨k + 1, _, _, _, _, _, rfl, rfl, rfl, by go_num, by omega, ⟨H3.out.1.rot.rot, H3.out.2⟩, ⟨HG.out.2.2.2, HG.out.1, HG.out.2.1, HG.out.2.2.1⟩⟩
            case measure => simp [intOf]; omega
    · have hke : k = n := by omega
      subst hke
      obtain ⟨hE1, hE2, hE3, hE4⟩ := hE.out
      obtain ⟨sa, sc, eS, iS, _⟩ := ints_of_owns hR.out.1.r.n
      obtain ⟨ma, mc, eM, iM, _⟩ := ints_of_owns hR.out.1.r.m
      subst eS eM
      have HO := Lib.hid (And.intro iS iM)
      have HE := Lib.hid (And.intro hE1 (And.intro hE3 hE4))
      clear iS iM hE1 hE2 hE3 hE4
      go_wp2_with (fail)
      go_ret3
      refine ⟨sa, sc, ma, mc, ?_, ?_, ?_, hR.out.1.b⟩
      · rw [HE.out.1, HE.out.2.1, HE.out.2.2]; rfl
      · rw [HE.out.2.1]; exact HO.out.1
      · rw [HE.out.2.2]; exact HO.out.2
/-- The same, the lists' lengths those of the days. -/
theorem happens_n (stock store : Int) (a : Option Addr) (n cap : Nat) (an : Option Addr) (N : List Int) (cn : Nat) (am : Option Addr) (M : List Int) (cm : Nat) (al : Option Addr) (L : List Int) (cl : Nat) (w : World)
    (hN : IntSl w an N) (hM : IntSl w am M) (hL : IntSl w al L) (hNn : N.length = n) (hMn : M.length = n) (hLn : L.length = n) (hn : n ≤ 60) (hst : 0 ≤ stock ∧ stock ≤ store ∧ store ≤ 1000000)
    (hb : (∀ x ∈ N, 0 ≤ x ∧ x ≤ 100000) ∧ (∀ x ∈ M, 0 ≤ x ∧ x ≤ 100000) ∧ (∀ x ∈ L, 0 ≤ x ∧ x ≤ 100000)) :
    Calls Try.prog 91 #[wv stock store a n cap, .slice an n cn, .slice am n cm, .slice al n cl] w (OutHap w (playL stock store N M L n)) := by
  have h := happens_any stock store a n cap an N cn am M cm al L cl w hN hM hL hNn hMn hLn hn hst hb
  rw [hNn, hMn, hLn] at h
  exact h
end Go.Proofs.Ytighidggefefdaa

namespace Go.Proofs.Ytighidggefefdaa
open Go.RowKit Go.Shelf
attribute [local go_sem] Oper.semAt_some

set_option maxRecDepth 100000 in
set_option maxHeartbeats 4000000 in
theorem refFirst_any (stock store : Int) (a : Option Addr) (ds : List Dy) (cap : Nat) (w : World) (hx : Sl 6 Dy.cells w a ds) (hl : ds.length ≤ 1000000) :
    Calls Try.prog 36 #[wv stock store a ds.length cap] w fun e w' => e = .returned (.tuple #[.int .i64 (failR stock store ds).1, .int .i64 (failR stock store ds).2.2]) ∧ Below w.heap.size w w' := by
  have hB0 : Below w.heap.size w (w.alloc (.cells #[.int .i64 stock, .int .i64 store, .slice a ds.length cap] 67)) := (Below.refl _ _).alloc (Nat.le_refl _) _
  have hR0 : (w.alloc (.cells #[.int .i64 stock, .int .i64 store, .slice a ds.length cap] 67)).heap[w.heap.size]? = some (.cells #[.int .i64 stock, .int .i64 store, .slice a ds.length cap] 67 (0, 0)) := heap_alloc_new _ _
  have HX := Lib.hid (And.intro hx hl)
  clear hx hl
  go_enter Try.func36, Try.ntmps36
  go_wp2_with (fail)
  have HB0 := Lib.hid (And.intro hB0 hR0)
  have HX0 := Lib.hid (HX.out.1.below hB0)
  generalize w.alloc (.cells #[.int .i64 stock, .int .i64 store, .slice a ds.length cap] 67) = W0 at HB0 HX0 ⊢
  clear hB0 hR0
  refine (refWinter_any stock store a ds cap _ HX0.out HX.out.2).mono ?_
  rintro e W1 ⟨rfl, hb⟩
  have HB1 := Lib.hid (And.intro (below_self HB0.out.1 hb) (blk_below HB0.out.2 hb))
  have HX1 := Lib.hid (HX0.out.below hb)
  clear hb HX0
  have c0 := blk_cell HB1.out.2 0 rfl
  have c1 := blk_cell HB1.out.2 1 rfl
  have c2 := blk_cell HB1.out.2 2 rfl
  by_cases hw : winE stock store ds = 0
  · have g1 : (winE stock store ds != 0) = false := by simp [hw]
    have HW := Lib.hid hw
    obtain ⟨b1, b2, b3⟩ := win_ok hw
    have HOK := Lib.hid (And.intro b1 (And.intro b2 b3))
    clear hw b1 b2 b3
    go_wp2_with (fail)
    clear g1
    refine (ends_worst stock store a ds cap W1 HX1.out (by have := HOK.out.2.1; omega)).mono ?_
    rintro e W2 ⟨an, cn, am, cm, al, cl, rfl, iN, iM, iL, hb⟩
    simp only [List.length_map]
    have HI := Lib.hid (And.intro iN (And.intro iM iL))
    have HB2 := Lib.hid (And.intro (below_self HB1.out.1 hb) (blk_below HB1.out.2 hb))
    clear iN iM iL hb c0 c1 c2
    have c0 := blk_cell HB2.out.2 0 rfl
    have c1 := blk_cell HB2.out.2 1 rfl
    have c2 := blk_cell HB2.out.2 2 rfl
    go_wp2_with (fail)
    (with_reducible refine (happens_n stock store a ds.length cap an (ds.map fun d => d.need.hi) cn am (ds.map fun d => d.make.lo) cm al (ds.map fun d => d.loss.hi) cl W2 HI.out.1 HI.out.2.1 HI.out.2.2 (by simp) (by simp) (by simp) HOK.out.2.1.2 ⟨HOK.out.1.1, HOK.out.1.2.1, HOK.out.1.2.2.2⟩ (worst_bd HOK.out.2.2)).mono ?_)
    rintro e W3 ⟨sa, sc, ma, mc, rfl, _, _, hb⟩
    have HB3 := Lib.hid (below_self HB2.out.1 hb)
    clear hb c0 c1 c2
    have HF : Hid (failR stock store ds = if (worstL stock store ds).fails = -1 then (0, 0, 6) else ((worstL stock store ds).fails, (worstL stock store ds).full, 0)) := if_pos HW.out
    have hr := fails_range stock store (ds.map fun d => d.need.hi) (ds.map fun d => d.make.lo) (ds.map fun d => d.loss.hi) ds.length
    have hr2 : (worstL stock store ds).fails = -1 ∨ 0 ≤ (worstL stock store ds).fails := hr
    clear hr
    obtain ⟨S, hS⟩ : ∃ S, worstL stock store ds = S := ⟨_, rfl⟩
    rw [hS] at HF hr2
    have hS' : playL stock store (ds.map fun d => d.need.hi) (ds.map fun d => d.make.lo) (ds.map fun d => d.loss.hi) ds.length = S := hS
    rw [hS']
    clear hS hS'
    rcases hr2 with h | h
    · have HG : Hid (failR stock store ds = (0, 0, 6)) := by show _ = _; rw [HF.out, if_pos h]
      rw [h]
      clear h HF
      go_wp2_with (fail)
      go_ret2
      exact ⟨by rw [HG.out]; rfl, HB3.out⟩
    · have HG : Hid (failR stock store ds = (S.fails, S.full, 0)) := by show _ = _; rw [HF.out, if_neg (by omega)]
      have g2 : decide (S.fails < 0) = false := decide_eq_false (by omega)
      clear h HF
      go_wp2_with (fail)
      go_ret2
      exact ⟨by rw [HG.out]; rfl, HB3.out⟩
  · have g1 : (winE stock store ds != 0) = true := by simp [hw]
    have HF : Hid (failR stock store ds = (0, 0, winE stock store ds)) := if_neg hw
    clear hw
    go_wp2_with (fail)
    go_ret2
    exact ⟨by rw [HF.out]; rfl, HB1.out.1⟩

set_option maxRecDepth 100000 in
set_option maxHeartbeats 2000000 in
theorem held99_any (v st stock store : Int) (a : Option Addr) (ds : List Dy) (cap : Nat) (w : World) (hx : Sl 6 Dy.cells w a ds) (hl : ds.length ≤ 1000000) (hw : winE v st ds = 0) :
    Calls Try.prog 99 #[wv stock store a ds.length cap, .int .i64 v, .int .i64 st] w fun e w' => e = .returned (.bool ((worstL v st ds).fails == -1)) ∧ Below w.heap.size w w' := by
  have HW := Lib.hid hw
  clear hw
  have hB0 : Below w.heap.size w (w.alloc (.cells #[.int .i64 stock, .int .i64 store, .slice a ds.length cap] 67)) := (Below.refl _ _).alloc (Nat.le_refl _) _
  have hR0 : (w.alloc (.cells #[.int .i64 stock, .int .i64 store, .slice a ds.length cap] 67)).heap[w.heap.size]? = some (.cells #[.int .i64 stock, .int .i64 store, .slice a ds.length cap] 67 (0, 0)) := heap_alloc_new _ _
  have HX := Lib.hid (And.intro hx hl)
  clear hx hl
  go_enter Try.func99, Try.ntmps99
  go_wp2_with (fail)
  have HB0 := Lib.hid (And.intro hB0 hR0)
  have HX0 := Lib.hid (HX.out.1.below hB0)
  generalize w.alloc (.cells #[.int .i64 stock, .int .i64 store, .slice a ds.length cap] 67) = W0 at HB0 HX0 ⊢
  clear hB0 hR0
  refine (refFirst_any v st a ds cap _ HX0.out HX.out.2).mono ?_
  rintro e W1 ⟨rfl, hb⟩
  have HB1 := Lib.hid (below_self HB0.out.1 hb)
  clear hb
  by_cases h : (worstL v st ds).fails = -1
  · have HF : Hid (failR v st ds = (0, 0, 6)) := by show _ = _; unfold failR; rw [if_pos HW.out, if_pos h]
    have HG : Hid (((worstL v st ds).fails == -1) = true) := by show _ = _; rw [h]; rfl
    rw [HF.out]
    clear h
    go_wp2_with (fail)
    go_ret
    exact ⟨by rw [HG.out]; rfl, HB1.out⟩
  · have HF : Hid (failR v st ds = ((worstL v st ds).fails, (worstL v st ds).full, 0)) := by show _ = _; unfold failR; rw [if_pos HW.out, if_neg h]
    have HG : Hid (((worstL v st ds).fails == -1) = false) := by show _ = _; simpa using h
    rw [HF.out]
    clear h
    go_wp2_with (fail)
    go_ret
    exact ⟨by rw [HG.out]; rfl, HB1.out⟩
end Go.Proofs.Ytighidggefefdaa

namespace Go.Proofs.Ytighidggefefdaa
open Go.RowKit Go.Shelf
attribute [local go_sem] Oper.semAt_some

theorem refL_small {store pf stock : Int} {N M L : List Int} (hs : 0 ≤ stock ∧ stock ≤ store ∧ store ≤ 1000000) (hb : (∀ x ∈ N, 0 ≤ x ∧ x ≤ 100000) ∧ (∀ x ∈ M, 0 ≤ x ∧ x ≤ 100000) ∧ (∀ x ∈ L, 0 ≤ x ∧ x ≤ 100000)) (k : Nat) : -100000 ≤ refL store pf N M L stock k ∧ refL store pf N M L stock k ≤ 1000000 + k * 100000 := by
  induction k with
  | zero => show -100000 ≤ stock ∧ stock ≤ _; omega
  | succ k ih =>
    by_cases h : (k : Int) < pf
    · rw [refL, if_pos h]; omega
    · rw [refL_has _ _ _ _ _ _ _ h]
      have := getD_small hb.1 k
      have := getD_small hb.2.1 k
      have := getD_small hb.2.2 k
      split
      · omega
      · split <;> omega
theorem day_getD {ds : List Dy} {k : Nat} {d : Dy} (h : ds[k]? = some d) (f : Dy → Int) : (ds.map f)[k]?.getD 0 = f d := by
  rw [List.getElem?_map, h]; rfl

/-- What the reference has left in the worst weather at the head of a day. -/
def refW (stock store pf : Int) (ds : List Dy) (k : Nat) : Int := refL store pf (ds.map fun d => d.need.hi) (ds.map fun d => d.make.lo) (ds.map fun d => d.loss.hi) stock k
theorem refW_small {stock store pf : Int} {ds : List Dy} (hs : 0 ≤ stock ∧ stock ≤ store ∧ store ≤ 1000000) (hd : ∀ d ∈ ds, DayOk d) (k : Nat) : -100000 ≤ refW stock store pf ds k ∧ refW stock store pf ds k ≤ 1000000 + k * 100000 := refL_small hs (worst_bd hd) k
theorem refW_wait {stock store pf : Int} {ds : List Dy} {k : Nat} (h : (k : Int) < pf) : refW stock store pf ds (k + 1) = refW stock store pf ds k := by
  unfold refW
  rw [refL, if_pos h]
theorem refW_has {stock store pf : Int} {ds : List Dy} {k : Nat} {d : Dy} (hd : ds[k]? = some d) (h : ¬ (k : Int) < pf) : refW stock store pf ds (k + 1) = (if (k : Int) = pf then store else if d.loss.hi < refW stock store pf ds k then d.make.lo + refW stock store pf ds k - d.loss.hi else d.make.lo) - d.need.hi := by
  have := refL_has store pf (ds.map fun d => d.need.hi) (ds.map fun d => d.make.lo) (ds.map fun d => d.loss.hi) stock k h
  rw [day_getD hd (fun d => d.need.hi), day_getD hd (fun d => d.make.lo), day_getD hd (fun d => d.loss.hi)] at this
  exact this
theorem refW_early {stock store pf : Int} {ds : List Dy} {P k : Nat} {A B : Int × Int} (hp : -1 ≤ pf ∧ pf ≤ (P : Int)) (hE : A = if (worstLack stock store pf ds P).2 = true then B else (0, 8)) (h1 : k < P) (h1' : ¬ (k : Int) < pf) (hG : ∀ j, j < k → 0 ≤ refW stock store pf ds (j + 1) ∨ (j : Int) < pf) (h2 : refW stock store pf ds (k + 1) < 0) : A = (0, 8) := by
  have h3 : worstLack stock store pf ds P = (0, false) := refL_early hp h1 h1' hG h2
  rw [hE, h3, if_neg (by simp)]
theorem refW_end {stock store pf : Int} {ds : List Dy} {P : Nat} (hp : -1 ≤ pf ∧ pf ≤ (P : Int)) (hG : ∀ j, j < P → 0 ≤ refW stock store pf ds (j + 1) ∨ (j : Int) < pf) : worstLack stock store pf ds P = (-(refW stock store pf ds (P + 1)), decide (refW stock store pf ds (P + 1) < 0)) := refL_end hp hG

set_option maxRecDepth 100000 in
set_option maxHeartbeats 8000000 in
theorem refProves_any (stock store pf pd : Int) (a : Option Addr) (ds : List Dy) (cap : Nat) (w : World) (hx : Sl 6 Dy.cells w a ds) (hl : ds.length ≤ 1000000) :
    Calls Try.prog 38 #[wv stock store a ds.length cap, .int .i64 pf, .int .i64 pd] w fun e w' => e = .returned (.tuple #[.int .i64 (provesR stock store ds pf pd).1, .int .i64 (provesR stock store ds pf pd).2]) ∧ Below w.heap.size w w' := by
  have hB0 : Below w.heap.size w (w.alloc (.cells #[.int .i64 stock, .int .i64 store, .slice a ds.length cap] 67)) := (Below.refl _ _).alloc (Nat.le_refl _) _
  have hR0 : (w.alloc (.cells #[.int .i64 stock, .int .i64 store, .slice a ds.length cap] 67)).heap[w.heap.size]? = some (.cells #[.int .i64 stock, .int .i64 store, .slice a ds.length cap] 67 (0, 0)) := heap_alloc_new _ _
  have HX := Lib.hid (And.intro hx hl)
  clear hx hl
  go_enter Try.func38, Try.ntmps38
  go_wp2_with (fail)
  have HB0 := Lib.hid (And.intro hB0 hR0)
  have HX0 := Lib.hid (HX.out.1.below hB0)
  generalize w.alloc (.cells #[.int .i64 stock, .int .i64 store, .slice a ds.length cap] 67) = W0 at HB0 HX0 ⊢
  clear hB0 hR0
  refine (refWinter_any stock store a ds cap _ HX0.out HX.out.2).mono ?_
  rintro e W1 ⟨rfl, hb⟩
  have HB1 := Lib.hid (And.intro (below_self HB0.out.1 hb) (blk_below HB0.out.2 hb))
  have HX1 := Lib.hid (HX0.out.below hb)
  clear hb HX0
  have c0 := blk_cell HB1.out.2 0 rfl
  have c1 := blk_cell HB1.out.2 1 rfl
  have c2 := blk_cell HB1.out.2 2 rfl
  by_cases hw : winE stock store ds = 0
  · have g1 : (winE stock store ds != 0) = false := by simp [hw]
    have HW := Lib.hid hw
    obtain ⟨b1, b2, b3⟩ := win_ok hw
    have HOK := Lib.hid (And.intro b1 (And.intro b2 b3))
    have e0 : IntKind.i64.wrap ((ds.length : Int) - 1) = (ds.length : Int) - 1 := IntWalk.i64_in _ (by omega)
    have HP : Hid (provesR stock store ds pf pd = if withinB pd 0 (ds.length - 1) = true then (if withinB pf (-1) pd = true then (if (worstLack stock store pf ds pd.toNat).2 = true then ((worstLack stock store pf ds pd.toNat).1, 0) else (0, 8)) else (0, 1)) else (0, 1)) := if_pos hw
    clear hw b1 b2 b3
    go_wp2_with (fail)
    refine (outside_any _ _ _ _).mono ?_
    rintro e w' ⟨rfl, rfl⟩
    cases e1 : withinB pd 0 ((ds.length : Int) - 1)
    · have HE : Hid (provesR stock store ds pf pd = (0, 1)) := by show _ = _; rw [HP.out, if_neg (by rw [e1]; simp)]
      go_wp2_with (fail)
      go_ret2
      exact ⟨by rw [HE.out]; rfl, HB1.out.1⟩
    · have E1 := Lib.hid e1
      go_wp2_with (fail)
      refine (outside_any _ _ _ _).mono ?_
      rintro e w' ⟨rfl, rfl⟩
      cases e2 : withinB pf (-1) pd
      · have HE : Hid (provesR stock store ds pf pd = (0, 1)) := by show _ = _; rw [HP.out, if_pos E1.out, if_neg (by rw [e2]; simp)]
        go_wp2_with (fail)
        go_ret2
        exact ⟨by rw [HE.out]; rfl, HB1.out.1⟩
      · have HE : Hid (provesR stock store ds pf pd = if (worstLack stock store pf ds pd.toNat).2 = true then ((worstLack stock store pf ds pd.toNat).1, 0) else (0, 8)) := by show _ = _; rw [HP.out, if_pos E1.out, if_pos e2]
        have hpd : 0 ≤ pd ∧ pd ≤ (ds.length : Int) - 1 := by have := E1.out; simp [withinB] at this; omega
        have hpf : -1 ≤ pf ∧ pf ≤ pd := by have := e2; simp [withinB] at this; omega
        go_wp2_with (fail)
        clear HP E1 e1 e2 e0 g1 c0 c1 c2
        obtain ⟨P, hP⟩ : ∃ P : Nat, pd = (P : Int) := ⟨pd.toNat, by omega⟩
        subst hP
        have HQ : Hid ((-1 ≤ pf ∧ pf ≤ (P : Int)) ∧ P < ds.length) := ⟨hpf, by omega⟩
        rw [Int.toNat_natCast] at HE
        clear hpd hpf
        have HBD := Lib.hid (refW_small (pf := pf) ⟨HOK.out.1.1, HOK.out.1.2.1, HOK.out.1.2.2.2⟩ HOK.out.2.2)
        go_loopw [9, 10] (fun v9 i wr => ∃ k : Nat, i = .int .i64 k ∧ v9 = .int .i64 (refW stock store pf ds k) ∧ k ≤ P + 1 ∧ Hid (Below W1.heap.size W1 wr) ∧ Hid (∀ j, j < k → j < P → 0 ≤ refW stock store pf ds (j + 1) ∨ (j : Int) < pf)) (fun _ i _ => P + 1 - (intOf i).toNat)
        case atStart => exact ⟨0, rfl, rfl, Nat.zero_le _, Below.refl _ _, fun j hj => by omega⟩
        case round =>
          obtain ⟨k, rfl, rfl, hk, hbw, hG⟩ := hrel
          have hP60 : P ≤ 60 := by have := HQ.out.2; have := HOK.out.2.1; omega
          by_cases hlt : k ≤ P
          · have hkl : k < ds.length := by have := HQ.out.2; omega
            obtain ⟨b, off, rfl, hbs, hc⟩ := HX1.out (by omega)
            have HD : Hid (ds[k]? = some ds[k]) := List.getElem?_eq_getElem hkl
            have ck : ∀ (i : Nat) (u : Int), (Dy.cells ds[k])[i]? = some u → wr.cell? ⟨b, off + k * 6 + i, none⟩ = some (.int .i64 u) := fun i u hu => (hbw.out.cell (p := ⟨b, off + k * 6 + i, none⟩) hbs).trans (hc k ds[k] i u (List.getElem?_eq_getElem hkl) hu)
            have d0 : wr.cell? ⟨b, off + k * 6, none⟩ = some (.int .i64 ds[k].need.lo) := ck 0 _ rfl
            have d1 := ck 1 _ rfl
            have d2 := ck 2 _ rfl
            have d3 := ck 3 _ rfl
            have d4 := ck 4 _ rfl
            have d5 := ck 5 _ rfl
            have hok := HOK.out.2.2 ds[k] (List.getElem_mem hkl)
            unfold DayOk at hok
            clear ck hc
            generalize ds[k] = d at *
            have HR1 : Hid (¬ (k : Int) < pf → refW stock store pf ds (k + 1) = (if (k : Int) = pf then store else if d.loss.hi < refW stock store pf ds k then d.make.lo + refW stock store pf ds k - d.loss.hi else d.make.lo) - d.need.hi) := fun h => refW_has HD.out h
            have HR0 : Hid ((k : Int) < pf → refW stock store pf ds (k + 1) = refW stock store pf ds k) := fun h => refW_wait h
            have HER : Hid (k < P ∧ ¬ (k : Int) < pf → refW stock store pf ds (k + 1) < 0 → provesR stock store ds pf P = (0, 8)) := fun h1 h2 => refW_early HQ.out.1 HE.out h1.1 h1.2 (fun j hj => hG.out j hj (Nat.lt_trans hj h1.1)) h2
            have hst := HOK.out.1
            have c2 : wr.cell? ⟨w.heap.size, 2, none⟩ = some (.slice (some ⟨b, off, none⟩) ds.length cap) := blk_cell (blk_below HB1.out.2 hbw.out) 2 rfl
            obtain ⟨Wx, hWx⟩ : ∃ Wx, wr.alloc (.cells #[.int .i64 d.need.lo, .int .i64 d.need.hi, .int .i64 d.make.lo, .int .i64 d.make.hi, .int .i64 d.loss.lo, .int .i64 d.loss.hi] 144) = Wx := ⟨_, rfl⟩
            have HW0 : Hid (Below W1.heap.size W1 Wx ∧ Wx.heap[wr.heap.size]? = some (.cells #[.int .i64 d.need.lo, .int .i64 d.need.hi, .int .i64 d.make.lo, .int .i64 d.make.hi, .int .i64 d.loss.lo, .int .i64 d.loss.hi] 144 (0, 0))) := by
              rw [← hWx]
              exact ⟨hbw.out.alloc hbw.out.size _, heap_alloc_new _ _⟩
            go_upto_region 11 with (fail)
            clear hWx d0 d1 d2 d3 d4 d5 c2
            have HBW := HW0.out.1
            have HBW := Lib.hid HBW
            have HBA := Lib.hid (below_self HB1.out.1 HBW.out)
            have y1 := blk_cell HW0.out.2 1 rfl
            have y2 := blk_cell HW0.out.2 2 rfl
            have y5 := blk_cell HW0.out.2 5 rfl
            have c1 := blk_cell (blk_below HB1.out.2 HBW.out) 1 rfl
            have hneg : decide ((k : Int) ≤ P) = true := decide_eq_true (by omega)
            clear hneg
            have hbd := HBD.out k
            generalize hl0 : refW stock store pf ds k = l0 at *
            by_cases h1 : (k : Int) < pf
            · have HRK := Lib.hid (HR0.out h1)
              clear HR1 HR0 HER
              go_wp2_with (fail)
              go_roundw
              case rel => exact ⟨k + 1, by go_num, by rw [HRK.out], by omega, HBW.out, fun j hj hp => by
                rcases Nat.lt_or_ge j k with h | h
                · exact hG.out j h hp
                · have : j = k := by omega
                  subst this
                  exact .inr h1⟩
              case measure => simp [intOf]; omega
            · replace HR1 := Lib.hid (HR1.out h1)
              clear HR0
              by_cases h2 : (k : Int) = pf
              · have g2 : ((k : Int) != pf) = false := by simp [h2]
                rw [if_pos h2] at HR1
                have e6 : IntKind.i64.wrap (store - d.need.hi) = store - d.need.hi := IntWalk.i64_in _ (by omega)
                clear h2
                by_cases c4 : store - d.need.hi < 0
                · by_cases c5 : (k : Int) < P
                  · have HK : Hid (refW stock store pf ds (k + 1) < 0) := by show _ < _; rw [HR1.out]; exact c4
                    have HE : Hid (provesR stock store ds pf P = (0, 8)) := HER.out ⟨by omega, by omega⟩ HK.out
                    go_wp2_with (fail)
                    go_ret2
                    exact ⟨by rw [HE.out]; rfl, HBA.out⟩
                  · go_wp2_with (fail)
                    go_roundw
                    case rel => exact ⟨k + 1, by go_num, by rw [HR1.out], by omega, HBW.out, fun j hj hp => hG.out j (by omega) hp⟩
                    case measure => simp [intOf]; omega
                · have HK : Hid (0 ≤ refW stock store pf ds (k + 1)) := by show _ ≤ _; rw [HR1.out]; omega
                  go_wp2_with (fail)
                  go_roundw
                  case rel => exact ⟨k + 1, by go_num, by rw [HR1.out], by omega, HBW.out, fun j hj hp => by
                    rcases Nat.lt_or_ge j k with h | h
                    · exact hG.out j h hp
                    · have : j = k := by omega
                      subst this
                      exact .inl HK.out⟩
                  case measure => simp [intOf]; omega
              · have g2 : ((k : Int) != pf) = true := by simp [h2]
                rw [if_neg h2] at HR1
                clear h2
                by_cases h3 : d.loss.hi < l0
                · rw [if_pos h3] at HR1
                  have e7 : IntKind.i64.wrap (d.make.lo + l0) = d.make.lo + l0 := IntWalk.i64_in _ (by omega)
                  have e8 : IntKind.i64.wrap (d.make.lo + l0 - d.loss.hi) = d.make.lo + l0 - d.loss.hi := IntWalk.i64_in _ (by omega)
                  have e9 : IntKind.i64.wrap (d.make.lo + l0 - d.loss.hi - d.need.hi) = d.make.lo + l0 - d.loss.hi - d.need.hi := IntWalk.i64_in _ (by omega)
                  by_cases c4 : d.make.lo + l0 - d.loss.hi - d.need.hi < 0
                  · by_cases c5 : (k : Int) < P
                    · have HK : Hid (refW stock store pf ds (k + 1) < 0) := by show _ < _; rw [HR1.out]; exact c4
                      have HE : Hid (provesR stock store ds pf P = (0, 8)) := HER.out ⟨by omega, by omega⟩ HK.out
                      go_wp2_with (fail)
                      go_ret2
                      exact ⟨by rw [HE.out]; rfl, HBA.out⟩
                    · go_wp2_with (fail)
                      go_roundw
                      case rel => exact ⟨k + 1, by go_num, by rw [HR1.out], by omega, HBW.out, fun j hj hp => hG.out j (by omega) hp⟩
                      case measure => simp [intOf]; omega
                  · have HK : Hid (0 ≤ refW stock store pf ds (k + 1)) := by show _ ≤ _; rw [HR1.out]; omega
                    go_wp2_with (fail)
                    go_roundw
                    case rel => exact ⟨k + 1, by go_num, by rw [HR1.out], by omega, HBW.out, fun j hj hp => by
                      rcases Nat.lt_or_ge j k with h | h
                      · exact hG.out j h hp
                      · have : j = k := by omega
                        subst this
                        exact .inl HK.out⟩
                    case measure => simp [intOf]; omega
                · rw [if_neg h3] at HR1
                  have e9 : IntKind.i64.wrap (d.make.lo - d.need.hi) = d.make.lo - d.need.hi := IntWalk.i64_in _ (by omega)
                  by_cases c4 : d.make.lo - d.need.hi < 0
                  · by_cases c5 : (k : Int) < P
                    · have HK : Hid (refW stock store pf ds (k + 1) < 0) := by show _ < _; rw [HR1.out]; exact c4
                      have HE : Hid (provesR stock store ds pf P = (0, 8)) := HER.out ⟨by omega, by omega⟩ HK.out
                      go_wp2_with (fail)
                      go_ret2
                      exact ⟨by rw [HE.out]; rfl, HBA.out⟩
                    · go_wp2_with (fail)
                      go_roundw
                      case rel => exact ⟨k + 1, by go_num, by rw [HR1.out], by omega, HBW.out, fun j hj hp => hG.out j (by omega) hp⟩
                      case measure => simp [intOf]; omega
                  · have HK : Hid (0 ≤ refW stock store pf ds (k + 1)) := by show _ ≤ _; rw [HR1.out]; omega
                    go_wp2_with (fail)
                    go_roundw
                    case rel => exact ⟨k + 1, by go_num, by rw [HR1.out], by omega, HBW.out, fun j hj hp => by
                      rcases Nat.lt_or_ge j k with h | h
                      · exact hG.out j h hp
                      · have : j = k := by omega
                        subst this
                        exact .inl HK.out⟩
                    case measure => simp [intOf]; omega
          · have hke : k = P + 1 := by omega
            subst hke
            have HEN := Lib.hid (refW_end HQ.out.1 (fun j hj => hG.out j (Nat.lt_succ_of_lt hj) hj))
            have hbd := HBD.out (P + 1)
            have HBA := Lib.hid (below_self HB1.out.1 hbw.out)
            generalize refW stock store pf ds (P + 1) = l1 at *
            have HL : Hid (worstLack stock store pf ds P = (-l1, decide (l1 < 0))) := HEN.out
            have g9 : decide ((P : Int) + 1 ≤ P) = false := decide_eq_false (by omega)
            by_cases h5 : l1 < 0
            · have HZ : Hid (provesR stock store ds pf P = (-l1, 0)) := by show _ = _; rw [HE.out, HL.out, if_pos (by simpa using h5)]
              have e9 : IntKind.i64.wrap (-l1) = -l1 := IntWalk.i64_in _ (by omega)
              go_wp2_with (fail)
              go_ret2
              exact ⟨by rw [HZ.out]; rfl, HBA.out⟩
            · have HZ : Hid (provesR stock store ds pf P = (0, 8)) := by show _ = _; rw [HE.out, HL.out, if_neg (by simpa using h5)]
              go_wp2_with (fail)
              go_ret2
              exact ⟨by rw [HZ.out]; rfl, HBA.out⟩
  · have g1 : (winE stock store ds != 0) = true := by simp [hw]
    have HF : Hid (provesR stock store ds pf pd = (0, winE stock store ds)) := if_neg hw
    clear hw
    go_wp2_with (fail)
    go_ret2
    exact ⟨by rw [HF.out]; rfl, HB1.out.1⟩
end Go.Proofs.Ytighidggefefdaa

namespace Go.Proofs.Ytighidggefefdaa
open Go.RowKit Go.Shelf
attribute [local go_sem] Oper.semAt_some

set_option maxRecDepth 100000 in
set_option maxHeartbeats 8000000 in
theorem refLeast_any (stock store : Int) (a : Option Addr) (ds : List Dy) (cap : Nat) (w : World) (hx : Sl 6 Dy.cells w a ds) (hl : ds.length ≤ 1000000) :
    Calls Try.prog 41 #[wv stock store a ds.length cap] w (OutLeastW w stock store ds 0 store (fun v => (worstL v store ds).fails == -1)) := by
  have hB0 : Below w.heap.size w (w.alloc (.cells #[.int .i64 stock, .int .i64 store, .slice a ds.length cap] 67)) := (Below.refl _ _).alloc (Nat.le_refl _) _
  have hR0 : (w.alloc (.cells #[.int .i64 stock, .int .i64 store, .slice a ds.length cap] 67)).heap[w.heap.size]? = some (.cells #[.int .i64 stock, .int .i64 store, .slice a ds.length cap] 67 (0, 0)) := heap_alloc_new _ _
  have HX := Lib.hid (And.intro hx hl)
  clear hx hl
  go_enter Try.func41, Try.ntmps41
  go_wp2_with (fail)
  have HB0 := Lib.hid (And.intro hB0 hR0)
  have HX0 := Lib.hid (HX.out.1.below hB0)
  generalize w.alloc (.cells #[.int .i64 stock, .int .i64 store, .slice a ds.length cap] 67) = W0 at HB0 HX0 ⊢
  clear hB0 hR0
  refine (refWinter_any stock store a ds cap _ HX0.out HX.out.2).mono ?_
  rintro e W1 ⟨rfl, hb⟩
  have HB1 := Lib.hid (And.intro (below_self HB0.out.1 hb) (blk_below HB0.out.2 hb))
  have HX1 := Lib.hid (HX0.out.below hb)
  clear hb HX0
  have c0 := blk_cell HB1.out.2 0 rfl
  have c1 := blk_cell HB1.out.2 1 rfl
  have c2 := blk_cell HB1.out.2 2 rfl
  by_cases hw : winE stock store ds = 0
  · have g1 : (winE stock store ds != 0) = false := by simp [hw]
    have HW := Lib.hid hw
    obtain ⟨b1, b2, b3⟩ := win_ok hw
    have HOK := Lib.hid (And.intro b1 (And.intro b2 b3))
    have HMO : Hid (∀ s t : Int, 0 ≤ s → s ≤ t → t ≤ store → ((worstL s store ds).fails == -1) = true → ((worstL t store ds).fails == -1) = true) := fun s t h1 h2 h3 h => lasts_more HOK.out.2.2 s t h1 h2 h3 h
    have HLE : Hid (∀ e : Ending, OutLeast 0 store (fun v => (worstL v store ds).fails == -1) e → OutLeastW w stock store ds 0 store (fun v => (worstL v store ds).fails == -1) e W1 ∨ True) := fun _ _ => .inr trivial
    clear hw b1 b2 b3 HLE
    go_wp2_with (fail)
    clear g1
    refine (held99_any store store stock store a ds cap W1 HX1.out HX.out.2 (winE_any HW.out (by have := HOK.out.1; omega))).mono ?_
    rintro e W2 ⟨rfl, hb⟩
    have HB2 := Lib.hid (And.intro (below_self HB1.out.1 hb) (blk_below HB1.out.2 hb))
    have HX2 := Lib.hid (HX1.out.below hb)
    clear hb c0 c1 c2
    have c0 := blk_cell HB2.out.2 0 rfl
    have c1 := blk_cell HB2.out.2 1 rfl
    have c2 := blk_cell HB2.out.2 2 rfl
    cases hq : (worstL store store ds).fails == -1
    · have HQ := Lib.hid hq
      have HO : Hid (OutLeast 0 store (fun v => (worstL v store ds).fails == -1) (.returned (.tuple #[.int .i64 0, .int .i64 6]))) := out_none HMO.out (by have := HOK.out.1; omega) HQ.out
      clear hq
      go_wp2_with (fail)
      go_ret2
      exact ⟨by rw [if_pos HW.out]; exact HO.out, HB2.out.1⟩
    · have HQ := Lib.hid hq
      clear hq
      have hst := HOK.out.1
      go_upto_region 6 with (fail)
      go_region_held3 (fun w' => w'.cell? ⟨w.heap.size, 1, none⟩ = some (.int .i64 store)) (go_keep) (fail)
      have HB3 : Hid (Below w.heap.size w W2.drew ∧ W2.drew.heap[w.heap.size]? = some (.cells #[.int .i64 stock, .int .i64 store, .slice a ds.length cap] 67 (0, 0))) := ⟨below_self HB2.out.1 (Below.refl _ _).drew, HB2.out.2⟩
      have HX3 : Hid (Sl 6 Dy.cells W2.drew a ds) := HX2.out.below (Below.refl _ _).drew
      generalize W2.drew = W3 at HB3 HX3 ⊢
      clear c0 c1 c2
      go_wp2_with (fail)
      go_loopw [5, 6] (fun v5 v6 wr => ∃ lo hi : Int, v5 = .int .i64 lo ∧ v6 = .int .i64 hi ∧ -1 ≤ lo ∧ lo < hi ∧ hi ≤ store ∧ Hid (Below W3.heap.size W3 wr) ∧ Hid (((worstL hi store ds).fails == -1) = true ∧ (lo = -1 ∨ ((worstL lo store ds).fails == -1) = false))) (fun v5 v6 _ => (intOf v6 - intOf v5).toNat)
      case atStart => exact ⟨-1, store, rfl, rfl, Int.le_refl _, by omega, Int.le_refl _, Below.refl _ _, HQ.out, .inl rfl⟩
      case round =>
        obtain ⟨lo, hi, rfl, rfl, h1, h2, h3, hbw, hE⟩ := hrel
        have e1 : IntKind.i64.wrap (hi - lo) = hi - lo := IntWalk.i64_in _ (by omega)
        have HBA := Lib.hid (below_self HB3.out.1 hbw.out)
        have d0 := blk_cell (blk_below HB3.out.2 hbw.out) 0 rfl
        have d1 := blk_cell (blk_below HB3.out.2 hbw.out) 1 rfl
        have d2 := blk_cell (blk_below HB3.out.2 hbw.out) 2 rfl
        by_cases hlt : 1 < hi - lo
        · obtain ⟨m, hm⟩ : ∃ m, Int.tdiv (lo + hi) 2 = m := ⟨_, rfl⟩
          have hm2 : lo < m ∧ m < hi := by
            have : Int.tdiv (lo + hi) 2 = (lo + hi) / 2 := Int.tdiv_eq_ediv_of_nonneg (by omega)
            omega
          have e2 : IntKind.i64.wrap (lo + hi) = lo + hi := IntWalk.i64_in _ (by omega)
          have e3 : IntKind.i64.wrap m = m := IntWalk.i64_in _ (by omega)
          go_wp2_with (fail)
          clear e1 e2 e3 hm
          refine (held99_any m store stock store a ds cap wr (HX3.out.below hbw.out) HX.out.2 (winE_any HW.out (by omega))).mono ?_
          rintro e W5 ⟨rfl, hb⟩
          have HB5 := Lib.hid (below_self hbw.out hb)
          clear hb d0 d1 d2
          cases hq : (worstL m store ds).fails == -1
          · have HQ5 := Lib.hid hq
            clear hq
            go_wp2_with (fail)
            go_roundw
            case rel => exact ⟨m, hi, rfl, rfl, by omega, by omega, by omega, HB5.out, hE.out.1, .inr HQ5.out⟩
            case measure => simp [intOf]; omega
          · have HQ5 := Lib.hid hq
            clear hq
            go_wp2_with (fail)
            go_roundw
            case rel => exact ⟨lo, m, rfl, rfl, by omega, by omega, by omega, HB5.out, HQ5.out, hE.out.2⟩
            case measure => simp [intOf]; omega
        · have HO : Hid (OutLeast 0 store (fun v => (worstL v store ds).fails == -1) (.returned (.tuple #[.int .i64 hi, .int .i64 0]))) := out_found HMO.out (by omega) hE.out.1 (by
            rcases hE.out.2 with h | h
            · left; omega
            · right; rw [show hi - 1 = lo by omega]; exact h)
          go_wp2_with (fail)
          go_ret2
          exact ⟨by rw [if_pos HW.out]; exact HO.out, HBA.out⟩
  · have g1 : (winE stock store ds != 0) = true := by simp [hw]
    have HF := Lib.hid hw
    clear hw
    go_wp2_with (fail)
    go_ret2
    exact ⟨by rw [if_neg HF.out]; rfl, HB1.out.1⟩

set_option maxRecDepth 100000 in
set_option maxHeartbeats 8000000 in
theorem refRoom_any (stock store : Int) (a : Option Addr) (ds : List Dy) (cap : Nat) (w : World) (hx : Sl 6 Dy.cells w a ds) (hl : ds.length ≤ 1000000) :
    Calls Try.prog 43 #[wv stock store a ds.length cap] w (OutLeastW w stock store ds (roomLo stock) 1000000 (fun v => (worstL stock v ds).fails == -1)) := by
  have hB0 : Below w.heap.size w (w.alloc (.cells #[.int .i64 stock, .int .i64 store, .slice a ds.length cap] 67)) := (Below.refl _ _).alloc (Nat.le_refl _) _
  have hR0 : (w.alloc (.cells #[.int .i64 stock, .int .i64 store, .slice a ds.length cap] 67)).heap[w.heap.size]? = some (.cells #[.int .i64 stock, .int .i64 store, .slice a ds.length cap] 67 (0, 0)) := heap_alloc_new _ _
  have HX := Lib.hid (And.intro hx hl)
  clear hx hl
  go_enter Try.func43, Try.ntmps43
  go_wp2_with (fail)
  have HB0 := Lib.hid (And.intro hB0 hR0)
  have HX0 := Lib.hid (HX.out.1.below hB0)
  generalize w.alloc (.cells #[.int .i64 stock, .int .i64 store, .slice a ds.length cap] 67) = W0 at HB0 HX0 ⊢
  clear hB0 hR0
  refine (refWinter_any stock store a ds cap _ HX0.out HX.out.2).mono ?_
  rintro e W1 ⟨rfl, hb⟩
  have HB1 := Lib.hid (And.intro (below_self HB0.out.1 hb) (blk_below HB0.out.2 hb))
  have HX1 := Lib.hid (HX0.out.below hb)
  clear hb HX0
  have c0 := blk_cell HB1.out.2 0 rfl
  have c1 := blk_cell HB1.out.2 1 rfl
  have c2 := blk_cell HB1.out.2 2 rfl
  by_cases hw : winE stock store ds = 0
  · have g1 : (winE stock store ds != 0) = false := by simp [hw]
    have HW := Lib.hid hw
    obtain ⟨b1, b2, b3⟩ := win_ok hw
    have HOK := Lib.hid (And.intro b1 (And.intro b2 b3))
    have HMO : Hid (∀ s t : Int, roomLo stock ≤ s → s ≤ t → t ≤ 1000000 → ((worstL stock s ds).fails == -1) = true → ((worstL stock t ds).fails == -1) = true) := fun s t h1 h2 h3 h => room_more HOK.out.2.2 HOK.out.1.1 s t h1 h2 h3 h
    have HLE : Hid (∀ e : Ending, OutLeast (roomLo stock) 1000000 (fun v => (worstL stock v ds).fails == -1) e → OutLeastW w stock store ds (roomLo stock) 1000000 (fun v => (worstL stock v ds).fails == -1) e W1 ∨ True) := fun _ _ => .inr trivial
    clear hw b1 b2 b3 HLE
    go_wp2_with (fail)
    clear g1
    refine (held99_any stock 1000000 stock store a ds cap W1 HX1.out HX.out.2 (winE_any HW.out (by have := HOK.out.1; omega))).mono ?_
    rintro e W2 ⟨rfl, hb⟩
    have HB2 := Lib.hid (And.intro (below_self HB1.out.1 hb) (blk_below HB1.out.2 hb))
    have HX2 := Lib.hid (HX1.out.below hb)
    clear hb c0 c1 c2
    have c0 := blk_cell HB2.out.2 0 rfl
    have c1 := blk_cell HB2.out.2 1 rfl
    have c2 := blk_cell HB2.out.2 2 rfl
    cases hq : (worstL stock 1000000 ds).fails == -1
    · have HQ := Lib.hid hq
      have HO : Hid (OutLeast (roomLo stock) 1000000 (fun v => (worstL stock v ds).fails == -1) (.returned (.tuple #[.int .i64 0, .int .i64 6]))) := out_none HMO.out (by have := HOK.out.1; unfold roomLo; split <;> omega) HQ.out
      clear hq
      go_wp2_with (fail)
      go_ret2
      exact ⟨by rw [if_pos HW.out]; exact HO.out, HB2.out.1⟩
    · have HQ := Lib.hid hq
      clear hq
      have hst := HOK.out.1
      obtain ⟨W3, rfl⟩ : ∃ W, W = W2 := ⟨_, rfl⟩
      have HB3 := HB2
      have HX3 := HX2
      have e0 : IntKind.i64.wrap (stock - 1) = stock - 1 := IntWalk.i64_in _ (by omega)
      have hlo : roomLo stock - 1 = if stock - 1 < 0 then 0 else stock - 1 := by unfold roomLo; split <;> split <;> omega
      go_upto_if 22 with (fail)
      go_cut [5] (fun v wx => wx = W3 ∧ v = .int .i64 (roomLo stock - 1))
      case first =>
        by_cases c9 : stock - 1 < 0
        · rw [if_pos c9] at hlo
          have HLO := Lib.hid hlo
          clear hlo
          go_wp2_with (fail)
          go_meet
          exact ⟨rfl, by rw [HLO.out]⟩
        · rw [if_neg c9] at hlo
          have HLO := Lib.hid hlo
          clear hlo
          go_wp2_with (fail)
          go_meet
          exact ⟨rfl, by rw [HLO.out]⟩
      case rest =>
        obtain ⟨rfl, rfl⟩ := hcut
        obtain ⟨W3, rfl⟩ : ∃ W : World, W = wc := ⟨_, rfl⟩
        have hlo2 : 0 ≤ roomLo stock - 1 ∧ roomLo stock - 1 < 1000000 ∧ stock ≤ roomLo stock ∧ roomLo stock ≤ stock + 1 := by unfold roomLo; split <;> omega
        clear hlo e0 c0 c1 c2
        go_wp2_with (fail)
        go_loopw [5, 6] (fun v5 v6 wr => ∃ lo hi : Int, v5 = .int .i64 lo ∧ v6 = .int .i64 hi ∧ (roomLo stock - 1) ≤ lo ∧ lo < hi ∧ hi ≤ 1000000 ∧ Hid (Below W3.heap.size W3 wr) ∧ Hid (((worstL stock hi ds).fails == -1) = true ∧ (lo = (roomLo stock - 1) ∨ ((worstL stock lo ds).fails == -1) = false))) (fun v5 v6 _ => (intOf v6 - intOf v5).toNat)
        case atStart => exact ⟨(roomLo stock - 1), 1000000, rfl, rfl, Int.le_refl _, by omega, Int.le_refl _, Below.refl _ _, HQ.out, .inl rfl⟩
        case round =>
          obtain ⟨lo, hi, rfl, rfl, h1, h2, h3, hbw, hE⟩ := hrel
          have e1 : IntKind.i64.wrap (hi - lo) = hi - lo := IntWalk.i64_in _ (by omega)
          have HBA := Lib.hid (below_self HB3.out.1 hbw.out)
          have d0 := blk_cell (blk_below HB3.out.2 hbw.out) 0 rfl
          have d1 := blk_cell (blk_below HB3.out.2 hbw.out) 1 rfl
          have d2 := blk_cell (blk_below HB3.out.2 hbw.out) 2 rfl
          by_cases hlt : 1 < hi - lo
          · obtain ⟨m, hm⟩ : ∃ m, Int.tdiv (lo + hi) 2 = m := ⟨_, rfl⟩
            have hm2 : lo < m ∧ m < hi := by
              have : Int.tdiv (lo + hi) 2 = (lo + hi) / 2 := Int.tdiv_eq_ediv_of_nonneg (by omega)
              omega
            have e2 : IntKind.i64.wrap (lo + hi) = lo + hi := IntWalk.i64_in _ (by omega)
            have e3 : IntKind.i64.wrap m = m := IntWalk.i64_in _ (by omega)
            go_wp2_with (fail)
            clear e1 e2 e3 hm
            refine (held99_any stock m stock store a ds cap wr (HX3.out.below hbw.out) HX.out.2 (winE_any HW.out (by omega))).mono ?_
            rintro e W5 ⟨rfl, hb⟩
            have HB5 := Lib.hid (below_self hbw.out hb)
            clear hb d0 d1 d2
            cases hq : (worstL stock m ds).fails == -1
            · have HQ5 := Lib.hid hq
              clear hq
              go_wp2_with (fail)
              go_roundw
              case rel => exact ⟨m, hi, rfl, rfl, by omega, by omega, by omega, HB5.out, hE.out.1, .inr HQ5.out⟩
              case measure => simp [intOf]; omega
            · have HQ5 := Lib.hid hq
              clear hq
              go_wp2_with (fail)
              go_roundw
              case rel => exact ⟨lo, m, rfl, rfl, by omega, by omega, by omega, HB5.out, HQ5.out, hE.out.2⟩
              case measure => simp [intOf]; omega
          · have HO : Hid (OutLeast (roomLo stock) 1000000 (fun v => (worstL stock v ds).fails == -1) (.returned (.tuple #[.int .i64 hi, .int .i64 0]))) := out_found HMO.out (by omega) hE.out.1 (by
              rcases hE.out.2 with h | h
              · left; omega
              · right; rw [show hi - 1 = lo by omega]; exact h)
            go_wp2_with (fail)
            go_ret2
            exact ⟨by rw [if_pos HW.out]; exact HO.out, HBA.out⟩
  · have g1 : (winE stock store ds != 0) = true := by simp [hw]
    have HF := Lib.hid hw
    clear hw
    go_wp2_with (fail)
    go_ret2
    exact ⟨by rw [if_neg HF.out]; rfl, HB1.out.1⟩

end Go.Proofs.Ytighidggefefdaa
