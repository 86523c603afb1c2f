/-
  The contract of lasts over this seat's program; and what a valid winter's bounds are.
  What is proved: lasts answers whether no day fails in the worst weather with a stock and a store.
  Conditions: at most 60 days, each within its bounds; a stock of at most the store, a store of at most 1000000.
-/
import Derived.Test.YtkmcdmidegcbaaaX
namespace Go.Proofs.Ytkmcdmidegcbaaa
open Go.RowKit Go.Shelf
attribute [local go_sem] Oper.semAt_some

def worstL (stock store : Int) (ds : List Dy) : Ps := playL stock store (ds.map fun d => d.need.hi) (ds.map fun d => d.make.lo) (ds.map fun d => d.loss.hi) ds.length
def bestL (stock store : Int) (ds : List Dy) : Ps := playL stock store (ds.map fun d => d.need.lo) (ds.map fun d => d.make.hi) (ds.map fun d => d.loss.lo) ds.length

theorem bounded_ok {s : Sp} {m : Int} (h : boundedB s m = true) : 0 ≤ s.lo ∧ s.lo ≤ s.hi ∧ s.hi ≤ m := by
  simp [boundedB] at h; exact h
def DayOk (d : Dy) : Prop := (0 ≤ d.need.lo ∧ d.need.lo ≤ d.need.hi ∧ d.need.hi ≤ 100000) ∧ (0 ≤ d.make.lo ∧ d.make.lo ≤ d.make.hi ∧ d.make.hi ≤ 100000) ∧ (0 ≤ d.loss.lo ∧ d.loss.lo ≤ d.loss.hi ∧ d.loss.hi ≤ 100000)
theorem win_ok {stock store : Int} {ds : List Dy} (h : winE stock store ds = 0) : (0 ≤ stock ∧ stock ≤ store ∧ 1 ≤ store ∧ store ≤ 1000000) ∧ (1 ≤ ds.length ∧ ds.length ≤ 60) ∧ ∀ d ∈ ds, DayOk d := by
  unfold winE at h
  split at h
  · rename_i h1
    split at h
    · rename_i h2
      split at h
      · rename_i h3
        split at h
        · rename_i h4
          simp [withinB] at h1 h2 h3
          refine ⟨⟨h2.1, h2.2, h1.1, h1.2⟩, by omega, fun d hd => ?_⟩
          have := List.all_eq_true.1 h4 d hd
          simp only [dayB, Bool.and_eq_true] at this
          exact ⟨bounded_ok this.1, bounded_ok this.2.1, bounded_ok this.2.2⟩
        · simp at h
      · simp at h
    · simp at h
  · simp at h

theorem worst_bd {ds : List Dy} (h : ∀ d ∈ ds, DayOk d) : (∀ x ∈ ds.map (fun d => d.need.hi), 0 ≤ x ∧ x ≤ 100000) ∧ (∀ x ∈ ds.map (fun d => d.make.lo), 0 ≤ x ∧ x ≤ 100000) ∧ (∀ x ∈ ds.map (fun d => d.loss.hi), 0 ≤ x ∧ x ≤ 100000) := by
  refine ⟨fun x hx => ?_, fun x hx => ?_, fun x hx => ?_⟩ <;> obtain ⟨d, hd, rfl⟩ := List.mem_map.1 hx <;> obtain ⟨h1, h2, h3⟩ := h d hd <;> constructor <;> omega
theorem best_bd {ds : List Dy} (h : ∀ d ∈ ds, DayOk d) : (∀ x ∈ ds.map (fun d => d.need.lo), 0 ≤ x ∧ x ≤ 100000) ∧ (∀ x ∈ ds.map (fun d => d.make.hi), 0 ≤ x ∧ x ≤ 100000) ∧ (∀ x ∈ ds.map (fun d => d.loss.lo), 0 ≤ x ∧ x ≤ 100000) := by
  refine ⟨fun x hx => ?_, fun x hx => ?_, fun x hx => ?_⟩ <;> obtain ⟨d, hd, rfl⟩ := List.mem_map.1 hx <;> obtain ⟨h1, h2, h3⟩ := h d hd <;> constructor <;> omega

/-- play of the worst weather's spell. -/
theorem play_worst {stock store : Int} {a : Option Addr} {ds : List Dy} {cap : Nat} {an am al : Option Addr} {cn cm cl : Nat} {w : World} (hN : IntSl w an (ds.map fun d => d.need.hi)) (hM : IntSl w am (ds.map fun d => d.make.lo)) (hL : IntSl w al (ds.map fun d => d.loss.hi))
    (hn : ds.length ≤ 60) (hst : 0 ≤ stock ∧ stock ≤ store ∧ store ≤ 1000000) (hd : ∀ d ∈ ds, DayOk d) :
    Calls Try.prog 101 #[sv stock store a ds.length cap an ds.length cn am ds.length cm al ds.length cl] w (OutTale w (worstL stock store ds)) :=
  play_any stock store a ds.length cap an _ cn am _ cm al _ cl w hN hM hL (by simp) (by simp) (by simp) hn hst (worst_bd hd)
theorem play_best {stock store : Int} {a : Option Addr} {ds : List Dy} {cap : Nat} {an am al : Option Addr} {cn cm cl : Nat} {w : World} (hN : IntSl w an (ds.map fun d => d.need.lo)) (hM : IntSl w am (ds.map fun d => d.make.hi)) (hL : IntSl w al (ds.map fun d => d.loss.lo))
    (hn : ds.length ≤ 60) (hst : 0 ≤ stock ∧ stock ≤ store ∧ store ≤ 1000000) (hd : ∀ d ∈ ds, DayOk d) :
    Calls Try.prog 101 #[sv stock store a ds.length cap an ds.length cn am ds.length cm al ds.length cl] w (OutTale w (bestL stock store ds)) :=
  play_any stock store a ds.length cap an _ cn am _ cm al _ cl w hN hM hL (by simp) (by simp) (by simp) hn hst (best_bd hd)

set_option maxHeartbeats 1000000 in
theorem fld0 (a b c : Option Addr) (n1 c1 n2 c2 n3 c3 : Nat) (x y : Int) (w : World) : (Instr.field 146 (.agg #[.slice a n1 c1, .slice b n2 c2, .slice c n3 c3, .int .i64 x, .int .i64 y]) 0).run Try.prog w = .ok (.slice a n1 c1) w := by kernel_rfl
theorem fld3 (a b c : Option Addr) (n1 c1 n2 c2 n3 c3 : Nat) (x y : Int) (w : World) : (Instr.field 146 (.agg #[.slice a n1 c1, .slice b n2 c2, .slice c n3 c3, .int .i64 x, .int .i64 y]) 3).run Try.prog w = .ok (.int .i64 x) w := by kernel_rfl

/-- No day of the winter fails with this stock and store. -/
theorem lasts_any (stock store stock0 store0 : Int) (a : Option Addr) (ds : List Dy) (cap : Nat) (w : World) (hx : Sl 6 Dy.cells w a ds) (hn : ds.length ≤ 60) (hst : 0 ≤ stock ∧ stock ≤ store ∧ store ≤ 1000000) (hd : ∀ d ∈ ds, DayOk d) :
    Calls Try.prog 98 #[wv stock0 store0 a ds.length cap, .int .i64 stock, .int .i64 store] w fun e w' => e = .returned (.bool ((worstL stock store ds).fails == -1)) ∧ Below w.heap.size w w' := by
  have HD := Lib.hid (And.intro hst (And.intro hd (And.intro hx hn)))
  clear hst hd hx hn
  have F3 := fld3
  go_enter Try.func98, Try.ntmps98
  go_wp2_with (fail)
  obtain ⟨Wa, hWa⟩ : ∃ Wa, w.alloc (.cells #[.int .i64 stock, .int .i64 store, .slice a ds.length cap] 60) = Wa := ⟨_, rfl⟩
  have hba : Below w.heap.size w Wa := by rw [← hWa]; exact (Below.refl _ _).alloc (Nat.le_refl _) _
  have h0 : Wa.heap[w.heap.size]? = some (.cells #[.int .i64 stock, .int .i64 store, .slice a ds.length cap] 60 (0, 0)) := by rw [← hWa]; exact heap_alloc_new _ _
  rw [hWa]
  clear hWa
  have c0 := blk_cell h0 0 rfl
  have c1 := blk_cell h0 1 rfl
  have c2 := blk_cell h0 2 rfl
  have HA := Lib.hid (And.intro hba h0)
  clear hba h0
  go_region_held3 (fun w' => w'.cell? ⟨w.heap.size, 0, none⟩ = some (.int .i64 stock) ∧ w'.cell? ⟨w.heap.size, 1, none⟩ = some (.int .i64 store) ∧ w'.cell? ⟨w.heap.size, 2, none⟩ = some (.slice a ds.length cap)) (go_keep)
    (first
      | (go_at_call 93; refine (worst_any _).mono ?_; rintro e w1 ⟨rfl, hb1⟩; have hb1' : Below Wa.heap.size Wa w1 := ⟨hb1.os, hb1.tape, hb1.output, hb1.size, hb1.block⟩; have H1 := Lib.hid (And.intro (below_self HA.out.1 hb1') (blk_below HA.out.2 hb1')); have d0 := blk_cell H1.out.2 0 rfl; have d1 := blk_cell H1.out.2 1 rfl; have d2 := blk_cell H1.out.2 2 rfl; clear hb1 hb1' c0 c1 c2)
      | (go_at_call 94; refine (spell_any 129 130 129 Sp.hi Sp.lo Sp.hi high_f low_f high_f stock store a ds cap _ (HD.out.2.2.1.below H1.out.1) (by have := HD.out.2.2.2; omega)).mono ?_; rintro e w2 ⟨⟨an, cn, am, cm, al, cl, rfl, hN, hM, hL, hb2⟩⟩; have H2 := Lib.hid (And.intro (below_self H1.out.1 hb2) (And.intro (blk_below H1.out.2 hb2) (And.intro hN (And.intro hM hL)))); clear hN hM hL hb2 d0 d1 d2; have e0 := blk_cell H2.out.2.1 0 rfl; have e1 := blk_cell H2.out.2.1 1 rfl; have e2 := blk_cell H2.out.2.1 2 rfl)
      | (go_at_call 101; refine (play_worst H2.out.2.2.1 H2.out.2.2.2.1 H2.out.2.2.2.2 HD.out.2.2.2 HD.out.1 HD.out.2.1).mono ?_; rintro e w3 ⟨sa, sc, ma, mc, pa, pn, pc, rfl, hs, hm, hb3⟩; have H3 := Lib.hid (And.intro (below_self H2.out.1 hb3) (blk_below H2.out.2.1 hb3)); clear hs hm hb3 e0 e1 e2; have e0 := blk_cell H3.out.2 0 rfl; have e1 := blk_cell H3.out.2 1 rfl; have e2 := blk_cell H3.out.2 2 rfl))
  all_goals (go_wp2; go_ret; exact ⟨rfl, H3.out.1⟩)

end Go.Proofs.Ytkmcdmidegcbaaa
