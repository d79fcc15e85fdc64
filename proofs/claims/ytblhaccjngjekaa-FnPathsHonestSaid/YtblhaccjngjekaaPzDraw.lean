/- Drawing puzzles and answers. -/
import Derived.Test.YtblhaccjngjekaaPzS
import Derived.Test.YtblhaccjngjekaaDrawL
namespace Go.Proofs.Ytblhaccjngjekaa
open Go.RowKit
set_option linter.unusedVariables false

/-- two drawn numbers -/
def DrewZ2 (w : World) (e : Ending) (w' : World) : Prop :=
  ∃ x y : Int, e = .returned (.tuple #[.int .i64 x, .int .i64 y]) ∧ -1000 ≤ x ∧ x ≤ 1000 ∧ -1000 ≤ y ∧ y ≤ 1000 ∧ Below w.heap.size w w'
/-- three drawn numbers -/
def DrewZ3 (w : World) (e : Ending) (w' : World) : Prop :=
  ∃ x y z : Int, e = .returned (.tuple #[.int .i64 x, .int .i64 y, .int .i64 z]) ∧ -1000 ≤ x ∧ x ≤ 1000 ∧ -1000 ≤ y ∧ y ≤ 1000 ∧ -1000 ≤ z ∧ z ≤ 1000 ∧ Below w.heap.size w w'
/-- a drawn row of numbers -/
def DrewZR (w : World) (e : Ending) (w' : World) : Prop :=
  ∃ (g cap : Nat) (zs : List Int), e = .returned (.slice (some ⟨g, 0, none⟩) zs.length cap) ∧ zs.length ≤ 8 ∧ (∀ i, i < zs.length → 0 ≤ gt zs i) ∧ OwnI w' w.heap.size (some ⟨g, 0, none⟩) cap zs ∧ Below w.heap.size w w'
theorem quo19 {p : Int} (h0 : 0 ≤ p) (h1 : p < 20) : ∃ d : Int, p.tdiv 19 = d ∧ 0 ≤ d ∧ d ≤ 1 := by
  refine ⟨p.tdiv 19, rfl, ?_, ?_⟩ <;> rw [Int.tdiv_eq_ediv_of_nonneg h0] <;> omega

set_option maxHeartbeats 1000000 in
theorem drawPuzzleHash (s : Option Addr) (len cap : Nat) (w : World) (h : BytesAt w s len cap) :
    Calls Try.prog 17 #[.slice s len cap] w (DrewZ2 w) := by
  go_enter Try.func17, Try.ntmps17
  go_wp2_with fail
  refine (open_any s len cap w h).mono ?_
  rintro e w0 ⟨rfl, hr0, hb0, hz0⟩
  have HZ := Lib.hid hz0
  clear hz0
  go_wp2_with fail
  refine (point_r w.heap.size 10 w0 (hr0.less (by omega))).mono ?_
  rintro e w1 ⟨x, hx0, hx1, rfl, hr1, hk1⟩
  go_wp2_with fail
  refine (pick_r w.heap.size 5 256 w1 (hr1.less (by omega)) (by omega) (by omega)).mono ?_
  rintro e w2 ⟨p, hp0, hp1, rfl, hr2, hk2⟩
  go_wp2_with fail
  refine (pick_r w.heap.size 4 20 w2 (hr2.less (by omega)) (by omega) (by omega)).mono ?_
  rintro e w3 ⟨p3, hp30, hp31, rfl, hr3, hk3⟩
  obtain ⟨d, hd, hd0, hd1⟩ := quo19 hp30 hp31
  go_wp2_with fail
  refine (pick_r w.heap.size 3 20 w3 (hr3.less (by omega)) (by omega) (by omega)).mono ?_
  rintro e w4 ⟨p4, hp40, hp41, rfl, hr4, hk4⟩
  obtain ⟨d4, hd4, hd40, hd41⟩ := quo19 hp40 hp41
  go_wp2
  go_ret2
  have hz := HZ.out
  exact ⟨x, p + d - d4 * 2, rfl, by omega, by omega, by omega, by omega, below_of_grown hb0 (Nat.le_refl _) (by omega) (grown_trans hk1.grown (grown_trans hk2.grown (grown_trans hk3.grown hk4.grown)))⟩

set_option maxHeartbeats 1000000 in
theorem drawPuzzleSolve (s : Option Addr) (len cap : Nat) (w : World) (h : BytesAt w s len cap) :
    Calls Try.prog 24 #[.slice s len cap] w (DrewZ2 w) := by
  go_enter Try.func24, Try.ntmps24
  go_wp2_with fail
  refine (open_any s len cap w h).mono ?_
  rintro e w0 ⟨rfl, hr0, hb0, hz0⟩
  have HZ := Lib.hid hz0
  clear hz0
  go_wp2_with fail
  refine (point_r w.heap.size 10 w0 (hr0.less (by omega))).mono ?_
  rintro e w1 ⟨x, hx0, hx1, rfl, hr1, hk1⟩
  go_wp2_with fail
  refine (pick_r w.heap.size 5 8 w1 (hr1.less (by omega)) (by omega) (by omega)).mono ?_
  rintro e w2 ⟨p, hp0, hp1, rfl, hr2, hk2⟩
  go_wp2
  go_ret2
  have hz := HZ.out
  exact ⟨x, p - 1, rfl, by omega, by omega, by omega, by omega, below_of_grown hb0 (Nat.le_refl _) (by omega) (grown_trans hk1.grown hk2.grown)⟩

set_option maxHeartbeats 1000000 in
theorem drawPuzzleOk (s : Option Addr) (len cap : Nat) (w : World) (h : BytesAt w s len cap) :
    Calls Try.prog 21 #[.slice s len cap] w (DrewZ3 w) := by
  go_enter Try.func21, Try.ntmps21
  go_wp2_with fail
  refine (open_any s len cap w h).mono ?_
  rintro e w0 ⟨rfl, hr0, hb0, hz0⟩
  have HZ := Lib.hid hz0
  clear hz0
  go_wp2_with fail
  refine (point_r w.heap.size 10 w0 (hr0.less (by omega))).mono ?_
  rintro e w1 ⟨x, hx0, hx1, rfl, hr1, hk1⟩
  go_wp2_with fail
  refine (pick_r w.heap.size 5 8 w1 (hr1.less (by omega)) (by omega) (by omega)).mono ?_
  rintro e w2 ⟨p, hp0, hp1, rfl, hr2, hk2⟩
  go_wp2_with fail
  refine (pick_r w.heap.size 4 2 w2 (hr2.less (by omega)) (by omega) (by omega)).mono ?_
  rintro e w3 ⟨p3, hp30, hp31, rfl, hr3, hk3⟩
  have hg3 := grown_trans hk1.grown (grown_trans hk2.grown hk3.grown)
  by_cases h3 : p3 = 0
  · subst h3
    go_wp2_with fail
    refine (ssolve_any x (p - 1) w3).mono ?_
    rintro e w' ⟨rfl, rfl⟩
    have hsv := slvR_bd x (p - 1)
    go_wp2
    refine bodyPost_ret (v := .tuple #[.int .i64 x, .int .i64 (slvR x (p - 1)), .int .i64 (p - 1)]) (by simp [results, Try.results21, go_sem]) rfl ?_
    have hz := HZ.out
    exact ⟨x, slvR x (p - 1), p - 1, rfl, by omega, by omega, by omega, by omega, by omega, by omega, below_of_grown hb0 (Nat.le_refl _) (by omega) hg3⟩
  · have h3' : (p3 == 0) = false := by simp [h3]
    go_wp2_with fail
    refine (pick_r w.heap.size 3 256 w3 (hr3.less (by omega)) (by omega) (by omega)).mono ?_
    rintro e w4 ⟨p4, hp40, hp41, rfl, hr4, hk4⟩
    go_wp2
    refine bodyPost_ret (v := .tuple #[.int .i64 x, .int .i64 p4, .int .i64 (p - 1)]) (by simp [results, Try.results21, go_sem]) rfl ?_
    have hz := HZ.out
    exact ⟨x, p4, p - 1, rfl, by omega, by omega, by omega, by omega, by omega, by omega, below_of_grown hb0 (Nat.le_refl _) (by omega) (grown_trans hg3 hk4.grown)⟩

theorem alBZ (w : World) (o : Obj) : Below w.heap.size w (w.alloc o) := (Below.refl _ _).alloc (Nat.le_refl _) _
theorem grown_appZ {a b d : World} {q g : Nat} {o : Obj} (h : a.grownBy b (some q)) (hg : (b.alloc o).grownBy d (some g)) (hgb : a.heap.size ≤ g) : a.grownBy d (some q) :=
  ⟨hg.os.trans h.os, hg.tape.trans h.tape, hg.output.trans h.output, by have h1 := h.size; have h2 := hg.size; simp at h2; omega,
    fun k hk hn => (hg.block k (by have := h.size; simp; omega) (by intro e; injection e with e; omega)).trans ((Below.heap_alloc _ _ _ (by have := h.size; omega)).trans (h.block k hk hn))⟩
theorem ready_appZ {b d : World} {q k g : Nat} {o : Obj} (h : Ready b q k) (hg : (b.alloc o).grownBy d (some g)) (hgb : q < g) : Ready d q k :=
  h.keep fun i hi => (hg.block i (by have := h.lt; simp; omega) (by intro e; injection e with e; omega)).trans (Below.heap_alloc _ _ _ (by have := h.lt; omega))
theorem OwnI.grownZ {w w' : World} {base g cap q : Nat} {zs : List Int} (h : OwnI w base (some ⟨g, 0, none⟩) cap zs) (hg : w.grownBy w' (some q)) (hne : q < base) : OwnI w' base (some ⟨g, 0, none⟩) cap zs :=
  h.kept fun k hk hk' => hg.block k hk' (by intro e; injection e with e; omega)
theorem gt_app {ws : List Int} {z : Int} (h : ∀ i, i < ws.length → 0 ≤ gt ws i) (hz : 0 ≤ z) : ∀ i, i < (ws ++ [z]).length → 0 ≤ gt (ws ++ [z]) i := by
  intro i hi
  rw [List.length_append] at hi
  simp at hi
  by_cases h1 : i < ws.length
  · have e : gt (ws ++ [z]) i = gt ws i := by unfold gt; rw [List.getD_eq_getElem?_getD, List.getD_eq_getElem?_getD, List.getElem?_append_left h1]
    rw [e]; exact h i h1
  · obtain rfl : i = ws.length := by omega
    have e : gt (ws ++ [z]) ws.length = z := by simp [gt]
    rw [e]; exact hz
/-- numbers so far, behind the reader's world -/
def RwAt (q K : Nat) (w : World) (n : Nat) (v : Value) (wr : World) : Prop :=
  ∃ (g cap : Nat) (ws : List Int), v = .slice (some ⟨g, 0, none⟩) n cap ∧ ws.length = n ∧ (∀ i, i < ws.length → 0 ≤ gt ws i) ∧ OwnI wr w.heap.size (some ⟨g, 0, none⟩) cap ws ∧ Ready wr q K ∧ w.grownBy wr (some q)
theorem rw_new {q K : Nat} {w : World} (h : Ready w q K) : RwAt q K w 0 (.slice (some ⟨w.heap.size, 0, none⟩) 0 0) (w.alloc (.cells #[] 3)) := by
  obtain ⟨g, cap, e, ho, _⟩ := sofar_new w #[] rfl
  injection e with e1 e2 e3; injection e1 with e1; injection e1 with e1; subst e1; subst e3
  have hl := h.lt
  exact ⟨w.heap.size, 0, [], rfl, rfl, (fun i hi => by simp at hi), ho, h.keep (fun i hi => Below.heap_alloc _ _ _ (by omega)), World.grownBy_alloc w _ _⟩

set_option maxRecDepth 20000 in
set_option maxHeartbeats 2000000 in
theorem drawPathsAnswer (s : Option Addr) (len cap : Nat) (w : World) (h : BytesAt w s len cap) :
    Calls Try.prog 31 #[.slice s len cap] w (DrewZR w) := by
  go_enter Try.func31, Try.ntmps31
  go_wp2_with fail
  refine (open_any s len cap w h).mono ?_
  rintro e w1 ⟨rfl, hr0, hb0, hz0⟩
  have HB := Lib.hid hb0
  have hzl : w.heap.size < w1.heap.size := by omega
  obtain ⟨q, hq⟩ : ∃ q, w.heap.size = q := ⟨_, rfl⟩
  rw [hq] at hr0 hzl ⊢
  have hr1 : Ready w1 q (3 * 9 + 30) := hr0.less (by omega)
  have HR := Lib.hid (rw_new hr1)
  clear hz0 hr0 hb0 hr1
  go_wp2
  go_loopw [4, 5] (fun o i wr => ∃ k : Nat, k ≤ 8 ∧ i = .int .i64 k ∧ RwAt q (3 * (9 - k) + 30) w1 k o wr) (fun _ i _ => 8 - (intOf i).toNat)
  case atStart => exact ⟨0, by omega, rfl, HR.out⟩
  case round =>
    obtain ⟨k, hk, rfl, g, cap, ws, rfl, hw, hpos, hown, hr, hg⟩ := hrel
    have HPOS := Lib.hid hpos
    have HW := Lib.hid hw
    have HO := Lib.hid hown
    have hgl := hown.lt
    clear hw hown hpos HR
    go_wp2_with fail
    refine (pick_r q (3 * (9 - k) + 29) 9 wr (hr.less (by omega)) (by omega) (by omega)).mono ?_
    rintro e w2 ⟨p, hp0, hp1, rfl, hr2, hk2⟩
    have HO2 := Lib.hid (HO.out.grownZ hk2.grown hzl)
    have hg2 := grown_trans hg hk2.grown
    have hg2s := hg2.size
    clear hr hg hk2
    by_cases hlt : (k : Int) < p
    · go_wp2_with fail
      refine (pick_r q (3 * (9 - k) + 28) 2 w2 (hr2.less (by omega)) (by omega) (by omega)).mono ?_
      rintro e w3 ⟨a, ha0, ha1, rfl, hr3, hk3⟩
      go_wp2_with fail
      refine (pick_r q (3 * (9 - k) + 27) 3 w3 (hr3.less (by omega)) (by omega) (by omega)).mono ?_
      rintro e w4 ⟨b, hb0, hb1, rfl, hr4, hk4⟩
      have HO4 := Lib.hid ((HO2.out.grownZ hk3.grown hzl).grownZ hk4.grown hzl)
      have hg4 := grown_trans hg2 (grown_trans hk3.grown hk4.grown)
      have hg4s := hg4.size
      obtain ⟨z, hz⟩ : ∃ z, a * b = z := ⟨_, rfl⟩
      have hz0 : 0 ≤ z ∧ z ≤ 2 := by
        have : a = 0 ∨ a = 1 := by omega
        rcases this with rfl | rfl <;> omega
      obtain ⟨hz0, hz2⟩ := hz0
      have hwz : IntKind.i64.wrap (a * b) = z := by rw [hz, IntKind.wrap_i64]; omega
      clear hr2 hg2 hk3 hk4 HO2 hr3 hg2s
      go_wp2_with (at_builtin; have h1 := (HO4.out.keepB (alBZ w4 (.cells #[.int .i64 z] 3)) (Nat.le_refl _)); have h2 := src_one (heap_alloc_new w4 (.cells #[.int .i64 z] 3)); unfold OwnI at h1; rw [HW.out] at h1; refine wl_app _ (by rfl) _ _ (by rfl) w1.heap.size g k cap (vals ws) (by rfl) h1 ⟨w4.heap.size, 0, none⟩ 1 1 [.int .i64 z] (by rfl) rfl h2 (by simp [Value.oneCell']) (k + 1) (vals (ws ++ [z])) rfl (by simp [vals]) (by omega) (by simp; omega) ?_; intro g' c' w5 hown3 hgr3 hat3; have H3 : Hid (RwAt q (3 * (9 - (k + 1)) + 30) w1 (k + 1) (.slice (some ⟨g', 0, none⟩) (k + 1) c') w5) := ⟨g', c', ws ++ [z], rfl, by rw [List.length_append, HW.out]; rfl, gt_app HPOS.out hz0, by unfold OwnI; rw [List.length_append, HW.out]; exact hown3, (ready_appZ hr4 hgr3 (by omega)).less (by omega), grown_appZ hg4 hgr3 (by omega)⟩; clear hown3 hgr3 hat3 h1 h2)
      go_roundw
      case rel => exact ⟨k + 1, by omega, by go_num, H3.out⟩
      case measure => simp [intOf]; omega
    · go_wp2
      go_ret
      subst hq
      have e : k = ws.length := HW.out.symm
      subst e
      exact ⟨g, cap, ws, rfl, hk, HPOS.out, HO2.out.less (by omega), below_of_grown HB.out (Nat.le_refl _) (by omega) hg2⟩
end Go.Proofs.Ytblhaccjngjekaa
