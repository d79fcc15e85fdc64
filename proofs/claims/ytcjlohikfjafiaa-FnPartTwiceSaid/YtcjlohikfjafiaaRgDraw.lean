/- Drawing registers and sets of replicas. -/
import Derived.Test.YtcjlohikfjafiaaRgPart
namespace Go.Proofs.Ytcjlohikfjafiaa
open Go.RowKit
set_option linter.unusedVariables false
attribute [local go_sem ↓] Go.wp_at_zero Go.wp_at_succ

/-- a drawn set -/
def SomePost (q K m : Nat) (w : World) (e : Ending) (w' : World) : Prop :=
  ∃ (g cap : Nat) (zs : List Int), e = .returned (.slice (some ⟨g, 0, none⟩) zs.length cap) ∧ zs.length ≤ m + 1 ∧ OwnI w' w.heap.size (some ⟨g, 0, none⟩) cap zs ∧ Ready w' q K ∧ w.grownBy w' (some q)
def SomeAt (q K m : Nat) (w : World) (i : Nat) (v : Value) (wr : World) : Prop :=
  ∃ (g cap : Nat) (zs : List Int), v = .slice (some ⟨g, 0, none⟩) zs.length cap ∧ zs.length ≤ i ∧ OwnI wr w.heap.size (some ⟨g, 0, none⟩) cap zs ∧ Ready wr q (K + 2 + (m - i)) ∧ w.grownBy wr (some q)
theorem ownI_new (w : World) (cs : Array Value) (hcs : cs = #[]) : OwnI (w.alloc (.cells cs 3)) w.heap.size (some ⟨w.heap.size, 0, none⟩) 0 [] := by
  subst hcs
  exact own_empty (heap_alloc_new w _) (Nat.le_refl _)
theorem OwnI.grownQ {w w' : World} {base g cap q : Nat} {zs : List Int} (h : OwnI w base (some ⟨g, 0, none⟩) cap zs) (hg : w.grownBy w' (some q)) (hne : q < base) : OwnI w' base (some ⟨g, 0, none⟩) cap zs :=
  h.kept (fun g h1 h2 => hg.block g h2 (fun e => by injection e with e; omega))
theorem OwnS.grownQ {w w' : World} {base g cap q : Nat} {L : List Ls} (h : OwnS w base g cap L) (hg : w.grownBy w' (some q)) (hne : q < base) : OwnS w' base g cap L :=
  h.kept (hg.block g h.blk.2.1 (fun e => by injection e with e; have := h.blk.1; omega))
/-- behind one append of a number -/
theorem some_next {q j : Nat} {w wr w3 : World} {g g' cap' : Nat} {zs : List Int} {v : Int} (hq : q < w.heap.size) (hgb : w.heap.size ≤ g) (hg2 : w.grownBy wr (some q)) (hr2 : Ready wr q j) (hgr : wr.grownBy w3 (some g))
    (ho : w3.ownsRow w.heap.size 3 1 (.slice (some ⟨g', 0, none⟩) (zs.length + 1) cap') (zs.length + 1) (vals (zs ++ [v]))) :
    OwnI w3 w.heap.size (some ⟨g', 0, none⟩) cap' (zs ++ [v]) ∧ Ready w3 q j ∧ w.grownBy w3 (some q) := by
  refine ⟨by unfold OwnI; rw [List.length_append]; exact ho, ?_, ?_⟩
  · exact hr2.keep fun i hi => hgr.block i (by have := hg2.size; omega) (fun e => by injection e with e; omega)
  · exact ⟨hgr.os.trans hg2.os, hgr.tape.trans hg2.tape, hgr.output.trans hg2.output, Nat.le_trans hg2.size hgr.size, fun i hi hne => (hgr.block i (Nat.lt_of_lt_of_le hi hg2.size) (fun e => by injection e with e; omega)).trans (hg2.block i hi hne)⟩
theorem OwnI.rng {w : World} {base g cap : Nat} {zs : List Int} (h : OwnI w base (some ⟨g, 0, none⟩) cap zs) : base ≤ g ∧ g < w.heap.size := h.lt

set_option maxHeartbeats 1000000 in
theorem some_any (q K m : Nat) (w : World) (h : Ready w q (K + 2 + m)) (hm : m ≤ 20) :
    Calls Try.prog 28 #[.pointer (some ⟨q, 0, none⟩), .int .i64 m] w (SomePost q K m w) := by
  have hq := h.lt
  have H0 : Hid (SomeAt q K m w 0 (.slice (some ⟨w.heap.size, 0, none⟩) 0 0) (w.alloc (.cells #[] 3))) :=
    ⟨w.heap.size, 0, [], rfl, by simp, ownI_new w #[] rfl, by rw [Nat.sub_zero]; exact h.keep (fun i hi => Below.heap_alloc _ _ _ (by omega)), World.grownBy_alloc w _ _⟩
  go_enter Try.func28, Try.ntmps28
  go_wp2
  go_loopw [5, 6] (fun o i wr => ∃ k : Nat, k ≤ m ∧ i = .int .i64 k ∧ SomeAt q K m w k o wr) (fun _ i _ => m - (intOf i).toNat)
  case atStart => exact ⟨0, by omega, rfl, H0.out⟩
  case round =>
    obtain ⟨k, hk, rfl, g, cap, zs, rfl, hl, hown, hr, hg⟩ := hrel
    have HO := Lib.hid hown
    have hgb := hown.rng.1
    clear hown
    by_cases hlt : k < m
    · go_wp2_with fail
      refine (pick_r q (K + 2 + (m - (k + 1))) 3 wr (hr.less (by omega)) (by omega) (by omega)).mono ?_
      rintro e w1 ⟨v, hv0, hv1, rfl, hr1, hk1⟩
      have hg1 : w.grownBy w1 (some q) := grown_trans hg hk1.grown
      have HO1 := Lib.hid (HO.out.grownQ hk1.grown hq)
      by_cases hv : 0 < v
      · have hgA := hg1.size
        go_wp2_with (at_builtin; have h1 := (HO1.out.kept (w' := w1.alloc (.cells #[.int .i64 (k : Int)] 3)) (fun i _ hi => Below.heap_alloc _ _ _ hi)); have h2 := src_one (heap_alloc_new w1 (.cells #[.int .i64 (k : Int)] 3)); refine wl_app _ (by rfl) _ _ (by rfl) w.heap.size g zs.length cap (vals zs) (by rfl) h1 ⟨w1.heap.size, 0, none⟩ 1 1 [.int .i64 (k : Int)] (by rfl) rfl h2 (by simp [Value.oneCell']) (zs.length + 1) (vals (zs ++ [(k : Int)])) rfl (by simp [vals]) (by omega) (by simp; omega) ?_; intro g' c' w2 hown2 hgr2 hat2; have H2 := Lib.hid (some_next hq hgb (grown_trans hg1 (World.grownBy_alloc w1 _ _)) (Ready.below (B := w1.heap.size) hr1 (alB w1 _) (by omega)) hgr2 hown2); clear hown2 hgr2 hat2 h1 h2)
        go_roundw
        case rel => exact ⟨k + 1, by omega, by go_num, g', c', zs ++ [(k : Int)], by rw [List.length_append]; rfl, by rw [List.length_append]; simp; omega, H2.out.1, H2.out.2.1, H2.out.2.2⟩
        case measure => simp [intOf]; omega
      · go_wp2
        go_roundw
        case rel => exact ⟨k + 1, by omega, by go_num, g, cap, zs, rfl, by omega, HO1.out, hr1, hg1⟩
        case measure => simp [intOf]; omega
    · have hkm : k = m := by omega
      subst hkm
      have hr0 : Ready wr q (K + 2) := hr.less (by omega)
      clear hr
      go_wp2_with fail
      refine (pick_r q (K + 1) 20 wr hr0 (by omega) (by omega)).mono ?_
      rintro e w1 ⟨v, hv0, hv1, rfl, hr1, hk1⟩
      have hg1 : w.grownBy w1 (some q) := grown_trans hg hk1.grown
      have HO1 := Lib.hid (HO.out.grownQ hk1.grown hq)
      by_cases hv : v = 0
      · subst hv
        go_wp2_with fail
        refine (pick_r q K 7 w1 hr1 (by omega) (by omega)).mono ?_
        rintro e w2 ⟨u, hu0, hu1, rfl, hr2, hk2⟩
        have hg2 : w.grownBy w2 (some q) := grown_trans hg1 hk2.grown
        have HO2 := Lib.hid (HO1.out.grownQ hk2.grown hq)
        have hgA := hg2.size
        go_wp2_with (at_builtin; have h1 := (HO2.out.kept (w' := w2.alloc (.cells #[.int .i64 (u - 1)] 3)) (fun i _ hi => Below.heap_alloc _ _ _ hi)); have h2 := src_one (heap_alloc_new w2 (.cells #[.int .i64 (u - 1)] 3)); refine wl_app _ (by rfl) _ _ (by rfl) w.heap.size g zs.length cap (vals zs) (by rfl) h1 ⟨w2.heap.size, 0, none⟩ 1 1 [.int .i64 (u - 1)] (by rfl) rfl h2 (by simp [Value.oneCell']) (zs.length + 1) (vals (zs ++ [u - 1])) rfl (by simp [vals]) (by omega) (by simp; omega) ?_; intro g' c' w3 hown3 hgr3 hat3; have H3 := Lib.hid (some_next hq hgb (grown_trans hg2 (World.grownBy_alloc w2 _ _)) (Ready.below (B := w2.heap.size) hr2 (alB w2 _) (by omega)) hgr3 hown3); clear hown3 hgr3 hat3 h1 h2)
        go_ret
        exact ⟨g', c', zs ++ [u - 1], by rw [List.length_append]; rfl, by rw [List.length_append]; simp; omega, H3.out.1, H3.out.2.1, H3.out.2.2⟩
      · have hv' : (v == 0) = false := by simp [hv]
        go_wp2
        go_ret
        exact ⟨g, cap, zs, rfl, by omega, HO1.out, hr1.less (by omega), hg1⟩
end Go.Proofs.Ytcjlohikfjafiaa
