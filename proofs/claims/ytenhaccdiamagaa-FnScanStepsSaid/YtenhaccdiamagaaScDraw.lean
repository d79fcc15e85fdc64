/- Scans: drawing keys and scans. -/
import Derived.Test.YtenhaccdiamagaaScS2
import Derived.Test.YtenhaccdiamagaaLsDraw
import Derived.Deep.RegionLaw
namespace Go.Proofs.Ytenhaccdiamagaa
open Go.RowKit
set_option linter.unusedVariables false
attribute [local go_sem ↓] Go.wp_at_zero Go.wp_at_succ

/-- drawn keys: all but the last one are positions -/
def KyD (zs : List Int) : Prop := ∀ i, i + 1 < zs.length → 0 ≤ gt zs i ∧ gt zs i < 64
def KyPost (q K : Nat) (w : World) (e : Ending) (w' : World) : Prop :=
  ∃ (g cap : Nat) (zs : List Int), e = .returned (.slice (some ⟨g, 0, none⟩) zs.length cap) ∧ KyD zs ∧ zs.length ≤ 65 ∧ OwnI w' w.heap.size (some ⟨g, 0, none⟩) cap zs ∧ Ready w' q K ∧ w.grownBy w' (some q)
/-- .. while they are drawn -/
structure KyAt (q K : Nat) (w : World) (k : Nat) (v : Value) (wr : World) (zs : List Int) (g cap : Nat) : Prop where
  val : v = .slice (some ⟨g, 0, none⟩) zs.length cap
  all : ∀ i, i < zs.length → 0 ≤ gt zs i ∧ gt zs i < 64
  len : zs.length ≤ k
  own : OwnI wr w.heap.size (some ⟨g, 0, none⟩) cap zs
  rdy : Ready wr q K
  grown : w.grownBy wr (some q)
theorem gt_app_lt {zs : List Int} {z : Int} {i : Nat} (h : i < zs.length) : gt (zs ++ [z]) i = gt zs i := by
  rw [gt_get (by simp; omega), gt_get h, List.getElem_append_left h]
theorem gt_app_eq {zs : List Int} {z : Int} : gt (zs ++ [z]) zs.length = z := by rw [gt_get (by simp)]; simp
theorem draw_app {q K g g' cap' : Nat} {w w2 w3 : World} {zs : List Int} {z : Int} {o : Obj} (hq : q < w.heap.size) (hgb : w.heap.size ≤ g) (hg2 : w.grownBy w2 (some q)) (hr : Ready w2 q K) (hb : (w2.alloc o).grownBy w3 (some g)) :
    Ready w3 q K ∧ w.grownBy w3 (some q) := by
  have h2 : w2.grownBy w3 (some g) := (World.grownBy_alloc w2 o (some g)).trans hb
  refine ⟨hr.keep fun i hi => h2.block i (by have := hg2.size; omega) (fun e => by injection e with e; omega), ?_⟩
  exact ⟨h2.os.trans hg2.os, h2.tape.trans hg2.tape, h2.output.trans hg2.output, Nat.le_trans hg2.size h2.size, fun i hi hne => (h2.block i (Nat.lt_of_lt_of_le hi hg2.size) (fun e => by injection e with e; omega)).trans (hg2.block i hi hne)⟩

set_option maxRecDepth 20000 in
set_option maxHeartbeats 2000000 in
theorem keysD_any (q K : Nat) (w : World) (h : Ready w q (K + 66)) :
    Calls Try.prog 50 #[.pointer (some ⟨q, 0, none⟩)] w (KyPost q K w) := by
  have hq := h.lt
  obtain ⟨w1, hw1⟩ : ∃ w1, w1 = w.alloc (.cells #[] 3) := ⟨_, rfl⟩
  have H0 : Hid (KyAt q (K + 66) w 0 (.slice (some ⟨w.heap.size, 0, none⟩) 0 0) w1 [] w.heap.size 0) := by
    subst hw1
    exact ⟨rfl, fun i hi => by simp at hi, Nat.le_refl _, own_empty (heap_alloc_new w _) (Nat.le_refl _), h.keep (fun i hi => Below.heap_alloc _ _ _ (by omega)), World.grownBy_alloc w _ _⟩
  have HW := Lib.hid hw1
  clear h hw1
  go_enter Try.func50, Try.ntmps50
  go_wp2
  rw [← HW.out]
  go_loopw [3, 4] (fun o iv wr => ∃ (k g cap : Nat) (zs : List Int), k ≤ 64 ∧ iv = .int .i64 k ∧ KyAt q (K + 2 + (64 - k)) w k o wr zs g cap) (fun _ iv _ => 64 - (intOf iv).toNat)
  case atStart => exact ⟨0, _, _, _, by omega, rfl, H0.out⟩
  case round =>
    obtain ⟨k, g, cap, zs, hk, rfl, rfl, hall, hlen, hown, hrd, hgr⟩ := hrel
    have HALL := Lib.hid hall
    have HO := Lib.hid hown
    have HG := Lib.hid hgr
    have hgl := hown.lt
    obtain ⟨n, hn⟩ : ∃ n, zs.length = n := ⟨_, rfl⟩
    rw [hn] at hlen ⊢
    have HL := Lib.hid hn
    have HRD := Lib.hid hrd
    clear hall hown hgr hn hrd H0
    by_cases hlt : k < 64
    · have hki : (k : Int) < 64 := by omega
      go_wp2_with fail
      refine (pick_r q (K + 2 + (64 - (k + 1))) 5 wr (HRD.out.less (by omega)) (by omega) (by omega)).mono ?_
      rintro e w2 ⟨v, hv0, hv1, rfl, hr2, hk2⟩
      have HR2 := Lib.hid hr2
      have HG2 := Lib.hid (grown_trans HG.out hk2.grown)
      have HO2 : Hid (OwnI w2 w.heap.size (some ⟨g, 0, none⟩) cap zs) := HO.out.kept (fun i h1 h2 => hk2.block i (by omega))
      clear hr2 hk2
      by_cases hv : v = 0
      · subst hv
        go_wp2_with (at_builtin; have h1 := (HO2.out.keepB (alB w2 (.cells #[.int .i64 (k : Int)] 3)) (Nat.le_refl _)); have h2 := src_one (heap_alloc_new w2 (.cells #[.int .i64 (k : Int)] 3)); unfold OwnI at h1; rw [HL.out] at h1; refine wl_app _ (by rfl) _ _ (by rfl) w.heap.size g n cap (vals zs) (by rfl) h1 ⟨w2.heap.size, 0, none⟩ 1 1 [.int .i64 (k : Int)] (by rfl) rfl h2 (by simp [Value.oneCell']) (n + 1) (vals (zs ++ [(k : Int)])) rfl (by simp [vals]) (by omega) (by simp; have := HG2.out.size; omega) ?_; intro g' c' w3 hown3 hgr3 hat3; have H3 := Lib.hid (draw_app (zs := zs) (z := (k : Int)) (g' := g') (cap' := c') hq hgl.1 HG2.out HR2.out hgr3); have HO3 := Lib.hid hown3; clear hown3 hgr3 hat3 h1 h2)
        go_roundw
        case rel =>
          refine ⟨k + 1, g', c', zs ++ [(k : Int)], by omega, by go_num, ⟨by rw [List.length_append, HL.out]; rfl, fun i hi => ?_, by rw [List.length_append, HL.out]; simp; omega, by unfold OwnI; rw [List.length_append, HL.out]; exact HO3.out, H3.out.1, H3.out.2⟩⟩
          rw [List.length_append, HL.out] at hi
          simp at hi
          rcases Nat.lt_or_ge i n with h' | h'
          · rw [gt_app_lt (by rw [HL.out]; exact h')]; exact HALL.out i (by rw [HL.out]; exact h')
          · obtain rfl : i = n := by omega
            have := gt_app_eq (zs := zs) (z := (k : Int))
            rw [HL.out] at this; rw [this]; omega
        case measure => simp [intOf]; omega
      · have hv' : (v == 0) = false := by simp [hv]
        go_wp2
        go_roundw
        case rel => exact ⟨k + 1, g, cap, zs, by omega, by go_num, ⟨by rw [HL.out], HALL.out, by rw [HL.out]; omega, HO2.out, HR2.out, HG2.out⟩⟩
        case measure => simp [intOf]; omega
    · obtain rfl : k = 64 := by omega
      go_wp2_with fail
      refine (pick_r q (K + 1) 20 wr (HRD.out.less (by omega)) (by omega) (by omega)).mono ?_
      rintro e w2 ⟨v, hv0, hv1, rfl, hr2, hk2⟩
      have HR2 := Lib.hid hr2
      have HG2 := Lib.hid (grown_trans HG.out hk2.grown)
      have HO2 : Hid (OwnI w2 w.heap.size (some ⟨g, 0, none⟩) cap zs) := HO.out.kept (fun i h1 h2 => hk2.block i (by omega))
      clear hr2 hk2
      by_cases hv : v = 0
      · subst hv
        go_wp2_with fail
        refine (pick_r q K 66 w2 HR2.out (by omega) (by omega)).mono ?_
        rintro e w3 ⟨u, hu0, hu1, rfl, hr3, hk3⟩
        have HR3 := Lib.hid hr3
        have HG3 := Lib.hid (grown_trans HG2.out hk3.grown)
        have HO3 : Hid (OwnI w3 w.heap.size (some ⟨g, 0, none⟩) cap zs) := HO2.out.kept (fun i h1 h2 => hk3.block i (by omega))
        have sw : IntKind.i64.wrap (u - 1) = u - 1 := by rw [IntKind.wrap_i64]; omega
        clear hr3 hk3
        go_wp2_with (at_builtin; have h1 := (HO3.out.keepB (alB w3 (.cells #[.int .i64 (u - 1)] 3)) (Nat.le_refl _)); have h2 := src_one (heap_alloc_new w3 (.cells #[.int .i64 (u - 1)] 3)); unfold OwnI at h1; rw [HL.out] at h1; refine wl_app _ (by rfl) _ _ (by rfl) w.heap.size g n cap (vals zs) (by rfl) h1 ⟨w3.heap.size, 0, none⟩ 1 1 [.int .i64 (u - 1)] (by rfl) rfl h2 (by simp [Value.oneCell']) (n + 1) (vals (zs ++ [u - 1])) rfl (by simp [vals]) (by omega) (by simp; have := HG3.out.size; omega) ?_; intro g' c' w4 hown3 hgr3 hat3; have H3 := Lib.hid (draw_app (zs := zs) (z := (u - 1)) (g' := g') (cap' := c') hq hgl.1 HG3.out HR3.out hgr3); have HO4 := Lib.hid hown3; clear hown3 hgr3 hat3 h1 h2)
        go_ret
        refine ⟨g', c', zs ++ [u - 1], by rw [List.length_append, HL.out]; rfl, fun i hi => ?_, by rw [List.length_append, HL.out]; simp; omega, by unfold OwnI; rw [List.length_append, HL.out]; exact HO4.out, H3.out.1, H3.out.2⟩
        rw [List.length_append, HL.out] at hi
        simp at hi
        rw [gt_app_lt (by rw [HL.out]; omega)]; exact HALL.out i (by rw [HL.out]; omega)
      · have hv' : (v == 0) = false := by simp [hv]
        go_wp2
        go_ret
        exact ⟨g, cap, zs, by rw [HL.out]; rfl, fun i hi => HALL.out i (by omega), by rw [HL.out]; omega, HO2.out, HR2.out.less (by omega), HG2.out⟩
end Go.Proofs.Ytenhaccdiamagaa
