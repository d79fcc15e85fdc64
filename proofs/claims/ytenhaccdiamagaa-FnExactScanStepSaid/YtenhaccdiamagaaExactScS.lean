/- The walk of the exact law of a scan's step. -/
import Derived.Test.YtenhaccdiamagaaLawsSc
import Derived.Deep.DeepCutAuto
import Derived.Deep.RegionHeld3
import Derived.Deep.RegionWith
namespace Go.Proofs.Ytenhaccdiamagaa
open Go.RowKit
set_option linter.unusedVariables false
attribute [local go_sem ↓] Go.wp_at_zero Go.wp_at_succ

/-- what a call of the law hands on: the scan in its variable, the leases, the keys, what was told -/
def InpS (A : Nat) (a : Option Addr) (L : List Ls) (b : Option Addr) (K : List Int) (d : Option Addr) (cd : Nat) (s : Sc) (U : World) : Prop := StSc U A d cd s ∧ LsAt U a L ∧ IntsAt U b K ∧ IntsAt U d s.t
def zS : Obj := .cells #[.int .i64 0, .slice none 0 0] 26 (0, 0)
theorem bzS {w w' : World} {o : Obj} (hb : Below (w.alloc o).heap.size (w.alloc o) w') : w'.heap[w.heap.size]? = some o := (hb.block _ (by simp)).trans (heap_alloc_new w o)
theorem zs_eq {w : World} {b : Nat} (h : w.heap[b]? = some zS) : w.heap[b]? = some (.cells #[.int .i64 0, .slice none 0 0] 26 (0, 0)) := h
theorem zs_facts {w : World} {b : Nat} (h : w.heap[b]? = some zS) : w.cell? ⟨b, 0, none⟩ = some (.int .i64 0) ∧ w.cell? ⟨b, 1, none⟩ = some (.slice none 0 0) ∧ w.frozen? ⟨b, 0, none⟩ = false ∧ w.frozen? ⟨b, 1, none⟩ = false := by
  obtain ⟨h1, h2⟩ := cell2s (zs_eq h)
  exact ⟨h1, h2, frozen_of_cells (zs_eq h) 0, frozen_of_cells (zs_eq h) 1⟩
theorem stR_len64 (L : List Ls) (K : List Int) (s : Sc) : (stR L K s).1.t.length ≤ 64 := by
  cases hk : stOk L K s
  · rw [stR_bad hk]; simp
  · obtain ⟨h1, h2, h3⟩ := (stOk_iff _ _ _).1 hk
    by_cases hx : s.x = 64
    · rw [stR_end hk hx]; exact sc_len h3
    · rw [stR_yes hk hx]
      have := ((scB_iff s).1 h3).2.1
      exact sc_len (stS_ok h1 h2 h3 (by omega))
theorem toLsE (a : Option Addr) (len cap : Nat) (L : List Ls) (w : World) (h : LsAt w a L) (hz : L.length = len) (hm : len ≤ 1048576) :
    Calls Try.prog 39 #[.slice a len cap] w fun e w' => ∃ g, e = .returned (.slice (some ⟨g, 0, none⟩) L.length L.length) ∧ OwnS w' w.heap.size g L.length L ∧ Below w.heap.size w w' :=
  (toLs_any a len cap L w h hz hm).mono (by rintro e w' ⟨rfl, ho, hb⟩; exact ⟨_, rfl, ho, hb⟩)
theorem toIntE (a : Option Addr) (len cap : Nat) (K : List Int) (w : World) (h : IntsAt w a K) (hz : K.length = len) (hm : len ≤ 1048576) :
    Calls Try.prog 40 #[.slice a len cap] w fun e w' => ∃ g, e = .returned (.slice (some ⟨g, 0, none⟩) K.length K.length) ∧ IntsAt w' (some ⟨g, 0, none⟩) K ∧ Below w.heap.size w w' :=
  (toInts_any a len cap K w h hz hm).mono (by rintro e w' ⟨rfl, ho, hb, _⟩; exact ⟨_, rfl, ho.ints, hb⟩)

set_option maxRecDepth 20000 in
set_option maxHeartbeats 4000000 in
theorem exScanStep (a : Option Addr) (len cap : Nat) (L : List Ls) (b : Option Addr) (len2 cap2 : Nat) (K : List Int) (d : Option Addr) (cd : Nat) (s : Sc) (w : World) (hz : L.length = len) (h : LsAt w a L) (hm : len ≤ maxLen) (hz2 : K.length = len2) (h2 : IntsAt w b K) (hm2 : len2 ≤ maxLen) (h3 : IntsAt w d s.t) (hm3 : s.t.length ≤ maxLen) :
    Calls Try.prog 13 #[.slice a len cap, .slice b len2 cap2, .agg #[.int .i64 s.x, .slice d s.t.length cd]] w fun e w' => e = .returned (.bool true) ∧ Below w.heap.size w w' := by
  subst hz
  subst hz2
  obtain ⟨W, hW⟩ : ∃ W, W = w.alloc (.cells #[.int .i64 s.x, .slice d s.t.length cd] 49) := ⟨_, rfl⟩
  have hB : Below w.heap.size w W := by rw [hW]; exact (Below.refl _ _).alloc (Nat.le_refl _) _
  have hs : W.heap.size = w.heap.size + 1 := by rw [hW]; simp
  have hst : StSc W w.heap.size d cd s := by rw [hW]; exact stsc_new
  have HBX : Hid (∀ U, Below W.heap.size W U → InpS w.heap.size a L b K d cd s U) := fun U hb => ⟨stsc_keep hst (hb.block _ (by omega)), (h.keepB hB (Nat.le_refl _)).keepB hb (Nat.le_refl _), (h2.keepB hB (Nat.le_refl _)).keepB hb (Nat.le_refl _), (h3.keepB hB (Nat.le_refl _)).keepB hb (Nat.le_refl _)⟩
  have HIN : Hid (∀ U, Below w.heap.size w U → LsAt U a L ∧ IntsAt U b K ∧ IntsAt U d s.t) := fun U hU => ⟨h.keepB hU (Nat.le_refl _), h2.keepB hU (Nat.le_refl _), h3.keepB hU (Nat.le_refl _)⟩
  have HB := Lib.hid hB
  have HW := Lib.hid hW
  have HS := Lib.hid hs
  have HLM := Lib.hid hm
  have HKM := Lib.hid hm2
  have HNM := Lib.hid hm3
  obtain ⟨c0, c1⟩ := hst
  have hm2' := hm2
  unfold maxLen at hm2'
  clear hW hB hs h h2 h3 hm hm2 hm3
  by_cases hk2 : 1048576 < K.length
  · clear c0 c1
    go_enter Try.func13, Try.ntmps13
    go_wp2
    rw [← HW.out]
    go_ret
    exact ⟨rfl, HB.out⟩
  by_cases hl : 1048576 < L.length
  · have hlf := Lib.hid (leftL_noX hl)
    clear hl
    go_enter Try.func13, Try.ntmps13
    go_wp2_with fail
    rw [← HW.out]
    refine (szLs_any a _ cap 1048576 W (by omega) (by omega) HLM.out).mono ?_
    rintro e w' ⟨rfl, rfl⟩
    rw [hlf.out]
    go_wp2
    go_ret
    exact ⟨rfl, HB.out⟩
  have hlf := Lib.hid (leftL_yesX (len := L.length) (by omega))
  have d9 : decide ((1048576 : Int) - (L.length : Int) < 0) = false := by simp; omega
  by_cases hl3 : (1048576 : Int) - (L.length : Int) - (s.t.length : Int) < 0
  · have He : Hid (leftT (1048576 - (L.length : Int)) s.t.length = -1) := by show leftT _ _ = _; unfold leftT; rw [if_pos hl3]
    clear hl3
    go_enter Try.func13, Try.ntmps13
    go_wp2_with fail
    rw [← HW.out]
    refine (szLs_any a _ cap 1048576 W (by omega) (by omega) HLM.out).mono ?_
    rintro e w' ⟨rfl, rfl⟩
    rw [hlf.out]
    go_wp2_with fail
    refine (szSc_any d cd s (1048576 - (L.length : Int)) W (by omega) (by omega) HNM.out).mono ?_
    rintro e w1 ⟨rfl, hb1⟩
    rw [He.out]
    have HB1 := Lib.hid (HB.out.trans (hb1.mono HB.out.size))
    clear hb1
    go_wp2
    go_ret
    exact ⟨rfl, HB1.out⟩
  have He : Hid (leftT (1048576 - (L.length : Int)) s.t.length = 1048576 - (L.length : Int) - (s.t.length : Int)) := by show leftT _ _ = _; unfold leftT; rw [if_neg hl3]
  have d8 : decide ((1048576 : Int) - (L.length : Int) - (s.t.length : Int) < 0) = false := by simp; omega
  have HLS : Hid (L.length ≤ 1048576) := by show _ ≤ _; omega
  have HLS2 : Hid (K.length ≤ 1048576) := by show _ ≤ _; omega
  have HTS : Hid (s.t.length ≤ 1048576) := by show _ ≤ _; omega
  obtain ⟨S', v, hR⟩ : ∃ S' v, stR L K s = (S', v) := ⟨_, _, rfl⟩
  have HOS : Hid (S'.t.length ≤ 1048576) := by show _ ≤ _; have := stR_len64 L K s; rw [hR] at this; simp only at this; omega
  have HR := Lib.hid hR
  have q1 : (v != v) = false := by cases v <;> rfl
  clear hR
  go_enter Try.func13, Try.ntmps13
  go_wp2_with fail
  rw [← HW.out]
  refine (szLs_any a _ cap 1048576 W (by omega) (by omega) HLM.out).mono ?_
  rintro e w' ⟨rfl, rfl⟩
  rw [hlf.out]
  go_wp2_with fail
  refine (szSc_any d cd s (1048576 - (L.length : Int)) W (by omega) (by omega) HNM.out).mono ?_
  rintro e w1 ⟨rfl, hb1⟩
  rw [He.out]
  have HE1 : Hid (∀ U, Below w1.heap.size w1 U → InpS w.heap.size a L b K d cd s U) := fun U hU => HBX.out U (hb1.trans (hU.mono hb1.size))
  have HB1 := Lib.hid (HB.out.trans (hb1.mono HB.out.size))
  have HA1 : Hid (w.heap.size < w1.heap.size) := by show _ < _; have := HS.out; have := hb1.size; omega
  clear hb1 hk2 hl hl3 hm2'
  go_upto_region 10 with fail
  go_cut [8, 9] (fun p ok wx => ∃ (g : Nat) (aW : Option Addr) (cW : Nat), p = .pointer (some ⟨g, 0, none⟩) ∧ ok = .bool v ∧ wx.heap[g]? = some (.cells #[.int .i64 S'.x, .slice aW S'.t.length cW] 26 (0, 0)) ∧ OwnI wx w1.heap.size aW cW S'.t ∧ (∀ x, aW = some x → x.block ≠ g) ∧ w1.heap.size ≤ g ∧ Below w1.heap.size w1 wx)
  case first =>
    have hmix : Try.prog.follows .mixedOrders = true := by kernel_rfl
    obtain ⟨d0, d1⟩ := (HE1.out w1 (Below.refl _ _)).1
    have HTR : Hid (∀ X U V : World, Below U.heap.size U V → Below X.heap.size X U → Below X.heap.size X V) := fun X U V h1 h2 => h2.trans (h1.mono h2.size)
    go_region_held3 (fun w' => w'.cell? ⟨w.heap.size, 0, none⟩ = some (.int .i64 s.x) ∧ w'.cell? ⟨w.heap.size, 1, none⟩ = some (.slice d s.t.length cd)) (first
        | (refine (HED.out _ ?_).1; ((repeat (first | with_reducible exact Below.refl _ _ | (with_reducible refine Below.drew ?_) | (with_reducible refine Below.setCell ?_ ?_ _) | (with_reducible refine Below.alloc ?_ ?_ _))); all_goals (first | exact Nat.le_refl _ | (have := HSZ.out; show _ ≤ _; omega) | (simp; done) | (have := HSZ.out; simp; omega))))
        | (refine (HEC.out _ ?_).1; ((repeat (first | with_reducible exact Below.refl _ _ | (with_reducible refine Below.drew ?_) | (with_reducible refine Below.setCell ?_ ?_ _) | (with_reducible refine Below.alloc ?_ ?_ _))); all_goals (first | exact Nat.le_refl _ | (have := HSZ.out; show _ ≤ _; omega) | (simp; done) | (have := HSZ.out; simp; omega))))
        | (refine (HEB.out _ ?_).1; ((repeat (first | with_reducible exact Below.refl _ _ | (with_reducible refine Below.drew ?_) | (with_reducible refine Below.setCell ?_ ?_ _) | (with_reducible refine Below.alloc ?_ ?_ _))); all_goals (first | exact Nat.le_refl _ | (have := HSZ.out; show _ ≤ _; omega) | (simp; done) | (have := HSZ.out; simp; omega))))
        | (refine (HEA.out _ ?_).1; ((repeat (first | with_reducible exact Below.refl _ _ | (with_reducible refine Below.drew ?_) | (with_reducible refine Below.setCell ?_ ?_ _) | (with_reducible refine Below.alloc ?_ ?_ _))); all_goals (first | exact Nat.le_refl _ | (have := HSZ.out; show _ ≤ _; omega) | (simp; done) | (have := HSZ.out; simp; omega))))
        | (refine (HE1.out _ ?_).1; ((repeat (first | with_reducible exact Below.refl _ _ | (with_reducible refine Below.drew ?_) | (with_reducible refine Below.alloc ?_ ?_ _))); all_goals (first | exact Nat.le_refl _ | (simp; done) | (simp; omega)))))
      ((first
        | (go_at_call 39
           refine (toLsE a _ _ L _ (HE1.out _ ?hb).2.1 rfl HLS.out).mono ?_
           case hb => ((repeat (first | with_reducible exact Below.refl _ _ | (with_reducible refine Below.drew ?_) | (with_reducible refine Below.alloc ?_ ?_ _))); all_goals (first | exact Nat.le_refl _ | (simp; done) | (simp; omega)))
           rintro e wA ⟨gA, rfl, hoA, hbA⟩
           have hxA := HTR.out w1 _ wA hbA (by ((repeat (first | with_reducible exact Below.refl _ _ | (with_reducible refine Below.drew ?_) | (with_reducible refine Below.alloc ?_ ?_ _))); all_goals (first | exact Nat.le_refl _ | (simp; done) | (simp; omega))))
           have HSZ : Hid (w1.heap.size ≤ wA.heap.size) := hxA.size
           have HXA := Lib.hid hxA
           have HLA : Hid (∀ U, Below wA.heap.size wA U → LsAt U (some ⟨gA, 0, none⟩) L) := fun U hU => (hoA.keepB hU (Nat.le_refl _)).ls
           have HEA : Hid (∀ U, Below w1.heap.size wA U → InpS w.heap.size a L b K d cd s U) := fun U hU => HE1.out U (HXA.out.trans hU)
           try (have YT : Hid (wA.heap[w1.heap.size]? = some zS) := (hbA.block w1.heap.size (by simp)).trans (by exact heap_alloc_new w1 _))
           clear hoA hbA hxA)
        | (go_at_call 40
           refine (toIntE b _ _ K _ (HEA.out _ ?hb).2.2.1 rfl HLS2.out).mono ?_
           case hb => ((repeat (first | with_reducible exact Below.refl _ _ | (with_reducible refine Below.drew ?_) | (with_reducible refine Below.setCell ?_ ?_ _) | (with_reducible refine Below.alloc ?_ ?_ _))); all_goals (first | exact Nat.le_refl _ | (have := HSZ.out; show _ ≤ _; omega) | (simp; done) | (have := HSZ.out; simp; omega)))
           rintro e wB ⟨gB, rfl, hoB, hbB⟩
           have hyB := HTR.out wA _ wB hbB (by ((repeat (first | with_reducible exact Below.refl _ _ | (with_reducible refine Below.drew ?_) | (with_reducible refine Below.alloc ?_ ?_ _))); all_goals (first | exact Nat.le_refl _ | (simp; done) | (simp; omega))))
           have hxB := HXA.out.trans (hyB.mono HXA.out.size)
           have HYB := Lib.hid hyB
           have HXB := Lib.hid hxB
           have HSZ : Hid (w1.heap.size ≤ wA.heap.size ∧ wA.heap.size ≤ wB.heap.size) := ⟨HSZ.out, hyB.size⟩
           have HLB : Hid (∀ U, Below wB.heap.size wB U → LsAt U (some ⟨gA, 0, none⟩) L) := fun U hU => HLA.out U (HYB.out.trans (hU.mono HYB.out.size))
           have HKB : Hid (∀ U, Below wB.heap.size wB U → IntsAt U (some ⟨gB, 0, none⟩) K) := fun U hU => hoB.keepB hU (Nat.le_refl _)
           have HEB : Hid (∀ U, Below w1.heap.size wB U → InpS w.heap.size a L b K d cd s U) := fun U hU => HE1.out U (HXB.out.trans hU)
           try (have YT := Lib.hid ((HYB.out.block _ (heap_lt YT.out)).trans YT.out))
           try (have YT : Hid (wB.heap[wA.heap.size]? = some zS) := bzS hbB)
           clear hoB hbB hxB hyB)
        | (go_at_call 36
           refine (toSc_any d _ s _ (HEB.out _ ?hb).2.2.2 HTS.out).mono ?_
           case hb => ((repeat (first | with_reducible exact Below.refl _ _ | (with_reducible refine Below.drew ?_) | (with_reducible refine Below.setCell ?_ ?_ _) | (with_reducible refine Below.alloc ?_ ?_ _))); all_goals (first | exact Nat.le_refl _ | (have := HSZ.out; show _ ≤ _; omega) | (simp; done) | (have := HSZ.out; simp; omega)))
           rintro e wC ⟨gC, rfl, hoC, _, hbC⟩
           have hyC := HTR.out wB _ wC hbC (by ((repeat (first | with_reducible exact Below.refl _ _ | (with_reducible refine Below.drew ?_) | (with_reducible refine Below.alloc ?_ ?_ _))); all_goals (first | exact Nat.le_refl _ | (simp; done) | (simp; omega))))
           have hxC := HXB.out.trans (hyC.mono HXB.out.size)
           have HYC := Lib.hid hyC
           have HXC := Lib.hid hxC
           have HSZ : Hid (w1.heap.size ≤ wA.heap.size ∧ wA.heap.size ≤ wB.heap.size ∧ wB.heap.size ≤ wC.heap.size) := ⟨HSZ.out.1, HSZ.out.2, hyC.size⟩
           have HLC : Hid (∀ U, Below wC.heap.size wC U → LsAt U (some ⟨gA, 0, none⟩) L) := fun U hU => HLB.out U (HYC.out.trans (hU.mono HYC.out.size))
           have HKC : Hid (∀ U, Below wC.heap.size wC U → IntsAt U (some ⟨gB, 0, none⟩) K) := fun U hU => HKB.out U (HYC.out.trans (hU.mono HYC.out.size))
           have HTC : Hid (∀ U, Below wC.heap.size wC U → IntsAt U (some ⟨gC, 0, none⟩) s.t) := fun U hU => hoC.ints.keepB hU (Nat.le_refl _)
           have HEC : Hid (∀ U, Below w1.heap.size wC U → InpS w.heap.size a L b K d cd s U) := fun U hU => HE1.out U (HXC.out.trans hU)
           have HUC : Hid (∀ U, Below wC.heap.size wC U → w1.heap.size ≤ U.heap.size) := fun U hU => Nat.le_trans HXC.out.size hU.size
           try (have YT := Lib.hid ((HYC.out.block _ (heap_lt YT.out)).trans YT.out))
           try (have YT : Hid (wC.heap[wB.heap.size]? = some zS) := bzS hbC)
           clear hoC hbC hxC hyC)
        | (go_at_call 17
           refine (sstep_as2 S' v _ _ _ _ _ _ _ _ _ L K s _ (HLC.out _ ?h1) (HKC.out _ ?h2) (HTC.out _ ?h3) rfl rfl rfl HLM.out HKM.out HNM.out HR.out).mono ?_
           case h1 => ((repeat (first | with_reducible exact Below.refl _ _ | (with_reducible refine Below.drew ?_) | (with_reducible refine Below.alloc ?_ ?_ _))); all_goals (first | exact Nat.le_refl _ | (simp; done) | (simp; omega)))
           case h2 => ((repeat (first | with_reducible exact Below.refl _ _ | (with_reducible refine Below.drew ?_) | (with_reducible refine Below.alloc ?_ ?_ _))); all_goals (first | exact Nat.le_refl _ | (simp; done) | (simp; omega)))
           case h3 => ((repeat (first | with_reducible exact Below.refl _ _ | (with_reducible refine Below.drew ?_) | (with_reducible refine Below.alloc ?_ ?_ _))); all_goals (first | exact Nat.le_refl _ | (simp; done) | (simp; omega)))
           rintro e wD ⟨aD, cD, rfl, hoD, hbD⟩
           have hyD := HTR.out wC _ wD hbD (by ((repeat (first | with_reducible exact Below.refl _ _ | (with_reducible refine Below.drew ?_) | (with_reducible refine Below.alloc ?_ ?_ _))); all_goals (first | exact Nat.le_refl _ | (simp; done) | (simp; omega))))
           have hxD := HXC.out.trans (hyD.mono HXC.out.size)
           have HYD := Lib.hid hyD
           have HXD := Lib.hid hxD
           have HOD : Hid (OwnI wD w1.heap.size aD cD S'.t) := hoD.less (HUC.out _ (by ((repeat (first | with_reducible exact Below.refl _ _ | (with_reducible refine Below.drew ?_) | (with_reducible refine Below.alloc ?_ ?_ _))); all_goals (first | exact Nat.le_refl _ | (simp; done) | (simp; omega)))))
           have HBK := Lib.hid (fun x (hx : aD = some x) => own_blkS hoD hx)
           have HSZ : Hid (w1.heap.size ≤ wA.heap.size ∧ wA.heap.size ≤ wB.heap.size ∧ wB.heap.size ≤ wC.heap.size ∧ wC.heap.size ≤ wD.heap.size) := ⟨HSZ.out.1, HSZ.out.2.1, HSZ.out.2.2, hyD.size⟩
           have HED : Hid (∀ U, Below w1.heap.size wD U → InpS w.heap.size a L b K d cd s U) := fun U hU => HE1.out U (HXD.out.trans hU)
           try (have HNC := Lib.hid (heap_lt YT.out))
           try (have YT := Lib.hid ((HYD.out.block _ (heap_lt YT.out)).trans YT.out))
           try (have YT : Hid (wD.heap[wC.heap.size]? = some zS) := bzS hbD)
           try (have hff := zs_facts YT.out; obtain ⟨x0, x1, x2, x3⟩ := hff)
           clear hoD hbD hxD hyD)))
    all_goals
      have hsz := HSZ.out
      try (have hnc := HNC.out)
      go_wp2_with fail
      go_meet
      refine ⟨_, aD, cD, rfl, rfl, ?hc, ?ho, ?hne, ?hge, ?hbw⟩
      case hc => first | (with_reducible exact heap_alloc_new wD _) | (with_reducible exact set2s (zs_eq YT.out))
      case ho => first | (with_reducible exact HOD.out.keepB (alB wD _) (Nat.le_refl _)) | exact own_atS HOD.out (fun y hy => set2s_ne (by have := HBK.out y hy; (try simp at this); omega))
      case hne => intro y hy; have := HBK.out y hy; (try simp at this); omega
      case hge => first | exact Nat.le_refl _ | omega
      case hbw => first | (with_reducible exact HXD.out.alloc HXD.out.size _) | exact below_set2s HXD.out (by first | exact Nat.le_refl _ | omega) _ _
  case rest =>
    obtain ⟨w2, rfl⟩ : ∃ x, x = wc := ⟨_, rfl⟩
    obtain ⟨N, aW, cW, rfl, rfl, hcW, hoW, hneW, hgeW, hb2⟩ := hcut
    have HE2 : Hid (∀ U, Below w2.heap.size w2 U → InpS w.heap.size a L b K d cd s U) := fun U hU => HE1.out U (hb2.trans (hU.mono hb2.size))
    have HB2 : Hid (Below w.heap.size w w2) := HB1.out.trans (hb2.mono HB1.out.size)
    have HNW : Hid (w.heap.size < N ∧ N < w2.heap.size) := ⟨Nat.lt_of_lt_of_le HA1.out hgeW, heap_lt hcW⟩
    have HWK : Hid (∀ x, aW = some x → x.block < w2.heap.size) := fun x hx => (own_blkS hoW hx).2
    have HVW : Hid (∀ U, Below w2.heap.size w2 U → StSc U N aW cW S' ∧ OwnI U w1.heap.size aW cW S'.t) := fun U hU => ⟨stsc_keep (cell2s hcW) (hU.block _ (heap_lt hcW)), hoW.keepB hU (Nat.le_refl _)⟩
    have HA2 : Hid (w.heap.size < w2.heap.size) := Nat.lt_of_lt_of_le HA1.out hb2.size
    clear hcW hoW hneW hgeW hb2 HE1 HB1 HA1
    go_wp2_with fail
    refine (toLsE a _ _ L w2 (HE2.out _ (Below.refl _ _)).2.1 rfl HLS.out).mono ?_
    rintro e w3 ⟨g0, rfl, ho3, hb3⟩
    have HX0 : Hid (∀ U, Below w3.heap.size w3 U → OwnS U w2.heap.size g0 L.length L) := fun U hU => ho3.keepB hU (Nat.le_refl _)
    have HG0 : Hid (w2.heap.size ≤ g0 ∧ g0 < w3.heap.size) := ⟨ho3.blk.1, ho3.blk.2.1⟩
    have HB3 : Hid (Below w2.heap.size w2 w3) := hb3
    clear ho3 hb3
    go_wp2_with fail
    refine (toInts_any b _ _ K w3 (HE2.out _ HB3.out).2.2.1 rfl HLS2.out).mono ?_
    rintro e w4 ⟨rfl, hr4, hb4, _⟩
    obtain ⟨g1, hg1⟩ : ∃ g, g = w3.heap.size := ⟨_, rfl⟩
    rw [← hg1] at hr4 ⊢
    have HX1 : Hid (∀ U, Below w4.heap.size w4 U → RowOf U g1 K) := fun U hU => hr4.kept' (hU.block _ (RowOf.lt' hr4))
    have HG1 : Hid (w3.heap.size ≤ g1 ∧ g1 < w4.heap.size) := ⟨by omega, RowOf.lt' hr4⟩
    have HC4 : Hid (Below w3.heap.size w3 w4) := hb4
    have HB4 : Hid (Below w2.heap.size w2 w4) := HB3.out.trans (hb4.mono HB3.out.size)
    clear hr4 hb4 hg1
    obtain ⟨c0, c1⟩ := (HE2.out w4 HB4.out).1
    go_wp2_with fail
    refine (toSc_any d _ s w4 (HE2.out _ HB4.out).2.2.2 HTS.out).mono ?_
    rintro e w5 ⟨g2, rfl, hr5, hg5, hb5⟩
    obtain ⟨w6, hw6⟩ : ∃ w6, w6 = w5.alloc (.cells #[.int .i64 s.x, .slice (some ⟨g2, 0, none⟩) s.t.length s.t.length] 26) := ⟨_, rfl⟩
    have hst6 : StSc w6 w5.heap.size (some ⟨g2, 0, none⟩) s.t.length s := by rw [hw6]; exact stsc_new
    have hb56 : Below w5.heap.size w5 w6 := by rw [hw6]; exact alB w5 _
    have hl6 : w5.heap.size < w6.heap.size := by rw [hw6]; simp
    have hr6 : RowOf w6 g2 s.t := hr5.kept' (hb56.block _ (RowOf.lt' hr5))
    have HX2 : Hid (∀ U, Below w6.heap.size w6 U → RowOf U g2 s.t) := fun U hU => hr6.kept' (hU.block _ (RowOf.lt' hr6))
    have HV2 : Hid (∀ U, Below w6.heap.size w6 U → StSc U w5.heap.size (some ⟨g2, 0, none⟩) s.t.length s) := fun U hU => stsc_keep hst6 (hU.block _ hl6)
    have HG2 : Hid (w4.heap.size ≤ g2 ∧ g2 < w5.heap.size ∧ w5.heap.size < w6.heap.size) := ⟨hg5, RowOf.lt' hr5, hl6⟩
    have HC6 : Hid (Below w4.heap.size w4 w6) := hb5.trans (hb56.mono hb5.size)
    have HD6 : Hid (Below w3.heap.size w3 w6) := HC4.out.trans (HC6.out.mono HC4.out.size)
    have HB6 : Hid (Below w2.heap.size w2 w6) := HB4.out.trans (HC6.out.mono HB4.out.size)
    have HW6 := Lib.hid hw6
    clear c0 c1 hr5 hg5 hb5 hw6 hst6 hb56 hl6 hr6
    obtain ⟨c0, c1⟩ := HV2.out w6 (Below.refl _ _)
    rw [HW6.out] at c0 c1
    go_wp2_with fail
    rw [← HW6.out]
    refine (pstep_as S' v _ _ _ _ _ _ _ _ _ L K s w6 (HX0.out w6 HD6.out).ls (HX1.out w6 HC6.out).ints (HX2.out w6 (Below.refl _ _)).ints rfl rfl rfl HLM.out HKM.out HNM.out HR.out).mono ?_
    rintro e w7 ⟨aG, cG, rfl, ho7, hb7⟩
    obtain ⟨w8, hw8⟩ : ∃ w8, w8 = w7.alloc (.cells #[.int .i64 S'.x, .slice aG S'.t.length cG] 26) := ⟨_, rfl⟩
    have hst8 : StSc w8 w7.heap.size aG cG S' := by rw [hw8]; exact stsc_new
    have hb78 : Below w7.heap.size w7 w8 := by rw [hw8]; exact alB w7 _
    have hl8 : w7.heap.size < w8.heap.size := by rw [hw8]; simp
    have HV3 : Hid (∀ U, Below w8.heap.size w8 U → StSc U w7.heap.size aG cG S') := fun U hU => stsc_keep hst8 (hU.block _ hl8)
    have HOG : Hid (∀ U, Below w8.heap.size w8 U → OwnI U w6.heap.size aG cG S'.t) := fun U hU => (ho7.keepB hb78 (Nat.le_refl _)).keepB hU (Nat.le_refl _)
    have HGB : Hid (∀ x, aG = some x → w6.heap.size ≤ x.block ∧ x.block < w7.heap.size) := fun x hx => own_blkS ho7 hx
    have HF8 : Hid (Below w6.heap.size w6 w8) := hb7.trans (hb78.mono hb7.size)
    have HC8 : Hid (Below w4.heap.size w4 w8) := HC6.out.trans (HF8.out.mono HC6.out.size)
    have HD8 : Hid (Below w3.heap.size w3 w8) := HD6.out.trans (HF8.out.mono HD6.out.size)
    have HB8 : Hid (Below w2.heap.size w2 w8) := HB6.out.trans (HF8.out.mono HB6.out.size)
    have HSZ : Hid (w.heap.size < w2.heap.size ∧ w2.heap.size ≤ g0 ∧ g0 < w3.heap.size ∧ w3.heap.size ≤ g1 ∧ g1 < w4.heap.size ∧ w4.heap.size ≤ g2 ∧ g2 < w5.heap.size ∧ w5.heap.size < w6.heap.size ∧ w6.heap.size ≤ w7.heap.size ∧ w7.heap.size < w8.heap.size) := ⟨HA2.out, HG0.out.1, HG0.out.2, HG1.out.1, HG1.out.2, HG2.out.1, HG2.out.2.1, HG2.out.2.2, hb7.size, hl8⟩
    have HW8 := Lib.hid hw8
    clear c0 c1 ho7 hb7 hw8 hst8 hb78 hl8
    obtain ⟨c0, c1⟩ := HV3.out w8 (Below.refl _ _)
    obtain ⟨e0, e1⟩ := (HVW.out w8 HB8.out).1
    rw [HW8.out] at c0 c1 e0 e1
    go_wp2_with fail
    rw [← HW8.out]
    refine (eqSc_same aG aW cG cW S' w8 (own_intsS (HOG.out _ (Below.refl _ _))) (own_intsS (HVW.out w8 HB8.out).2) HOS.out).mono ?_
    rintro e w9 ⟨rfl, hb9⟩
    have HB9 := Lib.hid hb9
    clear c0 c1 e0 e1 hb9
    have HT8 : Hid (∀ X U V : World, Below X.heap.size X U → Below U.heap.size U V → Below X.heap.size X V) := fun X U V h1 h2 => h1.trans (h2.mono h1.size)
    go_wp2_with fail
    refine (toLsE a _ _ L w9 (HE2.out _ (HT8.out _ _ _ HB8.out HB9.out)).2.1 rfl HLS.out).mono ?_
    rintro e w10 ⟨g10, rfl, ho10, hb10⟩
    have HB10 := Lib.hid (HT8.out _ _ _ HB9.out hb10)
    have HX10 := Lib.hid ho10.ls
    clear ho10 hb10
    go_wp2_with fail
    refine (eqLs_same _ _ _ _ _ L w10 (HX0.out w10 (HT8.out _ _ _ HD8.out HB10.out)).ls HX10.out rfl HLS.out).mono ?_
    rintro e w11 ⟨rfl, hb11⟩
    have HB11 := Lib.hid (HT8.out _ _ _ HB10.out hb11)
    clear hb11
    go_wp2_with fail
    refine (toInts_any b _ _ K w11 (HE2.out _ (HT8.out _ _ _ HB8.out HB11.out)).2.2.1 rfl HLS2.out).mono ?_
    rintro e w12 ⟨rfl, hr12, hb12, _⟩
    have HB12 := Lib.hid (HT8.out _ _ _ HB11.out hb12)
    have HX12 := Lib.hid hr12.ints
    clear hr12 hb12
    go_wp2_with fail
    refine (eqInts_same _ _ _ _ _ K w12 (HX1.out w12 (HT8.out _ _ _ HC8.out HB12.out)).ints HX12.out rfl HLS2.out).mono ?_
    rintro e w13 ⟨rfl, hs13⟩
    have HB13 := Lib.hid (HT8.out _ _ _ HB12.out (hs13.below _))
    clear hs13
    have HK : Hid (∀ w', Below w13.heap.size w13 w' → w'.cell? ⟨w5.heap.size, 0, none⟩ = some (.int .i64 s.x) ∧ w'.cell? ⟨w5.heap.size, 1, none⟩ = some (.slice (some ⟨g2, 0, none⟩) s.t.length s.t.length) ∧ w'.cell? ⟨w.heap.size, 0, none⟩ = some (.int .i64 s.x) ∧ w'.cell? ⟨w.heap.size, 1, none⟩ = some (.slice d s.t.length cd)) := fun w' hb => by
      have k8 := HV2.out w' (HT8.out _ _ _ (HT8.out _ _ _ HF8.out HB13.out) hb)
      have k2 := (HE2.out w' (HT8.out _ _ _ (HT8.out _ _ _ HB8.out HB13.out) hb)).1
      exact ⟨k8.1, k8.2, k2.1, k2.2⟩
    have HI5 : Hid (∀ w', Below w13.heap.size w13 w' → IntsAt w' d s.t ∧ IntsAt w' (some ⟨g2, 0, none⟩) s.t) := fun w' hb => ⟨(HE2.out w' (HT8.out _ _ _ (HT8.out _ _ _ HB8.out HB13.out) hb)).2.2.2, (HX2.out w' (HT8.out _ _ _ (HT8.out _ _ _ HF8.out HB13.out) hb)).ints⟩
    have HBD : Hid (Below w13.heap.size w13 w13.drew) := (Below.refl _ _).drew
    obtain ⟨d0, d1, d2, d3⟩ := HK.out w13 (Below.refl _ _)
    go_wp2_with fail
    go_region_held3 (fun w' => w'.cell? ⟨w5.heap.size, 0, none⟩ = some (.int .i64 s.x) ∧ w'.cell? ⟨w5.heap.size, 1, none⟩ = some (.slice (some ⟨g2, 0, none⟩) s.t.length s.t.length) ∧ w'.cell? ⟨w.heap.size, 0, none⟩ = some (.int .i64 s.x) ∧ w'.cell? ⟨w.heap.size, 1, none⟩ = some (.slice d s.t.length cd)) (first | (with_reducible exact HK.out _ (HBD.out)) | (with_reducible exact HK.out _ (HBU.out)) | (with_reducible exact HK.out _ (HBV.out))) (first
      | (go_at_call 36; refine (toSc_any d cd s _ (HI5.out _ HBD.out).1 HTS.out).mono ?_; rintro e wu ⟨gu, rfl, hru, hgu, hbu⟩; have HBU := Lib.hid (HBD.out.trans (hbu.mono HBD.out.size)); have HRU := Lib.hid hru; clear hru hgu hbu)
      | (go_at_call 37; refine (eqSc_same (some ⟨g2, 0, none⟩) (some ⟨gu, 0, none⟩) _ _ s wu (HI5.out _ HBU.out).2 HRU.out.ints HTS.out).mono ?_; rintro e wv ⟨rfl, hbv⟩; have HBV := Lib.hid (HBU.out.trans (hbv.mono HBU.out.size)); clear hbv))
    clear d0 d1 d2 d3
    have HB15 := Lib.hid (HT8.out _ _ _ HB13.out HBV.out)
    have HBW15 : Hid (Below w.heap.size w wv) := HB2.out.trans ((HT8.out _ _ _ HB8.out HB15.out).mono HB2.out.size)
    have hsz := HSZ.out
    have hZ15 : w8.heap.size ≤ wv.heap.size := HB15.out.size
    have hL := HLS.out
    have hK := HLS2.out
    have hS := HTS.out
    go_wp2_with fail
    refine (markLs_any _ _ _ _ L 1 wv (HX0.out wv (HT8.out _ _ _ HD8.out HB15.out)) rfl (by omega) (by omega) HLS.out).mono ?_
    rintro e w16 ⟨rfl, _, hk16⟩
    have hz16 : w16.heap.size = wv.heap.size := hk16.size
    have HZ16 := Lib.hid hz16
    have HBW16 : Hid (Below w.heap.size w w16) := HBW15.out.trans (hk16.below (by omega))
    have HN16 : Hid (∀ i, i ≠ g0 → w16.heap[i]? = wv.heap[i]?) := fun i hi => hk16.block _ hi
    clear hk16 hz16
    go_wp2_with fail
    refine (markInts_any _ K.length K.length (1 + 3 * (L.length : Int)) w16 (RowOf.heapX ((HX1.out wv (HT8.out _ _ _ HC8.out HB15.out)).kept' (HN16.out _ (by omega)))) (by omega) (by omega) HLS2.out).mono ?_
    rintro e w17 ⟨rfl, hm17⟩
    have HBW17 : Hid (Below w.heap.size w w17) := HBW16.out.trans (hm17.1.below (by omega))
    have hz17 : w17.heap.size = w16.heap.size := hm17.1.size
    have HZ17 := Lib.hid hz17
    have HN17 : Hid (∀ i, i ≠ g0 → i ≠ g1 → w17.heap[i]? = wv.heap[i]?) := fun i h0 h1 => (hm17.1.block _ h1).trans (HN16.out i h0)
    clear hm17 hz17
    obtain ⟨c0, c1⟩ := stsc_keep (HV2.out wv (HT8.out _ _ _ HF8.out HB15.out)) (HN17.out _ (by omega) (by omega))
    have hr17 : RowOf w17 g2 s.t := (HX2.out wv (HT8.out _ _ _ HF8.out HB15.out)).kept' (HN17.out _ (by omega) (by omega))
    have HR17 := Lib.hid hr17
    clear hr17
    go_wp2_with fail
    refine (marksSc_any (some ⟨g2, 0, none⟩) _ s (1 + 3 * (L.length : Int) + (K.length : Int)) w17 (owned_rowOf HR17.out) (by omega) (by omega) HTS.out).mono ?_
    rintro e w18 ⟨rfl, _, hk18⟩
    have HBW18 : Hid (Below w.heap.size w w18) := HBW17.out.trans (hk18.below (by have := HBW17.out.size; omega) (fun x hx => by cases hx; show w.heap.size ≤ g2; omega))
    have HN18 : Hid (∀ i, i < w8.heap.size → i ≠ g0 → i ≠ g1 → i ≠ g2 → w18.heap[i]? = wv.heap[i]?) := fun i hi h0 h1 h2 => by
      have e := HN17.out i h0 h1
      refine (hk18.block i ?_ (fun x hx => by cases hx; exact h2)).trans e
      have : i < wv.heap.size := by omega
      rw [Array.getElem?_eq_getElem this] at e
      exact heap_lt e
    have HZ18 : Hid (w8.heap.size ≤ w18.heap.size) := by show _ ≤ _; have h1 := hk18.size; have h2 := HZ16.out; have h3 := HZ17.out; omega
    clear hk18 c0 c1
    have HF18 : Hid (∀ U, Below w18.heap.size w18 U → InpS w.heap.size a L b K d cd s U ∧ (StSc U N aW cW S' ∧ IntsAt U aW S'.t) ∧ StSc U w7.heap.size aG cG S' ∧ OwnI U w6.heap.size aG cG S'.t) := fun U hU => by
      have hnw := HNW.out
      have hlt : ∀ i, i < w8.heap.size → i ≠ g0 → i ≠ g1 → i ≠ g2 → U.heap[i]? = wv.heap[i]? := fun i hi h0 h1 h2 => by
        have e := HN18.out i hi h0 h1 h2
        refine (hU.block i ?_).trans e
        have : i < wv.heap.size := by omega
        rw [Array.getElem?_eq_getElem this] at e
        exact heap_lt e
      obtain ⟨hvw, how⟩ := HVW.out wv (HT8.out _ _ _ HB8.out HB15.out)
      obtain ⟨hi1, hi2, hi3⟩ := HIN.out U (HBW18.out.trans (hU.mono HBW18.out.size))
      refine ⟨⟨stsc_keep (HE2.out wv (HT8.out _ _ _ HB8.out HB15.out)).1 (hlt _ (by omega) (by omega) (by omega) (by omega)), hi1, hi2, hi3⟩, ⟨stsc_keep hvw (hlt _ (by omega) (by omega) (by omega) (by omega)), ?_⟩, stsc_keep (HV3.out wv HB15.out) (hlt _ (by omega) (by omega) (by omega) (by omega)), ?_⟩
      · exact own_intsS (own_atS how (fun x hx => by have := HWK.out x hx; exact hlt _ (by omega) (by omega) (by omega) (by omega)))
      · exact own_atS (HOG.out wv HB15.out) (fun x hx => by have := HGB.out x hx; exact hlt _ (by omega) (by omega) (by omega) (by omega))
    obtain ⟨_, ⟨⟨e0, e1⟩, _⟩, ⟨c0, c1⟩, _⟩ := HF18.out w18 (Below.refl _ _)
    have k0 : decide ((1 : Int) + 3 * (L.length : Int) + (K.length : Int) + (s.t.length : Int) < 0) = false := by simp; omega
    go_wp2_with fail
    refine (eqSc_same aG aW cG cW S' w18 (own_intsS (HF18.out w18 (Below.refl _ _)).2.2.2) (HF18.out w18 (Below.refl _ _)).2.1.2 HOS.out).mono ?_
    rintro e w19 ⟨rfl, hb19⟩
    have HB19 := Lib.hid hb19
    clear c0 c1 e0 e1 k0 hb19
    obtain ⟨c0, c1⟩ := (HF18.out w19 HB19.out).2.2.1
    go_wp2_with fail
    refine (marksSc_any aG cG S' 1 w19 (owned_own (HF18.out w19 HB19.out).2.2.2) (by omega) (by omega) HOS.out).mono ?_
    rintro e w20 ⟨rfl, hi20, hk20⟩
    have HBW19 : Hid (Below w.heap.size w w19) := HBW18.out.trans (HB19.out.mono HBW18.out.size)
    have HBW20 : Hid (Below w.heap.size w w20) := HBW19.out.trans (hk20.below (by have := HBW19.out.size; omega) (fun x hx => by have := HGB.out x hx; omega))
    have HF20 : Hid (∀ U, Below w20.heap.size w20 U → InpS w.heap.size a L b K d cd s U ∧ (StSc U N aW cW S' ∧ IntsAt U aW S'.t) ∧ StSc U w7.heap.size aG cG S' ∧ IntsAt U aG (markI 1 S'.t.length)) := fun U hU => by
      have hnw := HNW.out
      obtain ⟨⟨p1, _⟩, ⟨p2, p3⟩, p4, _⟩ := HF18.out w19 HB19.out
      have hlt : ∀ i, i < w19.heap.size → (∀ x, aG = some x → i ≠ x.block) → U.heap[i]? = w19.heap[i]? := fun i hi hx => (hU.block i (Nat.lt_of_lt_of_le hi hk20.size)).trans (hk20.block i hi hx)
      have hz19 : w8.heap.size ≤ w19.heap.size := Nat.le_trans HZ18.out HB19.out.size
      obtain ⟨hi1, hi2, hi3⟩ := HIN.out U (HBW20.out.trans (hU.mono HBW20.out.size))
      refine ⟨⟨stsc_keep p1 (hlt _ (by omega) (fun x hx => by have := HGB.out x hx; omega)), hi1, hi2, hi3⟩, ⟨stsc_keep p2 (hlt _ (by omega) (fun x hx => by have := HGB.out x hx; omega)), ?_⟩, stsc_keep p4 (hlt _ (by omega) (fun x hx => by have := HGB.out x hx; omega)), hi20.keepB hU (Nat.le_refl _)⟩
      obtain ⟨hvw, how⟩ := HVW.out wv (HT8.out _ _ _ HB8.out HB15.out)
      exact ints_block p3 (Nat.le_trans hk20.size hU.size) (fun x hx => by have := HWK.out x hx; exact hlt _ (by omega) (fun y hy => by have := HGB.out y hy; omega))
    clear c0 c1 hi20 hk20
    obtain ⟨c0, c1⟩ := (HF20.out w20 (Below.refl _ _)).2.2.1
    have r0 : decide ((1 : Int) + (S'.t.length : Int) < 0) = false := by simp; omega
    have r1 : (((1 : Int) + (S'.t.length : Int)) != ((1 : Int) + (S'.t.length : Int))) = false := by simp
    go_wp2_with fail
    refine (heldSc_any aG cG S' 1 w20 (HF20.out w20 (Below.refl _ _)).2.2.2 (by omega) (by omega) HOS.out).mono ?_
    rintro e w21 ⟨rfl, hb21⟩
    have HB21 := Lib.hid hb21
    have HE21 : Hid (∀ U, Below w21.heap.size w21 U → InpS w.heap.size a L b K d cd s U) := fun U hU => (HF20.out U (HB21.out.trans (hU.mono HB21.out.size))).1
    have HBW21 : Hid (Below w.heap.size w w21) := HBW20.out.trans (hb21.mono HBW20.out.size)
    clear c0 c1 hb21 hsz hZ15 HSZ
    go_upto_region 37 with fail
    go_cut [18, 19] (fun p ok wx => ∃ (g : Nat) (aW : Option Addr) (cW : Nat), p = .pointer (some ⟨g, 0, none⟩) ∧ ok = .bool v ∧ wx.heap[g]? = some (.cells #[.int .i64 S'.x, .slice aW S'.t.length cW] 26 (0, 0)) ∧ OwnI wx w21.heap.size aW cW S'.t ∧ (∀ x, aW = some x → x.block ≠ g) ∧ w21.heap.size ≤ g ∧ Below w21.heap.size w21 wx)
    case first =>
      have hmix : Try.prog.follows .mixedOrders = true := by kernel_rfl
      obtain ⟨d0, d1⟩ := (HE21.out w21 (Below.refl _ _)).1
      have HTR : Hid (∀ X U V : World, Below U.heap.size U V → Below X.heap.size X U → Below X.heap.size X V) := fun X U V h1 h2 => h2.trans (h1.mono h2.size)
      go_region_held3 (fun w' => w'.cell? ⟨w.heap.size, 0, none⟩ = some (.int .i64 s.x) ∧ w'.cell? ⟨w.heap.size, 1, none⟩ = some (.slice d s.t.length cd)) (first
          | (refine (HED.out _ ?_).1; ((repeat (first | with_reducible exact Below.refl _ _ | (with_reducible refine Below.drew ?_) | (with_reducible refine Below.setCell ?_ ?_ _) | (with_reducible refine Below.alloc ?_ ?_ _))); all_goals (first | exact Nat.le_refl _ | (have := HSZ.out; show _ ≤ _; omega) | (simp; done) | (have := HSZ.out; simp; omega))))
          | (refine (HEC.out _ ?_).1; ((repeat (first | with_reducible exact Below.refl _ _ | (with_reducible refine Below.drew ?_) | (with_reducible refine Below.setCell ?_ ?_ _) | (with_reducible refine Below.alloc ?_ ?_ _))); all_goals (first | exact Nat.le_refl _ | (have := HSZ.out; show _ ≤ _; omega) | (simp; done) | (have := HSZ.out; simp; omega))))
          | (refine (HEB.out _ ?_).1; ((repeat (first | with_reducible exact Below.refl _ _ | (with_reducible refine Below.drew ?_) | (with_reducible refine Below.setCell ?_ ?_ _) | (with_reducible refine Below.alloc ?_ ?_ _))); all_goals (first | exact Nat.le_refl _ | (have := HSZ.out; show _ ≤ _; omega) | (simp; done) | (have := HSZ.out; simp; omega))))
          | (refine (HEA.out _ ?_).1; ((repeat (first | with_reducible exact Below.refl _ _ | (with_reducible refine Below.drew ?_) | (with_reducible refine Below.setCell ?_ ?_ _) | (with_reducible refine Below.alloc ?_ ?_ _))); all_goals (first | exact Nat.le_refl _ | (have := HSZ.out; show _ ≤ _; omega) | (simp; done) | (have := HSZ.out; simp; omega))))
          | (refine (HE21.out _ ?_).1; ((repeat (first | with_reducible exact Below.refl _ _ | (with_reducible refine Below.drew ?_) | (with_reducible refine Below.alloc ?_ ?_ _))); all_goals (first | exact Nat.le_refl _ | (simp; done) | (simp; omega)))))
        ((first
          | (go_at_call 39
             refine (toLsE a _ _ L _ (HE21.out _ ?hb).2.1 rfl HLS.out).mono ?_
             case hb => ((repeat (first | with_reducible exact Below.refl _ _ | (with_reducible refine Below.drew ?_) | (with_reducible refine Below.alloc ?_ ?_ _))); all_goals (first | exact Nat.le_refl _ | (simp; done) | (simp; omega)))
             rintro e wA ⟨gA, rfl, hoA, hbA⟩
             have hxA := HTR.out w21 _ wA hbA (by ((repeat (first | with_reducible exact Below.refl _ _ | (with_reducible refine Below.drew ?_) | (with_reducible refine Below.alloc ?_ ?_ _))); all_goals (first | exact Nat.le_refl _ | (simp; done) | (simp; omega))))
             have HSZ : Hid (w21.heap.size ≤ wA.heap.size) := hxA.size
             have HXA := Lib.hid hxA
             have HLA : Hid (∀ U, Below wA.heap.size wA U → LsAt U (some ⟨gA, 0, none⟩) L) := fun U hU => (hoA.keepB hU (Nat.le_refl _)).ls
             have HEA : Hid (∀ U, Below w21.heap.size wA U → InpS w.heap.size a L b K d cd s U) := fun U hU => HE21.out U (HXA.out.trans hU)
             try (have YT : Hid (wA.heap[w21.heap.size]? = some zS) := (hbA.block w21.heap.size (by simp)).trans (by exact heap_alloc_new w21 _))
             clear hoA hbA hxA)
          | (go_at_call 40
             refine (toIntE b _ _ K _ (HEA.out _ ?hb).2.2.1 rfl HLS2.out).mono ?_
             case hb => ((repeat (first | with_reducible exact Below.refl _ _ | (with_reducible refine Below.drew ?_) | (with_reducible refine Below.setCell ?_ ?_ _) | (with_reducible refine Below.alloc ?_ ?_ _))); all_goals (first | exact Nat.le_refl _ | (have := HSZ.out; show _ ≤ _; omega) | (simp; done) | (have := HSZ.out; simp; omega)))
             rintro e wB ⟨gB, rfl, hoB, hbB⟩
             have hyB := HTR.out wA _ wB hbB (by ((repeat (first | with_reducible exact Below.refl _ _ | (with_reducible refine Below.drew ?_) | (with_reducible refine Below.alloc ?_ ?_ _))); all_goals (first | exact Nat.le_refl _ | (simp; done) | (simp; omega))))
             have hxB := HXA.out.trans (hyB.mono HXA.out.size)
             have HYB := Lib.hid hyB
             have HXB := Lib.hid hxB
             have HSZ : Hid (w21.heap.size ≤ wA.heap.size ∧ wA.heap.size ≤ wB.heap.size) := ⟨HSZ.out, hyB.size⟩
             have HLB : Hid (∀ U, Below wB.heap.size wB U → LsAt U (some ⟨gA, 0, none⟩) L) := fun U hU => HLA.out U (HYB.out.trans (hU.mono HYB.out.size))
             have HKB : Hid (∀ U, Below wB.heap.size wB U → IntsAt U (some ⟨gB, 0, none⟩) K) := fun U hU => hoB.keepB hU (Nat.le_refl _)
             have HEB : Hid (∀ U, Below w21.heap.size wB U → InpS w.heap.size a L b K d cd s U) := fun U hU => HE21.out U (HXB.out.trans hU)
             try (have YT := Lib.hid ((HYB.out.block _ (heap_lt YT.out)).trans YT.out))
             try (have YT : Hid (wB.heap[wA.heap.size]? = some zS) := bzS hbB)
             clear hoB hbB hxB hyB)
          | (go_at_call 36
             refine (toSc_any d _ s _ (HEB.out _ ?hb).2.2.2 HTS.out).mono ?_
             case hb => ((repeat (first | with_reducible exact Below.refl _ _ | (with_reducible refine Below.drew ?_) | (with_reducible refine Below.setCell ?_ ?_ _) | (with_reducible refine Below.alloc ?_ ?_ _))); all_goals (first | exact Nat.le_refl _ | (have := HSZ.out; show _ ≤ _; omega) | (simp; done) | (have := HSZ.out; simp; omega)))
             rintro e wC ⟨gC, rfl, hoC, _, hbC⟩
             have hyC := HTR.out wB _ wC hbC (by ((repeat (first | with_reducible exact Below.refl _ _ | (with_reducible refine Below.drew ?_) | (with_reducible refine Below.alloc ?_ ?_ _))); all_goals (first | exact Nat.le_refl _ | (simp; done) | (simp; omega))))
             have hxC := HXB.out.trans (hyC.mono HXB.out.size)
             have HYC := Lib.hid hyC
             have HXC := Lib.hid hxC
             have HSZ : Hid (w21.heap.size ≤ wA.heap.size ∧ wA.heap.size ≤ wB.heap.size ∧ wB.heap.size ≤ wC.heap.size) := ⟨HSZ.out.1, HSZ.out.2, hyC.size⟩
             have HLC : Hid (∀ U, Below wC.heap.size wC U → LsAt U (some ⟨gA, 0, none⟩) L) := fun U hU => HLB.out U (HYC.out.trans (hU.mono HYC.out.size))
             have HKC : Hid (∀ U, Below wC.heap.size wC U → IntsAt U (some ⟨gB, 0, none⟩) K) := fun U hU => HKB.out U (HYC.out.trans (hU.mono HYC.out.size))
             have HTC : Hid (∀ U, Below wC.heap.size wC U → IntsAt U (some ⟨gC, 0, none⟩) s.t) := fun U hU => hoC.ints.keepB hU (Nat.le_refl _)
             have HEC : Hid (∀ U, Below w21.heap.size wC U → InpS w.heap.size a L b K d cd s U) := fun U hU => HE21.out U (HXC.out.trans hU)
             have HUC : Hid (∀ U, Below wC.heap.size wC U → w21.heap.size ≤ U.heap.size) := fun U hU => Nat.le_trans HXC.out.size hU.size
             try (have YT := Lib.hid ((HYC.out.block _ (heap_lt YT.out)).trans YT.out))
             try (have YT : Hid (wC.heap[wB.heap.size]? = some zS) := bzS hbC)
             clear hoC hbC hxC hyC)
          | (go_at_call 16
             refine (pstep_as S' v _ _ _ _ _ _ _ _ _ L K s _ (HLC.out _ ?h1) (HKC.out _ ?h2) (HTC.out _ ?h3) rfl rfl rfl HLM.out HKM.out HNM.out HR.out).mono ?_
             case h1 => ((repeat (first | with_reducible exact Below.refl _ _ | (with_reducible refine Below.drew ?_) | (with_reducible refine Below.alloc ?_ ?_ _))); all_goals (first | exact Nat.le_refl _ | (simp; done) | (simp; omega)))
             case h2 => ((repeat (first | with_reducible exact Below.refl _ _ | (with_reducible refine Below.drew ?_) | (with_reducible refine Below.alloc ?_ ?_ _))); all_goals (first | exact Nat.le_refl _ | (simp; done) | (simp; omega)))
             case h3 => ((repeat (first | with_reducible exact Below.refl _ _ | (with_reducible refine Below.drew ?_) | (with_reducible refine Below.alloc ?_ ?_ _))); all_goals (first | exact Nat.le_refl _ | (simp; done) | (simp; omega)))
             rintro e wD ⟨aD, cD, rfl, hoD, hbD⟩
             have hyD := HTR.out wC _ wD hbD (by ((repeat (first | with_reducible exact Below.refl _ _ | (with_reducible refine Below.drew ?_) | (with_reducible refine Below.alloc ?_ ?_ _))); all_goals (first | exact Nat.le_refl _ | (simp; done) | (simp; omega))))
             have hxD := HXC.out.trans (hyD.mono HXC.out.size)
             have HYD := Lib.hid hyD
             have HXD := Lib.hid hxD
             have HOD : Hid (OwnI wD w21.heap.size aD cD S'.t) := hoD.less (HUC.out _ (by ((repeat (first | with_reducible exact Below.refl _ _ | (with_reducible refine Below.drew ?_) | (with_reducible refine Below.alloc ?_ ?_ _))); all_goals (first | exact Nat.le_refl _ | (simp; done) | (simp; omega)))))
             have HBK := Lib.hid (fun x (hx : aD = some x) => own_blkS hoD hx)
             have HSZ : Hid (w21.heap.size ≤ wA.heap.size ∧ wA.heap.size ≤ wB.heap.size ∧ wB.heap.size ≤ wC.heap.size ∧ wC.heap.size ≤ wD.heap.size) := ⟨HSZ.out.1, HSZ.out.2.1, HSZ.out.2.2, hyD.size⟩
             have HED : Hid (∀ U, Below w21.heap.size wD U → InpS w.heap.size a L b K d cd s U) := fun U hU => HE21.out U (HXD.out.trans hU)
             try (have HNC := Lib.hid (heap_lt YT.out))
             try (have YT := Lib.hid ((HYD.out.block _ (heap_lt YT.out)).trans YT.out))
             try (have YT : Hid (wD.heap[wC.heap.size]? = some zS) := bzS hbD)
             try (have hff := zs_facts YT.out; obtain ⟨x0, x1, x2, x3⟩ := hff)
             clear hoD hbD hxD hyD)))
      all_goals
        have hsz := HSZ.out
        try (have hnc := HNC.out)
        go_wp2_with fail
        go_meet
        refine ⟨_, aD, cD, rfl, rfl, ?hc, ?ho, ?hne, ?hge, ?hbw⟩
        case hc => first | (with_reducible exact heap_alloc_new wD _) | (with_reducible exact set2s (zs_eq YT.out))
        case ho => first | (with_reducible exact HOD.out.keepB (alB wD _) (Nat.le_refl _)) | exact own_atS HOD.out (fun y hy => set2s_ne (by have := HBK.out y hy; (try simp at this); omega))
        case hne => intro y hy; have := HBK.out y hy; (try simp at this); omega
        case hge => first | exact Nat.le_refl _ | omega
        case hbw => first | (with_reducible exact HXD.out.alloc HXD.out.size _) | exact below_set2s HXD.out (by first | exact Nat.le_refl _ | omega) _ _
    case rest =>
      obtain ⟨w22, rfl⟩ : ∃ x, x = wc := ⟨_, rfl⟩
      obtain ⟨M, aH, cH, rfl, rfl, hcH, hoH, hneH, hgeH, hb22⟩ := hcut
      have HB22 : Hid (Below w20.heap.size w20 w22) := HB21.out.trans (hb22.mono HB21.out.size)
      have HOH := Lib.hid (own_intsS hoH)
      have HBW22 : Hid (Below w.heap.size w w22) := HBW21.out.trans (hb22.mono HBW21.out.size)
      obtain ⟨c0, c1⟩ := cell2s hcH
      obtain ⟨_, ⟨⟨e0, e1⟩, _⟩, _, _⟩ := HF20.out w22 HB22.out
      clear hcH hoH hneH hgeH hb22
      go_wp2_with fail
      refine (eqSc_same aH aW cH cW S' w22 HOH.out (HF20.out w22 HB22.out).2.1.2 HOS.out).mono ?_
      rintro e w23 ⟨rfl, hb23⟩
      have HB23 : Hid (Below w20.heap.size w20 w23) := HB22.out.trans (hb23.mono HB22.out.size)
      have HBW23 : Hid (Below w.heap.size w w23) := HBW22.out.trans (hb23.mono HBW22.out.size)
      clear c0 c1 e0 e1 hb23
      obtain ⟨c0, c1⟩ := (HF20.out w23 HB23.out).2.2.1
      go_wp2_with fail
      refine (heldSc_any aG cG S' 1 w23 (HF20.out w23 HB23.out).2.2.2 (by omega) (by omega) HOS.out).mono ?_
      rintro e w24 ⟨rfl, hb24⟩
      have HBW24 : Hid (Below w.heap.size w w24) := HBW23.out.trans (hb24.mono HBW23.out.size)
      clear c0 c1 hb24
      go_wp2
      go_ret
      exact ⟨rfl, HBW24.out⟩

end Go.Proofs.Ytenhaccdiamagaa
