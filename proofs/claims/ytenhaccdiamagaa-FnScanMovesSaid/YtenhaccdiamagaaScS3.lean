/- Scans: the model's ScanStep. -/
import Derived.Test.YtenhaccdiamagaaScS2
import Derived.Deep.RegionLaw
namespace Go.Proofs.Ytenhaccdiamagaa
open Go.RowKit
set_option linter.unusedVariables false
attribute [local go_sem ↓] Go.wp_at_zero Go.wp_at_succ

set_option maxRecDepth 20000 in
set_option maxHeartbeats 2000000 in
theorem sstep_any (al ak at_ : Option Addr) (ll cl lk ck n ct : Nat) (L : List Ls) (K : List Int) (s : Sc) (w : World) (hl : LsAt w al L) (hk : IntsAt w ak K) (ht : IntsAt w at_ s.t) (hzl : L.length = ll) (hzk : K.length = lk) (hzt : s.t.length = n) (hlm : ll ≤ maxLen) (hkm : lk ≤ maxLen) (hnm : n ≤ maxLen) :
    Calls Try.prog 17 #[.slice al ll cl, .slice ak lk ck, .agg #[.int .i64 s.x, .slice at_ n ct]] w (NewScB (stR L K s).1 (stR L K s).2 w) := by
  obtain ⟨x, ts⟩ := s
  simp only at *
  obtain ⟨W, hW⟩ : ∃ W, W = (w.alloc (.cells #[.int .i64 x, .slice at_ n ct] 26)).alloc (.cells #[.int .i64 0, .slice none 0 0] 26) := ⟨_, rfl⟩
  obtain ⟨hs, hB, h1, h2⟩ := two_newS hW
  have HB := Lib.hid hB
  have HW := Lib.hid hW
  have HS := Lib.hid hs
  have HLB : Hid (∀ U, Below W.heap.size W U → LsAt U al L) := fun U hU => (hl.keepB hB (Nat.le_refl _)).keepB hU (Nat.le_refl _)
  have HKB : Hid (∀ U, Below W.heap.size W U → IntsAt U ak K) := fun U hU => (hk.keepB hB (Nat.le_refl _)).keepB hU (Nat.le_refl _)
  have HTB : Hid (∀ U, Below W.heap.size W U → IntsAt U at_ ts) := fun U hU => (ht.keepB hB (Nat.le_refl _)).keepB hU (Nat.le_refl _)
  have H1 : Hid (∀ U, Below W.heap.size W U → U.heap[w.heap.size]? = some (.cells #[.int .i64 x, .slice at_ n ct] 26 (0, 0))) := fun U hU => (hU.block _ (by omega)).trans h1
  have H2 : Hid (∀ U, Below W.heap.size W U → U.heap[w.heap.size + 1]? = some (.cells #[.int .i64 0, .slice none 0 0] 26 (0, 0))) := fun U hU => (hU.block _ (by omega)).trans h2
  have HZL := Lib.hid hzl
  have HZK := Lib.hid hzk
  have HZT := Lib.hid hzt
  have HLM := Lib.hid hlm
  have HKM := Lib.hid hkm
  have HNM := Lib.hid hnm
  clear hW hB hs h1 h2 hl hk ht hzl hzk hzt hlm hkm hnm
  cases hv : lvB L
  · have HR := Lib.hid (stR_bad (L := L) (K := K) (s := ⟨x, ts⟩) (by simp only [stOk, hv, Bool.false_and]))
    have HV := Lib.hid hv
    clear hv
    go_enter Try.func17, Try.ntmps17
    go_wp2_with fail
    rw [← HW.out]
    refine (slvs_as false al ll cl L W (HLB.out W (Below.refl _ _)) HZL.out HLM.out HV.out).mono ?_
    rintro e w2 ⟨rfl, hs2⟩
    have HB2 := Lib.hid (hs2.below W.heap.size)
    have h6 := H2.out w2 HB2.out
    obtain ⟨e0, e1⟩ := cell2s h6
    have f0 := frozen_of_cells h6 0
    have f1 := frozen_of_cells h6 1
    have H6 := Lib.hid h6
    clear h6 hs2
    go_wp2
    refine bodyPost_ret (results_cell_tmp rfl _ _ (w.heap.size + 1) _ #[.int .i64 0, .slice none 0 0] (0, 0) _ rfl (set2s H6.out) Try.underlying26 rfl (by kernel_rfl)) rfl ?_
    rw [HR.out]
    exact ⟨none, 0, rfl, own_nil0 _ _, below_set2s (HB.out.trans (HB2.out.mono HB.out.size)) (by omega) _ _⟩
  cases hk : kyB K
  · have HR := Lib.hid (stR_bad (L := L) (K := K) (s := ⟨x, ts⟩) (by simp only [stOk, hk, Bool.and_false, Bool.false_and]))
    have HV := Lib.hid hv
    have HK := Lib.hid hk
    clear hv hk
    go_enter Try.func17, Try.ntmps17
    go_wp2_with fail
    rw [← HW.out]
    refine (slvs_as true al ll cl L W (HLB.out W (Below.refl _ _)) HZL.out HLM.out HV.out).mono ?_
    rintro e w2 ⟨rfl, hs2⟩
    have HB2 := Lib.hid (hs2.below W.heap.size)
    clear hs2
    go_wp2_with fail
    refine (skys_as false ak lk ck K w2 (HKB.out w2 HB2.out) HZK.out HKM.out HK.out).mono ?_
    rintro e w3 ⟨rfl, hs3⟩
    have HB3 := Lib.hid (HB2.out.trans (hs3.below W.heap.size))
    have h6 := H2.out w3 HB3.out
    obtain ⟨e0, e1⟩ := cell2s h6
    have f0 := frozen_of_cells h6 0
    have f1 := frozen_of_cells h6 1
    have H6 := Lib.hid h6
    clear h6 hs3
    go_wp2
    refine bodyPost_ret (results_cell_tmp rfl _ _ (w.heap.size + 1) _ #[.int .i64 0, .slice none 0 0] (0, 0) _ rfl (set2s H6.out) Try.underlying26 rfl (by kernel_rfl)) rfl ?_
    rw [HR.out]
    exact ⟨none, 0, rfl, own_nil0 _ _, below_set2s (HB.out.trans (HB3.out.mono HB.out.size)) (by omega) _ _⟩
  cases hc : scB ⟨x, ts⟩
  · have HR := Lib.hid (stR_bad (L := L) (K := K) (s := ⟨x, ts⟩) (by simp only [stOk, hc, Bool.and_false]))
    have HV := Lib.hid hv
    have HK := Lib.hid hk
    have HC := Lib.hid hc
    clear hv hk hc
    go_enter Try.func17, Try.ntmps17
    go_wp2_with fail
    rw [← HW.out]
    refine (slvs_as true al ll cl L W (HLB.out W (Below.refl _ _)) HZL.out HLM.out HV.out).mono ?_
    rintro e w2 ⟨rfl, hs2⟩
    have HB2 := Lib.hid (hs2.below W.heap.size)
    clear hs2
    go_wp2_with fail
    refine (skys_as true ak lk ck K w2 (HKB.out w2 HB2.out) HZK.out HKM.out HK.out).mono ?_
    rintro e w3 ⟨rfl, hs3⟩
    have HB3 := Lib.hid (HB2.out.trans (hs3.below W.heap.size))
    obtain ⟨d0, d1⟩ := cell2s (H1.out w3 HB3.out)
    clear hs3
    go_wp2_with fail
    refine (sscv_as false at_ n ct ⟨x, ts⟩ w3 (HTB.out w3 HB3.out) HZT.out HNM.out HC.out).mono ?_
    rintro e w4 ⟨rfl, hb4⟩
    have HB4 := Lib.hid (HB3.out.trans (hb4.mono HB3.out.size))
    have h6 := H2.out w4 HB4.out
    obtain ⟨e0, e1⟩ := cell2s h6
    have f0 := frozen_of_cells h6 0
    have f1 := frozen_of_cells h6 1
    have H6 := Lib.hid h6
    clear h6 hb4 d0 d1
    go_wp2
    refine bodyPost_ret (results_cell_tmp rfl _ _ (w.heap.size + 1) _ #[.int .i64 0, .slice none 0 0] (0, 0) _ rfl (set2s H6.out) Try.underlying26 rfl (by kernel_rfl)) rfl ?_
    rw [HR.out]
    exact ⟨none, 0, rfl, own_nil0 _ _, below_set2s (HB.out.trans (HB4.out.mono HB.out.size)) (by omega) _ _⟩
  have HOK : Hid (stOk L K ⟨x, ts⟩ = true) := by show _ = _; simp only [stOk, hv, hk, hc, Bool.and_self]
  have HV := Lib.hid hv
  have HK := Lib.hid hk
  have HC := Lib.hid hc
  have hn64 := sc_len hc
  have hk64 := ky_len hk
  simp only at hn64
  rw [HZT.out] at hn64
  rw [HZK.out] at hk64
  clear hv hk hc
  by_cases hx : x = 64
  · have HR := Lib.hid (stR_end HOK.out hx)
    subst hx
    go_enter Try.func17, Try.ntmps17
    go_wp2_with fail
    rw [← HW.out]
    refine (slvs_as true al ll cl L W (HLB.out W (Below.refl _ _)) HZL.out HLM.out HV.out).mono ?_
    rintro e w2 ⟨rfl, hs2⟩
    have HB2 := Lib.hid (hs2.below W.heap.size)
    clear hs2
    go_wp2_with fail
    refine (skys_as true ak lk ck K w2 (HKB.out w2 HB2.out) HZK.out HKM.out HK.out).mono ?_
    rintro e w3 ⟨rfl, hs3⟩
    have HB3 := Lib.hid (HB2.out.trans (hs3.below W.heap.size))
    obtain ⟨d0, d1⟩ := cell2s (H1.out w3 HB3.out)
    clear hs3
    go_wp2_with fail
    refine (sscv_as true at_ n ct ⟨64, ts⟩ w3 (HTB.out w3 HB3.out) HZT.out HNM.out HC.out).mono ?_
    rintro e w4 ⟨rfl, hb4⟩
    have HB4 := Lib.hid (HB3.out.trans (hb4.mono HB3.out.size))
    clear d0 d1 hb4
    obtain ⟨d0, d1⟩ := cell2s (H1.out w4 HB4.out)
    have d0a : ∀ o, (w4.alloc o).cell? ⟨w.heap.size, 0, none⟩ = some (.int .i64 64) := fun o => (cell2s (H1.out _ (HB4.out.trans ((alB w4 o).mono HB4.out.size)))).1
    have d1a : ∀ o, (w4.alloc o).cell? ⟨w.heap.size, 1, none⟩ = some (.slice at_ n ct) := fun o => (cell2s (H1.out _ (HB4.out.trans ((alB w4 o).mono HB4.out.size)))).2
    have d0b : ∀ o, (w4.drew.alloc o).cell? ⟨w.heap.size, 0, none⟩ = some (.int .i64 64) := fun o => (cell2s (H1.out _ (HB4.out.trans (((Below.refl _ w4).drew.alloc (Nat.le_refl _) o).mono HB4.out.size)))).1
    have d1b : ∀ o, (w4.drew.alloc o).cell? ⟨w.heap.size, 1, none⟩ = some (.slice at_ n ct) := fun o => (cell2s (H1.out _ (HB4.out.trans (((Below.refl _ w4).drew.alloc (Nat.le_refl _) o).mono HB4.out.size)))).2
    have HTU : Hid (∀ U, Below w4.heap.size w4 U → IntsAt U at_ ts) := fun U hU => HTB.out U (HB4.out.trans (hU.mono HB4.out.size))
    have HS4 : Hid (w.heap.size + 1 < w4.heap.size) := by show _ < _; have := HS.out; have := HB4.out.size; omega
    go_wp2_with fail
    go_region_law ((first
      | (refine step_appS (o := ⟨some 30, _, _, _, _, _⟩) _ (by rfl) (.tmp 27) (.tmp 29) (by rfl) w4.heap.size w4.heap.size 0 0 [] (by rfl) (own_empty (by exact heap_alloc_new _ _) (Nat.le_refl _)) at_ n ct ts (by rfl) HZT.out (HTU.out _ (by repeat (first | exact Below.refl _ _ | apply Below.drew | (refine Below.alloc ?_ (by first | exact Nat.le_refl _ | (simp; done) | (simp; omega) | omega) _)))) n (by omega) (by omega) (by first | exact Nat.le_refl _ | (simp; done) | (simp; omega) | omega) ?_
         intro b5 cb5 w7 hown7 hg7 hat7
         have HBW7 := mk_bs (wx := w4) hg7 (by repeat (first | exact Below.refl _ _ | apply Below.drew | (refine Below.alloc ?_ (by first | exact Nat.le_refl _ | (simp; done) | (simp; omega) | omega) _)))
         have HG7 := Lib.hid hg7
         have HO7 := Lib.hid hown7
         have h6 := (sc_mid HBW7.out HG7.out HS4.out (by have := HS4.out; omega)).trans (H2.out w4 HB4.out)
         have h7 := (sc_mid HBW7.out HG7.out (by have := HS4.out; omega) (by have := HS4.out; omega)).trans (H1.out w4 HB4.out)
         obtain ⟨e0, e1⟩ := cell2s h6
         have d07 := (cell2s h7).1
         have f0 := frozen_of_cells h6 0
         have f1 := frozen_of_cells h6 1
         have H6 := Lib.hid h6
         clear hown7 hg7 hat7 h6 h7)))
    all_goals
      go_wp2
      refine bodyPost_ret (results_cell_tmp rfl _ _ (w.heap.size + 1) _ #[.int .i64 64, .slice (some ⟨b5, 0, none⟩) n cb5] (0, 0) _ rfl (set2s H6.out) Try.underlying26 rfl (by kernel_rfl)) rfl ?_
      rw [HR.out]
      have how := own_whole HO7.out HZT.out
      have hbl := how.lt
      have hs4 := HS4.out
      have hb7 : Below W.heap.size W w7 := HB4.out.trans ((HBW7.out.grown HG7.out HBW7.out.size (fun j hj => by injection hj with hj; omega)).mono HB4.out.size)
      refine ⟨some ⟨b5, 0, none⟩, cb5, ?_, (own_atS how (fun y hy => by injection hy with hy; subst hy; exact set2s_ne (by show b5 ≠ _; omega))).less (by omega), below_set2s (HB.out.trans (hb7.mono HB.out.size)) (by omega) _ _⟩
      show _ = Ending.returned (.tuple #[.agg #[.int .i64 64, .slice _ ts.length cb5], .bool false])
      rw [HZT.out]; rfl
  · have HR := Lib.hid (stR_yes HOK.out hx)
    have hxe : (x == 64) = false := by simp [hx]
    clear hx
    go_enter Try.func17, Try.ntmps17
    go_wp2_with fail
    rw [← HW.out]
    refine (slvs_as true al ll cl L W (HLB.out W (Below.refl _ _)) HZL.out HLM.out HV.out).mono ?_
    rintro e w2 ⟨rfl, hs2⟩
    have HB2 := Lib.hid (hs2.below W.heap.size)
    clear hs2
    go_wp2_with fail
    refine (skys_as true ak lk ck K w2 (HKB.out w2 HB2.out) HZK.out HKM.out HK.out).mono ?_
    rintro e w3 ⟨rfl, hs3⟩
    have HB3 := Lib.hid (HB2.out.trans (hs3.below W.heap.size))
    obtain ⟨d0, d1⟩ := cell2s (H1.out w3 HB3.out)
    clear hs3
    go_wp2_with fail
    refine (sscv_as true at_ n ct ⟨x, ts⟩ w3 (HTB.out w3 HB3.out) HZT.out HNM.out HC.out).mono ?_
    rintro e w4 ⟨rfl, hb4⟩
    have HB4 := Lib.hid (HB3.out.trans (hb4.mono HB3.out.size))
    clear d0 d1 hb4
    obtain ⟨d0, d1⟩ := cell2s (H1.out w4 HB4.out)
    go_wp2_with fail
    refine (sstep1_any al ak at_ ll cl lk ck n ct L K ⟨x, ts⟩ w4 (HLB.out w4 HB4.out) (HKB.out w4 HB4.out) (HTB.out w4 HB4.out) HZL.out HZK.out HZT.out HV.out (by omega) (by omega)).mono ?_
    rintro e w5 ⟨b, cb, rfl, ho, hb5⟩
    have HB5 := Lib.hid (HB4.out.trans (hb5.mono HB4.out.size))
    have h6 := H2.out w5 HB5.out
    obtain ⟨e0, e1⟩ := cell2s h6
    have f0 := frozen_of_cells h6 0
    have f1 := frozen_of_cells h6 1
    have H6 := Lib.hid h6
    have HO := Lib.hid ho
    have HS4 : Hid (w.heap.size + 1 < w4.heap.size) := by show _ < _; have := HS.out; have := HB4.out.size; omega
    obtain ⟨S, hS⟩ : ∃ S, S = stS L K ⟨x, ts⟩ := ⟨_, rfl⟩
    rw [← hS] at HO HR ⊢
    obtain ⟨Sx, St⟩ := S
    clear h6 hb5 ho d0 d1 hS
    go_wp2
    refine bodyPost_ret (results_cell_tmp rfl _ _ (w.heap.size + 1) _ #[.int .i64 Sx, .slice b St.length cb] (0, 0) _ rfl (set2s H6.out) Try.underlying26 rfl (by kernel_rfl)) rfl ?_
    rw [HR.out]
    have hs4 := HS4.out
    refine ⟨b, cb, rfl, (own_atS HO.out (fun y hy => set2s_ne ?_)).less (by omega), below_set2s (HB.out.trans (HB5.out.mono HB.out.size)) (by omega) _ _⟩
    subst hy
    rcases HO.out.2 with ⟨h0, _⟩ | ⟨g', cap', cur, hv, hbg, _⟩
    · cases h0
    · injection hv with hv _ _; injection hv with hv; rw [hv]; show g' ≠ _; omega
theorem sstep_as (s' : Sc) (ok : Bool) (al ak at_ : Option Addr) (ll cl lk ck n ct : Nat) (L : List Ls) (K : List Int) (s : Sc) (w : World) (hl : LsAt w al L) (hk : IntsAt w ak K) (ht : IntsAt w at_ s.t) (hzl : L.length = ll) (hzk : K.length = lk) (hzt : s.t.length = n) (hlm : ll ≤ maxLen) (hkm : lk ≤ maxLen) (hnm : n ≤ maxLen) (he : stR L K s = (s', ok)) :
    Calls Try.prog 17 #[.slice al ll cl, .slice ak lk ck, .agg #[.int .i64 s.x, .slice at_ n ct]] w (NewScB s' ok w) := by
  have := sstep_any al ak at_ ll cl lk ck n ct L K s w hl hk ht hzl hzk hzt hlm hkm hnm
  rw [he] at this; exact this

set_option maxHeartbeats 1000000 in
theorem snewSc_any (w : World) : Calls Try.prog 64 #[] w (NewSc ⟨0, []⟩ w) := by
  go_enter Try.func64, Try.ntmps64
  go_wp2_with fail
  refine bodyPost_ret (results_cell_row rfl _ _ w.heap.size _ #[.int .i64 0, .slice (some ⟨w.heap.size + 1, 0, none⟩) 0 0] (0, 0) _ rfl (heap_first w _ _) Try.underlying26 rfl (by kernel_rfl)) rfl ?_
  exact ⟨some ⟨w.heap.size + 1, 0, none⟩, 0, rfl, own_empty (heap_second w _ _) (by omega), (alB w _).alloc (by simp) _⟩

/-- a scan in a variable's block g, what it told in memory made behind V -/
structure ScIn (g : Nat) (V wr : World) (s : Sc) : Prop where
  sc : ∃ (a : Option Addr) (cb : Nat), wr.heap[g]? = some (.cells #[.int .i64 s.x, .slice a s.t.length cb] 26 (0, 0)) ∧ OwnI wr V.heap.size a cb s.t ∧ (∀ y, a = some y → y.block ≠ g)
  below : Below V.heap.size V wr
  lt : g < wr.heap.size
theorem own_blkS {w : World} {base cap : Nat} {a : Option Addr} {zs : List Int} (h : OwnI w base a cap zs) {y : Addr} (hy : a = some y) : base ≤ y.block ∧ y.block < w.heap.size := by
  subst hy
  rcases h.2 with ⟨h0, _⟩ | ⟨g', cap', cur, hv, hbg, hg, _⟩
  · cases h0
  · injection hv with hv _ _; injection hv with hv; rw [hv]; exact ⟨hbg, heap_lt hg⟩
theorem scIn_set {g : Nat} {V wr w4 : World} {s s' : Sc} {a : Option Addr} {cb : Nat} (h : ScIn g V wr s) (hg : V.heap.size ≤ g) (ho : OwnI w4 wr.heap.size a cb s'.t) (hb : Below wr.heap.size wr w4) :
    ScIn g V ((w4.setCell ⟨g, 0, none⟩ (.int .i64 s'.x)).setCell ⟨g, 1, none⟩ (.slice a s'.t.length cb)) s' := by
  obtain ⟨a0, cb0, h1, h2, h3⟩ := h.sc
  have h4 := (hb.block g h.lt).trans h1
  have hne : ∀ y, a = some y → y.block ≠ g := fun y hy => by have := own_blkS ho hy; have := h.lt; omega
  refine ⟨⟨a, cb, set2s h4, (own_atS ho (fun y hy => set2s_ne (hne y hy))).less h.below.size, hne⟩, below_set2s (h.below.trans (hb.mono h.below.size)) hg _ _, ?_⟩
  have := hb.size; have := h.lt
  simp [World.setCell]; omega

set_option maxRecDepth 20000 in
set_option maxHeartbeats 2000000 in
theorem sall_any (al ak : Option Addr) (ll cl lk ck : Nat) (L : List Ls) (K : List Int) (w : World) (hl : LsAt w al L) (hk : IntsAt w ak K) (hzl : L.length = ll) (hzk : K.length = lk) (hlm : ll ≤ maxLen) (hkm : lk ≤ maxLen) :
    Calls Try.prog 29 #[.slice al ll cl, .slice ak lk ck] w (NewIntsN (allR L K).1 (allR L K).2 w) := by
  have HLB : Hid (∀ U, Below w.heap.size w U → LsAt U al L) := fun U hU => hl.keepB hU (Nat.le_refl _)
  have HKB : Hid (∀ U, Below w.heap.size w U → IntsAt U ak K) := fun U hU => hk.keepB hU (Nat.le_refl _)
  have HZL := Lib.hid hzl
  have HZK := Lib.hid hzk
  have HLM := Lib.hid hlm
  have HKM := Lib.hid hkm
  clear hl hk hzl hzk hlm hkm
  cases hv : lvB L
  · have HR := Lib.hid (allR_bad (L := L) (K := K) (by simp only [allOk, hv, Bool.false_and]))
    have HV := Lib.hid hv
    clear hv
    go_enter Try.func29, Try.ntmps29
    go_wp2_with fail
    refine (slvs_as false al ll cl L w (HLB.out w (Below.refl _ _)) HZL.out HLM.out HV.out).mono ?_
    rintro e w2 ⟨rfl, hs2⟩
    have HB2 := Lib.hid (hs2.below w.heap.size)
    clear hs2
    go_wp2
    go_ret2
    rw [HR.out]
    exact ⟨some ⟨w2.heap.size, 0, none⟩, 0, rfl, own_empty (heap_alloc_new w2 _) HB2.out.size, HB2.out.alloc HB2.out.size _⟩
  cases hk : kyB K
  · have HR := Lib.hid (allR_bad (L := L) (K := K) (by simp only [allOk, hk, Bool.and_false]))
    have HV := Lib.hid hv
    have HK := Lib.hid hk
    clear hv hk
    go_enter Try.func29, Try.ntmps29
    go_wp2_with fail
    refine (slvs_as true al ll cl L w (HLB.out w (Below.refl _ _)) HZL.out HLM.out HV.out).mono ?_
    rintro e w2 ⟨rfl, hs2⟩
    have HB2 := Lib.hid (hs2.below w.heap.size)
    clear hs2
    go_wp2_with fail
    refine (skys_as false ak lk ck K w2 (HKB.out w2 HB2.out) HZK.out HKM.out HK.out).mono ?_
    rintro e w3 ⟨rfl, hs3⟩
    have HB3 := Lib.hid (HB2.out.trans (hs3.below w.heap.size))
    clear hs3
    go_wp2
    go_ret2
    rw [HR.out]
    exact ⟨some ⟨w3.heap.size, 0, none⟩, 0, rfl, own_empty (heap_alloc_new w3 _) HB3.out.size, HB3.out.alloc HB3.out.size _⟩
  · have HR := Lib.hid (allR_ok (L := L) (K := K) (by simp only [allOk, hv, hk, Bool.and_self]))
    have HV := Lib.hid hv
    have HK := Lib.hid hk
    have hk64 := ky_len hk
    rw [HZK.out] at hk64
    clear hv hk
    go_enter Try.func29, Try.ntmps29
    go_wp2_with fail
    refine (slvs_as true al ll cl L w (HLB.out w (Below.refl _ _)) HZL.out HLM.out HV.out).mono ?_
    rintro e w2 ⟨rfl, hs2⟩
    have HB2 := Lib.hid (hs2.below w.heap.size)
    clear hs2
    go_wp2_with fail
    refine (skys_as true ak lk ck K w2 (HKB.out w2 HB2.out) HZK.out HKM.out HK.out).mono ?_
    rintro e w3 ⟨rfl, hs3⟩
    have HB3 := Lib.hid (HB2.out.trans (hs3.below w.heap.size))
    clear hs3
    go_wp2_with fail
    refine (snewSc_any w3).mono ?_
    rintro e w4 ⟨a, cb, rfl, ho, hb4⟩
    have HI0 : Hid (ScIn w4.heap.size w3 (w4.alloc (.cells #[.int .i64 0, .slice a 0 cb] 26)) (runS L K 0)) :=
      ⟨⟨a, cb, heap_alloc_new w4 _, ho.keepB (alB w4 _) (Nat.le_refl _), fun y hy => by have := own_blkS ho hy; omega⟩, hb4.alloc hb4.size _, by simp⟩
    have HG := Lib.hid hb4.size
    obtain ⟨g, hg⟩ : ∃ g, g = w4.heap.size := ⟨_, rfl⟩
    rw [← hg] at HI0 HG
    have HGE := Lib.hid hg
    clear ho hb4 hg
    go_wp2
    rw [← HGE.out]
    go_loopw [7] (fun nv wr => ∃ m : Nat, nv = .int .i64 m ∧ Hid (∀ j, j < m → posN L j < 64) ∧ ScIn g w3 wr (runS L K m)) (fun nv _ => 65 - (intOf nv).toNat)
    case atStart => exact ⟨0, rfl, fun j hj => by omega, HI0.out⟩
    case round =>
      obtain ⟨m, rfl, HP, hin⟩ := hrel
      have hbd := pos_bd HV.out HP.out
      have hml : m ≤ 64 := by omega
      have HIN := Lib.hid hin
      have hle : (runS L K m).t.length ≤ 64 := sc_len (run_ok HV.out HK.out HP.out)
      have HX := Lib.hid (runS_x L K m)
      have HSS : Hid (runS L K (m + 1) = stS L K (runS L K m)) := rfl
      obtain ⟨a0, c0, h1, h2, h3⟩ := hin.sc
      obtain ⟨S, hS⟩ : ∃ S, S = runS L K m := ⟨_, rfl⟩
      rw [← hS] at h1 h2 hle HIN HX HSS
      obtain ⟨x, ts⟩ := S
      simp only at h1 h2 hle
      have hxe : x = posN L m := HX.out
      have HT2 : Hid (ts = (runS L K m).t) := by show ts = _; rw [← hS]
      obtain ⟨e0, e1⟩ := cell2s h1
      have f0 := frozen_of_cells h1 0
      have f1 := frozen_of_cells h1 1
      have HO := Lib.hid h2
      have HBW : Hid (Below w.heap.size w wr) := HB3.out.trans (HIN.out.below.mono HB3.out.size)
      obtain ⟨t, ht⟩ : ∃ t, ts.length = t := ⟨_, rfl⟩
      rw [ht] at e1 hle
      have HTL := Lib.hid ht
      clear h1 h2 h3 hS hin HI0 ht
      by_cases hlt : x < 64
      · have HP2 : Hid (∀ j, j < m + 1 → posN L j < 64) := fun j hj => by
          rcases Nat.lt_or_ge j m with h' | h'
          · exact HP.out j h'
          · obtain rfl : j = m := by omega
            omega
        have hbd2 := pos_bd HV.out HP2.out
        have hm2 : m + 1 ≤ 64 := by omega
        clear hxe hbd hbd2
        go_wp2_with fail
        refine (sstep1_any al ak a0 ll cl lk ck t c0 L K ⟨x, ts⟩ wr (HLB.out wr HBW.out) (HKB.out wr HBW.out) HO.out.ints HZL.out HZK.out HTL.out HV.out (by omega) (by omega)).mono ?_
        rintro e w5 ⟨b, cb5, rfl, ho5, hb5⟩
        have HS5 := Lib.hid (scIn_set HIN.out HG.out ho5 hb5)
        have h5 := (hb5.block g HIN.out.lt)
        obtain ⟨a9, c9, h9, _, _⟩ := HIN.out.sc
        have h6 := h5.trans h9
        clear e0 e1 f0 f1
        obtain ⟨e0, e1⟩ := cell2s h6
        have f0 := frozen_of_cells h6 0
        have f1 := frozen_of_cells h6 1
        clear h5 h6 h9 ho5 hb5
        go_wp2
        go_roundw
        case rel => exact ⟨m + 1, by go_num, HP2, by rw [HSS.out]; exact HS5.out⟩
        case measure => simp [intOf]; omega
      · have hn : allN L = m := allN_eq HV.out HP.out (by omega)
        have hk : ts = K := by
          have h := all_told HV.out HK.out
          rw [hn] at h
          have e : (runS L K m).t = ts := by
            have := HX.out
            exact HT2.out.symm
          rw [← e]; exact h
        have HN := Lib.hid hn
        have HE := Lib.hid hk
        clear hxe hn hk
        go_wp2
        go_ret2
        rw [HR.out, HN.out]
        have ho := HO.out
        rw [HE.out] at ho
        refine ⟨a0, c0, ?_, ho.less HB3.out.size, HBW.out⟩
        show _ = Ending.returned (.tuple #[.slice a0 K.length c0, .int .i64 (m : Int)])
        have hkl : K.length = t := by rw [← HE.out]; exact HTL.out
        rw [hkl]; rfl
end Go.Proofs.Ytenhaccdiamagaa
