/- Scans, as the program performs them: steps and whole scans. -/
import Derived.Test.YtenhaccdiamagaaScPB
import Derived.Deep.RegionWith
import Derived.Lib.SliceRun
import Derived.BigQuiet
namespace Go.Proofs.Ytenhaccdiamagaa
open Go.RowKit
set_option linter.unusedVariables false
attribute [local go_sem ↓] Go.wp_at_zero Go.wp_at_succ

set_option maxHeartbeats 1000000 in
theorem pcloneP_any (a : Option Addr) (len cap : Nat) (zs : List Int) (w : World) (h : IntsAt w a zs) (hz : zs.length = len) (hm : len ≤ 1000000) :
    Calls Try.prog 53 #[.slice a len cap] w fun e w' => ∃ b cb, e = .returned (.slice b len cb) ∧ OwnI w' w.heap.size b cb zs ∧ Below w.heap.size w w' := by
  have HI := Lib.hid h
  have HZ := Lib.hid hz
  have hq := fun w => Lib.run_eql_slice_nil (P := Try.prog) w 24 3 a len cap 0 0 Try.underlying24
  have HBA : Hid (∀ o, Below w.heap.size w (w.alloc o)) := fun o => (Below.refl _ _).alloc (Nat.le_refl _) _
  cases a with
  | none =>
    have h0 : zs = [] := by
      rcases h with h0 | ⟨b, off, ha, _⟩
      · exact h0
      · cases ha
    subst h0
    obtain rfl : len = 0 := hz.symm
    clear h hz
    simp only [Option.isNone_none] at hq
    go_enter Try.func53, Try.ntmps53
    go_wp2
    go_ret
    exact ⟨none, 0, rfl, own_nil0 _ _, Below.refl _ _⟩
  | some ad =>
    clear h hz
    simp only [Option.isNone_some] at hq
    go_enter Try.func53, Try.ntmps53
    go_wp2_with (at_builtin; refine wl_appS _ (by rfl) _ _ (by rfl) w.heap.size w.heap.size 0 0 [] (by rfl) (own_empty (heap_alloc_new w _) (Nat.le_refl _)) (some ad) len cap zs (by rfl) HZ.out (HI.out.keepB (HBA.out _) (Nat.le_refl _)) len (by omega) (by omega) (by simp) ?_; intro g' c' w' hown hgr hat; have HO := Lib.hid hown; have hB : Below w.heap.size w w' := (HBA.out _).grown hgr (by simp) (fun k hk => by injection hk with hk; omega); clear hown hgr hat)
    go_ret
    exact ⟨some ⟨g', 0, none⟩, c', rfl, own_whole HO.out HZ.out, hB⟩

set_option maxRecDepth 20000 in
set_option maxHeartbeats 2000000 in
theorem pstep_any (al ak at_ : Option Addr) (ll cl lk ck n ct : Nat) (L : List Ls) (K : List Int) (s : Sc) (w : World) (hl : LsAt w al L) (hk : IntsAt w ak K) (ht : IntsAt w at_ s.t) (hzl : L.length = ll) (hzk : K.length = lk) (hzt : s.t.length = n) (hlm : ll ≤ maxLen) (hkm : lk ≤ maxLen) (hnm : n ≤ maxLen) :
    Calls Try.prog 16 #[.slice al ll cl, .slice ak lk ck, .agg #[.int .i64 s.x, .slice at_ n ct]] w (NewScB (stR L K s).1 (stR L K s).2 w) := by
  obtain ⟨x, ts⟩ := s
  simp only at *
  obtain ⟨W, hW⟩ : ∃ W, W = (w.alloc (.cells #[.int .i64 x, .slice at_ n ct] 26)).alloc (.cells #[.int .i64 0, .slice none 0 0] 26) := ⟨_, rfl⟩
  obtain ⟨hs, hB, h1, h2⟩ := two_newS hW
  have HB := Lib.hid hB
  have HW := Lib.hid hW
  have HS := Lib.hid hs
  have HLB : Hid (∀ U, Below W.heap.size W U → LsAt U al L) := fun U hU => (hl.keepB hB (Nat.le_refl _)).keepB hU (Nat.le_refl _)
  have HKB : Hid (∀ U, Below W.heap.size W U → IntsAt U ak K) := fun U hU => (hk.keepB hB (Nat.le_refl _)).keepB hU (Nat.le_refl _)
  have HTB : Hid (∀ U, Below W.heap.size W U → IntsAt U at_ ts) := fun U hU => (ht.keepB hB (Nat.le_refl _)).keepB hU (Nat.le_refl _)
  have H1 : Hid (∀ U, Below W.heap.size W U → U.heap[w.heap.size]? = some (.cells #[.int .i64 x, .slice at_ n ct] 26 (0, 0))) := fun U hU => (hU.block _ (by omega)).trans h1
  have H2 : Hid (∀ U, Below W.heap.size W U → U.heap[w.heap.size + 1]? = some (.cells #[.int .i64 0, .slice none 0 0] 26 (0, 0))) := fun U hU => (hU.block _ (by omega)).trans h2
  have HZL := Lib.hid hzl
  have HZK := Lib.hid hzk
  have HZT := Lib.hid hzt
  have HLM := Lib.hid hlm
  have HKM := Lib.hid hkm
  have HNM := Lib.hid hnm
  clear hW hB hs h1 h2 hl hk ht hzl hzk hzt hlm hkm hnm
  cases hv : (lvB L && kyB K)
  · have HR := Lib.hid (stR_bad (L := L) (K := K) (s := ⟨x, ts⟩) (by simp only [stOk, hv, Bool.false_and]))
    have HV := Lib.hid hv
    clear hv
    go_enter Try.func16, Try.ntmps16
    go_wp2_with fail
    rw [← HW.out]
    refine (pcan_as false al ak ll cl lk ck L K W (HLB.out W (Below.refl _ _)) (HKB.out W (Below.refl _ _)) HZL.out HZK.out HLM.out HKM.out HV.out).mono ?_
    rintro e w2 ⟨rfl, hb2⟩
    have HB2 := Lib.hid hb2
    have h6 := H2.out w2 HB2.out
    obtain ⟨e0, e1⟩ := cell2s h6
    have f0 := frozen_of_cells h6 0
    have f1 := frozen_of_cells h6 1
    have H6 := Lib.hid h6
    clear h6 hb2
    go_wp2
    refine bodyPost_ret (results_cell_tmp rfl _ _ (w.heap.size + 1) _ #[.int .i64 0, .slice none 0 0] (0, 0) _ rfl (set2s H6.out) Try.underlying26 rfl (by kernel_rfl)) rfl ?_
    rw [HR.out]
    exact ⟨none, 0, rfl, own_nil0 _ _, below_set2s (HB.out.trans (HB2.out.mono HB.out.size)) (by omega) _ _⟩
  obtain ⟨hv1, hk⟩ : lvB L = true ∧ kyB K = true := by rw [← Bool.and_eq_true]; exact hv
  have HV1 := Lib.hid hv1
  have HK := Lib.hid hk
  have HV := Lib.hid hv
  clear hv hv1 hk
  cases hc : scB ⟨x, ts⟩
  · have HR := Lib.hid (stR_bad (L := L) (K := K) (s := ⟨x, ts⟩) (by simp only [stOk, hc, Bool.and_false]))
    have HC := Lib.hid hc
    clear hc
    go_enter Try.func16, Try.ntmps16
    go_wp2_with fail
    rw [← HW.out]
    refine (pcan_as true al ak ll cl lk ck L K W (HLB.out W (Below.refl _ _)) (HKB.out W (Below.refl _ _)) HZL.out HZK.out HLM.out HKM.out HV.out).mono ?_
    rintro e w3 ⟨rfl, hb3⟩
    have HB3 := Lib.hid hb3
    obtain ⟨d0, d1⟩ := cell2s (H1.out w3 HB3.out)
    clear hb3
    go_wp2_with fail
    refine (pscv_as0 false at_ n ct ⟨x, ts⟩ w3 (HTB.out w3 HB3.out) HZT.out HNM.out HC.out).mono ?_
    rintro e w4 ⟨rfl, hb4⟩
    have HB4 := Lib.hid (HB3.out.trans (hb4.mono HB3.out.size))
    have h6 := H2.out w4 HB4.out
    obtain ⟨e0, e1⟩ := cell2s h6
    have f0 := frozen_of_cells h6 0
    have f1 := frozen_of_cells h6 1
    have H6 := Lib.hid h6
    clear h6 hb4 d0 d1
    go_wp2
    refine bodyPost_ret (results_cell_tmp rfl _ _ (w.heap.size + 1) _ #[.int .i64 0, .slice none 0 0] (0, 0) _ rfl (set2s H6.out) Try.underlying26 rfl (by kernel_rfl)) rfl ?_
    rw [HR.out]
    exact ⟨none, 0, rfl, own_nil0 _ _, below_set2s (HB.out.trans (HB4.out.mono HB.out.size)) (by omega) _ _⟩
  have HC := Lib.hid hc
  have hn64 := sc_len hc
  have hxb := ((scB_iff _).1 hc).2.1
  simp only [HZT.out] at hn64 hxb
  have HOK : Hid (stOk L K ⟨x, ts⟩ = true) := (stOk_iff L K ⟨x, ts⟩).2 ⟨HV1.out, HK.out, hc⟩
  clear hc
  by_cases hx : x = 64
  · subst hx
    have HR := Lib.hid (stR_end (s := ⟨64, ts⟩) HOK.out rfl)
    have HD : Hid (doneB ⟨64, ts⟩ = true) := by show _ = _; simp only [doneB, HC.out]; simp
    clear hxb
    go_enter Try.func16, Try.ntmps16
    go_wp2_with fail
    rw [← HW.out]
    refine (pcan_as true al ak ll cl lk ck L K W (HLB.out W (Below.refl _ _)) (HKB.out W (Below.refl _ _)) HZL.out HZK.out HLM.out HKM.out HV.out).mono ?_
    rintro e w3 ⟨rfl, hb3⟩
    have HB3 := Lib.hid hb3
    obtain ⟨d0, d1⟩ := cell2s (H1.out w3 HB3.out)
    clear hb3
    go_wp2_with fail
    refine (pscv_as0 true at_ n ct ⟨64, ts⟩ w3 (HTB.out w3 HB3.out) HZT.out HNM.out HC.out).mono ?_
    rintro e w4 ⟨rfl, hb4⟩
    have HB4 := Lib.hid (HB3.out.trans (hb4.mono HB3.out.size))
    clear d0 d1 hb4
    obtain ⟨d0, d1⟩ := cell2s (H1.out w4 HB4.out)
    go_wp2_with fail
    refine (pdone_as0 true at_ n ct ⟨64, ts⟩ w4 (HTB.out w4 HB4.out) HZT.out HNM.out HD.out).mono ?_
    rintro e w5 ⟨rfl, hb5⟩
    have HB5 := Lib.hid (HB4.out.trans (hb5.mono HB4.out.size))
    clear d0 d1 hb5
    obtain ⟨d0, d1⟩ := cell2s (H1.out w5 HB5.out)
    have HCL : Hid (∀ U, Below w5.heap.size w5 U → Calls Try.prog 53 #[.slice at_ n ct] U fun e w' => ∃ b cb, e = .returned (.slice b n cb) ∧ OwnI w' U.heap.size b cb ts ∧ Below U.heap.size U w') := fun U hU => pcloneP_any at_ n ct ts U (HTB.out U (HB5.out.trans (hU.mono HB5.out.size))) HZT.out (by omega)
    have HS5 : Hid (w.heap.size + 1 < w5.heap.size) := by show _ < _; have := HS.out; have := HB5.out.size; omega
    go_wp2_with fail
    go_region_with (go_at_call 53; refine (HCL.out _ (by first | exact Below.refl _ _ | exact (Below.refl _ _).drew)).mono ?_; rintro e w6 ⟨b, cb, rfl, ho, hb6⟩
                    have HB6 : Hid (Below w5.heap.size w5 w6) := by first | exact hb6 | exact ((Below.refl _ w5).drew).trans hb6
                    have HBW6 := Lib.hid (HB5.out.trans (HB6.out.mono HB5.out.size))
                    have HO : Hid (OwnI w6 w5.heap.size b cb ts) := ho
                    have h6 := H2.out w6 HBW6.out
                    have g0 := (cell2s (H1.out w6 HBW6.out)).1
                    obtain ⟨e0, e1⟩ := cell2s h6
                    have f0 := frozen_of_cells h6 0
                    have f1 := frozen_of_cells h6 1
                    have H6 := Lib.hid h6
                    clear h6 hb6 ho)
    all_goals
      go_wp2
      refine bodyPost_ret (results_cell_tmp rfl _ _ (w.heap.size + 1) _ #[.int .i64 64, .slice b n cb] (0, 0) _ rfl (set2s H6.out) Try.underlying26 rfl (by kernel_rfl)) rfl ?_
      rw [HR.out]
      have hs5 := HS5.out
      refine ⟨b, cb, ?_, ((own_atS HO.out (fun y hy => set2s_ne ?_)).kept (fun _ _ _ => rfl)).less (by omega), below_set2s (HB.out.trans (HBW6.out.mono HB.out.size)) (by omega) _ _⟩
      · show _ = Ending.returned (.tuple #[.agg #[.int .i64 64, .slice b ts.length cb], .bool false])
        rw [HZT.out]; rfl
      · have := own_blkS HO.out hy; omega
  · have HR := Lib.hid (stR_yes (s := ⟨x, ts⟩) HOK.out hx)
    have hx64 : x < 64 := by omega
    have hx0 : 0 ≤ x := hxb.1
    have HD : Hid (doneB ⟨x, ts⟩ = false) := by show _ = _; simp only [doneB, HC.out, Bool.true_and]; exact decide_eq_false hx
    have HL64 : Hid ((stS L K ⟨x, ts⟩).t.length ≤ 64) := sc_len (stS_ok HV1.out HK.out HC.out hx64)
    have HSS : Hid (stS L K ⟨x, ts⟩ = ⟨nxE L x, ts ++ btw K x (nxE L x)⟩) := rfl
    clear hx hxb
    go_enter Try.func16, Try.ntmps16
    go_wp2_with fail
    rw [← HW.out]
    refine (pcan_as true al ak ll cl lk ck L K W (HLB.out W (Below.refl _ _)) (HKB.out W (Below.refl _ _)) HZL.out HZK.out HLM.out HKM.out HV.out).mono ?_
    rintro e w3 ⟨rfl, hb3⟩
    have HB3 := Lib.hid hb3
    obtain ⟨d0, d1⟩ := cell2s (H1.out w3 HB3.out)
    clear hb3
    go_wp2_with fail
    refine (pscv_as0 true at_ n ct ⟨x, ts⟩ w3 (HTB.out w3 HB3.out) HZT.out HNM.out HC.out).mono ?_
    rintro e w4 ⟨rfl, hb4⟩
    have HB4 := Lib.hid (HB3.out.trans (hb4.mono HB3.out.size))
    clear d0 d1 hb4
    obtain ⟨d0, d1⟩ := cell2s (H1.out w4 HB4.out)
    go_wp2_with fail
    refine (pdone_as0 false at_ n ct ⟨x, ts⟩ w4 (HTB.out w4 HB4.out) HZT.out HNM.out HD.out).mono ?_
    rintro e w5 ⟨rfl, hb5⟩
    have HB5 := Lib.hid (HB4.out.trans (hb5.mono HB4.out.size))
    clear d0 d1 hb5
    obtain ⟨d0, d1⟩ := cell2s (H1.out w5 HB5.out)
    go_wp2_with fail
    refine (presume_any at_ n ct ⟨x, ts⟩ w5 (HTB.out w5 HB5.out) HZT.out HNM.out).mono ?_
    rintro e w6 ⟨g, rfl, hg, hsg, hb6⟩
    have HB6 := Lib.hid (HB5.out.trans (hb6.mono HB5.out.size))
    have HSG := Lib.hid hsg
    have HG : Hid (W.heap.size ≤ g) := Nat.le_trans HB5.out.size hg
    clear d0 d1 hb6 hsg hg
    go_wp2_with fail
    refine (pstep1_any g al ak ll cl lk ck L K x ts w6 HSG.out (HLB.out w6 HB6.out) (fun U hU => HKB.out U (HB6.out.trans (hU.mono HG.out))) HZL.out HZK.out HV1.out HKM.out hx0 hx64).mono ?_
    rintro e w7 ⟨rfl, hs7, hb7⟩
    have HB7 := Lib.hid (HB6.out.trans (hb7.mono HG.out))
    clear hb7
    obtain ⟨S, hS⟩ : ∃ S, S = stS L K ⟨x, ts⟩ := ⟨_, rfl⟩
    rw [← hS] at HR HL64 HSS
    obtain ⟨Sx, St⟩ := S
    injection HSS.out with hx1 ht1
    rw [← ht1, ← hx1] at hs7
    have HS7 := Lib.hid hs7
    have c7 := hs7.cell
    have HTO : Hid (∀ U, Below w7.heap.size w7 U → Calls Try.prog 56 #[.pointer (some ⟨g, 0, none⟩)] U (NewInts St U)) := fun U hU => ptold_any g Sx St U (HS7.out.keepB hU) (Nat.le_trans HL64.out (by omega))
    have HGE : Hid (g < w7.heap.size) := HS7.out.lt
    have HS8 : Hid (w.heap.size + 1 < w7.heap.size) := by show _ < _; have := HS.out; have := HB7.out.size; omega
    clear hs7 hx1 ht1 hS
    go_wp2_with fail
    go_region_with (go_at_call 56; refine (HTO.out _ (by first | exact Below.refl _ _ | exact (Below.refl _ _).drew)).mono ?_; rintro e w8 ⟨b, cb, rfl, ho, hb8⟩
                    have HB8 : Hid (Below w7.heap.size w7 w8) := by first | exact hb8 | exact ((Below.refl _ w7).drew).trans hb8
                    have HBW8 := Lib.hid (HB7.out.trans (HB8.out.mono HB7.out.size))
                    have HO : Hid (OwnI w8 w7.heap.size (some ⟨b, 0, none⟩) cb St) := ho
                    have h6 := H2.out w8 HBW8.out
                    have g0 := (HS7.out.keepB HB8.out).cell
                    obtain ⟨e0, e1⟩ := cell2s h6
                    have f0 := frozen_of_cells h6 0
                    have f1 := frozen_of_cells h6 1
                    have H6 := Lib.hid h6
                    clear h6 hb8 ho)
    all_goals
      go_wp2
      refine bodyPost_ret (results_cell_tmp rfl _ _ (w.heap.size + 1) _ #[.int .i64 Sx, .slice (some ⟨b, 0, none⟩) St.length cb] (0, 0) _ rfl (set2s H6.out) Try.underlying26 rfl (by kernel_rfl)) rfl ?_
      rw [HR.out]
      have hs5 := HS8.out
      refine ⟨some ⟨b, 0, none⟩, cb, rfl, ((own_atS HO.out (fun y hy => set2s_ne ?_)).kept (fun _ _ _ => rfl)).less (by omega), below_set2s (HB.out.trans (HBW8.out.mono HB.out.size)) (by omega) _ _⟩
      have := own_blkS HO.out hy; omega

set_option maxRecDepth 20000 in
set_option maxHeartbeats 2000000 in
theorem pall_any (al ak : Option Addr) (ll cl lk ck : Nat) (L : List Ls) (K : List Int) (w : World) (hl : LsAt w al L) (hk : IntsAt w ak K) (hzl : L.length = ll) (hzk : K.length = lk) (hlm : ll ≤ maxLen) (hkm : lk ≤ maxLen) :
    Calls Try.prog 28 #[.slice al ll cl, .slice ak lk ck] w (NewIntsN (allR L K).1 (allR L K).2 w) := by
  have HLB : Hid (∀ U, Below w.heap.size w U → LsAt U al L) := fun U hU => hl.keepB hU (Nat.le_refl _)
  have HKB : Hid (∀ U, Below w.heap.size w U → IntsAt U ak K) := fun U hU => hk.keepB hU (Nat.le_refl _)
  have HZL := Lib.hid hzl
  have HZK := Lib.hid hzk
  have HLM := Lib.hid hlm
  have HKM := Lib.hid hkm
  clear hl hk hzl hzk hlm hkm
  cases hv : (lvB L && kyB K)
  · have HR := Lib.hid (allR_bad (L := L) (K := K) (by simp only [allOk, hv]))
    have HV := Lib.hid hv
    clear hv
    go_enter Try.func28, Try.ntmps28
    go_wp2_with fail
    refine (pcan_as false al ak ll cl lk ck L K w (HLB.out w (Below.refl _ _)) (HKB.out w (Below.refl _ _)) HZL.out HZK.out HLM.out HKM.out HV.out).mono ?_
    rintro e w2 ⟨rfl, hb2⟩
    have HB2 := Lib.hid hb2
    clear hb2
    go_wp2
    go_ret2
    rw [HR.out]
    exact ⟨some ⟨w2.heap.size, 0, none⟩, 0, rfl, own_empty (heap_alloc_new w2 _) HB2.out.size, HB2.out.alloc HB2.out.size _⟩
  obtain ⟨hv1, hk⟩ : lvB L = true ∧ kyB K = true := by rw [← Bool.and_eq_true]; exact hv
  have HR := Lib.hid (allR_ok (L := L) (K := K) (by simp only [allOk, hv]))
  have HV := Lib.hid hv
  have HV1 := Lib.hid hv1
  have HK := Lib.hid hk
  clear hv hv1 hk
  go_enter Try.func28, Try.ntmps28
  go_wp2_with fail
  refine (pcan_as true al ak ll cl lk ck L K w (HLB.out w (Below.refl _ _)) (HKB.out w (Below.refl _ _)) HZL.out HZK.out HLM.out HKM.out HV.out).mono ?_
  rintro e w3 ⟨rfl, hb3⟩
  have HB3 := Lib.hid hb3
  clear hb3
  obtain ⟨V, hV⟩ : ∃ V, V = w3.alloc (.cells #[.int .i64 0, .pointer none] 74) := ⟨_, rfl⟩
  have hg : V.heap[w3.heap.size]? = some (.cells #[.int .i64 0, .pointer none] 74 (0, 0)) := by rw [hV]; exact heap_alloc_new w3 _
  have HS0 : Hid (SgAt V w3.heap.size (runS L K 0).x (runS L K 0).t) := ⟨none, hg, rfl⟩
  have HBV : Hid (Below w.heap.size w V) := by rw [hV]; exact HB3.out.alloc HB3.out.size _
  have c00 := (cell2s hg).1
  have HG := Lib.hid HB3.out.size
  have HV3 := Lib.hid hV
  clear hV hg
  go_wp2_with fail
  rw [← HV3.out]
  go_wp2
  go_loopw [7] (fun nv wr => ∃ m : Nat, nv = .int .i64 m ∧ Hid (∀ j, j < m → posN L j < 64) ∧ SgAt wr w3.heap.size (runS L K m).x (runS L K m).t ∧ Below w3.heap.size V wr) (fun nv _ => 65 - (intOf nv).toNat)
  case atStart => exact ⟨0, rfl, fun j hj => by omega, HS0.out, Below.refl _ _⟩
  case round =>
    obtain ⟨m, rfl, HP, hs, hb⟩ := hrel
    have hbd := pos_bd HV1.out HP.out
    have hml : m ≤ 64 := by omega
    have HSR := Lib.hid hs
    have HBR := Lib.hid (HBV.out.trans (hb.mono HG.out))
    have HBV2 := Lib.hid hb
    have hle : (runS L K m).t.length ≤ 64 := sc_len (run_ok HV1.out HK.out HP.out)
    have HX := Lib.hid (runS_x L K m)
    have HSS : Hid (runS L K (m + 1) = stS L K (runS L K m)) := rfl
    have c0 := hs.cell
    obtain ⟨S, hS⟩ : ∃ S, S = runS L K m := ⟨_, rfl⟩
    rw [← hS] at hle HX HSS HSR c0
    obtain ⟨x, ts⟩ := S
    simp only at c0 hle
    have hxe : x = posN L m := HX.out
    have HT2 : Hid (ts = (runS L K m).t) := by show ts = _; rw [← hS]
    clear hs hb hS c00
    by_cases hlt : x < 64
    · have HP2 : Hid (∀ j, j < m + 1 → posN L j < 64) := fun j hj => by
        rcases Nat.lt_or_ge j m with h' | h'
        · exact HP.out j h'
        · obtain rfl : j = m := by omega
          omega
      have hbd2 := pos_bd HV1.out HP2.out
      have hm2 : m + 1 ≤ 64 := by omega
      have hx0 : 0 ≤ x := by omega
      clear hxe hbd hbd2
      go_wp2_with fail
      refine (pstep1_any w3.heap.size al ak ll cl lk ck L K x ts wr HSR.out (HLB.out wr HBR.out) (fun U hU => HKB.out U (HBR.out.trans (hU.mono HG.out))) HZL.out HZK.out HV1.out HKM.out hx0 hlt).mono ?_
      rintro e w5 ⟨rfl, hs5, hb5⟩
      have HS5 : Hid (SgAt w5 w3.heap.size (stS L K ⟨x, ts⟩).x (stS L K ⟨x, ts⟩).t) := hs5
      have HB5 := Lib.hid (HBV2.out.trans hb5)
      clear hs5 hb5 c0
      go_wp2
      go_roundw
      case rel => exact ⟨m + 1, by go_num, HP2, by rw [HSS.out]; exact HS5.out, HB5.out⟩
      case measure => simp [intOf]; omega
    · have hn : allN L = m := allN_eq HV1.out HP.out (by omega)
      have hk : ts = K := by
        have h := all_told HV1.out HK.out
        rw [hn] at h
        rw [HT2.out]; exact h
      have HN := Lib.hid hn
      have HE := Lib.hid hk
      clear hxe hn hk
      go_wp2_with fail
      refine (ptold_any w3.heap.size x ts wr HSR.out (by omega)).mono ?_
      rintro e w5 ⟨b, cb, rfl, ho, hb5⟩
      have HO := Lib.hid ho
      have HB5 := Lib.hid (HBR.out.trans (hb5.mono HBR.out.size))
      clear ho hb5 c0
      go_wp2
      go_ret2
      rw [HR.out, HN.out]
      have ho := HO.out
      rw [HE.out] at ho
      refine ⟨some ⟨b, 0, none⟩, cb, ?_, ho.less HBR.out.size, HB5.out⟩
      show _ = Ending.returned (.tuple #[.slice _ K.length cb, .int .i64 (m : Int)])
      rw [HE.out]; rfl
end Go.Proofs.Ytenhaccdiamagaa
