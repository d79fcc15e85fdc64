/- The walk of the law that a scan is a sequence of steps. -/
import Derived.Test.YtenhaccdiamagaaLawsSc
namespace Go.Proofs.Ytenhaccdiamagaa
open Go.RowKit
set_option linter.unusedVariables false
attribute [local go_sem ↓] Go.wp_at_zero Go.wp_at_succ

set_option maxRecDepth 20000 in
set_option maxHeartbeats 4000000 in
theorem scanSteps (s : Option Addr) (len cap : Nat) (z : List Int) (w : World) (h : RowIn .u8 w s len cap z) :
    Calls Try.prog 8 #[.slice s len cap] w fun e w' => e = .returned (.bool true) ∧ Below w.heap.size w w' := by
  have hb := bytes_of_row h
  have hm : len ≤ maxLen := Nat.le_trans hb.1 hb.2.1
  unfold maxLen at hm
  clear h
  by_cases hl : 1048576 < len
  · go_enter Try.func8, Try.ntmps8
    go_wp2
    go_ret
    exact ⟨rfl, Below.refl _ _⟩
  have hlB : decide ((1048576 : Int) < (len : Int)) = false := by simp; omega
  have HY := Lib.hid hb
  clear hb
  go_enter Try.func8, Try.ntmps8
  go_wp2_with fail
  refine (drawLK s len cap w HY.out).mono ?_
  rintro e w1 ⟨gl, cl, L, gk, ck, K, rfl, hll, ho, hkd, hkl, hko, hb1⟩
  have HO := Lib.hid ho
  have HKO := Lib.hid hko
  have HB1 := Lib.hid hb1
  have HLM := Lib.hid (len_max hll (by omega))
  have HKM := Lib.hid (len_max hkl (by omega))
  have HKS := Lib.hid (Nat.le_trans hkl (show 65 ≤ 1048576 by omega))
  clear ho hkd hko hb1
  obtain ⟨Z, hZ⟩ : ∃ Z, Z = (allR L K).1 := ⟨_, rfl⟩
  obtain ⟨n, hn⟩ : ∃ n, n = (allR L K).2 := ⟨_, rfl⟩
  have HR : Hid (allR L K = (Z, n)) := by show _ = _; rw [hZ, hn]
  have HZS : Hid (Z.length ≤ 1048576) := by show _ ≤ _; rw [hZ]; have := allR_len L K; omega
  have HN : Hid (n < 0 ∨ (Z = K ∧ n = ((allN L : Nat) : Int) ∧ allOk L K = true)) := by
    show _ ∨ _
    rw [hZ, hn]
    cases hk : allOk L K
    · rw [allR_bad hk]; exact .inl (by decide)
    · rw [allR_ok hk]
      exact .inr ⟨rfl, rfl, rfl⟩
  have q1 : (n != n) = false := by simp
  clear hZ hn
  go_wp2_with fail
  refine (pall_as Z n _ _ _ _ _ _ L K w1 HO.out.ls (own_intsS HKO.out) rfl rfl HLM.out HKM.out HR.out).mono ?_
  rintro e w2 ⟨aG, cG, rfl, hog, hb2⟩
  have HG := Lib.hid hog
  have HB2 := Lib.hid (HB1.out.trans (hb2.mono HB1.out.size))
  have HO2 := Lib.hid (HO.out.keepB hb2 (Nat.le_refl _))
  have HKO2 := Lib.hid (HKO.out.keepB hb2 (Nat.le_refl _))
  clear hog hb2
  go_wp2_with fail
  refine (sall_as Z n _ _ _ _ _ _ L K w2 HO2.out.ls (own_intsS HKO2.out) rfl rfl HLM.out HKM.out HR.out).mono ?_
  rintro e w3 ⟨aS, cS, rfl, hos, hb3⟩
  have HS := Lib.hid hos
  have HB3 := Lib.hid (HB2.out.trans (hb3.mono HB2.out.size))
  have HG3 := Lib.hid (HG.out.keepB hb3 (Nat.le_refl _))
  have HKO3 := Lib.hid (HKO2.out.keepB hb3 (Nat.le_refl _))
  have HLS3 := Lib.hid (HO2.out.keepB hb3 (Nat.le_refl _))
  clear hos hb3
  go_wp2_with fail
  refine (sameI_as _ _ _ _ _ Z w3 (own_intsS HG3.out) (own_intsS HS.out) rfl HZS.out w3.heap.size).mono ?_
  rintro e w4 ⟨rfl, hb4⟩
  have HB4 := Lib.hid (HB3.out.trans (hb4.mono HB3.out.size))
  have HG4 := Lib.hid (HG3.out.keepB hb4 (Nat.le_refl _))
  have HS4 := Lib.hid (HS.out.keepB hb4 (Nat.le_refl _))
  have HKO4 := Lib.hid (HKO3.out.keepB hb4 (Nat.le_refl _))
  have HLS4 := Lib.hid (HLS3.out.keepB hb4 (Nat.le_refl _))
  clear hb4
  by_cases hn : n < 0
  · have q2 : decide (n < 0) = true := by simp [hn]
    have q3 : (n == n) = true := by simp
    go_wp2_with fail
    refine (sameI_as _ _ _ _ _ Z w4 (own_intsS HG4.out) (own_intsS HS4.out) rfl HZS.out w4.heap.size).mono ?_
    rintro e w5 ⟨rfl, hb5⟩
    have HB5 := Lib.hid (HB4.out.trans (hb5.mono HB4.out.size))
    clear hb5
    go_wp2
    go_ret
    exact ⟨rfl, HB5.out⟩
  · obtain ⟨hZ, hnn, hao⟩ := HN.out.resolve_left hn
    have q2 : decide (n < 0) = false := by simp [hn]
    go_wp2_with (fail)
    clear q1 q2 hn
    subst hZ
    subst hnn
    obtain ⟨hlv, hky⟩ := (allOk_iff _ _).1 hao
    have HV := Lib.hid hlv
    have HK := Lib.hid hky
    obtain ⟨h64, hall⟩ := allN_is hlv
    have hN64 := (allN_le hlv).2.2
    have HTOLD := Lib.hid (all_told hlv hky)
    obtain ⟨N, hNN⟩ : ∃ N, N = allN L := ⟨_, rfl⟩
    rw [← hNN] at h64 hall hN64 HTOLD ⊢
    have H64 := Lib.hid h64
    have HPN := Lib.hid hall
    have HLB : Hid (∀ U, Below w4.heap.size w4 U → LsAt U (some ⟨gl, 0, none⟩) L) := fun U hU => (HLS4.out.keepB hU (Nat.le_refl _)).ls
    have HKB : Hid (∀ U, Below w4.heap.size w4 U → IntsAt U (some ⟨gk, 0, none⟩) Z) := fun U hU => own_intsS (HKO4.out.keepB hU (Nat.le_refl _))
    have HGB : Hid (∀ U, Below w4.heap.size w4 U → IntsAt U aG Z) := fun U hU => own_intsS (HG4.out.keepB hU (Nat.le_refl _))
    obtain ⟨g, hg⟩ : ∃ g, g = w4.heap.size := ⟨_, rfl⟩
    have HI0 : Hid (ScIn g w4 (w4.alloc (.cells #[.int .i64 0, .slice none 0 0] 26)) (runS L Z 0)) := by
      show ScIn _ _ _ _
      rw [hg]
      exact ⟨⟨none, 0, heap_alloc_new w4 _, own_nil0 _ _, fun y hy => by cases hy⟩, alB w4 _, by simp⟩
    have HGE : Hid (w4.heap.size ≤ g) := by show _ ≤ _; omega
    rw [← hg]
    clear hlv hky h64 hall hNN hg hao
    go_loopw [10] (fun i wr => ∃ j : Nat, j ≤ N ∧ i = .int .i64 j ∧ ScIn g w4 wr (runS L Z j)) (fun i _ => N - (intOf i).toNat)
    case atStart => exact ⟨0, by omega, rfl, HI0.out⟩
    case round =>
      obtain ⟨j, hj, rfl, hin⟩ := hrel
      have HIN := Lib.hid hin
      have HPj : Hid (∀ i, i < j → posN L i < 64) := fun i hi => HPN.out i (by omega)
      have HRO := Lib.hid (run_ok HV.out HK.out HPj.out)
      have HX := Lib.hid (runS_x L Z j)
      have HSS : Hid (runS L Z (j + 1) = stS L Z (runS L Z j)) := rfl
      have HTN : Hid (j = N → (runS L Z j).t = Z) := fun h => by rw [h]; exact HTOLD.out
      obtain ⟨a0, c0, h1, h2, h3⟩ := hin.sc
      obtain ⟨S, hS⟩ : ∃ S, S = runS L Z j := ⟨_, rfl⟩
      rw [← hS] at h1 h2 HIN HX HSS HRO HTN
      obtain ⟨x, ts⟩ := S
      simp only at h1 h2
      have hle : ts.length ≤ 64 := sc_len HRO.out
      have hxe : x = posN L j := HX.out
      obtain ⟨e0, e1⟩ := cell2s h1
      have HO := Lib.hid h2
      have HBW := Lib.hid hin.below
      obtain ⟨t, ht⟩ : ∃ t, ts.length = t := ⟨_, rfl⟩
      rw [ht] at e1 hle
      have HTL := Lib.hid ht
      have HNM := Lib.hid (len_max hle (by omega))
      have j0 : (0 : Int) ≤ (j : Int) := by omega
      clear h1 h2 h3 hS hin HI0 ht
      by_cases hlt : j < N
      · have hx64 : x < 64 := by rw [hxe]; exact HPN.out j hlt
        have j1 : (j : Int) < (N : Int) := by omega
        obtain ⟨S', hS'⟩ : ∃ S', S' = stS L Z ⟨x, ts⟩ := ⟨_, rfl⟩
        have HST : Hid (stR L Z ⟨x, ts⟩ = (S', true)) := by
          show _ = _
          rw [hS']
          exact stR_yes ((stOk_iff _ _ _).2 ⟨HV.out, HK.out, HRO.out⟩) (by show ¬ x = 64; omega)
        rw [← hS'] at HSS
        clear hxe hS'
        go_wp2_with fail
        refine (pstep_as S' true _ _ a0 _ _ _ _ t c0 L Z ⟨x, ts⟩ wr (HLB.out wr HBW.out) (HKB.out wr HBW.out) (own_intsS HO.out) rfl rfl HTL.out HLM.out HKM.out HNM.out HST.out).mono ?_
        rintro e w5 ⟨a5, c5, rfl, ho5, hb5⟩
        have HS5 : Hid (∀ o, ScIn g w4 (((w5.alloc o).setCell ⟨g, 0, none⟩ (.int .i64 S'.x)).setCell ⟨g, 1, none⟩ (.slice a5 S'.t.length c5)) S') := fun o => scIn_set HIN.out HGE.out (ho5.keepB (alB w5 o) (Nat.le_refl _)) (hb5.alloc hb5.size o)
        obtain ⟨a9, c9, h9, _, _⟩ := HIN.out.sc
        have h6 : ∀ o, (w5.alloc o).heap[g]? = some (.cells #[.int .i64 x, .slice a9 ts.length c9] 26 (0, 0)) := fun o => ((hb5.alloc hb5.size o).block g HIN.out.lt).trans h9
        clear e0 e1
        have e0 : ∀ o, (w5.alloc o).cell? ⟨g, 0, none⟩ = some (.int .i64 x) := fun o => (cell2s (h6 o)).1
        have e1 : ∀ o, (w5.alloc o).cell? ⟨g, 1, none⟩ = some (.slice a9 ts.length c9) := fun o => (cell2s (h6 o)).2
        have f0 : ∀ o, (w5.alloc o).frozen? ⟨g, 0, none⟩ = false := fun o => frozen_of_cells (h6 o) 0
        have f1 : ∀ o, (w5.alloc o).frozen? ⟨g, 1, none⟩ = false := fun o => frozen_of_cells (h6 o) 1
        clear h6 h9 ho5 hb5
        go_wp2
        go_roundw
        case rel => exact ⟨j + 1, by omega, by go_num, by rw [HSS.out]; exact HS5.out _⟩
        case measure => simp [intOf]; omega
      · obtain rfl : j = N := by omega
        have hx : x = 64 := by rw [hxe]; exact H64.out
        have hts : ts = Z := HTN.out rfl
        have HD : Hid (doneB ⟨x, ts⟩ = true) := by show _ = _; unfold doneB; rw [HRO.out, hx]; rfl
        have HTZ := Lib.hid hts
        clear hx hxe hts
        go_wp2_with fail
        refine (pdone_as true a0 t c0 ⟨x, ts⟩ wr (own_intsS HO.out) HTL.out HNM.out HD.out).mono ?_
        rintro e w5 ⟨rfl, hb5⟩
        have HB5 := Lib.hid (HBW.out.trans (hb5.mono HBW.out.size))
        obtain ⟨a9, c9, h9, h10, _⟩ := HIN.out.sc
        have h6 := (hb5.block g HIN.out.lt).trans h9
        have HI5 : Hid (IntsAt w5 a9 Z) := by
          show IntsAt _ _ _
          have := own_intsS (h10.keepB hb5 (Nat.le_refl _))
          rw [← HTZ.out]; exact this
        have hzt : Z.length = t := by rw [← HTZ.out]; exact HTL.out
        rw [HTL.out] at h6
        rw [hzt]
        have HZT := Lib.hid hzt
        clear e0 e1 h9 h10
        obtain ⟨e0, e1⟩ := cell2s h6
        clear h6 hzt hb5
        go_wp2_with fail
        refine (sameI_as a9 aG t _ _ Z w5 HI5.out (HGB.out w5 HB5.out) HZT.out (by omega) w5.heap.size).mono ?_
        rintro e w6 ⟨rfl, hb6⟩
        have HB6 := Lib.hid (HB4.out.trans ((HB5.out.trans (hb6.mono HB5.out.size)).mono HB4.out.size))
        clear e0 e1 hb6
        go_wp2
        go_ret
        exact ⟨rfl, HB6.out⟩

end Go.Proofs.Ytenhaccdiamagaa
