/- The walks of the laws of scans: whole ones, valid ones, complete ones. -/
import Derived.Test.YtenhaccdiamagaaExactScA
import Derived.Test.YtenhaccdiamagaaScDraw3
import Derived.Test.YtenhaccdiamagaaDrawL
namespace Go.Proofs.Ytenhaccdiamagaa
open Go.RowKit
set_option linter.unusedVariables false
attribute [local go_sem ↓] Go.wp_at_zero Go.wp_at_succ

theorem sameI_as (a1 a2 : Option Addr) (len cap1 cap2 : Nat) (zs : List Int) (w : World) (h1 : IntsAt w a1 zs) (h2 : IntsAt w a2 zs) (hz : zs.length = len) (hm : len ≤ 1048576) (B : Nat) :
    Calls Try.prog 20 #[.slice a1 len cap1, .slice a2 len cap2] w fun e w' => e = .returned (.bool true) ∧ Below B w w' :=
  (sameI_any a1 a2 len cap1 cap2 zs w h1 h2 hz hm).mono (by rintro e w' ⟨rfl, hs⟩; exact ⟨rfl, hs.below _⟩)
theorem pstep_as (s' : Sc) (v : Bool) (al ak at_ : Option Addr) (ll cl lk ck n ct : Nat) (L : List Ls) (K : List Int) (s : Sc) (w : World) (hl : LsAt w al L) (hk : IntsAt w ak K) (ht : IntsAt w at_ s.t) (hzl : L.length = ll) (hzk : K.length = lk) (hzt : s.t.length = n) (hlm : ll ≤ maxLen) (hkm : lk ≤ maxLen) (hnm : n ≤ maxLen) (he : stR L K s = (s', v)) :
    Calls Try.prog 16 #[.slice al ll cl, .slice ak lk ck, .agg #[.int .i64 s.x, .slice at_ n ct]] w (NewScB s' v w) := by
  have := pstep_any al ak at_ ll cl lk ck n ct L K s w hl hk ht hzl hzk hzt hlm hkm hnm; rw [he] at this; exact this
theorem sstep_as2 (s' : Sc) (v : Bool) (al ak at_ : Option Addr) (ll cl lk ck n ct : Nat) (L : List Ls) (K : List Int) (s : Sc) (w : World) (hl : LsAt w al L) (hk : IntsAt w ak K) (ht : IntsAt w at_ s.t) (hzl : L.length = ll) (hzk : K.length = lk) (hzt : s.t.length = n) (hlm : ll ≤ maxLen) (hkm : lk ≤ maxLen) (hnm : n ≤ maxLen) (he : stR L K s = (s', v)) :
    Calls Try.prog 17 #[.slice al ll cl, .slice ak lk ck, .agg #[.int .i64 s.x, .slice at_ n ct]] w (NewScB s' v w) := by
  have := sstep_any al ak at_ ll cl lk ck n ct L K s w hl hk ht hzl hzk hzt hlm hkm hnm; rw [he] at this; exact this
theorem lvs_as (v : Bool) (a : Option Addr) (len cap : Nat) (L : List Ls) (w : World) (h : LsAt w a L) (hz : L.length = len) (hm : len ≤ maxLen) (hv : lvB L = v) :
    Calls Try.prog 26 #[.slice a len cap] w fun e w' => e = .returned (.bool v) ∧ Below w.heap.size w w' := by subst hv; exact lvs_any a len cap L w h hz hm
theorem len_max {n m : Nat} (h : n ≤ m) (hm : m ≤ 1000) : n ≤ maxLen := by unfold maxLen; omega

set_option maxRecDepth 20000 in
set_option maxHeartbeats 4000000 in
theorem scanAll (s : Option Addr) (len cap : Nat) (z : List Int) (w : World) (h : RowIn .u8 w s len cap z) :
    Calls Try.prog 7 #[.slice s len cap] w fun e w' => e = .returned (.bool true) ∧ Below w.heap.size w w' := by
  have hb := bytes_of_row h
  have hm : len ≤ maxLen := Nat.le_trans hb.1 hb.2.1
  unfold maxLen at hm
  clear h
  by_cases hl : 1048576 < len
  · go_enter Try.func7, Try.ntmps7
    go_wp2
    go_ret
    exact ⟨rfl, Below.refl _ _⟩
  have hlB : decide ((1048576 : Int) < (len : Int)) = false := by simp; omega
  have HY := Lib.hid hb
  clear hb
  go_enter Try.func7, Try.ntmps7
  go_wp2_with fail
  refine (drawLK s len cap w HY.out).mono ?_
  rintro e w1 ⟨gl, cl, L, gk, ck, K, rfl, hll, ho, hkd, hkl, hko, hb1⟩
  have HO := Lib.hid ho
  have HKO := Lib.hid hko
  have HB1 := Lib.hid hb1
  have HLM := Lib.hid (len_max hll (by omega))
  have HKM := Lib.hid (len_max hkl (by omega))
  have HKS := Lib.hid (Nat.le_trans hkl (show 65 ≤ 1048576 by omega))
  clear ho hkd hko hb1
  obtain ⟨Z, hZ⟩ : ∃ Z, Z = (allR L K).1 := ⟨_, rfl⟩
  obtain ⟨n, hn⟩ : ∃ n, n = (allR L K).2 := ⟨_, rfl⟩
  have HR : Hid (allR L K = (Z, n)) := by show _ = _; rw [hZ, hn]
  have HZS : Hid (Z.length ≤ 1048576) := by show _ ≤ _; rw [hZ]; have := allR_len L K; omega
  have HN : Hid (n < 0 ∨ (Z = K ∧ 1 ≤ n ∧ n ≤ (L.length : Int) + 1)) := by
    show _ ∨ _
    rw [hZ, hn]
    cases hk : allOk L K
    · rw [allR_bad hk]; exact .inl (by decide)
    · rw [allR_ok hk]
      have h1 := allN_le ((allOk_iff _ _).1 hk).1
      exact .inr ⟨rfl, by show (1 : Int) ≤ ((allN L : Nat) : Int); omega, by show ((allN L : Nat) : Int) ≤ _; omega⟩
  have q1 : (n != n) = false := by simp
  clear hZ hn
  go_wp2_with fail
  refine (pall_as Z n _ _ _ _ _ _ L K w1 HO.out.ls (own_intsS HKO.out) rfl rfl HLM.out HKM.out HR.out).mono ?_
  rintro e w2 ⟨aG, cG, rfl, hog, hb2⟩
  have HG := Lib.hid hog
  have HB2 := Lib.hid (HB1.out.trans (hb2.mono HB1.out.size))
  have HO2 := Lib.hid (HO.out.keepB hb2 (Nat.le_refl _))
  have HKO2 := Lib.hid (HKO.out.keepB hb2 (Nat.le_refl _))
  clear hog hb2
  go_wp2_with fail
  refine (sall_as Z n _ _ _ _ _ _ L K w2 HO2.out.ls (own_intsS HKO2.out) rfl rfl HLM.out HKM.out HR.out).mono ?_
  rintro e w3 ⟨aS, cS, rfl, hos, hb3⟩
  have HS := Lib.hid hos
  have HB3 := Lib.hid (HB2.out.trans (hb3.mono HB2.out.size))
  have HG3 := Lib.hid (HG.out.keepB hb3 (Nat.le_refl _))
  have HKO3 := Lib.hid (HKO2.out.keepB hb3 (Nat.le_refl _))
  clear hos hb3
  go_wp2_with fail
  refine (sameI_as _ _ _ _ _ Z w3 (own_intsS HG3.out) (own_intsS HS.out) rfl HZS.out w3.heap.size).mono ?_
  rintro e w4 ⟨rfl, hb4⟩
  have HB4 := Lib.hid (HB3.out.trans (hb4.mono HB3.out.size))
  have HG4 := Lib.hid (HG3.out.keepB hb4 (Nat.le_refl _))
  have HS4 := Lib.hid (HS.out.keepB hb4 (Nat.le_refl _))
  have HKO4 := Lib.hid (HKO3.out.keepB hb4 (Nat.le_refl _))
  clear hb4
  by_cases hn : n < 0
  · have q2 : decide (n < 0) = true := by simp [hn]
    have q3 : (n == n) = true := by simp
    go_wp2_with fail
    refine (sameI_as _ _ _ _ _ Z w4 (own_intsS HG4.out) (own_intsS HS4.out) rfl HZS.out w4.heap.size).mono ?_
    rintro e w5 ⟨rfl, hb5⟩
    have HB5 := Lib.hid (HB4.out.trans (hb5.mono HB4.out.size))
    clear hb5
    go_wp2
    go_ret
    exact ⟨rfl, HB5.out⟩
  · have q2 : decide (n < 0) = false := by simp [hn]
    obtain ⟨hZ, h1, h2⟩ := HN.out.resolve_left hn
    subst hZ
    have q4 : decide (n ≤ (L.length : Int) + 1) = true := by simp; omega
    have q5 : decide (1 ≤ n) = true := by simp; omega
    go_wp2_with fail
    refine (sameI_as _ _ _ _ _ Z w4 (own_intsS HG4.out) (own_intsS HKO4.out) rfl HZS.out w4.heap.size).mono ?_
    rintro e w5 ⟨rfl, hb5⟩
    have HB5 := Lib.hid (HB4.out.trans (hb5.mono HB4.out.size))
    clear hb5
    go_wp2
    go_ret
    exact ⟨rfl, HB5.out⟩

set_option maxRecDepth 20000 in
set_option maxHeartbeats 4000000 in
theorem scanValid (s : Option Addr) (len cap : Nat) (z : List Int) (w : World) (h : RowIn .u8 w s len cap z) :
    Calls Try.prog 10 #[.slice s len cap] w fun e w' => e = .returned (.bool true) ∧ Below w.heap.size w w' := by
  have hb := bytes_of_row h
  have hm : len ≤ maxLen := Nat.le_trans hb.1 hb.2.1
  unfold maxLen at hm
  clear h
  by_cases hl : 1048576 < len
  · go_enter Try.func10, Try.ntmps10
    go_wp2
    go_ret
    exact ⟨rfl, Below.refl _ _⟩
  have hlB : decide ((1048576 : Int) < (len : Int)) = false := by simp; omega
  have HY := Lib.hid hb
  clear hb
  go_enter Try.func10, Try.ntmps10
  go_wp2_with fail
  refine (drawSv s len cap w HY.out).mono ?_
  rintro e w0 ⟨b, cb, S, rfl, hxb, htl, hso, hb0⟩
  obtain ⟨w1, hw1⟩ : ∃ w1, w1 = w0.alloc (.cells #[.int .i64 S.x, .slice (some ⟨b, 0, none⟩) S.t.length cb] 26) := ⟨_, rfl⟩
  have hst : StSc w1 w0.heap.size (some ⟨b, 0, none⟩) cb S := by rw [hw1]; exact stsc_new
  have HKS : Hid (∀ W, Below w1.heap.size w1 W → StSc W w0.heap.size (some ⟨b, 0, none⟩) cb S) := fun W hW => stsc_keep hst (hW.block _ (by rw [hw1]; simp))
  have HSO : Hid (∀ W, Below w1.heap.size w1 W → OwnI W w.heap.size (some ⟨b, 0, none⟩) cb S.t) := fun W hW => (hso.keepB (by rw [hw1]; exact alB w0 _) (Nat.le_refl _)).keepB hW (Nat.le_refl _)
  have HB1 : Hid (Below w.heap.size w w1) := by show Below _ _ _; rw [hw1]; exact hb0.alloc hb0.size _
  have HW1 := Lib.hid hw1
  have HNM := Lib.hid (len_max htl (by omega))
  have HTS := Lib.hid (Nat.le_trans htl (show 66 ≤ 1048576 by omega))
  obtain ⟨c0, c1⟩ := hst
  clear hso hb0 hw1
  go_wp2_with fail
  rw [← HW1.out]
  obtain ⟨V, hV⟩ : ∃ V, V = scB S := ⟨_, rfl⟩
  have HV := Lib.hid hV.symm
  have q1 : (V != V) = false := by cases V <;> rfl
  have q2 : (V == V) = true := by cases V <;> rfl
  clear hV
  refine (pscv_as V _ _ _ S w1 (own_intsS (HSO.out _ (Below.refl _ _))) rfl HNM.out HV.out).mono ?_
  rintro e w2 ⟨rfl, hb2⟩
  have HK2 := Lib.hid hb2
  clear c0 c1 hb2
  obtain ⟨c0, c1⟩ := HKS.out w2 HK2.out
  go_wp2_with fail
  refine (sscv_as V _ _ _ S w2 (own_intsS (HSO.out _ HK2.out)) rfl HNM.out HV.out).mono ?_
  rintro e w3 ⟨rfl, hb3⟩
  have HK3 := Lib.hid (HK2.out.trans (hb3.mono HK2.out.size))
  clear c0 c1 hb3
  have hc3 := HKS.out w3 HK3.out
  cases V
  · clear hc3
    go_wp2
    go_ret
    exact ⟨rfl, HB1.out.trans (HK3.out.mono HB1.out.size)⟩
  obtain ⟨h1, h2, h3⟩ := (scB_iff S).1 HV.out
  obtain ⟨c0, c1⟩ := hc3
  have H1 := Lib.hid h1
  have H3 := Lib.hid h3
  have q3 : decide (S.x ≤ 64) = true := by simp; omega
  have HI3 := Lib.hid (own_intsS (HSO.out _ HK3.out))
  obtain ⟨n, hn⟩ : ∃ n, n = S.t.length := ⟨_, rfl⟩
  rw [← hn] at c1
  have hn66 : n ≤ 66 := by omega
  have HNE := Lib.hid hn
  clear h1 h3 hn htl
  go_wp2
  go_loopw [6] (fun i wr => ∃ k : Nat, k ≤ n ∧ i = .int .i64 k ∧ Same w3 wr) (fun i _ => n - (intOf i).toNat)
  case atStart => exact ⟨0, by omega, rfl, Same.refl _⟩
  case round =>
    obtain ⟨k, hk, rfl, hs⟩ := hrel
    obtain ⟨wo, rfl⟩ : ∃ x, x = wr := ⟨_, rfl⟩
    have hd := HKS.out wo (HK3.out.trans ((hs.below w3.heap.size).mono HK3.out.size))
    obtain ⟨d0, d1⟩ := hd
    rw [← HNE.out] at d1
    have HDR := Lib.hid (HSO.out wo (HK3.out.trans ((hs.below w3.heap.size).mono HK3.out.size)))
    by_cases hlt : k < n
    · have hkt : Hid (k < S.t.length) := by show k < _; rw [← HNE.out]; exact hlt
      obtain ⟨_, hag, hg, hgl, hcell, hfz⟩ := HDR.out.at_ (by have := hkt.out; omega)
      injection hag with hag; injection hag with hag; subst hag
      have x0 := hcell k hkt.out
      have g0 := ky_pt H3.out hkt.out
      have g1 : gt S.t k < S.x := H1.out _ (by rw [gt_get hkt.out]; exact List.getElem_mem _)
      have t0 : decide (gt S.t k < 0) = false := by simp; omega
      have t1 : decide (S.x ≤ gt S.t k) = false := by simp; omega
      have i0 : (0 : Int) ≤ (k : Int) := by omega
      have i1 : (k : Int) < (n : Int) := by omega
      rcases k with _ | k
      · have i2 : decide ((0 : Int) < ((0 : Nat) : Int)) = false := by simp
        clear hcell
        go_wp2
        go_quiet (fail)
        go_wp2
        go_roundw
        case rel => exact ⟨1, by omega, by go_num, hs.drewN _⟩
        case measure => simp [intOf]; omega
      · have y0 := hcell k (by have := hkt.out; omega)
        have g2 := ky_step H3.out hkt.out
        have i2 : decide ((0 : Int) < ((k + 1 : Nat) : Int)) = true := by rw [decide_eq_true_eq]; omega
        have t2 : decide (gt S.t (k + 1) ≤ gt S.t k) = false := by simp; omega
        clear hcell
        go_wp2
        go_quiet (fail)
        go_wp2
        go_roundw
        case rel => exact ⟨k + 1 + 1, by omega, by go_num, hs.drewN _⟩
        case measure => simp [intOf]; omega
    · go_wp2
      go_ret
      exact ⟨rfl, HB1.out.trans ((HK3.out.trans ((hs.below w3.heap.size).mono HK3.out.size)).mono HB1.out.size)⟩

set_option maxRecDepth 20000 in
set_option maxHeartbeats 4000000 in
theorem scanDone (s : Option Addr) (len cap : Nat) (z : List Int) (s2 : Option Addr) (len2 cap2 : Nat) (z2 : List Int) (w : World) (h : RowIn .u8 w s len cap z) (h2 : RowIn .u8 w s2 len2 cap2 z2) :
    Calls Try.prog 6 #[.slice s len cap, .slice s2 len2 cap2] w fun e w' => e = .returned (.bool true) ∧ Below w.heap.size w w' := by
  have hb := bytes_of_row h
  have hm : len ≤ maxLen := Nat.le_trans hb.1 hb.2.1
  unfold maxLen at hm
  clear h
  have hb2 := bytes_of_row h2
  have hm2 : len2 ≤ maxLen := Nat.le_trans hb2.1 hb2.2.1
  unfold maxLen at hm2
  clear h2
  by_cases hl : 1048576 < len
  · go_enter Try.func6, Try.ntmps6
    go_wp2
    go_ret
    exact ⟨rfl, Below.refl _ _⟩
  by_cases hl2 : 1048576 < len2
  · go_enter Try.func6, Try.ntmps6
    go_wp2
    go_ret
    exact ⟨rfl, Below.refl _ _⟩
  have hlB2 : decide ((1048576 : Int) < (len2 : Int)) = false := by simp; omega
  have HY2 := Lib.hid hb2
  clear hb2
  have hlB : decide ((1048576 : Int) < (len : Int)) = false := by simp; omega
  have HY := Lib.hid hb
  clear hb
  go_enter Try.func6, Try.ntmps6
  go_wp2_with fail
  refine (drawSd s len cap w HY.out).mono ?_
  rintro e w0 ⟨b, cb, S, rfl, hxb, htl, hso, hb0⟩
  obtain ⟨w1, hw1⟩ : ∃ w1, w1 = w0.alloc (.cells #[.int .i64 S.x, .slice (some ⟨b, 0, none⟩) S.t.length cb] 26) := ⟨_, rfl⟩
  have hst : StSc w1 w0.heap.size (some ⟨b, 0, none⟩) cb S := by rw [hw1]; exact stsc_new
  have HKS : Hid (∀ W, Below w1.heap.size w1 W → StSc W w0.heap.size (some ⟨b, 0, none⟩) cb S) := fun W hW => stsc_keep hst (hW.block _ (by rw [hw1]; simp))
  have HSO : Hid (∀ W, Below w1.heap.size w1 W → OwnI W w.heap.size (some ⟨b, 0, none⟩) cb S.t) := fun W hW => (hso.keepB (by rw [hw1]; exact alB w0 _) (Nat.le_refl _)).keepB hW (Nat.le_refl _)
  have HB1 : Hid (Below w.heap.size w w1) := by show Below _ _ _; rw [hw1]; exact hb0.alloc hb0.size _
  have HW1 := Lib.hid hw1
  have HNM := Lib.hid (len_max htl (by omega))
  have HTS := Lib.hid (Nat.le_trans htl (show 66 ≤ 1048576 by omega))
  obtain ⟨c0, c1⟩ := hst
  clear hso hb0 hw1
  go_wp2_with fail
  rw [← HW1.out]
  obtain ⟨V, hV⟩ : ∃ V, V = doneB S := ⟨_, rfl⟩
  have HV := Lib.hid hV.symm
  have q1 : (V != V) = false := by cases V <;> rfl
  have q2 : (V == V) = true := by cases V <;> rfl
  clear hV
  refine (pdone_as V _ _ _ S w1 (own_intsS (HSO.out _ (Below.refl _ _))) rfl HNM.out HV.out).mono ?_
  rintro e w2 ⟨rfl, hb2⟩
  have HK2 := Lib.hid hb2
  clear c0 c1 hb2
  obtain ⟨c0, c1⟩ := HKS.out w2 HK2.out
  go_wp2_with fail
  refine (sdone_as V _ _ _ S w2 (own_intsS (HSO.out _ HK2.out)) rfl HNM.out HV.out).mono ?_
  rintro e w3 ⟨rfl, hb3⟩
  have HK3 := Lib.hid (HK2.out.trans (hb3.mono HK2.out.size))
  clear c0 c1 hb3
  have hc3 := HKS.out w3 HK3.out
  cases V
  · clear hc3
    go_wp2
    go_ret
    exact ⟨rfl, HB1.out.trans (HK3.out.mono HB1.out.size)⟩
  obtain ⟨c0, c1⟩ := hc3
  have hdn : scB S = true ∧ S.x = 64 := by have := HV.out; simpa [doneB] using this
  have HDN := Lib.hid hdn
  have HBW3 := Lib.hid (HB1.out.trans (HK3.out.mono HB1.out.size))
  clear hdn
  go_wp2_with fail
  refine (drawLv s2 len2 cap2 w3 (bytes_keepS HY2.out HBW3.out)).mono ?_
  rintro e w4 ⟨gl, cl, L, rfl, hll, ho, hb4⟩
  have HL4 := Lib.hid ho
  have HK4 := Lib.hid (HK3.out.trans (hb4.mono HK3.out.size))
  have HLM := Lib.hid (len_max hll (by omega))
  clear ho hb4 c0 c1
  obtain ⟨W4, hW4⟩ : ∃ W4, W4 = w4.alloc (.cells #[] 3) := ⟨_, rfl⟩
  have HKW4 : Hid (Below w1.heap.size w1 W4) := by show Below _ _ _; rw [hW4]; exact HK4.out.alloc HK4.out.size _
  have HLW4 : Hid (OwnS W4 w3.heap.size gl cl L) := by show OwnS _ _ _ _ _; rw [hW4]; exact HL4.out.keepB (alB w4 _) (Nat.le_refl _)
  have HW4 := Lib.hid hW4
  obtain ⟨c0, c1⟩ := HKS.out W4 HKW4.out
  rw [HW4.out] at c0 c1
  clear hW4
  obtain ⟨S', v, hR⟩ : ∃ S' v, stR L [] S = (S', v) := ⟨_, _, rfl⟩
  have HR := Lib.hid hR
  clear hR
  go_wp2_with fail
  rw [← HW4.out]
  refine (pstep_as S' v _ _ _ _ _ _ _ _ _ L [] S W4 HLW4.out.ls (.inl rfl) (own_intsS (HSO.out _ HKW4.out)) rfl rfl rfl HLM.out (len_max (m := 0) (Nat.le_refl _) (by omega)) HNM.out HR.out).mono ?_
  rintro e w5 ⟨a5, c5, rfl, ho5, hb5⟩
  have HO5 := Lib.hid ho5
  have HK5 := Lib.hid (HKW4.out.trans (hb5.mono HKW4.out.size))
  have HL5 := Lib.hid (HLW4.out.keepB hb5 (Nat.le_refl _))
  clear ho5 hb5 c0 c1
  obtain ⟨w6, hw6⟩ : ∃ w6, w6 = w5.alloc (.cells #[.int .i64 S'.x, .slice a5 S'.t.length c5] 26) := ⟨_, rfl⟩
  have hst6 : StSc w6 w5.heap.size a5 c5 S' := by rw [hw6]; exact stsc_new
  have HKS6 : Hid (∀ W, Below w6.heap.size w6 W → StSc W w5.heap.size a5 c5 S') := fun W hW => stsc_keep hst6 (hW.block _ (by rw [hw6]; simp))
  have HO6 : Hid (OwnI w6 W4.heap.size a5 c5 S'.t) := by show OwnI _ _ _ _ _; rw [hw6]; exact HO5.out.keepB (alB w5 _) (Nat.le_refl _)
  have HL6 : Hid (OwnS w6 w3.heap.size gl cl L) := by show OwnS _ _ _ _ _; rw [hw6]; exact HL5.out.keepB (alB w5 _) (Nat.le_refl _)
  have HK6 : Hid (Below w1.heap.size w1 w6) := by show Below _ _ _; rw [hw6]; exact HK5.out.alloc HK5.out.size _
  have HW6 := Lib.hid hw6
  obtain ⟨c0, c1⟩ := HKS.out w6 HK6.out
  rw [HW6.out] at c0 c1
  clear hw6 hst6
  have q3 : (S.x == 64) = true := by rw [HDN.out.2]; rfl
  cases hv : lvB L
  · have hv0 : v = false := by
      have h := HR.out; rw [stR_bad (by simp only [stOk, hv, Bool.false_and])] at h
      injection h with _ h; exact h.symm
    subst hv0
    have HVL := Lib.hid hv
    clear hv
    go_wp2_with fail
    rw [← HW6.out]
    refine (lvs_as false _ _ _ L w6 HL6.out.ls rfl HLM.out HVL.out).mono ?_
    rintro e w7 ⟨rfl, hb7⟩
    have HK7 := Lib.hid (HK6.out.trans (hb7.mono HK6.out.size))
    clear hb7 c0 c1
    go_wp2
    go_ret
    exact ⟨rfl, HB1.out.trans (HK7.out.mono HB1.out.size)⟩
  · have hvv : S' = S ∧ v = false := by
      have h := HR.out; rw [stR_end ((stOk_iff _ _ _).2 ⟨hv, ky_nil, HDN.out.1⟩) HDN.out.2] at h
      injection h with h1 h2; exact ⟨h1.symm, h2.symm⟩
    obtain ⟨hvs, hv0⟩ := hvv
    subst hv0
    subst hvs
    have HVL := Lib.hid hv
    clear hv
    go_wp2_with fail
    rw [← HW6.out]
    refine (lvs_as true _ _ _ L w6 HL6.out.ls rfl HLM.out HVL.out).mono ?_
    rintro e w7 ⟨rfl, hb7⟩
    have HK7 := Lib.hid (HK6.out.trans (hb7.mono HK6.out.size))
    have HO7 := Lib.hid (HO6.out.keepB hb7 (Nat.le_refl _))
    clear c0 c1
    obtain ⟨c0, c1⟩ := HKS.out w7 HK7.out
    obtain ⟨d0, d1⟩ := HKS6.out w7 hb7
    clear hb7
    go_wp2_with fail
    refine (sameSc_any a5 _ c5 _ S' w7 (own_intsS HO7.out) (own_intsS (HSO.out _ HK7.out)) HTS.out).mono ?_
    rintro e w8 ⟨rfl, hb8⟩
    have HK8 := Lib.hid (HK7.out.trans (hb8.mono HK7.out.size))
    clear hb8 c0 c1 d0 d1
    go_wp2
    go_ret
    exact ⟨rfl, HB1.out.trans (HK8.out.mono HB1.out.size)⟩

end Go.Proofs.Ytenhaccdiamagaa
