/- The walk of the law that a scan misses no key while ranges move. -/
import Derived.Test.YtenhaccdiamagaaLawsScB
namespace Go.Proofs.Ytenhaccdiamagaa
open Go.RowKit
set_option linter.unusedVariables false
attribute [local go_sem ↓] Go.wp_at_zero Go.wp_at_succ

theorem ky_of {J : List Int} (h1 : KyD J) (h2 : J.length = 0 ∨ ptB (gt J (J.length - 1)) = true) (h3 : ∀ j, j + 1 < J.length → gt J j < gt J (j + 1)) : kyB J = true := by
  refine asc_all.2 fun k hk => okAt_iff.2 ⟨?_, ?_⟩
  · rcases Nat.lt_or_ge (k + 1) J.length with h | h
    · exact h1 k h
    · rcases h2 with h2 | h2
      · omega
      · rw [show J.length - 1 = k by omega] at h2; exact (ptB_iff _).1 h2
  · rcases k with _ | k
    · exact .inl rfl
    · exact .inr (h3 k hk)
theorem lhas_as (v : Bool) (a : Option Addr) (len cap : Nat) (zs : List Int) (n : Int) (w : World) (h : IntsAt w a zs) (hz : zs.length = len) (hm : len ≤ maxLen) (hv : hasB zs n = v) :
    Calls Try.prog 32 #[.slice a len cap, .int .i64 n] w fun e w' => e = .returned (.bool v) ∧ w = w' := by subst hv; exact lhas_any a len cap zs n w h hz hm
theorem lpt_as (v : Bool) (n : Int) (w : World) (hv : ptB n = v) : Calls Try.prog 31 #[.int .i64 n] w fun e w' => e = .returned (.bool v) ∧ w = w' := by subst hv; exact isPoint_any n w
theorem hasB_no {zs : List Int} {n : Int} (h : hasB zs n = false) : ¬ n ∈ zs := fun h' => by rw [(hasB_iff zs n).2 h'] at h; cases h

set_option maxRecDepth 20000 in
set_option maxHeartbeats 4000000 in
theorem scanMoves (s : Option Addr) (len cap : Nat) (z : List Int) (s2 : Option Addr) (len2 cap2 : Nat) (z2 : List Int) (w : World) (h : RowIn .u8 w s len cap z) (h2 : RowIn .u8 w s2 len2 cap2 z2) :
    Calls Try.prog 9 #[.slice s len cap, .slice s2 len2 cap2] w fun e w' => e = .returned (.bool true) ∧ Below w.heap.size w w' := by
  have hb := bytes_of_row h
  have hm : len ≤ maxLen := Nat.le_trans hb.1 hb.2.1
  unfold maxLen at hm
  clear h
  have hb2 := bytes_of_row h2
  have hm2 : len2 ≤ maxLen := Nat.le_trans hb2.1 hb2.2.1
  unfold maxLen at hm2
  clear h2
  by_cases hl : 1048576 < len
  · go_enter Try.func9, Try.ntmps9
    go_wp2
    go_ret
    exact ⟨rfl, Below.refl _ _⟩
  by_cases hl2 : 1048576 < len2
  · go_enter Try.func9, Try.ntmps9
    go_wp2
    go_ret
    exact ⟨rfl, Below.refl _ _⟩
  have hlB2 : decide ((1048576 : Int) < (len2 : Int)) = false := by simp; omega
  have HY2 := Lib.hid hb2
  clear hb2
  have hlB : decide ((1048576 : Int) < (len : Int)) = false := by simp; omega
  have HY := Lib.hid hb
  clear hb
  go_enter Try.func9, Try.ntmps9
  go_wp2_with fail
  refine (drawLKS s len cap w HY.out).mono ?_
  rintro e w0 ⟨gl, cl, L, gk, ck, K, b, cb, S, rfl, hll, hol, hkd, hkl, hok, hxb, htl, hos, hb0⟩
  obtain ⟨w1, hw1⟩ : ∃ w1, w1 = w0.alloc (.cells #[.int .i64 S.x, .slice (some ⟨b, 0, none⟩) S.t.length cb] 26) := ⟨_, rfl⟩
  have hst : StSc w1 w0.heap.size (some ⟨b, 0, none⟩) cb S := by rw [hw1]; exact stsc_new
  have hbA : Below w0.heap.size w0 w1 := by rw [hw1]; exact alB w0 _
  have HKS : Hid (∀ W, Below w1.heap.size w1 W → StSc W w0.heap.size (some ⟨b, 0, none⟩) cb S) := fun W hW => stsc_keep hst (hW.block _ (by rw [hw1]; simp))
  have HSO : Hid (∀ W, Below w1.heap.size w1 W → IntsAt W (some ⟨b, 0, none⟩) S.t) := fun W hW => own_intsS ((hos.keepB hbA (Nat.le_refl _)).keepB hW (Nat.le_refl _))
  have HKO : Hid (∀ W, Below w1.heap.size w1 W → IntsAt W (some ⟨gk, 0, none⟩) K) := fun W hW => own_intsS ((hok.keepB hbA (Nat.le_refl _)).keepB hW (Nat.le_refl _))
  have HLO : Hid (∀ W, Below w1.heap.size w1 W → LsAt W (some ⟨gl, 0, none⟩) L) := fun W hW => ((hol.keepB hbA (Nat.le_refl _)).keepB hW (Nat.le_refl _)).ls
  have HB1 : Hid (Below w.heap.size w w1) := by show Below _ _ _; rw [hw1]; exact hb0.alloc hb0.size _
  have HW1 := Lib.hid hw1
  have HLM := Lib.hid (len_max hll (by omega))
  have HKM := Lib.hid (len_max hkl (by omega))
  have HNM := Lib.hid (len_max htl (by omega))
  have HTS := Lib.hid (Nat.le_trans htl (show 66 ≤ 1048576 by omega))
  obtain ⟨c0, c1⟩ := hst
  obtain ⟨S', v, hR⟩ : ∃ S' v, stR L K S = (S', v) := ⟨_, _, rfl⟩
  have HOS : Hid (S'.t.length ≤ 1048576) := by show _ ≤ _; have := stR_len L K S; rw [hR] at this; simp only at this; omega
  have HR := Lib.hid hR
  clear hol hkd hok hos hb0 hw1 hR hbA
  go_wp2_with fail
  rw [← HW1.out]
  refine (pstep_as S' v _ _ _ _ _ _ _ _ _ L K S w1 (HLO.out _ (Below.refl _ _)) (HKO.out _ (Below.refl _ _)) (HSO.out _ (Below.refl _ _)) rfl rfl rfl HLM.out HKM.out HNM.out HR.out).mono ?_
  rintro e w2 ⟨aO, cO, rfl, hoo, hb2⟩
  obtain ⟨w3, hw3⟩ : ∃ w3, w3 = w2.alloc (.cells #[.int .i64 S'.x, .slice aO S'.t.length cO] 26) := ⟨_, rfl⟩
  have hbB : Below w2.heap.size w2 w3 := by rw [hw3]; exact alB w2 _
  have hst3 : StSc w3 w2.heap.size aO cO S' := by rw [hw3]; exact stsc_new
  have HKP : Hid (∀ W, Below w3.heap.size w3 W → StSc W w2.heap.size aO cO S') := fun W hW => stsc_keep hst3 (hW.block _ (by rw [hw3]; simp))
  have HPO : Hid (∀ W, Below w3.heap.size w3 W → OwnI W w1.heap.size aO cO S'.t) := fun W hW => (hoo.keepB hbB (Nat.le_refl _)).keepB hW (Nat.le_refl _)
  have HK3 : Hid (Below w1.heap.size w1 w3) := hb2.trans (hbB.mono hb2.size)
  have HCO := Lib.hid (own_capS hoo)
  have HW3 := Lib.hid hw3
  clear hoo hb2 hbB hst3 hw3 c0 c1
  obtain ⟨c0, c1⟩ := HKS.out w3 HK3.out
  rw [HW3.out] at c0 c1
  go_wp2_with fail
  rw [← HW3.out]
  refine (sstep_as2 S' v _ _ _ _ _ _ _ _ _ L K S w3 (HLO.out _ HK3.out) (HKO.out _ HK3.out) (HSO.out _ HK3.out) rfl rfl rfl HLM.out HKM.out HNM.out HR.out).mono ?_
  rintro e w4 ⟨aQ, cQ, rfl, hoq, hb4⟩
  obtain ⟨w5, hw5⟩ : ∃ w5, w5 = w4.alloc (.cells #[.int .i64 S'.x, .slice aQ S'.t.length cQ] 26) := ⟨_, rfl⟩
  have hbC : Below w4.heap.size w4 w5 := by rw [hw5]; exact alB w4 _
  have hst5 : StSc w5 w4.heap.size aQ cQ S' := by rw [hw5]; exact stsc_new
  have HKQ : Hid (∀ W, Below w5.heap.size w5 W → StSc W w4.heap.size aQ cQ S') := fun W hW => stsc_keep hst5 (hW.block _ (by rw [hw5]; simp))
  have HQO : Hid (∀ W, Below w5.heap.size w5 W → IntsAt W aQ S'.t) := fun W hW => own_intsS ((hoq.keepB hbC (Nat.le_refl _)).keepB hW (Nat.le_refl _))
  have HL5 : Hid (Below w3.heap.size w3 w5) := hb4.trans (hbC.mono hb4.size)
  have HK5 : Hid (Below w1.heap.size w1 w5) := HK3.out.trans (HL5.out.mono HK3.out.size)
  have HW5 := Lib.hid hw5
  clear hoq hb4 hbC hst5 hw5 c0 c1
  obtain ⟨c0, c1⟩ := HKP.out w5 HL5.out
  obtain ⟨d0, d1⟩ := HKQ.out w5 (Below.refl _ _)
  rw [HW5.out] at c0 c1 d0 d1
  have q1 : (v != v) = false := by cases v <;> rfl
  have q2 : (v == v) = true := by cases v <;> rfl
  go_wp2_with fail
  rw [← HW5.out]
  refine (sameSc_any aO aQ cO cQ S' w5 (own_intsS (HPO.out _ HL5.out)) (HQO.out _ (Below.refl _ _)) HOS.out).mono ?_
  rintro e w6 ⟨rfl, hb6⟩
  have HM6 := Lib.hid hb6
  have HL6 : Hid (Below w3.heap.size w3 w6) := HL5.out.trans (hb6.mono HL5.out.size)
  have HK6 : Hid (Below w1.heap.size w1 w6) := HK5.out.trans (hb6.mono HK5.out.size)
  have HBW6 : Hid (Below w.heap.size w w6) := HB1.out.trans (HK6.out.mono HB1.out.size)
  clear c0 c1 d0 d1 hb6
  obtain ⟨V, hV⟩ : ∃ V, lvB L = V := ⟨_, rfl⟩
  have HVV := Lib.hid hV
  clear hV
  cases v
  · go_wp2_with fail
    refine (slvs_as V _ _ _ L w6 (HLO.out w6 HK6.out) rfl HLM.out HVV.out).mono ?_
    rintro e w7 ⟨rfl, hs7⟩
    have hb7 := hs7.below w6.heap.size
    have HL7 := Lib.hid (HL6.out.trans (hb7.mono HL6.out.size))
    have HM7 := Lib.hid (HM6.out.trans (hb7.mono HM6.out.size))
    have HBW7 := Lib.hid (HBW6.out.trans (hb7.mono HBW6.out.size))
    clear hs7 hb7
    obtain ⟨c0, c1⟩ := HKP.out w7 HL7.out
    obtain ⟨d0, d1⟩ := HKQ.out w7 HM7.out
    cases V
    all_goals
      go_wp2_with fail
      refine (sameSc_any aO aQ cO cQ S' w7 (own_intsS (HPO.out _ HL7.out)) (HQO.out _ HM7.out) HOS.out).mono ?_
      rintro e w8 ⟨rfl, hb8⟩
      have HBW8 := Lib.hid (HBW7.out.trans (hb8.mono HBW7.out.size))
      clear c0 c1 d0 d1 hb8
      go_wp2
      go_ret
      exact ⟨rfl, HBW8.out⟩
  clear HVV
  have hyes := stR_ok (L := L) (K := K) (s := S) (by rw [HR.out])
  obtain ⟨hok, hx64, hst⟩ := hyes
  have hS' : S' = stS L K S := by have h := HR.out; rw [hst] at h; injection h with h _; exact h.symm
  obtain ⟨hlv, hky, hsc⟩ := (stOk_iff _ _ _).1 hok
  have HV := Lib.hid hlv
  have HKY := Lib.hid hky
  have HSC := Lib.hid hsc
  have HST := Lib.hid hS'
  have hx0 := ((scB_iff S).1 hsc).2.1.1
  have hnx := nx_bd hlv hx64
  have hxx : S'.x = nxE L S.x := by rw [hS']; rfl
  have htt : S'.t = S.t ++ btw K S.x S'.x := by rw [hxx, hS']; rfl
  have HXX := Lib.hid hxx
  have HTT := Lib.hid htt
  rw [← hxx] at hnx
  clear hok hst hS' hlv hky hsc hxx htt q1 q2
  clear hx0 hx64 hnx HOS HR HST HXX HTT HNM HTS HSC hxb htl
  go_wp2_with fail
  refine (slvs_as true _ _ _ L w6 (HLO.out w6 HK6.out) rfl HLM.out HV.out).mono ?_
  rintro e w7 ⟨rfl, hs7⟩
  have HK7 : Hid (Below w1.heap.size w1 w7) := HK6.out.trans ((hs7.below w6.heap.size).mono HK6.out.size)
  have HBW7 : Hid (Below w.heap.size w w7) := HB1.out.trans (HK7.out.mono HB1.out.size)
  clear hs7
  go_wp2_with fail
  refine (drawLKS s2 len2 cap2 w7 (bytes_keepS HY2.out HBW7.out)).mono ?_
  rintro e w8 ⟨gm, cm, M, gj, cj, J, b2, cb2, S2, rfl, hml, hom, hjd, hjl, hoj, _, _, _, hb8⟩
  obtain ⟨W, hW⟩ : ∃ W, W = w8.alloc (.cells #[.int .i64 S2.x, .slice (some ⟨b2, 0, none⟩) S2.t.length cb2] 26) := ⟨_, rfl⟩
  have hbA : Below w8.heap.size w8 W := by rw [hW]; exact alB w8 _
  have HMO : Hid (∀ U, Below W.heap.size W U → LsAt U (some ⟨gm, 0, none⟩) M) := fun U hU => ((hom.keepB hbA (Nat.le_refl _)).keepB hU (Nat.le_refl _)).ls
  have HJO : Hid (∀ U, Below W.heap.size W U → IntsAt U (some ⟨gj, 0, none⟩) J) := fun U hU => own_intsS ((hoj.keepB hbA (Nat.le_refl _)).keepB hU (Nat.le_refl _))
  have HKW : Hid (Below w1.heap.size w1 W) := HK7.out.trans ((hb8.trans (hbA.mono hb8.size)).mono HK7.out.size)
  have HLU : Hid (∀ U, Below W.heap.size W U → LsAt U (some ⟨gl, 0, none⟩) L) := fun U hU => HLO.out U (HKW.out.trans (hU.mono HKW.out.size))
  have HKU : Hid (∀ U, Below W.heap.size W U → IntsAt U (some ⟨gk, 0, none⟩) K) := fun U hU => HKO.out U (HKW.out.trans (hU.mono HKW.out.size))
  have HBW : Hid (Below w.heap.size w W) := HB1.out.trans (HKW.out.mono HB1.out.size)
  have HW := Lib.hid hW
  have HMM := Lib.hid (len_max hml (by omega))
  have HJM := Lib.hid (len_max hjl (by omega))
  have HJD := Lib.hid hjd
  obtain ⟨V, hV⟩ : ∃ V, lvB M = V := ⟨_, rfl⟩
  have HVM := Lib.hid hV
  clear hom hoj hb8 hbA hW hV hjd
  go_wp2_with fail
  rw [← HW.out]
  refine (lvs_as V _ _ _ M W (HMO.out W (Below.refl _ _)) rfl HMM.out HVM.out).mono ?_
  rintro e w9 ⟨rfl, hb9⟩
  have HB9 := Lib.hid hb9
  clear hb9
  cases V
  · go_wp2
    go_ret
    exact ⟨rfl, HBW.out.trans (HB9.out.mono HBW.out.size)⟩
  clear HKS HSO HKO HLO HKP HPO HKQ HQO HCO HW1 HW3 HW5 HK3 HL5 HK5 HM6 HL6 HK6 HBW6 HK7 HBW7 HW HY HY2 HB1 HKW
  obtain ⟨lj, hlj⟩ : ∃ lj, lj = J.length := ⟨_, rfl⟩
  rw [← hlj] at HJM hjl ⊢
  have HJL := Lib.hid hlj.symm
  clear hlj
  have hcase : lj = 0 ∨ ∃ m, lj = m + 1 := by rcases lj with _ | m; exact .inl rfl; exact .inr ⟨m, rfl⟩
  rcases hcase with h0 | ⟨m, hm⟩
  case' inl =>
    have HLAST : Hid (J.length = 0 ∨ ptB (gt J (J.length - 1)) = true) := .inl (by rw [HJL.out]; exact h0)
    have p0 : decide ((0 : Int) < (lj : Int)) = false := by simp; omega
    have p1 : decide (0 < lj) = false := by simp; omega
    have p2 : ((lj : Int) > 0) = False := by simp; omega
    have p3 : (0 < lj) = False := by simp; omega
    clear h0
    go_wp2_with fail
    clear p0 p1 p2 p3
  case' inr =>
    obtain ⟨bj, oj, haj, hbj, hcj⟩ : ∃ bb off, (some ⟨gj, 0, none⟩ : Option Addr) = some ⟨bb, off, none⟩ ∧ bb < w9.heap.size ∧ ∀ i, i < J.length → w9.cell? ⟨bb, off + i, none⟩ = some (.int .i64 (gt J i)) := by
      rcases HJO.out w9 HB9.out with h0 | h0
      · have := HJL.out; rw [h0] at this; simp at this; omega
      · exact h0
    injection haj with haj
    injection haj with ha1 ha2
    subst ha1
    subst ha2
    have x0 := hcj m (by rw [HJL.out]; omega)
    rw [Nat.zero_add] at x0
    have p0 : decide ((0 : Int) < (lj : Int)) = true := by simp; omega
    have x0 : w9.cell? ⟨gj, lj - 1, none⟩ = some (.int .i64 (gt J m)) := by rw [show lj - 1 = m by omega]; exact x0
    have p1 : (lj : Int) - 1 = (m : Int) := by omega
    have i0 : (0 : Int) ≤ (m : Int) := by omega
    have i1 : (m : Int) < (lj : Int) := by omega
    have HLM2 : Hid (J.length - 1 = m) := by show _ = _; rw [HJL.out]; omega
    clear hcj hbj hm
    cases hp : ptB (gt J m)
    · go_wp2_with fail
      refine (lpt_as false _ w9 hp).mono ?_
      rintro e w' ⟨rfl, rfl⟩
      clear x0 hp
      go_wp2
      go_ret
      exact ⟨rfl, HBW.out.trans (HB9.out.mono HBW.out.size)⟩
    have HP := Lib.hid hp
    have HLAST : Hid (J.length = 0 ∨ ptB (gt J (J.length - 1)) = true) := .inr (by rw [HLM2.out]; exact HP.out)
    clear hp
    go_wp2_with fail
    refine (lpt_as true _ w9 HP.out).mono ?_
    rintro e w' ⟨rfl, rfl⟩
    clear x0
    go_wp2_with fail
    clear p0 p1 i0 i1
  all_goals
    go_loopw [15] (fun i wr => ∃ k : Nat, 1 ≤ k ∧ i = .int .i64 k ∧ (k ≤ lj ∨ k = 1) ∧ Hid (∀ j, j + 1 < k → gt J j < gt J (j + 1)) ∧ Same w9 wr) (fun i _ => lj - (intOf i).toNat)
    case atStart => exact ⟨1, by omega, rfl, .inr rfl, fun j hj => by omega, Same.refl _⟩
    case round =>
      obtain ⟨k, hk1, rfl, hk, HAS, hs⟩ := hrel
      have HBR := Lib.hid (HB9.out.trans ((hs.below w9.heap.size).mono HB9.out.size))
      have HSM := Lib.hid hs
      obtain ⟨wo, rfl⟩ : ∃ x, x = wr := ⟨_, rfl⟩
      clear hs
      by_cases hlt : k < lj
      · obtain ⟨k, rfl⟩ : ∃ j, k = j + 1 := ⟨k - 1, by omega⟩
        obtain ⟨bj, oj, haj, hbj, hcj⟩ : ∃ bb off, (some ⟨gj, 0, none⟩ : Option Addr) = some ⟨bb, off, none⟩ ∧ bb < wo.heap.size ∧ ∀ i, i < J.length → wo.cell? ⟨bb, off + i, none⟩ = some (.int .i64 (gt J i)) := by
          rcases HJO.out wo HBR.out with h0 | h0
          · have := HJL.out; rw [h0] at this; simp at this; omega
          · exact h0
        injection haj with haj
        injection haj with ha1 ha2
        subst ha1
        subst ha2
        have x0 := hcj k (by rw [HJL.out]; omega)
        have x1 := hcj (k + 1) (by rw [HJL.out]; omega)
        rw [Nat.zero_add] at x0 x1
        have i0 : (0 : Int) ≤ (k : Int) := by omega
        have i1 : (k : Int) < (lj : Int) := by omega
        have i2 : (k : Int) + 1 < (lj : Int) := by omega
        clear hcj hbj
        cases ha : decide (gt J (k + 1) ≤ gt J k)
        · have ha' : gt J k < gt J (k + 1) := by have := of_decide_eq_false ha; omega
          have HA := Lib.hid ha'
          clear ha'
          go_wp2
          go_quiet (fail)
          go_wp2
          go_roundw
          case rel => exact ⟨k + 1 + 1, by omega, by go_num, .inl (by omega), fun j hj => by
            rcases Nat.lt_or_ge j k with h | h
            · exact HAS.out j (by omega)
            · obtain rfl : j = k := by omega
              exact HA.out, HSM.out.drewN _⟩
          case measure => simp [intOf]; omega
        · go_wp2
          go_quiet (fail)
          go_wp2
          go_ret
          exact ⟨rfl, HBW.out.trans ((HBR.out.trans ((Same.below ⟨_, rfl⟩ wo.heap.size).mono HBR.out.size)).mono HBW.out.size)⟩
      · have HJK : Hid (kyB J = true) := ky_of HJD.out HLAST.out (fun j hj => HAS.out j (by rw [HJL.out] at hj; omega))
        obtain ⟨g, hg⟩ : ∃ g, g = wo.heap.size := ⟨_, rfl⟩
        have HI0 : Hid (ScIn g wo (wo.alloc (.cells #[.int .i64 0, .slice none 0 0] 26)) ⟨0, []⟩) := by
          show ScIn _ _ _ _
          rw [hg]
          exact ⟨⟨none, 0, heap_alloc_new wo _, own_nil0 _ _, fun y hy => by cases hy⟩, alB wo _, by simp⟩
        have HGE : Hid (wo.heap.size ≤ g) := by show _ ≤ _; omega
        have HGQ := Lib.hid hg
        have HBX : Hid (∀ U, Below wo.heap.size wo U → Below W.heap.size W U) := fun U hU => HBR.out.trans (hU.mono HBR.out.size)
        clear HSM HAS HLAST hk hg
        go_wp2_with fail
        rw [← HGQ.out]
        go_loopw [17] (fun i wr => ∃ (j : Nat) (S : Sc), i = .int .i64 j ∧ (j : Int) ≤ S.x ∧ MvIs K J S ∧ ScIn g wo wr S) (fun i _ => 70 - (intOf i).toNat)
        case atStart => exact ⟨0, ⟨0, []⟩, rfl, by simp, mvIs_new K J, HI0.out⟩
        case round =>
          obtain ⟨j, ⟨x, ts⟩, rfl, hjx, hmv, hin⟩ := hrel
          simp only at hjx
          have HIN := Lib.hid hin
          have HMV := Lib.hid hmv
          have hsx := ((scB_iff _).1 hmv.ok).2.1
          simp only at hsx
          have hle : ts.length ≤ 64 := sc_len hmv.ok
          obtain ⟨a0, c0, h1, h2, h3⟩ := hin.sc
          simp only at h1 h2
          obtain ⟨e0, e1⟩ := cell2s h1
          have HO := Lib.hid h2
          have HBI := Lib.hid hin.below
          obtain ⟨t, ht⟩ : ∃ t, ts.length = t := ⟨_, rfl⟩
          rw [ht] at e1 hle
          have HTL := Lib.hid ht
          have HNM := Lib.hid (len_max hle (by omega))
          have j0 : (0 : Int) ≤ (j : Int) := by omega
          have j1 : (j : Int) < 70 := by omega
          clear h1 h2 h3 hin HI0 ht hmv
          by_cases hx : x = 64
          · have HD : Hid (doneB ⟨x, ts⟩ = true) := by show _ = _; unfold doneB; rw [HMV.out.ok, hx]; rfl
            have HXE := Lib.hid hx
            clear hx
            go_wp2_with fail
            refine (pdone_as true a0 t c0 ⟨x, ts⟩ wr (own_intsS HO.out) HTL.out HNM.out HD.out).mono ?_
            rintro e w10 ⟨rfl, hb10⟩
            have HB10 := Lib.hid (HBI.out.trans (hb10.mono HBI.out.size))
            obtain ⟨a9, c9, h9, h10, _⟩ := HIN.out.sc
            simp only at h9 h10
            have h6 := (hb10.block g HIN.out.lt).trans h9
            have HT9 : Hid (IntsAt w10 a9 ts) := own_intsS (h10.keepB hb10 (Nat.le_refl _))
            rw [HTL.out] at h6
            clear e0 e1 h9 h10
            obtain ⟨e0, e1⟩ := cell2s h6
            have HK10 := Lib.hid (HKU.out w10 (HBX.out w10 HB10.out))
            have HJ10 := Lib.hid (HJO.out w10 (HBX.out w10 HB10.out))
            have HBW10 := Lib.hid (HBW.out.trans ((HBX.out w10 HB10.out).mono HBW.out.size))
            have HC10 : Hid (∀ U, Below w10.heap.size w10 U → U.cell? ⟨g, 0, none⟩ = some (.int .i64 x) ∧ U.cell? ⟨g, 1, none⟩ = some (.slice a9 t c9)) := fun U hU => cell2s ((hU.block g (heap_lt h6)).trans h6)
            clear h6 hb10 hjx hsx j0 j1
            go_wp2_with (fail)
            go_loopw [20] (fun q wq => ∃ k : Nat, k ≤ 64 ∧ q = .int .i64 k ∧ wq = w10) (fun q _ => 64 - (intOf q).toNat)
            case atStart => exact ⟨0, by omega, rfl, rfl⟩
            case round =>
              obtain ⟨k, hk64, rfl, rfl⟩ := hrel
              by_cases hlt2 : k < 64
              · obtain ⟨A, hA⟩ : ∃ A, hasB K (k : Int) = A := ⟨_, rfl⟩
                obtain ⟨B, hB⟩ : ∃ B, hasB J (k : Int) = B := ⟨_, rfl⟩
                obtain ⟨T, hT⟩ : ∃ T, hasB ts (k : Int) = T := ⟨_, rfl⟩
                have HA := Lib.hid hA
                have HB := Lib.hid hB
                have HT := Lib.hid hT
                have k0 : (k : Int) < 64 := by omega
                have H1 : Hid (A = true → B = true → T = true) := fun h1 h2 => by
                  rw [← HT.out, hasB_iff]
                  exact HMV.out.told k (by omega) (by rw [HXE.out]; omega) ((hasB_iff _ _).1 (HA.out.trans h1)) ((hasB_iff _ _).1 (HB.out.trans h2))
                have H2 : Hid (T = true → A = true ∨ B = true) := fun h1 => by
                  rcases HMV.out.from_ k ((hasB_iff _ _).1 (HT.out.trans h1)) with h | h
                  · exact .inl (by rw [← HA.out]; exact (hasB_iff _ _).2 h)
                  · exact .inr (by rw [← HB.out]; exact (hasB_iff _ _).2 h)
                clear hA hB hT
                cases A
                · cases T
                  · go_wp2_with fail
                    refine (lhas_as false _ _ _ K _ _ HK10.out rfl HKM.out HA.out).mono ?_
                    rintro e w' ⟨rfl, rfl⟩
                    go_wp2_with fail
                    refine (lhas_as false _ _ _ ts _ _ HT9.out HTL.out HNM.out HT.out).mono ?_
                    rintro e w' ⟨rfl, rfl⟩
                    go_wp2
                    go_roundw
                    case rel => exact ⟨k + 1, by omega, by go_num, (by first | trivial | rfl)⟩
                    case measure => simp [intOf]; omega
                  · have hbt : B = true := (H2.out rfl).resolve_left (by simp)
                    subst hbt
                    go_wp2_with fail
                    refine (lhas_as false _ _ _ K _ _ HK10.out rfl HKM.out HA.out).mono ?_
                    rintro e w' ⟨rfl, rfl⟩
                    go_wp2_with fail
                    refine (lhas_as true _ _ _ ts _ _ HT9.out HTL.out HNM.out HT.out).mono ?_
                    rintro e w' ⟨rfl, rfl⟩
                    go_wp2_with fail
                    refine (lhas_as false _ _ _ K _ _ HK10.out rfl HKM.out HA.out).mono ?_
                    rintro e w' ⟨rfl, rfl⟩
                    go_wp2_with fail
                    refine (lhas_as true _ _ _ J _ _ HJ10.out HJL.out HJM.out HB.out).mono ?_
                    rintro e w' ⟨rfl, rfl⟩
                    go_wp2
                    go_roundw
                    case rel => exact ⟨k + 1, by omega, by go_num, (by first | trivial | rfl)⟩
                    case measure => simp [intOf]; omega
                · cases B
                  · go_wp2_with fail
                    refine (lhas_as true _ _ _ K _ _ HK10.out rfl HKM.out HA.out).mono ?_
                    rintro e w' ⟨rfl, rfl⟩
                    go_wp2_with fail
                    refine (lhas_as false _ _ _ J _ _ HJ10.out HJL.out HJM.out HB.out).mono ?_
                    rintro e w' ⟨rfl, rfl⟩
                    cases T
                    · go_wp2_with fail
                      refine (lhas_as false _ _ _ ts _ _ HT9.out HTL.out HNM.out HT.out).mono ?_
                      rintro e w' ⟨rfl, rfl⟩
                      go_wp2
                      go_roundw
                      case rel => exact ⟨k + 1, by omega, by go_num, (by first | trivial | rfl)⟩
                      case measure => simp [intOf]; omega
                    · go_wp2_with fail
                      refine (lhas_as true _ _ _ ts _ _ HT9.out HTL.out HNM.out HT.out).mono ?_
                      rintro e w' ⟨rfl, rfl⟩
                      go_wp2_with fail
                      refine (lhas_as true _ _ _ K _ _ HK10.out rfl HKM.out HA.out).mono ?_
                      rintro e w' ⟨rfl, rfl⟩
                      go_wp2
                      go_roundw
                      case rel => exact ⟨k + 1, by omega, by go_num, (by first | trivial | rfl)⟩
                      case measure => simp [intOf]; omega
                  · have htt : T = true := H1.out rfl rfl
                    subst htt
                    go_wp2_with fail
                    refine (lhas_as true _ _ _ K _ _ HK10.out rfl HKM.out HA.out).mono ?_
                    rintro e w' ⟨rfl, rfl⟩
                    go_wp2_with fail
                    refine (lhas_as true _ _ _ J _ _ HJ10.out HJL.out HJM.out HB.out).mono ?_
                    rintro e w' ⟨rfl, rfl⟩
                    go_wp2_with fail
                    refine (lhas_as true _ _ _ ts _ _ HT9.out HTL.out HNM.out HT.out).mono ?_
                    rintro e w' ⟨rfl, rfl⟩
                    go_wp2_with fail
                    refine (lhas_as true _ _ _ ts _ _ HT9.out HTL.out HNM.out HT.out).mono ?_
                    rintro e w' ⟨rfl, rfl⟩
                    go_wp2_with fail
                    refine (lhas_as true _ _ _ K _ _ HK10.out rfl HKM.out HA.out).mono ?_
                    rintro e w' ⟨rfl, rfl⟩
                    go_wp2
                    go_roundw
                    case rel => exact ⟨k + 1, by omega, by go_num, (by first | trivial | rfl)⟩
                    case measure => simp [intOf]; omega
              · obtain rfl : k = 64 := by omega
                go_wp2_with fail
                refine (pdone_as true a9 t c9 ⟨x, ts⟩ _ HT9.out HTL.out HNM.out HD.out).mono ?_
                rintro e w11 ⟨rfl, hb11⟩
                clear e0 e1
                obtain ⟨e0, e1⟩ := HC10.out w11 hb11
                have HT11 := Lib.hid (HT9.out.keepB hb11 (Nat.le_refl _))
                have HB11 := Lib.hid (HBW10.out.trans (hb11.mono HBW10.out.size))
                clear hb11
                go_wp2_with fail
                refine (pscv_as true a9 t c9 ⟨x, ts⟩ w11 HT11.out HTL.out HNM.out HMV.out.ok).mono ?_
                rintro e w12 ⟨rfl, hb12⟩
                have HB12 := Lib.hid (HB11.out.trans (hb12.mono HB11.out.size))
                clear hb12 e0 e1
                go_wp2
                go_ret
                exact ⟨rfl, HB12.out⟩
          · have hx64 : x < 64 := by omega
            have HD : Hid (doneB ⟨x, ts⟩ = false) := by show _ = _; unfold doneB; rw [show decide ((⟨x, ts⟩ : Sc).x = 64) = false by simp [hx]]; simp
            have HX := Lib.hid hx64
            have HNX := Lib.hid hx
            clear hx
            go_wp2_with fail
            refine (pdone_as false a0 t c0 ⟨x, ts⟩ wr (own_intsS HO.out) HTL.out HNM.out HD.out).mono ?_
            rintro e w10 ⟨rfl, hb10⟩
            have HBT : Hid (Below wr.heap.size wr w10) := hb10
            have HB10 := Lib.hid (HBI.out.trans (hb10.mono HBI.out.size))
            obtain ⟨a9, c9, h9, h10, _⟩ := HIN.out.sc
            simp only at h9 h10
            rw [HTL.out] at h9
            have HC : Hid (∀ U, Below wr.heap.size wr U → U.heap[g]? = some (.cells #[.int .i64 x, .slice a9 t c9] 26 (0, 0))) := fun U hU => (hU.block g HIN.out.lt).trans h9
            have HT9 : Hid (∀ U, Below wr.heap.size wr U → IntsAt U a9 ts) := fun U hU => own_intsS (h10.keepB hU (Nat.le_refl _))
            clear e0 e1 h9 h10 hb10
            obtain ⟨e0, e1⟩ := cell2s (HC.out w10 HBT.out)
            obtain ⟨S', hS'⟩ : ∃ S', S' = stS L K ⟨x, ts⟩ := ⟨_, rfl⟩
            have HST : Hid (stR L K ⟨x, ts⟩ = (S', true)) := by show _ = _; rw [hS']; exact stR_yes ((stOk_iff _ _ _).2 ⟨HV.out, HKY.out, HMV.out.ok⟩) HNX.out
            have HM1 : Hid (MvIs K J S') := by show MvIs _ _ _; rw [hS']; exact HMV.out.step HV.out HKY.out HX.out (fun z hz => .inl hz) (fun z h1 _ => h1)
            have HX1 : Hid ((j : Int) + 1 ≤ S'.x) := by show _ ≤ _; rw [hS']; have := (nx_bd HV.out HX.out).1; show _ ≤ nxE L x; omega
            clear hS'
            go_wp2_with fail
            refine (pstep_as S' true _ _ a9 _ _ _ _ t c9 L K ⟨x, ts⟩ w10 (HLU.out w10 (HBX.out w10 HB10.out)) (HKU.out w10 (HBX.out w10 HB10.out)) (HT9.out w10 HBT.out) rfl rfl HTL.out HLM.out HKM.out HNM.out HST.out).mono ?_
            rintro e w11 ⟨a5, c5, rfl, ho5, hb11⟩
            have HBU : Hid (Below wr.heap.size wr w11) := HBT.out.trans (hb11.mono HBT.out.size)
            have hjm : j % 2 = 0 ∨ j % 2 = 1 := by omega
            have hmod : (j : Int).tmod 2 = ((j % 2 : Nat) : Int) := by rw [Int.tmod_eq_emod_of_nonneg (by omega)]; omega
            rcases hjm with hm0 | hm1
            · rw [hm0] at hmod
              have hmo : (j : Int).tmod 2 = 0 := hmod
              have hm2 : ((0 : Int) == 1) = false := rfl
              have HS5 : Hid (∀ o, ScIn g wo (((w11.alloc o).setCell ⟨g, 0, none⟩ (.int .i64 S'.x)).setCell ⟨g, 1, none⟩ (.slice a5 S'.t.length c5)) S') := fun o => scIn_set HIN.out HGE.out ((ho5.less HBT.out.size).keepB (alB w11 o) (Nat.le_refl _)) (HBU.out.alloc HBU.out.size o)
              have h6 : ∀ o, (w11.alloc o).heap[g]? = _ := fun o => HC.out (w11.alloc o) (HBU.out.alloc HBU.out.size o)
              clear e0 e1
              have e0 : ∀ o, (w11.alloc o).cell? ⟨g, 0, none⟩ = some (.int .i64 x) := fun o => (cell2s (h6 o)).1
              have e1 : ∀ o, (w11.alloc o).cell? ⟨g, 1, none⟩ = some (.slice a9 t c9) := fun o => (cell2s (h6 o)).2
              have f0 : ∀ o, (w11.alloc o).frozen? ⟨g, 0, none⟩ = false := fun o => frozen_of_cells (h6 o) 0
              have f1 : ∀ o, (w11.alloc o).frozen? ⟨g, 1, none⟩ = false := fun o => frozen_of_cells (h6 o) 1
              clear h6 ho5 hb11 hmod hm0 hm2
              go_wp2
              go_roundw
              case rel => exact ⟨j + 1, S', by go_num, by have := HX1.out; omega, HM1.out, HS5.out _⟩
              case measure => simp [intOf]; omega
            · rw [hm1] at hmod
              have hmo : (j : Int).tmod 2 = 1 := hmod
              have hm2 : ((1 : Int) == 1) = true := rfl
              obtain ⟨N, hN⟩ : ∃ N, N = w11.heap.size := ⟨_, rfl⟩
              obtain ⟨w12, hw12⟩ : ∃ w12, w12 = w11.alloc (.cells #[.int .i64 S'.x, .slice a5 S'.t.length c5] 26) := ⟨_, rfl⟩
              have hn12 : w12.heap[N]? = some (.cells #[.int .i64 S'.x, .slice a5 S'.t.length c5] 26 (0, 0)) := by rw [hw12, hN]; exact heap_alloc_new _ _
              have HBY : Hid (Below wr.heap.size wr w12) := by show Below _ _ _; rw [hw12]; exact HBU.out.alloc HBU.out.size _
              have HNW : Hid (wr.heap.size ≤ N ∧ N < w12.heap.size) := ⟨by rw [hN]; exact HBU.out.size, by rw [hw12, hN]; simp⟩
              have HN12 := Lib.hid hn12
              have HW12 := Lib.hid hw12
              have HNE := Lib.hid hN
              obtain ⟨S4, hS4⟩ : ∃ S4, S4 = stS M J ⟨x, ts⟩ := ⟨_, rfl⟩
              have HST2 : Hid (stR M J ⟨x, ts⟩ = (S4, true)) := by show _ = _; rw [hS4]; exact stR_yes ((stOk_iff _ _ _).2 ⟨HVM.out, HJK.out, HMV.out.ok⟩) HNX.out
              have HM2 : Hid (MvIs K J S4) := by show MvIs _ _ _; rw [hS4]; exact HMV.out.step HVM.out HJK.out HX.out (fun z hz => .inr hz) (fun z _ h2 => h2)
              have HX2 : Hid ((j : Int) + 1 ≤ S4.x) := by show _ ≤ _; rw [hS4]; have := (nx_bd HVM.out HX.out).1; show _ ≤ nxE M x; omega
              clear hS4 hn12 hw12 hN e0 e1 ho5 hb11 hmod hm1
              obtain ⟨e0, e1⟩ := cell2s (HC.out w12 HBY.out)
              rw [HW12.out] at e0 e1
              go_wp2_with fail
              rw [← HW12.out, ← HNE.out]
              refine (pstep_as S4 true _ _ a9 _ _ _ _ t c9 M J ⟨x, ts⟩ w12 (HMO.out w12 (HBX.out w12 (HBI.out.trans (HBY.out.mono HBI.out.size)))) (HJO.out w12 (HBX.out w12 (HBI.out.trans (HBY.out.mono HBI.out.size)))) (HT9.out w12 HBY.out) rfl HJL.out HTL.out HMM.out HJM.out HNM.out HST2.out).mono ?_
              rintro e w13 ⟨a6, c6, rfl, ho6, hb13⟩
              have hnw := HNW.out
              have h13 : w13.heap[N]? = some (.cells #[.int .i64 S'.x, .slice a5 S'.t.length c5] 26 (0, 0)) := (hb13.block N hnw.2).trans HN12.out
              have HB13 : Below wr.heap.size wr w13 := HBY.out.trans (hb13.mono HBY.out.size)
              have HB14 : Below wr.heap.size wr ((w13.setCell ⟨N, 0, none⟩ (.int .i64 S4.x)).setCell ⟨N, 1, none⟩ (.slice a6 S4.t.length c6)) := below_set2s HB13 hnw.1 _ _
              have h14 : ((w13.setCell ⟨N, 0, none⟩ (.int .i64 S4.x)).setCell ⟨N, 1, none⟩ (.slice a6 S4.t.length c6)).heap[N]? = some (.cells #[.int .i64 S4.x, .slice a6 S4.t.length c6] 26 (0, 0)) := set2s h13
              have ho14 : OwnI ((w13.setCell ⟨N, 0, none⟩ (.int .i64 S4.x)).setCell ⟨N, 1, none⟩ (.slice a6 S4.t.length c6)) wr.heap.size a6 c6 S4.t := (own_atS ho6 (fun y hy => set2s_ne (by have := own_blkS ho6 hy; omega))).less HBY.out.size
              have HS5 : Hid (ScIn g wo ((((w13.setCell ⟨N, 0, none⟩ (.int .i64 S4.x)).setCell ⟨N, 1, none⟩ (.slice a6 S4.t.length c6)).setCell ⟨g, 0, none⟩ (.int .i64 S4.x)).setCell ⟨g, 1, none⟩ (.slice a6 S4.t.length c6)) S4) := scIn_set HIN.out HGE.out ho14 HB14
              have h6 := HC.out _ HB14
              clear e0 e1
              obtain ⟨e0, e1⟩ := cell2s h6
              have f0 := frozen_of_cells h6 0
              have f1 := frozen_of_cells h6 1
              obtain ⟨d0, d1⟩ := cell2s h14
              obtain ⟨n0, n1⟩ := cell2s h13
              have m0 := frozen_of_cells h13 0
              have m1 := frozen_of_cells h13 1
              clear h6 h13 h14 ho14 HB14 HB13 ho6 hb13 hnw
              go_wp2
              go_roundw
              case rel => exact ⟨j + 1, S4, by go_num, by have := HX2.out; omega, HM2.out, HS5.out⟩
              case measure => simp [intOf]; omega

end Go.Proofs.Ytenhaccdiamagaa
