/- What the model does with paths. -/
import Derived.Test.YtblhaccjngjekaaPzW
namespace Go.Proofs.Ytblhaccjngjekaa
open Go.RowKit
set_option linter.unusedVariables false
attribute [local go_sem ↓] Go.wp_at_zero Go.wp_at_succ

theorem point_as (v : Bool) (n : Int) (w : World) (hv : ptB n = v) : Calls Try.prog 47 #[.int .i64 n] w fun e w' => e = .returned (.bool v) ∧ w = w' := by subst hv; exact point_any n w
theorem shas_is (v : Bool) (a : Option Addr) (len cap : Nat) (zs : List Int) (n : Int) (w : World) (h : IntsAt w a zs) (hz : zs.length = len) (hm : len ≤ maxLen) (hv : hasB zs n = v) :
    Calls Try.prog 57 #[.slice a len cap, .int .i64 n] w fun e w' => e = .returned (.bool v) ∧ w = w' := by subst hv; exact shas_any a len cap zs n w h hz hm
theorem len_max {n c : Nat} (h : n ≤ c) (h' : c ≤ maxLen) : n ≤ maxLen := Nat.le_trans h h'

set_option maxRecDepth 20000 in
set_option maxHeartbeats 2000000 in
theorem spv_any (a : Option Addr) (len cap : Nat) (ps : List (List Int)) (w : World) (h : SsAt w a ps) (hz : ps.length = len) (hm : len ≤ maxLen) :
    Calls Try.prog 56 #[.slice a len cap] w fun e w' => e = .returned (.bool (pvB ps)) ∧ w = w' := by
  have HI := Lib.hid h
  have HZ := Lib.hid hz
  unfold maxLen at hm
  clear h hz
  go_enter Try.func56, Try.ntmps56
  go_wp2
  go_loop [3] (fun i => ∃ k : Nat, k ≤ len ∧ i = .int .i64 k ∧ Hid (∀ j, j < k → pathB (gl ps j) = true)) (fun i => len - (intOf i).toNat)
  case atStart => exact ⟨0, by omega, rfl, fun j hj => by omega⟩
  case round =>
    obtain ⟨k, hk, rfl, HN⟩ := hrel
    by_cases hlt : k < len
    · obtain ⟨b, off, rfl, hb0, hrows⟩ := HI.out.row (by rw [HZ.out]; omega)
      obtain ⟨ai, ci, hc, hints, hl, hci⟩ := hrows k (by rw [HZ.out]; exact hlt)
      have HT := Lib.hid hints
      have k0 : (0 : Int) ≤ (k : Int) := by omega
      have k1 : (k : Int) < (len : Int) := by omega
      unfold maxLen at hci
      obtain ⟨n, hn⟩ : ∃ n, (gl ps k).length = n := ⟨_, rfl⟩
      rw [hn] at hc hl
      have HL := Lib.hid hn
      clear hrows hints hn
      go_wp2
      go_loop [4] (fun i => ∃ q : Nat, q ≤ n ∧ i = .int .i64 q ∧ Hid (∀ j, j < q → ptB (gt (gl ps k) j) = true)) (fun i => n - (intOf i).toNat)
      case atStart => exact ⟨0, by omega, rfl, fun j hj => by omega⟩
      case round =>
        obtain ⟨q, hq, rfl, HQ⟩ := hrel
        by_cases hql : q < n
        · obtain ⟨b2, off2, rfl, hc2⟩ := HT.out.cellAt (k := q) (by rw [HL.out]; exact hql)
          obtain ⟨x, hx⟩ : ∃ x, x = gt (gl ps k) q := ⟨_, rfl⟩
          rw [← hx] at hc2
          have HX := Lib.hid hx
          have q0 : (0 : Int) ≤ (q : Int) := by omega
          have q1 : (q : Int) < (n : Int) := by omega
          clear hx
          cases hp : ptB x
          · have HR : Hid (pvB ps = false) := pvB_bad (by rw [HZ.out]; exact hlt) (pathB_bad (k := q) (by rw [HL.out]; exact hql) (by rw [← HX.out]; exact hp))
            have HP := Lib.hid hp
            clear hp
            go_wp2_with fail
            refine (point_as false x w HP.out).mono ?_
            rintro e w' ⟨rfl, rfl⟩
            go_wp2
            go_ret
            exact ⟨ret_bool HR.out.symm, rfl⟩
          · have HP := Lib.hid hp
            clear hp
            go_wp2_with fail
            refine (point_as true x w HP.out).mono ?_
            rintro e w' ⟨rfl, rfl⟩
            go_wp2
            go_round
            case rel => exact ⟨q + 1, by omega, by go_num, fun j hj => by rcases Nat.lt_or_ge j q with h' | h'; exact HQ.out j h'; obtain rfl : j = q := (by omega); rw [← HX.out]; exact HP.out⟩
            case measure => simp [intOf]; omega
        · obtain rfl : q = n := by omega
          by_cases h10 : 10 < q
          · have HR : Hid (pvB ps = false) := pvB_bad (by rw [HZ.out]; exact hlt) (pathB_long (by rw [HL.out]; exact h10))
            have h10i : (10 : Int) < (q : Int) := by omega
            go_wp2
            go_ret
            exact ⟨ret_bool HR.out.symm, rfl⟩
          · have HR : Hid (pathB (gl ps k) = true) := (pathB_iff _).2 ⟨fun j hj => HQ.out j (by rw [← HL.out]; exact hj), by rw [HL.out]; omega⟩
            have h10i : ¬ (10 : Int) < (q : Int) := by omega
            go_wp2
            go_round
            case rel => exact ⟨k + 1, by omega, by go_num, fun j hj => by rcases Nat.lt_or_ge j k with h' | h'; exact HN.out j h'; obtain rfl : j = k := (by omega); exact HR.out⟩
            case measure => simp [intOf]; omega
    · obtain rfl : k = len := by omega
      have HR : Hid (pvB ps = decide (k ≤ 7)) := by
        show _ = _
        rw [Bool.eq_iff_iff, pvB_iff, decide_eq_true_eq, HZ.out]
        exact ⟨fun h => h.2, fun h => ⟨fun j hj => HN.out j hj, h⟩⟩
      go_wp2
      go_ret
      exact ⟨ret_bool (by rw [HR.out, Bool.eq_iff_iff]; simp; omega), rfl⟩
theorem spv_as (v : Bool) (a : Option Addr) (len cap : Nat) (ps : List (List Int)) (w : World) (h : SsAt w a ps) (hz : ps.length = len) (hm : len ≤ maxLen) (hv : pvB ps = v) :
    Calls Try.prog 56 #[.slice a len cap] w fun e w' => e = .returned (.bool v) ∧ w = w' := by subst hv; exact spv_any a len cap ps w h hz hm

set_option maxRecDepth 20000 in
set_option maxHeartbeats 2000000 in
theorem shon_any (a : Option Addr) (len cap : Nat) (ps : List (List Int)) (s2 : Option Addr) (len2 cap2 : Nat) (bad : List Int) (w : World) (h : SsAt w a ps) (hz : ps.length = len) (hm : len ≤ maxLen) (h2 : IntsAt w s2 bad) (hz2 : bad.length = len2) (hm2 : len2 ≤ maxLen) :
    Calls Try.prog 36 #[.slice a len cap, .slice s2 len2 cap2] w fun e w' => e = .returned (.int .i64 (honR ps bad)) ∧ w = w' := by
  have HI := Lib.hid h
  have HZ := Lib.hid hz
  have HM := Lib.hid hm
  have HI2 := Lib.hid h2
  have HZ2 := Lib.hid hz2
  have HM2 := Lib.hid hm2
  unfold maxLen at hm hm2
  clear h hz h2 hz2
  cases hv : pvB ps
  · have HV := Lib.hid hv
    have HR := Lib.hid (honR_bad (bad := bad) hv)
    clear hv
    go_enter Try.func36, Try.ntmps36
    go_wp2_with fail
    refine (spv_as false a len cap ps w HI.out HZ.out HM.out HV.out).mono ?_
    rintro e w' ⟨rfl, rfl⟩
    go_wp2
    go_ret
    exact ⟨ret_i (by rw [HR.out]), rfl⟩
  have HV := Lib.hid hv
  have HR := Lib.hid (honR_ok (bad := bad) hv)
  clear hv
  go_enter Try.func36, Try.ntmps36
  go_wp2_with fail
  refine (spv_as true a len cap ps w HI.out HZ.out HM.out HV.out).mono ?_
  rintro e w' ⟨rfl, rfl⟩
  go_wp2
  go_loop [5, 6] (fun t i => ∃ k : Nat, k ≤ len ∧ i = .int .i64 k ∧ t = .int .i64 (hcN bad ps k : Nat)) (fun _ i => len - (intOf i).toNat)
  case atStart => exact ⟨0, by omega, rfl, rfl⟩
  case round =>
    obtain ⟨k, hk, rfl, rfl⟩ := hrel
    have HS : Hid (hcN bad ps (k + 1) = hcN bad ps k + if hoB bad (gl ps k) = true then 1 else 0) := rfl
    have hle := hcN_le bad ps k
    obtain ⟨t, ht⟩ : ∃ t, t = hcN bad ps k := ⟨_, rfl⟩
    rw [← ht] at HS hle ⊢
    have HTT := Lib.hid ht
    clear ht
    by_cases hlt : k < len
    · obtain ⟨b, off, rfl, hb0, hrows⟩ := HI.out.row (by rw [HZ.out]; omega)
      obtain ⟨ai, ci, hc, hints, hl, hci⟩ := hrows k (by rw [HZ.out]; exact hlt)
      have HT := Lib.hid hints
      have k0 : (0 : Int) ≤ (k : Int) := by omega
      have k1 : (k : Int) < (len : Int) := by omega
      unfold maxLen at hci
      obtain ⟨n, hn⟩ : ∃ n, (gl ps k).length = n := ⟨_, rfl⟩
      rw [hn] at hc hl
      have HL := Lib.hid hn
      clear hrows hints hn
      go_wp2
      go_loop [7, 8] (fun u i => ∃ q : Nat, q ≤ n ∧ i = .int .i64 q ∧ u = .int .i64 (bti (hoTo bad (gl ps k) q))) (fun _ i => n - (intOf i).toNat)
      case atStart => exact ⟨0, by omega, rfl, by rw [hoTo_zero]; rfl⟩
      case round =>
        obtain ⟨q, hq, rfl, rfl⟩ := hrel
        by_cases hql : q < n
        · obtain ⟨b2, off2, rfl, hc2⟩ := HT.out.cellAt (k := q) (by rw [HL.out]; exact hql)
          obtain ⟨x, hx⟩ : ∃ x, x = gt (gl ps k) q := ⟨_, rfl⟩
          rw [← hx] at hc2
          have HX := Lib.hid hx
          have q0 : (0 : Int) ≤ (q : Int) := by omega
          have q1 : (q : Int) < (n : Int) := by omega
          obtain ⟨u, hu⟩ : ∃ u, u = bti (hoTo bad (gl ps k) q) := ⟨_, rfl⟩
          have HU := Lib.hid hu
          rw [← hu]
          clear hx hu
          cases hp : hasB bad x
          · have HP := Lib.hid hp
            have HN : Hid (bti (hoTo bad (gl ps k) (q + 1)) = u) := by show _ = _; rw [hoTo_good (by rw [← HX.out]; exact hp)]; exact HU.out.symm
            clear hp
            go_wp2_with fail
            refine (shas_is false s2 len2 cap2 bad x w HI2.out HZ2.out HM2.out HP.out).mono ?_
            rintro e w' ⟨rfl, rfl⟩
            go_wp2
            go_round
            case rel => exact ⟨q + 1, by omega, by go_num, by rw [HN.out]⟩
            case measure => simp [intOf]; omega
          · have HP := Lib.hid hp
            have HN : Hid (bti (hoTo bad (gl ps k) (q + 1)) = 0) := by show _ = _; rw [hoTo_bad (by rw [← HX.out]; exact hp)]; rfl
            clear hp
            go_wp2_with fail
            refine (shas_is true s2 len2 cap2 bad x w HI2.out HZ2.out HM2.out HP.out).mono ?_
            rintro e w' ⟨rfl, rfl⟩
            go_wp2
            go_round
            case rel => exact ⟨q + 1, by omega, by go_num, by rw [HN.out]⟩
            case measure => simp [intOf]; omega
        · obtain rfl : q = n := by omega
          have HE : Hid (hoTo bad (gl ps k) q = hoB bad (gl ps k)) := by show _ = _; rw [← HL.out]; rfl
          rw [HE.out]
          cases ho : hoB bad (gl ps k)
          · have HN : Hid (hcN bad ps (k + 1) = t) := by show _ = _; rw [HS.out, if_neg (by rw [ho]; decide)]; rfl
            have e0 : bti false = 0 := rfl
            rw [e0]
            clear ho
            go_wp2
            go_round
            case rel => exact ⟨k + 1, by omega, by go_num, by rw [HN.out]⟩
            case measure => simp [intOf]; omega
          · have HN : Hid (hcN bad ps (k + 1) = t + 1) := by show _ = _; rw [HS.out, if_pos ho]
            have e0 : bti true = 1 := rfl
            rw [e0]
            clear ho
            go_wp2
            go_round
            case rel => exact ⟨k + 1, by omega, by go_num, by rw [HN.out]; go_num⟩
            case measure => simp [intOf]; omega
    · obtain rfl : k = len := by omega
      go_wp2
      go_ret
      exact ⟨ret_i (by rw [HR.out, HTT.out, HZ.out]), rfl⟩

set_option maxRecDepth 20000 in
set_option maxHeartbeats 4000000 in
theorem sdj_any (a : Option Addr) (len cap : Nat) (ps : List (List Int)) (w : World) (h : SsAt w a ps) (hz : ps.length = len) (hm : len ≤ maxLen) :
    Calls Try.prog 29 #[.slice a len cap] w fun e w' => e = .returned (.bool (djR ps)) ∧ Same w w' := by
  have HI := Lib.hid h
  have HZ := Lib.hid hz
  have HM := Lib.hid hm
  unfold maxLen at hm
  clear h hz
  cases hv : pvB ps
  · have HV := Lib.hid hv
    have HR := Lib.hid (djR_bad hv)
    clear hv
    go_enter Try.func29, Try.ntmps29
    go_wp2_with fail
    refine (spv_as false a len cap ps w HI.out HZ.out HM.out HV.out).mono ?_
    rintro e w' ⟨rfl, rfl⟩
    go_wp2
    go_ret
    exact ⟨ret_bool HR.out.symm, Same.refl _⟩
  have HV := Lib.hid hv
  clear hv
  go_enter Try.func29, Try.ntmps29
  go_wp2_with fail
  refine (spv_as true a len cap ps w HI.out HZ.out HM.out HV.out).mono ?_
  rintro e w' ⟨rfl, rfl⟩
  go_wp2
  go_loopw [3] (fun i wr => ∃ k : Nat, k ≤ len ∧ i = .int .i64 k ∧ Hid (∀ i, i < k → ∀ q, q < (gl ps i).length → ∀ j, j < i → hasB (gl ps j) (gt (gl ps i) q) = false) ∧ Same w wr) (fun i _ => len - (intOf i).toNat)
  case atStart => exact ⟨0, by omega, rfl, fun j hj => by omega, Same.refl _⟩
  case round =>
    obtain ⟨k, hk, rfl, HN, hs⟩ := hrel
    obtain ⟨w1, rfl⟩ : ∃ x, x = wr := ⟨_, rfl⟩
    have HS := Lib.hid hs
    by_cases hlt : k < len
    · obtain ⟨b, off, rfl, hb0, hrows⟩ := (HI.out.keepB (hs.below w.heap.size) (Nat.le_refl _)).row (by rw [HZ.out]; omega)
      obtain ⟨ai, ci, hc, hints, hl, hci⟩ := hrows k (by rw [HZ.out]; exact hlt)
      have HROW := Lib.hid hrows
      have HT := Lib.hid hints
      have k0 : (0 : Int) ≤ (k : Int) := by omega
      have k1 : (k : Int) < (len : Int) := by omega
      unfold maxLen at hci
      obtain ⟨n, hn⟩ : ∃ n, (gl ps k).length = n := ⟨_, rfl⟩
      rw [hn] at hc hl
      have HL := Lib.hid hn
      clear hrows hints hn hs
      go_wp2
      go_loopw [4] (fun i wr => ∃ q : Nat, q ≤ n ∧ i = .int .i64 q ∧ Hid (∀ p, p < q → ∀ j, j < k → hasB (gl ps j) (gt (gl ps k) p) = false) ∧ Same w1 wr) (fun i _ => n - (intOf i).toNat)
      case atStart => exact ⟨0, by omega, rfl, fun j hj => by omega, Same.refl _⟩
      case round =>
        obtain ⟨q, hq, rfl, HQ, hs2⟩ := hrel
        obtain ⟨w2, rfl⟩ : ∃ x, x = wr := ⟨_, rfl⟩
        have HS2 := Lib.hid hs2
        have hcw := (hs2.cell ⟨b, off + k, none⟩).trans hc
        by_cases hql : q < n
        · obtain ⟨b2, off2, hab, hc2⟩ := HT.out.cellAt (k := q) (by rw [HL.out]; exact hql)
          subst hab
          obtain ⟨x, hx⟩ : ∃ x, x = gt (gl ps k) q := ⟨_, rfl⟩
          rw [← hx] at hc2
          have HX := Lib.hid hx
          have q0 : (0 : Int) ≤ (q : Int) := by omega
          have q1 : (q : Int) < (n : Int) := by omega
          clear hx hs2
          go_wp2
          go_loopw [5] (fun i wr => ∃ j : Nat, j ≤ k ∧ i = .int .i64 j ∧ Hid (∀ p, p < j → hasB (gl ps p) x = false) ∧ Same w1 wr) (fun i _ => k - (intOf i).toNat)
          case atStart => exact ⟨0, by omega, rfl, fun j hj => by omega, HS2.out⟩
          case round =>
            obtain ⟨j, hj, rfl, HJ, hs3⟩ := hrel
            by_cases hjl : j < k
            · obtain ⟨aj, cj, hcj, hintsj, hlj, hcij⟩ := HROW.out j (by rw [HZ.out]; omega)
              obtain ⟨m, hm'⟩ : ∃ m, (gl ps j).length = m := ⟨_, rfl⟩
              rw [hm'] at hcj hlj
              have HLJ := Lib.hid hm'
              have HMJ := Lib.hid (len_max hlj hcij)
              have HTJ := Lib.hid (hintsj.keepB (hs3.below w1.heap.size) (Nat.le_refl _))
              have d1 := (hs3.cell ⟨b, off + k, none⟩).trans hc
              have d2 := (hs3.cell ⟨b2, off2 + q, none⟩).trans hc2
              have d3 := (hs3.cell ⟨b, off + j, none⟩).trans hcj
              have j0 : (0 : Int) ≤ (j : Int) := by omega
              have j1 : (j : Int) < (len : Int) := by omega
              clear hintsj hm' hcij
              cases hp : hasB (gl ps j) x
              · have HP := Lib.hid hp
                clear hp
                go_wp2
                go_quiet ((go_at_call 57; exact Calls.quiet_of_same (calls_flip (shas_is false aj m cj (gl ps j) x _ HTJ.out HLJ.out HMJ.out HP.out))))
                go_wp2
                go_roundw
                case rel => exact ⟨j + 1, by omega, by go_num, fun p hp => by rcases Nat.lt_or_ge p j with h' | h'; exact HJ.out p h'; obtain rfl : p = j := (by omega); exact HP.out, hs3.drewN _⟩
                case measure => simp [intOf]; omega
              · have HP := Lib.hid hp
                have HR : Hid (djR ps = false) := djR_no (i := k) (k := q) (j := j) (by rw [HZ.out]; exact hlt) (by rw [HL.out]; exact hql) hjl (by rw [← HX.out]; exact hp)
                clear hp
                go_wp2
                go_quiet ((go_at_call 57; exact Calls.quiet_of_same (calls_flip (shas_is true aj m cj (gl ps j) x _ HTJ.out HLJ.out HMJ.out HP.out))))
                go_wp2
                go_ret
                exact ⟨ret_bool HR.out.symm, HS.out.trans (hs3.drewN _)⟩
            · obtain rfl : j = k := by omega
              go_wp2
              go_roundw
              case rel => exact ⟨q + 1, by omega, by go_num, fun p hp => by rcases Nat.lt_or_ge p q with h' | h'; exact HQ.out p h'; obtain rfl : p = q := (by omega); rw [← HX.out]; exact HJ.out, hs3⟩
              case measure => simp [intOf]; omega
        · obtain rfl : q = n := by omega
          go_wp2
          go_roundw
          case rel => exact ⟨k + 1, by omega, by go_num, fun i hi => by rcases Nat.lt_or_ge i k with h' | h'; exact HN.out i h'; obtain rfl : i = k := (by omega); rw [HL.out]; exact HQ.out, HS.out.trans hs2⟩
          case measure => simp [intOf]; omega
    · obtain rfl : k = len := by omega
      have HR : Hid (djR ps = true) := djR_yes HV.out (fun i hi => HN.out i (by rw [← HZ.out]; exact hi))
      go_wp2
      go_ret
      exact ⟨ret_bool HR.out.symm, hs⟩
end Go.Proofs.Ytblhaccjngjekaa
