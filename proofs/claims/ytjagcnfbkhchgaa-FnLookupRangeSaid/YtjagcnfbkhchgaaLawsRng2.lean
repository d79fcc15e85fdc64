/- The walks of the laws of lookups: paths. -/
import Derived.Test.YtjagcnfbkhchgaaLawsRng
import Derived.IntWalk
namespace Go.Proofs.Ytjagcnfbkhchgaa
open Go.RowKit
set_option linter.unusedVariables false

/-- whether one of the first t keys is held by n -/
def FoundTo (zs : List Int) (p n : Int) (t : Nat) (f : Bool) : Prop := True ∧ ∀ k : Nat, k < t → nxtI zs ((p + (k : Int)) % 64) = n → f = true
theorem foundTo_zero (zs : List Int) (p n : Int) : FoundTo zs p n 0 false := ⟨trivial, fun k h => absurd h (by omega)⟩
theorem foundTo_next {zs : List Int} {p n r : Int} {t : Nat} (h : FoundTo zs p n t false) (hr : (p + (t : Int)) % 64 = r) : FoundTo zs p n (t + 1) (nxtI zs r == n) := by
  refine ⟨trivial, fun k hk e => ?_⟩
  rcases Nat.eq_or_lt_of_le (show k ≤ t by omega) with e' | e'
  · subst e'; rw [hr] at e; simp [e]
  · exact absurd (h.2 k e' e) (by simp)
theorem foundTo_keep {zs : List Int} {p n : Int} {t : Nat} (h : FoundTo zs p n t true) : FoundTo zs p n (t + 1) true := ⟨trivial, fun _ _ _ => rfl⟩

set_option maxHeartbeats 2000000 in
theorem lookupRange (s : Option Addr) (len cap : Nat) (z : List Int) (w : World) (h : RowIn .u8 w s len cap z) :
    Calls Try.prog 10 #[.slice s len cap] w fun e w' => e = .returned (.bool true) ∧ Below w.heap.size w w' := by
  have hb := bytes_of_row h
  have hm : len ≤ maxLen := Nat.le_trans hb.1 hb.2.1
  unfold maxLen at hm
  clear h
  by_cases hl : 1048576 < len
  · go_enter Try.func10, Try.ntmps10
    go_wp2
    go_ret
    exact ⟨rfl, Below.refl _ _⟩
  have hlB : decide ((1048576 : Int) < (len : Int)) = false := by simp; omega
  go_enter Try.func10, Try.ntmps10
  go_wp2_with fail
  refine (drawRange s len cap w hb).mono ?_
  rintro e w1 ⟨a, cap1, zs, id, key, rfl, hi1, hl1, hlc1, hB1⟩
  have HI1 := Lib.hid hi1.ints
  have hmx : zs.length ≤ maxLen := by unfold maxLen; omega
  have HM := Lib.hid hmx
  clear hi1 hmx hb
  obtain ⟨L, hL⟩ : ∃ L, rngV zs id key = L := ⟨_, rfl⟩
  have hL8 : L.length ≤ 10 := by rw [← hL]; exact rngV_len zs id key
  have HL := Lib.hid hL
  clear hL
  have hc1 := lrange_any a _ cap1 zs id key w1 HI1.out rfl HM.out
  rw [HL.out] at hc1
  go_wp2_with fail
  refine hc1.mono ?_
  clear hc1
  rintro e w2 ⟨g, gc, rfl, ho, hb2⟩
  have hB2 : Below w.heap.size w w2 := hB1.trans (hb2.mono hB1.size)
  have HO2 := Lib.hid ho.ints
  have hcap := ho.cap_le.1
  clear ho
  have hc1 := srng_any a _ cap1 zs id key w2 (HI1.out.keepB hb2 (Nat.le_refl _)) rfl HM.out
  rw [HL.out] at hc1
  go_wp2_with fail
  refine hc1.mono ?_
  clear hc1
  rintro e w3 ⟨g2, gc2, rfl, ho2, hb3⟩
  have hB3 : Below w.heap.size w w3 := hB2.trans (hb3.mono hB2.size)
  have HP3 := Lib.hid (HO2.out.keepB hb3 (Nat.le_refl _))
  have HQ3 := Lib.hid ho2.ints
  have HI3 := Lib.hid ((HI1.out.keepB hb2 (Nat.le_refl _)).keepB hb3 (Nat.le_refl _))
  clear ho2 hb2 hb3 hB1 hB2
  go_wp2_with fail
  refine (sameI_any _ _ _ _ _ L w3 HP3.out HQ3.out rfl (by omega)).mono ?_
  rintro e w4 ⟨rfl, hs4⟩
  have hB4 : Below w.heap.size w w4 := hB3.trans (hs4.below _)
  have HP4 := Lib.hid (HP3.out.same hs4)
  have HQ4 := Lib.hid (HQ3.out.same hs4)
  have HI4 := Lib.hid (HI3.out.same hs4)
  clear hs4 hB3
  by_cases h0 : L.length = 0
  · have hz : (((L.length : Nat) : Int) == 0) = true := by simp [h0]
    clear h0
    go_wp2_with (go_at_call 20; refine (sameI_any _ _ _ _ _ L w4 HP4.out HQ4.out rfl (by omega)).mono ?_; rintro e w5 ⟨rfl, hs5⟩)
    go_ret
    exact ⟨rfl, hB4.trans (hs5.below _)⟩
  have hz : (((L.length : Nat) : Int) == 0) = false := by simp; intro e; exact h0 (by rw [e]; rfl)
  obtain ⟨hv, hpa, hpb, hLp⟩ := rngV_some HL.out (by omega)
  obtain ⟨ha0, ha1⟩ := (ptB_iff _).1 hpa
  obtain ⟨hb0, hb1⟩ := (ptB_iff _).1 hpb
  have HV := Lib.hid hv
  have HLP := Lib.hid hLp
  have HPA := Lib.hid hpa
  have HPB := Lib.hid hpb
  clear hv hpa hpb hLp
  have HC := Lib.hid (cells_of HP4.out)
  obtain ⟨m, hm', hLe⟩ := rng_is HV.out (plc zs id) id key
  rw [HLP.out] at hLe
  have hpl := plc_lt HV.out id
  have hpg := plc_gt HV.out id
  have hLm : L.length = m := by rw [hLe, rotTo_len]
  obtain ⟨N, hN⟩ : ∃ N : Nat, dist id key = (N : Int) := ⟨(dist id key).toNat, by have := dist_bd id key; omega⟩
  have hN64 : N < 64 := by have := dist_bd id key; omega
  have HA : Hid (∀ k : Nat, k ≤ N → hasB L (nxtI zs ((id + (k : Int)) % 64)) = true) := by
    show ∀ k : Nat, k ≤ N → hasB L (nxtI zs ((id + (k : Int)) % 64)) = true
    intro k hk
    rw [nxtI_eq HV.out (by rw [ptB_iff]; omega), hasB_iff, hLe]
    exact rng_has HV.out ha0 ha1 hpl hpg hm' (by omega) (by omega)
  have HBX : Hid (∀ i, i < L.length → ∃ k : Nat, k ≤ N ∧ nxtI zs ((id + (k : Int)) % 64) = gt L i) := by
    show ∀ i, i < L.length → ∃ k : Nat, k ≤ N ∧ nxtI zs ((id + (k : Int)) % 64) = gt L i
    intro i hi
    obtain ⟨t, ht0, ht1, ht2⟩ := rng_key HV.out ha0 ha1 hpl hpg hm' (x := i) (by omega)
    refine ⟨t.toNat, by omega, ?_⟩
    rw [show ((t.toNat : Nat) : Int) = t by omega, nxtI_eq HV.out (by rw [ptB_iff]; omega), ht2, hLe, gt_rotTo (by omega)]
  have HCX : Hid (∀ i, i < L.length → hasB (L.take i) (gt L i) = false) := by
    show ∀ i, i < L.length → hasB (L.take i) (gt L i) = false
    intro i hi
    rw [hLe, rotTo_take (by omega), gt_rotTo (by omega)]
    exact rng_once (b := key) HV.out ha0 ha1 hpl hpg hm'.2.1 (by omega)
  have hdst := cdst_any id key w4
  rw [show dstI id key = (N : Int) by rw [dst_pt HPA.out HPB.out, ← hN]; rfl] at hdst
  clear hm' hLe hpl hpg hLm hN
  go_wp2_with fail
  refine hdst.mono ?_
  clear hdst
  rintro e w5 ⟨rfl, rfl⟩
  go_wp2
  go_loop [9] (fun i => ∃ k : Nat, k ≤ N + 1 ∧ i = .int .i64 k) (fun i => N + 1 - (intOf i).toNat)
  case atStart => exact ⟨0, by omega, rfl⟩
  case round =>
    obtain ⟨k, hk, rfl⟩ := hrel
    by_cases hlt : k ≤ N
    · obtain ⟨r, hr⟩ : ∃ r, (id + (k : Int)) % 64 = r := ⟨_, rfl⟩
      have hh := HA.out k hlt
      rw [hr] at hh
      have HH := Lib.hid hh
      have hlt' : (k : Int) ≤ (N : Int) := by omega
      have x1 := nnext_any a _ cap1 zs ((id + (k : Int)) % 64) w4 HI4.out rfl HM.out
      have x2 := calls_flip (lhas_any (some ⟨g, 0, none⟩) L.length gc L (nxtI zs r) w4 HP4.out rfl (by unfold maxLen; omega))
      rw [hh] at x2
      rw [hr] at x1
      have X1 := Lib.hid x1
      have X2 := Lib.hid x2
      have HR := Lib.hid hr
      clear x1 x2 hh hr
      go_wp2_with fail
      rw [HR.out]
      refine X1.out.mono ?_
      rintro e w5 ⟨rfl, rfl⟩
      go_wp2_with fail
      refine X2.out.mono ?_
      rintro e w5 ⟨rfl, hw5⟩
      obtain rfl := hw5
      go_wp2
      go_round
      case rel => exact ⟨k + 1, by omega, by go_num⟩
      case measure => simp [intOf]; omega
    · have hgt : (N : Int) < (k : Int) := by omega
      go_wp2
      go_loopw [10] (fun i wr => ∃ j : Nat, j ≤ L.length ∧ i = .int .i64 j ∧ Same w4 wr) (fun i _ => L.length - (intOf i).toNat)
      case atStart => exact ⟨0, by omega, rfl, Same.refl _⟩
      case round =>
        obtain ⟨j, hj, rfl, hsr⟩ := hrel
        by_cases hjl : j < L.length
        · have hjl' : (j : Int) < (L.length : Int) := by omega
          have hj0 : (0 : Int) ≤ (j : Int) := by omega
          go_wp2
          go_loopw [11, 12] (fun fd i wr2 => ∃ (t : Nat) (f : Bool), t ≤ N + 1 ∧ i = .int .i64 t ∧ fd = .bool f ∧ FoundTo zs id (gt L j) t f ∧ Same w4 wr2) (fun _ i _ => N + 1 - (intOf i).toNat)
          case atStart => exact ⟨0, false, by omega, rfl, rfl, foundTo_zero _ _ _, hsr⟩
          case round =>
            obtain ⟨t, f, ht, rfl, rfl, hf, hs2⟩ := hrel
            have HF := Lib.hid hf
            clear hf
            by_cases htl : t ≤ N
            · have htl' : (t : Int) ≤ (N : Int) := by omega
              rcases f with _ | _
              · obtain ⟨r, hr⟩ : ∃ r, (id + (t : Int)) % 64 = r := ⟨_, rfl⟩
                have htm : (id + (t : Int)).tmod 64 = r := by rw [Int.tmod_eq_emod_of_nonneg (by omega)]; exact hr
                have hw : IntKind.i64.wrap (id + (t : Int)) = id + (t : Int) := IntWalk.i64_in _ (by omega)
                have hc := (hs2.cell ⟨g, j, none⟩).trans (HC.out j hjl)
                have hIr := HI4.out.same hs2
                have HR := Lib.hid hr
                clear hr
                go_wp2
                go_quiet ((go_at_call 21; exact Calls.quiet_of_same (calls_flip (nnext_any _ _ _ zs _ _ (by exact hIr) rfl HM.out))))
                clear htm hw
                go_wp2
                go_roundw
                case rel => exact ⟨t + 1, _, by omega, by go_num, rfl, foundTo_next HF.out (by rw [HR.out]), hs2.drewN _⟩
                case measure => simp [intOf]; omega
              · go_wp2
                go_quiet (fail)
                go_wp2
                go_roundw
                case rel => exact ⟨t + 1, true, by omega, by go_num, rfl, foundTo_keep HF.out, hs2.drewN _⟩
                case measure => simp [intOf]; omega
            · have htg : (N : Int) < (t : Int) := by omega
              have hft : f = true := by
                obtain ⟨k', hk1, hk2⟩ := HBX.out j hjl
                exact HF.out.2 k' (by omega) hk2
              subst hft
              have hc := (hs2.cell ⟨g, j, none⟩).trans (HC.out j hjl)
              have hE2 := Lib.hid (HCX.out j hjl)
              have hLr := ints_take (HP4.out.same hs2) hj
              have HTL : Hid ((L.take j).length = j) := by show (L.take j).length = j; simp; omega
              have HKM : Hid (j ≤ maxLen) := by show j ≤ maxLen; unfold maxLen; omega
              have hjc : j ≤ gc := by omega
              go_wp2
              go_quiet ((go_at_call 26; ((with_reducible refine Calls.quiet_of_same (lhas_as false (some ⟨g, 0, none⟩) j gc (L.take j) _ _ ?_ HTL.out HKM.out hE2.out)); exact hLr)))
              go_wp2
              go_roundw
              case rel => exact ⟨j + 1, by omega, by go_num, hs2.drewN _⟩
              case measure => simp [intOf]; omega
        · have hge : (L.length : Int) ≤ (j : Int) := by omega
          go_wp2
          go_ret
          exact ⟨rfl, hB4.trans (hsr.below _)⟩

end Go.Proofs.Ytjagcnfbkhchgaa
