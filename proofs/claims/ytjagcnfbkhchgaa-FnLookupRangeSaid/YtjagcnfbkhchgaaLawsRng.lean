/- The walks of the laws of lookups: paths. -/
import Derived.Test.YtjagcnfbkhchgaaLawsPath
import Derived.Test.YtjagcnfbkhchgaaLookU
import Derived.IntWalk
namespace Go.Proofs.Ytjagcnfbkhchgaa
open Go.RowKit
set_option linter.unusedVariables false

theorem rngV_some {zs L : List Int} {p q : Int} (h : rngV zs p q = L) (hl : L.length ≠ 0) : vldB zs = true ∧ ptB p = true ∧ ptB q = true ∧ rngL zs (plc zs p) p q = L := by
  cases hv : vldB zs
  · rw [rngV_no (.inl hv)] at h; subst h; simp at hl
  · cases hp : ptB p
    · rw [rngV_no (.inr (.inl hp))] at h; subst h; simp at hl
    · cases hq : ptB q
      · rw [rngV_no (.inr (.inr hq))] at h; subst h; simp at hl
      · rw [rngV_yes hv hp hq] at h; exact ⟨rfl, rfl, rfl, h⟩

set_option maxHeartbeats 2000000 in
theorem lookupRangeOne (s : Option Addr) (len cap : Nat) (z : List Int) (w : World) (h : RowIn .u8 w s len cap z) :
    Calls Try.prog 11 #[.slice s len cap] w fun e w' => e = .returned (.bool true) ∧ Below w.heap.size w w' := by
  have hb := bytes_of_row h
  have hm : len ≤ maxLen := Nat.le_trans hb.1 hb.2.1
  unfold maxLen at hm
  clear h
  by_cases hl : 1048576 < len
  · go_enter Try.func11, Try.ntmps11
    go_wp2
    go_ret
    exact ⟨rfl, Below.refl _ _⟩
  have hlB : decide ((1048576 : Int) < (len : Int)) = false := by simp; omega
  go_enter Try.func11, Try.ntmps11
  go_wp2_with fail
  refine (drawRange s len cap w hb).mono ?_
  rintro e w1 ⟨a, cap1, zs, id, key, rfl, hi1, hl1, hlc1, hB1⟩
  have HI1 := Lib.hid hi1.ints
  have hmx : zs.length ≤ maxLen := by unfold maxLen; omega
  have HM := Lib.hid hmx
  clear hi1 hmx hb
  obtain ⟨L, hL⟩ : ∃ L, rngV zs id key = L := ⟨_, rfl⟩
  have hL8 : L.length ≤ 10 := by rw [← hL]; exact rngV_len zs id key
  have HL := Lib.hid hL
  clear hL
  have hc1 := lrange_any a _ cap1 zs id key w1 HI1.out rfl HM.out
  rw [HL.out] at hc1
  go_wp2_with fail
  refine hc1.mono ?_
  clear hc1
  rintro e w2 ⟨g, gc, rfl, ho, hb2⟩
  have hB2 : Below w.heap.size w w2 := hB1.trans (hb2.mono hB1.size)
  have HO2 := Lib.hid ho.ints
  have hcap := ho.cap_le.1
  clear ho
  have hc1 := srng_any a _ cap1 zs id key w2 (HI1.out.keepB hb2 (Nat.le_refl _)) rfl HM.out
  rw [HL.out] at hc1
  go_wp2_with fail
  refine hc1.mono ?_
  clear hc1
  rintro e w3 ⟨g2, gc2, rfl, ho2, hb3⟩
  have hB3 : Below w.heap.size w w3 := hB2.trans (hb3.mono hB2.size)
  have HP3 := Lib.hid (HO2.out.keepB hb3 (Nat.le_refl _))
  have HQ3 := Lib.hid ho2.ints
  have HI3 := Lib.hid ((HI1.out.keepB hb2 (Nat.le_refl _)).keepB hb3 (Nat.le_refl _))
  clear ho2 hb2 hb3 hB1 hB2
  go_wp2_with fail
  refine (sameI_any _ _ _ _ _ L w3 HP3.out HQ3.out rfl (by omega)).mono ?_
  rintro e w4 ⟨rfl, hs4⟩
  have hB4 : Below w.heap.size w w4 := hB3.trans (hs4.below _)
  have HP4 := Lib.hid (HP3.out.same hs4)
  have HQ4 := Lib.hid (HQ3.out.same hs4)
  have HI4 := Lib.hid (HI3.out.same hs4)
  clear hs4 hB3
  by_cases h0 : L.length = 0
  · have hz : (((L.length : Nat) : Int) == 0) = true := by simp [h0]
    clear h0
    go_wp2_with (go_at_call 20; refine (sameI_any _ _ _ _ _ L w4 HP4.out HQ4.out rfl (by omega)).mono ?_; rintro e w5 ⟨rfl, hs5⟩)
    go_ret
    exact ⟨rfl, hB4.trans (hs5.below _)⟩
  have hz : (((L.length : Nat) : Int) == 0) = false := by simp; intro e; exact h0 (by rw [e]; rfl)
  obtain ⟨hv, hpa, hpb, hLp⟩ := rngV_some HL.out (by omega)
  obtain ⟨ha0, ha1⟩ := (ptB_iff _).1 hpa
  obtain ⟨hb0, hb1⟩ := (ptB_iff _).1 hpb
  have HV := Lib.hid hv
  have HLP := Lib.hid hLp
  have HPA := Lib.hid hpa
  have HPB := Lib.hid hpb
  clear hv hpa hpb hLp
  have HC := Lib.hid (cells_of HP4.out)
  have hpl := plc_lt HV.out id
  have hx : rngV zs id id = [nxtL zs id] := by rw [rngV_yes HV.out HPA.out HPA.out, rng_one HV.out hpl, plc_gt HV.out]
  have hc1 := lrange_any a _ cap1 zs id id w4 HI4.out rfl HM.out
  rw [hx] at hc1
  have e0 : Hid (gt L 0 = nxtL zs id) := by
    show gt L 0 = nxtL zs id
    obtain ⟨m, hm', e⟩ := rng_is HV.out (plc zs id) id key
    rw [← HLP.out, e, gt_rotTo hm'.1, gRot_zero hpl, plc_gt HV.out]
  clear hx
  go_wp2_with fail
  refine hc1.mono ?_
  clear hc1
  rintro e w5 ⟨g5, gc5, rfl, ho5, hb5⟩
  have c5 : w5.cell? ⟨g5, 0, none⟩ = some (.int .i64 (nxtL zs id)) := by
    have := cells_of ho5.ints 0 (by simp)
    rw [this]; simp [gt]
  have cL : w5.cell? ⟨g, 0, none⟩ = some (.int .i64 (gt L 0)) := cells_of (HP4.out.keepB hb5 (Nat.le_refl _)) 0 (by omega)
  have hIW := HI4.out.keepB hb5 (Nat.le_refl _)
  have t1 : (nxtL zs id == nxtI zs id) = true := by rw [nxtI_eq HV.out HPA.out]; simp
  have t2 : (gt L 0 == nxtL zs id) = true := by rw [e0.out]; simp
  have hL0 : 0 < L.length := by omega
  have hL0' : (0 : Int) < (L.length : Int) := by omega
  clear ho5 hpl h0
  go_wp2
  go_quiet ((go_at_call 21; exact Calls.quiet_of_same (calls_flip (nnext_any _ _ _ zs _ _ (by exact hIW) rfl HM.out))))
  go_wp2
  go_ret
  exact ⟨rfl, (hB4.trans (hb5.mono hB4.size)).trans (Same.below ⟨nq, rfl⟩ _)⟩

end Go.Proofs.Ytjagcnfbkhchgaa
