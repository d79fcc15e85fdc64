/- The walk of FnKeysSum. -/
import Derived.Test.YtoaamamconcieabLsDraw2
namespace Go.Proofs.Ytoaamamconcieab
open Go.RowKit
set_option linter.unusedVariables false

/-- the keys of the owners below p, together -/
def sumK (L : List Ls) : Nat → Nat
  | 0 => 0
  | p + 1 => sumK L p + keysN L p
theorem sumK_is {L : List Ls} (ho : ∀ k : Nat, k < 64 → 0 ≤ (gl L (atL L k)).o) (p : Nat) : sumK L p = kcn L (fun i => decide ((gl L i).o < p)) 64 := by
  have key : ∀ n : Nat, n ≤ 64 → ∀ p, kcn L (fun i => decide ((gl L i).o < ((p + 1 : Nat) : Int))) n = kcn L (fun i => decide ((gl L i).o < (p : Int))) n + kcn L (ownB L p) n := by
    intro n hn p
    induction n with
    | zero => rfl
    | succ n ih =>
      simp only [kcn, ih (by omega), ownB]
      by_cases h1 : (gl L (atL L n)).o < (p : Int)
      · simp only [decide_eq_true_eq]
        rw [if_pos (by omega), if_pos h1, if_neg (by omega)]; omega
      · by_cases h2 : (gl L (atL L n)).o = (p : Int)
        · simp only [decide_eq_true_eq]
          rw [if_pos (by omega), if_neg h1, if_pos h2]; omega
        · simp only [decide_eq_true_eq]
          rw [if_neg (by omega), if_neg h1, if_neg h2]; omega
  induction p with
  | zero =>
    have : ∀ n : Nat, n ≤ 64 → kcn L (fun i => decide ((gl L i).o < ((0 : Nat) : Int))) n = 0 := by
      intro n hn
      induction n with
      | zero => rfl
      | succ n ih =>
        simp only [kcn, ih (by omega), decide_eq_true_eq]
        rw [if_neg (by have := ho n (by omega); omega)]
    exact (this 64 (by omega)).symm
  | succ p ih => rw [sumK, ih, keysN, key 64 (by omega) p]
theorem kcn_all {L : List Ls} {p : Nat → Bool} : ∀ n : Nat, (∀ k : Nat, k < n → p (atL L k) = true) → kcn L p n = n
  | 0, _ => rfl
  | n + 1, h => by rw [kcn, kcn_all n (fun k hk => h k (by omega)), if_pos (h n (by omega))]
theorem sumK_all {L : List Ls} (hv : lvB L = true) : sumK L 64 = 64 := by
  have hl := (lv_len hv).1
  have ho : ∀ k : Nat, 0 ≤ (gl L (atL L k)).o ∧ (gl L (atL L k)).o < 64 := fun k => lv_o hv (at_lt (by omega) _)
  rw [sumK_is (fun k _ => (ho k).1), kcn_all]
  intro k _
  have := ho k
  simp only [decide_eq_true_eq]; omega
theorem sumK_le (L : List Ls) (p : Nat) : sumK L p ≤ 64 * p := by
  induction p with
  | zero => simp [sumK]
  | succ p ih => have := kcn_le L (ownB L p) 64; simp only [sumK, keysN]; omega

set_option maxHeartbeats 2000000 in
theorem keysSum (s : Option Addr) (len cap : Nat) (z : List Int) (w : World) (h : RowIn .u8 w s len cap z) :
    Calls Try.prog 8 #[.slice s len cap] w fun e w' => e = .returned (.bool true) ∧ Below w.heap.size w w' := by
  have hb := bytes_of_row h
  have hm : len ≤ maxLen := Nat.le_trans hb.1 hb.2.1
  unfold maxLen at hm
  clear h
  by_cases hl : 1048576 < len
  · go_enter Try.func8, Try.ntmps8
    go_wp2
    go_ret
    exact ⟨rfl, Below.refl _ _⟩
  have hlB : decide ((1048576 : Int) < (len : Int)) = false := by simp; omega
  have HBY := Lib.hid hb
  clear hb
  go_enter Try.func8, Try.ntmps8
  go_wp2_with fail
  refine (drawLeaseKeys s len cap w HBY.out).mono ?_
  rintro e w1 ⟨g, c, L, ow, rfl, hl12, ho, hb1⟩
  have O1 := Lib.hid ho
  have hmx : Hid (L.length ≤ maxLen) := by show _ ≤ maxLen; unfold maxLen; omega
  clear ho
  go_wp2_with fail
  refine (keys_any _ _ _ L ow w1 O1.out.ls rfl hmx.out).mono ?_
  rintro e w2 ⟨rfl, hb2⟩
  have hB2 : Below w.heap.size w w2 := hb1.trans (hb2.mono hb1.size)
  have O2 := Lib.hid (O1.out.keepB hb2 (Nat.le_refl _))
  go_wp2_with fail
  refine (skeys_any _ _ _ L ow w2 O2.out.ls rfl hmx.out).mono ?_
  rintro e w3 ⟨rfl, hb3⟩
  have hB3 : Below w.heap.size w w3 := hB2.trans (hb3.mono hB2.size)
  have O3 := Lib.hid (O2.out.keepB hb3 (Nat.le_refl _))
  have q1 : (keysI L ow != keysI L ow) = false := by simp
  have q1' : (keysI L ow == keysI L ow) = true := by simp
  cases hok : (lvB L && ptB ow)
  · have hk : keysI L ow = -1 := by unfold keysI; rw [hok]; rfl
    have q2 : decide (keysI L ow < 0) = true := by rw [hk]; rfl
    clear hk hok
    go_wp2
    go_ret
    exact ⟨rfl, hB3⟩
  have hk : keysI L ow = (keysN L ow : Int) := by unfold keysI; rw [hok]; rfl
  have q2 : decide (keysI L ow < 0) = false := by rw [hk, decide_eq_false_iff_not]; omega
  have hv : lvB L = true := by simp only [Bool.and_eq_true] at hok; exact hok.1
  have HV := Lib.hid hv
  clear hk hok hv
  go_wp2
  clear q1 q1' q2
  go_loopw [7, 8] (fun n i wr => ∃ k : Nat, k ≤ 64 ∧ i = .int .i64 k ∧ n = .int .i64 (sumK L k : Nat) ∧ Below w3.heap.size w3 wr) (fun _ i _ => 64 - (intOf i).toNat)
  case atStart => exact ⟨0, by omega, rfl, rfl, Below.refl _ _⟩
  case round =>
    obtain ⟨k, hk, rfl, rfl, hbel⟩ := hrel
    have hsl := sumK_le L k
    by_cases hlt : k < 64
    · have hcall := keys_any _ _ c L (k : Int) wr (O3.out.keepB hbel (Nat.le_refl _)).ls rfl hmx.out
      rw [keysI_yes HV.out (by rw [ptB_iff]; omega)] at hcall
      have HC := Lib.hid hcall
      have hkn := kcn_le L (ownB L k) 64
      have hs : Hid (sumK L (k + 1) = sumK L k + keysN L k) := rfl
      have hkn' : keysN L k ≤ 64 := hkn
      clear hcall hkn
      go_wp2_with fail
      refine HC.out.mono ?_
      rintro e w4 ⟨rfl, hb4⟩
      go_wp2
      go_roundw
      case rel => exact ⟨k + 1, by omega, by go_num, by rw [hs.out]; go_num, hbel.trans (hb4.mono hbel.size)⟩
      case measure => simp [intOf]; omega
    · obtain rfl : k = 64 := by omega
      have h64 := Lib.hid (sumK_all HV.out)
      rw [h64.out]
      go_wp2
      go_ret
      exact ⟨rfl, hB3.trans (hbel.mono hB3.size)⟩

end Go.Proofs.Ytoaamamconcieab
