/- The law of valid registers. -/
import Derived.Test.YtcjlohikfjafiaaRgDraw3
namespace Go.Proofs.Ytcjlohikfjafiaa
open Go.RowKit
set_option linter.unusedVariables false
attribute [local go_sem ↓] Go.wp_at_zero Go.wp_at_succ

set_option maxHeartbeats 4000000 in
theorem registerValid (s : Option Addr) (len cap : Nat) (z : List Int) (w : World) (h : RowIn .u8 w s len cap z) :
    Calls Try.prog 5 #[.slice s len cap] w fun e w' => e = .returned (.bool true) ∧ Below w.heap.size w w' := by
  have hb := bytes_of_row h
  have hm : len ≤ maxLen := Nat.le_trans hb.1 hb.2.1
  unfold maxLen at hm
  clear h
  by_cases hl : 1048576 < len
  · go_enter Try.func5, Try.ntmps5
    go_wp2
    go_ret
    exact ⟨rfl, Below.refl _ _⟩
  have hlB : decide ((1048576 : Int) < (len : Int)) = false := by simp; omega
  have HBY := Lib.hid hb
  have hgd := Try.eqReplica
  clear hb
  go_enter Try.func5, Try.ntmps5
  go_wp2_with fail
  refine (drawRegisterValid s len cap w HBY.out).mono ?_
  rintro e w1 ⟨g, c, L, rfl, hl1, hl10, ho, hb1⟩
  have hmx : Hid (L.length ≤ maxLen) := by show _ ≤ maxLen; unfold maxLen; omega
  have hlc : Hid (L.length ≤ c) := ho.blk.2.2.choose_spec.2.1
  have O1 := Lib.hid ho
  clear ho
  go_wp2_with fail
  refine (lvs_any _ _ _ L w1 O1.out.ls rfl hmx.out hlc.out).mono ?_
  rintro e w2 ⟨rfl, hb2⟩
  have hB2 : Below w.heap.size w w2 := hb1.trans (hb2.mono hb1.size)
  have O2 := Lib.hid (O1.out.keepB hb2 (Nat.le_refl _))
  go_wp2_with fail
  refine (slvs_any _ _ _ L w2 O2.out.ls rfl hmx.out).mono ?_
  rintro e w3 ⟨rfl, hb3⟩
  have hB3 : Below w.heap.size w w3 := hB2.trans (hb3.mono hB2.size)
  have O3 := Lib.hid (O2.out.keepB hb3 (Nat.le_refl _))
  clear hb1 hb2 hb3 hB2
  cases hok : lvB L
  · go_wp2
    go_ret
    exact ⟨rfl, hB3⟩
  have HV := Lib.hid hok
  have h15 := lv_len hok
  obtain ⟨h15a, h15b⟩ := h15
  clear hok
  go_wp2
  go_loopw [6] (fun i wr => ∃ k : Nat, k ≤ L.length ∧ i = .int .i64 k ∧ Same w3 wr) (fun i _ => L.length - (intOf i).toNat)
  case atStart => exact ⟨0, by omega, rfl, Same.refl _⟩
  case round =>
    obtain ⟨k, hk, rfl, hs⟩ := hrel
    by_cases hlt : k < L.length
    · obtain ⟨c0, c1, c2⟩ := O3.out.cells hlt
      have c0 := (hs.cell ⟨g, k * 3, none⟩).trans c0
      have c1 := (hs.cell ⟨g, k * 3 + 1, none⟩).trans c1
      have c2 := (hs.cell ⟨g, k * 3 + 2, none⟩).trans c2
      have hlz := (lzB_iff _).1 (lv_ls HV.out hlt)
      have hin : Hid (∀ (wx : World) (m : Nat), m < k → Same wx wx) := fun wx _ _ => Same.refl wx
      have HLT := Lib.hid hlt
      by_cases hz : (gl L k).e = 0
      · have ho : (gl L k).o = 0 := by omega
        have hu : (gl L k).u = 0 := by omega
        have H0 := Lib.hid (And.intro hz (And.intro ho hu))
        rw [hz] at c0
        rw [ho] at c1
        rw [hu] at c2
        clear hz ho hu hlz
        go_wp2
        clear c0 c1 c2
        go_loopw [7] (fun j wr2 => ∃ m : Nat, m ≤ k ∧ j = .int .i64 m ∧ Same w3 wr2) (fun j _ => k - (intOf j).toNat)
        case atStart => exact ⟨0, by omega, rfl, hs⟩
        case round =>
          obtain ⟨m, hmk, rfl, hs2⟩ := hrel
          by_cases hlm : m < k
          · obtain ⟨c0, c1, c2⟩ := O3.out.cells HLT.out
            obtain ⟨d0, d1, d2⟩ := O3.out.cells (i := m) (by have := HLT.out; omega)
            have c0 := (hs2.cell ⟨g, k * 3, none⟩).trans c0
            have c1 := (hs2.cell ⟨g, k * 3 + 1, none⟩).trans c1
            have c2 := (hs2.cell ⟨g, k * 3 + 2, none⟩).trans c2
            have d0 := (hs2.cell ⟨g, m * 3, none⟩).trans d0
            have d1 := (hs2.cell ⟨g, m * 3 + 1, none⟩).trans d1
            have d2 := (hs2.cell ⟨g, m * 3 + 2, none⟩).trans d2
            have i0 : (0 : Int) ≤ (k : Int) := by omega
            have i1 : (k : Int) < (L.length : Int) := by omega
            have j0 : (0 : Int) ≤ (m : Int) := by omega
            have j1 : (m : Int) < (L.length : Int) := by omega
            have j2 : m < L.length := by omega
            have HC := Lib.hid ((cfB_no _ _).1 (lv_cf HV.out (j := k) (k := m) (by omega) (by omega)))
            cases e0 : ((gl L m).e == (gl L k).e)
            · go_wp2
              go_quiet (fail)
              go_wp2
              go_roundw
              case rel => exact ⟨m + 1, by omega, by go_num, hs2.drewN _⟩
              case measure => simp [intOf]; omega
            cases e1 : ((gl L m).o == (gl L k).o)
            · go_wp2
              go_quiet (fail)
              go_wp2
              go_roundw
              case rel => exact ⟨m + 1, by omega, by go_num, hs2.drewN _⟩
              case measure => simp [intOf]; omega
            · have e2 : ((gl L m).u == (gl L k).u) = true := by simp at e0 e1; simp [HC.out e0 e1]
              go_wp2
              go_quiet (fail)
              go_wp2
              go_roundw
              case rel => exact ⟨m + 1, by omega, by go_num, hs2.drewN _⟩
              case measure => simp [intOf]; omega
          · go_wp2
            go_roundw
            case rel => exact ⟨k + 1, by omega, by go_num, hs2⟩
            case measure => simp [intOf]; omega
      · have hz' : ((gl L k).e == 0) = false := by simp [hz]
        clear hz hlz
        go_wp2
        clear c0 c1 c2 hz'
        go_loopw [7] (fun j wr2 => ∃ m : Nat, m ≤ k ∧ j = .int .i64 m ∧ Same w3 wr2) (fun j _ => k - (intOf j).toNat)
        case atStart => exact ⟨0, by omega, rfl, hs⟩
        case round =>
          obtain ⟨m, hmk, rfl, hs2⟩ := hrel
          by_cases hlm : m < k
          · obtain ⟨c0, c1, c2⟩ := O3.out.cells HLT.out
            obtain ⟨d0, d1, d2⟩ := O3.out.cells (i := m) (by have := HLT.out; omega)
            have c0 := (hs2.cell ⟨g, k * 3, none⟩).trans c0
            have c1 := (hs2.cell ⟨g, k * 3 + 1, none⟩).trans c1
            have c2 := (hs2.cell ⟨g, k * 3 + 2, none⟩).trans c2
            have d0 := (hs2.cell ⟨g, m * 3, none⟩).trans d0
            have d1 := (hs2.cell ⟨g, m * 3 + 1, none⟩).trans d1
            have d2 := (hs2.cell ⟨g, m * 3 + 2, none⟩).trans d2
            have i0 : (0 : Int) ≤ (k : Int) := by omega
            have i1 : (k : Int) < (L.length : Int) := by omega
            have j0 : (0 : Int) ≤ (m : Int) := by omega
            have j1 : (m : Int) < (L.length : Int) := by omega
            have j2 : m < L.length := by omega
            have HC := Lib.hid ((cfB_no _ _).1 (lv_cf HV.out (j := k) (k := m) (by omega) (by omega)))
            cases e0 : ((gl L m).e == (gl L k).e)
            · go_wp2
              go_quiet (fail)
              go_wp2
              go_roundw
              case rel => exact ⟨m + 1, by omega, by go_num, hs2.drewN _⟩
              case measure => simp [intOf]; omega
            cases e1 : ((gl L m).o == (gl L k).o)
            · go_wp2
              go_quiet (fail)
              go_wp2
              go_roundw
              case rel => exact ⟨m + 1, by omega, by go_num, hs2.drewN _⟩
              case measure => simp [intOf]; omega
            · have e2 : ((gl L m).u == (gl L k).u) = true := by simp at e0 e1; simp [HC.out e0 e1]
              go_wp2
              go_quiet (fail)
              go_wp2
              go_roundw
              case rel => exact ⟨m + 1, by omega, by go_num, hs2.drewN _⟩
              case measure => simp [intOf]; omega
          · go_wp2
            go_roundw
            case rel => exact ⟨k + 1, by omega, by go_num, hs2⟩
            case measure => simp [intOf]; omega
    · have hd : decide ((L.length : Int) ≤ 5) = true := by simp; omega
      go_wp2
      go_ret
      exact ⟨rfl, hB3.trans (hs.below _)⟩
end Go.Proofs.Ytcjlohikfjafiaa
