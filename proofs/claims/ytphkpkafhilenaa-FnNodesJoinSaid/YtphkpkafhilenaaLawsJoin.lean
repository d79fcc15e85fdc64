/- The walk of the law of a joining node. -/
import Derived.Test.YtphkpkafhilenaaNodesDraw
import Derived.Test.YtphkpkafhilenaaJoinMath
import Derived.Test.YtphkpkafhilenaaDrawCircle
namespace Go.Proofs.Ytphkpkafhilenaa
open Go.RowKit
set_option linter.unusedVariables false

theorem IntsAt.later {w w' : World} {B : Nat} {a : Option Addr} {zs : List Int} (h : IntsAt w a zs) (hb : Below B w w') (hB : w.heap.size ≤ B) : IntsAt w' a zs := by
  rcases h with h0 | ⟨b, off, ha, hlt, hc⟩
  · exact .inl h0
  · exact .inr ⟨b, off, ha, Nat.lt_of_lt_of_le hlt hb.size, fun i hi => (hb.cell (p := ⟨b, off + i, none⟩) (Nat.lt_of_lt_of_le hlt hB)).trans (hc i hi)⟩

def JoinAt (w2 : World) (zs : List Int) (p : Int) (k : Nat) (v : Value) (wr : World) : Prop :=
  ∃ (g cap : Nat), v = .slice (some ⟨g, 0, none⟩) (joinTo zs p k).length cap ∧ OwnI wr w2.heap.size (some ⟨g, 0, none⟩) cap (joinTo zs p k) ∧ Below w2.heap.size w2 wr

set_option maxHeartbeats 2000000 in
theorem nodesJoin (s : Option Addr) (len cap : Nat) (z : List Int) (s2 : Option Addr) (len2 cap2 : Nat) (z2 : List Int) (w : World) (h : RowIn .u8 w s len cap z) (h2 : RowIn .u8 w s2 len2 cap2 z2) :
    Calls Try.prog 13 #[.slice s len cap, .slice s2 len2 cap2] w fun e w' => e = .returned (.bool true) ∧ Below w.heap.size w w' := by
  have hb := bytes_of_row h
  have hb2 := bytes_of_row h2
  have hm : len ≤ maxLen := Nat.le_trans hb.1 hb.2.1
  have hm2 : len2 ≤ maxLen := Nat.le_trans hb2.1 hb2.2.1
  unfold maxLen at hm hm2
  clear h h2
  by_cases hl : 1048576 < len
  · go_enter Try.func13, Try.ntmps13
    go_wp2
    go_ret
    exact ⟨rfl, Below.refl _ _⟩
  by_cases hl2 : 1048576 < len2
  · go_enter Try.func13, Try.ntmps13
    go_wp2
    go_ret
    exact ⟨rfl, Below.refl _ _⟩
  have hlB : decide ((1048576 : Int) < (len : Int)) = false := by simp; omega
  have hlB2 : decide ((1048576 : Int) < (len2 : Int)) = false := by simp; omega
  go_enter Try.func13, Try.ntmps13
  go_wp2_with fail
  refine (drawNodesNext s len cap w hb).mono ?_
  rintro e w1 ⟨a, cap1, zs, key, rfl, hi1, hl1, hlc1, hB1⟩
  have hI1 := hi1.ints
  have hmx : zs.length ≤ maxLen := by unfold maxLen; omega
  have HM := Lib.hid hmx
  clear hmx
  go_wp2_with fail
  refine (nnext_any a _ cap1 zs key w1 hI1 rfl HM.out).mono ?_
  rintro e w' ⟨rfl, rfl⟩
  go_wp2_with fail
  refine (snnext_any a _ cap1 zs key w1 hI1 rfl HM.out).mono ?_
  rintro e w2 ⟨rfl, hs2⟩
  have hB2 : Below w.heap.size w w2 := hB1.trans (hs2.below _)
  have hI2 := hI1.same hs2
  have hsame : (nxtI zs key != nxtI zs key) = false := by simp
  have hsame' : (nxtI zs key == nxtI zs key) = true := by simp
  by_cases hneg : nxtI zs key < 0
  · go_wp2
    go_ret
    exact ⟨rfl, hB2⟩
  obtain ⟨hv, hk⟩ := nxtI_nonneg (zs := zs) (key := key) (by omega)
  have hln := vld_len hv
  by_cases h10 : zs.length = 10
  · have h10B : ((zs.length : Int) == 10) = true := by simp; omega
    clear h10
    go_wp2
    go_ret
    exact ⟨rfl, hB2⟩
  have h10B : ((zs.length : Int) == 10) = false := by simp; omega
  have hl9 : zs.length ≤ 9 := by omega
  clear h10
  have hp0 : 0 ≤ (len2 : Int) % 64 := by omega
  have hp1 : (len2 : Int) % 64 < 64 := by omega
  by_cases hhp : hasB zs ((len2 : Int) % 64) = true
  · go_wp2_with (go_at_call 29; refine (lhas_any _ _ _ zs _ _ hI2 rfl HM.out).mono ?_; rintro e w' ⟨rfl, rfl⟩)
    go_ret
    exact ⟨rfl, hB2⟩
  have hhp : hasB zs ((len2 : Int) % 64) = false := by simpa using hhp
  have h0 : JoinAt w2 zs ((len2 : Int) % 64) 0 (.slice (some ⟨w2.heap.size, 0, none⟩) 0 0) (w2.alloc (.cells #[] 3)) :=
    ⟨w2.heap.size, 0, rfl, own_empty (heap_alloc_new w2 _) (Nat.le_refl _), (Below.refl _ _).alloc (Nat.le_refl _) _⟩
  go_wp2_with (go_at_call 29; refine (lhas_any _ _ _ zs _ _ hI2 rfl HM.out).mono ?_; rintro e w' ⟨rfl, rfl⟩)
  generalize hpe : (len2 : Int) % 64 = p at *
  have HPE := Lib.hid hpe
  clear hpe
  go_loopw [10, 11] (fun v i wr => ∃ k : Nat, k ≤ 64 ∧ i = .int .i64 k ∧ JoinAt w2 zs p k v wr) (fun _ i _ => 64 - (intOf i).toNat)
  case atStart => exact ⟨0, by omega, rfl, h0⟩
  case round =>
    obtain ⟨k, hkl, rfl, g, cap3, rfl, hown, hB3⟩ := hrel
    clear h0
    have hIr := hI2.later hB3 (Nat.le_refl _)
    have hjl := joinTo_len zs p k
    have hz3 := hB3.size
    by_cases hlt : k < 64
    · cases hin : (hasB zs (k : Int) || ((k : Int) == p))
      · have hj : joinTo zs p (k + 1) = joinTo zs p k := by rw [joinTo, hin]; rfl
        have HJ := Lib.hid hj
        clear hj
        have hin1 : hasB zs (k : Int) = false := by rw [Bool.or_eq_false_iff] at hin; exact hin.1
        have hin2 : ((k : Int) == p) = false := by rw [Bool.or_eq_false_iff] at hin; exact hin.2
        clear hin
        go_wp2_with (go_at_call 29; refine (lhas_any _ _ _ zs _ _ hIr rfl HM.out).mono ?_; rintro e w' ⟨rfl, rfl⟩)
        go_roundw
        case rel => exact ⟨k + 1, by omega, by go_num, g, cap3, by rw [HJ.out], by rw [HJ.out]; exact hown, hB3⟩
        case measure => simp [intOf]; omega
      · have hj : joinTo zs p (k + 1) = joinTo zs p k ++ [(k : Int)] := by rw [joinTo, hin]; rfl
        have HJ := Lib.hid hj
        clear hj
        have hcase : hasB zs (k : Int) = true ∨ (hasB zs (k : Int) = false ∧ ((k : Int) == p) = true) := by
          cases hh : hasB zs (k : Int)
          · rw [hh, Bool.false_or] at hin; exact .inr ⟨rfl, hin⟩
          · exact .inl rfl
        clear hin
        rcases hcase with hh | ⟨hh, hh'⟩
        all_goals
          go_wp2_with (first
            | (go_at_call 29; refine (lhas_any _ _ _ zs _ _ hIr rfl HM.out).mono ?_; rintro e w' ⟨rfl, rfl⟩)
            | (at_builtin; refine wl_app _ (by rfl) _ _ (by rfl) w2.heap.size g (joinTo zs p k).length cap3 (vals (joinTo zs p k)) (by rfl) (hown.alloc _) ⟨wr.heap.size, 0, none⟩ 1 1 [.int .i64 (k : Int)] (by rfl) rfl (src_one (heap_alloc_new wr _)) (by simp [Value.oneCell']) ((joinTo zs p k).length + 1) (vals (joinTo zs p k ++ [(k : Int)])) rfl (by simp [vals]) (by omega) (by simp; omega) ?_; intro g5 cap5 w5 hown5 hg5 hat5))
          have hg3 := (hown.lt g rfl).1
          have hB5 : Below w2.heap.size w2 w5 := Below.grown (hB3.alloc hz3 _) hg5 (by simp; omega) (fun _ e => by cases e; exact hg3)
          go_roundw
          case rel =>
            refine ⟨k + 1, by omega, by go_num, g5, cap5, ?_, ?_, hB5⟩
            · rw [HJ.out, List.length_append]; rfl
            · rw [HJ.out]; unfold OwnI; rw [List.length_append]; exact hown5
          case measure => simp [intOf]; omega
    · obtain rfl : k = 64 := by omega
      rw [show ((64 : Nat) : Int) = 64 from rfl]
      have hIa := hown.ints
      have hjv := join_valid (zs := zs) (p := p) hl9 hp0 hp1
      have hjm : (joinTo zs p 64).length ≤ maxLen := by unfold maxLen; omega
      have HJM := Lib.hid hjm
      clear hjm
      have hpp : ptB p = true := by rw [ptB_iff]; omega
      generalize hal : joinTo zs p 64 = al at *
      have HAL := Lib.hid hal
      clear hal
      have hBw : Below w.heap.size w wr := hB2.trans (hB3.mono hB2.size)
      go_wp2
      go_loop [12] (fun i => ∃ k : Nat, k ≤ 64 ∧ i = .int .i64 k) (fun i => 64 - (intOf i).toNat)
      case atStart => exact ⟨0, by omega, rfl⟩
      case round =>
        obtain ⟨k, hkl, rfl⟩ := hrel
        by_cases hlt : k < 64
        · have hkp : ptB (k : Int) = true := by rw [ptB_iff]; omega
          have e1 := nxtI_eq hjv hkp
          have e2 := nxtI_eq hv hkp
          have e3 := nxtI_eq hv hpp
          by_cases hne : nxtI al k = nxtI zs k
          · have hneB : (nxtI al k != nxtI zs k) = false := by simp [hne]
            clear hne e1 e2 e3
            go_wp2_with (first
              | (go_at_call_of 26 (Value.slice (some ⟨g, 0, none⟩) al.length cap3); refine (nnext_any _ _ _ al _ _ hIa rfl HJM.out).mono ?_; rintro e w' ⟨rfl, rfl⟩)
              | (go_at_call 26; refine (nnext_any _ _ _ zs _ _ hIr rfl HM.out).mono ?_; rintro e w' ⟨rfl, rfl⟩))
            go_round
            case rel => exact ⟨k + 1, by omega, by go_num⟩
            case measure => simp [intOf]; omega
          · have hjo := join_ok (k := (k : Int)) hv hl9 hp0 hp1 (by rw [HAL.out, ← e1, ← e2]; exact hne)
            rw [HAL.out, ← e1, ← e2, ← e3] at hjo
            have hneB : (nxtI al k != nxtI zs k) = true := by simp [hne]
            have hnp : (nxtI al k != p) = false := by simp [hjo.1]
            have hnn : (nxtI zs k != nxtI zs p) = false := by simp [hjo.2]
            clear hne e1 e2 e3 hjo
            go_wp2_with (first
              | (go_at_call_of 26 (Value.slice (some ⟨g, 0, none⟩) al.length cap3); refine (nnext_any _ _ _ al _ _ hIa rfl HJM.out).mono ?_; rintro e w' ⟨rfl, rfl⟩)
              | (go_at_call 26; refine (nnext_any _ _ _ zs _ _ hIr rfl HM.out).mono ?_; rintro e w' ⟨rfl, rfl⟩))
            go_round
            case rel => exact ⟨k + 1, by omega, by go_num⟩
            case measure => simp [intOf]; omega
        · go_wp2
          go_ret
          exact ⟨rfl, hBw⟩
end Go.Proofs.Ytphkpkafhilenaa
