/- The walk of the law of valid nodes. -/
import Derived.Test.YtphkpkafhilenaaNodesDraw
import Derived.Test.YtphkpkafhilenaaJoinMath
import Derived.Test.YtphkpkafhilenaaDrawCircle
namespace Go.Proofs.Ytphkpkafhilenaa
open Go.RowKit
set_option linter.unusedVariables false
attribute [local go_sem ↓] Go.wp_at_zero Go.wp_at_succ

theorem IntsAt.later2 {w w' : World} {B : Nat} {a : Option Addr} {zs : List Int} (h : IntsAt w a zs) (hb : Below B w w') (hB : w.heap.size ≤ B) : IntsAt w' a zs := by
  rcases h with h0 | ⟨b, off, ha, hlt, hc⟩
  · exact .inl h0
  · exact .inr ⟨b, off, ha, Nat.lt_of_lt_of_le hlt hb.size, fun i hi => (hb.cell (p := ⟨b, off + i, none⟩) (Nat.lt_of_lt_of_le hlt hB)).trans (hc i hi)⟩

theorem gt_less {zs : List Int} {k i : Nat} (hk : k < zs.length) : gt (zs.take k ++ zs.drop (k + 1)) i = if i < k then gt zs i else gt zs (i + 1) := by
  unfold gt
  simp only [List.getD_eq_getElem?_getD, List.getElem?_append, List.length_take, List.getElem?_take, List.getElem?_drop]
  rw [show min k zs.length = k by omega]
  by_cases h : i < k
  · simp [h]
  · rw [if_neg h, if_neg h, show k + 1 + (i - k) = i + 1 by omega]
theorem gt_twice {zs : List Int} {k i : Nat} (hk : k < zs.length) : gt (zs.take (k + 1) ++ zs.drop k) i = if i < k + 1 then gt zs i else gt zs (i - 1) := by
  unfold gt
  simp only [List.getD_eq_getElem?_getD, List.getElem?_append, List.length_take, List.getElem?_take, List.getElem?_drop]
  rw [show min (k + 1) zs.length = k + 1 by omega]
  by_cases h : i < k + 1
  · simp [h]
  · rw [if_neg h, if_neg h, show k + (i - (k + 1)) = i - 1 by omega]
theorem less_len {zs : List Int} {k : Nat} (hk : k < zs.length) : (zs.take k ++ zs.drop (k + 1)).length = zs.length - 1 := by simp; omega
theorem twice_len {zs : List Int} {k : Nat} (hk : k < zs.length) : (zs.take (k + 1) ++ zs.drop k).length = zs.length + 1 := by simp; omega
theorem asc_less {zs : List Int} {k : Nat} (hk : k < zs.length) (ha : ascTo zs zs.length = true) : ∀ m, m ≤ zs.length - 1 → ascTo (zs.take k ++ zs.drop (k + 1)) m = true := by
  intro m
  induction m with
  | zero => intro _; rfl
  | succ m ih =>
    intro hm
    rw [ascTo, ih (by omega), Bool.true_and, okAt, gt_less hk]
    have hp : ptB (if m < k then gt zs m else gt zs (m + 1)) = true := by
      split
      · exact asc_pt ha (by omega)
      · exact asc_pt ha (by omega)
    rw [hp, Bool.true_and, Bool.or_eq_true, decide_eq_true_eq, decide_eq_true_eq]
    rcases Nat.eq_zero_or_pos m with e | e
    · exact .inl e
    · refine .inr ?_
      rw [gt_less hk]
      split <;> split <;> exact asc_lt ha (by omega) (by omega)
theorem vld_less {zs : List Int} {k : Nat} (hk : k < zs.length) (hv : vldB zs = true) : vldB (zs.take k ++ zs.drop (k + 1)) = decide (1 < zs.length) := by
  have hl := vld_len hv
  have ha := asc_less hk (vld_asc hv) (zs.length - 1) (Nat.le_refl _)
  simp only [vldB]
  rw [less_len hk, ha, Bool.and_true, decide_eq_decide]
  omega
theorem vld_twice {zs : List Int} {k : Nat} (hk : k < zs.length) : vldB (zs.take (k + 1) ++ zs.drop k) = false := by
  refine vld_no_lt (j := k) (by rw [twice_len hk]; omega) ?_
  rw [gt_twice hk, gt_twice hk, if_neg (by omega), if_pos (by omega), Nat.add_sub_cancel]
  omega

theorem src_len0 {l : List Int} (h : l.length = 0) (W : World) (ad : Addr) : ∀ j u, (vals l)[j]? = some u → W.cell? (ad.add j) = some u := by
  have : l = [] := List.eq_nil_of_length_eq_zero h
  subst this; exact src_none W ad

theorem srcf_take {w W : World} {b off k B : Nat} {zs : List Int} (h : ∀ i, i < zs.length → w.cell? ⟨b, off + i, none⟩ = some (.int .i64 (gt zs i))) (hb : b < B) (hB : Below B w W) :
    ∀ j u, (vals (zs.take k))[j]? = some u → W.cell? ((⟨b, off, none⟩ : Addr).add j) = some u := by
  intro j u hu
  have hj : j < (zs.take k).length := by
    rcases Nat.lt_or_ge j (zs.take k).length with h' | h'
    · exact h'
    · rw [List.getElem?_eq_none (by rw [vals_len]; exact h')] at hu; cases hu
  have hj' : j < zs.length := by simp at hj; omega
  rw [vals_get hj] at hu
  rw [add_plain, hB.cell (p := ⟨b, off + j, none⟩) hb, h j hj', ← hu]
  simp [gt_get hj, gt_get hj']
theorem srcf_drop {w W : World} {b off k B : Nat} {zs : List Int} (h : ∀ i, i < zs.length → w.cell? ⟨b, off + i, none⟩ = some (.int .i64 (gt zs i))) (hb : b < B) (hB : Below B w W) :
    ∀ j u, (vals (zs.drop k))[j]? = some u → W.cell? ((⟨b, off + k, none⟩ : Addr).add j) = some u := by
  intro j u hu
  have hj : j < (zs.drop k).length := by
    rcases Nat.lt_or_ge j (zs.drop k).length with h' | h'
    · exact h'
    · rw [List.getElem?_eq_none (by rw [vals_len]; exact h')] at hu; cases hu
  have hj' : k + j < zs.length := by simp at hj; omega
  rw [vals_get hj] at hu
  rw [add_plain, Nat.add_assoc, hB.cell (p := ⟨b, off + (k + j), none⟩) hb, h (k + j) hj', ← hu]
  simp [gt_get hj, gt_get hj']

set_option maxHeartbeats 2000000 in
theorem nodesValid (s : Option Addr) (len cap : Nat) (z : List Int) (s2 : Option Addr) (len2 cap2 : Nat) (z2 : List Int) (w : World) (h : RowIn .u8 w s len cap z) (h2 : RowIn .u8 w s2 len2 cap2 z2) :
    Calls Try.prog 14 #[.slice s len cap, .slice s2 len2 cap2] w fun e w' => e = .returned (.bool true) ∧ Below w.heap.size w w' := by
  have hb := bytes_of_row h
  have hb2 := bytes_of_row h2
  have hm : len ≤ maxLen := Nat.le_trans hb.1 hb.2.1
  have hm2 : len2 ≤ maxLen := Nat.le_trans hb2.1 hb2.2.1
  unfold maxLen at hm hm2
  clear h h2
  by_cases hl : 1048576 < len
  · go_enter Try.func14, Try.ntmps14
    go_wp2
    go_ret
    exact ⟨rfl, Below.refl _ _⟩
  by_cases hl2 : 1048576 < len2
  · go_enter Try.func14, Try.ntmps14
    go_wp2
    go_ret
    exact ⟨rfl, Below.refl _ _⟩
  have hlB : decide ((1048576 : Int) < (len : Int)) = false := by simp; omega
  have hlB2 : decide ((1048576 : Int) < (len2 : Int)) = false := by simp; omega
  go_enter Try.func14, Try.ntmps14
  go_wp2_with fail
  refine (drawNodesValid s len cap w hb).mono ?_
  rintro e w1 ⟨a, cap1, zs, rfl, hi1, hl1, hlc1, hB1⟩
  have hI1 := hi1.ints
  have hmx : zs.length ≤ maxLen := by unfold maxLen; omega
  have HM := Lib.hid hmx
  clear hmx
  go_wp2_with fail
  refine (nvalid_any a _ cap1 zs w1 hI1 rfl HM.out).mono ?_
  rintro e w' ⟨rfl, rfl⟩
  go_wp2_with fail
  refine (svalid_any a _ cap1 zs w1 hI1 rfl HM.out).mono ?_
  rintro e w2 ⟨rfl, hs2⟩
  have hB2 : Below w.heap.size w w2 := hB1.trans (hs2.below _)
  have hI2 := hI1.same hs2
  cases hv : vldB zs
  · go_wp2
    go_ret
    exact ⟨rfl, hB2⟩
  have hln := vld_len hv
  have hat : ∃ b off, a = some ⟨b, off, none⟩ ∧ b < w2.heap.size ∧ ∀ i, i < zs.length → w2.cell? ⟨b, off + i, none⟩ = some (.int .i64 (gt zs i)) := by
    rcases hI2 with h0 | ⟨b, off, ha, hb, hc⟩
    · rw [h0] at hln; simp at hln
    · exact ⟨b, off, ha, hb, hc⟩
  obtain ⟨b, off, ha, hblt, hcell⟩ := hat
  subst ha
  have HC := Lib.hid hcell
  clear hcell hI1 hI2 hi1
  obtain ⟨k, hke⟩ : ∃ k : Nat, (len2 : Int) % (zs.length : Int) = (k : Int) := ⟨len2 % zs.length, rfl⟩
  have hkl : k < zs.length := by
    have := Int.emod_lt_of_pos (len2 : Int) (show (0 : Int) < (zs.length : Int) by omega)
    omega
  go_wp2
  rw [hke]
  have HKE := Lib.hid hke
  clear hke
  have hBr := Below.refl w2.heap.size w2
  have hk0 : (0 : Int) ≤ (k : Int) := by omega
  have hk1 : (k : Int) ≤ (cap1 : Int) := by omega
  have hk1' : k ≤ cap1 := by omega
  have hk2 : (0 : Int) ≤ (k : Int) + 1 := by omega
  have hk3 : (k : Int) + 1 ≤ (zs.length : Int) := by omega
  have hk3' : k + 1 ≤ zs.length := by omega
  have hk4 : IntKind.i64.wrap ((k : Int) + 1) = (k : Int) + 1 := IntWalk.i64_in _ (by omega)
  have hk5 : ¬ cap1 = k := by omega
  have hk6 : (k : Int) + 1 ≤ (cap1 : Int) := by omega
  have hk7 : k + 1 ≤ cap1 := by omega
  have hk8 : k ≤ zs.length := by omega
  by_cases hck : cap1 = k + 1
  · subst hck
    have hn1' : zs.length - (k + 1) = 0 := by omega
    have HN2 := Lib.hid hn1'
    clear hn1'
    have hkk : (k : Int) ≤ (k : Int) + 1 := by omega
    go_region_law ((first
      | (refine step_app (o := ⟨some 44, _, _, _, _, _⟩) _ (by rfl) (.tmp 40) (.tmp 43) (by rfl) w2.heap.size _ 0 0 [] (by rfl) (own_empty (by first | exact heap_alloc_new w2 _) (by simp)) ⟨b, off, none⟩ k (k + 1) (vals (zs.take k)) (by rfl) (by rw [vals_len, List.length_take]; omega) (srcf_take HC.out hblt (by repeat (first | exact hBr | apply Below.drew | (refine Below.alloc ?_ (by first | exact Nat.le_refl _ | (simp; done) | (simp; omega) | omega) _)))) (vals_one _) k (vals (zs.take k)) (by omega) (by simp) (by omega) (by first | exact Nat.le_refl _ | (simp; done) | (simp; omega) | omega) ?_
         intro g3 capg3 w3 howng3 hgg3 hatg3
         have hBg3 : Below w2.heap.size w2 w3 := Below.grown (by repeat (first | exact hBr | apply Below.drew | (refine Below.alloc ?_ (by first | exact Nat.le_refl _ | (simp; done) | (simp; omega) | omega) _))) hgg3 (by first | exact Nat.le_refl _ | (simp; done) | (simp; omega) | omega) (by first | (simp; done) | (simp; omega))
         have hzg3 := hBg3.size)
      | (refine step_app (o := ⟨some 49, _, _, _, _, _⟩) _ (by rfl) (.tmp 44) (.tmp 48) (by rfl) w2.heap.size g3 k capg3 (vals (zs.take k)) (by rfl) (by exact howng3) ⟨b, off, none⟩ 0 0 (vals (zs.drop (k + 1))) (by rfl) (by rw [vals_len, List.length_drop]; exact HN2.out) (src_len0 (by rw [List.length_drop]; exact HN2.out) _ _) (by first | exact vals_one _ | simp) (zs.length - 1) (vals (zs.take k ++ zs.drop (k + 1))) (by omega) (by simp [vals]) (by omega) hzg3 ?_
         intro g4 capg4 w4 howng4 hgg4 hatg4
         have hBg4 : Below w2.heap.size w2 w4 := Below.grown (by repeat (first | exact hBg3 | apply Below.drew | (refine Below.alloc ?_ (by first | exact Nat.le_refl _ | (simp; done) | (simp; omega) | omega) _))) hgg4 hzg3 (fun _ hk => by cases hk; exact (howng3.lt g3 rfl).1)
         have hzg4 := hBg4.size)))
    go_simp
    go_wp2
    have hBr4 := Below.refl w4.heap.size w4
    have hblt4 : b < w4.heap.size := by omega
    have hc4 : ∀ i, i < zs.length → w4.cell? ⟨b, off + i, none⟩ = some (.int .i64 (gt zs i)) := fun i hi => (hBg4.cell (p := ⟨b, off + i, none⟩) hblt).trans (HC.out i hi)
    have HC4 := Lib.hid hc4
    clear hc4
    go_region_law ((first
      | (refine step_app (o := ⟨some 55, _, _, _, _, _⟩) _ (by rfl) (.tmp 50) (.tmp 54) (by rfl) w4.heap.size _ 0 0 [] (by rfl) (own_empty (by first | exact heap_alloc_new w4 _) (by simp)) ⟨b, off, none⟩ (k + 1) (k + 1) (vals (zs.take (k + 1))) (by rfl) (by rw [vals_len, List.length_take]; omega) (srcf_take HC4.out hblt4 (by repeat (first | exact hBr4 | apply Below.drew | (refine Below.alloc ?_ (by first | exact Nat.le_refl _ | (simp; done) | (simp; omega) | omega) _)))) (vals_one _) (k + 1) (vals (zs.take (k + 1))) (by omega) (by simp) (by omega) (by first | exact Nat.le_refl _ | (simp; done) | (simp; omega) | omega) ?_
         intro g5 capg5 w5 howng5 hgg5 hatg5
         have hBg5 : Below w4.heap.size w4 w5 := Below.grown (by repeat (first | exact hBr4 | apply Below.drew | (refine Below.alloc ?_ (by first | exact Nat.le_refl _ | (simp; done) | (simp; omega) | omega) _))) hgg5 (by first | exact Nat.le_refl _ | (simp; done) | (simp; omega) | omega) (by first | (simp; done) | (simp; omega))
         have hzg5 := hBg5.size)
      | (refine step_app (o := ⟨some 59, _, _, _, _, _⟩) _ (by rfl) (.tmp 55) (.tmp 58) (by rfl) w4.heap.size g5 (k + 1) capg5 (vals (zs.take (k + 1))) (by rfl) (by exact howng5) ⟨b, off + k, none⟩ (zs.length - k) _ (vals (zs.drop k)) (by rfl) (by first | rfl | (rw [vals_len, List.length_drop])) (srcf_drop HC4.out hblt4 (by repeat (first | exact hBg5 | apply Below.drew | (refine Below.alloc ?_ (by first | exact Nat.le_refl _ | (simp; done) | (simp; omega) | omega) _)))) (by first | exact vals_one _ | simp) (zs.length + 1) (vals (zs.take (k + 1) ++ zs.drop k)) (by omega) (by simp [vals]) (by omega) hzg5 ?_
         intro g6 capg6 w6 howng6 hgg6 hatg6
         have hBg6 : Below w4.heap.size w4 w6 := Below.grown (by repeat (first | exact hBg5 | apply Below.drew | (refine Below.alloc ?_ (by first | exact Nat.le_refl _ | (simp; done) | (simp; omega) | omega) _))) hgg6 hzg5 (fun _ hk => by cases hk; exact (howng5.lt g5 rfl).1)
         have hzg6 := hBg6.size)))
    have hL : OwnI w4 w2.heap.size (some ⟨g4, 0, none⟩) capg4 (zs.take k ++ zs.drop (k + 1)) := by
      unfold OwnI; rw [less_len hkl]; exact howng4
    have hT : OwnI w6 w4.heap.size (some ⟨g6, 0, none⟩) capg6 (zs.take (k + 1) ++ zs.drop k) := by
      unfold OwnI; rw [twice_len hkl]; exact howng6
    have hLi := hL.ints.later2 hBg6 (Nat.le_refl _)
    have hTi := hT.ints
    have hv1 := vld_less hkl hv
    have hv2 := vld_twice hkl
    have hll := less_len hkl
    have htl := twice_len hkl
    generalize zs.take k ++ zs.drop (k + 1) = less at *
    generalize zs.take (k + 1) ++ zs.drop k = twice at *
    have hB6 : Below w.heap.size w w6 := hB2.trans ((hBg4.mono hB2.size).trans (hBg6.mono (Nat.le_trans hB2.size hBg4.size)))
    have HLL := Lib.hid hll
    have HTL := Lib.hid htl
    clear hll htl hk4 hL hT
    have hd : decide ((1 : Int) < (zs.length : Int)) = decide (1 < zs.length) := by rw [decide_eq_decide]; omega
    have HD := Lib.hid hd
    clear hd
    by_cases hone : 1 < zs.length
    · have hv1' : vldB less = true := by rw [hv1]; simp [hone]
      clear hv1
      go_simp
      go_wp2_with fail
      refine (nvalid_any _ _ _ less _ hLi HLL.out (by unfold maxLen; omega)).mono ?_
      rintro e w' ⟨rfl, rfl⟩
      go_wp2_with fail
      refine (nvalid_any _ _ _ twice _ hTi HTL.out (by unfold maxLen; omega)).mono ?_
      rintro e w' ⟨rfl, rfl⟩
      go_wp2
      go_ret
      exact ⟨rfl, hB6⟩
    · have hv1' : vldB less = false := by rw [hv1]; simp; omega
      clear hv1
      have hle : (zs.length : Int) ≤ 1 := by omega
      go_simp
      go_wp2_with fail
      refine (nvalid_any _ _ _ less _ hLi HLL.out (by unfold maxLen; omega)).mono ?_
      rintro e w' ⟨rfl, rfl⟩
      go_wp2_with fail
      refine (nvalid_any _ _ _ twice _ hTi HTL.out (by unfold maxLen; omega)).mono ?_
      rintro e w' ⟨rfl, rfl⟩
      go_wp2
      go_ret
      exact ⟨ret_bool (by simp; omega), hB6⟩
  · have hck' : ¬ (cap1 : Int) = (k : Int) + 1 := by omega
    go_region_law ((first
      | (refine step_app (o := ⟨some 44, _, _, _, _, _⟩) _ (by rfl) (.tmp 40) (.tmp 43) (by rfl) w2.heap.size _ 0 0 [] (by rfl) (own_empty (by first | exact heap_alloc_new w2 _) (by simp)) ⟨b, off, none⟩ k cap1 (vals (zs.take k)) (by rfl) (by rw [vals_len, List.length_take]; omega) (srcf_take HC.out hblt (by repeat (first | exact hBr | apply Below.drew | (refine Below.alloc ?_ (by first | exact Nat.le_refl _ | (simp; done) | (simp; omega) | omega) _)))) (vals_one _) k (vals (zs.take k)) (by omega) (by simp) (by omega) (by first | exact Nat.le_refl _ | (simp; done) | (simp; omega) | omega) ?_
         intro g3 capg3 w3 howng3 hgg3 hatg3
         have hBg3 : Below w2.heap.size w2 w3 := Below.grown (by repeat (first | exact hBr | apply Below.drew | (refine Below.alloc ?_ (by first | exact Nat.le_refl _ | (simp; done) | (simp; omega) | omega) _))) hgg3 (by first | exact Nat.le_refl _ | (simp; done) | (simp; omega) | omega) (by first | (simp; done) | (simp; omega))
         have hzg3 := hBg3.size)
      | (refine step_app (o := ⟨some 49, _, _, _, _, _⟩) _ (by rfl) (.tmp 44) (.tmp 48) (by rfl) w2.heap.size g3 k capg3 (vals (zs.take k)) (by rfl) (by exact howng3) ⟨b, off + (k + 1), none⟩ (zs.length - (k + 1)) (cap1 - (k + 1)) (vals (zs.drop (k + 1))) (by rfl) (by first | rfl | (rw [vals_len, List.length_drop])) (srcf_drop HC.out hblt (by repeat (first | exact hBg3 | apply Below.drew | (refine Below.alloc ?_ (by first | exact Nat.le_refl _ | (simp; done) | (simp; omega) | omega) _)))) (by first | exact vals_one _ | simp) (zs.length - 1) (vals (zs.take k ++ zs.drop (k + 1))) (by omega) (by simp [vals]) (by omega) hzg3 ?_
         intro g4 capg4 w4 howng4 hgg4 hatg4
         have hBg4 : Below w2.heap.size w2 w4 := Below.grown (by repeat (first | exact hBg3 | apply Below.drew | (refine Below.alloc ?_ (by first | exact Nat.le_refl _ | (simp; done) | (simp; omega) | omega) _))) hgg4 hzg3 (fun _ hk => by cases hk; exact (howng3.lt g3 rfl).1)
         have hzg4 := hBg4.size)))
    go_simp
    go_wp2
    have hBr4 := Below.refl w4.heap.size w4
    have hblt4 : b < w4.heap.size := by omega
    have hc4 : ∀ i, i < zs.length → w4.cell? ⟨b, off + i, none⟩ = some (.int .i64 (gt zs i)) := fun i hi => (hBg4.cell (p := ⟨b, off + i, none⟩) hblt).trans (HC.out i hi)
    have HC4 := Lib.hid hc4
    clear hc4
    go_region_law ((first
      | (refine step_app (o := ⟨some 55, _, _, _, _, _⟩) _ (by rfl) (.tmp 50) (.tmp 54) (by rfl) w4.heap.size _ 0 0 [] (by rfl) (own_empty (by first | exact heap_alloc_new w4 _) (by simp)) ⟨b, off, none⟩ (k + 1) cap1 (vals (zs.take (k + 1))) (by rfl) (by rw [vals_len, List.length_take]; omega) (srcf_take HC4.out hblt4 (by repeat (first | exact hBr4 | apply Below.drew | (refine Below.alloc ?_ (by first | exact Nat.le_refl _ | (simp; done) | (simp; omega) | omega) _)))) (vals_one _) (k + 1) (vals (zs.take (k + 1))) (by omega) (by simp) (by omega) (by first | exact Nat.le_refl _ | (simp; done) | (simp; omega) | omega) ?_
         intro g5 capg5 w5 howng5 hgg5 hatg5
         have hBg5 : Below w4.heap.size w4 w5 := Below.grown (by repeat (first | exact hBr4 | apply Below.drew | (refine Below.alloc ?_ (by first | exact Nat.le_refl _ | (simp; done) | (simp; omega) | omega) _))) hgg5 (by first | exact Nat.le_refl _ | (simp; done) | (simp; omega) | omega) (by first | (simp; done) | (simp; omega))
         have hzg5 := hBg5.size)
      | (refine step_app (o := ⟨some 59, _, _, _, _, _⟩) _ (by rfl) (.tmp 55) (.tmp 58) (by rfl) w4.heap.size g5 (k + 1) capg5 (vals (zs.take (k + 1))) (by rfl) (by exact howng5) ⟨b, off + k, none⟩ (zs.length - k) (cap1 - k) (vals (zs.drop k)) (by rfl) (by first | rfl | (rw [vals_len, List.length_drop])) (srcf_drop HC4.out hblt4 (by repeat (first | exact hBg5 | apply Below.drew | (refine Below.alloc ?_ (by first | exact Nat.le_refl _ | (simp; done) | (simp; omega) | omega) _)))) (by first | exact vals_one _ | simp) (zs.length + 1) (vals (zs.take (k + 1) ++ zs.drop k)) (by omega) (by simp [vals]) (by omega) hzg5 ?_
         intro g6 capg6 w6 howng6 hgg6 hatg6
         have hBg6 : Below w4.heap.size w4 w6 := Below.grown (by repeat (first | exact hBg5 | apply Below.drew | (refine Below.alloc ?_ (by first | exact Nat.le_refl _ | (simp; done) | (simp; omega) | omega) _))) hgg6 hzg5 (fun _ hk => by cases hk; exact (howng5.lt g5 rfl).1)
         have hzg6 := hBg6.size)))
    have hL : OwnI w4 w2.heap.size (some ⟨g4, 0, none⟩) capg4 (zs.take k ++ zs.drop (k + 1)) := by
      unfold OwnI; rw [less_len hkl]; exact howng4
    have hT : OwnI w6 w4.heap.size (some ⟨g6, 0, none⟩) capg6 (zs.take (k + 1) ++ zs.drop k) := by
      unfold OwnI; rw [twice_len hkl]; exact howng6
    have hLi := hL.ints.later2 hBg6 (Nat.le_refl _)
    have hTi := hT.ints
    have hv1 := vld_less hkl hv
    have hv2 := vld_twice hkl
    have hll := less_len hkl
    have htl := twice_len hkl
    generalize zs.take k ++ zs.drop (k + 1) = less at *
    generalize zs.take (k + 1) ++ zs.drop k = twice at *
    have hB6 : Below w.heap.size w w6 := hB2.trans ((hBg4.mono hB2.size).trans (hBg6.mono (Nat.le_trans hB2.size hBg4.size)))
    have HLL := Lib.hid hll
    have HTL := Lib.hid htl
    clear hll htl hk4 hL hT
    have hd : decide ((1 : Int) < (zs.length : Int)) = decide (1 < zs.length) := by rw [decide_eq_decide]; omega
    have HD := Lib.hid hd
    clear hd
    by_cases hone : 1 < zs.length
    · have hv1' : vldB less = true := by rw [hv1]; simp [hone]
      clear hv1
      go_simp
      go_wp2_with fail
      refine (nvalid_any _ _ _ less _ hLi HLL.out (by unfold maxLen; omega)).mono ?_
      rintro e w' ⟨rfl, rfl⟩
      go_wp2_with fail
      refine (nvalid_any _ _ _ twice _ hTi HTL.out (by unfold maxLen; omega)).mono ?_
      rintro e w' ⟨rfl, rfl⟩
      go_wp2
      go_ret
      exact ⟨rfl, hB6⟩
    · have hv1' : vldB less = false := by rw [hv1]; simp; omega
      clear hv1
      have hle : (zs.length : Int) ≤ 1 := by omega
      go_simp
      go_wp2_with fail
      refine (nvalid_any _ _ _ less _ hLi HLL.out (by unfold maxLen; omega)).mono ?_
      rintro e w' ⟨rfl, rfl⟩
      go_wp2_with fail
      refine (nvalid_any _ _ _ twice _ hTi HTL.out (by unfold maxLen; omega)).mono ?_
      rintro e w' ⟨rfl, rfl⟩
      go_wp2
      go_ret
      exact ⟨ret_bool (by simp; omega), hB6⟩
end Go.Proofs.Ytphkpkafhilenaa
