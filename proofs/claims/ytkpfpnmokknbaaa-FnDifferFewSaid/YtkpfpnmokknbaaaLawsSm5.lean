/- The walks of the laws of trees of sums: few comparisons, reported leaves. Written by gen_lawssm.py. -/
import Derived.Test.YtkpfpnmokknbaaaLawsSm4
import Derived.Deep.QuietTactic
namespace Go.Proofs.Ytkpfpnmokknbaaa
open Go.RowKit
set_option linter.unusedVariables false

attribute [local go_sem ↓] Go.wp_at_zero Go.wp_at_succ

set_option maxHeartbeats 4000000 in
theorem differFew (s : Option Addr) (len cap : Nat) (z : List Int) (w : World) (h : RowIn .u8 w s len cap z) :
    Calls Try.prog 10 #[.slice s len cap] w fun e w' => e = .returned (.bool true) ∧ Below w.heap.size w w' := by
  have hb := bytes_of_row h
  have hm : len ≤ maxLen := Nat.le_trans hb.1 hb.2.1
  unfold maxLen at hm
  clear h
  by_cases hllen : 1048576 < len
  · have hlB : decide ((1048576 : Int) < (len : Int)) = true := by simp; omega
    go_enter Try.func10, Try.ntmps10
    go_wp2
    go_ret
    exact ⟨rfl, Below.refl _ _⟩
  have hlB : decide ((1048576 : Int) < (len : Int)) = false := by simp; omega
  go_enter Try.func10, Try.ntmps10
  go_wp2_with fail
  refine (drawSumsDiffer s len cap w hb).mono ?_
  rintro e w1 ⟨g, c, xs, g', c', ys, rfl, hi1, hl1, hlc1, hj1, hl1', hlc1', hB1⟩
  have HI1 := Lib.hid hi1.ints
  have HJ1 := Lib.hid hj1.ints
  have HM : Hid (xs.length ≤ maxLen) := by show _ ≤ _; unfold maxLen; omega
  have HM' : Hid (ys.length ≤ maxLen) := by show _ ≤ _; unfold maxLen; omega
  have HC := Lib.hid hlc1
  have HC' := Lib.hid hlc1'
  obtain ⟨L, hL⟩ : ∃ L, dfL xs ys = L := ⟨_, rfl⟩
  obtain ⟨N, hN⟩ : ∃ N, dfN xs ys = N := ⟨_, rfl⟩
  have hLm : L.length ≤ 31 := by rw [← hL]; exact dfL_le xs ys
  have HL := Lib.hid hL
  have HN := Lib.hid hN
  clear hi1 hj1 hL hN hb
  go_wp2_with fail
  refine (differ_as _ _ _ _ _ _ xs ys w1 L L.length N HI1.out rfl HM.out HC.out HJ1.out rfl HM'.out HC'.out HL.out rfl HN.out).mono ?_
  rintro e w2 ⟨g2, c2, rfl, ho2, hc2, hb2⟩
  have hB2 : Below w.heap.size w w2 := hB1.trans (hb2.mono hB1.size)
  have HI2 := Lib.hid (HI1.out.keepB hb2 (Nat.le_refl _))
  have HJ2 := Lib.hid (HJ1.out.keepB hb2 (Nat.le_refl _))
  have HO2 := Lib.hid ho2
  clear ho2 hb2
  go_wp2_with fail
  refine (sdiffer_as _ _ _ _ _ _ xs ys w2 L L.length N HI2.out rfl HM.out HC.out HJ2.out rfl HM'.out HC'.out HL.out rfl HN.out).mono ?_
  rintro e w3 ⟨g3, c3, rfl, ho3, hc3, hb3⟩
  have hB3 : Below w.heap.size w w3 := hB2.trans (hb3.mono hB2.size)
  have HI3 := Lib.hid (HI2.out.keepB hb3 (Nat.le_refl _))
  have HJ3 := Lib.hid (HJ2.out.keepB hb3 (Nat.le_refl _))
  have HO3 := Lib.hid (HO2.out.keepB hb3 (Nat.le_refl _))
  have HP3 := Lib.hid ho3
  have hnn : (N != N) = false := by simp
  have hnn2 : (N == N) = true := by simp
  clear ho3 hb3 hB1 hB2
  go_wp2_with fail
  refine (sameI_any _ _ _ _ _ L w3 HO3.out HP3.out rfl (by omega)).mono ?_
  rintro e w4 ⟨rfl, hs4⟩
  have hB4 : Below w.heap.size w w4 := hB3.trans (hs4.below _)
  have HO4 := Lib.hid (HO3.out.same hs4)
  have HP4 := Lib.hid (HP3.out.same hs4)
  have HI4 := Lib.hid (HI3.out.same hs4)
  have HJ4 := Lib.hid (HJ3.out.same hs4)
  clear hs4 hB3
  rcases bcase (dfB xs ys) with hd | hd
  case inr =>
    have hN : N = -1 := by rw [← HN.out]; unfold dfN; rw [hd]; rfl
    have hneg : N < 0 := by omega
    clear hN
    go_wp2_with fail
    refine (sameI_any _ _ _ _ _ L w4 HO4.out HP4.out rfl (by omega)).mono ?_
    rintro e w5 ⟨rfl, hs5⟩
    go_wp2
    go_ret
    exact ⟨rfl, hB4.trans (hs5.below _)⟩
  have hx := (dfB_yes hd).1
  have hy := (dfB_yes hd).2
  have HX31 : Hid (xs.length = 31) := (treeB_yes hx).1
  have HY31 : Hid (ys.length = 31) := (treeB_yes hy).1
  have HXT := Lib.hid hx
  have HYT := Lib.hid hy
  have hNe : N = ((cnt (opn (dff xs ys)) 31 : Nat) : Int) := by rw [← HN.out]; unfold dfN; rw [hd]; rfl
  have hLe : L = outL (dff xs ys) 31 := by rw [← HL.out]; unfold dfL; rw [hd]; rfl
  have hpos : 0 ≤ N := by omega
  have HNE := Lib.hid hNe
  have HLE := Lib.hid hLe
  have hc31 : 31 ≤ c := by have := HX31.out; omega
  have hc31' : 31 ≤ c' := by have := HY31.out; omega
  clear hd hx hy hNe hLe
  obtain ⟨d, hd⟩ : ∃ d, d = dff xs ys := ⟨_, rfl⟩
  have hcl : ∀ i, i < 15 → d i = true → d (2 * i + 1) = true ∨ d (2 * i + 2) = true := by rw [hd]; exact fun i hi h => dff_down HXT.out HYT.out hi h
  have hf1 := few_cmp hcl
  have hf2 := few_out d
  have hf3 := cnt_le (opn d) 31
  have hnd : N = ((cnt (opn d) 31 : Nat) : Int) := by rw [hd]; exact HNE.out
  have hld : L.length = (outL d 31).length := by rw [hd, ← HLE.out]
  have F1 : Hid (N ≤ 1 + 8 * ((cntF d 15 16 : Nat) : Int)) := by show _ ≤ _; omega
  have F2 : N ≤ 31 := by omega
  have F3 : Hid (L.length ≤ cntF d 15 16) := by show _ ≤ _; omega
  have HD := Lib.hid hd
  have HCX := Lib.hid (cells31 HX31.out HI4.out)
  have HCY := Lib.hid (cells31 HY31.out HJ4.out)
  have hx31 := HX31.out
  have hy31 := HY31.out
  rw [hx31, hy31]
  clear hd hcl hf1 hf2 hf3 hnd hld hx31 hy31
  go_wp2
  go_loopw [9, 10] (fun n i wr => ∃ j : Nat, j ≤ 16 ∧ i = .int .i64 ((15 : Int) + j) ∧ n = .int .i64 (cntF d 15 j : Nat) ∧ Same w4 wr) (fun _ i _ => 31 - (intOf i).toNat)
  case atStart => exact ⟨0, by omega, rfl, rfl, Same.refl _⟩
  case round =>
    obtain ⟨j, hj, rfl, rfl, hsm⟩ := hrel
    by_cases hlt : j < 16
    · have c1 : wr.cell? ⟨g, 15 + j, none⟩ = some (.int .i64 (gt xs (15 + j))) := (hsm.cell _).trans (HCX.out (15 + j) (by omega))
      have c2' : wr.cell? ⟨g', 15 + j, none⟩ = some (.int .i64 (gt ys (15 + j))) := (hsm.cell _).trans (HCY.out (15 + j) (by omega))
      have hdj : d (15 + j) = !(gt xs (15 + j) == gt ys (15 + j)) := by rw [HD.out, dff]
      obtain ⟨y1, hy1⟩ : ∃ y, y = gt xs (15 + j) := ⟨_, rfl⟩
      obtain ⟨y2, hy2⟩ : ∃ y, y = gt ys (15 + j) := ⟨_, rfl⟩
      rw [← hy1] at c1 hdj
      rw [← hy2] at c2' hdj
      obtain ⟨p, hp⟩ : ∃ p, p = 15 + j := ⟨_, rfl⟩
      have hpi : (15 : Int) + (j : Int) = (p : Int) := by omega
      have hcj : cntF d 15 j ≤ 31 := by have := cnt_le (fun t => d (15 + t)) j; unfold cntF; omega
      obtain ⟨n, hn⟩ : ∃ n, n = cntF d 15 j := ⟨_, rfl⟩
      rw [← hn] at hcj ⊢
      rw [← hp] at c1 c2'
      rw [hpi]
      have hjlt : (p : Int) < 31 := by omega
      have hj0 : (0 : Int) ≤ (p : Int) := by omega
      have HP := Lib.hid hp
      rcases bcase (y1 == y2) with hv | hv
      · have hv' : (y1 != y2) = false := by simp [bne, hv]
        have E : Hid (n = cntF d 15 (j + 1)) := by show _ = _; rw [hn, cntF_succ, hdj, hv]; simp
        clear hy1 hy2 hdj hn hv hp hpi
        go_wp2
        go_quiet (fail)
        go_wp2
        go_roundw
        case rel => exact ⟨j + 1, by omega, by have := HP.out; simp; omega, by rw [← E.out], hsm.drewN _⟩
        case measure => simp [intOf]; omega
      · have hv' : (y1 != y2) = true := by simp [bne, hv]
        have E : Hid ((n : Int) + 1 = ((cntF d 15 (j + 1) : Nat) : Int)) := by show _ = _; rw [hn, cntF_succ, hdj, hv]; simp
        clear hy1 hy2 hdj hn hv hp hpi
        go_wp2
        go_quiet (fail)
        go_wp2
        go_roundw
        case rel => exact ⟨j + 1, by omega, by have := HP.out; simp; omega, by rw [← E.out], hsm.drewN _⟩
        case measure => simp [intOf]; omega
    · obtain rfl : j = 16 := by omega
      have hcj : cntF d 15 16 ≤ 31 := by have := cnt_le (fun t => d (15 + t)) 16; unfold cntF; omega
      have f1 := F1.out
      have f3 := F3.out
      obtain ⟨n, hn⟩ : ∃ n, n = cntF d 15 16 := ⟨_, rfl⟩
      rw [← hn] at hcj f1 f3 ⊢
      have f3' : (L.length : Int) ≤ (n : Int) := by omega
      have hcond : decide ((15 : Int) + ((16 : Nat) : Int) < 31) = false := by decide
      clear hn hlt hj f3
      go_wp2
      go_ret
      exact ⟨rfl, hB4.trans (hsm.below _)⟩

set_option maxHeartbeats 4000000 in
theorem differLaw (s : Option Addr) (len cap : Nat) (z : List Int) (w : World) (h : RowIn .u8 w s len cap z) :
    Calls Try.prog 7 #[.slice s len cap] w fun e w' => e = .returned (.bool true) ∧ Below w.heap.size w w' := by
  have hb := bytes_of_row h
  have hm : len ≤ maxLen := Nat.le_trans hb.1 hb.2.1
  unfold maxLen at hm
  clear h
  by_cases hllen : 1048576 < len
  · have hlB : decide ((1048576 : Int) < (len : Int)) = true := by simp; omega
    go_enter Try.func7, Try.ntmps7
    go_wp2
    go_ret
    exact ⟨rfl, Below.refl _ _⟩
  have hlB : decide ((1048576 : Int) < (len : Int)) = false := by simp; omega
  go_enter Try.func7, Try.ntmps7
  go_wp2_with fail
  refine (drawSumsDiffer s len cap w hb).mono ?_
  rintro e w1 ⟨g, c, xs, g', c', ys, rfl, hi1, hl1, hlc1, hj1, hl1', hlc1', hB1⟩
  have HI1 := Lib.hid hi1.ints
  have HJ1 := Lib.hid hj1.ints
  have HM : Hid (xs.length ≤ maxLen) := by show _ ≤ _; unfold maxLen; omega
  have HM' : Hid (ys.length ≤ maxLen) := by show _ ≤ _; unfold maxLen; omega
  have HC := Lib.hid hlc1
  have HC' := Lib.hid hlc1'
  obtain ⟨L, hL⟩ : ∃ L, dfL xs ys = L := ⟨_, rfl⟩
  obtain ⟨N, hN⟩ : ∃ N, dfN xs ys = N := ⟨_, rfl⟩
  have hLm : L.length ≤ 31 := by rw [← hL]; exact dfL_le xs ys
  have HL := Lib.hid hL
  have HN := Lib.hid hN
  clear hi1 hj1 hL hN hb
  go_wp2_with fail
  refine (differ_as _ _ _ _ _ _ xs ys w1 L L.length N HI1.out rfl HM.out HC.out HJ1.out rfl HM'.out HC'.out HL.out rfl HN.out).mono ?_
  rintro e w2 ⟨g2, c2, rfl, ho2, hc2, hb2⟩
  have hB2 : Below w.heap.size w w2 := hB1.trans (hb2.mono hB1.size)
  have HI2 := Lib.hid (HI1.out.keepB hb2 (Nat.le_refl _))
  have HJ2 := Lib.hid (HJ1.out.keepB hb2 (Nat.le_refl _))
  have HO2 := Lib.hid ho2
  clear ho2 hb2
  go_wp2_with fail
  refine (sdiffer_as _ _ _ _ _ _ xs ys w2 L L.length N HI2.out rfl HM.out HC.out HJ2.out rfl HM'.out HC'.out HL.out rfl HN.out).mono ?_
  rintro e w3 ⟨g3, c3, rfl, ho3, hc3, hb3⟩
  have hB3 : Below w.heap.size w w3 := hB2.trans (hb3.mono hB2.size)
  have HI3 := Lib.hid (HI2.out.keepB hb3 (Nat.le_refl _))
  have HJ3 := Lib.hid (HJ2.out.keepB hb3 (Nat.le_refl _))
  have HO3 := Lib.hid (HO2.out.keepB hb3 (Nat.le_refl _))
  have HP3 := Lib.hid ho3
  have hnn : (N != N) = false := by simp
  have hnn2 : (N == N) = true := by simp
  clear ho3 hb3 hB1 hB2
  go_wp2_with fail
  refine (sameI_any _ _ _ _ _ L w3 HO3.out HP3.out rfl (by omega)).mono ?_
  rintro e w4 ⟨rfl, hs4⟩
  have hB4 : Below w.heap.size w w4 := hB3.trans (hs4.below _)
  have HO4 := Lib.hid (HO3.out.same hs4)
  have HP4 := Lib.hid (HP3.out.same hs4)
  have HI4 := Lib.hid (HI3.out.same hs4)
  have HJ4 := Lib.hid (HJ3.out.same hs4)
  clear hs4 hB3
  rcases bcase (dfB xs ys) with hd | hd
  case inr =>
    have hN : N = -1 := by rw [← HN.out]; unfold dfN; rw [hd]; rfl
    have hneg : N < 0 := by omega
    clear hN
    go_wp2_with fail
    refine (sameI_any _ _ _ _ _ L w4 HO4.out HP4.out rfl (by omega)).mono ?_
    rintro e w5 ⟨rfl, hs5⟩
    go_wp2
    go_ret
    exact ⟨rfl, hB4.trans (hs5.below _)⟩
  have hx := (dfB_yes hd).1
  have hy := (dfB_yes hd).2
  have HX31 : Hid (xs.length = 31) := (treeB_yes hx).1
  have HY31 : Hid (ys.length = 31) := (treeB_yes hy).1
  have HXT := Lib.hid hx
  have HYT := Lib.hid hy
  have hNe : N = ((cnt (opn (dff xs ys)) 31 : Nat) : Int) := by rw [← HN.out]; unfold dfN; rw [hd]; rfl
  have hLe : L = outL (dff xs ys) 31 := by rw [← HL.out]; unfold dfL; rw [hd]; rfl
  have hpos : 0 ≤ N := by omega
  have HNE := Lib.hid hNe
  have HLE := Lib.hid hLe
  have hc31 : 31 ≤ c := by have := HX31.out; omega
  have hc31' : 31 ≤ c' := by have := HY31.out; omega
  clear hd hx hy hNe hLe
  obtain ⟨d, hd⟩ : ∃ d, d = dff xs ys := ⟨_, rfl⟩
  have hnd : N = ((cnt (opn d) 31 : Nat) : Int) := by rw [hd]; exact HNE.out
  have hld : L = outL d 31 := by rw [hd]; exact HLE.out
  have HEL : Hid (∀ i, i < L.length → ∃ t : Nat, gt L i = (t : Int) ∧ t < 16 ∧ gt xs (15 + t) ≠ gt ys (15 + t)) := fun i hi => by
    have hm : gt L i ∈ outL d 31 := by rw [gt_get hi, ← hld]; exact List.getElem_mem hi
    obtain ⟨u, hu, h15, h31, hdu⟩ := out_mem hm
    refine ⟨u - 15, by omega, by omega, ?_⟩
    rw [show 15 + (u - 15) = u by omega]
    rw [hd, dff] at hdu
    simpa using hdu
  have HAS : Hid (∀ i, i + 1 < L.length → gt L i < gt L (i + 1)) := fun i hi => by
    have hp := out_asc d 31
    rw [← hld, List.pairwise_iff_getElem] at hp
    rw [gt_get (by omega), gt_get hi]
    exact hp i (i + 1) (by omega) hi (by omega)
  have HRT : Hid (d 0 = false → L = [] ∧ N = 1) := fun h0 => by
    obtain ⟨r1, r2⟩ := root_same h0
    exact ⟨by rw [hld, r1], by rw [hnd, r2]; rfl⟩
  have hd0 : d 0 = !(gt xs 0 == gt ys 0) := by rw [hd, dff]
  have HD0 := Lib.hid hd0
  have HCX := Lib.hid (cells31 HX31.out HI4.out)
  have HCY := Lib.hid (cells31 HY31.out HJ4.out)
  have HCL : Hid (∀ i, i < L.length → w4.cell? ⟨g2, i, none⟩ = some (.int .i64 (gt L i))) := fun i hi => by
    rcases HO4.out with h0 | ⟨b, off, ha, hb, hc⟩
    · rw [h0] at hi; simp at hi
    · injection ha with ha; injection ha with ha ho; subst ha ho
      have := hc i hi
      rwa [Nat.zero_add] at this
  have hx31 := HX31.out
  have hy31 := HY31.out
  have HLM := Lib.hid hLm
  rw [hx31, hy31]
  clear hd hnd hld hd0 hx31 hy31
  go_wp2
  go_loopw [9] (fun i wr => ∃ j : Nat, j ≤ L.length ∧ i = .int .i64 j ∧ Same w4 wr) (fun i _ => L.length - (intOf i).toNat)
  case atStart => exact ⟨0, by omega, rfl, Same.refl _⟩
  case round =>
    obtain ⟨j, hj, rfl, hsm⟩ := hrel
    by_cases hlt : j < L.length
    · obtain ⟨t, ht, ht16, htn⟩ := HEL.out j hlt
      have c0 : wr.cell? ⟨g2, j, none⟩ = some (.int .i64 (t : Int)) := by rw [← ht]; exact (hsm.cell _).trans (HCL.out j hlt)
      have c1 : wr.cell? ⟨g, 15 + t, none⟩ = some (.int .i64 (gt xs (15 + t))) := (hsm.cell _).trans (HCX.out (15 + t) (by omega))
      have c2' : wr.cell? ⟨g', 15 + t, none⟩ = some (.int .i64 (gt ys (15 + t))) := (hsm.cell _).trans (HCY.out (15 + t) (by omega))
      obtain ⟨y1, hy1⟩ : ∃ y, y = gt xs (15 + t) := ⟨_, rfl⟩
      obtain ⟨y2, hy2⟩ : ∃ y, y = gt ys (15 + t) := ⟨_, rfl⟩
      rw [← hy1] at c1 htn
      rw [← hy2] at c2' htn
      have hv : (y1 == y2) = false := by simp [htn]
      have hjl : (j : Int) < (L.length : Int) := by omega
      have hj0 : (0 : Int) ≤ (j : Int) := by omega
      have ht16' : (t : Int) < 16 := by omega
      have ht0 : (0 : Int) ≤ (t : Int) := by omega
      have HT := Lib.hid ht
      have hlen : L.length ≤ 31 := HLM.out
      obtain ⟨m, hm⟩ : ∃ m, m = L.length := ⟨_, rfl⟩
      rw [← hm] at hlen hjl ⊢
      have HMM := Lib.hid hm
      have hjm : j < m := by omega
      clear hy1 hy2 htn ht hm hj hlt
      rcases j with _ | j
      · go_wp2
        go_quiet (fail)
        go_wp2
        go_roundw
        case rel => exact ⟨1, by have := HMM.out; omega, by go_num, hsm.drewN _⟩
        case measure => have := HMM.out; simp [intOf]; omega
      · obtain ⟨t', ht', ht16'', _⟩ := HEL.out j (by have := HMM.out; omega)
        have c3 : wr.cell? ⟨g2, j, none⟩ = some (.int .i64 (t' : Int)) := by rw [← ht']; exact (hsm.cell _).trans (HCL.out j (by have := HMM.out; omega))
        have hasc : (t' : Int) < (t : Int) := by rw [← ht', ← HT.out]; exact HAS.out j (by have := HMM.out; omega)
        obtain ⟨i, hi⟩ : ∃ i, i = j + 1 := ⟨_, rfl⟩
        rw [← hi] at c0 hjl hj0 hjm ⊢
        have hi1 : (i : Int) - 1 = (j : Int) := by omega
        have hipos : (0 : Int) < (i : Int) := by omega
        have hj0' : (0 : Int) ≤ (j : Int) := by omega
        have hjm' : (j : Int) < (m : Int) := by omega
        have hdj : decide ((t : Int) ≤ (t' : Int)) = false := by simp; omega
        have HII := Lib.hid hi
        have q1 : IntKind.i64.wrap ((15 : Int) + (t : Int)) = 15 + (t : Int) := by rw [IntKind.wrap_i64]; omega
        have q2 : (0 : Int) ≤ 15 + (t : Int) := by omega
        have q3 : (15 : Int) + (t : Int) < 31 := by omega
        have q4 : ((15 : Int) + (t : Int)).toNat = 15 + t := by omega
        have q5 : decide ((0 : Int) < (i : Int)) = true := by simp; omega
        have q6 : IntKind.i64.wrap ((i : Int) - 1) = (j : Int) := by rw [IntKind.wrap_i64]; omega
        have q7 : 0 < i := by omega
        have q9 : decide (t ≤ t') = false := by simp; omega
        have q10 : t' < t := by omega
        have q8 : ¬ i = 0 := by omega
        clear ht' hi hasc ht16''
        go_wp2
        go_quiet (fail)
        go_wp2
        go_roundw
        case rel => exact ⟨i + 1, by have := HMM.out; omega, by go_num, hsm.drewN _⟩
        case measure => have := HMM.out; simp [intOf]; omega
    · have c1 : wr.cell? ⟨g, 0, none⟩ = some (.int .i64 (gt xs 0)) := (hsm.cell _).trans (HCX.out 0 (by omega))
      have c2' : wr.cell? ⟨g', 0, none⟩ = some (.int .i64 (gt ys 0)) := (hsm.cell _).trans (HCY.out 0 (by omega))
      have h0 := HD0.out
      obtain ⟨y1, hy1⟩ : ∃ y, y = gt xs 0 := ⟨_, rfl⟩
      obtain ⟨y2, hy2⟩ : ∃ y, y = gt ys 0 := ⟨_, rfl⟩
      rw [← hy1] at c1 h0
      rw [← hy2] at c2' h0
      have hge : (L.length : Int) ≤ (j : Int) := by omega
      clear hy1 hy2 hlt hj
      rcases bcase (y1 == y2) with hv | hv
      · obtain ⟨rfl, rfl⟩ := HRT.out (by rw [h0, hv]; rfl)
        have hv' : (y1 != y2) = false := by simp [bne, hv]
        clear h0 hv
        go_wp2
        go_quiet (fail)
        go_wp2
        go_ret
        exact ⟨rfl, hB4.trans ((hsm.drewN _).below _)⟩
      · have hv' : (y1 != y2) = true := by simp [bne, hv]
        clear h0 hv
        go_wp2
        go_quiet (fail)
        go_wp2
        go_ret
        exact ⟨rfl, hB4.trans ((hsm.drewN _).below _)⟩

end Go.Proofs.Ytkpfpnmokknbaaa
