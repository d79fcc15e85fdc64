/- The walks of the laws of trees of sums: equal leaves, the root, the order of setting. -/
import Derived.Test.YtkpfpnmokknbaaaLawsSm
namespace Go.Proofs.Ytkpfpnmokknbaaa
open Go.RowKit
set_option linter.unusedVariables false

theorem set_self {zs : List Int} {j : Nat} (h : j < zs.length) : zs.set j (gt zs j) = zs := by
  apply list_gt (by rw [List.length_set])
  intro i hi
  rw [gt_set h]
  by_cases e : i = j
  · rw [if_pos e, e]
  · rw [if_neg e]

set_option maxHeartbeats 2000000 in
theorem sumsEqual (s : Option Addr) (len cap : Nat) (z : List Int) (s2 : Option Addr) (len2 cap2 : Nat) (z2 : List Int) (w : World) (h : RowIn .u8 w s len cap z) (h2 : RowIn .u8 w s2 len2 cap2 z2) :
    Calls Try.prog 11 #[.slice s len cap, .slice s2 len2 cap2] w fun e w' => e = .returned (.bool true) ∧ Below w.heap.size w w' := by
  have hb := bytes_of_row h
  have hm : len ≤ maxLen := Nat.le_trans hb.1 hb.2.1
  unfold maxLen at hm
  clear h
  have hb2' := bytes_of_row h2
  have hm2 : len2 ≤ maxLen := Nat.le_trans hb2'.1 hb2'.2.1
  unfold maxLen at hm2
  clear h2 hb2'
  by_cases hl : 1048576 < len
  · have hlB : decide ((1048576 : Int) < (len : Int)) = true := by simp; omega
    go_enter Try.func11, Try.ntmps11
    go_wp2
    go_ret
    exact ⟨rfl, Below.refl _ _⟩
  have hlB : decide ((1048576 : Int) < (len : Int)) = false := by simp; omega
  by_cases hl2 : 1048576 < len2
  · have hlB2 : decide ((1048576 : Int) < (len2 : Int)) = true := by simp; omega
    go_enter Try.func11, Try.ntmps11
    go_wp2
    go_ret
    exact ⟨rfl, Below.refl _ _⟩
  have hlB2 : decide ((1048576 : Int) < (len2 : Int)) = false := by simp; omega
  go_enter Try.func11, Try.ntmps11
  go_wp2_with fail
  refine (drawSumsOf s len cap w hb).mono ?_
  rintro e w1 ⟨a, c, zs, rfl, hi1, hl1, hlc1, hB1⟩
  have HI1 := Lib.hid hi1.ints
  have HM : Hid (zs.length ≤ maxLen) := by show _ ≤ _; unfold maxLen; omega
  have HC := Lib.hid hlc1
  obtain ⟨L, hL⟩ : ∃ L, sumsL zs = L := ⟨_, rfl⟩
  have hor := sumsL_or zs
  rw [hL] at hor
  have HL := Lib.hid hL
  clear hi1 hL hb
  go_wp2_with fail
  refine (sumsof_as _ _ _ zs w1 L L.length HI1.out rfl HM.out HL.out rfl).mono ?_
  rintro e w2 ⟨g2, c2, rfl, ho2, hc2, hb2⟩
  have hB2 : Below w.heap.size w w2 := hB1.trans (hb2.mono hB1.size)
  have HI2 := Lib.hid (HI1.out.keepB hb2 (Nat.le_refl _))
  have HO2 := Lib.hid ho2
  clear ho2 hb2
  go_wp2_with fail
  refine (ssumsof_as _ _ _ zs w2 L L.length HI2.out rfl HM.out HL.out rfl).mono ?_
  rintro e w3 ⟨g3, c3, rfl, ho3, hc3, hb3⟩
  have hB3 : Below w.heap.size w w3 := hB2.trans (hb3.mono hB2.size)
  have HI3 := Lib.hid (HI2.out.keepB hb3 (Nat.le_refl _))
  have HO3 := Lib.hid (HO2.out.keepB hb3 (Nat.le_refl _))
  have HP3 := Lib.hid ho3
  have hLm : L.length ≤ 1048576 := by rcases hor with e | e <;> rw [e] <;> simp
  clear ho3 hb3 hB1 hB2
  go_wp2_with fail
  refine (sameI_any _ _ _ _ _ L w3 HO3.out HP3.out rfl hLm).mono ?_
  rintro e w4 ⟨rfl, hs4⟩
  have hB4 : Below w.heap.size w w4 := hB3.trans (hs4.below _)
  have HO4 := Lib.hid (HO3.out.same hs4)
  have HP4 := Lib.hid (HP3.out.same hs4)
  have HI4 := Lib.hid (HI3.out.same hs4)
  clear hs4 hB3
  rcases hor with h0 | h31
  · subst h0
    go_wp2_with fail
    refine (sameI_any _ _ _ _ _ [] w4 HO4.out HP4.out rfl (by simp)).mono ?_
    rintro e w5 ⟨rfl, hs5⟩
    go_wp2
    go_ret
    exact ⟨rfl, hB4.trans (hs5.below _)⟩
  · obtain ⟨hlv, hset⟩ := sumsL_facts (by rw [HL.out]; exact h31)
    have HSET : Hid (L = bld zs) := by show _ = _; rw [← HL.out, hset]
    have H31 := Lib.hid h31
    have hz16 := (leavesB_yes hlv).1
    have HLV := Lib.hid hlv
    obtain ⟨j, hj⟩ : ∃ j, j = len2 % 16 := ⟨_, rfl⟩
    have hj16 : j < 16 := by omega
    have hmod1 : (len2 : Int).tmod 16 = (j : Int) := by rw [Int.tmod_eq_emod_of_nonneg (by omega)]; omega
    have hmod2 : (len2 : Int) % 16 = (j : Int) := by omega
    have hc15 : ¬ c2 = 15 := by omega
    have hc15' : (15 : Int) ≤ (c2 : Int) := by omega
    have hc31 : 31 ≤ c2 := by omega
    have hj16' : (j : Int) < 16 := by omega
    have HZ16 := Lib.hid hz16
    have HD : Hid (L.drop 15 = zs) := by show _ = _; rw [HSET.out]; exact bld_drop hz16
    have HS15 : Hid (IntsAt w4 (some ⟨g2, 15, none⟩) zs) := by have := ints_from15 HO4.out; rw [HD.out] at this; exact this
    have HTB : Hid (treeB L = true) := by show _ = _; rw [HSET.out]; exact treeB_bld hlv
    have hsj := all_gt (leavesB_yes hlv).2 j (by omega)
    have HSJ := Lib.hid hsj
    have HEQ : Hid (sumsSetL L j (gt zs j) = L) := by
      show _ = _
      rw [sumsSetL_yes HTB.out hj16 hsj, HD.out, set_self (by omega), HSET.out]
    have hsrc : ∃ b off, a = some ⟨b, off, none⟩ ∧ b < w4.heap.size ∧ w4.cell? ⟨b, off + j, none⟩ = some (.int .i64 (gt zs j)) := by
      rcases HI4.out with h0 | ⟨b, off, ha, hb, hc⟩
      · rw [h0] at hz16; simp at hz16
      · exact ⟨b, off, ha, hb, hc j (by omega)⟩
    obtain ⟨b, off, rfl, hbw, hcj⟩ := hsrc
    have HCJ := Lib.hid hcj
    have HBW := Lib.hid hbw
    obtain ⟨x, hx⟩ : ∃ x, x = gt zs j := ⟨_, rfl⟩
    rw [← hx] at HEQ HCJ
    rw [h31, hz16]
    clear hj hz16 h31 hlv hset hsj hcj hbw hx hc2
    go_wp2_with fail
    refine (sameI_any _ _ 16 _ _ zs w4 HS15.out HI4.out HZ16.out (by omega)).mono ?_
    rintro e w5 ⟨rfl, hs5⟩
    have hc5 : w5.cell? ⟨b, off + j, none⟩ = some (.int .i64 x) := (hs5.cell _).trans HCJ.out
    have HO5 := Lib.hid (HO4.out.same hs5)
    have hB5 : Below w.heap.size w w5 := hB4.trans (hs5.below _)
    clear hs5
    go_wp2_with fail
    refine (sumsset_as _ _ _ L j x w5 L 31 HO5.out H31.out (by unfold maxLen; omega) hc31 HEQ.out H31.out).mono ?_
    rintro e w6 ⟨g6, c6, rfl, ho6, hc6, hb6⟩
    have HO6 := Lib.hid ho6
    have HO56 := Lib.hid (HO5.out.keepB hb6 (Nat.le_refl _))
    have hB6 : Below w.heap.size w w6 := hB5.trans (hb6.mono hB5.size)
    clear ho6 hb6 hc5
    go_wp2_with fail
    refine (sameI_any _ _ 31 _ _ L w6 HO6.out HO56.out H31.out (by omega)).mono ?_
    rintro e w7 ⟨rfl, hs7⟩
    go_wp2
    go_ret
    exact ⟨rfl, hB6.trans (hs7.below _)⟩

set_option maxHeartbeats 2000000 in
theorem sumsLaw (s : Option Addr) (len cap : Nat) (z : List Int) (s2 : Option Addr) (len2 cap2 : Nat) (z2 : List Int) (w : World) (h : RowIn .u8 w s len cap z) (h2 : RowIn .u8 w s2 len2 cap2 z2) :
    Calls Try.prog 3 #[.slice s len cap, .slice s2 len2 cap2] w fun e w' => e = .returned (.bool true) ∧ Below w.heap.size w w' := by
  have hb := bytes_of_row h
  have hm : len ≤ maxLen := Nat.le_trans hb.1 hb.2.1
  unfold maxLen at hm
  clear h
  have hb2' := bytes_of_row h2
  have hm2 : len2 ≤ maxLen := Nat.le_trans hb2'.1 hb2'.2.1
  unfold maxLen at hm2
  clear h2 hb2'
  by_cases hl : 1048576 < len
  · have hlB : decide ((1048576 : Int) < (len : Int)) = true := by simp; omega
    go_enter Try.func3, Try.ntmps3
    go_wp2
    go_ret
    exact ⟨rfl, Below.refl _ _⟩
  have hlB : decide ((1048576 : Int) < (len : Int)) = false := by simp; omega
  by_cases hl2 : 1048576 < len2
  · have hlB2 : decide ((1048576 : Int) < (len2 : Int)) = true := by simp; omega
    go_enter Try.func3, Try.ntmps3
    go_wp2
    go_ret
    exact ⟨rfl, Below.refl _ _⟩
  have hlB2 : decide ((1048576 : Int) < (len2 : Int)) = false := by simp; omega
  go_enter Try.func3, Try.ntmps3
  go_wp2_with fail
  refine (drawSumsOf s len cap w hb).mono ?_
  rintro e w1 ⟨a, c, zs, rfl, hi1, hl1, hlc1, hB1⟩
  have HI1 := Lib.hid hi1.ints
  have HM : Hid (zs.length ≤ maxLen) := by show _ ≤ _; unfold maxLen; omega
  have HC := Lib.hid hlc1
  obtain ⟨L, hL⟩ : ∃ L, sumsL zs = L := ⟨_, rfl⟩
  have hor := sumsL_or zs
  rw [hL] at hor
  have HL := Lib.hid hL
  clear hi1 hL hb
  go_wp2_with fail
  refine (sumsof_as _ _ _ zs w1 L L.length HI1.out rfl HM.out HL.out rfl).mono ?_
  rintro e w2 ⟨g2, c2, rfl, ho2, hc2, hb2⟩
  have hB2 : Below w.heap.size w w2 := hB1.trans (hb2.mono hB1.size)
  have HI2 := Lib.hid (HI1.out.keepB hb2 (Nat.le_refl _))
  have HO2 := Lib.hid ho2
  clear ho2 hb2
  go_wp2_with fail
  refine (ssumsof_as _ _ _ zs w2 L L.length HI2.out rfl HM.out HL.out rfl).mono ?_
  rintro e w3 ⟨g3, c3, rfl, ho3, hc3, hb3⟩
  have hB3 : Below w.heap.size w w3 := hB2.trans (hb3.mono hB2.size)
  have HI3 := Lib.hid (HI2.out.keepB hb3 (Nat.le_refl _))
  have HO3 := Lib.hid (HO2.out.keepB hb3 (Nat.le_refl _))
  have HP3 := Lib.hid ho3
  have hLm : L.length ≤ 1048576 := by rcases hor with e | e <;> rw [e] <;> simp
  clear ho3 hb3 hB1 hB2
  go_wp2_with fail
  refine (sameI_any _ _ _ _ _ L w3 HO3.out HP3.out rfl hLm).mono ?_
  rintro e w4 ⟨rfl, hs4⟩
  have hB4 : Below w.heap.size w w4 := hB3.trans (hs4.below _)
  have HO4 := Lib.hid (HO3.out.same hs4)
  have HP4 := Lib.hid (HP3.out.same hs4)
  have HI4 := Lib.hid (HI3.out.same hs4)
  clear hs4 hB3
  rcases hor with h0 | h31
  · subst h0
    go_wp2_with fail
    refine (sameI_any _ _ _ _ _ [] w4 HO4.out HP4.out rfl (by simp)).mono ?_
    rintro e w5 ⟨rfl, hs5⟩
    go_wp2
    go_ret
    exact ⟨rfl, hB4.trans (hs5.below _)⟩
  · obtain ⟨hlv, hset⟩ := sumsL_facts (by rw [HL.out]; exact h31)
    have HSET : Hid (L = bld zs) := by show _ = _; rw [← HL.out, hset]
    have H31 := Lib.hid h31
    have hz16 := (leavesB_yes hlv).1
    have hall := (leavesB_yes hlv).2
    obtain ⟨j, hj⟩ : ∃ j, j = len2 % 16 := ⟨_, rfl⟩
    have hj16 : j < 16 := by omega
    have hmod1 : (len2 : Int).tmod 16 = (j : Int) := by rw [Int.tmod_eq_emod_of_nonneg (by omega)]; omega
    have hmod2 : (len2 : Int) % 16 = (j : Int) := by omega
    obtain ⟨r, hr⟩ : ∃ r, r = len % 990 := ⟨_, rfl⟩
    have hr990 : r < 990 := by omega
    have hmod3 : (len : Int).tmod 990 = (r : Int) := by rw [Int.tmod_eq_emod_of_nonneg (by omega)]; omega
    have hmod4 : (len : Int) % 990 = (r : Int) := by omega
    have hsj := (sB_iff _).1 (all_gt hall j (by omega))
    obtain ⟨x, hx⟩ : ∃ x, x = gt zs j := ⟨_, rfl⟩
    rw [← hx] at hsj
    obtain ⟨hx0, hx1⟩ := hsj
    obtain ⟨v, hv⟩ : ∃ v, v = (x + 1 + (r : Int)) % 991 := ⟨_, rfl⟩
    have hv1 : (x + 1 + (r : Int)).tmod 991 = v := by rw [Int.tmod_eq_emod_of_nonneg (by omega), hv]
    have hv2 : (x + 1 + (r : Int)) % 991 = v := hv.symm
    have hne : v ≠ x := by omega
    have hv0 : 0 ≤ v := by omega
    have hv991 : v < 991 := by omega
    have hnB : (v == x) = false := by simp [hne]
    have hsv : sB v = true := (sB_iff _).2 ⟨hv0, hv991⟩
    have HTB : Hid (treeB L = true) := by show _ = _; rw [HSET.out]; exact treeB_bld hlv
    have hd : L.drop 15 = zs := by rw [HSET.out]; exact bld_drop hz16
    obtain ⟨M, hM⟩ : ∃ M, sumsSetL L j v = M := ⟨_, rfl⟩
    have hM' : M = bld (zs.set j v) := by rw [← hM, sumsSetL_yes HTB.out hj16 hsv, hd]
    have HM31 : Hid (M.length = 31) := by show _ = _; rw [hM', bld_len]
    have hroot : gt M 0 ≠ gt L 0 := by
      rw [hM', HSET.out, bld_gt _ (by omega), bld_gt _ (by omega)]
      refine tn_on hz16 hall hsv hj16 (by rw [← hx]; exact hne) 0 (by omega) ?_
      have : ∀ k : Fin 16, 0 ∈ pth (15 + k.1) := by decide
      exact this ⟨j, hj16⟩
    have HME := Lib.hid hM
    have hsrc : ∃ b off, a = some ⟨b, off, none⟩ ∧ b < w4.heap.size ∧ w4.cell? ⟨b, off + j, none⟩ = some (.int .i64 x) := by
      rcases HI4.out with h0 | ⟨b, off, ha, hb, hc⟩
      · rw [h0] at hz16; simp at hz16
      · exact ⟨b, off, ha, hb, by rw [hx]; exact hc j (by omega)⟩
    obtain ⟨b, off, rfl, hbw, hcj⟩ := hsrc
    have HCJ := Lib.hid hcj
    have HBW := Lib.hid hbw
    have hj16' : (j : Int) < 16 := by omega
    have hc31 : 31 ≤ c2 := by omega
    obtain ⟨p, hp⟩ : ∃ p, p = gt M 0 := ⟨_, rfl⟩
    obtain ⟨o, ho⟩ : ∃ o, o = gt L 0 := ⟨_, rfl⟩
    rw [← hp, ← ho] at hroot
    have hpo : (p != o) = true := by simp [hroot]
    have HP0 := Lib.hid hp
    have HO0 := Lib.hid ho
    rw [h31, hz16]
    clear hj hr hz16 h31 hlv hset hall hbw hx hc2 hd hM hM' hp ho hroot hv hsv hne
    go_wp2_with fail
    refine (sumsset_as _ _ _ L j v w4 M 31 HO4.out H31.out (by unfold maxLen; omega) hc31 HME.out HM31.out).mono ?_
    rintro e w5 ⟨g5, c5, rfl, ho5, hc5, hb5⟩
    have hB5 : Below w.heap.size w w5 := hB4.trans (hb5.mono hB4.size)
    have hcj5 : w5.cell? ⟨b, off + j, none⟩ = some (.int .i64 x) := (hb5.cell (p := ⟨b, off + j, none⟩) HBW.out).trans HCJ.out
    have hcp : w5.cell? ⟨g5, 0, none⟩ = some (.int .i64 p) := by
      rcases ho5 with h0 | ⟨b', o', ha, hb', hc⟩
      · have := HM31.out; rw [h0] at this; simp at this
      · injection ha with ha; injection ha with ha ho; subst ha ho
        rw [HP0.out]; exact hc 0 (by rw [HM31.out]; omega)
    have hco : w5.cell? ⟨g2, 0, none⟩ = some (.int .i64 o) := by
      rcases HO4.out.keepB hb5 (Nat.le_refl _) with h0 | ⟨b', o', ha, hb', hc⟩
      · have := H31.out; rw [h0] at this; simp at this
      · injection ha with ha; injection ha with ha ho; subst ha ho
        rw [HO0.out]; exact hc 0 (by rw [H31.out]; omega)
    clear ho5 hb5 hcj
    go_wp2
    go_quiet (fail)
    go_wp2
    go_ret
    exact ⟨rfl, hB5.trans (Same.below ⟨_, rfl⟩ _)⟩

end Go.Proofs.Ytkpfpnmokknbaaa
