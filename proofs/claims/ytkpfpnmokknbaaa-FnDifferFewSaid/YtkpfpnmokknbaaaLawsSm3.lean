/- The walks of the laws of trees of sums: the order of setting, the other sums. Written by gen_lawssm.py. -/
import Derived.Test.YtkpfpnmokknbaaaLawsSm2
import Derived.Deep.QuietTactic
namespace Go.Proofs.Ytkpfpnmokknbaaa
open Go.RowKit
set_option linter.unusedVariables false

attribute [local go_sem ↓] Go.wp_at_zero Go.wp_at_succ

theorem cnt_pos {p : Nat → Bool} {i : Nat} (hp : p i = true) : ∀ k, i < k → 0 < cnt p k
  | 0, h => by omega
  | k + 1, h => by
    by_cases e : i = k
    · subst e; simp only [cnt, hp]; simp
    · have := cnt_pos hp k (by omega); simp only [cnt]; omega
theorem cnt_none {p : Nat → Bool} : ∀ k, (∀ i, i < k → p i = false) → cnt p k = 0
  | 0, _ => rfl
  | k + 1, h => by simp only [cnt, cnt_none k (fun i hi => h i (by omega)), h k (by omega)]; rfl
/-- what setting a leaf changes -/
theorem set_diff {zs : List Int} {k : Nat} {v : Int} (ht : treeB zs = true) (hk : k < 16) : ∀ i, i < 31 → dff (bld ((zs.drop 15).set k v)) zs i = true → i ∈ pth (15 + k) := by
  intro i hi hd
  by_cases hp : i ∈ pth (15 + k)
  · exact hp
  · exfalso
    have h1 := tn_off (v := v) (leavesB_yes (treeB_yes ht).2.1).1 hk i hi hp
    rw [dff, bld_gt _ hi, h1, ← treeB_gt ht hi] at hd
    simp at hd
theorem pth_cnt {k : Nat} (hk : k < 16) : cnt (fun i => decide (i ∈ pth (15 + k))) 31 = 5 := by
  have : ∀ k : Fin 16, cnt (fun i => decide (i ∈ pth (15 + k.1))) 31 = 5 := by decide
  exact this ⟨k, hk⟩
theorem cnt_mono' {p q : Nat → Bool} : ∀ k, (∀ i, i < k → p i = true → q i = true) → cnt p k ≤ cnt q k
  | 0, _ => Nat.le_refl _
  | k + 1, h => by
    have h1 := cnt_mono' k (fun i hi => h i (by omega))
    have h2 : (p k).toNat ≤ (q k).toNat := by
      cases hp : p k
      · exact Nat.zero_le _
      · rw [h k (by omega) hp]; exact Nat.le_refl _
    simp only [cnt]; omega

set_option maxHeartbeats 4000000 in
theorem sumsSetOrder (s : Option Addr) (len cap : Nat) (z : List Int) (s2 : Option Addr) (len2 cap2 : Nat) (z2 : List Int) (w : World) (h : RowIn .u8 w s len cap z) (h2 : RowIn .u8 w s2 len2 cap2 z2) :
    Calls Try.prog 6 #[.slice s len cap, .slice s2 len2 cap2] w fun e w' => e = .returned (.bool true) ∧ Below w.heap.size w w' := by
  have hb := bytes_of_row h
  have hm : len ≤ maxLen := Nat.le_trans hb.1 hb.2.1
  unfold maxLen at hm
  clear h
  have hb2' := bytes_of_row h2
  have hm2 : len2 ≤ maxLen := Nat.le_trans hb2'.1 hb2'.2.1
  unfold maxLen at hm2
  clear h2 hb2'
  by_cases hllen : 1048576 < len
  · have hlB : decide ((1048576 : Int) < (len : Int)) = true := by simp; omega
    go_enter Try.func6, Try.ntmps6
    go_wp2
    go_ret
    exact ⟨rfl, Below.refl _ _⟩
  have hlB : decide ((1048576 : Int) < (len : Int)) = false := by simp; omega
  by_cases hllen2 : 1048576 < len2
  · have hlB2 : decide ((1048576 : Int) < (len2 : Int)) = true := by simp; omega
    go_enter Try.func6, Try.ntmps6
    go_wp2
    go_ret
    exact ⟨rfl, Below.refl _ _⟩
  have hlB2 : decide ((1048576 : Int) < (len2 : Int)) = false := by simp; omega
  go_enter Try.func6, Try.ntmps6
  go_wp2_with fail
  refine (drawSumsSet s len cap w hb).mono ?_
  rintro e w1 ⟨g, c, zs, leaf, v, rfl, hi1, hl1, hlc1, hB1⟩
  have HI1 := Lib.hid hi1.ints
  have HM : Hid (zs.length ≤ maxLen) := by show _ ≤ _; unfold maxLen; omega
  have HC := Lib.hid hlc1
  obtain ⟨L, hL⟩ : ∃ L, sumsSetL zs leaf v = L := ⟨_, rfl⟩
  have hor := sumsSetL_or zs leaf v
  rw [hL] at hor
  have HL := Lib.hid hL
  clear hi1 hL hb
  go_wp2_with fail
  refine (sumsset_as _ _ _ zs leaf v w1 L L.length HI1.out rfl HM.out HC.out HL.out rfl).mono ?_
  rintro e w2 ⟨g2, c2, rfl, ho2, hc2, hb2⟩
  have hB2 : Below w.heap.size w w2 := hB1.trans (hb2.mono hB1.size)
  have HI2 := Lib.hid (HI1.out.keepB hb2 (Nat.le_refl _))
  have HO2 := Lib.hid ho2
  clear ho2 hb2
  go_wp2_with fail
  refine (ssumsset_as _ _ _ zs leaf v w2 L L.length HI2.out rfl HM.out HC.out HL.out rfl).mono ?_
  rintro e w3 ⟨g3, c3, rfl, ho3, hc3, hb3⟩
  have hB3 : Below w.heap.size w w3 := hB2.trans (hb3.mono hB2.size)
  have HI3 := Lib.hid (HI2.out.keepB hb3 (Nat.le_refl _))
  have HO3 := Lib.hid (HO2.out.keepB hb3 (Nat.le_refl _))
  have HP3 := Lib.hid ho3
  have hLm : L.length ≤ 1048576 := by rcases hor with e | e <;> rw [e] <;> simp
  clear ho3 hb3 hB1 hB2
  go_wp2_with fail
  refine (sameI_any _ _ _ _ _ L w3 HO3.out HP3.out rfl hLm).mono ?_
  rintro e w4 ⟨rfl, hs4⟩
  have hB4 : Below w.heap.size w w4 := hB3.trans (hs4.below _)
  have HO4 := Lib.hid (HO3.out.same hs4)
  have HP4 := Lib.hid (HP3.out.same hs4)
  have HI4 := Lib.hid (HI3.out.same hs4)
  clear hs4 hB3
  rcases hor with h0 | h31
  · subst h0
    go_wp2_with fail
    refine (sameI_any _ _ _ _ _ [] w4 HO4.out HP4.out rfl (by simp)).mono ?_
    rintro e w5 ⟨rfl, hs5⟩
    go_wp2
    go_ret
    exact ⟨rfl, hB4.trans (hs5.below _)⟩
  obtain ⟨ht, hsv, k, hk, rfl, hset⟩ := setL_facts (by rw [HL.out]; exact h31)
  have HSET : Hid (L = bld ((zs.drop 15).set k v)) := by show _ = _; rw [← HL.out, hset]
  have H31 := Lib.hid h31
  have hzl := (treeB_yes ht).1
  have HZL := Lib.hid hzl
  have hlv := (treeB_yes ht).2.1
  have hc31 : 31 ≤ c2 := by omega
  have hcz31 : 31 ≤ c := by omega
  have hsvB := hsv
  obtain ⟨r, hr⟩ : ∃ r, r = len2 % 15 := ⟨_, rfl⟩
  have hr15 : r < 15 := by omega
  have hmod1 : (len2 : Int).tmod 15 = (r : Int) := by rw [Int.tmod_eq_emod_of_nonneg (by omega)]; omega
  have hmod2 : (len2 : Int) % 15 = (r : Int) := by omega
  obtain ⟨o, ho⟩ : ∃ o, o = (k + 1 + r) % 16 := ⟨_, rfl⟩
  have ho16 : o < 16 := by omega
  have hok : o ≠ k := by omega
  have hmod3 : ((k : Int) + 1 + (r : Int)).tmod 16 = (o : Int) := by rw [Int.tmod_eq_emod_of_nonneg (by omega)]; omega
  have hmod4 : ((k : Int) + 1 + (r : Int)) % 16 = (o : Int) := by omega
  obtain ⟨x, hx⟩ : ∃ x, x = len2 % 991 := ⟨_, rfl⟩
  have hx991 : x < 991 := by omega
  have hmod5 : (len2 : Int).tmod 991 = (x : Int) := by rw [Int.tmod_eq_emod_of_nonneg (by omega)]; omega
  have hmod6 : (len2 : Int) % 991 = (x : Int) := by omega
  have hsx : sB (x : Int) = true := (sB_iff _).2 ⟨by omega, by omega⟩
  have hokB : ((o : Int) == (k : Int)) = false := by simp; omega
  have HTL : Hid (treeB L = true) := by show _ = _; rw [HSET.out]; exact treeB_bld (leavesB_set hlv hsv)
  have hd : L.drop 15 = (zs.drop 15).set k v := by rw [HSET.out]; exact bld_drop (by rw [List.length_set]; exact (leavesB_yes hlv).1)
  obtain ⟨M, hM⟩ : ∃ M, sumsSetL L o x = M := ⟨_, rfl⟩
  have hM' : M = bld (((zs.drop 15).set k v).set o x) := by rw [← hM, sumsSetL_yes HTL.out ho16 hsx, hd]
  obtain ⟨P, hP⟩ : ∃ P, sumsSetL zs o x = P := ⟨_, rfl⟩
  have hP' : P = bld ((zs.drop 15).set o x) := by rw [← hP, sumsSetL_yes ht ho16 hsx]
  have htP : treeB P = true := by rw [hP']; exact treeB_bld (leavesB_set hlv hsx)
  have hdP : P.drop 15 = (zs.drop 15).set o x := by rw [hP']; exact bld_drop (by rw [List.length_set]; exact (leavesB_yes hlv).1)
  have hQ : sumsSetL P k v = M := by rw [sumsSetL_yes htP hk hsv, hdP, hM', List.set_comm _ _ hok]
  have HM31 : Hid (M.length = 31) := by show _ = _; rw [hM', bld_len]
  have HP31 : Hid (P.length = 31) := by show _ = _; rw [hP', bld_len]
  have HME := Lib.hid hM
  have HPE := Lib.hid hP
  have HQE := Lib.hid hQ
  rw [h31, hzl]
  clear hr ho hx hsx hok hd hM hM' hP hP' htP hdP hQ hset ht hsv hlv hzl h31 hsvB hc2
  go_wp2_with fail
  refine (sumsset_as _ _ _ L o x w4 M 31 HO4.out H31.out (by unfold maxLen; omega) hc31 HME.out HM31.out).mono ?_
  rintro e w5 ⟨g5, c5, rfl, ho5, hc5, hb5⟩
  have hB5 : Below w.heap.size w w5 := hB4.trans (hb5.mono hB4.size)
  have HI5 := Lib.hid (HI4.out.keepB hb5 (Nat.le_refl _))
  have HO5 := Lib.hid ho5
  clear ho5 hb5
  go_wp2_with fail
  refine (sumsset_as _ _ _ zs o x w5 P 31 HI5.out HZL.out (by unfold maxLen; omega) hcz31 HPE.out HP31.out).mono ?_
  rintro e w6 ⟨g6, c6, rfl, ho6, hc6, hb6⟩
  have hB6 : Below w.heap.size w w6 := hB5.trans (hb6.mono hB5.size)
  have HO6 := Lib.hid (HO5.out.keepB hb6 (Nat.le_refl _))
  have HP6 := Lib.hid ho6
  clear ho6 hb6
  go_wp2_with fail
  refine (sumsset_as _ _ _ P k v w6 M 31 HP6.out HP31.out (by unfold maxLen; omega) hc6 HQE.out HM31.out).mono ?_
  rintro e w7 ⟨g7, c7, rfl, ho7, hc7, hb7⟩
  have hB7 : Below w.heap.size w w7 := hB6.trans (hb7.mono hB6.size)
  have HO7 := Lib.hid (HO6.out.keepB hb7 (Nat.le_refl _))
  have HQ7 := Lib.hid ho7
  clear ho7 hb7
  go_wp2_with fail
  refine (sameI_any _ _ 31 _ _ M w7 HO7.out HQ7.out HM31.out (by omega)).mono ?_
  rintro e w8 ⟨rfl, hs8⟩
  go_wp2
  go_ret
  exact ⟨rfl, hB7.trans (hs8.below _)⟩

set_option maxHeartbeats 4000000 in
theorem sumsSetOther (s : Option Addr) (len cap : Nat) (z : List Int) (w : World) (h : RowIn .u8 w s len cap z) :
    Calls Try.prog 5 #[.slice s len cap] w fun e w' => e = .returned (.bool true) ∧ Below w.heap.size w w' := by
  have hb := bytes_of_row h
  have hm : len ≤ maxLen := Nat.le_trans hb.1 hb.2.1
  unfold maxLen at hm
  clear h
  by_cases hllen : 1048576 < len
  · have hlB : decide ((1048576 : Int) < (len : Int)) = true := by simp; omega
    go_enter Try.func5, Try.ntmps5
    go_wp2
    go_ret
    exact ⟨rfl, Below.refl _ _⟩
  have hlB : decide ((1048576 : Int) < (len : Int)) = false := by simp; omega
  go_enter Try.func5, Try.ntmps5
  go_wp2_with fail
  refine (drawSumsSet s len cap w hb).mono ?_
  rintro e w1 ⟨g, c, zs, leaf, v, rfl, hi1, hl1, hlc1, hB1⟩
  have HI1 := Lib.hid hi1.ints
  have HM : Hid (zs.length ≤ maxLen) := by show _ ≤ _; unfold maxLen; omega
  have HC := Lib.hid hlc1
  obtain ⟨L, hL⟩ : ∃ L, sumsSetL zs leaf v = L := ⟨_, rfl⟩
  have hor := sumsSetL_or zs leaf v
  rw [hL] at hor
  have HL := Lib.hid hL
  clear hi1 hL hb
  go_wp2_with fail
  refine (sumsset_as _ _ _ zs leaf v w1 L L.length HI1.out rfl HM.out HC.out HL.out rfl).mono ?_
  rintro e w2 ⟨g2, c2, rfl, ho2, hc2, hb2⟩
  have hB2 : Below w.heap.size w w2 := hB1.trans (hb2.mono hB1.size)
  have HI2 := Lib.hid (HI1.out.keepB hb2 (Nat.le_refl _))
  have HO2 := Lib.hid ho2
  clear ho2 hb2
  go_wp2_with fail
  refine (ssumsset_as _ _ _ zs leaf v w2 L L.length HI2.out rfl HM.out HC.out HL.out rfl).mono ?_
  rintro e w3 ⟨g3, c3, rfl, ho3, hc3, hb3⟩
  have hB3 : Below w.heap.size w w3 := hB2.trans (hb3.mono hB2.size)
  have HI3 := Lib.hid (HI2.out.keepB hb3 (Nat.le_refl _))
  have HO3 := Lib.hid (HO2.out.keepB hb3 (Nat.le_refl _))
  have HP3 := Lib.hid ho3
  have hLm : L.length ≤ 1048576 := by rcases hor with e | e <;> rw [e] <;> simp
  clear ho3 hb3 hB1 hB2
  go_wp2_with fail
  refine (sameI_any _ _ _ _ _ L w3 HO3.out HP3.out rfl hLm).mono ?_
  rintro e w4 ⟨rfl, hs4⟩
  have hB4 : Below w.heap.size w w4 := hB3.trans (hs4.below _)
  have HO4 := Lib.hid (HO3.out.same hs4)
  have HP4 := Lib.hid (HP3.out.same hs4)
  have HI4 := Lib.hid (HI3.out.same hs4)
  clear hs4 hB3
  rcases hor with h0 | h31
  · subst h0
    go_wp2_with fail
    refine (sameI_any _ _ _ _ _ [] w4 HO4.out HP4.out rfl (by simp)).mono ?_
    rintro e w5 ⟨rfl, hs5⟩
    go_wp2
    go_ret
    exact ⟨rfl, hB4.trans (hs5.below _)⟩
  obtain ⟨ht, hsv, k, hk, rfl, hset⟩ := setL_facts (by rw [HL.out]; exact h31)
  have HSET : Hid (L = bld ((zs.drop 15).set k v)) := by show _ = _; rw [← HL.out, hset]
  have H31 := Lib.hid h31
  have hzl := (treeB_yes ht).1
  have HZL := Lib.hid hzl
  have hlv := (treeB_yes ht).2.1
  have hc31 : 31 ≤ c2 := by omega
  have hcz31 : 31 ≤ c := by omega
  obtain ⟨d, hd⟩ : ∃ d, d = dff L zs := ⟨_, rfl⟩
  have hd5 : cnt d 31 ≤ 5 := by
    rw [← pth_cnt hk]
    refine cnt_mono' 31 (fun i hi hdi => ?_)
    rw [hd, HSET.out] at hdi
    exact decide_eq_true (set_diff ht hk i hi hdi)
  have hiff : (cnt d 31 = 0) ↔ gt zs (15 + k) = v := by
    have hlk : gt L (15 + k) = v := by
      rw [HSET.out, bld_gt _ (by omega), tn_leaf _ (by omega), gt_set (by rw [(leavesB_yes hlv).1]; omega), if_pos (by omega)]
    constructor
    · intro h0
      by_cases e : gt zs (15 + k) = v
      · exact e
      · exfalso
        have : d (15 + k) = true := by rw [hd, dff, hlk]; simp; exact fun h => e h.symm
        have := cnt_pos this 31 (by omega); omega
    · intro e
      refine cnt_none 31 (fun i hi => ?_)
      have hLz : L = zs := by
        have hg : gt (zs.drop 15) k = v := by rw [gt_drop]; exact e
        rw [HSET.out, ← hg, set_self (by rw [(leavesB_yes hlv).1]; omega)]
        exact (treeB_yes ht).2.2
      rw [hd, hLz, dff]; simp
  obtain ⟨x, hx⟩ : ∃ x, x = gt zs (15 + k) := ⟨_, rfl⟩
  rw [← hx] at hiff
  have HD := Lib.hid hd
  have HXE := Lib.hid hx
  have HIFF := Lib.hid hiff
  have hk16 : (k : Int) < 16 := by omega
  have h31z : (31 : Int) ≤ (c : Int) := by omega
  rw [h31, hzl]
  clear hd hx hiff hset ht hsv hlv hzl h31 hc2
  have cells : ∀ (u : Nat) (M : List Int), M.length = 31 → IntsAt w4 (some ⟨u, 0, none⟩) M → ∀ i, i < 31 → w4.cell? ⟨u, i, none⟩ = some (.int .i64 (gt M i)) := by
    intro u M hl hi i h
    rcases hi with h0 | ⟨b, off, ha, hb, hc⟩
    · rw [h0] at hl; simp at hl
    · injection ha with ha; injection ha with ha ho; subst ha ho
      have := hc i (by omega)
      rwa [Nat.zero_add] at this
  have HCO := Lib.hid (cells g2 L H31.out HO4.out)
  have HCZ := Lib.hid (cells g zs HZL.out HI4.out)
  clear cells
  go_wp2
  go_loopw [8, 9] (fun n i wr => ∃ j : Nat, j ≤ 31 ∧ i = .int .i64 j ∧ n = .int .i64 (cnt d j : Nat) ∧ Same w4 wr) (fun _ i _ => 31 - (intOf i).toNat)
  case atStart => exact ⟨0, by omega, rfl, rfl, Same.refl _⟩
  case round =>
    obtain ⟨j, hj, rfl, rfl, hsm⟩ := hrel
    by_cases hlt : j < 31
    · have c1 : wr.cell? ⟨g2, j, none⟩ = some (.int .i64 (gt L j)) := (hsm.cell _).trans (HCO.out j hlt)
      have c2' : wr.cell? ⟨g, j, none⟩ = some (.int .i64 (gt zs j)) := (hsm.cell _).trans (HCZ.out j hlt)
      have hdj : d j = !(gt L j == gt zs j) := by rw [HD.out, dff]
      obtain ⟨y1, hy1⟩ : ∃ y, y = gt L j := ⟨_, rfl⟩
      obtain ⟨y2, hy2⟩ : ∃ y, y = gt zs j := ⟨_, rfl⟩
      rw [← hy1] at c1 hdj
      rw [← hy2] at c2' hdj
      have hcj : cnt d j ≤ 31 := by have := cnt_le d j; omega
      obtain ⟨n, hn⟩ : ∃ n, n = cnt d j := ⟨_, rfl⟩
      rw [← hn] at hcj ⊢
      have hjlt : (j : Int) < 31 := by omega
      have hj0 : (0 : Int) ≤ (j : Int) := by omega
      rcases bcase (y1 == y2) with hv | hv
      · have hv' : (y1 != y2) = false := by simp [bne, hv]
        have E : Hid (n = cnt d (j + 1)) := by show _ = _; rw [hn, cnt, hdj, hv]; simp
        clear hy1 hy2 hdj hn hv
        go_wp2
        go_quiet (fail)
        go_wp2
        go_roundw
        case rel => exact ⟨j + 1, by omega, by go_num, by rw [← E.out], hsm.drewN _⟩
        case measure => simp [intOf]; omega
      · have hv' : (y1 != y2) = true := by simp [bne, hv]
        have E : Hid ((n : Int) + 1 = ((cnt d (j + 1) : Nat) : Int)) := by show _ = _; rw [hn, cnt, hdj, hv]; simp
        clear hy1 hy2 hdj hn hv
        go_wp2
        go_quiet (fail)
        go_wp2
        go_roundw
        case rel => exact ⟨j + 1, by omega, by go_num, by rw [← E.out], hsm.drewN _⟩
        case measure => simp [intOf]; omega
    · obtain rfl : j = 31 := by omega
      have cx : wr.cell? ⟨g, 15 + k, none⟩ = some (.int .i64 x) := by rw [HXE.out]; exact (hsm.cell _).trans (HCZ.out (15 + k) (by omega))
      have hN5 : cnt d 31 ≤ 5 := hd5
      obtain ⟨n, hn⟩ : ∃ n, n = cnt d 31 := ⟨_, rfl⟩
      have hi := HIFF.out
      rw [← hn] at hN5 hi ⊢
      have hq : ((n : Int) == 0) = (x == v) := by
        rw [Bool.eq_iff_iff]
        simp only [beq_iff_eq]
        constructor
        · intro e; exact hi.1 (by omega)
        · intro e; have := hi.2 e; omega
      have hN5' : (n : Int) ≤ 5 := by omega
      clear hi hn hd5 hlt hj
      rcases bcase (x == v) with e | e
      · have hn0 : ((n : Int) == 0) = true := by rw [hq, e]
        clear hq
        go_wp2
        go_ret
        exact ⟨rfl, hB4.trans (hsm.below _)⟩
      · have hn0 : ((n : Int) == 0) = false := by rw [hq, e]
        clear hq
        go_wp2
        go_ret
        exact ⟨rfl, hB4.trans (hsm.below _)⟩

end Go.Proofs.Ytkpfpnmokknbaaa
