/- The walks of the laws of paths. -/
import Derived.Test.YtblhaccjngjekaaPzWDraw2
import Derived.Test.YtblhaccjngjekaaPzWS
import Derived.Test.YtblhaccjngjekaaPzWP
namespace Go.Proofs.Ytblhaccjngjekaa
open Go.RowKit
set_option linter.unusedVariables false
attribute [local go_sem ↓] Go.wp_at_zero Go.wp_at_succ

theorem sdj_aw (v : Bool) (a : Option Addr) (len cap : Nat) (ps : List (List Int)) (w : World) (h : SsAt w a ps) (hz : ps.length = len) (hm : len ≤ maxLen) (hv : djR ps = v) :
    Calls Try.prog 29 #[.slice a len cap] w fun e w' => e = .returned (.bool v) ∧ Below w.heap.size w w' := by subst hv; exact (sdj_any a len cap ps w h hz hm).mono fun _ _ ⟨h1, h2⟩ => ⟨h1, h2.below _⟩
theorem pdj_aw (v : Bool) (a : Option Addr) (len cap : Nat) (ps : List (List Int)) (w : World) (h : SsAt w a ps) (hz : ps.length = len) (hm : len ≤ maxLen) (hcp : len ≤ cap) (hv : djR ps = v) :
    Calls Try.prog 28 #[.slice a len cap] w fun e w' => e = .returned (.bool v) ∧ Below w.heap.size w w' := by subst hv; exact pdj_any a len cap ps w h hz hm hcp
theorem shon_aw (v : Int) (a : Option Addr) (len cap : Nat) (ps : List (List Int)) (s2 : Option Addr) (len2 cap2 : Nat) (bad : List Int) (w : World) (h : SsAt w a ps) (hz : ps.length = len) (hm : len ≤ maxLen) (h2 : IntsAt w s2 bad) (hz2 : bad.length = len2) (hm2 : len2 ≤ maxLen) (hv : honR ps bad = v) :
    Calls Try.prog 36 #[.slice a len cap, .slice s2 len2 cap2] w fun e w' => e = .returned (.int .i64 v) ∧ Below w.heap.size w w' := by subst hv; exact (shon_any a len cap ps s2 len2 cap2 bad w h hz hm h2 hz2 hm2).mono fun _ _ ⟨h1, h2⟩ => ⟨h1, h2 ▸ Below.refl _ _⟩
theorem phon_aw (v : Int) (a : Option Addr) (len cap : Nat) (ps : List (List Int)) (s2 : Option Addr) (len2 cap2 : Nat) (bad : List Int) (w : World) (h : SsAt w a ps) (hz : ps.length = len) (hm : len ≤ maxLen) (h2 : IntsAt w s2 bad) (hz2 : bad.length = len2) (hm2 : len2 ≤ maxLen) (hv : honR ps bad = v) :
    Calls Try.prog 35 #[.slice a len cap, .slice s2 len2 cap2] w fun e w' => e = .returned (.int .i64 v) ∧ Below w.heap.size w w' := by subst hv; exact phon_any a len cap ps s2 len2 cap2 bad w h hz hm h2 hz2 hm2
theorem pans_aw (v : Int) (a : Option Addr) (len cap : Nat) (zs : List Int) (w : World) (h : IntsAt w a zs) (hz : zs.length = len) (hm : len ≤ maxLen) (hv : ansR zs = v) :
    Calls Try.prog 32 #[.slice a len cap] w fun e w' => e = .returned (.int .i64 v) ∧ Below w.heap.size w w' := by subst hv; exact pans_any a len cap zs w h hz hm
theorem hasW_as (v : Bool) (a : Option Addr) (len cap : Nat) (zs : List Int) (x : Int) (w : World) (h : IntsAt w a zs) (hz : zs.length = len) (hm : len ≤ maxLen) (hv : hasB zs x = v) :
    Calls Try.prog 30 #[.slice a len cap, .int .i64 x] w fun e w' => e = .returned (.bool v) ∧ w = w' := by subst hv; exact lhas_any a len cap zs x w h hz hm
theorem nine_max {n : Nat} (h : n ≤ 9) : n ≤ maxLen := by unfold maxLen; omega
/-- the answers of the first n paths: honest ones say 7 -/
def anTo (bad : List Int) (ps : List (List Int)) (x : Int) : Nat → List Int
  | 0 => []
  | k + 1 => anTo bad ps x k ++ [if hoB bad (gl ps k) = true then 7 else x]
theorem anTo_len (bad : List Int) (ps : List (List Int)) (x : Int) (n : Nat) : (anTo bad ps x n).length = n := by
  induction n with
  | zero => rfl
  | succ n ih => unfold anTo; rw [List.length_append, ih]; rfl
theorem anTo_at (bad : List Int) (ps : List (List Int)) (x : Int) {n i : Nat} (h : i < n) : gt (anTo bad ps x n) i = if hoB bad (gl ps i) = true then 7 else x := by
  induction n with
  | zero => omega
  | succ n ih =>
    have hl := anTo_len bad ps x n
    unfold anTo gt
    rw [List.getD_eq_getElem?_getD]
    by_cases hi : i < n
    · rw [List.getElem?_append_left (by omega), ← List.getD_eq_getElem?_getD]
      exact ih hi
    · obtain rfl : i = n := by omega
      rw [List.getElem?_append_right (by omega), hl]; simp
theorem an_count (bad : List Int) (ps : List (List Int)) (x : Int) (n : Nat) : ∀ j, j ≤ n → hcN bad ps j ≤ cnA (anTo bad ps x n) 7 j := by
  intro j
  induction j with
  | zero => intro _; simp [hcN]
  | succ j ih =>
    intro hj
    have := ih (by omega)
    unfold hcN cnA
    rw [anTo_at bad ps x (show j < n by omega)]
    by_cases ho : hoB bad (gl ps j) = true
    · rw [if_pos ho, if_pos (if_pos ho)]; omega
    · rw [if_neg ho]; split <;> omega
/-- more honest paths than others: 7 wins -/
theorem an_wins {bad : List Int} {ps : List (List Int)} {x : Int} (h7 : ps.length ≤ 7) (h : ps.length < 2 * hcN bad ps ps.length) : ansR (anTo bad ps x ps.length) = 7 := by
  have hl := anTo_len bad ps x ps.length
  have hm : mjA (anTo bad ps x ps.length) 7 = true := by
    unfold mjA
    rw [hl, decide_eq_true_eq]
    have := an_count bad ps x ps.length ps.length (Nat.le_refl _)
    omega
  obtain ⟨i, hi, he⟩ := mj_in hm
  rw [ansR_some (by omega) hi (by rw [he]; exact hm), he]

set_option maxRecDepth 20000 in
set_option maxHeartbeats 4000000 in
theorem pathsHonest (s : Option Addr) (len cap : Nat) (z : List Int) (w : World) (h : RowIn .u8 w s len cap z) :
    Calls Try.prog 9 #[.slice s len cap] w fun e w' => e = .returned (.bool true) ∧ Below w.heap.size w w' := by
  have hb := bytes_of_row h
  have hm : len ≤ maxLen := Nat.le_trans hb.1 hb.2.1
  unfold maxLen at hm
  clear h
  by_cases hllen : 1048576 < len
  · go_enter Try.func9, Try.ntmps9
    go_wp2
    go_ret
    exact ⟨rfl, Below.refl _ _⟩
  have HY := Lib.hid hb
  clear hb
  go_enter Try.func9, Try.ntmps9
  go_wp2_with fail
  refine (drawPathsHonest s len cap w HY.out).mono ?_
  rintro e w1 ⟨N, c, ps, g, cg, bad, rfl, h9, hpc, h4, hss, hib, hb1⟩
  have B1 : Hid (Below w.heap.size w w1) := hb1
  have T1 := Lib.hid hss
  have D1 := Lib.hid hib
  clear hb1 hss hib
  obtain ⟨n, hn⟩ : ∃ n, ps.length = n := ⟨_, rfl⟩
  obtain ⟨m, hm'⟩ : ∃ m, bad.length = m := ⟨_, rfl⟩
  rw [hn] at h9 hpc ⊢
  rw [hm'] at h4 ⊢
  have HPC := Lib.hid hpc
  have HN := Lib.hid hn
  have HMB := Lib.hid hm'
  have HX9 := Lib.hid (nine_max h9)
  have HX4 := Lib.hid (nine_max (show m ≤ 9 by omega))
  clear hn hm' hpc
  cases hpv : pvB ps
  · have HV := Lib.hid (honR_bad (bad := bad) hpv)
    clear hpv
    go_wp2_with fail
    refine (phon_aw (-1) _ n c ps _ m cg bad w1 T1.out HN.out HX9.out D1.out HMB.out HX4.out HV.out).mono ?_
    rintro e w2 ⟨rfl, hb2⟩
    have B2 : Hid (Below w.heap.size w w2) := B1.out.trans (hb2.mono B1.out.size)
    have T2 := Lib.hid (T1.out.keepB hb2 (Nat.le_refl _))
    have D2 := Lib.hid (D1.out.keepB hb2 (Nat.le_refl _))
    clear hb2
    go_wp2_with fail
    refine (shon_aw (-1) _ n c ps _ m cg bad w2 T2.out HN.out HX9.out D2.out HMB.out HX4.out HV.out).mono ?_
    rintro e w3 ⟨rfl, hb3⟩
    have B3 : Hid (Below w.heap.size w w3) := B2.out.trans (hb3.mono B2.out.size)
    have T3 := Lib.hid (T2.out.keepB hb3 (Nat.le_refl _))
    have D3 := Lib.hid (D2.out.keepB hb3 (Nat.le_refl _))
    clear hb3
    go_wp2
    go_ret
    exact ⟨rfl, B3.out⟩
  · have h7 := ((pvB_iff _).1 hpv).2
    rw [HN.out] at h7
    obtain ⟨h, hh⟩ : ∃ h, hcN bad ps n = h := ⟨_, rfl⟩
    have hle := hcN_le bad ps n
    rw [hh] at hle
    have HV : Hid (honR ps bad = (h : Int)) := by show _ = _; rw [honR_ok hpv, HN.out, hh]
    have HH := Lib.hid hh
    have q1 : ((h : Int) != (h : Int)) = false := by simp
    have q0 : ¬ (h : Int) < 0 := by omega
    have HPV := Lib.hid hpv
    clear hpv hh
    go_wp2_with fail
    refine (phon_aw h _ n c ps _ m cg bad w1 T1.out HN.out HX9.out D1.out HMB.out HX4.out HV.out).mono ?_
    rintro e w2 ⟨rfl, hb2⟩
    have B2 : Hid (Below w.heap.size w w2) := B1.out.trans (hb2.mono B1.out.size)
    have T2 := Lib.hid (T1.out.keepB hb2 (Nat.le_refl _))
    have D2 := Lib.hid (D1.out.keepB hb2 (Nat.le_refl _))
    clear hb2
    go_wp2_with fail
    refine (shon_aw h _ n c ps _ m cg bad w2 T2.out HN.out HX9.out D2.out HMB.out HX4.out HV.out).mono ?_
    rintro e w3 ⟨rfl, hb3⟩
    have B3 : Hid (Below w.heap.size w w3) := B2.out.trans (hb3.mono B2.out.size)
    have T3 := Lib.hid (T2.out.keepB hb3 (Nat.le_refl _))
    have D3 := Lib.hid (D2.out.keepB hb3 (Nat.le_refl _))
    clear hb3
    have hln : (h : Int) ≤ (n : Int) := by omega
    cases hd : djR ps
    · have HD := Lib.hid hd
      clear hd
      go_wp2_with fail
      refine (pdj_aw false _ n c ps w3 T3.out HN.out HX9.out HPC.out HD.out).mono ?_
      rintro e w4 ⟨rfl, hb4⟩
      have B4 : Hid (Below w.heap.size w w4) := B3.out.trans (hb4.mono B3.out.size)
      have T4 := Lib.hid (T3.out.keepB hb4 (Nat.le_refl _))
      have D4 := Lib.hid (D3.out.keepB hb4 (Nat.le_refl _))
      clear hb4
      go_wp2
      go_ret
      exact ⟨rfl, B4.out⟩
    · have HD := Lib.hid hd
      have hmany := hon_many (bad := bad) (djR_iff.1 hd).2
      rw [HN.out, HMB.out, HH.out] at hmany
      have hge : (n : Int) - (m : Int) ≤ (h : Int) := by omega
      clear hd
      go_wp2_with fail
      refine (pdj_aw true _ n c ps w3 T3.out HN.out HX9.out HPC.out HD.out).mono ?_
      rintro e w4 ⟨rfl, hb4⟩
      have B4 : Hid (Below w.heap.size w w4) := B3.out.trans (hb4.mono B3.out.size)
      have T4 := Lib.hid (T3.out.keepB hb4 (Nat.le_refl _))
      have D4 := Lib.hid (D3.out.keepB hb4 (Nat.le_refl _))
      clear hb4
      go_wp2
      go_ret
      exact ⟨rfl, B4.out⟩

set_option maxRecDepth 20000 in
set_option maxHeartbeats 4000000 in
theorem pathsOutvote (s : Option Addr) (len cap : Nat) (z : List Int) (s2 : Option Addr) (len2 cap2 : Nat) (z2 : List Int) (w : World) (h : RowIn .u8 w s len cap z) (h2 : RowIn .u8 w s2 len2 cap2 z2) :
    Calls Try.prog 10 #[.slice s len cap, .slice s2 len2 cap2] w fun e w' => e = .returned (.bool true) ∧ Below w.heap.size w w' := by
  have hb := bytes_of_row h
  have hb2 := bytes_of_row h2
  have hm : len ≤ maxLen := Nat.le_trans hb.1 hb.2.1
  have hm2 : len2 ≤ maxLen := Nat.le_trans hb2.1 hb2.2.1
  unfold maxLen at hm hm2
  clear h h2 hb2
  by_cases hllen : 1048576 < len
  · go_enter Try.func10, Try.ntmps10
    go_wp2
    go_ret
    exact ⟨rfl, Below.refl _ _⟩
  have hBlen : decide ((1048576 : Int) < (len : Int)) = false := by simp; omega
  by_cases hllen2 : 1048576 < len2
  · go_enter Try.func10, Try.ntmps10
    go_wp2
    go_ret
    exact ⟨rfl, Below.refl _ _⟩
  have hBlen2 : decide ((1048576 : Int) < (len2 : Int)) = false := by simp; omega
  have HY := Lib.hid hb
  clear hb
  go_enter Try.func10, Try.ntmps10
  go_wp2_with fail
  refine (drawPathsHonest s len cap w HY.out).mono ?_
  rintro e w1 ⟨N, c, ps, g, cg, bad, rfl, h9, hpc, h4, hss, hib, hb1⟩
  have B1 : Hid (Below w.heap.size w w1) := hb1
  have T1 := Lib.hid hss
  have D1 := Lib.hid hib
  clear hb1 hss hib
  obtain ⟨n, hn⟩ : ∃ n, ps.length = n := ⟨_, rfl⟩
  obtain ⟨m, hm'⟩ : ∃ m, bad.length = m := ⟨_, rfl⟩
  rw [hn] at h9 hpc ⊢
  rw [hm'] at h4 ⊢
  have HPC := Lib.hid hpc
  have HN := Lib.hid hn
  have HMB := Lib.hid hm'
  have HX9 := Lib.hid (nine_max h9)
  have HX4 := Lib.hid (nine_max (show m ≤ 9 by omega))
  clear hn hm' hpc
  cases hpv : pvB ps
  · have HV := Lib.hid (honR_bad (bad := bad) hpv)
    clear hpv
    go_wp2_with fail
    refine (phon_aw (-1) _ n c ps _ m cg bad w1 T1.out HN.out HX9.out D1.out HMB.out HX4.out HV.out).mono ?_
    rintro e w2 ⟨rfl, hb2⟩
    have B2 : Hid (Below w.heap.size w w2) := B1.out.trans (hb2.mono B1.out.size)
    have T2 := Lib.hid (T1.out.keepB hb2 (Nat.le_refl _))
    have D2 := Lib.hid (D1.out.keepB hb2 (Nat.le_refl _))
    clear hb2
    go_wp2_with fail
    refine (shon_aw (-1) _ n c ps _ m cg bad w2 T2.out HN.out HX9.out D2.out HMB.out HX4.out HV.out).mono ?_
    rintro e w3 ⟨rfl, hb3⟩
    have B3 : Hid (Below w.heap.size w w3) := B2.out.trans (hb3.mono B2.out.size)
    have T3 := Lib.hid (T2.out.keepB hb3 (Nat.le_refl _))
    have D3 := Lib.hid (D2.out.keepB hb3 (Nat.le_refl _))
    clear hb3
    go_wp2
    go_ret
    exact ⟨rfl, B3.out⟩
  · have h7 := ((pvB_iff _).1 hpv).2
    rw [HN.out] at h7
    obtain ⟨h, hh⟩ : ∃ h, hcN bad ps n = h := ⟨_, rfl⟩
    have hle := hcN_le bad ps n
    rw [hh] at hle
    have HV : Hid (honR ps bad = (h : Int)) := by show _ = _; rw [honR_ok hpv, HN.out, hh]
    have HH := Lib.hid hh
    have q1 : ((h : Int) != (h : Int)) = false := by simp
    have q0 : ¬ (h : Int) < 0 := by omega
    have HPV := Lib.hid hpv
    clear hpv hh
    go_wp2_with fail
    refine (phon_aw h _ n c ps _ m cg bad w1 T1.out HN.out HX9.out D1.out HMB.out HX4.out HV.out).mono ?_
    rintro e w2 ⟨rfl, hb2⟩
    have B2 : Hid (Below w.heap.size w w2) := B1.out.trans (hb2.mono B1.out.size)
    have T2 := Lib.hid (T1.out.keepB hb2 (Nat.le_refl _))
    have D2 := Lib.hid (D1.out.keepB hb2 (Nat.le_refl _))
    clear hb2
    go_wp2_with fail
    refine (shon_aw h _ n c ps _ m cg bad w2 T2.out HN.out HX9.out D2.out HMB.out HX4.out HV.out).mono ?_
    rintro e w3 ⟨rfl, hb3⟩
    have B3 : Hid (Below w.heap.size w w3) := B2.out.trans (hb3.mono B2.out.size)
    have T3 := Lib.hid (T2.out.keepB hb3 (Nat.le_refl _))
    have D3 := Lib.hid (D2.out.keepB hb3 (Nat.le_refl _))
    clear hb3
    cases hd : djR ps
    · have HD := Lib.hid hd
      clear hd
      go_wp2_with fail
      refine (pdj_aw false _ n c ps w3 T3.out HN.out HX9.out HPC.out HD.out).mono ?_
      rintro e w4 ⟨rfl, hb4⟩
      have B4 : Hid (Below w.heap.size w w4) := B3.out.trans (hb4.mono B3.out.size)
      have T4 := Lib.hid (T3.out.keepB hb4 (Nat.le_refl _))
      have D4 := Lib.hid (D3.out.keepB hb4 (Nat.le_refl _))
      clear hb4
      go_wp2
      go_ret
      exact ⟨rfl, B4.out⟩
    · have HD := Lib.hid hd
      have hmany := hon_many (bad := bad) (djR_iff.1 hd).2
      rw [HN.out, HMB.out, HH.out] at hmany
      clear hd
      by_cases hfew : n ≤ 2 * m
      · have hfi : (n : Int) ≤ 2 * (m : Int) := by omega
        go_wp2_with fail
        refine (pdj_aw true _ n c ps w3 T3.out HN.out HX9.out HPC.out HD.out).mono ?_
        rintro e w4 ⟨rfl, hb4⟩
        have B4 : Hid (Below w.heap.size w w4) := B3.out.trans (hb4.mono B3.out.size)
        have T4 := Lib.hid (T3.out.keepB hb4 (Nat.le_refl _))
        have D4 := Lib.hid (D3.out.keepB hb4 (Nat.le_refl _))
        clear hb4
        go_wp2
        go_ret
        exact ⟨rfl, B4.out⟩
      · have hfi : ¬ (n : Int) ≤ 2 * (m : Int) := by omega
        go_wp2_with fail
        refine (pdj_aw true _ n c ps w3 T3.out HN.out HX9.out HPC.out HD.out).mono ?_
        rintro e w4 ⟨rfl, hb4⟩
        have B4 : Hid (Below w.heap.size w w4) := B3.out.trans (hb4.mono B3.out.size)
        have T4 := Lib.hid (T3.out.keepB hb4 (Nat.le_refl _))
        have D4 := Lib.hid (D3.out.keepB hb4 (Nat.le_refl _))
        clear hb4
        obtain ⟨x, hx⟩ : ∃ x, (len2 : Int) % 9 = x := ⟨_, rfl⟩
        have hx0 : 0 ≤ x ∧ x < 9 := by omega
        obtain ⟨hx0, hx9⟩ := hx0
        have hx2 : (len2 : Int).tmod 9 = x := by rw [Int.tmod_eq_emod_of_nonneg (by omega)]; exact hx
        have HA : Hid (ansR (anTo bad ps x n) = 7) := by
          have := an_wins (bad := bad) (ps := ps) (x := x) (by rw [HN.out]; exact h7) (by rw [HN.out, HH.out]; omega)
          rw [HN.out] at this; exact this
        have H0 := Lib.hid (sofar_new w4 #[] rfl)
        have HAL := Lib.hid (anTo_len bad ps x n)
        go_wp2
        go_loopw [9, 10] (fun o i wr => ∃ k : Nat, k ≤ n ∧ i = .int .i64 k ∧ IntsSoFar (anTo bad ps x k) w4 o wr) (fun _ i _ => n - (intOf i).toNat)
        case atStart => exact ⟨0, by omega, rfl, H0.out⟩
        case round =>
          obtain ⟨k, hk, rfl, g2, cp2, rfl, hown, hbel⟩ := hrel
          have hal := anTo_len bad ps x k
          have HAK := Lib.hid hal
          have HO := Lib.hid hown
          have HBE := Lib.hid hbel
          have hgl := hown.lt
          have HSU : Hid (anTo bad ps x (k + 1) = anTo bad ps x k ++ [if hoB bad (gl ps k) = true then 7 else x]) := rfl
          rw [hal]
          obtain ⟨w5, rfl⟩ : ∃ x, x = wr := ⟨_, rfl⟩
          clear hown hbel hal H0
          by_cases hlt : k < n
          · obtain ⟨b, off, hab, hb0, hrows⟩ := (T4.out.keepB HBE.out (Nat.le_refl _)).row (by rw [HN.out]; omega)
            injection hab with hab
            injection hab with hab1 hab2
            subst hab1 hab2
            have D5 := Lib.hid (D4.out.keepB HBE.out (Nat.le_refl _))
            obtain ⟨ai, ci, hc, hints, hl, hci⟩ := hrows k (by rw [HN.out]; exact hlt)
            have HT := Lib.hid hints
            have k0 : (0 : Int) ≤ (k : Int) := by omega
            have k1 : (k : Int) < (n : Int) := by omega
            unfold maxLen at hci
            obtain ⟨l, hn⟩ : ∃ l, (gl ps k).length = l := ⟨_, rfl⟩
            rw [hn] at hc hl
            have HL := Lib.hid hn
            clear hrows hints hn hb0
            try rw [Nat.zero_add] at hc
            go_wp2
            go_loop [11, 12] (fun u i => ∃ q : Nat, q ≤ l ∧ i = .int .i64 q ∧ u = .int .i64 (if hoTo bad (gl ps k) q = true then 7 else x)) (fun _ i => l - (intOf i).toNat)
            case atStart => exact ⟨0, by omega, rfl, by rw [hoTo_zero]; rfl⟩
            case round =>
              obtain ⟨q, hq, rfl, rfl⟩ := hrel
              by_cases hql : q < l
              · obtain ⟨b2, off2, rfl, hc2⟩ := HT.out.cellAt (k := q) (by rw [HL.out]; exact hql)
                obtain ⟨y, hy⟩ : ∃ y, y = gt (gl ps k) q := ⟨_, rfl⟩
                rw [← hy] at hc2
                have HY2 := Lib.hid hy
                have q0 : (0 : Int) ≤ (q : Int) := by omega
                have q1 : (q : Int) < (l : Int) := by omega
                obtain ⟨u, hu⟩ : ∃ u : Int, u = if hoTo bad (gl ps k) q = true then 7 else x := ⟨_, rfl⟩
                have HU := Lib.hid hu
                rw [← hu]
                clear hy hu
                cases hp : hasB bad y
                · have HP := Lib.hid hp
                  have HNX : Hid ((if hoTo bad (gl ps k) (q + 1) = true then (7 : Int) else x) = u) := by show _ = _; rw [hoTo_good (by rw [← HY2.out]; exact hp)]; exact HU.out.symm
                  clear hp
                  go_wp2_with fail
                  refine (hasW_as false _ m cg bad y w5 D5.out HMB.out HX4.out HP.out).mono ?_
                  rintro e w' ⟨rfl, rfl⟩
                  go_wp2
                  go_round
                  case rel => exact ⟨q + 1, by omega, by go_num, by rw [HNX.out]⟩
                  case measure => simp [intOf]; omega
                · have HP := Lib.hid hp
                  have HNX : Hid ((if hoTo bad (gl ps k) (q + 1) = true then (7 : Int) else x) = x) := by show _ = _; rw [hoTo_bad (by rw [← HY2.out]; exact hp)]; rfl
                  clear hp
                  go_wp2_with fail
                  refine (hasW_as true _ m cg bad y w5 D5.out HMB.out HX4.out HP.out).mono ?_
                  rintro e w' ⟨rfl, rfl⟩
                  go_wp2
                  go_round
                  case rel => exact ⟨q + 1, by omega, by go_num, by rw [HNX.out]⟩
                  case measure => simp [intOf]; omega
              · obtain rfl : q = l := by omega
                have HE : Hid (hoTo bad (gl ps k) q = hoB bad (gl ps k)) := by show _ = _; rw [← HL.out]; rfl
                rw [HE.out]
                obtain ⟨u, hu⟩ : ∃ u : Int, u = if hoB bad (gl ps k) = true then 7 else x := ⟨_, rfl⟩
                rw [← hu] at HSU ⊢
                clear hu HE
                go_wp2_with (at_builtin; have h1 := (HO.out.keepB (alBZ w5 (.cells #[.int .i64 u] 3)) (Nat.le_refl _)); have h2 := src_one (heap_alloc_new w5 (.cells #[.int .i64 u] 3)); unfold OwnI at h1; rw [HAK.out] at h1; refine wl_app _ (by rfl) _ _ (by rfl) w4.heap.size g2 k cp2 (vals (anTo bad ps x k)) (by rfl) h1 ⟨w5.heap.size, 0, none⟩ 1 1 [.int .i64 u] (by rfl) rfl h2 (by simp [Value.oneCell']) (k + 1) (vals (anTo bad ps x k ++ [u])) rfl (by simp [vals]) (by omega) (by simp; omega) ?_; intro g' c' w6 hown3 hgr3 hat3; have H6 : Hid (IntsSoFar (anTo bad ps x (k + 1)) w4 (.slice (some ⟨g', 0, none⟩) (k + 1) c') w6) := (by show IntsSoFar _ _ _ _; rw [HSU.out]; have := sofar_next (zs := anTo bad ps x k) (z := u) HBE.out (alBZ w5 _) hgr3 hgl.1 (by rw [HAK.out]; exact hown3); rw [HAK.out] at this; exact this); clear hown3 hgr3 hat3 h1 h2)
                go_roundw
                case rel => exact ⟨k + 1, by omega, by go_num, H6.out⟩
                case measure => simp [intOf]; omega
          · obtain rfl : k = n := by omega
            have B5 : Hid (Below w.heap.size w w5) := B4.out.trans (HBE.out.mono B4.out.size)
            go_wp2_with fail
            refine (pans_aw 7 _ k cp2 (anTo bad ps x k) w5 HO.out.ints HAK.out HX9.out HA.out).mono ?_
            rintro e w6 ⟨rfl, hb6⟩
            have B6 : Hid (Below w.heap.size w w6) := B5.out.trans (hb6.mono B5.out.size)
            clear hb6
            go_wp2
            go_ret
            exact ⟨rfl, B6.out⟩
end Go.Proofs.Ytblhaccjngjekaa
