/- The walks of the laws of caches. -/
import Derived.Test.YtdlapnelehehgaaCaDraw
import Derived.Test.YtdlapnelehehgaaCaP3
namespace Go.Proofs.Ytdlapnelehehgaa
open Go.RowKit
set_option linter.unusedVariables false
attribute [local go_sem ↓] Go.wp_at_zero Go.wp_at_succ

set_option maxHeartbeats 1000000 in
theorem sameLs_same (a1 a2 : Option Addr) (len cap1 cap2 : Nat) (L : List Ls) (w : World) (h1 : LsAt w a1 L) (h2 : LsAt w a2 L) (hz : L.length = len) (hm : len ≤ 1048576) :
    Calls Try.prog 18 #[.slice a1 len cap1, .slice a2 len cap2] w fun e w' => e = .returned (.bool true) ∧ Same w w' := by
  have H1 := Lib.hid h1
  have H2 := Lib.hid h2
  have HZ := Lib.hid hz
  clear h1 h2 hz
  have hne : ((len : Int) != (len : Int)) = false := by simp
  have hgd : Try.prog.eqGuardType Try.prog.depth 37 = false := by kernel_rfl
  go_enter Try.func18, Try.ntmps18
  go_wp2
  go_loopw [5] (fun i wr => ∃ k : Nat, k ≤ len ∧ i = .int .i64 k ∧ Same w wr) (fun i _ => len - (intOf i).toNat)
  case atStart => exact ⟨0, by omega, rfl, Same.refl _⟩
  case round =>
    obtain ⟨k, hk, rfl, hs⟩ := hrel
    obtain ⟨wo, rfl⟩ : ∃ x, x = wr := ⟨_, rfl⟩
    by_cases hlt : k < len
    · have hkr : Hid (k < L.length) := by show k < L.length; rw [HZ.out]; exact hlt
      obtain ⟨b, off, rfl, hb0, hcells⟩ := (H1.out.same hs).at_ (i := k) hkr.out
      obtain ⟨hc0, hc1, hc2⟩ := hcells k hkr.out
      obtain ⟨b', off', rfl, hb0', hcells'⟩ := (H2.out.same hs).at_ (i := k) hkr.out
      obtain ⟨hd0, hd1, hd2⟩ := hcells' k hkr.out
      clear hcells hcells'
      have i0 : (0 : Int) ≤ (k : Int) := by omega
      have i1 : (k : Int) < (len : Int) := by omega
      go_wp2
      go_quiet (fail)
      go_wp2
      go_roundw
      case rel => exact ⟨k + 1, by omega, by go_num, hs.drewN _⟩
      case measure => simp [intOf]; omega
    · go_wp2
      go_ret
      exact ⟨rfl, hs⟩

theorem pput_as (M : List Ls) (v : Bool) (a : Option Addr) (len cap : Nat) (L : List Ls) (key x now : Int) (w : World) (h : LsAt w a L) (hz : L.length = len) (hm : len ≤ maxLen) (hR : putR L key x now = (M, v)) :
    Calls Try.prog 16 #[.slice a len cap, .int .i64 key, .int .i64 x, .int .i64 now] w fun e w' => ∃ a' c, e = .returned (.tuple #[.slice a' M.length c, .bool v]) ∧ OwnL w' w.heap.size a' c M ∧ Below w.heap.size w w' := by
  refine (pput_any a len cap L key x now w h hz hm).mono ?_
  rintro e w' ⟨a', c, rfl, ho, hb⟩
  rw [hR] at ho ⊢
  exact ⟨a', c, rfl, ho, hb⟩
theorem sput_at (M : List Ls) (v : Bool) (a : Option Addr) (len cap : Nat) (L : List Ls) (key x now : Int) (w : World) (h : LsAt w a L) (hz : L.length = len) (hm : len ≤ maxLen) (hR : putR L key x now = (M, v)) :
    Calls Try.prog 17 #[.slice a len cap, .int .i64 key, .int .i64 x, .int .i64 now] w fun e w' => ∃ g c, e = .returned (.tuple #[.slice (some ⟨g, 0, none⟩) M.length c, .bool v]) ∧ OwnS w' w.heap.size g c M ∧ Below w.heap.size w w' := by
  refine (sput_any a len cap L key x now w h hz hm).mono ?_
  rintro e w' ⟨g, c, rfl, ho, hb⟩
  rw [hR] at ho ⊢
  exact ⟨g, c, rfl, ho, hb⟩
theorem pdrop_as (M : List Ls) (v : Bool) (a : Option Addr) (len cap : Nat) (L : List Ls) (key : Int) (w : World) (h : LsAt w a L) (hz : L.length = len) (hm : len ≤ maxLen) (hR : dropR L key = (M, v)) :
    Calls Try.prog 23 #[.slice a len cap, .int .i64 key] w fun e w' => ∃ a' c, e = .returned (.tuple #[.slice a' M.length c, .bool v]) ∧ OwnL w' w.heap.size a' c M ∧ Below w.heap.size w w' := by
  refine (pdrop_any a len cap L key w h hz hm).mono ?_
  rintro e w' ⟨a', c, rfl, ho, hb⟩
  rw [hR] at ho ⊢
  exact ⟨a', c, rfl, ho, hb⟩
theorem sdrop_at (M : List Ls) (v : Bool) (a : Option Addr) (len cap : Nat) (L : List Ls) (key : Int) (w : World) (h : LsAt w a L) (hz : L.length = len) (hm : len ≤ maxLen) (hR : dropR L key = (M, v)) :
    Calls Try.prog 25 #[.slice a len cap, .int .i64 key] w fun e w' => ∃ g c, e = .returned (.tuple #[.slice (some ⟨g, 0, none⟩) M.length c, .bool v]) ∧ OwnS w' w.heap.size g c M ∧ Below w.heap.size w w' := by
  refine (sdrop_any a len cap L key w h hz hm).mono ?_
  rintro e w' ⟨g, c, rfl, ho, hb⟩
  rw [hR] at ho ⊢
  exact ⟨g, c, rfl, ho, hb⟩
theorem pget_as (x : Int) (v : Bool) (a : Option Addr) (len cap : Nat) (L : List Ls) (key now : Int) (w : World) (h : LsAt w a L) (hz : L.length = len) (hm : len ≤ maxLen) (hR : getR L key now = (x, v)) :
    Calls Try.prog 19 #[.slice a len cap, .int .i64 key, .int .i64 now] w fun e w' => e = .returned (.tuple #[.int .i64 x, .bool v]) ∧ Below w.heap.size w w' := by
  have h0 := pget_any a len cap L key now w h hz hm
  rw [hR] at h0
  exact h0
theorem sget_as (x : Int) (v : Bool) (a : Option Addr) (len cap : Nat) (L : List Ls) (key now : Int) (w : World) (h : LsAt w a L) (hz : L.length = len) (hm : len ≤ maxLen) (hR : getR L key now = (x, v)) :
    Calls Try.prog 22 #[.slice a len cap, .int .i64 key, .int .i64 now] w fun e w' => e = .returned (.tuple #[.int .i64 x, .bool v]) ∧ Below w.heap.size w w' := by
  have h0 := sget_any a len cap L key now w h hz hm
  rw [hR] at h0
  exact h0
theorem pvalid_as (v : Bool) (a : Option Addr) (len cap : Nat) (L : List Ls) (w : World) (h : LsAt w a L) (hz : L.length = len) (hm : len ≤ maxLen) (hv : lvB L = v) :
    Calls Try.prog 20 #[.slice a len cap] w fun e w' => e = .returned (.bool v) ∧ Below w.heap.size w w' := by subst hv; exact pvalid_any a len cap L w h hz hm
theorem small_max {n : Nat} (h : n ≤ 7) : n ≤ maxLen := by unfold maxLen; omega
/-- a remainder of a length -/
theorem rem_len (n : Nat) (m : Int) (hm : 0 < m) : ∃ j : Int, (n : Int) % m = j ∧ 0 ≤ j ∧ j < m :=
  ⟨_, rfl, Int.emod_nonneg _ (by omega), Int.emod_lt_of_pos _ hm⟩

set_option maxHeartbeats 4000000 in
theorem cachePut (s : Option Addr) (len cap : Nat) (z : List Int) (w : World) (h : RowIn .u8 w s len cap z) :
    Calls Try.prog 3 #[.slice s len cap] w fun e w' => e = .returned (.bool true) ∧ Below w.heap.size w w' := by
  have hb := bytes_of_row h
  have hm : len ≤ maxLen := Nat.le_trans hb.1 hb.2.1
  unfold maxLen at hm
  clear h
  by_cases hl : 1048576 < len
  · go_enter Try.func3, Try.ntmps3
    go_wp2
    go_ret
    exact ⟨rfl, Below.refl _ _⟩
  have HY := Lib.hid hb
  clear hb
  go_enter Try.func3, Try.ntmps3
  go_wp2_with fail
  refine (drawCachePut s len cap w HY.out).mono ?_
  rintro e w1 ⟨g, c, L, x, y, t, rfl, hl7, hx, hy, ht, ho, hb1⟩
  have HO1 := Lib.hid ho
  have HB1 := Lib.hid hb1
  have HM := Lib.hid (small_max hl7)
  have H7 := Lib.hid hl7
  obtain ⟨M, v, hR⟩ : ∃ M v, putR L x y t = (M, v) := ⟨_, _, rfl⟩
  have HR := Lib.hid hR
  have hM6 : M.length ≤ 6 := by have := putR_len L x y t; rw [hR] at this; exact this
  have HM6 := Lib.hid (show M.length ≤ 1048576 by omega)
  have HMM := Lib.hid (small_max (show M.length ≤ 7 by omega))
  have HOK : Hid (putOk L x y t = v) := by show _ = _; have := put_snd L x y t; rw [hR] at this; exact this.symm
  have HXX : Hid ((0 ≤ x ∧ x ≤ 69) ∧ (-1 ≤ y ∧ y ≤ 100) ∧ (25 ≤ t ∧ t ≤ 54)) := ⟨hx, hy, ht⟩
  clear ho hb1 hl7 hR hM6 hx hy
  cases v
  case false =>
    go_wp2_with fail
    refine (pput_as M false (some ⟨g, 0, none⟩) _ c L x y t w1 HO1.out.ls rfl HM.out HR.out).mono ?_
    rintro e w2 ⟨a2, c2, rfl, ho2, hb2⟩
    have HO2 := Lib.hid ho2
    have HL2 := Lib.hid (HO1.out.keepB hb2 (Nat.le_refl _))
    have HB2 := Lib.hid (HB1.out.trans (hb2.mono HB1.out.size))
    clear ho2 hb2
    go_wp2_with fail
    refine (sput_at M false (some ⟨g, 0, none⟩) _ c L x y t w2 HL2.out.ls rfl HM.out HR.out).mono ?_
    rintro e w3 ⟨g3, c3, rfl, ho3, hb3⟩
    have HO3 := Lib.hid (HO2.out.keepB hb3 (Nat.le_refl _))
    have HS3 := Lib.hid ho3
    have HL3 := Lib.hid (HL2.out.keepB hb3 (Nat.le_refl _))
    have HB3 := Lib.hid (HB2.out.trans (hb3.mono HB2.out.size))
    clear ho3 hb3
    go_wp2_with fail
    refine (sameLs_same a2 (some ⟨g3, 0, none⟩) _ c2 c3 M w3 HO3.out.ls HS3.out.ls rfl HM6.out).mono ?_
    rintro e w4 ⟨rfl, hs4⟩
    have HB4 := Lib.hid (HB3.out.trans ((hs4.below w3.heap.size).mono HB3.out.size))
    have HO4 := Lib.hid (HO3.out.keepB (hs4.below _) (Nat.le_refl _))
    have HS4 := Lib.hid (HS3.out.keepB (hs4.below _) (Nat.le_refl _))
    have HL4 := Lib.hid (HL3.out.keepB (hs4.below _) (Nat.le_refl _))
    clear hs4
    go_wp2_with fail
    refine (sameLs_same a2 (some ⟨g3, 0, none⟩) _ c2 c3 M w4 HO4.out.ls HS4.out.ls rfl HM6.out).mono ?_
    rintro e w5 ⟨rfl, hs5⟩
    have HB5 := Lib.hid (HB4.out.trans ((hs5.below w4.heap.size).mono HB4.out.size))
    clear hs5
    go_wp2
    go_ret
    exact ⟨rfl, HB5.out⟩
  case true =>
    have hML : M = putL L x y t := by have h1 := HR.out; rw [put_ok HOK.out] at h1; exact (congrArg Prod.fst h1).symm
    have HML := Lib.hid hML
    have HVM : Hid (lvB M = true) := by show _ = _; rw [hML]; exact put_lv HOK.out
    have HVL : Hid (lvB L = true) := ((putOk_iff _ _ _ _).1 HOK.out).1
    clear hML
    have HG : Hid (getR M x t = (y, true)) := get_yes (key := x) (now := t) (x := ⟨x, y, t⟩) ((getOk_iff _ _ _).2 ⟨HVM.out, ((putOk_iff _ _ _ _).1 HOK.out).2.1, by omega⟩) (by rw [HML.out]; exact put_mem _ _ _ _) ((htB_iff _ _ _).2 ⟨rfl, (frB_iff _ _).2 ⟨Int.le_refl _, by show t ≤ t + 10; omega⟩⟩)
    have q1 : (y == y) = true := by simp
    go_wp2_with fail
    refine (pput_as M true (some ⟨g, 0, none⟩) _ c L x y t w1 HO1.out.ls rfl HM.out HR.out).mono ?_
    rintro e w2 ⟨a2, c2, rfl, ho2, hb2⟩
    have HO2 := Lib.hid ho2
    have HL2 := Lib.hid (HO1.out.keepB hb2 (Nat.le_refl _))
    have HB2 := Lib.hid (HB1.out.trans (hb2.mono HB1.out.size))
    clear ho2 hb2
    go_wp2_with fail
    refine (sput_at M true (some ⟨g, 0, none⟩) _ c L x y t w2 HL2.out.ls rfl HM.out HR.out).mono ?_
    rintro e w3 ⟨g3, c3, rfl, ho3, hb3⟩
    have HO3 := Lib.hid (HO2.out.keepB hb3 (Nat.le_refl _))
    have HS3 := Lib.hid ho3
    have HL3 := Lib.hid (HL2.out.keepB hb3 (Nat.le_refl _))
    have HB3 := Lib.hid (HB2.out.trans (hb3.mono HB2.out.size))
    clear ho3 hb3
    go_wp2_with fail
    refine (sameLs_same a2 (some ⟨g3, 0, none⟩) _ c2 c3 M w3 HO3.out.ls HS3.out.ls rfl HM6.out).mono ?_
    rintro e w4 ⟨rfl, hs4⟩
    have HB4 := Lib.hid (HB3.out.trans ((hs4.below w3.heap.size).mono HB3.out.size))
    have HO4 := Lib.hid (HO3.out.keepB (hs4.below _) (Nat.le_refl _))
    have HS4 := Lib.hid (HS3.out.keepB (hs4.below _) (Nat.le_refl _))
    have HL4 := Lib.hid (HL3.out.keepB (hs4.below _) (Nat.le_refl _))
    clear hs4
    go_wp2_with fail
    refine (pget_as y true a2 _ c2 M x t w4 HO4.out.ls rfl HMM.out HG.out).mono ?_
    rintro e w5 ⟨rfl, hb5⟩
    have HB5 := Lib.hid (HB4.out.trans (hb5.mono HB4.out.size))
    have HO5 := Lib.hid (HO4.out.keepB hb5 (Nat.le_refl _))
    clear hb5
    go_wp2_with fail
    refine (pvalid_as true a2 _ c2 M w5 HO5.out.ls rfl HMM.out HVM.out).mono ?_
    rintro e w6 ⟨rfl, hb6⟩
    have HB6 := Lib.hid (HB5.out.trans (hb6.mono HB5.out.size))
    clear hb6
    go_wp2
    go_ret
    exact ⟨rfl, HB6.out⟩

set_option maxHeartbeats 4000000 in
theorem cacheLife (s : Option Addr) (len cap : Nat) (z : List Int) (s2 : Option Addr) (len2 cap2 : Nat) (z2 : List Int) (w : World) (h : RowIn .u8 w s len cap z) (h2 : RowIn .u8 w s2 len2 cap2 z2) :
    Calls Try.prog 4 #[.slice s len cap, .slice s2 len2 cap2] w fun e w' => e = .returned (.bool true) ∧ Below w.heap.size w w' := by
  have hb := bytes_of_row h
  have hb2 := bytes_of_row h2
  have hm : len ≤ maxLen := Nat.le_trans hb.1 hb.2.1
  have hm2 : len2 ≤ maxLen := Nat.le_trans hb2.1 hb2.2.1
  unfold maxLen at hm hm2
  clear h h2 hb2
  by_cases hl : 1048576 < len
  · go_enter Try.func4, Try.ntmps4
    go_wp2
    go_ret
    exact ⟨rfl, Below.refl _ _⟩
  by_cases hl2 : 1048576 < len2
  · go_enter Try.func4, Try.ntmps4
    go_wp2
    go_ret
    exact ⟨rfl, Below.refl _ _⟩
  have hlB : decide ((1048576 : Int) < (len : Int)) = false := by simp; omega
  have hlB2 : decide ((1048576 : Int) < (len2 : Int)) = false := by simp; omega
  have HY := Lib.hid hb
  clear hb
  go_enter Try.func4, Try.ntmps4
  go_wp2_with fail
  refine (drawCachePut s len cap w HY.out).mono ?_
  rintro e w1 ⟨g, c, L, x, y, t, rfl, hl7, hx, hy, ht, ho, hb1⟩
  have HO1 := Lib.hid ho
  have HB1 := Lib.hid hb1
  have HM := Lib.hid (small_max hl7)
  have H7 := Lib.hid hl7
  obtain ⟨M, v, hR⟩ : ∃ M v, putR L x y t = (M, v) := ⟨_, _, rfl⟩
  have HR := Lib.hid hR
  have hM6 : M.length ≤ 6 := by have := putR_len L x y t; rw [hR] at this; exact this
  have HM6 := Lib.hid (show M.length ≤ 1048576 by omega)
  have HMM := Lib.hid (small_max (show M.length ≤ 7 by omega))
  have HOK : Hid (putOk L x y t = v) := by show _ = _; have := put_snd L x y t; rw [hR] at this; exact this.symm
  have HXX : Hid ((0 ≤ x ∧ x ≤ 69) ∧ (-1 ≤ y ∧ y ≤ 100) ∧ (25 ≤ t ∧ t ≤ 54)) := ⟨hx, hy, ht⟩
  clear ho hb1 hl7 hR hM6 hx hy
  cases v
  case false =>
    go_wp2_with fail
    refine (pput_as M false (some ⟨g, 0, none⟩) _ c L x y t w1 HO1.out.ls rfl HM.out HR.out).mono ?_
    rintro e w2 ⟨a2, c2, rfl, ho2, hb2⟩
    have HO2 := Lib.hid ho2
    have HL2 := Lib.hid (HO1.out.keepB hb2 (Nat.le_refl _))
    have HB2 := Lib.hid (HB1.out.trans (hb2.mono HB1.out.size))
    clear ho2 hb2
    go_wp2_with fail
    refine (sput_at M false (some ⟨g, 0, none⟩) _ c L x y t w2 HL2.out.ls rfl HM.out HR.out).mono ?_
    rintro e w3 ⟨g3, c3, rfl, ho3, hb3⟩
    have HO3 := Lib.hid (HO2.out.keepB hb3 (Nat.le_refl _))
    have HS3 := Lib.hid ho3
    have HL3 := Lib.hid (HL2.out.keepB hb3 (Nat.le_refl _))
    have HB3 := Lib.hid (HB2.out.trans (hb3.mono HB2.out.size))
    clear ho3 hb3
    go_wp2_with fail
    refine (sameLs_same a2 (some ⟨g3, 0, none⟩) _ c2 c3 M w3 HO3.out.ls HS3.out.ls rfl HM6.out).mono ?_
    rintro e w4 ⟨rfl, hs4⟩
    have HB4 := Lib.hid (HB3.out.trans ((hs4.below w3.heap.size).mono HB3.out.size))
    have HO4 := Lib.hid (HO3.out.keepB (hs4.below _) (Nat.le_refl _))
    have HS4 := Lib.hid (HS3.out.keepB (hs4.below _) (Nat.le_refl _))
    have HL4 := Lib.hid (HL3.out.keepB (hs4.below _) (Nat.le_refl _))
    clear hs4
    go_wp2_with fail
    refine (sameLs_same a2 (some ⟨g3, 0, none⟩) _ c2 c3 M w4 HO4.out.ls HS4.out.ls rfl HM6.out).mono ?_
    rintro e w5 ⟨rfl, hs5⟩
    have HB5 := Lib.hid (HB4.out.trans ((hs5.below w4.heap.size).mono HB4.out.size))
    clear hs5
    go_wp2
    go_ret
    exact ⟨rfl, HB5.out⟩
  case true =>
    have hML : M = putL L x y t := by have h1 := HR.out; rw [put_ok HOK.out] at h1; exact (congrArg Prod.fst h1).symm
    have HML := Lib.hid hML
    have HVM : Hid (lvB M = true) := by show _ = _; rw [hML]; exact put_lv HOK.out
    have HVL : Hid (lvB L = true) := ((putOk_iff _ _ _ _).1 HOK.out).1
    clear hML
    obtain ⟨j, hj, hj0, hj1⟩ := rem_len len2 20 (by omega)
    have hj20 : ¬ (20 : Int) = 0 := by omega
    have HG0 : Hid (∀ T : Int, ¬ (t ≤ T ∧ T ≤ t + 10) → getR M x T = (0, false)) := fun T hT => get_no fun e he => by
      rcases hh : htB x T e with _ | _
      · rfl
      · obtain ⟨h1, h2⟩ := (htB_iff _ _ _).1 hh
        rw [HML.out] at he
        rw [put_key he h1, frB_iff] at h2
        exact absurd h2 hT
    have HG1 : Hid (∀ T : Int, t ≤ T ∧ T ≤ t + 10 → getR M x T = (y, true)) := fun T hT =>
      get_yes (key := x) (now := T) (x := ⟨x, y, t⟩) ((getOk_iff _ _ _).2 ⟨HVM.out, ((putOk_iff _ _ _ _).1 HOK.out).2.1, by omega⟩) (by rw [HML.out]; exact put_mem _ _ _ _) ((htB_iff _ _ _).2 ⟨rfl, (frB_iff _ _).2 hT⟩)
    go_wp2_with fail
    refine (pput_as M true (some ⟨g, 0, none⟩) _ c L x y t w1 HO1.out.ls rfl HM.out HR.out).mono ?_
    rintro e w2 ⟨a2, c2, rfl, ho2, hb2⟩
    have HO2 := Lib.hid ho2
    have HL2 := Lib.hid (HO1.out.keepB hb2 (Nat.le_refl _))
    have HB2 := Lib.hid (HB1.out.trans (hb2.mono HB1.out.size))
    clear ho2 hb2
    go_wp2_with fail
    refine (sput_at M true (some ⟨g, 0, none⟩) _ c L x y t w2 HL2.out.ls rfl HM.out HR.out).mono ?_
    rintro e w3 ⟨g3, c3, rfl, ho3, hb3⟩
    have HO3 := Lib.hid (HO2.out.keepB hb3 (Nat.le_refl _))
    have HS3 := Lib.hid ho3
    have HL3 := Lib.hid (HL2.out.keepB hb3 (Nat.le_refl _))
    have HB3 := Lib.hid (HB2.out.trans (hb3.mono HB2.out.size))
    clear ho3 hb3
    go_wp2_with fail
    refine (sameLs_same a2 (some ⟨g3, 0, none⟩) _ c2 c3 M w3 HO3.out.ls HS3.out.ls rfl HM6.out).mono ?_
    rintro e w4 ⟨rfl, hs4⟩
    have HB4 := Lib.hid (HB3.out.trans ((hs4.below w3.heap.size).mono HB3.out.size))
    have HO4 := Lib.hid (HO3.out.keepB (hs4.below _) (Nat.le_refl _))
    have HS4 := Lib.hid (HS3.out.keepB (hs4.below _) (Nat.le_refl _))
    have HL4 := Lib.hid (HL3.out.keepB (hs4.below _) (Nat.le_refl _))
    clear hs4
    rcases (show j < 4 ∨ (4 ≤ j ∧ j ≤ 14) ∨ 14 < j by omega) with c | c | c
    · skip
      go_wp2_with fail
      refine (pget_as 0 false a2 _ c2 M x (t + j - 4) w4 HO4.out.ls rfl HMM.out (HG0.out (t + j - 4) (by omega))).mono ?_
      rintro e w5 ⟨rfl, hb5⟩
      have HB5 := Lib.hid (HB4.out.trans (hb5.mono HB4.out.size))
      clear hb5
      go_wp2
      go_ret
      exact ⟨rfl, HB5.out⟩
    · skip
      go_wp2_with fail
      refine (pget_as y true a2 _ c2 M x (t + j - 4) w4 HO4.out.ls rfl HMM.out (HG1.out (t + j - 4) (by omega))).mono ?_
      rintro e w5 ⟨rfl, hb5⟩
      have HB5 := Lib.hid (HB4.out.trans (hb5.mono HB4.out.size))
      clear hb5
      go_wp2
      go_ret
      exact ⟨ret_bool (decide_eq_true (by omega)), HB5.out⟩
    · skip
      go_wp2_with fail
      refine (pget_as 0 false a2 _ c2 M x (t + j - 4) w4 HO4.out.ls rfl HMM.out (HG0.out (t + j - 4) (by omega))).mono ?_
      rintro e w5 ⟨rfl, hb5⟩
      have HB5 := Lib.hid (HB4.out.trans (hb5.mono HB4.out.size))
      clear hb5
      go_wp2
      go_ret
      exact ⟨rfl, HB5.out⟩

set_option maxHeartbeats 4000000 in
theorem cacheSize (s : Option Addr) (len cap : Nat) (z : List Int) (w : World) (h : RowIn .u8 w s len cap z) :
    Calls Try.prog 7 #[.slice s len cap] w fun e w' => e = .returned (.bool true) ∧ Below w.heap.size w w' := by
  have hb := bytes_of_row h
  have hm : len ≤ maxLen := Nat.le_trans hb.1 hb.2.1
  unfold maxLen at hm
  clear h
  by_cases hl : 1048576 < len
  · go_enter Try.func7, Try.ntmps7
    go_wp2
    go_ret
    exact ⟨rfl, Below.refl _ _⟩
  have HY := Lib.hid hb
  clear hb
  go_enter Try.func7, Try.ntmps7
  go_wp2_with fail
  refine (drawCachePut s len cap w HY.out).mono ?_
  rintro e w1 ⟨g, c, L, x, y, t, rfl, hl7, hx, hy, ht, ho, hb1⟩
  have HO1 := Lib.hid ho
  have HB1 := Lib.hid hb1
  have HM := Lib.hid (small_max hl7)
  have H7 := Lib.hid hl7
  obtain ⟨M, v, hR⟩ : ∃ M v, putR L x y t = (M, v) := ⟨_, _, rfl⟩
  have HR := Lib.hid hR
  have hM6 : M.length ≤ 6 := by have := putR_len L x y t; rw [hR] at this; exact this
  have HM6 := Lib.hid (show M.length ≤ 1048576 by omega)
  have HMM := Lib.hid (small_max (show M.length ≤ 7 by omega))
  have HOK : Hid (putOk L x y t = v) := by show _ = _; have := put_snd L x y t; rw [hR] at this; exact this.symm
  have HXX : Hid ((0 ≤ x ∧ x ≤ 69) ∧ (-1 ≤ y ∧ y ≤ 100) ∧ (25 ≤ t ∧ t ≤ 54)) := ⟨hx, hy, ht⟩
  clear ho hb1 hl7 hR hM6 hx hy
  cases v
  case false =>
    go_wp2_with fail
    refine (pput_as M false (some ⟨g, 0, none⟩) _ c L x y t w1 HO1.out.ls rfl HM.out HR.out).mono ?_
    rintro e w2 ⟨a2, c2, rfl, ho2, hb2⟩
    have HO2 := Lib.hid ho2
    have HL2 := Lib.hid (HO1.out.keepB hb2 (Nat.le_refl _))
    have HB2 := Lib.hid (HB1.out.trans (hb2.mono HB1.out.size))
    clear ho2 hb2
    go_wp2_with fail
    refine (sput_at M false (some ⟨g, 0, none⟩) _ c L x y t w2 HL2.out.ls rfl HM.out HR.out).mono ?_
    rintro e w3 ⟨g3, c3, rfl, ho3, hb3⟩
    have HO3 := Lib.hid (HO2.out.keepB hb3 (Nat.le_refl _))
    have HS3 := Lib.hid ho3
    have HL3 := Lib.hid (HL2.out.keepB hb3 (Nat.le_refl _))
    have HB3 := Lib.hid (HB2.out.trans (hb3.mono HB2.out.size))
    clear ho3 hb3
    go_wp2_with fail
    refine (sameLs_same a2 (some ⟨g3, 0, none⟩) _ c2 c3 M w3 HO3.out.ls HS3.out.ls rfl HM6.out).mono ?_
    rintro e w4 ⟨rfl, hs4⟩
    have HB4 := Lib.hid (HB3.out.trans ((hs4.below w3.heap.size).mono HB3.out.size))
    have HO4 := Lib.hid (HO3.out.keepB (hs4.below _) (Nat.le_refl _))
    have HS4 := Lib.hid (HS3.out.keepB (hs4.below _) (Nat.le_refl _))
    have HL4 := Lib.hid (HL3.out.keepB (hs4.below _) (Nat.le_refl _))
    clear hs4
    go_wp2_with fail
    refine (sameLs_same a2 (some ⟨g3, 0, none⟩) _ c2 c3 M w4 HO4.out.ls HS4.out.ls rfl HM6.out).mono ?_
    rintro e w5 ⟨rfl, hs5⟩
    have HB5 := Lib.hid (HB4.out.trans ((hs5.below w4.heap.size).mono HB4.out.size))
    clear hs5
    go_wp2
    go_ret
    exact ⟨rfl, HB5.out⟩
  case true =>
    have hML : M = putL L x y t := by have h1 := HR.out; rw [put_ok HOK.out] at h1; exact (congrArg Prod.fst h1).symm
    have HML := Lib.hid hML
    have HVM : Hid (lvB M = true) := by show _ = _; rw [hML]; exact put_lv HOK.out
    have HVL : Hid (lvB L = true) := ((putOk_iff _ _ _ _).1 HOK.out).1
    clear hML
    have HDK : Hid (dropOk L x = true) := (dropOk_iff _ _).2 ⟨HVL.out, ((putOk_iff _ _ _ _).1 HOK.out).2.1⟩
    obtain ⟨D, hv, hD⟩ : ∃ D hv, dropR L x = (D, hv) := ⟨_, _, rfl⟩
    have HD := Lib.hid hD
    have HHV : Hid (hv = decide ((dropL L x).length < L.length)) := by show _ = _; rw [dropR_ok HDK.out] at hD; exact (congrArg Prod.snd hD).symm
    have HSZ : Hid (M.length = if (dropL L x).length < L.length ∨ L.length = 6 then L.length else L.length + 1) := by show _ = _; rw [HML.out]; exact put_size HVL.out
    clear hD
    go_wp2_with fail
    refine (pput_as M true (some ⟨g, 0, none⟩) _ c L x y t w1 HO1.out.ls rfl HM.out HR.out).mono ?_
    rintro e w2 ⟨a2, c2, rfl, ho2, hb2⟩
    have HO2 := Lib.hid ho2
    have HL2 := Lib.hid (HO1.out.keepB hb2 (Nat.le_refl _))
    have HB2 := Lib.hid (HB1.out.trans (hb2.mono HB1.out.size))
    clear ho2 hb2
    go_wp2_with fail
    refine (sput_at M true (some ⟨g, 0, none⟩) _ c L x y t w2 HL2.out.ls rfl HM.out HR.out).mono ?_
    rintro e w3 ⟨g3, c3, rfl, ho3, hb3⟩
    have HO3 := Lib.hid (HO2.out.keepB hb3 (Nat.le_refl _))
    have HS3 := Lib.hid ho3
    have HL3 := Lib.hid (HL2.out.keepB hb3 (Nat.le_refl _))
    have HB3 := Lib.hid (HB2.out.trans (hb3.mono HB2.out.size))
    clear ho3 hb3
    go_wp2_with fail
    refine (sameLs_same a2 (some ⟨g3, 0, none⟩) _ c2 c3 M w3 HO3.out.ls HS3.out.ls rfl HM6.out).mono ?_
    rintro e w4 ⟨rfl, hs4⟩
    have HB4 := Lib.hid (HB3.out.trans ((hs4.below w3.heap.size).mono HB3.out.size))
    have HO4 := Lib.hid (HO3.out.keepB (hs4.below _) (Nat.le_refl _))
    have HS4 := Lib.hid (HS3.out.keepB (hs4.below _) (Nat.le_refl _))
    have HL4 := Lib.hid (HL3.out.keepB (hs4.below _) (Nat.le_refl _))
    clear hs4
    go_wp2_with fail
    refine (pdrop_as D hv (some ⟨g, 0, none⟩) _ c L x w4 HL4.out.ls rfl HM.out HD.out).mono ?_
    rintro e w5 ⟨a5, c5, rfl, ho5, hb5⟩
    have HB5 := Lib.hid (HB4.out.trans (hb5.mono HB4.out.size))
    clear hb5 ho5
    cases hv
    case true =>
      have q1 : ((M.length : Int) == (L.length : Int)) = true := by
        have h1 := HHV.out
        have h2 := HSZ.out
        rw [if_pos (.inl (of_decide_eq_true h1.symm))] at h2
        rw [h2]; simp
      go_wp2
      go_ret
      exact ⟨rfl, HB5.out⟩
    case false =>
      have HN : Hid (¬ (dropL L x).length < L.length) := of_decide_eq_false HHV.out.symm
      by_cases h6 : L.length = 6
      · have q0 : ((L.length : Int) == 6) = true := by rw [h6]; rfl
        have q1 : ((M.length : Int) == (L.length : Int)) = true := by
          have h2 := HSZ.out
          rw [if_pos (.inr h6)] at h2
          rw [h2]; simp
        clear h6
        go_wp2
        go_ret
        exact ⟨rfl, HB5.out⟩
      · have q0 : ((L.length : Int) == 6) = false := by rw [beq_eq_false_iff_ne]; omega
        have q1 : ((M.length : Int) == (L.length : Int) + 1) = true := by
          have h2 := HSZ.out
          rw [if_neg (by rintro (h | h); exact HN.out h; exact h6 h)] at h2
          rw [h2]; simp
        have h70 := H7.out
        clear h6
        go_wp2
        go_ret
        exact ⟨rfl, HB5.out⟩

set_option maxHeartbeats 4000000 in
theorem cacheTwice (s : Option Addr) (len cap : Nat) (z : List Int) (w : World) (h : RowIn .u8 w s len cap z) :
    Calls Try.prog 8 #[.slice s len cap] w fun e w' => e = .returned (.bool true) ∧ Below w.heap.size w w' := by
  have hb := bytes_of_row h
  have hm : len ≤ maxLen := Nat.le_trans hb.1 hb.2.1
  unfold maxLen at hm
  clear h
  by_cases hl : 1048576 < len
  · go_enter Try.func8, Try.ntmps8
    go_wp2
    go_ret
    exact ⟨rfl, Below.refl _ _⟩
  have HY := Lib.hid hb
  clear hb
  go_enter Try.func8, Try.ntmps8
  go_wp2_with fail
  refine (drawCachePut s len cap w HY.out).mono ?_
  rintro e w1 ⟨g, c, L, x, y, t, rfl, hl7, hx, hy, ht, ho, hb1⟩
  have HO1 := Lib.hid ho
  have HB1 := Lib.hid hb1
  have HM := Lib.hid (small_max hl7)
  have H7 := Lib.hid hl7
  obtain ⟨M, v, hR⟩ : ∃ M v, putR L x y t = (M, v) := ⟨_, _, rfl⟩
  have HR := Lib.hid hR
  have hM6 : M.length ≤ 6 := by have := putR_len L x y t; rw [hR] at this; exact this
  have HM6 := Lib.hid (show M.length ≤ 1048576 by omega)
  have HMM := Lib.hid (small_max (show M.length ≤ 7 by omega))
  have HOK : Hid (putOk L x y t = v) := by show _ = _; have := put_snd L x y t; rw [hR] at this; exact this.symm
  have HXX : Hid ((0 ≤ x ∧ x ≤ 69) ∧ (-1 ≤ y ∧ y ≤ 100) ∧ (25 ≤ t ∧ t ≤ 54)) := ⟨hx, hy, ht⟩
  clear ho hb1 hl7 hR hM6 hx hy
  cases v
  case false =>
    go_wp2_with fail
    refine (pput_as M false (some ⟨g, 0, none⟩) _ c L x y t w1 HO1.out.ls rfl HM.out HR.out).mono ?_
    rintro e w2 ⟨a2, c2, rfl, ho2, hb2⟩
    have HO2 := Lib.hid ho2
    have HL2 := Lib.hid (HO1.out.keepB hb2 (Nat.le_refl _))
    have HB2 := Lib.hid (HB1.out.trans (hb2.mono HB1.out.size))
    clear ho2 hb2
    go_wp2_with fail
    refine (sput_at M false (some ⟨g, 0, none⟩) _ c L x y t w2 HL2.out.ls rfl HM.out HR.out).mono ?_
    rintro e w3 ⟨g3, c3, rfl, ho3, hb3⟩
    have HO3 := Lib.hid (HO2.out.keepB hb3 (Nat.le_refl _))
    have HS3 := Lib.hid ho3
    have HL3 := Lib.hid (HL2.out.keepB hb3 (Nat.le_refl _))
    have HB3 := Lib.hid (HB2.out.trans (hb3.mono HB2.out.size))
    clear ho3 hb3
    go_wp2_with fail
    refine (sameLs_same a2 (some ⟨g3, 0, none⟩) _ c2 c3 M w3 HO3.out.ls HS3.out.ls rfl HM6.out).mono ?_
    rintro e w4 ⟨rfl, hs4⟩
    have HB4 := Lib.hid (HB3.out.trans ((hs4.below w3.heap.size).mono HB3.out.size))
    have HO4 := Lib.hid (HO3.out.keepB (hs4.below _) (Nat.le_refl _))
    have HS4 := Lib.hid (HS3.out.keepB (hs4.below _) (Nat.le_refl _))
    have HL4 := Lib.hid (HL3.out.keepB (hs4.below _) (Nat.le_refl _))
    clear hs4
    go_wp2_with fail
    refine (sameLs_same a2 (some ⟨g3, 0, none⟩) _ c2 c3 M w4 HO4.out.ls HS4.out.ls rfl HM6.out).mono ?_
    rintro e w5 ⟨rfl, hs5⟩
    have HB5 := Lib.hid (HB4.out.trans ((hs5.below w4.heap.size).mono HB4.out.size))
    clear hs5
    go_wp2
    go_ret
    exact ⟨rfl, HB5.out⟩
  case true =>
    have hML : M = putL L x y t := by have h1 := HR.out; rw [put_ok HOK.out] at h1; exact (congrArg Prod.fst h1).symm
    have HML := Lib.hid hML
    have HVM : Hid (lvB M = true) := by show _ = _; rw [hML]; exact put_lv HOK.out
    have HVL : Hid (lvB L = true) := ((putOk_iff _ _ _ _).1 HOK.out).1
    clear hML
    have HP2 : Hid (putR M x y t = (M, true)) := by
      show _ = _
      have h1 : putOk M x y t = true := (putOk_iff _ _ _ _).2 ⟨HVM.out, ((putOk_iff _ _ _ _).1 HOK.out).2⟩
      rw [put_ok h1, HML.out, put_put HVL.out]
    go_wp2_with fail
    refine (pput_as M true (some ⟨g, 0, none⟩) _ c L x y t w1 HO1.out.ls rfl HM.out HR.out).mono ?_
    rintro e w2 ⟨a2, c2, rfl, ho2, hb2⟩
    have HO2 := Lib.hid ho2
    have HL2 := Lib.hid (HO1.out.keepB hb2 (Nat.le_refl _))
    have HB2 := Lib.hid (HB1.out.trans (hb2.mono HB1.out.size))
    clear ho2 hb2
    go_wp2_with fail
    refine (sput_at M true (some ⟨g, 0, none⟩) _ c L x y t w2 HL2.out.ls rfl HM.out HR.out).mono ?_
    rintro e w3 ⟨g3, c3, rfl, ho3, hb3⟩
    have HO3 := Lib.hid (HO2.out.keepB hb3 (Nat.le_refl _))
    have HS3 := Lib.hid ho3
    have HL3 := Lib.hid (HL2.out.keepB hb3 (Nat.le_refl _))
    have HB3 := Lib.hid (HB2.out.trans (hb3.mono HB2.out.size))
    clear ho3 hb3
    go_wp2_with fail
    refine (sameLs_same a2 (some ⟨g3, 0, none⟩) _ c2 c3 M w3 HO3.out.ls HS3.out.ls rfl HM6.out).mono ?_
    rintro e w4 ⟨rfl, hs4⟩
    have HB4 := Lib.hid (HB3.out.trans ((hs4.below w3.heap.size).mono HB3.out.size))
    have HO4 := Lib.hid (HO3.out.keepB (hs4.below _) (Nat.le_refl _))
    have HS4 := Lib.hid (HS3.out.keepB (hs4.below _) (Nat.le_refl _))
    have HL4 := Lib.hid (HL3.out.keepB (hs4.below _) (Nat.le_refl _))
    clear hs4
    go_wp2_with fail
    refine (pput_as M true a2 _ c2 M x y t w4 HO4.out.ls rfl HMM.out HP2.out).mono ?_
    rintro e w5 ⟨a5, c5, rfl, ho5, hb5⟩
    have HB5 := Lib.hid (HB4.out.trans (hb5.mono HB4.out.size))
    have HO5 := Lib.hid (HO4.out.keepB hb5 (Nat.le_refl _))
    have HX5 := Lib.hid ho5
    clear hb5 ho5
    go_wp2_with fail
    refine (sameLs_same a5 a2 _ c5 c2 M w5 HX5.out.ls HO5.out.ls rfl HM6.out).mono ?_
    rintro e w6 ⟨rfl, hs6⟩
    have HB6 := Lib.hid (HB5.out.trans ((hs6.below w5.heap.size).mono HB5.out.size))
    clear hs6
    go_wp2
    go_ret
    exact ⟨rfl, HB6.out⟩

set_option maxHeartbeats 4000000 in
theorem cacheReplace (s : Option Addr) (len cap : Nat) (z : List Int) (s2 : Option Addr) (len2 cap2 : Nat) (z2 : List Int) (w : World) (h : RowIn .u8 w s len cap z) (h2 : RowIn .u8 w s2 len2 cap2 z2) :
    Calls Try.prog 9 #[.slice s len cap, .slice s2 len2 cap2] w fun e w' => e = .returned (.bool true) ∧ Below w.heap.size w w' := by
  have hb := bytes_of_row h
  have hb2 := bytes_of_row h2
  have hm : len ≤ maxLen := Nat.le_trans hb.1 hb.2.1
  have hm2 : len2 ≤ maxLen := Nat.le_trans hb2.1 hb2.2.1
  unfold maxLen at hm hm2
  clear h h2 hb2
  by_cases hl : 1048576 < len
  · go_enter Try.func9, Try.ntmps9
    go_wp2
    go_ret
    exact ⟨rfl, Below.refl _ _⟩
  by_cases hl2 : 1048576 < len2
  · go_enter Try.func9, Try.ntmps9
    go_wp2
    go_ret
    exact ⟨rfl, Below.refl _ _⟩
  have hlB : decide ((1048576 : Int) < (len : Int)) = false := by simp; omega
  have hlB2 : decide ((1048576 : Int) < (len2 : Int)) = false := by simp; omega
  have HY := Lib.hid hb
  clear hb
  go_enter Try.func9, Try.ntmps9
  go_wp2_with fail
  refine (drawCachePut s len cap w HY.out).mono ?_
  rintro e w1 ⟨g, c, L, x, y, t, rfl, hl7, hx, hy, ht, ho, hb1⟩
  have HO1 := Lib.hid ho
  have HB1 := Lib.hid hb1
  have HM := Lib.hid (small_max hl7)
  have H7 := Lib.hid hl7
  obtain ⟨M, v, hR⟩ : ∃ M v, putR L x y t = (M, v) := ⟨_, _, rfl⟩
  have HR := Lib.hid hR
  have hM6 : M.length ≤ 6 := by have := putR_len L x y t; rw [hR] at this; exact this
  have HM6 := Lib.hid (show M.length ≤ 1048576 by omega)
  have HMM := Lib.hid (small_max (show M.length ≤ 7 by omega))
  have HOK : Hid (putOk L x y t = v) := by show _ = _; have := put_snd L x y t; rw [hR] at this; exact this.symm
  have HXX : Hid ((0 ≤ x ∧ x ≤ 69) ∧ (-1 ≤ y ∧ y ≤ 100) ∧ (25 ≤ t ∧ t ≤ 54)) := ⟨hx, hy, ht⟩
  clear ho hb1 hl7 hR hM6 hx hy
  cases v
  case false =>
    go_wp2_with fail
    refine (pput_as M false (some ⟨g, 0, none⟩) _ c L x y t w1 HO1.out.ls rfl HM.out HR.out).mono ?_
    rintro e w2 ⟨a2, c2, rfl, ho2, hb2⟩
    have HO2 := Lib.hid ho2
    have HL2 := Lib.hid (HO1.out.keepB hb2 (Nat.le_refl _))
    have HB2 := Lib.hid (HB1.out.trans (hb2.mono HB1.out.size))
    clear ho2 hb2
    go_wp2_with fail
    refine (sput_at M false (some ⟨g, 0, none⟩) _ c L x y t w2 HL2.out.ls rfl HM.out HR.out).mono ?_
    rintro e w3 ⟨g3, c3, rfl, ho3, hb3⟩
    have HO3 := Lib.hid (HO2.out.keepB hb3 (Nat.le_refl _))
    have HS3 := Lib.hid ho3
    have HL3 := Lib.hid (HL2.out.keepB hb3 (Nat.le_refl _))
    have HB3 := Lib.hid (HB2.out.trans (hb3.mono HB2.out.size))
    clear ho3 hb3
    go_wp2_with fail
    refine (sameLs_same a2 (some ⟨g3, 0, none⟩) _ c2 c3 M w3 HO3.out.ls HS3.out.ls rfl HM6.out).mono ?_
    rintro e w4 ⟨rfl, hs4⟩
    have HB4 := Lib.hid (HB3.out.trans ((hs4.below w3.heap.size).mono HB3.out.size))
    have HO4 := Lib.hid (HO3.out.keepB (hs4.below _) (Nat.le_refl _))
    have HS4 := Lib.hid (HS3.out.keepB (hs4.below _) (Nat.le_refl _))
    have HL4 := Lib.hid (HL3.out.keepB (hs4.below _) (Nat.le_refl _))
    clear hs4
    go_wp2_with fail
    refine (sameLs_same a2 (some ⟨g3, 0, none⟩) _ c2 c3 M w4 HO4.out.ls HS4.out.ls rfl HM6.out).mono ?_
    rintro e w5 ⟨rfl, hs5⟩
    have HB5 := Lib.hid (HB4.out.trans ((hs5.below w4.heap.size).mono HB4.out.size))
    clear hs5
    go_wp2
    go_ret
    exact ⟨rfl, HB5.out⟩
  case true =>
    have hML : M = putL L x y t := by have h1 := HR.out; rw [put_ok HOK.out] at h1; exact (congrArg Prod.fst h1).symm
    have HML := Lib.hid hML
    have HVM : Hid (lvB M = true) := by show _ = _; rw [hML]; exact put_lv HOK.out
    have HVL : Hid (lvB L = true) := ((putOk_iff _ _ _ _).1 HOK.out).1
    clear hML
    obtain ⟨j, hj, hj0, hj1⟩ := rem_len len2 100 (by omega)
    have hj100 : ¬ (100 : Int) = 0 := by omega
    obtain ⟨Q, hQ⟩ : ∃ Q, Q = putL L x j (t + 1) := ⟨_, rfl⟩
    have h1 : putOk M x j (t + 1) = true := (putOk_iff _ _ _ _).2 ⟨HVM.out, ((putOk_iff _ _ _ _).1 HOK.out).2.1, by omega, by omega⟩
    have HP2 : Hid (putR M x j (t + 1) = (Q, true)) := by
      show _ = _
      rw [put_ok h1, HML.out, put_put HVL.out, hQ]
    have HVQ : Hid (lvB Q = true) := by
      show _ = _
      have := put_lv h1
      rw [HML.out, put_put HVL.out, ← hQ] at this
      exact this
    have HQ6 := Lib.hid (small_max (show Q.length ≤ 7 by have := lv_len HVQ.out; omega))
    have HG : Hid (getR Q x (t + 1) = (j, true)) := get_yes (key := x) (now := t + 1) (x := ⟨x, j, t + 1⟩) ((getOk_iff _ _ _).2 ⟨HVQ.out, ((putOk_iff _ _ _ _).1 HOK.out).2.1, by omega⟩) (by rw [hQ]; exact put_mem _ _ _ _) ((htB_iff _ _ _).2 ⟨rfl, (frB_iff _ _).2 ⟨Int.le_refl _, by show t + 1 ≤ t + 1 + 10; omega⟩⟩)
    have q1 : ((Q.length : Int) == (M.length : Int)) = true := by
      have : Q.length = M.length := by rw [hQ, HML.out, put_size HVL.out, put_size HVL.out]
      rw [this]; simp
    have q2 : (j == j) = true := by simp
    clear hQ h1
    go_wp2_with fail
    refine (pput_as M true (some ⟨g, 0, none⟩) _ c L x y t w1 HO1.out.ls rfl HM.out HR.out).mono ?_
    rintro e w2 ⟨a2, c2, rfl, ho2, hb2⟩
    have HO2 := Lib.hid ho2
    have HL2 := Lib.hid (HO1.out.keepB hb2 (Nat.le_refl _))
    have HB2 := Lib.hid (HB1.out.trans (hb2.mono HB1.out.size))
    clear ho2 hb2
    go_wp2_with fail
    refine (sput_at M true (some ⟨g, 0, none⟩) _ c L x y t w2 HL2.out.ls rfl HM.out HR.out).mono ?_
    rintro e w3 ⟨g3, c3, rfl, ho3, hb3⟩
    have HO3 := Lib.hid (HO2.out.keepB hb3 (Nat.le_refl _))
    have HS3 := Lib.hid ho3
    have HL3 := Lib.hid (HL2.out.keepB hb3 (Nat.le_refl _))
    have HB3 := Lib.hid (HB2.out.trans (hb3.mono HB2.out.size))
    clear ho3 hb3
    go_wp2_with fail
    refine (sameLs_same a2 (some ⟨g3, 0, none⟩) _ c2 c3 M w3 HO3.out.ls HS3.out.ls rfl HM6.out).mono ?_
    rintro e w4 ⟨rfl, hs4⟩
    have HB4 := Lib.hid (HB3.out.trans ((hs4.below w3.heap.size).mono HB3.out.size))
    have HO4 := Lib.hid (HO3.out.keepB (hs4.below _) (Nat.le_refl _))
    have HS4 := Lib.hid (HS3.out.keepB (hs4.below _) (Nat.le_refl _))
    have HL4 := Lib.hid (HL3.out.keepB (hs4.below _) (Nat.le_refl _))
    clear hs4
    go_wp2_with fail
    refine (pput_as Q true a2 _ c2 M x j (t + 1) w4 HO4.out.ls rfl HMM.out HP2.out).mono ?_
    rintro e w5 ⟨a5, c5, rfl, ho5, hb5⟩
    have HB5 := Lib.hid (HB4.out.trans (hb5.mono HB4.out.size))
    have HX5 := Lib.hid ho5
    clear hb5 ho5
    go_wp2_with fail
    refine (pget_as j true a5 _ c5 Q x (t + 1) w5 HX5.out.ls rfl HQ6.out HG.out).mono ?_
    rintro e w6 ⟨rfl, hb6⟩
    have HB6 := Lib.hid (HB5.out.trans (hb6.mono HB5.out.size))
    clear hb6
    go_wp2
    go_ret
    exact ⟨rfl, HB6.out⟩

end Go.Proofs.Ytdlapnelehehgaa
