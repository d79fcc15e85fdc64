/- What the model does with puzzles and with answers. -/
import Derived.Test.YtblhaccjngjekaaPzMath
import Derived.Test.YtblhaccjngjekaaRowsI
import Derived.Test.YtblhaccjngjekaaCls
import Derived.WalkKit
import Derived.BigQuiet
import Derived.Deep.QuietTactic
namespace Go.Proofs.Ytblhaccjngjekaa
open Go.RowKit
set_option linter.unusedVariables false
attribute [local go_sem ↓] Go.wp_at_zero Go.wp_at_succ

theorem ret_i {a b : Int} (h : a = b) : Ending.returned (.int .i64 a) = Ending.returned (.int .i64 b) := by rw [h]

set_option maxHeartbeats 1000000 in
theorem shash_any (id no : Int) (w : World) (h0 : 0 ≤ id) (h1 : id < 64) (h2 : 0 ≤ no) (h3 : no ≤ 255) :
    Calls Try.prog 49 #[.int .i64 id, .int .i64 no] w fun e w' => e = .returned (.int .i64 (hs id no)) ∧ w = w' := by
  obtain ⟨n, hn1⟩ : ∃ n, hn id no = n := ⟨_, rfl⟩
  have hb := hn_bd id no
  rw [hn1] at hb
  obtain ⟨hb0, hb1⟩ := hb
  have a1 : (31 * id + 17 * no + 5) % 1009 = n := hn1
  have a2 : (31 * id + 17 * no + 5).tmod 1009 = n := by rw [Int.tmod_eq_emod_of_nonneg (by omega)]; exact a1
  obtain ⟨m, hm⟩ : ∃ m, n * (n + no + 7) = m := ⟨_, rfl⟩
  have hmb := prod_bd (m := n + no + 7) hb0 hb1 (by omega) (by omega)
  rw [hm] at hmb
  obtain ⟨hm0, hm1⟩ := hmb
  have hv : hs id no = m % 1009 := by unfold hs; rw [hn1, hm]
  have a3 : m.tmod 1009 = m % 1009 := Int.tmod_eq_emod_of_nonneg (by omega)
  have HV := Lib.hid hv
  clear hv hn1
  go_enter Try.func49, Try.ntmps49
  go_wp2
  go_ret
  exact ⟨ret_i (by rw [HV.out]), rfl⟩

set_option maxHeartbeats 1000000 in
theorem shashR_any (id no : Int) (w : World) :
    Calls Try.prog 19 #[.int .i64 id, .int .i64 no] w fun e w' => e = .returned (.int .i64 (hsR id no)) ∧ w = w' := by
  cases hp : ptB id
  · have HR := Lib.hid (hsR_bad (show hsOk id no = false by simp [hsOk, hp]))
    go_enter Try.func19, Try.ntmps19
    go_wp2_with fail
    refine (point_any id w).mono ?_
    rintro e w' ⟨rfl, rfl⟩
    rw [hp]
    go_wp2
    go_ret
    exact ⟨ret_i (by rw [HR.out]), rfl⟩
  cases hq : noB no
  · have HR := Lib.hid (hsR_bad (show hsOk id no = false by simp [hsOk, hq]))
    have HQ : Hid (decide (0 ≤ no ∧ no ≤ 255) = false) := hq
    go_enter Try.func19, Try.ntmps19
    go_wp2_with fail
    refine (point_any id w).mono ?_
    rintro e w' ⟨rfl, rfl⟩
    rw [hp]
    go_wp2_with fail
    refine (in_any no 0 255 w).mono ?_
    rintro e w' ⟨rfl, rfl⟩
    rw [HQ.out]
    go_wp2
    go_ret
    exact ⟨ret_i (by rw [HR.out]), rfl⟩
  · have HOK : Hid (hsOk id no = true) := by show _ = _; simp [hsOk, hp, hq]
    have HQ : Hid (decide (0 ≤ no ∧ no ≤ 255) = true) := hq
    go_enter Try.func19, Try.ntmps19
    go_wp2_with fail
    refine (point_any id w).mono ?_
    rintro e w' ⟨rfl, rfl⟩
    rw [hp]
    go_wp2_with fail
    refine (in_any no 0 255 w).mono ?_
    rintro e w' ⟨rfl, rfl⟩
    rw [HQ.out]
    go_wp2_with fail
    have hb := (hsOk_iff _ _).1 HOK.out
    refine (shash_any id no w hb.1.1 hb.1.2 hb.2.1 hb.2.2).mono ?_
    rintro e w' ⟨rfl, rfl⟩
    clear hb
    go_wp2
    go_ret
    exact ⟨ret_i (by rw [hsR_ok HOK.out]), rfl⟩

set_option maxHeartbeats 1000000 in
theorem sok_any (id no : Int) (b : Nat) (w : World) (h0 : 0 ≤ id) (h1 : id < 64) (h2 : 0 ≤ no) (h3 : no ≤ 255) (hb : b ≤ 5) :
    Calls Try.prog 51 #[.int .i64 id, .int .i64 no, .int .i64 b] w fun e w' => e = .returned (.bool (okB id no b)) ∧ w = w' := by
  go_enter Try.func51, Try.ntmps51
  go_wp2
  go_loop [7, 8] (fun s i => ∃ k : Nat, k ≤ b ∧ i = .int .i64 k ∧ s = .int .i64 (pw k)) (fun _ i => b - (intOf i).toNat)
  case atStart => exact ⟨0, by omega, rfl, rfl⟩
  case round =>
    obtain ⟨k, hk, rfl, rfl⟩ := hrel
    have HP := Lib.hid (pw_s k)
    have hp1 := pw_pos k
    have hp2 := pw_le (b := k) (by omega)
    obtain ⟨p, hp⟩ : ∃ p, pw k = p := ⟨_, rfl⟩
    rw [hp] at HP hp1 hp2 ⊢
    by_cases hlt : k < b
    · clear hp
      go_wp2
      go_round
      case rel => exact ⟨k + 1, by omega, by go_num, by rw [HP.out]⟩
      case measure => simp [intOf]; omega
    · obtain rfl : k = b := by omega
      have hv := hs_bd id no
      have HE : Hid (okB id no k = decide (hs id no % p = 0)) := by show _ = _; rw [← hp]; rfl
      obtain ⟨v, hv2⟩ : ∃ v, hs id no = v := ⟨_, rfl⟩
      rw [hv2] at hv HE
      have HV := Lib.hid hv2
      obtain ⟨hv0, hv1⟩ := hv
      have p0 : (p == 0) = false := by rw [beq_eq_false_iff_ne]; omega
      have p0' : ¬ p = 0 := by omega
      have t1 : v.tmod p = v % p := Int.tmod_eq_emod_of_nonneg hv0
      clear hp hv2
      go_wp2_with fail
      refine (shash_any id no w h0 h1 h2 h3).mono ?_
      rintro e w' ⟨rfl, rfl⟩
      rw [HV.out]
      go_wp2
      go_ret
      exact ⟨ret_bool (by rw [HE.out, Bool.eq_iff_iff]; simp), rfl⟩
theorem sok_as (v : Bool) (id no : Int) (b : Nat) (w : World) (h0 : 0 ≤ id) (h1 : id < 64) (h2 : 0 ≤ no) (h3 : no ≤ 255) (hb : b ≤ 5) (hv : okB id no b = v) :
    Calls Try.prog 51 #[.int .i64 id, .int .i64 no, .int .i64 b] w fun e w' => e = .returned (.bool v) ∧ w = w' := by subst hv; exact sok_any id no b w h0 h1 h2 h3 hb

set_option maxHeartbeats 1000000 in
theorem sokR_any (id no bits : Int) (w : World) :
    Calls Try.prog 23 #[.int .i64 id, .int .i64 no, .int .i64 bits] w fun e w' => e = .returned (.bool (okR id no bits)) ∧ w = w' := by
  cases hp : ptB id
  · have HR := Lib.hid (okR_no (bits := bits) (.inl (show hsOk id no = false by simp [hsOk, hp])))
    go_enter Try.func23, Try.ntmps23
    go_wp2_with fail
    refine (point_any id w).mono ?_
    rintro e w' ⟨rfl, rfl⟩
    rw [hp]
    go_wp2
    go_ret
    exact ⟨ret_bool HR.out.symm, rfl⟩
  cases hq : noB no
  · have HR := Lib.hid (okR_no (bits := bits) (.inl (show hsOk id no = false by simp [hsOk, hq])))
    have HQ : Hid (decide (0 ≤ no ∧ no ≤ 255) = false) := hq
    go_enter Try.func23, Try.ntmps23
    go_wp2_with fail
    refine (point_any id w).mono ?_
    rintro e w' ⟨rfl, rfl⟩
    rw [hp]
    go_wp2_with fail
    refine (in_any no 0 255 w).mono ?_
    rintro e w' ⟨rfl, rfl⟩
    rw [HQ.out]
    go_wp2
    go_ret
    exact ⟨ret_bool HR.out.symm, rfl⟩
  have HOK : Hid (hsOk id no = true) := by show _ = _; simp [hsOk, hp, hq]
  have HQ : Hid (decide (0 ≤ no ∧ no ≤ 255) = true) := hq
  cases hb : btB bits
  · have HR := Lib.hid (okR_no (id := id) (no := no) (.inr (.inl hb)))
    have HB : Hid (decide (0 ≤ bits ∧ bits ≤ 5) = false) := hb
    go_enter Try.func23, Try.ntmps23
    go_wp2_with fail
    refine (point_any id w).mono ?_
    rintro e w' ⟨rfl, rfl⟩
    rw [hp]
    go_wp2_with fail
    refine (in_any no 0 255 w).mono ?_
    rintro e w' ⟨rfl, rfl⟩
    rw [HQ.out]
    go_wp2_with fail
    refine (in_any bits 0 5 w).mono ?_
    rintro e w' ⟨rfl, rfl⟩
    rw [HB.out]
    go_wp2
    go_ret
    exact ⟨ret_bool HR.out.symm, rfl⟩
  · have hbb := (btB_iff _).1 hb
    have HB : Hid (decide (0 ≤ bits ∧ bits ≤ 5) = true) := hb
    obtain ⟨b, rfl⟩ : ∃ b : Nat, bits = (b : Int) := ⟨bits.toNat, by omega⟩
    have HR : Hid (okR id no b = okB id no b) := by show _ = _; rw [okR_at HOK.out hb]; simp
    have hb5 : b ≤ 5 := by omega
    clear hbb hb
    go_enter Try.func23, Try.ntmps23
    go_wp2_with fail
    refine (point_any id w).mono ?_
    rintro e w' ⟨rfl, rfl⟩
    rw [hp]
    go_wp2_with fail
    refine (in_any no 0 255 w).mono ?_
    rintro e w' ⟨rfl, rfl⟩
    rw [HQ.out]
    go_wp2_with fail
    refine (in_any b 0 5 w).mono ?_
    rintro e w' ⟨rfl, rfl⟩
    rw [HB.out]
    go_wp2_with fail
    have hbd := (hsOk_iff _ _).1 HOK.out
    refine (sok_any id no b w hbd.1.1 hbd.1.2 hbd.2.1 hbd.2.2 hb5).mono ?_
    rintro e w' ⟨rfl, rfl⟩
    clear hbd
    go_wp2
    go_ret
    exact ⟨ret_bool HR.out.symm, rfl⟩

set_option maxHeartbeats 1000000 in
theorem ssolve_any (id bits : Int) (w : World) :
    Calls Try.prog 26 #[.int .i64 id, .int .i64 bits] w fun e w' => e = .returned (.int .i64 (slvR id bits)) ∧ w = w' := by
  cases hp : ptB id
  · have HR := Lib.hid (slvR_bad (show slvOk id bits = false by simp [slvOk, hp]))
    go_enter Try.func26, Try.ntmps26
    go_wp2_with fail
    refine (point_any id w).mono ?_
    rintro e w' ⟨rfl, rfl⟩
    rw [hp]
    go_wp2
    go_ret
    exact ⟨ret_i (by rw [HR.out]), rfl⟩
  cases hb : btB bits
  · have HR := Lib.hid (slvR_bad (show slvOk id bits = false by simp [slvOk, hb]))
    have HB : Hid (decide (0 ≤ bits ∧ bits ≤ 5) = false) := hb
    go_enter Try.func26, Try.ntmps26
    go_wp2_with fail
    refine (point_any id w).mono ?_
    rintro e w' ⟨rfl, rfl⟩
    rw [hp]
    go_wp2_with fail
    refine (in_any bits 0 5 w).mono ?_
    rintro e w' ⟨rfl, rfl⟩
    rw [HB.out]
    go_wp2
    go_ret
    exact ⟨ret_i (by rw [HR.out]), rfl⟩
  · have hbb := (btB_iff _).1 hb
    have hpp := (ptB_iff _).1 hp
    have HB : Hid (decide (0 ≤ bits ∧ bits ≤ 5) = true) := hb
    have HOK : Hid (slvOk id bits = true) := by show _ = _; simp [slvOk, hp, hb]
    obtain ⟨b, rfl⟩ : ∃ b : Nat, bits = (b : Int) := ⟨bits.toNat, by omega⟩
    have HR : Hid (slvR id b = slv id b) := by show _ = _; rw [slvR_ok HOK.out]; simp
    have hb5 : b ≤ 5 := by omega
    clear hbb hb
    go_enter Try.func26, Try.ntmps26
    go_wp2_with fail
    refine (point_any id w).mono ?_
    rintro e w' ⟨rfl, rfl⟩
    rw [hp]
    go_wp2_with fail
    refine (in_any b 0 5 w).mono ?_
    rintro e w' ⟨rfl, rfl⟩
    rw [HB.out]
    clear hp
    go_wp2
    go_loop [5] (fun i => ∃ k : Nat, k ≤ 256 ∧ i = .int .i64 k ∧ Hid (∀ j : Nat, j < k → okB id j b = false)) (fun i => 256 - (intOf i).toNat)
    case atStart => exact ⟨0, by omega, rfl, fun j hj => by omega⟩
    case round =>
      obtain ⟨k, hk, rfl, HN⟩ := hrel
      by_cases hlt : k < 256
      · cases ho : okB id k b
        · have HO := Lib.hid ho
          clear ho
          go_wp2_with fail
          refine (sok_as false id k b w hpp.1 hpp.2 (by omega) (by omega) hb5 HO.out).mono ?_
          rintro e w' ⟨rfl, rfl⟩
          go_wp2
          go_round
          case rel => exact ⟨k + 1, by omega, by go_num, fun j hj => by rcases Nat.lt_or_ge j k with h' | h'; exact HN.out j h'; obtain rfl : j = k := (by omega); exact HO.out⟩
          case measure => simp [intOf]; omega
        · have HO := Lib.hid ho
          have HS : Hid (slv id b = k) := slv_at hlt ho HN.out
          clear ho
          go_wp2_with fail
          refine (sok_as true id k b w hpp.1 hpp.2 (by omega) (by omega) hb5 HO.out).mono ?_
          rintro e w' ⟨rfl, rfl⟩
          go_wp2
          go_ret
          exact ⟨ret_i (by rw [HR.out, HS.out]), rfl⟩
      · have HS : Hid (slv id b = -1) := slv_none fun j hj => HN.out j (by omega)
        go_wp2
        go_ret
        exact ⟨ret_i (by rw [HR.out, HS.out]), rfl⟩

/-- the cells of numbers -/
theorem IntsAt.cellZ {w : World} {a : Option Addr} {zs : List Int} (h : IntsAt w a zs) (h0 : 0 < zs.length) : ∃ b off, a = some ⟨b, off, none⟩ ∧ b < w.heap.size ∧ ∀ i, i < zs.length → w.cell? ⟨b, off + i, none⟩ = some (.int .i64 (gt zs i)) := by
  rcases h with h | h
  · rw [h] at h0; simp at h0
  · exact h

set_option maxRecDepth 20000 in
set_option maxHeartbeats 2000000 in
theorem sans_any (a : Option Addr) (len cap : Nat) (zs : List Int) (w : World) (h : IntsAt w a zs) (hz : zs.length = len) (hm : len ≤ maxLen) :
    Calls Try.prog 33 #[.slice a len cap] w fun e w' => e = .returned (.int .i64 (ansR zs)) ∧ Same w w' := by
  have HI := Lib.hid h
  have HZ := Lib.hid hz
  unfold maxLen at hm
  by_cases h7 : 7 < len
  · have HR := Lib.hid (ansR_long (zs := zs) (by omega))
    have h7' : ¬ (len : Int) ≤ 7 := by omega
    clear h hz
    go_enter Try.func33, Try.ntmps33
    go_wp2
    go_loopw [3] (fun i wr => i = .int .i64 0 ∧ Same w wr) (fun _ _ => 0)
    case atStart => exact ⟨rfl, Same.refl _⟩
    case round =>
      obtain ⟨rfl, hs⟩ := hrel
      go_wp2
      go_ret
      exact ⟨ret_i (by rw [HR.out]), hs⟩
  have H7 : Hid (zs.length ≤ 7) := by show _ ≤ _; omega
  clear h hz
  go_enter Try.func33, Try.ntmps33
  go_wp2
  go_loopw [3] (fun i wr => ∃ k : Nat, k ≤ len ∧ i = .int .i64 k ∧ Hid (∀ j, j < k → mjA zs (gt zs j) = false) ∧ Same w wr) (fun i _ => len - (intOf i).toNat)
  case atStart => exact ⟨0, by omega, rfl, fun j hj => by omega, Same.refl _⟩
  case round =>
    obtain ⟨k, hk, rfl, HN, hs⟩ := hrel
    obtain ⟨w1, rfl⟩ : ∃ x, x = wr := ⟨_, rfl⟩
    by_cases hlt : k < len
    · obtain ⟨b, off, hab, hb0, hcells⟩ := (HI.out.keepB (hs.below w.heap.size) (Nat.le_refl _)).cellZ (by rw [HZ.out]; omega)
      subst hab
      have HC := Lib.hid hcells
      have hck := hcells k (by rw [HZ.out]; exact hlt)
      obtain ⟨x, hx⟩ : ∃ x, x = gt zs k := ⟨_, rfl⟩
      rw [← hx] at hck
      have HX := Lib.hid hx
      have k0 : (0 : Int) ≤ (k : Int) := by omega
      have k1 : (k : Int) < (len : Int) := by omega
      have HS := Lib.hid hs
      clear hcells hx hs
      go_wp2
      go_loopw [4, 5] (fun n i wr => ∃ q : Nat, q ≤ len ∧ i = .int .i64 q ∧ n = .int .i64 (cnA zs x q : Nat) ∧ Same w1 wr) (fun _ i _ => len - (intOf i).toNat)
      case atStart => exact ⟨0, by omega, rfl, rfl, Same.refl _⟩
      case round =>
        obtain ⟨q, hq, rfl, rfl, hs2⟩ := hrel
        have HSC : Hid (cnA zs x (q + 1) = cnA zs x q + if gt zs q = x then 1 else 0) := rfl
        have hle := cnA_le zs x q
        obtain ⟨n, hn⟩ : ∃ n, n = cnA zs x q := ⟨_, rfl⟩
        rw [← hn] at HSC hle ⊢
        by_cases hql : q < len
        · have hcq := (hs2.cell ⟨b, off + q, none⟩).trans (HC.out q (by rw [HZ.out]; exact hql))
          have hck2 := (hs2.cell ⟨b, off + k, none⟩).trans hck
          obtain ⟨y, hy⟩ : ∃ y, y = gt zs q := ⟨_, rfl⟩
          rw [← hy] at hcq HSC
          have q0 : (0 : Int) ≤ (q : Int) := by omega
          have q1 : (q : Int) < (len : Int) := by omega
          clear hy hn
          by_cases hyx : y = x
          · have HE : Hid (cnA zs x (q + 1) = n + 1) := by show _ = _; rw [HSC.out, if_pos hyx]
            have he : (y == x) = true := by simp [hyx]
            clear hyx
            go_wp2
            go_quiet (fail)
            clear he
            go_wp2
            go_roundw
            case rel => exact ⟨q + 1, by omega, by go_num, by rw [HE.out]; go_num, hs2.drewN _⟩
            case measure => simp [intOf]; omega
          · have HE : Hid (cnA zs x (q + 1) = n) := by show _ = _; rw [HSC.out, if_neg hyx]; rfl
            have he : (y == x) = false := by simp [hyx]
            clear hyx
            go_wp2
            go_quiet (fail)
            clear he
            go_wp2
            go_roundw
            case rel => exact ⟨q + 1, by omega, by go_num, by rw [HE.out], hs2.drewN _⟩
            case measure => simp [intOf]; omega
        · obtain rfl : q = len := by omega
          have hck2 := (hs2.cell ⟨b, off + k, none⟩).trans hck
          have HM : Hid (mjA zs (gt zs k) = decide (q < 2 * n)) := by show _ = _; rw [← HX.out]; unfold mjA; rw [HZ.out, hn]
          clear hn
          by_cases hmj : q < 2 * n
          · have HA : Hid (ansR zs = x) := by show _ = _; rw [HX.out]; exact ansR_some H7.out (by rw [HZ.out]; exact hlt) (by rw [HM.out]; simpa using hmj)
            have hmj' : (q : Int) < 2 * (n : Int) := by omega
            go_wp2
            go_ret
            exact ⟨ret_i (by rw [HA.out]), HS.out.trans hs2⟩
          · have HF : Hid (mjA zs (gt zs k) = false) := by show _ = _; rw [HM.out]; simpa using hmj
            have hmj' : ¬ (q : Int) < 2 * (n : Int) := by omega
            clear hck hck2
            go_wp2
            go_roundw
            case rel => exact ⟨k + 1, by omega, by go_num, fun j hj => by rcases Nat.lt_or_ge j k with h' | h'; exact HN.out j h'; obtain rfl : j = k := (by omega); exact HF.out, HS.out.trans hs2⟩
            case measure => simp [intOf]; omega
    · have HA : Hid (ansR zs = -1) := ansR_none H7.out fun i hi => HN.out i (by rw [HZ.out] at hi; omega)
      go_wp2
      go_ret
      exact ⟨ret_i (by rw [HA.out]), hs⟩
end Go.Proofs.Ytblhaccjngjekaa
