/- The walks of the laws of puzzles and answers. -/
import Derived.Test.YtblhaccjngjekaaPzDraw
import Derived.Test.YtblhaccjngjekaaPzP
namespace Go.Proofs.Ytblhaccjngjekaa
open Go.RowKit
set_option linter.unusedVariables false
attribute [local go_sem ↓] Go.wp_at_zero Go.wp_at_succ

theorem phash_as (v id no : Int) (w : World) (hv : hsR id no = v) :
    Calls Try.prog 18 #[.int .i64 id, .int .i64 no] w fun e w' => e = .returned (.int .i64 v) ∧ Below w.heap.size w w' := by subst hv; exact phash_any id no w
theorem shash_as (v id no : Int) (w : World) (hv : hsR id no = v) :
    Calls Try.prog 19 #[.int .i64 id, .int .i64 no] w fun e w' => e = .returned (.int .i64 v) ∧ Below w.heap.size w w' := by subst hv; exact (shashR_any id no w).mono fun _ _ ⟨h1, h2⟩ => ⟨h1, h2 ▸ Below.refl _ _⟩
theorem pokz_as (v : Bool) (id no bits : Int) (w : World) (hv : okR id no bits = v) :
    Calls Try.prog 22 #[.int .i64 id, .int .i64 no, .int .i64 bits] w fun e w' => e = .returned (.bool v) ∧ Below w.heap.size w w' := by subst hv; exact pokz_any id no bits w
theorem sokz_as (v : Bool) (id no bits : Int) (w : World) (hv : okR id no bits = v) :
    Calls Try.prog 23 #[.int .i64 id, .int .i64 no, .int .i64 bits] w fun e w' => e = .returned (.bool v) ∧ Below w.heap.size w w' := by subst hv; exact (sokR_any id no bits w).mono fun _ _ ⟨h1, h2⟩ => ⟨h1, h2 ▸ Below.refl _ _⟩
theorem psolve_as (v id bits : Int) (w : World) (hv : slvR id bits = v) :
    Calls Try.prog 25 #[.int .i64 id, .int .i64 bits] w fun e w' => e = .returned (.int .i64 v) ∧ Below w.heap.size w w' := by subst hv; exact psolve_any id bits w
theorem ssolve_as (v id bits : Int) (w : World) (hv : slvR id bits = v) :
    Calls Try.prog 26 #[.int .i64 id, .int .i64 bits] w fun e w' => e = .returned (.int .i64 v) ∧ Below w.heap.size w w' := by subst hv; exact (ssolve_any id bits w).mono fun _ _ ⟨h1, h2⟩ => ⟨h1, h2 ▸ Below.refl _ _⟩
theorem pans_as (v : Int) (a : Option Addr) (len cap : Nat) (zs : List Int) (w : World) (h : IntsAt w a zs) (hz : zs.length = len) (hm : len ≤ maxLen) (hv : ansR zs = v) :
    Calls Try.prog 32 #[.slice a len cap] w fun e w' => e = .returned (.int .i64 v) ∧ Below w.heap.size w w' := by subst hv; exact pans_any a len cap zs w h hz hm
theorem sans_as (v : Int) (a : Option Addr) (len cap : Nat) (zs : List Int) (w : World) (h : IntsAt w a zs) (hz : zs.length = len) (hm : len ≤ maxLen) (hv : ansR zs = v) :
    Calls Try.prog 33 #[.slice a len cap] w fun e w' => e = .returned (.int .i64 v) ∧ Below w.heap.size w w' := by subst hv; exact (sans_any a len cap zs w h hz hm).mono fun _ _ ⟨h1, h2⟩ => ⟨h1, h2.below _⟩
theorem isPt_as (v : Bool) (n : Int) (w : World) (hv : ptB n = v) : Calls Try.prog 20 #[.int .i64 n] w fun e w' => e = .returned (.bool v) ∧ Below w.heap.size w w' := by subst hv; exact (isPoint_any n w).mono fun _ _ ⟨h1, h2⟩ => ⟨h1, h2 ▸ Below.refl _ _⟩
theorem hsR_neg {id no : Int} (h : ¬ (ptB id = true ∧ 0 ≤ no ∧ no ≤ 255)) : hsR id no = -1 := hsR_bad (by
  rcases hb : hsOk id no with _ | _
  · rfl
  · have := (hsOk_iff _ _).1 hb; exact absurd ⟨(ptB_iff _).2 this.1, this.2⟩ h)
theorem hsR_pos {id no : Int} (h : ptB id = true) (h0 : 0 ≤ no) (h1 : no ≤ 255) : 0 ≤ hsR id no ∧ hsR id no < 1009 := by
  rw [hsR_ok ((hsOk_iff _ _).2 ⟨(ptB_iff _).1 h, h0, h1⟩)]; exact hs_bd _ _
/-- what PuzzleSolve finds -/
theorem slvR_is (id y : Int) : (slvR id y = -1 ∧ ∀ n : Nat, n ≤ 255 → okR id n y = false) ∨ (∃ k : Nat, k ≤ 255 ∧ slvR id y = k ∧ okR id k y = true ∧ ∀ n : Nat, n < k → okR id n y = false) := by
  rcases hb : slvOk id y with _ | _
  · refine .inl ⟨slvR_bad hb, fun n hn => ?_⟩
    rcases hp : ptB id with _ | _
    · exact okR_no (.inl (by simp [hsOk, hp]))
    · exact okR_no (.inr (.inl (by simpa [slvOk, hp] using hb)))
  · have h1 : ptB id = true ∧ btB y = true := by simpa [slvOk] using hb
    have hat : ∀ n : Nat, n ≤ 255 → okR id n y = okB id n y.toNat := fun n hn => okR_at ((hsOk_iff _ _).2 ⟨(ptB_iff _).1 h1.1, by omega, by omega⟩) h1.2
    rw [slvR_ok hb]
    rcases slv_is id y.toNat with ⟨k, hk, h2, h3, h4⟩ | ⟨h3, h4⟩
    · exact .inr ⟨k, by omega, h4, by rw [hat k (by omega)]; exact h2, fun n hn => by rw [hat n (by omega)]; exact h3 n hn⟩
    · exact .inl ⟨h4, fun n hn => by rw [hat n hn]; exact h3 n (by omega)⟩

set_option maxRecDepth 20000 in
set_option maxHeartbeats 4000000 in
theorem puzzleHash (s : Option Addr) (len cap : Nat) (z : List Int) (w : World) (h : RowIn .u8 w s len cap z) :
    Calls Try.prog 3 #[.slice s len cap] w fun e w' => e = .returned (.bool true) ∧ Below w.heap.size w w' := by
  have hb := bytes_of_row h
  have hm : len ≤ maxLen := Nat.le_trans hb.1 hb.2.1
  unfold maxLen at hm
  clear h
  by_cases hllen : 1048576 < len
  · go_enter Try.func3, Try.ntmps3
    go_wp2
    go_ret
    exact ⟨rfl, Below.refl _ _⟩
  have HY := Lib.hid hb
  clear hb
  go_enter Try.func3, Try.ntmps3
  go_wp2_with fail
  refine (drawPuzzleHash s len cap w HY.out).mono ?_
  rintro e w1 ⟨x, y, rfl, hx0, hx1, hy0, hy1, hb1⟩
  have B1 : Hid (Below w.heap.size w w1) := hb1
  clear hb1
  obtain ⟨v, hv⟩ : ∃ v, hsR x y = v := ⟨_, rfl⟩
  have HV := Lib.hid hv
  have q1 : (v != v) = false := by simp
  have q2 : (v == v) = true := by simp
  cases hp : ptB x
  · have HP := Lib.hid hp
    obtain rfl : v = -1 := by rw [← hv]; exact hsR_neg (fun h => by rw [hp] at h; cases h.1)
    clear hv hp
    go_wp2_with fail
    refine (phash_as (-1) x y w1 HV.out).mono ?_
    rintro e w2 ⟨rfl, hb2⟩
    have B2 : Hid (Below w.heap.size w w2) := B1.out.trans (hb2.mono B1.out.size)
    clear hb2
    go_wp2_with fail
    refine (shash_as (-1) x y w2 HV.out).mono ?_
    rintro e w3 ⟨rfl, hb3⟩
    have B3 : Hid (Below w.heap.size w w3) := B2.out.trans (hb3.mono B2.out.size)
    clear hb3
    go_wp2_with fail
    refine (isPt_as false x w3 HP.out).mono ?_
    rintro e w4 ⟨rfl, hb4⟩
    have B4 : Hid (Below w.heap.size w w4) := B3.out.trans (hb4.mono B3.out.size)
    clear hb4
    go_wp2
    go_ret
    exact ⟨rfl, B4.out⟩
  by_cases hy : 0 ≤ y
  · by_cases hy2 : y ≤ 255
    · have HP := Lib.hid hp
      have hbd := hsR_pos hp hy hy2
      rw [hv] at hbd
      obtain ⟨v0, v1⟩ := hbd
      have v2 : -1 ≤ v := by omega
      clear hv hp
      go_wp2_with fail
      refine (phash_as v x y w1 HV.out).mono ?_
      rintro e w2 ⟨rfl, hb2⟩
      have B2 : Hid (Below w.heap.size w w2) := B1.out.trans (hb2.mono B1.out.size)
      clear hb2
      go_wp2_with fail
      refine (shash_as v x y w2 HV.out).mono ?_
      rintro e w3 ⟨rfl, hb3⟩
      have B3 : Hid (Below w.heap.size w w3) := B2.out.trans (hb3.mono B2.out.size)
      clear hb3
      go_wp2_with fail
      refine (isPt_as true x w3 HP.out).mono ?_
      rintro e w4 ⟨rfl, hb4⟩
      have B4 : Hid (Below w.heap.size w w4) := B3.out.trans (hb4.mono B3.out.size)
      clear hb4
      go_wp2
      go_ret
      exact ⟨rfl, B4.out⟩
    · have HP := Lib.hid hp
      have hyd : decide (y ≤ 255) = false := by simp; omega
      obtain rfl : v = -1 := by rw [← hv]; exact hsR_neg (fun h => hy2 h.2.2)
      clear hv hp
      go_wp2_with fail
      refine (phash_as (-1) x y w1 HV.out).mono ?_
      rintro e w2 ⟨rfl, hb2⟩
      have B2 : Hid (Below w.heap.size w w2) := B1.out.trans (hb2.mono B1.out.size)
      clear hb2
      go_wp2_with fail
      refine (shash_as (-1) x y w2 HV.out).mono ?_
      rintro e w3 ⟨rfl, hb3⟩
      have B3 : Hid (Below w.heap.size w w3) := B2.out.trans (hb3.mono B2.out.size)
      clear hb3
      go_wp2_with fail
      refine (isPt_as true x w3 HP.out).mono ?_
      rintro e w4 ⟨rfl, hb4⟩
      have B4 : Hid (Below w.heap.size w w4) := B3.out.trans (hb4.mono B3.out.size)
      clear hb4
      go_wp2
      go_ret
      exact ⟨rfl, B4.out⟩
  · have HP := Lib.hid hp
    obtain rfl : v = -1 := by rw [← hv]; exact hsR_neg (fun h => hy h.2.1)
    clear hv hp
    go_wp2_with fail
    refine (phash_as (-1) x y w1 HV.out).mono ?_
    rintro e w2 ⟨rfl, hb2⟩
    have B2 : Hid (Below w.heap.size w w2) := B1.out.trans (hb2.mono B1.out.size)
    clear hb2
    go_wp2_with fail
    refine (shash_as (-1) x y w2 HV.out).mono ?_
    rintro e w3 ⟨rfl, hb3⟩
    have B3 : Hid (Below w.heap.size w w3) := B2.out.trans (hb3.mono B2.out.size)
    clear hb3
    go_wp2_with fail
    refine (isPt_as true x w3 HP.out).mono ?_
    rintro e w4 ⟨rfl, hb4⟩
    have B4 : Hid (Below w.heap.size w w4) := B3.out.trans (hb4.mono B3.out.size)
    clear hb4
    go_wp2
    go_ret
    exact ⟨rfl, B4.out⟩

set_option maxRecDepth 20000 in
set_option maxHeartbeats 4000000 in
theorem puzzleEasier (s : Option Addr) (len cap : Nat) (z : List Int) (w : World) (h : RowIn .u8 w s len cap z) :
    Calls Try.prog 4 #[.slice s len cap] w fun e w' => e = .returned (.bool true) ∧ Below w.heap.size w w' := by
  have hb := bytes_of_row h
  have hm : len ≤ maxLen := Nat.le_trans hb.1 hb.2.1
  unfold maxLen at hm
  clear h
  by_cases hllen : 1048576 < len
  · go_enter Try.func4, Try.ntmps4
    go_wp2
    go_ret
    exact ⟨rfl, Below.refl _ _⟩
  have HY := Lib.hid hb
  clear hb
  go_enter Try.func4, Try.ntmps4
  go_wp2_with fail
  refine (drawPuzzleOk s len cap w HY.out).mono ?_
  rintro e w1 ⟨x, y, u, rfl, hx0, hx1, hy0, hy1, hu0, hu1, hb1⟩
  have B1 : Hid (Below w.heap.size w w1) := hb1
  clear hb1
  cases hv : okR x y u
  · have HV := Lib.hid hv
    clear hv
    go_wp2_with fail
    refine (pokz_as false x y u w1 HV.out).mono ?_
    rintro e w2 ⟨rfl, hb2⟩
    have B2 : Hid (Below w.heap.size w w2) := B1.out.trans (hb2.mono B1.out.size)
    clear hb2
    go_wp2_with fail
    refine (sokz_as false x y u w2 HV.out).mono ?_
    rintro e w3 ⟨rfl, hb3⟩
    have B3 : Hid (Below w.heap.size w w3) := B2.out.trans (hb3.mono B2.out.size)
    clear hb3
    go_wp2
    go_ret
    exact ⟨rfl, B3.out⟩
  · have HV := Lib.hid hv
    obtain ⟨hk1, hk2, hk3⟩ := okR_yes hv
    have HH := Lib.hid hk1
    have hbb := (btB_iff _).1 hk2
    obtain ⟨b, rfl⟩ : ∃ b : Nat, u = (b : Int) := ⟨u.toNat, by omega⟩
    have hk4 : okB x y b = true := by simpa using hk3
    have HK := Lib.hid hk4
    have hb5 : b ≤ 5 := by omega
    have hvd := hs_bd x y
    obtain ⟨v, hvv⟩ : ∃ v, hs x y = v := ⟨_, rfl⟩
    have HW := Lib.hid hvv
    rw [hvv] at hvd
    obtain ⟨hv0, hv1⟩ := hvd
    clear hv hk1 hk2 hk3 hk4 hvv hbb hu0 hu1
    go_wp2_with fail
    refine (pokz_as true x y b w1 HV.out).mono ?_
    rintro e w2 ⟨rfl, hb2⟩
    have B2 : Hid (Below w.heap.size w w2) := B1.out.trans (hb2.mono B1.out.size)
    clear hb2
    go_wp2_with fail
    refine (sokz_as true x y b w2 HV.out).mono ?_
    rintro e w3 ⟨rfl, hb3⟩
    have B3 : Hid (Below w.heap.size w w3) := B2.out.trans (hb3.mono B2.out.size)
    clear hb3
    go_wp2
    go_loopw [8, 9] (fun s i wr => ∃ k : Nat, k ≤ b + 1 ∧ i = .int .i64 k ∧ s = .int .i64 (pw k) ∧ Below w3.heap.size w3 wr) (fun _ i _ => b + 1 - (intOf i).toNat)
    case atStart => exact ⟨0, by omega, rfl, rfl, Below.refl _ _⟩
    case round =>
      obtain ⟨k, hk, rfl, rfl, hbel⟩ := hrel
      have HB : Hid (Below w.heap.size w wr) := B3.out.trans (hbel.mono B3.out.size)
      have HP := Lib.hid (pw_s k)
      by_cases hlt : k ≤ b
      · have hp1 := pw_pos k
        have hp2 := pw_le (b := k) (by omega)
        have HO : Hid (okR x y k = true) := by
          show _ = true
          rw [okR_at HH.out ((btB_iff _).2 ⟨by omega, by omega⟩)]
          simpa using okB_less hlt HK.out
        have hmod : v % pw k = 0 := by have := (okB_iff _ _ _).1 (okB_less hlt HK.out); rw [HW.out] at this; exact this
        obtain ⟨p, hp⟩ : ∃ p, pw k = p := ⟨_, rfl⟩
        rw [hp] at HP hp1 hp2 hmod ⊢
        have p0 : (p == 0) = false := by rw [beq_eq_false_iff_ne]; omega
        have p0' : ¬ p = 0 := by omega
        have t1 : v.tmod p = 0 := by rw [Int.tmod_eq_emod_of_nonneg hv0]; exact hmod
        have hki : (k : Int) ≤ (b : Int) := by omega
        have HVR : Hid (hsR x y = v) := by show _ = _; rw [hsR_ok HH.out]; exact HW.out
        clear hp hmod
        go_wp2_with fail
        refine (pokz_as true x y k wr HO.out).mono ?_
        rintro e w4 ⟨rfl, hb4⟩
        have HB4 : Hid (Below w3.heap.size w3 w4) := hbel.trans (hb4.mono hbel.size)
        clear hb4
        go_wp2_with fail
        refine (phash_as v x y w4 HVR.out).mono ?_
        rintro e w5 ⟨rfl, hb5'⟩
        have HB5 : Hid (Below w3.heap.size w3 w5) := HB4.out.trans (hb5'.mono HB4.out.size)
        clear hb5' hbel
        go_wp2
        go_roundw
        case rel => exact ⟨k + 1, by omega, by go_num, by rw [HP.out], HB5.out⟩
        case measure => simp [intOf]; omega
      · have hki : ¬ (k : Int) ≤ (b : Int) := by omega
        clear hbel
        go_wp2
        go_ret
        exact ⟨rfl, HB.out⟩

set_option maxRecDepth 20000 in
set_option maxHeartbeats 4000000 in
theorem puzzleSolve (s : Option Addr) (len cap : Nat) (z : List Int) (w : World) (h : RowIn .u8 w s len cap z) :
    Calls Try.prog 5 #[.slice s len cap] w fun e w' => e = .returned (.bool true) ∧ Below w.heap.size w w' := by
  have hb := bytes_of_row h
  have hm : len ≤ maxLen := Nat.le_trans hb.1 hb.2.1
  unfold maxLen at hm
  clear h
  by_cases hllen : 1048576 < len
  · go_enter Try.func5, Try.ntmps5
    go_wp2
    go_ret
    exact ⟨rfl, Below.refl _ _⟩
  have HY := Lib.hid hb
  clear hb
  go_enter Try.func5, Try.ntmps5
  go_wp2_with fail
  refine (drawPuzzleSolve s len cap w HY.out).mono ?_
  rintro e w1 ⟨x, y, rfl, hx0, hx1, hy0, hy1, hb1⟩
  have B1 : Hid (Below w.heap.size w w1) := hb1
  clear hb1
  rcases slvR_is x y with ⟨hv, hn⟩ | ⟨m, hm255, hv, ho, hn⟩
  · have HV := Lib.hid hv
    have HN := Lib.hid hn
    clear hv hn
    go_wp2_with fail
    refine (psolve_as (-1) x y w1 HV.out).mono ?_
    rintro e w2 ⟨rfl, hb2⟩
    have B2 : Hid (Below w.heap.size w w2) := B1.out.trans (hb2.mono B1.out.size)
    clear hb2
    go_wp2_with fail
    refine (ssolve_as (-1) x y w2 HV.out).mono ?_
    rintro e w3 ⟨rfl, hb3⟩
    have B3 : Hid (Below w.heap.size w w3) := B2.out.trans (hb3.mono B2.out.size)
    clear hb3
    go_wp2
    go_loopw [8] (fun i wr => ∃ k : Nat, k ≤ 256 ∧ i = .int .i64 k ∧ Below w3.heap.size w3 wr) (fun i _ => 256 - (intOf i).toNat)
    case atStart => exact ⟨0, by omega, rfl, Below.refl _ _⟩
    case round =>
      obtain ⟨k, hk, rfl, hbel⟩ := hrel
      have HB : Hid (Below w.heap.size w wr) := B3.out.trans (hbel.mono B3.out.size)
      by_cases hlt : k < 256
      · have HO := Lib.hid (HN.out k (by omega))
        have hki : (k : Int) ≤ 255 := by omega
        go_wp2_with fail
        refine (pokz_as false x k y wr HO.out).mono ?_
        rintro e w4 ⟨rfl, hb4⟩
        have HB4 : Hid (Below w3.heap.size w3 w4) := hbel.trans (hb4.mono hbel.size)
        clear hb4 hbel
        go_wp2
        go_roundw
        case rel => exact ⟨k + 1, by omega, by go_num, HB4.out⟩
        case measure => simp [intOf]; omega
      · have hki : ¬ (k : Int) ≤ 255 := by omega
        clear hbel
        go_wp2
        go_ret
        exact ⟨rfl, HB.out⟩
  · have HV := Lib.hid hv
    have HN := Lib.hid hn
    have HO := Lib.hid ho
    have q1 : ((m : Int) != (m : Int)) = false := by simp
    have q0 : ¬ (m : Int) < 0 := by omega
    have qm : ((m : Int) == -1) = false := by rw [beq_eq_false_iff_ne]; omega
    clear hv hn ho
    go_wp2_with fail
    refine (psolve_as m x y w1 HV.out).mono ?_
    rintro e w2 ⟨rfl, hb2⟩
    have B2 : Hid (Below w.heap.size w w2) := B1.out.trans (hb2.mono B1.out.size)
    clear hb2
    go_wp2_with fail
    refine (ssolve_as m x y w2 HV.out).mono ?_
    rintro e w3 ⟨rfl, hb3⟩
    have B3 : Hid (Below w.heap.size w w3) := B2.out.trans (hb3.mono B2.out.size)
    clear hb3
    go_wp2
    go_loopw [8] (fun i wr => ∃ k : Nat, k ≤ m ∧ i = .int .i64 k ∧ Below w3.heap.size w3 wr) (fun i _ => m - (intOf i).toNat)
    case atStart => exact ⟨0, by omega, rfl, Below.refl _ _⟩
    case round =>
      obtain ⟨k, hk, rfl, hbel⟩ := hrel
      have HB : Hid (Below w.heap.size w wr) := B3.out.trans (hbel.mono B3.out.size)
      by_cases hlt : k < m
      · have HO := Lib.hid (HN.out k (by omega))
        have hki : (k : Int) ≤ (m : Int) - 1 := by omega
        go_wp2_with fail
        refine (pokz_as false x k y wr HO.out).mono ?_
        rintro e w4 ⟨rfl, hb4⟩
        have HB4 : Hid (Below w3.heap.size w3 w4) := hbel.trans (hb4.mono hbel.size)
        clear hb4 hbel
        go_wp2
        go_roundw
        case rel => exact ⟨k + 1, by omega, by go_num, HB4.out⟩
        case measure => simp [intOf]; omega
      · have hki : ¬ (k : Int) ≤ (m : Int) - 1 := by omega
        clear hbel
        go_wp2_with fail
        refine (pokz_as true x m y wr HO.out).mono ?_
        rintro e w4 ⟨rfl, hb4⟩
        have HB4 : Hid (Below w.heap.size w w4) := HB.out.trans (hb4.mono HB.out.size)
        clear hb4
        go_wp2
        go_ret
        exact ⟨rfl, HB4.out⟩

set_option maxRecDepth 20000 in
set_option maxHeartbeats 4000000 in
theorem puzzleFree (s : Option Addr) (len cap : Nat) (z : List Int) (w : World) (h : RowIn .u8 w s len cap z) :
    Calls Try.prog 6 #[.slice s len cap] w fun e w' => e = .returned (.bool true) ∧ Below w.heap.size w w' := by
  have hb := bytes_of_row h
  have hm : len ≤ maxLen := Nat.le_trans hb.1 hb.2.1
  unfold maxLen at hm
  clear h
  by_cases hllen : 1048576 < len
  · go_enter Try.func6, Try.ntmps6
    go_wp2
    go_ret
    exact ⟨rfl, Below.refl _ _⟩
  have HY := Lib.hid hb
  clear hb
  go_enter Try.func6, Try.ntmps6
  go_wp2_with fail
  refine (drawPuzzleSolve s len cap w HY.out).mono ?_
  rintro e w1 ⟨x, y, rfl, hx0, hx1, hy0, hy1, hb1⟩
  have B1 : Hid (Below w.heap.size w w1) := hb1
  clear hb1
  rcases slvR_is x y with ⟨hv, hn⟩ | ⟨m, hm255, hv, ho, hn⟩
  · have HV := Lib.hid hv
    clear hv hn
    go_wp2_with fail
    refine (psolve_as (-1) x y w1 HV.out).mono ?_
    rintro e w2 ⟨rfl, hb2⟩
    have B2 : Hid (Below w.heap.size w w2) := B1.out.trans (hb2.mono B1.out.size)
    clear hb2
    go_wp2_with fail
    refine (ssolve_as (-1) x y w2 HV.out).mono ?_
    rintro e w3 ⟨rfl, hb3⟩
    have B3 : Hid (Below w.heap.size w w3) := B2.out.trans (hb3.mono B2.out.size)
    clear hb3
    go_wp2
    go_ret
    exact ⟨rfl, B3.out⟩
  · have HV := Lib.hid hv
    have q1 : ((m : Int) != (m : Int)) = false := by simp
    have q0 : ¬ (m : Int) < 0 := by omega
    by_cases h0 : y = 0
    · subst h0
      clear hv ho hn
      go_wp2_with fail
      refine (psolve_as m x 0 w1 HV.out).mono ?_
      rintro e w2 ⟨rfl, hb2⟩
      have B2 : Hid (Below w.heap.size w w2) := B1.out.trans (hb2.mono B1.out.size)
      clear hb2
      go_wp2_with fail
      refine (ssolve_as m x 0 w2 HV.out).mono ?_
      rintro e w3 ⟨rfl, hb3⟩
      have B3 : Hid (Below w.heap.size w w3) := B2.out.trans (hb3.mono B2.out.size)
      clear hb3
      go_wp2
      go_ret
      exact ⟨rfl, B3.out⟩
    · have hok : slvOk x y = true := by
        rcases hb : slvOk x y with _ | _
        · have := slvR_bad hb; omega
        · rfl
      have hby := (slvOk_iff _ _).1 hok
      have h0' : (y == 0) = false := by simp [h0]
      have hok2 : slvOk x (y - 1) = true := (slvOk_iff _ _).2 ⟨hby.1, by omega, by omega⟩
      have hok3 : slvOk x 0 = true := (slvOk_iff _ _).2 ⟨hby.1, by omega, by omega⟩
      have h0v : slvR x 0 = 0 := by rw [slvR_ok hok3]; exact slv_zero x
      have hle : 0 ≤ slvR x (y - 1) ∧ slvR x (y - 1) ≤ (m : Int) := by
        rw [slvR_ok hok2]
        exact slv_less (a := (y - 1).toNat) (b := y.toNat) (by omega) (by rw [← slvR_ok hok]; exact hv)
      obtain ⟨t, ht⟩ : ∃ t, slvR x (y - 1) = t := ⟨_, rfl⟩
      rw [ht] at hle
      obtain ⟨ht0, ht1⟩ := hle
      have HT := Lib.hid ht
      have H0 := Lib.hid h0v
      have hy6 := hby.2
      obtain ⟨hy60, hy61⟩ := hy6
      clear hv ho hn hok hby hok2 hok3 h0v ht
      go_wp2_with fail
      refine (psolve_as m x y w1 HV.out).mono ?_
      rintro e w2 ⟨rfl, hb2⟩
      have B2 : Hid (Below w.heap.size w w2) := B1.out.trans (hb2.mono B1.out.size)
      clear hb2
      go_wp2_with fail
      refine (ssolve_as m x y w2 HV.out).mono ?_
      rintro e w3 ⟨rfl, hb3⟩
      have B3 : Hid (Below w.heap.size w w3) := B2.out.trans (hb3.mono B2.out.size)
      clear hb3
      go_wp2_with fail
      refine (psolve_as t x (y - 1) w3 HT.out).mono ?_
      rintro e w4 ⟨rfl, hb4⟩
      have B4 : Hid (Below w.heap.size w w4) := B3.out.trans (hb4.mono B3.out.size)
      clear hb4
      go_wp2_with fail
      refine (psolve_as 0 x 0 w4 H0.out).mono ?_
      rintro e w5 ⟨rfl, hb5⟩
      have B5 : Hid (Below w.heap.size w w5) := B4.out.trans (hb5.mono B4.out.size)
      clear hb5
      go_wp2
      go_ret
      exact ⟨rfl, B5.out⟩

theorem hasZ_as (v : Bool) (a : Option Addr) (len cap : Nat) (zs : List Int) (x : Int) (w : World) (h : IntsAt w a zs) (hz : zs.length = len) (hm : len ≤ maxLen) (hv : hasB zs x = v) :
    Calls Try.prog 30 #[.slice a len cap, .int .i64 x] w fun e w' => e = .returned (.bool v) ∧ Below w.heap.size w w' := by subst hv; exact (lhas_any a len cap zs x w h hz hm).mono fun _ _ ⟨h1, h2⟩ => ⟨h1, h2 ▸ Below.refl _ _⟩

set_option maxRecDepth 20000 in
set_option maxHeartbeats 4000000 in
theorem pathsAnswer (s : Option Addr) (len cap : Nat) (z : List Int) (w : World) (h : RowIn .u8 w s len cap z) :
    Calls Try.prog 8 #[.slice s len cap] w fun e w' => e = .returned (.bool true) ∧ Below w.heap.size w w' := by
  have hb := bytes_of_row h
  have hm : len ≤ maxLen := Nat.le_trans hb.1 hb.2.1
  unfold maxLen at hm
  clear h
  by_cases hllen : 1048576 < len
  · go_enter Try.func8, Try.ntmps8
    go_wp2
    go_ret
    exact ⟨rfl, Below.refl _ _⟩
  have HY := Lib.hid hb
  clear hb
  go_enter Try.func8, Try.ntmps8
  go_wp2_with fail
  refine (drawPathsAnswer s len cap w HY.out).mono ?_
  rintro e w1 ⟨g, c, zs, rfl, h8, hpos, ho, hb1⟩
  have B1 : Hid (Below w.heap.size w w1) := hb1
  have T1 := Lib.hid ho
  clear hb1 ho
  have HPOS := Lib.hid hpos
  clear hpos
  obtain ⟨n, hn⟩ : ∃ n, zs.length = n := ⟨_, rfl⟩
  have HM : Hid (n ≤ maxLen) := by show n ≤ maxLen; unfold maxLen; omega
  rw [hn] at h8 ⊢
  have HN := Lib.hid hn
  obtain ⟨v, hv⟩ : ∃ v, ansR zs = v := ⟨_, rfl⟩
  have HV := Lib.hid hv
  have q1 : (v != v) = false := by simp
  have q2 : (v == v) = true := by simp
  clear hn hv
  go_wp2_with fail
  refine (pans_as v _ n c zs w1 T1.out.ints HN.out HM.out HV.out).mono ?_
  rintro e w2 ⟨rfl, hb2⟩
  have B2 : Hid (Below w.heap.size w w2) := B1.out.trans (hb2.mono B1.out.size)
  have T2 := Lib.hid (T1.out.keepB hb2 (Nat.le_refl _))
  clear hb2
  go_wp2_with fail
  refine (sans_as v _ n c zs w2 T2.out.ints HN.out HM.out HV.out).mono ?_
  rintro e w3 ⟨rfl, hb3⟩
  have B3 : Hid (Below w.heap.size w w3) := B2.out.trans (hb3.mono B2.out.size)
  have T3 := Lib.hid (T2.out.keepB hb3 (Nat.le_refl _))
  clear hb3
  by_cases h7 : 7 < n
  · have h7i : (7 : Int) < (n : Int) := by omega
    go_wp2
    go_ret
    exact ⟨rfl, B3.out⟩
  · have h7i : ¬ (7 : Int) < (n : Int) := by omega
    have H7 : Hid (zs.length ≤ 7) := by show _ ≤ 7; rw [HN.out]; omega
    go_wp2
    go_loopw [6] (fun i wr => ∃ k : Nat, k ≤ n ∧ i = .int .i64 k ∧ Below w3.heap.size w3 wr) (fun i _ => n - (intOf i).toNat)
    case atStart => exact ⟨0, by omega, rfl, Below.refl _ _⟩
    case round =>
      obtain ⟨k, hk, rfl, hbel⟩ := hrel
      obtain ⟨w4, rfl⟩ : ∃ x, x = wr := ⟨_, rfl⟩
      have HB : Hid (Below w.heap.size w w4) := B3.out.trans (hbel.mono B3.out.size)
      have HT := Lib.hid (T3.out.keepB hbel (Nat.le_refl _))
      have HBE := Lib.hid hbel
      clear hbel
      by_cases hlt : k < n
      · obtain ⟨_, hab, hb0, hb1', hcells, _⟩ := HT.out.at_ (by rw [HN.out]; omega)
        injection hab with hab
        injection hab with hab
        subst hab
        have HC := Lib.hid hcells
        have hck := hcells k (by rw [HN.out]; exact hlt)
        obtain ⟨x, hx⟩ : ∃ x, x = gt zs k := ⟨_, rfl⟩
        rw [← hx] at hck
        have HX := Lib.hid hx
        have k0 : (0 : Int) ≤ (k : Int) := by omega
        have k1 : (k : Int) < (n : Int) := by omega
        clear hcells hx hb0 hb1'
        go_wp2
        go_loopw [7, 8] (fun t i wr => ∃ q : Nat, q ≤ n ∧ i = .int .i64 q ∧ t = .int .i64 (cnA zs x q : Nat) ∧ Same w4 wr) (fun _ i _ => n - (intOf i).toNat)
        case atStart => exact ⟨0, by omega, rfl, rfl, Same.refl _⟩
        case round =>
          obtain ⟨q, hq, rfl, rfl, hs2⟩ := hrel
          have HSC : Hid (cnA zs x (q + 1) = cnA zs x q + if gt zs q = x then 1 else 0) := rfl
          have hle := cnA_le zs x q
          obtain ⟨t, ht⟩ : ∃ t, t = cnA zs x q := ⟨_, rfl⟩
          rw [← ht] at HSC hle ⊢
          have hck2 := (hs2.cell ⟨g, k, none⟩).trans hck
          by_cases hql : q < n
          · have hcq := (hs2.cell ⟨g, q, none⟩).trans (HC.out q (by rw [HN.out]; exact hql))
            obtain ⟨y, hy⟩ : ∃ y, y = gt zs q := ⟨_, rfl⟩
            rw [← hy] at hcq HSC
            have q0 : (0 : Int) ≤ (q : Int) := by omega
            have q1' : (q : Int) < (n : Int) := by omega
            clear hy ht
            by_cases hyx : y = x
            · have HE : Hid (cnA zs x (q + 1) = t + 1) := by show _ = _; rw [HSC.out, if_pos hyx]
              have he : (y == x) = true := by simp [hyx]
              clear hyx
              go_wp2
              go_quiet (fail)
              clear he
              go_wp2
              go_roundw
              case rel => exact ⟨q + 1, by omega, by go_num, by rw [HE.out]; go_num, hs2.drewN _⟩
              case measure => simp [intOf]; omega
            · have HE : Hid (cnA zs x (q + 1) = t) := by show _ = _; rw [HSC.out, if_neg hyx]; rfl
              have he : (y == x) = false := by simp [hyx]
              clear hyx
              go_wp2
              go_quiet (fail)
              clear he
              go_wp2
              go_roundw
              case rel => exact ⟨q + 1, by omega, by go_num, by rw [HE.out], hs2.drewN _⟩
              case measure => simp [intOf]; omega
          · obtain rfl : q = n := by omega
            have HMJ : Hid (mjA zs x = decide (q < 2 * t)) := by show _ = _; unfold mjA; rw [HN.out, ht]
            have HVX : Hid ((x == v) = decide (q < 2 * t)) := by
              show _ = _
              rw [← HMJ.out, Bool.eq_iff_iff, beq_iff_eq]
              constructor
              · intro e
                rcases ansR_is H7.out with ⟨i, hi, hm, ha⟩ | ⟨hno, ha⟩
                · rw [HV.out] at ha; rw [e, ha]; exact hm
                · exfalso; have h0 := HPOS.out k (by rw [HN.out]; exact hlt); rw [← HX.out, e, ← HV.out, ha] at h0; omega
              · intro hm
                rw [HX.out] at hm
                have := ansR_some H7.out (by rw [HN.out]; exact hlt) hm
                rw [HV.out] at this; rw [this, HX.out]
            clear ht
            by_cases hmj : q < 2 * t
            · have hmj' : (q : Int) < 2 * (t : Int) := by omega
              have hxv : (x == v) = true := by rw [HVX.out]; simpa using hmj
              go_wp2
              go_roundw
              case rel => exact ⟨k + 1, by omega, by go_num, HBE.out.trans ((hs2.below _).mono HBE.out.size)⟩
              case measure => simp [intOf]; omega
            · have hmj' : ¬ (q : Int) < 2 * (t : Int) := by omega
              have hxv : (x == v) = false := by rw [HVX.out]; simpa using hmj
              go_wp2
              go_roundw
              case rel => exact ⟨k + 1, by omega, by go_num, HBE.out.trans ((hs2.below _).mono HBE.out.size)⟩
              case measure => simp [intOf]; omega
      · have hki : ¬ (k : Int) < (n : Int) := by omega
        rcases ansR_is H7.out with ⟨i, hi, hm, ha⟩ | ⟨hno, ha⟩
        · have hvn : (v == -1) = false := by rw [beq_eq_false_iff_ne]; have h0 := HPOS.out i hi; rw [← ha, HV.out] at h0; omega
          have HH : Hid (hasB zs v = true) := has_at hi (by rw [← HV.out]; exact ha.symm)
          clear hm ha
          go_wp2_with fail
          refine (hasZ_as true _ _ c zs v w4 HT.out.ints HN.out HM.out HH.out).mono ?_
          rintro e w5 ⟨rfl, hb5⟩
          have HB5 : Hid (Below w.heap.size w w5) := HB.out.trans (hb5.mono HB.out.size)
          clear hb5
          go_wp2
          go_ret
          exact ⟨rfl, HB5.out⟩
        · have hvn : v = -1 := by rw [← HV.out]; exact ha
          subst hvn
          clear ha hno
          go_wp2
          go_ret
          exact ⟨rfl, HB.out⟩
end Go.Proofs.Ytblhaccjngjekaa
