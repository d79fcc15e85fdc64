/- The program: lists of paths. -/
import Derived.Test.YtblhaccjngjekaaPzWS
import Derived.Test.YtblhaccjngjekaaPzP
namespace Go.Proofs.Ytblhaccjngjekaa
open Go.RowKit
set_option linter.unusedVariables false
attribute [local go_sem ↓] Go.wp_at_zero Go.wp_at_succ

/-- all are positions -/
def ptsB (zs : List Int) : Bool := decide (∀ k, k < zs.length → ptB (gt zs k) = true)
theorem ptsB_iff (zs : List Int) : ptsB zs = true ↔ ∀ k, k < zs.length → ptB (gt zs k) = true := by simp [ptsB]
theorem ptsB_no {zs : List Int} {k : Nat} (hk : k < zs.length) (h : ptB (gt zs k) = false) : ptsB zs = false := by
  rcases hb : ptsB zs with _ | _
  · rfl
  · have := (ptsB_iff _).1 hb k hk; rw [h] at this; cases this
theorem pathB_is (zs : List Int) : pathB zs = (ptsB zs && decide (zs.length ≤ 10)) := rfl
/-- all are paths -/
def psB (ps : List (List Int)) : Bool := decide (∀ k, k < ps.length → pathB (gl ps k) = true)
theorem psB_iff (ps : List (List Int)) : psB ps = true ↔ ∀ k, k < ps.length → pathB (gl ps k) = true := by simp [psB]
theorem psB_no {ps : List (List Int)} {k : Nat} (hk : k < ps.length) (h : pathB (gl ps k) = false) : psB ps = false := by
  rcases hb : psB ps with _ | _
  · rfl
  · have := (psB_iff _).1 hb k hk; rw [h] at this; cases this
theorem pvB_is (ps : List (List Int)) : pvB ps = (psB ps && decide (ps.length ≤ 7)) := rfl
/-- the index of the first one that fails, -1 if there is none -/
def IdxZ (ok : Bool) (e : Ending) : Prop := (ok = false ∧ ∃ k : Nat, e = .returned (.int .i64 k)) ∨ (ok = true ∧ e = .returned (.int .i64 (-1)))

set_option maxHeartbeats 400000 in
theorem outS_as (v : Bool) (n : Int) (w : World) (hv : (!ptB n) = v) :
    Calls Try.prog 67 #[.int .i64 n] w fun e w' => e = .returned (.bool v) ∧ w = w' := by
  have HV := Lib.hid hv
  clear hv
  go_enter Try.func67, Try.ntmps67
  go_wp2_with fail
  refine (valid_any n w).mono ?_
  rintro e w' ⟨rfl, rfl⟩
  go_wp2
  go_ret
  exact ⟨ret_bool (by have h := HV.out; rw [← h]), rfl⟩

set_option maxRecDepth 20000 in
set_option maxHeartbeats 1000000 in
theorem idxP_any (a : Option Addr) (len cap : Nat) (zs : List Int) (w : World) (h : IntsAt w a zs) (hz : zs.length = len) (hm : len ≤ maxLen) :
    Calls Try.prog 69 #[.slice a len cap, .func (.func 67) #[] #[]] w fun e w' => IdxZ (ptsB zs) e ∧ w = w' := by
  have HI := Lib.hid h
  have HZ := Lib.hid hz
  unfold maxLen at hm
  clear h hz
  go_enter Try.func69, Try.ntmps69
  go_wp2
  go_loop [8] (fun i => ∃ k : Nat, k ≤ len ∧ i = .int .i64 k ∧ Hid (∀ j, j < k → ptB (gt zs j) = true)) (fun i => len - (intOf i).toNat)
  case atStart => exact ⟨0, by omega, rfl, fun j hj => by omega⟩
  case round =>
    obtain ⟨k, hk, rfl, HA⟩ := hrel
    by_cases hlt : k < len
    · obtain ⟨bb, off, rfl, hb0, hcells⟩ := HI.out.cellZ (by rw [HZ.out]; omega)
      have hc := hcells k (by rw [HZ.out]; exact hlt)
      have k0 : (0 : Int) ≤ (k : Int) := by omega
      have k1 : (k : Int) < (len : Int) := by omega
      clear hcells
      obtain ⟨x, hx⟩ : ∃ x, x = gt zs k := ⟨_, rfl⟩
      rw [← hx] at hc
      have HX := Lib.hid hx
      clear hx
      cases hq : ptB x
      · have HQ := Lib.hid hq
        have HR : Hid (IdxZ (ptsB zs) (.returned (.int .i64 (k : Nat)))) := .inl ⟨ptsB_no (by rw [HZ.out]; exact hlt) (by rw [← HX.out]; exact HQ.out), k, rfl⟩
        clear hq
        go_wp2_with fail
        refine (outS_as true x w (by rw [HQ.out]; rfl)).mono ?_
        rintro e w' ⟨rfl, rfl⟩
        go_wp2
        go_ret
        exact ⟨HR.out, rfl⟩
      · have HQ := Lib.hid hq
        clear hq
        go_wp2_with fail
        refine (outS_as false x w (by rw [HQ.out]; rfl)).mono ?_
        rintro e w' ⟨rfl, rfl⟩
        go_wp2
        go_round
        case rel => exact ⟨k + 1, by omega, by go_num, fun j hj => by rcases Nat.lt_or_ge j k with h' | h'; exact HA.out j h'; obtain rfl : j = k := (by omega); rw [← HX.out]; exact HQ.out⟩
        case measure => simp [intOf]; omega
    · have HR : Hid (IdxZ (ptsB zs) (.returned (.int .i64 (-1)))) := .inr ⟨(ptsB_iff _).2 fun i hi => HA.out i (by rw [HZ.out] at hi; omega), rfl⟩
      go_wp2
      go_ret
      exact ⟨HR.out, rfl⟩
set_option maxHeartbeats 400000 in
theorem ctnP_as (v : Bool) (a : Option Addr) (len cap : Nat) (zs : List Int) (w : World) (h : IntsAt w a zs) (hz : zs.length = len) (hm : len ≤ maxLen) (hv : (ptsB zs) = v) :
    Calls Try.prog 64 #[.slice a len cap, .func (.func 67) #[] #[]] w fun e w' => e = .returned (.bool (!v)) ∧ w = w' := by
  have HI := Lib.hid h
  have HZ := Lib.hid hz
  have HM := Lib.hid hm
  have HV := Lib.hid hv
  clear h hz hm hv
  go_enter Try.func64, Try.ntmps64
  go_wp2_with fail
  refine (idxP_any a len cap zs w HI.out HZ.out HM.out).mono ?_
  rintro e w' ⟨⟨hw, k, rfl⟩ | ⟨hw, rfl⟩, rfl⟩
  · have k0 : (0 : Int) ≤ (k : Int) := by omega
    have HW := Lib.hid hw
    clear hw
    go_wp2
    go_ret
    exact ⟨by rw [← HV.out, HW.out]; rfl, rfl⟩
  · have HW := Lib.hid hw
    clear hw
    go_wp2
    go_ret
    exact ⟨by rw [← HV.out, HW.out]; rfl, rfl⟩

set_option maxHeartbeats 400000 in
theorem isPath_as (v : Bool) (a : Option Addr) (len cap : Nat) (zs : List Int) (w : World) (h : IntsAt w a zs) (hz : zs.length = len) (hm : len ≤ maxLen) (hv : pathB zs = v) :
    Calls Try.prog 62 #[.slice a len cap] w fun e w' => e = .returned (.bool v) ∧ w = w' := by
  subst hv
  by_cases h10 : len ≤ 10
  · have HI := Lib.hid h
    have HZ := Lib.hid hz
    have HM := Lib.hid hm
    have HR : Hid (pathB zs = ptsB zs) := by show _ = _; rw [pathB_is, hz]; simp [h10]
    have h10i : (len : Int) ≤ 10 := by omega
    clear h hz hm
    go_enter Try.func62, Try.ntmps62
    go_wp2_with fail
    refine (ctnP_as (ptsB zs) a len cap zs w HI.out HZ.out HM.out rfl).mono ?_
    rintro e w' ⟨rfl, rfl⟩
    go_wp2
    go_ret
    exact ⟨ret_bool (by rw [HR.out]; try simp), rfl⟩
  · have HR : Hid (pathB zs = false) := by show _ = _; rw [pathB_is, hz]; simp [h10]
    have h10i : ¬ (len : Int) ≤ 10 := by omega
    clear h hz hm
    go_enter Try.func62, Try.ntmps62
    go_wp2
    go_ret
    exact ⟨ret_bool HR.out.symm, rfl⟩
set_option maxHeartbeats 400000 in
theorem noPath_as (v : Bool) (a : Option Addr) (len cap : Nat) (zs : List Int) (w : World) (h : IntsAt w a zs) (hz : zs.length = len) (hm : len ≤ maxLen) (hv : pathB zs = v) :
    Calls Try.prog 61 #[.slice a len cap] w fun e w' => e = .returned (.bool (!v)) ∧ w = w' := by
  have HI := Lib.hid h
  have HZ := Lib.hid hz
  have HM := Lib.hid hm
  have HV := Lib.hid hv
  clear h hz hm hv
  go_enter Try.func61, Try.ntmps61
  go_wp2_with fail
  refine (isPath_as v a len cap zs w HI.out HZ.out HM.out HV.out).mono ?_
  rintro e w' ⟨rfl, rfl⟩
  go_wp2
  go_ret
  exact ⟨rfl, rfl⟩

set_option maxRecDepth 20000 in
set_option maxHeartbeats 1000000 in
theorem idxPs_any (a : Option Addr) (len cap : Nat) (ps : List (List Int)) (w : World) (h : SsAt w a ps) (hz : ps.length = len) (hm : len ≤ maxLen) :
    Calls Try.prog 68 #[.slice a len cap, .func (.func 61) #[] #[]] w fun e w' => IdxZ (psB ps) e ∧ w = w' := by
  have HI := Lib.hid h
  have HZ := Lib.hid hz
  unfold maxLen at hm
  clear h hz
  go_enter Try.func68, Try.ntmps68
  go_wp2
  go_loop [8] (fun i => ∃ k : Nat, k ≤ len ∧ i = .int .i64 k ∧ Hid (∀ j, j < k → pathB (gl ps j) = true)) (fun i => len - (intOf i).toNat)
  case atStart => exact ⟨0, by omega, rfl, fun j hj => by omega⟩
  case round =>
    obtain ⟨k, hk, rfl, HA⟩ := hrel
    by_cases hlt : k < len
    · obtain ⟨b, off, rfl, hb0, hrows⟩ := HI.out.row (by rw [HZ.out]; omega)
      obtain ⟨ai, ci, hc, hints, hl, hci⟩ := hrows k (by rw [HZ.out]; exact hlt)
      have HT := Lib.hid hints
      have k0 : (0 : Int) ≤ (k : Int) := by omega
      have k1 : (k : Int) < (len : Int) := by omega
      obtain ⟨n, hn⟩ : ∃ n, (gl ps k).length = n := ⟨_, rfl⟩
      rw [hn] at hc hl
      have HL := Lib.hid hn
      have HMX := Lib.hid (Nat.le_trans hl hci)
      clear hrows hints hn hci
      cases hq : pathB (gl ps k)
      · have HQ := Lib.hid hq
        have HR : Hid (IdxZ (psB ps) (.returned (.int .i64 (k : Nat)))) := .inl ⟨psB_no (by rw [HZ.out]; exact hlt) HQ.out, k, rfl⟩
        clear hq
        go_wp2_with fail
        refine (noPath_as false ai n ci (gl ps k) w HT.out HL.out HMX.out HQ.out).mono ?_
        rintro e w' ⟨rfl, rfl⟩
        go_wp2
        go_ret
        exact ⟨HR.out, rfl⟩
      · have HQ := Lib.hid hq
        clear hq
        go_wp2_with fail
        refine (noPath_as true ai n ci (gl ps k) w HT.out HL.out HMX.out HQ.out).mono ?_
        rintro e w' ⟨rfl, rfl⟩
        go_wp2
        go_round
        case rel => exact ⟨k + 1, by omega, by go_num, fun j hj => by rcases Nat.lt_or_ge j k with h' | h'; exact HA.out j h'; obtain rfl : j = k := (by omega); exact HQ.out⟩
        case measure => simp [intOf]; omega
    · have HR : Hid (IdxZ (psB ps) (.returned (.int .i64 (-1)))) := .inr ⟨(psB_iff _).2 fun i hi => HA.out i (by rw [HZ.out] at hi; omega), rfl⟩
      go_wp2
      go_ret
      exact ⟨HR.out, rfl⟩
set_option maxHeartbeats 400000 in
theorem ctnPs_as (v : Bool) (a : Option Addr) (len cap : Nat) (ps : List (List Int)) (w : World) (h : SsAt w a ps) (hz : ps.length = len) (hm : len ≤ maxLen) (hv : psB ps = v) :
    Calls Try.prog 63 #[.slice a len cap, .func (.func 61) #[] #[]] w fun e w' => e = .returned (.bool (!v)) ∧ w = w' := by
  have HI := Lib.hid h
  have HZ := Lib.hid hz
  have HM := Lib.hid hm
  have HV := Lib.hid hv
  clear h hz hm hv
  go_enter Try.func63, Try.ntmps63
  go_wp2_with fail
  refine (idxPs_any a len cap ps w HI.out HZ.out HM.out).mono ?_
  rintro e w' ⟨⟨hw, k, rfl⟩ | ⟨hw, rfl⟩, rfl⟩
  · have k0 : (0 : Int) ≤ (k : Int) := by omega
    have HW := Lib.hid hw
    clear hw
    go_wp2
    go_ret
    exact ⟨by rw [← HV.out, HW.out]; rfl, rfl⟩
  · have HW := Lib.hid hw
    clear hw
    go_wp2
    go_ret
    exact ⟨by rw [← HV.out, HW.out]; rfl, rfl⟩
set_option maxHeartbeats 400000 in
theorem arePs_as (v : Bool) (a : Option Addr) (len cap : Nat) (ps : List (List Int)) (w : World) (h : SsAt w a ps) (hz : ps.length = len) (hm : len ≤ maxLen) (hv : pvB ps = v) :
    Calls Try.prog 54 #[.slice a len cap] w fun e w' => e = .returned (.bool v) ∧ w = w' := by
  subst hv
  by_cases h7 : len ≤ 7
  · have HI := Lib.hid h
    have HZ := Lib.hid hz
    have HM := Lib.hid hm
    have HR : Hid (pvB ps = psB ps) := by show _ = _; rw [pvB_is, hz]; simp [h7]
    have h7i : (len : Int) ≤ 7 := by omega
    clear h hz hm
    go_enter Try.func54, Try.ntmps54
    go_wp2_with fail
    refine (ctnPs_as (psB ps) a len cap ps w HI.out HZ.out HM.out rfl).mono ?_
    rintro e w' ⟨rfl, rfl⟩
    go_wp2
    go_ret
    exact ⟨ret_bool (by rw [HR.out]; try simp), rfl⟩
  · have HR : Hid (pvB ps = false) := by show _ = _; rw [pvB_is, hz]; simp [h7]
    have h7i : ¬ (len : Int) ≤ 7 := by omega
    clear h hz hm
    go_enter Try.func54, Try.ntmps54
    go_wp2
    go_ret
    exact ⟨ret_bool HR.out.symm, rfl⟩

/-! whether a path meets positions -/
set_option maxHeartbeats 1000000 in
theorem idxC_any (a : Option Addr) (len cap : Nat) (zs : List Int) (n : Int) (w : World) (h : IntsAt w a zs) (hz : zs.length = len) (hm : len ≤ maxLen) :
    Calls Try.prog 70 #[.slice a len cap, .int .i64 n] w fun e w' => IdxZ (!hasB zs n) e ∧ w = w' := by
  unfold maxLen at hm
  have HI := Lib.hid h
  have HZ := Lib.hid hz
  clear h hz
  go_enter Try.func70, Try.ntmps70
  go_wp2
  go_loop [8] (fun i => ∃ k : Nat, k ≤ len ∧ i = .int .i64 k ∧ NotTo zs n k) (fun i => len - (intOf i).toNat)
  case atStart => exact ⟨0, by omega, rfl, notTo_zero _ _⟩
  case round =>
    obtain ⟨k, hk, rfl, hn⟩ := hrel
    have HN := Lib.hid hn
    clear hn
    by_cases hlt : k < len
    · obtain ⟨b, off, ha, hb0, hcells⟩ := HI.out.cellZ (by rw [HZ.out]; omega)
      have hc := hcells k (by rw [HZ.out]; exact hlt)
      subst ha
      clear hcells
      rcases he : (n == gt zs k) with _ | _
      · have he' : ¬ gt zs k = n := by intro e; rw [e] at he; simp at he
        have HE := Lib.hid he'
        clear he'
        go_wp2
        go_round
        case rel => exact ⟨k + 1, by omega, by go_num, notTo_succ HN.out HE.out⟩
        case measure => simp [intOf]; omega
      · have he' : gt zs k = n := by have := he; simp at this; exact this.symm
        have HE := Lib.hid he'
        clear he'
        have HR : Hid (IdxZ (!hasB zs n) (.returned (.int .i64 (k : Nat)))) := .inl ⟨by rw [has_at (by rw [HZ.out]; exact hlt) HE.out]; rfl, k, rfl⟩
        go_wp2
        go_ret
        exact ⟨HR.out, rfl⟩
    · have HR : Hid (IdxZ (!hasB zs n) (.returned (.int .i64 (-1)))) := .inr ⟨by rw [has_none (by rw [HZ.out, show len = k by omega]; exact HN.out)]; rfl, rfl⟩
      go_wp2
      go_ret
      exact ⟨HR.out, rfl⟩
set_option maxHeartbeats 1000000 in
theorem ctnC_as (v : Bool) (a : Option Addr) (len cap : Nat) (zs : List Int) (n : Int) (w : World) (h : IntsAt w a zs) (hz : zs.length = len) (hm : len ≤ maxLen) (hv : hasB zs n = v) :
    Calls Try.prog 66 #[.slice a len cap, .int .i64 n] w fun e w' => e = .returned (.bool v) ∧ w = w' := by
  have HI := Lib.hid h
  have HZ := Lib.hid hz
  have HM := Lib.hid hm
  have HV := Lib.hid hv
  clear h hz hm hv
  go_enter Try.func66, Try.ntmps66
  go_wp2_with fail
  refine (idxC_any a len cap zs n w HI.out HZ.out HM.out).mono ?_
  rintro e w' ⟨⟨hw, k, rfl⟩ | ⟨hw, rfl⟩, rfl⟩
  · have k0 : (0 : Int) ≤ (k : Int) := by omega
    have HW := Lib.hid (show hasB zs n = true by simpa using hw)
    clear hw
    go_wp2
    go_ret
    exact ⟨by rw [← HV.out, HW.out]; rfl, rfl⟩
  · have HW := Lib.hid (show hasB zs n = false by simpa using hw)
    clear hw
    go_wp2
    go_ret
    exact ⟨by rw [← HV.out, HW.out]; rfl, rfl⟩
/-- a variable that holds positions -/
structure VarI (w : World) (vb : Nat) (s2 : Option Addr) (len2 cap2 : Nat) (bad : List Int) : Prop where
  cell : w.cell? ⟨vb, 0, none⟩ = some (.slice s2 len2 cap2)
  ints : IntsAt w s2 bad
  len : bad.length = len2
  max : len2 ≤ maxLen
set_option maxHeartbeats 1000000 in
theorem meet1_as (v : Bool) (vb : Nat) (s2 : Option Addr) (len2 cap2 : Nat) (bad : List Int) (n : Int) (w : World) (h : VarI w vb s2 len2 cap2 bad) (hv : hasB bad n = v) :
    Calls Try.prog 65 #[.int .i64 n, .pointer (some ⟨vb, 0, none⟩)] w fun e w' => e = .returned (.bool v) ∧ w = w' := by
  have HH := Lib.hid h
  have HV := Lib.hid hv
  have hc := h.cell
  clear h hv
  go_enter Try.func65, Try.ntmps65
  go_wp2_with fail
  refine (ctnC_as v s2 len2 cap2 bad n w HH.out.ints HH.out.len HH.out.max HV.out).mono ?_
  rintro e w' ⟨rfl, rfl⟩
  go_wp2
  go_ret
  exact ⟨rfl, rfl⟩

set_option maxRecDepth 20000 in
set_option maxHeartbeats 1000000 in
theorem idxM_any (a : Option Addr) (len cap : Nat) (zs : List Int) (vb : Nat) (s2 : Option Addr) (len2 cap2 : Nat) (bad : List Int) (w : World) (h : IntsAt w a zs) (hz : zs.length = len) (hm : len ≤ maxLen) (h2 : VarI w vb s2 len2 cap2 bad) :
    Calls Try.prog 69 #[.slice a len cap, .func (.func 65) #[] #[.pointer (some ⟨vb, 0, none⟩)]] w fun e w' => IdxZ (hoB bad zs) e ∧ w = w' := by
  have HI := Lib.hid h
  have HZ := Lib.hid hz
  unfold maxLen at hm
  clear h hz
  have H2 := Lib.hid h2
  clear h2
  go_enter Try.func69, Try.ntmps69
  go_wp2
  go_loop [8] (fun i => ∃ k : Nat, k ≤ len ∧ i = .int .i64 k ∧ Hid (∀ j, j < k → hasB bad (gt zs j) = false)) (fun i => len - (intOf i).toNat)
  case atStart => exact ⟨0, by omega, rfl, fun j hj => by omega⟩
  case round =>
    obtain ⟨k, hk, rfl, HA⟩ := hrel
    by_cases hlt : k < len
    · obtain ⟨bb, off, rfl, hb0, hcells⟩ := HI.out.cellZ (by rw [HZ.out]; omega)
      have hc := hcells k (by rw [HZ.out]; exact hlt)
      have k0 : (0 : Int) ≤ (k : Int) := by omega
      have k1 : (k : Int) < (len : Int) := by omega
      clear hcells
      obtain ⟨x, hx⟩ : ∃ x, x = gt zs k := ⟨_, rfl⟩
      rw [← hx] at hc
      have HX := Lib.hid hx
      clear hx
      cases hq : hasB bad x
      · have HQ := Lib.hid hq
        clear hq
        go_wp2_with fail
        refine (meet1_as false vb s2 len2 cap2 bad x w H2.out HQ.out).mono ?_
        rintro e w' ⟨rfl, rfl⟩
        go_wp2
        go_round
        case rel => exact ⟨k + 1, by omega, by go_num, fun j hj => by rcases Nat.lt_or_ge j k with h' | h'; exact HA.out j h'; obtain rfl : j = k := (by omega); rw [← HX.out]; exact HQ.out⟩
        case measure => simp [intOf]; omega
      · have HQ := Lib.hid hq
        have HR : Hid (IdxZ (hoB bad zs) (.returned (.int .i64 (k : Nat)))) := .inl ⟨hoB_no (by rw [HZ.out]; exact hlt) (by rw [← HX.out]; exact HQ.out), k, rfl⟩
        clear hq
        go_wp2_with fail
        refine (meet1_as true vb s2 len2 cap2 bad x w H2.out HQ.out).mono ?_
        rintro e w' ⟨rfl, rfl⟩
        go_wp2
        go_ret
        exact ⟨HR.out, rfl⟩
    · have HR : Hid (IdxZ (hoB bad zs) (.returned (.int .i64 (-1)))) := .inr ⟨(hoB_iff _ _).2 fun i hi => HA.out i (by rw [HZ.out] at hi; omega), rfl⟩
      go_wp2
      go_ret
      exact ⟨HR.out, rfl⟩
set_option maxHeartbeats 400000 in
theorem ctnM_as (v : Bool) (a : Option Addr) (len cap : Nat) (zs : List Int) (vb : Nat) (s2 : Option Addr) (len2 cap2 : Nat) (bad : List Int) (w : World) (h : IntsAt w a zs) (hz : zs.length = len) (hm : len ≤ maxLen) (h2 : VarI w vb s2 len2 cap2 bad) (hv : (hoB bad zs) = v) :
    Calls Try.prog 64 #[.slice a len cap, .func (.func 65) #[] #[.pointer (some ⟨vb, 0, none⟩)]] w fun e w' => e = .returned (.bool (!v)) ∧ w = w' := by
  have HI := Lib.hid h
  have HZ := Lib.hid hz
  have HM := Lib.hid hm
  have HV := Lib.hid hv
  clear h hz hm hv
  have H2 := Lib.hid h2
  clear h2
  go_enter Try.func64, Try.ntmps64
  go_wp2_with fail
  refine (idxM_any a len cap zs vb s2 len2 cap2 bad w HI.out HZ.out HM.out H2.out).mono ?_
  rintro e w' ⟨⟨hw, k, rfl⟩ | ⟨hw, rfl⟩, rfl⟩
  · have k0 : (0 : Int) ≤ (k : Int) := by omega
    have HW := Lib.hid hw
    clear hw
    go_wp2
    go_ret
    exact ⟨by rw [← HV.out, HW.out]; rfl, rfl⟩
  · have HW := Lib.hid hw
    clear hw
    go_wp2
    go_ret
    exact ⟨by rw [← HV.out, HW.out]; rfl, rfl⟩

set_option maxHeartbeats 1000000 in
theorem meets_as (v : Bool) (a : Option Addr) (len cap : Nat) (zs : List Int) (s2 : Option Addr) (len2 cap2 : Nat) (bad : List Int) (w : World) (h : IntsAt w a zs) (hz : zs.length = len) (hm : len ≤ maxLen) (h2 : IntsAt w s2 bad) (hz2 : bad.length = len2) (hm2 : len2 ≤ maxLen) (hv : hoB bad zs = v) :
    Calls Try.prog 55 #[.slice a len cap, .slice s2 len2 cap2] w fun e w' => e = .returned (.bool (!v)) ∧ Below w.heap.size w w' := by
  obtain ⟨W, hW⟩ : ∃ W, W = w.alloc (.cells #[.slice s2 len2 cap2] 34) := ⟨_, rfl⟩
  have hWb : Below w.heap.size w W := by rw [hW]; exact alZ _ _
  have HC : Hid (VarI W w.heap.size s2 len2 cap2 bad) := ⟨by rw [hW]; simp, h2.keepB hWb (Nat.le_refl _), hz2, hm2⟩
  have HI := Lib.hid (h.keepB hWb (Nat.le_refl _))
  have HZ := Lib.hid hz
  have HM := Lib.hid hm
  have HV := Lib.hid hv
  have HW := Lib.hid hW
  have HB := Lib.hid hWb
  clear h hz hm h2 hz2 hm2 hv hW hWb
  go_enter Try.func55, Try.ntmps55
  go_wp2_with fail
  rw [← HW.out]
  refine (ctnM_as v a len cap zs w.heap.size s2 len2 cap2 bad W HI.out HZ.out HM.out HC.out HV.out).mono ?_
  rintro e w' ⟨rfl, rfl⟩
  go_wp2
  go_ret
  exact ⟨rfl, HB.out⟩

set_option maxRecDepth 20000 in
set_option maxHeartbeats 2000000 in
theorem phon_any (a : Option Addr) (len cap : Nat) (ps : List (List Int)) (s2 : Option Addr) (len2 cap2 : Nat) (bad : List Int) (w : World) (h : SsAt w a ps) (hz : ps.length = len) (hm : len ≤ maxLen) (h2 : IntsAt w s2 bad) (hz2 : bad.length = len2) (hm2 : len2 ≤ maxLen) :
    Calls Try.prog 35 #[.slice a len cap, .slice s2 len2 cap2] w fun e w' => e = .returned (.int .i64 (honR ps bad)) ∧ Below w.heap.size w w' := by
  have HI := Lib.hid h
  have HZ := Lib.hid hz
  have HM := Lib.hid hm
  have HI2 := Lib.hid h2
  have HZ2 := Lib.hid hz2
  have HM2 := Lib.hid hm2
  unfold maxLen at hm hm2
  clear h hz h2 hz2
  cases hv : pvB ps
  · have HV := Lib.hid hv
    have HR := Lib.hid (honR_bad (bad := bad) hv)
    clear hv
    go_enter Try.func35, Try.ntmps35
    go_wp2_with fail
    refine (arePs_as false a len cap ps w HI.out HZ.out HM.out HV.out).mono ?_
    rintro e w' ⟨rfl, rfl⟩
    go_wp2
    go_ret
    exact ⟨ret_i (by rw [HR.out]), Below.refl _ _⟩
  have HV := Lib.hid hv
  have HR := Lib.hid (honR_ok (bad := bad) hv)
  clear hv
  go_enter Try.func35, Try.ntmps35
  go_wp2_with fail
  refine (arePs_as true a len cap ps w HI.out HZ.out HM.out HV.out).mono ?_
  rintro e w' ⟨rfl, rfl⟩
  go_wp2
  go_loopw [5, 13] (fun t i wr => ∃ k : Nat, k ≤ len ∧ i = .int .i64 k ∧ t = .int .i64 (hcN bad ps k : Nat) ∧ Below w.heap.size w wr) (fun _ i _ => len - (intOf i).toNat)
  case atStart => exact ⟨0, by omega, rfl, rfl, Below.refl _ _⟩
  case round =>
    obtain ⟨k, hk, rfl, rfl, hbel⟩ := hrel
    have HB := Lib.hid hbel
    have HS : Hid (hcN bad ps (k + 1) = hcN bad ps k + if hoB bad (gl ps k) = true then 1 else 0) := rfl
    have hle := hcN_le bad ps k
    obtain ⟨t, ht⟩ : ∃ t, t = hcN bad ps k := ⟨_, rfl⟩
    rw [← ht] at HS hle ⊢
    have HTT := Lib.hid ht
    clear ht
    by_cases hlt : k < len
    · obtain ⟨b, off, rfl, hb0, hrows⟩ := (HI.out.keepB hbel (Nat.le_refl _)).row (by rw [HZ.out]; omega)
      obtain ⟨ai, ci, hc, hints, hl, hci⟩ := hrows k (by rw [HZ.out]; exact hlt)
      have HT := Lib.hid hints
      have HI3 := Lib.hid (HI2.out.keepB hbel (Nat.le_refl _))
      have k0 : (0 : Int) ≤ (k : Int) := by omega
      have k1 : (k : Int) < (len : Int) := by omega
      obtain ⟨n, hn⟩ : ∃ n, (gl ps k).length = n := ⟨_, rfl⟩
      rw [hn] at hc hl
      have HL := Lib.hid hn
      have HMX := Lib.hid (Nat.le_trans hl hci)
      clear hrows hints hn hci hbel
      cases hq : hoB bad (gl ps k)
      · have HQ := Lib.hid hq
        have HN : Hid (hcN bad ps (k + 1) = t) := by show _ = _; rw [HS.out, if_neg (by rw [hq]; decide)]; rfl
        clear hq
        go_wp2_with fail
        refine (meets_as false ai n ci (gl ps k) s2 len2 cap2 bad wr HT.out HL.out HMX.out HI3.out HZ2.out HM2.out HQ.out).mono ?_
        rintro e w2 ⟨rfl, hb2⟩
        have HB2 := Lib.hid hb2
        clear hb2 hc
        go_wp2
        go_roundw
        case rel => exact ⟨k + 1, by omega, by go_num, by rw [HN.out], HB.out.trans (HB2.out.mono HB.out.size)⟩
        case measure => simp [intOf]; omega
      · have HQ := Lib.hid hq
        have HN : Hid (hcN bad ps (k + 1) = t + 1) := by show _ = _; rw [HS.out, if_pos hq]
        clear hq
        go_wp2_with fail
        refine (meets_as true ai n ci (gl ps k) s2 len2 cap2 bad wr HT.out HL.out HMX.out HI3.out HZ2.out HM2.out HQ.out).mono ?_
        rintro e w2 ⟨rfl, hb2⟩
        have HB2 := Lib.hid hb2
        clear hb2 hc
        go_wp2
        go_roundw
        case rel => exact ⟨k + 1, by omega, by go_num, by rw [HN.out]; go_num, HB.out.trans (HB2.out.mono HB.out.size)⟩
        case measure => simp [intOf]; omega
    · obtain rfl : k = len := by omega
      clear hbel
      go_wp2
      go_ret
      exact ⟨ret_i (by rw [HR.out, HTT.out, HZ.out]), HB.out⟩

/-! disjoint paths -/
theorem hasB_iffZ {zs : List Int} {n : Int} : hasB zs n = true ↔ ∃ k, k < zs.length ∧ gt zs k = n := ⟨fun h => by obtain ⟨i, hi, he⟩ := List.getElem_of_mem ((hasB_iff _ _).1 h); exact ⟨i, hi, by rw [gt_get hi]; exact he⟩, fun ⟨k, h1, h2⟩ => has_at h1 h2⟩
theorem hoB_symm {ys zs : List Int} (h : hoB ys zs = true) : hoB zs ys = true := by
  rw [hoB_iff] at h ⊢
  intro k hk
  rcases hb : hasB zs (gt ys k) with _ | _
  · rfl
  · obtain ⟨j, hj, he⟩ := hasB_iffZ.1 hb
    have := h j hj
    rw [he, has_at hk rfl] at this
    cases this
/-- no path has a node of a later one -/
def djQ (ps : List (List Int)) (n : Nat) : Prop := ∀ i, i < n → ∀ j, i < j → j < ps.length → hoB (gl ps j) (gl ps i) = true
theorem djQ_all {ps : List (List Int)} (h : djQ ps ps.length) : djP ps := by
  intro i hi k hk j hj
  exact (hoB_iff _ _).1 (hoB_symm (h j (by omega) i hj hi)) k hk
theorem djQ_no {ps : List (List Int)} {i j : Nat} (hij : i < j) (hj : j < ps.length) (h : hoB (gl ps j) (gl ps i) = false) : djR ps = false := by
  rcases hb : djR ps with _ | _
  · rfl
  · obtain ⟨_, hp⟩ := djR_iff.1 hb
    have : hoB (gl ps i) (gl ps j) = true := (hoB_iff _ _).2 fun k hk => hp j hj k hk i hij
    rw [hoB_symm this] at h; cases h
def slP (a : Option Addr) (cap l : Nat) : Option Addr := if cap = l then a else a.map (·.add l)
theorem slP_size (w : World) : (Go.sizeOf 34).run Try.prog w = .ok 1 w := by kernel_rfl
theorem run_slP (w : World) (a : Option Addr) (len cap l : Nat) (h1 : l ≤ len) :
    (Instr.slice 31 (.slice a len cap) (some (.int .i64 l)) none none).run Try.prog w = .ok (.slice (slP a cap l) (len - l) (cap - l)) w := by
  have e : Try.prog.underlying 31 = some (.slice (Try.prog.elem 31)) := Try.underlying31
  rw [run_slice_l _ _ _ _ _ e _ _ (by omega) (by omega)]
  have hs : (sizeOf (Try.prog.elem 31)).run Try.prog w = .ok 1 w := slP_size w
  rw [hs]
  simp [Result.andThen, sliced, slP]

set_option maxRecDepth 20000 in
set_option maxHeartbeats 2000000 in
theorem pdj_any (a : Option Addr) (len cap : Nat) (ps : List (List Int)) (w : World) (h : SsAt w a ps) (hz : ps.length = len) (hm : len ≤ maxLen) (hcp : len ≤ cap) :
    Calls Try.prog 28 #[.slice a len cap] w fun e w' => e = .returned (.bool (djR ps)) ∧ Below w.heap.size w w' := by
  have HI := Lib.hid h
  have HZ := Lib.hid hz
  have HM := Lib.hid hm
  unfold maxLen at hm
  clear h hz
  cases hv : pvB ps
  · have HV := Lib.hid hv
    have HR := Lib.hid (djR_bad hv)
    clear hv
    go_enter Try.func28, Try.ntmps28
    go_wp2_with fail
    refine (arePs_as false a len cap ps w HI.out HZ.out HM.out HV.out).mono ?_
    rintro e w' ⟨rfl, rfl⟩
    go_wp2
    go_ret
    exact ⟨ret_bool HR.out.symm, Below.refl _ _⟩
  have HV := Lib.hid hv
  clear hv
  go_enter Try.func28, Try.ntmps28
  go_wp2_with fail
  refine (arePs_as true a len cap ps w HI.out HZ.out HM.out HV.out).mono ?_
  rintro e w' ⟨rfl, rfl⟩
  go_wp2
  go_loopw [12] (fun i wr => ∃ k : Nat, k ≤ len ∧ i = .int .i64 k ∧ Hid (djQ ps k) ∧ Below w.heap.size w wr) (fun i _ => len - (intOf i).toNat)
  case atStart => exact ⟨0, by omega, rfl, fun j hj => by omega, Below.refl _ _⟩
  case round =>
    obtain ⟨k, hk, rfl, HN, hbel⟩ := hrel
    have HB := Lib.hid hbel
    by_cases hlt : k < len
    · obtain ⟨b, off, rfl, hb0, hrows⟩ := (HI.out.keepB hbel (Nat.le_refl _)).row (by rw [HZ.out]; omega)
      have HROW := Lib.hid hrows
      obtain ⟨ai, ci, hc, hints, hl, hci⟩ := hrows k (by rw [HZ.out]; exact hlt)
      have HT := Lib.hid hints
      have k0 : (0 : Int) ≤ (k : Int) := by omega
      have k1 : (k : Int) < (len : Int) := by omega
      obtain ⟨n, hn⟩ : ∃ n, (gl ps k).length = n := ⟨_, rfl⟩
      rw [hn] at hc hl
      have HL := Lib.hid hn
      have HMX := Lib.hid (Nat.le_trans hl hci)
      have HCP := Lib.hid hcp
      have hs := fun (w : World) => (by have := run_slP w (some ⟨b, off, none⟩) len cap (k + 1) (by omega); rwa [show ((k + 1 : Nat) : Int) = (k : Int) + 1 by omega] at this : (Instr.slice 31 (.slice (some ⟨b, off, none⟩) len cap) (some (.int .i64 ((k : Int) + 1))) none none).run Try.prog w = .ok (.slice (slP (some ⟨b, off, none⟩) cap (k + 1)) (len - (k + 1)) (cap - (k + 1))) w)
      obtain ⟨r, hr⟩ : ∃ r, len - (k + 1) = r := ⟨_, rfl⟩
      obtain ⟨cr, hcr⟩ : ∃ r, cap - (k + 1) = r := ⟨_, rfl⟩
      obtain ⟨W, rfl⟩ : ∃ x, x = wr := ⟨_, rfl⟩
      have HB0 := Lib.hid hb0
      clear hrows hints hn hci hbel hb0
      obtain ⟨sa, hsa⟩ : ∃ sa, slP (some ⟨b, off, none⟩) cap (k + 1) = sa := ⟨_, rfl⟩
      have HSA : Hid (k + 1 < len → sa = some ⟨b, off + (k + 1), none⟩) := fun h => by rw [← hsa]; unfold slP; rw [if_neg (by omega)]; rfl
      rw [hsa, hr, hcr] at hs
      have HRR := Lib.hid hr
      clear hsa hcr hr
      go_wp2
      go_loopw [22] (fun i wr => ∃ q : Nat, q + (k + 1) ≤ len ∧ i = .int .i64 q ∧ Hid (∀ j, j < q → hoB (gl ps (k + 1 + j)) (gl ps k) = true) ∧ Below w.heap.size w wr ∧ Below W.heap.size W wr) (fun i _ => len - (intOf i).toNat)
      case atStart => exact ⟨0, by omega, rfl, fun j hj => by omega, HB.out, Below.refl _ _⟩
      case round =>
        obtain ⟨q, hq, rfl, HQ, hb2, hb3⟩ := hrel
        have HB2 := Lib.hid hb2
        have HB3 := Lib.hid hb3
        by_cases hql : q + (k + 1) < len
        · have hse := HSA.out (by omega)
          subst hse
          obtain ⟨aj, cj, hcj, hintsj, hlj, hcij⟩ := HROW.out (k + 1 + q) (by rw [HZ.out]; omega)
          obtain ⟨m, hm'⟩ : ∃ m, (gl ps (k + 1 + q)).length = m := ⟨_, rfl⟩
          rw [hm'] at hcj hlj
          have HLJ := Lib.hid hm'
          have HMJ := Lib.hid (Nat.le_trans hlj hcij)
          have HTJ := Lib.hid (hintsj.keepB hb3 (Nat.le_refl _))
          have HTK := Lib.hid (HT.out.keepB hb3 (Nat.le_refl _))
          have d3 : wr.cell? ⟨b, off + (k + 1) + q, none⟩ = some (.slice aj m cj) := by
            rw [show off + (k + 1) + q = off + (k + 1 + q) by omega]; exact (hb3.cell (p := ⟨b, off + (k + 1 + q), none⟩) HB0.out).trans hcj
          have q0 : (0 : Int) ≤ (q : Int) := by omega
          have q1 : (q : Int) < (r : Int) := by have := HRR.out; omega
          clear hintsj hm' hcij hb2 hb3
          cases hp : hoB (gl ps (k + 1 + q)) (gl ps k)
          · have HP := Lib.hid hp
            have HR : Hid (djR ps = false) := djQ_no (i := k) (j := k + 1 + q) (by omega) (by rw [HZ.out]; omega) hp
            clear hp
            go_wp2_with fail
            refine (meets_as false ai n ci (gl ps k) aj m cj (gl ps (k + 1 + q)) wr HTK.out HL.out HMX.out HTJ.out HLJ.out HMJ.out HP.out).mono ?_
            rintro e w4 ⟨rfl, hb4⟩
            have HB4 := Lib.hid hb4
            clear hb4 d3
            go_wp2
            go_ret
            exact ⟨ret_bool HR.out.symm, HB2.out.trans (HB4.out.mono HB2.out.size)⟩
          · have HP := Lib.hid hp
            clear hp
            go_wp2_with fail
            refine (meets_as true ai n ci (gl ps k) aj m cj (gl ps (k + 1 + q)) wr HTK.out HL.out HMX.out HTJ.out HLJ.out HMJ.out HP.out).mono ?_
            rintro e w4 ⟨rfl, hb4⟩
            have HB4 := Lib.hid hb4
            clear hb4 d3
            go_wp2
            go_roundw
            case rel => exact ⟨q + 1, by omega, by go_num, fun p hp => by rcases Nat.lt_or_ge p q with h' | h'; exact HQ.out p h'; obtain rfl : p = q := (by omega); exact HP.out, HB2.out.trans (HB4.out.mono HB2.out.size), HB3.out.trans (HB4.out.mono HB3.out.size)⟩
            case measure => simp [intOf]; omega
        · have HQ2 : Hid (djQ ps (k + 1)) := by
            intro i hi j hij hj
            rcases Nat.lt_or_ge i k with h' | h'
            · exact HN.out i h' j hij hj
            · obtain rfl : i = k := by omega
              have := HQ.out (j - (i + 1)) (by rw [HZ.out] at hj; omega)
              rwa [show i + 1 + (j - (i + 1)) = j by omega] at this
          have q1 : ¬ (q : Int) < (r : Int) := by have := HRR.out; omega
          clear hb2 hb3
          go_wp2
          go_roundw
          case rel => exact ⟨k + 1, by omega, by go_num, HQ2, HB2.out⟩
          case measure => simp [intOf]; omega
    · obtain rfl : k = len := by omega
      have HR : Hid (djR ps = true) := djR_yes HV.out (djQ_all (by rw [HZ.out]; exact HN.out))
      clear hbel
      go_wp2
      go_ret
      exact ⟨ret_bool HR.out.symm, HB.out⟩
end Go.Proofs.Ytblhaccjngjekaa
