/- The program: valid tokens and tables, weights in range. -/
import Derived.Test.YtidabcdaodlfeaaPlR
namespace Go.Proofs.Ytidabcdaodlfeaa
open Go.RowKit
set_option linter.unusedVariables false
attribute [local go_sem ↓] Go.wp_at_zero Go.wp_at_succ

/-- a token whose numbers are positions -/
def tkvB (x : Tk) : Bool := ptB x.p && ptB x.n
theorem tkvB_iff (x : Tk) : tkvB x = true ↔ ptB x.p = true ∧ ptB x.n = true := by simp [tkvB]
theorem tbB_no_tk {L : List Tk} {k : Nat} (hk : k < L.length) (h : tkvB (gk L k) = false) : tbB L = false := by
  cases hp : ptB (gk L k).p
  · exact tbB_no_p hk hp
  · exact tbB_no_n hk (by simpa [tkvB, hp] using h)
theorem okKTo_z2 {L : List Tk} (h : tkvB (gk L 0) = true) : okKTo L 1 = true := okKTo_z ((tkvB_iff _).1 h).1 ((tkvB_iff _).1 h).2
theorem okKTo_s2 {L : List Tk} {j : Nat} (h : okKTo L (j + 1) = true) (h2 : tkvB (gk L (j + 1)) = true) (hl : (gk L j).p < (gk L (j + 1)).p) : okKTo L (j + 1 + 1) = true := okKTo_s h ((tkvB_iff _).1 h2).1 ((tkvB_iff _).1 h2).2 hl

set_option maxHeartbeats 400000 in
theorem tvalid_any (x : Tk) (w : World) :
    Calls Try.prog 77 #[.agg #[.int .i64 x.p, .int .i64 x.n]] w fun e w' => e = .returned (.bool (tkvB x)) ∧ Below w.heap.size w w' := by
  obtain ⟨p, n⟩ := x
  simp only at *
  have HB := Lib.hid (alB w)
  cases h1 : ptB p
  · have He : Hid (tkvB ⟨p, n⟩ = false) := by show tkvB _ = _; simp [tkvB, h1]
    go_enter Try.func77, Try.ntmps77
    go_wp2_with (first | (go_at_call 48; refine (valid_any _ _).mono ?_; rintro e w' ⟨rfl, rfl⟩))
    go_ret
    exact ⟨ret_bool He.out.symm, HB.out _⟩
  · have He : Hid (tkvB ⟨p, n⟩ = ptB n) := by show tkvB _ = _; simp [tkvB, h1]
    go_enter Try.func77, Try.ntmps77
    go_wp2_with (first | (go_at_call 48; refine (valid_any _ _).mono ?_; rintro e w' ⟨rfl, rfl⟩))
    go_ret
    exact ⟨ret_bool He.out.symm, HB.out _⟩
theorem tvalid_as (v : Bool) (x : Tk) (w : World) (hv : tkvB x = v) :
    Calls Try.prog 77 #[.agg #[.int .i64 x.p, .int .i64 x.n]] w fun e w' => e = .returned (.bool v) ∧ Below w.heap.size w w' := by subst hv; exact tvalid_any x w


set_option maxHeartbeats 1000000 in
theorem isTb_any (a : Option Addr) (len cap : Nat) (L : List Tk) (w : World) (h : TkAt w a L) (hz : L.length = len) (hm : len ≤ maxLen) :
    Calls Try.prog 60 #[.slice a len cap] w fun e w' => e = .returned (.bool (tbB L)) ∧ Below w.heap.size w w' := by
  have HI := Lib.hid h
  have HZ := Lib.hid hz
  unfold maxLen at hm
  clear h hz
  go_enter Try.func60, Try.ntmps60
  go_wp2
  go_loopw [7] (fun i wr => ∃ k : Nat, k ≤ len ∧ i = .int .i64 k ∧ okKTo L k = true ∧ Below w.heap.size w wr) (fun i _ => len - (intOf i).toNat)
  case atStart => exact ⟨0, by omega, rfl, rfl, Below.refl _ _⟩
  case round =>
    obtain ⟨k, hk, rfl, hall, hbel⟩ := hrel
    have HA := Lib.hid hall
    clear hall
    by_cases hlt : k < len
    · obtain ⟨b, off, rfl, hb0, hcells⟩ := (HI.out.keepB hbel (Nat.le_refl _)).at_ (i := k) (by rw [HZ.out]; exact hlt)
      obtain ⟨hc0, hc1⟩ := hcells k (by rw [HZ.out]; exact hlt)
      have HN := Lib.hid hcells
      clear hcells
      have hkL : Hid (k < L.length) := by show k < L.length; rw [HZ.out]; exact hlt
      have HBW := Lib.hid (alB wr)
      obtain ⟨W, hW⟩ : ∃ W, W = wr.alloc (.cells #[.int .i64 (gk L k).p, .int .i64 (gk L k).n] 35) := ⟨_, rfl⟩
      have hWb : Below wr.heap.size wr W := by rw [hW]; exact HBW.out _
      have hWs : wr.heap.size < W.heap.size := by rw [hW]; simp
      have hW0 : ∀ x : Cls (Below W.heap.size W), x.to.cell? ⟨wr.heap.size, 0, none⟩ = some (.int .i64 (gk L k).p) := fun x => (x.ok.cell (p := ⟨wr.heap.size, 0, none⟩) hWs).trans (by rw [hW]; simp)
      have hW1 : ∀ x : Cls (Below W.heap.size W), x.to.cell? ⟨wr.heap.size, 1, none⟩ = some (.int .i64 (gk L k).n) := fun x => (x.ok.cell (p := ⟨wr.heap.size, 1, none⟩) hWs).trans (by rw [hW]; simp)
      have HW := Lib.hid hW
      clear hW
      cases hn : tkvB (gk L k)
      · have HNV := Lib.hid hn
        clear hn
        go_wp2_with fail
        rw [← HW.out]
        refine wp_region_cls (Below W.heap.size W) (by kernel_rfl) (by kernel_rfl) below_drawn ?_
        repeat (go_big_quiet_step ((go_at_call 77; rename_i x; exact cls_below (tvalid_as false (gk L k) _ HNV.out) x.ok (Nat.le_refl _))))
        refine wpQuiet_nil ?_
        intro w2 hw'
        have hb2 := cls_out hw'
        clear hw'
        have hbel2 : Below w.heap.size w w2 := hbel.trans ((hWb.trans (hb2.mono (by omega))).mono hbel.size)
        clear hW0 hW1
        go_wp2
        go_ret
        exact ⟨ret_bool (tbB_no_tk hkL.out HNV.out).symm, hbel2⟩
      · have HNV := Lib.hid hn
        clear hn
        by_cases hk0 : k = 0
        · have hk00 : decide (0 < (k : Int)) = false := by simp; omega
          have hk01 : decide (0 < k) = false := by simp; omega
          have HK := Lib.hid hk0
          clear hk0
          go_wp2_with fail
          rw [← HW.out]
          refine wp_region_cls (Below W.heap.size W) (by kernel_rfl) (by kernel_rfl) below_drawn ?_
          repeat (go_big_quiet_step ((go_at_call 77; rename_i x; exact cls_below (tvalid_as true (gk L k) _ HNV.out) x.ok (Nat.le_refl _))))
          refine wpQuiet_nil ?_
          intro w2 hw'
          have hb2 := cls_out hw'
          clear hw'
          have hbel2 : Below w.heap.size w w2 := hbel.trans ((hWb.trans (hb2.mono (by omega))).mono hbel.size)
          clear hW0 hW1 hk00 hk01
          go_wp2
          go_roundw
          case rel => exact ⟨k + 1, by omega, by go_num, by have hn := HNV.out; have hk := HK.out; subst hk; exact okKTo_z2 hn, hbel2⟩
          case measure => simp [intOf]; omega
        · have hk1 : ((k : Int) - 1).toNat = k - 1 := by omega
          obtain ⟨hd0, hd1⟩ := HN.out (k - 1) (by rw [HZ.out]; omega)
          have hD0 : ∀ x : Cls (Below W.heap.size W), x.to.cell? ⟨b, off + (k - 1) * 2, none⟩ = some (.int .i64 (gk L (k - 1)).p) := fun x => ((hWb.trans (x.ok.mono (by omega))).cell (p := ⟨b, off + (k - 1) * 2, none⟩) hb0).trans hd0
          have hkp : 0 < k := by omega
          have hki : (1 : Int) ≤ (k : Int) := by omega
          by_cases hle : (gk L k).p ≤ (gk L (k - 1)).p
          · have HL := Lib.hid hle
            go_wp2_with fail
            rw [← HW.out]
            refine wp_region_cls (Below W.heap.size W) (by kernel_rfl) (by kernel_rfl) below_drawn ?_
            repeat (go_big_quiet_step ((go_at_call 77; rename_i x; exact cls_below (tvalid_as true (gk L k) _ HNV.out) x.ok (Nat.le_refl _))))
            refine wpQuiet_nil ?_
            intro w2 hw'
            have hb2 := cls_out hw'
            clear hw'
            have hbel2 : Below w.heap.size w w2 := hbel.trans ((hWb.trans (hb2.mono (by omega))).mono hbel.size)
            clear hW0 hW1
            clear hD0
            go_wp2
            go_ret
            exact ⟨ret_bool (tbB_no_lt (j := k - 1) (by have := hkL.out; omega) (by rw [show k - 1 + 1 = k by omega]; exact HL.out)).symm, hbel2⟩
          · have hle' : (gk L (k - 1)).p < (gk L k).p := by omega
            have HL := Lib.hid hle'
            go_wp2_with fail
            rw [← HW.out]
            refine wp_region_cls (Below W.heap.size W) (by kernel_rfl) (by kernel_rfl) below_drawn ?_
            repeat (go_big_quiet_step ((go_at_call 77; rename_i x; exact cls_below (tvalid_as true (gk L k) _ HNV.out) x.ok (Nat.le_refl _))))
            refine wpQuiet_nil ?_
            intro w2 hw'
            have hb2 := cls_out hw'
            clear hw'
            have hbel2 : Below w.heap.size w w2 := hbel.trans ((hWb.trans (hb2.mono (by omega))).mono hbel.size)
            clear hW0 hW1
            clear hD0
            go_wp2
            go_roundw
            case rel =>
              refine ⟨k + 1, by omega, by go_num, ?_, hbel2⟩
              have h1 := HA.out
              have h2 := HNV.out
              have h3 := HL.out
              obtain ⟨j, rfl⟩ : ∃ j, k = j + 1 := ⟨k - 1, by omega⟩
              exact okKTo_s2 h1 h2 h3
            case measure => simp [intOf]; omega
    · have hkl : k = len := by omega
      have HK := Lib.hid hkl
      have He : Hid (tbB L = decide (0 < L.length)) := tbB_all (by rw [HZ.out, ← HK.out]; exact HA.out)
      clear hkl
      go_wp2
      all_goals
        go_ret
        exact ⟨ret_bool (by first | (rw [He.out, HZ.out, Bool.eq_iff_iff]; done) | (rw [He.out, HZ.out, Bool.eq_iff_iff]; simp; done) | (rw [He.out, HZ.out, Bool.eq_iff_iff]; simp; omega)), hbel⟩

theorem isTb_as (v : Bool) (a : Option Addr) (len cap : Nat) (L : List Tk) (w : World) (h : TkAt w a L) (hz : L.length = len) (hm : len ≤ maxLen) (hv : tbB L = v) :
    Calls Try.prog 60 #[.slice a len cap] w fun e w' => e = .returned (.bool v) ∧ Below w.heap.size w w' := by subst hv; exact isTb_any a len cap L w h hz hm

set_option maxHeartbeats 400000 in
theorem isW_any (n : Int) (w : World) :
    Calls Try.prog 49 #[.int .i64 n] w fun e w' => e = .returned (.bool (decide (1 ≤ n ∧ n ≤ 5))) ∧ w = w' := by
  go_enter Try.func49, Try.ntmps49
  go_wp2
  all_goals
    go_ret
    exact ⟨ret_bool (by rw [Bool.eq_iff_iff]; simp; try omega), rfl⟩
set_option maxHeartbeats 400000 in
theorem noW_as (v : Bool) (n : Int) (w : World) (hv : (!decide (1 ≤ n ∧ n ≤ 5)) = v) :
    Calls Try.prog 70 #[.int .i64 n] w fun e w' => e = .returned (.bool v) ∧ w = w' := by
  have HV := Lib.hid hv
  clear hv
  go_enter Try.func70, Try.ntmps70
  go_wp2_with fail
  refine (isW_any n w).mono ?_
  rintro e w' ⟨rfl, rfl⟩
  go_wp2
  go_ret
  exact ⟨ret_bool (by have h := HV.out; rw [← h, Bool.eq_iff_iff]; simp), rfl⟩

/-- the index of the first weight out of range, -1 if there is none -/
def IdxW (ws : List Int) (e : Ending) : Prop := (wsB ws = false ∧ ∃ k : Nat, e = .returned (.int .i64 k)) ∨ (wsB ws = true ∧ e = .returned (.int .i64 (-1)))
set_option maxRecDepth 20000 in
set_option maxHeartbeats 1000000 in
theorem idxW_any (a : Option Addr) (len cap : Nat) (ws : List Int) (w : World) (h : IntsAt w a ws) (hz : ws.length = len) (hm : len ≤ maxLen) :
    Calls Try.prog 82 #[.slice a len cap, .func (.func 70) #[] #[]] w fun e w' => IdxW ws e ∧ w = w' := by
  have HI := Lib.hid h
  have HZ := Lib.hid hz
  unfold maxLen at hm
  clear h hz
  go_enter Try.func82, Try.ntmps82
  go_wp2
  go_loop [8] (fun i => ∃ k : Nat, k ≤ len ∧ i = .int .i64 k ∧ Hid (∀ j, j < k → 1 ≤ gt ws j ∧ gt ws j ≤ 5)) (fun i => len - (intOf i).toNat)
  case atStart => exact ⟨0, by omega, rfl, fun j hj => by omega⟩
  case round =>
    obtain ⟨k, hk, rfl, HA⟩ := hrel
    by_cases hlt : k < len
    · obtain ⟨bb, off, rfl, hb0, hcells⟩ : ∃ bb off, a = some ⟨bb, off, none⟩ ∧ bb < w.heap.size ∧ ∀ i, i < ws.length → w.cell? ⟨bb, off + i, none⟩ = some (.int .i64 (gt ws i)) := by
        rcases HI.out with h0 | h0
        · have := HZ.out; rw [h0] at this; simp at this; omega
        · exact h0
      have hc := hcells k (by rw [HZ.out]; exact hlt)
      clear hcells
      cases hq : decide (1 ≤ gt ws k ∧ gt ws k ≤ 5)
      · have HQ := Lib.hid (of_decide_eq_false hq)
        have HN : Hid ((!decide (1 ≤ gt ws k ∧ gt ws k ≤ 5)) = true) := by show _ = _; rw [hq]; rfl
        have HR : Hid (IdxW ws (.returned (.int .i64 (k : Nat)))) := .inl ⟨by
          rcases hh : wsB ws with _ | _
          · rfl
          · exact absurd ((wsB_iff _).1 hh k (by rw [HZ.out]; exact hlt)) HQ.out, k, rfl⟩
        clear hq
        go_wp2_with fail
        refine (noW_as true (gt ws k) w HN.out).mono ?_
        rintro e w' ⟨rfl, rfl⟩
        go_wp2
        go_ret
        exact ⟨HR.out, rfl⟩
      · have HQ := Lib.hid (of_decide_eq_true hq)
        have HN : Hid ((!decide (1 ≤ gt ws k ∧ gt ws k ≤ 5)) = false) := by show _ = _; rw [hq]; rfl
        clear hq
        go_wp2_with fail
        refine (noW_as false (gt ws k) w HN.out).mono ?_
        rintro e w' ⟨rfl, rfl⟩
        go_wp2
        go_round
        case rel => exact ⟨k + 1, by omega, by go_num, fun j hj => by rcases Nat.lt_or_ge j k with h' | h'; exact HA.out j h'; obtain rfl : j = k := (by omega); exact HQ.out⟩
        case measure => simp [intOf]; omega
    · have HR : Hid (IdxW ws (.returned (.int .i64 (-1)))) := .inr ⟨(wsB_iff _).2 fun i hi => HA.out i (by rw [HZ.out] at hi; omega), rfl⟩
      go_wp2
      go_ret
      exact ⟨HR.out, rfl⟩
set_option maxHeartbeats 400000 in
theorem ctnW_any (a : Option Addr) (len cap : Nat) (ws : List Int) (w : World) (h : IntsAt w a ws) (hz : ws.length = len) (hm : len ≤ maxLen) :
    Calls Try.prog 72 #[.slice a len cap, .func (.func 70) #[] #[]] w fun e w' => e = .returned (.bool (!wsB ws)) ∧ w = w' := by
  have HI := Lib.hid h
  have HZ := Lib.hid hz
  have HM := Lib.hid hm
  clear h hz hm
  go_enter Try.func72, Try.ntmps72
  go_wp2_with fail
  refine (idxW_any a len cap ws w HI.out HZ.out HM.out).mono ?_
  rintro e w' ⟨⟨hw, k, rfl⟩ | ⟨hw, rfl⟩, rfl⟩
  · have k0 : (0 : Int) ≤ (k : Int) := by omega
    have HW := Lib.hid hw
    clear hw
    go_wp2
    go_ret
    exact ⟨by rw [HW.out]; rfl, rfl⟩
  · have HW := Lib.hid hw
    clear hw
    go_wp2
    go_ret
    exact ⟨by rw [HW.out]; rfl, rfl⟩
theorem ctnW_as (v : Bool) (a : Option Addr) (len cap : Nat) (ws : List Int) (w : World) (h : IntsAt w a ws) (hz : ws.length = len) (hm : len ≤ maxLen) (hv : wsB ws = v) :
    Calls Try.prog 72 #[.slice a len cap, .func (.func 70) #[] #[]] w fun e w' => e = .returned (.bool (!v)) ∧ w = w' := by subst hv; exact ctnW_any a len cap ws w h hz hm
theorem nval_as (v : Bool) (a : Option Addr) (len cap : Nat) (zs : List Int) (w : World) (h : IntsAt w a zs) (hz : zs.length = len) (hm : len ≤ maxLen) (hv : vldB zs = v) :
    Calls Try.prog 71 #[.slice a len cap] w fun e w' => e = .returned (.bool v) ∧ w = w' := by subst hv; exact nvalid_any a len cap zs w h hz hm

set_option maxHeartbeats 1000000 in
theorem haveW_as (v : Bool) (a b : Option Addr) (la lb ca cb : Nat) (zs ws : List Int) (w : World) (ha : IntsAt w a zs) (hb : IntsAt w b ws) (hza : zs.length = la) (hzb : ws.length = lb) (hma : la ≤ maxLen) (hmb : lb ≤ maxLen) (hv : plOk zs ws = v) :
    Calls Try.prog 54 #[.slice a la ca, .slice b lb cb] w fun e w' => e = .returned (.bool v) ∧ w = w' := by
  have HA := Lib.hid ha
  have HB := Lib.hid hb
  have HZA := Lib.hid hza
  have HZB := Lib.hid hzb
  have HMA := Lib.hid hma
  have HMB := Lib.hid hmb
  subst hv
  clear ha hb hza hzb hma hmb
  cases h1 : vldB zs
  · have HR : Hid (plOk zs ws = false) := by show _ = _; simp only [plOk, h1, Bool.false_and]
    have H1 := Lib.hid h1
    clear h1
    go_enter Try.func54, Try.ntmps54
    go_wp2_with fail
    refine (nval_as false a la ca zs w HA.out HZA.out HMA.out H1.out).mono ?_
    rintro e w' ⟨rfl, rfl⟩
    go_wp2
    go_ret
    exact ⟨ret_bool HR.out.symm, rfl⟩
  have H1 := Lib.hid h1
  by_cases hl : lb = la
  rotate_left
  · have HR : Hid (plOk zs ws = false) := by
      show _ = _
      have := HZA.out; have := HZB.out
      simp only [plOk, show (decide (ws.length = zs.length)) = false by simp; omega, Bool.and_false, Bool.false_and]
    have hl' : ((lb : Int) == (la : Int)) = false := by simp; omega
    clear h1 hl
    go_enter Try.func54, Try.ntmps54
    go_wp2_with fail
    refine (nval_as true a la ca zs w HA.out HZA.out HMA.out H1.out).mono ?_
    rintro e w' ⟨rfl, rfl⟩
    go_wp2
    go_ret
    exact ⟨ret_bool HR.out.symm, rfl⟩
  · subst hl
    have HR : Hid (plOk zs ws = wsB ws) := by
      show _ = _
      have := HZA.out; have := HZB.out
      simp only [plOk, h1, show (decide (ws.length = zs.length)) = true by simp; omega, Bool.true_and]
    clear h1
    obtain ⟨v, hv⟩ : ∃ v, wsB ws = v := ⟨_, rfl⟩
    rw [hv] at HR
    have HV := Lib.hid hv
    clear hv
    go_enter Try.func54, Try.ntmps54
    go_wp2_with fail
    refine (nval_as true a lb ca zs w HA.out HZA.out HMA.out H1.out).mono ?_
    rintro e w' ⟨rfl, rfl⟩
    go_wp2_with fail
    refine (ctnW_as v b lb cb ws w HB.out HZB.out HMB.out HV.out).mono ?_
    rintro e w' ⟨rfl, rfl⟩
    go_wp2
    go_ret
    exact ⟨ret_bool HR.out.symm, rfl⟩
end Go.Proofs.Ytidabcdaodlfeaa
