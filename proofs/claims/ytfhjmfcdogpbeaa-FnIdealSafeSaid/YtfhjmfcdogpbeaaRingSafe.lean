/- Principals and safety, as the model computes them. -/
import Derived.Test.YtfhjmfcdogpbeaaRingPr
namespace Go.Proofs.Ytfhjmfcdogpbeaa
open Go.RowKit
set_option linter.unusedVariables false

def prV (r : List Nd) : List Int := if rvB r then prL r else []

set_option maxHeartbeats 1000000 in
theorem srpr_any (a : Option Addr) (len cap : Nat) (r : List Nd) (w : World) (h : RingAt w a r) (hz : r.length = len) (hm : len ≤ maxLen) :
    Calls Try.prog 18 #[.slice a len cap] w (NewInts (prV r) w) := by
  have HI := Lib.hid h
  have HZ := Lib.hid hz
  have HM := Lib.hid hm
  clear h hz hm
  cases hv : rvB r
  · have He : Hid (prV r = []) := by show prV r = []; simp [prV, hv]
    have HV := Lib.hid hv
    clear hv
    go_enter Try.func18, Try.ntmps18
    go_wp2_with fail
    refine (srv_as false a len cap r w HI.out HZ.out HM.out HV.out).mono ?_
    rintro e w1 ⟨rfl, hb1⟩
    go_wp2
    go_ret
    rw [He.out]
    exact new_mono (new_of_sofar (sofar_new w1 _ rfl)) hb1
  · have He : Hid (prV r = prL r) := by show prV r = _; simp [prV, hv]
    have HV := Lib.hid hv
    clear hv
    go_enter Try.func18, Try.ntmps18
    go_wp2_with fail
    refine (srv_as true a len cap r w HI.out HZ.out HM.out HV.out).mono ?_
    rintro e w1 ⟨rfl, hb1⟩
    go_wp2_with fail
    refine (spr_any a len cap r w1 (HI.out.keepB hb1 (Nat.le_refl _)) HZ.out HV.out).mono ?_
    rintro e w2 ⟨g, gc, rfl, ho, hb2⟩
    go_wp2
    go_ret
    rw [He.out]
    exact new_mono ⟨g, gc, rfl, ho, hb2⟩ hb1

def LvAt (r : List Nd) (x y : Int) (l i : Value) : Prop := (l = .bool false ∧ i = .int .i64 0) ∨ (l = .bool (liveB r x) ∧ i = .int .i64 1) ∨ (l = .bool (liveB r x || liveB r y) ∧ i = .int .i64 2)
theorem fnd_pos {r : List Nd} {x : Int} {v : Bool} (h : liveB r x = v) : decide (0 ≤ fndI r x) = v := by rw [fnd_ge, h]

set_option maxHeartbeats 2000000 in
theorem ssf_any (a : Option Addr) (len cap : Nat) (r : List Nd) (w : World) (h : RingAt w a r) (hz : r.length = len) (hv : rvB r = true) :
    Calls Try.prog 53 #[.slice a len cap] w fun e w' => e = .returned (.bool (sfB r)) ∧ Below w.heap.size w w' := by
  have hm := rv_len hv
  rw [hz] at hm
  have HI := Lib.hid h
  have HZ := Lib.hid hz
  have HV := Lib.hid hv
  have HM : Hid (len ≤ maxLen) := by show len ≤ maxLen; unfold maxLen; omega
  have He : Hid (sfB r = (allTo (fun k => lsB r (gn r k)) len && decide (3 ≤ (prL r).length))) := by show sfB r = _; rw [sfB, hz]
  clear h hz hv
  go_enter Try.func53, Try.ntmps53
  go_wp2
  go_loop [3] (fun i => ∃ k : Nat, k ≤ len ∧ i = .int .i64 k ∧ allTo (fun k => lsB r (gn r k)) k = true) (fun i => len - (intOf i).toNat)
  case atStart => exact ⟨0, by omega, rfl, rfl⟩
  case round =>
    obtain ⟨k, hk, rfl, hall⟩ := hrel
    have HA := Lib.hid hall
    clear hall
    by_cases hlt : k < len
    · obtain ⟨b, off, rfl, hb0, hnodes⟩ := HI.out.at_ (by rw [HZ.out]; exact hlt)
      obtain ⟨sa, sc, hc0, hc1, hc2, hl, hmx, hints⟩ := node_open (hnodes k (by rw [HZ.out]; exact hlt))
      clear hnodes
      unfold maxLen at hmx
      obtain ⟨x, y, ha, _, _⟩ := aft_two (rv_nd HV.out (k := k) (by rw [HZ.out]; exact hlt))
      have HLS : Hid (lsB r (gn r k) = (liveB r x || liveB r y)) := by show lsB r (gn r k) = _; rw [lsB, ha]; rfl
      have hl2 : (gn r k).aft.length = 2 := by rw [ha]; rfl
      rw [ha] at hints
      rw [hl2] at hc2 hl
      clear ha hl2
      obtain ⟨b3, o3, rfl, hb3, hx0, hy0⟩ := ints_two hints
      clear hints
      go_wp2
      go_loop [4, 5] (fun l i => LvAt r x y l i) (fun _ i => 2 - (intOf i).toNat)
      case atStart => exact .inl ⟨rfl, rfl⟩
      case round =>
        rcases hrel with ⟨rfl, rfl⟩ | ⟨rfl, rfl⟩ | ⟨rfl, rfl⟩
        · cases hx : liveB r x
          all_goals
            have hfx := fnd_pos hx
            have HX := Lib.hid hx
            clear hx
            go_wp2_with (go_at_call 77; refine (sfind_any _ _ _ r _ _ HI.out HZ.out HM.out).mono ?_; rintro e w' ⟨rfl, rfl⟩)
            go_round
            case rel => exact .inr (.inl ⟨by rw [HX.out], rfl⟩)
            case measure => simp [intOf]
        · cases hx : liveB r x
          · cases hy : liveB r y
            all_goals
              have hfx := fnd_pos hy
              have HX := Lib.hid hx
              have HY := Lib.hid hy
              clear hy hx
              go_wp2_with (go_at_call 77; refine (sfind_any _ _ _ r _ _ HI.out HZ.out HM.out).mono ?_; rintro e w' ⟨rfl, rfl⟩)
              go_round
              case rel => exact .inr (.inr ⟨by rw [HX.out, HY.out]; rfl, rfl⟩)
              case measure => simp [intOf]
          · have HX := Lib.hid hx
            clear hx
            go_wp2
            go_round
            case rel => exact .inr (.inr ⟨by rw [HX.out]; rfl, rfl⟩)
            case measure => simp [intOf]
        · cases hxy : (liveB r x || liveB r y)
          · have HXY := Lib.hid hxy
            clear hxy
            go_wp2
            go_ret
            exact ⟨ret_bool (by rw [He.out, allTo_no hlt, Bool.false_and]; rw [HLS.out, HXY.out]), Below.refl _ _⟩
          · have HXY := Lib.hid hxy
            clear hxy
            go_wp2
            go_round
            case rel => exact ⟨k + 1, by omega, by go_num, allTo_succ HA.out (by rw [HLS.out, HXY.out])⟩
            case measure => simp [intOf]; omega
    · have HK : Hid (k = len) := by show k = len; omega
      go_wp2_with fail
      refine (spr_any _ _ _ r w HI.out HZ.out HV.out).mono ?_
      rintro e w2 ⟨g, gc, rfl, ho, hb2⟩
      go_wp2
      go_ret
      exact ⟨ret_bool (by have h1 := HA.out; rw [HK.out] at h1; rw [He.out, h1, Bool.true_and, decide_eq_decide]; omega), hb2⟩

set_option maxHeartbeats 1000000 in
theorem ssafe_any (a : Option Addr) (len cap : Nat) (r : List Nd) (w : World) (h : RingAt w a r) (hz : r.length = len) (hm : len ≤ maxLen) :
    Calls Try.prog 25 #[.slice a len cap] w fun e w' => e = .returned (.bool (safeB r)) ∧ Below w.heap.size w w' := by
  have HI := Lib.hid h
  have HZ := Lib.hid hz
  have HM := Lib.hid hm
  clear h hz hm
  cases hv : rvB r
  · have He : Hid (safeB r = false) := by show safeB r = false; simp [safeB, hv]
    have HV := Lib.hid hv
    clear hv
    go_enter Try.func25, Try.ntmps25
    go_wp2_with fail
    refine (srv_as false a len cap r w HI.out HZ.out HM.out HV.out).mono ?_
    rintro e w1 ⟨rfl, hb1⟩
    go_wp2
    go_ret
    exact ⟨ret_bool He.out.symm, hb1⟩
  · have He : Hid (safeB r = sfB r) := by show safeB r = _; simp [safeB, hv]
    have HV := Lib.hid hv
    clear hv
    go_enter Try.func25, Try.ntmps25
    go_wp2_with fail
    refine (srv_as true a len cap r w HI.out HZ.out HM.out HV.out).mono ?_
    rintro e w1 ⟨rfl, hb1⟩
    go_wp2_with fail
    refine (ssf_any a len cap r w1 (HI.out.keepB hb1 (Nat.le_refl _)) HZ.out HV.out).mono ?_
    rintro e w2 ⟨rfl, hb2⟩
    go_wp2
    go_ret
    exact ⟨ret_bool He.out.symm, hb1.trans (hb2.mono hb1.size)⟩
end Go.Proofs.Ytfhjmfcdogpbeaa
