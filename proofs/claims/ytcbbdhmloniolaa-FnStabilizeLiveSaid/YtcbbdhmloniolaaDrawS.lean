/- Drawing a ring and a node of it. -/
import Derived.Test.YtcbbdhmloniolaaMH
namespace Go.Proofs.Ytcbbdhmloniolaa
open Go.RowKit
set_option linter.unusedVariables false

/-- what drawing a member leaves -/
def MemPost (q K : Nat) (w : World) (e : Ending) (w' : World) : Prop := ∃ z : Int, e = .returned (.int .i64 z) ∧ Ready w' q K ∧ Kept q w w'

set_option maxHeartbeats 1000000 in
theorem member_any (q K N cap : Nat) (base : Nat) (F : Nat → Nat) (r : List Nd) (w : World) (hr : Ready w q (K + 4)) (ho : RingOwn w base w.heap.size N r F) (hq : q < base) (h10 : r.length ≤ 10) :
    Calls Try.prog 45 #[.pointer (some ⟨q, 0, none⟩), .slice (some ⟨N, 0, none⟩) r.length cap] w (MemPost q K w) := by
  have HO := Lib.hid ho
  clear ho
  go_enter Try.func45, Try.ntmps45
  go_wp2_with fail
  refine (pick_r q (K + 3) 10 w hr (by omega) (by omega)).mono ?_
  rintro e w1 ⟨v, hv0, hv1, rfl, hr1, hk1⟩
  rcases bool_cases (v == 0) with hz | hz
  · rcases bool_cases ((r.length : Int) == 0) with hl | hl
    · have hpos : 1 ≤ r.length := by rcases Nat.eq_zero_or_pos r.length with h | h; rw [h] at hl; simp at hl; exact h
      go_wp2_with fail
      refine (pick_r q K (r.length : Int) w1 (hr1.less (by omega)) (by omega) (by omega)).mono ?_
      rintro e w2 ⟨u, hu0, hu1, rfl, hr2, hk2⟩
      obtain ⟨j, rfl⟩ := Int.eq_ofNat_of_zero_le hu0
      have hj : j < r.length := by omega
      have hc := own_pos (own_kept (own_kept HO.out hk1 hq) hk2 hq) hj
      have hN : N < w2.heap.size := block_of hc
      go_wp2
      go_ret
      exact ⟨_, rfl, hr2, hk1.trans hk2⟩
    · go_wp2_with fail
      refine (point_r q K w1 (hr1.less (by omega))).mono ?_
      rintro e w2 ⟨u, _, _, rfl, hr2, hk2⟩
      go_wp2
      go_ret
      exact ⟨u, rfl, hr2, hk1.trans hk2⟩
  · go_wp2_with fail
    refine (point_r q K w1 (hr1.less (by omega))).mono ?_
    rintro e w2 ⟨u, _, _, rfl, hr2, hk2⟩
    go_wp2
    go_ret
    exact ⟨u, rfl, hr2, hk1.trans hk2⟩

/-- a ring and a position -/
def DrewRI (w : World) (e : Ending) (w' : World) : Prop :=
  ∃ (N cap : Nat) (r : List Nd) (z : Int), e = .returned (.tuple #[.slice (some ⟨N, 0, none⟩) r.length cap, .int .i64 z]) ∧ RingAt w' (some ⟨N, 0, none⟩) r ∧ r.length ≤ 10 ∧ r.length ≤ cap ∧ cap ≤ maxLen ∧ Below w.heap.size w w'


/-- what l91Bent leaves -/
def BentPost (q K : Nat) (w : World) (e : Ending) (w' : World) : Prop :=
  ∃ (N cap : Nat) (F : Nat → Nat) (r : List Nd) (z : Int), e = .returned (.tuple #[.slice (some ⟨N, 0, none⟩) r.length cap, .int .i64 z]) ∧ RingOwn w' w.heap.size w'.heap.size N r F ∧ r.length ≤ 10 ∧ r.length ≤ cap ∧ cap ≤ maxLen ∧ Ready w' q K ∧ w.grownBy w' (some q)

set_option maxHeartbeats 4000000 in
theorem bent_any (q K : Nat) (w : World) (h : Ready w q (K + 160)) :
    Calls Try.prog 48 #[.pointer (some ⟨q, 0, none⟩)] w (BentPost q K w) := by
  have hq := h.lt
  go_enter Try.func48, Try.ntmps48
  go_wp2_with fail
  refine (spoilt_any q (K + 20) w (h.less (by omega))).mono ?_
  rintro e w1 ⟨N, cap1, F, r, rfl, ho, h1, h2, h10, hr1, hg1⟩
  have HO := Lib.hid ho
  have hz1 := hg1.size
  have HG1 := Lib.hid hg1
  clear ho hg1
  go_wp2
  go_loopw [5] (fun i wr => ∃ k : Nat, k ≤ r.length ∧ i = .int .i64 k ∧ Ready wr q (K + 4 + (10 - k)) ∧ Kept q w1 wr) (fun i _ => r.length - (intOf i).toNat)
  case atStart => exact ⟨0, by omega, rfl, hr1.less (by omega), Kept.refl _ _⟩
  case round =>
    obtain ⟨k, hk, rfl, hrd, hkp⟩ := hrel
    obtain ⟨wo, rfl⟩ : ∃ x, x = wr := ⟨_, rfl⟩
    have hown := own_kept HO.out hkp hq
    have HEND : Hid (∀ w3 z, Ready w3 q K → Kept q w1 w3 → BentPost q K w (.returned (.tuple #[.slice (some ⟨N, 0, none⟩) r.length cap1, .int .i64 z])) w3) := fun w3 z hr3 hk3 =>
      ⟨N, cap1, F, r, z, rfl, own_kept HO.out hk3 hq, h10, h1, h2, hr3, ⟨hk3.os.trans HG1.out.os, hk3.tape.trans HG1.out.tape, hk3.output.trans HG1.out.output, by rw [hk3.size]; exact HG1.out.size, fun g hg hne => (hk3.block g (fun e => hne (by rw [e]))).trans (HG1.out.block g hg hne)⟩⟩
    have HENDD : Hid (∀ w3 n z, Ready w3 q K → Kept q w1 w3 → BentPost q K w (.returned (.tuple #[.slice (some ⟨N, 0, none⟩) r.length cap1, .int .i64 z])) (w3.drewN n)) := fun w3 n z hr3 hk3 =>
      HEND.out (w3.drewN n) z (hr3.keep (fun _ _ => rfl)) (hk3.trans ⟨rfl, rfl, rfl, rfl, fun _ _ => rfl⟩)
    by_cases hlt : k < r.length
    · obtain ⟨c, c0, c1, c2, hlc, hcm⟩ := own_cells hown hlt
      have hN : N < wo.heap.size := block_of c0
      have HOW := Lib.hid hown
      have HINT := (own_ints hown hlt).1
      clear hown
      rcases Nat.eq_zero_or_pos (gn r k).aft.length with hl0 | hl0
      · rw [hl0] at c2
        clear HINT
        go_wp2_with fail
        go_roundw
        case rel => exact ⟨k + 1, by omega, by go_num, hrd.less (by omega), hkp⟩
        case measure => simp [intOf]; omega
      · have d0 := HINT 0 hl0
        have hF : F k < wo.heap.size := block_of d0
        have dl : decide ((0 : Int) < ((gn r k).aft.length : Int)) = true := by simp; omega
        clear HINT
        rcases bool_cases (decide (fndI r (gt (gn r k).aft 0) < 0)) with hf | hf
        · go_wp2_with fail
          refine (sfind_any _ _ cap1 r _ wo HOW.out.ring rfl (by unfold maxLen; omega)).mono ?_
          rintro e w2 ⟨rfl, rfl⟩
          go_wp2_with fail
          go_roundw
          case rel => exact ⟨k + 1, by omega, by go_num, hrd.less (by omega), hkp⟩
          case measure => simp [intOf]; omega
        · go_wp2_with fail
          refine (sfind_any _ _ cap1 r _ wo HOW.out.ring rfl (by unfold maxLen; omega)).mono ?_
          rintro e w2 ⟨rfl, rfl⟩
          go_wp2_with fail
          refine (pick_r q (K + 4 + (10 - (k + 1))) 4 wo (hrd.less (by omega)) (by omega) (by omega)).mono ?_
          rintro e w3 ⟨v, hv0, hv1, rfl, hr3, hk3⟩
          rcases bool_cases (decide ((0 : Int) < v)) with hp | hp
          · go_wp2_with fail
            go_roundw
            case rel => exact ⟨k + 1, by omega, by go_num, hr3, hkp.trans hk3⟩
            case measure => simp [intOf]; omega
          · have c0' := own_pos (own_kept HOW.out hk3 hq) hlt
            have hN' : N < w3.heap.size := block_of c0'
            have i0 : (0 : Int) ≤ (k : Int) := by omega
            have i1 : (k : Int) < (r.length : Int) := by omega
            clear c0 c1 c2 d0 dl hf
            go_wp2
            go_quiet (fail)
            go_wp2
            go_ret2
            exact HENDD.out w3 _ _ (hr3.less (by omega)) (hkp.trans hk3)
    · go_wp2_with fail
      refine (member_any q K N cap1 w.heap.size F r wo (hrd.less (by omega)) hown hq h10).mono ?_
      rintro e w2 ⟨z, rfl, hr2, hk2⟩
      go_wp2
      go_ret2
      exact HEND.out w2 z hr2 (hkp.trans hk2)

end Go.Proofs.Ytcbbdhmloniolaa
