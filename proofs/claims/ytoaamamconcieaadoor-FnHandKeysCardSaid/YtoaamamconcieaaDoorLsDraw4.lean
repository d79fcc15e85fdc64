/- Drawing the arguments of the laws of handing over and of taking over. -/
import Derived.Test.YtoaamamconcieaaDoorLsDraw2
import Derived.Deep.DeepCutAuto
namespace Go.Proofs.YtoaamamconcieaaDoor
open Go.RowKit
set_option linter.unusedVariables false

theorem grownB {w w' : World} {q : Nat} (hb : Below w.heap.size w w') : w.grownBy w' (some q) := ⟨hb.os, hb.tape, hb.output, hb.size, fun k hk _ => hb.block k hk⟩


set_option maxHeartbeats 8000000 in
theorem drawLeaseHand (s : Option Addr) (len cap : Nat) (w : World) (h : BytesAt w s len cap) :
    Calls Tryd.prog 17 #[.slice s len cap] w (DrewL4 w) := by
  go_enter Tryd.func17, Tryd.ntmps17
  go_wp2_with fail
  refine (open_any s len cap w h).mono ?_
  rintro e w0 ⟨rfl, hr0, hb0, hz0⟩
  have HZ := Lib.hid hz0
  clear hz0
  go_wp2_with fail
  refine (leases_any w.heap.size 900000 w0 (hr0.less (by omega))).mono ?_
  rintro e w1 ⟨g, c, L, rfl, hl, ho, hr1, hg1⟩
  obtain ⟨n, hn⟩ : ∃ n, n = L.length := ⟨_, rfl⟩
  rw [← hn]
  have hn12 : n ≤ 12 := by omega
  have HO := Lib.hid ho
  have HN := Lib.hid hn
  clear ho hl hn
  go_wp2_with fail
  refine (point_r w.heap.size 899990 w1 (hr1.less (by omega))).mono ?_
  rintro e w2 ⟨x, hx0, hx1, rfl, hr2, hk2⟩
  have hg2 : w1.grownBy w2 (some w.heap.size) := hk2.grown
  go_upto_region 4 with fail
  go_cut [25] (fun s wx => ∃ b : Bool, s = .bool b ∧ (b = true → 0 < n) ∧ Ready wx w.heap.size 899980 ∧ w1.grownBy wx (some w.heap.size))
  case first =>
    go_wp2_with fail
    refine (pick_r w.heap.size 899980 5 w2 (hr2.less (by omega)) (by omega) (by omega)).mono ?_
    rintro e w3 ⟨v, hv0, hv1, rfl, hr3, hk3⟩
    have hg3 : w1.grownBy w3 (some w.heap.size) := grown_trans hg2 hk3.grown
    by_cases hv : v = 0
    · subst hv
      by_cases hn0 : 0 < n
      · have d1 : decide ((0 : Int) < (n : Int)) = true := by simp; omega
        go_wp2
        go_meet
        exact ⟨true, rfl, fun _ => hn0, hr3, hg3⟩
      · have d1 : decide ((0 : Int) < (n : Int)) = false := by simp; omega
        go_wp2
        go_meet
        exact ⟨false, rfl, (fun h => by cases h), hr3, hg3⟩
    · have hv' : (v == 0) = false := by simp [hv]
      go_wp2
      go_meet
      exact ⟨false, rfl, (fun h => by cases h), hr3, hg3⟩
  case rest =>
  obtain ⟨b, rfl, hb, hr3, hg3⟩ := hcut
  have HBN := Lib.hid hb
  clear hb
  go_upto_if 25 with fail
  go_cut [9] (fun s wx => ∃ y : Int, s = .int .i64 y ∧ Ready wx w.heap.size 899970 ∧ w1.grownBy wx (some w.heap.size))
  case first =>
    cases b
    · go_wp2
      go_meet
      exact ⟨_, rfl, hr3.less (by omega), hg3⟩
    · have hn0 := HBN.out rfl
      go_wp2_with fail
      refine (pick_r w.heap.size 899979 (n : Int) _ (hr3.less (by omega)) (by omega) (by omega)).mono ?_
      rintro e w4 ⟨j, hj0, hj1, rfl, hr4, hk4⟩
      obtain ⟨p, rfl, hpk⟩ : ∃ p : Nat, j = (p : Int) ∧ p < n := ⟨j.toNat, by omega, by omega⟩
      have hg4 : w1.grownBy w4 (some w.heap.size) := grown_trans hg3 hk4.grown
      have ho4 := HO.out.grownQ hg4 (by have := HZ.out; omega)
      obtain ⟨y0, _, _⟩ := ho4.cells (i := p) (by rw [← HN.out]; exact hpk)
      clear ho4
      go_wp2
      go_meet
      exact ⟨_, rfl, hr4.less (by omega), hg4⟩
  case rest =>
  obtain ⟨y, rfl, hr4, hg4⟩ := hcut
  clear hr3 hg3
  go_wp2_with fail
  refine (pick_r w.heap.size 899969 5 _ (hr4.less (by omega)) (by omega) (by omega)).mono ?_
  rintro e w5 ⟨u, hu0, hu1, rfl, hr5, hk5⟩
  have hg5 : w1.grownBy w5 (some w.heap.size) := grown_trans hg4 hk5.grown
  go_upto_region 7 with fail
  go_cut [47] (fun s wx => ∃ b : Bool, s = .bool b ∧ (b = true → 0 < n) ∧ Ready wx w.heap.size 899960 ∧ w1.grownBy wx (some w.heap.size))
  case first =>
    go_wp2_with fail
    refine (pick_r w.heap.size 899960 4 w5 (hr5.less (by omega)) (by omega) (by omega)).mono ?_
    rintro e w6 ⟨t, ht0, ht1, rfl, hr6, hk6⟩
    have hg6 : w1.grownBy w6 (some w.heap.size) := grown_trans hg5 hk6.grown
    have HO6 := Lib.hid (HO.out.grownQ hg6 (by have := HZ.out; omega))
    by_cases ht : t = 0
    · subst ht
      go_wp2
      go_meet
      exact ⟨false, rfl, (fun h => by cases h), hr6, hg6⟩
    have htp : decide (0 < t) = true := by simp; omega
    cases hv : lvB L
    · go_wp2_with fail
      refine (slvs_any _ n c L w6 HO6.out.ls HN.out.symm (by unfold maxLen; omega)).mono ?_
      rintro e w7 ⟨rfl, hs⟩
      have hr7 := hr6.below (hs.below _) (by have := hr6.lt; omega)
      have hg7 := grown_trans hg6 (grownB (hs.below _))
      rw [hv]
      go_wp2
      go_meet
      exact ⟨false, rfl, (fun h => by cases h), hr7, hg7⟩
    · go_wp2_with fail
      refine (slvs_any _ n c L w6 HO6.out.ls HN.out.symm (by unfold maxLen; omega)).mono ?_
      rintro e w7 ⟨rfl, hs⟩
      have hr7 := hr6.below (hs.below _) (by have := hr6.lt; omega)
      have hg7 := grown_trans hg6 (grownB (hs.below _))
      rw [hv]
      have HV := Lib.hid hv
      clear hv
      go_wp2_with fail
      refine (point_any _ w7).mono ?_
      rintro e w' ⟨rfl, rfl⟩
      go_wp2
      go_meet
      exact ⟨_, rfl, fun _ => by rw [HN.out]; exact (lv_len HV.out).1, hr7, hg7⟩
  case rest =>
  obtain ⟨b, rfl, hb, hr6, hg6⟩ := hcut
  have HBN := Lib.hid hb
  clear hb
  go_upto_if 47 with fail
  go_cut [10] (fun s wx => ∃ y : Int, s = .int .i64 y ∧ Ready wx w.heap.size 899950 ∧ w1.grownBy wx (some w.heap.size))
  case first =>
    cases b
    · go_wp2
      go_meet
      exact ⟨_, rfl, hr6.less (by omega), hg6⟩
    · have hn0 := HBN.out rfl
      have HO7 := Lib.hid (HO.out.grownQ hg6 (by have := HZ.out; omega))
      have hkn := at_lt (L := L) (by rw [← HN.out]; exact hn0) y
      obtain ⟨_, y1, _⟩ := HO7.out.cells (i := atL L y) hkn
      rw [← HN.out] at hkn
      go_wp2_with fail
      refine (sat_any _ n c L y _ HO7.out.ls HN.out.symm (by unfold maxLen; omega)).mono ?_
      rintro e w' ⟨rfl, rfl⟩
      go_wp2
      go_meet
      exact ⟨_, rfl, hr6.less (by omega), hg6⟩
  case rest =>
  obtain ⟨y2, rfl, hr7, hg7⟩ := hcut
  clear hr6 hg6
  go_wp2_with fail
  refine (pick_r w.heap.size 899940 6 _ (hr7.less (by omega)) (by omega) (by omega)).mono ?_
  rintro e w8 ⟨a8, ha0, ha1, rfl, hr8, hk8⟩
  go_wp2_with fail
  refine (pick_r w.heap.size 899930 16 w8 (hr8.less (by omega)) (by omega) (by omega)).mono ?_
  rintro e w9 ⟨a9, hb90, hb91, rfl, hr9, hk9⟩
  have hg9 : w1.grownBy w9 (some w.heap.size) := grown_trans hg7 (grown_trans hk8.grown hk9.grown)
  by_cases h9 : a9 = 0
  · subst h9
    go_wp2_with fail
    refine (point_r w.heap.size 899920 w9 (hr9.less (by omega))).mono ?_
    rintro e wX ⟨a10, h100, h101, rfl, hrX, hk10⟩
    go_wp2_with fail
    refine (time_r w.heap.size 899900 wX (hrX.less (by omega))).mono ?_
    rintro e wY ⟨z, hz0, hz1, rfl, hrY, hgY⟩
    have hG : w1.grownBy wY (some w.heap.size) := grown_trans (grown_trans hg9 hk10.grown) hgY
    have hB : Below w.heap.size w wY := below_of_grown hb0 (Nat.le_refl _) (by have := HZ.out; omega) (grown_trans hg1 hG)
    have HOY := Lib.hid ((HO.out.grownQ hG (by have := HZ.out; omega)).less hb0.size)
    go_wp2
    refine bodyPost_ret (results_tmp5 rfl _ _ _) rfl ?_
    exact ⟨g, c, L, _, _, _, z, by rw [← HN.out]; rfl, by rw [← HN.out]; exact hn12, HOY.out, hB⟩
  · have h9' : (a9 == 0) = false := by simp [h9]
    go_wp2_with fail
    refine (time_r w.heap.size 899900 w9 (hr9.less (by omega))).mono ?_
    rintro e wY ⟨z, hz0, hz1, rfl, hrY, hgY⟩
    have hG : w1.grownBy wY (some w.heap.size) := grown_trans hg9 hgY
    have hB : Below w.heap.size w wY := below_of_grown hb0 (Nat.le_refl _) (by have := HZ.out; omega) (grown_trans hg1 hG)
    have HOY := Lib.hid ((HO.out.grownQ hG (by have := HZ.out; omega)).less hb0.size)
    go_wp2
    refine bodyPost_ret (results_tmp5 rfl _ _ _) rfl ?_
    exact ⟨g, c, L, _, _, _, z, by rw [← HN.out]; rfl, by rw [← HN.out]; exact hn12, HOY.out, hB⟩

set_option maxHeartbeats 1000000 in
theorem holder_any (a : Option Addr) (len cap : Nat) (L : List Ls) (key : Int) (w : World) (h : LsAt w a L) (hz : L.length = len) (hm : len ≤ maxLen) :
    Calls Tryd.prog 20 #[.slice a len cap, .int .i64 key] w fun e w' => e = .returned (.tuple #[.int .i64 (ofR L key).1.o, .int .i64 (ofR L key).1.u]) ∧ Below w.heap.size w w' := by
  have HI := Lib.hid h
  have HZ := Lib.hid hz
  have HM := Lib.hid hm
  clear h hz hm
  go_enter Tryd.func20, Tryd.ntmps20
  go_wp2_with fail
  refine (lof_any a len cap L key w HI.out HZ.out HM.out).mono ?_
  rintro e w2 ⟨rfl, hb2⟩
  go_wp2
  go_quiet (fail)
  go_wp2
  go_ret2
  exact ⟨rfl, bel_dN (hb2.trans ((alB w2 _).mono hb2.size)) _⟩
end Go.Proofs.YtoaamamconcieaaDoor
