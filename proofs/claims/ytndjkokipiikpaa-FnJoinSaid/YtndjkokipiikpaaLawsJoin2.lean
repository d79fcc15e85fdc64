/- A node joins only at its place. -/
import Derived.Test.YtndjkokipiikpaaLawsFail
import Derived.Test.YtndjkokipiikpaaNwJoin2
import Derived.Test.YtndjkokipiikpaaDrawJ
import Derived.Test.YtndjkokipiikpaaLawsH
import Derived.Test.YtndjkokipiikpaaDrawS
namespace Go.Proofs.Ytndjkokipiikpaa
open Go.RowKit
set_option linter.unusedVariables false

theorem nd_ext4 {n m : Nd} (h1 : n.pos = m.pos) (h2 : n.bef = m.bef) (h3 : n.aft = m.aft) : n = m := by
  cases n; cases m; simp at h1 h2 h3; subst h1 h2 h3; rfl
theorem field_aft (v b : Int) (a : Option Addr) (l c : Nat) (w : World) : (Instr.field 36 (.agg #[.int .i64 v, .int .i64 b, .slice a l c]) 2).run Try.prog w = .ok (.slice a l c) w := by kernel_rfl

set_option maxHeartbeats 4000000 in
theorem joinRefused (s : Option Addr) (len cap : Nat) (z : List Int) (w : World) (h : RowIn .u8 w s len cap z) :
    Calls Try.prog 8 #[.slice s len cap] w fun e w' => e = .returned (.bool true) ∧ Below w.heap.size w w' := by
  have hb := bytes_of_row h
  have hm : len ≤ maxLen := Nat.le_trans hb.1 hb.2.1
  unfold maxLen at hm
  clear h
  by_cases hl : 1048576 < len
  · go_enter Try.func8, Try.ntmps8
    go_wp2
    go_ret
    exact ⟨rfl, Below.refl _ _⟩
  have hlB : decide ((1048576 : Int) < (len : Int)) = false := by simp; omega
  go_enter Try.func8, Try.ntmps8
  go_wp2_with fail
  refine (drawRingJoin s len cap w hb).mono ?_
  rintro e w1 ⟨N, cap1, r, x, y, rfl, hr1, h10, hcap, hcm, hB1⟩
  have HI := Lib.hid hr1
  have hmx : r.length ≤ maxLen := by unfold maxLen; omega
  have HM := Lib.hid hmx
  have HIM0 := fun w0 (h : RingAt w0 (some ⟨N, 0, none⟩) r) (hm : r.length ≤ maxLen) => rjoin_any _ _ cap1 x y r w0 h rfl hm
  have HSP0 := fun w0 (h : RingAt w0 (some ⟨N, 0, none⟩) r) (hm : r.length ≤ maxLen) (hc : r.length ≤ cap1) (hcm : cap1 ≤ maxLen) => sjoin_any _ _ cap1 x y r w0 h rfl hc hcm
  have HSR0 : szR (joinR r x y) ≤ 1048576 := join_sz r x y
  obtain ⟨R, hR⟩ : ∃ R, R = joinR r x y := ⟨_, rfl⟩
  obtain ⟨B, hBB⟩ : ∃ B, B = (arg3 r x y && joinB r x y) := ⟨_, rfl⟩
  simp only [← hR, ← hBB] at HIM0 HSP0 HSR0
  have HIM := Lib.hid HIM0
  have HSP := Lib.hid HSP0
  have HSR := Lib.hid HSR0
  have HRE := Lib.hid hR
  have HBE := Lib.hid hBB
  have HMR : Hid (R.length ≤ maxLen) := small_max HSR0
  clear hr1 hmx hlB HIM0 HSP0 HSR0 hR hBB
  go_wp2_with fail
  refine (HIM.out w1 HI.out HM.out).mono ?_
  rintro e w2 ⟨N2, c2, F2, rfl, ho2, hc2, hcm2, hb2⟩
  have HO2 := Lib.hid ho2.ring
  clear ho2
  go_wp2_with fail
  refine (HSP.out w2 (HI.out.keepB hb2 (Nat.le_refl _)) HM.out hcap hcm).mono ?_
  rintro e w3 ⟨N3, c3, F3, rfl, ho3, _, _, hb3⟩
  have HO3 := Lib.hid ho3.ring
  clear ho3
  have v1 : (!B == B) = false := by simp
  have v2 : (B == B) = true := by simp
  go_wp2_with fail
  refine (sameRing_same _ _ _ c2 c3 R w3 (HO2.out.keepB hb3 (Nat.le_refl _)) HO3.out rfl (small_of HSR.out)).mono ?_
  rintro e w4 ⟨rfl, hb4⟩
  have hB24 : Below w2.heap.size w2 w4 := hb3.trans (hb4.mono hb3.size)
  have hB14 : Below w1.heap.size w1 w4 := hb2.trans (hB24.mono hb2.size)
  have hBw : Below w.heap.size w w4 := hB1.trans (hB14.mono hB1.size)
  have HI4 := Lib.hid (HI.out.keepB hB14 (Nat.le_refl _))
  have HR4 := Lib.hid (HO2.out.keepB hB24 (Nat.le_refl _))
  have HDONE : Hid (∀ w5, Below w4.heap.size w4 w5 → Calls Try.prog 24 #[.slice (some ⟨N2, 0, none⟩) R.length c2, .slice (some ⟨N3, 0, none⟩) R.length c3] w5 fun e w' => e = .returned (.bool true) ∧ Below w5.heap.size w5 w') := fun w5 hb5 =>
    sameRing_same _ _ _ c2 c3 R w5 (HR4.out.keepB hb5 (Nat.le_refl _)) ((HO3.out.keepB hb4 (Nat.le_refl _)).keepB hb5 (Nat.le_refl _)) rfl (small_of HSR.out)
  rcases bool_cases (safeB r) with hs | hs
  · have HS := Lib.hid hs
    clear hs
    go_wp2_with fail
    refine (ssafe_as false _ _ cap1 r w4 HI4.out rfl HM.out HS.out).mono ?_
    rintro e w5 ⟨rfl, hb5⟩
    go_wp2_with fail
    refine (HDONE.out w5 hb5).mono ?_
    rintro e w6 ⟨rfl, hb6⟩
    go_wp2
    go_ret
    exact ⟨rfl, hBw.trans ((hb5.trans (hb6.mono hb5.size)).mono hBw.size)⟩
  have HS := Lib.hid hs
  clear hs
  rcases bool_cases (ptB x) with hp | hp
  · have HP := Lib.hid hp
    clear hp
    go_wp2_with fail
    refine (ssafe_as true _ _ cap1 r w4 HI4.out rfl HM.out HS.out).mono ?_
    rintro e w5 ⟨rfl, hb5⟩
    go_wp2_with fail
    refine (lpoint_as false x w5 HP.out).mono ?_
    rintro e w5' ⟨rfl, rfl⟩
    go_wp2_with fail
    refine (HDONE.out w5 hb5).mono ?_
    rintro e w6 ⟨rfl, hb6⟩
    go_wp2
    go_ret
    exact ⟨rfl, hBw.trans ((hb5.trans (hb6.mono hb5.size)).mono hBw.size)⟩
  have HPX := Lib.hid hp
  clear hp
  rcases bool_cases (ptB y) with hp | hp
  · have HP := Lib.hid hp
    clear hp
    go_wp2_with fail
    refine (ssafe_as true _ _ cap1 r w4 HI4.out rfl HM.out HS.out).mono ?_
    rintro e w5 ⟨rfl, hb5⟩
    go_wp2_with fail
    refine (lpoint_as true x w5 HPX.out).mono ?_
    rintro e w5' ⟨rfl, rfl⟩
    go_wp2_with fail
    refine (lpoint_as false y w5 HP.out).mono ?_
    rintro e w5' ⟨rfl, rfl⟩
    go_wp2_with fail
    refine (HDONE.out w5 hb5).mono ?_
    rintro e w6 ⟨rfl, hb6⟩
    go_wp2
    go_ret
    exact ⟨rfl, hBw.trans ((hb5.trans (hb6.mono hb5.size)).mono hBw.size)⟩
  have HPY := Lib.hid hp
  clear hp HDONE
  have HV := Lib.hid (safe_rv HS.out)
  have HA : Hid (arg3 r x y = true) := by show _ = _; unfold arg3; rw [HS.out, HPX.out, HPY.out]; rfl
  have HBJ : Hid (B = joinB r x y) := by show _ = _; rw [HBE.out, HA.out]; rfl
  have HFIN : Hid (B = false → ∀ w9, Below w4.heap.size w4 w9 → Calls Try.prog 24 #[.slice (some ⟨N2, 0, none⟩) R.length c2, .slice (some ⟨N, 0, none⟩) r.length cap1] w9 fun e w' => e = .returned (.bool true) ∧ Below w9.heap.size w9 w') := fun hb w9 hb9 => by
    have hRr : R = r := by rw [HRE.out]; unfold joinR; rw [HA.out, if_pos rfl, ← HBJ.out, hb]; rfl
    have h1 := HR4.out.keepB hb9 (Nat.le_refl _)
    have h2 := HI4.out.keepB hb9 (Nat.le_refl _)
    have h3 := HSR.out
    rw [hRr] at h1 h3 ⊢
    exact sameRing_same _ _ _ c2 cap1 r w9 h1 h2 rfl (small_of h3)
  have hyp := (ptB_iff y).1 HPY.out
  have hxp := (ptB_iff x).1 HPX.out
  have HXP := Lib.hid hxp
  have HYP := Lib.hid hyp
  have dx : decide (x < 0) = false := decide_eq_false (by omega)
  have dy : decide (0 ≤ y) = true := decide_eq_true hyp.1
  clear hyp hxp
  go_wp2_with fail
  refine (ssafe_as true _ _ cap1 r w4 HI4.out rfl HM.out HS.out).mono ?_
  rintro e w5 ⟨rfl, hb5⟩
  go_wp2_with fail
  refine (lpoint_as true x w5 HPX.out).mono ?_
  rintro e w5' ⟨rfl, rfl⟩
  go_wp2_with fail
  refine (lpoint_as true y w5 HPY.out).mono ?_
  rintro e w5' ⟨rfl, rfl⟩
  have HI5 := Lib.hid (HI4.out.keepB hb5 (Nat.le_refl _))
  go_wp2_with fail
  rcases bool_cases (liveB r x) with hx | hx
  case inr =>
    have HIX : Hid (idAt r x = x) := by show _ = _; unfold idAt; rw [if_pos hx]
    have hB0 : B = false := by rw [HBJ.out]; unfold joinB; rw [hx]; simp
    clear hx
    refine (nodeAt_as x _ _ cap1 x r w5 HI5.out rfl HM.out HIX.out).mono ?_
    rintro e w6 ⟨b6, a6, l6, c6, rfl, hb6⟩
    have hf6 := field_id x b6 a6 l6 c6
    have hB6 := hb5.trans (hb6.mono hb5.size)
    subst hB0
    go_wp2_with fail
    refine (HFIN.out (by trivial) w6 hB6).mono ?_
    rintro e w7 ⟨rfl, hb7⟩
    go_wp2
    go_ret
    exact ⟨rfl, hBw.trans ((hB6.trans (hb7.mono hB6.size)).mono hBw.size)⟩
  have HX := Lib.hid hx
  have HIX : Hid (idAt r x = -1) := by show _ = _; unfold idAt; rw [hx]; rfl
  clear hx
  refine (nodeAt_as (-1) _ _ cap1 x r w5 HI5.out rfl HM.out HIX.out).mono ?_
  rintro e w6 ⟨b6, a6, l6, c6, rfl, hb6⟩
  have hf6 := field_id (-1) b6 a6 l6 c6
  have hB6 := hb5.trans (hb6.mono hb5.size)
  have HI6 := Lib.hid (HI4.out.keepB hB6 (Nat.le_refl _))
  go_wp2_with fail
  rcases bool_cases (liveB r y) with hy | hy
  · have HIY : Hid (idAt r y = -1) := by show _ = _; unfold idAt; rw [hy]; rfl
    have hB0 : B = false := by rw [HBJ.out]; unfold joinB; rw [hy]; simp
    clear hy
    refine (nodeAt_as (-1) _ _ cap1 y r w6 HI6.out rfl HM.out HIY.out).mono ?_
    rintro e w7 ⟨b7, a7, l7, c7, rfl, hb7⟩
    have hf7 := field_id (-1) b7 a7 l7 c7
    have hB7 := hB6.trans (hb7.mono hB6.size)
    subst hB0
    go_wp2_with fail
    refine (HFIN.out (by trivial) w7 hB7).mono ?_
    rintro e w8 ⟨rfl, hb8⟩
    go_wp2
    go_ret
    exact ⟨rfl, hBw.trans ((hB7.trans (hb8.mono hB7.size)).mono hBw.size)⟩
  have HY := Lib.hid hy
  have HIY : Hid (idAt r y = y) := by show _ = _; unfold idAt; rw [if_pos hy]
  clear hy
  refine (nodeAt_as y _ _ cap1 y r w6 HI6.out rfl HM.out HIY.out).mono ?_
  rintro e w7 ⟨b7, a7, l7, c7, rfl, hb7⟩
  have hf7 := field_id y b7 a7 l7 c7
  have hB7 := hB6.trans (hb7.mono hB6.size)
  have HI7 := Lib.hid (HI4.out.keepB hB7 (Nat.le_refl _))
  by_cases hten : r.length < 10
  case neg =>
    have hB0 : B = false := by rw [HBJ.out]; unfold joinB; rw [decide_eq_false hten]; simp
    have dl : decide ((r.length : Int) < 10) = false := decide_eq_false (by omega)
    subst hB0
    go_wp2_with fail
    refine (HFIN.out (by trivial) w7 hB7).mono ?_
    rintro e w8 ⟨rfl, hb8⟩
    go_wp2
    go_ret
    exact ⟨rfl, hBw.trans ((hB7.trans (hb8.mono hB7.size)).mono hBw.size)⟩
  have dl : decide ((r.length : Int) < 10) = true := decide_eq_true (by omega)
  have hk := (idx_live HY.out).1
  obtain ⟨_, _, ha0, ha1, haf⟩ := nd_open HV.out hk
  obtain ⟨A, hA⟩ : ∃ A, A = gt (gn r (idxR r y)).aft 0 := ⟨_, rfl⟩
  obtain ⟨C, hC⟩ : ∃ C, C = gt (gn r (idxR r y)).aft 1 := ⟨_, rfl⟩
  obtain ⟨P, hP⟩ : ∃ P, P = (gn r (idxR r y)).pos := ⟨_, rfl⟩
  obtain ⟨Q, hQ⟩ : ∃ Q, Q = (gn r (idxR r y)).bef := ⟨_, rfl⟩
  have HM1 : Hid (ndAt r y = ⟨P, Q, [A, C]⟩) := by show _ = _; unfold ndAt; rw [if_pos HY.out]; exact nd_ext4 hP.symm hQ.symm (by rw [haf, hA, hC])
  have HBT : Hid (btwB y x A = B) := by
    show _ = _
    rw [HBJ.out]; unfold joinB first; rw [HY.out, HX.out, decide_eq_true hten, ← hA]
    unfold btwB
    rw [HPX.out, HPY.out, (ptB_iff A).2 (by rw [hA]; exact ha0)]; simp
  clear hA hC hP hQ haf ha0 ha1 hk hten
  have hf2 := field_aft
  go_wp2_with fail
  have hn1 := nodeAt_full _ _ cap1 y r w7 HI7.out rfl HM.out HV.out
  unfold NodeFull at hn1
  rw [HM1.out] at hn1
  refine hn1.mono ?_
  rintro e w8 ⟨sa, sc, rfl, hsc, hin8, hb8⟩
  clear hn1
  obtain ⟨b8, o8, rfl, hbl8, hx8, hy8⟩ := ints_two hin8
  clear hin8
  have hB8 := hB7.trans (hb8.mono hB7.size)
  go_wp2_with fail
  refine (cbtw_as B y x A w8 HBT.out).mono ?_
  rintro e w9 ⟨rfl, rfl⟩
  rcases bool_cases B with hb | hb
  · subst hb
    go_wp2_with fail
    refine (HFIN.out (by trivial) w8 hB8).mono ?_
    rintro e w9 ⟨rfl, hb9⟩
    go_wp2
    go_ret
    exact ⟨rfl, hBw.trans ((hB8.trans (hb9.mono hB8.size)).mono hBw.size)⟩
  · subst hb
    go_wp2
    go_ret
    exact ⟨rfl, hBw.trans (hB8.mono hBw.size)⟩

end Go.Proofs.Ytndjkokipiikpaa
