/- The law of adopting successors. -/
import Derived.Test.YtkpbbmehcioolaaLawsSafe2
import Derived.Deep.DrawnRows
import Derived.Test.YtkpbbmehcioolaaLawsH
import Derived.Test.YtkpbbmehcioolaaDrawS
import Derived.Test.YtkpbbmehcioolaaDrawK
import Derived.Test.YtkpbbmehcioolaaLawsActM
namespace Go.Proofs.Ytkpbbmehcioolaa
open Go.RowKit
set_option linter.unusedVariables false

attribute [local go_sem ↓] Go.wp_at_zero Go.wp_at_succ

set_option maxRecDepth 20000 in
set_option maxHeartbeats 4000000 in
theorem adoptLaw (s : Option Addr) (len cap : Nat) (z : List Int) (w : World) (h : RowIn .u8 w s len cap z) :
    Calls Try.prog 3 #[.slice s len cap] w fun e w' => e = .returned (.bool true) ∧ Below w.heap.size w w' := by
  have hb := bytes_of_row h
  have hm : len ≤ maxLen := Nat.le_trans hb.1 hb.2.1
  unfold maxLen at hm
  clear h
  by_cases hl : 1048576 < len
  · go_enter Try.func3, Try.ntmps3
    go_wp2
    go_ret
    exact ⟨rfl, Below.refl _ _⟩
  have hlB : decide ((1048576 : Int) < (len : Int)) = false := by simp; omega
  go_enter Try.func3, Try.ntmps3
  go_wp2_with fail
  refine (drawRingAdopt s len cap w hb).mono ?_
  rintro e w1 ⟨N, cap1, r, i, rfl, hr1, h10, hcap, hcm, hB1⟩
  have HI := Lib.hid hr1
  have hmx : r.length ≤ maxLen := by unfold maxLen; omega
  have HM := Lib.hid hmx
  have HIM0 := fun w0 (h : RingAt w0 (some ⟨N, 0, none⟩) r) (hm : r.length ≤ maxLen) => radopt_any _ _ cap1 i r w0 h rfl hm
  have HSP0 := fun w0 (h : RingAt w0 (some ⟨N, 0, none⟩) r) (hm : r.length ≤ maxLen) (hc : r.length ≤ cap1) (hcm : cap1 ≤ maxLen) => sradopt_any _ _ cap1 i r w0 h rfl hm
  have HSR0 : szR (selR r (oneB r i) i (adoptR r)) ≤ 1048576 := sel_sz4 (fun hs k hk => safe_rv (adopt_ok hs hk).safe) (fun h => by exact (by simpa [oneB] using h : safeB r = true ∧ ptB i = true).1)
  obtain ⟨R, hR⟩ : ∃ R, R = (selR r (oneB r i) i (adoptR r)) := ⟨_, rfl⟩
  obtain ⟨B, hBB⟩ : ∃ B, B = (selB r (oneB r i) i (adoptB r)) := ⟨_, rfl⟩
  simp only [← hR, ← hBB] at HIM0 HSP0 HSR0
  have HIM := Lib.hid HIM0
  have HSP := Lib.hid HSP0
  have HSR := Lib.hid HSR0
  have HRE := Lib.hid hR
  have HBE := Lib.hid hBB
  have HMR : Hid (R.length ≤ maxLen) := small_max HSR0
  clear hr1 hmx hlB HIM0 HSP0 HSR0 hR hBB
  go_wp2_with fail
  refine (HIM.out w1 HI.out HM.out).mono ?_
  rintro e w2 ⟨N2, c2, F2, rfl, ho2, hc2, hcm2, hb2⟩
  have HO2 := Lib.hid ho2.ring
  clear ho2
  go_wp2_with fail
  refine (HSP.out w2 (HI.out.keepB hb2 (Nat.le_refl _)) HM.out hcap hcm).mono ?_
  rintro e w3 ⟨N3, c3, F3, rfl, ho3, _, _, hb3⟩
  have HO3 := Lib.hid ho3.ring
  clear ho3
  have v1 : (!B == B) = false := by simp
  have v2 : (B == B) = true := by simp
  go_wp2_with fail
  refine (sameRing_same _ _ _ c2 c3 R w3 (HO2.out.keepB hb3 (Nat.le_refl _)) HO3.out rfl (small_of HSR.out)).mono ?_
  rintro e w4 ⟨rfl, hb4⟩
  have hB24 : Below w2.heap.size w2 w4 := hb3.trans (hb4.mono hb3.size)
  have hB14 : Below w1.heap.size w1 w4 := hb2.trans (hB24.mono hb2.size)
  have hBw : Below w.heap.size w w4 := hB1.trans (hB14.mono hB1.size)
  have HI4 := Lib.hid (HI.out.keepB hB14 (Nat.le_refl _))
  have HR4 := Lib.hid (HO2.out.keepB hB24 (Nat.le_refl _))
  rcases bool_cases B with hbv | hbv
  · subst hbv
    go_wp2_with fail
    refine (sameRing_same _ _ _ c2 c3 R w4 HR4.out (HO3.out.keepB hb4 (Nat.le_refl _)) rfl (small_of HSR.out)).mono ?_
    rintro e w5 ⟨rfl, hb5⟩
    go_wp2
    go_ret
    exact ⟨rfl, hBw.trans (hb5.mono hBw.size)⟩
  subst hbv
  clear v1 v2
  have HF : Hid ((oneB r i = true ∧ liveB r i = true) ∧ adoptB r (idxR r i) = true ∧ R = adoptR r (idxR r i)) := by
    have h1 := HBE.out
    unfold selB at h1
    have h2 : (oneB r i = true ∧ liveB r i = true) ∧ adoptB r (idxR r i) = true := by simpa using h1.symm
    refine ⟨h2.1, h2.2, ?_⟩
    rw [HRE.out]; unfold selR; rw [h2.1.1, h2.1.2]; rfl
  have HS := Lib.hid (one_safe HF.out.1.1)
  have HV := Lib.hid (safe_rv HS.out)
  have HK := Lib.hid (idx_live HF.out.1.2)
  have HN1 : Hid (ndAt r i = gn r (idxR r i)) := by show _ = _; unfold ndAt; rw [HF.out.1.2]; rfl
  have hlive : liveB r (gt (gn r (idxR r i)).aft 0) = true := by have := HF.out.2.1; unfold adoptB at this; exact this
  obtain ⟨sx, hsx⟩ : ∃ sx, sx = idxR r (gt (gn r (idxR r i)).aft 0) := ⟨_, rfl⟩
  have HSX := Lib.hid (idx_live hlive)
  rw [← hsx] at HSX
  have HRS : Hid (R = folR r (idxR r i) sx) := by show _ = _; rw [HF.out.2.2]; unfold adoptR; rw [HF.out.2.1, hsx]; rfl
  have HOK : Hid (SetOk r R) := by show SetOk _ _; rw [HF.out.2.2]; exact adopt_ok HS.out HK.out.1
  have HVR := Lib.hid (safe_rv HOK.out.safe)
  have HN2 : Hid (ndAt R i = wAft (gn r (idxR r i)) (gn r sx).pos (gt (gn r sx).aft 0)) := by
    show _ = _
    have hl : liveB R i = true := by rw [live_same HOK.out.len HOK.out.pos]; exact HF.out.1.2
    have he : idxR R i = idxR r i := idx_same2 HV.out HOK.out.len HOK.out.pos HF.out.1.2
    unfold ndAt; rw [if_pos hl, he, HRS.out, folR, gn_set' HK.out.1, if_pos rfl]
  have HN3 : Hid (ndAt r (gt (gn r (idxR r i)).aft 0) = gn r sx) := by show _ = _; unfold ndAt; rw [if_pos hlive, hsx]
  have haf := (nd_open HV.out HK.out.1).2.2.2.2
  have haf2 := (nd_open HV.out HSX.out.1).2.2.2.2
  obtain ⟨A, hA⟩ : ∃ A, A = gt (gn r (idxR r i)).aft 0 := ⟨_, rfl⟩
  obtain ⟨C, hC⟩ : ∃ C, C = gt (gn r (idxR r i)).aft 1 := ⟨_, rfl⟩
  obtain ⟨P, hP⟩ : ∃ P, P = (gn r (idxR r i)).pos := ⟨_, rfl⟩
  obtain ⟨Q, hQ⟩ : ∃ Q, Q = (gn r (idxR r i)).bef := ⟨_, rfl⟩
  obtain ⟨D, hD⟩ : ∃ D, D = gt (gn r sx).aft 0 := ⟨_, rfl⟩
  obtain ⟨D2, hD2⟩ : ∃ D2, D2 = gt (gn r sx).aft 1 := ⟨_, rfl⟩
  obtain ⟨B2, hB2⟩ : ∃ B2, B2 = (gn r sx).bef := ⟨_, rfl⟩
  rw [← hA] at HSX HN3
  have HM1 : Hid (ndAt r i = ⟨P, Q, [A, C]⟩) := by show _ = _; rw [HN1.out]; exact nd_ext3 hP.symm hQ.symm (by rw [haf, hA, hC])
  have HM2 : Hid (ndAt R i = ⟨P, Q, [A, D]⟩) := by show _ = _; rw [HN2.out, HSX.out.2.1, hP, hQ, hD]; rfl
  have HM3 : Hid (ndAt r A = ⟨A, B2, [D, D2]⟩) := by show _ = _; rw [HN3.out]; exact nd_ext3 HSX.out.2.1 hB2.symm (by rw [haf2, hD, hD2])
  have HAF : Hid ((gn r sx).aft = [D, D2]) := by show _ = _; rw [haf2, hD, hD2]
  have HBF : Hid ((gn r sx).bef = B2) := hB2.symm
  clear hA hC hP hQ hD hD2 hB2 haf haf2 hlive hsx
  go_wp2_with fail
  have hn1 := nodeAt_full _ _ cap1 i r w4 HI4.out rfl HM.out HV.out
  unfold NodeFull at hn1
  rw [HM1.out] at hn1
  refine hn1.mono ?_
  rintro e w5 ⟨sa, sc, rfl, hsc, hin5, hb5⟩
  clear hn1
  obtain ⟨b5, o5, rfl, hbl5, hx5, hy5⟩ := ints_two hin5
  have HI5 := Lib.hid (HI4.out.keepB hb5 (Nat.le_refl _))
  have HR5 := Lib.hid (HR4.out.keepB hb5 (Nat.le_refl _))
  clear hin5
  go_wp2_with fail
  have HBA : Hid (Below w5.heap.size w5 (w5.alloc (.cells #[.int .i64 P, .int .i64 Q, .slice (some ⟨b5, o5, none⟩) 2 sc] 31 (0, 0)))) := (Below.refl _ _).alloc (Nat.le_refl _) _
  have HC6 : Hid ((w5.alloc (.cells #[.int .i64 P, .int .i64 Q, .slice (some ⟨b5, o5, none⟩) 2 sc] 31 (0, 0))).cell? ⟨w5.heap.size, 2, none⟩ = some (.slice (some ⟨b5, o5, none⟩) 2 sc)) := by show _ = _; rw [World.cell?_alloc_at _ _ _ _ rfl]; rfl
  have HQ6 : Hid ((w5.alloc (.cells #[.int .i64 P, .int .i64 Q, .slice (some ⟨b5, o5, none⟩) 2 sc] 31 (0, 0))).cell? ⟨w5.heap.size, 1, none⟩ = some (.int .i64 Q)) := by show _ = _; rw [World.cell?_alloc_at _ _ _ _ rfl]; rfl
  have HX6 := Lib.hid (bcell2 HBA.out hx5)
  have HY6 := Lib.hid (bcell2 HBA.out hy5)
  have HI6 := Lib.hid (HI5.out.keepB HBA.out (Nat.le_refl _))
  have HR6 := Lib.hid (HR5.out.keepB HBA.out (Nat.le_refl _))
  have HB6 := Lib.hid ((hBw.trans (hb5.mono hBw.size)).trans (HBA.out.mono (hBw.trans (hb5.mono hBw.size)).size))
  generalize hgw : w5.alloc (.cells #[.int .i64 P, .int .i64 Q, .slice (some ⟨b5, o5, none⟩) 2 sc] 31 (0, 0)) = w6 at HBA HC6 HQ6 HX6 HY6 HI6 HR6 HB6 ⊢
  generalize hgm : w5.heap.size = m6 at HC6 HQ6 ⊢
  clear hgw HBA hx5 hy5 HI5 HR5 hgm hbl5
  have hn1 := nodeAt_full _ _ c2 i R w6 HR6.out rfl HMR.out HVR.out
  unfold NodeFull at hn1
  rw [HM2.out] at hn1
  refine hn1.mono ?_
  rintro e w7 ⟨sa, sd, rfl, hsd, hin7, hb7⟩
  clear hn1
  obtain ⟨b7, o7, rfl, hbl7, hx7, hy7⟩ := ints_two hin7
  clear hin7 hbl7
  have HI7 := Lib.hid (HI6.out.keepB hb7 (Nat.le_refl _))
  have HC7 := Lib.hid (bcell2 hb7 HC6.out)
  have HQ7 := Lib.hid (bcell2 hb7 HQ6.out)
  have HX7 := Lib.hid (bcell2 hb7 HX6.out)
  have HY7 := Lib.hid (bcell2 hb7 HY6.out)
  have HB7 := Lib.hid (HB6.out.trans (hb7.mono HB6.out.size))
  clear HC6 HQ6 HX6 HY6 HI6 HR6 HB6 hb7
  go_wp2_with fail
  have HBA : Hid (Below w7.heap.size w7 (w7.alloc (.cells #[.int .i64 P, .int .i64 Q, .slice (some ⟨b7, o7, none⟩) 2 sd] 31 (0, 0)))) := (Below.refl _ _).alloc (Nat.le_refl _) _
  have HD8 : Hid ((w7.alloc (.cells #[.int .i64 P, .int .i64 Q, .slice (some ⟨b7, o7, none⟩) 2 sd] 31 (0, 0))).cell? ⟨w7.heap.size, 2, none⟩ = some (.slice (some ⟨b7, o7, none⟩) 2 sd)) := by show _ = _; rw [World.cell?_alloc_at _ _ _ _ rfl]; rfl
  have HQD8 : Hid ((w7.alloc (.cells #[.int .i64 P, .int .i64 Q, .slice (some ⟨b7, o7, none⟩) 2 sd] 31 (0, 0))).cell? ⟨w7.heap.size, 1, none⟩ = some (.int .i64 Q)) := by show _ = _; rw [World.cell?_alloc_at _ _ _ _ rfl]; rfl
  have HU8 := Lib.hid (bcell2 HBA.out hx7)
  have HV8 := Lib.hid (bcell2 HBA.out hy7)
  have HC8 := Lib.hid (bcell2 HBA.out HC7.out)
  have HQ8 := Lib.hid (bcell2 HBA.out HQ7.out)
  have HX8 := Lib.hid (bcell2 HBA.out HX7.out)
  have HY8 := Lib.hid (bcell2 HBA.out HY7.out)
  have HI8 := Lib.hid (HI7.out.keepB HBA.out (Nat.le_refl _))
  have HB8 := Lib.hid (HB7.out.trans (HBA.out.mono HB7.out.size))
  generalize hgw : w7.alloc (.cells #[.int .i64 P, .int .i64 Q, .slice (some ⟨b7, o7, none⟩) 2 sd] 31 (0, 0)) = w8 at HBA HD8 HQD8 HU8 HV8 HC8 HQ8 HX8 HY8 HI8 HB8 ⊢
  generalize hgm : w7.heap.size = m8 at HD8 HQD8 ⊢
  obtain ⟨bN, oN, hN1, hN0, hcN⟩ := HI8.out.at_ HSX.out.1
  injection hN1 with hN1; injection hN1 with hN1 hN2; subst hN1 hN2
  obtain ⟨_, _, v9, hv9, a9, c9, hva, _, _, hi9⟩ := hcN sx HSX.out.1
  rw [HAF.out] at hva hi9
  rw [Nat.zero_add] at hv9
  obtain ⟨b9, o9, ha9, _, hz9, _⟩ := ints_two hi9
  subst ha9
  rw [hva] at hv9
  have HZ9 := Lib.hid hz9
  have HV9 := Lib.hid hv9
  clear hcN hv9 hva hi9 hz9
  have HCA : Hid (∀ w', Below w8.heap.size w8 w' → Calls Try.prog 13 #[.slice (some ⟨N, 0, none⟩) r.length cap1, .int .i64 A] w' fun e w'' => e = .returned (.agg #[.int .i64 A, .int .i64 B2, .slice (some ⟨b9, o9, none⟩) 2 c9]) ∧ Below w8.heap.size w8 w'') := fun w' hb' => by
    have hn1 := nodeAt_at N r.length cap1 A r w' (HI8.out.keepB hb' (Nat.le_refl _)) rfl HM.out HV.out sx HSX.out.1 HSX.out.2.1 (some ⟨b9, o9, none⟩) 2 c9 (Nat.lt_of_lt_of_le hN0 hb'.size) (bcell2 hb' HV9.out)
    rw [HBF.out] at hn1
    refine hn1.mono ?_
    rintro e w'' ⟨rfl, hb''⟩
    exact ⟨rfl, hb'.trans (hb''.mono hb'.size)⟩
  have HS8 : Hid (∀ w', Below w8.heap.size w8 w' → Below w8.heap.size w8 w' ∧ w'.cell? ⟨m6, 1, none⟩ = some (.int .i64 Q) ∧ w'.cell? ⟨m6, 2, none⟩ = some (.slice (some ⟨b5, o5, none⟩) 2 sc) ∧ w'.cell? ⟨b5, o5, none⟩ = some (.int .i64 A) ∧ w'.cell? ⟨m8, 1, none⟩ = some (.int .i64 Q) ∧ w'.cell? ⟨m8, 2, none⟩ = some (.slice (some ⟨b7, o7, none⟩) 2 sd) ∧ w'.cell? ⟨b7, o7, none⟩ = some (.int .i64 A) ∧ w'.cell? ⟨b7, o7 + 1, none⟩ = some (.int .i64 D) ∧ w'.cell? ⟨b9, o9, none⟩ = some (.int .i64 D)) := fun w' hb' => ⟨hb', bcell2 hb' HQ8.out, bcell2 hb' HC8.out, bcell2 hb' HX8.out, bcell2 hb' HQD8.out, bcell2 hb' HD8.out, bcell2 hb' HU8.out, bcell2 hb' HV8.out, bcell2 hb' HZ9.out⟩
  clear hgw hgm hx7 hy7 HC7 HQ7 HX7 HY7 HI7 HB7 HBA hsc hsd hb5 hb4 hb3 hb2 hcap hcm hl hm
  clear HI8 HD8 HQD8 HU8 HV8 HC8 HQ8 HX8 HY8 HAF HBF HZ9 HV9 hN0 HIM HSP HBE HF HS HK HN1 HRS HOK HVR HN2 HM1 HM2 HM3 HN3 HSX HI4 HR4 HO2 HO3 HSR HMR HM HI HV hB24 hB14 hBw hB1
  have f2 : ∀ (v b : Int) (a : Option Addr) (l c : Nat) (w : World), (Instr.field 31 (.agg #[.int .i64 v, .int .i64 b, .slice a l c]) 2).run Try.prog w = .ok (.slice a l c) w := fieldAft
  have e1 : (A == A) = true := by simp
  have e2 : (D == D) = true := by simp
  have e3 : (Q == Q) = true := by simp
  go_region_held3 (fun w' => Below w8.heap.size w8 w' ∧ w'.cell? ⟨m6, 1, none⟩ = some (.int .i64 Q) ∧ w'.cell? ⟨m6, 2, none⟩ = some (.slice (some ⟨b5, o5, none⟩) 2 sc) ∧ w'.cell? ⟨b5, o5, none⟩ = some (.int .i64 A) ∧ w'.cell? ⟨m8, 1, none⟩ = some (.int .i64 Q) ∧ w'.cell? ⟨m8, 2, none⟩ = some (.slice (some ⟨b7, o7, none⟩) 2 sd) ∧ w'.cell? ⟨b7, o7, none⟩ = some (.int .i64 A) ∧ w'.cell? ⟨b7, o7 + 1, none⟩ = some (.int .i64 D) ∧ w'.cell? ⟨b9, o9, none⟩ = some (.int .i64 D)) (first | (exact HS8.out _ hba) | (exact HS8.out _ (Below.refl _ _)) | (exact HS8.out _ (Below.drew (Below.refl _ _))))
    ((go_at_call 13; refine (HCA.out _ (by first | exact Below.refl _ _ | exact Below.drew (Below.refl _ _))).mono ?_; rintro e wa ⟨rfl, hba⟩))
  go_wp2
  go_ret
  exact ⟨rfl, HB8.out.trans (hba.mono HB8.out.size)⟩
end Go.Proofs.Ytkpbbmehcioolaa
