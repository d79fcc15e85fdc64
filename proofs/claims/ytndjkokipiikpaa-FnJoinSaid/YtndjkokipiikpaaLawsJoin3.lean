/- Joining changes no other node. -/
import Derived.Test.YtndjkokipiikpaaLawsJoin
import Derived.Test.YtndjkokipiikpaaLawsJoin2
import Derived.Deep.DrawnRows
import Derived.Test.YtndjkokipiikpaaLawsH
import Derived.Test.YtndjkokipiikpaaDrawS
namespace Go.Proofs.Ytndjkokipiikpaa
open Go.RowKit
set_option linter.unusedVariables false

attribute [local go_sem ↓] Go.wp_at_zero Go.wp_at_succ

theorem cell_lt3 {w : World} {p : Addr} {v : Value} (h : w.cell? p = some v) : p.block < w.heap.size := by
  rcases Nat.lt_or_ge p.block w.heap.size with hlt | hge
  · exact hlt
  · exfalso
    have hn : w.heap[p.block]? = none := Array.getElem?_eq_none hge
    simp [World.cell?, hn] at h
theorem bcell3 {w w' : World} {a : Addr} {v : Value} (h : Below w.heap.size w w') (hc : w.cell? a = some v) : w'.cell? a = some v := by rw [h.cell (cell_lt3 hc)]; exact hc
theorem join_nd {r : List Nd} {x y : Int} (ha : arg3 r x y = true) (hb : joinB r x y = true) : ndAt (insR r (cntR r x) (joinN r x y)) x = joinN r x y := by
  have hm := (join_pre ha hb).2.2.2.1.1
  have hv := safe_rv (join_pre ha hb).2.2.2.2
  have hl := join_live ha hb
  obtain ⟨h1, h2, _⟩ := idx_live hl
  have hg : gn (insR r (cntR r x) (joinN r x y)) (cntR r x) = joinN r x y := by rw [ins_at hm (by omega), if_neg (by omega), if_pos rfl]
  have he := rv_inj hv h1 (show cntR r x < (insR r (cntR r x) (joinN r x y)).length by rw [ins_len hm]; omega) (by rw [h2, hg]; rfl)
  unfold ndAt; rw [if_pos hl, he, hg]

set_option maxRecDepth 20000 in
set_option maxHeartbeats 4000000 in
theorem joinLaw (s : Option Addr) (len cap : Nat) (z : List Int) (w : World) (h : RowIn .u8 w s len cap z) :
    Calls Try.prog 7 #[.slice s len cap] w fun e w' => e = .returned (.bool true) ∧ Below w.heap.size w w' := by
  have hb := bytes_of_row h
  have hm : len ≤ maxLen := Nat.le_trans hb.1 hb.2.1
  unfold maxLen at hm
  clear h
  by_cases hl : 1048576 < len
  · go_enter Try.func7, Try.ntmps7
    go_wp2
    go_ret
    exact ⟨rfl, Below.refl _ _⟩
  have hlB : decide ((1048576 : Int) < (len : Int)) = false := by simp; omega
  go_enter Try.func7, Try.ntmps7
  go_wp2_with fail
  refine (drawRingJoin s len cap w hb).mono ?_
  rintro e w1 ⟨N, cap1, r, x, y, rfl, hr1, h10, hcap, hcm, hB1⟩
  have HI := Lib.hid hr1
  have hmx : r.length ≤ maxLen := by unfold maxLen; omega
  have HM := Lib.hid hmx
  have HIM0 := fun w0 (h : RingAt w0 (some ⟨N, 0, none⟩) r) (hm : r.length ≤ maxLen) => rjoin_any _ _ cap1 x y r w0 h rfl hm
  have HSP0 := fun w0 (h : RingAt w0 (some ⟨N, 0, none⟩) r) (hm : r.length ≤ maxLen) (hc : r.length ≤ cap1) (hcm : cap1 ≤ maxLen) => sjoin_any _ _ cap1 x y r w0 h rfl hc hcm
  have HSR0 : szR (joinR r x y) ≤ 1048576 := join_sz r x y
  obtain ⟨R, hR⟩ : ∃ R, R = joinR r x y := ⟨_, rfl⟩
  obtain ⟨B, hBB⟩ : ∃ B, B = (arg3 r x y && joinB r x y) := ⟨_, rfl⟩
  simp only [← hR, ← hBB] at HIM0 HSP0 HSR0
  have HIM := Lib.hid HIM0
  have HSP := Lib.hid HSP0
  have HSR := Lib.hid HSR0
  have HRE := Lib.hid hR
  have HBE := Lib.hid hBB
  have HMR : Hid (R.length ≤ maxLen) := small_max HSR0
  clear hr1 hmx hlB HIM0 HSP0 HSR0 hR hBB
  go_wp2_with fail
  refine (HIM.out w1 HI.out HM.out).mono ?_
  rintro e w2 ⟨N2, c2, F2, rfl, ho2, hc2, hcm2, hb2⟩
  have HO2 := Lib.hid ho2.ring
  clear ho2
  go_wp2_with fail
  refine (HSP.out w2 (HI.out.keepB hb2 (Nat.le_refl _)) HM.out hcap hcm).mono ?_
  rintro e w3 ⟨N3, c3, F3, rfl, ho3, _, _, hb3⟩
  have HO3 := Lib.hid ho3.ring
  clear ho3
  have v1 : (!B == B) = false := by simp
  have v2 : (B == B) = true := by simp
  go_wp2_with fail
  refine (sameRing_same _ _ _ c2 c3 R w3 (HO2.out.keepB hb3 (Nat.le_refl _)) HO3.out rfl (small_of HSR.out)).mono ?_
  rintro e w4 ⟨rfl, hb4⟩
  have hB24 : Below w2.heap.size w2 w4 := hb3.trans (hb4.mono hb3.size)
  have hB14 : Below w1.heap.size w1 w4 := hb2.trans (hB24.mono hb2.size)
  have hBw : Below w.heap.size w w4 := hB1.trans (hB14.mono hB1.size)
  have HI4 := Lib.hid (HI.out.keepB hB14 (Nat.le_refl _))
  have HR4 := Lib.hid (HO2.out.keepB hB24 (Nat.le_refl _))
  rcases bool_cases B with hbv | hbv
  · subst hbv
    go_wp2_with fail
    refine (sameRing_same _ _ _ c2 c3 R w4 HR4.out (HO3.out.keepB hb4 (Nat.le_refl _)) rfl (small_of HSR.out)).mono ?_
    rintro e w5 ⟨rfl, hb5⟩
    go_wp2
    go_ret
    exact ⟨rfl, hBw.trans (hb5.mono hBw.size)⟩
  subst hbv
  clear v1 v2
  have HF : Hid ((arg3 r x y = true ∧ joinB r x y = true) ∧ R = insR r (cntR r x) (joinN r x y)) := by
    have h1 := HBE.out
    have h2 : arg3 r x y = true ∧ joinB r x y = true := by simpa using h1.symm
    refine ⟨h2, ?_⟩
    rw [HRE.out]; unfold joinR; rw [h2.1, h2.2]; rfl
  have HP := Lib.hid (join_pre HF.out.1.1 HF.out.1.2)
  have HS := Lib.hid HP.out.1
  have HV := Lib.hid (safe_rv HS.out)
  have HSAFE : Hid (safeB R = true) := by show _ = _; rw [HF.out.2]; exact HP.out.2.2.2.2
  have HVR := Lib.hid (safe_rv HSAFE.out)
  have HLY : Hid (liveB r y = true) := by
    have h := HF.out.1.2
    unfold joinB at h
    simp only [Bool.and_eq_true] at h
    exact h.1.1.1
  have HLEN : Hid (R.length = r.length + 1) := by show _ = _; rw [HF.out.2, ins_len HP.out.2.2.2.1.1]
  have hk := (idx_live HLY.out).1
  obtain ⟨_, _, ha0, ha1, haf⟩ := nd_open HV.out hk
  obtain ⟨A, hA⟩ : ∃ A, A = gt (gn r (idxR r y)).aft 0 := ⟨_, rfl⟩
  obtain ⟨C, hC⟩ : ∃ C, C = gt (gn r (idxR r y)).aft 1 := ⟨_, rfl⟩
  rw [← hA, ← hC] at haf
  have HAF := Lib.hid haf
  have HM1 : Hid (ndAt R x = ⟨x, y, [A, C]⟩) := by show _ = _; rw [HF.out.2, join_nd HF.out.1.1 HF.out.1.2]; unfold joinN; rw [haf]
  have HK := Lib.hid (idx_live HLY.out)
  clear hA hC haf ha0 ha1 hk
  go_wp2_with fail
  have hn1 := nodeAt_full _ _ c2 x R w4 HR4.out rfl HMR.out HVR.out
  unfold NodeFull at hn1
  rw [HM1.out] at hn1
  refine hn1.mono ?_
  rintro e w5 ⟨sa, sc, rfl, hsc, hin5, hb5⟩
  clear hn1
  obtain ⟨b5, o5, hsa, hbl5, hx5, hy5⟩ := ints_two hin5
  subst hsa
  clear hx5 hy5 hbl5
  go_wp2
  have HBA : Hid (Below w5.heap.size w5 (w5.alloc (.cells #[.int .i64 x, .int .i64 y, .slice (some ⟨b5, o5, none⟩) 2 sc] 36 (0, 0)))) := (Below.refl _ _).alloc (Nat.le_refl _) _
  have HD6 : Hid ((w5.alloc (.cells #[.int .i64 x, .int .i64 y, .slice (some ⟨b5, o5, none⟩) 2 sc] 36 (0, 0))).cell? ⟨w5.heap.size, 1, none⟩ = some (.int .i64 y)) := by show _ = _; rw [World.cell?_alloc_at _ _ _ _ rfl]; rfl
  have HC6 : Hid ((w5.alloc (.cells #[.int .i64 x, .int .i64 y, .slice (some ⟨b5, o5, none⟩) 2 sc] 36 (0, 0))).cell? ⟨w5.heap.size, 2, none⟩ = some (.slice (some ⟨b5, o5, none⟩) 2 sc)) := by show _ = _; rw [World.cell?_alloc_at _ _ _ _ rfl]; rfl
  have HN6 := Lib.hid (hin5.keepB HBA.out (Nat.le_refl _))
  have hB46 : Hid (Below w4.heap.size w4 (w5.alloc (.cells #[.int .i64 x, .int .i64 y, .slice (some ⟨b5, o5, none⟩) 2 sc] 36 (0, 0)))) := hb5.trans (HBA.out.mono hb5.size)
  generalize hgw : w5.alloc (.cells #[.int .i64 x, .int .i64 y, .slice (some ⟨b5, o5, none⟩) 2 sc] 36 (0, 0)) = w6 at HBA HD6 HC6 HN6 hB46 ⊢
  generalize hgm : w5.heap.size = m6 at HD6 HC6 ⊢
  have HI6 := Lib.hid (HI4.out.keepB hB46.out (Nat.le_refl _))
  have HR6 := Lib.hid (HR4.out.keepB hB46.out (Nat.le_refl _))
  have HB6 : Hid (Below w.heap.size w w6) := hBw.trans (hB46.out.mono hBw.size)
  clear hgw hgm HBA hin5 hsc
  go_loopw [11] (fun q wr => ∃ m : Nat, m ≤ r.length ∧ q = .int .i64 m ∧ Below w6.heap.size w6 wr) (fun q _ => r.length - (intOf q).toNat)
  case atStart => exact ⟨0, by omega, rfl, Below.refl _ _⟩
  case round =>
    obtain ⟨m, hmm, rfl, hbi⟩ := hrel
    obtain ⟨wo, rfl⟩ : ∃ x, x = wr := ⟨_, rfl⟩
    have hzs := hbi.size
    by_cases hlt : m < r.length
    · have hri := HI6.out.keepB hbi (Nat.le_refl _)
      obtain ⟨b, off, b3, o3, sc3, hab, hbl, hb3l, _, _, hc0, hc1, hc2, _, _, hints⟩ := ring_node hri HV.out hlt
      injection hab with hab
      injection hab with hbb hoo
      subst hbb hoo
      rw [Nat.zero_add] at hc0 hc1 hc2
      have i0 : (0 : Int) ≤ (m : Int) := by omega
      have i1 : (m : Int) < (r.length : Int) := by omega
      have e0 : ∀ x : Cls (Below wo.heap.size wo), x.to.cell? ⟨N, m * 3, none⟩ = some (.int .i64 (gn r m).pos) := fun x => (x.ok.cell (p := ⟨N, m * 3, none⟩) hbl).trans hc0
      have e1 : ∀ x : Cls (Below wo.heap.size wo), x.to.cell? ⟨N, m * 3 + 1, none⟩ = some (.int .i64 (gn r m).bef) := fun x => (x.ok.cell (p := ⟨N, m * 3 + 1, none⟩) hbl).trans hc1
      have e2 : ∀ x : Cls (Below wo.heap.size wo), x.to.cell? ⟨N, m * 3 + 2, none⟩ = some (.slice (some ⟨b3, o3, none⟩) 2 sc3) := fun x => (x.ok.cell (p := ⟨N, m * 3 + 2, none⟩) hbl).trans hc2
      have hkk : ∃ kk, kk < R.length ∧ gn R kk = gn r m := by
        obtain ⟨j, hj, he⟩ := ins_old (n := joinN r x y) HP.out.2.2.2.1.1 hlt
        exact ⟨j, by rw [HLEN.out]; exact hj, by rw [HF.out.2]; exact he⟩
      obtain ⟨kk, hkk, hgk⟩ := hkk
      have hrR := HR6.out.keepB hbi (Nat.le_refl _)
      obtain ⟨b', off', b3', o3', sc', hab', hbl', _, _, _, _, _, hd2, _, _, hints'⟩ := ring_node hrR HVR.out hkk
      injection hab' with hab'
      injection hab' with hbb' hoo'
      subst hbb' hoo'
      rw [Nat.zero_add] at hd2
      have hal : (gn r m).aft.length = 2 := by rw [(nd_open HV.out hlt).2.2.2.2]; rfl
      rw [hgk] at hints'
      have HND : Hid (∀ x, Below wo.heap.size wo x → Calls Try.prog 34 #[.slice (some ⟨N2, 0, none⟩) R.length c2, .int .i64 (gn r m).pos] x fun e w' => e = .returned (.agg #[.int .i64 (gn r m).pos, .int .i64 (gn r m).bef, .slice (some ⟨b3', o3', none⟩) 2 sc']) ∧ Below x.heap.size x w') := fun x hx => by
        have := nodeAt_at N2 R.length c2 (gn r m).pos R x (hrR.keepB hx (Nat.le_refl _)) rfl HMR.out HVR.out kk hkk (by rw [hgk]) (some ⟨b3', o3', none⟩) 2 sc' (by have := hx.size; omega) ((hx.cell (p := ⟨N2, kk * 3 + 2, none⟩) hbl').trans hd2)
        rwa [hgk] at this
      have HSN : Hid (∀ x, Below wo.heap.size wo x → Calls Try.prog 33 #[.agg #[.int .i64 (gn r m).pos, .int .i64 (gn r m).bef, .slice (some ⟨b3', o3', none⟩) 2 sc'], .agg #[.int .i64 (gn r m).pos, .int .i64 (gn r m).bef, .slice (some ⟨b3, o3, none⟩) 2 sc3]] x fun e w' => e = .returned (.bool true) ∧ Below x.heap.size x w') := fun x hx => by
        have := sameNode_same (gn r m) (some ⟨b3', o3', none⟩) (some ⟨b3, o3, none⟩) sc' sc3 x (hints'.keepB hx (Nat.le_refl _)) (hints.keepB hx (Nat.le_refl _)) (by rw [hal]; omega)
        rwa [hal] at this
      clear hri hc0 hc1 hc2 hbl hints hints' hrR hd2 hbl' hgk hkk hal
      go_wp2_with fail
      refine wp_region_cls (Below wo.heap.size wo) (by kernel_rfl) (by kernel_rfl) below_drawn ?_
      repeat (go_big_quiet_step (first | (go_at_call 34; rename_i x; exact cls_below (HND.out _ x.ok) x.ok (Nat.le_refl _)) | (go_at_call 33; rename_i x; exact cls_below (HSN.out _ x.ok) x.ok (Nat.le_refl _))))
      refine wpQuiet_nil ?_
      intro w7 hw'
      have hb7 := cls_out hw'
      clear hw' e0 e1 e2
      go_wp2
      go_roundw
      case rel => exact ⟨m + 1, by omega, by go_num, hbi.trans (hb7.mono hzs)⟩
      case measure => simp [intOf]; omega
    · have hri := HI6.out.keepB hbi (Nat.le_refl _)
      obtain ⟨b, off, b3, o3, sc3, hab, hbl, hb3l, _, _, hc0, hc1, hc2, _, _, hints⟩ := ring_node hri HV.out HK.out.1
      injection hab with hab
      injection hab with hbb hoo
      subst hbb hoo
      rw [Nat.zero_add] at hc2
      rw [HAF.out] at hints
      have hints5 := HN6.out.keepB hbi (Nat.le_refl _)
      have HND : Hid (∀ w', Below wo.heap.size wo w' → Calls Try.prog 34 #[.slice (some ⟨N, 0, none⟩) r.length cap1, .int .i64 y] w' fun e w'' => e = .returned (.agg #[.int .i64 y, .int .i64 (gn r (idxR r y)).bef, .slice (some ⟨b3, o3, none⟩) 2 sc3]) ∧ Below wo.heap.size wo w'') := fun w' hb' =>
        (nodeAt_at N r.length cap1 y r w' (hri.keepB hb' (Nat.le_refl _)) rfl HM.out HV.out (idxR r y) HK.out.1 HK.out.2.1 (some ⟨b3, o3, none⟩) 2 sc3 (by have := hb'.size; omega) ((hb'.cell (p := ⟨N, idxR r y * 3 + 2, none⟩) hbl).trans hc2)).mono fun e w'' ⟨h1, h2⟩ => ⟨h1, hb'.trans (h2.mono hb'.size)⟩
      have HSI : Hid (∀ w', Below wo.heap.size wo w' → Calls Try.prog 37 #[.slice (some ⟨b5, o5, none⟩) 2 sc, .slice (some ⟨b3, o3, none⟩) 2 sc3] w' fun e w'' => e = .returned (.bool true) ∧ Below wo.heap.size wo w'') := fun w' hb' =>
        (sameI_same (some ⟨b5, o5, none⟩) (some ⟨b3, o3, none⟩) 2 sc sc3 [A, C] w' (hints5.keepB hb' (Nat.le_refl _)) (hints.keepB hb' (Nat.le_refl _)) rfl (by omega)).mono fun e w'' ⟨h1, h2⟩ => ⟨h1, hb'.trans ((h2.below _).mono hb'.size)⟩
      have HS8 : Hid (∀ w', Below wo.heap.size wo w' → Below wo.heap.size wo w' ∧ w'.cell? ⟨m6, 1, none⟩ = some (.int .i64 y) ∧ w'.cell? ⟨m6, 2, none⟩ = some (.slice (some ⟨b5, o5, none⟩) 2 sc)) := fun w' hb' => ⟨hb', bcell3 hb' (bcell3 hbi HD6.out), bcell3 hb' (bcell3 hbi HC6.out)⟩
      have hB8 := Below.refl wo.heap.size wo
      have vl : ((R.length : Int) == (r.length : Int) + 1) = true := by rw [HLEN.out]; simp
      have hwr : IntKind.i64.wrap ((r.length : Int) + 1) = r.length + 1 := by rw [IntKind.wrap_i64]; omega
      have hBo := Lib.hid (HB6.out.trans (hbi.mono HB6.out.size))
      generalize (gn r (idxR r y)).bef = qq at HND
      clear hri hc0 hc1 hc2 hints hints5 hbi hbl hb3l HI6 HR6 HN6 HD6 HC6 HIM HSP HBE HF HS HP HAF HK HLY HI4 HR4 HO2 HO3 HSR HMR HM HI HV HVR HSAFE HLEN HM1 hB24 hB14 hBw hB1 hb5 hb4 hb3 hb2
      have f2 : ∀ (v b : Int) (a : Option Addr) (l c : Nat) (w : World), (Instr.field 36 (.agg #[.int .i64 v, .int .i64 b, .slice a l c]) 2).run Try.prog w = .ok (.slice a l c) w := field_aft
      go_wp2_with fail
      go_region_held3 (fun w' => Below wo.heap.size wo w' ∧ w'.cell? ⟨m6, 1, none⟩ = some (.int .i64 y) ∧ w'.cell? ⟨m6, 2, none⟩ = some (.slice (some ⟨b5, o5, none⟩) 2 sc)) (first | (exact HS8.out _ (by assumption)) | (exact HS8.out _ (Below.drew (by assumption))))
        (first | (go_at_call 34; refine (HND.out _ (by first | assumption | exact Below.drew (by assumption))).mono ?_; rintro e wa ⟨rfl, hba⟩) | (go_at_call 37; refine (HSI.out _ (by first | assumption | exact Below.drew (by assumption))).mono ?_; rintro e wa ⟨rfl, hba⟩))
      go_wp2
      go_ret
      exact ⟨rfl, hBo.out.trans (‹Below wo.heap.size wo _›.mono hBo.out.size)⟩

end Go.Proofs.Ytndjkokipiikpaa
