/- The law of notifying. -/
import Derived.Test.YtcbbdhmloniolaaLawsSafe2
import Derived.Deep.DrawnRows
import Derived.Test.YtcbbdhmloniolaaLawsH
import Derived.Test.YtcbbdhmloniolaaDrawS
import Derived.Test.YtcbbdhmloniolaaDrawK
import Derived.Test.YtcbbdhmloniolaaLawsActM
import Derived.Test.YtcbbdhmloniolaaRel
namespace Go.Proofs.Ytcbbdhmloniolaa
open Go.RowKit
set_option linter.unusedVariables false

attribute [local go_sem ↓] Go.wp_at_zero Go.wp_at_succ

theorem dist_btw2 {q o p : Int} (hq : 0 ≤ q ∧ q < 64) (ho : 0 ≤ o ∧ o < 64) (hp : 0 ≤ p ∧ p < 64) (hn : q ≠ p) (h : btwI q o p = true) : dstI o p < dstI q p := by
  have h1 : ptB q = true := (ptB_iff q).2 hq
  have h2 : ptB o = true := (ptB_iff o).2 ho
  have h3 : ptB p = true := (ptB_iff p).2 hp
  rw [btwI_iff] at h
  unfold dstI dist
  rw [h1, h2, h3]
  show (p - o) % 64 < (p - q) % 64
  omega
theorem two_ints {w : World} {b o : Nat} {A C : Int} (h0 : w.cell? ⟨b, o, none⟩ = some (.int .i64 A)) (h1 : w.cell? ⟨b, o + 1, none⟩ = some (.int .i64 C)) : IntsAt w (some ⟨b, o, none⟩) [A, C] := by
  refine .inr ⟨b, o, rfl, cell_lt2 h0, fun j hj => ?_⟩
  have hj' : j = 0 ∨ j = 1 := by simp at hj; omega
  rcases hj' with rfl | rfl
  · exact h0
  · exact h1

set_option maxRecDepth 20000 in
set_option maxHeartbeats 4000000 in
theorem notifyLaw (s : Option Addr) (len cap : Nat) (z : List Int) (w : World) (h : RowIn .u8 w s len cap z) :
    Calls Try.prog 4 #[.slice s len cap] w fun e w' => e = .returned (.bool true) ∧ Below w.heap.size w w' := by
  have hb := bytes_of_row h
  have hm : len ≤ maxLen := Nat.le_trans hb.1 hb.2.1
  unfold maxLen at hm
  clear h
  by_cases hl : 1048576 < len
  · go_enter Try.func4, Try.ntmps4
    go_wp2
    go_ret
    exact ⟨rfl, Below.refl _ _⟩
  have hlB : decide ((1048576 : Int) < (len : Int)) = false := by simp; omega
  go_enter Try.func4, Try.ntmps4
  go_wp2_with fail
  refine (drawRingNotify s len cap w hb).mono ?_
  rintro e w1 ⟨N, cap1, r, i, o, rfl, hr1, h10, hcap, hcm, hB1⟩
  have HI := Lib.hid hr1
  have hmx : r.length ≤ maxLen := by unfold maxLen; omega
  have HM := Lib.hid hmx
  have HIM0 := fun w0 (h : RingAt w0 (some ⟨N, 0, none⟩) r) (hm : r.length ≤ maxLen) => rnot_any _ _ cap1 i o r w0 h rfl hm
  have HSP0 := fun w0 (h : RingAt w0 (some ⟨N, 0, none⟩) r) (hm : r.length ≤ maxLen) (hc : r.length ≤ cap1) (hcm : cap1 ≤ maxLen) => srnot_any _ _ cap1 i o r w0 h rfl hm
  have HSR0 : szR (selR r (oneB r i && ptB o) i (fun k => notR r k o)) ≤ 1048576 := sel_sz4 (fun hs k hk => safe_rv (not_ok hs hk).safe) (fun h => by exact (by simpa [oneB] using h : (safeB r = true ∧ ptB i = true) ∧ ptB o = true).1.1)
  obtain ⟨R, hR⟩ : ∃ R, R = (selR r (oneB r i && ptB o) i (fun k => notR r k o)) := ⟨_, rfl⟩
  obtain ⟨B, hBB⟩ : ∃ B, B = (selB r (oneB r i && ptB o) i (fun k => notB r k o)) := ⟨_, rfl⟩
  simp only [← hR, ← hBB] at HIM0 HSP0 HSR0
  have HIM := Lib.hid HIM0
  have HSP := Lib.hid HSP0
  have HSR := Lib.hid HSR0
  have HRE := Lib.hid hR
  have HBE := Lib.hid hBB
  have HMR : Hid (R.length ≤ maxLen) := small_max HSR0
  clear hr1 hmx hlB HIM0 HSP0 HSR0 hR hBB
  go_wp2_with fail
  refine (HIM.out w1 HI.out HM.out).mono ?_
  rintro e w2 ⟨N2, c2, F2, rfl, ho2, hc2, hcm2, hb2⟩
  have HO2 := Lib.hid ho2.ring
  clear ho2
  go_wp2_with fail
  refine (HSP.out w2 (HI.out.keepB hb2 (Nat.le_refl _)) HM.out hcap hcm).mono ?_
  rintro e w3 ⟨N3, c3, F3, rfl, ho3, _, _, hb3⟩
  have HO3 := Lib.hid ho3.ring
  clear ho3
  have v1 : (!B == B) = false := by simp
  have v2 : (B == B) = true := by simp
  go_wp2_with fail
  refine (sameRing_same _ _ _ c2 c3 R w3 (HO2.out.keepB hb3 (Nat.le_refl _)) HO3.out rfl (small_of HSR.out)).mono ?_
  rintro e w4 ⟨rfl, hb4⟩
  have hB24 : Below w2.heap.size w2 w4 := hb3.trans (hb4.mono hb3.size)
  have hB14 : Below w1.heap.size w1 w4 := hb2.trans (hB24.mono hb2.size)
  have hBw : Below w.heap.size w w4 := hB1.trans (hB14.mono hB1.size)
  have HI4 := Lib.hid (HI.out.keepB hB14 (Nat.le_refl _))
  have HR4 := Lib.hid (HO2.out.keepB hB24 (Nat.le_refl _))
  rcases bool_cases B with hbv | hbv
  · subst hbv
    go_wp2_with fail
    refine (sameRing_same _ _ _ c2 c3 R w4 HR4.out (HO3.out.keepB hb4 (Nat.le_refl _)) rfl (small_of HSR.out)).mono ?_
    rintro e w5 ⟨rfl, hb5⟩
    go_wp2
    go_ret
    exact ⟨rfl, hBw.trans (hb5.mono hBw.size)⟩
  subst hbv
  clear v1 v2
  have HF : Hid (((oneB r i = true ∧ ptB o = true) ∧ liveB r i = true) ∧ notB r (idxR r i) o = true ∧ R = notR r (idxR r i) o) := by
    have h1 := HBE.out
    unfold selB at h1
    have h2 : ((oneB r i = true ∧ ptB o = true) ∧ liveB r i = true) ∧ notB r (idxR r i) o = true := by simpa using h1.symm
    refine ⟨h2.1, h2.2, ?_⟩
    rw [HRE.out]; unfold selR; rw [h2.1.1.1, h2.1.1.2, h2.1.2]; rfl
  have HS := Lib.hid (one_safe HF.out.1.1.1)
  have HV := Lib.hid (safe_rv HS.out)
  have HK := Lib.hid (idx_live HF.out.1.2)
  have HN1 : Hid (ndAt r i = gn r (idxR r i)) := by show _ = _; unfold ndAt; rw [HF.out.1.2]; rfl
  have HNB : Hid ((liveB r o = true ∧ o ≠ (gn r (idxR r i)).pos) ∧ keepB r (gn r (idxR r i)) o = false) := by
    show _ ∧ _
    have := HF.out.2.1
    unfold notB at this
    simpa using this
  have HRS : Hid (R = r.set (idxR r i) ⟨(gn r (idxR r i)).pos, o, (gn r (idxR r i)).aft⟩) := by show _ = _; rw [HF.out.2.2]; unfold notR; rw [HF.out.2.1]; rfl
  have HOK : Hid (SetOk r R) := by show SetOk _ _; rw [HF.out.2.2]; exact not_ok HS.out HK.out.1
  have HVR := Lib.hid (safe_rv HOK.out.safe)
  have HN2 : Hid (ndAt R i = ⟨(gn r (idxR r i)).pos, o, (gn r (idxR r i)).aft⟩) := by
    show _ = _
    have hl : liveB R i = true := by rw [live_same HOK.out.len HOK.out.pos]; exact HF.out.1.2
    have he : idxR R i = idxR r i := idx_same2 HV.out HOK.out.len HOK.out.pos HF.out.1.2
    unfold ndAt; rw [if_pos hl, he, HRS.out, gn_set' HK.out.1, if_pos rfl]
  have hno := nd_open HV.out HK.out.1
  have haf := hno.2.2.2.2
  have hPi := HK.out.2.1
  have HKB : Hid (0 ≤ (gn r (idxR r i)).bef → liveB r (gn r (idxR r i)).bef = true → (gn r (idxR r i)).bef ≠ i → dstI o i < dstI (gn r (idxR r i)).bef i) := fun h1 h2 h3 => by
    have h4 := HNB.out.2
    unfold keepB at h4
    rw [h2, decide_eq_true h1] at h4
    have h5 : btwI (gn r (idxR r i)).bef o (gn r (idxR r i)).pos = true := by simpa using h4
    have h6 := hno.1
    rw [hPi] at h5 h6
    exact dist_btw2 (live_pt HV.out h2) (live_pt HV.out HNB.out.1.1) h6 h3 h5
  have HVQ : Hid ((ndAt r (gn r (idxR r i)).bef).pos = if liveB r (gn r (idxR r i)).bef then (gn r (idxR r i)).bef else -1) := by
    show _ = _
    unfold ndAt
    split
    · rename_i h; exact (idx_live h).2.1
    · rfl
  clear hno hPi
  obtain ⟨A, hA⟩ : ∃ A, A = gt (gn r (idxR r i)).aft 0 := ⟨_, rfl⟩
  obtain ⟨C, hC⟩ : ∃ C, C = gt (gn r (idxR r i)).aft 1 := ⟨_, rfl⟩
  obtain ⟨P, hP⟩ : ∃ P, P = (gn r (idxR r i)).pos := ⟨_, rfl⟩
  obtain ⟨Q, hQ⟩ : ∃ Q, Q = (gn r (idxR r i)).bef := ⟨_, rfl⟩
  rw [← hQ] at HKB HVQ
  have HM1 : Hid (ndAt r i = ⟨P, Q, [A, C]⟩) := by show _ = _; rw [HN1.out]; exact nd_ext3 hP.symm hQ.symm (by rw [haf, hA, hC])
  have HM2 : Hid (ndAt R i = ⟨P, o, [A, C]⟩) := by show _ = _; rw [HN2.out, hP, hA, hC, haf]; rfl
  clear hA hC hP hQ haf
  go_wp2_with fail
  have hn1 := nodeAt_full _ _ cap1 i r w4 HI4.out rfl HM.out HV.out
  unfold NodeFull at hn1
  rw [HM1.out] at hn1
  refine hn1.mono ?_
  rintro e w5 ⟨sa, sc, rfl, hsc, hin5, hb5⟩
  clear hn1
  obtain ⟨b5, o5, rfl, hbl5, hx5, hy5⟩ := ints_two hin5
  have HI5 := Lib.hid (HI4.out.keepB hb5 (Nat.le_refl _))
  have HR5 := Lib.hid (HR4.out.keepB hb5 (Nat.le_refl _))
  clear hin5
  go_wp2_with fail
  have HBA : Hid (Below w5.heap.size w5 (w5.alloc (.cells #[.int .i64 P, .int .i64 Q, .slice (some ⟨b5, o5, none⟩) 2 sc] 28 (0, 0)))) := (Below.refl _ _).alloc (Nat.le_refl _) _
  have HC6 : Hid ((w5.alloc (.cells #[.int .i64 P, .int .i64 Q, .slice (some ⟨b5, o5, none⟩) 2 sc] 28 (0, 0))).cell? ⟨w5.heap.size, 2, none⟩ = some (.slice (some ⟨b5, o5, none⟩) 2 sc)) := by show _ = _; rw [World.cell?_alloc_at _ _ _ _ rfl]; rfl
  have HQ6 : Hid ((w5.alloc (.cells #[.int .i64 P, .int .i64 Q, .slice (some ⟨b5, o5, none⟩) 2 sc] 28 (0, 0))).cell? ⟨w5.heap.size, 1, none⟩ = some (.int .i64 Q)) := by show _ = _; rw [World.cell?_alloc_at _ _ _ _ rfl]; rfl
  have HX6 := Lib.hid (bcell2 HBA.out hx5)
  have HY6 := Lib.hid (bcell2 HBA.out hy5)
  have HI6 := Lib.hid (HI5.out.keepB HBA.out (Nat.le_refl _))
  have HR6 := Lib.hid (HR5.out.keepB HBA.out (Nat.le_refl _))
  have HB6 := Lib.hid ((hBw.trans (hb5.mono hBw.size)).trans (HBA.out.mono (hBw.trans (hb5.mono hBw.size)).size))
  generalize hgw : w5.alloc (.cells #[.int .i64 P, .int .i64 Q, .slice (some ⟨b5, o5, none⟩) 2 sc] 28 (0, 0)) = w6 at HBA HC6 HQ6 HX6 HY6 HI6 HR6 HB6 ⊢
  generalize hgm : w5.heap.size = m6 at HC6 HQ6 ⊢
  clear hgw HBA hx5 hy5 HI5 HR5 hgm hbl5
  have hn1 := nodeAt_full _ _ c2 i R w6 HR6.out rfl HMR.out HVR.out
  unfold NodeFull at hn1
  rw [HM2.out] at hn1
  refine hn1.mono ?_
  rintro e w7 ⟨sa, sd, rfl, hsd, hin7, hb7⟩
  clear hn1
  obtain ⟨b7, o7, rfl, hbl7, hx7, hy7⟩ := ints_two hin7
  clear hin7 hbl7
  have HI7 := Lib.hid (HI6.out.keepB hb7 (Nat.le_refl _))
  have HC7 := Lib.hid (bcell2 hb7 HC6.out)
  have HQ7 := Lib.hid (bcell2 hb7 HQ6.out)
  have HX7 := Lib.hid (bcell2 hb7 HX6.out)
  have HY7 := Lib.hid (bcell2 hb7 HY6.out)
  have HB7 := Lib.hid (HB6.out.trans (hb7.mono HB6.out.size))
  clear HC6 HQ6 HX6 HY6 HI6 HR6 HB6 hb7
  go_wp2_with fail
  have HBA : Hid (Below w7.heap.size w7 (w7.alloc (.cells #[.int .i64 P, .int .i64 o, .slice (some ⟨b7, o7, none⟩) 2 sd] 28 (0, 0)))) := (Below.refl _ _).alloc (Nat.le_refl _) _
  have HD8 : Hid ((w7.alloc (.cells #[.int .i64 P, .int .i64 o, .slice (some ⟨b7, o7, none⟩) 2 sd] 28 (0, 0))).cell? ⟨w7.heap.size, 2, none⟩ = some (.slice (some ⟨b7, o7, none⟩) 2 sd)) := by show _ = _; rw [World.cell?_alloc_at _ _ _ _ rfl]; rfl
  have HQD8 : Hid ((w7.alloc (.cells #[.int .i64 P, .int .i64 o, .slice (some ⟨b7, o7, none⟩) 2 sd] 28 (0, 0))).cell? ⟨w7.heap.size, 1, none⟩ = some (.int .i64 o)) := by show _ = _; rw [World.cell?_alloc_at _ _ _ _ rfl]; rfl
  have HU8 := Lib.hid (bcell2 HBA.out hx7)
  have HV8 := Lib.hid (bcell2 HBA.out hy7)
  have HC8 := Lib.hid (bcell2 HBA.out HC7.out)
  have HQ8 := Lib.hid (bcell2 HBA.out HQ7.out)
  have HX8 := Lib.hid (bcell2 HBA.out HX7.out)
  have HY8 := Lib.hid (bcell2 HBA.out HY7.out)
  have HI8 := Lib.hid (HI7.out.keepB HBA.out (Nat.le_refl _))
  have HB8 := Lib.hid (HB7.out.trans (HBA.out.mono HB7.out.size))
  generalize hgw : w7.alloc (.cells #[.int .i64 P, .int .i64 o, .slice (some ⟨b7, o7, none⟩) 2 sd] 28 (0, 0)) = w8 at HBA HD8 HQD8 HU8 HV8 HC8 HQ8 HX8 HY8 HI8 HB8 ⊢
  generalize hgm : w7.heap.size = m8 at HD8 HQD8 ⊢
  have HS8 : Hid (∀ w', Below w8.heap.size w8 w' → Below w8.heap.size w8 w' ∧ w'.cell? ⟨m6, 1, none⟩ = some (.int .i64 Q) ∧ w'.cell? ⟨m6, 2, none⟩ = some (.slice (some ⟨b5, o5, none⟩) 2 sc) ∧ w'.cell? ⟨b5, o5, none⟩ = some (.int .i64 A) ∧ w'.cell? ⟨b5, o5 + 1, none⟩ = some (.int .i64 C) ∧ w'.cell? ⟨m8, 1, none⟩ = some (.int .i64 o) ∧ w'.cell? ⟨m8, 2, none⟩ = some (.slice (some ⟨b7, o7, none⟩) 2 sd) ∧ w'.cell? ⟨b7, o7, none⟩ = some (.int .i64 A) ∧ w'.cell? ⟨b7, o7 + 1, none⟩ = some (.int .i64 C)) := fun w' hb' => ⟨hb', bcell2 hb' HQ8.out, bcell2 hb' HC8.out, bcell2 hb' HX8.out, bcell2 hb' HY8.out, bcell2 hb' HQD8.out, bcell2 hb' HD8.out, bcell2 hb' HU8.out, bcell2 hb' HV8.out⟩
  obtain ⟨V, hV⟩ : ∃ V, V = (ndAt r Q).pos := ⟨_, rfl⟩
  have HCB : Hid (∀ w', Below w8.heap.size w8 w' → Calls Try.prog 16 #[.slice (some ⟨N, 0, none⟩) r.length cap1, .int .i64 Q] w' fun e w'' => ∃ (b : Int) (a : Option Addr) (l c : Nat), e = .returned (.agg #[.int .i64 V, .int .i64 b, .slice a l c]) ∧ Below w8.heap.size w8 w'') := fun w' hb' => by
    have hn1 := nodeAt_full _ _ cap1 Q r w' (HI8.out.keepB hb' (Nat.le_refl _)) rfl HM.out HV.out
    refine hn1.mono ?_
    rintro e w'' ⟨sa, se, rfl, _, _, hb''⟩
    rw [hV]
    exact ⟨_, _, _, _, rfl, hb'.trans (hb''.mono hb'.size)⟩
  rw [← hV] at HVQ
  obtain ⟨g, hg⟩ : ∃ g : Int → Int → Int, g = dstI := ⟨_, rfl⟩
  have HCD : Hid (∀ (x y : Int) (w' : World), Calls Try.prog 17 #[.int .i64 x, .int .i64 y] w' fun e w'' => e = .returned (.int .i64 (g x y)) ∧ w' = w'') := fun x y w' => by rw [hg]; exact cdst_any x y w'
  have HGD : Hid (0 ≤ Q → liveB r Q = true → Q ≠ i → g o i < g Q i) := by rw [hg]; exact HKB.out
  clear hg hV HKB
  clear hgw hgm hx7 hy7 HC7 HQ7 HX7 HY7 HI7 HB7 HBA hsc hsd hb5 hb4 hb3 hb2 hcap hcm hl hm
  clear HI8 HD8 HQD8 HU8 HV8 HC8 HQ8 HX8 HY8 HIM HSP HBE HF HS HK HN1 HRS HOK HVR HN2 HM1 HM2 HI4 HR4 HO2 HO3 HSR HMR HM HI HV hB24 hB14 hBw hB1 HNB
  have f0 : ∀ (v b : Int) (a : Option Addr) (l c : Nat) (w : World), (Instr.field 28 (.agg #[.int .i64 v, .int .i64 b, .slice a l c]) 0).run Try.prog w = .ok (.int .i64 v) w := fieldId
  have e1 : (o == o) = true := by simp
  have hmix : Try.prog.follows .mixedOrders = true := by kernel_rfl
  obtain ⟨_, p1, p2, p3, p4, p5, p6, p7, p8⟩ := HS8.out _ (Below.refl _ _)
  by_cases hq0 : Q < 0
  · have IA := Lib.hid (two_ints p3 p4)
    have IB := Lib.hid (two_ints p7 p8)
    go_wp2
    go_quiet (fail)
    go_wp2_with fail
    refine (sameI_same _ _ _ _ _ [A, C] _ (IB.out.same ⟨_, rfl⟩) (IA.out.same ⟨_, rfl⟩) rfl (by simp)).mono ?_
    rintro e w10 ⟨rfl, hs10⟩
    have hs8 : Same w8 w10 := Same.trans ⟨_, rfl⟩ hs10
    go_wp2
    go_ret
    exact ⟨rfl, HB8.out.trans (hs8.below _)⟩
  have hq0' : 0 ≤ Q := by omega
  have hq0B : decide (Q < 0) = false := by simp; omega
  cases hlq : liveB r Q
  · have hv : V = -1 := by have := HVQ.out; rw [hlq] at this; simpa using this
    have hvB : decide (V < 0) = true := by rw [hv]; rfl
    have hv0 : V < 0 := by omega
    clear hv p1 p2 p3 p4 p5 p6 p7 p8
    have e3 : ∀ x : Cls (Below w8.heap.size w8), x.to.cell? ⟨m6, 1, none⟩ = some (.int .i64 Q) := fun x => (HS8.out _ x.ok).2.1
    go_wp2
    refine wp_region_rel (fun w' => ∃ x : Cls (Below w8.heap.size w8), w' = x.to) (by kernel_rfl) (by kernel_rfl) ⟨⟨_, below_drawn⟩, rfl⟩ ?_
    repeat (refine relEx_want (by rfl) (fun K hK => ?_); go_big_quiet_op; refine hK _ ?_; clear hK K)
    refine relEx_call (fun v => ∃ (b : Int) (a : Option Addr) (l c : Nat), v = .agg #[.int .i64 V, .int .i64 b, .slice a l c]) [(fun u => u = .int .i64 V), (fun u => u = .bool true), (fun u => u = .bool true), (fun u => u = .bool true), (fun u => u = undef), (fun u => u = undef), (fun u => u = undef), (fun u => u = undef), (fun u => u = .bool true), (fun u => u = .bool true), (fun u => u = undef), (fun u => u = undef), (fun u => u = undef), (fun u => u = undef), (fun u => u = undef), (fun u => u = undef), (fun u => u = undef), (fun u => u = undef), (fun u => u = .bool true), (fun u => u = .bool true)] ⟨_, 0, none, 0, 0, rfl⟩ 16 #[.slice (some ⟨N, 0, none⟩) r.length cap1, .int .i64 Q] (fun w => by simp [go_sem]) (fun w hC => ?_) (by rfl) ?_
    · obtain ⟨x, rfl⟩ := hC
      refine (HCB.out _ x.ok).mono ?_
      rintro e w' ⟨b, a, l, c, rfl, hb'⟩
      exact ⟨_, rfl, ⟨b, a, l, c, rfl⟩, ⟨⟨w', hb'⟩, rfl⟩⟩
    rintro v ⟨b9, a9, l9, c9, rfl⟩
    repeat (first
      | (refine relLex_skip (by rfl) ?_; simp only [Act.put, List.setIfInBounds_toArray, List.set_cons_zero, List.set_cons_succ])
      | (refine relLex_want _ (by rfl) (fun w hC => by first | rfl | exact f0 _ _ _ _ _ _ | (obtain ⟨x, rfl⟩ := hC; simp [go_sem, hvB])) ?_; simp only [Act.put, List.setIfInBounds_toArray, List.set_cons_zero, List.set_cons_succ]))
    refine relLex_nil ?_
    intro w9 hw'
    have hba := cls_out hw'
    clear hw'
    clear e3
    obtain ⟨_, q1, q2, q3, q4, q5, q6, q7, q8⟩ := HS8.out _ hba
    have IA := Lib.hid (two_ints q3 q4)
    have IB := Lib.hid (two_ints q7 q8)
    go_wp2_with fail
    refine (sameI_same _ _ _ _ _ [A, C] _ IB.out IA.out rfl (by simp)).mono ?_
    rintro e w10 ⟨rfl, hs10⟩
    go_wp2
    go_ret
    exact ⟨rfl, HB8.out.trans ((hba.trans (hs10.below _)).mono HB8.out.size)⟩
  have hv : V = Q := by have := HVQ.out; rw [hlq] at this; simpa using this
  have HLQ := Lib.hid hlq
  clear hlq
  subst hv
  by_cases hqi : V = i
  · subst hqi
    have e2 : (V == V) = true := by simp
    clear p1 p2 p3 p4 p5 p6 p7 p8
    have e3 : ∀ x : Cls (Below w8.heap.size w8), x.to.cell? ⟨m6, 1, none⟩ = some (.int .i64 V) := fun x => (HS8.out _ x.ok).2.1
    go_wp2
    refine wp_region_rel (fun w' => ∃ x : Cls (Below w8.heap.size w8), w' = x.to) (by kernel_rfl) (by kernel_rfl) ⟨⟨_, below_drawn⟩, rfl⟩ ?_
    repeat (refine relEx_want (by rfl) (fun K hK => ?_); go_big_quiet_op; refine hK _ ?_; clear hK K)
    refine relEx_call (fun v => ∃ (b : Int) (a : Option Addr) (l c : Nat), v = .agg #[.int .i64 V, .int .i64 b, .slice a l c]) [(fun u => u = .int .i64 V), (fun u => u = .bool false), (fun u => u = .bool false), (fun u => u = .bool false), (fun u => u = .pointer (some ⟨m6, 1, none⟩)), (fun u => u = .int .i64 V), (fun u => u = .int .i64 V), (fun u => u = .bool true), (fun u => u = .bool true), (fun u => u = .bool true), (fun u => u = undef), (fun u => u = undef), (fun u => u = undef), (fun u => u = undef), (fun u => u = undef), (fun u => u = undef), (fun u => u = undef), (fun u => u = undef), (fun u => u = .bool true), (fun u => u = .bool true)] ⟨_, 0, none, 0, 0, rfl⟩ 16 #[.slice (some ⟨N, 0, none⟩) r.length cap1, .int .i64 V] (fun w => by simp [go_sem]) (fun w hC => ?_) (by rfl) ?_
    · obtain ⟨x, rfl⟩ := hC
      refine (HCB.out _ x.ok).mono ?_
      rintro e w' ⟨b, a, l, c, rfl, hb'⟩
      exact ⟨_, rfl, ⟨b, a, l, c, rfl⟩, ⟨⟨w', hb'⟩, rfl⟩⟩
    rintro v ⟨b9, a9, l9, c9, rfl⟩
    repeat (first
      | (refine relLex_skip (by rfl) ?_; simp only [Act.put, List.setIfInBounds_toArray, List.set_cons_zero, List.set_cons_succ])
      | (refine relLex_want _ (by rfl) (fun w hC => by first | rfl | exact f0 _ _ _ _ _ _ | (obtain ⟨x, rfl⟩ := hC; simp [go_sem, hq0B, e3])) ?_; simp only [Act.put, List.setIfInBounds_toArray, List.set_cons_zero, List.set_cons_succ]))
    refine relLex_nil ?_
    intro w9 hw'
    have hba := cls_out hw'
    clear hw'
    clear e3
    obtain ⟨_, q1, q2, q3, q4, q5, q6, q7, q8⟩ := HS8.out _ hba
    have IA := Lib.hid (two_ints q3 q4)
    have IB := Lib.hid (two_ints q7 q8)
    go_wp2_with fail
    refine (sameI_same _ _ _ _ _ [A, C] _ IB.out IA.out rfl (by simp)).mono ?_
    rintro e w10 ⟨rfl, hs10⟩
    go_wp2
    go_ret
    exact ⟨rfl, HB8.out.trans ((hba.trans (hs10.below _)).mono HB8.out.size)⟩
  have e2 : (V == i) = false := by simp [hqi]
  have hgd : decide (g o i < g V i) = true := decide_eq_true (HGD.out hq0' HLQ.out hqi)
  clear hqi p1 p2 p3 p4 p5 p6 p7 p8
  go_wp2
  go_region_held3 (fun w' => Below w8.heap.size w8 w' ∧ w'.cell? ⟨m6, 1, none⟩ = some (.int .i64 V) ∧ w'.cell? ⟨m6, 2, none⟩ = some (.slice (some ⟨b5, o5, none⟩) 2 sc) ∧ w'.cell? ⟨b5, o5, none⟩ = some (.int .i64 A) ∧ w'.cell? ⟨b5, o5 + 1, none⟩ = some (.int .i64 C) ∧ w'.cell? ⟨m8, 1, none⟩ = some (.int .i64 o) ∧ w'.cell? ⟨m8, 2, none⟩ = some (.slice (some ⟨b7, o7, none⟩) 2 sd) ∧ w'.cell? ⟨b7, o7, none⟩ = some (.int .i64 A) ∧ w'.cell? ⟨b7, o7 + 1, none⟩ = some (.int .i64 C)) (first | (exact HS8.out _ hba) | (exact HS8.out _ (Below.refl _ _)) | (exact HS8.out _ (Below.drew (Below.refl _ _))))
    ((first
      | (go_at_call 17; refine (HCD.out _ _ _).mono ?_; rintro e w' ⟨rfl, rfl⟩)
      | (go_at_call 16; refine (HCB.out _ (by first | exact Below.refl _ _ | exact Below.drew (Below.refl _ _))).mono ?_; rintro e wa ⟨b9, a9, l9, c9, rfl, hba⟩)))
  obtain ⟨_, q1, q2, q3, q4, q5, q6, q7, q8⟩ := HS8.out _ hba
  have IA := Lib.hid (two_ints q3 q4)
  have IB := Lib.hid (two_ints q7 q8)
  go_wp2_with fail
  refine (sameI_same _ _ _ _ _ [A, C] _ IB.out IA.out rfl (by simp)).mono ?_
  rintro e w10 ⟨rfl, hs10⟩
  go_wp2
  go_ret
  exact ⟨rfl, HB8.out.trans ((hba.trans (hs10.below _)).mono HB8.out.size)⟩
end Go.Proofs.Ytcbbdhmloniolaa
