/- A repair changes one node. -/
import Derived.Test.YtcbbdhmloniolaaLawsSafe
import Derived.Test.YtcbbdhmloniolaaLawsH
import Derived.Test.YtcbbdhmloniolaaDrawS
import Derived.Test.YtcbbdhmloniolaaDrawK
import Derived.Test.YtcbbdhmloniolaaNwRing
import Derived.Test.YtcbbdhmloniolaaLawsDrop2
import Derived.Test.YtcbbdhmloniolaaLawsActM
import Derived.Deep.DrawnRows
namespace Go.Proofs.Ytcbbdhmloniolaa
open Go.RowKit
set_option linter.unusedVariables false

attribute [local go_sem ↓] Go.wp_at_zero Go.wp_at_succ

/-- only the node at i may change, and no predecessor -/
def KeepO (i : Int) (a b : List Nd) : Prop := b.length = a.length ∧ ∀ j, j < a.length → ((gn a j).pos ≠ i → gn b j = gn a j) ∧ (gn b j).bef = (gn a j).bef
theorem KeepO.refl (i : Int) (a : List Nd) : KeepO i a a := ⟨rfl, fun _ _ => ⟨fun _ => rfl, rfl⟩⟩
theorem keepO_set {i : Int} {k : Nat} {a : List Nd} (hk : (gn a k).pos = i) (x y : Int) : KeepO i a (a.set k (wAft (gn a k) x y)) := by
  refine ⟨by simp, fun j hj => ?_⟩
  rw [gn_set' hj]
  by_cases e : j = k
  · rw [if_pos e, e]; exact ⟨fun hn => absurd hk hn, rfl⟩
  · rw [if_neg e]; exact ⟨fun _ => rfl, rfl⟩
theorem keepO_drop {i : Int} {k : Nat} {a : List Nd} (hk : (gn a k).pos = i) : KeepO i a (dropR a k) := by
  unfold dropR; split
  · exact KeepO.refl _ _
  · exact keepO_set hk _ _
theorem keepO_adopt {i : Int} {k : Nat} {a : List Nd} (hk : (gn a k).pos = i) : KeepO i a (adoptR a k) := by
  unfold adoptR; split
  · exact keepO_set hk _ _
  · exact KeepO.refl _ _
theorem keepO_closer {i : Int} {k : Nat} {a : List Nd} (hk : (gn a k).pos = i) (o : Int) : KeepO i a (closerR a k o) := by
  unfold closerR; split
  · exact keepO_set hk _ _
  · exact KeepO.refl _ _
theorem keepO_sel {i : Int} {a : List Nd} {ok : Bool} {f : Nat → List Nd} (hok : ok = true) (hf : ∀ k, (gn a k).pos = i → KeepO i a (f k)) : KeepO i a (selR a ok i f) := by
  unfold selR
  rw [hok, if_pos rfl]
  split
  · rename_i hl; exact hf _ (idx_live hl).2.1
  · exact KeepO.refl _ _
theorem one_mk {r : List Nd} {i : Int} (h : safeB r = true) (hp : ptB i = true) : oneB r i = true := by unfold oneB; rw [h, hp]; rfl
/-- whether a position is one, told by the answer -/
theorem pt_as (v : Bool) (n : Int) (w : World) (hv : ptB n = v) : Calls Try.prog 23 #[.int .i64 n] w fun e w' => e = .returned (.bool v) ∧ w = w' := by subst hv; exact isPoint_any n w
/-- the cells of a row's node, and what its successors are -/
theorem ring_cell {w : World} {N : Nat} {R : List Nd} {k : Nat} (h : RingAt w (some ⟨N, 0, none⟩) R) (hk : k < R.length) :
    ∃ (sb : Option Addr) (sd : Nat), N < w.heap.size ∧ w.cell? ⟨N, k * 3, none⟩ = some (.int .i64 (gn R k).pos) ∧ w.cell? ⟨N, k * 3 + 1, none⟩ = some (.int .i64 (gn R k).bef) ∧ w.cell? ⟨N, k * 3 + 2, none⟩ = some (.slice sb (gn R k).aft.length sd) ∧ IntsAt w sb (gn R k).aft := by
  obtain ⟨b, off, hbo, hb0, hcells⟩ := h.at_ hk
  injection hbo with hbo; injection hbo with hbo hbo2; subst hbo hbo2
  obtain ⟨sb, sd, hd0, hd1, hd2, _, _, hin⟩ := node_open (hcells k hk)
  rw [Nat.zero_add] at hd0 hd1 hd2
  exact ⟨sb, sd, hb0, hd0, hd1, hd2, hin⟩

set_option maxRecDepth 20000 in
set_option maxHeartbeats 4000000 in
theorem stepOne (s : Option Addr) (len cap : Nat) (z : List Int) (w : World) (h : RowIn .u8 w s len cap z) :
    Calls Try.prog 5 #[.slice s len cap] w fun e w' => e = .returned (.bool true) ∧ Below w.heap.size w w' := by
  have hb := bytes_of_row h
  have hm : len ≤ maxLen := Nat.le_trans hb.1 hb.2.1
  unfold maxLen at hm
  clear h
  by_cases hl : 1048576 < len
  · go_enter Try.func5, Try.ntmps5
    go_wp2
    go_ret
    exact ⟨rfl, Below.refl _ _⟩
  have hlB : decide ((1048576 : Int) < (len : Int)) = false := by simp; omega
  go_enter Try.func5, Try.ntmps5
  go_wp2_with fail
  refine (drawRingCloser s len cap w hb).mono ?_
  rintro e w1 ⟨N, cap1, r, i, o, rfl, hr1, h10, hcap, hcm, hB1⟩
  have HI := Lib.hid hr1
  have hmx : r.length ≤ maxLen := by unfold maxLen; omega
  have HM := Lib.hid hmx
  have HIM0 := fun w0 (h : RingAt w0 (some ⟨N, 0, none⟩) r) (hm : r.length ≤ maxLen) => rcloser_any _ _ cap1 i o r w0 h rfl hm
  have HSP0 := fun w0 (h : RingAt w0 (some ⟨N, 0, none⟩) r) (hm : r.length ≤ maxLen) (hc : r.length ≤ cap1) (hcm : cap1 ≤ maxLen) => srcloser_any _ _ cap1 i o r w0 h rfl hm
  have HSR0 : szR (selR r (oneB r i && ptB o) i (fun k => closerR r k o)) ≤ 1048576 := sel_sz4 (fun hs k hk => safe_rv (closer_ok hs hk).safe) (fun h => by exact (by simpa [oneB] using h : (safeB r = true ∧ ptB i = true) ∧ ptB o = true).1.1)
  obtain ⟨R, hR⟩ : ∃ R, R = (selR r (oneB r i && ptB o) i (fun k => closerR r k o)) := ⟨_, rfl⟩
  obtain ⟨B, hBB⟩ : ∃ B, B = (selB r (oneB r i && ptB o) i (fun k => closerB r k o)) := ⟨_, rfl⟩
  simp only [← hR, ← hBB] at HIM0 HSP0 HSR0
  have HIM := Lib.hid HIM0
  have HSP := Lib.hid HSP0
  have HSR := Lib.hid HSR0
  have HRE := Lib.hid hR
  have HMR : Hid (R.length ≤ maxLen) := small_max HSR0
  clear hr1 hmx hlB HIM0 HSP0 HSR0 hR hBB
  go_wp2_with fail
  refine (HIM.out w1 HI.out HM.out).mono ?_
  rintro e w2 ⟨N2, c2, F2, rfl, ho2, hc2, hcm2, hb2⟩
  have HO2 := Lib.hid ho2.ring
  clear ho2
  go_wp2_with fail
  refine (HSP.out w2 (HI.out.keepB hb2 (Nat.le_refl _)) HM.out hcap hcm).mono ?_
  rintro e w3 ⟨N3, c3, F3, rfl, ho3, _, _, hb3⟩
  have HO3 := Lib.hid ho3.ring
  clear ho3
  have v1 : (!B == B) = false := by simp
  have v2 : (B == B) = true := by simp
  go_wp2_with fail
  refine (sameRing_same _ _ _ c2 c3 R w3 (HO2.out.keepB hb3 (Nat.le_refl _)) HO3.out rfl (small_of HSR.out)).mono ?_
  rintro e w4 ⟨rfl, hb4⟩
  have hB24 : Below w2.heap.size w2 w4 := hb3.trans (hb4.mono hb3.size)
  have hB14 : Below w1.heap.size w1 w4 := hb2.trans (hB24.mono hb2.size)
  have hBw : Below w.heap.size w w4 := hB1.trans (hB14.mono hB1.size)
  have HI4 := Lib.hid (HI.out.keepB hB14 (Nat.le_refl _))
  have HR4 := Lib.hid (HO2.out.keepB hB24 (Nat.le_refl _))
  have HW4 := Lib.hid (HO3.out.keepB hb4 (Nat.le_refl _))
  clear hb2 hb3 hb4 hB24 hB14 HIM HSP
  go_wp2_with fail
  refine (ssafe_any _ _ cap1 r w4 HI4.out rfl HM.out).mono ?_
  rintro e w5 ⟨rfl, hb5⟩
  have HI5 := Lib.hid (HI4.out.keepB hb5 (Nat.le_refl _))
  have HR5 := Lib.hid (HR4.out.keepB hb5 (Nat.le_refl _))
  have HW5 := Lib.hid (HW4.out.keepB hb5 (Nat.le_refl _))
  have HB5 := Lib.hid (hBw.trans (hb5.mono hBw.size))
  clear hb5
  rcases bool_cases (safeB r) with hs | hs
  · rw [hs]
    clear hs
    go_wp2_with fail
    refine (sameRing_same _ _ _ c2 c3 R w5 HR5.out HW5.out rfl (small_of HSR.out)).mono ?_
    rintro e w6 ⟨rfl, hb6⟩
    go_wp2
    go_ret
    exact ⟨rfl, HB5.out.trans (hb6.mono HB5.out.size)⟩
  rw [hs]
  have HS := Lib.hid hs
  clear hs
  rcases bool_cases (ptB i) with hpi | hpi
  · have HP := Lib.hid hpi
    clear hpi
    go_wp2_with fail
    refine (pt_as _ i w5 HP.out).mono ?_
    rintro e w6 ⟨rfl, rfl⟩
    go_wp2_with fail
    refine (sameRing_same _ _ _ c2 c3 R w5 HR5.out HW5.out rfl (small_of HSR.out)).mono ?_
    rintro e w6 ⟨rfl, hb6⟩
    go_wp2
    go_ret
    exact ⟨rfl, HB5.out.trans (hb6.mono HB5.out.size)⟩
  have HP := Lib.hid hpi
  clear hpi
  rcases bool_cases (ptB o) with hpo | hpo
  · have HPO := Lib.hid hpo
    clear hpo
    go_wp2_with fail
    refine (pt_as _ i w5 HP.out).mono ?_
    rintro e w6 ⟨rfl, rfl⟩
    go_wp2_with fail
    refine (pt_as _ o w5 HPO.out).mono ?_
    rintro e w6 ⟨rfl, rfl⟩
    go_wp2_with fail
    refine (sameRing_same _ _ _ c2 c3 R w5 HR5.out HW5.out rfl (small_of HSR.out)).mono ?_
    rintro e w6 ⟨rfl, hb6⟩
    go_wp2
    go_ret
    exact ⟨rfl, HB5.out.trans (hb6.mono HB5.out.size)⟩
  have HPO := Lib.hid hpo
  clear hpo
  have HONE : Hid (oneB r i = true) := one_mk HS.out HP.out
  have HKR : Hid (KeepO i r R) := by show KeepO _ _ _; rw [HRE.out]; exact keepO_sel (by rw [HONE.out, HPO.out]; rfl) (fun k hk => keepO_closer hk o)
  obtain ⟨D, hD⟩ : ∃ D, D = selR r (oneB r i) i (dropR r) := ⟨_, rfl⟩
  obtain ⟨A, hA⟩ : ∃ A, A = selR r (oneB r i) i (adoptR r) := ⟨_, rfl⟩
  have HKD : Hid (KeepO i r D) := by show KeepO _ _ _; rw [hD]; exact keepO_sel HONE.out (fun k hk => keepO_drop hk)
  have HKA : Hid (KeepO i r A) := by show KeepO _ _ _; rw [hA]; exact keepO_sel HONE.out (fun k hk => keepO_adopt hk)
  have HDE := Lib.hid hD
  have HAE := Lib.hid hA
  clear hD hA v1 v2
  go_wp2_with fail
  refine (pt_as _ i w5 HP.out).mono ?_
  rintro e w6 ⟨rfl, rfl⟩
  go_wp2_with fail
  refine (pt_as _ o w5 HPO.out).mono ?_
  rintro e w6 ⟨rfl, rfl⟩
  go_wp2_with fail
  refine (rdrop_any _ _ cap1 i r w5 HI5.out rfl HM.out).mono ?_
  rw [← HDE.out]
  rintro e w6 ⟨N6, c6, F6, rfl, ho6, _, _, hb6⟩
  have HD6 := Lib.hid ho6.ring
  have HI6 := Lib.hid (HI5.out.keepB hb6 (Nat.le_refl _))
  have HR6 := Lib.hid (HR5.out.keepB hb6 (Nat.le_refl _))
  have HB6 := Lib.hid (HB5.out.trans (hb6.mono HB5.out.size))
  clear ho6 hb6
  go_wp2_with fail
  refine (radopt_any _ _ cap1 i r w6 HI6.out rfl HM.out).mono ?_
  rw [← HAE.out]
  rintro e w7 ⟨N7, c7, F7, rfl, ho7, _, _, hb7⟩
  have HA7 := Lib.hid ho7.ring
  have HI7 := Lib.hid (HI6.out.keepB hb7 (Nat.le_refl _))
  have HR7 := Lib.hid (HR6.out.keepB hb7 (Nat.le_refl _))
  have HD7 := Lib.hid (HD6.out.keepB hb7 (Nat.le_refl _))
  have HB7 := Lib.hid (HB6.out.trans (hb7.mono HB6.out.size))
  have hll : ((R.length : Int) == (r.length : Int)) = true := by rw [HKR.out.1]; simp
  have hlD : D.length = r.length := HKD.out.1
  have hlA : A.length = r.length := HKA.out.1
  have hlR : R.length = r.length := HKR.out.1
  have HLD := Lib.hid hlD
  have HLA := Lib.hid hlA
  have HLR := Lib.hid hlR
  clear ho7 hb7 hlD hlA hlR HI4 HR4 HW4 HW5 HI6 HR6 HD6 HI5 HR5 HB5 HB6 HO2 HO3 hB1 hBw hcap hcm hl hm hc2 hcm2
  go_wp2
  go_loopw [14] (fun i' wr => ∃ k : Nat, k ≤ r.length ∧ i' = .int .i64 k ∧ Below w7.heap.size w7 wr) (fun i' _ => r.length - (intOf i').toNat)
  case atStart => exact ⟨0, by omega, rfl, Below.refl _ _⟩
  case round =>
    obtain ⟨k, hk, rfl, hbr⟩ := hrel
    by_cases hlt : k < r.length
    · have hkR : k < R.length := by rw [HLR.out]; exact hlt
      have hkD : k < D.length := by rw [HLD.out]; exact hlt
      have hkA : k < A.length := by rw [HLA.out]; exact hlt
      obtain ⟨sa, sc, hN, hc0, hc1, hc2, hci⟩ := ring_cell (HI7.out.keepB hbr (Nat.le_refl _)) hlt
      obtain ⟨sb, sd, hN2, hd0, hd1, hd2, hdi⟩ := ring_cell (HR7.out.keepB hbr (Nat.le_refl _)) hkR
      obtain ⟨se, sf, hN6, hf0, hf1, hf2, hfi⟩ := ring_cell (HD7.out.keepB hbr (Nat.le_refl _)) hkD
      obtain ⟨sg, sh, hN7, hg0, hg1, hg2, hgi⟩ := ring_cell (HA7.out.keepB hbr (Nat.le_refl _)) hkA
      rw [(HKR.out.2 k hlt).2] at hd1
      rw [(HKD.out.2 k hlt).2] at hf1
      rw [(HKA.out.2 k hlt).2] at hg1
      have HAL : Hid ((gn r k).aft.length ≤ 1048576) := by
        show _ ≤ _
        rw [(nd_open (safe_rv HS.out) hlt).2.2.2.2]; simp
      have i0 : (0 : Int) ≤ (k : Int) := by omega
      have i1 : (k : Int) < (r.length : Int) := by omega
      have i2 : (k : Int) < (R.length : Int) := by omega
      have i3 : (k : Int) < (D.length : Int) := by omega
      have i4 : (k : Int) < (A.length : Int) := by omega
      have E0 := Lib.hid hd0
      have E1 := Lib.hid hd1
      have E2 := Lib.hid hd2
      have G0 := Lib.hid hf0
      have G1 := Lib.hid hf1
      have G2 := Lib.hid hf2
      have J0 := Lib.hid hg0
      have J1 := Lib.hid hg1
      have J2 := Lib.hid hg2
      have HBR := Lib.hid hbr
      have HNN : Hid (N < wr.heap.size ∧ N2 < wr.heap.size ∧ N6 < wr.heap.size ∧ N7 < wr.heap.size) := ⟨hN, hN2, hN6, hN7⟩
      have KI := Lib.hid hci
      have KD := Lib.hid hdi
      have KF := Lib.hid hfi
      have KG := Lib.hid hgi
      clear hd0 hd1 hd2 hf0 hf1 hf2 hg0 hg1 hg2 hN hN2 hN6 hN7 hci hdi hfi hgi hbr
      go_wp2_with fail
      have HBA : Hid (Below wr.heap.size wr (wr.alloc (.cells #[.int .i64 (gn r k).pos, .int .i64 (gn r k).bef, .slice sa (gn r k).aft.length sc] 28 (0, 0)))) := (Below.refl _ _).alloc (Nat.le_refl _) _
      have HX0 : Hid ((wr.alloc (.cells #[.int .i64 (gn r k).pos, .int .i64 (gn r k).bef, .slice sa (gn r k).aft.length sc] 28 (0, 0))).cell? ⟨wr.heap.size, 0, none⟩ = some (.int .i64 (gn r k).pos)) := by show _ = _; rw [World.cell?_alloc_at _ _ _ _ rfl]; rfl
      have HX1 : Hid ((wr.alloc (.cells #[.int .i64 (gn r k).pos, .int .i64 (gn r k).bef, .slice sa (gn r k).aft.length sc] 28 (0, 0))).cell? ⟨wr.heap.size, 1, none⟩ = some (.int .i64 (gn r k).bef)) := by show _ = _; rw [World.cell?_alloc_at _ _ _ _ rfl]; rfl
      have HX2 : Hid ((wr.alloc (.cells #[.int .i64 (gn r k).pos, .int .i64 (gn r k).bef, .slice sa (gn r k).aft.length sc] 28 (0, 0))).cell? ⟨wr.heap.size, 2, none⟩ = some (.slice sa (gn r k).aft.length sc)) := by show _ = _; rw [World.cell?_alloc_at _ _ _ _ rfl]; rfl
      have HXW : Hid (wr.heap.size < (wr.alloc (.cells #[.int .i64 (gn r k).pos, .int .i64 (gn r k).bef, .slice sa (gn r k).aft.length sc] 28 (0, 0))).heap.size) := by show _ < _; simp
      generalize hgw : wr.alloc (.cells #[.int .i64 (gn r k).pos, .int .i64 (gn r k).bef, .slice sa (gn r k).aft.length sc] 28 (0, 0)) = W at HBA HX0 HX1 HX2 HXW ⊢
      obtain ⟨m, hgm⟩ : ∃ m, m = wr.heap.size := ⟨_, rfl⟩
      rw [← hgm] at HX0 HX1 HX2 HXW ⊢
      have e0 : ∀ x : Cls (Below W.heap.size W), x.to.cell? ⟨m, 0, none⟩ = some (.int .i64 (gn r k).pos) := fun x => (x.ok.cell (p := ⟨m, 0, none⟩) HXW.out).trans HX0.out
      have e1 : ∀ x : Cls (Below W.heap.size W), x.to.cell? ⟨m, 1, none⟩ = some (.int .i64 (gn r k).bef) := fun x => (x.ok.cell (p := ⟨m, 1, none⟩) HXW.out).trans HX1.out
      have e2 : ∀ x : Cls (Below W.heap.size W), x.to.cell? ⟨m, 2, none⟩ = some (.slice sa (gn r k).aft.length sc) := fun x => (x.ok.cell (p := ⟨m, 2, none⟩) HXW.out).trans HX2.out
      have hW2 : ∀ {q : Addr} {v : Value}, wr.cell? q = some v → ∀ x : Cls (Below W.heap.size W), x.to.cell? q = some v := fun {q v} hq x => bcell2 x.ok (bcell2 HBA.out hq)
      have f1 := hW2 E1.out
      have f4 := hW2 G1.out
      have f7 := hW2 J1.out
      have v0 : ((gn r k).bef != (gn r k).bef) = false := by simp
      clear hgw hgm
      by_cases hpi : (gn r k).pos = i
      · have vp : ((gn r k).pos != i) = false := by simp [hpi]
        clear hpi hW2
        refine wp_region_cls (Below W.heap.size W) (by kernel_rfl) (by kernel_rfl) below_drawn ?_
        repeat (go_big_quiet_step (fail))
        refine wpQuiet_nil ?_
        intro w9 hw'
        have hb9 := cls_out hw'
        clear hw' e0 e1 e2 f1 f4 f7
        go_wp2
        go_roundw
        case rel => exact ⟨k + 1, by omega, by go_num, HBR.out.trans ((HBA.out.trans (hb9.mono HBA.out.size)).mono HBR.out.size)⟩
        case measure => simp [intOf]; omega
      · have vp : ((gn r k).pos != i) = true := by simp [hpi]
        have er := (HKR.out.2 k hlt).1 hpi
        have ed := (HKD.out.2 k hlt).1 hpi
        have ea := (HKA.out.2 k hlt).1 hpi
        rw [er] at E0 E2 KD
        rw [ed] at G0 G2 KF
        rw [ea] at J0 J2 KG
        have f0 := hW2 E0.out
        have f2 := hW2 E2.out
        have f3 := hW2 G0.out
        have f5 := hW2 G2.out
        have f6 := hW2 J0.out
        have f8 := hW2 J2.out
        have KI1 := Lib.hid (KI.out.keepB HBA.out (Nat.le_refl _))
        have HCA : Hid (∀ (q : Option Addr) (c : Nat), IntsAt wr q (gn r k).aft → ∀ x : Cls (Below W.heap.size W), Calls Try.prog 26 #[.agg #[.int .i64 (gn r k).pos, .int .i64 (gn r k).bef, .slice q (gn r k).aft.length c], .agg #[.int .i64 (gn r k).pos, .int .i64 (gn r k).bef, .slice sa (gn r k).aft.length sc]] x.to fun e w'' => e = .returned (.bool true) ∧ ∃ y : Cls (Below W.heap.size W), w'' = y.to) := fun q c hq x =>
          cls_below (sameNode_same (gn r k) q sa c sc x.to ((hq.keepB HBA.out (Nat.le_refl _)).keepB x.ok (Nat.le_refl _)) (KI1.out.keepB x.ok (Nat.le_refl _)) HAL.out) x.ok (Nat.le_refl _)
        clear hpi hW2 er ed ea
        refine wp_region_cls (Below W.heap.size W) (by kernel_rfl) (by kernel_rfl) below_drawn ?_
        repeat (go_big_quiet_step ((go_at_call 26; rename_i x; refine HCA.out _ _ ?_ x; first | exact KD.out | exact KF.out | exact KG.out)))
        refine wpQuiet_nil ?_
        intro w9 hw'
        have hb9 := cls_out hw'
        clear hw' e0 e1 e2 f0 f1 f2 f3 f4 f5 f6 f7 f8
        go_wp2
        go_roundw
        case rel => exact ⟨k + 1, by omega, by go_num, HBR.out.trans ((HBA.out.trans (hb9.mono HBA.out.size)).mono HBR.out.size)⟩
        case measure => simp [intOf]; omega
    · have hlt' : ¬ ((k : Int) < (r.length : Int)) := by omega
      have HBR := Lib.hid (HB7.out.trans (hbr.mono HB7.out.size))
      go_wp2
      go_ret
      exact ⟨rfl, HBR.out⟩
end Go.Proofs.Ytcbbdhmloniolaa
