/- The walks of the laws of safe rings. -/
import Derived.Test.YtihkpofdpjkegaaMH
import Derived.Test.YtihkpofdpjkegaaMA
namespace Go.Proofs.Ytihkpofdpjkegaa
open Go.RowKit
set_option linter.unusedVariables false

/-- a drawn ring -/
def DrewR (w : World) (e : Ending) (w' : World) : Prop :=
  ∃ N cap r, e = .returned (.slice (some ⟨N, 0, none⟩) r.length cap) ∧ RingAt w' (some ⟨N, 0, none⟩) r ∧ r.length ≤ 10 ∧ r.length ≤ cap ∧ Below w.heap.size w w'

theorem drawRingSafe (s : Option Addr) (len cap : Nat) (w : World) (h : BytesAt w s len cap) :
    Calls Try.prog 20 #[.slice s len cap] w (DrewR w) := by
  go_enter Try.func20, Try.ntmps20
  go_wp2_with fail
  refine (open_any s len cap w h).mono ?_
  rintro e w0 ⟨rfl, hr0, hb0, hz0⟩
  have HZ := Lib.hid hz0
  clear hz0
  go_wp2_with fail
  refine (spoilt_any w.heap.size 5 w0 (hr0.less (by omega))).mono ?_
  rintro e w1 ⟨N, cap1, F, r, rfl, ho, h1, h2, h10, hr1, hg1⟩
  go_wp2
  go_ret
  have hz := HZ.out
  exact ⟨N, cap1, r, rfl, ho.ring, h10, h1, below_of_grown hb0 (Nat.le_refl _) (by omega) hg1⟩

theorem drawRingPr (s : Option Addr) (len cap : Nat) (w : World) (h : BytesAt w s len cap) :
    Calls Try.prog 13 #[.slice s len cap] w (DrewR w) := by
  go_enter Try.func13, Try.ntmps13
  go_wp2_with fail
  refine (open_any s len cap w h).mono ?_
  rintro e w0 ⟨rfl, hr0, hb0, hz0⟩
  have HZ := Lib.hid hz0
  clear hz0
  go_wp2_with fail
  refine (spoilt_any w.heap.size 5 w0 (hr0.less (by omega))).mono ?_
  rintro e w1 ⟨N, cap1, F, r, rfl, ho, h1, h2, h10, hr1, hg1⟩
  go_wp2
  go_ret
  have hz := HZ.out
  exact ⟨N, cap1, r, rfl, ho.ring, h10, h1, below_of_grown hb0 (Nat.le_refl _) (by omega) hg1⟩

theorem cbtw_as (v : Bool) (a x b : Int) (w : World) (hv : btwB a x b = v) :
    Calls Try.prog 18 #[.int .i64 a, .int .i64 x, .int .i64 b] w fun e w' => e = .returned (.bool v) ∧ w = w' := by subst hv; exact cbtw_any a x b w

set_option maxHeartbeats 2000000 in
theorem safeOrder (s : Option Addr) (len cap : Nat) (z : List Int) (w : World) (h : RowIn .u8 w s len cap z) :
    Calls Try.prog 6 #[.slice s len cap] w fun e w' => e = .returned (.bool true) ∧ Below w.heap.size w w' := by
  have hb := bytes_of_row h
  have hm : len ≤ maxLen := Nat.le_trans hb.1 hb.2.1
  unfold maxLen at hm
  clear h
  by_cases hl : 1048576 < len
  · go_enter Try.func6, Try.ntmps6
    go_wp2
    go_ret
    exact ⟨rfl, Below.refl _ _⟩
  have hlB : decide ((1048576 : Int) < (len : Int)) = false := by simp; omega
  go_enter Try.func6, Try.ntmps6
  go_wp2_with fail
  refine (drawRingSafe s len cap w hb).mono ?_
  rintro e w1 ⟨N, cap1, r, rfl, hr1, h10, hcap, hB1⟩
  have HI := Lib.hid hr1
  have hmx : r.length ≤ maxLen := by unfold maxLen; omega
  have HM := Lib.hid hmx
  clear hr1 hmx hlB
  go_wp2_with fail
  refine (rsafe_any _ _ _ cap1 r w1 HI.out rfl HM.out rfl).mono ?_
  rintro e w2 ⟨rfl, hb2⟩
  go_wp2_with fail
  refine (ssafe_any _ _ cap1 r w2 (HI.out.keepB hb2 (Nat.le_refl _)) rfl HM.out).mono ?_
  rintro e w3 ⟨rfl, hb3⟩
  have hB3 : Below w1.heap.size w1 w3 := hb2.trans (hb3.mono hb2.size)
  have hBw : Below w.heap.size w w3 := hB1.trans (hB3.mono hB1.size)
  cases hs : safeB r
  · go_wp2
    go_ret
    exact ⟨rfl, hBw⟩
  have HS := Lib.hid hs
  have HI3 := Lib.hid (HI.out.keepB hB3 (Nat.le_refl _))
  clear hs
  go_wp2
  go_loopw [6] (fun i wr => ∃ k : Nat, k ≤ r.length ∧ i = .int .i64 k ∧ Same w3 wr) (fun i _ => r.length - (intOf i).toNat)
  case atStart => exact ⟨0, by omega, rfl, Same.refl _⟩
  case round =>
    obtain ⟨k, hk, rfl, hsm⟩ := hrel
    by_cases hlt : k < r.length
    · obtain ⟨b, off, b3, o3, sc, hab, _, _, hsc, _, hc0, hc1, hc2, hx3, hy3, _⟩ := ring_node (HI3.out.keepB (hsm.below _) (Nat.le_refl _)) (safe_rv HS.out) hlt
      injection hab with hab
      injection hab with hbb hoo
      subst hbb hoo
      rw [Nat.zero_add] at hc0 hc1 hc2
      obtain ⟨hp, hz8, h0, h1, hz9⟩ := nd_open (safe_rv HS.out) hlt
      clear hz8 hz9
      have HB : Hid (btwB (gn r k).pos (gt (gn r k).aft 0) (gt (gn r k).aft 1) = true) := by
        show _ = _
        rw [btwB, (ptB_iff _).2 hp, (ptB_iff _).2 h0, (ptB_iff _).2 h1, safe_order HS.out hlt]; rfl
      have i0 : (0 : Int) ≤ (k : Int) := by omega
      have i1 : (k : Int) < (r.length : Int) := by omega
      go_wp2_with fail
      go_quiet ((go_at_call 18; exact Calls.quiet_of_same (calls_flip (cbtw_as _ _ _ _ _ HB.out))))
      go_wp2
      go_roundw
      case rel => exact ⟨k + 1, by omega, by go_num, hsm.drewN _⟩
      case measure => simp [intOf]; omega
    · go_wp2
      go_ret
      exact ⟨rfl, hBw.trans (hsm.below _)⟩
-- MORE

theorem lhas_as (v : Bool) (a : Option Addr) (len cap : Nat) (zs : List Int) (n : Int) (w : World) (h : IntsAt w a zs) (hz : zs.length = len) (hm : len ≤ maxLen) (hv : hasB zs n = v) :
    Calls Try.prog 19 #[.slice a len cap, .int .i64 n] w fun e w' => e = .returned (.bool v) ∧ w = w' := by subst hv; exact lhas_any a len cap zs n w h hz hm

set_option maxHeartbeats 4000000 in
theorem safeSelf (s : Option Addr) (len cap : Nat) (z : List Int) (w : World) (h : RowIn .u8 w s len cap z) :
    Calls Try.prog 5 #[.slice s len cap] w fun e w' => e = .returned (.bool true) ∧ Below w.heap.size w w' := by
  have hb := bytes_of_row h
  have hm : len ≤ maxLen := Nat.le_trans hb.1 hb.2.1
  unfold maxLen at hm
  clear h
  by_cases hl : 1048576 < len
  · go_enter Try.func5, Try.ntmps5
    go_wp2
    go_ret
    exact ⟨rfl, Below.refl _ _⟩
  have hlB : decide ((1048576 : Int) < (len : Int)) = false := by simp; omega
  go_enter Try.func5, Try.ntmps5
  go_wp2_with fail
  refine (drawRingSafe s len cap w hb).mono ?_
  rintro e w1 ⟨N, cap1, r, rfl, hr1, h10, hcap, hB1⟩
  have HI := Lib.hid hr1
  have hmx : r.length ≤ maxLen := by unfold maxLen; omega
  have HM := Lib.hid hmx
  clear hr1 hmx hlB
  go_wp2_with fail
  refine (rsafe_any _ _ _ cap1 r w1 HI.out rfl HM.out rfl).mono ?_
  rintro e w2 ⟨rfl, hb2⟩
  go_wp2_with fail
  refine (ssafe_any _ _ cap1 r w2 (HI.out.keepB hb2 (Nat.le_refl _)) rfl HM.out).mono ?_
  rintro e w3 ⟨rfl, hb3⟩
  have hB3 : Below w1.heap.size w1 w3 := hb2.trans (hb3.mono hb2.size)
  have hBw : Below w.heap.size w w3 := hB1.trans (hB3.mono hB1.size)
  cases hs : safeB r
  · go_wp2
    go_ret
    exact ⟨rfl, hBw⟩
  have HS := Lib.hid hs
  have HI3 := Lib.hid (HI.out.keepB hB3 (Nat.le_refl _))
  clear hs
  go_wp2
  go_loopw [6] (fun i wr => ∃ k : Nat, k ≤ r.length ∧ i = .int .i64 k ∧ Below w3.heap.size w3 wr) (fun i _ => r.length - (intOf i).toNat)
  case atStart => exact ⟨0, by omega, rfl, Below.refl _ _⟩
  case round =>
    obtain ⟨k, hk, rfl, hsm⟩ := hrel
    obtain ⟨wi, rfl⟩ : ∃ x, x = wr := ⟨_, rfl⟩
    by_cases hlt : k < r.length
    · obtain ⟨b, off, b3, o3, sc, hab, hbl, hb3l, hsc, hscm, hc0, hc1, hc2, hx3, hy3, hin⟩ := ring_node (HI3.out.keepB hsm (Nat.le_refl _)) (safe_rv HS.out) hlt
      injection hab with hab
      injection hab with hbb hoo
      subst hbb hoo
      rw [Nat.zero_add] at hc0 hc1 hc2
      obtain ⟨hp, hz8, h0, h1, hz9⟩ := nd_open (safe_rv HS.out) hlt
      have i0 : (0 : Int) ≤ (k : Int) := by omega
      have i1 : (k : Int) < (r.length : Int) := by omega
      obtain ⟨s1, s2, s3⟩ := safe_self HS.out hlt
      have HHB : Hid (hasB (gn r k).aft (gn r k).pos = false) := by
        show _ = _
        cases hh : hasB (gn r k).aft (gn r k).pos
        · rfl
        · exfalso
          have := (hasB_iff _ _).1 hh
          rw [hz9] at this
          simp at this
          omega
      have HL2 : Hid ((gn r k).aft.length = 2) := by show _ = _; rw [hz9]; rfl
      have HT := Lib.hid hin
      have t0 : (gt (gn r k).aft 0 == gt (gn r k).aft 1) = false := by rw [beq_eq_false_iff_ne]; exact s3
      have e0 : ∀ x : Cls (Below wi.heap.size wi), x.to.cell? ⟨N, k * 3, none⟩ = some (.int .i64 (gn r k).pos) := fun x => (x.ok.cell (p := ⟨N, k * 3, none⟩) hbl).trans hc0
      have e2 : ∀ x : Cls (Below wi.heap.size wi), x.to.cell? ⟨N, k * 3 + 2, none⟩ = some (.slice (some ⟨b3, o3, none⟩) 2 sc) := fun x => (x.ok.cell (p := ⟨N, k * 3 + 2, none⟩) hbl).trans hc2
      have e3 : ∀ x : Cls (Below wi.heap.size wi), x.to.cell? ⟨b3, o3, none⟩ = some (.int .i64 (gt (gn r k).aft 0)) := fun x => (x.ok.cell (p := ⟨b3, o3, none⟩) hb3l).trans hx3
      have e4 : ∀ x : Cls (Below wi.heap.size wi), x.to.cell? ⟨b3, o3 + 1, none⟩ = some (.int .i64 (gt (gn r k).aft 1)) := fun x => (x.ok.cell (p := ⟨b3, o3 + 1, none⟩) hb3l).trans hy3
      clear hz8 hz9 s1 s2 s3 hin hscm
      go_wp2_with fail
      refine wp_region_cls (Below wi.heap.size wi) (by kernel_rfl) (by kernel_rfl) below_drawn ?_
      repeat (go_big_quiet_step ((go_at_call 19; rename_i x; exact cls_same (lhas_as _ _ _ _ (gn r k).aft _ _ (HT.out.keepB x.ok (Nat.le_refl _)) HL2.out (by unfold maxLen; omega) HHB.out) x.ok)))
      refine wpQuiet_nil ?_
      intro w5 hw'
      have hb5 := cls_out hw'
      clear hw' e0 e2 e3 e4
      go_wp2
      go_roundw
      case rel => exact ⟨k + 1, by omega, by go_num, hsm.trans (hb5.mono hsm.size)⟩
      case measure => simp [intOf]; omega
    · go_wp2
      go_ret
      exact ⟨rfl, hBw.trans (hsm.mono hBw.size)⟩

set_option maxHeartbeats 4000000 in
theorem safeBetween (s : Option Addr) (len cap : Nat) (z : List Int) (w : World) (h : RowIn .u8 w s len cap z) :
    Calls Try.prog 9 #[.slice s len cap] w fun e w' => e = .returned (.bool true) ∧ Below w.heap.size w w' := by
  have hb := bytes_of_row h
  have hm : len ≤ maxLen := Nat.le_trans hb.1 hb.2.1
  unfold maxLen at hm
  clear h
  by_cases hl : 1048576 < len
  · go_enter Try.func9, Try.ntmps9
    go_wp2
    go_ret
    exact ⟨rfl, Below.refl _ _⟩
  have hlB : decide ((1048576 : Int) < (len : Int)) = false := by simp; omega
  go_enter Try.func9, Try.ntmps9
  go_wp2_with fail
  refine (drawRingSafe s len cap w hb).mono ?_
  rintro e w1 ⟨N, cap1, r, rfl, hr1, h10, hcap, hB1⟩
  have HI := Lib.hid hr1
  have hmx : r.length ≤ maxLen := by unfold maxLen; omega
  have HM := Lib.hid hmx
  clear hr1 hmx hlB
  go_wp2_with fail
  refine (rsafe_any _ _ _ cap1 r w1 HI.out rfl HM.out rfl).mono ?_
  rintro e w2 ⟨rfl, hb2⟩
  go_wp2_with fail
  refine (ssafe_any _ _ cap1 r w2 (HI.out.keepB hb2 (Nat.le_refl _)) rfl HM.out).mono ?_
  rintro e w3 ⟨rfl, hb3⟩
  have hB3 : Below w1.heap.size w1 w3 := hb2.trans (hb3.mono hb2.size)
  have hBw : Below w.heap.size w w3 := hB1.trans (hB3.mono hB1.size)
  cases hs : safeB r
  · go_wp2
    go_ret
    exact ⟨rfl, hBw⟩
  have HS := Lib.hid hs
  have HI3 := Lib.hid (HI.out.keepB hB3 (Nat.le_refl _))
  clear hs
  go_wp2_with fail
  refine (rpr_any _ _ cap1 r w3 HI3.out rfl HM.out).mono ?_
  rintro e w4 ⟨gp, cp, rfl, hop, hb4⟩
  have hpv : prV r = prL r := by simp [prV, safe_rv HS.out]
  rw [hpv] at hop ⊢
  have HOP := Lib.hid hop.ints
  have hpl : (prL r).length ≤ 10 := Nat.le_trans (prTo_len r _) h10
  have hBw4 : Below w.heap.size w w4 := hBw.trans (hb4.mono hBw.size)
  have HI4 := Lib.hid (HI3.out.keepB hb4 (Nat.le_refl _))
  have HPI : Hid (∀ j, j < (prL r).length → w4.cell? ⟨gp, j, none⟩ = some (.int .i64 (gt (prL r) j))) := fun j hj => by
    rcases HOP.out with h0 | ⟨b9, o9, ha9, _, hc9⟩
    · rw [h0] at hj; simp at hj
    · injection ha9 with ha9
      injection ha9 with h1 h2
      subst h1 h2
      have := hc9 j hj
      rw [Nat.zero_add] at this; exact this
  clear hop hpv
  go_wp2
  go_loopw [7] (fun i wr => ∃ k : Nat, k ≤ r.length ∧ i = .int .i64 k ∧ Same w4 wr) (fun i _ => r.length - (intOf i).toNat)
  case atStart => exact ⟨0, by omega, rfl, Same.refl _⟩
  case round =>
    obtain ⟨k, hk, rfl, hsm⟩ := hrel
    by_cases hlt : k < r.length
    · go_wp2
      go_loopw [8] (fun i wi => ∃ m : Nat, m ≤ (prL r).length ∧ i = .int .i64 m ∧ Same w4 wi) (fun i _ => (prL r).length - (intOf i).toNat)
      case atStart => exact ⟨0, by omega, rfl, hsm⟩
      case round =>
        obtain ⟨m, hmm, rfl, hsi⟩ := hrel
        by_cases hmt : m < (prL r).length
        · obtain ⟨b, off, b3, o3, sc, hab, hbl, hb3l, hsc, hscm, hc0, hc1, hc2, hx3, hy3, hin⟩ := ring_node (HI4.out.keepB (hsi.below _) (Nat.le_refl _)) (safe_rv HS.out) hlt
          injection hab with hab
          injection hab with hbb hoo
          subst hbb hoo
          rw [Nat.zero_add] at hc0 hc1 hc2
          obtain ⟨hp, hz8, h0, h1, hz9⟩ := nd_open (safe_rv HS.out) hlt
          have hcq := (hsi.cell ⟨gp, m, none⟩).trans (HPI.out m hmt)
          have hmem : gt (prL r) m ∈ prL r := by rw [gt_get hmt]; exact List.getElem_mem _
          have hbt := fun hb => safe_btw HS.out hlt hmem hb
          have hqp := live_pt (safe_rv HS.out) ((mem_pr _ _).1 hmem).1
          have i0 : (0 : Int) ≤ (k : Int) := by omega
          have i1 : (k : Int) < (r.length : Int) := by omega
          have i2 : (0 : Int) ≤ (m : Int) := by omega
          have i3 : (m : Int) < ((prL r).length : Int) := by omega
          have HBE : Hid (btwB (gn r k).pos (gt (prL r) m) (gt (gn r k).aft 1) = btwI (gn r k).pos (gt (prL r) m) (gt (gn r k).aft 1)) := by
            show _ = _
            rw [btwB, (ptB_iff _).2 hp, (ptB_iff _).2 hqp, (ptB_iff _).2 h1]; simp
          have HBT := Lib.hid hbt
          clear hz8 hz9 hmem hbt hin hscm
          rcases bool_cases (btwI (gn r k).pos (gt (prL r) m) (gt (gn r k).aft 1)) with hq | hq
          · have HQ := Lib.hid (HBE.out.trans hq)
            clear hq
            go_wp2_with fail
            go_quiet ((go_at_call 18; exact Calls.quiet_of_same (calls_flip (cbtw_as _ _ _ _ _ HQ.out))))
            go_wp2
            go_roundw
            case rel => exact ⟨m + 1, by omega, by go_num, hsi.drewN _⟩
            case measure => simp [intOf]; omega
          · have HQ := Lib.hid (HBE.out.trans hq)
            have hne : (gt (prL r) m != gt (gn r k).aft 0) = false := by rw [HBT.out hq]; simp
            clear hq
            go_wp2_with fail
            go_quiet ((go_at_call 18; exact Calls.quiet_of_same (calls_flip (cbtw_as _ _ _ _ _ HQ.out))))
            go_wp2
            go_roundw
            case rel => exact ⟨m + 1, by omega, by go_num, hsi.drewN _⟩
            case measure => simp [intOf]; omega
        · go_wp2
          go_roundw
          case rel => exact ⟨k + 1, by omega, by go_num, hsi⟩
          case measure => simp [intOf]; omega
    · go_wp2
      go_ret
      exact ⟨rfl, hBw4.trans (hsm.below _)⟩
end Go.Proofs.Ytihkpofdpjkegaa
