/- Comparing numbers, nodes and rings in the laws. -/
import Derived.Test.YtoggmekkkonkgaaSameS
namespace Go.Proofs.Ytoggmekkkonkgaa
open Go.RowKit
set_option linter.unusedVariables false

attribute [local go_sem ↓] Go.wp_at_zero Go.wp_at_succ

set_option maxHeartbeats 2000000 in
theorem sameI_b (a1 a2 : Option Addr) (len len2 cap1 cap2 : Nat) (zs ys : List Int) (w : World) (h1 : IntsAt w a1 zs) (h2 : IntsAt w a2 ys) (hz : zs.length = len) (hz2 : ys.length = len2) (hm : len ≤ maxLen) (hm2 : len2 ≤ maxLen) :
    Calls Try.prog 10 #[.slice a1 len cap1, .slice a2 len2 cap2] w fun e w' => e = .returned (.bool (decide (zs = ys))) ∧ Same w w' := by
  have H1 := Lib.hid h1
  have H2 := Lib.hid h2
  have HZ := Lib.hid hz
  have HZ2 := Lib.hid hz2
  unfold maxLen at hm hm2
  by_cases hlen : len = len2
  rotate_left
  · have He : Hid (decide (zs = ys) = false) := by show _ = _; rw [decide_eq_false]; intro e; rw [e] at hz; exact hlen (hz.symm.trans hz2)
    have v2 : ((len : Int) != (len2 : Int)) = true := by simp; omega
    clear h1 h2 hz hz2 hlen
    go_enter Try.func10, Try.ntmps10
    go_wp2
    go_ret
    exact ⟨ret_bool He.out.symm, Same.refl _⟩
  subst hlen
  have HL : Hid (zs.length = ys.length) := by show _ = _; rw [hz, hz2]
  have v2 : ((len : Int) != (len : Int)) = false := by simp
  clear h1 h2 hz hz2
  go_enter Try.func10, Try.ntmps10
  go_wp2
  clear v2
  go_loopw [5] (fun i wr => ∃ k : Nat, k ≤ len ∧ i = .int .i64 k ∧ (∀ j, j < k → gt zs j = gt ys j) ∧ Same w wr) (fun i _ => len - (intOf i).toNat)
  case atStart => exact ⟨0, by omega, rfl, fun j hj => absurd hj (by omega), Same.refl _⟩
  case round =>
    obtain ⟨k, hk, rfl, hall, hs⟩ := hrel
    have HA := Lib.hid hall
    clear hall
    by_cases hlt : k < len
    · have h' : ∃ b off, a1 = some ⟨b, off, none⟩ ∧ wr.cell? ⟨b, off + k, none⟩ = some (.int .i64 (gt zs k)) := by
        rcases H1.out with h0 | ⟨b, off, ha, hb, hc⟩
        · have := HZ.out; rw [h0] at this; simp at this; omega
        · exact ⟨b, off, ha, (hs.cell _).trans (hc k (by rw [HZ.out]; exact hlt))⟩
      have h'' : ∃ b off, a2 = some ⟨b, off, none⟩ ∧ wr.cell? ⟨b, off + k, none⟩ = some (.int .i64 (gt ys k)) := by
        rcases H2.out with h0 | ⟨b, off, ha, hb, hc⟩
        · have := HZ2.out; rw [h0] at this; simp at this; omega
        · exact ⟨b, off, ha, (hs.cell _).trans (hc k (by rw [HZ2.out]; exact hlt))⟩
      obtain ⟨b, off, rfl, hc⟩ := h'
      obtain ⟨b2, off2, rfl, hc2⟩ := h''
      have q0 : (0 : Int) ≤ (k : Int) := by omega
      have q1 : (k : Int) < (len : Int) := by omega
      cases hv : (gt zs k != gt ys k)
      · have HV : Hid (gt zs k = gt ys k) := by show _ = _; simpa using hv
        go_wp2
        go_quiet (fail)
        go_wp2
        go_roundw
        case rel =>
          refine ⟨k + 1, by omega, by go_num, fun j hj => ?_, hs.drewN _⟩
          rcases Nat.lt_or_ge j k with h' | h'
          · exact HA.out j h'
          · rw [show j = k by omega]; exact HV.out
        case measure => simp [intOf]; omega
      · have HV : Hid (¬ gt zs k = gt ys k) := by show ¬ _; simpa using hv
        go_wp2
        go_quiet (fail)
        go_wp2
        go_ret
        refine ⟨ret_bool ?_, hs.drewN _⟩
        rw [decide_eq_false]
        intro e; exact HV.out (by rw [e])
    · go_wp2
      go_ret
      refine ⟨ret_bool ?_, hs⟩
      rw [decide_eq_true]
      exact (list_eq_iff HL.out).2 (fun i hi => HA.out i (by rw [HZ.out] at hi; omega))

set_option maxHeartbeats 1000000 in
theorem sameNode_b (n m : Nd) (sa sb : Option Addr) (ca cb : Nat) (w : World) (h1 : IntsAt w sa n.aft) (h2 : IntsAt w sb m.aft) (hl : n.aft.length ≤ maxLen) (hl' : m.aft.length ≤ maxLen) :
    Calls Try.prog 42 #[.agg #[.int .i64 n.pos, .int .i64 n.bef, .slice sa n.aft.length ca], .agg #[.int .i64 m.pos, .int .i64 m.bef, .slice sb m.aft.length cb]] w fun e w' => e = .returned (.bool (sameN n m)) ∧ Below w.heap.size w w' := by
  have H1 := Lib.hid h1
  have H2 := Lib.hid h2
  clear h1 h2
  have HB : Hid (∀ a b, Below w.heap.size w ((w.alloc a).alloc b)) := fun a b => ((Below.refl _ _).alloc (Nat.le_refl _) _).alloc (by simp) _
  by_cases hp : n.pos = m.pos
  rotate_left
  · have He : Hid (sameN n m = false) := by show sameN n m = false; simp [sameN, hp]
    have v0 : (n.pos == m.pos) = false := by simp [hp]
    clear hp
    go_enter Try.func42, Try.ntmps42
    go_wp2
    go_ret
    exact ⟨ret_bool He.out.symm, HB.out _ _⟩
  by_cases hb : n.bef = m.bef
  rotate_left
  · have He : Hid (sameN n m = false) := by show sameN n m = false; simp [sameN, hb]
    have v0 : (n.pos == m.pos) = true := by simp [hp]
    have v1 : (n.bef == m.bef) = false := by simp [hb]
    clear hp hb
    go_enter Try.func42, Try.ntmps42
    go_wp2
    go_ret
    exact ⟨ret_bool He.out.symm, HB.out _ _⟩
  have He : Hid (sameN n m = decide (n.aft = m.aft)) := by show sameN n m = _; simp [sameN, hp, hb]
  have v0 : (n.pos == m.pos) = true := by simp [hp]
  have v1 : (n.bef == m.bef) = true := by simp [hb]
  clear hp hb
  go_enter Try.func42, Try.ntmps42
  go_wp2_with fail
  generalize hW : (w.alloc (.cells #[.int .i64 n.pos, .int .i64 n.bef, .slice sa n.aft.length ca] 29)).alloc (.cells #[.int .i64 m.pos, .int .i64 m.bef, .slice sb m.aft.length cb] 29) = W
  obtain ⟨_, hB, _, _⟩ := two_new hW.symm
  refine (sameI_b sa sb _ _ ca cb n.aft m.aft W (H1.out.keepB hB (Nat.le_refl _)) (H2.out.keepB hB (Nat.le_refl _)) rfl rfl hl hl').mono ?_
  rintro e w1 ⟨rfl, hs⟩
  rw [← He.out]
  go_wp2
  go_ret
  exact ⟨rfl, hB.trans (hs.below _)⟩
theorem sameNode_as (v : Bool) (n m : Nd) (sa sb : Option Addr) (ca cb : Nat) (w : World) (h1 : IntsAt w sa n.aft) (h2 : IntsAt w sb m.aft) (hl : n.aft.length ≤ maxLen) (hl' : m.aft.length ≤ maxLen) (hv : sameN n m = v) :
    Calls Try.prog 42 #[.agg #[.int .i64 n.pos, .int .i64 n.bef, .slice sa n.aft.length ca], .agg #[.int .i64 m.pos, .int .i64 m.bef, .slice sb m.aft.length cb]] w fun e w' => e = .returned (.bool v) ∧ Below w.heap.size w w' := by
  subst hv; exact sameNode_b n m sa sb ca cb w h1 h2 hl hl'

set_option maxHeartbeats 1000000 in
theorem sameRing_b (a1 a2 : Option Addr) (len len2 cap1 cap2 : Nat) (r r2 : List Nd) (w : World) (h1 : RingAt w a1 r) (h2 : RingAt w a2 r2) (hz : r.length = len) (hz2 : r2.length = len2) (hm : len ≤ maxLen) (hm2 : len2 ≤ maxLen) :
    Calls Try.prog 15 #[.slice a1 len cap1, .slice a2 len2 cap2] w fun e w' => e = .returned (.bool (sameR r r2)) ∧ Below w.heap.size w w' := by
  have H1 := Lib.hid h1
  have H2 := Lib.hid h2
  have HZ := Lib.hid hz
  have HZ2 := Lib.hid hz2
  unfold maxLen at hm hm2
  by_cases hlen : len = len2
  rotate_left
  · have He : Hid (sameR r r2 = false) := by show sameR r r2 = false; simp [sameR, hz, hz2, hlen]
    have v2 : ((len : Int) != (len2 : Int)) = true := by simp; omega
    clear h1 h2 hz hz2 hlen
    go_enter Try.func15, Try.ntmps15
    go_wp2
    go_ret
    exact ⟨ret_bool He.out.symm, Below.refl _ _⟩
  subst hlen
  have He : Hid (sameR r r2 = allTo (fun i => sameN (gn r i) (gn r2 i)) len) := by show sameR r r2 = _; simp [sameR, hz, hz2]
  have v2 : ((len : Int) != (len : Int)) = false := by simp
  clear h1 h2 hz hz2
  go_enter Try.func15, Try.ntmps15
  go_wp2
  clear v2
  go_loopw [5] (fun i wr => ∃ k : Nat, k ≤ len ∧ i = .int .i64 k ∧ allTo (fun i => sameN (gn r i) (gn r2 i)) k = true ∧ Below w.heap.size w wr) (fun i _ => len - (intOf i).toNat)
  case atStart => exact ⟨0, by omega, rfl, rfl, Below.refl _ _⟩
  case round =>
    obtain ⟨k, hk, rfl, hall, hbel⟩ := hrel
    have HA := Lib.hid hall
    clear hall
    obtain ⟨wo, rfl⟩ : ∃ x, x = wr := ⟨_, rfl⟩
    by_cases hlt : k < len
    · have hkr : k < r.length := by rw [HZ.out]; exact hlt
      have hkr2 : k < r2.length := by rw [HZ2.out]; exact hlt
      obtain ⟨b, off, rfl, hb0, hnodes⟩ := (H1.out.keepB hbel (Nat.le_refl _)).at_ hkr
      obtain ⟨sa, sc, hc0, hc1, hc2, hl, hmx, hints⟩ := node_open (hnodes k hkr)
      obtain ⟨b', off', rfl, hb0', hnodes'⟩ := (H2.out.keepB hbel (Nat.le_refl _)).at_ hkr2
      obtain ⟨sa', sc', hd0, hd1, hd2, hl', hmx', hints'⟩ := node_open (hnodes' k hkr2)
      have HM := Lib.hid (Nat.le_trans hl hmx)
      have HM' := Lib.hid (Nat.le_trans hl' hmx')
      clear hnodes hnodes' hmx hmx'
      have HT := Lib.hid hints
      have HT' := Lib.hid hints'
      clear hints hints'
      have e0 : ∀ x : Cls (Below wo.heap.size wo), x.to.cell? ⟨b, off + k * 3, none⟩ = some (.int .i64 (gn r k).pos) := fun x => (x.ok.cell (p := ⟨b, off + k * 3, none⟩) hb0).trans hc0
      have e1 : ∀ x : Cls (Below wo.heap.size wo), x.to.cell? ⟨b, off + k * 3 + 1, none⟩ = some (.int .i64 (gn r k).bef) := fun x => (x.ok.cell (p := ⟨b, off + k * 3 + 1, none⟩) hb0).trans hc1
      have e2 : ∀ x : Cls (Below wo.heap.size wo), x.to.cell? ⟨b, off + k * 3 + 2, none⟩ = some (.slice sa (gn r k).aft.length sc) := fun x => (x.ok.cell (p := ⟨b, off + k * 3 + 2, none⟩) hb0).trans hc2
      have e3 : ∀ x : Cls (Below wo.heap.size wo), x.to.cell? ⟨b', off' + k * 3, none⟩ = some (.int .i64 (gn r2 k).pos) := fun x => (x.ok.cell (p := ⟨b', off' + k * 3, none⟩) hb0').trans hd0
      have e4 : ∀ x : Cls (Below wo.heap.size wo), x.to.cell? ⟨b', off' + k * 3 + 1, none⟩ = some (.int .i64 (gn r2 k).bef) := fun x => (x.ok.cell (p := ⟨b', off' + k * 3 + 1, none⟩) hb0').trans hd1
      have e5 : ∀ x : Cls (Below wo.heap.size wo), x.to.cell? ⟨b', off' + k * 3 + 2, none⟩ = some (.slice sa' (gn r2 k).aft.length sc') := fun x => (x.ok.cell (p := ⟨b', off' + k * 3 + 2, none⟩) hb0').trans hd2
      have i0 : (0 : Int) ≤ (k : Int) := by omega
      have i1 : (k : Int) < (len : Int) := by omega
      cases hsn : sameN (gn r k) (gn r2 k)
      all_goals
        have HSN := Lib.hid hsn
        clear hsn
        go_wp2
        refine wp_region_cls (Below wo.heap.size wo) (by kernel_rfl) (by kernel_rfl) below_drawn ?_
        repeat (go_big_quiet_step ((go_at_call 42; rename_i x; exact cls_below (sameNode_as _ (gn r k) (gn r2 k) sa sa' sc sc' _ (HT.out.keepB x.ok (Nat.le_refl _)) (HT'.out.keepB x.ok (Nat.le_refl _)) HM.out HM'.out HSN.out) x.ok (Nat.le_refl _))))
        refine wpQuiet_nil ?_
        intro w2 hw'
        have hb2 := cls_out hw'
        clear hw' e0 e1 e2 e3 e4 e5
        go_wp2
      · go_ret
        exact ⟨ret_bool (by rw [He.out, allTo_no hlt HSN.out]), hbel.trans (hb2.mono hbel.size)⟩
      · go_roundw
        case rel => exact ⟨k + 1, by omega, by go_num, allTo_succ HA.out HSN.out, hbel.trans (hb2.mono hbel.size)⟩
        case measure => simp [intOf]; omega
    · go_wp2
      go_ret
      exact ⟨ret_bool (by rw [He.out, show len = k by omega]; exact HA.out.symm), hbel⟩
theorem sameRing_as (v : Bool) (a1 a2 : Option Addr) (len len2 cap1 cap2 : Nat) (r r2 : List Nd) (w : World) (h1 : RingAt w a1 r) (h2 : RingAt w a2 r2) (hz : r.length = len) (hz2 : r2.length = len2) (hm : len ≤ maxLen) (hm2 : len2 ≤ maxLen) (hv : sameR r r2 = v) :
    Calls Try.prog 15 #[.slice a1 len cap1, .slice a2 len2 cap2] w fun e w' => e = .returned (.bool v) ∧ Below w.heap.size w w' := by
  subst hv; exact sameRing_b a1 a2 len len2 cap1 cap2 r r2 w h1 h2 hz hz2 hm hm2

end Go.Proofs.Ytoggmekkkonkgaa
