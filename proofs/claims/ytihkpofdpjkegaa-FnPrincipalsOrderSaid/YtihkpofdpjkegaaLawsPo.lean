/- The walk of the law of the principals' order. -/
import Derived.Test.YtihkpofdpjkegaaLawsSafe2
namespace Go.Proofs.Ytihkpofdpjkegaa
open Go.RowKit
set_option linter.unusedVariables false

theorem pr_rv {r : List Nd} {j : Nat} (h : j < (prV r).length) : rvB r = true := by
  unfold prV at h
  split at h
  · assumption
  · simp at h
theorem gt_in {l : List Int} {j : Nat} (h : j < l.length) : gt l j ∈ l := by rw [gt_get h]; exact List.getElem_mem h
theorem pr_live {r : List Nd} {j : Nat} (h : j < (prV r).length) : liveB r (gt (prV r) j) = true := by
  have hm := gt_in h
  generalize gt (prV r) j = x at hm ⊢
  unfold prV at hm
  split at hm
  · exact ((mem_pr r x).1 hm).1
  · simp at hm
theorem pr_up {r : List Nd} {j : Nat} (h : j + 1 < (prV r).length) : gt (prV r) j < gt (prV r) (j + 1) := by
  have hp : (prV r).Pairwise (· < ·) := by
    unfold prV
    split
    · rename_i hv; exact prTo_asc hv (Nat.le_refl _)
    · exact List.Pairwise.nil
  rw [gt_get h, gt_get (show j < (prV r).length by omega)]
  exact List.pairwise_iff_getElem.1 hp j (j + 1) (by omega) h (by omega)
set_option maxHeartbeats 1000000 in
theorem sameInts_same (a1 a2 : Option Addr) (len cap1 cap2 : Nat) (zs : List Int) (w : World) (h1 : IntsAt w a1 zs) (h2 : IntsAt w a2 zs) (hz : zs.length = len) (hm : len ≤ 1048576) :
    Calls Try.prog 16 #[.slice a1 len cap1, .slice a2 len cap2] w fun e w' => e = .returned (.bool true) ∧ Same w w' := by
  have H1 := Lib.hid h1
  have H2 := Lib.hid h2
  have HZ := Lib.hid hz
  clear h1 h2 hz
  have hne : ((len : Int) != (len : Int)) = false := by simp
  go_enter Try.func16, Try.ntmps16
  go_wp2
  go_loopw [5] (fun i wr => ∃ k : Nat, k ≤ len ∧ i = .int .i64 k ∧ Same w wr) (fun i _ => len - (intOf i).toNat)
  case atStart => exact ⟨0, by omega, rfl, Same.refl _⟩
  case round =>
    obtain ⟨k, hk, rfl, hsame⟩ := hrel
    by_cases hlt : k < len
    · have h' : ∃ b off, a1 = some ⟨b, off, none⟩ ∧ wr.cell? ⟨b, off + k, none⟩ = some (.int .i64 (gt zs k)) := by
        rcases H1.out with h0 | ⟨b, off, ha, hb, hc⟩
        · have := HZ.out; rw [h0] at this; simp at this; omega
        · exact ⟨b, off, ha, (hsame.cell _).trans (hc k (by rw [HZ.out]; exact hlt))⟩
      have h'' : ∃ b off, a2 = some ⟨b, off, none⟩ ∧ wr.cell? ⟨b, off + k, none⟩ = some (.int .i64 (gt zs k)) := by
        rcases H2.out with h0 | ⟨b, off, ha, hb, hc⟩
        · have := HZ.out; rw [h0] at this; simp at this; omega
        · exact ⟨b, off, ha, (hsame.cell _).trans (hc k (by rw [HZ.out]; exact hlt))⟩
      obtain ⟨b, off, ha, hc⟩ := h'
      obtain ⟨b2, off2, ha2, hc2⟩ := h''
      subst ha ha2
      have hv : ((gt zs k) != (gt zs k)) = false := by simp
      have hlt' : (k : Int) < (len : Int) := by omega
      have h0' : (0 : Int) ≤ (k : Int) := by omega
      go_wp2
      go_quiet (fail)
      go_wp2
      go_roundw
      case rel => exact ⟨k + 1, by omega, by go_num, hsame.drewN _⟩
      case measure => simp [intOf]; omega
    · go_wp2
      go_ret
      exact ⟨rfl, hsame⟩
set_option maxHeartbeats 2000000 in
theorem nodeAt_live (N len cap : Nat) (i : Int) (r : List Nd) (w : World) (h : RingAt w (some ⟨N, 0, none⟩) r) (hz : r.length = len) (hm : len ≤ maxLen) (hv : rvB r = true) (kk : Nat) (hkk : kk < r.length) (hii : (gn r kk).pos = i) (ta : Option Addr) (tl tc : Nat) (hN : N < w.heap.size) (htc : w.cell? ⟨N, kk * 3 + 2, none⟩ = some (.slice ta tl tc)) :
    Calls Try.prog 23 #[.slice (some ⟨N, 0, none⟩) len cap, .int .i64 i] w fun e w' => e = .returned (.agg #[.int .i64 i, .int .i64 (gn r kk).bef, .slice ta tl tc]) ∧ Below w.heap.size w w' := by
  have HV := Lib.hid hv
  have HKK := Lib.hid hkk
  have HII := Lib.hid hii
  have HTC := Lib.hid htc
  clear hv hkk hii htc
  unfold maxLen at hm
  have HZ := Lib.hid hz
  have HI0 := Lib.hid h
  clear h hz
  go_enter Try.func23, Try.ntmps23
  go_wp2
  generalize hW : w.alloc (Obj.cells #[Value.int IntKind.i64 0, Value.int IntKind.i64 0, Value.slice none 0 0] 30) = W
  have hBW : Below w.heap.size w W := by rw [← hW]; exact (Below.refl _ _).alloc (Nat.le_refl _) _
  have hRW : W.heap[w.heap.size]? = some (.cells #[.int .i64 0, .int .i64 0, .slice none 0 0] 30 (0, 0)) := by rw [← hW]; exact heap_alloc_new w _
  have hWz : w.heap.size < W.heap.size := heap_lt hRW
  have HI := Lib.hid (HI0.out.keepB hBW (Nat.le_refl _))
  have HRW := Lib.hid hRW
  clear hW hRW
  go_loopw [5] (fun q wr => ∃ k : Nat, k ≤ len ∧ q = .int .i64 k ∧ (∀ j, j < k → (gn r j).pos ≠ i) ∧ Same W wr) (fun q _ => len - (intOf q).toNat)
  case atStart => exact ⟨0, by omega, rfl, fun j hj => absurd hj (by omega), Same.refl _⟩
  case round =>
    obtain ⟨k, hk, rfl, hno, hs⟩ := hrel
    have HNO := Lib.hid hno
    have hR : wr.heap[w.heap.size]? = some (.cells #[.int .i64 0, .int .i64 0, .slice none 0 0] 30 (0, 0)) := by rw [hs.heap]; exact HRW.out
    have HR := Lib.hid hR
    have z0 : wr.cell? ⟨w.heap.size, 0, none⟩ = some (.int .i64 0) := by rw [cell_of_cells hR]; rfl
    have z1 : wr.cell? ⟨w.heap.size, 1, none⟩ = some (.int .i64 0) := by rw [cell_of_cells hR]; rfl
    have z2 : wr.cell? ⟨w.heap.size, 2, none⟩ = some (.slice none 0 0) := by rw [cell_of_cells hR]; rfl
    have zf : ∀ i, wr.frozen? ⟨w.heap.size, i, none⟩ = false := fun i => frozen_of_cells hR i
    have hBr : Below w.heap.size w wr := hBW.trans (hs.below _)
    clear hno hR
    by_cases hlt : k < len
    · have hkr : k < r.length := by rw [HZ.out]; exact hlt
      obtain ⟨b, off, hab, hb0, hnodes⟩ := (HI.out.keepB (hs.below _) (Nat.le_refl _)).at_ hkr
      injection hab with hab
      injection hab with hbb hoo
      subst hbb hoo
      obtain ⟨sa, sc, hc0, hc1, hc2, _, _, _⟩ := node_open (hnodes k hkr)
      rw [Nat.zero_add] at hc0 hc1 hc2
      clear hnodes
      cases ht : ((gn r k).pos == i)
      · have HT : Hid (¬ (gn r k).pos = i) := by show ¬ _; simpa using ht
        go_wp2
        go_roundw
        case rel =>
          refine ⟨k + 1, by omega, by go_num, fun j hj => ?_, hs⟩
          rcases Nat.lt_or_ge j k with h' | h'
          · exact HNO.out j h'
          · rw [show j = k by omega]; exact HT.out
        case measure => simp [intOf]; omega
      · have hT : (gn r k).pos = i := by simpa using ht
        have hkk : k = kk := rv_inj HV.out hkr HKK.out (hT.trans HII.out.symm)
        have hsl : some (Value.slice sa (gn r k).aft.length sc) = some (.slice ta tl tc) := hc2.symm.trans ((hBr.cell (p := ⟨N, k * 3 + 2, none⟩) hN).trans (hkk ▸ HTC.out))
        have HID : Hid (Value.agg #[.int .i64 (gn r k).pos, .int .i64 (gn r k).bef, .slice sa (gn r k).aft.length sc] = .agg #[.int .i64 i, .int .i64 (gn r kk).bef, .slice ta tl tc]) := by
          show _ = _
          injection hsl with hsl
          rw [hsl, hT, hkk]
        clear hT hkk hsl
        go_wp2
        have e3 := heap_set _ w.heap.size 2 (.slice sa (gn r k).aft.length sc) (heap_set _ w.heap.size 1 (.int .i64 (gn r k).bef) (heap_set wr w.heap.size 0 (.int .i64 (gn r k).pos) HR.out))
        refine bodyPost_ret (results_cell_row rfl _ _ w.heap.size _ #[.int .i64 (gn r k).pos, .int .i64 (gn r k).bef, .slice sa (gn r k).aft.length sc] (0, 0) _ rfl e3 Try.underlying30 rfl (by kernel_rfl)) rfl ?_
        exact ⟨by rw [HID.out], below_sets (i := 0) hBr (Nat.le_refl _) _ _ _⟩
    · exact absurd HII.out (HNO.out kk (by have := HKK.out; rw [HZ.out] at this; omega))

set_option maxHeartbeats 4000000 in
theorem principalsOrder (s : Option Addr) (len cap : Nat) (z : List Int) (w : World) (h : RowIn .u8 w s len cap z) :
    Calls Try.prog 8 #[.slice s len cap] w fun e w' => e = .returned (.bool true) ∧ Below w.heap.size w w' := by
  have hb := bytes_of_row h
  have hm : len ≤ maxLen := Nat.le_trans hb.1 hb.2.1
  unfold maxLen at hm
  clear h
  by_cases hl : 1048576 < len
  · go_enter Try.func8, Try.ntmps8
    go_wp2
    go_ret
    exact ⟨rfl, Below.refl _ _⟩
  have hlB : decide ((1048576 : Int) < (len : Int)) = false := by simp; omega
  go_enter Try.func8, Try.ntmps8
  go_wp2_with fail
  refine (drawRingPr s len cap w hb).mono ?_
  rintro e w1 ⟨N, cap1, r, rfl, hr1, h10, hcap, hB1⟩
  have HI := Lib.hid hr1
  have hmx : r.length ≤ maxLen := by unfold maxLen; omega
  have HM := Lib.hid hmx
  clear hr1 hmx hlB
  go_wp2_with fail
  refine (rpr_any _ _ cap1 r w1 HI.out rfl HM.out).mono ?_
  rintro e w2 ⟨gp, cp, rfl, hop, hb2⟩
  have HOP := Lib.hid hop.ints
  have hgp := hop.lt.2
  clear hop
  go_wp2_with fail
  refine (srpr_any _ _ cap1 r w2 (HI.out.keepB hb2 (Nat.le_refl _)) rfl HM.out).mono ?_
  rintro e w3 ⟨gq, cq, rfl, hoq, hb3⟩
  have HOQ := Lib.hid hoq.ints
  clear hoq
  have hB3 : Below w1.heap.size w1 w3 := hb2.trans (hb3.mono hb2.size)
  have hBw : Below w.heap.size w w3 := hB1.trans (hB3.mono hB1.size)
  have HP3 := Lib.hid (HOP.out.keepB hb3 (Nat.le_refl _))
  have HI3 := Lib.hid (HI.out.keepB hB3 (Nat.le_refl _))
  have hpl : (prV r).length ≤ r.length := by
    have := prTo_len r r.length
    unfold prV prL; split
    · omega
    · simp
  go_wp2_with fail
  refine (sameInts_same _ _ _ _ _ (prV r) w3 HP3.out HOQ.out rfl (by omega)).mono ?_
  rintro e w4 ⟨rfl, hs4⟩
  have hBw4 : Below w.heap.size w w4 := hBw.trans (hs4.below _)
  have HP4 := Lib.hid (HP3.out.keepB (hs4.below _) (Nat.le_refl _))
  have HQ4 := Lib.hid (HOQ.out.keepB (hs4.below _) (Nat.le_refl _))
  have HI4 := Lib.hid (HI3.out.keepB (hs4.below _) (Nat.le_refl _))
  have hgp4 : gp < w4.heap.size := by have := hb3.size; have := (hs4.below 0).size; omega
  have HPI : Hid (∀ wr, Below w4.heap.size w4 wr → ∀ j, j < (prV r).length → wr.cell? ⟨gp, j, none⟩ = some (.int .i64 (gt (prV r) j))) := fun wr hwr j hj => by
    rcases HP4.out with h0 | ⟨b9, o9, ha9, _, hc9⟩
    · rw [h0] at hj; simp at hj
    · injection ha9 with ha9
      injection ha9 with h1 h2
      subst h1 h2
      have := hc9 j hj
      rw [Nat.zero_add] at this
      exact (hwr.cell (p := ⟨gp, j, none⟩) hgp4).trans this

  have f0 : ∀ (v b : Int) (a : Option Addr) (l c : Nat) (w : World), (Instr.field 30 (.agg #[.int .i64 v, .int .i64 b, .slice a l c]) 0).run Try.prog w = .ok (.int .i64 v) w := field_id
  go_wp2
  go_loopw [6] (fun i wr => ∃ m : Nat, m ≤ (prV r).length ∧ i = .int .i64 m ∧ Below w4.heap.size w4 wr) (fun i _ => (prV r).length - (intOf i).toNat)
  case atStart => exact ⟨0, by omega, rfl, Below.refl _ _⟩
  case round =>
    obtain ⟨m, hmm, rfl, hbi⟩ := hrel
    obtain ⟨wo, rfl⟩ : ∃ x, x = wr := ⟨_, rfl⟩
    by_cases hlt : m < (prV r).length
    · have hv := pr_rv hlt
      obtain ⟨kk, hkk, hpos⟩ := (live_iff _ _).1 (pr_live hlt)
      have hri := HI4.out.keepB hbi (Nat.le_refl _)
      obtain ⟨b, off, b3, o3, sc, hab, hbl, _, _, _, _, _, hc2, _, _, _⟩ := ring_node hri hv hkk
      injection hab with hab
      injection hab with hbb hoo
      subst hbb hoo
      rw [Nat.zero_add] at hc2
      have HND : Hid (∀ x, Below wo.heap.size wo x → Calls Try.prog 23 #[.slice (some ⟨N, 0, none⟩) r.length cap1, .int .i64 (gt (prV r) m)] x fun e w' => e = .returned (.agg #[.int .i64 (gt (prV r) m), .int .i64 (gn r kk).bef, .slice (some ⟨b3, o3, none⟩) 2 sc]) ∧ Below x.heap.size x w') := fun x hx =>
        nodeAt_live N r.length cap1 _ r x (hri.keepB hx (Nat.le_refl _)) rfl HM.out hv kk hkk hpos _ _ _ (by have := hx.size; omega) ((hx.cell (p := ⟨N, kk * 3 + 2, none⟩) hbl).trans hc2)
      have i0 : (0 : Int) ≤ (m : Int) := by omega
      have i1 : (m : Int) < ((prV r).length : Int) := by omega
      have hzs := hbi.size
      have HB0 : Hid (∀ x, Below wo.heap.size wo x → Below w4.heap.size w4 x) := fun x hx => hbi.trans (hx.mono hzs)
      have e1 : ∀ x : Cls (Below wo.heap.size wo), x.to.cell? ⟨gp, m, none⟩ = some (.int .i64 (gt (prV r) m)) := fun x => HPI.out _ (HB0.out _ x.ok) m hlt
      clear hv hkk hpos hri hc2 hbl
      rcases Nat.eq_zero_or_pos m with rfl | hmp
      · go_wp2_with fail
        refine wp_region_cls (Below wo.heap.size wo) (by kernel_rfl) (by kernel_rfl) below_drawn ?_
        repeat (go_big_quiet_step ((go_at_call 23; rename_i x; exact cls_below (HND.out _ x.ok) x.ok (Nat.le_refl _))))
        refine wpQuiet_nil ?_
        intro w5 hw'
        have hb5 := HB0.out _ (cls_out hw')
        clear hw' e1
        go_wp2
        go_roundw
        case rel => exact ⟨0 + 1, by omega, by go_num, hb5⟩
        case measure => simp [intOf]; omega
      · obtain ⟨p, rfl⟩ : ∃ p, m = p + 1 := ⟨m - 1, by omega⟩
        have hup := pr_up hlt
        have e2 : ∀ x : Cls (Below wo.heap.size wo), x.to.cell? ⟨gp, p, none⟩ = some (.int .i64 (gt (prV r) p)) := fun x => HPI.out _ (HB0.out _ x.ok) p (by omega)
        have j0 : (0 : Int) ≤ (p : Int) := by omega
        have j1 : (p : Int) < ((prV r).length : Int) := by omega
        have j3 : (p : Int) + 1 < ((prV r).length : Int) := by omega
        have j2 : IntKind.i64.wrap (((p + 1 : Nat) : Int) - 1) = (p : Int) := by
          rw [IntKind.wrap_i64]; omega
        have d1 : decide (gt (prV r) (p + 1) ≤ gt (prV r) p) = false := by simp; omega
        go_wp2_with fail
        refine wp_region_cls (Below wo.heap.size wo) (by kernel_rfl) (by kernel_rfl) below_drawn ?_
        repeat (go_big_quiet_step ((go_at_call 23; rename_i x; exact cls_below (HND.out _ x.ok) x.ok (Nat.le_refl _))))
        refine wpQuiet_nil ?_
        intro w5 hw'
        have hb5 := HB0.out _ (cls_out hw')
        clear hw' e1 e2
        go_wp2
        go_roundw
        case rel => exact ⟨p + 1 + 1, by omega, by go_num, hb5⟩
        case measure => simp [intOf]; omega
    · go_wp2
      go_ret
      refine ⟨?_, hBw4.trans (hbi.mono hBw4.size)⟩
      first | rfl | exact ret_bool (decide_eq_true (by omega))
end Go.Proofs.Ytihkpofdpjkegaa
