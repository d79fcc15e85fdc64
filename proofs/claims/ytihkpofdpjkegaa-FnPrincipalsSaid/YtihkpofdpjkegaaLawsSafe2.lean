/- The walks of the laws of safe rings: live successors. -/
import Derived.Test.YtihkpofdpjkegaaLawsSafe
namespace Go.Proofs.Ytihkpofdpjkegaa
open Go.RowKit
set_option linter.unusedVariables false

/-- what nodeAt tells -/
def idAt (r : List Nd) (i : Int) : Int := if liveB r i then i else -1
def NodeAtPost (r : List Nd) (i : Int) (w : World) (e : Ending) (w' : World) : Prop :=
  ∃ (b : Int) (a : Option Addr) (l c : Nat), e = .returned (.agg #[.int .i64 (idAt r i), .int .i64 b, .slice a l c]) ∧ Below w.heap.size w w'

set_option maxHeartbeats 2000000 in
theorem nodeAt_any (a : Option Addr) (len cap : Nat) (i : Int) (r : List Nd) (w : World) (h : RingAt w a r) (hz : r.length = len) (hm : len ≤ maxLen) :
    Calls Try.prog 23 #[.slice a len cap, .int .i64 i] w (NodeAtPost r i w) := by
  unfold maxLen at hm
  have HZ := Lib.hid hz
  have HI0 := Lib.hid h
  clear h hz
  go_enter Try.func23, Try.ntmps23
  go_wp2
  generalize hW : w.alloc (Obj.cells #[Value.int IntKind.i64 0, Value.int IntKind.i64 0, Value.slice none 0 0] 30) = W
  have hBW : Below w.heap.size w W := by rw [← hW]; exact (Below.refl _ _).alloc (Nat.le_refl _) _
  have hRW : W.heap[w.heap.size]? = some (.cells #[.int .i64 0, .int .i64 0, .slice none 0 0] 30 (0, 0)) := by rw [← hW]; exact heap_alloc_new w _
  have hWz : w.heap.size < W.heap.size := heap_lt hRW
  have HI := Lib.hid (HI0.out.keepB hBW (Nat.le_refl _))
  have HRW := Lib.hid hRW
  clear hW hRW
  go_loopw [5] (fun q wr => ∃ k : Nat, k ≤ len ∧ q = .int .i64 k ∧ (∀ j, j < k → (gn r j).pos ≠ i) ∧ Same W wr) (fun q _ => len - (intOf q).toNat)
  case atStart => exact ⟨0, by omega, rfl, fun j hj => absurd hj (by omega), Same.refl _⟩
  case round =>
    obtain ⟨k, hk, rfl, hno, hs⟩ := hrel
    have HNO := Lib.hid hno
    have hR : wr.heap[w.heap.size]? = some (.cells #[.int .i64 0, .int .i64 0, .slice none 0 0] 30 (0, 0)) := by rw [hs.heap]; exact HRW.out
    have HR := Lib.hid hR
    have z0 : wr.cell? ⟨w.heap.size, 0, none⟩ = some (.int .i64 0) := by rw [cell_of_cells hR]; rfl
    have z1 : wr.cell? ⟨w.heap.size, 1, none⟩ = some (.int .i64 0) := by rw [cell_of_cells hR]; rfl
    have z2 : wr.cell? ⟨w.heap.size, 2, none⟩ = some (.slice none 0 0) := by rw [cell_of_cells hR]; rfl
    have zf : ∀ i, wr.frozen? ⟨w.heap.size, i, none⟩ = false := fun i => frozen_of_cells hR i
    have hBr : Below w.heap.size w wr := hBW.trans (hs.below _)
    clear hno hR
    by_cases hlt : k < len
    · have hkr : k < r.length := by rw [HZ.out]; exact hlt
      obtain ⟨b, off, rfl, hb0, hnodes⟩ := (HI.out.keepB (hs.below _) (Nat.le_refl _)).at_ hkr
      obtain ⟨sa, sc, hc0, hc1, hc2, _, _, _⟩ := node_open (hnodes k hkr)
      clear hnodes
      cases ht : ((gn r k).pos == i)
      · have HT : Hid (¬ (gn r k).pos = i) := by show ¬ _; simpa using ht
        go_wp2
        go_roundw
        case rel =>
          refine ⟨k + 1, by omega, by go_num, fun j hj => ?_, hs⟩
          rcases Nat.lt_or_ge j k with h' | h'
          · exact HNO.out j h'
          · rw [show j = k by omega]; exact HT.out
        case measure => simp [intOf]; omega
      · have hT : (gn r k).pos = i := by simpa using ht
        have HID : Hid (idAt r i = (gn r k).pos) := by show _ = _; unfold idAt; rw [← hT, live_at hkr]; rfl
        clear hT
        go_wp2
        have e3 := heap_set _ w.heap.size 2 (.slice sa (gn r k).aft.length sc) (heap_set _ w.heap.size 1 (.int .i64 (gn r k).bef) (heap_set wr w.heap.size 0 (.int .i64 (gn r k).pos) HR.out))
        refine bodyPost_ret (results_cell_row rfl _ _ w.heap.size _ #[.int .i64 (gn r k).pos, .int .i64 (gn r k).bef, .slice sa (gn r k).aft.length sc] (0, 0) _ rfl e3 Try.underlying30 rfl (by kernel_rfl)) rfl ?_
        exact ⟨_, _, _, _, by rw [HID.out], below_sets (i := 0) hBr (Nat.le_refl _) _ _ _⟩
    · have HID : Hid (idAt r i = -1) := by
        show _ = _
        unfold idAt
        rw [(live_no r i).2 (fun j hj => HNO.out j (by rw [HZ.out] at hj; omega))]; rfl
      have hwz : w.heap.size < wr.heap.size := heap_lt HR.out
      go_wp2
      have e3 := heap_set _ w.heap.size 2 (.slice (some ⟨wr.heap.size, 0, none⟩) 2 2) (heap_set _ w.heap.size 1 (.int .i64 0) (heap_set wr w.heap.size 0 (.int .i64 (-1)) HR.out))
      have e4 := fun o => (Below.heap_alloc _ o w.heap.size (by simp [World.setCell]; exact hwz)).trans e3
      refine bodyPost_ret (results_cell_row rfl _ _ w.heap.size _ #[.int .i64 (-1), .int .i64 0, .slice (some ⟨wr.heap.size, 0, none⟩) 2 2] (0, 0) _ rfl (e4 _) Try.underlying30 rfl (by kernel_rfl)) rfl ?_
      exact ⟨_, _, _, _, by rw [HID.out], (below_sets (i := 0) hBr (Nat.le_refl _) _ _ _).alloc (by simp [World.setCell]; omega) _⟩
theorem nodeAt_as (v : Int) (a : Option Addr) (len cap : Nat) (i : Int) (r : List Nd) (w : World) (h : RingAt w a r) (hz : r.length = len) (hm : len ≤ maxLen) (hv : idAt r i = v) :
    Calls Try.prog 23 #[.slice a len cap, .int .i64 i] w fun e w' => ∃ (b : Int) (a : Option Addr) (l c : Nat), e = .returned (.agg #[.int .i64 v, .int .i64 b, .slice a l c]) ∧ Below w.heap.size w w' := by
  subst hv; exact nodeAt_any a len cap i r w h hz hm
-- MORE

theorem field_id (v b : Int) (a : Option Addr) (l c : Nat) (w : World) : (Instr.field 30 (.agg #[.int .i64 v, .int .i64 b, .slice a l c]) 0).run Try.prog w = .ok (.int .i64 v) w := by kernel_rfl

set_option maxHeartbeats 4000000 in
theorem safeLaw (s : Option Addr) (len cap : Nat) (z : List Int) (w : World) (h : RowIn .u8 w s len cap z) :
    Calls Try.prog 4 #[.slice s len cap] w fun e w' => e = .returned (.bool true) ∧ Below w.heap.size w w' := by
  have hb := bytes_of_row h
  have hm : len ≤ maxLen := Nat.le_trans hb.1 hb.2.1
  unfold maxLen at hm
  clear h
  by_cases hl : 1048576 < len
  · go_enter Try.func4, Try.ntmps4
    go_wp2
    go_ret
    exact ⟨rfl, Below.refl _ _⟩
  have hlB : decide ((1048576 : Int) < (len : Int)) = false := by simp; omega
  go_enter Try.func4, Try.ntmps4
  go_wp2_with fail
  refine (drawRingSafe s len cap w hb).mono ?_
  rintro e w1 ⟨N, cap1, r, rfl, hr1, h10, hcap, hB1⟩
  have HI := Lib.hid hr1
  have hmx : r.length ≤ maxLen := by unfold maxLen; omega
  have HM := Lib.hid hmx
  clear hr1 hmx hlB
  go_wp2_with fail
  refine (rsafe_any _ _ _ cap1 r w1 HI.out rfl HM.out rfl).mono ?_
  rintro e w2 ⟨rfl, hb2⟩
  go_wp2_with fail
  refine (ssafe_any _ _ cap1 r w2 (HI.out.keepB hb2 (Nat.le_refl _)) rfl HM.out).mono ?_
  rintro e w3 ⟨rfl, hb3⟩
  have hB3 : Below w1.heap.size w1 w3 := hb2.trans (hb3.mono hb2.size)
  have hBw : Below w.heap.size w w3 := hB1.trans (hB3.mono hB1.size)
  cases hs : safeB r
  · go_wp2
    go_ret
    exact ⟨rfl, hBw⟩
  have HS := Lib.hid hs
  have HI3 := Lib.hid (HI.out.keepB hB3 (Nat.le_refl _))
  clear hs
  go_wp2
  go_loopw [6] (fun i wr => ∃ k : Nat, k ≤ r.length ∧ i = .int .i64 k ∧ Below w3.heap.size w3 wr) (fun i _ => r.length - (intOf i).toNat)
  case atStart => exact ⟨0, by omega, rfl, Below.refl _ _⟩
  case round =>
    obtain ⟨k, hk, rfl, hsm⟩ := hrel
    by_cases hlt : k < r.length
    · obtain ⟨b, off, b3, o3, sc, hab, hbl, hb3l, hsc, hscm, hc0, hc1, hc2, hx3, hy3, hin⟩ := ring_node (HI3.out.keepB hsm (Nat.le_refl _)) (safe_rv HS.out) hlt
      injection hab with hab
      injection hab with hbb hoo
      subst hbb hoo
      rw [Nat.zero_add] at hc0 hc1 hc2
      obtain ⟨hp, hz8, h0, h1, hz9⟩ := nd_open (safe_rv HS.out) hlt
      have i0 : (0 : Int) ≤ (k : Int) := by omega
      have i1 : (k : Int) < (r.length : Int) := by omega
      have hls := ((safe_iff r).1 HS.out).2.1 k hlt
      have HIR := Lib.hid (HI3.out.keepB hsm (Nat.le_refl _))
      have f0 : ∀ (v b : Int) (a : Option Addr) (l c : Nat) (w : World), (Instr.field 30 (.agg #[.int .i64 v, .int .i64 b, .slice a l c]) 0).run Try.prog w = .ok (.int .i64 v) w := field_id
      clear hz8 hz9 hin hscm
      rcases bool_cases (liveB r (gt (gn r k).aft 0)) with hx | hx
      · have hy : liveB r (gt (gn r k).aft 1) = true := by rw [lsB, hx] at hls; simpa using hls
        have HX : Hid (idAt r (gt (gn r k).aft 0) = -1) := by show _ = _; unfold idAt; rw [hx]; rfl
        have HY : Hid (idAt r (gt (gn r k).aft 1) = gt (gn r k).aft 1) := by show _ = _; unfold idAt; rw [hy]; rfl
        have d1 : decide (gt (gn r k).aft 1 < 0) = false := by simp; omega
        clear hx hy hls
        go_wp2_with fail
        refine (nodeAt_as _ _ _ cap1 _ r wr HIR.out rfl HM.out HX.out).mono ?_
        rintro e w5 ⟨b5, a5, l5, c5, rfl, hb5⟩
        have c2 := (hb5.cell (p := ⟨N, k * 3 + 2, none⟩) hbl).trans hc2
        have c3 := (hb5.cell (p := ⟨b3, o3 + 1, none⟩) hb3l).trans hy3
        go_wp2_with fail
        refine (nodeAt_as _ _ _ cap1 _ r w5 (HIR.out.keepB hb5 (Nat.le_refl _)) rfl HM.out HY.out).mono ?_
        rintro e w6 ⟨b6, a6, l6, c6, rfl, hb6⟩
        go_wp2
        go_roundw
        case rel => exact ⟨k + 1, by omega, by go_num, hsm.trans ((hb5.trans (hb6.mono hb5.size)).mono hsm.size)⟩
        case measure => simp [intOf]; omega
      · have HX : Hid (idAt r (gt (gn r k).aft 0) = gt (gn r k).aft 0) := by show _ = _; unfold idAt; rw [hx]; rfl
        have d1 : decide (gt (gn r k).aft 0 < 0) = false := by simp; omega
        clear hx hls
        go_wp2_with fail
        refine (nodeAt_as _ _ _ cap1 _ r wr HIR.out rfl HM.out HX.out).mono ?_
        rintro e w5 ⟨b5, a5, l5, c5, rfl, hb5⟩
        go_wp2
        go_roundw
        case rel => exact ⟨k + 1, by omega, by go_num, hsm.trans (hb5.mono hsm.size)⟩
        case measure => simp [intOf]; omega
    · have HIR := Lib.hid (HI3.out.keepB hsm (Nat.le_refl _))
      have hpl : 3 ≤ (prL r).length := ((safe_iff r).1 HS.out).2.2
      have hpu : (prL r).length ≤ 10 := Nat.le_trans (prTo_len r _) h10
      have HPV : Hid (prV r = prL r) := by show _ = _; simp [prV, safe_rv HS.out]
      go_wp2_with fail
      refine (rpr_any _ _ cap1 r wr HIR.out rfl HM.out).mono ?_
      rintro e w5 ⟨g5, c5, rfl, ho5, hb5⟩
      rw [HPV.out]
      clear ho5
      go_wp2
      go_ret
      refine ⟨ret_bool ?_, hBw.trans ((hsm.trans (hb5.mono hsm.size)).mono hBw.size)⟩
      exact decide_eq_true (by omega)
end Go.Proofs.Ytihkpofdpjkegaa
