/- Helpers of the laws on steps: nodeAt, sameNode, sameRing, keepsPrincipals. -/
import Derived.Test.YtcbbdhmloniolaaLawsSafe2
namespace Go.Proofs.Ytcbbdhmloniolaa
open Go.RowKit
set_option linter.unusedVariables false

theorem alloc_at {W : World} {o : Obj} {n : Nat} (h : W.heap.size = n) : (W.alloc o).heap[n]? = some o := by subst h; exact heap_alloc_new W o
theorem prV_live {r : List Nd} {x : Int} (h : x ∈ prV r) : liveB r x = true := by
  unfold prV at h; split at h
  · exact ((mem_pr r x).1 h).1
  · simp at h
/-- the node of a position -/
def ndAt (r : List Nd) (i : Int) : Nd := if liveB r i then gn r (idxR r i) else ⟨-1, 0, [-1, -1]⟩
def NodeFull (r : List Nd) (i : Int) (w : World) (e : Ending) (w' : World) : Prop :=
  ∃ (sa : Option Addr) (sc : Nat), e = .returned (.agg #[.int .i64 (ndAt r i).pos, .int .i64 (ndAt r i).bef, .slice sa (ndAt r i).aft.length sc]) ∧ (ndAt r i).aft.length ≤ sc ∧ IntsAt w' sa (ndAt r i).aft ∧ Below w.heap.size w w'

set_option maxHeartbeats 1000000 in
theorem sameI_same (a1 a2 : Option Addr) (len cap1 cap2 : Nat) (zs : List Int) (w : World) (h1 : IntsAt w a1 zs) (h2 : IntsAt w a2 zs) (hz : zs.length = len) (hm : len ≤ 1048576) :
    Calls Try.prog 18 #[.slice a1 len cap1, .slice a2 len cap2] w fun e w' => e = .returned (.bool true) ∧ Same w w' := by
  have H1 := Lib.hid h1
  have H2 := Lib.hid h2
  have HZ := Lib.hid hz
  clear h1 h2 hz
  have hne : ((len : Int) != (len : Int)) = false := by simp
  go_enter Try.func18, Try.ntmps18
  go_wp2
  go_loopw [5] (fun i wr => ∃ k : Nat, k ≤ len ∧ i = .int .i64 k ∧ Same w wr) (fun i _ => len - (intOf i).toNat)
  case atStart => exact ⟨0, by omega, rfl, Same.refl _⟩
  case round =>
    obtain ⟨k, hk, rfl, hsame⟩ := hrel
    by_cases hlt : k < len
    · have h' : ∃ b off, a1 = some ⟨b, off, none⟩ ∧ wr.cell? ⟨b, off + k, none⟩ = some (.int .i64 (gt zs k)) := by
        rcases H1.out with h0 | ⟨b, off, ha, hb, hc⟩
        · have := HZ.out; rw [h0] at this; simp at this; omega
        · exact ⟨b, off, ha, (hsame.cell _).trans (hc k (by rw [HZ.out]; exact hlt))⟩
      have h'' : ∃ b off, a2 = some ⟨b, off, none⟩ ∧ wr.cell? ⟨b, off + k, none⟩ = some (.int .i64 (gt zs k)) := by
        rcases H2.out with h0 | ⟨b, off, ha, hb, hc⟩
        · have := HZ.out; rw [h0] at this; simp at this; omega
        · exact ⟨b, off, ha, (hsame.cell _).trans (hc k (by rw [HZ.out]; exact hlt))⟩
      obtain ⟨b, off, ha, hc⟩ := h'
      obtain ⟨b2, off2, ha2, hc2⟩ := h''
      subst ha ha2
      have hv : ((gt zs k) != (gt zs k)) = false := by simp
      have hlt' : (k : Int) < (len : Int) := by omega
      have h0' : (0 : Int) ≤ (k : Int) := by omega
      go_wp2
      go_quiet (fail)
      go_wp2
      go_roundw
      case rel => exact ⟨k + 1, by omega, by go_num, hsame.drewN _⟩
      case measure => simp [intOf]; omega
    · go_wp2
      go_ret
      exact ⟨rfl, hsame⟩

set_option maxHeartbeats 2000000 in
theorem nodeAt_full (a : Option Addr) (len cap : Nat) (i : Int) (r : List Nd) (w : World) (h : RingAt w a r) (hz : r.length = len) (hm : len ≤ maxLen) (hv : rvB r = true) :
    Calls Try.prog 16 #[.slice a len cap, .int .i64 i] w (NodeFull r i w) := by
  unfold maxLen at hm
  have HV := Lib.hid hv
  clear hv
  have HZ := Lib.hid hz
  have HI0 := Lib.hid h
  clear h hz
  go_enter Try.func16, Try.ntmps16
  go_wp2
  generalize hW : w.alloc (Obj.cells #[Value.int IntKind.i64 0, Value.int IntKind.i64 0, Value.slice none 0 0] 28) = W
  have hBW : Below w.heap.size w W := by rw [← hW]; exact (Below.refl _ _).alloc (Nat.le_refl _) _
  have hRW : W.heap[w.heap.size]? = some (.cells #[.int .i64 0, .int .i64 0, .slice none 0 0] 28 (0, 0)) := by rw [← hW]; exact heap_alloc_new w _
  have hWz : w.heap.size < W.heap.size := heap_lt hRW
  have HI := Lib.hid (HI0.out.keepB hBW (Nat.le_refl _))
  have HRW := Lib.hid hRW
  clear hW hRW
  go_loopw [5] (fun q wr => ∃ k : Nat, k ≤ len ∧ q = .int .i64 k ∧ (∀ j, j < k → (gn r j).pos ≠ i) ∧ Same W wr) (fun q _ => len - (intOf q).toNat)
  case atStart => exact ⟨0, by omega, rfl, fun j hj => absurd hj (by omega), Same.refl _⟩
  case round =>
    obtain ⟨k, hk, rfl, hno, hs⟩ := hrel
    have HNO := Lib.hid hno
    have hR : wr.heap[w.heap.size]? = some (.cells #[.int .i64 0, .int .i64 0, .slice none 0 0] 28 (0, 0)) := by rw [hs.heap]; exact HRW.out
    have HR := Lib.hid hR
    have z0 : wr.cell? ⟨w.heap.size, 0, none⟩ = some (.int .i64 0) := by rw [cell_of_cells hR]; rfl
    have z1 : wr.cell? ⟨w.heap.size, 1, none⟩ = some (.int .i64 0) := by rw [cell_of_cells hR]; rfl
    have z2 : wr.cell? ⟨w.heap.size, 2, none⟩ = some (.slice none 0 0) := by rw [cell_of_cells hR]; rfl
    have zf : ∀ i, wr.frozen? ⟨w.heap.size, i, none⟩ = false := fun i => frozen_of_cells hR i
    have hBr : Below w.heap.size w wr := hBW.trans (hs.below _)
    clear hno hR
    by_cases hlt : k < len
    · have hkr : k < r.length := by rw [HZ.out]; exact hlt
      obtain ⟨b, off, rfl, hbw, hnodes⟩ := HI0.out.at_ hkr
      obtain ⟨sa, sc, gc0, gc1, gc2, hl1, hl2, hints⟩ := node_open (hnodes k hkr)
      have hc0 := (hBr.cell (p := ⟨b, off + k * 3, none⟩) hbw).trans gc0
      have hc1 := (hBr.cell (p := ⟨b, off + k * 3 + 1, none⟩) hbw).trans gc1
      have hc2 := (hBr.cell (p := ⟨b, off + k * 3 + 2, none⟩) hbw).trans gc2
      have hb0 : b < wr.heap.size := Nat.lt_of_lt_of_le hbw hBr.size
      have HINT := Lib.hid hints
      have HLS := Lib.hid hl1
      clear hnodes hints hl1 hl2 gc0 gc1 gc2 hbw
      cases ht : ((gn r k).pos == i)
      · have HT : Hid (¬ (gn r k).pos = i) := by show ¬ _; simpa using ht
        go_wp2
        go_roundw
        case rel =>
          refine ⟨k + 1, by omega, by go_num, fun j hj => ?_, hs⟩
          rcases Nat.lt_or_ge j k with h' | h'
          · exact HNO.out j h'
          · rw [show j = k by omega]; exact HT.out
        case measure => simp [intOf]; omega
      · have hT : (gn r k).pos = i := by simpa using ht
        have HID : Hid (ndAt r i = gn r k) := by
          show _ = _
          have hl : liveB r i = true := by rw [← hT]; exact live_at hkr
          unfold ndAt; rw [if_pos hl]
          obtain ⟨h1, h2, _⟩ := idx_live hl
          rw [rv_inj HV.out h1 hkr (by rw [h2, hT])]
        clear hT
        go_wp2
        have e3 := heap_set _ w.heap.size 2 (.slice sa (gn r k).aft.length sc) (heap_set _ w.heap.size 1 (.int .i64 (gn r k).bef) (heap_set wr w.heap.size 0 (.int .i64 (gn r k).pos) HR.out))
        refine bodyPost_ret (results_cell_row rfl _ _ w.heap.size _ #[.int .i64 (gn r k).pos, .int .i64 (gn r k).bef, .slice sa (gn r k).aft.length sc] (0, 0) _ rfl e3 Try.underlying28 rfl (by kernel_rfl)) rfl ?_
        rw [NodeFull, HID.out]
        exact ⟨sa, sc, rfl, HLS.out, HINT.out.keepB (below_sets (i := 0) hBr (Nat.le_refl _) _ _ _) (Nat.le_refl _), below_sets (i := 0) hBr (Nat.le_refl _) _ _ _⟩
    · have HID : Hid (ndAt r i = ⟨-1, 0, [-1, -1]⟩) := by
        show _ = _
        unfold ndAt
        rw [(live_no r i).2 (fun j hj => HNO.out j (by rw [HZ.out] at hj; omega))]; rfl
      have hwz : w.heap.size < wr.heap.size := heap_lt HR.out
      go_wp2
      have e3 := heap_set _ w.heap.size 2 (.slice (some ⟨wr.heap.size, 0, none⟩) 2 2) (heap_set _ w.heap.size 1 (.int .i64 0) (heap_set wr w.heap.size 0 (.int .i64 (-1)) HR.out))
      have e4 := fun o => (Below.heap_alloc _ o w.heap.size (by simp [World.setCell]; exact hwz)).trans e3
      refine bodyPost_ret (results_cell_row rfl _ _ w.heap.size _ #[.int .i64 (-1), .int .i64 0, .slice (some ⟨wr.heap.size, 0, none⟩) 2 2] (0, 0) _ rfl (e4 _) Try.underlying28 rfl (by kernel_rfl)) rfl ?_
      rw [NodeFull, HID.out]
      refine ⟨some ⟨wr.heap.size, 0, none⟩, 2, rfl, Nat.le_refl _, (two_blk (x := -1) (y := -1) ?_).ints, (below_sets (i := 0) hBr (Nat.le_refl _) _ _ _).alloc (by simp [World.setCell]; omega) _⟩
      exact alloc_at (by simp [World.setCell])

set_option maxHeartbeats 1000000 in
theorem sameNode_same (n : Nd) (sa sb : Option Addr) (ca cb : Nat) (w : World) (h1 : IntsAt w sa n.aft) (h2 : IntsAt w sb n.aft) (hm : n.aft.length ≤ 1048576) :
    Calls Try.prog 26 #[.agg #[.int .i64 n.pos, .int .i64 n.bef, .slice sa n.aft.length ca], .agg #[.int .i64 n.pos, .int .i64 n.bef, .slice sb n.aft.length cb]] w fun e w' => e = .returned (.bool true) ∧ Below w.heap.size w w' := by
  have H1 := Lib.hid h1
  have H2 := Lib.hid h2
  have v1 : (n.pos == n.pos) = true := by simp
  have v2 : (n.bef == n.bef) = true := by simp
  clear h1 h2
  go_enter Try.func26, Try.ntmps26
  go_wp2_with fail
  generalize hW : (w.alloc (.cells #[.int .i64 n.pos, .int .i64 n.bef, .slice sa n.aft.length ca] 28)).alloc (.cells #[.int .i64 n.pos, .int .i64 n.bef, .slice sb n.aft.length cb] 28) = W
  obtain ⟨_, hB, _, _⟩ := two_new hW.symm
  refine (sameI_same sa sb _ ca cb n.aft W (H1.out.keepB hB (Nat.le_refl _)) (H2.out.keepB hB (Nat.le_refl _)) rfl hm).mono ?_
  rintro e w1 ⟨rfl, hs⟩
  go_wp2
  go_ret
  exact ⟨rfl, hB.trans (hs.below _)⟩

set_option maxHeartbeats 2000000 in
theorem sameRing_same (a1 a2 : Option Addr) (len cap1 cap2 : Nat) (r : List Nd) (w : World) (h1 : RingAt w a1 r) (h2 : RingAt w a2 r) (hz : r.length = len) (hsm : Small r) :
    Calls Try.prog 15 #[.slice a1 len cap1, .slice a2 len cap2] w fun e w' => e = .returned (.bool true) ∧ Below w.heap.size w w' := by
  have H1 := Lib.hid h1
  have H2 := Lib.hid h2
  have HZ := Lib.hid hz
  have HSM := Lib.hid hsm
  have hm : len ≤ 1048576 := by rw [← hz]; exact hsm.1
  have v2 : ((len : Int) != (len : Int)) = false := by simp
  clear h1 h2 hz hsm
  go_enter Try.func15, Try.ntmps15
  go_wp2
  clear v2
  go_loopw [5] (fun i wr => ∃ k : Nat, k ≤ len ∧ i = .int .i64 k ∧ Below w.heap.size w wr) (fun i _ => len - (intOf i).toNat)
  case atStart => exact ⟨0, by omega, rfl, Below.refl _ _⟩
  case round =>
    obtain ⟨k, hk, rfl, hbel⟩ := hrel
    obtain ⟨wo, rfl⟩ : ∃ x, x = wr := ⟨_, rfl⟩
    by_cases hlt : k < len
    · have hkr : k < r.length := by rw [HZ.out]; exact hlt
      obtain ⟨b, off, rfl, hb0, hnodes⟩ := (H1.out.keepB hbel (Nat.le_refl _)).at_ hkr
      obtain ⟨sa, sc, hc0, hc1, hc2, hl, hmx, hints⟩ := node_open (hnodes k hkr)
      obtain ⟨b', off', rfl, hb0', hnodes'⟩ := (H2.out.keepB hbel (Nat.le_refl _)).at_ hkr
      obtain ⟨sa', sc', hd0, hd1, hd2, hl', hmx', hints'⟩ := node_open (hnodes' k hkr)
      have HM := Lib.hid (HSM.out.2 k hkr)
      clear hnodes hnodes' hmx hmx'
      have HT := Lib.hid hints
      have HT' := Lib.hid hints'
      clear hints hints'
      have e0 : ∀ x : Cls (Below wo.heap.size wo), x.to.cell? ⟨b, off + k * 3, none⟩ = some (.int .i64 (gn r k).pos) := fun x => (x.ok.cell (p := ⟨b, off + k * 3, none⟩) hb0).trans hc0
      have e1 : ∀ x : Cls (Below wo.heap.size wo), x.to.cell? ⟨b, off + k * 3 + 1, none⟩ = some (.int .i64 (gn r k).bef) := fun x => (x.ok.cell (p := ⟨b, off + k * 3 + 1, none⟩) hb0).trans hc1
      have e2 : ∀ x : Cls (Below wo.heap.size wo), x.to.cell? ⟨b, off + k * 3 + 2, none⟩ = some (.slice sa (gn r k).aft.length sc) := fun x => (x.ok.cell (p := ⟨b, off + k * 3 + 2, none⟩) hb0).trans hc2
      have e3 : ∀ x : Cls (Below wo.heap.size wo), x.to.cell? ⟨b', off' + k * 3, none⟩ = some (.int .i64 (gn r k).pos) := fun x => (x.ok.cell (p := ⟨b', off' + k * 3, none⟩) hb0').trans hd0
      have e4 : ∀ x : Cls (Below wo.heap.size wo), x.to.cell? ⟨b', off' + k * 3 + 1, none⟩ = some (.int .i64 (gn r k).bef) := fun x => (x.ok.cell (p := ⟨b', off' + k * 3 + 1, none⟩) hb0').trans hd1
      have e5 : ∀ x : Cls (Below wo.heap.size wo), x.to.cell? ⟨b', off' + k * 3 + 2, none⟩ = some (.slice sa' (gn r k).aft.length sc') := fun x => (x.ok.cell (p := ⟨b', off' + k * 3 + 2, none⟩) hb0').trans hd2
      have i0 : (0 : Int) ≤ (k : Int) := by omega
      have i1 : (k : Int) < (len : Int) := by omega
      go_wp2
      refine wp_region_cls (Below wo.heap.size wo) (by kernel_rfl) (by kernel_rfl) below_drawn ?_
      repeat (go_big_quiet_step ((go_at_call 26; rename_i x; exact cls_below (sameNode_same (gn r k) sa sa' sc sc' _ (HT.out.keepB x.ok (Nat.le_refl _)) (HT'.out.keepB x.ok (Nat.le_refl _)) HM.out) x.ok (Nat.le_refl _))))
      refine wpQuiet_nil ?_
      intro w2 hw'
      have hb2 := cls_out hw'
      clear hw' e0 e1 e2 e3 e4 e5
      go_wp2
      go_roundw
      case rel => exact ⟨k + 1, by omega, by go_num, hbel.trans (hb2.mono hbel.size)⟩
      case measure => simp [intOf]; omega
    · go_wp2
      go_ret
      exact ⟨rfl, hbel⟩

/-- every principal of the first ring that is live in the second one is a principal of it -/
def KeepP (r r' : List Nd) : Prop := ∀ x, x ∈ prV r → liveB r' x = true → x ∈ prV r'


set_option maxHeartbeats 2000000 in
theorem nodeAt_at (N len cap : Nat) (i : Int) (r : List Nd) (w : World) (h : RingAt w (some ⟨N, 0, none⟩) r) (hz : r.length = len) (hm : len ≤ maxLen) (hv : rvB r = true) (kk : Nat) (hkk : kk < r.length) (hii : (gn r kk).pos = i) (ta : Option Addr) (tl tc : Nat) (hN : N < w.heap.size) (htc : w.cell? ⟨N, kk * 3 + 2, none⟩ = some (.slice ta tl tc)) :
    Calls Try.prog 16 #[.slice (some ⟨N, 0, none⟩) len cap, .int .i64 i] w fun e w' => e = .returned (.agg #[.int .i64 i, .int .i64 (gn r kk).bef, .slice ta tl tc]) ∧ Below w.heap.size w w' := by
  have HV := Lib.hid hv
  have HKK := Lib.hid hkk
  have HII := Lib.hid hii
  have HTC := Lib.hid htc
  clear hv hkk hii htc
  unfold maxLen at hm
  have HZ := Lib.hid hz
  have HI0 := Lib.hid h
  clear h hz
  go_enter Try.func16, Try.ntmps16
  go_wp2
  generalize hW : w.alloc (Obj.cells #[Value.int IntKind.i64 0, Value.int IntKind.i64 0, Value.slice none 0 0] 28) = W
  have hBW : Below w.heap.size w W := by rw [← hW]; exact (Below.refl _ _).alloc (Nat.le_refl _) _
  have hRW : W.heap[w.heap.size]? = some (.cells #[.int .i64 0, .int .i64 0, .slice none 0 0] 28 (0, 0)) := by rw [← hW]; exact heap_alloc_new w _
  have hWz : w.heap.size < W.heap.size := heap_lt hRW
  have HI := Lib.hid (HI0.out.keepB hBW (Nat.le_refl _))
  have HRW := Lib.hid hRW
  clear hW hRW
  go_loopw [5] (fun q wr => ∃ k : Nat, k ≤ len ∧ q = .int .i64 k ∧ (∀ j, j < k → (gn r j).pos ≠ i) ∧ Same W wr) (fun q _ => len - (intOf q).toNat)
  case atStart => exact ⟨0, by omega, rfl, fun j hj => absurd hj (by omega), Same.refl _⟩
  case round =>
    obtain ⟨k, hk, rfl, hno, hs⟩ := hrel
    have HNO := Lib.hid hno
    have hR : wr.heap[w.heap.size]? = some (.cells #[.int .i64 0, .int .i64 0, .slice none 0 0] 28 (0, 0)) := by rw [hs.heap]; exact HRW.out
    have HR := Lib.hid hR
    have z0 : wr.cell? ⟨w.heap.size, 0, none⟩ = some (.int .i64 0) := by rw [cell_of_cells hR]; rfl
    have z1 : wr.cell? ⟨w.heap.size, 1, none⟩ = some (.int .i64 0) := by rw [cell_of_cells hR]; rfl
    have z2 : wr.cell? ⟨w.heap.size, 2, none⟩ = some (.slice none 0 0) := by rw [cell_of_cells hR]; rfl
    have zf : ∀ i, wr.frozen? ⟨w.heap.size, i, none⟩ = false := fun i => frozen_of_cells hR i
    have hBr : Below w.heap.size w wr := hBW.trans (hs.below _)
    clear hno hR
    by_cases hlt : k < len
    · have hkr : k < r.length := by rw [HZ.out]; exact hlt
      obtain ⟨b, off, hab, hb0, hnodes⟩ := (HI.out.keepB (hs.below _) (Nat.le_refl _)).at_ hkr
      injection hab with hab
      injection hab with hbb hoo
      subst hbb hoo
      obtain ⟨sa, sc, hc0, hc1, hc2, _, _, _⟩ := node_open (hnodes k hkr)
      rw [Nat.zero_add] at hc0 hc1 hc2
      clear hnodes
      cases ht : ((gn r k).pos == i)
      · have HT : Hid (¬ (gn r k).pos = i) := by show ¬ _; simpa using ht
        go_wp2
        go_roundw
        case rel =>
          refine ⟨k + 1, by omega, by go_num, fun j hj => ?_, hs⟩
          rcases Nat.lt_or_ge j k with h' | h'
          · exact HNO.out j h'
          · rw [show j = k by omega]; exact HT.out
        case measure => simp [intOf]; omega
      · have hT : (gn r k).pos = i := by simpa using ht
        have hkk : k = kk := rv_inj HV.out hkr HKK.out (hT.trans HII.out.symm)
        have hsl : some (Value.slice sa (gn r k).aft.length sc) = some (.slice ta tl tc) := hc2.symm.trans ((hBr.cell (p := ⟨N, k * 3 + 2, none⟩) hN).trans (hkk ▸ HTC.out))
        have HID : Hid (Value.agg #[.int .i64 (gn r k).pos, .int .i64 (gn r k).bef, .slice sa (gn r k).aft.length sc] = .agg #[.int .i64 i, .int .i64 (gn r kk).bef, .slice ta tl tc]) := by
          show _ = _
          injection hsl with hsl
          rw [hsl, hT, hkk]
        clear hT hkk hsl
        go_wp2
        have e3 := heap_set _ w.heap.size 2 (.slice sa (gn r k).aft.length sc) (heap_set _ w.heap.size 1 (.int .i64 (gn r k).bef) (heap_set wr w.heap.size 0 (.int .i64 (gn r k).pos) HR.out))
        refine bodyPost_ret (results_cell_row rfl _ _ w.heap.size _ #[.int .i64 (gn r k).pos, .int .i64 (gn r k).bef, .slice sa (gn r k).aft.length sc] (0, 0) _ rfl e3 Try.underlying28 rfl (by kernel_rfl)) rfl ?_
        exact ⟨by rw [HID.out], below_sets (i := 0) hBr (Nat.le_refl _) _ _ _⟩
    · exact absurd HII.out (HNO.out kk (by have := HKK.out; rw [HZ.out] at this; omega))
end Go.Proofs.Ytcbbdhmloniolaa
