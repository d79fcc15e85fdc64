/- Helpers of the laws on steps: nodeAt, sameNode, sameRing, keepsPrincipals. -/
import Derived.Test.YtfmodgongdochaaLawsSafe2
namespace Go.Proofs.Ytfmodgongdochaa
open Go.RowKit
set_option linter.unusedVariables false

theorem alloc_at {W : World} {o : Obj} {n : Nat} (h : W.heap.size = n) : (W.alloc o).heap[n]? = some o := by subst h; exact heap_alloc_new W o
theorem prV_live {r : List Nd} {x : Int} (h : x ∈ prV r) : liveB r x = true := by
  unfold prV at h; split at h
  · exact ((mem_pr r x).1 h).1
  · simp at h
/-- the node of a position -/
def ndAt (r : List Nd) (i : Int) : Nd := if liveB r i then gn r (idxR r i) else ⟨-1, 0, [-1, -1]⟩
def NodeFull (r : List Nd) (i : Int) (w : World) (e : Ending) (w' : World) : Prop :=
  ∃ (sa : Option Addr) (sc : Nat), e = .returned (.agg #[.int .i64 (ndAt r i).pos, .int .i64 (ndAt r i).bef, .slice sa (ndAt r i).aft.length sc]) ∧ (ndAt r i).aft.length ≤ sc ∧ IntsAt w' sa (ndAt r i).aft ∧ Below w.heap.size w w'

set_option maxHeartbeats 1000000 in
theorem sameI_same (a1 a2 : Option Addr) (len cap1 cap2 : Nat) (zs : List Int) (w : World) (h1 : IntsAt w a1 zs) (h2 : IntsAt w a2 zs) (hz : zs.length = len) (hm : len ≤ 1048576) :
    Calls Try.prog 8 #[.slice a1 len cap1, .slice a2 len cap2] w fun e w' => e = .returned (.bool true) ∧ Same w w' := by
  have H1 := Lib.hid h1
  have H2 := Lib.hid h2
  have HZ := Lib.hid hz
  clear h1 h2 hz
  have hne : ((len : Int) != (len : Int)) = false := by simp
  go_enter Try.func8, Try.ntmps8
  go_wp2
  go_loopw [5] (fun i wr => ∃ k : Nat, k ≤ len ∧ i = .int .i64 k ∧ Same w wr) (fun i _ => len - (intOf i).toNat)
  case atStart => exact ⟨0, by omega, rfl, Same.refl _⟩
  case round =>
    obtain ⟨k, hk, rfl, hsame⟩ := hrel
    by_cases hlt : k < len
    · have h' : ∃ b off, a1 = some ⟨b, off, none⟩ ∧ wr.cell? ⟨b, off + k, none⟩ = some (.int .i64 (gt zs k)) := by
        rcases H1.out with h0 | ⟨b, off, ha, hb, hc⟩
        · have := HZ.out; rw [h0] at this; simp at this; omega
        · exact ⟨b, off, ha, (hsame.cell _).trans (hc k (by rw [HZ.out]; exact hlt))⟩
      have h'' : ∃ b off, a2 = some ⟨b, off, none⟩ ∧ wr.cell? ⟨b, off + k, none⟩ = some (.int .i64 (gt zs k)) := by
        rcases H2.out with h0 | ⟨b, off, ha, hb, hc⟩
        · have := HZ.out; rw [h0] at this; simp at this; omega
        · exact ⟨b, off, ha, (hsame.cell _).trans (hc k (by rw [HZ.out]; exact hlt))⟩
      obtain ⟨b, off, ha, hc⟩ := h'
      obtain ⟨b2, off2, ha2, hc2⟩ := h''
      subst ha ha2
      have hv : ((gt zs k) != (gt zs k)) = false := by simp
      have hlt' : (k : Int) < (len : Int) := by omega
      have h0' : (0 : Int) ≤ (k : Int) := by omega
      go_wp2
      go_quiet (fail)
      go_wp2
      go_roundw
      case rel => exact ⟨k + 1, by omega, by go_num, hsame.drewN _⟩
      case measure => simp [intOf]; omega
    · go_wp2
      go_ret
      exact ⟨rfl, hsame⟩


set_option maxHeartbeats 1000000 in
theorem sameNode_same (n : Nd) (sa sb : Option Addr) (ca cb : Nat) (w : World) (h1 : IntsAt w sa n.aft) (h2 : IntsAt w sb n.aft) (hm : n.aft.length ≤ 1048576) :
    Calls Try.prog 15 #[.agg #[.int .i64 n.pos, .int .i64 n.bef, .slice sa n.aft.length ca], .agg #[.int .i64 n.pos, .int .i64 n.bef, .slice sb n.aft.length cb]] w fun e w' => e = .returned (.bool true) ∧ Below w.heap.size w w' := by
  have H1 := Lib.hid h1
  have H2 := Lib.hid h2
  have v1 : (n.pos == n.pos) = true := by simp
  have v2 : (n.bef == n.bef) = true := by simp
  clear h1 h2
  go_enter Try.func15, Try.ntmps15
  go_wp2_with fail
  generalize hW : (w.alloc (.cells #[.int .i64 n.pos, .int .i64 n.bef, .slice sa n.aft.length ca] 31)).alloc (.cells #[.int .i64 n.pos, .int .i64 n.bef, .slice sb n.aft.length cb] 31) = W
  obtain ⟨_, hB, _, _⟩ := two_new hW.symm
  refine (sameI_same sa sb _ ca cb n.aft W (H1.out.keepB hB (Nat.le_refl _)) (H2.out.keepB hB (Nat.le_refl _)) rfl hm).mono ?_
  rintro e w1 ⟨rfl, hs⟩
  go_wp2
  go_ret
  exact ⟨rfl, hB.trans (hs.below _)⟩

set_option maxHeartbeats 2000000 in
theorem sameRing_same (a1 a2 : Option Addr) (len cap1 cap2 : Nat) (r : List Nd) (w : World) (h1 : RingAt w a1 r) (h2 : RingAt w a2 r) (hz : r.length = len) (hsm : Small r) :
    Calls Try.prog 7 #[.slice a1 len cap1, .slice a2 len cap2] w fun e w' => e = .returned (.bool true) ∧ Below w.heap.size w w' := by
  have H1 := Lib.hid h1
  have H2 := Lib.hid h2
  have HZ := Lib.hid hz
  have HSM := Lib.hid hsm
  have hm : len ≤ 1048576 := by rw [← hz]; exact hsm.1
  have v2 : ((len : Int) != (len : Int)) = false := by simp
  clear h1 h2 hz hsm
  go_enter Try.func7, Try.ntmps7
  go_wp2
  clear v2
  go_loopw [5] (fun i wr => ∃ k : Nat, k ≤ len ∧ i = .int .i64 k ∧ Below w.heap.size w wr) (fun i _ => len - (intOf i).toNat)
  case atStart => exact ⟨0, by omega, rfl, Below.refl _ _⟩
  case round =>
    obtain ⟨k, hk, rfl, hbel⟩ := hrel
    obtain ⟨wo, rfl⟩ : ∃ x, x = wr := ⟨_, rfl⟩
    by_cases hlt : k < len
    · have hkr : k < r.length := by rw [HZ.out]; exact hlt
      obtain ⟨b, off, rfl, hb0, hnodes⟩ := (H1.out.keepB hbel (Nat.le_refl _)).at_ hkr
      obtain ⟨sa, sc, hc0, hc1, hc2, hl, hmx, hints⟩ := node_open (hnodes k hkr)
      obtain ⟨b', off', rfl, hb0', hnodes'⟩ := (H2.out.keepB hbel (Nat.le_refl _)).at_ hkr
      obtain ⟨sa', sc', hd0, hd1, hd2, hl', hmx', hints'⟩ := node_open (hnodes' k hkr)
      have HM := Lib.hid (HSM.out.2 k hkr)
      clear hnodes hnodes' hmx hmx'
      have HT := Lib.hid hints
      have HT' := Lib.hid hints'
      clear hints hints'
      have e0 : ∀ x : Cls (Below wo.heap.size wo), x.to.cell? ⟨b, off + k * 3, none⟩ = some (.int .i64 (gn r k).pos) := fun x => (x.ok.cell (p := ⟨b, off + k * 3, none⟩) hb0).trans hc0
      have e1 : ∀ x : Cls (Below wo.heap.size wo), x.to.cell? ⟨b, off + k * 3 + 1, none⟩ = some (.int .i64 (gn r k).bef) := fun x => (x.ok.cell (p := ⟨b, off + k * 3 + 1, none⟩) hb0).trans hc1
      have e2 : ∀ x : Cls (Below wo.heap.size wo), x.to.cell? ⟨b, off + k * 3 + 2, none⟩ = some (.slice sa (gn r k).aft.length sc) := fun x => (x.ok.cell (p := ⟨b, off + k * 3 + 2, none⟩) hb0).trans hc2
      have e3 : ∀ x : Cls (Below wo.heap.size wo), x.to.cell? ⟨b', off' + k * 3, none⟩ = some (.int .i64 (gn r k).pos) := fun x => (x.ok.cell (p := ⟨b', off' + k * 3, none⟩) hb0').trans hd0
      have e4 : ∀ x : Cls (Below wo.heap.size wo), x.to.cell? ⟨b', off' + k * 3 + 1, none⟩ = some (.int .i64 (gn r k).bef) := fun x => (x.ok.cell (p := ⟨b', off' + k * 3 + 1, none⟩) hb0').trans hd1
      have e5 : ∀ x : Cls (Below wo.heap.size wo), x.to.cell? ⟨b', off' + k * 3 + 2, none⟩ = some (.slice sa' (gn r k).aft.length sc') := fun x => (x.ok.cell (p := ⟨b', off' + k * 3 + 2, none⟩) hb0').trans hd2
      have i0 : (0 : Int) ≤ (k : Int) := by omega
      have i1 : (k : Int) < (len : Int) := by omega
      go_wp2
      refine wp_region_cls (Below wo.heap.size wo) (by kernel_rfl) (by kernel_rfl) below_drawn ?_
      repeat (go_big_quiet_step ((go_at_call 15; rename_i x; exact cls_below (sameNode_same (gn r k) sa sa' sc sc' _ (HT.out.keepB x.ok (Nat.le_refl _)) (HT'.out.keepB x.ok (Nat.le_refl _)) HM.out) x.ok (Nat.le_refl _))))
      refine wpQuiet_nil ?_
      intro w2 hw'
      have hb2 := cls_out hw'
      clear hw' e0 e1 e2 e3 e4 e5
      go_wp2
      go_roundw
      case rel => exact ⟨k + 1, by omega, by go_num, hbel.trans (hb2.mono hbel.size)⟩
      case measure => simp [intOf]; omega
    · go_wp2
      go_ret
      exact ⟨rfl, hbel⟩

/-- every principal of the first ring that is live in the second one is a principal of it -/
def KeepP (r r' : List Nd) : Prop := ∀ x, x ∈ prV r → liveB r' x = true → x ∈ prV r'


end Go.Proofs.Ytfmodgongdochaa
