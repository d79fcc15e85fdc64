/- The heap of a list of entries. -/
import Derived.Test.YtdlapnelehehgaaCaQ3
namespace Go.Proofs.Ytdlapnelehehgaa
open Go.RowKit
set_option linter.unusedVariables false
attribute [local go_sem ↓] Go.wp_at_zero Go.wp_at_succ

theorem heap2 (w : World) (o p : Obj) : ((w.alloc o).alloc p).heap[w.heap.size + 1]? = some p := by
  have h := heap_alloc_new (w.alloc o) p
  simpa using h

/-- the heap so far -/
def ExpAt (L : List Ls) (k : Nat) (w : World) (wr : World) : Prop :=
  ∃ g c L', HpAt wr (w.heap.size + 1) w.heap.size g c k L' ∧ L'.length = k ∧ Heap.Is leB (gl L') k 0 ∧ L'.Perm (L.take k) ∧ Below w.heap.size w wr

set_option maxRecDepth 20000 in
set_option maxHeartbeats 4000000 in
theorem exp_any (a : Option Addr) (len cap : Nat) (L : List Ls) (w : World) (h : LsAt w a L) (hz : L.length = len) (hm : len ≤ 6) :
    Calls Try.prog 37 #[.slice a len cap] w fun e w' => ∃ g c L', e = .returned (.slice (some ⟨g, 0, none⟩) len c) ∧ OwnS w' w.heap.size g c L' ∧ L'.length = len ∧ Heap.Is leB (gl L') len 0 ∧ L'.Perm L ∧ Below w.heap.size w w' := by
  have HI := Lib.hid h
  have HZ := Lib.hid hz
  clear h hz
  obtain ⟨W, hW⟩ : ∃ W, W = (w.alloc (.cells #[] 37)).alloc (.cells #[.slice (some ⟨w.heap.size, 0, none⟩) 0 0] 52) := ⟨_, rfl⟩
  have hWb : Below w.heap.size w W := by rw [hW]; exact ((Below.refl _ _).alloc (Nat.le_refl _) _).alloc (by simp) _
  have H0 : Hid (ExpAt L 0 w W) := by
    refine ⟨w.heap.size, 0, [], ⟨?_, ?_, Nat.le_refl _, by omega⟩, rfl, fun p c hp hc hn => by omega, by simp, hWb⟩
    · rw [hW]; exact heap2 w _ _
    · rw [hW]; exact (own_none w _ rfl).keepB (alB _ _) (Nat.le_refl _)
  have HW := Lib.hid hW
  clear hW hWb
  go_enter Try.func37, Try.ntmps37
  go_wp2
  rw [← HW.out]
  go_loopw [9] (fun i wr => ∃ k : Nat, k ≤ len ∧ i = .int .i64 k ∧ ExpAt L k w wr) (fun i _ => len - (intOf i).toNat)
  case atStart => exact ⟨0, by omega, rfl, H0.out⟩
  case round =>
    obtain ⟨k, hk, rfl, g, c, L', hp, hl, his, hpm, hbel⟩ := hrel
    have HP := Lib.hid hp
    have HL := Lib.hid hl
    have HS := Lib.hid his
    have HM := Lib.hid hpm
    have HB := Lib.hid hbel
    clear hp hl his hpm
    by_cases hlt : k < len
    · obtain ⟨b, off, rfl, hb0, hcells⟩ := (HI.out.keepB hbel (Nat.le_refl _)).at_ (i := k) (by rw [HZ.out]; exact hlt)
      obtain ⟨hc0, hc1, hc2⟩ := hcells k (by rw [HZ.out]; exact hlt)
      have HT := Lib.hid (take_succ (L := L) (k := k) (by rw [HZ.out]; exact hlt))
      obtain ⟨x, hx⟩ : ∃ x, x = gl L k := ⟨_, rfl⟩
      rw [← hx] at hc0 hc1 hc2 HT
      clear hcells hx hbel
      have hle : w.heap.size ≤ wr.heap.size := HB.out.size
      go_wp2_with fail
      refine (more_any (w.heap.size + 1) w.heap.size g c k L' x _ (HP.out.keepB (alB wr _)) HL.out HS.out (by omega) (by simp; omega) (by omega)).mono ?_
      rintro e w3 ⟨rfl, g2, c2, L2, h1, h2, h3, h4, h5⟩
      have H3 : Hid (ExpAt L (k + 1) w w3) := ⟨g2, c2, L2, h1, h2, h3, by rw [HT.out]; exact h4.trans (HM.out.append_right [x]), (HB.out.trans ((alB wr _).mono HB.out.size)).trans h5⟩
      clear h1 h2 h3 h4 h5 hc0 hc1 hc2
      go_wp2
      go_roundw
      case rel => exact ⟨k + 1, by omega, by go_num, H3.out⟩
      case measure => simp [intOf]; omega
    · obtain rfl : k = len := by omega
      have hcl := HP.out.cell
      have HR : Hid (∃ g' c' L'', (Ending.returned (.slice (some ⟨g, 0, none⟩) k c) = .returned (.slice (some ⟨g', 0, none⟩) k c')) ∧ OwnS wr w.heap.size g' c' L'' ∧ L''.length = k ∧ Heap.Is leB (gl L'') k 0 ∧ L''.Perm L ∧ Below w.heap.size w wr) := by
        refine ⟨g, c, L', rfl, HP.out.row, HL.out, HS.out, ?_, HB.out⟩
        have := HM.out
        rwa [List.take_of_length_le (by rw [HZ.out]; exact Nat.le_refl _)] at this
      clear hbel
      go_wp2
      go_ret
      exact HR.out
end Go.Proofs.Ytdlapnelehehgaa
