/- Copies of lists of paths, their sizes, comparing two. -/
import Derived.Test.YtblhaccjngjekaaPzW
import Derived.Handy
namespace Go.Proofs.Ytblhaccjngjekaa
open Go.RowKit
set_option linter.unusedVariables false
attribute [local go_sem ↓] Go.wp_at_zero Go.wp_at_succ

theorem Try.infoSl : (Try.prog.info? 34).map (fun i => (i.zero, i.size, i.bytes)) = some (some (.slice none 0 0), 1, 24) := by kernel_rfl
/-- all is small -/
def SmallS (ps : List (List Int)) : Prop := ps.length ≤ 1048576 ∧ ∀ i, i < ps.length → (gl ps i).length ≤ 1048576
/-- the cells of a row of which the first k are copied -/
def partS (ps : List (List Int)) (N k : Nat) (j : Nat) : Value := if j < k then .slice (some ⟨N + 1 + j, 0, none⟩) (gl ps j).length (gl ps j).length else .slice none 0 0
theorem partS_zero (ps : List (List Int)) (N j : Nat) : partS ps N 0 j = .slice none 0 0 := by unfold partS; rw [if_neg (by omega)]
theorem partS_succ (ps : List (List Int)) (N k j : Nat) : (if j = k then Value.slice (some ⟨N + 1 + k, 0, none⟩) (gl ps k).length (gl ps k).length else partS ps N k j) = partS ps N (k + 1) j := by
  unfold partS
  by_cases h : j = k
  · subst h; rw [if_pos rfl, if_pos (by omega)]
  · rw [if_neg h]
    by_cases h2 : j < k
    · rw [if_pos h2, if_pos (by omega)]
    · rw [if_neg h2, if_neg (by omega)]
/-- the first k paths are copied -/
def CpTo (w : World) (ps : List (List Int)) (k : Nat) (wr : World) : Prop :=
  wr.heap.size = w.heap.size + 1 + k ∧ Below w.heap.size w wr ∧ wr.rowIs w.heap.size 34 ps.length (partS ps w.heap.size k) ∧ ∀ i, i < k → RowOf wr (w.heap.size + 1 + i) (gl ps i)
theorem cp_start (w : World) (ps : List (List Int)) (n : Nat) (hn : ps.length = n) : CpTo w ps 0 (w.alloc (.cells (madeCells #[.slice none 0 0] n) 34)) :=
  ⟨by simp, (Below.refl _ _).alloc (Nat.le_refl _) _, by rw [hn]; exact (World.rowIs_made w (.slice none 0 0) n 34).congr (fun j _ => (partS_zero ps _ j).symm), fun i hi => by omega⟩
theorem cp_next {w wr w2 : World} {ps : List (List Int)} {k : Nat} (h : CpTo w ps k wr) (hk : k < ps.length) (hr : RowOf w2 wr.heap.size (gl ps k)) (hb : Below wr.heap.size wr w2) (hs : w2.heap.size = wr.heap.size + 1) :
    CpTo w ps (k + 1) (w2.setCell ⟨w.heap.size, k, none⟩ (.slice (some ⟨wr.heap.size, 0, none⟩) (gl ps k).length (gl ps k).length)) := by
  obtain ⟨h1, h2, h3, h4⟩ := h
  refine ⟨by simp [World.setCell]; omega, (h2.trans (hb.mono h2.size)).setCell (Nat.le_refl _) _, ?_, fun i hi => ?_⟩
  · have h5 := (h3.of_block (hb.block _ (by omega))).set k (.slice (some ⟨wr.heap.size, 0, none⟩) (gl ps k).length (gl ps k).length)
    exact h5.congr (fun j _ => by rw [h1]; exact partS_succ ps _ k j)
  · have hne : ∀ g, w.heap.size < g → (w2.setCell ⟨w.heap.size, k, none⟩ (.slice (some ⟨wr.heap.size, 0, none⟩) (gl ps k).length (gl ps k).length)).heap[g]? = w2.heap[g]? := fun g hg => Below.heap_setCell _ _ _ _ (by show g ≠ w.heap.size; omega)
    rcases Nat.lt_or_ge i k with h' | h'
    · exact ((h4 i h').of_block (hb.block _ (by omega))).of_block (hne _ (by omega))
    · obtain rfl : i = k := by omega
      rw [show w.heap.size + 1 + i = wr.heap.size by omega]
      exact hr.of_block (hne _ (by omega))
/-- what toIntSS leaves -/
def CopiedS (ps : List (List Int)) (w : World) (e : Ending) (w' : World) : Prop :=
  e = .returned (.slice (some ⟨w.heap.size, 0, none⟩) ps.length ps.length) ∧ SsAt w' (some ⟨w.heap.size, 0, none⟩) ps ∧ Below w.heap.size w w'

set_option maxHeartbeats 1000000 in
theorem toSS_any (a : Option Addr) (len cap : Nat) (ps : List (List Int)) (w : World) (h : SsAt w a ps) (hz : ps.length = len) (hs : SmallS ps) :
    Calls Try.prog 38 #[.slice a len cap] w (CopiedS ps w) := by
  have HI := Lib.hid h
  have HZ := Lib.hid hz
  have HS := Lib.hid hs
  have hm : len ≤ 1048576 := by rw [← hz]; exact hs.1
  have hmk := run_make_row' (P := Try.prog) 31 34 (.slice none 0 0) 24 Try.underlying31 Try.infoSl rfl .i64 .i64 len (by omega) (by omega)
  clear h hz hs
  go_enter Try.func38, Try.ntmps38
  go_wp2
  clear hmk
  go_loopw [4] (fun i wr => ∃ k : Nat, k ≤ len ∧ i = .int .i64 k ∧ CpTo w ps k wr) (fun i _ => len - (intOf i).toNat)
  case atStart => exact ⟨0, by omega, rfl, cp_start w ps len HZ.out⟩
  case round =>
    obtain ⟨k, hk, rfl, hcp⟩ := hrel
    by_cases hlt : k < len
    · have hkr : k < ps.length := by rw [HZ.out]; exact hlt
      have hbel := hcp.2.1
      have HW1 := Lib.hid hcp.1
      obtain ⟨b, off, rfl, hb0, hrows⟩ := (HI.out.keepB hbel (Nat.le_refl _)).row (by omega)
      obtain ⟨ai, ci, hc, hints, hl, hci⟩ := hrows k hkr
      have hsm := HS.out.2 k hkr
      have HC := Lib.hid hcp
      have HT := Lib.hid hints
      clear hrows hcp hci hints
      go_wp2_with fail
      refine (toInts_any ai _ ci (gl ps k) wr HT.out rfl hsm).mono ?_
      rintro e w2 ⟨rfl, hr2, hb2, hs2⟩
      have h3 := HC.out.2.2.1.of_block (hb2.block w.heap.size (by have := HW1.out; omega))
      have d0 := h3.cell hkr
      have f0 := h3.frozen k
      have HR := Lib.hid hr2
      have HS2 := Lib.hid hs2
      clear h3 hr2 hs2
      go_wp2
      go_roundw
      case rel => exact ⟨k + 1, by omega, by go_num, cp_next HC.out hkr HR.out hb2 HS2.out⟩
      case measure => simp [intOf]; omega
    · obtain rfl : k = len := by omega
      have HH := Lib.hid hcp
      clear hcp
      go_wp2
      go_ret
      obtain ⟨h1, h2, h3, h4⟩ := HH.out
      refine ⟨by rw [HZ.out]; rfl, .inr ⟨_, 0, rfl, h3.lt, fun i hi => ?_⟩, h2⟩
      refine ⟨_, by rw [Nat.zero_add]; exact h3.cell hi, some ⟨w.heap.size + 1 + i, 0, none⟩, (gl ps i).length, ?_, Nat.le_refl _, ?_, (h4 i (by rw [← HZ.out]; exact hi)).ints⟩
      · unfold partS; rw [if_pos (by rw [← HZ.out]; exact hi)]
      · have := HS.out.2 i hi; unfold maxLen; omega

/-- what is left behind len -/
def leftS (left : Int) (len : Nat) : Int := if left - len < 0 then -1 else left - len
set_option maxHeartbeats 400000 in
theorem szIS_any (a : Option Addr) (len cap : Nat) (left : Int) (w : World) (h0 : 0 ≤ left) (h1 : left ≤ 1048576) (hm : len ≤ maxLen) :
    Calls Try.prog 59 #[.slice a len cap, .int .i64 left] w fun e w' => e = .returned (.int .i64 (leftS left len)) ∧ w = w' := by
  unfold maxLen at hm
  by_cases hc : left - len < 0
  · have He : Hid (leftS left len = -1) := by show leftS left len = -1; simp [leftS, hc]
    go_enter Try.func59, Try.ntmps59
    go_wp2
    go_ret
    exact ⟨by rw [He.out]; rfl, rfl⟩
  · have He : Hid (leftS left len = left - len) := by show leftS left len = _; simp [leftS, hc]
    go_enter Try.func59, Try.ntmps59
    go_wp2
    go_ret
    exact ⟨by rw [He.out]; rfl, rfl⟩
/-- the numbers of nodes of the first k paths -/
def sumS (ps : List (List Int)) : Nat → Nat
  | 0 => 0
  | k + 1 => sumS ps k + (gl ps k).length
theorem sumS_mono (ps : List (List Int)) {i j : Nat} (h : i ≤ j) : sumS ps i ≤ sumS ps j := by
  induction j with
  | zero => have : i = 0 := by omega
            subst this; exact Nat.le_refl _
  | succ j ih =>
    rcases Nat.lt_or_ge i (j + 1) with h' | h'
    · have := ih (by omega); simp only [sumS]; omega
    · have : i = j + 1 := by omega
      subst this; exact Nat.le_refl _
def szS (ps : List (List Int)) : Nat := ps.length + sumS ps ps.length
theorem smallS_of {ps : List (List Int)} (h : szS ps ≤ 1048576) : SmallS ps := by
  unfold szS at h
  refine ⟨by omega, fun i hi => ?_⟩
  have := sumS_mono ps (i := i + 1) (j := ps.length) (by omega)
  simp only [sumS] at this; omega
/-- the answer of szIntSS -/
def SzS (ps : List (List Int)) (w : World) (e : Ending) (w' : World) : Prop :=
  ∃ z : Int, e = .returned (.int .i64 z) ∧ ((szS ps ≤ 1048576 ∧ z = 1048576 - szS ps) ∨ (1048576 < szS ps ∧ z = -1)) ∧ w = w'

set_option maxHeartbeats 1000000 in
theorem szSS_any (a : Option Addr) (len cap : Nat) (ps : List (List Int)) (w : World) (h : SsAt w a ps) (hz : ps.length = len) (hm : len ≤ maxLen) :
    Calls Try.prog 37 #[.slice a len cap, .int .i64 1048576] w (SzS ps w) := by
  have HI := Lib.hid h
  have HZ := Lib.hid hz
  clear h hz
  unfold maxLen at hm
  by_cases h1 : 1048576 < len
  · go_enter Try.func37, Try.ntmps37
    go_wp2
    go_ret
    exact ⟨-1, rfl, .inr ⟨by unfold szS; rw [HZ.out]; omega, rfl⟩, rfl⟩
  go_enter Try.func37, Try.ntmps37
  go_wp2
  go_loop [1, 5] (fun l i => ∃ (k : Nat) (z : Int), k ≤ len ∧ i = .int .i64 k ∧ l = .int .i64 z ∧ z = 1048576 - len - sumS ps k ∧ 0 ≤ z) (fun _ i => len - (intOf i).toNat)
  case atStart => exact ⟨0, 1048576 - len, by omega, rfl, by go_num, by simp [sumS], by omega⟩
  case round =>
    obtain ⟨k, z, hk, rfl, rfl, hzz, hz0⟩ := hrel
    have HZZ := Lib.hid hzz
    have hz1 : z ≤ 1048576 := by omega
    clear hzz
    by_cases hlt : k < len
    · have hkr : k < ps.length := by rw [HZ.out]; exact hlt
      obtain ⟨b, off, rfl, hb0, hrows⟩ := HI.out.row (by omega)
      obtain ⟨ai, ci, hc, hints, hl, hci⟩ := hrows k hkr
      have HM := Lib.hid (Nat.le_trans hl hci)
      clear hrows hints hci
      by_cases hneg : z - (gl ps k).length < 0
      · have He : leftS z (gl ps k).length = -1 := by simp [leftS, hneg]
        have HE := Lib.hid He
        clear He
        go_wp2_with fail
        refine (szIS_any ai _ ci z w hz0 hz1 HM.out).mono ?_
        rintro e w2 ⟨rfl, rfl⟩
        rw [HE.out]
        go_wp2
        go_ret
        refine ⟨-1, rfl, .inr ⟨?_, rfl⟩, rfl⟩
        have := sumS_mono ps (i := k + 1) (j := ps.length) (by omega)
        simp only [sumS] at this
        have := HZZ.out
        unfold szS; rw [HZ.out] at *; omega
      · have He : leftS z (gl ps k).length = z - (gl ps k).length := by simp [leftS, hneg]
        have HE := Lib.hid He
        clear He
        go_wp2_with fail
        refine (szIS_any ai _ ci z w hz0 hz1 HM.out).mono ?_
        rintro e w2 ⟨rfl, rfl⟩
        rw [HE.out]
        go_wp2
        go_round
        case rel => exact ⟨k + 1, z - (gl ps k).length, by omega, by go_num, rfl, by have := HZZ.out; simp only [sumS]; omega, by omega⟩
        case measure => simp [intOf]; omega
    · have hkk : k = len := by omega
      go_wp2
      go_ret
      refine ⟨z, rfl, .inl ⟨?_, ?_⟩, rfl⟩
      · have := HZZ.out; unfold szS; rw [HZ.out, ← hkk]; omega
      · have := HZZ.out; unfold szS; rw [HZ.out, ← hkk]; omega

set_option maxHeartbeats 1000000 in
theorem eqSS_same (a1 a2 : Option Addr) (len cap1 cap2 : Nat) (ps : List (List Int)) (w : World) (h1 : SsAt w a1 ps) (h2 : SsAt w a2 ps) (hz : ps.length = len) (hsm : SmallS ps) :
    Calls Try.prog 39 #[.slice a1 len cap1, .slice a2 len cap2] w fun e w' => e = .returned (.bool true) ∧ Same w w' := by
  have H1 := Lib.hid h1
  have H2 := Lib.hid h2
  have HZ := Lib.hid hz
  have HS := Lib.hid hsm
  have hm : len ≤ 1048576 := by rw [← hz]; exact hsm.1
  clear h1 h2 hz hsm
  have hne : ((len : Int) != (len : Int)) = false := by simp
  go_enter Try.func39, Try.ntmps39
  go_wp2
  go_loopw [5] (fun i wr => ∃ k : Nat, k ≤ len ∧ i = .int .i64 k ∧ Same w wr) (fun i _ => len - (intOf i).toNat)
  case atStart => exact ⟨0, by omega, rfl, Same.refl _⟩
  case round =>
    obtain ⟨k, hk, rfl, hs⟩ := hrel
    by_cases hlt : k < len
    · have hkr : k < ps.length := by rw [HZ.out]; exact hlt
      obtain ⟨b, off, rfl, hb0, hrows⟩ := (H1.out.keepB (hs.below w.heap.size) (Nat.le_refl _)).row (by omega)
      obtain ⟨ai, ci, hc, hints, hl, hci⟩ := hrows k hkr
      obtain ⟨b', off', rfl, hb0', hrows'⟩ := (H2.out.keepB (hs.below w.heap.size) (Nat.le_refl _)).row (by omega)
      obtain ⟨ai', ci', hc', hints', hl', hci'⟩ := hrows' k hkr
      have HSM := Lib.hid (HS.out.2 k hkr)
      have HT := Lib.hid hints
      have HT' := Lib.hid hints'
      have i0 : (0 : Int) ≤ (k : Int) := by omega
      have i1 : (k : Int) < (len : Int) := by omega
      clear hrows hrows' hints hints' hci hci'
      go_wp2
      go_quiet ((go_at_call 41; exact Calls.quiet_of (eqInts_same ai ai' _ ci ci' (gl ps k) _ HT.out HT'.out rfl HSM.out)))
      go_wp2
      go_roundw
      case rel => exact ⟨k + 1, by omega, by go_num, hs.drewN _⟩
      case measure => simp [intOf]; omega
    · go_wp2
      go_ret
      exact ⟨rfl, hs⟩
end Go.Proofs.Ytblhaccjngjekaa
