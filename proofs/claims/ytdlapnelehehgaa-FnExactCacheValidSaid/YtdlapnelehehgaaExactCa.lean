/- The walks of the exact laws of caches. -/
import Derived.Test.YtdlapnelehehgaaCaP3
import Derived.Test.YtdlapnelehehgaaCaC
namespace Go.Proofs.Ytdlapnelehehgaa
open Go.RowKit
set_option linter.unusedVariables false
attribute [local go_sem ↓] Go.wp_at_zero Go.wp_at_succ

theorem leftL_no {len : Nat} (h : 1048576 < len) : leftL 1048576 len = -1 := by unfold leftL; rw [if_pos (by omega)]
theorem leftL_yes {len : Nat} (h : len ≤ 1048576) : leftL 1048576 len = 1048576 - len := by unfold leftL; rw [if_neg (by omega)]
theorem OwnL.keptQ {w w' : World} {base cap : Nat} {a : Option Addr} {L : List Ls} (h : OwnL w base a cap L) (hk : ∀ g, base ≤ g → w'.heap[g]? = w.heap[g]?) : OwnL w' base a cap L := by
  rcases h with h | ⟨g, rfl, h⟩
  · exact .inl h
  · exact .inr ⟨g, rfl, h.kept (hk g h.blk.1)⟩


set_option maxHeartbeats 2000000 in
theorem exCaValid (a : Option Addr) (len cap : Nat) (L : List Ls) (w : World) (hz : L.length = len) (h : LsAt w a L) (hm : len ≤ maxLen) :
    Calls Try.prog 13 #[.slice a len cap] w fun e w' => e = .returned (.bool true) ∧ Below w.heap.size w w' := by
  have HM := Lib.hid hm
  have HI := Lib.hid h
  clear hm h
  by_cases hl : 1048576 < len
  · have hlf := Lib.hid (leftL_no hl)
    clear hz hl
    go_enter Try.func13, Try.ntmps13
    go_wp2_with fail
    refine (szLs_any a _ cap 1048576 w (by omega) (by omega) HM.out).mono ?_
    rintro e w' ⟨rfl, rfl⟩
    rw [hlf.out]
    go_wp2
    go_ret
    exact ⟨rfl, Below.refl _ _⟩
  subst hz
  have hlf := Lib.hid (leftL_yes (len := L.length) (by omega))
  have hls : L.length ≤ 1048576 := by omega
  have HLS := Lib.hid hls
  have d0 : decide ((1048576 : Int) - (L.length : Int) < 0) = false := by simp; omega
  clear hl hls
  go_enter Try.func13, Try.ntmps13
  go_wp2_with fail
  refine (szLs_any a _ cap 1048576 w (by omega) (by omega) HM.out).mono ?_
  rintro e w' ⟨rfl, rfl⟩
  rw [hlf.out]
  have q1 : (lvB L != lvB L) = false := by simp
  go_wp2_with fail
  refine (toLs_any a _ cap L w HI.out rfl HLS.out).mono ?_
  rintro e w1 ⟨rfl, ho, hb1⟩
  have O1 := Lib.hid ho
  clear ho
  go_wp2_with fail
  refine (slvs_any _ _ _ L w1 O1.out.ls rfl HM.out).mono ?_
  rintro e w2 ⟨rfl, hs2⟩
  have hb2 := hs2.below w1.heap.size
  have hB2 : Below w.heap.size w w2 := hb1.trans (hb2.mono hb1.size)
  go_wp2_with fail
  refine (toLs_any a _ cap L w2 (HI.out.keepB hB2 (Nat.le_refl _)) rfl HLS.out).mono ?_
  rintro e w3 ⟨rfl, ho, hb3⟩
  have O3 := Lib.hid ho
  clear ho
  have hB3 : Below w.heap.size w w3 := hB2.trans (hb3.mono hB2.size)
  go_wp2_with fail
  refine (pvalid_any _ _ _ L w3 O3.out.ls rfl HM.out).mono ?_
  rintro e w4 ⟨rfl, hb4⟩
  have hB4 : Below w.heap.size w w4 := hB3.trans (hb4.mono hB3.size)
  have O4 := Lib.hid (O3.out.keepB hb4 (Nat.le_refl _))
  go_wp2_with fail
  refine (toLs_any a _ cap L w4 (HI.out.keepB hB4 (Nat.le_refl _)) rfl HLS.out).mono ?_
  rintro e w5 ⟨rfl, ho, hb5⟩
  have O5b := Lib.hid ho
  clear ho
  have hB5 : Below w.heap.size w w5 := hB4.trans (hb5.mono hB4.size)
  go_wp2_with fail
  refine (eqLs_same _ _ _ _ _ L w5 (O4.out.keepB hb5 (Nat.le_refl _)).ls O5b.out.ls rfl HLS.out).mono ?_
  rintro e w6 ⟨rfl, hb6⟩
  go_wp2
  go_ret
  exact ⟨rfl, hB5.trans (hb6.mono hB5.size)⟩

set_option maxHeartbeats 2000000 in
theorem exCaGet (a : Option Addr) (len cap : Nat) (L : List Ls) (key now : Int) (w : World) (hz : L.length = len) (h : LsAt w a L) (hm : len ≤ maxLen) :
    Calls Try.prog 14 #[.slice a len cap, .int .i64 key, .int .i64 now] w fun e w' => e = .returned (.bool true) ∧ Below w.heap.size w w' := by
  have HM := Lib.hid hm
  have HI := Lib.hid h
  clear hm h
  by_cases hl : 1048576 < len
  · have hlf := Lib.hid (leftL_no hl)
    clear hz hl
    go_enter Try.func14, Try.ntmps14
    go_wp2_with fail
    refine (szLs_any a _ cap 1048576 w (by omega) (by omega) HM.out).mono ?_
    rintro e w' ⟨rfl, rfl⟩
    rw [hlf.out]
    go_wp2
    go_ret
    exact ⟨rfl, Below.refl _ _⟩
  subst hz
  have hlf := Lib.hid (leftL_yes (len := L.length) (by omega))
  have hls : L.length ≤ 1048576 := by omega
  have HLS := Lib.hid hls
  have d0 : decide ((1048576 : Int) - (L.length : Int) < 0) = false := by simp; omega
  clear hl hls
  go_enter Try.func14, Try.ntmps14
  go_wp2_with fail
  refine (szLs_any a _ cap 1048576 w (by omega) (by omega) HM.out).mono ?_
  rintro e w' ⟨rfl, rfl⟩
  rw [hlf.out]
  have q1 : ((getR L key now).1 != (getR L key now).1) = false := by simp
  have q2 : ((getR L key now).2 != (getR L key now).2) = false := by simp
  go_wp2_with fail
  refine (toLs_any a _ cap L w HI.out rfl HLS.out).mono ?_
  rintro e w1 ⟨rfl, ho, hb1⟩
  have O1 := Lib.hid ho
  clear ho
  go_wp2_with fail
  refine (sget_any _ _ _ L key now w1 O1.out.ls rfl HM.out).mono ?_
  rintro e w2 ⟨rfl, hb2⟩
  have hB2 : Below w.heap.size w w2 := hb1.trans (hb2.mono hb1.size)
  go_wp2_with fail
  refine (toLs_any a _ cap L w2 (HI.out.keepB hB2 (Nat.le_refl _)) rfl HLS.out).mono ?_
  rintro e w3 ⟨rfl, ho, hb3⟩
  have O3 := Lib.hid ho
  clear ho
  have hB3 : Below w.heap.size w w3 := hB2.trans (hb3.mono hB2.size)
  go_wp2_with fail
  refine (pget_any _ _ _ L key now w3 O3.out.ls rfl HM.out).mono ?_
  rintro e w4 ⟨rfl, hb4⟩
  have hB4 : Below w.heap.size w w4 := hB3.trans (hb4.mono hB3.size)
  have O4 := Lib.hid (O3.out.keepB hb4 (Nat.le_refl _))
  go_wp2_with fail
  refine (toLs_any a _ cap L w4 (HI.out.keepB hB4 (Nat.le_refl _)) rfl HLS.out).mono ?_
  rintro e w5 ⟨rfl, ho, hb5⟩
  have O5b := Lib.hid ho
  clear ho
  have hB5 : Below w.heap.size w w5 := hB4.trans (hb5.mono hB4.size)
  go_wp2_with fail
  refine (eqLs_same _ _ _ _ _ L w5 (O4.out.keepB hb5 (Nat.le_refl _)).ls O5b.out.ls rfl HLS.out).mono ?_
  rintro e w6 ⟨rfl, hb6⟩
  go_wp2
  go_ret
  exact ⟨rfl, hB5.trans (hb6.mono hB5.size)⟩




end Go.Proofs.Ytdlapnelehehgaa
