/- The walk of the exact law of RingIdeal. -/
import Derived.Test.YtihkpofdpjkegaaExactRing
import Derived.Test.YtihkpofdpjkegaaSameS
namespace Go.Proofs.Ytihkpofdpjkegaa
open Go.RowKit
set_option linter.unusedVariables false

set_option maxHeartbeats 2000000 in
theorem exRingIdeal (a : Option Addr) (len cap : Nat) (r : List Nd) (w : World) (h : RingAt w a r) (hz : r.length = len) (hm : len ≤ maxLen) :
    Calls Try.prog 12 #[.slice a len cap] w fun e w' => e = .returned (.bool true) ∧ Below w.heap.size w w' := by
  have HI := Lib.hid h
  have HZ := Lib.hid hz
  have HM := Lib.hid hm
  clear h hz hm
  go_enter Try.func12, Try.ntmps12
  go_wp2_with fail
  refine (szNodes_any a len cap r w HI.out HZ.out HM.out).mono ?_
  rintro e w1 ⟨z, rfl, hzz, hb1⟩
  rcases hzz with ⟨hsz, rfl⟩ | ⟨_, rfl⟩
  rotate_left
  · go_wp2
    go_ret
    exact ⟨rfl, hb1⟩
  have HSZ := Lib.hid hsz
  have hd : decide ((1048576 : Int) - (szR r : Int) < 0) = false := by simp; omega
  clear hsz
  go_wp2_with fail
  clear hd
  refine (toNodes_any a len cap r w1 (HI.out.keepB hb1 (Nat.le_refl _)) HZ.out (small_of HSZ.out)).mono ?_
  rintro e w2 ⟨rfl, ⟨F2, ho2⟩, hb2⟩
  have hB2 : Below w.heap.size w w2 := hb1.trans (hb2.mono hb1.size)
  have HO2 := Lib.hid ho2
  clear ho2
  go_wp2_with fail
  refine (sridl_any _ _ _ r w2 HO2.out.ring rfl (small_max HSZ.out)).mono ?_
  rintro e w3 ⟨rfl, hb3⟩
  have hB3 : Below w.heap.size w w3 := hB2.trans (hb3.mono hB2.size)
  go_wp2_with fail
  refine (toNodes_any a len cap r w3 (HI.out.keepB hB3 (Nat.le_refl _)) HZ.out (small_of HSZ.out)).mono ?_
  rintro e w4 ⟨rfl, ⟨F4, ho4⟩, hb4⟩
  have hB4 : Below w.heap.size w w4 := hB3.trans (hb4.mono hB3.size)
  have HO4 := Lib.hid ho4
  clear ho4
  go_wp2_with fail
  refine (ridl_any _ _ _ r w4 HO4.out.ring rfl (small_max HSZ.out)).mono ?_
  rintro e w5 ⟨rfl, hb5⟩
  have hB5 : Below w.heap.size w w5 := hB4.trans (hb5.mono hB4.size)
  have hx5 : RingAt w5 (some ⟨w3.heap.size, 0, none⟩) r := HO4.out.ring.keepB hb5 (Nat.le_refl _)
  have HX5 := Lib.hid hx5
  clear hx5
  have hv : (!idlB r == idlB r) = false := by simp
  go_wp2_with fail
  refine (toNodes_any a len cap r w5 (HI.out.keepB hB5 (Nat.le_refl _)) HZ.out (small_of HSZ.out)).mono ?_
  rintro e w6 ⟨rfl, ⟨F6, ho6⟩, hb6⟩
  have hB6 : Below w.heap.size w w6 := hB5.trans (hb6.mono hB5.size)
  have HO6 := Lib.hid ho6
  clear ho6
  go_wp2_with fail
  refine (eqNodes_same _ _ _ _ _ r w6 (HX5.out.keepB hb6 (Nat.le_refl _)) HO6.out.ring rfl (small_of HSZ.out)).mono ?_
  rintro e w7 ⟨rfl, hb7⟩
  have hB7 : Below w.heap.size w w7 := hB6.trans (hb7.mono hB6.size)
  go_wp2
  go_ret
  exact ⟨rfl, hB7⟩
end Go.Proofs.Ytihkpofdpjkegaa
