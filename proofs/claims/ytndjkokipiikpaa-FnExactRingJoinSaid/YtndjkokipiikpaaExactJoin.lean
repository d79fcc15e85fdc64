/- The exact laws of steps. -/
import Derived.Test.YtndjkokipiikpaaNwJoin2
import Derived.Test.YtndjkokipiikpaaMarkR
namespace Go.Proofs.Ytndjkokipiikpaa
open Go.RowKit
set_option linter.unusedVariables false

set_option maxHeartbeats 2000000 in
theorem exRingJoin (a : Option Addr) (len cap : Nat) (r : List Nd) (i o : Int) (w : World) (h : RingAt w a r) (hz : r.length = len) (hm : len ≤ maxLen) :
    Calls Try.prog 12 #[.slice a len cap, .int .i64 i, .int .i64 o] w fun e w' => e = .returned (.bool true) ∧ Below w.heap.size w w' := by
  have hsp0 : ∀ (w0 : World) (a0 : Option Addr) (c0 : Nat), RingAt w0 a0 r → r.length ≤ c0 → c0 ≤ maxLen → r.length ≤ maxLen → Calls Try.prog 23 #[.slice a0 r.length c0, .int .i64 i, .int .i64 o] w0 (NewRB (joinR r i o) (arg3 r i o && joinB r i o) w0) := fun w0 a0 c0 h hc hcm hm => sjoin_any _ _ _ _ _ r _ h rfl hc hcm
  have him0 : ∀ (w0 : World) (a0 : Option Addr) (c0 : Nat), RingAt w0 a0 r → r.length ≤ maxLen → Calls Try.prog 22 #[.slice a0 r.length c0, .int .i64 i, .int .i64 o] w0 (NewRB (joinR r i o) (arg3 r i o && joinB r i o) w0) := fun w0 a0 c0 h hm => rjoin_any _ _ _ _ _ r _ h rfl hm
  have hsr0 : szR (joinR r i o) ≤ 1048576 := join_sz r i o
  obtain ⟨R, hR⟩ : ∃ R, R = joinR r i o := ⟨_, rfl⟩
  obtain ⟨B, hB⟩ : ∃ B, B = (arg3 r i o && joinB r i o) := ⟨_, rfl⟩
  simp only [← hR, ← hB] at hsp0 him0 hsr0
  have HSP := Lib.hid hsp0
  have HIM := Lib.hid him0
  have HSR := Lib.hid hsr0
  have HI := Lib.hid h
  have HZ := Lib.hid hz
  have HM := Lib.hid hm
  clear hsp0 him0 hsr0 h hz hm hR hB
  go_enter Try.func12, Try.ntmps12
  go_wp2_with fail
  refine (szNodes_any a len cap r w HI.out HZ.out HM.out).mono ?_
  rintro e w1 ⟨z, rfl, hzz, hb1⟩
  rcases hzz with ⟨hsz, rfl⟩ | ⟨_, rfl⟩
  rotate_left
  · go_wp2
    go_ret
    exact ⟨rfl, hb1⟩
  have HSZ := Lib.hid hsz
  have hd : decide ((1048576 : Int) - (szR r : Int) < 0) = false := by simp; omega
  clear hsz
  go_wp2_with fail
  clear hd
  refine (toNodes_any a len cap r w1 (HI.out.keepB hb1 (Nat.le_refl _)) HZ.out (small_of HSZ.out)).mono ?_
  rintro e w2 ⟨rfl, ⟨F2, ho2⟩, hb2⟩
  have hB2 : Below w.heap.size w w2 := hb1.trans (hb2.mono hb1.size)
  have HO2 := Lib.hid ho2
  clear ho2
  go_wp2_with fail
  refine (HSP.out w2 _ _ HO2.out.ring (Nat.le_refl _) (small_max HSZ.out) (small_max HSZ.out)).mono ?_
  rintro e w3 ⟨gw, cw, Fw, rfl, how, _, _, hb3⟩
  have HW := Lib.hid how.ring
  have hB3 : Below w.heap.size w w3 := hB2.trans (hb3.mono hB2.size)
  clear how
  go_wp2_with fail
  refine (toNodes_any a len cap r w3 (HI.out.keepB hB3 (Nat.le_refl _)) HZ.out (small_of HSZ.out)).mono ?_
  rintro e w4 ⟨rfl, ⟨F4, ho4⟩, hb4⟩
  have HO4 := Lib.hid ho4
  clear ho4
  go_wp2_with fail
  refine (HIM.out w4 _ _ HO4.out.ring (small_max HSZ.out)).mono ?_
  rintro e w5 ⟨N, cg, F, rfl, ho5, _, _, hb5⟩
  have HO5 := Lib.hid ho5
  clear ho5
  have hB35 : Below w3.heap.size w3 w5 := hb4.trans (hb5.mono hb4.size)
  go_wp2_with fail
  refine (eqNodes_same _ _ _ _ _ R w5 HO5.out.ring (HW.out.keepB hB35 (Nat.le_refl _)) rfl (small_of HSR.out)).mono ?_
  rintro e w6 ⟨rfl, hb6⟩
  have hB36 : Below w3.heap.size w3 w6 := hB35.trans (hb6.mono hB35.size)
  have hB6 : Below w.heap.size w w6 := hB3.trans (hB36.mono hB3.size)
  have v1 : (!B == B) = false := by simp
  go_wp2_with fail
  refine (toNodes_any a len cap r w6 (HI.out.keepB hB6 (Nat.le_refl _)) HZ.out (small_of HSZ.out)).mono ?_
  rintro e w7 ⟨rfl, ⟨F7, ho7⟩, hb7⟩
  have HO7 := Lib.hid ho7
  clear ho7
  have hB57 : Below w5.heap.size w5 w7 := hb6.trans (hb7.mono hb6.size)
  have hB47 : Below w4.heap.size w4 w7 := hb5.trans (hB57.mono hb5.size)
  go_wp2_with fail
  refine (eqNodes_same _ _ _ _ _ r w7 (HO4.out.ring.keepB hB47 (Nat.le_refl _)) HO7.out.ring rfl (small_of HSZ.out)).mono ?_
  rintro e w8 ⟨rfl, hb8⟩
  have hB58 : Below w5.heap.size w5 w8 := hB57.trans (hb8.mono hB57.size)
  have hB48 : Below w4.heap.size w4 w8 := hb5.trans (hB58.mono hb5.size)
  have hB38 : Below w3.heap.size w3 w8 := hb4.trans (hB48.mono hb4.size)
  go_wp2_with fail
  refine (markNodes_any _ _ _ _ _ r F4 1 w8 (HO4.out.kept (fun g _ hg => hB48.block g hg)) rfl HSZ.out (by omega) (by omega)).mono ?_
  rintro e w9 ⟨rfl, _, hk9⟩
  have hB39 : Below w3.heap.size w3 w9 := hB38.trans (hk9.below (Nat.le_refl _))
  have HO9 : Hid (RingOwn w9 w4.heap.size w5.heap.size N R F) := HO5.out.kept (fun g h1 h2 => (hk9.block g (.inr h1)).trans (hB58.block g h2))
  have k0 : decide ((1 : Int) + (offR r r.length : Int) < 0) = false := by simp; omega
  go_wp2_with fail
  clear k0
  refine (eqNodes_same _ _ _ _ _ R w9 HO9.out.ring (HW.out.keepB hB39 (Nat.le_refl _)) rfl (small_of HSR.out)).mono ?_
  rintro e w10 ⟨rfl, hb10⟩
  have s59 : w5.heap.size ≤ w9.heap.size := by have := hB58.size; have := hk9.size; omega
  have HO10 : Hid (RingOwn w10 w4.heap.size w5.heap.size N R F) := HO9.out.kept (fun g h1 h2 => hb10.block g (by omega))
  have hB310 : Below w3.heap.size w3 w10 := hB39.trans (hb10.mono hB39.size)
  go_wp2_with fail
  refine (markNodes_any _ _ _ _ _ R F 1 w10 HO10.out rfl HSR.out (by omega) (by omega)).mono ?_
  rintro e w11 ⟨rfl, ho11, hk11⟩
  have HO11 := Lib.hid ho11
  clear ho11
  have hB311 : Below w3.heap.size w3 w11 := hB310.trans (hk11.below hb4.size)
  go_wp2_with fail
  refine (heldNodes_any _ _ _ R 1 w11 HO11.out.ring rfl HSR.out (by omega) (by omega)).mono ?_
  rintro e w12 ⟨rfl, hs12⟩
  have hB312 : Below w3.heap.size w3 w12 := hB311.trans (hs12.below _)
  have hB12 : Below w.heap.size w w12 := hB3.trans (hB312.mono hB3.size)
  have q0 : decide ((1 : Int) + (offR R R.length : Int) < 0) = false := by simp; omega
  have q1 : (((1 : Int) + (offR R R.length : Int)) != ((1 : Int) + (offR R R.length : Int))) = false := by simp
  go_wp2_with fail
  refine (toNodes_any a len cap r w12 (HI.out.keepB hB12 (Nat.le_refl _)) HZ.out (small_of HSZ.out)).mono ?_
  rintro e w13 ⟨rfl, ⟨F13, ho13⟩, hb13⟩
  have HO13 := Lib.hid ho13
  clear ho13
  go_wp2_with fail
  refine (HIM.out w13 _ _ HO13.out.ring (small_max HSZ.out)).mono ?_
  rintro e w14 ⟨N2, cg2, FF, rfl, ho14, _, _, hb14⟩
  have HO14 := Lib.hid ho14
  clear ho14
  have hB1114 : Below w11.heap.size w11 w14 := (hs12.below _).trans ((hb13.mono (by have := hs12.below 0 |>.size; omega)).trans (hb14.mono (by have := hs12.below 0 |>.size; have := hb13.size; omega)))
  have hB314 : Below w3.heap.size w3 w14 := hB311.trans (hB1114.mono hB311.size)
  go_wp2_with fail
  refine (eqNodes_same _ _ _ _ _ R w14 HO14.out.ring (HW.out.keepB hB314 (Nat.le_refl _)) rfl (small_of HSR.out)).mono ?_
  rintro e w15 ⟨rfl, hb15⟩
  have hB1115 : Below w11.heap.size w11 w15 := hB1114.trans (hb15.mono hB1114.size)
  go_wp2_with fail
  refine (heldNodes_any _ _ _ R 1 w15 (HO11.out.ring.keepB hB1115 (Nat.le_refl _)) rfl HSR.out (by omega) (by omega)).mono ?_
  rintro e w16 ⟨rfl, hs16⟩
  go_wp2
  go_ret
  exact ⟨rfl, hB3.trans (((hB311.trans (hB1115.mono hB311.size)).mono hB3.size).trans (hs16.below _))⟩

end Go.Proofs.Ytndjkokipiikpaa
