/- The walks of the laws of taking over. -/
import Derived.Test.YtoaamamconcieabDoorLsDraw4
import Derived.Test.YtoaamamconcieabDoorLsES
import Derived.Test.YtoaamamconcieabDoorLsHMath
namespace Go.Proofs.YtoaamamconcieabDoor
open Go.RowKit
set_option linter.unusedVariables false

theorem take_as {L R : List Ls} {ok : Bool} {x1 x2 x3 x4 : Int} (hR : takeR L x1 x2 x3 x4 = (R, ok)) (a : Option Addr) (len cap : Nat) (e0 e1 : Addr) (w : World) (h : LsAt w a L) (hz : L.length = len) (hm : len ≤ maxLen) (he : Errs w e0 e1) :
    Calls Tryd.prog 17 #[.slice a len cap, .int .i64 x1, .int .i64 x2, .int .i64 x3, .int .i64 x4] w fun e w' => ∃ g c, e = .returned (.tuple #[.slice (some ⟨g, 0, none⟩) R.length c, .bool ok]) ∧ OwnS w' w.heap.size g c R ∧ Below w.heap.size w w' := by
  have h0 := take_any a len cap L x1 x2 x3 x4 e0 e1 w h hz hm he
  rw [hR] at h0; exact h0
theorem stake_as {L R : List Ls} {ok : Bool} {x1 x2 x3 x4 : Int} (hR : takeR L x1 x2 x3 x4 = (R, ok)) (a : Option Addr) (len cap : Nat) (w : World) (h : LsAt w a L) (hz : L.length = len) (hm : len ≤ maxLen) :
    Calls Tryd.prog 18 #[.slice a len cap, .int .i64 x1, .int .i64 x2, .int .i64 x3, .int .i64 x4] w fun e w' => ∃ g c, e = .returned (.tuple #[.slice (some ⟨g, 0, none⟩) R.length c, .bool ok]) ∧ OwnS w' w.heap.size g c R ∧ Below w.heap.size w w' := by
  have h0 := stake_any a len cap L x1 x2 x3 x4 w h hz hm
  rw [hR] at h0; exact h0

set_option maxHeartbeats 4000000 in
theorem takeExpired (s : Option Addr) (len cap : Nat) (z : List Int) (e0 e1 : Addr) (w : World) (h : RowIn .u8 w s len cap z) (he : Errs w e0 e1) :
    Calls Tryd.prog 5 #[.slice s len cap] w fun e w' => e = .returned (.bool true) ∧ Below w.heap.size w w' := by
  have hb := bytes_of_row h
  have hm : len ≤ maxLen := Nat.le_trans hb.1 hb.2.1
  unfold maxLen at hm
  clear h
  have HE := Lib.hid he
  clear he
  by_cases hl : 1048576 < len
  · go_enter Tryd.func5, Tryd.ntmps5
    go_wp2
    go_ret
    exact ⟨rfl, Below.refl _ _⟩
  have hlB : decide ((1048576 : Int) < (len : Int)) = false := by simp; omega
  have HBY := Lib.hid hb
  clear hb
  go_enter Tryd.func5, Tryd.ntmps5
  go_wp2_with fail
  refine (drawLeaseTake s len cap w HBY.out).mono ?_
  rintro e w1 ⟨g, c, L, key, tgt, now, ut, rfl, hl12, ho, hb1⟩
  have O1 := Lib.hid ho
  have hmx : Hid (L.length ≤ maxLen) := by show _ ≤ maxLen; unfold maxLen; omega
  clear ho
  rcases take_ways L key tgt now ut with ⟨hok, hr⟩ | ⟨hok, hu, hr⟩ | ⟨hok, hu, hr⟩
  · have HR := Lib.hid hr
    have hsm : Hid (([] : List Ls).length ≤ 1048576) := by show _ ≤ 1048576; simp
    clear hr hok
    go_wp2_with fail
    refine (take_as HR.out _ _ _ e0 e1 w1 O1.out.ls rfl hmx.out (HE.out.keep hb1)).mono ?_
    rintro e w2 ⟨g2, c2, rfl, ho2, hb2⟩
    have hB2 : Below w.heap.size w w2 := hb1.trans (hb2.mono hb1.size)
    have R2 := Lib.hid ho2
    have O2 := Lib.hid (O1.out.keepB hb2 (Nat.le_refl _))
    clear ho2
    go_wp2_with fail
    refine (stake_as HR.out _ _ _ w2 O2.out.ls rfl hmx.out).mono ?_
    rintro e w3 ⟨g3, c3, rfl, ho3, hb3⟩
    have hB3 : Below w.heap.size w w3 := hB2.trans (hb3.mono hB2.size)
    have S3 := Lib.hid ho3
    have R3 := Lib.hid (R2.out.keepB hb3 (Nat.le_refl _))
    have O3 := Lib.hid (O2.out.keepB hb3 (Nat.le_refl _))
    clear ho3
    go_wp2_with fail
    refine (sameLs_same _ _ _ _ _ [] w3 R3.out.ls S3.out.ls rfl hsm.out).mono ?_
    rintro e w4 ⟨rfl, hs4⟩
    have hB4 : Below w.heap.size w w4 := hB3.trans (hs4.below _)
    have R4 := Lib.hid (R3.out.keepB (hs4.below _) (Nat.le_refl _))
    have O4 := Lib.hid (O3.out.keepB (hs4.below _) (Nat.le_refl _))
    have S4 := Lib.hid (S3.out.keepB (hs4.below _) (Nat.le_refl _))
    go_wp2_with fail
    refine (sameLs_same _ _ _ _ _ [] w4 R4.out.ls S4.out.ls rfl hsm.out).mono ?_
    rintro e w5 ⟨rfl, hs5⟩
    go_wp2
    go_ret
    exact ⟨rfl, hB4.trans (hs5.below _)⟩
  · have HXL : Hid (ofR L key = (ofL L key, true)) := by
      obtain ⟨hv, hat, _⟩ := (takeOk_iff _ _ _ _ _).1 hok
      exact ofR_yes hv ((ptB_iff _).2 hat)
    have hl1 : 1 ≤ L.length := (lv_len ((takeOk_iff _ _ _ _ _).1 hok).1).1
    have HR := Lib.hid hr
    have c1 : decide ((ofL L key).u < now) = false := by simp; exact hu
    have hsm : Hid (L.length ≤ 1048576) := by show _ ≤ 1048576; omega
    have n0 : ((L.length : Int) == 0) = false := by rw [beq_eq_false_iff_ne]; omega
    clear hr hok hu
    go_wp2_with fail
    refine (take_as HR.out _ _ _ e0 e1 w1 O1.out.ls rfl hmx.out (HE.out.keep hb1)).mono ?_
    rintro e w2 ⟨g2, c2, rfl, ho2, hb2⟩
    have hB2 : Below w.heap.size w w2 := hb1.trans (hb2.mono hb1.size)
    have R2 := Lib.hid ho2
    have O2 := Lib.hid (O1.out.keepB hb2 (Nat.le_refl _))
    clear ho2
    go_wp2_with fail
    refine (stake_as HR.out _ _ _ w2 O2.out.ls rfl hmx.out).mono ?_
    rintro e w3 ⟨g3, c3, rfl, ho3, hb3⟩
    have hB3 : Below w.heap.size w w3 := hB2.trans (hb3.mono hB2.size)
    have S3 := Lib.hid ho3
    have R3 := Lib.hid (R2.out.keepB hb3 (Nat.le_refl _))
    have O3 := Lib.hid (O2.out.keepB hb3 (Nat.le_refl _))
    clear ho3
    go_wp2_with fail
    refine (sameLs_same _ _ _ _ _ L w3 R3.out.ls S3.out.ls rfl hsm.out).mono ?_
    rintro e w4 ⟨rfl, hs4⟩
    have hB4 : Below w.heap.size w w4 := hB3.trans (hs4.below _)
    have R4 := Lib.hid (R3.out.keepB (hs4.below _) (Nat.le_refl _))
    have O4 := Lib.hid (O3.out.keepB (hs4.below _) (Nat.le_refl _))
    have S4 := Lib.hid (S3.out.keepB (hs4.below _) (Nat.le_refl _))
    go_wp2_with fail
    refine (holder_any _ _ _ L key w4 O4.out.ls rfl hmx.out).mono ?_
    rintro e w5 ⟨rfl, hb5⟩
    have hB5 : Below w.heap.size w w5 := hB4.trans (hb5.mono hB4.size)
    have R5 := Lib.hid (R4.out.keepB hb5 (Nat.le_refl _))
    have O5 := Lib.hid (O4.out.keepB hb5 (Nat.le_refl _))
    rw [HXL.out]
    go_wp2_with fail
    refine (sameLs_same _ _ _ _ _ L w5 R5.out.ls O5.out.ls rfl hsm.out).mono ?_
    rintro e w6 ⟨rfl, hs6⟩
    go_wp2
    go_ret
    exact ⟨rfl, hB5.trans (hs6.below _)⟩
  · have HXL : Hid (ofR L key = (ofL L key, true)) := by
      obtain ⟨hv, hat, _⟩ := (takeOk_iff _ _ _ _ _).1 hok
      exact ofR_yes hv ((ptB_iff _).2 hat)
    have hl1 : 1 ≤ L.length := (lv_len ((takeOk_iff _ _ _ _ _).1 hok).1).1
    obtain ⟨R, hQ⟩ : ∃ R, (L.set (atL L key) ⟨(ofL L key).e, tgt, ut⟩) = R := ⟨_, rfl⟩
    have hr' : takeR L key tgt now ut = (R, true) := by rw [hr, hQ]
    have HR := Lib.hid hr'
    have hll : 1 ≤ R.length ∧ R.length ≤ 12 := by obtain ⟨_, _, hvr, _⟩ := take_done hr'; exact lv_len hvr
    obtain ⟨hll1, hll2⟩ := hll
    have hsm : Hid (R.length ≤ 1048576) := by show _ ≤ 1048576; omega
    have n0 : ((R.length : Int) == 0) = false := by rw [beq_eq_false_iff_ne]; omega
    have c1 : decide ((ofL L key).u < now) = true := by simp; exact hu
    clear hr hr' hok hQ hu
    go_wp2_with fail
    refine (take_as HR.out _ _ _ e0 e1 w1 O1.out.ls rfl hmx.out (HE.out.keep hb1)).mono ?_
    rintro e w2 ⟨g2, c2, rfl, ho2, hb2⟩
    have hB2 : Below w.heap.size w w2 := hb1.trans (hb2.mono hb1.size)
    have R2 := Lib.hid ho2
    have O2 := Lib.hid (O1.out.keepB hb2 (Nat.le_refl _))
    clear ho2
    go_wp2_with fail
    refine (stake_as HR.out _ _ _ w2 O2.out.ls rfl hmx.out).mono ?_
    rintro e w3 ⟨g3, c3, rfl, ho3, hb3⟩
    have hB3 : Below w.heap.size w w3 := hB2.trans (hb3.mono hB2.size)
    have S3 := Lib.hid ho3
    have R3 := Lib.hid (R2.out.keepB hb3 (Nat.le_refl _))
    have O3 := Lib.hid (O2.out.keepB hb3 (Nat.le_refl _))
    clear ho3
    go_wp2_with fail
    refine (sameLs_same _ _ _ _ _ R w3 R3.out.ls S3.out.ls rfl hsm.out).mono ?_
    rintro e w4 ⟨rfl, hs4⟩
    have hB4 : Below w.heap.size w w4 := hB3.trans (hs4.below _)
    have R4 := Lib.hid (R3.out.keepB (hs4.below _) (Nat.le_refl _))
    have O4 := Lib.hid (O3.out.keepB (hs4.below _) (Nat.le_refl _))
    have S4 := Lib.hid (S3.out.keepB (hs4.below _) (Nat.le_refl _))
    go_wp2_with fail
    refine (holder_any _ _ _ L key w4 O4.out.ls rfl hmx.out).mono ?_
    rintro e w5 ⟨rfl, hb5⟩
    have hB5 : Below w.heap.size w w5 := hB4.trans (hb5.mono hB4.size)
    have R5 := Lib.hid (R4.out.keepB hb5 (Nat.le_refl _))
    have O5 := Lib.hid (O4.out.keepB hb5 (Nat.le_refl _))
    rw [HXL.out]
    go_wp2
    go_ret
    exact ⟨rfl, hB5⟩

set_option maxHeartbeats 4000000 in
theorem takeOnce (s : Option Addr) (len cap : Nat) (z : List Int) (s2 : Option Addr) (len2 cap2 : Nat) (z2 : List Int) (e0 e1 : Addr) (w : World) (h : RowIn .u8 w s len cap z) (h2 : RowIn .u8 w s2 len2 cap2 z2) (he : Errs w e0 e1) :
    Calls Tryd.prog 7 #[.slice s len cap, .slice s2 len2 cap2] w fun e w' => e = .returned (.bool true) ∧ Below w.heap.size w w' := by
  have hb := bytes_of_row h
  have hm : len ≤ maxLen := Nat.le_trans hb.1 hb.2.1
  unfold maxLen at hm
  have hb2 := bytes_of_row h2
  have hm2 : len2 ≤ maxLen := Nat.le_trans hb2.1 hb2.2.1
  unfold maxLen at hm2
  clear h2 hb2
  clear h
  have HE := Lib.hid he
  clear he
  by_cases hl : 1048576 < len
  · go_enter Tryd.func7, Tryd.ntmps7
    go_wp2
    go_ret
    exact ⟨rfl, Below.refl _ _⟩
  have hlB : decide ((1048576 : Int) < (len : Int)) = false := by simp; omega
  by_cases hl2 : 1048576 < len2
  · go_enter Tryd.func7, Tryd.ntmps7
    go_wp2
    go_ret
    exact ⟨rfl, Below.refl _ _⟩
  have hlB2 : decide ((1048576 : Int) < (len2 : Int)) = false := by simp; omega
  have HBY := Lib.hid hb
  clear hb
  go_enter Tryd.func7, Tryd.ntmps7
  go_wp2_with fail
  refine (drawLeaseTake s len cap w HBY.out).mono ?_
  rintro e w1 ⟨g, c, L, key, tgt, now, ut, rfl, hl12, ho, hb1⟩
  have O1 := Lib.hid ho
  have hmx : Hid (L.length ≤ maxLen) := by show _ ≤ maxLen; unfold maxLen; omega
  clear ho
  obtain ⟨R, ok, hR⟩ : ∃ R ok, takeR L key tgt now ut = (R, ok) := ⟨_, _, rfl⟩
  have HR := Lib.hid hR
  have hsm : Hid (R.length ≤ 1048576) := by show _ ≤ 1048576; have := takeR_len L key tgt now ut; rw [hR] at this; simp at this; omega
  have hmr : Hid (R.length ≤ maxLen) := by show _ ≤ maxLen; have := hsm.out; unfold maxLen; omega
  cases ok
  · clear hR
    go_wp2_with fail
    refine (take_as HR.out _ _ _ e0 e1 w1 O1.out.ls rfl hmx.out (HE.out.keep hb1)).mono ?_
    rintro e w2 ⟨g2, c2, rfl, ho2, hb2⟩
    have hB2 : Below w.heap.size w w2 := hb1.trans (hb2.mono hb1.size)
    have R2 := Lib.hid ho2
    have O2 := Lib.hid (O1.out.keepB hb2 (Nat.le_refl _))
    clear ho2
    go_wp2_with fail
    refine (stake_as HR.out _ _ _ w2 O2.out.ls rfl hmx.out).mono ?_
    rintro e w3 ⟨g3, c3, rfl, ho3, hb3⟩
    have hB3 : Below w.heap.size w w3 := hB2.trans (hb3.mono hB2.size)
    have S3 := Lib.hid ho3
    have R3 := Lib.hid (R2.out.keepB hb3 (Nat.le_refl _))
    have O3 := Lib.hid (O2.out.keepB hb3 (Nat.le_refl _))
    clear ho3
    go_wp2_with fail
    refine (sameLs_same _ _ _ _ _ R w3 R3.out.ls S3.out.ls rfl hsm.out).mono ?_
    rintro e w4 ⟨rfl, hs4⟩
    have hB4 : Below w.heap.size w w4 := hB3.trans (hs4.below _)
    have R4 := Lib.hid (R3.out.keepB (hs4.below _) (Nat.le_refl _))
    have O4 := Lib.hid (O3.out.keepB (hs4.below _) (Nat.le_refl _))
    have S4 := Lib.hid (S3.out.keepB (hs4.below _) (Nat.le_refl _))
    go_wp2_with fail
    refine (sameLs_same _ _ _ _ _ R w4 R4.out.ls S4.out.ls rfl hsm.out).mono ?_
    rintro e w5 ⟨rfl, hs5⟩
    go_wp2
    go_ret
    exact ⟨rfl, hB4.trans (hs5.below _)⟩
  by_cases hun : ut < now
  · have c1 : decide (ut < now) = true := by simp; exact hun
    clear hR hun
    go_wp2_with fail
    refine (take_as HR.out _ _ _ e0 e1 w1 O1.out.ls rfl hmx.out (HE.out.keep hb1)).mono ?_
    rintro e w2 ⟨g2, c2, rfl, ho2, hb2⟩
    have hB2 : Below w.heap.size w w2 := hb1.trans (hb2.mono hb1.size)
    have R2 := Lib.hid ho2
    have O2 := Lib.hid (O1.out.keepB hb2 (Nat.le_refl _))
    clear ho2
    go_wp2_with fail
    refine (stake_as HR.out _ _ _ w2 O2.out.ls rfl hmx.out).mono ?_
    rintro e w3 ⟨g3, c3, rfl, ho3, hb3⟩
    have hB3 : Below w.heap.size w w3 := hB2.trans (hb3.mono hB2.size)
    have S3 := Lib.hid ho3
    have R3 := Lib.hid (R2.out.keepB hb3 (Nat.le_refl _))
    have O3 := Lib.hid (O2.out.keepB hb3 (Nat.le_refl _))
    clear ho3
    go_wp2_with fail
    refine (sameLs_same _ _ _ _ _ R w3 R3.out.ls S3.out.ls rfl hsm.out).mono ?_
    rintro e w4 ⟨rfl, hs4⟩
    have hB4 : Below w.heap.size w w4 := hB3.trans (hs4.below _)
    have R4 := Lib.hid (R3.out.keepB (hs4.below _) (Nat.le_refl _))
    have O4 := Lib.hid (O3.out.keepB (hs4.below _) (Nat.le_refl _))
    have S4 := Lib.hid (S3.out.keepB (hs4.below _) (Nat.le_refl _))
    go_wp2_with fail
    refine (sameLs_same _ _ _ _ _ R w4 R4.out.ls S4.out.ls rfl hsm.out).mono ?_
    rintro e w5 ⟨rfl, hs5⟩
    go_wp2
    go_ret
    exact ⟨rfl, hB4.trans (hs5.below _)⟩
  have c1 : decide (ut < now) = false := by simp; omega
  have HT : Hid (∀ t : Int, 0 ≤ t → t < 64 → takeR R key t now ut = (R, false)) := fun t h0 h1 => take_once hR (by omega) h0 h1
  clear hR
  go_wp2_with fail
  refine (take_as HR.out _ _ _ e0 e1 w1 O1.out.ls rfl hmx.out (HE.out.keep hb1)).mono ?_
  rintro e w2 ⟨g2, c2, rfl, ho2, hb2⟩
  have hB2 : Below w.heap.size w w2 := hb1.trans (hb2.mono hb1.size)
  have R2 := Lib.hid ho2
  have O2 := Lib.hid (O1.out.keepB hb2 (Nat.le_refl _))
  clear ho2
  go_wp2_with fail
  refine (stake_as HR.out _ _ _ w2 O2.out.ls rfl hmx.out).mono ?_
  rintro e w3 ⟨g3, c3, rfl, ho3, hb3⟩
  have hB3 : Below w.heap.size w w3 := hB2.trans (hb3.mono hB2.size)
  have S3 := Lib.hid ho3
  have R3 := Lib.hid (R2.out.keepB hb3 (Nat.le_refl _))
  have O3 := Lib.hid (O2.out.keepB hb3 (Nat.le_refl _))
  clear ho3
  go_wp2_with fail
  refine (sameLs_same _ _ _ _ _ R w3 R3.out.ls S3.out.ls rfl hsm.out).mono ?_
  rintro e w4 ⟨rfl, hs4⟩
  have hB4 : Below w.heap.size w w4 := hB3.trans (hs4.below _)
  have R4 := Lib.hid (R3.out.keepB (hs4.below _) (Nat.le_refl _))
  have O4 := Lib.hid (O3.out.keepB (hs4.below _) (Nat.le_refl _))
  have S4 := Lib.hid (S3.out.keepB (hs4.below _) (Nat.le_refl _))
  go_wp2_with fail
  refine (take_as (HT.out _ (by first | omega | (rw [Int.tmod_eq_emod_of_nonneg (by omega)]; omega)) (by first | omega | (rw [Int.tmod_eq_emod_of_nonneg (by omega)]; omega))) _ _ _ e0 e1 w4 R4.out.ls rfl hmr.out (HE.out.keep hB4)).mono ?_
  rintro e w5 ⟨g5, c5, rfl, ho5, hb5⟩
  have hB5 : Below w.heap.size w w5 := hB4.trans (hb5.mono hB4.size)
  have R5 := Lib.hid (R4.out.keepB hb5 (Nat.le_refl _))
  have Q5 := Lib.hid ho5
  clear ho5
  go_wp2_with fail
  refine (sameLs_same _ _ _ _ _ R w5 Q5.out.ls R5.out.ls rfl hsm.out).mono ?_
  rintro e w6 ⟨rfl, hs6⟩
  go_wp2
  go_ret
  exact ⟨rfl, hB5.trans (hs6.below _)⟩
end Go.Proofs.YtoaamamconcieabDoor
