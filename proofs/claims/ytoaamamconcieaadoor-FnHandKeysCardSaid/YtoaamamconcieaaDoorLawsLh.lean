/- The walks of the laws of handing over. -/
import Derived.Test.YtoaamamconcieaaDoorLsDraw4
import Derived.Test.YtoaamamconcieaaDoorLsES
import Derived.Test.YtoaamamconcieaaDoorLsHMath
namespace Go.Proofs.YtoaamamconcieaaDoor
open Go.RowKit
set_option linter.unusedVariables false

theorem hand_as {L R : List Ls} {ok : Bool} {x1 x2 x3 x4 : Int} (hR : handR L x1 x2 x3 x4 = (R, ok)) (a : Option Addr) (len cap : Nat) (e0 e1 : Addr) (w : World) (h : LsAt w a L) (hz : L.length = len) (hm : len ≤ maxLen) (he : Errs w e0 e1) :
    Calls Tryd.prog 11 #[.slice a len cap, .int .i64 x1, .int .i64 x2, .int .i64 x3, .int .i64 x4] w fun e w' => ∃ g c, e = .returned (.tuple #[.slice (some ⟨g, 0, none⟩) R.length c, .bool ok]) ∧ OwnS w' w.heap.size g c R ∧ Below w.heap.size w w' := by
  have h0 := hand_any a len cap L x1 x2 x3 x4 e0 e1 w h hz hm he
  rw [hR] at h0; exact h0
theorem shand_as {L R : List Ls} {ok : Bool} {x1 x2 x3 x4 : Int} (hR : handR L x1 x2 x3 x4 = (R, ok)) (b len cap : Nat) (w : World) (h : LsAt w (some ⟨b, 0, none⟩) L) (hz : L.length = len) (hm : len ≤ maxLen) (hc : len ≤ cap) :
    Calls Tryd.prog 9 #[.slice (some ⟨b, 0, none⟩) len cap, .int .i64 x1, .int .i64 x2, .int .i64 x3, .int .i64 x4] w fun e w' => ∃ g c, e = .returned (.tuple #[.slice (some ⟨g, 0, none⟩) R.length c, .bool ok]) ∧ OwnS w' w.heap.size g c R ∧ Below w.heap.size w w' := by
  have h0 := shand_any b len cap L x1 x2 x3 x4 w h hz hm hc
  rw [hR] at h0; exact h0
theorem OwnS.lencap {w : World} {base g cap : Nat} {L : List Ls} (h : OwnS w base g cap L) : L.length ≤ cap := by obtain ⟨_, _, _, _, hh, _⟩ := h.blk; exact hh

set_option maxHeartbeats 4000000 in
theorem handOwner (s : Option Addr) (len cap : Nat) (z : List Int) (e0 e1 : Addr) (w : World) (h : RowIn .u8 w s len cap z) (he : Errs w e0 e1) :
    Calls Tryd.prog 6 #[.slice s len cap] w fun e w' => e = .returned (.bool true) ∧ Below w.heap.size w w' := by
  have hb := bytes_of_row h
  have hm : len ≤ maxLen := Nat.le_trans hb.1 hb.2.1
  unfold maxLen at hm
  clear h
  have HE := Lib.hid he
  clear he
  by_cases hl : 1048576 < len
  · go_enter Tryd.func6, Tryd.ntmps6
    go_wp2
    go_ret
    exact ⟨rfl, Below.refl _ _⟩
  have hlB : decide ((1048576 : Int) < (len : Int)) = false := by simp; omega
  have HBY := Lib.hid hb
  clear hb
  go_enter Tryd.func6, Tryd.ntmps6
  go_wp2_with fail
  refine (drawLeaseHand s len cap w HBY.out).mono ?_
  rintro e w1 ⟨g, c, L, fr, at_, tgt, ut, rfl, hl12, ho, hb1⟩
  have O1 := Lib.hid ho
  have hmx : Hid (L.length ≤ maxLen) := by show _ ≤ maxLen; unfold maxLen; omega
  clear ho
  obtain ⟨R, ok, hR⟩ : ∃ R ok, handR L fr at_ tgt ut = (R, ok) := ⟨_, _, rfl⟩
  have HR := Lib.hid hR
  have hsm : Hid (R.length ≤ 1048576) := by show _ ≤ 1048576; have := handR_len L fr at_ tgt ut; rw [hR] at this; simp at this; omega
  have hmr : Hid (R.length ≤ maxLen) := by show _ ≤ maxLen; have := hsm.out; unfold maxLen; omega
  cases ok
  · clear hR
    go_wp2_with fail
    refine (hand_as HR.out _ _ _ e0 e1 w1 O1.out.ls rfl hmx.out (HE.out.keep hb1)).mono ?_
    rintro e w2 ⟨g2, c2, rfl, ho2, hb2⟩
    have hB2 : Below w.heap.size w w2 := hb1.trans (hb2.mono hb1.size)
    have R2 := Lib.hid ho2
    have O2 := Lib.hid (O1.out.keepB hb2 (Nat.le_refl _))
    clear ho2
    go_wp2_with fail
    refine (shand_as HR.out _ _ _ w2 O2.out.ls rfl hmx.out O2.out.lencap).mono ?_
    rintro e w3 ⟨g3, c3, rfl, ho3, hb3⟩
    have hB3 : Below w.heap.size w w3 := hB2.trans (hb3.mono hB2.size)
    have S3 := Lib.hid ho3
    have R3 := Lib.hid (R2.out.keepB hb3 (Nat.le_refl _))
    have O3 := Lib.hid (O2.out.keepB hb3 (Nat.le_refl _))
    clear ho3
    go_wp2_with fail
    refine (sameLs_same _ _ _ _ _ R w3 R3.out.ls S3.out.ls rfl hsm.out).mono ?_
    rintro e w4 ⟨rfl, hs4⟩
    have hB4 : Below w.heap.size w w4 := hB3.trans (hs4.below _)
    have R4 := Lib.hid (R3.out.keepB (hs4.below _) (Nat.le_refl _))
    have O4 := Lib.hid (O3.out.keepB (hs4.below _) (Nat.le_refl _))
    have S4 := Lib.hid (S3.out.keepB (hs4.below _) (Nat.le_refl _))
    go_wp2_with fail
    refine (sameLs_same _ _ _ _ _ R w4 R4.out.ls S4.out.ls rfl hsm.out).mono ?_
    rintro e w5 ⟨rfl, hs5⟩
    go_wp2
    go_ret
    exact ⟨rfl, hB4.trans (hs5.below _)⟩
  obtain ⟨hok, how, hvr, hof, hlen, _⟩ := hand_done hR
  obtain ⟨hv, hfr, hat, hto, hut⟩ := (handOk_iff _ _ _ _ _).1 hok
  have HXL : Hid (ofR L at_ = (ofL L at_, true)) := ofR_yes hv ((ptB_iff _).2 hat)
  have HXR : Hid (ofR R at_ = (⟨at_, tgt, ut⟩, true)) := by show _ = _; rw [ofR_yes hvr ((ptB_iff _).2 hat), hof]
  have HOW := Lib.hid how
  clear hof hlen how hR hok hv hvr
  go_wp2_with fail
  refine (hand_as HR.out _ _ _ e0 e1 w1 O1.out.ls rfl hmx.out (HE.out.keep hb1)).mono ?_
  rintro e w2 ⟨g2, c2, rfl, ho2, hb2⟩
  have hB2 : Below w.heap.size w w2 := hb1.trans (hb2.mono hb1.size)
  have R2 := Lib.hid ho2
  have O2 := Lib.hid (O1.out.keepB hb2 (Nat.le_refl _))
  clear ho2
  go_wp2_with fail
  refine (shand_as HR.out _ _ _ w2 O2.out.ls rfl hmx.out O2.out.lencap).mono ?_
  rintro e w3 ⟨g3, c3, rfl, ho3, hb3⟩
  have hB3 : Below w.heap.size w w3 := hB2.trans (hb3.mono hB2.size)
  have S3 := Lib.hid ho3
  have R3 := Lib.hid (R2.out.keepB hb3 (Nat.le_refl _))
  have O3 := Lib.hid (O2.out.keepB hb3 (Nat.le_refl _))
  clear ho3
  go_wp2_with fail
  refine (sameLs_same _ _ _ _ _ R w3 R3.out.ls S3.out.ls rfl hsm.out).mono ?_
  rintro e w4 ⟨rfl, hs4⟩
  have hB4 : Below w.heap.size w w4 := hB3.trans (hs4.below _)
  have R4 := Lib.hid (R3.out.keepB (hs4.below _) (Nat.le_refl _))
  have O4 := Lib.hid (O3.out.keepB (hs4.below _) (Nat.le_refl _))
  have S4 := Lib.hid (S3.out.keepB (hs4.below _) (Nat.le_refl _))
  go_wp2_with fail
  refine (holder_any _ _ _ L at_ w4 O4.out.ls rfl hmx.out).mono ?_
  rintro e w5 ⟨rfl, hb5⟩
  have hB5 : Below w.heap.size w w5 := hB4.trans (hb5.mono hB4.size)
  have R5 := Lib.hid (R4.out.keepB hb5 (Nat.le_refl _))
  have O5 := Lib.hid (O4.out.keepB hb5 (Nat.le_refl _))
  rw [HXL.out]
  simp only [HOW.out]
  go_wp2_with fail
  refine (holder_any _ _ _ R at_ w5 R5.out.ls rfl hmr.out).mono ?_
  rintro e w6 ⟨rfl, hb6⟩
  rw [HXR.out]
  go_wp2
  go_ret
  exact ⟨rfl, hB5.trans (hb6.mono hB5.size)⟩




set_option maxHeartbeats 4000000 in
theorem handRefused (s : Option Addr) (len cap : Nat) (z : List Int) (e0 e1 : Addr) (w : World) (h : RowIn .u8 w s len cap z) (he : Errs w e0 e1) :
    Calls Tryd.prog 7 #[.slice s len cap] w fun e w' => e = .returned (.bool true) ∧ Below w.heap.size w w' := by
  have hb := bytes_of_row h
  have hm : len ≤ maxLen := Nat.le_trans hb.1 hb.2.1
  unfold maxLen at hm
  clear h
  have HE := Lib.hid he
  clear he
  by_cases hl : 1048576 < len
  · go_enter Tryd.func7, Tryd.ntmps7
    go_wp2
    go_ret
    exact ⟨rfl, Below.refl _ _⟩
  have hlB : decide ((1048576 : Int) < (len : Int)) = false := by simp; omega
  have HBY := Lib.hid hb
  clear hb
  go_enter Tryd.func7, Tryd.ntmps7
  go_wp2_with fail
  refine (drawLeaseHand s len cap w HBY.out).mono ?_
  rintro e w1 ⟨g, c, L, fr, at_, tgt, ut, rfl, hl12, ho, hb1⟩
  have O1 := Lib.hid ho
  have hmx : Hid (L.length ≤ maxLen) := by show _ ≤ maxLen; unfold maxLen; omega
  clear ho
  rcases hand_ways L fr at_ tgt ut with ⟨hok, hr⟩ | ⟨hok, ho, hr⟩ | ⟨hok, ho, he, hl, hr⟩ | ⟨hok, ho, he, hr⟩ | ⟨hok, ho, he, hl, hr⟩
  · have HR := Lib.hid hr
    have hsm : Hid (([] : List Ls).length ≤ 1048576) := by show _ ≤ 1048576; simp
    clear hr hok
    go_wp2_with fail
    refine (hand_as HR.out _ _ _ e0 e1 w1 O1.out.ls rfl hmx.out (HE.out.keep hb1)).mono ?_
    rintro e w2 ⟨g2, c2, rfl, ho2, hb2⟩
    have hB2 : Below w.heap.size w w2 := hb1.trans (hb2.mono hb1.size)
    have R2 := Lib.hid ho2
    have O2 := Lib.hid (O1.out.keepB hb2 (Nat.le_refl _))
    clear ho2
    go_wp2_with fail
    refine (shand_as HR.out _ _ _ w2 O2.out.ls rfl hmx.out O2.out.lencap).mono ?_
    rintro e w3 ⟨g3, c3, rfl, ho3, hb3⟩
    have hB3 : Below w.heap.size w w3 := hB2.trans (hb3.mono hB2.size)
    have S3 := Lib.hid ho3
    have R3 := Lib.hid (R2.out.keepB hb3 (Nat.le_refl _))
    have O3 := Lib.hid (O2.out.keepB hb3 (Nat.le_refl _))
    clear ho3
    go_wp2_with fail
    refine (sameLs_same _ _ _ _ _ [] w3 R3.out.ls S3.out.ls rfl hsm.out).mono ?_
    rintro e w4 ⟨rfl, hs4⟩
    have hB4 : Below w.heap.size w w4 := hB3.trans (hs4.below _)
    have R4 := Lib.hid (R3.out.keepB (hs4.below _) (Nat.le_refl _))
    have O4 := Lib.hid (O3.out.keepB (hs4.below _) (Nat.le_refl _))
    have S4 := Lib.hid (S3.out.keepB (hs4.below _) (Nat.le_refl _))
    go_wp2_with fail
    refine (sameLs_same _ _ _ _ _ [] w4 R4.out.ls S4.out.ls rfl hsm.out).mono ?_
    rintro e w5 ⟨rfl, hs5⟩
    go_wp2
    go_ret
    exact ⟨rfl, hB4.trans (hs5.below _)⟩
  · have HXL : Hid (ofR L at_ = (ofL L at_, true)) := by
      obtain ⟨hv, _, hat, _⟩ := (handOk_iff _ _ _ _ _).1 hok
      exact ofR_yes hv ((ptB_iff _).2 hat)
    have hl1 : 1 ≤ L.length := (lv_len ((handOk_iff _ _ _ _ _).1 hok).1).1
    have HR := Lib.hid hr
    have c1 : ((ofL L at_).o != fr) = true := by simp; exact ho
    clear ho
    have hsm : Hid (L.length ≤ 1048576) := by show _ ≤ 1048576; omega
    have n0 : ((L.length : Int) == 0) = false := by rw [beq_eq_false_iff_ne]; omega
    clear hr hok
    go_wp2_with fail
    refine (hand_as HR.out _ _ _ e0 e1 w1 O1.out.ls rfl hmx.out (HE.out.keep hb1)).mono ?_
    rintro e w2 ⟨g2, c2, rfl, ho2, hb2⟩
    have hB2 : Below w.heap.size w w2 := hb1.trans (hb2.mono hb1.size)
    have R2 := Lib.hid ho2
    have O2 := Lib.hid (O1.out.keepB hb2 (Nat.le_refl _))
    clear ho2
    go_wp2_with fail
    refine (shand_as HR.out _ _ _ w2 O2.out.ls rfl hmx.out O2.out.lencap).mono ?_
    rintro e w3 ⟨g3, c3, rfl, ho3, hb3⟩
    have hB3 : Below w.heap.size w w3 := hB2.trans (hb3.mono hB2.size)
    have S3 := Lib.hid ho3
    have R3 := Lib.hid (R2.out.keepB hb3 (Nat.le_refl _))
    have O3 := Lib.hid (O2.out.keepB hb3 (Nat.le_refl _))
    clear ho3
    go_wp2_with fail
    refine (sameLs_same _ _ _ _ _ L w3 R3.out.ls S3.out.ls rfl hsm.out).mono ?_
    rintro e w4 ⟨rfl, hs4⟩
    have hB4 : Below w.heap.size w w4 := hB3.trans (hs4.below _)
    have R4 := Lib.hid (R3.out.keepB (hs4.below _) (Nat.le_refl _))
    have O4 := Lib.hid (O3.out.keepB (hs4.below _) (Nat.le_refl _))
    have S4 := Lib.hid (S3.out.keepB (hs4.below _) (Nat.le_refl _))
    go_wp2_with fail
    refine (lof_any _ _ _ L at_ w4 O4.out.ls rfl hmx.out).mono ?_
    rintro e w5 ⟨rfl, hb5⟩
    have hB5 : Below w.heap.size w w5 := hB4.trans (hb5.mono hB4.size)
    have HB6 : Hid (∀ o, Below w.heap.size w (w5.alloc o)) := fun o => hB5.trans ((alB w5 o).mono hB5.size)
    have HA6 : Hid (∀ o, Below w5.heap.size w5 (w5.alloc o)) := fun o => alB w5 o
    rw [HXL.out]
    have R5 := Lib.hid (R4.out.keepB hb5 (Nat.le_refl _))
    have O5 := Lib.hid (O4.out.keepB hb5 (Nat.le_refl _))
    go_wp2_with fail
    refine (sameLs_same _ _ _ _ _ L _ (R5.out.ls.keepB (HA6.out _) (Nat.le_refl _)) (O5.out.ls.keepB (HA6.out _) (Nat.le_refl _)) rfl hsm.out).mono ?_
    rintro e w7 ⟨rfl, hs7⟩
    go_wp2
    go_ret
    exact ⟨rfl, (HB6.out _).trans (hs7.below _)⟩
  · have HXL : Hid (ofR L at_ = (ofL L at_, true)) := by
      obtain ⟨hv, _, hat, _⟩ := (handOk_iff _ _ _ _ _).1 hok
      exact ofR_yes hv ((ptB_iff _).2 hat)
    have hl1 : 1 ≤ L.length := (lv_len ((handOk_iff _ _ _ _ _).1 hok).1).1
    have HR := Lib.hid hr
    have c1 : ((ofL L at_).o != fr) = false := by simp; exact ho
    have c2 : ((ofL L at_).e != at_) = true := by simp; exact he
    have c3 : ((L.length : Int) == 12) = true := by rw [beq_iff_eq]; omega
    have hl3 : L.length ≤ 12 := by omega
    clear ho he hl
    have hsm : Hid (L.length ≤ 1048576) := by show _ ≤ 1048576; omega
    have n0 : ((L.length : Int) == 0) = false := by rw [beq_eq_false_iff_ne]; omega
    clear hr hok
    go_wp2_with fail
    refine (hand_as HR.out _ _ _ e0 e1 w1 O1.out.ls rfl hmx.out (HE.out.keep hb1)).mono ?_
    rintro e w2 ⟨g2, c2, rfl, ho2, hb2⟩
    have hB2 : Below w.heap.size w w2 := hb1.trans (hb2.mono hb1.size)
    have R2 := Lib.hid ho2
    have O2 := Lib.hid (O1.out.keepB hb2 (Nat.le_refl _))
    clear ho2
    go_wp2_with fail
    refine (shand_as HR.out _ _ _ w2 O2.out.ls rfl hmx.out O2.out.lencap).mono ?_
    rintro e w3 ⟨g3, c3, rfl, ho3, hb3⟩
    have hB3 : Below w.heap.size w w3 := hB2.trans (hb3.mono hB2.size)
    have S3 := Lib.hid ho3
    have R3 := Lib.hid (R2.out.keepB hb3 (Nat.le_refl _))
    have O3 := Lib.hid (O2.out.keepB hb3 (Nat.le_refl _))
    clear ho3
    go_wp2_with fail
    refine (sameLs_same _ _ _ _ _ L w3 R3.out.ls S3.out.ls rfl hsm.out).mono ?_
    rintro e w4 ⟨rfl, hs4⟩
    have hB4 : Below w.heap.size w w4 := hB3.trans (hs4.below _)
    have R4 := Lib.hid (R3.out.keepB (hs4.below _) (Nat.le_refl _))
    have O4 := Lib.hid (O3.out.keepB (hs4.below _) (Nat.le_refl _))
    have S4 := Lib.hid (S3.out.keepB (hs4.below _) (Nat.le_refl _))
    go_wp2_with fail
    refine (lof_any _ _ _ L at_ w4 O4.out.ls rfl hmx.out).mono ?_
    rintro e w5 ⟨rfl, hb5⟩
    have hB5 : Below w.heap.size w w5 := hB4.trans (hb5.mono hB4.size)
    have HB6 : Hid (∀ o, Below w.heap.size w (w5.alloc o)) := fun o => hB5.trans ((alB w5 o).mono hB5.size)
    have HA6 : Hid (∀ o, Below w5.heap.size w5 (w5.alloc o)) := fun o => alB w5 o
    rw [HXL.out]
    have R5 := Lib.hid (R4.out.keepB hb5 (Nat.le_refl _))
    have O5 := Lib.hid (O4.out.keepB hb5 (Nat.le_refl _))
    go_wp2_with fail
    refine (sameLs_same _ _ _ _ _ L _ (R5.out.ls.keepB (HA6.out _) (Nat.le_refl _)) (O5.out.ls.keepB (HA6.out _) (Nat.le_refl _)) rfl hsm.out).mono ?_
    rintro e w7 ⟨rfl, hs7⟩
    go_wp2
    go_ret
    exact ⟨rfl, (HB6.out _).trans (hs7.below _)⟩
  · have HXL : Hid (ofR L at_ = (ofL L at_, true)) := by
      obtain ⟨hv, _, hat, _⟩ := (handOk_iff _ _ _ _ _).1 hok
      exact ofR_yes hv ((ptB_iff _).2 hat)
    have hl1 : 1 ≤ L.length := (lv_len ((handOk_iff _ _ _ _ _).1 hok).1).1
    have HR := Lib.hid hr
    have c1 : ((ofL L at_).o != fr) = false := by simp; exact ho
    have c2 : ((ofL L at_).e != at_) = false := by simp; exact he
    clear ho he
    obtain ⟨R, hQ⟩ : ∃ R, (L.set (atL L at_) ⟨at_, tgt, ut⟩) = R := ⟨_, rfl⟩
    have hr' : handR L fr at_ tgt ut = (R, true) := by rw [hr, hQ]
    have HR := Lib.hid hr'
    have hll : 1 ≤ R.length ∧ R.length ≤ 12 := by obtain ⟨_, _, hvr, _⟩ := hand_done hr'; exact lv_len hvr
    obtain ⟨hll1, hll2⟩ := hll
    have hsm : Hid (R.length ≤ 1048576) := by show _ ≤ 1048576; omega
    have n0 : ((R.length : Int) == 0) = false := by rw [beq_eq_false_iff_ne]; omega
    clear hr hr' hok hQ
    go_wp2_with fail
    refine (hand_as HR.out _ _ _ e0 e1 w1 O1.out.ls rfl hmx.out (HE.out.keep hb1)).mono ?_
    rintro e w2 ⟨g2, c2, rfl, ho2, hb2⟩
    have hB2 : Below w.heap.size w w2 := hb1.trans (hb2.mono hb1.size)
    have R2 := Lib.hid ho2
    have O2 := Lib.hid (O1.out.keepB hb2 (Nat.le_refl _))
    clear ho2
    go_wp2_with fail
    refine (shand_as HR.out _ _ _ w2 O2.out.ls rfl hmx.out O2.out.lencap).mono ?_
    rintro e w3 ⟨g3, c3, rfl, ho3, hb3⟩
    have hB3 : Below w.heap.size w w3 := hB2.trans (hb3.mono hB2.size)
    have S3 := Lib.hid ho3
    have R3 := Lib.hid (R2.out.keepB hb3 (Nat.le_refl _))
    have O3 := Lib.hid (O2.out.keepB hb3 (Nat.le_refl _))
    clear ho3
    go_wp2_with fail
    refine (sameLs_same _ _ _ _ _ R w3 R3.out.ls S3.out.ls rfl hsm.out).mono ?_
    rintro e w4 ⟨rfl, hs4⟩
    have hB4 : Below w.heap.size w w4 := hB3.trans (hs4.below _)
    have R4 := Lib.hid (R3.out.keepB (hs4.below _) (Nat.le_refl _))
    have O4 := Lib.hid (O3.out.keepB (hs4.below _) (Nat.le_refl _))
    have S4 := Lib.hid (S3.out.keepB (hs4.below _) (Nat.le_refl _))
    go_wp2_with fail
    refine (lof_any _ _ _ L at_ w4 O4.out.ls rfl hmx.out).mono ?_
    rintro e w5 ⟨rfl, hb5⟩
    have hB5 : Below w.heap.size w w5 := hB4.trans (hb5.mono hB4.size)
    have HB6 : Hid (∀ o, Below w.heap.size w (w5.alloc o)) := fun o => hB5.trans ((alB w5 o).mono hB5.size)
    have HA6 : Hid (∀ o, Below w5.heap.size w5 (w5.alloc o)) := fun o => alB w5 o
    rw [HXL.out]
    go_wp2
    go_ret
    exact ⟨rfl, HB6.out _⟩
  · have HXL : Hid (ofR L at_ = (ofL L at_, true)) := by
      obtain ⟨hv, _, hat, _⟩ := (handOk_iff _ _ _ _ _).1 hok
      exact ofR_yes hv ((ptB_iff _).2 hat)
    have hl1 : 1 ≤ L.length := (lv_len ((handOk_iff _ _ _ _ _).1 hok).1).1
    have HR := Lib.hid hr
    have c1 : ((ofL L at_).o != fr) = false := by simp; exact ho
    have c2 : ((ofL L at_).e != at_) = true := by simp; exact he
    have c3 : ((L.length : Int) == 12) = false := by rw [beq_eq_false_iff_ne]; omega
    clear ho he
    obtain ⟨R, hQ⟩ : ∃ R, (insL L (fdL L at_) ⟨at_, tgt, ut⟩) = R := ⟨_, rfl⟩
    have hr' : handR L fr at_ tgt ut = (R, true) := by rw [hr, hQ]
    have HR := Lib.hid hr'
    have hll : 1 ≤ R.length ∧ R.length ≤ 12 := by obtain ⟨_, _, hvr, _⟩ := hand_done hr'; exact lv_len hvr
    obtain ⟨hll1, hll2⟩ := hll
    have hsm : Hid (R.length ≤ 1048576) := by show _ ≤ 1048576; omega
    have n0 : ((R.length : Int) == 0) = false := by rw [beq_eq_false_iff_ne]; omega
    clear hr hr' hok hQ
    go_wp2_with fail
    refine (hand_as HR.out _ _ _ e0 e1 w1 O1.out.ls rfl hmx.out (HE.out.keep hb1)).mono ?_
    rintro e w2 ⟨g2, c2, rfl, ho2, hb2⟩
    have hB2 : Below w.heap.size w w2 := hb1.trans (hb2.mono hb1.size)
    have R2 := Lib.hid ho2
    have O2 := Lib.hid (O1.out.keepB hb2 (Nat.le_refl _))
    clear ho2
    go_wp2_with fail
    refine (shand_as HR.out _ _ _ w2 O2.out.ls rfl hmx.out O2.out.lencap).mono ?_
    rintro e w3 ⟨g3, c3, rfl, ho3, hb3⟩
    have hB3 : Below w.heap.size w w3 := hB2.trans (hb3.mono hB2.size)
    have S3 := Lib.hid ho3
    have R3 := Lib.hid (R2.out.keepB hb3 (Nat.le_refl _))
    have O3 := Lib.hid (O2.out.keepB hb3 (Nat.le_refl _))
    clear ho3
    go_wp2_with fail
    refine (sameLs_same _ _ _ _ _ R w3 R3.out.ls S3.out.ls rfl hsm.out).mono ?_
    rintro e w4 ⟨rfl, hs4⟩
    have hB4 : Below w.heap.size w w4 := hB3.trans (hs4.below _)
    have R4 := Lib.hid (R3.out.keepB (hs4.below _) (Nat.le_refl _))
    have O4 := Lib.hid (O3.out.keepB (hs4.below _) (Nat.le_refl _))
    have S4 := Lib.hid (S3.out.keepB (hs4.below _) (Nat.le_refl _))
    go_wp2_with fail
    refine (lof_any _ _ _ L at_ w4 O4.out.ls rfl hmx.out).mono ?_
    rintro e w5 ⟨rfl, hb5⟩
    have hB5 : Below w.heap.size w w5 := hB4.trans (hb5.mono hB4.size)
    have HB6 : Hid (∀ o, Below w.heap.size w (w5.alloc o)) := fun o => hB5.trans ((alB w5 o).mono hB5.size)
    have HA6 : Hid (∀ o, Below w5.heap.size w5 (w5.alloc o)) := fun o => alB w5 o
    rw [HXL.out]
    go_wp2
    go_ret
    exact ⟨rfl, HB6.out _⟩
end Go.Proofs.YtoaamamconcieaaDoor
