/- The walks of the laws of handing over. -/
import Derived.Test.YtoaamamconcieabDoorLsDraw4
import Derived.Test.YtoaamamconcieabDoorLsES
import Derived.Test.YtoaamamconcieabDoorLsHMath
namespace Go.Proofs.YtoaamamconcieabDoor
open Go.RowKit
set_option linter.unusedVariables false

theorem hand_as {L R : List Ls} {ok : Bool} {x1 x2 x3 x4 : Int} (hR : handR L x1 x2 x3 x4 = (R, ok)) (a : Option Addr) (len cap : Nat) (e0 e1 : Addr) (w : World) (h : LsAt w a L) (hz : L.length = len) (hm : len ≤ maxLen) (he : Errs w e0 e1) :
    Calls Tryd.prog 10 #[.slice a len cap, .int .i64 x1, .int .i64 x2, .int .i64 x3, .int .i64 x4] w fun e w' => ∃ g c, e = .returned (.tuple #[.slice (some ⟨g, 0, none⟩) R.length c, .bool ok]) ∧ OwnS w' w.heap.size g c R ∧ Below w.heap.size w w' := by
  have h0 := hand_any a len cap L x1 x2 x3 x4 e0 e1 w h hz hm he
  rw [hR] at h0; exact h0
theorem shand_as {L R : List Ls} {ok : Bool} {x1 x2 x3 x4 : Int} (hR : handR L x1 x2 x3 x4 = (R, ok)) (b len cap : Nat) (w : World) (h : LsAt w (some ⟨b, 0, none⟩) L) (hz : L.length = len) (hm : len ≤ maxLen) (hc : len ≤ cap) :
    Calls Tryd.prog 11 #[.slice (some ⟨b, 0, none⟩) len cap, .int .i64 x1, .int .i64 x2, .int .i64 x3, .int .i64 x4] w fun e w' => ∃ g c, e = .returned (.tuple #[.slice (some ⟨g, 0, none⟩) R.length c, .bool ok]) ∧ OwnS w' w.heap.size g c R ∧ Below w.heap.size w w' := by
  have h0 := shand_any b len cap L x1 x2 x3 x4 w h hz hm hc
  rw [hR] at h0; exact h0
theorem OwnS.lencap {w : World} {base g cap : Nat} {L : List Ls} (h : OwnS w base g cap L) : L.length ≤ cap := by obtain ⟨_, _, _, _, hh, _⟩ := h.blk; exact hh


set_option maxHeartbeats 4000000 in
theorem handCount (s : Option Addr) (len cap : Nat) (z : List Int) (e0 e1 : Addr) (w : World) (h : RowIn .u8 w s len cap z) (he : Errs w e0 e1) :
    Calls Tryd.prog 3 #[.slice s len cap] w fun e w' => e = .returned (.bool true) ∧ Below w.heap.size w w' := by
  have hb := bytes_of_row h
  have hm : len ≤ maxLen := Nat.le_trans hb.1 hb.2.1
  unfold maxLen at hm
  clear h
  have HE := Lib.hid he
  clear he
  by_cases hl : 1048576 < len
  · go_enter Tryd.func3, Tryd.ntmps3
    go_wp2
    go_ret
    exact ⟨rfl, Below.refl _ _⟩
  have hlB : decide ((1048576 : Int) < (len : Int)) = false := by simp; omega
  have HBY := Lib.hid hb
  clear hb
  go_enter Tryd.func3, Tryd.ntmps3
  go_wp2_with fail
  refine (drawLeaseHand s len cap w HBY.out).mono ?_
  rintro e w1 ⟨g, c, L, fr, at_, tgt, ut, rfl, hl12, ho, hb1⟩
  have O1 := Lib.hid ho
  have hmx : Hid (L.length ≤ maxLen) := by show _ ≤ maxLen; unfold maxLen; omega
  clear ho
  obtain ⟨R, ok, hR⟩ : ∃ R ok, handR L fr at_ tgt ut = (R, ok) := ⟨_, _, rfl⟩
  have HR := Lib.hid hR
  have hsm : Hid (R.length ≤ 1048576) := by show _ ≤ 1048576; have := handR_len L fr at_ tgt ut; rw [hR] at this; simp at this; omega
  have hmr : Hid (R.length ≤ maxLen) := by show _ ≤ maxLen; have := hsm.out; unfold maxLen; omega
  cases ok
  · clear hR
    go_wp2_with fail
    refine (hand_as HR.out _ _ _ e0 e1 w1 O1.out.ls rfl hmx.out (HE.out.keep hb1)).mono ?_
    rintro e w2 ⟨g2, c2, rfl, ho2, hb2⟩
    have hB2 : Below w.heap.size w w2 := hb1.trans (hb2.mono hb1.size)
    have R2 := Lib.hid ho2
    have O2 := Lib.hid (O1.out.keepB hb2 (Nat.le_refl _))
    clear ho2
    go_wp2_with fail
    refine (shand_as HR.out _ _ _ w2 O2.out.ls rfl hmx.out O2.out.lencap).mono ?_
    rintro e w3 ⟨g3, c3, rfl, ho3, hb3⟩
    have hB3 : Below w.heap.size w w3 := hB2.trans (hb3.mono hB2.size)
    have S3 := Lib.hid ho3
    have R3 := Lib.hid (R2.out.keepB hb3 (Nat.le_refl _))
    have O3 := Lib.hid (O2.out.keepB hb3 (Nat.le_refl _))
    clear ho3
    go_wp2_with fail
    refine (sameLs_same _ _ _ _ _ R w3 R3.out.ls S3.out.ls rfl hsm.out).mono ?_
    rintro e w4 ⟨rfl, hs4⟩
    have hB4 : Below w.heap.size w w4 := hB3.trans (hs4.below _)
    have R4 := Lib.hid (R3.out.keepB (hs4.below _) (Nat.le_refl _))
    have O4 := Lib.hid (O3.out.keepB (hs4.below _) (Nat.le_refl _))
    have S4 := Lib.hid (S3.out.keepB (hs4.below _) (Nat.le_refl _))
    go_wp2_with fail
    refine (sameLs_same _ _ _ _ _ R w4 R4.out.ls S4.out.ls rfl hsm.out).mono ?_
    rintro e w5 ⟨rfl, hs5⟩
    go_wp2
    go_ret
    exact ⟨rfl, hB4.trans (hs5.below _)⟩
  obtain ⟨hok, how, hvr, hof, hlen, _⟩ := hand_done hR
  obtain ⟨hv, hfr, hat, hto, hut⟩ := (handOk_iff _ _ _ _ _).1 hok
  have HXL : Hid (ofR L at_ = (ofL L at_, true)) := ofR_yes hv ((ptB_iff _).2 hat)
  have HXR : Hid (ofR R at_ = (⟨at_, tgt, ut⟩, true)) := by show _ = _; rw [ofR_yes hvr ((ptB_iff _).2 hat), hof]
  have HOW := Lib.hid how
  by_cases hwe : (ofL L at_).e = at_
  · rw [if_pos hwe] at hlen
    have c1 : ((ofL L at_).e == at_) = true := by simp [hwe]
    have c2 : ((R.length : Int) == (L.length : Int)) = true := by simp [hlen]
    clear hof hlen how hR hok hv hvr hwe
    go_wp2_with fail
    refine (hand_as HR.out _ _ _ e0 e1 w1 O1.out.ls rfl hmx.out (HE.out.keep hb1)).mono ?_
    rintro e w2 ⟨g2, c2, rfl, ho2, hb2⟩
    have hB2 : Below w.heap.size w w2 := hb1.trans (hb2.mono hb1.size)
    have R2 := Lib.hid ho2
    have O2 := Lib.hid (O1.out.keepB hb2 (Nat.le_refl _))
    clear ho2
    go_wp2_with fail
    refine (shand_as HR.out _ _ _ w2 O2.out.ls rfl hmx.out O2.out.lencap).mono ?_
    rintro e w3 ⟨g3, c3, rfl, ho3, hb3⟩
    have hB3 : Below w.heap.size w w3 := hB2.trans (hb3.mono hB2.size)
    have S3 := Lib.hid ho3
    have R3 := Lib.hid (R2.out.keepB hb3 (Nat.le_refl _))
    have O3 := Lib.hid (O2.out.keepB hb3 (Nat.le_refl _))
    clear ho3
    go_wp2_with fail
    refine (sameLs_same _ _ _ _ _ R w3 R3.out.ls S3.out.ls rfl hsm.out).mono ?_
    rintro e w4 ⟨rfl, hs4⟩
    have hB4 : Below w.heap.size w w4 := hB3.trans (hs4.below _)
    have R4 := Lib.hid (R3.out.keepB (hs4.below _) (Nat.le_refl _))
    have O4 := Lib.hid (O3.out.keepB (hs4.below _) (Nat.le_refl _))
    have S4 := Lib.hid (S3.out.keepB (hs4.below _) (Nat.le_refl _))
    go_wp2_with fail
    refine (lof_any _ _ _ L at_ w4 O4.out.ls rfl hmx.out).mono ?_
    rintro e w5 ⟨rfl, hb5⟩
    have hB5 : Below w.heap.size w w5 := hB4.trans (hb5.mono hB4.size)
    have HB6 : Hid (∀ o, Below w.heap.size w (w5.alloc o)) := fun o => hB5.trans ((alB w5 o).mono hB5.size)
    rw [HXL.out]
    go_wp2
    go_ret
    exact ⟨rfl, HB6.out _⟩
  · rw [if_neg hwe] at hlen
    have c1 : ((ofL L at_).e == at_) = false := by simp [hwe]
    have c2 : ((R.length : Int) == (L.length : Int) + 1) = true := by simp [hlen]
    clear hof hlen how hR hok hv hvr hwe
    go_wp2_with fail
    refine (hand_as HR.out _ _ _ e0 e1 w1 O1.out.ls rfl hmx.out (HE.out.keep hb1)).mono ?_
    rintro e w2 ⟨g2, c2, rfl, ho2, hb2⟩
    have hB2 : Below w.heap.size w w2 := hb1.trans (hb2.mono hb1.size)
    have R2 := Lib.hid ho2
    have O2 := Lib.hid (O1.out.keepB hb2 (Nat.le_refl _))
    clear ho2
    go_wp2_with fail
    refine (shand_as HR.out _ _ _ w2 O2.out.ls rfl hmx.out O2.out.lencap).mono ?_
    rintro e w3 ⟨g3, c3, rfl, ho3, hb3⟩
    have hB3 : Below w.heap.size w w3 := hB2.trans (hb3.mono hB2.size)
    have S3 := Lib.hid ho3
    have R3 := Lib.hid (R2.out.keepB hb3 (Nat.le_refl _))
    have O3 := Lib.hid (O2.out.keepB hb3 (Nat.le_refl _))
    clear ho3
    go_wp2_with fail
    refine (sameLs_same _ _ _ _ _ R w3 R3.out.ls S3.out.ls rfl hsm.out).mono ?_
    rintro e w4 ⟨rfl, hs4⟩
    have hB4 : Below w.heap.size w w4 := hB3.trans (hs4.below _)
    have R4 := Lib.hid (R3.out.keepB (hs4.below _) (Nat.le_refl _))
    have O4 := Lib.hid (O3.out.keepB (hs4.below _) (Nat.le_refl _))
    have S4 := Lib.hid (S3.out.keepB (hs4.below _) (Nat.le_refl _))
    go_wp2_with fail
    refine (lof_any _ _ _ L at_ w4 O4.out.ls rfl hmx.out).mono ?_
    rintro e w5 ⟨rfl, hb5⟩
    have hB5 : Below w.heap.size w w5 := hB4.trans (hb5.mono hB4.size)
    have HB6 : Hid (∀ o, Below w.heap.size w (w5.alloc o)) := fun o => hB5.trans ((alB w5 o).mono hB5.size)
    rw [HXL.out]
    go_wp2
    go_ret
    exact ⟨rfl, HB6.out _⟩

set_option maxHeartbeats 4000000 in
theorem handBack (s : Option Addr) (len cap : Nat) (z : List Int) (e0 e1 : Addr) (w : World) (h : RowIn .u8 w s len cap z) (he : Errs w e0 e1) :
    Calls Tryd.prog 4 #[.slice s len cap] w fun e w' => e = .returned (.bool true) ∧ Below w.heap.size w w' := by
  have hb := bytes_of_row h
  have hm : len ≤ maxLen := Nat.le_trans hb.1 hb.2.1
  unfold maxLen at hm
  clear h
  have HE := Lib.hid he
  clear he
  by_cases hl : 1048576 < len
  · go_enter Tryd.func4, Tryd.ntmps4
    go_wp2
    go_ret
    exact ⟨rfl, Below.refl _ _⟩
  have hlB : decide ((1048576 : Int) < (len : Int)) = false := by simp; omega
  have HBY := Lib.hid hb
  clear hb
  go_enter Tryd.func4, Tryd.ntmps4
  go_wp2_with fail
  refine (drawLeaseHand s len cap w HBY.out).mono ?_
  rintro e w1 ⟨g, c, L, fr, at_, tgt, ut, rfl, hl12, ho, hb1⟩
  have O1 := Lib.hid ho
  have hmx : Hid (L.length ≤ maxLen) := by show _ ≤ maxLen; unfold maxLen; omega
  clear ho
  obtain ⟨R, ok, hR⟩ : ∃ R ok, handR L fr at_ tgt ut = (R, ok) := ⟨_, _, rfl⟩
  have HR := Lib.hid hR
  have hsm : Hid (R.length ≤ 1048576) := by show _ ≤ 1048576; have := handR_len L fr at_ tgt ut; rw [hR] at this; simp at this; omega
  have hmr : Hid (R.length ≤ maxLen) := by show _ ≤ maxLen; have := hsm.out; unfold maxLen; omega
  cases ok
  · clear hR
    go_wp2_with fail
    refine (hand_as HR.out _ _ _ e0 e1 w1 O1.out.ls rfl hmx.out (HE.out.keep hb1)).mono ?_
    rintro e w2 ⟨g2, c2, rfl, ho2, hb2⟩
    have hB2 : Below w.heap.size w w2 := hb1.trans (hb2.mono hb1.size)
    have R2 := Lib.hid ho2
    have O2 := Lib.hid (O1.out.keepB hb2 (Nat.le_refl _))
    clear ho2
    go_wp2_with fail
    refine (shand_as HR.out _ _ _ w2 O2.out.ls rfl hmx.out O2.out.lencap).mono ?_
    rintro e w3 ⟨g3, c3, rfl, ho3, hb3⟩
    have hB3 : Below w.heap.size w w3 := hB2.trans (hb3.mono hB2.size)
    have S3 := Lib.hid ho3
    have R3 := Lib.hid (R2.out.keepB hb3 (Nat.le_refl _))
    have O3 := Lib.hid (O2.out.keepB hb3 (Nat.le_refl _))
    clear ho3
    go_wp2_with fail
    refine (sameLs_same _ _ _ _ _ R w3 R3.out.ls S3.out.ls rfl hsm.out).mono ?_
    rintro e w4 ⟨rfl, hs4⟩
    have hB4 : Below w.heap.size w w4 := hB3.trans (hs4.below _)
    have R4 := Lib.hid (R3.out.keepB (hs4.below _) (Nat.le_refl _))
    have O4 := Lib.hid (O3.out.keepB (hs4.below _) (Nat.le_refl _))
    have S4 := Lib.hid (S3.out.keepB (hs4.below _) (Nat.le_refl _))
    go_wp2_with fail
    refine (sameLs_same _ _ _ _ _ R w4 R4.out.ls S4.out.ls rfl hsm.out).mono ?_
    rintro e w5 ⟨rfl, hs5⟩
    go_wp2
    go_ret
    exact ⟨rfl, hB4.trans (hs5.below _)⟩
  obtain ⟨hok, how, hvr, hof, hlen, _⟩ := hand_done hR
  obtain ⟨hv, hfr, hat, hto, hut⟩ := (handOk_iff _ _ _ _ _).1 hok
  have HXL : Hid (ofR L at_ = (ofL L at_, true)) := ofR_yes hv ((ptB_iff _).2 hat)
  have HXR : Hid (ofR R at_ = (⟨at_, tgt, ut⟩, true)) := by show _ = _; rw [ofR_yes hvr ((ptB_iff _).2 hat), hof]
  have HOW := Lib.hid how
  obtain ⟨hb1', hb2'⟩ := hand_back hR
  obtain ⟨u, hu⟩ : ∃ u, (ofL L at_).u = u := ⟨_, rfl⟩
  rw [hu] at hb1' hb2'
  have HU := Lib.hid hu
  obtain ⟨Q, hQ⟩ : ∃ Q, R.set (atL R at_) ⟨at_, fr, u⟩ = Q := ⟨_, rfl⟩
  rw [hQ] at hb1' hb2'
  have hmq : Hid (Q.length ≤ maxLen) := by show _ ≤ maxLen; rw [← hQ, List.length_set]; exact hmr.out
  have HQ1 := Lib.hid hb1'
  have HKE := Lib.hid hb2'
  clear hof hlen how hR hok hv hvr hu hQ hb1' hb2'
  go_wp2_with fail
  refine (hand_as HR.out _ _ _ e0 e1 w1 O1.out.ls rfl hmx.out (HE.out.keep hb1)).mono ?_
  rintro e w2 ⟨g2, c2, rfl, ho2, hb2⟩
  have hB2 : Below w.heap.size w w2 := hb1.trans (hb2.mono hb1.size)
  have R2 := Lib.hid ho2
  have O2 := Lib.hid (O1.out.keepB hb2 (Nat.le_refl _))
  clear ho2
  go_wp2_with fail
  refine (shand_as HR.out _ _ _ w2 O2.out.ls rfl hmx.out O2.out.lencap).mono ?_
  rintro e w3 ⟨g3, c3, rfl, ho3, hb3⟩
  have hB3 : Below w.heap.size w w3 := hB2.trans (hb3.mono hB2.size)
  have S3 := Lib.hid ho3
  have R3 := Lib.hid (R2.out.keepB hb3 (Nat.le_refl _))
  have O3 := Lib.hid (O2.out.keepB hb3 (Nat.le_refl _))
  clear ho3
  go_wp2_with fail
  refine (sameLs_same _ _ _ _ _ R w3 R3.out.ls S3.out.ls rfl hsm.out).mono ?_
  rintro e w4 ⟨rfl, hs4⟩
  have hB4 : Below w.heap.size w w4 := hB3.trans (hs4.below _)
  have R4 := Lib.hid (R3.out.keepB (hs4.below _) (Nat.le_refl _))
  have O4 := Lib.hid (O3.out.keepB (hs4.below _) (Nat.le_refl _))
  have S4 := Lib.hid (S3.out.keepB (hs4.below _) (Nat.le_refl _))
  go_wp2_with fail
  refine (holder_any _ _ _ L at_ w4 O4.out.ls rfl hmx.out).mono ?_
  rintro e w5 ⟨rfl, hb5⟩
  have hB5 : Below w.heap.size w w5 := hB4.trans (hb5.mono hB4.size)
  have R5 := Lib.hid (R4.out.keepB hb5 (Nat.le_refl _))
  have O5 := Lib.hid (O4.out.keepB hb5 (Nat.le_refl _))
  rw [HXL.out]
  simp only [HU.out]
  go_wp2_with fail
  refine (hand_as HQ1.out _ _ _ e0 e1 w5 R5.out.ls rfl hmr.out (HE.out.keep hB5)).mono ?_
  rintro e w6 ⟨g6, c6, rfl, ho6, hb6⟩
  have hB6 : Below w.heap.size w w6 := hB5.trans (hb6.mono hB5.size)
  have Q6 := Lib.hid ho6
  have O6 := Lib.hid (O5.out.keepB hb6 (Nat.le_refl _))
  clear ho6
  go_wp2_with fail
  refine (keys_any _ _ _ Q fr w6 Q6.out.ls rfl hmq.out).mono ?_
  rintro e w7 ⟨rfl, hb7⟩
  have hB7 : Below w.heap.size w w7 := hB6.trans (hb7.mono hB6.size)
  have O7 := Lib.hid (O6.out.keepB hb7 (Nat.le_refl _))
  rw [HKE.out]
  go_wp2_with fail
  refine (keys_any _ _ _ L fr w7 O7.out.ls rfl hmx.out).mono ?_
  rintro e w8 ⟨rfl, hb8⟩
  go_wp2
  go_ret
  exact ⟨rfl, hB7.trans (hb8.mono hB7.size)⟩

set_option maxHeartbeats 4000000 in
theorem handSelf (s : Option Addr) (len cap : Nat) (z : List Int) (e0 e1 : Addr) (w : World) (h : RowIn .u8 w s len cap z) (he : Errs w e0 e1) :
    Calls Tryd.prog 8 #[.slice s len cap] w fun e w' => e = .returned (.bool true) ∧ Below w.heap.size w w' := by
  have hb := bytes_of_row h
  have hm : len ≤ maxLen := Nat.le_trans hb.1 hb.2.1
  unfold maxLen at hm
  clear h
  have HE := Lib.hid he
  clear he
  by_cases hl : 1048576 < len
  · go_enter Tryd.func8, Tryd.ntmps8
    go_wp2
    go_ret
    exact ⟨rfl, Below.refl _ _⟩
  have hlB : decide ((1048576 : Int) < (len : Int)) = false := by simp; omega
  have HBY := Lib.hid hb
  clear hb
  go_enter Tryd.func8, Tryd.ntmps8
  go_wp2_with fail
  refine (drawLeaseHand s len cap w HBY.out).mono ?_
  rintro e w1 ⟨g, c, L, fr, at_, tgt, ut, rfl, hl12, ho, hb1⟩
  have O1 := Lib.hid ho
  have hmx : Hid (L.length ≤ maxLen) := by show _ ≤ maxLen; unfold maxLen; omega
  clear ho
  obtain ⟨R, ok, hR⟩ : ∃ R ok, handR L fr at_ tgt ut = (R, ok) := ⟨_, _, rfl⟩
  have HR := Lib.hid hR
  have hsm : Hid (R.length ≤ 1048576) := by show _ ≤ 1048576; have := handR_len L fr at_ tgt ut; rw [hR] at this; simp at this; omega
  have hmr : Hid (R.length ≤ maxLen) := by show _ ≤ maxLen; have := hsm.out; unfold maxLen; omega
  cases ok
  · clear hR
    go_wp2_with fail
    refine (hand_as HR.out _ _ _ e0 e1 w1 O1.out.ls rfl hmx.out (HE.out.keep hb1)).mono ?_
    rintro e w2 ⟨g2, c2, rfl, ho2, hb2⟩
    have hB2 : Below w.heap.size w w2 := hb1.trans (hb2.mono hb1.size)
    have R2 := Lib.hid ho2
    have O2 := Lib.hid (O1.out.keepB hb2 (Nat.le_refl _))
    clear ho2
    go_wp2_with fail
    refine (shand_as HR.out _ _ _ w2 O2.out.ls rfl hmx.out O2.out.lencap).mono ?_
    rintro e w3 ⟨g3, c3, rfl, ho3, hb3⟩
    have hB3 : Below w.heap.size w w3 := hB2.trans (hb3.mono hB2.size)
    have S3 := Lib.hid ho3
    have R3 := Lib.hid (R2.out.keepB hb3 (Nat.le_refl _))
    have O3 := Lib.hid (O2.out.keepB hb3 (Nat.le_refl _))
    clear ho3
    go_wp2_with fail
    refine (sameLs_same _ _ _ _ _ R w3 R3.out.ls S3.out.ls rfl hsm.out).mono ?_
    rintro e w4 ⟨rfl, hs4⟩
    have hB4 : Below w.heap.size w w4 := hB3.trans (hs4.below _)
    have R4 := Lib.hid (R3.out.keepB (hs4.below _) (Nat.le_refl _))
    have O4 := Lib.hid (O3.out.keepB (hs4.below _) (Nat.le_refl _))
    have S4 := Lib.hid (S3.out.keepB (hs4.below _) (Nat.le_refl _))
    go_wp2_with fail
    refine (sameLs_same _ _ _ _ _ R w4 R4.out.ls S4.out.ls rfl hsm.out).mono ?_
    rintro e w5 ⟨rfl, hs5⟩
    go_wp2
    go_ret
    exact ⟨rfl, hB4.trans (hs5.below _)⟩
  obtain ⟨hok, how, hvr, hof, hlen, _⟩ := hand_done hR
  obtain ⟨hv, hfr, hat, hto, hut⟩ := (handOk_iff _ _ _ _ _).1 hok
  have HXL : Hid (ofR L at_ = (ofL L at_, true)) := ofR_yes hv ((ptB_iff _).2 hat)
  have HXR : Hid (ofR R at_ = (⟨at_, tgt, ut⟩, true)) := by show _ = _; rw [ofR_yes hvr ((ptB_iff _).2 hat), hof]
  have HOW := Lib.hid how
  obtain ⟨Q, hQ⟩ := hand_self hR
  obtain ⟨_, _, hvq, hofq, hlenq, _⟩ := hand_done hQ
  have HQ1 := Lib.hid hQ
  have HXQ : Hid (ofR Q at_ = (⟨at_, fr, ut⟩, true)) := by show _ = _; rw [ofR_yes hvq ((ptB_iff _).2 hat), hofq]
  have HKE : Hid (keysI Q fr = keysI L fr) := hand_keep_keys hQ
  have hmq : Hid (Q.length ≤ maxLen) := by show _ ≤ maxLen; have := (lv_len hvq).2; unfold maxLen; omega
  clear hof hlen how hR hok hv hvr hQ hofq hlenq hvq
  go_wp2_with fail
  refine (hand_as HR.out _ _ _ e0 e1 w1 O1.out.ls rfl hmx.out (HE.out.keep hb1)).mono ?_
  rintro e w2 ⟨g2, c2, rfl, ho2, hb2⟩
  have hB2 : Below w.heap.size w w2 := hb1.trans (hb2.mono hb1.size)
  have R2 := Lib.hid ho2
  have O2 := Lib.hid (O1.out.keepB hb2 (Nat.le_refl _))
  clear ho2
  go_wp2_with fail
  refine (shand_as HR.out _ _ _ w2 O2.out.ls rfl hmx.out O2.out.lencap).mono ?_
  rintro e w3 ⟨g3, c3, rfl, ho3, hb3⟩
  have hB3 : Below w.heap.size w w3 := hB2.trans (hb3.mono hB2.size)
  have S3 := Lib.hid ho3
  have R3 := Lib.hid (R2.out.keepB hb3 (Nat.le_refl _))
  have O3 := Lib.hid (O2.out.keepB hb3 (Nat.le_refl _))
  clear ho3
  go_wp2_with fail
  refine (sameLs_same _ _ _ _ _ R w3 R3.out.ls S3.out.ls rfl hsm.out).mono ?_
  rintro e w4 ⟨rfl, hs4⟩
  have hB4 : Below w.heap.size w w4 := hB3.trans (hs4.below _)
  have R4 := Lib.hid (R3.out.keepB (hs4.below _) (Nat.le_refl _))
  have O4 := Lib.hid (O3.out.keepB (hs4.below _) (Nat.le_refl _))
  have S4 := Lib.hid (S3.out.keepB (hs4.below _) (Nat.le_refl _))
  go_wp2_with fail
  refine (hand_as HQ1.out _ _ _ e0 e1 w4 O4.out.ls rfl hmx.out (HE.out.keep hB4)).mono ?_
  rintro e w5 ⟨g5, c5, rfl, ho5, hb5⟩
  have hB5 : Below w.heap.size w w5 := hB4.trans (hb5.mono hB4.size)
  have Q5 := Lib.hid ho5
  have O5 := Lib.hid (O4.out.keepB hb5 (Nat.le_refl _))
  clear ho5
  go_wp2_with fail
  refine (holder_any _ _ _ Q at_ w5 Q5.out.ls rfl hmq.out).mono ?_
  rintro e w6 ⟨rfl, hb6⟩
  have hB6 : Below w.heap.size w w6 := hB5.trans (hb6.mono hB5.size)
  have Q6 := Lib.hid (Q5.out.keepB hb6 (Nat.le_refl _))
  have O6 := Lib.hid (O5.out.keepB hb6 (Nat.le_refl _))
  rw [HXQ.out]
  go_wp2_with fail
  refine (keys_any _ _ _ Q fr w6 Q6.out.ls rfl hmq.out).mono ?_
  rintro e w7 ⟨rfl, hb7⟩
  have hB7 : Below w.heap.size w w7 := hB6.trans (hb7.mono hB6.size)
  have O7 := Lib.hid (O6.out.keepB hb7 (Nat.le_refl _))
  rw [HKE.out]
  go_wp2_with fail
  refine (keys_any _ _ _ L fr w7 O7.out.ls rfl hmx.out).mono ?_
  rintro e w8 ⟨rfl, hb8⟩
  go_wp2
  go_ret
  exact ⟨rfl, hB7.trans (hb8.mono hB7.size)⟩

end Go.Proofs.YtoaamamconcieabDoor
