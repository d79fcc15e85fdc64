/- The walk of the law of the keys that are handed over. -/
import Derived.Test.YtoaamamconcieaaDoorLawsLh
import Derived.Laws.StructEq
namespace Go.Proofs.YtoaamamconcieaaDoor
open Go.RowKit
set_option linter.unusedVariables false

theorem ins_at {L : List Ls} {n : Ls} (k : Int) :
    (k ≤ n.e → fdL L k = fdL L n.e → ofL (insL L (fdL L n.e) n) k = n) ∧ (k ≤ n.e → fdL L k < fdL L n.e → ofL (insL L (fdL L n.e) n) k = gl L (fdL L k)) ∧
    (n.e < k → fdL L k < L.length → ofL (insL L (fdL L n.e) n) k = gl L (fdL L k)) ∧ (n.e < k → fdL L k = L.length → ofL (insL L (fdL L n.e) n) k = gl (insL L (fdL L n.e) n) 0) := by
  have hf := fd_le L n.e
  have hk := fd_le L k
  have hlen := insL_len hf n
  refine ⟨fun h1 h2 => ?_, fun h1 h2 => ?_, fun h1 h2 => ?_, fun h1 h2 => ?_⟩
  · have e : fdL (insL L (fdL L n.e) n) k = fdL L n.e := fd_eq (by omega) (fun i hi => by rw [ins_lt hf n hi]; exact fd_below (by omega)) (fun _ => by rw [ins_eq hf n]; exact h1)
    unfold ofL atL; rw [e, if_pos (by omega), ins_eq hf n]
  · have e : fdL (insL L (fdL L n.e) n) k = fdL L k := fd_eq (by omega) (fun i hi => by rw [ins_lt hf n (by omega)]; exact fd_below hi) (fun _ => by rw [ins_lt hf n h2]; exact fd_at (by omega))
    unfold ofL atL; rw [e, if_pos (by omega), ins_lt hf n h2]
  · have hfk : fdL L n.e ≤ fdL L k := by
      rcases Nat.lt_or_ge (fdL L k) (fdL L n.e) with h' | h'
      · have h3 := fd_below h'; have h4 := fd_at h2; omega
      · exact h'
    have e : fdL (insL L (fdL L n.e) n) k = fdL L k + 1 := fd_eq (by omega) (fun i hi => by
        rcases Nat.lt_trichotomy i (fdL L n.e) with h' | h' | h'
        · rw [ins_lt hf n h']; have := fd_below h'; omega
        · rw [h', ins_eq hf n]; exact h1
        · obtain ⟨j, rfl⟩ : ∃ j, i = j + 1 := ⟨i - 1, by omega⟩
          rw [ins_gt hf n (by omega)]; exact fd_below (by omega)) (fun _ => by rw [ins_gt hf n hfk]; exact fd_at h2)
    unfold ofL atL; rw [e, if_pos (by omega), ins_gt hf n hfk]
  · have e : fdL (insL L (fdL L n.e) n) k = L.length + 1 := fd_eq (by omega) (fun i hi => by
        rcases Nat.lt_trichotomy i (fdL L n.e) with h' | h' | h'
        · rw [ins_lt hf n h']; have := fd_below h'; omega
        · rw [h', ins_eq hf n]; exact h1
        · obtain ⟨j, rfl⟩ : ∃ j, i = j + 1 := ⟨i - 1, by omega⟩
          rw [ins_gt hf n (by omega)]; exact fd_below (by omega)) (fun h => by omega)
    unfold ofL atL; rw [e, if_neg (by omega)]
/-- the keys that are handed over -/
def partP (x : Ls) (at_ k : Int) : Prop := (x.e < at_ ∧ x.e < k ∧ k ≤ at_) ∨ (¬ x.e < at_ ∧ (k ≤ at_ ∨ x.e < k))
theorem hand_of {L M : List Ls} {fr at_ tgt ut : Int} (h : handR L fr at_ tgt ut = (M, true)) (k : Int) :
    (atL L k = atL L at_ → ofL L k = ofL L at_) ∧ (atL L k = atL L at_ → partP (ofL L at_) at_ k → (ofL M k).o = tgt ∧ (ofL M k).u = ut) ∧
    (¬ (atL L k = atL L at_ ∧ partP (ofL L at_) at_ k) → ofL M k = ofL L k) ∧ (¬ atL L k = atL L at_ → ¬ (ofL L k).e = (ofL L at_).e) := by
  have main : handOk L fr at_ tgt ut = true → (atL L k = atL L at_ → partP (ofL L at_) at_ k → (ofL M k).o = tgt ∧ (ofL M k).u = ut) → (¬ (atL L k = atL L at_ ∧ partP (ofL L at_) at_ k) → ofL M k = ofL L k) → (atL L k = atL L at_ → ofL L k = ofL L at_) ∧ (atL L k = atL L at_ → partP (ofL L at_) at_ k → (ofL M k).o = tgt ∧ (ofL M k).u = ut) ∧
    (¬ (atL L k = atL L at_ ∧ partP (ofL L at_) at_ k) → ofL M k = ofL L k) ∧ (¬ atL L k = atL L at_ → ¬ (ofL L k).e = (ofL L at_).e) := by
    intro hok h1 h2
    have hv := ((handOk_iff _ _ _ _ _).1 hok).1
    have hl := lv_len hv
    refine ⟨fun hh => by unfold ofL; rw [hh], h1, h2, fun hh he => hh ?_⟩
    have h4 := at_end hv (at_lt (L := L) (by omega) k)
    have h5 := at_end hv (at_lt (L := L) (by omega) at_)
    have he' : (gl L (atL L k)).e = (gl L (atL L at_)).e := he
    rw [he', h5] at h4; exact h4.symm
  rcases hand_ways L fr at_ tgt ut with ⟨_, hr⟩ | ⟨_, _, hr⟩ | ⟨_, _, _, _, hr⟩ | ⟨hk, ho, he, hr⟩ | ⟨hk, ho, he, hl, hr⟩
  · rw [hr] at h; simp at h
  · rw [hr] at h; simp at h
  · rw [hr] at h; simp at h
  · rw [hr] at h
    injection h with h
    subst h
    have hv := ((handOk_iff _ _ _ _ _).1 hk).1
    have hal := at_lt (L := L) (by have := lv_len hv; omega) at_
    have e := (sameE_set (L := L) (k := atL L at_) (x := ⟨at_, tgt, ut⟩) (by show at_ = _; exact he.symm)).at_ k
    have e2 : ofL (L.set (atL L at_) ⟨at_, tgt, ut⟩) k = gl (L.set (atL L at_) ⟨at_, tgt, ut⟩) (atL L k) := by show gl _ (atL _ k) = _; rw [← e]
    refine main hk (fun hh _ => ?_) (fun hh => ?_)
    · rw [e2, hh, gl_set_eq _ hal]; exact ⟨rfl, rfl⟩
    · have hne : ¬ atL L k = atL L at_ := fun h3 => hh ⟨h3, .inr ⟨by omega, by omega⟩⟩
      rw [e2, gl_set_ne _ (fun h => hne h.symm)]; rfl
  · rw [hr] at h
    injection h with h
    subst h
    have hv := ((handOk_iff _ _ _ _ _).1 hk).1
    have hn1 := (lv_len hv).1
    obtain ⟨i1, i2, i3, i4⟩ := ins_at (L := L) (n := ⟨at_, tgt, ut⟩) k
    simp only at i1 i2 i3 i4
    have hf := fd_le L at_
    have hfk := fd_le L k
    have hofk : fdL L k < L.length → atL L k = fdL L k := fun h => by unfold atL; rw [if_pos h]
    have hofk0 : ¬ fdL L k < L.length → atL L k = 0 := fun h => by unfold atL; rw [if_neg h]
    by_cases hfl : fdL L at_ < L.length
    · have ea : atL L at_ = fdL L at_ := by unfold atL; rw [if_pos hfl]
      have hxe : at_ < (ofL L at_).e := by
        have h3 := fd_at hfl
        have h4 : (ofL L at_).e = (gl L (fdL L at_)).e := by unfold ofL; rw [ea]
        omega
      have hxg : (ofL L at_).e = (gl L (fdL L at_)).e := by unfold ofL; rw [ea]
      have hp : partP (ofL L at_) at_ k ↔ (k ≤ at_ ∨ (ofL L at_).e < k) := ⟨fun h => by rcases h with h | h; omega; exact h.2, fun h => .inr ⟨by omega, h⟩⟩
      by_cases hka : k ≤ at_
      · have hle : fdL L k ≤ fdL L at_ := by
          rcases Nat.lt_or_ge (fdL L at_) (fdL L k) with h' | h'
          · have := fd_below h'; omega
          · exact h'
        by_cases hlt : fdL L k < fdL L at_
        · have e := hofk (by omega)
          refine main hk (fun hh _ => by omega) (fun _ => ?_)
          rw [i2 hka hlt]; unfold ofL; rw [e]
        · have hq : fdL L k = fdL L at_ := by omega
          refine main hk (fun _ _ => by rw [i1 hka hq]; exact ⟨rfl, rfl⟩) (fun hh => absurd ⟨?_, hp.2 (.inl hka)⟩ hh)
          rw [hofk (by omega), ea, hq]
      · by_cases hkl : fdL L k < L.length
        · have e := hofk hkl
          have h5 := fd_at hkl
          refine main hk (fun hh hpp => ?_) (fun _ => by rw [i3 (by omega) hkl]; unfold ofL; rw [e])
          rw [e, ea] at hh
          rw [hh] at h5
          rcases hp.1 hpp with h6 | h6 <;> omega
        · have e := hofk0 hkl
          have hq : fdL L k = L.length := by omega
          have h7 := fd_below (L := L) (key := k) (i := fdL L at_) (by omega)
          by_cases hf0 : fdL L at_ = 0
          · refine main hk (fun _ _ => ?_) (fun hh => absurd ⟨by rw [e, ea, hf0], hp.2 (.inr (by omega))⟩ hh)
            have h8 := ins_eq hf (⟨at_, tgt, ut⟩ : Ls)
            rw [i4 (by omega) hq]
            have h9 : gl (insL L (fdL L at_) ⟨at_, tgt, ut⟩) 0 = ⟨at_, tgt, ut⟩ := by
              conv => lhs; rw [← hf0]
              rw [hf0] at h8 ⊢; exact h8
            rw [h9]; exact ⟨rfl, rfl⟩
          · refine main hk (fun hh _ => by omega) (fun _ => ?_)
            rw [i4 (by omega) hq, ins_lt hf _ (by omega)]; unfold ofL; rw [e]
    · have hq0 : fdL L at_ = L.length := by omega
      have ea : atL L at_ = 0 := by unfold atL; rw [if_neg hfl]
      have hxg : (ofL L at_).e = (gl L 0).e := by unfold ofL; rw [ea]
      have hx0 := fd_below (L := L) (key := at_) (i := 0) (by omega)
      have hp : partP (ofL L at_) at_ k ↔ ((ofL L at_).e < k ∧ k ≤ at_) := ⟨fun h => by rcases h with h | h; exact h.2; omega, fun h => .inl ⟨by omega, h⟩⟩
      by_cases hka : k ≤ at_
      · by_cases hkl : fdL L k < L.length
        · have e := hofk hkl
          have h5 := fd_at hkl
          refine main hk (fun hh hpp => ?_) (fun _ => by rw [i2 hka (by omega)]; unfold ofL; rw [e])
          rw [e, ea] at hh
          rw [hh] at h5
          have := hp.1 hpp; omega
        · have e := hofk0 hkl
          have hq : fdL L k = L.length := by omega
          have h7 := fd_below (L := L) (key := k) (i := 0) (by omega)
          exact main hk (fun _ _ => by rw [i1 hka (by omega)]; exact ⟨rfl, rfl⟩) (fun hh => absurd ⟨by rw [e, ea], hp.2 ⟨by omega, hka⟩⟩ hh)
      · have hkl : ¬ fdL L k < L.length := fun hkl => by
          have h5 := fd_at hkl
          have h6 := fd_below (L := L) (key := at_) (i := fdL L k) (by omega)
          omega
        have e := hofk0 hkl
        refine main hk (fun _ hpp => by have := hp.1 hpp; omega) (fun _ => ?_)
        rw [i4 (by omega) (by omega), ins_lt hf _ (by omega)]; unfold ofL; rw [e]

set_option maxRecDepth 20000 in
set_option maxHeartbeats 8000000 in
theorem handKeys (s : Option Addr) (len cap : Nat) (z : List Int) (e0 e1 : Addr) (w : World) (h : RowIn .u8 w s len cap z) (he : Errs w e0 e1) :
    Calls Tryd.prog 5 #[.slice s len cap] w fun e w' => e = .returned (.bool true) ∧ Below w.heap.size w w' := by
  have hb := bytes_of_row h
  have hm : len ≤ maxLen := Nat.le_trans hb.1 hb.2.1
  unfold maxLen at hm
  clear h
  have HE := Lib.hid he
  clear he
  by_cases hl : 1048576 < len
  · go_enter Tryd.func5, Tryd.ntmps5
    go_wp2
    go_ret
    exact ⟨rfl, Below.refl _ _⟩
  have hlB : decide ((1048576 : Int) < (len : Int)) = false := by simp; omega
  have HBY := Lib.hid hb
  clear hb
  go_enter Tryd.func5, Tryd.ntmps5
  go_wp2_with fail
  refine (drawLeaseHand s len cap w HBY.out).mono ?_
  rintro e w1 ⟨g, c, L, fr, at_, tgt, ut, rfl, hl12, ho, hb1⟩
  have O1 := Lib.hid ho
  have hmx : Hid (L.length ≤ maxLen) := by show _ ≤ maxLen; unfold maxLen; omega
  clear ho
  have hgd : Tryd.prog.eqGuardType Tryd.prog.depth 35 = false := by kernel_rfl
  obtain ⟨R, ok, hR⟩ : ∃ R ok, handR L fr at_ tgt ut = (R, ok) := ⟨_, _, rfl⟩
  have HR := Lib.hid hR
  have hsm : Hid (R.length ≤ 1048576) := by show _ ≤ 1048576; have := handR_len L fr at_ tgt ut; rw [hR] at this; simp at this; omega
  have hmr : Hid (R.length ≤ maxLen) := by show _ ≤ maxLen; have := hsm.out; unfold maxLen; omega
  cases ok
  · clear hR
    go_wp2_with fail
    refine (hand_as HR.out _ _ _ e0 e1 w1 O1.out.ls rfl hmx.out (HE.out.keep hb1)).mono ?_
    rintro e w2 ⟨g2, c2, rfl, ho2, hb2⟩
    have hB2 : Below w.heap.size w w2 := hb1.trans (hb2.mono hb1.size)
    have R2 := Lib.hid ho2
    have O2 := Lib.hid (O1.out.keepB hb2 (Nat.le_refl _))
    clear ho2
    go_wp2_with fail
    refine (shand_as HR.out _ _ _ w2 O2.out.ls rfl hmx.out O2.out.lencap).mono ?_
    rintro e w3 ⟨g3, c3, rfl, ho3, hb3⟩
    have hB3 : Below w.heap.size w w3 := hB2.trans (hb3.mono hB2.size)
    have S3 := Lib.hid ho3
    have R3 := Lib.hid (R2.out.keepB hb3 (Nat.le_refl _))
    have O3 := Lib.hid (O2.out.keepB hb3 (Nat.le_refl _))
    clear ho3
    go_wp2_with fail
    refine (sameLs_same _ _ _ _ _ R w3 R3.out.ls S3.out.ls rfl hsm.out).mono ?_
    rintro e w4 ⟨rfl, hs4⟩
    have hB4 : Below w.heap.size w w4 := hB3.trans (hs4.below _)
    have R4 := Lib.hid (R3.out.keepB (hs4.below _) (Nat.le_refl _))
    have O4 := Lib.hid (O3.out.keepB (hs4.below _) (Nat.le_refl _))
    have S4 := Lib.hid (S3.out.keepB (hs4.below _) (Nat.le_refl _))
    go_wp2_with fail
    refine (sameLs_same _ _ _ _ _ R w4 R4.out.ls S4.out.ls rfl hsm.out).mono ?_
    rintro e w5 ⟨rfl, hs5⟩
    go_wp2
    go_ret
    exact ⟨rfl, hB4.trans (hs5.below _)⟩
  obtain ⟨hok, how, hvr, hof, hlen, hall⟩ := hand_done hR
  obtain ⟨hv, hfr, hat, hto, hut⟩ := (handOk_iff _ _ _ _ _).1 hok
  have HALL := Lib.hid (fun k : Int => hand_of hR k)
  obtain ⟨x, hx⟩ : ∃ x, ofL L at_ = x := ⟨_, rfl⟩
  have HXO := Lib.hid hx
  have HXL : Hid (ofR L at_ = (x, true)) := by show _ = _; rw [ofR_yes hv ((ptB_iff _).2 hat), hx]
  have HV := Lib.hid hv
  have HVR := Lib.hid hvr
  clear hof how hR hok hv hvr hlen hx hfr hto hut hall
  go_wp2_with fail
  refine (hand_as HR.out _ _ _ e0 e1 w1 O1.out.ls rfl hmx.out (HE.out.keep hb1)).mono ?_
  rintro e w2 ⟨g2, c2, rfl, ho2, hb2⟩
  have hB2 : Below w.heap.size w w2 := hb1.trans (hb2.mono hb1.size)
  have R2 := Lib.hid ho2
  have O2 := Lib.hid (O1.out.keepB hb2 (Nat.le_refl _))
  clear ho2
  go_wp2_with fail
  refine (shand_as HR.out _ _ _ w2 O2.out.ls rfl hmx.out O2.out.lencap).mono ?_
  rintro e w3 ⟨g3, c3, rfl, ho3, hb3⟩
  have hB3 : Below w.heap.size w w3 := hB2.trans (hb3.mono hB2.size)
  have S3 := Lib.hid ho3
  have R3 := Lib.hid (R2.out.keepB hb3 (Nat.le_refl _))
  have O3 := Lib.hid (O2.out.keepB hb3 (Nat.le_refl _))
  clear ho3
  go_wp2_with fail
  refine (sameLs_same _ _ _ _ _ R w3 R3.out.ls S3.out.ls rfl hsm.out).mono ?_
  rintro e w4 ⟨rfl, hs4⟩
  have hB4 : Below w.heap.size w w4 := hB3.trans (hs4.below _)
  have R4 := Lib.hid (R3.out.keepB (hs4.below _) (Nat.le_refl _))
  have O4 := Lib.hid (O3.out.keepB (hs4.below _) (Nat.le_refl _))
  have S4 := Lib.hid (S3.out.keepB (hs4.below _) (Nat.le_refl _))
  go_wp2_with fail
  refine (lof_any _ _ _ L at_ w4 O4.out.ls rfl hmx.out).mono ?_
  rintro e w5 ⟨rfl, hb5⟩
  have hB5 : Below w.heap.size w w5 := hB4.trans (hb5.mono hB4.size)
  have R5 := Lib.hid (R4.out.keepB hb5 (Nat.le_refl _))
  have O5 := Lib.hid (O4.out.keepB hb5 (Nat.le_refl _))
  rw [HXL.out]
  obtain ⟨W5, hW5⟩ : ∃ W, W = w5.alloc (.cells #[.int .i64 x.e, .int .i64 x.o, .int .i64 x.u] 35) := ⟨_, rfl⟩
  have hbW5 : Below w5.heap.size w5 W5 := by rw [hW5]; exact alB _ _
  have hBW5 : Below w.heap.size w W5 := hB5.trans (hbW5.mono hB5.size)
  have XW5 : Hid (W5.heap[w5.heap.size]? = some (.cells #[.int .i64 x.e, .int .i64 x.o, .int .i64 x.u] 35 (0, 0))) := by show _ = _; rw [hW5]; exact heap_alloc_new _ _
  have HXW5 := Lib.hid hW5
  have hlW5 : w5.heap.size < W5.heap.size := by rw [hW5]; simp
  clear hW5
  have RW := Lib.hid (R5.out.keepB hbW5 (Nat.le_refl _))
  have OW := Lib.hid (O5.out.keepB hbW5 (Nat.le_refl _))
  go_wp2
  rw [← HXW5.out]
  go_loopw [14] (fun q wr => ∃ k : Nat, k ≤ 64 ∧ q = .int .i64 k ∧ Below W5.heap.size W5 wr) (fun q _ => 64 - (intOf q).toNat)
  case atStart => exact ⟨0, by omega, rfl, Below.refl _ _⟩
  case round =>
    obtain ⟨k, hk, rfl, hbel⟩ := hrel
    have hBr : Below w.heap.size w wr := hBW5.trans (hbel.mono hBW5.size)
    by_cases hlt : k < 64
    · have hpt : ptB (k : Int) = true := (ptB_iff _).2 ⟨by omega, by omega⟩
      obtain ⟨y, hy⟩ : ∃ y, ofL L k = y := ⟨_, rfl⟩
      obtain ⟨m, hm'⟩ : ∃ m, ofL R k = m := ⟨_, rfl⟩
      have HK : Hid (ofR L k = (y, true)) := by show _ = _; rw [ofR_yes HV.out hpt, hy]
      have HM : Hid (ofR R k = (m, true)) := by show _ = _; rw [ofR_yes HVR.out hpt, hm']
      obtain ⟨q1, q2, q3, q4⟩ := HALL.out k
      rw [hy, HXO.out] at q1 q4
      rw [hm', HXO.out] at q2
      rw [hm', hy, HXO.out] at q3
      have HQ1 := Lib.hid q1
      have HQ2 := Lib.hid q2
      have HQ3 := Lib.hid q3
      have HQ4 := Lib.hid q4
      clear q1 q2 q3 q4 hy hm' hpt
      go_wp2_with fail
      refine (holder_any _ _ _ L k wr (OW.out.keepB hbel (Nat.le_refl _)).ls rfl hmx.out).mono ?_
      rintro e w6 ⟨rfl, hb6⟩
      rw [HK.out]
      have hB6 : Below w.heap.size w w6 := hBr.trans (hb6.mono hBr.size)
      have hC6 : Below W5.heap.size W5 w6 := hbel.trans (hb6.mono hbel.size)
      go_wp2_with fail
      refine (holder_any _ _ _ R k w6 (RW.out.keepB hC6 (Nat.le_refl _)).ls rfl hmr.out).mono ?_
      rintro e w7 ⟨rfl, hb7⟩
      rw [HM.out]
      have hB7 : Below w.heap.size w w7 := hB6.trans (hb7.mono hB6.size)
      have hC7 : Below W5.heap.size W5 w7 := hC6.trans (hb7.mono hC6.size)
      go_wp2_with fail
      refine (lof_any _ _ _ L k w7 (OW.out.keepB hC7 (Nat.le_refl _)).ls rfl hmx.out).mono ?_
      rintro e w8 ⟨rfl, hb8⟩
      rw [HK.out]
      have hC8a : Below W5.heap.size W5 w8 := hC7.trans (hb8.mono hC7.size)
      have HC8 : Hid (∀ o, Below W5.heap.size W5 (w8.alloc o)) := fun o => hC8a.trans ((alB w8 o).mono hC8a.size)
      have hx8 := (hC8a.block w5.heap.size hlW5).trans XW5.out
      have hl8 : w5.heap.size < w8.heap.size := by have := hC8a.size; omega
      have x0 : ∀ o, (w8.alloc o).cell? ⟨w5.heap.size, 0, none⟩ = some (.int .i64 x.e) := fun o => ((alB w8 o).cell (p := ⟨w5.heap.size, 0, none⟩) hl8).trans (by rw [cell_of_cells hx8]; rfl)
      have x1 : ∀ o, (w8.alloc o).cell? ⟨w5.heap.size, 1, none⟩ = some (.int .i64 x.o) := fun o => ((alB w8 o).cell (p := ⟨w5.heap.size, 1, none⟩) hl8).trans (by rw [cell_of_cells hx8]; rfl)
      have x2 : ∀ o, (w8.alloc o).cell? ⟨w5.heap.size, 2, none⟩ = some (.int .i64 x.u) := fun o => ((alB w8 o).cell (p := ⟨w5.heap.size, 2, none⟩) hl8).trans (by rw [cell_of_cells hx8]; rfl)
      clear hx8
      by_cases hs : atL L k = atL L at_
      · have e1 := HQ1.out hs
        subst e1
        by_cases h1 : (k : Int) ≤ at_
        · by_cases h2 : y.e < (k : Int)
          · by_cases h3 : y.e < at_
            · have d1 : decide ((k : Int) ≤ at_) = true := by simp; omega
              have d2 : decide (y.e < (k : Int)) = true := by simp; omega
              have d3 : decide (y.e < at_) = true := by simp; omega
              have d4 : decide (at_ ≤ y.e) = false := by simp; omega
              obtain ⟨e2, e3⟩ := HQ2.out hs (by unfold partP; omega)
              have d5 : (m.o != tgt) = false := by simp [e2]
              have d6 : (m.u != ut) = false := by simp [e3]
              clear e2 e3 hs h1 h2 h3
              go_wp2
              go_roundw
              case rel => exact ⟨k + 1, by omega, by go_num, HC8.out _⟩
              case measure => simp [intOf]; omega
            · have d1 : decide ((k : Int) ≤ at_) = true := by simp; omega
              have d2 : decide (y.e < (k : Int)) = true := by simp; omega
              have d3 : decide (y.e < at_) = false := by simp; omega
              have d4 : decide (at_ ≤ y.e) = true := by simp; omega
              obtain ⟨e2, e3⟩ := HQ2.out hs (by unfold partP; omega)
              have d5 : (m.o != tgt) = false := by simp [e2]
              have d6 : (m.u != ut) = false := by simp [e3]
              clear e2 e3 hs h1 h2 h3
              go_wp2
              go_roundw
              case rel => exact ⟨k + 1, by omega, by go_num, HC8.out _⟩
              case measure => simp [intOf]; omega
          · by_cases h3 : y.e < at_
            · have d1 : decide ((k : Int) ≤ at_) = true := by simp; omega
              have d2 : decide (y.e < (k : Int)) = false := by simp; omega
              have d3 : decide (y.e < at_) = true := by simp; omega
              have d4 : decide (at_ ≤ y.e) = false := by simp; omega
              have e2 := HQ3.out (fun hh => by have := hh.2; unfold partP at this; omega)
              subst e2
              clear hs h1 h2 h3
              go_wp2
              go_roundw
              case rel => exact ⟨k + 1, by omega, by go_num, HC8.out _⟩
              case measure => simp [intOf]; omega
            · have d1 : decide ((k : Int) ≤ at_) = true := by simp; omega
              have d2 : decide (y.e < (k : Int)) = false := by simp; omega
              have d3 : decide (y.e < at_) = false := by simp; omega
              have d4 : decide (at_ ≤ y.e) = true := by simp; omega
              obtain ⟨e2, e3⟩ := HQ2.out hs (by unfold partP; omega)
              have d5 : (m.o != tgt) = false := by simp [e2]
              have d6 : (m.u != ut) = false := by simp [e3]
              clear e2 e3 hs h1 h2 h3
              go_wp2
              go_roundw
              case rel => exact ⟨k + 1, by omega, by go_num, HC8.out _⟩
              case measure => simp [intOf]; omega
        · by_cases h2 : y.e < (k : Int)
          · by_cases h3 : y.e < at_
            · have d1 : decide ((k : Int) ≤ at_) = false := by simp; omega
              have d2 : decide (y.e < (k : Int)) = true := by simp; omega
              have d3 : decide (y.e < at_) = true := by simp; omega
              have d4 : decide (at_ ≤ y.e) = false := by simp; omega
              have e2 := HQ3.out (fun hh => by have := hh.2; unfold partP at this; omega)
              subst e2
              clear hs h1 h2 h3
              go_wp2
              go_roundw
              case rel => exact ⟨k + 1, by omega, by go_num, HC8.out _⟩
              case measure => simp [intOf]; omega
            · have d1 : decide ((k : Int) ≤ at_) = false := by simp; omega
              have d2 : decide (y.e < (k : Int)) = true := by simp; omega
              have d3 : decide (y.e < at_) = false := by simp; omega
              have d4 : decide (at_ ≤ y.e) = true := by simp; omega
              obtain ⟨e2, e3⟩ := HQ2.out hs (by unfold partP; omega)
              have d5 : (m.o != tgt) = false := by simp [e2]
              have d6 : (m.u != ut) = false := by simp [e3]
              clear e2 e3 hs h1 h2 h3
              go_wp2
              go_roundw
              case rel => exact ⟨k + 1, by omega, by go_num, HC8.out _⟩
              case measure => simp [intOf]; omega
          · by_cases h3 : y.e < at_
            · have d1 : decide ((k : Int) ≤ at_) = false := by simp; omega
              have d2 : decide (y.e < (k : Int)) = false := by simp; omega
              have d3 : decide (y.e < at_) = true := by simp; omega
              have d4 : decide (at_ ≤ y.e) = false := by simp; omega
              have e2 := HQ3.out (fun hh => by have := hh.2; unfold partP at this; omega)
              subst e2
              clear hs h1 h2 h3
              go_wp2
              go_roundw
              case rel => exact ⟨k + 1, by omega, by go_num, HC8.out _⟩
              case measure => simp [intOf]; omega
            · have d1 : decide ((k : Int) ≤ at_) = false := by simp; omega
              have d2 : decide (y.e < (k : Int)) = false := by simp; omega
              have d3 : decide (y.e < at_) = false := by simp; omega
              have d4 : decide (at_ ≤ y.e) = true := by simp; omega
              have e2 := HQ3.out (fun hh => by have := hh.2; unfold partP at this; omega)
              subst e2
              clear hs h1 h2 h3
              go_wp2
              go_roundw
              case rel => exact ⟨k + 1, by omega, by go_num, HC8.out _⟩
              case measure => simp [intOf]; omega
      · have d1 : (y.e == x.e) = false := by rw [beq_eq_false_iff_ne]; exact HQ4.out hs
        have e2 := HQ3.out (fun hh => hs hh.1)
        subst e2
        clear hs
        cases c3 : decide (x.e < at_)
        · go_wp2
          go_roundw
          case rel => exact ⟨k + 1, by omega, by go_num, HC8.out _⟩
          case measure => simp [intOf]; omega
        · go_wp2
          go_roundw
          case rel => exact ⟨k + 1, by omega, by go_num, HC8.out _⟩
          case measure => simp [intOf]; omega
    · obtain rfl : k = 64 := by omega
      go_wp2_with fail
      refine (lvs_any _ _ _ R wr (RW.out.keepB hbel (Nat.le_refl _)).ls rfl hmr.out).mono ?_
      rintro e w6 ⟨rfl, hb6⟩
      rw [HVR.out]
      go_wp2
      go_ret
      exact ⟨rfl, hBr.trans (hb6.mono hBr.size)⟩
end Go.Proofs.YtoaamamconcieaaDoor
