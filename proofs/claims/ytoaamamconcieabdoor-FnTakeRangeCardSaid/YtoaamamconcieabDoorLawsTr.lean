/- The walk of the law that a whole range is taken over. -/
import Derived.Test.YtoaamamconcieabDoorLawsLt
import Derived.Laws.StructEq
namespace Go.Proofs.YtoaamamconcieabDoor
open Go.RowKit
set_option linter.unusedVariables false

theorem take_of {L M : List Ls} {key tgt now ut : Int} (h : takeR L key tgt now ut = (M, true)) (k : Int) :
    (atL L k = atL L key → ofL L k = ofL L key ∧ (ofL M k).o = tgt ∧ (ofL M k).u = ut) ∧ (¬ atL L k = atL L key → ¬ (ofL L k).e = (ofL L key).e ∧ ofL M k = ofL L k) := by
  rcases take_ways L key tgt now ut with ⟨_, hr⟩ | ⟨_, _, hr⟩ | ⟨hk, hu, hr⟩
  · rw [hr] at h; simp at h
  · rw [hr] at h; simp at h
  · rw [hr] at h
    injection h with h
    subst h
    obtain ⟨hv, _, h2, _, h3⟩ := (takeOk_iff _ _ _ _ _).1 hk
    have hal := at_lt (L := L) (by have := lv_len hv; omega) key
    have hak := at_lt (L := L) (by have := lv_len hv; omega) k
    have hse : SameE L (L.set (atL L key) ⟨(ofL L key).e, tgt, ut⟩) := sameE_set rfl
    have e := hse.at_ k
    have e2 : ofL (L.set (atL L key) ⟨(ofL L key).e, tgt, ut⟩) k = gl (L.set (atL L key) ⟨(ofL L key).e, tgt, ut⟩) (atL L k) := by
      show gl _ (atL _ k) = _; rw [← e]
    constructor
    · intro hh
      rw [hh] at e2
      rw [gl_set_eq _ hal] at e2
      rw [e2]
      exact ⟨by unfold ofL; rw [hh], rfl, rfl⟩
    · intro hh
      rw [gl_set_ne _ (fun h => hh h.symm)] at e2
      refine ⟨fun he => hh ?_, e2⟩
      have h4 := at_end hv hak
      have h5 := at_end hv hal
      have he' : (gl L (atL L k)).e = (gl L (atL L key)).e := he
      rw [he', h5] at h4; exact h4.symm

set_option maxRecDepth 20000 in
set_option maxHeartbeats 4000000 in
theorem takeRange (s : Option Addr) (len cap : Nat) (z : List Int) (e0 e1 : Addr) (w : World) (h : RowIn .u8 w s len cap z) (he : Errs w e0 e1) :
    Calls Tryd.prog 6 #[.slice s len cap] w fun e w' => e = .returned (.bool true) ∧ Below w.heap.size w w' := by
  have hb := bytes_of_row h
  have hm : len ≤ maxLen := Nat.le_trans hb.1 hb.2.1
  unfold maxLen at hm
  clear h
  have HE := Lib.hid he
  clear he
  by_cases hl : 1048576 < len
  · go_enter Tryd.func6, Tryd.ntmps6
    go_wp2
    go_ret
    exact ⟨rfl, Below.refl _ _⟩
  have hlB : decide ((1048576 : Int) < (len : Int)) = false := by simp; omega
  have HBY := Lib.hid hb
  clear hb
  go_enter Tryd.func6, Tryd.ntmps6
  go_wp2_with fail
  refine (drawLeaseTake s len cap w HBY.out).mono ?_
  rintro e w1 ⟨g, c, L, key, tgt, now, ut, rfl, hl12, ho, hb1⟩
  have O1 := Lib.hid ho
  have hmx : Hid (L.length ≤ maxLen) := by show _ ≤ maxLen; unfold maxLen; omega
  clear ho
  have hgd : Tryd.prog.eqGuardType Tryd.prog.depth 30 = false := by kernel_rfl
  obtain ⟨R, ok, hR⟩ : ∃ R ok, takeR L key tgt now ut = (R, ok) := ⟨_, _, rfl⟩
  have HR := Lib.hid hR
  have hsm : Hid (R.length ≤ 1048576) := by show _ ≤ 1048576; have := takeR_len L key tgt now ut; rw [hR] at this; simp at this; omega
  have hmr : Hid (R.length ≤ maxLen) := by show _ ≤ maxLen; have := hsm.out; unfold maxLen; omega
  cases ok
  · clear hR
    go_wp2_with fail
    refine (take_as HR.out _ _ _ e0 e1 w1 O1.out.ls rfl hmx.out (HE.out.keep hb1)).mono ?_
    rintro e w2 ⟨g2, c2, rfl, ho2, hb2⟩
    have hB2 : Below w.heap.size w w2 := hb1.trans (hb2.mono hb1.size)
    have R2 := Lib.hid ho2
    have O2 := Lib.hid (O1.out.keepB hb2 (Nat.le_refl _))
    clear ho2
    go_wp2_with fail
    refine (stake_as HR.out _ _ _ w2 O2.out.ls rfl hmx.out).mono ?_
    rintro e w3 ⟨g3, c3, rfl, ho3, hb3⟩
    have hB3 : Below w.heap.size w w3 := hB2.trans (hb3.mono hB2.size)
    have S3 := Lib.hid ho3
    have R3 := Lib.hid (R2.out.keepB hb3 (Nat.le_refl _))
    have O3 := Lib.hid (O2.out.keepB hb3 (Nat.le_refl _))
    clear ho3
    go_wp2_with fail
    refine (sameLs_same _ _ _ _ _ R w3 R3.out.ls S3.out.ls rfl hsm.out).mono ?_
    rintro e w4 ⟨rfl, hs4⟩
    have hB4 : Below w.heap.size w w4 := hB3.trans (hs4.below _)
    have R4 := Lib.hid (R3.out.keepB (hs4.below _) (Nat.le_refl _))
    have O4 := Lib.hid (O3.out.keepB (hs4.below _) (Nat.le_refl _))
    have S4 := Lib.hid (S3.out.keepB (hs4.below _) (Nat.le_refl _))
    go_wp2_with fail
    refine (sameLs_same _ _ _ _ _ R w4 R4.out.ls S4.out.ls rfl hsm.out).mono ?_
    rintro e w5 ⟨rfl, hs5⟩
    go_wp2
    go_ret
    exact ⟨rfl, hB4.trans (hs5.below _)⟩
  obtain ⟨hok, hux, hvr, hof, hlen⟩ := take_done hR
  obtain ⟨hv, hpk, _, _, _⟩ := (takeOk_iff _ _ _ _ _).1 hok
  have HALL : Hid (∀ k : Int, (atL L k = atL L key → ofL L k = ofL L key ∧ (ofL R k).o = tgt ∧ (ofL R k).u = ut) ∧ (¬ atL L k = atL L key → ¬ (ofL L k).e = (ofL L key).e ∧ ofL R k = ofL L k)) := fun k => take_of hR k
  obtain ⟨x, hx⟩ : ∃ x, ofL L key = x := ⟨_, rfl⟩
  have HXO := Lib.hid hx
  have HXL : Hid (ofR L key = (x, true)) := by show _ = _; rw [ofR_yes hv ((ptB_iff _).2 hpk), hx]
  have HV := Lib.hid hv
  have HVR := Lib.hid hvr
  have c9 : ((R.length : Int) == (L.length : Int)) = true := by simp [hlen]
  clear hof hux hR hok hv hvr hlen hx
  go_wp2_with fail
  refine (take_as HR.out _ _ _ e0 e1 w1 O1.out.ls rfl hmx.out (HE.out.keep hb1)).mono ?_
  rintro e w2 ⟨g2, c2, rfl, ho2, hb2⟩
  have hB2 : Below w.heap.size w w2 := hb1.trans (hb2.mono hb1.size)
  have R2 := Lib.hid ho2
  have O2 := Lib.hid (O1.out.keepB hb2 (Nat.le_refl _))
  clear ho2
  go_wp2_with fail
  refine (stake_as HR.out _ _ _ w2 O2.out.ls rfl hmx.out).mono ?_
  rintro e w3 ⟨g3, c3, rfl, ho3, hb3⟩
  have hB3 : Below w.heap.size w w3 := hB2.trans (hb3.mono hB2.size)
  have S3 := Lib.hid ho3
  have R3 := Lib.hid (R2.out.keepB hb3 (Nat.le_refl _))
  have O3 := Lib.hid (O2.out.keepB hb3 (Nat.le_refl _))
  clear ho3
  go_wp2_with fail
  refine (sameLs_same _ _ _ _ _ R w3 R3.out.ls S3.out.ls rfl hsm.out).mono ?_
  rintro e w4 ⟨rfl, hs4⟩
  have hB4 : Below w.heap.size w w4 := hB3.trans (hs4.below _)
  have R4 := Lib.hid (R3.out.keepB (hs4.below _) (Nat.le_refl _))
  have O4 := Lib.hid (O3.out.keepB (hs4.below _) (Nat.le_refl _))
  have S4 := Lib.hid (S3.out.keepB (hs4.below _) (Nat.le_refl _))
  go_wp2_with fail
  refine (lof_any _ _ _ L key w4 O4.out.ls rfl hmx.out).mono ?_
  rintro e w5 ⟨rfl, hb5⟩
  have hB5 : Below w.heap.size w w5 := hB4.trans (hb5.mono hB4.size)
  have R5 := Lib.hid (R4.out.keepB hb5 (Nat.le_refl _))
  have O5 := Lib.hid (O4.out.keepB hb5 (Nat.le_refl _))
  rw [HXL.out]
  obtain ⟨W5, hW5⟩ : ∃ W, W = w5.alloc (.cells #[.int .i64 x.e, .int .i64 x.o, .int .i64 x.u] 30) := ⟨_, rfl⟩
  have hbW5 : Below w5.heap.size w5 W5 := by rw [hW5]; exact alB _ _
  have hBW5 : Below w.heap.size w W5 := hB5.trans (hbW5.mono hB5.size)
  have XW5 : Hid (W5.heap[w5.heap.size]? = some (.cells #[.int .i64 x.e, .int .i64 x.o, .int .i64 x.u] 30 (0, 0))) := by show _ = _; rw [hW5]; exact heap_alloc_new _ _
  have HXW5 := Lib.hid hW5
  have hlW5 : w5.heap.size < W5.heap.size := by rw [hW5]; simp
  clear hW5
  have RW := Lib.hid (R5.out.keepB hbW5 (Nat.le_refl _))
  have OW := Lib.hid (O5.out.keepB hbW5 (Nat.le_refl _))
  go_wp2
  rw [← HXW5.out]
  go_loopw [14] (fun q wr => ∃ k : Nat, k ≤ 64 ∧ q = .int .i64 k ∧ Below W5.heap.size W5 wr) (fun q _ => 64 - (intOf q).toNat)
  case atStart => exact ⟨0, by omega, rfl, Below.refl _ _⟩
  case round =>
    obtain ⟨k, hk, rfl, hbel⟩ := hrel
    have hBr : Below w.heap.size w wr := hBW5.trans (hbel.mono hBW5.size)
    by_cases hlt : k < 64
    · have hpt : ptB (k : Int) = true := (ptB_iff _).2 ⟨by omega, by omega⟩
      obtain ⟨y, hy⟩ : ∃ y, ofL L k = y := ⟨_, rfl⟩
      obtain ⟨m, hm'⟩ : ∃ m, ofL R k = m := ⟨_, rfl⟩
      have HK : Hid (ofR L k = (y, true)) := by show _ = _; rw [ofR_yes HV.out hpt, hy]
      have HM : Hid (ofR R k = (m, true)) := by show _ = _; rw [ofR_yes HVR.out hpt, hm']
      obtain ⟨q1, q2⟩ := HALL.out k
      rw [hy, hm', HXO.out] at q1 q2
      have HQ1 := Lib.hid q1
      have HQ2 := Lib.hid q2
      clear q1 q2 hy hm' hpt
      go_wp2_with fail
      refine (lof_any _ _ _ L k wr (OW.out.keepB hbel (Nat.le_refl _)).ls rfl hmx.out).mono ?_
      rintro e w6 ⟨rfl, hb6⟩
      have hB6 : Below w.heap.size w w6 := hBr.trans (hb6.mono hBr.size)
      rw [HK.out]
      obtain ⟨W6, hW6⟩ : ∃ W, W = w6.alloc (.cells #[.int .i64 y.e, .int .i64 y.o, .int .i64 y.u] 30) := ⟨_, rfl⟩
      have hbW6 : Below w6.heap.size w6 W6 := by rw [hW6]; exact alB _ _
      have hBW6 : Below w.heap.size w W6 := hB6.trans (hbW6.mono hB6.size)
      have XW6 : Hid (W6.heap[w6.heap.size]? = some (.cells #[.int .i64 y.e, .int .i64 y.o, .int .i64 y.u] 30 (0, 0))) := by show _ = _; rw [hW6]; exact heap_alloc_new _ _
      have HXW6 := Lib.hid hW6
      have hlW6 : w6.heap.size < W6.heap.size := by rw [hW6]; simp
      clear hW6
      have hC6 : Below W5.heap.size W5 W6 := hbel.trans ((hb6.trans (hbW6.mono hb6.size)).mono hbel.size)
      go_wp2_with fail
      rw [← HXW6.out]
      refine (holder_any _ _ _ L k W6 (OW.out.keepB hC6 (Nat.le_refl _)).ls rfl hmx.out).mono ?_
      rintro e w7 ⟨rfl, hb7⟩
      rw [HK.out]
      have hC7 : Below W5.heap.size W5 w7 := hC6.trans (hb7.mono hC6.size)
      go_wp2_with fail
      refine (holder_any _ _ _ R k w7 (RW.out.keepB hC7 (Nat.le_refl _)).ls rfl hmr.out).mono ?_
      rintro e w8 ⟨rfl, hb8⟩
      rw [HM.out]
      have hC8 : Below W5.heap.size W5 w8 := hC7.trans (hb8.mono hC7.size)
      have hD8 : Below W6.heap.size W6 w8 := hb7.trans (hb8.mono hb7.size)
      have xh := (hC8.block w5.heap.size hlW5).trans XW5.out
      have x0 : w8.cell? ⟨w5.heap.size, 0, none⟩ = some (.int .i64 x.e) := by rw [cell_of_cells xh]; rfl
      have x1 : w8.cell? ⟨w5.heap.size, 1, none⟩ = some (.int .i64 x.o) := by rw [cell_of_cells xh]; rfl
      have x2 : w8.cell? ⟨w5.heap.size, 2, none⟩ = some (.int .i64 x.u) := by rw [cell_of_cells xh]; rfl
      clear xh
      have yh := (hD8.block w6.heap.size hlW6).trans XW6.out
      have y0 : w8.cell? ⟨w6.heap.size, 0, none⟩ = some (.int .i64 y.e) := by rw [cell_of_cells yh]; rfl
      have y1 : w8.cell? ⟨w6.heap.size, 1, none⟩ = some (.int .i64 y.o) := by rw [cell_of_cells yh]; rfl
      have y2 : w8.cell? ⟨w6.heap.size, 2, none⟩ = some (.int .i64 y.u) := by rw [cell_of_cells yh]; rfl
      clear yh
      by_cases hs : atL L k = atL L key
      · obtain ⟨e1, e2, e3⟩ := HQ1.out hs
        have d1 : (m.o != tgt) = false := by simp [e2]
        have d2 : (m.u != ut) = false := by simp [e3]
        subst e1
        clear hs e2 e3
        go_wp2
        go_roundw
        case rel => exact ⟨k + 1, by omega, by go_num, hC8⟩
        case measure => simp [intOf]; omega
      · obtain ⟨e1, e2⟩ := HQ2.out hs
        have d1 : (y.e == x.e) = false := by rw [beq_eq_false_iff_ne]; exact e1
        subst e2
        clear hs e1
        go_wp2
        go_roundw
        case rel => exact ⟨k + 1, by omega, by go_num, hC8⟩
        case measure => simp [intOf]; omega
    · obtain rfl : k = 64 := by omega
      go_wp2_with fail
      refine (lvs_any _ _ _ R wr (RW.out.keepB hbel (Nat.le_refl _)).ls rfl hmr.out).mono ?_
      rintro e w6 ⟨rfl, hb6⟩
      rw [HVR.out]
      go_wp2
      go_ret
      exact ⟨rfl, hBr.trans (hb6.mono hBr.size)⟩
end Go.Proofs.YtoaamamconcieabDoor
