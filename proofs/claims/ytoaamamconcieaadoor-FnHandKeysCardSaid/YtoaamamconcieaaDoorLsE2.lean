/- Taking over; LeaseHand and LeaseTake of the program. -/
import Derived.Test.YtoaamamconcieaaDoorLsE
namespace Go.Proofs.YtoaamamconcieaaDoor
open Go.RowKit
set_option linter.unusedVariables false

set_option maxRecDepth 20000 in
set_option maxHeartbeats 4000000 in
theorem taken_any (a : Option Addr) (len cap : Nat) (L : List Ls) (key to now ut : Int) (e0 e1 : Addr) (w : World) (h : LsAt w a L) (hz : L.length = len) (hm : len ≤ maxLen) (he : Errs w e0 e1) :
    Calls Tryd.prog 31 #[.slice a len cap, .int .i64 key, .int .i64 to, .int .i64 now, .int .i64 ut] w (OutPost (takeOk L key to now ut) (takeR L key to now ut) e0 e1 w) := by
  have HI := Lib.hid h
  have HZ := Lib.hid hz
  have HM := Lib.hid hm
  have HE := Lib.hid he
  clear h hz hm he
  cases hv : lvB L
  · have HK : Hid (takeOk L key to now ut = false) := by show _ = false; simp [takeOk, hv]
    go_enter Tryd.func31, Tryd.ntmps31
    go_wp2_with fail
    refine (lvs_any a len cap L w HI.out HZ.out HM.out).mono ?_
    rintro e w2 ⟨rfl, hB2⟩
    rw [hv]
    have g0 := (HE.out.keep hB2).c0
    go_wp2
    go_quiet (fail)
    clear g0
    go_wp2
    go_ret2
    exact ⟨bel_dN hB2 _, .inl ⟨HK.out, rfl⟩⟩
  cases h0 : ptB key
  · have HK : Hid (takeOk L key to now ut = false) := by show _ = false; simp [takeOk, h0]
    go_enter Tryd.func31, Tryd.ntmps31
    go_wp2_with fail
    refine (lvs_any a len cap L w HI.out HZ.out HM.out).mono ?_
    rintro e w2 ⟨rfl, hB2⟩
    rw [hv]
    go_wp2_with fail
    refine (valid_any key w2).mono ?_
    rintro e w' ⟨rfl, rfl⟩
    rw [h0]
    have g0 := (HE.out.keep hB2).c0
    go_wp2
    go_quiet (fail)
    clear g0
    go_wp2
    go_ret2
    exact ⟨bel_dN hB2 _, .inl ⟨HK.out, rfl⟩⟩
  cases h1 : ptB to
  · have HK : Hid (takeOk L key to now ut = false) := by show _ = false; simp [takeOk, h1]
    go_enter Tryd.func31, Tryd.ntmps31
    go_wp2_with fail
    refine (lvs_any a len cap L w HI.out HZ.out HM.out).mono ?_
    rintro e w2 ⟨rfl, hB2⟩
    rw [hv]
    go_wp2_with fail
    refine (valid_any key w2).mono ?_
    rintro e w' ⟨rfl, rfl⟩
    rw [h0]
    go_wp2_with fail
    refine (valid_any to w2).mono ?_
    rintro e w' ⟨rfl, rfl⟩
    rw [h1]
    have g0 := (HE.out.keep hB2).c0
    go_wp2
    go_quiet (fail)
    clear g0
    go_wp2
    go_ret2
    exact ⟨bel_dN hB2 _, .inl ⟨HK.out, rfl⟩⟩
  cases h2 : tmB now
  · have HK : Hid (takeOk L key to now ut = false) := by show _ = false; simp [takeOk, h2]
    go_enter Tryd.func31, Tryd.ntmps31
    go_wp2_with fail
    refine (lvs_any a len cap L w HI.out HZ.out HM.out).mono ?_
    rintro e w2 ⟨rfl, hB2⟩
    rw [hv]
    go_wp2_with fail
    refine (valid_any key w2).mono ?_
    rintro e w' ⟨rfl, rfl⟩
    rw [h0]
    go_wp2_with fail
    refine (valid_any to w2).mono ?_
    rintro e w' ⟨rfl, rfl⟩
    rw [h1]
    go_wp2_with fail
    refine (isTime_any now w2).mono ?_
    rintro e w' ⟨rfl, rfl⟩
    rw [h2]
    have g0 := (HE.out.keep hB2).c0
    go_wp2
    go_quiet (fail)
    clear g0
    go_wp2
    go_ret2
    exact ⟨bel_dN hB2 _, .inl ⟨HK.out, rfl⟩⟩
  cases h3 : tmB ut
  · have HK : Hid (takeOk L key to now ut = false) := by show _ = false; simp [takeOk, h3]
    go_enter Tryd.func31, Tryd.ntmps31
    go_wp2_with fail
    refine (lvs_any a len cap L w HI.out HZ.out HM.out).mono ?_
    rintro e w2 ⟨rfl, hB2⟩
    rw [hv]
    go_wp2_with fail
    refine (valid_any key w2).mono ?_
    rintro e w' ⟨rfl, rfl⟩
    rw [h0]
    go_wp2_with fail
    refine (valid_any to w2).mono ?_
    rintro e w' ⟨rfl, rfl⟩
    rw [h1]
    go_wp2_with fail
    refine (isTime_any now w2).mono ?_
    rintro e w' ⟨rfl, rfl⟩
    rw [h2]
    go_wp2_with fail
    refine (isTime_any ut w2).mono ?_
    rintro e w' ⟨rfl, rfl⟩
    rw [h3]
    have g0 := (HE.out.keep hB2).c0
    go_wp2
    go_quiet (fail)
    clear g0
    go_wp2
    go_ret2
    exact ⟨bel_dN hB2 _, .inl ⟨HK.out, rfl⟩⟩
  have hok : takeOk L key to now ut = true := by simp [takeOk, hv, h0, h1, h2, h3]
  have HOK := Lib.hid hok
  have HV := Lib.hid hv
  have h12 : 1 ≤ len ∧ len ≤ 12 := by have := lv_len hv; rw [HZ.out] at this; exact this
  obtain ⟨hl1, hl2⟩ := h12
  have hal := at_lt (L := L) (by rw [HZ.out]; omega) key
  rw [HZ.out] at hal
  clear hok
  cases hx : decide ((gl L (atL L key)).u < now)
  · have HR := Lib.hid (take_keep HOK.out (by have : ¬ (gl L (atL L key)).u < now := (by simpa using hx); show now ≤ (gl L (atL L key)).u; omega))
    go_enter Tryd.func31, Tryd.ntmps31
    go_wp2_with fail
    refine (lvs_any a len cap L w HI.out HZ.out HM.out).mono ?_
    rintro e w2 ⟨rfl, hB2⟩
    rw [hv]
    go_wp2_with fail
    refine (valid_any key w2).mono ?_
    rintro e w' ⟨rfl, rfl⟩
    rw [h0]
    go_wp2_with fail
    refine (valid_any to w2).mono ?_
    rintro e w' ⟨rfl, rfl⟩
    rw [h1]
    go_wp2_with fail
    refine (isTime_any now w2).mono ?_
    rintro e w' ⟨rfl, rfl⟩
    rw [h2]
    go_wp2_with fail
    refine (isTime_any ut w2).mono ?_
    rintro e w' ⟨rfl, rfl⟩
    rw [h3]
    go_wp2_with fail
    refine (leaseAt_any a len cap L key w2 (HI.out.keepB hB2 (Nat.le_refl _)) HZ.out HV.out).mono ?_
    rintro e w3 ⟨rfl, hb3⟩
    have hB3 : Below w.heap.size w w3 := hB2.trans (hb3.mono hB2.size)
    obtain ⟨b, off, rfl, hb0, hcells⟩ := (HI.out.keepB hB3 (Nat.le_refl _)).at_ (i := atL L key) (by rw [HZ.out]; exact hal)
    obtain ⟨hc0, hc1, hc2⟩ := hcells (atL L key) (by rw [HZ.out]; exact hal)
    clear hcells
    go_wp2_with fail
    refine (expired_any (gl L (atL L key)) now w3).mono ?_
    rintro e w4 ⟨rfl, hb4⟩
    have hB4 : Below w.heap.size w w4 := hB3.trans (hb4.mono hB3.size)
    rw [hx]
    clear hc0 hc1 hc2
    have g1 := (HE.out.keep hB4).c1
    go_wp2
    go_quiet (fail)
    clear g1
    go_wp2
    go_ret2
    exact ⟨bel_dN hB4 _, .inr (.inl ⟨HOK.out, by rw [HR.out], rfl⟩)⟩
  · have HR := Lib.hid (take_set HOK.out (by have : (gl L (atL L key)).u < now := (by simpa using hx); show ¬ now ≤ (gl L (atL L key)).u; omega))
    go_enter Tryd.func31, Tryd.ntmps31
    go_wp2_with fail
    refine (lvs_any a len cap L w HI.out HZ.out HM.out).mono ?_
    rintro e w2 ⟨rfl, hB2⟩
    rw [hv]
    go_wp2_with fail
    refine (valid_any key w2).mono ?_
    rintro e w' ⟨rfl, rfl⟩
    rw [h0]
    go_wp2_with fail
    refine (valid_any to w2).mono ?_
    rintro e w' ⟨rfl, rfl⟩
    rw [h1]
    go_wp2_with fail
    refine (isTime_any now w2).mono ?_
    rintro e w' ⟨rfl, rfl⟩
    rw [h2]
    go_wp2_with fail
    refine (isTime_any ut w2).mono ?_
    rintro e w' ⟨rfl, rfl⟩
    rw [h3]
    go_wp2_with fail
    refine (leaseAt_any a len cap L key w2 (HI.out.keepB hB2 (Nat.le_refl _)) HZ.out HV.out).mono ?_
    rintro e w3 ⟨rfl, hb3⟩
    have hB3 : Below w.heap.size w w3 := hB2.trans (hb3.mono hB2.size)
    obtain ⟨b, off, rfl, hb0, hcells⟩ := (HI.out.keepB hB3 (Nat.le_refl _)).at_ (i := atL L key) (by rw [HZ.out]; exact hal)
    obtain ⟨hc0, hc1, hc2⟩ := hcells (atL L key) (by rw [HZ.out]; exact hal)
    clear hcells
    go_wp2_with fail
    refine (expired_any (gl L (atL L key)) now w3).mono ?_
    rintro e w4 ⟨rfl, hb4⟩
    have hB4 : Below w.heap.size w w4 := hB3.trans (hb4.mono hB3.size)
    rw [hx]
    clear hc0 hc1 hc2
    go_wp2_with fail
    refine (cloneL_any _ len cap L w4 (HI.out.keepB hB4 (Nat.le_refl _)) HZ.out (by omega) (by omega)).mono ?_
    rintro e w6 ⟨g, c, rfl, ho6, hb6⟩
    have hB6 : Below w.heap.size w w6 := hB4.trans (hb6.mono hB4.size)
    obtain ⟨x0, x1, x2⟩ := ho6.cells (i := atL L key) (by rw [HZ.out]; exact hal)
    obtain ⟨hgb, _, cs, hbk, _⟩ := ho6.blk
    have f1 := frozen_of_cells hbk (atL L key * 3 + 1)
    have f2 := frozen_of_cells hbk (atL L key * 3 + 2)
    have HO6 := Lib.hid (ho6.less hB4.size)
    clear ho6 hbk
    go_wp2
    go_ret2
    have h7 := HO6.out.setO (k := atL L key) (by rw [HZ.out]; exact hal) to
    have h8 := h7.setU (k := atL L key) (by rw [List.length_set, HZ.out]; exact hal) ut
    rw [gl_set_eq _ (by rw [HZ.out]; exact hal), set_set] at h8
    have hB7 : Below w.heap.size w ((w6.setCell ⟨g, atL L key * 3 + 1, none⟩ (.int .i64 to)).setCell ⟨g, atL L key * 3 + 2, none⟩ (.int .i64 ut)) := (hB6.setCell (show w.heap.size ≤ g by have := hB4.size; omega) _).setCell (show w.heap.size ≤ g by have := hB4.size; omega) _
    refine ⟨hB7, .inr (.inr ⟨HOK.out, by rw [HR.out], g, c, ?_, ?_⟩)⟩
    · rw [HR.out, List.length_set, HZ.out]; rfl
    · rw [HR.out]; exact h8

theorem handOk_lv {L : List Ls} {fr at_ to ut : Int} (h : handOk L fr at_ to ut = true) : lvB L = true := ((handOk_iff _ _ _ _ _).1 h).1
theorem takeOk_lv {L : List Ls} {key to now ut : Int} (h : takeOk L key to now ut = true) : lvB L = true := ((takeOk_iff _ _ _ _ _).1 h).1
theorem hand_keep {L : List Ls} {fr at_ to ut : Int} (h : handOk L fr at_ to ut = true) (h2 : (handR L fr at_ to ut).2 = false) : handR L fr at_ to ut = (L, false) := by
  revert h2
  unfold handR
  rw [if_pos h]
  split
  · intro _; rfl
  · split
    · intro hh; cases hh
    · split
      · intro _; rfl
      · intro hh; cases hh
theorem take_keep' {L : List Ls} {key to now ut : Int} (h : takeOk L key to now ut = true) (h2 : (takeR L key to now ut).2 = false) : takeR L key to now ut = (L, false) := by
  revert h2
  unfold takeR
  rw [if_pos h]
  split
  · intro _; rfl
  · intro hh; cases hh
theorem handR_len (L : List Ls) (fr at_ to ut : Int) : (handR L fr at_ to ut).1.length ≤ 12 := by
  unfold handR
  split
  · rename_i h
    have hl := lv_len (handOk_lv h)
    split
    · exact hl.2
    · split
      · rw [List.length_set]; exact hl.2
      · split
        · exact hl.2
        · rw [insL_len (fd_le L at_)]; omega
  · simp
theorem takeR_len (L : List Ls) (key to now ut : Int) : (takeR L key to now ut).1.length ≤ 12 := by
  unfold takeR
  split
  · rename_i h
    have hl := lv_len (takeOk_lv h)
    split
    · exact hl.2
    · rw [List.length_set]; exact hl.2
  · simp

set_option maxHeartbeats 2000000 in
theorem hand_any (a : Option Addr) (len cap : Nat) (L : List Ls) (fr at_ to ut : Int) (e0 e1 : Addr) (w : World) (h : LsAt w a L) (hz : L.length = len) (hm : len ≤ maxLen) (he : Errs w e0 e1) :
    Calls Tryd.prog 11 #[.slice a len cap, .int .i64 fr, .int .i64 at_, .int .i64 to, .int .i64 ut] w (AnsPost (handR L fr at_ to ut) w) := by
  have HI := Lib.hid h
  have HZ := Lib.hid hz
  have HM := Lib.hid hm
  have HE := Lib.hid he
  clear h hz hm he
  go_enter Tryd.func11, Tryd.ntmps11
  go_wp2_with fail
  refine (handed_any a len cap L fr at_ to ut e0 e1 w HI.out HZ.out HM.out HE.out).mono ?_
  rintro e w2 ⟨hB2, ⟨hk, rfl⟩ | ⟨hk, hr, rfl⟩ | ⟨hk, hr, g, c, rfl, ho⟩⟩
  · have HR : Hid (handR L fr at_ to ut = ([], false)) := hand_no hk
    clear hk
    go_wp2_with fail
    refine (answer_inv a len cap _ e0 e1 w2 (HE.out.keep hB2)).mono ?_
    rintro e w3 ⟨g, c, rfl, ho3, hb3⟩
    have HO := Lib.hid (ho3.less hB2.size)
    clear ho3
    go_wp2
    go_ret2
    exact ⟨g, c, by rw [HR.out]; rfl, by rw [HR.out]; exact HO.out, hB2.trans (hb3.mono hB2.size)⟩
  · have HR : Hid (handR L fr at_ to ut = (L, false)) := hand_keep hk hr
    have h12 : 1 ≤ len ∧ len ≤ 12 := by have := lv_len (handOk_lv hk); rw [HZ.out] at this; exact this
    obtain ⟨hl1, hl2⟩ := h12
    clear hk hr
    go_wp2_with fail
    refine (answer_ref a len cap _ L e0 e1 w2 (HE.out.keep hB2) (HI.out.keepB hB2 (Nat.le_refl _)) HZ.out (by omega) hl2).mono ?_
    rintro e w3 ⟨g, c, rfl, ho3, hb3⟩
    have HO := Lib.hid (ho3.less hB2.size)
    clear ho3
    go_wp2
    go_ret2
    exact ⟨g, c, by rw [HR.out]; rfl, by rw [HR.out]; exact HO.out, hB2.trans (hb3.mono hB2.size)⟩
  · have HR := Lib.hid hr
    have HO := Lib.hid ho
    clear hk hr ho
    go_wp2_with fail
    refine (answer_ok a len cap _ e0 e1 w2 (HE.out.keep hB2)).mono ?_
    rintro e w3 ⟨rfl, rfl⟩
    go_wp2
    go_ret2
    exact ⟨g, c, by rw [HR.out]; rfl, HO.out, hB2⟩

set_option maxHeartbeats 2000000 in
theorem take_any (a : Option Addr) (len cap : Nat) (L : List Ls) (key to now ut : Int) (e0 e1 : Addr) (w : World) (h : LsAt w a L) (hz : L.length = len) (hm : len ≤ maxLen) (he : Errs w e0 e1) :
    Calls Tryd.prog 16 #[.slice a len cap, .int .i64 key, .int .i64 to, .int .i64 now, .int .i64 ut] w (AnsPost (takeR L key to now ut) w) := by
  have HI := Lib.hid h
  have HZ := Lib.hid hz
  have HM := Lib.hid hm
  have HE := Lib.hid he
  clear h hz hm he
  go_enter Tryd.func16, Tryd.ntmps16
  go_wp2_with fail
  refine (taken_any a len cap L key to now ut e0 e1 w HI.out HZ.out HM.out HE.out).mono ?_
  rintro e w2 ⟨hB2, ⟨hk, rfl⟩ | ⟨hk, hr, rfl⟩ | ⟨hk, hr, g, c, rfl, ho⟩⟩
  · have HR : Hid (takeR L key to now ut = ([], false)) := take_no' hk
    clear hk
    go_wp2_with fail
    refine (answer_inv a len cap _ e0 e1 w2 (HE.out.keep hB2)).mono ?_
    rintro e w3 ⟨g, c, rfl, ho3, hb3⟩
    have HO := Lib.hid (ho3.less hB2.size)
    clear ho3
    go_wp2
    go_ret2
    exact ⟨g, c, by rw [HR.out]; rfl, by rw [HR.out]; exact HO.out, hB2.trans (hb3.mono hB2.size)⟩
  · have HR : Hid (takeR L key to now ut = (L, false)) := take_keep' hk hr
    have h12 : 1 ≤ len ∧ len ≤ 12 := by have := lv_len (takeOk_lv hk); rw [HZ.out] at this; exact this
    obtain ⟨hl1, hl2⟩ := h12
    clear hk hr
    go_wp2_with fail
    refine (answer_ref a len cap _ L e0 e1 w2 (HE.out.keep hB2) (HI.out.keepB hB2 (Nat.le_refl _)) HZ.out (by omega) hl2).mono ?_
    rintro e w3 ⟨g, c, rfl, ho3, hb3⟩
    have HO := Lib.hid (ho3.less hB2.size)
    clear ho3
    go_wp2
    go_ret2
    exact ⟨g, c, by rw [HR.out]; rfl, by rw [HR.out]; exact HO.out, hB2.trans (hb3.mono hB2.size)⟩
  · have HR := Lib.hid hr
    have HO := Lib.hid ho
    clear hk hr ho
    go_wp2_with fail
    refine (answer_ok a len cap _ e0 e1 w2 (HE.out.keep hB2)).mono ?_
    rintro e w3 ⟨rfl, rfl⟩
    go_wp2
    go_ret2
    exact ⟨g, c, by rw [HR.out]; rfl, HO.out, hB2⟩
end Go.Proofs.YtoaamamconcieaaDoor
