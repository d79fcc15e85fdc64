/- What the model does to leases. -/
import Derived.Test.YtoaamamconcieabLsP
namespace Go.Proofs.Ytoaamamconcieab
open Go.RowKit
set_option linter.unusedVariables false

set_option maxHeartbeats 2000000 in
theorem srenew_any (a : Option Addr) (len cap : Nat) (L : List Ls) (ow now ut : Int) (w : World) (h : LsAt w a L) (hz : L.length = len) (hm : len ≤ maxLen) :
    Calls Try.prog 11 #[.slice a len cap, .int .i64 ow, .int .i64 now, .int .i64 ut] w (RenPost L ow now ut w) := by
  have HI := Lib.hid h
  have HZ := Lib.hid hz
  have HM := Lib.hid hm
  clear h hz hm
  cases hv : lvB L
  · have He : Hid (renOk L ow now ut = false) := by show _ = false; simp [renOk, hv]
    go_enter Try.func11, Try.ntmps11
    have hB := Below.refl w.heap.size w
    go_wp2_with fail
    refine (slvs_any a len cap L w (HI.out.keepB hB (Nat.le_refl _)) HZ.out HM.out).mono ?_
    rintro e w2 ⟨rfl, hs⟩
    have hB2 : Below w.heap.size w w2 := hB.trans (hs.below _)
    clear hs
    rw [hv]
    go_wp2
    go_ret2
    exact renPost_no He.out rfl hB2
  cases h0 : ptB ow
  · have He : Hid (renOk L ow now ut = false) := by show _ = false; simp [renOk, h0]
    go_enter Try.func11, Try.ntmps11
    have hB := Below.refl w.heap.size w
    go_wp2_with fail
    refine (slvs_any a len cap L w (HI.out.keepB hB (Nat.le_refl _)) HZ.out HM.out).mono ?_
    rintro e w2 ⟨rfl, hs⟩
    have hB2 : Below w.heap.size w w2 := hB.trans (hs.below _)
    clear hs
    rw [hv]
    go_wp2_with fail
    refine (point_any ow w2).mono ?_
    rintro e w' ⟨rfl, rfl⟩
    rw [h0]
    go_wp2
    go_ret2
    exact renPost_no He.out rfl hB2
  cases h1 : tmB now
  · have He : Hid (renOk L ow now ut = false) := by show _ = false; simp [renOk, h1]
    go_enter Try.func11, Try.ntmps11
    have hB := Below.refl w.heap.size w
    go_wp2_with fail
    refine (slvs_any a len cap L w (HI.out.keepB hB (Nat.le_refl _)) HZ.out HM.out).mono ?_
    rintro e w2 ⟨rfl, hs⟩
    have hB2 : Below w.heap.size w w2 := hB.trans (hs.below _)
    clear hs
    rw [hv]
    go_wp2_with fail
    refine (point_any ow w2).mono ?_
    rintro e w' ⟨rfl, rfl⟩
    rw [h0]
    go_wp2_with fail
    refine (stime_any now w2).mono ?_
    rintro e w' ⟨rfl, rfl⟩
    rw [h1]
    go_wp2
    go_ret2
    exact renPost_no He.out rfl hB2
  cases h2 : tmB ut
  · have He : Hid (renOk L ow now ut = false) := by show _ = false; simp [renOk, h2]
    go_enter Try.func11, Try.ntmps11
    have hB := Below.refl w.heap.size w
    go_wp2_with fail
    refine (slvs_any a len cap L w (HI.out.keepB hB (Nat.le_refl _)) HZ.out HM.out).mono ?_
    rintro e w2 ⟨rfl, hs⟩
    have hB2 : Below w.heap.size w w2 := hB.trans (hs.below _)
    clear hs
    rw [hv]
    go_wp2_with fail
    refine (point_any ow w2).mono ?_
    rintro e w' ⟨rfl, rfl⟩
    rw [h0]
    go_wp2_with fail
    refine (stime_any now w2).mono ?_
    rintro e w' ⟨rfl, rfl⟩
    rw [h1]
    go_wp2_with fail
    refine (stime_any ut w2).mono ?_
    rintro e w' ⟨rfl, rfl⟩
    rw [h2]
    go_wp2
    go_ret2
    exact renPost_no He.out rfl hB2
  have He : Hid (renOk L ow now ut = true) := by show _ = true; simp [renOk, hv, h0, h1, h2]
  have h12 : 1 ≤ len ∧ len ≤ 12 := by have := lv_len hv; rw [HZ.out] at this; exact this
  obtain ⟨hl1, hl2⟩ := h12
  go_enter Try.func11, Try.ntmps11
  have hB := Below.refl w.heap.size w
  go_wp2_with fail
  refine (slvs_any a len cap L w (HI.out.keepB hB (Nat.le_refl _)) HZ.out HM.out).mono ?_
  rintro e w2 ⟨rfl, hs⟩
  have hB2 : Below w.heap.size w w2 := hB.trans (hs.below _)
  clear hs
  rw [hv]
  go_wp2_with fail
  refine (point_any ow w2).mono ?_
  rintro e w' ⟨rfl, rfl⟩
  rw [h0]
  go_wp2_with fail
  refine (stime_any now w2).mono ?_
  rintro e w' ⟨rfl, rfl⟩
  rw [h1]
  go_wp2_with fail
  refine (stime_any ut w2).mono ?_
  rintro e w' ⟨rfl, rfl⟩
  rw [h2]
  obtain ⟨b, off, rfl, hb0, hcells⟩ := (HI.out.keepB hB2 (Nat.le_refl _)).at_ (i := 0) (by rw [HZ.out]; omega)
  have HS : Hid (∀ o : Obj, ∀ (j : Nat) (u : Value), (flat L)[j]? = some u → (w2.alloc o).cell? ((⟨b, off, none⟩ : Addr).add j) = some u) := fun o => src_ls fun i hi => by
    obtain ⟨q1, q2, q3⟩ := hcells i hi
    have hk : ∀ p, (w2.alloc o).cell? ⟨b, p, none⟩ = w2.cell? ⟨b, p, none⟩ := fun p => (alB w2 o).cell (p := ⟨b, p, none⟩) hb0
    exact ⟨(hk _).trans q1, (hk _).trans q2, (hk _).trans q3⟩
  clear hcells h0 h1 h2 hv
  go_wp2_with (at_builtin; refine wl_appL _ (by rfl) _ _ (by rfl) w2.heap.size w2.heap.size 0 0 [] L (by rfl) (own_none w2 _ rfl) rfl ⟨b, off, none⟩ len cap (by rfl) HZ.out (HS.out _) len (by omega) (by omega) (by simp) ?_; intro g c w3 hown hgr hat; have ho3 := hown.less hB2.size; rw [List.nil_append] at ho3; have H3 := Lib.hid ho3; have hB3 : Below w.heap.size w w3 := hB2.trans (((alB w2 _).grown hgr (by simp) (fun k hk => by injection hk with hk; omega)).mono hB2.size); clear hown hgr hat ho3)
  go_loopw [11, 12] (fun n i wr => ∃ k : Nat, k ≤ len ∧ i = .int .i64 k ∧ n = .int .i64 (renN L ow now ut k : Nat) ∧ OwnS wr w.heap.size g c (renTo L ow now ut k) ∧ Below w.heap.size w wr) (fun _ i _ => len - (intOf i).toNat)
  case atStart => exact ⟨0, by omega, rfl, rfl, by rw [renTo_zero]; exact H3.out, hB3⟩
  case round =>
    obtain ⟨k, hk, rfl, rfl, hown, hbel⟩ := hrel
    have HO := Lib.hid hown
    have hnk := renN_le L ow now ut k
    by_cases hlt : k < len
    · have hkL : Hid (k < L.length) := by show k < L.length; rw [HZ.out]; exact hlt
      have hkR : Hid (k < (renTo L ow now ut k).length) := by show k < _; rw [renTo_len _ _ _ _ (by have := hkL.out; omega)]; exact hkL.out
      obtain ⟨hc0, hc1, hc2⟩ := hown.cells hkR.out
      rw [renTo_ge (by have := hkL.out; omega) (Nat.le_refl _)] at hc0 hc1 hc2
      clear hown
      cases c1 : ((gl L k).o == ow)
      · have HR := Lib.hid (rnB_o (ow := ow) (now := now) (ut := ut) c1 : rnB ow now ut (gl L k) = false)
        go_wp2
        go_roundw
        case rel => exact ⟨k + 1, by omega, by go_num, by rw [renN_no HR.out], by rw [renTo_no hkL.out HR.out]; exact HO.out, hbel⟩
        case measure => simp [intOf]; omega
      cases c2 : decide ((gl L k).u < now)
      · have c2n : ¬ (gl L k).u < now := by simpa using c2
        have c2i : now ≤ (gl L k).u := by omega
        cases c3 : decide ((gl L k).u < ut)
        · have HR := Lib.hid (rnB_ut (ow := ow) (now := now) (ut := ut) c3 : rnB ow now ut (gl L k) = false)
          go_wp2
          go_roundw
          case rel => exact ⟨k + 1, by omega, by go_num, by rw [renN_no HR.out], by rw [renTo_no hkL.out HR.out]; exact HO.out, hbel⟩
          case measure => simp [intOf]; omega
        · have HR := Lib.hid (rnB_all (ow := ow) (now := now) (ut := ut) c1 c2 c3 : rnB ow now ut (gl L k) = true)
          obtain ⟨_, _, cs, hbk, _⟩ := HO.out.blk
          have f2 := frozen_of_cells hbk (k * 3 + 2)
          clear hbk
          go_wp2
          go_roundw
          case rel =>
            refine ⟨k + 1, by omega, by go_num, by rw [renN_yes HR.out]; go_num, ?_, hbel.setCell (by have := HO.out.blk.1; omega) _⟩
            have := HO.out.setU hkR.out ut
            rw [renTo_ge (by have := hkL.out; omega) (Nat.le_refl _)] at this
            rw [renTo_yes hkL.out HR.out]; exact this
          case measure => simp [intOf]; omega
      · have c2n : (gl L k).u < now := by simpa using c2
        have HR := Lib.hid (rnB_now (ow := ow) (now := now) (ut := ut) c2 : rnB ow now ut (gl L k) = false)
        go_wp2
        go_roundw
        case rel => exact ⟨k + 1, by omega, by go_num, by rw [renN_no HR.out], by rw [renTo_no hkL.out HR.out]; exact HO.out, hbel⟩
        case measure => simp [intOf]; omega
    · have hkk : k = L.length := by rw [HZ.out]; omega
      have HK := Lib.hid hkk
      clear hkk hown
      go_wp2
      go_ret2
      have h1 := HO.out
      rw [HK.out, renTo_all] at h1
      have h2 := renPost_yes He.out h1 hbel
      rw [← HK.out] at h2
      rw [show len = k by rw [HK.out, HZ.out]]
      exact h2

set_option maxHeartbeats 2000000 in
theorem skeys_any (a : Option Addr) (len cap : Nat) (L : List Ls) (ow : Int) (w : World) (h : LsAt w a L) (hz : L.length = len) (hm : len ≤ maxLen) :
    Calls Try.prog 20 #[.slice a len cap, .int .i64 ow] w fun e w' => e = .returned (.int .i64 (keysI L ow)) ∧ Below w.heap.size w w' := by
  have HI := Lib.hid h
  have HZ := Lib.hid hz
  have HM := Lib.hid hm
  clear h hz hm
  cases hv : lvB L
  · have HE := Lib.hid (keysI_no1 (ow := ow) hv)
    go_enter Try.func20, Try.ntmps20
    have hB := Below.refl w.heap.size w
    go_wp2_with fail
    refine (slvs_any a len cap L w (HI.out.keepB hB (Nat.le_refl _)) HZ.out HM.out).mono ?_
    rintro e w2 ⟨rfl, hs⟩
    have hB2 : Below w.heap.size w w2 := hB.trans (hs.below _)
    clear hs
    rw [hv]
    go_wp2
    go_ret
    exact ⟨ret_int HE.out.symm, hB2⟩
  cases h0 : ptB ow
  · have HE := Lib.hid (keysI_no2 (L := L) h0)
    go_enter Try.func20, Try.ntmps20
    have hB := Below.refl w.heap.size w
    go_wp2_with fail
    refine (slvs_any a len cap L w (HI.out.keepB hB (Nat.le_refl _)) HZ.out HM.out).mono ?_
    rintro e w2 ⟨rfl, hs⟩
    have hB2 : Below w.heap.size w w2 := hB.trans (hs.below _)
    clear hs
    rw [hv]
    go_wp2_with fail
    refine (point_any ow w2).mono ?_
    rintro e w' ⟨rfl, rfl⟩
    rw [h0]
    go_wp2
    go_ret
    exact ⟨ret_int HE.out.symm, hB2⟩
  have HE := Lib.hid (keysI_yes hv h0)
  have h12 : 1 ≤ len ∧ len ≤ 12 := by have := lv_len hv; rw [HZ.out] at this; exact this
  obtain ⟨hl1, hl2⟩ := h12
  have HV1 := Lib.hid hv
  have HV2 := Lib.hid h0
  clear h0 hv
  go_enter Try.func20, Try.ntmps20
  have hB := Below.refl w.heap.size w
  go_wp2_with fail
  refine (slvs_any a len cap L w (HI.out.keepB hB (Nat.le_refl _)) HZ.out HM.out).mono ?_
  rintro e w2 ⟨rfl, hs⟩
  have hB2 : Below w.heap.size w w2 := hB.trans (hs.below _)
  clear hs
  rw [HV1.out]
  go_wp2_with fail
  refine (point_any ow w2).mono ?_
  rintro e w' ⟨rfl, rfl⟩
  rw [HV2.out]
  go_wp2
  go_loopw [5, 6] (fun n i wr => ∃ k : Nat, k ≤ 64 ∧ i = .int .i64 k ∧ n = .int .i64 (kcn L (ownB L ow) k : Nat) ∧ wr = w2) (fun _ i _ => 64 - (intOf i).toNat)
  case atStart => exact ⟨0, by omega, rfl, rfl, rfl⟩
  case round =>
    obtain ⟨k, hk, rfl, rfl, rfl⟩ := hrel
    have hkc := kcn_le L (ownB L ow) k
    by_cases hlt : k < 64
    · have hal := at_lt (L := L) (by rw [HZ.out]; omega) (k : Int)
      rw [HZ.out] at hal
      obtain ⟨b, off, rfl, hb0, hcells⟩ := (HI.out.keepB hB2 (Nat.le_refl _)).at_ (i := atL L k) (by rw [HZ.out]; exact hal)
      obtain ⟨hc0, hc1, hc2⟩ := hcells (atL L k) (by rw [HZ.out]; exact hal)
      clear hcells
      have hlt' : (k : Int) < 64 := by omega
      cases c1 : ((gl L (atL L k)).o == ow)
      · have hs : Hid (kcn L (ownB L ow) (k + 1) = kcn L (ownB L ow) k) := by show kcn L _ _ = _; rw [kcn, if_neg (by unfold ownB; simpa using c1)]; rfl
        go_wp2_with fail
        refine (sat_any _ len cap L k wr (HI.out.keepB hB2 (Nat.le_refl _)) HZ.out HM.out).mono ?_
        rintro e w' ⟨rfl, rfl⟩
        go_wp2
        go_roundw
        case rel => exact ⟨k + 1, by omega, by go_num, by rw [hs.out], by first | rfl | trivial⟩
        case measure => simp [intOf]; omega
      · have hs : Hid (kcn L (ownB L ow) (k + 1) = kcn L (ownB L ow) k + 1) := by show kcn L _ _ = _; rw [kcn, if_pos (by unfold ownB; simpa using c1)]
        go_wp2_with fail
        refine (sat_any _ len cap L k wr (HI.out.keepB hB2 (Nat.le_refl _)) HZ.out HM.out).mono ?_
        rintro e w' ⟨rfl, rfl⟩
        go_wp2
        go_roundw
        case rel => exact ⟨k + 1, by omega, by go_num, by rw [hs.out]; go_num, by first | rfl | trivial⟩
        case measure => simp [intOf]; omega
    · have hkk : k = 64 := by omega
      have HK := Lib.hid hkk
      clear hkk
      go_wp2
      go_ret
      exact ⟨ret_int (by rw [HE.out, HK.out, keysN]), hB2⟩

theorem mgS_same {L : List Ls} {j : Nat} (hs : sameLs (gl L j) (gl L (j + 1)) = true) : mgS L (j + 2) = (mgS L (j + 1)).set (mgTo L j).length ⟨(gl L (j + 1)).e, (gl L j).o, (gl L j).u⟩ := by
  have h := hs
  simp only [sameLs, decide_eq_true_eq] at h
  have e : (⟨(gl L (j + 1)).e, (gl L j).o, (gl L j).u⟩ : Ls) = gl L (j + 1) := by rw [h.1, h.2]
  rw [e]
  show mgTo L (j + 1) ++ [gl L (j + 1)] = (mgTo L j ++ [gl L j]).set _ _
  rw [mgTo, if_pos hs, List.append_nil, List.set_append, if_neg (by omega)]
  simp
theorem mgS_diff {L : List Ls} {j : Nat} (hs : sameLs (gl L j) (gl L (j + 1)) = false) : mgS L (j + 2) = mgS L (j + 1) ++ [gl L (j + 1)] := by
  show mgTo L (j + 1) ++ [gl L (j + 1)] = (mgTo L j ++ [gl L j]) ++ _
  rw [mgTo, if_neg (by rw [hs]; decide)]
theorem mgS_lenS (L : List Ls) (j : Nat) : (mgS L (j + 1)).length = (mgTo L j).length + 1 := by simp [mgS]
theorem mgS_at (L : List Ls) (j : Nat) : gl (mgS L (j + 1)) (mgTo L j).length = gl L j := by
  rw [gl_get (by rw [mgS_lenS]; omega)]
  simp [mgS]

set_option maxHeartbeats 2000000 in
theorem smerge_any (a : Option Addr) (len cap : Nat) (L : List Ls) (w : World) (h : LsAt w a L) (hz : L.length = len) (hm : len ≤ maxLen) :
    Calls Try.prog 15 #[.slice a len cap] w (NewL (mgR L) w) := by
  have HI := Lib.hid h
  have HZ := Lib.hid hz
  have HM := Lib.hid hm
  clear h hz hm
  cases hv : lvB L
  · have He := Lib.hid (mgR_no hv)
    have hown := own_none w #[] rfl
    obtain ⟨W, hW⟩ : ∃ W, W = w.alloc (.cells #[] 30) := ⟨_, rfl⟩
    have hWb : Below w.heap.size w W := by rw [hW]; exact alB _ _
    rw [← hW] at hown
    have HW := Lib.hid hW
    clear hW
    go_enter Try.func15, Try.ntmps15
    go_wp2_with fail
    rw [← HW.out]
    refine (slvs_any a len cap L W (HI.out.keepB hWb (Nat.le_refl _)) HZ.out HM.out).mono ?_
    rintro e w2 ⟨rfl, hs2⟩
    have hb2 := hs2.below W.heap.size
    rw [hv]
    have HO := Lib.hid (hown.keepB hb2 (Nat.le_refl _))
    clear hown
    go_wp2
    go_ret
    rw [He.out]
    exact ⟨w.heap.size, 0, rfl, HO.out, hWb.trans (hb2.mono (by have := hWb.size; omega))⟩
  have h12 : 1 ≤ len ∧ len ≤ 12 := by have := lv_len hv; rw [HZ.out] at this; exact this
  obtain ⟨hl1, hl2⟩ := h12
  have He := Lib.hid (mgR_yes hv)
  have hown := own_none w #[] rfl
  obtain ⟨W, hW⟩ : ∃ W, W = w.alloc (.cells #[] 30) := ⟨_, rfl⟩
  have hWb : Below w.heap.size w W := by rw [hW]; exact alB _ _
  rw [← hW] at hown
  have HF := Lib.hid hown
  have HW := Lib.hid hW
  clear hW hown
  go_enter Try.func15, Try.ntmps15
  go_wp2_with fail
  rw [← HW.out]
  refine (slvs_any a len cap L W (HI.out.keepB hWb (Nat.le_refl _)) HZ.out HM.out).mono ?_
  rintro e w2 ⟨rfl, hs2⟩
  have hb2 := hs2.below W.heap.size
  rw [hv]
  have HF2 : Hid (LsFar (mgS L 0) w (.slice (some ⟨w.heap.size, 0, none⟩) 0 0) w2) :=
    ⟨w.heap.size, 0, rfl, HF.out.keepB hb2 (Nat.le_refl _), hWb.trans (hb2.mono hWb.size)⟩
  clear hv
  go_wp2
  go_loopw [3, 4] (fun o i wr => ∃ k : Nat, k ≤ len ∧ i = .int .i64 k ∧ LsFar (mgS L k) w o wr) (fun _ i _ => len - (intOf i).toNat)
  case atStart => exact ⟨0, by omega, rfl, HF2.out⟩
  case round =>
    obtain ⟨k, hk, rfl, g, c, rfl, hown, hbel⟩ := hrel
    have HO := Lib.hid hown
    by_cases hlt : k < len
    · have hkL : Hid (k < L.length) := by show k < L.length; rw [HZ.out]; exact hlt
      have hml : Hid ((mgS L k).length ≤ 12) := by show _ ≤ 12; have := mgS_len L k; omega
      obtain ⟨b, off, rfl, hb0, hcells⟩ := (HI.out.keepB hbel (Nat.le_refl _)).at_ (i := k) hkL.out
      obtain ⟨hc0, hc1, hc2⟩ := hcells k hkL.out
      have hgb : w.heap.size ≤ g := hown.blk.1
      clear hcells hown
      rcases k with _ | j
      · have HL : Hid (mgS L 1 = mgS L 0 ++ [gl L 0]) := rfl
        have hz0 : Hid ((mgS L 0).length = 0) := rfl
        rw [hz0.out]
        have d0 : decide (0 < (0 : Int)) = false := by decide
        simp only [Nat.zero_mul, Nat.add_zero] at hc0 hc1 hc2
        go_wp2
        go_quiet (fail)
        clear d0
        go_wp2_with (at_builtin; refine wl_appL _ (by rfl) _ _ (by rfl) w.heap.size g 0 c (mgS L 0) [gl L 0] (by rfl) ((HO.out.keepB (bel_dN (Below.refl _ _) _) (Nat.le_refl _)).keepB (alB _ _) (Nat.le_refl _)) rfl ⟨wr.heap.size, 0, none⟩ 1 1 (by rfl) rfl (srcL_one (heap_alloc_new _ _)) 1 rfl (by omega) (by have := hbel.size; simp; omega) ?_; intro g' c' w5 hown5 hgr hat; have H5 := Lib.hid (lsfar_app ((bel_dN hbel _).trans ((alB _ _).mono hbel.size)) hgr hgb hown5); clear hown5 hgr hat)
        go_roundw
        case rel => exact ⟨1, by omega, by go_num, H5.out⟩
        case measure => simp [intOf]; omega
      · obtain ⟨n, hn⟩ : ∃ n, n = (mgTo L j).length := ⟨_, rfl⟩
        have hn2 : Hid ((mgS L (j + 1)).length = n + 1) := by show _ = _; rw [hn, mgS_lenS]
        have hat : Hid (gl (mgS L (j + 1)) n = gl L j) := by show _ = _; rw [hn]; exact mgS_at L j
        have hn12 : n + 1 ≤ 12 := by rw [← hn2.out]; exact hml.out
        have HNN := Lib.hid hn
        clear hn
        obtain ⟨x0, x1, x2⟩ := HO.out.cells (i := n) (by rw [hn2.out]; omega)
        rw [hat.out] at x0 x1 x2
        rw [hn2.out]
        have m1 : (((n + 1 : Nat) : Int) - 1).toNat = n := by omega
        have m2 : (0 : Int) < ((n + 1 : Nat) : Int) := by omega
        have m3 : decide (0 < ((n + 1 : Nat) : Int)) = true := by rw [decide_eq_true_eq]; omega
        have m4 : (0 : Int) ≤ ((n + 1 : Nat) : Int) - 1 := by omega
        cases hs : sameLs (gl L j) (gl L (j + 1))
        · have HL := Lib.hid (mgS_diff hs)
          cases c1 : ((gl L j).o == (gl L (j + 1)).o)
          · go_wp2
            go_quiet (fail)
            go_wp2_with (at_builtin; refine wl_appL _ (by rfl) _ _ (by rfl) w.heap.size g (n + 1) c (mgS L (j + 1)) [gl L (j + 1)] (by rfl) ((HO.out.keepB (bel_dN (Below.refl _ _) _) (Nat.le_refl _)).keepB (alB _ _) (Nat.le_refl _)) hn2.out ⟨wr.heap.size, 0, none⟩ 1 1 (by rfl) rfl (srcL_one (heap_alloc_new _ _)) (n + 1 + 1) rfl (by omega) (by have := hbel.size; simp; omega) ?_; intro g' c' w5 hown5 hgr hat; have H5 := Lib.hid (lsfar_app ((bel_dN hbel _).trans ((alB _ _).mono hbel.size)) hgr hgb hown5); clear hown5 hgr hat)
            go_roundw
            case rel => exact ⟨j + 1 + 1, by omega, by go_num, by rw [HL.out]; have := H5.out; rw [hn2.out] at this; exact this⟩
            case measure => simp [intOf]; omega
          · have c2 : ((gl L j).u == (gl L (j + 1)).u) = false := by
              have h1 := c1; have h2 := hs; simp at h1; simp [sameLs, h1] at h2; simpa using h2
            go_wp2
            go_quiet (fail)
            go_wp2_with (at_builtin; refine wl_appL _ (by rfl) _ _ (by rfl) w.heap.size g (n + 1) c (mgS L (j + 1)) [gl L (j + 1)] (by rfl) ((HO.out.keepB (bel_dN (Below.refl _ _) _) (Nat.le_refl _)).keepB (alB _ _) (Nat.le_refl _)) hn2.out ⟨wr.heap.size, 0, none⟩ 1 1 (by rfl) rfl (srcL_one (heap_alloc_new _ _)) (n + 1 + 1) rfl (by omega) (by have := hbel.size; simp; omega) ?_; intro g' c' w5 hown5 hgr hat; have H5 := Lib.hid (lsfar_app ((bel_dN hbel _).trans ((alB _ _).mono hbel.size)) hgr hgb hown5); clear hown5 hgr hat)
            go_roundw
            case rel => exact ⟨j + 1 + 1, by omega, by go_num, by rw [HL.out]; have := H5.out; rw [hn2.out] at this; exact this⟩
            case measure => simp [intOf]; omega
        · have HL := Lib.hid (mgS_same hs)
          have c1 : ((gl L j).o == (gl L (j + 1)).o) = true := by have h2 := hs; simp [sameLs] at h2; simp [h2.1]
          have c2 : ((gl L j).u == (gl L (j + 1)).u) = true := by have h2 := hs; simp [sameLs] at h2; simp [h2.2]
          have ho2 := HO.out.keepB (Below.refl _ _) (Nat.le_refl _)
          obtain ⟨_, _, cs, hbk, _⟩ := ho2.blk
          have f0 := frozen_of_cells hbk (n * 3)
          clear hbk ho2
          go_wp2
          go_quiet (fail)
          go_wp2
          go_roundw
          case rel =>
            refine ⟨j + 1 + 1, by omega, by go_num, ?_⟩
            rw [HL.out, ← HNN.out]
            have h1 := fun q => (HO.out.keepB (bel_dN (Below.refl wr.heap.size wr) q) (Nat.le_refl _)).setE (k := n) (by rw [hn2.out]; omega) (gl L (j + 1)).e
            simp only [hat.out] at h1
            exact ⟨g, c, by rw [List.length_set, hn2.out], h1 _, (bel_dN hbel _).setCell (by omega) _⟩
          case measure => simp [intOf]; omega
    · have hkk : k = L.length := by rw [HZ.out]; omega
      have HK := Lib.hid hkk
      clear hkk hown
      go_wp2
      go_ret
      rw [He.out, ← HK.out]
      exact ⟨g, c, rfl, HO.out, hbel⟩

end Go.Proofs.Ytoaamamconcieab
