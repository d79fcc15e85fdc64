/- What the model does with caches: looking up, removing, sweeping. -/
import Derived.Test.YtdlapnelehehgabCaV
namespace Go.Proofs.Ytdlapnelehehgab
open Go.RowKit
set_option linter.unusedVariables false
attribute [local go_sem ↓] Go.wp_at_zero Go.wp_at_succ

theorem tm_bd {L : List Ls} (h : lvB L = true) {k : Nat} (hk : k < L.length) : -1000000 ≤ (gl L k).u ∧ (gl L k).u ≤ 1000000 := by have := lv_u h hk; omega


/-- the row so far, behind one append -/
theorem far_app {M : List Ls} {x : Ls} {w wr w2 : World} {g g' cap' : Nat} (hb : Below w.heap.size w wr) (hgr : (wr.alloc (.cells #[.int .i64 x.e, .int .i64 x.o, .int .i64 x.u] 38)).grownBy w2 (some g)) (hgb : w.heap.size ≤ g)
    (ho : OwnS w2 w.heap.size g' cap' (M ++ [x])) : LsFar (M ++ [x]) w (.slice (some ⟨g', 0, none⟩) (M.length + 1) cap') w2 := by
  refine ⟨g', cap', by rw [List.length_append]; rfl, ho, ?_⟩
  exact (hb.trans ((alB wr _).mono hb.size)).grown hgr (by simp; have := hb.size; omega) (fun k hk => by injection hk with hk; omega)

set_option maxHeartbeats 2000000 in
theorem sdrop_any (a : Option Addr) (len cap : Nat) (L : List Ls) (key : Int) (w : World) (h : LsAt w a L) (hz : L.length = len) (hm : len ≤ maxLen) :
    Calls Try.prog 13 #[.slice a len cap, .int .i64 key] w (AnsS (dropR L key) w) := by
  have HI := Lib.hid h
  have HZ := Lib.hid hz
  have HM := Lib.hid hm
  clear h hz hm
  cases hv : lvB L
  · have HR := Lib.hid (dropR_bad (show dropOk L key = false by simp [dropOk, hv]))
    go_enter Try.func13, Try.ntmps13
    go_wp2_with fail
    refine (slvs_as false a len cap L w HI.out HZ.out HM.out hv).mono ?_
    rintro e w2 ⟨rfl, hs⟩
    have hB2 : Below w.heap.size w w2 := hs.below _
    clear hs
    go_wp2
    go_ret2
    rw [HR.out]
    exact ⟨w2.heap.size, 0, rfl, (own_none w2 _ rfl).less hB2.size, hB2.trans ((alB w2 _).mono hB2.size)⟩
  cases hp : ptB key
  · have HR := Lib.hid (dropR_bad (show dropOk L key = false by simp [dropOk, hp]))
    go_enter Try.func13, Try.ntmps13
    go_wp2_with fail
    refine (slvs_as true a len cap L w HI.out HZ.out HM.out hv).mono ?_
    rintro e w2 ⟨rfl, hs⟩
    have hB2 : Below w.heap.size w w2 := hs.below _
    clear hs
    go_wp2_with fail
    refine (point_any key w2).mono ?_
    rintro e w' ⟨rfl, rfl⟩
    rw [hp]
    go_wp2
    go_ret2
    rw [HR.out]
    exact ⟨w2.heap.size, 0, rfl, (own_none w2 _ rfl).less hB2.size, hB2.trans ((alB w2 _).mono hB2.size)⟩
  have HOK : Hid (dropOk L key = true) := by show _ = _; simp [dropOk, hv, hp]
  have hl6 := lv_len hv
  rw [HZ.out] at hl6
  go_enter Try.func13, Try.ntmps13
  go_wp2_with fail
  refine (slvs_as true a len cap L w HI.out HZ.out HM.out hv).mono ?_
  rintro e w2 ⟨rfl, hs⟩
  have hB2 : Below w.heap.size w w2 := hs.below _
  clear hs
  go_wp2_with fail
  refine (point_any key w2).mono ?_
  rintro e w' ⟨rfl, rfl⟩
  rw [hp]
  clear hv hp
  have H0 : Hid (LsFar (dropL (L.take 0) key) w (.slice (some ⟨w2.heap.size, 0, none⟩) 0 0) (w2.alloc (.cells #[] 38))) :=
    ⟨w2.heap.size, 0, rfl, (own_none w2 _ rfl).less hB2.size, hB2.trans ((alB w2 _).mono hB2.size)⟩
  go_wp2
  go_loopw [6, 7] (fun o i wr => ∃ k : Nat, k ≤ len ∧ i = .int .i64 k ∧ LsFar (dropL (L.take k) key) w o wr) (fun _ i _ => len - (intOf i).toNat)
  case atStart => exact ⟨0, by omega, rfl, H0.out⟩
  case round =>
    obtain ⟨k, hk, rfl, g, c, rfl, hown, hbel⟩ := hrel
    have HO := Lib.hid hown
    have hgb := hown.blk.1
    clear hown
    by_cases hlt : k < len
    · obtain ⟨b, off, rfl, hb0, hcells⟩ := (HI.out.keepB hbel (Nat.le_refl _)).at_ (i := k) (by rw [HZ.out]; exact hlt)
      obtain ⟨hc0, hc1, hc2⟩ := hcells k (by rw [HZ.out]; exact hlt)
      clear hcells
      have hkL : Hid (k < L.length) := by show k < L.length; rw [HZ.out]; exact hlt
      have HT := Lib.hid (drop_take (key := key) hkL.out)
      have hlk : (dropL (L.take k) key).length ≤ k := Nat.le_trans (drop_le _ _) (by simp; omega)
      obtain ⟨M, hM⟩ : ∃ M, M = dropL (L.take k) key := ⟨_, rfl⟩
      rw [← hM] at HO HT hlk ⊢
      clear hM
      by_cases he : (gl L k).e = key
      · have he' : ((gl L k).e != key) = false := by simp [he]
        have HE := Lib.hid he
        clear he
        go_wp2
        go_roundw
        case rel => exact ⟨k + 1, by omega, by go_num, by rw [HT.out, if_pos HE.out, List.append_nil]; exact ⟨g, c, rfl, HO.out, hbel⟩⟩
        case measure => simp [intOf]; omega
      · have he' : ((gl L k).e != key) = true := by simp [he]
        have HE := Lib.hid he
        clear he
        have hws := hbel.size
        go_wp2_with (at_builtin; refine wl_appL _ (by rfl) _ _ (by rfl) w.heap.size g M.length c M [gl L k] (by rfl) (HO.out.keepB (alB _ _) (Nat.le_refl _)) rfl ⟨_, 0, none⟩ 1 1 (by rfl) rfl (srcL_one (heap_alloc_new _ _)) (M.length + 1) rfl (by omega) (by simp; omega) ?_; intro g' c' w3 hown3 hgr hat; have H3 := Lib.hid (far_app hbel hgr hgb hown3); clear hown3 hgr hat)
        go_roundw
        case rel => exact ⟨k + 1, by omega, by go_num, by rw [HT.out, if_neg HE.out]; exact H3.out⟩
        case measure => simp [intOf]; omega
    · have hkl : k = L.length := by rw [HZ.out]; omega
      have HT : Hid (dropL (L.take k) key = dropL L key) := by show _ = _; rw [hkl, List.take_length]
      have HR := Lib.hid (dropR_ok HOK.out)
      rw [HT.out] at HO ⊢
      obtain ⟨M, hM⟩ : ∃ M, M = dropL L key := ⟨_, rfl⟩
      rw [← hM] at HO HR ⊢
      clear hM hkl
      have HOL : Hid (OwnS wr w.heap.size g c M) := HO.out
      by_cases hl : M.length < len
      · have HD : Hid (dropR L key = (M, true)) := by show _ = _; rw [HR.out, HZ.out]; simp [hl]
        go_wp2
        go_ret2
        rw [HD.out]
        exact ⟨g, c, rfl, HOL.out, hbel⟩
      · have HD : Hid (dropR L key = (M, false)) := by show _ = _; rw [HR.out, HZ.out]; simp; omega
        go_wp2
        go_ret2
        rw [HD.out]
        exact ⟨g, c, rfl, HOL.out, hbel⟩

set_option maxHeartbeats 2000000 in
theorem ssweep_any (a : Option Addr) (len cap : Nat) (L : List Ls) (now : Int) (w : World) (h : LsAt w a L) (hz : L.length = len) (hm : len ≤ maxLen) :
    Calls Try.prog 15 #[.slice a len cap, .int .i64 now] w (NewL (swR L now) w) := by
  have HI := Lib.hid h
  have HZ := Lib.hid hz
  have HM := Lib.hid hm
  clear h hz hm
  have HI1 := Lib.hid (HI.out.keepB (alB w (.cells #[] 38)) (Nat.le_refl _))
  obtain ⟨w1, hw1⟩ : ∃ w1, w1 = w.alloc (.cells #[] 38) := ⟨_, rfl⟩
  have hB1 : Below w.heap.size w w1 := by rw [hw1]; exact alB _ _
  have HO1 : Hid (OwnS w1 w.heap.size w.heap.size 0 []) := by show OwnS _ _ _ _ _; rw [hw1]; exact own_none w _ rfl
  rw [← hw1] at HI1
  have HW := Lib.hid hw1
  clear hw1
  cases hv : lvB L
  · have HR := Lib.hid (sw_bad (show swOk L now = false by simp [swOk, hv]))
    go_enter Try.func15, Try.ntmps15
    go_wp2_with fail
    rw [← HW.out]
    refine (slvs_as false a len cap L w1 HI1.out HZ.out HM.out hv).mono ?_
    rintro e w2 ⟨rfl, hs⟩
    have hB2 : Below w1.heap.size w1 w2 := hs.below _
    clear hs
    go_wp2
    go_ret
    rw [HR.out]
    exact ⟨w.heap.size, 0, rfl, HO1.out.keepB hB2 (Nat.le_refl _), hB1.trans (hB2.mono hB1.size)⟩
  cases ht : tmB now
  · have HR := Lib.hid (sw_bad (show swOk L now = false by simp [swOk, ht]))
    go_enter Try.func15, Try.ntmps15
    go_wp2_with fail
    rw [← HW.out]
    refine (slvs_as true a len cap L w1 HI1.out HZ.out HM.out hv).mono ?_
    rintro e w2 ⟨rfl, hs⟩
    have hB2 : Below w1.heap.size w1 w2 := hs.below _
    clear hs
    go_wp2_with fail
    refine (stime_any now w2).mono ?_
    rintro e w' ⟨rfl, rfl⟩
    rw [ht]
    go_wp2
    go_ret
    rw [HR.out]
    exact ⟨w.heap.size, 0, rfl, HO1.out.keepB hB2 (Nat.le_refl _), hB1.trans (hB2.mono hB1.size)⟩
  have HOK : Hid (swOk L now = true) := by show _ = _; simp [swOk, hv, ht]
  have HV := Lib.hid hv
  have hl6 := lv_len hv
  rw [HZ.out] at hl6
  go_enter Try.func15, Try.ntmps15
  go_wp2_with fail
  rw [← HW.out]
  refine (slvs_as true a len cap L w1 HI1.out HZ.out HM.out hv).mono ?_
  rintro e w2 ⟨rfl, hs⟩
  have hB2 : Below w1.heap.size w1 w2 := hs.below _
  clear hs
  go_wp2_with fail
  refine (stime_any now w2).mono ?_
  rintro e w' ⟨rfl, rfl⟩
  rw [ht]
  clear hv ht
  have H0 : Hid (LsFar (swL (L.take 0) now) w (.slice (some ⟨w.heap.size, 0, none⟩) 0 0) w2) := ⟨w.heap.size, 0, rfl, HO1.out.keepB hB2 (Nat.le_refl _), hB1.trans (hB2.mono hB1.size)⟩
  go_wp2
  go_loopw [5, 6] (fun o i wr => ∃ k : Nat, k ≤ len ∧ i = .int .i64 k ∧ LsFar (swL (L.take k) now) w o wr) (fun _ i _ => len - (intOf i).toNat)
  case atStart => exact ⟨0, by omega, rfl, H0.out⟩
  case round =>
    obtain ⟨k, hk, rfl, g, c, rfl, hown, hbel⟩ := hrel
    have HO := Lib.hid hown
    have hgb := hown.blk.1
    clear hown
    by_cases hlt : k < len
    · obtain ⟨b, off, rfl, hb0, hcells⟩ := (HI.out.keepB hbel (Nat.le_refl _)).at_ (i := k) (by rw [HZ.out]; exact hlt)
      obtain ⟨hc0, hc1, hc2⟩ := hcells k (by rw [HZ.out]; exact hlt)
      clear hcells
      have hkL : Hid (k < L.length) := by show k < L.length; rw [HZ.out]; exact hlt
      have HT := Lib.hid (sw_take (now := now) hkL.out)
      have hlk : (swL (L.take k) now).length ≤ k := frN_le L now k
      obtain ⟨M, hM⟩ : ∃ M, M = swL (L.take k) now := ⟨_, rfl⟩
      rw [← hM] at HO HT hlk ⊢
      clear hM
      have hws := hbel.size
      cases hf : frB (gl L k) now
      · have HF := Lib.hid hf
        clear hf
        go_wp2_with fail
        refine (fresh_as false (gl L k) now wr (tm_bd HV.out hkL.out) HF.out).mono ?_
        rintro e w3 ⟨rfl, hb3⟩
        have HO3 := Lib.hid (HO.out.keepB hb3 (Nat.le_refl _))
        clear hc0 hc1 hc2
        go_wp2
        go_roundw
        case rel => exact ⟨k + 1, by omega, by go_num, by rw [HT.out, if_neg (by rw [HF.out]; decide), List.append_nil]; exact ⟨g, c, rfl, HO3.out, hbel.trans (hb3.mono hbel.size)⟩⟩
        case measure => simp [intOf]; omega
      · have HF := Lib.hid hf
        clear hf
        go_wp2_with fail
        refine (fresh_as true (gl L k) now wr (tm_bd HV.out hkL.out) HF.out).mono ?_
        rintro e w3 ⟨rfl, hb3⟩
        have HO3 := Lib.hid (HO.out.keepB hb3 (Nat.le_refl _))
        have hbel3 := hbel.trans (hb3.mono hbel.size)
        have hd0 := (hb3.cell (p := ⟨b, off + k * 3, none⟩) hb0).trans hc0
        have hd1 := (hb3.cell (p := ⟨b, off + k * 3 + 1, none⟩) hb0).trans hc1
        have hd2 := (hb3.cell (p := ⟨b, off + k * 3 + 2, none⟩) hb0).trans hc2
        have hws3 := hbel3.size
        clear hc0 hc1 hc2
        go_wp2_with (at_builtin; refine wl_appL _ (by rfl) _ _ (by rfl) w.heap.size g M.length c M [gl L k] (by rfl) (HO3.out.keepB (alB _ _) (Nat.le_refl _)) rfl ⟨_, 0, none⟩ 1 1 (by rfl) rfl (srcL_one (heap_alloc_new _ _)) (M.length + 1) rfl (by omega) (by simp; omega) ?_; intro g' c' w4 hown4 hgr hat; have H4 := Lib.hid (far_app hbel3 hgr hgb hown4); clear hown4 hgr hat)
        go_roundw
        case rel => exact ⟨k + 1, by omega, by go_num, by rw [HT.out, if_pos HF.out]; exact H4.out⟩
        case measure => simp [intOf]; omega
    · have hkl : k = L.length := by rw [HZ.out]; omega
      have HT : Hid (swL (L.take k) now = swR L now) := by show _ = _; rw [hkl, List.take_length, sw_ok HOK.out]
      rw [HT.out] at HO ⊢
      clear hkl
      go_wp2
      go_ret
      exact ⟨g, c, rfl, HO.out, hbel⟩
end Go.Proofs.Ytdlapnelehehgab
