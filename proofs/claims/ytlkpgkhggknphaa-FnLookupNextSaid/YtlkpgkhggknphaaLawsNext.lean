/- The walks of the laws of lookups: paths. -/
import Derived.Test.YtlkpgkhggknphaaLawsPath
import Derived.IntWalk
import Derived.Deep.RegionWith
namespace Go.Proofs.Ytlkpgkhggknphaa
open Go.RowKit
set_option linter.unusedVariables false

theorem path_next {zs : List Int} (hv : vldB zs = true) {key : Int} (h0 : 0 ≤ key) (h1 : key < 64) (id : Int) (hid : id ∈ zs) :
    ∀ i, i + 1 < (pathL zs id key).length → lnxL zs (gt (pathL zs id key) i) key = gt (pathL zs id key) (i + 1) := by
  refine path_ind (R := fun id => ∀ i, i + 1 < (pathL zs id key).length → lnxL zs (gt (pathL zs id key) i) key = gt (pathL zs id key) (i + 1)) hv h0 h1 ?_ ?_ id hid
  · intro id hid e i hi
    rw [path_end e] at hi; simp at hi
  · intro id hid e ih i hi
    rw [path_step hv hid h0 h1 e] at hi ⊢
    simp only [List.length_cons] at hi
    cases i with
    | zero => rw [gt_cons_zero, gt_cons_succ, path_head]
    | succ i => rw [gt_cons_succ, gt_cons_succ]; exact ih i (by omega)
theorem scan_is {zs : List Int} {id key : Int} : ∀ k, (∃ i, i ≤ k ∧ lnScan zs id key k = fgAt zs id i) ∧ (lnScan zs id key k = fgAt zs id 0 ∨ btwI id (lnScan zs id key k) key = true) := by
  intro k
  induction k with
  | zero => exact ⟨⟨0, Nat.le_refl _, rfl⟩, .inl rfl⟩
  | succ k ih =>
    unfold lnScan
    split
    · rename_i h; exact ⟨⟨k + 1, Nat.le_refl _, rfl⟩, .inr h⟩
    · obtain ⟨⟨i, hi, e⟩, h2⟩ := ih
      exact ⟨⟨i, by omega, e⟩, h2⟩
/-- a node asks one of its fingers -/
theorem lnx_finger {zs : List Int} (id key : Int) : hasB (fgTo zs id 6) (lnxL zs id key) = true := by
  have : ∃ i, i ≤ 5 ∧ lnxL zs id key = fgAt zs id i := by
    unfold lnxL; split
    · exact ⟨0, by omega, rfl⟩
    · exact (scan_is 5).1
  obtain ⟨i, hi, e⟩ := this
  rw [hasB_iff, e]
  exact List.mem_map.2 ⟨i, List.mem_range.2 (by omega), rfl⟩
/-- a node asks the holder, or one that is not behind the key -/
theorem lnx_fin {zs : List Int} (hv : vldB zs = true) {id key : Int} (hid : id ∈ zs) (h0 : 0 ≤ key) (h1 : key < 64) (hne : ¬ id = key) : lnxL zs id key = nxtL zs key ∨ btwI id key (lnxL zs id key) = false := by
  have pid := vld_pt hv hid
  have f0p := vld_pt hv (fg_mem hv id 0)
  have hmin := nxt_min hv (key := (id + 1) % 64) (by omega) (by omega) hid
  have e : fgAt zs id 0 = nxtL zs ((id + 1) % 64) := rfl
  rw [← e] at hmin
  cases hh : hldI id (fgAt zs id 0) key
  · refine .inr ?_
    rw [lnx_scan hh]
    unfold hldI at hh
    rw [decide_eq_false_iff_not] at hh
    have hp := vld_pt hv (lnScan_mem hv id key 5)
    rcases (scan_is (zs := zs) (id := id) (key := key) 5).2 with h | h
    · rw [h]; unfold btwI; rw [decide_eq_false_iff_not]; omega
    · unfold btwI at h ⊢; rw [decide_eq_true_iff] at h; rw [decide_eq_false_iff_not]; omega
  · refine .inl ?_
    rw [lnx_first hh]
    unfold hldI at hh
    rw [decide_eq_true_iff] at hh
    have po := vld_pt hv (nxt_mem hv key)
    have a1 := nxt_min hv (key := (id + 1) % 64) (by omega) (by omega) (nxt_mem hv key)
    rw [← e] at a1
    have a2 := nxt_min hv h0 h1 (fg_mem hv id 0)
    have a3 := nxt_min hv h0 h1 hid
    omega

set_option maxHeartbeats 2000000 in
theorem lookupNextFinger (s : Option Addr) (len cap : Nat) (z : List Int) (w : World) (h : RowIn .u8 w s len cap z) :
    Calls Try.prog 4 #[.slice s len cap] w fun e w' => e = .returned (.bool true) ∧ Below w.heap.size w w' := by
  have hb := bytes_of_row h
  have hm : len ≤ maxLen := Nat.le_trans hb.1 hb.2.1
  unfold maxLen at hm
  clear h
  by_cases hl : 1048576 < len
  · go_enter Try.func4, Try.ntmps4
    go_wp2
    go_ret
    exact ⟨rfl, Below.refl _ _⟩
  have hlB : decide ((1048576 : Int) < (len : Int)) = false := by simp; omega
  go_enter Try.func4, Try.ntmps4
  go_wp2_with fail
  refine (drawNext s len cap w hb).mono ?_
  rintro e w1 ⟨a, cap1, zs, id, key, rfl, hi1, hl1, hlc1, hB1⟩
  have HI1 := Lib.hid hi1.ints
  have hmx : zs.length ≤ maxLen := by unfold maxLen; omega
  have HM := Lib.hid hmx
  clear hi1 hmx hb
  obtain ⟨v, hv⟩ : ∃ v, lnxV zs id key = v := ⟨_, rfl⟩
  have hc1 := lnext_any a _ cap1 zs id key w1 HI1.out rfl HM.out
  rw [hv] at hc1
  have HLV := Lib.hid hv
  clear hv
  go_wp2_with fail
  refine hc1.mono ?_
  clear hc1
  rintro e w2 ⟨rfl, hb2⟩
  have hB2 : Below w.heap.size w w2 := hB1.trans (hb2.mono hB1.size)
  have HI2 := Lib.hid (HI1.out.keepB hb2 (Nat.le_refl _))
  have hc1 := slnx_any a _ cap1 zs id key w2 HI2.out rfl HM.out
  rw [HLV.out] at hc1
  go_wp2_with fail
  refine hc1.mono ?_
  clear hc1
  rintro e w3 ⟨rfl, hb3⟩
  have hB3 : Below w.heap.size w w3 := hB2.trans (hb3.mono hB2.size)
  have HI3 := Lib.hid (HI2.out.keepB hb3 (Nat.le_refl _))
  clear hb2 hb3 hB1 hB2 HI1 HI2
  have q1 : (v != v) = false := by simp
  have q2 : (v == v) = true := by simp
  by_cases hneg : v < 0
  · go_wp2
    go_ret
    exact ⟨rfl, hB3⟩
  have hmk : memB zs id = true ∧ ptB key = true := by
    cases hm' : memB zs id
    · have := lnxV_no (key := key) (.inl hm'); rw [HLV.out] at this; omega
    · cases hk' : ptB key
      · have := lnxV_no (zs := zs) (id := id) (.inr hk'); rw [HLV.out] at this; omega
      · exact ⟨rfl, rfl⟩
  obtain ⟨hmem, hkey⟩ := hmk
  obtain ⟨hk0, hk1⟩ := (ptB_iff _).1 hkey
  obtain ⟨hvl, hid⟩ := memB_yes hmem
  have hlv : lnxL zs id key = v := by rw [← HLV.out, lnxV_yes hmem hkey]
  have HFE : Hid (hasB (fgTo zs id 6) v = true) := by rw [← hlv]; exact lnx_finger id key
  have hfin : Hid (¬ id = key → v = nxtI zs key ∨ btwB id key v = false) := by
    show ¬ id = key → v = nxtI zs key ∨ btwB id key v = false
    intro hne
    rw [nxtI_eq hvl hkey, ← hlv, btwB_pt ((ptB_iff _).2 (vld_pt hvl hid)) hkey ((ptB_iff _).2 (vld_pt hvl (lnx_mem hvl id key)))]
    exact lnx_fin hvl hid hk0 hk1 hne
  have hc1 := fingers_any a _ cap1 zs id w3 HI3.out rfl HM.out
  rw [fgV_yes hmem] at hc1
  clear hmem hkey hvl hid hlv hk0 hk1
  go_wp2_with fail
  refine hc1.mono ?_
  clear hc1
  rintro e w4 ⟨g, gc, rfl, ho, hb4⟩
  have HO := Lib.hid ho.ints
  clear ho
  have hB4 : Below w.heap.size w w4 := hB3.trans (hb4.mono hB3.size)
  have HI4 := Lib.hid (HI3.out.keepB hb4 (Nat.le_refl _))
  go_wp2_with fail
  refine (lhas_as true (some ⟨g, 0, none⟩) _ gc (fgTo zs id 6) v w4 HO.out rfl (by rw [fgTo_len]; unfold maxLen; omega) HFE.out).mono ?_
  rintro e w5 ⟨rfl, rfl⟩
  by_cases he : id = key
  · have hq : (id == key) = true := by simp [he]
    clear he
    go_wp2
    go_ret
    exact ⟨rfl, hB4⟩
  · have hq : (id == key) = false := by simpa using he
    have hd := hfin.out he
    clear he
    rcases hbt : btwB id key v with _ | _
    · clear hd
      go_wp2_with (go_at_call 14; refine (cbtw_any _ _ _ _).mono ?_; rintro e w' ⟨rfl, rfl⟩)
      go_ret
      exact ⟨rfl, hB4⟩
    · have hvn : (v == nxtI zs key) = true := by
        rcases hd with h | h
        · rw [← h]; simp
        · rw [hbt] at h; cases h
      clear hd
      go_wp2_with (first | (go_at_call 14; refine (cbtw_any _ _ _ _).mono ?_; rintro e w' ⟨rfl, rfl⟩) | (go_at_call 15; refine (nnext_any _ _ _ zs _ _ HI4.out rfl HM.out).mono ?_; rintro e w' ⟨rfl, rfl⟩))
      go_ret
      exact ⟨rfl, hB4⟩

set_option maxHeartbeats 2000000 in
theorem lookupNext (s : Option Addr) (len cap : Nat) (z : List Int) (w : World) (h : RowIn .u8 w s len cap z) :
    Calls Try.prog 3 #[.slice s len cap] w fun e w' => e = .returned (.bool true) ∧ Below w.heap.size w w' := by
  have hb := bytes_of_row h
  have hm : len ≤ maxLen := Nat.le_trans hb.1 hb.2.1
  unfold maxLen at hm
  clear h
  by_cases hl : 1048576 < len
  · go_enter Try.func3, Try.ntmps3
    go_wp2
    go_ret
    exact ⟨rfl, Below.refl _ _⟩
  have hlB : decide ((1048576 : Int) < (len : Int)) = false := by simp; omega
  go_enter Try.func3, Try.ntmps3
  go_wp2_with fail
  refine (drawPath s len cap w hb).mono ?_
  rintro e w1 ⟨a, cap1, zs, id, key, rfl, hi1, hl1, hlc1, hB1⟩
  have HI1 := Lib.hid hi1.ints
  have hmx : zs.length ≤ maxLen := by unfold maxLen; omega
  have HM := Lib.hid hmx
  clear hi1 hmx hb
  obtain ⟨L, hL⟩ : ∃ L, pathV zs id key = L := ⟨_, rfl⟩
  have hL8 : L.length ≤ 8 := by rw [← hL]; exact pathV_len zs id key
  have HL := Lib.hid hL
  clear hL
  have hc1 := lpath_any a _ cap1 zs id key w1 HI1.out rfl HM.out
  rw [HL.out] at hc1
  go_wp2_with fail
  refine hc1.mono ?_
  clear hc1
  rintro e w2 ⟨g, gc, rfl, ho, hb2⟩
  have hB2 : Below w.heap.size w w2 := hB1.trans (hb2.mono hB1.size)
  have HO2 := Lib.hid ho.ints
  have hcap := ho.cap_le.1
  clear ho
  have hc1 := spath_any a _ cap1 zs id key w2 (HI1.out.keepB hb2 (Nat.le_refl _)) rfl HM.out
  rw [HL.out] at hc1
  go_wp2_with fail
  refine hc1.mono ?_
  clear hc1
  rintro e w3 ⟨g2, gc2, rfl, ho2, hb3⟩
  have hB3 : Below w.heap.size w w3 := hB2.trans (hb3.mono hB2.size)
  have HP3 := Lib.hid (HO2.out.keepB hb3 (Nat.le_refl _))
  have HQ3 := Lib.hid ho2.ints
  have HI3 := Lib.hid ((HI1.out.keepB hb2 (Nat.le_refl _)).keepB hb3 (Nat.le_refl _))
  clear ho2 hb2 hb3 hB1 hB2
  go_wp2_with fail
  refine (sameI_any _ _ _ _ _ L w3 HP3.out HQ3.out rfl (by omega)).mono ?_
  rintro e w4 ⟨rfl, hs4⟩
  have hB4 : Below w.heap.size w w4 := hB3.trans (hs4.below _)
  have HP4 := Lib.hid (HP3.out.same hs4)
  have HQ4 := Lib.hid (HQ3.out.same hs4)
  have HI4 := Lib.hid (HI3.out.same hs4)
  clear hs4 hB3
  have HST : Hid (∀ i, i + 1 < L.length → lnxV zs (gt L i) key = gt L (i + 1)) := by
    show ∀ i, i + 1 < L.length → lnxV zs (gt L i) key = gt L (i + 1)
    intro i hi
    obtain ⟨hmem, hkey, hLp⟩ := pathV_some HL.out (by omega)
    obtain ⟨hk0, hk1⟩ := (ptB_iff _).1 hkey
    obtain ⟨hv, hid⟩ := memB_yes hmem
    have hin := (path_sub hv hk0 hk1 id hid (gt L i) (by rw [hLp]; exact gt_mem (by omega))).1
    rw [lnxV_yes (memB_mk hv hin) hkey, ← hLp]
    exact path_next hv hk0 hk1 id hid i (by rw [hLp]; exact hi)
  have HC := Lib.hid (cells_of HP4.out)
  have hglt : g < w4.heap.size ∨ L.length = 0 := by
    rcases HP4.out with h0 | ⟨b, off, ha, hb, _⟩
    · exact .inr (by rw [h0]; rfl)
    · injection ha with ha; injection ha with h1 h2; subst h1; exact .inl hb
  go_wp2
  go_loopw [8] (fun i wr => ∃ k : Nat, 1 ≤ k ∧ k ≤ L.length + 1 ∧ i = .int .i64 k ∧ Below w4.heap.size w4 wr) (fun i _ => L.length + 1 - (intOf i).toNat)
  case atStart => exact ⟨1, by omega, by omega, rfl, Below.refl _ _⟩
  case round =>
    obtain ⟨k, hk1', hk, rfl, hbr⟩ := hrel
    by_cases hlt : k < L.length
    · obtain ⟨j, rfl⟩ : ∃ j, k = j + 1 := ⟨k - 1, by omega⟩
      have hg : g < w4.heap.size := by omega
      have ca := (hbr.cell (p := ⟨g, j, none⟩) hg).trans (HC.out j (by omega))
      have cb := (hbr.cell (p := ⟨g, j + 1, none⟩) hg).trans (HC.out (j + 1) hlt)
      have hgr : g < wr.heap.size := by have := hbr.size; omega
      have hst := HST.out j hlt
      have hne : (gt L (j + 1) != lnxV zs (gt L j) key) = false := by rw [hst]; simp
      clear hst
      have hIr := HI4.out.keepB hbr (Nat.le_refl _)
      have hw : IntKind.i64.wrap ((j : Int) + 1 - 1) = (j : Int) := by rw [show (j : Int) + 1 - 1 = j by omega]; exact IntWalk.i64_in _ (by omega)
      have hw1 : IntKind.i64.wrap (j : Int) = (j : Int) := IntWalk.i64_in _ (by omega)
      have hw' : (j : Int) + 1 - 1 = (j : Int) := by omega
      have f0 : (0 : Int) ≤ (j : Int) := by omega
      have f1 : (j : Int) < (L.length : Int) := by omega
      have f2 : (j : Int) + 1 < (L.length : Int) := by omega
      have f3 : (0 : Int) ≤ (j : Int) + 1 := by omega
      have f4 : ((j : Int) + 1).toNat = j + 1 := by omega
      go_wp2
      go_region_with ((go_at_call 9; refine (lnext_any _ _ _ zs _ _ _ (by exact hIr) rfl HM.out).mono ?_; rintro e w5 ⟨rfl, hb5⟩; have cb5 : w5.cell? ⟨g, j + 1, none⟩ = some (.int .i64 (gt L (j + 1))) := (hb5.cell (p := ⟨g, j + 1, none⟩) hgr).trans cb))
      all_goals
        clear hw hw1 hw' f4
        go_wp2
        go_roundw
        case rel => exact ⟨j + 1 + 1, by omega, by omega, by go_num, by first | exact hbr.trans ((((Below.refl wr.heap.size wr).drew).trans hb5).mono hbr.size) | exact (hbr.trans ((((Below.refl wr.heap.size wr).drew).trans hb5).mono hbr.size)).drew⟩
        case measure => simp [intOf]; omega
    · have hge : (L.length : Int) ≤ (k : Int) := by omega
      go_wp2
      go_ret
      exact ⟨rfl, hB4.trans (hbr.mono hB4.size)⟩

end Go.Proofs.Ytlkpgkhggknphaa
