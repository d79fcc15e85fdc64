/- The program: the table of all nodes. -/
import Derived.Test.YtidabcdaodlfeaaPlP4
import Derived.Test.YtidabcdaodlfeaaPlP5
namespace Go.Proofs.Ytidabcdaodlfeaa
open Go.RowKit Go.Maps Go.Sort Go.Shelf
set_option linter.unusedVariables false
attribute [local go_sem ↓] Go.wp_at_zero Go.wp_at_succ

theorem takeK_succ {L : List Tk} {k : Nat} (h : k < L.length) : L.take (k + 1) = L.take k ++ [gk L k] := by
  rw [List.take_add_one, List.getElem?_eq_getElem h, gk_get h]; rfl
/-- the sorted keys in a row of their own -/
theorem row_posT {w : World} {base n : Nat} {v : Value} {ss : List Int} {X : List Int} (h : w.ownsRow base 3 1 v n ((ss.mergeSort (fun x y => decide (x ≤ y))).map encZ)) (hX : ss.mergeSort (fun x y => decide (x ≤ y)) = X) (h0 : 0 < X.length) (hn : n = X.length) :
    ∃ g c, v = .slice (some ⟨g, 0, none⟩) X.length c ∧ OwnI w base (some ⟨g, 0, none⟩) c X := by
  rw [hX] at h
  subst hn
  rcases h.2 with ⟨_, hz⟩ | ⟨g, cap, cur, rfl, hrest⟩
  · omega
  · exact ⟨g, cap, rfl, h⟩

set_option maxRecDepth 100000 in
set_option maxHeartbeats 2000000 in
theorem pplace_any (a b : Option Addr) (la lb ca cb : Nat) (zs ws : List Int) (w : World) (ha : IntsAt w a zs) (hb : IntsAt w b ws) (hza : zs.length = la) (hzb : ws.length = lb) (hma : la ≤ maxLen) (hmb : lb ≤ maxLen) :
    Calls Try.prog 22 #[.slice a la ca, .slice b lb cb] w (RowT (plR zs ws) w) := by
  have HA := Lib.hid ha
  have HB := Lib.hid hb
  have HZA := Lib.hid hza
  have HZB := Lib.hid hzb
  have HMA := Lib.hid hma
  have HMB := Lib.hid hmb
  clear ha hb hza hzb hma hmb
  cases hv : plOk zs ws
  · have HR := Lib.hid (plR_bad hv)
    have HV := Lib.hid hv
    clear hv
    go_enter Try.func22, Try.ntmps22
    go_wp2_with fail
    refine (haveW_as false a b la lb ca cb zs ws w HA.out HB.out HZA.out HZB.out HMA.out HMB.out HV.out).mono ?_
    rintro e w' ⟨rfl, rfl⟩
    go_wp2
    go_ret
    rw [HR.out]
    exact ⟨_, _, rfl, .inl rfl, alB w _⟩
  · have HV := Lib.hid hv
    obtain ⟨T, hT⟩ : ∃ T, T = tabTo zs ws 64 := ⟨_, rfl⟩
    have HR : Hid (plR zs ws = T) := by show _ = _; rw [hT]; exact plR_ok hv
    have htb : tbB T = true := by rw [hT]; exact tab_valid hv
    have ht0 := tb_len htb
    have ht64 := tb_len64 htb
    have HF := Lib.hid (show ∀ k, k < T.length → fstP zs ws zs.length (gk T k).p = some (gk T k).n by intro k hk; have := gk_mem hk; rw [hT] at this ⊢; exact tab_fst this)
    have HPT := Lib.hid (fun (k : Nat) (hk : k < T.length) => tb_p htb hk)
    have HNT := Lib.hid (fun (k : Nat) (hk : k < T.length) => tb_n htb hk)
    have HT := Lib.hid hT
    have hlen := vld_len ((plOk_iff _ _).1 hv).1
    have hz50 : 5 * zs.length ≤ 50 := by omega
    have HZ50 := Lib.hid hz50
    clear hT htb hv hlen hz50
    obtain ⟨t, ht⟩ : ∃ t, T.length = t := ⟨_, rfl⟩
    rw [ht] at ht0 ht64
    have HTL := Lib.hid ht
    clear ht
    go_enter Try.func22, Try.ntmps22
    go_wp2_with fail
    refine (haveW_as true a b la lb ca cb zs ws w HA.out HB.out HZA.out HZB.out HMA.out HMB.out HV.out).mono ?_
    rintro e w' ⟨rfl, rfl⟩
    go_wp2_with fail
    refine (nodesAt_any a b la lb ca cb zs ws w HA.out HB.out HZA.out HZB.out HV.out).mono ?_
    rintro e w1 ⟨rfl, hmap, hb1⟩
    have hml := hmap.lt
    obtain ⟨w2, hw2⟩ : ∃ w2, w2 = w1.alloc (.cells #[] 35) := ⟨_, rfl⟩
    have HO0 : Hid (OwnK w2 w1.heap.size w1.heap.size 0 []) := by show OwnK _ _ _ _ _; rw [hw2]; exact ownk_none w1 _ rfl
    have hb12 : Below w1.heap.size w1 w2 := by rw [hw2]; exact alB w1 _
    have hs2 : w2.heap.size = w1.heap.size + 1 := by rw [hw2]; simp
    have HM2 := Lib.hid (hmap.keepB hb12 (Nat.le_refl _))
    have HB2 := Lib.hid (hb1.trans (hb12.mono hb1.size))
    have HW2 := Lib.hid hw2
    have HS2 := Lib.hid hs2
    have HB12 := Lib.hid hb12
    have HBS := Lib.hid hb1.size
    have HB1 := Lib.hid hb1
    clear hmap hb1 hb12 hw2 hs2
    go_wp2_with fail
    rw [← HW2.out]
    refine (keys_any _ w2).mono ?_
    rintro e w' ⟨rfl, rfl⟩
    obtain ⟨D, hown, his⟩ := HM2.out
    have hsz := hown.size_le
    have HKS := Lib.hid (fun (ss : List Int) (hs : ss.Perm (intKeys D)) => keys_sorted his hown lawI Try.underlying3 hs)
    have HOW := Lib.hid hown
    have HIS := Lib.hid his
    have HSO := Lib.hid (sorted_any w.heap.size _ D _ w2 hown (by have := HZ50.out; omega))
    clear hown his hsz
    go_wp2_with fail
    refine HSO.out.mono ?_
    rintro e w3 ⟨v, ss, rfl, hperm, hrow, hnil, hb23⟩
    have hX := HKS.out ss hperm
    rw [← HT.out] at hX
    have hsl : ss.length = (posT T).length := by rw [← hX, List.length_mergeSort]
    obtain ⟨gx, cx, rfl, hox⟩ := row_posT hrow hX (by rw [posT_len, HTL.out]; exact ht0) hsl
    rw [posT_len, HTL.out]
    have hgx := hox.lt
    have HX := Lib.hid hox
    have hb23' : Below w2.heap.size w2 w3 := (alB w2 (.cells #[.map (some w.heap.size)] 63)).trans (hb23.mono (by simp))
    have hgx2 : w2.heap.size ≤ gx := by have h1 := hgx.1; simp at h1; omega
    have HO3 := Lib.hid (HO0.out.keepB hb23' (Nat.le_refl _))
    have HM3 := Lib.hid (show MapAt w3 w.heap.size _ _ from (show MapAt w2 w.heap.size _ _ from ⟨D, HOW.out, HIS.out⟩).keepB hb23' (Nat.le_refl _))
    have HB13 := Lib.hid (HB12.out.trans (hb23'.mono HB12.out.size))
    have hne0 : w1.heap.size ≠ gx := by have := HS2.out; omega
    have hgx3 := hgx.2
    clear hrow hnil hb23 hX hsl hperm hox HKS HSO HM2 HOW HIS HO0 hgx hb23'
    go_wp2
    go_loopw [6, 22] (fun o iv wr => ∃ (k g cc : Nat), k ≤ t ∧ iv = .int .i64 k ∧ o = .slice (some ⟨g, 0, none⟩) k cc ∧ g ≠ gx ∧ w1.heap.size ≤ g ∧ g < wr.heap.size ∧ gx < wr.heap.size ∧ OwnK wr w1.heap.size g cc (T.take k) ∧ OwnI wr w2.heap.size (some ⟨gx, 0, none⟩) cx (posT T) ∧ MapAt wr w.heap.size (5 * zs.length) (fstP zs ws zs.length) ∧ Below w1.heap.size w1 wr) (fun _ iv _ => t - (intOf iv).toNat)
    case atStart =>
      refine ⟨0, w1.heap.size, 0, by omega, rfl, rfl, hne0, Nat.le_refl _, ?_, hgx3, by simpa using HO3.out, HX.out.less (by simp), HM3.out, HB13.out⟩
      exact HO3.out.blk.2.1
    case round =>
      obtain ⟨k, g, cc, hk, rfl, rfl, hne, hg0, hg1, hgx1, ho, hox, hmap, hbel⟩ := hrel
      have HO := Lib.hid ho
      have HX := Lib.hid hox
      clear ho HO3 HM3
      by_cases hlt : k < t
      · obtain ⟨g', he, _, _, hcells, _⟩ := hox.at_ (by rw [posT_len, HTL.out]; omega)
        injection he with he; injection he with he; subst he
        have hck := hcells k (by rw [posT_len, HTL.out]; exact hlt)
        rw [posT_gt (by rw [HTL.out]; exact hlt)] at hck
        have hfk := HF.out k (by rw [HTL.out]; exact hlt)
        have hpk := HPT.out k (by rw [HTL.out]; exact hlt)
        have hnk := HNT.out k (by rw [HTL.out]; exact hlt)
        have HTK := Lib.hid (takeK_succ (L := T) (k := k) (by rw [HTL.out]; exact hlt))
        obtain ⟨x, hx⟩ : ∃ x, x = gk T k := ⟨_, rfl⟩
        rw [← hx] at hck hfk hpk hnk HTK
        obtain ⟨q, n⟩ := x
        simp only at hck hfk hpk hnk
        have hkey : keyOf Try.prog 3 (.int .i64 q) = some (.int .i64 q) := keyOf_int_mk Try.underlying3 (by go_wf)
        obtain ⟨D, hown, his⟩ := hmap
        have HAT := Lib.hid (his.at_ q n hfk)
        have HIS := Lib.hid his
        have hbs := hbel.size
        have HLT : Hid ((T.take k).length = k) := by show _ = _; rw [List.length_take, HTL.out]; omega
        have hbl := hown.lt
        clear hcells hx hfk his hox
        go_wp2_with (first
          | (at_lookup; refine wpList_lookup_own_int _ rfl _ _ 63 rfl 3 3 .i64 lawI Try.underlying63 Try.underlying3 (zeroI _) w.heap.size _ _ rfl hown _ _ rfl hkey ?_; intro c0 hat hwc; have hce : n = c0 := (by rw [HAT.out] at hat; injection hat with hat; injection hat); clear hat hwc; subst hce)
          | (at_builtin; have h1 := (HO.out.keepB (alB wr (.cells #[.int .i64 q, .int .i64 n] 35)) (Nat.le_refl _)); have h2 := srcK_one (x := ⟨q, n⟩) (heap_alloc_new wr (.cells #[.int .i64 q, .int .i64 n] 35)); refine wl_appK _ (by rfl) _ _ (by rfl) w1.heap.size g k cc (T.take k) [⟨q, n⟩] (by rfl) h1 HLT.out ⟨wr.heap.size, 0, none⟩ 1 1 (by rfl) rfl h2 (k + 1) (by omega) (by omega) (by simp; omega) ?_; intro g' c' w4 hown4 hgr4 hat4)
          | go_in)
        have hwb : wr.grownBy w4 (some g) := (World.grownBy_alloc wr _ (some g)).trans hgr4
        have hws4 := hwb.size
        have hg4 := hown4.blk
        go_roundw
        case rel =>
          refine ⟨k + 1, g', c', by omega, by go_num, rfl, ?_, ?_, hg4.2.1, by omega, ?_, ?_, ⟨D, hown.kept hwb (fun e => by injection e with e; omega), HIS.out⟩, hbel.grown hwb hbel.size (fun j hj => by injection hj with hj; omega)⟩
          · rcases hat4 with e | e
            · omega
            · simp at e; omega
          · rcases hat4 with e | e
            · omega
            · simp at e; omega
          · rw [HTK.out]; exact hown4
          · exact World.ownsRow.kept HX.out hwb (.inr (by simp only [Value.ownBlock]; intro e; injection e with e; omega))
        case measure => simp [intOf]; omega
      · obtain rfl : k = t := by omega
        have HT2 : Hid (T.take k = T) := by show _ = _; rw [← HTL.out, List.take_length]
        clear hmap hox
        go_wp2
        go_ret
        rw [HR.out]
        have ho := HO.out
        rw [HT2.out] at ho
        exact ⟨some ⟨g, 0, none⟩, cc, by rw [HTL.out]; rfl, .inr ⟨g, rfl, ho.less HBS.out⟩, HB1.out.trans (hbel.mono HBS.out)⟩
end Go.Proofs.Ytidabcdaodlfeaa
