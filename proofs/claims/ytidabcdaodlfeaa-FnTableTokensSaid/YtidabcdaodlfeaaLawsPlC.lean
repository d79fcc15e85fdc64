/- The walks of the laws of placement: tokens of tables. -/
import Derived.Test.YtidabcdaodlfeaaPlDraw4
import Derived.Test.YtidabcdaodlfeaaPlSame
import Derived.Test.YtidabcdaodlfeaaDrawL
import Derived.Test.YtidabcdaodlfeaaAppS
import Derived.Test.YtidabcdaodlfeaaPlR
import Derived.Test.YtidabcdaodlfeaaPlP
import Derived.Test.YtidabcdaodlfeaaLawsPlB
namespace Go.Proofs.Ytidabcdaodlfeaa
open Go.RowKit
set_option linter.unusedVariables false
attribute [local go_sem ↓] Go.wp_at_zero Go.wp_at_succ

theorem OwnT.some {w : World} {base cap : Nat} {a : Option Addr} {L : List Tk} (h : OwnT w base a cap L) (h0 : 0 < L.length) : ∃ g, a = some ⟨g, 0, none⟩ ∧ OwnK w base g cap L := by
  rcases h with h | h
  · rw [h] at h0; simp at h0
  · exact h
theorem own_self {T : List Tk} (h : tbB T = true) {k : Nat} (hk : k < T.length) : ownR T (gk T k).p = (gk T k).n := by
  rw [ownR_ok ((ownOk_iff _ _).2 ⟨h, tb_p h hk⟩)]
  exact own_token h hk
theorem ld_self {T : List Tk} (h : tbB T = true) {k : Nat} (hk : k < T.length) : ∃ t : Int, ldR T (gk T k).n = t ∧ 1 ≤ t := by
  have hp := tb_p h hk
  have h1 := ld_pos (L := T) (node := (gk T k).n) (n := 64) (k := (gk T k).p.toNat) (by omega) (by rw [show (((gk T k).p.toNat : Nat) : Int) = (gk T k).p by omega]; exact own_token h hk)
  exact ⟨_, ldR_ok ((ownOk_iff _ _).2 ⟨h, tb_n h hk⟩), by omega⟩

set_option maxRecDepth 20000 in
set_option maxHeartbeats 4000000 in
theorem placeToken (s : Option Addr) (len cap : Nat) (z : List Int) (w : World) (h : RowIn .u8 w s len cap z) :
    Calls Try.prog 11 #[.slice s len cap] w fun e w' => e = .returned (.bool true) ∧ Below w.heap.size w w' := by
  have hb := bytes_of_row h
  have hm : len ≤ maxLen := Nat.le_trans hb.1 hb.2.1
  unfold maxLen at hm
  clear h
  by_cases hllen : 1048576 < len
  · go_enter Try.func11, Try.ntmps11
    go_wp2
    go_ret
    exact ⟨rfl, Below.refl _ _⟩
  have HY := Lib.hid hb
  clear hb
  go_enter Try.func11, Try.ntmps11
  go_wp2_with fail
  refine (drawPlaceTable s len cap w HY.out).mono ?_
  rintro e w1 ⟨a, c, zs, g, cw, ws, rfl, h20, h21, hcc, hi, ho, hb1⟩
  have B1 : Hid (Below w.heap.size w w1) := hb1
  have I1 := Lib.hid hi.ints
  have V1 := Lib.hid ho
  clear hb1 hi ho
  have HMZ := Lib.hid (small64 (show zs.length ≤ 64 by omega))
  have HMW := Lib.hid (small64 (show ws.length ≤ 64 by omega))
  have HCC := Lib.hid hcc
  obtain ⟨T, hT⟩ : ∃ T, plR zs ws = T := ⟨_, rfl⟩
  have HT := Lib.hid hT
  have ht64 : T.length ≤ 64 := by rw [← hT]; exact plR_len zs ws
  have HTL := Lib.hid (mil64 ht64)
  have HTM := Lib.hid (small64 ht64)
  clear hcc
  cases hok : plOk zs ws
  · obtain rfl : T = [] := by rw [← hT, plR_bad hok]
    clear hT hok
    go_wp2_with fail
    refine (pplace_as [] _ _ _ _ c cw zs ws w1 I1.out V1.out.ints rfl rfl HMZ.out HMW.out HT.out).mono ?_
    rintro e w2 ⟨a2, d2, rfl, ho, hb2⟩
    have B2 : Hid (Below w.heap.size w w2) := B1.out.trans (hb2.mono B1.out.size)
    have I2 := Lib.hid (I1.out.keepB hb2 (Nat.le_refl _))
    have V2 := Lib.hid (V1.out.keepB hb2 (Nat.le_refl _))
    have O2 := Lib.hid ho
    clear hb2 ho
    go_wp2_with fail
    refine (splace_as [] _ _ _ _ c cw zs ws w2 I2.out V2.out.ints rfl rfl HMZ.out HMW.out HT.out).mono ?_
    rintro e w3 ⟨a3, d3, rfl, ho, hb3⟩
    have B3 : Hid (Below w.heap.size w w3) := B2.out.trans (hb3.mono B2.out.size)
    have I3 := Lib.hid (I2.out.keepB hb3 (Nat.le_refl _))
    have V3 := Lib.hid (V2.out.keepB hb3 (Nat.le_refl _))
    have O3 := Lib.hid (O2.out.keepB hb3 (Nat.le_refl _))
    have S3 := Lib.hid ho
    clear hb3 ho
    go_wp2_with fail
    refine (sameTk_same a2 a3 _ d2 d3 [] w3 O3.out.tk S3.out.tk rfl HTL.out).mono ?_
    rintro e w4 ⟨rfl, hs4⟩
    have hb4 := hs4.below w3.heap.size
    have B4 : Hid (Below w.heap.size w w4) := B3.out.trans (hb4.mono B3.out.size)
    have I4 := Lib.hid (I3.out.keepB hb4 (Nat.le_refl _))
    have V4 := Lib.hid (V3.out.keepB hb4 (Nat.le_refl _))
    have O4 := Lib.hid (O3.out.keepB hb4 (Nat.le_refl _))
    have S4 := Lib.hid (S3.out.keepB hb4 (Nat.le_refl _))
    clear hs4 hb4
    go_wp2_with fail
    refine (sameTk_same a2 a3 _ d2 d3 [] w4 O4.out.tk S4.out.tk rfl HTL.out).mono ?_
    rintro e w5 ⟨rfl, hs5⟩
    have hb5 := hs5.below w4.heap.size
    have B5 : Hid (Below w.heap.size w w5) := B4.out.trans (hb5.mono B4.out.size)
    have I5 := Lib.hid (I4.out.keepB hb5 (Nat.le_refl _))
    have V5 := Lib.hid (V4.out.keepB hb5 (Nat.le_refl _))
    have O5 := Lib.hid (O4.out.keepB hb5 (Nat.le_refl _))
    clear hs5 hb5
    go_wp2
    go_ret
    exact ⟨rfl, B5.out⟩
  · have HOK := Lib.hid hok
    have hTT : T = tabTo zs ws 64 := by rw [← hT, plR_ok hok]
    have HTT := Lib.hid hTT
    have HTB : Hid (tbB T = true) := by show _ = true; rw [hTT]; exact tab_valid hok
    have htl := tb_len HTB.out
    have HTP := Lib.hid htl
    have t0 : ((T.length : Int) == 0) = false := by rw [beq_eq_false_iff_ne]; omega
    have hzl := vld_len ((plOk_iff _ _).1 hok).1
    have HWL := Lib.hid ((plOk_iff _ _).1 hok).2.1
    have hwl1 : zs.length ≤ ws.length := Nat.le_of_eq HWL.out.symm
    have hwl2 : ws.length ≤ 10 := by rw [HWL.out]; exact hzl.2
    clear hT hok hTT
    go_wp2_with fail
    refine (pplace_as T _ _ _ _ c cw zs ws w1 I1.out V1.out.ints rfl rfl HMZ.out HMW.out HT.out).mono ?_
    rintro e w2 ⟨a2, d2, rfl, ho, hb2⟩
    have B2 : Hid (Below w.heap.size w w2) := B1.out.trans (hb2.mono B1.out.size)
    have I2 := Lib.hid (I1.out.keepB hb2 (Nat.le_refl _))
    have V2 := Lib.hid (V1.out.keepB hb2 (Nat.le_refl _))
    have O2 := Lib.hid ho
    clear hb2 ho
    go_wp2_with fail
    refine (splace_as T _ _ _ _ c cw zs ws w2 I2.out V2.out.ints rfl rfl HMZ.out HMW.out HT.out).mono ?_
    rintro e w3 ⟨a3, d3, rfl, ho, hb3⟩
    have B3 : Hid (Below w.heap.size w w3) := B2.out.trans (hb3.mono B2.out.size)
    have I3 := Lib.hid (I2.out.keepB hb3 (Nat.le_refl _))
    have V3 := Lib.hid (V2.out.keepB hb3 (Nat.le_refl _))
    have O3 := Lib.hid (O2.out.keepB hb3 (Nat.le_refl _))
    have S3 := Lib.hid ho
    clear hb3 ho
    go_wp2_with fail
    refine (sameTk_same a2 a3 _ d2 d3 T w3 O3.out.tk S3.out.tk rfl HTL.out).mono ?_
    rintro e w4 ⟨rfl, hs4⟩
    have hb4 := hs4.below w3.heap.size
    have B4 : Hid (Below w.heap.size w w4) := B3.out.trans (hb4.mono B3.out.size)
    have I4 := Lib.hid (I3.out.keepB hb4 (Nat.le_refl _))
    have V4 := Lib.hid (V3.out.keepB hb4 (Nat.le_refl _))
    have O4 := Lib.hid (O3.out.keepB hb4 (Nat.le_refl _))
    have S4 := Lib.hid (S3.out.keepB hb4 (Nat.le_refl _))
    clear hs4 hb4
    clear t0
    obtain ⟨g2, ha2, ho2⟩ := O4.out.some HTP.out
    subst ha2
    have HO := Lib.hid ho2
    clear ho2
    go_wp2
    go_loopw [7] (fun i wr => ∃ k : Nat, k ≤ T.length ∧ i = .int .i64 k ∧ Below w4.heap.size w4 wr) (fun i _ => T.length - (intOf i).toNat)
    case atStart => exact ⟨0, by omega, rfl, Below.refl _ _⟩
    case round =>
      obtain ⟨k, hk, rfl, hbel⟩ := hrel
      have HB : Hid (Below w.heap.size w wr) := B4.out.trans (hbel.mono B4.out.size)
      have HO2 := Lib.hid (HO.out.keepB hbel (Nat.le_refl _))
      by_cases hlt : k < T.length
      · obtain ⟨hc0, hc1⟩ := HO2.out.cells hlt
        have hgl := HO2.out.blk.2.1
        obtain ⟨t, ht, ht1⟩ := ld_self HTB.out hlt
        have hown := own_self HTB.out hlt
        obtain ⟨p, hp⟩ : ∃ p, p = (gk T k).p := ⟨_, rfl⟩
        obtain ⟨n, hn⟩ : ∃ n, n = (gk T k).n := ⟨_, rfl⟩
        rw [← hp] at hc0 hown
        rw [← hn] at hc1 hown ht
        have HOW := Lib.hid hown
        have HLD := Lib.hid ht
        have X0 := fun z : Cls (Below wr.heap.size wr) => (z.ok.cell (p := ⟨g2, k * 2, none⟩) hgl).trans hc0
        have X1 := fun z : Cls (Below wr.heap.size wr) => (z.ok.cell (p := ⟨g2, k * 2 + 1, none⟩) hgl).trans hc1
        have k0 : (0 : Int) ≤ (k : Int) := by omega
        have k1 : (k : Int) < (T.length : Int) := by omega
        have q1 : (n != n) = false := by simp
        have q2 : decide (t < 1) = false := by simp; omega
        clear hown ht hp hn hc0 hc1
        go_wp2_with fail
        refine wp_region_cls (Below wr.heap.size wr) (by kernel_rfl) (by kernel_rfl) below_drawn ?_
        repeat (go_big_quiet_step ((first | (go_at_call 27; rename_i z; exact cls_below (pown_as n _ _ d2 T p _ (HO2.out.keepB z.ok (Nat.le_refl _)).tk rfl HTM.out HOW.out) z.ok (Nat.le_refl _)) | (go_at_call 30; rename_i z; exact cls_below (pload_as t _ _ d2 T n _ (HO2.out.keepB z.ok (Nat.le_refl _)).tk rfl HTM.out HLD.out) z.ok (Nat.le_refl _)))))
        refine wpQuiet_nil ?_
        intro w5 hw'
        have hb5 := cls_out hw'
        clear hw' X0 X1 q1 q2
        go_wp2
        go_roundw
        case rel => exact ⟨k + 1, by omega, by go_num, hbel.trans (hb5.mono hbel.size)⟩
        case measure => simp [intOf]; omega
      · go_wp2
        go_ret
        exact ⟨rfl, HB.out⟩

/-- found among the first j -/
def fndTo (T : List Tk) (p z : Int) (j : Nat) : Bool := decide (∃ i, i < j ∧ i < T.length ∧ (gk T i).p = p ∧ (gk T i).n ≤ z)
theorem fnd_zero (T : List Tk) (p z : Int) : fndTo T p z 0 = false := by simp [fndTo]
theorem fnd_s {T : List Tk} {p z : Int} {j : Nat} (hj : j < T.length) : fndTo T p z (j + 1) = (fndTo T p z j || (decide ((gk T j).p = p) && decide ((gk T j).n ≤ z))) := by
  rw [Bool.eq_iff_iff]
  simp only [fndTo, decide_eq_true_eq, Bool.or_eq_true, Bool.and_eq_true]
  constructor
  · rintro ⟨i, h1, h2, h3, h4⟩
    rcases Nat.lt_or_ge i j with h' | h'
    · exact .inl ⟨i, h', h2, h3, h4⟩
    · obtain rfl : i = j := by omega
      exact .inr ⟨h3, h4⟩
  · rintro (⟨i, h1, h2, h3, h4⟩ | ⟨h3, h4⟩)
    · exact ⟨i, by omega, h2, h3, h4⟩
    · exact ⟨j, by omega, hj, h3, h4⟩
theorem fnd_all {zs ws : List Int} (h : plOk zs ws = true) {i k : Nat} (hi : i < zs.length) (hk : (k : Int) < gt ws i) : fndTo (tabTo zs ws 64) (tok (gt zs i) k) (gt zs i) (tabTo zs ws 64).length = true := by
  obtain ⟨x, hx, h1, h2⟩ := tab_has h hi hk
  obtain ⟨j, hj, rfl⟩ := mem_gk hx
  exact decide_eq_true ⟨j, hj, hj, h1, h2⟩
theorem has_node {zs ws : List Int} {T : List Tk} (hT : T = tabTo zs ws 64) {k : Nat} (hk : k < T.length) : hasTo zs (gk T k).n = true := by
  have hm := gk_mem hk
  rw [hT] at hm
  obtain ⟨i, hi, he⟩ := tab_node hm
  rw [hT]
  exact (hasTo_iff _ _).2 ⟨i, hi, he.symm⟩

set_option maxRecDepth 20000 in
set_option maxHeartbeats 4000000 in
theorem tableTokens (s : Option Addr) (len cap : Nat) (z : List Int) (w : World) (h : RowIn .u8 w s len cap z) :
    Calls Try.prog 4 #[.slice s len cap] w fun e w' => e = .returned (.bool true) ∧ Below w.heap.size w w' := by
  have hb := bytes_of_row h
  have hm : len ≤ maxLen := Nat.le_trans hb.1 hb.2.1
  unfold maxLen at hm
  clear h
  by_cases hllen : 1048576 < len
  · go_enter Try.func4, Try.ntmps4
    go_wp2
    go_ret
    exact ⟨rfl, Below.refl _ _⟩
  have HY := Lib.hid hb
  clear hb
  go_enter Try.func4, Try.ntmps4
  go_wp2_with fail
  refine (drawPlaceTable s len cap w HY.out).mono ?_
  rintro e w1 ⟨a, c, zs, g, cw, ws, rfl, h20, h21, hcc, hi, ho, hb1⟩
  have B1 : Hid (Below w.heap.size w w1) := hb1
  have I1 := Lib.hid hi.ints
  have V1 := Lib.hid ho
  clear hb1 hi ho
  have HMZ := Lib.hid (small64 (show zs.length ≤ 64 by omega))
  have HMW := Lib.hid (small64 (show ws.length ≤ 64 by omega))
  have HCC := Lib.hid hcc
  obtain ⟨T, hT⟩ : ∃ T, plR zs ws = T := ⟨_, rfl⟩
  have HT := Lib.hid hT
  have ht64 : T.length ≤ 64 := by rw [← hT]; exact plR_len zs ws
  have HTL := Lib.hid (mil64 ht64)
  have HTM := Lib.hid (small64 ht64)
  clear hcc
  cases hok : plOk zs ws
  · obtain rfl : T = [] := by rw [← hT, plR_bad hok]
    clear hT hok
    go_wp2_with fail
    refine (pplace_as [] _ _ _ _ c cw zs ws w1 I1.out V1.out.ints rfl rfl HMZ.out HMW.out HT.out).mono ?_
    rintro e w2 ⟨a2, d2, rfl, ho, hb2⟩
    have B2 : Hid (Below w.heap.size w w2) := B1.out.trans (hb2.mono B1.out.size)
    have I2 := Lib.hid (I1.out.keepB hb2 (Nat.le_refl _))
    have V2 := Lib.hid (V1.out.keepB hb2 (Nat.le_refl _))
    have O2 := Lib.hid ho
    clear hb2 ho
    go_wp2_with fail
    refine (splace_as [] _ _ _ _ c cw zs ws w2 I2.out V2.out.ints rfl rfl HMZ.out HMW.out HT.out).mono ?_
    rintro e w3 ⟨a3, d3, rfl, ho, hb3⟩
    have B3 : Hid (Below w.heap.size w w3) := B2.out.trans (hb3.mono B2.out.size)
    have I3 := Lib.hid (I2.out.keepB hb3 (Nat.le_refl _))
    have V3 := Lib.hid (V2.out.keepB hb3 (Nat.le_refl _))
    have O3 := Lib.hid (O2.out.keepB hb3 (Nat.le_refl _))
    have S3 := Lib.hid ho
    clear hb3 ho
    go_wp2_with fail
    refine (sameTk_same a2 a3 _ d2 d3 [] w3 O3.out.tk S3.out.tk rfl HTL.out).mono ?_
    rintro e w4 ⟨rfl, hs4⟩
    have hb4 := hs4.below w3.heap.size
    have B4 : Hid (Below w.heap.size w w4) := B3.out.trans (hb4.mono B3.out.size)
    have I4 := Lib.hid (I3.out.keepB hb4 (Nat.le_refl _))
    have V4 := Lib.hid (V3.out.keepB hb4 (Nat.le_refl _))
    have O4 := Lib.hid (O3.out.keepB hb4 (Nat.le_refl _))
    have S4 := Lib.hid (S3.out.keepB hb4 (Nat.le_refl _))
    clear hs4 hb4
    go_wp2_with fail
    refine (sameTk_same a2 a3 _ d2 d3 [] w4 O4.out.tk S4.out.tk rfl HTL.out).mono ?_
    rintro e w5 ⟨rfl, hs5⟩
    have hb5 := hs5.below w4.heap.size
    have B5 : Hid (Below w.heap.size w w5) := B4.out.trans (hb5.mono B4.out.size)
    have I5 := Lib.hid (I4.out.keepB hb5 (Nat.le_refl _))
    have V5 := Lib.hid (V4.out.keepB hb5 (Nat.le_refl _))
    have O5 := Lib.hid (O4.out.keepB hb5 (Nat.le_refl _))
    clear hs5 hb5
    go_wp2
    go_ret
    exact ⟨rfl, B5.out⟩
  · have HOK := Lib.hid hok
    have hTT : T = tabTo zs ws 64 := by rw [← hT, plR_ok hok]
    have HTT := Lib.hid hTT
    have HTB : Hid (tbB T = true) := by show _ = true; rw [hTT]; exact tab_valid hok
    have htl := tb_len HTB.out
    have HTP := Lib.hid htl
    have t0 : ((T.length : Int) == 0) = false := by rw [beq_eq_false_iff_ne]; omega
    have hzl := vld_len ((plOk_iff _ _).1 hok).1
    have HWL := Lib.hid ((plOk_iff _ _).1 hok).2.1
    have hwl1 : zs.length ≤ ws.length := Nat.le_of_eq HWL.out.symm
    have hwl2 : ws.length ≤ 10 := by rw [HWL.out]; exact hzl.2
    clear hT hok hTT
    go_wp2_with fail
    refine (pplace_as T _ _ _ _ c cw zs ws w1 I1.out V1.out.ints rfl rfl HMZ.out HMW.out HT.out).mono ?_
    rintro e w2 ⟨a2, d2, rfl, ho, hb2⟩
    have B2 : Hid (Below w.heap.size w w2) := B1.out.trans (hb2.mono B1.out.size)
    have I2 := Lib.hid (I1.out.keepB hb2 (Nat.le_refl _))
    have V2 := Lib.hid (V1.out.keepB hb2 (Nat.le_refl _))
    have O2 := Lib.hid ho
    clear hb2 ho
    go_wp2_with fail
    refine (splace_as T _ _ _ _ c cw zs ws w2 I2.out V2.out.ints rfl rfl HMZ.out HMW.out HT.out).mono ?_
    rintro e w3 ⟨a3, d3, rfl, ho, hb3⟩
    have B3 : Hid (Below w.heap.size w w3) := B2.out.trans (hb3.mono B2.out.size)
    have I3 := Lib.hid (I2.out.keepB hb3 (Nat.le_refl _))
    have V3 := Lib.hid (V2.out.keepB hb3 (Nat.le_refl _))
    have O3 := Lib.hid (O2.out.keepB hb3 (Nat.le_refl _))
    have S3 := Lib.hid ho
    clear hb3 ho
    go_wp2_with fail
    refine (sameTk_same a2 a3 _ d2 d3 T w3 O3.out.tk S3.out.tk rfl HTL.out).mono ?_
    rintro e w4 ⟨rfl, hs4⟩
    have hb4 := hs4.below w3.heap.size
    have B4 : Hid (Below w.heap.size w w4) := B3.out.trans (hb4.mono B3.out.size)
    have I4 := Lib.hid (I3.out.keepB hb4 (Nat.le_refl _))
    have V4 := Lib.hid (V3.out.keepB hb4 (Nat.le_refl _))
    have O4 := Lib.hid (O3.out.keepB hb4 (Nat.le_refl _))
    have S4 := Lib.hid (S3.out.keepB hb4 (Nat.le_refl _))
    clear hs4 hb4
    obtain ⟨g2, ha2, ho2⟩ := O4.out.some HTP.out
    subst ha2
    have HO := Lib.hid ho2
    obtain ⟨b, off, hab, _, _⟩ := I4.out.cellP (by omega)
    subst hab
    clear ho2
    go_wp2
    clear t0
    go_loopw [7] (fun i wr => ∃ k : Nat, k ≤ T.length ∧ i = .int .i64 k ∧ Below w4.heap.size w4 wr) (fun i _ => T.length - (intOf i).toNat)
    case atStart => exact ⟨0, by omega, rfl, Below.refl _ _⟩
    case round =>
      obtain ⟨k, hk, rfl, hbel⟩ := hrel
      have HB : Hid (Below w.heap.size w wr) := B4.out.trans (hbel.mono B4.out.size)
      have HO2 := Lib.hid (HO.out.keepB hbel (Nat.le_refl _))
      have HI2 := Lib.hid (I4.out.keepB hbel (Nat.le_refl _))
      have HV2 := Lib.hid (V4.out.keepB hbel (Nat.le_refl _))
      by_cases hlt : k < T.length
      · obtain ⟨hc0, hc1⟩ := HO2.out.cells hlt
        have hgl := HO2.out.blk.2.1
        have hh := has_node HTT.out hlt
        obtain ⟨p, hp⟩ : ∃ p, p = (gk T k).p := ⟨_, rfl⟩
        obtain ⟨n, hn⟩ : ∃ n, n = (gk T k).n := ⟨_, rfl⟩
        rw [← hp] at hc0
        rw [← hn] at hc1 hh
        have HH := Lib.hid hh
        have X0 := fun z : Cls (Below wr.heap.size wr) => (z.ok.cell (p := ⟨g2, k * 2, none⟩) hgl).trans hc0
        have X1 := fun z : Cls (Below wr.heap.size wr) => (z.ok.cell (p := ⟨g2, k * 2 + 1, none⟩) hgl).trans hc1
        have k0 : (0 : Int) ≤ (k : Int) := by omega
        have k1 : (k : Int) < (T.length : Int) := by omega
        clear hh hn hc0 hc1
        by_cases hk0 : k = 0
        · have hk00 : decide ((0 : Int) < (k : Int)) = false := by simp; omega
          have hk01 : decide (0 < k) = false := by simp; omega
          clear hp hk0
          go_wp2_with fail
          refine wp_region_cls (Below wr.heap.size wr) (by kernel_rfl) (by kernel_rfl) below_drawn ?_
          repeat (go_big_quiet_step ((go_at_call 25; rename_i z; exact cls_below (hasI_as true (some ⟨b, off, none⟩) _ c zs n _ (HI2.out.keepB z.ok (Nat.le_refl _)) rfl HMZ.out HH.out) z.ok (Nat.le_refl _))))
          refine wpQuiet_nil ?_
          intro w5 hw'
          have hb5 := cls_out hw'
          clear hw' X0 X1 hk00 hk01
          go_wp2
          go_roundw
          case rel => exact ⟨k + 1, by omega, by go_num, hbel.trans (hb5.mono hbel.size)⟩
          case measure => simp [intOf]; omega
        · obtain ⟨j, hj, hj1⟩ : ∃ j : Nat, (k : Int) - 1 = (j : Int) ∧ k = j + 1 := ⟨k - 1, by omega, by omega⟩
          have HJ1 := Lib.hid hj1
          obtain ⟨hd0, hd1⟩ := HO2.out.cells (i := j) (by omega)
          have hlt2 := tb_lt HTB.out (i := j) (j := k) (by omega) hlt
          rw [← hp] at hlt2
          obtain ⟨r, hr⟩ : ∃ r, r = (gk T j).p := ⟨_, rfl⟩
          rw [← hr] at hd0 hlt2
          have Y0 := fun z : Cls (Below wr.heap.size wr) => (z.ok.cell (p := ⟨g2, j * 2, none⟩) hgl).trans hd0
          have kp : (0 : Int) < (k : Int) := by omega
          have kd : decide ((0 : Int) < (k : Int)) = true := by simp; omega
          have kd2 : decide (0 < k) = true := by simp; omega
          have j0 : (0 : Int) ≤ (j : Int) := by omega
          have j1 : (j : Int) < (T.length : Int) := by omega
          have rd : decide (p ≤ r) = false := by simp; omega
          clear hp hr hj1 hd0 hd1
          go_wp2_with fail
          refine wp_region_cls (Below wr.heap.size wr) (by kernel_rfl) (by kernel_rfl) below_drawn ?_
          repeat (go_big_quiet_step ((go_at_call 25; rename_i z; exact cls_below (hasI_as true (some ⟨b, off, none⟩) _ c zs n _ (HI2.out.keepB z.ok (Nat.le_refl _)) rfl HMZ.out HH.out) z.ok (Nat.le_refl _))))
          refine wpQuiet_nil ?_
          intro w5 hw'
          have hb5 := cls_out hw'
          clear hw' X0 X1 Y0 kd kd2 rd
          go_wp2
          go_roundw
          case rel => exact ⟨k + 1, by omega, by go_num, hbel.trans (hb5.mono hbel.size)⟩
          case measure => simp [intOf]; omega
      · obtain ⟨w5, rfl⟩ : ∃ x, x = wr := ⟨_, rfl⟩
        clear hbel
        go_wp2
        go_loopw [8] (fun i wr => ∃ k : Nat, k ≤ zs.length ∧ i = .int .i64 k ∧ Below w5.heap.size w5 wr) (fun i _ => zs.length - (intOf i).toNat)
        case atStart => exact ⟨0, by omega, rfl, Below.refl _ _⟩
        case round =>
          obtain ⟨i, hi, rfl, hbel⟩ := hrel
          obtain ⟨w6, rfl⟩ : ∃ x, x = wr := ⟨_, rfl⟩
          have HB6 : Hid (Below w.heap.size w w6) := HB.out.trans (hbel.mono HB.out.size)
          have HO6 := Lib.hid (HO2.out.keepB hbel (Nat.le_refl _))
          have HI6 := Lib.hid (HI2.out.keepB hbel (Nat.le_refl _))
          have HV6 := Lib.hid (HV2.out.keepB hbel (Nat.le_refl _))
          have HBL := Lib.hid hbel
          clear hbel
          by_cases hlt : i < zs.length
          · obtain ⟨_, _, hab, hb0, hcells⟩ := HI6.out.cellP (by omega)
            injection hab with hab
            injection hab with hab1 hab2
            subst hab1 hab2
            have hcz := hcells i hlt
            obtain ⟨_, hag, _, hgl, hcw, _⟩ := HV6.out.at_ (by omega)
            injection hag with hag
            injection hag with hag
            subst hag
            have hcv := hcw i (by omega)
            obtain ⟨z, hz⟩ : ∃ z, z = gt zs i := ⟨_, rfl⟩
            obtain ⟨y, hy⟩ : ∃ y, y = gt ws i := ⟨_, rfl⟩
            rw [← hz] at hcz
            rw [← hy] at hcv
            have hzp := asc_pt ((plOk_iff _ _).1 HOK.out).1 hlt
            have hyp := (wsB_iff ws).1 ((plOk_iff _ _).1 HOK.out).2.2 i (by omega)
            rw [← hz] at hzp
            rw [← hy] at hyp
            obtain ⟨m, hm5⟩ : ∃ m : Nat, y = (m : Int) := ⟨y.toNat, by omega⟩
            have HTK : Hid (tkR z y = tkL z m) := by show _ = _; rw [tkR_ok ((tkOk_iff _ _).2 ⟨hzp, hyp⟩), hm5]; rfl
            have HTL2 : Hid ((tkL z m).length = m) := tkL_len z m
            have HFND : Hid (∀ q, q < m → fndTo T (tok z q) z T.length = true) := fun q hq => by rw [HTT.out, hz]; exact fnd_all HOK.out hlt (by rw [← hy]; omega)
            have hmm : m ≤ 5 := by omega
            have HS : Hid (∀ w', Below w6.heap.size w6 w' → w'.cell? ⟨b, off + i, none⟩ = some (.int .i64 z) ∧ w'.cell? ⟨g, i, none⟩ = some (.int .i64 y)) := fun w' hb => ⟨(hb.cell (p := ⟨b, off + i, none⟩) hb0).trans hcz, (hb.cell (p := ⟨g, i, none⟩) hgl).trans hcv⟩
            have HBD : Hid (Below w6.heap.size w6 w6.drew) := (Below.refl _ _).drew
            have i0 : (0 : Int) ≤ (i : Int) := by omega
            have i1 : (i : Int) < (zs.length : Int) := by omega
            have i2 : (i : Int) < (ws.length : Int) := by omega
            clear hcells hcw hcz hcv hz hy hm5 hzp hyp
            go_wp2_with fail
            go_region_held3 (fun w' => w'.cell? ⟨b, off + i, none⟩ = some (.int .i64 z) ∧ w'.cell? ⟨g, i, none⟩ = some (.int .i64 y)) (first | (with_reducible exact HS.out _ HB7.out) | (with_reducible exact HS.out _ HBD.out)) ((go_at_call 18; refine (ptoks_at m (tkL z m) z y _ HTK.out HTL2.out).mono ?_; rintro e w7 ⟨a7, d7, rfl, ho7, hb7⟩; have HO7 := Lib.hid ho7; have HB7 : Hid (Below w6.heap.size w6 w7) := (HBD.out.trans (hb7.mono HBD.out.size)); clear ho7 hb7))
            all_goals
              go_wp2
              go_loopw [10] (fun i wr => ∃ q : Nat, q ≤ m ∧ i = .int .i64 q ∧ Below w7.heap.size w7 wr) (fun i _ => m - (intOf i).toNat)
              case atStart => exact ⟨0, by omega, rfl, Below.refl _ _⟩
              case round =>
                obtain ⟨q, hq, rfl, hbel⟩ := hrel
                obtain ⟨w8, rfl⟩ : ∃ x, x = wr := ⟨_, rfl⟩
                have HB8 : Hid (Below w6.heap.size w6 w8) := HB7.out.trans (hbel.mono HB7.out.size)
                have HL8 := Lib.hid (HO7.out.keepB hbel (Nat.le_refl _))
                have HBQ := Lib.hid hbel
                clear hbel
                by_cases hqm : q < m
                · have qm1 : (q : Int) < (m : Int) := by omega
                  go_wp2
                  go_loopw [11, 12] (fun f j wr => ∃ r : Nat, r ≤ T.length ∧ j = .int .i64 r ∧ f = .bool (fndTo T (tok z q) z r) ∧ Below w8.heap.size w8 wr) (fun _ j _ => T.length - (intOf j).toNat)
                  case atStart => exact ⟨0, by omega, rfl, by rw [fnd_zero], Below.refl _ _⟩
                  case round =>
                    obtain ⟨r, hr, rfl, rfl, hbel⟩ := hrel
                    obtain ⟨w9, rfl⟩ : ∃ x, x = wr := ⟨_, rfl⟩
                    have HB9 : Hid (Below w6.heap.size w6 w9) := HB8.out.trans (hbel.mono HB8.out.size)
                    have HBR := Lib.hid hbel
                    by_cases hrt : r < T.length
                    · have HO9 := Lib.hid (HO6.out.keepB HB9.out (Nat.le_refl _))
                      obtain ⟨hc0, hc1⟩ := HO9.out.cells hrt
                      have hg9 := HO9.out.blk.2.1
                      obtain ⟨g7, ha7, _, _, ho7⟩ := (HL8.out.keepB hbel (Nat.le_refl _)).some (by rw [HTL2.out]; omega)
                      subst ha7
                      obtain ⟨_, hag, _, hg79, hcw, _⟩ := ho7.at_ (by rw [HTL2.out]; omega)
                      injection hag with hag
                      injection hag with hag
                      subst hag
                      have hc2 := hcw q (by rw [HTL2.out]; exact hqm)
                      rw [tkL_gt z hqm] at hc2
                      have hc3 := (HS.out w9 HB9.out).1
                      have hb09 : b < w9.heap.size := Nat.lt_of_lt_of_le hb0 HB9.out.size
                      have HFS := Lib.hid (fnd_s (T := T) (p := tok z q) (z := z) hrt)
                      obtain ⟨t, ht⟩ : ∃ t, t = tok z q := ⟨_, rfl⟩
                      obtain ⟨p, hp⟩ : ∃ p, p = (gk T r).p := ⟨_, rfl⟩
                      obtain ⟨n, hn⟩ : ∃ n, n = (gk T r).n := ⟨_, rfl⟩
                      rw [← ht] at hc2 HFS ⊢
                      rw [← hp] at hc0 HFS
                      rw [← hn] at hc1 HFS
                      obtain ⟨f, hf⟩ : ∃ f, f = fndTo T t z r := ⟨_, rfl⟩
                      rw [← hf] at HFS ⊢
                      have X0 := fun y : Cls (Below w9.heap.size w9) => (y.ok.cell (p := ⟨g2, r * 2, none⟩) hg9).trans hc0
                      have X1 := fun y : Cls (Below w9.heap.size w9) => (y.ok.cell (p := ⟨g2, r * 2 + 1, none⟩) hg9).trans hc1
                      have X2 := fun y : Cls (Below w9.heap.size w9) => (y.ok.cell (p := ⟨g7, q, none⟩) hg79).trans hc2
                      have X3 := fun y : Cls (Below w9.heap.size w9) => (y.ok.cell (p := ⟨b, off + i, none⟩) hb09).trans hc3
                      have r0 : (0 : Int) ≤ (r : Int) := by omega
                      have r1 : (r : Int) < (T.length : Int) := by omega
                      have q0 : (0 : Int) ≤ (q : Int) := by omega
                      clear hp hn hf ht hc0 hc1 hc2 hc3 hcw ho7 hbel
                      cases f
                      · cases hpt : (p == t)
                        · have HN : Hid (fndTo T t z (r + 1) = false) := by show _ = _; rw [HFS.out, show decide (p = t) = false by simpa using hpt]; rfl
                          go_wp2_with fail
                          refine wp_region_cls (Below w9.heap.size w9) (by kernel_rfl) (by kernel_rfl) below_drawn ?_
                          repeat (go_big_quiet_step (fail))
                          refine wpQuiet_nil ?_
                          intro w10 hw'
                          have hb10 := cls_out hw'
                          clear hw' X0 X1 X2 X3 hpt
                          go_wp2
                          go_roundw
                          case rel => exact ⟨r + 1, by omega, by go_num, by rw [HN.out], HBR.out.trans (hb10.mono HBR.out.size)⟩
                          case measure => simp [intOf]; omega
                        · cases hnz : decide (n ≤ z)
                          · have HN : Hid (fndTo T t z (r + 1) = false) := by show _ = _; rw [HFS.out, show decide (p = t) = true by simpa using hpt, hnz]; rfl
                            go_wp2_with fail
                            refine wp_region_cls (Below w9.heap.size w9) (by kernel_rfl) (by kernel_rfl) below_drawn ?_
                            repeat (go_big_quiet_step (fail))
                            refine wpQuiet_nil ?_
                            intro w10 hw'
                            have hb10 := cls_out hw'
                            clear hw' X0 X1 X2 X3 hpt hnz
                            go_wp2
                            go_roundw
                            case rel => exact ⟨r + 1, by omega, by go_num, by rw [HN.out], HBR.out.trans (hb10.mono HBR.out.size)⟩
                            case measure => simp [intOf]; omega
                          · have HN : Hid (fndTo T t z (r + 1) = true) := by show _ = _; rw [HFS.out, show decide (p = t) = true by simpa using hpt, hnz]; rfl
                            go_wp2_with fail
                            refine wp_region_cls (Below w9.heap.size w9) (by kernel_rfl) (by kernel_rfl) below_drawn ?_
                            repeat (go_big_quiet_step (fail))
                            refine wpQuiet_nil ?_
                            intro w10 hw'
                            have hb10 := cls_out hw'
                            clear hw' X0 X1 X2 X3 hpt hnz
                            go_wp2
                            go_roundw
                            case rel => exact ⟨r + 1, by omega, by go_num, by rw [HN.out], HBR.out.trans (hb10.mono HBR.out.size)⟩
                            case measure => simp [intOf]; omega
                      · have HN : Hid (fndTo T t z (r + 1) = true) := by show _ = _; rw [HFS.out]; rfl
                        go_wp2_with fail
                        refine wp_region_cls (Below w9.heap.size w9) (by kernel_rfl) (by kernel_rfl) below_drawn ?_
                        repeat (go_big_quiet_step (fail))
                        refine wpQuiet_nil ?_
                        intro w10 hw'
                        have hb10 := cls_out hw'
                        clear hw' X0 X1 X2 X3
                        go_wp2
                        go_roundw
                        case rel => exact ⟨r + 1, by omega, by go_num, by rw [HN.out], HBR.out.trans (hb10.mono HBR.out.size)⟩
                        case measure => simp [intOf]; omega
                    · obtain rfl : r = T.length := by omega
                      rw [HFND.out q hqm]
                      clear hbel
                      go_wp2
                      go_roundw
                      case rel => exact ⟨q + 1, by omega, by go_num, HBQ.out.trans (HBR.out.mono HBQ.out.size)⟩
                      case measure => simp [intOf]; omega
                · go_wp2
                  go_roundw
                  case rel => exact ⟨i + 1, by omega, by go_num, HBL.out.trans (HB8.out.mono HBL.out.size)⟩
                  case measure => simp [intOf]; omega
          · go_wp2
            go_ret
            exact ⟨rfl, HB6.out⟩

end Go.Proofs.Ytidabcdaodlfeaa
