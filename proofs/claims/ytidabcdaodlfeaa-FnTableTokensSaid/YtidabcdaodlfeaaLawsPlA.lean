/- The walks of the laws of placement. -/
import Derived.Test.YtidabcdaodlfeaaPlDraw4
import Derived.Test.YtidabcdaodlfeaaPlSame
import Derived.Test.YtidabcdaodlfeaaDrawL
import Derived.Test.YtidabcdaodlfeaaAppS
import Derived.Test.YtidabcdaodlfeaaPlR
import Derived.Test.YtidabcdaodlfeaaPlP
namespace Go.Proofs.Ytidabcdaodlfeaa
open Go.RowKit
set_option linter.unusedVariables false
attribute [local go_sem ↓] Go.wp_at_zero Go.wp_at_succ

theorem ptoks_as (L : List Int) (n wt : Int) (w : World) (hL : tkR n wt = L) :
    Calls Try.prog 18 #[.int .i64 n, .int .i64 wt] w (RowZ L w) := by subst hL; exact ptoks_any n wt w
theorem stoks_as (L : List Int) (n wt : Int) (w : World) (hL : tkR n wt = L) :
    Calls Try.prog 19 #[.int .i64 n, .int .i64 wt] w (RowZ L w) := by subst hL; exact (stoks_any n wt w).mono fun _ _ => rowZ_of
theorem pplace_as (T : List Tk) (a b : Option Addr) (la lb ca cb : Nat) (zs ws : List Int) (w : World) (ha : IntsAt w a zs) (hb : IntsAt w b ws) (hza : zs.length = la) (hzb : ws.length = lb) (hma : la ≤ maxLen) (hmb : lb ≤ maxLen) (hT : plR zs ws = T) :
    Calls Try.prog 22 #[.slice a la ca, .slice b lb cb] w (RowT T w) := by subst hT; exact pplace_any a b la lb ca cb zs ws w ha hb hza hzb hma hmb
theorem splace_as (T : List Tk) (a b : Option Addr) (la lb ca cb : Nat) (zs ws : List Int) (w : World) (ha : IntsAt w a zs) (hb : IntsAt w b ws) (hza : zs.length = la) (hzb : ws.length = lb) (hma : la ≤ maxLen) (hmb : lb ≤ maxLen) (hT : plR zs ws = T) :
    Calls Try.prog 23 #[.slice a la ca, .slice b lb cb] w (RowT T w) := by subst hT; exact (splace_any a b la lb ca cb zs ws w ha hb hza hzb hma hmb).mono fun _ _ => rowT_of
theorem pmoved_as (Z : List Int) (a b : Option Addr) (la lb ca cb : Nat) (A B : List Tk) (w : World) (ha : TkAt w a A) (hb : TkAt w b B) (hza : A.length = la) (hzb : B.length = lb) (hma : la ≤ maxLen) (hmb : lb ≤ maxLen) (hZ : mvR A B = Z) :
    Calls Try.prog 33 #[.slice a la ca, .slice b lb cb] w (RowZ Z w) := by subst hZ; exact pmoved_any a b la lb ca cb A B w ha hb hza hzb hma hmb
theorem smoved_as (Z : List Int) (a b : Option Addr) (la lb ca cb : Nat) (A B : List Tk) (w : World) (ha : TkAt w a A) (hb : TkAt w b B) (hza : A.length = la) (hzb : B.length = lb) (hma : la ≤ maxLen) (hmb : lb ≤ maxLen) (hZ : mvR A B = Z) :
    Calls Try.prog 35 #[.slice a la ca, .slice b lb cb] w (RowZ Z w) := by subst hZ; exact (smoved_any a b la lb ca cb A B w ha hb hza hzb hma hmb).mono fun _ _ => rowZ_of
theorem pown_as (v : Int) (a : Option Addr) (len cap : Nat) (L : List Tk) (key : Int) (w : World) (h : TkAt w a L) (hz : L.length = len) (hm : len ≤ maxLen) (hv : ownR L key = v) :
    Calls Try.prog 27 #[.slice a len cap, .int .i64 key] w fun e w' => e = .returned (.int .i64 v) ∧ Below w.heap.size w w' := by subst hv; exact pown_any a len cap L key w h hz hm
theorem sown_as (v : Int) (a : Option Addr) (len cap : Nat) (L : List Tk) (key : Int) (w : World) (h : TkAt w a L) (hz : L.length = len) (hm : len ≤ maxLen) (hv : ownR L key = v) :
    Calls Try.prog 28 #[.slice a len cap, .int .i64 key] w fun e w' => e = .returned (.int .i64 v) ∧ Below w.heap.size w w' := by subst hv; exact (sown_any a len cap L key w h hz hm).mono fun _ _ ⟨h1, h2⟩ => ⟨h1, h2.below _⟩
theorem pload_as (v : Int) (a : Option Addr) (len cap : Nat) (L : List Tk) (key : Int) (w : World) (h : TkAt w a L) (hz : L.length = len) (hm : len ≤ maxLen) (hv : ldR L key = v) :
    Calls Try.prog 30 #[.slice a len cap, .int .i64 key] w fun e w' => e = .returned (.int .i64 v) ∧ Below w.heap.size w w' := by subst hv; exact pload_any a len cap L key w h hz hm
theorem sload_as (v : Int) (a : Option Addr) (len cap : Nat) (L : List Tk) (key : Int) (w : World) (h : TkAt w a L) (hz : L.length = len) (hm : len ≤ maxLen) (hv : ldR L key = v) :
    Calls Try.prog 31 #[.slice a len cap, .int .i64 key] w fun e w' => e = .returned (.int .i64 v) ∧ Below w.heap.size w w' := by subst hv; exact (sload_any a len cap L key w h hz hm).mono fun _ _ ⟨h1, h2⟩ => ⟨h1, h2.below _⟩
theorem hasI_as (v : Bool) (a : Option Addr) (len cap : Nat) (zs : List Int) (x : Int) (w : World) (h : IntsAt w a zs) (hz : zs.length = len) (hm : len ≤ maxLen) (hv : hasTo zs x = v) :
    Calls Try.prog 25 #[.slice a len cap, .int .i64 x] w fun e w' => e = .returned (.bool v) ∧ Below w.heap.size w w' := by subst hv; exact (hasI_any a len cap zs x w h hz hm).mono fun _ _ ⟨h1, h2⟩ => ⟨h1, h2 ▸ Below.refl _ _⟩
theorem small64 {n : Nat} (h : n ≤ 64) : n ≤ maxLen := by unfold maxLen; omega
theorem mil64 {n : Nat} (h : n ≤ 64) : n ≤ 1048576 := by omega
theorem IntsAt.takeP {w : World} {a : Option Addr} {zs : List Int} (h : IntsAt w a zs) (k : Nat) (hk : k ≤ zs.length) : IntsAt w a (zs.take k) := by
  rcases h with h | ⟨b, off, ha, hlt, hc⟩
  · exact .inl (by rw [h]; simp)
  · refine .inr ⟨b, off, ha, hlt, fun i hi => ?_⟩
    rw [List.length_take] at hi
    rw [hc i (by omega)]
    congr 2
    rw [gt_get (by omega), gt_get (by rw [List.length_take]; omega), List.getElem_take]
theorem IntsAt.cellP {w : World} {a : Option Addr} {zs : List Int} (h : IntsAt w a zs) (h0 : 0 < zs.length) : ∃ b off, a = some ⟨b, off, none⟩ ∧ b < w.heap.size ∧ ∀ i, i < zs.length → w.cell? ⟨b, off + i, none⟩ = some (.int .i64 (gt zs i)) := by
  rcases h with h | h
  · rw [h] at h0; simp at h0
  · exact h
theorem OwnZ.some {w : World} {base cap : Nat} {a : Option Addr} {zs : List Int} (h : OwnZ w base a cap zs) (h0 : 0 < zs.length) : ∃ g, a = some ⟨g, 0, none⟩ ∧ zs.length ≤ cap ∧ cap ≤ maxLen ∧ OwnI w base (some ⟨g, 0, none⟩) cap zs := by
  rcases h with h | ⟨g, rfl, h⟩
  · rw [h] at h0; simp at h0
  · refine ⟨g, rfl, ?_, ?_, h⟩
    · rcases h.2 with ⟨hn, _⟩ | ⟨g', cap', cur, hv, hb, hg, hnc, hcm, _⟩
      · cases hn
      · injection hv with _ _ hc; rw [hc]; exact hnc
    · rcases h.2 with ⟨hn, _⟩ | ⟨g', cap', cur, hv, hb, hg, hnc, hcm, _⟩
      · cases hn
      · injection hv with _ _ hc; rw [hc]; exact hcm
theorem ptoks_at (n : Nat) (L : List Int) (x wt : Int) (w : World) (hL : tkR x wt = L) (hn : L.length = n) :
    Calls Try.prog 18 #[.int .i64 x, .int .i64 wt] w fun e w' => ∃ a c, e = .returned (.slice a n c) ∧ OwnZ w' w.heap.size a c L ∧ Below w.heap.size w w' := by subst hn; exact ptoks_as L x wt w hL
theorem remP (n : Nat) (m : Nat) (hm : 0 < m) : ∃ j : Nat, (n : Int) % (m : Int) = (j : Int) ∧ j < m := ⟨n % m, by omega, Nat.mod_lt _ hm⟩

set_option maxRecDepth 20000 in
set_option maxHeartbeats 4000000 in
theorem placeOwner (s : Option Addr) (len cap : Nat) (z : List Int) (w : World) (h : RowIn .u8 w s len cap z) :
    Calls Try.prog 5 #[.slice s len cap] w fun e w' => e = .returned (.bool true) ∧ Below w.heap.size w w' := by
  have hb := bytes_of_row h
  have hm : len ≤ maxLen := Nat.le_trans hb.1 hb.2.1
  unfold maxLen at hm
  clear h
  by_cases hllen : 1048576 < len
  · go_enter Try.func5, Try.ntmps5
    go_wp2
    go_ret
    exact ⟨rfl, Below.refl _ _⟩
  have HY := Lib.hid hb
  clear hb
  go_enter Try.func5, Try.ntmps5
  go_wp2_with fail
  refine (drawPlaceOwner s len cap w HY.out).mono ?_
  rintro e w1 ⟨g, c, L, x, rfl, hl64, ho, hb1⟩
  have B1 : Hid (Below w.heap.size w w1) := hb1
  have T1 := Lib.hid ho
  clear hb1 ho
  have H64 := Lib.hid hl64
  have HM := Lib.hid (small64 hl64)
  obtain ⟨v, hv⟩ : ∃ v, ownR L x = v := ⟨_, rfl⟩
  have HV := Lib.hid hv
  have q1 : (v != v) = false := by simp
  have q2 : (v == v) = true := by simp
  clear hl64
  cases hok : ownOk L x
  · have h0 : v < 0 := by rw [← hv, ownR_bad hok]; decide
    clear hv hok
    go_wp2_with fail
    refine (pown_as v _ _ c L x w1 T1.out.tk rfl HM.out HV.out).mono ?_
    rintro e w2 ⟨rfl, hb2⟩
    have B2 : Hid (Below w.heap.size w w2) := B1.out.trans (hb2.mono B1.out.size)
    have T2 := Lib.hid (T1.out.keepB hb2 (Nat.le_refl _))
    clear hb2
    go_wp2_with fail
    refine (sown_as v _ _ c L x w2 T2.out.tk rfl HM.out HV.out).mono ?_
    rintro e w3 ⟨rfl, hb3⟩
    have B3 : Hid (Below w.heap.size w w3) := B2.out.trans (hb3.mono B2.out.size)
    have T3 := Lib.hid (T2.out.keepB hb3 (Nat.le_refl _))
    clear hb3
    go_wp2
    go_ret
    exact ⟨rfl, B3.out⟩
  · have HOK := Lib.hid hok
    have hpt := own_pt ((ownOk_iff _ _).1 hok).1 x
    have hvo : v = ownT L x := by rw [← hv, ownR_ok hok]
    have h0 : ¬ v < 0 := by omega
    have HVO := Lib.hid hvo
    have HLP := Lib.hid (tb_len ((ownOk_iff _ _).1 hok).1)
    clear hv hok hpt hvo
    go_wp2_with fail
    refine (pown_as v _ _ c L x w1 T1.out.tk rfl HM.out HV.out).mono ?_
    rintro e w2 ⟨rfl, hb2⟩
    have B2 : Hid (Below w.heap.size w w2) := B1.out.trans (hb2.mono B1.out.size)
    have T2 := Lib.hid (T1.out.keepB hb2 (Nat.le_refl _))
    clear hb2
    go_wp2_with fail
    refine (sown_as v _ _ c L x w2 T2.out.tk rfl HM.out HV.out).mono ?_
    rintro e w3 ⟨rfl, hb3⟩
    have B3 : Hid (Below w.heap.size w w3) := B2.out.trans (hb3.mono B2.out.size)
    have T3 := Lib.hid (T2.out.keepB hb3 (Nat.le_refl _))
    clear hb3
    have h64 := H64.out
    go_wp2
    go_loopw [7] (fun i wr => ∃ k : Nat, k ≤ L.length ∧ i = .int .i64 k ∧ Hid (∀ j, j < k → (gk L j).p < x) ∧ Below w3.heap.size w3 wr) (fun i _ => L.length - (intOf i).toNat)
    case atStart => exact ⟨0, by omega, rfl, fun j hj => by omega, Below.refl _ _⟩
    case round =>
      obtain ⟨k, hk, rfl, HN, hbel⟩ := hrel
      have HT := Lib.hid (T3.out.keepB hbel (Nat.le_refl _))
      have HB : Hid (Below w.heap.size w wr) := B3.out.trans (hbel.mono B3.out.size)
      by_cases hlt : k < L.length
      · obtain ⟨hc0, hc1⟩ := HT.out.cells hlt
        obtain ⟨y, hy⟩ : ∃ y, y = gk L k := ⟨_, rfl⟩
        rw [← hy] at hc0 hc1
        have HY2 := Lib.hid hy
        have k0 : (0 : Int) ≤ (k : Int) := by omega
        have k1 : (k : Int) < (L.length : Int) := by omega
        clear hy
        by_cases hle : x ≤ y.p
        · have HE : Hid ((v == y.n) = true) := by
            show _ = true
            rw [beq_iff_eq, HVO.out, HY2.out]
            exact own_at hlt (fun i hi => HN.out i hi) (by rw [← HY2.out]; exact hle)
          have qe := HE.out
          clear q1 q2
          go_wp2
          go_ret
          exact ⟨rfl, HB.out⟩
        · go_wp2
          go_roundw
          case rel => exact ⟨k + 1, by omega, by go_num, fun j hj => by rcases Nat.lt_or_ge j k with h' | h'; exact HN.out j h'; obtain rfl : j = k := (by omega); rw [← HY2.out]; omega, hbel⟩
          case measure => simp [intOf]; omega
      · obtain ⟨hc0, hc1⟩ := HT.out.cells HLP.out
        have hl0 : (0 : Int) < (L.length : Int) := by have := HLP.out; omega
        have HE : Hid ((v == (gk L 0).n) = true) := by
          show _ = true
          rw [beq_iff_eq, HVO.out]
          exact own_end fun i hi => HN.out i (by omega)
        have qe := HE.out
        simp only [Nat.zero_mul, Nat.zero_add] at hc0 hc1
        clear q1 q2
        go_wp2
        go_ret
        exact ⟨rfl, HB.out⟩

theorem sumLd_le (L : List Tk) (k : Nat) : sumLd L 64 k ≤ 64 * k := by
  induction k with
  | zero => simp [sumLd]
  | succ k ih => unfold sumLd; have := ldN_le L (k : Int) 64; omega

set_option maxRecDepth 20000 in
set_option maxHeartbeats 4000000 in
theorem placeLoads (s : Option Addr) (len cap : Nat) (z : List Int) (w : World) (h : RowIn .u8 w s len cap z) :
    Calls Try.prog 6 #[.slice s len cap] w fun e w' => e = .returned (.bool true) ∧ Below w.heap.size w w' := by
  have hb := bytes_of_row h
  have hm : len ≤ maxLen := Nat.le_trans hb.1 hb.2.1
  unfold maxLen at hm
  clear h
  by_cases hllen : 1048576 < len
  · go_enter Try.func6, Try.ntmps6
    go_wp2
    go_ret
    exact ⟨rfl, Below.refl _ _⟩
  have HY := Lib.hid hb
  clear hb
  go_enter Try.func6, Try.ntmps6
  go_wp2_with fail
  refine (drawPlaceLoad s len cap w HY.out).mono ?_
  rintro e w1 ⟨g, c, L, x, rfl, hl64, ho, hb1⟩
  have B1 : Hid (Below w.heap.size w w1) := hb1
  have T1 := Lib.hid ho
  clear hb1 ho
  have H64 := Lib.hid hl64
  have HM := Lib.hid (small64 hl64)
  obtain ⟨v, hv⟩ : ∃ v, ldR L x = v := ⟨_, rfl⟩
  have HV := Lib.hid hv
  have q1 : (v != v) = false := by simp
  have q2 : (v == v) = true := by simp
  clear hl64
  cases hok : ownOk L x
  · have h0 : v < 0 := by rw [← hv, ldR_bad hok]; decide
    clear hv hok
    go_wp2_with fail
    refine (pload_as v _ _ c L x w1 T1.out.tk rfl HM.out HV.out).mono ?_
    rintro e w2 ⟨rfl, hb2⟩
    have B2 : Hid (Below w.heap.size w w2) := B1.out.trans (hb2.mono B1.out.size)
    have T2 := Lib.hid (T1.out.keepB hb2 (Nat.le_refl _))
    clear hb2
    go_wp2_with fail
    refine (sload_as v _ _ c L x w2 T2.out.tk rfl HM.out HV.out).mono ?_
    rintro e w3 ⟨rfl, hb3⟩
    have B3 : Hid (Below w.heap.size w w3) := B2.out.trans (hb3.mono B2.out.size)
    have T3 := Lib.hid (T2.out.keepB hb3 (Nat.le_refl _))
    clear hb3
    go_wp2
    go_ret
    exact ⟨rfl, B3.out⟩
  · have HOK := Lib.hid hok
    have h0 : ¬ v < 0 := by rw [← hv, ldR_ok hok]; omega
    have HTB := Lib.hid ((ownOk_iff _ _).1 hok).1
    clear hv hok
    go_wp2_with fail
    refine (pload_as v _ _ c L x w1 T1.out.tk rfl HM.out HV.out).mono ?_
    rintro e w2 ⟨rfl, hb2⟩
    have B2 : Hid (Below w.heap.size w w2) := B1.out.trans (hb2.mono B1.out.size)
    have T2 := Lib.hid (T1.out.keepB hb2 (Nat.le_refl _))
    clear hb2
    go_wp2_with fail
    refine (sload_as v _ _ c L x w2 T2.out.tk rfl HM.out HV.out).mono ?_
    rintro e w3 ⟨rfl, hb3⟩
    have B3 : Hid (Below w.heap.size w w3) := B2.out.trans (hb3.mono B2.out.size)
    have T3 := Lib.hid (T2.out.keepB hb3 (Nat.le_refl _))
    clear hb3
    go_wp2
    go_loopw [7, 8] (fun u i wr => ∃ k : Nat, k ≤ 64 ∧ i = .int .i64 k ∧ u = .int .i64 (sumLd L 64 k : Nat) ∧ Below w3.heap.size w3 wr) (fun _ i _ => 64 - (intOf i).toNat)
    case atStart => exact ⟨0, by omega, rfl, rfl, Below.refl _ _⟩
    case round =>
      obtain ⟨k, hk, rfl, rfl, hbel⟩ := hrel
      have HT := Lib.hid (T3.out.keepB hbel (Nat.le_refl _))
      have HB : Hid (Below w.heap.size w wr) := B3.out.trans (hbel.mono B3.out.size)
      by_cases hlt : k < 64
      · have HL : Hid (ldR L (k : Int) = (ldN L k 64 : Nat)) := ldR_ok ((ownOk_iff _ _).2 ⟨HTB.out, by omega, by omega⟩)
        have HS : Hid (sumLd L 64 (k + 1) = sumLd L 64 k + ldN L k 64) := rfl
        have hs1 : sumLd L 64 k ≤ 64 * k := sumLd_le L k
        have hs2 := ldN_le L k 64
        obtain ⟨u, hu⟩ : ∃ u, u = sumLd L 64 k := ⟨_, rfl⟩
        obtain ⟨t, ht⟩ : ∃ t, t = ldN L k 64 := ⟨_, rfl⟩
        rw [← hu] at HS hs1 ⊢
        rw [← ht] at HS HL hs2
        clear hu ht
        go_wp2_with fail
        refine (pload_as t _ _ c L k wr HT.out.tk rfl HM.out HL.out).mono ?_
        rintro e w4 ⟨rfl, hb4⟩
        go_wp2
        go_roundw
        case rel => exact ⟨k + 1, by omega, by go_num, by rw [HS.out]; go_num, hbel.trans (hb4.mono hbel.size)⟩
        case measure => simp [intOf]; omega
      · obtain rfl : k = 64 := by omega
        have HE : Hid (sumLd L 64 64 = 64) := sum_all HTB.out
        rw [HE.out]
        go_wp2
        go_ret
        exact ⟨rfl, HB.out⟩

theorem own_zero (L : List Tk) : True := trivial
theorem own_ge {L : List Tk} (h : tbB L = true) : ¬ ownR L 0 < 0 := by
  rw [ownR_ok ((ownOk_iff _ _).2 ⟨h, by omega, by omega⟩)]
  have := own_pt h 0; omega
theorem has_mv (A B : List Tk) {k : Nat} (hk : k < 64) : hasTo (mvTo A B 64) (k : Int) = (ownT A k != ownT B k) := by
  rw [Bool.eq_iff_iff, hasTo_iff, bne_iff_ne]
  constructor
  · rintro ⟨i, hi, he⟩
    have hm : (k : Int) ∈ mvTo A B 64 := by rw [← he, gt_get hi]; exact List.getElem_mem _
    obtain ⟨q, hq, hq2, hq3⟩ := (mem_mv A B 64 _).1 hm
    obtain rfl : k = q := by omega
    exact hq3
  · intro h
    have hm : (k : Int) ∈ mvTo A B 64 := (mem_mv A B 64 _).2 ⟨k, hk, rfl, h⟩
    obtain ⟨i, hi, he⟩ := List.getElem_of_mem hm
    exact ⟨i, hi, by rw [gt_get hi]; exact he⟩

set_option maxRecDepth 20000 in
set_option maxHeartbeats 4000000 in
theorem placeMovedLaw (s : Option Addr) (len cap : Nat) (z : List Int) (w : World) (h : RowIn .u8 w s len cap z) :
    Calls Try.prog 9 #[.slice s len cap] w fun e w' => e = .returned (.bool true) ∧ Below w.heap.size w w' := by
  have hb := bytes_of_row h
  have hm : len ≤ maxLen := Nat.le_trans hb.1 hb.2.1
  unfold maxLen at hm
  clear h
  by_cases hllen : 1048576 < len
  · go_enter Try.func9, Try.ntmps9
    go_wp2
    go_ret
    exact ⟨rfl, Below.refl _ _⟩
  have HY := Lib.hid hb
  clear hb
  go_enter Try.func9, Try.ntmps9
  go_wp2_with fail
  refine (drawPlaceMoved s len cap w HY.out).mono ?_
  rintro e w1 ⟨g, c, A, g2, c2, B, rfl, hl1, hl2, ho, ho2, hb1⟩
  have B1 : Hid (Below w.heap.size w w1) := hb1
  have P1 := Lib.hid ho
  have Q1 := Lib.hid ho2
  clear hb1 ho ho2
  have HM := Lib.hid (small64 hl1)
  have HM2 := Lib.hid (small64 hl2)
  obtain ⟨Z, hZ⟩ : ∃ Z, mvR A B = Z := ⟨_, rfl⟩
  have HZ := Lib.hid hZ
  have hz64 : Z.length ≤ 64 := by rw [← hZ]; exact mvR_len A B
  have HZL := Lib.hid (mil64 hz64)
  have HZM := Lib.hid (small64 hz64)
  have HK1 := Lib.hid (own_zero A)
  have HK2 := Lib.hid (own_zero B)
  clear hl1 hl2 hZ hz64
  cases hta : tbB A
  · have HV : Hid (ownR A 0 = -1) := ownR_bad (by simp [ownOk, hta])
    clear hta
    go_wp2_with fail
    refine (pmoved_as Z _ _ _ _ c c2 A B w1 P1.out.tk Q1.out.tk rfl rfl HM.out HM2.out HZ.out).mono ?_
    rintro e w2 ⟨a2, d2, rfl, ho, hb2⟩
    have B2 : Hid (Below w.heap.size w w2) := B1.out.trans (hb2.mono B1.out.size)
    have P2 := Lib.hid (P1.out.keepB hb2 (Nat.le_refl _))
    have Q2 := Lib.hid (Q1.out.keepB hb2 (Nat.le_refl _))
    have O2 := Lib.hid ho
    clear hb2 ho
    go_wp2_with fail
    refine (smoved_as Z _ _ _ _ c c2 A B w2 P2.out.tk Q2.out.tk rfl rfl HM.out HM2.out HZ.out).mono ?_
    rintro e w3 ⟨a3, d3, rfl, ho, hb3⟩
    have B3 : Hid (Below w.heap.size w w3) := B2.out.trans (hb3.mono B2.out.size)
    have P3 := Lib.hid (P2.out.keepB hb3 (Nat.le_refl _))
    have Q3 := Lib.hid (Q2.out.keepB hb3 (Nat.le_refl _))
    have O3 := Lib.hid (O2.out.keepB hb3 (Nat.le_refl _))
    have S3 := Lib.hid ho
    clear hb3 ho
    go_wp2_with fail
    refine (sameI_any a2 a3 _ d2 d3 Z w3 O3.out.ints S3.out.ints rfl HZL.out).mono ?_
    rintro e w4 ⟨rfl, hs4⟩
    have hb4 := hs4.below w3.heap.size
    have B4 : Hid (Below w.heap.size w w4) := B3.out.trans (hb4.mono B3.out.size)
    have P4 := Lib.hid (P3.out.keepB hb4 (Nat.le_refl _))
    have Q4 := Lib.hid (Q3.out.keepB hb4 (Nat.le_refl _))
    have O4 := Lib.hid (O3.out.keepB hb4 (Nat.le_refl _))
    have S4 := Lib.hid (S3.out.keepB hb4 (Nat.le_refl _))
    clear hs4 hb4
    go_wp2_with fail
    refine (sown_as (-1) _ _ c A 0 w4 P4.out.tk rfl HM.out HV.out).mono ?_
    rintro e w5 ⟨rfl, hb5⟩
    have B5 : Hid (Below w.heap.size w w5) := B4.out.trans (hb5.mono B4.out.size)
    have P5 := Lib.hid (P4.out.keepB hb5 (Nat.le_refl _))
    have Q5 := Lib.hid (Q4.out.keepB hb5 (Nat.le_refl _))
    have O5 := Lib.hid (O4.out.keepB hb5 (Nat.le_refl _))
    have S5 := Lib.hid (S4.out.keepB hb5 (Nat.le_refl _))
    clear hb5
    go_wp2_with fail
    refine (sameI_any a2 a3 _ d2 d3 Z w5 O5.out.ints S5.out.ints rfl HZL.out).mono ?_
    rintro e w6 ⟨rfl, hs6⟩
    have hb6 := hs6.below w5.heap.size
    have B6 : Hid (Below w.heap.size w w6) := B5.out.trans (hb6.mono B5.out.size)
    have P6 := Lib.hid (P5.out.keepB hb6 (Nat.le_refl _))
    have Q6 := Lib.hid (Q5.out.keepB hb6 (Nat.le_refl _))
    have O6 := Lib.hid (O5.out.keepB hb6 (Nat.le_refl _))
    have S6 := Lib.hid (S5.out.keepB hb6 (Nat.le_refl _))
    clear hs6 hb6
    go_wp2
    go_ret
    exact ⟨rfl, B6.out⟩
  obtain ⟨va, hva, hva0⟩ : ∃ v, ownR A 0 = v ∧ ¬ v < 0 := ⟨_, rfl, own_ge hta⟩
  have HVA := Lib.hid hva
  clear hva
  cases htb : tbB B
  · have HV : Hid (ownR B 0 = -1) := ownR_bad (by simp [ownOk, htb])
    clear hta htb
    go_wp2_with fail
    refine (pmoved_as Z _ _ _ _ c c2 A B w1 P1.out.tk Q1.out.tk rfl rfl HM.out HM2.out HZ.out).mono ?_
    rintro e w2 ⟨a2, d2, rfl, ho, hb2⟩
    have B2 : Hid (Below w.heap.size w w2) := B1.out.trans (hb2.mono B1.out.size)
    have P2 := Lib.hid (P1.out.keepB hb2 (Nat.le_refl _))
    have Q2 := Lib.hid (Q1.out.keepB hb2 (Nat.le_refl _))
    have O2 := Lib.hid ho
    clear hb2 ho
    go_wp2_with fail
    refine (smoved_as Z _ _ _ _ c c2 A B w2 P2.out.tk Q2.out.tk rfl rfl HM.out HM2.out HZ.out).mono ?_
    rintro e w3 ⟨a3, d3, rfl, ho, hb3⟩
    have B3 : Hid (Below w.heap.size w w3) := B2.out.trans (hb3.mono B2.out.size)
    have P3 := Lib.hid (P2.out.keepB hb3 (Nat.le_refl _))
    have Q3 := Lib.hid (Q2.out.keepB hb3 (Nat.le_refl _))
    have O3 := Lib.hid (O2.out.keepB hb3 (Nat.le_refl _))
    have S3 := Lib.hid ho
    clear hb3 ho
    go_wp2_with fail
    refine (sameI_any a2 a3 _ d2 d3 Z w3 O3.out.ints S3.out.ints rfl HZL.out).mono ?_
    rintro e w4 ⟨rfl, hs4⟩
    have hb4 := hs4.below w3.heap.size
    have B4 : Hid (Below w.heap.size w w4) := B3.out.trans (hb4.mono B3.out.size)
    have P4 := Lib.hid (P3.out.keepB hb4 (Nat.le_refl _))
    have Q4 := Lib.hid (Q3.out.keepB hb4 (Nat.le_refl _))
    have O4 := Lib.hid (O3.out.keepB hb4 (Nat.le_refl _))
    have S4 := Lib.hid (S3.out.keepB hb4 (Nat.le_refl _))
    clear hs4 hb4
    go_wp2_with fail
    refine (sown_as va _ _ c A 0 w4 P4.out.tk rfl HM.out HVA.out).mono ?_
    rintro e w5 ⟨rfl, hb5⟩
    have B5 : Hid (Below w.heap.size w w5) := B4.out.trans (hb5.mono B4.out.size)
    have P5 := Lib.hid (P4.out.keepB hb5 (Nat.le_refl _))
    have Q5 := Lib.hid (Q4.out.keepB hb5 (Nat.le_refl _))
    have O5 := Lib.hid (O4.out.keepB hb5 (Nat.le_refl _))
    have S5 := Lib.hid (S4.out.keepB hb5 (Nat.le_refl _))
    clear hb5
    go_wp2_with fail
    refine (sown_as (-1) _ _ c2 B 0 w5 Q5.out.tk rfl HM2.out HV.out).mono ?_
    rintro e w6 ⟨rfl, hb6⟩
    have B6 : Hid (Below w.heap.size w w6) := B5.out.trans (hb6.mono B5.out.size)
    have P6 := Lib.hid (P5.out.keepB hb6 (Nat.le_refl _))
    have Q6 := Lib.hid (Q5.out.keepB hb6 (Nat.le_refl _))
    have O6 := Lib.hid (O5.out.keepB hb6 (Nat.le_refl _))
    have S6 := Lib.hid (S5.out.keepB hb6 (Nat.le_refl _))
    clear hb6
    go_wp2_with fail
    refine (sameI_any a2 a3 _ d2 d3 Z w6 O6.out.ints S6.out.ints rfl HZL.out).mono ?_
    rintro e w7 ⟨rfl, hs7⟩
    have hb7 := hs7.below w6.heap.size
    have B7 : Hid (Below w.heap.size w w7) := B6.out.trans (hb7.mono B6.out.size)
    have P7 := Lib.hid (P6.out.keepB hb7 (Nat.le_refl _))
    have Q7 := Lib.hid (Q6.out.keepB hb7 (Nat.le_refl _))
    have O7 := Lib.hid (O6.out.keepB hb7 (Nat.le_refl _))
    have S7 := Lib.hid (S6.out.keepB hb7 (Nat.le_refl _))
    clear hs7 hb7
    go_wp2
    go_ret
    exact ⟨rfl, B7.out⟩
  obtain ⟨vb, hvb, hvb0⟩ : ∃ v, ownR B 0 = v ∧ ¬ v < 0 := ⟨_, rfl, own_ge htb⟩
  have HVB := Lib.hid hvb
  have HTA := Lib.hid hta
  have HTB := Lib.hid htb
  have HZ2 : Hid (mvR B A = Z) := by show _ = _; rw [← HZ.out, mvR_ok hta htb, mvR_ok htb hta]; exact mv_swap _ _ _
  have HZ3 : Hid (Z = mvTo A B 64) := by show _ = _; rw [← HZ.out, mvR_ok hta htb]
  clear hvb hta htb
  go_wp2_with fail
  refine (pmoved_as Z _ _ _ _ c c2 A B w1 P1.out.tk Q1.out.tk rfl rfl HM.out HM2.out HZ.out).mono ?_
  rintro e w2 ⟨a2, d2, rfl, ho, hb2⟩
  have B2 : Hid (Below w.heap.size w w2) := B1.out.trans (hb2.mono B1.out.size)
  have P2 := Lib.hid (P1.out.keepB hb2 (Nat.le_refl _))
  have Q2 := Lib.hid (Q1.out.keepB hb2 (Nat.le_refl _))
  have O2 := Lib.hid ho
  clear hb2 ho
  go_wp2_with fail
  refine (smoved_as Z _ _ _ _ c c2 A B w2 P2.out.tk Q2.out.tk rfl rfl HM.out HM2.out HZ.out).mono ?_
  rintro e w3 ⟨a3, d3, rfl, ho, hb3⟩
  have B3 : Hid (Below w.heap.size w w3) := B2.out.trans (hb3.mono B2.out.size)
  have P3 := Lib.hid (P2.out.keepB hb3 (Nat.le_refl _))
  have Q3 := Lib.hid (Q2.out.keepB hb3 (Nat.le_refl _))
  have O3 := Lib.hid (O2.out.keepB hb3 (Nat.le_refl _))
  have S3 := Lib.hid ho
  clear hb3 ho
  go_wp2_with fail
  refine (sameI_any a2 a3 _ d2 d3 Z w3 O3.out.ints S3.out.ints rfl HZL.out).mono ?_
  rintro e w4 ⟨rfl, hs4⟩
  have hb4 := hs4.below w3.heap.size
  have B4 : Hid (Below w.heap.size w w4) := B3.out.trans (hb4.mono B3.out.size)
  have P4 := Lib.hid (P3.out.keepB hb4 (Nat.le_refl _))
  have Q4 := Lib.hid (Q3.out.keepB hb4 (Nat.le_refl _))
  have O4 := Lib.hid (O3.out.keepB hb4 (Nat.le_refl _))
  have S4 := Lib.hid (S3.out.keepB hb4 (Nat.le_refl _))
  clear hs4 hb4
  go_wp2_with fail
  refine (sown_as va _ _ c A 0 w4 P4.out.tk rfl HM.out HVA.out).mono ?_
  rintro e w5 ⟨rfl, hb5⟩
  have B5 : Hid (Below w.heap.size w w5) := B4.out.trans (hb5.mono B4.out.size)
  have P5 := Lib.hid (P4.out.keepB hb5 (Nat.le_refl _))
  have Q5 := Lib.hid (Q4.out.keepB hb5 (Nat.le_refl _))
  have O5 := Lib.hid (O4.out.keepB hb5 (Nat.le_refl _))
  have S5 := Lib.hid (S4.out.keepB hb5 (Nat.le_refl _))
  clear hb5
  go_wp2_with fail
  refine (sown_as vb _ _ c2 B 0 w5 Q5.out.tk rfl HM2.out HVB.out).mono ?_
  rintro e w6 ⟨rfl, hb6⟩
  have B6 : Hid (Below w.heap.size w w6) := B5.out.trans (hb6.mono B5.out.size)
  have P6 := Lib.hid (P5.out.keepB hb6 (Nat.le_refl _))
  have Q6 := Lib.hid (Q5.out.keepB hb6 (Nat.le_refl _))
  have O6 := Lib.hid (O5.out.keepB hb6 (Nat.le_refl _))
  have S6 := Lib.hid (S5.out.keepB hb6 (Nat.le_refl _))
  clear hb6
  go_wp2
  go_loopw [7] (fun i wr => ∃ k : Nat, k ≤ 64 ∧ i = .int .i64 k ∧ Below w6.heap.size w6 wr) (fun i _ => 64 - (intOf i).toNat)
  case atStart => exact ⟨0, by omega, rfl, Below.refl _ _⟩
  case round =>
    obtain ⟨k, hk, rfl, hbel⟩ := hrel
    have HP := Lib.hid (P6.out.keepB hbel (Nat.le_refl _))
    have HQ := Lib.hid (Q6.out.keepB hbel (Nat.le_refl _))
    have HO := Lib.hid (O6.out.keepB hbel (Nat.le_refl _))
    have HB : Hid (Below w.heap.size w wr) := B6.out.trans (hbel.mono B6.out.size)
    clear hva0 hvb0
    by_cases hlt : k < 64
    · obtain ⟨x, hx⟩ : ∃ x, ownR A (k : Int) = x := ⟨_, rfl⟩
      obtain ⟨y, hy⟩ : ∃ y, ownR B (k : Int) = y := ⟨_, rfl⟩
      have HH : Hid (hasTo Z (k : Int) = (x != y)) := by
        show _ = _
        rw [← hx, ← hy, ownR_ok ((ownOk_iff _ _).2 ⟨HTA.out, by omega, by omega⟩), ownR_ok ((ownOk_iff _ _).2 ⟨HTB.out, by omega, by omega⟩), HZ3.out]
        exact has_mv A B hlt
      have HX := Lib.hid hx
      have HYY := Lib.hid hy
      clear hx hy
      cases hxy : (x != y)
      · have HH2 : Hid (hasTo Z (k : Int) = false) := by show _ = _; rw [HH.out, hxy]
        go_wp2_with fail
        refine (hasI_as false a2 _ d2 Z k wr HO.out.ints rfl HZM.out HH2.out).mono ?_
        rintro e w7 ⟨rfl, hb7⟩
        go_wp2_with fail
        refine (pown_as x _ _ c A k w7 (HP.out.keepB hb7 (Nat.le_refl _)).tk rfl HM.out HX.out).mono ?_
        rintro e w8 ⟨rfl, hb8⟩
        have hb78 := hb7.trans (hb8.mono hb7.size)
        go_wp2_with fail
        refine (pown_as y _ _ c2 B k w8 (HQ.out.keepB hb78 (Nat.le_refl _)).tk rfl HM2.out HYY.out).mono ?_
        rintro e w9 ⟨rfl, hb9⟩
        have hb79 := hb78.trans (hb9.mono hb78.size)
        clear hb7 hb8 hb78 hb9
        go_wp2
        go_roundw
        case rel => exact ⟨k + 1, by omega, by go_num, hbel.trans (hb79.mono hbel.size)⟩
        case measure => simp [intOf]; omega
      · have HH2 : Hid (hasTo Z (k : Int) = true) := by show _ = _; rw [HH.out, hxy]
        go_wp2_with fail
        refine (hasI_as true a2 _ d2 Z k wr HO.out.ints rfl HZM.out HH2.out).mono ?_
        rintro e w7 ⟨rfl, hb7⟩
        go_wp2_with fail
        refine (pown_as x _ _ c A k w7 (HP.out.keepB hb7 (Nat.le_refl _)).tk rfl HM.out HX.out).mono ?_
        rintro e w8 ⟨rfl, hb8⟩
        have hb78 := hb7.trans (hb8.mono hb7.size)
        go_wp2_with fail
        refine (pown_as y _ _ c2 B k w8 (HQ.out.keepB hb78 (Nat.le_refl _)).tk rfl HM2.out HYY.out).mono ?_
        rintro e w9 ⟨rfl, hb9⟩
        have hb79 := hb78.trans (hb9.mono hb78.size)
        clear hb7 hb8 hb78 hb9
        go_wp2
        go_roundw
        case rel => exact ⟨k + 1, by omega, by go_num, hbel.trans (hb79.mono hbel.size)⟩
        case measure => simp [intOf]; omega
    · go_wp2_with fail
      refine (pmoved_as Z _ _ _ _ c2 c B A wr HQ.out.tk HP.out.tk rfl rfl HM2.out HM.out HZ2.out).mono ?_
      rintro e w7 ⟨a7, d7, rfl, ho7, hb7⟩
      have HO7 := Lib.hid ho7
      have HO8 := Lib.hid (HO.out.keepB hb7 (Nat.le_refl _))
      have HB7 : Hid (Below w.heap.size w w7) := HB.out.trans (hb7.mono HB.out.size)
      clear ho7 hb7
      go_wp2_with fail
      refine (sameI_any a7 a2 _ d7 d2 Z w7 HO7.out.ints HO8.out.ints rfl HZL.out).mono ?_
      rintro e w8 ⟨rfl, hs8⟩
      have HB8 : Hid (Below w.heap.size w w8) := HB7.out.trans (hs8.below _)
      clear hs8
      go_wp2
      go_ret
      exact ⟨rfl, HB8.out⟩

end Go.Proofs.Ytidabcdaodlfeaa
