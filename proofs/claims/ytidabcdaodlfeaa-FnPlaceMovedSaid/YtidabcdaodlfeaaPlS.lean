/- What the model does with tables: tokens, valid tables, owners, loads, moved keys. -/
import Derived.Test.YtidabcdaodlfeaaTkAt
import Derived.Test.YtidabcdaodlfeaaPlMath2
import Derived.Test.YtidabcdaodlfeaaCls
import Derived.WalkKit
import Derived.BigQuiet
import Derived.Deep.QuietTactic
import Derived.Laws.StructEq
import Derived.Laws.ByValue
import Derived.Deep.RegionHeld3
import Derived.Deep.DrawnRows
namespace Go.Proofs.Ytidabcdaodlfeaa
open Go.RowKit
set_option linter.unusedVariables false
attribute [local go_sem ↓] Go.wp_at_zero Go.wp_at_succ

theorem alB (w : World) (o : Obj) : Below w.heap.size w (w.alloc o) := (Below.refl _ _).alloc (Nat.le_refl _) _
theorem ret_i {a b : Int} (h : a = b) : Ending.returned (.int .i64 a) = Ending.returned (.int .i64 b) := by rw [h]

set_option maxHeartbeats 1000000 in
theorem stok_any (n : Int) (i : Nat) (w : World) (h0 : 0 ≤ n) (h1 : n < 64) (hi : i < 6) :
    Calls Try.prog 52 #[.int .i64 n, .int .i64 i] w fun e w' => e = .returned (.int .i64 (tok n i)) ∧ w = w' := by
  have hc : i = 0 ∨ i = 1 ∨ i = 2 ∨ i = 3 ∨ i = 4 ∨ i = 5 := by omega
  have h64 : ¬ (64 : Int) = 0 := by omega
  rcases hc with rfl | rfl | rfl | rfl | rfl | rfl
  all_goals
    go_enter Try.func52, Try.ntmps52
    go_wp2
    go_ret
    exact ⟨ret_i (by unfold tok; simp <;> omega), rfl⟩

set_option maxHeartbeats 2000000 in
theorem stoks_any (n wt : Int) (w : World) :
    Calls Try.prog 19 #[.int .i64 n, .int .i64 wt] w (NewInts (tkR n wt) w) := by
  obtain ⟨w1, hw1⟩ : ∃ w1, w1 = w.alloc (.cells #[] 3) := ⟨_, rfl⟩
  have H0 : Hid (IntsSoFar [] w (.slice (some ⟨w.heap.size, 0, none⟩) 0 0) w1) := by show IntsSoFar _ _ _ _; rw [hw1]; exact sofar_new w _ rfl
  have HW := Lib.hid hw1
  clear hw1
  cases hp : ptB n
  · have He : Hid (tkR n wt = []) := tkR_bad (by simp [tkOk, hp])
    go_enter Try.func19, Try.ntmps19
    go_wp2_with fail
    rw [← HW.out]
    refine (point_any n w1).mono ?_
    rintro e w' ⟨rfl, rfl⟩
    rw [hp]
    go_wp2
    go_ret
    rw [He.out]
    exact new_of_sofar H0.out
  cases hq : decide (1 ≤ wt ∧ wt ≤ 5)
  · have He : Hid (tkR n wt = []) := tkR_bad (by simp only [tkOk, hq, Bool.and_false])
    go_enter Try.func19, Try.ntmps19
    go_wp2_with fail
    rw [← HW.out]
    refine (point_any n w1).mono ?_
    rintro e w' ⟨rfl, rfl⟩
    rw [hp]
    go_wp2_with fail
    refine (in_any wt 1 5 w1).mono ?_
    rintro e w' ⟨rfl, rfl⟩
    rw [hq]
    go_wp2
    go_ret
    rw [He.out]
    exact new_of_sofar H0.out
  · have hpn := (ptB_iff n).1 hp
    have hwt := of_decide_eq_true hq
    obtain ⟨m, rfl, hm1, hm5⟩ : ∃ m : Nat, wt = (m : Int) ∧ 1 ≤ m ∧ m ≤ 5 := ⟨wt.toNat, by omega, by omega, by omega⟩
    have He : Hid (tkR n m = tkL n m) := by show _ = _; rw [tkR_ok ((tkOk_iff _ _).2 ⟨hpn, hwt⟩)]; simp
    have hn0 := hpn.1
    have hn1 := hpn.2
    clear hpn hwt
    go_enter Try.func19, Try.ntmps19
    go_wp2_with fail
    rw [← HW.out]
    refine (point_any n w1).mono ?_
    rintro e w' ⟨rfl, rfl⟩
    rw [hp]
    go_wp2_with fail
    refine (in_any m 1 5 w1).mono ?_
    rintro e w' ⟨rfl, rfl⟩
    rw [hq]
    clear hp hq
    go_wp2
    go_loopw [5, 6] (fun o i wr => ∃ k : Nat, k ≤ m ∧ i = .int .i64 k ∧ IntsSoFar (tkL n k) w o wr) (fun _ i _ => m - (intOf i).toNat)
    case atStart => exact ⟨0, by omega, rfl, H0.out⟩
    case round =>
      obtain ⟨k, hk, rfl, g, cap, rfl, hown, hbel⟩ := hrel
      have HO := Lib.hid hown
      have hgl := hown.lt
      clear hown
      by_cases hlt : k < m
      · have HT := Lib.hid (tkL_s n k)
        have hl := tkL_len n k
        obtain ⟨zs, hzs⟩ : ∃ zs, zs = tkL n k := ⟨_, rfl⟩
        rw [← hzs] at HO HT hl ⊢
        rw [hl]
        have HL := Lib.hid hl
        clear hzs hl
        have hws := hbel.size
        go_wp2_with fail
        refine (stok_any n k wr hn0 hn1 (by omega)).mono ?_
        rintro e w' ⟨rfl, rfl⟩
        go_wp2_with (at_builtin; have h1 := (HO.out.keepB (alB wr (.cells #[.int .i64 (tok n k)] 3)) (Nat.le_refl _)); have h2 := src_one (heap_alloc_new wr (.cells #[.int .i64 (tok n k)] 3)); unfold OwnI at h1; rw [HL.out] at h1; refine wl_app _ (by rfl) _ _ (by rfl) w.heap.size g k cap (vals zs) (by rfl) h1 ⟨wr.heap.size, 0, none⟩ 1 1 [.int .i64 (tok n k)] (by rfl) rfl h2 (by simp [Value.oneCell']) (k + 1) (vals (zs ++ [tok n k])) rfl (by simp [vals]) (by omega) (by simp; omega) ?_; intro g' c' w3 hown3 hgr3 hat3; have H3 := Lib.hid (sofar_next (zs := zs) (z := tok n k) hbel (alB wr _) hgr3 hgl.1 (by rw [HL.out]; exact hown3)); clear hown3 hgr3 hat3 h1 h2)
        go_roundw
        case rel => exact ⟨k + 1, by omega, by go_num, by rw [HT.out]; have := H3.out; rw [HL.out] at this; exact this⟩
        case measure => simp [intOf]; omega
      · obtain rfl : k = m := by omega
        go_wp2
        go_ret
        rw [He.out]
        exact ⟨g, cap, rfl, HO.out, hbel⟩

set_option maxHeartbeats 1000000 in
theorem stb_any (a : Option Addr) (len cap : Nat) (L : List Tk) (w : World) (h : TkAt w a L) (hz : L.length = len) (hm : len ≤ maxLen) :
    Calls Try.prog 62 #[.slice a len cap] w fun e w' => e = .returned (.bool (tbB L)) ∧ Same w w' := by
  have HI := Lib.hid h
  have HZ := Lib.hid hz
  unfold maxLen at hm
  clear h hz
  go_enter Try.func62, Try.ntmps62
  go_wp2
  go_loopw [3] (fun i wr => ∃ k : Nat, k ≤ len ∧ i = .int .i64 k ∧ okKTo L k = true ∧ Same w wr) (fun i _ => len - (intOf i).toNat)
  case atStart => exact ⟨0, by omega, rfl, rfl, Same.refl _⟩
  case round =>
    obtain ⟨k, hk, rfl, hall, hsame⟩ := hrel
    have HA := Lib.hid hall
    clear hall
    by_cases hlt : k < len
    · obtain ⟨b, off, rfl, hb0, hcells⟩ := (HI.out.same hsame).at_ (i := k) (by rw [HZ.out]; exact hlt)
      obtain ⟨hc0, hc1⟩ := hcells k (by rw [HZ.out]; exact hlt)
      have HN := Lib.hid hcells
      clear hcells
      have hkL : Hid (k < L.length) := by show k < L.length; rw [HZ.out]; exact hlt
      cases h1 : ptB (gk L k).p
      · have HL : Hid (tbB L = false) := tbB_no_p hkL.out h1
        go_wp2
        go_quiet (first | (go_at_call 50; exact Calls.quiet_of_same (calls_flip (point_any _ _))))
        go_wp2
        go_ret
        exact ⟨ret_bool HL.out.symm, hsame.drewN _⟩
      cases h2 : ptB (gk L k).n
      · have HL : Hid (tbB L = false) := tbB_no_n hkL.out h2
        go_wp2
        go_quiet (first | (go_at_call 50; exact Calls.quiet_of_same (calls_flip (point_any _ _))))
        go_wp2
        go_ret
        exact ⟨ret_bool HL.out.symm, hsame.drewN _⟩
      have HV1 := Lib.hid h1
      have HV2 := Lib.hid h2
      by_cases hk0 : k = 0
      · have hk00 : decide (0 < (k : Int)) = false := by simp; omega
        have hk01 : decide (0 < k) = false := by simp; omega
        have HK := Lib.hid hk0
        clear hk0
        go_wp2
        go_quiet (first | (go_at_call 50; exact Calls.quiet_of_same (calls_flip (point_any _ _))))
        clear hk00 hk01
        go_wp2
        go_roundw
        case rel => exact ⟨k + 1, by omega, by go_num, by have a1 := HV1.out; have a2 := HV2.out; have hk := HK.out; subst hk; exact okKTo_z a1 a2, hsame.drewN _⟩
        case measure => simp [intOf]; omega
      · have hk1 : ((k : Int) - 1).toNat = k - 1 := by omega
        obtain ⟨hd0, hd1⟩ := HN.out (k - 1) (by rw [HZ.out]; omega)
        have hkp : 0 < k := by omega
        have hki : (1 : Int) ≤ (k : Int) := by omega
        by_cases hle : (gk L k).p ≤ (gk L (k - 1)).p
        · have HL : Hid (tbB L = false) := tbB_no_lt (j := k - 1) (by have := hkL.out; omega) (by rw [show k - 1 + 1 = k by omega]; exact hle)
          go_wp2
          go_quiet (first | (go_at_call 50; exact Calls.quiet_of_same (calls_flip (point_any _ _))))
          go_wp2
          go_ret
          exact ⟨ret_bool HL.out.symm, hsame.drewN _⟩
        · have hle' : (gk L (k - 1)).p < (gk L k).p := by omega
          have HL := Lib.hid hle'
          go_wp2
          go_quiet (first | (go_at_call 50; exact Calls.quiet_of_same (calls_flip (point_any _ _))))
          go_wp2
          go_roundw
          case rel =>
            refine ⟨k + 1, by omega, by go_num, ?_, hsame.drewN _⟩
            have a0 := HA.out
            have a1 := HV1.out
            have a2 := HV2.out
            have a3 := HL.out
            obtain ⟨j, rfl⟩ : ∃ j, k = j + 1 := ⟨k - 1, by omega⟩
            exact okKTo_s a0 a1 a2 a3
          case measure => simp [intOf]; omega
    · have hkl : k = len := by omega
      have HK := Lib.hid hkl
      have He : Hid (tbB L = decide (0 < L.length)) := tbB_all (by rw [HZ.out, ← HK.out]; exact HA.out)
      clear hkl
      go_wp2
      all_goals
        go_ret
        exact ⟨ret_bool (by first | (rw [He.out, HZ.out, Bool.eq_iff_iff]; done) | (rw [He.out, HZ.out, Bool.eq_iff_iff]; simp; done) | (rw [He.out, HZ.out, Bool.eq_iff_iff]; simp; omega)), hsame⟩
theorem stb_as (v : Bool) (a : Option Addr) (len cap : Nat) (L : List Tk) (w : World) (h : TkAt w a L) (hz : L.length = len) (hm : len ≤ maxLen) (hv : tbB L = v) :
    Calls Try.prog 62 #[.slice a len cap] w fun e w' => e = .returned (.bool v) ∧ Same w w' := by subst hv; exact stb_any a len cap L w h hz hm

set_option maxHeartbeats 1000000 in
theorem sholder_any (a : Option Addr) (len cap : Nat) (L : List Tk) (key : Int) (w : World) (h : TkAt w a L) (hz : L.length = len) (hm : len ≤ maxLen) (h0 : 1 ≤ len) :
    Calls Try.prog 63 #[.slice a len cap, .int .i64 key] w fun e w' => e = .returned (.int .i64 (ownT L key)) ∧ w = w' := by
  have HZ := Lib.hid hz
  obtain ⟨b, off, rfl, hb0, hcells⟩ := h.at_ (i := 0) (by omega)
  have HC : Hid (∀ i, i < len → TkCell w b (off + i * 2) (gk L i)) := fun i hi => hcells i (by rw [HZ.out]; exact hi)
  unfold maxLen at hm
  clear h hz hcells
  go_enter Try.func63, Try.ntmps63
  go_wp2
  go_loop [5] (fun i => ∃ k : Nat, k ≤ len ∧ i = .int .i64 k ∧ Hid (∀ j, j < k → (gk L j).p < key)) (fun i => len - (intOf i).toNat)
  case atStart => exact ⟨0, by omega, rfl, fun j hj => by omega⟩
  case round =>
    obtain ⟨k, hk, rfl, HN⟩ := hrel
    by_cases hlt : k < len
    · obtain ⟨hc0, hc1⟩ := HC.out k hlt
      have k0 : (0 : Int) ≤ (k : Int) := by omega
      have k1 : (k : Int) < (len : Int) := by omega
      by_cases hc : key ≤ (gk L k).p
      · have HO : Hid (ownT L key = (gk L k).n) := own_at (by rw [HZ.out]; exact hlt) HN.out hc
        go_wp2
        go_ret
        exact ⟨ret_i HO.out.symm, rfl⟩
      · have HX : Hid ((gk L k).p < key) := by show _ < _; omega
        go_wp2
        go_round
        case rel => exact ⟨k + 1, by omega, by go_num, fun j hj => by rcases Nat.lt_or_ge j k with h' | h'; exact HN.out j h'; obtain rfl : j = k := (by omega); exact HX.out⟩
        case measure => simp [intOf]; omega
    · have HO : Hid (ownT L key = (gk L 0).n) := own_end fun i hi => HN.out i (by rw [HZ.out] at hi; omega)
      obtain ⟨hc0, hc1⟩ := HC.out 0 (by omega)
      simp only [Nat.zero_mul, Nat.add_zero] at hc0 hc1
      have k0 : (0 : Int) < (len : Int) := by omega
      have k1 : 0 < len := by omega
      go_wp2
      go_ret
      exact ⟨ret_i HO.out.symm, rfl⟩

set_option maxHeartbeats 1000000 in
theorem sown_any (a : Option Addr) (len cap : Nat) (L : List Tk) (key : Int) (w : World) (h : TkAt w a L) (hz : L.length = len) (hm : len ≤ maxLen) :
    Calls Try.prog 28 #[.slice a len cap, .int .i64 key] w fun e w' => e = .returned (.int .i64 (ownR L key)) ∧ Same w w' := by
  have HI := Lib.hid h
  have HZ := Lib.hid hz
  have HM := Lib.hid hm
  clear h hz hm
  cases hv : tbB L
  · have HR := Lib.hid (ownR_bad (show ownOk L key = false by simp [ownOk, hv]))
    go_enter Try.func28, Try.ntmps28
    go_wp2_with fail
    refine (stb_as false a len cap L w HI.out HZ.out HM.out hv).mono ?_
    rintro e w2 ⟨rfl, hs⟩
    go_wp2
    go_ret
    exact ⟨ret_i HR.out.symm, hs⟩
  cases hp : ptB key
  · have HR := Lib.hid (ownR_bad (show ownOk L key = false by simp [ownOk, hp]))
    go_enter Try.func28, Try.ntmps28
    go_wp2_with fail
    refine (stb_as true a len cap L w HI.out HZ.out HM.out hv).mono ?_
    rintro e w2 ⟨rfl, hs⟩
    go_wp2_with fail
    refine (point_any key w2).mono ?_
    rintro e w' ⟨rfl, rfl⟩
    rw [hp]
    go_wp2
    go_ret
    exact ⟨ret_i HR.out.symm, hs⟩
  · have HR := Lib.hid (ownR_ok (show ownOk L key = true by simp [ownOk, hv, hp]))
    have h1 := tb_len hv
    rw [HZ.out] at h1
    go_enter Try.func28, Try.ntmps28
    go_wp2_with fail
    refine (stb_as true a len cap L w HI.out HZ.out HM.out hv).mono ?_
    rintro e w2 ⟨rfl, hs⟩
    have HI2 := Lib.hid (HI.out.same hs)
    go_wp2_with fail
    refine (point_any key w2).mono ?_
    rintro e w' ⟨rfl, rfl⟩
    rw [hp]
    go_wp2_with fail
    refine (sholder_any a len cap L key w2 HI2.out HZ.out HM.out h1).mono ?_
    rintro e w' ⟨rfl, rfl⟩
    go_wp2
    go_ret
    exact ⟨ret_i HR.out.symm, hs⟩

set_option maxHeartbeats 1000000 in
theorem sload_any (a : Option Addr) (len cap : Nat) (L : List Tk) (node : Int) (w : World) (h : TkAt w a L) (hz : L.length = len) (hm : len ≤ maxLen) :
    Calls Try.prog 31 #[.slice a len cap, .int .i64 node] w fun e w' => e = .returned (.int .i64 (ldR L node)) ∧ Same w w' := by
  have HI := Lib.hid h
  have HZ := Lib.hid hz
  have HM := Lib.hid hm
  clear h hz hm
  cases hv : tbB L
  · have HR := Lib.hid (ldR_bad (show ownOk L node = false by simp [ownOk, hv]))
    go_enter Try.func31, Try.ntmps31
    go_wp2_with fail
    refine (stb_as false a len cap L w HI.out HZ.out HM.out hv).mono ?_
    rintro e w2 ⟨rfl, hs⟩
    go_wp2
    go_ret
    exact ⟨ret_i HR.out.symm, hs⟩
  cases hp : ptB node
  · have HR := Lib.hid (ldR_bad (show ownOk L node = false by simp [ownOk, hp]))
    go_enter Try.func31, Try.ntmps31
    go_wp2_with fail
    refine (stb_as true a len cap L w HI.out HZ.out HM.out hv).mono ?_
    rintro e w2 ⟨rfl, hs⟩
    go_wp2_with fail
    refine (point_any node w2).mono ?_
    rintro e w' ⟨rfl, rfl⟩
    rw [hp]
    go_wp2
    go_ret
    exact ⟨ret_i HR.out.symm, hs⟩
  · have HR := Lib.hid (ldR_ok (show ownOk L node = true by simp [ownOk, hv, hp]))
    have h1 := tb_len hv
    rw [HZ.out] at h1
    go_enter Try.func31, Try.ntmps31
    go_wp2_with fail
    refine (stb_as true a len cap L w HI.out HZ.out HM.out hv).mono ?_
    rintro e w2 ⟨rfl, hs⟩
    have HI2 := Lib.hid (HI.out.same hs)
    go_wp2_with fail
    refine (point_any node w2).mono ?_
    rintro e w' ⟨rfl, rfl⟩
    rw [hp]
    clear hp hv
    go_wp2
    go_loop [5, 6] (fun n i => ∃ k : Nat, k ≤ 64 ∧ i = .int .i64 k ∧ n = .int .i64 (ldN L node k : Nat)) (fun _ i => 64 - (intOf i).toNat)
    case atStart => exact ⟨0, by omega, rfl, rfl⟩
    case round =>
      obtain ⟨k, hk, rfl, rfl⟩ := hrel
      by_cases hlt : k < 64
      · have HS : Hid (ldN L node (k + 1) = ldN L node k + if ownT L k = node then 1 else 0) := rfl
        have hle := ldN_le L node k
        obtain ⟨m, hm⟩ : ∃ m, m = ldN L node k := ⟨_, rfl⟩
        rw [← hm] at HS hle ⊢
        clear hm
        have k1 : (k : Int) < 64 := by omega
        go_wp2_with fail
        refine (sholder_any a len cap L k w2 HI2.out HZ.out HM.out h1).mono ?_
        rintro e w' ⟨rfl, rfl⟩
        cases hc : (ownT L k == node)
        · have HN : Hid (¬ ownT L k = node) := by show ¬ _; simpa using hc
          go_wp2
          go_round
          case rel => exact ⟨k + 1, by omega, by go_num, by rw [HS.out, if_neg HN.out]; rfl⟩
          case measure => simp [intOf]; omega
        · have HN : Hid (ownT L k = node) := by show _ = _; simpa using hc
          go_wp2
          go_round
          case rel => exact ⟨k + 1, by omega, by go_num, by rw [HS.out, if_pos HN.out]; go_num⟩
          case measure => simp [intOf]; omega
      · obtain rfl : k = 64 := by omega
        go_wp2
        go_ret
        exact ⟨ret_i HR.out.symm, hs⟩

set_option maxHeartbeats 2000000 in
theorem smoved_any (a b : Option Addr) (la lb ca cb : Nat) (A B : List Tk) (w : World) (ha : TkAt w a A) (hb : TkAt w b B) (hza : A.length = la) (hzb : B.length = lb) (hma : la ≤ maxLen) (hmb : lb ≤ maxLen) :
    Calls Try.prog 35 #[.slice a la ca, .slice b lb cb] w (NewInts (mvR A B) w) := by
  obtain ⟨w1, hw1⟩ : ∃ w1, w1 = w.alloc (.cells #[] 3) := ⟨_, rfl⟩
  have H0 : Hid (IntsSoFar [] w (.slice (some ⟨w.heap.size, 0, none⟩) 0 0) w1) := by show IntsSoFar _ _ _ _; rw [hw1]; exact sofar_new w _ rfl
  have hB1 : Below w.heap.size w w1 := by rw [hw1]; exact alB _ _
  have HA0 := Lib.hid ha
  have HB0 := Lib.hid hb
  have HA := Lib.hid (ha.keepB hB1 (Nat.le_refl _))
  have HB := Lib.hid (hb.keepB hB1 (Nat.le_refl _))
  have HZA := Lib.hid hza
  have HZB := Lib.hid hzb
  have HMA := Lib.hid hma
  have HMB := Lib.hid hmb
  have HW := Lib.hid hw1
  have hsof : ∀ {zs : List Int} {v : Value} {u u' : World}, IntsSoFar zs w v u → Same u u' → IntsSoFar zs w v u' := fun {zs v u u'} h hs => by
    obtain ⟨g, c, e, ho, hbb⟩ := h
    exact ⟨g, c, e, ho.keepB (hs.below _) (Nat.le_refl _), hbb.trans ((hs.below u.heap.size).mono hbb.size)⟩
  have HSF : Hid (∀ (zs : List Int) (v : Value) (u u' : World), IntsSoFar zs w v u → Same u u' → IntsSoFar zs w v u') := fun zs v u u' => hsof
  clear ha hb hza hzb hma hmb hw1 hsof
  cases hva : tbB A
  · have HR := Lib.hid (mvR_bad (A := A) (B := B) (.inl hva))
    go_enter Try.func35, Try.ntmps35
    go_wp2_with fail
    rw [← HW.out]
    refine (stb_as false a la ca A w1 HA.out HZA.out HMA.out hva).mono ?_
    rintro e w2 ⟨rfl, hs⟩
    go_wp2
    go_ret
    rw [HR.out]
    exact new_of_sofar (HSF.out _ _ _ _ H0.out hs)
  cases hvb : tbB B
  · have HR := Lib.hid (mvR_bad (A := A) (B := B) (.inr hvb))
    go_enter Try.func35, Try.ntmps35
    go_wp2_with fail
    rw [← HW.out]
    refine (stb_as true a la ca A w1 HA.out HZA.out HMA.out hva).mono ?_
    rintro e w2 ⟨rfl, hs⟩
    have H2 := Lib.hid (HSF.out _ _ _ _ H0.out hs)
    go_wp2_with fail
    refine (stb_as false b lb cb B w2 (HB.out.same hs) HZB.out HMB.out hvb).mono ?_
    rintro e w3 ⟨rfl, hs3⟩
    go_wp2
    go_ret
    rw [HR.out]
    exact new_of_sofar (HSF.out _ _ _ _ H2.out hs3)
  · have HR := Lib.hid (mvR_ok hva hvb)
    have h1 := tb_len hva
    have h2 := tb_len hvb
    rw [HZA.out] at h1
    rw [HZB.out] at h2
    go_enter Try.func35, Try.ntmps35
    go_wp2_with fail
    rw [← HW.out]
    refine (stb_as true a la ca A w1 HA.out HZA.out HMA.out hva).mono ?_
    rintro e w2 ⟨rfl, hs⟩
    have H2 := Lib.hid (HSF.out _ _ _ _ H0.out hs)
    have HA2 := Lib.hid (HA.out.same hs)
    have HB2 := Lib.hid (HB.out.same hs)
    go_wp2_with fail
    refine (stb_as true b lb cb B w2 HB2.out HZB.out HMB.out hvb).mono ?_
    rintro e w3 ⟨rfl, hs3⟩
    have H3 := Lib.hid (HSF.out _ _ _ _ H2.out hs3)
    clear hva hvb hs hs3
    go_wp2
    go_loopw [5, 6] (fun o i wr => ∃ k : Nat, k ≤ 64 ∧ i = .int .i64 k ∧ IntsSoFar (mvTo A B k) w o wr) (fun _ i _ => 64 - (intOf i).toNat)
    case atStart => exact ⟨0, by omega, rfl, H3.out⟩
    case round =>
      obtain ⟨k, hk, rfl, g, cap, rfl, hown, hbel⟩ := hrel
      have HO := Lib.hid hown
      have hgl := hown.lt
      clear hown
      by_cases hlt : k < 64
      · have HT := Lib.hid (mvTo_s A B k)
        have hl := mvTo_len A B k
        have HAr := Lib.hid (HA0.out.keepB hbel (Nat.le_refl _))
        have HBr := Lib.hid (HB0.out.keepB hbel (Nat.le_refl _))
        obtain ⟨zs, hzs⟩ : ∃ zs, zs = mvTo A B k := ⟨_, rfl⟩
        rw [← hzs] at HO HT hl ⊢
        obtain ⟨m, hm⟩ : ∃ m, zs.length = m := ⟨_, rfl⟩
        have HL := Lib.hid hm
        rw [hm] at hl ⊢
        clear hzs hm
        have hws := hbel.size
        have k1 : (k : Int) < 64 := by omega
        go_wp2_with fail
        refine (sholder_any a la ca A k wr HAr.out HZA.out HMA.out h1).mono ?_
        rintro e w' ⟨rfl, rfl⟩
        go_wp2_with fail
        refine (sholder_any b lb cb B k wr HBr.out HZB.out HMB.out h2).mono ?_
        rintro e w' ⟨rfl, rfl⟩
        cases hc : (ownT A k != ownT B k)
        · have HN : Hid (¬ ownT A k ≠ ownT B k) := by show ¬ _; simpa using hc
          go_wp2
          go_roundw
          case rel => exact ⟨k + 1, by omega, by go_num, by rw [HT.out, if_neg HN.out, List.append_nil]; exact ⟨g, cap, by rw [HL.out], HO.out, hbel⟩⟩
          case measure => simp [intOf]; omega
        · have HN : Hid (ownT A k ≠ ownT B k) := by show _ ≠ _; simpa using hc
          go_wp2_with (at_builtin; have g1 := (HO.out.keepB (alB wr (.cells #[.int .i64 (k : Int)] 3)) (Nat.le_refl _)); have g2 := src_one (heap_alloc_new wr (.cells #[.int .i64 (k : Int)] 3)); unfold OwnI at g1; rw [HL.out] at g1; refine wl_app _ (by rfl) _ _ (by rfl) w.heap.size g m cap (vals zs) (by rfl) g1 ⟨wr.heap.size, 0, none⟩ 1 1 [.int .i64 (k : Int)] (by rfl) rfl g2 (by simp [Value.oneCell']) (m + 1) (vals (zs ++ [(k : Int)])) rfl (by simp [vals]) (by omega) (by simp; omega) ?_; intro g' c' w5 hown5 hgr5 hat5; have H5 := Lib.hid (sofar_next (zs := zs) (z := (k : Int)) hbel (alB wr _) hgr5 hgl.1 (by rw [HL.out]; exact hown5)); clear hown5 hgr5 hat5 g1 g2)
          go_roundw
          case rel => exact ⟨k + 1, by omega, by go_num, by rw [HT.out, if_pos HN.out]; have := H5.out; rw [HL.out] at this; exact this⟩
          case measure => simp [intOf]; omega
      · obtain rfl : k = 64 := by omega
        go_wp2
        go_ret
        rw [HR.out]
        exact ⟨g, cap, rfl, HO.out, hbel⟩
end Go.Proofs.Ytidabcdaodlfeaa
