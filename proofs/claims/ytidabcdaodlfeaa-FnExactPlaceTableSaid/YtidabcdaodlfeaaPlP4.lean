/- The program: the keys for which a condition holds; loads and moved keys. -/
import Derived.Test.YtidabcdaodlfeaaPlP3
import Derived.Laws.EntriesVeiled
namespace Go.Proofs.Ytidabcdaodlfeaa
open Go.RowKit
set_option linter.unusedVariables false
attribute [local go_sem ↓] Go.wp_at_zero Go.wp_at_succ

/-- the keys below n for which P holds -/
def kwTo (P : Nat → Bool) (n : Nat) : List Int := ((List.range n).filter P).map fun (k : Nat) => (k : Int)
theorem kwTo_s (P : Nat → Bool) (n : Nat) : kwTo P (n + 1) = kwTo P n ++ if P n = true then [(n : Int)] else [] := by
  unfold kwTo
  rw [List.range_succ, List.filter_append, List.map_append]
  congr 1
  cases h : P n <;> simp [h]
theorem kwTo_yes {P : Nat → Bool} {n : Nat} (h : P n = true) : kwTo P (n + 1) = kwTo P n ++ [(n : Int)] := by rw [kwTo_s, if_pos h]
theorem kwTo_no {P : Nat → Bool} {n : Nat} (h : P n = false) : kwTo P (n + 1) = kwTo P n := by rw [kwTo_s, h]; simp
theorem kwTo_len (P : Nat → Bool) (n : Nat) : (kwTo P n).length ≤ n := by
  unfold kwTo; rw [List.length_map]; exact Nat.le_trans (List.length_filter_le _ _) (by simp)
theorem kw_ld (L : List Tk) (node : Int) (n : Nat) : (kwTo (fun k => decide (ownT L k = node)) n).length = ldN L node n := by
  induction n with
  | zero => rfl
  | succ n ih =>
    rw [kwTo_s, List.length_append, ih]
    show _ = ldN L node n + if ownT L n = node then 1 else 0
    by_cases h : ownT L n = node <;> simp [h]
theorem kw_mv (A B : List Tk) (n : Nat) : kwTo (fun k => decide (ownT A k ≠ ownT B k)) n = mvTo A B n := rfl

set_option maxRecDepth 20000 in
set_option maxHeartbeats 1000000 in
theorem kwL_any (p1 p2 : Nat) (P : Nat → Bool) (w : World)
    (hf : ∀ (W : World) (k : Nat), Below w.heap.size w W → k < 64 → Calls Try.prog 65 #[.int .i64 k, .pointer (some ⟨p1, 0, none⟩), .pointer (some ⟨p2, 0, none⟩)] W fun e w' => e = .returned (.bool (P k)) ∧ Below W.heap.size W w') :
    Calls Try.prog 64 #[.func (.func 65) #[] #[.pointer (some ⟨p1, 0, none⟩), .pointer (some ⟨p2, 0, none⟩)]] w (NewInts (kwTo P 64) w) := by
  have HF := Lib.hid hf
  clear hf
  obtain ⟨w1, hw1⟩ : ∃ w1, w1 = w.alloc (.cells #[] 3) := ⟨_, rfl⟩
  have H0 : Hid (IntsSoFar [] w (.slice (some ⟨w.heap.size, 0, none⟩) 0 0) w1) := by show IntsSoFar _ _ _ _; rw [hw1]; exact sofar_new w _ rfl
  have HW := Lib.hid hw1
  clear hw1
  go_enter Try.func64, Try.ntmps64
  go_wp2
  rw [← HW.out]
  go_loopw [3, 6] (fun o i wr => ∃ k : Nat, k ≤ 64 ∧ i = .int .i64 k ∧ IntsSoFar (kwTo P k) w o wr) (fun _ i _ => 64 - (intOf i).toNat)
  case atStart => exact ⟨0, by omega, rfl, H0.out⟩
  case round =>
    obtain ⟨k, hk, rfl, g, cap, rfl, hown, hbel⟩ := hrel
    have HO := Lib.hid hown
    have hgl := hown.lt
    clear hown
    by_cases hlt : k < 64
    · have hki : (k : Int) < 64 := by omega
      have HTY := Lib.hid (fun (h : P k = true) => kwTo_yes h)
      have HTN := Lib.hid (fun (h : P k = false) => kwTo_no h)
      have hlb := kwTo_len P k
      obtain ⟨zs, hzs⟩ : ∃ zs, zs = kwTo P k := ⟨_, rfl⟩
      rw [← hzs] at HO HTY HTN hlb ⊢
      clear hzs
      obtain ⟨n, hn⟩ : ∃ n, zs.length = n := ⟨_, rfl⟩
      rw [hn] at hlb ⊢
      have HL := Lib.hid hn
      clear hn
      have hws := hbel.size
      cases hp : P k
      · have HP := Lib.hid hp
        go_wp2_with fail
        refine (HF.out wr k hbel hlt).mono ?_
        rintro e w2 ⟨rfl, hb2⟩
        rw [HP.out]
        clear hp
        go_wp2
        go_roundw
        case rel => exact ⟨k + 1, by omega, by go_num, by rw [HTN.out HP.out]; exact ⟨g, cap, by rw [HL.out], HO.out.keepB hb2 (Nat.le_refl _), hbel.trans (hb2.mono hbel.size)⟩⟩
        case measure => simp [intOf]; omega
      · have HP := Lib.hid hp
        go_wp2_with fail
        refine (HF.out wr k hbel hlt).mono ?_
        rintro e w2 ⟨rfl, hb2⟩
        rw [HP.out]
        clear hp
        have HO2 := Lib.hid (HO.out.keepB hb2 (Nat.le_refl _))
        have hbel2 : Below w.heap.size w w2 := hbel.trans (hb2.mono hbel.size)
        have hws2 := hbel2.size
        go_wp2_with (at_builtin; have h1 := (HO2.out.keepB (alB w2 (.cells #[.int .i64 (k : Int)] 3)) (Nat.le_refl _)); have h2 := src_one (heap_alloc_new w2 (.cells #[.int .i64 (k : Int)] 3)); unfold OwnI at h1; rw [HL.out] at h1; refine wl_app _ (by rfl) _ _ (by rfl) w.heap.size g n cap (vals zs) (by rfl) h1 ⟨w2.heap.size, 0, none⟩ 1 1 [.int .i64 (k : Int)] (by rfl) rfl h2 (by simp [Value.oneCell']) (n + 1) (vals (zs ++ [(k : Int)])) rfl (by simp [vals]) (by omega) (by simp; omega) ?_; intro g' c' w3 hown3 hgr3 hat3; have H3 := Lib.hid (sofar_next (zs := zs) (z := (k : Int)) hbel2 (alB w2 _) hgr3 hgl.1 (by rw [HL.out]; exact hown3)); clear hown3 hgr3 hat3 h1 h2)
        go_roundw
        case rel => exact ⟨k + 1, by omega, by go_num, by rw [HTY.out HP.out]; have := H3.out; rw [HL.out] at this; exact this⟩
        case measure => simp [intOf]; omega
    · obtain rfl : k = 64 := by omega
      go_wp2
      go_ret
      exact ⟨g, cap, rfl, HO.out, hbel⟩

set_option maxRecDepth 20000 in
set_option maxHeartbeats 1000000 in
theorem kwM_any (p1 p2 : Nat) (P : Nat → Bool) (w : World)
    (hf : ∀ (W : World) (k : Nat), Below w.heap.size w W → k < 64 → Calls Try.prog 66 #[.int .i64 k, .pointer (some ⟨p1, 0, none⟩), .pointer (some ⟨p2, 0, none⟩)] W fun e w' => e = .returned (.bool (P k)) ∧ Below W.heap.size W w') :
    Calls Try.prog 64 #[.func (.func 66) #[] #[.pointer (some ⟨p1, 0, none⟩), .pointer (some ⟨p2, 0, none⟩)]] w (NewInts (kwTo P 64) w) := by
  have HF := Lib.hid hf
  clear hf
  obtain ⟨w1, hw1⟩ : ∃ w1, w1 = w.alloc (.cells #[] 3) := ⟨_, rfl⟩
  have H0 : Hid (IntsSoFar [] w (.slice (some ⟨w.heap.size, 0, none⟩) 0 0) w1) := by show IntsSoFar _ _ _ _; rw [hw1]; exact sofar_new w _ rfl
  have HW := Lib.hid hw1
  clear hw1
  go_enter Try.func64, Try.ntmps64
  go_wp2
  rw [← HW.out]
  go_loopw [3, 6] (fun o i wr => ∃ k : Nat, k ≤ 64 ∧ i = .int .i64 k ∧ IntsSoFar (kwTo P k) w o wr) (fun _ i _ => 64 - (intOf i).toNat)
  case atStart => exact ⟨0, by omega, rfl, H0.out⟩
  case round =>
    obtain ⟨k, hk, rfl, g, cap, rfl, hown, hbel⟩ := hrel
    have HO := Lib.hid hown
    have hgl := hown.lt
    clear hown
    by_cases hlt : k < 64
    · have hki : (k : Int) < 64 := by omega
      have HTY := Lib.hid (fun (h : P k = true) => kwTo_yes h)
      have HTN := Lib.hid (fun (h : P k = false) => kwTo_no h)
      have hlb := kwTo_len P k
      obtain ⟨zs, hzs⟩ : ∃ zs, zs = kwTo P k := ⟨_, rfl⟩
      rw [← hzs] at HO HTY HTN hlb ⊢
      clear hzs
      obtain ⟨n, hn⟩ : ∃ n, zs.length = n := ⟨_, rfl⟩
      rw [hn] at hlb ⊢
      have HL := Lib.hid hn
      clear hn
      have hws := hbel.size
      cases hp : P k
      · have HP := Lib.hid hp
        go_wp2_with fail
        refine (HF.out wr k hbel hlt).mono ?_
        rintro e w2 ⟨rfl, hb2⟩
        rw [HP.out]
        clear hp
        go_wp2
        go_roundw
        case rel => exact ⟨k + 1, by omega, by go_num, by rw [HTN.out HP.out]; exact ⟨g, cap, by rw [HL.out], HO.out.keepB hb2 (Nat.le_refl _), hbel.trans (hb2.mono hbel.size)⟩⟩
        case measure => simp [intOf]; omega
      · have HP := Lib.hid hp
        go_wp2_with fail
        refine (HF.out wr k hbel hlt).mono ?_
        rintro e w2 ⟨rfl, hb2⟩
        rw [HP.out]
        clear hp
        have HO2 := Lib.hid (HO.out.keepB hb2 (Nat.le_refl _))
        have hbel2 : Below w.heap.size w w2 := hbel.trans (hb2.mono hbel.size)
        have hws2 := hbel2.size
        go_wp2_with (at_builtin; have h1 := (HO2.out.keepB (alB w2 (.cells #[.int .i64 (k : Int)] 3)) (Nat.le_refl _)); have h2 := src_one (heap_alloc_new w2 (.cells #[.int .i64 (k : Int)] 3)); unfold OwnI at h1; rw [HL.out] at h1; refine wl_app _ (by rfl) _ _ (by rfl) w.heap.size g n cap (vals zs) (by rfl) h1 ⟨w2.heap.size, 0, none⟩ 1 1 [.int .i64 (k : Int)] (by rfl) rfl h2 (by simp [Value.oneCell']) (n + 1) (vals (zs ++ [(k : Int)])) rfl (by simp [vals]) (by omega) (by simp; omega) ?_; intro g' c' w3 hown3 hgr3 hat3; have H3 := Lib.hid (sofar_next (zs := zs) (z := (k : Int)) hbel2 (alB w2 _) hgr3 hgl.1 (by rw [HL.out]; exact hown3)); clear hown3 hgr3 hat3 h1 h2)
        go_roundw
        case rel => exact ⟨k + 1, by omega, by go_num, by rw [HTY.out HP.out]; have := H3.out; rw [HL.out] at this; exact this⟩
        case measure => simp [intOf]; omega
    · obtain rfl : k = 64 := by omega
      go_wp2
      go_ret
      exact ⟨g, cap, rfl, HO.out, hbel⟩

/-- a box that holds the closure of a table -/
structure HolIn (w : World) (hb tb : Nat) (a : Option Addr) (len cap : Nat) (L : List Tk) : Prop where
  cell : w.cell? ⟨hb, 0, none⟩ = some (.func (.func 78) #[] #[.pointer (some ⟨tb, 0, none⟩)])
  lt : hb < w.heap.size
  tab : TabIn w tb a len cap L
theorem HolIn.keepB {w w' : World} {B hb tb len cap : Nat} {a : Option Addr} {L : List Tk} (h : HolIn w hb tb a len cap L) (hb' : Below B w w') (hB : w.heap.size ≤ B) : HolIn w' hb tb a len cap L :=
  ⟨(hb'.cell (p := ⟨hb, 0, none⟩) (Nat.lt_of_lt_of_le h.lt hB)).trans h.cell, Nat.lt_of_lt_of_le h.lt hb'.size, h.tab.keepB hb' hB⟩

set_option maxHeartbeats 1000000 in
theorem ld1_as (v : Bool) (a : Option Addr) (len cap hb tb nb : Nat) (L : List Tk) (key node : Int) (w : World) (h : HolIn w hb tb a len cap L) (hn : w.cell? ⟨nb, 0, none⟩ = some (.int .i64 node)) (hnl : nb < w.heap.size) (hv : decide (ownT L key = node) = v) :
    Calls Try.prog 65 #[.int .i64 key, .pointer (some ⟨hb, 0, none⟩), .pointer (some ⟨nb, 0, none⟩)] w fun e w' => e = .returned (.bool v) ∧ Below w.heap.size w w' := by
  have HH := Lib.hid h
  have hf0 : ∀ x : Cls (Below w.heap.size w), x.to.cell? ⟨hb, 0, none⟩ = some (.func (.func 78) #[] #[.pointer (some ⟨tb, 0, none⟩)]) := fun x => (HH.out.keepB x.ok (Nat.le_refl _)).cell
  have hf1 : ∀ x : Cls (Below w.heap.size w), x.to.cell? ⟨nb, 0, none⟩ = some (.int .i64 node) := fun x => (x.ok.cell (p := ⟨nb, 0, none⟩) hnl).trans hn
  have HV : Hid ((ownT L key == node) = v) := by show _ = _; rw [← hv, Bool.eq_iff_iff]; simp
  clear h hn hv
  go_enter Try.func65, Try.ntmps65
  go_wp2_with fail
  refine wp_region_cls (Below w.heap.size w) (by kernel_rfl) (by kernel_rfl) below_drawn ?_
  repeat (go_big_quiet_step ((go_at_call 78; rename_i x; exact cls_below (hold_any a len cap tb L key _ (HH.out.keepB x.ok (Nat.le_refl _)).tab) x.ok (Nat.le_refl _))))
  refine wpQuiet_nil ?_
  intro w2 hw'
  have hb2 := cls_out hw'
  clear hw' hf0 hf1
  go_wp2
  go_ret
  exact ⟨ret_bool HV.out, hb2⟩

set_option maxHeartbeats 1000000 in
theorem mv1_as (v : Bool) (a b : Option Addr) (la ca lb cb hb1 tb1 hb2 tb2 : Nat) (A B : List Tk) (key : Int) (w : World) (h : HolIn w hb1 tb1 a la ca A) (h2 : HolIn w hb2 tb2 b lb cb B) (hv : decide (ownT A key ≠ ownT B key) = v) :
    Calls Try.prog 66 #[.int .i64 key, .pointer (some ⟨hb1, 0, none⟩), .pointer (some ⟨hb2, 0, none⟩)] w fun e w' => e = .returned (.bool v) ∧ Below w.heap.size w w' := by
  have HH := Lib.hid h
  have HK := Lib.hid h2
  have hf0 : ∀ x : Cls (Below w.heap.size w), x.to.cell? ⟨hb1, 0, none⟩ = some (.func (.func 78) #[] #[.pointer (some ⟨tb1, 0, none⟩)]) := fun x => (HH.out.keepB x.ok (Nat.le_refl _)).cell
  have hf1 : ∀ x : Cls (Below w.heap.size w), x.to.cell? ⟨hb2, 0, none⟩ = some (.func (.func 78) #[] #[.pointer (some ⟨tb2, 0, none⟩)]) := fun x => (HK.out.keepB x.ok (Nat.le_refl _)).cell
  have HV : Hid ((ownT A key != ownT B key) = v) := by show _ = _; rw [← hv, Bool.eq_iff_iff]; simp
  clear h h2 hv
  go_enter Try.func66, Try.ntmps66
  go_wp2_with fail
  refine wp_region_cls (Below w.heap.size w) (by kernel_rfl) (by kernel_rfl) below_drawn ?_
  go_big_quiet_step (fail)
  go_big_quiet_step (fail)
  go_big_quiet_step ((go_at_call 78; rename_i x; exact cls_below (hold_any a la ca tb1 A key _ (HH.out.keepB x.ok (Nat.le_refl _)).tab) x.ok (Nat.le_refl _)))
  go_big_quiet_step (fail)
  go_big_quiet_step (fail)
  repeat (go_big_quiet_step ((go_at_call 78; rename_i x; exact cls_below (hold_any b lb cb tb2 B key _ (HK.out.keepB x.ok (Nat.le_refl _)).tab) x.ok (Nat.le_refl _))))
  refine wpQuiet_nil ?_
  intro w2 hw'
  have hb2 := cls_out hw'
  clear hw' hf0 hf1
  go_wp2
  go_ret
  exact ⟨ret_bool HV.out, hb2⟩

set_option maxHeartbeats 1000000 in
theorem pload_any (a : Option Addr) (len cap : Nat) (L : List Tk) (node : Int) (w : World) (h : TkAt w a L) (hz : L.length = len) (hm : len ≤ maxLen) :
    Calls Try.prog 30 #[.slice a len cap, .int .i64 node] w fun e w' => e = .returned (.int .i64 (ldR L node)) ∧ Below w.heap.size w w' := by
  have HZ := Lib.hid hz
  have HM := Lib.hid hm
  obtain ⟨W, hW⟩ : ∃ W, W = w.alloc (.cells #[.int .i64 node] 3) := ⟨_, rfl⟩
  have hWb : Below w.heap.size w W := by rw [hW]; exact alB _ _
  have hWs : w.heap.size < W.heap.size := by rw [hW]; simp
  have HN := Lib.hid (show ∀ B u, Below B W u → W.heap.size ≤ B → u.cell? ⟨w.heap.size, 0, none⟩ = some (.int .i64 node) from fun B u hu hB => (hu.cell (p := ⟨w.heap.size, 0, none⟩) (Nat.lt_of_lt_of_le hWs hB)).trans (by rw [hW]; simp))
  have HI := Lib.hid (h.keepB hWb (Nat.le_refl _))
  have HW := Lib.hid hW
  clear h hz hm hW
  cases hv : tbB L
  · have HR := Lib.hid (ldR_bad (show ownOk L node = false by simp [ownOk, hv]))
    have HV := Lib.hid hv
    clear hv
    go_enter Try.func30, Try.ntmps30
    go_wp2_with fail
    rw [← HW.out]
    refine (isTb_as false a len cap L W HI.out HZ.out HM.out HV.out).mono ?_
    rintro e w2 ⟨rfl, hb2⟩
    go_wp2
    go_ret
    exact ⟨ret_i HR.out.symm, hWb.trans (hb2.mono hWb.size)⟩
  cases hp : ptB node
  · have HR := Lib.hid (ldR_bad (show ownOk L node = false by simp [ownOk, hp]))
    have HV := Lib.hid hv
    clear hv
    go_enter Try.func30, Try.ntmps30
    go_wp2_with fail
    rw [← HW.out]
    refine (isTb_as true a len cap L W HI.out HZ.out HM.out HV.out).mono ?_
    rintro e w2 ⟨rfl, hb2⟩
    have hc := HN.out _ _ hb2 (Nat.le_refl _)
    go_wp2_with fail
    refine (valid_any node w2).mono ?_
    rintro e w' ⟨rfl, rfl⟩
    rw [hp]
    go_wp2
    go_ret
    exact ⟨ret_i HR.out.symm, hWb.trans (hb2.mono hWb.size)⟩
  · have HR := Lib.hid (ldR_ok (show ownOk L node = true by simp [ownOk, hp, hv]))
    have HV := Lib.hid hv
    clear hv
    go_enter Try.func30, Try.ntmps30
    go_wp2_with fail
    rw [← HW.out]
    refine (isTb_as true a len cap L W HI.out HZ.out HM.out HV.out).mono ?_
    rintro e w2 ⟨rfl, hb2⟩
    have hc := HN.out _ _ hb2 (Nat.le_refl _)
    go_wp2_with fail
    refine (valid_any node w2).mono ?_
    rintro e w' ⟨rfl, rfl⟩
    rw [hp]
    clear hp hc
    have hT := tabIn_new (cap := cap) (HI.out.keepB hb2 (Nat.le_refl _)) HZ.out HV.out
    obtain ⟨w3, hw3⟩ : ∃ w3, w3 = w2.alloc (.cells #[.slice a len cap] 31) := ⟨_, rfl⟩
    rw [← hw3] at hT
    have hb3 : Below W.heap.size W w3 := by rw [hw3]; exact hb2.trans ((alB w2 _).mono hb2.size)
    obtain ⟨w4, hw4⟩ : ∃ w4, w4 = w3.alloc (.cells #[.func (.func 78) #[] #[.pointer (some ⟨w2.heap.size, 0, none⟩)]] 56) := ⟨_, rfl⟩
    have hb4 : Below W.heap.size W w4 := by rw [hw4]; exact hb3.trans ((alB w3 _).mono hb3.size)
    have HH : Hid (HolIn w4 w3.heap.size w2.heap.size a len cap L) := by
      refine ⟨by rw [hw4]; simp, by rw [hw4]; simp, hT.keepB (B := w3.heap.size) (by rw [hw4]; exact alB w3 _) (Nat.le_refl _)⟩
    have HC := Lib.hid (fun (u : World) (k : Nat) (hu : Below w4.heap.size w4 u) (_ : k < 64) => ld1_as (decide (ownT L k = node)) a len cap w3.heap.size w2.heap.size w.heap.size L k node u (HH.out.keepB hu (Nat.le_refl _)) (HN.out _ _ (hb4.trans (hu.mono hb4.size)) (Nat.le_refl _)) (Nat.lt_of_lt_of_le hWs (Nat.le_trans hb4.size hu.size)) rfl)
    have HB4 := Lib.hid (hWb.trans (hb4.mono hWb.size))
    have HW3 := Lib.hid hw3
    have HW4 := Lib.hid hw4
    have HKL := Lib.hid (kw_ld L node 64)
    clear hT hw3 hw4
    go_wp2_with fail
    refine (mkHold_any a len cap w2).mono ?_
    rintro e w' ⟨rfl, rfl⟩
    rw [← HW3.out]
    go_wp2_with fail
    rw [← HW4.out]
    refine (kwL_any _ _ _ w4 HC.out).mono ?_
    rintro e w5 ⟨g, cc, rfl, _, hb5⟩
    rw [HKL.out]
    go_wp2
    go_ret
    exact ⟨ret_i HR.out.symm, HB4.out.trans (hb5.mono HB4.out.size)⟩

set_option maxHeartbeats 1000000 in
theorem pmoved_any (a b : Option Addr) (la lb ca cb : Nat) (A B : List Tk) (w : World) (ha : TkAt w a A) (hb : TkAt w b B) (hza : A.length = la) (hzb : B.length = lb) (hma : la ≤ maxLen) (hmb : lb ≤ maxLen) :
    Calls Try.prog 33 #[.slice a la ca, .slice b lb cb] w (RowZ (mvR A B) w) := by
  have HA := Lib.hid ha
  have HB := Lib.hid hb
  have HZA := Lib.hid hza
  have HZB := Lib.hid hzb
  have HMA := Lib.hid hma
  have HMB := Lib.hid hmb
  clear ha hb hza hzb hma hmb
  have HE := Lib.hid (fun (u : World) (hu : Below w.heap.size w u) => show RowZ [] w (.returned (.slice (some ⟨u.heap.size, 0, none⟩) 0 0)) (u.alloc (.cells #[] 3)) from rowZ_of (new_mono (new_of_sofar (sofar_new u _ rfl)) hu))
  cases hv : tbB A
  · have HR := Lib.hid (mvR_bad (A := A) (B := B) (.inl hv))
    have HV := Lib.hid hv
    clear hv
    go_enter Try.func33, Try.ntmps33
    go_wp2_with fail
    refine (isTb_as false a la ca A w HA.out HZA.out HMA.out HV.out).mono ?_
    rintro e w2 ⟨rfl, hb2⟩
    go_wp2
    go_ret
    rw [HR.out]
    exact HE.out w2 hb2
  cases hp : tbB B
  · have HR := Lib.hid (mvR_bad (A := A) (B := B) (.inr hp))
    have HV := Lib.hid hv
    have HP := Lib.hid hp
    clear hv hp
    go_enter Try.func33, Try.ntmps33
    go_wp2_with fail
    refine (isTb_as true a la ca A w HA.out HZA.out HMA.out HV.out).mono ?_
    rintro e w2 ⟨rfl, hb2⟩
    go_wp2_with fail
    refine (isTb_as false b lb cb B w2 (HB.out.keepB hb2 (Nat.le_refl _)) HZB.out HMB.out HP.out).mono ?_
    rintro e w3 ⟨rfl, hb3⟩
    go_wp2
    go_ret
    rw [HR.out]
    exact HE.out w3 (hb2.trans (hb3.mono hb2.size))
  · have HR := Lib.hid (mvR_ok hv hp)
    have HV := Lib.hid hv
    have HP := Lib.hid hp
    clear hv hp
    go_enter Try.func33, Try.ntmps33
    go_wp2_with fail
    refine (isTb_as true a la ca A w HA.out HZA.out HMA.out HV.out).mono ?_
    rintro e w1 ⟨rfl, hb1⟩
    go_wp2_with fail
    refine (isTb_as true b lb cb B w1 (HB.out.keepB hb1 (Nat.le_refl _)) HZB.out HMB.out HP.out).mono ?_
    rintro e w2 ⟨rfl, hb2'⟩
    have hb2 : Below w.heap.size w w2 := hb1.trans (hb2'.mono hb1.size)
    clear hb2' hb1
    -- two closures, their boxes, the variables
    have hTA := tabIn_new (cap := ca) (HA.out.keepB hb2 (Nat.le_refl _)) HZA.out HV.out
    obtain ⟨w3, hw3⟩ : ∃ w3, w3 = w2.alloc (.cells #[.slice a la ca] 31) := ⟨_, rfl⟩
    rw [← hw3] at hTA
    have hb3 : Below w.heap.size w w3 := by rw [hw3]; exact hb2.trans ((alB w2 _).mono hb2.size)
    have hTB := tabIn_new (cap := cb) (HB.out.keepB hb3 (Nat.le_refl _)) HZB.out HP.out
    obtain ⟨w4, hw4⟩ : ∃ w4, w4 = w3.alloc (.cells #[.slice b lb cb] 31) := ⟨_, rfl⟩
    rw [← hw4] at hTB
    have hb34 : Below w3.heap.size w3 w4 := by rw [hw4]; exact alB w3 _
    have hb4 : Below w.heap.size w w4 := hb3.trans (hb34.mono hb3.size)
    obtain ⟨w5, hw5⟩ : ∃ w5, w5 = w4.alloc (.cells #[.func (.func 78) #[] #[.pointer (some ⟨w2.heap.size, 0, none⟩)]] 56) := ⟨_, rfl⟩
    have hb45 : Below w4.heap.size w4 w5 := by rw [hw5]; exact alB w4 _
    have hb5 : Below w.heap.size w w5 := hb4.trans (hb45.mono hb4.size)
    have hA5 : HolIn w5 w4.heap.size w2.heap.size a la ca A := ⟨by rw [hw5]; simp, by rw [hw5]; simp, (hTA.keepB hb34 (Nat.le_refl _)).keepB hb45 (Nat.le_refl _)⟩
    obtain ⟨w6, hw6⟩ : ∃ w6, w6 = w5.alloc (.cells #[.func (.func 78) #[] #[.pointer (some ⟨w3.heap.size, 0, none⟩)]] 56) := ⟨_, rfl⟩
    have hb56 : Below w5.heap.size w5 w6 := by rw [hw6]; exact alB w5 _
    have hb6 : Below w.heap.size w w6 := hb5.trans (hb56.mono hb5.size)
    have HHA : Hid (HolIn w6 w4.heap.size w2.heap.size a la ca A) := hA5.keepB hb56 (Nat.le_refl _)
    have HHB : Hid (HolIn w6 w5.heap.size w3.heap.size b lb cb B) := ⟨by rw [hw6]; simp, by rw [hw6]; simp, (hTB.keepB hb45 (Nat.le_refl _)).keepB hb56 (Nat.le_refl _)⟩
    have HC := Lib.hid (fun (u : World) (k : Nat) (hu : Below w6.heap.size w6 u) (_ : k < 64) => mv1_as (decide (ownT A k ≠ ownT B k)) a b la ca lb cb w4.heap.size w2.heap.size w5.heap.size w3.heap.size A B k u (HHA.out.keepB hu (Nat.le_refl _)) (HHB.out.keepB hu (Nat.le_refl _)) rfl)
    have HB6 := Lib.hid hb6
    have HW3 := Lib.hid hw3
    have HW4 := Lib.hid hw4
    have HW5 := Lib.hid hw5
    have HW6 := Lib.hid hw6
    have HS5 := Lib.hid (show w5.heap.size = w4.heap.size + 1 by rw [hw5]; simp)
    have HMV := Lib.hid (kw_mv A B 64)
    clear hTA hTB hw3 hw4 hw5 hw6 hA5 hb34 hb45 hb56 hb3 hb4 hb5 hb6
    go_wp2_with fail
    refine (mkHold_any a la ca w2).mono ?_
    rintro e w' ⟨rfl, rfl⟩
    rw [← HW3.out]
    go_wp2_with fail
    refine (mkHold_any b lb cb w3).mono ?_
    rintro e w' ⟨rfl, rfl⟩
    rw [← HW4.out]
    go_wp2_with fail
    rw [← HW5.out, ← HW6.out]
    have hC := HC.out
    rw [HS5.out] at hC
    refine (kwM_any _ _ _ w6 hC).mono ?_
    rintro e w7 ⟨g, cc, rfl, ho, hb7⟩
    rw [HMV.out] at ho ⊢
    have HO := Lib.hid ho
    clear hC ho
    go_wp2
    go_ret
    rw [HR.out]
    exact rowZ_of (new_mono ⟨g, cc, rfl, HO.out, hb7⟩ HB6.out)
end Go.Proofs.Ytidabcdaodlfeaa
