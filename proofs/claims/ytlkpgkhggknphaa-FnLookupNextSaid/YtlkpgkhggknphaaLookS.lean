/- Lookups: what the model's functions of chapter 11 do. -/
import Derived.Test.YtlkpgkhggknphaaLookV
namespace Go.Proofs.Ytlkpgkhggknphaa
open Go.RowKit
set_option linter.unusedVariables false

attribute [local go_sem ↓] Go.wp_at_zero Go.wp_at_succ

set_option maxHeartbeats 1000000 in
theorem sok_any (a : Option Addr) (len cap : Nat) (zs : List Int) (id : Int) (w : World) (h : IntsAt w a zs) (hz : zs.length = len) (hm : len ≤ maxLen) :
    Calls Try.prog 20 #[.slice a len cap, .int .i64 id] w fun e w' => e = .returned (.bool (memB zs id)) ∧ Same w w' := by
  have HI := Lib.hid h
  have HZ := Lib.hid hz
  have HM := Lib.hid hm
  clear h hz hm
  cases hv : vldB zs
  · have He : Hid (memB zs id = false) := by show memB zs id = false; simp [memB, hv]
    have HV := Lib.hid hv
    go_enter Try.func20, Try.ntmps20
    go_wp2_with fail
    refine (svalid_any a len cap zs w HI.out HZ.out HM.out).mono ?_
    rintro e w1 ⟨rfl, hs1⟩
    go_wp2
    go_ret
    exact ⟨ret_bool He.out.symm, hs1⟩
  · have He : Hid (memB zs id = hasB zs id) := by show memB zs id = hasB zs id; simp [memB, hv]
    go_enter Try.func20, Try.ntmps20
    go_wp2_with fail
    refine (svalid_any a len cap zs w HI.out HZ.out HM.out).mono ?_
    rintro e w1 ⟨rfl, hs1⟩
    go_wp2_with fail
    refine (shas_any a len cap zs id w1 (HI.out.same hs1) HZ.out HM.out).mono ?_
    rintro e w2 ⟨rfl, rfl⟩
    go_wp2
    go_ret
    exact ⟨ret_bool He.out.symm, hs1⟩

set_option maxHeartbeats 2000000 in
theorem sfing_any (a : Option Addr) (len cap : Nat) (zs : List Int) (id : Int) (w : World) (h : IntsAt w a zs) (hz : zs.length = len) (hm : memB zs id = true) :
    Calls Try.prog 37 #[.slice a len cap, .int .i64 id] w (NewInts (fgTo zs id 6) w) := by
  have hv := (memB_yes hm).1
  have hid := vld_pt hv (memB_yes hm).2
  have hl := vld_len hv
  have hlen : 1 ≤ len ∧ len ≤ 10 := by omega
  have HI := Lib.hid h
  have HZ := Lib.hid hz
  clear h hz hm hv hl
  obtain ⟨hi0, hi1⟩ := hid
  go_enter Try.func37, Try.ntmps37
  go_wp2
  go_loopw [5, 6, 7] (fun o st i wr => ∃ (k : Nat) (s : Int), k ≤ 6 ∧ i = .int .i64 k ∧ st = .int .i64 s ∧ s = ((2 ^ k : Nat) : Int) ∧ IntsSoFar (fgTo zs id k) w o wr) (fun _ _ i _ => 6 - (intOf i).toNat)
  case atStart => exact ⟨0, 1, by omega, rfl, rfl, rfl, sofar_new w _ rfl⟩
  case round =>
    obtain ⟨k, s, hk, rfl, rfl, hs, g, gc, rfl, hown, hbel⟩ := hrel
    have hsb := pow_bd hk
    rw [← hs] at hsb
    obtain ⟨hs1, hs2⟩ := hsb
    have HS := Lib.hid hs
    clear hs
    have hkl := fgTo_len zs id k
    rw [hkl]
    by_cases hlt : k < 6
    · have hgl := hown.lt
      have hown' : wr.ownsRow w.heap.size 3 1 (.slice (some ⟨g, 0, none⟩) k gc) k (vals (fgTo zs id k)) := by have h := hown; unfold OwnI at h; rw [hkl] at h; exact h
      have HO := Lib.hid hown'
      have HKL := Lib.hid hkl
      clear hown hown' hkl
      have hlt' : (k : Int) < 6 := by omega
      go_wp2_with fail
      refine (snext_any a len cap zs ((id + s) % 64) wr (HI.out.keepB hbel (Nat.le_refl _)) HZ.out hlen.1 (by unfold maxLen; omega)).mono ?_
      rintro e w2 ⟨rfl, rfl⟩
      go_wp2_with (at_builtin; refine wl_app _ (by rfl) _ _ (by rfl) w.heap.size g k gc (vals (fgTo zs id k)) (by rfl) (HO.out.alloc _) ⟨wr.heap.size, 0, none⟩ 1 1 [.int .i64 (nxtL zs ((id + s) % 64))] (by rfl) rfl (src_one (heap_alloc_new wr _)) (by simp [Value.oneCell']) (k + 1) (vals (fgTo zs id k ++ [nxtL zs ((id + s) % 64)])) rfl (by simp [vals]) (by omega) (by simp; omega) ?_; intro g5 cap5 w5 hown5 hg5 hat5)
      go_roundw
      case rel =>
        refine ⟨k + 1, 2 * s, by omega, by go_num, rfl, by rw [pow_two, HS.out], ?_⟩
        rw [fgTo_succ]
        have e : fgAt zs id k = nxtL zs ((id + s) % 64) := by rw [HS.out]; rfl
        rw [e]
        have hfin := sofar_next (zs := fgTo zs id k) (z := nxtL zs ((id + s) % 64)) hbel (w2 := _) ((Below.refl _ _).alloc (Nat.le_refl _) _) hg5 hgl.1 (by rw [HKL.out]; exact hown5)
        rw [HKL.out] at hfin
        exact hfin
      case measure => simp [intOf]; omega
    · have hk6 : k = 6 := by omega
      have HK := Lib.hid hk6
      have HKL := Lib.hid hkl
      clear hk6 hkl
      have hge : (6 : Int) ≤ (k : Int) := by omega
      go_wp2
      go_ret
      have h6 := HK.out
      refine new_of_sofar ⟨g, gc, ?_, by rw [← h6]; exact hown, hbel⟩
      rw [← h6, HKL.out]; rfl


/-- the fingers above k are not before the key -/
def ScanTo (zs : List Int) (id key : Int) (k : Nat) : Prop := lnScan zs id key 5 = lnScan zs id key k
theorem scanTo_five (zs : List Int) (id key : Int) : ScanTo zs id key 5 := rfl
theorem scanTo_down {zs : List Int} {id key : Int} {k : Nat} (h : ScanTo zs id key (k + 1)) (hb : btwI id (fgAt zs id (k + 1)) key = false) : ScanTo zs id key k := by
  unfold ScanTo at h ⊢; rw [h, lnScan, hb]; simp
theorem scanTo_hit {zs : List Int} {id key : Int} {k : Nat} (h : ScanTo zs id key (k + 1)) (hb : btwI id (fgAt zs id (k + 1)) key = true) : lnScan zs id key 5 = fgAt zs id (k + 1) := by
  unfold ScanTo at h; rw [h, lnScan, hb]; simp
theorem scanTo_none {zs : List Int} {id key : Int} (h : ScanTo zs id key 0) : lnScan zs id key 5 = fgAt zs id 0 := h
theorem lnx_first {zs : List Int} {id key : Int} (h : hldI id (fgAt zs id 0) key = true) : lnxL zs id key = fgAt zs id 0 := by simp [lnxL, h]
theorem lnx_scan {zs : List Int} {id key : Int} (h : hldI id (fgAt zs id 0) key = false) : lnxL zs id key = lnScan zs id key 5 := by simp [lnxL, h]

set_option maxHeartbeats 2000000 in
theorem snx_any (a : Option Addr) (len cap : Nat) (zs : List Int) (id key : Int) (w : World) (h : IntsAt w a zs) (hz : zs.length = len) (hm : memB zs id = true) :
    Calls Try.prog 23 #[.slice a len cap, .int .i64 id, .int .i64 key] w fun e w' => e = .returned (.int .i64 (lnxL zs id key)) ∧ Below w.heap.size w w' := by
  have HI := Lib.hid h
  have HZ := Lib.hid hz
  have HV := Lib.hid hm
  clear h hz hm
  go_enter Try.func23, Try.ntmps23
  go_wp2_with fail
  refine (sfing_any a len cap zs id w HI.out HZ.out HV.out).mono ?_
  rintro e w1 ⟨g, gc, rfl, ho, hb⟩
  have hlen := fgTo_len zs id 6
  obtain ⟨g', ha, hg1, hg2, hc, _⟩ := ho.at_ (by rw [hlen]; omega)
  injection ha with ha
  injection ha with ha
  subst ha
  have HC : Hid (∀ i, i < 6 → w1.cell? ⟨g, i, none⟩ = some (.int .i64 (fgAt zs id i))) := by
    show ∀ i, i < 6 → w1.cell? ⟨g, i, none⟩ = some (.int .i64 (fgAt zs id i))
    intro i hi
    rw [hc i (by rw [hlen]; exact hi), gt_fgTo hi]
  rw [hlen]
  clear hc ho hlen
  have c0 := HC.out 0 (by omega)
  rcases hb0 : hldI id (fgAt zs id 0) key with _ | _
  · have HB := Lib.hid hb0
    go_wp2_with (go_at_call 38; refine (sholds_any _ _ _ _).mono ?_; rintro e w2 ⟨rfl, rfl⟩)
    go_loop [8] (fun i => ∃ k : Nat, k ≤ 5 ∧ i = .int .i64 k ∧ ScanTo zs id key k) (fun i => (intOf i).toNat)
    case atStart => exact ⟨5, by omega, rfl, scanTo_five _ _ _⟩
    case round =>
      obtain ⟨k, hk, rfl, hsc⟩ := hrel
      have HSC := Lib.hid hsc
      clear hsc
      cases k with
      | zero =>
        go_wp2
        go_ret
        exact ⟨ret_int (by rw [lnx_scan HB.out, scanTo_none HSC.out]), hb⟩
      | succ k =>
        have ck := HC.out (k + 1) (by omega)
        have hpos : (0 : Int) < ((k + 1 : Nat) : Int) := by omega
        have hk6 : ((k + 1 : Nat) : Int) < 6 := by omega
        rcases hbk : btwI id (fgAt zs id (k + 1)) key with _ | _
        · have HBK := Lib.hid hbk
          go_wp2_with (go_at_call 39; refine (sbetw_any _ _ _ _).mono ?_; rintro e w2 ⟨rfl, rfl⟩)
          go_round
          case rel => exact ⟨k, by omega, by go_num, scanTo_down HSC.out HBK.out⟩
          case measure => simp [intOf]
        · have HBK := Lib.hid hbk
          go_wp2_with (go_at_call 39; refine (sbetw_any _ _ _ _).mono ?_; rintro e w2 ⟨rfl, rfl⟩)
          go_ret
          exact ⟨ret_int (by rw [lnx_scan HB.out, scanTo_hit HSC.out HBK.out]), hb⟩
  · have HB := Lib.hid hb0
    go_wp2_with (go_at_call 38; refine (sholds_any _ _ _ _).mono ?_; rintro e w2 ⟨rfl, rfl⟩)
    go_ret
    exact ⟨ret_int (by rw [lnx_first HB.out]), hb⟩

set_option maxHeartbeats 1000000 in
theorem slnx_any (a : Option Addr) (len cap : Nat) (zs : List Int) (id key : Int) (w : World) (h : IntsAt w a zs) (hz : zs.length = len) (hm : len ≤ maxLen) :
    Calls Try.prog 11 #[.slice a len cap, .int .i64 id, .int .i64 key] w fun e w' => e = .returned (.int .i64 (lnxV zs id key)) ∧ Below w.heap.size w w' := by
  have HI := Lib.hid h
  have HZ := Lib.hid hz
  have HM := Lib.hid hm
  clear h hz hm
  cases hv : memB zs id
  · have He : Hid (lnxV zs id key = -1) := lnxV_no (.inl hv)
    go_enter Try.func11, Try.ntmps11
    go_wp2_with fail
    refine (sok_any a len cap zs id w HI.out HZ.out HM.out).mono ?_
    rintro e w1 ⟨rfl, hs1⟩
    go_wp2
    go_ret
    exact ⟨ret_int He.out.symm, hs1.below _⟩
  cases hk : ptB key
  · have He : Hid (lnxV zs id key = -1) := lnxV_no (.inr hk)
    go_enter Try.func11, Try.ntmps11
    go_wp2_with fail
    refine (sok_any a len cap zs id w HI.out HZ.out HM.out).mono ?_
    rintro e w1 ⟨rfl, hs1⟩
    go_wp2_with (go_at_call 21; refine (point_any _ _).mono ?_; rintro e w2 ⟨rfl, rfl⟩)
    go_ret
    exact ⟨ret_int He.out.symm, hs1.below _⟩
  · have He : Hid (lnxV zs id key = lnxL zs id key) := lnxV_yes hv hk
    have HV := Lib.hid hv
    go_enter Try.func11, Try.ntmps11
    go_wp2_with fail
    refine (sok_any a len cap zs id w HI.out HZ.out HM.out).mono ?_
    rintro e w1 ⟨rfl, hs1⟩
    go_wp2_with (first | (go_at_call 21; refine (point_any _ _).mono ?_; rintro e w2 ⟨rfl, rfl⟩) | fail)
    refine (snx_any a len cap zs id key w1 (HI.out.same hs1) HZ.out HV.out).mono ?_
    rintro e w2 ⟨rfl, hb2⟩
    go_wp2
    go_ret
    exact ⟨ret_int He.out.symm, (hs1.below _).trans (hb2.mono ((hs1.below 0).size))⟩

theorem new_same {w w1 : World} (h : Same (w.alloc (.cells #[] 3)) w1) : OwnI w1 w.heap.size (some ⟨w.heap.size, 0, none⟩) 0 [] ∧ Below w.heap.size w w1 := by
  have ho : OwnI (w.alloc (.cells #[] 3)) w.heap.size (some ⟨w.heap.size, 0, none⟩) 0 [] := ⟨by simp [vals], .inr ⟨w.heap.size, 0, #[], rfl, Nat.le_refl _, heap_alloc_new w _, Nat.zero_le _, by unfold maxLen; omega, rfl, by simp [vals]⟩⟩
  exact ⟨ho.keepB (h.below _) (Nat.le_refl _), ((Below.refl _ _).alloc (Nat.le_refl _) _).trans (h.below _)⟩
/-- the path so far: cur is asked last -/
def PathAt (zs : List Int) (id0 key : Int) (pre : List Int) (cur : Int) : Prop := pathL zs id0 key = pre ++ pathL zs cur key
theorem pathAt_start (zs : List Int) (id key : Int) : PathAt zs id key [] id := by simp [PathAt]
theorem pathAt_step {zs : List Int} (hv : vldB zs = true) {id0 key cur : Int} {pre : List Int} (h : PathAt zs id0 key pre cur) (hc : cur ∈ zs) (h0 : 0 ≤ key) (h1 : key < 64) (hne : ¬ cur = nxtL zs key) :
    PathAt zs id0 key (pre ++ [cur]) (lnxL zs cur key) := by
  unfold PathAt at h ⊢; rw [h, path_step hv hc h0 h1 hne]; simp
theorem pathAt_len {zs : List Int} (hv : vldB zs = true) {id0 key cur : Int} {pre : List Int} (h : PathAt zs id0 key pre cur) (hi : id0 ∈ zs) (h0 : 0 ≤ key) (h1 : key < 64) : pre.length + 1 ≤ 8 := by
  have := path_len hv h0 h1 id0 hi
  have := path_ne zs cur key
  unfold PathAt at h
  have e := congrArg List.length h
  rw [List.length_append] at e
  omega
theorem pathAt_end {zs : List Int} {id0 key cur : Int} {pre : List Int} (h : PathAt zs id0 key pre cur) (he : cur = nxtL zs key) : pathL zs id0 key = pre ++ [cur] := by
  unfold PathAt at h; rw [h, path_end he]

set_option maxHeartbeats 2000000 in
theorem spath_any (a : Option Addr) (len cap : Nat) (zs : List Int) (id key : Int) (w : World) (h : IntsAt w a zs) (hz : zs.length = len) (hm : len ≤ maxLen) :
    Calls Try.prog 7 #[.slice a len cap, .int .i64 id, .int .i64 key] w (NewInts (pathV zs id key) w) := by
  have HI := Lib.hid h
  have HZ := Lib.hid hz
  have HM := Lib.hid hm
  clear h hz hm
  cases hv : memB zs id
  · have He : Hid (pathV zs id key = []) := pathV_no (.inl hv)
    go_enter Try.func7, Try.ntmps7
    go_wp2_with fail
    refine (sok_any a len cap zs id _ (HI.out.keepB ((Below.refl _ _).alloc (Nat.le_refl _) _) (Nat.le_refl _)) HZ.out HM.out).mono ?_
    rintro e w1 ⟨rfl, hs1⟩
    go_wp2
    go_ret
    rw [He.out]
    exact ⟨_, _, rfl, (new_same hs1).1, (new_same hs1).2⟩
  cases hk : ptB key
  · have He : Hid (pathV zs id key = []) := pathV_no (.inr hk)
    go_enter Try.func7, Try.ntmps7
    go_wp2_with fail
    refine (sok_any a len cap zs id _ (HI.out.keepB ((Below.refl _ _).alloc (Nat.le_refl _) _) (Nat.le_refl _)) HZ.out HM.out).mono ?_
    rintro e w1 ⟨rfl, hs1⟩
    go_wp2_with (go_at_call 21; refine (point_any _ _).mono ?_; rintro e w2 ⟨rfl, rfl⟩)
    go_ret
    rw [He.out]
    exact ⟨_, _, rfl, (new_same hs1).1, (new_same hs1).2⟩
  have He : Hid (pathV zs id key = pathL zs id key) := pathV_yes hv hk
  have HV := Lib.hid hv
  have hpk := (ptB_iff _).1 hk
  have hvl := Lib.hid (memB_yes hv).1
  have hin := (memB_yes hv).2
  have hl := vld_len hvl.out
  have hlen : 1 ≤ len ∧ len ≤ 10 := by have := HZ.out; omega
  obtain ⟨hk0, hk1⟩ := hpk
  obtain ⟨hl1, hl2⟩ := hlen
  clear hl
  go_enter Try.func7, Try.ntmps7
  go_wp2_with fail
  refine (sok_any a len cap zs id _ (HI.out.keepB ((Below.refl _ _).alloc (Nat.le_refl _) _) (Nat.le_refl _)) HZ.out HM.out).mono ?_
  rintro e w1 ⟨rfl, hs1⟩
  have hnew : OwnI w1 w.heap.size (some ⟨w.heap.size, 0, none⟩) 0 [] ∧ Below w.heap.size w w1 := new_same hs1
  obtain ⟨ho0, hb0⟩ := hnew
  have hs1z := hb0.size
  clear hs1
  have HO0 := Lib.hid ho0
  clear ho0
  go_wp2_with (first | (go_at_call 21; refine (point_any _ _).mono ?_; rintro e w2 ⟨rfl, rfl⟩) | (at_builtin; refine wl_app _ (by rfl) _ _ (by rfl) w.heap.size w.heap.size 0 0 (vals []) (by rfl) (World.ownsRow.alloc HO0.out _) ⟨w1.heap.size, 0, none⟩ 1 1 [.int .i64 id] (by rfl) rfl (src_one (heap_alloc_new w1 _)) (by simp [Value.oneCell']) 1 (vals [id]) rfl (by simp [vals]) (by omega) (by simp; omega) ?_; intro g5 cap5 w5 hown5 hg5 hat5) | fail)
  have hb5 : Below w.heap.size w w5 := (hb0.alloc hs1z _).grown hg5 (by simp; omega) (fun k hk => by injection hk with hk; omega)
  refine (snext_any a len cap zs key w5 (HI.out.keepB hb5 (Nat.le_refl _)) HZ.out hl1 HM.out).mono ?_
  rintro e w6 ⟨rfl, rfl⟩
  go_wp2
  have HIN := Lib.hid hin
  clear hin
  have hsf : IntsSoFar ([] ++ [id]) w (.slice (some ⟨g5, 0, none⟩) 1 cap5) w5 := ⟨g5, cap5, rfl, hown5, hb5⟩
  have HSF := Lib.hid hsf
  clear hsf hown5 hg5 hat5
  go_loopw [1, 7] (fun i o wr => ∃ (pre : List Int) (cur : Int), i = .int .i64 cur ∧ cur ∈ zs ∧ PathAt zs id key pre cur ∧ IntsSoFar (pre ++ [cur]) w o wr) (fun i _ _ => mu zs key (intOf i))
  case atStart => exact ⟨[], id, rfl, HIN.out, pathAt_start _ _ _, HSF.out⟩
  case round =>
    obtain ⟨pre, cur, rfl, hc, hp, g, gc, rfl, hown, hbel⟩ := hrel
    have HC := Lib.hid hc
    have HP := Lib.hid hp
    have hpl := pathAt_len hvl.out hp HIN.out hk0 hk1
    clear hc hp
    have hgl := hown.lt
    have hkl : (pre ++ [cur]).length = pre.length + 1 := by simp
    have hown' : wr.ownsRow w.heap.size 3 1 (.slice (some ⟨g, 0, none⟩) (pre.length + 1) gc) (pre.length + 1) (vals (pre ++ [cur])) := by have h := hown; unfold OwnI at h; rw [hkl] at h; exact h
    have HO := Lib.hid hown'
    rw [hkl]
    have HKL := Lib.hid hkl
    clear hown hown' hkl
    by_cases he : cur = nxtL zs key
    · have hb : (cur != nxtL zs key) = false := by simp [he]
      have HE := Lib.hid he
      clear he
      go_wp2
      go_ret
      rw [He.out, pathAt_end HP.out HE.out]
      exact ⟨g, gc, by rw [HKL.out]; rfl, by unfold OwnI; rw [HKL.out]; exact HO.out, hbel⟩
    · have hb : (cur != nxtL zs key) = true := by simpa using he
      have HE := Lib.hid he
      clear he
      go_wp2_with fail
      refine (snx_any a len cap zs cur key wr (HI.out.keepB hbel (Nat.le_refl _)) HZ.out (memB_mk hvl.out HC.out)).mono ?_
      rintro e w2 ⟨rfl, hb2⟩
      have hz2 := hb2.size
      have hzr := hbel.size
      have hlr := hgl.2
      have hnx : Hid (pre.length + 2 ≤ 8) := by
        show pre.length + 2 ≤ 8
        have := pathAt_len hvl.out (pathAt_step hvl.out HP.out HC.out hk0 hk1 HE.out) HIN.out hk0 hk1
        simpa using this
      have hO2 : w2.ownsRow w.heap.size 3 1 (.slice (some ⟨g, 0, none⟩) (pre.length + 1) gc) (pre.length + 1) (vals (pre ++ [cur])) := owns_keep HO.out hb2
      have HO2 := Lib.hid hO2
      clear hO2
      go_wp2_with (at_builtin; refine wl_app _ (by rfl) _ _ (by rfl) w.heap.size g (pre.length + 1) gc (vals (pre ++ [cur])) (by rfl) (HO2.out.alloc _) ⟨w2.heap.size, 0, none⟩ 1 1 [.int .i64 (lnxL zs cur key)] (by rfl) rfl (src_one (heap_alloc_new w2 _)) (by simp [Value.oneCell']) (pre.length + 1 + 1) (vals (pre ++ [cur] ++ [lnxL zs cur key])) rfl (by simp [vals]) (by omega) (by simp; omega) ?_; intro g7 cap7 w7 hown7 hg7 hat7)
      go_roundw
      case rel =>
        refine ⟨pre ++ [cur], lnxL zs cur key, rfl, lnx_mem hvl.out _ _, pathAt_step hvl.out HP.out HC.out hk0 hk1 HE.out, ?_⟩
        have hfin := sofar_next (zs := pre ++ [cur]) (z := lnxL zs cur key) hbel (w2 := w2.alloc _) (hb2.alloc hz2 _) hg7 hgl.1 (by rw [HKL.out]; exact hown7)
        rw [HKL.out] at hfin
        exact hfin
      case measure => simp only [intOf]; exact mu_lt hvl.out HC.out hk0 hk1 HE.out

/-- at round x of a range: the x-th node is the next one at the key -/
def RngAt (zs : List Int) (k : Nat) (a b : Int) (x : Nat) (K : Int) : Prop :=
  0 ≤ K ∧ K < 64 ∧ nxtL zs K = gRot zs k x ∧ rngL zs k a b = rotTo zs k x ++ rngF zs k a b (zs.length - x) x
theorem rngAt_start {zs : List Int} (hv : vldB zs = true) {a b : Int} (h0 : 0 ≤ a) (h1 : a < 64) : RngAt zs (plc zs a) a b 0 a :=
  ⟨h0, h1, by rw [gRot_zero (plc_lt hv a), plc_gt hv a], by simp [rngL, rotTo]⟩
theorem rngAt_step {zs : List Int} (hv : vldB zs = true) {k x : Nat} {a b K : Int} (h : RngAt zs k a b x K) (hx : x < zs.length) (hd : ¬ dist a b ≤ dist a (gRot zs k x)) : RngAt zs k a b (x + 1) ((gRot zs k x + 1) % 64) := by
  obtain ⟨_, _, _, h4⟩ := h
  refine ⟨by omega, by omega, nxt_after hv, ?_⟩
  rw [h4, show zs.length - x = (zs.length - (x + 1)) + 1 by omega, rngF, if_neg hd, rotTo_succ]
  simp
theorem rngAt_stop {zs : List Int} {k x : Nat} {a b K : Int} (h : RngAt zs k a b x K) (hx : x < zs.length) (hd : dist a b ≤ dist a (gRot zs k x)) : rngL zs k a b = rotTo zs k (x + 1) := by
  rw [h.2.2.2, show zs.length - x = (zs.length - (x + 1)) + 1 by omega, rngF, if_pos hd, rotTo_succ]
theorem rngAt_end {zs : List Int} {k x : Nat} {a b K : Int} (h : RngAt zs k a b x K) (hx : zs.length ≤ x) : rngL zs k a b = rotTo zs k x := by
  rw [h.2.2.2, show zs.length - x = 0 by omega, rngF]; simp


end Go.Proofs.Ytlkpgkhggknphaa
