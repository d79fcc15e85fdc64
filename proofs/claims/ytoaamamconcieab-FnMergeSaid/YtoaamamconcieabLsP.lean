/- What the program does to leases. -/
import Derived.Test.YtoaamamconcieabLsF
import Derived.Test.YtoaamamconcieabLsC
import Derived.Lib.SliceRun
namespace Go.Proofs.Ytoaamamconcieab
open Go.RowKit
set_option linter.unusedVariables false

set_option maxHeartbeats 1000000 in
theorem cloneL_any (a : Option Addr) (len cap : Nat) (L : List Ls) (w : World) (h : LsAt w a L) (hz : L.length = len) (h0 : 0 < len) (hm : len ≤ 1000000) :
    Calls Try.prog 27 #[.slice a len cap] w fun e w' => ∃ g c, e = .returned (.slice (some ⟨g, 0, none⟩) len c) ∧ OwnS w' w.heap.size g c L ∧ Below w.heap.size w w' := by
  obtain ⟨b, off, rfl, hb0, hcells⟩ := h.at_ (i := 0) (by omega)
  have HZ := Lib.hid hz
  have HS : Hid (∀ o : Obj, ∀ (j : Nat) (u : Value), (flat L)[j]? = some u → (w.alloc o).cell? ((⟨b, off, none⟩ : Addr).add j) = some u) := fun o => by
    have hk := (LsAt.keepB (.inr ⟨b, off, rfl, hb0, hcells⟩ : LsAt w (some ⟨b, off, none⟩) L) (alB w o) (Nat.le_refl _))
    rcases hk with hk | ⟨b', off', ha, _, hc⟩
    · subst hk; simp at hz; omega
    · injection ha with ha; injection ha with ha ho; subst ha ho
      exact src_ls hc
  have hq := fun w => Lib.run_eql_slice_nil (P := Try.prog) w 23 30 (some ⟨b, off, none⟩) len cap 0 0 Try.underlying23
  simp only [Option.isNone_some] at hq
  clear h hz hcells
  go_enter Try.func27, Try.ntmps27
  go_wp2_with (at_builtin; refine wl_appL _ (by rfl) _ _ (by rfl) w.heap.size w.heap.size 0 0 [] L (by rfl) (own_none w _ rfl) rfl ⟨b, off, none⟩ len cap (by rfl) HZ.out (HS.out _) len (by omega) (by omega) (by simp) ?_; intro g' c' w' hown hgr hat; have HO := Lib.hid hown; have hB : Below w.heap.size w w' := (alB w _).grown hgr (by simp) (fun k hk => by injection hk with hk; omega); clear hown hgr hat)
  go_ret
  refine ⟨g', c', rfl, ?_, hB⟩
  have := HO.out
  rwa [List.nil_append] at this

set_option maxHeartbeats 400000 in
theorem expired_any (x : Ls) (now : Int) (w : World) :
    Calls Try.prog 28 #[.agg #[.int .i64 x.e, .int .i64 x.o, .int .i64 x.u], .int .i64 now] w fun e w' => e = .returned (.bool (decide (x.u < now))) ∧ Below w.heap.size w w' := by
  obtain ⟨e, o, u⟩ := x
  simp only at *
  have HB := Lib.hid (alB w)
  go_enter Try.func28, Try.ntmps28
  go_wp2
  all_goals
    go_ret
    exact ⟨rfl, HB.out _⟩

set_option maxHeartbeats 400000 in
theorem mergesWith_any (x y : Ls) (w : World) :
    Calls Try.prog 32 #[.agg #[.int .i64 x.e, .int .i64 x.o, .int .i64 x.u], .agg #[.int .i64 y.e, .int .i64 y.o, .int .i64 y.u]] w fun e w' => e = .returned (.bool (sameLs x y)) ∧ Below w.heap.size w w' := by
  have HB : Hid (∀ a b, Below w.heap.size w ((w.alloc a).alloc b)) := fun a b => ((Below.refl _ _).alloc (Nat.le_refl _) _).alloc (by simp) _
  obtain ⟨e, o, u⟩ := x
  obtain ⟨e', o', u'⟩ := y
  simp only at *
  cases h1 : (o == o')
  · have He : Hid (sameLs ⟨e, o, u⟩ ⟨e', o', u'⟩ = false) := by show _ = false; have := h1; simp at this; simp [sameLs, this]
    go_enter Try.func32, Try.ntmps32
    go_wp2
    go_ret
    exact ⟨ret_bool He.out.symm, HB.out _ _⟩
  · have He : Hid (sameLs ⟨e, o, u⟩ ⟨e', o', u'⟩ = (u == u')) := by show _ = _; have := h1; simp at this; simp [sameLs, this]; rw [Bool.eq_iff_iff]; simp
    go_enter Try.func32, Try.ntmps32
    go_wp2
    go_ret
    exact ⟨ret_bool He.out.symm, HB.out _ _⟩
theorem mergesWith_as (v : Bool) (x y : Ls) (w : World) (hv : sameLs x y = v) :
    Calls Try.prog 32 #[.agg #[.int .i64 x.e, .int .i64 x.o, .int .i64 x.u], .agg #[.int .i64 y.e, .int .i64 y.o, .int .i64 y.u]] w fun e w' => e = .returned (.bool v) ∧ Below w.heap.size w w' := by subst hv; exact mergesWith_any x y w

theorem rnB_o {ow now ut : Int} {x : Ls} (h : (x.o == ow) = false) : rnB ow now ut x = false := by simp at h; simp [rnB, h]
theorem rnB_now {ow now ut : Int} {x : Ls} (h : decide (x.u < now) = true) : rnB ow now ut x = false := by simp at h; simp [rnB]; omega
theorem rnB_ut {ow now ut : Int} {x : Ls} (h : decide (x.u < ut) = false) : rnB ow now ut x = false := by simp at h; simp [rnB]; omega
theorem rnB_all {ow now ut : Int} {x : Ls} (h : (x.o == ow) = true) (h1 : decide (x.u < now) = false) (h2 : decide (x.u < ut) = true) : rnB ow now ut x = true := by simp at h h1 h2; simp [rnB]; omega
theorem renN_no {L : List Ls} {ow now ut : Int} {k : Nat} (h : rnB ow now ut (gl L k) = false) : renN L ow now ut (k + 1) = renN L ow now ut k := by simp [renN, h]
theorem renN_yes {L : List Ls} {ow now ut : Int} {k : Nat} (h : rnB ow now ut (gl L k) = true) : renN L ow now ut (k + 1) = renN L ow now ut k + 1 := by simp [renN, h]
theorem renR_no {L : List Ls} {ow now ut : Int} (h : renOk L ow now ut = false) : renR L ow now ut = ([], -1) := by simp [renR, h]
theorem renR_yes {L : List Ls} {ow now ut : Int} (h : renOk L ow now ut = true) : renR L ow now ut = (L.map (rnL ow now ut), (renN L ow now ut L.length : Int)) := by simp [renR, h]
/-- what LeaseRenew leaves -/
def RenPost (L : List Ls) (ow now ut : Int) (w : World) (e : Ending) (w' : World) : Prop :=
  ∃ g c, e = .returned (.tuple #[.slice (some ⟨g, 0, none⟩) (renR L ow now ut).1.length c, .int .i64 (renR L ow now ut).2]) ∧ OwnS w' w.heap.size g c (renR L ow now ut).1 ∧ Below w.heap.size w w'
theorem renPost_no {L : List Ls} {ow now ut : Int} {w w2 : World} {cs : Array Value} (h : renOk L ow now ut = false) (hcs : cs = #[]) (hb : Below w.heap.size w w2) :
    RenPost L ow now ut w (.returned (.tuple #[.slice (some ⟨w2.heap.size, 0, none⟩) 0 0, .int .i64 (-1)])) (w2.alloc (.cells cs 30)) := by
  refine ⟨w2.heap.size, 0, ?_, ?_, hb.alloc hb.size _⟩
  · rw [renR_no h]; rfl
  · rw [renR_no h]; exact (own_none w2 cs hcs).less hb.size
theorem renPost_yes {L : List Ls} {ow now ut : Int} {w w2 : World} {g c : Nat} (h : renOk L ow now ut = true) (ho : OwnS w2 w.heap.size g c (L.map (rnL ow now ut))) (hb : Below w.heap.size w w2) :
    RenPost L ow now ut w (.returned (.tuple #[.slice (some ⟨g, 0, none⟩) L.length c, .int .i64 (renN L ow now ut L.length : Nat)])) w2 := by
  refine ⟨g, c, ?_, ?_, hb⟩
  · rw [renR_yes h]; simp
  · rw [renR_yes h]; exact ho

set_option maxHeartbeats 2000000 in
theorem renew_any (a : Option Addr) (len cap : Nat) (L : List Ls) (ow now ut : Int) (w : World) (h : LsAt w a L) (hz : L.length = len) (hm : len ≤ maxLen) :
    Calls Try.prog 10 #[.slice a len cap, .int .i64 ow, .int .i64 now, .int .i64 ut] w (RenPost L ow now ut w) := by
  have HI := Lib.hid h
  have HZ := Lib.hid hz
  have HM := Lib.hid hm
  clear h hz hm
  cases hv : lvB L
  · have He : Hid (renOk L ow now ut = false) := by show _ = false; simp [renOk, hv]
    go_enter Try.func10, Try.ntmps10
    have hB := Below.refl w.heap.size w
    go_wp2_with fail
    refine (lvs_any a len cap L w (HI.out.keepB hB (Nat.le_refl _)) HZ.out HM.out).mono ?_
    rintro e w2 ⟨rfl, hs⟩
    have hB2 : Below w.heap.size w w2 := hB.trans (hs.mono hB.size)
    clear hs
    rw [hv]
    go_wp2
    go_ret2
    exact renPost_no He.out rfl hB2
  cases h0 : ptB ow
  · have He : Hid (renOk L ow now ut = false) := by show _ = false; simp [renOk, h0]
    go_enter Try.func10, Try.ntmps10
    have hB := Below.refl w.heap.size w
    go_wp2_with fail
    refine (lvs_any a len cap L w (HI.out.keepB hB (Nat.le_refl _)) HZ.out HM.out).mono ?_
    rintro e w2 ⟨rfl, hs⟩
    have hB2 : Below w.heap.size w w2 := hB.trans (hs.mono hB.size)
    clear hs
    rw [hv]
    go_wp2_with fail
    refine (valid_any ow w2).mono ?_
    rintro e w' ⟨rfl, rfl⟩
    rw [h0]
    go_wp2
    go_ret2
    exact renPost_no He.out rfl hB2
  cases h1 : tmB now
  · have He : Hid (renOk L ow now ut = false) := by show _ = false; simp [renOk, h1]
    go_enter Try.func10, Try.ntmps10
    have hB := Below.refl w.heap.size w
    go_wp2_with fail
    refine (lvs_any a len cap L w (HI.out.keepB hB (Nat.le_refl _)) HZ.out HM.out).mono ?_
    rintro e w2 ⟨rfl, hs⟩
    have hB2 : Below w.heap.size w w2 := hB.trans (hs.mono hB.size)
    clear hs
    rw [hv]
    go_wp2_with fail
    refine (valid_any ow w2).mono ?_
    rintro e w' ⟨rfl, rfl⟩
    rw [h0]
    go_wp2_with fail
    refine (isTime_any now w2).mono ?_
    rintro e w' ⟨rfl, rfl⟩
    rw [h1]
    go_wp2
    go_ret2
    exact renPost_no He.out rfl hB2
  cases h2 : tmB ut
  · have He : Hid (renOk L ow now ut = false) := by show _ = false; simp [renOk, h2]
    go_enter Try.func10, Try.ntmps10
    have hB := Below.refl w.heap.size w
    go_wp2_with fail
    refine (lvs_any a len cap L w (HI.out.keepB hB (Nat.le_refl _)) HZ.out HM.out).mono ?_
    rintro e w2 ⟨rfl, hs⟩
    have hB2 : Below w.heap.size w w2 := hB.trans (hs.mono hB.size)
    clear hs
    rw [hv]
    go_wp2_with fail
    refine (valid_any ow w2).mono ?_
    rintro e w' ⟨rfl, rfl⟩
    rw [h0]
    go_wp2_with fail
    refine (isTime_any now w2).mono ?_
    rintro e w' ⟨rfl, rfl⟩
    rw [h1]
    go_wp2_with fail
    refine (isTime_any ut w2).mono ?_
    rintro e w' ⟨rfl, rfl⟩
    rw [h2]
    go_wp2
    go_ret2
    exact renPost_no He.out rfl hB2
  have He : Hid (renOk L ow now ut = true) := by show _ = true; simp [renOk, hv, h0, h1, h2]
  have h12 : 1 ≤ len ∧ len ≤ 12 := by have := lv_len hv; rw [HZ.out] at this; exact this
  obtain ⟨hl1, hl2⟩ := h12
  go_enter Try.func10, Try.ntmps10
  have hB := Below.refl w.heap.size w
  go_wp2_with fail
  refine (lvs_any a len cap L w (HI.out.keepB hB (Nat.le_refl _)) HZ.out HM.out).mono ?_
  rintro e w2 ⟨rfl, hs⟩
  have hB2 : Below w.heap.size w w2 := hB.trans (hs.mono hB.size)
  clear hs
  rw [hv]
  go_wp2_with fail
  refine (valid_any ow w2).mono ?_
  rintro e w' ⟨rfl, rfl⟩
  rw [h0]
  go_wp2_with fail
  refine (isTime_any now w2).mono ?_
  rintro e w' ⟨rfl, rfl⟩
  rw [h1]
  go_wp2_with fail
  refine (isTime_any ut w2).mono ?_
  rintro e w' ⟨rfl, rfl⟩
  rw [h2]
  go_wp2_with fail
  refine (cloneL_any a len cap L w2 (HI.out.keepB hB2 (Nat.le_refl _)) HZ.out (by omega) (by omega)).mono ?_
  rintro e w3 ⟨g, c, rfl, ho3, hb3⟩
  have hB3 : Below w.heap.size w w3 := hB2.trans (hb3.mono hB2.size)
  have H3 := Lib.hid (ho3.less hB2.size)
  clear ho3 h0 h1 h2 hv
  go_wp2
  go_loopw [11, 37] (fun n i wr => ∃ k : Nat, k ≤ len ∧ i = .int .i64 k ∧ n = .int .i64 (renN L ow now ut k : Nat) ∧ OwnS wr w.heap.size g c (renTo L ow now ut k) ∧ Below w.heap.size w wr) (fun _ i _ => len - (intOf i).toNat)
  case atStart => exact ⟨0, by omega, rfl, rfl, by rw [renTo_zero]; exact H3.out, hB3⟩
  case round =>
    obtain ⟨k, hk, rfl, rfl, hown, hbel⟩ := hrel
    have HO := Lib.hid hown
    have hnk := renN_le L ow now ut k
    by_cases hlt : k < len
    · have hkL : Hid (k < L.length) := by show k < L.length; rw [HZ.out]; exact hlt
      have hkR : Hid (k < (renTo L ow now ut k).length) := by show k < _; rw [renTo_len _ _ _ _ (by have := hkL.out; omega)]; exact hkL.out
      obtain ⟨hc0, hc1, hc2⟩ := hown.cells hkR.out
      rw [renTo_ge (by have := hkL.out; omega) (Nat.le_refl _)] at hc0 hc1 hc2
      clear hown
      cases c1 : ((gl L k).o == ow)
      · have HR := Lib.hid (rnB_o (ow := ow) (now := now) (ut := ut) c1 : rnB ow now ut (gl L k) = false)
        obtain ⟨W, hW⟩ : ∃ W, W = wr.alloc (.cells #[.int .i64 (gl L k).e, .int .i64 (gl L k).o, .int .i64 (gl L k).u] 30) := ⟨_, rfl⟩
        have HW := Lib.hid hW
        clear hW
        go_wp2
        go_roundw
        case rel => exact ⟨k + 1, by omega, by go_num, by rw [renN_no HR.out], by rw [renTo_no hkL.out HR.out]; exact HO.out.keepB (alB wr _) (Nat.le_refl _), hbel.trans ((alB wr _).mono hbel.size)⟩
        case measure => simp [intOf]; omega
      cases c2 : decide ((gl L k).u < now)
      · have c2n : ¬ (gl L k).u < now := by simpa using c2
        have c2i : now ≤ (gl L k).u := by omega
        cases c3 : decide ((gl L k).u < ut)
        · have HR := Lib.hid (rnB_ut (ow := ow) (now := now) (ut := ut) c3 : rnB ow now ut (gl L k) = false)
          obtain ⟨W, hW⟩ : ∃ W, W = wr.alloc (.cells #[.int .i64 (gl L k).e, .int .i64 (gl L k).o, .int .i64 (gl L k).u] 30) := ⟨_, rfl⟩
          have HW := Lib.hid hW
          clear hW
          have hWb : Below wr.heap.size wr W := by rw [HW.out]; exact alB _ _
          have hWs : wr.heap.size < W.heap.size := by rw [HW.out]; simp
          have hWc : Hid (W.cell? ⟨wr.heap.size, 2, none⟩ = some (.int .i64 (gl L k).u)) := by show W.cell? _ = _; rw [HW.out]; simp
          go_wp2_with fail
          rw [← HW.out]
          refine (expired_any (gl L k) now W).mono ?_
          rintro e w4 ⟨rfl, hb4⟩
          rw [c2]
          have hb5 : Below wr.heap.size wr w4 := hWb.trans (hb4.mono (by omega))
          have x2 : w4.cell? ⟨wr.heap.size, 2, none⟩ = some (.int .i64 (gl L k).u) := (hb4.cell (p := ⟨wr.heap.size, 2, none⟩) hWs).trans hWc.out
          have ho4 := HO.out.keepB hb5 (Nat.le_refl _)
          have H4 := Lib.hid ho4
          clear ho4
          go_wp2
          go_roundw
          case rel => exact ⟨k + 1, by omega, by go_num, by rw [renN_no HR.out], by rw [renTo_no hkL.out HR.out]; exact H4.out, hbel.trans (hb5.mono hbel.size)⟩
          case measure => simp [intOf]; omega
        · have HR := Lib.hid (rnB_all (ow := ow) (now := now) (ut := ut) c1 c2 c3 : rnB ow now ut (gl L k) = true)
          obtain ⟨W, hW⟩ : ∃ W, W = wr.alloc (.cells #[.int .i64 (gl L k).e, .int .i64 (gl L k).o, .int .i64 (gl L k).u] 30) := ⟨_, rfl⟩
          have HW := Lib.hid hW
          clear hW
          have hWb : Below wr.heap.size wr W := by rw [HW.out]; exact alB _ _
          have hWs : wr.heap.size < W.heap.size := by rw [HW.out]; simp
          have hWc : Hid (W.cell? ⟨wr.heap.size, 2, none⟩ = some (.int .i64 (gl L k).u)) := by show W.cell? _ = _; rw [HW.out]; simp
          go_wp2_with fail
          rw [← HW.out]
          refine (expired_any (gl L k) now W).mono ?_
          rintro e w4 ⟨rfl, hb4⟩
          rw [c2]
          have hb5 : Below wr.heap.size wr w4 := hWb.trans (hb4.mono (by omega))
          have x2 : w4.cell? ⟨wr.heap.size, 2, none⟩ = some (.int .i64 (gl L k).u) := (hb4.cell (p := ⟨wr.heap.size, 2, none⟩) hWs).trans hWc.out
          have ho4 := HO.out.keepB hb5 (Nat.le_refl _)
          obtain ⟨_, _, cs, hbk, _⟩ := ho4.blk
          have f2 := frozen_of_cells hbk (k * 3 + 2)
          obtain ⟨_, _, y2⟩ := ho4.cells hkR.out
          have H4 := Lib.hid ho4
          clear ho4 hbk hc0 hc1 hc2
          go_wp2
          go_roundw
          case rel =>
            refine ⟨k + 1, by omega, by go_num, by rw [renN_yes HR.out]; go_num, ?_, (hbel.trans (hb5.mono hbel.size)).setCell (by have := H4.out.blk.1; omega) _⟩
            have := H4.out.setU hkR.out ut
            rw [renTo_ge (by have := hkL.out; omega) (Nat.le_refl _)] at this
            rw [renTo_yes hkL.out HR.out]; exact this
          case measure => simp [intOf]; omega
      · have c2n : (gl L k).u < now := by simpa using c2
        have HR := Lib.hid (rnB_now (ow := ow) (now := now) (ut := ut) c2 : rnB ow now ut (gl L k) = false)
        obtain ⟨W, hW⟩ : ∃ W, W = wr.alloc (.cells #[.int .i64 (gl L k).e, .int .i64 (gl L k).o, .int .i64 (gl L k).u] 30) := ⟨_, rfl⟩
        have HW := Lib.hid hW
        clear hW
        have hWb : Below wr.heap.size wr W := by rw [HW.out]; exact alB _ _
        have hWs : wr.heap.size < W.heap.size := by rw [HW.out]; simp
        have hWc : Hid (W.cell? ⟨wr.heap.size, 2, none⟩ = some (.int .i64 (gl L k).u)) := by show W.cell? _ = _; rw [HW.out]; simp
        go_wp2_with fail
        rw [← HW.out]
        refine (expired_any (gl L k) now W).mono ?_
        rintro e w4 ⟨rfl, hb4⟩
        rw [c2]
        have hb5 : Below wr.heap.size wr w4 := hWb.trans (hb4.mono (by omega))
        have x2 : w4.cell? ⟨wr.heap.size, 2, none⟩ = some (.int .i64 (gl L k).u) := (hb4.cell (p := ⟨wr.heap.size, 2, none⟩) hWs).trans hWc.out
        have ho4 := HO.out.keepB hb5 (Nat.le_refl _)
        have H4 := Lib.hid ho4
        clear ho4
        go_wp2
        go_roundw
        case rel => exact ⟨k + 1, by omega, by go_num, by rw [renN_no HR.out], by rw [renTo_no hkL.out HR.out]; exact H4.out, hbel.trans (hb5.mono hbel.size)⟩
        case measure => simp [intOf]; omega
    · have hkk : k = L.length := by rw [HZ.out]; omega
      have HK := Lib.hid hkk
      clear hkk hown
      go_wp2
      go_ret2
      have h1 := HO.out
      rw [HK.out, renTo_all] at h1
      have h2 := renPost_yes He.out h1 hbel
      rw [← HK.out] at h2
      rw [show len = k by rw [HK.out, HZ.out]]
      exact h2

theorem bel_dN {B : Nat} {w w' : World} (h : Below B w w') (n : Nat) : Below B w (w'.drewN n) := h.trans (Same.below ⟨n, rfl⟩ B)
theorem mgR_no {L : List Ls} (h : lvB L = false) : mgR L = [] := by simp [mgR, h]
theorem mgR_yes {L : List Ls} (h : lvB L = true) : mgR L = mgS L L.length := by simp [mgR, h]
/-- what the program holds behind k rounds -/
def mgP (L : List Ls) (k : Nat) : List Ls := if k < L.length then mgTo L k else mgS L L.length
theorem mgP_zero {L : List Ls} (h : 0 < L.length) : mgP L 0 = [] := by simp [mgP, h, mgTo]
theorem mgP_last {L : List Ls} {k : Nat} (h : k + 1 = L.length) : mgP L (k + 1) = mgP L k ++ [gl L k] := by
  unfold mgP
  rw [if_neg (by omega), if_pos (by omega), ← h]; rfl
theorem mgP_same {L : List Ls} {k : Nat} (h : k + 1 < L.length) (hs : sameLs (gl L k) (gl L (k + 1)) = true) : mgP L (k + 1) = mgP L k := by
  unfold mgP
  rw [if_pos h, if_pos (by omega), mgTo, if_pos hs, List.append_nil]
theorem mgP_diff {L : List Ls} {k : Nat} (h : k + 1 < L.length) (hs : sameLs (gl L k) (gl L (k + 1)) = false) : mgP L (k + 1) = mgP L k ++ [gl L k] := by
  unfold mgP
  rw [if_pos h, if_pos (by omega), mgTo, if_neg (by rw [hs]; decide)]
theorem mgP_len (L : List Ls) {k : Nat} (hk : k ≤ L.length) : (mgP L k).length ≤ k := by
  unfold mgP
  split
  · exact mgTo_len L k
  · have := mgS_len L L.length; omega
theorem lsfar_app {L : List Ls} {x : Ls} {w w2 w3 : World} {g g' c' : Nat} (hb : Below w.heap.size w w2) (hg : w2.grownBy w3 (some g)) (hgb : w.heap.size ≤ g) (ho : OwnS w3 w.heap.size g' c' (L ++ [x])) :
    LsFar (L ++ [x]) w (.slice (some ⟨g', 0, none⟩) (L.length + 1) c') w3 :=
  ⟨g', c', by rw [List.length_append]; rfl, ho, hb.grown hg hb.size (fun k hk => by injection hk with hk; omega)⟩

set_option maxHeartbeats 2000000 in
theorem merge_any (a : Option Addr) (len cap : Nat) (L : List Ls) (w : World) (h : LsAt w a L) (hz : L.length = len) (hm : len ≤ maxLen) :
    Calls Try.prog 14 #[.slice a len cap] w (NewL (mgR L) w) := by
  have HI := Lib.hid h
  have HZ := Lib.hid hz
  have HM := Lib.hid hm
  clear h hz hm
  cases hv : lvB L
  · have He := Lib.hid (mgR_no hv)
    have hown := own_none w #[] rfl
    obtain ⟨W, hW⟩ : ∃ W, W = w.alloc (.cells #[] 30) := ⟨_, rfl⟩
    have hWb : Below w.heap.size w W := by rw [hW]; exact alB _ _
    rw [← hW] at hown
    have HW := Lib.hid hW
    clear hW
    go_enter Try.func14, Try.ntmps14
    go_wp2_with fail
    rw [← HW.out]
    refine (lvs_any a len cap L W (HI.out.keepB hWb (Nat.le_refl _)) HZ.out HM.out).mono ?_
    rintro e w2 ⟨rfl, hb2⟩
    rw [hv]
    have HO := Lib.hid (hown.keepB hb2 (Nat.le_refl _))
    clear hown
    go_wp2
    go_ret
    rw [He.out]
    exact ⟨w.heap.size, 0, rfl, HO.out, hWb.trans (hb2.mono (by have := hWb.size; omega))⟩
  have h12 : 1 ≤ len ∧ len ≤ 12 := by have := lv_len hv; rw [HZ.out] at this; exact this
  obtain ⟨hl1, hl2⟩ := h12
  have He := Lib.hid (mgR_yes hv)
  have hfar := lsfar_new w #[] rfl
  obtain ⟨W, hW⟩ : ∃ W, W = w.alloc (.cells #[] 30) := ⟨_, rfl⟩
  have hWb : Below w.heap.size w W := by rw [hW]; exact alB _ _
  rw [← hW] at hfar
  have HF := Lib.hid hfar
  have HW := Lib.hid hW
  clear hW hfar
  go_enter Try.func14, Try.ntmps14
  go_wp2_with fail
  rw [← HW.out]
  refine (lvs_any a len cap L W (HI.out.keepB hWb (Nat.le_refl _)) HZ.out HM.out).mono ?_
  rintro e w2 ⟨rfl, hb2⟩
  rw [hv]
  have HF2 : Hid (LsFar (mgP L 0) w (.slice (some ⟨w.heap.size, 0, none⟩) 0 0) w2) := by
    show LsFar _ _ _ _
    rw [mgP_zero (by rw [HZ.out]; omega)]
    obtain ⟨g, c, hgc, ho, hb⟩ := HF.out
    exact ⟨g, c, hgc, ho.keepB hb2 (Nat.le_refl _), hb.trans (hb2.mono hb.size)⟩
  clear hv
  go_wp2
  go_loopw [3, 13] (fun o i wr => ∃ k : Nat, k ≤ len ∧ i = .int .i64 k ∧ LsFar (mgP L k) w o wr) (fun _ i _ => len - (intOf i).toNat)
  case atStart => exact ⟨0, by omega, rfl, HF2.out⟩
  case round =>
    obtain ⟨k, hk, rfl, g, c, rfl, hown, hbel⟩ := hrel
    have HO := Lib.hid hown
    by_cases hlt : k < len
    · have hkL : Hid (k < L.length) := by show k < L.length; rw [HZ.out]; exact hlt
      have hml : Hid ((mgP L k).length ≤ 12) := by show _ ≤ 12; have := mgP_len L (k := k) (by have := hkL.out; omega); omega
      obtain ⟨b, off, rfl, hb0, hcells⟩ := (HI.out.keepB hbel (Nat.le_refl _)).at_ (i := k) hkL.out
      obtain ⟨hc0, hc1, hc2⟩ := hcells k hkL.out
      have HN := Lib.hid hcells
      have hgb : w.heap.size ≤ g := hown.blk.1
      clear hcells hown
      obtain ⟨V, hV⟩ : ∃ V, V = wr.alloc (.cells #[.int .i64 (gl L k).e, .int .i64 (gl L k).o, .int .i64 (gl L k).u] 30) := ⟨_, rfl⟩
      have hVb : Below wr.heap.size wr V := by rw [hV]; exact alB _ _
      have hVs : wr.heap.size < V.heap.size := by rw [hV]; simp
      have hV0 : ∀ x : Cls (Below V.heap.size V), x.to.cell? ⟨wr.heap.size, 0, none⟩ = some (.int .i64 (gl L k).e) := fun x => (x.ok.cell (p := ⟨wr.heap.size, 0, none⟩) hVs).trans (by rw [hV]; simp)
      have hV1 : ∀ x : Cls (Below V.heap.size V), x.to.cell? ⟨wr.heap.size, 1, none⟩ = some (.int .i64 (gl L k).o) := fun x => (x.ok.cell (p := ⟨wr.heap.size, 1, none⟩) hVs).trans (by rw [hV]; simp)
      have hV2 : ∀ x : Cls (Below V.heap.size V), x.to.cell? ⟨wr.heap.size, 2, none⟩ = some (.int .i64 (gl L k).u) := fun x => (x.ok.cell (p := ⟨wr.heap.size, 2, none⟩) hVs).trans (by rw [hV]; simp)
      have HV0 : Hid (V.heap[wr.heap.size]? = some (.cells #[.int .i64 (gl L k).e, .int .i64 (gl L k).o, .int .i64 (gl L k).u] 30 (0, 0))) := by show V.heap[wr.heap.size]? = _; rw [hV]; exact heap_alloc_new wr _
      have HV := Lib.hid hV
      clear hV
      by_cases hlast : k + 1 = len
      · have c1 : ((k : Int) + 1 == (len : Int)) = true := by simp; omega
        have HL : Hid (mgP L (k + 1) = mgP L k ++ [gl L k]) := mgP_last (by rw [HZ.out]; exact hlast)
        go_wp2_with fail
        rw [← HV.out]
        refine wp_region_cls (Below V.heap.size V) (by kernel_rfl) (by kernel_rfl) below_drawn ?_
        repeat (go_big_quiet_step (fail))
        refine wpQuiet_nil ?_
        intro w4 hw'
        have hb4 := cls_out hw'
        clear hw'
        have hb5 : Below w.heap.size w w4 := hbel.trans ((hVb.trans (hb4.mono (by omega))).mono hbel.size)
        clear hV0 hV1 hV2
        have hx := (hb4.block wr.heap.size hVs).trans HV0.out
        have x0 : w4.cell? ⟨wr.heap.size, 0, none⟩ = some (.int .i64 (gl L k).e) := by rw [cell_of_cells hx]; rfl
        have x1 : w4.cell? ⟨wr.heap.size, 1, none⟩ = some (.int .i64 (gl L k).o) := by rw [cell_of_cells hx]; rfl
        have x2 : w4.cell? ⟨wr.heap.size, 2, none⟩ = some (.int .i64 (gl L k).u) := by rw [cell_of_cells hx]; rfl
        clear hx
        have H4 := Lib.hid (HO.out.keepB (hVb.trans (hb4.mono (by omega))) (Nat.le_refl _))
        obtain ⟨n, hn⟩ : ∃ n, n = (mgP L k).length := ⟨_, rfl⟩
        rw [← hn]
        have hn12 : n ≤ 12 := by rw [hn]; exact hml.out
        have HNN := Lib.hid hn
        clear hn
        go_wp2_with (at_builtin; refine wl_appL _ (by rfl) _ _ (by rfl) w.heap.size g n c (mgP L k) [gl L k] (by rfl) (H4.out.keepB (alB w4 _) (Nat.le_refl _)) HNN.out.symm ⟨w4.heap.size, 0, none⟩ 1 1 (by rfl) rfl (srcL_one (heap_alloc_new w4 _)) (n + 1) rfl (by omega) (by have := hb5.size; simp; omega) ?_; intro g' c' w5 hown5 hgr hat; have H5 := Lib.hid (lsfar_app (hb5.trans ((alB w4 _).mono hb5.size)) hgr hgb hown5); clear hown5 hgr hat)
        go_roundw
        case rel => exact ⟨k + 1, by omega, by go_num, by rw [HL.out]; have := H5.out; rw [← HNN.out] at this; exact this⟩
        case measure => simp [intOf]; omega
      · have hlast' : k + 1 < len := by omega
        have c1 : ((k : Int) + 1 == (len : Int)) = false := by simp; omega
        obtain ⟨hd0, hd1, hd2⟩ := HN.out (k + 1) (by rw [HZ.out]; exact hlast')
        have hD0 : ∀ x : Cls (Below V.heap.size V), x.to.cell? ⟨b, off + (k + 1) * 3, none⟩ = some (.int .i64 (gl L (k + 1)).e) := fun x => ((hVb.trans (x.ok.mono (by omega))).cell (p := ⟨b, off + (k + 1) * 3, none⟩) hb0).trans hd0
        have hD1 : ∀ x : Cls (Below V.heap.size V), x.to.cell? ⟨b, off + (k + 1) * 3 + 1, none⟩ = some (.int .i64 (gl L (k + 1)).o) := fun x => ((hVb.trans (x.ok.mono (by omega))).cell (p := ⟨b, off + (k + 1) * 3 + 1, none⟩) hb0).trans hd1
        have hD2 : ∀ x : Cls (Below V.heap.size V), x.to.cell? ⟨b, off + (k + 1) * 3 + 2, none⟩ = some (.int .i64 (gl L (k + 1)).u) := fun x => ((hVb.trans (x.ok.mono (by omega))).cell (p := ⟨b, off + (k + 1) * 3 + 2, none⟩) hb0).trans hd2
        have hk1 : ((k : Int) + 1).toNat = k + 1 := by omega
        have hk2 : (0 : Int) ≤ (k : Int) + 1 := by omega
        have hk3 : (k : Int) + 1 < (len : Int) := by omega
        cases hs : sameLs (gl L k) (gl L (k + 1))
        · have HSM := Lib.hid hs
          have HL : Hid (mgP L (k + 1) = mgP L k ++ [gl L k]) := mgP_diff (by rw [HZ.out]; exact hlast') hs
          clear hs
          go_wp2_with fail
          rw [← HV.out]
          refine wp_region_cls (Below V.heap.size V) (by kernel_rfl) (by kernel_rfl) below_drawn ?_
          repeat (go_big_quiet_step ((go_at_call 32; rename_i x; exact cls_below (mergesWith_as false (gl L k) (gl L (k + 1)) _ HSM.out) x.ok (Nat.le_refl _))))
          refine wpQuiet_nil ?_
          intro w4 hw'
          have hb4 := cls_out hw'
          clear hw'
          have hb5 : Below w.heap.size w w4 := hbel.trans ((hVb.trans (hb4.mono (by omega))).mono hbel.size)
          clear hV0 hV1 hV2 hD0 hD1 hD2
          have hx := (hb4.block wr.heap.size hVs).trans HV0.out
          have x0 : w4.cell? ⟨wr.heap.size, 0, none⟩ = some (.int .i64 (gl L k).e) := by rw [cell_of_cells hx]; rfl
          have x1 : w4.cell? ⟨wr.heap.size, 1, none⟩ = some (.int .i64 (gl L k).o) := by rw [cell_of_cells hx]; rfl
          have x2 : w4.cell? ⟨wr.heap.size, 2, none⟩ = some (.int .i64 (gl L k).u) := by rw [cell_of_cells hx]; rfl
          clear hx
          have H4 := Lib.hid (HO.out.keepB (hVb.trans (hb4.mono (by omega))) (Nat.le_refl _))
          obtain ⟨n, hn⟩ : ∃ n, n = (mgP L k).length := ⟨_, rfl⟩
          rw [← hn]
          have hn12 : n ≤ 12 := by rw [hn]; exact hml.out
          have HNN := Lib.hid hn
          clear hn
          go_wp2_with (at_builtin; refine wl_appL _ (by rfl) _ _ (by rfl) w.heap.size g n c (mgP L k) [gl L k] (by rfl) (H4.out.keepB (alB w4 _) (Nat.le_refl _)) HNN.out.symm ⟨w4.heap.size, 0, none⟩ 1 1 (by rfl) rfl (srcL_one (heap_alloc_new w4 _)) (n + 1) rfl (by omega) (by have := hb5.size; simp; omega) ?_; intro g' c' w5 hown5 hgr hat; have H5 := Lib.hid (lsfar_app (hb5.trans ((alB w4 _).mono hb5.size)) hgr hgb hown5); clear hown5 hgr hat)
          go_roundw
          case rel => exact ⟨k + 1, by omega, by go_num, by rw [HL.out]; have := H5.out; rw [← HNN.out] at this; exact this⟩
          case measure => simp [intOf]; omega
        · have HSM := Lib.hid hs
          have HL : Hid (mgP L (k + 1) = mgP L k) := mgP_same (by rw [HZ.out]; exact hlast') hs
          clear hs
          go_wp2_with fail
          rw [← HV.out]
          refine wp_region_cls (Below V.heap.size V) (by kernel_rfl) (by kernel_rfl) below_drawn ?_
          repeat (go_big_quiet_step ((go_at_call 32; rename_i x; exact cls_below (mergesWith_as true (gl L k) (gl L (k + 1)) _ HSM.out) x.ok (Nat.le_refl _))))
          refine wpQuiet_nil ?_
          intro w4 hw'
          have hb4 := cls_out hw'
          clear hw'
          have hb5 : Below w.heap.size w w4 := hbel.trans ((hVb.trans (hb4.mono (by omega))).mono hbel.size)
          clear hV0 hV1 hV2 hD0 hD1 hD2
          go_wp2
          go_roundw
          case rel => exact ⟨k + 1, by omega, by go_num, by rw [HL.out]; exact ⟨g, c, rfl, HO.out.keepB (hVb.trans (hb4.mono (by omega))) (Nat.le_refl _), hb5⟩⟩
          case measure => simp [intOf]; omega
    · have hkk : k = L.length := by rw [HZ.out]; omega
      have HK := Lib.hid hkk
      clear hkk hown
      go_wp2
      go_ret
      have h1 : mgP L k = mgS L L.length := by unfold mgP; rw [if_neg (by have := HK.out; omega)]
      rw [He.out]
      rw [← h1]
      exact ⟨g, c, rfl, HO.out, hbel⟩

/-- the end ahead of lease k -/
def bfL (L : List Ls) (k : Nat) : Int := if k = 0 then (gl L (L.length - 1)).e else (gl L (k - 1)).e
theorem upTo_step {L : List Ls} (hv : lvB L = true) (p : Nat → Bool) {k : Nat} (hk : k < L.length) : upTo L p (k + 1) = upTo L p k + if p k = true then turn (bfL L k) (gl L k).e else 0 := by
  rcases k with _ | k
  · rw [upTo_one hv]; simp [upTo, bfL]
  · rw [upTo_succ hv p hk]; simp [bfL]
theorem upTo_no {L : List Ls} (hv : lvB L = true) {p : Nat → Bool} {k : Nat} (hk : k < L.length) (h : p k = false) : upTo L p (k + 1) = upTo L p k := by rw [upTo_step hv p hk, h]; simp
theorem upTo_yes {L : List Ls} (hv : lvB L = true) {p : Nat → Bool} {k : Nat} (hk : k < L.length) (h : p k = true) : upTo L p (k + 1) = upTo L p k + turn (bfL L k) (gl L k).e := by rw [upTo_step hv p hk, h]; simp
theorem turn_bd (a b : Int) : 0 ≤ turn a b ∧ turn a b ≤ 64 := by unfold turn; split <;> omega
theorem keysI_no1 {L : List Ls} {ow : Int} (h : lvB L = false) : keysI L ow = -1 := by simp [keysI, h]
theorem keysI_no2 {L : List Ls} {ow : Int} (h : ptB ow = false) : keysI L ow = -1 := by simp [keysI, h]
theorem keysI_yes {L : List Ls} {ow : Int} (h : lvB L = true) (h' : ptB ow = true) : keysI L ow = (keysN L ow : Int) := by simp [keysI, h, h']

set_option maxHeartbeats 400000 in
theorem turn_any (a b : Int) (w : World) (ha : 0 ≤ a) (ha' : a < 64) (hb : 0 ≤ b) (hb' : b < 64) :
    Calls Try.prog 35 #[.int .i64 a, .int .i64 b] w fun e w' => e = .returned (.int .i64 (turn a b)) ∧ w = w' := by
  by_cases h : a = b
  · have He : Hid (turn a b = 64) := by show turn a b = 64; unfold turn; rw [if_pos h]
    have h1 : (a == b) = true := by simp [h]
    clear h
    go_enter Try.func35, Try.ntmps35
    go_wp2
    go_ret
    exact ⟨ret_int (by rw [He.out]), rfl⟩
  · have He : Hid (turn a b = dist a b) := by show turn a b = _; unfold turn dist; rw [if_neg h]
    have h1 : (a == b) = false := by simp [h]
    clear h
    go_enter Try.func35, Try.ntmps35
    go_wp2_with fail
    refine (distance_any a b w ha ha' hb hb').mono ?_
    rintro e w' ⟨rfl, rfl⟩
    go_wp2
    go_ret
    exact ⟨ret_int (by rw [He.out]), rfl⟩

set_option maxHeartbeats 2000000 in
theorem keys_any (a : Option Addr) (len cap : Nat) (L : List Ls) (ow : Int) (w : World) (h : LsAt w a L) (hz : L.length = len) (hm : len ≤ maxLen) :
    Calls Try.prog 19 #[.slice a len cap, .int .i64 ow] w fun e w' => e = .returned (.int .i64 (keysI L ow)) ∧ Below w.heap.size w w' := by
  have HI := Lib.hid h
  have HZ := Lib.hid hz
  have HM := Lib.hid hm
  clear h hz hm
  cases hv : lvB L
  · have HE := Lib.hid (keysI_no1 (ow := ow) hv)
    go_enter Try.func19, Try.ntmps19
    have hB := Below.refl w.heap.size w
    go_wp2_with fail
    refine (lvs_any a len cap L w (HI.out.keepB hB (Nat.le_refl _)) HZ.out HM.out).mono ?_
    rintro e w2 ⟨rfl, hs⟩
    have hB2 : Below w.heap.size w w2 := hB.trans (hs.mono hB.size)
    clear hs
    rw [hv]
    go_wp2
    go_ret
    exact ⟨ret_int HE.out.symm, hB2⟩
  cases h0 : ptB ow
  · have HE := Lib.hid (keysI_no2 (L := L) h0)
    go_enter Try.func19, Try.ntmps19
    have hB := Below.refl w.heap.size w
    go_wp2_with fail
    refine (lvs_any a len cap L w (HI.out.keepB hB (Nat.le_refl _)) HZ.out HM.out).mono ?_
    rintro e w2 ⟨rfl, hs⟩
    have hB2 : Below w.heap.size w w2 := hB.trans (hs.mono hB.size)
    clear hs
    rw [hv]
    go_wp2_with fail
    refine (valid_any ow w2).mono ?_
    rintro e w' ⟨rfl, rfl⟩
    rw [h0]
    go_wp2
    go_ret
    exact ⟨ret_int HE.out.symm, hB2⟩
  have HE := Lib.hid (keysI_yes hv h0)
  have h12 : 1 ≤ len ∧ len ≤ 12 := by have := lv_len hv; rw [HZ.out] at this; exact this
  obtain ⟨hl1, hl2⟩ := h12
  have HV := Lib.hid hv
  go_enter Try.func19, Try.ntmps19
  have hB := Below.refl w.heap.size w
  go_wp2_with fail
  refine (lvs_any a len cap L w (HI.out.keepB hB (Nat.le_refl _)) HZ.out HM.out).mono ?_
  rintro e w2 ⟨rfl, hs⟩
  have hB2 : Below w.heap.size w w2 := hB.trans (hs.mono hB.size)
  clear hs
  rw [hv]
  go_wp2_with fail
  refine (valid_any ow w2).mono ?_
  rintro e w' ⟨rfl, rfl⟩
  rw [h0]
  obtain ⟨b, off, rfl, hb0, hcells⟩ := (HI.out.keepB hB2 (Nat.le_refl _)).at_ (i := len - 1) (by rw [HZ.out]; omega)
  obtain ⟨hd0, hd1, hd2⟩ := hcells (len - 1) (by rw [HZ.out]; omega)
  have hn1 : ((len : Int) - 1).toNat = len - 1 := by omega
  have hn2 : (1 : Int) ≤ (len : Int) := by omega
  have hn3 : (0 : Int) ≤ (len : Int) - 1 := by omega
  clear hcells h0 hv
  go_wp2
  go_quiet (fail)
  clear hd0 hd1 hd2 hn1 hn2 hn3
  go_wp2
  go_loopw [5, 6, 27] (fun s q i wr => ∃ k : Nat, k ≤ len ∧ i = .int .i64 k ∧ s = .int .i64 (upTo L (ownB L ow) k) ∧ q = .int .i64 (bfL L k) ∧ Below w.heap.size w wr) (fun _ _ i _ => len - (intOf i).toNat)
  case atStart => exact ⟨0, by omega, rfl, rfl, by unfold bfL; rw [if_pos rfl, HZ.out], bel_dN hB2 _⟩
  case round =>
    obtain ⟨k, hk, rfl, rfl, rfl, hbel⟩ := hrel
    by_cases hlt : k < len
    · have hkL : Hid (k < L.length) := by show k < L.length; rw [HZ.out]; exact hlt
      obtain ⟨b', off', hab, hb0', hcells⟩ := (HI.out.keepB hbel (Nat.le_refl _)).at_ (i := k) hkL.out
      injection hab with hab; injection hab with h1 h2; subst h1 h2
      obtain ⟨hc0, hc1, hc2⟩ := hcells k hkL.out
      clear hcells
      obtain ⟨u0, u1⟩ := upTo_bd HV.out (ownB L ow) (k := k) (by have := hkL.out; omega)
      obtain ⟨e0, e1⟩ := lv_e HV.out hkL.out
      obtain ⟨f0, f1⟩ : 0 ≤ bfL L k ∧ bfL L k < 64 := by unfold bfL; split <;> exact lv_e HV.out (by have := hkL.out; omega)
      have hnx : Hid (bfL L (k + 1) = (gl L k).e) := by show bfL L (k + 1) = _; unfold bfL; rw [if_neg (by omega)]; rfl
      cases c1 : ((gl L k).o == ow)
      · have hs : Hid (upTo L (ownB L ow) (k + 1) = upTo L (ownB L ow) k) := upTo_no HV.out hkL.out (by unfold ownB; simpa using c1)
        go_wp2
        go_roundw
        case rel => exact ⟨k + 1, by omega, by go_num, by rw [hs.out], by rw [hnx.out], hbel.trans ((alB wr _).mono hbel.size)⟩
        case measure => simp [intOf]; omega
      · have hs : Hid (upTo L (ownB L ow) (k + 1) = upTo L (ownB L ow) k + turn (bfL L k) (gl L k).e) := upTo_yes HV.out hkL.out (by unfold ownB; simpa using c1)
        obtain ⟨t0, t1⟩ := turn_bd (bfL L k) (gl L k).e
        have hba : Hid (∀ o : Obj, Below w.heap.size w (wr.alloc o)) := fun o => hbel.trans ((alB wr o).mono hbel.size)
        go_wp2_with fail
        refine (turn_any (bfL L k) (gl L k).e _ f0 f1 e0 e1).mono ?_
        rintro e w' ⟨rfl, rfl⟩
        go_wp2
        go_roundw
        case rel => exact ⟨k + 1, by omega, by go_num, by rw [hs.out], by rw [hnx.out], hba.out _⟩
        case measure => simp [intOf]; omega
    · have hkk : k = L.length := by rw [HZ.out]; omega
      have HK := Lib.hid hkk
      clear hkk
      go_wp2
      go_ret
      exact ⟨ret_int (by rw [HE.out, HK.out, upTo_all HV.out, keysN]), hbel⟩

end Go.Proofs.Ytoaamamconcieab
