/- What the program does with caches: finding a key, a copy, removing one entry. -/
import Derived.Test.YtdlapnelehehgabCaP1
import Derived.Laws.CopyRow
import Derived.Laws.OwnMore
namespace Go.Proofs.Ytdlapnelehehgab
open Go.RowKit
set_option linter.unusedVariables false
attribute [local go_sem ↓] Go.wp_at_zero Go.wp_at_succ

theorem bool_cs (b : Bool) : b = true ∨ b = false := by cases b <;> simp
/-- the three cells of a struct's block, later -/
theorem box3 {W : World} {q : Nat} {x y z : Value} {t : TypeId} (h : W.heap[q]? = some (.cells #[x, y, z] t (0, 0))) {w' : World} (hb : Below W.heap.size W w') :
    w'.cell? ⟨q, 0, none⟩ = some x ∧ w'.cell? ⟨q, 1, none⟩ = some y ∧ w'.cell? ⟨q, 2, none⟩ = some z := by
  have h' := (hb.block q (heap_lt h)).trans h
  exact ⟨by rw [cell_of_cells h']; rfl, by rw [cell_of_cells h']; rfl, by rw [cell_of_cells h']; rfl⟩

set_option maxHeartbeats 2000000 in
theorem bsf_any (a : Option Addr) (len cap : Nat) (L : List Ls) (key : Int) (w : World) (h : LsAt w a L) (hz : L.length = len) (hv : lvB L = true) :
    Calls Try.prog 43 #[.slice a len cap, .agg #[.int .i64 key, .int .i64 0, .int .i64 0], .func (.func 40) #[] #[]] w fun e w' =>
      e = .returned (.tuple #[.int .i64 (fdL L key : Nat), .bool (thB L key)]) ∧ Below w.heap.size w w' := by
  have HZ := Lib.hid hz
  have HV := Lib.hid hv
  have h6 : len ≤ 6 := by have := lv_len hv; omega
  obtain ⟨W0, hW0⟩ : ∃ W0, W0 = w.alloc (.cells #[.int .i64 key, .int .i64 0, .int .i64 0] 38) := ⟨_, rfl⟩
  have hB0 : Below w.heap.size w W0 := by rw [hW0]; exact alB _ _
  have hT : W0.heap[w.heap.size]? = some (.cells #[.int .i64 key, .int .i64 0, .int .i64 0] 38 (0, 0)) := by rw [hW0]; exact heap_alloc_new w _
  have HI := Lib.hid (h.keepB hB0 (Nat.le_refl _))
  have HT := Lib.hid hT
  have HW := Lib.hid hW0
  clear h hz hv hT hW0
  go_enter Try.func43, Try.ntmps43
  go_wp2
  rw [← HW.out]
  go_loopw [9, 10] (fun i j wr => ∃ p q : Nat, p ≤ q ∧ q ≤ len ∧ i = .int .i64 p ∧ j = .int .i64 q ∧ p ≤ fdL L key ∧ fdL L key ≤ q ∧ Below W0.heap.size W0 wr) (fun i j _ => (intOf j).toNat - (intOf i).toNat)
  case atStart => exact ⟨0, len, by omega, by omega, rfl, rfl, by omega, by rw [← HZ.out]; exact fd_le _ _, Below.refl _ _⟩
  case round =>
    obtain ⟨p, q, hpq, hq, rfl, rfl, hp1, hq1, hbel⟩ := hrel
    have HP := Lib.hid hp1
    have HQ := Lib.hid hq1
    clear hp1 hq1
    have HBW : Hid (∀ w', Below wr.heap.size wr w' → Below w.heap.size w w') := fun w' hb => hB0.trans ((hbel.trans (hb.mono hbel.size)).mono hB0.size)
    have HT0 := fun x : Cls (Below wr.heap.size wr) => (box3 HT.out (hbel.trans (x.ok.mono hbel.size))).1
    have HT1 := fun x : Cls (Below wr.heap.size wr) => (box3 HT.out (hbel.trans (x.ok.mono hbel.size))).2.1
    have HT2 := fun x : Cls (Below wr.heap.size wr) => (box3 HT.out (hbel.trans (x.ok.mono hbel.size))).2.2
    by_cases hlt : p < q
    · have hm1 : p ≤ (p + q) / 2 := by omega
      have hm2 : (p + q) / 2 < q := by omega
      obtain ⟨b, off, rfl, hb0, hcells⟩ := (HI.out.keepB hbel (Nat.le_refl _)).at_ (i := (p + q) / 2) (by rw [HZ.out]; omega)
      obtain ⟨m, hm⟩ : ∃ m : Nat, m = (p + q) / 2 := ⟨_, rfl⟩
      have hmi : ((p : Int) + (q : Int)) / 2 = (m : Int) := by omega
      rw [← hm] at hm1 hm2
      obtain ⟨hc0, hc1, hc2⟩ := hcells m (by rw [HZ.out]; omega)
      obtain ⟨x, hx⟩ : ∃ x, x = gl L m := ⟨_, rfl⟩
      rw [← hx] at hc0 hc1 hc2
      have HC0 := fun y : Cls (Below wr.heap.size wr) => (y.ok.cell (p := ⟨b, off + m * 3, none⟩) hb0).trans hc0
      have HC1 := fun y : Cls (Below wr.heap.size wr) => (y.ok.cell (p := ⟨b, off + m * 3 + 1, none⟩) hb0).trans hc1
      have HC2 := fun y : Cls (Below wr.heap.size wr) => (y.ok.cell (p := ⟨b, off + m * 3 + 2, none⟩) hb0).trans hc2
      have HX := Lib.hid hx
      have HM := Lib.hid hm
      have i0 : (0 : Int) ≤ (m : Int) := by omega
      have i1 : (m : Int) < (len : Int) := by omega
      clear hcells hx hm hc0 hc1 hc2
      by_cases hle : x.e < key
      · have hcm : Hid (cmI x.e key = -1) := by show _ = _; unfold cmI; rw [if_pos hle]
        have hfd : Hid (m + 1 ≤ fdL L key) := by
          show m + 1 ≤ fdL L key
          rw [HX.out] at hle
          rcases Nat.lt_or_ge m (fdL L key) with h' | h'
          · exact h'
          · exfalso
            have hv := HV.out
            have h1 := fd_at (L := L) (key := key) (by rw [HZ.out]; omega)
            rcases Nat.eq_or_lt_of_le h' with h2 | h2
            · rw [h2] at h1; omega
            · have := lv_lt hv h2 (by rw [HZ.out]; omega); omega
        clear hle
        go_wp2_with fail
        refine wp_region_cls (Below wr.heap.size wr) (by kernel_rfl) (by kernel_rfl) below_drawn ?_
        repeat (go_big_quiet_step ((go_at_call 40; rename_i y; exact cls_below (ckey_as (-1) x ⟨key, 0, 0⟩ _ hcm.out) y.ok (Nat.le_refl _))))
        refine wpQuiet_nil ?_
        intro w2 hw'
        have hb2 := cls_out hw'
        clear hw' HT0 HT1 HT2 HC0 HC1 HC2
        go_wp2
        go_roundw
        case rel => exact ⟨m + 1, q, by omega, hq, by go_num, rfl, hfd.out, HQ.out, hbel.trans (hb2.mono hbel.size)⟩
        case measure => simp [intOf]; omega
      · have hge : key ≤ x.e := by omega
        obtain ⟨v, hcm', hvn⟩ : ∃ v, cmI x.e key = v ∧ ¬ v < 0 := ⟨_, rfl, by unfold cmI; split <;> (try split) <;> omega⟩
        have hcm := Lib.hid hcm'
        have hfd : Hid (fdL L key ≤ m) := by
          show fdL L key ≤ m
          rcases Nat.lt_or_ge m (fdL L key) with h' | h'
          · have := fd_below h'
            rw [← HX.out] at this; omega
          · exact h'
        clear hcm' hge hle
        go_wp2_with fail
        refine wp_region_cls (Below wr.heap.size wr) (by kernel_rfl) (by kernel_rfl) below_drawn ?_
        repeat (go_big_quiet_step ((go_at_call 40; rename_i y; exact cls_below (ckey_as v x ⟨key, 0, 0⟩ _ hcm.out) y.ok (Nat.le_refl _))))
        refine wpQuiet_nil ?_
        intro w2 hw'
        have hb2 := cls_out hw'
        clear hw' HT0 HT1 HT2 HC0 HC1 HC2
        go_wp2
        go_roundw
        case rel => exact ⟨p, m, by omega, by omega, rfl, by go_num, HP.out, hfd.out, hbel.trans (hb2.mono hbel.size)⟩
        case measure => simp [intOf]; omega
    · obtain rfl : p = q := by omega
      have hpf : Hid (fdL L key = p) := by show _ = _; have := HP.out; have := HQ.out; omega
      by_cases hl : p < len
      · obtain ⟨b, off, rfl, hb0, hcells⟩ := (HI.out.keepB hbel (Nat.le_refl _)).at_ (i := p) (by rw [HZ.out]; omega)
        obtain ⟨hc0, hc1, hc2⟩ := hcells p (by rw [HZ.out]; omega)
        obtain ⟨x, hx⟩ : ∃ x, x = gl L p := ⟨_, rfl⟩
        rw [← hx] at hc0 hc1 hc2
        have HC0 := fun y : Cls (Below wr.heap.size wr) => (y.ok.cell (p := ⟨b, off + p * 3, none⟩) hb0).trans hc0
        have HC1 := fun y : Cls (Below wr.heap.size wr) => (y.ok.cell (p := ⟨b, off + p * 3 + 1, none⟩) hb0).trans hc1
        have HC2 := fun y : Cls (Below wr.heap.size wr) => (y.ok.cell (p := ⟨b, off + p * 3 + 2, none⟩) hb0).trans hc2
        have i0 : (0 : Int) ≤ (p : Int) := by omega
        have i1 : (p : Int) < (len : Int) := by omega
        have hw : Hid (thB L key = decide (x.e = key)) := by
          show _ = _
          unfold thB
          rw [hpf.out, HZ.out, hx, Bool.eq_iff_iff]
          simp [hl]
        clear hcells hc0 hc1 hc2 hx
        obtain ⟨v, hcm', hvz⟩ : ∃ v, cmI x.e key = v ∧ (v == 0) = decide (x.e = key) := ⟨_, rfl, cmI_z _ _⟩
        have hcm := Lib.hid hcm'
        rcases bool_cs (decide (x.e = key)) with hd | hd
        · rw [hd] at hvz
          have hw2 : Hid (thB L key = true) := by show _ = _; rw [hw.out, hd]
          clear hcm' hd
          go_wp2_with fail
          refine wp_region_cls (Below wr.heap.size wr) (by kernel_rfl) (by kernel_rfl) below_drawn ?_
          repeat (go_big_quiet_step ((go_at_call 40; rename_i y; exact cls_below (ckey_as v x ⟨key, 0, 0⟩ _ hcm.out) y.ok (Nat.le_refl _))))
          refine wpQuiet_nil ?_
          intro w2 hw'
          have hb2 := cls_out hw'
          clear hw' HT0 HT1 HT2 HC0 HC1 HC2
          go_wp2
          go_ret2
          exact ⟨by rw [hw2.out, hpf.out]; try rfl, HBW.out _ hb2⟩
        · rw [hd] at hvz
          have hw2 : Hid (thB L key = false) := by show _ = _; rw [hw.out, hd]
          clear hcm' hd
          go_wp2_with fail
          refine wp_region_cls (Below wr.heap.size wr) (by kernel_rfl) (by kernel_rfl) below_drawn ?_
          repeat (go_big_quiet_step ((go_at_call 40; rename_i y; exact cls_below (ckey_as v x ⟨key, 0, 0⟩ _ hcm.out) y.ok (Nat.le_refl _))))
          refine wpQuiet_nil ?_
          intro w2 hw'
          have hb2 := cls_out hw'
          clear hw' HT0 HT1 HT2 HC0 HC1 HC2
          go_wp2
          go_ret2
          exact ⟨by rw [hw2.out, hpf.out]; try rfl, HBW.out _ hb2⟩
      · have HE : Hid (thB L key = false) := by
          show _ = false
          unfold thB
          rw [decide_eq_false_iff_not, hpf.out, HZ.out]
          exact fun h => hl h.1
        go_wp2_with fail
        refine wp_region_cls (Below wr.heap.size wr) (by kernel_rfl) (by kernel_rfl) below_drawn ?_
        repeat (go_big_quiet_step (fail))
        refine wpQuiet_nil ?_
        intro w2 hw'
        have hb2 := cls_out hw'
        clear hw' HT0 HT1 HT2
        go_wp2
        go_ret2
        exact ⟨by rw [HE.out, hpf.out]; try rfl, HBW.out _ hb2⟩

set_option maxHeartbeats 400000 in
theorem find_any (a : Option Addr) (len cap : Nat) (L : List Ls) (key : Int) (w : World) (h : LsAt w a L) (hz : L.length = len) (hv : lvB L = true) :
    Calls Try.prog 26 #[.slice a len cap, .int .i64 key] w fun e w' =>
      e = .returned (.tuple #[.int .i64 (fdL L key : Nat), .bool (thB L key)]) ∧ Below w.heap.size w w' := by
  have HI := Lib.hid h
  have HZ := Lib.hid hz
  have HV := Lib.hid hv
  clear h hz hv
  go_enter Try.func26, Try.ntmps26
  go_wp2_with fail
  refine (bsf_any a len cap L key w HI.out HZ.out HV.out).mono ?_
  rintro e w2 ⟨rfl, hb2⟩
  go_wp2
  go_ret2
  exact ⟨rfl, hb2⟩
theorem find_as (k : Nat) (v : Bool) (a : Option Addr) (len cap : Nat) (L : List Ls) (key : Int) (w : World) (h : LsAt w a L) (hz : L.length = len) (hv : lvB L = true) (hk : fdL L key = k) (ht : thB L key = v) :
    Calls Try.prog 26 #[.slice a len cap, .int .i64 key] w fun e w' =>
      e = .returned (.tuple #[.int .i64 (k : Nat), .bool v]) ∧ Below w.heap.size w w' := by subst hk ht; exact find_any a len cap L key w h hz hv

/-- entries in a row of the call's own, or nil -/
def OwnN (w : World) (base : Nat) (a : Option Addr) (cap : Nat) (L : List Ls) : Prop := (a = none ∧ cap = 0 ∧ L = []) ∨ ∃ g, a = some ⟨g, 0, none⟩ ∧ OwnS w base g cap L
theorem OwnN.ownL {w : World} {base cap : Nat} {a : Option Addr} {L : List Ls} (h : OwnN w base a cap L) : OwnL w base a cap L := by
  rcases h with ⟨_, _, h⟩ | h
  · exact .inl h
  · exact .inr h
theorem OwnN.ls {w : World} {base cap : Nat} {a : Option Addr} {L : List Ls} (h : OwnN w base a cap L) : LsAt w a L := h.ownL.ls
theorem OwnN.keepB {w w' : World} {base cap B : Nat} {a : Option Addr} {L : List Ls} (h : OwnN w base a cap L) (hb : Below B w w') (hB : w.heap.size ≤ B) : OwnN w' base a cap L := by
  rcases h with h | ⟨g, rfl, h⟩
  · exact .inl h
  · exact .inr ⟨g, rfl, h.keepB hb hB⟩
theorem OwnN.less {w : World} {base base' cap : Nat} {a : Option Addr} {L : List Ls} (h : OwnN w base a cap L) (hb : base' ≤ base) : OwnN w base' a cap L := by
  rcases h with h | ⟨g, rfl, h⟩
  · exact .inl h
  · exact .inr ⟨g, rfl, h.less hb⟩

set_option maxHeartbeats 1000000 in
theorem clone_any (a : Option Addr) (len cap : Nat) (L : List Ls) (w : World) (h : LsAt w a L) (hz : L.length = len) (hm : len ≤ 1000000) :
    Calls Try.prog 30 #[.slice a len cap] w fun e w' => ∃ a' c, e = .returned (.slice a' len c) ∧ OwnN w' w.heap.size a' c L ∧ (0 < len → a' ≠ none) ∧ Below w.heap.size w w' := by
  cases a with
  | none =>
    have hL : L = [] := by
      rcases h with h | ⟨b, off, ha, _⟩
      · exact h
      · cases ha
    subst hL
    obtain rfl : len = 0 := hz.symm
    have hq := fun w => Lib.run_eql_slice_nil (P := Try.prog) w 24 38 none 0 cap 0 0 Try.underlying24
    simp only [Option.isNone_none] at hq
    clear h hz
    go_enter Try.func30, Try.ntmps30
    go_wp2
    go_ret
    exact ⟨none, 0, rfl, .inl ⟨rfl, rfl, rfl⟩, fun h => by omega, Below.refl _ _⟩
  | some ad =>
    have HZ := Lib.hid hz
    have HS : Hid (∀ o : Obj, ∀ (j : Nat) (u : Value), (flat L)[j]? = some u → (w.alloc o).cell? (ad.add j) = some u) := fun o => by
      have hk := LsAt.keepB h (alB w o) (Nat.le_refl _)
      rcases hk with hk | ⟨b', off', ha, _, hc⟩
      · subst hk; exact srcL_none _ _
      · injection ha with ha; subst ha
        exact src_ls hc
    have hq := fun w => Lib.run_eql_slice_nil (P := Try.prog) w 24 38 (some ad) len cap 0 0 Try.underlying24
    simp only [Option.isNone_some] at hq
    clear h hz
    go_enter Try.func30, Try.ntmps30
    go_wp2_with (at_builtin; refine wl_appL _ (by rfl) _ _ (by rfl) w.heap.size w.heap.size 0 0 [] L (by rfl) (own_none w _ rfl) rfl ad len cap (by rfl) HZ.out (HS.out _) len (by omega) (by omega) (by simp) ?_; intro g' c' w' hown hgr hat; have HO := Lib.hid hown; have hB : Below w.heap.size w w' := (alB w _).grown hgr (by simp) (fun k hk => by injection hk with hk; omega); clear hown hgr hat)
    go_ret
    refine ⟨some ⟨g', 0, none⟩, c', rfl, .inr ⟨g', rfl, ?_⟩, fun _ => by simp, hB⟩
    have := HO.out
    rwa [List.nil_append] at this
end Go.Proofs.Ytdlapnelehehgab
