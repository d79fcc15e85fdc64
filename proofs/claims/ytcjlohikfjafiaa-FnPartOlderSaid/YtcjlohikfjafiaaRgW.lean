/- Writing a replica to a set: the program's and the model's. -/
import Derived.Test.YtcjlohikfjafiaaRgP
namespace Go.Proofs.Ytcjlohikfjafiaa
open Go.RowKit
set_option linter.unusedVariables false
attribute [local go_sem ↓] Go.wp_at_zero Go.wp_at_succ

/-- a register in a new row of the call's own -/
def NewR (M : List Ls) (w : World) (e : Ending) (w' : World) : Prop :=
  ∃ g c, e = .returned (.slice (some ⟨g, 0, none⟩) M.length c) ∧ OwnS w' w.heap.size g c M ∧ Below w.heap.size w w'

set_option maxHeartbeats 2000000 in
theorem written_any (a sa : Option Addr) (len cap sl sc : Nat) (L : List Ls) (zs : List Int) (x : Ls) (w : World) (h : LsAt w a L) (hz : L.length = len) (h0 : 0 < len) (hm : len ≤ 1000000) (hs : IntsAt w sa zs) (hsz : zs.length = sl) (hB : setB zs len = true) (hsm : sl ≤ maxLen) :
    Calls Try.prog 32 #[.slice a len cap, .slice sa sl sc, .agg #[.int .i64 x.e, .int .i64 x.o, .int .i64 x.u]] w (NewR (putL L x zs) w) := by
  have HI := Lib.hid h
  have HZ := Lib.hid hz
  have HS := Lib.hid hs
  have HSZ := Lib.hid hsz
  have HSB := Lib.hid hB
  unfold maxLen at hsm
  clear h hz hs hsz hB
  obtain ⟨W, hW⟩ : ∃ W, W = w.alloc (.cells #[.int .i64 x.e, .int .i64 x.o, .int .i64 x.u] 26) := ⟨_, rfl⟩
  have hWb : Below w.heap.size w W := by rw [hW]; exact alB _ _
  have hWh : Hid (W.heap[w.heap.size]? = some (.cells #[.int .i64 x.e, .int .i64 x.o, .int .i64 x.u] 26 (0, 0))) := by show _ = _; rw [hW]; exact heap_alloc_new w _
  have hWs : w.heap.size < W.heap.size := by rw [hW]; simp
  have HW := Lib.hid hW
  clear hW
  go_enter Try.func32, Try.ntmps32
  go_wp2_with fail
  rw [← HW.out]
  refine (cloneL_any a len cap L W (HI.out.keepB hWb (Nat.le_refl _)) HZ.out h0 hm).mono ?_
  rintro e w1 ⟨g, c, rfl, ho1, hb1⟩
  have hB1 : Below w.heap.size w w1 := hWb.trans (hb1.mono hWb.size)
  have hbox : Hid (w1.heap[w.heap.size]? = some (.cells #[.int .i64 x.e, .int .i64 x.o, .int .i64 x.u] 26 (0, 0))) := (hb1.block _ hWs).trans hWh.out
  have hgW : w.heap.size < g := Nat.lt_of_lt_of_le hWs ho1.blk.1
  have H1 := Lib.hid (ho1.less hWb.size)
  clear ho1
  go_wp2
  go_loopw [14] (fun i wr => ∃ k : Nat, k ≤ sl ∧ i = .int .i64 k ∧ OwnS wr w.heap.size g c (putTo L x zs k) ∧ Below w.heap.size w wr ∧ wr.heap[w.heap.size]? = some (.cells #[.int .i64 x.e, .int .i64 x.o, .int .i64 x.u] 26 (0, 0))) (fun i _ => sl - (intOf i).toNat)
  case atStart => exact ⟨0, by omega, rfl, H1.out, hB1, hbox.out⟩
  case round =>
    obtain ⟨k, hk, rfl, hown, hbel, hbx⟩ := hrel
    have HO := Lib.hid hown
    have HX := Lib.hid hbx
    clear hown hbx
    by_cases hlt : k < sl
    · have hkL : Hid (k < zs.length) := by show k < zs.length; rw [HSZ.out]; exact hlt
      obtain ⟨b, off, rfl, hb0, hcells⟩ := ints_at (HS.out.keepB hbel (Nat.le_refl _)) hkL.out
      have hc0 := hcells k hkL.out
      clear hcells
      obtain ⟨p, hp⟩ : ∃ p : Nat, gt zs k = (p : Int) := ⟨(gt zs k).toNat, by have := set_in HSB.out hkL.out; omega⟩
      have hpl : p < len := by have := set_in HSB.out hkL.out; omega
      rw [hp] at hc0
      have HP : Hid ((gt zs k).toNat = p) := by show _ = _; rw [hp]; rfl
      clear hp
      have hp0 : (0 : Int) ≤ (p : Int) := by omega
      have hp1 : (p : Int) < (len : Int) := by omega
      obtain ⟨y, hy⟩ : ∃ y, y = gl (putTo L x zs k) p := ⟨_, rfl⟩
      have hpM : Hid (p < (putTo L x zs k).length) := by show _ < _; rw [putTo_len, HZ.out]; exact hpl
      obtain ⟨c0, c1, c2⟩ := HO.out.cells hpM.out
      rw [← hy] at c0 c1 c2
      have HY := Lib.hid hy
      clear hy
      have hgl : g < wr.heap.size := HO.out.blk.2.1
      have hwl : w.heap.size < wr.heap.size := by omega
      have x0 := cell_of_cells HX.out 0
      have x1 := cell_of_cells HX.out 1
      have x2 := cell_of_cells HX.out 2
      have e0 : ∀ q : Cls (Below wr.heap.size wr), q.to.cell? ⟨g, p * 3, none⟩ = some (.int .i64 y.e) := fun q => (q.ok.cell (p := ⟨g, p * 3, none⟩) hgl).trans c0
      have e1 : ∀ q : Cls (Below wr.heap.size wr), q.to.cell? ⟨g, p * 3 + 1, none⟩ = some (.int .i64 y.o) := fun q => (q.ok.cell (p := ⟨g, p * 3 + 1, none⟩) hgl).trans c1
      have e2 : ∀ q : Cls (Below wr.heap.size wr), q.to.cell? ⟨g, p * 3 + 2, none⟩ = some (.int .i64 y.u) := fun q => (q.ok.cell (p := ⟨g, p * 3 + 2, none⟩) hgl).trans c2
      have e3 : ∀ q : Cls (Below wr.heap.size wr), q.to.cell? ⟨w.heap.size, 0, none⟩ = some (.int .i64 x.e) := fun q => (q.ok.cell (p := ⟨w.heap.size, 0, none⟩) hwl).trans x0
      have e4 : ∀ q : Cls (Below wr.heap.size wr), q.to.cell? ⟨w.heap.size, 1, none⟩ = some (.int .i64 x.o) := fun q => (q.ok.cell (p := ⟨w.heap.size, 1, none⟩) hwl).trans x1
      have e5 : ∀ q : Cls (Below wr.heap.size wr), q.to.cell? ⟨w.heap.size, 2, none⟩ = some (.int .i64 x.u) := fun q => (q.ok.cell (p := ⟨w.heap.size, 2, none⟩) hwl).trans x2
      clear c0 c1 c2 x0 x1 x2
      cases hl : ltB y x
      · have HL := Lib.hid hl
        clear hl
        go_wp2
        refine wp_region_cls (Below wr.heap.size wr) (by kernel_rfl) (by kernel_rfl) below_drawn ?_
        repeat (go_big_quiet_step ((go_at_call 44; rename_i q; exact cls_below (older_as false y x _ HL.out) q.ok (Nat.le_refl _))))
        refine wpQuiet_nil ?_
        intro w2 hw'
        have hb2 := cls_out hw'
        clear hw' e0 e1 e2 e3 e4 e5
        have hB2 : Below w.heap.size w w2 := hbel.trans (hb2.mono hbel.size)
        have H2 : Hid (OwnS w2 w.heap.size g c (putTo L x zs (k + 1))) := by
          show OwnS _ _ _ _ _
          rw [putTo, HP.out, put1_no (by rw [← HY.out]; exact HL.out)]
          exact HO.out.keepB hb2 (Nat.le_refl _)
        have HX2 := Lib.hid ((hb2.block _ hwl).trans HX.out)
        go_wp2
        go_roundw
        case rel => exact ⟨k + 1, by omega, by go_num, H2.out, hB2, HX2.out⟩
        case measure => simp [intOf]; omega
      · have HL := Lib.hid hl
        clear hl
        go_wp2
        refine wp_region_cls (Below wr.heap.size wr) (by kernel_rfl) (by kernel_rfl) below_drawn ?_
        repeat (go_big_quiet_step ((go_at_call 44; rename_i q; exact cls_below (older_as true y x _ HL.out) q.ok (Nat.le_refl _))))
        refine wpQuiet_nil ?_
        intro w2 hw'
        have hb2 := cls_out hw'
        clear hw' e0 e1 e2 e3 e4 e5
        have hB2 : Below w.heap.size w w2 := hbel.trans (hb2.mono hbel.size)
        have ho2 := HO.out.keepB hb2 (Nat.le_refl _)
        have HX2 := Lib.hid ((hb2.block _ hwl).trans HX.out)
        have x0 := cell_of_cells HX2.out 0
        have x1 := cell_of_cells HX2.out 1
        have x2 := cell_of_cells HX2.out 2
        obtain ⟨y0, y1, y2⟩ := ho2.cells hpM.out
        obtain ⟨_, hgl2, cs, hbk, _⟩ := ho2.blk
        have f0 := frozen_of_cells hbk (p * 3)
        have f1 := frozen_of_cells hbk (p * 3 + 1)
        have f2 := frozen_of_cells hbk (p * 3 + 2)
        have H2 := Lib.hid ho2
        clear ho2 hbk
        go_wp2
        go_roundw
        case rel =>
          refine ⟨k + 1, by omega, by go_num, ?_, ((hB2.setCell (by omega) _).setCell (by omega) _).setCell (by omega) _, ?_⟩
          · rw [putTo, HP.out, put1_yes (by rw [← HY.out]; exact HL.out)]
            exact H2.out.setAll hpM.out x
          · rw [heap_set_ne _ _ _ _ _ (by omega), heap_set_ne _ _ _ _ _ (by omega), heap_set_ne _ _ _ _ _ (by omega)]
            exact HX2.out
        case measure => simp [intOf]; omega
    · have hkk : Hid (k = zs.length) := by show k = zs.length; rw [HSZ.out]; omega
      go_wp2
      go_ret
      refine ⟨g, c, by rw [putL_len, HZ.out]; rfl, ?_, hbel⟩
      have := HO.out
      rw [hkk.out] at this
      exact this

set_option maxHeartbeats 2000000 in
theorem sput_any (a sa : Option Addr) (len cap sl sc : Nat) (L : List Ls) (zs : List Int) (x : Ls) (w : World) (h : LsAt w a L) (hz : L.length = len) (h0 : 0 < len) (hm : len ≤ 1000000) (hs : IntsAt w sa zs) (hsz : zs.length = sl) (hB : setB zs len = true) (hsm : sl ≤ maxLen) :
    Calls Try.prog 35 #[.slice a len cap, .slice sa sl sc, .agg #[.int .i64 x.e, .int .i64 x.o, .int .i64 x.u]] w (NewR (putL L x zs) w) := by
  have HI := Lib.hid h
  have HZ := Lib.hid hz
  have HS := Lib.hid hs
  have HSZ := Lib.hid hsz
  have HSB := Lib.hid hB
  unfold maxLen at hsm
  obtain ⟨bl, ol, ha, hbl, _⟩ := h.at_ (i := 0) (by omega)
  subst ha
  clear h hz hs hsz hB
  have HSR : Hid (∀ W, Below w.heap.size w W → ∀ (j : Nat) (u : Value), (flat L)[j]? = some u → W.cell? ((⟨bl, ol, none⟩ : Addr).add j) = some u) := fun W hW => by
    have hk := HI.out.keepB hW (Nat.le_refl _)
    rcases hk with hk | ⟨b', off', ha, _, hc⟩
    · have := HZ.out; rw [hk] at this; simp at this; omega
    · injection ha with ha; injection ha with ha ho; subst ha ho
      exact src_ls hc
  have HBB : Hid (∀ o o', Below w.heap.size w ((w.alloc o).alloc o')) := fun o o' => ((Below.refl _ _).alloc (Nat.le_refl _) _).alloc (by simp) _
  have HWh : Hid (∀ o', ((w.alloc (.cells #[.int .i64 x.e, .int .i64 x.o, .int .i64 x.u] 26)).alloc o').heap[w.heap.size]? = some (.cells #[.int .i64 x.e, .int .i64 x.o, .int .i64 x.u] 26 (0, 0))) := fun o' => (Below.heap_alloc _ _ _ (by simp)).trans (heap_alloc_new w _)
  have HE : Hid (∀ o : Obj, OwnS ((w.alloc o).alloc (.cells #[] 26)) (w.heap.size + 1) (w.heap.size + 1) 0 []) := fun o => by
    have := own_none (w.alloc o) #[] rfl
    simpa using this
  go_enter Try.func35, Try.ntmps35
  go_wp2_with (at_builtin; refine wl_appL _ (by rfl) _ _ (by rfl) (w.heap.size + 1) (w.heap.size + 1) 0 0 [] L (by rfl) (HE.out _) rfl ⟨bl, ol, none⟩ len cap (by rfl) HZ.out (HSR.out _ (HBB.out _ _)) len (by omega) (by omega) (by simp) ?_; intro g c w1 hown hgr hat; have H1 := Lib.hid (show OwnS w1 (w.heap.size + 1) g c L from hown); have hB1 : Below w.heap.size w w1 := (HBB.out _ _).grown hgr (by simp; omega) (fun k hk => by injection hk with hk; omega); have hbox := Lib.hid ((hgr.block w.heap.size (by simp; omega) (fun e => by injection e with e; omega)).trans (HWh.out _)); clear hown hgr hat)
  have hgW : w.heap.size < g := H1.out.blk.1
  go_loopw [8] (fun i wr => ∃ k : Nat, k ≤ sl ∧ i = .int .i64 k ∧ OwnS wr w.heap.size g c (putTo L x zs k) ∧ Below w.heap.size w wr ∧ wr.heap[w.heap.size]? = some (.cells #[.int .i64 x.e, .int .i64 x.o, .int .i64 x.u] 26 (0, 0))) (fun i _ => sl - (intOf i).toNat)
  case atStart => exact ⟨0, by omega, rfl, H1.out.less (by omega), hB1, hbox.out⟩
  case round =>
    obtain ⟨k, hk, rfl, hown, hbel, hbx⟩ := hrel
    have HO := Lib.hid hown
    have HX := Lib.hid hbx
    clear hown hbx
    by_cases hlt : k < sl
    · have hkL : Hid (k < zs.length) := by show k < zs.length; rw [HSZ.out]; exact hlt
      obtain ⟨b, off, rfl, hb0, hcells⟩ := ints_at (HS.out.keepB hbel (Nat.le_refl _)) hkL.out
      have hc0 := hcells k hkL.out
      clear hcells
      obtain ⟨p, hp⟩ : ∃ p : Nat, gt zs k = (p : Int) := ⟨(gt zs k).toNat, by have := set_in HSB.out hkL.out; omega⟩
      have hpl : p < len := by have := set_in HSB.out hkL.out; omega
      rw [hp] at hc0
      have HP : Hid ((gt zs k).toNat = p) := by show _ = _; rw [hp]; rfl
      clear hp
      have hk0 : (0 : Int) ≤ (k : Int) := by omega
      have hk1 : (k : Int) < (sl : Int) := by omega
      have hp0 : (0 : Int) ≤ (p : Int) := by omega
      have hp1 : (p : Int) < (len : Int) := by omega
      obtain ⟨y, hy⟩ : ∃ y, y = gl (putTo L x zs k) p := ⟨_, rfl⟩
      have hpM : Hid (p < (putTo L x zs k).length) := by show _ < _; rw [putTo_len, HZ.out]; exact hpl
      obtain ⟨c0, c1, c2⟩ := HO.out.cells hpM.out
      rw [← hy] at c0 c1 c2
      have HY := Lib.hid hy
      clear hy
      have hgl : g < wr.heap.size := HO.out.blk.2.1
      have hwl : w.heap.size < wr.heap.size := by omega
      have hbr : b < wr.heap.size := by have := hbel.size; omega
      have x0 := cell_of_cells HX.out 0
      have x1 := cell_of_cells HX.out 1
      have x2 := cell_of_cells HX.out 2
      have e0 : ∀ q : Cls (Below wr.heap.size wr), q.to.cell? ⟨g, p * 3, none⟩ = some (.int .i64 y.e) := fun q => (q.ok.cell (p := ⟨g, p * 3, none⟩) hgl).trans c0
      have e1 : ∀ q : Cls (Below wr.heap.size wr), q.to.cell? ⟨g, p * 3 + 1, none⟩ = some (.int .i64 y.o) := fun q => (q.ok.cell (p := ⟨g, p * 3 + 1, none⟩) hgl).trans c1
      have e2 : ∀ q : Cls (Below wr.heap.size wr), q.to.cell? ⟨g, p * 3 + 2, none⟩ = some (.int .i64 y.u) := fun q => (q.ok.cell (p := ⟨g, p * 3 + 2, none⟩) hgl).trans c2
      have e3 : ∀ q : Cls (Below wr.heap.size wr), q.to.cell? ⟨w.heap.size, 0, none⟩ = some (.int .i64 x.e) := fun q => (q.ok.cell (p := ⟨w.heap.size, 0, none⟩) hwl).trans x0
      have e4 : ∀ q : Cls (Below wr.heap.size wr), q.to.cell? ⟨w.heap.size, 1, none⟩ = some (.int .i64 x.o) := fun q => (q.ok.cell (p := ⟨w.heap.size, 1, none⟩) hwl).trans x1
      have e5 : ∀ q : Cls (Below wr.heap.size wr), q.to.cell? ⟨w.heap.size, 2, none⟩ = some (.int .i64 x.u) := fun q => (q.ok.cell (p := ⟨w.heap.size, 2, none⟩) hwl).trans x2
      have e6 : ∀ q : Cls (Below wr.heap.size wr), q.to.cell? ⟨b, off + k, none⟩ = some (.int .i64 p) := fun q => (q.ok.cell (p := ⟨b, off + k, none⟩) hbr).trans hc0
      clear c0 c1 c2 x0 x1 x2
      cases hl : ltB y x
      · have HL := Lib.hid hl
        clear hl hc0
        go_wp2
        refine wp_region_cls (Below wr.heap.size wr) (by kernel_rfl) (by kernel_rfl) below_drawn ?_
        repeat (go_big_quiet_step ((go_at_call 46; rename_i q; exact cls_below (sless_as false y x _ HL.out) q.ok (Nat.le_refl _))))
        refine wpQuiet_nil ?_
        intro w2 hw'
        have hb2 := cls_out hw'
        clear hw' e0 e1 e2 e3 e4 e5 e6
        have hB2 : Below w.heap.size w w2 := hbel.trans (hb2.mono hbel.size)
        have H2 : Hid (OwnS w2 w.heap.size g c (putTo L x zs (k + 1))) := by
          show OwnS _ _ _ _ _
          rw [putTo, HP.out, put1_no (by rw [← HY.out]; exact HL.out)]
          exact HO.out.keepB hb2 (Nat.le_refl _)
        have HX2 := Lib.hid ((hb2.block _ hwl).trans HX.out)
        go_wp2
        go_roundw
        case rel => exact ⟨k + 1, by omega, by go_num, H2.out, hB2, HX2.out⟩
        case measure => simp [intOf]; omega
      · have HL := Lib.hid hl
        clear hl
        go_wp2
        refine wp_region_cls (Below wr.heap.size wr) (by kernel_rfl) (by kernel_rfl) below_drawn ?_
        repeat (go_big_quiet_step ((go_at_call 46; rename_i q; exact cls_below (sless_as true y x _ HL.out) q.ok (Nat.le_refl _))))
        refine wpQuiet_nil ?_
        intro w2 hw'
        have hb2 := cls_out hw'
        clear hw' e0 e1 e2 e3 e4 e5 e6
        have hB2 : Below w.heap.size w w2 := hbel.trans (hb2.mono hbel.size)
        have ho2 := HO.out.keepB hb2 (Nat.le_refl _)
        have HX2 := Lib.hid ((hb2.block _ hwl).trans HX.out)
        have x0 := cell_of_cells HX2.out 0
        have x1 := cell_of_cells HX2.out 1
        have x2 := cell_of_cells HX2.out 2
        have z0 := (hb2.cell (p := ⟨b, off + k, none⟩) hbr).trans hc0
        obtain ⟨y0, y1, y2⟩ := ho2.cells hpM.out
        obtain ⟨_, hgl2, cs, hbk, _⟩ := ho2.blk
        have f0 := frozen_of_cells hbk (p * 3)
        have f1 := frozen_of_cells hbk (p * 3 + 1)
        have f2 := frozen_of_cells hbk (p * 3 + 2)
        have H2 := Lib.hid ho2
        clear ho2 hbk hc0
        go_wp2
        go_region
        all_goals
          go_wp2
          go_roundw
          case rel =>
            refine ⟨k + 1, by omega, by go_num, ?_, (((hB2.drew).setCell (by omega) _).setCell (by omega) _).setCell (by omega) _, ?_⟩
            · rw [putTo, HP.out, put1_yes (by rw [← HY.out]; exact HL.out)]
              exact (H2.out.kept rfl : OwnS w2.drew w.heap.size g c _).setAll hpM.out x
            · show (((w2.setCell _ _).setCell _ _).setCell _ _).heap[w.heap.size]? = _
              rw [heap_set_ne _ _ _ _ _ (by omega), heap_set_ne _ _ _ _ _ (by omega), heap_set_ne _ _ _ _ _ (by omega)]
              exact HX2.out
          case measure => simp [intOf]; omega
    · have hkk : Hid (k = zs.length) := by show k = zs.length; rw [HSZ.out]; omega
      go_wp2
      go_ret
      refine ⟨g, c, by rw [putL_len, HZ.out]; rfl, ?_, hbel⟩
      have := HO.out
      rw [hkk.out] at this
      exact this
end Go.Proofs.Ytcjlohikfjafiaa
