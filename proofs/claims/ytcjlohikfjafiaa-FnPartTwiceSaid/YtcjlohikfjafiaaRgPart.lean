/- RegisterPart: the program's and the model's. -/
import Derived.Test.YtcjlohikfjafiaaRgW
namespace Go.Proofs.Ytcjlohikfjafiaa
open Go.RowKit
set_option linter.unusedVariables false
attribute [local go_sem ↓] Go.wp_at_zero Go.wp_at_succ

/-- what RegisterPart leaves -/
def PartPost (R : List Ls × Bool) (w : World) (e : Ending) (w' : World) : Prop :=
  ∃ g c, e = .returned (.tuple #[.slice (some ⟨g, 0, none⟩) R.1.length c, .bool R.2]) ∧ OwnS w' w.heap.size g c R.1 ∧ Below w.heap.size w w'
theorem partPost_no {R : List Ls × Bool} {w w2 : World} {cs : Array Value} (h : R = ([], false)) (hcs : cs = #[]) (hb : Below w.heap.size w w2) :
    PartPost R w (.returned (.tuple #[.slice (some ⟨w2.heap.size, 0, none⟩) 0 0, .bool false])) (w2.alloc (.cells cs 26)) := by
  subst h
  exact ⟨w2.heap.size, 0, rfl, (own_none w2 cs hcs).less hb.size, hb.alloc hb.size _⟩
theorem partPost_yes {R : List Ls × Bool} {M : List Ls} {w w2 : World} {g c n : Nat} (h : R = (M, true)) (hn : M.length = n) (ho : OwnS w2 w.heap.size g c M) (hb : Below w.heap.size w w2) :
    PartPost R w (.returned (.tuple #[.slice (some ⟨g, 0, none⟩) n c, .bool true])) w2 := by
  subst h hn
  exact ⟨g, c, rfl, ho, hb⟩

set_option maxHeartbeats 2000000 in
theorem part_any (a sa : Option Addr) (len cap sl sc : Nat) (L : List Ls) (zs : List Int) (x : Ls) (w : World) (h : LsAt w a L) (hz : L.length = len) (hm : len ≤ maxLen) (hcap : len ≤ cap) (hs : IntsAt w sa zs) (hsz : zs.length = sl) (hsm : sl ≤ maxLen) :
    Calls Try.prog 9 #[.slice a len cap, .slice sa sl sc, .agg #[.int .i64 x.e, .int .i64 x.o, .int .i64 x.u]] w (PartPost (partR L zs x) w) := by
  have HI := Lib.hid h
  have HZ := Lib.hid hz
  have HS := Lib.hid hs
  have HSZ := Lib.hid hsz
  have HM := Lib.hid hm
  have HSM := Lib.hid hsm
  clear h hz hs hsz hm hsm
  obtain ⟨W, hW⟩ : ∃ W, W = w.alloc (.cells #[.int .i64 x.e, .int .i64 x.o, .int .i64 x.u] 26) := ⟨_, rfl⟩
  have hWb : Below w.heap.size w W := by rw [hW]; exact alB _ _
  have hWh : Hid (W.heap[w.heap.size]? = some (.cells #[.int .i64 x.e, .int .i64 x.o, .int .i64 x.u] 26 (0, 0))) := by show _ = _; rw [hW]; exact heap_alloc_new w _
  have hWs : w.heap.size < W.heap.size := by rw [hW]; simp
  have HW := Lib.hid hW
  clear hW
  cases hv : lvB L
  case false =>
    have HR := Lib.hid (partR_no1 (zs := zs) (x := x) hv)
    go_enter Try.func9, Try.ntmps9
    go_wp2_with fail
    rw [← HW.out]
    refine (lvs_any a len cap L W (HI.out.keepB hWb (Nat.le_refl _)) HZ.out HM.out hcap).mono ?_
    rintro e w2 ⟨rfl, hB2⟩
    have hC2 : Below w.heap.size w w2 := hWb.trans (hB2.mono hWb.size)
    rw [hv]
    go_wp2
    go_ret2
    exact partPost_no HR.out rfl hC2
  have hlen := lv_len hv
  rw [HZ.out] at hlen
  obtain ⟨hl1, hl5⟩ := hlen
  cases hsb : setB zs len
  case false =>
    have HR : Hid (partR L zs x = ([], false)) := partR_no2 (by rw [HZ.out]; exact hsb)
    go_enter Try.func9, Try.ntmps9
    go_wp2_with fail
    rw [← HW.out]
    refine (lvs_any a len cap L W (HI.out.keepB hWb (Nat.le_refl _)) HZ.out HM.out hcap).mono ?_
    rintro e w2 ⟨rfl, hB2⟩
    have hC2 : Below w.heap.size w w2 := hWb.trans (hB2.mono hWb.size)
    rw [hv]
    go_wp2_with fail
    refine (iset_any _ _ _ zs (len : Int) w2 (HS.out.keepB hC2 (Nat.le_refl _)) HSZ.out HSM.out).mono ?_
    rintro e w3 ⟨rfl, hs3⟩
    have hC3 : Below w.heap.size w w3 := hC2.trans ((hs3.below _).mono hC2.size)
    have hB3 : Below W.heap.size W w3 := hB2.trans ((hs3.below _).mono hB2.size)
    rw [hsb]
    go_wp2
    go_ret2
    exact partPost_no HR.out rfl hC3
  cases hr : lzB x
  case false =>
    have HR := Lib.hid (partR_no3 (L := L) (zs := zs) (x := x) hr)
    go_enter Try.func9, Try.ntmps9
    go_wp2_with fail
    rw [← HW.out]
    refine (lvs_any a len cap L W (HI.out.keepB hWb (Nat.le_refl _)) HZ.out HM.out hcap).mono ?_
    rintro e w2 ⟨rfl, hB2⟩
    have hC2 : Below w.heap.size w w2 := hWb.trans (hB2.mono hWb.size)
    rw [hv]
    go_wp2_with fail
    refine (iset_any _ _ _ zs (len : Int) w2 (HS.out.keepB hC2 (Nat.le_refl _)) HSZ.out HSM.out).mono ?_
    rintro e w3 ⟨rfl, hs3⟩
    have hC3 : Below w.heap.size w w3 := hC2.trans ((hs3.below _).mono hC2.size)
    have hB3 : Below W.heap.size W w3 := hB2.trans ((hs3.below _).mono hB2.size)
    rw [hsb]
    have hx3 := (hB3.block _ hWs).trans hWh.out
    have x0 := cell_of_cells hx3 0
    have x1 := cell_of_cells hx3 1
    have x2 := cell_of_cells hx3 2
    have HX3 := Lib.hid hx3
    clear hx3
    go_wp2_with fail
    refine (lvalid_any x w3).mono ?_
    rintro e w4 ⟨rfl, hb4⟩
    have hC4 : Below w.heap.size w w4 := hC3.trans (hb4.mono hC3.size)
    have hB4 : Below W.heap.size W w4 := hB3.trans (hb4.mono hB3.size)
    rw [hr]
    clear x0 x1 x2
    go_wp2
    go_ret2
    exact partPost_no HR.out rfl hC4
  have HV := Lib.hid hv
  have HSB := Lib.hid hsb
  have HRP := Lib.hid hr
  cases hq : lvB (putL L x zs)
  case false =>
    have HR := Lib.hid (partR_no4 (L := L) (zs := zs) (x := x) hq)
    go_enter Try.func9, Try.ntmps9
    go_wp2_with fail
    rw [← HW.out]
    refine (lvs_any a len cap L W (HI.out.keepB hWb (Nat.le_refl _)) HZ.out HM.out hcap).mono ?_
    rintro e w2 ⟨rfl, hB2⟩
    have hC2 : Below w.heap.size w w2 := hWb.trans (hB2.mono hWb.size)
    rw [hv]
    go_wp2_with fail
    refine (iset_any _ _ _ zs (len : Int) w2 (HS.out.keepB hC2 (Nat.le_refl _)) HSZ.out HSM.out).mono ?_
    rintro e w3 ⟨rfl, hs3⟩
    have hC3 : Below w.heap.size w w3 := hC2.trans ((hs3.below _).mono hC2.size)
    have hB3 : Below W.heap.size W w3 := hB2.trans ((hs3.below _).mono hB2.size)
    rw [hsb]
    have hx3 := (hB3.block _ hWs).trans hWh.out
    have x0 := cell_of_cells hx3 0
    have x1 := cell_of_cells hx3 1
    have x2 := cell_of_cells hx3 2
    have HX3 := Lib.hid hx3
    clear hx3
    go_wp2_with fail
    refine (lvalid_any x w3).mono ?_
    rintro e w4 ⟨rfl, hb4⟩
    have hC4 : Below w.heap.size w w4 := hC3.trans (hb4.mono hC3.size)
    have hB4 : Below W.heap.size W w4 := hB3.trans (hb4.mono hB3.size)
    rw [hr]
    clear x0 x1 x2
    have hx4 := (hB4.block _ hWs).trans hWh.out
    have x0 := cell_of_cells hx4 0
    have x1 := cell_of_cells hx4 1
    have x2 := cell_of_cells hx4 2
    have HX4 := Lib.hid hx4
    clear hx4
    go_wp2_with fail
    refine (written_any a sa len cap sl sc L zs x w4 (HI.out.keepB hC4 (Nat.le_refl _)) HZ.out (by omega) (by omega) (HS.out.keepB hC4 (Nat.le_refl _)) HSZ.out HSB.out HSM.out).mono ?_
    rintro e w5 ⟨g, cg, rfl, ho5, hb5⟩
    have hC5 : Below w.heap.size w w5 := hC4.trans (hb5.mono hC4.size)
    have hcg := ho5.blk.2.2.choose_spec.2.1
    have H5 := Lib.hid (ho5.less hC4.size)
    have HLS := Lib.hid ho5.ls
    clear ho5 x0 x1 x2
    have HPL : Hid ((putL L x zs).length = len) := by show _ = _; rw [putL_len, HZ.out]
    rw [HPL.out] at hcg
    rw [HPL.out]
    go_wp2_with fail
    refine (lvs_any _ len _ (putL L x zs) w5 HLS.out HPL.out HM.out hcg).mono ?_
    rintro e w6 ⟨rfl, hb6⟩
    have hC6 : Below w.heap.size w w6 := hC5.trans (hb6.mono hC5.size)
    have H6 := Lib.hid (H5.out.keepB hb6 (Nat.le_refl _))
    rw [hq]
    go_wp2
    go_ret2
    exact partPost_no HR.out rfl hC6
  have HR : Hid (partR L zs x = (putL L x zs, true)) := partR_yes hv (by rw [HZ.out]; exact hsb) hr hq
  go_enter Try.func9, Try.ntmps9
  go_wp2_with fail
  rw [← HW.out]
  refine (lvs_any a len cap L W (HI.out.keepB hWb (Nat.le_refl _)) HZ.out HM.out hcap).mono ?_
  rintro e w2 ⟨rfl, hB2⟩
  have hC2 : Below w.heap.size w w2 := hWb.trans (hB2.mono hWb.size)
  rw [hv]
  go_wp2_with fail
  refine (iset_any _ _ _ zs (len : Int) w2 (HS.out.keepB hC2 (Nat.le_refl _)) HSZ.out HSM.out).mono ?_
  rintro e w3 ⟨rfl, hs3⟩
  have hC3 : Below w.heap.size w w3 := hC2.trans ((hs3.below _).mono hC2.size)
  have hB3 : Below W.heap.size W w3 := hB2.trans ((hs3.below _).mono hB2.size)
  rw [hsb]
  have hx3 := (hB3.block _ hWs).trans hWh.out
  have x0 := cell_of_cells hx3 0
  have x1 := cell_of_cells hx3 1
  have x2 := cell_of_cells hx3 2
  have HX3 := Lib.hid hx3
  clear hx3
  go_wp2_with fail
  refine (lvalid_any x w3).mono ?_
  rintro e w4 ⟨rfl, hb4⟩
  have hC4 : Below w.heap.size w w4 := hC3.trans (hb4.mono hC3.size)
  have hB4 : Below W.heap.size W w4 := hB3.trans (hb4.mono hB3.size)
  rw [hr]
  clear x0 x1 x2
  have hx4 := (hB4.block _ hWs).trans hWh.out
  have x0 := cell_of_cells hx4 0
  have x1 := cell_of_cells hx4 1
  have x2 := cell_of_cells hx4 2
  have HX4 := Lib.hid hx4
  clear hx4
  go_wp2_with fail
  refine (written_any a sa len cap sl sc L zs x w4 (HI.out.keepB hC4 (Nat.le_refl _)) HZ.out (by omega) (by omega) (HS.out.keepB hC4 (Nat.le_refl _)) HSZ.out HSB.out HSM.out).mono ?_
  rintro e w5 ⟨g, cg, rfl, ho5, hb5⟩
  have hC5 : Below w.heap.size w w5 := hC4.trans (hb5.mono hC4.size)
  have hcg := ho5.blk.2.2.choose_spec.2.1
  have H5 := Lib.hid (ho5.less hC4.size)
  have HLS := Lib.hid ho5.ls
  clear ho5 x0 x1 x2
  have HPL : Hid ((putL L x zs).length = len) := by show _ = _; rw [putL_len, HZ.out]
  rw [HPL.out] at hcg
  rw [HPL.out]
  go_wp2_with fail
  refine (lvs_any _ len _ (putL L x zs) w5 HLS.out HPL.out HM.out hcg).mono ?_
  rintro e w6 ⟨rfl, hb6⟩
  have hC6 : Below w.heap.size w w6 := hC5.trans (hb6.mono hC5.size)
  have H6 := Lib.hid (H5.out.keepB hb6 (Nat.le_refl _))
  rw [hq]
  go_wp2
  go_ret2
  exact partPost_yes HR.out HPL.out H6.out hC6

set_option maxHeartbeats 2000000 in
theorem spart_any (a sa : Option Addr) (len cap sl sc : Nat) (L : List Ls) (zs : List Int) (x : Ls) (w : World) (h : LsAt w a L) (hz : L.length = len) (hm : len ≤ maxLen) (hcap : len ≤ cap) (hs : IntsAt w sa zs) (hsz : zs.length = sl) (hsm : sl ≤ maxLen) :
    Calls Try.prog 10 #[.slice a len cap, .slice sa sl sc, .agg #[.int .i64 x.e, .int .i64 x.o, .int .i64 x.u]] w (PartPost (partR L zs x) w) := by
  have HI := Lib.hid h
  have HZ := Lib.hid hz
  have HS := Lib.hid hs
  have HSZ := Lib.hid hsz
  have HM := Lib.hid hm
  have HSM := Lib.hid hsm
  clear h hz hs hsz hm hsm
  obtain ⟨W, hW⟩ : ∃ W, W = w.alloc (.cells #[.int .i64 x.e, .int .i64 x.o, .int .i64 x.u] 26) := ⟨_, rfl⟩
  have hWb : Below w.heap.size w W := by rw [hW]; exact alB _ _
  have hWh : Hid (W.heap[w.heap.size]? = some (.cells #[.int .i64 x.e, .int .i64 x.o, .int .i64 x.u] 26 (0, 0))) := by show _ = _; rw [hW]; exact heap_alloc_new w _
  have hWs : w.heap.size < W.heap.size := by rw [hW]; simp
  have HW := Lib.hid hW
  clear hW
  cases hv : lvB L
  case false =>
    have HR := Lib.hid (partR_no1 (zs := zs) (x := x) hv)
    go_enter Try.func10, Try.ntmps10
    go_wp2_with fail
    rw [← HW.out]
    refine (slvs_any a len cap L W (HI.out.keepB hWb (Nat.le_refl _)) HZ.out HM.out).mono ?_
    rintro e w2 ⟨rfl, hB2⟩
    have hC2 : Below w.heap.size w w2 := hWb.trans (hB2.mono hWb.size)
    rw [hv]
    go_wp2
    go_ret2
    exact partPost_no HR.out rfl hC2
  have hlen := lv_len hv
  rw [HZ.out] at hlen
  obtain ⟨hl1, hl5⟩ := hlen
  cases hsb : setB zs len
  case false =>
    have HR : Hid (partR L zs x = ([], false)) := partR_no2 (by rw [HZ.out]; exact hsb)
    go_enter Try.func10, Try.ntmps10
    go_wp2_with fail
    rw [← HW.out]
    refine (slvs_any a len cap L W (HI.out.keepB hWb (Nat.le_refl _)) HZ.out HM.out).mono ?_
    rintro e w2 ⟨rfl, hB2⟩
    have hC2 : Below w.heap.size w w2 := hWb.trans (hB2.mono hWb.size)
    rw [hv]
    go_wp2_with fail
    refine (sset_any _ _ _ zs len w2 (HS.out.keepB hC2 (Nat.le_refl _)) HSZ.out HSM.out HM.out).mono ?_
    rintro e w3 ⟨rfl, hs3⟩
    have hC3 : Below w.heap.size w w3 := hC2.trans ((hs3.below _).mono hC2.size)
    have hB3 : Below W.heap.size W w3 := hB2.trans ((hs3.below _).mono hB2.size)
    rw [hsb]
    go_wp2
    go_ret2
    exact partPost_no HR.out rfl hC3
  cases hr : lzB x
  case false =>
    have HR := Lib.hid (partR_no3 (L := L) (zs := zs) (x := x) hr)
    go_enter Try.func10, Try.ntmps10
    go_wp2_with fail
    rw [← HW.out]
    refine (slvs_any a len cap L W (HI.out.keepB hWb (Nat.le_refl _)) HZ.out HM.out).mono ?_
    rintro e w2 ⟨rfl, hB2⟩
    have hC2 : Below w.heap.size w w2 := hWb.trans (hB2.mono hWb.size)
    rw [hv]
    go_wp2_with fail
    refine (sset_any _ _ _ zs len w2 (HS.out.keepB hC2 (Nat.le_refl _)) HSZ.out HSM.out HM.out).mono ?_
    rintro e w3 ⟨rfl, hs3⟩
    have hC3 : Below w.heap.size w w3 := hC2.trans ((hs3.below _).mono hC2.size)
    have hB3 : Below W.heap.size W w3 := hB2.trans ((hs3.below _).mono hB2.size)
    rw [hsb]
    have hx3 := (hB3.block _ hWs).trans hWh.out
    have x0 := cell_of_cells hx3 0
    have x1 := cell_of_cells hx3 1
    have x2 := cell_of_cells hx3 2
    have HX3 := Lib.hid hx3
    clear hx3
    go_wp2_with fail
    refine (srep_any x w3).mono ?_
    rintro e w4 ⟨rfl, hb4⟩
    have hC4 : Below w.heap.size w w4 := hC3.trans (hb4.mono hC3.size)
    have hB4 : Below W.heap.size W w4 := hB3.trans (hb4.mono hB3.size)
    rw [hr]
    clear x0 x1 x2
    go_wp2
    go_ret2
    exact partPost_no HR.out rfl hC4
  have HV := Lib.hid hv
  have HSB := Lib.hid hsb
  have HRP := Lib.hid hr
  cases hq : lvB (putL L x zs)
  case false =>
    have HR := Lib.hid (partR_no4 (L := L) (zs := zs) (x := x) hq)
    go_enter Try.func10, Try.ntmps10
    go_wp2_with fail
    rw [← HW.out]
    refine (slvs_any a len cap L W (HI.out.keepB hWb (Nat.le_refl _)) HZ.out HM.out).mono ?_
    rintro e w2 ⟨rfl, hB2⟩
    have hC2 : Below w.heap.size w w2 := hWb.trans (hB2.mono hWb.size)
    rw [hv]
    go_wp2_with fail
    refine (sset_any _ _ _ zs len w2 (HS.out.keepB hC2 (Nat.le_refl _)) HSZ.out HSM.out HM.out).mono ?_
    rintro e w3 ⟨rfl, hs3⟩
    have hC3 : Below w.heap.size w w3 := hC2.trans ((hs3.below _).mono hC2.size)
    have hB3 : Below W.heap.size W w3 := hB2.trans ((hs3.below _).mono hB2.size)
    rw [hsb]
    have hx3 := (hB3.block _ hWs).trans hWh.out
    have x0 := cell_of_cells hx3 0
    have x1 := cell_of_cells hx3 1
    have x2 := cell_of_cells hx3 2
    have HX3 := Lib.hid hx3
    clear hx3
    go_wp2_with fail
    refine (srep_any x w3).mono ?_
    rintro e w4 ⟨rfl, hb4⟩
    have hC4 : Below w.heap.size w w4 := hC3.trans (hb4.mono hC3.size)
    have hB4 : Below W.heap.size W w4 := hB3.trans (hb4.mono hB3.size)
    rw [hr]
    clear x0 x1 x2
    have hx4 := (hB4.block _ hWs).trans hWh.out
    have x0 := cell_of_cells hx4 0
    have x1 := cell_of_cells hx4 1
    have x2 := cell_of_cells hx4 2
    have HX4 := Lib.hid hx4
    clear hx4
    go_wp2_with fail
    refine (sput_any a sa len cap sl sc L zs x w4 (HI.out.keepB hC4 (Nat.le_refl _)) HZ.out (by omega) (by omega) (HS.out.keepB hC4 (Nat.le_refl _)) HSZ.out HSB.out HSM.out).mono ?_
    rintro e w5 ⟨g, cg, rfl, ho5, hb5⟩
    have hC5 : Below w.heap.size w w5 := hC4.trans (hb5.mono hC4.size)
    have hcg := ho5.blk.2.2.choose_spec.2.1
    have H5 := Lib.hid (ho5.less hC4.size)
    have HLS := Lib.hid ho5.ls
    clear ho5 x0 x1 x2
    have HPL : Hid ((putL L x zs).length = len) := by show _ = _; rw [putL_len, HZ.out]
    rw [HPL.out] at hcg
    rw [HPL.out]
    go_wp2_with fail
    refine (slvs_any _ len _ (putL L x zs) w5 HLS.out HPL.out HM.out).mono ?_
    rintro e w6 ⟨rfl, hb6⟩
    have hC6 : Below w.heap.size w w6 := hC5.trans (hb6.mono hC5.size)
    have H6 := Lib.hid (H5.out.keepB hb6 (Nat.le_refl _))
    rw [hq]
    go_wp2
    go_ret2
    exact partPost_no HR.out rfl hC6
  have HR : Hid (partR L zs x = (putL L x zs, true)) := partR_yes hv (by rw [HZ.out]; exact hsb) hr hq
  go_enter Try.func10, Try.ntmps10
  go_wp2_with fail
  rw [← HW.out]
  refine (slvs_any a len cap L W (HI.out.keepB hWb (Nat.le_refl _)) HZ.out HM.out).mono ?_
  rintro e w2 ⟨rfl, hB2⟩
  have hC2 : Below w.heap.size w w2 := hWb.trans (hB2.mono hWb.size)
  rw [hv]
  go_wp2_with fail
  refine (sset_any _ _ _ zs len w2 (HS.out.keepB hC2 (Nat.le_refl _)) HSZ.out HSM.out HM.out).mono ?_
  rintro e w3 ⟨rfl, hs3⟩
  have hC3 : Below w.heap.size w w3 := hC2.trans ((hs3.below _).mono hC2.size)
  have hB3 : Below W.heap.size W w3 := hB2.trans ((hs3.below _).mono hB2.size)
  rw [hsb]
  have hx3 := (hB3.block _ hWs).trans hWh.out
  have x0 := cell_of_cells hx3 0
  have x1 := cell_of_cells hx3 1
  have x2 := cell_of_cells hx3 2
  have HX3 := Lib.hid hx3
  clear hx3
  go_wp2_with fail
  refine (srep_any x w3).mono ?_
  rintro e w4 ⟨rfl, hb4⟩
  have hC4 : Below w.heap.size w w4 := hC3.trans (hb4.mono hC3.size)
  have hB4 : Below W.heap.size W w4 := hB3.trans (hb4.mono hB3.size)
  rw [hr]
  clear x0 x1 x2
  have hx4 := (hB4.block _ hWs).trans hWh.out
  have x0 := cell_of_cells hx4 0
  have x1 := cell_of_cells hx4 1
  have x2 := cell_of_cells hx4 2
  have HX4 := Lib.hid hx4
  clear hx4
  go_wp2_with fail
  refine (sput_any a sa len cap sl sc L zs x w4 (HI.out.keepB hC4 (Nat.le_refl _)) HZ.out (by omega) (by omega) (HS.out.keepB hC4 (Nat.le_refl _)) HSZ.out HSB.out HSM.out).mono ?_
  rintro e w5 ⟨g, cg, rfl, ho5, hb5⟩
  have hC5 : Below w.heap.size w w5 := hC4.trans (hb5.mono hC4.size)
  have hcg := ho5.blk.2.2.choose_spec.2.1
  have H5 := Lib.hid (ho5.less hC4.size)
  have HLS := Lib.hid ho5.ls
  clear ho5 x0 x1 x2
  have HPL : Hid ((putL L x zs).length = len) := by show _ = _; rw [putL_len, HZ.out]
  rw [HPL.out] at hcg
  rw [HPL.out]
  go_wp2_with fail
  refine (slvs_any _ len _ (putL L x zs) w5 HLS.out HPL.out HM.out).mono ?_
  rintro e w6 ⟨rfl, hb6⟩
  have hC6 : Below w.heap.size w w6 := hC5.trans (hb6.mono hC5.size)
  have H6 := Lib.hid (H5.out.keepB hb6 (Nat.le_refl _))
  rw [hq]
  go_wp2
  go_ret2
  exact partPost_yes HR.out HPL.out H6.out hC6
end Go.Proofs.Ytcjlohikfjafiaa
