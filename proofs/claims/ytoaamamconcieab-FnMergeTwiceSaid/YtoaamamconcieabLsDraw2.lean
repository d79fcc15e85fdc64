/- Drawing the arguments of the laws of leases; comparing leases in the laws. -/
import Derived.Test.YtoaamamconcieabLsDraw
import Derived.Test.YtoaamamconcieabLsS
import Derived.Laws.StructEq
namespace Go.Proofs.Ytoaamamconcieab
open Go.RowKit
set_option linter.unusedVariables false

theorem OwnS.grownQ {w w' : World} {base g cap q : Nat} {L : List Ls} (h : OwnS w base g cap L) (hg : w.grownBy w' (some q)) (hne : q < base) : OwnS w' base g cap L :=
  h.kept (hg.block g h.blk.2.1 (fun e => by injection e with e; have := h.blk.1; omega))

theorem results_tmp4 {fn : Func} {t u v x : Tmp} (h : fn.results = #[.tmp t, .tmp u, .tmp v, .tmp x]) (tmps : Array Value) (P : Program) (w : World) :
    (results fn tmps).run P w = .ok (.tuple #[tmps.getD t undef, tmps.getD u undef, tmps.getD v undef, tmps.getD x undef]) w := by
  simp [results, h]
theorem results_tmp5 {fn : Func} {t u v x y : Tmp} (h : fn.results = #[.tmp t, .tmp u, .tmp v, .tmp x, .tmp y]) (tmps : Array Value) (P : Program) (w : World) :
    (results fn tmps).run P w = .ok (.tuple #[tmps.getD t undef, tmps.getD u undef, tmps.getD v undef, tmps.getD x undef, tmps.getD y undef]) w := by
  simp [results, h]
/-- leases and a number -/
def DrewL1 (w : World) (e : Ending) (w' : World) : Prop :=
  ∃ (g cap : Nat) (L : List Ls) (x : Int), e = .returned (.tuple #[.slice (some ⟨g, 0, none⟩) L.length cap, .int .i64 x]) ∧ L.length ≤ 12 ∧ OwnS w' w.heap.size g cap L ∧ Below w.heap.size w w'
def DrewL3 (w : World) (e : Ending) (w' : World) : Prop :=
  ∃ (g cap : Nat) (L : List Ls) (x y z : Int), e = .returned (.tuple #[.slice (some ⟨g, 0, none⟩) L.length cap, .int .i64 x, .int .i64 y, .int .i64 z]) ∧ L.length ≤ 12 ∧ OwnS w' w.heap.size g cap L ∧ Below w.heap.size w w'
def DrewL4 (w : World) (e : Ending) (w' : World) : Prop :=
  ∃ (g cap : Nat) (L : List Ls) (x y z u : Int), e = .returned (.tuple #[.slice (some ⟨g, 0, none⟩) L.length cap, .int .i64 x, .int .i64 y, .int .i64 z, .int .i64 u]) ∧ L.length ≤ 12 ∧ OwnS w' w.heap.size g cap L ∧ Below w.heap.size w w'


set_option maxHeartbeats 1000000 in
theorem drawLeaseRenew (s : Option Addr) (len cap : Nat) (w : World) (h : BytesAt w s len cap) :
    Calls Try.prog 9 #[.slice s len cap] w (DrewL3 w) := by
  go_enter Try.func9, Try.ntmps9
  go_wp2_with fail
  refine (open_any s len cap w h).mono ?_
  rintro e w0 ⟨rfl, hr0, hb0, hz0⟩
  have HZ := Lib.hid hz0
  clear hz0
  go_wp2_with fail
  refine (leases_any w.heap.size 900000 w0 (hr0.less (by omega))).mono ?_
  rintro e w1 ⟨g, c, L, rfl, hl, ho, hr1, hg1⟩
  have HO := Lib.hid ho
  have HL := Lib.hid hl
  clear ho hl
  go_wp2_with fail
  refine (pick_r w.heap.size 899999 6 w1 hr1 (by omega) (by omega)).mono ?_
  rintro e w2 ⟨x, hx0, hx1, rfl, hr2, hk2⟩
  go_wp2_with fail
  refine (time_r w.heap.size 899997 w2 hr2).mono ?_
  rintro e w3 ⟨y, hy0, hy1, rfl, hr3, hg3⟩
  go_wp2_with fail
  refine (time_r w.heap.size 899995 w3 hr3).mono ?_
  rintro e w4 ⟨z, hz0, hz1, rfl, hr4, hg4⟩
  have hG : w1.grownBy w4 (some w.heap.size) := grown_trans hk2.grown (grown_trans hg3 hg4)
  have hB : Below w.heap.size w w4 := below_of_grown hb0 (Nat.le_refl _) (by have := HZ.out; omega) (grown_trans hg1 hG)
  have HO2 := Lib.hid ((HO.out.grownQ hG (by have := HZ.out; omega)).less hb0.size)
  go_wp2
  refine bodyPost_ret (results_tmp4 rfl _ _ _) rfl ?_
  exact ⟨g, c, L, _, y, z, rfl, HL.out, HO2.out, hB⟩

set_option maxHeartbeats 1000000 in
theorem drawLeaseKeys (s : Option Addr) (len cap : Nat) (w : World) (h : BytesAt w s len cap) :
    Calls Try.prog 18 #[.slice s len cap] w (DrewL1 w) := by
  go_enter Try.func18, Try.ntmps18
  go_wp2_with fail
  refine (open_any s len cap w h).mono ?_
  rintro e w0 ⟨rfl, hr0, hb0, hz0⟩
  have HZ := Lib.hid hz0
  clear hz0
  go_wp2_with fail
  refine (leases_any w.heap.size 900000 w0 (hr0.less (by omega))).mono ?_
  rintro e w1 ⟨g, c, L, rfl, hl, ho, hr1, hg1⟩
  have HO := Lib.hid ho
  have HL := Lib.hid hl
  clear ho hl
  go_wp2_with fail
  refine (pick_r w.heap.size 899999 6 w1 hr1 (by omega) (by omega)).mono ?_
  rintro e w2 ⟨x, hx0, hx1, rfl, hr2, hk2⟩
  go_wp2_with fail
  refine (pick_r w.heap.size 899998 20 w2 hr2 (by omega) (by omega)).mono ?_
  rintro e w3 ⟨y, hy0, hy1, rfl, hr3, hk3⟩
  have hG : w1.grownBy w3 (some w.heap.size) := grown_trans hk2.grown hk3.grown
  have hB : Below w.heap.size w w3 := below_of_grown hb0 (Nat.le_refl _) (by have := HZ.out; omega) (grown_trans hg1 hG)
  have HO2 := Lib.hid ((HO.out.grownQ hG (by have := HZ.out; omega)).less hb0.size)
  by_cases h19 : y = 19
  · subst h19
    go_wp2
    go_ret2
    exact ⟨g, c, L, _, rfl, HL.out, HO2.out, hB⟩
  · have hq : y.tdiv 19 = 0 := Int.tdiv_eq_zero_of_lt (by omega) (by omega)
    have hq' : y / 19 = 0 := by omega
    go_wp2
    go_ret2
    exact ⟨g, c, L, _, rfl, HL.out, HO2.out, hB⟩

set_option maxHeartbeats 2000000 in
theorem drawLeasesMerge (s : Option Addr) (len cap : Nat) (w : World) (h : BytesAt w s len cap) :
    Calls Try.prog 13 #[.slice s len cap] w fun e w' => ∃ (g cap : Nat) (L : List Ls), e = .returned (.slice (some ⟨g, 0, none⟩) L.length cap) ∧ L.length ≤ 12 ∧ OwnS w' w.heap.size g cap L ∧ Below w.heap.size w w' := by
  go_enter Try.func13, Try.ntmps13
  go_wp2_with fail
  refine (open_any s len cap w h).mono ?_
  rintro e w0 ⟨rfl, hr0, hb0, hz0⟩
  have HZ := Lib.hid hz0
  clear hz0
  go_wp2_with fail
  refine (leases_any w.heap.size 900000 w0 (hr0.less (by omega))).mono ?_
  rintro e w1 ⟨g, c, L, rfl, hl, ho, hr1, hg1⟩
  obtain ⟨n, hn⟩ : ∃ n, n = L.length := ⟨_, rfl⟩
  rw [← hn]
  have hgb := ho.blk.1
  have hqg : w.heap.size < g := by have := HZ.out; omega
  have hn12 : n ≤ 12 := by omega
  have HO := Lib.hid ho
  have HN := Lib.hid hn
  clear ho hl hn
  go_wp2
  go_loopw [5] (fun i wr => ∃ (k : Nat) (M : List Ls), 1 ≤ k ∧ (k ≤ n ∨ k = 1) ∧ i = .int .i64 k ∧ M.length = n ∧ OwnS wr w0.heap.size g c M ∧ Ready wr w.heap.size (900000 - k) ∧ w0.grownBy wr (some w.heap.size)) (fun i _ => n - (intOf i).toNat)
  case atStart => exact ⟨1, L, by omega, by omega, rfl, HN.out.symm, HO.out, hr1.less (by omega), hg1⟩
  case round =>
    obtain ⟨k, M, hk1, hk, rfl, hM, hown, hr, hg⟩ := hrel
    have HM := Lib.hid hM
    clear hM
    by_cases hlt : k < n
    · go_wp2_with fail
      refine (pick_r w.heap.size (900000 - (k + 1)) 2 wr (hr.less (by omega)) (by omega) (by omega)).mono ?_
      rintro e w2 ⟨x, hx0, hx1, rfl, hr2, hk2⟩
      have ho2 := hown.kept (hk2.block g (by omega))
      have hg2 : w0.grownBy w2 (some w.heap.size) := grown_trans hg hk2.grown
      by_cases hx : x = 0
      · subst hx
        obtain ⟨x0, x1, x2⟩ := ho2.cells (i := k - 1) (by rw [HM.out]; omega)
        obtain ⟨y0, y1, y2⟩ := ho2.cells (i := k) (by rw [HM.out]; omega)
        obtain ⟨_, _, cs, hbk, _⟩ := ho2.blk
        have f1 := frozen_of_cells hbk (k * 3 + 1)
        have f2 := frozen_of_cells hbk (k * 3 + 2)
        have H2 := Lib.hid ho2
        clear ho2 hbk hown
        have m1 : ((k : Int) - 1).toNat = k - 1 := by omega
        have m2 : (1 : Int) ≤ (k : Int) := by omega
        have m3 : ¬ (k - 1 = k) := by omega
        have m4 : ¬ ((k - 1) * 3 + 2 = k * 3 + 1) := by omega
        go_wp2
        go_roundw
        case rel =>
          have h1 := H2.out.setO (k := k) (by rw [HM.out]; omega) (gl M (k - 1)).o
          have h2 := h1.setU (k := k) (by rw [List.length_set, HM.out]; omega) (gl M (k - 1)).u
          exact ⟨k + 1, _, by omega, by omega, by go_num, by rw [List.length_set, List.length_set, HM.out], h2, ready_set (ready_set hr2 hqg) hqg, grow_set (grow_set hg2 hgb) hgb⟩
        case measure => simp [intOf]; omega
      · have hx' : (x == 0) = false := by simp [hx]
        have H2 := Lib.hid ho2
        clear ho2 hown
        go_wp2
        go_roundw
        case rel => exact ⟨k + 1, M, by omega, by omega, by go_num, HM.out, H2.out, hr2, hg2⟩
        case measure => simp [intOf]; omega
    · have HW := Lib.hid hown
      clear hown
      go_wp2
      go_ret
      exact ⟨g, c, M, by rw [HM.out]; rfl, by rw [HM.out]; exact hn12, HW.out.less hb0.size, below_of_grown hb0 (Nat.le_refl _) (by have := HZ.out; omega) hg⟩

/-! ### comparing -/
set_option maxHeartbeats 1000000 in
theorem sameLs_same (a1 a2 : Option Addr) (len cap1 cap2 : Nat) (L : List Ls) (w : World) (h1 : LsAt w a1 L) (h2 : LsAt w a2 L) (hz : L.length = len) (hm : len ≤ 1048576) :
    Calls Try.prog 12 #[.slice a1 len cap1, .slice a2 len cap2] w fun e w' => e = .returned (.bool true) ∧ Same w w' := by
  have H1 := Lib.hid h1
  have H2 := Lib.hid h2
  have HZ := Lib.hid hz
  clear h1 h2 hz
  have hne : ((len : Int) != (len : Int)) = false := by simp
  have hgd : Try.prog.eqGuardType Try.prog.depth 30 = false := by kernel_rfl
  go_enter Try.func12, Try.ntmps12
  go_wp2
  go_loopw [5] (fun i wr => ∃ k : Nat, k ≤ len ∧ i = .int .i64 k ∧ Same w wr) (fun i _ => len - (intOf i).toNat)
  case atStart => exact ⟨0, by omega, rfl, Same.refl _⟩
  case round =>
    obtain ⟨k, hk, rfl, hs⟩ := hrel
    obtain ⟨wo, rfl⟩ : ∃ x, x = wr := ⟨_, rfl⟩
    by_cases hlt : k < len
    · have hkr : Hid (k < L.length) := by show k < L.length; rw [HZ.out]; exact hlt
      obtain ⟨b, off, rfl, hb0, hcells⟩ := (H1.out.same hs).at_ (i := k) hkr.out
      obtain ⟨hc0, hc1, hc2⟩ := hcells k hkr.out
      obtain ⟨b', off', rfl, hb0', hcells'⟩ := (H2.out.same hs).at_ (i := k) hkr.out
      obtain ⟨hd0, hd1, hd2⟩ := hcells' k hkr.out
      clear hcells hcells'
      have i0 : (0 : Int) ≤ (k : Int) := by omega
      have i1 : (k : Int) < (len : Int) := by omega
      go_wp2
      go_quiet (fail)
      go_wp2
      go_roundw
      case rel => exact ⟨k + 1, by omega, by go_num, hs.drewN _⟩
      case measure => simp [intOf]; omega
    · go_wp2
      go_ret
      exact ⟨rfl, hs⟩
end Go.Proofs.Ytoaamamconcieab
