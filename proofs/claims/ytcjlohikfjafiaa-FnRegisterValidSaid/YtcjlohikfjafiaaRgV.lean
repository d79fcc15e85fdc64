/- Contracts of the functions that only read replicas: comparing, valid. -/
import Derived.Test.YtcjlohikfjafiaaRgAt
import Derived.Test.YtcjlohikfjafiaaCls
import Derived.WalkKit
import Derived.BigQuiet
import Derived.Deep.QuietTactic
import Derived.Laws.StructEq
import Derived.Laws.ByValue
import Derived.Deep.RegionHeld3
import Derived.Deep.DrawnRows
namespace Go.Proofs.Ytcjlohikfjafiaa
open Go.RowKit
set_option linter.unusedVariables false
attribute [local go_sem ↓] Go.wp_at_zero Go.wp_at_succ

theorem alB (w : World) (o : Obj) : Below w.heap.size w (w.alloc o) := (Below.refl _ _).alloc (Nat.le_refl _) _

set_option maxHeartbeats 400000 in
theorem isValue_any (n : Int) (w : World) :
    Calls Try.prog 42 #[.int .i64 n] w fun e w' => e = .returned (.bool (vlB n)) ∧ w = w' := by
  go_enter Try.func42, Try.ntmps42
  go_wp2
  all_goals
    go_ret
    exact ⟨ret_bool (by rw [Bool.eq_iff_iff]; simp [vlB]; omega), rfl⟩

set_option maxHeartbeats 400000 in
theorem nan_any (n : Int) (w : World) :
    Calls Try.prog 51 #[.int .i64 n] w fun e w' => e = .returned (.bool false) ∧ w = w' := by
  have h : (n != n) = false := by simp
  go_enter Try.func51, Try.ntmps51
  go_wp2
  go_ret
  exact ⟨rfl, rfl⟩

set_option maxHeartbeats 1000000 in
theorem cmp_any (x y : Int) (w : World) :
    Calls Try.prog 50 #[.int .i64 x, .int .i64 y] w fun e w' => e = .returned (.int .i64 (cmI x y)) ∧ w = w' := by
  go_enter Try.func50, Try.ntmps50
  go_wp2_with (refine (nan_any _ _).mono ?_; rintro e w' ⟨rfl, rfl⟩)
  all_goals (go_ret; refine ⟨?_, rfl⟩; unfold cmI; (repeat' split) <;> first | rfl | (exfalso; omega))

set_option maxHeartbeats 1000000 in
theorem or2_any (b : Nat) (x y : Int) (w : World) (h0 : w.cell? ⟨b, 0, none⟩ = some (.int .i64 x)) (h1 : w.cell? ⟨b, 1, none⟩ = some (.int .i64 y)) :
    Calls Try.prog 49 #[.slice (some ⟨b, 0, none⟩) 2 2] w fun e w' => e = .returned (.int .i64 (if x = 0 then y else x)) ∧ w = w' := by
  have H1 := Lib.hid h1
  clear h1
  go_enter Try.func49, Try.ntmps49
  by_cases hx : x = 0
  · subst hx
    have h1 := H1.out
    by_cases hy : y = 0
    · subst hy
      go_wp2
      go_loop [8] (fun i => ∃ k : Nat, k ≤ 2 ∧ i = .int .i64 k) (fun i => 2 - (intOf i).toNat)
      case atStart => exact ⟨0, by omega, rfl⟩
      case round =>
        obtain ⟨k, hk, rfl⟩ := hrel
        have hk3 : k = 0 ∨ k = 1 ∨ k = 2 := by omega
        rcases hk3 with rfl | rfl | rfl
        · go_wp2
          go_round
          case rel => exact ⟨1, by omega, by go_num⟩
          case measure => simp [intOf]
        · go_wp2
          go_round
          case rel => exact ⟨2, by omega, by go_num⟩
          case measure => simp [intOf]
        · go_wp2
          go_ret
          exact ⟨rfl, rfl⟩
    · have hy' : (y != 0) = true := by simp [hy]
      go_wp2
      go_loop [8] (fun i => ∃ k : Nat, k ≤ 1 ∧ i = .int .i64 k) (fun i => 2 - (intOf i).toNat)
      case atStart => exact ⟨0, by omega, rfl⟩
      case round =>
        obtain ⟨k, hk, rfl⟩ := hrel
        have hk3 : k = 0 ∨ k = 1 := by omega
        rcases hk3 with rfl | rfl
        · go_wp2
          go_round
          case rel => exact ⟨1, by omega, by go_num⟩
          case measure => simp [intOf]
        · go_wp2
          go_ret
          exact ⟨rfl, rfl⟩
  · have hx' : (x != 0) = true := by simp [hx]
    have HX := Lib.hid hx
    clear hx
    go_wp2
    go_loop [8] (fun i => i = .int .i64 0) (fun i => 2 - (intOf i).toNat)
    case atStart => rfl
    case round =>
      subst hrel
      go_wp2
      go_ret
      exact ⟨rfl, rfl⟩

theorem heap3 (w : World) (a b c : Obj) : (((w.alloc a).alloc b).alloc c).drew.heap[w.heap.size + 1 + 1]? = some c := by
  have := heap_alloc_new ((w.alloc a).alloc b) c
  show (((w.alloc a).alloc b).alloc c).heap[w.heap.size + 1 + 1]? = some c
  simpa using this
theorem or2_as (v : Int) (b : Nat) (x y : Int) (w : World) (h0 : w.cell? ⟨b, 0, none⟩ = some (.int .i64 x)) (h1 : w.cell? ⟨b, 1, none⟩ = some (.int .i64 y)) (hv : v = if x = 0 then y else x) :
    Calls Try.prog 49 #[.slice (some ⟨b, 0, none⟩) 2 2] w fun e w' => e = .returned (.int .i64 v) ∧ w = w' := by subst hv; exact or2_any b x y w h0 h1
theorem cell_new2 (W : World) (x y : Value) (t : TypeId) : (W.alloc (.cells #[x, y] t)).cell? ⟨W.heap.size, 0, none⟩ = some x ∧ (W.alloc (.cells #[x, y] t)).cell? ⟨W.heap.size, 1, none⟩ = some y := by
  have h := heap_alloc_new W (.cells #[x, y] t)
  exact ⟨by rw [cell_of_cells h]; rfl, by rw [cell_of_cells h]; rfl⟩
set_option maxHeartbeats 400000 in
theorem compare_as (e o u e' o' u' V : Int) (w : World) (hV : V = if cmI e e' = 0 then cmI o o' else cmI e e') :
    Calls Try.prog 48 #[.agg #[.int .i64 e, .int .i64 o, .int .i64 u], .agg #[.int .i64 e', .int .i64 o', .int .i64 u']] w fun e w' => e = .returned (.int .i64 V) ∧ Below w.heap.size w w' := by
  have HE := Lib.hid hV
  clear hV
  obtain ⟨W, hW⟩ : ∃ W, W = (w.alloc (.cells #[.int .i64 e, .int .i64 o, .int .i64 u] 26)).alloc (.cells #[.int .i64 e', .int .i64 o', .int .i64 u'] 26) := ⟨_, rfl⟩
  have hWb : Below w.heap.size w W := by rw [hW]; exact ((Below.refl _ _).alloc (Nat.le_refl _) _).alloc (by simp) _
  have hWs : w.heap.size + 1 < W.heap.size := by rw [hW]; simp
  have HH0 : W.heap[w.heap.size]? = some (.cells #[.int .i64 e, .int .i64 o, .int .i64 u] 26 (0, 0)) := by rw [hW]; exact (Below.heap_alloc _ _ _ (by simp)).trans (heap_alloc_new w _)
  have HH1 : W.heap[w.heap.size + 1]? = some (.cells #[.int .i64 e', .int .i64 o', .int .i64 u'] 26 (0, 0)) := by rw [hW]; have := heap_alloc_new (w.alloc (.cells #[.int .i64 e, .int .i64 o, .int .i64 u] 26)) (.cells #[.int .i64 e', .int .i64 o', .int .i64 u'] 26); simpa using this
  have HS : Hid (∀ w', Below W.heap.size W w' → Below W.heap.size W w' ∧ w'.cell? ⟨w.heap.size, 0, none⟩ = some (.int .i64 e) ∧ w'.cell? ⟨w.heap.size, 1, none⟩ = some (.int .i64 o) ∧ w'.cell? ⟨w.heap.size + 1, 0, none⟩ = some (.int .i64 e') ∧ w'.cell? ⟨w.heap.size + 1, 1, none⟩ = some (.int .i64 o')) := fun w' hb => by
    have g0 := (hb.block w.heap.size (by omega)).trans HH0
    have g1 := (hb.block (w.heap.size + 1) (by omega)).trans HH1
    exact ⟨hb, by rw [cell_of_cells g0]; rfl, by rw [cell_of_cells g0]; rfl, by rw [cell_of_cells g1]; rfl, by rw [cell_of_cells g1]; rfl⟩
  have HW := Lib.hid hW
  have HWb := Lib.hid hWb
  have hB8 := Below.refl W.heap.size W
  clear hW HH0 HH1 hWs
  go_enter Try.func48, Try.ntmps48
  go_wp2
  rw [← HW.out]
  clear hWb
  go_region_held3 (fun w' => Below W.heap.size W w' ∧ w'.cell? ⟨w.heap.size, 0, none⟩ = some (.int .i64 e) ∧ w'.cell? ⟨w.heap.size, 1, none⟩ = some (.int .i64 o) ∧ w'.cell? ⟨w.heap.size + 1, 0, none⟩ = some (.int .i64 e') ∧ w'.cell? ⟨w.heap.size + 1, 1, none⟩ = some (.int .i64 o')) (first | (exact HS.out _ (by assumption)) | (exact HS.out _ (Below.drew (by assumption))) | (exact HS.out _ ((Below.refl _ _).alloc (Nat.le_refl _) _).drew))
    ((first | (go_at_call 50; refine (cmp_any _ _ _).mono ?_; rintro e w' ⟨rfl, rfl⟩) | (go_at_call 49; refine (or2_as V _ (cmI e e') (cmI o o') _ (by exact (cell_new2 W _ _ _).1) (by exact (cell_new2 W _ _ _).2) HE.out).mono ?_; rintro e w' ⟨rfl, rfl⟩)))
  all_goals
    go_wp2
    go_ret
    exact ⟨rfl, HWb.out.trans (((Below.refl _ _).alloc (Nat.le_refl _) _).drew.mono HWb.out.size)⟩
theorem compare_any (x y : Ls) (w : World) :
    Calls Try.prog 48 #[.agg #[.int .i64 x.e, .int .i64 x.o, .int .i64 x.u], .agg #[.int .i64 y.e, .int .i64 y.o, .int .i64 y.u]] w fun e w' => e = .returned (.int .i64 (cmL x y)) ∧ Below w.heap.size w w' := compare_as _ _ _ _ _ _ _ w rfl

set_option maxHeartbeats 400000 in
theorem older_any (x y : Ls) (w : World) :
    Calls Try.prog 44 #[.agg #[.int .i64 x.e, .int .i64 x.o, .int .i64 x.u], .agg #[.int .i64 y.e, .int .i64 y.o, .int .i64 y.u]] w fun e w' => e = .returned (.bool (ltB x y)) ∧ Below w.heap.size w w' := by
  have HE := Lib.hid (cmL_lt x y)
  obtain ⟨W, hW⟩ : ∃ W, W = (w.alloc (.cells #[.int .i64 x.e, .int .i64 x.o, .int .i64 x.u] 26)).alloc (.cells #[.int .i64 y.e, .int .i64 y.o, .int .i64 y.u] 26) := ⟨_, rfl⟩
  have hWb : Below w.heap.size w W := by rw [hW]; exact ((Below.refl _ _).alloc (Nat.le_refl _) _).alloc (by simp) _
  have HW := Lib.hid hW
  clear hW
  go_enter Try.func44, Try.ntmps44
  go_wp2_with fail
  rw [← HW.out]
  refine (compare_any x y W).mono ?_
  rintro e w' ⟨rfl, hb⟩
  go_wp2
  go_ret
  exact ⟨ret_bool HE.out, hWb.trans (hb.mono hWb.size)⟩
theorem older_as (v : Bool) (x y : Ls) (w : World) (hv : ltB x y = v) :
    Calls Try.prog 44 #[.agg #[.int .i64 x.e, .int .i64 x.o, .int .i64 x.u], .agg #[.int .i64 y.e, .int .i64 y.o, .int .i64 y.u]] w fun e w' => e = .returned (.bool v) ∧ Below w.heap.size w w' := by subst hv; exact older_any x y w

theorem Try.eqReplica : Try.prog.eqGuardType Try.prog.depth 26 = false := by kernel_rfl

set_option maxHeartbeats 1000000 in
theorem contr_any (x y : Ls) (w : World) :
    Calls Try.prog 37 #[.agg #[.int .i64 x.e, .int .i64 x.o, .int .i64 x.u], .agg #[.int .i64 y.e, .int .i64 y.o, .int .i64 y.u]] w fun e w' => e = .returned (.bool (cfB x y)) ∧ Below w.heap.size w w' := by
  have hgd := Try.eqReplica
  have HE := Lib.hid (cmL_zero x y)
  obtain ⟨W, hW⟩ : ∃ W, W = (w.alloc (.cells #[.int .i64 x.e, .int .i64 x.o, .int .i64 x.u] 26)).alloc (.cells #[.int .i64 y.e, .int .i64 y.o, .int .i64 y.u] 26) := ⟨_, rfl⟩
  have hWb : Below w.heap.size w W := by rw [hW]; exact ((Below.refl _ _).alloc (Nat.le_refl _) _).alloc (by simp) _
  have hWs : w.heap.size + 1 < W.heap.size := by rw [hW]; simp
  have HH0 : Hid (W.heap[w.heap.size]? = some (.cells #[.int .i64 x.e, .int .i64 x.o, .int .i64 x.u] 26 (0, 0))) := by show _ = _; rw [hW]; exact (Below.heap_alloc _ _ _ (by simp)).trans (heap_alloc_new w _)
  have HH1 : Hid (W.heap[w.heap.size + 1]? = some (.cells #[.int .i64 y.e, .int .i64 y.o, .int .i64 y.u] 26 (0, 0))) := by show _ = _; rw [hW]; have := heap_alloc_new (w.alloc (.cells #[.int .i64 x.e, .int .i64 x.o, .int .i64 x.u] 26)) (.cells #[.int .i64 y.e, .int .i64 y.o, .int .i64 y.u] 26); simpa using this
  have HW := Lib.hid hW
  clear hW
  go_enter Try.func37, Try.ntmps37
  go_wp2_with fail
  rw [← HW.out]
  refine (compare_any x y W).mono ?_
  rintro e w' ⟨rfl, hb⟩
  have hB := hWb.trans (hb.mono hWb.size)
  have g0 := (hb.block w.heap.size (by omega)).trans HH0.out
  have g1 := (hb.block (w.heap.size + 1) (by omega)).trans HH1.out
  have c0 : w'.cell? ⟨w.heap.size, 0, none⟩ = some (.int .i64 x.e) := by rw [cell_of_cells g0]; rfl
  have c1 : w'.cell? ⟨w.heap.size, 1, none⟩ = some (.int .i64 x.o) := by rw [cell_of_cells g0]; rfl
  have c2 : w'.cell? ⟨w.heap.size, 2, none⟩ = some (.int .i64 x.u) := by rw [cell_of_cells g0]; rfl
  have d0 : w'.cell? ⟨w.heap.size + 1, 0, none⟩ = some (.int .i64 y.e) := by rw [cell_of_cells g1]; rfl
  have d1 : w'.cell? ⟨w.heap.size + 1, 1, none⟩ = some (.int .i64 y.o) := by rw [cell_of_cells g1]; rfl
  have d2 : w'.cell? ⟨w.heap.size + 1, 2, none⟩ = some (.int .i64 y.u) := by rw [cell_of_cells g1]; rfl
  clear g0 g1
  cases hz : (cmL x y == 0)
  · have HC : Hid (cfB x y = false) := by show cfB x y = false; have := HE.out; rw [hz] at this; have := this.symm; simp at this; rw [cfB_no]; omega
    go_wp2
    go_ret
    exact ⟨ret_bool HC.out.symm, hB⟩
  · have heq : x.e = y.e ∧ x.o = y.o := by have := HE.out; rw [hz] at this; simpa using this.symm
    obtain ⟨h1, h2⟩ := heq
    have b0 : (x.e == y.e) = true := by simp [h1]
    have b1 : (x.o == y.o) = true := by simp [h2]
    have H1 := Lib.hid h1
    have H2 := Lib.hid h2
    clear h1 h2
    cases hu : (x.u == y.u)
    · have HC : Hid (cfB x y = true) := by show cfB x y = true; simp at hu; rw [cfB_iff]; exact ⟨H1.out, H2.out, hu⟩
      go_wp2
      go_ret
      exact ⟨ret_bool HC.out.symm, hB⟩
    · have HC : Hid (cfB x y = false) := by show cfB x y = false; simp at hu; rw [cfB_no]; exact fun _ _ => hu
      go_wp2
      go_ret
      exact ⟨ret_bool HC.out.symm, hB⟩

set_option maxHeartbeats 1000000 in
theorem lvalid_any (x : Ls) (w : World) :
    Calls Try.prog 31 #[.agg #[.int .i64 x.e, .int .i64 x.o, .int .i64 x.u]] w fun e w' => e = .returned (.bool (lzB x)) ∧ Below w.heap.size w w' := by
  have hgd := Try.eqReplica
  obtain ⟨e, o, u⟩ := x
  simp only at *
  have HB := Lib.hid (alB w)
  by_cases h0 : e = 0
  · subst h0
    cases h1 : (o == 0)
    · have He : Hid (lzB ⟨0, o, u⟩ = false) := by show lzB _ = _; simp at h1; simp [lzB, h1]
      go_enter Try.func31, Try.ntmps31
      go_wp2
      go_ret
      exact ⟨ret_bool He.out.symm, HB.out _⟩
    · have He : Hid (lzB ⟨0, o, u⟩ = (u == 0)) := by show lzB _ = _; simp at h1; rw [Bool.eq_iff_iff]; simp [lzB, h1]
      cases h2 : (u == 0)
      · go_enter Try.func31, Try.ntmps31
        go_wp2
        go_ret
        exact ⟨ret_bool (by rw [He.out, h2]), HB.out _⟩
      · go_enter Try.func31, Try.ntmps31
        go_wp2
        go_ret
        exact ⟨ret_bool (by rw [He.out, h2]), HB.out _⟩
  have hz : (e == 0) = false := by simp [h0]
  by_cases h1 : 1 ≤ e
  case neg =>
    have He : Hid (lzB ⟨e, o, u⟩ = false) := by show lzB _ = _; rw [lzB_p h0]; simp [vsB]; omega
    clear h0
    go_enter Try.func31, Try.ntmps31
    go_wp2
    go_ret
    exact ⟨ret_bool He.out.symm, HB.out _⟩
  by_cases h2 : e ≤ 99
  case neg =>
    have He : Hid (lzB ⟨e, o, u⟩ = false) := by show lzB _ = _; rw [lzB_p h0]; simp [vsB]; omega
    clear h0
    go_enter Try.func31, Try.ntmps31
    go_wp2
    go_ret
    exact ⟨ret_bool He.out.symm, HB.out _⟩
  cases h3 : ptB o
  · have He : Hid (lzB ⟨e, o, u⟩ = false) := by show lzB _ = _; rw [lzB_p h0]; simp [h3]
    clear h0
    go_enter Try.func31, Try.ntmps31
    go_wp2_with (first | (go_at_call 41; refine (valid_any _ _).mono ?_; rintro e w' ⟨rfl, rfl⟩) | (go_at_call 42; refine (isValue_any _ _).mono ?_; rintro e w' ⟨rfl, rfl⟩))
    go_ret
    exact ⟨ret_bool He.out.symm, HB.out _⟩
  · have He : Hid (lzB ⟨e, o, u⟩ = vlB u) := by show lzB _ = _; rw [lzB_p h0]; simp [h3, (vsB_iff e).2 ⟨h1, h2⟩]
    clear h0
    go_enter Try.func31, Try.ntmps31
    go_wp2_with (first | (go_at_call 41; refine (valid_any _ _).mono ?_; rintro e w' ⟨rfl, rfl⟩) | (go_at_call 42; refine (isValue_any _ _).mono ?_; rintro e w' ⟨rfl, rfl⟩))
    go_ret
    exact ⟨ret_bool He.out.symm, HB.out _⟩
theorem lvalid_as (v : Bool) (x : Ls) (w : World) (hv : lzB x = v) :
    Calls Try.prog 31 #[.agg #[.int .i64 x.e, .int .i64 x.o, .int .i64 x.u]] w fun e w' => e = .returned (.bool v) ∧ Below w.heap.size w w' := by subst hv; exact lvalid_any x w

/-- the method value r.contradicts -/
def ctF (x : Ls) : Value := .func (.func 37) #[.agg #[.int .i64 x.e, .int .i64 x.o, .int .i64 x.u]] #[]

set_option maxHeartbeats 1000000 in
theorem index_any (a : Option Addr) (len cap : Nat) (L : List Ls) (x : Ls) (w : World) (h : LsAt w a L) (hz : len ≤ L.length) (hm : L.length ≤ maxLen) :
    Calls Try.prog 47 #[.slice a len cap, ctF x] w fun e w' =>
      ∃ v : Int, e = .returned (.int .i64 v) ∧ decide (0 ≤ v) = !fineTo L x len ∧ Below w.heap.size w w' := by
  have HI := Lib.hid h
  have HZ := Lib.hid hz
  unfold maxLen at hm
  have hm' := Nat.le_trans hz hm
  clear h hz
  unfold ctF
  go_enter Try.func47, Try.ntmps47
  go_wp2
  go_loopw [8] (fun i wr => ∃ k : Nat, k ≤ len ∧ i = .int .i64 k ∧ fineTo L x k = true ∧ Below w.heap.size w wr) (fun i _ => len - (intOf i).toNat)
  case atStart => exact ⟨0, by omega, rfl, rfl, Below.refl _ _⟩
  case round =>
    obtain ⟨k, hk, rfl, hall, hbel⟩ := hrel
    have HA := Lib.hid hall
    clear hall
    by_cases hlt : k < len
    · obtain ⟨b, off, rfl, hb0, hcells⟩ := (HI.out.keepB hbel (Nat.le_refl _)).at_ (i := k) (by have := HZ.out; omega)
      obtain ⟨hc0, hc1, hc2⟩ := hcells k (by have := HZ.out; omega)
      clear hcells
      go_wp2_with fail
      refine (contr_any x (gl L k) wr).mono ?_
      rintro e w2 ⟨rfl, hb2⟩
      have hB2 : Below w.heap.size w w2 := hbel.trans (hb2.mono hbel.size)
      cases hcf : cfB x (gl L k)
      · have HF := Lib.hid (fineTo_s HA.out hcf)
        go_wp2
        go_roundw
        case rel => exact ⟨k + 1, by omega, by go_num, HF.out, hB2⟩
        case measure => simp [intOf]; omega
      · have HF := Lib.hid (fineTo_no hlt hcf)
        go_wp2
        go_ret
        exact ⟨_, rfl, by rw [HF.out]; simp, hB2⟩
    · have hkk : k = len := by omega
      subst hkk
      go_wp2
      go_ret
      exact ⟨_, rfl, by rw [HA.out]; simp, hbel⟩

set_option maxHeartbeats 400000 in
theorem contains_any (a : Option Addr) (len cap : Nat) (L : List Ls) (x : Ls) (w : World) (h : LsAt w a L) (hz : len ≤ L.length) (hm : L.length ≤ maxLen) :
    Calls Try.prog 36 #[.slice a len cap, ctF x] w fun e w' => e = .returned (.bool (!fineTo L x len)) ∧ Below w.heap.size w w' := by
  obtain ⟨F, hF⟩ : ∃ F, F = ctF x := ⟨_, rfl⟩
  rw [← hF]
  have HF := Lib.hid hF
  clear hF
  go_enter Try.func36, Try.ntmps36
  go_wp2_with fail
  rw [HF.out]
  refine (index_any a len cap L x w h hz hm).mono ?_
  rintro e w2 ⟨v, rfl, hv, hb2⟩
  have HV := Lib.hid hv
  clear hv
  cases hd : decide (0 ≤ v)
  · go_wp2
    go_ret
    exact ⟨ret_bool (by rw [← HV.out, hd]), hb2⟩
  · go_wp2
    go_ret
    exact ⟨ret_bool (by rw [← HV.out, hd]), hb2⟩
theorem contains_as (v : Bool) (a : Option Addr) (len cap : Nat) (L : List Ls) (x : Ls) (w : World) (h : LsAt w a L) (hz : len ≤ L.length) (hm : L.length ≤ maxLen) (hv : fineTo L x len = !v) :
    Calls Try.prog 36 #[.slice a len cap, ctF x] w fun e w' => e = .returned (.bool v) ∧ Below w.heap.size w w' := by
  have := contains_any a len cap L x w h hz hm
  rw [hv, Bool.not_not] at this
  exact this
end Go.Proofs.Ytcjlohikfjafiaa
