/- The walks of the exact laws of puzzles and answers. -/
import Derived.Test.YtblhaccjngjekaaPzDraw
import Derived.Test.YtblhaccjngjekaaPzP
import Derived.Test.YtblhaccjngjekaaExactNodes
namespace Go.Proofs.Ytblhaccjngjekaa
open Go.RowKit
set_option linter.unusedVariables false
attribute [local go_sem ↓] Go.wp_at_zero Go.wp_at_succ

theorem phash_ae (v id no : Int) (w : World) (hv : hsR id no = v) :
    Calls Try.prog 18 #[.int .i64 id, .int .i64 no] w fun e w' => e = .returned (.int .i64 v) ∧ Below w.heap.size w w' := by subst hv; exact phash_any id no w
theorem shash_ae (v id no : Int) (w : World) (hv : hsR id no = v) :
    Calls Try.prog 19 #[.int .i64 id, .int .i64 no] w fun e w' => e = .returned (.int .i64 v) ∧ Below w.heap.size w w' := by subst hv; exact (shashR_any id no w).mono fun _ _ ⟨h1, h2⟩ => ⟨h1, h2 ▸ Below.refl _ _⟩
theorem pokz_ae (v : Bool) (id no bits : Int) (w : World) (hv : okR id no bits = v) :
    Calls Try.prog 22 #[.int .i64 id, .int .i64 no, .int .i64 bits] w fun e w' => e = .returned (.bool v) ∧ Below w.heap.size w w' := by subst hv; exact pokz_any id no bits w
theorem sokz_ae (v : Bool) (id no bits : Int) (w : World) (hv : okR id no bits = v) :
    Calls Try.prog 23 #[.int .i64 id, .int .i64 no, .int .i64 bits] w fun e w' => e = .returned (.bool v) ∧ Below w.heap.size w w' := by subst hv; exact (sokR_any id no bits w).mono fun _ _ ⟨h1, h2⟩ => ⟨h1, h2 ▸ Below.refl _ _⟩
theorem psolve_ae (v id bits : Int) (w : World) (hv : slvR id bits = v) :
    Calls Try.prog 25 #[.int .i64 id, .int .i64 bits] w fun e w' => e = .returned (.int .i64 v) ∧ Below w.heap.size w w' := by subst hv; exact psolve_any id bits w
theorem ssolve_ae (v id bits : Int) (w : World) (hv : slvR id bits = v) :
    Calls Try.prog 26 #[.int .i64 id, .int .i64 bits] w fun e w' => e = .returned (.int .i64 v) ∧ Below w.heap.size w w' := by subst hv; exact (ssolve_any id bits w).mono fun _ _ ⟨h1, h2⟩ => ⟨h1, h2 ▸ Below.refl _ _⟩
theorem pans_ae (v : Int) (a : Option Addr) (len cap : Nat) (zs : List Int) (w : World) (h : IntsAt w a zs) (hz : zs.length = len) (hm : len ≤ maxLen) (hv : ansR zs = v) :
    Calls Try.prog 32 #[.slice a len cap] w fun e w' => e = .returned (.int .i64 v) ∧ Below w.heap.size w w' := by subst hv; exact pans_any a len cap zs w h hz hm
theorem sans_ae (v : Int) (a : Option Addr) (len cap : Nat) (zs : List Int) (w : World) (h : IntsAt w a zs) (hz : zs.length = len) (hm : len ≤ maxLen) (hv : ansR zs = v) :
    Calls Try.prog 33 #[.slice a len cap] w fun e w' => e = .returned (.int .i64 v) ∧ Below w.heap.size w w' := by subst hv; exact (sans_any a len cap zs w h hz hm).mono fun _ _ ⟨h1, h2⟩ => ⟨h1, h2.below _⟩

set_option maxHeartbeats 1000000 in
theorem exPuzzleHash (id no : Int) (w : World) :
    Calls Try.prog 11 #[.int .i64 id, .int .i64 no] w fun e w' => e = .returned (.bool true) ∧ Below w.heap.size w w' := by
  obtain ⟨v, hv⟩ : ∃ v, hsR id no = v := ⟨_, rfl⟩
  have HV := Lib.hid hv
  have q1 : (v != v) = false := by simp
  clear hv
  go_enter Try.func11, Try.ntmps11
  go_wp2_with fail
  refine (shash_ae v id no w HV.out).mono ?_
  rintro e w1 ⟨rfl, hb1⟩
  have B1 : Hid (Below w.heap.size w w1) := hb1
  clear hb1
  go_wp2_with fail
  refine (phash_ae v id no w1 HV.out).mono ?_
  rintro e w2 ⟨rfl, hb2⟩
  have B2 : Hid (Below w.heap.size w w2) := B1.out.trans (hb2.mono B1.out.size)
  clear hb2
  go_wp2
  go_ret
  exact ⟨rfl, B2.out⟩

set_option maxHeartbeats 1000000 in
theorem exPuzzleOk (id no bits : Int) (w : World) :
    Calls Try.prog 12 #[.int .i64 id, .int .i64 no, .int .i64 bits] w fun e w' => e = .returned (.bool true) ∧ Below w.heap.size w w' := by
  obtain ⟨v, hv⟩ : ∃ v, okR id no bits = v := ⟨_, rfl⟩
  have HV := Lib.hid hv
  have q1 : (v != v) = false := by simp
  clear hv
  go_enter Try.func12, Try.ntmps12
  go_wp2_with fail
  refine (sokz_ae v id no bits w HV.out).mono ?_
  rintro e w1 ⟨rfl, hb1⟩
  have B1 : Hid (Below w.heap.size w w1) := hb1
  clear hb1
  go_wp2_with fail
  refine (pokz_ae v id no bits w1 HV.out).mono ?_
  rintro e w2 ⟨rfl, hb2⟩
  have B2 : Hid (Below w.heap.size w w2) := B1.out.trans (hb2.mono B1.out.size)
  clear hb2
  go_wp2
  go_ret
  exact ⟨rfl, B2.out⟩

set_option maxHeartbeats 1000000 in
theorem exPuzzleSolve (id bits : Int) (w : World) :
    Calls Try.prog 13 #[.int .i64 id, .int .i64 bits] w fun e w' => e = .returned (.bool true) ∧ Below w.heap.size w w' := by
  obtain ⟨v, hv⟩ : ∃ v, slvR id bits = v := ⟨_, rfl⟩
  have HV := Lib.hid hv
  have q1 : (v != v) = false := by simp
  clear hv
  go_enter Try.func13, Try.ntmps13
  go_wp2_with fail
  refine (ssolve_ae v id bits w HV.out).mono ?_
  rintro e w1 ⟨rfl, hb1⟩
  have B1 : Hid (Below w.heap.size w w1) := hb1
  clear hb1
  go_wp2_with fail
  refine (psolve_ae v id bits w1 HV.out).mono ?_
  rintro e w2 ⟨rfl, hb2⟩
  have B2 : Hid (Below w.heap.size w w2) := B1.out.trans (hb2.mono B1.out.size)
  clear hb2
  go_wp2
  go_ret
  exact ⟨rfl, B2.out⟩

set_option maxHeartbeats 1000000 in
theorem exPathsAnswer (a : Option Addr) (len cap : Nat) (z : List Int) (w : World) (h : RowInts w a len cap z) :
    Calls Try.prog 15 #[.slice a len cap] w fun e w' => e = .returned (.bool true) ∧ Below w.heap.size w w' := by
  obtain ⟨zs, hz, hi, hm⟩ := ints_of_row h
  clear h
  by_cases hl : 1048576 < len
  · unfold maxLen at hm
    clear hz hi
    go_enter Try.func15, Try.ntmps15
    go_wp2
    go_ret
    exact ⟨rfl, Below.refl _ _⟩
  subst hz
  have HI := Lib.hid hi
  clear hi hm
  have hmx : zs.length ≤ maxLen := by unfold maxLen; omega
  have HM := Lib.hid hmx
  clear hmx
  obtain ⟨v, hv⟩ : ∃ v, ansR zs = v := ⟨_, rfl⟩
  have HV := Lib.hid hv
  have q1 : (v != v) = false := by simp
  clear hv
  go_enter Try.func15, Try.ntmps15
  go_wp2_with fail
  refine (toInts_any a _ cap zs w HI.out rfl (by omega)).mono ?_
  rintro e w1 ⟨rfl, hr1, hb1, hs1⟩
  have HS1 := Lib.hid hs1
  clear hs1
  go_wp2_with fail
  refine (sans_ae v _ _ _ zs w1 hr1.ints rfl HM.out HV.out).mono ?_
  rintro e w2 ⟨rfl, hb2⟩
  have hB2 : Below w.heap.size w w2 := hb1.trans (hb2.mono hb1.size)
  have hI2 := HI.out.below hB2 (Nat.le_refl _)
  go_wp2_with fail
  refine (toInts_any a _ cap zs w2 hI2 rfl (by omega)).mono ?_
  rintro e w3 ⟨rfl, hr3, hb3, hs3⟩
  have HS3 := Lib.hid hs3
  clear hs3
  have hB3 : Below w.heap.size w w3 := hB2.trans (hb3.mono hB2.size)
  go_wp2_with fail
  refine (pans_ae v _ _ _ zs w3 hr3.ints rfl HM.out HV.out).mono ?_
  rintro e w4 ⟨rfl, hb4⟩
  have hB4 : Below w.heap.size w w4 := hB3.trans (hb4.mono hB3.size)
  have hI4 := HI.out.below hB4 (Nat.le_refl _)
  have hx4 := hr3.ints.below hb4 (Nat.le_refl _)
  go_wp2_with fail
  refine (toInts_any a _ cap zs w4 hI4 rfl (by omega)).mono ?_
  rintro e w5 ⟨rfl, hr5, hb5, hs5⟩
  have hB5 : Below w.heap.size w w5 := hB4.trans (hb5.mono hB4.size)
  have hx5 := hx4.below hb5 (Nat.le_refl _)
  have HS5 := Lib.hid hs5
  clear hs5
  go_wp2_with fail
  refine (eqInts_same _ _ _ _ _ zs w5 hx5 hr5.ints rfl (by omega)).mono ?_
  rintro e w6 ⟨rfl, hs6⟩
  go_wp2
  go_ret
  exact ⟨rfl, hB5.trans (hs6.below _)⟩
end Go.Proofs.Ytblhaccjngjekaa
