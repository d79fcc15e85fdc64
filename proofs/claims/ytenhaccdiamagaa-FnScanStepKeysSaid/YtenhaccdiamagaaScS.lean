/- Scans: what the model's functions that only read answer; a scan in memory. -/
import Derived.Test.YtenhaccdiamagaaScMath
import Derived.Test.YtenhaccdiamagaaLsF
import Derived.Test.YtenhaccdiamagaaAppS
import Derived.Handy
namespace Go.Proofs.Ytenhaccdiamagaa
open Go.RowKit
set_option linter.unusedVariables false
attribute [local go_sem ↓] Go.wp_at_zero Go.wp_at_succ

theorem own_nil0 (w : World) (base : Nat) : OwnI w base none 0 [] := ⟨by simp [vals], .inl ⟨rfl, rfl⟩⟩
/-- a scan in memory of its own -/
def NewSc (s : Sc) (w : World) (e : Ending) (w' : World) : Prop :=
  ∃ a cap, e = .returned (.agg #[.int .i64 s.x, .slice a s.t.length cap]) ∧ OwnI w' w.heap.size a cap s.t ∧ Below w.heap.size w w'
def NewScB (s : Sc) (ok : Bool) (w : World) (e : Ending) (w' : World) : Prop :=
  ∃ a cap, e = .returned (.tuple #[.agg #[.int .i64 s.x, .slice a s.t.length cap], .bool ok]) ∧ OwnI w' w.heap.size a cap s.t ∧ Below w.heap.size w w'
/-- numbers in memory of their own, and a number -/
def NewIntsN (zs : List Int) (n : Int) (w : World) (e : Ending) (w' : World) : Prop :=
  ∃ a cap, e = .returned (.tuple #[.slice a zs.length cap, .int .i64 n]) ∧ OwnI w' w.heap.size a cap zs ∧ Below w.heap.size w w'
/-- the cells of a struct of two -/
theorem cell2s {w : World} {g : Nat} {x y : Value} {t : TypeId} (h : w.heap[g]? = some (.cells #[x, y] t (0, 0))) :
    w.cell? ⟨g, 0, none⟩ = some x ∧ w.cell? ⟨g, 1, none⟩ = some y := ⟨by rw [cell_of_cells h]; rfl, by rw [cell_of_cells h]; rfl⟩
theorem set2s {w : World} {g : Nat} {x y x' y' : Value} {t : TypeId} (h : w.heap[g]? = some (.cells #[x, y] t (0, 0))) :
    ((w.setCell ⟨g, 0, none⟩ x').setCell ⟨g, 1, none⟩ y').heap[g]? = some (.cells #[x', y'] t (0, 0)) := heap_set _ g 1 y' (heap_set w g 0 x' h)
theorem set2s_ne {w : World} {g k : Nat} {x y : Value} (h : k ≠ g) : ((w.setCell ⟨g, 0, none⟩ x).setCell ⟨g, 1, none⟩ y).heap[k]? = w.heap[k]? :=
  (heap_set_ne _ _ _ _ _ h).trans (heap_set_ne _ _ _ _ _ h)
theorem below_set2s {B : Nat} {w w' : World} (h : Below B w w') {g : Nat} (hg : B ≤ g) (x y : Value) : Below B w ((w'.setCell ⟨g, 0, none⟩ x).setCell ⟨g, 1, none⟩ y) := (h.setCell hg _).setCell hg _
theorem two_newS {w W : World} {a b : Obj} (h : W = (w.alloc a).alloc b) :
    W.heap.size = w.heap.size + 2 ∧ Below w.heap.size w W ∧ W.heap[w.heap.size]? = some a ∧ W.heap[w.heap.size + 1]? = some b := by
  subst h
  exact ⟨by simp, ((Below.refl _ _).alloc (Nat.le_refl _) _).alloc (by simp) _, heap_first w a b, heap_second w a b⟩
theorem own_atS {w w' : World} {base cap : Nat} {a : Option Addr} {zs : List Int} (h : OwnI w base a cap zs) (he : ∀ x, a = some x → w'.heap[x.block]? = w.heap[x.block]?) : OwnI w' base a cap zs := by
  refine ⟨h.1, ?_⟩
  rcases h.2 with h0 | ⟨g', cap', cur, hv, hb, hg, rest⟩
  · exact .inl h0
  · refine .inr ⟨g', cap', cur, hv, hb, ?_, rest⟩
    injection hv with hv _ _
    exact (he _ hv).trans hg

set_option maxHeartbeats 1000000 in
theorem skys_any (a : Option Addr) (len cap : Nat) (zs : List Int) (w : World) (h : IntsAt w a zs) (hz : zs.length = len) (hm : len ≤ maxLen) :
    Calls Try.prog 57 #[.slice a len cap] w fun e w' => e = .returned (.bool (kyB zs)) ∧ Same w w' := by
  rcases Nat.eq_zero_or_pos len with h0 | h0
  · subst h0
    obtain rfl : zs = [] := List.eq_nil_of_length_eq_zero hz
    clear h hz hm
    go_enter Try.func57, Try.ntmps57
    go_wp2
    refine wp_loop_rounds 1 ?_
    rw [rounds_succ]
    go_wp2
    go_ret
    exact ⟨rfl, Same.refl _⟩
  · exact (snodes_any a len cap zs w h hz h0 hm).mono fun e w' ⟨he, hs⟩ => ⟨by rw [he, ← hz]; rfl, hs⟩
theorem skys_as (v : Bool) (a : Option Addr) (len cap : Nat) (zs : List Int) (w : World) (h : IntsAt w a zs) (hz : zs.length = len) (hm : len ≤ maxLen) (hv : kyB zs = v) :
    Calls Try.prog 57 #[.slice a len cap] w fun e w' => e = .returned (.bool v) ∧ Same w w' := by subst hv; exact skys_any a len cap zs w h hz hm
theorem slvs_as (v : Bool) (a : Option Addr) (len cap : Nat) (L : List Ls) (w : World) (h : LsAt w a L) (hz : L.length = len) (hm : len ≤ maxLen) (hv : lvB L = v) :
    Calls Try.prog 30 #[.slice a len cap] w fun e w' => e = .returned (.bool v) ∧ Same w w' := by subst hv; exact slvs_any a len cap L w h hz hm

set_option maxHeartbeats 1000000 in
theorem sscv_any (a : Option Addr) (n cap : Nat) (s : Sc) (w : World) (h : IntsAt w a s.t) (hz : s.t.length = n) (hm : n ≤ maxLen) :
    Calls Try.prog 34 #[.agg #[.int .i64 s.x, .slice a n cap]] w fun e w' => e = .returned (.bool (scB s)) ∧ Below w.heap.size w w' := by
  have HZ := Lib.hid hz
  have HM := Lib.hid hm
  unfold maxLen at hm
  obtain ⟨x, ts⟩ := s
  simp only at *
  obtain ⟨W, hW⟩ : ∃ W, W = w.alloc (.cells #[.int .i64 x, .slice a n cap] 26) := ⟨_, rfl⟩
  have hB : Below w.heap.size w W := by rw [hW]; exact alB w _
  have hh : W.heap[w.heap.size]? = some (.cells #[.int .i64 x, .slice a n cap] 26 (0, 0)) := by rw [hW]; exact heap_alloc_new w _
  have HC : Hid (∀ u, Same W u → u.cell? ⟨w.heap.size, 0, none⟩ = some (.int .i64 x) ∧ u.cell? ⟨w.heap.size, 1, none⟩ = some (.slice a n cap)) := fun u hu => by
    obtain ⟨h1, h2⟩ := cell2s hh
    exact ⟨(hu.cell _).trans h1, (hu.cell _).trans h2⟩
  have HI := Lib.hid (h.keepB hB (Nat.le_refl _))
  have HB := Lib.hid hB
  have HW := Lib.hid hW
  clear hh hW hB h hz
  go_enter Try.func34, Try.ntmps34
  go_wp2_with fail
  rw [← HW.out]
  go_wp2
  go_loopw [3] (fun iv wr => ∃ k : Nat, k ≤ n ∧ iv = .int .i64 k ∧ Hid (∀ j, j < k → gt ts j < x) ∧ Same W wr) (fun iv _ => n - (intOf iv).toNat)
  case atStart => exact ⟨0, by omega, rfl, fun j hj => by omega, Same.refl _⟩
  case round =>
    obtain ⟨k, hk, rfl, HA, hs⟩ := hrel
    obtain ⟨c0, c1⟩ := HC.out _ hs
    by_cases hlt : k < n
    · obtain ⟨b, off, rfl, hb0, hcells⟩ : ∃ b off, a = some ⟨b, off, none⟩ ∧ b < wr.heap.size ∧ ∀ i, i < ts.length → wr.cell? ⟨b, off + i, none⟩ = some (.int .i64 (gt ts i)) := by
        rcases HI.out.same hs with h0 | h0
        · have := HZ.out; rw [h0] at this; simp at this; omega
        · exact h0
      have hc := hcells k (by rw [HZ.out]; exact hlt)
      have k0 : (0 : Int) ≤ (k : Int) := by omega
      have k1 : (k : Int) < (n : Int) := by omega
      clear hcells
      by_cases hge : x ≤ gt ts k
      · have HR : Hid (scB ⟨x, ts⟩ = false) := toldB_no (s := ⟨x, ts⟩) (by show k < ts.length; rw [HZ.out]; exact hlt) hge
        go_wp2_with fail
        go_quiet (fail)
        go_wp2
        go_ret
        exact ⟨ret_bool HR.out.symm, HB.out.trans ((hs.drewN _).below _)⟩
      · have HX : Hid (gt ts k < x) := by show _ < _; omega
        go_wp2_with fail
        go_quiet (fail)
        go_wp2
        go_roundw
        case rel => exact ⟨k + 1, by omega, by go_num, fun j hj => by rcases Nat.lt_or_ge j k with h' | h'; exact HA.out j h'; obtain rfl : j = k := (by omega); exact HX.out, hs.drewN _⟩
        case measure => simp [intOf]; omega
    · have HT : Hid (toldB ⟨x, ts⟩ = true) := toldB_yes (s := ⟨x, ts⟩) (fun j hj => HA.out j (by rw [HZ.out] at hj; omega))
      have hge : (n : Int) ≤ (k : Int) := by omega
      clear hlt
      cases hq : decide (0 ≤ x ∧ x ≤ 64)
      · have HR : Hid (scB ⟨x, ts⟩ = false) := by show _ = _; simp only [scB, hq, Bool.and_false, Bool.false_and]
        go_wp2_with fail
        refine (in_any x 0 64 wr).mono ?_
        rintro e w' ⟨rfl, rfl⟩
        rw [hq]
        go_wp2
        go_ret
        exact ⟨ret_bool HR.out.symm, HB.out.trans (hs.below _)⟩
      · have HR : Hid (scB ⟨x, ts⟩ = kyB ts) := by show _ = _; simp only [scB, hq, HT.out, Bool.true_and]
        go_wp2_with fail
        refine (in_any x 0 64 wr).mono ?_
        rintro e w' ⟨rfl, rfl⟩
        rw [hq]
        clear hq
        go_wp2_with fail
        refine (skys_any a n cap ts wr (HI.out.same hs) HZ.out HM.out).mono ?_
        rintro e w2 ⟨rfl, hs2⟩
        go_wp2
        go_ret
        exact ⟨ret_bool HR.out.symm, HB.out.trans ((hs.below _).trans (hs2.below _))⟩
theorem sscv_as (v : Bool) (a : Option Addr) (n cap : Nat) (s : Sc) (w : World) (h : IntsAt w a s.t) (hz : s.t.length = n) (hm : n ≤ maxLen) (hv : scB s = v) :
    Calls Try.prog 34 #[.agg #[.int .i64 s.x, .slice a n cap]] w fun e w' => e = .returned (.bool v) ∧ Below w.heap.size w w' := by subst hv; exact sscv_any a n cap s w h hz hm

set_option maxHeartbeats 1000000 in
theorem sdone_any (a : Option Addr) (n cap : Nat) (s : Sc) (w : World) (h : IntsAt w a s.t) (hz : s.t.length = n) (hm : n ≤ maxLen) :
    Calls Try.prog 24 #[.agg #[.int .i64 s.x, .slice a n cap]] w fun e w' => e = .returned (.bool (doneB s)) ∧ Below w.heap.size w w' := by
  have HZ := Lib.hid hz
  have HM := Lib.hid hm
  obtain ⟨x, ts⟩ := s
  simp only at *
  obtain ⟨W, hW⟩ : ∃ W, W = w.alloc (.cells #[.int .i64 x, .slice a n cap] 26) := ⟨_, rfl⟩
  have hB : Below w.heap.size w W := by rw [hW]; exact alB w _
  have hh : W.heap[w.heap.size]? = some (.cells #[.int .i64 x, .slice a n cap] 26 (0, 0)) := by rw [hW]; exact heap_alloc_new w _
  have hs1 : w.heap.size < W.heap.size := by rw [hW]; simp
  have HC : Hid (∀ u, Below W.heap.size W u → u.cell? ⟨w.heap.size, 0, none⟩ = some (.int .i64 x)) := fun u hu => (hu.cell (p := ⟨w.heap.size, 0, none⟩) hs1).trans (cell2s hh).1
  have HI := Lib.hid (h.keepB hB (Nat.le_refl _))
  have HB := Lib.hid hB
  have HW := Lib.hid hW
  obtain ⟨c0, c1⟩ := cell2s hh
  clear hh hW hB h hz hm hs1
  cases hv : scB ⟨x, ts⟩
  · have HV := Lib.hid hv
    have HR : Hid (doneB ⟨x, ts⟩ = false) := by show _ = _; simp only [doneB, hv, Bool.false_and]
    clear hv
    go_enter Try.func24, Try.ntmps24
    go_wp2_with fail
    rw [← HW.out]
    go_wp2_with fail
    refine (sscv_as false a n cap ⟨x, ts⟩ W HI.out HZ.out HM.out HV.out).mono ?_
    rintro e w2 ⟨rfl, hb2⟩
    go_wp2
    go_ret
    exact ⟨ret_bool HR.out.symm, HB.out.trans (hb2.mono HB.out.size)⟩
  · have HV := Lib.hid hv
    have HR : Hid (doneB ⟨x, ts⟩ = (x == 64)) := by show _ = _; simp only [doneB, hv, Bool.true_and]; rw [Bool.eq_iff_iff]; simp
    clear hv
    go_enter Try.func24, Try.ntmps24
    go_wp2_with fail
    rw [← HW.out]
    go_wp2_with fail
    refine (sscv_as true a n cap ⟨x, ts⟩ W HI.out HZ.out HM.out HV.out).mono ?_
    rintro e w2 ⟨rfl, hb2⟩
    have hc := HC.out w2 hb2
    clear c0 c1
    go_wp2
    go_ret
    exact ⟨ret_bool HR.out.symm, HB.out.trans (hb2.mono HB.out.size)⟩
end Go.Proofs.Ytenhaccdiamagaa
