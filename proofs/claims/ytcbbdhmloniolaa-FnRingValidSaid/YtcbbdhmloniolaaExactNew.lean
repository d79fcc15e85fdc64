/- The walk of the exact law of RingNew. -/
import Derived.Test.YtcbbdhmloniolaaExactRing
import Derived.Test.YtcbbdhmloniolaaNewR2
namespace Go.Proofs.Ytcbbdhmloniolaa
open Go.RowKit
set_option linter.unusedVariables false

/-- a new ring of the model, and a bool -/
def NewRS (r : List Nd) (ok : Bool) (w : World) (e : Ending) (w' : World) : Prop :=
  ∃ g cap, e = .returned (.tuple #[.slice (some ⟨g, 0, none⟩) r.length cap, .bool ok]) ∧ RingAt w' (some ⟨g, 0, none⟩) r ∧ r.length ≤ cap ∧ cap ≤ maxLen ∧ Below w.heap.size w w'
theorem svalid_as (v : Bool) (a : Option Addr) (len cap : Nat) (zs : List Int) (w : World) (h : IntsAt w a zs) (hz : zs.length = len) (hm : len ≤ maxLen) (hv : vldB zs = v) :
    Calls Try.prog 92 #[.slice a len cap] w fun e w' => e = .returned (.bool v) ∧ Same w w' := by subst hv; exact svalid_any a len cap zs w h hz hm

set_option maxHeartbeats 1000000 in
theorem srnew_any (a : Option Addr) (len cap : Nat) (zs : List Int) (w : World) (h : IntsAt w a zs) (hz : zs.length = len) (hm : len ≤ maxLen) :
    Calls Try.prog 79 #[.slice a len cap] w (NewRS (newR zs) (newB zs) w) := by
  have HI := Lib.hid h
  have HZ := Lib.hid hz
  have HM := Lib.hid hm
  clear h hm
  have HN : Hid (∀ w1 : World, Same w w1 → ∀ cs, NewRS [] false w (.returned (.tuple #[.slice (some ⟨w1.heap.size, 0, none⟩) 0 0, .bool false])) (w1.alloc (.cells cs 28))) := fun w1 hs cs =>
    ⟨w1.heap.size, 0, rfl, .inl rfl, Nat.le_refl _, by unfold maxLen; omega, (hs.below w.heap.size).alloc (by rw [hs.heap]; exact Nat.le_refl _) _⟩
  cases hv : vldB zs
  · have He : Hid (newB zs = false) := by show newB zs = false; simp [newB, hv]
    have HV := Lib.hid hv
    clear hv hz
    go_enter Try.func79, Try.ntmps79
    go_wp2_with fail
    refine (svalid_as false a len cap zs w HI.out HZ.out HM.out HV.out).mono ?_
    rintro e w1 ⟨rfl, hs1⟩
    go_wp2
    go_ret2
    rw [newR, He.out]
    exact HN.out w1 hs1 _
  have HV := Lib.hid hv
  have h10 := (vld_len hv).2
  rw [hz] at h10
  by_cases h3 : 3 ≤ len
  rotate_left
  · have He : Hid (newB zs = false) := by show newB zs = false; simp [newB, hv, hz]; omega
    have d3 : decide ((len : Int) < 3) = true := by simp; omega
    clear hv hz
    go_enter Try.func79, Try.ntmps79
    go_wp2_with fail
    refine (svalid_as true a len cap zs w HI.out HZ.out HM.out HV.out).mono ?_
    rintro e w1 ⟨rfl, hs1⟩
    go_wp2
    go_ret2
    rw [newR, He.out]
    exact HN.out w1 hs1 _
  have He : Hid (newB zs = true) := by show newB zs = true; simp [newB, hv, hz, h3]
  have d3 : decide ((len : Int) < 3) = false := by simp; omega
  clear hv hz
  go_enter Try.func79, Try.ntmps79
  go_wp2_with fail
  refine (svalid_as true a len cap zs w HI.out HZ.out HM.out HV.out).mono ?_
  rintro e w1 ⟨rfl, hs1⟩
  have hb1 : Below w.heap.size w w1 := hs1.below _
  go_wp2_with fail
  refine (sideal_any a len cap zs w1 (HI.out.keepB hb1 (Nat.le_refl _)) HZ.out h10).mono ?_
  rintro e w2 ⟨g, gc, rfl, hr2, hl2, hm2, hb2⟩
  have HR2 := Lib.hid hr2
  have HL2 := Lib.hid (And.intro hl2 hm2)
  clear hr2 hl2 hm2
  go_wp2
  go_ret2
  rw [newR, He.out, if_pos rfl]
  exact ⟨g, gc, rfl, HR2.out, HL2.out.1, HL2.out.2, hb1.trans (hb2.mono hb1.size)⟩

theorem idR_sum (zs : List Int) {k : Nat} (h : k ≤ zs.length) : sumA (idR zs) k = 2 * k := by
  induction k with
  | zero => rfl
  | succ k ih => rw [sumA, ih (by omega), idR_at (by omega)]; simp [idNd]; omega
theorem newR_sz (zs : List Int) : szR (newR zs) ≤ 1048576 := by
  unfold newR
  split
  · rename_i h
    have := (vld_len (zs := zs) (by unfold newB at h; simp at h; exact h.1)).2
    unfold szR; rw [idR_len, idR_sum zs (Nat.le_refl _)]; omega
  · simp [szR, sumA]

end Go.Proofs.Ytcbbdhmloniolaa
