/- The walk of the exact law of RingNew. -/
import Derived.Test.YtfhjmfcdogpbeaaExactRing
import Derived.Test.YtfhjmfcdogpbeaaNewR2
namespace Go.Proofs.Ytfhjmfcdogpbeaa
open Go.RowKit
set_option linter.unusedVariables false

/-- a new ring of the model, and a bool -/
def NewRS (r : List Nd) (ok : Bool) (w : World) (e : Ending) (w' : World) : Prop :=
  ∃ g cap, e = .returned (.tuple #[.slice (some ⟨g, 0, none⟩) r.length cap, .bool ok]) ∧ RingAt w' (some ⟨g, 0, none⟩) r ∧ r.length ≤ cap ∧ cap ≤ maxLen ∧ Below w.heap.size w w'
theorem svalid_as (v : Bool) (a : Option Addr) (len cap : Nat) (zs : List Int) (w : World) (h : IntsAt w a zs) (hz : zs.length = len) (hm : len ≤ maxLen) (hv : vldB zs = v) :
    Calls Try.prog 65 #[.slice a len cap] w fun e w' => e = .returned (.bool v) ∧ Same w w' := by subst hv; exact svalid_any a len cap zs w h hz hm

set_option maxHeartbeats 1000000 in
theorem srnew_any (a : Option Addr) (len cap : Nat) (zs : List Int) (w : World) (h : IntsAt w a zs) (hz : zs.length = len) (hm : len ≤ maxLen) :
    Calls Try.prog 40 #[.slice a len cap] w (NewRS (newR zs) (newB zs) w) := by
  have HI := Lib.hid h
  have HZ := Lib.hid hz
  have HM := Lib.hid hm
  clear h hm
  have HN : Hid (∀ w1 : World, Same w w1 → ∀ cs, NewRS [] false w (.returned (.tuple #[.slice (some ⟨w1.heap.size, 0, none⟩) 0 0, .bool false])) (w1.alloc (.cells cs 30))) := fun w1 hs cs =>
    ⟨w1.heap.size, 0, rfl, .inl rfl, Nat.le_refl _, by unfold maxLen; omega, (hs.below w.heap.size).alloc (by rw [hs.heap]; exact Nat.le_refl _) _⟩
  cases hv : vldB zs
  · have He : Hid (newB zs = false) := by show newB zs = false; simp [newB, hv]
    have HV := Lib.hid hv
    clear hv hz
    go_enter Try.func40, Try.ntmps40
    go_wp2_with fail
    refine (svalid_as false a len cap zs w HI.out HZ.out HM.out HV.out).mono ?_
    rintro e w1 ⟨rfl, hs1⟩
    go_wp2
    go_ret2
    rw [newR, He.out]
    exact HN.out w1 hs1 _
  have HV := Lib.hid hv
  have h10 := (vld_len hv).2
  rw [hz] at h10
  by_cases h3 : 3 ≤ len
  rotate_left
  · have He : Hid (newB zs = false) := by show newB zs = false; simp [newB, hv, hz]; omega
    have d3 : decide ((len : Int) < 3) = true := by simp; omega
    clear hv hz
    go_enter Try.func40, Try.ntmps40
    go_wp2_with fail
    refine (svalid_as true a len cap zs w HI.out HZ.out HM.out HV.out).mono ?_
    rintro e w1 ⟨rfl, hs1⟩
    go_wp2
    go_ret2
    rw [newR, He.out]
    exact HN.out w1 hs1 _
  have He : Hid (newB zs = true) := by show newB zs = true; simp [newB, hv, hz, h3]
  have d3 : decide ((len : Int) < 3) = false := by simp; omega
  clear hv hz
  go_enter Try.func40, Try.ntmps40
  go_wp2_with fail
  refine (svalid_as true a len cap zs w HI.out HZ.out HM.out HV.out).mono ?_
  rintro e w1 ⟨rfl, hs1⟩
  have hb1 : Below w.heap.size w w1 := hs1.below _
  go_wp2_with fail
  refine (sideal_any a len cap zs w1 (HI.out.keepB hb1 (Nat.le_refl _)) HZ.out h10).mono ?_
  rintro e w2 ⟨g, gc, rfl, hr2, hl2, hm2, hb2⟩
  have HR2 := Lib.hid hr2
  have HL2 := Lib.hid (And.intro hl2 hm2)
  clear hr2 hl2 hm2
  go_wp2
  go_ret2
  rw [newR, He.out, if_pos rfl]
  exact ⟨g, gc, rfl, HR2.out, HL2.out.1, HL2.out.2, hb1.trans (hb2.mono hb1.size)⟩

theorem idR_sum (zs : List Int) {k : Nat} (h : k ≤ zs.length) : sumA (idR zs) k = 2 * k := by
  induction k with
  | zero => rfl
  | succ k ih => rw [sumA, ih (by omega), idR_at (by omega)]; simp [idNd]; omega
theorem newR_sz (zs : List Int) : szR (newR zs) ≤ 1048576 := by
  unfold newR
  split
  · rename_i h
    have := (vld_len (zs := zs) (by unfold newB at h; simp at h; exact h.1)).2
    unfold szR; rw [idR_len, idR_sum zs (Nat.le_refl _)]; omega
  · simp [szR, sumA]

set_option maxHeartbeats 2000000 in
theorem exRingNew (a : Option Addr) (len cap : Nat) (zs : List Int) (w : World) (h : IntsAt w a zs) (hz : zs.length = len) (hmx : len ≤ maxLen) :
    Calls Try.prog 15 #[.slice a len cap] w fun e w' => e = .returned (.bool true) ∧ Below w.heap.size w w' := by
  by_cases hl : 1048576 < len
  · unfold maxLen at hmx
    clear hz h
    go_enter Try.func15, Try.ntmps15
    go_wp2
    go_ret
    exact ⟨rfl, Below.refl _ _⟩
  subst hz
  have HI := Lib.hid h
  have HSZ := Lib.hid (newR_sz zs)
  have HM := Lib.hid hmx
  have hln : zs.length ≤ 1048576 := by omega
  clear h hmx
  go_enter Try.func15, Try.ntmps15
  go_wp2_with fail
  refine (toInts_any a _ cap zs w HI.out rfl hln).mono ?_
  rintro e w1 ⟨rfl, hr1, hb1, hs1⟩
  have HR1 := Lib.hid hr1.ints
  clear hr1 hs1
  go_wp2_with fail
  refine (srnew_any _ _ _ zs w1 HR1.out rfl HM.out).mono ?_
  rintro e w2 ⟨gw, cw, rfl, hw2, _, _, hb2⟩
  have HW := Lib.hid hw2
  have hB2 : Below w.heap.size w w2 := hb1.trans (hb2.mono hb1.size)
  clear hw2
  go_wp2_with fail
  refine (toInts_any a _ cap zs w2 (HI.out.keepB hB2 (Nat.le_refl _)) rfl hln).mono ?_
  rintro e w3 ⟨rfl, hr3, hb3, hs3⟩
  have HX3 := Lib.hid hr3
  have HS3 := Lib.hid hs3
  clear hr3 hs3
  go_wp2_with fail
  refine (rnew_any _ _ _ zs w3 HX3.out.ints rfl HM.out).mono ?_
  rintro e w4 ⟨N, cg, F, rfl, ho4, _, _, hb4⟩
  have HO4 := Lib.hid ho4
  clear ho4
  have hB24 : Below w2.heap.size w2 w4 := hb3.trans (hb4.mono hb3.size)
  have s34 := hb4.size
  go_wp2_with fail
  refine (eqNodes_same _ _ _ _ _ (newR zs) w4 HO4.out.ring (HW.out.keepB hB24 (Nat.le_refl _)) rfl (small_of HSZ.out)).mono ?_
  rintro e w5 ⟨rfl, hb5⟩
  have hB25 : Below w2.heap.size w2 w5 := hB24.trans (hb5.mono hB24.size)
  have v1 : (!newB zs == newB zs) = false := by simp
  go_wp2_with fail
  refine (toInts_any a _ cap zs w5 (HI.out.keepB (hB2.trans (hB25.mono hB2.size)) (Nat.le_refl _)) rfl hln).mono ?_
  rintro e w6 ⟨rfl, hr6, hb6, hs6⟩
  have HR6 := Lib.hid hr6.ints
  clear hr6 hs6
  have hB46 : Below w4.heap.size w4 w6 := hb5.trans (hb6.mono hb5.size)
  have hB36 : Below w3.heap.size w3 w6 := hb4.trans (hB46.mono s34)
  go_wp2_with fail
  refine (eqInts_same _ _ _ _ _ zs w6 (HX3.out.ints.keepB hB36 (Nat.le_refl _)) HR6.out rfl hln).mono ?_
  rintro e w7 ⟨rfl, hs7⟩
  have hB47 : Below w4.heap.size w4 w7 := hB46.trans (hs7.below _)
  have hB37 : Below w3.heap.size w3 w7 := hB36.trans (hs7.below _)
  have hX7 : ∃ cs, w7.heap[w2.heap.size]? = some (.cells cs 3 (0, 0)) ∧ zs.length ≤ cs.size := by
    obtain ⟨c, h1, h2, _⟩ := HX3.out
    exact ⟨c, (hB37.block _ (by have := HS3.out; omega)).trans h1, by omega⟩
  have HX7 := Lib.hid hX7
  clear hX7
  go_wp2_with fail
  refine (markInts_any w2.heap.size _ _ 1 w7 HX7.out (by omega) (by omega) hln).mono ?_
  rintro e w8 ⟨rfl, hm8⟩
  have hk8 := hm8.1
  clear hm8
  have hB28 : Below w2.heap.size w2 w8 := (hb3.trans (hB37.mono hb3.size)).trans (hk8.below (Nat.le_refl _))
  have HO8 : Hid (RingOwn w8 w3.heap.size w4.heap.size N (newR zs) F) := HO4.out.kept (fun g h1 h2 => (hk8.block g (by have := HS3.out; omega)).trans (hB47.block g h2))
  have k0 : decide ((1 : Int) + (zs.length : Int) < 0) = false := by simp; omega
  go_wp2_with fail
  refine (eqNodes_same _ _ _ _ _ (newR zs) w8 HO8.out.ring (HW.out.keepB hB28 (Nat.le_refl _)) rfl (small_of HSZ.out)).mono ?_
  rintro e w9 ⟨rfl, hb9⟩
  have hB29 : Below w2.heap.size w2 w9 := hB28.trans (hb9.mono hB28.size)
  have s48 : w4.heap.size ≤ w8.heap.size := by have := hB47.size; have := hk8.size; omega
  have HO9 : Hid (RingOwn w9 w3.heap.size w4.heap.size N (newR zs) F) := HO8.out.kept (fun g h1 h2 => hb9.block g (by omega))
  go_wp2_with fail
  refine (markNodes_any _ _ _ _ _ (newR zs) F 1 w9 HO9.out rfl HSZ.out (by omega) (by omega)).mono ?_
  rintro e w10 ⟨rfl, ho10, hk10⟩
  have HO10 := Lib.hid ho10
  clear ho10
  have hB210 : Below w2.heap.size w2 w10 := hB29.trans (hk10.below hb3.size)
  go_wp2_with fail
  refine (heldNodes_any _ _ _ (newR zs) 1 w10 HO10.out.ring rfl HSZ.out (by omega) (by omega)).mono ?_
  rintro e w11 ⟨rfl, hs11⟩
  have hB211 : Below w2.heap.size w2 w11 := hB210.trans (hs11.below _)
  have hB11 : Below w.heap.size w w11 := hB2.trans (hB211.mono hB2.size)
  have q0 : decide ((1 : Int) + (offR (newR zs) (newR zs).length : Int) < 0) = false := by simp; omega
  have q1 : (((1 : Int) + (offR (newR zs) (newR zs).length : Int)) != ((1 : Int) + (offR (newR zs) (newR zs).length : Int))) = false := by simp
  go_wp2_with fail
  refine (toInts_any a _ cap zs w11 (HI.out.keepB hB11 (Nat.le_refl _)) rfl hln).mono ?_
  rintro e w12 ⟨rfl, hr12, hb12, hs12⟩
  have HR12 := Lib.hid hr12.ints
  clear hr12 hs12
  go_wp2_with fail
  refine (rnew_any _ _ _ zs w12 HR12.out rfl HM.out).mono ?_
  rintro e w13 ⟨N2, cg2, F2, rfl, ho13, _, _, hb13⟩
  have HO13 := Lib.hid ho13
  clear ho13
  have hB1013 : Below w10.heap.size w10 w13 := (hs11.below _).trans ((hb12.mono (by have := hs11.below 0 |>.size; omega)).trans (hb13.mono (by have := hs11.below 0 |>.size; have := hb12.size; omega)))
  have hB213 : Below w2.heap.size w2 w13 := hB210.trans (hB1013.mono hB210.size)
  go_wp2_with fail
  refine (eqNodes_same _ _ _ _ _ (newR zs) w13 HO13.out.ring (HW.out.keepB hB213 (Nat.le_refl _)) rfl (small_of HSZ.out)).mono ?_
  rintro e w14 ⟨rfl, hb14⟩
  have hB1014 : Below w10.heap.size w10 w14 := hB1013.trans (hb14.mono hB1013.size)
  go_wp2_with fail
  refine (heldNodes_any _ _ _ (newR zs) 1 w14 (HO10.out.ring.keepB hB1014 (Nat.le_refl _)) rfl HSZ.out (by omega) (by omega)).mono ?_
  rintro e w15 ⟨rfl, hs15⟩
  go_wp2
  go_ret
  exact ⟨rfl, hB2.trans (((hB210.trans (hB1014.mono hB210.size)).mono hB2.size).trans (hs15.below _))⟩
end Go.Proofs.Ytfhjmfcdogpbeaa
