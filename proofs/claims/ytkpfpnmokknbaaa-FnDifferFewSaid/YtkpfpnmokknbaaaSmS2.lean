/- Trees of sums: the model's three functions. -/
import Derived.Test.YtkpfpnmokknbaaaSmS
namespace Go.Proofs.Ytkpfpnmokknbaaa
open Go.RowKit
set_option linter.unusedVariables false

attribute [local go_sem ↓] Go.wp_at_zero Go.wp_at_succ

theorem tree_vals {zs : List Int} (h1 : zs.all sB = true) (h2 : zs.length = 31) : treeB zs = decide (bld (zs.drop 15) = zs) := by
  have : (zs.drop 15).all sB = true := by
    rw [List.all_eq_true] at h1 ⊢
    intro x hx
    exact h1 x (List.mem_of_mem_drop hx)
  simp [treeB, h2, this]
theorem tree_novals {zs : List Int} (h : (zs.all sB && decide (zs.length = 31)) = false) : treeB zs = false := by
  cases e : treeB zs
  · rfl
  · rw [treeB_all e, (treeB_yes e).1] at h; exact absurd h (by decide)

set_option maxHeartbeats 2000000 in
theorem stree_any (a : Option Addr) (len cap : Nat) (zs : List Int) (w : World) (h : IntsAt w a zs) (hz : zs.length = len) (hm : len ≤ maxLen) (hcap : len ≤ cap) :
    Calls Try.prog 40 #[.slice a len cap] w fun e w' => e = .returned (.bool (treeB zs)) ∧ Below w.heap.size w w' := by
  have HI := Lib.hid h
  have HZ := Lib.hid hz
  have HM := Lib.hid hm
  clear h hm
  rcases bcase (zs.all sB && decide (len = 31)) with hv | hv
  · have hv' : zs.all sB = true ∧ len = 31 := by simpa using hv
    obtain ⟨hs, rfl⟩ := hv'
    have HT := Lib.hid (tree_vals hs hz)
    have HS0 := Lib.hid hs
    have HS : Hid ((zs.drop 15).all sB = true) := by
      show _ = _
      rw [List.all_eq_true] at hs ⊢
      intro x hx
      exact hs x (List.mem_of_mem_drop hx)
    have hsrc : ∃ b off, a = some ⟨b, off, none⟩ ∧ b < w.heap.size ∧ ∀ i, i < zs.length → w.cell? ⟨b, off + i, none⟩ = some (.int .i64 (gt zs i)) := by
      rcases HI.out with h0 | ⟨b, off, ha, hb, hc⟩
      · have := HZ.out; rw [h0] at this; simp at this
      · exact ⟨b, off, ha, hb, hc⟩
    obtain ⟨b, off, rfl, hbw, hcells⟩ := hsrc
    have HC := Lib.hid hcells
    have hc15 : ¬ cap = 15 := by omega
    have hc15' : (15 : Int) ≤ (cap : Int) := by omega
    have HI15 : Hid (IntsAt w (some ⟨b, off + 15, none⟩) (zs.drop 15)) := HI.out.drop 15
    have HL15 : Hid ((zs.drop 15).length = 16) := by show _ = _; rw [List.length_drop, HZ.out]
    clear hz hcap hs hv hcells
    go_enter Try.func40, Try.ntmps40
    go_wp2_with fail
    refine (svalues_as true (some ⟨b, off, none⟩) 31 cap zs 31 w HI.out HZ.out HM.out (by rw [HS0.out]; rfl)).mono ?_
    rintro e w1 ⟨rfl, rfl⟩
    go_wp2_with fail
    refine (sbuild_any (some ⟨b, off + 15, none⟩) (cap - 15) (zs.drop 15) w1 HI15.out HL15.out HS.out).mono ?_
    rintro e w2 ⟨g, gc, rfl, ho, hb2⟩
    have hbl := bld_len (zs.drop 15)
    rw [hbl]
    obtain ⟨ys, hy⟩ : ∃ ys, ys = bld (zs.drop 15) := ⟨_, rfl⟩
    rw [← hy] at ho hbl
    have HY := Lib.hid hy
    have HYI := Lib.hid ho.ints
    have HYL := Lib.hid hbl
    have hgl := ho.lt
    have HB2 := Lib.hid hb2
    have hcy : ∀ i, i < 31 → w2.cell? ⟨g, 0 + i, none⟩ = some (.int .i64 (gt ys i)) := by
      rcases ho.ints with h0 | ⟨b', o', ha, hb', hc⟩
      · rw [h0] at hbl; simp at hbl
      · injection ha with ha; injection ha with ha ho'; subst ha ho'
        intro i hi
        exact hc i (by rw [hbl]; exact hi)
    have HCY := Lib.hid hcy
    clear ho hy hbl hb2 hcy hgl
    go_wp2
    go_loopw [4] (fun i wr => ∃ k : Nat, k ≤ 31 ∧ i = .int .i64 k ∧ Same w2 wr ∧ ∀ j, j < k → gt ys j = gt zs j) (fun i _ => 31 - (intOf i).toNat)
    case atStart => exact ⟨0, by omega, rfl, Same.refl _, fun j hj => absurd hj (by omega)⟩
    case round =>
      obtain ⟨k, hk, rfl, hsame, hall⟩ := hrel
      have HA := Lib.hid hall
      clear hall
      by_cases hlt : k < 31
      · have c1 : wr.cell? ⟨g, k, none⟩ = some (.int .i64 (gt ys k)) := by
          have := (hsame.cell _).trans (HCY.out k hlt)
          rwa [Nat.zero_add] at this
        have c2 : wr.cell? ⟨b, off + k, none⟩ = some (.int .i64 (gt zs k)) := (hsame.cell _).trans ((HB2.out.cell (p := ⟨b, off + k, none⟩) hbw).trans (HC.out k (by rw [HZ.out]; exact hlt)))
        obtain ⟨x, hx⟩ : ∃ x, x = gt ys k := ⟨_, rfl⟩
        obtain ⟨y, hy⟩ : ∃ y, y = gt zs k := ⟨_, rfl⟩
        rw [← hx] at c1
        rw [← hy] at c2
        have HEX := Lib.hid hx
        have HEY := Lib.hid hy
        have hlt' : (k : Int) < 31 := by omega
        have h0' : (0 : Int) ≤ (k : Int) := by omega
        clear hx hy
        rcases bcase (x != y) with hv | hv
        · have hne' : Hid (x ≠ y) := by show x ≠ y; simpa using hv
          go_wp2
          go_quiet (fail)
          go_wp2
          go_ret
          refine ⟨ret_bool ?_, HB2.out.trans ((hsame.drewN _).below _)⟩
          rw [HT.out, ← HY.out]
          symm
          rw [decide_eq_false_iff_not]
          intro e
          apply hne'.out
          rw [HEX.out, HEY.out, e]
        · have heq : Hid (x = y) := by show x = y; simpa using hv
          go_wp2
          go_quiet (fail)
          go_wp2
          go_roundw
          case rel =>
            refine ⟨k + 1, by omega, by go_num, hsame.drewN _, fun j hj => ?_⟩
            rcases Nat.lt_or_ge j k with e | e
            · exact HA.out j e
            · have : j = k := by omega
              subst this; rw [← HEX.out, ← HEY.out, heq.out]
          case measure => simp [intOf]; omega
      · have hkl : k = 31 := by omega
        have HK := Lib.hid hkl
        clear hkl
        go_wp2
        go_ret
        refine ⟨ret_bool ?_, HB2.out.trans (hsame.below _)⟩
        rw [HT.out, ← HY.out]
        symm
        rw [decide_eq_true_eq]
        exact list_gt (by rw [HYL.out, HZ.out]) (fun j hj => HA.out j (by have := HK.out; have := HYL.out; omega))
  · have hf : treeB zs = false := tree_novals (by rw [hz]; exact hv)
    have HF := Lib.hid hf
    have HV := Lib.hid hv
    clear hz hcap hv hf
    go_enter Try.func40, Try.ntmps40
    go_wp2_with fail
    refine (svalues_as false a len cap zs 31 w HI.out HZ.out HM.out HV.out).mono ?_
    rintro e w1 ⟨rfl, rfl⟩
    go_wp2
    go_ret
    exact ⟨ret_bool HF.out.symm, Below.refl _ _⟩

set_option maxHeartbeats 1000000 in
theorem ssumsof_any (a : Option Addr) (len cap : Nat) (zs : List Int) (w : World) (h : IntsAt w a zs) (hz : zs.length = len) (hm : len ≤ maxLen) :
    Calls Try.prog 17 #[.slice a len cap] w (NewInts (sumsL zs) w) := by
  have HI := Lib.hid h
  have HZ := Lib.hid hz
  have HM := Lib.hid hm
  clear h hm
  have hlv : leavesB zs = (zs.all sB && decide (len = 16)) := by rw [leavesB, hz, Bool.and_comm]
  rcases bcase (zs.all sB && decide (len = 16)) with hv | hv
  · have hv' : zs.all sB = true ∧ len = 16 := by simpa using hv
    obtain ⟨hs, rfl⟩ := hv'
    have He : Hid (sumsL zs = bld zs) := by show _ = _; unfold sumsL; rw [leavesB_mk hz hs]; rfl
    have HS := Lib.hid hs
    clear hv hs hlv hz
    go_enter Try.func17, Try.ntmps17
    go_wp2_with fail
    refine (svalues_as true a 16 cap zs 16 w HI.out HZ.out HM.out (by rw [HS.out]; rfl)).mono ?_
    rintro e w1 ⟨rfl, rfl⟩
    go_wp2_with fail
    refine (sbuild_any a cap zs w1 HI.out HZ.out HS.out).mono ?_
    rintro e w2 ⟨g, gc, rfl, ho, hb2⟩
    have HO := Lib.hid ho
    clear ho
    go_wp2
    go_ret
    rw [He.out]
    exact ⟨g, gc, rfl, HO.out, hb2⟩
  · have He : Hid (sumsL zs = []) := by show _ = _; unfold sumsL; rw [hlv, hv]; rfl
    have HV := Lib.hid hv
    clear hv hlv hz
    go_enter Try.func17, Try.ntmps17
    go_wp2_with fail
    refine (svalues_as false a len cap zs 16 w HI.out HZ.out HM.out HV.out).mono ?_
    rintro e w1 ⟨rfl, rfl⟩
    go_wp2
    go_ret
    rw [He.out]
    exact new_of_sofar (sofar_new w1 _ rfl)

end Go.Proofs.Ytkpfpnmokknbaaa
