/- Drawing rings: a drawn step. -/
import Derived.Test.YtfhjmfcdogpbeaaIdealO2
namespace Go.Proofs.Ytfhjmfcdogpbeaa
open Go.RowKit
set_option linter.unusedVariables false

/-- a drawn safe ring, in blocks from base on -/
def DrewRing (q K base : Nat) (w : World) (e : Ending) (w' : World) : Prop :=
  ∃ N cap F r, e = .returned (.slice (some ⟨N, 0, none⟩) r.length cap) ∧ RingOwn w' base w'.heap.size N r F ∧ r.length ≤ cap ∧ cap ≤ maxLen ∧ safeB r = true ∧ Ready w' q K ∧ w.grownBy w' (some q)
theorem sel_safe {r : List Nd} {ok : Bool} {i : Int} {f : Nat → List Nd} (hl : liveB r i = true) (hok : ok = true) (hf : ∀ k, k < r.length → safeB (f k) = true) : safeB (selR r ok i f) = true := by
  rw [selR, hok, hl, if_pos rfl, if_pos rfl]; exact hf _ (idx_live hl).1
theorem join_safe {r : List Nd} {x y : Int} (h : arg3 r x y = true) : safeB (joinR r x y) = true := by
  rw [joinR, h, if_pos rfl]
  rcases bool_cases (joinB r x y) with hb | hb
  · rw [hb, if_neg (by simp)]; unfold arg3 at h; simp at h; exact h.1.1
  · rw [hb, if_pos rfl]; exact (join_pre h hb).2.2.2.2
theorem fail_safe {r : List Nd} {i : Int} (h : oneB r i = true) : safeB (failR r i) = true := by
  have hs := one_safe h
  rw [failR, h, if_pos rfl]
  split
  · rename_i hb
    obtain ⟨h1, h2⟩ := Bool.and_eq_true _ _ ▸ hb
    rw [safeB, cut_rv (safe_rv hs) (idx_live h1).1, h2]; rfl
  · exact hs
theorem own_kept {w w' : World} {q base N : Nat} {r : List Nd} {F : Nat → Nat} (h : RingOwn w base w.heap.size N r F) (hk : Kept q w w') (hq : q < base) : RingOwn w' base w'.heap.size N r F := by
  rw [hk.size]; exact h.kept (fun g h1 _ => hk.block g (by omega))
theorem own_pos {w : World} {lo hi N : Nat} {r : List Nd} {F : Nat → Nat} (h : RingOwn w lo hi N r F) {i : Nat} (hi' : i < r.length) : w.cell? ⟨N, i * 3, none⟩ = some (.int .i64 (gn r i).pos) := by
  obtain ⟨cs, hb, hc⟩ := h.row
  rw [cell_of_cells hb]; exact (hc i hi').1
theorem safe_three {r : List Nd} (h : safeB r = true) : 3 ≤ r.length := by
  obtain ⟨_, _, h3⟩ := (safe_iff r).1 h
  exact Nat.le_trans h3 (prTo_len r _)
theorem step_post {q K K' base N cap : Nat} {F : Nat → Nat} {r : List Nd} {w w3 w4 : World} (hg : w.grownBy w3 (some q)) (hr : Ready w3 q K') (hK : K ≤ K') (hb : base ≤ w.heap.size) (ho : RingOwn w4 w3.heap.size w4.heap.size N r F) (h1 : r.length ≤ cap) (h2 : cap ≤ maxLen) (hB : Below w3.heap.size w3 w4) (hs : safeB r = true) (hq : q < base) :
    ∀ n, n = r.length → DrewRing q K base w (.returned (.slice (some ⟨N, 0, none⟩) n cap)) w4 := fun n hn => by
  have hz := hg.size
  exact ⟨N, cap, F, r, by rw [hn], ho.wide (by omega) (Nat.le_refl _), h1, h2, hs, (hr.less hK).below hB (by omega), grown_trans hg ⟨hB.os, hB.tape, hB.output, hB.size, fun k hk _ => hB.block k hk⟩⟩

set_option maxHeartbeats 4000000 in
theorem step_any (q K base N cap : Nat) (F : Nat → Nat) (r : List Nd) (w : World) (hr : Ready w q (K + 4)) (ho : RingOwn w base w.heap.size N r F) (hq : q < base) (hs : safeB r = true) (hl : r.length ≤ cap) (hm : cap ≤ maxLen) :
    Calls Try.prog 80 #[.pointer (some ⟨q, 0, none⟩), .slice (some ⟨N, 0, none⟩) r.length cap] w (DrewRing q K base w) := by
  have h3 := safe_three hs
  have hv := safe_rv hs
  have h10 := rv_len hv
  have hbw : base ≤ w.heap.size := by have := ho.inN; omega
  have HR := Lib.hid hr
  have HO := Lib.hid ho
  have HS := Lib.hid hs
  have HV := Lib.hid hv
  have HM := Lib.hid hm
  have t0 : ((r.length : Int) == 0) = false := by rw [beq_eq_false_iff_ne]; omega
  clear hr ho hs hv hm
  go_enter Try.func80, Try.ntmps80
  go_wp2_with fail
  refine (pick_r q (K + 3) _ w HR.out (by omega) (by omega)).mono ?_
  rintro e w1 ⟨v1, hv0, hv1, rfl, hr1, hk1⟩
  obtain ⟨i, rfl⟩ := Int.eq_ofNat_of_zero_le hv0
  have hi : i < r.length := by omega
  have HO1 := Lib.hid (own_kept HO.out hk1 hq)
  have c1 := own_pos HO1.out hi
  have HR1 := Lib.hid hr1
  clear hr1
  go_wp2_with fail
  refine (pick_r q (K + 2) _ w1 HR1.out (by omega) (by omega)).mono ?_
  rintro e w2 ⟨v2, hv20, hv21, rfl, hr2, hk2⟩
  obtain ⟨j, rfl⟩ := Int.eq_ofNat_of_zero_le hv20
  have hj : j < r.length := by omega
  have HO2 := Lib.hid (own_kept HO1.out hk2 hq)
  have c2 := own_pos HO2.out hj
  have HR2 := Lib.hid hr2
  clear hr2 c1
  go_wp2_with fail
  refine (pick_r q (K + 1) 10 w2 HR2.out (by omega) (by omega)).mono ?_
  rintro e w3 ⟨v3, hv30, hv31, rfl, hr3, hk3⟩
  have HO3 := Lib.hid (own_kept HO2.out hk3 hq)
  have HR3 := Lib.hid hr3
  have hg3 : w.grownBy w3 (some q) := grown_trans hk1.grown (grown_trans hk2.grown hk3.grown)
  clear hr3 c2
  have hip := (nd_open HV.out hi).1
  have hjp := (nd_open HV.out hj).1
  have HLI := Lib.hid (live_at hi)
  have HLJ := Lib.hid (live_at hj)
  have HOK : Hid (oneB r (gn r i).pos = true) := by show _ = _; unfold oneB; rw [HS.out, (ptB_iff _).2 hip]; rfl
  have HPJ : Hid (ptB (gn r j).pos = true) := (ptB_iff _).2 hjp
  have HLR := Lib.hid hl
  generalize (gn r i).pos = x at *
  generalize (gn r j).pos = y at *
  have hcase : v3 = 0 ∨ v3 = 1 ∨ v3 = 2 ∨ v3 = 3 ∨ v3 = 4 ∨ v3 = 5 ∨ v3 = 6 ∨ v3 = 7 ∨ v3 = 8 ∨ v3 = 9 := by omega
  clear hv30 hv31 hv0 hv1 hv20 hv21 t0
  rcases hcase with rfl | rfl | rfl | rfl | rfl | rfl | rfl | rfl | rfl | rfl
  · go_wp2_with fail
    refine (pick_r q K 12 w3 HR3.out (by omega) (by omega)).mono ?_
    rintro e w5 ⟨v5, hv50, hv51, rfl, hr5, hk5⟩
    have HO5 := Lib.hid (own_kept HO3.out hk5 hq)
    have HR5 := Lib.hid hr5
    have hg5 : w.grownBy w5 (some q) := grown_trans hg3 hk5.grown
    clear hr5
    have tm : (x + 1 + v5).tmod 64 = (x + 1 + v5) % 64 := Int.tmod_eq_emod_of_nonneg (by omega)
    go_wp2_with fail
    refine (sjoin_any _ _ cap ((x + 1 + v5) % 64) x r w5 HO5.out.ring rfl HLR.out HM.out).mono ?_
    rintro e w4 ⟨N4, c4, F4, rfl, ho4, h41, h42, hB4⟩
    have HO4 := Lib.hid ho4
    have HC4 := Lib.hid (And.intro h41 h42)
    have HS4 : Hid (safeB (joinR r ((x + 1 + v5) % 64) x) = true) := join_safe (by unfold arg3; rw [HS.out, (ptB_iff _).2 hip, (ptB_iff _).2 (show 0 ≤ (x + 1 + v5) % 64 ∧ (x + 1 + v5) % 64 < 64 by omega)]; rfl)
    clear ho4 h41 h42
    go_wp2
    go_ret
    exact step_post hg5 HR5.out (Nat.le_refl _) hbw HO4.out HC4.out.1 HC4.out.2 hB4 HS4.out hq _ rfl
  · go_wp2_with fail
    refine (pick_r q K 12 w3 HR3.out (by omega) (by omega)).mono ?_
    rintro e w5 ⟨v5, hv50, hv51, rfl, hr5, hk5⟩
    have HO5 := Lib.hid (own_kept HO3.out hk5 hq)
    have HR5 := Lib.hid hr5
    have hg5 : w.grownBy w5 (some q) := grown_trans hg3 hk5.grown
    clear hr5
    have tm : (x + 1 + v5).tmod 64 = (x + 1 + v5) % 64 := Int.tmod_eq_emod_of_nonneg (by omega)
    go_wp2_with fail
    refine (sjoin_any _ _ cap ((x + 1 + v5) % 64) x r w5 HO5.out.ring rfl HLR.out HM.out).mono ?_
    rintro e w4 ⟨N4, c4, F4, rfl, ho4, h41, h42, hB4⟩
    have HO4 := Lib.hid ho4
    have HC4 := Lib.hid (And.intro h41 h42)
    have HS4 : Hid (safeB (joinR r ((x + 1 + v5) % 64) x) = true) := join_safe (by unfold arg3; rw [HS.out, (ptB_iff _).2 hip, (ptB_iff _).2 (show 0 ≤ (x + 1 + v5) % 64 ∧ (x + 1 + v5) % 64 < 64 by omega)]; rfl)
    clear ho4 h41 h42
    go_wp2
    go_ret
    exact step_post hg5 HR5.out (Nat.le_refl _) hbw HO4.out HC4.out.1 HC4.out.2 hB4 HS4.out hq _ rfl
  · go_wp2_with fail
    refine (sfail_any _ _ cap x r w3 HO3.out.ring rfl HLR.out HM.out).mono ?_
    rintro e w4 ⟨N4, c4, F4, rfl, ho4, h41, h42, hB4⟩
    have HO4 := Lib.hid ho4
    have HC4 := Lib.hid (And.intro h41 h42)
    have HS4 : Hid (safeB (failR r x) = true) := fail_safe HOK.out
    clear ho4 h41 h42
    go_wp2
    go_ret
    exact step_post hg3 HR3.out (by omega) hbw HO4.out HC4.out.1 HC4.out.2 hB4 HS4.out hq _ rfl
  · go_wp2_with fail
    refine (sfail_any _ _ cap x r w3 HO3.out.ring rfl HLR.out HM.out).mono ?_
    rintro e w4 ⟨N4, c4, F4, rfl, ho4, h41, h42, hB4⟩
    have HO4 := Lib.hid ho4
    have HC4 := Lib.hid (And.intro h41 h42)
    have HS4 : Hid (safeB (failR r x) = true) := fail_safe HOK.out
    clear ho4 h41 h42
    go_wp2
    go_ret
    exact step_post hg3 HR3.out (by omega) hbw HO4.out HC4.out.1 HC4.out.2 hB4 HS4.out hq _ rfl
  · go_wp2_with fail
    refine (sfail_any _ _ cap x r w3 HO3.out.ring rfl HLR.out HM.out).mono ?_
    rintro e w4 ⟨N4, c4, F4, rfl, ho4, h41, h42, hB4⟩
    have HO4 := Lib.hid ho4
    have HC4 := Lib.hid (And.intro h41 h42)
    have HS4 : Hid (safeB (failR r x) = true) := fail_safe HOK.out
    clear ho4 h41 h42
    go_wp2
    go_ret
    exact step_post hg3 HR3.out (by omega) hbw HO4.out HC4.out.1 HC4.out.2 hB4 HS4.out hq _ rfl
  · go_wp2_with fail
    refine (srdrop_any _ _ cap x r w3 HO3.out.ring rfl (Nat.le_trans HLR.out HM.out)).mono ?_
    rintro e w4 ⟨N4, c4, F4, rfl, ho4, h41, h42, hB4⟩
    have HO4 := Lib.hid ho4
    have HC4 := Lib.hid (And.intro h41 h42)
    have HS4 : Hid (safeB (selR r (oneB r x) x (dropR r)) = true) := sel_safe HLI.out HOK.out (fun k hk => (drop_ok HS.out hk).safe)
    clear ho4 h41 h42
    go_wp2
    go_ret
    exact step_post hg3 HR3.out (by omega) hbw HO4.out HC4.out.1 HC4.out.2 hB4 HS4.out hq _ rfl
  · go_wp2_with fail
    refine (sradopt_any _ _ cap x r w3 HO3.out.ring rfl (Nat.le_trans HLR.out HM.out)).mono ?_
    rintro e w4 ⟨N4, c4, F4, rfl, ho4, h41, h42, hB4⟩
    have HO4 := Lib.hid ho4
    have HC4 := Lib.hid (And.intro h41 h42)
    have HS4 : Hid (safeB (selR r (oneB r x) x (adoptR r)) = true) := sel_safe HLI.out HOK.out (fun k hk => (adopt_ok HS.out hk).safe)
    clear ho4 h41 h42
    go_wp2
    go_ret
    exact step_post hg3 HR3.out (by omega) hbw HO4.out HC4.out.1 HC4.out.2 hB4 HS4.out hq _ rfl
  · go_wp2_with fail
    refine (srcloser_any _ _ cap x y r w3 HO3.out.ring rfl (Nat.le_trans HLR.out HM.out)).mono ?_
    rintro e w4 ⟨N4, c4, F4, rfl, ho4, h41, h42, hB4⟩
    have HO4 := Lib.hid ho4
    have HC4 := Lib.hid (And.intro h41 h42)
    have HS4 : Hid (safeB (selR r (oneB r x && ptB y) x (fun k => closerR r k y)) = true) := sel_safe HLI.out (by rw [HOK.out, HPJ.out]; rfl) (fun k hk => (closer_ok HS.out hk).safe)
    clear ho4 h41 h42
    go_wp2
    go_ret
    exact step_post hg3 HR3.out (by omega) hbw HO4.out HC4.out.1 HC4.out.2 hB4 HS4.out hq _ rfl
  · go_wp2_with fail
    refine (srnot_any _ _ cap x y r w3 HO3.out.ring rfl (Nat.le_trans HLR.out HM.out)).mono ?_
    rintro e w4 ⟨N4, c4, F4, rfl, ho4, h41, h42, hB4⟩
    have HO4 := Lib.hid ho4
    have HC4 := Lib.hid (And.intro h41 h42)
    have HS4 : Hid (safeB (selR r (oneB r x && ptB y) x (fun k => notR r k y)) = true) := sel_safe HLI.out (by rw [HOK.out, HPJ.out]; rfl) (fun k hk => (not_ok HS.out hk).safe)
    clear ho4 h41 h42
    go_wp2
    go_ret
    exact step_post hg3 HR3.out (by omega) hbw HO4.out HC4.out.1 HC4.out.2 hB4 HS4.out hq _ rfl
  · go_wp2_with fail
    refine (srstab_any _ _ cap x r w3 HO3.out.ring rfl (Nat.le_trans HLR.out HM.out)).mono ?_
    rintro e w4 ⟨N4, c4, F4, rfl, ho4, h41, h42, hB4⟩
    have HO4 := Lib.hid ho4
    have HC4 := Lib.hid (And.intro h41 h42)
    have HS4 : Hid (safeB (selR r (oneB r x) x (stabR r)) = true) := sel_safe HLI.out HOK.out (fun k hk => (stab_ok HS.out hk).safe)
    clear ho4 h41 h42
    go_wp2
    go_ret
    exact step_post hg3 HR3.out (by omega) hbw HO4.out HC4.out.1 HC4.out.2 hB4 HS4.out hq _ rfl
end Go.Proofs.Ytfhjmfcdogpbeaa
