/- Stabilizing (the model). -/
import Derived.Test.YtfhjmfcdogpbeaaStepS2
namespace Go.Proofs.Ytfhjmfcdogpbeaa
open Go.RowKit
set_option linter.unusedVariables false

/-- at the head of the loop that drops dead successors -/
def StabAt (r : List Nd) (k : Nat) (w : World) (v d i : Value) (wr : World) : Prop :=
  ∃ a c, v = .slice a r.length c ∧ Below w.heap.size w wr ∧
    ((i = .int .i64 0 ∧ d = .bool true ∧ RingAt wr a r) ∨ (i = .int .i64 1 ∧ d = .bool (dropB r k) ∧ RingAt wr a (dropR r k)) ∨ (i = .int .i64 2 ∧ (∃ b, d = .bool b) ∧ dropB r k = true ∧ RingAt wr a (dropR (dropR r k) k)))

theorem stab_case {r : List Nd} {k : Nat} {w wr : World} {v d i : Value} (h : StabAt r k w v d i wr) : ∃ a c, v = .slice a r.length c ∧ Below w.heap.size w wr ∧
    ((i = .int .i64 0 ∧ d = .bool true ∧ RingAt wr a r) ∨ (i = .int .i64 1 ∧ d = .bool true ∧ Hid (dropB r k = true) ∧ RingAt wr a (dropR r k)) ∨ (i = .int .i64 1 ∧ d = .bool false ∧ RingAt wr a (drop2 r k)) ∨ (∃ b, i = .int .i64 2 ∧ d = .bool b ∧ RingAt wr a (drop2 r k))) := by
  obtain ⟨a, c, hv, hb, hst⟩ := h
  refine ⟨a, c, hv, hb, ?_⟩
  rcases hst with ⟨h1, h2, h3⟩ | ⟨h1, h2, h3⟩ | ⟨h1, ⟨b, h2⟩, h3, h4⟩
  · exact .inl ⟨h1, h2, h3⟩
  · cases hd : dropB r k
    · refine .inr (.inr (.inl ⟨h1, by rw [h2, hd], ?_⟩))
      rw [drop2, hd, if_neg (by simp)]; exact h3
    · exact .inr (.inl ⟨h1, by rw [h2, hd], by unfold Hid; trivial, h3⟩)
  · refine .inr (.inr (.inr ⟨b, h1, h2, ?_⟩))
    rw [drop2, h3, if_pos rfl]; exact h4
/-- the rest of a stabilization: from the ring behind the loop on -/
theorem stab_lens {r : List Nd} {k : Nat} (h : safeB r = true) (hk : k < r.length) : (drop2 r k).length = r.length ∧ (stab2 r k).length = r.length ∧ (stab3 r k).length = r.length ∧ (stabR r k).length = r.length :=
  ⟨(drop_first h hk).2.len, (stab2_ok h hk).1.len, (stab3_ok h hk).1.len, (stab_ok h hk).len⟩

set_option maxHeartbeats 4000000 in
theorem sstab_any (a : Option Addr) (len cap k : Nat) (r : List Nd) (w : World) (h : RingAt w a r) (hz : r.length = len) (hs : safeB r = true) (hk : k < len) :
    Calls Try.prog 96 #[.slice a len cap, .int .i64 k] w (NewOwn (stabR r k) w) := by
  subst hz
  have hv := safe_rv hs
  have hm := maxOf hv
  obtain ⟨l1, l2, l3, l4⟩ := stab_lens hs hk
  have hd1 := drop_ok hs hk
  obtain ⟨hf1, ho1⟩ := drop_first hs hk
  obtain ⟨ho2, hf2⟩ := stab2_ok hs hk
  obtain ⟨ho3, hf3⟩ := stab3_ok hs hk
  have HS := Lib.hid hs
  have HV := Lib.hid hv
  have HM := Lib.hid hm
  have L1 := Lib.hid l1
  have L2 := Lib.hid l2
  have L3 := Lib.hid l3
  have L4 := Lib.hid l4
  have HD1 := Lib.hid hd1
  have HO1 := Lib.hid ho1
  have HO2 := Lib.hid ho2
  have HO3 := Lib.hid ho3
  have HF2 := Lib.hid hf2
  have HF3 := Lib.hid hf3
  have HI := Lib.hid h
  clear h hs hv hm l1 l2 l3 l4 hd1 hf1 ho1 ho2 ho3 hf2 hf3
  have q0 : (0 : Int) ≤ (k : Int) := by omega
  have q1 : (k : Int) < (r.length : Int) := by omega
  go_enter Try.func96, Try.ntmps96
  go_wp2
  go_loopw [0, 5, 6] (fun v d i wr => StabAt r k w v d i wr) (fun _ _ i _ => 2 - (intOf i).toNat)
  case atStart => exact ⟨a, cap, rfl, Below.refl _ _, .inl ⟨rfl, rfl, HI.out⟩⟩
  case round =>
    obtain ⟨a1, c1, rfl, hbel, hst⟩ := stab_case hrel
    rcases hst with ⟨rfl, rfl, hring⟩ | ⟨rfl, rfl, hdb, hring⟩ | ⟨rfl, rfl, hring⟩ | ⟨bb, rfl, rfl, hring⟩
    · have HR := Lib.hid hring
      clear hring
      go_wp2_with fail
      refine (sdrop_any _ _ c1 k r wr HR.out rfl HV.out hk).mono ?_
      rintro e w2 ⟨N, c2, F, rfl, ho, h1, h2, hB⟩
      have HO := Lib.hid ho.ring
      clear ho h1 h2
      rw [HD1.out.len]
      go_wp2
      go_roundw
      case rel => exact ⟨_, c2, rfl, hbel.trans (hB.mono hbel.size), .inr (.inl ⟨rfl, rfl, HO.out⟩)⟩
      case measure => simp [intOf]
    · have HR := Lib.hid hring
      clear hring
      go_wp2_with fail
      refine (sdrop_any _ _ c1 k (dropR r k) wr HR.out HD1.out.len (safe_rv HD1.out.safe) hk).mono ?_
      rintro e w2 ⟨N, c2, F, rfl, ho, h1, h2, hB⟩
      have HO := Lib.hid ho.ring
      have hl : (dropR (dropR r k) k).length = r.length := (drop_ok HD1.out.safe (by rw [HD1.out.len]; exact hk)).len.trans HD1.out.len
      rw [hl]
      clear ho h1 h2 hl
      go_wp2
      go_roundw
      case rel => exact ⟨_, c2, rfl, hbel.trans (hB.mono hbel.size), .inr (.inr ⟨rfl, ⟨_, rfl⟩, hdb.out, HO.out⟩)⟩
      case measure => simp [intOf]
    all_goals
      have HR := Lib.hid hring
      clear hring
      go_wp2_with fail
      refine (sadopt_any _ _ c1 k (drop2 r k) wr HR.out L1.out (safe_rv HO1.out.safe) hk).mono ?_
      rintro e w2 ⟨N, c2, F, rfl, ho, h1, h2, hB⟩
      have H2 : Hid (RingAt w2 (some ⟨N, 0, none⟩) (stab2 r k)) := ho.ring
      have hl : (adoptR (drop2 r k) k).length = r.length := L2.out
      have hb2 : Below w.heap.size w w2 := hbel.trans (hB.mono hbel.size)
      rw [hl]
      clear ho h1 h2 hl
      obtain ⟨b, off, b3, o3, sc, hab, _, _, hsc, _, hc0, hc1, hc2, hx3, hy3, _⟩ := ring_node H2.out (safe_rv HO2.out.safe) (k := k) (by rw [L2.out]; exact hk)
      injection hab with hab
      injection hab with hbb hoo
      subst hbb hoo
      rw [Nat.zero_add] at hc0 hc1 hc2
      obtain ⟨hil, hip, hfd⟩ := idx_live HF2.out
      have HFD : Hid (fndI (stab2 r k) (gt (gn (stab2 r k) k).aft 0) = idxR (stab2 r k) (first (stab2 r k) k)) := hfd
      rw [L2.out] at hil
      obtain ⟨b', off', b3', o3', sc', hab', _, _, _, _, hd0, hd1, hd2, _, _, _⟩ := ring_node H2.out (safe_rv HO2.out.safe) (k := idxR (stab2 r k) (first (stab2 r k) k)) (by rw [L2.out]; exact hil)
      injection hab' with hab'
      injection hab' with hbb hoo
      subst hbb hoo
      rw [Nat.zero_add] at hd0 hd1 hd2
      have H3 : Hid (stab3 r k = if 0 ≤ (gn (stab2 r k) (idxR (stab2 r k) (first (stab2 r k) k))).bef then closerR (stab2 r k) k (gn (stab2 r k) (idxR (stab2 r k) (first (stab2 r k) k))).bef else stab2 r k) := rfl
      clear hfd hip
      generalize hss : idxR (stab2 r k) (first (stab2 r k) k) = s at *
      have HSS := Lib.hid hss
      clear hss
      have z0 : (0 : Int) ≤ (s : Int) := by omega
      have z1 : (s : Int) < (r.length : Int) := by omega
      go_wp2_with fail
      refine (sfind_any _ _ c2 (stab2 r k) _ w2 H2.out L2.out HM.out).mono ?_
      rintro e w3 ⟨rfl, rfl⟩
      rw [HFD.out]
      by_cases hbf : 0 ≤ (gn (stab2 r k) s).bef
      · have HE3 : Hid (stab3 r k = closerR (stab2 r k) k (gn (stab2 r k) s).bef) := H3.out.trans (if_pos hbf)
        have d0 : decide (0 ≤ (gn (stab2 r k) s).bef) = true := by simp; omega
        clear hbf
        go_wp2_with fail
        refine (scloser_any _ _ c2 k _ (stab2 r k) w2 H2.out L2.out (safe_rv HO2.out.safe) hk).mono ?_
        rintro e w4 ⟨N4, c4, F4, rfl, ho4, h41, h42, hB4⟩
        rw [← HE3.out] at ho4 ⊢
        have R3 : Hid (RingAt w4 (some ⟨N4, 0, none⟩) (stab3 r k)) := ho4.ring
        have hb4 : Below w.heap.size w w4 := hb2.trans (hB4.mono hb2.size)
        rw [L3.out]
        clear ho4 h41 h42 hc0 hc1 hc2 hx3 hy3 hd0 hd1 hd2 d0
        obtain ⟨b, off, b3, o3, sc, hab, _, _, hsc, _, hc0, hc1, hc2, hx3, hy3, _⟩ := ring_node R3.out (safe_rv HO3.out.safe) (k := k) (by rw [L3.out]; exact hk)
        injection hab with hab
        injection hab with hbb hoo
        subst hbb hoo
        rw [Nat.zero_add] at hc0 hc1 hc2
        obtain ⟨hil3, _, hfd⟩ := idx_live HF3.out
        have HFD3 : Hid (fndI (stab3 r k) (gt (gn (stab3 r k) k).aft 0) = idxR (stab3 r k) (first (stab3 r k) k)) := hfd
        rw [L3.out] at hil3
        clear hfd
        go_wp2_with fail
        refine (sfind_any _ _ c4 (stab3 r k) _ w4 R3.out L3.out HM.out).mono ?_
        rintro e w5 ⟨rfl, rfl⟩
        rw [HFD3.out]
        go_wp2_with fail
        refine (snot_any _ _ c4 _ _ (stab3 r k) w4 R3.out L3.out (safe_rv HO3.out.safe) hil3).mono ?_
        rintro e w6 ⟨N6, c6, F6, rfl, ho6, h61, h62, hB6⟩
        have HO6 : Hid (RingOwn w6 w4.heap.size w6.heap.size N6 (stabR r k) F6) := ho6
        have HC6 : Hid ((stabR r k).length ≤ c6 ∧ c6 ≤ maxLen) := ⟨h61, h62⟩
        clear ho6 h61 h62
        have hln : (notR (stab3 r k) (idxR (stab3 r k) (first (stab3 r k) k)) (gn (stab3 r k) k).pos).length = r.length := L4.out
        rw [hln]
        clear hln
        go_wp2
        go_ret
        exact ⟨N6, c6, F6, by rw [L4.out]; rfl, HO6.out.wide hb4.size (Nat.le_refl _), HC6.out.1, HC6.out.2, hb4.trans (hB6.mono hb4.size)⟩
      · have HE3 : Hid (stab3 r k = stab2 r k) := H3.out.trans (if_neg hbf)
        have d0 : decide (0 ≤ (gn (stab2 r k) s).bef) = false := by simp; omega
        clear hbf
        go_wp2_with fail
        refine (snot_any _ _ c2 _ _ (stab2 r k) w2 H2.out L2.out (safe_rv HO2.out.safe) hil).mono ?_
        rintro e w6 ⟨N6, c6, F6, rfl, ho6, h61, h62, hB6⟩
        have hEQ : notR (stab2 r k) s (gn (stab2 r k) k).pos = stabR r k := by rw [stabR, HE3.out, HSS.out]
        rw [hEQ] at ho6 h61 ⊢
        have HO6 := Lib.hid ho6
        have HC6 := Lib.hid (And.intro h61 h62)
        clear ho6 h61 h62 hEQ
        rw [L4.out]
        go_wp2
        go_ret
        exact ⟨N6, c6, F6, by rw [L4.out]; rfl, HO6.out.wide hb2.size (Nat.le_refl _), HC6.out.1, HC6.out.2, hb2.trans (hB6.mono hb2.size)⟩
end Go.Proofs.Ytfhjmfcdogpbeaa
