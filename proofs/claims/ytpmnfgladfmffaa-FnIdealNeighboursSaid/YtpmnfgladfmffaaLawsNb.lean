/- The walk of the law of neighbours in an ideal ring. -/
import Derived.Test.YtpmnfgladfmffaaLawsId
import Derived.Test.YtpmnfgladfmffaaNodesMath2
namespace Go.Proofs.Ytpmnfgladfmffaa
open Go.RowKit
set_option linter.unusedVariables false

theorem vld_asc' {zs : List Int} (h : AscP zs) (h1 : 1 ≤ zs.length) (h10 : zs.length ≤ 10) : vldB zs = true := by
  refine vld_yes h1 h10 ?_
  have key : ∀ k, k ≤ zs.length → ascTo zs k = true := by
    intro k
    induction k with
    | zero => intro _; rfl
    | succ k ih =>
      intro hk
      rw [ascTo, ih (by omega), Bool.true_and]
      have h2 := (ptB_iff _).2 (h.1 k (by omega))
      rcases k with _ | j
      · simp [okAt, h2]
      · have h3 := h.2 j (by omega)
        simp [okAt, h2]; exact h3
  exact key _ (Nat.le_refl _)
theorem idl_nb {r : List Nd} (h : idlB r = true) {k : Nat} (hk : k < r.length) : ∃ P B X Y, gn r k = ⟨P, B, [X, Y]⟩ ∧ befI (idsOf r) P = B ∧ nxtI (idsOf r) ((P + 1) % 64) = X ∧ 0 ≤ P ∧ P < 64 := by
  unfold idlB at h
  simp only [Bool.and_eq_true, decide_eq_true_eq] at h
  obtain ⟨⟨hv, h3⟩, hs⟩ := h
  have e := same_eq hs
  have ha := ids_asc hv
  have hl := ids_len r
  have hz := vld_asc' ha (by omega) (by rw [hl]; exact rv_len hv)
  have hasc := vld_asc hz
  have hg : gn r k = idNd (idsOf r) k := by
    have h1 : gn r k = gn (idR (idsOf r)) k := by rw [← e]
    rw [h1]; exact idR_at (by omega)
  have hP := ha.1 k (by omega)
  refine ⟨_, _, _, _, hg, ?_, ?_, hP.1, hP.2⟩
  · rw [befI_eq hz ((ptB_iff _).2 hP)]
    rcases k with _ | j
    · rw [bef_node_zero hasc (by omega)]
      congr 1
      rw [Nat.zero_add, Nat.mod_eq_of_lt (by omega)]
    · rw [bef_node_succ hasc (by omega)]
      congr 1
      rw [show j + 1 + (idsOf r).length - 1 = j + (idsOf r).length by omega, Nat.add_mod_right, Nat.mod_eq_of_lt (by omega)]
  · rw [nxtI_eq hz ((ptB_iff _).2 ⟨by omega, by omega⟩)]
    by_cases hk1 : k + 1 < (idsOf r).length
    · have h4 := ha.2 k hk1
      have h5 := ha.1 (k + 1) hk1
      rw [Nat.mod_eq_of_lt hk1, show (gt (idsOf r) k + 1) % 64 = gt (idsOf r) k + 1 by omega]
      refine nxt_at hk1 (fun i hi => ?_) (by omega)
      rcases Nat.lt_or_ge i k with h' | h'
      · have := asc_lt hasc h' (by omega); omega
      · obtain rfl : i = k := by omega
        omega
    · have hke : k + 1 = (idsOf r).length := by omega
      rw [hke, Nat.mod_self]
      by_cases h63 : gt (idsOf r) k = 63
      · rw [h63]
        have h0 := ha.1 0 (by omega)
        exact nxt_at (by omega) (fun i hi => by omega) (by omega)
      · rw [show (gt (idsOf r) k + 1) % 64 = gt (idsOf r) k + 1 by omega]
        refine nxt_none fun i hi => ?_
        rcases Nat.lt_or_ge i k with h' | h'
        · have := asc_lt hasc h' (by omega); omega
        · obtain rfl : i = k := by omega
          omega
theorem rids_as' {r : List Nd} {zs : List Int} (hV : idsV r = zs) (a : Option Addr) (len cap : Nat) (w : World) (h : RingAt w a r) (hz : r.length = len) (hm : len ≤ maxLen) :
    Calls Try.prog 12 #[.slice a len cap] w (NewInts zs w) := by
  have h0 := rids_any a len cap r w h hz hm
  rwa [hV] at h0

set_option maxHeartbeats 4000000 in
theorem idealNb (s : Option Addr) (len cap : Nat) (z : List Int) (w : World) (h : RowIn .u8 w s len cap z) :
    Calls Try.prog 4 #[.slice s len cap] w fun e w' => e = .returned (.bool true) ∧ Below w.heap.size w w' := by
  have hb := bytes_of_row h
  have hm : len ≤ maxLen := Nat.le_trans hb.1 hb.2.1
  unfold maxLen at hm
  clear h
  by_cases hl : 1048576 < len
  · go_enter Try.func4, Try.ntmps4
    go_wp2
    go_ret
    exact ⟨rfl, Below.refl _ _⟩
  have hlB : decide ((1048576 : Int) < (len : Int)) = false := by simp; omega
  have HBY := Lib.hid hb
  clear hb
  go_enter Try.func4, Try.ntmps4
  go_wp2_with fail
  refine (drawRingIdeal s len cap w HBY.out).mono ?_
  rintro e w1 ⟨N, cap1, r, rfl, hr1, h10, hcap, hB1⟩
  have HI := Lib.hid hr1
  have HM : Hid (r.length ≤ maxLen) := by show _ ≤ maxLen; unfold maxLen; omega
  clear hr1
  go_wp2_with fail
  refine (ridl_any _ _ cap1 r w1 HI.out rfl HM.out).mono ?_
  rintro e w2 ⟨rfl, hb2⟩
  go_wp2_with fail
  refine (sridl_any _ _ cap1 r w2 (HI.out.keepB hb2 (Nat.le_refl _)) rfl HM.out).mono ?_
  rintro e w3 ⟨rfl, hb3⟩
  have hB3 : Below w1.heap.size w1 w3 := hb2.trans (hb3.mono hb2.size)
  have hBw : Below w.heap.size w w3 := hB1.trans (hB3.mono hB1.size)
  have HI3 := Lib.hid (HI.out.keepB hB3 (Nat.le_refl _))
  rcases bool_cases (idlB r) with hi | hi
  · rw [hi]
    clear hi
    go_wp2
    go_ret
    exact ⟨rfl, hBw⟩
  rw [hi]
  have HNB := Lib.hid (fun (k : Nat) (hk : k < r.length) => idl_nb hi hk)
  have hiv : idsV r = idsOf r := by unfold idsV; rw [if_pos (safe_rv (idl_safe hi).1)]
  have HIV := Lib.hid hiv
  obtain ⟨zs, hz⟩ : ∃ zs, idsOf r = zs := ⟨_, rfl⟩
  have hzl : Hid (zs.length ≤ maxLen) := by show _ ≤ maxLen; rw [← hz, ids_len]; exact HM.out
  rw [hz] at HIV
  have HZ := Lib.hid hz
  clear hi hiv hz
  go_wp2_with fail
  refine (rids_as' HIV.out _ _ cap1 w3 HI3.out rfl HM.out).mono ?_
  rintro e w4 ⟨g4, c4, rfl, ho4, hb4⟩
  have H4 := Lib.hid ho4.ints
  have hB4 : Below w.heap.size w w4 := hBw.trans (hb4.mono hBw.size)
  have HI4 := Lib.hid (HI3.out.keepB hb4 (Nat.le_refl _))
  clear ho4
  go_wp2
  go_loopw [7] (fun q wr => ∃ k : Nat, k ≤ r.length ∧ q = .int .i64 k ∧ Same w4 wr) (fun q _ => r.length - (intOf q).toNat)
  case atStart => exact ⟨0, by omega, rfl, Same.refl _⟩
  case round =>
    obtain ⟨k, hk, rfl, hsr⟩ := hrel
    by_cases hlt : k < r.length
    · obtain ⟨P, B, X, Y, hg, hbf, hnx, hP0, hP1⟩ := HNB.out k hlt
      rw [HZ.out] at hbf hnx
      obtain ⟨b, off, hae, hb0, hcells⟩ := (HI4.out.keepB (hsr.below _) (Nat.le_refl _)).at_ hlt
      injection hae with hae
      injection hae with hae hof
      subst hae hof
      obtain ⟨p0, p1, v, p2, hvv⟩ := hcells k hlt
      rw [hg] at p0 p1 hvv
      obtain ⟨sa, sc, rfl, hsl, hsm, hin⟩ := hvv
      obtain ⟨b2, o2, rfl, hb2', hx, hy⟩ := ints_two hin
      simp only [Nat.zero_add, List.length_cons, List.length_nil] at p0 p1 p2 hsl
      have hIr : IntsAt wr (some ⟨g4, 0, none⟩) zs := H4.out.keepB (hsr.below _) (Nat.le_refl _)
      obtain ⟨J, hJ⟩ : ∃ J, J = (P + 1) % 64 := ⟨_, rfl⟩
      have ht : (P + 1).tmod 64 = J := by rw [Int.tmod_eq_emod_of_nonneg (by omega)]; exact hJ.symm
      have hw1 : IntKind.i64.wrap (P + 1) = P + 1 := by rw [IntKind.wrap_i64]; omega
      have hJ0 : 0 ≤ J ∧ J < 64 := by omega
      have hwJ : IntKind.i64.wrap J = J := by rw [IntKind.wrap_i64]; omega
      rw [← hJ] at hnx
      have d1 : (B != befI zs P) = false := by rw [hbf]; simp
      have d2 : (X != nxtI zs J) = false := by rw [hnx]; simp
      have i0 : (0 : Int) ≤ (k : Int) := by omega
      have i1 : (k : Int) < (r.length : Int) := by omega
      clear hcells hin hg hbf hnx hJ hy
      go_wp2
      go_quiet ((first
        | (go_at_call 15; exact Calls.quiet_of_same (calls_flip (nbefore_any _ _ _ zs _ _ (by exact hIr) rfl hzl.out)))
        | (go_at_call 16; exact Calls.quiet_of_same (calls_flip (nnext_any _ _ _ zs _ _ (by exact hIr) rfl hzl.out)))))
      go_wp2
      go_roundw
      case rel => exact ⟨k + 1, by omega, by go_num, hsr.drewN _⟩
      case measure => simp [intOf]; omega
    · go_wp2
      go_ret
      exact ⟨rfl, hB4.trans (hsr.below _)⟩
end Go.Proofs.Ytpmnfgladfmffaa
