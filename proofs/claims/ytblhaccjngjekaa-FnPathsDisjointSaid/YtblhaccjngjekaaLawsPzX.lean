/- The walks of the laws of paths: one path taken away. -/
import Derived.Test.YtblhaccjngjekaaPzWDraw2
import Derived.Test.YtblhaccjngjekaaPzWS
import Derived.Test.YtblhaccjngjekaaPzWP
import Derived.Test.YtblhaccjngjekaaLawsPzW
import Derived.Deep.Slices
namespace Go.Proofs.Ytblhaccjngjekaa
open Go.RowKit
set_option linter.unusedVariables false
attribute [local go_sem ↓] Go.wp_at_zero Go.wp_at_succ

theorem slrow_nil {w : World} {base N : Nat} (h : w.heap[N]? = some (.cells #[] 34 (0, 0))) (hb : base ≤ N) : SlRow w base N 0 0 [] := (ss_nil h hb).row
theorem rm_get {α : Type} (l : List α) {j : Nat} (i : Nat) (hj : j < l.length) : (l.take j ++ l.drop (j + 1))[i]? = l[if i < j then i else i + 1]? := by
  by_cases hi : i < j
  · rw [if_pos hi, List.getElem?_append_left (by rw [List.length_take]; omega), List.getElem?_take_of_lt hi]
  · rw [if_neg hi, List.getElem?_append_right (by rw [List.length_take]; omega), List.getElem?_drop, List.length_take, show j + 1 + (i - min j l.length) = i + 1 by omega]
/-- the paths without path j -/
def rmP (ps : List (List Int)) (j : Nat) : List (List Int) := ps.take j ++ ps.drop (j + 1)
theorem rmP_len {ps : List (List Int)} {j : Nat} (hj : j < ps.length) : (rmP ps j).length = ps.length - 1 := by unfold rmP; rw [List.length_append, List.length_take, List.length_drop]; omega
theorem rmP_at {ps : List (List Int)} {j : Nat} (i : Nat) (hj : j < ps.length) : gl (rmP ps j) i = gl ps (if i < j then i else i + 1) := by
  unfold gl rmP; rw [List.getD_eq_getElem?_getD, List.getD_eq_getElem?_getD, rm_get ps i hj]
theorem rm_dj {ps : List (List Int)} {j : Nat} (hj : j < ps.length) (h : djR ps = true) : djR (rmP ps j) = true := by
  obtain ⟨hv, hd⟩ := djR_iff.1 h
  have hl := rmP_len hj
  obtain ⟨hv1, hv2⟩ := (pvB_iff _).1 hv
  refine djR_yes ((pvB_iff _).2 ⟨fun i hi => ?_, by omega⟩) fun i hi k hk q hq => ?_
  · rw [rmP_at i hj]; exact hv1 _ (by split <;> omega)
  · rw [rmP_at i hj] at hk
    rw [rmP_at i hj, rmP_at q hj]
    refine hd _ (by split <;> omega) k hk _ ?_
    split <;> split <;> omega
/-- two different paths of disjoint ones share no node -/
theorem dj_two {ps : List (List Int)} (hd : djP ps) {i k j : Nat} (hi : i < ps.length) (hj : j < ps.length) (hne : i ≠ j) (hk : k < (gl ps i).length) : hasB (gl ps j) (gt (gl ps i) k) = false := by
  rcases Nat.lt_or_ge j i with h | h
  · exact hd i hi k hk j h
  · rcases hb : hasB (gl ps j) (gt (gl ps i) k) with _ | _
    · rfl
    · exfalso
      rw [hasB_iff] at hb
      obtain ⟨p, hp, he⟩ := List.getElem_of_mem hb
      have h1 := hd j hj p hp i (by omega)
      rw [gt_get hp, he] at h1
      rw [has_at hk rfl] at h1; cases h1
/-- the values of a list of paths -/
theorem ss_vals {w : World} {N : Nat} {ps : List (List Int)} (h : SsAt w (some ⟨N, 0, none⟩) ps) : ∃ Vs : List Value, Vs.length = ps.length ∧ ∀ i, i < ps.length → ∃ v, Vs[i]? = some v ∧ w.cell? ⟨N, i, none⟩ = some v ∧ IntsW w v (gl ps i) := by
  rcases h with h0 | ⟨b, off, ha, hlt, hc⟩
  · subst h0; exact ⟨[], rfl, fun i hi => by simp at hi⟩
  · injection ha with ha; injection ha with ha ho; subst ha ho
    have : Inhabited Value := ⟨.int .i64 0⟩
    have hch : ∃ f : Nat → Value, ∀ i, i < ps.length → w.cell? ⟨N, 0 + i, none⟩ = some (f i) ∧ IntsW w (f i) (gl ps i) := Go.Deep.choose_lt hc
    obtain ⟨f, hf⟩ := hch
    refine ⟨(List.range ps.length).map f, by simp, fun i hi => ⟨f i, by simp [hi], ?_, (hf i hi).2⟩⟩
    have := (hf i hi).1
    rw [Nat.zero_add] at this; exact this
theorem ss_src1 {w W : World} {N j : Nat} {ps : List (List Int)} {Vs : List Value} (hN : N < w.heap.size) (hl : Vs.length = ps.length) (h : ∀ i, i < ps.length → ∃ v, Vs[i]? = some v ∧ w.cell? ⟨N, i, none⟩ = some v ∧ IntsW w v (gl ps i)) (hb : Below w.heap.size w W) :
    ∀ i u, (Vs.take j)[i]? = some u → W.cell? ((⟨N, 0, none⟩ : Addr).add i) = some u := by
  intro i u hu
  have hi : i < j ∧ i < Vs.length := by
    have := (List.getElem?_eq_some_iff.1 hu).1
    rw [List.length_take] at this; omega
  rw [List.getElem?_take_of_lt hi.1] at hu
  obtain ⟨v, h1, h2, _⟩ := h i (by omega)
  rw [h1] at hu; injection hu with hu; subst hu
  rw [add_plain, hb.cell (p := ⟨N, 0 + i, none⟩) hN, Nat.zero_add]; exact h2
theorem ss_src2 {w W : World} {N j : Nat} {ps : List (List Int)} {Vs : List Value} (hN : N < w.heap.size) (hl : Vs.length = ps.length) (h : ∀ i, i < ps.length → ∃ v, Vs[i]? = some v ∧ w.cell? ⟨N, i, none⟩ = some v ∧ IntsW w v (gl ps i)) (hb : Below w.heap.size w W) :
    ∀ i u, (Vs.drop j)[i]? = some u → W.cell? ((⟨N, j, none⟩ : Addr).add i) = some u := by
  intro i u hu
  rw [List.getElem?_drop] at hu
  have hi := (List.getElem?_eq_some_iff.1 hu).1
  obtain ⟨v, h1, h2, _⟩ := h (j + i) (by omega)
  rw [h1] at hu; injection hu with hu; subst hu
  rw [add_plain, hb.cell (p := ⟨N, j + i, none⟩) hN]; exact h2
theorem ss_one {w : World} {ps : List (List Int)} {Vs : List Value} {N : Nat} (hl : Vs.length = ps.length) (h : ∀ i, i < ps.length → ∃ v, Vs[i]? = some v ∧ w.cell? ⟨N, i, none⟩ = some v ∧ IntsW w v (gl ps i)) : ∀ u ∈ Vs, u.oneCell' = true := by
  intro u hu
  obtain ⟨i, hi, he⟩ := List.getElem_of_mem hu
  obtain ⟨v, h1, _, a, cap, rfl, _⟩ := h i (by omega)
  rw [List.getElem?_eq_getElem hi, he] at h1
  injection h1 with h1; rw [h1]; rfl
/-- the paths without path j, behind the two appends -/
theorem ss_rm {w W : World} {N N' base c' j n : Nat} {ps : List (List Int)} {Vs : List Value} (hl : Vs.length = ps.length) (h : ∀ i, i < ps.length → ∃ v, Vs[i]? = some v ∧ w.cell? ⟨N, i, none⟩ = some v ∧ IntsW w v (gl ps i)) (hb : Below w.heap.size w W) (hj : j < ps.length)
    (hrow : SlRow W base N' n c' (Vs.take j ++ Vs.drop (j + 1))) (hn : n + 1 = ps.length) : SsAt W (some ⟨N', 0, none⟩) (rmP ps j) := by
  refine .inr ⟨N', 0, rfl, hrow.lt.2, fun i hi => ?_⟩
  rw [rmP_len hj] at hi
  rw [rmP_at i hj]
  obtain ⟨v, h1, _, h3⟩ := h (if i < j then i else i + 1) (by split <;> omega)
  refine ⟨v, by rw [Nat.zero_add]; exact hrow.cell (by omega) (by rw [rm_get Vs i (by omega)]; exact h1), h3.keepB hb (Nat.le_refl _)⟩
theorem remX (n : Nat) (m : Nat) (hm : 0 < m) : ∃ j : Nat, (n : Int) % (m : Int) = (j : Int) ∧ j < m := ⟨n % m, by omega, Nat.mod_lt _ hm⟩

set_option maxRecDepth 20000 in
set_option maxHeartbeats 4000000 in
theorem pathsDisjoint (s : Option Addr) (len cap : Nat) (z : List Int) (s2 : Option Addr) (len2 cap2 : Nat) (z2 : List Int) (w : World) (h : RowIn .u8 w s len cap z) (h2 : RowIn .u8 w s2 len2 cap2 z2) :
    Calls Try.prog 7 #[.slice s len cap, .slice s2 len2 cap2] w fun e w' => e = .returned (.bool true) ∧ Below w.heap.size w w' := by
  have hb := bytes_of_row h
  have hb2 := bytes_of_row h2
  have hm : len ≤ maxLen := Nat.le_trans hb.1 hb.2.1
  have hm2 : len2 ≤ maxLen := Nat.le_trans hb2.1 hb2.2.1
  unfold maxLen at hm hm2
  clear h h2 hb2
  by_cases hllen : 1048576 < len
  · go_enter Try.func7, Try.ntmps7
    go_wp2
    go_ret
    exact ⟨rfl, Below.refl _ _⟩
  have hBlen : decide ((1048576 : Int) < (len : Int)) = false := by simp; omega
  by_cases hllen2 : 1048576 < len2
  · go_enter Try.func7, Try.ntmps7
    go_wp2
    go_ret
    exact ⟨rfl, Below.refl _ _⟩
  have hBlen2 : decide ((1048576 : Int) < (len2 : Int)) = false := by simp; omega
  have HY := Lib.hid hb
  clear hb
  go_enter Try.func7, Try.ntmps7
  go_wp2_with fail
  refine (drawPathsDisjoint s len cap w HY.out).mono ?_
  rintro e w1 ⟨N, c, ps, rfl, h9, hnc, hcm, hss, hb1⟩
  have B1 : Hid (Below w.heap.size w w1) := hb1
  have T1 := Lib.hid hss
  clear hb1 hss
  obtain ⟨n, hn⟩ : ∃ n, ps.length = n := ⟨_, rfl⟩
  rw [hn] at h9 hnc ⊢
  have HN := Lib.hid hn
  have HX9 := Lib.hid (nine_max h9)
  have HPC := Lib.hid hnc
  clear hn
  cases hd : djR ps
  · have HD := Lib.hid hd
    clear hd
    go_wp2_with fail
    refine (pdj_aw false _ n c ps w1 T1.out HN.out HX9.out HPC.out HD.out).mono ?_
    rintro e w2 ⟨rfl, hb2⟩
    have B2 : Hid (Below w.heap.size w w2) := B1.out.trans (hb2.mono B1.out.size)
    have T2 := Lib.hid (T1.out.keepB hb2 (Nat.le_refl _))
    clear hb2
    go_wp2_with fail
    refine (sdj_aw false _ n c ps w2 T2.out HN.out HX9.out HD.out).mono ?_
    rintro e w3 ⟨rfl, hb3⟩
    have B3 : Hid (Below w.heap.size w w3) := B2.out.trans (hb3.mono B2.out.size)
    have T3 := Lib.hid (T2.out.keepB hb3 (Nat.le_refl _))
    clear hb3
    go_wp2
    go_ret
    exact ⟨rfl, B3.out⟩
  · have HD := Lib.hid hd
    clear hd
    by_cases hn0 : n = 0
    · subst hn0
      have hz : ((0 : Nat) : Int) = 0 := rfl
      go_wp2_with fail
      refine (pdj_aw true _ 0 c ps w1 T1.out HN.out HX9.out HPC.out HD.out).mono ?_
      rintro e w2 ⟨rfl, hb2⟩
      have B2 : Hid (Below w.heap.size w w2) := B1.out.trans (hb2.mono B1.out.size)
      have T2 := Lib.hid (T1.out.keepB hb2 (Nat.le_refl _))
      clear hb2
      go_wp2_with fail
      refine (sdj_aw true _ 0 c ps w2 T2.out HN.out HX9.out HD.out).mono ?_
      rintro e w3 ⟨rfl, hb3⟩
      have B3 : Hid (Below w.heap.size w w3) := B2.out.trans (hb3.mono B2.out.size)
      have T3 := Lib.hid (T2.out.keepB hb3 (Nat.le_refl _))
      clear hb3
      go_wp2
      go_ret
      exact ⟨rfl, B3.out⟩
    · have hn0i : ((n : Int) == 0) = false := by rw [beq_eq_false_iff_ne]; omega
      have hn0j : ¬ (n : Int) = 0 := by omega
      obtain ⟨j, hj, hjn⟩ := remX len2 n (by omega)
      have hj2 : (len2 : Int).tmod (n : Int) = (j : Int) := by rw [Int.tmod_eq_emod_of_nonneg (by omega)]; exact hj
      go_wp2_with fail
      refine (pdj_aw true _ n c ps w1 T1.out HN.out HX9.out HPC.out HD.out).mono ?_
      rintro e w2 ⟨rfl, hb2⟩
      have B2 : Hid (Below w.heap.size w w2) := B1.out.trans (hb2.mono B1.out.size)
      have T2 := Lib.hid (T1.out.keepB hb2 (Nat.le_refl _))
      clear hb2
      go_wp2_with fail
      refine (sdj_aw true _ n c ps w2 T2.out HN.out HX9.out HD.out).mono ?_
      rintro e w3 ⟨rfl, hb3⟩
      have B3 : Hid (Below w.heap.size w w3) := B2.out.trans (hb3.mono B2.out.size)
      have T3 := Lib.hid (T2.out.keepB hb3 (Nat.le_refl _))
      clear hb3
      have HDJ := Lib.hid (djR_iff.1 HD.out).2
      go_wp2
      go_loopw [9] (fun i wr => ∃ k : Nat, k ≤ n ∧ i = .int .i64 k ∧ Same w3 wr) (fun i _ => n - (intOf i).toNat)
      case atStart => exact ⟨0, by omega, rfl, Same.refl _⟩
      case round =>
        obtain ⟨k, hk, rfl, hs⟩ := hrel
        obtain ⟨w4, rfl⟩ : ∃ x, x = wr := ⟨_, rfl⟩
        have HS := Lib.hid hs
        by_cases hlt : k < n
        · obtain ⟨b, off, hab, hb0, hrows⟩ := (T3.out.keepB (hs.below w3.heap.size) (Nat.le_refl _)).row (by rw [HN.out]; omega)
          injection hab with hab
          injection hab with hab1 hab2
          subst hab1 hab2
          obtain ⟨ai, ci, hc, hints, hl, hci⟩ := hrows k (by rw [HN.out]; exact hlt)
          obtain ⟨aj, cj, hcj, hintsj, hlj, hcij⟩ := hrows j (by rw [HN.out]; exact hjn)
          have HMJ := Lib.hid (len_max hlj hcij)
          have HT := Lib.hid hints
          have HTJ := Lib.hid hintsj
          have k0 : (0 : Int) ≤ (k : Int) := by omega
          have k1 : (k : Int) < (n : Int) := by omega
          have j0 : (0 : Int) ≤ (j : Int) := by omega
          have j1 : (j : Int) < (n : Int) := by omega
          unfold maxLen at hci hcij
          obtain ⟨l, hn⟩ : ∃ l, (gl ps k).length = l := ⟨_, rfl⟩
          rw [hn] at hc hl
          have HL := Lib.hid hn
          obtain ⟨m, hm'⟩ : ∃ m, (gl ps j).length = m := ⟨_, rfl⟩
          rw [hm'] at hcj hlj HMJ
          have HLJ := Lib.hid hm'
          rw [Nat.zero_add] at hc hcj
          clear hrows hints hintsj hn hm' hb0 hs
          go_wp2
          go_loopw [10] (fun i wr => ∃ q : Nat, q ≤ l ∧ i = .int .i64 q ∧ Same w4 wr) (fun i _ => l - (intOf i).toNat)
          case atStart => exact ⟨0, by omega, rfl, Same.refl _⟩
          case round =>
            obtain ⟨q, hq, rfl, hs2⟩ := hrel
            have d1 := (hs2.cell ⟨N, k, none⟩).trans hc
            have d3 := (hs2.cell ⟨N, j, none⟩).trans hcj
            by_cases hql : q < l
            · obtain ⟨b2, off2, hab, hc2⟩ := HT.out.cellAt (k := q) (by rw [HL.out]; exact hql)
              subst hab
              obtain ⟨y, hy⟩ : ∃ y, y = gt (gl ps k) q := ⟨_, rfl⟩
              rw [← hy] at hc2
              have d2 := (hs2.cell ⟨b2, off2 + q, none⟩).trans hc2
              have HTJ2 := Lib.hid (HTJ.out.keepB (hs2.below w4.heap.size) (Nat.le_refl _))
              have q0 : (0 : Int) ≤ (q : Int) := by omega
              have q1 : (q : Int) < (l : Int) := by omega
              by_cases hkj : k = j
              · have hkb : ((k : Int) != (j : Int)) = false := by simp [hkj]
                clear hy hkj
                go_wp2
                go_quiet (fail)
                go_wp2
                go_roundw
                case rel => exact ⟨q + 1, by omega, by go_num, hs2.drewN _⟩
                case measure => simp [intOf]; omega
              · have HP : Hid (hasB (gl ps j) y = false) := by
                  show _ = false
                  rw [hy]; exact dj_two HDJ.out (by rw [HN.out]; exact hlt) (by rw [HN.out]; exact hjn) hkj (by rw [HL.out]; exact hql)
                have hkb : ((k : Int) != (j : Int)) = true := by rw [bne_iff_ne]; omega
                clear hy hkj
                go_wp2
                go_quiet ((go_at_call 30; exact Calls.quiet_of_same (calls_flip (hasW_as false aj m cj (gl ps j) y _ HTJ2.out HLJ.out HMJ.out HP.out))))
                go_wp2
                go_roundw
                case rel => exact ⟨q + 1, by omega, by go_num, hs2.drewN _⟩
                case measure => simp [intOf]; omega
            · go_wp2
              go_roundw
              case rel => exact ⟨k + 1, by omega, by go_num, HS.out.trans hs2⟩
              case measure => simp [intOf]; omega
        · have HT4 := Lib.hid (T3.out.keepB (hs.below w3.heap.size) (Nat.le_refl _))
          have B4 : Hid (Below w.heap.size w w4) := B3.out.trans (hs.below _)
          have hNl : N < w4.heap.size := by
            obtain ⟨b, off, hab, hb0, _⟩ := HT4.out.row (by rw [HN.out]; omega)
            injection hab with hab
            injection hab with hab1 hab2
            omega
          obtain ⟨Vs, hvl, hvs⟩ := ss_vals HT4.out
          have HVL := Lib.hid hvl
          have HVS := Lib.hid hvs
          have HV1 := Lib.hid (ss_one hvl hvs)
          obtain ⟨r, hr⟩ : ∃ r, n = j + 1 + r := ⟨n - (j + 1), by omega⟩
          have HTL : Hid ((Vs.take j).length = j) := by show _ = _; rw [List.length_take, HVL.out, HN.out]; omega
          have HDL : Hid ((Vs.drop (j + 1)).length = r) := by show _ = _; rw [List.length_drop, HVL.out, HN.out]; omega
          have HT1 : Hid (∀ u ∈ Vs.take j, u.oneCell' = true) := fun u hu => HV1.out u (List.mem_of_mem_take hu)
          have HD1 : Hid (∀ u ∈ Vs.drop (j + 1), u.oneCell' = true) := fun u hu => HV1.out u (List.mem_of_mem_drop hu)
          have HE : Hid (∀ o, Below w4.heap.size w4 (w4.alloc o)) := fun o => alBZ w4 o
          have HE2 : Hid (∀ o, Below w4.heap.size w4 (w4.drew.alloc o)) := fun o => (Below.refl _ _).drew.alloc (Nat.le_refl _) o
          have HS1 : Hid (∀ W, Below w4.heap.size w4 W → ∀ i u, (Vs.take j)[i]? = some u → W.cell? ((⟨N, 0, none⟩ : Addr).add i) = some u) := fun W hb => ss_src1 hNl HVL.out HVS.out hb
          have HS2 : Hid (∀ W, Below w4.heap.size w4 W → ∀ i u, (Vs.drop (j + 1))[i]? = some u → W.cell? ((⟨N, j + 1, none⟩ : Addr).add i) = some u) := fun W hb => ss_src2 hNl HVL.out HVS.out hb
          have HRM : Hid (djR (rmP ps j) = true) := rm_dj (by rw [HN.out]; exact hjn) HD.out
          have HRL : Hid ((rmP ps j).length = j + r) := by show _ = _; rw [rmP_len (by rw [HN.out]; exact hjn), HN.out]; omega
          have HRX : Hid (j + r ≤ maxLen) := by show _ ≤ maxLen; unfold maxLen; omega
          have HFIN : Hid (∀ (W : World) (N' c' : Nat), Below w4.heap.size w4 W → SlRow W w4.heap.size N' (j + r) c' (Vs.take j ++ Vs.drop (j + 1)) → SsAt W (some ⟨N', 0, none⟩) (rmP ps j)) := fun W N' c' hb hrow => ss_rm HVL.out HVS.out hb (by rw [HN.out]; exact hjn) hrow (by rw [HN.out]; omega)
          have k1 : (j : Int) + 1 ≤ (n : Int) := by omega
          have k2 : (n : Int) ≤ (c : Int) := by omega
          have k3 : j + 1 ≤ n := by omega
          have k4 : j ≤ c := by omega
          have k5 : (j : Int) ≤ (c : Int) := by omega
          have k6 : (0 : Int) ≤ (j : Int) := by omega
          have k7 : (0 : Int) ≤ (j : Int) + 1 := by omega
          have k8 : ((j : Int) + 1).toNat = j + 1 := by omega
          have k9 : IntKind.i64.wrap ((j : Int) + 1) = (j : Int) + 1 := by rw [IntKind.wrap_i64]; omega
          have kr : n - (j + 1) = r := by omega
          have kb : j + r ≤ 1000000 := by omega
          have kj : j ≤ 1000000 := by omega
          have hki : ¬ (k : Int) < (n : Int) := by omega
          clear hvl hvs hs hj hj2 hn0 hn0i hn0j hlt
          by_cases hcj : c = j + 1
          · have hr0 : r = 0 := by omega
            subst hr0
            have hnj : n = j + 1 := by omega
            have HD0 : Hid (Vs.drop (j + 1) = []) := List.eq_nil_of_length_eq_zero HDL.out
            subst hcj
            subst hnj
            have q1 : (j : Int) ≤ (j : Int) + 1 := by omega
            have hki2 : ¬ (k : Int) < (j : Int) + 1 := by omega
            have hki3 : decide ((k : Int) < (j : Int) + 1) = false := by simp; omega
            clear hr kr hjn k3 hnc h9 k1 k2
            go_wp2_with fail
            go_region_law ((first
              | (refine step_appP (o := ⟨some 81, _, _, _, _, _⟩) _ (by rfl) (.tmp 77) (.tmp 80) (by rfl) w4.heap.size w4.heap.size 0 0 [] (by rfl) (slrow_nil (heap_alloc_new _ _) (Nat.le_refl _)) ⟨N, 0, none⟩ j _ (Vs.take j) (by rfl) HTL.out (HS1.out _ (by first | exact HE.out _ | exact HE2.out _)) HT1.out j (Vs.take j) (by omega) (List.nil_append _) kj (by simp) ?_
                 intro g1 cap1 w5 hrow1 hg1 hat1
                 have HR1 := Lib.hid hrow1
                 have HB1 : Hid (Below w4.heap.size w4 w5) := (by first | exact (HE.out _).grown hg1 (by simp) (fun q hq => by injection hq with hq; omega) | exact (HE2.out _).grown hg1 (by simp) (fun q hq => by injection hq with hq; omega))
                 clear hrow1 hg1 hat1)
              | (refine step_appP (o := ⟨some 86, _, _, _, _, _⟩) _ (by rfl) (.tmp 81) (.tmp 85) (by rfl) w4.heap.size g1 j cap1 (Vs.take j) (by rfl) HR1.out ⟨N, 0, none⟩ 0 0 ([]) (by rfl) rfl (fun i u hu => by simp at hu) (fun u hu => by cases hu) (j + 0) (Vs.take j ++ Vs.drop (j + 1)) rfl (by rw [HD0.out]) kb HB1.out.size ?_
                 intro g2 cap2 w6 hrow2 hg2 hat2
                 have HR2 := Lib.hid hrow2
                 have HB2 : Hid (Below w4.heap.size w4 w6) := HB1.out.grown hg2 HB1.out.size (fun q hq => by injection hq with hq; have := HR1.out.lt; omega)
                 clear hrow2 hg2 hat2)
              | (go_simp
                 go_at_call 28
                 refine (pdj_aw true (some ⟨g2, 0, none⟩) (j + 0) cap2 (rmP ps j) _ ?hss HRL.out HRX.out ?hcp HRM.out).mono ?_
                 case hss => exact (HFIN.out _ _ _ HB2.out HR2.out)
                 case hcp => exact HR2.out.le
                 rintro e w7 ⟨rfl, hb7⟩
                 have HB7 : Hid (Below w4.heap.size w4 w7) := HB2.out.trans (hb7.mono HB2.out.size)
                 clear hb7)))
            all_goals
              go_wp2
              go_ret
              exact ⟨rfl, B4.out.trans (HB7.out.mono B4.out.size)⟩
          · have hcj' : ¬ j + 1 = c := by omega
            clear hr
            go_wp2_with fail
            go_region_law ((first
              | (refine step_appP (o := ⟨some 81, _, _, _, _, _⟩) _ (by rfl) (.tmp 77) (.tmp 80) (by rfl) w4.heap.size w4.heap.size 0 0 [] (by rfl) (slrow_nil (heap_alloc_new _ _) (Nat.le_refl _)) ⟨N, 0, none⟩ j _ (Vs.take j) (by rfl) HTL.out (HS1.out _ (by first | exact HE.out _ | exact HE2.out _)) HT1.out j (Vs.take j) (by omega) (List.nil_append _) kj (by simp) ?_
                 intro g1 cap1 w5 hrow1 hg1 hat1
                 have HR1 := Lib.hid hrow1
                 have HB1 : Hid (Below w4.heap.size w4 w5) := (by first | exact (HE.out _).grown hg1 (by simp) (fun q hq => by injection hq with hq; omega) | exact (HE2.out _).grown hg1 (by simp) (fun q hq => by injection hq with hq; omega))
                 clear hrow1 hg1 hat1)
              | (refine step_appP (o := ⟨some 86, _, _, _, _, _⟩) _ (by rfl) (.tmp 81) (.tmp 85) (by rfl) w4.heap.size g1 j cap1 (Vs.take j) (by rfl) HR1.out ⟨N, j + 1, none⟩ r _ (Vs.drop (j + 1)) (by rfl) HDL.out (HS2.out _ HB1.out) HD1.out (j + r) (Vs.take j ++ Vs.drop (j + 1)) rfl rfl kb HB1.out.size ?_
                 intro g2 cap2 w6 hrow2 hg2 hat2
                 have HR2 := Lib.hid hrow2
                 have HB2 : Hid (Below w4.heap.size w4 w6) := HB1.out.grown hg2 HB1.out.size (fun q hq => by injection hq with hq; have := HR1.out.lt; omega)
                 clear hrow2 hg2 hat2)
              | (go_simp
                 go_at_call 28
                 refine (pdj_aw true (some ⟨g2, 0, none⟩) (j + r) cap2 (rmP ps j) _ ?hss HRL.out HRX.out ?hcp HRM.out).mono ?_
                 case hss => exact (HFIN.out _ _ _ HB2.out HR2.out)
                 case hcp => exact HR2.out.le
                 rintro e w7 ⟨rfl, hb7⟩
                 have HB7 : Hid (Below w4.heap.size w4 w7) := HB2.out.trans (hb7.mono HB2.out.size)
                 clear hb7)))
            all_goals
              go_wp2
              go_ret
              exact ⟨rfl, B4.out.trans (HB7.out.mono B4.out.size)⟩
end Go.Proofs.Ytblhaccjngjekaa
