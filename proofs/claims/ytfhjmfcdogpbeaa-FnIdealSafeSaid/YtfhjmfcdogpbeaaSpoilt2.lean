/- Drawing rings that are often not safe: l91Spoilt. -/
import Derived.Test.YtfhjmfcdogpbeaaSpoilt
namespace Go.Proofs.Ytfhjmfcdogpbeaa
open Go.RowKit
set_option linter.unusedVariables false

theorem sp_set {q K : Nat} {w w5 : World} (hg : w.grownBy w5 (some q)) (hr : Ready w5 q K) (hq : q < w.heap.size) {p : Addr} (hp : w.heap.size ≤ p.block) (u : Value) : w.grownBy (w5.setCell p u) (some q) ∧ Ready (w5.setCell p u) q K :=
  ⟨⟨hg.os, hg.tape, hg.output, by simpa [World.setCell] using hg.size, fun k hk hne => (Below.heap_setCell w5 p u k (by omega)).trans (hg.block k hk hne)⟩, hr.keep (fun i hi => Below.heap_setCell w5 p u i (by omega))⟩
theorem grown_drew (w : World) (q : Nat) : w.grownBy w.drew (some q) := ⟨rfl, rfl, rfl, Nat.le_refl _, fun _ _ _ => rfl⟩
theorem size_set (w : World) (p : Addr) (u : Value) : (w.setCell p u).heap.size = w.heap.size := by simp [World.setCell]
theorem sp_end {q K N cap : Nat} {w w6 : World} {F : Nat → Nat} {r : List Nd} (hg : w.grownBy w6 (some q)) (hr : Ready w6 q K) (ho : RingOwn w6 w.heap.size w6.heap.size N r F) (h1 : r.length ≤ cap) (h2 : cap ≤ maxLen) (h10 : r.length ≤ 10) : ∀ n, n = r.length → Spoilt q K w (.returned (.slice (some ⟨N, 0, none⟩) n cap)) w6 :=
  fun n hn => ⟨N, cap, F, r, by rw [hn], ho, h1, h2, h10, hr, hg⟩
theorem own_cells {w : World} {lo hi N : Nat} {r : List Nd} {F : Nat → Nat} (h : RingOwn w lo hi N r F) {k : Nat} (hk : k < r.length) : ∃ c, w.cell? ⟨N, k * 3, none⟩ = some (.int .i64 (gn r k).pos) ∧ w.cell? ⟨N, k * 3 + 1, none⟩ = some (.int .i64 (gn r k).bef) ∧ w.cell? ⟨N, k * 3 + 2, none⟩ = some (.slice (some ⟨F k, 0, none⟩) (gn r k).aft.length c) ∧ (gn r k).aft.length ≤ c ∧ c ≤ maxLen ∧ (∀ i, w.frozen? ⟨N, i, none⟩ = false) := by
  obtain ⟨cs, hb, hc⟩ := h.row
  obtain ⟨c0, c1, c, c2, c3, c4⟩ := hc k hk
  exact ⟨c, by rw [cell_of_cells hb]; exact c0, by rw [cell_of_cells hb]; exact c1, by rw [cell_of_cells hb]; exact c2, c3, c4, fun i => frozen_of_cells hb i⟩
theorem own_ints {w : World} {lo hi N : Nat} {r : List Nd} {F : Nat → Nat} (h : RingOwn w lo hi N r F) {k : Nat} (hk : k < r.length) : (∀ p, p < (gn r k).aft.length → w.cell? ⟨F k, p, none⟩ = some (.int .i64 (gt (gn r k).aft p))) ∧ ∀ i, w.frozen? ⟨F k, i, none⟩ = false := by
  obtain ⟨ds, hd, hdc⟩ := h.inn k hk
  exact ⟨fun p hp => by rw [cell_of_cells hd]; exact hdc p hp, fun i => frozen_of_cells hd i⟩
/-- a ring in blocks of its own as a list of nodes with their slices -/
theorem own_list {w : World} {lo hi N : Nat} {r : List Nd} {F : Nat → Nat} (h : RingOwn w lo hi N r F) : ∃ L : List (Nd × Value), L.map (·.1) = r ∧ (∀ j u, (flatL L)[j]? = some u → w.cell? ⟨N, j, none⟩ = some u) ∧ OwnL w lo L F := by
  obtain ⟨cs, hb, hc⟩ := h.row
  have hch : ∃ C : Nat → Nat, ∀ i, i < r.length → cs[i * 3 + 2]? = some (.slice (some ⟨F i, 0, none⟩) (gn r i).aft.length (C i)) ∧ (gn r i).aft.length ≤ C i ∧ C i ≤ maxLen := by
    classical
    refine ⟨fun i => if hi : i < r.length then Classical.choose (hc i hi).2.2 else 0, fun i hi => ?_⟩
    simp only [dif_pos hi]
    exact Classical.choose_spec (hc i hi).2.2
  obtain ⟨C, hC⟩ := hch
  let L : List (Nd × Value) := (List.range r.length).map fun i => (gn r i, .slice (some ⟨F i, 0, none⟩) (gn r i).aft.length (C i))
  have hL : ∀ i, i < r.length → L[i]? = some (gn r i, .slice (some ⟨F i, 0, none⟩) (gn r i).aft.length (C i)) := fun i hi => by simp [L, hi]
  have hLl : L.length = r.length := by simp [L]
  refine ⟨L, ?_, fun j u hu => ?_, fun i p hp => ?_, fun i j hi hj => h.inj i j (by omega) (by omega)⟩
  · refine List.ext_getElem (by simp [L]) fun i h1 h2 => ?_
    simp [L, gn_get h2]
  · have hj : j < L.length * 3 := by
      have := (List.getElem?_eq_some_iff.1 hu).1
      rw [flatL_len] at this; exact this
    have hi : j / 3 < r.length := by rw [← hLl]; omega
    obtain ⟨f0, f1, f2⟩ := flatL_at (hL _ hi)
    have hm : j = j / 3 * 3 ∨ j = j / 3 * 3 + 1 ∨ j = j / 3 * 3 + 2 := by omega
    obtain ⟨c0, c1, _⟩ := hc _ hi
    rw [cell_of_cells hb]
    rcases hm with e | e | e
    · rw [e] at hu ⊢; rw [f0] at hu; rw [← hu]; exact c0
    · rw [e] at hu ⊢; rw [f1] at hu; rw [← hu]; exact c1
    · rw [e] at hu ⊢; rw [f2] at hu; rw [← hu]; exact (hC _ hi).1
  · have hi : i < r.length := by have := (List.getElem?_eq_some_iff.1 hp).1; omega
    rw [hL i hi] at hp
    injection hp with hp
    subst hp
    exact ⟨⟨C i, rfl, (hC i hi).2⟩, h.inn i hi, (h.inF i hi).1⟩
theorem OwnL.off {w : World} {lo g : Nat} {L : List (Nd × Value)} {F : Nat → Nat} (h : OwnL w lo L F) (hg : ∀ i, i < L.length → F i ≠ g) : ∀ p ∈ L, IntsOff w g p.2 p.1.aft := by
  intro p hp
  obtain ⟨i, hi, e⟩ := List.getElem_of_mem hp
  obtain ⟨⟨c, hv, h1, h2⟩, ⟨ds, hd, hdc⟩, _⟩ := h.1 i p (by rw [List.getElem?_eq_getElem hi, e])
  exact ⟨_, c, hv, h1, h2, .inr ⟨F i, 0, rfl, hg i hi, heap_lt hd, fun j hj => by rw [Nat.zero_add, cell_of_cells hd]; exact hdc j hj⟩⟩
theorem ownL_cut {w : World} {lo k : Nat} {L : List (Nd × Value)} {F : Nat → Nat} (h : OwnL w lo L F) (hk : k < L.length) : OwnL w lo (L.take k ++ L.drop (k + 1)) (fun i => if i < k then F i else F (i + 1)) := by
  have hl : (L.take k).length = k := by simp; omega
  refine ⟨fun i p hp => ?_, fun i j hi hj he => ?_⟩
  · by_cases e : i < k
    · simp only [if_pos e]
      rw [List.getElem?_append_left (by omega), List.getElem?_take, if_pos e] at hp
      exact h.1 i p hp
    · simp only [if_neg e]
      rw [List.getElem?_append_right (by omega), List.getElem?_drop, hl, show k + 1 + (i - k) = i + 1 by omega] at hp
      exact h.1 (i + 1) p hp
  · simp at hi hj
    by_cases e1 : i < k
    · by_cases e2 : j < k
      · simp only [if_pos e1, if_pos e2] at he; exact h.2 i j (by omega) (by omega) he
      · simp only [if_pos e1, if_neg e2] at he; have := h.2 i (j + 1) (by omega) (by omega) he; omega
    · by_cases e2 : j < k
      · simp only [if_neg e1, if_pos e2] at he; have := h.2 (i + 1) j (by omega) (by omega) he; omega
      · simp only [if_neg e1, if_neg e2] at he; have := h.2 (i + 1) (j + 1) (by omega) (by omega) he; omega

set_option maxHeartbeats 4000000 in
theorem spoilt_any (q K : Nat) (w : World) (h : Ready w q (K + 140)) :
    Calls Try.prog 44 #[.pointer (some ⟨q, 0, none⟩)] w (Spoilt q K w) := by
  have hq := h.lt
  have HR := Lib.hid h
  clear h
  go_enter Try.func44, Try.ntmps44
  go_wp2_with fail
  refine (ring_any q (K + 8) w HR.out).mono ?_
  rintro e w1 ⟨N1, c1, F1, r, rfl, ho1, h11, h12, hs1, hr1, hg1⟩
  have HO1 := Lib.hid ho1
  have HS := Lib.hid hs1
  have HV := Lib.hid (safe_rv hs1)
  have HR1 := Lib.hid hr1
  have h3 := safe_three hs1
  have h10 := rv_len HV.out
  clear ho1 h11 h12 hs1 hr1
  go_wp2_with fail
  refine (copy_any _ _ c1 r w1 HO1.out.ring rfl HV.out).mono ?_
  rintro e w2 ⟨N, cap, F, rfl, ho2, h21, h22, hB2⟩
  have hz1 := hg1.size
  have HO2 := Lib.hid (ho2.wide hz1 (Nat.le_refl _))
  have HC := Lib.hid (And.intro h21 h22)
  have HR2 := Lib.hid (HR1.out.below hB2 (by omega))
  have hg2 : w.grownBy w2 (some q) := grown_trans hg1 ⟨hB2.os, hB2.tape, hB2.output, hB2.size, fun k hk _ => hB2.block k hk⟩
  have hN := ho2.inN.1
  clear ho2 h21 h22
  go_wp2_with fail
  refine (pick_r q (K + 7) 3 w2 HR2.out (by omega) (by omega)).mono ?_
  rintro e w3 ⟨v3, hv30, hv31, rfl, hr3, hk3⟩
  have HO3 := Lib.hid (own_kept HO2.out hk3 hq)
  have HR3 := Lib.hid hr3
  have hg3 : w.grownBy w3 (some q) := grown_trans hg2 hk3.grown
  clear hr3
  by_cases hv3 : 0 < v3
  · have d0 : decide (0 < v3) = true := by simp; omega
    go_wp2
    go_ret
    exact sp_end hg3 (HR3.out.less (by omega)) HO3.out HC.out.1 HC.out.2 h10 _ rfl
  have d0 : decide (0 < v3) = false := by simp; omega
  go_wp2_with fail
  clear d0
  refine (pick_r q (K + 6) _ w3 HR3.out (by omega) (by omega)).mono ?_
  rintro e w4 ⟨v4, hv40, hv41, rfl, hr4, hk4⟩
  obtain ⟨k, rfl⟩ := Int.eq_ofNat_of_zero_le hv40
  have hk : k < r.length := by omega
  have HO4 := Lib.hid (own_kept HO3.out hk4 hq)
  have HR4 := Lib.hid hr4
  have hg4 : w.grownBy w4 (some q) := grown_trans hg3 hk4.grown
  clear hr4
  go_wp2_with fail
  refine (pick_r q (K + 5) 7 w4 HR4.out (by omega) (by omega)).mono ?_
  rintro e w5 ⟨v5, hv50, hv51, rfl, hr5, hk5⟩
  have HO5 := Lib.hid (own_kept HO4.out hk5 hq)
  have HR5 := Lib.hid hr5
  have hg5 : w.grownBy w5 (some q) := grown_trans hg4 hk5.grown
  have hNw : w.heap.size ≤ N := by omega
  have hl2 : (gn r k).aft.length = 2 := by rw [(nd_open HV.out hk).2.2.2.2]; rfl
  have hFk := HO5.out.inF k hk
  clear hr5
  have hcase : v5 = 0 ∨ v5 = 1 ∨ v5 = 2 ∨ v5 = 3 ∨ v5 = 4 ∨ v5 = 5 ∨ v5 = 6 := by omega
  have q0 : (0 : Int) ≤ (k : Int) := by omega
  have q1 : (k : Int) < (r.length : Int) := by omega
  clear hv50 hv51 hv40 hv41 hv30 hv31 hv3
  rcases hcase with rfl | rfl | rfl | rfl | rfl | rfl | rfl
  · go_wp2_with fail
    refine (pick_r q (K + 4) 66 w5 HR5.out (by omega) (by omega)).mono ?_
    rintro e w6 ⟨v6, hv60, hv61, rfl, hr6, hk6⟩
    have HO6 := Lib.hid (own_kept HO5.out hk6 hq)
    have HR6 := Lib.hid hr6
    have hg6 : w.grownBy w6 (some q) := grown_trans hg5 hk6.grown
    clear hr6
    obtain ⟨c, e0, e1, e2, _, _, ef⟩ := own_cells HO6.out hk
    go_wp2
    go_ret
    obtain ⟨hg7, hr7⟩ := sp_set hg6 (HR6.out.less (show K ≤ _ by omega)) hq (p := ⟨N, k * 3 + 1, none⟩) hNw (.int .i64 (v6 - 1))
    exact sp_end hg7 hr7 (by rw [size_set]; exact own_bef_set HO6.out hk _) (by rw [List.length_set]; exact HC.out.1) HC.out.2 (by rw [List.length_set]; exact h10) _ (by simp)
  · obtain ⟨c, e0, e1, e2, hc1, hc2, ef⟩ := own_cells HO5.out hk
    rw [hl2] at e2 hc1
    obtain ⟨wo, rfl⟩ : ∃ x, x = w5 := ⟨_, rfl⟩
    go_wp2_with fail
    go_region_held3 (fun w' => w'.cell? ⟨N, k * 3 + 2, none⟩ = some (.slice (some ⟨F k, 0, none⟩) 2 c))
      (first | exact hS8 | exact hS6 | exact e2 | exact ((kept_cell w8 (F k) p6 (.int .i64 v8)).cell (p := ⟨N, k * 3 + 2, none⟩) (by show N ≠ F k; omega)).trans hS8)
      (first | (go_at_call 54; refine (pick_r q (K + 4) 2 wo.drew (HR5.out.keep (fun _ _ => rfl)) (by omega) (by omega)).mono ?_; rintro e w6 ⟨v6, hv60, hv61, rfl, hr6, hk6⟩; have hO6 := own_kept (w := wo.drew) (HO5.out.kept (fun _ _ _ => rfl)) hk6 hq; obtain ⟨c', _, _, hS6', _⟩ := own_cells hO6 hk; have hS6 : w6.cell? ⟨N, k * 3 + 2, none⟩ = some (.slice (some ⟨F k, 0, none⟩) 2 c) := (hk6.cell (p := ⟨N, k * 3 + 2, none⟩) (by show N ≠ q; omega)).trans e2; clear hS6') | (go_at_call 70; refine (point_r q (K + 2) w6 (hr6.less (by omega))).mono ?_; rintro e w8 ⟨v8, hv80, hv81, rfl, hr8, hk8⟩; have hS8 : w8.cell? ⟨N, k * 3 + 2, none⟩ = some (.slice (some ⟨F k, 0, none⟩) 2 c) := (hk8.cell (p := ⟨N, k * 3 + 2, none⟩) (by show N ≠ q; omega)).trans hS6; obtain ⟨p6, rfl⟩ := Int.eq_ofNat_of_zero_le hv60; have hO8 := own_kept hO6 hk8 hq; obtain ⟨hi8, hf8⟩ := own_ints hO8 hk; have hcp := hi8 p6 (by omega); have hfp := hf8 p6; have hp2 : (p6 : Int) < 2 := (by omega); have hp0 : (0 : Int) ≤ (p6 : Int) := (by omega)))
    have HO8 := Lib.hid hO8
    have HR8 := Lib.hid hr8
    have hg8 : w.grownBy w8 (some q) := grown_trans hg5 (grown_trans (grown_trans (grown_drew _ _) hk6.grown) hk8.grown)
    clear hO8 hr8 hi8 hf8 hcp hfp hO6 hr6
    go_wp2
    go_ret
    obtain ⟨hg7, hr7⟩ := sp_set hg8 (HR8.out.less (show K ≤ _ by omega)) hq (p := ⟨F k, p6, none⟩) hFk.1 (.int .i64 v8)
    exact sp_end hg7 hr7 (by rw [size_set]; exact own_inner HO8.out hk p6 v8 (by omega)) (by rw [List.length_set]; exact HC.out.1) HC.out.2 (by rw [List.length_set]; exact h10) _ (by simp)
  · go_wp2_with fail
    refine (point_r q (K + 3) w5 HR5.out).mono ?_
    rintro e w6 ⟨v6, hv60, hv61, rfl, hr6, hk6⟩
    have HO6 := Lib.hid (own_kept HO5.out hk6 hq)
    have HR6 := Lib.hid hr6
    have hg6 : w.grownBy w6 (some q) := grown_trans hg5 hk6.grown
    clear hr6
    obtain ⟨c, e0, e1, e2, _, _, ef⟩ := own_cells HO6.out hk
    go_wp2
    go_ret
    obtain ⟨hg7, hr7⟩ := sp_set hg6 (HR6.out.less (show K ≤ _ by omega)) hq (p := ⟨N, k * 3, none⟩) hNw (.int .i64 v6)
    exact sp_end hg7 hr7 (by rw [size_set]; exact own_pos_set HO6.out hk _) (by rw [List.length_set]; exact HC.out.1) HC.out.2 (by rw [List.length_set]; exact h10) _ (by simp)
  · obtain ⟨c, e0, e1, e2, hc1, hc2, ef⟩ := own_cells HO5.out hk
    rw [hl2] at e2 hc1
    obtain ⟨wo, rfl⟩ : ∃ x, x = w5 := ⟨_, rfl⟩
    go_wp2_with fail
    go_region_with ((go_at_call 54; refine (pick_r q (K + 4) 2 wo.drew (HR5.out.keep (fun _ _ => rfl)) (by omega) (by omega)).mono ?_; rintro e w6 ⟨v6, hv60, hv61, rfl, hr6, hk6⟩; have hO6 := own_kept (w := wo.drew) (HO5.out.kept (fun _ _ _ => rfl)) hk6 hq; have hS6 : w6.cell? ⟨N, k * 3 + 2, none⟩ = some (.slice (some ⟨F k, 0, none⟩) 2 c) := (hk6.cell (p := ⟨N, k * 3 + 2, none⟩) (by show N ≠ q; omega)).trans e2; obtain ⟨p6, rfl⟩ := Int.eq_ofNat_of_zero_le hv60; obtain ⟨c', f0, f1, f2, _, _, ff⟩ := own_cells hO6 hk; have hp2 : (p6 : Int) ≤ (c : Int) := (by omega); have hp0 : (0 : Int) ≤ (p6 : Int) := (by omega); have hp3 : p6 ≤ c := (by omega); have hfz := ff (k * 3 + 2); clear f0 f1 f2 ff))
    all_goals
      have HO6 := Lib.hid hO6
      have HR6 := Lib.hid hr6
      have hg6 : w.grownBy w6 (some q) := grown_trans hg5 (grown_trans (grown_drew _ _) hk6.grown)
      clear hO6 hr6 hfz
      go_wp2
      go_ret
      obtain ⟨hg7, hr7⟩ := sp_set hg6 (HR6.out.less (show K ≤ _ by omega)) hq (p := ⟨N, k * 3 + 2, none⟩) hNw (.slice (some ⟨F k, 0, none⟩) p6 c)
      exact sp_end hg7 hr7 (by rw [size_set]; exact own_aft_cut HO6.out hk p6 c (by omega) (by omega) hc2) (by rw [List.length_set]; exact HC.out.1) HC.out.2 (by rw [List.length_set]; exact h10) _ (by simp)
  · obtain ⟨wo, rfl⟩ : ∃ x, x = w5 := ⟨_, rfl⟩
    obtain ⟨L, hLm, hLc, hLo⟩ := own_list HO5.out
    have hLl : L.length = r.length := by have := congrArg List.length hLm; simpa using this
    have hNlt := HO5.out.inN.2
    have HFL : Hid (∀ i, i < L.length → F i < wo.heap.size) := fun i hi => (HO5.out.inF i (by omega)).2.1
    have HLI : Hid (∀ p ∈ L, IntsOff wo wo.heap.size p.2 p.1.aft) := hLo.off (fun i hi => by have := HFL.out i hi; omega)
    have HLM := Lib.hid hLm
    have HLC := Lib.hid hLc
    have HLL := Lib.hid hLl
    have HOL := Lib.hid hLo
    have hwz : w.heap.size ≤ wo.heap.size := hg5.size
    clear hLm hLc hLl hLo
    have hcap := HC.out.1
    have hcapm := HC.out.2
    unfold maxLen at hcapm
    have g1 : (k : Int) ≤ (r.length : Int) := by omega
    have g2 : (k : Int) ≤ (cap : Int) := by omega
    have g3 : (k : Int) + 1 ≤ (r.length : Int) := by omega
    have g4 : (k : Int) + 1 ≤ (cap : Int) := by omega
    have g5 : (0 : Int) ≤ (k : Int) + 1 := by omega
    have x0 : IntKind.i64.wrap ((k : Int) + 1) = k + 1 := by rw [IntKind.wrap_i64]; omega
    have HBA : Hid (∀ o, Below wo.heap.size wo (wo.alloc o).drew) := fun o => ((Below.refl _ _).alloc (Nat.le_refl _) _).drew
    by_cases hck : cap = k + 1
    · have hlk : r.length = k + 1 := by omega
      have HLK := Lib.hid hlk
      have HCK := Lib.hid hck
      have g9 : (k : Int) ≤ (k : Int) + 1 := by omega
      go_wp2_with fail
      go_region_law ((first | (refine step_appN (o := ⟨some 67, _, _, _, _, _⟩) _ (by rfl) (.tmp 63) (.tmp 66) (by rfl) wo.heap.size wo.heap.size 0 0 [] (L.take k) (by rfl) (rowL_new wo _ rfl) rfl ⟨N, 0, none⟩ k _ (by rfl) (by rw [List.length_take, HLL.out]; omega) (fun j u hu => by rw [add_plain, Nat.zero_add]; exact ((HBA.out _).cell (p := ⟨N, j, none⟩) hNlt).trans (HLC.out j u (flat_take hu))) (fun p hp => (HLI.out p (List.mem_of_mem_take hp)).keepB (HBA.out _) (Nat.le_refl _)) k (by omega) (by omega) (by simp) ?_; intro g3 cap3 w3' hown3 hg3' hat3; have hB3 : Below wo.heap.size wo w3' := (HBA.out _).grown hg3' (by simp) (fun q hq => by injection hq with hq; omega); have hg31 := hown3.blk.1) | (refine step_appN (o := ⟨some 72, _, _, _, _, _⟩) _ (by rfl) (.tmp 67) (.tmp 71) (by rfl) wo.heap.size g3 k cap3 ([] ++ L.take k) [] (by rfl) hown3 (by rw [List.nil_append, List.length_take, HLL.out]; omega) ⟨N, 0, none⟩ 0 0 (by rfl) rfl (fun j u hu => by simp [flatL] at hu) (fun p hp => by cases hp) k (by omega) (by omega) hB3.size ?_; intro g7 cap7 w7 hown7 hg7' hat7; have hB7 : Below wo.heap.size wo w7 := hB3.grown hg7' hB3.size (fun q hq => by injection hq with hq; omega))))
      have hown7' : RowL w7 wo.heap.size g7 cap7 (L.take k ++ L.drop (k + 1)) := by simpa [List.drop_eq_nil_of_le (show L.length ≤ k + 1 by rw [HLL.out]; omega)] using hown7
      have hol : OwnL w7 w.heap.size L F := HOL.out.kept (fun i hi => hB7.block _ (HFL.out i hi))
      have hfin := own_of_row hown7' (ownL_cut hol (by rw [HLL.out]; exact hk)) (r := cutR r k) (by rw [List.map_append, List.map_take, List.map_drop, HLM.out]; rfl) (by have := hown7'.blk.1; omega)
      have hlen7 := hown7'.blk
      have HFIN := Lib.hid hfin
      have HLEN : Hid ((cutR r k).length ≤ cap7 ∧ cap7 ≤ maxLen) := by
        obtain ⟨_, _, _, _, h1, h2, _⟩ := hlen7
        have e : (L.take k ++ L.drop (k + 1)).length = (cutR r k).length := by rw [cut_len hk, List.length_append, List.length_take, List.length_drop, HLL.out]; omega
        exact ⟨by rw [← e]; exact h1, h2⟩
      have hg7 : w.grownBy w7 (some q) := grown_trans hg5 ⟨hB7.os, hB7.tape, hB7.output, hB7.size, fun k hk _ => hB7.block k hk⟩
      have HR7 := Lib.hid ((HR5.out.less (show K ≤ _ by omega)).below hB7 (by omega))
      clear hown7 hown7' hol hfin hlen7 hg7' hat7 hown3 hg3' hat3
      go_wp2
      go_ret
      exact sp_end hg7 HR7.out HFIN.out HLEN.out.1 HLEN.out.2 (by rw [cut_len hk]; omega) _ (by rw [cut_len hk]; omega)
    · have g6 : ¬ cap = k + 1 := hck
      have g7 : k + 1 ≤ r.length := by omega
      have g8 : k + 1 ≤ cap := by omega
      go_wp2_with fail
      go_region_law ((first | (refine step_appN (o := ⟨some 67, _, _, _, _, _⟩) _ (by rfl) (.tmp 63) (.tmp 66) (by rfl) wo.heap.size wo.heap.size 0 0 [] (L.take k) (by rfl) (rowL_new wo _ rfl) rfl ⟨N, 0, none⟩ k cap (by rfl) (by rw [List.length_take, HLL.out]; omega) (fun j u hu => by rw [add_plain, Nat.zero_add]; exact ((HBA.out _).cell (p := ⟨N, j, none⟩) hNlt).trans (HLC.out j u (flat_take hu))) (fun p hp => (HLI.out p (List.mem_of_mem_take hp)).keepB (HBA.out _) (Nat.le_refl _)) k (by omega) (by omega) (by simp) ?_; intro g3 cap3 w3' hown3 hg3' hat3; have hB3 : Below wo.heap.size wo w3' := (HBA.out _).grown hg3' (by simp) (fun q hq => by injection hq with hq; omega); have hg31 := hown3.blk.1) | (refine step_appN (o := ⟨some 72, _, _, _, _, _⟩) _ (by rfl) (.tmp 67) (.tmp 71) (by rfl) wo.heap.size g3 k cap3 ([] ++ L.take k) (L.drop (k + 1)) (by rfl) hown3 (by rw [List.nil_append, List.length_take, HLL.out]; omega) ⟨N, (k + 1) * 3, none⟩ (r.length - (k + 1)) (cap - (k + 1)) (by rfl) (by rw [List.length_drop, HLL.out]) (fun j u hu => by rw [add_plain]; exact (hB3.cell (p := ⟨N, (k + 1) * 3 + j, none⟩) hNlt).trans (HLC.out _ u (flat_drop (by rw [HLL.out]; omega) hu))) (fun p hp => (((HLI.out p (List.mem_of_mem_drop hp)).toV).offNew hg31).keepB hB3 (Nat.le_refl _)) (r.length - 1) (by omega) (by omega) hB3.size ?_; intro g7 cap7 w7 hown7 hg7' hat7; have hB7 : Below wo.heap.size wo w7 := hB3.grown hg7' hB3.size (fun q hq => by injection hq with hq; omega))))
      have hown7' : RowL w7 wo.heap.size g7 cap7 (L.take k ++ L.drop (k + 1)) := by simpa using hown7
      have hol : OwnL w7 w.heap.size L F := HOL.out.kept (fun i hi => hB7.block _ (HFL.out i hi))
      have hfin := own_of_row hown7' (ownL_cut hol (by rw [HLL.out]; exact hk)) (r := cutR r k) (by rw [List.map_append, List.map_take, List.map_drop, HLM.out]; rfl) (by have := hown7'.blk.1; omega)
      have hlen7 := hown7'.blk
      have HFIN := Lib.hid hfin
      have HLEN : Hid ((cutR r k).length ≤ cap7 ∧ cap7 ≤ maxLen) := by
        obtain ⟨_, _, _, _, h1, h2, _⟩ := hlen7
        have e : (L.take k ++ L.drop (k + 1)).length = (cutR r k).length := by rw [cut_len hk, List.length_append, List.length_take, List.length_drop, HLL.out]; omega
        exact ⟨by rw [← e]; exact h1, h2⟩
      have hg7 : w.grownBy w7 (some q) := grown_trans hg5 ⟨hB7.os, hB7.tape, hB7.output, hB7.size, fun k hk _ => hB7.block k hk⟩
      have HR7 := Lib.hid ((HR5.out.less (show K ≤ _ by omega)).below hB7 (by omega))
      clear hown7 hown7' hol hfin hlen7 hg7' hat7 hown3 hg3' hat3
      go_wp2
      go_ret
      exact sp_end hg7 HR7.out HFIN.out HLEN.out.1 HLEN.out.2 (by rw [cut_len hk]; omega) _ (by rw [cut_len hk])
  · obtain ⟨c, e0, e1, e2, hc1, hc2, ef⟩ := own_cells HO5.out hk
    rw [hl2] at e2 hc1
    obtain ⟨wo, rfl⟩ : ∃ x, x = w5 := ⟨_, rfl⟩
    go_wp2_with fail
    go_region_with ((go_at_call 54; refine (pick_r q (K + 4) _ wo.drew (HR5.out.keep (fun _ _ => rfl)) (by omega) (by omega)).mono ?_; rintro e w6 ⟨v6, hv60, hv61, rfl, hr6, hk6⟩; have hO6 := own_kept (w := wo.drew) (HO5.out.kept (fun _ _ _ => rfl)) hk6 hq; have hS6 : w6.cell? ⟨N, k * 3 + 2, none⟩ = some (.slice (some ⟨F k, 0, none⟩) 2 c) := (hk6.cell (p := ⟨N, k * 3 + 2, none⟩) (by show N ≠ q; omega)).trans e2; obtain ⟨j, rfl⟩ := Int.eq_ofNat_of_zero_le hv60; have hj : j < r.length := (by omega); have hcj := own_pos hO6 hj; obtain ⟨hi6, hf6⟩ := own_ints hO6 hk; have hcp := hi6 0 (by omega); have hfp := hf6 0; have g0 : (0 : Int) ≤ (j : Int) := (by omega); have g1 : (j : Int) < (r.length : Int) := (by omega)))
    all_goals
      have HO6 := Lib.hid hO6
      have HR6 := Lib.hid hr6
      have hg6 : w.grownBy w6 (some q) := grown_trans hg5 (grown_trans (grown_drew _ _) hk6.grown)
      clear hO6 hr6 hi6 hf6 hcp hfp
      go_wp2
      go_ret
      obtain ⟨hg7, hr7⟩ := sp_set hg6 (HR6.out.less (show K ≤ _ by omega)) hq (p := ⟨F k, 0, none⟩) hFk.1 (.int .i64 (gn r j).pos)
      exact sp_end hg7 hr7 (by rw [size_set]; exact own_inner HO6.out hk 0 _ (by omega)) (by rw [List.length_set]; exact HC.out.1) HC.out.2 (by rw [List.length_set]; exact h10) _ (by simp)
  · go_wp2_with fail
    refine (pick_r q (K + 4) _ w5 HR5.out (by omega) (by omega)).mono ?_
    rintro e w6 ⟨v6, hv60, hv61, rfl, hr6, hk6⟩
    have HO6 := Lib.hid (own_kept HO5.out hk6 hq)
    have HR6 := Lib.hid hr6
    have hg6 : w.grownBy w6 (some q) := grown_trans hg5 hk6.grown
    clear hr6
    obtain ⟨c, e0, e1, e2, _, _, ef⟩ := own_cells HO6.out hk
    obtain ⟨j, rfl⟩ := Int.eq_ofNat_of_zero_le hv60
    have hj : j < r.length := by omega
    obtain ⟨cj, f0, _⟩ := own_cells HO6.out hj
    have g0 : (0 : Int) ≤ (j : Int) := by omega
    have g1 : (j : Int) < (r.length : Int) := by omega
    go_wp2
    go_ret
    obtain ⟨hg7, hr7⟩ := sp_set hg6 (HR6.out.less (show K ≤ _ by omega)) hq (p := ⟨N, k * 3 + 1, none⟩) hNw (.int .i64 (gn r j).pos)
    exact sp_end hg7 hr7 (by rw [size_set]; exact own_bef_set HO6.out hk _) (by rw [List.length_set]; exact HC.out.1) HC.out.2 (by rw [List.length_set]; exact h10) _ (by simp)
end Go.Proofs.Ytfhjmfcdogpbeaa
