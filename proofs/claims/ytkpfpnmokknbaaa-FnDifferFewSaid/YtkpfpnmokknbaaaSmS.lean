/- Trees of sums: the model's functions. -/
import Derived.Test.YtkpfpnmokknbaaaSmD
namespace Go.Proofs.Ytkpfpnmokknbaaa
open Go.RowKit
set_option linter.unusedVariables false

attribute [local go_sem ↓] Go.wp_at_zero Go.wp_at_succ

theorem cell_C {w : World} {g i : Nat} {ts : List Int} {t : TypeId} (hg : w.heap[g]? = some (.cells (cellsT ts) t (0, 0))) (hi : i < ts.length) : w.cell? ⟨g, i, none⟩ = some (.int .i64 (gt ts i)) := by
  rw [cell_of_cells hg]; exact cellsT_get hi
theorem set_C {w : World} {g i : Nat} {ts : List Int} {x : Int} {t : TypeId} (hg : w.heap[g]? = some (.cells (cellsT ts) t (0, 0))) : (w.setCell ⟨g, i, none⟩ (.int .i64 x)).heap[g]? = some (.cells (cellsT (ts.set i x)) t (0, 0)) := by
  rw [heap_set _ _ _ _ hg, cellsT_set]
theorem rowof_C {w : World} {g : Nat} {ts : List Int} (hg : w.heap[g]? = some (.cells (cellsT ts) 3 (0, 0))) : RowOf w g ts :=
  ⟨_, hg, cellsT_size ts, fun i hi => cellsT_get hi⟩
theorem own_C {w : World} {N base : Nat} {zs : List Int} (h : RowOf w N zs) (hb : base ≤ N) (hm : zs.length ≤ maxLen) : OwnI w base (some ⟨N, 0, none⟩) zs.length zs := by
  obtain ⟨c, hc, hs, hi⟩ := h
  refine ⟨by rw [vals_len]; omega, .inr ⟨N, zs.length, c, rfl, hb, hc, Nat.le_refl _, hm, by rw [hs]; omega, ?_⟩⟩
  rw [Nat.mul_one]
  apply List.ext_getElem?
  intro i
  rcases Nat.lt_or_ge i zs.length with h' | h'
  · rw [vals_get h', List.getElem?_take_of_lt h', Array.getElem?_toList]
    exact hi i h'
  · rw [List.getElem?_eq_none (by simp; omega), List.getElem?_eq_none (by rw [vals_len]; exact h')]

set_option maxHeartbeats 1000000 in
theorem ssum_any (x y : Int) (w : World) (hx : sB x = true) (hy : sB y = true) :
    Calls Try.prog 46 #[.int .i64 x, .int .i64 y] w fun e w' => e = .returned (.int .i64 (sumI x y)) ∧ w' = w := by
  rw [sB_iff] at hx hy
  obtain ⟨hx0, hx1⟩ := hx
  obtain ⟨hy0, hy1⟩ := hy
  have hm : (31 * x + 17 * y + 5).tmod 991 = sumI x y := rfl
  go_enter Try.func46, Try.ntmps46
  go_wp2
  go_ret
  exact ⟨rfl, rfl⟩

set_option maxHeartbeats 1000000 in
theorem svalues_any (a : Option Addr) (len cap : Nat) (zs : List Int) (many : Nat) (w : World) (h : IntsAt w a zs) (hz : zs.length = len) (hm : len ≤ maxLen) :
    Calls Try.prog 33 #[.slice a len cap, .int .i64 many] w fun e w' => e = .returned (.bool (zs.all sB && decide (len = many))) ∧ w' = w := by
  unfold maxLen at hm
  have HI := Lib.hid h
  have HZ := Lib.hid hz
  clear h hz
  go_enter Try.func33, Try.ntmps33
  go_wp2
  go_loopw [5] (fun i wr => ∃ k : Nat, k ≤ len ∧ i = .int .i64 k ∧ wr = w ∧ ∀ j, j < k → sB (gt zs j) = true) (fun i _ => len - (intOf i).toNat)
  case atStart => exact ⟨0, by omega, rfl, rfl, fun j hj => absurd hj (by omega)⟩
  case round =>
    obtain ⟨k, hk, rfl, rfl, hall⟩ := hrel
    have HA := Lib.hid hall
    clear hall
    by_cases hlt : k < len
    · have h' : ∃ b off, a = some ⟨b, off, none⟩ ∧ wr.cell? ⟨b, off + k, none⟩ = some (.int .i64 (gt zs k)) := by
        rcases HI.out with h0 | ⟨b, off, ha, hb, hc⟩
        · have := HZ.out; rw [h0] at this; simp at this; omega
        · exact ⟨b, off, ha, hc k (by rw [HZ.out]; exact hlt)⟩
      obtain ⟨b, off, ha, hc⟩ := h'
      subst ha
      have hlt' : (k : Int) < (len : Int) := by omega
      go_wp2_with fail
      refine (in_any (gt zs k) 0 990 wr).mono ?_
      rintro e w2 ⟨rfl, rfl⟩
      have hsb : decide (0 ≤ gt zs k ∧ gt zs k ≤ 990) = sB (gt zs k) := by
        rw [Bool.eq_iff_iff, decide_eq_true_eq, sB_iff]; omega
      rw [hsb]
      rcases bcase (sB (gt zs k)) with hv | hv
      · have HV := Lib.hid hv
        rw [hv]
        clear hv hsb
        go_wp2
        go_roundw
        case rel =>
          refine ⟨k + 1, by omega, by go_num, by first | rfl | trivial, fun j hj => ?_⟩
          rcases Nat.lt_or_ge j k with e | e
          · exact HA.out j e
          · have : j = k := by omega
            subst this; exact HV.out
        case measure => simp [intOf]; omega
      · have HV := Lib.hid hv
        rw [hv]
        clear hv hsb
        go_wp2
        go_ret
        refine ⟨ret_bool ?_, rfl⟩
        symm
        rw [Bool.and_eq_false_iff, List.all_eq_false]
        exact .inl ⟨gt zs k, by rw [gt_get (by rw [HZ.out]; exact hlt)]; exact List.getElem_mem _, by rw [HV.out]; decide⟩
    · have hkl : k = len := by omega
      have HK := Lib.hid hkl
      have hge : (len : Int) ≤ (k : Int) := by omega
      clear hkl hlt
      go_wp2
      go_ret
      refine ⟨ret_bool ?_, rfl⟩
      have : zs.all sB = true := gt_all (fun j hj => HA.out j (by have := HK.out; have := HZ.out; omega))
      rw [this, Bool.true_and]
      rw [Bool.eq_iff_iff]; simp; omega

theorem svalues_as (v : Bool) (a : Option Addr) (len cap : Nat) (zs : List Int) (many : Nat) (w : World) (h : IntsAt w a zs) (hz : zs.length = len) (hm : len ≤ maxLen) (hv : (zs.all sB && decide (len = many)) = v) :
    Calls Try.prog 33 #[.slice a len cap, .int .i64 many] w fun e w' => e = .returned (.bool v) ∧ w' = w :=
  hv ▸ svalues_any a len cap zs many w h hz hm
theorem right_leaf {zs ts : List Int} {k j : Nat} (h : RightFrom zs ts (k + 1)) (hj : k = 15 + j) (hk : k < 31) (hz : zs.length = 16) (hs : zs.all sB = true) : RightFrom zs (ts.set k (gt zs j)) k := by
  obtain ⟨h1, h2, h3⟩ := h
  refine ⟨by rw [List.length_set, h1], all_set h2 (all_gt hs _ (by omega)), fun i hi hi' => ?_⟩
  rw [gt_set (by omega)]
  by_cases e : i = k
  · rw [if_pos e, e, tn_leaf _ (by omega), show k - 15 = j by omega]
  · rw [if_neg e]; exact h3 i (by omega) hi'
theorem made_zT : madeCells #[.int .i64 0] 31 = cellsT zT := by kernel_rfl

set_option maxHeartbeats 2000000 in
theorem sbuild_any (a : Option Addr) (cap : Nat) (zs : List Int) (w : World) (h : IntsAt w a zs) (hz : zs.length = 16) (hs : zs.all sB = true) :
    Calls Try.prog 34 #[.slice a 16 cap] w (NewInts (bld zs) w) := by
  have hmk : ∀ w : World, (Instr.makeSlice 23 (.int .i64 31) (.int .i64 31)).run Try.prog w = .ok (.slice (some ⟨w.heap.size, 0, none⟩) 31 31) (w.alloc (.cells (madeCells #[.int .i64 0] 31) 3)) := fun w => run_make_row' (P := Try.prog) 23 3 (.int .i64 0) 8 Try.underlying23 Try.infoInt rfl .i64 .i64 31 (by omega) (by omega) w
  rw [made_zT] at hmk
  have HI := Lib.hid h
  have HZ := Lib.hid hz
  have HS := Lib.hid hs
  clear h hz hs
  go_enter Try.func34, Try.ntmps34
  go_wp2
  clear hmk
  have hR0 : RightFrom zs zT 31 := ⟨zT_len, rfl, fun i h1 h2 => by omega⟩
  have HR0 := Lib.hid hR0
  clear hR0
  go_loopw [4] (fun i wr => ∃ (k : Nat) (v : Int) (ts : List Int), k ≤ 31 ∧ i = .int .i64 v ∧ v + 1 = k ∧ RightFrom zs ts k ∧ wr.heap[w.heap.size]? = some (.cells (cellsT ts) 3 (0, 0)) ∧ Below w.heap.size w wr) (fun i _ => (intOf i + 1).toNat)
  case atStart => exact ⟨31, 30, zT, Nat.le_refl _, rfl, by decide, HR0.out, heap_alloc_new w _, (Below.refl _ _).alloc (Nat.le_refl _) _⟩
  case round =>
    obtain ⟨k, v, ts, hk, rfl, hvk, hr, hw5, hb5⟩ := hrel
    have HR := Lib.hid hr
    have HB5 := Lib.hid hb5
    have HW5 := Lib.hid hw5
    clear hr hb5 hw5
    cases k with
    | zero =>
      have hv : v < 0 := by omega
      clear hvk
      have HE := Lib.hid (right_end HR.out)
      go_wp2
      go_ret
      have hrow := own_C (rowof_C HW5.out) (Nat.le_refl _) (by rw [HR.out.1]; unfold maxLen; omega)
      have hlen := HR.out.1
      rw [HE.out] at hrow hlen
      exact ⟨w.heap.size, (bld zs).length, by rw [hlen]; rfl, hrow, HB5.out⟩
    | succ k =>
      obtain rfl : v = (k : Int) := by omega
      have hck := cell_C (i := k) HW5.out (by rw [HR.out.1]; omega)
      have hfk : wr.frozen? ⟨w.heap.size, k, none⟩ = false := frozen_of_cells HW5.out k
      have hk31 : k < 31 := by omega
      clear hvk
      rcases Nat.lt_or_ge k 15 with h15 | h15
      · have hc1 := cell_C (i := 2 * k + 1) HW5.out (by rw [HR.out.1]; omega)
        have hc2 := cell_C (i := 2 * k + 2) HW5.out (by rw [HR.out.1]; omega)
        have hs1 := all_gt HR.out.2.1 (2 * k + 1) (by rw [HR.out.1]; omega)
        have hs2 := all_gt HR.out.2.1 (2 * k + 2) (by rw [HR.out.1]; omega)
        have HN := Lib.hid (right_next HR.out h15)
        obtain ⟨x, hx⟩ : ∃ x, x = gt ts (2 * k + 1) := ⟨_, rfl⟩
        obtain ⟨y, hy⟩ : ∃ x, x = gt ts (2 * k + 2) := ⟨_, rfl⟩
        obtain ⟨z, hz⟩ : ∃ x, x = gt ts k := ⟨_, rfl⟩
        rw [← hx] at hc1 hs1 HN
        rw [← hy] at hc2 hs2 HN
        rw [← hz] at hck
        have HSX := Lib.hid hs1
        have HSY := Lib.hid hs2
        clear hx hy hz hs1 hs2
        have h15' : (k : Int) < 15 := by omega
        have n1 : ¬ k = 2 * k + 1 := by omega
        have n2 : ¬ k = 2 * k + 2 := by omega
        have b5 : (0 : Int) ≤ (k : Int) := by omega
        have b6 : (k : Int) < 31 := by omega
        have b1 : (0 : Int) ≤ 2 * (k : Int) + 1 := by omega
        have b2 : (0 : Int) ≤ 2 * (k : Int) + 2 := by omega
        have b3 : 2 * (k : Int) + 1 < 31 := by omega
        have b4 : 2 * (k : Int) + 2 < 31 := by omega
        have q0 : IntKind.i64.wrap (2 * (k : Int)) = 2 * (k : Int) := by rw [IntKind.wrap_i64]; omega
        have q1 : IntKind.i64.wrap (2 * (k : Int) + 1) = 2 * (k : Int) + 1 := by rw [IntKind.wrap_i64]; omega
        have q2 : IntKind.i64.wrap (2 * (k : Int) + 2) = 2 * (k : Int) + 2 := by rw [IntKind.wrap_i64]; omega
        have t1 : (2 * (k : Int) + 1).toNat = 2 * k + 1 := by omega
        have t2 : (2 * (k : Int) + 2).toNat = 2 * k + 2 := by omega
        have HKS : Hid (∀ (W : World) (u : Value), (W.cell? ⟨w.heap.size, 2 * k + 1, none⟩ = some (.int .i64 x) ∧ W.cell? ⟨w.heap.size, 2 * k + 2, none⟩ = some (.int .i64 y)) → ((W.setCell ⟨w.heap.size, k, none⟩ u).cell? ⟨w.heap.size, 2 * k + 1, none⟩ = some (.int .i64 x) ∧ (W.setCell ⟨w.heap.size, k, none⟩ u).cell? ⟨w.heap.size, 2 * k + 2, none⟩ = some (.int .i64 y))) := fun W u h =>
          ⟨by rw [World.cell?_setCell_other _ _ _ _ (by simp)]; exact h.1, by rw [World.cell?_setCell_other _ _ _ _ (by simp)]; exact h.2⟩
        go_wp2
        go_region_held3 (fun w' => w'.cell? ⟨w.heap.size, 2 * k + 1, none⟩ = some (.int .i64 x) ∧ w'.cell? ⟨w.heap.size, 2 * k + 2, none⟩ = some (.int .i64 y)) (first | (exact ⟨by assumption, by assumption⟩) | (exact HKS.out _ _ (by assumption)) | go_keep) (first | (go_at_call 46; refine (ssum_any x y _ HSX.out HSY.out).mono ?_; rintro e w6 ⟨rfl, rfl⟩))
        go_wp2
        go_roundw
        case rel => exact ⟨k, (k : Int) - 1, _, by omega, by go_num, by omega, HN.out, set_C HW5.out, (HB5.out.drew).setCell (Nat.le_refl _) _⟩
        case measure => simp [intOf]
      · obtain ⟨j, hj⟩ : ∃ j, k = 15 + j := ⟨k - 15, by omega⟩
        have hsrc : ∃ b off, a = some ⟨b, off, none⟩ ∧ wr.cell? ⟨b, off + j, none⟩ = some (.int .i64 (gt zs j)) := by
          rcases (HI.out.keepB HB5.out (Nat.le_refl _)) with h0 | ⟨b, off, ha, hb, hc⟩
          · have := HZ.out; rw [h0] at this; simp at this
          · exact ⟨b, off, ha, hc j (by rw [HZ.out]; omega)⟩
        obtain ⟨b, off, ha, hcs⟩ := hsrc
        subst ha
        have HN := Lib.hid (right_leaf HR.out hj hk31 HZ.out HS.out)
        obtain ⟨x, hx⟩ : ∃ x, x = gt zs j := ⟨_, rfl⟩
        rw [← hx] at hcs HN
        have hk15 : (15 : Int) ≤ (k : Int) := by omega
        have hj' : (k : Int) - 16 + 1 = (j : Int) := by omega
        have hj16 : j < 16 := by omega
        clear hx hj
        go_wp2
        go_roundw
        case rel => exact ⟨k, (k : Int) - 1, _, by omega, by go_num, by omega, HN.out, set_C HW5.out, HB5.out.setCell (Nat.le_refl _) _⟩
        case measure => simp [intOf]

end Go.Proofs.Ytkpfpnmokknbaaa
