/- Lookups: members and fingers, as the program finds them. -/
import Derived.Test.YtlkpgkhggknphaaLookV
namespace Go.Proofs.Ytlkpgkhggknphaa
open Go.RowKit
set_option linter.unusedVariables false

attribute [local go_sem ↓] Go.wp_at_zero Go.wp_at_succ

/-- the first place of a number, or -1 -/
def IxPost (zs : List Int) (n : Int) (w : World) (e : Ending) (w' : World) : Prop :=
  w = w' ∧ ((∃ k : Nat, k < zs.length ∧ gt zs k = n ∧ hasB zs n = true ∧ e = .returned (.int .i64 k)) ∨ (hasB zs n = false ∧ e = .returned (.int .i64 (-1))))

set_option maxHeartbeats 1000000 in
theorem index_any (a : Option Addr) (len cap : Nat) (zs : List Int) (n : Int) (w : World) (h : IntsAt w a zs) (hz : zs.length = len) (hm : len ≤ maxLen) :
    Calls Try.prog 46 #[.slice a len cap, .int .i64 n] w (IxPost zs n w) := by
  unfold maxLen at hm
  have HI := Lib.hid h
  have HZ := Lib.hid hz
  clear h hz
  go_enter Try.func46, Try.ntmps46
  go_wp2
  go_loop [8] (fun i => ∃ k : Nat, k ≤ len ∧ i = .int .i64 k ∧ NotTo zs n k) (fun i => len - (intOf i).toNat)
  case atStart => exact ⟨0, by omega, rfl, notTo_zero _ _⟩
  case round =>
    obtain ⟨k, hk, rfl, hn⟩ := hrel
    by_cases hlt : k < len
    · have h' : ∃ b off, a = some ⟨b, off, none⟩ ∧ w.cell? ⟨b, off + k, none⟩ = some (.int .i64 (gt zs k)) := by
        rcases HI.out with h0 | ⟨b, off, ha, hb, hc⟩
        · have := HZ.out; rw [h0] at this; simp at this; omega
        · exact ⟨b, off, ha, hc k (by rw [HZ.out]; exact hlt)⟩
      obtain ⟨b, off, ha, hc⟩ := h'
      subst ha
      rcases he : (n == gt zs k) with _ | _
      · have he' : ¬ gt zs k = n := by intro e; rw [e] at he; simp at he
        have HE := Lib.hid he'
        clear he'
        go_wp2
        go_round
        case rel => exact ⟨k + 1, by omega, by go_num, notTo_succ hn HE.out⟩
        case measure => simp [intOf]; omega
      · have he' : gt zs k = n := by have := he; simp at this; exact this.symm
        have HE := Lib.hid he'
        clear he'
        go_wp2
        go_ret
        exact ⟨rfl, .inl ⟨k, by rw [HZ.out]; exact hlt, HE.out, has_at (by rw [HZ.out]; exact hlt) HE.out, rfl⟩⟩
    · go_wp2
      go_ret
      exact ⟨rfl, .inr ⟨has_none (by rw [HZ.out, show len = k by omega]; exact hn), rfl⟩⟩

set_option maxHeartbeats 1000000 in
theorem contains_any (a : Option Addr) (len cap : Nat) (zs : List Int) (n : Int) (w : World) (h : IntsAt w a zs) (hz : zs.length = len) (hm : len ≤ maxLen) :
    Calls Try.prog 31 #[.slice a len cap, .int .i64 n] w fun e w' => e = .returned (.bool (hasB zs n)) ∧ w = w' := by
  have HI := Lib.hid h
  have HZ := Lib.hid hz
  have HM := Lib.hid hm
  clear h hz hm
  go_enter Try.func31, Try.ntmps31
  go_wp2_with fail
  refine (index_any a len cap zs n w HI.out HZ.out HM.out).mono ?_
  rintro e w1 ⟨rfl, ⟨k, hk, hg, hh, rfl⟩ | ⟨hh, rfl⟩⟩
  · have HH := Lib.hid hh
    clear hh hg
    have hk0 : (0 : Int) ≤ (k : Int) := by omega
    go_wp2
    go_ret
    exact ⟨ret_bool HH.out.symm, rfl⟩
  · have HH := Lib.hid hh
    clear hh
    go_wp2
    go_ret
    exact ⟨ret_bool HH.out.symm, rfl⟩

set_option maxHeartbeats 1000000 in
theorem member_any (a : Option Addr) (len cap : Nat) (zs : List Int) (id : Int) (w : World) (h : IntsAt w a zs) (hz : zs.length = len) (hm : len ≤ maxLen) :
    Calls Try.prog 16 #[.slice a len cap, .int .i64 id] w fun e w' => e = .returned (.bool (memB zs id)) ∧ w = w' := by
  have HI := Lib.hid h
  have HZ := Lib.hid hz
  have HM := Lib.hid hm
  clear h hz hm
  cases hv : vldB zs
  · have He : Hid (memB zs id = false) := by show memB zs id = false; simp [memB, hv]
    go_enter Try.func16, Try.ntmps16
    go_wp2_with fail
    refine (nvalid_any a len cap zs w HI.out HZ.out HM.out).mono ?_
    rintro e w1 ⟨rfl, rfl⟩
    go_wp2
    go_ret
    exact ⟨ret_bool He.out.symm, rfl⟩
  · have He : Hid (memB zs id = hasB zs id) := by show memB zs id = hasB zs id; simp [memB, hv]
    go_enter Try.func16, Try.ntmps16
    go_wp2_with fail
    refine (nvalid_any a len cap zs w HI.out HZ.out HM.out).mono ?_
    rintro e w1 ⟨rfl, rfl⟩
    go_wp2_with fail
    refine (contains_any a len cap zs id w HI.out HZ.out HM.out).mono ?_
    rintro e w2 ⟨rfl, rfl⟩
    go_wp2
    go_ret
    exact ⟨ret_bool He.out.symm, rfl⟩

theorem own_of_row {w : World} {N base : Nat} {zs : List Int} (h : RowOf w N zs) (hb : base ≤ N) (hm : zs.length ≤ maxLen) : OwnI w base (some ⟨N, 0, none⟩) zs.length zs := by
  obtain ⟨c, hc, hs, hi⟩ := h
  refine ⟨by rw [vals_len]; omega, .inr ⟨N, zs.length, c, rfl, hb, hc, Nat.le_refl _, hm, by rw [hs]; omega, ?_⟩⟩
  rw [Nat.mul_one]
  apply List.ext_getElem?
  intro i
  rcases Nat.lt_or_ge i zs.length with h' | h'
  · rw [vals_get h', List.getElem?_take_of_lt h', Array.getElem?_toList]
    exact hi i h'
  · rw [List.getElem?_eq_none (by simp; omega), List.getElem?_eq_none (by rw [vals_len]; exact h')]

set_option maxHeartbeats 2000000 in
theorem fingers_any (a : Option Addr) (len cap : Nat) (zs : List Int) (id : Int) (w : World) (h : IntsAt w a zs) (hz : zs.length = len) (hm : len ≤ maxLen) :
    Calls Try.prog 13 #[.slice a len cap, .int .i64 id] w (NewInts (fgV zs id) w) := by
  have HI := Lib.hid h
  have HZ := Lib.hid hz
  have HM := Lib.hid hm
  clear h hz hm
  cases hv : memB zs id
  · have He : Hid (fgV zs id = []) := fgV_no hv
    go_enter Try.func13, Try.ntmps13
    go_wp2_with fail
    refine (member_any a len cap zs id w HI.out HZ.out HM.out).mono ?_
    rintro e w1 ⟨rfl, rfl⟩
    go_wp2
    go_ret
    rw [He.out]
    exact new_of_sofar (sofar_new w _ rfl)
  have He : Hid (fgV zs id = fgTo zs id 6) := fgV_yes hv
  have HVL := Lib.hid (memB_yes hv).1
  obtain ⟨hi0, hi1⟩ := vld_pt (memB_yes hv).1 (memB_yes hv).2
  have hmk := run_make_row' (P := Try.prog) 23 3 (.int .i64 0) 8 Try.underlying23 Try.infoInt rfl .i64 .i64 6 (by omega) (by omega)
  have e6 : ((6 : Nat) : Int) = 6 := rfl
  rw [e6] at hmk
  clear e6
  go_enter Try.func13, Try.ntmps13
  go_wp2_with fail
  refine (member_any a len cap zs id w HI.out HZ.out HM.out).mono ?_
  rintro e w1 ⟨rfl, rfl⟩
  go_wp2
  clear hmk
  go_loopw [15] (fun i wr => ∃ k : Nat, k ≤ 6 ∧ i = .int .i64 k ∧ wr.rowIs w.heap.size 3 6 (part (fgTo zs id 6) k) ∧ Below w.heap.size w wr ∧ wr.heap.size = w.heap.size + 1) (fun i _ => 6 - (intOf i).toNat)
  case atStart => exact ⟨0, by omega, rfl, (World.rowIs_made w (.int .i64 0) 6 3).congr (fun j _ => (part_zero _ j).symm), (Below.refl _ _).alloc (Nat.le_refl _) _, by simp⟩
  case round =>
    obtain ⟨k, hk, rfl, hrow, hbel, hsz⟩ := hrel
    have HS := Lib.hid hsz
    clear hsz
    by_cases hlt : k < 6
    · have hd := hrow.cell hlt
      have hf := hrow.frozen k
      have HR := Lib.hid hrow
      clear hrow
      obtain ⟨s, hs⟩ : ∃ s : Int, s = ((2 ^ k : Nat) : Int) := ⟨_, rfl⟩
      have hsb := pow_bd hk
      rw [← hs] at hsb
      obtain ⟨hs1, hs2⟩ := hsb
      have hnx : Hid (nxtI zs ((id + s) % 64) = gt (fgTo zs id 6) k) := by
        show nxtI zs ((id + s) % 64) = gt (fgTo zs id 6) k
        rw [gt_fgTo hlt, nxtI_eq HVL.out (by rw [ptB_iff]; omega), hs]; rfl
      have hsh : wrap64 ((2 : Int) ^ k) = s := by
        rw [hs]
        have : k = 0 ∨ k = 1 ∨ k = 2 ∨ k = 3 ∨ k = 4 ∨ k = 5 := by omega
        rcases this with rfl | rfl | rfl | rfl | rfl | rfl <;> decide +kernel
      clear hs
      have hlt' : (k : Int) < 6 := by omega
      go_wp2_with fail
      clear hsh
      refine (nnext_any a len cap zs ((id + s) % 64) wr (HI.out.keepB hbel (Nat.le_refl _)) HZ.out HM.out).mono ?_
      rintro e w2 ⟨rfl, rfl⟩
      rw [hnx.out]
      go_wp2
      go_roundw
      case rel =>
        refine ⟨k + 1, by omega, by go_num, (HR.out.set k (.int .i64 (gt (fgTo zs id 6) k))).congr (fun j _ => part_succ _ k j), hbel.setCell (Nat.le_refl _) _, ?_⟩
        simp [World.setCell]; exact HS.out
      case measure => simp [intOf]; omega
    · have hkl : k = 6 := by omega
      have HK := Lib.hid hkl
      clear hkl
      have hge : (6 : Int) ≤ (k : Int) := by omega
      go_wp2
      go_ret
      rw [He.out]
      have hl := fgTo_len zs id 6
      have hro : RowOf wr w.heap.size (fgTo zs id 6) := by
        unfold RowOf
        rw [hl]
        exact hrow.congr (fun j hj => by unfold part; rw [if_pos (by have := HK.out; omega)])
      exact ⟨w.heap.size, (fgTo zs id 6).length, by rw [hl]; rfl, own_of_row hro (Nat.le_refl _) (by rw [hl]; unfold maxLen; omega), hbel⟩

end Go.Proofs.Ytlkpgkhggknphaa
