/- The program: a node's tokens. -/
import Derived.Test.YtidabcdaodlfeaaPlP1
namespace Go.Proofs.Ytidabcdaodlfeaa
open Go.RowKit
set_option linter.unusedVariables false
attribute [local go_sem ↓] Go.wp_at_zero Go.wp_at_succ

set_option maxHeartbeats 2000000 in
theorem ptoks0_any (n wt : Int) (w : World) :
    Calls Try.prog 18 #[.int .i64 n, .int .i64 wt] w (NewInts (tkR n wt) w) := by
  obtain ⟨w1, hw1⟩ : ∃ w1, w1 = w.alloc (.cells #[] 3) := ⟨_, rfl⟩
  have H0 : Hid (IntsSoFar [] w (.slice (some ⟨w.heap.size, 0, none⟩) 0 0) w1) := by show IntsSoFar _ _ _ _; rw [hw1]; exact sofar_new w _ rfl
  have HW := Lib.hid hw1
  clear hw1
  cases hp : ptB n
  · have He : Hid (tkR n wt = []) := tkR_bad (by simp [tkOk, hp])
    go_enter Try.func18, Try.ntmps18
    go_wp2_with fail
    refine (valid_any n w).mono ?_
    rintro e w' ⟨rfl, rfl⟩
    rw [hp]
    go_wp2
    rw [← HW.out]
    go_ret
    rw [He.out]
    exact new_of_sofar H0.out
  cases hq : decide (1 ≤ wt ∧ wt ≤ 5)
  · have He : Hid (tkR n wt = []) := tkR_bad (by simp only [tkOk, hq, Bool.and_false])
    go_enter Try.func18, Try.ntmps18
    go_wp2_with fail
    refine (valid_any n w).mono ?_
    rintro e w' ⟨rfl, rfl⟩
    rw [hp]
    go_wp2_with fail
    refine (isW_any wt w).mono ?_
    rintro e w' ⟨rfl, rfl⟩
    rw [hq]
    go_wp2
    rw [← HW.out]
    go_ret
    rw [He.out]
    exact new_of_sofar H0.out
  · have hpn := (ptB_iff n).1 hp
    have hwt := of_decide_eq_true hq
    obtain ⟨m, rfl, hm1, hm5⟩ : ∃ m : Nat, wt = (m : Int) ∧ 1 ≤ m ∧ m ≤ 5 := ⟨wt.toNat, by omega, by omega, by omega⟩
    have He : Hid (tkR n m = tkL n m) := by show _ = _; rw [tkR_ok ((tkOk_iff _ _).2 ⟨hpn, hwt⟩)]; simp
    have hn0 := hpn.1
    have hn1 := hpn.2
    clear hpn hwt
    go_enter Try.func18, Try.ntmps18
    go_wp2_with fail
    refine (valid_any n w).mono ?_
    rintro e w' ⟨rfl, rfl⟩
    rw [hp]
    go_wp2_with fail
    refine (isW_any m w).mono ?_
    rintro e w' ⟨rfl, rfl⟩
    rw [hq]
    clear hp hq
    go_wp2
    rw [← HW.out]
    go_loopw [5, 18] (fun o i wr => ∃ k : Nat, k ≤ m ∧ i = .int .i64 k ∧ IntsSoFar (tkL n k) w o wr) (fun _ i _ => m - (intOf i).toNat)
    case atStart => exact ⟨0, by omega, rfl, H0.out⟩
    case round =>
      obtain ⟨k, hk, rfl, g, cap, rfl, hown, hbel⟩ := hrel
      have HO := Lib.hid hown
      have hgl := hown.lt
      clear hown
      by_cases hlt : k < m
      · have HT := Lib.hid (tkL_s n k)
        have hl := tkL_len n k
        obtain ⟨zs, hzs⟩ : ∃ zs, zs = tkL n k := ⟨_, rfl⟩
        rw [← hzs] at HO HT hl ⊢
        rw [hl]
        have HL := Lib.hid hl
        clear hzs hl
        have hws := hbel.size
        have hsq : 0 ≤ 7 * (k : Int) * (k : Int) ∧ 7 * (k : Int) * (k : Int) ≤ 112 := by
          have hc : k = 0 ∨ k = 1 ∨ k = 2 ∨ k = 3 ∨ k = 4 := by omega
          rcases hc with rfl | rfl | rfl | rfl | rfl <;> simp
        obtain ⟨hs0, hs1⟩ := hsq
        have HTM : Hid (tok n k = ((37 * n + 23 * (k : Int) + 7 * (k : Int) * (k : Int)) % 64)) := rfl
        go_wp2_with (at_builtin; have h1 := (HO.out.keepB (alB wr (.cells #[.int .i64 ((37 * n + 23 * (k : Int) + 7 * (k : Int) * (k : Int)) % 64)] 3)) (Nat.le_refl _)); have h2 := src_one (heap_alloc_new wr (.cells #[.int .i64 ((37 * n + 23 * (k : Int) + 7 * (k : Int) * (k : Int)) % 64)] 3)); unfold OwnI at h1; rw [HL.out] at h1; refine wl_app _ (by rfl) _ _ (by rfl) w.heap.size g k cap (vals zs) (by rfl) h1 ⟨wr.heap.size, 0, none⟩ 1 1 [.int .i64 ((37 * n + 23 * (k : Int) + 7 * (k : Int) * (k : Int)) % 64)] (by rfl) rfl h2 (by simp [Value.oneCell']) (k + 1) (vals (zs ++ [((37 * n + 23 * (k : Int) + 7 * (k : Int) * (k : Int)) % 64)])) rfl (by simp [vals]) (by omega) (by simp; omega) ?_; intro g' c' w3 hown3 hgr3 hat3; have H3 := Lib.hid (sofar_next (zs := zs) (z := ((37 * n + 23 * (k : Int) + 7 * (k : Int) * (k : Int)) % 64)) hbel (alB wr _) hgr3 hgl.1 (by rw [HL.out]; exact hown3)); clear hown3 hgr3 hat3 h1 h2)
        go_roundw
        case rel => exact ⟨k + 1, by omega, by go_num, by rw [HT.out, HTM.out]; have := H3.out; rw [HL.out] at this; exact this⟩
        case measure => simp [intOf]; omega
      · obtain rfl : k = m := by omega
        go_wp2
        go_ret
        rw [He.out]
        exact ⟨g, cap, rfl, HO.out, hbel⟩
theorem ptoks_any (n wt : Int) (w : World) : Calls Try.prog 18 #[.int .i64 n, .int .i64 wt] w (RowZ (tkR n wt) w) := (ptoks0_any n wt w).mono fun _ _ => rowZ_of
end Go.Proofs.Ytidabcdaodlfeaa
