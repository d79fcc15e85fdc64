/- What the model does with caches: storing. -/
import Derived.Test.YtdlapnelehehgabCaS
namespace Go.Proofs.Ytdlapnelehehgab
open Go.RowKit
set_option linter.unusedVariables false
attribute [local go_sem ↓] Go.wp_at_zero Go.wp_at_succ

theorem sdrop_as (D : List Ls) (dv : Bool) (n : Nat) (a : Option Addr) (len cap : Nat) (L : List Ls) (key : Int) (w : World) (h : LsAt w a L) (hz : L.length = len) (hm : len ≤ maxLen) (hR : dropR L key = (D, dv)) (hn : D.length = n) :
    Calls Try.prog 13 #[.slice a len cap, .int .i64 key] w fun e w' => ∃ g c, e = .returned (.tuple #[.slice (some ⟨g, 0, none⟩) n c, .bool dv]) ∧ OwnS w' w.heap.size g c D ∧ Below w.heap.size w w' := by
  subst hn
  refine (sdrop_any a len cap L key w h hz hm).mono ?_
  rintro e w' ⟨g, c, rfl, ho, hb⟩
  rw [hR] at ho ⊢
  exact ⟨g, c, rfl, ho, hb⟩
theorem old_as (k : Nat) (a : Option Addr) (len cap : Nat) (L : List Ls) (w : World) (h : LsAt w a L) (hz : L.length = len) (hm : len ≤ maxLen) (h0 : 1 ≤ len) (hk : oldL L = k) :
    Calls Try.prog 21 #[.slice a len cap] w fun e w' => e = .returned (.int .i64 (k : Nat)) ∧ Same w w' := by subst hk; exact old_any a len cap L w h hz hm h0

set_option maxHeartbeats 4000000 in
theorem sput_any (a : Option Addr) (len cap : Nat) (L : List Ls) (key v now : Int) (w : World) (h : LsAt w a L) (hz : L.length = len) (hm : len ≤ maxLen) :
    Calls Try.prog 7 #[.slice a len cap, .int .i64 key, .int .i64 v, .int .i64 now] w (AnsS (putR L key v now) w) := by
  have HI := Lib.hid h
  have HZ := Lib.hid hz
  have HM := Lib.hid hm
  clear h hz hm
  cases hv : lvB L
  · have HR := Lib.hid (put_bad (show putOk L key v now = false by simp [putOk, hv]))
    go_enter Try.func7, Try.ntmps7
    go_wp2_with fail
    refine (slvs_as false a len cap L w HI.out HZ.out HM.out hv).mono ?_
    rintro e w2 ⟨rfl, hs⟩
    have hB2 : Below w.heap.size w w2 := hs.below _
    clear hs
    go_wp2
    go_ret2
    rw [HR.out]
    exact ⟨w2.heap.size, 0, rfl, (own_none w2 _ rfl).less hB2.size, hB2.trans ((alB w2 _).mono hB2.size)⟩
  cases hp : ptB key
  · have HR := Lib.hid (put_bad (show putOk L key v now = false by simp [putOk, hp]))
    go_enter Try.func7, Try.ntmps7
    go_wp2_with fail
    refine (slvs_as true a len cap L w HI.out HZ.out HM.out hv).mono ?_
    rintro e w2 ⟨rfl, hs⟩
    have hB2 : Below w.heap.size w w2 := hs.below _
    clear hs
    go_wp2_with fail
    refine (point_any key w2).mono ?_
    rintro e w' ⟨rfl, rfl⟩
    rw [hp]
    go_wp2
    go_ret2
    rw [HR.out]
    exact ⟨w2.heap.size, 0, rfl, (own_none w2 _ rfl).less hB2.size, hB2.trans ((alB w2 _).mono hB2.size)⟩
  cases hq : vlB v
  · have HR := Lib.hid (put_bad (show putOk L key v now = false by simp [putOk, hq]))
    go_enter Try.func7, Try.ntmps7
    go_wp2_with fail
    refine (slvs_as true a len cap L w HI.out HZ.out HM.out hv).mono ?_
    rintro e w2 ⟨rfl, hs⟩
    have hB2 : Below w.heap.size w w2 := hs.below _
    clear hs
    go_wp2_with fail
    refine (point_any key w2).mono ?_
    rintro e w' ⟨rfl, rfl⟩
    rw [hp]
    go_wp2_with fail
    refine (sval_any v w2).mono ?_
    rintro e w' ⟨rfl, rfl⟩
    rw [hq]
    go_wp2
    go_ret2
    rw [HR.out]
    exact ⟨w2.heap.size, 0, rfl, (own_none w2 _ rfl).less hB2.size, hB2.trans ((alB w2 _).mono hB2.size)⟩
  cases ht : tmB now
  · have HR := Lib.hid (put_bad (show putOk L key v now = false by simp [putOk, ht]))
    go_enter Try.func7, Try.ntmps7
    go_wp2_with fail
    refine (slvs_as true a len cap L w HI.out HZ.out HM.out hv).mono ?_
    rintro e w2 ⟨rfl, hs⟩
    have hB2 : Below w.heap.size w w2 := hs.below _
    clear hs
    go_wp2_with fail
    refine (point_any key w2).mono ?_
    rintro e w' ⟨rfl, rfl⟩
    rw [hp]
    go_wp2_with fail
    refine (sval_any v w2).mono ?_
    rintro e w' ⟨rfl, rfl⟩
    rw [hq]
    go_wp2_with fail
    refine (stime_any now w2).mono ?_
    rintro e w' ⟨rfl, rfl⟩
    rw [ht]
    go_wp2
    go_ret2
    rw [HR.out]
    exact ⟨w2.heap.size, 0, rfl, (own_none w2 _ rfl).less hB2.size, hB2.trans ((alB w2 _).mono hB2.size)⟩
  have HOK : Hid (putOk L key v now = true) := by show _ = _; simp [putOk, hv, hp, hq, ht]
  have HPP := (ptB_iff key).1 hp
  have HV := Lib.hid hv
  have hdl := Nat.le_trans (drop_le L key) (lv_len hv)
  have HDR : Hid (dropR L key = (dropL L key, decide ((dropL L key).length < L.length))) := dropR_ok ((dropOk_iff _ _).2 ⟨hv, HPP⟩)
  go_enter Try.func7, Try.ntmps7
  go_wp2_with fail
  refine (slvs_as true a len cap L w HI.out HZ.out HM.out hv).mono ?_
  rintro e w2 ⟨rfl, hs⟩
  have hB2 : Below w.heap.size w w2 := hs.below _
  clear hs
  go_wp2_with fail
  refine (point_any key w2).mono ?_
  rintro e w' ⟨rfl, rfl⟩
  rw [hp]
  go_wp2_with fail
  refine (sval_any v w2).mono ?_
  rintro e w' ⟨rfl, rfl⟩
  rw [hq]
  go_wp2_with fail
  refine (stime_any now w2).mono ?_
  rintro e w' ⟨rfl, rfl⟩
  rw [ht]
  clear hv hp hq ht
  obtain ⟨D, hD⟩ : ∃ D, D = dropL L key := ⟨_, rfl⟩
  obtain ⟨dv, hdv⟩ : ∃ dv, dv = decide ((dropL L key).length < L.length) := ⟨_, rfl⟩
  rw [← hD] at hdl
  rw [← hdv, ← hD] at HDR
  clear hdv
  have HD := Lib.hid hD
  clear hD
  obtain ⟨n0, hn0⟩ : ∃ n0, D.length = n0 := ⟨_, rfl⟩
  have HN0 := Lib.hid hn0
  rw [hn0] at hdl
  clear hn0
  go_wp2_with fail
  refine (sdrop_as D dv n0 a len cap L key w2 (HI.out.keepB hB2 (Nat.le_refl _)) HZ.out HM.out HDR.out HN0.out).mono ?_
  rintro e w3 ⟨g0, c0, rfl, hown0, hb0⟩
  have HO0 := Lib.hid (hown0.less hB2.size)
  have hB3 : Below w.heap.size w w3 := hB2.trans (hb0.mono hB2.size)
  clear hown0 hb0
  rcases Decidable.em (6 ≤ n0) with hf | hf
  case' inl =>
    obtain rfl : n0 = 6 := by omega
    have hol : oldL D < 6 := by have := old_lt (L := D) (by rw [HN0.out]; omega); rw [HN0.out] at this; exact this
    have HRM : Hid (roomL L key = dropL D (gl D (oldL D)).e) := by show _ = _; rw [room_full (by rw [← HD.out, HN0.out]; omega), ← HD.out]
    have HLD : Hid (lvB D = true) := by show _ = _; rw [HD.out]; exact drop_lv HV.out key
    have hpe := lv_e HLD.out (k := oldL D) (by rw [HN0.out]; exact hol)
    have HDR2 : Hid (dropR D (gl D (oldL D)).e = (dropL D (gl D (oldL D)).e, true)) := dropR_had ((dropOk_iff _ _).2 ⟨HLD.out, hpe⟩) true (by simp; exact ⟨_, gl_mem (by rw [HN0.out]; exact hol), rfl⟩)
    obtain ⟨j, hj⟩ : ∃ j, oldL D = j := ⟨_, rfl⟩
    have HJ := Lib.hid hj
    rw [hj] at hol HRM HDR2
    clear hj hpe
    obtain ⟨M, hM⟩ : ∃ M, M = dropL D (gl D j).e := ⟨_, rfl⟩
    rw [← hM] at HRM HDR2
    clear hM
    obtain ⟨n, hn⟩ : ∃ n, M.length = n := ⟨_, rfl⟩
    have HZM := Lib.hid hn
    clear hn
    have hmx : 6 ≤ maxLen := by unfold maxLen; omega
    have HMX := Lib.hid hmx
    clear hmx
    go_wp2_with fail
    refine (old_as j (some ⟨g0, 0, none⟩) 6 c0 D w3 HO0.out.ls HN0.out HMX.out (by omega) HJ.out).mono ?_
    rintro e w4 ⟨rfl, hs4⟩
    have hc4 := (hs4.cell ⟨g0, j * 3, none⟩).trans (HO0.out.cells (i := j) (by rw [HN0.out]; exact hol)).1
    have hB4 : Below w.heap.size w w4 := hB3.trans ((hs4.below _).mono hB3.size)
    have HO4 := Lib.hid (HO0.out.keepB (hs4.below _) (Nat.le_refl _))
    have j0 : (0 : Int) ≤ (j : Int) := by omega
    have j1 : (j : Int) < ((6 : Nat) : Int) := by omega
    have j2 : (j : Int) < 6 := by omega
    clear hs4
    go_wp2_with fail
    refine (sdrop_as M true n (some ⟨g0, 0, none⟩) 6 c0 D (gl D j).e w4 HO4.out.ls HN0.out HMX.out HDR2.out HZM.out).mono ?_
    rintro e w5 ⟨g, c, rfl, hown, hb5⟩
    have HO := Lib.hid (hown.less hB4.size)
    have hB5 : Below w.heap.size w w5 := hB4.trans (hb5.mono hB4.size)
    clear hown hb5 hc4 j0 j1 j2 HO0 HO4 hB3 hB4
    go_wp2
  case' inr =>
    have hol : True := trivial
    have hf' : ¬ (6 : Int) ≤ (n0 : Int) := by omega
    have HRM : Hid (roomL L key = D) := by show _ = _; rw [room_some (by rw [← HD.out, HN0.out]; exact hf), ← HD.out]
    obtain ⟨M, hM⟩ : ∃ M, M = D := ⟨_, rfl⟩
    obtain ⟨g, hg⟩ : ∃ g, g = g0 := ⟨_, rfl⟩
    obtain ⟨c, hc⟩ : ∃ c, c = c0 := ⟨_, rfl⟩
    obtain ⟨n, hn⟩ : ∃ n, n = n0 := ⟨_, rfl⟩
    obtain ⟨w5, hw5⟩ : ∃ w5, w5 = w3 := ⟨_, rfl⟩
    rw [← hM] at HO0 HRM HN0
    rw [← hg, ← hc, ← hw5] at HO0
    rw [← hn] at HN0 hf'
    have HO := HO0
    have HZM := HN0
    have hB5 : Below w.heap.size w w5 := by rw [hw5]; exact hB3
    rw [← hg, ← hc, ← hw5, ← hn]
    clear hg hc hw5 hn
    go_wp2
    clear HN0 HO0 hB3 hM hf'
  all_goals
    have hml : M.length ≤ 5 := by have := room_len HV.out key; rw [HRM.out] at this; exact this
    have HR := Lib.hid (put_ok HOK.out)
    have HPL : Hid (putL L key v now = insL M (fdL M key) ⟨key, v, now⟩) := by show _ = _; unfold putL; rw [HRM.out]
    clear HRM hol hf
    rw [HZM.out] at hml
    have hcap : n ≤ c := by obtain ⟨_, _, cs, _, h4, _⟩ := HO.out.blk; rw [HZM.out] at h4; exact h4
    have hcmx : c ≤ 9223372036854775807 := by obtain ⟨_, _, cs, _, _, h4, _⟩ := HO.out.blk; unfold maxLen at h4; omega
    have hBW := Below.refl w5.heap.size w5
    obtain ⟨W, hW⟩ : ∃ W, W = w5 := ⟨_, rfl⟩
    rw [← hW] at HO hB5 hBW ⊢
    clear hW
    have hBW0 : Below w.heap.size w W := hB5
    have hWs : w.heap.size ≤ W.heap.size := hB5.size
    have hgW : g < W.heap.size := HO.out.blk.2.1
    have HST : Hid (∀ W' : World, Below W.heap.size W W' → ∀ (j : Nat) (u : Value), (flat M)[j]? = some u → W'.cell? ((⟨g, 0, none⟩ : Addr).add j) = some u) := fun W' hW => src_ls fun i hi => by
      rw [Nat.zero_add]
      exact (HO.out.keepB hW (Nat.le_refl _)).cells hi
    have HCW : Hid (∀ j, j < n → W.cell? ⟨g, j * 3, none⟩ = some (.int .i64 (gl M j).e)) := fun j hj => (HO.out.cells (i := j) (by rw [HZM.out]; exact hj)).1
    have hfl : fdL M key ≤ n := by rw [← HZM.out]; exact fd_le _ _
    go_loop [12] (fun i => ∃ k : Nat, k ≤ n ∧ i = .int .i64 k ∧ k ≤ fdL M key) (fun i => n - (intOf i).toNat)
    case atStart => exact ⟨0, by omega, rfl, by omega⟩
    case round =>
      obtain ⟨k, hk, rfl, hff⟩ := hrel
      have k0 : (0 : Int) ≤ (k : Int) := by omega
      have k1 : (k : Int) ≤ (c : Int) := by omega
      have k2 : (n : Int) ≤ (c : Int) := by omega
      by_cases hlt : k < n
      · have hck := HCW.out k hlt
        have k3 : (k : Int) < (n : Int) := by omega
        have k4 : (k : Int) ≤ (n : Int) := by omega
        cases c1 : decide ((gl M k).e < key)
        · have HKF : Hid (k = fdL M key) := by
            show k = fdL M key
            have c1n : ¬ (gl M k).e < key := by simpa using c1
            rcases Nat.lt_or_ge k (fdL M key) with h' | h'
            · exact absurd (fd_below h') c1n
            · omega
          clear hff
          have k5 : ¬ c = k := by omega
          have k6 : k ≤ c := by omega
          have k7 : k ≤ n := hk
          go_wp2
          go_region_law ((first
            | (refine step_appL (o := ⟨some 71, _, _, _, _, _⟩) _ (by rfl) (.tmp 67) (.tmp 70) (by rfl) W.heap.size _ 0 0 [] (M.take k) (by rfl) (ownL_empty (by first | exact heap_alloc_new W _ | exact heap_second W _ _ | exact heap_first W _ _ | exact heap_alloc_new _ _) (by first | (simp; done) | (simp; omega) | omega)) rfl ⟨g, 0, none⟩ k c (by rfl) (by rw [List.length_take, HZM.out]; omega) (srcL_take (HST.out _ (by repeat (first | exact hBW | apply Below.drew | (refine Below.alloc ?_ (by first | exact Nat.le_refl _ | (simp; done) | (simp; omega) | omega) _))))) k (by omega) (by omega) (by first | (simp; done) | (simp; omega) | omega) ?_
               intro g3 cap3 w3 hown3 hg3 hat3
               have hB3 : Below W.heap.size W w3 := Below.grown (by repeat (first | exact hBW | apply Below.drew | (refine Below.alloc ?_ (by first | exact Nat.le_refl _ | (simp; done) | (simp; omega) | omega) _))) hg3 (by first | (simp; done) | (simp; omega) | omega) (by first | (simp; done) | (simp; omega))
               have hz3 := hB3.size
               have hgb3 := hown3.blk.1)
            | (refine step_appL (o := ⟨some 77, _, _, _, _, _⟩) _ (by rfl) (.tmp 71) (.tmp 76) (by rfl) W.heap.size g3 k cap3 ([] ++ M.take k) [⟨key, v, now⟩] (by rfl) (by first | exact hown3 | exact hown3.keepB (alB _ _) (Nat.le_refl _)) (by rw [List.nil_append, List.length_take, HZM.out]; omega) ⟨_, 0, none⟩ 1 1 (by rfl) rfl (srcL_one (x := ⟨key, v, now⟩) (by first | exact heap_alloc_new w3 _ | exact (hg3.block _ (by first | (simp; done) | (simp; omega) | omega) (by first | (simp; done) | (simp; omega))).trans (heap_second W _ _) | exact (hg3.block _ (by first | (simp; done) | (simp; omega) | omega) (by first | (simp; done) | (simp; omega))).trans (heap_first W _ _))) (k + 1) rfl (by omega) (by first | exact hz3 | (simp; omega)) ?_
               intro g4 cap4 w4 hown4 hg4 hat4
               have hB4 : Below W.heap.size W w4 := Below.grown (by repeat (first | exact hB3 | apply Below.drew | (refine Below.alloc ?_ (by first | exact Nat.le_refl _ | (simp; done) | (simp; omega) | omega) _))) hg4 (by first | exact hz3 | (simp; omega)) (fun _ hk => by cases hk; exact hgb3)
               have hz4 := hB4.size
               have hgb4 := hown4.blk.1)
            | (refine step_appL (o := ⟨some 81, _, _, _, _, _⟩) _ (by rfl) (.tmp 77) (.tmp 80) (by rfl) W.heap.size g4 (k + 1) cap4 ([] ++ M.take k ++ [⟨key, v, now⟩]) (M.drop k) (by rfl) hown4 (by simp [HZM.out]; try omega) ⟨g, k * 3, none⟩ (n - k) (c - k) (by rfl) (by rw [List.length_drop, HZM.out]) (srcL_drop (HST.out _ (by repeat (first | exact hB4 | apply Below.drew | (refine Below.alloc ?_ (by first | exact Nat.le_refl _ | (simp; done) | (simp; omega) | omega) _))))) (n + 1) (by omega) (by omega) hz4 ?_
               intro g5 cap5 w5 hown5 hg5 hat5
               have hB5 : Below W.heap.size W w5 := Below.grown (by repeat (first | exact hB4 | apply Below.drew | (refine Below.alloc ?_ (by first | exact Nat.le_refl _ | (simp; done) | (simp; omega) | omega) _))) hg5 hz4 (fun _ hk => by cases hk; exact hgb4))))
          all_goals
            have hO5 := Lib.hid (hown5.less (base' := w.heap.size) hWs)
            have hF5 : Below w.heap.size w w5 := hBW0.trans (hB5.mono hWs)
            clear hown5 hg5 hat5 hown3 hown4 hg3 hg4 hat3 hat4
            go_wp2
            go_ret2
            rw [HR.out]
            refine ⟨g5, cap5, ?_, ?_, hF5⟩
            · rw [HPL.out, ins_len, HZM.out]; rfl
            · have h9 := hO5.out
              rw [HPL.out, ← HKF.out]
              simpa [insL] using h9
        · have hf2 : Hid (k + 1 ≤ fdL M key) := by
            show k + 1 ≤ fdL M key
            have c1n : (gl M k).e < key := by simpa using c1
            rcases Nat.lt_or_ge k (fdL M key) with h' | h'
            · exact h'
            · have h2 : fdL M key = k := by omega
              have := fd_at (L := M) (key := key) (by rw [HZM.out]; omega)
              rw [h2] at this; omega
          go_wp2
          go_round
          case rel => exact ⟨k + 1, by omega, by go_num, hf2.out⟩
          case measure => simp [intOf]; omega
      · obtain rfl : k = n := by omega
        have HKF : Hid (k = fdL M key) := by
          show k = fdL M key
          omega
        clear hff hlt
        by_cases hck : k = c
        · subst hck
          go_wp2
          go_region_law ((first
            | (refine step_appL (o := ⟨some 71, _, _, _, _, _⟩) _ (by rfl) (.tmp 67) (.tmp 70) (by rfl) W.heap.size _ 0 0 [] (M.take k) (by rfl) (ownL_empty (by first | exact heap_alloc_new W _ | exact heap_second W _ _ | exact heap_first W _ _ | exact heap_alloc_new _ _) (by first | (simp; done) | (simp; omega) | omega)) rfl ⟨g, 0, none⟩ k k (by rfl) (by rw [List.length_take, HZM.out]; omega) (srcL_take (HST.out _ (by repeat (first | exact hBW | apply Below.drew | (refine Below.alloc ?_ (by first | exact Nat.le_refl _ | (simp; done) | (simp; omega) | omega) _))))) k (by omega) (by omega) (by first | (simp; done) | (simp; omega) | omega) ?_
               intro g3 cap3 w3 hown3 hg3 hat3
               have hB3 : Below W.heap.size W w3 := Below.grown (by repeat (first | exact hBW | apply Below.drew | (refine Below.alloc ?_ (by first | exact Nat.le_refl _ | (simp; done) | (simp; omega) | omega) _))) hg3 (by first | (simp; done) | (simp; omega) | omega) (by first | (simp; done) | (simp; omega))
               have hz3 := hB3.size
               have hgb3 := hown3.blk.1)
            | (refine step_appL (o := ⟨some 77, _, _, _, _, _⟩) _ (by rfl) (.tmp 71) (.tmp 76) (by rfl) W.heap.size g3 k cap3 ([] ++ M.take k) [⟨key, v, now⟩] (by rfl) (by first | exact hown3 | exact hown3.keepB (alB _ _) (Nat.le_refl _)) (by rw [List.nil_append, List.length_take, HZM.out]; omega) ⟨_, 0, none⟩ 1 1 (by rfl) rfl (srcL_one (x := ⟨key, v, now⟩) (by first | exact heap_alloc_new w3 _ | exact (hg3.block _ (by first | (simp; done) | (simp; omega) | omega) (by first | (simp; done) | (simp; omega))).trans (heap_second W _ _) | exact (hg3.block _ (by first | (simp; done) | (simp; omega) | omega) (by first | (simp; done) | (simp; omega))).trans (heap_first W _ _))) (k + 1) rfl (by omega) (by first | exact hz3 | (simp; omega)) ?_
               intro g4 cap4 w4 hown4 hg4 hat4
               have hB4 : Below W.heap.size W w4 := Below.grown (by repeat (first | exact hB3 | apply Below.drew | (refine Below.alloc ?_ (by first | exact Nat.le_refl _ | (simp; done) | (simp; omega) | omega) _))) hg4 (by first | exact hz3 | (simp; omega)) (fun _ hk => by cases hk; exact hgb3)
               have hz4 := hB4.size
               have hgb4 := hown4.blk.1)
            | (refine step_appL (o := ⟨some 81, _, _, _, _, _⟩) _ (by rfl) (.tmp 77) (.tmp 80) (by rfl) W.heap.size g4 (k + 1) cap4 ([] ++ M.take k ++ [⟨key, v, now⟩]) [] (by rfl) hown4 (by simp [HZM.out]; try omega) ⟨g, 0, none⟩ 0 0 (by rfl) rfl (srcL_none _ _) (k + 1) (by omega) (by omega) hz4 ?_
               intro g5 cap5 w5 hown5 hg5 hat5
               have hB5 : Below W.heap.size W w5 := Below.grown (by repeat (first | exact hB4 | apply Below.drew | (refine Below.alloc ?_ (by first | exact Nat.le_refl _ | (simp; done) | (simp; omega) | omega) _))) hg5 hz4 (fun _ hk => by cases hk; exact hgb4))))
          all_goals
            have hO5 := Lib.hid (hown5.less (base' := w.heap.size) hWs)
            have hF5 : Below w.heap.size w w5 := hBW0.trans (hB5.mono hWs)
            clear hown5 hg5 hat5 hown3 hown4 hg3 hg4 hat3 hat4
            go_wp2
            go_ret2
            rw [HR.out]
            refine ⟨g5, cap5, ?_, ?_, hF5⟩
            · rw [HPL.out, ins_len, HZM.out]; rfl
            · have h9 := hO5.out
              rw [HPL.out, ← HKF.out]
              simpa [insL, List.drop_eq_nil_of_le (show M.length ≤ k by rw [HZM.out]; omega)] using h9
        · have g1 : k ≤ c := by omega
          have g3' : ¬ c = k := by omega
          go_wp2
          go_region_law ((first
            | (refine step_appL (o := ⟨some 71, _, _, _, _, _⟩) _ (by rfl) (.tmp 67) (.tmp 70) (by rfl) W.heap.size _ 0 0 [] (M.take k) (by rfl) (ownL_empty (by first | exact heap_alloc_new W _ | exact heap_second W _ _ | exact heap_first W _ _ | exact heap_alloc_new _ _) (by first | (simp; done) | (simp; omega) | omega)) rfl ⟨g, 0, none⟩ k c (by rfl) (by rw [List.length_take, HZM.out]; omega) (srcL_take (HST.out _ (by repeat (first | exact hBW | apply Below.drew | (refine Below.alloc ?_ (by first | exact Nat.le_refl _ | (simp; done) | (simp; omega) | omega) _))))) k (by omega) (by omega) (by first | (simp; done) | (simp; omega) | omega) ?_
               intro g3 cap3 w3 hown3 hg3 hat3
               have hB3 : Below W.heap.size W w3 := Below.grown (by repeat (first | exact hBW | apply Below.drew | (refine Below.alloc ?_ (by first | exact Nat.le_refl _ | (simp; done) | (simp; omega) | omega) _))) hg3 (by first | (simp; done) | (simp; omega) | omega) (by first | (simp; done) | (simp; omega))
               have hz3 := hB3.size
               have hgb3 := hown3.blk.1)
            | (refine step_appL (o := ⟨some 77, _, _, _, _, _⟩) _ (by rfl) (.tmp 71) (.tmp 76) (by rfl) W.heap.size g3 k cap3 ([] ++ M.take k) [⟨key, v, now⟩] (by rfl) (by first | exact hown3 | exact hown3.keepB (alB _ _) (Nat.le_refl _)) (by rw [List.nil_append, List.length_take, HZM.out]; omega) ⟨_, 0, none⟩ 1 1 (by rfl) rfl (srcL_one (x := ⟨key, v, now⟩) (by first | exact heap_alloc_new w3 _ | exact (hg3.block _ (by first | (simp; done) | (simp; omega) | omega) (by first | (simp; done) | (simp; omega))).trans (heap_second W _ _) | exact (hg3.block _ (by first | (simp; done) | (simp; omega) | omega) (by first | (simp; done) | (simp; omega))).trans (heap_first W _ _))) (k + 1) rfl (by omega) (by first | exact hz3 | (simp; omega)) ?_
               intro g4 cap4 w4 hown4 hg4 hat4
               have hB4 : Below W.heap.size W w4 := Below.grown (by repeat (first | exact hB3 | apply Below.drew | (refine Below.alloc ?_ (by first | exact Nat.le_refl _ | (simp; done) | (simp; omega) | omega) _))) hg4 (by first | exact hz3 | (simp; omega)) (fun _ hk => by cases hk; exact hgb3)
               have hz4 := hB4.size
               have hgb4 := hown4.blk.1)
            | (refine step_appL (o := ⟨some 81, _, _, _, _, _⟩) _ (by rfl) (.tmp 77) (.tmp 80) (by rfl) W.heap.size g4 (k + 1) cap4 ([] ++ M.take k ++ [⟨key, v, now⟩]) [] (by rfl) hown4 (by simp [HZM.out]; try omega) ⟨g, k * 3, none⟩ 0 (c - k) (by rfl) rfl (srcL_none _ _) (k + 1) (by omega) (by omega) hz4 ?_
               intro g5 cap5 w5 hown5 hg5 hat5
               have hB5 : Below W.heap.size W w5 := Below.grown (by repeat (first | exact hB4 | apply Below.drew | (refine Below.alloc ?_ (by first | exact Nat.le_refl _ | (simp; done) | (simp; omega) | omega) _))) hg5 hz4 (fun _ hk => by cases hk; exact hgb4))))
          all_goals
            have hO5 := Lib.hid (hown5.less (base' := w.heap.size) hWs)
            have hF5 : Below w.heap.size w w5 := hBW0.trans (hB5.mono hWs)
            clear hown5 hg5 hat5 hown3 hown4 hg3 hg4 hat3 hat4
            go_wp2
            go_ret2
            rw [HR.out]
            refine ⟨g5, cap5, ?_, ?_, hF5⟩
            · rw [HPL.out, ins_len, HZM.out]; rfl
            · have h9 := hO5.out
              rw [HPL.out, ← HKF.out]
              simpa [insL, List.drop_eq_nil_of_le (show M.length ≤ k by rw [HZM.out]; omega)] using h9
end Go.Proofs.Ytdlapnelehehgab
