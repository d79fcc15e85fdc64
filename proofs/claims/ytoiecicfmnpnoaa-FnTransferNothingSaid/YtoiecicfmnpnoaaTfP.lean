/- Transfers: the program's small functions (items, copies, valid transfers and chunks). -/
import Derived.Test.YtoiecicfmnpnoaaTfS6
import Derived.Lib.SliceRun
import Derived.BigQuiet
namespace Go.Proofs.Ytoiecicfmnpnoaa
open Go.RowKit
set_option linter.unusedVariables false

attribute [local go_sem ↓] Go.wp_at_zero Go.wp_at_succ

set_option maxHeartbeats 1000000 in
theorem psum_any (n : Int) (w : World) :
    Calls Try.prog 28 #[.int .i64 n] w fun e w' => e = .returned (.bool (itB n)) ∧ w' = w := by
  go_enter Try.func28, Try.ntmps28
  go_wp2
  all_goals
    go_ret
    exact ⟨ret_bool (by rw [Bool.eq_iff_iff]; simp [itB]; omega), rfl⟩

set_option maxHeartbeats 1000000 in
theorem psums_any (a : Option Addr) (len cap : Nat) (zs : List Int) (w : World) (h : IntsAt w a zs) (hz : zs.length = len) (hm : len ≤ maxLen) :
    Calls Try.prog 27 #[.slice a len cap] w fun e w' => e = .returned (.bool (zs.all itB)) ∧ w' = w := by
  unfold maxLen at hm
  have HI := Lib.hid h
  have HZ := Lib.hid hz
  clear h hz
  go_enter Try.func27, Try.ntmps27
  go_wp2
  go_loopw [7] (fun i wr => ∃ k : Nat, k ≤ len ∧ i = .int .i64 k ∧ wr = w ∧ ∀ j, j < k → itB (gt zs j) = true) (fun i _ => len - (intOf i).toNat)
  case atStart => exact ⟨0, by omega, rfl, rfl, fun j hj => absurd hj (by omega)⟩
  case round =>
    obtain ⟨k, hk, rfl, rfl, hall⟩ := hrel
    have HA := Lib.hid hall
    clear hall
    by_cases hlt : k < len
    · have h' : ∃ b off, a = some ⟨b, off, none⟩ ∧ wr.cell? ⟨b, off + k, none⟩ = some (.int .i64 (gt zs k)) := by
        rcases HI.out with h0 | ⟨b, off, ha, hb, hc⟩
        · have := HZ.out; rw [h0] at this; simp at this; omega
        · exact ⟨b, off, ha, hc k (by rw [HZ.out]; exact hlt)⟩
      obtain ⟨b, off, ha, hc⟩ := h'
      subst ha
      have hlt' : (k : Int) < (len : Int) := by omega
      cases hv : itB (gt zs k)
      · have HV := Lib.hid hv
        go_wp2_with fail
        refine (psum_any (gt zs k) wr).mono ?_
        rintro e w2 ⟨rfl, rfl⟩
        go_wp2
        go_ret
        refine ⟨ret_bool ?_, rfl⟩
        symm
        rw [List.all_eq_false]
        exact ⟨gt zs k, by rw [gt_get (by rw [HZ.out]; exact hlt)]; exact List.getElem_mem _, by rw [HV.out]; decide⟩
      · have HV := Lib.hid hv
        go_wp2_with fail
        refine (psum_any (gt zs k) wr).mono ?_
        rintro e w2 ⟨rfl, rfl⟩
        go_wp2
        go_roundw
        case rel =>
          refine ⟨k + 1, by omega, by go_num, by first | rfl | trivial, fun j hj => ?_⟩
          rcases Nat.lt_or_ge j k with e | e
          · exact HA.out j e
          · have : j = k := by omega
            subst this; exact HV.out
        case measure => simp [intOf]; omega
    · have hkl : k = len := by omega
      have HK := Lib.hid hkl
      clear hkl
      go_wp2
      go_ret
      refine ⟨ret_bool ?_, rfl⟩
      symm
      exact items_gt (fun j hj => HA.out j (by have := HK.out; have := HZ.out; omega))
theorem psums_as (v : Bool) (a : Option Addr) (len cap : Nat) (zs : List Int) (w : World) (h : IntsAt w a zs) (hz : zs.length = len) (hm : len ≤ maxLen) (hv : zs.all itB = v) :
    Calls Try.prog 27 #[.slice a len cap] w fun e w' => e = .returned (.bool v) ∧ w' = w := by
  subst hv; exact psums_any a len cap zs w h hz hm

set_option maxHeartbeats 1000000 in
theorem pitems_any (a : Option Addr) (len cap : Nat) (zs : List Int) (w : World) (h : IntsAt w a zs) (hz : zs.length = len) (hm : len ≤ maxLen) :
    Calls Try.prog 21 #[.slice a len cap] w fun e w' => e = .returned (.bool (itemsB zs)) ∧ w' = w := by
  have HI := Lib.hid h
  have HZ := Lib.hid hz
  have HM := Lib.hid hm
  clear h hz hm
  by_cases hl : len ≤ 20
  · have hl' : (len : Int) ≤ 20 := by omega
    rcases bcs (zs.all itB) with hv | hv
    all_goals
      have HV := Lib.hid hv
      clear hv
      go_enter Try.func21, Try.ntmps21
      go_wp2_with fail
      refine (psums_as _ a len cap zs w HI.out HZ.out HM.out HV.out).mono ?_
      rintro e w2 ⟨rfl, rfl⟩
      go_wp2
      go_ret
      refine ⟨ret_bool ?_, rfl⟩
      rw [itemsB, HV.out, HZ.out]
      simp; try omega
  · have hl' : ¬ (len : Int) ≤ 20 := by omega
    go_enter Try.func21, Try.ntmps21
    go_wp2
    go_ret
    refine ⟨ret_bool ?_, rfl⟩
    rw [itemsB, HZ.out, decide_eq_false (by omega : ¬ len ≤ 20), Bool.and_false]
theorem pitems_as (v : Bool) (a : Option Addr) (len cap : Nat) (zs : List Int) (w : World) (h : IntsAt w a zs) (hz : zs.length = len) (hm : len ≤ maxLen) (hv : itemsB zs = v) :
    Calls Try.prog 21 #[.slice a len cap] w fun e w' => e = .returned (.bool v) ∧ w' = w := by
  subst hv; exact pitems_any a len cap zs w h hz hm

/-- numbers in memory of the call's own, perhaps nil -/
def NewI (zs : List Int) (w : World) (e : Ending) (w' : World) : Prop :=
  ∃ a cap, e = .returned (.slice a zs.length cap) ∧ OwnI w' w.heap.size a cap zs ∧ Below w.heap.size w w'

set_option maxHeartbeats 1000000 in
theorem pclone_any (a : Option Addr) (len cap : Nat) (zs : List Int) (w : World) (h : IntsAt w a zs) (hz : zs.length = len) (hm : len ≤ 1000000) :
    Calls Try.prog 26 #[.slice a len cap] w (NewI zs w) := by
  have HI := Lib.hid h
  have HZ := Lib.hid hz
  have hq := fun w => Lib.run_eql_slice_nil (P := Try.prog) w 23 3 a len cap 0 0 Try.underlying23
  have HBA : Hid (∀ o, Below w.heap.size w (w.alloc o)) := fun o => (Below.refl _ _).alloc (Nat.le_refl _) _
  cases a with
  | none =>
    have h0 : zs = [] := by
      rcases h with h0 | ⟨b, off, ha, _⟩
      · exact h0
      · cases ha
    have H0 := Lib.hid h0
    clear h hz h0
    simp only [Option.isNone_none] at hq
    go_enter Try.func26, Try.ntmps26
    go_wp2
    go_ret
    rw [H0.out]
    exact ⟨none, 0, rfl, own_nilI _ _, Below.refl _ _⟩
  | some ad =>
    clear h hz
    simp only [Option.isNone_some] at hq
    go_enter Try.func26, Try.ntmps26
    go_wp2_with (at_builtin; refine wl_appS _ (by rfl) _ _ (by rfl) w.heap.size w.heap.size 0 0 [] (by rfl) (own_empty (heap_alloc_new w _) (Nat.le_refl _)) (some ad) len cap zs (by rfl) HZ.out (HI.out.keepB (HBA.out _) (Nat.le_refl _)) len (by omega) (by omega) (by simp) ?_; intro g' c' w' hown hgr hat; have HO := Lib.hid hown; have hB : Below w.heap.size w w' := (HBA.out _).grown hgr (by simp) (fun k hk => by injection hk with hk; omega); clear hown hgr hat)
    go_ret
    exact ⟨some ⟨g', 0, none⟩, c', by rw [HZ.out]; rfl, own_whole HO.out HZ.out, hB⟩

set_option maxHeartbeats 1000000 in
theorem pwith_any (a : Option Addr) (cap : Nat) (t : Tf) (n k : Int) (w : World) (h : IntsAt w a t.items) (hm : t.items.length ≤ 1000000) :
    Calls Try.prog 18 #[.agg #[.slice a t.items.length cap, .int .i64 t.nxt, .int .i64 t.ack], .int .i64 n, .int .i64 k] w (NewTf ⟨t.items, n, k⟩ w) := by
  have HI := Lib.hid h
  have HM := Lib.hid hm
  clear h hm
  obtain ⟨W, hW⟩ : ∃ W, W = (w.alloc (.cells #[.slice a t.items.length cap, .int .i64 t.nxt, .int .i64 t.ack] 25)).alloc (.cells #[.slice none 0 0, .int .i64 0, .int .i64 0] 25) := ⟨_, rfl⟩
  obtain ⟨hs, hB, h1, h2⟩ := two_newT hW
  have HB := Lib.hid hB
  have HW := Lib.hid hW
  have HS := Lib.hid hs
  have H1 := Lib.hid h1
  have H2 := Lib.hid h2
  obtain ⟨c0, c1, c2⟩ := cells3 h1
  clear hW hB hs h1 h2
  go_enter Try.func18, Try.ntmps18
  go_wp2_with fail
  rw [← HW.out]
  go_wp2_with fail
  refine (pclone_any a _ cap t.items W (HI.out.keepB HB.out (Nat.le_refl _)) rfl HM.out).mono ?_
  rintro e w2 ⟨b, cb, rfl, ho, hb2⟩
  have hz := HS.out
  have h6 := (hb2.block (w.heap.size + 1) (by omega)).trans H2.out
  obtain ⟨e0, e1, e2⟩ := cells3 h6
  have g0 := frozen_of_cells h6 0
  have g1 := frozen_of_cells h6 1
  have g2 := frozen_of_cells h6 2
  have H6 := Lib.hid h6
  have HO := Lib.hid ho
  have HB2 := Lib.hid (HB.out.trans (hb2.mono (by omega)))
  clear h6 hb2 hz ho
  go_wp2
  have hz := HS.out
  refine bodyPost_ret (results_cell_row rfl _ _ (w.heap.size + 1) _ #[.slice b t.items.length cb, .int .i64 n, .int .i64 k] (0, 0) _ rfl (set3 H6.out) Try.underlying25 rfl (by kernel_rfl)) rfl ?_
  refine ⟨b, cb, rfl, ?_, below_set3 HB2.out (by omega) _ _ _⟩
  exact (HO.out.kept (fun k h1 h2 => set3_ne (by omega))).less (by omega)

set_option maxHeartbeats 1000000 in
theorem ptv_any (a : Option Addr) (cap : Nat) (t : Tf) (w : World) (h : IntsAt w a t.items) (hm : t.items.length ≤ maxLen) :
    Calls Try.prog 12 #[.agg #[.slice a t.items.length cap, .int .i64 t.nxt, .int .i64 t.ack]] w fun e w' => e = .returned (.bool (tfB t)) ∧ Below w.heap.size w w' := by
  have HI := Lib.hid h
  have HM := Lib.hid hm
  clear h hm
  obtain ⟨W, hW⟩ : ∃ W, W = w.alloc (.cells #[.slice a t.items.length cap, .int .i64 t.nxt, .int .i64 t.ack] 25) := ⟨_, rfl⟩
  have hB : Below w.heap.size w W := by rw [hW]; exact (Below.refl _ _).alloc (Nat.le_refl _) _
  have hh : W.heap[w.heap.size]? = some (.cells #[.slice a t.items.length cap, .int .i64 t.nxt, .int .i64 t.ack] 25 (0, 0)) := by rw [hW]; exact heap_alloc_new w _
  obtain ⟨c0, c1, c2⟩ := cells3 hh
  have HB := Lib.hid hB
  have HW := Lib.hid hW
  clear hh hW hB
  have HF := Lib.hid (tfB_iff t)
  rcases bcs (itemsB t.items) with h1 | h1
  rotate_left
  · have H1 := Lib.hid h1
    clear h1
    go_enter Try.func12, Try.ntmps12
    go_wp2_with fail
    rw [← HW.out]
    go_wp2_with fail
    refine (pitems_as false a _ cap t.items W (HI.out.keepB HB.out (Nat.le_refl _)) rfl HM.out H1.out).mono ?_
    rintro e w1 ⟨rfl, rfl⟩
    go_wp2
    go_ret
    exact ⟨ret_bool (tfB_no1 H1.out).symm, HB.out⟩
  have H1 := Lib.hid h1
  clear h1
  go_enter Try.func12, Try.ntmps12
  go_wp2_with fail
  rw [← HW.out]
  go_wp2_with fail
  refine (pitems_as true a _ cap t.items W (HI.out.keepB HB.out (Nat.le_refl _)) rfl HM.out H1.out).mono ?_
  rintro e w1 ⟨rfl, rfl⟩
  go_wp2
  all_goals
    go_ret
    refine ⟨ret_bool ?_, HB.out⟩
    rw [Bool.eq_iff_iff, HF.out, H1.out]
    simp
    try omega
theorem ptv_as (v : Bool) (a : Option Addr) (cap : Nat) (t : Tf) (w : World) (h : IntsAt w a t.items) (hm : t.items.length ≤ maxLen) (hv : tfB t = v) :
    Calls Try.prog 12 #[.agg #[.slice a t.items.length cap, .int .i64 t.nxt, .int .i64 t.ack]] w fun e w' => e = .returned (.bool v) ∧ Below w.heap.size w w' := by
  subst hv; exact ptv_any a cap t w h hm
end Go.Proofs.Ytoiecicfmnpnoaa
