/- The walk of the law of transfers with failures. -/
import Derived.Test.YtmjloobakahdgabLawsTfA
import Derived.Deep.Cut
namespace Go.Proofs.Ytmjloobakahdgab
open Go.RowKit
set_option linter.unusedVariables false

attribute [local go_sem ↓] Go.wp_at_zero Go.wp_at_succ
attribute [local go_sem ↓] run_min2p

def CrashJ (zs : List Int) (L : Nat) (W : World) (B : Nat) (gv iv : Value) (wr : World) : Prop :=
  ∃ (i g : Nat) (x : Tf) (got : List Int) (ax : Option Addr) (cx : Nat) (ay : Option Addr) (cy : Nat), gv = .slice ay got.length cy ∧ iv = .int .i64 i ∧ i ≤ 120 ∧ CrashAt zs L i g x got ∧ XAt W B x got ax cx ay cy wr

set_option maxHeartbeats 4000000 in
theorem transferCrash (s : Option Addr) (len cap : Nat) (z : List Int) (s2 : Option Addr) (len2 cap2 : Nat) (z2 : List Int) (w : World) (h : RowIn .u8 w s len cap z) (h2 : RowIn .u8 w s2 len2 cap2 z2) :
    Calls Try.prog 8 #[.slice s len cap, .slice s2 len2 cap2] w fun e w' => e = .returned (.bool true) ∧ Below w.heap.size w w' := by
  have hb := bytes_of_row h
  have hb2 := bytes_of_row h2
  have hm : len ≤ maxLen := Nat.le_trans hb.1 hb.2.1
  have hm2 : len2 ≤ maxLen := Nat.le_trans hb2.1 hb2.2.1
  unfold maxLen at hm hm2
  clear h h2 hb2
  by_cases hl : 1048576 < len
  · go_enter Try.func8, Try.ntmps8
    go_wp2
    go_ret
    exact ⟨rfl, Below.refl _ _⟩
  by_cases hl2 : 1048576 < len2
  · go_enter Try.func8, Try.ntmps8
    go_wp2
    go_ret
    exact ⟨rfl, Below.refl _ _⟩
  have hlB : decide ((1048576 : Int) < (len : Int)) = false := by simp; omega
  have hlB2 : decide ((1048576 : Int) < (len2 : Int)) = false := by simp; omega
  have HY := Lib.hid hb
  clear hb
  go_enter Try.func8, Try.ntmps8
  go_wp2_with fail
  refine (drawTransferNew s len cap w HY.out).mono ?_
  rintro e w1 ⟨a, ca, zs, rfl, hi, hzl, hzc, hb1⟩
  have HI := Lib.hid hi.ints
  have HB1 := Lib.hid hb1
  have hmx : zs.length ≤ maxLen := by unfold maxLen; omega
  have HMX := Lib.hid hmx
  clear hi hb1 hmx
  obtain ⟨R, hR⟩ : ∃ R, R = newT zs := ⟨_, rfl⟩
  obtain ⟨V, hV⟩ : ∃ V, V = itemsB zs := ⟨_, rfl⟩
  have hRl : R.items.length ≤ 20 := by
    rw [hR]; unfold newT
    by_cases h : itemsB zs = true
    · rw [if_pos h]; exact items_len h
    · rw [if_neg h]; exact Nat.zero_le _
  have HP : Hid (∀ w, IntsAt w a zs → Calls Try.prog 26 #[.slice a zs.length ca] w (NewTfB R V w)) := fun w h => by rw [hR, hV]; exact pnew_any a _ ca zs w h rfl HMX.out
  have HQ : Hid (∀ w, IntsAt w a zs → Calls Try.prog 27 #[.slice a zs.length ca] w (NewTfB R V w)) := fun w h => by rw [hR, hV]; exact snew_any a _ ca zs w h rfl HMX.out
  have HY2 : Hid (V = true → R = ⟨zs, 0, 0⟩ ∧ itemsB zs = true) := fun h => by
    rw [hV] at h
    rw [hR]
    exact ⟨newT_yes h, h⟩
  clear hR hV
  go_wp2_with fail
  refine (HP.out w1 HI.out).mono ?_
  rintro e w2 ⟨ag, cg, rfl, hog, hb2⟩
  have HG := Lib.hid (own_ints hog)
  have HGC := Lib.hid (own_cap hog)
  have HGL : Hid (∀ p, ag = some p → p.block < w2.heap.size) := fun p hp => (own_lt2 hog p hp).2
  have HB12 := Lib.hid hb2
  have HB2 := Lib.hid (HB1.out.trans (hb2.mono HB1.out.size))
  have HI2 : Hid (∀ o, IntsAt (w2.alloc o) a zs) := fun o => HI.out.keepB (hb2.alloc hb2.size o) (Nat.le_refl _)
  clear hog hb2
  go_wp2_with fail
  refine (HQ.out _ (HI2.out _)).mono ?_
  rintro e w3 ⟨aw, cw, rfl, how, hb3⟩
  have hst : ∀ o, StTf (w3.alloc o) w2.heap.size ag cg R := fun o => st_keep st_new ((hb3.alloc hb3.size o).block _ (by simp))
  have HW := Lib.hid (own_ints how)
  have HX : Hid (Below w2.heap.size w2 w3) := ((Below.refl _ _).alloc (Nat.le_refl _) _).trans (hb3.mono (by simp))
  have HLT : Hid (w2.heap.size < w3.heap.size) := by have := hb3.size; simp at this; show _ < _; omega
  have HST : Hid (∀ o w', Below (w3.alloc o).heap.size (w3.alloc o) w' → StTf w' w2.heap.size ag cg R) := fun o w' hb => st_keep (hst o) (hb.block _ (by simp; have := HLT.out; omega))
  have r0 : ∀ o, (w3.alloc o).cell? ⟨w2.heap.size, 0, none⟩ = some (.slice ag R.items.length cg) := fun o => (hst o).1
  have r1 : ∀ o, (w3.alloc o).cell? ⟨w2.heap.size, 1, none⟩ = some (.int .i64 R.nxt) := fun o => (hst o).2.1
  have r2 : ∀ o, (w3.alloc o).cell? ⟨w2.heap.size, 2, none⟩ = some (.int .i64 R.ack) := fun o => (hst o).2.2
  clear how hb3 hst
  cases V
  · have hVV : (false != false) = false := rfl
    have hVW : (false == false) = true := rfl
    go_wp2_with fail
    obtain ⟨S3, hS3⟩ : ∃ S3, S3 = w3.alloc (.cells #[.slice aw R.items.length cw, .int .i64 R.nxt, .int .i64 R.ack] 26) := ⟨_, rfl⟩
    rw [← hS3]
    have HA3 : Hid (Below w3.heap.size w3 S3) := by show Below _ _ _; rw [hS3]; exact (Below.refl _ _).alloc (Nat.le_refl _) _
    have HSA : Hid (∀ w', Below S3.heap.size S3 w' → StTf w' w2.heap.size ag cg R) := by show ∀ _, _ → _; rw [hS3]; exact HST.out _
    have hsw : StTf S3 w3.heap.size aw cw R := by rw [hS3]; exact st_new
    have HSW : Hid (∀ w', Below S3.heap.size S3 w' → StTf w' w3.heap.size aw cw R) := fun w' hb => st_keep hsw (hb.block _ (by rw [hS3]; simp))
    have HB3 : Hid (Below w.heap.size w S3) := HB2.out.trans ((HX.out.trans (HA3.out.mono HX.out.size)).mono HB2.out.size)
    have HG3 : Hid (IntsAt S3 ag R.items) := (HG.out.keepB HX.out (Nat.le_refl _)).keepB HA3.out (Nat.le_refl _)
    have HW3 : Hid (IntsAt S3 aw R.items) := HW.out.keepB HA3.out (Nat.le_refl _)
    clear hS3 hsw r0 r1 r2
    refine (sameTf_any ag aw cg cw R S3 HG3.out HW3.out (by omega)).mono ?_
    rintro e w4 ⟨rfl, hb4⟩
    have HB4 := Lib.hid hb4
    obtain ⟨x0, x1, x2⟩ := HSA.out w4 hb4
    obtain ⟨y0, y1, y2⟩ := HSW.out w4 hb4
    clear hb4
    go_wp2_with fail
    refine (sameTf_any ag aw cg cw R w4 (HG3.out.keepB HB4.out (Nat.le_refl _)) (HW3.out.keepB HB4.out (Nat.le_refl _)) (by omega)).mono ?_
    rintro e w5 ⟨rfl, hb5⟩
    have HB5 := Lib.hid (HB4.out.trans (hb5.mono HB4.out.size))
    clear hb5 x0 x1 x2 y0 y1 y2
    go_wp2
    go_ret
    exact ⟨rfl, HB3.out.trans (HB5.out.mono HB3.out.size)⟩
  · have hVV : (true != true) = false := rfl
    obtain ⟨rfl, ht⟩ := HY2.out rfl
    have HT := Lib.hid ht
    clear ht
    go_wp2_with fail
    obtain ⟨S3, hS3⟩ : ∃ S3, S3 = w3.alloc (.cells #[.slice aw zs.length cw, .int .i64 0, .int .i64 0] 26) := ⟨_, rfl⟩
    rw [← hS3]
    have HA3 : Hid (Below w3.heap.size w3 S3) := by show Below _ _ _; rw [hS3]; exact (Below.refl _ _).alloc (Nat.le_refl _) _
    have HSA : Hid (∀ w', Below S3.heap.size S3 w' → StTf w' w2.heap.size ag cg ⟨zs, 0, 0⟩) := by show ∀ _, _ → _; rw [hS3]; exact HST.out _
    have HB3 : Hid (Below w.heap.size w S3) := HB2.out.trans ((HX.out.trans (HA3.out.mono HX.out.size)).mono HB2.out.size)
    have HG3 : Hid (IntsAt S3 ag zs) := (HG.out.keepB HX.out (Nat.le_refl _)).keepB HA3.out (Nat.le_refl _)
    have HW3 : Hid (IntsAt S3 aw zs) := HW.out.keepB HA3.out (Nat.le_refl _)
    have HI3 : Hid (IntsAt S3 a zs) := HI.out.keepB ((HB12.out.trans (HX.out.mono HB12.out.size)).trans (HA3.out.mono (Nat.le_trans HB12.out.size HX.out.size))) (Nat.le_refl _)
    have HS3Z : Hid (w2.heap.size < S3.heap.size) := by have := HLT.out; have := HA3.out.size; show _ < _; omega
    clear hS3 r0 r1 r2
    refine (sameTf_any ag aw cg cw ⟨zs, 0, 0⟩ S3 HG3.out HW3.out (by show zs.length ≤ _; omega)).mono ?_
    rintro e w4 ⟨rfl, hb4⟩
    have HB4 := Lib.hid hb4
    have HW4 : Hid (Below w.heap.size w w4) := HB3.out.trans (hb4.mono HB3.out.size)
    have HK4 : Hid (∀ o, Below S3.heap.size S3 (w4.alloc o)) := fun o => hb4.alloc hb4.size o
    have r0 : ∀ o, (w4.alloc o).cell? ⟨w2.heap.size, 0, none⟩ = some (.slice ag zs.length cg) := fun o => (HSA.out _ (HK4.out o)).1
    have r1 : ∀ o, (w4.alloc o).cell? ⟨w2.heap.size, 1, none⟩ = some (.int .i64 0) := fun o => (HSA.out _ (HK4.out o)).2.1
    have r2 : ∀ o, (w4.alloc o).cell? ⟨w2.heap.size, 2, none⟩ = some (.int .i64 0) := fun o => (HSA.out _ (HK4.out o)).2.2
    clear hb4
    go_wp2
    clear r0 r1 r2
    obtain ⟨S5, hS5⟩ : ∃ S5, S5 = (w4.alloc (.cells #[] 3)).alloc (.cells #[.slice ag zs.length cg, .int .i64 0, .int .i64 0] 26) := ⟨_, rfl⟩
    rw [← hS5]
    have HA5 : Hid (Below w4.heap.size w4 S5) := by show Below _ _ _; rw [hS5]; exact ((Below.refl _ _).alloc (Nat.le_refl _) _).alloc (by simp) _
    have HXA : Hid (XAt S5 (w4.heap.size + 1) ⟨zs, 0, 0⟩ [] ag cg (some ⟨w4.heap.size, 0, none⟩) 0 S5) := by
      refine ⟨by rw [hS5]; exact heap_second w4 _ _, ?_, .inl rfl, HGC.out, Nat.le_refl _, ?_, ?_, Below.refl _ _⟩
      · exact (HG3.out.keepB HB4.out (Nat.le_refl _)).keepB HA5.out (Nat.le_refl _)
      · intro p hp; have h1 := HGL.out p hp; have h2 := HS3Z.out; have h3 := HB4.out.size; omega
      · intro p hp; cases hp; show w4.heap.size ≠ w4.heap.size + 1; omega
    have HI5 : Hid (IntsAt S5 a zs) := (HI3.out.keepB HB4.out (Nat.le_refl _)).keepB HA5.out (Nat.le_refl _)
    have HIL : Hid (∀ b off, a = some ⟨b, off, none⟩ → b < w4.heap.size ∨ zs = []) := fun b off ha => by
      rcases HI3.out.keepB HB4.out (Nat.le_refl _) with h0 | ⟨b', off', ha', hlt, _⟩
      · exact .inr h0
      · rw [ha] at ha'; cases ha'; exact .inl hlt
    have HW5 : Hid (Below w.heap.size w S5) := HW4.out.trans (HA5.out.mono HW4.out.size)
    have HWZ : Hid (w.heap.size ≤ w4.heap.size) := HW4.out.size
    have HIK : Hid (∀ w', Below (w4.heap.size + 1) S5 w' → IntsAt w' a zs) := fun w' hb => by
      rcases HI3.out.keepB HB4.out (Nat.le_refl _) with h0 | ⟨b', off', ha', hlt, hc⟩
      · exact .inl h0
      · have h5 := (IntsAt.keepB (.inr ⟨b', off', ha', hlt, hc⟩ : IntsAt w4 a zs) HA5.out (Nat.le_refl _))
        refine .inr ⟨b', off', ha', by have := hb.size; have := HA5.out.size; omega, fun i hi => ?_⟩
        exact (hb.cell (p := ⟨b', off' + i, none⟩) (by show b' < _; omega)).trans ((HA5.out.cell (p := ⟨b', off' + i, none⟩) hlt).trans (hc i hi))
    clear hS5 hVV
    go_loopw [10, 12] (fun gv iv wr => CrashJ zs len2 S5 (w4.heap.size + 1) gv iv wr) (fun _ iv _ => 120 - (intOf iv).toNat)
    case atStart => exact ⟨0, 0, ⟨zs, 0, 0⟩, [], ag, cg, some ⟨w4.heap.size, 0, none⟩, 0, rfl, rfl, by omega, by have := crash_start (L := len2) HT.out; rw [newT_yes HT.out] at this; exact this, HXA.out⟩
    case round =>
      obtain ⟨i, g, x, got, ax, cx, ay, cy, rfl, rfl, hi120, hA, hX⟩ := hrel
      have hzl := items_len HT.out
      have hgz : g ≤ zs.length := hA.le
      have hgl : got.length ≤ 20 := by rw [hA.got, List.length_take]; omega
      by_cases hend : i = 120
      · have hi' : ¬ (i : Int) < 120 := by omega
        have HGZ : Hid (got = zs) := by subst hend; exact crash_end hA
        have HXT := Lib.hid hX
        have HIF : Hid (IntsAt wr a zs) := HIK.out _ hX.bel
        have HIG : Hid (IntsAt wr ay zs) := by show IntsAt _ _ _; rw [← HGZ.out]; exact hX.iy
        clear hA hX
        go_wp2_with fail
        rw [HGZ.out]
        refine (sameI_any ay a _ cy ca zs wr HIG.out HIF.out rfl (by omega)).mono ?_
        rintro e w6 ⟨rfl, hs6⟩
        have HX6 := Lib.hid (HXT.out.keep (hs6.below _)).bel
        clear hs6
        go_wp2
        go_ret
        exact ⟨rfl, HW5.out.trans (HX6.out.mono (by have := HWZ.out; omega))⟩
      have hi' : (i : Int) < 120 := by omega
      have hin : i + 1 ≤ 120 := by omega
      clear hend
      have HAT := Lib.hid hA
      obtain ⟨x1, hx1⟩ : ∃ x1, x1 = inRound len2 i x := ⟨_, rfl⟩
      have hxl : x.items.length ≤ 20 := by rw [hA.items]; exact hzl
      have hx1l : x1.items.length ≤ 20 := by rw [hx1, (crash_res hA).1.items]; exact hzl
      have HRES : Hid ((i + len2) % 3 = 0 → ∀ w', IntsAt w' ax x.items → Calls Try.prog 30 #[.agg #[.slice ax x.items.length cx, .int .i64 x.nxt, .int .i64 x.ack]] w' (NewTf x1 w')) := fun hq w' hi => by
        rw [hx1, inRound, if_pos hq]; exact pres_any ax cx x w' hi (by unfold maxLen; omega)
      have HSAME : Hid (¬ (i + len2) % 3 = 0 → x1 = x) := fun hq => by rw [hx1, inRound, if_neg hq]
      obtain ⟨Y, hYe⟩ : ∃ Y, Y = sendT x1 4 := ⟨_, rfl⟩
      obtain ⟨C, hCe⟩ : ∃ C, C = sendC x1 4 := ⟨_, rfl⟩
      obtain ⟨V, hVe⟩ : ∃ V, V = sendB x1 4 := ⟨_, rfl⟩
      have HSEND : Hid (∀ w' a1 k1, IntsAt w' a1 x1.items → x1.items.length ≤ k1 → Calls Try.prog 12 #[.agg #[.slice a1 x1.items.length k1, .int .i64 x1.nxt, .int .i64 x1.ack], .int .i64 4] w' (NewTfC Y C V w')) := fun w' a1 k1 hi hc => by rw [hYe, hCe, hVe]; exact psend_any a1 k1 x1 4 w' hi (by unfold maxLen; omega) hc
      have hYl : Y.items.length ≤ 20 := by rw [hYe]; exact sendT_len x1 4
      have hCl : C.items.length ≤ 4 := by rw [hCe]; exact sendC_len x1 4
      have HFAIL : Hid (V = false → CrashAt zs len2 (i + 1) g (resT Y) got) := fun h => by rw [hVe, hx1] at h; rw [hYe, hx1]; exact crash_fail HAT.out h
      have HNEXT : Hid (V = true → ∃ g', putB got C = true ∧ CrashAt zs len2 (i + 1) g' (behind i Y (putL got C)) (putL got C)) := fun h => by rw [hVe, hx1] at h; rw [hYe, hCe, hx1]; exact crash_send HAT.out h
      have HRY : Hid (∀ w' a1 k1, IntsAt w' a1 Y.items → Calls Try.prog 30 #[.agg #[.slice a1 Y.items.length k1, .int .i64 Y.nxt, .int .i64 Y.ack]] w' (NewTf (resT Y) w')) := fun w' a1 k1 hi => pres_any a1 k1 Y w' hi (by unfold maxLen; omega)
      have HXT := Lib.hid hX
      clear hA hX hx1 hYe hCe hVe
      by_cases hq : (i + len2) % 3 = 0
      · have hqb : (((i : Int) + (len2 : Int)) % 3 == 0) = true := by rw [beq_iff_eq]; omega
        obtain ⟨c0, c1, c2⟩ := cells3 HXT.out.blk
        have HQ3 := Lib.hid hq
        clear hq
        go_wp2_with fail
        refine (HRES.out HQ3.out wr HXT.out.ix).mono ?_
        rintro e w6 ⟨a1, k1, rfl, ho, hb6⟩
        have hx6 := HXT.out.keep hb6
        have HX6 := Lib.hid hx6
        have HO := Lib.hid (own_ints ho)
        have HOC := Lib.hid (own_cap ho)
        have HON : Hid (∀ p, a1 = some p → p.block ≠ w4.heap.size + 1) := fun p hp => by have := (own_lt2 ho p hp).1; have := heap_lt HXT.out.blk; omega
        clear c0 c1 c2
        obtain ⟨c0, c1, c2⟩ := cells3 hx6.blk
        have f0 := frozen_of_cells hx6.blk 0
        have f1 := frozen_of_cells hx6.blk 1
        have f2 := frozen_of_cells hx6.blk 2
        clear hx6 ho hb6
        go_upto_region 15 with fail
        have hX1 := HX6.out.set HO.out HOC.out HON.out
        obtain ⟨W1, hW1⟩ : ∃ W1, W1 = (((w6.setCell ⟨w4.heap.size + 1, 0, none⟩ (.slice a1 x1.items.length k1)).setCell ⟨w4.heap.size + 1, 1, none⟩ (.int .i64 x1.nxt)).setCell ⟨w4.heap.size + 1, 2, none⟩ (.int .i64 x1.ack)) := ⟨_, rfl⟩
        rw [← hW1] at hX1 ⊢
        have HX1 := Lib.hid hX1
        clear hW1 hX1 c0 c1 c2 f0 f1 f2 hqb
        obtain ⟨c0, c1, c2⟩ := cells3 HX1.out.blk
        go_wp2_with fail
        refine (HSEND.out W1 a1 k1 HX1.out.ix HX1.out.lx).mono ?_
        rintro e w7 ⟨a2, k2, b2, d2, rfl, ho, hoc, _, hb7⟩
        have HO2 := Lib.hid (own_ints ho)
        have HC2 := Lib.hid (own_ints hoc)
        have HK2 := Lib.hid (own_cap ho)
        have HD2 := Lib.hid (own_cap hoc)
        have HN2 : Hid (∀ p, a2 = some p → p.block ≠ w4.heap.size + 1) := fun p hp => by have := (own_lt2 ho p hp).1; have := heap_lt HX1.out.blk; omega
        have HCN : Hid (∀ p, b2 = some p → p.block ≠ w4.heap.size + 1) := fun p hp => by have := (own_lt2 hoc p hp).1; have := heap_lt HX1.out.blk; omega
        have HB7 := Lib.hid hb7
        clear ho hoc hb7 c0 c1 c2
        go_upto_region 16 with fail
        obtain ⟨S6, hS6⟩ : ∃ S6, S6 = (w7.alloc (.cells #[.slice a2 Y.items.length k2, .int .i64 Y.nxt, .int .i64 Y.ack] 26)).alloc (.cells #[.int .i64 C.pos, .slice b2 C.items.length d2] 28) := ⟨_, rfl⟩
        rw [← hS6]
        have HA6 : Hid (Below w7.heap.size w7 S6) := by show Below _ _ _; rw [hS6]; exact ((Below.refl _ _).alloc (Nat.le_refl _) _).alloc (by simp) _
        have hst : StTf S6 w7.heap.size a2 k2 Y ∧ StCk S6 (w7.heap.size + 1) b2 d2 C := by rw [hS6]; exact two_st
        have HZ6 : Hid (S6.heap.size = w7.heap.size + 2) := by show _ = _; rw [hS6]; simp
        have hx6 : XAt S5 (w4.heap.size + 1) x1 got a1 k1 ay cy S6 := HX1.out.keep (HB7.out.trans (HA6.out.mono HB7.out.size))
        have HX6 := Lib.hid hx6
        have HBL : Hid (w4.heap.size + 1 < w7.heap.size) := by have := heap_lt HX1.out.blk; have := HB7.out.size; show _ < _; omega
        have HST := Lib.hid hst
        obtain ⟨⟨y0, y1, y2⟩, _⟩ := hst
        obtain ⟨c0, c1, c2⟩ := cells3 hx6.blk
        have f0 := frozen_of_cells hx6.blk 0
        have f1 := frozen_of_cells hx6.blk 1
        have f2 := frozen_of_cells hx6.blk 2
        have hX2 := hx6.set (x' := Y) (HO2.out.keepB HA6.out (Nat.le_refl _)) HK2.out HN2.out
        have hC2 : StCk (((S6.setCell ⟨w4.heap.size + 1, 0, none⟩ (.slice a2 Y.items.length k2)).setCell ⟨w4.heap.size + 1, 1, none⟩ (.int .i64 Y.nxt)).setCell ⟨w4.heap.size + 1, 2, none⟩ (.int .i64 Y.ack)) (w7.heap.size + 1) b2 d2 C := ck_keep HST.out.2 (set3_ne (by have := HBL.out; omega))
        have hI2 : IntsAt (((S6.setCell ⟨w4.heap.size + 1, 0, none⟩ (.slice a2 Y.items.length k2)).setCell ⟨w4.heap.size + 1, 1, none⟩ (.int .i64 Y.nxt)).setCell ⟨w4.heap.size + 1, 2, none⟩ (.int .i64 Y.ack)) b2 C.items := ints_block (HC2.out.keepB HA6.out (Nat.le_refl _)) (Nat.le_of_eq (size_set3 _ _ _ _ _).symm) (fun p hp => set3_ne (HCN.out p hp))
        clear hS6 hx6
        have HX2 := Lib.hid hX2
        have HCK2 := Lib.hid hC2
        have HI2c := Lib.hid hI2
        clear hX2 hC2 hI2
        go_upto_region 17 with fail
        obtain ⟨W2, hW2⟩ : ∃ W2, W2 = (((S6.setCell ⟨w4.heap.size + 1, 0, none⟩ (.slice a2 Y.items.length k2)).setCell ⟨w4.heap.size + 1, 1, none⟩ (.int .i64 Y.nxt)).setCell ⟨w4.heap.size + 1, 2, none⟩ (.int .i64 Y.ack)) := ⟨_, rfl⟩
        rw [← hW2] at HX2 HCK2 HI2c ⊢
        clear hW2 y0 y1 y2 c0 c1 c2 f0 f1 f2
        cases V
        · have HCA := Lib.hid (HFAIL.out rfl)
          obtain ⟨c0, c1, c2⟩ := cells3 HX2.out.blk
          go_wp2_with fail
          refine (HRY.out W2 a2 k2 HX2.out.ix).mono ?_
          rintro e w8 ⟨a3, k3, rfl, ho, hb8⟩
          have hx8 := HX2.out.keep hb8
          have HX8 := Lib.hid hx8
          have HO8 := Lib.hid (own_ints ho)
          have HK8 := Lib.hid (own_cap ho)
          have HN8 : Hid (∀ p, a3 = some p → p.block ≠ w4.heap.size + 1) := fun p hp => by have := (own_lt2 ho p hp).1; have := heap_lt HX2.out.blk; omega
          clear c0 c1 c2
          obtain ⟨c0, c1, c2⟩ := cells3 hx8.blk
          have f0 := frozen_of_cells hx8.blk 0
          have f1 := frozen_of_cells hx8.blk 1
          have f2 := frozen_of_cells hx8.blk 2
          clear hx8 ho hb8
          go_wp2
          go_roundw
          case rel => exact ⟨i + 1, g, resT Y, got, a3, k3, ay, cy, rfl, by go_num, hin, HCA.out, HX8.out.set HO8.out HK8.out HN8.out⟩
          case measure => simp [intOf]; omega
        · obtain ⟨g', hp, hcr⟩ := HNEXT.out rfl
          obtain ⟨L, hL⟩ : ∃ L, L = putL got C := ⟨_, rfl⟩
          have hLl : L.length ≤ 20 := by rw [hL]; exact putL_le got C
          have HPUT : Hid (∀ w' b d, IntsAt w' ay got → IntsAt w' b C.items → C.items.length ≤ d → Calls Try.prog 28 #[.slice ay got.length cy, .agg #[.int .i64 C.pos, .slice b C.items.length d]] w' (NewIntsB L true w')) := fun w' b d h1 h2 h3 => by
            have := pput_any ay b cy d got C w' h1 (by unfold maxLen; omega) h2 (by unfold maxLen; omega) HXT.out.ly h3
            rw [hp, ← hL] at this; exact this
          rw [← hL] at hcr
          obtain ⟨Z, hZ⟩ : ∃ Z, Z = ackT Y (min (L.length : Int) Y.nxt) := ⟨_, rfl⟩
          obtain ⟨U, hU⟩ : ∃ U, U = ackB Y (min (L.length : Int) Y.nxt) := ⟨_, rfl⟩
          have HACK : Hid (∀ w' a1 k1, IntsAt w' a1 Y.items → Calls Try.prog 29 #[.agg #[.slice a1 Y.items.length k1, .int .i64 Y.nxt, .int .i64 Y.ack], .int .i64 (min (L.length : Int) Y.nxt)] w' (NewTfB Z U w')) := fun w' a1 k1 h1 => by
            rw [hZ, hU]; exact pack_any a1 k1 Y (min (L.length : Int) Y.nxt) w' h1 (by unfold maxLen; omega)
          have HCR : Hid (CrashAt zs len2 (i + 1) g' (if i % 2 = 0 then Z else Y) L) := by show CrashAt _ _ _ _ _ _; rw [hZ]; exact hcr
          clear hp hcr hL hZ hU HNEXT HFAIL
          obtain ⟨x0, x1'⟩ := HCK2.out
          go_wp2_with fail
          refine (HPUT.out W2 b2 d2 HX2.out.iy HI2c.out HD2.out).mono ?_
          rintro e w8 ⟨al, cl, rfl, hol, hb8⟩
          have HLI := Lib.hid (own_ints hol)
          have HLC := Lib.hid (own_cap hol)
          have HLN : Hid (∀ p, al = some p → p.block ≠ w4.heap.size + 1) := fun p hp => by have := (own_lt2 hol p hp).1; have := heap_lt HX2.out.blk; omega
          have HX8 : Hid (XAt S5 (w4.heap.size + 1) Y L a2 k2 al cl w8) := (HX2.out.keep hb8).put HLI.out HLC.out HLN.out
          clear hol hb8 x0 x1'
          by_cases hev : i % 2 = 0
          · have hevb : ((i : Int) % 2 == 0) = true := by rw [beq_iff_eq]; omega
            rw [if_pos hev] at HCR
            obtain ⟨c0, c1, c2⟩ := cells3 HX8.out.blk
            clear hev
            go_wp2_with fail
            refine (HACK.out w8 a2 k2 HX8.out.ix).mono ?_
            rintro e w9 ⟨a3, k3, rfl, ho, hb9⟩
            have hx9 := HX8.out.keep hb9
            have HX9 := Lib.hid hx9
            have HO9 := Lib.hid (own_ints ho)
            have HK9 := Lib.hid (own_cap ho)
            have HN9 : Hid (∀ p, a3 = some p → p.block ≠ w4.heap.size + 1) := fun p hp => by have := (own_lt2 ho p hp).1; have := heap_lt HX8.out.blk; omega
            clear c0 c1 c2
            obtain ⟨c0, c1, c2⟩ := cells3 hx9.blk
            have f0 := frozen_of_cells hx9.blk 0
            have f1 := frozen_of_cells hx9.blk 1
            have f2 := frozen_of_cells hx9.blk 2
            clear hx9 ho hb9
            go_wp2
            go_roundw
            case rel => exact ⟨i + 1, g', Z, L, a3, k3, al, cl, rfl, by go_num, hin, HCR.out, HX9.out.set HO9.out HK9.out HN9.out⟩
            case measure => simp [intOf]; omega
          · have hevb : ((i : Int) % 2 == 0) = false := by rw [beq_eq_false_iff_ne]; omega
            rw [if_neg hev] at HCR
            clear hev
            go_wp2
            go_roundw
            case rel => exact ⟨i + 1, g', Y, L, a2, k2, al, cl, rfl, by go_num, hin, HCR.out, HX8.out⟩
            case measure => simp [intOf]; omega
      · have hqb : (((i : Int) + (len2 : Int)) % 3 == 0) = false := by rw [beq_eq_false_iff_ne]; omega
        have e1 := HSAME.out hq
        obtain ⟨a1, ha1⟩ : ∃ a1, a1 = ax := ⟨_, rfl⟩
        obtain ⟨k1, hk1⟩ : ∃ k1, k1 = cx := ⟨_, rfl⟩
        have HX1 : Hid (XAt S5 (w4.heap.size + 1) x1 got a1 k1 ay cy wr) := by show XAt _ _ _ _ _ _ _ _ _; rw [e1, ha1, hk1]; exact HXT.out
        clear hq e1 ha1 hk1
        go_upto_region 15 with fail
        obtain ⟨W1, hW1⟩ : ∃ W1, W1 = wr := ⟨_, rfl⟩
        rw [← hW1] at HX1 ⊢
        clear hW1 hqb
        obtain ⟨c0, c1, c2⟩ := cells3 HX1.out.blk
        go_wp2_with fail
        refine (HSEND.out W1 a1 k1 HX1.out.ix HX1.out.lx).mono ?_
        rintro e w7 ⟨a2, k2, b2, d2, rfl, ho, hoc, _, hb7⟩
        have HO2 := Lib.hid (own_ints ho)
        have HC2 := Lib.hid (own_ints hoc)
        have HK2 := Lib.hid (own_cap ho)
        have HD2 := Lib.hid (own_cap hoc)
        have HN2 : Hid (∀ p, a2 = some p → p.block ≠ w4.heap.size + 1) := fun p hp => by have := (own_lt2 ho p hp).1; have := heap_lt HX1.out.blk; omega
        have HCN : Hid (∀ p, b2 = some p → p.block ≠ w4.heap.size + 1) := fun p hp => by have := (own_lt2 hoc p hp).1; have := heap_lt HX1.out.blk; omega
        have HB7 := Lib.hid hb7
        clear ho hoc hb7 c0 c1 c2
        go_upto_region 16 with fail
        obtain ⟨S6, hS6⟩ : ∃ S6, S6 = (w7.alloc (.cells #[.slice a2 Y.items.length k2, .int .i64 Y.nxt, .int .i64 Y.ack] 26)).alloc (.cells #[.int .i64 C.pos, .slice b2 C.items.length d2] 28) := ⟨_, rfl⟩
        rw [← hS6]
        have HA6 : Hid (Below w7.heap.size w7 S6) := by show Below _ _ _; rw [hS6]; exact ((Below.refl _ _).alloc (Nat.le_refl _) _).alloc (by simp) _
        have hst : StTf S6 w7.heap.size a2 k2 Y ∧ StCk S6 (w7.heap.size + 1) b2 d2 C := by rw [hS6]; exact two_st
        have HZ6 : Hid (S6.heap.size = w7.heap.size + 2) := by show _ = _; rw [hS6]; simp
        have hx6 : XAt S5 (w4.heap.size + 1) x1 got a1 k1 ay cy S6 := HX1.out.keep (HB7.out.trans (HA6.out.mono HB7.out.size))
        have HX6 := Lib.hid hx6
        have HBL : Hid (w4.heap.size + 1 < w7.heap.size) := by have := heap_lt HX1.out.blk; have := HB7.out.size; show _ < _; omega
        have HST := Lib.hid hst
        obtain ⟨⟨y0, y1, y2⟩, _⟩ := hst
        obtain ⟨c0, c1, c2⟩ := cells3 hx6.blk
        have f0 := frozen_of_cells hx6.blk 0
        have f1 := frozen_of_cells hx6.blk 1
        have f2 := frozen_of_cells hx6.blk 2
        have hX2 := hx6.set (x' := Y) (HO2.out.keepB HA6.out (Nat.le_refl _)) HK2.out HN2.out
        have hC2 : StCk (((S6.setCell ⟨w4.heap.size + 1, 0, none⟩ (.slice a2 Y.items.length k2)).setCell ⟨w4.heap.size + 1, 1, none⟩ (.int .i64 Y.nxt)).setCell ⟨w4.heap.size + 1, 2, none⟩ (.int .i64 Y.ack)) (w7.heap.size + 1) b2 d2 C := ck_keep HST.out.2 (set3_ne (by have := HBL.out; omega))
        have hI2 : IntsAt (((S6.setCell ⟨w4.heap.size + 1, 0, none⟩ (.slice a2 Y.items.length k2)).setCell ⟨w4.heap.size + 1, 1, none⟩ (.int .i64 Y.nxt)).setCell ⟨w4.heap.size + 1, 2, none⟩ (.int .i64 Y.ack)) b2 C.items := ints_block (HC2.out.keepB HA6.out (Nat.le_refl _)) (Nat.le_of_eq (size_set3 _ _ _ _ _).symm) (fun p hp => set3_ne (HCN.out p hp))
        clear hS6 hx6
        have HX2 := Lib.hid hX2
        have HCK2 := Lib.hid hC2
        have HI2c := Lib.hid hI2
        clear hX2 hC2 hI2
        go_upto_region 17 with fail
        obtain ⟨W2, hW2⟩ : ∃ W2, W2 = (((S6.setCell ⟨w4.heap.size + 1, 0, none⟩ (.slice a2 Y.items.length k2)).setCell ⟨w4.heap.size + 1, 1, none⟩ (.int .i64 Y.nxt)).setCell ⟨w4.heap.size + 1, 2, none⟩ (.int .i64 Y.ack)) := ⟨_, rfl⟩
        rw [← hW2] at HX2 HCK2 HI2c ⊢
        clear hW2 y0 y1 y2 c0 c1 c2 f0 f1 f2
        cases V
        · have HCA := Lib.hid (HFAIL.out rfl)
          obtain ⟨c0, c1, c2⟩ := cells3 HX2.out.blk
          go_wp2_with fail
          refine (HRY.out W2 a2 k2 HX2.out.ix).mono ?_
          rintro e w8 ⟨a3, k3, rfl, ho, hb8⟩
          have hx8 := HX2.out.keep hb8
          have HX8 := Lib.hid hx8
          have HO8 := Lib.hid (own_ints ho)
          have HK8 := Lib.hid (own_cap ho)
          have HN8 : Hid (∀ p, a3 = some p → p.block ≠ w4.heap.size + 1) := fun p hp => by have := (own_lt2 ho p hp).1; have := heap_lt HX2.out.blk; omega
          clear c0 c1 c2
          obtain ⟨c0, c1, c2⟩ := cells3 hx8.blk
          have f0 := frozen_of_cells hx8.blk 0
          have f1 := frozen_of_cells hx8.blk 1
          have f2 := frozen_of_cells hx8.blk 2
          clear hx8 ho hb8
          go_wp2
          go_roundw
          case rel => exact ⟨i + 1, g, resT Y, got, a3, k3, ay, cy, rfl, by go_num, hin, HCA.out, HX8.out.set HO8.out HK8.out HN8.out⟩
          case measure => simp [intOf]; omega
        · obtain ⟨g', hp, hcr⟩ := HNEXT.out rfl
          obtain ⟨L, hL⟩ : ∃ L, L = putL got C := ⟨_, rfl⟩
          have hLl : L.length ≤ 20 := by rw [hL]; exact putL_le got C
          have HPUT : Hid (∀ w' b d, IntsAt w' ay got → IntsAt w' b C.items → C.items.length ≤ d → Calls Try.prog 28 #[.slice ay got.length cy, .agg #[.int .i64 C.pos, .slice b C.items.length d]] w' (NewIntsB L true w')) := fun w' b d h1 h2 h3 => by
            have := pput_any ay b cy d got C w' h1 (by unfold maxLen; omega) h2 (by unfold maxLen; omega) HXT.out.ly h3
            rw [hp, ← hL] at this; exact this
          rw [← hL] at hcr
          obtain ⟨Z, hZ⟩ : ∃ Z, Z = ackT Y (min (L.length : Int) Y.nxt) := ⟨_, rfl⟩
          obtain ⟨U, hU⟩ : ∃ U, U = ackB Y (min (L.length : Int) Y.nxt) := ⟨_, rfl⟩
          have HACK : Hid (∀ w' a1 k1, IntsAt w' a1 Y.items → Calls Try.prog 29 #[.agg #[.slice a1 Y.items.length k1, .int .i64 Y.nxt, .int .i64 Y.ack], .int .i64 (min (L.length : Int) Y.nxt)] w' (NewTfB Z U w')) := fun w' a1 k1 h1 => by
            rw [hZ, hU]; exact pack_any a1 k1 Y (min (L.length : Int) Y.nxt) w' h1 (by unfold maxLen; omega)
          have HCR : Hid (CrashAt zs len2 (i + 1) g' (if i % 2 = 0 then Z else Y) L) := by show CrashAt _ _ _ _ _ _; rw [hZ]; exact hcr
          clear hp hcr hL hZ hU HNEXT HFAIL
          obtain ⟨x0, x1'⟩ := HCK2.out
          go_wp2_with fail
          refine (HPUT.out W2 b2 d2 HX2.out.iy HI2c.out HD2.out).mono ?_
          rintro e w8 ⟨al, cl, rfl, hol, hb8⟩
          have HLI := Lib.hid (own_ints hol)
          have HLC := Lib.hid (own_cap hol)
          have HLN : Hid (∀ p, al = some p → p.block ≠ w4.heap.size + 1) := fun p hp => by have := (own_lt2 hol p hp).1; have := heap_lt HX2.out.blk; omega
          have HX8 : Hid (XAt S5 (w4.heap.size + 1) Y L a2 k2 al cl w8) := (HX2.out.keep hb8).put HLI.out HLC.out HLN.out
          clear hol hb8 x0 x1'
          by_cases hev : i % 2 = 0
          · have hevb : ((i : Int) % 2 == 0) = true := by rw [beq_iff_eq]; omega
            rw [if_pos hev] at HCR
            obtain ⟨c0, c1, c2⟩ := cells3 HX8.out.blk
            clear hev
            go_wp2_with fail
            refine (HACK.out w8 a2 k2 HX8.out.ix).mono ?_
            rintro e w9 ⟨a3, k3, rfl, ho, hb9⟩
            have hx9 := HX8.out.keep hb9
            have HX9 := Lib.hid hx9
            have HO9 := Lib.hid (own_ints ho)
            have HK9 := Lib.hid (own_cap ho)
            have HN9 : Hid (∀ p, a3 = some p → p.block ≠ w4.heap.size + 1) := fun p hp => by have := (own_lt2 ho p hp).1; have := heap_lt HX8.out.blk; omega
            clear c0 c1 c2
            obtain ⟨c0, c1, c2⟩ := cells3 hx9.blk
            have f0 := frozen_of_cells hx9.blk 0
            have f1 := frozen_of_cells hx9.blk 1
            have f2 := frozen_of_cells hx9.blk 2
            clear hx9 ho hb9
            go_wp2
            go_roundw
            case rel => exact ⟨i + 1, g', Z, L, a3, k3, al, cl, rfl, by go_num, hin, HCR.out, HX9.out.set HO9.out HK9.out HN9.out⟩
            case measure => simp [intOf]; omega
          · have hevb : ((i : Int) % 2 == 0) = false := by rw [beq_eq_false_iff_ne]; omega
            rw [if_neg hev] at HCR
            clear hev
            go_wp2
            go_roundw
            case rel => exact ⟨i + 1, g', Y, L, a2, k2, al, cl, rfl, by go_num, hin, HCR.out, HX8.out⟩
            case measure => simp [intOf]; omega
end Go.Proofs.Ytmjloobakahdgab
