/- The walks of the laws of chunks: received items are kept, a chunk that arrives twice, a chunk behind a gap. -/
import Derived.Test.YtedbgfeojocbpaaTfDrawP
import Derived.Test.YtedbgfeojocbpaaExactTfC
import Derived.Test.YtedbgfeojocbpaaTfMath2
namespace Go.Proofs.Ytedbgfeojocbpaa
open Go.RowKit
set_option linter.unusedVariables false

attribute [local go_sem ↓] Go.wp_at_zero Go.wp_at_succ
attribute [local go_sem ↓] run_max2q

theorem fit_rest {got : List Int} {c : Ck} {k n : Nat} (hk : k ≤ n) (h : got.length ≤ c.pos.toNat + k) (hf : fitTo got c k = true) : fitTo got c n = true := by
  rw [fitTo_iff] at hf ⊢
  intro i hi hl
  exact hf i (by omega) hl
theorem fit_step {got : List Int} {c : Ck} {k : Nat} (h : c.pos.toNat + k < got.length) : fitTo got c (k + 1) = (fitTo got c k && decide (gt got (c.pos.toNat + k) = gt c.items k)) := by
  rw [Bool.eq_iff_iff, Bool.and_eq_true, fitTo_iff, fitTo_iff, decide_eq_true_eq]
  constructor
  · intro h1
    exact ⟨fun i hi => h1 i (by omega), h1 k (by omega) h⟩
  · rintro ⟨h1, h2⟩ i hi hl
    rcases Nat.lt_or_ge i k with h3 | h3
    · exact h1 i h3 hl
    · have : i = k := by omega
      subst this; exact h2
theorem cut_got {got : List Int} {c : Ck} (h : putB got c = true) : cutL (putL got c) ((0 : Nat) : Int) (got.length : Int) = got := by
  have hl := put_len h
  have e : (cutL (putL got c) ((0 : Nat) : Int) (got.length : Int)).length = got.length := by rw [cutL_len' (Nat.zero_le _) (by omega)]; omega
  refine list_ext_gt e fun i hi => ?_
  rw [e] at hi
  rw [gt_cutL (by omega)]
  have := put_got h hi
  simpa using this
theorem cut_chunk {got : List Int} {c : Ck} {p E : Nat} (h : putB got c = true) (hp : c.pos = (p : Int)) (hE : E = p + c.items.length) : cutL (putL got c) (p : Int) (E : Int) = c.items := by
  have hl := put_len h
  have e : (cutL (putL got c) (p : Int) (E : Int)).length = c.items.length := by rw [cutL_len' (by omega) (by omega)]; omega
  refine list_ext_gt e fun i hi => ?_
  rw [e] at hi
  rw [gt_cutL (by omega)]
  have := put_chunk h hi
  rw [hp] at this
  simpa using this

set_option maxHeartbeats 2000000 in
theorem chunkPutLaw (s : Option Addr) (len cap : Nat) (z : List Int) (w : World) (h : RowIn .u8 w s len cap z) :
    Calls Try.prog 12 #[.slice s len cap] w fun e w' => e = .returned (.bool true) ∧ Below w.heap.size w w' := by
  have hb := bytes_of_row h
  have hm : len ≤ maxLen := Nat.le_trans hb.1 hb.2.1
  unfold maxLen at hm
  clear h
  by_cases hl : 1048576 < len
  · go_enter Try.func12, Try.ntmps12
    go_wp2
    go_ret
    exact ⟨rfl, Below.refl _ _⟩
  have HY := Lib.hid hb
  clear hb
  go_enter Try.func12, Try.ntmps12
  go_wp2_with fail
  refine (drawChunkPut s len cap w HY.out).mono ?_
  rintro e w1 ⟨a, ca, zs, b, cb, c, rfl, hia, hzl, hzc, hib, hcl, hcc, hb1⟩
  have HB1 := Lib.hid hb1
  have HIA := Lib.hid hia.ints
  have HIB := Lib.hid hib.ints
  have HZC := Lib.hid hzc
  have HCC := Lib.hid hcc
  have hzm : zs.length ≤ maxLen := by unfold maxLen; omega
  have hcm : c.items.length ≤ maxLen := by unfold maxLen; omega
  have HZM := Lib.hid hzm
  have HCM := Lib.hid hcm
  clear hia hib hb1 hzm hcm hzc hcc
  obtain ⟨R, hR⟩ : ∃ R, R = putL zs c := ⟨_, rfl⟩
  obtain ⟨V, hV⟩ : ∃ V, V = putB zs c := ⟨_, rfl⟩
  have hRl : R.length ≤ 20 := by rw [hR]; exact putL_le zs c
  have HP : Hid (∀ w, IntsAt w a zs → IntsAt w b c.items → Calls Try.prog 34 #[.slice a zs.length ca, .agg #[.int .i64 c.pos, .slice b c.items.length cb]] w (NewIntsB R V w)) := fun w h h2 => by rw [hR, hV]; exact pput_any a b ca cb zs c w h HZM.out h2 HCM.out HZC.out HCC.out
  have HQ : Hid (∀ w, IntsAt w a zs → IntsAt w b c.items → Calls Try.prog 32 #[.slice a zs.length ca, .agg #[.int .i64 c.pos, .slice b c.items.length cb]] w (NewIntsB R V w)) := fun w h h2 => by rw [hR, hV]; exact sput_any a b ca cb zs c w h HZM.out h2 HCM.out HZC.out HCC.out
  have HX : Hid (V = true → ∃ p E : Nat, c.pos = (p : Int) ∧ E = p + c.items.length ∧ p ≤ 20 ∧ R.length = max zs.length E ∧ cutL R ((0 : Nat) : Int) (zs.length : Int) = zs ∧ cutL R (p : Int) (E : Int) = c.items) := fun h => by
    rw [hV] at h
    obtain ⟨h1, h2, h3, h4⟩ := put_yes h
    obtain ⟨i1, i2, i3, i4⟩ := (ckB_iff c).1 h2
    have hp : c.pos = (c.pos.toNat : Int) := by omega
    rw [hR]
    exact ⟨c.pos.toNat, c.pos.toNat + c.items.length, hp, rfl, by omega, put_len h, cut_got h, cut_chunk h hp rfl⟩
  clear hR hV
  go_wp2_with fail
  obtain ⟨S1, hS1⟩ : ∃ S1, S1 = w1.alloc (.cells #[.int .i64 c.pos, .slice b c.items.length cb] 46) := ⟨_, rfl⟩
  rw [← hS1]
  have HA1 : Hid (Below w1.heap.size w1 S1) := by show Below _ _ _; rw [hS1]; exact (Below.refl _ _).alloc (Nat.le_refl _) _
  have HB2 : Hid (Below w.heap.size w S1) := HB1.out.trans (HA1.out.mono HB1.out.size)
  have hst : StC S1 w1.heap.size b cb c := by rw [hS1]; exact stc_new
  have HST : Hid (∀ w', Below S1.heap.size S1 w' → StC w' w1.heap.size b cb c) := fun w' hb => stc_keep hst (hb.block _ (by rw [hS1]; simp))
  have HIA1 : Hid (∀ w', Below S1.heap.size S1 w' → IntsAt w' a zs) := fun w' hb => (HIA.out.keepB HA1.out (Nat.le_refl _)).keepB hb (Nat.le_refl _)
  have HIB1 : Hid (∀ w', Below S1.heap.size S1 w' → IntsAt w' b c.items) := fun w' hb => (HIB.out.keepB HA1.out (Nat.le_refl _)).keepB hb (Nat.le_refl _)
  clear hS1 hst
  refine (HP.out S1 (HIA1.out _ (Below.refl _ _)) (HIB1.out _ (Below.refl _ _))).mono ?_
  rintro e w2 ⟨ag, cg, rfl, hog, hb2⟩
  have HG := Lib.hid (own_ints hog)
  have HCG := Lib.hid hog.cap_le.1
  have HB3 := Lib.hid hb2
  obtain ⟨x0, x1⟩ := HST.out w2 hb2
  clear hog hb2
  go_wp2_with fail
  refine (HQ.out w2 (HIA1.out _ HB3.out) (HIB1.out _ HB3.out)).mono ?_
  rintro e w3 ⟨aw, cw, rfl, how, hb3⟩
  have HW := Lib.hid (own_ints how)
  have HB4 := Lib.hid (HB3.out.trans (hb3.mono HB3.out.size))
  have HG3 : Hid (∀ w', Below w3.heap.size w3 w' → IntsAt w' ag R) := fun w' hb => (HG.out.keepB hb3 (Nat.le_refl _)).keepB hb (Nat.le_refl _)
  have HW3 : Hid (∀ w', Below w3.heap.size w3 w' → IntsAt w' aw R) := fun w' hb => HW.out.keepB hb (Nat.le_refl _)
  have HT : Hid (∀ w', Below w3.heap.size w3 w' → Below S1.heap.size S1 w') := fun w' hb => HB4.out.trans (hb.mono HB4.out.size)
  have HE : Hid (∀ w', Below w3.heap.size w3 w' → Below w.heap.size w w') := fun w' hb => HB2.out.trans ((HT.out w' hb).mono HB2.out.size)
  have HSI : Hid (∀ w', Below w3.heap.size w3 w' → Calls Try.prog 40 #[.slice ag R.length cg, .slice aw R.length cw] w' fun e w'' => e = .returned (.bool true) ∧ Same w' w'') := fun w' hb =>
    sameI_any ag aw _ cg cw R w' (HG3.out w' hb) (HW3.out w' hb) rfl (by omega)
  clear how hb3 x0 x1
  cases V
  · clear HX
    have hVV : (false != false) = false := rfl
    have hVW : (false == false) = true := rfl
    go_wp2_with fail
    refine (HSI.out w3 (Below.refl _ _)).mono ?_
    rintro e w4 ⟨rfl, hs4⟩
    have HX4 : Hid (Below w3.heap.size w3 w4) := hs4.below _
    clear hs4
    go_wp2_with fail
    refine (HSI.out w4 HX4.out).mono ?_
    rintro e w5 ⟨rfl, hs5⟩
    have HB5 : Hid (Below w3.heap.size w3 w5) := HX4.out.trans (hs5.below _)
    clear hs5
    go_wp2
    go_ret
    exact ⟨rfl, HE.out _ HB5.out⟩
  · replace HX := Lib.hid (HX.out rfl)
    have hVV : (true != true) = false := rfl
    go_wp2_with fail
    refine (HSI.out w3 (Below.refl _ _)).mono ?_
    rintro e w4 ⟨rfl, hs4⟩
    have HX4 : Hid (Below w3.heap.size w3 w4) := hs4.below _
    clear hs4
    obtain ⟨p, E, hp, hE, hp20, hRL, hc1, hc2⟩ := HX.out
    have HSK : Hid (∀ w', Below w3.heap.size w3 w' → w'.cell? ⟨w1.heap.size, 0, none⟩ = some (.int .i64 (p : Int)) ∧ w'.cell? ⟨w1.heap.size, 1, none⟩ = some (.slice b c.items.length cb)) := fun w' hb => by
      rw [← hp]; exact HST.out w' (HT.out w' hb)
    have s1 : (p : Int) + (c.items.length : Int) = (E : Int) := by omega
    have s2 : IntKind.i64.wrap (E : Int) = (E : Int) := by rw [IntKind.wrap_i64]; omega
    have s3 : max (zs.length : Int) (E : Int) = (R.length : Int) := by omega
    have hpE : p ≤ E := by omega
    have hER : E ≤ R.length := by omega
    have hZR : zs.length ≤ R.length := by omega
    have hcg := HCG.out
    have HSA : Hid (∀ w', Below w3.heap.size w3 w' → Calls Try.prog 40 #[.slice (slA ag cg 0) zs.length cg, .slice a zs.length ca] w' fun e w'' => e = .returned (.bool true) ∧ Same w' w'') := fun w' hb => by
      have h := ints_slc (HG3.out w' hb) (Nat.zero_le zs.length) hZR hcg
      rw [hc1] at h
      exact sameI_any _ a _ cg ca zs w' h (HIA1.out w' (HT.out w' hb)) rfl (by omega)
    have HSB : Hid (∀ w', Below w3.heap.size w3 w' → Calls Try.prog 40 #[.slice (slA ag cg p) c.items.length (cg - p), .slice b c.items.length cb] w' fun e w'' => e = .returned (.bool true) ∧ Same w' w'') := fun w' hb => by
      have h := ints_slc (HG3.out w' hb) hpE hER hcg
      rw [hc2] at h
      exact sameI_any _ b _ (cg - p) cb c.items w' h (HIB1.out w' (HT.out w' hb)) rfl (by omega)
    have hs1 := fun w => run_slcH w ag R.length cg zs.length (by omega)
    have hs2 : ∀ w, (Instr.slice 22 (.slice ag R.length cg) (some (.int .i64 (p : Int))) (some (.int .i64 (E : Int))) none).run Try.prog w = .ok (.slice (slA ag cg p) c.items.length (cg - p)) w := fun w => by
      have h := run_slcLH w ag R.length cg p E hpE (by omega)
      rwa [show E - p = c.items.length by omega] at h
    have HBD : Hid (Below w3.heap.size w3 w4.drew) := HX4.out.drew
    obtain ⟨d0, d1⟩ := HSK.out w4 HX4.out
    clear hp hE hp20 hRL hc1 hc2 hpE hER hZR hcg hcl hzl
    go_wp2_with fail
    go_region_held3 (fun w' => w'.cell? ⟨w1.heap.size, 0, none⟩ = some (.int .i64 (p : Int)) ∧ w'.cell? ⟨w1.heap.size, 1, none⟩ = some (.slice b c.items.length cb)) (first | (with_reducible exact HSK.out _ HBD.out) | (with_reducible exact HSK.out _ HB6.out) | (with_reducible exact HSK.out _ HB7.out)) (first | (go_at_call 40; ((with_reducible refine (HSA.out _ HBD.out).mono ?_); rintro e w6 ⟨rfl, hs6⟩); have HB6 := Lib.hid (HBD.out.trans (hs6.below _)); clear hs6) | (go_at_call 40; ((with_reducible refine (HSB.out _ HB6.out).mono ?_); rintro e w7 ⟨rfl, hs7⟩); have HB7 := Lib.hid (HB6.out.trans (hs7.below _)); clear hs7))
    clear d0 d1 s1 s2 s3 hs1 hs2
    go_wp2
    go_ret
    exact ⟨rfl, HE.out _ HB7.out⟩

set_option maxHeartbeats 2000000 in
theorem chunkTwice (s : Option Addr) (len cap : Nat) (z : List Int) (w : World) (h : RowIn .u8 w s len cap z) :
    Calls Try.prog 13 #[.slice s len cap] w fun e w' => e = .returned (.bool true) ∧ Below w.heap.size w w' := by
  have hb := bytes_of_row h
  have hm : len ≤ maxLen := Nat.le_trans hb.1 hb.2.1
  unfold maxLen at hm
  clear h
  by_cases hl : 1048576 < len
  · go_enter Try.func13, Try.ntmps13
    go_wp2
    go_ret
    exact ⟨rfl, Below.refl _ _⟩
  have HY := Lib.hid hb
  clear hb
  go_enter Try.func13, Try.ntmps13
  go_wp2_with fail
  refine (drawChunkPut s len cap w HY.out).mono ?_
  rintro e w1 ⟨a, ca, zs, b, cb, c, rfl, hia, hzl, hzc, hib, hcl, hcc, hb1⟩
  have HB1 := Lib.hid hb1
  have HIA := Lib.hid hia.ints
  have HIB := Lib.hid hib.ints
  have HZC := Lib.hid hzc
  have HCC := Lib.hid hcc
  have hzm : zs.length ≤ maxLen := by unfold maxLen; omega
  have hcm : c.items.length ≤ maxLen := by unfold maxLen; omega
  have HZM := Lib.hid hzm
  have HCM := Lib.hid hcm
  clear hia hib hb1 hzm hcm hzc hcc
  obtain ⟨R, hR⟩ : ∃ R, R = putL zs c := ⟨_, rfl⟩
  obtain ⟨V, hV⟩ : ∃ V, V = putB zs c := ⟨_, rfl⟩
  have hRl : R.length ≤ 20 := by rw [hR]; exact putL_le zs c
  have HP : Hid (∀ w, IntsAt w a zs → IntsAt w b c.items → Calls Try.prog 34 #[.slice a zs.length ca, .agg #[.int .i64 c.pos, .slice b c.items.length cb]] w (NewIntsB R V w)) := fun w h h2 => by rw [hR, hV]; exact pput_any a b ca cb zs c w h HZM.out h2 HCM.out HZC.out HCC.out
  have HQ : Hid (∀ w, IntsAt w a zs → IntsAt w b c.items → Calls Try.prog 32 #[.slice a zs.length ca, .agg #[.int .i64 c.pos, .slice b c.items.length cb]] w (NewIntsB R V w)) := fun w h h2 => by rw [hR, hV]; exact sput_any a b ca cb zs c w h HZM.out h2 HCM.out HZC.out HCC.out
  have HX : Hid (V = true → ∀ w, IntsAt w b c.items → ∀ x cx, IntsAt w x R → R.length ≤ cx → Calls Try.prog 34 #[.slice x R.length cx, .agg #[.int .i64 c.pos, .slice b c.items.length cb]] w (NewIntsB R true w)) := fun h w h2 x cx h1 hc => by
    rw [hV] at h
    obtain ⟨e1, e2⟩ := put_twice h
    have h3 := pput_any x b cx cb R c w h1 (by unfold maxLen; omega) h2 HCM.out hc HCC.out
    rw [hR] at h3 ⊢
    rw [e1, e2] at h3
    exact h3
  clear hR hV
  go_wp2_with fail
  obtain ⟨S1, hS1⟩ : ∃ S1, S1 = w1.alloc (.cells #[.int .i64 c.pos, .slice b c.items.length cb] 46) := ⟨_, rfl⟩
  rw [← hS1]
  have HA1 : Hid (Below w1.heap.size w1 S1) := by show Below _ _ _; rw [hS1]; exact (Below.refl _ _).alloc (Nat.le_refl _) _
  have HB2 : Hid (Below w.heap.size w S1) := HB1.out.trans (HA1.out.mono HB1.out.size)
  have hst : StC S1 w1.heap.size b cb c := by rw [hS1]; exact stc_new
  have HST : Hid (∀ w', Below S1.heap.size S1 w' → StC w' w1.heap.size b cb c) := fun w' hb => stc_keep hst (hb.block _ (by rw [hS1]; simp))
  have HIA1 : Hid (∀ w', Below S1.heap.size S1 w' → IntsAt w' a zs) := fun w' hb => (HIA.out.keepB HA1.out (Nat.le_refl _)).keepB hb (Nat.le_refl _)
  have HIB1 : Hid (∀ w', Below S1.heap.size S1 w' → IntsAt w' b c.items) := fun w' hb => (HIB.out.keepB HA1.out (Nat.le_refl _)).keepB hb (Nat.le_refl _)
  clear hS1 hst
  refine (HP.out S1 (HIA1.out _ (Below.refl _ _)) (HIB1.out _ (Below.refl _ _))).mono ?_
  rintro e w2 ⟨ag, cg, rfl, hog, hb2⟩
  have HG := Lib.hid (own_ints hog)
  have HCG := Lib.hid hog.cap_le.1
  have HB3 := Lib.hid hb2
  obtain ⟨x0, x1⟩ := HST.out w2 hb2
  clear hog hb2
  go_wp2_with fail
  refine (HQ.out w2 (HIA1.out _ HB3.out) (HIB1.out _ HB3.out)).mono ?_
  rintro e w3 ⟨aw, cw, rfl, how, hb3⟩
  have HW := Lib.hid (own_ints how)
  have HB4 := Lib.hid (HB3.out.trans (hb3.mono HB3.out.size))
  have HG3 : Hid (∀ w', Below w3.heap.size w3 w' → IntsAt w' ag R) := fun w' hb => (HG.out.keepB hb3 (Nat.le_refl _)).keepB hb (Nat.le_refl _)
  have HW3 : Hid (∀ w', Below w3.heap.size w3 w' → IntsAt w' aw R) := fun w' hb => HW.out.keepB hb (Nat.le_refl _)
  have HT : Hid (∀ w', Below w3.heap.size w3 w' → Below S1.heap.size S1 w') := fun w' hb => HB4.out.trans (hb.mono HB4.out.size)
  have HE : Hid (∀ w', Below w3.heap.size w3 w' → Below w.heap.size w w') := fun w' hb => HB2.out.trans ((HT.out w' hb).mono HB2.out.size)
  have HSI : Hid (∀ w', Below w3.heap.size w3 w' → Calls Try.prog 40 #[.slice ag R.length cg, .slice aw R.length cw] w' fun e w'' => e = .returned (.bool true) ∧ Same w' w'') := fun w' hb =>
    sameI_any ag aw _ cg cw R w' (HG3.out w' hb) (HW3.out w' hb) rfl (by omega)
  clear how hb3 x0 x1
  cases V
  · clear HX
    have hVV : (false != false) = false := rfl
    have hVW : (false == false) = true := rfl
    go_wp2_with fail
    refine (HSI.out w3 (Below.refl _ _)).mono ?_
    rintro e w4 ⟨rfl, hs4⟩
    have HX4 : Hid (Below w3.heap.size w3 w4) := hs4.below _
    clear hs4
    go_wp2_with fail
    refine (HSI.out w4 HX4.out).mono ?_
    rintro e w5 ⟨rfl, hs5⟩
    have HB5 : Hid (Below w3.heap.size w3 w5) := HX4.out.trans (hs5.below _)
    clear hs5
    go_wp2
    go_ret
    exact ⟨rfl, HE.out _ HB5.out⟩
  · replace HX := Lib.hid (HX.out rfl)
    have hVV : (true != true) = false := rfl
    go_wp2_with fail
    refine (HSI.out w3 (Below.refl _ _)).mono ?_
    rintro e w4 ⟨rfl, hs4⟩
    have HX4 : Hid (Below w3.heap.size w3 w4) := hs4.below _
    clear hs4
    obtain ⟨d0, d1⟩ := HST.out w4 (HT.out w4 HX4.out)
    go_wp2_with fail
    refine (HX.out w4 (HIB1.out _ (HT.out _ HX4.out)) ag cg (HG3.out _ HX4.out) HCG.out).mono ?_
    rintro e w5 ⟨ax, cx, rfl, hox, hb5⟩
    have HOX := Lib.hid (own_ints hox)
    have HB5 := Lib.hid (HX4.out.trans (hb5.mono HX4.out.size))
    clear hox hb5 d0 d1
    go_wp2_with fail
    refine (sameI_any ax ag _ cx cg R w5 HOX.out (HG3.out _ HB5.out) rfl (by omega)).mono ?_
    rintro e w6 ⟨rfl, hs6⟩
    have HB6 := Lib.hid (HB5.out.trans (hs6.below _))
    clear hs6
    go_wp2
    go_ret
    exact ⟨rfl, HE.out _ HB6.out⟩

set_option maxHeartbeats 2000000 in
theorem chunkGap (s : Option Addr) (len cap : Nat) (z : List Int) (w : World) (h : RowIn .u8 w s len cap z) :
    Calls Try.prog 14 #[.slice s len cap] w fun e w' => e = .returned (.bool true) ∧ Below w.heap.size w w' := by
  have hb := bytes_of_row h
  have hm : len ≤ maxLen := Nat.le_trans hb.1 hb.2.1
  unfold maxLen at hm
  clear h
  by_cases hl : 1048576 < len
  · go_enter Try.func14, Try.ntmps14
    go_wp2
    go_ret
    exact ⟨rfl, Below.refl _ _⟩
  have HY := Lib.hid hb
  clear hb
  go_enter Try.func14, Try.ntmps14
  go_wp2_with fail
  refine (drawChunkPut s len cap w HY.out).mono ?_
  rintro e w1 ⟨a, ca, zs, b, cb, c, rfl, hia, hzl, hzc, hib, hcl, hcc, hb1⟩
  have HB1 := Lib.hid hb1
  have HIA := Lib.hid hia.ints
  have HIB := Lib.hid hib.ints
  have HZC := Lib.hid hzc
  have HCC := Lib.hid hcc
  have hzm : zs.length ≤ maxLen := by unfold maxLen; omega
  have hcm : c.items.length ≤ maxLen := by unfold maxLen; omega
  have HZM := Lib.hid hzm
  have HCM := Lib.hid hcm
  clear hia hib hb1 hzm hcm hzc hcc
  obtain ⟨R, hR⟩ : ∃ R, R = putL zs c := ⟨_, rfl⟩
  obtain ⟨V, hV⟩ : ∃ V, V = putB zs c := ⟨_, rfl⟩
  have hRl : R.length ≤ 20 := by rw [hR]; exact putL_le zs c
  have HP : Hid (∀ w, IntsAt w a zs → IntsAt w b c.items → Calls Try.prog 34 #[.slice a zs.length ca, .agg #[.int .i64 c.pos, .slice b c.items.length cb]] w (NewIntsB R V w)) := fun w h h2 => by rw [hR, hV]; exact pput_any a b ca cb zs c w h HZM.out h2 HCM.out HZC.out HCC.out
  have HQ : Hid (∀ w, IntsAt w a zs → IntsAt w b c.items → Calls Try.prog 32 #[.slice a zs.length ca, .agg #[.int .i64 c.pos, .slice b c.items.length cb]] w (NewIntsB R V w)) := fun w h h2 => by rw [hR, hV]; exact sput_any a b ca cb zs c w h HZM.out h2 HCM.out HZC.out HCC.out
  have HX : Hid (V = false → R = [] ∨ (R = zs ∧ (∃ p : Nat, c.pos = (p : Int)) ∧ c.pos ≤ 20 ∧ c.items.length ≤ 4 ∧ (c.pos ≤ zs.length → fitTo zs c c.items.length = false))) := fun h => by
    rw [hV] at h
    cases ho : okPut zs c
    · left; rw [hR]; exact (put_no1 ho).1
    · right
      have h2 : ckB c = true := by unfold okPut at ho; rw [Bool.and_eq_true] at ho; exact ho.2
      obtain ⟨i1, i2, i3, i4⟩ := (ckB_iff c).1 h2
      refine ⟨by rw [hR]; exact put_no2 ho h, ⟨c.pos.toNat, by omega⟩, by omega, by omega, fun hle => ?_⟩
      cases hf : fitTo zs c c.items.length
      · rfl
      · rw [put_good ho hle hf] at h; cases h
  clear hR hV
  go_wp2_with fail
  obtain ⟨S1, hS1⟩ : ∃ S1, S1 = w1.alloc (.cells #[.int .i64 c.pos, .slice b c.items.length cb] 46) := ⟨_, rfl⟩
  rw [← hS1]
  have HA1 : Hid (Below w1.heap.size w1 S1) := by show Below _ _ _; rw [hS1]; exact (Below.refl _ _).alloc (Nat.le_refl _) _
  have HB2 : Hid (Below w.heap.size w S1) := HB1.out.trans (HA1.out.mono HB1.out.size)
  have hst : StC S1 w1.heap.size b cb c := by rw [hS1]; exact stc_new
  have HST : Hid (∀ w', Below S1.heap.size S1 w' → StC w' w1.heap.size b cb c) := fun w' hb => stc_keep hst (hb.block _ (by rw [hS1]; simp))
  have HIA1 : Hid (∀ w', Below S1.heap.size S1 w' → IntsAt w' a zs) := fun w' hb => (HIA.out.keepB HA1.out (Nat.le_refl _)).keepB hb (Nat.le_refl _)
  have HIB1 : Hid (∀ w', Below S1.heap.size S1 w' → IntsAt w' b c.items) := fun w' hb => (HIB.out.keepB HA1.out (Nat.le_refl _)).keepB hb (Nat.le_refl _)
  clear hS1 hst
  refine (HP.out S1 (HIA1.out _ (Below.refl _ _)) (HIB1.out _ (Below.refl _ _))).mono ?_
  rintro e w2 ⟨ag, cg, rfl, hog, hb2⟩
  have HG := Lib.hid (own_ints hog)
  have HCG := Lib.hid hog.cap_le.1
  have HB3 := Lib.hid hb2
  obtain ⟨x0, x1⟩ := HST.out w2 hb2
  clear hog hb2
  go_wp2_with fail
  refine (HQ.out w2 (HIA1.out _ HB3.out) (HIB1.out _ HB3.out)).mono ?_
  rintro e w3 ⟨aw, cw, rfl, how, hb3⟩
  have HW := Lib.hid (own_ints how)
  have HB4 := Lib.hid (HB3.out.trans (hb3.mono HB3.out.size))
  have HG3 : Hid (∀ w', Below w3.heap.size w3 w' → IntsAt w' ag R) := fun w' hb => (HG.out.keepB hb3 (Nat.le_refl _)).keepB hb (Nat.le_refl _)
  have HW3 : Hid (∀ w', Below w3.heap.size w3 w' → IntsAt w' aw R) := fun w' hb => HW.out.keepB hb (Nat.le_refl _)
  have HT : Hid (∀ w', Below w3.heap.size w3 w' → Below S1.heap.size S1 w') := fun w' hb => HB4.out.trans (hb.mono HB4.out.size)
  have HE : Hid (∀ w', Below w3.heap.size w3 w' → Below w.heap.size w w') := fun w' hb => HB2.out.trans ((HT.out w' hb).mono HB2.out.size)
  have HSI : Hid (∀ w', Below w3.heap.size w3 w' → Calls Try.prog 40 #[.slice ag R.length cg, .slice aw R.length cw] w' fun e w'' => e = .returned (.bool true) ∧ Same w' w'') := fun w' hb =>
    sameI_any ag aw _ cg cw R w' (HG3.out w' hb) (HW3.out w' hb) rfl (by omega)
  clear how hb3 x0 x1
  cases V
  · replace HX := Lib.hid (HX.out rfl)
    have hVV : (false != false) = false := rfl
    have hVW : (false == false) = true := rfl
    go_wp2_with fail
    refine (HSI.out w3 (Below.refl _ _)).mono ?_
    rintro e w4 ⟨rfl, hs4⟩
    have HX4 : Hid (Below w3.heap.size w3 w4) := hs4.below _
    clear hs4
    rcases HX.out with hR0 | ⟨hRz, ⟨p, hp⟩, hp20, hn4, hfit⟩
    · have hR0l : ((R.length : Int) == 0) = true := by rw [hR0]; rfl
      clear hR0
      go_wp2_with fail
      refine (HSI.out w4 HX4.out).mono ?_
      rintro e w5 ⟨rfl, hs5⟩
      have HB5 : Hid (Below w3.heap.size w3 w5) := HX4.out.trans (hs5.below _)
      clear hs5
      go_wp2
      go_ret
      exact ⟨rfl, HE.out _ HB5.out⟩
    by_cases hz0 : zs.length = 0
    · have hR0l : ((R.length : Int) == 0) = true := by rw [hRz, hz0]; rfl
      clear hRz hp hp20 hn4 hfit hz0
      go_wp2_with fail
      refine (HSI.out w4 HX4.out).mono ?_
      rintro e w5 ⟨rfl, hs5⟩
      have HB5 : Hid (Below w3.heap.size w3 w5) := HX4.out.trans (hs5.below _)
      clear hs5
      go_wp2
      go_ret
      exact ⟨rfl, HE.out _ HB5.out⟩
    have hR0l : ((R.length : Int) == 0) = false := by rw [beq_eq_false_iff_ne, hRz]; omega
    have HSK : Hid (∀ w', Below w3.heap.size w3 w' → w'.cell? ⟨w1.heap.size, 0, none⟩ = some (.int .i64 (p : Int)) ∧ w'.cell? ⟨w1.heap.size, 1, none⟩ = some (.slice b c.items.length cb)) := fun w' hb => by
      rw [← hp]; exact HST.out w' (HT.out w' hb)
    have HPT : Hid (c.pos.toNat = p) := by show _ = _; omega
    have HFIT : Hid (p ≤ zs.length → fitTo zs c c.items.length = false) := fun h => hfit (by omega)
    have HSZ : Hid (∀ w', Below w3.heap.size w3 w' → Calls Try.prog 40 #[.slice ag R.length cg, .slice a zs.length ca] w' fun e w'' => e = .returned (.bool true) ∧ Same w' w'') := fun w' hb => by
      have h := HG3.out w' hb
      rw [hRz] at h ⊢
      exact sameI_any ag a _ cg ca zs w' h (HIA1.out w' (HT.out w' hb)) rfl (by omega)
    obtain ⟨n, hn⟩ : ∃ n, n = c.items.length := ⟨_, rfl⟩
    have HN := Lib.hid hn
    have hp20' : p ≤ 20 := by omega
    have hn4' : n ≤ 4 := by omega
    obtain ⟨d0, d1⟩ := HSK.out w4 HX4.out
    clear hRz hp hp20 hn4 hfit hz0 hcl hRl
    rw [← hn] at d1
    have HSK : Hid (∀ w', Below w3.heap.size w3 w' → w'.cell? ⟨w1.heap.size, 0, none⟩ = some (.int .i64 (p : Int)) ∧ w'.cell? ⟨w1.heap.size, 1, none⟩ = some (.slice b n cb)) := fun w' hb => by rw [HN.out]; exact HSK.out w' hb
    clear hn
    obtain ⟨v0, hv0⟩ : ∃ v0 : Bool, v0 = decide (zs.length < p) := ⟨_, rfl⟩
    have hv0' : decide (zs.length < p) = v0 := hv0.symm
    have HV0 := Lib.hid hv0
    clear hv0
    go_wp2
    go_loopw [9, 10] (fun x i wr => ∃ k : Nat, k ≤ n ∧ i = .int .i64 k ∧ x = .bool (v0 || !fitTo zs c k) ∧ Below w3.heap.size w3 wr) (fun _ i _ => n - (intOf i).toNat)
    case atStart => exact ⟨0, by omega, rfl, by rw [fit_zero, Bool.not_true, Bool.or_false], HX4.out⟩
    case round =>
      obtain ⟨k, hk, rfl, rfl, hbr⟩ := hrel
      have HBR := Lib.hid hbr
      obtain ⟨d0, d1⟩ := HSK.out wr hbr
      obtain ⟨M, hM⟩ : ∃ M, M = p + k := ⟨_, rfl⟩
      have s1 : (p : Int) + (k : Int) = (M : Int) := by omega
      have s2 : IntKind.i64.wrap (M : Int) = (M : Int) := by rw [IntKind.wrap_i64]; omega
      have HM := Lib.hid hM
      clear hbr hM
      obtain ⟨v, hv⟩ : ∃ v : Bool, v = (v0 || !fitTo zs c k) := ⟨_, rfl⟩
      have HV := Lib.hid hv
      rw [← hv]
      clear hv
      have hend : (¬ k < n ∨ ¬ M < zs.length) → v = true := fun h => by
        rw [HV.out]
        cases h1 : v0
        · have h2 : p ≤ zs.length := by
            have := HV0.out
            rw [h1] at this
            have := of_decide_eq_false this.symm
            omega
          have h3 := HFIT.out h2
          cases h4 : fitTo zs c k
          · rfl
          · by_cases hkn : k < n
            · have h5 := fit_rest (n := c.items.length) (by rw [← HN.out]; exact hk) (by
                rw [HPT.out]
                rcases h with h | h
                · omega
                · have := HM.out; omega) h4
              rw [h5] at h3; cases h3
            · rw [show k = c.items.length by rw [← HN.out]; omega] at h4
              rw [h4] at h3; cases h3
        · rfl
      by_cases hkn : k < n
      · by_cases hMl : M < zs.length
        · have hkn' : (k : Int) < (n : Int) := by omega
          have hMi : (M : Int) < (zs.length : Int) := by omega
          have hk0 : (0 : Int) ≤ (k : Int) := by omega
          have hM0 : (0 : Int) ≤ (M : Int) := by omega
          have HFS : Hid (fitTo zs c (k + 1) = (fitTo zs c k && decide (gt zs M = gt c.items k))) := by
            have h := fit_step (got := zs) (c := c) (k := k) (by rw [HPT.out]; have := HM.out; omega)
            rw [HPT.out, ← HM.out] at h
            exact h
          obtain ⟨bz, oz, ha, hz1⟩ : ∃ (bz oz : Nat), a = some ⟨bz, oz, none⟩ ∧ wr.cell? ⟨bz, oz + M, none⟩ = some (.int .i64 (gt zs M)) := by
            rcases HIA1.out wr (HT.out wr HBR.out) with h0 | ⟨b1, o1, e1, _, h3⟩
            · rw [h0] at hMl; simp at hMl
            · exact ⟨b1, o1, e1, h3 M hMl⟩
          obtain ⟨bi, oi, hb, hi1⟩ : ∃ (bi oi : Nat), b = some ⟨bi, oi, none⟩ ∧ wr.cell? ⟨bi, oi + k, none⟩ = some (.int .i64 (gt c.items k)) := by
            rcases HIB1.out wr (HT.out wr HBR.out) with h0 | ⟨b1, o1, e1, _, h3⟩
            · have := HN.out; rw [h0] at this; simp at this; omega
            · exact ⟨b1, o1, e1, h3 k (by rw [← HN.out]; exact hkn)⟩
          subst ha hb
          obtain ⟨x, hx⟩ : ∃ x, x = gt zs M := ⟨_, rfl⟩
          obtain ⟨y, hy⟩ : ∃ y, y = gt c.items k := ⟨_, rfl⟩
          rw [← hx, ← hy] at HFS
          rw [← hx] at hz1
          rw [← hy] at hi1
          clear hx hy hend hMl hkn
          cases v
          · obtain ⟨u, hu⟩ : ∃ u : Bool, u = (x != y) := ⟨_, rfl⟩
            have hu' : (x != y) = u := hu.symm
            have HNX : Hid (u = (v0 || !fitTo zs c (k + 1))) := by
              have h1 := HV.out
              have h2 : v0 = false ∧ fitTo zs c k = true := by
                cases v0 <;> cases h4 : fitTo zs c k <;> rw [h4] at h1 <;> first | exact ⟨rfl, rfl⟩ | cases h1
              show u = _
              rw [HFS.out, h2.1, h2.2, hu, Bool.true_and, Bool.false_or]
              by_cases hxy : x = y
              · subst hxy; simp
              · simp [hxy]
            clear hu
            go_wp2
            go_quiet (fail)
            go_wp2
            go_roundw
            case rel => exact ⟨k + 1, by omega, by go_num, by rw [← HNX.out], ⟨HBR.out.os, HBR.out.tape, HBR.out.output, HBR.out.size, HBR.out.block⟩⟩
            case measure => simp [intOf]; omega
          · have HNX : Hid (true = (v0 || !fitTo zs c (k + 1))) := by
              have h1 := HV.out
              show true = _
              rw [HFS.out]
              cases v0
              · cases h4 : fitTo zs c k <;> rw [h4] at h1 <;> first | rfl | cases h1
              · rfl
            go_wp2
            go_quiet (fail)
            go_wp2
            go_roundw
            case rel => exact ⟨k + 1, by omega, by go_num, by rw [← HNX.out], ⟨HBR.out.os, HBR.out.tape, HBR.out.output, HBR.out.size, HBR.out.block⟩⟩
            case measure => simp [intOf]; omega
        · have hMi : ¬ (M : Int) < (zs.length : Int) := by omega
          have hkn' : (k : Int) < (n : Int) := by omega
          have hv := hend (.inr hMl)
          subst hv
          clear hend hMl hkn
          go_wp2_with fail
          refine (HSZ.out wr HBR.out).mono ?_
          rintro e w6 ⟨rfl, hs6⟩
          have HB6 := Lib.hid (HBR.out.trans (hs6.below _))
          clear hs6
          go_wp2
          go_ret
          exact ⟨rfl, HE.out _ HB6.out⟩
      · have hkn' : ¬ (k : Int) < (n : Int) := by omega
        have hv := hend (.inl hkn)
        subst hv
        clear hend hkn
        go_wp2_with fail
        refine (HSZ.out wr HBR.out).mono ?_
        rintro e w6 ⟨rfl, hs6⟩
        have HB6 := Lib.hid (HBR.out.trans (hs6.below _))
        clear hs6
        go_wp2
        go_ret
        exact ⟨rfl, HE.out _ HB6.out⟩
  · have hVV : (true != true) = false := rfl
    have hVW : (true == true) = true := rfl
    go_wp2_with fail
    refine (HSI.out w3 (Below.refl _ _)).mono ?_
    rintro e w4 ⟨rfl, hs4⟩
    have HX4 : Hid (Below w3.heap.size w3 w4) := hs4.below _
    clear hs4
    go_wp2_with fail
    refine (HSI.out w4 HX4.out).mono ?_
    rintro e w5 ⟨rfl, hs5⟩
    have HB5 : Hid (Below w3.heap.size w3 w5) := HX4.out.trans (hs5.below _)
    clear hs5
    go_wp2
    go_ret
    exact ⟨rfl, HE.out _ HB5.out⟩
end Go.Proofs.Ytedbgfeojocbpaa
