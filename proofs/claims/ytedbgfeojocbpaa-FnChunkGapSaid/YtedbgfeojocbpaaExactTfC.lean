/- The walk of the exact law of putting chunks. -/
import Derived.Test.YtedbgfeojocbpaaTfE3
import Derived.Test.YtedbgfeojocbpaaTfP4
import Derived.Test.YtedbgfeojocbpaaExactNodes
import Derived.Deep.RegionHeld3
namespace Go.Proofs.Ytedbgfeojocbpaa
open Go.RowKit
set_option linter.unusedVariables false

attribute [local go_sem ↓] Go.wp_at_zero Go.wp_at_succ

def StC (w : World) (b : Nat) (a : Option Addr) (cap : Nat) (c : Ck) : Prop := w.cell? ⟨b, 0, none⟩ = some (.int .i64 c.pos) ∧ w.cell? ⟨b, 1, none⟩ = some (.slice a c.items.length cap)
theorem stc_keep {w w' : World} {b : Nat} {a : Option Addr} {cap : Nat} {c : Ck} (h : StC w b a cap c) (hb : w'.heap[b]? = w.heap[b]?) : StC w' b a cap c :=
  ⟨(World.cell?_of_block (a := ⟨b, 0, none⟩) hb).trans h.1, (World.cell?_of_block (a := ⟨b, 1, none⟩) hb).trans h.2⟩
theorem stc_new {w : World} {a : Option Addr} {cap : Nat} {c : Ck} {ty : TypeId} : StC (w.alloc (.cells #[.int .i64 c.pos, .slice a c.items.length cap] ty)) w.heap.size a cap c := cells2 (heap_alloc_new w _)

set_option maxHeartbeats 4000000 in
theorem exChunkPut (a : Option Addr) (len cap : Nat) (z : List Int) (b : Option Addr) (cb : Nat) (c : Ck) (w : World) (h : RowInts w a len cap z) (h2 : IntsAt w b c.items) (hm2 : c.items.length ≤ maxLen) :
    Calls Try.prog 7 #[.slice a len cap, .agg #[.int .i64 c.pos, .slice b c.items.length cb]] w fun e w' => e = .returned (.bool true) ∧ Below w.heap.size w w' := by
  obtain ⟨zs, hz, hi, hm⟩ := ints_of_row h
  clear h
  have HI2 := Lib.hid h2
  have HM2 := Lib.hid hm2
  clear h2 hm2
  obtain ⟨W, hW⟩ : ∃ W, W = w.alloc (.cells #[.int .i64 c.pos, .slice b c.items.length cb] 42) := ⟨_, rfl⟩
  have hB : Below w.heap.size w W := by rw [hW]; exact (Below.refl _ _).alloc (Nat.le_refl _) _
  have hs : W.heap.size = w.heap.size + 1 := by rw [hW]; simp
  have hst : StC W w.heap.size b cb c := by rw [hW]; exact stc_new
  have HBX : Hid (∀ w', Below W.heap.size W w' → StC w' w.heap.size b cb c) := fun w' hb => stc_keep hst (hb.block _ (by omega))
  have HB := Lib.hid hB
  have HW := Lib.hid hW
  have HS := Lib.hid hs
  obtain ⟨c0, c1⟩ := hst
  clear hW hB hs
  by_cases hl : 1048576 < len
  · unfold maxLen at hm
    clear hz hi
    go_enter Try.func7, Try.ntmps7
    go_wp2_with fail
    rw [← HW.out]
    go_wp2
    go_ret
    exact ⟨rfl, HB.out⟩
  subst hz
  have HI := Lib.hid hi
  clear hi hm
  have hmx : zs.length ≤ maxLen := by unfold maxLen; omega
  have HMX := Lib.hid hmx
  clear hmx
  have HLT : Hid (zs.length ≤ 1048576) := by show _ ≤ _; omega
  by_cases hl2 : 1048576 < c.items.length
  · have He : Hid (leftT 1048576 c.items.length = -1) := by show leftT _ _ = -1; simp [leftT]; omega
    go_enter Try.func7, Try.ntmps7
    go_wp2_with fail
    rw [← HW.out]
    go_wp2_with fail
    refine (szCk_any b cb c 1048576 W (by omega) (by omega) HM2.out).mono ?_
    rintro e w1 ⟨rfl, hb1⟩
    rw [He.out]
    have HB1 := Lib.hid (HB.out.trans (hb1.mono HB.out.size))
    clear hb1
    go_wp2
    go_ret
    exact ⟨rfl, HB1.out⟩
  have He : Hid (leftT 1048576 c.items.length = 1048576 - c.items.length) := by show leftT _ _ = _; simp [leftT]; omega
  have hn : (0 : Int) ≤ 1048576 - c.items.length := by omega
  have hn2 : ¬ (1048576 : Int) - c.items.length < 0 := by omega
  have HLT2 : Hid (c.items.length ≤ 1048576) := by show _ ≤ _; omega
  clear hl2
  obtain ⟨R, hR⟩ : ∃ R, R = putL zs c := ⟨_, rfl⟩
  have hRl : R.length ≤ 20 := by rw [hR]; exact putL_le zs c
  obtain ⟨V, hV⟩ : ∃ V, V = putB zs c := ⟨_, rfl⟩
  have hVV : (V != V) = false := by cases V <;> rfl
  have HSP : Hid (∀ (x y : Option Addr) (w : World), IntsAt w x zs → IntsAt w y c.items → Calls Try.prog 32 #[.slice x zs.length zs.length, .agg #[.int .i64 c.pos, .slice y c.items.length c.items.length]] w (NewIntsB R V w)) := fun x y w h h2 => by rw [hR, hV]; exact sput_any x y zs.length c.items.length zs c w h HMX.out h2 HM2.out (Nat.le_refl _) (Nat.le_refl _)
  have HIM : Hid (∀ (x y : Option Addr) (w : World), IntsAt w x zs → IntsAt w y c.items → Calls Try.prog 34 #[.slice x zs.length zs.length, .agg #[.int .i64 c.pos, .slice y c.items.length c.items.length]] w (NewIntsB R V w)) := fun x y w h h2 => by rw [hR, hV]; exact pput_any x y zs.length c.items.length zs c w h HMX.out h2 HM2.out (Nat.le_refl _) (Nat.le_refl _)
  clear hR hV
  go_enter Try.func7, Try.ntmps7
  go_wp2_with fail
  rw [← HW.out]
  go_wp2_with fail
  refine (szCk_any b cb c 1048576 W (by omega) (by omega) HM2.out).mono ?_
  rintro e w1 ⟨rfl, hb1⟩
  rw [He.out]
  have HW1 := Lib.hid hb1
  clear hb1 c0 c1
  have HKB : Hid (∀ w', Below W.heap.size W w' → Below w.heap.size w w') := fun w' hb => HB.out.trans (hb.mono HB.out.size)
  have HIK : Hid (∀ w', Below W.heap.size W w' → IntsAt w' a zs) := fun w' hb => HI.out.keepB (HKB.out w' hb) (Nat.le_refl _)
  have HJK : Hid (∀ w', Below W.heap.size W w' → IntsAt w' b c.items) := fun w' hb => HI2.out.keepB (HKB.out w' hb) (Nat.le_refl _)
  have HBD : Hid (Below W.heap.size W w1.drew) := HW1.out.drew
  have HBK : Hid (∀ w', Below W.heap.size W w' → w'.cell? ⟨w.heap.size, 0, none⟩ = some (.int .i64 c.pos) ∧ w'.cell? ⟨w.heap.size, 1, none⟩ = some (.slice b c.items.length cb)) := HBX.out
  obtain ⟨c0, c1⟩ := HBX.out w1 HW1.out
  go_wp2_with fail
  go_region_held3 (fun w' => w'.cell? ⟨w.heap.size, 0, none⟩ = some (.int .i64 c.pos) ∧ w'.cell? ⟨w.heap.size, 1, none⟩ = some (.slice b c.items.length cb)) (first | (with_reducible exact HBK.out _ (HBD.out)) | (with_reducible exact HBK.out _ (HB2.out)) | (with_reducible exact HBK.out _ (HB3.out)) | (with_reducible exact HBK.out _ (HB4.out))) (first | (go_at_call 16; refine (toInts_any a _ cap zs _ (HIK.out _ HBD.out) rfl HLT.out).mono ?_; rintro e w2 ⟨rfl, hr2, hb2, hs2⟩; have HB2 := Lib.hid (HBD.out.trans (hb2.mono HBD.out.size)); have HR2 := Lib.hid hr2.ints; clear hr2 hb2 hs2) | (go_at_call 33; refine (toCk_any b cb c _ (HJK.out _ HB2.out) HLT2.out).mono ?_; rintro e w3 ⟨g3, rfl, hr3, hg3, hb3⟩; have HB3 := Lib.hid (HB2.out.trans (hb3.mono HB2.out.size)); have HR3 := Lib.hid hr3.ints; have HX3 := Lib.hid (HR2.out.keepB hb3 (Nat.le_refl _)); clear hr3 hg3 hb3) | (go_at_call 32; refine (HSP.out _ _ _ HX3.out HR3.out).mono ?_; rintro e w4 ⟨aw, cw, rfl, how, hb4⟩; have HB4 := Lib.hid (HB3.out.trans (hb4.mono HB3.out.size)); have HOW := Lib.hid how; clear how hb4))
  clear c0 c1
  obtain ⟨c0, c1⟩ := HBX.out w4 HB4.out
  go_wp2_with fail
  refine (toInts_any a _ cap zs w4 (HIK.out _ HB4.out) rfl HLT.out).mono ?_
  rintro e w5 ⟨rfl, hr5, hb5, hs5⟩
  have HR5 := Lib.hid hr5
  have HW5 := Lib.hid hb5
  have HB5 := Lib.hid (HB4.out.trans (hb5.mono HB4.out.size))
  have HG5 : Hid (w4.heap.size < w5.heap.size) := RowOf.lt' hr5
  clear hr5 hb5 hs5 c0 c1
  obtain ⟨c0, c1⟩ := HBX.out w5 HB5.out
  go_wp2_with fail
  refine (toCk_any b cb c w5 (HJK.out _ HB5.out) HLT2.out).mono ?_
  rintro e w6 ⟨g6, rfl, hr6, hg6, hb6⟩
  have HR6 := Lib.hid hr6
  have HG6 : Hid (w5.heap.size ≤ g6 ∧ g6 < w6.heap.size) := ⟨hg6, RowOf.lt' hr6⟩
  have HW6 := Lib.hid hb6
  clear hr6 hg6 hb6 c0 c1
  go_wp2_with fail
  obtain ⟨S6, hS6⟩ : ∃ S6, S6 = w6.alloc (.cells #[.int .i64 c.pos, .slice (some ⟨g6, 0, none⟩) c.items.length c.items.length] 46) := ⟨_, rfl⟩
  rw [← hS6]
  have HAL : Hid (Below w6.heap.size w6 S6) := by show Below _ _ _; rw [hS6]; exact (Below.refl _ _).alloc (Nat.le_refl _) _
  have HZ6 : Hid (S6.heap.size = w6.heap.size + 1) := by show _ = _; rw [hS6]; simp
  have HST6 : Hid (StC S6 w6.heap.size (some ⟨g6, 0, none⟩) c.items.length c) := by show StC _ _ _ _ _; rw [hS6]; exact stc_new
  have HK6 : Hid (Below w5.heap.size w5 S6) := HW6.out.trans (HAL.out.mono HW6.out.size)
  have HX6 : Hid (RowOf S6 w4.heap.size zs) := HR5.out.kept' (HK6.out.block _ HG5.out)
  have HY6 : Hid (RowOf S6 g6 c.items) := HR6.out.kept' (HAL.out.block _ HG6.out.2)
  clear hS6
  refine (HIM.out _ _ S6 HX6.out.ints HY6.out.ints).mono ?_
  rintro e w7 ⟨ag, cg, rfl, hog, hb7⟩
  have HOG := Lib.hid hog
  have HLG := Lib.hid (own_lt2 hog)
  have HLW := Lib.hid (own_lt2 HOW.out)
  have HW7 := Lib.hid hb7
  clear hog hb7
  have HSZ : Hid (w.heap.size < W.heap.size ∧ W.heap.size ≤ w4.heap.size ∧ w4.heap.size < w5.heap.size ∧ w5.heap.size ≤ g6 ∧ g6 < w6.heap.size ∧ w6.heap.size < S6.heap.size ∧ S6.heap.size ≤ w7.heap.size) := by
    have h1 := HS.out; have h2 := HB4.out.size; have h3 := HG5.out; have h4 := HG6.out; have h5 := HZ6.out; have h6 := HW7.out.size
    exact ⟨by omega, h2, h3, h4.1, h4.2, by omega, h6⟩
  have HK7 : Hid (Below W.heap.size W w7) := HB5.out.trans ((HK6.out.trans (HW7.out.mono HK6.out.size)).mono HB5.out.size)
  have H47 : Hid (Below w4.heap.size w4 w7) := HW5.out.trans ((HK6.out.trans (HW7.out.mono HK6.out.size)).mono HW5.out.size)
  have HWI7 : Hid (IntsAt w7 aw R) := (own_ints HOW.out).keepB H47.out (Nat.le_refl _)
  have HX7 : Hid (RowOf w7 w4.heap.size zs) := HX6.out.kept' (HW7.out.block _ (by have := HSZ.out; omega))
  have HY7 : Hid (RowOf w7 g6 c.items) := HY6.out.kept' (HW7.out.block _ (by have := HSZ.out; omega))
  have HF7 : Hid (∀ w', Below w7.heap.size w7 w' → StC w' w.heap.size b cb c ∧ StC w' w6.heap.size (some ⟨g6, 0, none⟩) c.items.length c) := fun w' hb =>
    ⟨HBX.out w' (HK7.out.trans (hb.mono HK7.out.size)), stc_keep (stc_keep HST6.out (HW7.out.block _ (by have := HSZ.out; omega))) (hb.block _ (by have := HSZ.out; omega))⟩
  go_wp2_with fail
  refine (eqInts_same _ _ _ _ _ R w7 (own_ints HOG.out) HWI7.out rfl (by omega)).mono ?_
  rintro e w8 ⟨rfl, hs8⟩
  have HB8 : Hid (Below w7.heap.size w7 w8) := hs8.below _
  clear hs8
  go_wp2_with fail
  refine (toInts_any a _ cap zs w8 (HIK.out _ (HK7.out.trans (HB8.out.mono HK7.out.size))) rfl HLT.out).mono ?_
  rintro e w9 ⟨rfl, hr9, hb9, hs9⟩
  have HR9 := Lib.hid hr9
  have HB9 : Hid (Below w7.heap.size w7 w9) := HB8.out.trans (hb9.mono HB8.out.size)
  clear hr9 hb9 hs9
  go_wp2_with fail
  refine (eqInts_same _ _ _ _ _ zs w9 (HX7.out.ints.keepB HB9.out (Nat.le_refl _)) HR9.out.ints rfl HLT.out).mono ?_
  rintro e w10 ⟨rfl, hs10⟩
  have HB10 : Hid (Below w7.heap.size w7 w10) := HB9.out.trans (hs10.below _)
  clear hs10
  have HKQ : Hid (∀ w', Below w7.heap.size w7 w' → w'.cell? ⟨w6.heap.size, 0, none⟩ = some (.int .i64 c.pos) ∧ w'.cell? ⟨w6.heap.size, 1, none⟩ = some (.slice (some ⟨g6, 0, none⟩) c.items.length c.items.length) ∧ w'.cell? ⟨w.heap.size, 0, none⟩ = some (.int .i64 c.pos) ∧ w'.cell? ⟨w.heap.size, 1, none⟩ = some (.slice b c.items.length cb)) := fun w' hb => by
    obtain ⟨k2, k9⟩ := HF7.out w' hb
    exact ⟨k9.1, k9.2, k2.1, k2.2⟩
  have HBE : Hid (Below w7.heap.size w7 w10.drew) := HB10.out.drew
  obtain ⟨d0, d1, d2, d3⟩ := HKQ.out w10 HB10.out
  go_wp2_with fail
  go_region_held3 (fun w' => w'.cell? ⟨w6.heap.size, 0, none⟩ = some (.int .i64 c.pos) ∧ w'.cell? ⟨w6.heap.size, 1, none⟩ = some (.slice (some ⟨g6, 0, none⟩) c.items.length c.items.length) ∧ w'.cell? ⟨w.heap.size, 0, none⟩ = some (.int .i64 c.pos) ∧ w'.cell? ⟨w.heap.size, 1, none⟩ = some (.slice b c.items.length cb)) (first | (with_reducible exact HKQ.out _ (HBE.out)) | (with_reducible exact HKQ.out _ (HB11.out)) | (with_reducible exact HKQ.out _ (HB12.out))) (first | (go_at_call 33; refine (toCk_any b cb c _ (HJK.out _ (HK7.out.trans (HBE.out.mono HK7.out.size))) HLT2.out).mono ?_; rintro e w11 ⟨g11, rfl, hr11, hg11, hb11⟩; have HB11 := Lib.hid (HBE.out.trans (hb11.mono HBE.out.size)); have HR11 := Lib.hid hr11; clear hr11 hg11 hb11) | (go_at_call 35; refine (eqCk_same (some ⟨g6, 0, none⟩) (some ⟨g11, 0, none⟩) _ _ c w11 (HY7.out.ints.keepB HB11.out (Nat.le_refl _)) HR11.out.ints HLT2.out).mono ?_; rintro e w12 ⟨rfl, hb12⟩; have HB12 := Lib.hid (HB11.out.trans (hb12.mono HB11.out.size)); clear hb12))
  clear d0 d1 d2 d3
  go_wp2_with fail
  refine (marks_any (some ⟨w4.heap.size, 0, none⟩) zs.length zs.length 1 w12 (owned_keep (owned_rowOf HX7.out) (fun x hx => by cases hx; exact HB12.out.block _ (by have := HSZ.out; show w4.heap.size < _; omega))) (by omega) (by omega) HLT.out).mono ?_
  rintro e w13 ⟨rfl, _, hk13⟩
  have HM13 : Hid (∀ i, i < w7.heap.size → i ≠ w4.heap.size → w13.heap[i]? = w7.heap[i]?) := fun i hi hne => (hk13.block i (by have := HB12.out.size; omega) (fun x hx => by cases hx; exact hne)).trans (HB12.out.block i hi)
  have HZ13 : Hid (w7.heap.size ≤ w13.heap.size) := Nat.le_trans HB12.out.size hk13.size
  have HW13 : Hid (Below W.heap.size W w13) := (HK7.out.trans (HB12.out.mono HK7.out.size)).trans (hk13.below (by have := HB12.out.size; have := HSZ.out; omega) (fun x hx => by cases hx; have := HSZ.out; show W.heap.size ≤ w4.heap.size; omega))
  have hc13 : StC w13 w6.heap.size (some ⟨g6, 0, none⟩) c.items.length c := stc_keep (HF7.out w7 (Below.refl _ _)).2 (HM13.out _ (by have := HSZ.out; omega) (by have := HSZ.out; omega))
  obtain ⟨x0, x1⟩ := hc13
  clear hk13
  go_wp2_with fail
  refine (marksCk_any (some ⟨g6, 0, none⟩) c.items.length c (1 + zs.length) w13 (owned_keep (owned_rowOf HY7.out) (fun x hx => by cases hx; exact HM13.out _ (by have := HSZ.out; show g6 < _; omega) (by have := HSZ.out; show g6 ≠ _; omega))) (by omega) (by have := HLT.out; omega) HLT2.out).mono ?_
  rintro e w14 ⟨rfl, _, hk14⟩
  have HM14 : Hid (∀ i, i < w7.heap.size → i ≠ w4.heap.size → i ≠ g6 → w14.heap[i]? = w7.heap[i]?) := fun i hi hne hne2 => (hk14.block i (by have := HZ13.out; omega) (fun x hx => by cases hx; exact hne2)).trans (HM13.out i hi hne)
  have HZ14 : Hid (w7.heap.size ≤ w14.heap.size) := Nat.le_trans HZ13.out hk14.size
  have HW14 : Hid (Below W.heap.size W w14) := HW13.out.trans (hk14.below (by have := HZ13.out; have := HSZ.out; omega) (fun x hx => by cases hx; have := HSZ.out; show W.heap.size ≤ g6; omega))
  have HG14 : Hid (OwnI w14 S6.heap.size ag cg R) := HOG.out.kept fun g h1 h2 => HM14.out g h2 (by have := HSZ.out; omega) (by have := HSZ.out; omega)
  have HWI14 : Hid (IntsAt w14 aw R) := ints_block HWI7.out HZ14.out (fun x hx => by have h1 := (HLW.out x hx).2; have := HSZ.out; exact HM14.out _ (by omega) (by omega) (by omega))
  have k1 : decide ((1 : Int) + (zs.length : Int) + (c.items.length : Int) < 0) = false := by simp; omega
  clear hk14 x0 x1
  go_wp2_with fail
  refine (eqInts_same _ _ _ _ _ R w14 (own_ints HG14.out) HWI14.out rfl (by omega)).mono ?_
  rintro e w15 ⟨rfl, hs15⟩
  have HB15 : Hid (Below w14.heap.size w14 w15) := hs15.below _
  clear hs15 k1
  have HG15 : Hid (OwnI w15 S6.heap.size ag cg R) := HG14.out.keepB HB15.out (Nat.le_refl _)
  go_wp2_with fail
  refine (marks_any ag R.length cg 1 w15 (owned_own HG15.out) (by omega) (by omega) (by omega)).mono ?_
  rintro e w16 ⟨rfl, hi16, hk16⟩
  have HI16 := Lib.hid hi16
  have HW16 : Hid (Below W.heap.size W w16) := (HW14.out.trans (HB15.out.mono HW14.out.size)).trans (hk16.below (by have := HB15.out.size; have := HW14.out.size; omega) (fun x hx => by have := (HLG.out x hx).1; have := HSZ.out; omega))
  have HWI16 : Hid (IntsAt w16 aw R) := ints_block (HWI14.out.keepB HB15.out (Nat.le_refl _)) hk16.size (fun x hx => by
    have h1 := (HLW.out x hx).2; have z := HSZ.out; have z14 := HZ14.out; have z15 := HB15.out.size
    exact hk16.block _ (by omega) (fun y hy => by have := (HLG.out y hy).1; omega))
  clear hi16 hk16
  go_wp2_with fail
  refine (heldInts_any ag _ cg 1 w16 HI16.out (by omega) (by omega) (by omega)).mono ?_
  rintro e w17 ⟨rfl, hs17⟩
  have HB17 : Hid (Below w16.heap.size w16 w17) := hs17.below _
  have HW17 : Hid (Below W.heap.size W w17) := HW16.out.trans (HB17.out.mono HW16.out.size)
  have q0 : decide ((1 : Int) + (R.length : Int) < 0) = false := by simp; omega
  have q1 : (((1 : Int) + (R.length : Int)) != ((1 : Int) + (R.length : Int))) = false := by simp
  clear hs17
  have HBF : Hid (Below W.heap.size W w17.drew) := HW17.out.drew
  obtain ⟨c0, c1⟩ := HBX.out w17 HW17.out
  have HDF : Hid (Below w16.heap.size w16 w17.drew) := HB17.out.drew
  go_wp2_with fail
  go_region_held3 (fun w' => w'.cell? ⟨w.heap.size, 0, none⟩ = some (.int .i64 c.pos) ∧ w'.cell? ⟨w.heap.size, 1, none⟩ = some (.slice b c.items.length cb)) (first | (with_reducible exact HBK.out _ (HBF.out)) | (with_reducible exact HBK.out _ (HV18.out)) | (with_reducible exact HBK.out _ (HV19.out)) | (with_reducible exact HBK.out _ (HV20.out))) (first | (go_at_call 16; refine (toInts_any a _ cap zs _ (HIK.out _ HBF.out) rfl HLT.out).mono ?_; rintro e w18 ⟨rfl, hr18, hb18, hs18⟩; have HV18 := Lib.hid (HBF.out.trans (hb18.mono HBF.out.size)); have HD18 := Lib.hid (HDF.out.trans (hb18.mono HDF.out.size)); have HR18 := Lib.hid hr18.ints; clear hr18 hb18 hs18) | (go_at_call 33; refine (toCk_any b cb c _ (HJK.out _ HV18.out) HLT2.out).mono ?_; rintro e w19 ⟨g19, rfl, hr19, hg19, hb19⟩; have HV19 := Lib.hid (HV18.out.trans (hb19.mono HV18.out.size)); have HD19 := Lib.hid (HD18.out.trans (hb19.mono HD18.out.size)); have HR19 := Lib.hid hr19.ints; have HX19 := Lib.hid (HR18.out.keepB hb19 (Nat.le_refl _)); clear hr19 hg19 hb19) | (go_at_call 34; refine (HIM.out _ _ _ HX19.out HR19.out).mono ?_; rintro e w20 ⟨ah, ch, rfl, hoh, hb20⟩; have HV20 := Lib.hid (HV19.out.trans (hb20.mono HV19.out.size)); have HD20 := Lib.hid (HD19.out.trans (hb20.mono HD19.out.size)); have HOH := Lib.hid hoh; clear hoh hb20))
  clear c0 c1
  go_wp2_with fail
  refine (eqInts_same _ _ _ _ _ R w20 (own_ints HOH.out) (HWI16.out.keepB HD20.out (Nat.le_refl _)) rfl (by omega)).mono ?_
  rintro e w21 ⟨rfl, hs21⟩
  have HD21 : Hid (Below w16.heap.size w16 w21) := HD20.out.trans (hs21.below _)
  clear hs21
  go_wp2_with fail
  refine (heldInts_any ag _ cg 1 w21 (HI16.out.keepB HD21.out (Nat.le_refl _)) (by omega) (by omega) (by omega)).mono ?_
  rintro e w22 ⟨rfl, hs22⟩
  have HD22 : Hid (Below w16.heap.size w16 w22) := HD21.out.trans (hs22.below _)
  clear hs22
  go_wp2
  go_ret
  exact ⟨rfl, HKB.out _ (HW16.out.trans (HD22.out.mono HW16.out.size))⟩
end Go.Proofs.Ytedbgfeojocbpaa
