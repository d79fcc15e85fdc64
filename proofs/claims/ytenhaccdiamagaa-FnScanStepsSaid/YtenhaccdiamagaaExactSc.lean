/- The walks of the exact laws of valid and complete scans. -/
import Derived.Test.YtenhaccdiamagaaScE
import Derived.Test.YtenhaccdiamagaaScP
import Derived.Test.YtenhaccdiamagaaExactNodes
import Derived.Deep.RegionHeld3
namespace Go.Proofs.Ytenhaccdiamagaa
open Go.RowKit
set_option linter.unusedVariables false
attribute [local go_sem ↓] Go.wp_at_zero Go.wp_at_succ

/-- a scan in a variable -/
def StSc (w : World) (b : Nat) (a : Option Addr) (cap : Nat) (s : Sc) : Prop := w.cell? ⟨b, 0, none⟩ = some (.int .i64 s.x) ∧ w.cell? ⟨b, 1, none⟩ = some (.slice a s.t.length cap)
theorem stsc_keep {w w' : World} {b : Nat} {a : Option Addr} {cap : Nat} {s : Sc} (h : StSc w b a cap s) (hb : w'.heap[b]? = w.heap[b]?) : StSc w' b a cap s :=
  ⟨(World.cell?_of_block (a := ⟨b, 0, none⟩) hb).trans h.1, (World.cell?_of_block (a := ⟨b, 1, none⟩) hb).trans h.2⟩
theorem stsc_new {w : World} {a : Option Addr} {cap : Nat} {s : Sc} {ty : TypeId} : StSc (w.alloc (.cells #[.int .i64 s.x, .slice a s.t.length cap] ty)) w.heap.size a cap s := cell2s (heap_alloc_new w _)
theorem pscv_as (v : Bool) (a : Option Addr) (n cap : Nat) (s : Sc) (w : World) (h : IntsAt w a s.t) (hz : s.t.length = n) (hm : n ≤ maxLen) (hv : scB s = v) :
    Calls Try.prog 19 #[.agg #[.int .i64 s.x, .slice a n cap]] w fun e w' => e = .returned (.bool v) ∧ Below w.heap.size w w' := by subst hv; exact pscv_any a n cap s w h hz hm
theorem pdone_as (v : Bool) (a : Option Addr) (n cap : Nat) (s : Sc) (w : World) (h : IntsAt w a s.t) (hz : s.t.length = n) (hm : n ≤ maxLen) (hv : doneB s = v) :
    Calls Try.prog 23 #[.agg #[.int .i64 s.x, .slice a n cap]] w fun e w' => e = .returned (.bool v) ∧ Below w.heap.size w w' := by subst hv; exact pdone_any a n cap s w h hz hm
theorem sdone_as (v : Bool) (a : Option Addr) (n cap : Nat) (s : Sc) (w : World) (h : IntsAt w a s.t) (hz : s.t.length = n) (hm : n ≤ maxLen) (hv : doneB s = v) :
    Calls Try.prog 24 #[.agg #[.int .i64 s.x, .slice a n cap]] w fun e w' => e = .returned (.bool v) ∧ Below w.heap.size w w' := by subst hv; exact sdone_any a n cap s w h hz hm

set_option maxHeartbeats 4000000 in
theorem exScanValid (a : Option Addr) (cap : Nat) (s : Sc) (w : World) (h : IntsAt w a s.t) (hm : s.t.length ≤ maxLen) :
    Calls Try.prog 11 #[.agg #[.int .i64 s.x, .slice a s.t.length cap]] w fun e w' => e = .returned (.bool true) ∧ Below w.heap.size w w' := by
  have HI := Lib.hid h
  have HM := Lib.hid hm
  clear h hm
  obtain ⟨W, hW⟩ : ∃ W, W = w.alloc (.cells #[.int .i64 s.x, .slice a s.t.length cap] 49) := ⟨_, rfl⟩
  have hB : Below w.heap.size w W := by rw [hW]; exact (Below.refl _ _).alloc (Nat.le_refl _) _
  have hs : W.heap.size = w.heap.size + 1 := by rw [hW]; simp
  have hst : StSc W w.heap.size a cap s := by rw [hW]; exact stsc_new
  have HBX : Hid (∀ w', Below W.heap.size W w' → StSc w' w.heap.size a cap s) := fun w' hb => stsc_keep hst (hb.block _ (by omega))
  have HB := Lib.hid hB
  have HW := Lib.hid hW
  have HS := Lib.hid hs
  obtain ⟨c0, c1⟩ := hst
  clear hW hB hs
  by_cases hl : 1048576 < s.t.length
  · have He : Hid (leftT 1048576 s.t.length = -1) := by show leftT _ _ = -1; simp [leftT]; omega
    go_enter Try.func11, Try.ntmps11
    go_wp2_with fail
    rw [← HW.out]
    go_wp2_with fail
    refine (szSc_any a cap s 1048576 W (by omega) (by omega) HM.out).mono ?_
    rintro e w1 ⟨rfl, hb1⟩
    rw [He.out]
    have HB1 := Lib.hid (HB.out.trans (hb1.mono HB.out.size))
    clear hb1
    go_wp2
    go_ret
    exact ⟨rfl, HB1.out⟩
  have He : Hid (leftT 1048576 s.t.length = 1048576 - s.t.length) := by show leftT _ _ = _; simp [leftT]; omega
  have hn : (0 : Int) ≤ 1048576 - s.t.length := by omega
  have hn2 : ¬ (1048576 : Int) - s.t.length < 0 := by omega
  have hlt : s.t.length ≤ 1048576 := by omega
  have HLT := Lib.hid hlt
  clear hl hlt
  obtain ⟨V, hV⟩ : ∃ V, scB s = V := ⟨_, rfl⟩
  have hVV : (V != V) = false := by cases V <;> rfl
  have HV := Lib.hid hV
  clear hV
  go_enter Try.func11, Try.ntmps11
  go_wp2_with fail
  rw [← HW.out]
  go_wp2_with fail
  refine (szSc_any a cap s 1048576 W (by omega) (by omega) HM.out).mono ?_
  rintro e w1 ⟨rfl, hb1⟩
  rw [He.out]
  obtain ⟨c0, c1⟩ := HBX.out w1 hb1
  have HB1 := Lib.hid (HB.out.trans (hb1.mono HB.out.size))
  have HW1 := Lib.hid hb1
  clear hb1
  go_wp2_with fail
  refine (toSc_any a cap s w1 (HI.out.keepB HB1.out (Nat.le_refl _)) HLT.out).mono ?_
  rintro e w2 ⟨g2, rfl, hr2, hg2, hb2⟩
  have HR2 := Lib.hid hr2.ints
  have HW2 := Lib.hid (HW1.out.trans (hb2.mono HW1.out.size))
  clear hr2 hg2 hb2
  go_wp2_with fail
  refine (sscv_as V (some ⟨g2, 0, none⟩) _ _ s w2 HR2.out rfl HM.out HV.out).mono ?_
  rintro e w3 ⟨rfl, hb3⟩
  have HW3 := Lib.hid (HW2.out.trans (hb3.mono HW2.out.size))
  clear hb3 c0 c1
  obtain ⟨c0, c1⟩ := HBX.out w3 HW3.out
  go_wp2_with fail
  refine (toSc_any a cap s w3 (HI.out.keepB (HB.out.trans (HW3.out.mono HB.out.size)) (Nat.le_refl _)) HLT.out).mono ?_
  rintro e w4 ⟨g4, rfl, hr4, hg4, hb4⟩
  have HR4 := Lib.hid hr4
  have HW4 := Lib.hid (HW3.out.trans (hb4.mono HW3.out.size))
  clear hr4 hg4 hb4 c0 c1
  go_wp2_with fail
  obtain ⟨S4, hS4⟩ : ∃ S4, S4 = w4.alloc (.cells #[.int .i64 s.x, .slice (some ⟨g4, 0, none⟩) s.t.length s.t.length] 26) := ⟨_, rfl⟩
  rw [← hS4]
  have HK4 : Hid (Below W.heap.size W S4) := by show Below _ _ _; rw [hS4]; exact HW4.out.alloc HW4.out.size _
  have HZS4 : Hid (S4.heap.size = w4.heap.size + 1) := by show _ = _; rw [hS4]; simp
  have HST4 : Hid (StSc S4 w4.heap.size (some ⟨g4, 0, none⟩) s.t.length s) := by show StSc _ _ _ _ _; rw [hS4]; exact stsc_new
  have HRS4 : Hid (RowOf S4 g4 s.t) := by show RowOf _ _ _; rw [hS4]; exact HR4.out.kept' (Below.heap_alloc _ _ _ (RowOf.lt' HR4.out))
  clear hS4
  refine (pscv_as V (some ⟨g4, 0, none⟩) _ _ s S4 HRS4.out.ints rfl HM.out HV.out).mono ?_
  rintro e w5 ⟨rfl, hb5⟩
  have HW5 := Lib.hid (HK4.out.trans (hb5.mono HK4.out.size))
  have HK : Hid (∀ w', Below w5.heap.size w5 w' → w'.cell? ⟨w4.heap.size, 0, none⟩ = some (.int .i64 s.x) ∧ w'.cell? ⟨w4.heap.size, 1, none⟩ = some (.slice (some ⟨g4, 0, none⟩) s.t.length s.t.length) ∧ w'.cell? ⟨w.heap.size, 0, none⟩ = some (.int .i64 s.x) ∧ w'.cell? ⟨w.heap.size, 1, none⟩ = some (.slice a s.t.length cap)) := fun w' hb => by
    have k8 := stsc_keep (stsc_keep HST4.out (hb5.block _ (by have := HZS4.out; omega))) (hb.block _ (by have := HZS4.out; have := hb5.size; omega))
    have k2 := HBX.out w' (HW5.out.trans (hb.mono HW5.out.size))
    exact ⟨k8.1, k8.2, k2.1, k2.2⟩
  have HRS5 : Hid (RowOf w5 g4 s.t) := HRS4.out.kept' (hb5.block _ (RowOf.lt' HRS4.out))
  have HI5 : Hid (∀ w', Below w5.heap.size w5 w' → IntsAt w' a s.t) := fun w' hb => HI.out.keepB (HB.out.trans ((HW5.out.trans (hb.mono HW5.out.size)).mono HB.out.size)) (Nat.le_refl _)
  have HBD : Hid (Below w5.heap.size w5 w5.drew) := (Below.refl _ _).drew
  have HBW5 : Hid (Below w.heap.size w w5) := HB.out.trans (HW5.out.mono HB.out.size)
  clear hb5
  obtain ⟨d0, d1, d2, d3⟩ := HK.out w5 (Below.refl _ _)
  go_wp2_with fail
  go_region_held3 (fun w' => w'.cell? ⟨w4.heap.size, 0, none⟩ = some (.int .i64 s.x) ∧ w'.cell? ⟨w4.heap.size, 1, none⟩ = some (.slice (some ⟨g4, 0, none⟩) s.t.length s.t.length) ∧ w'.cell? ⟨w.heap.size, 0, none⟩ = some (.int .i64 s.x) ∧ w'.cell? ⟨w.heap.size, 1, none⟩ = some (.slice a s.t.length cap)) (first | (with_reducible exact HK.out _ (HBD.out)) | (with_reducible exact HK.out _ (HB7.out)) | (with_reducible exact HK.out _ (HB8.out))) (first
    | (go_at_call 36; refine (toSc_any a cap s _ (HI5.out _ HBD.out) HLT.out).mono ?_; rintro e w7 ⟨g7, rfl, hr7, hg7, hb7⟩; have HB7 := Lib.hid (HBD.out.trans (hb7.mono HBD.out.size)); have HR7 := Lib.hid hr7; clear hr7 hg7 hb7)
    | (go_at_call 37; refine (eqSc_same (some ⟨g4, 0, none⟩) (some ⟨g7, 0, none⟩) _ _ s w7 (HRS5.out.ints.keepB HB7.out (Nat.le_refl _)) HR7.out.ints HLT.out).mono ?_; rintro e w8 ⟨rfl, hb8⟩; have HB8 := Lib.hid (HB7.out.trans (hb8.mono HB7.out.size)); clear hb8))
  clear d0 d1 d2 d3
  go_wp2
  go_ret
  exact ⟨rfl, HBW5.out.trans (HB8.out.mono HBW5.out.size)⟩

set_option maxHeartbeats 4000000 in
theorem exScanDone (a : Option Addr) (cap : Nat) (s : Sc) (w : World) (h : IntsAt w a s.t) (hm : s.t.length ≤ maxLen) :
    Calls Try.prog 12 #[.agg #[.int .i64 s.x, .slice a s.t.length cap]] w fun e w' => e = .returned (.bool true) ∧ Below w.heap.size w w' := by
  have HI := Lib.hid h
  have HM := Lib.hid hm
  clear h hm
  obtain ⟨W, hW⟩ : ∃ W, W = w.alloc (.cells #[.int .i64 s.x, .slice a s.t.length cap] 49) := ⟨_, rfl⟩
  have hB : Below w.heap.size w W := by rw [hW]; exact (Below.refl _ _).alloc (Nat.le_refl _) _
  have hs : W.heap.size = w.heap.size + 1 := by rw [hW]; simp
  have hst : StSc W w.heap.size a cap s := by rw [hW]; exact stsc_new
  have HBX : Hid (∀ w', Below W.heap.size W w' → StSc w' w.heap.size a cap s) := fun w' hb => stsc_keep hst (hb.block _ (by omega))
  have HB := Lib.hid hB
  have HW := Lib.hid hW
  have HS := Lib.hid hs
  obtain ⟨c0, c1⟩ := hst
  clear hW hB hs
  by_cases hl : 1048576 < s.t.length
  · have He : Hid (leftT 1048576 s.t.length = -1) := by show leftT _ _ = -1; simp [leftT]; omega
    go_enter Try.func12, Try.ntmps12
    go_wp2_with fail
    rw [← HW.out]
    go_wp2_with fail
    refine (szSc_any a cap s 1048576 W (by omega) (by omega) HM.out).mono ?_
    rintro e w1 ⟨rfl, hb1⟩
    rw [He.out]
    have HB1 := Lib.hid (HB.out.trans (hb1.mono HB.out.size))
    clear hb1
    go_wp2
    go_ret
    exact ⟨rfl, HB1.out⟩
  have He : Hid (leftT 1048576 s.t.length = 1048576 - s.t.length) := by show leftT _ _ = _; simp [leftT]; omega
  have hn : (0 : Int) ≤ 1048576 - s.t.length := by omega
  have hn2 : ¬ (1048576 : Int) - s.t.length < 0 := by omega
  have hlt : s.t.length ≤ 1048576 := by omega
  have HLT := Lib.hid hlt
  clear hl hlt
  obtain ⟨V, hV⟩ : ∃ V, doneB s = V := ⟨_, rfl⟩
  have hVV : (V != V) = false := by cases V <;> rfl
  have HV := Lib.hid hV
  clear hV
  go_enter Try.func12, Try.ntmps12
  go_wp2_with fail
  rw [← HW.out]
  go_wp2_with fail
  refine (szSc_any a cap s 1048576 W (by omega) (by omega) HM.out).mono ?_
  rintro e w1 ⟨rfl, hb1⟩
  rw [He.out]
  obtain ⟨c0, c1⟩ := HBX.out w1 hb1
  have HB1 := Lib.hid (HB.out.trans (hb1.mono HB.out.size))
  have HW1 := Lib.hid hb1
  clear hb1
  go_wp2_with fail
  refine (toSc_any a cap s w1 (HI.out.keepB HB1.out (Nat.le_refl _)) HLT.out).mono ?_
  rintro e w2 ⟨g2, rfl, hr2, hg2, hb2⟩
  have HR2 := Lib.hid hr2.ints
  have HW2 := Lib.hid (HW1.out.trans (hb2.mono HW1.out.size))
  clear hr2 hg2 hb2
  go_wp2_with fail
  refine (sdone_as V (some ⟨g2, 0, none⟩) _ _ s w2 HR2.out rfl HM.out HV.out).mono ?_
  rintro e w3 ⟨rfl, hb3⟩
  have HW3 := Lib.hid (HW2.out.trans (hb3.mono HW2.out.size))
  clear hb3 c0 c1
  obtain ⟨c0, c1⟩ := HBX.out w3 HW3.out
  go_wp2_with fail
  refine (toSc_any a cap s w3 (HI.out.keepB (HB.out.trans (HW3.out.mono HB.out.size)) (Nat.le_refl _)) HLT.out).mono ?_
  rintro e w4 ⟨g4, rfl, hr4, hg4, hb4⟩
  have HR4 := Lib.hid hr4
  have HW4 := Lib.hid (HW3.out.trans (hb4.mono HW3.out.size))
  clear hr4 hg4 hb4 c0 c1
  go_wp2_with fail
  obtain ⟨S4, hS4⟩ : ∃ S4, S4 = w4.alloc (.cells #[.int .i64 s.x, .slice (some ⟨g4, 0, none⟩) s.t.length s.t.length] 26) := ⟨_, rfl⟩
  rw [← hS4]
  have HK4 : Hid (Below W.heap.size W S4) := by show Below _ _ _; rw [hS4]; exact HW4.out.alloc HW4.out.size _
  have HZS4 : Hid (S4.heap.size = w4.heap.size + 1) := by show _ = _; rw [hS4]; simp
  have HST4 : Hid (StSc S4 w4.heap.size (some ⟨g4, 0, none⟩) s.t.length s) := by show StSc _ _ _ _ _; rw [hS4]; exact stsc_new
  have HRS4 : Hid (RowOf S4 g4 s.t) := by show RowOf _ _ _; rw [hS4]; exact HR4.out.kept' (Below.heap_alloc _ _ _ (RowOf.lt' HR4.out))
  clear hS4
  refine (pdone_as V (some ⟨g4, 0, none⟩) _ _ s S4 HRS4.out.ints rfl HM.out HV.out).mono ?_
  rintro e w5 ⟨rfl, hb5⟩
  have HW5 := Lib.hid (HK4.out.trans (hb5.mono HK4.out.size))
  have HK : Hid (∀ w', Below w5.heap.size w5 w' → w'.cell? ⟨w4.heap.size, 0, none⟩ = some (.int .i64 s.x) ∧ w'.cell? ⟨w4.heap.size, 1, none⟩ = some (.slice (some ⟨g4, 0, none⟩) s.t.length s.t.length) ∧ w'.cell? ⟨w.heap.size, 0, none⟩ = some (.int .i64 s.x) ∧ w'.cell? ⟨w.heap.size, 1, none⟩ = some (.slice a s.t.length cap)) := fun w' hb => by
    have k8 := stsc_keep (stsc_keep HST4.out (hb5.block _ (by have := HZS4.out; omega))) (hb.block _ (by have := HZS4.out; have := hb5.size; omega))
    have k2 := HBX.out w' (HW5.out.trans (hb.mono HW5.out.size))
    exact ⟨k8.1, k8.2, k2.1, k2.2⟩
  have HRS5 : Hid (RowOf w5 g4 s.t) := HRS4.out.kept' (hb5.block _ (RowOf.lt' HRS4.out))
  have HI5 : Hid (∀ w', Below w5.heap.size w5 w' → IntsAt w' a s.t) := fun w' hb => HI.out.keepB (HB.out.trans ((HW5.out.trans (hb.mono HW5.out.size)).mono HB.out.size)) (Nat.le_refl _)
  have HBD : Hid (Below w5.heap.size w5 w5.drew) := (Below.refl _ _).drew
  have HBW5 : Hid (Below w.heap.size w w5) := HB.out.trans (HW5.out.mono HB.out.size)
  clear hb5
  obtain ⟨d0, d1, d2, d3⟩ := HK.out w5 (Below.refl _ _)
  go_wp2_with fail
  go_region_held3 (fun w' => w'.cell? ⟨w4.heap.size, 0, none⟩ = some (.int .i64 s.x) ∧ w'.cell? ⟨w4.heap.size, 1, none⟩ = some (.slice (some ⟨g4, 0, none⟩) s.t.length s.t.length) ∧ w'.cell? ⟨w.heap.size, 0, none⟩ = some (.int .i64 s.x) ∧ w'.cell? ⟨w.heap.size, 1, none⟩ = some (.slice a s.t.length cap)) (first | (with_reducible exact HK.out _ (HBD.out)) | (with_reducible exact HK.out _ (HB7.out)) | (with_reducible exact HK.out _ (HB8.out))) (first
    | (go_at_call 36; refine (toSc_any a cap s _ (HI5.out _ HBD.out) HLT.out).mono ?_; rintro e w7 ⟨g7, rfl, hr7, hg7, hb7⟩; have HB7 := Lib.hid (HBD.out.trans (hb7.mono HBD.out.size)); have HR7 := Lib.hid hr7; clear hr7 hg7 hb7)
    | (go_at_call 37; refine (eqSc_same (some ⟨g4, 0, none⟩) (some ⟨g7, 0, none⟩) _ _ s w7 (HRS5.out.ints.keepB HB7.out (Nat.le_refl _)) HR7.out.ints HLT.out).mono ?_; rintro e w8 ⟨rfl, hb8⟩; have HB8 := Lib.hid (HB7.out.trans (hb8.mono HB7.out.size)); clear hb8))
  clear d0 d1 d2 d3
  go_wp2
  go_ret
  exact ⟨rfl, HBW5.out.trans (HB8.out.mono HBW5.out.size)⟩
end Go.Proofs.Ytenhaccdiamagaa
