/- The walks of the exact laws of resumed and acknowledged transfers. -/
import Derived.Test.YtmjloobakahdgaaTfE3
import Derived.Test.YtmjloobakahdgaaTfP2
namespace Go.Proofs.Ytmjloobakahdgaa
open Go.RowKit
set_option linter.unusedVariables false

attribute [local go_sem ↓] Go.wp_at_zero Go.wp_at_succ

/-- the three cells of a struct -/
def St3 (w : World) (b : Nat) (x y z : Value) : Prop := w.cell? ⟨b, 0, none⟩ = some x ∧ w.cell? ⟨b, 1, none⟩ = some y ∧ w.cell? ⟨b, 2, none⟩ = some z
def StTf (w : World) (b : Nat) (a : Option Addr) (cap : Nat) (t : Tf) : Prop := St3 w b (.slice a t.items.length cap) (.int .i64 t.nxt) (.int .i64 t.ack)
theorem st_new {w : World} {a : Option Addr} {cap : Nat} {t : Tf} {ty : TypeId} : StTf (w.alloc (.cells #[.slice a t.items.length cap, .int .i64 t.nxt, .int .i64 t.ack] ty)) w.heap.size a cap t := cells3 (heap_alloc_new w _)
theorem st_keep {w w' : World} {b : Nat} {a : Option Addr} {cap : Nat} {t : Tf} (h : StTf w b a cap t) (hb : w'.heap[b]? = w.heap[b]?) : StTf w' b a cap t :=
  ⟨(World.cell?_of_block (a := ⟨b, 0, none⟩) hb).trans h.1, (World.cell?_of_block (a := ⟨b, 1, none⟩) hb).trans h.2.1, (World.cell?_of_block (a := ⟨b, 2, none⟩) hb).trans h.2.2⟩
theorem ack_len (t : Tf) (n : Int) : (ackT t n).items.length ≤ 20 := by
  unfold ackT
  by_cases h : (tfB t && inB n 0 t.nxt) = true
  · rw [if_pos h]; exact tf_len (t := t) (Bool.and_eq_true _ _ ▸ h).1
  · rw [if_neg h]; exact Nat.zero_le _
theorem res_len (t : Tf) : (resT t).items.length ≤ 20 := by
  unfold resT
  by_cases h : tfB t = true
  · rw [if_pos h]; exact tf_len (t := t) h
  · rw [if_neg h]; exact Nat.zero_le _
theorem new_len (zs : List Int) : (newT zs).items.length ≤ 20 := by
  unfold newT
  by_cases h : itemsB zs = true
  · rw [if_pos h]; exact items_len h
  · rw [if_neg h]; exact Nat.zero_le _

set_option maxHeartbeats 4000000 in
theorem exTfAck (a : Option Addr) (cap : Nat) (t : Tf) (n : Int) (w : World) (h : IntsAt w a t.items) (hm : t.items.length ≤ maxLen) :
    Calls Try.prog 5 #[.agg #[.slice a t.items.length cap, .int .i64 t.nxt, .int .i64 t.ack], .int .i64 n] w fun e w' => e = .returned (.bool true) ∧ Below w.heap.size w w' := by
  have HI := Lib.hid h
  have HM := Lib.hid hm
  clear h hm
  obtain ⟨W, hW⟩ : ∃ W, W = w.alloc (.cells #[.slice a t.items.length cap, .int .i64 t.nxt, .int .i64 t.ack] 33) := ⟨_, rfl⟩
  have hB : Below w.heap.size w W := by rw [hW]; exact (Below.refl _ _).alloc (Nat.le_refl _) _
  have hs : W.heap.size = w.heap.size + 1 := by rw [hW]; simp
  have hst : StTf W w.heap.size a cap t := by rw [hW]; exact st_new
  have HBX : Hid (∀ w', Below W.heap.size W w' → StTf w' w.heap.size a cap t) := fun w' hb => st_keep hst (hb.block _ (by omega))
  have HB := Lib.hid hB
  have HW := Lib.hid hW
  have HS := Lib.hid hs
  obtain ⟨c0, c1, c2⟩ := hst
  clear hW hB hs
  by_cases hl : 1048576 < t.items.length
  · have He : Hid (leftT 1048576 t.items.length = -1) := by show leftT _ _ = -1; simp [leftT]; omega
    go_enter Try.func5, Try.ntmps5
    go_wp2_with fail
    rw [← HW.out]
    go_wp2_with fail
    refine (szTf_any a cap t 1048576 W (by omega) (by omega) HM.out).mono ?_
    rintro e w1 ⟨rfl, hb1⟩
    rw [He.out]
    have HB1 := Lib.hid (HB.out.trans (hb1.mono HB.out.size))
    clear hb1
    go_wp2
    go_ret
    exact ⟨rfl, HB1.out⟩
  have He : Hid (leftT 1048576 t.items.length = 1048576 - t.items.length) := by show leftT _ _ = _; simp [leftT]; omega
  have hn : (0 : Int) ≤ 1048576 - t.items.length := by omega
  have hn2 : ¬ (1048576 : Int) - t.items.length < 0 := by omega
  have hlt : t.items.length ≤ 1048576 := by omega
  have HLT := Lib.hid hlt
  clear hl hlt
  have hmx : t.items.length ≤ maxLen := HM.out
  have HMX := Lib.hid hmx
  clear hmx
  obtain ⟨R, hR⟩ : ∃ R, R = ackT t n := ⟨_, rfl⟩
  have hRl : R.items.length ≤ 20 := by rw [hR]; exact ack_len t n
  obtain ⟨V, hV⟩ : ∃ V, V = ackB t n := ⟨_, rfl⟩
  have hVV : (V != V) = false := by cases V <;> rfl
  have HSP : Hid (∀ (x : Option Addr) (cx : Nat) (w : World), IntsAt w x t.items → Calls Try.prog 27 #[.agg #[.slice x t.items.length cx, .int .i64 t.nxt, .int .i64 t.ack], .int .i64 n] w (NewTfB R V w)) := fun x cx w h => by rw [hR, hV]; exact sack_any x cx t n w h HMX.out
  have HIM : Hid (∀ (x : Option Addr) (cx : Nat) (w : World), IntsAt w x t.items → Calls Try.prog 28 #[.agg #[.slice x t.items.length cx, .int .i64 t.nxt, .int .i64 t.ack], .int .i64 n] w (NewTfB R V w)) := fun x cx w h => by rw [hR, hV]; exact pack_any x cx t n w h HMX.out
  clear hR hV
  go_enter Try.func5, Try.ntmps5
  go_wp2_with fail
  rw [← HW.out]
  go_wp2_with fail
  refine (szTf_any a cap t 1048576 W (by omega) (by omega) HMX.out).mono ?_
  rintro e w1 ⟨rfl, hb1⟩
  rw [He.out]
  obtain ⟨c0, c1, c2⟩ := HBX.out w1 hb1
  have HB1 := Lib.hid (HB.out.trans (hb1.mono HB.out.size))
  have HW1 := Lib.hid hb1
  clear hb1
  go_wp2_with fail
  refine (toTf_any a cap t w1 (HI.out.keepB HB1.out (Nat.le_refl _)) HLT.out).mono ?_
  rintro e w2 ⟨g2, rfl, hr2, hg2, hb2⟩
  have HR2 := Lib.hid hr2.ints
  have HW2 := Lib.hid (HW1.out.trans (hb2.mono HW1.out.size))
  clear hr2 hg2 hb2
  go_wp2_with fail
  refine (HSP.out _ _ w2 HR2.out).mono ?_
  rintro e w3 ⟨aw, cw, rfl, how, hb3⟩
  have HOW := Lib.hid how
  have HW3 := Lib.hid (HW2.out.trans (hb3.mono HW2.out.size))
  have HZ3 := Lib.hid hb3.size
  clear how hb3 c0 c1 c2
  have r0 : ∀ o, (w3.alloc o).cell? ⟨w.heap.size, 0, none⟩ = some (.slice a t.items.length cap) := fun o => (HBX.out _ (HW3.out.alloc HW3.out.size o)).1
  have r1 : ∀ o, (w3.alloc o).cell? ⟨w.heap.size, 1, none⟩ = some (.int .i64 t.nxt) := fun o => (HBX.out _ (HW3.out.alloc HW3.out.size o)).2.1
  have r2 : ∀ o, (w3.alloc o).cell? ⟨w.heap.size, 2, none⟩ = some (.int .i64 t.ack) := fun o => (HBX.out _ (HW3.out.alloc HW3.out.size o)).2.2
  go_wp2_with fail
  obtain ⟨S3, hS3⟩ : ∃ S3, S3 = w3.alloc (.cells #[.slice aw R.items.length cw, .int .i64 R.nxt, .int .i64 R.ack] 24) := ⟨_, rfl⟩
  rw [← hS3]
  have HK3 : Hid (Below W.heap.size W S3) := by show Below _ _ _; rw [hS3]; exact HW3.out.alloc HW3.out.size _
  have HZS3 : Hid (S3.heap.size = w3.heap.size + 1) := by show _ = _; rw [hS3]; simp
  have HST3 : Hid (StTf S3 w3.heap.size aw cw R) := by show StTf _ _ _ _ _; rw [hS3]; exact st_new
  have HOS3 : Hid (OwnI S3 w2.heap.size aw cw R.items) := by show OwnI _ _ _ _ _; rw [hS3]; exact HOW.out.keepB ((Below.refl _ _).alloc (Nat.le_refl _) _) (Nat.le_refl _)
  have HLW := Lib.hid (own_lt2 HOW.out)
  clear hS3 r0 r1 r2
  refine (toTf_any a cap t S3 (HI.out.keepB (HB.out.trans (HK3.out.mono HB.out.size)) (Nat.le_refl _)) HLT.out).mono ?_
  rintro e w4 ⟨g4, rfl, hr4, hg4, hb4⟩
  have HR4 := Lib.hid hr4
  have HG4 := Lib.hid hg4
  have HW4 := Lib.hid hb4
  clear hr4 hg4 hb4
  go_wp2_with fail
  obtain ⟨S4, hS4⟩ : ∃ S4, S4 = w4.alloc (.cells #[.slice (some ⟨g4, 0, none⟩) t.items.length t.items.length, .int .i64 t.nxt, .int .i64 t.ack] 24) := ⟨_, rfl⟩
  rw [← hS4]
  have HK4 : Hid (Below S3.heap.size S3 S4) := by show Below _ _ _; rw [hS4]; exact HW4.out.alloc HW4.out.size _
  have HZS4 : Hid (S4.heap.size = w4.heap.size + 1) := by show _ = _; rw [hS4]; simp
  have HST4 : Hid (StTf S4 w4.heap.size (some ⟨g4, 0, none⟩) t.items.length t) := by show StTf _ _ _ _ _; rw [hS4]; exact st_new
  have HG4L := Lib.hid (RowOf.lt' HR4.out)
  have HRS4 : Hid (RowOf S4 g4 t.items) := by show RowOf _ _ _; rw [hS4]; exact HR4.out.kept' (Below.heap_alloc _ _ _ HG4L.out)
  clear hS4
  refine (HIM.out _ _ S4 HRS4.out.ints).mono ?_
  rintro e w5 ⟨ag, cg, rfl, hog, hb5⟩
  have HOG := Lib.hid hog
  have HW5 := Lib.hid hb5
  have q6 := HST3.out
  clear hog hb5
  have HA5 : Hid (∀ o, Below S4.heap.size S4 (w5.alloc o)) := fun o => HW5.out.alloc HW5.out.size o
  have HB6 : Hid (∀ w', Below S4.heap.size S4 w' → StTf w' w3.heap.size aw cw R) := fun w' hb => st_keep (st_keep HST3.out (HK4.out.block _ (by have := HZS3.out; omega))) (hb.block _ (by have := HZS3.out; have := HK4.out.size; omega))
  have r0 : ∀ o, (w5.alloc o).cell? ⟨w3.heap.size, 0, none⟩ = some (.slice aw R.items.length cw) := fun o => (HB6.out _ (HA5.out o)).1
  have r1 : ∀ o, (w5.alloc o).cell? ⟨w3.heap.size, 1, none⟩ = some (.int .i64 R.nxt) := fun o => (HB6.out _ (HA5.out o)).2.1
  have r2 : ∀ o, (w5.alloc o).cell? ⟨w3.heap.size, 2, none⟩ = some (.int .i64 R.ack) := fun o => (HB6.out _ (HA5.out o)).2.2
  clear q6
  go_wp2_with fail
  obtain ⟨S5, hS5⟩ : ∃ S5, S5 = w5.alloc (.cells #[.slice ag R.items.length cg, .int .i64 R.nxt, .int .i64 R.ack] 24) := ⟨_, rfl⟩
  rw [← hS5]
  have HK5 : Hid (Below S4.heap.size S4 S5) := by show Below _ _ _; rw [hS5]; exact HA5.out _
  have HZS5 : Hid (S5.heap.size = w5.heap.size + 1) := by show _ = _; rw [hS5]; simp
  have HST5 : Hid (StTf S5 w5.heap.size ag cg R) := by show StTf _ _ _ _ _; rw [hS5]; exact st_new
  have HLG := Lib.hid (own_lt2 HOG.out)
  have HOGS : Hid (OwnI S5 S4.heap.size ag cg R.items) := by show OwnI _ _ _ _ _; rw [hS5]; exact HOG.out.keepB ((Below.refl _ _).alloc (Nat.le_refl _) _) (Nat.le_refl _)
  have HSZ : Hid (w.heap.size < S3.heap.size ∧ w3.heap.size < S3.heap.size ∧ S3.heap.size ≤ g4 ∧ g4 < w4.heap.size ∧ w4.heap.size < S4.heap.size ∧ S4.heap.size ≤ w5.heap.size ∧ w5.heap.size < S5.heap.size) := by
    have h1 := HS.out; have h2 := HK3.out.size; have h3 := HZS3.out; have h4 := HG4.out; have h5 := HG4L.out; have h6 := HZS4.out; have h7 := HZS5.out; have h8 := HW5.out.size
    exact ⟨by omega, by omega, h4, h5, by omega, h8, by omega⟩
  have HWS : Hid (OwnI S5 w2.heap.size aw cw R.items) := (HOS3.out.keepB HK4.out (Nat.le_refl _)).keepB HK5.out (Nat.le_refl _)
  have HBW5 : Hid (Below w.heap.size w S5) := HB.out.trans ((HK3.out.trans ((HK4.out.trans (HK5.out.mono HK4.out.size)).mono HK3.out.size)).mono HB.out.size)
  have HF5 : Hid (∀ w', Below S5.heap.size S5 w' → StTf w' w.heap.size a cap t ∧ StTf w' w3.heap.size aw cw R ∧ StTf w' w4.heap.size (some ⟨g4, 0, none⟩) t.items.length t ∧ StTf w' w5.heap.size ag cg R) := fun w' hb => by
    have z := HSZ.out
    have k5 := HK5.out.size
    have hb5 : Below S4.heap.size S4 w' := HK5.out.trans (hb.mono k5)
    refine ⟨HBX.out w' (HK3.out.trans ((HK4.out.trans (hb5.mono HK4.out.size)).mono HK3.out.size)), HB6.out w' hb5, st_keep HST4.out (hb5.block _ (by omega)), st_keep HST5.out (hb.block _ (by omega))⟩
  have HRS5 : Hid (RowOf S5 g4 t.items) := HRS4.out.kept' (HK5.out.block _ (by have := HSZ.out; omega))
  clear hS5 r0 r1 r2
  refine (eqTf_same ag aw cg cw R S5 (own_ints HOGS.out) (own_ints HWS.out) (by omega)).mono ?_
  rintro e w6 ⟨rfl, hb6⟩
  have HW6 := Lib.hid hb6
  have HK : Hid (∀ w', Below S5.heap.size S5 w' → w'.cell? ⟨w4.heap.size, 0, none⟩ = some (.slice (some ⟨g4, 0, none⟩) t.items.length t.items.length) ∧ w'.cell? ⟨w4.heap.size, 1, none⟩ = some (.int .i64 t.nxt) ∧ w'.cell? ⟨w4.heap.size, 2, none⟩ = some (.int .i64 t.ack) ∧ w'.cell? ⟨w.heap.size, 0, none⟩ = some (.slice a t.items.length cap) ∧ w'.cell? ⟨w.heap.size, 1, none⟩ = some (.int .i64 t.nxt) ∧ w'.cell? ⟨w.heap.size, 2, none⟩ = some (.int .i64 t.ack)) := fun w' hb => by
    obtain ⟨k2, k6, k8, k9⟩ := HF5.out w' hb
    exact ⟨k8.1, k8.2.1, k8.2.2, k2.1, k2.2.1, k2.2.2⟩
  have HBD : Hid (Below S5.heap.size S5 w6.drew) := HW6.out.drew
  obtain ⟨d0, d1, d2, d3, d4, d5⟩ := HK.out w6 hb6
  clear hb6
  go_wp2_with fail
  go_region_held3 (fun w' => w'.cell? ⟨w4.heap.size, 0, none⟩ = some (.slice (some ⟨g4, 0, none⟩) t.items.length t.items.length) ∧ w'.cell? ⟨w4.heap.size, 1, none⟩ = some (.int .i64 t.nxt) ∧ w'.cell? ⟨w4.heap.size, 2, none⟩ = some (.int .i64 t.ack) ∧ w'.cell? ⟨w.heap.size, 0, none⟩ = some (.slice a t.items.length cap) ∧ w'.cell? ⟨w.heap.size, 1, none⟩ = some (.int .i64 t.nxt) ∧ w'.cell? ⟨w.heap.size, 2, none⟩ = some (.int .i64 t.ack)) (first | (with_reducible exact HK.out _ (HBD.out)) | (with_reducible exact HK.out _ (HB7.out)) | (with_reducible exact HK.out _ (HB8.out))) (first | (go_at_call 25; refine (toTf_any a cap t _ (HI.out.keepB (HBW5.out.trans (HBD.out.mono HBW5.out.size)) (Nat.le_refl _)) HLT.out).mono ?_; rintro e w7 ⟨g7, rfl, hr7, hg7, hb7⟩; have HB7 := Lib.hid (HBD.out.trans (hb7.mono HBD.out.size)); have HR7 := Lib.hid hr7; clear hr7 hg7 hb7) | (go_at_call 18; refine (eqTf_same (some ⟨g4, 0, none⟩) (some ⟨g7, 0, none⟩) _ _ t w7 (HRS5.out.ints.keepB HB7.out (Nat.le_refl _)) HR7.out.ints HLT.out).mono ?_; rintro e w8 ⟨rfl, hb8⟩; have HB8 := Lib.hid (HB7.out.trans (hb8.mono HB7.out.size)); clear hb8))
  clear d0 d1 d2 d3 d4 d5
  obtain ⟨d0, d1, d2, d3, d4, d5⟩ := HK.out w8 HB8.out
  have k1 : decide ((1 : Int) + (t.items.length : Int) < 0) = false := by simp; omega
  go_wp2_with fail
  refine (marksTf_any (some ⟨g4, 0, none⟩) t.items.length t 1 w8 (owned_keep (owned_rowOf HRS5.out) (fun x hx => by cases hx; exact HB8.out.block _ (by have := HSZ.out; show g4 < _; omega))) (by omega) (by omega) HLT.out).mono ?_
  rintro e w9 ⟨rfl, hi9, hk9⟩
  have HW9 : Hid (Below w.heap.size w w9) := (HBW5.out.trans (HB8.out.mono HBW5.out.size)).trans (hk9.below (by have := HB8.out.size; have := HSZ.out; omega) (fun x hx => by cases hx; have := HSZ.out; show w.heap.size ≤ g4; omega))
  have HM9 : Hid (∀ i, i < S5.heap.size → i ≠ g4 → w9.heap[i]? = S5.heap[i]?) := fun i hi hne => (hk9.block i (by have := HB8.out.size; omega) (fun x hx => by cases hx; exact hne)).trans (HB8.out.block i hi)
  have HZ9 : Hid (S5.heap.size ≤ w9.heap.size) := Nat.le_trans HB8.out.size hk9.size
  have HF9 : Hid (∀ w', Below w9.heap.size w9 w' → StTf w' w.heap.size a cap t ∧ StTf w' w3.heap.size aw cw R ∧ StTf w' w5.heap.size ag cg R) := fun w' hb => by
    obtain ⟨k2, k6, k8, k9⟩ := HF5.out S5 (Below.refl _ _)
    have z := HSZ.out; have z9 := HZ9.out
    exact ⟨st_keep k2 ((hb.block _ (by omega)).trans (HM9.out _ (by omega) (by omega))), st_keep k6 ((hb.block _ (by omega)).trans (HM9.out _ (by omega) (by omega))), st_keep k9 ((hb.block _ (by omega)).trans (HM9.out _ (by omega) (by omega)))⟩
  have HG9 : Hid (OwnI w9 S4.heap.size ag cg R.items) := HOGS.out.kept fun g h1 h2 => HM9.out g h2 (by have := HSZ.out; omega)
  have HWI9 : Hid (IntsAt w9 aw R.items) := ints_block (own_ints HWS.out) HZ9.out (fun x hx => by have h1 := (HLW.out x hx).2; have := HSZ.out; exact HM9.out _ (by omega) (by omega))
  obtain ⟨e2, e6, e9⟩ := HF9.out w9 (Below.refl _ _)
  obtain ⟨x0, x1, x2⟩ := e6
  obtain ⟨y0, y1, y2⟩ := e9
  clear hi9 hk9 d0 d1 d2 d3 d4 d5 e2
  go_wp2_with fail
  refine (eqTf_same ag aw cg cw R w9 (own_ints HG9.out) HWI9.out (by omega)).mono ?_
  rintro e w10 ⟨rfl, hb10⟩
  have HW10 := Lib.hid hb10
  clear x0 x1 x2 y0 y1 y2 k1
  obtain ⟨e2, e6, e9⟩ := HF9.out w10 hb10
  obtain ⟨y0, y1, y2⟩ := e9
  clear hb10 e2 e6
  go_wp2_with fail
  have HZ5 : Hid (w5.heap.size < w9.heap.size) := by have := HZ9.out; have := HSZ.out; show _ < _; omega
  have HG10 : Hid (OwnI w10 S4.heap.size ag cg R.items) := HG9.out.keepB HW10.out (Nat.le_refl _)
  refine (marksTf_any ag cg R 1 w10 (owned_own HG10.out) (by omega) (by omega) (by omega)).mono ?_
  rintro e w11 ⟨rfl, hi11, hk11⟩
  have HW11 : Hid (Below w.heap.size w w11) := (HW9.out.trans (HW10.out.mono HW9.out.size)).trans (hk11.below (by have := HW10.out.size; have := HW9.out.size; omega) (fun x hx => by have := (HLG.out x hx).1; have := HSZ.out; omega))
  have HF11 : Hid (∀ w', Below w11.heap.size w11 w' → StTf w' w.heap.size a cap t ∧ StTf w' w3.heap.size aw cw R ∧ StTf w' w5.heap.size ag cg R) := fun w' hb => by
    obtain ⟨k2, k6, k9⟩ := HF9.out w10 HW10.out
    have z := HSZ.out; have z9 := HZ9.out; have z10 := HW10.out.size; have z11 := hk11.size
    have hne : ∀ i, i < S4.heap.size ∨ i = w5.heap.size → w'.heap[i]? = w10.heap[i]? := fun i hi => (hb.block i (by omega)).trans (hk11.block i (by omega) (fun x hx => by have := HLG.out x hx; omega))
    exact ⟨st_keep k2 (hne _ (by omega)), st_keep k6 (hne _ (by omega)), st_keep k9 (hne _ (by omega))⟩
  have HWI11 : Hid (IntsAt w11 aw R.items) := ints_block (HWI9.out.keepB HW10.out (Nat.le_refl _)) hk11.size (fun x hx => by
    have h1 := (HLW.out x hx).2; have z := HSZ.out; have z9 := HZ9.out; have z10 := HW10.out.size
    exact hk11.block _ (by omega) (fun y hy => by have := (HLG.out y hy).1; omega))
  have HI11 := Lib.hid hi11
  obtain ⟨e2, e6, e9⟩ := HF11.out w11 (Below.refl _ _)
  clear hi11 hk11 y0 y1 y2 e2 e6
  obtain ⟨y0, y1, y2⟩ := e9
  go_wp2_with fail
  refine (heldTf_any ag cg R 1 w11 HI11.out (by omega) (by omega) (by omega)).mono ?_
  rintro e w12 ⟨rfl, hb12⟩
  have HW12 := Lib.hid hb12
  have q0 : decide ((1 : Int) + (R.items.length : Int) < 0) = false := by simp; omega
  have q1 : (((1 : Int) + (R.items.length : Int)) != ((1 : Int) + (R.items.length : Int))) = false := by simp
  obtain ⟨e2, e6, e9⟩ := HF11.out w12 hb12
  clear hb12 y0 y1 y2 e6 e9
  obtain ⟨x0, x1, x2⟩ := e2
  go_wp2_with fail
  refine (toTf_any a cap t w12 (HI.out.keepB (HW11.out.trans (HW12.out.mono HW11.out.size)) (Nat.le_refl _)) HLT.out).mono ?_
  rintro e w13 ⟨g13, rfl, hr13, hg13, hb13⟩
  have HR13 := Lib.hid hr13.ints
  have HW13 := Lib.hid (HW12.out.trans (hb13.mono HW12.out.size))
  clear hr13 hg13 hb13 x0 x1 x2
  go_wp2_with fail
  refine (HIM.out _ _ w13 HR13.out).mono ?_
  rintro e w14 ⟨ah, ch, rfl, hoh, hb14⟩
  have HOH := Lib.hid hoh
  have HW14 := Lib.hid (HW13.out.trans (hb14.mono HW13.out.size))
  clear hoh hb14
  have HA14 : Hid (∀ o, Below w11.heap.size w11 (w14.alloc o)) := fun o => HW14.out.alloc HW14.out.size o
  have r0 : ∀ o, (w14.alloc o).cell? ⟨w3.heap.size, 0, none⟩ = some (.slice aw R.items.length cw) := fun o => (HF11.out _ (HA14.out o)).2.1.1
  have r1 : ∀ o, (w14.alloc o).cell? ⟨w3.heap.size, 1, none⟩ = some (.int .i64 R.nxt) := fun o => (HF11.out _ (HA14.out o)).2.1.2.1
  have r2 : ∀ o, (w14.alloc o).cell? ⟨w3.heap.size, 2, none⟩ = some (.int .i64 R.ack) := fun o => (HF11.out _ (HA14.out o)).2.1.2.2
  go_wp2_with fail
  obtain ⟨S14, hS14⟩ : ∃ S14, S14 = w14.alloc (.cells #[.slice ah R.items.length ch, .int .i64 R.nxt, .int .i64 R.ack] 24) := ⟨_, rfl⟩
  rw [← hS14]
  have HK14 : Hid (Below w11.heap.size w11 S14) := by show Below _ _ _; rw [hS14]; exact HA14.out _
  have HOS14 : Hid (IntsAt S14 ah R.items) := by show IntsAt _ _ _; rw [hS14]; exact (own_ints HOH.out).keepB ((Below.refl _ _).alloc (Nat.le_refl _) _) (Nat.le_refl _)
  clear hS14 r0 r1 r2
  refine (eqTf_same ah aw ch cw R S14 HOS14.out (HWI11.out.keepB HK14.out (Nat.le_refl _)) (by omega)).mono ?_
  rintro e w15 ⟨rfl, hb15⟩
  have HW15 := Lib.hid (HK14.out.trans (hb15.mono HK14.out.size))
  clear hb15
  obtain ⟨e2, e6, e9⟩ := HF11.out w15 HW15.out
  clear e2 e6
  obtain ⟨y0, y1, y2⟩ := e9
  go_wp2_with fail
  refine (heldTf_any ag cg R 1 w15 (HI11.out.keepB HW15.out (Nat.le_refl _)) (by omega) (by omega) (by omega)).mono ?_
  rintro e w16 ⟨rfl, hb16⟩
  have HW16 := Lib.hid (HW15.out.trans (hb16.mono HW15.out.size))
  clear hb16 y0 y1 y2
  go_wp2
  go_ret
  exact ⟨rfl, HW11.out.trans (HW16.out.mono HW11.out.size)⟩

set_option maxHeartbeats 4000000 in
theorem exTfResume (a : Option Addr) (cap : Nat) (t : Tf) (w : World) (h : IntsAt w a t.items) (hm : t.items.length ≤ maxLen) :
    Calls Try.prog 6 #[.agg #[.slice a t.items.length cap, .int .i64 t.nxt, .int .i64 t.ack]] w fun e w' => e = .returned (.bool true) ∧ Below w.heap.size w w' := by
  have HI := Lib.hid h
  have HM := Lib.hid hm
  clear h hm
  obtain ⟨W, hW⟩ : ∃ W, W = w.alloc (.cells #[.slice a t.items.length cap, .int .i64 t.nxt, .int .i64 t.ack] 33) := ⟨_, rfl⟩
  have hB : Below w.heap.size w W := by rw [hW]; exact (Below.refl _ _).alloc (Nat.le_refl _) _
  have hs : W.heap.size = w.heap.size + 1 := by rw [hW]; simp
  have hst : StTf W w.heap.size a cap t := by rw [hW]; exact st_new
  have HBX : Hid (∀ w', Below W.heap.size W w' → StTf w' w.heap.size a cap t) := fun w' hb => st_keep hst (hb.block _ (by omega))
  have HB := Lib.hid hB
  have HW := Lib.hid hW
  have HS := Lib.hid hs
  obtain ⟨c0, c1, c2⟩ := hst
  clear hW hB hs
  by_cases hl : 1048576 < t.items.length
  · have He : Hid (leftT 1048576 t.items.length = -1) := by show leftT _ _ = -1; simp [leftT]; omega
    go_enter Try.func6, Try.ntmps6
    go_wp2_with fail
    rw [← HW.out]
    go_wp2_with fail
    refine (szTf_any a cap t 1048576 W (by omega) (by omega) HM.out).mono ?_
    rintro e w1 ⟨rfl, hb1⟩
    rw [He.out]
    have HB1 := Lib.hid (HB.out.trans (hb1.mono HB.out.size))
    clear hb1
    go_wp2
    go_ret
    exact ⟨rfl, HB1.out⟩
  have He : Hid (leftT 1048576 t.items.length = 1048576 - t.items.length) := by show leftT _ _ = _; simp [leftT]; omega
  have hn : (0 : Int) ≤ 1048576 - t.items.length := by omega
  have hn2 : ¬ (1048576 : Int) - t.items.length < 0 := by omega
  have hlt : t.items.length ≤ 1048576 := by omega
  have HLT := Lib.hid hlt
  clear hl hlt
  have hmx : t.items.length ≤ maxLen := HM.out
  have HMX := Lib.hid hmx
  clear hmx
  obtain ⟨R, hR⟩ : ∃ R, R = resT t := ⟨_, rfl⟩
  have hRl : R.items.length ≤ 20 := by rw [hR]; exact res_len t
  have HSP : Hid (∀ (x : Option Addr) (cx : Nat) (w : World), IntsAt w x t.items → Calls Try.prog 29 #[.agg #[.slice x t.items.length cx, .int .i64 t.nxt, .int .i64 t.ack]] w (NewTf R w)) := fun x cx w h => by rw [hR]; exact sres_any x cx t w h HMX.out
  have HIM : Hid (∀ (x : Option Addr) (cx : Nat) (w : World), IntsAt w x t.items → Calls Try.prog 30 #[.agg #[.slice x t.items.length cx, .int .i64 t.nxt, .int .i64 t.ack]] w (NewTf R w)) := fun x cx w h => by rw [hR]; exact pres_any x cx t w h HMX.out
  clear hR
  go_enter Try.func6, Try.ntmps6
  go_wp2_with fail
  rw [← HW.out]
  go_wp2_with fail
  refine (szTf_any a cap t 1048576 W (by omega) (by omega) HMX.out).mono ?_
  rintro e w1 ⟨rfl, hb1⟩
  rw [He.out]
  obtain ⟨c0, c1, c2⟩ := HBX.out w1 hb1
  have HB1 := Lib.hid (HB.out.trans (hb1.mono HB.out.size))
  have HW1 := Lib.hid hb1
  clear hb1
  go_wp2_with fail
  refine (toTf_any a cap t w1 (HI.out.keepB HB1.out (Nat.le_refl _)) HLT.out).mono ?_
  rintro e w2 ⟨g2, rfl, hr2, hg2, hb2⟩
  have HR2 := Lib.hid hr2.ints
  have HW2 := Lib.hid (HW1.out.trans (hb2.mono HW1.out.size))
  clear hr2 hg2 hb2
  go_wp2_with fail
  refine (HSP.out _ _ w2 HR2.out).mono ?_
  rintro e w3 ⟨aw, cw, rfl, how, hb3⟩
  have HOW := Lib.hid how
  have HW3 := Lib.hid (HW2.out.trans (hb3.mono HW2.out.size))
  have HZ3 := Lib.hid hb3.size
  clear how hb3 c0 c1 c2
  have r0 : ∀ o, (w3.alloc o).cell? ⟨w.heap.size, 0, none⟩ = some (.slice a t.items.length cap) := fun o => (HBX.out _ (HW3.out.alloc HW3.out.size o)).1
  have r1 : ∀ o, (w3.alloc o).cell? ⟨w.heap.size, 1, none⟩ = some (.int .i64 t.nxt) := fun o => (HBX.out _ (HW3.out.alloc HW3.out.size o)).2.1
  have r2 : ∀ o, (w3.alloc o).cell? ⟨w.heap.size, 2, none⟩ = some (.int .i64 t.ack) := fun o => (HBX.out _ (HW3.out.alloc HW3.out.size o)).2.2
  go_wp2_with fail
  obtain ⟨S3, hS3⟩ : ∃ S3, S3 = w3.alloc (.cells #[.slice aw R.items.length cw, .int .i64 R.nxt, .int .i64 R.ack] 24) := ⟨_, rfl⟩
  rw [← hS3]
  have HK3 : Hid (Below W.heap.size W S3) := by show Below _ _ _; rw [hS3]; exact HW3.out.alloc HW3.out.size _
  have HZS3 : Hid (S3.heap.size = w3.heap.size + 1) := by show _ = _; rw [hS3]; simp
  have HST3 : Hid (StTf S3 w3.heap.size aw cw R) := by show StTf _ _ _ _ _; rw [hS3]; exact st_new
  have HOS3 : Hid (OwnI S3 w2.heap.size aw cw R.items) := by show OwnI _ _ _ _ _; rw [hS3]; exact HOW.out.keepB ((Below.refl _ _).alloc (Nat.le_refl _) _) (Nat.le_refl _)
  have HLW := Lib.hid (own_lt2 HOW.out)
  clear hS3 r0 r1 r2
  refine (toTf_any a cap t S3 (HI.out.keepB (HB.out.trans (HK3.out.mono HB.out.size)) (Nat.le_refl _)) HLT.out).mono ?_
  rintro e w4 ⟨g4, rfl, hr4, hg4, hb4⟩
  have HR4 := Lib.hid hr4
  have HG4 := Lib.hid hg4
  have HW4 := Lib.hid hb4
  clear hr4 hg4 hb4
  go_wp2_with fail
  obtain ⟨S4, hS4⟩ : ∃ S4, S4 = w4.alloc (.cells #[.slice (some ⟨g4, 0, none⟩) t.items.length t.items.length, .int .i64 t.nxt, .int .i64 t.ack] 24) := ⟨_, rfl⟩
  rw [← hS4]
  have HK4 : Hid (Below S3.heap.size S3 S4) := by show Below _ _ _; rw [hS4]; exact HW4.out.alloc HW4.out.size _
  have HZS4 : Hid (S4.heap.size = w4.heap.size + 1) := by show _ = _; rw [hS4]; simp
  have HST4 : Hid (StTf S4 w4.heap.size (some ⟨g4, 0, none⟩) t.items.length t) := by show StTf _ _ _ _ _; rw [hS4]; exact st_new
  have HG4L := Lib.hid (RowOf.lt' HR4.out)
  have HRS4 : Hid (RowOf S4 g4 t.items) := by show RowOf _ _ _; rw [hS4]; exact HR4.out.kept' (Below.heap_alloc _ _ _ HG4L.out)
  clear hS4
  refine (HIM.out _ _ S4 HRS4.out.ints).mono ?_
  rintro e w5 ⟨ag, cg, rfl, hog, hb5⟩
  have HOG := Lib.hid hog
  have HW5 := Lib.hid hb5
  have q6 := HST3.out
  clear hog hb5
  have HA5 : Hid (∀ o, Below S4.heap.size S4 (w5.alloc o)) := fun o => HW5.out.alloc HW5.out.size o
  have HB6 : Hid (∀ w', Below S4.heap.size S4 w' → StTf w' w3.heap.size aw cw R) := fun w' hb => st_keep (st_keep HST3.out (HK4.out.block _ (by have := HZS3.out; omega))) (hb.block _ (by have := HZS3.out; have := HK4.out.size; omega))
  have r0 : ∀ o, (w5.alloc o).cell? ⟨w3.heap.size, 0, none⟩ = some (.slice aw R.items.length cw) := fun o => (HB6.out _ (HA5.out o)).1
  have r1 : ∀ o, (w5.alloc o).cell? ⟨w3.heap.size, 1, none⟩ = some (.int .i64 R.nxt) := fun o => (HB6.out _ (HA5.out o)).2.1
  have r2 : ∀ o, (w5.alloc o).cell? ⟨w3.heap.size, 2, none⟩ = some (.int .i64 R.ack) := fun o => (HB6.out _ (HA5.out o)).2.2
  clear q6
  go_wp2_with fail
  obtain ⟨S5, hS5⟩ : ∃ S5, S5 = w5.alloc (.cells #[.slice ag R.items.length cg, .int .i64 R.nxt, .int .i64 R.ack] 24) := ⟨_, rfl⟩
  rw [← hS5]
  have HK5 : Hid (Below S4.heap.size S4 S5) := by show Below _ _ _; rw [hS5]; exact HA5.out _
  have HZS5 : Hid (S5.heap.size = w5.heap.size + 1) := by show _ = _; rw [hS5]; simp
  have HST5 : Hid (StTf S5 w5.heap.size ag cg R) := by show StTf _ _ _ _ _; rw [hS5]; exact st_new
  have HLG := Lib.hid (own_lt2 HOG.out)
  have HOGS : Hid (OwnI S5 S4.heap.size ag cg R.items) := by show OwnI _ _ _ _ _; rw [hS5]; exact HOG.out.keepB ((Below.refl _ _).alloc (Nat.le_refl _) _) (Nat.le_refl _)
  have HSZ : Hid (w.heap.size < S3.heap.size ∧ w3.heap.size < S3.heap.size ∧ S3.heap.size ≤ g4 ∧ g4 < w4.heap.size ∧ w4.heap.size < S4.heap.size ∧ S4.heap.size ≤ w5.heap.size ∧ w5.heap.size < S5.heap.size) := by
    have h1 := HS.out; have h2 := HK3.out.size; have h3 := HZS3.out; have h4 := HG4.out; have h5 := HG4L.out; have h6 := HZS4.out; have h7 := HZS5.out; have h8 := HW5.out.size
    exact ⟨by omega, by omega, h4, h5, by omega, h8, by omega⟩
  have HWS : Hid (OwnI S5 w2.heap.size aw cw R.items) := (HOS3.out.keepB HK4.out (Nat.le_refl _)).keepB HK5.out (Nat.le_refl _)
  have HBW5 : Hid (Below w.heap.size w S5) := HB.out.trans ((HK3.out.trans ((HK4.out.trans (HK5.out.mono HK4.out.size)).mono HK3.out.size)).mono HB.out.size)
  have HF5 : Hid (∀ w', Below S5.heap.size S5 w' → StTf w' w.heap.size a cap t ∧ StTf w' w3.heap.size aw cw R ∧ StTf w' w4.heap.size (some ⟨g4, 0, none⟩) t.items.length t ∧ StTf w' w5.heap.size ag cg R) := fun w' hb => by
    have z := HSZ.out
    have k5 := HK5.out.size
    have hb5 : Below S4.heap.size S4 w' := HK5.out.trans (hb.mono k5)
    refine ⟨HBX.out w' (HK3.out.trans ((HK4.out.trans (hb5.mono HK4.out.size)).mono HK3.out.size)), HB6.out w' hb5, st_keep HST4.out (hb5.block _ (by omega)), st_keep HST5.out (hb.block _ (by omega))⟩
  have HRS5 : Hid (RowOf S5 g4 t.items) := HRS4.out.kept' (HK5.out.block _ (by have := HSZ.out; omega))
  clear hS5 r0 r1 r2
  refine (eqTf_same ag aw cg cw R S5 (own_ints HOGS.out) (own_ints HWS.out) (by omega)).mono ?_
  rintro e w6 ⟨rfl, hb6⟩
  have HW6 := Lib.hid hb6
  have HK : Hid (∀ w', Below S5.heap.size S5 w' → w'.cell? ⟨w4.heap.size, 0, none⟩ = some (.slice (some ⟨g4, 0, none⟩) t.items.length t.items.length) ∧ w'.cell? ⟨w4.heap.size, 1, none⟩ = some (.int .i64 t.nxt) ∧ w'.cell? ⟨w4.heap.size, 2, none⟩ = some (.int .i64 t.ack) ∧ w'.cell? ⟨w.heap.size, 0, none⟩ = some (.slice a t.items.length cap) ∧ w'.cell? ⟨w.heap.size, 1, none⟩ = some (.int .i64 t.nxt) ∧ w'.cell? ⟨w.heap.size, 2, none⟩ = some (.int .i64 t.ack)) := fun w' hb => by
    obtain ⟨k2, k6, k8, k9⟩ := HF5.out w' hb
    exact ⟨k8.1, k8.2.1, k8.2.2, k2.1, k2.2.1, k2.2.2⟩
  have HBD : Hid (Below S5.heap.size S5 w6.drew) := HW6.out.drew
  obtain ⟨d0, d1, d2, d3, d4, d5⟩ := HK.out w6 hb6
  clear hb6
  go_wp2_with fail
  go_region_held3 (fun w' => w'.cell? ⟨w4.heap.size, 0, none⟩ = some (.slice (some ⟨g4, 0, none⟩) t.items.length t.items.length) ∧ w'.cell? ⟨w4.heap.size, 1, none⟩ = some (.int .i64 t.nxt) ∧ w'.cell? ⟨w4.heap.size, 2, none⟩ = some (.int .i64 t.ack) ∧ w'.cell? ⟨w.heap.size, 0, none⟩ = some (.slice a t.items.length cap) ∧ w'.cell? ⟨w.heap.size, 1, none⟩ = some (.int .i64 t.nxt) ∧ w'.cell? ⟨w.heap.size, 2, none⟩ = some (.int .i64 t.ack)) (first | (with_reducible exact HK.out _ (HBD.out)) | (with_reducible exact HK.out _ (HB7.out)) | (with_reducible exact HK.out _ (HB8.out))) (first | (go_at_call 25; refine (toTf_any a cap t _ (HI.out.keepB (HBW5.out.trans (HBD.out.mono HBW5.out.size)) (Nat.le_refl _)) HLT.out).mono ?_; rintro e w7 ⟨g7, rfl, hr7, hg7, hb7⟩; have HB7 := Lib.hid (HBD.out.trans (hb7.mono HBD.out.size)); have HR7 := Lib.hid hr7; clear hr7 hg7 hb7) | (go_at_call 18; refine (eqTf_same (some ⟨g4, 0, none⟩) (some ⟨g7, 0, none⟩) _ _ t w7 (HRS5.out.ints.keepB HB7.out (Nat.le_refl _)) HR7.out.ints HLT.out).mono ?_; rintro e w8 ⟨rfl, hb8⟩; have HB8 := Lib.hid (HB7.out.trans (hb8.mono HB7.out.size)); clear hb8))
  clear d0 d1 d2 d3 d4 d5
  obtain ⟨d0, d1, d2, d3, d4, d5⟩ := HK.out w8 HB8.out
  have k1 : decide ((1 : Int) + (t.items.length : Int) < 0) = false := by simp; omega
  go_wp2_with fail
  refine (marksTf_any (some ⟨g4, 0, none⟩) t.items.length t 1 w8 (owned_keep (owned_rowOf HRS5.out) (fun x hx => by cases hx; exact HB8.out.block _ (by have := HSZ.out; show g4 < _; omega))) (by omega) (by omega) HLT.out).mono ?_
  rintro e w9 ⟨rfl, hi9, hk9⟩
  have HW9 : Hid (Below w.heap.size w w9) := (HBW5.out.trans (HB8.out.mono HBW5.out.size)).trans (hk9.below (by have := HB8.out.size; have := HSZ.out; omega) (fun x hx => by cases hx; have := HSZ.out; show w.heap.size ≤ g4; omega))
  have HM9 : Hid (∀ i, i < S5.heap.size → i ≠ g4 → w9.heap[i]? = S5.heap[i]?) := fun i hi hne => (hk9.block i (by have := HB8.out.size; omega) (fun x hx => by cases hx; exact hne)).trans (HB8.out.block i hi)
  have HZ9 : Hid (S5.heap.size ≤ w9.heap.size) := Nat.le_trans HB8.out.size hk9.size
  have HF9 : Hid (∀ w', Below w9.heap.size w9 w' → StTf w' w.heap.size a cap t ∧ StTf w' w3.heap.size aw cw R ∧ StTf w' w5.heap.size ag cg R) := fun w' hb => by
    obtain ⟨k2, k6, k8, k9⟩ := HF5.out S5 (Below.refl _ _)
    have z := HSZ.out; have z9 := HZ9.out
    exact ⟨st_keep k2 ((hb.block _ (by omega)).trans (HM9.out _ (by omega) (by omega))), st_keep k6 ((hb.block _ (by omega)).trans (HM9.out _ (by omega) (by omega))), st_keep k9 ((hb.block _ (by omega)).trans (HM9.out _ (by omega) (by omega)))⟩
  have HG9 : Hid (OwnI w9 S4.heap.size ag cg R.items) := HOGS.out.kept fun g h1 h2 => HM9.out g h2 (by have := HSZ.out; omega)
  have HWI9 : Hid (IntsAt w9 aw R.items) := ints_block (own_ints HWS.out) HZ9.out (fun x hx => by have h1 := (HLW.out x hx).2; have := HSZ.out; exact HM9.out _ (by omega) (by omega))
  obtain ⟨e2, e6, e9⟩ := HF9.out w9 (Below.refl _ _)
  obtain ⟨x0, x1, x2⟩ := e6
  obtain ⟨y0, y1, y2⟩ := e9
  clear hi9 hk9 d0 d1 d2 d3 d4 d5 e2
  go_wp2_with fail
  refine (eqTf_same ag aw cg cw R w9 (own_ints HG9.out) HWI9.out (by omega)).mono ?_
  rintro e w10 ⟨rfl, hb10⟩
  have HW10 := Lib.hid hb10
  clear x0 x1 x2 y0 y1 y2 k1
  obtain ⟨e2, e6, e9⟩ := HF9.out w10 hb10
  obtain ⟨y0, y1, y2⟩ := e9
  clear hb10 e2 e6
  go_wp2_with fail
  have HZ5 : Hid (w5.heap.size < w9.heap.size) := by have := HZ9.out; have := HSZ.out; show _ < _; omega
  have HG10 : Hid (OwnI w10 S4.heap.size ag cg R.items) := HG9.out.keepB HW10.out (Nat.le_refl _)
  refine (marksTf_any ag cg R 1 w10 (owned_own HG10.out) (by omega) (by omega) (by omega)).mono ?_
  rintro e w11 ⟨rfl, hi11, hk11⟩
  have HW11 : Hid (Below w.heap.size w w11) := (HW9.out.trans (HW10.out.mono HW9.out.size)).trans (hk11.below (by have := HW10.out.size; have := HW9.out.size; omega) (fun x hx => by have := (HLG.out x hx).1; have := HSZ.out; omega))
  have HF11 : Hid (∀ w', Below w11.heap.size w11 w' → StTf w' w.heap.size a cap t ∧ StTf w' w3.heap.size aw cw R ∧ StTf w' w5.heap.size ag cg R) := fun w' hb => by
    obtain ⟨k2, k6, k9⟩ := HF9.out w10 HW10.out
    have z := HSZ.out; have z9 := HZ9.out; have z10 := HW10.out.size; have z11 := hk11.size
    have hne : ∀ i, i < S4.heap.size ∨ i = w5.heap.size → w'.heap[i]? = w10.heap[i]? := fun i hi => (hb.block i (by omega)).trans (hk11.block i (by omega) (fun x hx => by have := HLG.out x hx; omega))
    exact ⟨st_keep k2 (hne _ (by omega)), st_keep k6 (hne _ (by omega)), st_keep k9 (hne _ (by omega))⟩
  have HWI11 : Hid (IntsAt w11 aw R.items) := ints_block (HWI9.out.keepB HW10.out (Nat.le_refl _)) hk11.size (fun x hx => by
    have h1 := (HLW.out x hx).2; have z := HSZ.out; have z9 := HZ9.out; have z10 := HW10.out.size
    exact hk11.block _ (by omega) (fun y hy => by have := (HLG.out y hy).1; omega))
  have HI11 := Lib.hid hi11
  obtain ⟨e2, e6, e9⟩ := HF11.out w11 (Below.refl _ _)
  clear hi11 hk11 y0 y1 y2 e2 e6
  obtain ⟨y0, y1, y2⟩ := e9
  go_wp2_with fail
  refine (heldTf_any ag cg R 1 w11 HI11.out (by omega) (by omega) (by omega)).mono ?_
  rintro e w12 ⟨rfl, hb12⟩
  have HW12 := Lib.hid hb12
  have q0 : decide ((1 : Int) + (R.items.length : Int) < 0) = false := by simp; omega
  have q1 : (((1 : Int) + (R.items.length : Int)) != ((1 : Int) + (R.items.length : Int))) = false := by simp
  obtain ⟨e2, e6, e9⟩ := HF11.out w12 hb12
  clear hb12 y0 y1 y2 e6 e9
  obtain ⟨x0, x1, x2⟩ := e2
  go_wp2_with fail
  refine (toTf_any a cap t w12 (HI.out.keepB (HW11.out.trans (HW12.out.mono HW11.out.size)) (Nat.le_refl _)) HLT.out).mono ?_
  rintro e w13 ⟨g13, rfl, hr13, hg13, hb13⟩
  have HR13 := Lib.hid hr13.ints
  have HW13 := Lib.hid (HW12.out.trans (hb13.mono HW12.out.size))
  clear hr13 hg13 hb13 x0 x1 x2
  go_wp2_with fail
  refine (HIM.out _ _ w13 HR13.out).mono ?_
  rintro e w14 ⟨ah, ch, rfl, hoh, hb14⟩
  have HOH := Lib.hid hoh
  have HW14 := Lib.hid (HW13.out.trans (hb14.mono HW13.out.size))
  clear hoh hb14
  have HA14 : Hid (∀ o, Below w11.heap.size w11 (w14.alloc o)) := fun o => HW14.out.alloc HW14.out.size o
  have r0 : ∀ o, (w14.alloc o).cell? ⟨w3.heap.size, 0, none⟩ = some (.slice aw R.items.length cw) := fun o => (HF11.out _ (HA14.out o)).2.1.1
  have r1 : ∀ o, (w14.alloc o).cell? ⟨w3.heap.size, 1, none⟩ = some (.int .i64 R.nxt) := fun o => (HF11.out _ (HA14.out o)).2.1.2.1
  have r2 : ∀ o, (w14.alloc o).cell? ⟨w3.heap.size, 2, none⟩ = some (.int .i64 R.ack) := fun o => (HF11.out _ (HA14.out o)).2.1.2.2
  go_wp2_with fail
  obtain ⟨S14, hS14⟩ : ∃ S14, S14 = w14.alloc (.cells #[.slice ah R.items.length ch, .int .i64 R.nxt, .int .i64 R.ack] 24) := ⟨_, rfl⟩
  rw [← hS14]
  have HK14 : Hid (Below w11.heap.size w11 S14) := by show Below _ _ _; rw [hS14]; exact HA14.out _
  have HOS14 : Hid (IntsAt S14 ah R.items) := by show IntsAt _ _ _; rw [hS14]; exact (own_ints HOH.out).keepB ((Below.refl _ _).alloc (Nat.le_refl _) _) (Nat.le_refl _)
  clear hS14 r0 r1 r2
  refine (eqTf_same ah aw ch cw R S14 HOS14.out (HWI11.out.keepB HK14.out (Nat.le_refl _)) (by omega)).mono ?_
  rintro e w15 ⟨rfl, hb15⟩
  have HW15 := Lib.hid (HK14.out.trans (hb15.mono HK14.out.size))
  clear hb15
  obtain ⟨e2, e6, e9⟩ := HF11.out w15 HW15.out
  clear e2 e6
  obtain ⟨y0, y1, y2⟩ := e9
  go_wp2_with fail
  refine (heldTf_any ag cg R 1 w15 (HI11.out.keepB HW15.out (Nat.le_refl _)) (by omega) (by omega) (by omega)).mono ?_
  rintro e w16 ⟨rfl, hb16⟩
  have HW16 := Lib.hid (HW15.out.trans (hb16.mono HW15.out.size))
  clear hb16 y0 y1 y2
  go_wp2
  go_ret
  exact ⟨rfl, HW11.out.trans (HW16.out.mono HW11.out.size)⟩

end Go.Proofs.Ytmjloobakahdgaa
