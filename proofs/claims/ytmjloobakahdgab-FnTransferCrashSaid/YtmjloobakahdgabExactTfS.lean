/- The walk of the exact law of sending. -/
import Derived.Test.YtmjloobakahdgabExactTf
import Derived.Test.YtmjloobakahdgabTfSend2
namespace Go.Proofs.Ytmjloobakahdgab
open Go.RowKit
set_option linter.unusedVariables false

attribute [local go_sem ↓] Go.wp_at_zero Go.wp_at_succ

theorem sendT_len (t : Tf) (v : Int) : (sendT t v).items.length ≤ 20 := by
  cases h : askB t v
  · rw [(send_no1 h).1]; exact Nat.zero_le _
  · rw [send_with h]
    exact items_len ((tfB_iff t).1 (Bool.and_eq_true _ _ ▸ h : tfB t = true ∧ inB v 0 20 = true).1).1
theorem sendC_len (t : Tf) (v : Int) : (sendC t v).items.length ≤ 4 := by
  cases hs : sendB t v
  · rw [sendC, hs]; exact Nat.zero_le _
  · exact ((ckB_iff _).1 (sendC_ok hs)).2.1.2
def StCk (w : World) (b : Nat) (a : Option Addr) (cap : Nat) (c : Ck) : Prop := w.cell? ⟨b, 0, none⟩ = some (.int .i64 c.pos) ∧ w.cell? ⟨b, 1, none⟩ = some (.slice a c.items.length cap)
theorem ck_keep {w w' : World} {b : Nat} {a : Option Addr} {cap : Nat} {c : Ck} (h : StCk w b a cap c) (hb : w'.heap[b]? = w.heap[b]?) : StCk w' b a cap c :=
  ⟨(World.cell?_of_block (a := ⟨b, 0, none⟩) hb).trans h.1, (World.cell?_of_block (a := ⟨b, 1, none⟩) hb).trans h.2⟩
theorem two_st {w : World} {a b : Option Addr} {cap cb : Nat} {t : Tf} {c : Ck} {ty ty2 : TypeId} : StTf ((w.alloc (.cells #[.slice a t.items.length cap, .int .i64 t.nxt, .int .i64 t.ack] ty)).alloc (.cells #[.int .i64 c.pos, .slice b c.items.length cb] ty2)) w.heap.size a cap t ∧
    StCk ((w.alloc (.cells #[.slice a t.items.length cap, .int .i64 t.nxt, .int .i64 t.ack] ty)).alloc (.cells #[.int .i64 c.pos, .slice b c.items.length cb] ty2)) (w.heap.size + 1) b cb c :=
  ⟨cells3 (heap_first w _ _), cells2 (heap_second w _ _)⟩
theorem st2_new {w : World} {x y : Value} {ty : TypeId} : (w.alloc (.cells #[x, y] ty)).cell? ⟨w.heap.size, 0, none⟩ = some x ∧ (w.alloc (.cells #[x, y] ty)).cell? ⟨w.heap.size, 1, none⟩ = some y := cells2 (heap_alloc_new w _)

set_option maxHeartbeats 4000000 in
theorem exTfSend (a : Option Addr) (cap : Nat) (t : Tf) (v : Int) (w : World) (h : IntsAt w a t.items) (hm : t.items.length ≤ maxLen) :
    Calls Try.prog 3 #[.agg #[.slice a t.items.length cap, .int .i64 t.nxt, .int .i64 t.ack], .int .i64 v] w fun e w' => e = .returned (.bool true) ∧ Below w.heap.size w w' := by
  have HI := Lib.hid h
  have HM := Lib.hid hm
  clear h hm
  obtain ⟨W, hW⟩ : ∃ W, W = w.alloc (.cells #[.slice a t.items.length cap, .int .i64 t.nxt, .int .i64 t.ack] 24) := ⟨_, rfl⟩
  have hB : Below w.heap.size w W := by rw [hW]; exact (Below.refl _ _).alloc (Nat.le_refl _) _
  have hs : W.heap.size = w.heap.size + 1 := by rw [hW]; simp
  have hst : StTf W w.heap.size a cap t := by rw [hW]; exact st_new
  have HBX : Hid (∀ w', Below W.heap.size W w' → StTf w' w.heap.size a cap t) := fun w' hb => st_keep hst (hb.block _ (by omega))
  have HB := Lib.hid hB
  have HW := Lib.hid hW
  have HS := Lib.hid hs
  obtain ⟨c0, c1, c2⟩ := hst
  clear hW hB hs
  by_cases hl : 1048576 < t.items.length
  · have He : Hid (leftT 1048576 t.items.length = -1) := by show leftT _ _ = -1; simp [leftT]; omega
    go_enter Try.func3, Try.ntmps3
    go_wp2_with fail
    rw [← HW.out]
    go_wp2_with fail
    refine (szTf_any a cap t 1048576 W (by omega) (by omega) HM.out).mono ?_
    rintro e w1 ⟨rfl, hb1⟩
    rw [He.out]
    have HB1 := Lib.hid (HB.out.trans (hb1.mono HB.out.size))
    clear hb1
    go_wp2
    go_ret
    exact ⟨rfl, HB1.out⟩
  have He : Hid (leftT 1048576 t.items.length = 1048576 - t.items.length) := by show leftT _ _ = _; simp [leftT]; omega
  have hn : (0 : Int) ≤ 1048576 - t.items.length := by omega
  have hn2 : ¬ (1048576 : Int) - t.items.length < 0 := by omega
  have hlt : t.items.length ≤ 1048576 := by omega
  have HLT := Lib.hid hlt
  clear hl hlt
  have hmx : t.items.length ≤ maxLen := HM.out
  have HMX := Lib.hid hmx
  clear hmx
  obtain ⟨R, hR⟩ : ∃ R, R = sendT t v := ⟨_, rfl⟩
  have hRl : R.items.length ≤ 20 := by rw [hR]; exact sendT_len t v
  obtain ⟨C, hC⟩ : ∃ C, C = sendC t v := ⟨_, rfl⟩
  have hCl : C.items.length ≤ 4 := by rw [hC]; exact sendC_len t v
  obtain ⟨V, hV⟩ : ∃ V, V = sendB t v := ⟨_, rfl⟩
  have hVV : (V != V) = false := by cases V <;> rfl
  have HSP : Hid (∀ (x : Option Addr) (cx : Nat) (w : World), IntsAt w x t.items → t.items.length ≤ cx → Calls Try.prog 10 #[.agg #[.slice x t.items.length cx, .int .i64 t.nxt, .int .i64 t.ack], .int .i64 v] w (NewTfC R C V w)) := fun x cx w h hc => by rw [hR, hC, hV]; exact ssend_any x cx t v w h HMX.out hc
  have HIM : Hid (∀ (x : Option Addr) (cx : Nat) (w : World), IntsAt w x t.items → t.items.length ≤ cx → Calls Try.prog 12 #[.agg #[.slice x t.items.length cx, .int .i64 t.nxt, .int .i64 t.ack], .int .i64 v] w (NewTfC R C V w)) := fun x cx w h hc => by rw [hR, hC, hV]; exact psend_any x cx t v w h HMX.out hc
  clear hR hC hV
  go_enter Try.func3, Try.ntmps3
  go_wp2_with fail
  rw [← HW.out]
  go_wp2_with fail
  refine (szTf_any a cap t 1048576 W (by omega) (by omega) HMX.out).mono ?_
  rintro e w1 ⟨rfl, hb1⟩
  rw [He.out]
  obtain ⟨c0, c1, c2⟩ := HBX.out w1 hb1
  have HB1 := Lib.hid (HB.out.trans (hb1.mono HB.out.size))
  have HW1 := Lib.hid hb1
  clear hb1
  go_wp2_with fail
  refine (toTf_any a cap t w1 (HI.out.keepB HB1.out (Nat.le_refl _)) HLT.out).mono ?_
  rintro e w2 ⟨g2, rfl, hr2, hg2, hb2⟩
  have HR2 := Lib.hid hr2.ints
  have HW2 := Lib.hid (HW1.out.trans (hb2.mono HW1.out.size))
  clear hr2 hg2 hb2
  go_wp2_with fail
  refine (HSP.out _ _ w2 HR2.out (Nat.le_refl _)).mono ?_
  rintro e w3 ⟨aw, cw, bw, dw, rfl, how, hoc, _, hb3⟩
  have HOW := Lib.hid how
  have HOC := Lib.hid hoc
  have HW3 := Lib.hid (HW2.out.trans (hb3.mono HW2.out.size))
  have HZ3 := Lib.hid hb3.size
  clear how hoc hb3 c0 c1 c2
  have r0 : ∀ o p, ((w3.alloc o).alloc p).cell? ⟨w.heap.size, 0, none⟩ = some (.slice a t.items.length cap) := fun o p => (HBX.out _ ((HW3.out.alloc HW3.out.size o).alloc (HW3.out.alloc HW3.out.size o).size p)).1
  have r1 : ∀ o p, ((w3.alloc o).alloc p).cell? ⟨w.heap.size, 1, none⟩ = some (.int .i64 t.nxt) := fun o p => (HBX.out _ ((HW3.out.alloc HW3.out.size o).alloc (HW3.out.alloc HW3.out.size o).size p)).2.1
  have r2 : ∀ o p, ((w3.alloc o).alloc p).cell? ⟨w.heap.size, 2, none⟩ = some (.int .i64 t.ack) := fun o p => (HBX.out _ ((HW3.out.alloc HW3.out.size o).alloc (HW3.out.alloc HW3.out.size o).size p)).2.2
  go_wp2_with fail
  obtain ⟨S3, hS3⟩ : ∃ S3, S3 = (w3.alloc (.cells #[.slice aw R.items.length cw, .int .i64 R.nxt, .int .i64 R.ack] 26)).alloc (.cells #[.int .i64 C.pos, .slice bw C.items.length dw] 28) := ⟨_, rfl⟩
  rw [← hS3]
  have HA3 : Hid (Below w3.heap.size w3 S3) := by show Below _ _ _; rw [hS3]; exact ((Below.refl _ _).alloc (Nat.le_refl _) _).alloc (by simp) _
  have HK3 : Hid (Below W.heap.size W S3) := HW3.out.trans (HA3.out.mono HW3.out.size)
  have HZS3 : Hid (S3.heap.size = w3.heap.size + 2) := by show _ = _; rw [hS3]; simp
  have HST3 : Hid (StTf S3 w3.heap.size aw cw R ∧ StCk S3 (w3.heap.size + 1) bw dw C) := by show _ ∧ _; rw [hS3]; exact two_st
  have HOS3 : Hid (IntsAt S3 aw R.items) := (own_ints HOW.out).keepB HA3.out (Nat.le_refl _)
  have HOC3 : Hid (IntsAt S3 bw C.items) := (own_ints HOC.out).keepB HA3.out (Nat.le_refl _)
  have HLW := Lib.hid (own_lt2 HOW.out)
  have HLC := Lib.hid (own_lt2 HOC.out)
  clear hS3 r0 r1 r2
  refine (toTf_any a cap t S3 (HI.out.keepB (HB.out.trans (HK3.out.mono HB.out.size)) (Nat.le_refl _)) HLT.out).mono ?_
  rintro e w4 ⟨g4, rfl, hr4, hg4, hb4⟩
  have HR4 := Lib.hid hr4
  have HG4 := Lib.hid hg4
  have HW4 := Lib.hid hb4
  clear hr4 hg4 hb4
  go_wp2_with fail
  obtain ⟨S4, hS4⟩ : ∃ S4, S4 = w4.alloc (.cells #[.slice (some ⟨g4, 0, none⟩) t.items.length t.items.length, .int .i64 t.nxt, .int .i64 t.ack] 26) := ⟨_, rfl⟩
  rw [← hS4]
  have HK4 : Hid (Below S3.heap.size S3 S4) := by show Below _ _ _; rw [hS4]; exact HW4.out.alloc HW4.out.size _
  have HZS4 : Hid (S4.heap.size = w4.heap.size + 1) := by show _ = _; rw [hS4]; simp
  have HST4 : Hid (StTf S4 w4.heap.size (some ⟨g4, 0, none⟩) t.items.length t) := by show StTf _ _ _ _ _; rw [hS4]; exact st_new
  have HG4L := Lib.hid (RowOf.lt' HR4.out)
  have HRS4 : Hid (RowOf S4 g4 t.items) := by show RowOf _ _ _; rw [hS4]; exact HR4.out.kept' (Below.heap_alloc _ _ _ HG4L.out)
  clear hS4
  refine (HIM.out _ _ S4 HRS4.out.ints (Nat.le_refl _)).mono ?_
  rintro e w5 ⟨ag, cg, bg, dg, rfl, hog, hoh, hdis, hb5⟩
  have HOG := Lib.hid hog
  have HOH := Lib.hid hoh
  have HDIS := Lib.hid hdis
  have HW5 := Lib.hid hb5
  clear hog hoh hdis hb5
  have HA5 : Hid (∀ o p, Below S4.heap.size S4 ((w5.alloc o).alloc p)) := fun o p => (HW5.out.alloc HW5.out.size o).alloc (HW5.out.alloc HW5.out.size o).size p
  have HB6 : Hid (∀ w', Below S4.heap.size S4 w' → StTf w' w3.heap.size aw cw R ∧ StCk w' (w3.heap.size + 1) bw dw C) := fun w' hb => by
    have z3 := HZS3.out; have z4 := HK4.out.size
    exact ⟨st_keep (st_keep HST3.out.1 (HK4.out.block _ (by omega))) (hb.block _ (by omega)), ck_keep (ck_keep HST3.out.2 (HK4.out.block _ (by omega))) (hb.block _ (by omega))⟩
  have r0 : ∀ o p, ((w5.alloc o).alloc p).cell? ⟨w3.heap.size, 0, none⟩ = some (.slice aw R.items.length cw) := fun o p => (HB6.out _ (HA5.out o p)).1.1
  have r1 : ∀ o p, ((w5.alloc o).alloc p).cell? ⟨w3.heap.size, 1, none⟩ = some (.int .i64 R.nxt) := fun o p => (HB6.out _ (HA5.out o p)).1.2.1
  have r2 : ∀ o p, ((w5.alloc o).alloc p).cell? ⟨w3.heap.size, 2, none⟩ = some (.int .i64 R.ack) := fun o p => (HB6.out _ (HA5.out o p)).1.2.2
  go_wp2_with fail
  obtain ⟨S5, hS5⟩ : ∃ S5, S5 = (w5.alloc (.cells #[.slice ag R.items.length cg, .int .i64 R.nxt, .int .i64 R.ack] 26)).alloc (.cells #[.int .i64 C.pos, .slice bg C.items.length dg] 28) := ⟨_, rfl⟩
  rw [← hS5]
  have HA : Hid (Below w5.heap.size w5 S5) := by show Below _ _ _; rw [hS5]; exact ((Below.refl _ _).alloc (Nat.le_refl _) _).alloc (by simp) _
  have HK5 : Hid (Below S4.heap.size S4 S5) := by show Below _ _ _; rw [hS5]; exact HA5.out _ _
  have HZS5 : Hid (S5.heap.size = w5.heap.size + 2) := by show _ = _; rw [hS5]; simp
  have HST5 : Hid (StTf S5 w5.heap.size ag cg R ∧ StCk S5 (w5.heap.size + 1) bg dg C) := by show _ ∧ _; rw [hS5]; exact two_st
  have HLG := Lib.hid (own_lt2 HOG.out)
  have HLH := Lib.hid (own_lt2 HOH.out)
  have HOGS : Hid (OwnI S5 S4.heap.size ag cg R.items) := HOG.out.keepB HA.out (Nat.le_refl _)
  have HOHS : Hid (OwnI S5 S4.heap.size bg dg C.items) := HOH.out.keepB HA.out (Nat.le_refl _)
  have HSZ : Hid (w.heap.size < S3.heap.size ∧ w3.heap.size + 1 < S3.heap.size ∧ S3.heap.size ≤ g4 ∧ g4 < w4.heap.size ∧ w4.heap.size < S4.heap.size ∧ S4.heap.size ≤ w5.heap.size ∧ w5.heap.size + 2 = S5.heap.size) := by
    have h1 := HS.out; have h2 := HK3.out.size; have h3 := HZS3.out; have h4 := HG4.out; have h5 := HG4L.out; have h6 := HZS4.out; have h7 := HZS5.out; have h8 := HW5.out.size
    exact ⟨by omega, by omega, h4, h5, by omega, h8, by omega⟩
  have HWS : Hid (IntsAt S5 aw R.items) := (HOS3.out.keepB HK4.out (Nat.le_refl _)).keepB HK5.out (Nat.le_refl _)
  have HCS : Hid (IntsAt S5 bw C.items) := (HOC3.out.keepB HK4.out (Nat.le_refl _)).keepB HK5.out (Nat.le_refl _)
  have HBW5 : Hid (Below w.heap.size w S5) := HB.out.trans ((HK3.out.trans ((HK4.out.trans (HK5.out.mono HK4.out.size)).mono HK3.out.size)).mono HB.out.size)
  have HF5 : Hid (∀ w', Below S5.heap.size S5 w' → StTf w' w.heap.size a cap t ∧ (StTf w' w3.heap.size aw cw R ∧ StCk w' (w3.heap.size + 1) bw dw C) ∧ StTf w' w4.heap.size (some ⟨g4, 0, none⟩) t.items.length t ∧ (StTf w' w5.heap.size ag cg R ∧ StCk w' (w5.heap.size + 1) bg dg C)) := fun w' hb => by
    have z := HSZ.out
    have k5 := HK5.out.size
    have hb5 : Below S4.heap.size S4 w' := HK5.out.trans (hb.mono k5)
    exact ⟨HBX.out w' (HK3.out.trans ((HK4.out.trans (hb5.mono HK4.out.size)).mono HK3.out.size)), HB6.out w' hb5, st_keep HST4.out (hb5.block _ (by omega)), st_keep HST5.out.1 (hb.block _ (by omega)), ck_keep HST5.out.2 (hb.block _ (by omega))⟩
  have HRS5 : Hid (RowOf S5 g4 t.items) := HRS4.out.kept' (HK5.out.block _ (by have := HSZ.out; omega))
  clear hS5 r0 r1 r2
  refine (eqTf_same ag aw cg cw R S5 (own_ints HOGS.out) HWS.out (by omega)).mono ?_
  rintro e w6 ⟨rfl, hb6⟩
  have HW6 := Lib.hid hb6
  obtain ⟨_, ⟨_, x0, x1⟩, _, _, y0, y1⟩ := HF5.out w6 hb6
  clear hb6
  go_wp2_with fail
  refine (eqCk_same bg bw dg dw C w6 ((own_ints HOHS.out).keepB HW6.out (Nat.le_refl _)) (HCS.out.keepB HW6.out (Nat.le_refl _)) (by omega)).mono ?_
  rintro e w6c ⟨rfl, hb6⟩
  have HW6c := Lib.hid (HW6.out.trans (hb6.mono HW6.out.size))
  clear hb6 x0 x1 y0 y1
  have HK : Hid (∀ w', Below S5.heap.size S5 w' → w'.cell? ⟨w4.heap.size, 0, none⟩ = some (.slice (some ⟨g4, 0, none⟩) t.items.length t.items.length) ∧ w'.cell? ⟨w4.heap.size, 1, none⟩ = some (.int .i64 t.nxt) ∧ w'.cell? ⟨w4.heap.size, 2, none⟩ = some (.int .i64 t.ack) ∧ w'.cell? ⟨w.heap.size, 0, none⟩ = some (.slice a t.items.length cap) ∧ w'.cell? ⟨w.heap.size, 1, none⟩ = some (.int .i64 t.nxt) ∧ w'.cell? ⟨w.heap.size, 2, none⟩ = some (.int .i64 t.ack)) := fun w' hb => by
    obtain ⟨k2, _, k8, _⟩ := HF5.out w' hb
    exact ⟨k8.1, k8.2.1, k8.2.2, k2.1, k2.2.1, k2.2.2⟩
  have HBD : Hid (Below S5.heap.size S5 w6c.drew) := HW6c.out.drew
  obtain ⟨d0, d1, d2, d3, d4, d5⟩ := HK.out w6c HW6c.out
  go_wp2_with fail
  go_region_held3 (fun w' => w'.cell? ⟨w4.heap.size, 0, none⟩ = some (.slice (some ⟨g4, 0, none⟩) t.items.length t.items.length) ∧ w'.cell? ⟨w4.heap.size, 1, none⟩ = some (.int .i64 t.nxt) ∧ w'.cell? ⟨w4.heap.size, 2, none⟩ = some (.int .i64 t.ack) ∧ w'.cell? ⟨w.heap.size, 0, none⟩ = some (.slice a t.items.length cap) ∧ w'.cell? ⟨w.heap.size, 1, none⟩ = some (.int .i64 t.nxt) ∧ w'.cell? ⟨w.heap.size, 2, none⟩ = some (.int .i64 t.ack)) (first | (with_reducible exact HK.out _ (HBD.out)) | (with_reducible exact HK.out _ (HB7.out)) | (with_reducible exact HK.out _ (HB8.out))) (first | (go_at_call 11; refine (toTf_any a cap t _ (HI.out.keepB (HBW5.out.trans (HBD.out.mono HBW5.out.size)) (Nat.le_refl _)) HLT.out).mono ?_; rintro e w7 ⟨g7, rfl, hr7, hg7, hb7⟩; have HB7 := Lib.hid (HBD.out.trans (hb7.mono HBD.out.size)); have HR7 := Lib.hid hr7; clear hr7 hg7 hb7) | (go_at_call 13; refine (eqTf_same (some ⟨g4, 0, none⟩) (some ⟨g7, 0, none⟩) _ _ t w7 (HRS5.out.ints.keepB HB7.out (Nat.le_refl _)) HR7.out.ints HLT.out).mono ?_; rintro e w8 ⟨rfl, hb8⟩; have HB8 := Lib.hid (HB7.out.trans (hb8.mono HB7.out.size)); clear hb8))
  clear d0 d1 d2 d3 d4 d5
  obtain ⟨d0, d1, d2, d3, d4, d5⟩ := HK.out w8 HB8.out
  have k1 : decide ((1 : Int) + (t.items.length : Int) < 0) = false := by simp; omega
  go_wp2_with fail
  refine (marksTf_any (some ⟨g4, 0, none⟩) t.items.length t 1 w8 (owned_keep (owned_rowOf HRS5.out) (fun x hx => by cases hx; exact HB8.out.block _ (by have := HSZ.out; show g4 < _; omega))) (by omega) (by omega) HLT.out).mono ?_
  rintro e w9 ⟨rfl, hi9, hk9⟩
  have HW9 : Hid (Below w.heap.size w w9) := (HBW5.out.trans (HB8.out.mono HBW5.out.size)).trans (hk9.below (by have := HB8.out.size; have := HSZ.out; omega) (fun x hx => by cases hx; have := HSZ.out; show w.heap.size ≤ g4; omega))
  have HM9 : Hid (∀ i, i < S5.heap.size → i ≠ g4 → w9.heap[i]? = S5.heap[i]?) := fun i hi hne => (hk9.block i (by have := HB8.out.size; omega) (fun x hx => by cases hx; exact hne)).trans (HB8.out.block i hi)
  have HZ9 : Hid (S5.heap.size ≤ w9.heap.size) := Nat.le_trans HB8.out.size hk9.size
  have HF9 : Hid (∀ w', Below w9.heap.size w9 w' → StTf w' w.heap.size a cap t ∧ (StTf w' w3.heap.size aw cw R ∧ StCk w' (w3.heap.size + 1) bw dw C) ∧ (StTf w' w5.heap.size ag cg R ∧ StCk w' (w5.heap.size + 1) bg dg C)) := fun w' hb => by
    obtain ⟨k2, k6, k8, k9⟩ := HF5.out S5 (Below.refl _ _)
    have z := HSZ.out; have z9 := HZ9.out
    have hne : ∀ i, i < S5.heap.size → i ≠ g4 → w'.heap[i]? = S5.heap[i]? := fun i hi h => (hb.block i (by omega)).trans (HM9.out i hi h)
    exact ⟨st_keep k2 (hne _ (by omega) (by omega)), ⟨st_keep k6.1 (hne _ (by omega) (by omega)), ck_keep k6.2 (hne _ (by omega) (by omega))⟩, st_keep k9.1 (hne _ (by omega) (by omega)), ck_keep k9.2 (hne _ (by omega) (by omega))⟩
  have HG9 : Hid (OwnI w9 S4.heap.size ag cg R.items) := HOGS.out.kept fun g h1 h2 => HM9.out g h2 (by have := HSZ.out; omega)
  have HH9 : Hid (OwnI w9 S4.heap.size bg dg C.items) := HOHS.out.kept fun g h1 h2 => HM9.out g h2 (by have := HSZ.out; omega)
  have HWI9 : Hid (IntsAt w9 aw R.items) := ints_block HWS.out HZ9.out (fun x hx => by have h1 := (HLW.out x hx).2; have := HSZ.out; exact HM9.out _ (by omega) (by omega))
  have HCI9 : Hid (IntsAt w9 bw C.items) := ints_block HCS.out HZ9.out (fun x hx => by have h1 := (HLC.out x hx).2; have := HSZ.out; exact HM9.out _ (by omega) (by omega))
  obtain ⟨_, ⟨⟨x0, x1, x2⟩, _⟩, ⟨y0, y1, y2⟩, _⟩ := HF9.out w9 (Below.refl _ _)
  clear hi9 hk9 d0 d1 d2 d3 d4 d5
  go_wp2_with fail
  refine (eqTf_same ag aw cg cw R w9 (own_ints HG9.out) HWI9.out (by omega)).mono ?_
  rintro e w10 ⟨rfl, hb10⟩
  have HW10 := Lib.hid hb10
  clear x0 x1 x2 y0 y1 y2
  obtain ⟨_, ⟨_, x0, x1⟩, _, y0, y1⟩ := HF9.out w10 hb10
  clear hb10
  go_wp2_with fail
  refine (eqCk_same bg bw dg dw C w10 ((own_ints HH9.out).keepB HW10.out (Nat.le_refl _)) (HCI9.out.keepB HW10.out (Nat.le_refl _)) (by omega)).mono ?_
  rintro e w10c ⟨rfl, hb10⟩
  have HW10c := Lib.hid (HW10.out.trans (hb10.mono HW10.out.size))
  clear hb10 x0 x1 y0 y1 k1
  obtain ⟨_, _, ⟨y0, y1, y2⟩, _⟩ := HF9.out w10c HW10c.out
  go_wp2_with fail
  have HG10 : Hid (OwnI w10c S4.heap.size ag cg R.items) := HG9.out.keepB HW10c.out (Nat.le_refl _)
  have HH10 : Hid (OwnI w10c S4.heap.size bg dg C.items) := HH9.out.keepB HW10c.out (Nat.le_refl _)
  refine (marksTf_any ag cg R 1 w10c (owned_own HG10.out) (by omega) (by omega) (by omega)).mono ?_
  rintro e w11 ⟨rfl, hi11, hk11⟩
  have HN11 : Hid (∀ i, i < w10c.heap.size → (∀ x, ag = some x → i ≠ x.block) → w11.heap[i]? = w10c.heap[i]?) := hk11.block
  have HZ11 : Hid (w10c.heap.size ≤ w11.heap.size) := hk11.size
  have HW11 : Hid (Below w.heap.size w w11) := (HW9.out.trans (HW10c.out.mono HW9.out.size)).trans (hk11.below (by have := HW10c.out.size; have := HW9.out.size; omega) (fun x hx => by have := (HLG.out x hx).1; have := HSZ.out; omega))
  have HI11 := Lib.hid hi11
  have HZC : Hid (S5.heap.size ≤ w10c.heap.size) := Nat.le_trans HZ9.out HW10c.out.size
  have HF11 : Hid (∀ i, i < S5.heap.size → (i < S4.heap.size ∨ w5.heap.size ≤ i) → w11.heap[i]? = w10c.heap[i]?) := fun i hi h => HN11.out i (by have := HZC.out; omega) (fun x hx => by have := HLG.out x hx; omega)
  have hck11 : StCk w11 (w5.heap.size + 1) bg dg C := ck_keep (HF9.out w10c HW10c.out).2.2.2 (HF11.out _ (by have := HSZ.out; omega) (.inr (by omega)))
  obtain ⟨x0, x1⟩ := hck11
  clear hi11 hk11 y0 y1 y2
  have HOB : Hid (OwnedAt w11 bg C.items.length) := owned_keep (owned_own HH10.out) (fun x hx => HN11.out _ (by have := (HLH.out x hx).2; have := HZC.out; have := HSZ.out; omega) (fun y hy => Ne.symm (HDIS.out y x hy hx)))
  go_wp2_with fail
  refine (marksCk_any bg dg C (1 + R.items.length) w11 HOB.out (by omega) (by omega) (by omega)).mono ?_
  rintro e w12 ⟨rfl, hi12, hk12⟩
  have HI12 := Lib.hid hi12
  have HN12 : Hid (∀ i, i < w11.heap.size → (∀ x, bg = some x → i ≠ x.block) → w12.heap[i]? = w11.heap[i]?) := hk12.block
  have HZ12 : Hid (w11.heap.size ≤ w12.heap.size) := hk12.size
  have HW12 : Hid (Below w.heap.size w w12) := HW11.out.trans (hk12.below (by have := HW11.out.size; omega) (fun x hx => by have := (HLH.out x hx).1; have := HSZ.out; omega))
  have HF12 : Hid (∀ i, i < S5.heap.size → (i < S4.heap.size ∨ w5.heap.size ≤ i) → w12.heap[i]? = w10c.heap[i]?) := fun i hi h => (HN12.out i (by have := HZC.out; have := HZ11.out; omega) (fun x hx => by have := HLH.out x hx; omega)).trans (HF11.out i hi h)
  have HG12 : Hid (IntsAt w12 ag (markI 1 R.items.length)) := ints_block HI11.out HZ12.out (fun x hx => HN12.out _ (by have := (HLG.out x hx).2; have := HZC.out; have := HZ11.out; have := HSZ.out; omega) (fun y hy => HDIS.out x y hx hy))
  have HT12 : Hid (∀ w', Below w12.heap.size w12 w' → StTf w' w.heap.size a cap t ∧ (StTf w' w3.heap.size aw cw R ∧ StCk w' (w3.heap.size + 1) bw dw C) ∧ (StTf w' w5.heap.size ag cg R ∧ StCk w' (w5.heap.size + 1) bg dg C)) := fun w' hb => by
    obtain ⟨k2, k6, k9⟩ := HF9.out w10c HW10c.out
    have z := HSZ.out; have z11 := HZ11.out; have z12 := HZ12.out; have zc := HZC.out
    have hne : ∀ i, i < S5.heap.size → (i < S4.heap.size ∨ w5.heap.size ≤ i) → w'.heap[i]? = w10c.heap[i]? := fun i hi h => (hb.block i (by omega)).trans (HF12.out i hi h)
    exact ⟨st_keep k2 (hne _ (by omega) (by omega)), ⟨st_keep k6.1 (hne _ (by omega) (by omega)), ck_keep k6.2 (hne _ (by omega) (by omega))⟩, st_keep k9.1 (hne _ (by omega) (by omega)), ck_keep k9.2 (hne _ (by omega) (by omega))⟩
  have HWI12 : Hid (IntsAt w12 aw R.items) := ints_block (HWI9.out.keepB HW10c.out (Nat.le_refl _)) (Nat.le_trans HZ11.out HZ12.out) (fun x hx => by have h1 := (HLW.out x hx).2; have := HSZ.out; exact HF12.out _ (by omega) (by omega))
  have HCI12 : Hid (IntsAt w12 bw C.items) := ints_block (HCI9.out.keepB HW10c.out (Nat.le_refl _)) (Nat.le_trans HZ11.out HZ12.out) (fun x hx => by have h1 := (HLC.out x hx).2; have := HSZ.out; exact HF12.out _ (by omega) (by omega))
  clear hi12 hk12 x0 x1
  obtain ⟨_, _, ⟨y0, y1, y2⟩, _⟩ := HT12.out w12 (Below.refl _ _)
  go_wp2_with fail
  refine (heldTf_any ag cg R 1 w12 HG12.out (by omega) (by omega) (by omega)).mono ?_
  rintro e w13 ⟨rfl, hb13⟩
  have HW13 := Lib.hid hb13
  have q0 : decide ((1 : Int) + (R.items.length : Int) < 0) = false := by simp; omega
  clear y0 y1 y2
  obtain ⟨_, _, _, x0, x1⟩ := HT12.out w13 hb13
  clear hb13
  go_wp2_with fail
  refine (heldCk_any bg dg C (1 + R.items.length) w13 (HI12.out.keepB HW13.out (Nat.le_refl _)) (by omega) (by omega) (by omega)).mono ?_
  rintro e w14 ⟨rfl, hb14⟩
  have HW14 := Lib.hid (HW13.out.trans (hb14.mono HW13.out.size))
  have q1 : decide ((1 : Int) + (R.items.length : Int) + (C.items.length : Int) < 0) = false := by simp; omega
  have q2 : (((1 : Int) + (R.items.length : Int) + (C.items.length : Int)) != ((1 : Int) + (R.items.length : Int) + (C.items.length : Int))) = false := by simp
  clear hb14 x0 x1
  obtain ⟨⟨x0, x1, x2⟩, _⟩ := HT12.out w14 HW14.out
  go_wp2_with fail
  refine (toTf_any a cap t w14 (HI.out.keepB (HW12.out.trans (HW14.out.mono HW12.out.size)) (Nat.le_refl _)) HLT.out).mono ?_
  rintro e w15 ⟨g15, rfl, hr15, hg15, hb15⟩
  have HR15 := Lib.hid hr15.ints
  have HW15 := Lib.hid (HW14.out.trans (hb15.mono HW14.out.size))
  clear hr15 hg15 hb15 x0 x1 x2
  go_wp2_with fail
  refine (HIM.out _ _ w15 HR15.out (Nat.le_refl _)).mono ?_
  rintro e w16 ⟨ah, ch, bh, dh, rfl, hoh, hoi, _, hb16⟩
  have HOX := Lib.hid (own_ints hoh)
  have HOY := Lib.hid (own_ints hoi)
  have HW16 := Lib.hid (HW15.out.trans (hb16.mono HW15.out.size))
  clear hoh hoi hb16
  have HA16 : Hid (∀ o p, Below w12.heap.size w12 ((w16.alloc o).alloc p)) := fun o p => (HW16.out.alloc HW16.out.size o).alloc (HW16.out.alloc HW16.out.size o).size p
  have r0 : ∀ o p, ((w16.alloc o).alloc p).cell? ⟨w3.heap.size, 0, none⟩ = some (.slice aw R.items.length cw) := fun o p => (HT12.out _ (HA16.out o p)).2.1.1.1
  have r1 : ∀ o p, ((w16.alloc o).alloc p).cell? ⟨w3.heap.size, 1, none⟩ = some (.int .i64 R.nxt) := fun o p => (HT12.out _ (HA16.out o p)).2.1.1.2.1
  have r2 : ∀ o p, ((w16.alloc o).alloc p).cell? ⟨w3.heap.size, 2, none⟩ = some (.int .i64 R.ack) := fun o p => (HT12.out _ (HA16.out o p)).2.1.1.2.2
  go_wp2_with fail
  obtain ⟨S6, hS6⟩ : ∃ S6, S6 = (w16.alloc (.cells #[.slice ah R.items.length ch, .int .i64 R.nxt, .int .i64 R.ack] 26)).alloc (.cells #[.int .i64 C.pos, .slice bh C.items.length dh] 28) := ⟨_, rfl⟩
  rw [← hS6]
  have HAX : Hid (Below w16.heap.size w16 S6) := by show Below _ _ _; rw [hS6]; exact ((Below.refl _ _).alloc (Nat.le_refl _) _).alloc (by simp) _
  have HK6 : Hid (Below w12.heap.size w12 S6) := by show Below _ _ _; rw [hS6]; exact HA16.out _ _
  have HST6 : Hid (StTf S6 w16.heap.size ah ch R ∧ StCk S6 (w16.heap.size + 1) bh dh C) := by show _ ∧ _; rw [hS6]; exact two_st
  have HZS6 : Hid (S6.heap.size = w16.heap.size + 2) := by show _ = _; rw [hS6]; simp
  have HOX6 : Hid (IntsAt S6 ah R.items) := HOX.out.keepB HAX.out (Nat.le_refl _)
  have HOY6 : Hid (IntsAt S6 bh C.items) := HOY.out.keepB HAX.out (Nat.le_refl _)
  clear hS6 r0 r1 r2
  refine (eqTf_same ah aw ch cw R S6 HOX6.out (HWI12.out.keepB HK6.out (Nat.le_refl _)) (by omega)).mono ?_
  rintro e w17 ⟨rfl, hb17⟩
  have HW17 := Lib.hid hb17
  have HV17 : Hid (Below w12.heap.size w12 w17) := HK6.out.trans (hb17.mono HK6.out.size)
  obtain ⟨_, ⟨_, x0, x1⟩, _⟩ := HT12.out w17 HV17.out
  obtain ⟨y0, y1⟩ := ck_keep HST6.out.2 (hb17.block _ (by have := HZS6.out; omega))
  clear hb17
  go_wp2_with fail
  refine (eqCk_same bh bw dh dw C w17 (HOY6.out.keepB HW17.out (Nat.le_refl _)) ((HCI12.out.keepB HK6.out (Nat.le_refl _)).keepB HW17.out (Nat.le_refl _)) (by omega)).mono ?_
  rintro e w18 ⟨rfl, hb18⟩
  have HV18 : Hid (Below w12.heap.size w12 w18) := HV17.out.trans (hb18.mono HV17.out.size)
  clear hb18 x0 x1 y0 y1
  obtain ⟨_, _, ⟨y0, y1, y2⟩, _⟩ := HT12.out w18 HV18.out
  go_wp2_with fail
  refine (heldTf_any ag cg R 1 w18 (HG12.out.keepB HV18.out (Nat.le_refl _)) (by omega) (by omega) (by omega)).mono ?_
  rintro e w19 ⟨rfl, hb19⟩
  have HV19 : Hid (Below w12.heap.size w12 w19) := HV18.out.trans (hb19.mono HV18.out.size)
  clear hb19 y0 y1 y2
  obtain ⟨_, _, _, x0, x1⟩ := HT12.out w19 HV19.out
  go_wp2_with fail
  refine (heldCk_any bg dg C (1 + R.items.length) w19 (HI12.out.keepB HV19.out (Nat.le_refl _)) (by omega) (by omega) (by omega)).mono ?_
  rintro e w20 ⟨rfl, hb20⟩
  have HV20 : Hid (Below w12.heap.size w12 w20) := HV19.out.trans (hb20.mono HV19.out.size)
  clear hb20 x0 x1
  go_wp2
  go_ret
  exact ⟨rfl, HW12.out.trans (HV20.out.mono HW12.out.size)⟩
end Go.Proofs.Ytmjloobakahdgab
