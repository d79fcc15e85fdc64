/- The walks of the laws of sending: a chunk has the next items, the window is respected, nothing is sent only if nothing may be sent. -/
import Derived.Test.YtoiecicfmnpnoaaTfDrawW
import Derived.Test.YtoiecicfmnpnoaaExactTfS
import Derived.Test.YtoiecicfmnpnoaaTfMath2
namespace Go.Proofs.Ytoiecicfmnpnoaa
open Go.RowKit
set_option linter.unusedVariables false

attribute [local go_sem ↓] Go.wp_at_zero Go.wp_at_succ

set_option maxHeartbeats 4000000 in
theorem transferChunk (s : Option Addr) (len cap : Nat) (z : List Int) (w : World) (h : RowIn .u8 w s len cap z) :
    Calls Try.prog 3 #[.slice s len cap] w fun e w' => e = .returned (.bool true) ∧ Below w.heap.size w w' := by
  have hb := bytes_of_row h
  have hm : len ≤ maxLen := Nat.le_trans hb.1 hb.2.1
  unfold maxLen at hm
  clear h
  by_cases hl : 1048576 < len
  · go_enter Try.func3, Try.ntmps3
    go_wp2
    go_ret
    exact ⟨rfl, Below.refl _ _⟩
  have HY := Lib.hid hb
  clear hb
  go_enter Try.func3, Try.ntmps3
  go_wp2_with fail
  refine (drawTransferSend s len cap w HY.out).mono ?_
  rintro e w1 ⟨a, ca, t, v, rfl, hi, hzl, hzc, hn, hk, hb1⟩
  have hmx : t.items.length ≤ maxLen := by unfold maxLen; omega
  have HMX := Lib.hid hmx
  have HCA := Lib.hid hzc
  have HB1 := Lib.hid hb1
  have HI1 := Lib.hid hi.ints
  clear hi hb1 hmx hn hk hzc
  obtain ⟨R, hR⟩ : ∃ R, R = sendT t v := ⟨_, rfl⟩
  obtain ⟨C, hC⟩ : ∃ C, C = sendC t v := ⟨_, rfl⟩
  obtain ⟨V, hV⟩ : ∃ V, V = sendB t v := ⟨_, rfl⟩
  have hRl : R.items.length ≤ 20 := by rw [hR]; exact sendT_len t v
  have hCl : C.items.length ≤ 4 := by rw [hC]; exact sendC_len t v
  have HP : Hid (∀ w, IntsAt w a t.items → Calls Try.prog 7 #[.agg #[.slice a t.items.length ca, .int .i64 t.nxt, .int .i64 t.ack], .int .i64 v] w (NewTfC R C V w)) := fun w h => by rw [hR, hC, hV]; exact psend_any a ca t v w h HMX.out HCA.out
  have HQ : Hid (∀ w, IntsAt w a t.items → Calls Try.prog 8 #[.agg #[.slice a t.items.length ca, .int .i64 t.nxt, .int .i64 t.ack], .int .i64 v] w (NewTfC R C V w)) := fun w h => by rw [hR, hC, hV]; exact ssend_any a ca t v w h HMX.out HCA.out
  have HY2 : Hid (V = true → ∃ N E : Nat, t.nxt = (N : Int) ∧ R.nxt = (E : Int) ∧ C.pos = (N : Int) ∧ E = N + C.items.length ∧ 1 ≤ C.items.length ∧ E ≤ t.items.length ∧ cutL t.items (N : Int) (E : Int) = C.items) := fun h => by
    rw [hV] at h
    obtain ⟨h1, h2, h3⟩ := send_yes h
    obtain ⟨i1, ⟨i2, i3⟩, i4, i5⟩ := (tfB_iff t).1 h1
    have he := end_le t v
    have hl : (cutL t.items t.nxt (endI t v)).length = (endI t v - t.nxt).toNat := cutL_len i2 (by omega) he.1
    have hc : C = ⟨t.nxt, cutL t.items t.nxt (endI t v)⟩ := by rw [hC, sendC, if_pos h]
    rw [hR, sendT_yes h, hc]
    have e1 : ((t.nxt.toNat : Nat) : Int) = t.nxt := by omega
    have e2 : (((endI t v).toNat : Nat) : Int) = endI t v := by omega
    refine ⟨t.nxt.toNat, (endI t v).toNat, e1.symm, e2.symm, e1.symm, ?_, ?_, by omega, by rw [e1, e2]⟩
    · show _ = _ + (cutL t.items t.nxt (endI t v)).length
      rw [hl]; omega
    · show 1 ≤ (cutL t.items t.nxt (endI t v)).length
      rw [hl]; omega
  clear hR hC hV
  go_wp2_with fail
  obtain ⟨S1, hS1⟩ : ∃ S1, S1 = w1.alloc (.cells #[.slice a t.items.length ca, .int .i64 t.nxt, .int .i64 t.ack] 25) := ⟨_, rfl⟩
  rw [← hS1]
  have HA1 : Hid (Below w1.heap.size w1 S1) := by show Below _ _ _; rw [hS1]; exact (Below.refl _ _).alloc (Nat.le_refl _) _
  have HB2 : Hid (Below w.heap.size w S1) := HB1.out.trans (HA1.out.mono HB1.out.size)
  have hst : StTf S1 w1.heap.size a ca t := by rw [hS1]; exact st_new
  have HZ1 : Hid (w1.heap.size < S1.heap.size) := by show _ < _; rw [hS1]; simp
  have HST : Hid (∀ w', Below S1.heap.size S1 w' → StTf w' w1.heap.size a ca t) := fun w' hb => st_keep hst (hb.block _ HZ1.out)
  have HI2 : Hid (∀ w', Below S1.heap.size S1 w' → IntsAt w' a t.items) := fun w' hb => (HI1.out.keepB HA1.out (Nat.le_refl _)).keepB hb (Nat.le_refl _)
  clear hS1 hst
  refine (HP.out S1 (HI2.out _ (Below.refl _ _))).mono ?_
  rintro e w2 ⟨ag, cg, bg, dg, rfl, hog, hoh, _, hb2⟩
  have HG := Lib.hid (own_ints hog)
  have HH := Lib.hid (own_ints hoh)
  have HB3 := Lib.hid hb2
  have HA2 : Hid (∀ o p, Below S1.heap.size S1 ((w2.alloc o).alloc p)) := fun o p => (hb2.alloc hb2.size o).alloc (hb2.alloc hb2.size o).size p
  have r0 : ∀ o p, ((w2.alloc o).alloc p).cell? ⟨w1.heap.size, 0, none⟩ = some (.slice a t.items.length ca) := fun o p => (HST.out _ (HA2.out o p)).1
  have r1 : ∀ o p, ((w2.alloc o).alloc p).cell? ⟨w1.heap.size, 1, none⟩ = some (.int .i64 t.nxt) := fun o p => (HST.out _ (HA2.out o p)).2.1
  have r2 : ∀ o p, ((w2.alloc o).alloc p).cell? ⟨w1.heap.size, 2, none⟩ = some (.int .i64 t.ack) := fun o p => (HST.out _ (HA2.out o p)).2.2
  clear hog hoh hb2
  go_wp2_with fail
  obtain ⟨S2, hS2⟩ : ∃ S2, S2 = (w2.alloc (.cells #[.slice ag R.items.length cg, .int .i64 R.nxt, .int .i64 R.ack] 25)).alloc (.cells #[.int .i64 C.pos, .slice bg C.items.length dg] 29) := ⟨_, rfl⟩
  rw [← hS2]
  have HK2 : Hid (Below S1.heap.size S1 S2) := by show Below _ _ _; rw [hS2]; exact HA2.out _ _
  have HL2 : Hid (Below w2.heap.size w2 S2) := by show Below _ _ _; rw [hS2]; exact ((Below.refl _ _).alloc (Nat.le_refl _) _).alloc (by simp) _
  have HZ2 : Hid (S2.heap.size = w2.heap.size + 2) := by show _ = _; rw [hS2]; simp
  have hsg : StTf S2 w2.heap.size ag cg R ∧ StCk S2 (w2.heap.size + 1) bg dg C := by rw [hS2]; exact two_st
  have HSG : Hid (∀ w', Below S2.heap.size S2 w' → StTf w' w2.heap.size ag cg R ∧ StCk w' (w2.heap.size + 1) bg dg C) := fun w' hb => ⟨st_keep hsg.1 (hb.block _ (by have := HZ2.out; omega)), ck_keep hsg.2 (hb.block _ (by have := HZ2.out; omega))⟩
  have HG2 : Hid (∀ w', Below S2.heap.size S2 w' → IntsAt w' ag R.items) := fun w' hb => (HG.out.keepB HL2.out (Nat.le_refl _)).keepB hb (Nat.le_refl _)
  have HH2 : Hid (∀ w', Below S2.heap.size S2 w' → IntsAt w' bg C.items) := fun w' hb => (HH.out.keepB HL2.out (Nat.le_refl _)).keepB hb (Nat.le_refl _)
  clear hS2 hsg r0 r1 r2
  refine (HQ.out S2 (HI2.out _ HK2.out)).mono ?_
  rintro e w3 ⟨aw, cw, bw, dw, rfl, how, hox, _, hb3⟩
  have HW := Lib.hid (own_ints how)
  have HX := Lib.hid (own_ints hox)
  have HA3 : Hid (∀ o p, Below S2.heap.size S2 ((w3.alloc o).alloc p)) := fun o p => (hb3.alloc hb3.size o).alloc (hb3.alloc hb3.size o).size p
  have r0 : ∀ o p, ((w3.alloc o).alloc p).cell? ⟨w2.heap.size + 1, 0, none⟩ = some (.int .i64 C.pos) := fun o p => (HSG.out _ (HA3.out o p)).2.1
  have r1 : ∀ o p, ((w3.alloc o).alloc p).cell? ⟨w2.heap.size + 1, 1, none⟩ = some (.slice bg C.items.length dg) := fun o p => (HSG.out _ (HA3.out o p)).2.2
  have hVV : (V != V) = false := by cases V <;> rfl
  have hVW : (V == V) = true := by cases V <;> rfl
  clear how hox hb3
  go_wp2_with fail
  obtain ⟨S3, hS3⟩ : ∃ S3, S3 = (w3.alloc (.cells #[.slice aw R.items.length cw, .int .i64 R.nxt, .int .i64 R.ack] 25)).alloc (.cells #[.int .i64 C.pos, .slice bw C.items.length dw] 29) := ⟨_, rfl⟩
  rw [← hS3]
  have HK3 : Hid (Below S2.heap.size S2 S3) := by show Below _ _ _; rw [hS3]; exact HA3.out _ _
  have HL3 : Hid (Below w3.heap.size w3 S3) := by show Below _ _ _; rw [hS3]; exact ((Below.refl _ _).alloc (Nat.le_refl _) _).alloc (by simp) _
  have HZ3 : Hid (S3.heap.size = w3.heap.size + 2) := by show _ = _; rw [hS3]; simp
  have hsw : StTf S3 w3.heap.size aw cw R ∧ StCk S3 (w3.heap.size + 1) bw dw C := by rw [hS3]; exact two_st
  have HSW : Hid (∀ w', Below S3.heap.size S3 w' → StTf w' w3.heap.size aw cw R ∧ StCk w' (w3.heap.size + 1) bw dw C) := fun w' hb => ⟨st_keep hsw.1 (hb.block _ (by have := HZ3.out; omega)), ck_keep hsw.2 (hb.block _ (by have := HZ3.out; omega))⟩
  have HT3 : Hid (∀ w', Below S3.heap.size S3 w' → Below S2.heap.size S2 w') := fun w' hb => HK3.out.trans (hb.mono HK3.out.size)
  have HT1 : Hid (∀ w', Below S3.heap.size S3 w' → Below S1.heap.size S1 w') := fun w' hb => HK2.out.trans ((HT3.out w' hb).mono HK2.out.size)
  have HE : Hid (∀ w', Below S3.heap.size S3 w' → Below w.heap.size w w') := fun w' hb => HB2.out.trans ((HT1.out w' hb).mono HB2.out.size)
  have HW3 : Hid (∀ w', Below S3.heap.size S3 w' → IntsAt w' aw R.items) := fun w' hb => (HW.out.keepB HL3.out (Nat.le_refl _)).keepB hb (Nat.le_refl _)
  have HX3 : Hid (∀ w', Below S3.heap.size S3 w' → IntsAt w' bw C.items) := fun w' hb => (HX.out.keepB HL3.out (Nat.le_refl _)).keepB hb (Nat.le_refl _)
  have HSC : Hid (∀ w', Below S3.heap.size S3 w' → Calls Try.prog 9 #[.agg #[.int .i64 C.pos, .slice bg C.items.length dg], .agg #[.int .i64 C.pos, .slice bw C.items.length dw]] w' fun e w'' => e = .returned (.bool true) ∧ Below w'.heap.size w' w'') := fun w' hb =>
    sameCk_any bg bw dg dw C w' (HH2.out w' (HT3.out w' hb)) (HX3.out w' hb) (by omega)
  have HST3 : Hid (∀ w', Below S3.heap.size S3 w' → Calls Try.prog 10 #[.agg #[.slice ag R.items.length cg, .int .i64 R.nxt, .int .i64 R.ack], .agg #[.slice aw R.items.length cw, .int .i64 R.nxt, .int .i64 R.ack]] w' fun e w'' => e = .returned (.bool true) ∧ Below w'.heap.size w' w'') := fun w' hb =>
    sameTf_any ag aw cg cw R w' (HG2.out w' (HT3.out w' hb)) (HW3.out w' hb) (by omega)
  clear hS3 hsw r0 r1
  refine (HSC.out S3 (Below.refl _ _)).mono ?_
  rintro e w4 ⟨rfl, hb4⟩
  have HB4 : Hid (Below S3.heap.size S3 w4) := hb4
  obtain ⟨x0, x1, x2⟩ := (HSG.out _ (HT3.out _ hb4)).1
  obtain ⟨y0, y1, y2⟩ := (HSW.out _ hb4).1
  clear hb4
  go_wp2_with fail
  refine (HST3.out w4 HB4.out).mono ?_
  rintro e w5 ⟨rfl, hb5⟩
  have HB5 := Lib.hid (HB4.out.trans (hb5.mono HB4.out.size))
  clear hb5 x0 x1 x2 y0 y1 y2
  cases V
  · clear HY2 hVV
    obtain ⟨c0, c1⟩ := (HSG.out _ (HT3.out _ HB5.out)).2
    obtain ⟨e0, e1⟩ := (HSW.out _ HB5.out).2
    go_wp2_with fail
    refine (HSC.out w5 HB5.out).mono ?_
    rintro e w8 ⟨rfl, hb8⟩
    have HB8 := Lib.hid (HB5.out.trans (hb8.mono HB5.out.size))
    clear hb8 c0 c1 e0 e1
    obtain ⟨x0, x1, x2⟩ := (HSG.out _ (HT3.out _ HB8.out)).1
    obtain ⟨y0, y1, y2⟩ := (HSW.out _ HB8.out).1
    go_wp2_with fail
    refine (HST3.out w8 HB8.out).mono ?_
    rintro e w9 ⟨rfl, hb9⟩
    have HB9 := Lib.hid (HB8.out.trans (hb9.mono HB8.out.size))
    clear hb9 x0 x1 x2 y0 y1 y2
    go_wp2
    go_ret
    exact ⟨rfl, HE.out _ HB9.out⟩
  · obtain ⟨N, E, hN, hE, hP, hEN, hL1, hEl, hcut⟩ := HY2.out rfl
    have HSK : Hid (∀ w', Below S3.heap.size S3 w' → w'.cell? ⟨w1.heap.size, 0, none⟩ = some (.slice a t.items.length ca) ∧ w'.cell? ⟨w1.heap.size, 1, none⟩ = some (.int .i64 (N : Int)) ∧ w'.cell? ⟨w2.heap.size, 1, none⟩ = some (.int .i64 (E : Int)) ∧ w'.cell? ⟨w2.heap.size + 1, 0, none⟩ = some (.int .i64 (N : Int)) ∧ w'.cell? ⟨w2.heap.size + 1, 1, none⟩ = some (.slice bg C.items.length dg)) := fun w' hb => by
      obtain ⟨x0, x1, x2⟩ := HST.out w' (HT1.out w' hb)
      obtain ⟨⟨y0, y1, y2⟩, z0, z1⟩ := HSG.out w' (HT3.out w' hb)
      rw [hN] at x1
      rw [hE] at y1
      rw [hP] at z0
      exact ⟨x0, x1, y1, z0, z1⟩
    have s1 : (N : Int) + (C.items.length : Int) = (E : Int) := by omega
    have s2 : IntKind.i64.wrap (E : Int) = (E : Int) := by rw [IntKind.wrap_i64]; omega
    have hL1' : (1 : Int) ≤ (C.items.length : Int) := by omega
    have hL4' : (C.items.length : Int) ≤ 4 := by omega
    have hca := HCA.out
    have HSA : Hid (∀ w', Below S3.heap.size S3 w' → Calls Try.prog 11 #[.slice bg C.items.length dg, .slice (slA a ca N) C.items.length (ca - N)] w' fun e w'' => e = .returned (.bool true) ∧ Same w' w'') := fun w' hb => by
      have h := ints_slc (l := N) (h := E) (HI2.out w' (HT1.out w' hb)) (by omega) hEl hca
      rw [hcut] at h
      exact sameI_any bg _ _ dg (ca - N) C.items w' (HH2.out w' (HT3.out w' hb)) h rfl (by omega)
    have hs1 : ∀ w, (Instr.slice 23 (.slice a t.items.length ca) (some (.int .i64 (N : Int))) (some (.int .i64 (E : Int))) none).run Try.prog w = .ok (.slice (slA a ca N) C.items.length (ca - N)) w := fun w => by
      have h := run_slcLH w a t.items.length ca N E (by omega) (by omega)
      rwa [show E - N = C.items.length by omega] at h
    have HBD : Hid (Below S3.heap.size S3 w5.drew) := HB5.out.drew
    obtain ⟨d0, d1, d2, d3, d4⟩ := HSK.out w5 HB5.out
    clear hN hE hP hEN hEl hcut hca hzl hRl hCl hL1 HY2
    go_wp2_with fail
    go_region_held3 (fun w' => w'.cell? ⟨w1.heap.size, 0, none⟩ = some (.slice a t.items.length ca) ∧ w'.cell? ⟨w1.heap.size, 1, none⟩ = some (.int .i64 (N : Int)) ∧ w'.cell? ⟨w2.heap.size, 1, none⟩ = some (.int .i64 (E : Int)) ∧ w'.cell? ⟨w2.heap.size + 1, 0, none⟩ = some (.int .i64 (N : Int)) ∧ w'.cell? ⟨w2.heap.size + 1, 1, none⟩ = some (.slice bg C.items.length dg)) (first | (with_reducible exact HSK.out _ HBD.out) | (with_reducible exact HSK.out _ HB6.out)) (first | (go_at_call 11; ((with_reducible refine (HSA.out _ HBD.out).mono ?_); rintro e w6 ⟨rfl, hs6⟩); have HB6 := Lib.hid (HBD.out.trans (hs6.below _)); clear hs6))
    clear d0 d1 d2 d3 d4 s1 s2 hs1
    go_wp2
    go_ret
    exact ⟨rfl, HE.out _ HB6.out⟩

set_option maxHeartbeats 4000000 in
theorem transferWindow (s : Option Addr) (len cap : Nat) (z : List Int) (w : World) (h : RowIn .u8 w s len cap z) :
    Calls Try.prog 4 #[.slice s len cap] w fun e w' => e = .returned (.bool true) ∧ Below w.heap.size w w' := by
  have hb := bytes_of_row h
  have hm : len ≤ maxLen := Nat.le_trans hb.1 hb.2.1
  unfold maxLen at hm
  clear h
  by_cases hl : 1048576 < len
  · go_enter Try.func4, Try.ntmps4
    go_wp2
    go_ret
    exact ⟨rfl, Below.refl _ _⟩
  have HY := Lib.hid hb
  clear hb
  go_enter Try.func4, Try.ntmps4
  go_wp2_with fail
  refine (drawTransferSend s len cap w HY.out).mono ?_
  rintro e w1 ⟨a, ca, t, v, rfl, hi, hzl, hzc, hn, hk, hb1⟩
  have hmx : t.items.length ≤ maxLen := by unfold maxLen; omega
  have HMX := Lib.hid hmx
  have HCA := Lib.hid hzc
  have HB1 := Lib.hid hb1
  have HI1 := Lib.hid hi.ints
  clear hi hb1 hmx hn hk hzc
  obtain ⟨R, hR⟩ : ∃ R, R = sendT t v := ⟨_, rfl⟩
  obtain ⟨C, hC⟩ : ∃ C, C = sendC t v := ⟨_, rfl⟩
  obtain ⟨V, hV⟩ : ∃ V, V = sendB t v := ⟨_, rfl⟩
  have hRl : R.items.length ≤ 20 := by rw [hR]; exact sendT_len t v
  have hCl : C.items.length ≤ 4 := by rw [hC]; exact sendC_len t v
  have HP : Hid (∀ w, IntsAt w a t.items → Calls Try.prog 7 #[.agg #[.slice a t.items.length ca, .int .i64 t.nxt, .int .i64 t.ack], .int .i64 v] w (NewTfC R C V w)) := fun w h => by rw [hR, hC, hV]; exact psend_any a ca t v w h HMX.out HCA.out
  have HQ : Hid (∀ w, IntsAt w a t.items → Calls Try.prog 8 #[.agg #[.slice a t.items.length ca, .int .i64 t.nxt, .int .i64 t.ack], .int .i64 v] w (NewTfC R C V w)) := fun w h => by rw [hR, hC, hV]; exact ssend_any a ca t v w h HMX.out HCA.out
  have HY2 : Hid (V = true → R.nxt - R.ack ≤ v ∧ IntKind.i64.wrap (R.nxt - R.ack) = R.nxt - R.ack ∧ tfB R = true) := fun h => by
    rw [hV] at h
    have hv := sendT_valid h
    obtain ⟨h1, h2, h3⟩ := send_yes h
    obtain ⟨i1, ⟨i2, i3⟩, i4, i5⟩ := (tfB_iff t).1 h1
    have he := end_le t v
    rw [hR]
    refine ⟨?_, ?_, hv⟩
    · rw [sendT_yes h]; show endI t v - t.ack ≤ v; omega
    · rw [sendT_yes h]; show IntKind.i64.wrap (endI t v - t.ack) = endI t v - t.ack; rw [IntKind.wrap_i64]; omega
  clear hR hC hV
  go_wp2_with fail
  obtain ⟨S1, hS1⟩ : ∃ S1, S1 = w1.alloc (.cells #[.slice a t.items.length ca, .int .i64 t.nxt, .int .i64 t.ack] 25) := ⟨_, rfl⟩
  rw [← hS1]
  have HA1 : Hid (Below w1.heap.size w1 S1) := by show Below _ _ _; rw [hS1]; exact (Below.refl _ _).alloc (Nat.le_refl _) _
  have HB2 : Hid (Below w.heap.size w S1) := HB1.out.trans (HA1.out.mono HB1.out.size)
  have hst : StTf S1 w1.heap.size a ca t := by rw [hS1]; exact st_new
  have HZ1 : Hid (w1.heap.size < S1.heap.size) := by show _ < _; rw [hS1]; simp
  have HST : Hid (∀ w', Below S1.heap.size S1 w' → StTf w' w1.heap.size a ca t) := fun w' hb => st_keep hst (hb.block _ HZ1.out)
  have HI2 : Hid (∀ w', Below S1.heap.size S1 w' → IntsAt w' a t.items) := fun w' hb => (HI1.out.keepB HA1.out (Nat.le_refl _)).keepB hb (Nat.le_refl _)
  clear hS1 hst
  refine (HP.out S1 (HI2.out _ (Below.refl _ _))).mono ?_
  rintro e w2 ⟨ag, cg, bg, dg, rfl, hog, hoh, _, hb2⟩
  have HG := Lib.hid (own_ints hog)
  have HH := Lib.hid (own_ints hoh)
  have HB3 := Lib.hid hb2
  have HA2 : Hid (∀ o p, Below S1.heap.size S1 ((w2.alloc o).alloc p)) := fun o p => (hb2.alloc hb2.size o).alloc (hb2.alloc hb2.size o).size p
  have r0 : ∀ o p, ((w2.alloc o).alloc p).cell? ⟨w1.heap.size, 0, none⟩ = some (.slice a t.items.length ca) := fun o p => (HST.out _ (HA2.out o p)).1
  have r1 : ∀ o p, ((w2.alloc o).alloc p).cell? ⟨w1.heap.size, 1, none⟩ = some (.int .i64 t.nxt) := fun o p => (HST.out _ (HA2.out o p)).2.1
  have r2 : ∀ o p, ((w2.alloc o).alloc p).cell? ⟨w1.heap.size, 2, none⟩ = some (.int .i64 t.ack) := fun o p => (HST.out _ (HA2.out o p)).2.2
  clear hog hoh hb2
  go_wp2_with fail
  obtain ⟨S2, hS2⟩ : ∃ S2, S2 = (w2.alloc (.cells #[.slice ag R.items.length cg, .int .i64 R.nxt, .int .i64 R.ack] 25)).alloc (.cells #[.int .i64 C.pos, .slice bg C.items.length dg] 29) := ⟨_, rfl⟩
  rw [← hS2]
  have HK2 : Hid (Below S1.heap.size S1 S2) := by show Below _ _ _; rw [hS2]; exact HA2.out _ _
  have HL2 : Hid (Below w2.heap.size w2 S2) := by show Below _ _ _; rw [hS2]; exact ((Below.refl _ _).alloc (Nat.le_refl _) _).alloc (by simp) _
  have HZ2 : Hid (S2.heap.size = w2.heap.size + 2) := by show _ = _; rw [hS2]; simp
  have hsg : StTf S2 w2.heap.size ag cg R ∧ StCk S2 (w2.heap.size + 1) bg dg C := by rw [hS2]; exact two_st
  have HSG : Hid (∀ w', Below S2.heap.size S2 w' → StTf w' w2.heap.size ag cg R ∧ StCk w' (w2.heap.size + 1) bg dg C) := fun w' hb => ⟨st_keep hsg.1 (hb.block _ (by have := HZ2.out; omega)), ck_keep hsg.2 (hb.block _ (by have := HZ2.out; omega))⟩
  have HG2 : Hid (∀ w', Below S2.heap.size S2 w' → IntsAt w' ag R.items) := fun w' hb => (HG.out.keepB HL2.out (Nat.le_refl _)).keepB hb (Nat.le_refl _)
  have HH2 : Hid (∀ w', Below S2.heap.size S2 w' → IntsAt w' bg C.items) := fun w' hb => (HH.out.keepB HL2.out (Nat.le_refl _)).keepB hb (Nat.le_refl _)
  clear hS2 hsg r0 r1 r2
  refine (HQ.out S2 (HI2.out _ HK2.out)).mono ?_
  rintro e w3 ⟨aw, cw, bw, dw, rfl, how, hox, _, hb3⟩
  have HW := Lib.hid (own_ints how)
  have HX := Lib.hid (own_ints hox)
  have HA3 : Hid (∀ o p, Below S2.heap.size S2 ((w3.alloc o).alloc p)) := fun o p => (hb3.alloc hb3.size o).alloc (hb3.alloc hb3.size o).size p
  have r0 : ∀ o p, ((w3.alloc o).alloc p).cell? ⟨w2.heap.size + 1, 0, none⟩ = some (.int .i64 C.pos) := fun o p => (HSG.out _ (HA3.out o p)).2.1
  have r1 : ∀ o p, ((w3.alloc o).alloc p).cell? ⟨w2.heap.size + 1, 1, none⟩ = some (.slice bg C.items.length dg) := fun o p => (HSG.out _ (HA3.out o p)).2.2
  have hVV : (V != V) = false := by cases V <;> rfl
  have hVW : (V == V) = true := by cases V <;> rfl
  clear how hox hb3
  go_wp2_with fail
  obtain ⟨S3, hS3⟩ : ∃ S3, S3 = (w3.alloc (.cells #[.slice aw R.items.length cw, .int .i64 R.nxt, .int .i64 R.ack] 25)).alloc (.cells #[.int .i64 C.pos, .slice bw C.items.length dw] 29) := ⟨_, rfl⟩
  rw [← hS3]
  have HK3 : Hid (Below S2.heap.size S2 S3) := by show Below _ _ _; rw [hS3]; exact HA3.out _ _
  have HL3 : Hid (Below w3.heap.size w3 S3) := by show Below _ _ _; rw [hS3]; exact ((Below.refl _ _).alloc (Nat.le_refl _) _).alloc (by simp) _
  have HZ3 : Hid (S3.heap.size = w3.heap.size + 2) := by show _ = _; rw [hS3]; simp
  have hsw : StTf S3 w3.heap.size aw cw R ∧ StCk S3 (w3.heap.size + 1) bw dw C := by rw [hS3]; exact two_st
  have HSW : Hid (∀ w', Below S3.heap.size S3 w' → StTf w' w3.heap.size aw cw R ∧ StCk w' (w3.heap.size + 1) bw dw C) := fun w' hb => ⟨st_keep hsw.1 (hb.block _ (by have := HZ3.out; omega)), ck_keep hsw.2 (hb.block _ (by have := HZ3.out; omega))⟩
  have HT3 : Hid (∀ w', Below S3.heap.size S3 w' → Below S2.heap.size S2 w') := fun w' hb => HK3.out.trans (hb.mono HK3.out.size)
  have HT1 : Hid (∀ w', Below S3.heap.size S3 w' → Below S1.heap.size S1 w') := fun w' hb => HK2.out.trans ((HT3.out w' hb).mono HK2.out.size)
  have HE : Hid (∀ w', Below S3.heap.size S3 w' → Below w.heap.size w w') := fun w' hb => HB2.out.trans ((HT1.out w' hb).mono HB2.out.size)
  have HW3 : Hid (∀ w', Below S3.heap.size S3 w' → IntsAt w' aw R.items) := fun w' hb => (HW.out.keepB HL3.out (Nat.le_refl _)).keepB hb (Nat.le_refl _)
  have HX3 : Hid (∀ w', Below S3.heap.size S3 w' → IntsAt w' bw C.items) := fun w' hb => (HX.out.keepB HL3.out (Nat.le_refl _)).keepB hb (Nat.le_refl _)
  have HSC : Hid (∀ w', Below S3.heap.size S3 w' → Calls Try.prog 9 #[.agg #[.int .i64 C.pos, .slice bg C.items.length dg], .agg #[.int .i64 C.pos, .slice bw C.items.length dw]] w' fun e w'' => e = .returned (.bool true) ∧ Below w'.heap.size w' w'') := fun w' hb =>
    sameCk_any bg bw dg dw C w' (HH2.out w' (HT3.out w' hb)) (HX3.out w' hb) (by omega)
  have HST3 : Hid (∀ w', Below S3.heap.size S3 w' → Calls Try.prog 10 #[.agg #[.slice ag R.items.length cg, .int .i64 R.nxt, .int .i64 R.ack], .agg #[.slice aw R.items.length cw, .int .i64 R.nxt, .int .i64 R.ack]] w' fun e w'' => e = .returned (.bool true) ∧ Below w'.heap.size w' w'') := fun w' hb =>
    sameTf_any ag aw cg cw R w' (HG2.out w' (HT3.out w' hb)) (HW3.out w' hb) (by omega)
  clear hS3 hsw r0 r1
  refine (HSC.out S3 (Below.refl _ _)).mono ?_
  rintro e w4 ⟨rfl, hb4⟩
  have HB4 : Hid (Below S3.heap.size S3 w4) := hb4
  obtain ⟨x0, x1, x2⟩ := (HSG.out _ (HT3.out _ hb4)).1
  obtain ⟨y0, y1, y2⟩ := (HSW.out _ hb4).1
  clear hb4
  go_wp2_with fail
  refine (HST3.out w4 HB4.out).mono ?_
  rintro e w5 ⟨rfl, hb5⟩
  have HB5 := Lib.hid (HB4.out.trans (hb5.mono HB4.out.size))
  clear hb5 x0 x1 x2 y0 y1 y2
  cases V
  · clear HY2 hVV
    obtain ⟨c0, c1⟩ := (HSG.out _ (HT3.out _ HB5.out)).2
    obtain ⟨e0, e1⟩ := (HSW.out _ HB5.out).2
    go_wp2_with fail
    refine (HSC.out w5 HB5.out).mono ?_
    rintro e w8 ⟨rfl, hb8⟩
    have HB8 := Lib.hid (HB5.out.trans (hb8.mono HB5.out.size))
    clear hb8 c0 c1 e0 e1
    obtain ⟨x0, x1, x2⟩ := (HSG.out _ (HT3.out _ HB8.out)).1
    obtain ⟨y0, y1, y2⟩ := (HSW.out _ HB8.out).1
    go_wp2_with fail
    refine (HST3.out w8 HB8.out).mono ?_
    rintro e w9 ⟨rfl, hb9⟩
    have HB9 := Lib.hid (HB8.out.trans (hb9.mono HB8.out.size))
    clear hb9 x0 x1 x2 y0 y1 y2
    go_wp2
    go_ret
    exact ⟨rfl, HE.out _ HB9.out⟩
  · obtain ⟨hle, s1, htv⟩ := HY2.out rfl
    have HTV := Lib.hid htv
    obtain ⟨x0, x1, x2⟩ := (HSG.out _ (HT3.out _ HB5.out)).1
    clear htv HY2
    go_wp2_with fail
    refine (ptv_as true ag cg R w5 (HG2.out _ (HT3.out _ HB5.out)) (by unfold maxLen; omega) HTV.out).mono ?_
    rintro e w6 ⟨rfl, hb6⟩
    have HB6 := Lib.hid (HB5.out.trans (hb6.mono HB5.out.size))
    clear hb6 x0 x1 x2
    go_wp2
    go_ret
    exact ⟨rfl, HE.out _ HB6.out⟩

set_option maxHeartbeats 4000000 in
theorem transferNothing (s : Option Addr) (len cap : Nat) (z : List Int) (w : World) (h : RowIn .u8 w s len cap z) :
    Calls Try.prog 5 #[.slice s len cap] w fun e w' => e = .returned (.bool true) ∧ Below w.heap.size w w' := by
  have hb := bytes_of_row h
  have hm : len ≤ maxLen := Nat.le_trans hb.1 hb.2.1
  unfold maxLen at hm
  clear h
  by_cases hl : 1048576 < len
  · go_enter Try.func5, Try.ntmps5
    go_wp2
    go_ret
    exact ⟨rfl, Below.refl _ _⟩
  have HY := Lib.hid hb
  clear hb
  go_enter Try.func5, Try.ntmps5
  go_wp2_with fail
  refine (drawTransferSend s len cap w HY.out).mono ?_
  rintro e w1 ⟨a, ca, t, v, rfl, hi, hzl, hzc, hn, hk, hb1⟩
  have hmx : t.items.length ≤ maxLen := by unfold maxLen; omega
  have HMX := Lib.hid hmx
  have HCA := Lib.hid hzc
  have HB1 := Lib.hid hb1
  have HI1 := Lib.hid hi.ints
  clear hi hb1 hmx hn hk hzc
  obtain ⟨R, hR⟩ : ∃ R, R = sendT t v := ⟨_, rfl⟩
  obtain ⟨C, hC⟩ : ∃ C, C = sendC t v := ⟨_, rfl⟩
  obtain ⟨V, hV⟩ : ∃ V, V = sendB t v := ⟨_, rfl⟩
  have hRl : R.items.length ≤ 20 := by rw [hR]; exact sendT_len t v
  have hCl : C.items.length ≤ 4 := by rw [hC]; exact sendC_len t v
  have HP : Hid (∀ w, IntsAt w a t.items → Calls Try.prog 7 #[.agg #[.slice a t.items.length ca, .int .i64 t.nxt, .int .i64 t.ack], .int .i64 v] w (NewTfC R C V w)) := fun w h => by rw [hR, hC, hV]; exact psend_any a ca t v w h HMX.out HCA.out
  have HQ : Hid (∀ w, IntsAt w a t.items → Calls Try.prog 8 #[.agg #[.slice a t.items.length ca, .int .i64 t.nxt, .int .i64 t.ack], .int .i64 v] w (NewTfC R C V w)) := fun w h => by rw [hR, hC, hV]; exact ssend_any a ca t v w h HMX.out HCA.out
  have HY2 : Hid (tfB t = true → 0 ≤ v → v ≤ 20 → (V = false ∧ R = t ∧ (t.nxt = t.items.length ∨ (¬ t.nxt = t.items.length ∧ v ≤ t.nxt - t.ack ∧ IntKind.i64.wrap (t.nxt - t.ack) = t.nxt - t.ack))) ∨ (V = true ∧ ¬ t.nxt = t.items.length ∧ ¬ v ≤ t.nxt - t.ack ∧ IntKind.i64.wrap (t.nxt - t.ack) = t.nxt - t.ack)) := fun h h0 h1 => by
    obtain ⟨i1, ⟨i2, i3⟩, i4, i5⟩ := (tfB_iff t).1 h
    have hs : sendB t v = decide (t.nxt < endI t v) := by
      unfold sendB askB
      rw [h, (inB_iff v 0 20).2 ⟨h0, h1⟩]; rfl
    have hw : IntKind.i64.wrap (t.nxt - t.ack) = t.nxt - t.ack := by rw [IntKind.wrap_i64]; omega
    cases hb : sendB t v
    · have h3 := (send_none h ⟨h0, h1⟩ hb).1
      rw [hb] at hs
      have h4 := of_decide_eq_false hs.symm
      unfold endI at h4
      refine .inl ⟨hV.trans hb, hR.trans h3, ?_⟩
      rcases Int.lt_or_le t.nxt t.items.length with h5 | h5
      · exact .inr ⟨by omega, by omega, hw⟩
      · exact .inl (by omega)
    · rw [hb] at hs
      have h4 := of_decide_eq_true hs.symm
      unfold endI at h4
      exact .inr ⟨hV.trans hb, by omega, by omega, hw⟩
  clear hR hC hV
  go_wp2_with fail
  obtain ⟨S1, hS1⟩ : ∃ S1, S1 = w1.alloc (.cells #[.slice a t.items.length ca, .int .i64 t.nxt, .int .i64 t.ack] 25) := ⟨_, rfl⟩
  rw [← hS1]
  have HA1 : Hid (Below w1.heap.size w1 S1) := by show Below _ _ _; rw [hS1]; exact (Below.refl _ _).alloc (Nat.le_refl _) _
  have HB2 : Hid (Below w.heap.size w S1) := HB1.out.trans (HA1.out.mono HB1.out.size)
  have hst : StTf S1 w1.heap.size a ca t := by rw [hS1]; exact st_new
  have HZ1 : Hid (w1.heap.size < S1.heap.size) := by show _ < _; rw [hS1]; simp
  have HST : Hid (∀ w', Below S1.heap.size S1 w' → StTf w' w1.heap.size a ca t) := fun w' hb => st_keep hst (hb.block _ HZ1.out)
  have HI2 : Hid (∀ w', Below S1.heap.size S1 w' → IntsAt w' a t.items) := fun w' hb => (HI1.out.keepB HA1.out (Nat.le_refl _)).keepB hb (Nat.le_refl _)
  clear hS1 hst
  refine (HP.out S1 (HI2.out _ (Below.refl _ _))).mono ?_
  rintro e w2 ⟨ag, cg, bg, dg, rfl, hog, hoh, _, hb2⟩
  have HG := Lib.hid (own_ints hog)
  have HH := Lib.hid (own_ints hoh)
  have HB3 := Lib.hid hb2
  have HA2 : Hid (∀ o p, Below S1.heap.size S1 ((w2.alloc o).alloc p)) := fun o p => (hb2.alloc hb2.size o).alloc (hb2.alloc hb2.size o).size p
  have r0 : ∀ o p, ((w2.alloc o).alloc p).cell? ⟨w1.heap.size, 0, none⟩ = some (.slice a t.items.length ca) := fun o p => (HST.out _ (HA2.out o p)).1
  have r1 : ∀ o p, ((w2.alloc o).alloc p).cell? ⟨w1.heap.size, 1, none⟩ = some (.int .i64 t.nxt) := fun o p => (HST.out _ (HA2.out o p)).2.1
  have r2 : ∀ o p, ((w2.alloc o).alloc p).cell? ⟨w1.heap.size, 2, none⟩ = some (.int .i64 t.ack) := fun o p => (HST.out _ (HA2.out o p)).2.2
  clear hog hoh hb2
  go_wp2_with fail
  obtain ⟨S2, hS2⟩ : ∃ S2, S2 = (w2.alloc (.cells #[.slice ag R.items.length cg, .int .i64 R.nxt, .int .i64 R.ack] 25)).alloc (.cells #[.int .i64 C.pos, .slice bg C.items.length dg] 29) := ⟨_, rfl⟩
  rw [← hS2]
  have HK2 : Hid (Below S1.heap.size S1 S2) := by show Below _ _ _; rw [hS2]; exact HA2.out _ _
  have HL2 : Hid (Below w2.heap.size w2 S2) := by show Below _ _ _; rw [hS2]; exact ((Below.refl _ _).alloc (Nat.le_refl _) _).alloc (by simp) _
  have HZ2 : Hid (S2.heap.size = w2.heap.size + 2) := by show _ = _; rw [hS2]; simp
  have hsg : StTf S2 w2.heap.size ag cg R ∧ StCk S2 (w2.heap.size + 1) bg dg C := by rw [hS2]; exact two_st
  have HSG : Hid (∀ w', Below S2.heap.size S2 w' → StTf w' w2.heap.size ag cg R ∧ StCk w' (w2.heap.size + 1) bg dg C) := fun w' hb => ⟨st_keep hsg.1 (hb.block _ (by have := HZ2.out; omega)), ck_keep hsg.2 (hb.block _ (by have := HZ2.out; omega))⟩
  have HG2 : Hid (∀ w', Below S2.heap.size S2 w' → IntsAt w' ag R.items) := fun w' hb => (HG.out.keepB HL2.out (Nat.le_refl _)).keepB hb (Nat.le_refl _)
  have HH2 : Hid (∀ w', Below S2.heap.size S2 w' → IntsAt w' bg C.items) := fun w' hb => (HH.out.keepB HL2.out (Nat.le_refl _)).keepB hb (Nat.le_refl _)
  clear hS2 hsg r0 r1 r2
  refine (HQ.out S2 (HI2.out _ HK2.out)).mono ?_
  rintro e w3 ⟨aw, cw, bw, dw, rfl, how, hox, _, hb3⟩
  have HW := Lib.hid (own_ints how)
  have HX := Lib.hid (own_ints hox)
  have HA3 : Hid (∀ o p, Below S2.heap.size S2 ((w3.alloc o).alloc p)) := fun o p => (hb3.alloc hb3.size o).alloc (hb3.alloc hb3.size o).size p
  have r0 : ∀ o p, ((w3.alloc o).alloc p).cell? ⟨w2.heap.size + 1, 0, none⟩ = some (.int .i64 C.pos) := fun o p => (HSG.out _ (HA3.out o p)).2.1
  have r1 : ∀ o p, ((w3.alloc o).alloc p).cell? ⟨w2.heap.size + 1, 1, none⟩ = some (.slice bg C.items.length dg) := fun o p => (HSG.out _ (HA3.out o p)).2.2
  have hVV : (V != V) = false := by cases V <;> rfl
  have hVW : (V == V) = true := by cases V <;> rfl
  clear how hox hb3
  go_wp2_with fail
  obtain ⟨S3, hS3⟩ : ∃ S3, S3 = (w3.alloc (.cells #[.slice aw R.items.length cw, .int .i64 R.nxt, .int .i64 R.ack] 25)).alloc (.cells #[.int .i64 C.pos, .slice bw C.items.length dw] 29) := ⟨_, rfl⟩
  rw [← hS3]
  have HK3 : Hid (Below S2.heap.size S2 S3) := by show Below _ _ _; rw [hS3]; exact HA3.out _ _
  have HL3 : Hid (Below w3.heap.size w3 S3) := by show Below _ _ _; rw [hS3]; exact ((Below.refl _ _).alloc (Nat.le_refl _) _).alloc (by simp) _
  have HZ3 : Hid (S3.heap.size = w3.heap.size + 2) := by show _ = _; rw [hS3]; simp
  have hsw : StTf S3 w3.heap.size aw cw R ∧ StCk S3 (w3.heap.size + 1) bw dw C := by rw [hS3]; exact two_st
  have HSW : Hid (∀ w', Below S3.heap.size S3 w' → StTf w' w3.heap.size aw cw R ∧ StCk w' (w3.heap.size + 1) bw dw C) := fun w' hb => ⟨st_keep hsw.1 (hb.block _ (by have := HZ3.out; omega)), ck_keep hsw.2 (hb.block _ (by have := HZ3.out; omega))⟩
  have HT3 : Hid (∀ w', Below S3.heap.size S3 w' → Below S2.heap.size S2 w') := fun w' hb => HK3.out.trans (hb.mono HK3.out.size)
  have HT1 : Hid (∀ w', Below S3.heap.size S3 w' → Below S1.heap.size S1 w') := fun w' hb => HK2.out.trans ((HT3.out w' hb).mono HK2.out.size)
  have HE : Hid (∀ w', Below S3.heap.size S3 w' → Below w.heap.size w w') := fun w' hb => HB2.out.trans ((HT1.out w' hb).mono HB2.out.size)
  have HW3 : Hid (∀ w', Below S3.heap.size S3 w' → IntsAt w' aw R.items) := fun w' hb => (HW.out.keepB HL3.out (Nat.le_refl _)).keepB hb (Nat.le_refl _)
  have HX3 : Hid (∀ w', Below S3.heap.size S3 w' → IntsAt w' bw C.items) := fun w' hb => (HX.out.keepB HL3.out (Nat.le_refl _)).keepB hb (Nat.le_refl _)
  have HSC : Hid (∀ w', Below S3.heap.size S3 w' → Calls Try.prog 9 #[.agg #[.int .i64 C.pos, .slice bg C.items.length dg], .agg #[.int .i64 C.pos, .slice bw C.items.length dw]] w' fun e w'' => e = .returned (.bool true) ∧ Below w'.heap.size w' w'') := fun w' hb =>
    sameCk_any bg bw dg dw C w' (HH2.out w' (HT3.out w' hb)) (HX3.out w' hb) (by omega)
  have HST3 : Hid (∀ w', Below S3.heap.size S3 w' → Calls Try.prog 10 #[.agg #[.slice ag R.items.length cg, .int .i64 R.nxt, .int .i64 R.ack], .agg #[.slice aw R.items.length cw, .int .i64 R.nxt, .int .i64 R.ack]] w' fun e w'' => e = .returned (.bool true) ∧ Below w'.heap.size w' w'') := fun w' hb =>
    sameTf_any ag aw cg cw R w' (HG2.out w' (HT3.out w' hb)) (HW3.out w' hb) (by omega)
  clear hS3 hsw r0 r1
  refine (HSC.out S3 (Below.refl _ _)).mono ?_
  rintro e w4 ⟨rfl, hb4⟩
  have HB4 : Hid (Below S3.heap.size S3 w4) := hb4
  obtain ⟨x0, x1, x2⟩ := (HSG.out _ (HT3.out _ hb4)).1
  obtain ⟨y0, y1, y2⟩ := (HSW.out _ hb4).1
  clear hb4
  go_wp2_with fail
  refine (HST3.out w4 HB4.out).mono ?_
  rintro e w5 ⟨rfl, hb5⟩
  have HB5 := Lib.hid (HB4.out.trans (hb5.mono HB4.out.size))
  clear hb5 x0 x1 x2 y0 y1 y2
  have HTI : Hid (∀ w', Below S3.heap.size S3 w' → IntsAt w' a t.items) := fun w' hb => HI2.out w' (HT1.out w' hb)
  obtain ⟨k0, k1, k2⟩ := HST.out _ (HT1.out _ HB5.out)
  rcases (show tfB t = false ∨ (tfB t = true ∧ v < 0) ∨ (tfB t = true ∧ 0 ≤ v ∧ 20 < v) ∨ (tfB t = true ∧ 0 ≤ v ∧ v ≤ 20) by
    cases tfB t
    · exact .inl rfl
    · simp; omega) with hv | ⟨hv, hn⟩ | ⟨hv, hn0, hn⟩ | ⟨hv, hn0, hn⟩
  · have HV := Lib.hid hv
    clear hv HY2
    go_wp2_with fail
    refine (stv_as false a ca t w5 (HTI.out w5 HB5.out) HMX.out HV.out).mono ?_
    rintro e w6 ⟨rfl, hb6⟩
    have HB6 := Lib.hid (HB5.out.trans (hb6.mono HB5.out.size))
    clear hb6 k0 k1 k2 hVV
    obtain ⟨c0, c1⟩ := (HSG.out _ (HT3.out _ HB6.out)).2
    obtain ⟨e0, e1⟩ := (HSW.out _ HB6.out).2
    go_wp2_with fail
    refine (HSC.out w6 HB6.out).mono ?_
    rintro e w8 ⟨rfl, hb8⟩
    have HB8 := Lib.hid (HB6.out.trans (hb8.mono HB6.out.size))
    clear hb8 c0 c1 e0 e1
    obtain ⟨x0, x1, x2⟩ := (HSG.out _ (HT3.out _ HB8.out)).1
    obtain ⟨y0, y1, y2⟩ := (HSW.out _ HB8.out).1
    go_wp2_with fail
    refine (HST3.out w8 HB8.out).mono ?_
    rintro e w9 ⟨rfl, hb9⟩
    have HB9 := Lib.hid (HB8.out.trans (hb9.mono HB8.out.size))
    clear hb9 x0 x1 x2 y0 y1 y2
    go_wp2
    go_ret
    exact ⟨rfl, HE.out _ HB9.out⟩
  · have HV := Lib.hid hv
    clear hv HY2
    go_wp2_with fail
    refine (stv_as true a ca t w5 (HTI.out w5 HB5.out) HMX.out HV.out).mono ?_
    rintro e w6 ⟨rfl, hb6⟩
    have HB6 := Lib.hid (HB5.out.trans (hb6.mono HB5.out.size))
    clear hb6 k0 k1 k2 hVV
    obtain ⟨c0, c1⟩ := (HSG.out _ (HT3.out _ HB6.out)).2
    obtain ⟨e0, e1⟩ := (HSW.out _ HB6.out).2
    go_wp2_with fail
    refine (HSC.out w6 HB6.out).mono ?_
    rintro e w8 ⟨rfl, hb8⟩
    have HB8 := Lib.hid (HB6.out.trans (hb8.mono HB6.out.size))
    clear hb8 c0 c1 e0 e1
    obtain ⟨x0, x1, x2⟩ := (HSG.out _ (HT3.out _ HB8.out)).1
    obtain ⟨y0, y1, y2⟩ := (HSW.out _ HB8.out).1
    go_wp2_with fail
    refine (HST3.out w8 HB8.out).mono ?_
    rintro e w9 ⟨rfl, hb9⟩
    have HB9 := Lib.hid (HB8.out.trans (hb9.mono HB8.out.size))
    clear hb9 x0 x1 x2 y0 y1 y2
    go_wp2
    go_ret
    exact ⟨rfl, HE.out _ HB9.out⟩
  · have HV := Lib.hid hv
    clear hv HY2
    have hn0' : ¬ v < 0 := by omega
    go_wp2_with fail
    refine (stv_as true a ca t w5 (HTI.out w5 HB5.out) HMX.out HV.out).mono ?_
    rintro e w6 ⟨rfl, hb6⟩
    have HB6 := Lib.hid (HB5.out.trans (hb6.mono HB5.out.size))
    clear hb6 k0 k1 k2 hVV
    obtain ⟨c0, c1⟩ := (HSG.out _ (HT3.out _ HB6.out)).2
    obtain ⟨e0, e1⟩ := (HSW.out _ HB6.out).2
    go_wp2_with fail
    refine (HSC.out w6 HB6.out).mono ?_
    rintro e w8 ⟨rfl, hb8⟩
    have HB8 := Lib.hid (HB6.out.trans (hb8.mono HB6.out.size))
    clear hb8 c0 c1 e0 e1
    obtain ⟨x0, x1, x2⟩ := (HSG.out _ (HT3.out _ HB8.out)).1
    obtain ⟨y0, y1, y2⟩ := (HSW.out _ HB8.out).1
    go_wp2_with fail
    refine (HST3.out w8 HB8.out).mono ?_
    rintro e w9 ⟨rfl, hb9⟩
    have HB9 := Lib.hid (HB8.out.trans (hb9.mono HB8.out.size))
    clear hb9 x0 x1 x2 y0 y1 y2
    go_wp2
    go_ret
    exact ⟨rfl, HE.out _ HB9.out⟩
  · have HY3 := Lib.hid (HY2.out hv hn0 hn)
    have HV := Lib.hid hv
    have hn0' : ¬ v < 0 := by omega
    have hn' : ¬ 20 < v := by omega
    clear hv HY2
    go_wp2_with fail
    refine (stv_as true a ca t w5 (HTI.out w5 HB5.out) HMX.out HV.out).mono ?_
    rintro e w6 ⟨rfl, hb6⟩
    have HB6 := Lib.hid (HB5.out.trans (hb6.mono HB5.out.size))
    clear hb6 k0 k1 k2 hVV
    obtain ⟨k0, k1, k2⟩ := HST.out _ (HT1.out _ HB6.out)
    obtain ⟨x0, x1, x2⟩ := (HSG.out _ (HT3.out _ HB6.out)).1
    rcases HY3.out with ⟨rfl, hRt, hq⟩ | ⟨rfl, hq1, hq2, s1⟩
    · have HSZ : Hid (∀ w', Below S3.heap.size S3 w' → Calls Try.prog 10 #[.agg #[.slice ag R.items.length cg, .int .i64 R.nxt, .int .i64 R.ack], .agg #[.slice a t.items.length ca, .int .i64 t.nxt, .int .i64 t.ack]] w' fun e w'' => e = .returned (.bool true) ∧ Below w'.heap.size w' w'') := fun w' hb => by
        have h := HG2.out w' (HT3.out w' hb)
        rw [hRt] at h ⊢
        exact sameTf_any ag a cg ca t w' h (HTI.out w' hb) (by omega)
      clear hRt HY3
      rcases hq with hq | ⟨hq1, hq2, s1⟩
      · have hq' : (t.nxt == (t.items.length : Int)) = true := by rw [hq]; simp
        clear hq
        go_wp2_with fail
        refine (HSZ.out w6 HB6.out).mono ?_
        rintro e w7 ⟨rfl, hb7⟩
        have HB7 := Lib.hid (HB6.out.trans (hb7.mono HB6.out.size))
        clear hb7 x0 x1 x2 k0 k1 k2
        go_wp2
        go_ret
        exact ⟨rfl, HE.out _ HB7.out⟩
      · have hq' : (t.nxt == (t.items.length : Int)) = false := by rw [beq_eq_false_iff_ne]; exact hq1
        clear hq1
        go_wp2_with fail
        refine (HSZ.out w6 HB6.out).mono ?_
        rintro e w7 ⟨rfl, hb7⟩
        have HB7 := Lib.hid (HB6.out.trans (hb7.mono HB6.out.size))
        clear hb7 x0 x1 x2 k0 k1 k2
        go_wp2
        go_ret
        exact ⟨rfl, HE.out _ HB7.out⟩
    · have hq' : (t.nxt == (t.items.length : Int)) = false := by rw [beq_eq_false_iff_ne]; exact hq1
      clear hq1 HY3
      go_wp2
      go_ret
      exact ⟨by show Ending.returned (.bool (!decide (v ≤ t.nxt - t.ack))) = _; rw [decide_eq_false (by omega)]; rfl, HE.out _ HB6.out⟩
end Go.Proofs.Ytoiecicfmnpnoaa
