/- What the program's functions of chapter 23 answer: storing. -/
import Derived.Test.YtdlapnelehehgabCaP
namespace Go.Proofs.Ytdlapnelehehgab
open Go.RowKit
set_option linter.unusedVariables false
attribute [local go_sem ↓] Go.wp_at_zero Go.wp_at_succ

theorem putOk_lz (L : List Ls) (key v now : Int) : putOk L key v now = (lvB L && lzB ⟨key, v, now⟩) := by
  unfold putOk lzB; cases lvB L <;> simp
/-- append of one entry onto nil -/
theorem run_appNil (W : World) (vb : Nat) (x : Ls) (h : W.heap[vb]? = some (.cells #[.int .i64 x.e, .int .i64 x.o, .int .i64 x.u] 38 (0, 0))) :
    ∃ g c W', (∀ ty, (Builtin.append_ #[24, 24] ty #[.slice none 0 0, .slice (some ⟨vb, 0, none⟩) 1 1]).run Try.prog W = .ok (.slice (some ⟨g, 0, none⟩) 1 c) W') ∧ OwnS W' W.heap.size g c [x] ∧ Below W.heap.size W W' := by
  obtain ⟨i0, hi0, hz0, hz1, hz2⟩ := info_parts Try.infoEntry
  have hown : W.ownsRow W.heap.size 38 3 (.slice none 0 0) 0 (flat []) := ⟨rfl, .inl ⟨rfl, rfl⟩⟩
  obtain ⟨v', w', hrun, ho1, hg1, hnone, hat⟩ := run_append_own_at (P := Try.prog) W W.heap.size 24 24 38 i0 _ 3 24 Try.underlying24 hi0 hz0 hz1 hz2 rfl (by omega) _ 0 (flat []) hown ⟨vb, 0, none⟩ 1 1 (flat [x]) (flat_len [x]) (srcL_one h) (flat_one [x]) (by unfold maxLen; omega) (by omega) (Nat.le_refl _)
  have hv : ∃ g c, v' = .slice (some ⟨g, 0, none⟩) 1 c := by
    rcases ho1.2 with ⟨hn, h0⟩ | ⟨g', cap', _, hv, _⟩
    · omega
    · exact ⟨g', cap', hv⟩
  obtain ⟨g, c, rfl⟩ := hv
  refine ⟨g, c, w', fun ty => hrun, ?_, ⟨hg1.os, hg1.tape, hg1.output, hg1.size, fun k hk => hg1.block k hk (by simp [Value.ownBlock])⟩⟩
  exact ho1

set_option maxRecDepth 20000 in
set_option maxHeartbeats 2000000 in
theorem insN_any (base c i n vb : Nat) (a : Option Addr) (L : List Ls) (x : Ls) (w : World) (h : OwnN w base a c L) (hn : L.length = n) (hV : w.heap[vb]? = some (.cells #[.int .i64 x.e, .int .i64 x.o, .int .i64 x.u] 38 (0, 0))) (hvb : ∀ g, a = some ⟨g, 0, none⟩ → vb ≠ g) (hbase : base ≤ w.heap.size) (hl : n ≤ 12) (hi : i ≤ n) :
    Calls Try.prog 27 #[.slice a n c, .int .i64 i, .slice (some ⟨vb, 0, none⟩) 1 1] w fun e w' => ∃ g' c', e = .returned (.slice (some ⟨g', 0, none⟩) (insL L i x).length c') ∧ OwnS w' base g' c' (insL L i x) ∧ Below base w w' := by
  subst hn
  rcases h with ⟨rfl, rfl, rfl⟩ | ⟨b, rfl, h⟩
  · obtain rfl : i = 0 := by simpa using hi
    obtain ⟨g, c, W', hr, ho, hb⟩ := run_appNil w vb x hV
    have HR := Lib.hid hr
    have HO : Hid (OwnS W' base g c [x]) := ho.less hbase
    have HB : Hid (Below base w W') := hb.mono hbase
    clear hr ho hb hV hvb
    go_enter Try.func27, Try.ntmps27
    go_wp2_with (at_builtin; refine Lib.wpList_append_run w (by rfl) _ _ 24 24 (by rfl) (.slice none 0 0) (.slice (some ⟨vb, 0, none⟩) 1 1) (by rfl) (by rfl) _ _ (HR.out _) ?_)
    all_goals
      go_ret
      exact ⟨g, c, rfl, HO.out, HB.out⟩
  · have hb := h.blk.1
    refine (insertL_any base b c i vb L x w h hV (hvb b rfl) hbase hl hi).mono ?_
    rintro e w' ⟨g, c', he, ho, hg⟩
    exact ⟨g, c', he, ho, (Below.refl base w).grown hg hbase (fun k hk => by injection hk with hk; omega)⟩

set_option maxRecDepth 20000 in
set_option maxHeartbeats 4000000 in
theorem putN_any (a : Option Addr) (len cap : Nat) (L : List Ls) (key v now : Int) (w : World) (h : LsAt w a L) (hz : L.length = len) (hm : len ≤ maxLen) :
    Calls Try.prog 9 #[.slice a len cap, .int .i64 key, .int .i64 v, .int .i64 now] w (AnsN (putR L key v now) w) := by
  have HZ := Lib.hid hz
  have HM := Lib.hid hm
  obtain ⟨W, hW⟩ : ∃ W, W = w.alloc (.cells #[.int .i64 key, .int .i64 v, .int .i64 now] 38) := ⟨_, rfl⟩
  have hWb : Below w.heap.size w W := by rw [hW]; exact alB _ _
  have HWS : Hid (w.heap.size < W.heap.size) := by show _ < _; rw [hW]; simp
  have HT : Hid (W.heap[w.heap.size]? = some (.cells #[.int .i64 key, .int .i64 v, .int .i64 now] 38 (0, 0))) := by show _ = _; rw [hW]; exact heap_alloc_new w _
  have HI := Lib.hid (h.keepB hWb (Nat.le_refl _))
  have HW := Lib.hid hW
  have HWB := Lib.hid hWb
  clear h hz hm hW hWb
  cases hv : lvB L
  · have HR : Hid (putR L key v now = ([], false)) := put_bad (by rw [putOk_lz]; simp [hv])
    go_enter Try.func9, Try.ntmps9
    go_wp2_with fail
    rw [← HW.out]
    refine (pvld_as false a len cap L W HI.out HZ.out HM.out hv).mono ?_
    rintro e w2 ⟨rfl, hb2⟩
    have hB2 : Below w.heap.size w w2 := HWB.out.trans (hb2.mono HWB.out.size)
    go_wp2
    go_ret2
    rw [HR.out]
    exact ansN_empty hB2
  have HV := Lib.hid hv
  cases hlz : lzB ⟨key, v, now⟩
  · have HR : Hid (putR L key v now = ([], false)) := put_bad (by rw [putOk_lz]; simp [hv, hlz])
    have HLZ := Lib.hid hlz
    clear hv hlz
    go_enter Try.func9, Try.ntmps9
    go_wp2_with fail
    rw [← HW.out]
    refine (pvld_as true a len cap L W HI.out HZ.out HM.out HV.out).mono ?_
    rintro e w2 ⟨rfl, hb2⟩
    obtain ⟨d0, d1, d2⟩ := box3 HT.out hb2
    go_wp2_with fail
    refine (pentry_as false ⟨key, v, now⟩ w2 HLZ.out).mono ?_
    rintro e w3 ⟨rfl, hb3⟩
    have hbW : Below W.heap.size W w3 := hb2.trans (hb3.mono hb2.size)
    have hB3 : Below w.heap.size w w3 := HWB.out.trans (hbW.mono HWB.out.size)
    clear d0 d1 d2 hb2 hb3
    go_wp2
    go_ret2
    rw [HR.out]
    exact ansN_empty hB3
  have HLZ := Lib.hid hlz
  have HOK : Hid (putOk L key v now = true) := by show _ = _; rw [putOk_lz, hv, hlz]; rfl
  have HRR : Hid (putR L key v now = (insL (roomL L key) (fdL (roomL L key) key) ⟨key, v, now⟩, true)) := put_ok HOK.out
  have HDK : Hid (dropOk L key = true) := by
    have h1 := ((lzB_iff _).1 hlz).1
    exact (dropOk_iff _ _).2 ⟨hv, h1⟩
  have HRM := Lib.hid (room_lv hv key)
  have HRL := Lib.hid (room_len hv key)
  have hl6 := lv_len hv
  rw [HZ.out] at hl6
  obtain ⟨M, hM⟩ : ∃ M, M = roomL L key := ⟨_, rfl⟩
  obtain ⟨k, hk⟩ : ∃ k, k = fdL M key := ⟨_, rfl⟩
  rw [← hM] at HRR HRM HRL
  rw [← hk] at HRR
  have hkM : k ≤ M.length := by rw [hk]; exact fd_le _ _
  obtain ⟨n, hn⟩ : ∃ n, M.length = n := ⟨_, rfl⟩
  have HN := Lib.hid hn
  have hn5 : n ≤ 5 := by have := HRL.out; omega
  rw [hn] at hkM
  have k0 : (0 : Int) ≤ (k : Int) := by omega
  have k1 : (k : Int) ≤ (n : Int) := by omega
  have HMM := Lib.hid hM
  have HKK := Lib.hid hk
  clear hM hk hn hlz
  cases hth : thB L key
  · by_cases h6 : len = 6
    · subst h6
      have HD : Hid (dropR L key = (L, false)) := by show _ = _; rw [dropR_th HDK.out, drop_nth hv hth, hth]
      have hro := room_old hv hth HZ.out
      obtain ⟨ok, hok⟩ : ∃ ok, ok = (gl L (oldL L)).e := ⟨_, rfl⟩
      rw [← hok] at hro
      have hol : oldL L < L.length := old_lt (by rw [HZ.out]; omega)
      have hop := lv_e hv hol
      rw [← hok] at hop
      have HD2 : Hid (dropR L ok = (M, decide (M.length < L.length))) := by show _ = _; rw [dropR_ok ((dropOk_iff _ _).2 ⟨hv, hop⟩), HMM.out, hro]
      have HOKK := Lib.hid hok
      have L6 : L.length = 6 := HZ.out
      have HL6 := Lib.hid L6
      clear hth hro hok hol hop hv L6
      go_enter Try.func9, Try.ntmps9
      go_wp2_with fail
      rw [← HW.out]
      refine (pvld_as true a 6 cap L W HI.out HZ.out HM.out HV.out).mono ?_
      rintro e w2 ⟨rfl, hb2⟩
      obtain ⟨d0, d1, d2⟩ := box3 HT.out hb2
      go_wp2_with fail
      refine (pentry_as true ⟨key, v, now⟩ w2 HLZ.out).mono ?_
      rintro e w3 ⟨rfl, hb3⟩
      have hbW : Below W.heap.size W w3 := hb2.trans (hb3.mono hb2.size)
      have hB3 : Below w.heap.size w w3 := HWB.out.trans (hbW.mono HWB.out.size)
      clear d0 d1 d2 hb2 hb3
      go_wp2_with fail
      refine (pdropN_as (L, false) a 6 cap L key w3 (HI.out.keepB hbW (Nat.le_refl _)) HZ.out HM.out HD.out).mono ?_
      rintro e w4 ⟨a4, c4, rfl, ho4, hb4⟩
      have HO4 := Lib.hid (ho4.less hB3.size)
      have hbW4 : Below W.heap.size W w4 := hbW.trans (hb4.mono hbW.size)
      have hB4 : Below w.heap.size w w4 := HWB.out.trans (hbW4.mono HWB.out.size)
      rw [show ((L, false) : List Ls × Bool).1.length = 6 from HL6.out]
      clear hb4 ho4
      go_wp2_with fail
      refine (exp_any a 6 cap L w4 (HI.out.keepB hbW4 (Nat.le_refl _)) HZ.out (by omega)).mono ?_
      rintro e w4b ⟨g8, c8, L8, rfl, ho8, hl8, hi8, hp8, hb8⟩
      have hcell := (ho8.cells (i := 0) (by omega)).1
      rw [heap_old HV.out (by omega) hi8 (by have e8 := toL_all L8; rw [hl8] at e8; rw [e8]; exact hp8), ← HOKK.out, Nat.zero_mul] at hcell
      have hbW4b : Below W.heap.size W w4b := hbW4.trans (hb8.mono hbW4.size)
      have hB4b : Below w.heap.size w w4b := HWB.out.trans (hbW4b.mono HWB.out.size)
      clear ho8 hl8 hi8 hp8 hb8 hbW4
      go_wp2_with fail
      refine (pdropN_as (M, decide (M.length < L.length)) a 6 cap L ok w4b (HI.out.keepB hbW4b (Nat.le_refl _)) HZ.out HM.out HD2.out).mono ?_
      rintro e w5 ⟨a5, c5, rfl, ho5, hb5⟩
      rw [show ((M, decide (M.length < L.length)) : List Ls × Bool).1.length = n from HN.out]
      have HO5 := Lib.hid (ho5.less hB4b.size)
      have hbW5 : Below W.heap.size W w5 := hbW4b.trans (hb5.mono hbW4b.size)
      clear ho5 hb5 hcell hbW4b
      go_wp2_with fail
      refine (find_as k _ a5 n c5 M key w5 HO5.out.ls HN.out HRM.out HKK.out.symm rfl).mono ?_
      rintro e w6 ⟨rfl, hb6⟩
      have hbW6 : Below W.heap.size W w6 := hbW5.trans (hb6.mono hbW5.size)
      have hB6 : Below w.heap.size w w6 := HWB.out.trans (hbW6.mono HWB.out.size)
      have HO6 := Lib.hid (HO5.out.keepB hb6 (Nat.le_refl _))
      have HX6 : Hid (∀ o : Obj, OwnN (w6.alloc o) w.heap.size a5 c5 M) := fun o => HO6.out.keepB (alB w6 o) (Nat.le_refl _)
      have HNE : Hid (∀ g, a5 = some ⟨g, 0, none⟩ → w6.heap.size ≠ g) := fun g hg => by
        rcases HO6.out with ⟨h1, _⟩ | ⟨g2, h1, h2⟩
        · rw [h1] at hg; cases hg
        · have := h2.blk.2.1
          rw [h1] at hg; injection hg with hg; injection hg with hg; omega
      obtain ⟨d0, d1, d2⟩ := box3 HT.out hbW6
      have hws := hB6.size
      clear hb6 hbW5
      go_wp2_with fail
      refine (insN_any w.heap.size c5 k n w6.heap.size a5 M ⟨key, v, now⟩ _ (HX6.out _) HN.out (heap_alloc_new w6 _) HNE.out (by simp; omega) (by omega) (by omega)).mono ?_
      rintro e w7 ⟨g7, c7, rfl, ho7, hb7⟩
      have HA : Hid (AnsN (insL M k ⟨key, v, now⟩, true) w (.returned (.tuple #[.slice (some ⟨g7, 0, none⟩) (insL M k ⟨key, v, now⟩).length c7, .bool true])) w7) := ⟨_, c7, rfl, .inr ⟨g7, rfl, ho7⟩, (hB6.trans ((alB w6 _).mono hB6.size)).trans hb7⟩
      clear ho7 hb7 d0 d1 d2
      go_wp2
      go_ret2
      rw [HRR.out]
      exact HA.out
    · have hro := room_ok (key := key) hv (.inr (by rw [HZ.out]; exact h6))
      have hd := drop_nth hv hth
      have HD : Hid (dropR L key = (M, false)) := by show _ = _; rw [dropR_th HDK.out, hth, HMM.out, hro]
      have q6 : ((len : Int) == 6) = false := by rw [beq_eq_false_iff_ne]; omega
      clear hth hro hd hv
      go_enter Try.func9, Try.ntmps9
      go_wp2_with fail
      rw [← HW.out]
      refine (pvld_as true a len cap L W HI.out HZ.out HM.out HV.out).mono ?_
      rintro e w2 ⟨rfl, hb2⟩
      obtain ⟨d0, d1, d2⟩ := box3 HT.out hb2
      go_wp2_with fail
      refine (pentry_as true ⟨key, v, now⟩ w2 HLZ.out).mono ?_
      rintro e w3 ⟨rfl, hb3⟩
      have hbW : Below W.heap.size W w3 := hb2.trans (hb3.mono hb2.size)
      have hB3 : Below w.heap.size w w3 := HWB.out.trans (hbW.mono HWB.out.size)
      clear d0 d1 d2 hb2 hb3
      go_wp2_with fail
      refine (pdropN_as (M, false) a len cap L key w3 (HI.out.keepB hbW (Nat.le_refl _)) HZ.out HM.out HD.out).mono ?_
      rintro e w4 ⟨a4, c4, rfl, ho4, hb4⟩
      have HO4 := Lib.hid (ho4.less hB3.size)
      have hbW4 : Below W.heap.size W w4 := hbW.trans (hb4.mono hbW.size)
      have hB4 : Below w.heap.size w w4 := HWB.out.trans (hbW4.mono HWB.out.size)
      rw [show ((M, false) : List Ls × Bool).1.length = n from HN.out]
      clear hb4 ho4
      obtain ⟨a5, c5, w5, HO5, hbW5, he5⟩ : ∃ a5 c5 w5, Hid (OwnN w5 w.heap.size a5 c5 M) ∧ Below W.heap.size W w5 ∧ (a5 = a4 ∧ c5 = c4 ∧ w5 = w4) := ⟨a4, c4, w4, HO4.out, hbW4, rfl, rfl, rfl⟩
      obtain ⟨rfl, rfl, rfl⟩ := he5
      go_wp2_with fail
      refine (find_as k _ a5 n c5 M key w5 HO5.out.ls HN.out HRM.out HKK.out.symm rfl).mono ?_
      rintro e w6 ⟨rfl, hb6⟩
      have hbW6 : Below W.heap.size W w6 := hbW5.trans (hb6.mono hbW5.size)
      have hB6 : Below w.heap.size w w6 := HWB.out.trans (hbW6.mono HWB.out.size)
      have HO6 := Lib.hid (HO5.out.keepB hb6 (Nat.le_refl _))
      have HX6 : Hid (∀ o : Obj, OwnN (w6.alloc o) w.heap.size a5 c5 M) := fun o => HO6.out.keepB (alB w6 o) (Nat.le_refl _)
      have HNE : Hid (∀ g, a5 = some ⟨g, 0, none⟩ → w6.heap.size ≠ g) := fun g hg => by
        rcases HO6.out with ⟨h1, _⟩ | ⟨g2, h1, h2⟩
        · rw [h1] at hg; cases hg
        · have := h2.blk.2.1
          rw [h1] at hg; injection hg with hg; injection hg with hg; omega
      obtain ⟨d0, d1, d2⟩ := box3 HT.out hbW6
      have hws := hB6.size
      clear hb6 hbW5
      go_wp2_with fail
      refine (insN_any w.heap.size c5 k n w6.heap.size a5 M ⟨key, v, now⟩ _ (HX6.out _) HN.out (heap_alloc_new w6 _) HNE.out (by simp; omega) (by omega) (by omega)).mono ?_
      rintro e w7 ⟨g7, c7, rfl, ho7, hb7⟩
      have HA : Hid (AnsN (insL M k ⟨key, v, now⟩, true) w (.returned (.tuple #[.slice (some ⟨g7, 0, none⟩) (insL M k ⟨key, v, now⟩).length c7, .bool true])) w7) := ⟨_, c7, rfl, .inr ⟨g7, rfl, ho7⟩, (hB6.trans ((alB w6 _).mono hB6.size)).trans hb7⟩
      clear ho7 hb7 d0 d1 d2
      go_wp2
      go_ret2
      rw [HRR.out]
      exact HA.out
  · have hro := room_ok (key := key) hv (.inl hth)
    have HD : Hid (dropR L key = (M, true)) := by show _ = _; rw [dropR_th HDK.out, hth, HMM.out, hro]
    clear hth hro hv
    go_enter Try.func9, Try.ntmps9
    go_wp2_with fail
    rw [← HW.out]
    refine (pvld_as true a len cap L W HI.out HZ.out HM.out HV.out).mono ?_
    rintro e w2 ⟨rfl, hb2⟩
    obtain ⟨d0, d1, d2⟩ := box3 HT.out hb2
    go_wp2_with fail
    refine (pentry_as true ⟨key, v, now⟩ w2 HLZ.out).mono ?_
    rintro e w3 ⟨rfl, hb3⟩
    have hbW : Below W.heap.size W w3 := hb2.trans (hb3.mono hb2.size)
    have hB3 : Below w.heap.size w w3 := HWB.out.trans (hbW.mono HWB.out.size)
    clear d0 d1 d2 hb2 hb3
    go_wp2_with fail
    refine (pdropN_as (M, true) a len cap L key w3 (HI.out.keepB hbW (Nat.le_refl _)) HZ.out HM.out HD.out).mono ?_
    rintro e w4 ⟨a4, c4, rfl, ho4, hb4⟩
    have HO4 := Lib.hid (ho4.less hB3.size)
    have hbW4 : Below W.heap.size W w4 := hbW.trans (hb4.mono hbW.size)
    have hB4 : Below w.heap.size w w4 := HWB.out.trans (hbW4.mono HWB.out.size)
    rw [show ((M, true) : List Ls × Bool).1.length = n from HN.out]
    clear hb4 ho4
    obtain ⟨a5, c5, w5, HO5, hbW5, he5⟩ : ∃ a5 c5 w5, Hid (OwnN w5 w.heap.size a5 c5 M) ∧ Below W.heap.size W w5 ∧ (a5 = a4 ∧ c5 = c4 ∧ w5 = w4) := ⟨a4, c4, w4, HO4.out, hbW4, rfl, rfl, rfl⟩
    obtain ⟨rfl, rfl, rfl⟩ := he5
    go_wp2_with fail
    refine (find_as k _ a5 n c5 M key w5 HO5.out.ls HN.out HRM.out HKK.out.symm rfl).mono ?_
    rintro e w6 ⟨rfl, hb6⟩
    have hbW6 : Below W.heap.size W w6 := hbW5.trans (hb6.mono hbW5.size)
    have hB6 : Below w.heap.size w w6 := HWB.out.trans (hbW6.mono HWB.out.size)
    have HO6 := Lib.hid (HO5.out.keepB hb6 (Nat.le_refl _))
    have HX6 : Hid (∀ o : Obj, OwnN (w6.alloc o) w.heap.size a5 c5 M) := fun o => HO6.out.keepB (alB w6 o) (Nat.le_refl _)
    have HNE : Hid (∀ g, a5 = some ⟨g, 0, none⟩ → w6.heap.size ≠ g) := fun g hg => by
      rcases HO6.out with ⟨h1, _⟩ | ⟨g2, h1, h2⟩
      · rw [h1] at hg; cases hg
      · have := h2.blk.2.1
        rw [h1] at hg; injection hg with hg; injection hg with hg; omega
    obtain ⟨d0, d1, d2⟩ := box3 HT.out hbW6
    have hws := hB6.size
    clear hb6 hbW5
    go_wp2_with fail
    refine (insN_any w.heap.size c5 k n w6.heap.size a5 M ⟨key, v, now⟩ _ (HX6.out _) HN.out (heap_alloc_new w6 _) HNE.out (by simp; omega) (by omega) (by omega)).mono ?_
    rintro e w7 ⟨g7, c7, rfl, ho7, hb7⟩
    have HA : Hid (AnsN (insL M k ⟨key, v, now⟩, true) w (.returned (.tuple #[.slice (some ⟨g7, 0, none⟩) (insL M k ⟨key, v, now⟩).length c7, .bool true])) w7) := ⟨_, c7, rfl, .inr ⟨g7, rfl, ho7⟩, (hB6.trans ((alB w6 _).mono hB6.size)).trans hb7⟩
    clear ho7 hb7 d0 d1 d2
    go_wp2
    go_ret2
    rw [HRR.out]
    exact HA.out
theorem pput_any (a : Option Addr) (len cap : Nat) (L : List Ls) (key v now : Int) (w : World) (h : LsAt w a L) (hz : L.length = len) (hm : len ≤ maxLen) :
    Calls Try.prog 9 #[.slice a len cap, .int .i64 key, .int .i64 v, .int .i64 now] w (AnsL (putR L key v now) w) := (putN_any a len cap L key v now w h hz hm).mono fun _ _ => AnsN.ansL
end Go.Proofs.Ytdlapnelehehgab
