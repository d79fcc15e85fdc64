/- What the program's functions of chapter 23 answer: sweeping. -/
import Derived.Test.YtdlapnelehehgaaCaP2
namespace Go.Proofs.Ytdlapnelehehgaa
open Go.RowKit
set_option linter.unusedVariables false
attribute [local go_sem ↓] Go.wp_at_zero Go.wp_at_succ

/-- how many entries the heap's variable has -/
def cntAt (w : World) (hb : Nat) : Nat := match w.cell? ⟨hb, 0, none⟩ with | some (.slice _ n _) => n | _ => 0
theorem cnt_of {w : World} {hb base g c n : Nat} {L : List Ls} (h : HpAt w hb base g c n L) : cntAt w hb = n := by unfold cntAt; rw [h.cell]
/-- .. at the head of the loop -/
def SweepAt (hb base g c nb : Nat) (L : List Ls) (now : Int) (w wr : World) (n : Nat) (L' : List Ls) : Prop :=
  HpAt wr hb base g c n L' ∧ Heap.Is leB (gl L') n 0 ∧ NowAt wr nb now ∧ Below w.heap.size w wr ∧ n ≤ 6 ∧ ∃ P, (P ++ Heap.toL (gl L') n).Perm L ∧ ∀ x ∈ P, exB x now = true
theorem sweep_mem {hb base g c nb n : Nat} {L L' : List Ls} {now : Int} {w wr : World} (h : SweepAt hb base g c nb L now w wr n L') {i : Nat} (hi : i < n) : gl L' i ∈ L := by
  obtain ⟨_, _, _, _, _, P, hp, _⟩ := h
  exact hp.subset (List.mem_append_right _ (Heap.mem_toL.2 ⟨i, hi, rfl⟩))
/-- nothing that is left has expired: what is used, in some order -/
theorem sweep_done {hb base g c nb n : Nat} {L L' : List Ls} {now : Int} {w wr : World} (h : SweepAt hb base g c nb L now w wr n L') (hd : n = 0 ∨ exB (gl L' 0) now = false) : (nlL (L'.take n) now).Perm (swL L now) := by
  obtain ⟨h1, h2, _, _, _, P, hp, hx⟩ := h
  have e := toL_gl L' n h1.len
  rw [e] at hp
  refine sweep_left hp hx fun x hxm => ?_
  rw [← e] at hxm
  obtain ⟨i, hi, rfl⟩ := Heap.mem_toL.1 hxm
  rcases hd with hd | hd
  · omega
  · have h3 := h2.first leB_refl leB_trans i hi
    simp only [leB, lsB, exB, decide_eq_false_iff_not] at h3 hd ⊢
    omega

theorem sweep_keep {hb base g c nb n : Nat} {L L' : List Ls} {now : Int} {w wr w2 : World} (h : SweepAt hb base g c nb L now w wr n L') (hk : Below wr.heap.size wr w2) : SweepAt hb base g c nb L now w w2 n L' := by
  obtain ⟨h1, h2, h3, h4, h5, h6⟩ := h
  exact ⟨h1.keepB hk, h2, h3.keepB hk, h4.trans (hk.mono h4.size), h5, h6⟩
theorem sweep_pop {hb base g c nb m : Nat} {L L' L5 : List Ls} {x : Ls} {now : Int} {w wr w5 : World} (h : SweepAt hb base g c nb L now w wr (m + 1) L') (h1 : HpAt w5 hb base g c m L5) (h3 : Heap.Is leB (gl L5) m 0) (h4 : x = gl L' 0) (h5 : (x :: Heap.toL (gl L5) m).Perm (Heap.toL (gl L') (m + 1)))
    (h6 : Grown2 wr w5 g hb) (he : exB (gl L' 0) now = true) (hnb : nb ≠ hb) (hng : nb ≠ g) (hbs : w.heap.size ≤ base) (hhb : base ≤ hb) : SweepAt hb base g c nb L now w w5 m L5 := by
  obtain ⟨k1, k2, k3, k4, k5, P, k6, k7⟩ := h
  have hg := k1.row.blk.1
  refine ⟨h1, h3, ⟨?_, Nat.lt_of_lt_of_le k3.2 h6.size⟩, k4.trans (h6.below (by omega) (by omega) k4.size), by omega, P ++ [x], ?_, ?_⟩
  · have e := h6.block nb k3.2 hng hnb
    exact (World.cell?_of_block (w := wr) e).trans k3.1
  · rw [List.append_assoc]
    exact (List.Perm.append_left P h5).trans k6
  · intro y hy
    rcases List.mem_append.1 hy with hy | hy
    · exact k7 y hy
    · rw [List.mem_singleton.1 hy, h4]; exact he

set_option maxRecDepth 20000 in
set_option maxHeartbeats 4000000 in
theorem psweep_any (a : Option Addr) (len cap : Nat) (L : List Ls) (now : Int) (w : World) (h : LsAt w a L) (hz : L.length = len) (hm : len ≤ maxLen) :
    Calls Try.prog 27 #[.slice a len cap, .int .i64 now] w (RowL (swR L now) w) := by
  have HZ := Lib.hid hz
  have HM := Lib.hid hm
  obtain ⟨W, hW⟩ : ∃ W, W = w.alloc (.cells #[.int .i64 now] 3) := ⟨_, rfl⟩
  have hWb : Below w.heap.size w W := by rw [hW]; exact alB _ _
  have hT : W.heap[w.heap.size]? = some (.cells #[.int .i64 now] 3 (0, 0)) := by rw [hW]; exact heap_alloc_new w _
  have HNW : Hid (NowAt W w.heap.size now) := ⟨by rw [cell_of_cells hT]; rfl, heap_lt hT⟩
  have HI := Lib.hid (h.keepB hWb (Nat.le_refl _))
  have HW := Lib.hid hW
  have HWB := Lib.hid hWb
  clear h hz hm hW hWb hT
  cases hv : lvB L
  · have HR := Lib.hid (sw_bad (show swOk L now = false by simp [swOk, hv]))
    go_enter Try.func27, Try.ntmps27
    go_wp2_with fail
    rw [← HW.out]
    refine (pvld_as false a len cap L W HI.out HZ.out HM.out hv).mono ?_
    rintro e w2 ⟨rfl, hb2⟩
    have hB2 : Below w.heap.size w w2 := HWB.out.trans (hb2.mono HWB.out.size)
    clear hb2
    go_wp2
    go_ret
    rw [HR.out]
    exact ⟨some ⟨w2.heap.size, 0, none⟩, 0, rfl, .inr ⟨_, rfl, (own_none w2 _ rfl).less hB2.size⟩, hB2.trans ((alB w2 _).mono hB2.size)⟩
  have HV := Lib.hid hv
  cases ht : tmB now
  · have HR := Lib.hid (sw_bad (show swOk L now = false by simp [swOk, ht]))
    go_enter Try.func27, Try.ntmps27
    go_wp2_with fail
    rw [← HW.out]
    refine (pvld_as true a len cap L W HI.out HZ.out HM.out HV.out).mono ?_
    rintro e w2 ⟨rfl, hb2⟩
    have hc2 := (HNW.out.keepB hb2).1
    have hB2 : Below w.heap.size w w2 := HWB.out.trans (hb2.mono HWB.out.size)
    clear hb2
    go_wp2_with fail
    refine (isTime_any now w2).mono ?_
    rintro e w' ⟨rfl, rfl⟩
    rw [ht]
    clear hc2
    go_wp2
    go_ret
    rw [HR.out]
    exact ⟨some ⟨w2.heap.size, 0, none⟩, 0, rfl, .inr ⟨_, rfl, (own_none w2 _ rfl).less hB2.size⟩, hB2.trans ((alB w2 _).mono hB2.size)⟩
  have HR : Hid (swR L now = swL L now) := sw_ok (by simp [swOk, hv, ht])
  have hl6 := lv_len hv
  rw [HZ.out] at hl6
  go_enter Try.func27, Try.ntmps27
  go_wp2_with fail
  rw [← HW.out]
  refine (pvld_as true a len cap L W HI.out HZ.out HM.out HV.out).mono ?_
  rintro e w2 ⟨rfl, hb2⟩
  have hc2 := (HNW.out.keepB hb2).1
  have hB2 : Below w.heap.size w w2 := HWB.out.trans (hb2.mono HWB.out.size)
  have HN2 := Lib.hid (HNW.out.keepB hb2)
  go_wp2_with fail
  refine (isTime_any now w2).mono ?_
  rintro e w' ⟨rfl, rfl⟩
  rw [ht]
  clear hc2 hv ht
  go_wp2_with fail
  refine (exp_any a len cap L w2 (HI.out.keepB hb2 (Nat.le_refl _)) HZ.out hl6).mono ?_
  rintro e w3 ⟨g, c, L3, rfl, ho3, hl3, hi3, hp3, hb3⟩
  have hg3 := ho3.blk.1
  have hg3' := ho3.blk.2.1
  have hn2 := HN2.out.2
  have H0 : Hid (SweepAt w3.heap.size w2.heap.size g c w.heap.size L now w (w3.alloc (.cells #[.slice (some ⟨g, 0, none⟩) len c] 52)) len L3) := by
    refine ⟨⟨heap_alloc_new w3 _, ho3.keepB (alB w3 _) (Nat.le_refl _), by omega, by omega⟩, hi3, (HN2.out.keepB hb3).keepB (alB w3 _), (hB2.trans (hb3.mono hB2.size)).trans ((alB w3 _).mono (hB2.trans (hb3.mono hB2.size)).size), hl6, [], ?_, fun x hx => by cases hx⟩
    rw [List.nil_append, ← hl3, toL_all]; exact hp3
  have hh3 : w2.heap.size ≤ w3.heap.size := hb3.size
  obtain ⟨hb, hhb⟩ : ∃ hb, hb = w3.heap.size := ⟨_, rfl⟩
  have HHB := Lib.hid hhb
  have hnb : w.heap.size ≠ hb := by omega
  have hng : w.heap.size ≠ g := by omega
  have hbs : w.heap.size ≤ w2.heap.size := hB2.size
  have hhb2 : w2.heap.size ≤ hb := by omega
  clear ho3 hl3 hi3 hp3 hb3 hb2 hB2
  go_wp2
  rw [← HHB.out] at H0 ⊢
  clear hhb
  go_loopw [] (fun wr => ∃ n L', SweepAt hb w2.heap.size g c w.heap.size L now w wr n L') (fun wr => cntAt wr hb)
  case atStart => exact ⟨_, _, H0.out⟩
  case round =>
    obtain ⟨n, L', hs⟩ := hrel
    have HS := Lib.hid hs
    have HNB : Hid (NowAt wr w.heap.size now) := hs.2.2.1
    have hwr := hs.2.2.2.1.size
    have hn6 := hs.2.2.2.2.1
    have HC := fun z : Cls (Below wr.heap.size wr) => (HNB.out.keepB z.ok).1
    have hvlt := heap_lt hs.1.var
    have HG := fun z : Cls (Below wr.heap.size wr) => (z.ok.cell (p := ⟨hb, 0, none⟩) hvlt).trans hs.1.cell
    by_cases hn0 : n = 0
    · subst hn0
      clear hs
      go_wp2_with fail
      refine wp_region_cls (Below wr.heap.size wr) (by kernel_rfl) (by kernel_rfl) below_drawn ?_
      repeat (go_big_quiet_step (fail))
      refine wpQuiet_nil ?_
      intro w4 hw'
      have hb4 := cls_out hw'
      clear hw' HG HC
      have HS4 : Hid (SweepAt hb w2.heap.size g c w.heap.size L now w w4 0 L') := sweep_keep HS.out hb4
      have HR4 : Hid ((nlL (L'.take 0) now).Perm (swL L now)) := sweep_done HS.out (.inl rfl)
      have hc4 := HS4.out.1.cell
      clear hb4
      go_wp2_with fail
      refine (delF_any w2.heap.size g c 0 w.heap.size (L'.take 0) now w4 (HS4.out.1.row.take 0) (by rw [List.length_take]; have := HS4.out.1.len; omega) (by omega) HS4.out.2.2.1 hng).mono ?_
      rintro e w5 ⟨rfl, ho5, hg5⟩
      have HO5 := Lib.hid ho5
      have HB5 : Hid (Below w.heap.size w w5) := HS4.out.2.2.2.1.grown hg5 HS4.out.2.2.2.1.size (fun k hk => by injection hk with hk; omega)
      have hl5 : (nlL (L'.take 0) now).length ≤ 6 := Nat.le_trans (nl_len L' now 0) (by omega)
      obtain ⟨m, hm⟩ : ∃ m, (nlL (L'.take 0) now).length = m := ⟨_, rfl⟩
      have HMM := Lib.hid hm
      rw [hm] at hl5 ⊢
      clear ho5 hg5 hc4 hm
      go_wp2_with fail
      refine (sort_any w2.heap.size g c m (nlL (L'.take 0) now) w5 HO5.out HMM.out hl5).mono ?_
      rintro e w6 ⟨rfl, S, h1, h2, h3, h4, h5⟩
      have HA : Hid (RowL (swR L now) w (.returned (.slice (some ⟨g, 0, none⟩) m c)) w6) := by
        have hS : S = swL L now := sort_eq (by rw [h2]; exact h4) (lv_ord (sw_lv HV.out now)) (h3.trans HR4.out)
        show RowL _ _ _ _
        rw [HR.out, ← hS]
        exact ⟨some ⟨g, 0, none⟩, c, by rw [h2], .inr ⟨g, rfl, h1.less hbs⟩, HB5.out.grown h5 HB5.out.size (fun k hk => by injection hk with hk; omega)⟩
      clear h1 h2 h3 h4 h5
      go_wp2
      go_ret
      exact HA.out
    · have n0 : (0 : Int) < (n : Int) := by omega
      have nd : decide ((0 : Int) < (n : Int)) = true := by simp; omega
      have nd2 : decide (0 < n) = true := by simp; omega
      obtain ⟨c0, c1, c2⟩ := hs.1.row.cells (i := 0) (by have := hs.1.len; omega)
      have hgl := hs.1.row.blk.2.1
      have hmem := sweep_mem hs (i := 0) (by omega)
      obtain ⟨x, hx⟩ : ∃ x, x = gl L' 0 := ⟨_, rfl⟩
      have HX := Lib.hid hx
      rw [← hx] at c0 c1 c2 hmem
      have HBD : Hid (-1000000 ≤ x.u ∧ x.u ≤ 1000000) := by
        have h1 := ((lzB_iff _).1 (lv_mem HV.out hmem)).2.2
        exact ⟨by omega, by omega⟩
      simp only [Nat.zero_mul, Nat.zero_add] at c0 c1 c2
      have X0 := fun z : Cls (Below wr.heap.size wr) => (z.ok.cell (p := ⟨g, 0, none⟩) hgl).trans c0
      have X1 := fun z : Cls (Below wr.heap.size wr) => (z.ok.cell (p := ⟨g, 1, none⟩) hgl).trans c1
      have X2 := fun z : Cls (Below wr.heap.size wr) => (z.ok.cell (p := ⟨g, 2, none⟩) hgl).trans c2
      clear hs c0 c1 c2 hmem hx
      cases he : exB x now
      · have HE := Lib.hid he
        clear he
        go_wp2_with fail
        refine wp_region_cls (Below wr.heap.size wr) (by kernel_rfl) (by kernel_rfl) below_drawn ?_
        repeat (go_big_quiet_step ((go_at_call 50; rename_i z; exact cls_below (expired_as false x now _ HBD.out HE.out) z.ok (Nat.le_refl _))))
        refine wpQuiet_nil ?_
        intro w4 hw'
        have hb4 := cls_out hw'
        clear hw' HG HC X0 X1 X2
        have HS4 : Hid (SweepAt hb w2.heap.size g c w.heap.size L now w w4 n L') := sweep_keep HS.out hb4
        have HR4 : Hid ((nlL (L'.take n) now).Perm (swL L now)) := sweep_done HS.out (.inr (by rw [← HX.out]; exact HE.out))
        have hc4 := HS4.out.1.cell
        clear hb4
        go_wp2_with fail
        refine (delF_any w2.heap.size g c n w.heap.size (L'.take n) now w4 (HS4.out.1.row.take n) (by rw [List.length_take]; have := HS4.out.1.len; omega) (by omega) HS4.out.2.2.1 hng).mono ?_
        rintro e w5 ⟨rfl, ho5, hg5⟩
        have HO5 := Lib.hid ho5
        have HB5 : Hid (Below w.heap.size w w5) := HS4.out.2.2.2.1.grown hg5 HS4.out.2.2.2.1.size (fun k hk => by injection hk with hk; omega)
        have hl5 : (nlL (L'.take n) now).length ≤ 6 := Nat.le_trans (nl_len L' now n) (by omega)
        obtain ⟨m, hm⟩ : ∃ m, (nlL (L'.take n) now).length = m := ⟨_, rfl⟩
        have HMM := Lib.hid hm
        rw [hm] at hl5 ⊢
        clear ho5 hg5 hc4 hm
        go_wp2_with fail
        refine (sort_any w2.heap.size g c m (nlL (L'.take n) now) w5 HO5.out HMM.out hl5).mono ?_
        rintro e w6 ⟨rfl, S, h1, h2, h3, h4, h5⟩
        have HA : Hid (RowL (swR L now) w (.returned (.slice (some ⟨g, 0, none⟩) m c)) w6) := by
          have hS : S = swL L now := sort_eq (by rw [h2]; exact h4) (lv_ord (sw_lv HV.out now)) (h3.trans HR4.out)
          show RowL _ _ _ _
          rw [HR.out, ← hS]
          exact ⟨some ⟨g, 0, none⟩, c, by rw [h2], .inr ⟨g, rfl, h1.less hbs⟩, HB5.out.grown h5 HB5.out.size (fun k hk => by injection hk with hk; omega)⟩
        clear h1 h2 h3 h4 h5
        go_wp2
        go_ret
        exact HA.out
      · have HE := Lib.hid he
        obtain ⟨m, hm⟩ : ∃ m, n = m + 1 := ⟨n - 1, by omega⟩
        subst hm
        clear he
        go_wp2_with fail
        refine wp_region_cls (Below wr.heap.size wr) (by kernel_rfl) (by kernel_rfl) below_drawn ?_
        repeat (go_big_quiet_step ((go_at_call 50; rename_i z; exact cls_below (expired_as true x now _ HBD.out HE.out) z.ok (Nat.le_refl _))))
        refine wpQuiet_nil ?_
        intro w4 hw'
        have hb4 := cls_out hw'
        clear hw' HG HC X0 X1 X2
        have HS4 : Hid (SweepAt hb w2.heap.size g c w.heap.size L now w w4 (m + 1) L') := sweep_keep HS.out hb4
        clear hb4
        go_wp2_with fail
        refine (pop_any hb w2.heap.size g c m L' w4 HS4.out.1 (by omega) HS4.out.2.1).mono ?_
        rintro e w5 ⟨x5, L5, rfl, h1, h2, h3, h4, h5, h6⟩
        have HS5 : Hid (SweepAt hb w2.heap.size g c w.heap.size L now w w5 m L5) := sweep_pop HS4.out h1 h3 h4 h5 h6 (by rw [← HX.out]; exact HE.out) hnb hng hbs hhb2
        have HCN : Hid (cntAt w5 hb < cntAt wr hb) := by
          show _ < _
          rw [cnt_of h1, cnt_of HS.out.1]; omega
        clear h1 h2 h3 h4 h5 h6
        go_wp2
        go_roundw
        case rel => exact ⟨_, _, HS5.out⟩
        case measure => exact HCN.out
end Go.Proofs.Ytdlapnelehehgaa
