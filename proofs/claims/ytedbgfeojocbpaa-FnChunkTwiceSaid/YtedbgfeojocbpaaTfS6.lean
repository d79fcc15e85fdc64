/- Transfers: the model's chunks and received items. -/
import Derived.Test.YtedbgfeojocbpaaTfS5
namespace Go.Proofs.Ytedbgfeojocbpaa
open Go.RowKit
set_option linter.unusedVariables false

attribute [local go_sem ↓] Go.wp_at_zero Go.wp_at_succ

theorem ckB_no1 {c : Ck} (h : itemsB c.items = false) : ckB c = false := by unfold ckB; rw [h]; rfl
theorem ckB_no2 {c : Ck} (h : inB c.items.length 1 4 = false) : ckB c = false := by unfold ckB; rw [h, Bool.and_false]; rfl
theorem ckB_no3 {c : Ck} (h : inB c.pos 0 (20 - c.items.length) = false) : ckB c = false := by unfold ckB; rw [h, Bool.and_false]
theorem ckB_yes {c : Ck} (h : itemsB c.items = true) (h2 : inB c.items.length 1 4 = true) (h3 : inB c.pos 0 (20 - c.items.length) = true) : ckB c = true := by unfold ckB; rw [h, h2, h3]; rfl

set_option maxHeartbeats 1000000 in
theorem sck_any (a : Option Addr) (cap : Nat) (c : Ck) (w : World) (h : IntsAt w a c.items) (hm : c.items.length ≤ maxLen) :
    Calls Try.prog 52 #[.agg #[.int .i64 c.pos, .slice a c.items.length cap]] w fun e w' => e = .returned (.bool (ckB c)) ∧ Below w.heap.size w w' := by
  have HI := Lib.hid h
  have HM := Lib.hid hm
  clear h hm
  obtain ⟨W, hW⟩ : ∃ W, W = w.alloc (.cells #[.int .i64 c.pos, .slice a c.items.length cap] 46) := ⟨_, rfl⟩
  have hB : Below w.heap.size w W := by rw [hW]; exact (Below.refl _ _).alloc (Nat.le_refl _) _
  have hh : W.heap[w.heap.size]? = some (.cells #[.int .i64 c.pos, .slice a c.items.length cap] 46 (0, 0)) := by rw [hW]; exact heap_alloc_new w _
  obtain ⟨c0, c1⟩ := cells2 hh
  have HB := Lib.hid hB
  have HW := Lib.hid hW
  clear hh hW hB
  rcases bcs (itemsB c.items) with h1 | h1
  rotate_left
  · have H1 := Lib.hid h1
    clear h1
    go_enter Try.func52, Try.ntmps52
    go_wp2_with fail
    rw [← HW.out]
    go_wp2_with fail
    refine (sitems_as false a _ cap c.items W (HI.out.keepB HB.out (Nat.le_refl _)) rfl HM.out H1.out).mono ?_
    rintro e w1 ⟨rfl, rfl⟩
    go_wp2
    go_ret
    exact ⟨ret_bool (ckB_no1 H1.out).symm, HB.out⟩
  have H1 := Lib.hid h1
  clear h1
  rcases bcs (inB c.items.length 1 4) with h2 | h2
  rotate_left
  · have H2 := Lib.hid h2
    clear h2
    go_enter Try.func52, Try.ntmps52
    go_wp2_with fail
    rw [← HW.out]
    go_wp2_with fail
    refine (sitems_as true a _ cap c.items W (HI.out.keepB HB.out (Nat.le_refl _)) rfl HM.out H1.out).mono ?_
    rintro e w1 ⟨rfl, rfl⟩
    go_wp2_with fail
    refine (in_as false _ _ _ w1 H2.out).mono ?_
    rintro e w2 ⟨rfl, rfl⟩
    go_wp2
    go_ret
    exact ⟨ret_bool (ckB_no2 H2.out).symm, HB.out⟩
  have wr1 : IntKind.i64.wrap (20 - (c.items.length : Int)) = 20 - (c.items.length : Int) := by
    have := (inB_iff _ _ _).1 h2
    rw [IntKind.wrap_i64]; omega
  have H2 := Lib.hid h2
  clear h2
  rcases bcs (inB c.pos 0 (20 - c.items.length)) with h3 | h3
  all_goals
    have H3 := Lib.hid h3
    clear h3
    go_enter Try.func52, Try.ntmps52
    go_wp2_with fail
    rw [← HW.out]
    go_wp2_with fail
    refine (sitems_as true a _ cap c.items W (HI.out.keepB HB.out (Nat.le_refl _)) rfl HM.out H1.out).mono ?_
    rintro e w1 ⟨rfl, rfl⟩
    go_wp2_with fail
    refine (in_as true _ _ _ w1 H2.out).mono ?_
    rintro e w2 ⟨rfl, rfl⟩
    go_wp2_with fail
    refine (in_as _ _ _ _ w1 H3.out).mono ?_
    rintro e w2 ⟨rfl, rfl⟩
    go_wp2
    go_ret
  · exact ⟨ret_bool (ckB_yes H1.out H2.out H3.out).symm, HB.out⟩
  · exact ⟨ret_bool (ckB_no3 H3.out).symm, HB.out⟩
theorem sck_as (v : Bool) (a : Option Addr) (cap : Nat) (c : Ck) (w : World) (h : IntsAt w a c.items) (hm : c.items.length ≤ maxLen) (hv : ckB c = v) :
    Calls Try.prog 52 #[.agg #[.int .i64 c.pos, .slice a c.items.length cap]] w fun e w' => e = .returned (.bool v) ∧ Below w.heap.size w w' := by
  subst hv; exact sck_any a cap c w h hm

theorem put_no1 {got : List Int} {c : Ck} (h : okPut got c = false) : putL got c = [] ∧ putB got c = false := by
  have hb : putB got c = false := by unfold putB; rw [h]; rfl
  exact ⟨by rw [putL, hb, h]; rfl, hb⟩
theorem put_no2 {got : List Int} {c : Ck} (h : okPut got c = true) (hb : putB got c = false) : putL got c = got := by rw [putL, hb, h]; rfl
theorem put_far {got : List Int} {c : Ck} (h : ¬ c.pos ≤ got.length) : putB got c = false := by unfold putB; rw [decide_eq_false h, Bool.and_false]; rfl
theorem put_bad {got : List Int} {c : Ck} (h : fitTo got c c.items.length = false) : putB got c = false := by unfold putB; rw [h, Bool.and_false]
theorem put_good {got : List Int} {c : Ck} (h : okPut got c = true) (h2 : c.pos ≤ got.length) (h3 : fitTo got c c.items.length = true) : putB got c = true := by unfold putB; rw [h, h3, decide_eq_true h2]; rfl
theorem fit_zero (got : List Int) (c : Ck) : fitTo got c 0 = true := rfl

set_option maxHeartbeats 4000000 in
theorem sput_any (a b : Option Addr) (ca cb : Nat) (got : List Int) (c : Ck) (w : World) (h : IntsAt w a got) (hm : got.length ≤ maxLen) (h2 : IntsAt w b c.items) (hm2 : c.items.length ≤ maxLen) (hca : got.length ≤ ca) (hcb : c.items.length ≤ cb) :
    Calls Try.prog 32 #[.slice a got.length ca, .agg #[.int .i64 c.pos, .slice b c.items.length cb]] w (NewIntsB (putL got c) (putB got c) w) := by
  have HI := Lib.hid h
  have HM := Lib.hid hm
  have HI2 := Lib.hid h2
  have HM2 := Lib.hid hm2
  have HCA := Lib.hid hca
  have HCB := Lib.hid hcb
  clear h hm h2 hm2 hca hcb
  obtain ⟨W, hW⟩ : ∃ W, W = w.alloc (.cells #[.int .i64 c.pos, .slice b c.items.length cb] 46) := ⟨_, rfl⟩
  have hB : Below w.heap.size w W := by rw [hW]; exact (Below.refl _ _).alloc (Nat.le_refl _) _
  have hs : W.heap.size = w.heap.size + 1 := by rw [hW]; simp
  have hh : W.heap[w.heap.size]? = some (.cells #[.int .i64 c.pos, .slice b c.items.length cb] 46 (0, 0)) := by rw [hW]; exact heap_alloc_new w _
  obtain ⟨c0, c1⟩ := cells2 hh
  have HB := Lib.hid hB
  have HW := Lib.hid hW
  have HS := Lib.hid hs
  have HH := Lib.hid hh
  clear hh hW hB hs
  rcases bcs (itemsB got) with h1 | h1
  rotate_left
  · have H1 := Lib.hid h1
    have HNO : Hid (okPut got c = false) := by show _ = _; unfold okPut; rw [h1]; rfl
    clear h1
    go_enter Try.func32, Try.ntmps32
    go_wp2_with fail
    rw [← HW.out]
    go_wp2_with fail
    refine (sitems_as false a _ ca got W (HI.out.keepB HB.out (Nat.le_refl _)) rfl HM.out H1.out).mono ?_
    rintro e w1 ⟨rfl, rfl⟩
    go_wp2
    go_ret2
    obtain ⟨q1, q2⟩ := put_no1 HNO.out
    rw [q1, q2]
    exact ⟨some ⟨w1.heap.size, 0, none⟩, 0, rfl, own_empty (heap_alloc_new w1 _) HB.out.size, HB.out.alloc HB.out.size _⟩
  have H1 := Lib.hid h1
  clear h1
  rcases bcs (ckB c) with hk | hk
  rotate_left
  · have HK := Lib.hid hk
    have HNO : Hid (okPut got c = false) := by show _ = _; unfold okPut; rw [hk, Bool.and_false]
    clear hk
    go_enter Try.func32, Try.ntmps32
    go_wp2_with fail
    rw [← HW.out]
    go_wp2_with fail
    refine (sitems_as true a _ ca got W (HI.out.keepB HB.out (Nat.le_refl _)) rfl HM.out H1.out).mono ?_
    rintro e w1 ⟨rfl, rfl⟩
    go_wp2_with fail
    refine (sck_as false b cb c w1 (HI2.out.keepB HB.out (Nat.le_refl _)) HM2.out HK.out).mono ?_
    rintro e w2 ⟨rfl, hb2⟩
    have HB2 := Lib.hid (HB.out.trans (hb2.mono HB.out.size))
    clear hb2
    go_wp2
    go_ret2
    obtain ⟨q1, q2⟩ := put_no1 HNO.out
    rw [q1, q2]
    exact ⟨some ⟨w2.heap.size, 0, none⟩, 0, rfl, own_empty (heap_alloc_new w2 _) HB2.out.size, HB2.out.alloc HB2.out.size _⟩
  have HK := Lib.hid hk
  have HOK : Hid (okPut got c = true) := by show _ = _; unfold okPut; rw [H1.out, hk]; rfl
  clear hk
  obtain ⟨ps, ys⟩ := c
  obtain ⟨i1, i2, i3, i4⟩ := (ckB_iff _).1 HK.out
  have i2 : 1 ≤ ys.length ∧ ys.length ≤ 4 := i2
  have i3 : 0 ≤ ps := i3
  have i4 : ps ≤ 20 - (ys.length : Int) := i4
  have iL : got.length ≤ 20 := items_len H1.out
  obtain ⟨p, rfl⟩ := Int.eq_ofNat_of_zero_le i3
  obtain ⟨n, hn⟩ : ∃ n, n = got.length := ⟨_, rfl⟩
  obtain ⟨m, hmm⟩ : ∃ m, m = ys.length := ⟨_, rfl⟩
  have HN := Lib.hid hn
  have HMM := Lib.hid hmm
  have b1 : n ≤ 20 := by omega
  have b2 : m ≤ 4 := by omega
  have b3 : p ≤ 20 := by omega
  have hca' : n ≤ ca := by have := HCA.out; omega
  have hcb' : m ≤ cb := by have := HCB.out; show m ≤ cb; rw [hmm]; exact this
  have HCA := Lib.hid hca'
  have HCB := Lib.hid hcb'
  have p1 : (0 : Int) ≤ (p : Int) := by omega
  have p2 : (p : Int) ≤ 20 := by omega
  have hys : ∃ b' off, b = some ⟨b', off, none⟩ ∧ b' < w.heap.size ∧ ∀ i, i < ys.length → w.cell? ⟨b', off + i, none⟩ = some (.int .i64 (gt ys i)) := by
    rcases HI2.out with h0 | h0
    · have h0 : ys = [] := h0
      rw [h0] at i2; simp at i2
    · exact h0
  obtain ⟨b', off, rfl, hb', hyc⟩ := hys
  have HYC := Lib.hid hyc
  have HYB := Lib.hid hb'
  have HKM : Hid (1 ≤ m ∧ p + m ≤ 20) := ⟨by omega, by omega⟩
  have HIT := Lib.hid i1
  change W.cell? ⟨w.heap.size, 1, none⟩ = some (.slice (some ⟨b', off, none⟩) ys.length cb) at c1
  have HCK : Hid (∀ w', IntsAt w' (some ⟨b', off, none⟩) ys → Calls Try.prog 52 #[.agg #[.int .i64 (p : Int), .slice (some ⟨b', off, none⟩) ys.length cb]] w' fun e w'' => e = .returned (.bool true) ∧ Below w'.heap.size w' w'') := fun w' hi => sck_as true _ cb ⟨p, ys⟩ w' hi HM2.out HK.out
  have HITS : Hid (∀ w', IntsAt w' a got → Calls Try.prog 45 #[.slice a got.length ca] w' fun e w'' => e = .returned (.bool true) ∧ w'' = w') := fun w' hi => sitems_as true a _ ca got w' hi rfl HM.out H1.out
  change Calls _ _ #[.slice a got.length ca, .agg #[.int .i64 (p : Int), .slice (some ⟨b', off, none⟩) ys.length cb]] _ _
  rw [← hmm] at c1 HCK
  rw [← hn] at HITS
  rw [← hmm, ← hn]
  clear i1 i2 i3 i4 iL hyc hb' hn hmm hca' hcb'
  go_enter Try.func32, Try.ntmps32
  go_wp2_with fail
  have HW' : Hid (W = w.alloc (.cells #[.int .i64 (p : Int), .slice (some ⟨b', off, none⟩) m cb] 46)) := by show _ = _; rw [HMM.out]; exact HW.out
  rw [← HW'.out]
  go_wp2_with fail
  refine (HITS.out W (HI.out.keepB HB.out (Nat.le_refl _))).mono ?_
  rintro e w1 ⟨rfl, rfl⟩
  go_wp2_with fail
  refine (HCK.out w1 (HI2.out.keepB HB.out (Nat.le_refl _))).mono ?_
  rintro e w2 ⟨rfl, hb2⟩
  have HB2 := Lib.hid hb2
  have HBW2 := Lib.hid (HB.out.trans (hb2.mono HB.out.size))
  have HA : Hid (∀ o, Below w2.heap.size w2 (w2.alloc o)) := fun o => (Below.refl _ _).alloc (Nat.le_refl _) _
  have HH' : Hid (w1.heap[w.heap.size]? = some (.cells #[.int .i64 (p : Int), .slice (some ⟨b', off, none⟩) m cb] 46 (0, 0))) := by show _ = _; rw [HMM.out]; exact HH.out
  have HBX : Hid (∀ w', Below w1.heap.size w1 w' → w'.cell? ⟨w.heap.size, 0, none⟩ = some (.int .i64 (p : Int)) ∧ w'.cell? ⟨w.heap.size, 1, none⟩ = some (.slice (some ⟨b', off, none⟩) m cb)) := fun w' hb => cells2 ((hb.block w.heap.size (by have := HS.out; omega)).trans HH'.out)
  have HGI : Hid (∀ w' o, Below w.heap.size w w' → IntsAt (w'.alloc o) a got) := fun w' o hb => (HI.out.keepB hb (Nat.le_refl _)).keepB ((Below.refl _ w').alloc (Nat.le_refl _) o) (Nat.le_refl _)
  clear hb2 c0 c1
  rcases (show n < p ∨ p ≤ n by omega) with hfar | hnear
  · have hf : (n : Int) < (p : Int) := by omega
    have HF : Hid (putB got ⟨(p : Int), ys⟩ = false) := put_far (by show ¬ (p : Int) ≤ _; rw [← HN.out]; omega)
    clear hfar
    go_wp2_with (at_builtin; refine wl_appS _ (by rfl) _ _ (by rfl) w2.heap.size w2.heap.size 0 0 [] (by rfl) (own_empty (heap_alloc_new w2 _) (Nat.le_refl _)) a n ca got (by rfl) HN.out.symm (HGI.out _ _ HBW2.out) n (by omega) (by omega) (by simp) ?_; intro g5 c5 w5 hown hg5 hat5; have hb5 : Below w2.heap.size w2 w5 := (HA.out (.cells #[] 3)).grown hg5 (by simp) (fun k hk => by injection hk with hk; omega); obtain ⟨d0, d1⟩ := HBX.out w5 (HB2.out.trans (hb5.mono HB2.out.size)); have HO := Lib.hid hown; have HB5 := Lib.hid hb5; clear hown hg5 hat5 hb5)
    go_ret2
    rw [put_no2 HOK.out HF.out, HF.out]
    exact ⟨some ⟨g5, 0, none⟩, c5, by rw [← HN.out]; rfl, (own_whole HO.out HN.out.symm).less HBW2.out.size, HBW2.out.trans (HB5.out.mono HBW2.out.size)⟩
  have hf : (p : Int) ≤ (n : Int) := by omega
  have HNE : Hid (p ≤ n) := hnear
  have hf2 : ¬ n < p := by omega
  clear hnear
  go_wp2_with (at_builtin; refine wl_appS _ (by rfl) _ _ (by rfl) w2.heap.size w2.heap.size 0 0 [] (by rfl) (own_empty (heap_alloc_new w2 _) (Nat.le_refl _)) a n ca got (by rfl) HN.out.symm (HGI.out _ _ HBW2.out) n (by omega) (by omega) (by simp) ?_; intro g5 c5 w5 hown hg5 hat5; have hb5 : Below w2.heap.size w2 w5 := (HA.out (.cells #[] 3)).grown hg5 (by simp) (fun k hk => by injection hk with hk; omega); obtain ⟨d0, d1⟩ := HBX.out w5 (HB2.out.trans (hb5.mono HB2.out.size)); have HO := Lib.hid hown; have HB5 := Lib.hid hb5; clear hown hg5 hat5 hb5)
  have HLEN : Hid (∀ k, k ≤ m → (putTo got ⟨(p : Int), ys⟩ k).length = max n (p + k)) := fun k hk => by
    have h := @putTo_len got ⟨(p : Int), ys⟩ k (by show p ≤ _; rw [← HN.out]; exact HNE.out) (by show k ≤ ys.length; rw [← HMM.out]; exact hk)
    rw [h, HN.out]; rfl
  clear d0 d1
  go_loopw [6, 7] (fun o i wr => ∃ (k g cap : Nat), k ≤ m ∧ i = .int .i64 k ∧ o = .slice (some ⟨g, 0, none⟩) (putTo got ⟨(p : Int), ys⟩ k).length cap ∧ OwnI wr w1.heap.size (some ⟨g, 0, none⟩) cap (putTo got ⟨(p : Int), ys⟩ k) ∧ Below w1.heap.size w1 wr ∧ fitTo got ⟨(p : Int), ys⟩ k = true) (fun _ i _ => m - (intOf i).toNat)
  case atStart =>
    refine ⟨0, g5, c5, by omega, rfl, ?_, ?_, HB2.out.trans (HB5.out.mono HB2.out.size), rfl⟩
    · rw [putTo_zero, HN.out]
    · rw [putTo_zero]; exact (own_whole HO.out HN.out.symm).less HB2.out.size
  case round =>
    obtain ⟨k, g, cap, hk, rfl, rfl, ho, hb, hfit⟩ := hrel
    have hll := HLEN.out k hk
    have HQ : Hid (∀ n, OwnI (wr.drewN n) w1.heap.size (some ⟨g, 0, none⟩) cap (putTo got ⟨(p : Int), ys⟩ k) ∧ Below w1.heap.size w1 (wr.drewN n)) := fun n =>
      ⟨OwnI.kept ho (fun _ _ _ => rfl), hb.trans (Same.below ⟨n, rfl⟩ _)⟩
    obtain ⟨d0, d1⟩ := HBX.out wr hb
    have HBW : Hid (Below w.heap.size w wr) := HB.out.trans (hb.mono HB.out.size)
    have HF := Lib.hid hfit
    have HOO := Lib.hid ho
    have HBB := Lib.hid hb
    have hgl := ho.lt
    have HGL := Lib.hid hgl
    obtain ⟨L, hL⟩ : ∃ L, L = putTo got ⟨(p : Int), ys⟩ k := ⟨_, rfl⟩
    rw [← hL] at hll HQ HOO ⊢
    have HLE := Lib.hid hL
    have hl20 : L.length ≤ 40 := by have := HKM.out; omega
    have HLL := Lib.hid hll
    clear ho hb hfit hL hgl hll
    obtain ⟨q, hq⟩ : ∃ q, q = p + k := ⟨_, rfl⟩
    have s1 : (p : Int) + (k : Int) = (q : Int) := by omega
    have s2 : IntKind.i64.wrap (q : Int) = (q : Int) := by rw [IntKind.wrap_i64]; omega
    have s3 : IntKind.i64.wrap ((p : Int) + (k : Int)) = (q : Int) := by rw [s1, s2]
    have s4 : (0 : Int) ≤ (q : Int) := by omega
    have s5 : (0 : Int) ≤ (k : Int) := by omega
    have HQE := Lib.hid hq
    by_cases hlt : k < m
    · have hlt' : (k : Int) < (m : Int) := by omega
      have cy : wr.cell? ⟨b', off + k, none⟩ = some (.int .i64 (gt ys k)) := (HBW.out.cell (p := ⟨b', off + k, none⟩) HYB.out).trans (HYC.out k (by rw [← HMM.out]; exact hlt))
      obtain ⟨y, hy⟩ : ∃ y, y = gt ys k := ⟨_, rfl⟩
      rw [← hy] at cy
      have HY := Lib.hid hy
      have HLT := Lib.hid hlt
      clear hy
      by_cases hin : q < n
      · have hin' : (q : Int) < (n : Int) := by omega
        have HIN := Lib.hid hin
        have hga : ∃ ba oa, a = some ⟨ba, oa, none⟩ ∧ ba < w.heap.size ∧ ∀ i, i < n → w.cell? ⟨ba, oa + i, none⟩ = some (.int .i64 (gt got i)) := by
          rcases HI.out with h0 | ⟨ba, oa, ha, hlb, hc⟩
          · have := HN.out; rw [h0] at this; simp at this; omega
          · exact ⟨ba, oa, ha, hlb, fun i hi => hc i (by rw [← HN.out]; exact hi)⟩
        obtain ⟨ba, oa, rfl, hba, hac⟩ := hga
        have cx : wr.cell? ⟨ba, oa + q, none⟩ = some (.int .i64 (gt got q)) := (HBW.out.cell (p := ⟨ba, oa + q, none⟩) hba).trans (hac q hin)
        obtain ⟨x, hx⟩ : ∃ x, x = gt got q := ⟨_, rfl⟩
        rw [← hx] at cx
        have HX := Lib.hid hx
        clear hx hac hba hin hlt hq hk
        rcases bcs (x != y) with hv | hv
        · have HV : Hid (x ≠ y) := by show x ≠ y; simpa using hv
          have HNO : Hid (putB got ⟨(p : Int), ys⟩ = false) := put_bad (by
            refine fit_no (k := k) (by show k < ys.length; rw [← HMM.out]; exact HLT.out) (by show p + k < _; rw [← HN.out, ← HQE.out]; exact HIN.out) ?_
            show ¬ gt got (p + k) = gt ys k
            rw [← HQE.out, ← HX.out, ← HY.out]; exact HV.out)
          go_wp2
          go_quiet (fail)
          obtain ⟨q1, q2⟩ := HQ.out nq
          have HQ2 : Hid (Below w.heap.size w (wr.drewN nq)) := HB.out.trans (q2.mono HB.out.size)
          clear HQ
          generalize wr.drewN nq = wq at *
          clear q1 q2
          go_wp2_with (at_builtin; refine wl_appS _ (by rfl) _ _ (by rfl) wq.heap.size wq.heap.size 0 0 [] (by rfl) (own_empty (heap_alloc_new wq _) (Nat.le_refl _)) (some ⟨ba, oa, none⟩) n ca got (by rfl) HN.out.symm (HGI.out _ _ HQ2.out) n (by omega) (by omega) (by simp) ?_; intro g6 c6 w6 hown hg6 hat6; have hb6 : Below wq.heap.size wq w6 := ((Below.refl _ wq).alloc (Nat.le_refl _) (.cells #[] 3)).grown hg6 (by simp) (fun k hk => by injection hk with hk; omega); have HO6 := Lib.hid hown; have HB6 := Lib.hid hb6; clear hown hg6 hat6 hb6)
          go_ret2
          rw [put_no2 HOK.out HNO.out, HNO.out]
          exact ⟨some ⟨g6, 0, none⟩, c6, by rw [← HN.out]; rfl, (own_whole HO6.out HN.out.symm).less HQ2.out.size, HQ2.out.trans (HB6.out.mono HQ2.out.size)⟩
        · have HV : Hid (x = y) := by show x = y; simpa using hv
          go_wp2
          go_quiet (fail)
          go_wp2
          go_roundw
          case rel =>
            obtain ⟨q1, q2⟩ := HQ.out nq
            have e : L = putTo got ⟨(p : Int), ys⟩ (k + 1) := by
              rw [HLE.out, putTo_in (by show p + k < _; rw [← HN.out, ← HQE.out]; exact HIN.out) (by show k < ys.length; rw [← HMM.out]; exact HLT.out)]
            refine ⟨k + 1, g, cap, HLT.out, by go_num, by rw [← e], by rw [← e]; exact q1, q2, fit_next HF.out (fun _ => ?_)⟩
            show gt got (p + k) = gt ys k
            rw [← HQE.out, ← HX.out, ← HY.out]; exact HV.out
          case measure => have := HLT.out; simp [intOf]; omega
      · have hin' : (n : Int) ≤ (q : Int) := by omega
        have HIN := Lib.hid hin
        have E2 : Hid (L ++ [y] = putTo got ⟨(p : Int), ys⟩ (k + 1)) := by
          show _ = _
          rw [HLE.out, HY.out, putTo_out (by show p ≤ _; rw [← HN.out]; exact HNE.out) (by show _ ≤ p + k; rw [← HN.out]; omega) (by show k < ys.length; rw [← HMM.out]; exact hlt)]
        have hs0 : w1.heap.size ≤ wr.heap.size := HBB.out.size
        have HS0 := Lib.hid hs0
        have HOW : Hid (wr.ownsRow w1.heap.size 3 1 (.slice (some ⟨g, 0, none⟩) L.length cap) L.length (vals L)) := HOO.out
        have HL20 := Lib.hid hl20
        clear hin hlt hq hk hs0 hl20
        go_wp2_with (at_builtin; refine wl_app _ (by rfl) _ _ (by rfl) w1.heap.size g L.length cap (vals L) (by rfl) (HOW.out.alloc _) ⟨wr.heap.size, 0, none⟩ 1 1 [.int .i64 y] (by rfl) rfl (src_one (heap_alloc_new wr _)) (by simp [Value.oneCell']) (L.length + 1) (vals (L ++ [y])) rfl (by simp [vals]) (by have := HL20.out; omega) (by have := HS0.out; simp; omega) ?_; intro g6 c6 w6 hown6 hg6 hat6; have HO6 := Lib.hid hown6; have HG6 := Lib.hid hg6; clear hown6 hg6 hat6)
        go_roundw
        case rel =>
          refine ⟨k + 1, g6, c6, HLT.out, by go_num, by rw [← E2.out, List.length_append]; rfl, ?_, ?_, fit_next HF.out (fun h => ?_)⟩
          · rw [← E2.out]; unfold OwnI; rw [List.length_append]; exact HO6.out
          · exact (HBB.out.alloc HS0.out _).grown HG6.out (by have := HS0.out; simp; omega) (fun q hq => by injection hq with hq; have := HGL.out; omega)
          · exact absurd (show p + k < got.length from h) (by rw [← HN.out, ← HQE.out]; exact HIN.out)
        case measure => have := HLT.out; simp [intOf]; omega
    · have hkm : k = m := by omega
      have HK2 := Lib.hid hkm
      have hge : (m : Int) ≤ (k : Int) := by omega
      clear hkm hlt
      go_wp2
      go_ret2
      have hy : putB got ⟨(p : Int), ys⟩ = true := put_good HOK.out (by show (p : Int) ≤ _; rw [← HN.out]; exact hf) (by show fitTo got _ ys.length = true; rw [← HMM.out, ← HK2.out]; exact HF.out)
      have e : putL got ⟨(p : Int), ys⟩ = L := by rw [putL, if_pos hy, HLE.out, HK2.out, HMM.out]
      rw [hy, e]
      exact ⟨some ⟨g, 0, none⟩, cap, rfl, HOO.out.less HB.out.size, HBW.out⟩
end Go.Proofs.Ytedbgfeojocbpaa
