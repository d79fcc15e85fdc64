/- Transfers: the program's ChunkPut. -/
import Derived.Test.YtedbgfeojocbpaaTfP3
namespace Go.Proofs.Ytedbgfeojocbpaa
open Go.RowKit
set_option linter.unusedVariables false

attribute [local go_sem ↓] Go.wp_at_zero Go.wp_at_succ

theorem run_min2p {P : Program} (ts : Array TypeId) (t : TypeId) (k k' : IntKind) (x y : Int) (w : World) : (Builtin.min_ ts t #[.int k x, .int k' y]).run P w = .ok (.int k (min x y)) w := by
  simp [Builtin.min_, Builtin.min2]; omega
attribute [local go_sem ↓] run_min2p

/-- how many of a chunk's items were received before -/
theorem fit_cut {got : List Int} {c : Ck} {p K : Nat} (hp : c.pos = (p : Int)) (h1 : p ≤ got.length) (hK : K = min (got.length - p) c.items.length) :
    fitTo got c c.items.length = decide (cutL got (p : Int) ((p + K : Nat) : Int) = cutL c.items ((0 : Nat) : Int) (K : Int)) := by
  have hn : c.pos.toNat = p := by omega
  have e1 : (cutL got (p : Int) ((p + K : Nat) : Int)).length = K := by rw [cutL_len' (by omega) (by omega)]; omega
  have e2 : (cutL c.items ((0 : Nat) : Int) (K : Int)).length = K := by rw [cutL_len' (by omega) (by omega)]; omega
  rw [Bool.eq_iff_iff, fitTo_iff, decide_eq_true_eq, hn]
  constructor
  · intro h
    refine list_ext_gt (e1.trans e2.symm) fun i hi => ?_
    rw [e1] at hi
    rw [gt_cutL (by omega), gt_cutL (by omega)]
    have := h i (by omega) (by omega)
    simpa using this
  · intro h i hi hl
    have h3 : gt (cutL got (p : Int) ((p + K : Nat) : Int)) i = gt (cutL c.items ((0 : Nat) : Int) (K : Int)) i := by rw [h]
    rw [gt_cutL (by omega), gt_cutL (by omega)] at h3
    simpa using h3
theorem put_cut {got : List Int} {c : Ck} {p K : Nat} (hp : c.pos = (p : Int)) (h1 : p ≤ got.length) (hK : K = min (got.length - p) c.items.length) :
    putTo got c c.items.length = got ++ cutL c.items (K : Int) (c.items.length : Int) := by
  have hn : c.pos.toNat = p := by omega
  unfold putTo cutL
  rw [List.take_length, hn]
  congr 1
  rw [List.take_of_length_le (by rw [List.length_drop]; omega)]
  rcases Nat.le_total (got.length - p) c.items.length with e | e
  · rw [show (K : Int).toNat = got.length - p by omega]
  · rw [List.drop_eq_nil_of_le e, List.drop_eq_nil_of_le (by omega)]

set_option maxHeartbeats 1000000 in
theorem pput_any (a b : Option Addr) (ca cb : Nat) (got : List Int) (c : Ck) (w : World) (h : IntsAt w a got) (hm : got.length ≤ maxLen) (h2 : IntsAt w b c.items) (hm2 : c.items.length ≤ maxLen) (hca : got.length ≤ ca) (hcb : c.items.length ≤ cb) :
    Calls Try.prog 34 #[.slice a got.length ca, .agg #[.int .i64 c.pos, .slice b c.items.length cb]] w (NewIntsB (putL got c) (putB got c) w) := by
  have HI := Lib.hid h
  have HM := Lib.hid hm
  have HI2 := Lib.hid h2
  have HM2 := Lib.hid hm2
  have HCA := Lib.hid hca
  have HCB := Lib.hid hcb
  clear h hm h2 hm2 hca hcb
  obtain ⟨W, hW⟩ : ∃ W, W = w.alloc (.cells #[.int .i64 c.pos, .slice b c.items.length cb] 46) := ⟨_, rfl⟩
  have hB : Below w.heap.size w W := by rw [hW]; exact (Below.refl _ _).alloc (Nat.le_refl _) _
  have hs : W.heap.size = w.heap.size + 1 := by rw [hW]; simp
  have hh : W.heap[w.heap.size]? = some (.cells #[.int .i64 c.pos, .slice b c.items.length cb] 46 (0, 0)) := by rw [hW]; exact heap_alloc_new w _
  obtain ⟨c0, c1⟩ := cells2 hh
  have HB := Lib.hid hB
  have HW := Lib.hid hW
  have HS := Lib.hid hs
  have HH := Lib.hid hh
  clear hh hW hB hs
  rcases bcs (itemsB got) with h1 | h1
  rotate_left
  · have H1 := Lib.hid h1
    have HNO : Hid (okPut got c = false) := by show _ = _; unfold okPut; rw [h1]; rfl
    clear h1
    go_enter Try.func34, Try.ntmps34
    go_wp2_with fail
    rw [← HW.out]
    go_wp2_with fail
    refine (pitems_as false a _ ca got W (HI.out.keepB HB.out (Nat.le_refl _)) rfl HM.out H1.out).mono ?_
    rintro e w1 ⟨rfl, rfl⟩
    go_wp2
    go_ret2
    obtain ⟨q1, q2⟩ := put_no1 HNO.out
    rw [q1, q2]
    exact ⟨some ⟨w1.heap.size, 0, none⟩, 0, rfl, own_empty (heap_alloc_new w1 _) HB.out.size, HB.out.alloc HB.out.size _⟩
  have H1 := Lib.hid h1
  have hl := items_len h1
  clear h1
  rcases bcs (ckB c) with hk | hk
  rotate_left
  · have HK := Lib.hid hk
    have HNO : Hid (okPut got c = false) := by show _ = _; unfold okPut; rw [hk, Bool.and_false]
    clear hk
    go_enter Try.func34, Try.ntmps34
    go_wp2_with fail
    rw [← HW.out]
    go_wp2_with fail
    refine (pitems_as true a _ ca got W (HI.out.keepB HB.out (Nat.le_refl _)) rfl HM.out H1.out).mono ?_
    rintro e w1 ⟨rfl, rfl⟩
    go_wp2_with fail
    refine (pck_as false b cb c w1 (HI2.out.keepB HB.out (Nat.le_refl _)) HM2.out HK.out).mono ?_
    rintro e w2 ⟨rfl, hb2⟩
    have HB2 := Lib.hid (HB.out.trans (hb2.mono HB.out.size))
    clear hb2
    go_wp2
    go_ret2
    obtain ⟨q1, q2⟩ := put_no1 HNO.out
    rw [q1, q2]
    exact ⟨some ⟨w2.heap.size, 0, none⟩, 0, rfl, own_empty (heap_alloc_new w2 _) HB2.out.size, HB2.out.alloc HB2.out.size _⟩
  have HK := Lib.hid hk
  have HOK : Hid (okPut got c = true) := by show _ = _; unfold okPut; rw [H1.out, hk]; rfl
  clear hk
  obtain ⟨ps, ys⟩ := c
  obtain ⟨i1, i2, i3, i4⟩ := (ckB_iff _).1 HK.out
  have i2 : 1 ≤ ys.length ∧ ys.length ≤ 4 := i2
  have i3 : 0 ≤ ps := i3
  have i4 : ps ≤ 20 - ys.length := i4
  obtain ⟨i2, i5⟩ := i2
  obtain ⟨p, rfl⟩ : ∃ p : Nat, ps = (p : Int) := ⟨ps.toNat, by omega⟩
  have c0 : W.cell? ⟨w.heap.size, 0, none⟩ = some (.int .i64 (p : Int)) := c0
  have c1 : W.cell? ⟨w.heap.size, 1, none⟩ = some (.slice b ys.length cb) := c1
  have HH : Hid (W.heap[w.heap.size]? = some (.cells #[.int .i64 (p : Int), .slice b ys.length cb] 46 (0, 0))) := HH
  have HI2 : Hid (IntsAt w b ys) := HI2
  have HM2 : Hid (ys.length ≤ maxLen) := HM2
  have HCB : Hid (ys.length ≤ cb) := HCB
  clear i1 i3
  show Calls _ _ #[_, .agg #[.int .i64 (p : Int), .slice b ys.length cb]] _ _
  have hck : ∀ w1, Below w.heap.size w w1 → Calls Try.prog 53 #[.agg #[.int .i64 (p : Int), .slice b ys.length cb]] w1 fun e w' => e = .returned (.bool true) ∧ Below w1.heap.size w1 w' := fun w1 hb => pck_as true b cb ⟨p, ys⟩ w1 (HI2.out.keepB hb (Nat.le_refl _)) HM2.out HK.out
  have HCK := Lib.hid hck
  have W2 : ∀ w2, Below W.heap.size W w2 → w2.cell? ⟨w.heap.size, 0, none⟩ = some (.int .i64 (p : Int)) ∧ w2.cell? ⟨w.heap.size, 1, none⟩ = some (.slice b ys.length cb) := fun w2 hb => cells2 ((hb.block w.heap.size (by have := HS.out; omega)).trans HH.out)
  have HW2 := Lib.hid W2
  clear hck W2
  rcases (show got.length < p ∨ p ≤ got.length by omega) with hpl | hpl
  · have hpl' : (got.length : Int) < (p : Int) := by omega
    have HNO : Hid (putB got ⟨p, ys⟩ = false) := put_far (by show ¬ (p : Int) ≤ _; omega)
    go_enter Try.func34, Try.ntmps34
    go_wp2_with fail
    rw [← HW.out]
    go_wp2_with fail
    refine (pitems_as true a _ ca got W (HI.out.keepB HB.out (Nat.le_refl _)) rfl HM.out H1.out).mono ?_
    rintro e w1 ⟨rfl, rfl⟩
    go_wp2_with fail
    refine (HCK.out w1 HB.out).mono ?_
    rintro e w2 ⟨rfl, hb2⟩
    obtain ⟨d0, d1⟩ := HW2.out w2 hb2
    have HB2 := Lib.hid (HB.out.trans (hb2.mono HB.out.size))
    clear hb2
    go_wp2_with fail
    refine (pclone_any a _ ca got w2 (HI.out.keepB HB2.out (Nat.le_refl _)) rfl (by omega)).mono ?_
    rintro e w3 ⟨x, cx, rfl, ho, hb3⟩
    have HO := Lib.hid ho
    have HB3 := Lib.hid (HB2.out.trans (hb3.mono HB2.out.size))
    clear ho hb3
    go_wp2
    go_ret2
    have q1 := put_no2 HOK.out HNO.out
    rw [q1, HNO.out]
    exact ⟨x, cx, rfl, HO.out.less HB2.out.size, HB3.out⟩
  · obtain ⟨K, hK⟩ : ∃ K, K = min (got.length - p) ys.length := ⟨_, rfl⟩
    have hpl' : ¬ (got.length : Int) < (p : Int) := by omega
    have hmn : min ((got.length : Int) - (p : Int)) (ys.length : Int) = (K : Int) := by omega
    have hK1 : p + K ≤ got.length := by omega
    have hK2 : K ≤ ys.length := by omega
    have HFC := Lib.hid (fit_cut (c := ⟨p, ys⟩) rfl hpl hK)
    have HPC := Lib.hid (put_cut (c := ⟨p, ys⟩) rfl hpl hK)
    have hca := HCA.out
    have hcb := HCB.out
    have hs1 := fun w => run_slcLH w a got.length ca p (p + K) (by omega) (by omega)
    have hs2 := fun w => run_slcH w b ys.length cb K (by omega)
    have hs3 := fun w => run_slcL w b ys.length cb K hK2
    have HIX : Hid (∀ w', IntsAt w' a got → IntsAt w' (slA a ca p) (cutL got (p : Int) ((p + K : Nat) : Int))) := fun w' hi => ints_slc hi (by omega) (by omega) hca
    have HIY : Hid (∀ w', IntsAt w' b ys → IntsAt w' (slA b cb 0) (cutL ys ((0 : Nat) : Int) (K : Int))) := fun w' hi => ints_slc hi (by omega) (by omega) hcb
    have HIZ : Hid (∀ w', IntsAt w' b ys → IntsAt w' (slA b cb K) (cutL ys (K : Int) (ys.length : Int))) := fun w' hi => ints_slc hi (by omega) (by omega) hcb
    have HLX : Hid ((cutL got (p : Int) ((p + K : Nat) : Int)).length = p + K - p) := cutL_len' (by omega) hK1
    have HLY : Hid ((cutL ys ((0 : Nat) : Int) (K : Int)).length = p + K - p) := by show _ = _; rw [cutL_len' (by omega) hK2]; omega
    have HLZ : Hid ((cutL ys (K : Int) (ys.length : Int)).length = ys.length - K) := cutL_len' hK2 (Nat.le_refl _)
    have HKK := Lib.hid hK
    rw [show p + K - p = K by omega] at hs1
    rw [show ((p + K : Nat) : Int) = (p : Int) + (K : Int) by omega] at hs1
    have hwr : IntKind.i64.wrap ((p : Int) + (K : Int)) = (p : Int) + (K : Int) := by rw [IntKind.wrap_i64]; omega
    clear hca hcb hK
    go_enter Try.func34, Try.ntmps34
    go_wp2_with fail
    rw [← HW.out]
    go_wp2_with fail
    refine (pitems_as true a _ ca got W (HI.out.keepB HB.out (Nat.le_refl _)) rfl HM.out H1.out).mono ?_
    rintro e w1 ⟨rfl, rfl⟩
    go_wp2_with fail
    refine (HCK.out w1 HB.out).mono ?_
    rintro e w2 ⟨rfl, hb2⟩
    obtain ⟨d0, d1⟩ := HW2.out w2 hb2
    have HB2 := Lib.hid (HB.out.trans (hb2.mono HB.out.size))
    have HB2W := Lib.hid hb2
    clear hb2
    go_wp2_with fail
    have HD2 : Hid (∀ n, Below w.heap.size w (w2.drewN n)) := fun n => HB2.out.trans (Same.below ⟨n, rfl⟩ _)
    have HEQ : Hid (∀ n, Calls Try.prog 54 #[.slice (slA a ca p) K (ca - p), .slice (slA b cb 0) K cb] (w2.drewN n) fun e w' => e = .returned (.bool (fitTo got ⟨p, ys⟩ ys.length)) ∧ ∃ m, w' = w2.drewN m) := fun n => by
      refine (pequal_any (slA a ca p) (slA b cb 0) K (ca - p) cb _ _ (w2.drewN n) (HIX.out _ (HI.out.keepB (HD2.out n) (Nat.le_refl _))) (HIY.out _ (HI2.out.keepB (HD2.out n) (Nat.le_refl _))) (HLX.out.trans (by omega)) (HLY.out.trans (by omega)) (by omega)).mono ?_
      rintro e w' ⟨rfl, k, rfl⟩
      exact ⟨by rw [HFC.out], _, World.drewN_drewN _ _ _⟩
    have hp0 : (0 : Int) ≤ p := by omega
    rcases bcs (fitTo got ⟨p, ys⟩ ys.length) with hv | hv
    · have HV := Lib.hid hv
      rw [hv] at HEQ
      have HQ : Hid (∀ n, Calls Try.prog 54 #[.slice (slA a ca p) K (ca - p), .slice (slA b cb 0) K cb] (w2.drewN n) fun e w' => e = .returned (.bool true) ∧ ∃ m, w' = w2.drewN m) := HEQ
      clear hv HEQ
      go_quiet ((go_at_call 54; exact HQ.out _))
      go_wp2_with fail
      have HB5 : Hid (∀ o, Below w.heap.size w ((w2.drewN nq).alloc o)) := fun o => (HD2.out nq).alloc (HD2.out nq).size _
      refine (pconcat_any w2.heap.size a (slA b cb K) ca (cb - K) got (cutL ys (K : Int) (ys.length : Int)) _ (by rw [HLZ.out]; exact heap_alloc_new (w2.drewN nq) _) (HI.out.keepB (HB5.out _) (Nat.le_refl _)) (HIZ.out _ (HI2.out.keepB (HB5.out _) (Nat.le_refl _))) (by rw [HLZ.out]; have := HKK.out; omega) (by omega) (by rw [HLZ.out]; omega)).mono ?_
      rintro e w5 ⟨x, cx, rfl, ho, hb5⟩
      have HO := Lib.hid ho
      have HB6 := Lib.hid ((HB5.out _).trans (hb5.mono (HB5.out _).size))
      have hsz := (HB5.out (.cells #[.slice a got.length ca, .slice (slA b cb K) (ys.length - K) (cb - K)] 22)).size
      have HSZ := Lib.hid hsz
      have hq := put_good HOK.out (by show (p : Int) ≤ _; omega) HV.out
      have HQB := Lib.hid hq
      have HQL : Hid (putL got ⟨p, ys⟩ = got ++ cutL ys (K : Int) (ys.length : Int)) := by show _ = _; rw [putL, if_pos hq]; exact HPC.out
      clear ho hb5 hsz hq
      go_wp2
      go_ret2
      rw [HQL.out, HQB.out]
      exact ⟨x, cx, by rw [List.length_append]; rfl, HO.out.less HSZ.out, HB6.out⟩
    · have HV := Lib.hid hv
      rw [hv] at HEQ
      have HQ : Hid (∀ n, Calls Try.prog 54 #[.slice (slA a ca p) K (ca - p), .slice (slA b cb 0) K cb] (w2.drewN n) fun e w' => e = .returned (.bool false) ∧ ∃ m, w' = w2.drewN m) := HEQ
      clear hv HEQ
      go_quiet ((go_at_call 54; exact HQ.out _))
      go_wp2_with fail
      refine (pclone_any a _ ca got (w2.drewN nq) (HI.out.keepB (HD2.out nq) (Nat.le_refl _)) rfl (by omega)).mono ?_
      rintro e w5 ⟨x, cx, rfl, ho, hb5⟩
      have HO := Lib.hid ho
      have HB6 := Lib.hid ((HD2.out nq).trans (hb5.mono (HD2.out nq).size))
      have HNO := Lib.hid (put_bad HV.out)
      clear ho hb5
      go_wp2
      go_ret2
      rw [put_no2 HOK.out HNO.out, HNO.out]
      exact ⟨x, cx, rfl, HO.out.less (HD2.out nq).size, HB6.out⟩
end Go.Proofs.Ytedbgfeojocbpaa
