/- Lookups: LookupRange, as the program computes it. -/
import Derived.Test.YtjagcnfbkhchgaaLookT
import Derived.Maps.AppendAt
import Derived.Shelf.RegionOpen
import Derived.Test.YtjagcnfbkhchgaaCircleMath2
namespace Go.Proofs.Ytjagcnfbkhchgaa
open Go.RowKit Go.Shelf
set_option linter.unusedVariables false

attribute [local go_sem] Oper.semAt_some

/-- the world behind the first statements: boxes of the two positions, an empty row, the box of the holders -/
theorem boxes4 (w : World) (x y : Value) (W0 : World) (hW : (((w.alloc (.cells #[x] 3)).alloc (.cells #[y] 3)).alloc (.cells #[] 3)).alloc (.cells #[.slice (some ⟨w.heap.size + 1 + 1, 0, none⟩) 0 0] 23) = W0) : Below w.heap.size w W0 ∧
    Boxed W0 w.heap.size 3 x ∧ Boxed W0 (w.heap.size + 1) 3 y ∧ W0.heap[w.heap.size + 1 + 1]? = some (.cells #[] 3 (0, 0)) ∧
    Boxed W0 (w.heap.size + 1 + 1 + 1) 23 (.slice (some ⟨w.heap.size + 1 + 1, 0, none⟩) 0 0) ∧ W0.heap.size = w.heap.size + 4 := by
  subst hW
  have h2 := Boxed.new (w.alloc (.cells #[x] 3)) 3 y
  have h3 := World.alloc_heap_new ((w.alloc (.cells #[x] 3)).alloc (.cells #[y] 3)) (.cells #[] 3)
  have h4 := Boxed.new (((w.alloc (.cells #[x] 3)).alloc (.cells #[y] 3)).alloc (.cells #[] 3)) 23 (.slice (some ⟨w.heap.size + 1 + 1, 0, none⟩) 0 0)
  rw [World.size_alloc] at h2
  rw [World.size_alloc, World.size_alloc] at h3
  rw [World.size_alloc, World.size_alloc, World.size_alloc] at h4
  exact ⟨((((Below.refl _ w).alloc (Nat.le_refl _) _).alloc (by simp) _).alloc (by simp; omega) _).alloc (by simp; omega) _, (((Boxed.new w 3 x).alloc _).alloc _).alloc _, (h2.alloc _).alloc _, (Below.heap_alloc _ _ _ (by simp)).trans h3, h4, by simp⟩

set_option maxRecDepth 100000 in
set_option maxHeartbeats 2000000 in
theorem lrange_yes (a : Option Addr) (len cap : Nat) (zs : List Int) (p q : Int) (w : World) (h : IntsAt w a zs) (hz : zs.length = len) (hv : vldB zs = true) (hp : ptB p = true) (hq : ptB q = true) :
    Calls Try.prog 30 #[.slice a len cap, .int .i64 p, .int .i64 q] w (NewInts (rngL zs (plc zs p) p q) w) := by
  have hl := vld_len hv
  have hlen : 1 ≤ len ∧ len ≤ 10 := by omega
  have hat : ∃ b off, a = some ⟨b, off, none⟩ ∧ b < w.heap.size ∧ ∀ i, i < len → w.cell? ⟨b, off + i, none⟩ = some (.int .i64 (gt zs i)) := by
    rcases h with h0 | ⟨b, off, ha, hb, hc⟩
    · rw [h0] at hl; simp at hl
    · exact ⟨b, off, ha, hb, fun i hi => hc i (by omega)⟩
  obtain ⟨b, off, rfl, hbw, hcell⟩ := hat
  have HI := Lib.hid h
  have HZ := Lib.hid hz
  have HC := Lib.hid hcell
  have HV := Lib.hid hv
  have HPP := Lib.hid hp
  have HM : Hid (len ≤ maxLen) := by show len ≤ maxLen; unfold maxLen; omega
  clear h hz hcell hl
  obtain ⟨i0, hi, hz0, hz1, hz2⟩ := info_parts Try.infoInt
  have hmx : 1000 ≤ maxLen := by unfold maxLen; omega
  refine (callsIn_wide (n := 3)).1 ?_
  refine callsIn_of_wp_marks Try.func30 rfl trivial ?_ rfl
  simp only [Try.ntmps30, List.size_toArray, List.length_cons, List.length_nil, Nat.reduceAdd, Nat.reduceSub, Array.replicate_succ, Array.replicate_zero, List.push_toArray, List.append_toArray, List.nil_append, List.cons_append]
  refine wpIn_wide.2 ?_
  go_wp2_with fail
  obtain ⟨W0, hW0⟩ : ∃ W0, (((w.alloc (.cells #[.int .i64 p] 3)).alloc (.cells #[.int .i64 q] 3)).alloc (.cells #[] 3)).alloc (.cells #[.slice (some ⟨w.heap.size + 1 + 1, 0, none⟩) 0 0] 23) = W0 := ⟨_, rfl⟩
  obtain ⟨hB0, b1, b2, b3, b4, hs0⟩ := boxes4 w (.int .i64 p) (.int .i64 q) W0 hW0
  rw [hW0]
  clear hW0
  have HS0 := Lib.hid hs0
  have HB3 := Lib.hid b3
  clear hs0 b3
  have c1 := b1.cell
  have c2 := b2.cell
  refine (nvalid_any _ len cap zs W0 (HI.out.keepB hB0 (Nat.le_refl _)) HZ.out HM.out).mono ?_
  rintro e w' ⟨rfl, rfl⟩
  rw [HV.out]
  go_wp2_with (first | (go_at_call 44; refine (valid_any _ _).mono ?_; rintro e w' ⟨rfl, rfl⟩) | fail)
  clear c1 c2
  refine (upward_any _ len cap p W0).mono ?_
  rintro e W1 ⟨rfl, hW1⟩
  have n1 := Boxed.new W0 23 (.slice (some ⟨b, off, none⟩) len cap)
  have n2 := Boxed.new (W0.alloc (.cells #[.slice (some ⟨b, off, none⟩) len cap] 23)) 3 (.int .i64 p)
  rw [World.size_alloc] at n2
  have hB01 : Below W0.heap.size W0 W1 := by rw [hW1]; exact ((Below.refl _ W0).alloc (Nat.le_refl _) _).alloc (by simp) _
  have hs1 : W1.heap.size = W0.heap.size + 2 := by rw [hW1]; simp
  have bN : Boxed W1 W0.heap.size 23 (.slice (some ⟨b, off, none⟩) len cap) := by rw [hW1]; exact n1.alloc _
  have bK : Boxed W1 (W0.heap.size + 1) 3 (.int .i64 p) := by rw [hW1]; exact n2
  clear hW1 n1 n2
  replace b1 := boxed_below b1 hB01
  replace b2 := boxed_below b2 hB01
  replace b4 := boxed_below b4 hB01
  have HB3' : Hid (W1.heap[w.heap.size + 1 + 1]? = some (.cells #[] 3 (0, 0))) := (hB01.block _ (by have := HS0.out; omega)).trans HB3.out
  have hB1 : Below w.heap.size w W1 := hB0.trans (hB01.mono hB0.size)
  have HS1 : Hid (W1.heap.size = w.heap.size + 6) := by show W1.heap.size = w.heap.size + 6; have := HS0.out; omega
  have hsz2 : w.heap.size + 1 + 1 ≤ W1.heap.size := by have := HS1.out; omega
  clear hs1 hB01 HB3
  have row0 : W1.ownsRow (w.heap.size + 1 + 1) 3 1 (.slice (some ⟨w.heap.size + 1 + 1, 0, none⟩) 0 0) 0 [] := ⟨rfl, .inr ⟨_, 0, #[], rfl, Nat.le_refl _, HB3'.out, Nat.zero_le _, by omega, rfl, rfl⟩⟩
  have c1 := Lib.hid b1.cell
  have c2 := Lib.hid b2.cell
  have hpl := plc_lt HV.out p
  have HDP := Lib.hid (fun x (hx : x ∈ zs) => dst_pt hp ((ptB_iff _).2 (vld_pt HV.out hx)))
  have HDQ := Lib.hid (dst_pt hp hq)
  clear hp hq hB0
  go_wp2
  refine (wpIn_wide (n := 3)).1 ?_
  refine wpIn_rangeFunc_ownG rfl (by omega) (gf := 70) (lb := #[.pointer (some ⟨W0.heap.size, 0, none⟩), .pointer (some ⟨W0.heap.size + 1, 0, none⟩)]) rfl trivial up_enters
    (up_stops w.heap.size W0.heap.size (W0.heap.size + 1) b off len cap zs p hbw HV.out HPP.out HZ.out W1 hB1.size bK.lt (fun i hi => (hB1.cell (p := ⟨b, off + i, none⟩) hbw).trans (HC.out i hi)) bN bK.cell)
    KpB.trans (KpB.put hB1.size bN.lt) (Below.refl _ _) (fun _ => rfl)
    (fun (pre : List Int) W => (∃ v, Boxed W (w.heap.size + 1 + 1 + 1) 23 v ∧ W.ownsRow (w.heap.size + 1 + 1) 3 1 v pre.length (pre.map (Value.int .i64)) ∧ ((∃ g gc, v = .slice (some ⟨g, 0, none⟩) pre.length gc) ∧ ∀ x ∈ pre, dstI p x < dstI p q)) ∧ Below (w.heap.size + 1 + 1) W1 W)
    (fun c (pre : List Int) W => (∃ v, Boxed W (w.heap.size + 1 + 1 + 1) 23 v ∧ W.ownsRow (w.heap.size + 1 + 1) 3 1 v pre.length (pre.map (Value.int .i64)) ∧ (c = .exit 0 ∧ (∃ g gc, v = .slice (some ⟨g, 0, none⟩) pre.length gc) ∧ ∃ ini last, pre = ini ++ [last] ∧ (∀ x ∈ ini, dstI p x < dstI p q) ∧ dstI p q ≤ dstI p last)) ∧ Below (w.heap.size + 1 + 1) W1 W)
    (OwnFrom.and (Own.from (holdsRow_own (w.heap.size + 1 + 1) (w.heap.size + 1 + 1 + 1) 23 3 1 (fun pre : List Int => pre.length) (fun pre : List Int => pre.map (Value.int .i64)) (fun (pre : List Int) v => (∃ g gc, v = .slice (some ⟨g, 0, none⟩) pre.length gc) ∧ ∀ x ∈ pre, dstI p x < dstI p q)) _) (ownFrom_below hsz2 hsz2))
    (fun c => OwnFrom.and (Own.from (holdsRow_own (w.heap.size + 1 + 1) (w.heap.size + 1 + 1 + 1) 23 3 1 (fun pre : List Int => pre.length) (fun pre : List Int => pre.map (Value.int .i64)) (fun (pre : List Int) v => c = .exit 0 ∧ (∃ g gc, v = .slice (some ⟨g, 0, none⟩) pre.length gc) ∧ ∃ ini last, pre = ini ++ [last] ∧ (∀ x ∈ ini, dstI p x < dstI p q) ∧ dstI p q ≤ dstI p last)) _) (ownFrom_below hsz2 hsz2))
    ⟨⟨_, b4, row0, ⟨_, _, rfl⟩, by simp⟩, Below.refl _ _⟩
    ?a1 ?assign ?body ?done ?stop
  case assign =>
    intro l x W K hK
    gi_wp2
    exact hK
  case body =>
    rintro l pre x W ⟨⟨v, hv, hrow, ⟨g, gc, rfl⟩, hne⟩, hB⟩ hlt
    have HNE := Lib.hid hne
    clear hne
    have hc := hv.cell
    have hmix : Try.prog.follows .mixedOrders = true := by kernel_rfl
    have hd : 1 ≤ 3 - 1 - 1 := by omega
    gi_wp2_with (first | (gi_at_builtin; refine wpListIn_append_own _ rfl _ _ 23 rfl (w.heap.size + 1 + 1) 3 i0 (.int .i64 0) 1 8 Try.underlying23 hi hz0 hz1 hz2 rfl (by decide) _ _ _ rfl (hrow.alloc _) ⟨W.heap.size, 0, none⟩ 1 1 [.int .i64 x] rfl rfl (cell_one_new _ _ _) (by simp [Value.oneCell']) (by omega) (by omega) (by have := hB.size; simp; omega) ?_; intro v' w1 hown' hgrow _; obtain ⟨g', cap', rfl⟩ := ownsRow_succ hown'; obtain ⟨hv1, hv2, hr2, hk2, hb2⟩ := hv.appended (by decide) hrow (by have := hB.size; omega) (by omega) hown' hgrow; have hc1 := hv1.cell; have hf1 := hv1.frozen) | fail)
    have hKP : KpB w.heap.size W0.heap.size W (w1.setCell ⟨w.heap.size + 1 + 1 + 1, 0, none⟩ (.slice (some ⟨g', 0, none⟩) (pre.length + 1) cap')) :=
      ⟨fun b hb => hb2.block b (by omega), fun u hu => (((hu.alloc _).kept hgrow (hu.not_row (by decide) hrow)).other (by have := HS0.out; omega) _)⟩
    generalize w1.setCell ⟨w.heap.size + 1 + 1 + 1, 0, none⟩ (.slice (some ⟨g', 0, none⟩) (pre.length + 1) cap') = W2 at hv2 hr2 hk2 hb2 hKP ⊢
    have hB2 : Below (w.heap.size + 1 + 1) W1 W2 := hB.trans hb2
    have k1 : W2.cell? ⟨w.heap.size, 0, none⟩ = some (.int .i64 p) := (hB2.cell (p := ⟨w.heap.size, 0, none⟩) (by show w.heap.size < w.heap.size + 1 + 1; omega)).trans c1.out
    have k2 : W2.cell? ⟨w.heap.size + 1, 0, none⟩ = some (.int .i64 q) := (hB2.cell (p := ⟨w.heap.size + 1, 0, none⟩) (by show w.heap.size + 1 < w.heap.size + 1 + 1; omega)).trans c2.out
    have HHK := Lib.hid hKP
    have hlen2 : (pre ++ [x]).length = pre.length + 1 := by simp
    have HR2 : Hid (W2.drew.ownsRow (w.heap.size + 1 + 1) 3 1 (.slice (some ⟨g', 0, none⟩) (pre.length + 1) cap') (pre ++ [x]).length ((pre ++ [x]).map (Value.int .i64))) := by
      show W2.ownsRow _ _ _ _ _ _
      rw [hlen2]; simpa using hr2
    have HV2 : Hid (Boxed W2.drew (w.heap.size + 1 + 1 + 1) 23 (.slice (some ⟨g', 0, none⟩) (pre.length + 1) cap')) := hv2
    have HSV : Hid (∃ g gc, Value.slice (some ⟨g', 0, none⟩) (pre.length + 1) cap' = .slice (some ⟨g, 0, none⟩) (pre ++ [x]).length gc) := ⟨g', cap', by rw [hlen2]⟩
    clear hc hc1 hf1 hv1 hgrow hown' hrow hKP hlen2 hr2 hv2
    gi_region_with_o (first | (refine ⟨trivial, ?_⟩; refine (CallsIn.inRound l (callsIn_wide.2 (cdst_any _ _ _))).mono ?_; rintro e w' ⟨rfl, rfl⟩) | (refine (CallsIn.inRound l (callsIn_wide.2 (cdst_any _ _ _))).mono ?_; rintro e w' ⟨rfl, rfl⟩))
    all_goals
      clear k1 k2
      rcases hdx : decide (dstI p q ≤ dstI p x) with _ | _
      · have hdx' : dstI p x < dstI p q := by simpa using hdx
        have HDX := Lib.hid hdx'
        clear hdx hdx'
        gi_wp2
        exact ⟨(hk2.trans (KeepsOthers.drew _)).from _, HHK.out, ⟨_, HV2.out, HR2.out, HSV.out, fun y hy => (List.mem_append.1 hy).elim (HNE.out y) (fun e => by simp at e; subst e; exact HDX.out)⟩, hB2.drew⟩
      · have hdx' : dstI p q ≤ dstI p x := by simpa using hdx
        have HDX := Lib.hid hdx'
        clear hdx hdx'
        gi_wp2
        exact ⟨(hk2.trans (KeepsOthers.drew _)).from _, ⟨_, HV2.out, HR2.out, rfl, HSV.out, pre, x, rfl, HNE.out, HDX.out⟩, hB2.drew⟩
  case done =>
    rintro D ys W hD rfl ⟨⟨v, hv, hrow, ⟨g, gc, rfl⟩, hne⟩, hB⟩ hK
    have hc := hv.cell
    have HNE := Lib.hid hne
    clear hne
    go_wp2
    refine ⟨by simp, .inl ⟨_, _, rfl, run_takeDeferred hK, ?_⟩⟩
    have hLr : rngL zs (plc zs p) p q = rotTo zs (plc zs p) len := by
      rw [← HZ.out]
      refine rng_all (fun y hy => ?_)
      have h1 := HNE.out (gRot zs (plc zs p) y) (List.mem_map.2 ⟨y, List.mem_range.2 (by have := HZ.out; omega), rfl⟩)
      rw [HDQ.out, HDP.out _ (gRot_mem HV.out _ _)] at h1
      unfold dist; omega
    refine ⟨_, results_tmp rfl _ _ _, ?_⟩
    rw [hLr]
    exact ⟨g, gc, rfl, OwnI.less (ownsRow_putObj hrow _ hK rfl) (by omega), (hB1.trans (hB.mono (by omega))).trans (belowK_b (w := w) (Nat.le_refl _) W D _ _ (by have := HS1.out; omega) hK rfl rfl)⟩
  case stop =>
    rintro D c pre W hD ⟨x, hx, rfl⟩ ⟨⟨v, hv, hrow, rfl, ⟨g, gc, rfl⟩, ini, last, e1, e2, e3⟩, hB⟩ hK
    have hc := hv.cell
    have HE1 := Lib.hid e1
    have HE2 := Lib.hid e2
    have HE3 := Lib.hid e3
    clear e1 e2 e3
    refine wpIn_wide.2 ?_
    go_wp2
    refine ⟨by simp, .inl ⟨_, _, rfl, run_takeDeferred hK, ?_⟩⟩
    have e1 := HE1.out
    rw [rotTo_succ] at e1
    obtain ⟨e4, e5⟩ := List.append_inj' e1 rfl
    have e6 : gRot zs (plc zs p) x = last := by simpa using e5
    have hLr : rngL zs (plc zs p) p q = rotTo zs (plc zs p) (x + 1) := by
      refine rng_stop (by have := HZ.out; omega) (fun y hy => ?_) ?_
      · have h1 := HE2.out (gRot zs (plc zs p) y) (by rw [← e4]; exact List.mem_map.2 ⟨y, List.mem_range.2 hy, rfl⟩)
        rw [HDQ.out, HDP.out _ (gRot_mem HV.out _ _)] at h1
        unfold dist; omega
      · have h1 := HE3.out
        rw [← e6, HDQ.out, HDP.out _ (gRot_mem HV.out _ _)] at h1
        unfold dist; omega
    refine ⟨_, results_tmp rfl _ _ _, ?_⟩
    rw [hLr]
    exact ⟨g, gc, rfl, OwnI.less (ownsRow_putObj hrow _ hK rfl) (by omega), (hB1.trans (hB.mono (by omega))).trans (belowK_b (w := w) (Nat.le_refl _) W D _ _ (by have := HS1.out; omega) hK rfl rfl)⟩

set_option maxRecDepth 100000 in
set_option maxHeartbeats 2000000 in
theorem lrange_no (a : Option Addr) (len cap : Nat) (zs : List Int) (p q : Int) (w : World) (h : IntsAt w a zs) (hz : zs.length = len) (hm : len ≤ maxLen) (hn : vldB zs = false ∨ ptB p = false ∨ ptB q = false) :
    Calls Try.prog 30 #[.slice a len cap, .int .i64 p, .int .i64 q] w (NewInts [] w) := by
  have HI := Lib.hid h
  have HZ := Lib.hid hz
  have HM := Lib.hid hm
  clear h hz hm
  have hor : vldB zs = false ∨ (vldB zs = true ∧ ptB p = false) ∨ (vldB zs = true ∧ ptB p = true ∧ ptB q = false) := by
    cases h1 : vldB zs <;> cases h2 : ptB p <;> cases h3 : ptB q <;> simp_all
  clear hn
  refine (callsIn_wide (n := 3)).1 ?_
  refine callsIn_of_wp_marks Try.func30 rfl trivial ?_ rfl
  simp only [Try.ntmps30, List.size_toArray, List.length_cons, List.length_nil, Nat.reduceAdd, Nat.reduceSub, Array.replicate_succ, Array.replicate_zero, List.push_toArray, List.append_toArray, List.nil_append, List.cons_append]
  refine wpIn_wide.2 ?_
  go_wp2_with fail
  obtain ⟨W0, hW0⟩ : ∃ W0, (((w.alloc (.cells #[.int .i64 p] 3)).alloc (.cells #[.int .i64 q] 3)).alloc (.cells #[] 3)).alloc (.cells #[.slice (some ⟨w.heap.size + 1 + 1, 0, none⟩) 0 0] 23) = W0 := ⟨_, rfl⟩
  obtain ⟨hB0, b1, b2, b3, b4, hs0⟩ := boxes4 w (.int .i64 p) (.int .i64 q) W0 hW0
  rw [hW0]
  clear hW0 hs0
  have row0 : Hid (OwnI W0 w.heap.size (some ⟨w.heap.size + 1 + 1, 0, none⟩) 0 []) := ⟨by simp [vals], .inr ⟨_, 0, #[], rfl, by omega, b3, Nat.zero_le _, by unfold maxLen; omega, rfl, by simp [vals]⟩⟩
  have c1 := b1.cell
  have c2 := b2.cell
  have c4 := b4.cell
  clear b3
  refine (nvalid_any _ len cap zs W0 (HI.out.keepB hB0 (Nat.le_refl _)) HZ.out HM.out).mono ?_
  rintro e w' ⟨rfl, rfl⟩
  rcases hor with hv | ⟨hv, hp⟩ | ⟨hv, hp, hq⟩
  · rw [hv]
    clear hv
    go_wp2
    exact ⟨_, results_tmp rfl _ _ _, _, _, rfl, row0.out, hB0⟩
  · rw [hv]
    clear hv
    go_wp2_with (go_at_call 44; refine (valid_any _ _).mono ?_; rintro e w' ⟨rfl, rfl⟩)
    exact ⟨_, results_tmp rfl _ _ _, _, _, rfl, row0.out, hB0⟩
  · rw [hv]
    clear hv
    go_wp2_with (go_at_call 44; refine (valid_any _ _).mono ?_; rintro e w' ⟨rfl, rfl⟩)
    exact ⟨_, results_tmp rfl _ _ _, _, _, rfl, row0.out, hB0⟩

theorem lrange_any (a : Option Addr) (len cap : Nat) (zs : List Int) (p q : Int) (w : World) (h : IntsAt w a zs) (hz : zs.length = len) (hm : len ≤ maxLen) :
    Calls Try.prog 30 #[.slice a len cap, .int .i64 p, .int .i64 q] w (NewInts (rngV zs p q) w) := by
  cases hv : vldB zs
  · rw [rngV_no (.inl hv)]; exact lrange_no a len cap zs p q w h hz hm (.inl hv)
  · cases hp : ptB p
    · rw [rngV_no (.inr (.inl hp))]; exact lrange_no a len cap zs p q w h hz hm (.inr (.inl hp))
    · cases hq : ptB q
      · rw [rngV_no (.inr (.inr hq))]; exact lrange_no a len cap zs p q w h hz hm (.inr (.inr hq))
      · rw [rngV_yes hv hp hq]; exact lrange_yes a len cap zs p q w h hz hv hp hq

end Go.Proofs.Ytjagcnfbkhchgaa
