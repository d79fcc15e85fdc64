/- Scans: the laws' helpers. -/
import Derived.Test.YtenhaccdiamagaaScS3
import Derived.Test.YtenhaccdiamagaaLsC
import Derived.Test.YtenhaccdiamagaaDrawL
namespace Go.Proofs.Ytenhaccdiamagaa
open Go.RowKit
set_option linter.unusedVariables false
attribute [local go_sem ↓] Go.wp_at_zero Go.wp_at_succ

/-- what is left behind len -/
def leftT (left : Int) (len : Nat) : Int := if left - len < 0 then -1 else left - len

set_option maxHeartbeats 400000 in
theorem szI_any (a : Option Addr) (len cap : Nat) (left : Int) (w : World) (h0 : 0 ≤ left) (h1 : left ≤ 1048576) (hm : len ≤ maxLen) :
    Calls Try.prog 68 #[.slice a len cap, .int .i64 left] w fun e w' => e = .returned (.int .i64 (leftT left len)) ∧ w = w' := by
  unfold maxLen at hm
  by_cases hc : left - len < 0
  · have He : Hid (leftT left len = -1) := by show leftT left len = -1; simp [leftT, hc]
    go_enter Try.func68, Try.ntmps68
    go_wp2
    go_ret
    exact ⟨by rw [He.out]; rfl, rfl⟩
  · have He : Hid (leftT left len = left - len) := by show leftT left len = _; simp [leftT, hc]
    go_enter Try.func68, Try.ntmps68
    go_wp2
    go_ret
    exact ⟨by rw [He.out]; rfl, rfl⟩

set_option maxHeartbeats 1000000 in
theorem szSc_any (a : Option Addr) (cap : Nat) (s : Sc) (left : Int) (w : World) (h0 : 0 ≤ left) (h1 : left ≤ 1048576) (hm : s.t.length ≤ maxLen) :
    Calls Try.prog 35 #[.agg #[.int .i64 s.x, .slice a s.t.length cap], .int .i64 left] w fun e w' => e = .returned (.int .i64 (leftT left s.t.length)) ∧ Below w.heap.size w w' := by
  have HM := Lib.hid hm
  clear hm
  obtain ⟨W, hW⟩ : ∃ W, W = w.alloc (.cells #[.int .i64 s.x, .slice a s.t.length cap] 49) := ⟨_, rfl⟩
  have hB : Below w.heap.size w W := by rw [hW]; exact (Below.refl _ _).alloc (Nat.le_refl _) _
  have hh : W.heap[w.heap.size]? = some (.cells #[.int .i64 s.x, .slice a s.t.length cap] 49 (0, 0)) := by rw [hW]; exact heap_alloc_new w _
  obtain ⟨c0, c1⟩ := cell2s hh
  have HB := Lib.hid hB
  have HW := Lib.hid hW
  clear hh hW hB
  by_cases hc : left - s.t.length < 0
  · have He : Hid (leftT left s.t.length = -1) := by show leftT left s.t.length = -1; simp [leftT, hc]
    clear hc
    go_enter Try.func35, Try.ntmps35
    go_wp2_with fail
    rw [← HW.out]
    go_wp2_with fail
    refine (szI_any a _ cap left W h0 h1 HM.out).mono ?_
    rintro e w1 ⟨rfl, rfl⟩
    rw [He.out]
    go_wp2
    go_ret
    exact ⟨by rw [He.out]; rfl, HB.out⟩
  · have He : Hid (leftT left s.t.length = left - s.t.length) := by show leftT left s.t.length = _; simp [leftT, hc]
    have hn : (0 : Int) ≤ left - s.t.length := by omega
    have hn2 : ¬ left - s.t.length < 0 := hc
    clear hc
    go_enter Try.func35, Try.ntmps35
    go_wp2_with fail
    rw [← HW.out]
    go_wp2_with fail
    refine (szI_any a _ cap left W h0 h1 HM.out).mono ?_
    rintro e w1 ⟨rfl, rfl⟩
    rw [He.out]
    go_wp2
    go_ret
    exact ⟨by rw [He.out]; rfl, HB.out⟩

set_option maxHeartbeats 1000000 in
theorem eqSc_same (a b : Option Addr) (ca cb : Nat) (s : Sc) (w : World) (h : IntsAt w a s.t) (h2 : IntsAt w b s.t) (hm : s.t.length ≤ 1048576) :
    Calls Try.prog 37 #[.agg #[.int .i64 s.x, .slice a s.t.length ca], .agg #[.int .i64 s.x, .slice b s.t.length cb]] w fun e w' => e = .returned (.bool true) ∧ Below w.heap.size w w' := by
  have HI := Lib.hid h
  have HI2 := Lib.hid h2
  have HM := Lib.hid hm
  clear h h2 hm
  obtain ⟨W, hW⟩ : ∃ W, W = (w.alloc (.cells #[.int .i64 s.x, .slice a s.t.length ca] 26)).alloc (.cells #[.int .i64 s.x, .slice b s.t.length cb] 26) := ⟨_, rfl⟩
  obtain ⟨hs, hB, h1, h2⟩ := two_newS hW
  obtain ⟨c0, c1⟩ := cell2s h1
  obtain ⟨d0, d1⟩ := cell2s h2
  have HB := Lib.hid hB
  have HW := Lib.hid hW
  clear h1 h2 hW hB hs
  go_enter Try.func37, Try.ntmps37
  go_wp2_with fail
  rw [← HW.out]
  go_wp2_with fail
  refine (eqInts_same a b _ ca cb s.t W (HI.out.keepB HB.out (Nat.le_refl _)) (HI2.out.keepB HB.out (Nat.le_refl _)) rfl HM.out).mono ?_
  rintro e w1 ⟨rfl, hs1⟩
  obtain ⟨nd, rfl⟩ := hs1
  have HB1 : Hid (Below w.heap.size w (W.drewN nd)) := HB.out.trans ((Same.below ⟨nd, rfl⟩ _))
  go_wp2
  go_ret
  exact ⟨rfl, HB1.out⟩

set_option maxHeartbeats 1000000 in
theorem sameSc_any (a b : Option Addr) (ca cb : Nat) (s : Sc) (w : World) (h : IntsAt w a s.t) (h2 : IntsAt w b s.t) (hm : s.t.length ≤ 1048576) :
    Calls Try.prog 18 #[.agg #[.int .i64 s.x, .slice a s.t.length ca], .agg #[.int .i64 s.x, .slice b s.t.length cb]] w fun e w' => e = .returned (.bool true) ∧ Below w.heap.size w w' := by
  have HI := Lib.hid h
  have HI2 := Lib.hid h2
  have HM := Lib.hid hm
  clear h h2 hm
  obtain ⟨W, hW⟩ : ∃ W, W = (w.alloc (.cells #[.int .i64 s.x, .slice a s.t.length ca] 26)).alloc (.cells #[.int .i64 s.x, .slice b s.t.length cb] 26) := ⟨_, rfl⟩
  obtain ⟨hs, hB, h1, h2⟩ := two_newS hW
  obtain ⟨c0, c1⟩ := cell2s h1
  obtain ⟨d0, d1⟩ := cell2s h2
  have HB := Lib.hid hB
  have HW := Lib.hid hW
  clear h1 h2 hW hB hs
  go_enter Try.func18, Try.ntmps18
  go_wp2_with fail
  rw [← HW.out]
  go_wp2_with fail
  refine (sameI_any a b _ ca cb s.t W (HI.out.keepB HB.out (Nat.le_refl _)) (HI2.out.keepB HB.out (Nat.le_refl _)) rfl HM.out).mono ?_
  rintro e w1 ⟨rfl, hs1⟩
  have HB1 : Hid (Below w.heap.size w w1) := HB.out.trans (hs1.below _)
  go_wp2
  go_ret
  exact ⟨rfl, HB1.out⟩

set_option maxHeartbeats 1000000 in
theorem heldSc_any (a : Option Addr) (cap : Nat) (s : Sc) (k0 : Int) (w : World) (h : IntsAt w a (markI k0 s.t.length)) (h0 : 0 ≤ k0) (h1 : k0 ≤ 1000000000) (hm : s.t.length ≤ 1048576) :
    Calls Try.prog 46 #[.agg #[.int .i64 s.x, .slice a s.t.length cap], .int .i64 k0] w fun e w' => e = .returned (.int .i64 (k0 + s.t.length)) ∧ Below w.heap.size w w' := by
  have HI := Lib.hid h
  obtain ⟨W, hW⟩ : ∃ W, W = w.alloc (.cells #[.int .i64 s.x, .slice a s.t.length cap] 26) := ⟨_, rfl⟩
  have hB : Below w.heap.size w W := by rw [hW]; exact (Below.refl _ _).alloc (Nat.le_refl _) _
  have hh : W.heap[w.heap.size]? = some (.cells #[.int .i64 s.x, .slice a s.t.length cap] 26 (0, 0)) := by rw [hW]; exact heap_alloc_new w _
  obtain ⟨c0, c1⟩ := cell2s hh
  have HB := Lib.hid hB
  have HW := Lib.hid hW
  have HM := Lib.hid hm
  have p0 : (0 : Int) ≤ k0 + s.t.length := by omega
  clear hh hW hB h hm
  go_enter Try.func46, Try.ntmps46
  go_wp2_with fail
  rw [← HW.out]
  go_wp2_with fail
  refine (heldInts_any a _ cap k0 W (HI.out.keepB HB.out (Nat.le_refl _)) h0 h1 HM.out).mono ?_
  rintro e w1 ⟨rfl, hs1⟩
  have HB1 : Hid (Below w.heap.size w w1) := HB.out.trans (hs1.below _)
  go_wp2
  go_ret
  exact ⟨rfl, HB1.out⟩

theorem three_newS {w W : World} {a b c : Obj} (h : W = ((w.alloc a).alloc b).alloc c) :
    W.heap.size = w.heap.size + 3 ∧ Below w.heap.size w W ∧ W.heap[w.heap.size]? = some a ∧ W.heap[w.heap.size + 1]? = some b ∧ W.heap[w.heap.size + 2]? = some c := by
  subst h
  refine ⟨by simp, (((Below.refl _ _).alloc (Nat.le_refl _) _).alloc (by simp) _).alloc (by simp; omega) _, ?_, ?_, ?_⟩
  · exact (Below.heap_alloc _ c _ (by simp; omega)).trans (heap_first w a b)
  · exact (Below.heap_alloc _ c _ (by simp)).trans (heap_second w a b)
  · have h := heap_alloc_new ((w.alloc a).alloc b) c
    simpa using h

theorem own_lt2 {w : World} {base cap : Nat} {a : Option Addr} {zs : List Int} (h : OwnI w base a cap zs) : ∀ x, a = some x → base ≤ x.block ∧ x.block < w.heap.size := by
  intro x hx
  subst hx
  rcases h.2 with ⟨hn, _⟩ | ⟨g', cap', cur, hv, hb, hg, _⟩
  · cases hn
  · injection hv with hv _ _; injection hv with hv; subst hv; exact ⟨hb, (Array.getElem?_eq_some_iff.1 hg).1⟩

theorem RowOf.kept' {w w' : World} {g : Nat} {zs : List Int} (h : RowOf w g zs) (e : w'.heap[g]? = w.heap[g]?) : RowOf w' g zs := by
  obtain ⟨cs, hc, rest⟩ := h
  exact ⟨cs, e.trans hc, rest⟩

theorem RowOf.lt' {w : World} {g : Nat} {zs : List Int} (h : RowOf w g zs) : g < w.heap.size := by
  obtain ⟨cs, hc, rest⟩ := h
  exact heap_lt hc

set_option maxHeartbeats 2000000 in
theorem toSc_any (a : Option Addr) (cap : Nat) (s : Sc) (w : World) (h : IntsAt w a s.t) (hm : s.t.length ≤ 1048576) :
    Calls Try.prog 36 #[.agg #[.int .i64 s.x, .slice a s.t.length cap]] w fun e w' => ∃ g, e = .returned (.agg #[.int .i64 s.x, .slice (some ⟨g, 0, none⟩) s.t.length s.t.length]) ∧ RowOf w' g s.t ∧ w.heap.size ≤ g ∧ Below w.heap.size w w' := by
  have HI := Lib.hid h
  have HM := Lib.hid hm
  clear h hm
  obtain ⟨W, hW⟩ : ∃ W, W = ((w.alloc (.cells #[.int .i64 s.x, .slice a s.t.length cap] 49)).alloc (.cells #[.int .i64 0, .slice none 0 0] 26)).alloc (.cells #[.int .i64 s.x, .slice none 0 0] 26) := ⟨_, rfl⟩
  obtain ⟨hs, hB, h1, h2, h3⟩ := three_newS hW
  have HB := Lib.hid hB
  have HW := Lib.hid hW
  have HS := Lib.hid hs
  have H1 := Lib.hid h1
  have H2 := Lib.hid h2
  have H3 := Lib.hid h3
  obtain ⟨c0, c1⟩ := cell2s h1
  clear hW hB hs h1 h2 h3
  go_enter Try.func36, Try.ntmps36
  go_wp2_with fail
  rw [← HW.out]
  refine (toInts_any a _ cap s.t W (HI.out.keepB HB.out (Nat.le_refl _)) rfl HM.out).mono ?_
  rintro e w1 ⟨rfl, hr1, hb1, hs1⟩
  have hz := HS.out
  have h5 := (hb1.block w.heap.size (by omega)).trans H1.out
  have h6 := (hb1.block (w.heap.size + 1) (by omega)).trans H2.out
  have h7 := (hb1.block (w.heap.size + 2) (by omega)).trans H3.out
  obtain ⟨d0, d1⟩ := cell2s h5
  obtain ⟨e0, e1⟩ := cell2s h6
  obtain ⟨j0, j1⟩ := cell2s h7
  have f0 := frozen_of_cells h6 0
  have f1 := frozen_of_cells h6 1
  have k0 := frozen_of_cells h7 0
  have k1 := frozen_of_cells h7 1
  have H6 := Lib.hid h6
  have H7 := Lib.hid h7
  have HR := Lib.hid hr1
  have HB1 := Lib.hid (HB.out.trans (hb1.mono (by omega)))
  clear h5 h6 h7 hr1 hb1 hs1 hz c0 c1
  go_wp2
  have hz := HS.out
  refine bodyPost_ret (results_cell_row rfl _ _ (w.heap.size + 1) _ #[.int .i64 s.x, .slice (some ⟨W.heap.size, 0, none⟩) s.t.length s.t.length] (0, 0) _ rfl (set2s ((heap_set_ne _ _ _ _ _ (by omega)).trans H6.out)) Try.underlying26 rfl (by kernel_rfl)) rfl ?_
  refine ⟨W.heap.size, rfl, ?_, by omega, below_set2s (HB1.out.setCell (by show w.heap.size ≤ w.heap.size + 2; omega) _) (by omega) _ _⟩
  exact HR.out.kept' ((set2s_ne (by omega)).trans (heap_set_ne _ _ _ _ _ (by omega)))

/-- a row that may be marked: of its own block, or nil -/
def OwnedAt (w : World) (a : Option Addr) (n : Nat) : Prop :=
  (a = none ∧ n = 0) ∨ ∃ g cs, a = some ⟨g, 0, none⟩ ∧ w.heap[g]? = some (.cells cs 3 (0, 0)) ∧ n ≤ cs.size

/-- only the row's block may have changed -/
structure Marked (a : Option Addr) (w w' : World) : Prop where
  os : w'.os = w.os
  tape : w'.tape = w.tape
  output : w'.output = w.output
  size : w.heap.size ≤ w'.heap.size
  block : ∀ i, i < w.heap.size → (∀ x, a = some x → i ≠ x.block) → w'.heap[i]? = w.heap[i]?

theorem Marked.below {a : Option Addr} {w w' : World} {B : Nat} (h : Marked a w w') (hB : B ≤ w.heap.size) (ha : ∀ x, a = some x → B ≤ x.block) : Below B w w' :=
  ⟨h.os, h.tape, h.output, h.size, fun i hi => h.block i (by omega) fun x hx => by have := ha x hx; omega⟩

theorem ints_block {w w' : World} {b : Option Addr} {zs : List Int} (h : IntsAt w b zs) (hs : w.heap.size ≤ w'.heap.size) (he : ∀ x, b = some x → w'.heap[x.block]? = w.heap[x.block]?) : IntsAt w' b zs := by
  rcases h with h0 | ⟨g, off, hb, hlt, hc⟩
  · exact .inl h0
  · have he' : w'.heap[g]? = w.heap[g]? := he _ hb
    exact .inr ⟨g, off, hb, by omega, fun i hi => (World.cell?_of_block (w := w) (a := ⟨g, off + i, none⟩) he').trans (hc i hi)⟩

theorem owned_rowOf {w : World} {g : Nat} {zs : List Int} (h : RowOf w g zs) : OwnedAt w (some ⟨g, 0, none⟩) zs.length := by
  obtain ⟨cs, hc, hs, _⟩ := h
  exact .inr ⟨g, cs, rfl, hc, by omega⟩

theorem owned_own {w : World} {base cap : Nat} {a : Option Addr} {zs : List Int} (h : OwnI w base a cap zs) : OwnedAt w a zs.length := by
  rcases h.2 with ⟨hn, h0⟩ | ⟨g', cap', cur, hv, hb, hg, hnc, _, hs, _⟩
  · injection hn with hn; exact .inl ⟨hn, h0⟩
  · injection hv with hv _ hc; exact .inr ⟨g', cur, hv, hg, by omega⟩

theorem owned_keep {w w' : World} {a : Option Addr} {n : Nat} (h : OwnedAt w a n) (he : ∀ x, a = some x → w'.heap[x.block]? = w.heap[x.block]?) : OwnedAt w' a n := by
  rcases h with h0 | ⟨g, cs, ha, hc, hn⟩
  · exact .inl h0
  · exact .inr ⟨g, cs, ha, (he _ ha).trans hc, hn⟩

theorem own_intsS {w : World} {base cap : Nat} {a : Option Addr} {zs : List Int} (h : OwnI w base a cap zs) : IntsAt w a zs := by
  rcases Nat.eq_zero_or_pos zs.length with h0 | h0
  · exact .inl (List.length_eq_zero_iff.1 h0)
  · obtain ⟨g, ha, hb, hlt, hc, _⟩ := h.at_ h0
    exact .inr ⟨g, 0, ha, hlt, fun i hi => by rw [Nat.zero_add]; exact hc i hi⟩

set_option maxHeartbeats 1000000 in
theorem marks_any (a : Option Addr) (len cap : Nat) (k0 : Int) (w : World) (h : OwnedAt w a len) (h0 : 0 ≤ k0) (h1 : k0 ≤ 1000000000) (hm : len ≤ 1048576) :
    Calls Try.prog 44 #[.slice a len cap, .int .i64 k0] w fun e w' => e = .returned (.int .i64 (k0 + len)) ∧ IntsAt w' a (markI k0 len) ∧ Marked a w w' := by
  rcases h with ⟨rfl, rfl⟩ | ⟨g, cs, rfl, hc, hs⟩
  · go_enter Try.func44, Try.ntmps44
    go_wp2
    go_loop [1, 5] (fun l i => i = .int .i64 0 ∧ l = .int .i64 k0) (fun _ i => 1)
    case atStart => exact ⟨rfl, rfl⟩
    case round =>
      obtain ⟨rfl, rfl⟩ := hrel
      go_wp2
      go_ret
      exact ⟨by simp, .inl rfl, rfl, rfl, rfl, Nat.le_refl _, fun _ _ _ => rfl⟩
  · refine (markInts_any g len cap k0 w ⟨cs, hc, hs⟩ h0 h1 hm).mono ?_
    rintro e w' ⟨rfl, hk⟩
    exact ⟨rfl, hk.ints, hk.1.os, hk.1.tape, hk.1.output, Nat.le_of_eq hk.1.size.symm, fun i hi hne => hk.1.block i (hne _ rfl)⟩

set_option maxHeartbeats 1000000 in
theorem marksSc_any (a : Option Addr) (cap : Nat) (s : Sc) (k0 : Int) (w : World) (h : OwnedAt w a s.t.length) (h0 : 0 ≤ k0) (h1 : k0 ≤ 1000000000) (hm : s.t.length ≤ 1048576) :
    Calls Try.prog 45 #[.agg #[.int .i64 s.x, .slice a s.t.length cap], .int .i64 k0] w fun e w' => e = .returned (.int .i64 (k0 + s.t.length)) ∧ IntsAt w' a (markI k0 s.t.length) ∧ Marked a w w' := by
  obtain ⟨W, hW⟩ : ∃ W, W = w.alloc (.cells #[.int .i64 s.x, .slice a s.t.length cap] 26) := ⟨_, rfl⟩
  have hB : Below w.heap.size w W := by rw [hW]; exact (Below.refl _ _).alloc (Nat.le_refl _) _
  have hh : W.heap[w.heap.size]? = some (.cells #[.int .i64 s.x, .slice a s.t.length cap] 26 (0, 0)) := by rw [hW]; exact heap_alloc_new w _
  obtain ⟨c0, c1⟩ := cell2s hh
  have HX : Hid (OwnedAt W a s.t.length) := owned_keep h (fun x hx => hB.block _ (by rcases h with ⟨hn, _⟩ | ⟨g, cs, ha, hc, _⟩; (rw [hn] at hx; cases hx); (rw [ha] at hx; cases hx; exact heap_lt hc)))
  have HL : Hid (∀ x, a = some x → x.block < w.heap.size) := fun x hx => by
    rcases h with ⟨hn, _⟩ | ⟨g, cs, ha, hc, _⟩
    · rw [hn] at hx; cases hx
    · rw [ha] at hx; cases hx; exact heap_lt hc
  have HB := Lib.hid hB
  have HW := Lib.hid hW
  have HM := Lib.hid hm
  clear hh hW hB h hm
  go_enter Try.func45, Try.ntmps45
  go_wp2_with fail
  rw [← HW.out]
  go_wp2_with fail
  refine (marks_any a s.t.length cap k0 W HX.out h0 h1 HM.out).mono ?_
  rintro e w1 ⟨rfl, hi1, hk1⟩
  have HI1 := Lib.hid hi1
  have HK1 := Lib.hid hk1
  clear hi1 hk1
  go_wp2
  go_ret
  have hs := HK1.out.size
  have hb := HB.out.size
  exact ⟨rfl, HI1.out, HK1.out.os.trans HB.out.os, HK1.out.tape.trans HB.out.tape, HK1.out.output.trans HB.out.output, by omega, fun i hi hne => (HK1.out.block i (by omega) hne).trans (HB.out.block i hi)⟩

end Go.Proofs.Ytenhaccdiamagaa
