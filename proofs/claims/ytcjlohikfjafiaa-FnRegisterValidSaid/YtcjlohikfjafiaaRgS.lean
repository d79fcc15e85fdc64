/- The model's register: valid, older, sets. -/
import Derived.Test.YtcjlohikfjafiaaRgV
import Derived.Deep.DrawnRows
namespace Go.Proofs.Ytcjlohikfjafiaa
open Go.RowKit
set_option linter.unusedVariables false
attribute [local go_sem ↓] Go.wp_at_zero Go.wp_at_succ

set_option maxHeartbeats 1000000 in
theorem srep_any (x : Ls) (w : World) :
    Calls Try.prog 34 #[.agg #[.int .i64 x.e, .int .i64 x.o, .int .i64 x.u]] w fun e w' => e = .returned (.bool (lzB x)) ∧ Below w.heap.size w w' := by
  have hgd := Try.eqReplica
  obtain ⟨e, o, u⟩ := x
  simp only at *
  have HB := Lib.hid (alB w)
  by_cases h0 : e = 0
  · subst h0
    cases h1 : (o == 0)
    · have He : Hid (lzB ⟨0, o, u⟩ = false) := by show lzB _ = _; simp at h1; simp [lzB, h1]
      go_enter Try.func34, Try.ntmps34
      go_wp2
      go_ret
      exact ⟨ret_bool He.out.symm, HB.out _⟩
    · have He : Hid (lzB ⟨0, o, u⟩ = (u == 0)) := by show lzB _ = _; simp at h1; rw [Bool.eq_iff_iff]; simp [lzB, h1]
      cases h2 : (u == 0)
      · go_enter Try.func34, Try.ntmps34
        go_wp2
        go_ret
        exact ⟨ret_bool (by rw [He.out, h2]), HB.out _⟩
      · go_enter Try.func34, Try.ntmps34
        go_wp2
        go_ret
        exact ⟨ret_bool (by rw [He.out, h2]), HB.out _⟩
  have hz : (e == 0) = false := by simp [h0]
  have HP := Lib.hid (lzB_p (x := ⟨e, o, u⟩) h0)
  clear h0
  cases h1 : decide (1 ≤ e ∧ e ≤ 99)
  · have He : Hid (lzB ⟨e, o, u⟩ = false) := by show lzB _ = _; rw [HP.out]; simp [vsB, h1]
    go_enter Try.func34, Try.ntmps34
    go_wp2_with (first | (go_at_call 38; refine (in_any _ _ _ _).mono ?_; rintro e w' ⟨rfl, rfl⟩) | (go_at_call 45; refine (point_any _ _).mono ?_; rintro e w' ⟨rfl, rfl⟩))
    go_ret
    exact ⟨ret_bool He.out.symm, HB.out _⟩
  cases h3 : ptB o
  · have He : Hid (lzB ⟨e, o, u⟩ = false) := by show lzB _ = _; rw [HP.out]; simp [h3]
    go_enter Try.func34, Try.ntmps34
    go_wp2_with (first | (go_at_call 38; refine (in_any _ _ _ _).mono ?_; rintro e w' ⟨rfl, rfl⟩) | (go_at_call 45; refine (point_any _ _).mono ?_; rintro e w' ⟨rfl, rfl⟩))
    go_ret
    exact ⟨ret_bool He.out.symm, HB.out _⟩
  · have He : Hid (lzB ⟨e, o, u⟩ = decide (0 ≤ u ∧ u ≤ 99)) := by show lzB _ = _; rw [HP.out]; simp at h1; simp [h3, (vsB_iff e).2 h1, vlB]
    go_enter Try.func34, Try.ntmps34
    go_wp2_with (first | (go_at_call 38; refine (in_any _ _ _ _).mono ?_; rintro e w' ⟨rfl, rfl⟩) | (go_at_call 45; refine (point_any _ _).mono ?_; rintro e w' ⟨rfl, rfl⟩))
    go_ret
    exact ⟨ret_bool (by rw [He.out, Bool.eq_iff_iff]; simp), HB.out _⟩

set_option maxHeartbeats 1000000 in
theorem sless_any (x y : Ls) (w : World) :
    Calls Try.prog 46 #[.agg #[.int .i64 x.e, .int .i64 x.o, .int .i64 x.u], .agg #[.int .i64 y.e, .int .i64 y.o, .int .i64 y.u]] w fun e w' => e = .returned (.bool (ltB x y)) ∧ Below w.heap.size w w' := by
  have HB : Hid (∀ a b, Below w.heap.size w ((w.alloc a).alloc b)) := fun a b => ((Below.refl _ _).alloc (Nat.le_refl _) _).alloc (by simp) _
  obtain ⟨e, o, u⟩ := x
  obtain ⟨e', o', u'⟩ := y
  simp only at *
  by_cases h1 : e < e'
  · have He : Hid (ltB ⟨e, o, u⟩ ⟨e', o', u'⟩ = true) := by show _ = _; rw [ltB_iff]; exact .inl h1
    go_enter Try.func46, Try.ntmps46
    go_wp2
    go_ret
    exact ⟨ret_bool He.out.symm, HB.out _ _⟩
  cases h2 : (e == e')
  · have He : Hid (ltB ⟨e, o, u⟩ ⟨e', o', u'⟩ = false) := by show _ = _; rw [ltB_no]; simp at h2; simp; omega
    go_enter Try.func46, Try.ntmps46
    go_wp2
    go_ret
    exact ⟨ret_bool He.out.symm, HB.out _ _⟩
  · have He : Hid (ltB ⟨e, o, u⟩ ⟨e', o', u'⟩ = decide (o < o')) := by show _ = _; rw [Bool.eq_iff_iff, ltB_iff]; simp at h2; simp; omega
    cases h3 : decide (o < o')
    · go_enter Try.func46, Try.ntmps46
      go_wp2
      go_ret
      exact ⟨ret_bool (by rw [He.out, h3]), HB.out _ _⟩
    · go_enter Try.func46, Try.ntmps46
      go_wp2
      go_ret
      exact ⟨ret_bool (by rw [He.out, h3]), HB.out _ _⟩
theorem sless_as (v : Bool) (x y : Ls) (w : World) (hv : ltB x y = v) :
    Calls Try.prog 46 #[.agg #[.int .i64 x.e, .int .i64 x.o, .int .i64 x.u], .agg #[.int .i64 y.e, .int .i64 y.o, .int .i64 y.u]] w fun e w' => e = .returned (.bool v) ∧ Below w.heap.size w w' := by subst hv; exact sless_any x y w

set_option maxHeartbeats 2000000 in
theorem slvs_any (a : Option Addr) (len cap : Nat) (L : List Ls) (w : World) (h : LsAt w a L) (hz : L.length = len) (hm : len ≤ maxLen) :
    Calls Try.prog 16 #[.slice a len cap] w fun e w' => e = .returned (.bool (lvB L)) ∧ Below w.heap.size w w' := by
  have HI := Lib.hid h
  have HZ := Lib.hid hz
  unfold maxLen at hm
  clear h hz
  go_enter Try.func16, Try.ntmps16
  go_wp2
  go_loopw [3] (fun i wr => ∃ k : Nat, k ≤ len ∧ i = .int .i64 k ∧ okTo L k = true ∧ Below w.heap.size w wr) (fun i _ => len - (intOf i).toNat)
  case atStart => exact ⟨0, by omega, rfl, rfl, Below.refl _ _⟩
  case round =>
    obtain ⟨k, hk, rfl, hall, hbel⟩ := hrel
    have HA := Lib.hid hall
    clear hall
    by_cases hlt : k < len
    · obtain ⟨b, off, rfl, hb0, hcells⟩ := (HI.out.keepB hbel (Nat.le_refl _)).at_ (i := k) (by rw [HZ.out]; exact hlt)
      obtain ⟨hc0, hc1, hc2⟩ := hcells k (by rw [HZ.out]; exact hlt)
      have HC := Lib.hid hcells
      clear hcells
      have hkL : Hid (k < L.length) := by show k < L.length; rw [HZ.out]; exact hlt
      go_wp2_with fail
      refine (srep_any (gl L k) wr).mono ?_
      rintro e w2 ⟨rfl, hb2⟩
      have hB2 : Below w.heap.size w w2 := hbel.trans (hb2.mono hbel.size)
      have hb02 : b < w2.heap.size := by have := hb2.size; omega
      have HC2 : Hid (∀ i, i < L.length → LsCell w2 b (off + i * 3) (gl L i)) := fun i hi => by
        obtain ⟨h1, h2, h3⟩ := HC.out i hi
        exact ⟨(hb2.cell (p := ⟨b, _, none⟩) hb0).trans h1, (hb2.cell (p := ⟨b, _, none⟩) hb0).trans h2, (hb2.cell (p := ⟨b, _, none⟩) hb0).trans h3⟩
      clear hc0 hc1 hc2
      cases hn : lzB (gl L k)
      · have HL := Lib.hid (lvB_no_ls hkL.out hn)
        go_wp2
        go_ret
        exact ⟨ret_bool HL.out.symm, hB2⟩
      have HN := Lib.hid hn
      clear hn
      go_wp2
      go_loopw [4] (fun j wr2 => ∃ m : Nat, m ≤ k ∧ j = .int .i64 m ∧ fineTo L (gl L k) m = true ∧ Same w2 wr2) (fun j _ => k - (intOf j).toNat)
      case atStart => exact ⟨0, by omega, rfl, rfl, Same.refl _⟩
      case round =>
        obtain ⟨m, hmk, rfl, hfine, hs⟩ := hrel
        have HF := Lib.hid hfine
        clear hfine
        have hB3 : Below w.heap.size w wr := hB2.trans ((hs.below w2.heap.size).mono hB2.size)
        by_cases hlm : m < k
        · obtain ⟨c0, c1, c2⟩ := HC2.out k hkL.out
          obtain ⟨d0, d1, d2⟩ := HC2.out m (Nat.lt_trans hlm hkL.out)
          have c0 := (hs.cell ⟨b, off + k * 3, none⟩).trans c0
          have c1 := (hs.cell ⟨b, off + k * 3 + 1, none⟩).trans c1
          have c2 := (hs.cell ⟨b, off + k * 3 + 2, none⟩).trans c2
          have d0 := (hs.cell ⟨b, off + m * 3, none⟩).trans d0
          have d1 := (hs.cell ⟨b, off + m * 3 + 1, none⟩).trans d1
          have d2 := (hs.cell ⟨b, off + m * 3 + 2, none⟩).trans d2
          have i0 : (0 : Int) ≤ (k : Int) := by omega
          have i1 : (k : Int) < (len : Int) := by omega
          have j0 : (0 : Int) ≤ (m : Int) := by omega
          have j1 : (m : Int) < (len : Int) := by omega
          have j2 : m < len := by omega
          cases e0 : ((gl L m).e == (gl L k).e)
          · have HN0 : Hid (cfB (gl L k) (gl L m) = false) := by show _ = false; rw [cfB_no]; simp at e0; intro hx; omega
            go_wp2
            go_quiet (fail)
            go_wp2
            go_roundw
            case rel => exact ⟨m + 1, by omega, by go_num, fineTo_s HF.out HN0.out, hs.drewN _⟩
            case measure => simp [intOf]; omega
          cases e1 : ((gl L m).o == (gl L k).o)
          · have HN0 : Hid (cfB (gl L k) (gl L m) = false) := by show _ = false; rw [cfB_no]; simp at e1; intro _ hx; omega
            go_wp2
            go_quiet (fail)
            go_wp2
            go_roundw
            case rel => exact ⟨m + 1, by omega, by go_num, fineTo_s HF.out HN0.out, hs.drewN _⟩
            case measure => simp [intOf]; omega
          cases e2 : ((gl L m).u == (gl L k).u)
          · have HL : Hid (lvB L = false) := lvB_no_cf hkL.out hlm (by rw [cfB_iff]; simp at e0 e1 e2; exact ⟨e0.symm, e1.symm, fun hx => e2 hx.symm⟩)
            go_wp2
            go_quiet (fail)
            go_wp2
            go_ret
            exact ⟨ret_bool HL.out.symm, hB3.trans (((Same.refl _).drewN _).below _)⟩
          · have HN0 : Hid (cfB (gl L k) (gl L m) = false) := by show _ = false; rw [cfB_no]; simp at e2; intro _ _; omega
            go_wp2
            go_quiet (fail)
            go_wp2
            go_roundw
            case rel => exact ⟨m + 1, by omega, by go_num, fineTo_s HF.out HN0.out, hs.drewN _⟩
            case measure => simp [intOf]; omega
        · have hmm : m = k := by omega
          subst hmm
          go_wp2
          go_roundw
          case rel => exact ⟨m + 1, by omega, by go_num, okTo_s HA.out HN.out HF.out, hB3⟩
          case measure => simp [intOf]; omega
    · have hkk : Hid (k = L.length) := by show k = L.length; rw [HZ.out]; omega
      have HL : Hid (lvB L = decide (1 ≤ L.length ∧ L.length ≤ 5)) := lvB_all (by rw [← hkk.out]; exact HA.out)
      go_wp2_with fail
      refine (in_any _ _ _ _).mono ?_
      rintro e w' ⟨rfl, rfl⟩
      go_wp2
      go_ret
      exact ⟨ret_bool (by rw [HL.out, HZ.out, Bool.eq_iff_iff]; simp; omega), hbel⟩
end Go.Proofs.Ytcjlohikfjafiaa
