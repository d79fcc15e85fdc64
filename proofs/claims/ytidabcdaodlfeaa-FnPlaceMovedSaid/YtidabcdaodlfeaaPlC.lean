/- Copies of tokens, their size, comparing two, and the marks in them. -/
import Derived.Test.YtidabcdaodlfeaaPlS
namespace Go.Proofs.Ytidabcdaodlfeaa
open Go.RowKit
set_option linter.unusedVariables false

/-- what is left behind len -/
def leftK (left : Int) (len : Nat) : Int := if left - len < 0 then -1 else left - len
theorem keptK (w : World) (g i : Nat) (u : Value) : Kept g w (w.setCell ⟨g, i, none⟩ u) := ⟨rfl, rfl, rfl, by simp [World.setCell], fun k hk => heap_set_ne _ _ _ _ _ hk⟩

set_option maxHeartbeats 400000 in
theorem szTk_any (a : Option Addr) (len cap : Nat) (left : Int) (w : World) (h0 : 0 ≤ left) (h1 : left ≤ 1048576) (hm : len ≤ maxLen) :
    Calls Try.prog 43 #[.slice a len cap, .int .i64 left] w fun e w' => e = .returned (.int .i64 (leftK left len)) ∧ w = w' := by
  unfold maxLen at hm
  by_cases hc : left - len < 0
  · have He : Hid (leftK left len = -1) := by show leftK left len = -1; simp [leftK, hc]
    go_enter Try.func43, Try.ntmps43
    go_wp2
    go_ret
    exact ⟨by rw [He.out]; rfl, rfl⟩
  · have He : Hid (leftK left len = left - len) := by show leftK left len = _; simp [leftK, hc]
    go_enter Try.func43, Try.ntmps43
    go_wp2
    go_ret
    exact ⟨by rw [He.out]; rfl, rfl⟩

set_option maxHeartbeats 1000000 in
theorem toTok_any (x : Tk) (w : World) :
    Calls Try.prog 68 #[.agg #[.int .i64 x.p, .int .i64 x.n]] w fun e w' => e = .returned (.agg #[.int .i64 x.p, .int .i64 x.n]) ∧ Below w.heap.size w w' := by
  obtain ⟨e, o⟩ := x
  simp only at *
  have HB : Hid (∀ a b c, Below w.heap.size w (((w.alloc a).alloc b).alloc c)) := fun a b c => (((Below.refl _ _).alloc (Nat.le_refl _) _).alloc (by simp) _).alloc (by simp; omega) _
  go_enter Try.func68, Try.ntmps68
  go_wp2
  refine bodyPost_ret (results_cell_row rfl _ _ (w.heap.size + 1) _ #[.int .i64 e, .int .i64 o] (0, 0) _ rfl ((Below.heap_alloc _ _ _ (by simp)).trans (heap_second w _ _)) Try.underlying35 rfl (by kernel_rfl)) rfl ?_
  exact ⟨rfl, HB.out _ _ _⟩

/-- make of a row of tokens -/
theorem mk_toks (n : Nat) (hn : n ≤ 1048576) (w : World) :
    (Instr.makeSlice 31 (.int .i64 (n : Int)) (.int .i64 (n : Int))).run Try.prog w = .ok (.slice (some ⟨w.heap.size, 0, none⟩) n n) (w.alloc (.cells (madeCells #[.int .i64 0, .int .i64 0] (n * 2)) 35)) := by
  obtain ⟨i, hi, hz0, hz1, hz2⟩ := info_parts Try.infoToken
  have hr := run_make (P := Try.prog) w 31 35 i _ Try.underlying31 hi hz0 .i64 .i64 n n (by omega) (Int.le_refl _) (by rw [hz2]; omega) (by omega)
  simp only [Int.toNat_natCast, hz1] at hr
  exact hr
/-- the first k tokens, zeros behind them -/
def cpK (L : List Tk) (k : Nat) : List Tk := (List.range L.length).map fun i => if i < k then gk L i else ⟨0, 0⟩
theorem cpK_len (L : List Tk) (k : Nat) : (cpK L k).length = L.length := by simp [cpK]
theorem cpK_at {L : List Tk} {k i : Nat} (h : i < L.length) : gk (cpK L k) i = if i < k then gk L i else ⟨0, 0⟩ := by rw [gk_get (by rw [cpK_len]; exact h)]; simp [cpK]
theorem cpK_all (L : List Tk) : cpK L L.length = L := gk_ext (cpK_len _ _) fun i hi => by rw [cpK_len] at hi; rw [cpK_at hi, if_pos hi]
theorem cpK_next {L : List Tk} {k : Nat} (h : k < L.length) : (cpK L k).set k (gk L k) = cpK L (k + 1) := by
  refine gk_ext (by simp [cpK_len]) fun i hi => ?_
  rw [List.length_set, cpK_len] at hi
  rw [cpK_at hi]
  by_cases e : k = i
  · subst e; rw [gk_set_eq _ (by rw [cpK_len]; exact h), if_pos (by omega)]
  · rw [gk_set_ne _ e, cpK_at hi]
    by_cases h1 : i < k
    · rw [if_pos h1, if_pos (by omega)]
    · rw [if_neg h1, if_neg (by omega)]
theorem made_tk (L : List Tk) (w : World) (hm : L.length ≤ maxLen) : OwnK (w.alloc (.cells (madeCells #[.int .i64 0, .int .i64 0] (L.length * 2)) 35)) w.heap.size w.heap.size L.length (cpK L 0) := by
  refine ownk_mk (heap_alloc_new w _) (Nat.le_refl _) (by rw [cpK_len]; exact Nat.le_refl _) hm (size_madeCells _ _) fun j u hu => ?_
  have hj : j < L.length * 2 := by
    rcases Nat.lt_or_ge j (L.length * 2) with h' | h'
    · exact h'
    · rw [List.getElem?_eq_none (by rw [flatK_len, cpK_len]; exact h')] at hu; cases hu
  have hz : (madeCells #[.int .i64 0, .int .i64 0] (L.length * 2))[j]? = some (Value.int .i64 0) := by
    have hm3 : j % 2 = 0 ∨ j % 2 = 1 := by omega
    rw [Array.getElem?_eq_getElem (by rw [size_madeCells]; exact hj)]
    rcases hm3 with h | h <;> simp [madeCells, h]
  rw [hz]
  have hjl : j / 2 < L.length := by omega
  obtain ⟨f1, f2⟩ := flatK_at (L := cpK L 0) (i := j / 2) (by rw [cpK_len]; exact hjl)
  rw [cpK_at hjl, if_neg (by omega)] at f1 f2
  have hm : j % 2 = 0 ∨ j % 2 = 1 := by omega
  rcases hm with hm | hm
  · rw [show j = j / 2 * 2 by omega, f1] at hu; exact hu
  · rw [show j = j / 2 * 2 + 1 by omega, f2] at hu; exact hu

/-- a copy in the next block -/
def CopiedK (L : List Tk) (w : World) (e : Ending) (w' : World) : Prop :=
  e = .returned (.slice (some ⟨w.heap.size, 0, none⟩) L.length L.length) ∧ OwnK w' w.heap.size w.heap.size L.length L ∧ Below w.heap.size w w'

set_option maxHeartbeats 1000000 in
theorem toTk_any (a : Option Addr) (len cap : Nat) (L : List Tk) (w : World) (h : TkAt w a L) (hz : L.length = len) (hm : len ≤ 1048576) :
    Calls Try.prog 44 #[.slice a len cap] w (CopiedK L w) := by
  have HI := Lib.hid h
  have HZ := Lib.hid hz
  have hmk := mk_toks len hm
  clear h hz
  go_enter Try.func44, Try.ntmps44
  go_wp2
  clear hmk
  go_loopw [4] (fun i wr => ∃ k : Nat, k ≤ len ∧ i = .int .i64 k ∧ OwnK wr w.heap.size w.heap.size len (cpK L k) ∧ Below w.heap.size w wr) (fun i _ => len - (intOf i).toNat)
  case atStart =>
    refine ⟨0, by omega, rfl, ?_, alB _ _⟩
    have := made_tk L w (by rw [HZ.out]; unfold maxLen; omega)
    rwa [HZ.out] at this
  case round =>
    obtain ⟨k, hk, rfl, hown, hbel⟩ := hrel
    by_cases hlt : k < len
    · have hkr : Hid (k < L.length) := by show k < L.length; rw [HZ.out]; exact hlt
      obtain ⟨b, off, rfl, hb0, hcells⟩ := (HI.out.keepB hbel (Nat.le_refl _)).at_ (i := k) hkr.out
      obtain ⟨hc0, hc1⟩ := hcells k hkr.out
      have HO := Lib.hid hown
      clear hcells hown
      go_wp2_with fail
      refine (toTok_any (gk L k) wr).mono ?_
      rintro e w2 ⟨rfl, hb2⟩
      have ho2 := HO.out.keepB hb2 (Nat.le_refl _)
      obtain ⟨x0, x1⟩ := ho2.cells (i := k) (by rw [cpK_len]; exact hkr.out)
      obtain ⟨_, hlt2, cs, hbk, _⟩ := ho2.blk
      have f0 := frozen_of_cells hbk (k * 2)
      have f1 := frozen_of_cells hbk (k * 2 + 1)
      have H2 := Lib.hid ho2
      clear ho2 hbk
      go_wp2
      go_roundw
      case rel =>
        refine ⟨k + 1, by omega, by go_num, ?_, ((hbel.trans (hb2.mono hbel.size)).setCell (Nat.le_refl _) _).setCell (Nat.le_refl _) _⟩
        have := H2.out.setAll (k := k) (by rw [cpK_len]; exact hkr.out) (gk L k)
        rwa [cpK_next hkr.out] at this
      case measure => simp [intOf]; omega
    · have hkk : k = L.length := by rw [HZ.out]; omega
      have HK := Lib.hid hkk
      have HO := Lib.hid hown
      clear hkk hown
      go_wp2
      go_ret
      refine ⟨by rw [HZ.out]; rfl, ?_, hbel⟩
      have := HO.out
      rwa [HK.out, cpK_all, ← HZ.out] at this

set_option maxHeartbeats 400000 in
theorem eqTok_same (x : Tk) (w : World) :
    Calls Try.prog 67 #[.agg #[.int .i64 x.p, .int .i64 x.n], .agg #[.int .i64 x.p, .int .i64 x.n]] w fun e w' => e = .returned (.bool true) ∧ Below w.heap.size w w' := by
  obtain ⟨e, o⟩ := x
  simp only at *
  have HB : Hid (∀ a b, Below w.heap.size w ((w.alloc a).alloc b)) := fun a b => ((Below.refl _ _).alloc (Nat.le_refl _) _).alloc (by simp) _
  have v0 : (e != e) = false := by simp
  have v1 : (o != o) = false := by simp
  go_enter Try.func67, Try.ntmps67
  go_wp2
  go_ret
  exact ⟨rfl, HB.out _ _⟩

set_option maxHeartbeats 1000000 in
theorem eqTk_same (a1 a2 : Option Addr) (len cap1 cap2 : Nat) (L : List Tk) (w : World) (h1 : TkAt w a1 L) (h2 : TkAt w a2 L) (hz : L.length = len) (hm : len ≤ 1048576) :
    Calls Try.prog 40 #[.slice a1 len cap1, .slice a2 len cap2] w fun e w' => e = .returned (.bool true) ∧ Below w.heap.size w w' := by
  have H1 := Lib.hid h1
  have H2 := Lib.hid h2
  have HZ := Lib.hid hz
  clear h1 h2 hz
  have hne : ((len : Int) != (len : Int)) = false := by simp
  go_enter Try.func40, Try.ntmps40
  go_wp2
  go_loopw [5] (fun i wr => ∃ k : Nat, k ≤ len ∧ i = .int .i64 k ∧ Below w.heap.size w wr) (fun i _ => len - (intOf i).toNat)
  case atStart => exact ⟨0, by omega, rfl, Below.refl _ _⟩
  case round =>
    obtain ⟨k, hk, rfl, hbel⟩ := hrel
    obtain ⟨wo, rfl⟩ : ∃ x, x = wr := ⟨_, rfl⟩
    by_cases hlt : k < len
    · have hkr : Hid (k < L.length) := by show k < L.length; rw [HZ.out]; exact hlt
      obtain ⟨b, off, rfl, hb0, hcells⟩ := (H1.out.keepB hbel (Nat.le_refl _)).at_ (i := k) hkr.out
      obtain ⟨hc0, hc1⟩ := hcells k hkr.out
      obtain ⟨b', off', rfl, hb0', hcells'⟩ := (H2.out.keepB hbel (Nat.le_refl _)).at_ (i := k) hkr.out
      obtain ⟨hd0, hd1⟩ := hcells' k hkr.out
      clear hcells hcells'
      have e0 : ∀ x : Cls (Below wo.heap.size wo), x.to.cell? ⟨b, off + k * 2, none⟩ = some (.int .i64 (gk L k).p) := fun x => (x.ok.cell (p := ⟨b, off + k * 2, none⟩) hb0).trans hc0
      have e1 : ∀ x : Cls (Below wo.heap.size wo), x.to.cell? ⟨b, off + k * 2 + 1, none⟩ = some (.int .i64 (gk L k).n) := fun x => (x.ok.cell (p := ⟨b, off + k * 2 + 1, none⟩) hb0).trans hc1
      have e3 : ∀ x : Cls (Below wo.heap.size wo), x.to.cell? ⟨b', off' + k * 2, none⟩ = some (.int .i64 (gk L k).p) := fun x => (x.ok.cell (p := ⟨b', off' + k * 2, none⟩) hb0').trans hd0
      have e4 : ∀ x : Cls (Below wo.heap.size wo), x.to.cell? ⟨b', off' + k * 2 + 1, none⟩ = some (.int .i64 (gk L k).n) := fun x => (x.ok.cell (p := ⟨b', off' + k * 2 + 1, none⟩) hb0').trans hd1
      have i0 : (0 : Int) ≤ (k : Int) := by omega
      have i1 : (k : Int) < (len : Int) := by omega
      go_wp2
      refine wp_region_cls (Below wo.heap.size wo) (by kernel_rfl) (by kernel_rfl) below_drawn ?_
      repeat (go_big_quiet_step ((go_at_call 67; rename_i x; exact cls_below (eqTok_same (gk L k) _) x.ok (Nat.le_refl _))))
      refine wpQuiet_nil ?_
      intro w2 hw'
      have hb2 := cls_out hw'
      clear hw' e0 e1 e3 e4
      go_wp2
      go_roundw
      case rel => exact ⟨k + 1, by omega, by go_num, hbel.trans (hb2.mono hbel.size)⟩
      case measure => simp [intOf]; omega
    · go_wp2
      go_ret
      exact ⟨rfl, hbel⟩

/-! ### marks -/
def mkOne (k0 : Int) (i : Nat) : Tk := ⟨k0 + 2 * i, k0 + 2 * i + 1⟩
/-- the first k tokens marked -/
def mkTk (k0 : Int) (L : List Tk) (k : Nat) : List Tk := (List.range L.length).map fun i => if i < k then mkOne k0 i else gk L i
theorem mkTk_len (k0 : Int) (L : List Tk) (k : Nat) : (mkTk k0 L k).length = L.length := by simp [mkTk]
theorem mkTk_at {k0 : Int} {L : List Tk} {k i : Nat} (h : i < L.length) : gk (mkTk k0 L k) i = if i < k then mkOne k0 i else gk L i := by rw [gk_get (by rw [mkTk_len]; exact h)]; simp [mkTk]
theorem mkTk_zero (k0 : Int) (L : List Tk) : mkTk k0 L 0 = L := gk_ext (mkTk_len _ _ _) fun i hi => by rw [mkTk_len] at hi; rw [mkTk_at hi, if_neg (by omega)]
theorem mkTk_next {k0 : Int} {L : List Tk} {k : Nat} (h : k < L.length) : (mkTk k0 L k).set k (mkOne k0 k) = mkTk k0 L (k + 1) := by
  refine gk_ext (by simp [mkTk_len]) fun i hi => ?_
  rw [List.length_set, mkTk_len] at hi
  rw [mkTk_at hi]
  by_cases e : k = i
  · subst e; rw [gk_set_eq _ (by rw [mkTk_len]; exact h), if_pos (by omega)]
  · rw [gk_set_ne _ e, mkTk_at hi]
    by_cases h1 : i < k
    · rw [if_pos h1, if_pos (by omega)]
    · rw [if_neg h1, if_neg (by omega)]
theorem mkOne_e (k0 : Int) (i : Nat) : (mkOne k0 i).p = k0 + 2 * i := rfl
theorem mkOne_o (k0 : Int) (i : Nat) : (mkOne k0 i).n = k0 + 2 * i + 1 := rfl

set_option maxHeartbeats 1000000 in
theorem markTk_any (base g len cap : Nat) (L : List Tk) (k0 : Int) (w : World) (h : OwnK w base g cap L) (hz : L.length = len) (h0 : 0 ≤ k0) (h1 : k0 ≤ 1000000000) (hm : len ≤ 1048576) :
    Calls Try.prog 41 #[.slice (some ⟨g, 0, none⟩) len cap, .int .i64 k0] w fun e w' => e = .returned (.int .i64 (k0 + 2 * len)) ∧ OwnK w' base g cap (mkTk k0 L L.length) ∧ Kept g w w' := by
  have H := Lib.hid h
  have HZ := Lib.hid hz
  clear h hz
  go_enter Try.func41, Try.ntmps41
  go_wp2
  go_loopw [1, 5] (fun l i wr => ∃ k : Nat, k ≤ len ∧ i = .int .i64 k ∧ l = .int .i64 (k0 + 2 * k) ∧ OwnK wr base g cap (mkTk k0 L k) ∧ Kept g w wr) (fun _ i _ => len - (intOf i).toNat)
  case atStart => exact ⟨0, by omega, rfl, by simp, by rw [mkTk_zero]; exact H.out, Kept.refl _ _⟩
  case round =>
    obtain ⟨k, hk, rfl, rfl, hown, hkp⟩ := hrel
    by_cases hlt : k < len
    · have hkr : Hid (k < L.length) := by show k < L.length; rw [HZ.out]; exact hlt
      obtain ⟨x0, x1⟩ := hown.cells (i := k) (by rw [mkTk_len]; exact hkr.out)
      obtain ⟨_, hlt2, cs, hbk, _⟩ := hown.blk
      have f0 := frozen_of_cells hbk (k * 2)
      have f1 := frozen_of_cells hbk (k * 2 + 1)
      have HO := Lib.hid hown
      clear hown hbk
      go_wp2
      go_roundw
      case rel =>
        refine ⟨k + 1, by omega, by go_num, by go_num, ?_, (hkp.trans (keptK _ _ _ _)).trans (keptK _ _ _ _)⟩
        have := HO.out.setAll (k := k) (by rw [mkTk_len]; exact hkr.out) (mkOne k0 k)
        rw [mkTk_next hkr.out, mkOne_e, mkOne_o] at this
        exact this
      case measure => simp [intOf]; omega
    · have hkk : k = L.length := by rw [HZ.out]; omega
      have HK := Lib.hid hkk
      have HO := Lib.hid hown
      clear hkk hown
      go_wp2
      go_ret
      refine ⟨by rw [← HZ.out, ← HK.out]; rfl, ?_, hkp⟩
      have := HO.out
      rwa [HK.out] at this

set_option maxHeartbeats 1000000 in
theorem heldTk_any (a : Option Addr) (len cap : Nat) (L : List Tk) (k0 : Int) (w : World) (h : TkAt w a (mkTk k0 L L.length)) (hz : L.length = len) (h0 : 0 ≤ k0) (h1 : k0 ≤ 1000000000) (hm : len ≤ 1048576) :
    Calls Try.prog 42 #[.slice a len cap, .int .i64 k0] w fun e w' => e = .returned (.int .i64 (k0 + 2 * len)) ∧ Same w w' := by
  have H := Lib.hid h
  have HZ := Lib.hid hz
  clear h hz
  go_enter Try.func42, Try.ntmps42
  go_wp2
  go_loopw [1, 5] (fun l i wr => ∃ k : Nat, k ≤ len ∧ i = .int .i64 k ∧ l = .int .i64 (k0 + 2 * k) ∧ Same w wr) (fun _ i _ => len - (intOf i).toNat)
  case atStart => exact ⟨0, by omega, rfl, by simp, Same.refl _⟩
  case round =>
    obtain ⟨k, hk, rfl, rfl, hs⟩ := hrel
    by_cases hlt : k < len
    · have hkr : Hid (k < L.length) := by show k < L.length; rw [HZ.out]; exact hlt
      obtain ⟨b, off, rfl, hb0, hcells⟩ := (H.out.same hs).at_ (i := k) (by rw [mkTk_len]; exact hkr.out)
      obtain ⟨hc0, hc1⟩ := hcells k (by rw [mkTk_len]; exact hkr.out)
      rw [mkTk_at hkr.out, if_pos hkr.out, mkOne_e] at hc0
      rw [mkTk_at hkr.out, if_pos hkr.out, mkOne_o] at hc1
      clear hcells
      have v0 : ((k0 + 2 * (k : Int)) != (k0 + 2 * (k : Int))) = false := by simp
      have v1 : ((k0 + 2 * (k : Int) + 1) != (k0 + 2 * (k : Int) + 1)) = false := by simp
      go_wp2
      go_roundw
      case rel => exact ⟨k + 1, by omega, by go_num, by go_num, hs⟩
      case measure => simp [intOf]; omega
    · have hkk : k = len := by omega
      have HK := Lib.hid hkk
      clear hkk
      go_wp2
      go_ret
      exact ⟨by rw [← HK.out]; rfl, hs⟩
end Go.Proofs.Ytidabcdaodlfeaa
