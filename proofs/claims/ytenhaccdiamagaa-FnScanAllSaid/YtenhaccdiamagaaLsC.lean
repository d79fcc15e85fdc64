/- Copies of leases, their size, comparing two, and the marks in them. -/
import Derived.Test.YtenhaccdiamagaaLsV
namespace Go.Proofs.Ytenhaccdiamagaa
open Go.RowKit
set_option linter.unusedVariables false

/-- what is left behind len -/
def leftL (left : Int) (len : Nat) : Int := if left - len < 0 then -1 else left - len
theorem keptC (w : World) (g i : Nat) (u : Value) : Kept g w (w.setCell ⟨g, i, none⟩ u) := ⟨rfl, rfl, rfl, by simp [World.setCell], fun k hk => heap_set_ne _ _ _ _ _ hk⟩

set_option maxHeartbeats 400000 in
theorem szLs_any (a : Option Addr) (len cap : Nat) (left : Int) (w : World) (h0 : 0 ≤ left) (h1 : left ≤ 1048576) (hm : len ≤ maxLen) :
    Calls Try.prog 38 #[.slice a len cap, .int .i64 left] w fun e w' => e = .returned (.int .i64 (leftL left len)) ∧ w = w' := by
  unfold maxLen at hm
  by_cases hc : left - len < 0
  · have He : Hid (leftL left len = -1) := by show leftL left len = -1; simp [leftL, hc]
    go_enter Try.func38, Try.ntmps38
    go_wp2
    go_ret
    exact ⟨by rw [He.out]; rfl, rfl⟩
  · have He : Hid (leftL left len = left - len) := by show leftL left len = _; simp [leftL, hc]
    go_enter Try.func38, Try.ntmps38
    go_wp2
    go_ret
    exact ⟨by rw [He.out]; rfl, rfl⟩

set_option maxHeartbeats 1000000 in
theorem toLease_any (x : Ls) (w : World) :
    Calls Try.prog 69 #[.agg #[.int .i64 x.e, .int .i64 x.o, .int .i64 x.u]] w fun e w' => e = .returned (.agg #[.int .i64 x.e, .int .i64 x.o, .int .i64 x.u]) ∧ Below w.heap.size w w' := by
  obtain ⟨e, o, u⟩ := x
  simp only at *
  have HB : Hid (∀ a b c, Below w.heap.size w (((w.alloc a).alloc b).alloc c)) := fun a b c => (((Below.refl _ _).alloc (Nat.le_refl _) _).alloc (by simp) _).alloc (by simp; omega) _
  go_enter Try.func69, Try.ntmps69
  go_wp2
  refine bodyPost_ret (results_cell_row rfl _ _ (w.heap.size + 1) _ #[.int .i64 e, .int .i64 o, .int .i64 u] (0, 0) _ rfl ((Below.heap_alloc _ _ _ (by simp)).trans (heap_second w _ _)) Try.underlying36 rfl (by kernel_rfl)) rfl ?_
  exact ⟨rfl, HB.out _ _ _⟩

/-- make of a row of leases -/
theorem mk_leases (n : Nat) (hn : n ≤ 1048576) (w : World) :
    (Instr.makeSlice 23 (.int .i64 (n : Int)) (.int .i64 (n : Int))).run Try.prog w = .ok (.slice (some ⟨w.heap.size, 0, none⟩) n n) (w.alloc (.cells (madeCells #[.int .i64 0, .int .i64 0, .int .i64 0] (n * 3)) 36)) := by
  obtain ⟨i, hi, hz0, hz1, hz2⟩ := info_parts Try.infoLease
  have hr := run_make (P := Try.prog) w 23 36 i _ Try.underlying23 hi hz0 .i64 .i64 n n (by omega) (Int.le_refl _) (by rw [hz2]; omega) (by omega)
  simp only [Int.toNat_natCast, hz1] at hr
  exact hr
/-- the first k leases, zeros behind them -/
def cpL (L : List Ls) (k : Nat) : List Ls := (List.range L.length).map fun i => if i < k then gl L i else ⟨0, 0, 0⟩
theorem cpL_len (L : List Ls) (k : Nat) : (cpL L k).length = L.length := by simp [cpL]
theorem cpL_at {L : List Ls} {k i : Nat} (h : i < L.length) : gl (cpL L k) i = if i < k then gl L i else ⟨0, 0, 0⟩ := by rw [gl_get (by rw [cpL_len]; exact h)]; simp [cpL]
theorem cpL_all (L : List Ls) : cpL L L.length = L := gl_ext (cpL_len _ _) fun i hi => by rw [cpL_len] at hi; rw [cpL_at hi, if_pos hi]
theorem cpL_next {L : List Ls} {k : Nat} (h : k < L.length) : (cpL L k).set k (gl L k) = cpL L (k + 1) := by
  refine gl_ext (by simp [cpL_len]) fun i hi => ?_
  rw [List.length_set, cpL_len] at hi
  rw [cpL_at hi]
  by_cases e : k = i
  · subst e; rw [gl_set_eq _ (by rw [cpL_len]; exact h), if_pos (by omega)]
  · rw [gl_set_ne _ e, cpL_at hi]
    by_cases h1 : i < k
    · rw [if_pos h1, if_pos (by omega)]
    · rw [if_neg h1, if_neg (by omega)]
theorem made_ls (L : List Ls) (w : World) (hm : L.length ≤ maxLen) : OwnS (w.alloc (.cells (madeCells #[.int .i64 0, .int .i64 0, .int .i64 0] (L.length * 3)) 36)) w.heap.size w.heap.size L.length (cpL L 0) := by
  refine own_mk (heap_alloc_new w _) (Nat.le_refl _) (by rw [cpL_len]; exact Nat.le_refl _) hm (size_madeCells _ _) fun j u hu => ?_
  have hj : j < L.length * 3 := by
    rcases Nat.lt_or_ge j (L.length * 3) with h' | h'
    · exact h'
    · rw [List.getElem?_eq_none (by rw [flat_len, cpL_len]; exact h')] at hu; cases hu
  have hz : (madeCells #[.int .i64 0, .int .i64 0, .int .i64 0] (L.length * 3))[j]? = some (Value.int .i64 0) := by
    have hm3 : j % 3 = 0 ∨ j % 3 = 1 ∨ j % 3 = 2 := by omega
    rw [Array.getElem?_eq_getElem (by rw [size_madeCells]; exact hj)]
    rcases hm3 with h | h | h <;> simp [madeCells, h]
  rw [hz]
  have hjl : j / 3 < L.length := by omega
  obtain ⟨f1, f2, f3⟩ := flat_at (L := cpL L 0) (i := j / 3) (by rw [cpL_len]; exact hjl)
  rw [cpL_at hjl, if_neg (by omega)] at f1 f2 f3
  have hm : j % 3 = 0 ∨ j % 3 = 1 ∨ j % 3 = 2 := by omega
  rcases hm with hm | hm | hm
  · rw [show j = j / 3 * 3 by omega, f1] at hu; exact hu
  · rw [show j = j / 3 * 3 + 1 by omega, f2] at hu; exact hu
  · rw [show j = j / 3 * 3 + 2 by omega, f3] at hu; exact hu

/-- a copy in the next block -/
def CopiedL (L : List Ls) (w : World) (e : Ending) (w' : World) : Prop :=
  e = .returned (.slice (some ⟨w.heap.size, 0, none⟩) L.length L.length) ∧ OwnS w' w.heap.size w.heap.size L.length L ∧ Below w.heap.size w w'

set_option maxHeartbeats 1000000 in
theorem toLs_any (a : Option Addr) (len cap : Nat) (L : List Ls) (w : World) (h : LsAt w a L) (hz : L.length = len) (hm : len ≤ 1048576) :
    Calls Try.prog 39 #[.slice a len cap] w (CopiedL L w) := by
  have HI := Lib.hid h
  have HZ := Lib.hid hz
  have hmk := mk_leases len hm
  clear h hz
  go_enter Try.func39, Try.ntmps39
  go_wp2
  clear hmk
  go_loopw [4] (fun i wr => ∃ k : Nat, k ≤ len ∧ i = .int .i64 k ∧ OwnS wr w.heap.size w.heap.size len (cpL L k) ∧ Below w.heap.size w wr) (fun i _ => len - (intOf i).toNat)
  case atStart =>
    refine ⟨0, by omega, rfl, ?_, alB _ _⟩
    have := made_ls L w (by rw [HZ.out]; unfold maxLen; omega)
    rwa [HZ.out] at this
  case round =>
    obtain ⟨k, hk, rfl, hown, hbel⟩ := hrel
    by_cases hlt : k < len
    · have hkr : Hid (k < L.length) := by show k < L.length; rw [HZ.out]; exact hlt
      obtain ⟨b, off, rfl, hb0, hcells⟩ := (HI.out.keepB hbel (Nat.le_refl _)).at_ (i := k) hkr.out
      obtain ⟨hc0, hc1, hc2⟩ := hcells k hkr.out
      have HO := Lib.hid hown
      clear hcells hown
      go_wp2_with fail
      refine (toLease_any (gl L k) wr).mono ?_
      rintro e w2 ⟨rfl, hb2⟩
      have ho2 := HO.out.keepB hb2 (Nat.le_refl _)
      obtain ⟨x0, x1, x2⟩ := ho2.cells (i := k) (by rw [cpL_len]; exact hkr.out)
      obtain ⟨_, hlt2, cs, hbk, _⟩ := ho2.blk
      have f0 := frozen_of_cells hbk (k * 3)
      have f1 := frozen_of_cells hbk (k * 3 + 1)
      have f2 := frozen_of_cells hbk (k * 3 + 2)
      have H2 := Lib.hid ho2
      clear ho2 hbk
      go_wp2
      go_roundw
      case rel =>
        refine ⟨k + 1, by omega, by go_num, ?_, (((hbel.trans (hb2.mono hbel.size)).setCell (Nat.le_refl _) _).setCell (Nat.le_refl _) _).setCell (Nat.le_refl _) _⟩
        have := H2.out.setAll (k := k) (by rw [cpL_len]; exact hkr.out) (gl L k)
        rwa [cpL_next hkr.out] at this
      case measure => simp [intOf]; omega
    · have hkk : k = L.length := by rw [HZ.out]; omega
      have HK := Lib.hid hkk
      have HO := Lib.hid hown
      clear hkk hown
      go_wp2
      go_ret
      refine ⟨by rw [HZ.out]; rfl, ?_, hbel⟩
      have := HO.out
      rwa [HK.out, cpL_all, ← HZ.out] at this

set_option maxHeartbeats 400000 in
theorem eqLease_same (x : Ls) (w : World) :
    Calls Try.prog 70 #[.agg #[.int .i64 x.e, .int .i64 x.o, .int .i64 x.u], .agg #[.int .i64 x.e, .int .i64 x.o, .int .i64 x.u]] w fun e w' => e = .returned (.bool true) ∧ Below w.heap.size w w' := by
  obtain ⟨e, o, u⟩ := x
  simp only at *
  have HB : Hid (∀ a b, Below w.heap.size w ((w.alloc a).alloc b)) := fun a b => ((Below.refl _ _).alloc (Nat.le_refl _) _).alloc (by simp) _
  have v0 : (e != e) = false := by simp
  have v1 : (o != o) = false := by simp
  have v2 : (u != u) = false := by simp
  go_enter Try.func70, Try.ntmps70
  go_wp2
  go_ret
  exact ⟨rfl, HB.out _ _⟩

set_option maxHeartbeats 1000000 in
theorem eqLs_same (a1 a2 : Option Addr) (len cap1 cap2 : Nat) (L : List Ls) (w : World) (h1 : LsAt w a1 L) (h2 : LsAt w a2 L) (hz : L.length = len) (hm : len ≤ 1048576) :
    Calls Try.prog 41 #[.slice a1 len cap1, .slice a2 len cap2] w fun e w' => e = .returned (.bool true) ∧ Below w.heap.size w w' := by
  have H1 := Lib.hid h1
  have H2 := Lib.hid h2
  have HZ := Lib.hid hz
  clear h1 h2 hz
  have hne : ((len : Int) != (len : Int)) = false := by simp
  go_enter Try.func41, Try.ntmps41
  go_wp2
  go_loopw [5] (fun i wr => ∃ k : Nat, k ≤ len ∧ i = .int .i64 k ∧ Below w.heap.size w wr) (fun i _ => len - (intOf i).toNat)
  case atStart => exact ⟨0, by omega, rfl, Below.refl _ _⟩
  case round =>
    obtain ⟨k, hk, rfl, hbel⟩ := hrel
    obtain ⟨wo, rfl⟩ : ∃ x, x = wr := ⟨_, rfl⟩
    by_cases hlt : k < len
    · have hkr : Hid (k < L.length) := by show k < L.length; rw [HZ.out]; exact hlt
      obtain ⟨b, off, rfl, hb0, hcells⟩ := (H1.out.keepB hbel (Nat.le_refl _)).at_ (i := k) hkr.out
      obtain ⟨hc0, hc1, hc2⟩ := hcells k hkr.out
      obtain ⟨b', off', rfl, hb0', hcells'⟩ := (H2.out.keepB hbel (Nat.le_refl _)).at_ (i := k) hkr.out
      obtain ⟨hd0, hd1, hd2⟩ := hcells' k hkr.out
      clear hcells hcells'
      have e0 : ∀ x : Cls (Below wo.heap.size wo), x.to.cell? ⟨b, off + k * 3, none⟩ = some (.int .i64 (gl L k).e) := fun x => (x.ok.cell (p := ⟨b, off + k * 3, none⟩) hb0).trans hc0
      have e1 : ∀ x : Cls (Below wo.heap.size wo), x.to.cell? ⟨b, off + k * 3 + 1, none⟩ = some (.int .i64 (gl L k).o) := fun x => (x.ok.cell (p := ⟨b, off + k * 3 + 1, none⟩) hb0).trans hc1
      have e2 : ∀ x : Cls (Below wo.heap.size wo), x.to.cell? ⟨b, off + k * 3 + 2, none⟩ = some (.int .i64 (gl L k).u) := fun x => (x.ok.cell (p := ⟨b, off + k * 3 + 2, none⟩) hb0).trans hc2
      have e3 : ∀ x : Cls (Below wo.heap.size wo), x.to.cell? ⟨b', off' + k * 3, none⟩ = some (.int .i64 (gl L k).e) := fun x => (x.ok.cell (p := ⟨b', off' + k * 3, none⟩) hb0').trans hd0
      have e4 : ∀ x : Cls (Below wo.heap.size wo), x.to.cell? ⟨b', off' + k * 3 + 1, none⟩ = some (.int .i64 (gl L k).o) := fun x => (x.ok.cell (p := ⟨b', off' + k * 3 + 1, none⟩) hb0').trans hd1
      have e5 : ∀ x : Cls (Below wo.heap.size wo), x.to.cell? ⟨b', off' + k * 3 + 2, none⟩ = some (.int .i64 (gl L k).u) := fun x => (x.ok.cell (p := ⟨b', off' + k * 3 + 2, none⟩) hb0').trans hd2
      have i0 : (0 : Int) ≤ (k : Int) := by omega
      have i1 : (k : Int) < (len : Int) := by omega
      go_wp2
      refine wp_region_cls (Below wo.heap.size wo) (by kernel_rfl) (by kernel_rfl) below_drawn ?_
      repeat (go_big_quiet_step ((go_at_call 70; rename_i x; exact cls_below (eqLease_same (gl L k) _) x.ok (Nat.le_refl _))))
      refine wpQuiet_nil ?_
      intro w2 hw'
      have hb2 := cls_out hw'
      clear hw' e0 e1 e2 e3 e4 e5
      go_wp2
      go_roundw
      case rel => exact ⟨k + 1, by omega, by go_num, hbel.trans (hb2.mono hbel.size)⟩
      case measure => simp [intOf]; omega
    · go_wp2
      go_ret
      exact ⟨rfl, hbel⟩

/-! ### marks -/
def mkOne (k0 : Int) (i : Nat) : Ls := ⟨k0 + 3 * i, k0 + 3 * i + 1, k0 + 3 * i + 1 + 1⟩
/-- the first k leases marked -/
def mkLs (k0 : Int) (L : List Ls) (k : Nat) : List Ls := (List.range L.length).map fun i => if i < k then mkOne k0 i else gl L i
theorem mkLs_len (k0 : Int) (L : List Ls) (k : Nat) : (mkLs k0 L k).length = L.length := by simp [mkLs]
theorem mkLs_at {k0 : Int} {L : List Ls} {k i : Nat} (h : i < L.length) : gl (mkLs k0 L k) i = if i < k then mkOne k0 i else gl L i := by rw [gl_get (by rw [mkLs_len]; exact h)]; simp [mkLs]
theorem mkLs_zero (k0 : Int) (L : List Ls) : mkLs k0 L 0 = L := gl_ext (mkLs_len _ _ _) fun i hi => by rw [mkLs_len] at hi; rw [mkLs_at hi, if_neg (by omega)]
theorem mkLs_next {k0 : Int} {L : List Ls} {k : Nat} (h : k < L.length) : (mkLs k0 L k).set k (mkOne k0 k) = mkLs k0 L (k + 1) := by
  refine gl_ext (by simp [mkLs_len]) fun i hi => ?_
  rw [List.length_set, mkLs_len] at hi
  rw [mkLs_at hi]
  by_cases e : k = i
  · subst e; rw [gl_set_eq _ (by rw [mkLs_len]; exact h), if_pos (by omega)]
  · rw [gl_set_ne _ e, mkLs_at hi]
    by_cases h1 : i < k
    · rw [if_pos h1, if_pos (by omega)]
    · rw [if_neg h1, if_neg (by omega)]
theorem mkOne_e (k0 : Int) (i : Nat) : (mkOne k0 i).e = k0 + 3 * i := rfl
theorem mkOne_o (k0 : Int) (i : Nat) : (mkOne k0 i).o = k0 + 3 * i + 1 := rfl
theorem mkOne_u (k0 : Int) (i : Nat) : (mkOne k0 i).u = k0 + 3 * i + 1 + 1 := rfl

set_option maxHeartbeats 1000000 in
theorem markLs_any (base g len cap : Nat) (L : List Ls) (k0 : Int) (w : World) (h : OwnS w base g cap L) (hz : L.length = len) (h0 : 0 ≤ k0) (h1 : k0 ≤ 1000000000) (hm : len ≤ 1048576) :
    Calls Try.prog 43 #[.slice (some ⟨g, 0, none⟩) len cap, .int .i64 k0] w fun e w' => e = .returned (.int .i64 (k0 + 3 * len)) ∧ OwnS w' base g cap (mkLs k0 L L.length) ∧ Kept g w w' := by
  have H := Lib.hid h
  have HZ := Lib.hid hz
  clear h hz
  go_enter Try.func43, Try.ntmps43
  go_wp2
  go_loopw [1, 5] (fun l i wr => ∃ k : Nat, k ≤ len ∧ i = .int .i64 k ∧ l = .int .i64 (k0 + 3 * k) ∧ OwnS wr base g cap (mkLs k0 L k) ∧ Kept g w wr) (fun _ i _ => len - (intOf i).toNat)
  case atStart => exact ⟨0, by omega, rfl, by simp, by rw [mkLs_zero]; exact H.out, Kept.refl _ _⟩
  case round =>
    obtain ⟨k, hk, rfl, rfl, hown, hkp⟩ := hrel
    by_cases hlt : k < len
    · have hkr : Hid (k < L.length) := by show k < L.length; rw [HZ.out]; exact hlt
      obtain ⟨x0, x1, x2⟩ := hown.cells (i := k) (by rw [mkLs_len]; exact hkr.out)
      obtain ⟨_, hlt2, cs, hbk, _⟩ := hown.blk
      have f0 := frozen_of_cells hbk (k * 3)
      have f1 := frozen_of_cells hbk (k * 3 + 1)
      have f2 := frozen_of_cells hbk (k * 3 + 2)
      have HO := Lib.hid hown
      clear hown hbk
      go_wp2
      go_roundw
      case rel =>
        refine ⟨k + 1, by omega, by go_num, by go_num, ?_, ((hkp.trans (keptC _ _ _ _)).trans (keptC _ _ _ _)).trans (keptC _ _ _ _)⟩
        have := HO.out.setAll (k := k) (by rw [mkLs_len]; exact hkr.out) (mkOne k0 k)
        rw [mkLs_next hkr.out, mkOne_e, mkOne_o, mkOne_u] at this
        exact this
      case measure => simp [intOf]; omega
    · have hkk : k = L.length := by rw [HZ.out]; omega
      have HK := Lib.hid hkk
      have HO := Lib.hid hown
      clear hkk hown
      go_wp2
      go_ret
      refine ⟨by rw [← HZ.out, ← HK.out]; rfl, ?_, hkp⟩
      have := HO.out
      rwa [HK.out] at this

end Go.Proofs.Ytenhaccdiamagaa
