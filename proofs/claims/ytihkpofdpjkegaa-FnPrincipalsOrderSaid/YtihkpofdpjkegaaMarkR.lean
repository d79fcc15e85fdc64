/- Sizes of rings; comparing two; the marks in rings and in slices of numbers. -/
import Derived.Test.YtihkpofdpjkegaaCopyR
namespace Go.Proofs.Ytihkpofdpjkegaa
open Go.RowKit
set_option linter.unusedVariables false

/-- what is left behind len -/
def leftI (left : Int) (len : Nat) : Int := if left - len < 0 then -1 else left - len

set_option maxHeartbeats 400000 in
theorem szInts_any (a : Option Addr) (len cap : Nat) (left : Int) (w : World) (h0 : 0 ≤ left) (h1 : left ≤ 1048576) (hm : len ≤ maxLen) :
    Calls Try.prog 72 #[.slice a len cap, .int .i64 left] w fun e w' => e = .returned (.int .i64 (leftI left len)) ∧ w = w' := by
  unfold maxLen at hm
  by_cases hc : left - len < 0
  · have He : Hid (leftI left len = -1) := by show leftI left len = -1; simp [leftI, hc]
    go_enter Try.func72, Try.ntmps72
    go_wp2
    go_ret
    exact ⟨by rw [He.out]; rfl, rfl⟩
  · have He : Hid (leftI left len = left - len) := by show leftI left len = _; simp [leftI, hc]
    go_enter Try.func72, Try.ntmps72
    go_wp2
    go_ret
    exact ⟨by rw [He.out]; rfl, rfl⟩

set_option maxHeartbeats 400000 in
theorem szNode_any (n : Nd) (sa : Option Addr) (sc : Nat) (left : Int) (w : World) (h0 : 0 ≤ left) (h1 : left ≤ 1048576) (hm : n.aft.length ≤ maxLen) :
    Calls Try.prog 52 #[.agg #[.int .i64 n.pos, .int .i64 n.bef, .slice sa n.aft.length sc], .int .i64 left] w fun e w' => e = .returned (.int .i64 (leftI left n.aft.length)) ∧ Below w.heap.size w w' := by
  have HM := Lib.hid hm
  clear hm
  go_enter Try.func52, Try.ntmps52
  go_wp2_with fail
  refine (szInts_any sa n.aft.length sc left _ h0 h1 HM.out).mono ?_
  rintro e w' ⟨rfl, rfl⟩
  by_cases hc : left - n.aft.length < 0
  · have He : leftI left n.aft.length = -1 := by simp [leftI, hc]
    rw [He]
    have HE := Lib.hid He
    clear He
    go_wp2
    go_ret
    exact ⟨by rw [HE.out]; rfl, (Below.refl _ _).alloc (Nat.le_refl _) _⟩
  · have He : leftI left n.aft.length = left - n.aft.length := by simp [leftI, hc]
    rw [He]
    have HE := Lib.hid He
    clear He
    go_wp2
    go_ret
    exact ⟨by rw [HE.out]; rfl, (Below.refl _ _).alloc (Nat.le_refl _) _⟩

/-- the numbers of successors of the first k nodes -/
def sumA (r : List Nd) : Nat → Nat
  | 0 => 0
  | k + 1 => sumA r k + (gn r k).aft.length
theorem sumA_mono (r : List Nd) {i j : Nat} (h : i ≤ j) : sumA r i ≤ sumA r j := by
  induction j with
  | zero => have : i = 0 := by omega
            subst this; exact Nat.le_refl _
  | succ j ih =>
    rcases Nat.lt_or_ge i (j + 1) with h' | h'
    · have := ih (by omega); simp only [sumA]; omega
    · have : i = j + 1 := by omega
      subst this; exact Nat.le_refl _
theorem sumA_at (r : List Nd) {i : Nat} (h : i < r.length) : (gn r i).aft.length ≤ sumA r r.length := by
  have := sumA_mono r (i := i + 1) (j := r.length) (by omega)
  simp only [sumA] at this; omega
/-- all of a ring -/
def szR (r : List Nd) : Nat := r.length + sumA r r.length
theorem small_of {r : List Nd} (h : szR r ≤ 1048576) : Small r := by
  unfold szR at h
  exact ⟨by omega, fun i hi => by have := sumA_at r hi; omega⟩
/-- the answer of szNodeS -/
def SzPost (r : List Nd) (w : World) (e : Ending) (w' : World) : Prop :=
  ∃ z : Int, e = .returned (.int .i64 z) ∧ ((szR r ≤ 1048576 ∧ z = 1048576 - szR r) ∨ (1048576 < szR r ∧ z = -1)) ∧ Below w.heap.size w w'

set_option maxHeartbeats 1000000 in
theorem szNodes_any (a : Option Addr) (len cap : Nat) (r : List Nd) (w : World) (h : RingAt w a r) (hz : r.length = len) (hm : len ≤ maxLen) :
    Calls Try.prog 27 #[.slice a len cap, .int .i64 1048576] w (SzPost r w) := by
  have HI := Lib.hid h
  have HZ := Lib.hid hz
  clear h hz
  unfold maxLen at hm
  by_cases h1 : 1048576 < len
  · go_enter Try.func27, Try.ntmps27
    go_wp2
    go_ret
    exact ⟨-1, rfl, .inr ⟨by unfold szR; rw [HZ.out]; omega, rfl⟩, Below.refl _ _⟩
  go_enter Try.func27, Try.ntmps27
  go_wp2
  go_loopw [1, 5] (fun l i wr => ∃ (k : Nat) (z : Int), k ≤ len ∧ i = .int .i64 k ∧ l = .int .i64 z ∧ z = 1048576 - len - sumA r k ∧ 0 ≤ z ∧ Below w.heap.size w wr) (fun _ i _ => len - (intOf i).toNat)
  case atStart => exact ⟨0, 1048576 - len, by omega, rfl, by go_num, by simp [sumA], by omega, Below.refl _ _⟩
  case round =>
    obtain ⟨k, z, hk, rfl, rfl, hzz, hz0, hbel⟩ := hrel
    have HZZ := Lib.hid hzz
    have hz1 : z ≤ 1048576 := by omega
    clear hzz
    by_cases hlt : k < len
    · have hkr : k < r.length := by rw [HZ.out]; exact hlt
      obtain ⟨b, off, rfl, hb0, hnodes⟩ := (HI.out.keepB hbel (Nat.le_refl _)).at_ hkr
      obtain ⟨sa, sc, hc0, hc1, hc2, hl, hmx, hints⟩ := node_open (hnodes k hkr)
      clear hnodes hints
      have HM := Lib.hid (Nat.le_trans hl hmx)
      clear hmx
      by_cases hneg : z - (gn r k).aft.length < 0
      · have He : leftI z (gn r k).aft.length = -1 := by simp [leftI, hneg]
        have HE := Lib.hid He
        clear He
        go_wp2_with fail
        refine (szNode_any (gn r k) sa sc z wr hz0 hz1 HM.out).mono ?_
        rintro e w2 ⟨rfl, hb2⟩
        rw [HE.out]
        go_wp2
        go_ret
        refine ⟨-1, rfl, .inr ⟨?_, rfl⟩, hbel.trans (hb2.mono hbel.size)⟩
        have := sumA_mono r (i := k + 1) (j := r.length) (by omega)
        simp only [sumA] at this
        have := HZZ.out
        unfold szR; rw [HZ.out] at *; omega
      · have He : leftI z (gn r k).aft.length = z - (gn r k).aft.length := by simp [leftI, hneg]
        have HE := Lib.hid He
        clear He
        go_wp2_with fail
        refine (szNode_any (gn r k) sa sc z wr hz0 hz1 HM.out).mono ?_
        rintro e w2 ⟨rfl, hb2⟩
        rw [HE.out]
        go_wp2
        go_roundw
        case rel => exact ⟨k + 1, z - (gn r k).aft.length, by omega, by go_num, rfl, by have := HZZ.out; simp only [sumA]; omega, by omega, hbel.trans (hb2.mono hbel.size)⟩
        case measure => simp [intOf]; omega
    · have hkk : k = len := by omega
      go_wp2
      go_ret
      refine ⟨z, rfl, .inl ⟨?_, ?_⟩, hbel⟩
      · have := HZZ.out; unfold szR; rw [HZ.out, ← hkk]; omega
      · have := HZZ.out; unfold szR; rw [HZ.out, ← hkk]; omega

set_option maxHeartbeats 400000 in
theorem eqNode_same (n : Nd) (sa sb : Option Addr) (ca cb : Nat) (w : World) (h1 : IntsAt w sa n.aft) (h2 : IntsAt w sb n.aft) (hm : n.aft.length ≤ 1048576) :
    Calls Try.prog 54 #[.agg #[.int .i64 n.pos, .int .i64 n.bef, .slice sa n.aft.length ca], .agg #[.int .i64 n.pos, .int .i64 n.bef, .slice sb n.aft.length cb]] w fun e w' => e = .returned (.bool true) ∧ Below w.heap.size w w' := by
  have H1 := Lib.hid h1
  have H2 := Lib.hid h2
  clear h1 h2
  have v0 : (n.pos != n.pos) = false := by simp
  have v1 : (n.bef != n.bef) = false := by simp
  go_enter Try.func54, Try.ntmps54
  go_wp2_with fail
  have hb : ∀ a b, Below w.heap.size w ((w.alloc a).alloc b) := fun a b => ((Below.refl _ _).alloc (Nat.le_refl _) _).alloc (by simp) _
  refine (eqInts_same sa sb _ ca cb n.aft _ (H1.out.keepB (hb _ _) (Nat.le_refl _)) (H2.out.keepB (hb _ _) (Nat.le_refl _)) rfl hm).mono ?_
  rintro e w1 ⟨rfl, hs1⟩
  have hb1 := (hb _ _).trans (hs1.below _)
  have HB := Lib.hid hb1
  clear hb1 hb
  go_wp2
  go_ret
  exact ⟨rfl, HB.out⟩

set_option maxHeartbeats 1000000 in
theorem eqNodes_same (a1 a2 : Option Addr) (len cap1 cap2 : Nat) (r : List Nd) (w : World) (h1 : RingAt w a1 r) (h2 : RingAt w a2 r) (hz : r.length = len) (hsm : Small r) :
    Calls Try.prog 30 #[.slice a1 len cap1, .slice a2 len cap2] w fun e w' => e = .returned (.bool true) ∧ Below w.heap.size w w' := by
  have H1 := Lib.hid h1
  have H2 := Lib.hid h2
  have HZ := Lib.hid hz
  have HS := Lib.hid hsm
  have hm : len ≤ 1048576 := by rw [← hz]; exact hsm.1
  clear h1 h2 hz hsm
  have hne : ((len : Int) != (len : Int)) = false := by simp
  go_enter Try.func30, Try.ntmps30
  go_wp2
  go_loopw [5] (fun i wr => ∃ k : Nat, k ≤ len ∧ i = .int .i64 k ∧ Below w.heap.size w wr) (fun i _ => len - (intOf i).toNat)
  case atStart => exact ⟨0, by omega, rfl, Below.refl _ _⟩
  case round =>
    obtain ⟨k, hk, rfl, hbel⟩ := hrel
    obtain ⟨wo, rfl⟩ : ∃ x, x = wr := ⟨_, rfl⟩
    by_cases hlt : k < len
    · have hkr : k < r.length := by rw [HZ.out]; exact hlt
      obtain ⟨b, off, rfl, hb0, hnodes⟩ := (H1.out.keepB hbel (Nat.le_refl _)).at_ hkr
      obtain ⟨sa, sc, hc0, hc1, hc2, hl, hmx, hints⟩ := node_open (hnodes k hkr)
      obtain ⟨b', off', rfl, hb0', hnodes'⟩ := (H2.out.keepB hbel (Nat.le_refl _)).at_ hkr
      obtain ⟨sa', sc', hd0, hd1, hd2, hl', hmx', hints'⟩ := node_open (hnodes' k hkr)
      have hsm := HS.out.2 k hkr
      clear hnodes hnodes' hmx hmx'
      have HT := Lib.hid hints
      have HT' := Lib.hid hints'
      clear hints hints'
      have e0 : ∀ x : Cls (Below wo.heap.size wo), x.to.cell? ⟨b, off + k * 3, none⟩ = some (.int .i64 (gn r k).pos) := fun x => (x.ok.cell (p := ⟨b, off + k * 3, none⟩) hb0).trans hc0
      have e1 : ∀ x : Cls (Below wo.heap.size wo), x.to.cell? ⟨b, off + k * 3 + 1, none⟩ = some (.int .i64 (gn r k).bef) := fun x => (x.ok.cell (p := ⟨b, off + k * 3 + 1, none⟩) hb0).trans hc1
      have e2 : ∀ x : Cls (Below wo.heap.size wo), x.to.cell? ⟨b, off + k * 3 + 2, none⟩ = some (.slice sa (gn r k).aft.length sc) := fun x => (x.ok.cell (p := ⟨b, off + k * 3 + 2, none⟩) hb0).trans hc2
      have e3 : ∀ x : Cls (Below wo.heap.size wo), x.to.cell? ⟨b', off' + k * 3, none⟩ = some (.int .i64 (gn r k).pos) := fun x => (x.ok.cell (p := ⟨b', off' + k * 3, none⟩) hb0').trans hd0
      have e4 : ∀ x : Cls (Below wo.heap.size wo), x.to.cell? ⟨b', off' + k * 3 + 1, none⟩ = some (.int .i64 (gn r k).bef) := fun x => (x.ok.cell (p := ⟨b', off' + k * 3 + 1, none⟩) hb0').trans hd1
      have e5 : ∀ x : Cls (Below wo.heap.size wo), x.to.cell? ⟨b', off' + k * 3 + 2, none⟩ = some (.slice sa' (gn r k).aft.length sc') := fun x => (x.ok.cell (p := ⟨b', off' + k * 3 + 2, none⟩) hb0').trans hd2
      have i0 : (0 : Int) ≤ (k : Int) := by omega
      have i1 : (k : Int) < (len : Int) := by omega
      go_wp2
      refine wp_region_cls (Below wo.heap.size wo) (by kernel_rfl) (by kernel_rfl) below_drawn ?_
      repeat (go_big_quiet_step ((go_at_call 54; rename_i x; exact cls_below (eqNode_same (gn r k) sa sa' sc sc' _ (HT.out.keepB x.ok (Nat.le_refl _)) (HT'.out.keepB x.ok (Nat.le_refl _)) hsm) x.ok (Nat.le_refl _))))
      refine wpQuiet_nil ?_
      intro w2 hw'
      have hb2 := cls_out hw'
      clear hw' e0 e1 e2 e3 e4 e5
      go_wp2
      go_roundw
      case rel => exact ⟨k + 1, by omega, by go_num, hbel.trans (hb2.mono hbel.size)⟩
      case measure => simp [intOf]; omega
    · go_wp2
      go_ret
      exact ⟨rfl, hbel⟩

/-- marks from k on -/
def markI (k : Int) (m : Nat) : List Int := (List.range m).map fun j => k + (j : Nat)
theorem markI_len (k : Int) (m : Nat) : (markI k m).length = m := by simp [markI]
theorem markI_gt (k : Int) {m j : Nat} (h : j < m) : gt (markI k m) j = k + j := by rw [gt_get (by rw [markI_len]; exact h)]; simp [markI]
/-- a block of m cells or more, its first k marked -/
def MarkTo (w : World) (g m : Nat) (k0 : Int) (k : Nat) (wr : World) : Prop :=
  Kept g w wr ∧ ∃ cs, wr.heap[g]? = some (.cells cs 3 (0, 0)) ∧ m ≤ cs.size ∧ ∀ j, j < k → cs[j]? = some (.int .i64 (k0 + j))
theorem mark_next {w wr : World} {g m : Nat} {k0 : Int} {k : Nat} (h : MarkTo w g m k0 k wr) (hk : k < m) : MarkTo w g m k0 (k + 1) (wr.setCell ⟨g, k, none⟩ (.int .i64 (k0 + k))) := by
  obtain ⟨h1, cs, h2, h3, h4⟩ := h
  refine ⟨h1.trans ⟨rfl, rfl, rfl, by simp [World.setCell], fun q hq => heap_set_ne _ _ _ _ _ hq⟩, _, heap_set _ _ _ _ h2, by simpa using h3, fun j hj => ?_⟩
  rcases Nat.lt_or_ge j k with h' | h'
  · rw [Array.getElem?_setIfInBounds_ne (by omega)]; exact h4 j h'
  · obtain rfl : j = k := by omega
    rw [Array.getElem?_setIfInBounds_self_of_lt (by omega)]

set_option maxHeartbeats 400000 in
theorem markInts_any (g len cap : Nat) (k0 : Int) (w : World) (h : ∃ cs, w.heap[g]? = some (.cells cs 3 (0, 0)) ∧ len ≤ cs.size) (h0 : 0 ≤ k0) (h1 : k0 ≤ 1000000000) (hm : len ≤ 1048576) :
    Calls Try.prog 32 #[.slice (some ⟨g, 0, none⟩) len cap, .int .i64 k0] w fun e w' => e = .returned (.int .i64 (k0 + len)) ∧ MarkTo w g len k0 len w' := by
  have H := Lib.hid h
  clear h
  go_enter Try.func32, Try.ntmps32
  go_wp2
  go_loopw [1, 5] (fun l i wr => ∃ k : Nat, k ≤ len ∧ i = .int .i64 k ∧ l = .int .i64 (k0 + k) ∧ MarkTo w g len k0 k wr) (fun _ i _ => len - (intOf i).toNat)
  case atStart =>
    obtain ⟨cs, hb, hs⟩ := H.out
    exact ⟨0, by omega, rfl, by simp, Kept.refl _ _, cs, hb, hs, fun j hj => absurd hj (by omega)⟩
  case round =>
    obtain ⟨k, hk, rfl, rfl, hmk⟩ := hrel
    by_cases hlt : k < len
    · obtain ⟨cs, hb, hs, _⟩ := hmk.2
      obtain ⟨v, x0⟩ : ∃ v, wr.cell? ⟨g, k, none⟩ = some v := ⟨_, by rw [cell_of_cells hb]; exact Array.getElem?_eq_getElem (by omega)⟩
      have f0 := frozen_of_cells hb k
      have HM := Lib.hid hmk
      clear hmk hb hs
      go_wp2
      go_roundw
      case rel => exact ⟨k + 1, by omega, by go_num, by go_num, mark_next HM.out hlt⟩
      case measure => simp [intOf]; omega
    · have hkk : k = len := by omega
      have HK := Lib.hid hkk
      clear hkk
      go_wp2
      go_ret
      exact ⟨by rw [← HK.out]; rfl, by rw [← HK.out] at hmk ⊢; exact hmk⟩

set_option maxHeartbeats 400000 in
theorem heldInts_any (a : Option Addr) (len cap : Nat) (k0 : Int) (w : World) (h : IntsAt w a (markI k0 len)) (h0 : 0 ≤ k0) (h1 : k0 ≤ 1000000000) (hm : len ≤ 1048576) :
    Calls Try.prog 33 #[.slice a len cap, .int .i64 k0] w fun e w' => e = .returned (.int .i64 (k0 + len)) ∧ Same w w' := by
  have H := Lib.hid h
  clear h
  go_enter Try.func33, Try.ntmps33
  go_wp2
  go_loopw [1, 5] (fun l i wr => ∃ k : Nat, k ≤ len ∧ i = .int .i64 k ∧ l = .int .i64 (k0 + k) ∧ Same w wr) (fun _ i _ => len - (intOf i).toNat)
  case atStart => exact ⟨0, by omega, rfl, by simp, Same.refl _⟩
  case round =>
    obtain ⟨k, hk, rfl, rfl, hs⟩ := hrel
    by_cases hlt : k < len
    · have h' : ∃ b off, a = some ⟨b, off, none⟩ ∧ wr.cell? ⟨b, off + k, none⟩ = some (.int .i64 (k0 + k)) := by
        rcases H.out with h0 | ⟨b, off, ha, hb, hc⟩
        · have := markI_len k0 len; rw [h0] at this; simp at this; omega
        · exact ⟨b, off, ha, (hs.cell _).trans (by rw [hc k (by rw [markI_len]; exact hlt), markI_gt _ hlt])⟩
      obtain ⟨b, off, rfl, hc⟩ := h'
      have hv : ((k0 + (k : Int)) != (k0 + (k : Int))) = false := by simp
      go_wp2
      go_roundw
      case rel => exact ⟨k + 1, by omega, by go_num, by go_num, hs⟩
      case measure => simp [intOf]; omega
    · have hkk : k = len := by omega
      have HK := Lib.hid hkk
      clear hkk
      go_wp2
      go_ret
      exact ⟨by rw [← HK.out]; rfl, hs⟩

/-- how many marks lie ahead of node i -/
def offR (r : List Nd) (i : Nat) : Nat := 2 * i + sumA r i
theorem offR_succ (r : List Nd) (i : Nat) : offR r (i + 1) = offR r i + 2 + (gn r i).aft.length := by simp only [offR, sumA]; omega
theorem offR_le {r : List Nd} {i : Nat} (h : i ≤ r.length) (hs : szR r ≤ 1048576) : offR r i ≤ 2097152 := by
  have := sumA_mono r h
  unfold szR at hs; unfold offR; omega
/-- node i marked -/
def mkNd (k : Int) (r : List Nd) (i : Nat) : Nd := ⟨k + offR r i, k + offR r i + 1, markI (k + offR r i + 2) (gn r i).aft.length⟩
/-- a ring, its first m nodes marked -/
def mixR (k : Int) (r : List Nd) (m : Nat) : List Nd := (List.range r.length).map fun i => if i < m then mkNd k r i else gn r i
theorem mixR_len (k : Int) (r : List Nd) (m : Nat) : (mixR k r m).length = r.length := by simp [mixR]
theorem mixR_at (k : Int) (r : List Nd) (m : Nat) {i : Nat} (h : i < r.length) : gn (mixR k r m) i = if i < m then mkNd k r i else gn r i := by
  rw [gn_get (by rw [mixR_len]; exact h)]; simp [mixR]
theorem mixR_zero (k : Int) (r : List Nd) : mixR k r 0 = r := by
  refine List.ext_getElem (mixR_len _ _ _) fun i h1 h2 => ?_
  simp [mixR, gn_get h2]
/-- only the blocks from lo up to hi are written -/
structure KeptOut (lo hi : Nat) (w w' : World) : Prop where
  os : w'.os = w.os
  tape : w'.tape = w.tape
  output : w'.output = w.output
  size : w'.heap.size = w.heap.size
  block : ∀ g, g < lo ∨ hi ≤ g → w'.heap[g]? = w.heap[g]?
theorem KeptOut.refl (lo hi : Nat) (w : World) : KeptOut lo hi w w := ⟨rfl, rfl, rfl, rfl, fun _ _ => rfl⟩
theorem KeptOut.trans {lo hi : Nat} {a b c : World} (h : KeptOut lo hi a b) (k : KeptOut lo hi b c) : KeptOut lo hi a c :=
  ⟨k.os.trans h.os, k.tape.trans h.tape, k.output.trans h.output, k.size.trans h.size, fun g hg => (k.block g hg).trans (h.block g hg)⟩
theorem KeptOut.below {lo hi B : Nat} {w w' : World} (h : KeptOut lo hi w w') (hB : B ≤ lo) : Below B w w' :=
  ⟨h.os, h.tape, h.output, Nat.le_of_eq h.size.symm, fun g hg => h.block g (.inl (by omega))⟩
theorem Kept.out {lo hi g : Nat} {w w' : World} (h : Kept g w w') (h1 : lo ≤ g) (h2 : g < hi) : KeptOut lo hi w w' :=
  ⟨h.os, h.tape, h.output, h.size, fun q hq => h.block q (by omega)⟩
theorem kept_cell (w : World) (g i : Nat) (u : Value) : Kept g w (w.setCell ⟨g, i, none⟩ u) := ⟨rfl, rfl, rfl, by simp [World.setCell], fun q hq => heap_set_ne _ _ _ _ _ hq⟩

/-- node i is marked -/
theorem own_mark {w w2 w3 : World} {lo hi N i : Nat} {k : Int} {r : List Nd} {F : Nat → Nat} (h : RingOwn w lo hi N (mixR k r i) F) (hi' : i < r.length)
    (h2 : w2 = (w.setCell ⟨N, i * 3, none⟩ (.int .i64 (k + offR r i))).setCell ⟨N, i * 3 + 1, none⟩ (.int .i64 (k + offR r i + 1))) (h3 : MarkTo w2 (F i) (gn r i).aft.length (k + offR r i + 2) (gn r i).aft.length w3) :
    RingOwn w3 lo hi N (mixR k r (i + 1)) F ∧ KeptOut lo hi w w3 := by
  have hl : ∀ m, (mixR k r m).length = r.length := mixR_len k r
  obtain ⟨cs, hb, hc⟩ := h.row
  have hF := h.inF
  have hI := h.inj
  rw [hl] at hc hF hI
  have hb2 : w2.heap[N]? = some (.cells ((cs.setIfInBounds (i * 3) (.int .i64 (k + offR r i))).setIfInBounds (i * 3 + 1) (.int .i64 (k + offR r i + 1))) 30 (0, 0)) := by
    rw [h2]; exact heap_set _ _ _ _ (heap_set _ _ _ _ hb)
  have hk2 : ∀ g, g ≠ N → w2.heap[g]? = w.heap[g]? := fun g hg => by rw [h2]; exact (heap_set_ne _ _ _ _ _ hg).trans (heap_set_ne _ _ _ _ _ hg)
  obtain ⟨hkp, ds, hds, hdl, hdm⟩ := h3
  have hFi := hF i hi'
  refine ⟨⟨⟨_, (hkp.block N (fun e => hFi.2.2 e.symm)).trans hb2, fun j hj => ?_⟩, fun j hj => ?_, h.inN, fun j hj => hF j (by rw [hl] at hj; exact hj), fun a b ha hb' => hI a b (by rw [hl] at ha; exact ha) (by rw [hl] at hb'; exact hb')⟩, ?_⟩
  · rw [hl] at hj
    rw [mixR_at _ _ _ hj]
    have hcj := hc j hj
    rw [mixR_at _ _ _ hj] at hcj
    by_cases e : j = i
    · subst e
      rw [if_neg (by omega)] at hcj
      rw [if_pos (by omega)]
      obtain ⟨c0, c1, c, c2, c3, c4⟩ := hcj
      have z2 : j * 3 + 2 < cs.size := (Array.getElem?_eq_some_iff.1 c2).1
      refine ⟨?_, ?_, c, ?_, by simpa [mkNd, markI_len] using c3, c4⟩
      · rw [Array.getElem?_setIfInBounds_ne (by omega), Array.getElem?_setIfInBounds_self_of_lt (by omega)]; rfl
      · rw [Array.getElem?_setIfInBounds_self_of_lt (by simp; omega)]; rfl
      · rw [Array.getElem?_setIfInBounds_ne (by omega), Array.getElem?_setIfInBounds_ne (by omega), c2]; simp [mkNd, markI_len]
    · have e2 : (if j < i + 1 then mkNd k r j else gn r j) = (if j < i then mkNd k r j else gn r j) := by
        by_cases h' : j < i
        · rw [if_pos h', if_pos (by omega)]
        · rw [if_neg h', if_neg (by omega)]
      rw [e2]
      exact nd_keep (nd_keep (d := 0) hcj e (by omega)) e (by omega)
  · rw [hl] at hj
    rw [mixR_at _ _ _ hj]
    have hcj := h.inn j (by rw [hl]; exact hj)
    rw [mixR_at _ _ _ hj] at hcj
    by_cases e : j = i
    · subst e
      rw [if_pos (by omega)]
      refine ⟨ds, hds, fun q hq => ?_⟩
      simp only [mkNd, markI_len] at hq
      rw [hdm q hq]; simp only [mkNd]; rw [markI_gt _ hq]
    · have e2 : (if j < i + 1 then mkNd k r j else gn r j) = (if j < i then mkNd k r j else gn r j) := by
        by_cases h' : j < i
        · rw [if_pos h', if_pos (by omega)]
        · rw [if_neg h', if_neg (by omega)]
      rw [e2]
      exact hcj.kept ((hkp.block _ (fun e' => e (hI j i hj hi' e'))).trans (hk2 _ (hF j hj).2.2))
  · have h4 : KeptOut lo hi w w2 := by
      rw [h2]; exact ((kept_cell _ _ _ _).out h.inN.1 h.inN.2).trans ((kept_cell _ _ _ _).out h.inN.1 h.inN.2)
    exact h4.trans (hkp.out hFi.1 hFi.2.1)

set_option maxHeartbeats 1000000 in
theorem markNodes_any (lo hi N len cap : Nat) (r : List Nd) (F : Nat → Nat) (k0 : Int) (w : World) (h : RingOwn w lo hi N r F) (hz : r.length = len) (hsz : szR r ≤ 1048576) (h0 : 0 ≤ k0) (h1 : k0 ≤ 1000) :
    Calls Try.prog 31 #[.slice (some ⟨N, 0, none⟩) len cap, .int .i64 k0] w fun e w' => e = .returned (.int .i64 (k0 + offR r r.length)) ∧ RingOwn w' lo hi N (mixR k0 r r.length) F ∧ KeptOut lo hi w w' := by
  have H := Lib.hid h
  have HZ := Lib.hid hz
  have HS := Lib.hid hsz
  have hm : len ≤ 1048576 := by rw [← hz]; exact (small_of hsz).1
  clear h hz hsz
  go_enter Try.func31, Try.ntmps31
  go_wp2
  go_loopw [1, 5] (fun l i wr => ∃ k : Nat, k ≤ len ∧ i = .int .i64 k ∧ l = .int .i64 (k0 + offR r k) ∧ RingOwn wr lo hi N (mixR k0 r k) F ∧ KeptOut lo hi w wr) (fun _ i _ => len - (intOf i).toNat)
  case atStart => exact ⟨0, by omega, rfl, by simp [offR, sumA], by rw [mixR_zero]; exact H.out, KeptOut.refl _ _ _⟩
  case round =>
    obtain ⟨k, hk, rfl, rfl, hown, hkp⟩ := hrel
    have hoff := offR_le (r := r) (i := k) (by rw [HZ.out]; exact hk) HS.out
    by_cases hlt : k < len
    · have hkr : k < r.length := by rw [HZ.out]; exact hlt
      have hsm := (small_of HS.out).2 k hkr
      obtain ⟨cs, hb, hc⟩ := hown.row
      obtain ⟨c0, c1, c, c2, c3, c4⟩ := hc k (by rw [mixR_len]; exact hkr)
      rw [mixR_at _ _ _ hkr, if_neg (by omega)] at c0 c1 c2 c3
      have x0 := (cell_of_cells hb (k * 3)).trans c0
      have x1 := (cell_of_cells hb (k * 3 + 1)).trans c1
      have x2 := (cell_of_cells hb (k * 3 + 2)).trans c2
      have f0 := frozen_of_cells hb (k * 3)
      have f1 := frozen_of_cells hb (k * 3 + 1)
      have HO := Lib.hid hown
      clear hown hb hc c0 c1 c2 c3 c4
      go_wp2_with fail
      generalize hW : (wr.setCell ⟨N, k * 3, none⟩ (.int .i64 (k0 + offR r k))).setCell ⟨N, k * 3 + 1, none⟩ (.int .i64 (k0 + offR r k + 1)) = W
      have hFk := HO.out.inF k (by rw [mixR_len]; exact hkr)
      obtain ⟨ds, hds, hdm⟩ := HO.out.inn k (by rw [mixR_len]; exact hkr)
      rw [mixR_at _ _ _ hkr, if_neg (by omega)] at hdm
      have hblk : ∃ cs, W.heap[F k]? = some (.cells cs 3 (0, 0)) ∧ (gn r k).aft.length ≤ cs.size := by
        refine ⟨ds, by rw [← hW]; exact (heap_set_ne _ _ _ _ _ hFk.2.2).trans ((heap_set_ne _ _ _ _ _ hFk.2.2).trans hds), ?_⟩
        rcases Nat.eq_zero_or_pos (gn r k).aft.length with h' | h'
        · omega
        · have := hdm ((gn r k).aft.length - 1) (by omega)
          have := (Array.getElem?_eq_some_iff.1 this).1
          omega
      have e3 : k0 + (offR r k : Int) + 1 + 1 = k0 + offR r k + 2 := by omega
      rw [e3]
      refine (markInts_any (F k) _ c (k0 + offR r k + 2) W hblk (by omega) (by omega) hsm).mono ?_
      rintro e w3 ⟨rfl, hm3⟩
      obtain ⟨ho3, hk3⟩ := own_mark HO.out hkr hW.symm hm3
      have HO3 := Lib.hid ho3
      have HK3 := Lib.hid hk3
      clear ho3 hk3 hm3 hblk hds hdm
      have hs1 := offR_succ r k
      have HS1 := Lib.hid hs1
      clear hs1 e3
      go_wp2
      go_roundw
      case rel => exact ⟨k + 1, by omega, by go_num, by rw [HS1.out]; congr 1; omega, HO3.out, hkp.trans HK3.out⟩
      case measure => simp [intOf]; omega
    · have hkk : k = r.length := by rw [HZ.out]; omega
      have HK := Lib.hid hkk
      have HO := Lib.hid hown
      clear hkk hown
      go_wp2
      go_ret
      exact ⟨by rw [← HK.out]; rfl, by rw [← HK.out]; exact HO.out, hkp⟩

end Go.Proofs.Ytihkpofdpjkegaa
