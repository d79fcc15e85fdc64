/- A ring with another node at a place (the model). -/
import Derived.Test.YtfhjmfcdogpbeaaCopyS
namespace Go.Proofs.Ytfhjmfcdogpbeaa
open Go.RowKit
set_option linter.unusedVariables false

theorem gn_set {r : List Nd} {k i : Nat} {n : Nd} (hi : i < r.length) : gn (r.set k n) i = if i = k then n else gn r i := by
  rw [gn_get (by simpa using hi), List.getElem_set]
  by_cases e : k = i
  · rw [if_pos e, if_pos e.symm]
  · rw [if_neg e, if_neg (Ne.symm e), gn_get hi]
/-- three cells of node k are stored -/
theorem own_set {w : World} {lo hi N k g3 c3 : Nat} {r : List Nd} {F : Nat → Nat} {n : Nd} (h : RingOwn w lo hi N r F) (hk : k < r.length) (hi3 : IntsBlk w g3 n.aft) (hg : hi ≤ g3) (hhi : hi ≤ w.heap.size) (h1 : n.aft.length ≤ c3) (h2 : c3 ≤ maxLen) :
    RingOwn (((w.setCell ⟨N, k * 3, none⟩ (.int .i64 n.pos)).setCell ⟨N, k * 3 + 1, none⟩ (.int .i64 n.bef)).setCell ⟨N, k * 3 + 2, none⟩ (.slice (some ⟨g3, 0, none⟩) n.aft.length c3)) lo w.heap.size N (r.set k n) (fun i => if i = k then g3 else F i) := by
  obtain ⟨cs, hb, hc⟩ := h.row
  have hN := h.inN
  have h3 := hi3.lt
  have hl : (r.set k n).length = r.length := by simp
  have hne : ∀ g, g ≠ N → (((w.setCell ⟨N, k * 3, none⟩ (.int .i64 n.pos)).setCell ⟨N, k * 3 + 1, none⟩ (.int .i64 n.bef)).setCell ⟨N, k * 3 + 2, none⟩ (.slice (some ⟨g3, 0, none⟩) n.aft.length c3)).heap[g]? = w.heap[g]? := fun g hg =>
    (heap_set_ne _ _ _ _ _ hg).trans ((heap_set_ne _ _ _ _ _ hg).trans (heap_set_ne _ _ _ _ _ hg))
  refine ⟨⟨_, heap_set _ _ _ _ (heap_set _ _ _ _ (heap_set _ _ _ _ hb)), fun i hi => ?_⟩, fun i hi => ?_, ⟨hN.1, by omega⟩, fun i hi => ?_, fun i j hi hj he => ?_⟩
  · rw [hl] at hi
    rw [gn_set hi]
    by_cases e : i = k
    · subst e
      simp only [↓reduceIte]
      obtain ⟨_, _, c, c2, _⟩ := hc i hi
      have z2 : i * 3 + 2 < cs.size := (Array.getElem?_eq_some_iff.1 c2).1
      refine ⟨?_, ?_, c3, ?_, h1, h2⟩
      · rw [Array.getElem?_setIfInBounds_ne (by omega), Array.getElem?_setIfInBounds_ne (by omega), Array.getElem?_setIfInBounds_self_of_lt (by omega)]
      · rw [Array.getElem?_setIfInBounds_ne (by omega), Array.getElem?_setIfInBounds_self_of_lt (by simp; omega)]
      · rw [Array.getElem?_setIfInBounds_self_of_lt (by simp; omega)]
    · simp only [if_neg e]
      exact nd_keep (nd_keep (nd_keep (d := 0) (hc i hi) e (by omega)) e (by omega)) e (by omega)
  · rw [hl] at hi
    rw [gn_set hi]
    by_cases e : i = k
    · subst e; simp only [↓reduceIte]; exact hi3.kept (hne _ (by omega))
    · simp only [if_neg e]; exact (h.inn i hi).kept (hne _ (h.inF i hi).2.2)
  · rw [hl] at hi
    by_cases e : i = k
    · simp only [if_pos e]; omega
    · simp only [if_neg e]; have := h.inF i hi; omega
  · rw [hl] at hi hj
    by_cases e1 : i = k
    · by_cases e2 : j = k
      · omega
      · simp only [if_pos e1, if_neg e2] at he
        have := h.inF j hj; omega
    · by_cases e2 : j = k
      · simp only [if_neg e1, if_pos e2] at he
        have := h.inF i hi; omega
      · simp only [if_neg e1, if_neg e2] at he
        exact h.inj i j hi hj he
theorem below_sets {B : Nat} {w w' : World} (h : Below B w w') {N i : Nat} (hN : B ≤ N) (u0 u1 u2 : Value) : Below B w (((w'.setCell ⟨N, i, none⟩ u0).setCell ⟨N, i + 1, none⟩ u1).setCell ⟨N, i + 2, none⟩ u2) :=
  ((h.setCell (p := ⟨N, i, none⟩) hN u0).setCell (p := ⟨N, i + 1, none⟩) hN u1).setCell (p := ⟨N, i + 2, none⟩) hN u2

set_option maxHeartbeats 2000000 in
theorem set_any (a : Option Addr) (len cap k : Nat) (r : List Nd) (p q x y : Int) (sa : Option Addr) (sc : Nat) (w : World) (h : RingAt w a r) (hz : r.length = len) (hv : rvB r = true) (hk : k < len) (hs : IntsAt w sa [x, y]) (hsc : 2 ≤ sc) :
    Calls Try.prog 102 #[.slice a len cap, .int .i64 k, .agg #[.int .i64 p, .int .i64 q, .slice sa 2 sc]] w (NewOwn (r.set k ⟨p, q, [x, y]⟩) w) := by
  have hm := rv_len hv
  rw [hz] at hm
  obtain ⟨b3, o3, rfl, hb3, hx3, hy3⟩ := ints_two hs
  have HI := Lib.hid h
  have HZ := Lib.hid hz
  have HV := Lib.hid hv
  clear h hz hv hs
  go_enter Try.func102, Try.ntmps102
  go_wp2_with fail
  have hb0 : ∀ o, Below w.heap.size w (w.alloc o) := fun o => (Below.refl _ _).alloc (Nat.le_refl _) _
  refine (copy_any a len cap r _ (HI.out.keepB (hb0 _) (Nat.le_refl _)) HZ.out HV.out).mono ?_
  rintro e w1 ⟨N, c1, F, rfl, ho1, hl1, hm1, hb1⟩
  have hV1 := (hb1.block w.heap.size (by simp)).trans (heap_alloc_new w _)
  have hbw : Below w.heap.size w w1 := (hb0 _).trans (hb1.mono (by simp))
  have hz1 : w.heap.size < w1.heap.size := by have := hb1.size; simp at this; omega
  have hN := ho1.inN
  simp at hN
  have HO1 := Lib.hid ho1
  have HL1 := Lib.hid hl1
  have HM1 := Lib.hid hm1
  have HV1 := Lib.hid hV1
  have HX3 : Hid (∀ o, (w1.alloc o).cell? ⟨b3, o3, none⟩ = some (.int .i64 x)) := fun o => ((hbw.alloc (by omega) o).cell (p := ⟨b3, o3, none⟩) hb3).trans hx3
  have HY3 : Hid (∀ o, (w1.alloc o).cell? ⟨b3, o3 + 1, none⟩ = some (.int .i64 y)) := fun o => ((hbw.alloc (by omega) o).cell (p := ⟨b3, o3 + 1, none⟩) hb3).trans hy3
  have z0 : w1.cell? ⟨w.heap.size, 2, none⟩ = some (.slice (some ⟨b3, o3, none⟩) 2 sc) := by rw [cell_of_cells hV1]; rfl
  have HRL : Hid (r.length = len) := HZ.out
  rw [HZ.out]
  clear ho1 hl1 hm1 hV1 hx3 hy3 hb0
  go_wp2_with (at_builtin; first
    | (refine wl_app _ (by rfl) _ _ (by rfl) w1.heap.size w1.heap.size 0 0 [] (by rfl) (own_empty (heap_alloc_new w1 _) (Nat.le_refl _)) ⟨b3, o3, none⟩ 2 sc (vals [x, y]) (by rfl) rfl (src_two (HX3.out _) (HY3.out _)) (vals_one _) 2 (vals [x, y]) rfl (by simp) (by omega) (by simp) ?_
       intro g3 cap3 w3 hown3 hg3 hat3
       obtain ⟨hI3, hg31, hc31, hc32⟩ := own_blk hown3 rfl
       have hV3 := (hg3.block w.heap.size (by simp; omega) (by intro e; injection e with e; omega)).trans ((Below.heap_alloc w1 _ w.heap.size (by omega)).trans HV1.out)
       have hB13 : Below w1.heap.size w1 w3 := Below.grown ((Below.refl _ _).alloc (Nat.le_refl _) _) hg3 (by simp) (fun q hq => by injection hq with hq; omega)
       have hO3 : RingOwn w3 (w.heap.size + 1) w1.heap.size N r F := (by simpa using HO1.out.kept (fun g _ hg => hB13.block g hg) : RingOwn w3 (w.heap.size + 1) w1.heap.size N r F)
       obtain ⟨cs, hNb, hNc⟩ := hO3.row
       obtain ⟨d0, d1, dc, d2, _⟩ := hNc k (by rw [HRL.out]; exact hk)
       have y0 : w3.cell? ⟨w.heap.size, 0, none⟩ = some (.int .i64 p) := by rw [cell_of_cells hV3]; rfl
       have y1 : w3.cell? ⟨w.heap.size, 1, none⟩ = some (.int .i64 q) := by rw [cell_of_cells hV3]; rfl
       have y2 : w3.cell? ⟨w.heap.size, 2, none⟩ = some (.slice (some ⟨b3, o3, none⟩) 2 sc) := by rw [cell_of_cells hV3]; rfl
       have yf : ∀ i, w3.frozen? ⟨w.heap.size, i, none⟩ = false := fun i => frozen_of_cells hV3 i
       have e0 := (cell_of_cells hNb (k * 3)).trans d0
       have e1 := (cell_of_cells hNb (k * 3 + 1)).trans d1
       have e2 := (cell_of_cells hNb (k * 3 + 2)).trans d2
       have ef : ∀ i, w3.frozen? ⟨N, i, none⟩ = false := fun i => frozen_of_cells hNb i
       have hNV : ¬ N = w.heap.size := by omega
       have HO3 := Lib.hid hO3
       have HI3 := Lib.hid hI3
       have HC3 := Lib.hid (And.intro hc31 hc32)
       have hg3lt := hI3.lt
       clear hV3 hown3 hg3 hat3 hO3 hNb hNc d0 d1 d2 hI3 hc31 hc32))
  go_ret
  have hne : ∀ g, g ≠ w.heap.size → (w3.setCell ⟨w.heap.size, 2, none⟩ (.slice (some ⟨g3, 0, none⟩) 2 cap3)).heap[g]? = w3.heap[g]? := fun g hg => heap_set_ne _ _ _ _ _ hg
  have hO : RingOwn (w3.setCell ⟨w.heap.size, 2, none⟩ (.slice (some ⟨g3, 0, none⟩) 2 cap3)) (w.heap.size + 1) w1.heap.size N r F := HO3.out.kept (fun g h1 _ => hne g (by omega))
  have hI := HI3.out.kept (hne g3 (by omega))
  have hz3 := hB13.size
  have hfin := own_set (n := ⟨p, q, [x, y]⟩) (k := k) hO (by rw [HRL.out]; exact hk) hI hg31 (by simp [World.setCell]; omega) HC3.out.1 HC3.out.2
  have hsz : ∀ (W : World) (P0 P1 P2 : Addr) (u0 u1 u2 : Value), (((W.setCell P0 u0).setCell P1 u1).setCell P2 u2).heap.size = W.heap.size := fun W _ _ _ _ _ _ => by simp [World.setCell]
  refine ⟨N, c1, fun i => if i = k then g3 else F i, by rw [List.length_set, HRL.out]; rfl, ?_, by rw [List.length_set]; exact HL1.out, HM1.out, ?_⟩
  · rw [hsz]; exact hfin.wide (by omega) (Nat.le_refl _)
  · have hB3 : Below w.heap.size w w3 := hbw.trans (hB13.mono (by omega))
    exact below_sets (hB3.setCell (p := ⟨w.heap.size, 2, none⟩) (Nat.le_refl _) _) (by omega) _ _ _
end Go.Proofs.Ytfhjmfcdogpbeaa
