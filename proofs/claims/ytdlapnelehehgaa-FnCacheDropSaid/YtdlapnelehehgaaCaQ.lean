/- A heap of entries by time, as the program has it: comparing, exchanging. -/
import Derived.Test.YtdlapnelehehgaaCaP1
import Derived.Test.YtdlapnelehehgaaCaDraw
import Derived.Handy
import Derived.Test.YtdlapnelehehgaaIface
import Derived.Test.YtdlapnelehehgaaHeapMath
namespace Go.Proofs.Ytdlapnelehehgaa
open Go.RowKit
set_option linter.unusedVariables false
attribute [local go_sem ↓] Go.wp_at_zero Go.wp_at_succ

set_option maxHeartbeats 1000000 in
theorem or2_any (b : Nat) (x y : Int) (w : World) (h0 : w.cell? ⟨b, 0, none⟩ = some (.int .i64 x)) (h1 : w.cell? ⟨b, 1, none⟩ = some (.int .i64 y)) :
    Calls Try.prog 111 #[.slice (some ⟨b, 0, none⟩) 2 2] w fun e w' => e = .returned (.int .i64 (if x = 0 then y else x)) ∧ w = w' := by
  have H1 := Lib.hid h1
  clear h1
  go_enter Try.func111, Try.ntmps111
  by_cases hx : x = 0
  · subst hx
    have h1 := H1.out
    by_cases hy : y = 0
    · subst hy
      go_wp2
      go_loop [8] (fun i => ∃ k : Nat, k ≤ 2 ∧ i = .int .i64 k) (fun i => 2 - (intOf i).toNat)
      case atStart => exact ⟨0, by omega, rfl⟩
      case round =>
        obtain ⟨k, hk, rfl⟩ := hrel
        have hk3 : k = 0 ∨ k = 1 ∨ k = 2 := by omega
        rcases hk3 with rfl | rfl | rfl
        · go_wp2
          go_round
          case rel => exact ⟨1, by omega, by go_num⟩
          case measure => simp [intOf]
        · go_wp2
          go_round
          case rel => exact ⟨2, by omega, by go_num⟩
          case measure => simp [intOf]
        · go_wp2
          go_ret
          exact ⟨rfl, rfl⟩
    · have hy' : (y != 0) = true := by simp [hy]
      go_wp2
      go_loop [8] (fun i => ∃ k : Nat, k ≤ 1 ∧ i = .int .i64 k) (fun i => 2 - (intOf i).toNat)
      case atStart => exact ⟨0, by omega, rfl⟩
      case round =>
        obtain ⟨k, hk, rfl⟩ := hrel
        have hk3 : k = 0 ∨ k = 1 := by omega
        rcases hk3 with rfl | rfl
        · go_wp2
          go_round
          case rel => exact ⟨1, by omega, by go_num⟩
          case measure => simp [intOf]
        · go_wp2
          go_ret
          exact ⟨rfl, rfl⟩
  · have hx' : (x != 0) = true := by simp [hx]
    have HX := Lib.hid hx
    clear hx
    go_wp2
    go_loop [8] (fun i => i = .int .i64 0) (fun i => 2 - (intOf i).toNat)
    case atStart => rfl
    case round =>
      subst hrel
      go_wp2
      go_ret
      exact ⟨rfl, rfl⟩
theorem or2_as (v : Int) (b : Nat) (x y : Int) (w : World) (h0 : w.cell? ⟨b, 0, none⟩ = some (.int .i64 x)) (h1 : w.cell? ⟨b, 1, none⟩ = some (.int .i64 y)) (hv : v = if x = 0 then y else x) :
    Calls Try.prog 111 #[.slice (some ⟨b, 0, none⟩) 2 2] w fun e w' => e = .returned (.int .i64 v) ∧ w = w' := by subst hv; exact or2_any b x y w h0 h1
theorem cell_new2 (W : World) (x y : Value) (t : TypeId) : (W.alloc (.cells #[x, y] t)).cell? ⟨W.heap.size, 0, none⟩ = some x ∧ (W.alloc (.cells #[x, y] t)).cell? ⟨W.heap.size, 1, none⟩ = some y := by
  have h := heap_alloc_new W (.cells #[x, y] t)
  exact ⟨by rw [cell_of_cells h]; rfl, by rw [cell_of_cells h]; rfl⟩


set_option maxHeartbeats 1000000 in
theorem before_cm (V : Int) (x y : Ls) (w : World) (hV : V = if cmI x.u y.u = 0 then cmI x.e y.e else cmI x.u y.u) :
    Calls Try.prog 110 #[.agg #[.int .i64 x.e, .int .i64 x.o, .int .i64 x.u], .agg #[.int .i64 y.e, .int .i64 y.o, .int .i64 y.u]] w fun e w' => e = .returned (.bool (decide (V < 0))) ∧ Below w.heap.size w w' := by
  obtain ⟨e, o, u⟩ := x
  obtain ⟨e', o', u'⟩ := y
  simp only at *
  have HE := Lib.hid hV
  clear hV
  obtain ⟨W, hW⟩ : ∃ W, W = (w.alloc (.cells #[.int .i64 e, .int .i64 o, .int .i64 u] 37)).alloc (.cells #[.int .i64 e', .int .i64 o', .int .i64 u'] 37) := ⟨_, rfl⟩
  have hWb : Below w.heap.size w W := by rw [hW]; exact ((Below.refl _ _).alloc (Nat.le_refl _) _).alloc (by simp) _
  have hWs : w.heap.size + 1 < W.heap.size := by rw [hW]; simp
  have HH0 : W.heap[w.heap.size]? = some (.cells #[.int .i64 e, .int .i64 o, .int .i64 u] 37 (0, 0)) := by rw [hW]; exact (Below.heap_alloc _ _ _ (by simp)).trans (heap_alloc_new w _)
  have HH1 : W.heap[w.heap.size + 1]? = some (.cells #[.int .i64 e', .int .i64 o', .int .i64 u'] 37 (0, 0)) := by rw [hW]; have := heap_alloc_new (w.alloc (.cells #[.int .i64 e, .int .i64 o, .int .i64 u] 37)) (.cells #[.int .i64 e', .int .i64 o', .int .i64 u'] 37); simpa using this
  have HS : Hid (∀ w', Below W.heap.size W w' → w'.cell? ⟨w.heap.size, 0, none⟩ = some (.int .i64 e) ∧ w'.cell? ⟨w.heap.size, 1, none⟩ = some (.int .i64 o) ∧ w'.cell? ⟨w.heap.size, 2, none⟩ = some (.int .i64 u) ∧ w'.cell? ⟨w.heap.size + 1, 0, none⟩ = some (.int .i64 e') ∧ w'.cell? ⟨w.heap.size + 1, 1, none⟩ = some (.int .i64 o') ∧ w'.cell? ⟨w.heap.size + 1, 2, none⟩ = some (.int .i64 u')) := fun w' hb => by
    have g0 := (hb.block w.heap.size (by omega)).trans HH0
    have g1 := (hb.block (w.heap.size + 1) (by omega)).trans HH1
    exact ⟨by rw [cell_of_cells g0]; rfl, by rw [cell_of_cells g0]; rfl, by rw [cell_of_cells g0]; rfl, by rw [cell_of_cells g1]; rfl, by rw [cell_of_cells g1]; rfl, by rw [cell_of_cells g1]; rfl⟩
  have HW := Lib.hid hW
  have HWb := Lib.hid hWb
  have HBD : Hid (Below W.heap.size W W.drew) := (Below.refl _ _).drew
  clear hW HH0 HH1 hWs
  go_enter Try.func110, Try.ntmps110
  go_wp2
  rw [← HW.out]
  clear hWb
  go_region_held3 (fun w' => w'.cell? ⟨w.heap.size, 0, none⟩ = some (.int .i64 e) ∧ w'.cell? ⟨w.heap.size, 1, none⟩ = some (.int .i64 o) ∧ w'.cell? ⟨w.heap.size, 2, none⟩ = some (.int .i64 u) ∧ w'.cell? ⟨w.heap.size + 1, 0, none⟩ = some (.int .i64 e') ∧ w'.cell? ⟨w.heap.size + 1, 1, none⟩ = some (.int .i64 o') ∧ w'.cell? ⟨w.heap.size + 1, 2, none⟩ = some (.int .i64 u')) (first | (with_reducible exact HS.out _ HBD.out) | (with_reducible exact HS.out _ HB2.out) | (with_reducible exact HS.out _ (HB3.out _)))
    ((first | (go_at_call 56; refine (ckey_any ⟨e, o, u⟩ ⟨e', o', u'⟩ _).mono ?_; rintro e2 w2 ⟨rfl, hb2⟩; have HB2 := Lib.hid (HBD.out.trans (hb2.mono HBD.out.size)); have HB3 : Hid (∀ o, Below W.heap.size W (w2.alloc o)) := (fun o => HB2.out.alloc HB2.out.size o); clear hb2) | (go_at_call 70; refine (cmp_any _ _ _).mono ?_; rintro e2 w2 ⟨rfl, rfl⟩) | (go_at_call 111; refine (or2_as V _ (cmI u u') (cmI e e') _ (by exact (cell_new2 _ _ _ _).1) (by exact (cell_new2 _ _ _ _).2) HE.out).mono ?_; rintro e2 w3 ⟨rfl, rfl⟩)))
  all_goals
    go_wp2
    go_ret
    exact ⟨rfl, HWb.out.trans ((HB3.out _).mono HWb.out.size)⟩
theorem before_as (v : Bool) (x y : Ls) (w : World) (hv : lsB x y = v) :
    Calls Try.prog 110 #[.agg #[.int .i64 x.e, .int .i64 x.o, .int .i64 x.u], .agg #[.int .i64 y.e, .int .i64 y.o, .int .i64 y.u]] w fun e w' => e = .returned (.bool v) ∧ Below w.heap.size w w' := by
  subst hv
  rw [← cm_lsB]
  exact before_cm _ x y w rfl

set_option maxHeartbeats 1000000 in
theorem less_any (base g n c : Nat) (L : List Ls) (i j : Nat) (w : World) (h : OwnS w base g c L) (hn : n ≤ L.length) (hi : i < n) (hj : j < n) :
    Calls Try.prog 108 #[.slice (some ⟨g, 0, none⟩) n c, .int .i64 i, .int .i64 j] w fun e w' => e = .returned (.bool (lsB (gl L i) (gl L j))) ∧ Below w.heap.size w w' := by
  have hg := h.blk.2.1
  obtain ⟨x0, x1, x2⟩ := h.cells (i := i) (by omega)
  obtain ⟨y0, y1, y2⟩ := h.cells (i := j) (by omega)
  obtain ⟨x, hx⟩ : ∃ x, x = gl L i := ⟨_, rfl⟩
  obtain ⟨y, hy⟩ : ∃ y, y = gl L j := ⟨_, rfl⟩
  rw [← hx] at x0 x1 x2 ⊢
  rw [← hy] at y0 y1 y2 ⊢
  have X0 := fun z : Cls (Below w.heap.size w) => (z.ok.cell (p := ⟨g, i * 3, none⟩) hg).trans x0
  have X1 := fun z : Cls (Below w.heap.size w) => (z.ok.cell (p := ⟨g, i * 3 + 1, none⟩) hg).trans x1
  have X2 := fun z : Cls (Below w.heap.size w) => (z.ok.cell (p := ⟨g, i * 3 + 2, none⟩) hg).trans x2
  have Y0 := fun z : Cls (Below w.heap.size w) => (z.ok.cell (p := ⟨g, j * 3, none⟩) hg).trans y0
  have Y1 := fun z : Cls (Below w.heap.size w) => (z.ok.cell (p := ⟨g, j * 3 + 1, none⟩) hg).trans y1
  have Y2 := fun z : Cls (Below w.heap.size w) => (z.ok.cell (p := ⟨g, j * 3 + 2, none⟩) hg).trans y2
  have i0 : (0 : Int) ≤ (i : Int) := by omega
  have i1 : (i : Int) < (n : Int) := by omega
  have j0 : (0 : Int) ≤ (j : Int) := by omega
  have j1 : (j : Int) < (n : Int) := by omega
  obtain ⟨v, hv⟩ : ∃ v, lsB x y = v := ⟨_, rfl⟩
  have HV := Lib.hid hv
  clear hv h x0 x1 x2 y0 y1 y2 hx hy
  go_enter Try.func108, Try.ntmps108
  go_wp2_with fail
  refine wp_region_cls (Below w.heap.size w) (by kernel_rfl) (by kernel_rfl) below_drawn ?_
  repeat (go_big_quiet_step ((go_at_call 110; rename_i z; exact cls_below (before_as v x y _ HV.out) z.ok (Nat.le_refl _))))
  refine wpQuiet_nil ?_
  intro w2 hw'
  have hb2 := cls_out hw'
  clear hw' X0 X1 X2 Y0 Y1 Y2
  go_wp2
  go_ret
  exact ⟨ret_bool HV.out.symm, hb2⟩

/-- two elements exchanged -/
def xchL (L : List Ls) (i j : Nat) : List Ls := (L.set i (gl L j)).set j (gl L i)
theorem xchL_len (L : List Ls) (i j : Nat) : (xchL L i j).length = L.length := by simp [xchL]
theorem xchL_gl {L : List Ls} {i j : Nat} (hi : i < L.length) (hj : j < L.length) (k : Nat) : gl (xchL L i j) k = Heap.sw (gl L) i j k := by
  unfold xchL Heap.sw
  by_cases e1 : k = i
  · subst e1
    rw [if_pos rfl]
    by_cases e2 : j = k
    · subst e2; rw [gl_set_eq _ (by simpa using hj)]
    · rw [gl_set_ne _ e2, gl_set_eq _ hi]
  · rw [if_neg e1]
    by_cases e2 : k = j
    · subst e2; rw [gl_set_eq _ (by simpa using hj), if_pos rfl]
    · rw [if_neg e2, gl_set_ne _ (Ne.symm e2), gl_set_ne _ (Ne.symm e1)]

theorem Kept.drew {q : Nat} {a b : World} (h : Kept q a b) : Kept q a b.drew := ⟨h.os, h.tape, h.output, h.size, h.block⟩
theorem OwnS.drew {w : World} {base g cap : Nat} {L : List Ls} (h : OwnS w base g cap L) : OwnS w.drew base g cap L := h.kept rfl
theorem set_self {L : List Ls} (i : Nat) (hi : i < L.length) : L.set i (gl L i) = L := gl_ext (by simp) fun k hk => by
  by_cases e : i = k
  · subst e; rw [gl_set_eq _ hi]
  · rw [gl_set_ne _ e]
theorem set_other {w : World} {g a b : Nat} {v u : Value} (h : w.cell? ⟨g, b, none⟩ = some u) (hne : a ≠ b) : (w.setCell ⟨g, a, none⟩ v).cell? ⟨g, b, none⟩ = some u := by
  rw [← h]
  exact World.cell?_setCell_other _ _ _ _ (by intro e; injection e; omega)

set_option maxHeartbeats 4000000 in
theorem swap_any (base g n c : Nat) (L : List Ls) (i j : Nat) (w : World) (h : OwnS w base g c L) (hn : n ≤ L.length) (hi : i < n) (hj : j < n) :
    Calls Try.prog 109 #[.slice (some ⟨g, 0, none⟩) n c, .int .i64 i, .int .i64 j] w fun e w' => e = .returned (.tuple #[]) ∧ OwnS w' base g c (xchL L i j) ∧ Kept g w w' := by
  have i0 : (0 : Int) ≤ (i : Int) := by omega
  have i1 : (i : Int) < (n : Int) := by omega
  have j0 : (0 : Int) ≤ (j : Int) := by omega
  have j1 : (j : Int) < (n : Int) := by omega
  obtain ⟨x0, x1, x2⟩ := h.cells (i := i) (by omega)
  obtain ⟨y0, y1, y2⟩ := h.cells (i := j) (by omega)
  obtain ⟨_, hlt2, cs, hbk, _⟩ := h.blk
  have f0 := frozen_of_cells hbk (i * 3)
  have f1 := frozen_of_cells hbk (i * 3 + 1)
  have f2 := frozen_of_cells hbk (i * 3 + 2)
  have HO := Lib.hid h
  have HN := Lib.hid hn
  by_cases hij : i = j
  · subst hij
    have HS : Hid (∀ w', OwnS w' base g c (xchL L i i) = OwnS w' base g c L) := fun w' => by
      show _ = _
      congr 1
      refine gl_ext (xchL_len _ _ _) fun k hk => ?_
      rw [xchL_gl (by omega) (by omega)]
      unfold Heap.sw
      split <;> simp_all
    clear h hbk y0 y1 y2
    go_enter Try.func109, Try.ntmps109
    go_wp2
    go_region
    all_goals
      go_returns
      refine ⟨rfl, ?_, (((((((keptC _ _ _ _).trans (keptC _ _ _ _)).trans (keptC _ _ _ _)).trans (keptC _ _ _ _)).trans (keptC _ _ _ _)).trans (keptC _ _ _ _)).drew)⟩
      rw [HS.out]
      have h1 := HO.out.setAll (k := i) (by have := HN.out; omega) (gl L i)
      rw [set_self i (by have := HN.out; omega)] at h1
      have h2 := h1.setAll (k := i) (by have := HN.out; omega) (gl L i)
      rw [set_self i (by have := HN.out; omega)] at h2
      exact h2.drew
  · have hji : ¬ j = i := fun h => hij h.symm
    have HIJ := Lib.hid hij
    have k0 := frozen_of_cells hbk (j * 3)
    have k1 := frozen_of_cells hbk (j * 3 + 1)
    have k2 := frozen_of_cells hbk (j * 3 + 2)
    clear h hbk
    go_enter Try.func109, Try.ntmps109
    go_wp2
    go_region
    all_goals
      go_returns
      refine ⟨rfl, ?_, (((((((keptC _ _ _ _).trans (keptC _ _ _ _)).trans (keptC _ _ _ _)).trans (keptC _ _ _ _)).trans (keptC _ _ _ _)).trans (keptC _ _ _ _)).drew)⟩
      have h1 := HO.out.setAll (k := i) (by have := HN.out; omega) (gl L j)
      have h2 := h1.setAll (k := j) (by rw [List.length_set]; have := HN.out; omega) (gl L i)
      show OwnS _ _ _ _ ((L.set i (gl L j)).set j (gl L i))
      exact h2.drew
end Go.Proofs.Ytdlapnelehehgaa
