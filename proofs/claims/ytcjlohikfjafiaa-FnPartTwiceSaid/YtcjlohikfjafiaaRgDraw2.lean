/- Drawing registers. -/
import Derived.Test.YtcjlohikfjafiaaRgDraw
namespace Go.Proofs.Ytcjlohikfjafiaa
open Go.RowKit
set_option linter.unusedVariables false
attribute [local go_sem ↓] Go.wp_at_zero Go.wp_at_succ

/-- the values are small -/
def SmL (L : List Ls) : Prop := ∀ j, j < L.length → -1 ≤ (gl L j).u ∧ (gl L j).u ≤ 101
theorem smL_part {L : List Ls} {zs : List Int} {x : Ls} (h : (partR L zs x).2 = true) : SmL (partR L zs x).1 ∧ (partR L zs x).1.length = L.length := by
  obtain ⟨h1, h2, h3, h4, h5⟩ := partR_ok h
  rw [h5]
  refine ⟨fun j hj => ?_, putL_len _ _ _⟩
  have := (lzB_iff _).1 (lv_ls h4 hj)
  omega
theorem smL_set {L : List Ls} {k : Nat} {x : Ls} (h : SmL L) (hx : -1 ≤ x.u ∧ x.u ≤ 101) : SmL (L.set k x) := by
  intro j hj
  rw [List.length_set] at hj
  by_cases e : k = j
  · subst e; rw [gl_set_eq _ hj]; exact hx
  · rw [gl_set_ne _ e]; exact h j hj
theorem smL_app {L M : List Ls} (h : SmL L) (h' : SmL M) : SmL (L ++ M) := by
  intro j hj
  rw [List.length_append] at hj
  by_cases e : j < L.length
  · have : gl (L ++ M) j = gl L j := by simp [gl, List.getElem?_append_left e]
    rw [this]; exact h j e
  · have : gl (L ++ M) j = gl M (j - L.length) := by simp [gl, List.getElem?_append_right (by omega : L.length ≤ j)]
    rw [this]; exact h' _ (by omega)
theorem smL_zero (n : Nat) : SmL (cpL (List.replicate n ⟨0, 0, 0⟩) 0) := by
  intro j hj
  rw [cpL_len] at hj
  rw [cpL_at hj]; simp
/-- drawn replicas -/
def RegPost (q K : Nat) (w : World) (e : Ending) (w' : World) : Prop :=
  ∃ (g cap : Nat) (L : List Ls), e = .returned (.slice (some ⟨g, 0, none⟩) L.length cap) ∧ 1 ≤ L.length ∧ L.length ≤ 10 ∧ SmL L ∧ OwnS w' w.heap.size g cap L ∧ Ready w' q K ∧ w.grownBy w' (some q)
/-- at the head of the loop -/
def RegAt (q K : Nat) (w : World) (k : Nat) (v : Value) (wr : World) : Prop :=
  ∃ (g cap : Nat) (L : List Ls), v = .slice (some ⟨g, 0, none⟩) L.length cap ∧ 1 ≤ L.length ∧ L.length ≤ 5 ∧ SmL L ∧ OwnS wr w.heap.size g cap L ∧ Ready wr q (K + 12 * (6 - k)) ∧ w.grownBy wr (some q)
theorem ready_keepB {w w' : World} {q k : Nat} (h : Ready w q k) (hb : Below w.heap.size w w') : Ready w' q k := h.below hb h.lt
theorem grown_below {a b c : World} {q : Nat} (h : a.grownBy b (some q)) (hb : Below b.heap.size b c) : a.grownBy c (some q) :=
  grown_trans h ⟨hb.os, hb.tape, hb.output, hb.size, fun k hk _ => hb.block k hk⟩

set_option maxHeartbeats 4000000 in
theorem replicas_any (q K : Nat) (w : World) (h : Ready w q (K + 85)) :
    Calls Try.prog 27 #[.pointer (some ⟨q, 0, none⟩)] w (RegPost q K w) := by
  have hq := h.lt
  go_enter Try.func27, Try.ntmps27
  go_wp2_with fail
  refine (pick_r q (K + 84) 5 w h (by omega) (by omega)).mono ?_
  rintro e w1 ⟨v, hv0, hv1, rfl, hr1, hk1⟩
  obtain ⟨n, hn, hn1, hn2⟩ : ∃ n : Nat, (1 : Int) + v = n ∧ 1 ≤ n ∧ n ≤ 5 := ⟨(1 + v).toNat, by omega, by omega, by omega⟩
  have hmk := mk_leases n (by omega)
  have hn0 : (0 : Int) ≤ (n : Int) := by omega
  have H0 : Hid (RegAt q (K + 8) w 0 (.slice (some ⟨w1.heap.size, 0, none⟩) n n) (w1.alloc (.cells (madeCells #[.int .i64 0, .int .i64 0, .int .i64 0] (n * 3)) 26))) := by
    have hm := made_ls (List.replicate n ⟨0, 0, 0⟩) w1 (by rw [List.length_replicate]; unfold maxLen; omega)
    have hl : (cpL (List.replicate n (⟨0, 0, 0⟩ : Ls)) 0).length = n := by rw [cpL_len, List.length_replicate]
    rw [List.length_replicate] at hm
    exact ⟨w1.heap.size, n, cpL (List.replicate n ⟨0, 0, 0⟩) 0, by rw [hl], by omega, by omega, smL_zero n, hm.less (by have := hk1.size; omega), ready_keepB (hr1.less (by omega)) (alB _ _), grown_below hk1.grown (alB _ _)⟩
  clear h
  go_wp2
  clear hmk hn
  go_loopw [3, 4] (fun o i wr => ∃ k : Nat, k ≤ 5 ∧ i = .int .i64 k ∧ RegAt q (K + 8) w k o wr) (fun _ i _ => 6 - (intOf i).toNat)
  case atStart => exact ⟨0, by omega, rfl, H0.out⟩
  case round =>
    obtain ⟨k, hk, rfl, g, cap, L, rfl, hl1, hl5, hsm, hown, hr, hg⟩ := hrel
    have HO := Lib.hid hown
    have HSM := Lib.hid hsm
    have hgb := hown.blk.1
    clear hown hsm
    go_wp2_with fail
    refine (pick_r q (K + 8 + 12 * (6 - (k + 1)) + 11) 6 wr (hr.less (by omega)) (by omega) (by omega)).mono ?_
    rintro e w2 ⟨v2, hv20, hv21, rfl, hr2, hk2⟩
    have hg2 : w.grownBy w2 (some q) := grown_trans hg hk2.grown
    have HO2 := Lib.hid (HO.out.grownQ hk2.grown hq)
    by_cases hlt : (k : Int) < v2
    · go_wp2_with fail
      refine (pick_r q (K + 8 + 12 * (6 - (k + 1)) + 10) 3 w2 hr2 (by omega) (by omega)).mono ?_
      rintro e w3 ⟨p1, hp10, hp11, rfl, hr3, hk3⟩
      go_wp2_with fail
      refine (pick_r q (K + 8 + 12 * (6 - (k + 1)) + 9) 3 w3 hr3 (by omega) (by omega)).mono ?_
      rintro e w4 ⟨p2, hp20, hp21, rfl, hr4, hk4⟩
      go_wp2_with fail
      refine (pick_r q (K + 8 + 12 * (6 - (k + 1)) + 8) 100 w4 hr4 (by omega) (by omega)).mono ?_
      rintro e w5 ⟨p3, hp30, hp31, rfl, hr5, hk5⟩
      have hg5 : w.grownBy w5 (some q) := grown_trans hg2 (grown_trans hk3.grown (grown_trans hk4.grown hk5.grown))
      have HO5 := Lib.hid (((HO2.out.grownQ hk3.grown hq).grownQ hk4.grown hq).grownQ hk5.grown hq)
      obtain ⟨W, hW⟩ : ∃ W, W = w5.alloc (.cells #[.int .i64 (1 + p1), .int .i64 p2, .int .i64 p3] 26) := ⟨_, rfl⟩
      have hWb : Below w5.heap.size w5 W := by rw [hW]; exact alB _ _
      have hWh : Hid (W.heap[w5.heap.size]? = some (.cells #[.int .i64 (1 + p1), .int .i64 p2, .int .i64 p3] 26 (0, 0))) := by show _ = _; rw [hW]; exact heap_alloc_new w5 _
      have hWs : w5.heap.size < W.heap.size := by rw [hW]; simp
      have HW := Lib.hid hW
      clear hW
      have h5s := hg5.size
      have HGW := Lib.hid (grown_below hg5 hWb)
      have HOW := Lib.hid (HO5.out.keepB hWb (Nat.le_refl _))
      have HRW := Lib.hid (ready_keepB hr5 hWb)
      have HSX : Hid (∀ w' : World, w'.heap[w5.heap.size]? = W.heap[w5.heap.size]? → w'.cell? ⟨w5.heap.size, 0, none⟩ = some (.int .i64 (1 + p1)) ∧ w'.cell? ⟨w5.heap.size, 1, none⟩ = some (.int .i64 p2) ∧ w'.cell? ⟨w5.heap.size, 2, none⟩ = some (.int .i64 p3)) := fun w' hb => by
        have h3 := hb.trans hWh.out
        exact ⟨by rw [cell_of_cells h3]; rfl, by rw [cell_of_cells h3]; rfl, by rw [cell_of_cells h3]; rfl⟩
      have hLm : Hid (L.length ≤ maxLen) := by show _ ≤ _; unfold maxLen; omega
      have HLC : Hid (L.length ≤ cap) := HOW.out.blk.2.2.choose_spec.2.1
      clear hr hr2 hr3 hr4 hr5 hk2 hk3 hk4 hk5 hg hg2 hg5 hWb
      go_wp2
      rw [← HW.out]
      go_region_held3 (fun w' => w'.cell? ⟨w5.heap.size, 0, none⟩ = some (.int .i64 (1 + p1)) ∧ w'.cell? ⟨w5.heap.size, 1, none⟩ = some (.int .i64 p2) ∧ w'.cell? ⟨w5.heap.size, 2, none⟩ = some (.int .i64 p3)) (first | (exact HSX.out _ hx2) | (exact HSX.out _ hx1) | (exact HSX.out _ rfl))
        ((first
          | (go_at_call 28; refine (some_any q (K + 8 + 12 * (6 - (k + 1))) L.length _ (Ready.less (by exact HRW.out) (by omega)) (by omega)).mono ?_; rintro e wa ⟨ga, ca, zs, rfl, hza, hoa, hra, hga⟩; have KZ := Lib.hid hoa.ints; have KA := Lib.hid (show OwnS wa w.heap.size g cap L from HOW.out.grownQ (q := q) ⟨hga.os, hga.tape, hga.output, hga.size, hga.block⟩ hq); have hx1 : wa.heap[w5.heap.size]? = W.heap[w5.heap.size]? := hga.block _ hWs (fun e => by injection e with e; omega); have KR := Lib.hid hra; have KG := Lib.hid (show w.grownBy wa (some q) from grown_trans HGW.out ⟨hga.os, hga.tape, hga.output, hga.size, hga.block⟩); clear hoa hra hga)
          | (go_at_call 10; refine (spart_any _ _ _ _ _ _ L zs ⟨1 + p1, p2, p3⟩ wa KA.out.ls rfl hLm.out HLC.out KZ.out rfl (by have := hza; unfold maxLen; omega)).mono ?_; rintro e wb ⟨gb, cb, rfl, hob, hbb⟩; have hx2 : wb.heap[w5.heap.size]? = W.heap[w5.heap.size]? := (hbb.block _ (by have h1 := KG.out.size; have h2 := KA.out.blk.2.1; exact heap_lt (hx1.trans hWh.out))).trans hx1; have KB := Lib.hid hob; have KA2 := Lib.hid (KA.out.keepB hbb (Nat.le_refl _)); have KR2 := Lib.hid (ready_keepB KR.out hbb); have KG2 := Lib.hid (grown_below KG.out hbb); clear hob hbb)))
      cases hok : (partR L zs ⟨1 + p1, p2, p3⟩).2
      · go_wp2
        go_roundw
        case rel => exact ⟨k + 1, by omega, by go_num, g, cap, L, rfl, hl1, hl5, HSM.out, KA2.out, KR2.out, KG2.out⟩
        case measure => simp [intOf]; omega
      · have HP := Lib.hid (smL_part hok)
        go_wp2
        go_roundw
        case rel => exact ⟨k + 1, by omega, by go_num, gb, cb, _, rfl, by rw [HP.out.2]; exact hl1, by rw [HP.out.2]; exact hl5, HP.out.1, KB.out.less KG.out.size, KR2.out, KG2.out⟩
        case measure => simp [intOf]; omega
    · clear hr
      go_wp2_with fail
      refine (pick_r q (K + 7) (L.length : Int) w2 (hr2.less (by omega)) (by omega) (by omega)).mono ?_
      rintro e w3 ⟨p1, hp10, hp11, rfl, hr3, hk3⟩
      obtain ⟨p, rfl, hpk⟩ : ∃ p : Nat, p1 = (p : Int) ∧ p < L.length := ⟨p1.toNat, by omega, by omega⟩
      go_wp2_with fail
      refine (pick_r q (K + 6) 20 w3 hr3 (by omega) (by omega)).mono ?_
      rintro e w4 ⟨p2, hp20, hp21, rfl, hr4, hk4⟩
      have hg4 : w.grownBy w4 (some q) := grown_trans hg2 (grown_trans hk3.grown hk4.grown)
      have HO4 := Lib.hid ((HO2.out.grownQ hk3.grown hq).grownQ hk4.grown hq)
      have HG4 := Lib.hid hg4
      have HPU := Lib.hid (HSM.out p hpk)
      clear hg2 hk3 hr2 hr3 hk2 hg hg4
      by_cases c0 : p2 = 0
      · subst c0
        obtain ⟨W, hW⟩ : ∃ W, W = w4.alloc (.cells #[.int .i64 (-1), .int .i64 0, .int .i64 98, .int .i64 99, .int .i64 100] 3) := ⟨_, rfl⟩
        have hWb : Below w4.heap.size w4 W := by rw [hW]; exact alB _ _
        have hWh : W.heap[w4.heap.size]? = some (.cells #[.int .i64 (-1), .int .i64 0, .int .i64 98, .int .i64 99, .int .i64 100] 3 (0, 0)) := by rw [hW]; exact heap_alloc_new _ _
        have hWs : w4.heap.size < W.heap.size := by rw [hW]; simp
        have HH := Lib.hid hWh
        have HW := Lib.hid hW
        have h4s := HG4.out.size
        clear hW hWh
        go_wp2_with fail
        rw [← HW.out]
        refine (pick_r q (K + 5) 5 W (ready_keepB hr4 hWb) (by omega) (by omega)).mono ?_
        rintro e w5 ⟨u, hu0, hu1, rfl, hr5, hk5⟩
        have h2 := (hk5.block w4.heap.size (by omega)).trans HH.out
        have x0 : w5.cell? ⟨w4.heap.size, 0, none⟩ = some (.int .i64 (-1)) := by rw [cell_of_cells h2]; rfl
        have x1 : w5.cell? ⟨w4.heap.size, 1, none⟩ = some (.int .i64 0) := by rw [cell_of_cells h2]; rfl
        have x2 : w5.cell? ⟨w4.heap.size, 2, none⟩ = some (.int .i64 98) := by rw [cell_of_cells h2]; rfl
        have x3 : w5.cell? ⟨w4.heap.size, 3, none⟩ = some (.int .i64 99) := by rw [cell_of_cells h2]; rfl
        have x4 : w5.cell? ⟨w4.heap.size, 4, none⟩ = some (.int .i64 100) := by rw [cell_of_cells h2]; rfl
        have HG5 := Lib.hid (grown_trans (grown_below HG4.out hWb) hk5.grown)
        have ho5 := (HO4.out.keepB hWb (Nat.le_refl _)).grownQ hk5.grown hq
        obtain ⟨y0, y1, y2⟩ := ho5.cells hpk
        obtain ⟨_, _, cs, hbk, _⟩ := ho5.blk
        have f0 := frozen_of_cells hbk (p * 3)
        have HO5 := Lib.hid ho5
        clear h2 hk5 ho5 hbk
        have FIN : Hid (∀ x : Int, RegPost q K w (.returned (.slice (some ⟨g, 0, none⟩) L.length cap)) (w5.setCell ⟨g, p * 3, none⟩ (.int .i64 x))) := fun x =>
          ⟨g, cap, L.set p ⟨x, (gl L p).o, (gl L p).u⟩, by rw [List.length_set], by rw [List.length_set]; exact hl1, by rw [List.length_set]; omega, smL_set HSM.out HPU.out, HO5.out.setE hpk x, (hr5.less (by omega)).keep fun j hj => heap_set_ne _ _ _ _ _ (by omega), ⟨HG5.out.os, HG5.out.tape, HG5.out.output, by simp only [World.setCell, Array.size_modify]; exact HG5.out.size, fun k hk hn => (heap_set_ne _ _ _ _ _ (by omega)).trans (HG5.out.block k hk hn)⟩⟩
        have hc : u = 0 ∨ u = 1 ∨ u = 2 ∨ u = 3 ∨ u = 4 := by omega
        rcases hc with rfl | rfl | rfl | rfl | rfl
        all_goals
          go_wp2
          go_ret
          exact FIN.out _
      have c0' : (p2 == 0) = false := by simp [c0]
      by_cases c1 : p2 = 1
      · subst c1
        clear c0 c0'
        go_wp2_with fail
        refine (pick_r q (K + 5) 102 w4 hr4 (by omega) (by omega)).mono ?_
        rintro e w5 ⟨u, hu0, hu1, rfl, hr5, hk5⟩
        have HG5 := Lib.hid (grown_trans HG4.out hk5.grown)
        have ho5 := HO4.out.grownQ hk5.grown hq
        obtain ⟨y0, y1, y2⟩ := ho5.cells hpk
        obtain ⟨_, _, cs, hbk, _⟩ := ho5.blk
        have f0 := frozen_of_cells hbk (p * 3 + 2)
        have HO5 := Lib.hid ho5
        clear hk5 ho5 hbk
        go_wp2
        go_ret
        exact ⟨g, cap, L.set p ⟨(gl L p).e, (gl L p).o, u - 1⟩, by rw [List.length_set]; rfl, by rw [List.length_set]; exact hl1, by rw [List.length_set]; omega, smL_set HSM.out ⟨by show -1 ≤ u - 1; omega, by show u - 1 ≤ 101; omega⟩, HO5.out.setU hpk _, (hr5.less (by omega)).keep fun j hj => heap_set_ne _ _ _ _ _ (by omega), ⟨HG5.out.os, HG5.out.tape, HG5.out.output, by simp only [World.setCell, Array.size_modify]; exact HG5.out.size, fun k hk hn => (heap_set_ne _ _ _ _ _ (by omega)).trans (HG5.out.block k hk hn)⟩⟩
      have c1' : (p2 == 1) = false := by simp [c1]
      by_cases c2 : p2 = 2
      · subst c2
        clear c0 c0' c1 c1'
        have hs4 := HG4.out.size
        have hsrc : Hid (∀ (j : Nat) (u : Value), (flat L)[j]? = some u → w4.cell? ((⟨g, 0, none⟩ : Addr).add j) = some u) := src_ls (b := g) (off := 0) (fun i hi => by rw [Nat.zero_add]; exact HO4.out.cells hi)
        go_wp2_with (at_builtin; refine wl_appL _ (by rfl) _ _ (by rfl) w.heap.size g L.length cap L L (by rfl) HO4.out rfl ⟨g, 0, none⟩ L.length cap (by rfl) rfl hsrc.out (L.length + L.length) rfl (by omega) hs4 ?_; intro g' c' w5 hown5 hgr5 hat5; have HO5 := Lib.hid hown5; have HG5 := Lib.hid (⟨hgr5.os.trans HG4.out.os, hgr5.tape.trans HG4.out.tape, hgr5.output.trans HG4.out.output, Nat.le_trans hs4 hgr5.size, fun i hi hne => (hgr5.block i (Nat.lt_of_lt_of_le hi hs4) (fun e => by injection e with e; omega)).trans (HG4.out.block i hi hne)⟩ : w.grownBy w5 (some q)); have HR5 := Lib.hid (hr4.keep fun i hi => hgr5.block i (by omega) (fun e => by injection e with e; omega)); clear hown5 hgr5 hat5)
        go_ret
        exact ⟨g', c', L ++ L, by rw [List.length_append]; rfl, by rw [List.length_append]; omega, by rw [List.length_append]; omega, smL_app HSM.out HSM.out, HO5.out, HR5.out.less (by omega), HG5.out⟩
      have c2' : (p2 == 2) = false := by simp [c2]
      by_cases c3 : p2 = 3
      · subst c3
        clear c0 c0' c1 c1' c2 c2'
        go_wp2_with fail
        refine (point_r q (K + 4) w4 hr4).mono ?_
        rintro e w5 ⟨u, hu0, hu1, rfl, hr5, hk5⟩
        have HG5 := Lib.hid (grown_trans HG4.out hk5.grown)
        have ho5 := HO4.out.grownQ hk5.grown hq
        obtain ⟨y0, y1, y2⟩ := ho5.cells hpk
        obtain ⟨_, _, cs, hbk, _⟩ := ho5.blk
        have f0 := frozen_of_cells hbk (p * 3 + 1)
        have HO5 := Lib.hid ho5
        clear hk5 ho5 hbk
        go_wp2
        go_ret
        exact ⟨g, cap, L.set p ⟨(gl L p).e, u, (gl L p).u⟩, by rw [List.length_set]; rfl, by rw [List.length_set]; exact hl1, by rw [List.length_set]; omega, smL_set HSM.out HPU.out, HO5.out.setO hpk _, (hr5.less (by omega)).keep fun j hj => heap_set_ne _ _ _ _ _ (by omega), ⟨HG5.out.os, HG5.out.tape, HG5.out.output, by simp only [World.setCell, Array.size_modify]; exact HG5.out.size, fun k hk hn => (heap_set_ne _ _ _ _ _ (by omega)).trans (HG5.out.block k hk hn)⟩⟩
      have c3' : (p2 == 3) = false := by simp [c3]
      go_wp2
      go_ret
      exact ⟨g, cap, L, rfl, hl1, by omega, HSM.out, HO4.out, hr4.less (by omega), HG4.out⟩
end Go.Proofs.Ytcjlohikfjafiaa
