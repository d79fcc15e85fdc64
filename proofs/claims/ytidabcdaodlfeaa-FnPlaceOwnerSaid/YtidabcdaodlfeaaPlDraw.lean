/- Drawing nodes and their weights. -/
import Derived.Test.YtidabcdaodlfeaaPlS2
namespace Go.Proofs.Ytidabcdaodlfeaa
open Go.RowKit
set_option linter.unusedVariables false

theorem grown_app {a b d : World} {q g : Nat} {o : Obj} (h : a.grownBy b (some q)) (hg : (b.alloc o).grownBy d (some g)) (hgb : a.heap.size ≤ g) : a.grownBy d (some q) :=
  ⟨hg.os.trans h.os, hg.tape.trans h.tape, hg.output.trans h.output, by have h1 := h.size; have h2 := hg.size; simp at h2; omega,
    fun k hk hn => (hg.block k (by have := h.size; simp; omega) (by intro e; injection e with e; omega)).trans ((Below.heap_alloc _ _ _ (by have := h.size; omega)).trans (h.block k hk hn))⟩
theorem ready_app {b d : World} {q k g : Nat} {o : Obj} (h : Ready b q k) (hg : (b.alloc o).grownBy d (some g)) (hgb : q < g) : Ready d q k :=
  h.keep fun i hi => (hg.block i (by have := h.lt; simp; omega) (by intro e; injection e with e; omega)).trans (Below.heap_alloc _ _ _ (by have := h.lt; omega))
theorem grow_setP {w w2 : World} {q g i : Nat} {u : Value} (hg : w.grownBy w2 (some q)) (hgb : w.heap.size ≤ g) : w.grownBy (w2.setCell ⟨g, i, none⟩ u) (some q) :=
  ⟨hg.os, hg.tape, hg.output, by simp only [World.setCell, Array.size_modify]; exact hg.size, fun k hk hn => (Below.heap_setCell _ _ _ _ (by show k ≠ g; omega)).trans (hg.block k hk hn)⟩
theorem ready_setP {w : World} {q k g i : Nat} {u : Value} (h : Ready w q k) (hne : q < g) : Ready (w.setCell ⟨g, i, none⟩ u) q k := h.keep fun j hj => Below.heap_setCell _ _ _ _ (by show j ≠ g; omega)
theorem OwnI.grownQ {w w' : World} {base g cap q : Nat} {zs : List Int} (h : OwnI w base (some ⟨g, 0, none⟩) cap zs) (hg : w.grownBy w' (some q)) (hne : q < base) : OwnI w' base (some ⟨g, 0, none⟩) cap zs :=
  h.kept fun k hk hk' => hg.block k hk' (by intro e; injection e with e; omega)

/-- the weights so far, behind the nodes' world -/
def WtAt (q K : Nat) (w : World) (n : Nat) (v : Value) (wr : World) : Prop :=
  ∃ (g cap : Nat) (ws : List Int), v = .slice (some ⟨g, 0, none⟩) n cap ∧ ws.length = n ∧ OwnI wr w.heap.size (some ⟨g, 0, none⟩) cap ws ∧ Ready wr q K ∧ w.grownBy wr (some q)
/-- drawn nodes and weights -/
def PlPost (q K : Nat) (w : World) (e : Ending) (w' : World) : Prop :=
  ∃ (a : Option Addr) (c : Nat) (zs : List Int) (g cap : Nat) (ws : List Int), e = .returned (.tuple #[.slice a zs.length c, .slice (some ⟨g, 0, none⟩) ws.length cap]) ∧ zs.length ≤ 20 ∧ ws.length ≤ 21 ∧ zs.length ≤ c ∧
    IntsFrom w' w.heap.size a zs ∧ OwnI w' w.heap.size (some ⟨g, 0, none⟩) cap ws ∧ Ready w' q K ∧ w.grownBy w' (some q)
theorem pl_post {q K n m c g cap : Nat} {a : Option Addr} {zs ws : List Int} {w w1 w' : World} (hq : q < w.heap.size) (hn : zs.length = n) (hm : ws.length = m) (h20 : n ≤ 20) (h21 : m ≤ 21) (hc : n ≤ c) (hi : IntsFrom w1 w.heap.size a zs) (hg1 : w.grownBy w1 (some q)) (ho : OwnI w' w1.heap.size (some ⟨g, 0, none⟩) cap ws) (hr : Ready w' q K) (hg : w1.grownBy w' (some q)) :
    PlPost q K w (.returned (.tuple #[.slice a n c, .slice (some ⟨g, 0, none⟩) m cap])) w' := by
  subst hn hm
  exact ⟨a, c, zs, g, cap, ws, rfl, h20, h21, hc, hi.keep hg.size (fun k hk hk' => hg.block k hk' (by intro e; injection e with e; omega)), ho.less hg1.size, hr, grown_trans hg1 hg⟩

set_option maxRecDepth 20000 in
set_option maxHeartbeats 4000000 in
theorem place_any (q K : Nat) (w : World) (h : Ready w q (K + 60)) :
    Calls Try.prog 53 #[.pointer (some ⟨q, 0, none⟩)] w (PlPost q K w) := by
  have hq := h.lt
  have HR := Lib.hid h
  clear h
  go_enter Try.func53, Try.ntmps53
  go_wp2_with fail
  refine (nodes_any q (K + 45) w HR.out).mono ?_
  rintro e w1 ⟨a, c1, zs, rfl, hi1, hl, hlc, hr1, hg1⟩
  have hq1 : q < w1.heap.size := hr1.lt
  have HI := Lib.hid hi1
  have HG := Lib.hid hg1
  obtain ⟨n, hn⟩ : ∃ n, zs.length = n := ⟨_, rfl⟩
  rw [hn] at hl hlc ⊢
  have HN := Lib.hid hn
  have H0 : Hid (WtAt q (K + 8 + (20 - 0)) w1 0 (.slice (some ⟨w1.heap.size, 0, none⟩) 0 0) (w1.alloc (.cells #[] 3))) := by
    obtain ⟨g, cap, e, ho, _⟩ := sofar_new w1 #[] rfl
    injection e with e1 e2 e3; injection e1 with e1; injection e1 with e1; subst e1; subst e3
    exact ⟨w1.heap.size, 0, [], rfl, rfl, ho, (hr1.less (by omega)).keep (fun i hi => Below.heap_alloc _ _ _ (by omega)), World.grownBy_alloc w1 _ _⟩
  clear hi1 hg1 hn hr1
  go_wp2
  go_loopw [5, 6] (fun o i wr => ∃ k : Nat, k ≤ n ∧ i = .int .i64 k ∧ WtAt q (K + 8 + (20 - k)) w1 k o wr) (fun _ i _ => n - (intOf i).toNat)
  case atStart => exact ⟨0, by omega, rfl, H0.out⟩
  case round =>
    obtain ⟨k, hk, rfl, g, cap, ws, rfl, hw, hown, hr, hg⟩ := hrel
    have HW := Lib.hid hw
    have HO := Lib.hid hown
    have hgl := hown.lt
    clear hw hown H0
    by_cases hlt : k < n
    · go_wp2_with fail
      refine (pick_r q (K + 8 + (20 - (k + 1))) 5 wr (hr.less (by omega)) (by omega) (by omega)).mono ?_
      rintro e w2 ⟨p, hp0, hp1, rfl, hr2, hk2⟩
      have HO2 := Lib.hid (HO.out.grownQ hk2.grown hq1)
      have hg2 := grown_trans hg hk2.grown
      have hg2s := hg2.size
      clear hr hg
      go_wp2_with (at_builtin; have h1 := (HO2.out.keepB (alB w2 (.cells #[.int .i64 (1 + p)] 3)) (Nat.le_refl _)); have h2 := src_one (heap_alloc_new w2 (.cells #[.int .i64 (1 + p)] 3)); unfold OwnI at h1; rw [HW.out] at h1; refine wl_app _ (by rfl) _ _ (by rfl) w1.heap.size g k cap (vals ws) (by rfl) h1 ⟨w2.heap.size, 0, none⟩ 1 1 [.int .i64 (1 + p)] (by rfl) rfl h2 (by simp [Value.oneCell']) (k + 1) (vals (ws ++ [(1 + p)])) rfl (by simp [vals]) (by omega) (by simp; omega) ?_; intro g' c' w3 hown3 hgr3 hat3; have H3 : Hid (WtAt q (K + 8 + (20 - (k + 1))) w1 (k + 1) (.slice (some ⟨g', 0, none⟩) (k + 1) c') w3) := ⟨g', c', ws ++ [(1 + p)], rfl, by rw [List.length_append, HW.out]; rfl, by unfold OwnI; rw [List.length_append, HW.out]; exact hown3, ready_app hr2 hgr3 (by omega), grown_app hg2 hgr3 (by omega)⟩; clear hown3 hgr3 hat3 h1 h2)
      go_roundw
      case rel => exact ⟨k + 1, by omega, by go_num, H3.out⟩
      case measure => simp [intOf]; omega
    · obtain rfl : k = n := by omega
      clear hlt hk
      go_wp2_with fail
      refine (pick_r q (K + 7) 16 wr (hr.less (by omega)) (by omega) (by omega)).mono ?_
      rintro e w2 ⟨p7, hp70, hp71, rfl, hr2, hk2⟩
      have HO2 := Lib.hid (HO.out.grownQ hk2.grown hq1)
      have hg2 := grown_trans hg hk2.grown
      have hg2s := hg2.size
      clear hr hg HO hk2
      by_cases h7 : p7 = 0
      · subst h7
        go_wp2_with fail
        refine (pick_r q (K + 6) 7 w2 (hr2.less (by omega)) (by omega) (by omega)).mono ?_
        rintro e w4 ⟨p, hp0, hp1, rfl, hr4, hk4⟩
        have HO4 := Lib.hid (HO2.out.grownQ hk4.grown hq1)
        have hg4 := grown_trans hg2 hk4.grown
        have hg4s := hg4.size
        clear HO2 hg2 hr2 hg2s
        go_wp2_with (at_builtin; have h1 := (HO4.out.keepB (alB w4 (.cells #[.int .i64 p] 3)) (Nat.le_refl _)); have h2 := src_one (heap_alloc_new w4 (.cells #[.int .i64 p] 3)); unfold OwnI at h1; rw [HW.out] at h1; refine wl_app _ (by rfl) _ _ (by rfl) w1.heap.size g k cap (vals ws) (by rfl) h1 ⟨w4.heap.size, 0, none⟩ 1 1 [.int .i64 p] (by rfl) rfl h2 (by simp [Value.oneCell']) (k + 1) (vals (ws ++ [p])) rfl (by simp [vals]) (by omega) (by simp; omega) ?_; intro g' c' w3 hown3 hgr3 hat3; have H3 : Hid (WtAt q (K + 6) w1 (k + 1) (.slice (some ⟨g', 0, none⟩) (k + 1) c') w3) := ⟨g', c', ws ++ [p], rfl, by rw [List.length_append, HW.out]; rfl, by unfold OwnI; rw [List.length_append, HW.out]; exact hown3, ready_app hr4 hgr3 (by omega), grown_app hg4 hgr3 (by omega)⟩; clear hown3 hgr3 hat3 h1 h2)
        obtain ⟨g3, c3, ws3, e3, hw3, ho3, hr3, hg3⟩ := H3.out
        injection e3 with e31 e32 e33; injection e31 with e31; injection e31 with e31; subst e31; subst e33
        have HW3 := Lib.hid hw3
        have HO3 := Lib.hid ho3
        clear H3 e32 hw3 ho3 hr4 hg4 hg4s HO4 HW hk4
        go_wp2_with fail
        refine (pick_r q (K + 5) 16 w3 (hr3.less (by omega)) (by omega) (by omega)).mono ?_
        rintro e w5 ⟨p9, hp90, hp91, rfl, hr5, hk5⟩
        have HO5 := Lib.hid (HO3.out.grownQ hk5.grown hq1)
        have hg5 := Lib.hid (grown_trans hg3 hk5.grown)
        clear HO3 hr3 hg3
        by_cases h9 : p9 = 0
        · subst h9
          rcases Nat.eq_zero_or_pos (k + 1) with hz | hz
          · omega
          · have hzi : (0 : Int) < ((k + 1 : Nat) : Int) := by omega
            go_wp2_with fail
            refine (pick_r q (K + 4) (k + 1 : Nat) w5 hr5 (by omega) (by omega)).mono ?_
            rintro e w6 ⟨pj, hj0, hj1, rfl, hr6, hk6⟩
            obtain ⟨j, rfl, hj⟩ : ∃ j : Nat, pj = (j : Int) ∧ j < k + 1 := ⟨pj.toNat, by omega, by omega⟩
            go_wp2_with fail
            refine (pick_r q (K + 3) 2 w6 (hr6.less (by omega)) (by omega) (by omega)).mono ?_
            rintro e w7 ⟨px, hx0, hx1, rfl, hr7, hk7⟩
            have ho7 := (HO5.out.grownQ hk6.grown hq1).grownQ hk7.grown hq1
            have hg7 := Lib.hid (grown_trans hg5.out (grown_trans hk6.grown hk7.grown))
            have hjl : j < (ws3).length := by rw [HW3.out]; exact hj
            obtain ⟨g0, ha, hbg, hlt7, hc, hfz⟩ := ho7.at_ (by omega)
            injection ha with ha
            injection ha with ha
            subst ha
            have hcj := hc j hjl
            have hfj := hfz j
            have HO7 := Lib.hid ho7
            have HJ := Lib.hid hjl
            clear hc hfz ho7 hjl hk5 hk6 hk7 hr5 hr6
            go_wp2
            go_ret2
            exact pl_post hq HN.out (by rw [List.length_set, HW3.out]) hl (by omega) hlc HI.out HG.out (HO7.out.set HJ.out _) ((ready_setP hr7 (by omega)).less (by omega)) (grow_setP hg7.out hbg)
        · have h9' : (p9 == 0) = false := by simp [h9]
          go_wp2
          go_ret2
          exact pl_post hq HN.out HW3.out hl (by omega) hlc HI.out HG.out HO5.out (hr5.less (by omega)) hg5.out
      · have h7' : (p7 == 0) = false := by simp [h7]
        go_wp2_with fail
        refine (pick_r q (K + 5) 16 w2 (hr2.less (by omega)) (by omega) (by omega)).mono ?_
        rintro e w5 ⟨p9, hp90, hp91, rfl, hr5, hk5⟩
        have HO5 := Lib.hid (HO2.out.grownQ hk5.grown hq1)
        have hg5 := Lib.hid (grown_trans hg2 hk5.grown)
        clear HO2 hr2 hg2
        by_cases h9 : p9 = 0
        · subst h9
          rcases Nat.eq_zero_or_pos (k) with hz | hz
          · subst hz
            have hzi : decide ((0 : Int) < ((0 : Nat) : Int)) = false := by decide
            go_wp2
            go_ret2
            exact pl_post hq HN.out HW.out hl (by omega) hlc HI.out HG.out HO5.out (hr5.less (by omega)) hg5.out
          · have hzi : (0 : Int) < ((k : Nat) : Int) := by omega
            go_wp2_with fail
            refine (pick_r q (K + 4) (k : Nat) w5 hr5 (by omega) (by omega)).mono ?_
            rintro e w6 ⟨pj, hj0, hj1, rfl, hr6, hk6⟩
            obtain ⟨j, rfl, hj⟩ : ∃ j : Nat, pj = (j : Int) ∧ j < k := ⟨pj.toNat, by omega, by omega⟩
            go_wp2_with fail
            refine (pick_r q (K + 3) 2 w6 (hr6.less (by omega)) (by omega) (by omega)).mono ?_
            rintro e w7 ⟨px, hx0, hx1, rfl, hr7, hk7⟩
            have ho7 := (HO5.out.grownQ hk6.grown hq1).grownQ hk7.grown hq1
            have hg7 := Lib.hid (grown_trans hg5.out (grown_trans hk6.grown hk7.grown))
            have hjl : j < (ws).length := by rw [HW.out]; exact hj
            obtain ⟨g0, ha, hbg, hlt7, hc, hfz⟩ := ho7.at_ (by omega)
            injection ha with ha
            injection ha with ha
            subst ha
            have hcj := hc j hjl
            have hfj := hfz j
            have HO7 := Lib.hid ho7
            have HJ := Lib.hid hjl
            clear hc hfz ho7 hjl hk5 hk6 hk7 hr5 hr6
            go_wp2
            go_ret2
            exact pl_post hq HN.out (by rw [List.length_set, HW.out]) hl (by omega) hlc HI.out HG.out (HO7.out.set HJ.out _) ((ready_setP hr7 (by omega)).less (by omega)) (grow_setP hg7.out hbg)
        · have h9' : (p9 == 0) = false := by simp [h9]
          go_wp2
          go_ret2
          exact pl_post hq HN.out HW.out hl (by omega) hlc HI.out HG.out HO5.out (hr5.less (by omega)) hg5.out
end Go.Proofs.Ytidabcdaodlfeaa
