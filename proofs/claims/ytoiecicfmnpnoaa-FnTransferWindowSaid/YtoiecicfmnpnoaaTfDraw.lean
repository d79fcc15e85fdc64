/- Transfers: drawing items. -/
import Derived.Test.YtoiecicfmnpnoaaTfMath
import Derived.Test.YtoiecicfmnpnoaaDrawL
import Derived.Handy
namespace Go.Proofs.Ytoiecicfmnpnoaa
open Go.RowKit
set_option linter.unusedVariables false

attribute [local go_sem ↓] Go.wp_at_zero Go.wp_at_succ

/-- items that were drawn: a slice of at most n numbers -/
def DrewIT (n q K : Nat) (w : World) (e : Ending) (w' : World) : Prop :=
  ∃ (a : Option Addr) (cap : Nat) (zs : List Int), e = .returned (.slice a zs.length cap) ∧ IntsFrom w' w.heap.size a zs ∧ zs.length ≤ n ∧ zs.length ≤ cap ∧ Ready w' q K ∧ w.grownBy w' (some q)
theorem good_stepT {q K n i g g5 cap5 : Nat} {w w2 w5 : World} {o : Obj} {ys : List Int} (hq : q < w.heap.size) (hg2 : w.grownBy w2 (some q)) (hr2 : Ready w2 q (K + (n - (i + 1)))) (hgb : w.heap.size ≤ g)
    (hg5 : (w2.alloc o).grownBy w5 (some g)) (hl : ys.length = i + 1) (hown5 : w5.ownsRow w.heap.size 3 1 (.slice (some ⟨g5, 0, none⟩) (i + 1) cap5) (i + 1) (vals ys)) :
    GoodAt q K n w (i + 1) (.slice (some ⟨g5, 0, none⟩) (i + 1) cap5) w5 := by
  have hs2 := hg2.size
  have hs5 := hg5.size
  have hb : ∀ k, k < w.heap.size → w5.heap[k]? = w2.heap[k]? := fun k hk => (hg5.block k (by simp; omega) (by intro e; injection e with e; omega)).trans (Below.heap_alloc w2 o k (by omega))
  refine ⟨g5, cap5, ys, rfl, hl, by unfold OwnI; rw [hl]; exact hown5, hr2.keep (fun k hk => hb k (by omega)), ?_⟩
  exact ⟨hg5.os.trans hg2.os, hg5.tape.trans hg2.tape, hg5.output.trans hg2.output, by simp at hs5; omega, fun k hk hne => (hb k hk).trans (hg2.block k hk hne)⟩
theorem three_cellsT (w : World) (x y z : Int) {t : Nat} (ht : t < 3) : ∃ u : Int, (w.alloc (.cells #[.int .i64 x, .int .i64 y, .int .i64 z] 3)).cell? ⟨w.heap.size, t, none⟩ = some (.int .i64 u) := by
  rw [cell_of_cells (heap_alloc_new w _)]
  rcases t with _ | _ | _ | t
  · exact ⟨x, rfl⟩
  · exact ⟨y, rfl⟩
  · exact ⟨z, rfl⟩
  · omega
theorem own_openT {w : World} {base g cap i : Nat} {zs : List Int} (h : OwnI w base (some ⟨g, 0, none⟩) cap zs) (hi : i < zs.length) :
    w.cell? ⟨g, i, none⟩ = some (.int .i64 (gt zs i)) ∧ w.frozen? ⟨g, i, none⟩ = false := by
  obtain ⟨g', ha, _, _, hc, hf⟩ := h.at_ (by omega)
  injection ha with ha; injection ha with ha; subst ha
  exact ⟨hc i hi, hf i⟩

set_option maxHeartbeats 4000000 in
theorem titems_any (q K : Nat) (w : World) (h : Ready w q (K + 27)) :
    Calls Try.prog 23 #[.pointer (some ⟨q, 0, none⟩)] w (DrewIT 21 q K w) := by
  have hq := h.lt
  have hr1 : Ready (w.alloc (.cells #[] 3)) q (K + 26 + 1) := h.keep (fun i hi => Below.heap_alloc _ _ _ (by omega))
  have HO1 : Hid (OwnI (w.alloc (.cells #[] 3)) w.heap.size (some ⟨w.heap.size, 0, none⟩) 0 []) := ⟨by simp [vals], .inr ⟨w.heap.size, 0, #[], rfl, Nat.le_refl _, heap_alloc_new w _, Nat.zero_le _, by unfold maxLen; omega, rfl, by simp [vals]⟩⟩
  clear h
  go_enter Try.func23, Try.ntmps23
  go_wp2_with fail
  refine (pick_r q (K + 26) 14 _ hr1 (by omega) (by omega)).mono ?_
  rintro e w1 ⟨x, hx0, hx1, rfl, hr2, hk1⟩
  have HG1 : Hid (w.grownBy w1 (some q)) := grown_trans (World.grownBy_alloc w _ _) hk1.grown
  have HO2 : Hid (OwnI w1 w.heap.size (some ⟨w.heap.size, 0, none⟩) 0 []) := HO1.out.kept (fun g h1 h2 => hk1.block g (by omega))
  obtain ⟨n, rfl⟩ := Int.eq_ofNat_of_zero_le hx0
  clear hr1 hk1
  go_wp2_with fail
  refine (pick_r q (K + 25) 10 w1 hr2 (by omega) (by omega)).mono ?_
  rintro e w2 ⟨v, hv0, hv1, rfl, hr3, hk2⟩
  have HG2 : Hid (w.grownBy w2 (some q)) := grown_trans HG1.out hk2.grown
  have HO3 : Hid (OwnI w2 w.heap.size (some ⟨w.heap.size, 0, none⟩) 0 []) := HO2.out.kept (fun g h1 h2 => hk2.block g (by omega))
  clear hr2 hk2 HO1 HO2 HG1
  by_cases hv : v = 0
  · subst hv
    go_wp2_with fail
    refine (pick_r q (K + 24) 3 w2 hr3 (by omega) (by omega)).mono ?_
    rintro e w3 ⟨y, hy0, hy1, rfl, hr4, hk3⟩
    obtain ⟨j, rfl⟩ := Int.eq_ofNat_of_zero_le hy0
    obtain ⟨N, hN⟩ : ∃ N, N = 19 + j := ⟨_, rfl⟩
    have s1 : (19 : Int) + (j : Int) = (N : Int) := by omega
    have s2 : IntKind.i64.wrap (N : Int) = (N : Int) := by rw [IntKind.wrap_i64]; omega
    have hn : N ≤ 21 := by omega
    have HG3 : Hid (w.grownBy w3 (some q)) := grown_trans HG2.out hk3.grown
    have HO4 : Hid (OwnI w3 w.heap.size (some ⟨w.heap.size, 0, none⟩) 0 []) := HO3.out.kept (fun g h1 h2 => hk3.block g (by omega))
    have H0 : Hid (GoodAt q (K + 3) N w 0 (.slice (some ⟨w.heap.size, 0, none⟩) 0 0) w3) := ⟨w.heap.size, 0, [], rfl, rfl, HO4.out, hr4.less (by omega), HG3.out⟩
    clear hr3 hr4 hk3 HG2 HG3 HO3 HO4 hN
    go_wp2
    go_loopw [3, 5] (fun o i wr => ∃ k : Nat, k ≤ N ∧ i = .int .i64 k ∧ GoodAt q (K + 3) N w k o wr) (fun _ i _ => N - (intOf i).toNat)
    case atStart => exact ⟨0, by omega, rfl, H0.out⟩
    case round =>
      obtain ⟨k, hk, rfl, g, cap, zs, rfl, hz, hown, hr, hg⟩ := hrel
      have HZ := Lib.hid hz
      have hcap := hown.cap_le
      rw [hz] at hcap
      unfold maxLen at hcap
      have hgl := hown.lt
      have hs1 := hg.size
      have HO := Lib.hid hown
      clear hz
      by_cases hlt : k < N
      · clear hown
        have hlt' : (k : Int) < (N : Int) := by omega
        go_wp2_with fail
        refine (pick_r q (K + 3 + (N - (k + 1))) 250 wr (hr.less (by omega)) (by omega) (by omega)).mono ?_
        rintro e w2' ⟨x, hx0, hx1, rfl, hr2, hk2⟩
        have hown2 : OwnI w2' w.heap.size (some ⟨g, 0, none⟩) cap zs := HO.out.kept (fun g hg hg' => hk2.block g (by omega))
        have hg2 : w.grownBy w2' (some q) := grown_trans hg hk2.grown
        have hs2 := hg2.size
        have HOW : Hid (w2'.ownsRow w.heap.size 3 1 (.slice (some ⟨g, 0, none⟩) k cap) k (vals zs)) := by
          have h := hown2; unfold OwnI at h; rw [HZ.out] at h; exact h
        have HG2 := Lib.hid hg2
        have HR2 := Lib.hid hr2
        clear hown2 hg2 hr2 hg hr
        go_wp2_with (at_builtin; refine wl_app _ (by rfl) _ _ (by rfl) w.heap.size g k cap (vals zs) (by rfl) (HOW.out.alloc _) ⟨w2'.heap.size, 0, none⟩ 1 1 [.int .i64 x] (by rfl) rfl (src_one (heap_alloc_new w2' _)) (by simp [Value.oneCell']) (k + 1) (vals (zs ++ [x])) rfl (by simp [vals]) (by omega) (by simp; omega) ?_; intro g5 cap5 w5 hown5 hg5 hat5; have HO5 := Lib.hid hown5; have HG5 := Lib.hid hg5; clear hown5 hg5 hat5)
        go_roundw
        case rel => exact ⟨k + 1, by omega, by go_num, good_stepT hq HG2.out HR2.out hgl.1 HG5.out (by rw [List.length_append, HZ.out]; rfl) HO5.out⟩
        case measure => simp [intOf]; omega
      · have hkN : k = N := by omega
        subst hkN
        clear hlt hk
        go_wp2_with fail
        refine (pick_r q (K + 2) 20 wr (hr.less (by omega)) (by omega) (by omega)).mono ?_
        rintro e w2' ⟨u, hu0, hu1, rfl, hr2, hk2⟩
        have hown2 : OwnI w2' w.heap.size (some ⟨g, 0, none⟩) cap zs := HO.out.kept (fun g hg hg' => hk2.block g (by omega))
        have hg2 : w.grownBy w2' (some q) := grown_trans hg hk2.grown
        have hs2 := hg2.size
        clear hown hr hg
        by_cases hu : u = 0
        · subst hu
          by_cases hp : 0 < k
          · have hp' : (0 : Int) < (k : Int) := by omega
            go_wp2_with fail
            refine (pick_r q (K + 1) k w2' hr2 (by omega) (by omega)).mono ?_
            rintro e w3' ⟨t1, ht0, ht1, rfl, hr3, hk3⟩
            have hown3 : OwnI w3' w.heap.size (some ⟨g, 0, none⟩) cap zs := hown2.kept (fun g hg hg' => hk3.block g (by omega))
            have hg3 : w.grownBy w3' (some q) := grown_trans hg2 hk3.grown
            have hs3 := hg3.size
            obtain ⟨l, rfl⟩ := Int.eq_ofNat_of_zero_le ht0
            clear hown2 hg2 hr2
            go_wp2_with fail
            refine (pick_r q K 3 (w3'.alloc (.cells #[.int .i64 (-1), .int .i64 990, .int .i64 991] 3)) (hr3.keep (fun i hi => Below.heap_alloc _ _ _ (by omega))) (by omega) (by omega)).mono ?_
            rintro e w4 ⟨t, ht0, ht1, rfl, hr4, hk4⟩
            obtain ⟨m, rfl⟩ := Int.eq_ofNat_of_zero_le ht0
            obtain ⟨x, hx⟩ := three_cellsT w3' (-1) 990 991 (t := m) (by omega)
            have hx4 : w4.cell? ⟨w3'.heap.size, m, none⟩ = some (.int .i64 x) := (hk4.cell (p := ⟨w3'.heap.size, m, none⟩) (by show w3'.heap.size ≠ q; omega)).trans hx
            have hb4 : ∀ i, i < w3'.heap.size → i ≠ q → w4.heap[i]? = w3'.heap[i]? := fun i hi hne => (hk4.block i hne).trans (Below.heap_alloc w3' _ i hi)
            have hown4 : OwnI w4 w.heap.size (some ⟨g, 0, none⟩) cap zs := hown3.kept (fun i h1 h2 => hb4 i h2 (by omega))
            have hg4 : w.grownBy w4 (some q) := grown_trans (grown_trans hg3 (World.grownBy_alloc w3' _ _)) hk4.grown
            have hl : l < k := by omega
            obtain ⟨hcj, hfj⟩ := own_openT hown4 (i := l) (by rw [HZ.out]; exact hl)
            have HO4 := Lib.hid hown4
            have HG4 := Lib.hid hg4
            have hm3 : (m : Int) < 3 := by omega
            have hl3 : (l : Int) < (k : Int) := by omega
            clear hown3 hown4 hg3 hg4 hx hb4
            go_wp2
            go_ret
            refine ⟨_, cap, zs.set l x, by rw [List.length_set, HZ.out]; rfl, (HO4.out.set (by rw [HZ.out]; exact hl) x).froms, by rw [List.length_set, HZ.out]; omega, by rw [List.length_set, HZ.out]; omega, ?_, ?_⟩
            · exact hr4.keep (fun i hi => Below.heap_setCell _ _ _ _ (by show i ≠ g; omega))
            · exact ⟨HG4.out.os, HG4.out.tape, HG4.out.output, by simpa [World.setCell] using HG4.out.size, fun i hi hne => (Below.heap_setCell _ _ _ _ (by show i ≠ g; omega)).trans (HG4.out.block i hi hne)⟩
          · have hk0 : k = 0 := by omega
            subst hk0
            have HO2 := Lib.hid hown2
            clear hown2
            go_wp2
            go_ret
            exact ⟨_, cap, zs, by rw [HZ.out]; rfl, HO2.out.froms, by rw [HZ.out]; omega, by rw [HZ.out]; omega, hr2.less (by omega), hg2⟩
        · have huB : (u == 0) = false := by simp [hu]
          have HO2 := Lib.hid hown2
          clear hown2
          go_wp2
          go_ret
          exact ⟨_, cap, zs, by rw [HZ.out]; rfl, HO2.out.froms, by rw [HZ.out]; omega, by rw [HZ.out]; omega, hr2.less (by omega), hg2⟩
  · have hvB : (v == 0) = false := by simp [hv]
    obtain ⟨N, hN⟩ : ∃ N, N = n := ⟨_, rfl⟩
    subst hN
    have hn : N ≤ 21 := by omega
    have H0 : Hid (GoodAt q (K + 3) N w 0 (.slice (some ⟨w.heap.size, 0, none⟩) 0 0) w2) := ⟨w.heap.size, 0, [], rfl, rfl, HO3.out, hr3.less (by omega), HG2.out⟩
    clear hr3 HG2 HO3
    go_wp2
    go_loopw [3, 5] (fun o i wr => ∃ k : Nat, k ≤ N ∧ i = .int .i64 k ∧ GoodAt q (K + 3) N w k o wr) (fun _ i _ => N - (intOf i).toNat)
    case atStart => exact ⟨0, by omega, rfl, H0.out⟩
    case round =>
      obtain ⟨k, hk, rfl, g, cap, zs, rfl, hz, hown, hr, hg⟩ := hrel
      have HZ := Lib.hid hz
      have hcap := hown.cap_le
      rw [hz] at hcap
      unfold maxLen at hcap
      have hgl := hown.lt
      have hs1 := hg.size
      have HO := Lib.hid hown
      clear hz
      by_cases hlt : k < N
      · clear hown
        have hlt' : (k : Int) < (N : Int) := by omega
        go_wp2_with fail
        refine (pick_r q (K + 3 + (N - (k + 1))) 250 wr (hr.less (by omega)) (by omega) (by omega)).mono ?_
        rintro e w2' ⟨x, hx0, hx1, rfl, hr2, hk2⟩
        have hown2 : OwnI w2' w.heap.size (some ⟨g, 0, none⟩) cap zs := HO.out.kept (fun g hg hg' => hk2.block g (by omega))
        have hg2 : w.grownBy w2' (some q) := grown_trans hg hk2.grown
        have hs2 := hg2.size
        have HOW : Hid (w2'.ownsRow w.heap.size 3 1 (.slice (some ⟨g, 0, none⟩) k cap) k (vals zs)) := by
          have h := hown2; unfold OwnI at h; rw [HZ.out] at h; exact h
        have HG2 := Lib.hid hg2
        have HR2 := Lib.hid hr2
        clear hown2 hg2 hr2 hg hr
        go_wp2_with (at_builtin; refine wl_app _ (by rfl) _ _ (by rfl) w.heap.size g k cap (vals zs) (by rfl) (HOW.out.alloc _) ⟨w2'.heap.size, 0, none⟩ 1 1 [.int .i64 x] (by rfl) rfl (src_one (heap_alloc_new w2' _)) (by simp [Value.oneCell']) (k + 1) (vals (zs ++ [x])) rfl (by simp [vals]) (by omega) (by simp; omega) ?_; intro g5 cap5 w5 hown5 hg5 hat5; have HO5 := Lib.hid hown5; have HG5 := Lib.hid hg5; clear hown5 hg5 hat5)
        go_roundw
        case rel => exact ⟨k + 1, by omega, by go_num, good_stepT hq HG2.out HR2.out hgl.1 HG5.out (by rw [List.length_append, HZ.out]; rfl) HO5.out⟩
        case measure => simp [intOf]; omega
      · have hkN : k = N := by omega
        subst hkN
        clear hlt hk
        go_wp2_with fail
        refine (pick_r q (K + 2) 20 wr (hr.less (by omega)) (by omega) (by omega)).mono ?_
        rintro e w2' ⟨u, hu0, hu1, rfl, hr2, hk2⟩
        have hown2 : OwnI w2' w.heap.size (some ⟨g, 0, none⟩) cap zs := HO.out.kept (fun g hg hg' => hk2.block g (by omega))
        have hg2 : w.grownBy w2' (some q) := grown_trans hg hk2.grown
        have hs2 := hg2.size
        clear hown hr hg
        by_cases hu : u = 0
        · subst hu
          by_cases hp : 0 < k
          · have hp' : (0 : Int) < (k : Int) := by omega
            go_wp2_with fail
            refine (pick_r q (K + 1) k w2' hr2 (by omega) (by omega)).mono ?_
            rintro e w3' ⟨t1, ht0, ht1, rfl, hr3, hk3⟩
            have hown3 : OwnI w3' w.heap.size (some ⟨g, 0, none⟩) cap zs := hown2.kept (fun g hg hg' => hk3.block g (by omega))
            have hg3 : w.grownBy w3' (some q) := grown_trans hg2 hk3.grown
            have hs3 := hg3.size
            obtain ⟨l, rfl⟩ := Int.eq_ofNat_of_zero_le ht0
            clear hown2 hg2 hr2
            go_wp2_with fail
            refine (pick_r q K 3 (w3'.alloc (.cells #[.int .i64 (-1), .int .i64 990, .int .i64 991] 3)) (hr3.keep (fun i hi => Below.heap_alloc _ _ _ (by omega))) (by omega) (by omega)).mono ?_
            rintro e w4 ⟨t, ht0, ht1, rfl, hr4, hk4⟩
            obtain ⟨m, rfl⟩ := Int.eq_ofNat_of_zero_le ht0
            obtain ⟨x, hx⟩ := three_cellsT w3' (-1) 990 991 (t := m) (by omega)
            have hx4 : w4.cell? ⟨w3'.heap.size, m, none⟩ = some (.int .i64 x) := (hk4.cell (p := ⟨w3'.heap.size, m, none⟩) (by show w3'.heap.size ≠ q; omega)).trans hx
            have hb4 : ∀ i, i < w3'.heap.size → i ≠ q → w4.heap[i]? = w3'.heap[i]? := fun i hi hne => (hk4.block i hne).trans (Below.heap_alloc w3' _ i hi)
            have hown4 : OwnI w4 w.heap.size (some ⟨g, 0, none⟩) cap zs := hown3.kept (fun i h1 h2 => hb4 i h2 (by omega))
            have hg4 : w.grownBy w4 (some q) := grown_trans (grown_trans hg3 (World.grownBy_alloc w3' _ _)) hk4.grown
            have hl : l < k := by omega
            obtain ⟨hcj, hfj⟩ := own_openT hown4 (i := l) (by rw [HZ.out]; exact hl)
            have HO4 := Lib.hid hown4
            have HG4 := Lib.hid hg4
            have hm3 : (m : Int) < 3 := by omega
            have hl3 : (l : Int) < (k : Int) := by omega
            clear hown3 hown4 hg3 hg4 hx hb4
            go_wp2
            go_ret
            refine ⟨_, cap, zs.set l x, by rw [List.length_set, HZ.out]; rfl, (HO4.out.set (by rw [HZ.out]; exact hl) x).froms, by rw [List.length_set, HZ.out]; omega, by rw [List.length_set, HZ.out]; omega, ?_, ?_⟩
            · exact hr4.keep (fun i hi => Below.heap_setCell _ _ _ _ (by show i ≠ g; omega))
            · exact ⟨HG4.out.os, HG4.out.tape, HG4.out.output, by simpa [World.setCell] using HG4.out.size, fun i hi hne => (Below.heap_setCell _ _ _ _ (by show i ≠ g; omega)).trans (HG4.out.block i hi hne)⟩
          · have hk0 : k = 0 := by omega
            subst hk0
            have HO2 := Lib.hid hown2
            clear hown2
            go_wp2
            go_ret
            exact ⟨_, cap, zs, by rw [HZ.out]; rfl, HO2.out.froms, by rw [HZ.out]; omega, by rw [HZ.out]; omega, hr2.less (by omega), hg2⟩
        · have huB : (u == 0) = false := by simp [hu]
          have HO2 := Lib.hid hown2
          clear hown2
          go_wp2
          go_ret
          exact ⟨_, cap, zs, by rw [HZ.out]; rfl, HO2.out.froms, by rw [HZ.out]; omega, by rw [HZ.out]; omega, hr2.less (by omega), hg2⟩
end Go.Proofs.Ytoiecicfmnpnoaa
