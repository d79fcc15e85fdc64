/- Drawing leases and times. -/
import Derived.Test.YtenhaccdiamagaaLsV
import Derived.Test.YtenhaccdiamagaaLsC
namespace Go.Proofs.Ytenhaccdiamagaa
open Go.RowKit
set_option linter.unusedVariables false

/-- a drawn number, and new blocks -/
def DrewG (q k : Nat) (lo hi : Int) (w : World) (e : Ending) (w' : World) : Prop :=
  ∃ v : Int, lo ≤ v ∧ v ≤ hi ∧ e = .returned (.int .i64 v) ∧ Ready w' q k ∧ w.grownBy w' (some q)

set_option maxHeartbeats 1000000 in
theorem time_r (q k : Nat) (w : World) (h : Ready w q (k + 2)) :
    Calls Try.prog 72 #[.pointer (some ⟨q, 0, none⟩)] w (DrewG q k (-1) 1000 w) := by
  have hq := h.lt
  go_enter Try.func72, Try.ntmps72
  go_wp2_with fail
  refine (pick_r q (k + 1) 16 w h (by omega) (by omega)).mono ?_
  rintro e w1 ⟨v, hv0, hv1, rfl, hr1, hk1⟩
  by_cases hv : v = 0
  · subst hv
    have hq1 := hr1.lt
    obtain ⟨W, hW⟩ : ∃ W, W = w1.alloc (.cells #[.int .i64 (-1), .int .i64 0, .int .i64 999, .int .i64 1000] 3) := ⟨_, rfl⟩
    have hWb : Below w1.heap.size w1 W := by rw [hW]; exact alB _ _
    have hWg : w1.grownBy W (some q) := by rw [hW]; exact World.grownBy_alloc _ _ _
    have hWh : W.heap[w1.heap.size]? = some (.cells #[.int .i64 (-1), .int .i64 0, .int .i64 999, .int .i64 1000] 3 (0, 0)) := by rw [hW]; exact heap_alloc_new _ _
    have HH := Lib.hid hWh
    have HW := Lib.hid hW
    clear hW hWh
    go_wp2_with fail
    rw [← HW.out]
    refine (pick_r q k 4 W (hr1.below hWb hq1) (by omega) (by omega)).mono ?_
    rintro e w2 ⟨u, hu0, hu1, rfl, hr2, hk2⟩
    have h2 := (hk2.block w1.heap.size (by omega)).trans HH.out
    have x0 : w2.cell? ⟨w1.heap.size, 0, none⟩ = some (.int .i64 (-1)) := by rw [cell_of_cells h2]; rfl
    have x1 : w2.cell? ⟨w1.heap.size, 1, none⟩ = some (.int .i64 0) := by rw [cell_of_cells h2]; rfl
    have x2 : w2.cell? ⟨w1.heap.size, 2, none⟩ = some (.int .i64 999) := by rw [cell_of_cells h2]; rfl
    have x3 : w2.cell? ⟨w1.heap.size, 3, none⟩ = some (.int .i64 1000) := by rw [cell_of_cells h2]; rfl
    clear h2
    have hG : w.grownBy w2 (some q) := grown_trans hk1.grown (grown_trans hWg hk2.grown)
    have hc : u = 0 ∨ u = 1 ∨ u = 2 ∨ u = 3 := by omega
    rcases hc with rfl | rfl | rfl | rfl
    · go_wp2
      go_ret
      exact ⟨-1, by omega, by omega, rfl, hr2, hG⟩
    · go_wp2
      go_ret
      exact ⟨0, by omega, by omega, rfl, hr2, hG⟩
    · go_wp2
      go_ret
      exact ⟨999, by omega, by omega, rfl, hr2, hG⟩
    · go_wp2
      go_ret
      exact ⟨1000, by omega, by omega, rfl, hr2, hG⟩
  · have hv' : (v == 0) = false := by simp [hv]
    go_wp2_with fail
    refine (pick_r q k 60 w1 (hr1.less (by omega)) (by omega) (by omega)).mono ?_
    rintro e w2 ⟨u, hu0, hu1, rfl, hr2, hk2⟩
    go_wp2
    go_ret
    exact ⟨u, by omega, by omega, rfl, hr2, grown_trans hk1.grown hk2.grown⟩

/-- drawn leases -/
def LsPost (q K : Nat) (w : World) (e : Ending) (w' : World) : Prop :=
  ∃ (g cap : Nat) (L : List Ls), e = .returned (.slice (some ⟨g, 0, none⟩) L.length cap) ∧ L.length ≤ 12 ∧ OwnS w' w.heap.size g cap L ∧ Ready w' q K ∧ w.grownBy w' (some q)
def LsDrawAt (q K n : Nat) (w : World) (i : Nat) (v : Value) (wr : World) : Prop :=
  ∃ (g cap : Nat) (L : List Ls), v = .slice (some ⟨g, 0, none⟩) L.length cap ∧ L.length = i ∧ OwnS wr w.heap.size g cap L ∧ Ready wr q (K + 3 * (n - i)) ∧ w.grownBy wr (some q)
theorem OwnS.take {w : World} {base g cap : Nat} {L : List Ls} (h : OwnS w base g cap L) (k : Nat) : OwnS w base g cap (L.take k) := by
  obtain ⟨h1, h2, cs, h3, h4, h5, h6, h7⟩ := h.blk
  refine own_mk h3 h1 (by rw [List.length_take]; omega) h5 h6 fun j u hu => h7 j u ?_
  have hl : L = L.take k ++ L.drop k := (List.take_append_drop k L).symm
  have e : flat L = flat (L.take k) ++ flat (L.drop k) := by rw [← flat_app, List.take_append_drop]
  rw [e, List.getElem?_append_left]
  · exact hu
  · rcases Nat.lt_or_ge j (flat (L.take k)).length with h' | h'
    · exact h'
    · rw [List.getElem?_eq_none h'] at hu; cases hu
theorem draw_next {q K n i : Nat} {w w2 w3 : World} {g g' cap' : Nat} {L : List Ls} {x : Ls} (hq : q < w.heap.size) (hgb : w.heap.size ≤ g) (hg2 : w.grownBy w2 (some q)) (hr2 : Ready w2 q (K + 3 * (n - (i + 1)))) (hb : Below w2.heap.size w2 w3 ∨ w2.grownBy w3 (some g)) (hL : L.length = i)
    (ho : OwnS w3 w.heap.size g' cap' (L ++ [x])) : LsDrawAt q K n w (i + 1) (.slice (some ⟨g', 0, none⟩) (i + 1) cap') w3 := by
  have h2 : w2.grownBy w3 (some g) := by
    rcases hb with hb | hb
    · exact ⟨hb.os, hb.tape, hb.output, hb.size, fun k hk _ => hb.block k hk⟩
    · exact hb
  refine ⟨g', cap', L ++ [x], by rw [List.length_append, hL]; rfl, by rw [List.length_append, hL]; rfl, ho, ?_, ?_⟩
  · exact hr2.keep fun k hk => h2.block k (by have := hg2.size; omega) (fun e => by injection e with e; omega)
  · exact ⟨h2.os.trans hg2.os, h2.tape.trans hg2.tape, h2.output.trans hg2.output, Nat.le_trans hg2.size h2.size, fun k hk hne => (h2.block k (Nat.lt_of_lt_of_le hk hg2.size) (fun e => by injection e with e; omega)).trans (hg2.block k hk hne)⟩

theorem grow_set {w w2 : World} {q g i : Nat} {u : Value} (hg : w.grownBy w2 (some q)) (hgb : w.heap.size ≤ g) : w.grownBy (w2.setCell ⟨g, i, none⟩ u) (some q) :=
  ⟨hg.os, hg.tape, hg.output, by simp only [World.setCell, Array.size_modify]; exact hg.size, fun k hk hn => (heap_set_ne _ _ _ _ _ (by omega)).trans (hg.block k hk hn)⟩
theorem ready_set {w : World} {q k g i : Nat} {u : Value} (h : Ready w q k) (hne : q < g) : Ready (w.setCell ⟨g, i, none⟩ u) q k := h.keep fun j hj => heap_set_ne _ _ _ _ _ (by omega)

set_option maxHeartbeats 4000000 in
theorem leases_any (q K : Nat) (w : World) (h : Ready w q (K + 45)) :
    Calls Try.prog 49 #[.pointer (some ⟨q, 0, none⟩)] w (LsPost q K w) := by
  have hq := h.lt
  have HR := Lib.hid h
  go_enter Try.func49, Try.ntmps49
  go_wp2_with fail
  refine (pick_r q (K + 44) 9 _ ?hr (by omega) (by omega)).mono ?_
  case hr => exact HR.out.keep (fun i hi => Below.heap_alloc _ _ _ (by omega))
  rintro e w1 ⟨v, hv0, hv1, rfl, hr1, hk1⟩
  have hg1 : w.grownBy w1 (some q) := grown_trans (World.grownBy_alloc w _ _) hk1.grown
  have hown1 : OwnS w1 w.heap.size w.heap.size 0 [] := (own_none w #[] rfl).kept (hk1.block _ (by omega))
  go_wp2_with fail
  refine (pick_r q (K + 43) 6 w1 hr1 (by omega) (by omega)).mono ?_
  rintro e w2 ⟨u, hu0, hu1, rfl, hr2, hk2⟩
  have hg2 : w.grownBy w2 (some q) := grown_trans hg1 hk2.grown
  have hown2 : OwnS w2 w.heap.size w.heap.size 0 [] := hown1.kept (hk2.block _ (by omega))
  clear hown1 h
  rcases Decidable.em (u = 0) with hu | hu
  case' inl =>
    subst hu
    go_wp2_with fail
    refine (pick_r q (K + 42) 2 w2 hr2 (by omega) (by omega)).mono ?_
    rintro e w3 ⟨t, ht0, ht1, rfl, hr3, hk3⟩
    have hg3 : w.grownBy w3 (some q) := grown_trans hg2 hk3.grown
    have hown3 : OwnS w3 w.heap.size w.heap.size 0 [] := hown2.kept (hk3.block _ (by omega))
    obtain ⟨n, hn, hn1, hn2⟩ : ∃ n : Nat, (11 : Int) + t = n ∧ 1 ≤ n ∧ n ≤ 12 := ⟨(11 + t).toNat, by omega, by omega, by omega⟩
  case' inr =>
    have hu' : (u == 0) = false := by simp [hu]
    obtain ⟨w3, hw3⟩ : ∃ x, x = w2 := ⟨_, rfl⟩
    have hr3 : Ready w3 q (K + 42) := by rw [hw3]; exact hr2.less (by omega)
    have hg3 : w.grownBy w3 (some q) := by rw [hw3]; exact hg2
    have hown3 : OwnS w3 w.heap.size w.heap.size 0 [] := by rw [hw3]; exact hown2
    obtain ⟨n, hn, hn1, hn2⟩ : ∃ n : Nat, (1 : Int) + v = n ∧ 1 ≤ n ∧ n ≤ 12 := ⟨(1 + v).toNat, by omega, by omega, by omega⟩
    subst hw3
  all_goals
    have H0 : Hid (LsDrawAt q (K + 5) n w 0 (.slice (some ⟨w.heap.size, 0, none⟩) 0 0) w3) := ⟨w.heap.size, 0, [], rfl, rfl, hown3, hr3.less (by omega), hg3⟩
    clear hown2 hown3
    go_wp2
    clear hn
    go_loopw [3, 5, 6] (fun o en i wr => ∃ (k : Nat) (z : Int), k ≤ n ∧ i = .int .i64 k ∧ en = .int .i64 z ∧ -1 ≤ z ∧ z ≤ 100 * k ∧ LsDrawAt q (K + 5) n w k o wr) (fun _ _ i _ => n - (intOf i).toNat)
    case atStart => exact ⟨0, -1, by omega, rfl, rfl, by omega, by omega, H0.out⟩
    case round =>
      obtain ⟨k, z, hk, rfl, rfl, hz0, hz1, g, cap, L, rfl, hL, hown, hr, hg⟩ := hrel
      have HL := Lib.hid hL
      have HO := Lib.hid hown
      have hgb := hown.blk.1
      clear hL hown
      by_cases hlt : k < n
      · have hd1 : (1 : Int) ≤ 64 / (n : Int) := by rw [Int.le_ediv_iff_mul_le (by omega)]; omega
        have hd2 : (64 : Int) / (n : Int) ≤ 64 := Int.ediv_le_self _ (by omega)
        go_wp2_with fail
        refine (pick_r q (K + 5 + 3 * (n - (k + 1)) + 2) (64 / (n : Int)) wr (hr.less (by omega)) hd1 (by omega)).mono ?_
        rintro e w4 ⟨p1, hp10, hp11, rfl, hr4, hk4⟩
        rcases Int.lt_trichotomy (z + 1 + p1) 63 with c63 | c63 | c63
        all_goals
          go_wp2_with fail
          refine (pick_r q (K + 5 + 3 * (n - (k + 1)) + 1) 5 w4 hr4 (by omega) (by omega)).mono ?_
          rintro e w5 ⟨p2, hp20, hp21, rfl, hr5, hk5⟩
          go_wp2_with fail
          refine (pick_r q (K + 5 + 3 * (n - (k + 1))) 6 w5 hr5 (by omega) (by omega)).mono ?_
          rintro e w6 ⟨p3, hp30, hp31, rfl, hr6, hk6⟩
          have hg6 : w.grownBy w6 (some q) := grown_trans hg (grown_trans hk4.grown (grown_trans hk5.grown hk6.grown))
          have hne : g ≠ q := by omega
          have HO6 := Lib.hid (((HO.out.kept (hk4.block _ hne)).kept (hk5.block _ hne)).kept (hk6.block _ hne))
          have HR6 := Lib.hid hr6
          have HG6 := Lib.hid hg6
          have hs6 := hg6.size
          have HS6 := Lib.hid hs6
          clear hs6
          clear hr hr4 hr5 hr6 hg hg6 hk4 hk5 hk6
          rw [HL.out]
          go_wp2_with (at_builtin; (first | (refine wl_appL _ (by rfl) _ _ (by rfl) w.heap.size g k cap L [⟨z + 1 + p1, 10 * p2, 10 * p3⟩] (by rfl) (HO6.out.keepB (alB _ _) (Nat.le_refl _)) HL.out ⟨_, 0, none⟩ 1 1 (by rfl) rfl (srcL_one (heap_alloc_new _ _)) (k + 1) rfl (by omega) (by have := HS6.out; simp; omega) ?_) | (refine wl_appL _ (by rfl) _ _ (by rfl) w.heap.size g k cap L [⟨63, 10 * p2, 10 * p3⟩] (by rfl) (HO6.out.keepB (alB _ _) (Nat.le_refl _)) HL.out ⟨_, 0, none⟩ 1 1 (by rfl) rfl (srcL_one (heap_alloc_new _ _)) (k + 1) rfl (by omega) (by have := HS6.out; simp; omega) ?_)); intro g' c' w7 hown7 hgr hat; have H7 := Lib.hid (draw_next hq hgb (grown_trans HG6.out (World.grownBy_alloc _ _ _)) (HR6.out.below (alB _ _) (by have := HS6.out; omega)) (.inr hgr) HL.out hown7); clear hown7 hgr hat)
          go_roundw
          case rel => exact ⟨k + 1, z + 1 + p1, by omega, by go_num, by go_num, by omega, by omega, H7.out⟩
          case measure => simp [intOf]; omega
      · obtain rfl : k = n := by omega
        rw [HL.out]
        have hne : g ≠ q := by omega
        have hr0 : Ready wr q (K + 4) := hr.less (by omega)
        clear hr
        go_wp2_with fail
        refine (pick_r q (K + 3) (k : Int) wr hr0 (by omega) (by omega)).mono ?_
        rintro e w4 ⟨p1, hp10, hp11, rfl, hr4, hk4⟩
        obtain ⟨p, rfl, hpk⟩ : ∃ p : Nat, p1 = (p : Int) ∧ p < k := ⟨p1.toNat, by omega, by omega⟩
        go_wp2_with fail
        refine (pick_r q (K + 2) 20 w4 hr4 (by omega) (by omega)).mono ?_
        rintro e w5 ⟨p2, hp20, hp21, rfl, hr5, hk5⟩
        have hg5 : w.grownBy w5 (some q) := grown_trans hg (grown_trans hk4.grown hk5.grown)
        have HO5 := Lib.hid ((HO.out.kept (hk4.block _ hne)).kept (hk5.block _ hne))
        have HG5 := Lib.hid hg5
        clear hg5 hg hk4 hk5
        by_cases c0 : p2 = 0
        · subst c0
          go_wp2_with fail
          refine (point_r q K w5 hr5).mono ?_
          rintro e w6 ⟨x, hx0, hx1, rfl, hr6, hk6⟩
          have ho6 := HO5.out.kept (hk6.block _ hne)
          obtain ⟨y0, y1, y2⟩ := ho6.cells (i := p) (by rw [HL.out]; exact hpk)
          obtain ⟨_, _, cs, hbk, _⟩ := ho6.blk
          have f0 := frozen_of_cells hbk (p * 3)
          have H6 := Lib.hid ho6
          clear ho6 hbk
          go_wp2
          go_ret
          exact ⟨g, cap, L.set p ⟨x, (gl L p).o, (gl L p).u⟩, by rw [List.length_set, HL.out]; rfl, by rw [List.length_set, HL.out]; exact hn2, H6.out.setE (by rw [HL.out]; exact hpk) x, ready_set hr6 (by omega), grow_set (grown_trans HG5.out hk6.grown) hgb⟩
        have c0' : (p2 == 0) = false := by simp [c0]
        by_cases c1 : p2 = 1
        · subst c1
          clear c0 c0'
          go_wp2_with fail
          refine (point_r q K w5 hr5).mono ?_
          rintro e w6 ⟨x, hx0, hx1, rfl, hr6, hk6⟩
          have ho6 := HO5.out.kept (hk6.block _ hne)
          obtain ⟨y0, y1, y2⟩ := ho6.cells (i := p) (by rw [HL.out]; exact hpk)
          obtain ⟨_, _, cs, hbk, _⟩ := ho6.blk
          have f0 := frozen_of_cells hbk (p * 3 + 1)
          have H6 := Lib.hid ho6
          clear ho6 hbk
          go_wp2
          go_ret
          exact ⟨g, cap, L.set p ⟨(gl L p).e, x, (gl L p).u⟩, by rw [List.length_set, HL.out]; rfl, by rw [List.length_set, HL.out]; exact hn2, H6.out.setO (by rw [HL.out]; exact hpk) x, ready_set hr6 (by omega), grow_set (grown_trans HG5.out hk6.grown) hgb⟩
        have c1' : (p2 == 1) = false := by simp [c1]
        by_cases c2 : p2 = 2
        · subst c2
          clear c0 c0' c1 c1'
          go_wp2_with fail
          refine (time_r q K w5 hr5).mono ?_
          rintro e w6 ⟨x, hx0, hx1, rfl, hr6, hk6⟩
          have ho6 := HO5.out.kept (hk6.block _ HO5.out.blk.2.1 (fun e => by injection e with e; omega))
          obtain ⟨y0, y1, y2⟩ := ho6.cells (i := p) (by rw [HL.out]; exact hpk)
          obtain ⟨_, _, cs, hbk, _⟩ := ho6.blk
          have f0 := frozen_of_cells hbk (p * 3 + 2)
          have H6 := Lib.hid ho6
          clear ho6 hbk
          go_wp2
          go_ret
          exact ⟨g, cap, L.set p ⟨(gl L p).e, (gl L p).o, x⟩, by rw [List.length_set, HL.out]; rfl, by rw [List.length_set, HL.out]; exact hn2, H6.out.setU (by rw [HL.out]; exact hpk) x, ready_set hr6 (by omega), grow_set (grown_trans HG5.out hk6) hgb⟩
        have c2' : (p2 == 2) = false := by simp [c2]
        by_cases c3 : p2 = 3
        · subst c3
          clear c0 c0' c1 c1' c2 c2'
          go_wp2_with fail
          refine (pick_r q K 2 w5 (hr5.less (by omega)) (by omega) (by omega)).mono ?_
          rintro e w6 ⟨x, hx0, hx1, rfl, hr6, hk6⟩
          have H6 := Lib.hid (HO5.out.kept (hk6.block _ hne))
          obtain ⟨_, _, cs, _, hcap, hcm, _⟩ := H6.out.blk
          rw [HL.out] at hcap
          unfold maxLen at hcm
          have hcap1 : (1 : Int) ≤ (cap : Int) := by omega
          have hcap2 : 1 ≤ cap := by omega
          have hcap3 : ¬ cap = 0 := by omega
          have hx : x = 0 ∨ x = 1 := by omega
          rcases hx with rfl | rfl
          · go_wp2
            go_ret
            exact ⟨g, cap, L.take 0, rfl, by simp, H6.out.take 0, hr6, grown_trans HG5.out hk6.grown⟩
          · have hl1 : (L.take 1).length = 1 := by rw [List.length_take, HL.out]; omega
            have HL1 := Lib.hid hl1
            clear hl1
            go_wp2
            go_ret
            exact ⟨g, cap, L.take 1, by rw [HL1.out]; rfl, by rw [HL1.out]; omega, H6.out.take 1, hr6, grown_trans HG5.out hk6.grown⟩
        have c3' : (p2 == 3) = false := by simp [c3]
        go_wp2
        go_ret
        exact ⟨g, cap, L, by rw [HL.out]; rfl, by rw [HL.out]; exact hn2, HO5.out, hr5.less (by omega), HG5.out⟩
end Go.Proofs.Ytenhaccdiamagaa
