/- Drawing tables of tokens, and the draws of chapter 31. -/
import Derived.Test.YtidabcdaodlfeaaPlDraw
namespace Go.Proofs.Ytidabcdaodlfeaa
open Go.RowKit
set_option linter.unusedVariables false

theorem OwnK.grownQ {w w' : World} {base g cap q : Nat} {L : List Tk} (h : OwnK w base g cap L) (hg : w.grownBy w' (some q)) (hne : q < base) : OwnK w' base g cap L :=
  h.kept (hg.block g h.blk.2.1 (fun e => by injection e with e; have := h.blk.1; omega))
theorem grown_belowP {a b c : World} {q : Nat} (h : a.grownBy b (some q)) (hb : Below b.heap.size b c) : a.grownBy c (some q) :=
  grown_trans h ⟨hb.os, hb.tape, hb.output, hb.size, fun k hk _ => hb.block k hk⟩
theorem IntsFrom.downP {w : World} {base base' : Nat} {a : Option Addr} {zs : List Int} (h : IntsFrom w base a zs) (hb : base' ≤ base) : IntsFrom w base' a zs := by
  rcases h with h0 | ⟨b, off, ha, h1, h2, h3⟩
  · exact .inl h0
  · exact .inr ⟨b, off, ha, by omega, h2, h3⟩

/-- a drawn table -/
def TbPost (q K : Nat) (w : World) (e : Ending) (w' : World) : Prop :=
  ∃ (g cap : Nat) (L : List Tk), e = .returned (.slice (some ⟨g, 0, none⟩) L.length cap) ∧ L.length ≤ 64 ∧ OwnK w' w.heap.size g cap L ∧ Ready w' q K ∧ w.grownBy w' (some q)
theorem tb_post {q K n g cap : Nat} {w w' : World} {L : List Tk} (hn : L.length = n) (h7 : n ≤ 64) (ho : OwnK w' w.heap.size g cap L) (hr : Ready w' q K) (hg : w.grownBy w' (some q)) : TbPost q K w (.returned (.slice (some ⟨g, 0, none⟩) n cap)) w' := by
  subst hn; exact ⟨g, cap, L, rfl, h7, ho, hr, hg⟩

set_option maxHeartbeats 2000000 in
theorem table_any (q K : Nat) (w : World) (h : Ready w q (K + 70)) :
    Calls Try.prog 59 #[.pointer (some ⟨q, 0, none⟩)] w (TbPost q K w) := by
  have hq := h.lt
  have HR := Lib.hid h
  clear h
  go_enter Try.func59, Try.ntmps59
  go_wp2_with fail
  refine (place_any q (K + 10) w HR.out).mono ?_
  rintro e w1 ⟨a, c1, zs, g0, c0, ws, rfl, hz, hw, _, hi, ho, hr1, hg1⟩
  have HI := Lib.hid hi.ints
  have HO := Lib.hid ho.ints
  have hq1 := hr1.lt
  have hs1 := hg1.size
  clear hi ho
  go_wp2_with fail
  refine (splace_any a (some ⟨g0, 0, none⟩) zs.length ws.length c1 c0 zs ws w1 HI.out HO.out rfl rfl (by unfold maxLen; omega) (by unfold maxLen; omega)).mono ?_
  rintro e w2 ⟨g, cap, rfl, ho2, hb2⟩
  have hl := plR_len zs ws
  obtain ⟨L, hL⟩ : ∃ L, L = plR zs ws := ⟨_, rfl⟩
  rw [← hL] at ho2 hl ⊢
  obtain ⟨n, hn⟩ : ∃ n, L.length = n := ⟨_, rfl⟩
  rw [hn] at hl ⊢
  have HN := Lib.hid hn
  have HO2 := Lib.hid (ho2.less hs1)
  have hr2 : Ready w2 q (K + 10) := hr1.below hb2 hq1
  have hg2 := Lib.hid (grown_belowP hg1 hb2)
  clear hL hn ho2 hb2 hr1 hg1 hz hw
  rcases Nat.eq_zero_or_pos n with h0 | h0
  · subst h0
    go_wp2
    go_ret
    exact tb_post HN.out hl HO2.out (hr2.less (by omega)) hg2.out
  have h0' : (0 : Int) < (n : Int) := by omega
  go_wp2_with fail
  refine (pick_r q (K + 9) 14 w2 hr2 (by omega) (by omega)).mono ?_
  rintro e w3 ⟨p, hp0, hp1, rfl, hr3, hk3⟩
  have HO3 := Lib.hid (HO2.out.grownQ hk3.grown hq)
  have hg3 := Lib.hid (grown_trans hg2.out hk3.grown)
  clear hr2 hk3
  by_cases hp : p = 0
  · subst hp
    go_wp2_with fail
    refine (pick_r q (K + 8) (n : Int) w3 (hr3.less (by omega)) (by omega) (by omega)).mono ?_
    rintro e w4 ⟨pj, hj0, hj1, rfl, hr4, hk4⟩
    obtain ⟨j, rfl, hj⟩ : ∃ j : Nat, pj = (j : Int) ∧ j < n := ⟨pj.toNat, by omega, by omega⟩
    go_wp2_with fail
    refine (point_r q K w4 (hr4.less (by omega))).mono ?_
    rintro e w5 ⟨x, hx0, hx1, rfl, hr5, hk5⟩
    have ho5 := (HO3.out.grownQ hk4.grown hq).grownQ hk5.grown hq
    have hg5 := Lib.hid (grown_trans hg3.out (grown_trans hk4.grown hk5.grown))
    have hjl : Hid (j < L.length) := by show _ < _; rw [HN.out]; exact hj
    obtain ⟨y0, y1⟩ := ho5.cells (i := j) hjl.out
    obtain ⟨hbg, _, cs, hbk, _⟩ := ho5.blk
    have f0 := frozen_of_cells hbk (j * 2)
    have H5 := Lib.hid ho5
    clear ho5 hbk hk4 hk5 hr3 hr4
    go_wp2
    go_ret
    exact tb_post (by rw [List.length_set, HN.out]) hl (H5.out.setE hjl.out x) (ready_setP hr5 (by omega)) (grow_setP hg5.out hbg)
  · have hp' : (p == 0) = false := by simp [hp]
    go_wp2
    go_ret
    exact tb_post HN.out hl HO3.out (hr3.less (by omega)) hg3.out

/-- two drawn numbers -/
def Drew2I (w : World) (e : Ending) (w' : World) : Prop :=
  ∃ x y : Int, e = .returned (.tuple #[.int .i64 x, .int .i64 y]) ∧ -1000 ≤ x ∧ x ≤ 1000 ∧ -1000 ≤ y ∧ y ≤ 1000 ∧ Below w.heap.size w w'
/-- drawn nodes and weights -/
def DrewPW (w : World) (e : Ending) (w' : World) : Prop :=
  ∃ (a : Option Addr) (c : Nat) (zs : List Int) (g cap : Nat) (ws : List Int), e = .returned (.tuple #[.slice a zs.length c, .slice (some ⟨g, 0, none⟩) ws.length cap]) ∧ zs.length ≤ 20 ∧ ws.length ≤ 21 ∧ zs.length ≤ c ∧
    IntsFrom w' w.heap.size a zs ∧ OwnI w' w.heap.size (some ⟨g, 0, none⟩) cap ws ∧ Below w.heap.size w w'
/-- a drawn table and a number -/
def DrewTN (w : World) (e : Ending) (w' : World) : Prop :=
  ∃ (g cap : Nat) (L : List Tk) (x : Int), e = .returned (.tuple #[.slice (some ⟨g, 0, none⟩) L.length cap, .int .i64 x]) ∧ L.length ≤ 64 ∧ OwnK w' w.heap.size g cap L ∧ Below w.heap.size w w'

set_option maxHeartbeats 1000000 in
theorem drawPlaceTable (s : Option Addr) (len cap : Nat) (w : World) (h : BytesAt w s len cap) :
    Calls Try.prog 21 #[.slice s len cap] w (DrewPW w) := by
  go_enter Try.func21, Try.ntmps21
  go_wp2_with fail
  refine (open_any s len cap w h).mono ?_
  rintro e w0 ⟨rfl, hr0, hb0, hz0⟩
  have HZ := Lib.hid hz0
  clear hz0
  go_wp2_with fail
  refine (place_any w.heap.size 900000 w0 (hr0.less (by omega))).mono ?_
  rintro e w1 ⟨a, c, zs, g, cap1, ws, rfl, h1, h2, hcc, hi, ho, hr1, hg1⟩
  go_wp2
  go_ret2
  have hz := HZ.out
  exact ⟨a, c, zs, g, cap1, ws, rfl, h1, h2, hcc, hi.downP (by omega), ho.less (by omega), below_of_grown hb0 (Nat.le_refl _) (by omega) hg1⟩

set_option maxHeartbeats 1000000 in
theorem drawTokensOf (s : Option Addr) (len cap : Nat) (w : World) (h : BytesAt w s len cap) :
    Calls Try.prog 17 #[.slice s len cap] w (Drew2I w) := by
  go_enter Try.func17, Try.ntmps17
  go_wp2_with fail
  refine (open_any s len cap w h).mono ?_
  rintro e w0 ⟨rfl, hr0, hb0, hz0⟩
  have HZ := Lib.hid hz0
  clear hz0
  go_wp2_with fail
  refine (point_r w.heap.size 10 w0 (hr0.less (by omega))).mono ?_
  rintro e w1 ⟨x, hx0, hx1, rfl, hr1, hk1⟩
  go_wp2_with fail
  refine (pick_r w.heap.size 5 8 w1 (hr1.less (by omega)) (by omega) (by omega)).mono ?_
  rintro e w2 ⟨p, hp0, hp1, rfl, hr2, hk2⟩
  go_wp2
  go_ret2
  have hz := HZ.out
  exact ⟨x, p - 1, rfl, by omega, by omega, by omega, by omega, below_of_grown hb0 (Nat.le_refl _) (by omega) (grown_trans hk1.grown hk2.grown)⟩

set_option maxHeartbeats 1000000 in
theorem drawPlaceOwner (s : Option Addr) (len cap : Nat) (w : World) (h : BytesAt w s len cap) :
    Calls Try.prog 26 #[.slice s len cap] w (DrewTN w) := by
  go_enter Try.func26, Try.ntmps26
  go_wp2_with fail
  refine (open_any s len cap w h).mono ?_
  rintro e w0 ⟨rfl, hr0, hb0, hz0⟩
  have HZ := Lib.hid hz0
  clear hz0
  go_wp2_with fail
  refine (table_any w.heap.size 900000 w0 (hr0.less (by omega))).mono ?_
  rintro e w1 ⟨g, c, L, rfl, hl, ho, hr1, hg1⟩
  have HO := Lib.hid ho
  clear ho
  have hsz : w.heap.size < w0.heap.size := by have := HZ.out; omega
  go_wp2_with fail
  refine (point_r w.heap.size 10 w1 (hr1.less (by omega))).mono ?_
  rintro e w2 ⟨x, hx0, hx1, rfl, hr2, hk2⟩
  go_wp2
  go_ret2
  exact ⟨g, c, L, x, rfl, hl, (HO.out.grownQ hk2.grown hsz).less hb0.size, below_of_grown hb0 (Nat.le_refl _) (by have := HZ.out; omega) (grown_trans hg1 hk2.grown)⟩
end Go.Proofs.Ytidabcdaodlfeaa
