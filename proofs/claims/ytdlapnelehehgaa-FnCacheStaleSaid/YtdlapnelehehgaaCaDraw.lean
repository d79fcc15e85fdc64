/- Drawing caches. -/
import Derived.Test.YtdlapnelehehgaaCaS2
namespace Go.Proofs.Ytdlapnelehehgaa
open Go.RowKit
set_option linter.unusedVariables false

/-- a drawn number, and new blocks -/
def DrewG (q k : Nat) (lo hi : Int) (w : World) (e : Ending) (w' : World) : Prop :=
  ∃ v : Int, lo ≤ v ∧ v ≤ hi ∧ e = .returned (.int .i64 v) ∧ Ready w' q k ∧ w.grownBy w' (some q)

set_option maxHeartbeats 1000000 in
theorem time_r (q k : Nat) (w : World) (h : Ready w q (k + 2)) :
    Calls Try.prog 60 #[.pointer (some ⟨q, 0, none⟩)] w (DrewG q k (-1) 1000 w) := by
  have hq := h.lt
  go_enter Try.func60, Try.ntmps60
  go_wp2_with fail
  refine (pick_r q (k + 1) 16 w h (by omega) (by omega)).mono ?_
  rintro e w1 ⟨v, hv0, hv1, rfl, hr1, hk1⟩
  by_cases hv : v = 0
  · subst hv
    have hq1 := hr1.lt
    obtain ⟨W, hW⟩ : ∃ W, W = w1.alloc (.cells #[.int .i64 (-1), .int .i64 0, .int .i64 999, .int .i64 1000] 3) := ⟨_, rfl⟩
    have hWb : Below w1.heap.size w1 W := by rw [hW]; exact alB _ _
    have hWg : w1.grownBy W (some q) := by rw [hW]; exact World.grownBy_alloc _ _ _
    have hWh : W.heap[w1.heap.size]? = some (.cells #[.int .i64 (-1), .int .i64 0, .int .i64 999, .int .i64 1000] 3 (0, 0)) := by rw [hW]; exact heap_alloc_new _ _
    have HH := Lib.hid hWh
    have HW := Lib.hid hW
    clear hW hWh
    go_wp2_with fail
    rw [← HW.out]
    refine (pick_r q k 4 W (hr1.below hWb hq1) (by omega) (by omega)).mono ?_
    rintro e w2 ⟨u, hu0, hu1, rfl, hr2, hk2⟩
    have h2 := (hk2.block w1.heap.size (by omega)).trans HH.out
    have x0 : w2.cell? ⟨w1.heap.size, 0, none⟩ = some (.int .i64 (-1)) := by rw [cell_of_cells h2]; rfl
    have x1 : w2.cell? ⟨w1.heap.size, 1, none⟩ = some (.int .i64 0) := by rw [cell_of_cells h2]; rfl
    have x2 : w2.cell? ⟨w1.heap.size, 2, none⟩ = some (.int .i64 999) := by rw [cell_of_cells h2]; rfl
    have x3 : w2.cell? ⟨w1.heap.size, 3, none⟩ = some (.int .i64 1000) := by rw [cell_of_cells h2]; rfl
    clear h2
    have hG : w.grownBy w2 (some q) := grown_trans hk1.grown (grown_trans hWg hk2.grown)
    have hc : u = 0 ∨ u = 1 ∨ u = 2 ∨ u = 3 := by omega
    rcases hc with rfl | rfl | rfl | rfl
    · go_wp2
      go_ret
      exact ⟨-1, by omega, by omega, rfl, hr2, hG⟩
    · go_wp2
      go_ret
      exact ⟨0, by omega, by omega, rfl, hr2, hG⟩
    · go_wp2
      go_ret
      exact ⟨999, by omega, by omega, rfl, hr2, hG⟩
    · go_wp2
      go_ret
      exact ⟨1000, by omega, by omega, rfl, hr2, hG⟩
  · have hv' : (v == 0) = false := by simp [hv]
    go_wp2_with fail
    refine (pick_r q k 60 w1 (hr1.less (by omega)) (by omega) (by omega)).mono ?_
    rintro e w2 ⟨u, hu0, hu1, rfl, hr2, hk2⟩
    go_wp2
    go_ret
    exact ⟨u, by omega, by omega, rfl, hr2, grown_trans hk1.grown hk2.grown⟩

theorem grow_set {w w2 : World} {q g i : Nat} {u : Value} (hg : w.grownBy w2 (some q)) (hgb : w.heap.size ≤ g) : w.grownBy (w2.setCell ⟨g, i, none⟩ u) (some q) :=
  ⟨hg.os, hg.tape, hg.output, by simp only [World.setCell, Array.size_modify]; exact hg.size, fun k hk hn => (heap_set_ne _ _ _ _ _ (by omega)).trans (hg.block k hk hn)⟩
theorem ready_set {w : World} {q k g i : Nat} {u : Value} (h : Ready w q k) (hne : q < g) : Ready (w.setCell ⟨g, i, none⟩ u) q k := h.keep fun j hj => heap_set_ne _ _ _ _ _ (by omega)

theorem OwnS.grownQ {w w' : World} {base g cap q : Nat} {L : List Ls} (h : OwnS w base g cap L) (hg : w.grownBy w' (some q)) (hne : q < base) : OwnS w' base g cap L :=
  h.kept (hg.block g h.blk.2.1 (fun e => by injection e with e; have := h.blk.1; omega))
theorem ready_keepB {w w' : World} {q k : Nat} (h : Ready w q k) (hb : Below w.heap.size w w') : Ready w' q k := h.below hb h.lt
theorem grown_below {a b c : World} {q : Nat} (h : a.grownBy b (some q)) (hb : Below b.heap.size b c) : a.grownBy c (some q) :=
  grown_trans h ⟨hb.os, hb.tape, hb.output, hb.size, fun k hk _ => hb.block k hk⟩
/-- the model's CachePut where it is known that it succeeds -/
theorem sput_as (M : List Ls) (n : Nat) (a : Option Addr) (len cap : Nat) (L : List Ls) (key v now : Int) (w : World) (h : LsAt w a L) (hz : L.length = len) (hm : len ≤ maxLen) (hR : putR L key v now = (M, true)) (hn : M.length = n) :
    Calls Try.prog 17 #[.slice a len cap, .int .i64 key, .int .i64 v, .int .i64 now] w fun e w' => ∃ g c, e = .returned (.tuple #[.slice (some ⟨g, 0, none⟩) n c, .bool true]) ∧ OwnS w' w.heap.size g c M ∧ Below w.heap.size w w' := by
  subst hn
  refine (sput_any a len cap L key v now w h hz hm).mono ?_
  rintro e w' ⟨g, c, rfl, ho, hb⟩
  rw [hR] at ho ⊢
  exact ⟨g, c, rfl, ho, hb⟩

/-- a drawn cache -/
def CaPost (q K : Nat) (w : World) (e : Ending) (w' : World) : Prop :=
  ∃ (g cap : Nat) (L : List Ls), e = .returned (.slice (some ⟨g, 0, none⟩) L.length cap) ∧ L.length ≤ 7 ∧ OwnS w' w.heap.size g cap L ∧ Ready w' q K ∧ w.grownBy w' (some q)
/-- .. at the head of the loop -/
def CaAt (q K : Nat) (w : World) (k : Nat) (v : Value) (wr : World) : Prop :=
  ∃ (g cap : Nat) (L : List Ls) (n : Nat), v = .slice (some ⟨g, 0, none⟩) n cap ∧ L.length = n ∧ lvB L = true ∧ OwnS wr w.heap.size g cap L ∧ Ready wr q (K + 4 * (10 - k)) ∧ w.grownBy wr (some q)
theorem ca_post {q K n g cap : Nat} {w w' : World} {L : List Ls} (hn : L.length = n) (h7 : n ≤ 7) (ho : OwnS w' w.heap.size g cap L) (hr : Ready w' q K) (hg : w.grownBy w' (some q)) : CaPost q K w (.returned (.slice (some ⟨g, 0, none⟩) n cap)) w' := by
  subst hn; exact ⟨g, cap, L, rfl, h7, ho, hr, hg⟩

set_option maxHeartbeats 4000000 in
theorem cache_any (q K : Nat) (w : World) (h : Ready w q (K + 50)) :
    Calls Try.prog 34 #[.pointer (some ⟨q, 0, none⟩)] w (CaPost q K w) := by
  have hq := h.lt
  have H0 : Hid (CaAt q (K + 6) w 0 (.slice (some ⟨w.heap.size, 0, none⟩) 0 0) (w.alloc (.cells #[] 37))) :=
    ⟨w.heap.size, 0, [], 0, rfl, rfl, rfl, own_none w _ rfl, (h.less (by omega)).keep (fun i hi => Below.heap_alloc _ _ _ (by omega)), World.grownBy_alloc w _ _⟩
  clear h
  go_enter Try.func34, Try.ntmps34
  go_wp2
  go_loopw [3, 4, 5, 6] (fun o i _ _ wr => ∃ k : Nat, k ≤ 9 ∧ i = .int .i64 k ∧ CaAt q (K + 6) w k o wr) (fun _ i _ _ _ => 10 - (intOf i).toNat)
  case atStart => exact ⟨0, by omega, rfl, H0.out⟩
  case round =>
    obtain ⟨k, hk, rfl, g, cap, L, n, rfl, hn, hlv, hown, hr, hg⟩ := hrel
    have HO := Lib.hid hown
    have HZ := Lib.hid hn
    have HV := Lib.hid hlv
    have hgb := hown.blk.1
    have hn6 : n ≤ 6 := by have := lv_len hlv; omega
    clear hown hn hlv
    go_wp2_with fail
    refine (pick_r q (K + 6 + 4 * (10 - (k + 1)) + 3) 10 wr (hr.less (by omega)) (by omega) (by omega)).mono ?_
    rintro e w1 ⟨p0, hp00, hp01, rfl, hr1, hk1⟩
    have hg1 : w.grownBy w1 (some q) := grown_trans hg hk1.grown
    have HO1 := Lib.hid (HO.out.grownQ hk1.grown hq)
    clear hr hg
    by_cases hlt : (k : Int) < p0
    · go_wp2_with fail
      refine (pick_r q (K + 6 + 4 * (10 - (k + 1)) + 2) 9 w1 hr1 (by omega) (by omega)).mono ?_
      rintro e w2 ⟨p1, hp10, hp11, rfl, hr2, hk2⟩
      go_wp2_with fail
      refine (pick_r q (K + 6 + 4 * (10 - (k + 1)) + 1) 100 w2 hr2 (by omega) (by omega)).mono ?_
      rintro e w3 ⟨p2, hp20, hp21, rfl, hr3, hk3⟩
      go_wp2_with fail
      refine (pick_r q (K + 6 + 4 * (10 - (k + 1))) 20 w3 hr3 (by omega) (by omega)).mono ?_
      rintro e w4 ⟨p3, hp30, hp31, rfl, hr4, hk4⟩
      have hg4 : w.grownBy w4 (some q) := grown_trans hg1 (grown_trans hk2.grown (grown_trans hk3.grown hk4.grown))
      have HO4 := Lib.hid (((HO1.out.grownQ hk2.grown hq).grownQ hk3.grown hq).grownQ hk4.grown hq)
      have hok : putOk L p1 p2 (20 + p3) = true := (putOk_iff _ _ _ _).2 ⟨HV.out, by omega, by omega, by omega⟩
      have HP := Lib.hid (put_ok hok)
      have HL := Lib.hid (put_lv hok)
      obtain ⟨M, hM⟩ : ∃ M, M = putL L p1 p2 (20 + p3) := ⟨_, rfl⟩
      rw [← hM] at HP HL
      obtain ⟨m, hm⟩ : ∃ m, M.length = m := ⟨_, rfl⟩
      have HMZ := Lib.hid hm
      have HMX : Hid (n ≤ maxLen) := by show _ ≤ _; unfold maxLen; omega
      have hg4s := hg4.size
      clear hok hM hm hr1 hr2 hr3 hk1 hk2 hk3 hk4 hg1
      go_wp2_with fail
      refine (sput_as M m (some ⟨g, 0, none⟩) n cap L p1 p2 (20 + p3) w4 HO4.out.ls HZ.out HMX.out HP.out HMZ.out).mono ?_
      rintro e w5 ⟨g5, c5, rfl, ho5, hb5⟩
      have H5 : Hid (CaAt q (K + 6) w (k + 1) (.slice (some ⟨g5, 0, none⟩) m c5) w5) := ⟨g5, c5, M, m, rfl, HMZ.out, HL.out, ho5.less hg4s, ready_keepB hr4 hb5, grown_below hg4 hb5⟩
      clear ho5 hb5 hr4 hg4
      go_wp2
      go_roundw
      case rel => exact ⟨k + 1, by omega, by go_num, H5.out⟩
      case measure => simp [intOf]; omega
    · have hr0 : Ready w1 q (K + 6) := hr1.less (by omega)
      clear hr1 hk1
      rcases Nat.eq_zero_or_pos n with h0 | h0
      · have h0' : (n : Int) = 0 := by omega
        subst h0
        go_wp2
        go_ret
        exact ca_post HZ.out (by omega) HO1.out (hr0.less (by omega)) hg1
      · have h0' : ((n : Int) == 0) = false := by rw [beq_eq_false_iff_ne]; omega
        go_wp2_with fail
        refine (pick_r q (K + 5) (n : Int) w1 hr0 (by omega) (by omega)).mono ?_
        rintro e w2 ⟨p1, hp10, hp11, rfl, hr2, hk2⟩
        obtain ⟨p, rfl, hpk⟩ : ∃ p : Nat, p1 = (p : Int) ∧ p < n := ⟨p1.toNat, by omega, by omega⟩
        go_wp2_with fail
        refine (pick_r q (K + 4) 20 w2 hr2 (by omega) (by omega)).mono ?_
        rintro e w3 ⟨p2, hp20, hp21, rfl, hr3, hk3⟩
        have hg3 : w.grownBy w3 (some q) := grown_trans hg1 (grown_trans hk2.grown hk3.grown)
        have HO3 := Lib.hid ((HO1.out.grownQ hk2.grown hq).grownQ hk3.grown hq)
        have HG3 := Lib.hid hg3
        have hpL : Hid (p < L.length) := by show _ < _; rw [HZ.out]; exact hpk
        clear hg1 hg3 hk2 hk3 hr2 hr0 h0'
        by_cases c0 : p2 = 0
        · subst c0
          go_wp2_with fail
          refine (point_r q K w3 (hr3.less (by omega))).mono ?_
          rintro e w6 ⟨x, hx0, hx1, rfl, hr6, hk6⟩
          have ho6 := HO3.out.grownQ hk6.grown hq
          obtain ⟨y0, y1, y2⟩ := ho6.cells (i := p) hpL.out
          obtain ⟨_, _, cs, hbk, _⟩ := ho6.blk
          have f0 := frozen_of_cells hbk (p * 3)
          have H6 := Lib.hid ho6
          clear ho6 hbk
          go_wp2
          go_ret
          exact ca_post (by rw [List.length_set, HZ.out]) (by omega) (H6.out.setE hpL.out x) (ready_set hr6 (by omega)) (grow_set (grown_trans HG3.out hk6.grown) hgb)
        have c0' : (p2 == 0) = false := by simp [c0]
        by_cases c1 : p2 = 1
        · subst c1
          clear c0 c0'
          go_wp2_with fail
          refine (pick_r q K 2 w3 (hr3.less (by omega)) (by omega) (by omega)).mono ?_
          rintro e w6 ⟨x, hx0, hx1, rfl, hr6, hk6⟩
          have ho6 := HO3.out.grownQ hk6.grown hq
          obtain ⟨y0, y1, y2⟩ := ho6.cells (i := p) hpL.out
          obtain ⟨_, _, cs, hbk, _⟩ := ho6.blk
          have f0 := frozen_of_cells hbk (p * 3 + 1)
          have H6 := Lib.hid ho6
          clear ho6 hbk
          go_wp2
          go_ret
          exact ca_post (by rw [List.length_set, HZ.out]) (by omega) (H6.out.setO hpL.out _) (ready_set hr6 (by omega)) (grow_set (grown_trans HG3.out hk6.grown) hgb)
        have c1' : (p2 == 1) = false := by simp [c1]
        by_cases c2 : p2 = 2
        · subst c2
          clear c0 c0' c1 c1'
          go_wp2_with fail
          refine (time_r q K w3 (hr3.less (by omega))).mono ?_
          rintro e w6 ⟨x, hx0, hx1, rfl, hr6, hk6⟩
          have ho6 := HO3.out.grownQ hk6 hq
          obtain ⟨y0, y1, y2⟩ := ho6.cells (i := p) hpL.out
          obtain ⟨_, _, cs, hbk, _⟩ := ho6.blk
          have f0 := frozen_of_cells hbk (p * 3 + 2)
          have H6 := Lib.hid ho6
          clear ho6 hbk
          go_wp2
          go_ret
          exact ca_post (by rw [List.length_set, HZ.out]) (by omega) (H6.out.setU hpL.out x) (ready_set hr6 (by omega)) (grow_set (grown_trans HG3.out hk6) hgb)
        have c2' : (p2 == 2) = false := by simp [c2]
        by_cases c3 : p2 = 3
        · subst c3
          clear c0 c0' c1 c1' c2 c2'
          have hws := HG3.out.size
          go_wp2_with (at_builtin; refine wl_appL _ (by rfl) _ _ (by rfl) w.heap.size g n cap L [⟨40, 0, 5⟩] (by rfl) (HO3.out.keepB (alB _ _) (Nat.le_refl _)) HZ.out ⟨_, 0, none⟩ 1 1 (by rfl) rfl (srcL_one (x := ⟨40, 0, 5⟩) (heap_alloc_new _ _)) (n + 1) rfl (by omega) (by simp; omega) ?_; intro g' c' w7 hown7 hgr hat; have H7 := Lib.hid hown7; have HR7 : Hid (Ready w7 q K) := (by have h1 := hr3.less (show K ≤ K + 4 by omega); exact (ready_keepB h1 (alB _ _)).keep (fun i hi => hgr.block i (by have := h1.lt; simp; omega) (fun e => by injection e with e; omega))); have HG7 : Hid (w.grownBy w7 (some q)) := (by have h1 := grown_below HG3.out (alB w3 (.cells #[.int .i64 40, .int .i64 0, .int .i64 5] 37)); exact ⟨hgr.os.trans h1.os, hgr.tape.trans h1.tape, hgr.output.trans h1.output, Nat.le_trans h1.size hgr.size, fun i hi hne => (hgr.block i (Nat.lt_of_lt_of_le hi h1.size) (fun e => by injection e with e; omega)).trans (h1.block i hi hne)⟩); clear hown7 hgr hat)
          go_ret
          exact ca_post (by rw [List.length_append, HZ.out]; rfl) (by omega) H7.out HR7.out HG7.out
        have c3' : (p2 == 3) = false := by simp [c3]
        go_wp2
        go_ret
        exact ca_post HZ.out (by omega) HO3.out (hr3.less (by omega)) HG3.out

theorem results_tmp4 {fn : Func} {t u v x : Tmp} (h : fn.results = #[.tmp t, .tmp u, .tmp v, .tmp x]) (tmps : Array Value) (P : Program) (w : World) :
    (results fn tmps).run P w = .ok (.tuple #[tmps.getD t undef, tmps.getD u undef, tmps.getD v undef, tmps.getD x undef]) w := by
  simp [results, h]
/-- a cache and nothing, one, two or three numbers -/
def DrewC0 (w : World) (e : Ending) (w' : World) : Prop :=
  ∃ (g cap : Nat) (L : List Ls), e = .returned (.slice (some ⟨g, 0, none⟩) L.length cap) ∧ L.length ≤ 7 ∧ OwnS w' w.heap.size g cap L ∧ Below w.heap.size w w'
def DrewC1 (lo hi : Int) (w : World) (e : Ending) (w' : World) : Prop :=
  ∃ (g cap : Nat) (L : List Ls) (x : Int), e = .returned (.tuple #[.slice (some ⟨g, 0, none⟩) L.length cap, .int .i64 x]) ∧ L.length ≤ 7 ∧ (lo ≤ x ∧ x ≤ hi) ∧ OwnS w' w.heap.size g cap L ∧ Below w.heap.size w w'
def DrewC2 (w : World) (e : Ending) (w' : World) : Prop :=
  ∃ (g cap : Nat) (L : List Ls) (x y : Int), e = .returned (.tuple #[.slice (some ⟨g, 0, none⟩) L.length cap, .int .i64 x, .int .i64 y]) ∧ L.length ≤ 7 ∧ (0 ≤ x ∧ x ≤ 8) ∧ (18 ≤ y ∧ y ≤ 1018) ∧ OwnS w' w.heap.size g cap L ∧ Below w.heap.size w w'
def DrewC3 (w : World) (e : Ending) (w' : World) : Prop :=
  ∃ (g cap : Nat) (L : List Ls) (x y z : Int), e = .returned (.tuple #[.slice (some ⟨g, 0, none⟩) L.length cap, .int .i64 x, .int .i64 y, .int .i64 z]) ∧ L.length ≤ 7 ∧ (0 ≤ x ∧ x ≤ 69) ∧ (-1 ≤ y ∧ y ≤ 100) ∧ (25 ≤ z ∧ z ≤ 54) ∧ OwnS w' w.heap.size g cap L ∧ Below w.heap.size w w'
theorem quo19 {p : Int} (h0 : 0 ≤ p) (h1 : p < 20) : ∃ z : Int, (z = 0 ∨ z = 1) ∧ p.tdiv 19 = z := by
  rw [Int.tdiv_eq_ediv_of_nonneg h0]
  exact ⟨p / 19, by omega, rfl⟩


set_option maxHeartbeats 2000000 in
theorem drawCacheSweep (s : Option Addr) (len cap : Nat) (w : World) (h : BytesAt w s len cap) :
    Calls Try.prog 26 #[.slice s len cap] w (DrewC1 18 53 w) := by
  go_enter Try.func26, Try.ntmps26
  go_wp2_with fail
  refine (open_any s len cap w h).mono ?_
  rintro e w0 ⟨rfl, hr0, hb0, hz0⟩
  have HZ := Lib.hid hz0
  clear hz0
  go_wp2_with fail
  refine (cache_any w.heap.size 900000 w0 (hr0.less (by omega))).mono ?_
  rintro e w1 ⟨g, c, L, rfl, hl, ho, hr1, hg1⟩
  have HO1 := Lib.hid ho
  have HL := Lib.hid hl
  have hsz : w.heap.size < w0.heap.size := by have := HZ.out; omega
  clear ho hl
  go_wp2_with fail
  refine (pick_r w.heap.size 899999 36 w1 (hr1.less (by omega)) (by omega) (by omega)).mono ?_
  rintro e w2 ⟨p1, hp10, hp11, rfl, hr2, hk2⟩
  have hg2 := grown_trans hg1 hk2.grown
  have HO2 := Lib.hid (HO1.out.grownQ hk2.grown hsz)
  clear hk2 hg1
  have hB : Below w.heap.size w w2 := below_of_grown hb0 (Nat.le_refl _) (by have := HZ.out; omega) hg2
  have HOF := Lib.hid (HO2.out.less hb0.size)
  clear HO2 hg2
  go_wp2
  go_ret2
  exact ⟨g, c, L, 18 + p1, rfl, HL.out, by omega, HOF.out, hB⟩

set_option maxHeartbeats 2000000 in
theorem drawCacheDrop (s : Option Addr) (len cap : Nat) (w : World) (h : BytesAt w s len cap) :
    Calls Try.prog 24 #[.slice s len cap] w (DrewC1 (-2) 9 w) := by
  go_enter Try.func24, Try.ntmps24
  go_wp2_with fail
  refine (open_any s len cap w h).mono ?_
  rintro e w0 ⟨rfl, hr0, hb0, hz0⟩
  have HZ := Lib.hid hz0
  clear hz0
  go_wp2_with fail
  refine (cache_any w.heap.size 900000 w0 (hr0.less (by omega))).mono ?_
  rintro e w1 ⟨g, c, L, rfl, hl, ho, hr1, hg1⟩
  have HO1 := Lib.hid ho
  have HL := Lib.hid hl
  have hsz : w.heap.size < w0.heap.size := by have := HZ.out; omega
  clear ho hl
  go_wp2_with fail
  refine (pick_r w.heap.size 899999 10 w1 (hr1.less (by omega)) (by omega) (by omega)).mono ?_
  rintro e w2 ⟨p1, hp10, hp11, rfl, hr2, hk2⟩
  have hg2 := grown_trans hg1 hk2.grown
  have HO2 := Lib.hid (HO1.out.grownQ hk2.grown hsz)
  clear hk2 hg1
  go_wp2_with fail
  refine (pick_r w.heap.size 899998 20 w2 (hr2.less (by omega)) (by omega) (by omega)).mono ?_
  rintro e w3 ⟨p2, hp20, hp21, rfl, hr3, hk3⟩
  have hg3 := grown_trans hg2 hk3.grown
  have HO3 := Lib.hid (HO2.out.grownQ hk3.grown hsz)
  clear hk3 hg2
  obtain ⟨z, hz, hd⟩ := quo19 (p := p2) (by omega) (by omega)
  have hB : Below w.heap.size w w3 := below_of_grown hb0 (Nat.le_refl _) (by have := HZ.out; omega) hg3
  have HOF := Lib.hid (HO3.out.less hb0.size)
  clear HO3 hg3
  rcases hz with rfl | rfl
  · go_wp2
    go_ret2
    exact ⟨g, c, L, p1, rfl, HL.out, by omega, HOF.out, hB⟩
  · go_wp2
    go_ret2
    exact ⟨g, c, L, p1 - 2, rfl, HL.out, by omega, HOF.out, hB⟩

set_option maxHeartbeats 2000000 in
theorem drawCacheGet (s : Option Addr) (len cap : Nat) (w : World) (h : BytesAt w s len cap) :
    Calls Try.prog 21 #[.slice s len cap] w (DrewC2 w) := by
  go_enter Try.func21, Try.ntmps21
  go_wp2_with fail
  refine (open_any s len cap w h).mono ?_
  rintro e w0 ⟨rfl, hr0, hb0, hz0⟩
  have HZ := Lib.hid hz0
  clear hz0
  go_wp2_with fail
  refine (cache_any w.heap.size 900000 w0 (hr0.less (by omega))).mono ?_
  rintro e w1 ⟨g, c, L, rfl, hl, ho, hr1, hg1⟩
  have HO1 := Lib.hid ho
  have HL := Lib.hid hl
  have hsz : w.heap.size < w0.heap.size := by have := HZ.out; omega
  clear ho hl
  go_wp2_with fail
  refine (pick_r w.heap.size 899999 9 w1 (hr1.less (by omega)) (by omega) (by omega)).mono ?_
  rintro e w2 ⟨p1, hp10, hp11, rfl, hr2, hk2⟩
  have hg2 := grown_trans hg1 hk2.grown
  have HO2 := Lib.hid (HO1.out.grownQ hk2.grown hsz)
  clear hk2 hg1
  go_wp2_with fail
  refine (pick_r w.heap.size 899998 36 w2 (hr2.less (by omega)) (by omega) (by omega)).mono ?_
  rintro e w3 ⟨p2, hp20, hp21, rfl, hr3, hk3⟩
  have hg3 := grown_trans hg2 hk3.grown
  have HO3 := Lib.hid (HO2.out.grownQ hk3.grown hsz)
  clear hk3 hg2
  go_wp2_with fail
  refine (pick_r w.heap.size 899997 20 w3 (hr3.less (by omega)) (by omega) (by omega)).mono ?_
  rintro e w4 ⟨p3, hp30, hp31, rfl, hr4, hk4⟩
  have hg4 := grown_trans hg3 hk4.grown
  have HO4 := Lib.hid (HO3.out.grownQ hk4.grown hsz)
  clear hk4 hg3
  obtain ⟨z, hz, hd⟩ := quo19 (p := p3) (by omega) (by omega)
  have hB : Below w.heap.size w w4 := below_of_grown hb0 (Nat.le_refl _) (by have := HZ.out; omega) hg4
  have HOF := Lib.hid (HO4.out.less hb0.size)
  clear HO4 hg4
  rcases hz with rfl | rfl
  · go_wp2
    refine bodyPost_ret (results_tmp3 rfl _ _ _) rfl ?_
    exact ⟨g, c, L, p1, 18 + p2, rfl, HL.out, by omega, by omega, HOF.out, hB⟩
  · go_wp2
    refine bodyPost_ret (results_tmp3 rfl _ _ _) rfl ?_
    exact ⟨g, c, L, p1, 18 + p2 + 965, rfl, HL.out, by omega, by omega, HOF.out, hB⟩

set_option maxHeartbeats 2000000 in
theorem drawCachePut (s : Option Addr) (len cap : Nat) (w : World) (h : BytesAt w s len cap) :
    Calls Try.prog 15 #[.slice s len cap] w (DrewC3 w) := by
  go_enter Try.func15, Try.ntmps15
  go_wp2_with fail
  refine (open_any s len cap w h).mono ?_
  rintro e w0 ⟨rfl, hr0, hb0, hz0⟩
  have HZ := Lib.hid hz0
  clear hz0
  go_wp2_with fail
  refine (cache_any w.heap.size 900000 w0 (hr0.less (by omega))).mono ?_
  rintro e w1 ⟨g, c, L, rfl, hl, ho, hr1, hg1⟩
  have HO1 := Lib.hid ho
  have HL := Lib.hid hl
  have hsz : w.heap.size < w0.heap.size := by have := HZ.out; omega
  clear ho hl
  go_wp2_with fail
  refine (pick_r w.heap.size 899999 10 w1 (hr1.less (by omega)) (by omega) (by omega)).mono ?_
  rintro e w2 ⟨p1, hp10, hp11, rfl, hr2, hk2⟩
  have hg2 := grown_trans hg1 hk2.grown
  have HO2 := Lib.hid (HO1.out.grownQ hk2.grown hsz)
  clear hk2 hg1
  go_wp2_with fail
  refine (pick_r w.heap.size 899998 20 w2 (hr2.less (by omega)) (by omega) (by omega)).mono ?_
  rintro e w3 ⟨p2, hp20, hp21, rfl, hr3, hk3⟩
  have hg3 := grown_trans hg2 hk3.grown
  have HO3 := Lib.hid (HO2.out.grownQ hk3.grown hsz)
  clear hk3 hg2
  obtain ⟨z, hz, hd⟩ := quo19 (p := p2) (by omega) (by omega)
  rcases hz with rfl | rfl
  · skip
    go_wp2_with fail
    refine (pick_r w.heap.size 899997 102 w3 (hr3.less (by omega)) (by omega) (by omega)).mono ?_
    rintro e w4 ⟨p3, hp30, hp31, rfl, hr4, hk4⟩
    have hg4 := grown_trans hg3 hk4.grown
    have HO4 := Lib.hid (HO3.out.grownQ hk4.grown hsz)
    clear hk4 hg3
    go_wp2_with fail
    refine (pick_r w.heap.size 899996 30 w4 (hr4.less (by omega)) (by omega) (by omega)).mono ?_
    rintro e w5 ⟨p4, hp40, hp41, rfl, hr5, hk5⟩
    have hg5 := grown_trans hg4 hk5.grown
    have HO5 := Lib.hid (HO4.out.grownQ hk5.grown hsz)
    clear hk5 hg4
    have hB : Below w.heap.size w w5 := below_of_grown hb0 (Nat.le_refl _) (by have := HZ.out; omega) hg5
    have HOF := Lib.hid (HO5.out.less hb0.size)
    clear HO5 hg5
    go_wp2
    refine bodyPost_ret (results_tmp4 rfl _ _ _) rfl ?_
    exact ⟨g, c, L, p1, p3 - 1, 25 + p4, rfl, HL.out, by omega, by omega, by omega, HOF.out, hB⟩
  · skip
    go_wp2_with fail
    refine (pick_r w.heap.size 899997 102 w3 (hr3.less (by omega)) (by omega) (by omega)).mono ?_
    rintro e w4 ⟨p3, hp30, hp31, rfl, hr4, hk4⟩
    have hg4 := grown_trans hg3 hk4.grown
    have HO4 := Lib.hid (HO3.out.grownQ hk4.grown hsz)
    clear hk4 hg3
    go_wp2_with fail
    refine (pick_r w.heap.size 899996 30 w4 (hr4.less (by omega)) (by omega) (by omega)).mono ?_
    rintro e w5 ⟨p4, hp40, hp41, rfl, hr5, hk5⟩
    have hg5 := grown_trans hg4 hk5.grown
    have HO5 := Lib.hid (HO4.out.grownQ hk5.grown hsz)
    clear hk5 hg4
    have hB : Below w.heap.size w w5 := below_of_grown hb0 (Nat.le_refl _) (by have := HZ.out; omega) hg5
    have HOF := Lib.hid (HO5.out.less hb0.size)
    clear HO5 hg5
    go_wp2
    refine bodyPost_ret (results_tmp4 rfl _ _ _) rfl ?_
    exact ⟨g, c, L, p1 + 60, p3 - 1, 25 + p4, rfl, HL.out, by omega, by omega, by omega, HOF.out, hB⟩
end Go.Proofs.Ytdlapnelehehgaa
