/- The draws of lists of paths. -/
import Derived.Test.YtblhaccjngjekaaPzWDraw
namespace Go.Proofs.Ytblhaccjngjekaa
open Go.RowKit
set_option linter.unusedVariables false

/-- drawn paths -/
def DrewSs (w : World) (e : Ending) (w' : World) : Prop :=
  ∃ (N c : Nat) (ps : List (List Int)), e = .returned (.slice (some ⟨N, 0, none⟩) ps.length c) ∧ ps.length ≤ 9 ∧ ps.length ≤ c ∧ c ≤ maxLen ∧ SsAt w' (some ⟨N, 0, none⟩) ps ∧ Below w.heap.size w w'
/-- drawn paths and bad nodes -/
def DrewSB (w : World) (e : Ending) (w' : World) : Prop :=
  ∃ (N c : Nat) (ps : List (List Int)) (g cap : Nat) (bad : List Int), e = .returned (.tuple #[.slice (some ⟨N, 0, none⟩) ps.length c, .slice (some ⟨g, 0, none⟩) bad.length cap]) ∧ ps.length ≤ 9 ∧ ps.length ≤ c ∧ bad.length ≤ 4 ∧ SsAt w' (some ⟨N, 0, none⟩) ps ∧ IntsAt w' (some ⟨g, 0, none⟩) bad ∧ Below w.heap.size w w'

set_option maxHeartbeats 1000000 in
theorem drawPathsDisjoint (s : Option Addr) (len cap : Nat) (w : World) (h : BytesAt w s len cap) :
    Calls Try.prog 27 #[.slice s len cap] w (DrewSs w) := by
  go_enter Try.func27, Try.ntmps27
  go_wp2_with fail
  refine (open_any s len cap w h).mono ?_
  rintro e w0 ⟨rfl, hr0, hb0, hz0⟩
  have HZ := Lib.hid hz0
  clear hz0
  go_wp2_with fail
  refine (paths_any w.heap.size 1000 w0 (hr0.less (by omega))).mono ?_
  rintro e w1 ⟨N, c, ps, xs, F, C, rfl, h9, hs, hr1, hg1⟩
  go_wp2
  go_ret
  have hz := HZ.out
  obtain ⟨_, _, _, h1, h2, _⟩ := hs.row.blk
  exact ⟨N, c, ps, rfl, h9, h1, h2, hs.ss, below_of_grown hb0 (Nat.le_refl _) (by omega) hg1⟩

set_option maxRecDepth 20000 in
set_option maxHeartbeats 2000000 in
theorem drawPathsHonest (s : Option Addr) (len cap : Nat) (w : World) (h : BytesAt w s len cap) :
    Calls Try.prog 34 #[.slice s len cap] w (DrewSB w) := by
  go_enter Try.func34, Try.ntmps34
  go_wp2_with fail
  refine (open_any s len cap w h).mono ?_
  rintro e w0 ⟨rfl, hr0, hb0, hz0⟩
  have HB := Lib.hid hb0
  have hzl : w.heap.size < w0.heap.size := by omega
  obtain ⟨q, hq⟩ : ∃ q, w.heap.size = q := ⟨_, rfl⟩
  rw [hq] at hr0 hzl ⊢
  clear hz0 hb0
  go_wp2_with fail
  refine (paths_any q 1000 w0 (hr0.less (by omega))).mono ?_
  rintro e w1 ⟨N, c, ps, xs, F, C, rfl, h9, hs, hr1, hg1⟩
  obtain ⟨_, _, _, hncc, _, _⟩ := hs.row.blk
  have HNC := Lib.hid hncc
  clear hncc
  have HS := Lib.hid hs
  have HG1 := Lib.hid hg1
  have hg1s := hg1.size
  have hq1 : q < w1.heap.size := by omega
  obtain ⟨n, hn⟩ : ∃ n, ps.length = n := ⟨_, rfl⟩
  have HN := Lib.hid hn
  rw [hn] at h9 ⊢
  have HR := Lib.hid (rw_new (K := 3 * 5 + 30) (hr1.less (by omega)))
  clear hr0 hs hg1 hn hr1
  go_wp2
  go_loopw [6, 7] (fun o i wr => ∃ k : Nat, k ≤ 4 ∧ i = .int .i64 k ∧ RwAt q (3 * (5 - k) + 30) w1 k o wr) (fun _ i _ => 4 - (intOf i).toNat)
  case atStart => exact ⟨0, by omega, rfl, HR.out⟩
  case round =>
    obtain ⟨k, hk, rfl, g, cap, ws, rfl, hw, hpos, hown, hr, hg⟩ := hrel
    have HPOS := Lib.hid hpos
    have HW := Lib.hid hw
    have HO := Lib.hid hown
    have hgl := hown.lt
    clear hw hown hpos HR
    go_wp2_with fail
    refine (pick_r q (3 * (5 - k) + 29) 5 wr (hr.less (by omega)) (by omega) (by omega)).mono ?_
    rintro e w2 ⟨p, hp0, hp1, rfl, hr2, hk2⟩
    have HO2 := Lib.hid (HO.out.grownZ hk2.grown hq1)
    have hg2 := grown_trans hg hk2.grown
    have hg2s := hg2.size
    clear hr hg hk2
    by_cases hlt : (k : Int) < p
    · go_wp2_with fail
      refine (pick_r q (3 * (5 - k) + 28) 64 w2 (hr2.less (by omega)) (by omega) (by omega)).mono ?_
      rintro e w4 ⟨z, hz0, hz1, rfl, hr4, hk4⟩
      have HO4 := Lib.hid (HO2.out.grownZ hk4.grown hq1)
      have hg4 := grown_trans hg2 hk4.grown
      have hg4s := hg4.size
      clear hr2 hg2 hk4 HO2 hg2s
      go_wp2_with (at_builtin; have h1 := (HO4.out.keepB (alBZ w4 (.cells #[.int .i64 z] 3)) (Nat.le_refl _)); have h2 := src_one (heap_alloc_new w4 (.cells #[.int .i64 z] 3)); unfold OwnI at h1; rw [HW.out] at h1; refine wl_app _ (by rfl) _ _ (by rfl) w1.heap.size g k cap (vals ws) (by rfl) h1 ⟨w4.heap.size, 0, none⟩ 1 1 [.int .i64 z] (by rfl) rfl h2 (by simp [Value.oneCell']) (k + 1) (vals (ws ++ [z])) rfl (by simp [vals]) (by omega) (by simp; omega) ?_; intro g' c' w5 hown3 hgr3 hat3; have H3 : Hid (RwAt q (3 * (5 - (k + 1)) + 30) w1 (k + 1) (.slice (some ⟨g', 0, none⟩) (k + 1) c') w5) := ⟨g', c', ws ++ [z], rfl, by rw [List.length_append, HW.out]; rfl, gt_app HPOS.out hz0, by unfold OwnI; rw [List.length_append, HW.out]; exact hown3, (ready_appZ hr4 hgr3 (by omega)).less (by omega), grown_appZ hg4 hgr3 (by omega)⟩; clear hown3 hgr3 hat3 h1 h2)
      go_roundw
      case rel => exact ⟨k + 1, by omega, by go_num, H3.out⟩
      case measure => simp [intOf]; omega
    · go_wp2
      have e1 : n = ps.length := HN.out.symm
      have e2 : k = ws.length := HW.out.symm
      subst e1 e2 hq
      refine bodyPost_ret (v := .tuple #[.slice (some ⟨N, 0, none⟩) ps.length c, .slice (some ⟨g, 0, none⟩) ws.length cap]) (by simp [results, Try.results34, go_sem]) rfl ?_
      exact ⟨N, c, ps, g, cap, ws, rfl, h9, HNC.out, hk, (HS.out.kept fun b hb hb2 => hg2.block b hb2 (by intro e; injection e with e; omega)).ss, HO2.out.ints, below_of_grown HB.out (Nat.le_refl _) (by omega) (grown_trans HG1.out hg2)⟩

/-! ### bad nodes spoil at most one path each -/
/-- how many of the bad nodes lie on the first n paths -/
def onN (ps : List (List Int)) (n : Nat) (bad : List Int) : Nat := bad.countP fun b => decide (∃ i, i < n ∧ hasB (gl ps i) b = true)
theorem count_more {p q : Int → Bool} {l : List Int} (h : ∀ x, p x = true → q x = true) {b : Int} (hb : b ∈ l) (hp : p b = false) (hq : q b = true) : l.countP p + 1 ≤ l.countP q := by
  induction l with
  | nil => cases hb
  | cons a t ih =>
    rw [List.countP_cons, List.countP_cons]
    rcases List.mem_cons.1 hb with rfl | hb
    · rw [hp, hq]
      have := List.countP_mono_left (p := p) (q := q) (l := t) (fun x _ hx => h x hx)
      simp; omega
    · have := ih hb
      by_cases ha : p a = true
      · rw [if_pos ha, if_pos (h a ha)]; omega
      · rw [if_neg ha]; split <;> omega
theorem hon_on {ps : List (List Int)} {bad : List Int} (hd : djP ps) : ∀ n, n ≤ ps.length → n ≤ hcN bad ps n + onN ps n bad := by
  intro n
  induction n with
  | zero => intro _; omega
  | succ n ih =>
    intro hn
    have h := ih (by omega)
    have hmono : ∀ x, (decide (∃ i, i < n ∧ hasB (gl ps i) x = true)) = true → (decide (∃ i, i < n + 1 ∧ hasB (gl ps i) x = true)) = true := fun x hx => by
      rw [decide_eq_true_eq] at hx ⊢
      obtain ⟨i, hi, he⟩ := hx
      exact ⟨i, by omega, he⟩
    unfold hcN
    by_cases ho : hoB bad (gl ps n) = true
    · rw [if_pos ho]
      have := List.countP_mono_left (p := fun b => decide (∃ i, i < n ∧ hasB (gl ps i) b = true)) (q := fun b => decide (∃ i, i < n + 1 ∧ hasB (gl ps i) b = true)) (l := bad) (fun x _ hx => hmono x hx)
      unfold onN at h ⊢; omega
    · rw [if_neg ho]
      have hex : ∃ k, k < (gl ps n).length ∧ hasB bad (gt (gl ps n) k) = true := by
        refine Classical.byContradiction fun hno => ho ((hoB_iff _ _).2 fun k hk => ?_)
        rcases hb : hasB bad (gt (gl ps n) k) with _ | _
        · rfl
        · exact absurd ⟨k, hk, hb⟩ hno
      obtain ⟨k, hk, hb⟩ := hex
      have := count_more (l := bad) hmono ((hasB_iff _ _).1 hb) (by
          rw [decide_eq_false_iff_not]
          rintro ⟨i, hi, he⟩
          have := hd n (by omega) k hk i hi
          rw [he] at this; cases this)
        (by rw [decide_eq_true_eq]; exact ⟨n, by omega, has_at hk rfl⟩)
      unfold onN at h ⊢; omega
theorem hon_many {ps : List (List Int)} {bad : List Int} (hd : djP ps) : ps.length ≤ hcN bad ps ps.length + bad.length := by
  have h1 := hon_on (bad := bad) hd ps.length (Nat.le_refl _)
  have h2 : onN ps ps.length bad ≤ bad.length := List.countP_le_length
  omega
end Go.Proofs.Ytblhaccjngjekaa
