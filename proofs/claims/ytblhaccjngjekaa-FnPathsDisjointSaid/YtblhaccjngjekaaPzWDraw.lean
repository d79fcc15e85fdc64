/- Drawing lists of paths. -/
import Derived.Test.YtblhaccjngjekaaPzO
namespace Go.Proofs.Ytblhaccjngjekaa
open Go.RowKit
set_option linter.unusedVariables false

/-- paths so far, behind the reader's world -/
def PsAt (q K : Nat) (w : World) (n : Nat) (v : Value) (wr : World) : Prop :=
  ∃ (N c : Nat) (ps : List (List Int)) (xs : List Value) (F C : Nat → Nat), v = .slice (some ⟨N, 0, none⟩) n c ∧ ps.length = n ∧ SsOwn wr w.heap.size N c ps xs F C ∧ (∀ i, i < n → (gl ps i).length ≤ 4) ∧ Ready wr q K ∧ w.grownBy wr (some q)
/-- drawn paths -/
def PsPost (q K : Nat) (w : World) (e : Ending) (w' : World) : Prop :=
  ∃ (N c : Nat) (ps : List (List Int)) (xs : List Value) (F C : Nat → Nat), e = .returned (.slice (some ⟨N, 0, none⟩) ps.length c) ∧ ps.length ≤ 9 ∧ SsOwn w' w.heap.size N c ps xs F C ∧ Ready w' q K ∧ w.grownBy w' (some q)
theorem ps_post {q K n N c : Nat} {w w' : World} {ps : List (List Int)} {xs : List Value} {F C : Nat → Nat} (hn : ps.length = n) (h9 : n ≤ 9) (hs : SsOwn w' w.heap.size N c ps xs F C) (hr : Ready w' q K) (hg : w.grownBy w' (some q)) : PsPost q K w (.returned (.slice (some ⟨N, 0, none⟩) n c)) w' := by
  subst hn; exact ⟨N, c, ps, xs, F, C, rfl, h9, hs, hr, hg⟩
theorem ps_new {q K : Nat} {w : World} (h : Ready w q K) : PsAt q K w 0 (.slice (some ⟨w.heap.size, 0, none⟩) 0 0) (w.alloc (.cells #[] 34)) := by
  have hl := h.lt
  exact ⟨w.heap.size, 0, [], [], _, _, rfl, rfl, ss_nil (heap_alloc_new w _) (Nat.le_refl _), fun i hi => by omega, h.keep (fun i hi => Below.heap_alloc _ _ _ (by omega)), World.grownBy_alloc w _ _⟩
theorem ps_next {q K n m N c N' c' g cp : Nat} {w w1 W w' : World} {o : Obj} {ps : List (List Int)} {zs : List Int} {xs : List Value} {F C : Nat → Nat} (hq : q < w.heap.size) (hn : ps.length = n) (hz : zs.length = m) (hm : m ≤ 4)
    (h : SsOwn w1 w.heap.size N c ps xs F C) (h4 : ∀ i, i < n → (gl ps i).length ≤ 4) (hg1 : w.grownBy w1 (some q)) (hgW : w1.grownBy W (some q)) (hr : Ready W q K) (hO : OwnI W w1.heap.size (some ⟨g, 0, none⟩) cp zs)
    (hrow' : SlRow w' w.heap.size N' (n + 1) c' (xs ++ [.slice (some ⟨g, 0, none⟩) m cp])) (hgr : (W.alloc o).grownBy w' (some N)) (hN' : N' = N ∨ N' = (W.alloc o).heap.size) :
    PsAt q K w (n + 1) (.slice (some ⟨N', 0, none⟩) (n + 1) c') w' := by
  subst hn hz
  have hs1 := hg1.size
  have hs2 := hgW.size
  have hNl := h.row.lt
  have hal : (W.alloc o).heap.size = W.heap.size + 1 := by simp
  refine ⟨N', c', ps ++ [zs], _, _, _, rfl, by simp, ss_app h (W := W.alloc o) (fun b hb hb2 => ?_) hs1 (hO.keepB (alBZ W o) (Nat.le_refl _)) hrow' hgr hN' (by omega), fun i hi => ?_, ?_, ?_⟩
  · exact (Below.heap_alloc _ _ _ (by omega)).trans (hgW.block b hb2 (by intro e; injection e with e; omega))
  · by_cases h1 : i < ps.length
    · rw [gl_app_lt h1]; exact h4 i h1
    · obtain rfl : i = ps.length := by omega
      rw [gl_app_eq]; exact hm
  · exact ready_appZ hr hgr (by omega)
  · exact grown_appZ (grown_trans hg1 hgW) hgr hNl.1

/-- behind an append of one more path, which lies in the newest block but one -/
theorem ps_more {q K n m N c N' c' cp : Nat} {w w1 w' : World} {o1 o2 : Obj} {ps : List (List Int)} {zs : List Int} {xs : List Value} {F C : Nat → Nat} (hq : q < w.heap.size) (hn : ps.length = n) (h7 : n ≤ 7) (hz : zs.length = m)
    (h : SsOwn w1 w.heap.size N c ps xs F C) (hg1 : w.grownBy w1 (some q)) (hr : Ready w1 q K) (hO : OwnI (w1.alloc o1) w1.heap.size (some ⟨w1.heap.size, 0, none⟩) cp zs)
    (hrow' : SlRow w' w.heap.size N' (n + 1) c' (xs ++ [.slice (some ⟨w1.heap.size, 0, none⟩) m cp])) (hgr : ((w1.alloc o1).alloc o2).grownBy w' (some N)) (hN' : N' = N ∨ N' = ((w1.alloc o1).alloc o2).heap.size) :
    PsPost q K w (.returned (.slice (some ⟨N', 0, none⟩) (n + 1) c')) w' := by
  subst hn hz
  have hs1 := hg1.size
  have hNl := h.row.lt
  have hrl := hr.lt
  have hB : Below w1.heap.size w1 ((w1.alloc o1).alloc o2) := ((Below.refl _ _).alloc (Nat.le_refl _) _).alloc (by simp) _
  have hal : ((w1.alloc o1).alloc o2).heap.size = w1.heap.size + 2 := by simp
  refine ps_post (by simp) (by omega) (ss_app h (W := (w1.alloc o1).alloc o2) (fun b hb hb2 => hB.block b hb2) hs1 (hO.keepB (alBZ _ o2) (Nat.le_refl _)) hrow' hgr hN' (by omega)) ?_ ?_
  · exact hr.keep fun i hi => (hgr.block i (by omega) (by intro e; injection e with e; omega)).trans (hB.block i (by omega))
  · exact ⟨hgr.os.trans (hB.os.trans hg1.os), hgr.tape.trans (hB.tape.trans hg1.tape), hgr.output.trans (hB.output.trans hg1.output), by have := hgr.size; omega, fun b hb hne => (hgr.block b (by omega) (by intro e; injection e with e; omega)).trans ((hB.block b (by omega)).trans (hg1.block b hb hne))⟩

/-- behind an append onto the first path, and the store of what it gives -/
theorem ps_store {q K n N c f l c0 g5 c5 : Nat} {z : Int} {w w2 wB W w7 : World} {ps : List (List Int)} {zs : List Int} {xs : List Value} {F C : Nat → Nat} (hq : q < w.heap.size) (hn : ps.length = n) (h9 : n ≤ 9) (hS : SsOwn w2 w.heap.size N c ps xs F C) (hkp : 0 < ps.length) (hF : F 0 = f) (hL : zs.length = l)
    (hcell : w2.cell? ⟨N, 0, none⟩ = some (.slice (some ⟨f, 0, none⟩) l c0)) (hG : w.grownBy w2 (some q)) (hK : Kept q w2 wB) (hR : Ready wB q (K + 8)) (hbW : Below wB.heap.size wB W)
    (ho7 : w7.ownsRow w.heap.size 3 1 (.slice (some ⟨g5, 0, none⟩) (l + 1) c5) (l + 1) (vals (zs ++ [z]))) (hg7 : W.grownBy w7 (some f)) (ha7 : g5 = f ∨ g5 = W.heap.size) :
    PsPost q K w (.returned (.slice (some ⟨N, 0, none⟩) n c)) (w7.setCell ⟨N, 0, none⟩ (.slice (some ⟨g5, 0, none⟩) (l + 1) c5)) ∧ w7.cell? ⟨N, 0, none⟩ = some (.slice (some ⟨f, 0, none⟩) l c0) ∧ w7.frozen? ⟨N, 0, none⟩ = false := by
  have hsB := hK.size
  have hsW := hbW.size
  have hNL := hS.row.lt
  have hqB := hR.lt
  have hs7 := hg7.size
  have hG2s := hG.size
  have hfl := hS.flt hkp
  have hfN : f ≠ N := by rw [← hF]; exact hS.ne 0 hkp
  rw [hF] at hfl
  have hkBW : ∀ b, w.heap.size ≤ b → b < w2.heap.size → W.heap[b]? = w2.heap[b]? := fun b hb hb2 => (hbW.block b (by omega)).trans (hK.block b (by omega))
  have hN7 : w7.heap[N]? = w2.heap[N]? := (hg7.block N (by omega) (by intro e; injection e with e; exact hfN e.symm)).trans (hkBW N hNL.1 hNL.2)
  have hzl : (zs ++ [z]).length = l + 1 := by rw [List.length_append, hL]; rfl
  have hO7 : OwnI w7 w.heap.size (some ⟨g5, 0, none⟩) c5 (zs ++ [z]) := by unfold OwnI; rw [hzl]; exact ho7
  refine ⟨?_, (World.cell?_of_block (a := ⟨N, 0, none⟩) hN7).trans hcell, (hS.row.kept hN7).frozen 0⟩
  have hset := ss_set0 hS hkp hkBW (by omega) hO7 (by rw [hF]; exact hg7) (by rw [hF]; exact ha7)
  rw [hzl] at hset
  refine ps_post (by rw [List.length_set]; exact hn) h9 hset ?_ ?_
  · refine ((hR.less (j := K) (by omega)).below hbW (by omega)).keep (fun i hi => ?_)
    exact (Below.heap_setCell _ _ _ _ (by show i ≠ N; omega)).trans (hg7.block i (by omega) (by intro e; injection e with e; omega))
  · have hgB : w.grownBy wB (some q) := grown_trans hG hK.grown
    refine ⟨hg7.os.trans (hbW.os.trans hgB.os), hg7.tape.trans (hbW.tape.trans hgB.tape), hg7.output.trans (hbW.output.trans hgB.output), by simp only [World.setCell, Array.size_modify]; omega, fun b hb hne => ?_⟩
    exact (Below.heap_setCell _ _ _ _ (by show b ≠ N; omega)).trans ((hg7.block b (by omega) (by intro e; injection e with e; omega)).trans ((hbW.block b (by omega)).trans (hgB.block b hb hne)))
theorem kept_cellN {q N : Nat} {w w' : World} {v : Value} (hk : Kept q w w') (hN : N ≠ q) (h : w.cell? ⟨N, 0, none⟩ = some v) : w'.cell? ⟨N, 0, none⟩ = some v := (hk.cell (p := ⟨N, 0, none⟩) hN).trans h
theorem alloc_cellN {N : Nat} {w : World} {v : Value} (h : w.cell? ⟨N, 0, none⟩ = some v) (o : Obj) : (w.alloc o).cell? ⟨N, 0, none⟩ = some v := by
  have hl : N < w.heap.size := by
    rcases Nat.lt_or_ge N w.heap.size with hlt | hge
    · exact hlt
    · exfalso
      have hn : w.heap[N]? = none := Array.getElem?_eq_none hge
      simp [World.cell?, hn] at h
  exact (World.cell?_of_block (a := ⟨N, 0, none⟩) (Below.heap_alloc _ _ _ hl)).trans h
theorem own_rowN {q base f l c0 : Nat} {zs : List Int} {w2 wB W : World} (hO : OwnI w2 base (some ⟨f, 0, none⟩) c0 zs) (hq : q < base) (hL : zs.length = l) (hk : Kept q w2 wB) (hb : Below wB.heap.size wB W) : W.ownsRow base 3 1 (.slice (some ⟨f, 0, none⟩) l c0) l (vals zs) := by
  have h := (hO.kept (w' := wB) (fun i h1 h2 => hk.block i (by omega))).kept (w' := W) (fun i h1 h2 => hb.block i h2)
  unfold OwnI at h; rw [hL] at h; exact h
theorem size_N {q base : Nat} {w w2 wB W : World} (hG : w.grownBy w2 (some q)) (hk : Kept q w2 wB) (hb : Below wB.heap.size wB W) (hbase : base = w.heap.size) : base ≤ W.heap.size := by
  have h1 := hb.size; have h2 := hk.size; have h3 := hG.size; omega

set_option maxRecDepth 20000 in
set_option maxHeartbeats 4000000 in
theorem paths_any (q K : Nat) (w : World) (h : Ready w q (K + 300)) :
    Calls Try.prog 53 #[.pointer (some ⟨q, 0, none⟩)] w (PsPost q K w) := by
  have hq := h.lt
  have H0 : Hid (PsAt q (K + 20 + 20 * (8 - 0)) w 0 (.slice (some ⟨w.heap.size, 0, none⟩) 0 0) (w.alloc (.cells #[] 34))) := ps_new (h.less (by omega))
  clear h
  go_enter Try.func53, Try.ntmps53
  go_wp2
  go_loopw [3, 4] (fun v i wr => ∃ k : Nat, k ≤ 7 ∧ i = .int .i64 k ∧ PsAt q (K + 20 + 20 * (8 - k)) w k v wr) (fun _ i _ => 7 - (intOf i).toNat)
  case atStart => exact ⟨0, by omega, rfl, H0.out⟩
  case round =>
    obtain ⟨k, hk, rfl, N, c, ps, xs, F, C, rfl, hn, hown, h4, hr, hg⟩ := hrel
    have HN := Lib.hid hn
    have H4 := Lib.hid h4
    have hNl := hown.row.lt
    have HS := Lib.hid hown
    clear hn h4 hown H0
    go_wp2_with fail
    refine (pick_r q (K + 19 + 20 * (8 - k)) 8 wr (hr.less (by omega)) (by omega) (by omega)).mono ?_
    rintro e w1 ⟨p, hp0, hp1, rfl, hr1, hk1⟩
    have HS1 := Lib.hid (HS.out.kept fun b hb _ => hk1.block b (by omega))
    have hg1 := grown_trans hg hk1.grown
    have hg1s := hg1.size
    have hNl1 := HS1.out.row.lt
    clear hr hg hk1 HS hNl
    by_cases hlt : (k : Int) < p
    · have hq1 := hr1.lt
      have HR := Lib.hid (rw_new (K := K + 2 * (5 - 0) + 1 + 20 * (8 - k)) (hr1.less (by omega)))
      have HG1 := Lib.hid hg1
      clear hr1 hg1
      go_wp2
      go_loopw [5, 6] (fun v i wr => ∃ m : Nat, m ≤ 4 ∧ i = .int .i64 m ∧ RwAt q (K + 2 * (5 - m) + 1 + 20 * (8 - k)) w1 m v wr) (fun _ i _ => 4 - (intOf i).toNat)
      case atStart => exact ⟨0, by omega, rfl, HR.out⟩
      case round =>
        obtain ⟨m, hm, rfl, g, cap, ws, rfl, hw, hpos, hown, hr, hg⟩ := hrel
        have HPOS := Lib.hid hpos
        have HW := Lib.hid hw
        have HO := Lib.hid hown
        have hgl := hown.lt
        clear hw hown hpos HR
        go_wp2_with fail
        refine (pick_r q (K + 2 * (5 - m) + 20 * (8 - k)) 5 wr (hr.less (by omega)) (by omega) (by omega)).mono ?_
        rintro e w2 ⟨p5, hp50, hp51, rfl, hr2, hk2⟩
        have HO2 := Lib.hid (HO.out.grownZ hk2.grown hq1)
        have hg2 := grown_trans hg hk2.grown
        have hg2s := hg2.size
        clear hr hg hk2 HO
        by_cases hlt5 : (m : Int) < p5
        · go_wp2_with fail
          refine (pick_r q (K + 2 * (5 - m) - 1 + 20 * (8 - k)) 8 w2 (hr2.less (by omega)) (by omega) (by omega)).mono ?_
          rintro e w3 ⟨a, ha0, ha1, rfl, hr3, hk3⟩
          have HO3 := Lib.hid (HO2.out.grownZ hk3.grown hq1)
          have hg3 := grown_trans hg2 hk3.grown
          have hg3s := hg3.size
          obtain ⟨z, hz⟩ : ∃ z, 8 * (k : Int) + a = z := ⟨_, rfl⟩
          have hz0 : 0 ≤ z := by omega
          have hwz : IntKind.i64.wrap (8 * (k : Int) + a) = z := by rw [hz, IntKind.wrap_i64]; omega
          clear hr2 hg2 hk3 HO2 hg2s
          go_wp2_with (at_builtin; have h1 := (HO3.out.keepB (alBZ w3 (.cells #[.int .i64 z] 3)) (Nat.le_refl _)); have h2 := src_one (heap_alloc_new w3 (.cells #[.int .i64 z] 3)); unfold OwnI at h1; rw [HW.out] at h1; refine wl_app _ (by rfl) _ _ (by rfl) w1.heap.size g m cap (vals ws) (by rfl) h1 ⟨w3.heap.size, 0, none⟩ 1 1 [.int .i64 z] (by rfl) rfl h2 (by simp [Value.oneCell']) (m + 1) (vals (ws ++ [z])) rfl (by simp [vals]) (by omega) (by simp; omega) ?_; intro g' c' w5 hown3 hgr3 hat3; have H3 : Hid (RwAt q (K + 2 * (5 - (m + 1)) + 1 + 20 * (8 - k)) w1 (m + 1) (.slice (some ⟨g', 0, none⟩) (m + 1) c') w5) := ⟨g', c', ws ++ [z], rfl, by rw [List.length_append, HW.out]; rfl, gt_app HPOS.out hz0, by unfold OwnI; rw [List.length_append, HW.out]; exact hown3, (ready_appZ hr3 hgr3 (by omega)).less (by omega), grown_appZ hg3 hgr3 (by omega)⟩; clear hown3 hgr3 hat3 h1 h2)
          go_roundw
          case rel => exact ⟨m + 1, by omega, by go_num, H3.out⟩
          case measure => simp [intOf]; omega
        · have hrr := hr2.less (j := K + 20 + 20 * (8 - (k + 1))) (by omega)
          clear hr2
          go_wp2_with (at_builtin; have h1 : SlRow (w2.alloc (.cells #[.slice (some ⟨g, 0, none⟩) m cap] 34)) w.heap.size N k c xs := (by have h := (HS1.out.row.kept (w' := w2) (hg2.block N hNl1.2 (by intro e; injection e with e; omega))).kept (w' := w2.alloc (.cells #[.slice (some ⟨g, 0, none⟩) m cap] 34)) (Below.heap_alloc _ _ _ (by omega)); rw [HN.out] at h; exact h); have h2 := src_sl (heap_alloc_new w2 (.cells #[.slice (some ⟨g, 0, none⟩) m cap] 34)); refine wl_appP _ (by rfl) _ _ (by rfl) w.heap.size N k c xs (by rfl) h1 ⟨w2.heap.size, 0, none⟩ 1 1 [.slice (some ⟨g, 0, none⟩) m cap] (by rfl) rfl h2 (by simp [Value.oneCell']) (k + 1) (xs ++ [.slice (some ⟨g, 0, none⟩) m cap]) rfl rfl (by omega) (by simp; omega) ?_; intro N' c' w5 hrow5 hgr5 hat5; have H5 : Hid (PsAt q (K + 20 + 20 * (8 - (k + 1))) w (k + 1) (.slice (some ⟨N', 0, none⟩) (k + 1) c') w5) := ps_next hq HN.out HW.out hm HS1.out H4.out HG1.out hg2 hrr HO2.out hrow5 hgr5 hat5; clear hrow5 hgr5 hat5 h1 h2)
          go_roundw
          case rel => exact ⟨k + 1, by omega, by go_num, H5.out⟩
          case measure => simp [intOf]; omega
    · go_wp2_with fail
      refine (pick_r q (K + 10) 8 w1 (hr1.less (by omega)) (by omega) (by omega)).mono ?_
      rintro e w2 ⟨s, hs0, hs1, rfl, hr2, hk2⟩
      have HS2 := Lib.hid (HS1.out.kept fun b hb _ => hk2.block b (by omega))
      have hg2 := grown_trans hg1 hk2.grown
      have hg2s := hg2.size
      have hNl2 := HS2.out.row.lt
      clear hr1 hg1 hk2 HS1 hNl1
      by_cases hsA : s = 0
      · subst hsA
        by_cases hk1 : 1 < k
        · have hk1i : (1 : Int) < (k : Int) := by omega
          have hkps : 0 < ps.length := by rw [HN.out]; omega
          obtain ⟨f, hf⟩ : ∃ f, F 0 = f := ⟨_, rfl⟩
          obtain ⟨c0, hc0⟩ : ∃ c0, C 0 = c0 := ⟨_, rfl⟩
          obtain ⟨zs, hzs⟩ : ∃ zs, gl ps 0 = zs := ⟨_, rfl⟩
          obtain ⟨l, hl⟩ : ∃ l, zs.length = l := ⟨_, rfl⟩
          have hcell := HS2.out.row.cell (i := 0) hkps (HS2.out.at_ 0 hkps)
          have hzl4 := H4.out 0 (by omega)
          have hownf := HS2.out.own 0 hkps
          rw [hf, hc0, hzs] at hcell hownf
          rw [hzs] at hzl4
          rw [hl] at hcell hzl4
          have hfl := hownf.lt
          have hfN : f ≠ N := by rw [← hf]; exact HS2.out.ne 0 hkps
          have HF := Lib.hid hf
          have HL := Lib.hid hl
          have HOF := Lib.hid hownf
          have HZS := Lib.hid hzs
          have HC0 := Lib.hid hc0
          have HKP := Lib.hid hkps
          have HG2 := Lib.hid hg2
          have HR2 : Hid (Ready w2 q (K + 9 + 1)) := hr2.less (by omega)
          have HQ2 := Lib.hid hr2.lt
          have HNQ : Hid (N ≠ q) := by show N ≠ q; omega
          have i0 : (0 : Int) < (k : Int) := by omega
          have i1 : 0 < k := by omega
          have h9 : k ≤ 9 := by omega
          clear hf hl hownf hzs hc0 hkps hr2 hg2 hNl2 hg1s hg2s hfN hfl H4 HZS HC0 HQ2 hk hlt hs0 hs1 hp0 hp1
          go_wp2_with fail
          go_region_law ((first
            | (refine step_app (o := ⟨some 51, _, _, _, _, _⟩) _ (by rfl) (.tmp 43) (.tmp 50) (by rfl) w.heap.size f l c0 (vals zs) (by rfl) (own_rowN HOF.out hq HL.out HKB.out (by repeat (first | with_reducible exact Below.refl _ _ | (with_reducible refine Below.drew ?_) | (with_reducible refine Below.alloc ?_ (by first | exact Nat.le_refl _ | (simp; done) | (simp; omega) | omega) _)))) ⟨_, 0, none⟩ 1 1 [.int .i64 (IntKind.i64.wrap (IntKind.i64.wrap (8 * x1) + x2))] (by rfl) rfl (src_one (by exact heap_alloc_new _ _)) (by simp [Value.oneCell']) (l + 1) (vals (zs ++ [IntKind.i64.wrap (IntKind.i64.wrap (8 * x1) + x2)])) rfl (by simp [vals]) (by omega) (size_N HG2.out HKB.out (W := _) (by repeat (first | with_reducible exact Below.refl _ _ | (with_reducible refine Below.drew ?_) | (with_reducible refine Below.alloc ?_ (by first | exact Nat.le_refl _ | (simp; done) | (simp; omega) | omega) _))) rfl) ?_
               intro g5 c5 w7 hown7 hgr7 hat7
               have HX := ps_store (K := K) (z := IntKind.i64.wrap (IntKind.i64.wrap (8 * x1) + x2)) hq HN.out h9 HS2.out HKP.out HF.out HL.out hcell HG2.out HKB.out HRB.out (by repeat (first | with_reducible exact Below.refl _ _ | (with_reducible refine Below.drew ?_) | (with_reducible refine Below.alloc ?_ (by first | exact Nat.le_refl _ | (simp; done) | (simp; omega) | omega) _))) hown7 hgr7 hat7
               have HY := Lib.hid HX.1
               have d7 := HX.2.1
               have f7 := HX.2.2
               clear hown7 hgr7 hat7 HX)
            | (have HRA' := HRA
               clear HRA'
               go_simp
               go_at_call 44
               refine (pick_r q (K + 8) 8 _ ?hrdy ?hp1 ?hp2).mono ?_
               case hrdy => exact HRA.out.keep (fun _ _ => rfl)
               case hp1 => omega
               case hp2 => omega
               rintro e wB ⟨x2, hx20, hx21, rfl, hrB, hkB⟩
               have HKB : Hid (Kept q w2 wB) := HKA.out.trans ⟨hkB.os, hkB.tape, hkB.output, hkB.size, hkB.block⟩
               have HRB : Hid (Ready wB q (K + 8)) := hrB
               have cB := kept_cellN HKB.out HNQ.out hcell
               have cBo := alloc_cellN cB
               have cBd := alloc_cellN (w := wB.drew) cB
               clear hrB hkB)
            | (go_simp
               go_at_call 44
               refine (pick_r q (K + 9) 7 _ ?hrdy ?hp1 ?hp2).mono ?_
               case hrdy => exact HR2.out.keep (fun _ _ => rfl)
               case hp1 => omega
               case hp2 => omega
               rintro e wA ⟨x1, hx10, hx11, rfl, hrA, hkA⟩
               have HKA : Hid (Kept q w2 wA) := ⟨hkA.os, hkA.tape, hkA.output, hkA.size, hkA.block⟩
               have HRA : Hid (Ready wA q (K + 8 + 1)) := hrA.less (by omega)
               have cA := kept_cellN HKA.out HNQ.out hcell
               clear hrA hkA)))
          all_goals
            go_wp2
            go_ret
            exact HY.out
        · have hk1i : ¬ (1 : Int) < (k : Int) := by omega
          go_wp2
          go_ret
          exact ps_post HN.out (by omega) HS2.out (hr2.less (by omega)) hg2
      · have hsA' : (s == 0) = false := by simp [hsA]
        by_cases hsB : s = 1
        · subst hsB
          go_wp2_with fail
          refine (point_r q (K + 7) w2 (hr2.less (by omega))).mono ?_
          rintro e w3 ⟨x, hx0, hx1, rfl, hr3, hk3⟩
          have HS3 := Lib.hid (HS2.out.kept fun b hb _ => hk3.block b (by omega))
          have hg3 := grown_trans hg2 hk3.grown
          have hg3s := hg3.size
          have hNl3 := HS3.out.row.lt
          have hq3 := hr3.lt
          clear hr2 hg2 hk3 HS2 hNl2
          go_wp2_with (at_builtin; have hB : Below w3.heap.size w3 ((w3.alloc (.cells #[.int .i64 x] 3)).alloc (.cells #[.slice (some ⟨w3.heap.size, 0, none⟩) 1 1] 34)) := ((Below.refl _ _).alloc (Nat.le_refl _) _).alloc (by simp) _; have h1 : SlRow ((w3.alloc (.cells #[.int .i64 x] 3)).alloc (.cells #[.slice (some ⟨w3.heap.size, 0, none⟩) 1 1] 34)) w.heap.size N k c xs := (by have h := HS3.out.row.kept (w' := ((w3.alloc (.cells #[.int .i64 x] 3)).alloc (.cells #[.slice (some ⟨w3.heap.size, 0, none⟩) 1 1] 34))) (hB.block N hNl3.2); rw [HN.out] at h; exact h); have h2 := src_sl (heap_second w3 (.cells #[.int .i64 x] 3) (.cells #[.slice (some ⟨w3.heap.size, 0, none⟩) 1 1] 34)); refine wl_appP _ (by rfl) _ _ (by rfl) w.heap.size N k c xs (by rfl) h1 ⟨w3.heap.size + 1, 0, none⟩ 1 1 [.slice (some ⟨w3.heap.size, 0, none⟩) 1 1] (by rfl) rfl h2 (by simp [Value.oneCell']) (k + 1) (xs ++ [.slice (some ⟨w3.heap.size, 0, none⟩) 1 1]) rfl rfl (by omega) (by simp; omega) ?_; intro N' c' w5 hrow5 hgr5 hat5; have H5 : Hid (PsPost q K w (.returned (.slice (some ⟨N', 0, none⟩) (k + 1) c')) w5) := ps_more (zs := [x]) hq HN.out (by omega) (by simp) HS3.out hg3 (hr3.less (by omega)) (own_lit (n := 1) (heap_alloc_new w3 _) (Nat.le_refl _)) hrow5 hgr5 hat5; clear hrow5 hgr5 hat5 h1 h2 hB)
          go_wp2
          go_ret
          exact H5.out
        · have hsB' : (s == 1) = false := by simp [hsB]
          by_cases hsC : s = 2
          · subst hsC
            go_wp2_with fail
            refine (pick_r q (K + 7) 2 w2 (hr2.less (by omega)) (by omega) (by omega)).mono ?_
            rintro e w3 ⟨x, hx0, hx1, rfl, hr3, hk3⟩
            have HS3 := Lib.hid (HS2.out.kept fun b hb _ => hk3.block b (by omega))
            have hg3 := grown_trans hg2 hk3.grown
            have hg3s := hg3.size
            have hNl3 := HS3.out.row.lt
            have hq3 := hr3.lt
            clear hr2 hg2 hk3 HS2 hNl2
            obtain ⟨n0, rfl, hn0⟩ : ∃ n0 : Nat, x = (n0 : Int) ∧ n0 < 2 := ⟨x.toNat, by omega, by omega⟩
            obtain ⟨n, hn⟩ : ∃ n : Nat, n = 10 + n0 := ⟨_, rfl⟩
            have hni : (10 : Int) + (n0 : Int) = (n : Int) := by omega
            have hn11 : n ≤ 11 := by omega
            clear hn
            have hmk := run_make_row' (P := Try.prog) 34 3 (.int .i64 0) 8 Try.underlying34 Try.infoInt rfl .i64 .i64 n (by omega) (by omega)
            go_wp2_with (at_builtin; have hB : Below w3.heap.size w3 ((w3.alloc (.cells (madeCells #[.int .i64 0] n) 3)).alloc (.cells #[.slice (some ⟨w3.heap.size, 0, none⟩) n n] 34)) := ((Below.refl _ _).alloc (Nat.le_refl _) _).alloc (by simp) _; have h1 : SlRow ((w3.alloc (.cells (madeCells #[.int .i64 0] n) 3)).alloc (.cells #[.slice (some ⟨w3.heap.size, 0, none⟩) n n] 34)) w.heap.size N k c xs := (by have h := HS3.out.row.kept (w' := ((w3.alloc (.cells (madeCells #[.int .i64 0] n) 3)).alloc (.cells #[.slice (some ⟨w3.heap.size, 0, none⟩) n n] 34))) (hB.block N hNl3.2); rw [HN.out] at h; exact h); have h2 := src_sl (heap_second w3 (.cells (madeCells #[.int .i64 0] n) 3) (.cells #[.slice (some ⟨w3.heap.size, 0, none⟩) n n] 34)); refine wl_appP _ (by rfl) _ _ (by rfl) w.heap.size N k c xs (by rfl) h1 ⟨w3.heap.size + 1, 0, none⟩ 1 1 [.slice (some ⟨w3.heap.size, 0, none⟩) n n] (by rfl) rfl h2 (by simp [Value.oneCell']) (k + 1) (xs ++ [.slice (some ⟨w3.heap.size, 0, none⟩) n n]) rfl rfl (by omega) (by simp; omega) ?_; intro N' c' w5 hrow5 hgr5 hat5; have H5 : Hid (PsPost q K w (.returned (.slice (some ⟨N', 0, none⟩) (k + 1) c')) w5) := ps_more (zs := (List.replicate n 0)) hq HN.out (by omega) (by simp) HS3.out hg3 (hr3.less (by omega)) (own_made (heap_alloc_new w3 _) (Nat.le_refl _) (by unfold maxLen; omega)) hrow5 hgr5 hat5; clear hrow5 hgr5 hat5 h1 h2 hB)
            clear hmk
            go_wp2
            go_ret
            exact H5.out
          · have hsC' : (s == 2) = false := by simp [hsC]
            go_wp2
            go_ret
            exact ps_post HN.out (by omega) HS2.out (hr2.less (by omega)) hg2
end Go.Proofs.Ytblhaccjngjekaa
