/- Scans: the draws of the laws. -/
import Derived.Test.YtenhaccdiamagaaScDraw2
namespace Go.Proofs.Ytenhaccdiamagaa
open Go.RowKit
set_option linter.unusedVariables false
attribute [local go_sem ↓] Go.wp_at_zero Go.wp_at_succ

theorem bytes_keepS {w W : World} {s : Option Addr} {len cap : Nat} (h : BytesAt w s len cap) (hb : Below w.heap.size w W) : BytesAt W s len cap := by
  have hs := hb.size
  obtain ⟨h1, h2, h3⟩ := h
  refine ⟨h1, h2, ?_⟩
  rcases h3 with h3 | ⟨b, off, ha, hlt, hc⟩
  · exact .inl h3
  · refine .inr ⟨b, off, ha, by omega, fun i hi => ?_⟩
    obtain ⟨c, hc1, hc2⟩ := hc i hi
    exact ⟨c, hc1, (hb.cell (p := ⟨b, off + i, none⟩) hlt).trans hc2⟩
theorem res_ttc {P : Program} {fn : Func} {p q r : Tmp} {ty : TypeId} (h : fn.results = #[.tmp q, .tmp r, .cell p ty]) (tmps : Array Value) (w : World) (g : Nat) (t : TypeId) (cs : Array Value) (fr : Nat × Nat) (d : TypeDesc)
    (hp : tmps.getD p undef = .pointer (some ⟨g, 0, none⟩)) (hg : w.heap[g]? = some (.cells cs t fr))
    (hu : P.underlying ty = some d) (hd : (match d with | .struct _ | .array _ _ => true | _ => false) = true) (hi : (P.info? ty).map (·.size) = some cs.size) :
    (results fn tmps).run P w = .ok (.tuple #[tmps.getD q undef, tmps.getD r undef, .agg cs]) w := by
  have hp' : tmps[p]?.getD undef = .pointer (some ⟨g, 0, none⟩) := by simpa using hp
  simp [results, h, hp', asAddr, run_loadVar_row w g t ty cs fr d hg hu hd hi]

/-- a scan that a law drew -/
def DrewSc (w : World) (e : Ending) (w' : World) : Prop :=
  ∃ (b cb : Nat) (s : Sc), e = .returned (.agg #[.int .i64 s.x, .slice (some ⟨b, 0, none⟩) s.t.length cb]) ∧ (-1 ≤ s.x ∧ s.x ≤ 65) ∧ s.t.length ≤ 66 ∧ OwnI w' w.heap.size (some ⟨b, 0, none⟩) cb s.t ∧ Below w.heap.size w w'
/-- leases -/
def DrewL (w : World) (e : Ending) (w' : World) : Prop :=
  ∃ (gl cl : Nat) (L : List Ls), e = .returned (.slice (some ⟨gl, 0, none⟩) L.length cl) ∧ L.length ≤ 12 ∧ OwnS w' w.heap.size gl cl L ∧ Below w.heap.size w w'
/-- leases and keys -/
def DrewLK (w : World) (e : Ending) (w' : World) : Prop :=
  ∃ (gl cl : Nat) (L : List Ls) (gk ck : Nat) (K : List Int), e = .returned (.tuple #[.slice (some ⟨gl, 0, none⟩) L.length cl, .slice (some ⟨gk, 0, none⟩) K.length ck]) ∧ L.length ≤ 12 ∧ OwnS w' w.heap.size gl cl L ∧ KyD K ∧ K.length ≤ 65 ∧ OwnI w' w.heap.size (some ⟨gk, 0, none⟩) ck K ∧ Below w.heap.size w w'
/-- leases, keys and a scan -/
def DrewLKS (w : World) (e : Ending) (w' : World) : Prop :=
  ∃ (gl cl : Nat) (L : List Ls) (gk ck : Nat) (K : List Int) (b cb : Nat) (s : Sc), e = .returned (.tuple #[.slice (some ⟨gl, 0, none⟩) L.length cl, .slice (some ⟨gk, 0, none⟩) K.length ck, .agg #[.int .i64 s.x, .slice (some ⟨b, 0, none⟩) s.t.length cb]]) ∧ L.length ≤ 12 ∧ OwnS w' w.heap.size gl cl L ∧ KyD K ∧ K.length ≤ 65 ∧ OwnI w' w.heap.size (some ⟨gk, 0, none⟩) ck K ∧
    (-1 ≤ s.x ∧ s.x ≤ 65) ∧ s.t.length ≤ 66 ∧ OwnI w' w.heap.size (some ⟨b, 0, none⟩) cb s.t ∧ Below w.heap.size w w'

set_option maxHeartbeats 1000000 in
theorem drawLv (s : Option Addr) (len cap : Nat) (w : World) (h : BytesAt w s len cap) :
    Calls Try.prog 25 #[.slice s len cap] w (DrewL w) := by
  have HB := Lib.hid h
  clear h
  go_enter Try.func25, Try.ntmps25
  go_wp2_with fail
  refine (open_any s len cap w HB.out).mono ?_
  rintro e w0 ⟨rfl, hr0, hb0, hz0⟩
  have HZ := Lib.hid hz0
  have HB0 := Lib.hid hb0
  clear hz0 hb0
  go_wp2_with fail
  refine (leases_any w.heap.size 10 w0 (hr0.less (by omega))).mono ?_
  rintro e w1 ⟨g, c, L, rfl, hl, ho, hr1, hg1⟩
  have HO := Lib.hid ho
  have HG := Lib.hid hg1
  clear ho hg1 hr1 hr0
  go_wp2
  go_ret
  exact ⟨g, c, L, rfl, hl, HO.out.less HB0.out.size, below_of_grown HB0.out (Nat.le_refl _) (by have := HZ.out; omega) HG.out⟩

set_option maxHeartbeats 1000000 in
theorem drawLK (s : Option Addr) (len cap : Nat) (w : World) (h : BytesAt w s len cap) :
    Calls Try.prog 27 #[.slice s len cap] w (DrewLK w) := by
  have HB := Lib.hid h
  clear h
  go_enter Try.func27, Try.ntmps27
  go_wp2_with fail
  refine (open_any s len cap w HB.out).mono ?_
  rintro e w0 ⟨rfl, hr0, hb0, hz0⟩
  have HZ := Lib.hid hz0
  have HB0 := Lib.hid hb0
  clear hz0 hb0
  go_wp2_with fail
  refine (leases_any w.heap.size 100 w0 (hr0.less (by omega))).mono ?_
  rintro e w1 ⟨g, c, L, rfl, hl, ho, hr1, hg1⟩
  have HO := Lib.hid ho
  have HG := Lib.hid hg1
  have HR1 := Lib.hid hr1
  clear ho hg1 hr1 hr0
  go_wp2_with fail
  refine (keysD_any w.heap.size 10 w1 (HR1.out.less (by omega))).mono ?_
  rintro e w2 ⟨gk, ck, K, rfl, hkd, hkl, hko, hr2, hg2⟩
  have HKD := Lib.hid hkd
  have HKO := Lib.hid hko
  have HG2 := Lib.hid hg2
  have HKL := Lib.hid hkl
  have HLL := Lib.hid hl
  clear hkd hko hg2 hr2 hkl hl
  go_wp2
  go_ret2
  have hz := HZ.out
  have hgl := HO.out.blk.1
  refine ⟨g, c, L, gk, ck, K, rfl, HLL.out, ?_, HKD.out, HKL.out, HKO.out.less (by have := HG.out.size; omega), below_of_grown HB0.out (Nat.le_refl _) (by omega) (grown_trans HG.out HG2.out)⟩
  exact (HO.out.kept (HG2.out.block g HO.out.blk.2.1 (fun e => by injection e with e; omega))).less HB0.out.size

set_option maxHeartbeats 1000000 in
theorem drawSv (s : Option Addr) (len cap : Nat) (w : World) (h : BytesAt w s len cap) :
    Calls Try.prog 33 #[.slice s len cap] w (DrewSc w) := by
  obtain ⟨W, hW⟩ : ∃ W, W = w.alloc (.cells #[.int .i64 0, .slice none 0 0] 26) := ⟨_, rfl⟩
  have hB : Below w.heap.size w W := by rw [hW]; exact alB w _
  have hs : W.heap.size = w.heap.size + 1 := by rw [hW]; simp
  have HR : Hid (W.heap[w.heap.size]? = some (.cells #[.int .i64 0, .slice none 0 0] 26 (0, 0))) := by show _ = _; rw [hW]; exact heap_alloc_new w _
  have HBY : Hid (BytesAt W s len cap) := bytes_keepS h hB
  have HW := Lib.hid hW
  have HS := Lib.hid hs
  have HB := Lib.hid hB
  clear h hW hB hs
  go_enter Try.func33, Try.ntmps33
  go_wp2_with fail
  rw [← HW.out]
  refine (open_any s len cap W HBY.out).mono ?_
  rintro e w0 ⟨rfl, hr0, hb0, hz0⟩
  obtain ⟨q, hq⟩ : ∃ q, q = W.heap.size := ⟨_, rfl⟩
  rw [← hq] at hr0 hz0 ⊢
  have HQ := Lib.hid hq
  have HZ := Lib.hid hz0
  have HB0 := Lib.hid hb0
  clear hz0 hb0 hq
  go_wp2_with fail
  refine (scanD_any q 10 w0 (hr0.less (by omega))).mono ?_
  rintro e w1 ⟨b, cb, S, rfl, hx, hl, ho, hr1, hg1⟩
  obtain ⟨x, ts⟩ := S
  simp only at hx hl ho
  have HO := Lib.hid ho
  have HG := Lib.hid hg1
  have HXB := Lib.hid hx
  have HLB := Lib.hid hl
  have HH : Hid (w1.heap[w.heap.size]? = some (.cells #[.int .i64 0, .slice none 0 0] 26 (0, 0))) := by
    have h1 := HS.out; have h2 := HZ.out; have h3 := HQ.out
    exact (hg1.block _ (by omega) (fun e => by injection e with e; omega)).trans ((HB0.out.block _ (by omega)).trans HR.out)
  obtain ⟨e0, e1⟩ := cell2s HH.out
  have f0 := frozen_of_cells HH.out 0
  have f1 := frozen_of_cells HH.out 1
  clear ho hg1 hr1 hr0 hx hl
  go_wp2
  refine bodyPost_ret (results_cell_row rfl _ _ w.heap.size _ #[.int .i64 x, .slice (some ⟨b, 0, none⟩) ts.length cb] (0, 0) _ rfl (set2s HH.out) Try.underlying26 rfl (by kernel_rfl)) rfl ?_
  have h1 := HS.out
  have h2 := HZ.out
  have h3 := HQ.out
  have hbl := HO.out.lt
  refine ⟨b, cb, ⟨x, ts⟩, rfl, HXB.out, HLB.out, (own_atS HO.out (fun y hy => by injection hy with hy; subst hy; exact set2s_ne (by show b ≠ _; omega))).less (by omega), below_set2s (HB.out.trans ((below_of_grown HB0.out (by omega) (by omega) HG.out).mono (by omega))) (Nat.le_refl _) _ _⟩

set_option maxHeartbeats 1000000 in
theorem drawLKS (s : Option Addr) (len cap : Nat) (w : World) (h : BytesAt w s len cap) :
    Calls Try.prog 15 #[.slice s len cap] w (DrewLKS w) := by
  obtain ⟨W, hW⟩ : ∃ W, W = w.alloc (.cells #[.int .i64 0, .slice none 0 0] 26) := ⟨_, rfl⟩
  have hB : Below w.heap.size w W := by rw [hW]; exact alB w _
  have hs : W.heap.size = w.heap.size + 1 := by rw [hW]; simp
  have HR : Hid (W.heap[w.heap.size]? = some (.cells #[.int .i64 0, .slice none 0 0] 26 (0, 0))) := by show _ = _; rw [hW]; exact heap_alloc_new w _
  have HBY : Hid (BytesAt W s len cap) := bytes_keepS h hB
  have HW := Lib.hid hW
  have HS := Lib.hid hs
  have HB := Lib.hid hB
  clear h hW hB hs
  go_enter Try.func15, Try.ntmps15
  go_wp2_with fail
  rw [← HW.out]
  refine (open_any s len cap W HBY.out).mono ?_
  rintro e w0 ⟨rfl, hr0, hb0, hz0⟩
  obtain ⟨q, hq⟩ : ∃ q, q = W.heap.size := ⟨_, rfl⟩
  rw [← hq] at hr0 hz0 ⊢
  have HQ := Lib.hid hq
  have HZ := Lib.hid hz0
  have HB0 := Lib.hid hb0
  have HN : Hid (w.heap.size < q ∧ q < w0.heap.size) := ⟨by have := HQ.out; have := HS.out; omega, by have := HZ.out; have := HQ.out; omega⟩
  have HR0 := Lib.hid hr0
  clear hz0 hb0 hq hr0
  go_wp2_with fail
  refine (leases_any q 200 w0 (HR0.out.less (by omega))).mono ?_
  rintro e w1 ⟨gl, cl, L, rfl, hl, ho, hr1, hg1⟩
  have HO := Lib.hid ho
  have HG := Lib.hid hg1
  have HR1 := Lib.hid hr1
  have HLL := Lib.hid hl
  clear ho hg1 hr1 hl
  go_wp2_with fail
  refine (keysD_any q 100 w1 (HR1.out.less (by omega))).mono ?_
  rintro e w2 ⟨gk, ck, K, rfl, hkd, hkl, hko, hr2, hg2⟩
  have HKD := Lib.hid hkd
  have HKO := Lib.hid hko
  have HG2 := Lib.hid hg2
  have HKL := Lib.hid hkl
  have HR2 := Lib.hid hr2
  clear hkd hko hg2 hr2 hkl
  go_wp2_with fail
  refine (scanD_any q 10 w2 (HR2.out.less (by omega))).mono ?_
  rintro e w3 ⟨b, cb, S, rfl, hx, hlt, hso, hr3, hg3⟩
  obtain ⟨x, ts⟩ := S
  simp only at hx hlt hso
  have HSO := Lib.hid hso
  have HG3 := Lib.hid hg3
  have HXB := Lib.hid hx
  have HLB := Lib.hid hlt
  have HGG : Hid (w0.grownBy w3 (some q)) := grown_trans HG.out (grown_trans HG2.out hg3)
  have HH : Hid (w3.heap[w.heap.size]? = some (.cells #[.int .i64 0, .slice none 0 0] 26 (0, 0))) := by
    have h1 := HN.out
    exact (HGG.out.block _ (by omega) (fun e => by injection e with e; omega)).trans ((HB0.out.block _ (by have := HQ.out; omega)).trans HR.out)
  obtain ⟨e0, e1⟩ := cell2s HH.out
  have f0 := frozen_of_cells HH.out 0
  have f1 := frozen_of_cells HH.out 1
  clear hso hg3 hr3 hx hlt
  go_wp2
  refine bodyPost_ret (res_ttc rfl _ _ w.heap.size _ #[.int .i64 x, .slice (some ⟨b, 0, none⟩) ts.length cb] (0, 0) _ rfl (set2s HH.out) Try.underlying26 rfl (by kernel_rfl)) rfl ?_
  have hn := HN.out
  have hs1 := HG.out.size
  have hs2 := HG2.out.size
  have hs3 := HG3.out.size
  have hbo := HO.out.blk
  have hbk := HKO.out.lt
  have hbs := HSO.out.lt
  have hq := HQ.out
  refine ⟨gl, cl, L, gk, ck, K, b, cb, ⟨x, ts⟩, rfl, HLL.out, ?_, HKD.out, HKL.out, ?_, HXB.out, HLB.out, ?_, below_set2s (HB.out.trans ((below_of_grown HB0.out (by omega) (by omega) HGG.out).mono (by omega))) (Nat.le_refl _) _ _⟩
  · exact (((HO.out.kept (HG2.out.block gl hbo.2.1 (fun e => by injection e with e; omega))).kept (HG3.out.block gl (by omega) (fun e => by injection e with e; omega))).kept (set2s_ne (by omega))).less (by omega)
  · exact (((HKO.out.kept (fun i h1 h2 => HG3.out.block i h2 (fun e => by injection e with e; omega))).kept (fun i h1 h2 => set2s_ne (by omega)))).less (by omega)
  · exact (HSO.out.kept (fun i h1 h2 => set2s_ne (by omega))).less (by omega)

set_option maxHeartbeats 1000000 in
theorem drawSd (s : Option Addr) (len cap : Nat) (w : World) (h : BytesAt w s len cap) :
    Calls Try.prog 22 #[.slice s len cap] w (DrewSc w) := by
  obtain ⟨W, hW⟩ : ∃ W, W = w.alloc (.cells #[.int .i64 0, .slice none 0 0] 26) := ⟨_, rfl⟩
  have hB : Below w.heap.size w W := by rw [hW]; exact alB w _
  have hs : W.heap.size = w.heap.size + 1 := by rw [hW]; simp
  have HR : Hid (W.heap[w.heap.size]? = some (.cells #[.int .i64 0, .slice none 0 0] 26 (0, 0))) := by show _ = _; rw [hW]; exact heap_alloc_new w _
  have HBY : Hid (BytesAt W s len cap) := bytes_keepS h hB
  have HW := Lib.hid hW
  have HS := Lib.hid hs
  have HB := Lib.hid hB
  clear h hW hB hs
  go_enter Try.func22, Try.ntmps22
  go_wp2_with fail
  rw [← HW.out]
  refine (open_any s len cap W HBY.out).mono ?_
  rintro e w0 ⟨rfl, hr0, hb0, hz0⟩
  obtain ⟨q, hq⟩ : ∃ q, q = W.heap.size := ⟨_, rfl⟩
  rw [← hq] at hr0 hz0 ⊢
  have HQ := Lib.hid hq
  have HZ := Lib.hid hz0
  have HB0 := Lib.hid hb0
  have HN : Hid (w.heap.size < q ∧ q < w0.heap.size) := ⟨by have := HQ.out; have := HS.out; omega, by have := HZ.out; have := HQ.out; omega⟩
  have HR0 := Lib.hid hr0
  clear hz0 hb0 hq hr0
  go_wp2_with fail
  refine (scanD_any q 10 w0 (HR0.out.less (by omega))).mono ?_
  rintro e w1 ⟨b, cb, S, rfl, hx, hlt, hso, hr1, hg1⟩
  obtain ⟨x, ts⟩ := S
  simp only at hx hlt hso
  obtain ⟨w2, hw2⟩ : ∃ w2, w2 = w1.alloc (.cells #[.int .i64 x, .slice (some ⟨b, 0, none⟩) ts.length cb] 26) := ⟨_, rfl⟩
  have HA : Hid (w2.heap[w1.heap.size]? = some (.cells #[.int .i64 x, .slice (some ⟨b, 0, none⟩) ts.length cb] 26 (0, 0))) := by show _ = _; rw [hw2]; exact heap_alloc_new w1 _
  have HA2 : Hid (w1.heap.size < w2.heap.size ∧ b < w1.heap.size ∧ w0.heap.size ≤ b) := ⟨by rw [hw2]; simp, hso.lt.2, hso.lt.1⟩
  have HR2 : Hid (Ready w2 q 10) := by show Ready _ _ _; rw [hw2]; exact hr1.keep (fun i hi => Below.heap_alloc _ _ _ (by have := hr1.lt; omega))
  have HSO : Hid (OwnI w2 w0.heap.size (some ⟨b, 0, none⟩) cb ts) := by show OwnI _ _ _ _ _; rw [hw2]; exact hso.keepB (alB w1 _) (Nat.le_refl _)
  have HG2 : Hid (w0.grownBy w2 (some q)) := by show World.grownBy _ _ _; rw [hw2]; exact grown_trans hg1 (World.grownBy_alloc w1 _ _)
  have HS0 := Lib.hid hg1.size
  have HXB := Lib.hid hx
  have HLB := Lib.hid hlt
  have HW2 := Lib.hid hw2
  clear hx hlt hso hr1 hg1 hw2
  go_wp2_with fail
  rw [← HW2.out]
  refine (pick_r q 9 2 w2 HR2.out (by omega) (by omega)).mono ?_
  rintro e w3 ⟨v, hv0, hv1, rfl, hr3, hk3⟩
  have hn := HN.out
  have ha2 := HA2.out
  have hs0 := HS0.out
  have HA3 := Lib.hid ((hk3.block w1.heap.size (by omega)).trans HA.out)
  have HSO3 : Hid (OwnI w3 w0.heap.size (some ⟨b, 0, none⟩) cb ts) := HSO.out.kept (fun i h1 h2 => hk3.block i (by omega))
  have HG3 : Hid (w0.grownBy w3 (some q)) := grown_trans HG2.out hk3.grown
  have HH : Hid (w3.heap[w.heap.size]? = some (.cells #[.int .i64 0, .slice none 0 0] 26 (0, 0))) :=
    (HG3.out.block _ (by omega) (fun e => by injection e with e; omega)).trans ((HB0.out.block _ (by have := HQ.out; omega)).trans HR.out)
  have HB3 : Hid (Below w.heap.size w w3) := HB.out.trans ((below_of_grown HB0.out (by have := HQ.out; omega) (by have := HQ.out; omega) HG3.out).mono (by have := HQ.out; omega))
  obtain ⟨N, hN⟩ : ∃ N, N = w1.heap.size := ⟨_, rfl⟩
  rw [← hN] at HA3 ha2 hs0
  have HNE := Lib.hid hN
  rw [← hN]
  obtain ⟨d0, d1⟩ := cell2s HA3.out
  have g0 := frozen_of_cells HA3.out 0
  obtain ⟨e0, e1⟩ := cell2s HH.out
  have f0 := frozen_of_cells HH.out 0
  have f1 := frozen_of_cells HH.out 1
  clear hr3 hk3 hN
  by_cases hv : v = 0
  · subst hv
    have h9 : (w3.setCell ⟨N, 0, none⟩ (.int .i64 64)).heap[w.heap.size]? = some (.cells #[.int .i64 0, .slice none 0 0] 26 (0, 0)) := (heap_set_ne _ _ _ _ _ (by omega)).trans HH.out
    have hA9 : (w3.setCell ⟨N, 0, none⟩ (.int .i64 64)).heap[N]? = some (.cells #[.int .i64 64, .slice (some ⟨b, 0, none⟩) ts.length cb] 26 (0, 0)) := heap_set _ _ _ _ HA3.out
    obtain ⟨x0, x1⟩ := cell2s hA9
    obtain ⟨y0, y1⟩ := cell2s h9
    have z0 := frozen_of_cells h9 0
    have z1 := frozen_of_cells h9 1
    have H9 := Lib.hid h9
    clear h9 hA9 e0 e1 f0 f1
    go_wp2
    refine bodyPost_ret (results_cell_row rfl _ _ w.heap.size _ #[.int .i64 64, .slice (some ⟨b, 0, none⟩) ts.length cb] (0, 0) _ rfl (set2s H9.out) Try.underlying26 rfl (by kernel_rfl)) rfl ?_
    refine ⟨b, cb, ⟨64, ts⟩, rfl, (by simp), HLB.out, (own_atS HSO3.out (fun y hy => by injection hy with hy; subst hy; exact (set2s_ne (by show b ≠ _; omega)).trans (heap_set_ne _ _ _ _ _ (by show b ≠ N; omega)))).less (by omega), below_set2s (HB3.out.setCell (by show w.heap.size ≤ N; omega) _) (Nat.le_refl _) _ _⟩
  · have hv' : (v == 0) = false := by simp [hv]
    go_wp2
    refine bodyPost_ret (results_cell_row rfl _ _ w.heap.size _ #[.int .i64 x, .slice (some ⟨b, 0, none⟩) ts.length cb] (0, 0) _ rfl (set2s HH.out) Try.underlying26 rfl (by kernel_rfl)) rfl ?_
    exact ⟨b, cb, ⟨x, ts⟩, rfl, HXB.out, HLB.out, (own_atS HSO3.out (fun y hy => by injection hy with hy; subst hy; exact set2s_ne (by show b ≠ _; omega))).less (by omega), below_set2s HB3.out (Nat.le_refl _) _ _⟩
end Go.Proofs.Ytenhaccdiamagaa
