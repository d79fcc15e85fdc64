/- Drawing the arguments of the laws of registers; comparing, in the laws. -/
import Derived.Test.YtcjlohikfjafiaaRgDraw2
namespace Go.Proofs.Ytcjlohikfjafiaa
open Go.RowKit
set_option linter.unusedVariables false
attribute [local go_sem ↓] Go.wp_at_zero Go.wp_at_succ

/-- a drawn register -/
def DrewR1 (w : World) (e : Ending) (w' : World) : Prop :=
  ∃ (g cap : Nat) (L : List Ls), e = .returned (.slice (some ⟨g, 0, none⟩) L.length cap) ∧ 1 ≤ L.length ∧ L.length ≤ 10 ∧ OwnS w' w.heap.size g cap L ∧ Below w.heap.size w w'
/-- .. with a set and a replica -/
def DrewR3 (w : World) (e : Ending) (w' : World) : Prop :=
  ∃ (g cap : Nat) (L : List Ls) (g2 c2 : Nat) (zs : List Int) (x : Ls), e = .returned (.tuple #[.slice (some ⟨g, 0, none⟩) L.length cap, .slice (some ⟨g2, 0, none⟩) zs.length c2, .agg #[.int .i64 x.e, .int .i64 x.o, .int .i64 x.u]]) ∧
    1 ≤ L.length ∧ L.length ≤ 10 ∧ zs.length ≤ 11 ∧ OwnS w' w.heap.size g cap L ∧ IntsAt w' (some ⟨g2, 0, none⟩) zs ∧ Below w.heap.size w w'

set_option maxHeartbeats 1000000 in
theorem drawRegisterValid (s : Option Addr) (len cap : Nat) (w : World) (h : BytesAt w s len cap) :
    Calls Try.prog 15 #[.slice s len cap] w (DrewR1 w) := by
  go_enter Try.func15, Try.ntmps15
  go_wp2_with fail
  refine (open_any s len cap w h).mono ?_
  rintro e w0 ⟨rfl, hr0, hb0, hz0⟩
  have HZ := Lib.hid hz0
  clear hz0
  go_wp2_with fail
  refine (replicas_any w.heap.size 900000 w0 (hr0.less (by omega))).mono ?_
  rintro e w1 ⟨g, c, L, rfl, hl1, hl2, _, ho, hr1, hg1⟩
  have HO := Lib.hid ho
  have hB : Below w.heap.size w w1 := below_of_grown hb0 (Nat.le_refl _) (by have := HZ.out; omega) hg1
  clear ho
  go_wp2
  go_ret
  exact ⟨g, c, L, rfl, hl1, hl2, HO.out.less hb0.size, hB⟩

theorem results_tmp2_cell {P : Program} {fn : Func} {p q r : Tmp} {ty : TypeId} (h : fn.results = #[.tmp q, .tmp r, .cell p ty]) (tmps : Array Value) (w : World) (g : Nat) (t : TypeId) (cs : Array Value) (fr : Nat × Nat) (d : TypeDesc)
    (hp : tmps.getD p undef = .pointer (some ⟨g, 0, none⟩)) (hg : w.heap[g]? = some (.cells cs t fr))
    (hu : P.underlying ty = some d) (hd : (match d with | .struct _ | .array _ _ => true | _ => false) = true) (hi : (P.info? ty).map (·.size) = some cs.size) :
    (results fn tmps).run P w = .ok (.tuple #[tmps.getD q undef, tmps.getD r undef, .agg cs]) w := by
  have hp' : tmps[p]?.getD undef = .pointer (some ⟨g, 0, none⟩) := by simpa using hp
  simp [results, h, hp', asAddr, run_loadVar_row w g t ty cs fr d hg hu hd hi]

theorem grow_setN {w w2 : World} {q n i : Nat} {u : Value} (hg : w.grownBy w2 (some q)) (hgb : w.heap.size ≤ n) : w.grownBy (w2.setCell ⟨n, i, none⟩ u) (some q) :=
  ⟨hg.os, hg.tape, hg.output, by simp only [World.setCell, Array.size_modify]; exact hg.size, fun k hk hn => (heap_set_ne _ _ _ _ _ (by omega)).trans (hg.block k hk hn)⟩
theorem drewN_grown {w w2 : World} {q : Nat} (hg : w.grownBy w2 (some q)) (n : Nat) : w.grownBy (w2.drewN n) (some q) := ⟨hg.os, hg.tape, hg.output, hg.size, hg.block⟩

set_option maxHeartbeats 2000000 in
theorem drawRegisterPart (s : Option Addr) (len cap : Nat) (w : World) (h : BytesAt w s len cap) :
    Calls Try.prog 8 #[.slice s len cap] w (DrewR3 w) := by
  obtain ⟨W, hW⟩ : ∃ W, W = w.alloc (.cells #[.int .i64 0, .int .i64 0, .int .i64 0] 26) := ⟨_, rfl⟩
  have hWb : Below w.heap.size w W := by rw [hW]; exact alB _ _
  have hWh : Hid (W.heap[w.heap.size]? = some (.cells #[.int .i64 0, .int .i64 0, .int .i64 0] 26 (0, 0))) := by show _ = _; rw [hW]; exact heap_alloc_new w _
  have hWs : Hid (W.heap.size = w.heap.size + 1) := by show _ = _; rw [hW]; simp
  have HBY : Hid (BytesAt W s len cap) := by
    show BytesAt W s len cap
    obtain ⟨h1, h2, h3⟩ := h
    refine ⟨h1, h2, ?_⟩
    rcases h3 with h3 | ⟨b, off, ha, hb, hc⟩
    · exact .inl h3
    · refine .inr ⟨b, off, ha, Nat.lt_of_lt_of_le hb hWb.size, fun i hi => ?_⟩
      obtain ⟨c, hc1, hc2⟩ := hc i hi
      exact ⟨c, hc1, (hWb.cell (p := ⟨b, off + i, none⟩) hb).trans hc2⟩
  have HW := Lib.hid hW
  clear hW h
  go_enter Try.func8, Try.ntmps8
  go_wp2_with fail
  rw [← HW.out]
  refine (open_any s len cap W HBY.out).mono ?_
  rintro e w0 ⟨rfl, hr0, hb0, hz0⟩
  obtain ⟨q, hq⟩ : ∃ q, q = W.heap.size := ⟨_, rfl⟩
  rw [← hq] at hr0 hz0 ⊢
  have HQ := Lib.hid hq
  have hqs : Hid (q = w.heap.size + 1 ∧ w0.heap.size = w.heap.size + 2) := by show _ ∧ _; have := hWs.out; omega
  have hbq : Hid (Below q W w0) := by show Below q W w0; rw [hq]; exact hb0
  have hbx : Hid (w0.heap[w.heap.size]? = some (.cells #[.int .i64 0, .int .i64 0, .int .i64 0] 26 (0, 0))) := (hbq.out.block _ (by have := hqs.out; omega)).trans hWh.out
  clear hz0 hq hb0
  go_wp2_with fail
  refine (replicas_any q 900000 w0 (hr0.less (by omega))).mono ?_
  rintro e w1 ⟨g, c, L, rfl, hl1, hl2, hsm, ho, hr1, hg1⟩
  have HO1 := Lib.hid ho
  have HSM := Lib.hid hsm
  clear ho hsm
  go_wp2_with fail
  refine (some_any q 800000 L.length w1 (hr1.less (by omega)) (by omega)).mono ?_
  rintro e w2 ⟨g2, c2, zs, rfl, hlz, hoz, hr2, hg2⟩
  have hq1 : q < w0.heap.size := hr0.lt
  have HO2 := Lib.hid (HO1.out.grownQ hg2 hq1)
  have HZ2 := Lib.hid hoz
  have HG2 := Lib.hid (grown_trans hg1 hg2)
  have HW10 := Lib.hid hg1.size
  have hqz : q < w1.heap.size := by have := hg1.size; omega
  clear hoz
  go_wp2_with fail
  refine (pick_r q 799999 5 w2 hr2 (by omega) (by omega)).mono ?_
  rintro e w3 ⟨p1, hp10, hp11, rfl, hr3, hk3⟩
  go_wp2_with fail
  refine (pick_r q 799998 3 w3 hr3 (by omega) (by omega)).mono ?_
  rintro e w4 ⟨p2, hp20, hp21, rfl, hr4, hk4⟩
  go_wp2_with fail
  refine (pick_r q 799997 100 w4 hr4 (by omega) (by omega)).mono ?_
  rintro e w5 ⟨p3, hp30, hp31, rfl, hr5, hk5⟩
  have hg25 : w2.grownBy w5 (some q) := grown_trans hk3.grown (grown_trans hk4.grown hk5.grown)
  have HG5 := Lib.hid (grown_trans HG2.out hg25)
  have HO5 := Lib.hid (HO2.out.grownQ hg25 hq1)
  have HZ5 := Lib.hid (HZ2.out.grownQ hg25 hqz)
  obtain ⟨X, hX⟩ : ∃ X, X = w5.alloc (.cells #[.int .i64 p1, .int .i64 p2, .int .i64 p3] 26) := ⟨_, rfl⟩
  have hXb : Below w5.heap.size w5 X := by rw [hX]; exact alB _ _
  have hXh : Hid (X.heap[w5.heap.size]? = some (.cells #[.int .i64 p1, .int .i64 p2, .int .i64 p3] 26 (0, 0))) := by show _ = _; rw [hX]; exact heap_alloc_new w5 _
  have hXs : w5.heap.size < X.heap.size := by rw [hX]; simp
  have HX := Lib.hid hX
  clear hX hk3 hk4 hk5 hg25 hg1 hg2
  have h50 := HG5.out.size
  have HGX := Lib.hid (grown_below HG5.out hXb)
  go_wp2_with fail
  rw [← HX.out]
  refine (pick_r q 799996 6 X (ready_keepB hr5 hXb) (by omega) (by omega)).mono ?_
  rintro e w6 ⟨u, hu0, hu1, rfl, hr6, hk6⟩
  have HG6 := Lib.hid (grown_trans HGX.out hk6.grown)
  have HO6 := Lib.hid ((HO5.out.keepB hXb (Nat.le_refl _)).grownQ hk6.grown hq1)
  have HZ6 := Lib.hid ((HZ5.out.keepB hXb (Nat.le_refl _)).grownQ hk6.grown hqz)
  have hx6 := Lib.hid ((hk6.block w5.heap.size (by omega)).trans hXh.out)
  have hlz' : zs.length ≤ 11 := by omega
  have hWb0 : Below w.heap.size w w0 := hWb.trans (hbq.out.mono (by have := hqs.out; omega))
  have HWB0 := Lib.hid hWb0
  have FIN : Hid (∀ (w7 : World) (x : Ls), OwnS w7 w0.heap.size g c L → IntsAt w7 (some ⟨g2, 0, none⟩) zs → w0.grownBy w7 (some q) →
      DrewR3 w (.returned (.tuple #[.slice (some ⟨g, 0, none⟩) L.length c, .slice (some ⟨g2, 0, none⟩) zs.length c2, .agg #[.int .i64 x.e, .int .i64 x.o, .int .i64 x.u]])) (((w7.setCell ⟨w.heap.size, 0, none⟩ (.int .i64 x.e)).setCell ⟨w.heap.size, 1, none⟩ (.int .i64 x.o)).setCell ⟨w.heap.size, 2, none⟩ (.int .i64 x.u)).drew) := fun w7 x h1 h2 h3 => by
    have q1 := hqs.out
    have q2 := h1.blk.1
    have q3 : w1.heap.size ≤ g2 := HZ2.out.rng.1
    have q4 := HG2.out.size
    have q5 : w0.heap.size ≤ w1.heap.size := HW10.out
    have hk : ∀ k, k ≠ w.heap.size → (((w7.setCell ⟨w.heap.size, 0, none⟩ (.int .i64 x.e)).setCell ⟨w.heap.size, 1, none⟩ (.int .i64 x.o)).setCell ⟨w.heap.size, 2, none⟩ (.int .i64 x.u)).drew.heap[k]? = w7.heap[k]? := fun k hk => by
      show (((w7.setCell _ _).setCell _ _).setCell _ _).heap[k]? = _
      rw [heap_set_ne _ _ _ _ _ hk, heap_set_ne _ _ _ _ _ hk, heap_set_ne _ _ _ _ _ hk]
    have hB7 : Below w.heap.size w w7 := below_of_grown HWB0.out (by omega) (by omega) h3
    exact ⟨g, c, L, g2, c2, zs, x, rfl, hl1, hl2, hlz', (h1.kept (hk g (by omega))).less (by omega), h2.blk (hk g2 (by omega)), (((hB7.setCell (Nat.le_refl _) _).setCell (Nat.le_refl _) _).setCell (Nat.le_refl _) _).drew⟩
  clear hWb0 hWb
  have hR6 := Lib.hid ((HG6.out.block w.heap.size (by have := hqs.out; omega) (fun e => by injection e with e; have := hqs.out; omega)).trans hbx.out)
  by_cases hu : u = 0
  case neg =>
    have hu' : (u == 0) = false := by simp [hu]
    have h7 := hx6.out
    obtain ⟨x0, x1, x2⟩ : w6.cell? ⟨w5.heap.size, 0, none⟩ = some (.int .i64 ((⟨p1, p2, p3⟩ : Ls)).e) ∧ w6.cell? ⟨w5.heap.size, 1, none⟩ = some (.int .i64 ((⟨p1, p2, p3⟩ : Ls)).o) ∧ w6.cell? ⟨w5.heap.size, 2, none⟩ = some (.int .i64 ((⟨p1, p2, p3⟩ : Ls)).u) := ⟨by rw [cell_of_cells h7]; rfl, by rw [cell_of_cells h7]; rfl, by rw [cell_of_cells h7]; rfl⟩
    have r7 := hR6.out
    have z0 : w6.cell? ⟨w.heap.size, 0, none⟩ = some (.int .i64 0) := by rw [cell_of_cells r7]; rfl
    have z1 : w6.cell? ⟨w.heap.size, 1, none⟩ = some (.int .i64 0) := by rw [cell_of_cells r7]; rfl
    have z2 : w6.cell? ⟨w.heap.size, 2, none⟩ = some (.int .i64 0) := by rw [cell_of_cells r7]; rfl
    have f0 := frozen_of_cells r7 0
    have f1 := frozen_of_cells r7 1
    have f2 := frozen_of_cells r7 2
    have HR7 := Lib.hid r7
    have HO7 := Lib.hid (HO6.out)
    have HI7 := Lib.hid (HZ6.out.ints)
    have HG7 := Lib.hid (HG6.out)
    clear h7 r7
    go_wp2
    go_region
    all_goals
      go_wp2
      have e1 := heap_set _ w.heap.size 2 (.int .i64 ((⟨p1, p2, p3⟩ : Ls)).u) (heap_set _ w.heap.size 1 (.int .i64 ((⟨p1, p2, p3⟩ : Ls)).o) (heap_set w6 w.heap.size 0 (.int .i64 ((⟨p1, p2, p3⟩ : Ls)).e) HR7.out))
      refine bodyPost_ret (results_tmp2_cell rfl _ _ w.heap.size _ #[.int .i64 ((⟨p1, p2, p3⟩ : Ls)).e, .int .i64 ((⟨p1, p2, p3⟩ : Ls)).o, .int .i64 ((⟨p1, p2, p3⟩ : Ls)).u] (0, 0) _ rfl e1 Try.underlying26 rfl (by kernel_rfl)) rfl ?_
      exact FIN.out _ _ HO7.out HI7.out HG7.out
  subst hu
  go_wp2_with fail
  refine (pick_r q 799995 (L.length : Int) w6 hr6 (by omega) (by omega)).mono ?_
  rintro e w7 ⟨v, hv0, hv1, rfl, hr7, hk7⟩
  obtain ⟨p, rfl, hpk⟩ : ∃ p : Nat, v = (p : Int) ∧ p < L.length := ⟨v.toNat, by omega, by omega⟩
  have h56 : w5.heap.size ≠ q := by omega
  have h5lt : w0.heap.size ≤ w5.heap.size := h50
  have HG7a := Lib.hid (grown_trans HG6.out hk7.grown)
  have ho7 := HO6.out.grownQ hk7.grown hq1
  have HZ7 := Lib.hid (HZ6.out.grownQ hk7.grown hqz)
  have hx7 := (hk7.block w5.heap.size h56).trans hx6.out
  obtain ⟨y0, y1, y2⟩ := ho7.cells hpk
  obtain ⟨ye, hye⟩ : ∃ y, y = gl L p := ⟨_, rfl⟩
  rw [← hye] at y0 y1 y2
  have hyb : -1 ≤ ye.u ∧ ye.u ≤ 101 := by rw [hye]; exact HSM.out p hpk
  clear hye
  have b0 : w7.cell? ⟨w5.heap.size, 0, none⟩ = some (.int .i64 p1) := by rw [cell_of_cells hx7]; rfl
  have b1 : w7.cell? ⟨w5.heap.size, 1, none⟩ = some (.int .i64 p2) := by rw [cell_of_cells hx7]; rfl
  have b2 : w7.cell? ⟨w5.heap.size, 2, none⟩ = some (.int .i64 p3) := by rw [cell_of_cells hx7]; rfl
  have g0 := frozen_of_cells hx7 0
  have g1 := frozen_of_cells hx7 1
  have g2' := frozen_of_cells hx7 2
  have HO7a := Lib.hid ho7
  obtain ⟨Y, hY⟩ : ∃ Y, Y = ((w7.setCell ⟨w5.heap.size, 0, none⟩ (.int .i64 ye.e)).setCell ⟨w5.heap.size, 1, none⟩ (.int .i64 ye.o)).setCell ⟨w5.heap.size, 2, none⟩ (.int .i64 ye.u) := ⟨_, rfl⟩
  have hYh : Hid (Y.heap[w5.heap.size]? = some (.cells #[.int .i64 ye.e, .int .i64 ye.o, .int .i64 ye.u] 26 (0, 0))) := by
    show _ = _
    rw [hY, heap_set _ w5.heap.size 2 (.int .i64 ye.u) (heap_set _ w5.heap.size 1 (.int .i64 ye.o) (heap_set w7 w5.heap.size 0 (.int .i64 ye.e) hx7))]; rfl
  have hYk : Hid (∀ k, k ≠ w5.heap.size → Y.heap[k]? = w7.heap[k]?) := fun k hk => by rw [hY, heap_set_ne _ _ _ _ _ hk, heap_set_ne _ _ _ _ _ hk, heap_set_ne _ _ _ _ _ hk]
  have HGY : Hid (w0.grownBy Y (some q)) := by show w0.grownBy Y (some q); rw [hY]; exact grow_setN (grow_setN (grow_setN HG7a.out h5lt) h5lt) h5lt
  have hg5 : g ≠ w5.heap.size := by have := HO5.out.blk.2.1; omega
  have hg25 : g2 ≠ w5.heap.size := by have := HZ5.out.rng.2; omega
  have HOY := Lib.hid (HO7a.out.kept (hYk.out g hg5))
  have HZY := Lib.hid (HZ7.out.ints.blk (hYk.out g2 hg25))
  have HRY := Lib.hid (hr7.keep fun i hi => hYk.out i (by omega))
  have HRY2 : Hid (Y.heap[w.heap.size]? = some (.cells #[.int .i64 0, .int .i64 0, .int .i64 0] 26 (0, 0))) := (hYk.out w.heap.size (by have := hqs.out; omega)).trans ((hk7.block w.heap.size (by have := hqs.out; omega)).trans hR6.out)
  have HY := Lib.hid hY
  clear hY ho7 hx7
  go_wp2
  rw [← HY.out]
  have cY : Y.cell? ⟨w5.heap.size, 2, none⟩ = some (.int .i64 ye.u) := by rw [cell_of_cells hYh.out]; rfl
  have hmix : Try.prog.follows .mixedOrders = true := by kernel_rfl
  clear y0 y1 y2 b0 b1 b2 g0 g1 g2' hk7 hr7
  go_region_with ((go_at_call 29; refine (pick_r q 799994 2 _ (by exact HRY.out) (by omega) (by omega)).mono ?_; rintro e w8 ⟨t, ht0, ht1, rfl, hr8, hk8⟩; have hb8 : w8.heap[w5.heap.size]? = some (.cells #[.int .i64 ye.e, .int .i64 ye.o, .int .i64 ye.u] 26 (0, 0)) := (hk8.block w5.heap.size h56).trans hYh.out; have c8 : w8.cell? ⟨w5.heap.size, 2, none⟩ = some (.int .i64 ye.u) := (by rw [cell_of_cells hb8]; rfl); have f8 := frozen_of_cells hb8 2; have hwr : IntKind.i64.wrap (ye.u + t) = ye.u + t := (by rw [IntKind.wrap_i64]; omega); have HB8 := Lib.hid hb8; clear hb8))
  all_goals
    have hk8' : Kept q Y w8 := ⟨hk8.os, hk8.tape, hk8.output, hk8.size, hk8.block⟩
    have HK8 := Lib.hid hk8'
    clear hk8 hk8'
    obtain ⟨V, hV⟩ : ∃ V, V = w8.setCell ⟨w5.heap.size, 2, none⟩ (.int .i64 (ye.u + t)) := ⟨_, rfl⟩
    have hVk : Hid (∀ k, k ≠ w5.heap.size → V.heap[k]? = w8.heap[k]?) := fun k hk => by rw [hV, heap_set_ne _ _ _ _ _ hk]
    have hVh : Hid (V.heap[w5.heap.size]? = some (.cells #[.int .i64 ye.e, .int .i64 ye.o, .int .i64 (ye.u + t)] 26 (0, 0))) := by show _ = _; rw [hV, heap_set w8 w5.heap.size 2 (.int .i64 (ye.u + t)) HB8.out]; rfl
    have HGV : Hid (w0.grownBy V (some q)) := by show w0.grownBy V (some q); rw [hV]; exact grow_setN (grown_trans HGY.out HK8.out.grown) h5lt
    have hgq : g ≠ q := by have := HO5.out.blk.1; omega
    have hg2q : g2 ≠ q := by have := HZ5.out.rng.1; omega
    have HOV := Lib.hid ((HOY.out.kept (HK8.out.block g hgq)).kept (hVk.out g hg5))
    have HZV := Lib.hid ((HZY.out.blk (HK8.out.block g2 hg2q)).blk (hVk.out g2 hg25))
    have HRV : Hid (V.heap[w.heap.size]? = some (.cells #[.int .i64 0, .int .i64 0, .int .i64 0] 26 (0, 0))) := (hVk.out w.heap.size (by have := hqs.out; omega)).trans ((HK8.out.block w.heap.size (by have := hqs.out; omega)).trans HRY2.out)
    have HV := Lib.hid hV
    clear hV c8 f8
    rw [← HV.out]
    have h7 := hVh.out
    obtain ⟨x0, x1, x2⟩ : V.cell? ⟨w5.heap.size, 0, none⟩ = some (.int .i64 ((⟨ye.e, ye.o, ye.u + t⟩ : Ls)).e) ∧ V.cell? ⟨w5.heap.size, 1, none⟩ = some (.int .i64 ((⟨ye.e, ye.o, ye.u + t⟩ : Ls)).o) ∧ V.cell? ⟨w5.heap.size, 2, none⟩ = some (.int .i64 ((⟨ye.e, ye.o, ye.u + t⟩ : Ls)).u) := ⟨by rw [cell_of_cells h7]; rfl, by rw [cell_of_cells h7]; rfl, by rw [cell_of_cells h7]; rfl⟩
    have r7 := HRV.out
    have z0 : V.cell? ⟨w.heap.size, 0, none⟩ = some (.int .i64 0) := by rw [cell_of_cells r7]; rfl
    have z1 : V.cell? ⟨w.heap.size, 1, none⟩ = some (.int .i64 0) := by rw [cell_of_cells r7]; rfl
    have z2 : V.cell? ⟨w.heap.size, 2, none⟩ = some (.int .i64 0) := by rw [cell_of_cells r7]; rfl
    have f0 := frozen_of_cells r7 0
    have f1 := frozen_of_cells r7 1
    have f2 := frozen_of_cells r7 2
    have HR7 := Lib.hid r7
    have HO7 := Lib.hid (HOV.out)
    have HI7 := Lib.hid (HZV.out)
    have HG7 := Lib.hid (HGV.out)
    clear h7 r7
    go_wp2
    go_region
    all_goals
      go_wp2
      have e1 := heap_set _ w.heap.size 2 (.int .i64 ((⟨ye.e, ye.o, ye.u + t⟩ : Ls)).u) (heap_set _ w.heap.size 1 (.int .i64 ((⟨ye.e, ye.o, ye.u + t⟩ : Ls)).o) (heap_set V w.heap.size 0 (.int .i64 ((⟨ye.e, ye.o, ye.u + t⟩ : Ls)).e) HR7.out))
      refine bodyPost_ret (results_tmp2_cell rfl _ _ w.heap.size _ #[.int .i64 ((⟨ye.e, ye.o, ye.u + t⟩ : Ls)).e, .int .i64 ((⟨ye.e, ye.o, ye.u + t⟩ : Ls)).o, .int .i64 ((⟨ye.e, ye.o, ye.u + t⟩ : Ls)).u] (0, 0) _ rfl e1 Try.underlying26 rfl (by kernel_rfl)) rfl ?_
      exact FIN.out _ _ HO7.out HI7.out HG7.out

/-! ### comparing, in the laws -/
theorem has_in (zs : List Int) (n : Int) : hasB zs n = inTo zs n zs.length := by
  rw [Bool.eq_iff_iff, hasB_iff, inTo_iff]
  refine ⟨fun h => ?_, fun ⟨i, hi, hv⟩ => by rw [← hv, gt_get hi]; exact List.getElem_mem hi⟩
  obtain ⟨i, hi, hv⟩ := List.mem_iff_getElem.1 h
  exact ⟨i, hi, by rw [gt_get hi]; exact hv⟩
theorem lhas_as (v : Bool) (a : Option Addr) (len cap : Nat) (zs : List Int) (n : Int) (w : World) (h : IntsAt w a zs) (hz : zs.length = len) (hm : len ≤ maxLen) (hv : inTo zs n zs.length = v) :
    Calls Try.prog 12 #[.slice a len cap, .int .i64 n] w fun e w' => e = .returned (.bool v) ∧ w = w' := by
  rw [← hv, ← has_in]; exact lhas_any a len cap zs n w h hz hm

set_option maxHeartbeats 1000000 in
theorem lold_any (x y : Ls) (w : World) :
    Calls Try.prog 13 #[.agg #[.int .i64 x.e, .int .i64 x.o, .int .i64 x.u], .agg #[.int .i64 y.e, .int .i64 y.o, .int .i64 y.u]] w fun e w' => e = .returned (.bool (ltB x y)) ∧ Below w.heap.size w w' := by
  have HB : Hid (∀ a b, Below w.heap.size w ((w.alloc a).alloc b)) := fun a b => ((Below.refl _ _).alloc (Nat.le_refl _) _).alloc (by simp) _
  obtain ⟨e, o, u⟩ := x
  obtain ⟨e', o', u'⟩ := y
  simp only at *
  by_cases h1 : e < e'
  · have He : Hid (ltB ⟨e, o, u⟩ ⟨e', o', u'⟩ = true) := by show _ = _; rw [ltB_iff]; exact .inl h1
    go_enter Try.func13, Try.ntmps13
    go_wp2
    go_ret
    exact ⟨ret_bool He.out.symm, HB.out _ _⟩
  cases h2 : (e == e')
  · have He : Hid (ltB ⟨e, o, u⟩ ⟨e', o', u'⟩ = false) := by show _ = _; rw [ltB_no]; simp at h2; simp; omega
    go_enter Try.func13, Try.ntmps13
    go_wp2
    go_ret
    exact ⟨ret_bool He.out.symm, HB.out _ _⟩
  · have He : Hid (ltB ⟨e, o, u⟩ ⟨e', o', u'⟩ = decide (o < o')) := by show _ = _; rw [Bool.eq_iff_iff, ltB_iff]; simp at h2; simp; omega
    cases h3 : decide (o < o')
    · go_enter Try.func13, Try.ntmps13
      go_wp2
      go_ret
      exact ⟨ret_bool (by rw [He.out, h3]), HB.out _ _⟩
    · go_enter Try.func13, Try.ntmps13
      go_wp2
      go_ret
      exact ⟨ret_bool (by rw [He.out, h3]), HB.out _ _⟩
theorem lold_as (v : Bool) (x y : Ls) (w : World) (hv : ltB x y = v) :
    Calls Try.prog 13 #[.agg #[.int .i64 x.e, .int .i64 x.o, .int .i64 x.u], .agg #[.int .i64 y.e, .int .i64 y.o, .int .i64 y.u]] w fun e w' => e = .returned (.bool v) ∧ Below w.heap.size w w' := by subst hv; exact lold_any x y w

set_option maxHeartbeats 1000000 in
theorem sameLs_same (a1 a2 : Option Addr) (len cap1 cap2 : Nat) (L : List Ls) (w : World) (h1 : LsAt w a1 L) (h2 : LsAt w a2 L) (hz : L.length = len) (hm : len ≤ 1048576) :
    Calls Try.prog 11 #[.slice a1 len cap1, .slice a2 len cap2] w fun e w' => e = .returned (.bool true) ∧ Same w w' := by
  have H1 := Lib.hid h1
  have H2 := Lib.hid h2
  have HZ := Lib.hid hz
  clear h1 h2 hz
  have hne : ((len : Int) != (len : Int)) = false := by simp
  have hgd : Try.prog.eqGuardType Try.prog.depth 26 = false := by kernel_rfl
  go_enter Try.func11, Try.ntmps11
  go_wp2
  go_loopw [5] (fun i wr => ∃ k : Nat, k ≤ len ∧ i = .int .i64 k ∧ Same w wr) (fun i _ => len - (intOf i).toNat)
  case atStart => exact ⟨0, by omega, rfl, Same.refl _⟩
  case round =>
    obtain ⟨k, hk, rfl, hs⟩ := hrel
    obtain ⟨wo, rfl⟩ : ∃ x, x = wr := ⟨_, rfl⟩
    by_cases hlt : k < len
    · have hkr : Hid (k < L.length) := by show k < L.length; rw [HZ.out]; exact hlt
      obtain ⟨b, off, rfl, hb0, hcells⟩ := (H1.out.same hs).at_ (i := k) hkr.out
      obtain ⟨hc0, hc1, hc2⟩ := hcells k hkr.out
      obtain ⟨b', off', rfl, hb0', hcells'⟩ := (H2.out.same hs).at_ (i := k) hkr.out
      obtain ⟨hd0, hd1, hd2⟩ := hcells' k hkr.out
      clear hcells hcells'
      have i0 : (0 : Int) ≤ (k : Int) := by omega
      have i1 : (k : Int) < (len : Int) := by omega
      go_wp2
      go_quiet (fail)
      go_wp2
      go_roundw
      case rel => exact ⟨k + 1, by omega, by go_num, hs.drewN _⟩
      case measure => simp [intOf]; omega
    · go_wp2
      go_ret
      exact ⟨rfl, hs⟩
end Go.Proofs.Ytcjlohikfjafiaa
