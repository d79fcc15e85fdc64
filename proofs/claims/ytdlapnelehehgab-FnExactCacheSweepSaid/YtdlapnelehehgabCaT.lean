/- slices.SortFunc, at a cache's entries, by key (at so few: the insertion sort). -/
import Derived.Test.YtdlapnelehehgabCaQ
import Derived.Test.YtdlapnelehehgabCaF
namespace Go.Proofs.Ytdlapnelehehgab
open Go.RowKit
set_option linter.unusedVariables false
attribute [local go_sem ↓] Go.wp_at_zero Go.wp_at_succ

/-- .. at the head of a loop -/
def SrtAt (base g c n : Nat) (R : List Ls) (w wr : World) (P : (Nat → Ls) → Prop) : Prop :=
  ∃ S, OwnS wr base g c S ∧ S.length = n ∧ S.Perm R ∧ P (gl S) ∧ w.grownBy wr (some g)
theorem toL_all (L : List Ls) : Heap.toL (gl L) L.length = L := by rw [toL_gl L _ (Nat.le_refl _), List.take_length]
theorem xch_perm {L : List Ls} {i j : Nat} (hi : i < L.length) (hj : j < L.length) : (xchL L i j).Perm L := by
  have h := Heap.sw_perm (gl L) hi hj
  have hf : Heap.sw (gl L) i j = gl (xchL L i j) := (funext fun k => xchL_gl hi hj k).symm
  rw [hf, toL_all] at h
  have := toL_all (xchL L i j)
  rw [xchL_len] at this
  rwa [this] at h
theorem kept_drewN {w wr w2 : World} {g : Nat} (h : w.grownBy wr (some g)) (hb : Below wr.heap.size wr w2) : w.grownBy w2 (some g) :=
  ⟨hb.os.trans h.os, hb.tape.trans h.tape, hb.output.trans h.output, Nat.le_trans h.size hb.size, fun k hk hne => (hb.block k (Nat.lt_of_lt_of_le hk h.size)).trans (h.block k hk hne)⟩

theorem grown_refl0 (w : World) (q : Option Nat) : w.grownBy w q := ⟨rfl, rfl, rfl, Nat.le_refl _, fun _ _ _ => rfl⟩
theorem grown_tr0 {a b c : World} {q : Option Nat} (h : a.grownBy b q) (k : b.grownBy c q) : a.grownBy c q :=
  ⟨k.os.trans h.os, k.tape.trans h.tape, k.output.trans h.output, Nat.le_trans h.size k.size, fun i hi hn => (k.block i (Nat.lt_of_lt_of_le hi h.size) hn).trans (h.block i hi hn)⟩
theorem srt_swap {base g c n q k j : Nat} {R S : List Ls} {x y : Ls} {w w2 : World} (ho : OwnS w2 base g c S) (hl : S.length = n) (hp : S.Perm R) (hs : SrtX (gl S) q k) (hg : w.grownBy w2 (some g)) (hkj : k = j + 1) (hkq : k ≤ q) (hkn : k < n)
    (hx : x = gl S k) (hy : y = gl S j) (hlt : x.e < y.e) :
    SrtAt base g c n R w ((((((((w2.setCell ⟨g, k * 3, none⟩ (.int .i64 y.e)).setCell ⟨g, k * 3 + 1, none⟩ (.int .i64 y.o)).setCell ⟨g, k * 3 + 2, none⟩ (.int .i64 y.u)).setCell ⟨g, j * 3, none⟩ (.int .i64 x.e)).setCell ⟨g, j * 3 + 1, none⟩ (.int .i64 x.o)).setCell ⟨g, j * 3 + 2, none⟩ (.int .i64 x.u)).drew)) (fun f => SrtX f q j) := by
  have hf : gl (xchL S k j) = Heap.sw (gl S) k j := funext fun i => xchL_gl (by omega) (by omega) i
  have h1 := ho.setAll (k := k) (by omega) y
  have h2 := h1.setAll (k := j) (by rw [List.length_set]; omega) x
  have hj : j = k - 1 := by omega
  refine ⟨xchL S k j, ?_, (xchL_len _ _ _).trans hl, (xch_perm (by omega) (by omega)).trans hp, ?_, ?_⟩
  · have h3 := h2.drew
    rw [hx, hy] at h3 ⊢
    exact h3
  · show SrtX (gl (xchL S k j)) q j
    rw [hf, hj]
    exact hs.step (by omega) hkq (by rw [← hj, ← hx, ← hy]; exact hlt)
  · exact grown_tr0 hg ((((((keptC _ _ _ _).trans (keptC _ _ _ _)).trans (keptC _ _ _ _)).trans (keptC _ _ _ _)).trans (keptC _ _ _ _)).trans (keptC _ _ _ _)).drew.grown

set_option maxRecDepth 20000 in
set_option maxHeartbeats 4000000 in
theorem ins_any (base g c n : Nat) (R : List Ls) (w : World) (h : OwnS w base g c R) (hn : R.length = n) (hl : n ≤ 6) :
    Calls Try.prog 53 #[.slice (some ⟨g, 0, none⟩) n c, .int .i64 0, .int .i64 n, .func (.func 40) #[] #[]] w fun e w' => e = .returned (.tuple #[]) ∧ SrtAt base g c n R w w' (fun f => Srt f n) := by
  have H0 : Hid (SrtAt base g c n R w w (fun f => Srt f 1)) := ⟨R, h, hn, List.Perm.refl _, fun p q hp hq => by omega, grown_refl0 _ _⟩
  clear h hn
  go_enter Try.func53, Try.ntmps53
  go_wp2
  go_loopw [8] (fun i wr => ∃ q : Nat, 1 ≤ q ∧ q ≤ 7 ∧ i = .int .i64 q ∧ SrtAt base g c n R w wr (fun f => Srt f q)) (fun i _ => 7 - (intOf i).toNat)
  case atStart => exact ⟨1, by omega, by omega, rfl, H0.out⟩
  case round =>
    obtain ⟨q, hq1, hq7, rfl, hs⟩ := hrel
    have HS := Lib.hid hs
    clear hs
    by_cases hqn : q < n
    · have H1 : Hid (SrtAt base g c n R w wr (fun f => SrtX f q q)) := by
        obtain ⟨S, h1, h2, h3, h4, h5⟩ := HS.out
        exact ⟨S, h1, h2, h3, SrtX.start h4, h5⟩
      have qn : (q : Int) < (n : Int) := by omega
      go_wp2
      go_loopw [9] (fun j wr2 => ∃ k : Nat, k ≤ q ∧ j = .int .i64 k ∧ SrtAt base g c n R w wr2 (fun f => SrtX f q k)) (fun j _ => (intOf j).toNat)
      case atStart => exact ⟨q, by omega, rfl, H1.out⟩
      case round =>
        obtain ⟨k, hk, rfl, hs2⟩ := hrel
        have HS2 := Lib.hid hs2
        obtain ⟨S, h1, h2, h3, h4, h5⟩ := hs2
        have HO := Lib.hid h1
        have HSL := Lib.hid h2
        have HP := Lib.hid h3
        have HX := Lib.hid h4
        have HG := Lib.hid h5
        clear h2 h3 h4 h5
        by_cases hk0 : k = 0
        · subst hk0
          have HR : Hid (SrtAt base g c n R w wr (fun f => Srt f (q + 1))) := ⟨S, HO.out, HSL.out, HP.out, SrtX.zero HX.out, HG.out⟩
          clear h1
          go_wp2_with fail
          refine wp_region_cls (Below wr.heap.size wr) (by kernel_rfl) (by kernel_rfl) below_drawn ?_
          repeat (go_big_quiet_step (fail))
          refine wpQuiet_nil ?_
          intro w2 hw'
          have hb2 := cls_out hw'
          clear hw'
          have HR2 : Hid (SrtAt base g c n R w w2 (fun f => Srt f (q + 1))) := by
            obtain ⟨S', r1, r2, r3, r4, r5⟩ := HR.out
            exact ⟨S', r1.keepB hb2 (Nat.le_refl _), r2, r3, r4, kept_drewN r5 hb2⟩
          go_wp2
          go_roundw
          case rel => exact ⟨q + 1, by omega, by omega, by go_num, HR2.out⟩
          case measure => simp [intOf]; omega
        · obtain ⟨j, hkj, hkj1⟩ : ∃ j : Nat, (k : Int) - 1 = (j : Int) ∧ k = j + 1 := ⟨k - 1, by omega, by omega⟩
          have HKJ := Lib.hid hkj1
          have k0 : (0 : Int) < (k : Int) := by omega
          have k1 : (0 : Int) ≤ (k : Int) := by omega
          have kd : decide ((0 : Int) < (k : Int)) = true := by simp; omega
          have kd2 : decide (0 < k) = true := by simp; omega
          have k2 : (k : Int) < (n : Int) := by omega
          have j1 : (0 : Int) ≤ (j : Int) := by omega
          have j2 : (j : Int) < (n : Int) := by omega
          have hjn : j < n := by omega
          have hkn : k < n := by omega
          have hkj2 : ¬ k = j := by omega
          have hkj3 : ¬ j = k := by omega
          clear hkj1 hk0
          have hgs := h1.blk.2.1
          obtain ⟨x0, x1, x2⟩ := h1.cells (i := k) (by rw [HSL.out]; exact hkn)
          obtain ⟨y0, y1, y2⟩ := h1.cells (i := j) (by rw [HSL.out]; exact hjn)
          obtain ⟨x, hx⟩ : ∃ x, x = gl S k := ⟨_, rfl⟩
          obtain ⟨y, hy⟩ : ∃ y, y = gl S j := ⟨_, rfl⟩
          rw [← hx] at x0 x1 x2
          rw [← hy] at y0 y1 y2
          have HXX := Lib.hid hx
          have HYY := Lib.hid hy
          have X0 := fun z : Cls (Below wr.heap.size wr) => (z.ok.cell (p := ⟨g, k * 3, none⟩) hgs).trans x0
          have X1 := fun z : Cls (Below wr.heap.size wr) => (z.ok.cell (p := ⟨g, k * 3 + 1, none⟩) hgs).trans x1
          have X2 := fun z : Cls (Below wr.heap.size wr) => (z.ok.cell (p := ⟨g, k * 3 + 2, none⟩) hgs).trans x2
          have Y0 := fun z : Cls (Below wr.heap.size wr) => (z.ok.cell (p := ⟨g, j * 3, none⟩) hgs).trans y0
          have Y1 := fun z : Cls (Below wr.heap.size wr) => (z.ok.cell (p := ⟨g, j * 3 + 1, none⟩) hgs).trans y1
          have Y2 := fun z : Cls (Below wr.heap.size wr) => (z.ok.cell (p := ⟨g, j * 3 + 2, none⟩) hgs).trans y2
          clear hx hy h1
          by_cases hlt : x.e < y.e
          · have HLT := Lib.hid hlt
            have hcm : Hid (cmI x.e y.e = -1) := by show _ = _; unfold cmI; rw [if_pos hlt]
            clear hlt x0 x1 x2 y0 y1 y2
            go_wp2_with fail
            refine wp_region_cls (Below wr.heap.size wr) (by kernel_rfl) (by kernel_rfl) below_drawn ?_
            repeat (go_big_quiet_step ((go_at_call 40; rename_i z; exact cls_below (ckey_as (-1) x y _ hcm.out) z.ok (Nat.le_refl _))))
            refine wpQuiet_nil ?_
            intro w2 hw'
            have hb2 := cls_out hw'
            clear hw' X0 X1 X2 Y0 Y1 Y2
            have HO2 := Lib.hid (HO.out.keepB hb2 (Nat.le_refl _))
            have HSW := Lib.hid (srt_swap HO2.out HSL.out HP.out HX.out (kept_drewN HG.out hb2) HKJ.out hk hkn HXX.out HYY.out HLT.out)
            obtain ⟨x0, x1, x2⟩ := HO2.out.cells (i := k) (by rw [HSL.out]; exact hkn)
            obtain ⟨y0, y1, y2⟩ := HO2.out.cells (i := j) (by rw [HSL.out]; exact hjn)
            rw [← HXX.out] at x0 x1 x2
            rw [← HYY.out] at y0 y1 y2
            obtain ⟨_, _, cs2, hbk, _⟩ := HO2.out.blk
            have f0 := frozen_of_cells hbk (k * 3)
            have f1 := frozen_of_cells hbk (k * 3 + 1)
            have f2 := frozen_of_cells hbk (k * 3 + 2)
            have e0 := frozen_of_cells hbk (j * 3)
            have e1 := frozen_of_cells hbk (j * 3 + 1)
            have e2 := frozen_of_cells hbk (j * 3 + 2)
            clear hbk
            go_wp2
            go_region
            all_goals
              clear x0 x1 x2 y0 y1 y2 f0 f1 f2 e0 e1 e2
              go_wp2
              go_roundw
              case rel => exact ⟨j, by omega, by go_num, HSW.out⟩
              case measure => simp [intOf]; omega
          · obtain ⟨v, hcm', hvn⟩ : ∃ v, cmI x.e y.e = v ∧ ¬ v < 0 := ⟨_, rfl, by unfold cmI; split <;> (try split) <;> omega⟩
            have hcm := Lib.hid hcm'
            have HR : Hid (SrtAt base g c n R w wr (fun f => Srt f (q + 1))) := ⟨S, HO.out, HSL.out, HP.out, SrtX.stop HX.out (by omega) hk (by rw [show k - 1 = j by have := HKJ.out; omega, ← HXX.out, ← HYY.out]; omega), HG.out⟩
            clear hcm' hlt x0 x1 x2 y0 y1 y2
            go_wp2_with fail
            refine wp_region_cls (Below wr.heap.size wr) (by kernel_rfl) (by kernel_rfl) below_drawn ?_
            repeat (go_big_quiet_step ((go_at_call 40; rename_i z; exact cls_below (ckey_as v x y _ hcm.out) z.ok (Nat.le_refl _))))
            refine wpQuiet_nil ?_
            intro w2 hw'
            have hb2 := cls_out hw'
            clear hw' X0 X1 X2 Y0 Y1 Y2
            have HR2 : Hid (SrtAt base g c n R w w2 (fun f => Srt f (q + 1))) := by
              obtain ⟨S', r1, r2, r3, r4, r5⟩ := HR.out
              exact ⟨S', r1.keepB hb2 (Nat.le_refl _), r2, r3, r4, kept_drewN r5 hb2⟩
            go_wp2
            go_roundw
            case rel => exact ⟨q + 1, by omega, by omega, by go_num, HR2.out⟩
            case measure => simp [intOf]; omega
    · have qn : ¬ (q : Int) < (n : Int) := by omega
      have HR : Hid (SrtAt base g c n R w wr (fun f => Srt f n)) := by
        obtain ⟨S, h1, h2, h3, h4, h5⟩ := HS.out
        exact ⟨S, h1, h2, h3, fun p r hp hr => h4 p r hp (by omega), h5⟩
      go_wp2
      go_returns
      exact ⟨rfl, HR.out⟩

set_option maxRecDepth 20000 in
set_option maxHeartbeats 4000000 in
theorem pdq_any (base g c n : Nat) (lim : Int) (R : List Ls) (w : World) (h : OwnS w base g c R) (hn : R.length = n) (hl : n ≤ 6) :
    Calls Try.prog 48 #[.slice (some ⟨g, 0, none⟩) n c, .int .i64 0, .int .i64 n, .int .i64 lim, .func (.func 40) #[] #[]] w fun e w' => e = .returned (.tuple #[]) ∧ SrtAt base g c n R w w' (fun f => Srt f n) := by
  have HO := Lib.hid h
  have HN := Lib.hid hn
  have n12 : (n : Int) ≤ 12 := by omega
  clear h hn
  go_enter Try.func48, Try.ntmps48
  go_wp2
  go_loopw [1, 2, 3, 10, 11] (fun a b l _ _ wr => a = .int .i64 0 ∧ b = .int .i64 n ∧ l = .int .i64 lim ∧ wr = w) (fun _ _ _ _ _ _ => 0)
  case atStart => exact ⟨rfl, rfl, rfl, rfl⟩
  case round =>
    obtain ⟨rfl, rfl, rfl, rfl⟩ := hrel
    go_wp2_with fail
    refine (ins_any base g c n R wr HO.out HN.out hl).mono ?_
    rintro e w2 ⟨rfl, hs⟩
    have HS := Lib.hid hs
    clear hs
    go_wp2
    go_returns
    exact ⟨rfl, HS.out⟩

set_option maxRecDepth 40000 in
set_option maxHeartbeats 2000000 in
theorem bitlen_any (n : Nat) (hn : n ≤ 6) (w : World) :
    Calls Try.prog 62 #[.int .u64 n] w fun e w' => ∃ v, e = .returned (.int .i64 v) ∧ w = w' := by
  go_enter Try.func62, Try.ntmps62
  have h : n = 0 ∨ n = 1 ∨ n = 2 ∨ n = 3 ∨ n = 4 ∨ n = 5 ∨ n = 6 := by omega
  rcases h with rfl | rfl | rfl | rfl | rfl | rfl | rfl
  all_goals
    go_wp2
    go_ret
    exact ⟨_, rfl, rfl⟩
set_option maxHeartbeats 400000 in
theorem blen_any (n : Nat) (hn : n ≤ 6) (w : World) :
    Calls Try.prog 49 #[.int .u64 n] w fun e w' => ∃ v, e = .returned (.int .i64 v) ∧ w = w' := by
  go_enter Try.func49, Try.ntmps49
  go_wp2_with fail
  refine (bitlen_any n hn w).mono ?_
  rintro e w2 ⟨v, rfl, rfl⟩
  go_wp2
  go_ret
  exact ⟨_, rfl, rfl⟩

set_option maxHeartbeats 1000000 in
theorem sort_any (base g c n : Nat) (R : List Ls) (w : World) (h : OwnS w base g c R) (hn : R.length = n) (hl : n ≤ 6) :
    Calls Try.prog 39 #[.slice (some ⟨g, 0, none⟩) n c, .func (.func 40) #[] #[]] w fun e w' => e = .returned (.tuple #[]) ∧ SrtAt base g c n R w w' (fun f => Srt f n) := by
  have HO := Lib.hid h
  have HN := Lib.hid hn
  clear h hn
  have hw : IntKind.u64.wrap (n : Int) = (n : Int) := by rw [IntKind.wrap_u64]; omega
  go_enter Try.func39, Try.ntmps39
  go_wp2_with fail
  refine (blen_any n hl w).mono ?_
  rintro e w2 ⟨v, rfl, rfl⟩
  go_wp2_with fail
  refine (pdq_any base g c n v R w HO.out HN.out hl).mono ?_
  rintro e w3 ⟨rfl, hs⟩
  have HS := Lib.hid hs
  clear hs
  go_wp2
  go_returns
  exact ⟨rfl, HS.out⟩
end Go.Proofs.Ytdlapnelehehgab
