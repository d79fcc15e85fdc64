/- Trees of sums: the model's SumsDiffer. -/
import Derived.Test.YtkpfpnmokknbaaaSmS3
namespace Go.Proofs.Ytkpfpnmokknbaaa
open Go.RowKit
set_option linter.unusedVariables false

attribute [local go_sem ↓] Go.wp_at_zero Go.wp_at_succ

theorem OwnI.keepG {w w' : World} {base g cap : Nat} {zs : List Int} (h : OwnI w base (some ⟨g, 0, none⟩) cap zs) (e : w'.heap[g]? = w.heap[g]?) : OwnI w' base (some ⟨g, 0, none⟩) cap zs := by
  refine ⟨h.1, ?_⟩
  rcases h.2 with ⟨hn, _⟩ | ⟨g', cap', cur, hv, hb, hg, rest⟩
  · cases hn
  · injection hv with ha hl hc; injection ha with ha; injection ha with ha; subst ha
    exact .inr ⟨g, cap', cur, by rw [hl, hc], hb, by rw [e]; exact hg, rest⟩
theorem infoBool : (Try.prog.info? 4).map (fun i => (i.zero, i.size, i.bytes)) = some (some (.bool false), 1, 1) := by kernel_rfl
theorem made_no : madeCells #[.bool false] 31 = boolsT (fun _ => false) := by kernel_rfl

set_option maxHeartbeats 4000000 in
theorem ssumsdiffer_any (a1 a2 : Option Addr) (l1 c1 l2 c2 : Nat) (xs ys : List Int) (w : World) (h1 : IntsAt w a1 xs) (hz1 : xs.length = l1) (hm1 : l1 ≤ maxLen) (hc1 : l1 ≤ c1) (h2 : IntsAt w a2 ys) (hz2 : ys.length = l2) (hm2 : l2 ≤ maxLen) (hc2 : l2 ≤ c2) :
    Calls Try.prog 24 #[.slice a1 l1 c1, .slice a2 l2 c2] w (NewIntsN (dfL xs ys) (dfN xs ys) w) := by
  have H1 := Lib.hid h1
  have H2 := Lib.hid h2
  have HZ1 := Lib.hid hz1
  have HZ2 := Lib.hid hz2
  have HM1 := Lib.hid hm1
  have HM2 := Lib.hid hm2
  have HC1 := Lib.hid hc1
  have HC2 := Lib.hid hc2
  have HB0 : Hid (Below w.heap.size w (w.alloc (.cells #[] 3))) := (Below.refl _ _).alloc (Nat.le_refl _) _
  have HO0 : Hid (OwnI (w.alloc (.cells #[] 3)) w.heap.size (some ⟨w.heap.size, 0, none⟩) 0 []) := by
    show OwnI _ _ _ _ _
    obtain ⟨g, c, he, ho, hb⟩ := sofar_new w #[] rfl
    injection he with he hl hc
    injection he with he
    injection he with he
    subst he
    subst hc
    exact ho
  clear h1 h2 hm1 hm2 hc1 hc2
  rcases bcase (treeB xs) with hv1 | hv1
  · rcases bcase (treeB ys) with hv2 | hv2
    · have HV1 := Lib.hid hv1
      have HV2 := Lib.hid hv2
      have HL : Hid (dfL xs ys = outL (dff xs ys) 31) := by show _ = _; simp [dfL, dfB, hv1, hv2]
      have HN : Hid (dfN xs ys = ((cnt (opn (dff xs ys)) 31 : Nat) : Int)) := by show _ = _; simp [dfN, dfB, hv1, hv2]
      obtain rfl : l1 = 31 := by rw [← hz1]; exact (treeB_yes hv1).1
      obtain rfl : l2 = 31 := by rw [← hz2]; exact (treeB_yes hv2).1
      clear hv1 hv2 hz1 hz2
      have hs1 : ∃ b off, a1 = some ⟨b, off, none⟩ ∧ b < w.heap.size ∧ ∀ i, i < 31 → w.cell? ⟨b, off + i, none⟩ = some (.int .i64 (gt xs i)) := by
        rcases H1.out with h0 | ⟨b, off, ha, hb, hc⟩
        · have := HZ1.out; rw [h0] at this; simp at this
        · exact ⟨b, off, ha, hb, fun i hi => hc i (by rw [HZ1.out]; exact hi)⟩
      have hs2 : ∃ b off, a2 = some ⟨b, off, none⟩ ∧ b < w.heap.size ∧ ∀ i, i < 31 → w.cell? ⟨b, off + i, none⟩ = some (.int .i64 (gt ys i)) := by
        rcases H2.out with h0 | ⟨b, off, ha, hb, hc⟩
        · have := HZ2.out; rw [h0] at this; simp at this
        · exact ⟨b, off, ha, hb, fun i hi => hc i (by rw [HZ2.out]; exact hi)⟩
      obtain ⟨b1, o1, rfl, hb1w, hcx⟩ := hs1
      obtain ⟨b2, o2, rfl, hb2w, hcy⟩ := hs2
      have HB1W := Lib.hid hb1w
      have HB2W := Lib.hid hb2w
      have HCX := Lib.hid hcx
      have HCY := Lib.hid hcy
      clear hcx hcy hb1w hb2w
      have hmk : ∀ w : World, (Instr.makeSlice 53 (.int .i64 31) (.int .i64 31)).run Try.prog w = .ok (.slice (some ⟨w.heap.size, 0, none⟩) 31 31) (w.alloc (.cells (madeCells #[.bool false] 31) 4)) := fun w => run_make_row' (P := Try.prog) 53 4 (.bool false) 1 Try.underlying53 infoBool rfl .i64 .i64 31 (by omega) (by omega) w
      rw [made_no] at hmk
      go_enter Try.func24, Try.ntmps24
      go_wp2_with fail
      refine (stree_as true (some ⟨b1, o1, none⟩) 31 c1 xs _ (H1.out.keepB HB0.out (Nat.le_refl _)) HZ1.out HM1.out HC1.out HV1.out).mono ?_
      rintro e w1 ⟨rfl, hb1⟩
      have HB1 : Hid (Below (w.alloc (.cells #[] 3)).heap.size (w.alloc (.cells #[] 3)) w1) := hb1
      clear hb1
      go_wp2_with fail
      refine (stree_as true (some ⟨b2, o2, none⟩) 31 c2 ys w1 (H2.out.keepB (HB0.out.trans (HB1.out.mono (by simp))) (Nat.le_refl _)) HZ2.out HM2.out HC2.out HV2.out).mono ?_
      rintro e w2 ⟨rfl, hb2⟩
      have HB2 : Hid (Below (w.alloc (.cells #[] 3)).heap.size (w.alloc (.cells #[] 3)) w2) := HB1.out.trans (hb2.mono HB1.out.size)
      have hsz2 : w.heap.size < w2.heap.size := by have := HB2.out.size; simp at this; omega
      have HSZ2 := Lib.hid hsz2
      clear hb2 hsz2
      have hfz2 : (w2.alloc (.cells (boolsT fun _ => false) 4)).frozen? ⟨w2.heap.size, 0, none⟩ = false := frozen_of_cells (heap_alloc_new w2 _) 0
      have hcz2 : (w2.alloc (.cells (boolsT fun _ => false) 4)).cell? ⟨w2.heap.size, 0, none⟩ = some (.bool false) := by rw [cell_of_cells (heap_alloc_new w2 _)]; exact boolsT_get _ (by omega)
      go_wp2
      clear hmk hfz2 hcz2
      rw [boolsT_set]
      have hD4 : Hid ((w2.alloc (.cells (boolsT (fun j => if j = 0 then true else false)) 4)).heap[w2.heap.size]? = some (.cells (boolsT (dueAt (dff xs ys) 0)) 4 (0, 0))) := by
        show _ = _
        have := heap_alloc_new w2 (.cells (boolsT (fun j => if j = 0 then true else false)) 4)
        rw [this, boolsT_congr (g := dueAt (dff xs ys) 0) (fun j hj => by rw [due_start]; by_cases h : j = 0 <;> simp [h])]
      have hO4 : Hid (OwnI (w2.alloc (.cells (boolsT (fun j => if j = 0 then true else false)) 4)) w.heap.size (some ⟨w.heap.size, 0, none⟩) 0 (outL (dff xs ys) 0)) :=
        (HO0.out.keepB HB2.out (Nat.le_refl _)).keepG (Below.heap_alloc w2 _ _ HSZ2.out)
      have HB4 : Hid (Below w.heap.size w (w2.alloc (.cells (boolsT (fun j => if j = 0 then true else false)) 4))) := (HB0.out.trans (HB2.out.mono (by simp))).alloc (by have := HSZ2.out; omega) _
      have hne0 : ¬ w.heap.size = w2.heap.size := by have := HSZ2.out; omega
      have HNE0 := Lib.hid hne0
      clear hne0
      go_loopw [6, 7, 9] (fun o n i wr => ∃ (k g cap : Nat), k ≤ 31 ∧ i = .int .i64 k ∧ n = .int .i64 (cnt (opn (dff xs ys)) k : Nat) ∧ o = .slice (some ⟨g, 0, none⟩) (outL (dff xs ys) k).length cap ∧ OwnI wr w.heap.size (some ⟨g, 0, none⟩) cap (outL (dff xs ys) k) ∧ ¬ g = w2.heap.size ∧ wr.heap[w2.heap.size]? = some (.cells (boolsT (dueAt (dff xs ys) k)) 4 (0, 0)) ∧ Below w.heap.size w wr) (fun _ _ i _ => 31 - (intOf i).toNat)
      case atStart => exact ⟨0, w.heap.size, 0, by omega, rfl, rfl, rfl, hO4.out, HNE0.out, hD4.out, HB4.out⟩
      case round =>
        obtain ⟨k, g, cap, hk, rfl, rfl, rfl, ho, hgn, hd5, hb5⟩ := hrel
        have hgl := ho.lt
        have hcn : cnt (opn (dff xs ys)) k ≤ 31 := by have := cnt_le (opn (dff xs ys)) k; omega
        have hll : (outL (dff xs ys) k).length ≤ 31 := by have := outL_len_le (dff xs ys) k; omega
        have hdl := heap_lt hd5
        have HQ : Hid (∀ n, OwnI (wr.drewN n) w.heap.size (some ⟨g, 0, none⟩) cap (outL (dff xs ys) k) ∧ (wr.drewN n).heap[w2.heap.size]? = some (.cells (boolsT (dueAt (dff xs ys) k)) 4 (0, 0)) ∧ Below w.heap.size w (wr.drewN n) ∧ (wr.drewN n).heap.size = wr.heap.size) := fun n =>
          ⟨ho.keepG rfl, hd5, hb5.trans (Same.below ⟨n, rfl⟩ _), rfl⟩
        have HO := Lib.hid ho
        have HD5 := Lib.hid hd5
        have HB5 := Lib.hid hb5
        have HGN := Lib.hid hgn
        have HDL := Lib.hid hdl
        have HGL := Lib.hid hgl
        obtain ⟨d, hd⟩ : ∃ d, d = dff xs ys := ⟨_, rfl⟩
        have HDD := Lib.hid hd
        rw [← hd] at HO hcn hll HD5 HQ ⊢
        clear ho hd5 hb5 hd hgn hdl hgl
        obtain ⟨c, hc⟩ : ∃ c, c = cnt (opn d) k := ⟨_, rfl⟩
        obtain ⟨L, hL⟩ : ∃ L, L = outL d k := ⟨_, rfl⟩
        rw [← hc] at hcn ⊢
        rw [← hL] at HO hll HQ ⊢
        have HCE := Lib.hid hc
        have HLE := Lib.hid hL
        clear hc hL
        by_cases hlt : k < 31
        · have hcx : wr.cell? ⟨b1, o1 + k, none⟩ = some (.int .i64 (gt xs k)) := (HB5.out.cell (p := ⟨b1, o1 + k, none⟩) HB1W.out).trans (HCX.out k hlt)
          have hcy : wr.cell? ⟨b2, o2 + k, none⟩ = some (.int .i64 (gt ys k)) := (HB5.out.cell (p := ⟨b2, o2 + k, none⟩) HB2W.out).trans (HCY.out k hlt)
          have hcd : wr.cell? ⟨w2.heap.size, k, none⟩ = some (.bool (opn d k)) := by rw [cell_of_cells HD5.out, boolsT_get _ hlt, due_now]
          obtain ⟨x, hx⟩ : ∃ x, x = gt xs k := ⟨_, rfl⟩
          obtain ⟨y, hy⟩ : ∃ y, y = gt ys k := ⟨_, rfl⟩
          rw [← hx] at hcx
          rw [← hy] at hcy
          have hdk : d k = !(x == y) := by rw [HDD.out, dff, hx, hy]
          clear hx hy
          have hlt' : (k : Int) < 31 := by omega
          have h0' : (0 : Int) ≤ (k : Int) := by omega
          rcases bcase (opn d k) with hop | hop
          · rw [hop] at hcd
            rcases bcase (x == y) with hxy | hxy
            · rw [hxy] at hdk
              have hout : outP d k = false := by simp [outP, hdk]
              have E1 : Hid (((c : Int) + 1) = ((cnt (opn d) (k + 1) : Nat) : Int)) := by show _ = _; rw [HCE.out, cnt, hop]; simp
              have E2 : Hid (L = outL d (k + 1)) := by show _ = _; rw [outL_no hout, HLE.out]
              have E3 : Hid (boolsT (dueAt d (k + 1)) = boolsT (dueAt d k)) := boolsT_congr (fun j hj => due_no hj (by rw [hdk]; simp))
              clear hdk hop hout
              go_wp2
              go_quiet (fail)
              go_wp2
              go_roundw
              case rel =>
                obtain ⟨q1, q2, q3, _⟩ := HQ.out nq
                exact ⟨k + 1, g, cap, by omega, by go_num, by rw [← E1.out], by rw [← E2.out], by rw [← E2.out]; exact q1, HGN.out, by rw [E3.out]; exact q2, q3⟩
              case measure => simp [intOf]; omega
            · rw [hxy] at hdk
              by_cases h15 : k < 15
              · have hout : outP d k = false := by simp [outP]; omega
                have E1 : Hid (((c : Int) + 1) = ((cnt (opn d) (k + 1) : Nat) : Int)) := by show _ = _; rw [HCE.out, cnt, hop]; simp
                have E2 : Hid (L = outL d (k + 1)) := by show _ = _; rw [outL_no hout, HLE.out]
                have E3 : Hid (∀ j, j < 31 → (if j = 2 * k + 2 then true else if j = 2 * k + 1 then true else dueAt d k j) = dueAt d (k + 1) j) := fun j hj => (due_yes hj (by rw [hop, hdk]; rfl)).symm
                clear hdk hop hout
                have h15' : (k : Int) < 15 := by omega
                go_wp2
                go_quiet (fail)
                obtain ⟨q1, q2, q3, q4⟩ := HQ.out nq
                generalize wr.drewN nq = wq at *
                have hc1 : wq.cell? ⟨w2.heap.size, 2 * k + 1, none⟩ = some (.bool (dueAt d k (2 * k + 1))) := by rw [cell_of_cells q2, boolsT_get _ (by omega)]
                have hf1 : wq.frozen? ⟨w2.heap.size, 2 * k + 1, none⟩ = false := frozen_of_cells q2 _
                have hs1 := heap_set wq w2.heap.size (2 * k + 1) (.bool true) q2
                rw [boolsT_set] at hs1
                have hc2 : (wq.setCell ⟨w2.heap.size, 2 * k + 1, none⟩ (.bool true)).cell? ⟨w2.heap.size, 2 * k + 2, none⟩ = some (.bool (dueAt d k (2 * k + 2))) := by rw [cell_of_cells hs1, boolsT_get _ (by omega), if_neg (by omega)]
                have hf2 : (wq.setCell ⟨w2.heap.size, 2 * k + 1, none⟩ (.bool true)).frozen? ⟨w2.heap.size, 2 * k + 2, none⟩ = false := frozen_of_cells hs1 _
                have HS1 := Lib.hid hs1
                have Q1 := Lib.hid q1
                have Q3 := Lib.hid q3
                obtain ⟨u1, hu1⟩ : ∃ b, b = dueAt d k (2 * k + 1) := ⟨_, rfl⟩
                obtain ⟨u2, hu2⟩ : ∃ b, b = dueAt d k (2 * k + 2) := ⟨_, rfl⟩
                rw [← hu1] at hc1
                rw [← hu2] at hc2
                clear hs1 hu1 hu2 q1 q2 q3 q4
                go_wp2
                go_roundw
                case rel =>
                  refine ⟨k + 1, g, cap, by omega, by go_num, by rw [← E1.out], by rw [← E2.out], ?_, HGN.out, ?_, ?_⟩
                  · rw [← E2.out]
                    exact Q1.out.keepG (by rw [heap_set_ne _ _ _ _ _ HGN.out, heap_set_ne _ _ _ _ _ HGN.out])
                  · rw [heap_set _ _ _ _ HS1.out, boolsT_set]
                    rw [boolsT_congr E3.out]
                  · exact (Q3.out.setCell (by have := HSZ2.out; show _ ≤ w2.heap.size; omega) _).setCell (by have := HSZ2.out; show _ ≤ w2.heap.size; omega) _
                case measure => simp [intOf]; omega
              · have hout : outP d k = true := by simp [outP, hop, hdk]; omega
                have E1 : Hid (((c : Int) + 1) = ((cnt (opn d) (k + 1) : Nat) : Int)) := by show _ = _; rw [HCE.out, cnt, hop]; simp
                have E2 : Hid (L ++ [((k : Nat) : Int) - 15] = outL d (k + 1)) := by show _ = _; rw [outL_yes hout, HLE.out]
                have E3 : Hid (boolsT (dueAt d (k + 1)) = boolsT (dueAt d k)) := boolsT_congr (fun j hj => due_leaf hj (by omega))
                have hlen31 := Lib.hid hll
                clear hdk hop hout hll
                have h15' : (15 : Int) ≤ (k : Int) := by omega
                have h16 : (k : Int) - 16 + 1 = (k : Int) - 15 := by omega
                go_wp2
                go_quiet (fail)
                obtain ⟨q1, q2, q3, q4⟩ := HQ.out nq
                have hs0 : w.heap.size ≤ (wr.drewN nq).heap.size := q3.size
                have HOW : Hid ((wr.drewN nq).ownsRow w.heap.size 3 1 (.slice (some ⟨g, 0, none⟩) L.length cap) L.length (vals L)) := q1
                have HDQ : Hid (w2.heap.size < (wr.drewN nq).heap.size) := heap_lt q2
                generalize wr.drewN nq = wq at *
                have Q2 := Lib.hid q2
                have Q3 := Lib.hid q3
                clear q1 q2 q3 q4
                go_wp2_with (at_builtin; refine wl_app _ (by rfl) _ _ (by rfl) w.heap.size g L.length cap (vals L) (by rfl) (HOW.out.alloc _) ⟨wq.heap.size, 0, none⟩ 1 1 [.int .i64 ((k : Int) - 15)] (by rfl) rfl (src_one (heap_alloc_new wq _)) (by simp [Value.oneCell']) (L.length + 1) (vals (L ++ [(k : Int) - 15])) rfl (by simp [vals]) (by have := hlen31.out; omega) (by simp; omega) ?_; intro g5 cap5 w5 hown5 hg5 hat5; have HO5 := Lib.hid hown5; have HG5 := Lib.hid hg5; have HAT5 := Lib.hid hat5; clear hown5 hg5 hat5)
                go_roundw
                case rel =>
                  obtain ⟨_, _, _, _, hkp⟩ := HG5.out
                  refine ⟨k + 1, g5, cap5, by omega, by go_num, by rw [← E1.out], by rw [← E2.out, List.length_append]; rfl, ?_, ?_, ?_, ?_⟩
                  · rw [← E2.out]; unfold OwnI; rw [List.length_append]; exact HO5.out
                  · rcases HAT5.out with e | e
                    · rw [e]; exact HGN.out
                    · rw [e]; have := HDQ.out; simp; omega
                  · rw [E3.out]
                    exact ((hkp _ (by have := HDQ.out; simp; omega) (by intro e; injection e with e; exact HGN.out e.symm)).trans (Below.heap_alloc wq _ _ HDQ.out)).trans Q2.out
                  · exact (Q3.out.alloc Q3.out.size _).grown HG5.out (by have := Q3.out.size; simp; omega) (fun q hq => by injection hq with hq; have := HGL.out; omega)
                case measure => simp [intOf]; omega
          · rw [hop] at hcd
            have hout : outP d k = false := by simp [outP, hop]
            have E1 : Hid (c = cnt (opn d) (k + 1)) := by show _ = _; rw [HCE.out, cnt, hop]; simp
            have E2 : Hid (L = outL d (k + 1)) := by show _ = _; rw [outL_no hout, HLE.out]
            have E3 : Hid (boolsT (dueAt d (k + 1)) = boolsT (dueAt d k)) := boolsT_congr (fun j hj => due_no hj (by rw [hop, Bool.false_and]))
            clear hdk hop hout
            go_wp2
            go_roundw
            case rel => exact ⟨k + 1, g, cap, by omega, by go_num, by rw [← E1.out], by rw [← E2.out], by rw [← E2.out]; exact HO.out, HGN.out, by rw [E3.out]; exact HD5.out, HB5.out⟩
            case measure => simp [intOf]; omega
        · have hkl : k = 31 := by omega
          have HK := Lib.hid hkl
          clear hkl
          go_wp2
          go_ret2
          refine ⟨g, cap, ?_, ?_, HB5.out⟩
          · rw [HL.out, HN.out, ← HDD.out, ← HK.out, ← HLE.out, ← HCE.out]; rfl
          · rw [HL.out, ← HDD.out, ← HK.out, ← HLE.out]
            exact HO.out
    · have HV1 := Lib.hid hv1
      have HV2 := Lib.hid hv2
      have HL : Hid (dfL xs ys = []) := by show _ = _; simp [dfL, dfB, hv2]
      have HN : Hid (dfN xs ys = -1) := by show _ = _; simp [dfN, dfB, hv2]
      clear hv1 hv2 hz1 hz2
      go_enter Try.func24, Try.ntmps24
      go_wp2_with fail
      refine (stree_as true a1 l1 c1 xs _ (H1.out.keepB HB0.out (Nat.le_refl _)) HZ1.out HM1.out HC1.out HV1.out).mono ?_
      rintro e w1 ⟨rfl, hb1⟩
      have HB1 : Hid (Below (w.alloc (.cells #[] 3)).heap.size (w.alloc (.cells #[] 3)) w1) := hb1
      clear hb1
      go_wp2_with fail
      refine (stree_as false a2 l2 c2 ys w1 (H2.out.keepB (HB0.out.trans (HB1.out.mono (by simp))) (Nat.le_refl _)) HZ2.out HM2.out HC2.out HV2.out).mono ?_
      rintro e w2 ⟨rfl, hb2⟩
      have HB2 : Hid (Below (w.alloc (.cells #[] 3)).heap.size (w.alloc (.cells #[] 3)) w2) := HB1.out.trans (hb2.mono HB1.out.size)
      clear hb2
      go_wp2
      go_ret2
      rw [HL.out, HN.out]
      exact ⟨w.heap.size, 0, rfl, HO0.out.keepB HB2.out (Nat.le_refl _), HB0.out.trans (HB2.out.mono (by simp))⟩
  · have HV1 := Lib.hid hv1
    have HL : Hid (dfL xs ys = []) := by show _ = _; simp [dfL, dfB, hv1]
    have HN : Hid (dfN xs ys = -1) := by show _ = _; simp [dfN, dfB, hv1]
    clear hv1 hz1 hz2
    go_enter Try.func24, Try.ntmps24
    go_wp2_with fail
    refine (stree_as false a1 l1 c1 xs _ (H1.out.keepB HB0.out (Nat.le_refl _)) HZ1.out HM1.out HC1.out HV1.out).mono ?_
    rintro e w1 ⟨rfl, hb1⟩
    have HB1 : Hid (Below (w.alloc (.cells #[] 3)).heap.size (w.alloc (.cells #[] 3)) w1) := hb1
    clear hb1
    go_wp2
    go_ret2
    rw [HL.out, HN.out]
    exact ⟨w.heap.size, 0, rfl, HO0.out.keepB HB1.out (Nat.le_refl _), HB0.out.trans (HB1.out.mono (by simp))⟩

end Go.Proofs.Ytkpfpnmokknbaaa
