/- The walks of the exact laws of rings. -/
import Derived.Test.YtihkpofdpjkegaaMarkR
import Derived.Test.YtihkpofdpjkegaaNet2
namespace Go.Proofs.Ytihkpofdpjkegaa
open Go.RowKit
set_option linter.unusedVariables false

theorem small_max {r : List Nd} (h : szR r ≤ 1048576) : r.length ≤ maxLen := by unfold maxLen; have := (small_of h).1; omega
theorem OwnI.blk {w : World} {base g cap : Nat} {zs : List Int} (h : OwnI w base (some ⟨g, 0, none⟩) cap zs) : ∃ cs, w.heap[g]? = some (.cells cs 3 (0, 0)) ∧ zs.length ≤ cs.size := by
  rcases h.2 with ⟨hn, _⟩ | ⟨g', cap', cur, hv, hb, hg, hnc, _, hs, _⟩
  · cases hn
  · injection hv with hv _ hc; injection hv with hv; injection hv with hv; subst hv; exact ⟨cur, hg, by omega⟩
theorem IntsAt.blk {w w' : World} {g : Nat} {zs : List Int} (h : IntsAt w (some ⟨g, 0, none⟩) zs) (e : w'.heap[g]? = w.heap[g]?) : IntsAt w' (some ⟨g, 0, none⟩) zs := by
  rcases h with h0 | ⟨b, off, ha, hlt, hc⟩
  · exact .inl h0
  · injection ha with ha; injection ha with ha ho; subst ha ho
    refine .inr ⟨g, 0, rfl, ?_, fun i hi => (World.cell?_of_block (w := w) e).trans (hc i hi)⟩
    rw [Array.getElem?_eq_getElem hlt] at e
    exact heap_lt e
theorem MarkTo.ints {w w' : World} {g len : Nat} {k : Int} (h : MarkTo w g len k len w') : IntsAt w' (some ⟨g, 0, none⟩) (markI k len) := by
  obtain ⟨_, cs, hb, _, hc⟩ := h
  exact .inr ⟨g, 0, rfl, heap_lt hb, fun i hi => by rw [markI_len] at hi; rw [Nat.zero_add, cell_of_cells hb, hc i hi, markI_gt _ hi]⟩
theorem ids_small {r : List Nd} (h : szR r ≤ 1048576) : (idsV r).length ≤ 1048576 := by
  have := (small_of h).1
  unfold idsV; split
  · rw [ids_len]; exact this
  · simp
theorem pr_small {r : List Nd} (h : szR r ≤ 1048576) : (prV r).length ≤ 1048576 := by
  have := (small_of h).1
  have := prTo_len r r.length
  unfold prV prL; split
  · omega
  · simp


set_option maxHeartbeats 2000000 in
theorem exRingSafe (a : Option Addr) (len cap : Nat) (r : List Nd) (w : World) (h : RingAt w a r) (hz : r.length = len) (hm : len ≤ maxLen) :
    Calls Try.prog 11 #[.slice a len cap] w fun e w' => e = .returned (.bool true) ∧ Below w.heap.size w w' := by
  have HI := Lib.hid h
  have HZ := Lib.hid hz
  have HM := Lib.hid hm
  clear h hz hm
  go_enter Try.func11, Try.ntmps11
  go_wp2_with fail
  refine (szNodes_any a len cap r w HI.out HZ.out HM.out).mono ?_
  rintro e w1 ⟨z, rfl, hzz, hb1⟩
  rcases hzz with ⟨hsz, rfl⟩ | ⟨_, rfl⟩
  rotate_left
  · go_wp2
    go_ret
    exact ⟨rfl, hb1⟩
  have HSZ := Lib.hid hsz
  have hd : decide ((1048576 : Int) - (szR r : Int) < 0) = false := by simp; omega
  clear hsz
  go_wp2_with fail
  clear hd
  refine (toNodes_any a len cap r w1 (HI.out.keepB hb1 (Nat.le_refl _)) HZ.out (small_of HSZ.out)).mono ?_
  rintro e w2 ⟨rfl, ⟨F2, ho2⟩, hb2⟩
  have hB2 : Below w.heap.size w w2 := hb1.trans (hb2.mono hb1.size)
  have HO2 := Lib.hid ho2
  clear ho2
  go_wp2_with fail
  refine (ssafe_any _ _ _ r w2 HO2.out.ring rfl (small_max HSZ.out)).mono ?_
  rintro e w3 ⟨rfl, hb3⟩
  have hB3 : Below w.heap.size w w3 := hB2.trans (hb3.mono hB2.size)
  go_wp2_with fail
  refine (toNodes_any a len cap r w3 (HI.out.keepB hB3 (Nat.le_refl _)) HZ.out (small_of HSZ.out)).mono ?_
  rintro e w4 ⟨rfl, ⟨F4, ho4⟩, hb4⟩
  have hB4 : Below w.heap.size w w4 := hB3.trans (hb4.mono hB3.size)
  have HO4 := Lib.hid ho4
  clear ho4
  go_wp2_with fail
  refine (rsafe_any _ _ _ _ r w4 HO4.out.ring rfl (small_max HSZ.out) rfl).mono ?_
  rintro e w5 ⟨rfl, hb5⟩
  have hB5 : Below w.heap.size w w5 := hB4.trans (hb5.mono hB4.size)
  have hx5 : RingAt w5 (some ⟨w3.heap.size, 0, none⟩) r := HO4.out.ring.keepB hb5 (Nat.le_refl _)
  have HX5 := Lib.hid hx5
  clear hx5
  have hv : (!safeB r == safeB r) = false := by simp
  go_wp2_with fail
  refine (toNodes_any a len cap r w5 (HI.out.keepB hB5 (Nat.le_refl _)) HZ.out (small_of HSZ.out)).mono ?_
  rintro e w6 ⟨rfl, ⟨F6, ho6⟩, hb6⟩
  have hB6 : Below w.heap.size w w6 := hB5.trans (hb6.mono hB5.size)
  have HO6 := Lib.hid ho6
  clear ho6
  go_wp2_with fail
  refine (eqNodes_same _ _ _ _ _ r w6 (HX5.out.keepB hb6 (Nat.le_refl _)) HO6.out.ring rfl (small_of HSZ.out)).mono ?_
  rintro e w7 ⟨rfl, hb7⟩
  have hB7 : Below w.heap.size w w7 := hB6.trans (hb7.mono hB6.size)
  go_wp2
  go_ret
  exact ⟨rfl, hB7⟩


set_option maxHeartbeats 2000000 in
theorem exRingPrincipals (a : Option Addr) (len cap : Nat) (r : List Nd) (w : World) (h : RingAt w a r) (hz : r.length = len) (hm : len ≤ maxLen) :
    Calls Try.prog 10 #[.slice a len cap] w fun e w' => e = .returned (.bool true) ∧ Below w.heap.size w w' := by
  have HI := Lib.hid h
  have HZ := Lib.hid hz
  have HM := Lib.hid hm
  clear h hz hm
  go_enter Try.func10, Try.ntmps10
  go_wp2_with fail
  refine (szNodes_any a len cap r w HI.out HZ.out HM.out).mono ?_
  rintro e w1 ⟨z, rfl, hzz, hb1⟩
  rcases hzz with ⟨hsz, rfl⟩ | ⟨_, rfl⟩
  rotate_left
  · go_wp2
    go_ret
    exact ⟨rfl, hb1⟩
  have HSZ := Lib.hid hsz
  have hd : decide ((1048576 : Int) - (szR r : Int) < 0) = false := by simp; omega
  clear hsz
  go_wp2_with fail
  clear hd
  refine (toNodes_any a len cap r w1 (HI.out.keepB hb1 (Nat.le_refl _)) HZ.out (small_of HSZ.out)).mono ?_
  rintro e w2 ⟨rfl, ⟨F2, ho2⟩, hb2⟩
  have hB2 : Below w.heap.size w w2 := hb1.trans (hb2.mono hb1.size)
  have HO2 := Lib.hid ho2
  clear ho2
  go_wp2_with fail
  refine (srpr_any _ _ _ r w2 HO2.out.ring rfl (small_max HSZ.out)).mono ?_
  rintro e w3 ⟨gw, cw, rfl, how, hb3⟩
  have hB3 : Below w.heap.size w w3 := hB2.trans (hb3.mono hB2.size)
  have hsm : (prV r).length ≤ 1048576 := pr_small HSZ.out
  have W3 := Lib.hid how.ints
  have hgw := how.lt.2
  clear how
  go_wp2_with fail
  refine (toNodes_any a len cap r w3 (HI.out.keepB hB3 (Nat.le_refl _)) HZ.out (small_of HSZ.out)).mono ?_
  rintro e w4 ⟨rfl, ⟨F4, ho4⟩, hb4⟩
  have hB4 : Below w.heap.size w w4 := hB3.trans (hb4.mono hB3.size)
  have HO4 := Lib.hid ho4
  clear ho4
  go_wp2_with fail
  refine (rpr_any _ _ _ r w4 HO4.out.ring rfl (small_max HSZ.out)).mono ?_
  rintro e w5 ⟨gg, cg, rfl, hog, hb5⟩
  have hB5 : Below w.heap.size w w5 := hB4.trans (hb5.mono hB4.size)
  have HG := Lib.hid hog
  have hgg := hog.lt
  have s3 := hb4.size
  clear hog
  have hB35 : Below w3.heap.size w3 w5 := hb4.trans (hb5.mono s3)
  have W5 := Lib.hid (W3.out.blk (hB35.block gw hgw))
  go_wp2_with fail
  refine (eqInts_same _ _ _ _ _ (prV r) w5 HG.out.ints W5.out rfl hsm).mono ?_
  rintro e w6 ⟨rfl, hs6⟩
  have hB6 : Below w.heap.size w w6 := hB5.trans (hs6.below _)
  go_wp2_with fail
  refine (toNodes_any a len cap r w6 (HI.out.keepB hB6 (Nat.le_refl _)) HZ.out (small_of HSZ.out)).mono ?_
  rintro e w7 ⟨rfl, ⟨F7, ho7⟩, hb7⟩
  have HO7 := Lib.hid ho7
  clear ho7
  have hB47 : Below w4.heap.size w4 w7 := hb5.trans (((hs6.below _).trans (hb7.mono (by have := hs6.below 0 |>.size; omega))).mono hb5.size)
  go_wp2_with fail
  refine (eqNodes_same _ _ _ _ _ r w7 (HO4.out.ring.keepB hB47 (Nat.le_refl _)) HO7.out.ring rfl (small_of HSZ.out)).mono ?_
  rintro e w8 ⟨rfl, hb8⟩
  have hB58 : Below w5.heap.size w5 w8 := (hs6.below _).trans ((hb7.mono (by have := hs6.below 0 |>.size; omega)).trans (hb8.mono (by have := hs6.below 0 |>.size; have := hb7.size; omega)))
  have hB48 : Below w4.heap.size w4 w8 := hb5.trans (hB58.mono hb5.size)
  have hB8 : Below w.heap.size w w8 := hB5.trans (hB58.mono hB5.size)
  go_wp2_with fail
  refine (markNodes_any _ _ _ _ _ r F4 1 w8 (HO4.out.kept (fun g _ hg => hB48.block g hg)) rfl HSZ.out (by omega) (by omega)).mono ?_
  rintro e w9 ⟨rfl, _, hk9⟩
  have hB9 : Below w.heap.size w w9 := hB8.trans (hk9.below hB3.size)
  have G9 : Hid (OwnI w9 w4.heap.size (some ⟨gg, 0, none⟩) cg (prV r)) := HG.out.kept (fun g h1 h2 => (hk9.block g (.inr h1)).trans (hB58.block g h2))
  have W9 := Lib.hid (W5.out.blk ((hk9.block gw (.inl hgw)).trans (hB58.block gw (by have := hB35.size; omega))))
  have k0 : decide ((1 : Int) + (offR r r.length : Int) < 0) = false := by simp; omega
  go_wp2_with fail
  clear k0
  refine (eqInts_same _ _ _ _ _ (prV r) w9 G9.out.ints W9.out rfl hsm).mono ?_
  rintro e w10 ⟨rfl, hs10⟩
  have hB10 : Below w.heap.size w w10 := hB9.trans (hs10.below _)
  have G10 : Hid (OwnI w10 w4.heap.size (some ⟨gg, 0, none⟩) cg (prV r)) := G9.out.kept (fun g h1 h2 => (hs10.below w9.heap.size).block g h2)
  have W10 := Lib.hid (W9.out.blk ((hs10.below w9.heap.size).block gw (by have := G9.out.lt; omega)))
  go_wp2_with fail
  refine (markInts_any gg _ cg 1 w10 G10.out.blk (by omega) (by omega) hsm).mono ?_
  rintro e w11 ⟨rfl, hm11⟩
  have HM11 := Lib.hid hm11
  clear hm11
  have hB11 : Below w.heap.size w w11 := hB10.trans (HM11.out.1.below (by have := hB4.size; omega))
  have W11 := Lib.hid (W10.out.blk (HM11.out.1.block gw (by omega)))
  go_wp2_with fail
  refine (heldInts_any _ _ _ 1 w11 HM11.out.ints (by omega) (by omega) hsm).mono ?_
  rintro e w12 ⟨rfl, hs12⟩
  have hB12 : Below w.heap.size w w12 := hB11.trans (hs12.below _)
  have q0 : decide ((1 : Int) + ((prV r).length : Int) < 0) = false := by simp; omega
  have q1 : (((1 : Int) + ((prV r).length : Int)) != ((1 : Int) + ((prV r).length : Int))) = false := by simp
  go_wp2_with fail
  refine (toNodes_any a len cap r w12 (HI.out.keepB hB12 (Nat.le_refl _)) HZ.out (small_of HSZ.out)).mono ?_
  rintro e w13 ⟨rfl, ⟨F13, ho13⟩, hb13⟩
  have HO13 := Lib.hid ho13
  clear ho13
  go_wp2_with fail
  refine (rpr_any _ _ _ r w13 HO13.out.ring rfl (small_max HSZ.out)).mono ?_
  rintro e w14 ⟨gh, ch, rfl, hoh, hb14⟩
  have HH := Lib.hid hoh
  clear hoh
  have hB1114 : Below w11.heap.size w11 w14 := (hs12.below _).trans ((hb13.mono (by have := hs12.below 0 |>.size; omega)).trans (hb14.mono (by have := hs12.below 0 |>.size; have := hb13.size; omega)))
  have hgl : gw < w11.heap.size := by have h1 := G10.out.lt; have h2 := HM11.out.1.size; omega
  have W14 := Lib.hid (W11.out.blk (hB1114.block gw hgl))
  go_wp2_with fail
  refine (eqInts_same _ _ _ _ _ (prV r) w14 HH.out.ints W14.out rfl hsm).mono ?_
  rintro e w15 ⟨rfl, hs15⟩
  have hB1115 : Below w11.heap.size w11 w15 := hB1114.trans (hs15.below _)
  go_wp2_with fail
  refine (heldInts_any _ _ _ 1 w15 (HM11.out.ints.keepB hB1115 (Nat.le_refl _)) (by omega) (by omega) hsm).mono ?_
  rintro e w16 ⟨rfl, hs16⟩
  go_wp2
  go_ret
  exact ⟨rfl, hB11.trans ((hB1115.mono hB11.size).trans (hs16.below _))⟩
end Go.Proofs.Ytihkpofdpjkegaa
