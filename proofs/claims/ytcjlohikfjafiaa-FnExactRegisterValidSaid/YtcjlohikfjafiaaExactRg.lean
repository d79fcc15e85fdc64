/- The walks of the exact laws of registers that start no goroutines. -/
import Derived.Test.YtcjlohikfjafiaaRgPart
namespace Go.Proofs.Ytcjlohikfjafiaa
open Go.RowKit
set_option linter.unusedVariables false
attribute [local go_sem ↓] Go.wp_at_zero Go.wp_at_succ

theorem leftL_no {len : Nat} (h : 1048576 < len) : leftL 1048576 len = -1 := by unfold leftL; rw [if_pos (by omega)]
theorem leftL_yes {len : Nat} (h : len ≤ 1048576) : leftL 1048576 len = 1048576 - len := by unfold leftL; rw [if_neg (by omega)]

set_option maxHeartbeats 2000000 in
theorem exValid (a : Option Addr) (len cap : Nat) (L : List Ls) (w : World) (hz : L.length = len) (h : LsAt w a L) (hm : len ≤ maxLen) :
    Calls Try.prog 6 #[.slice a len cap] w fun e w' => e = .returned (.bool true) ∧ Below w.heap.size w w' := by
  have HM := Lib.hid hm
  have HI := Lib.hid h
  clear hm h
  by_cases hl : 1048576 < len
  · have hlf := Lib.hid (leftL_no hl)
    clear hz hl
    go_enter Try.func6, Try.ntmps6
    go_wp2_with fail
    refine (szLs_any a _ cap 1048576 w (by omega) (by omega) HM.out).mono ?_
    rintro e w' ⟨rfl, rfl⟩
    rw [hlf.out]
    go_wp2
    go_ret
    exact ⟨rfl, Below.refl _ _⟩
  subst hz
  have hlf := Lib.hid (leftL_yes (len := L.length) (by omega))
  have hls : L.length ≤ 1048576 := by omega
  have HLS := Lib.hid hls
  have d0 : decide ((1048576 : Int) - (L.length : Int) < 0) = false := by simp; omega
  clear hl hls
  go_enter Try.func6, Try.ntmps6
  go_wp2_with fail
  refine (szLs_any a _ cap 1048576 w (by omega) (by omega) HM.out).mono ?_
  rintro e w' ⟨rfl, rfl⟩
  rw [hlf.out]
  have q1 : (lvB L != lvB L) = false := by simp
  go_wp2_with fail
  refine (toLs_any a _ cap L w HI.out rfl HLS.out).mono ?_
  rintro e w1 ⟨rfl, ho, hb1⟩
  have O1 := Lib.hid ho
  clear ho
  go_wp2_with fail
  refine (slvs_any _ _ _ L w1 O1.out.ls rfl HM.out).mono ?_
  rintro e w2 ⟨rfl, hb2⟩
  have hB2 : Below w.heap.size w w2 := hb1.trans (hb2.mono hb1.size)
  go_wp2_with fail
  refine (toLs_any a _ cap L w2 (HI.out.keepB hB2 (Nat.le_refl _)) rfl HLS.out).mono ?_
  rintro e w3 ⟨rfl, ho, hb3⟩
  have O3 := Lib.hid ho
  clear ho
  have hB3 : Below w.heap.size w w3 := hB2.trans (hb3.mono hB2.size)
  go_wp2_with fail
  refine (lvs_any _ _ _ L w3 O3.out.ls rfl HM.out (Nat.le_refl _)).mono ?_
  rintro e w4 ⟨rfl, hb4⟩
  have hB4 : Below w.heap.size w w4 := hB3.trans (hb4.mono hB3.size)
  have O4 := Lib.hid (O3.out.keepB hb4 (Nat.le_refl _))
  go_wp2_with fail
  refine (toLs_any a _ cap L w4 (HI.out.keepB hB4 (Nat.le_refl _)) rfl HLS.out).mono ?_
  rintro e w5 ⟨rfl, ho, hb5⟩
  have O5b := Lib.hid ho
  clear ho
  have hB5 : Below w.heap.size w w5 := hB4.trans (hb5.mono hB4.size)
  go_wp2_with fail
  refine (eqLs_same _ _ _ _ _ L w5 (O4.out.keepB hb5 (Nat.le_refl _)).ls O5b.out.ls rfl HLS.out).mono ?_
  rintro e w6 ⟨rfl, hb6⟩
  go_wp2
  go_ret
  exact ⟨rfl, hB5.trans (hb6.mono hB5.size)⟩

/-- a row of numbers in block g -/
def RowK (w : World) (g : Nat) (zs : List Int) : Prop := (∃ cs, w.heap[g]? = some (.cells cs 3 (0, 0)) ∧ zs.length ≤ cs.size) ∧ IntsAt w (some ⟨g, 0, none⟩) zs
theorem RowK.of {w : World} {g : Nat} {zs : List Int} (h : RowOf w g zs) : RowK w g zs := by
  refine ⟨?_, h.ints⟩
  obtain ⟨cs, hc, hs, _⟩ := h
  exact ⟨cs, hc, by omega⟩
theorem RowK.kept {w w' : World} {g : Nat} {zs : List Int} (h : RowK w g zs) (e : w'.heap[g]? = w.heap[g]?) : RowK w' g zs :=
  ⟨by obtain ⟨cs, hc, hs⟩ := h.1; exact ⟨cs, e.trans hc, hs⟩, h.2.blk e⟩
theorem RowK.lt {w : World} {g : Nat} {zs : List Int} (h : RowK w g zs) : g < w.heap.size := by obtain ⟨cs, hc, _⟩ := h.1; exact heap_lt hc
theorem RowK.keepB {w w' : World} {g : Nat} {zs : List Int} (h : RowK w g zs) (hb : Below w.heap.size w w') (_ : w.heap.size ≤ w.heap.size) : RowK w' g zs := h.kept (hb.block g h.lt)
/-- a replica of the law's own in block g -/
def BoxK (w : World) (g : Nat) (x : Ls) : Prop := w.heap[g]? = some (.cells #[.int .i64 x.e, .int .i64 x.o, .int .i64 x.u] 41 (0, 0))
theorem BoxK.kept {w w' : World} {g : Nat} {x : Ls} (h : BoxK w g x) (e : w'.heap[g]? = w.heap[g]?) : BoxK w' g x := e.trans h
theorem BoxK.keepB {w w' : World} {g : Nat} {x : Ls} (h : BoxK w g x) (hb : Below w.heap.size w w') (_ : w.heap.size ≤ w.heap.size) : BoxK w' g x := h.kept (hb.block g (heap_lt h))
theorem BoxK.cells {w : World} {g : Nat} {x : Ls} (h : BoxK w g x) : w.cell? ⟨g, 0, none⟩ = some (.int .i64 x.e) ∧ w.cell? ⟨g, 1, none⟩ = some (.int .i64 x.o) ∧ w.cell? ⟨g, 2, none⟩ = some (.int .i64 x.u) :=
  ⟨by rw [cell_of_cells h]; rfl, by rw [cell_of_cells h]; rfl, by rw [cell_of_cells h]; rfl⟩

set_option maxHeartbeats 1000000 in
theorem exPart (a sa : Option Addr) (len cap sl sc : Nat) (L : List Ls) (zs : List Int) (x : Ls) (w : World) (hz : L.length = len) (h : LsAt w a L) (hm : len ≤ maxLen) (hs : IntsAt w sa zs) (hsz : zs.length = sl) (hsm : sl ≤ maxLen) :
    Calls Try.prog 7 #[.slice a len cap, .slice sa sl sc, .agg #[.int .i64 x.e, .int .i64 x.o, .int .i64 x.u]] w fun e w' => e = .returned (.bool true) ∧ Below w.heap.size w w' := by
  have HM := Lib.hid hm
  have HI := Lib.hid h
  have HSM := Lib.hid hsm
  have HS := Lib.hid hs
  clear h hs
  obtain ⟨W, hW⟩ : ∃ W, W = w.alloc (.cells #[.int .i64 x.e, .int .i64 x.o, .int .i64 x.u] 41) := ⟨_, rfl⟩
  have hW0 : Below w.heap.size w W := by rw [hW]; exact alB _ _
  have BX0 : Hid (BoxK W w.heap.size x) := by show BoxK _ _ _; rw [hW]; exact heap_alloc_new w _
  have HW := Lib.hid hW
  have HXW := Lib.hid (alB w (.cells #[.int .i64 x.e, .int .i64 x.o, .int .i64 x.u] 41))
  clear hW
  by_cases hsl : 1048576 < sl
  · unfold maxLen at hsm hm
    clear hz
    go_enter Try.func7, Try.ntmps7
    go_wp2
    go_ret
    exact ⟨rfl, HXW.out⟩
  by_cases hl : 1048576 < len
  · have hlf := Lib.hid (leftL_no hl)
    clear hz hl hm hsm
    go_enter Try.func7, Try.ntmps7
    go_wp2_with fail
    rw [← HW.out]
    refine (szLs_any a _ cap 1048576 W (by omega) (by omega) HM.out).mono ?_
    rintro e w' ⟨rfl, rfl⟩
    rw [hlf.out]
    go_wp2
    go_ret
    exact ⟨rfl, hW0⟩
  subst hz hsz
  have hlf := Lib.hid (leftL_yes (len := L.length) (by omega))
  have HLS : Hid (L.length ≤ 1048576) := by show _ ≤ _; omega
  have HSL : Hid (zs.length ≤ 1048576) := by show _ ≤ _; omega
  have d0 : decide ((1048576 : Int) - (L.length : Int) < 0) = false := by simp; omega
  have hsl' : ¬ (1048576 : Int) < (zs.length : Int) := by omega
  clear hl hm hsm
  obtain ⟨R, hR⟩ : ∃ R, R = partR L zs x := ⟨_, rfl⟩
  have hsm : Hid (R.1.length ≤ 1048576) := by show _ ≤ 1048576; have := partR_len L zs x; rw [hR]; omega
  have HR := Lib.hid hR
  clear hR
  have HT : Hid (∀ (Wb w' : World), Below w.heap.size w Wb → Below Wb.heap.size Wb w' → Calls Try.prog 18 #[.slice a L.length cap] w' fun e wa => ∃ g, e = .returned (.slice (some ⟨g, 0, none⟩) L.length L.length) ∧ OwnS wa w'.heap.size g L.length L ∧ Below w'.heap.size w' wa ∧ Below Wb.heap.size Wb wa) := fun Wb w' h1 h2 => by
    refine (toLs_any a _ cap L w' (HI.out.keepB (h1.trans (h2.mono h1.size)) (Nat.le_refl _)) rfl HLS.out).mono ?_
    rintro e wa ⟨rfl, ho, hb⟩
    exact ⟨_, rfl, ho, hb, h2.trans (hb.mono h2.size)⟩
  have HTI : Hid (∀ (Wb w' : World), Below w.heap.size w Wb → Below Wb.heap.size Wb w' → Calls Try.prog 20 #[.slice sa zs.length sc] w' fun e wa => ∃ g, e = .returned (.slice (some ⟨g, 0, none⟩) zs.length zs.length) ∧ RowK wa g zs ∧ w'.heap.size ≤ g ∧ Below w'.heap.size w' wa ∧ Below Wb.heap.size Wb wa) := fun Wb w' h1 h2 => by
    refine (toInts_any sa _ sc zs w' (HS.out.keepB (h1.trans (h2.mono h1.size)) (Nat.le_refl _)) rfl HSL.out).mono ?_
    rintro e wa ⟨rfl, ho, hb, _⟩
    exact ⟨_, rfl, RowK.of ho, Nat.le_refl _, hb, h2.trans (hb.mono h2.size)⟩
  have HTR : Hid (∀ (Wb w' : World), Below Wb.heap.size Wb w' → Calls Try.prog 21 #[.agg #[.int .i64 x.e, .int .i64 x.o, .int .i64 x.u]] w' fun e wa => e = .returned (.agg #[.int .i64 x.e, .int .i64 x.o, .int .i64 x.u]) ∧ Below w'.heap.size w' wa ∧ Below Wb.heap.size Wb wa) := fun Wb w' h2 => by
    refine (toLease_any x w').mono ?_
    rintro e wa ⟨rfl, hb⟩
    exact ⟨rfl, hb, h2.trans (hb.mono h2.size)⟩
  have HPS : Hid (∀ (Wb w' : World) (g1 g2 : Nat), Below w.heap.size w Wb → Below Wb.heap.size Wb w' → LsAt w' (some ⟨g1, 0, none⟩) L → IntsAt w' (some ⟨g2, 0, none⟩) zs → Calls Try.prog 10 #[.slice (some ⟨g1, 0, none⟩) L.length L.length, .slice (some ⟨g2, 0, none⟩) zs.length zs.length, .agg #[.int .i64 x.e, .int .i64 x.o, .int .i64 x.u]] w' fun e wa => ∃ g c, e = .returned (.tuple #[.slice (some ⟨g, 0, none⟩) R.1.length c, .bool R.2]) ∧ OwnS wa w'.heap.size g c R.1 ∧ Below w'.heap.size w' wa ∧ Below Wb.heap.size Wb wa) := fun Wb w' g1 g2 h1 h2 h3 h4 => by
    refine (spart_any _ _ _ _ _ _ L zs x w' h3 rfl HM.out (Nat.le_refl _) h4 rfl HSM.out).mono ?_
    rintro e wa ⟨g, c, rfl, ho, hb⟩
    rw [← HR.out] at ho ⊢
    exact ⟨g, c, rfl, ho, hb, h2.trans (hb.mono h2.size)⟩
  have HPI : Hid (∀ (Wb w' : World) (g1 g2 : Nat), Below w.heap.size w Wb → Below Wb.heap.size Wb w' → LsAt w' (some ⟨g1, 0, none⟩) L → IntsAt w' (some ⟨g2, 0, none⟩) zs → Calls Try.prog 9 #[.slice (some ⟨g1, 0, none⟩) L.length L.length, .slice (some ⟨g2, 0, none⟩) zs.length zs.length, .agg #[.int .i64 x.e, .int .i64 x.o, .int .i64 x.u]] w' fun e wa => ∃ g c, e = .returned (.tuple #[.slice (some ⟨g, 0, none⟩) R.1.length c, .bool R.2]) ∧ OwnS wa w'.heap.size g c R.1 ∧ Below w'.heap.size w' wa ∧ Below Wb.heap.size Wb wa) := fun Wb w' g1 g2 h1 h2 h3 h4 => by
    refine (part_any _ _ _ _ _ _ L zs x w' h3 rfl HM.out (Nat.le_refl _) h4 rfl HSM.out).mono ?_
    rintro e wa ⟨g, c, rfl, ho, hb⟩
    rw [← HR.out] at ho ⊢
    exact ⟨g, c, rfl, ho, hb, h2.trans (hb.mono h2.size)⟩
  have q1 : (R.2 != R.2) = false := by simp
  have HWB := Lib.hid hW0
  go_enter Try.func7, Try.ntmps7
  go_wp2_with fail
  rw [← HW.out]
  refine (szLs_any a _ cap 1048576 W (by omega) (by omega) HM.out).mono ?_
  rintro e w' ⟨rfl, rfl⟩
  rw [hlf.out]
  go_wp2
  have hBW := Below.refl W.heap.size W
  have HSX : Hid (∀ w', Below W.heap.size W w' → Below W.heap.size W w' ∧ w'.cell? ⟨w.heap.size, 0, none⟩ = some (.int .i64 x.e) ∧ w'.cell? ⟨w.heap.size, 1, none⟩ = some (.int .i64 x.o) ∧ w'.cell? ⟨w.heap.size, 2, none⟩ = some (.int .i64 x.u)) := fun w' hb => by
    have h3 := (BX0.out.keepB hb (Nat.le_refl _)).cells
    exact ⟨hb, h3⟩
  go_region_held3 (fun w' => Below W.heap.size W w' ∧ w'.cell? ⟨w.heap.size, 0, none⟩ = some (.int .i64 x.e) ∧ w'.cell? ⟨w.heap.size, 1, none⟩ = some (.int .i64 x.o) ∧ w'.cell? ⟨w.heap.size, 2, none⟩ = some (.int .i64 x.u)) (first | (exact HSX.out _ hcd) | (exact HSX.out _ hcc) | (exact HSX.out _ hcb) | (exact HSX.out _ hca) | (exact HSX.out _ hBW) | (exact HSX.out _ hBW.drew))
    ((first
      | (go_at_call 18; refine (HT.out W _ HWB.out (by first | exact hBW.drew | exact hBW)).mono ?_; rintro e wa ⟨ga, rfl, hoa, hba, hca⟩; have KA := Lib.hid hoa; clear hoa)
      | (go_at_call 20; refine (HTI.out W _ HWB.out hca).mono ?_; rintro e wb ⟨gb, rfl, hob, hgb, hbb, hcb⟩; have KB := Lib.hid hob; have KA2 := Lib.hid (KA.out.keepB hbb (Nat.le_refl _)); clear hob hgb)
      | (go_at_call 21; refine (HTR.out W _ hcb).mono ?_; rintro e wc ⟨rfl, hbc, hcc⟩; have KB3 := Lib.hid (KB.out.keepB hbc (Nat.le_refl _)); have KA3 := Lib.hid (KA2.out.keepB hbc (Nat.le_refl _)))
      | (go_at_call 10; refine (HPS.out W _ _ _ HWB.out hcc KA3.out.ls KB3.out.2).mono ?_; rintro e wd ⟨gd, cd, rfl, hod, hbd, hcd⟩; have KD := Lib.hid hod; clear hod)))
  have HB1 := Lib.hid (HWB.out.trans (hcd.mono HWB.out.size))
  have B3 := Lib.hid (BX0.out.keepB hcd (Nat.le_refl _))
  obtain ⟨w3, hw3⟩ : ∃ x, x = wd := ⟨_, rfl⟩
  obtain ⟨bs, gs, cs, hS3⟩ : ∃ bs gs cs, gs = gd ∧ cs = cd ∧ OwnS wd bs gs cs R.1 := ⟨_, _, _, rfl, rfl, KD.out⟩
  obtain ⟨hgs, hcs, hS3⟩ := hS3
  have S3 := Lib.hid hS3
  have HGS : Hid (gs < wd.heap.size) := hS3.blk.2.1
  have HB3 := HB1
  rw [← hgs, ← hcs]
  rw [← hw3] at S3 HGS B3 HB3 ⊢
  clear hw3 hgs hcs hS3 HB1 KD KA KB KA2 KA3 KB3 hca hcb hcc hba hbb hbc hbd hcd hBW
  have HNW : Hid (w.heap.size < w3.heap.size) := heap_lt B3.out
  go_wp2_with fail
  refine (HT.out w3 _ HB3.out (Below.refl _ _)).mono ?_
  rintro e w4 ⟨gx, rfl, ho, hb, _⟩
  have HB4 := Lib.hid (HB3.out.trans (hb.mono HB3.out.size))
  have Z4 := Lib.hid hb.size
  have S4 := Lib.hid (S3.out.keepB hb (Nat.le_refl _))
  have B4 := Lib.hid (B3.out.keepB hb (Nat.le_refl _))
  have X4 := Lib.hid ho
  have HGX : Hid (w3.heap.size ≤ gx ∧ gx < w4.heap.size) := ⟨ho.blk.1, ho.blk.2.1⟩
  clear ho hb
  go_wp2_with fail
  refine (HTI.out w4 _ HB4.out (Below.refl _ _)).mono ?_
  rintro e w5 ⟨gy, rfl, ho, hgy, hb, _⟩
  have HB5 := Lib.hid (HB4.out.trans (hb.mono HB4.out.size))
  have Z5 := Lib.hid hb.size
  have S5 := Lib.hid (S4.out.keepB hb (Nat.le_refl _))
  have B5 := Lib.hid (B4.out.keepB hb (Nat.le_refl _))
  have X5 := Lib.hid (X4.out.keepB hb (Nat.le_refl _))
  have Y5 := Lib.hid ho
  have HGY : Hid (w4.heap.size ≤ gy ∧ gy < w5.heap.size) := ⟨hgy, ho.lt⟩
  clear ho hb hgy
  obtain ⟨x0, x1, x2⟩ := B5.out.cells
  go_wp2_with fail
  refine (HTR.out w5 _ (Below.refl _ _)).mono ?_
  rintro e w6 ⟨rfl, hb, _⟩
  have HB6 := Lib.hid (HB5.out.trans (hb.mono HB5.out.size))
  have Z6 := Lib.hid hb.size
  have S6 := Lib.hid (S5.out.keepB hb (Nat.le_refl _))
  have B6 := Lib.hid (B5.out.keepB hb (Nat.le_refl _))
  have X6 := Lib.hid (X5.out.keepB hb (Nat.le_refl _))
  have Y6 := Lib.hid (Y5.out.keepB hb (Nat.le_refl _))
  clear hb x0 x1 x2
  go_wp2_with fail
  refine (HPI.out w6 _ _ _ HB6.out (Below.refl _ _) X6.out.ls Y6.out.2).mono ?_
  rintro e w7 ⟨gg, cg, rfl, ho, hb, _⟩
  have HB7 := Lib.hid (HB6.out.trans (hb.mono HB6.out.size))
  have Z7 := Lib.hid hb.size
  have S7 := Lib.hid (S6.out.keepB hb (Nat.le_refl _))
  have B7 := Lib.hid (B6.out.keepB hb (Nat.le_refl _))
  have X7 := Lib.hid (X6.out.keepB hb (Nat.le_refl _))
  have Y7 := Lib.hid (Y6.out.keepB hb (Nat.le_refl _))
  have G7 := Lib.hid ho
  have HGG : Hid (w6.heap.size ≤ gg ∧ gg < w7.heap.size) := ⟨ho.blk.1, ho.blk.2.1⟩
  clear ho hb
  go_wp2_with fail
  refine (eqLs_same _ _ _ _ _ R.1 w7 G7.out.ls S7.out.ls rfl hsm.out).mono ?_
  rintro e w8 ⟨rfl, hb⟩
  have HB8 := Lib.hid (HB7.out.trans (hb.mono HB7.out.size))
  have Z8 := Lib.hid hb.size
  have S8 := Lib.hid (S7.out.keepB hb (Nat.le_refl _))
  have B8 := Lib.hid (B7.out.keepB hb (Nat.le_refl _))
  have X8 := Lib.hid (X7.out.keepB hb (Nat.le_refl _))
  have Y8 := Lib.hid (Y7.out.keepB hb (Nat.le_refl _))
  have G8 := Lib.hid (G7.out.keepB hb (Nat.le_refl _))
  clear hb
  go_wp2_with fail
  refine (HT.out w8 _ HB8.out (Below.refl _ _)).mono ?_
  rintro e w9 ⟨g9, rfl, ho, hb, _⟩
  have HB9 := Lib.hid (HB8.out.trans (hb.mono HB8.out.size))
  have Z9 := Lib.hid hb.size
  have S9 := Lib.hid (S8.out.keepB hb (Nat.le_refl _))
  have B9 := Lib.hid (B8.out.keepB hb (Nat.le_refl _))
  have X9 := Lib.hid (X8.out.keepB hb (Nat.le_refl _))
  have Y9 := Lib.hid (Y8.out.keepB hb (Nat.le_refl _))
  have G9 := Lib.hid (G8.out.keepB hb (Nat.le_refl _))
  have O9 := Lib.hid ho
  clear ho hb
  go_wp2_with fail
  refine (eqLs_same _ _ _ _ _ L w9 X9.out.ls O9.out.ls rfl HLS.out).mono ?_
  rintro e w10 ⟨rfl, hb⟩
  have HB10 := Lib.hid (HB9.out.trans (hb.mono HB9.out.size))
  have Z10 := Lib.hid hb.size
  have S10 := Lib.hid (S9.out.keepB hb (Nat.le_refl _))
  have B10 := Lib.hid (B9.out.keepB hb (Nat.le_refl _))
  have X10 := Lib.hid (X9.out.keepB hb (Nat.le_refl _))
  have Y10 := Lib.hid (Y9.out.keepB hb (Nat.le_refl _))
  have G10 := Lib.hid (G9.out.keepB hb (Nat.le_refl _))
  clear hb O9
  go_wp2_with fail
  refine (HTI.out w10 _ HB10.out (Below.refl _ _)).mono ?_
  rintro e w11 ⟨g11, rfl, ho, _, hb, _⟩
  have HB11 := Lib.hid (HB10.out.trans (hb.mono HB10.out.size))
  have Z11 := Lib.hid hb.size
  have S11 := Lib.hid (S10.out.keepB hb (Nat.le_refl _))
  have B11 := Lib.hid (B10.out.keepB hb (Nat.le_refl _))
  have X11 := Lib.hid (X10.out.keepB hb (Nat.le_refl _))
  have Y11 := Lib.hid (Y10.out.keepB hb (Nat.le_refl _))
  have G11 := Lib.hid (G10.out.keepB hb (Nat.le_refl _))
  have O11 := Lib.hid ho
  clear ho hb
  go_wp2_with fail
  refine (eqInts_same _ _ _ _ _ zs w11 Y11.out.2 O11.out.2 rfl HSL.out).mono ?_
  rintro e w12 ⟨rfl, hsm2⟩
  have hb := hsm2.below w11.heap.size
  have HB12 := Lib.hid (HB11.out.trans (hb.mono HB11.out.size))
  have Z12 := Lib.hid hb.size
  have S12 := Lib.hid (S11.out.keepB hb (Nat.le_refl _))
  have B12 := Lib.hid (B11.out.keepB hb (Nat.le_refl _))
  have X12 := Lib.hid (X11.out.keepB hb (Nat.le_refl _))
  have Y12 := Lib.hid (Y11.out.keepB hb (Nat.le_refl _))
  have G12 := Lib.hid (G11.out.keepB hb (Nat.le_refl _))
  clear hb hsm2 O11
  go_wp2_with fail
  refine (markLs_any _ _ _ _ L 1 w12 X12.out rfl (by omega) (by omega) HLS.out).mono ?_
  rintro e w13 ⟨rfl, _, hk⟩
  have HB13 := Lib.hid (HB12.out.trans (hk.below (by have z4 := Z4.out; have z5 := Z5.out; have z6 := Z6.out; have z7 := Z7.out; have hx := HGX.out; have hy := HGY.out; have hg := HGG.out; have hs := HGS.out; have hw := HNW.out; omega)))
  have Z13 := Lib.hid hk.size
  have S13 := Lib.hid (S12.out.kept (hk.block _ (by have z4 := Z4.out; have z5 := Z5.out; have z6 := Z6.out; have z7 := Z7.out; have hx := HGX.out; have hy := HGY.out; have hg := HGG.out; have hs := HGS.out; have hw := HNW.out; omega)))
  have B13 := Lib.hid (B12.out.kept (hk.block _ (by have z4 := Z4.out; have z5 := Z5.out; have z6 := Z6.out; have z7 := Z7.out; have hx := HGX.out; have hy := HGY.out; have hg := HGG.out; have hs := HGS.out; have hw := HNW.out; omega)))
  have Y13 := Lib.hid (Y12.out.kept (hk.block _ (by have z4 := Z4.out; have z5 := Z5.out; have z6 := Z6.out; have z7 := Z7.out; have hx := HGX.out; have hy := HGY.out; have hg := HGG.out; have hs := HGS.out; have hw := HNW.out; omega)))
  have G13 := Lib.hid (G12.out.kept (hk.block _ (by have z4 := Z4.out; have z5 := Z5.out; have z6 := Z6.out; have z7 := Z7.out; have hx := HGX.out; have hy := HGY.out; have hg := HGG.out; have hs := HGS.out; have hw := HNW.out; omega)))
  clear hk
  have hl13 : L.length ≤ 1048576 := HLS.out
  go_wp2_with fail
  refine (markInts_any gy _ _ (1 + 3 * (L.length : Int)) w13 Y13.out.1 (by omega) (by omega) HSL.out).mono ?_
  rintro e w14 ⟨rfl, hm14⟩
  have hk := hm14.1
  have HB14 := Lib.hid (HB13.out.trans (hk.below (by have z4 := Z4.out; have z5 := Z5.out; have z6 := Z6.out; have z7 := Z7.out; have hx := HGX.out; have hy := HGY.out; have hg := HGG.out; have hs := HGS.out; have hw := HNW.out; omega)))
  have S14 := Lib.hid (S13.out.kept (hk.block _ (by have z4 := Z4.out; have z5 := Z5.out; have z6 := Z6.out; have z7 := Z7.out; have hx := HGX.out; have hy := HGY.out; have hg := HGG.out; have hs := HGS.out; have hw := HNW.out; omega)))
  have B14 := Lib.hid (B13.out.kept (hk.block _ (by have z4 := Z4.out; have z5 := Z5.out; have z6 := Z6.out; have z7 := Z7.out; have hx := HGX.out; have hy := HGY.out; have hg := HGG.out; have hs := HGS.out; have hw := HNW.out; omega)))
  have G14 := Lib.hid (G13.out.kept (hk.block _ (by have z4 := Z4.out; have z5 := Z5.out; have z6 := Z6.out; have z7 := Z7.out; have hx := HGX.out; have hy := HGY.out; have hg := HGG.out; have hs := HGS.out; have hw := HNW.out; omega)))
  clear hk hm14
  have k0 : decide ((1 : Int) + 3 * (L.length : Int) + (zs.length : Int) < 0) = false := by simp; omega
  go_wp2_with fail
  clear k0 hl13
  refine (eqLs_same _ _ _ _ _ R.1 w14 G14.out.ls S14.out.ls rfl hsm.out).mono ?_
  rintro e w15 ⟨rfl, hb⟩
  have HB15 := Lib.hid (HB14.out.trans (hb.mono HB14.out.size))
  have Z15 := Lib.hid hb.size
  have S15 := Lib.hid (S14.out.keepB hb (Nat.le_refl _))
  have B15 := Lib.hid (B14.out.keepB hb (Nat.le_refl _))
  have G15 := Lib.hid (G14.out.keepB hb (Nat.le_refl _))
  clear hb
  go_wp2_with fail
  refine (markLs_any _ _ _ _ R.1 1 w15 G15.out rfl (by omega) (by omega) hsm.out).mono ?_
  rintro e w16 ⟨rfl, ho, hk⟩
  have HB16 := Lib.hid (HB15.out.trans (hk.below (by have z4 := Z4.out; have z5 := Z5.out; have z6 := Z6.out; have z7 := Z7.out; have hx := HGX.out; have hy := HGY.out; have hg := HGG.out; have hs := HGS.out; have hw := HNW.out; omega)))
  have S16 := Lib.hid (S15.out.kept (hk.block _ (by have z4 := Z4.out; have z5 := Z5.out; have z6 := Z6.out; have z7 := Z7.out; have hx := HGX.out; have hy := HGY.out; have hg := HGG.out; have hs := HGS.out; have hw := HNW.out; omega)))
  have B16 := Lib.hid (B15.out.kept (hk.block _ (by have z4 := Z4.out; have z5 := Z5.out; have z6 := Z6.out; have z7 := Z7.out; have hx := HGX.out; have hy := HGY.out; have hg := HGG.out; have hs := HGS.out; have hw := HNW.out; omega)))
  have G16 := Lib.hid ho
  clear hk ho
  go_wp2_with fail
  refine (heldLs_any _ _ _ R.1 1 w16 G16.out.ls rfl (by omega) (by omega) hsm.out).mono ?_
  rintro e w17 ⟨rfl, hsm2⟩
  have hb := hsm2.below w16.heap.size
  have HB17 := Lib.hid (HB16.out.trans (hb.mono HB16.out.size))
  have Z17 := Lib.hid hb.size
  have S17 := Lib.hid (S16.out.keepB hb (Nat.le_refl _))
  have B17 := Lib.hid (B16.out.keepB hb (Nat.le_refl _))
  have G17 := Lib.hid (G16.out.keepB hb (Nat.le_refl _))
  clear hb hsm2
  have hr17 : R.1.length ≤ 1048576 := hsm.out
  have r0 : decide ((1 : Int) + 3 * (R.1.length : Int) < 0) = false := by simp; omega
  have r1 : (((1 : Int) + 3 * (R.1.length : Int)) != ((1 : Int) + 3 * (R.1.length : Int))) = false := by simp
  go_wp2
  have hBW := Below.refl w17.heap.size w17
  have HSY : Hid (∀ w', Below w17.heap.size w17 w' → Below w17.heap.size w17 w' ∧ w'.cell? ⟨w.heap.size, 0, none⟩ = some (.int .i64 x.e) ∧ w'.cell? ⟨w.heap.size, 1, none⟩ = some (.int .i64 x.o) ∧ w'.cell? ⟨w.heap.size, 2, none⟩ = some (.int .i64 x.u)) := fun w' hb => by
    have h3 := (B17.out.keepB hb (Nat.le_refl _)).cells
    exact ⟨hb, h3⟩
  go_region_held3 (fun w' => Below w17.heap.size w17 w' ∧ w'.cell? ⟨w.heap.size, 0, none⟩ = some (.int .i64 x.e) ∧ w'.cell? ⟨w.heap.size, 1, none⟩ = some (.int .i64 x.o) ∧ w'.cell? ⟨w.heap.size, 2, none⟩ = some (.int .i64 x.u)) (first | (exact HSY.out _ hcd) | (exact HSY.out _ hcc) | (exact HSY.out _ hcb) | (exact HSY.out _ hca) | (exact HSY.out _ hBW) | (exact HSY.out _ hBW.drew))
    ((first
      | (go_at_call 18; refine (HT.out w17 _ HB17.out (by first | exact hBW.drew | exact hBW)).mono ?_; rintro e wa ⟨ga, rfl, hoa, hba, hca⟩; have KA := Lib.hid hoa; clear hoa)
      | (go_at_call 20; refine (HTI.out w17 _ HB17.out hca).mono ?_; rintro e wb ⟨gb, rfl, hob, hgb, hbb, hcb⟩; have KB := Lib.hid hob; have KA2 := Lib.hid (KA.out.keepB hbb (Nat.le_refl _)); clear hob hgb)
      | (go_at_call 21; refine (HTR.out w17 _ hcb).mono ?_; rintro e wc ⟨rfl, hbc, hcc⟩; have KB3 := Lib.hid (KB.out.keepB hbc (Nat.le_refl _)); have KA3 := Lib.hid (KA2.out.keepB hbc (Nat.le_refl _)))
      | (go_at_call 9; refine (HPI.out w17 _ _ _ HB17.out hcc KA3.out.ls KB3.out.2).mono ?_; rintro e wd ⟨gd, cd, rfl, hod, hbd, hcd⟩; have KD := Lib.hid hod; clear hod)))
  have HB18 := Lib.hid (HB17.out.trans (hcd.mono HB17.out.size))
  have S18 := Lib.hid (S17.out.keepB hcd (Nat.le_refl _))
  have G18 := Lib.hid (G17.out.keepB hcd (Nat.le_refl _))
  clear hca hcb hcc hba hbb hbc hbd hcd hBW
  go_wp2_with fail
  refine (eqLs_same _ _ _ _ _ R.1 wd KD.out.ls S18.out.ls rfl hsm.out).mono ?_
  rintro e w19 ⟨rfl, hb⟩
  have HB19 := Lib.hid (HB18.out.trans (hb.mono HB18.out.size))
  have G19 := Lib.hid (G18.out.keepB hb (Nat.le_refl _))
  go_wp2_with fail
  refine (heldLs_any _ _ _ R.1 1 w19 G19.out.ls rfl (by omega) (by omega) hsm.out).mono ?_
  rintro e w20 ⟨rfl, hsm2⟩
  go_wp2
  go_ret
  exact ⟨rfl, HB19.out.trans (hsm2.below _)⟩
end Go.Proofs.Ytcjlohikfjafiaa
