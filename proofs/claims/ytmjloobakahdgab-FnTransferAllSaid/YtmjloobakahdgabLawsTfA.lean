/- The walk of the law of whole transfers. -/
import Derived.Test.YtmjloobakahdgabTfDraw4
import Derived.Test.YtmjloobakahdgabTfMath2
import Derived.Test.YtmjloobakahdgabExactTfS
import Derived.Test.YtmjloobakahdgabTfP4
namespace Go.Proofs.Ytmjloobakahdgab
open Go.RowKit
set_option linter.unusedVariables false

attribute [local go_sem ↓] Go.wp_at_zero Go.wp_at_succ

theorem own_cap {w : World} {base cap : Nat} {a : Option Addr} {zs : List Int} (h : OwnI w base a cap zs) : zs.length ≤ cap := by
  rcases h.2 with ⟨_, h0⟩ | ⟨g', cap', cur, hv, hb, hg, hnc, _⟩
  · omega
  · injection hv with _ _ hc; omega
/-- a transfer in a variable and received numbers, at the head of a loop -/
structure XAt (W : World) (B : Nat) (x : Tf) (got : List Int) (ax : Option Addr) (cx : Nat) (ay : Option Addr) (cy : Nat) (wr : World) : Prop where
  blk : wr.heap[B]? = some (.cells #[.slice ax x.items.length cx, .int .i64 x.nxt, .int .i64 x.ack] 26 (0, 0))
  ix : IntsAt wr ax x.items
  iy : IntsAt wr ay got
  lx : x.items.length ≤ cx
  ly : got.length ≤ cy
  nx : ∀ p, ax = some p → p.block ≠ B
  ny : ∀ p, ay = some p → p.block ≠ B
  bel : Below B W wr
theorem XAt.keep {W : World} {B : Nat} {x : Tf} {got : List Int} {ax : Option Addr} {cx : Nat} {ay : Option Addr} {cy : Nat} {wr w' : World} (h : XAt W B x got ax cx ay cy wr) (hb : Below wr.heap.size wr w') : XAt W B x got ax cx ay cy w' :=
  ⟨(hb.block B (heap_lt h.blk)).trans h.blk, h.ix.keepB hb (Nat.le_refl _), h.iy.keepB hb (Nat.le_refl _), h.lx, h.ly, h.nx, h.ny, h.bel.trans (hb.mono (Nat.le_of_lt (heap_lt h.blk)))⟩
theorem XAt.set {W : World} {B : Nat} {x x' : Tf} {got : List Int} {ax ax' : Option Addr} {cx cx' : Nat} {ay : Option Addr} {cy : Nat} {wr : World} (h : XAt W B x got ax cx ay cy wr) (hi : IntsAt wr ax' x'.items) (hl : x'.items.length ≤ cx') (hn : ∀ p, ax' = some p → p.block ≠ B) :
    XAt W B x' got ax' cx' ay cy (((wr.setCell ⟨B, 0, none⟩ (.slice ax' x'.items.length cx')).setCell ⟨B, 1, none⟩ (.int .i64 x'.nxt)).setCell ⟨B, 2, none⟩ (.int .i64 x'.ack)) :=
  ⟨set3 h.blk, ints_block hi (Nat.le_of_eq (size_set3 _ _ _ _ _).symm) (fun p hp => set3_ne (hn p hp)), ints_block h.iy (Nat.le_of_eq (size_set3 _ _ _ _ _).symm) (fun p hp => set3_ne (h.ny p hp)), hl, h.ly, hn, h.ny, below_set3 h.bel (Nat.le_refl _) _ _ _⟩
theorem XAt.put {W : World} {B : Nat} {x : Tf} {got got' : List Int} {ax : Option Addr} {cx : Nat} {ay ay' : Option Addr} {cy cy' : Nat} {wr : World} (h : XAt W B x got ax cx ay cy wr) (hi : IntsAt wr ay' got') (hl : got'.length ≤ cy') (hn : ∀ p, ay' = some p → p.block ≠ B) : XAt W B x got' ax cx ay' cy' wr :=
  ⟨h.blk, h.ix, hi, h.lx, hl, h.nx, hn, h.bel⟩
def AllJ (zs : List Int) (W : World) (B : Nat) (gv iv : Value) (wr : World) : Prop :=
  ∃ (i g : Nat) (x : Tf) (got : List Int) (ax : Option Addr) (cx : Nat) (ay : Option Addr) (cy : Nat), gv = .slice ay got.length cy ∧ iv = .int .i64 i ∧ AllAt zs i g x got ∧ XAt W B x got ax cx ay cy wr

set_option maxHeartbeats 4000000 in
theorem transferAll (s : Option Addr) (len cap : Nat) (z : List Int) (s2 : Option Addr) (len2 cap2 : Nat) (z2 : List Int) (w : World) (h : RowIn .u8 w s len cap z) (h2 : RowIn .u8 w s2 len2 cap2 z2) :
    Calls Try.prog 7 #[.slice s len cap, .slice s2 len2 cap2] w fun e w' => e = .returned (.bool true) ∧ Below w.heap.size w w' := by
  have hb := bytes_of_row h
  have hb2 := bytes_of_row h2
  have hm : len ≤ maxLen := Nat.le_trans hb.1 hb.2.1
  have hm2 : len2 ≤ maxLen := Nat.le_trans hb2.1 hb2.2.1
  unfold maxLen at hm hm2
  clear h h2 hb2
  by_cases hl : 1048576 < len
  · go_enter Try.func7, Try.ntmps7
    go_wp2
    go_ret
    exact ⟨rfl, Below.refl _ _⟩
  by_cases hl2 : 1048576 < len2
  · go_enter Try.func7, Try.ntmps7
    go_wp2
    go_ret
    exact ⟨rfl, Below.refl _ _⟩
  have hlB : decide ((1048576 : Int) < (len : Int)) = false := by simp; omega
  have hlB2 : decide ((1048576 : Int) < (len2 : Int)) = false := by simp; omega
  have HY := Lib.hid hb
  clear hb
  go_enter Try.func7, Try.ntmps7
  go_wp2_with fail
  refine (drawTransferNew s len cap w HY.out).mono ?_
  rintro e w1 ⟨a, ca, zs, rfl, hi, hzl, hzc, hb1⟩
  have HI := Lib.hid hi.ints
  have HB1 := Lib.hid hb1
  have hmx : zs.length ≤ maxLen := by unfold maxLen; omega
  have HMX := Lib.hid hmx
  clear hi hb1 hmx
  obtain ⟨R, hR⟩ : ∃ R, R = newT zs := ⟨_, rfl⟩
  obtain ⟨V, hV⟩ : ∃ V, V = itemsB zs := ⟨_, rfl⟩
  have hRl : R.items.length ≤ 20 := by
    rw [hR]; unfold newT
    by_cases h : itemsB zs = true
    · rw [if_pos h]; exact items_len h
    · rw [if_neg h]; exact Nat.zero_le _
  have HP : Hid (∀ w, IntsAt w a zs → Calls Try.prog 26 #[.slice a zs.length ca] w (NewTfB R V w)) := fun w h => by rw [hR, hV]; exact pnew_any a _ ca zs w h rfl HMX.out
  have HQ : Hid (∀ w, IntsAt w a zs → Calls Try.prog 27 #[.slice a zs.length ca] w (NewTfB R V w)) := fun w h => by rw [hR, hV]; exact snew_any a _ ca zs w h rfl HMX.out
  have HY2 : Hid (V = true → R = ⟨zs, 0, 0⟩ ∧ itemsB zs = true) := fun h => by
    rw [hV] at h
    rw [hR]
    exact ⟨newT_yes h, h⟩
  clear hR hV
  go_wp2_with fail
  refine (HP.out w1 HI.out).mono ?_
  rintro e w2 ⟨ag, cg, rfl, hog, hb2⟩
  have HG := Lib.hid (own_ints hog)
  have HGC := Lib.hid (own_cap hog)
  have HGL : Hid (∀ p, ag = some p → p.block < w2.heap.size) := fun p hp => (own_lt2 hog p hp).2
  have HB12 := Lib.hid hb2
  have HB2 := Lib.hid (HB1.out.trans (hb2.mono HB1.out.size))
  have HI2 : Hid (∀ o, IntsAt (w2.alloc o) a zs) := fun o => HI.out.keepB (hb2.alloc hb2.size o) (Nat.le_refl _)
  clear hog hb2
  go_wp2_with fail
  refine (HQ.out _ (HI2.out _)).mono ?_
  rintro e w3 ⟨aw, cw, rfl, how, hb3⟩
  have hst : ∀ o, StTf (w3.alloc o) w2.heap.size ag cg R := fun o => st_keep st_new ((hb3.alloc hb3.size o).block _ (by simp))
  have HW := Lib.hid (own_ints how)
  have HX : Hid (Below w2.heap.size w2 w3) := ((Below.refl _ _).alloc (Nat.le_refl _) _).trans (hb3.mono (by simp))
  have HLT : Hid (w2.heap.size < w3.heap.size) := by have := hb3.size; simp at this; show _ < _; omega
  have HST : Hid (∀ o w', Below (w3.alloc o).heap.size (w3.alloc o) w' → StTf w' w2.heap.size ag cg R) := fun o w' hb => st_keep (hst o) (hb.block _ (by simp; have := HLT.out; omega))
  have r0 : ∀ o, (w3.alloc o).cell? ⟨w2.heap.size, 0, none⟩ = some (.slice ag R.items.length cg) := fun o => (hst o).1
  have r1 : ∀ o, (w3.alloc o).cell? ⟨w2.heap.size, 1, none⟩ = some (.int .i64 R.nxt) := fun o => (hst o).2.1
  have r2 : ∀ o, (w3.alloc o).cell? ⟨w2.heap.size, 2, none⟩ = some (.int .i64 R.ack) := fun o => (hst o).2.2
  clear how hb3 hst
  cases V
  · have hVV : (false != false) = false := rfl
    have hVW : (false == false) = true := rfl
    go_wp2_with fail
    obtain ⟨S3, hS3⟩ : ∃ S3, S3 = w3.alloc (.cells #[.slice aw R.items.length cw, .int .i64 R.nxt, .int .i64 R.ack] 26) := ⟨_, rfl⟩
    rw [← hS3]
    have HA3 : Hid (Below w3.heap.size w3 S3) := by show Below _ _ _; rw [hS3]; exact (Below.refl _ _).alloc (Nat.le_refl _) _
    have HSA : Hid (∀ w', Below S3.heap.size S3 w' → StTf w' w2.heap.size ag cg R) := by show ∀ _, _ → _; rw [hS3]; exact HST.out _
    have hsw : StTf S3 w3.heap.size aw cw R := by rw [hS3]; exact st_new
    have HSW : Hid (∀ w', Below S3.heap.size S3 w' → StTf w' w3.heap.size aw cw R) := fun w' hb => st_keep hsw (hb.block _ (by rw [hS3]; simp))
    have HB3 : Hid (Below w.heap.size w S3) := HB2.out.trans ((HX.out.trans (HA3.out.mono HX.out.size)).mono HB2.out.size)
    have HG3 : Hid (IntsAt S3 ag R.items) := (HG.out.keepB HX.out (Nat.le_refl _)).keepB HA3.out (Nat.le_refl _)
    have HW3 : Hid (IntsAt S3 aw R.items) := HW.out.keepB HA3.out (Nat.le_refl _)
    clear hS3 hsw r0 r1 r2
    refine (sameTf_any ag aw cg cw R S3 HG3.out HW3.out (by omega)).mono ?_
    rintro e w4 ⟨rfl, hb4⟩
    have HB4 := Lib.hid hb4
    obtain ⟨x0, x1, x2⟩ := HSA.out w4 hb4
    obtain ⟨y0, y1, y2⟩ := HSW.out w4 hb4
    clear hb4
    go_wp2_with fail
    refine (sameTf_any ag aw cg cw R w4 (HG3.out.keepB HB4.out (Nat.le_refl _)) (HW3.out.keepB HB4.out (Nat.le_refl _)) (by omega)).mono ?_
    rintro e w5 ⟨rfl, hb5⟩
    have HB5 := Lib.hid (HB4.out.trans (hb5.mono HB4.out.size))
    clear hb5 x0 x1 x2 y0 y1 y2
    go_wp2
    go_ret
    exact ⟨rfl, HB3.out.trans (HB5.out.mono HB3.out.size)⟩
  · have hVV : (true != true) = false := rfl
    obtain ⟨rfl, ht⟩ := HY2.out rfl
    have HT := Lib.hid ht
    clear ht
    go_wp2_with fail
    obtain ⟨S3, hS3⟩ : ∃ S3, S3 = w3.alloc (.cells #[.slice aw zs.length cw, .int .i64 0, .int .i64 0] 26) := ⟨_, rfl⟩
    rw [← hS3]
    have HA3 : Hid (Below w3.heap.size w3 S3) := by show Below _ _ _; rw [hS3]; exact (Below.refl _ _).alloc (Nat.le_refl _) _
    have HSA : Hid (∀ w', Below S3.heap.size S3 w' → StTf w' w2.heap.size ag cg ⟨zs, 0, 0⟩) := by show ∀ _, _ → _; rw [hS3]; exact HST.out _
    have HB3 : Hid (Below w.heap.size w S3) := HB2.out.trans ((HX.out.trans (HA3.out.mono HX.out.size)).mono HB2.out.size)
    have HG3 : Hid (IntsAt S3 ag zs) := (HG.out.keepB HX.out (Nat.le_refl _)).keepB HA3.out (Nat.le_refl _)
    have HW3 : Hid (IntsAt S3 aw zs) := HW.out.keepB HA3.out (Nat.le_refl _)
    have HI3 : Hid (IntsAt S3 a zs) := HI.out.keepB ((HB12.out.trans (HX.out.mono HB12.out.size)).trans (HA3.out.mono (Nat.le_trans HB12.out.size HX.out.size))) (Nat.le_refl _)
    have HS3Z : Hid (w2.heap.size < S3.heap.size) := by have := HLT.out; have := HA3.out.size; show _ < _; omega
    clear hS3 r0 r1 r2
    refine (sameTf_any ag aw cg cw ⟨zs, 0, 0⟩ S3 HG3.out HW3.out (by show zs.length ≤ _; omega)).mono ?_
    rintro e w4 ⟨rfl, hb4⟩
    have HB4 := Lib.hid hb4
    have HW4 : Hid (Below w.heap.size w w4) := HB3.out.trans (hb4.mono HB3.out.size)
    have HK4 : Hid (∀ o, Below S3.heap.size S3 (w4.alloc o)) := fun o => hb4.alloc hb4.size o
    have r0 : ∀ o, (w4.alloc o).cell? ⟨w2.heap.size, 0, none⟩ = some (.slice ag zs.length cg) := fun o => (HSA.out _ (HK4.out o)).1
    have r1 : ∀ o, (w4.alloc o).cell? ⟨w2.heap.size, 1, none⟩ = some (.int .i64 0) := fun o => (HSA.out _ (HK4.out o)).2.1
    have r2 : ∀ o, (w4.alloc o).cell? ⟨w2.heap.size, 2, none⟩ = some (.int .i64 0) := fun o => (HSA.out _ (HK4.out o)).2.2
    clear hb4
    go_wp2
    clear r0 r1 r2
    obtain ⟨S5, hS5⟩ : ∃ S5, S5 = (w4.alloc (.cells #[] 3)).alloc (.cells #[.slice ag zs.length cg, .int .i64 0, .int .i64 0] 26) := ⟨_, rfl⟩
    rw [← hS5]
    have HA5 : Hid (Below w4.heap.size w4 S5) := by show Below _ _ _; rw [hS5]; exact ((Below.refl _ _).alloc (Nat.le_refl _) _).alloc (by simp) _
    have HXA : Hid (XAt S5 (w4.heap.size + 1) ⟨zs, 0, 0⟩ [] ag cg (some ⟨w4.heap.size, 0, none⟩) 0 S5) := by
      refine ⟨by rw [hS5]; exact heap_second w4 _ _, ?_, .inl rfl, HGC.out, Nat.le_refl _, ?_, ?_, Below.refl _ _⟩
      · exact (HG3.out.keepB HB4.out (Nat.le_refl _)).keepB HA5.out (Nat.le_refl _)
      · intro p hp; have h1 := HGL.out p hp; have h2 := HS3Z.out; have h3 := HB4.out.size; omega
      · intro p hp; cases hp; show w4.heap.size ≠ w4.heap.size + 1; omega
    have HI5 : Hid (IntsAt S5 a zs) := (HI3.out.keepB HB4.out (Nat.le_refl _)).keepB HA5.out (Nat.le_refl _)
    have HIL : Hid (∀ b off, a = some ⟨b, off, none⟩ → b < w4.heap.size ∨ zs = []) := fun b off ha => by
      rcases HI3.out.keepB HB4.out (Nat.le_refl _) with h0 | ⟨b', off', ha', hlt, _⟩
      · exact .inr h0
      · rw [ha] at ha'; cases ha'; exact .inl hlt
    have HW5 : Hid (Below w.heap.size w S5) := HW4.out.trans (HA5.out.mono HW4.out.size)
    have HWZ : Hid (w.heap.size ≤ w4.heap.size) := HW4.out.size
    have HIK : Hid (∀ w', Below (w4.heap.size + 1) S5 w' → IntsAt w' a zs) := fun w' hb => by
      rcases HI3.out.keepB HB4.out (Nat.le_refl _) with h0 | ⟨b', off', ha', hlt, hc⟩
      · exact .inl h0
      · have h5 := (IntsAt.keepB (.inr ⟨b', off', ha', hlt, hc⟩ : IntsAt w4 a zs) HA5.out (Nat.le_refl _))
        refine .inr ⟨b', off', ha', by have := hb.size; have := HA5.out.size; omega, fun i hi => ?_⟩
        exact (hb.cell (p := ⟨b', off' + i, none⟩) (by show b' < _; omega)).trans ((HA5.out.cell (p := ⟨b', off' + i, none⟩) hlt).trans (hc i hi))
    clear hS5 hVV
    go_loopw [10, 12] (fun gv iv wr => AllJ zs S5 (w4.heap.size + 1) gv iv wr) (fun _ iv _ => 30 - (intOf iv).toNat)
    case atStart => exact ⟨0, 0, ⟨zs, 0, 0⟩, [], ag, cg, some ⟨w4.heap.size, 0, none⟩, 0, rfl, rfl, by have := all_start HT.out; rw [newT_yes HT.out] at this; exact this, HXA.out⟩
    case round =>
      obtain ⟨i, g, x, got, ax, cx, ay, cy, rfl, rfl, hA, hX⟩ := hrel
      have hig : i ≤ g := hA.more
      have hgz : g ≤ zs.length := hA.le
      have hzl := items_len HT.out
      have hi30 : (i : Int) < 30 := by omega
      have HAT := Lib.hid hA
      have HXT := Lib.hid hX
      have hxl : x.items.length ≤ 20 := by rw [hA.x]; exact hzl
      have hgl : got.length ≤ 20 := by rw [hA.got, List.length_take]; omega
      obtain ⟨c0, c1, c2⟩ := cells3 hX.blk
      obtain ⟨v, hv⟩ : ∃ v : Int, v = 1 + ((len2 : Int) + (i : Int)) % 7 := ⟨_, rfl⟩
      have hv1 : 1 ≤ v ∧ v ≤ 7 := by omega
      have HVE := Lib.hid hv
      obtain ⟨Y, hYe⟩ : ∃ Y, Y = sendT x v := ⟨_, rfl⟩
      obtain ⟨C, hCe⟩ : ∃ C, C = sendC x v := ⟨_, rfl⟩
      obtain ⟨V, hVe⟩ : ∃ V, V = sendB x v := ⟨_, rfl⟩
      have HSEND : Hid (∀ w', IntsAt w' ax x.items → Calls Try.prog 12 #[.agg #[.slice ax x.items.length cx, .int .i64 x.nxt, .int .i64 x.ack], .int .i64 v] w' (NewTfC Y C V w')) := fun w' hi => by rw [hYe, hCe, hVe]; exact psend_any ax cx x v w' hi (by unfold maxLen; omega) HXT.out.lx
      have HEND : Hid (V = false → got = zs ∧ x.ack = zs.length) := fun h => by rw [hVe] at h; exact all_end HT.out HAT.out hv1 h
      have HNEXT : Hid (V = true → ∃ g', putB got C = true ∧ ackB Y (putL got C).length = true ∧ AllAt zs (i + 1) g' (ackT Y (putL got C).length) (putL got C)) := fun h => by rw [hVe] at h; rw [hYe, hCe]; exact all_next HT.out HAT.out hv1 h
      have hYl : Y.items.length ≤ 20 := by rw [hYe]; exact sendT_len x v
      have hCl : C.items.length ≤ 4 := by rw [hCe]; exact sendC_len x v
      clear hA hX hYe hCe hVe hv hv1
      cases V
      · obtain ⟨e1, e2⟩ := HEND.out rfl
        have HE1 := Lib.hid e1
        have HE2 := Lib.hid e2
        clear e1 e2
        go_wp2_with fail
        rw [← HVE.out]
        refine (HSEND.out wr HXT.out.ix).mono ?_
        rintro e w5 ⟨a1, k1, b1, d1, rfl, _, _, _, hb5⟩
        have HB5 : Hid (∀ o p, Below wr.heap.size wr ((w5.alloc o).alloc p)) := fun o p => (hb5.alloc hb5.size o).alloc (hb5.alloc hb5.size o).size p
        have HXE : Hid (∀ o p, XAt S5 (w4.heap.size + 1) x got ax cx ay cy ((w5.alloc o).alloc p)) := fun o p => HXT.out.keep (HB5.out o p)
        clear hb5 c0 c1 c2
        go_wp2_with fail
        have HIF : Hid (∀ o p, IntsAt ((w5.alloc o).alloc p) a zs) := fun o p => HIK.out _ (HXE.out o p).bel
        rw [HE1.out]
        have HIG : Hid (∀ o p, IntsAt ((w5.alloc o).alloc p) ay zs) := fun o p => by have := (HXE.out o p).iy; rw [HE1.out] at this; exact this
        refine (sameI_any ay a _ cy ca zs _ (HIG.out _ _) (HIF.out _ _) rfl (by omega)).mono ?_
        rintro e w6 ⟨rfl, hs6⟩
        have hX6 := (HXE.out _ _).keep (hs6.below _)
        obtain ⟨y0, y1, y2⟩ := cells3 hX6.blk
        rw [HE2.out] at y2
        have HX6 := Lib.hid hX6
        clear hs6 hX6
        go_wp2
        go_ret
        exact ⟨rfl, HW5.out.trans (HX6.out.bel.mono (by have := HWZ.out; have := HW5.out.size; omega))⟩
      · obtain ⟨g', hp, ha, hat⟩ := HNEXT.out rfl
        have HAT2 := Lib.hid hat
        obtain ⟨L, hL⟩ : ∃ L, L = putL got C := ⟨_, rfl⟩
        rw [← hL] at ha
        have hLl : L.length ≤ 20 := by rw [hL]; exact putL_le got C
        have HPUT : Hid (∀ w' b d, IntsAt w' ay got → IntsAt w' b C.items → C.items.length ≤ d → Calls Try.prog 28 #[.slice ay got.length cy, .agg #[.int .i64 C.pos, .slice b C.items.length d]] w' (NewIntsB L true w')) := fun w' b d h1 h2 h3 => by
          have := pput_any ay b cy d got C w' h1 (by unfold maxLen; omega) h2 (by unfold maxLen; omega) HXT.out.ly h3
          rw [hp, ← hL] at this; exact this
        obtain ⟨Z, hZ⟩ : ∃ Z, Z = ackT Y (L.length : Int) := ⟨_, rfl⟩
        have HACK : Hid (∀ w' a1 k1, IntsAt w' a1 Y.items → Calls Try.prog 29 #[.agg #[.slice a1 Y.items.length k1, .int .i64 Y.nxt, .int .i64 Y.ack], .int .i64 (L.length : Int)] w' (NewTfB Z true w')) := fun w' a1 k1 h1 => by
          have := pack_any a1 k1 Y (L.length : Int) w' h1 (by unfold maxLen; omega)
          rw [ha, ← hZ] at this; exact this
        have HAZ : Hid (AllAt zs (i + 1) g' Z L) := by show AllAt _ _ _ _ _; rw [hZ, hL]; exact hat
        clear hp ha hat hL hZ HNEXT HEND HAT2
        go_wp2_with fail
        rw [← HVE.out]
        refine (HSEND.out wr HXT.out.ix).mono ?_
        rintro e w5 ⟨a1, k1, b1, d1, rfl, ho, hoc, _, hb5⟩
        have HO := Lib.hid (own_ints ho)
        have HOC := Lib.hid (own_ints hoc)
        have HDC := Lib.hid (own_cap hoc)
        have HB5 := Lib.hid hb5
        clear ho hoc hb5 c0 c1 c2
        go_wp2_with fail
        obtain ⟨S6, hS6⟩ : ∃ S6, S6 = (w5.alloc (.cells #[.slice a1 Y.items.length k1, .int .i64 Y.nxt, .int .i64 Y.ack] 26)).alloc (.cells #[.int .i64 C.pos, .slice b1 C.items.length d1] 28) := ⟨_, rfl⟩
        rw [← hS6]
        have HA6 : Hid (Below w5.heap.size w5 S6) := by show Below _ _ _; rw [hS6]; exact ((Below.refl _ _).alloc (Nat.le_refl _) _).alloc (by simp) _
        have hst : StTf S6 w5.heap.size a1 k1 Y ∧ StCk S6 (w5.heap.size + 1) b1 d1 C := by rw [hS6]; exact two_st
        have HZ6 : Hid (S6.heap.size = w5.heap.size + 2) := by show _ = _; rw [hS6]; simp
        have HX6 : Hid (XAt S5 (w4.heap.size + 1) x got ax cx ay cy S6) := HXT.out.keep (HB5.out.trans (HA6.out.mono HB5.out.size))
        have HO6 : Hid (IntsAt S6 a1 Y.items) := HO.out.keepB HA6.out (Nat.le_refl _)
        have HC6 : Hid (IntsAt S6 b1 C.items) := HOC.out.keepB HA6.out (Nat.le_refl _)
        have HBZ : Hid (w4.heap.size + 1 < S6.heap.size) := heap_lt HX6.out.blk
        have HST := Lib.hid hst
        clear hS6 hst
        refine (HPUT.out S6 b1 d1 HX6.out.iy HC6.out HDC.out).mono ?_
        rintro e w7 ⟨al, cl, rfl, hol, hb7⟩
        have HLI := Lib.hid (own_ints hol)
        have HLC := Lib.hid (own_cap hol)
        have HLN : Hid (∀ p, al = some p → p.block ≠ w4.heap.size + 1) := fun p hp => by have := (own_lt2 hol p hp).1; have := HBZ.out; omega
        have HB7 := Lib.hid hb7
        obtain ⟨y0, y1, y2⟩ := st_keep HST.out.1 (hb7.block _ (by have := HZ6.out; omega))
        clear hol hb7
        go_wp2_with fail
        refine (HACK.out w7 a1 k1 (HO6.out.keepB HB7.out (Nat.le_refl _))).mono ?_
        rintro e w8 ⟨az, cz, rfl, hoz, hb8⟩
        have HZI := Lib.hid (own_ints hoz)
        have HZC := Lib.hid (own_cap hoz)
        have HZN : Hid (∀ p, az = some p → p.block ≠ w4.heap.size + 1) := fun p hp => by have := (own_lt2 hoz p hp).1; have := HBZ.out; have := HB7.out.size; omega
        have HX8 : Hid (∀ o, XAt S5 (w4.heap.size + 1) x L ax cx al cl (w8.alloc o)) := fun o => by
          have hb : Below w7.heap.size w7 (w8.alloc o) := hb8.alloc hb8.size o
          exact ((HX6.out.keep HB7.out).keep hb).put (HLI.out.keepB hb (Nat.le_refl _)) HLC.out HLN.out
        have HZ8 : Hid (∀ o, IntsAt (w8.alloc o) az Z.items) := fun o => HZI.out.keepB ((Below.refl _ _).alloc (Nat.le_refl _) o) (Nat.le_refl _)
        have e0 : ∀ o, (w8.alloc o).cell? ⟨w4.heap.size + 1, 0, none⟩ = some (.slice ax x.items.length cx) := fun o => (cells3 (HX8.out o).blk).1
        have e1 : ∀ o, (w8.alloc o).cell? ⟨w4.heap.size + 1, 1, none⟩ = some (.int .i64 x.nxt) := fun o => (cells3 (HX8.out o).blk).2.1
        have e2 : ∀ o, (w8.alloc o).cell? ⟨w4.heap.size + 1, 2, none⟩ = some (.int .i64 x.ack) := fun o => (cells3 (HX8.out o).blk).2.2
        have f0 : ∀ o, (w8.alloc o).frozen? ⟨w4.heap.size + 1, 0, none⟩ = false := fun o => frozen_of_cells (HX8.out o).blk 0
        have f1 : ∀ o, (w8.alloc o).frozen? ⟨w4.heap.size + 1, 1, none⟩ = false := fun o => frozen_of_cells (HX8.out o).blk 1
        have f2 : ∀ o, (w8.alloc o).frozen? ⟨w4.heap.size + 1, 2, none⟩ = false := fun o => frozen_of_cells (HX8.out o).blk 2
        clear hoz hb8 y0 y1 y2
        go_wp2
        go_roundw
        case rel => exact ⟨i + 1, g', Z, L, az, cz, al, cl, rfl, by go_num, HAZ.out, (HX8.out _).set (HZ8.out _) HZC.out HZN.out⟩
        case measure => simp [intOf]; omega
end Go.Proofs.Ytmjloobakahdgab
