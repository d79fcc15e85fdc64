/- Rings in memory; what RingValid does. -/
import Derived.Test.YtfhjmfcdogpbeaaNodesSpec
import Derived.Test.YtfhjmfcdogpbeaaRingMath
import Derived.Test.YtfhjmfcdogpbeaaCls
import Derived.Deep.RegionLaw
import Derived.Deep.DrawnRows
import Derived.Deep.RegionHeld3
namespace Go.Proofs.Ytfhjmfcdogpbeaa
open Go.RowKit
set_option linter.unusedVariables false

/-- A slice value that reads as numbers. -/
def IntsV (w : World) (v : Value) (zs : List Int) : Prop :=
  ∃ a cap, v = .slice a zs.length cap ∧ zs.length ≤ cap ∧ cap ≤ maxLen ∧ IntsAt w a zs
/-- Three cells that read as a node. -/
def NodeAt (w : World) (b o : Nat) (n : Nd) : Prop :=
  w.cell? ⟨b, o, none⟩ = some (.int .i64 n.pos) ∧ w.cell? ⟨b, o + 1, none⟩ = some (.int .i64 n.bef) ∧ ∃ v, w.cell? ⟨b, o + 2, none⟩ = some v ∧ IntsV w v n.aft
/-- A slice at address a reads as the ring r. -/
def RingAt (w : World) (a : Option Addr) (r : List Nd) : Prop :=
  r = [] ∨ ∃ b off, a = some ⟨b, off, none⟩ ∧ b < w.heap.size ∧ ∀ i, i < r.length → NodeAt w b (off + i * 3) (gn r i)

theorem ints_two {w : World} {a : Option Addr} {x y : Int} (h : IntsAt w a [x, y]) : ∃ b off, a = some ⟨b, off, none⟩ ∧ b < w.heap.size ∧ w.cell? ⟨b, off, none⟩ = some (.int .i64 x) ∧ w.cell? ⟨b, off + 1, none⟩ = some (.int .i64 y) := by
  rcases h with h | ⟨b, off, ha, hb, hc⟩
  · cases h
  · exact ⟨b, off, ha, hb, hc 0 (by simp), hc 1 (by simp)⟩

def TwoOk (x y : Int) (k : Nat) : Prop := (1 ≤ k → ptB x = true) ∧ (2 ≤ k → ptB y = true)
theorem two0 (x y : Int) : TwoOk x y 0 := ⟨fun h => absurd h (by omega), fun h => absurd h (by omega)⟩
theorem two1 {x y : Int} (h : ptB x = true) : TwoOk x y 1 := ⟨fun _ => h, fun h => absurd h (by omega)⟩
theorem two2 {x y : Int} (h : ptB x = true) (h' : ptB y = true) : TwoOk x y 2 := ⟨fun _ => h, fun _ => h'⟩

set_option maxHeartbeats 400000 in
theorem ndv_any (n : Nd) (sa : Option Addr) (sc : Nat) (w : World) (h : IntsAt w sa n.aft) (hl : n.aft.length ≤ sc) (hm : sc ≤ maxLen) :
    Calls Try.prog 63 #[.agg #[.int .i64 n.pos, .int .i64 n.bef, .slice sa n.aft.length sc]] w fun e w' => e = .returned (.bool (ndB n)) ∧ Below w.heap.size w w' := by
  obtain ⟨pos, bef, aft⟩ := n
  unfold maxLen at hm
  simp only at *
  have hB : ∀ o, Below w.heap.size w (w.alloc o) := fun o => (Below.refl _ _).alloc (Nat.le_refl _) _
  have HB := Lib.hid hB
  clear hB
  cases hp : ptB pos
  · have He : Hid (ndB ⟨pos, bef, aft⟩ = false) := by show ndB _ = false; simp [ndB, hp]
    clear h
    go_enter Try.func63, Try.ntmps63
    go_wp2_with (go_at_call 50; refine (valid_any _ _).mono ?_; rintro e w' ⟨rfl, rfl⟩)
    go_ret
    exact ⟨ret_bool He.out.symm, HB.out _⟩
  by_cases h2 : aft.length = 2
  · match aft, h2 with
    | [x, y], _ =>
      obtain ⟨b, off, rfl, hb, hc0, hc1⟩ := ints_two h
      clear h
      have He : Hid (ndB ⟨pos, bef, [x, y]⟩ = (befB bef && (ptB x && ptB y))) := by show ndB _ = _; simp [ndB, hp, aftB, gt]
      simp only [List.length_cons, List.length_nil, Nat.zero_add] at hl ⊢
      go_enter Try.func63, Try.ntmps63
      go_wp2_with (go_at_call 50; refine (valid_any _ _).mono ?_; rintro e w' ⟨rfl, rfl⟩)
      go_loop [18] (fun i => ∃ k : Nat, k ≤ 2 ∧ i = .int .i64 k ∧ TwoOk x y k) (fun i => 2 - (intOf i).toNat)
      case atStart => exact ⟨0, by omega, rfl, two0 _ _⟩
      case round =>
        obtain ⟨k, hk, rfl, h12⟩ := hrel
        by_cases hk0 : k = 0
        · subst hk0
          cases hx : ptB x
          · go_wp2_with (go_at_call 50; refine (valid_any _ _).mono ?_; rintro e w' ⟨rfl, rfl⟩)
            go_ret
            exact ⟨ret_bool (by rw [He.out, hx]; simp), HB.out _⟩
          · go_wp2_with (go_at_call 50; refine (valid_any _ _).mono ?_; rintro e w' ⟨rfl, rfl⟩)
            go_round
            case rel => exact ⟨1, by omega, by go_num, two1 hx⟩
            case measure => simp [intOf]
        · by_cases hk1 : k = 1
          · subst hk1
            have hx := h12.1 (by omega)
            clear h12
            cases hy : ptB y
            · go_wp2_with (go_at_call 50; refine (valid_any _ _).mono ?_; rintro e w' ⟨rfl, rfl⟩)
              go_ret
              exact ⟨ret_bool (by rw [He.out, hy]; simp), HB.out _⟩
            · go_wp2_with (go_at_call 50; refine (valid_any _ _).mono ?_; rintro e w' ⟨rfl, rfl⟩)
              go_round
              case rel => exact ⟨2, by omega, by go_num, two2 hx hy⟩
              case measure => simp [intOf]
          · obtain rfl : k = 2 := by omega
            have hx := h12.1 (by omega)
            have hy := h12.2 (by omega)
            clear h12 hk0 hk1
            cases hbe : (bef == -1)
            · go_wp2_with (go_at_call 50; refine (valid_any _ _).mono ?_; rintro e w' ⟨rfl, rfl⟩)
              go_ret
              exact ⟨ret_bool (by rw [He.out, hx, hy]; simp [befB] at *; simp [hbe]), HB.out _⟩
            · go_wp2_with (go_at_call 50; refine (valid_any _ _).mono ?_; rintro e w' ⟨rfl, rfl⟩)
              go_ret
              exact ⟨ret_bool (by rw [He.out, hx, hy]; simp [befB] at *; simp [hbe]), HB.out _⟩
  · have hne : ((aft.length : Int) != 2) = true := by simp; omega
    have He : Hid (ndB ⟨pos, bef, aft⟩ = false) := by show ndB _ = false; simp [ndB, aftB, h2]
    clear h h2
    go_enter Try.func63, Try.ntmps63
    go_wp2_with (go_at_call 50; refine (valid_any _ _).mono ?_; rintro e w' ⟨rfl, rfl⟩)
    go_ret
    exact ⟨ret_bool He.out.symm, HB.out _⟩

theorem bcell {W w1 : World} (hb : Below W.heap.size W w1) : (∀ b o, b < W.heap.size → w1.cell? ⟨b, o, none⟩ = W.cell? ⟨b, o, none⟩) ∧ (∀ b o, b < W.heap.size → w1.frozen? ⟨b, o, none⟩ = W.frozen? ⟨b, o, none⟩) :=
  ⟨fun b o h => hb.cell (p := ⟨b, o, none⟩) h, fun b o h => hb.frozen (p := ⟨b, o, none⟩) h⟩
theorem ndv_as (v : Bool) (n : Nd) (sa : Option Addr) (sc : Nat) (w : World) (h : IntsAt w sa n.aft) (hl : n.aft.length ≤ sc) (hm : sc ≤ maxLen) (hv : ndB n = v) :
    Calls Try.prog 63 #[.agg #[.int .i64 n.pos, .int .i64 n.bef, .slice sa n.aft.length sc]] w fun e w' => e = .returned (.bool v) ∧ Below w.heap.size w w' := by
  subst hv; exact ndv_any n sa sc w h hl hm
theorem node_open {w : World} {b o : Nat} {n : Nd} (h : NodeAt w b o n) : ∃ sa sc, w.cell? ⟨b, o, none⟩ = some (.int .i64 n.pos) ∧ w.cell? ⟨b, o + 1, none⟩ = some (.int .i64 n.bef) ∧ w.cell? ⟨b, o + 2, none⟩ = some (.slice sa n.aft.length sc) ∧ n.aft.length ≤ sc ∧ sc ≤ maxLen ∧ IntsAt w sa n.aft := by
  obtain ⟨h0, h1, v, h2, sa, sc, rfl, h3, h4, h5⟩ := h
  exact ⟨sa, sc, h0, h1, h2, h3, h4, h5⟩
theorem IntsAt.keepB {w w' : World} {B : Nat} {a : Option Addr} {zs : List Int} (h : IntsAt w a zs) (hb : Below B w w') (hB : w.heap.size ≤ B) : IntsAt w' a zs := by
  rcases h with h0 | ⟨b, off, ha, hlt, hc⟩
  · exact .inl h0
  · exact .inr ⟨b, off, ha, Nat.lt_of_lt_of_le hlt hb.size, fun i hi => (hb.cell (p := ⟨b, off + i, none⟩) (Nat.lt_of_lt_of_le hlt hB)).trans (hc i hi)⟩
theorem NodeAt.keepB {w w' : World} {B b o : Nat} {n : Nd} (h : NodeAt w b o n) (hlt : b < w.heap.size) (hb : Below B w w') (hB : w.heap.size ≤ B) : NodeAt w' b o n := by
  obtain ⟨h0, h1, v, h2, sa, sc, hv, h3, h4, h5⟩ := h
  have hlt' : b < B := Nat.lt_of_lt_of_le hlt hB
  exact ⟨(hb.cell (p := ⟨b, o, none⟩) hlt').trans h0, (hb.cell (p := ⟨b, o + 1, none⟩) hlt').trans h1, v, (hb.cell (p := ⟨b, o + 2, none⟩) hlt').trans h2, sa, sc, hv, h3, h4, h5.keepB hb hB⟩
theorem RingAt.keepB {w w' : World} {B : Nat} {a : Option Addr} {r : List Nd} (h : RingAt w a r) (hb : Below B w w') (hB : w.heap.size ≤ B) : RingAt w' a r := by
  rcases h with h0 | ⟨b, off, ha, hlt, hc⟩
  · exact .inl h0
  · exact .inr ⟨b, off, ha, Nat.lt_of_lt_of_le hlt hb.size, fun i hi => (hc i hi).keepB hlt hb hB⟩
theorem RingAt.at_ {w : World} {a : Option Addr} {r : List Nd} (h : RingAt w a r) {i : Nat} (hi : i < r.length) : ∃ b off, a = some ⟨b, off, none⟩ ∧ b < w.heap.size ∧ ∀ j, j < r.length → NodeAt w b (off + j * 3) (gn r j) := by
  rcases h with h0 | ⟨b, off, ha, hlt, hc⟩
  · rw [h0] at hi; simp at hi
  · exact ⟨b, off, ha, hlt, hc⟩

set_option maxHeartbeats 1000000 in
theorem rv_any (a : Option Addr) (len cap : Nat) (r : List Nd) (w : World) (h : RingAt w a r) (hz : r.length = len) (hm : len ≤ maxLen) :
    Calls Try.prog 32 #[.slice a len cap] w fun e w' => e = .returned (.bool (rvB r)) ∧ Below w.heap.size w w' := by
  have HI := Lib.hid h
  have HZ := Lib.hid hz
  unfold maxLen at hm
  by_cases h10 : 10 < len
  · have He : Hid (rvB r = false) := by show rvB r = false; simp [rvB, hz]; omega
    clear h hz
    go_enter Try.func32, Try.ntmps32
    go_wp2
    go_ret
    exact ⟨ret_bool He.out.symm, Below.refl _ _⟩
  have He : Hid (rvB r = allTo (rokAt r) len) := by show rvB r = _; simp [rvB, hz]; omega
  clear h hz
  go_enter Try.func32, Try.ntmps32
  go_wp2
  go_loopw [10] (fun i wr => ∃ k : Nat, k ≤ len ∧ i = .int .i64 k ∧ allTo (rokAt r) k = true ∧ Below w.heap.size w wr) (fun i _ => len - (intOf i).toNat)
  case atStart => exact ⟨0, by omega, rfl, rfl, Below.refl _ _⟩
  case round =>
    obtain ⟨k, hk, rfl, hall, hbel⟩ := hrel
    have HA := Lib.hid hall
    clear hall
    by_cases hlt : k < len
    · obtain ⟨b, off, rfl, hb0, hnodes⟩ := (HI.out.keepB hbel (Nat.le_refl _)).at_ (by rw [HZ.out]; exact hlt)
      obtain ⟨sa, sc, hc0, hc1, hc2, hl, hmx, hints⟩ := node_open (hnodes k (by rw [HZ.out]; exact hlt))
      have HN := Lib.hid hnodes
      clear hnodes
      have HX := Lib.hid hmx
      have HT := Lib.hid hints
      clear hmx hints
      have hbw : ∀ o, Below wr.heap.size wr (wr.alloc o) := fun o => (Below.refl _ _).alloc (Nat.le_refl _) _
      have HBW := Lib.hid hbw
      clear hbw
      obtain ⟨W, hW⟩ : ∃ W, W = wr.alloc (.cells #[.int .i64 (gn r k).pos, .int .i64 (gn r k).bef, .slice sa (gn r k).aft.length sc] 30) := ⟨_, rfl⟩
      have hWb : Below wr.heap.size wr W := by rw [hW]; exact HBW.out _
      have hWs : wr.heap.size < W.heap.size := by rw [hW]; simp
      have hW0 : ∀ x : Cls (Below W.heap.size W), x.to.cell? ⟨wr.heap.size, 0, none⟩ = some (.int .i64 (gn r k).pos) := fun x => (x.ok.cell (p := ⟨wr.heap.size, 0, none⟩) hWs).trans (by rw [hW]; simp)
      have hW1 : ∀ x : Cls (Below W.heap.size W), x.to.cell? ⟨wr.heap.size, 1, none⟩ = some (.int .i64 (gn r k).bef) := fun x => (x.ok.cell (p := ⟨wr.heap.size, 1, none⟩) hWs).trans (by rw [hW]; simp)
      have hW2 : ∀ x : Cls (Below W.heap.size W), x.to.cell? ⟨wr.heap.size, 2, none⟩ = some (.slice sa (gn r k).aft.length sc) := fun x => (x.ok.cell (p := ⟨wr.heap.size, 2, none⟩) hWs).trans (by rw [hW]; simp)
      have HW := Lib.hid hW
      clear hW
      cases hn : ndB (gn r k)
      · have HNV := Lib.hid hn
        clear hn
        go_wp2_with fail
        rw [← HW.out]
        refine wp_region_cls (Below W.heap.size W) (by kernel_rfl) (by kernel_rfl) below_drawn ?_
        repeat (go_big_quiet_step ((go_at_call 63; rename_i x; exact cls_below (ndv_as false (gn r k) sa sc _ (HT.out.keepB (hWb.trans (x.ok.mono (by omega))) (Nat.le_refl _)) hl HX.out HNV.out) x.ok (Nat.le_refl _))))
        refine wpQuiet_nil ?_
        intro w2 hw'
        have hb2 := cls_out hw'
        clear hw'
        have hbel2 : Below w.heap.size w w2 := hbel.trans ((hWb.trans (hb2.mono (by omega))).mono hbel.size)
        clear hW0 hW1 hW2
        go_wp2
        go_ret
        exact ⟨ret_bool (by rw [He.out, allTo_no hlt]; simp [rokAt, HNV.out]), hbel2⟩
      · have HNV := Lib.hid hn
        clear hn
        by_cases hk0 : k = 0
        · have hk00 : decide (0 < (k : Int)) = false := by simp; omega
          have hk01 : decide (0 < k) = false := by simp; omega
          have HK := Lib.hid hk0
          clear hk0
          go_wp2_with fail
          rw [← HW.out]
          refine wp_region_cls (Below W.heap.size W) (by kernel_rfl) (by kernel_rfl) below_drawn ?_
          repeat (go_big_quiet_step ((go_at_call 63; rename_i x; exact cls_below (ndv_as true (gn r k) sa sc _ (HT.out.keepB (hWb.trans (x.ok.mono (by omega))) (Nat.le_refl _)) hl HX.out HNV.out) x.ok (Nat.le_refl _))))
          refine wpQuiet_nil ?_
          intro w2 hw'
          have hb2 := cls_out hw'
          clear hw'
          have hbel2 : Below w.heap.size w w2 := hbel.trans ((hWb.trans (hb2.mono (by omega))).mono hbel.size)
          clear hW0 hW1 hW2 hk00 hk01
          go_wp2
          go_roundw
          case rel => exact ⟨k + 1, by omega, by go_num, allTo_succ HA.out (by rw [rokAt, HNV.out]; simp [HK.out]), hbel2⟩
          case measure => simp [intOf]; omega
        · have hk1 : ((k : Int) - 1).toNat = k - 1 := by omega
          obtain ⟨sa', sc', hd0, hd1, hd2, _, _, _⟩ := node_open (HN.out (k - 1) (by rw [HZ.out]; omega))
          have hD0 : ∀ x : Cls (Below W.heap.size W), x.to.cell? ⟨b, off + (k - 1) * 3, none⟩ = some (.int .i64 (gn r (k - 1)).pos) := fun x => ((hWb.trans (x.ok.mono (by omega))).cell (p := ⟨b, off + (k - 1) * 3, none⟩) hb0).trans hd0
          have hkp : 0 < k := by omega
          have hki : (1 : Int) ≤ (k : Int) := by omega
          by_cases hle : (gn r k).pos ≤ (gn r (k - 1)).pos
          · have HL := Lib.hid hle
            go_wp2_with fail
            rw [← HW.out]
            refine wp_region_cls (Below W.heap.size W) (by kernel_rfl) (by kernel_rfl) below_drawn ?_
            repeat (go_big_quiet_step ((go_at_call 63; rename_i x; exact cls_below (ndv_as true (gn r k) sa sc _ (HT.out.keepB (hWb.trans (x.ok.mono (by omega))) (Nat.le_refl _)) hl HX.out HNV.out) x.ok (Nat.le_refl _))))
            refine wpQuiet_nil ?_
            intro w2 hw'
            have hb2 := cls_out hw'
            clear hw'
            have hbel2 : Below w.heap.size w w2 := hbel.trans ((hWb.trans (hb2.mono (by omega))).mono hbel.size)
            clear hW0 hW1 hW2
            clear hD0
            go_wp2
            go_ret
            exact ⟨ret_bool (by rw [He.out, allTo_no hlt]; simp [rokAt, HNV.out, hk0]; omega), hbel2⟩
          · have hle' : (gn r (k - 1)).pos < (gn r k).pos := by omega
            go_wp2_with fail
            rw [← HW.out]
            refine wp_region_cls (Below W.heap.size W) (by kernel_rfl) (by kernel_rfl) below_drawn ?_
            repeat (go_big_quiet_step ((go_at_call 63; rename_i x; exact cls_below (ndv_as true (gn r k) sa sc _ (HT.out.keepB (hWb.trans (x.ok.mono (by omega))) (Nat.le_refl _)) hl HX.out HNV.out) x.ok (Nat.le_refl _))))
            refine wpQuiet_nil ?_
            intro w2 hw'
            have hb2 := cls_out hw'
            clear hw'
            have hbel2 : Below w.heap.size w w2 := hbel.trans ((hWb.trans (hb2.mono (by omega))).mono hbel.size)
            clear hW0 hW1 hW2
            clear hD0
            go_wp2
            go_roundw
            case rel => exact ⟨k + 1, by omega, by go_num, allTo_succ HA.out (by simp [rokAt, HNV.out]; omega), hbel2⟩
            case measure => simp [intOf]; omega
    · go_wp2
      go_ret
      exact ⟨ret_bool (by rw [He.out, show len = k by omega]; exact HA.out.symm), hbel⟩
end Go.Proofs.Ytfhjmfcdogpbeaa
