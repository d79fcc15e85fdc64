/- What the model's RingValid does. -/
import Derived.Test.YtfhjmfcdogpbeaaRing
namespace Go.Proofs.Ytfhjmfcdogpbeaa
open Go.RowKit
set_option linter.unusedVariables false

theorem rok_no {r : List Nd} {k : Nat} (h : ndB (gn r k) = false) : rokAt r k = false := by simp [rokAt, h]
theorem rok_yes {r : List Nd} {k : Nat} (h : ndB (gn r k) = true) (ho : k = 0 ∨ (gn r (k - 1)).pos < (gn r k).pos) : rokAt r k = true := by simp [rokAt, h]; exact ho
theorem rok_le {r : List Nd} {k : Nat} (hk : ¬ k = 0) (ho : (gn r k).pos ≤ (gn r (k - 1)).pos) : rokAt r k = false := by simp [rokAt, hk]; omega
theorem nd_pos {n : Nd} (h : ptB n.pos = false) : ndB n = false := by simp [ndB, h]
theorem nd_bef {n : Nd} (h : (n.bef != -1) = true) (h' : ptB n.bef = false) : ndB n = false := by
  have : ¬ n.bef = -1 := by simpa using h
  simp [ndB, befB, this, h']
theorem nd_len {n : Nd} (h : ((n.aft.length : Int) != 2) = true) : ndB n = false := by
  have : ¬ n.aft.length = 2 := by simp at h; omega
  simp [ndB, aftB, this]
theorem nd_two {n : Nd} {x y : Int} (hp : ptB n.pos = true) (hb : befB n.bef = true) (ha : n.aft = [x, y]) : ndB n = (ptB x && ptB y) := by
  simp [ndB, hp, hb, ha, aftB, gt]
theorem bef_one {b : Int} (h : (b != -1) = false) : befB b = true := by simp at h; simp [befB, h]
theorem bef_pt {b : Int} (h : ptB b = true) : befB b = true := by simp [befB, h]
theorem point_as (v : Bool) (n : Int) (w : World) (hv : ptB n = v) :
    Calls Try.prog 49 #[.int .i64 n] w fun e w' => e = .returned (.bool v) ∧ w = w' := by subst hv; exact point_any n w

set_option maxHeartbeats 4000000 in
theorem srv_any (a : Option Addr) (len cap : Nat) (r : List Nd) (w : World) (h : RingAt w a r) (hz : r.length = len) (hm : len ≤ maxLen) :
    Calls Try.prog 20 #[.slice a len cap] w fun e w' => e = .returned (.bool (rvB r)) ∧ Below w.heap.size w w' := by
  have HI := Lib.hid h
  have HZ := Lib.hid hz
  unfold maxLen at hm
  have He : Hid (rvB r = (allTo (rokAt r) len && decide (len ≤ 10))) := by show rvB r = _; rw [rvB, hz, Bool.and_comm]
  clear h hz
  go_enter Try.func20, Try.ntmps20
  go_wp2
  go_loopw [3] (fun i wr => ∃ k : Nat, k ≤ len ∧ i = .int .i64 k ∧ allTo (rokAt r) k = true ∧ Below w.heap.size w wr) (fun i _ => len - (intOf i).toNat)
  case atStart => exact ⟨0, by omega, rfl, rfl, Below.refl _ _⟩
  case round =>
    obtain ⟨k, hk, rfl, hall, hbel⟩ := hrel
    have HA := Lib.hid hall
    clear hall
    by_cases hlt : k < len
    · obtain ⟨b, off, rfl, hb0, hnodes⟩ := (HI.out.keepB hbel (Nat.le_refl _)).at_ (by rw [HZ.out]; exact hlt)
      obtain ⟨sa, sc, hc0, hc1, hc2, hl, hmx, hints⟩ := node_open (hnodes k (by rw [HZ.out]; exact hlt))
      have HN := Lib.hid hnodes
      clear hnodes
      have HX := Lib.hid hmx
      have HT := Lib.hid hints
      unfold maxLen at hmx
      clear hints
      have hbw : ∀ o, Below wr.heap.size wr (wr.alloc o) := fun o => (Below.refl _ _).alloc (Nat.le_refl _) _
      have HBW := Lib.hid hbw
      clear hbw
      obtain ⟨W, hW⟩ : ∃ W, W = wr.alloc (.cells #[.int .i64 (gn r k).pos, .int .i64 (gn r k).bef, .slice sa (gn r k).aft.length sc] 30) := ⟨_, rfl⟩
      have hWb : Below wr.heap.size wr W := by rw [hW]; exact HBW.out _
      have hWs : wr.heap.size < W.heap.size := by rw [hW]; simp
      have hW0 : ∀ x : Cls (Below W.heap.size W), x.to.cell? ⟨wr.heap.size, 0, none⟩ = some (.int .i64 (gn r k).pos) := fun x => (x.ok.cell (p := ⟨wr.heap.size, 0, none⟩) hWs).trans (by rw [hW]; simp)
      have hW1 : ∀ x : Cls (Below W.heap.size W), x.to.cell? ⟨wr.heap.size, 1, none⟩ = some (.int .i64 (gn r k).bef) := fun x => (x.ok.cell (p := ⟨wr.heap.size, 1, none⟩) hWs).trans (by rw [hW]; simp)
      have hC2 : W.cell? ⟨wr.heap.size, 2, none⟩ = some (.slice sa (gn r k).aft.length sc) := by rw [hW]; simp
      have hW2 : ∀ x : Cls (Below W.heap.size W), x.to.cell? ⟨wr.heap.size, 2, none⟩ = some (.slice sa (gn r k).aft.length sc) := fun x => (x.ok.cell (p := ⟨wr.heap.size, 2, none⟩) hWs).trans hC2
      have HC2 := Lib.hid hC2
      have HW := Lib.hid hW
      clear hW hC2
      have hD0 : ∀ x : Cls (Below W.heap.size W), 0 < k → x.to.cell? ⟨b, off + (k - 1) * 3, none⟩ = some (.int .i64 (gn r (k - 1)).pos) := fun x hk0 => ((hWb.trans (x.ok.mono (by omega))).cell (p := ⟨b, off + (k - 1) * 3, none⟩) hb0).trans (node_open (HN.out (k - 1) (by rw [HZ.out]; omega))).choose_spec.choose_spec.1
      cases hp : ptB (gn r k).pos
      · have HP := Lib.hid hp
        go_wp2_with fail
        rw [← HW.out]
        refine wp_region_cls (Below W.heap.size W) (by kernel_rfl) (by kernel_rfl) below_drawn ?_
        repeat (go_big_quiet_step ((go_at_call 49; rename_i x; first | exact cls_same (point_as _ _ _ hp) x.ok | exact cls_same (point_as _ _ _ hbp) x.ok)))
        refine wpQuiet_nil ?_
        intro w2 hw'
        have hb2 := cls_out hw'
        clear hw'
        have hbel2 : Below w.heap.size w w2 := hbel.trans ((hWb.trans (hb2.mono (by omega))).mono hbel.size)
        have hC2 := (hb2.cell (p := ⟨wr.heap.size, 2, none⟩) hWs).trans HC2.out
        clear hW0 hW1 hW2 hD0
        go_wp2
        go_ret
        exact ⟨ret_bool (by rw [He.out, allTo_no hlt, Bool.false_and]; exact rok_no (nd_pos hp)), hbel2⟩
      · cases hkp : decide (0 < k)
        · have hk0 : k = 0 := by simp at hkp; omega
          have hki : decide (0 < (k : Int)) = false := by simp; omega
          have HO : Hid (k = 0 ∨ (gn r (k - 1)).pos < (gn r k).pos) := .inl hk0
          have HK0 := Lib.hid hk0
          clear hk0
          cases hbn : ((gn r k).bef != -1)
          · have HB1 := Lib.hid (bef_one hbn)
            cases hln : (((gn r k).aft.length : Int) != 2)
            · have hl2 : (gn r k).aft.length = 2 := by simp at hln; omega
              obtain ⟨x, y, hxy⟩ : ∃ x y, (gn r k).aft = [x, y] := by
                match hh : (gn r k).aft, hl2 with
                | [x, y], _ => exact ⟨x, y, rfl⟩
              have HND := Lib.hid (nd_two hp HB1.out hxy)
              rw [hxy] at HT
              have hlen2 : (gn r k).aft.length = 2 := hl2
              clear hxy hl2
              rw [hlen2] at hW2 hc2 HC2 HW hl hln
              clear hlen2
              go_wp2_with fail
              rw [← HW.out]
              refine wp_region_cls (Below W.heap.size W) (by kernel_rfl) (by kernel_rfl) below_drawn ?_
              repeat (go_big_quiet_step ((go_at_call 49; rename_i x; first | exact cls_same (point_as _ _ _ hp) x.ok | exact cls_same (point_as _ _ _ hbp) x.ok)))
              refine wpQuiet_nil ?_
              intro w2 hw'
              have hb2 := cls_out hw'
              clear hw'
              have hbel2 : Below w.heap.size w w2 := hbel.trans ((hWb.trans (hb2.mono (by omega))).mono hbel.size)
              have hC2 := (hb2.cell (p := ⟨wr.heap.size, 2, none⟩) hWs).trans HC2.out
              clear hW0 hW1 hW2 hD0
              obtain ⟨b3, o3, rfl, hb3, hx0, hy0⟩ := ints_two HT.out
              have hxx : w2.cell? ⟨b3, o3, none⟩ = some (.int .i64 x) := ((hWb.trans (hb2.mono (by omega))).cell (p := ⟨b3, o3, none⟩) hb3).trans hx0
              have hyy : w2.cell? ⟨b3, o3 + 1, none⟩ = some (.int .i64 y) := ((hWb.trans (hb2.mono (by omega))).cell (p := ⟨b3, o3 + 1, none⟩) hb3).trans hy0
              clear hx0 hy0
              go_wp2
              go_loop [5] (fun i => ∃ m : Nat, m ≤ 2 ∧ i = .int .i64 m ∧ TwoOk x y m) (fun i => 2 - (intOf i).toNat)
              case atStart => exact ⟨0, by omega, rfl, two0 _ _⟩
              case round =>
                obtain ⟨m, hm2, rfl, h12⟩ := hrel
                by_cases hm0 : m = 0
                · subst hm0
                  cases hx : ptB x
                  · go_wp2_with (go_at_call 49; refine (point_as _ _ _ hx).mono ?_; rintro e w' ⟨rfl, rfl⟩)
                    go_ret
                    exact ⟨ret_bool (by rw [He.out, allTo_no hlt, Bool.false_and]; exact rok_no (HND.out.trans (by rw [hx]; simp))), hbel2⟩
                  · go_wp2_with (go_at_call 49; refine (point_as _ _ _ hx).mono ?_; rintro e w' ⟨rfl, rfl⟩)
                    go_round
                    case rel => exact ⟨1, by omega, by go_num, two1 hx⟩
                    case measure => simp [intOf]
                · by_cases hm1 : m = 1
                  · subst hm1
                    have hx := h12.1 (by omega)
                    cases hy : ptB y
                    · go_wp2_with (go_at_call 49; refine (point_as _ _ _ hy).mono ?_; rintro e w' ⟨rfl, rfl⟩)
                      go_ret
                      exact ⟨ret_bool (by rw [He.out, allTo_no hlt, Bool.false_and]; exact rok_no (HND.out.trans (by rw [hy]; simp))), hbel2⟩
                    · go_wp2_with (go_at_call 49; refine (point_as _ _ _ hy).mono ?_; rintro e w' ⟨rfl, rfl⟩)
                      go_round
                      case rel => exact ⟨2, by omega, by go_num, two2 hx hy⟩
                      case measure => simp [intOf]
                  · obtain rfl : m = 2 := by omega
                    have hx := h12.1 (by omega)
                    have hy := h12.2 (by omega)
                    go_wp2
                    go_roundw
                    case rel => exact ⟨k + 1, by omega, by go_num, allTo_succ HA.out (rok_yes (HND.out.trans (by rw [hx, hy]; rfl)) HO.out), hbel2⟩
                    case measure => simp [intOf]; omega
            · go_wp2_with fail
              rw [← HW.out]
              refine wp_region_cls (Below W.heap.size W) (by kernel_rfl) (by kernel_rfl) below_drawn ?_
              repeat (go_big_quiet_step ((go_at_call 49; rename_i x; first | exact cls_same (point_as _ _ _ hp) x.ok | exact cls_same (point_as _ _ _ hbp) x.ok)))
              refine wpQuiet_nil ?_
              intro w2 hw'
              have hb2 := cls_out hw'
              clear hw'
              have hbel2 : Below w.heap.size w w2 := hbel.trans ((hWb.trans (hb2.mono (by omega))).mono hbel.size)
              have hC2 := (hb2.cell (p := ⟨wr.heap.size, 2, none⟩) hWs).trans HC2.out
              clear hW0 hW1 hW2 hD0
              go_wp2
              go_ret
              exact ⟨ret_bool (by rw [He.out, allTo_no hlt, Bool.false_and]; exact rok_no (nd_len hln)), hbel2⟩
          · cases hbp : ptB (gn r k).bef
            · go_wp2_with fail
              rw [← HW.out]
              refine wp_region_cls (Below W.heap.size W) (by kernel_rfl) (by kernel_rfl) below_drawn ?_
              repeat (go_big_quiet_step ((go_at_call 49; rename_i x; first | exact cls_same (point_as _ _ _ hp) x.ok | exact cls_same (point_as _ _ _ hbp) x.ok)))
              refine wpQuiet_nil ?_
              intro w2 hw'
              have hb2 := cls_out hw'
              clear hw'
              have hbel2 : Below w.heap.size w w2 := hbel.trans ((hWb.trans (hb2.mono (by omega))).mono hbel.size)
              have hC2 := (hb2.cell (p := ⟨wr.heap.size, 2, none⟩) hWs).trans HC2.out
              clear hW0 hW1 hW2 hD0
              go_wp2
              go_ret
              exact ⟨ret_bool (by rw [He.out, allTo_no hlt, Bool.false_and]; exact rok_no (nd_bef hbn hbp)), hbel2⟩
            · have HB1 := Lib.hid (bef_pt hbp)
              cases hln : (((gn r k).aft.length : Int) != 2)
              · have hl2 : (gn r k).aft.length = 2 := by simp at hln; omega
                obtain ⟨x, y, hxy⟩ : ∃ x y, (gn r k).aft = [x, y] := by
                  match hh : (gn r k).aft, hl2 with
                  | [x, y], _ => exact ⟨x, y, rfl⟩
                have HND := Lib.hid (nd_two hp HB1.out hxy)
                rw [hxy] at HT
                have hlen2 : (gn r k).aft.length = 2 := hl2
                clear hxy hl2
                rw [hlen2] at hW2 hc2 HC2 HW hl hln
                clear hlen2
                go_wp2_with fail
                rw [← HW.out]
                refine wp_region_cls (Below W.heap.size W) (by kernel_rfl) (by kernel_rfl) below_drawn ?_
                repeat (go_big_quiet_step ((go_at_call 49; rename_i x; first | exact cls_same (point_as _ _ _ hp) x.ok | exact cls_same (point_as _ _ _ hbp) x.ok)))
                refine wpQuiet_nil ?_
                intro w2 hw'
                have hb2 := cls_out hw'
                clear hw'
                have hbel2 : Below w.heap.size w w2 := hbel.trans ((hWb.trans (hb2.mono (by omega))).mono hbel.size)
                have hC2 := (hb2.cell (p := ⟨wr.heap.size, 2, none⟩) hWs).trans HC2.out
                clear hW0 hW1 hW2 hD0
                obtain ⟨b3, o3, rfl, hb3, hx0, hy0⟩ := ints_two HT.out
                have hxx : w2.cell? ⟨b3, o3, none⟩ = some (.int .i64 x) := ((hWb.trans (hb2.mono (by omega))).cell (p := ⟨b3, o3, none⟩) hb3).trans hx0
                have hyy : w2.cell? ⟨b3, o3 + 1, none⟩ = some (.int .i64 y) := ((hWb.trans (hb2.mono (by omega))).cell (p := ⟨b3, o3 + 1, none⟩) hb3).trans hy0
                clear hx0 hy0
                go_wp2
                go_loop [5] (fun i => ∃ m : Nat, m ≤ 2 ∧ i = .int .i64 m ∧ TwoOk x y m) (fun i => 2 - (intOf i).toNat)
                case atStart => exact ⟨0, by omega, rfl, two0 _ _⟩
                case round =>
                  obtain ⟨m, hm2, rfl, h12⟩ := hrel
                  by_cases hm0 : m = 0
                  · subst hm0
                    cases hx : ptB x
                    · go_wp2_with (go_at_call 49; refine (point_as _ _ _ hx).mono ?_; rintro e w' ⟨rfl, rfl⟩)
                      go_ret
                      exact ⟨ret_bool (by rw [He.out, allTo_no hlt, Bool.false_and]; exact rok_no (HND.out.trans (by rw [hx]; simp))), hbel2⟩
                    · go_wp2_with (go_at_call 49; refine (point_as _ _ _ hx).mono ?_; rintro e w' ⟨rfl, rfl⟩)
                      go_round
                      case rel => exact ⟨1, by omega, by go_num, two1 hx⟩
                      case measure => simp [intOf]
                  · by_cases hm1 : m = 1
                    · subst hm1
                      have hx := h12.1 (by omega)
                      cases hy : ptB y
                      · go_wp2_with (go_at_call 49; refine (point_as _ _ _ hy).mono ?_; rintro e w' ⟨rfl, rfl⟩)
                        go_ret
                        exact ⟨ret_bool (by rw [He.out, allTo_no hlt, Bool.false_and]; exact rok_no (HND.out.trans (by rw [hy]; simp))), hbel2⟩
                      · go_wp2_with (go_at_call 49; refine (point_as _ _ _ hy).mono ?_; rintro e w' ⟨rfl, rfl⟩)
                        go_round
                        case rel => exact ⟨2, by omega, by go_num, two2 hx hy⟩
                        case measure => simp [intOf]
                    · obtain rfl : m = 2 := by omega
                      have hx := h12.1 (by omega)
                      have hy := h12.2 (by omega)
                      go_wp2
                      go_roundw
                      case rel => exact ⟨k + 1, by omega, by go_num, allTo_succ HA.out (rok_yes (HND.out.trans (by rw [hx, hy]; rfl)) HO.out), hbel2⟩
                      case measure => simp [intOf]; omega
              · go_wp2_with fail
                rw [← HW.out]
                refine wp_region_cls (Below W.heap.size W) (by kernel_rfl) (by kernel_rfl) below_drawn ?_
                repeat (go_big_quiet_step ((go_at_call 49; rename_i x; first | exact cls_same (point_as _ _ _ hp) x.ok | exact cls_same (point_as _ _ _ hbp) x.ok)))
                refine wpQuiet_nil ?_
                intro w2 hw'
                have hb2 := cls_out hw'
                clear hw'
                have hbel2 : Below w.heap.size w w2 := hbel.trans ((hWb.trans (hb2.mono (by omega))).mono hbel.size)
                have hC2 := (hb2.cell (p := ⟨wr.heap.size, 2, none⟩) hWs).trans HC2.out
                clear hW0 hW1 hW2 hD0
                go_wp2
                go_ret
                exact ⟨ret_bool (by rw [He.out, allTo_no hlt, Bool.false_and]; exact rok_no (nd_len hln)), hbel2⟩
        · have hk0 : 0 < k := by simpa using hkp
          have hki : (0 : Int) < (k : Int) := by omega
          have hki1 : (1 : Int) ≤ (k : Int) := by omega
          have hk1 : ((k : Int) - 1).toNat = k - 1 := by omega
          cases hle : decide ((gn r k).pos ≤ (gn r (k - 1)).pos)
          · have HO : Hid (k = 0 ∨ (gn r (k - 1)).pos < (gn r k).pos) := .inr (by simp at hle; omega)
            cases hbn : ((gn r k).bef != -1)
            · have HB1 := Lib.hid (bef_one hbn)
              cases hln : (((gn r k).aft.length : Int) != 2)
              · have hl2 : (gn r k).aft.length = 2 := by simp at hln; omega
                obtain ⟨x, y, hxy⟩ : ∃ x y, (gn r k).aft = [x, y] := by
                  match hh : (gn r k).aft, hl2 with
                  | [x, y], _ => exact ⟨x, y, rfl⟩
                have HND := Lib.hid (nd_two hp HB1.out hxy)
                rw [hxy] at HT
                have hlen2 : (gn r k).aft.length = 2 := hl2
                clear hxy hl2
                rw [hlen2] at hW2 hc2 HC2 HW hl hln
                clear hlen2
                go_wp2_with fail
                rw [← HW.out]
                refine wp_region_cls (Below W.heap.size W) (by kernel_rfl) (by kernel_rfl) below_drawn ?_
                repeat (go_big_quiet_step ((go_at_call 49; rename_i x; first | exact cls_same (point_as _ _ _ hp) x.ok | exact cls_same (point_as _ _ _ hbp) x.ok)))
                refine wpQuiet_nil ?_
                intro w2 hw'
                have hb2 := cls_out hw'
                clear hw'
                have hbel2 : Below w.heap.size w w2 := hbel.trans ((hWb.trans (hb2.mono (by omega))).mono hbel.size)
                have hC2 := (hb2.cell (p := ⟨wr.heap.size, 2, none⟩) hWs).trans HC2.out
                clear hW0 hW1 hW2 hD0
                obtain ⟨b3, o3, rfl, hb3, hx0, hy0⟩ := ints_two HT.out
                have hxx : w2.cell? ⟨b3, o3, none⟩ = some (.int .i64 x) := ((hWb.trans (hb2.mono (by omega))).cell (p := ⟨b3, o3, none⟩) hb3).trans hx0
                have hyy : w2.cell? ⟨b3, o3 + 1, none⟩ = some (.int .i64 y) := ((hWb.trans (hb2.mono (by omega))).cell (p := ⟨b3, o3 + 1, none⟩) hb3).trans hy0
                clear hx0 hy0
                go_wp2
                go_loop [5] (fun i => ∃ m : Nat, m ≤ 2 ∧ i = .int .i64 m ∧ TwoOk x y m) (fun i => 2 - (intOf i).toNat)
                case atStart => exact ⟨0, by omega, rfl, two0 _ _⟩
                case round =>
                  obtain ⟨m, hm2, rfl, h12⟩ := hrel
                  by_cases hm0 : m = 0
                  · subst hm0
                    cases hx : ptB x
                    · go_wp2_with (go_at_call 49; refine (point_as _ _ _ hx).mono ?_; rintro e w' ⟨rfl, rfl⟩)
                      go_ret
                      exact ⟨ret_bool (by rw [He.out, allTo_no hlt, Bool.false_and]; exact rok_no (HND.out.trans (by rw [hx]; simp))), hbel2⟩
                    · go_wp2_with (go_at_call 49; refine (point_as _ _ _ hx).mono ?_; rintro e w' ⟨rfl, rfl⟩)
                      go_round
                      case rel => exact ⟨1, by omega, by go_num, two1 hx⟩
                      case measure => simp [intOf]
                  · by_cases hm1 : m = 1
                    · subst hm1
                      have hx := h12.1 (by omega)
                      cases hy : ptB y
                      · go_wp2_with (go_at_call 49; refine (point_as _ _ _ hy).mono ?_; rintro e w' ⟨rfl, rfl⟩)
                        go_ret
                        exact ⟨ret_bool (by rw [He.out, allTo_no hlt, Bool.false_and]; exact rok_no (HND.out.trans (by rw [hy]; simp))), hbel2⟩
                      · go_wp2_with (go_at_call 49; refine (point_as _ _ _ hy).mono ?_; rintro e w' ⟨rfl, rfl⟩)
                        go_round
                        case rel => exact ⟨2, by omega, by go_num, two2 hx hy⟩
                        case measure => simp [intOf]
                    · obtain rfl : m = 2 := by omega
                      have hx := h12.1 (by omega)
                      have hy := h12.2 (by omega)
                      go_wp2
                      go_roundw
                      case rel => exact ⟨k + 1, by omega, by go_num, allTo_succ HA.out (rok_yes (HND.out.trans (by rw [hx, hy]; rfl)) HO.out), hbel2⟩
                      case measure => simp [intOf]; omega
              · go_wp2_with fail
                rw [← HW.out]
                refine wp_region_cls (Below W.heap.size W) (by kernel_rfl) (by kernel_rfl) below_drawn ?_
                repeat (go_big_quiet_step ((go_at_call 49; rename_i x; first | exact cls_same (point_as _ _ _ hp) x.ok | exact cls_same (point_as _ _ _ hbp) x.ok)))
                refine wpQuiet_nil ?_
                intro w2 hw'
                have hb2 := cls_out hw'
                clear hw'
                have hbel2 : Below w.heap.size w w2 := hbel.trans ((hWb.trans (hb2.mono (by omega))).mono hbel.size)
                have hC2 := (hb2.cell (p := ⟨wr.heap.size, 2, none⟩) hWs).trans HC2.out
                clear hW0 hW1 hW2 hD0
                go_wp2
                go_ret
                exact ⟨ret_bool (by rw [He.out, allTo_no hlt, Bool.false_and]; exact rok_no (nd_len hln)), hbel2⟩
            · cases hbp : ptB (gn r k).bef
              · go_wp2_with fail
                rw [← HW.out]
                refine wp_region_cls (Below W.heap.size W) (by kernel_rfl) (by kernel_rfl) below_drawn ?_
                repeat (go_big_quiet_step ((go_at_call 49; rename_i x; first | exact cls_same (point_as _ _ _ hp) x.ok | exact cls_same (point_as _ _ _ hbp) x.ok)))
                refine wpQuiet_nil ?_
                intro w2 hw'
                have hb2 := cls_out hw'
                clear hw'
                have hbel2 : Below w.heap.size w w2 := hbel.trans ((hWb.trans (hb2.mono (by omega))).mono hbel.size)
                have hC2 := (hb2.cell (p := ⟨wr.heap.size, 2, none⟩) hWs).trans HC2.out
                clear hW0 hW1 hW2 hD0
                go_wp2
                go_ret
                exact ⟨ret_bool (by rw [He.out, allTo_no hlt, Bool.false_and]; exact rok_no (nd_bef hbn hbp)), hbel2⟩
              · have HB1 := Lib.hid (bef_pt hbp)
                cases hln : (((gn r k).aft.length : Int) != 2)
                · have hl2 : (gn r k).aft.length = 2 := by simp at hln; omega
                  obtain ⟨x, y, hxy⟩ : ∃ x y, (gn r k).aft = [x, y] := by
                    match hh : (gn r k).aft, hl2 with
                    | [x, y], _ => exact ⟨x, y, rfl⟩
                  have HND := Lib.hid (nd_two hp HB1.out hxy)
                  rw [hxy] at HT
                  have hlen2 : (gn r k).aft.length = 2 := hl2
                  clear hxy hl2
                  rw [hlen2] at hW2 hc2 HC2 HW hl hln
                  clear hlen2
                  go_wp2_with fail
                  rw [← HW.out]
                  refine wp_region_cls (Below W.heap.size W) (by kernel_rfl) (by kernel_rfl) below_drawn ?_
                  repeat (go_big_quiet_step ((go_at_call 49; rename_i x; first | exact cls_same (point_as _ _ _ hp) x.ok | exact cls_same (point_as _ _ _ hbp) x.ok)))
                  refine wpQuiet_nil ?_
                  intro w2 hw'
                  have hb2 := cls_out hw'
                  clear hw'
                  have hbel2 : Below w.heap.size w w2 := hbel.trans ((hWb.trans (hb2.mono (by omega))).mono hbel.size)
                  have hC2 := (hb2.cell (p := ⟨wr.heap.size, 2, none⟩) hWs).trans HC2.out
                  clear hW0 hW1 hW2 hD0
                  obtain ⟨b3, o3, rfl, hb3, hx0, hy0⟩ := ints_two HT.out
                  have hxx : w2.cell? ⟨b3, o3, none⟩ = some (.int .i64 x) := ((hWb.trans (hb2.mono (by omega))).cell (p := ⟨b3, o3, none⟩) hb3).trans hx0
                  have hyy : w2.cell? ⟨b3, o3 + 1, none⟩ = some (.int .i64 y) := ((hWb.trans (hb2.mono (by omega))).cell (p := ⟨b3, o3 + 1, none⟩) hb3).trans hy0
                  clear hx0 hy0
                  go_wp2
                  go_loop [5] (fun i => ∃ m : Nat, m ≤ 2 ∧ i = .int .i64 m ∧ TwoOk x y m) (fun i => 2 - (intOf i).toNat)
                  case atStart => exact ⟨0, by omega, rfl, two0 _ _⟩
                  case round =>
                    obtain ⟨m, hm2, rfl, h12⟩ := hrel
                    by_cases hm0 : m = 0
                    · subst hm0
                      cases hx : ptB x
                      · go_wp2_with (go_at_call 49; refine (point_as _ _ _ hx).mono ?_; rintro e w' ⟨rfl, rfl⟩)
                        go_ret
                        exact ⟨ret_bool (by rw [He.out, allTo_no hlt, Bool.false_and]; exact rok_no (HND.out.trans (by rw [hx]; simp))), hbel2⟩
                      · go_wp2_with (go_at_call 49; refine (point_as _ _ _ hx).mono ?_; rintro e w' ⟨rfl, rfl⟩)
                        go_round
                        case rel => exact ⟨1, by omega, by go_num, two1 hx⟩
                        case measure => simp [intOf]
                    · by_cases hm1 : m = 1
                      · subst hm1
                        have hx := h12.1 (by omega)
                        cases hy : ptB y
                        · go_wp2_with (go_at_call 49; refine (point_as _ _ _ hy).mono ?_; rintro e w' ⟨rfl, rfl⟩)
                          go_ret
                          exact ⟨ret_bool (by rw [He.out, allTo_no hlt, Bool.false_and]; exact rok_no (HND.out.trans (by rw [hy]; simp))), hbel2⟩
                        · go_wp2_with (go_at_call 49; refine (point_as _ _ _ hy).mono ?_; rintro e w' ⟨rfl, rfl⟩)
                          go_round
                          case rel => exact ⟨2, by omega, by go_num, two2 hx hy⟩
                          case measure => simp [intOf]
                      · obtain rfl : m = 2 := by omega
                        have hx := h12.1 (by omega)
                        have hy := h12.2 (by omega)
                        go_wp2
                        go_roundw
                        case rel => exact ⟨k + 1, by omega, by go_num, allTo_succ HA.out (rok_yes (HND.out.trans (by rw [hx, hy]; rfl)) HO.out), hbel2⟩
                        case measure => simp [intOf]; omega
                · go_wp2_with fail
                  rw [← HW.out]
                  refine wp_region_cls (Below W.heap.size W) (by kernel_rfl) (by kernel_rfl) below_drawn ?_
                  repeat (go_big_quiet_step ((go_at_call 49; rename_i x; first | exact cls_same (point_as _ _ _ hp) x.ok | exact cls_same (point_as _ _ _ hbp) x.ok)))
                  refine wpQuiet_nil ?_
                  intro w2 hw'
                  have hb2 := cls_out hw'
                  clear hw'
                  have hbel2 : Below w.heap.size w w2 := hbel.trans ((hWb.trans (hb2.mono (by omega))).mono hbel.size)
                  have hC2 := (hb2.cell (p := ⟨wr.heap.size, 2, none⟩) hWs).trans HC2.out
                  clear hW0 hW1 hW2 hD0
                  go_wp2
                  go_ret
                  exact ⟨ret_bool (by rw [He.out, allTo_no hlt, Bool.false_and]; exact rok_no (nd_len hln)), hbel2⟩
          · have hle' : (gn r k).pos ≤ (gn r (k - 1)).pos := by simpa using hle
            go_wp2_with fail
            rw [← HW.out]
            refine wp_region_cls (Below W.heap.size W) (by kernel_rfl) (by kernel_rfl) below_drawn ?_
            repeat (go_big_quiet_step ((go_at_call 49; rename_i x; first | exact cls_same (point_as _ _ _ hp) x.ok | exact cls_same (point_as _ _ _ hbp) x.ok)))
            refine wpQuiet_nil ?_
            intro w2 hw'
            have hb2 := cls_out hw'
            clear hw'
            have hbel2 : Below w.heap.size w w2 := hbel.trans ((hWb.trans (hb2.mono (by omega))).mono hbel.size)
            have hC2 := (hb2.cell (p := ⟨wr.heap.size, 2, none⟩) hWs).trans HC2.out
            clear hW0 hW1 hW2 hD0
            go_wp2
            go_ret
            exact ⟨ret_bool (by rw [He.out, allTo_no hlt, Bool.false_and]; exact rok_le (by omega) hle'), hbel2⟩
    · have HK : Hid (k = len) := by show k = len; omega
      go_wp2
      go_ret
      exact ⟨ret_bool (by have h1 := HA.out; rw [HK.out] at h1; rw [He.out, h1, Bool.true_and, decide_eq_decide]; omega), hbel⟩
end Go.Proofs.Ytfhjmfcdogpbeaa
