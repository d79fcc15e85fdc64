/- Comparing rings in the model; RingIdeal and its model. -/
import Derived.Test.YtcbbdhmloniolaaIdealS
namespace Go.Proofs.Ytcbbdhmloniolaa
open Go.RowKit
set_option linter.unusedVariables false

theorem two_new {w W : World} {a b : Obj} (h : W = (w.alloc a).alloc b) :
    W.heap.size = w.heap.size + 2 ∧ Below w.heap.size w W ∧ W.heap[w.heap.size]? = some a ∧ W.heap[w.heap.size + 1]? = some b := by
  subst h
  exact ⟨by simp, ((Below.refl _ _).alloc (Nat.le_refl _) _).alloc (by simp) _, heap_first w a b, heap_second w a b⟩
theorem list_eq_iff {a b : List Int} (h : a.length = b.length) : a = b ↔ ∀ i, i < a.length → gt a i = gt b i := by
  constructor
  · rintro rfl i _; rfl
  · intro hh
    refine List.ext_getElem h fun i h1 h2 => ?_
    have := hh i h1
    rw [gt_get h1, gt_get h2] at this; exact this
theorem sameN_no_aft {n m : Nd} (h : ¬ n.aft = m.aft) : sameN n m = false := by simp [sameN, h]

set_option maxHeartbeats 1000000 in
theorem samend_any (n m : Nd) (sa sb : Option Addr) (ca cb : Nat) (w : World) (h1 : IntsAt w sa n.aft) (h2 : IntsAt w sb m.aft) (hl : n.aft.length ≤ maxLen) (hl' : m.aft.length ≤ maxLen) :
    Calls Try.prog 91 #[.agg #[.int .i64 n.pos, .int .i64 n.bef, .slice sa n.aft.length ca], .agg #[.int .i64 m.pos, .int .i64 m.bef, .slice sb m.aft.length cb]] w fun e w' => e = .returned (.bool (sameN n m)) ∧ Below w.heap.size w w' := by
  have H1 := Lib.hid h1
  have H2 := Lib.hid h2
  clear h1 h2
  unfold maxLen at hl hl'
  have HB : Hid (∀ a b, Below w.heap.size w ((w.alloc a).alloc b)) := fun a b => ((Below.refl _ _).alloc (Nat.le_refl _) _).alloc (by simp) _
  by_cases hp : n.pos = m.pos
  rotate_left
  · have He : Hid (sameN n m = false) := by show sameN n m = false; simp [sameN, hp]
    have v0 : (n.pos != m.pos) = true := by simp [hp]
    clear hp
    go_enter Try.func91, Try.ntmps91
    go_wp2
    go_ret
    exact ⟨ret_bool He.out.symm, HB.out _ _⟩
  by_cases hb : n.bef = m.bef
  rotate_left
  · have He : Hid (sameN n m = false) := by show sameN n m = false; simp [sameN, hb]
    have v0 : (n.pos != m.pos) = false := by simp [hp]
    have v1 : (n.bef != m.bef) = true := by simp [hb]
    clear hp hb
    go_enter Try.func91, Try.ntmps91
    go_wp2
    go_ret
    exact ⟨ret_bool He.out.symm, HB.out _ _⟩
  by_cases hlen : n.aft.length = m.aft.length
  rotate_left
  · have He : Hid (sameN n m = false) := sameN_no_aft (fun e => hlen (by rw [e]))
    have v0 : (n.pos != m.pos) = false := by simp [hp]
    have v1 : (n.bef != m.bef) = false := by simp [hb]
    have v2 : ((n.aft.length : Int) != (m.aft.length : Int)) = true := by simp; omega
    clear hp hb hlen
    go_enter Try.func91, Try.ntmps91
    go_wp2
    go_ret
    exact ⟨ret_bool He.out.symm, HB.out _ _⟩
  have He : Hid (sameN n m = decide (n.aft = m.aft)) := by show sameN n m = _; simp [sameN, hp, hb]
  have HL := Lib.hid hlen
  have v0 : (n.pos != m.pos) = false := by simp [hp]
  have v1 : (n.bef != m.bef) = false := by simp [hb]
  have v2 : ((n.aft.length : Int) != (m.aft.length : Int)) = false := by simp; omega
  clear hp hb hlen
  go_enter Try.func91, Try.ntmps91
  go_wp2
  clear v0 v1 v2
  generalize hW : (w.alloc (Obj.cells #[Value.int IntKind.i64 n.pos, Value.int IntKind.i64 n.bef, Value.slice sa n.aft.length ca] 28)).alloc (Obj.cells #[Value.int IntKind.i64 m.pos, Value.int IntKind.i64 m.bef, Value.slice sb m.aft.length cb] 28) = W
  obtain ⟨_, hBW, k0, k1⟩ := two_new hW.symm
  have x0 : W.cell? ⟨w.heap.size, 2, none⟩ = some (.slice sa n.aft.length ca) := by rw [cell_of_cells k0]; rfl
  have x1 : W.cell? ⟨w.heap.size + 1, 2, none⟩ = some (.slice sb m.aft.length cb) := by rw [cell_of_cells k1]; rfl
  have J1 := Lib.hid (H1.out.keepB hBW (Nat.le_refl _))
  have J2 := Lib.hid (H2.out.keepB hBW (Nat.le_refl _))
  clear hW k0 k1
  go_loopw [5] (fun i wr => ∃ k : Nat, k ≤ n.aft.length ∧ i = .int .i64 k ∧ (∀ j, j < k → gt n.aft j = gt m.aft j) ∧ Same W wr) (fun i _ => n.aft.length - (intOf i).toNat)
  case atStart => exact ⟨0, by omega, rfl, fun j hj => absurd hj (by omega), Same.refl _⟩
  case round =>
    obtain ⟨k, hk, rfl, hall, hs⟩ := hrel
    have HA := Lib.hid hall
    clear hall
    have y0 := (hs.cell ⟨w.heap.size, 2, none⟩).trans x0
    have y1 := (hs.cell ⟨w.heap.size + 1, 2, none⟩).trans x1
    by_cases hlt : k < n.aft.length
    · have h' : ∃ b off, sa = some ⟨b, off, none⟩ ∧ wr.cell? ⟨b, off + k, none⟩ = some (.int .i64 (gt n.aft k)) := by
        rcases J1.out with h0 | ⟨b, off, ha, hb, hc⟩
        · rw [h0] at hlt; simp at hlt
        · exact ⟨b, off, ha, (hs.cell _).trans (hc k hlt)⟩
      have h'' : ∃ b off, sb = some ⟨b, off, none⟩ ∧ wr.cell? ⟨b, off + k, none⟩ = some (.int .i64 (gt m.aft k)) := by
        rcases J2.out with h0 | ⟨b, off, ha, hb, hc⟩
        · have e := HL.out; rw [h0] at e; rw [e] at hlt; simp at hlt
        · exact ⟨b, off, ha, (hs.cell _).trans (hc k (by rw [← HL.out]; exact hlt))⟩
      obtain ⟨b, off, rfl, hc⟩ := h'
      obtain ⟨b2, off2, rfl, hc2⟩ := h''
      have q0 : (0 : Int) ≤ (k : Int) := by omega
      have q1 : (k : Int) < (n.aft.length : Int) := by omega
      have q2 : (k : Int) < (m.aft.length : Int) := by have := HL.out; omega
      have q3 : k < m.aft.length := by have := HL.out; omega
      cases hv : (gt n.aft k != gt m.aft k)
      · have HV : Hid (gt n.aft k = gt m.aft k) := by show _ = _; simpa using hv
        go_wp2
        go_quiet (fail)
        go_wp2
        go_roundw
        case rel =>
          refine ⟨k + 1, by omega, by go_num, fun j hj => ?_, hs.drewN _⟩
          rcases Nat.lt_or_ge j k with h' | h'
          · exact HA.out j h'
          · rw [show j = k by omega]; exact HV.out
        case measure => simp [intOf]; omega
      · have HV : Hid (¬ gt n.aft k = gt m.aft k) := by show ¬ _; simpa using hv
        go_wp2
        go_quiet (fail)
        go_wp2
        go_ret
        refine ⟨ret_bool ?_, hBW.trans ((hs.drewN _).below _)⟩
        rw [He.out, decide_eq_false]
        intro e; exact HV.out (by rw [e])
    · go_wp2
      go_ret
      refine ⟨ret_bool ?_, hBW.trans (hs.below _)⟩
      rw [He.out, decide_eq_true]
      exact (list_eq_iff HL.out).2 (fun i hi => HA.out i (by omega))
theorem samend_as (v : Bool) (n m : Nd) (sa sb : Option Addr) (ca cb : Nat) (w : World) (h1 : IntsAt w sa n.aft) (h2 : IntsAt w sb m.aft) (hl : n.aft.length ≤ maxLen) (hl' : m.aft.length ≤ maxLen) (hv : sameN n m = v) :
    Calls Try.prog 91 #[.agg #[.int .i64 n.pos, .int .i64 n.bef, .slice sa n.aft.length ca], .agg #[.int .i64 m.pos, .int .i64 m.bef, .slice sb m.aft.length cb]] w fun e w' => e = .returned (.bool v) ∧ Below w.heap.size w w' := by
  subst hv; exact samend_any n m sa sb ca cb w h1 h2 hl hl'

set_option maxHeartbeats 1000000 in
theorem same_any (a1 a2 : Option Addr) (len len2 cap1 cap2 : Nat) (r r2 : List Nd) (w : World) (h1 : RingAt w a1 r) (h2 : RingAt w a2 r2) (hz : r.length = len) (hz2 : r2.length = len2) (hm : len ≤ maxLen) (hm2 : len2 ≤ maxLen) :
    Calls Try.prog 77 #[.slice a1 len cap1, .slice a2 len2 cap2] w fun e w' => e = .returned (.bool (sameR r r2)) ∧ Below w.heap.size w w' := by
  have H1 := Lib.hid h1
  have H2 := Lib.hid h2
  have HZ := Lib.hid hz
  have HZ2 := Lib.hid hz2
  unfold maxLen at hm hm2
  by_cases hlen : len = len2
  rotate_left
  · have He : Hid (sameR r r2 = false) := by show sameR r r2 = false; simp [sameR, hz, hz2, hlen]
    have v2 : ((len : Int) != (len2 : Int)) = true := by simp; omega
    clear h1 h2 hz hz2 hlen
    go_enter Try.func77, Try.ntmps77
    go_wp2
    go_ret
    exact ⟨ret_bool He.out.symm, Below.refl _ _⟩
  subst hlen
  have He : Hid (sameR r r2 = allTo (fun i => sameN (gn r i) (gn r2 i)) len) := by show sameR r r2 = _; simp [sameR, hz, hz2]
  have v2 : ((len : Int) != (len : Int)) = false := by simp
  clear h1 h2 hz hz2
  go_enter Try.func77, Try.ntmps77
  go_wp2
  clear v2
  go_loopw [5] (fun i wr => ∃ k : Nat, k ≤ len ∧ i = .int .i64 k ∧ allTo (fun i => sameN (gn r i) (gn r2 i)) k = true ∧ Below w.heap.size w wr) (fun i _ => len - (intOf i).toNat)
  case atStart => exact ⟨0, by omega, rfl, rfl, Below.refl _ _⟩
  case round =>
    obtain ⟨k, hk, rfl, hall, hbel⟩ := hrel
    have HA := Lib.hid hall
    clear hall
    obtain ⟨wo, rfl⟩ : ∃ x, x = wr := ⟨_, rfl⟩
    by_cases hlt : k < len
    · have hkr : k < r.length := by rw [HZ.out]; exact hlt
      have hkr2 : k < r2.length := by rw [HZ2.out]; exact hlt
      obtain ⟨b, off, rfl, hb0, hnodes⟩ := (H1.out.keepB hbel (Nat.le_refl _)).at_ hkr
      obtain ⟨sa, sc, hc0, hc1, hc2, hl, hmx, hints⟩ := node_open (hnodes k hkr)
      obtain ⟨b', off', rfl, hb0', hnodes'⟩ := (H2.out.keepB hbel (Nat.le_refl _)).at_ hkr2
      obtain ⟨sa', sc', hd0, hd1, hd2, hl', hmx', hints'⟩ := node_open (hnodes' k hkr2)
      have HM := Lib.hid (Nat.le_trans hl hmx)
      have HM' := Lib.hid (Nat.le_trans hl' hmx')
      clear hnodes hnodes' hmx hmx'
      have HT := Lib.hid hints
      have HT' := Lib.hid hints'
      clear hints hints'
      have e0 : ∀ x : Cls (Below wo.heap.size wo), x.to.cell? ⟨b, off + k * 3, none⟩ = some (.int .i64 (gn r k).pos) := fun x => (x.ok.cell (p := ⟨b, off + k * 3, none⟩) hb0).trans hc0
      have e1 : ∀ x : Cls (Below wo.heap.size wo), x.to.cell? ⟨b, off + k * 3 + 1, none⟩ = some (.int .i64 (gn r k).bef) := fun x => (x.ok.cell (p := ⟨b, off + k * 3 + 1, none⟩) hb0).trans hc1
      have e2 : ∀ x : Cls (Below wo.heap.size wo), x.to.cell? ⟨b, off + k * 3 + 2, none⟩ = some (.slice sa (gn r k).aft.length sc) := fun x => (x.ok.cell (p := ⟨b, off + k * 3 + 2, none⟩) hb0).trans hc2
      have e3 : ∀ x : Cls (Below wo.heap.size wo), x.to.cell? ⟨b', off' + k * 3, none⟩ = some (.int .i64 (gn r2 k).pos) := fun x => (x.ok.cell (p := ⟨b', off' + k * 3, none⟩) hb0').trans hd0
      have e4 : ∀ x : Cls (Below wo.heap.size wo), x.to.cell? ⟨b', off' + k * 3 + 1, none⟩ = some (.int .i64 (gn r2 k).bef) := fun x => (x.ok.cell (p := ⟨b', off' + k * 3 + 1, none⟩) hb0').trans hd1
      have e5 : ∀ x : Cls (Below wo.heap.size wo), x.to.cell? ⟨b', off' + k * 3 + 2, none⟩ = some (.slice sa' (gn r2 k).aft.length sc') := fun x => (x.ok.cell (p := ⟨b', off' + k * 3 + 2, none⟩) hb0').trans hd2
      have i0 : (0 : Int) ≤ (k : Int) := by omega
      have i1 : (k : Int) < (len : Int) := by omega
      cases hsn : sameN (gn r k) (gn r2 k)
      all_goals
        have HSN := Lib.hid hsn
        clear hsn
        go_wp2
        refine wp_region_cls (Below wo.heap.size wo) (by kernel_rfl) (by kernel_rfl) below_drawn ?_
        repeat (go_big_quiet_step ((go_at_call 91; rename_i x; exact cls_below (samend_as _ (gn r k) (gn r2 k) sa sa' sc sc' _ (HT.out.keepB x.ok (Nat.le_refl _)) (HT'.out.keepB x.ok (Nat.le_refl _)) HM.out HM'.out HSN.out) x.ok (Nat.le_refl _))))
        refine wpQuiet_nil ?_
        intro w2 hw'
        have hb2 := cls_out hw'
        clear hw' e0 e1 e2 e3 e4 e5
        go_wp2
      · go_ret
        exact ⟨ret_bool (by rw [He.out, allTo_no hlt HSN.out]), hbel.trans (hb2.mono hbel.size)⟩
      · go_roundw
        case rel => exact ⟨k + 1, by omega, by go_num, allTo_succ HA.out HSN.out, hbel.trans (hb2.mono hbel.size)⟩
        case measure => simp [intOf]; omega
    · go_wp2
      go_ret
      exact ⟨ret_bool (by rw [He.out, show len = k by omega]; exact HA.out.symm), hbel⟩
theorem same_as (v : Bool) (a1 a2 : Option Addr) (len len2 cap1 cap2 : Nat) (r r2 : List Nd) (w : World) (h1 : RingAt w a1 r) (h2 : RingAt w a2 r2) (hz : r.length = len) (hz2 : r2.length = len2) (hm : len ≤ maxLen) (hm2 : len2 ≤ maxLen) (hv : sameR r r2 = v) :
    Calls Try.prog 77 #[.slice a1 len cap1, .slice a2 len2 cap2] w fun e w' => e = .returned (.bool v) ∧ Below w.heap.size w w' := by
  subst hv; exact same_any a1 a2 len len2 cap1 cap2 r r2 w h1 h2 hz hz2 hm hm2

theorem nb_one {n i : Nat} (h : 0 < n) : nbI n i 1 = (i + 1) % n := by
  unfold nbI
  rw [Int.add_emod_right, show (i : Int) + 1 = ((i + 1 : Nat) : Int) by omega, ← Int.natCast_emod]; exact Int.toNat_natCast _
theorem nb_two {n i : Nat} (h : 0 < n) : nbI n i 2 = (i + 2) % n := by
  unfold nbI
  rw [Int.add_emod_right, show (i : Int) + 2 = ((i + 2 : Nat) : Int) by omega, ← Int.natCast_emod]; exact Int.toNat_natCast _
theorem nb_less {n i : Nat} (h : 0 < n) : nbI n i (-1) = (i + n - 1) % n := by
  unfold nbI
  rw [show (i : Int) + -1 + n = ((i + n - 1 : Nat) : Int) by omega, ← Int.natCast_emod]; exact Int.toNat_natCast _
theorem idl_kn {r : List Nd} (hv : rvB r = true) (h3 : 3 ≤ r.length) : sameR r (idR (idsOf r)) = allTo (knB r) r.length := by
  have hl : (idR (idsOf r)).length = r.length := by rw [idR_len, ids_len]
  have he : ∀ i, i < r.length → sameN (gn r i) (gn (idR (idsOf r)) i) = knB r i := by
    intro i hi
    rw [idR_at (by rw [ids_len]; exact hi), idNd, ids_len]
    obtain ⟨_, _, x, y, ha, _⟩ := (ndB_iff _).1 (rv_nd hv hi)
    have hp : 0 < r.length := by omega
    unfold knB kn1 knb
    rw [nb_one hp, nb_two hp, nb_less hp, ids_gt hi, ids_gt (Nat.mod_lt _ hp), ids_gt (Nat.mod_lt _ hp), ids_gt (Nat.mod_lt _ hp), ha]
    have e0 : gt [x, y] 0 = x := rfl
    have e1 : gt [x, y] 1 = y := rfl
    rw [e0, e1, Bool.eq_iff_iff]
    simp only [sameN, ha, Bool.and_eq_true, decide_eq_true_eq, List.cons.injEq, and_true, true_and]
    constructor
    · rintro ⟨h1, h2, h3⟩; exact ⟨⟨h2, h3⟩, h1⟩
    · rintro ⟨⟨h2, h3⟩, h1⟩; exact ⟨h1, h2, h3⟩
  rw [Bool.eq_iff_iff]
  simp only [sameR, hl, decide_true, Bool.true_and, allTo_iff]
  constructor
  · intro h i hi; rw [← he i hi]; exact h i hi
  · intro h i hi; rw [he i hi]; exact h i hi
theorem idl_eq {r : List Nd} (hv : rvB r = true) (h3 : 3 ≤ r.length) : idlB r = allTo (knB r) r.length := by rw [idlB, hv, idl_kn hv h3]; simp [h3]


set_option maxHeartbeats 1000000 in
theorem ridl_any (a : Option Addr) (len cap : Nat) (r : List Nd) (w : World) (h : RingAt w a r) (hz : r.length = len) (hm : len ≤ maxLen) :
    Calls Try.prog 33 #[.slice a len cap] w fun e w' => e = .returned (.bool (idlB r)) ∧ Below w.heap.size w w' := by
  have HI := Lib.hid h
  have HZ := Lib.hid hz
  have HM := Lib.hid hm
  clear h hm
  cases hv : rvB r
  · have He : Hid (idlB r = false) := by show idlB r = false; simp [idlB, hv]
    have HV := Lib.hid hv
    clear hv hz
    go_enter Try.func33, Try.ntmps33
    go_wp2_with fail
    refine (rv_as false a len cap r w HI.out HZ.out HM.out HV.out).mono ?_
    rintro e w1 ⟨rfl, hb1⟩
    go_wp2
    go_ret
    exact ⟨ret_bool He.out.symm, hb1⟩
  have HV := Lib.hid hv
  have h10 := rv_len hv
  rw [hz] at h10
  by_cases h3 : 3 ≤ len
  rotate_left
  · have He : Hid (idlB r = false) := by show idlB r = false; simp [idlB, hv, hz]; intro h; exact absurd h h3
    have d3 : decide ((len : Int) < 3) = true := by simp; omega
    clear hv hz
    go_enter Try.func33, Try.ntmps33
    go_wp2_with fail
    refine (rv_as true a len cap r w HI.out HZ.out HM.out HV.out).mono ?_
    rintro e w1 ⟨rfl, hb1⟩
    go_wp2
    go_ret
    exact ⟨ret_bool He.out.symm, hb1⟩
  have He : Hid (idlB r = allTo (knB r) len) := by show idlB r = _; rw [idl_eq hv (by rw [hz]; exact h3), hz]
  have d3 : decide ((len : Int) < 3) = false := by simp; omega
  clear hv
  go_enter Try.func33, Try.ntmps33
  go_wp2_with fail
  refine (rv_as true a len cap r w HI.out HZ.out HM.out HV.out).mono ?_
  rintro e w1 ⟨rfl, hb1⟩
  go_wp2_with fail
  clear d3
  refine (link_any a len cap r w1 (HI.out.keepB hb1 (Nat.le_refl _)) HZ.out HV.out).mono ?_
  rintro e w2 ⟨K, rfl, hnet, hb2⟩
  have HN := Lib.hid hnet
  have hbw : Below w.heap.size w w2 := hb1.trans (hb2.mono hb1.size)
  generalize w1.heap.size + 1 = L at *
  rw [hz]
  clear hnet hb1 hb2 hz
  go_wp2
  go_loopw [17] (fun i wr => ∃ k : Nat, k ≤ len ∧ i = .int .i64 k ∧ allTo (knB r) k = true ∧ Same w2 wr) (fun i _ => len - (intOf i).toNat)
  case atStart => exact ⟨0, by omega, rfl, rfl, Same.refl _⟩
  case round =>
    obtain ⟨k, hk, rfl, hall, hs⟩ := hrel
    have HA := Lib.hid hall
    clear hall
    by_cases hlt : k < len
    · have HNET := Lib.hid (HN.out.same hs)
      cases hkn : knB r k
      · have HK := Lib.hid hkn
        clear hkn
        go_wp2_with fail
        refine (kn_any false L r K len len k wr HNET.out HV.out HZ.out h3 hlt HK.out).mono ?_
        rintro e w3 ⟨rfl, hs3⟩
        go_wp2
        go_ret
        exact ⟨ret_bool (by rw [He.out, allTo_no hlt HK.out]), hbw.trans ((hs.trans hs3).below _)⟩
      · have HK := Lib.hid hkn
        clear hkn
        go_wp2_with fail
        refine (kn_any true L r K len len k wr HNET.out HV.out HZ.out h3 hlt HK.out).mono ?_
        rintro e w3 ⟨rfl, hs3⟩
        go_wp2
        go_roundw
        case rel => exact ⟨k + 1, by omega, by go_num, allTo_succ HA.out HK.out, hs.trans hs3⟩
        case measure => simp [intOf]; omega
    · go_wp2
      go_ret
      exact ⟨ret_bool (by rw [He.out, show len = k by omega]; exact HA.out.symm), hbw.trans (hs.below _)⟩
end Go.Proofs.Ytcbbdhmloniolaa
