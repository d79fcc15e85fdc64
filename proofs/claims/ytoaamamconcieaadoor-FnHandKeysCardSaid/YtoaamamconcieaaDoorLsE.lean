/- What the program does to leases, with the two errors: handing over, taking over. -/
import Derived.Test.YtoaamamconcieaaDoorLsIns
import Derived.Test.YtoaamamconcieaaDoorLsErr
import Derived.WideLaws
namespace Go.Proofs.YtoaamamconcieaaDoor
open Go.RowKit
set_option linter.unusedVariables false

theorem handOk_lz (L : List Ls) (fr at_ to ut : Int) : handOk L fr at_ to ut = (lvB L && ptB fr && lzB ⟨at_, to, ut⟩) := by simp [handOk, lzB, Bool.and_assoc]
/-- what handed and taken leave -/
def OutPost (ok : Bool) (R : List Ls × Bool) (e0 e1 : Addr) (w : World) (e : Ending) (w' : World) : Prop :=
  Below w.heap.size w w' ∧ ((ok = false ∧ e = .returned (.tuple #[.slice none 0 0, .iface 89 (.pointer (some e0))])) ∨
    (ok = true ∧ R.2 = false ∧ e = .returned (.tuple #[.slice none 0 0, .iface 89 (.pointer (some e1))])) ∨
    (ok = true ∧ R.2 = true ∧ ∃ g c, e = .returned (.tuple #[.slice (some ⟨g, 0, none⟩) R.1.length c, .nilIface]) ∧ OwnS w' w.heap.size g c R.1))
/-- .. LeaseHand and LeaseTake -/
def AnsPost (R : List Ls × Bool) (w : World) (e : Ending) (w' : World) : Prop :=
  ∃ g c, e = .returned (.tuple #[.slice (some ⟨g, 0, none⟩) R.1.length c, .bool R.2]) ∧ OwnS w' w.heap.size g c R.1 ∧ Below w.heap.size w w'

set_option maxHeartbeats 1000000 in
theorem answer_inv (a : Option Addr) (len cap : Nat) (v : Value) (e0 e1 : Addr) (w : World) (he : Errs w e0 e1) :
    Calls Tryd.prog 29 #[.slice a len cap, v, .iface 89 (.pointer (some e0))] w (AnsPost ([], false) w) := by
  have c1 := he.c1
  obtain ⟨cs0, t0, b0⟩ := he.b0
  obtain ⟨cs1, t1, b1⟩ := he.b1
  have H0 := Lib.hid b0
  have H1 := Lib.hid b1
  have HN := Lib.hid he.ne
  clear b0 b1 he
  go_enter Tryd.func29, Tryd.ntmps29
  go_wp2_with fail
  refine (is_other e0 e1 cs0 cs1 t0 t1 w HN.out H0.out H1.out).mono ?_
  rintro e w' ⟨rfl, rfl⟩
  go_wp2
  go_ret2
  exact ⟨_, 0, rfl, own_none _ _ rfl, alB _ _⟩

set_option maxHeartbeats 1000000 in
theorem answer_ref (a : Option Addr) (len cap : Nat) (v : Value) (L : List Ls) (e0 e1 : Addr) (w : World) (he : Errs w e0 e1) (h : LsAt w a L) (hz : L.length = len) (h0 : 0 < len) (hm : len ≤ 12) :
    Calls Tryd.prog 29 #[.slice a len cap, v, .iface 89 (.pointer (some e1))] w (AnsPost (L, false) w) := by
  have c1 := he.c1
  have HI := Lib.hid h
  have HZ := Lib.hid hz
  clear he h hz
  go_enter Tryd.func29, Tryd.ntmps29
  go_wp2_with fail
  refine (is_same e1 w).mono ?_
  rintro e w' ⟨rfl, rfl⟩
  go_wp2_with fail
  refine (cloneL_any a len cap L _ HI.out HZ.out h0 (by omega)).mono ?_
  rintro e w3 ⟨g, c, rfl, ho3, hb3⟩
  have HO := Lib.hid ho3
  clear ho3
  go_wp2
  go_ret2
  exact ⟨g, c, by rw [HZ.out]; rfl, HO.out, hb3⟩

set_option maxHeartbeats 1000000 in
theorem answer_ok (a : Option Addr) (len cap : Nat) (v : Value) (e0 e1 : Addr) (w : World) (he : Errs w e0 e1) :
    Calls Tryd.prog 29 #[.slice a len cap, v, .nilIface] w fun e w' => e = .returned (.tuple #[v, .bool true]) ∧ w' = w := by
  have c1 := he.c1
  clear he
  go_enter Tryd.func29, Tryd.ntmps29
  go_wp2_with fail
  refine (is_nil e1 w).mono ?_
  rintro e w' ⟨rfl, rfl⟩
  go_wp2
  go_ret2
  exact ⟨rfl, rfl⟩

theorem fd_at_eq {L : List Ls} {key : Int} (hv : lvB L = true) (h : (ofL L key).e = key) : fdL L key < L.length ∧ atL L key = fdL L key := by
  have h1 := ((fd_whole hv key).1 h).1
  exact ⟨h1, by unfold atL; rw [if_pos h1]⟩

set_option maxRecDepth 20000 in
set_option maxHeartbeats 4000000 in
theorem handed_any (a : Option Addr) (len cap : Nat) (L : List Ls) (fr at_ to ut : Int) (e0 e1 : Addr) (w : World) (h : LsAt w a L) (hz : L.length = len) (hm : len ≤ maxLen) (he : Errs w e0 e1) :
    Calls Tryd.prog 28 #[.slice a len cap, .int .i64 fr, .int .i64 at_, .int .i64 to, .int .i64 ut] w (OutPost (handOk L fr at_ to ut) (handR L fr at_ to ut) e0 e1 w) := by
  have HI := Lib.hid h
  have HZ := Lib.hid hz
  have HM := Lib.hid hm
  have HE := Lib.hid he
  clear h hz hm he
  obtain ⟨W, hW⟩ : ∃ W, W = w.alloc (.cells #[.int .i64 at_, .int .i64 to, .int .i64 ut] 35) := ⟨_, rfl⟩
  have hWb : Below w.heap.size w W := by rw [hW]; exact alB _ _
  have hWs : w.heap.size < W.heap.size := by rw [hW]; simp
  have HWh : Hid (W.heap[w.heap.size]? = some (.cells #[.int .i64 at_, .int .i64 to, .int .i64 ut] 35 (0, 0))) := by show _ = _; rw [hW]; exact heap_alloc_new _ _
  have HW := Lib.hid hW
  clear hW
  cases hv : lvB L
  · have HK : Hid (handOk L fr at_ to ut = false) := by show _ = false; rw [handOk_lz, hv]; rfl
    go_enter Tryd.func28, Tryd.ntmps28
    go_wp2_with fail
    rw [← HW.out]
    refine (lvs_any a len cap L W (HI.out.keepB hWb (Nat.le_refl _)) HZ.out HM.out).mono ?_
    rintro e w2 ⟨rfl, hb2⟩
    have hB2 : Below w.heap.size w w2 := hWb.trans (hb2.mono (by omega))
    rw [hv]
    have g0 := (HE.out.keep hB2).c0
    go_wp2
    go_quiet (fail)
    clear g0
    go_wp2
    go_ret2
    exact ⟨bel_dN hB2 _, .inl ⟨HK.out, rfl⟩⟩
  cases h0 : ptB fr
  · have HK : Hid (handOk L fr at_ to ut = false) := by show _ = false; rw [handOk_lz, hv, h0]; rfl
    go_enter Tryd.func28, Tryd.ntmps28
    go_wp2_with fail
    rw [← HW.out]
    refine (lvs_any a len cap L W (HI.out.keepB hWb (Nat.le_refl _)) HZ.out HM.out).mono ?_
    rintro e w2 ⟨rfl, hb2⟩
    have hB2 : Below w.heap.size w w2 := hWb.trans (hb2.mono (by omega))
    rw [hv]
    go_wp2_with fail
    refine (valid_any fr w2).mono ?_
    rintro e w' ⟨rfl, rfl⟩
    rw [h0]
    have g0 := (HE.out.keep hB2).c0
    go_wp2
    go_quiet (fail)
    clear g0
    go_wp2
    go_ret2
    exact ⟨bel_dN hB2 _, .inl ⟨HK.out, rfl⟩⟩
  cases h1 : lzB ⟨at_, to, ut⟩
  · have HK : Hid (handOk L fr at_ to ut = false) := by show _ = false; rw [handOk_lz, hv, h0, h1]; rfl
    go_enter Tryd.func28, Tryd.ntmps28
    go_wp2_with fail
    rw [← HW.out]
    refine (lvs_any a len cap L W (HI.out.keepB hWb (Nat.le_refl _)) HZ.out HM.out).mono ?_
    rintro e w2 ⟨rfl, hb2⟩
    have hB2 : Below w.heap.size w w2 := hWb.trans (hb2.mono (by omega))
    rw [hv]
    go_wp2_with fail
    refine (valid_any fr w2).mono ?_
    rintro e w' ⟨rfl, rfl⟩
    rw [h0]
    have hp := (hb2.block w.heap.size hWs).trans HWh.out
    have p0 : w2.cell? ⟨w.heap.size, 0, none⟩ = some (.int .i64 at_) := by rw [cell_of_cells hp]; rfl
    have p1 : w2.cell? ⟨w.heap.size, 1, none⟩ = some (.int .i64 to) := by rw [cell_of_cells hp]; rfl
    have p2 : w2.cell? ⟨w.heap.size, 2, none⟩ = some (.int .i64 ut) := by rw [cell_of_cells hp]; rfl
    clear hp
    go_wp2_with fail
    refine (lvalid_as false ⟨at_, to, ut⟩ w2 h1).mono ?_
    rintro e w3 ⟨rfl, hb3⟩
    have hB3 : Below w.heap.size w w3 := hB2.trans (hb3.mono hB2.size)
    clear p0 p1 p2
    have g0 := (HE.out.keep hB3).c0
    go_wp2
    go_quiet (fail)
    clear g0
    go_wp2
    go_ret2
    exact ⟨bel_dN hB3 _, .inl ⟨HK.out, rfl⟩⟩
  have hok : handOk L fr at_ to ut = true := by rw [handOk_lz, hv, h0, h1]; rfl
  have HOK := Lib.hid hok
  have HV := Lib.hid hv
  have h12 : 1 ≤ len ∧ len ≤ 12 := by have := lv_len hv; rw [HZ.out] at this; exact this
  obtain ⟨hl1, hl2⟩ := h12
  have hal := at_lt (L := L) (by rw [HZ.out]; omega) at_
  rw [HZ.out] at hal
  have hfl := fd_le L at_
  rw [HZ.out] at hfl
  clear hok
  cases hwh : decide ((ofL L at_).e = at_)
  · have hne : ¬ (ofL L at_).e = at_ := by simpa using hwh
    by_cases ho : ¬ (ofL L at_).o = fr
    · have HR := Lib.hid (hand_o HOK.out ho)
      have c1 : ((gl L (atL L at_)).o != fr) = true := by simp; exact ho
      clear ho
      go_enter Tryd.func28, Tryd.ntmps28
      go_wp2_with fail
      rw [← HW.out]
      refine (lvs_any a len cap L W (HI.out.keepB hWb (Nat.le_refl _)) HZ.out HM.out).mono ?_
      rintro e w2 ⟨rfl, hb2⟩
      have hB2 : Below w.heap.size w w2 := hWb.trans (hb2.mono (by omega))
      rw [hv]
      go_wp2_with fail
      refine (valid_any fr w2).mono ?_
      rintro e w' ⟨rfl, rfl⟩
      rw [h0]
      have hp := (hb2.block w.heap.size hWs).trans HWh.out
      have p0 : w2.cell? ⟨w.heap.size, 0, none⟩ = some (.int .i64 at_) := by rw [cell_of_cells hp]; rfl
      have p1 : w2.cell? ⟨w.heap.size, 1, none⟩ = some (.int .i64 to) := by rw [cell_of_cells hp]; rfl
      have p2 : w2.cell? ⟨w.heap.size, 2, none⟩ = some (.int .i64 ut) := by rw [cell_of_cells hp]; rfl
      clear hp
      go_wp2_with fail
      refine (lvalid_as true ⟨at_, to, ut⟩ w2 h1).mono ?_
      rintro e w3 ⟨rfl, hb3⟩
      have hB3 : Below w.heap.size w w3 := hB2.trans (hb3.mono hB2.size)
      clear p0 p1 p2
      go_wp2_with fail
      refine (findEnd_any a len cap L at_ w3 (HI.out.keepB hB3 (Nat.le_refl _)) HZ.out HV.out).mono ?_
      rintro e w4 ⟨rfl, hb4⟩
      have hB4 : Below w.heap.size w w4 := hB3.trans (hb4.mono hB3.size)
      rw [hwh]
      go_wp2_with fail
      refine (leaseAt_any a len cap L at_ w4 (HI.out.keepB hB4 (Nat.le_refl _)) HZ.out HV.out).mono ?_
      rintro e w5 ⟨rfl, hb5⟩
      have hB5 : Below w.heap.size w w5 := hB4.trans (hb5.mono hB4.size)
      obtain ⟨b, off, rfl, hb0, hcells⟩ := (HI.out.keepB hB5 (Nat.le_refl _)).at_ (i := atL L at_) (by rw [HZ.out]; exact hal)
      obtain ⟨_, hc1, _⟩ := hcells (atL L at_) (by rw [HZ.out]; exact hal)
      clear hcells
      have g1 := (HE.out.keep hB5).c1
      go_wp2
      go_quiet (fail)
      clear g1
      go_wp2
      go_ret2
      exact ⟨bel_dN hB5 _, .inr (.inl ⟨HOK.out, by rw [HR.out], rfl⟩)⟩
    have ho' : (ofL L at_).o = fr := by simpa using ho
    have c1 : ((gl L (atL L at_)).o != fr) = false := by simp; exact ho'
    by_cases hful : 12 ≤ len
    · have HR := Lib.hid (hand_full HOK.out ho' hne (by rw [HZ.out]; exact hful))
      clear ho ho' hne
      go_enter Tryd.func28, Tryd.ntmps28
      go_wp2_with fail
      rw [← HW.out]
      refine (lvs_any a len cap L W (HI.out.keepB hWb (Nat.le_refl _)) HZ.out HM.out).mono ?_
      rintro e w2 ⟨rfl, hb2⟩
      have hB2 : Below w.heap.size w w2 := hWb.trans (hb2.mono (by omega))
      rw [hv]
      go_wp2_with fail
      refine (valid_any fr w2).mono ?_
      rintro e w' ⟨rfl, rfl⟩
      rw [h0]
      have hp := (hb2.block w.heap.size hWs).trans HWh.out
      have p0 : w2.cell? ⟨w.heap.size, 0, none⟩ = some (.int .i64 at_) := by rw [cell_of_cells hp]; rfl
      have p1 : w2.cell? ⟨w.heap.size, 1, none⟩ = some (.int .i64 to) := by rw [cell_of_cells hp]; rfl
      have p2 : w2.cell? ⟨w.heap.size, 2, none⟩ = some (.int .i64 ut) := by rw [cell_of_cells hp]; rfl
      clear hp
      go_wp2_with fail
      refine (lvalid_as true ⟨at_, to, ut⟩ w2 h1).mono ?_
      rintro e w3 ⟨rfl, hb3⟩
      have hB3 : Below w.heap.size w w3 := hB2.trans (hb3.mono hB2.size)
      clear p0 p1 p2
      go_wp2_with fail
      refine (findEnd_any a len cap L at_ w3 (HI.out.keepB hB3 (Nat.le_refl _)) HZ.out HV.out).mono ?_
      rintro e w4 ⟨rfl, hb4⟩
      have hB4 : Below w.heap.size w w4 := hB3.trans (hb4.mono hB3.size)
      rw [hwh]
      go_wp2_with fail
      refine (leaseAt_any a len cap L at_ w4 (HI.out.keepB hB4 (Nat.le_refl _)) HZ.out HV.out).mono ?_
      rintro e w5 ⟨rfl, hb5⟩
      have hB5 : Below w.heap.size w w5 := hB4.trans (hb5.mono hB4.size)
      obtain ⟨b, off, rfl, hb0, hcells⟩ := (HI.out.keepB hB5 (Nat.le_refl _)).at_ (i := atL L at_) (by rw [HZ.out]; exact hal)
      obtain ⟨_, hc1, _⟩ := hcells (atL L at_) (by rw [HZ.out]; exact hal)
      clear hcells
      have g1 := (HE.out.keep hB5).c1
      go_wp2
      go_quiet (fail)
      clear g1
      go_wp2
      go_ret2
      exact ⟨bel_dN hB5 _, .inr (.inl ⟨HOK.out, by rw [HR.out], rfl⟩)⟩
    have HR := Lib.hid (hand_ins HOK.out ho' hne (by rw [HZ.out]; omega))
    have HX := Lib.hid h1
    have hil : Hid ((insL L (fdL L at_) ⟨at_, to, ut⟩).length = len + 1) := by show _ = _; rw [insL_len (by rw [HZ.out]; exact hfl), HZ.out]
    clear ho ho' hne
    go_enter Tryd.func28, Tryd.ntmps28
    go_wp2_with fail
    rw [← HW.out]
    refine (lvs_any a len cap L W (HI.out.keepB hWb (Nat.le_refl _)) HZ.out HM.out).mono ?_
    rintro e w2 ⟨rfl, hb2⟩
    have hB2 : Below w.heap.size w w2 := hWb.trans (hb2.mono (by omega))
    rw [hv]
    go_wp2_with fail
    refine (valid_any fr w2).mono ?_
    rintro e w' ⟨rfl, rfl⟩
    rw [h0]
    have hp := (hb2.block w.heap.size hWs).trans HWh.out
    have p0 : w2.cell? ⟨w.heap.size, 0, none⟩ = some (.int .i64 at_) := by rw [cell_of_cells hp]; rfl
    have p1 : w2.cell? ⟨w.heap.size, 1, none⟩ = some (.int .i64 to) := by rw [cell_of_cells hp]; rfl
    have p2 : w2.cell? ⟨w.heap.size, 2, none⟩ = some (.int .i64 ut) := by rw [cell_of_cells hp]; rfl
    clear hp
    go_wp2_with fail
    refine (lvalid_as true ⟨at_, to, ut⟩ w2 h1).mono ?_
    rintro e w3 ⟨rfl, hb3⟩
    have hB3 : Below w.heap.size w w3 := hB2.trans (hb3.mono hB2.size)
    clear p0 p1 p2
    go_wp2_with fail
    refine (findEnd_any a len cap L at_ w3 (HI.out.keepB hB3 (Nat.le_refl _)) HZ.out HV.out).mono ?_
    rintro e w4 ⟨rfl, hb4⟩
    have hB4 : Below w.heap.size w w4 := hB3.trans (hb4.mono hB3.size)
    rw [hwh]
    go_wp2_with fail
    refine (leaseAt_any a len cap L at_ w4 (HI.out.keepB hB4 (Nat.le_refl _)) HZ.out HV.out).mono ?_
    rintro e w5 ⟨rfl, hb5⟩
    have hB5 : Below w.heap.size w w5 := hB4.trans (hb5.mono hB4.size)
    obtain ⟨b, off, rfl, hb0, hcells⟩ := (HI.out.keepB hB5 (Nat.le_refl _)).at_ (i := atL L at_) (by rw [HZ.out]; exact hal)
    obtain ⟨_, hc1, _⟩ := hcells (atL L at_) (by rw [HZ.out]; exact hal)
    clear hcells
    have hp := (((hb2.trans (hb3.mono hb2.size)).trans ((hb4.trans (hb5.mono hb4.size)).mono (by have := hb2.size; have := hb3.size; omega))).block w.heap.size hWs).trans HWh.out
    have HP5 := Lib.hid hp
    have hpl : w.heap.size < w5.heap.size := heap_lt hp
    have HI5 := Lib.hid (HI.out.keepB hB5 (Nat.le_refl _))
    have p0 : w5.cell? ⟨w.heap.size, 0, none⟩ = some (.int .i64 at_) := by rw [cell_of_cells hp]; rfl
    have p1 : w5.cell? ⟨w.heap.size, 1, none⟩ = some (.int .i64 to) := by rw [cell_of_cells hp]; rfl
    have p2 : w5.cell? ⟨w.heap.size, 2, none⟩ = some (.int .i64 ut) := by rw [cell_of_cells hp]; rfl
    clear hp
    have hmix : Tryd.prog.follows .mixedOrders = true := by kernel_rfl
    have HINS : Hid (∀ (g c VB : Nat) (W1 : World), OwnS W1 w5.heap.size g c L → W1.heap[VB]? = some (.cells #[.int .i64 at_, .int .i64 to, .int .i64 ut] 35 (0, 0)) → VB ≠ g → w5.heap.size ≤ W1.heap.size →
        Calls Tryd.prog 42 #[.slice (some ⟨g, 0, none⟩) len c, .int .i64 (fdL L at_ : Nat), .slice (some ⟨VB, 0, none⟩) 1 1] W1 (InsLPost w5.heap.size g (insL L (fdL L at_) ⟨at_, to, ut⟩) W1)) := by
      intro g c VB W1 h1 h2 h3 h4
      have := insertL_any w5.heap.size g c (fdL L at_) VB L ⟨at_, to, ut⟩ W1 h1 h2 h3 h4 (by rw [HZ.out]; exact hl2) (by rw [HZ.out]; exact hfl)
      rwa [HZ.out] at this
    go_wp2_with fail
    go_region_with ((first
      | (go_at_call 43; refine (cloneL_any _ len cap L _ (by first | exact HI5.out.keepB ((Below.refl _ _).drew) (Nat.le_refl _) | exact HI5.out.keepB ((Below.refl _ _).drew.alloc (Nat.le_refl _) _) (Nat.le_refl _)) HZ.out (by omega) (by omega)).mono ?_; rintro e w6 ⟨g, c, rfl, ho6, hb6⟩; have ho7 : OwnS w6 w5.heap.size g c L := ho6.less (by first | exact Nat.le_refl _ | simp); have hb7 : Below w5.heap.size w5 w6 := (by first | exact (Below.refl _ _).drew.trans hb6 | exact ((Below.refl _ _).drew.alloc (Nat.le_refl _) _).trans (hb6.mono (by simp))); have q0 := (hb7.cell (p := ⟨w.heap.size, 0, none⟩) hpl).trans p0; have q1 := (hb7.cell (p := ⟨w.heap.size, 1, none⟩) hpl).trans p1; have q2 := (hb7.cell (p := ⟨w.heap.size, 2, none⟩) hpl).trans p2; have hgl := ho6.blk.2.1; have hgb := ho6.blk.1; (try have hx6 := (hb6.block w5.heap.size (by simp)).trans (heap_alloc_new w5.drew _)); have HO7 := Lib.hid ho7; clear ho6 ho7)
      | (go_at_call 42; refine (HINS.out _ _ _ _ (by first | exact HO7.out | exact HO7.out.keepB (alB _ _) (Nat.le_refl _)) (by first | exact hx6 | exact heap_alloc_new _ _) (by simp at hgb; omega) (by have := hb7.size; first | omega | (simp; omega))).mono ?_; rintro e w8 ⟨g2, c2, rfl, ho8, hg8⟩)))
    all_goals
      have hB8 : Below w.heap.size w w8 := by
        have h6 : Below w.heap.size w w6 := hB5.trans (hb7.mono hB5.size)
        first | exact h6.grown hg8 h6.size (fun k hk => by injection hk with hk; have := hB5.size; simp at hgb; omega) | exact (h6.alloc h6.size _).grown hg8 (by have := h6.size; simp; omega) (fun k hk => by injection hk with hk; have := hB5.size; simp at hgb; omega)
      have HO8 := Lib.hid (ho8.less hB5.size)
      clear ho8 hg8
      go_wp2
      go_ret2
      refine ⟨hB8, .inr (.inr ⟨HOK.out, by rw [HR.out], g2, c2, ?_, ?_⟩)⟩
      · rw [HR.out]; rfl
      · rw [HR.out]; exact HO8.out
  · have heq : (ofL L at_).e = at_ := by simpa using hwh
    by_cases ho : ¬ (ofL L at_).o = fr
    · have HR := Lib.hid (hand_o HOK.out ho)
      have c1 : ((gl L (atL L at_)).o != fr) = true := by simp; exact ho
      clear ho
      go_enter Tryd.func28, Tryd.ntmps28
      go_wp2_with fail
      rw [← HW.out]
      refine (lvs_any a len cap L W (HI.out.keepB hWb (Nat.le_refl _)) HZ.out HM.out).mono ?_
      rintro e w2 ⟨rfl, hb2⟩
      have hB2 : Below w.heap.size w w2 := hWb.trans (hb2.mono (by omega))
      rw [hv]
      go_wp2_with fail
      refine (valid_any fr w2).mono ?_
      rintro e w' ⟨rfl, rfl⟩
      rw [h0]
      have hp := (hb2.block w.heap.size hWs).trans HWh.out
      have p0 : w2.cell? ⟨w.heap.size, 0, none⟩ = some (.int .i64 at_) := by rw [cell_of_cells hp]; rfl
      have p1 : w2.cell? ⟨w.heap.size, 1, none⟩ = some (.int .i64 to) := by rw [cell_of_cells hp]; rfl
      have p2 : w2.cell? ⟨w.heap.size, 2, none⟩ = some (.int .i64 ut) := by rw [cell_of_cells hp]; rfl
      clear hp
      go_wp2_with fail
      refine (lvalid_as true ⟨at_, to, ut⟩ w2 h1).mono ?_
      rintro e w3 ⟨rfl, hb3⟩
      have hB3 : Below w.heap.size w w3 := hB2.trans (hb3.mono hB2.size)
      clear p0 p1 p2
      go_wp2_with fail
      refine (findEnd_any a len cap L at_ w3 (HI.out.keepB hB3 (Nat.le_refl _)) HZ.out HV.out).mono ?_
      rintro e w4 ⟨rfl, hb4⟩
      have hB4 : Below w.heap.size w w4 := hB3.trans (hb4.mono hB3.size)
      rw [hwh]
      go_wp2_with fail
      refine (leaseAt_any a len cap L at_ w4 (HI.out.keepB hB4 (Nat.le_refl _)) HZ.out HV.out).mono ?_
      rintro e w5 ⟨rfl, hb5⟩
      have hB5 : Below w.heap.size w w5 := hB4.trans (hb5.mono hB4.size)
      obtain ⟨b, off, rfl, hb0, hcells⟩ := (HI.out.keepB hB5 (Nat.le_refl _)).at_ (i := atL L at_) (by rw [HZ.out]; exact hal)
      obtain ⟨_, hc1, _⟩ := hcells (atL L at_) (by rw [HZ.out]; exact hal)
      clear hcells
      have g1 := (HE.out.keep hB5).c1
      go_wp2
      go_quiet (fail)
      clear g1
      go_wp2
      go_ret2
      exact ⟨bel_dN hB5 _, .inr (.inl ⟨HOK.out, by rw [HR.out], rfl⟩)⟩
    have ho' : (ofL L at_).o = fr := by simpa using ho
    have c1 : ((gl L (atL L at_)).o != fr) = false := by simp; exact ho'
    have HR := Lib.hid (hand_set HOK.out ho' heq)
    obtain ⟨hf1, hf2⟩ := fd_at_eq HV.out heq
    rw [HZ.out] at hf1
    have HF2 := Lib.hid hf2
    clear ho ho' heq hf2
    go_enter Tryd.func28, Tryd.ntmps28
    go_wp2_with fail
    rw [← HW.out]
    refine (lvs_any a len cap L W (HI.out.keepB hWb (Nat.le_refl _)) HZ.out HM.out).mono ?_
    rintro e w2 ⟨rfl, hb2⟩
    have hB2 : Below w.heap.size w w2 := hWb.trans (hb2.mono (by omega))
    rw [hv]
    go_wp2_with fail
    refine (valid_any fr w2).mono ?_
    rintro e w' ⟨rfl, rfl⟩
    rw [h0]
    have hp := (hb2.block w.heap.size hWs).trans HWh.out
    have p0 : w2.cell? ⟨w.heap.size, 0, none⟩ = some (.int .i64 at_) := by rw [cell_of_cells hp]; rfl
    have p1 : w2.cell? ⟨w.heap.size, 1, none⟩ = some (.int .i64 to) := by rw [cell_of_cells hp]; rfl
    have p2 : w2.cell? ⟨w.heap.size, 2, none⟩ = some (.int .i64 ut) := by rw [cell_of_cells hp]; rfl
    clear hp
    go_wp2_with fail
    refine (lvalid_as true ⟨at_, to, ut⟩ w2 h1).mono ?_
    rintro e w3 ⟨rfl, hb3⟩
    have hB3 : Below w.heap.size w w3 := hB2.trans (hb3.mono hB2.size)
    clear p0 p1 p2
    go_wp2_with fail
    refine (findEnd_any a len cap L at_ w3 (HI.out.keepB hB3 (Nat.le_refl _)) HZ.out HV.out).mono ?_
    rintro e w4 ⟨rfl, hb4⟩
    have hB4 : Below w.heap.size w w4 := hB3.trans (hb4.mono hB3.size)
    rw [hwh]
    go_wp2_with fail
    refine (leaseAt_any a len cap L at_ w4 (HI.out.keepB hB4 (Nat.le_refl _)) HZ.out HV.out).mono ?_
    rintro e w5 ⟨rfl, hb5⟩
    have hB5 : Below w.heap.size w w5 := hB4.trans (hb5.mono hB4.size)
    obtain ⟨b, off, rfl, hb0, hcells⟩ := (HI.out.keepB hB5 (Nat.le_refl _)).at_ (i := atL L at_) (by rw [HZ.out]; exact hal)
    obtain ⟨_, hc1, _⟩ := hcells (atL L at_) (by rw [HZ.out]; exact hal)
    clear hcells
    have hp5 := (((hb2.trans (hb3.mono hb2.size)).trans ((hb4.trans (hb5.mono hb4.size)).mono (by have := hb2.size; have := hb3.size; omega))).block w.heap.size hWs).trans HWh.out
    have HP5 := Lib.hid hp5
    clear hp5
    go_wp2_with fail
    refine (cloneL_any _ len cap L w5 (HI.out.keepB hB5 (Nat.le_refl _)) HZ.out (by omega) (by omega)).mono ?_
    rintro e w6 ⟨g, c, rfl, ho6, hb6⟩
    have hB6 : Below w.heap.size w w6 := hB5.trans (hb6.mono hB5.size)
    have hp := (hb6.block w.heap.size (heap_lt HP5.out)).trans HP5.out
    have p0 : w6.cell? ⟨w.heap.size, 0, none⟩ = some (.int .i64 at_) := by rw [cell_of_cells hp]; rfl
    have p1 : w6.cell? ⟨w.heap.size, 1, none⟩ = some (.int .i64 to) := by rw [cell_of_cells hp]; rfl
    have p2 : w6.cell? ⟨w.heap.size, 2, none⟩ = some (.int .i64 ut) := by rw [cell_of_cells hp]; rfl
    clear hp
    obtain ⟨x0, x1, x2⟩ := ho6.cells (i := fdL L at_) (by rw [HZ.out]; exact hf1)
    obtain ⟨hgb, _, cs, hbk, _⟩ := ho6.blk
    have f0 := frozen_of_cells hbk (fdL L at_ * 3)
    have f1 := frozen_of_cells hbk (fdL L at_ * 3 + 1)
    have f2 := frozen_of_cells hbk (fdL L at_ * 3 + 2)
    have HO6 := Lib.hid (ho6.less hB5.size)
    clear ho6 hbk
    go_wp2
    go_ret2
    have h6 := HO6.out.setAll (k := fdL L at_) (by rw [HZ.out]; exact hf1) ⟨at_, to, ut⟩
    have hB7 : Below w.heap.size w (((w6.setCell ⟨g, fdL L at_ * 3, none⟩ (.int .i64 at_)).setCell ⟨g, fdL L at_ * 3 + 1, none⟩ (.int .i64 to)).setCell ⟨g, fdL L at_ * 3 + 2, none⟩ (.int .i64 ut)) := ((hB6.setCell (show w.heap.size ≤ g by have := hB5.size; omega) _).setCell (show w.heap.size ≤ g by have := hB5.size; omega) _).setCell (show w.heap.size ≤ g by have := hB5.size; omega) _
    refine ⟨hB7, .inr (.inr ⟨HOK.out, by rw [HR.out], g, c, ?_, ?_⟩)⟩
    · rw [HR.out, List.length_set, HZ.out]; rfl
    · rw [HR.out, HF2.out]; exact h6
end Go.Proofs.YtoaamamconcieaaDoor
