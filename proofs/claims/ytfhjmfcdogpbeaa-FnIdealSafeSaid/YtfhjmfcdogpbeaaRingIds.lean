/- The positions of a ring: RingIds and its model. -/
import Derived.Test.YtfhjmfcdogpbeaaRingSpec
import Derived.Test.YtfhjmfcdogpbeaaNodesDraw
namespace Go.Proofs.Ytfhjmfcdogpbeaa
open Go.RowKit
set_option linter.unusedVariables false
attribute [local go_sem ↓] Go.wp_at_zero Go.wp_at_succ

/-- numbers in a new row of the call's own -/
def NewInts (zs : List Int) (w : World) (e : Ending) (w' : World) : Prop :=
  ∃ g cap, e = .returned (.slice (some ⟨g, 0, none⟩) zs.length cap) ∧ OwnI w' w.heap.size (some ⟨g, 0, none⟩) cap zs ∧ Below w.heap.size w w'
/-- at the head of a loop that appends numbers -/
def IntsSoFar (zs : List Int) (w : World) (v : Value) (wr : World) : Prop :=
  ∃ g cap, v = .slice (some ⟨g, 0, none⟩) zs.length cap ∧ OwnI wr w.heap.size (some ⟨g, 0, none⟩) cap zs ∧ Below w.heap.size w wr
theorem sofar_new (w : World) (cs : Array Value) (hcs : cs = #[]) : IntsSoFar [] w (.slice (some ⟨w.heap.size, 0, none⟩) 0 0) (w.alloc (.cells cs 3)) := by
  subst hcs
  exact ⟨w.heap.size, 0, rfl, ⟨by simp [vals], .inr ⟨w.heap.size, 0, #[], rfl, Nat.le_refl _, heap_alloc_new w _, Nat.zero_le _, by unfold maxLen; omega, rfl, by simp [vals]⟩⟩, (Below.refl _ _).alloc (Nat.le_refl _) _⟩
theorem new_of_sofar {zs : List Int} {w wr : World} {v : Value} (h : IntsSoFar zs w v wr) : NewInts zs w (.returned v) wr := by
  obtain ⟨g, cap, rfl, ho, hb⟩ := h; exact ⟨g, cap, rfl, ho, hb⟩
theorem OwnI.lt {w : World} {base g cap : Nat} {zs : List Int} (h : OwnI w base (some ⟨g, 0, none⟩) cap zs) : base ≤ g ∧ g < w.heap.size := by
  rcases h.2 with ⟨hn, _⟩ | ⟨g', cap', cur, hv, hb, hg, _⟩
  · cases hn
  · injection hv with hv _ _; injection hv with hv; injection hv with hv; subst hv; exact ⟨hb, (Array.getElem?_eq_some_iff.1 hg).1⟩
theorem sofar_next {zs : List Int} {z : Int} {w wr w2 w3 : World} {g g' cap' : Nat} (hb : Below w.heap.size w wr) (hb2 : Below wr.heap.size wr w2) (hg : w2.grownBy w3 (some g)) (hgb : w.heap.size ≤ g)
    (ho : w3.ownsRow w.heap.size 3 1 (.slice (some ⟨g', 0, none⟩) (zs.length + 1) cap') (zs.length + 1) (vals (zs ++ [z]))) : IntsSoFar (zs ++ [z]) w (.slice (some ⟨g', 0, none⟩) (zs.length + 1) cap') w3 := by
  refine ⟨g', cap', by rw [List.length_append]; rfl, by unfold OwnI; rw [List.length_append]; exact ho, ?_⟩
  have h1 : Below w.heap.size w w2 := hb.trans (hb2.mono hb.size)
  exact h1.grown hg h1.size (fun k hk => by injection hk with hk; omega)
theorem ids_take {r : List Nd} {k : Nat} (h : k < r.length) : (idsOf r).take (k + 1) = (idsOf r).take k ++ [(gn r k).pos] := by
  rw [List.take_succ_eq_append_getElem (by simpa [idsOf] using h), gn_get h]; simp [idsOf]
theorem ids_take_len {r : List Nd} {k : Nat} (h : k ≤ r.length) : ((idsOf r).take k).length = k := by simp [idsOf]; omega

set_option maxHeartbeats 1000000 in
theorem sids_any (a : Option Addr) (len cap : Nat) (r : List Nd) (w : World) (h : RingAt w a r) (hz : r.length = len) (hm : len ≤ 10) :
    Calls Try.prog 60 #[.slice a len cap] w (NewInts (idsOf r) w) := by
  have HI := Lib.hid h
  have HZ := Lib.hid hz
  clear h hz
  go_enter Try.func60, Try.ntmps60
  go_wp2
  go_loopw [3, 4] (fun o i wr => ∃ k : Nat, k ≤ len ∧ i = .int .i64 k ∧ IntsSoFar ((idsOf r).take k) w o wr) (fun _ i _ => len - (intOf i).toNat)
  case atStart => exact ⟨0, by omega, rfl, by simpa using sofar_new w _ rfl⟩
  case round =>
    obtain ⟨k, hk, rfl, g, gc, rfl, hown, hbel⟩ := hrel
    have hkl : ((idsOf r).take k).length = k := ids_take_len (by rw [HZ.out]; exact hk)
    have HKL := Lib.hid hkl
    rw [hkl]
    clear hkl
    by_cases hlt : k < len
    · obtain ⟨b, off, rfl, hb0, hnodes⟩ := (HI.out.keepB hbel (Nat.le_refl _)).at_ (by rw [HZ.out]; exact hlt)
      obtain ⟨sa, sc, hc0, hc1, hc2, hl, hmx, hints⟩ := node_open (hnodes k (by rw [HZ.out]; exact hlt))
      clear hnodes hints hmx
      have hgl := hown.lt
      have hown' : wr.ownsRow w.heap.size 3 1 (.slice (some ⟨g, 0, none⟩) k gc) k (vals ((idsOf r).take k)) := by have h := hown; unfold OwnI at h; rw [HKL.out] at h; exact h
      have HO := Lib.hid hown'
      clear hown hown'
      go_wp2_with (at_builtin; refine wl_app _ (by rfl) _ _ (by rfl) w.heap.size g k gc (vals ((idsOf r).take k)) (by rfl) (HO.out.alloc _) ⟨wr.heap.size, 0, none⟩ 1 1 [.int .i64 (gn r k).pos] (by rfl) rfl (src_one (heap_alloc_new wr _)) (by simp [Value.oneCell']) (k + 1) (vals ((idsOf r).take k ++ [(gn r k).pos])) rfl (by simp [vals]) (by omega) (by simp; omega) ?_; intro g5 cap5 w5 hown5 hg5 hat5)
      go_roundw
      case rel =>
        refine ⟨k + 1, by omega, by go_num, ?_⟩
        rw [ids_take (by rw [HZ.out]; exact hlt)]
        have hfin := sofar_next (zs := (idsOf r).take k) (z := (gn r k).pos) hbel (w2 := _) ((Below.refl _ _).alloc (Nat.le_refl _) _) hg5 hgl.1 (by rw [HKL.out]; exact hown5)
        rw [HKL.out] at hfin
        exact hfin
      case measure => simp [intOf]; omega
    · go_wp2
      go_ret
      have hfull : (idsOf r).take k = idsOf r := List.take_of_length_le (by rw [ids_len, HZ.out]; omega)
      refine new_of_sofar ⟨g, gc, ?_, by rw [← hfull]; exact hown, hbel⟩
      rw [← hfull, HKL.out]; rfl

def idsV (r : List Nd) : List Int := if rvB r then idsOf r else []
theorem new_mono {zs : List Int} {w w1 w2 : World} {e : Ending} (h : NewInts zs w1 e w2) (hb : Below w.heap.size w w1) : NewInts zs w e w2 := by
  obtain ⟨g, cap, he, ho, hb2⟩ := h
  exact ⟨g, cap, he, ho.less hb.size, hb.trans (hb2.mono hb.size)⟩
theorem rv_as (v : Bool) (a : Option Addr) (len cap : Nat) (r : List Nd) (w : World) (h : RingAt w a r) (hz : r.length = len) (hm : len ≤ maxLen) (hv : rvB r = v) :
    Calls Try.prog 32 #[.slice a len cap] w fun e w' => e = .returned (.bool v) ∧ Below w.heap.size w w' := by subst hv; exact rv_any a len cap r w h hz hm
theorem srv_as (v : Bool) (a : Option Addr) (len cap : Nat) (r : List Nd) (w : World) (h : RingAt w a r) (hz : r.length = len) (hm : len ≤ maxLen) (hv : rvB r = v) :
    Calls Try.prog 20 #[.slice a len cap] w fun e w' => e = .returned (.bool v) ∧ Below w.heap.size w w' := by subst hv; exact srv_any a len cap r w h hz hm

set_option maxHeartbeats 1000000 in
theorem srids_any (a : Option Addr) (len cap : Nat) (r : List Nd) (w : World) (h : RingAt w a r) (hz : r.length = len) (hm : len ≤ maxLen) :
    Calls Try.prog 34 #[.slice a len cap] w (NewInts (idsV r) w) := by
  have HI := Lib.hid h
  have HZ := Lib.hid hz
  have HM := Lib.hid hm
  clear h hz hm
  cases hv : rvB r
  · have He : Hid (idsV r = []) := by show idsV r = []; simp [idsV, hv]
    have HV := Lib.hid hv
    clear hv
    go_enter Try.func34, Try.ntmps34
    go_wp2_with fail
    refine (srv_as false a len cap r w HI.out HZ.out HM.out HV.out).mono ?_
    rintro e w1 ⟨rfl, hb1⟩
    go_wp2
    go_ret
    rw [He.out]
    exact new_mono (new_of_sofar (sofar_new w1 _ rfl)) hb1
  · have He : Hid (idsV r = idsOf r) := by show idsV r = _; simp [idsV, hv]
    have HV := Lib.hid hv
    have h10 := rv_len hv
    rw [HZ.out] at h10
    clear hv
    go_enter Try.func34, Try.ntmps34
    go_wp2_with fail
    refine (srv_as true a len cap r w HI.out HZ.out HM.out HV.out).mono ?_
    rintro e w1 ⟨rfl, hb1⟩
    go_wp2_with fail
    refine (sids_any a len cap r w1 (HI.out.keepB hb1 (Nat.le_refl _)) HZ.out h10).mono ?_
    rintro e w2 ⟨g, gc, rfl, ho, hb2⟩
    go_wp2
    go_ret
    rw [He.out]
    exact new_mono ⟨g, gc, rfl, ho, hb2⟩ hb1

set_option maxHeartbeats 1000000 in
theorem rids_any (a : Option Addr) (len cap : Nat) (r : List Nd) (w : World) (h : RingAt w a r) (hz : r.length = len) (hm : len ≤ maxLen) :
    Calls Try.prog 35 #[.slice a len cap] w (NewInts (idsV r) w) := by
  have HI0 := Lib.hid h
  have HZ := Lib.hid hz
  have HM := Lib.hid hm
  clear h hz hm
  cases hv : rvB r
  · have He : Hid (idsV r = []) := by show idsV r = []; simp [idsV, hv]
    have HV := Lib.hid hv
    clear hv
    go_enter Try.func35, Try.ntmps35
    go_wp2_with fail
    refine (rv_as false a len cap r w HI0.out HZ.out HM.out HV.out).mono ?_
    rintro e w1 ⟨rfl, hb1⟩
    go_wp2
    go_ret
    rw [He.out]
    exact new_mono (new_of_sofar (sofar_new w1 _ rfl)) hb1
  have He : Hid (idsV r = idsOf r) := by show idsV r = _; simp [idsV, hv]
  have HV := Lib.hid hv
  have h10 := rv_len hv
  rw [HZ.out] at h10
  clear hv
  go_enter Try.func35, Try.ntmps35
  go_wp2_with fail
  refine (rv_as true a len cap r w HI0.out HZ.out HM.out HV.out).mono ?_
  rintro e w1 ⟨rfl, hb1⟩
  have HI := Lib.hid (HI0.out.keepB hb1 (Nat.le_refl _))
  go_wp2
  go_loopw [3, 13] (fun o i wr => ∃ k : Nat, k ≤ len ∧ i = .int .i64 k ∧ IntsSoFar ((idsOf r).take k) w1 o wr) (fun _ i _ => len - (intOf i).toNat)
  case atStart => exact ⟨0, by omega, rfl, by simpa using sofar_new w1 _ rfl⟩
  case round =>
    obtain ⟨k, hk, rfl, g, gc, rfl, hown, hbel⟩ := hrel
    have hkl : ((idsOf r).take k).length = k := ids_take_len (by rw [HZ.out]; exact hk)
    have HKL := Lib.hid hkl
    rw [hkl]
    clear hkl
    by_cases hlt : k < len
    · obtain ⟨b, off, rfl, hb0, hnodes⟩ := (HI.out.keepB hbel (Nat.le_refl _)).at_ (by rw [HZ.out]; exact hlt)
      obtain ⟨sa, sc, hc0, hc1, hc2, hl, hmx, hints⟩ := node_open (hnodes k (by rw [HZ.out]; exact hlt))
      clear hnodes hints hmx
      have hgl := hown.lt
      have hown' : wr.ownsRow w1.heap.size 3 1 (.slice (some ⟨g, 0, none⟩) k gc) k (vals ((idsOf r).take k)) := by have h := hown; unfold OwnI at h; rw [HKL.out] at h; exact h
      have HO := Lib.hid hown'
      clear hown hown'
      go_wp2_with (at_builtin; refine wl_app _ (by rfl) _ _ (by rfl) w1.heap.size g k gc (vals ((idsOf r).take k)) (by rfl) ((HO.out.alloc _).alloc _) ⟨wr.heap.size + 1, 0, none⟩ 1 1 [.int .i64 (gn r k).pos] (by rfl) rfl (src_one (heap_second wr _ _)) (by simp [Value.oneCell']) (k + 1) (vals ((idsOf r).take k ++ [(gn r k).pos])) rfl (by simp [vals]) (by omega) (by simp; omega) ?_; intro g5 cap5 w5 hown5 hg5 hat5)
      go_roundw
      case rel =>
        refine ⟨k + 1, by omega, by go_num, ?_⟩
        rw [ids_take (by rw [HZ.out]; exact hlt)]
        have hfin := sofar_next (zs := (idsOf r).take k) (z := (gn r k).pos) hbel (w2 := _) (((Below.refl _ _).alloc (Nat.le_refl _) _).alloc (by simp) _) hg5 hgl.1 (by rw [HKL.out]; exact hown5)
        rw [HKL.out] at hfin
        exact hfin
      case measure => simp [intOf]; omega
    · go_wp2
      go_ret
      have hfull : (idsOf r).take k = idsOf r := List.take_of_length_le (by rw [ids_len, HZ.out]; omega)
      rw [He.out]
      refine new_mono (w1 := w1) (new_of_sofar ⟨g, gc, ?_, by rw [← hfull]; exact hown, hbel⟩) hb1
      rw [← hfull, HKL.out]; rfl
end Go.Proofs.Ytfhjmfcdogpbeaa
