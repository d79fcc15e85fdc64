/- Transfers: the model's functions that make a transfer. -/
import Derived.Test.YtedbgfeojocbpaaTfS
import Derived.Test.YtedbgfeojocbpaaAppS
namespace Go.Proofs.Ytedbgfeojocbpaa
open Go.RowKit
set_option linter.unusedVariables false

attribute [local go_sem ↓] Go.wp_at_zero Go.wp_at_succ

theorem set3_ne {w : World} {g k : Nat} {x y z : Value} (h : k ≠ g) : (((w.setCell ⟨g, 0, none⟩ x).setCell ⟨g, 1, none⟩ y).setCell ⟨g, 2, none⟩ z).heap[k]? = w.heap[k]? :=
  (heap_set_ne _ _ _ _ _ h).trans ((heap_set_ne _ _ _ _ _ h).trans (heap_set_ne _ _ _ _ _ h))
theorem size_set3 (w : World) (g : Nat) (x y z : Value) : (((w.setCell ⟨g, 0, none⟩ x).setCell ⟨g, 1, none⟩ y).setCell ⟨g, 2, none⟩ z).heap.size = w.heap.size := by simp [World.setCell]
theorem below_set3 {B : Nat} {w w' : World} (h : Below B w w') {g : Nat} (hg : B ≤ g) (x y z : Value) : Below B w (((w'.setCell ⟨g, 0, none⟩ x).setCell ⟨g, 1, none⟩ y).setCell ⟨g, 2, none⟩ z) :=
  ((h.setCell hg _).setCell hg _).setCell hg _
theorem res_ct {P : Program} {fn : Func} {p q : Tmp} {ty : TypeId} (h : fn.results = #[.cell p ty, .tmp q]) (tmps : Array Value) (w : World) (g : Nat) (t : TypeId) (cs : Array Value) (fr : Nat × Nat) (d : TypeDesc)
    (hp : tmps.getD p undef = .pointer (some ⟨g, 0, none⟩)) (hg : w.heap[g]? = some (.cells cs t fr))
    (hu : P.underlying ty = some d) (hd : (match d with | .struct _ | .array _ _ => true | _ => false) = true) (hi : (P.info? ty).map (·.size) = some cs.size) :
    (results fn tmps).run P w = .ok (.tuple #[.agg cs, tmps.getD q undef]) w := by
  have hp' : tmps[p]?.getD undef = .pointer (some ⟨g, 0, none⟩) := by simpa using hp
  simp [results, h, hp', asAddr, run_loadVar_row w g t ty cs fr d hg hu hd hi]
theorem res_cct {P : Program} {fn : Func} {p p2 q : Tmp} {ty ty2 : TypeId} (h : fn.results = #[.cell p ty, .cell p2 ty2, .tmp q]) (tmps : Array Value) (w : World) (g g2 : Nat) (t t2 : TypeId) (cs cs2 : Array Value) (fr fr2 : Nat × Nat) (d d2 : TypeDesc)
    (hp : tmps.getD p undef = .pointer (some ⟨g, 0, none⟩)) (hg : w.heap[g]? = some (.cells cs t fr)) (hp2 : tmps.getD p2 undef = .pointer (some ⟨g2, 0, none⟩)) (hg2 : w.heap[g2]? = some (.cells cs2 t2 fr2))
    (hu : P.underlying ty = some d) (hd : (match d with | .struct _ | .array _ _ => true | _ => false) = true) (hi : (P.info? ty).map (·.size) = some cs.size)
    (hu2 : P.underlying ty2 = some d2) (hd2 : (match d2 with | .struct _ | .array _ _ => true | _ => false) = true) (hi2 : (P.info? ty2).map (·.size) = some cs2.size) :
    (results fn tmps).run P w = .ok (.tuple #[.agg cs, .agg cs2, tmps.getD q undef]) w := by
  have hp' : tmps[p]?.getD undef = .pointer (some ⟨g, 0, none⟩) := by simpa using hp
  have hp2' : tmps[p2]?.getD undef = .pointer (some ⟨g2, 0, none⟩) := by simpa using hp2
  simp [results, h, hp', hp2', asAddr, run_loadVar_row w g t ty cs fr d hg hu hd hi, run_loadVar_row w g2 t2 ty2 cs2 fr2 d2 hg2 hu2 hd2 hi2]
theorem newT_yes {zs : List Int} (h : itemsB zs = true) : newT zs = ⟨zs, 0, 0⟩ := by rw [newT, if_pos h]
theorem newT_no {zs : List Int} (h : itemsB zs = false) : newT zs = zTf := by rw [newT, h]; rfl

set_option maxHeartbeats 1000000 in
theorem snew_any (a : Option Addr) (len cap : Nat) (zs : List Int) (w : World) (h : IntsAt w a zs) (hz : zs.length = len) (hm : len ≤ maxLen) :
    Calls Try.prog 15 #[.slice a len cap] w (NewTfB (newT zs) (itemsB zs) w) := by
  have HI := Lib.hid h
  have HM := Lib.hid hm
  have HZ := Lib.hid hz
  clear h hm hz
  obtain ⟨W, hW⟩ : ∃ W, W = w.alloc (.cells #[.slice none 0 0, .int .i64 0, .int .i64 0] 24) := ⟨_, rfl⟩
  have hB : Below w.heap.size w W := by rw [hW]; exact (Below.refl _ _).alloc (Nat.le_refl _) _
  have hs : W.heap.size = w.heap.size + 1 := by rw [hW]; simp
  have hh : W.heap[w.heap.size]? = some (.cells #[.slice none 0 0, .int .i64 0, .int .i64 0] 24 (0, 0)) := by rw [hW]; exact heap_alloc_new w _
  have HB := Lib.hid hB
  have HW := Lib.hid hW
  have HH := Lib.hid hh
  have HS := Lib.hid hs
  clear hh hW hB hs
  rcases bcs (itemsB zs) with h1 | h1
  rotate_left
  · have HN := Lib.hid (newT_no h1)
    have H1 := Lib.hid h1
    clear h1
    obtain ⟨c0, c1, c2⟩ := cells3 HH.out
    have f0 := frozen_of_cells HH.out 0
    have f1 := frozen_of_cells HH.out 1
    have f2 := frozen_of_cells HH.out 2
    go_enter Try.func15, Try.ntmps15
    go_wp2_with fail
    rw [← HW.out]
    go_wp2_with fail
    refine (sitems_as false a len cap zs W (HI.out.keepB HB.out (Nat.le_refl _)) HZ.out HM.out H1.out).mono ?_
    rintro e w1 ⟨rfl, rfl⟩
    go_wp2
    refine bodyPost_ret (res_ct rfl _ _ w.heap.size _ #[.slice none 0 0, .int .i64 0, .int .i64 0] (0, 0) _ rfl (set3 HH.out) Try.underlying24 rfl (by kernel_rfl)) rfl ?_
    rw [HN.out, H1.out]
    exact ⟨none, 0, rfl, own_nilI _ _, below_set3 HB.out (Nat.le_refl _) _ _ _⟩
  · have HN := Lib.hid (newT_yes h1)
    have H1 := Lib.hid h1
    have hl := items_len h1
    rw [HZ.out] at hl
    clear h1
    go_enter Try.func15, Try.ntmps15
    go_wp2_with fail
    rw [← HW.out]
    go_wp2_with fail
    refine (sitems_as true a len cap zs W (HI.out.keepB HB.out (Nat.le_refl _)) HZ.out HM.out H1.out).mono ?_
    rintro e w1 ⟨rfl, rfl⟩
    have HBA : Hid (∀ o, Below w1.heap.size w1 (w1.alloc o)) := fun o => (Below.refl _ _).alloc (Nat.le_refl _) _
    go_wp2_with (at_builtin; refine wl_appS _ (by rfl) _ _ (by rfl) w1.heap.size w1.heap.size 0 0 [] (by rfl) (own_empty (heap_alloc_new w1 _) (Nat.le_refl _)) a len cap zs (by rfl) HZ.out ((HI.out.keepB HB.out (Nat.le_refl _)).keepB (HBA.out _) (Nat.le_refl _)) len (by omega) (by omega) (by simp) ?_; intro g5 c5 w5 hown hg5 hat5; have h5 := (hg5.block w.heap.size (by simp; have := HS.out; omega) (by intro e; injection e with e; have := HS.out; omega)).trans (((HBA.out _).block w.heap.size (by have := HS.out; omega)).trans HH.out); obtain ⟨c0, c1, c2⟩ := cells3 h5; have f0 := frozen_of_cells h5 0; have f1 := frozen_of_cells h5 1; have f2 := frozen_of_cells h5 2; have H5 := Lib.hid h5; have HO := Lib.hid hown; have HG := Lib.hid hg5; clear h5 hown hg5 hat5)
    refine bodyPost_ret (res_ct rfl _ _ w.heap.size _ #[.slice (some ⟨g5, 0, none⟩) len c5, .int .i64 0, .int .i64 0] (0, 0) _ rfl (set3 H5.out) Try.underlying24 rfl (by kernel_rfl)) rfl ?_
    rw [HN.out, H1.out]
    have hb5 : Below w1.heap.size w1 w5 := (HBA.out _).grown HG.out (by simp) (fun k hk => by injection hk with hk; omega)
    refine ⟨some ⟨g5, 0, none⟩, c5, by show _ = Ending.returned (.tuple #[.agg #[.slice _ zs.length _, _, _], _]); rw [HZ.out]; rfl, ?_, below_set3 (HB.out.trans (hb5.mono HB.out.size)) (Nat.le_refl _) _ _ _⟩
    exact ((own_whole HO.out HZ.out).kept (fun k h1 h2 => set3_ne (by have := HS.out; omega))).less (by have := HS.out; omega)
end Go.Proofs.Ytedbgfeojocbpaa
