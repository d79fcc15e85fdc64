/- Transfers: the model's functions. -/
import Derived.Test.YtoiecicfmnpnoaaTfMath
import Derived.Handy
namespace Go.Proofs.Ytoiecicfmnpnoaa
open Go.RowKit
set_option linter.unusedVariables false

attribute [local go_sem ↓] Go.wp_at_zero Go.wp_at_succ

theorem bcs (b : Bool) : b = true ∨ b = false := by cases b <;> simp
/-- a transfer, as a value -/
def tfV (a : Option Addr) (cap : Nat) (t : Tf) : Value := .agg #[.slice a t.items.length cap, .int .i64 t.nxt, .int .i64 t.ack]
def ckV (a : Option Addr) (cap : Nat) (c : Ck) : Value := .agg #[.int .i64 c.pos, .slice a c.items.length cap]
theorem own_nilI (w : World) (base : Nat) : OwnI w base none 0 [] := ⟨by simp [vals], .inl ⟨rfl, rfl⟩⟩
/-- a transfer in memory of its own -/
def NewTf (t : Tf) (w : World) (e : Ending) (w' : World) : Prop :=
  ∃ a cap, e = .returned (.agg #[.slice a t.items.length cap, .int .i64 t.nxt, .int .i64 t.ack]) ∧ OwnI w' w.heap.size a cap t.items ∧ Below w.heap.size w w'
def NewTfB (t : Tf) (ok : Bool) (w : World) (e : Ending) (w' : World) : Prop :=
  ∃ a cap, e = .returned (.tuple #[.agg #[.slice a t.items.length cap, .int .i64 t.nxt, .int .i64 t.ack], .bool ok]) ∧ OwnI w' w.heap.size a cap t.items ∧ Below w.heap.size w w'
/-- a transfer and a chunk, each in memory of its own -/
def NewTfC (t : Tf) (c : Ck) (ok : Bool) (w : World) (e : Ending) (w' : World) : Prop :=
  ∃ a cap b cb, e = .returned (.tuple #[.agg #[.slice a t.items.length cap, .int .i64 t.nxt, .int .i64 t.ack], .agg #[.int .i64 c.pos, .slice b c.items.length cb], .bool ok]) ∧
    OwnI w' w.heap.size a cap t.items ∧ OwnI w' w.heap.size b cb c.items ∧ (∀ x y, a = some x → b = some y → x.block ≠ y.block) ∧ Below w.heap.size w w'
def NewIntsB (zs : List Int) (ok : Bool) (w : World) (e : Ending) (w' : World) : Prop :=
  ∃ a cap, e = .returned (.tuple #[.slice a zs.length cap, .bool ok]) ∧ OwnI w' w.heap.size a cap zs ∧ Below w.heap.size w w'

theorem in_as (v : Bool) (n l h : Int) (w : World) (hv : inB n l h = v) :
    Calls Try.prog 19 #[.int .i64 n, .int .i64 l, .int .i64 h] w fun e w' => e = .returned (.bool v) ∧ w = w' := by
  subst hv; exact in_any n l h w
theorem items_gt {zs : List Int} (h : ∀ i, i < zs.length → itB (gt zs i) = true) : zs.all itB = true := by
  rw [List.all_eq_true]
  intro x hx
  obtain ⟨i, hi, rfl⟩ := List.getElem_of_mem hx
  rw [← gt_get hi]; exact h i hi

set_option maxHeartbeats 1000000 in
theorem sitems_any (a : Option Addr) (len cap : Nat) (zs : List Int) (w : World) (h : IntsAt w a zs) (hz : zs.length = len) (hm : len ≤ maxLen) :
    Calls Try.prog 22 #[.slice a len cap] w fun e w' => e = .returned (.bool (itemsB zs)) ∧ w' = w := by
  unfold maxLen at hm
  have HI := Lib.hid h
  have HZ := Lib.hid hz
  clear h hz
  go_enter Try.func22, Try.ntmps22
  go_wp2
  go_loopw [3] (fun i wr => ∃ k : Nat, k ≤ len ∧ i = .int .i64 k ∧ wr = w ∧ ∀ j, j < k → itB (gt zs j) = true) (fun i _ => len - (intOf i).toNat)
  case atStart => exact ⟨0, by omega, rfl, rfl, fun j hj => absurd hj (by omega)⟩
  case round =>
    obtain ⟨k, hk, rfl, rfl, hall⟩ := hrel
    have HA := Lib.hid hall
    clear hall
    by_cases hlt : k < len
    · have h' : ∃ b off, a = some ⟨b, off, none⟩ ∧ wr.cell? ⟨b, off + k, none⟩ = some (.int .i64 (gt zs k)) := by
        rcases HI.out with h0 | ⟨b, off, ha, hb, hc⟩
        · have := HZ.out; rw [h0] at this; simp at this; omega
        · exact ⟨b, off, ha, hc k (by rw [HZ.out]; exact hlt)⟩
      obtain ⟨b, off, ha, hc⟩ := h'
      subst ha
      have hlt' : (k : Int) < (len : Int) := by omega
      have hsb : inB (gt zs k) 0 990 = itB (gt zs k) := by rw [Bool.eq_iff_iff, inB_iff, itB_iff]
      rcases bcs (itB (gt zs k)) with hv | hv
      · have HV := Lib.hid hv
        have HS := Lib.hid (hsb.trans hv)
        clear hv hsb
        go_wp2_with fail
        refine (in_as true (gt zs k) 0 990 wr HS.out).mono ?_
        rintro e w2 ⟨rfl, rfl⟩
        go_wp2
        go_roundw
        case rel =>
          refine ⟨k + 1, by omega, by go_num, by first | rfl | trivial, fun j hj => ?_⟩
          rcases Nat.lt_or_ge j k with e | e
          · exact HA.out j e
          · have : j = k := by omega
            subst this; exact HV.out
        case measure => simp [intOf]; omega
      · have HV := Lib.hid hv
        have HS := Lib.hid (hsb.trans hv)
        clear hv hsb
        go_wp2_with fail
        refine (in_as false (gt zs k) 0 990 wr HS.out).mono ?_
        rintro e w2 ⟨rfl, rfl⟩
        go_wp2
        go_ret
        refine ⟨ret_bool ?_, rfl⟩
        symm
        rw [itemsB, Bool.and_eq_false_iff, List.all_eq_false]
        exact .inl ⟨gt zs k, by rw [gt_get (by rw [HZ.out]; exact hlt)]; exact List.getElem_mem _, by rw [HV.out]; decide⟩
    · have hkl : k = len := by omega
      have HK := Lib.hid hkl
      have hge : (len : Int) ≤ (k : Int) := by omega
      clear hkl hlt
      go_wp2
      go_ret
      refine ⟨ret_bool ?_, rfl⟩
      have : zs.all itB = true := items_gt (fun j hj => HA.out j (by have := HK.out; have := HZ.out; omega))
      rw [itemsB, this, Bool.true_and]
      rw [Bool.eq_iff_iff]; simp; have := HZ.out; omega
theorem sitems_as (v : Bool) (a : Option Addr) (len cap : Nat) (zs : List Int) (w : World) (h : IntsAt w a zs) (hz : zs.length = len) (hm : len ≤ maxLen) (hv : itemsB zs = v) :
    Calls Try.prog 22 #[.slice a len cap] w fun e w' => e = .returned (.bool v) ∧ w' = w := by
  subst hv; exact sitems_any a len cap zs w h hz hm

/-- the cells of a struct of three -/
theorem cells3 {w : World} {g : Nat} {x y z : Value} {t : TypeId} (h : w.heap[g]? = some (.cells #[x, y, z] t (0, 0))) :
    w.cell? ⟨g, 0, none⟩ = some x ∧ w.cell? ⟨g, 1, none⟩ = some y ∧ w.cell? ⟨g, 2, none⟩ = some z := ⟨by rw [cell_of_cells h]; rfl, by rw [cell_of_cells h]; rfl, by rw [cell_of_cells h]; rfl⟩
theorem cells2 {w : World} {g : Nat} {x y : Value} {t : TypeId} (h : w.heap[g]? = some (.cells #[x, y] t (0, 0))) :
    w.cell? ⟨g, 0, none⟩ = some x ∧ w.cell? ⟨g, 1, none⟩ = some y := ⟨by rw [cell_of_cells h]; rfl, by rw [cell_of_cells h]; rfl⟩
theorem set3 {w : World} {g : Nat} {x y z x' y' z' : Value} {t : TypeId} (h : w.heap[g]? = some (.cells #[x, y, z] t (0, 0))) :
    (((w.setCell ⟨g, 0, none⟩ x').setCell ⟨g, 1, none⟩ y').setCell ⟨g, 2, none⟩ z').heap[g]? = some (.cells #[x', y', z'] t (0, 0)) :=
  heap_set _ g 2 z' (heap_set _ g 1 y' (heap_set w g 0 x' h))
theorem tfB_no1 {t : Tf} (h : itemsB t.items = false) : tfB t = false := by unfold tfB; rw [h]; rfl
theorem tfB_no2 {t : Tf} (h : inB t.nxt 0 t.items.length = false) : tfB t = false := by unfold tfB; rw [h, Bool.and_false]; rfl
theorem tfB_no3 {t : Tf} (h : inB t.ack 0 t.nxt = false) : tfB t = false := by unfold tfB; rw [h, Bool.and_false]
theorem tfB_yes {t : Tf} (h : itemsB t.items = true) (h2 : inB t.nxt 0 t.items.length = true) (h3 : inB t.ack 0 t.nxt = true) : tfB t = true := by unfold tfB; rw [h, h2, h3]; rfl

set_option maxHeartbeats 1000000 in
theorem stv_any (a : Option Addr) (cap : Nat) (t : Tf) (w : World) (h : IntsAt w a t.items) (hm : t.items.length ≤ maxLen) :
    Calls Try.prog 13 #[.agg #[.slice a t.items.length cap, .int .i64 t.nxt, .int .i64 t.ack]] w fun e w' => e = .returned (.bool (tfB t)) ∧ Below w.heap.size w w' := by
  have HI := Lib.hid h
  have HM := Lib.hid hm
  clear h hm
  obtain ⟨W, hW⟩ : ∃ W, W = w.alloc (.cells #[.slice a t.items.length cap, .int .i64 t.nxt, .int .i64 t.ack] 25) := ⟨_, rfl⟩
  have hB : Below w.heap.size w W := by rw [hW]; exact (Below.refl _ _).alloc (Nat.le_refl _) _
  have hh : W.heap[w.heap.size]? = some (.cells #[.slice a t.items.length cap, .int .i64 t.nxt, .int .i64 t.ack] 25 (0, 0)) := by rw [hW]; exact heap_alloc_new w _
  obtain ⟨c0, c1, c2⟩ := cells3 hh
  have HB := Lib.hid hB
  have HW := Lib.hid hW
  clear hh hW hB
  rcases bcs (itemsB t.items) with h1 | h1
  rotate_left
  · have H1 := Lib.hid h1
    clear h1
    go_enter Try.func13, Try.ntmps13
    go_wp2_with fail
    rw [← HW.out]
    go_wp2_with fail
    refine (sitems_as false a _ cap t.items W (HI.out.keepB HB.out (Nat.le_refl _)) rfl HM.out H1.out).mono ?_
    rintro e w1 ⟨rfl, rfl⟩
    go_wp2
    go_ret
    exact ⟨ret_bool (tfB_no1 H1.out).symm, HB.out⟩
  have H1 := Lib.hid h1
  clear h1
  rcases bcs (inB t.nxt 0 t.items.length) with h2 | h2
  rotate_left
  · have H2 := Lib.hid h2
    clear h2
    go_enter Try.func13, Try.ntmps13
    go_wp2_with fail
    rw [← HW.out]
    go_wp2_with fail
    refine (sitems_as true a _ cap t.items W (HI.out.keepB HB.out (Nat.le_refl _)) rfl HM.out H1.out).mono ?_
    rintro e w1 ⟨rfl, rfl⟩
    go_wp2_with fail
    refine (in_as false _ _ _ w1 H2.out).mono ?_
    rintro e w2 ⟨rfl, rfl⟩
    go_wp2
    go_ret
    exact ⟨ret_bool (tfB_no2 H2.out).symm, HB.out⟩
  have H2 := Lib.hid h2
  clear h2
  rcases bcs (inB t.ack 0 t.nxt) with h3 | h3
  all_goals
    have H3 := Lib.hid h3
    clear h3
    go_enter Try.func13, Try.ntmps13
    go_wp2_with fail
    rw [← HW.out]
    go_wp2_with fail
    refine (sitems_as true a _ cap t.items W (HI.out.keepB HB.out (Nat.le_refl _)) rfl HM.out H1.out).mono ?_
    rintro e w1 ⟨rfl, rfl⟩
    go_wp2_with fail
    refine (in_as true _ _ _ w1 H2.out).mono ?_
    rintro e w2 ⟨rfl, rfl⟩
    go_wp2_with fail
    refine (in_as _ _ _ _ w1 H3.out).mono ?_
    rintro e w2 ⟨rfl, rfl⟩
    go_wp2
    go_ret
  · exact ⟨ret_bool (tfB_yes H1.out H2.out H3.out).symm, HB.out⟩
  · exact ⟨ret_bool (tfB_no3 H3.out).symm, HB.out⟩
theorem stv_as (v : Bool) (a : Option Addr) (cap : Nat) (t : Tf) (w : World) (h : IntsAt w a t.items) (hm : t.items.length ≤ maxLen) (hv : tfB t = v) :
    Calls Try.prog 13 #[.agg #[.slice a t.items.length cap, .int .i64 t.nxt, .int .i64 t.ack]] w fun e w' => e = .returned (.bool v) ∧ Below w.heap.size w w' := by
  subst hv; exact stv_any a cap t w h hm
end Go.Proofs.Ytoiecicfmnpnoaa
