/- Drawing positions of the circle. -/
import Derived.Test.YtphkpkafhilenaaDraw
import Derived.Test.YtphkpkafhilenaaCircle2
namespace Go.Proofs.Ytphkpkafhilenaa
open Go.RowKit
set_option linter.unusedVariables false

/-- a slice of integers that came in: nil, or a row of cells -/
def RowIn (k : IntKind) (w : World) (a : Option Addr) (len cap : Nat) (zs : List Int) : Prop :=
  (a = none ∧ len = 0 ∧ cap = 0 ∧ zs = []) ∨
  ∃ x, a = some x ∧ len ≤ cap ∧ cap ≤ maxLen ∧ zs.length = cap ∧ (∀ i, i < zs.length → w.cell? (x.add i) = some (.int k (zs.getD i 0))) ∧ ∀ n ∈ zs, (Lit.int k n).wf = true

theorem block_lt_of_cell {w : World} {p : Addr} {v : Value} (h : w.cell? p = some v) : p.block < w.heap.size := by
  rcases Nat.lt_or_ge p.block w.heap.size with hlt | hge
  · exact hlt
  · exfalso
    have hn : w.heap[p.block]? = none := Array.getElem?_eq_none hge
    simp [World.cell?, hn] at h

theorem wf_u8 {n : Int} (h : (Lit.int .u8 n).wf = true) : 0 ≤ n ∧ n < 256 := by
  have h' := h
  have e1 : IntKind.u8.min = 0 := by decide
  have e2 : IntKind.u8.max = 255 := by decide
  simp [Lit.wf] at h'
  omega

theorem bytes_of_row {w : World} {a : Option Addr} {len cap : Nat} {zs : List Int} (h : RowIn .u8 w a len cap zs) : BytesAt w a len cap := by
  rcases h with ⟨rfl, rfl, rfl, rfl⟩ | ⟨x, rfl, hl, hm, hz, hcell, hwf⟩
  · exact ⟨Nat.le_refl _, by unfold maxLen; omega, .inl rfl⟩
  · refine ⟨hl, hm, ?_⟩
    by_cases h0 : len = 0
    · exact .inl h0
    · obtain ⟨b, off, spot⟩ := x
      have hc := hcell 0 (by omega)
      have hspot : spot = none := by simpa [Addr.add] using World.cell?_spot hc
      subst hspot
      have hlt := block_lt_of_cell hc
      refine .inr ⟨b, off, rfl, by simpa [Addr.add] using hlt, fun i hi => ?_⟩
      have hci := hcell i (by omega)
      have hmem : zs.getD i 0 ∈ zs := by
        have hi' : i < zs.length := by omega
        rw [List.getD_eq_getElem?_getD, List.getElem?_eq_getElem hi']
        exact List.getElem_mem hi'
      obtain ⟨h0', h1'⟩ := wf_u8 (hwf _ hmem)
      refine ⟨(zs.getD i 0).toNat, by omega, ?_⟩
      rw [Int.toNat_of_nonneg h0']
      by_cases hi0 : i = 0
      · subst hi0; simpa [Addr.add] using hci
      · simpa [Addr.add, hi0] using hci

/-- three drawn numbers -/
def Drew3 (w : World) (e : Ending) (w' : World) : Prop :=
  ∃ a x b : Int, -1 ≤ a ∧ a < 65 ∧ -1 ≤ x ∧ x < 65 ∧ -1 ≤ b ∧ b < 65 ∧ e = .returned (.tuple #[.int .i64 a, .int .i64 x, .int .i64 b]) ∧ Below w.heap.size w w'
def Drew2 (w : World) (e : Ending) (w' : World) : Prop :=
  ∃ a b : Int, -1 ≤ a ∧ a < 65 ∧ -1 ≤ b ∧ b < 65 ∧ e = .returned (.tuple #[.int .i64 a, .int .i64 b]) ∧ Below w.heap.size w w'

set_option maxHeartbeats 400000 in
theorem drawBetween (s : Option Addr) (len cap : Nat) (w : World) (h : BytesAt w s len cap) :
    Calls Try.prog 15 #[.slice s len cap] w (Drew3 w) := by
  go_enter Try.func15, Try.ntmps15
  go_wp2_with fail
  refine (open_any s len cap w h).mono ?_
  rintro e w0 ⟨rfl, hr0, hb0, hz0⟩
  have HZ := Lib.hid hz0
  clear hz0
  go_wp2_with fail
  refine (point_r w.heap.size 999998 w0 hr0).mono ?_
  rintro e w1 ⟨a, ha0, ha1, rfl, hr1, hk1⟩
  go_wp2_with fail
  refine (point_r w.heap.size 999996 w1 hr1).mono ?_
  rintro e w2 ⟨x, hx0, hx1, rfl, hr2, hk2⟩
  go_wp2_with fail
  refine (point_r w.heap.size 999994 w2 hr2).mono ?_
  rintro e w3 ⟨b, hb0', hb1, rfl, hr3, hk3⟩
  go_wp2_with fail
  refine (pick_r w.heap.size 999993 6 w3 hr3 (by omega) (by omega)).mono ?_
  rintro e w4 ⟨v, hv0, hv1, rfl, hr4, hk4⟩
  have hbel : Below w.heap.size w w4 := hb0.trans ((((hk1.trans hk2).trans hk3).trans hk4).below (Nat.le_refl _))
  go_wp2
  all_goals
    go_ret3
    first
    | exact ⟨a, x, b, ha0, ha1, hx0, hx1, hb0', hb1, rfl, hbel⟩
    | exact ⟨a, x, a, ha0, ha1, hx0, hx1, ha0, ha1, rfl, hbel⟩
    | exact ⟨a, a, b, ha0, ha1, ha0, ha1, hb0', hb1, rfl, hbel⟩
    | exact ⟨a, b, b, ha0, ha1, hb0', hb1, hb0', hb1, rfl, hbel⟩

theorem drawHolds (s : Option Addr) (len cap : Nat) (w : World) (h : BytesAt w s len cap) :
    Calls Try.prog 20 #[.slice s len cap] w (Drew3 w) := by
  go_enter Try.func20, Try.ntmps20
  go_wp2_with fail
  refine (drawBetween s len cap w h).mono ?_
  rintro e w1 ⟨a, x, b, ha0, ha1, hx0, hx1, hb0, hb1, rfl, hbel⟩
  go_wp2
  go_ret3
  exact ⟨a, b, x, ha0, ha1, hb0, hb1, hx0, hx1, rfl, hbel⟩

theorem drawDistance (s : Option Addr) (len cap : Nat) (w : World) (h : BytesAt w s len cap) :
    Calls Try.prog 23 #[.slice s len cap] w (Drew2 w) := by
  go_enter Try.func23, Try.ntmps23
  go_wp2_with fail
  refine (open_any s len cap w h).mono ?_
  rintro e w0 ⟨rfl, hr0, hb0, hz0⟩
  have HZ := Lib.hid hz0
  clear hz0
  go_wp2_with fail
  refine (point_r w.heap.size 999998 w0 hr0).mono ?_
  rintro e w1 ⟨a, ha0, ha1, rfl, hr1, hk1⟩
  go_wp2_with fail
  refine (point_r w.heap.size 999996 w1 hr1).mono ?_
  rintro e w2 ⟨x, hx0, hx1, rfl, hr2, hk2⟩
  have hbel : Below w.heap.size w w2 := hb0.trans ((hk1.trans hk2).below (Nat.le_refl _))
  go_wp2
  go_ret2
  exact ⟨a, x, ha0, ha1, hx0, hx1, rfl, hbel⟩

theorem isPoint_any (n : Int) (w : World) :
    Calls Try.prog 18 #[.int .i64 n] w fun e w' => e = .returned (.bool (ptB n)) ∧ w = w' := by
  go_enter Try.func18, Try.ntmps18
  go_wp2
  all_goals
    go_ret
    exact ⟨ret_bool (by rw [Bool.eq_iff_iff]; simp [ptB]; omega), rfl⟩
end Go.Proofs.Ytphkpkafhilenaa
