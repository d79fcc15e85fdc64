/- The walks of the exact laws of the functions on sets of nodes. -/
import Derived.Test.YtphkpkafhilenabCopies
namespace Go.Proofs.Ytphkpkafhilenab
open Go.RowKit
set_option linter.unusedVariables false

/-- a slice of integers that came in: nil, or a row of cells -/
def RowInts (w : World) (a : Option Addr) (len cap : Nat) (zs : List Int) : Prop :=
  (a = none ∧ len = 0 ∧ cap = 0 ∧ zs = []) ∨
  ∃ x, a = some x ∧ len ≤ cap ∧ cap ≤ maxLen ∧ zs.length = cap ∧ (∀ i, i < zs.length → w.cell? (x.add i) = some (.int .i64 (zs.getD i 0))) ∧ ∀ n ∈ zs, (Lit.int .i64 n).wf = true

theorem block_lt {w : World} {p : Addr} {v : Value} (h : w.cell? p = some v) : p.block < w.heap.size := by
  rcases Nat.lt_or_ge p.block w.heap.size with hlt | hge
  · exact hlt
  · exfalso
    have hn : w.heap[p.block]? = none := Array.getElem?_eq_none hge
    simp [World.cell?, hn] at h

theorem ints_of_row {w : World} {a : Option Addr} {len cap : Nat} {z : List Int} (h : RowInts w a len cap z) : ∃ zs : List Int, zs.length = len ∧ IntsAt w a zs ∧ len ≤ maxLen := by
  rcases h with ⟨rfl, rfl, rfl, rfl⟩ | ⟨x, rfl, hl, hm, hz, hcell, _⟩
  · exact ⟨[], rfl, .inl rfl, by unfold maxLen; omega⟩
  · refine ⟨z.take len, by simp; omega, ?_, Nat.le_trans hl hm⟩
    by_cases h0 : len = 0
    · subst h0; exact .inl (by simp)
    · obtain ⟨b, off, spot⟩ := x
      have hc := hcell 0 (by omega)
      have hspot : spot = none := by simpa [Addr.add] using World.cell?_spot hc
      subst hspot
      have hlt := block_lt hc
      refine .inr ⟨b, off, rfl, by simpa [Addr.add] using hlt, fun i hi => ?_⟩
      have hi' : i < len := by simp at hi; omega
      have hci := hcell i (by omega)
      have e : gt (z.take len) i = z.getD i 0 := by simp [gt, hi']
      rw [e]
      by_cases hi0 : i = 0
      · subst hi0; simpa [Addr.add] using hci
      · simpa [Addr.add, hi0] using hci

theorem IntsAt.below {w w' : World} {B : Nat} {a : Option Addr} {zs : List Int} (h : IntsAt w a zs) (hb : Below B w w') (hB : w.heap.size ≤ B) : IntsAt w' a zs := by
  rcases h with h0 | ⟨b, off, ha, hlt, hc⟩
  · exact .inl h0
  · exact .inr ⟨b, off, ha, Nat.lt_of_lt_of_le hlt hb.size, fun i hi => (hb.cell (p := ⟨b, off + i, none⟩) (Nat.lt_of_lt_of_le hlt hB)).trans (hc i hi)⟩

set_option maxHeartbeats 1000000 in
theorem exNodesValid (a : Option Addr) (len cap : Nat) (z : List Int) (w : World) (h : RowInts w a len cap z) :
    Calls Try.prog 6 #[.slice a len cap] w fun e w' => e = .returned (.bool true) ∧ Below w.heap.size w w' := by
  obtain ⟨zs, hz, hi, hm⟩ := ints_of_row h
  clear h
  by_cases hl : 1048576 < len
  · unfold maxLen at hm
    clear hz hi
    go_enter Try.func6, Try.ntmps6
    go_wp2
    go_ret
    exact ⟨rfl, Below.refl _ _⟩
  subst hz
  have HI := Lib.hid hi
  clear hi hm
  have hmx : zs.length ≤ maxLen := by unfold maxLen; omega
  have HM := Lib.hid hmx
  clear hmx
  go_enter Try.func6, Try.ntmps6
  go_wp2_with fail
  refine (toInts_any a _ cap zs w HI.out rfl (by omega)).mono ?_
  rintro e w1 ⟨rfl, hr1, hb1, hs1⟩
  have HS1 := Lib.hid hs1
  clear hs1
  go_wp2_with fail
  refine (svalid_any _ _ _ zs w1 hr1.ints rfl HM.out).mono ?_
  rintro e w2 ⟨rfl, hs2⟩
  have hB2 : Below w.heap.size w w2 := hb1.trans (hs2.below _)
  have hI2 := HI.out.below hB2 (Nat.le_refl _)
  go_wp2_with fail
  refine (toInts_any a _ cap zs w2 hI2 rfl (by omega)).mono ?_
  rintro e w3 ⟨rfl, hr3, hb3, hs3⟩
  have HS3 := Lib.hid hs3
  clear hs3
  have hB3 : Below w.heap.size w w3 := hB2.trans (hb3.mono hB2.size)
  go_wp2_with fail
  refine (nvalid_any _ _ _ zs w3 hr3.ints rfl HM.out).mono ?_
  rintro e w4 ⟨rfl, rfl⟩
  have hI3 := HI.out.below hB3 (Nat.le_refl _)
  go_wp2_with fail
  refine (toInts_any a _ cap zs w3 hI3 rfl (by omega)).mono ?_
  rintro e w5 ⟨rfl, hr5, hb5, hs5⟩
  have hB5 : Below w.heap.size w w5 := hB3.trans (hb5.mono hB3.size)
  have hx5 : IntsAt w5 (some ⟨w2.heap.size, 0, none⟩) zs := hr3.ints.below hb5 (Nat.le_refl _)
  have HS5 := Lib.hid hs5
  clear hs5
  go_wp2_with fail
  refine (eqInts_same _ _ _ _ _ zs w5 hx5 hr5.ints rfl (by omega)).mono ?_
  rintro e w6 ⟨rfl, hs6⟩
  go_wp2
  go_ret
  exact ⟨rfl, hB5.trans (hs6.below _)⟩

set_option maxHeartbeats 1000000 in
theorem exNodesNext (a : Option Addr) (len cap : Nat) (z : List Int) (key : Int) (w : World) (h : RowInts w a len cap z) :
    Calls Try.prog 7 #[.slice a len cap, .int .i64 key] w fun e w' => e = .returned (.bool true) ∧ Below w.heap.size w w' := by
  obtain ⟨zs, hz, hi, hm⟩ := ints_of_row h
  clear h
  by_cases hl : 1048576 < len
  · unfold maxLen at hm
    clear hz hi
    go_enter Try.func7, Try.ntmps7
    go_wp2
    go_ret
    exact ⟨rfl, Below.refl _ _⟩
  subst hz
  have HI := Lib.hid hi
  clear hi hm
  have hmx : zs.length ≤ maxLen := by unfold maxLen; omega
  have HM := Lib.hid hmx
  clear hmx
  go_enter Try.func7, Try.ntmps7
  go_wp2_with fail
  refine (toInts_any a _ cap zs w HI.out rfl (by omega)).mono ?_
  rintro e w1 ⟨rfl, hr1, hb1, hs1⟩
  have HS1 := Lib.hid hs1
  clear hs1
  go_wp2_with fail
  refine (snnext_any _ _ _ zs key w1 hr1.ints rfl HM.out).mono ?_
  rintro e w2 ⟨rfl, hs2⟩
  have hB2 : Below w.heap.size w w2 := hb1.trans (hs2.below _)
  have hI2 := HI.out.below hB2 (Nat.le_refl _)
  go_wp2_with fail
  refine (toInts_any a _ cap zs w2 hI2 rfl (by omega)).mono ?_
  rintro e w3 ⟨rfl, hr3, hb3, hs3⟩
  have HS3 := Lib.hid hs3
  clear hs3
  have hB3 : Below w.heap.size w w3 := hB2.trans (hb3.mono hB2.size)
  go_wp2_with fail
  refine (nnext_any _ _ _ zs key w3 hr3.ints rfl HM.out).mono ?_
  rintro e w4 ⟨rfl, rfl⟩
  have hI3 := HI.out.below hB3 (Nat.le_refl _)
  go_wp2_with fail
  refine (toInts_any a _ cap zs w3 hI3 rfl (by omega)).mono ?_
  rintro e w5 ⟨rfl, hr5, hb5, hs5⟩
  have hB5 : Below w.heap.size w w5 := hB3.trans (hb5.mono hB3.size)
  have hx5 : IntsAt w5 (some ⟨w2.heap.size, 0, none⟩) zs := hr3.ints.below hb5 (Nat.le_refl _)
  have HS5 := Lib.hid hs5
  clear hs5
  go_wp2_with fail
  refine (eqInts_same _ _ _ _ _ zs w5 hx5 hr5.ints rfl (by omega)).mono ?_
  rintro e w6 ⟨rfl, hs6⟩
  go_wp2
  go_ret
  exact ⟨rfl, hB5.trans (hs6.below _)⟩

set_option maxHeartbeats 1000000 in
theorem exNodesBefore (a : Option Addr) (len cap : Nat) (z : List Int) (key : Int) (w : World) (h : RowInts w a len cap z) :
    Calls Try.prog 8 #[.slice a len cap, .int .i64 key] w fun e w' => e = .returned (.bool true) ∧ Below w.heap.size w w' := by
  obtain ⟨zs, hz, hi, hm⟩ := ints_of_row h
  clear h
  by_cases hl : 1048576 < len
  · unfold maxLen at hm
    clear hz hi
    go_enter Try.func8, Try.ntmps8
    go_wp2
    go_ret
    exact ⟨rfl, Below.refl _ _⟩
  subst hz
  have HI := Lib.hid hi
  clear hi hm
  have hmx : zs.length ≤ maxLen := by unfold maxLen; omega
  have HM := Lib.hid hmx
  clear hmx
  go_enter Try.func8, Try.ntmps8
  go_wp2_with fail
  refine (toInts_any a _ cap zs w HI.out rfl (by omega)).mono ?_
  rintro e w1 ⟨rfl, hr1, hb1, hs1⟩
  have HS1 := Lib.hid hs1
  clear hs1
  go_wp2_with fail
  refine (snbefore_any _ _ _ zs key w1 hr1.ints rfl HM.out).mono ?_
  rintro e w2 ⟨rfl, hs2⟩
  have hB2 : Below w.heap.size w w2 := hb1.trans (hs2.below _)
  have hI2 := HI.out.below hB2 (Nat.le_refl _)
  go_wp2_with fail
  refine (toInts_any a _ cap zs w2 hI2 rfl (by omega)).mono ?_
  rintro e w3 ⟨rfl, hr3, hb3, hs3⟩
  have HS3 := Lib.hid hs3
  clear hs3
  have hB3 : Below w.heap.size w w3 := hB2.trans (hb3.mono hB2.size)
  go_wp2_with fail
  refine (nbefore_any _ _ _ zs key w3 hr3.ints rfl HM.out).mono ?_
  rintro e w4 ⟨rfl, rfl⟩
  have hI3 := HI.out.below hB3 (Nat.le_refl _)
  go_wp2_with fail
  refine (toInts_any a _ cap zs w3 hI3 rfl (by omega)).mono ?_
  rintro e w5 ⟨rfl, hr5, hb5, hs5⟩
  have hB5 : Below w.heap.size w w5 := hB3.trans (hb5.mono hB3.size)
  have hx5 : IntsAt w5 (some ⟨w2.heap.size, 0, none⟩) zs := hr3.ints.below hb5 (Nat.le_refl _)
  have HS5 := Lib.hid hs5
  clear hs5
  go_wp2_with fail
  refine (eqInts_same _ _ _ _ _ zs w5 hx5 hr5.ints rfl (by omega)).mono ?_
  rintro e w6 ⟨rfl, hs6⟩
  go_wp2
  go_ret
  exact ⟨rfl, hB5.trans (hs6.below _)⟩

end Go.Proofs.Ytphkpkafhilenab
