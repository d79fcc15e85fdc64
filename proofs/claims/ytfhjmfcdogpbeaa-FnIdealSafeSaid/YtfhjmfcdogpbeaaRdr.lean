/- The reader of a code: what 'pick' does, whatever bytes the code has. -/
import Derived.Test.YtfhjmfcdogpbeaaChecked
import Derived.WalkKit
import Derived.ProofKit
import Derived.Below
import Derived.Lib.Hide
import Derived.IntWalk
import Derived.Laws.BitsLemmas
import Derived.BigQuiet
import Derived.Deep.QuietTactic
namespace Go.Proofs.Ytfhjmfcdogpbeaa
open Go.RowKit
set_option linter.unusedVariables false

/-- Block q holds a reader at place p over some bytes that lie below it. -/
def Rdr (w : World) (q : Nat) (p : Nat) : Prop :=
  ∃ (a : Option Addr) (len cap : Nat), w.heap[q]? = some (.cells #[.slice a len cap, .int .i64 p] 73 (0, 0)) ∧ len ≤ 2000 ∧ p ≤ 1000000 ∧
    (len = 0 ∨ ∃ b off, a = some ⟨b, off, none⟩ ∧ b < q ∧ ∀ i, i < len → ∃ c : Nat, c < 256 ∧ w.cell? ⟨b, off + i, none⟩ = some (.int .u8 c))

/-- What a pick leaves: a number from 0 to n-1, and the reader one place on. -/
def Picked (q p : Nat) (n : Int) (w : World) (e : Ending) (w' : World) : Prop :=
  ∃ v : Int, 0 ≤ v ∧ v < n ∧ e = .returned (.int .i64 v) ∧ ∃ m, w' = (w.setCell ⟨q, 1, none⟩ (.int .i64 (p + 1 : Nat))).drewN m

theorem cell_of_cells {w : World} {q : Nat} {cs : Array Value} {t : TypeId} (h : w.heap[q]? = some (.cells cs t (0, 0))) (i : Nat) : w.cell? ⟨q, i, none⟩ = cs[i]? := by
  simp [World.cell?, h]
theorem frozen_of_cells {w : World} {q : Nat} {cs : Array Value} {t : TypeId} (h : w.heap[q]? = some (.cells cs t (0, 0))) (i : Nat) : w.frozen? ⟨q, i, none⟩ = false := by
  simp [World.frozen?, h]

theorem xor_nat (a b : Nat) (ha : a < 2 ^ 62) (hb : b < 2 ^ 62) : bits .xor .i64 (a : Int) (b : Int) = ((a ^^^ b : Nat) : Int) := by
  have ha' : a % 2 ^ 64 = a := Nat.mod_eq_of_lt (by omega)
  have hb' : b % 2 ^ 64 = b := Nat.mod_eq_of_lt (by omega)
  have hx : a ^^^ b < 2 ^ 62 := Nat.xor_lt_two_pow ha hb
  have hk : (IntKind.i64).bits = 64 := rfl
  simp only [bits, hk, BitVec.ofInt_natCast, BitVec.toNat_xor, BitVec.toNat_ofNat, ha', hb']
  exact IntWalk.i64_in _ (by omega)

theorem mix_in (c1 c2 p len : Nat) (n : Int) (h1 : c1 < 256) (h2 : c2 < 256) (hp : p ≤ 1000000) (hl : 0 < len) (hn : 1 ≤ n) :
    let v := (bits BinOp.xor IntKind.i64 (wrap64 (↑c1 * 131 + ↑c2 * 1117 + ↑p * 29 + wrap64 (wrap64 (↑p / ↑len) * 53)))
      (wrap64 ((wrap64 (↑c1 * 131 + ↑c2 * 1117 + ↑p * 29 + wrap64 (wrap64 (↑p / ↑len) * 53))).tdiv 64))).tmod n
    0 ≤ v ∧ v < n := by
  intro v
  have hd := IntWalk.tdiv_le (p : Int) (len : Int) (by omega) (by omega)
  have hv : v = (((c1 * 131 + c2 * 1117 + p * 29 + p / len * 53) ^^^ ((c1 * 131 + c2 * 1117 + p * 29 + p / len * 53) / 64) : Nat) : Int).tmod n := by
    show (bits BinOp.xor IntKind.i64 _ _).tmod n = _
    have hd' : p / len ≤ p := Nat.div_le_self _ _
    have e1 : ((p : Int) / (len : Int)) = ((p / len : Nat) : Int) := rfl
    rw [e1]
    generalize p / len = d at *
    rw [IntWalk.wrap64_in (d : Int) (by omega), IntWalk.wrap64_in ((d : Int) * 53) (by omega), IntWalk.wrap64_in (↑c1 * 131 + ↑c2 * 1117 + ↑p * 29 + ↑d * 53) (by omega)]
    have e2 : ((c1 : Int) * 131 + ↑c2 * 1117 + ↑p * 29 + ↑d * 53) = ((c1 * 131 + c2 * 1117 + p * 29 + d * 53 : Nat) : Int) := by simp
    rw [e2]
    generalize hX : c1 * 131 + c2 * 1117 + p * 29 + d * 53 = X
    have hXb : X ≤ 1000000000 := by omega
    have e3 : ((X : Int).tdiv 64) = ((X / 64 : Nat) : Int) := by rw [Int.tdiv_eq_ediv_of_nonneg (by omega)]; rfl
    rw [e3, IntWalk.wrap64_in _ (by omega), xor_nat _ _ (by omega) (by omega)]
  rw [hv, Int.tmod_eq_emod_of_nonneg (by omega)]
  exact ⟨Int.emod_nonneg _ (by omega), Int.emod_lt_of_pos _ (by omega)⟩

set_option maxHeartbeats 400000 in
theorem pick_any (q p : Nat) (n : Int) (w : World) (h : Rdr w q p) (hn : 1 ≤ n) (hn' : n ≤ 1000000) :
    Calls Try.prog 54 #[.pointer (some ⟨q, 0, none⟩), .int .i64 n] w (Picked q p n w) := by
  obtain ⟨a, len, cap, hq, hl, hp, hb⟩ := h
  have hc0 : w.cell? ⟨q, 0, none⟩ = some (.slice a len cap) := by rw [cell_of_cells hq]; rfl
  have hc1 : w.cell? ⟨q, 1, none⟩ = some (.int .i64 p) := by rw [cell_of_cells hq]; rfl
  have hf1 : w.frozen? ⟨q, 1, none⟩ = false := frozen_of_cells hq 1
  have Hq := Lib.hid hq
  clear hq
  have hn0 : decide (n < 1) = false := by simp; omega
  rcases hb with rfl | ⟨b, off, rfl, hbq, hcell⟩
  · go_enter Try.func54, Try.ntmps54
    go_wp2
    go_ret
    exact ⟨0, by omega, by omega, rfl, 0, by simp; rfl⟩
  · by_cases hl0 : len = 0
    · subst hl0
      go_enter Try.func54, Try.ntmps54
      go_wp2
      go_ret
      exact ⟨0, by omega, by omega, rfl, 0, by simp; rfl⟩
    · have hl1 : ((len : Int) == 0) = false := by simp; omega
      have hne : ¬ b = q := by omega
      by_cases hk : p < len
      · obtain ⟨c, hc, hcc⟩ := hcell p hk
        clear hcell
        go_enter Try.func54, Try.ntmps54
        go_wp2
        go_ret
        exact ⟨(c : Int) % n, Int.emod_nonneg _ (by omega), Int.emod_lt_of_pos _ (by omega), by simp, 0, by simp; rfl⟩
      · obtain ⟨c1, hc1', hcc1⟩ := hcell (p % len) (Nat.mod_lt _ (by omega))
        obtain ⟨c2, hc2', hcc2⟩ := hcell ((p * 7 + 3) % len) (Nat.mod_lt _ (by omega))
        clear hcell
        go_enter Try.func54, Try.ntmps54
        go_wp2
        have hb1 : 0 ≤ (p : Int) % len := Int.emod_nonneg _ (by omega)
        have hb2 : (p : Int) % len < len := Int.emod_lt_of_pos _ (by omega)
        have hb3 : 0 ≤ ((p : Int) * 7 + 3) % len := Int.emod_nonneg _ (by omega)
        have hb4 : ((p : Int) * 7 + 3) % len < len := Int.emod_lt_of_pos _ (by omega)
        have e0 : (p : Int).tmod len = p % len := by rw [Int.tmod_eq_emod_of_nonneg (by omega)]
        have e1 : IntKind.i64.wrap ((p : Int) * 7) = (p : Int) * 7 := IntWalk.i64_in _ (by omega)
        have e2 : IntKind.i64.wrap ((p : Int) * 7 + 3) = (p : Int) * 7 + 3 := IntWalk.i64_in _ (by omega)
        have e3 : ((p : Int) * 7 + 3).tmod len = ((p : Int) * 7 + 3) % len := by rw [Int.tmod_eq_emod_of_nonneg (by omega)]
        have e4 : ((p : Int) % len).toNat = p % len := by omega
        have e5 : (((p : Int) * 7 + 3) % len).toNat = (p * 7 + 3) % len := by
          show (((p * 7 + 3 : Nat) : Int) % (len : Int)).toNat = _
          rw [← Int.natCast_emod]; exact Int.toNat_natCast _
        go_quiet (fail)
        clear e0 e1 e2 e3 e4 e5
        go_wp2
        go_ret
        have hm := mix_in c1 c2 p len n hc1' hc2' hp (by omega) hn
        exact ⟨_, hm.1, hm.2, rfl, nq, by simp⟩
end Go.Proofs.Ytfhjmfcdogpbeaa
