/- CircleMath · Circle · Circle2 · Rdr · Draw · DrawCircle · NodesMath · Nodes · NodesSpec · Copies · Has · Own · Good · NodesDraw -/
import Derived.WalkKit
import Derived.Test.YtenhaccdiamagaaChecked
import Derived.Lib.Hide
import Derived.ProofKit
import Derived.Below
import Derived.IntWalk
import Derived.Laws.BitsLemmas
import Derived.BigQuiet
import Derived.Deep.QuietTactic
import Derived.Deep.OwnRows
import Derived.Deep.RegionLaw
import Derived.Maps.AppendAt
import Derived.Deep.AppendLies
import Derived.OwnWalk
import Derived.Deep.DrawnRows
import Derived.Deep.RegionWith
namespace Go.Proofs.Ytenhaccdiamagaa

/- The plain arithmetic of the circle of 64 positions: what the functions of chapter 1 compute on numbers. -/

section
set_option linter.unusedVariables false


/-- a position -/
def ptB (n : Int) : Bool := decide (0 ≤ n ∧ n < 64)
/-- steps upward from one position to another -/
def dist (a b : Int) : Int := (b - a) % 64
/-- strictly between, going upward -/
def btwI (a x b : Int) : Bool := decide ((a < b ∧ a < x ∧ x < b) ∨ (b ≤ a ∧ (a < x ∨ x < b)))
/-- in the range after a up to b -/
def hldI (a b k : Int) : Bool := decide (k = b ∨ a = b ∨ (a < b ∧ a < k ∧ k < b) ∨ (b ≤ a ∧ (a < k ∨ k < b)))
def btwB (a x b : Int) : Bool := ptB a && ptB x && ptB b && btwI a x b
def hldB (a b k : Int) : Bool := ptB a && ptB b && ptB k && hldI a b k
def dstI (a b : Int) : Int := if ptB a && ptB b then dist a b else -1

theorem ptB_iff (n : Int) : ptB n = true ↔ 0 ≤ n ∧ n < 64 := by simp [ptB]
theorem ptB_no (n : Int) : ptB n = false ↔ n < 0 ∨ 64 ≤ n := by simp [ptB]; omega
theorem dist_bd (a b : Int) : 0 ≤ dist a b ∧ dist a b < 64 := by unfold dist; omega

theorem btw1 {a x b : Int} (ha : 0 ≤ a) (ha' : a < 64) (hx : 0 ≤ x) (hx' : x < 64) (hb : 0 ≤ b) (hb' : b < 64) (h : (a == b) = true) :
    (x != a && decide ((x - a) % 64 < 64)) = btwI a x b := by
  have h' : a = b := by simpa using h
  rw [Bool.eq_iff_iff]; unfold btwI; simp only [Bool.and_eq_true, bne_iff_ne, decide_eq_true_eq, ne_eq]; omega
theorem btw2 {a x b : Int} (ha : 0 ≤ a) (ha' : a < 64) (hx : 0 ≤ x) (hx' : x < 64) (hb : 0 ≤ b) (hb' : b < 64) (h : (a == b) = false) :
    (x != a && decide ((x - a) % 64 < (b - a) % 64)) = btwI a x b := by
  have h' : ¬ a = b := by simpa using h
  rw [Bool.eq_iff_iff]; unfold btwI; simp only [Bool.and_eq_true, bne_iff_ne, decide_eq_true_eq, ne_eq]; omega
theorem btw0 (a b : Int) : false = btwI a a b := by
  symm; unfold btwI; simp only [decide_eq_false_iff_not]; omega
theorem hld11 {a b k : Int} (h : (a == k) = true) (h' : (a == b) = true) : true = hldI a b k := by
  have h1 : a = k := by simpa using h
  have h2 : a = b := by simpa using h'
  symm; unfold hldI; simp only [decide_eq_true_eq]; omega
theorem hld12 {a b k : Int} (h : (a == k) = true) (h' : (a == b) = false) : decide (64 ≤ (b - a) % 64) = hldI a b k := by
  have h1 : a = k := by simpa using h
  have h2 : ¬ a = b := by simpa using h'
  rw [Bool.eq_iff_iff]; unfold hldI; simp only [decide_eq_true_eq]; omega
theorem hld21 {a b k : Int} (h' : (a == b) = true) : decide ((k - a) % 64 ≤ 64) = hldI a b k := by
  have h2 : a = b := by simpa using h'
  rw [Bool.eq_iff_iff]; unfold hldI; simp only [decide_eq_true_eq]; omega
theorem hld22 {a b k : Int} (ha : 0 ≤ a) (ha' : a < 64) (hb : 0 ≤ b) (hb' : b < 64) (hk : 0 ≤ k) (hk' : k < 64) (h : (a == k) = false) (h' : (a == b) = false) :
    decide ((k - a) % 64 ≤ (b - a) % 64) = hldI a b k := by
  have h1 : ¬ a = k := by simpa using h
  have h2 : ¬ a = b := by simpa using h'
  rw [Bool.eq_iff_iff]; unfold hldI; simp only [decide_eq_true_eq]; omega

theorem ret_bool {a b : Bool} (h : a = b) : Ending.returned (.bool a) = .returned (.bool b) := by rw [h]
theorem ret_int {k : IntKind} {a b : Int} (h : a = b) : Ending.returned (.int k a) = .returned (.int k b) := by rw [h]

end

/- Contracts of the functions of chapter 1 on numbers, of the program and of its model. -/

section
open Go.RowKit


set_option maxHeartbeats 400000 in
theorem valid_any (n : Int) (w : World) :
    Calls Try.prog 60 #[.int .i64 n] w fun e w' => e = .returned (.bool (ptB n)) ∧ w = w' := by
  go_enter Try.func60, Try.ntmps60
  go_wp2
  all_goals
    go_ret
    exact ⟨ret_bool (by rw [Bool.eq_iff_iff]; simp [ptB]; omega), rfl⟩





end

/- Contracts of the exported functions of chapter 1 on numbers, of the program and of its model. -/

section
open Go.RowKit





set_option maxHeartbeats 400000 in
theorem in_any (n l h : Int) (w : World) :
    Calls Try.prog 67 #[.int .i64 n, .int .i64 l, .int .i64 h] w fun e w' => e = .returned (.bool (decide (l ≤ n ∧ n ≤ h))) ∧ w = w' := by
  go_enter Try.func67, Try.ntmps67
  go_wp2
  all_goals
    go_ret
    exact ⟨ret_bool (by simp; try omega), rfl⟩

set_option maxHeartbeats 400000 in
theorem point_any (n : Int) (w : World) :
    Calls Try.prog 65 #[.int .i64 n] w fun e w' => e = .returned (.bool (ptB n)) ∧ w = w' := by
  go_enter Try.func65, Try.ntmps65
  go_wp2_with (first
    | (go_at_call 67; refine (in_any _ _ _ _).mono ?_; rintro e w' ⟨rfl, rfl⟩))
  all_goals
    go_ret
    exact ⟨ret_bool (by rw [Bool.eq_iff_iff]; simp [ptB]; try omega), rfl⟩








end

/- The reader of a code: what 'pick' does, whatever bytes the code has. -/

section
open Go.RowKit
set_option linter.unusedVariables false


/-- Block q holds a reader at place p over some bytes that lie below it. -/
def Rdr (w : World) (q : Nat) (p : Nat) : Prop :=
  ∃ (a : Option Addr) (len cap : Nat), w.heap[q]? = some (.cells #[.slice a len cap, .int .i64 p] 87 (0, 0)) ∧ len ≤ 2000 ∧ p ≤ 1000000 ∧
    (len = 0 ∨ ∃ b off, a = some ⟨b, off, none⟩ ∧ b < q ∧ ∀ i, i < len → ∃ c : Nat, c < 256 ∧ w.cell? ⟨b, off + i, none⟩ = some (.int .u8 c))

/-- What a pick leaves: a number from 0 to n-1, and the reader one place on. -/
def Picked (q p : Nat) (n : Int) (w : World) (e : Ending) (w' : World) : Prop :=
  ∃ v : Int, 0 ≤ v ∧ v < n ∧ e = .returned (.int .i64 v) ∧ ∃ m, w' = (w.setCell ⟨q, 1, none⟩ (.int .i64 (p + 1 : Nat))).drewN m

theorem cell_of_cells {w : World} {q : Nat} {cs : Array Value} {t : TypeId} (h : w.heap[q]? = some (.cells cs t (0, 0))) (i : Nat) : w.cell? ⟨q, i, none⟩ = cs[i]? := by
  simp [World.cell?, h]
theorem frozen_of_cells {w : World} {q : Nat} {cs : Array Value} {t : TypeId} (h : w.heap[q]? = some (.cells cs t (0, 0))) (i : Nat) : w.frozen? ⟨q, i, none⟩ = false := by
  simp [World.frozen?, h]

theorem xor_nat (a b : Nat) (ha : a < 2 ^ 62) (hb : b < 2 ^ 62) : bits .xor .i64 (a : Int) (b : Int) = ((a ^^^ b : Nat) : Int) := by
  have ha' : a % 2 ^ 64 = a := Nat.mod_eq_of_lt (by omega)
  have hb' : b % 2 ^ 64 = b := Nat.mod_eq_of_lt (by omega)
  have hx : a ^^^ b < 2 ^ 62 := Nat.xor_lt_two_pow ha hb
  have hk : (IntKind.i64).bits = 64 := rfl
  simp only [bits, hk, BitVec.ofInt_natCast, BitVec.toNat_xor, BitVec.toNat_ofNat, ha', hb']
  exact IntWalk.i64_in _ (by omega)

theorem mix_in (c1 c2 p len : Nat) (n : Int) (h1 : c1 < 256) (h2 : c2 < 256) (hp : p ≤ 1000000) (hl : 0 < len) (hn : 1 ≤ n) :
    let v := (bits BinOp.xor IntKind.i64 (wrap64 (↑c1 * 131 + ↑c2 * 1117 + ↑p * 29 + wrap64 (wrap64 (↑p / ↑len) * 53)))
      (wrap64 ((wrap64 (↑c1 * 131 + ↑c2 * 1117 + ↑p * 29 + wrap64 (wrap64 (↑p / ↑len) * 53))).tdiv 64))).tmod n
    0 ≤ v ∧ v < n := by
  intro v
  have hd := IntWalk.tdiv_le (p : Int) (len : Int) (by omega) (by omega)
  have hv : v = (((c1 * 131 + c2 * 1117 + p * 29 + p / len * 53) ^^^ ((c1 * 131 + c2 * 1117 + p * 29 + p / len * 53) / 64) : Nat) : Int).tmod n := by
    show (bits BinOp.xor IntKind.i64 _ _).tmod n = _
    have hd' : p / len ≤ p := Nat.div_le_self _ _
    have e1 : ((p : Int) / (len : Int)) = ((p / len : Nat) : Int) := rfl
    rw [e1]
    generalize p / len = d at *
    rw [IntWalk.wrap64_in (d : Int) (by omega), IntWalk.wrap64_in ((d : Int) * 53) (by omega), IntWalk.wrap64_in (↑c1 * 131 + ↑c2 * 1117 + ↑p * 29 + ↑d * 53) (by omega)]
    have e2 : ((c1 : Int) * 131 + ↑c2 * 1117 + ↑p * 29 + ↑d * 53) = ((c1 * 131 + c2 * 1117 + p * 29 + d * 53 : Nat) : Int) := by simp
    rw [e2]
    generalize hX : c1 * 131 + c2 * 1117 + p * 29 + d * 53 = X
    have hXb : X ≤ 1000000000 := by omega
    have e3 : ((X : Int).tdiv 64) = ((X / 64 : Nat) : Int) := by rw [Int.tdiv_eq_ediv_of_nonneg (by omega)]; rfl
    rw [e3, IntWalk.wrap64_in _ (by omega), xor_nat _ _ (by omega) (by omega)]
  rw [hv, Int.tmod_eq_emod_of_nonneg (by omega)]
  exact ⟨Int.emod_nonneg _ (by omega), Int.emod_lt_of_pos _ (by omega)⟩

set_option maxHeartbeats 400000 in
theorem pick_any (q p : Nat) (n : Int) (w : World) (h : Rdr w q p) (hn : 1 ≤ n) (hn' : n ≤ 1000000) :
    Calls Try.prog 62 #[.pointer (some ⟨q, 0, none⟩), .int .i64 n] w (Picked q p n w) := by
  obtain ⟨a, len, cap, hq, hl, hp, hb⟩ := h
  have hc0 : w.cell? ⟨q, 0, none⟩ = some (.slice a len cap) := by rw [cell_of_cells hq]; rfl
  have hc1 : w.cell? ⟨q, 1, none⟩ = some (.int .i64 p) := by rw [cell_of_cells hq]; rfl
  have hf1 : w.frozen? ⟨q, 1, none⟩ = false := frozen_of_cells hq 1
  have Hq := Lib.hid hq
  clear hq
  have hn0 : decide (n < 1) = false := by simp; omega
  rcases hb with rfl | ⟨b, off, rfl, hbq, hcell⟩
  · go_enter Try.func62, Try.ntmps62
    go_wp2
    go_ret
    exact ⟨0, by omega, by omega, rfl, 0, by simp; rfl⟩
  · by_cases hl0 : len = 0
    · subst hl0
      go_enter Try.func62, Try.ntmps62
      go_wp2
      go_ret
      exact ⟨0, by omega, by omega, rfl, 0, by simp; rfl⟩
    · have hl1 : ((len : Int) == 0) = false := by simp; omega
      have hne : ¬ b = q := by omega
      by_cases hk : p < len
      · obtain ⟨c, hc, hcc⟩ := hcell p hk
        clear hcell
        go_enter Try.func62, Try.ntmps62
        go_wp2
        go_ret
        exact ⟨(c : Int) % n, Int.emod_nonneg _ (by omega), Int.emod_lt_of_pos _ (by omega), by simp, 0, by simp; rfl⟩
      · obtain ⟨c1, hc1', hcc1⟩ := hcell (p % len) (Nat.mod_lt _ (by omega))
        obtain ⟨c2, hc2', hcc2⟩ := hcell ((p * 7 + 3) % len) (Nat.mod_lt _ (by omega))
        clear hcell
        go_enter Try.func62, Try.ntmps62
        go_wp2
        have hb1 : 0 ≤ (p : Int) % len := Int.emod_nonneg _ (by omega)
        have hb2 : (p : Int) % len < len := Int.emod_lt_of_pos _ (by omega)
        have hb3 : 0 ≤ ((p : Int) * 7 + 3) % len := Int.emod_nonneg _ (by omega)
        have hb4 : ((p : Int) * 7 + 3) % len < len := Int.emod_lt_of_pos _ (by omega)
        have e0 : (p : Int).tmod len = p % len := by rw [Int.tmod_eq_emod_of_nonneg (by omega)]
        have e1 : IntKind.i64.wrap ((p : Int) * 7) = (p : Int) * 7 := IntWalk.i64_in _ (by omega)
        have e2 : IntKind.i64.wrap ((p : Int) * 7 + 3) = (p : Int) * 7 + 3 := IntWalk.i64_in _ (by omega)
        have e3 : ((p : Int) * 7 + 3).tmod len = ((p : Int) * 7 + 3) % len := by rw [Int.tmod_eq_emod_of_nonneg (by omega)]
        have e4 : ((p : Int) % len).toNat = p % len := by omega
        have e5 : (((p : Int) * 7 + 3) % len).toNat = (p * 7 + 3) % len := by
          show (((p * 7 + 3 : Nat) : Int) % (len : Int)).toNat = _
          rw [← Int.natCast_emod]; exact Int.toNat_natCast _
        go_quiet (fail)
        clear e0 e1 e2 e3 e4 e5
        go_wp2
        go_ret
        have hm := mix_in c1 c2 p len n hc1' hc2' hp (by omega) hn
        exact ⟨_, hm.1, hm.2, rfl, nq, by simp⟩

end

/- The reader's budget; opening a code; drawing a position. -/

section
open Go.RowKit
set_option linter.unusedVariables false


/-- Only block q has turned, and no block is new. -/
structure Kept (q : Nat) (w w' : World) : Prop where
  os : w'.os = w.os
  tape : w'.tape = w.tape
  output : w'.output = w.output
  size : w'.heap.size = w.heap.size
  block : ∀ k, k ≠ q → w'.heap[k]? = w.heap[k]?

theorem Kept.refl (q : Nat) (w : World) : Kept q w w := ⟨rfl, rfl, rfl, rfl, fun _ _ => rfl⟩
theorem Kept.trans {q : Nat} {a b c : World} (h : Kept q a b) (k : Kept q b c) : Kept q a c :=
  ⟨k.os.trans h.os, k.tape.trans h.tape, k.output.trans h.output, k.size.trans h.size, fun i hi => (k.block i hi).trans (h.block i hi)⟩
theorem Kept.below {q B : Nat} {w w' : World} (h : Kept q w w') (hB : B ≤ q) : Below B w w' :=
  ⟨h.os, h.tape, h.output, Nat.le_of_eq h.size.symm, fun k hk => h.block k (by omega)⟩
theorem Kept.cell {q : Nat} {w w' : World} (h : Kept q w w') {p : Addr} (hp : p.block ≠ q) : w'.cell? p = w.cell? p := World.cell?_of_block (w := w) (h.block p.block hp)

/-- A reader in block q that may pick k times more. -/
def Ready (w : World) (q k : Nat) : Prop := ∃ p, Rdr w q p ∧ p + k ≤ 1000000

theorem Ready.less {w : World} {q k j : Nat} (h : Ready w q k) (hj : j ≤ k) : Ready w q j := by
  obtain ⟨p, hr, hp⟩ := h; exact ⟨p, hr, by omega⟩
theorem Rdr.keep {w w' : World} {q p : Nat} (h : Rdr w q p) (hk : ∀ k, k ≤ q → w'.heap[k]? = w.heap[k]?) : Rdr w' q p := by
  obtain ⟨a, len, cap, hq, hl, hp, hb⟩ := h
  refine ⟨a, len, cap, (hk q (Nat.le_refl _)).trans hq, hl, hp, ?_⟩
  rcases hb with h0 | ⟨b, off, ha, hbq, hc⟩
  · exact .inl h0
  · refine .inr ⟨b, off, ha, hbq, fun i hi => ?_⟩
    obtain ⟨c, hc1, hc2⟩ := hc i hi
    exact ⟨c, hc1, (World.cell?_of_block (w := w) (hk b (by omega))).trans hc2⟩
theorem Ready.keep {w w' : World} {q k : Nat} (h : Ready w q k) (hk : ∀ i, i ≤ q → w'.heap[i]? = w.heap[i]?) : Ready w' q k := by
  obtain ⟨p, hr, hp⟩ := h; exact ⟨p, hr.keep hk, hp⟩
theorem Ready.below {w w' : World} {q k B : Nat} (h : Ready w q k) (hb : Below B w w') (hB : q < B) : Ready w' q k := h.keep fun i hi => hb.block i (by omega)
theorem Ready.lt {w : World} {q k : Nat} (h : Ready w q k) : q < w.heap.size := by
  obtain ⟨p, ⟨a, len, cap, hq, _⟩, _⟩ := h
  rcases Nat.lt_or_ge q w.heap.size with hlt | hge
  · exact hlt
  · rw [Array.getElem?_eq_none hge] at hq; cases hq

/-- What a pick with budget leaves. -/
def Drew (q k : Nat) (lo hi : Int) (w : World) (e : Ending) (w' : World) : Prop :=
  ∃ v : Int, lo ≤ v ∧ v < hi ∧ e = .returned (.int .i64 v) ∧ Ready w' q k ∧ Kept q w w'

theorem kept_set (w : World) (q i m : Nat) (u : Value) : Kept q w ((w.setCell ⟨q, i, none⟩ u).drewN m) :=
  ⟨rfl, rfl, rfl, by simp [World.setCell, World.drewN], fun k hk => Below.heap_setCell w ⟨q, i, none⟩ u k hk⟩

theorem rdr_set {w : World} {q p : Nat} (h : Rdr w q p) (hp : p + 1 ≤ 1000000) (m : Nat) : Rdr ((w.setCell ⟨q, 1, none⟩ (.int .i64 (p + 1 : Nat))).drewN m) q (p + 1) := by
  obtain ⟨a, len, cap, hq, hl, _, hb⟩ := h
  refine ⟨a, len, cap, ?_, hl, hp, ?_⟩
  · show (w.setCell ⟨q, 1, none⟩ (.int .i64 (p + 1 : Nat))).heap[q]? = _
    simp [World.setCell, Array.getElem?_modify, hq]
  · rcases hb with h0 | ⟨b, off, ha, hbq, hc⟩
    · exact .inl h0
    · refine .inr ⟨b, off, ha, hbq, fun i hi => ?_⟩
      obtain ⟨c, hc1, hc2⟩ := hc i hi
      exact ⟨c, hc1, ((kept_set w q 1 m (.int .i64 (p + 1 : Nat))).cell (p := ⟨b, off + i, none⟩) (by show b ≠ q; omega)).trans hc2⟩

theorem pick_r (q k : Nat) (n : Int) (w : World) (h : Ready w q (k + 1)) (hn : 1 ≤ n) (hn' : n ≤ 1000000) :
    Calls Try.prog 62 #[.pointer (some ⟨q, 0, none⟩), .int .i64 n] w (Drew q k 0 n w) := by
  obtain ⟨p, hr, hp⟩ := h
  refine (pick_any q p n w hr hn hn').mono fun e w' ⟨v, h0, h1, he, m, hw⟩ => ?_
  subst hw
  exact ⟨v, h0, h1, he, ⟨p + 1, rdr_set hr (by omega) m, by omega⟩, kept_set w q 1 m _⟩

/-- The bytes of a code. -/
def BytesAt (w : World) (a : Option Addr) (len cap : Nat) : Prop :=
  len ≤ cap ∧ cap ≤ maxLen ∧ (len = 0 ∨ ∃ b off, a = some ⟨b, off, none⟩ ∧ b < w.heap.size ∧ ∀ i, i < len → ∃ c : Nat, c < 256 ∧ w.cell? ⟨b, off + i, none⟩ = some (.int .u8 c))

/-- What opening a code leaves: a reader in the next block. -/
def Opened (w : World) (e : Ending) (w' : World) : Prop :=
  e = .returned (.pointer (some ⟨w.heap.size, 0, none⟩)) ∧ Ready w' w.heap.size 1000000 ∧ Below w.heap.size w w' ∧ w'.heap.size = w.heap.size + 1

theorem opened_mk {w : World} {a : Option Addr} {len cap : Nat} (hl : len ≤ 2000) (hb : len = 0 ∨ ∃ b off, a = some ⟨b, off, none⟩ ∧ b < w.heap.size ∧ ∀ i, i < len → ∃ c : Nat, c < 256 ∧ w.cell? ⟨b, off + i, none⟩ = some (.int .u8 c)) :
    Opened w (.returned (.pointer (some ⟨w.heap.size, 0, none⟩))) (w.alloc (.cells #[.slice a len cap, .int .i64 0] 87)) := by
  refine ⟨rfl, ⟨0, ⟨a, len, cap, heap_alloc_new w _, hl, by omega, ?_⟩, by omega⟩, (Below.refl _ _).alloc (Nat.le_refl _) _, by simp⟩
  rcases hb with h0 | ⟨b, off, ha, hbq, hc⟩
  · exact .inl h0
  · refine .inr ⟨b, off, ha, hbq, fun i hi => ?_⟩
    obtain ⟨c, hc1, hc2⟩ := hc i hi
    exact ⟨c, hc1, (World.cell?_alloc_lt w _ _ hbq).trans hc2⟩

theorem open_any (a : Option Addr) (len cap : Nat) (w : World) (h : BytesAt w a len cap) :
    Calls Try.prog 48 #[.slice a len cap] w (Opened w) := by
  obtain ⟨hlc, hcm, hb⟩ := h
  unfold maxLen at hcm
  by_cases hl : len ≤ 2000
  · go_enter Try.func48, Try.ntmps48
    go_wp2
    go_ret
    exact opened_mk hl hb
  · rcases hb with h0 | ⟨b, off, rfl, hbq, hc⟩
    · omega
    · have HC := Lib.hid hc
      clear hc
      go_enter Try.func48, Try.ntmps48
      go_wp2
      go_ret
      exact opened_mk (Nat.le_refl _) (.inr ⟨b, off, rfl, hbq, fun i hi => HC.out i (by omega)⟩)

theorem point_r (q k : Nat) (w : World) (h : Ready w q (k + 2)) :
    Calls Try.prog 71 #[.pointer (some ⟨q, 0, none⟩)] w (Drew q k (-1) 65 w) := by
  go_enter Try.func71, Try.ntmps71
  go_wp2_with fail
  refine (pick_r q (k + 1) 24 w h (by omega) (by omega)).mono ?_
  rintro e w1 ⟨v, hv0, hv1, rfl, hr1, hk1⟩
  by_cases hv : v = 0
  · subst hv
    go_wp2_with fail
    refine (pick_r q k 2 w1 hr1 (by omega) (by omega)).mono ?_
    rintro e w2 ⟨u, hu0, hu1, rfl, hr2, hk2⟩
    go_wp2
    go_ret
    exact ⟨u * 65 - 1, by omega, by omega, rfl, hr2, hk1.trans hk2⟩
  · have hv' : (v == 0) = false := by simp [hv]
    go_wp2_with fail
    refine (pick_r q k 64 w1 hr1 (by omega) (by omega)).mono ?_
    rintro e w2 ⟨u, hu0, hu1, rfl, hr2, hk2⟩
    go_wp2
    go_ret
    exact ⟨u, by omega, by omega, rfl, hr2, hk1.trans hk2⟩

end

/- Drawing positions of the circle. -/

section
open Go.RowKit
set_option linter.unusedVariables false


/-- a slice of integers that came in: nil, or a row of cells -/
def RowIn (k : IntKind) (w : World) (a : Option Addr) (len cap : Nat) (zs : List Int) : Prop :=
  (a = none ∧ len = 0 ∧ cap = 0 ∧ zs = []) ∨
  ∃ x, a = some x ∧ len ≤ cap ∧ cap ≤ maxLen ∧ zs.length = cap ∧ (∀ i, i < zs.length → w.cell? (x.add i) = some (.int k (zs.getD i 0))) ∧ ∀ n ∈ zs, (Lit.int k n).wf = true

theorem block_lt_of_cell {w : World} {p : Addr} {v : Value} (h : w.cell? p = some v) : p.block < w.heap.size := by
  rcases Nat.lt_or_ge p.block w.heap.size with hlt | hge
  · exact hlt
  · exfalso
    have hn : w.heap[p.block]? = none := Array.getElem?_eq_none hge
    simp [World.cell?, hn] at h

theorem wf_u8 {n : Int} (h : (Lit.int .u8 n).wf = true) : 0 ≤ n ∧ n < 256 := by
  have h' := h
  have e1 : IntKind.u8.min = 0 := by decide
  have e2 : IntKind.u8.max = 255 := by decide
  simp [Lit.wf] at h'
  omega

theorem bytes_of_row {w : World} {a : Option Addr} {len cap : Nat} {zs : List Int} (h : RowIn .u8 w a len cap zs) : BytesAt w a len cap := by
  rcases h with ⟨rfl, rfl, rfl, rfl⟩ | ⟨x, rfl, hl, hm, hz, hcell, hwf⟩
  · exact ⟨Nat.le_refl _, by unfold maxLen; omega, .inl rfl⟩
  · refine ⟨hl, hm, ?_⟩
    by_cases h0 : len = 0
    · exact .inl h0
    · obtain ⟨b, off, spot⟩ := x
      have hc := hcell 0 (by omega)
      have hspot : spot = none := by simpa [Addr.add] using World.cell?_spot hc
      subst hspot
      have hlt := block_lt_of_cell hc
      refine .inr ⟨b, off, rfl, by simpa [Addr.add] using hlt, fun i hi => ?_⟩
      have hci := hcell i (by omega)
      have hmem : zs.getD i 0 ∈ zs := by
        have hi' : i < zs.length := by omega
        rw [List.getD_eq_getElem?_getD, List.getElem?_eq_getElem hi']
        exact List.getElem_mem hi'
      obtain ⟨h0', h1'⟩ := wf_u8 (hwf _ hmem)
      refine ⟨(zs.getD i 0).toNat, by omega, ?_⟩
      rw [Int.toNat_of_nonneg h0']
      by_cases hi0 : i = 0
      · subst hi0; simpa [Addr.add] using hci
      · simpa [Addr.add, hi0] using hci

/-- three drawn numbers -/
def Drew3 (w : World) (e : Ending) (w' : World) : Prop :=
  ∃ a x b : Int, -1 ≤ a ∧ a < 65 ∧ -1 ≤ x ∧ x < 65 ∧ -1 ≤ b ∧ b < 65 ∧ e = .returned (.tuple #[.int .i64 a, .int .i64 x, .int .i64 b]) ∧ Below w.heap.size w w'
def Drew2 (w : World) (e : Ending) (w' : World) : Prop :=
  ∃ a b : Int, -1 ≤ a ∧ a < 65 ∧ -1 ≤ b ∧ b < 65 ∧ e = .returned (.tuple #[.int .i64 a, .int .i64 b]) ∧ Below w.heap.size w w'




theorem isPoint_any (n : Int) (w : World) :
    Calls Try.prog 31 #[.int .i64 n] w fun e w' => e = .returned (.bool (ptB n)) ∧ w = w' := by
  go_enter Try.func31, Try.ntmps31
  go_wp2
  all_goals
    go_ret
    exact ⟨ret_bool (by rw [Bool.eq_iff_iff]; simp [ptB]; omega), rfl⟩

end

/- Sets of nodes as lists of numbers: what the functions of chapter 1 on nodes compute. -/

section
set_option linter.unusedVariables false


/-- the number at a place -/
def gt (zs : List Int) (i : Nat) : Int := zs.getD i 0
theorem gt_cons_zero (z : Int) (zs : List Int) : gt (z :: zs) 0 = z := by simp [gt]
theorem gt_cons_succ (z : Int) (zs : List Int) (i : Nat) : gt (z :: zs) (i + 1) = gt zs i := by simp [gt]
theorem gt_get {zs : List Int} {i : Nat} (h : i < zs.length) : gt zs i = zs[i] := by simp [gt, List.getElem?_eq_getElem h]

/-- the k-th number is a position, and greater than the one before it -/
def okAt (zs : List Int) (k : Nat) : Bool := ptB (gt zs k) && (decide (k = 0) || decide (gt zs (k - 1) < gt zs k))
/-- the first k numbers are ascending positions -/
def ascTo (zs : List Int) : Nat → Bool
  | 0 => true
  | k + 1 => ascTo zs k && okAt zs k
/-- a set of nodes -/
def vldB (zs : List Int) : Bool := decide (1 ≤ zs.length ∧ zs.length ≤ 10) && ascTo zs zs.length

theorem ascTo_mono {zs : List Int} {k n : Nat} (h : k ≤ n) (hn : ascTo zs n = true) : ascTo zs k = true := by
  induction n with
  | zero => have : k = 0 := by omega
            subst this; rfl
  | succ n ih =>
    rcases Nat.lt_or_ge n k with h' | h'
    · have : k = n + 1 := by omega
      subst this; exact hn
    · simp only [ascTo, Bool.and_eq_true] at hn
      exact ih h' hn.1
theorem asc_ok {zs : List Int} {k n : Nat} (h : k < n) (hn : ascTo zs n = true) : okAt zs k = true := by
  have := ascTo_mono (k := k + 1) h hn
  simp only [ascTo, Bool.and_eq_true] at this
  exact this.2
theorem asc_no {zs : List Int} {k n : Nat} (h : k < n) (hk : okAt zs k = false) : ascTo zs n = false := by
  cases hn : ascTo zs n
  · rfl
  · rw [asc_ok h hn] at hk; cases hk

/-- the numbers before place k are less than the key -/
def NoneTo (zs : List Int) (key : Int) (k : Nat) : Prop := ∀ i, i < k → gt zs i < key
/-- the first number at a position or after it, or the first of all -/
def nxtL (zs : List Int) (key : Int) : Int := (zs.find? fun n => decide (key ≤ n)).getD (gt zs 0)
def nxtI (zs : List Int) (key : Int) : Int := if vldB zs && ptB key then nxtL zs key else -1

theorem noneTo_zero (zs : List Int) (key : Int) : NoneTo zs key 0 := fun i h => absurd h (by omega)
theorem noneTo_succ {zs : List Int} {key : Int} {k : Nat} (h : NoneTo zs key k) (hk : gt zs k < key) : NoneTo zs key (k + 1) := by
  intro i hi
  rcases Nat.lt_or_ge i k with h' | h'
  · exact h i h'
  · have : i = k := by omega
    subst this; exact hk
theorem find_at {zs : List Int} {key : Int} : ∀ {k : Nat}, k < zs.length → NoneTo zs key k → key ≤ gt zs k → (zs.find? fun n => decide (key ≤ n)) = some (gt zs k) := by
  induction zs with
  | nil => intro k hk; simp at hk
  | cons z zs ih =>
    intro k hk hn hle
    cases k with
    | zero =>
      have : key ≤ z := by rw [gt_cons_zero] at hle; exact hle
      simp [List.find?, this, gt_cons_zero]
    | succ k =>
      have h0 : z < key := by have := hn 0 (by omega); rw [gt_cons_zero] at this; exact this
      have h0' : decide (key ≤ z) = false := by rw [decide_eq_false_iff_not]; omega
      rw [List.find?, h0']
      have := ih (k := k) (by simpa using hk) (fun i hi => by have := hn (i + 1) (by omega); rw [gt_cons_succ] at this; exact this) (by rw [gt_cons_succ] at hle; exact hle)
      rw [gt_cons_succ]
      exact this
theorem nxt_at {zs : List Int} {key : Int} {k : Nat} (hk : k < zs.length) (hn : NoneTo zs key k) (hle : key ≤ gt zs k) : nxtL zs key = gt zs k := by
  rw [nxtL, find_at hk hn hle]; rfl
theorem nxt_none {zs : List Int} {key : Int} (hn : NoneTo zs key zs.length) : nxtL zs key = gt zs 0 := by
  have : (zs.find? fun n => decide (key ≤ n)) = none := by
    rw [List.find?_eq_none]
    intro x hx
    obtain ⟨i, hi, rfl⟩ := List.getElem_of_mem hx
    have := hn i hi
    rw [gt_get hi] at this
    simp; exact this
  rw [nxtL, this]; rfl

/-- among the first k numbers the last one that is less than the key, or the last of all -/
def befTo (zs : List Int) (key : Int) : Nat → Int
  | 0 => gt zs (zs.length - 1)
  | k + 1 => if gt zs k < key then gt zs k else befTo zs key k
def befL (zs : List Int) (key : Int) : Int := befTo zs key zs.length
def befI (zs : List Int) (key : Int) : Int := if vldB zs && ptB key then befL zs key else -1
/-- no number from place k on is less than the key -/
def NoneFrom (zs : List Int) (key : Int) (k : Nat) : Prop := befTo zs key zs.length = befTo zs key k
theorem noneFrom_len (zs : List Int) (key : Int) : NoneFrom zs key zs.length := rfl
theorem noneFrom_down {zs : List Int} {key : Int} {k : Nat} (h : NoneFrom zs key (k + 1)) (hk : ¬ gt zs k < key) : NoneFrom zs key k := by
  unfold NoneFrom at h ⊢
  rw [h, befTo, if_neg hk]
theorem bef_at {zs : List Int} {key : Int} {k : Nat} (h : NoneFrom zs key (k + 1)) (hk : gt zs k < key) : befL zs key = gt zs k := by
  unfold NoneFrom at h
  rw [befL, h, befTo, if_pos hk]
theorem bef_none {zs : List Int} {key : Int} (h : NoneFrom zs key 0) : befL zs key = gt zs (zs.length - 1) := by
  unfold NoneFrom at h
  rw [befL, h]; rfl
theorem vld_len {zs : List Int} (h : vldB zs = true) : 1 ≤ zs.length ∧ zs.length ≤ 10 := by
  simp only [vldB, Bool.and_eq_true, decide_eq_true_eq] at h; exact h.1
theorem vld_asc {zs : List Int} (h : vldB zs = true) : ascTo zs zs.length = true := by
  simp only [vldB, Bool.and_eq_true, decide_eq_true_eq] at h; exact h.2

end

/- Contracts of the functions of chapter 1 on sets of nodes, of the program and of its model. -/

section
open Go.RowKit
set_option linter.unusedVariables false


/-- A slice at address a reads as the numbers zs. -/
def IntsAt (w : World) (a : Option Addr) (zs : List Int) : Prop :=
  zs = [] ∨ ∃ b off, a = some ⟨b, off, none⟩ ∧ b < w.heap.size ∧ ∀ i, i < zs.length → w.cell? ⟨b, off + i, none⟩ = some (.int .i64 (gt zs i))

theorem ok_zero {zs : List Int} (h : ptB (gt zs 0) = true) : ascTo zs 1 = true := by simp [ascTo, okAt, h]
theorem ok_succ {zs : List Int} {j : Nat} (h : ascTo zs (j + 1) = true) (hp : ptB (gt zs (j + 1)) = true) (hl : gt zs j < gt zs (j + 1)) : ascTo zs (j + 1 + 1) = true := by
  rw [ascTo, h]; simp only [Bool.true_and, okAt, hp, Nat.add_sub_cancel, Bool.or_eq_true, decide_eq_true_eq]; exact .inr hl
theorem vld_no_pt {zs : List Int} {k : Nat} (hk : k < zs.length) (h : ptB (gt zs k) = false) : vldB zs = false := by
  have : okAt zs k = false := by simp only [okAt, h, Bool.false_and]
  simp only [vldB, asc_no hk this, Bool.and_false]
theorem vld_no_lt {zs : List Int} {j : Nat} (hk : j + 1 < zs.length) (h : gt zs (j + 1) ≤ gt zs j) : vldB zs = false := by
  have : okAt zs (j + 1) = false := by
    simp only [okAt, Nat.add_sub_cancel, Bool.and_eq_false_iff, Bool.or_eq_false_iff, decide_eq_false_iff_not]
    exact .inr ⟨by omega, by omega⟩
  simp only [vldB, asc_no hk this, Bool.and_false]
theorem vld_yes {zs : List Int} (h1 : 1 ≤ zs.length) (h2 : zs.length ≤ 10) (h : ascTo zs zs.length = true) : vldB zs = true := by
  simp only [vldB, h, Bool.and_true, decide_eq_true_eq]; exact ⟨h1, h2⟩
theorem vld_no_len {zs : List Int} (h : ¬ (1 ≤ zs.length ∧ zs.length ≤ 10)) : vldB zs = false := by
  simp only [vldB, Bool.and_eq_false_iff, decide_eq_false_iff_not]; exact .inl h




end

/- Contracts of the model's functions on sets of nodes. -/

section
open Go.RowKit
set_option linter.unusedVariables false


/-- The world after some draws. -/
def Same (w w' : World) : Prop := ∃ n, w' = w.drewN n
theorem Same.refl (w : World) : Same w w := ⟨0, rfl⟩
theorem Same.drewN {w w' : World} (h : Same w w') (n : Nat) : Same w (w'.drewN n) := by
  obtain ⟨m, rfl⟩ := h; exact ⟨m + n, World.drewN_drewN _ _ _⟩
theorem Same.trans {a b c : World} (h : Same a b) (k : Same b c) : Same a c := by
  obtain ⟨m, rfl⟩ := k; exact h.drewN m
theorem Same.cell {w w' : World} (h : Same w w') (p : Addr) : w'.cell? p = w.cell? p := by
  obtain ⟨m, rfl⟩ := h; rfl
theorem Same.frozen {w w' : World} (h : Same w w') (p : Addr) : w'.frozen? p = w.frozen? p := by
  obtain ⟨m, rfl⟩ := h; rfl
theorem Same.heap {w w' : World} (h : Same w w') : w'.heap = w.heap := by
  obtain ⟨m, rfl⟩ := h; rfl
theorem Same.below {w w' : World} (h : Same w w') (B : Nat) : Below B w w' := by
  obtain ⟨m, rfl⟩ := h; exact ⟨rfl, rfl, rfl, Nat.le_refl _, fun _ _ => rfl⟩
theorem IntsAt.same {w w' : World} {a : Option Addr} {zs : List Int} (h : IntsAt w a zs) (hs : Same w w') : IntsAt w' a zs := by
  rcases h with h0 | ⟨b, off, ha, hb, hc⟩
  · exact .inl h0
  · exact .inr ⟨b, off, ha, by rw [hs.heap]; exact hb, fun i hi => (hs.cell _).trans (hc i hi)⟩
theorem calls_flip {P : Program} {f : FuncId} {args : Array Value} {w : World} {v : Value} (h : Calls P f args w fun e w' => e = .returned v ∧ w = w') :
    Calls P f args w fun e w' => e = .returned v ∧ w' = w := h.mono fun _ _ ⟨he, hw⟩ => ⟨he, hw.symm⟩

set_option maxHeartbeats 1000000 in
theorem snodes_any (a : Option Addr) (len cap : Nat) (zs : List Int) (w : World) (h : IntsAt w a zs) (hz : zs.length = len) (h1 : 1 ≤ len) (hm : len ≤ maxLen) :
    Calls Try.prog 57 #[.slice a len cap] w fun e w' => e = .returned (.bool (ascTo zs len)) ∧ Same w w' := by
  unfold maxLen at hm
  have h' : ∃ b off, a = some ⟨b, off, none⟩ ∧ ∀ i, i < len → w.cell? ⟨b, off + i, none⟩ = some (.int .i64 (gt zs i)) := by
    rcases h with h0 | ⟨b, off, ha, hb, hc⟩
    · rw [h0] at hz; simp at hz; omega
    · exact ⟨b, off, ha, fun i hi => hc i (by omega)⟩
  have HZ := Lib.hid hz
  clear h hz
  obtain ⟨b, off, rfl, hcell⟩ := h'
  have HC := Lib.hid hcell
  clear hcell
  go_enter Try.func57, Try.ntmps57
  go_wp2
  go_loopw [3] (fun i wr => ∃ k : Nat, k ≤ len ∧ i = .int .i64 k ∧ ascTo zs k = true ∧ Same w wr) (fun i _ => len - (intOf i).toNat)
  case atStart => exact ⟨0, by omega, rfl, rfl, Same.refl _⟩
  case round =>
    obtain ⟨k, hk, rfl, hasc, hsame⟩ := hrel
    have HA := Lib.hid hasc
    clear hasc
    by_cases hlt : k < len
    · have hc := (hsame.cell ⟨b, off + k, none⟩).trans (HC.out k hlt)
      rcases k with _ | j
      · rw [Nat.add_zero] at hc
        cases hp : ptB (gt zs 0)
        · go_wp2
          go_quiet ((go_at_call 65; exact Calls.quiet_of_same (calls_flip (point_any _ _))))
          go_wp2
          go_ret
          exact ⟨ret_bool (asc_no hlt (by simp only [okAt, hp, Bool.false_and])).symm, hsame.drewN _⟩
        · go_wp2
          go_quiet ((go_at_call 65; exact Calls.quiet_of_same (calls_flip (point_any _ _))))
          go_wp2
          go_roundw
          case rel => exact ⟨1, by omega, by go_num, ok_zero hp, hsame.drewN _⟩
          case measure => simp [intOf]; omega
      · have hc' := (hsame.cell ⟨b, off + j, none⟩).trans (HC.out j (by omega))
        cases hp : ptB (gt zs (j + 1))
        · go_wp2
          go_quiet ((go_at_call 65; exact Calls.quiet_of_same (calls_flip (point_any _ _))))
          go_wp2
          go_ret
          exact ⟨ret_bool (asc_no hlt (by simp only [okAt, hp, Bool.false_and])).symm, hsame.drewN _⟩
        · by_cases hgt : gt zs (j + 1) ≤ gt zs j
          · have HG : Hid (ascTo zs len = false) := asc_no hlt (by
              simp only [okAt, Nat.add_sub_cancel, Bool.and_eq_false_iff, Bool.or_eq_false_iff, decide_eq_false_iff_not]
              exact .inr ⟨by omega, by omega⟩)
            go_wp2
            go_quiet ((go_at_call 65; exact Calls.quiet_of_same (calls_flip (point_any _ _))))
            go_wp2
            go_ret
            exact ⟨ret_bool HG.out.symm, hsame.drewN _⟩
          · go_wp2
            go_quiet ((go_at_call 65; exact Calls.quiet_of_same (calls_flip (point_any _ _))))
            go_wp2
            go_roundw
            case rel => exact ⟨j + 1 + 1, by omega, by go_num, ok_succ HA.out hp (by omega), hsame.drewN _⟩
            case measure => simp [intOf]; omega
    · go_wp2
      go_ret
      exact ⟨ret_bool (by rw [show len = k by omega]; exact HA.out.symm), hsame⟩






end

/- Copies of a slice of numbers, and comparing two. -/

section
open Go.RowKit
set_option linter.unusedVariables false


theorem Try.infoInt : (Try.prog.info? 3).map (fun i => (i.zero, i.size, i.bytes)) = some (some (.int .i64 0), 1, 8) := by kernel_rfl

/-- the first k numbers copied, zeros behind them -/
def part (zs : List Int) (k : Nat) (j : Nat) : Value := .int .i64 (if j < k then gt zs j else 0)
theorem part_zero (zs : List Int) (j : Nat) : part zs 0 j = .int .i64 0 := by simp [part]
theorem part_succ (zs : List Int) (k j : Nat) : (if j = k then (.int .i64 (gt zs k)) else part zs k j) = part zs (k + 1) j := by
  unfold part
  by_cases h : j = k
  · subst h; simp
  · rw [if_neg h]
    congr 1
    by_cases h' : j < k
    · rw [if_pos h', if_pos (by omega)]
    · rw [if_neg h', if_neg (by omega)]

/-- block N holds just the numbers zs -/
def RowOf (w : World) (N : Nat) (zs : List Int) : Prop := w.rowIs N 3 zs.length (fun j => .int .i64 (gt zs j))
theorem RowOf.ints {w : World} {N : Nat} {zs : List Int} (h : RowOf w N zs) : IntsAt w (some ⟨N, 0, none⟩) zs := by
  refine .inr ⟨N, 0, rfl, h.lt, fun i hi => ?_⟩
  rw [Nat.zero_add]
  exact h.cell hi

/-- a new copy in the next block -/
def Copied (zs : List Int) (w : World) (e : Ending) (w' : World) : Prop :=
  e = .returned (.slice (some ⟨w.heap.size, 0, none⟩) zs.length zs.length) ∧ RowOf w' w.heap.size zs ∧ Below w.heap.size w w' ∧ w'.heap.size = w.heap.size + 1

set_option maxHeartbeats 1000000 in
theorem toInts_any (a : Option Addr) (len cap : Nat) (zs : List Int) (w : World) (h : IntsAt w a zs) (hz : zs.length = len) (hm : len ≤ 1048576) :
    Calls Try.prog 40 #[.slice a len cap] w (Copied zs w) := by
  have hmk := run_make_row' (P := Try.prog) 24 3 (.int .i64 0) 8 Try.underlying24 Try.infoInt rfl .i64 .i64 len (by omega) (by omega)
  have HI := Lib.hid h
  have HZ := Lib.hid hz
  clear h hz
  go_enter Try.func40, Try.ntmps40
  go_wp2
  clear hmk
  go_loopw [4] (fun i wr => ∃ k : Nat, k ≤ len ∧ i = .int .i64 k ∧ wr.rowIs w.heap.size 3 len (part zs k) ∧ Below w.heap.size w wr ∧ wr.heap.size = w.heap.size + 1) (fun i _ => len - (intOf i).toNat)
  case atStart => exact ⟨0, by omega, rfl, (World.rowIs_made w (.int .i64 0) len 3).congr (fun j _ => (part_zero zs j).symm), (Below.refl _ _).alloc (Nat.le_refl _) _, by simp⟩
  case round =>
    obtain ⟨k, hk, rfl, hrow, hbel, hsz⟩ := hrel
    by_cases hlt : k < len
    · have h' : ∃ b off, a = some ⟨b, off, none⟩ ∧ b < w.heap.size ∧ wr.cell? ⟨b, off + k, none⟩ = some (.int .i64 (gt zs k)) := by
        rcases HI.out with h0 | ⟨b, off, ha, hb, hc⟩
        · have := HZ.out; rw [h0] at this; simp at this; omega
        · exact ⟨b, off, ha, hb, (hbel.cell (p := ⟨b, off + k, none⟩) hb).trans (hc k (by rw [HZ.out]; exact hlt))⟩
      obtain ⟨b, off, ha, hb, hc⟩ := h'
      subst ha
      have hd := hrow.cell hlt
      have hf := hrow.frozen k
      have HS := Lib.hid hsz
      clear hsz
      go_wp2
      go_roundw
      case rel =>
        refine ⟨k + 1, by omega, by go_num, (hrow.set k (.int .i64 (gt zs k))).congr (fun j _ => part_succ zs k j), hbel.setCell (Nat.le_refl _) _, ?_⟩
        simp [World.setCell]; exact HS.out
      case measure => simp [intOf]; omega
    · have hkl : k = len := by omega
      have HK := Lib.hid hkl
      have HS := Lib.hid hsz
      clear hkl hsz
      go_wp2
      go_ret
      refine ⟨?_, ?_, hbel, HS.out⟩
      · rw [HZ.out]; rfl
      · unfold RowOf
        rw [HZ.out]
        exact hrow.congr (fun j hj => by unfold part; rw [if_pos (by have := HK.out; omega)])

set_option maxHeartbeats 1000000 in
theorem eqInts_same (a1 a2 : Option Addr) (len cap1 cap2 : Nat) (zs : List Int) (w : World) (h1 : IntsAt w a1 zs) (h2 : IntsAt w a2 zs) (hz : zs.length = len) (hm : len ≤ 1048576) :
    Calls Try.prog 42 #[.slice a1 len cap1, .slice a2 len cap2] w fun e w' => e = .returned (.bool true) ∧ Same w w' := by
  have H1 := Lib.hid h1
  have H2 := Lib.hid h2
  have HZ := Lib.hid hz
  clear h1 h2 hz
  have hne : ((len : Int) != (len : Int)) = false := by simp
  go_enter Try.func42, Try.ntmps42
  go_wp2
  go_loopw [5] (fun i wr => ∃ k : Nat, k ≤ len ∧ i = .int .i64 k ∧ Same w wr) (fun i _ => len - (intOf i).toNat)
  case atStart => exact ⟨0, by omega, rfl, Same.refl _⟩
  case round =>
    obtain ⟨k, hk, rfl, hsame⟩ := hrel
    by_cases hlt : k < len
    · have h' : ∃ b off, a1 = some ⟨b, off, none⟩ ∧ wr.cell? ⟨b, off + k, none⟩ = some (.int .i64 (gt zs k)) := by
        rcases H1.out with h0 | ⟨b, off, ha, hb, hc⟩
        · have := HZ.out; rw [h0] at this; simp at this; omega
        · exact ⟨b, off, ha, (hsame.cell _).trans (hc k (by rw [HZ.out]; exact hlt))⟩
      have h'' : ∃ b off, a2 = some ⟨b, off, none⟩ ∧ wr.cell? ⟨b, off + k, none⟩ = some (.int .i64 (gt zs k)) := by
        rcases H2.out with h0 | ⟨b, off, ha, hb, hc⟩
        · have := HZ.out; rw [h0] at this; simp at this; omega
        · exact ⟨b, off, ha, (hsame.cell _).trans (hc k (by rw [HZ.out]; exact hlt))⟩
      obtain ⟨b, off, ha, hc⟩ := h'
      obtain ⟨b2, off2, ha2, hc2⟩ := h''
      subst ha ha2
      have hv : ((gt zs k) != (gt zs k)) = false := by simp
      have hlt' : (k : Int) < (len : Int) := by omega
      have h0' : (0 : Int) ≤ (k : Int) := by omega
      go_wp2
      go_quiet (fail)
      go_wp2
      go_roundw
      case rel => exact ⟨k + 1, by omega, by go_num, hsame.drewN _⟩
      case measure => simp [intOf]; omega
    · go_wp2
      go_ret
      exact ⟨rfl, hsame⟩

end

/- Whether a list of numbers has a number. -/

section
open Go.RowKit
set_option linter.unusedVariables false


/-- the list has the number -/
def hasB (zs : List Int) (n : Int) : Bool := zs.contains n
theorem hasB_iff (zs : List Int) (n : Int) : hasB zs n = true ↔ n ∈ zs := by simp [hasB]
/-- none of the first k numbers is n -/
def NotTo (zs : List Int) (n : Int) (k : Nat) : Prop := ∀ i, i < k → gt zs i ≠ n
theorem notTo_zero (zs : List Int) (n : Int) : NotTo zs n 0 := fun i h => absurd h (by omega)
theorem notTo_succ {zs : List Int} {n : Int} {k : Nat} (h : NotTo zs n k) (hk : ¬ gt zs k = n) : NotTo zs n (k + 1) := by
  intro i hi
  rcases Nat.lt_or_ge i k with h' | h'
  · exact h i h'
  · have : i = k := by omega
    subst this; exact hk
theorem has_at {zs : List Int} {n : Int} {k : Nat} (hk : k < zs.length) (h : gt zs k = n) : hasB zs n = true := by
  rw [hasB_iff, ← h, gt_get hk]; exact List.getElem_mem hk
theorem has_none {zs : List Int} {n : Int} (h : NotTo zs n zs.length) : hasB zs n = false := by
  cases hh : hasB zs n
  · rfl
  · exfalso
    rw [hasB_iff] at hh
    obtain ⟨i, hi, he⟩ := List.getElem_of_mem hh
    exact h i hi (by rw [gt_get hi]; exact he)

set_option maxHeartbeats 1000000 in
theorem lhas_any (a : Option Addr) (len cap : Nat) (zs : List Int) (n : Int) (w : World) (h : IntsAt w a zs) (hz : zs.length = len) (hm : len ≤ maxLen) :
    Calls Try.prog 32 #[.slice a len cap, .int .i64 n] w fun e w' => e = .returned (.bool (hasB zs n)) ∧ w = w' := by
  unfold maxLen at hm
  have HI := Lib.hid h
  have HZ := Lib.hid hz
  clear h hz
  go_enter Try.func32, Try.ntmps32
  go_wp2
  go_loop [5] (fun i => ∃ k : Nat, k ≤ len ∧ i = .int .i64 k ∧ NotTo zs n k) (fun i => len - (intOf i).toNat)
  case atStart => exact ⟨0, by omega, rfl, notTo_zero _ _⟩
  case round =>
    obtain ⟨k, hk, rfl, hn⟩ := hrel
    by_cases hlt : k < len
    · have h' : ∃ b off, a = some ⟨b, off, none⟩ ∧ w.cell? ⟨b, off + k, none⟩ = some (.int .i64 (gt zs k)) := by
        rcases HI.out with h0 | ⟨b, off, ha, hb, hc⟩
        · have := HZ.out; rw [h0] at this; simp at this; omega
        · exact ⟨b, off, ha, hc k (by rw [HZ.out]; exact hlt)⟩
      obtain ⟨b, off, ha, hc⟩ := h'
      subst ha
      cases he : (gt zs k == n)
      · have he' : ¬ gt zs k = n := by simpa using he
        have HE := Lib.hid he'
        clear he'
        go_wp2
        go_round
        case rel => exact ⟨k + 1, by omega, by go_num, notTo_succ hn HE.out⟩
        case measure => simp [intOf]; omega
      · have he' : gt zs k = n := by simpa using he
        have HE := Lib.hid he'
        clear he'
        go_wp2
        go_ret
        exact ⟨ret_bool (has_at (by rw [HZ.out]; exact hlt) HE.out).symm, rfl⟩
    · go_wp2
      go_ret
      exact ⟨ret_bool (has_none (by rw [HZ.out, show len = k by omega]; exact hn)).symm, rfl⟩

end

/- Slices of numbers that a call made itself. -/

section
open Go.RowKit
set_option linter.unusedVariables false


theorem Try.infoI : (Try.prog.info? 3).map (fun i => (i.zero, i.size, i.bytes)) = some (some (.int .i64 0), 1, 8) := by kernel_rfl

def vals (zs : List Int) : List Value := zs.map fun z => .int .i64 z
theorem vals_len (zs : List Int) : (vals zs).length = zs.length := by simp [vals]
theorem vals_get {zs : List Int} {i : Nat} (h : i < zs.length) : (vals zs)[i]? = some (.int .i64 (gt zs i)) := by
  rw [gt_get h, vals, List.getElem?_map, List.getElem?_eq_getElem h]; rfl
theorem vals_one (zs : List Int) : ∀ u ∈ vals zs, u.oneCell' = true := by
  intro u hu
  obtain ⟨z, _, rfl⟩ := List.mem_map.1 hu
  rfl

/-- A slice of numbers in a block of the call's own, from block 'base' on. -/
def OwnI (w : World) (base : Nat) (a : Option Addr) (cap : Nat) (zs : List Int) : Prop :=
  w.ownsRow base 3 1 (.slice a zs.length cap) zs.length (vals zs)

theorem OwnI.at_ {w : World} {base : Nat} {a : Option Addr} {cap : Nat} {zs : List Int} (h : OwnI w base a cap zs) (hz : 0 < zs.length) :
    ∃ g, a = some ⟨g, 0, none⟩ ∧ base ≤ g ∧ g < w.heap.size ∧ (∀ i, i < zs.length → w.cell? ⟨g, i, none⟩ = some (.int .i64 (gt zs i))) ∧ (∀ i, w.frozen? ⟨g, i, none⟩ = false) := by
  rcases h.2 with ⟨_, h0⟩ | ⟨g, cap', cur, hv, hb, hg, hnc, hcm, hs, ht⟩
  · omega
  · injection hv with ha _ _
    refine ⟨g, ha, hb, (Array.getElem?_eq_some_iff.1 hg).1, fun i hi => ?_, fun i => frozen_of_cells hg i⟩
    rw [cell_of_cells hg]
    have h1 := vals_get hi
    rw [← ht, List.getElem?_take, if_pos (by omega)] at h1
    simpa using h1
theorem OwnI.ints {w : World} {base : Nat} {a : Option Addr} {cap : Nat} {zs : List Int} (h : OwnI w base a cap zs) : IntsAt w a zs := by
  rcases Nat.eq_zero_or_pos zs.length with h0 | h0
  · exact .inl (List.eq_nil_of_length_eq_zero h0)
  · obtain ⟨g, ha, _, hlt, hc, _⟩ := h.at_ h0
    exact .inr ⟨g, 0, ha, hlt, fun i hi => by rw [Nat.zero_add]; exact hc i hi⟩
theorem OwnI.kept {w w' : World} {base : Nat} {a : Option Addr} {cap : Nat} {zs : List Int} (h : OwnI w base a cap zs) (hk : ∀ g, base ≤ g → g < w.heap.size → w'.heap[g]? = w.heap[g]?) : OwnI w' base a cap zs := by
  refine ⟨h.1, ?_⟩
  rcases h.2 with hn | ⟨g, cap', cur, hv, hb, hg, rest⟩
  · exact .inl hn
  · exact .inr ⟨g, cap', cur, hv, hb, (hk g hb (Array.getElem?_eq_some_iff.1 hg).1).trans hg, rest⟩
theorem OwnI.less {w : World} {base base' : Nat} {a : Option Addr} {cap : Nat} {zs : List Int} (h : OwnI w base a cap zs) (hb : base' ≤ base) : OwnI w base' a cap zs := by
  refine ⟨h.1, ?_⟩
  rcases h.2 with hn | ⟨g, cap', cur, hv, hbg, rest⟩
  · exact .inl hn
  · exact .inr ⟨g, cap', cur, hv, by omega, rest⟩
theorem OwnI.cap_le {w : World} {base : Nat} {a : Option Addr} {cap : Nat} {zs : List Int} (h : OwnI w base a cap zs) : zs.length ≤ cap ∧ cap ≤ maxLen := by
  rcases h.2 with ⟨hv, h0⟩ | ⟨g, cap', cur, hv, hbg, hg, hnc, hcm, _⟩
  · injection hv with _ _ hc; subst hc; exact ⟨by omega, by unfold maxLen; omega⟩
  · injection hv with _ _ hc; subst hc; exact ⟨hnc, hcm⟩

theorem grown_trans {a b c : World} {q : Nat} (h : a.grownBy b (some q)) (k : b.grownBy c (some q)) : a.grownBy c (some q) :=
  ⟨k.os.trans h.os, k.tape.trans h.tape, k.output.trans h.output, Nat.le_trans h.size k.size, fun i hi hne => (k.block i (Nat.lt_of_lt_of_le hi h.size) hne).trans (h.block i hi hne)⟩
theorem Kept.grown {q : Nat} {w w' : World} (h : Kept q w w') : w.grownBy w' (some q) :=
  ⟨h.os, h.tape, h.output, Nat.le_of_eq h.size.symm, fun k _ hne => h.block k (fun e => hne (by rw [e]))⟩

/-- distinct numbers that all lie in a list are at most as many as the list has -/
theorem nodup_sub_len : ∀ (l zs : List Int), l.Nodup → (∀ x ∈ l, x ∈ zs) → l.length ≤ zs.length := by
  intro l
  induction l with
  | nil => intro zs _ _; simp
  | cons x l ih =>
    intro zs hn hs
    rw [List.nodup_cons] at hn
    have hx := hs x (by simp)
    have h1 := ih (zs.erase x) hn.2 (fun y hy => by
      have hne : y ≠ x := fun e => hn.1 (e ▸ hy)
      exact (List.mem_erase_of_ne hne).2 (hs y (by simp [hy])))
    rw [List.length_erase_of_mem hx] at h1
    have h2 : 0 < zs.length := List.length_pos_of_mem hx
    simp; omega
/-- few numbers leave a position free -/
theorem free_pos {zs : List Int} (h : zs.length < 64) : ∃ f : Int, 0 ≤ f ∧ f < 64 ∧ hasB zs f = false := by
  apply Classical.byContradiction
  intro hno
  have hall : ∀ x ∈ (List.range 64).map (fun n : Nat => (n : Int)), x ∈ zs := by
    intro x hx
    obtain ⟨n, hn, rfl⟩ := List.mem_map.1 hx
    rw [List.mem_range] at hn
    cases hh : hasB zs (n : Int)
    · exact absurd ⟨(n : Int), by omega, by omega, hh⟩ hno
    · exact (hasB_iff _ _).1 hh
  have hnd : ((List.range 64).map (fun n : Nat => (n : Int))).Nodup := by
    rw [List.nodup_iff_pairwise_ne, List.pairwise_map]
    exact List.nodup_range.imp (fun hne e => hne (by omega))
  have := nodup_sub_len _ zs hnd hall
  simp at this; omega

end

/- Drawing sets of nodes. -/

section
open Go.RowKit
set_option linter.unusedVariables false

attribute [local go_sem ↓] Go.wp_at_zero Go.wp_at_succ

/-- append onto a row of the call's own, as one step of a region that draws its order -/
theorem step_app {ops : Array Oper} {o : Oper} {a : Act} {K : Act → World → Prop} {Q : Exit → Act → World → Prop} {E : Prop} (W : World) (hgd : o.guard = none) (s x : Operand)
    (ho : o.op = .call { callee := .builtin .append, args := #[s, x], argTypes := #[24, 24] })
    (base g n cap : Nat) (xs : List Value) (hs : a.eval s = .slice (some ⟨g, 0, none⟩) n cap) (hown : W.ownsRow base 3 1 (.slice (some ⟨g, 0, none⟩) n cap) n xs)
    (ad : Addr) (m c : Nat) (news : List Value) (hx : a.eval x = .slice (some ad) m c) (hl : news.length = m) (hnews : ∀ j u, news[j]? = some u → W.cell? (ad.add j) = some u)
    (h1 : ∀ u ∈ news, u.oneCell' = true) (r : Nat) (ys : List Value) (hr : n + m = r) (hys : xs ++ news = ys) (hb : r ≤ 1000000) (hbase : base ≤ W.heap.size)
    (h : ∀ g' cap' w', w'.ownsRow base 3 1 (.slice (some ⟨g', 0, none⟩) r cap') r ys → W.grownBy w' (some g) → (g' = g ∨ g' = W.heap.size) → K (a.put o.dst (.slice (some ⟨g', 0, none⟩) r cap')) w') :
    if Region.wanted o (yielded ops a.tmps) = true then Oper.wp Try.prog o a W K Q else E := by
  have hw : Region.wanted o (yielded ops a.tmps) = true := by simp [Region.wanted, hgd]
  rw [if_pos hw]
  subst hr hys
  obtain ⟨i0, hi0, hz0, hz1, hz2⟩ := info_parts Try.infoI
  obtain ⟨v', w', hrun, ho1, hg1, hnone, hat⟩ := run_append_own_at (P := Try.prog) W base 24 o.type 3 i0 _ 1 8 Try.underlying24 hi0 hz0 hz1 hz2 rfl (by omega) _ n xs hown ad m c news (by omega) hnews h1 (by unfold maxLen; omega) (by omega) hbase
  have hv : ∃ g' cap', v' = .slice (some ⟨g', 0, none⟩) (n + m) cap' := by
    rcases ho1.2 with ⟨hn, _⟩ | ⟨g', cap', _, hv, _⟩
    · have := (hnone.1 hn).1; cases this
    · exact ⟨g', cap', hv⟩
  obtain ⟨g', cap', rfl⟩ := hv
  have hat' : g' = g ∨ g' = W.heap.size := by simpa [Value.ownBlock] using hat
  unfold Oper.wp execOp
  simp only [ho, resolve, invoke, builtin, Sem.run_bind, Sem.run_pure, Result.andThen_ok, List.map_toArray, List.map_cons, List.map_nil, hs, hx, hrun]
  exact h g' cap' w' ho1 hg1 hat'

theorem heap_first (w : World) (a b : Obj) : ((w.alloc a).alloc b).heap[w.heap.size]? = some a := (Below.heap_alloc (w.alloc a) b w.heap.size (by simp)).trans (heap_alloc_new w a)
theorem heap_second (w : World) (a b : Obj) : ((w.alloc a).alloc b).heap[w.heap.size + 1]? = some b := by
  have h := heap_alloc_new (w.alloc a) b
  simpa using h
theorem own_empty {W : World} {base N : Nat} (h : W.heap[N]? = some (.cells #[] 3 (0, 0))) (hb : base ≤ N) : W.ownsRow base 3 1 (.slice (some ⟨N, 0, none⟩) 0 0) 0 [] :=
  ⟨by simp, .inr ⟨N, 0, #[], rfl, hb, h, Nat.zero_le _, by unfold maxLen; omega, rfl, by simp⟩⟩
theorem add_plain (g o j : Nat) : (⟨g, o, none⟩ : Addr).add j = ⟨g, o + j, none⟩ := by unfold Addr.add; split <;> simp_all
theorem src_take {w W : World} {base g cap k : Nat} {zs : List Int} (h : OwnI w base (some ⟨g, 0, none⟩) cap zs) (hB : Below w.heap.size w W) :
    ∀ j u, (vals (zs.take k))[j]? = some u → W.cell? ((⟨g, 0, none⟩ : Addr).add j) = some u := by
  intro j u hu
  have hj : j < (zs.take k).length := by
    rcases Nat.lt_or_ge j (zs.take k).length with h' | h'
    · exact h'
    · rw [List.getElem?_eq_none (by rw [vals_len]; exact h')] at hu; cases hu
  have hj' : j < zs.length := by simp at hj; omega
  obtain ⟨g', ha, _, hlt, hc, _⟩ := h.at_ (by omega)
  injection ha with ha; injection ha with ha; subst ha
  rw [vals_get hj] at hu
  rw [add_plain, Nat.zero_add, hB.cell (p := ⟨g, j, none⟩) hlt, hc j hj', ← hu]
  simp [gt_get hj, gt_get hj']
theorem src_drop {w W : World} {base g cap k : Nat} {zs : List Int} (h : OwnI w base (some ⟨g, 0, none⟩) cap zs) (hB : Below w.heap.size w W) :
    ∀ j u, (vals (zs.drop k))[j]? = some u → W.cell? ((⟨g, k, none⟩ : Addr).add j) = some u := by
  intro j u hu
  have hj : j < (zs.drop k).length := by
    rcases Nat.lt_or_ge j (zs.drop k).length with h' | h'
    · exact h'
    · rw [List.getElem?_eq_none (by rw [vals_len]; exact h')] at hu; cases hu
  have hj' : k + j < zs.length := by simp at hj; omega
  obtain ⟨g', ha, _, hlt, hc, _⟩ := h.at_ (by omega)
  injection ha with ha; injection ha with ha; subst ha
  rw [vals_get hj] at hu
  rw [add_plain, hB.cell (p := ⟨g, k + j, none⟩) hlt, hc (k + j) hj', ← hu]
  simp [gt_get hj, gt_get hj']
theorem src_none (W : World) (ad : Addr) : ∀ j u, (vals [])[j]? = some u → W.cell? (ad.add j) = some u := by
  intro j u hu; simp [vals] at hu
theorem src_one {W : World} {N : Nat} {v : Value} (h : W.heap[N]? = some (.cells #[v] 3 (0, 0))) :
    ∀ j u, [v][j]? = some u → W.cell? ((⟨N, 0, none⟩ : Addr).add j) = some u := by
  intro j u hu
  rcases j with _ | j
  · rw [add_plain, cell_of_cells h]; simpa using hu
  · simp at hu

def GoodPost (q K : Nat) (least : Nat) (w : World) (e : Ending) (w' : World) : Prop :=
  ∃ (g cap : Nat) (zs : List Int), e = .returned (.slice (some ⟨g, 0, none⟩) zs.length cap) ∧ OwnI w' w.heap.size (some ⟨g, 0, none⟩) cap zs ∧ least ≤ zs.length ∧ zs.length ≤ 10 ∧ Ready w' q K ∧ w.grownBy w' (some q)

/-- at the head of the loop -/
def GoodAt (q K n : Nat) (w : World) (i : Nat) (v : Value) (wr : World) : Prop :=
  ∃ (g cap : Nat) (zs : List Int), v = .slice (some ⟨g, 0, none⟩) i cap ∧ zs.length = i ∧ OwnI wr w.heap.size (some ⟨g, 0, none⟩) cap zs ∧ Ready wr q (K + (n - i)) ∧ w.grownBy wr (some q)

theorem good_next {q K n i : Nat} {w w2 w5 : World} {g5 cap5 : Nat} {ys : List Int} (hq : q < w.heap.size) (hg2 : w.grownBy w2 (some q)) (hr2 : Ready w2 q (K + (n - (i + 1)))) (hB5 : Below w2.heap.size w2 w5)
    (hl : ys.length = i + 1) (hown5 : w5.ownsRow w2.heap.size 3 1 (.slice (some ⟨g5, 0, none⟩) (i + 1) cap5) (i + 1) (vals ys)) : GoodAt q K n w (i + 1) (.slice (some ⟨g5, 0, none⟩) (i + 1) cap5) w5 := by
  have hs := hg2.size
  refine ⟨g5, cap5, ys, rfl, hl, ?_, hr2.below hB5 (by omega), grown_trans hg2 ⟨hB5.os, hB5.tape, hB5.output, hB5.size, fun k hk _ => hB5.block k hk⟩⟩
  have h : OwnI w5 w2.heap.size (some ⟨g5, 0, none⟩) cap5 ys := by unfold OwnI; rw [hl]; exact hown5
  exact h.less hs


end

/- Drawing nodes, seldom invalid ones; drawing nodes and a key. -/

section
open Go.RowKit
set_option linter.unusedVariables false

attribute [local go_sem ↓] Go.wp_at_zero Go.wp_at_succ

/-- A slice of numbers in blocks from 'base' on. -/
def IntsFrom (w : World) (base : Nat) (a : Option Addr) (zs : List Int) : Prop :=
  zs = [] ∨ ∃ b off, a = some ⟨b, off, none⟩ ∧ base ≤ b ∧ b < w.heap.size ∧ ∀ i, i < zs.length → w.cell? ⟨b, off + i, none⟩ = some (.int .i64 (gt zs i))
theorem IntsFrom.ints {w : World} {base : Nat} {a : Option Addr} {zs : List Int} (h : IntsFrom w base a zs) : IntsAt w a zs := by
  rcases h with h0 | ⟨b, off, ha, _, hb, hc⟩
  · exact .inl h0
  · exact .inr ⟨b, off, ha, hb, hc⟩
theorem OwnI.froms {w : World} {base : Nat} {a : Option Addr} {cap : Nat} {zs : List Int} (h : OwnI w base a cap zs) : IntsFrom w base a zs := by
  rcases Nat.eq_zero_or_pos zs.length with h0 | h0
  · exact .inl (List.eq_nil_of_length_eq_zero h0)
  · obtain ⟨g, ha, hb, hlt, hc, _⟩ := h.at_ h0
    exact .inr ⟨g, 0, ha, hb, hlt, fun i hi => by rw [Nat.zero_add]; exact hc i hi⟩
theorem IntsFrom.keep {w w' : World} {base : Nat} {a : Option Addr} {zs : List Int} (h : IntsFrom w base a zs) (hs : w.heap.size ≤ w'.heap.size) (hk : ∀ g, base ≤ g → g < w.heap.size → w'.heap[g]? = w.heap[g]?) : IntsFrom w' base a zs := by
  rcases h with h0 | ⟨b, off, ha, hb, hlt, hc⟩
  · exact .inl h0
  · exact .inr ⟨b, off, ha, hb, Nat.lt_of_lt_of_le hlt hs, fun i hi => (World.cell?_of_block (w := w) (hk b hb hlt)).trans (hc i hi)⟩

theorem OwnI.set {w : World} {base g cap i : Nat} {zs : List Int} (h : OwnI w base (some ⟨g, 0, none⟩) cap zs) (hi : i < zs.length) (x : Int) :
    OwnI (w.setCell ⟨g, i, none⟩ (.int .i64 x)) base (some ⟨g, 0, none⟩) cap (zs.set i x) := by
  rcases h.2 with ⟨hv, _⟩ | ⟨g', cap', cur, hv, hb, hg, hnc, hcm, hs, ht⟩
  · cases hv
  · injection hv with ha _ hcap
    injection ha with ha
    injection ha with ha
    subst ha hcap
    have hlen : (zs.set i x).length = zs.length := by simp
    refine ⟨by rw [vals_len]; omega, .inr ⟨g, cap, cur.setIfInBounds i (.int .i64 x), by rw [hlen], hb, ?_, by rw [hlen]; exact hnc, hcm, by simpa using hs, ?_⟩⟩
    · simp [World.setCell, Array.getElem?_modify, hg]
    · rw [hlen]
      have e : (cur.setIfInBounds i (Value.int .i64 x)).toList = cur.toList.set i (.int .i64 x) := by simp
      rw [e, List.take_set, ht]
      simp [vals, List.map_set]

theorem wl_app {ops : Array Oper} {rest : List Oper} {o : Oper} {a : Act} {Q : Exit → Act → World → Prop} (W : World) (hgd : o.guard = none) (s x : Operand)
    (ho : o.op = .call { callee := .builtin .append, args := #[s, x], argTypes := #[24, 24] })
    (base g n cap : Nat) (xs : List Value) (hs : a.eval s = .slice (some ⟨g, 0, none⟩) n cap) (hown : W.ownsRow base 3 1 (.slice (some ⟨g, 0, none⟩) n cap) n xs)
    (ad : Addr) (m c : Nat) (news : List Value) (hx : a.eval x = .slice (some ad) m c) (hl : news.length = m) (hnews : ∀ j u, news[j]? = some u → W.cell? (ad.add j) = some u)
    (h1 : ∀ u ∈ news, u.oneCell' = true) (r : Nat) (ys : List Value) (hr : n + m = r) (hys : xs ++ news = ys) (hb : r ≤ 1000000) (hbase : base ≤ W.heap.size)
    (h : ∀ g' cap' w', w'.ownsRow base 3 1 (.slice (some ⟨g', 0, none⟩) r cap') r ys → W.grownBy w' (some g) → (g' = g ∨ g' = W.heap.size) → wpList Try.prog ops Q rest (a.put o.dst (.slice (some ⟨g', 0, none⟩) r cap')) w') :
    wpList Try.prog ops Q (o :: rest) a W := by
  subst hr hys
  obtain ⟨i0, hi0, hz0, hz1, hz2⟩ := info_parts Try.infoI
  refine wpList_append_own_at (P := Try.prog) W hgd s x _ ho base 3 i0 _ 1 8 Try.underlying24 hi0 hz0 hz1 hz2 rfl (by omega) _ n xs hs hown ad m c news hx (by omega) hnews h1 (by unfold maxLen; omega) (by omega) hbase ?_
  intro v' w' ho1 hg1 hnone hat
  have hv : ∃ g' cap', v' = .slice (some ⟨g', 0, none⟩) (n + m) cap' := by
    rcases ho1.2 with ⟨hn, _⟩ | ⟨g', cap', _, hv, _⟩
    · have := (hnone.1 hn).1; cases this
    · exact ⟨g', cap', hv⟩
  obtain ⟨g', cap', rfl⟩ := hv
  exact h g' cap' w' ho1 hg1 (by simpa [Value.ownBlock] using hat)

/-- what drawing nodes leaves -/
def NodesPost (q K : Nat) (w : World) (e : Ending) (w' : World) : Prop :=
  ∃ (a : Option Addr) (cap : Nat) (zs : List Int), e = .returned (.slice a zs.length cap) ∧ IntsFrom w' w.heap.size a zs ∧ zs.length ≤ 20 ∧ zs.length ≤ cap ∧ Ready w' q K ∧ w.grownBy w' (some q)

theorem src_self {w : World} {base g cap : Nat} {zs : List Int} (h : OwnI w base (some ⟨g, 0, none⟩) cap zs) :
    ∀ j u, (vals zs)[j]? = some u → w.cell? ((⟨g, 0, none⟩ : Addr).add j) = some u := by
  have h' := src_take (k := zs.length) h (Below.refl _ _)
  rw [List.take_length] at h'
  exact h'


/-- drawn nodes and a drawn key -/
def DrewNK (w : World) (e : Ending) (w' : World) : Prop :=
  ∃ (a : Option Addr) (cap : Nat) (zs : List Int) (key : Int), e = .returned (.tuple #[.slice a zs.length cap, .int .i64 key]) ∧ IntsFrom w' w.heap.size a zs ∧ zs.length ≤ 20 ∧ zs.length ≤ cap ∧ Below w.heap.size w w'
def DrewN (w : World) (e : Ending) (w' : World) : Prop :=
  ∃ (a : Option Addr) (cap : Nat) (zs : List Int), e = .returned (.slice a zs.length cap) ∧ IntsFrom w' w.heap.size a zs ∧ zs.length ≤ 20 ∧ zs.length ≤ cap ∧ Below w.heap.size w w'

theorem below_of_grown {q : Nat} {w w0 w1 : World} (hb : Below w.heap.size w w0) (hq : w.heap.size ≤ q) (hz : w.heap.size ≤ w0.heap.size) (hg : w0.grownBy w1 (some q)) : Below w.heap.size w w1 :=
  hb.grown hg hz (fun k hk => by injection hk with hk; omega)




end

end Go.Proofs.Ytenhaccdiamagaa
