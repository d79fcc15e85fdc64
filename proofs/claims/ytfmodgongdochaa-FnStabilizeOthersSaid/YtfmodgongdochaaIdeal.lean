/- Linked peers that know their neighbours: RingIdeal. -/
import Derived.Test.YtfmodgongdochaaNet2
import Derived.LaidEqlPtr
namespace Go.Proofs.Ytfmodgongdochaa
open Go.RowKit
set_option linter.unusedVariables false

/-- the place some steps above, around the end -/
def nbI (len i : Nat) (s : Int) : Nat := (((i : Int) + s + len) % len).toNat
theorem nb_lt {len i : Nat} {s : Int} (h : 0 < len) : nbI len i s < len := by
  unfold nbI
  have h1 := Int.emod_nonneg ((i : Int) + s + len) (b := (len : Int)) (by omega)
  have h2 := Int.emod_lt_of_pos ((i : Int) + s + len) (b := (len : Int)) (by omega)
  omega
theorem nb_tmod {len i : Nat} {s : Int} (h : 0 < len) (hs : -1 ≤ s) : ((i : Int) + s + len).tmod len = (nbI len i s : Nat) := by
  unfold nbI
  have h1 := Int.emod_nonneg ((i : Int) + s + len) (b := (len : Int)) (by omega)
  rw [Int.tmod_eq_emod_of_nonneg (by omega)]
  omega


theorem ptr_iff {w : World} {L : Nat} {r : List Nd} {K : Nat → Option Pr} (h : Net w L r K) {z z' : Int} {g g' : Nat} (hz : 0 ≤ z ∧ z < 64) (hz' : 0 ≤ z' ∧ z' < 64) (hp : PtrOf K z (some ⟨g, 0, none⟩)) (hp' : PtrOf K z' (some ⟨g', 0, none⟩)) : g = g' ↔ z = z' := by
  obtain ⟨base, c, tp, la, h1, _⟩ := h
  obtain ⟨q, hq, e⟩ := hp
  obtain ⟨q', hq', e'⟩ := hp'
  have eg : q.blk = g := by simp [Pr.ad] at e; exact e.symm
  have eg' : q'.blk = g' := by simp [Pr.ad] at e'; exact e'.symm
  constructor
  · intro hgg
    have := h1.inj (x := z.toNat) (y := z'.toNat) (by omega) (by omega) hq hq' (by rw [eg, eg', hgg])
    omega
  · intro hzz
    subst hzz
    rw [hq] at hq'
    injection hq' with hq'
    subst hq'
    rw [← eg, ← eg']

theorem Net.blk {w : World} {L : Nat} {r : List Nd} {K : Nat → Option Pr} (h : Net w L r K) {z : Int} {g : Nat} (hz : 0 ≤ z ∧ z < 64) (hp : PtrOf K z (some ⟨g, 0, none⟩)) : ∃ cs, w.heap[g]? = some (.cells cs 76 (0, 0)) := by
  obtain ⟨base, c, tp, la, h1, _⟩ := h
  obtain ⟨q, hq, e⟩ := hp
  have eg : q.blk = g := by simp [Pr.ad] at e; exact e.symm
  exact ⟨_, eg ▸ (h1.peer _ _ (by omega) hq).1⟩
/-- two peers are compared -/
theorem peq {w : World} {a b : Nat} {ca cb : Array Value} (ha : w.heap[a]? = some (.cells ca 76 (0, 0))) (hb : w.heap[b]? = some (.cells cb 76 (0, 0))) :
    (binOp .eql 59 (.pointer (some ⟨a, 0, none⟩)) (.pointer (some ⟨b, 0, none⟩))).run Try.prog w = .ok (.bool (decide (a = b))) w := by
  have hi : (Try.prog.info? 76).map (fun i => i.size) = some 5 := by kernel_rfl
  obtain ⟨i, hi1, hi2⟩ := Option.map_eq_some_iff.1 hi
  by_cases h : a = b
  · subst h
    rw [run_eql_ptr_same w _ Try.underlying59 hi1]; simp
  · rw [run_eql_ptr_other w Try.underlying59 hi1 (by omega) (by intro e; injection e with e; exact h e) ha hb]; simp [h]
theorem pne {w : World} {a b : Nat} {ca cb : Array Value} (ha : w.heap[a]? = some (.cells ca 76 (0, 0))) (hb : w.heap[b]? = some (.cells cb 76 (0, 0))) :
    (binOp .neq 59 (.pointer (some ⟨a, 0, none⟩)) (.pointer (some ⟨b, 0, none⟩))).run Try.prog w = .ok (.bool (!decide (a = b))) w := by
  have h := peq ha hb
  simp only [binOp] at h ⊢
  cases he : (Op.equal 59 (.pointer (some ⟨a, 0, none⟩)) (.pointer (some ⟨b, 0, none⟩))).run Try.prog w <;> simp [he] at h ⊢
  obtain ⟨h1, h2⟩ := h
  simp [h1, h2]
theorem pnil (w : World) (b : Nat) : (binOp .eql 59 (.pointer none) (.pointer (some ⟨b, 0, none⟩))).run Try.prog w = .ok (.bool false) w := by
  have h : ∀ d : Nat, (Op.equalIn (d + 1) 59 (.pointer none) (.pointer (some ⟨b, 0, none⟩))).run Try.prog w = .ok false w := fun d => by
    simp [Op.equalIn, run_underlying Try.underlying59]
  simp only [binOp]
  simp [Op.equal, Op.maxDepth, h 9999]

/-- a node knows its neighbours -/
def kn1 (r : List Nd) (i : Nat) (k : Nat) (s : Int) : Bool := decide (gt (gn r i).aft k = (gn r (nbI r.length i s)).pos)
def knb (r : List Nd) (i : Nat) : Bool := decide ((gn r i).bef = (gn r (nbI r.length i (-1))).pos)
def knB (r : List Nd) (i : Nat) : Bool := kn1 r i 0 1 && kn1 r i 1 2 && knb r i

def KnAt (r : List Nd) (i : Nat) (v : Value) : Prop := v = .int .i64 0 ∨ (v = .int .i64 1 ∧ Hid (kn1 r i 0 1 = true)) ∨ (v = .int .i64 2 ∧ Hid (kn1 r i 0 1 = true) ∧ Hid (kn1 r i 1 2 = true))

end Go.Proofs.Ytfmodgongdochaa
