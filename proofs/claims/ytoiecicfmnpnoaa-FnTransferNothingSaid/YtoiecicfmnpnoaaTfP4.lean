/- Transfers: the program's ChunkPut. -/
import Derived.Test.YtoiecicfmnpnoaaTfP3
namespace Go.Proofs.Ytoiecicfmnpnoaa
open Go.RowKit
set_option linter.unusedVariables false

attribute [local go_sem ↓] Go.wp_at_zero Go.wp_at_succ

theorem run_min2p {P : Program} (ts : Array TypeId) (t : TypeId) (k k' : IntKind) (x y : Int) (w : World) : (Builtin.min_ ts t #[.int k x, .int k' y]).run P w = .ok (.int k (min x y)) w := by
  simp [Builtin.min_, Builtin.min2]; omega
attribute [local go_sem ↓] run_min2p

/-- how many of a chunk's items were received before -/
theorem fit_cut {got : List Int} {c : Ck} {p K : Nat} (hp : c.pos = (p : Int)) (h1 : p ≤ got.length) (hK : K = min (got.length - p) c.items.length) :
    fitTo got c c.items.length = decide (cutL got (p : Int) ((p + K : Nat) : Int) = cutL c.items ((0 : Nat) : Int) (K : Int)) := by
  have hn : c.pos.toNat = p := by omega
  have e1 : (cutL got (p : Int) ((p + K : Nat) : Int)).length = K := by rw [cutL_len' (by omega) (by omega)]; omega
  have e2 : (cutL c.items ((0 : Nat) : Int) (K : Int)).length = K := by rw [cutL_len' (by omega) (by omega)]; omega
  rw [Bool.eq_iff_iff, fitTo_iff, decide_eq_true_eq, hn]
  constructor
  · intro h
    refine list_ext_gt (e1.trans e2.symm) fun i hi => ?_
    rw [e1] at hi
    rw [gt_cutL (by omega), gt_cutL (by omega)]
    have := h i (by omega) (by omega)
    simpa using this
  · intro h i hi hl
    have h3 : gt (cutL got (p : Int) ((p + K : Nat) : Int)) i = gt (cutL c.items ((0 : Nat) : Int) (K : Int)) i := by rw [h]
    rw [gt_cutL (by omega), gt_cutL (by omega)] at h3
    simpa using h3
theorem put_cut {got : List Int} {c : Ck} {p K : Nat} (hp : c.pos = (p : Int)) (h1 : p ≤ got.length) (hK : K = min (got.length - p) c.items.length) :
    putTo got c c.items.length = got ++ cutL c.items (K : Int) (c.items.length : Int) := by
  have hn : c.pos.toNat = p := by omega
  unfold putTo cutL
  rw [List.take_length, hn]
  congr 1
  rw [List.take_of_length_le (by rw [List.length_drop]; omega)]
  rcases Nat.le_total (got.length - p) c.items.length with e | e
  · rw [show (K : Int).toNat = got.length - p by omega]
  · rw [List.drop_eq_nil_of_le e, List.drop_eq_nil_of_le (by omega)]

end Go.Proofs.Ytoiecicfmnpnoaa
