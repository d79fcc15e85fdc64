/- What the model does to leases. -/
import Derived.Test.YtoaamamconcieaaDoorLsP
namespace Go.Proofs.YtoaamamconcieaaDoor
open Go.RowKit
set_option linter.unusedVariables false



theorem mgS_same {L : List Ls} {j : Nat} (hs : sameLs (gl L j) (gl L (j + 1)) = true) : mgS L (j + 2) = (mgS L (j + 1)).set (mgTo L j).length ⟨(gl L (j + 1)).e, (gl L j).o, (gl L j).u⟩ := by
  have h := hs
  simp only [sameLs, decide_eq_true_eq] at h
  have e : (⟨(gl L (j + 1)).e, (gl L j).o, (gl L j).u⟩ : Ls) = gl L (j + 1) := by rw [h.1, h.2]
  rw [e]
  show mgTo L (j + 1) ++ [gl L (j + 1)] = (mgTo L j ++ [gl L j]).set _ _
  rw [mgTo, if_pos hs, List.append_nil, List.set_append, if_neg (by omega)]
  simp
theorem mgS_diff {L : List Ls} {j : Nat} (hs : sameLs (gl L j) (gl L (j + 1)) = false) : mgS L (j + 2) = mgS L (j + 1) ++ [gl L (j + 1)] := by
  show mgTo L (j + 1) ++ [gl L (j + 1)] = (mgTo L j ++ [gl L j]) ++ _
  rw [mgTo, if_neg (by rw [hs]; decide)]
theorem mgS_lenS (L : List Ls) (j : Nat) : (mgS L (j + 1)).length = (mgTo L j).length + 1 := by simp [mgS]
theorem mgS_at (L : List Ls) (j : Nat) : gl (mgS L (j + 1)) (mgTo L j).length = gl L j := by
  rw [gl_get (by rw [mgS_lenS]; omega)]
  simp [mgS]


end Go.Proofs.YtoaamamconcieaaDoor
