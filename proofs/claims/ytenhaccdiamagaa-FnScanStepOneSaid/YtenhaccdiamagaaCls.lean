/- Regions that draw their order and whose calls make memory: one walk in the order of the text, in a class of worlds. -/
import Derived.Test.YtenhaccdiamagaaRowsI
import Derived.BigQuiet
import Derived.Below
import Derived.Handy
namespace Go.Proofs.Ytenhaccdiamagaa


section
open Go.RowKit
set_option linter.unusedVariables false


/-- A world in which R holds. -/
structure Cls (R : World → Prop) where
  to : World
  ok : R to
theorem wp_region_cls {P : Program} {id : Nat} {Q : Exit → Act → World → Prop} {a : Act} {w : World} {l : List Oper} (R : World → Prop) (hm : P.follows .mixedOrders = true) (hB : Region.lexB .any l.toArray = true)
    (hC : R { w with drawn := w.drawn + 1 })
    (h : wpQuiet P l.toArray (fun w' => ∃ x : Cls R, w' = x.to) (fun a' => ∀ w', (∃ x : Cls R, w' = x.to) → Q .normal a' w') l a) : (Code.region id l.toArray true).wp P Q a w :=
  wp_region_quiet (C := fun w' => ∃ x : Cls R, w' = x.to) hm hB ⟨⟨_, hC⟩, rfl⟩ (by simpa using h)
/-- A callee's contract, met in a world of the class. -/
theorem cls_of {P : Program} {f : FuncId} {args : Array Value} {R : World → Prop} {w : World} {v : Value} (h : Calls P f args w fun e w' => e = .returned v ∧ R w') :
    Calls P f args w fun e w'' => e = .returned v ∧ ∃ x : Cls R, w'' = x.to :=
  h.mono fun _ w' ⟨he, hr⟩ => ⟨he, ⟨w', hr⟩, rfl⟩
theorem cls_same {P : Program} {f : FuncId} {args : Array Value} {R : World → Prop} {w : World} {v : Value} (h : Calls P f args w fun e w' => e = .returned v ∧ w = w') (hr : R w) :
    Calls P f args w fun e w'' => e = .returned v ∧ ∃ x : Cls R, w'' = x.to :=
  h.mono fun _ w' ⟨he, hw⟩ => ⟨he, ⟨w', hw ▸ hr⟩, rfl⟩
theorem cls_below {P : Program} {f : FuncId} {args : Array Value} {B : Nat} {W w : World} {v : Value} (h : Calls P f args w fun e w' => e = .returned v ∧ Below w.heap.size w w') (hr : Below B W w) (hB : B ≤ W.heap.size) :
    Calls P f args w fun e w'' => e = .returned v ∧ ∃ x : Cls (Below B W), w'' = x.to :=
  h.mono fun _ w' ⟨he, hw⟩ => ⟨he, ⟨w', hr.trans (hw.mono (Nat.le_trans hB hr.size))⟩, rfl⟩
instance clsBelow (B : Nat) (W : World) : Nonempty (Cls (Below B W)) := ⟨⟨W, Below.refl _ _⟩⟩
theorem cls_out {R : World → Prop} {w : World} (h : ∃ x : Cls R, w = x.to) : R w := by obtain ⟨x, rfl⟩ := h; exact x.ok
theorem below_drawn {B : Nat} {W : World} : Below B W { W with drawn := W.drawn + 1 } := (Below.refl B W).drew

end
end Go.Proofs.Ytenhaccdiamagaa
