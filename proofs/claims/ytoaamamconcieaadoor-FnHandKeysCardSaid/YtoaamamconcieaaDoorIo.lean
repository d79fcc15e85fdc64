/- The words of the program's head, letter by letter. -/
import Derived.Test.YtoaamamconcieaaDoorRows
import Derived.Test.YtoaamamconcieaaDoorChecked
import Derived.WalkKit
import Derived.ProofKit
import Derived.JoinedOf
namespace Go.Proofs.YtoaamamconcieaaDoor

def ioCodes : List Nat := [104, 97, 114, 110, 101, 115, 115, 32, 50, 100, 57, 51, 101, 55, 100, 51, 101, 50, 56, 49, 55, 49, 51, 100, 57, 54, 101, 57, 55, 57, 101, 53, 51, 54, 102, 57, 50, 101, 57, 48, 50, 51, 52, 53, 102, 52, 56, 56, 51, 52, 102, 97, 52, 98, 48, 53, 53, 49, 101, 102, 97, 55, 102, 52, 53, 55, 99, 54, 50, 50, 52, 101, 32, 99, 117, 116, 32, 97, 116, 32, 108, 111, 111, 112, 46, 101, 120, 97, 109, 112, 108, 101, 47, 114, 105, 110, 103, 111, 118, 101, 114, 108, 97, 121, 47, 108, 97, 119, 115, 46, 70, 110, 69, 120, 97, 99, 116, 76, 101, 97, 115, 101, 72, 97, 110, 100, 32, 108, 111, 111, 112, 46, 101, 120, 97, 109, 112, 108, 101, 47, 114, 105, 110, 103, 111, 118, 101, 114, 108, 97, 121, 47, 108, 97, 119, 115, 46, 70, 110, 69, 120, 97, 99, 116, 76, 101, 97, 115, 101, 84, 97, 107, 101, 32, 108, 111, 111, 112, 46, 101, 120, 97, 109, 112, 108, 101, 47, 114, 105, 110, 103, 111, 118, 101, 114, 108, 97, 121, 47, 108, 97, 119, 115, 46, 70, 110, 72, 97, 110, 100, 75, 101, 121, 115, 32, 108, 111, 111, 112, 46, 101, 120, 97, 109, 112, 108, 101, 47, 114, 105, 110, 103, 111, 118, 101, 114, 108, 97, 121, 47, 108, 97, 119, 115, 46, 70, 110, 72, 97, 110, 100, 79, 119, 110, 101, 114, 32, 108, 111, 111, 112, 46, 101, 120, 97, 109, 112, 108, 101, 47, 114, 105, 110, 103, 111, 118, 101, 114, 108, 97, 121, 47, 108, 97, 119, 115, 46, 70, 110, 72, 97, 110, 100, 82, 101, 102, 117, 115, 101, 100]
theorem io1 : Tryd.prog.initOrder = String.ofList (List.map Char.ofNat ioCodes) := by kernel_rfl
theorem io : Tryd.prog.initOrder.toList = List.map Char.ofNat ioCodes := by rw [io1, String.toList_ofList]
def ioRest : List (List Nat) := [[97, 116], [108, 111, 111, 112, 46, 101, 120, 97, 109, 112, 108, 101, 47, 114, 105, 110, 103, 111, 118, 101, 114, 108, 97, 121, 47, 108, 97, 119, 115, 46, 70, 110, 69, 120, 97, 99, 116, 76, 101, 97, 115, 101, 72, 97, 110, 100], [108, 111, 111, 112, 46, 101, 120, 97, 109, 112, 108, 101, 47, 114, 105, 110, 103, 111, 118, 101, 114, 108, 97, 121, 47, 108, 97, 119, 115, 46, 70, 110, 69, 120, 97, 99, 116, 76, 101, 97, 115, 101, 84, 97, 107, 101], [108, 111, 111, 112, 46, 101, 120, 97, 109, 112, 108, 101, 47, 114, 105, 110, 103, 111, 118, 101, 114, 108, 97, 121, 47, 108, 97, 119, 115, 46, 70, 110, 72, 97, 110, 100, 75, 101, 121, 115], [108, 111, 111, 112, 46, 101, 120, 97, 109, 112, 108, 101, 47, 114, 105, 110, 103, 111, 118, 101, 114, 108, 97, 121, 47, 108, 97, 119, 115, 46, 70, 110, 72, 97, 110, 100, 79, 119, 110, 101, 114], [108, 111, 111, 112, 46, 101, 120, 97, 109, 112, 108, 101, 47, 114, 105, 110, 103, 111, 118, 101, 114, 108, 97, 121, 47, 108, 97, 119, 115, 46, 70, 110, 72, 97, 110, 100, 82, 101, 102, 117, 115, 101, 100]]
theorem ioWords : behindMainWord (wordsSigns Tryd.prog.initOrder.toList) = List.map Char.ofNat [99, 117, 116] :: List.map (List.map Char.ofNat) ioRest := by rw [io]; kernel_rfl
theorem enter_of (P : Program) (c : List Char) (rest : List (List Char)) (h : behindMainWord (wordsSigns P.initOrder.toList) = c :: rest)
    (hh : (((stripLifts liftWords (c :: rest)).2.head? == some "cut".toList) && ((stripLifts liftWords (c :: rest)).1.contains "finals" || !P.laysLater) && ((stripLifts liftWords (c :: rest)).1.contains "reflectrows" || !P.bearsReflect) &&
      ((stripLifts liftWords (c :: rest)).1.contains "reflectrows" || !(stripLifts liftWords (c :: rest)).1.contains "leanrows") && P.doorFits (stripLifts liftWords (c :: rest)).1) = true) : P.mayEnter = true := by
  unfold Program.mayEnter
  rw [h]
  dsimp only
  rw [hh]
  simp only [Bool.or_true]
theorem make_of (P : Program) (c : List Char) (rest : List (List Char)) (h : behindMainWord (wordsSigns P.initOrder.toList) = c :: rest) (h1 : (c == "gc".toList || c == "spec".toList) = false) (h2 : (c == "cut".toList) = true) : P.make = some .cut := by
  unfold Program.make
  rw [h]
  dsimp only
  rw [h1, h2]
  rfl
theorem ioEnter : Tryd.prog.mayEnter = true := enter_of _ _ _ ioWords (by kernel_rfl)
theorem ioMake : Tryd.prog.make = some .cut := make_of _ _ _ ioWords (by kernel_rfl) (by kernel_rfl)
theorem ioFinal : Tryd.prog.liftsFinal = false := by unfold Program.liftsFinal Program.headLifts; rw [ioWords]; kernel_rfl
end Go.Proofs.YtoaamamconcieaaDoor
