/- The words of the program's head, letter by letter. -/
import Derived.Test.YtoaamamconcieabRows
import Derived.Test.YtoaamamconcieabChecked
import Derived.WalkKit
import Derived.ProofKit
import Derived.JoinedOf
namespace Go.Proofs.Ytoaamamconcieab

def ioCodes : List Nat := [104, 97, 114, 110, 101, 115, 115, 32, 49, 98, 50, 51, 102, 50, 100, 102, 50, 50, 55, 51, 100, 98, 100, 56, 51, 98, 97, 56, 97, 51, 98, 57, 100, 49, 100, 48, 53, 55, 48, 102, 100, 101, 102, 49, 56, 100, 52, 99, 49, 55, 56, 51, 54, 102, 57, 52, 100, 56, 99, 55, 102, 48, 55, 48, 55, 50, 55, 99, 100, 53, 48, 50, 32, 99, 117, 116, 32, 97, 116, 32, 108, 111, 111, 112, 46, 101, 120, 97, 109, 112, 108, 101, 47, 114, 105, 110, 103, 111, 118, 101, 114, 108, 97, 121, 47, 108, 97, 119, 115, 46, 70, 110, 82, 101, 110, 101, 119, 32, 108, 111, 111, 112, 46, 101, 120, 97, 109, 112, 108, 101, 47, 114, 105, 110, 103, 111, 118, 101, 114, 108, 97, 121, 47, 108, 97, 119, 115, 46, 70, 110, 82, 101, 110, 101, 119, 84, 119, 105, 99, 101, 32, 108, 111, 111, 112, 46, 101, 120, 97, 109, 112, 108, 101, 47, 114, 105, 110, 103, 111, 118, 101, 114, 108, 97, 121, 47, 108, 97, 119, 115, 46, 70, 110, 82, 101, 110, 101, 119, 76, 97, 116, 101, 114, 32, 108, 111, 111, 112, 46, 101, 120, 97, 109, 112, 108, 101, 47, 114, 105, 110, 103, 111, 118, 101, 114, 108, 97, 121, 47, 108, 97, 119, 115, 46, 70, 110, 77, 101, 114, 103, 101, 32, 108, 111, 111, 112, 46, 101, 120, 97, 109, 112, 108, 101, 47, 114, 105, 110, 103, 111, 118, 101, 114, 108, 97, 121, 47, 108, 97, 119, 115, 46, 70, 110, 77, 101, 114, 103, 101, 84, 119, 105, 99, 101, 32, 108, 111, 111, 112, 46, 101, 120, 97, 109, 112, 108, 101, 47, 114, 105, 110, 103, 111, 118, 101, 114, 108, 97, 121, 47, 108, 97, 119, 115, 46, 70, 110, 75, 101, 121, 115, 83, 117, 109]
theorem io1 : Try.prog.initOrder = String.ofList (List.map Char.ofNat ioCodes) := by kernel_rfl
theorem io : Try.prog.initOrder.toList = List.map Char.ofNat ioCodes := by rw [io1, String.toList_ofList]
def ioRest : List (List Nat) := [[97, 116], [108, 111, 111, 112, 46, 101, 120, 97, 109, 112, 108, 101, 47, 114, 105, 110, 103, 111, 118, 101, 114, 108, 97, 121, 47, 108, 97, 119, 115, 46, 70, 110, 82, 101, 110, 101, 119], [108, 111, 111, 112, 46, 101, 120, 97, 109, 112, 108, 101, 47, 114, 105, 110, 103, 111, 118, 101, 114, 108, 97, 121, 47, 108, 97, 119, 115, 46, 70, 110, 82, 101, 110, 101, 119, 84, 119, 105, 99, 101], [108, 111, 111, 112, 46, 101, 120, 97, 109, 112, 108, 101, 47, 114, 105, 110, 103, 111, 118, 101, 114, 108, 97, 121, 47, 108, 97, 119, 115, 46, 70, 110, 82, 101, 110, 101, 119, 76, 97, 116, 101, 114], [108, 111, 111, 112, 46, 101, 120, 97, 109, 112, 108, 101, 47, 114, 105, 110, 103, 111, 118, 101, 114, 108, 97, 121, 47, 108, 97, 119, 115, 46, 70, 110, 77, 101, 114, 103, 101], [108, 111, 111, 112, 46, 101, 120, 97, 109, 112, 108, 101, 47, 114, 105, 110, 103, 111, 118, 101, 114, 108, 97, 121, 47, 108, 97, 119, 115, 46, 70, 110, 77, 101, 114, 103, 101, 84, 119, 105, 99, 101], [108, 111, 111, 112, 46, 101, 120, 97, 109, 112, 108, 101, 47, 114, 105, 110, 103, 111, 118, 101, 114, 108, 97, 121, 47, 108, 97, 119, 115, 46, 70, 110, 75, 101, 121, 115, 83, 117, 109]]
theorem ioWords : behindMainWord (wordsSigns Try.prog.initOrder.toList) = List.map Char.ofNat [99, 117, 116] :: List.map (List.map Char.ofNat) ioRest := by rw [io]; kernel_rfl
theorem enter_of (P : Program) (c : List Char) (rest : List (List Char)) (h : behindMainWord (wordsSigns P.initOrder.toList) = c :: rest)
    (hh : (((stripLifts liftWords (c :: rest)).2.head? == some "cut".toList) && ((stripLifts liftWords (c :: rest)).1.contains "finals" || !P.laysLater) && ((stripLifts liftWords (c :: rest)).1.contains "reflectrows" || !P.bearsReflect) &&
      ((stripLifts liftWords (c :: rest)).1.contains "reflectrows" || !(stripLifts liftWords (c :: rest)).1.contains "leanrows") && P.doorFits (stripLifts liftWords (c :: rest)).1) = true) : P.mayEnter = true := by
  unfold Program.mayEnter
  rw [h]
  dsimp only
  rw [hh]
  simp only [Bool.or_true]
theorem make_of (P : Program) (c : List Char) (rest : List (List Char)) (h : behindMainWord (wordsSigns P.initOrder.toList) = c :: rest) (h1 : (c == "gc".toList || c == "spec".toList) = false) (h2 : (c == "cut".toList) = true) : P.make = some .cut := by
  unfold Program.make
  rw [h]
  dsimp only
  rw [h1, h2]
  rfl
theorem ioEnter : Try.prog.mayEnter = true := enter_of _ _ _ ioWords (by kernel_rfl)
theorem ioMake : Try.prog.make = some .cut := make_of _ _ _ ioWords (by kernel_rfl) (by kernel_rfl)
theorem ioFinal : Try.prog.liftsFinal = false := by unfold Program.liftsFinal Program.headLifts; rw [ioWords]; kernel_rfl
end Go.Proofs.Ytoaamamconcieab
