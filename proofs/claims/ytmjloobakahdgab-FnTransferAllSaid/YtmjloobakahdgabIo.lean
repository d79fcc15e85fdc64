/- The words of the program's head, letter by letter. -/
import Derived.Test.YtmjloobakahdgabRows
import Derived.Test.YtmjloobakahdgabChecked
import Derived.WalkKit
import Derived.ProofKit
import Derived.JoinedOf
namespace Go.Proofs.Ytmjloobakahdgab

def ioCodes : List Nat := [104, 97, 114, 110, 101, 115, 115, 32, 57, 56, 48, 54, 98, 49, 100, 97, 50, 56, 55, 100, 50, 52, 53, 100, 100, 49, 49, 49, 51, 51, 49, 52, 54, 54, 54, 57, 102, 50, 50, 57, 51, 101, 99, 50, 98, 51, 56, 50, 48, 56, 97, 99, 56, 97, 53, 102, 102, 97, 98, 100, 53, 50, 98, 100, 57, 52, 101, 101, 52, 55, 101, 98, 32, 99, 117, 116, 32, 97, 116, 32, 108, 111, 111, 112, 46, 101, 120, 97, 109, 112, 108, 101, 47, 114, 105, 110, 103, 111, 118, 101, 114, 108, 97, 121, 47, 108, 97, 119, 115, 46, 70, 110, 69, 120, 97, 99, 116, 84, 114, 97, 110, 115, 102, 101, 114, 83, 101, 110, 100, 32, 108, 111, 111, 112, 46, 101, 120, 97, 109, 112, 108, 101, 47, 114, 105, 110, 103, 111, 118, 101, 114, 108, 97, 121, 47, 108, 97, 119, 115, 46, 70, 110, 84, 114, 97, 110, 115, 102, 101, 114, 67, 104, 117, 110, 107, 32, 108, 111, 111, 112, 46, 101, 120, 97, 109, 112, 108, 101, 47, 114, 105, 110, 103, 111, 118, 101, 114, 108, 97, 121, 47, 108, 97, 119, 115, 46, 70, 110, 84, 114, 97, 110, 115, 102, 101, 114, 87, 105, 110, 100, 111, 119, 32, 108, 111, 111, 112, 46, 101, 120, 97, 109, 112, 108, 101, 47, 114, 105, 110, 103, 111, 118, 101, 114, 108, 97, 121, 47, 108, 97, 119, 115, 46, 70, 110, 84, 114, 97, 110, 115, 102, 101, 114, 78, 111, 116, 104, 105, 110, 103, 32, 108, 111, 111, 112, 46, 101, 120, 97, 109, 112, 108, 101, 47, 114, 105, 110, 103, 111, 118, 101, 114, 108, 97, 121, 47, 108, 97, 119, 115, 46, 70, 110, 84, 114, 97, 110, 115, 102, 101, 114, 65, 108, 108, 32, 108, 111, 111, 112, 46, 101, 120, 97, 109, 112, 108, 101, 47, 114, 105, 110, 103, 111, 118, 101, 114, 108, 97, 121, 47, 108, 97, 119, 115, 46, 70, 110, 84, 114, 97, 110, 115, 102, 101, 114, 67, 114, 97, 115, 104]
theorem io1 : Try.prog.initOrder = String.ofList (List.map Char.ofNat ioCodes) := by kernel_rfl
theorem io : Try.prog.initOrder.toList = List.map Char.ofNat ioCodes := by rw [io1, String.toList_ofList]
def ioRest : List (List Nat) := [[97, 116], [108, 111, 111, 112, 46, 101, 120, 97, 109, 112, 108, 101, 47, 114, 105, 110, 103, 111, 118, 101, 114, 108, 97, 121, 47, 108, 97, 119, 115, 46, 70, 110, 69, 120, 97, 99, 116, 84, 114, 97, 110, 115, 102, 101, 114, 83, 101, 110, 100], [108, 111, 111, 112, 46, 101, 120, 97, 109, 112, 108, 101, 47, 114, 105, 110, 103, 111, 118, 101, 114, 108, 97, 121, 47, 108, 97, 119, 115, 46, 70, 110, 84, 114, 97, 110, 115, 102, 101, 114, 67, 104, 117, 110, 107], [108, 111, 111, 112, 46, 101, 120, 97, 109, 112, 108, 101, 47, 114, 105, 110, 103, 111, 118, 101, 114, 108, 97, 121, 47, 108, 97, 119, 115, 46, 70, 110, 84, 114, 97, 110, 115, 102, 101, 114, 87, 105, 110, 100, 111, 119], [108, 111, 111, 112, 46, 101, 120, 97, 109, 112, 108, 101, 47, 114, 105, 110, 103, 111, 118, 101, 114, 108, 97, 121, 47, 108, 97, 119, 115, 46, 70, 110, 84, 114, 97, 110, 115, 102, 101, 114, 78, 111, 116, 104, 105, 110, 103], [108, 111, 111, 112, 46, 101, 120, 97, 109, 112, 108, 101, 47, 114, 105, 110, 103, 111, 118, 101, 114, 108, 97, 121, 47, 108, 97, 119, 115, 46, 70, 110, 84, 114, 97, 110, 115, 102, 101, 114, 65, 108, 108], [108, 111, 111, 112, 46, 101, 120, 97, 109, 112, 108, 101, 47, 114, 105, 110, 103, 111, 118, 101, 114, 108, 97, 121, 47, 108, 97, 119, 115, 46, 70, 110, 84, 114, 97, 110, 115, 102, 101, 114, 67, 114, 97, 115, 104]]
theorem ioWords : behindMainWord (wordsSigns Try.prog.initOrder.toList) = List.map Char.ofNat [99, 117, 116] :: List.map (List.map Char.ofNat) ioRest := by rw [io]; kernel_rfl
theorem enter_of (P : Program) (c : List Char) (rest : List (List Char)) (h : behindMainWord (wordsSigns P.initOrder.toList) = c :: rest)
    (hh : (((stripLifts liftWords (c :: rest)).2.head? == some "cut".toList) && ((stripLifts liftWords (c :: rest)).1.contains "finals" || !P.laysLater) && ((stripLifts liftWords (c :: rest)).1.contains "reflectrows" || !P.bearsReflect) &&
      ((stripLifts liftWords (c :: rest)).1.contains "reflectrows" || !(stripLifts liftWords (c :: rest)).1.contains "leanrows") && P.doorFits (stripLifts liftWords (c :: rest)).1) = true) : P.mayEnter = true := by
  unfold Program.mayEnter
  rw [h]
  dsimp only
  rw [hh]
  simp only [Bool.or_true]
theorem make_of (P : Program) (c : List Char) (rest : List (List Char)) (h : behindMainWord (wordsSigns P.initOrder.toList) = c :: rest) (h1 : (c == "gc".toList || c == "spec".toList) = false) (h2 : (c == "cut".toList) = true) : P.make = some .cut := by
  unfold Program.make
  rw [h]
  dsimp only
  rw [h1, h2]
  rfl
theorem ioEnter : Try.prog.mayEnter = true := enter_of _ _ _ ioWords (by kernel_rfl)
theorem ioMake : Try.prog.make = some .cut := make_of _ _ _ ioWords (by kernel_rfl) (by kernel_rfl)
theorem ioFinal : Try.prog.liftsFinal = false := by unfold Program.liftsFinal Program.headLifts; rw [ioWords]; kernel_rfl
end Go.Proofs.Ytmjloobakahdgab
