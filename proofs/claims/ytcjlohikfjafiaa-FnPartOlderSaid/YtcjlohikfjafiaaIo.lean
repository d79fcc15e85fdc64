/- The words of the program's head, letter by letter. -/
import Derived.Test.YtcjlohikfjafiaaRows
import Derived.Test.YtcjlohikfjafiaaChecked
import Derived.WalkKit
import Derived.ProofKit
import Derived.JoinedOf
namespace Go.Proofs.Ytcjlohikfjafiaa

def ioCodes : List Nat := [104, 97, 114, 110, 101, 115, 115, 32, 50, 52, 49, 52, 98, 52, 53, 100, 100, 53, 50, 50, 55, 51, 102, 102, 51, 52, 52, 53, 98, 56, 102, 57, 56, 54, 102, 48, 51, 53, 50, 99, 56, 100, 97, 55, 101, 51, 53, 50, 54, 52, 52, 55, 51, 98, 101, 97, 54, 55, 48, 54, 49, 53, 99, 49, 99, 100, 98, 48, 57, 97, 57, 98, 32, 99, 117, 116, 32, 97, 116, 32, 108, 111, 111, 112, 46, 101, 120, 97, 109, 112, 108, 101, 47, 114, 105, 110, 103, 111, 118, 101, 114, 108, 97, 121, 47, 108, 97, 119, 115, 46, 70, 110, 80, 97, 114, 116, 79, 108, 100, 101, 114, 32, 108, 111, 111, 112, 46, 101, 120, 97, 109, 112, 108, 101, 47, 114, 105, 110, 103, 111, 118, 101, 114, 108, 97, 121, 47, 108, 97, 119, 115, 46, 70, 110, 80, 97, 114, 116, 84, 119, 105, 99, 101, 32, 108, 111, 111, 112, 46, 101, 120, 97, 109, 112, 108, 101, 47, 114, 105, 110, 103, 111, 118, 101, 114, 108, 97, 121, 47, 108, 97, 119, 115, 46, 70, 110, 82, 101, 103, 105, 115, 116, 101, 114, 86, 97, 108, 105, 100, 32, 108, 111, 111, 112, 46, 101, 120, 97, 109, 112, 108, 101, 47, 114, 105, 110, 103, 111, 118, 101, 114, 108, 97, 121, 47, 108, 97, 119, 115, 46, 70, 110, 69, 120, 97, 99, 116, 82, 101, 103, 105, 115, 116, 101, 114, 86, 97, 108, 105, 100, 32, 108, 111, 111, 112, 46, 101, 120, 97, 109, 112, 108, 101, 47, 114, 105, 110, 103, 111, 118, 101, 114, 108, 97, 121, 47, 108, 97, 119, 115, 46, 70, 110, 69, 120, 97, 99, 116, 82, 101, 103, 105, 115, 116, 101, 114, 80, 97, 114, 116]
theorem io1 : Try.prog.initOrder = String.ofList (List.map Char.ofNat ioCodes) := by kernel_rfl
theorem io : Try.prog.initOrder.toList = List.map Char.ofNat ioCodes := by rw [io1, String.toList_ofList]
def ioRest : List (List Nat) := [[97, 116], [108, 111, 111, 112, 46, 101, 120, 97, 109, 112, 108, 101, 47, 114, 105, 110, 103, 111, 118, 101, 114, 108, 97, 121, 47, 108, 97, 119, 115, 46, 70, 110, 80, 97, 114, 116, 79, 108, 100, 101, 114], [108, 111, 111, 112, 46, 101, 120, 97, 109, 112, 108, 101, 47, 114, 105, 110, 103, 111, 118, 101, 114, 108, 97, 121, 47, 108, 97, 119, 115, 46, 70, 110, 80, 97, 114, 116, 84, 119, 105, 99, 101], [108, 111, 111, 112, 46, 101, 120, 97, 109, 112, 108, 101, 47, 114, 105, 110, 103, 111, 118, 101, 114, 108, 97, 121, 47, 108, 97, 119, 115, 46, 70, 110, 82, 101, 103, 105, 115, 116, 101, 114, 86, 97, 108, 105, 100], [108, 111, 111, 112, 46, 101, 120, 97, 109, 112, 108, 101, 47, 114, 105, 110, 103, 111, 118, 101, 114, 108, 97, 121, 47, 108, 97, 119, 115, 46, 70, 110, 69, 120, 97, 99, 116, 82, 101, 103, 105, 115, 116, 101, 114, 86, 97, 108, 105, 100], [108, 111, 111, 112, 46, 101, 120, 97, 109, 112, 108, 101, 47, 114, 105, 110, 103, 111, 118, 101, 114, 108, 97, 121, 47, 108, 97, 119, 115, 46, 70, 110, 69, 120, 97, 99, 116, 82, 101, 103, 105, 115, 116, 101, 114, 80, 97, 114, 116]]
theorem ioWords : behindMainWord (wordsSigns Try.prog.initOrder.toList) = List.map Char.ofNat [99, 117, 116] :: List.map (List.map Char.ofNat) ioRest := by rw [io]; kernel_rfl
theorem enter_of (P : Program) (c : List Char) (rest : List (List Char)) (h : behindMainWord (wordsSigns P.initOrder.toList) = c :: rest)
    (hh : (((stripLifts liftWords (c :: rest)).2.head? == some "cut".toList) && ((stripLifts liftWords (c :: rest)).1.contains "finals" || !P.laysLater) && ((stripLifts liftWords (c :: rest)).1.contains "reflectrows" || !P.bearsReflect) &&
      ((stripLifts liftWords (c :: rest)).1.contains "reflectrows" || !(stripLifts liftWords (c :: rest)).1.contains "leanrows") && P.doorFits (stripLifts liftWords (c :: rest)).1) = true) : P.mayEnter = true := by
  unfold Program.mayEnter
  rw [h]
  dsimp only
  rw [hh]
  simp only [Bool.or_true]
theorem make_of (P : Program) (c : List Char) (rest : List (List Char)) (h : behindMainWord (wordsSigns P.initOrder.toList) = c :: rest) (h1 : (c == "gc".toList || c == "spec".toList) = false) (h2 : (c == "cut".toList) = true) : P.make = some .cut := by
  unfold Program.make
  rw [h]
  dsimp only
  rw [h1, h2]
  rfl
theorem ioEnter : Try.prog.mayEnter = true := enter_of _ _ _ ioWords (by kernel_rfl)
theorem ioMake : Try.prog.make = some .cut := make_of _ _ _ ioWords (by kernel_rfl) (by kernel_rfl)
theorem ioFinal : Try.prog.liftsFinal = false := by unfold Program.liftsFinal Program.headLifts; rw [ioWords]; kernel_rfl
end Go.Proofs.Ytcjlohikfjafiaa
