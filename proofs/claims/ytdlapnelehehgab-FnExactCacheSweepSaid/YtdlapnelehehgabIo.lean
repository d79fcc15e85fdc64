/- The words of the program's head, letter by letter. -/
import Derived.Test.YtdlapnelehehgabRows
import Derived.Test.YtdlapnelehehgabChecked
import Derived.WalkKit
import Derived.ProofKit
import Derived.JoinedOf
namespace Go.Proofs.Ytdlapnelehehgab

def ioCodes : List Nat := [104, 97, 114, 110, 101, 115, 115, 32, 100, 50, 51, 55, 57, 54, 99, 99, 100, 48, 55, 48, 55, 56, 100, 99, 54, 51, 57, 57, 52, 99, 48, 48, 98, 102, 51, 97, 57, 98, 97, 100, 53, 56, 57, 49, 97, 102, 53, 98, 100, 49, 99, 53, 98, 55, 51, 53, 102, 98, 57, 49, 99, 101, 52, 50, 50, 54, 56, 51, 56, 55, 51, 55, 32, 99, 117, 116, 32, 97, 116, 32, 108, 111, 111, 112, 46, 101, 120, 97, 109, 112, 108, 101, 47, 114, 105, 110, 103, 111, 118, 101, 114, 108, 97, 121, 47, 108, 97, 119, 115, 46, 70, 110, 69, 120, 97, 99, 116, 67, 97, 99, 104, 101, 80, 117, 116, 32, 108, 111, 111, 112, 46, 101, 120, 97, 109, 112, 108, 101, 47, 114, 105, 110, 103, 111, 118, 101, 114, 108, 97, 121, 47, 108, 97, 119, 115, 46, 70, 110, 69, 120, 97, 99, 116, 67, 97, 99, 104, 101, 68, 114, 111, 112, 32, 108, 111, 111, 112, 46, 101, 120, 97, 109, 112, 108, 101, 47, 114, 105, 110, 103, 111, 118, 101, 114, 108, 97, 121, 47, 108, 97, 119, 115, 46, 70, 110, 69, 120, 97, 99, 116, 67, 97, 99, 104, 101, 83, 119, 101, 101, 112]
theorem io1 : Try.prog.initOrder = String.ofList (List.map Char.ofNat ioCodes) := by kernel_rfl
theorem io : Try.prog.initOrder.toList = List.map Char.ofNat ioCodes := by rw [io1, String.toList_ofList]
def ioRest : List (List Nat) := [[97, 116], [108, 111, 111, 112, 46, 101, 120, 97, 109, 112, 108, 101, 47, 114, 105, 110, 103, 111, 118, 101, 114, 108, 97, 121, 47, 108, 97, 119, 115, 46, 70, 110, 69, 120, 97, 99, 116, 67, 97, 99, 104, 101, 80, 117, 116], [108, 111, 111, 112, 46, 101, 120, 97, 109, 112, 108, 101, 47, 114, 105, 110, 103, 111, 118, 101, 114, 108, 97, 121, 47, 108, 97, 119, 115, 46, 70, 110, 69, 120, 97, 99, 116, 67, 97, 99, 104, 101, 68, 114, 111, 112], [108, 111, 111, 112, 46, 101, 120, 97, 109, 112, 108, 101, 47, 114, 105, 110, 103, 111, 118, 101, 114, 108, 97, 121, 47, 108, 97, 119, 115, 46, 70, 110, 69, 120, 97, 99, 116, 67, 97, 99, 104, 101, 83, 119, 101, 101, 112]]
theorem ioWords : behindMainWord (wordsSigns Try.prog.initOrder.toList) = List.map Char.ofNat [99, 117, 116] :: List.map (List.map Char.ofNat) ioRest := by rw [io]; kernel_rfl
theorem enter_of (P : Program) (c : List Char) (rest : List (List Char)) (h : behindMainWord (wordsSigns P.initOrder.toList) = c :: rest)
    (hh : (((stripLifts liftWords (c :: rest)).2.head? == some "cut".toList) && ((stripLifts liftWords (c :: rest)).1.contains "finals" || !P.laysLater) && ((stripLifts liftWords (c :: rest)).1.contains "reflectrows" || !P.bearsReflect) &&
      ((stripLifts liftWords (c :: rest)).1.contains "reflectrows" || !(stripLifts liftWords (c :: rest)).1.contains "leanrows") && P.doorFits (stripLifts liftWords (c :: rest)).1) = true) : P.mayEnter = true := by
  unfold Program.mayEnter
  rw [h]
  dsimp only
  rw [hh]
  simp only [Bool.or_true]
theorem make_of (P : Program) (c : List Char) (rest : List (List Char)) (h : behindMainWord (wordsSigns P.initOrder.toList) = c :: rest) (h1 : (c == "gc".toList || c == "spec".toList) = false) (h2 : (c == "cut".toList) = true) : P.make = some .cut := by
  unfold Program.make
  rw [h]
  dsimp only
  rw [h1, h2]
  rfl
theorem ioEnter : Try.prog.mayEnter = true := enter_of _ _ _ ioWords (by kernel_rfl)
theorem ioMake : Try.prog.make = some .cut := make_of _ _ _ ioWords (by kernel_rfl) (by kernel_rfl)
theorem ioFinal : Try.prog.liftsFinal = false := by unfold Program.liftsFinal Program.headLifts; rw [ioWords]; kernel_rfl
end Go.Proofs.Ytdlapnelehehgab
