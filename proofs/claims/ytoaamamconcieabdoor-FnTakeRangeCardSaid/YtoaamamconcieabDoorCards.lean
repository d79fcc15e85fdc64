/-
  DERIVED. GIVEN WITH THE SEED: THE CARDS: each row of YtoaamamconcieabDoorRows.lean that lists a variable, with what it lists TIED to the program's text (the seventh form; the later family's looks); each row that meets fmt, with fmt's text TOLD by the authors' own Lean function (tested against real Go, not proved from fmt's source: count such statements apart). THE CARD IS WHAT COUNTS. Prove the row's statement (the work); the ties are given (YtoaamamconcieabDoorTie.lean); close each card by the builder's one call (the guide's Derived/Test/ToyasCard.lean, 'card_holds'). Laid BY PROGRAM, IN A SANDBOX (cutbox-door.mjs). By AI agents, Wed Nov 11 2026. No macro, syntax, notation, axiom, sorry.
-/
import Derived.Test.YtoaamamconcieabDoorRows
import GoSem.ClaimSeven
namespace Go.Proofs.YtoaamamconcieabDoor
namespace Rows

/-- THE TIED CARD OF 'laws.FnHandCount'. -/
def fnHandCountCard : Claim7 := { stood := { row := fnHandCountRow, standIns := [], harness := (true, "ea88e4f2bda2d7ba6c989e2d00c8c5c9b7e451ac7ff38f5896b7de8d7980a017"), looks := true }, kinds := [], alts := [], laidByText := true, laidKinds := [.sentinel, .sentinel], laidTests := true, laidLooks := .later }
def FnHandCountCardSaid : Prop := Claim7.holds Tryd.pinned (.plain (OpenSpec.ofChange fnHandCountSpec)) fnHandCountCard

/-- THE TIED CARD OF 'laws.FnHandBack'. -/
def fnHandBackCard : Claim7 := { stood := { row := fnHandBackRow, standIns := [], harness := (true, "ea88e4f2bda2d7ba6c989e2d00c8c5c9b7e451ac7ff38f5896b7de8d7980a017"), looks := true }, kinds := [], alts := [], laidByText := true, laidKinds := [.sentinel, .sentinel], laidTests := true, laidLooks := .later }
def FnHandBackCardSaid : Prop := Claim7.holds Tryd.pinned (.plain (OpenSpec.ofChange fnHandBackSpec)) fnHandBackCard

/-- THE TIED CARD OF 'laws.FnTakeExpired'. -/
def fnTakeExpiredCard : Claim7 := { stood := { row := fnTakeExpiredRow, standIns := [], harness := (true, "ea88e4f2bda2d7ba6c989e2d00c8c5c9b7e451ac7ff38f5896b7de8d7980a017"), looks := true }, kinds := [], alts := [], laidByText := true, laidKinds := [.sentinel, .sentinel], laidTests := true, laidLooks := .later }
def FnTakeExpiredCardSaid : Prop := Claim7.holds Tryd.pinned (.plain (OpenSpec.ofChange fnTakeExpiredSpec)) fnTakeExpiredCard

/-- THE TIED CARD OF 'laws.FnTakeRange'. -/
def fnTakeRangeCard : Claim7 := { stood := { row := fnTakeRangeRow, standIns := [], harness := (true, "ea88e4f2bda2d7ba6c989e2d00c8c5c9b7e451ac7ff38f5896b7de8d7980a017"), looks := true }, kinds := [], alts := [], laidByText := true, laidKinds := [.sentinel, .sentinel], laidTests := true, laidLooks := .later }
def FnTakeRangeCardSaid : Prop := Claim7.holds Tryd.pinned (.plain (OpenSpec.ofChange fnTakeRangeSpec)) fnTakeRangeCard

/-- THE TIED CARD OF 'laws.FnTakeOnce'. -/
def fnTakeOnceCard : Claim7 := { stood := { row := fnTakeOnceRow, standIns := [], harness := (true, "ea88e4f2bda2d7ba6c989e2d00c8c5c9b7e451ac7ff38f5896b7de8d7980a017"), looks := true }, kinds := [], alts := [], laidByText := true, laidKinds := [.sentinel, .sentinel], laidTests := true, laidLooks := .later }
def FnTakeOnceCardSaid : Prop := Claim7.holds Tryd.pinned (.plain (OpenSpec.ofChange fnTakeOnceSpec)) fnTakeOnceCard

/-- THE TIED CARD OF 'laws.FnHandSelf'. -/
def fnHandSelfCard : Claim7 := { stood := { row := fnHandSelfRow, standIns := [], harness := (true, "ea88e4f2bda2d7ba6c989e2d00c8c5c9b7e451ac7ff38f5896b7de8d7980a017"), looks := true }, kinds := [], alts := [], laidByText := true, laidKinds := [.sentinel, .sentinel], laidTests := true, laidLooks := .later }
def FnHandSelfCardSaid : Prop := Claim7.holds Tryd.pinned (.plain (OpenSpec.ofChange fnHandSelfSpec)) fnHandSelfCard

/-- THE SECOND FORM's CARD OF 'laws.FnHandCount'. -/
def fnHandCountUptoCard : Claim7 := { stood := { row := fnHandCountUptoRow, standIns := [], harness := (true, "ea88e4f2bda2d7ba6c989e2d00c8c5c9b7e451ac7ff38f5896b7de8d7980a017"), looks := true }, kinds := [], alts := [], laidByText := true, laidKinds := [.sentinel, .sentinel], laidTests := true, laidLooks := .later }
def FnHandCountUptoCardSaid : Prop := Claim7.holds Tryd.pinned (.plain (OpenSpec.upto fnHandCountSpec)) fnHandCountUptoCard

/-- THE SECOND FORM's CARD OF 'laws.FnHandBack'. -/
def fnHandBackUptoCard : Claim7 := { stood := { row := fnHandBackUptoRow, standIns := [], harness := (true, "ea88e4f2bda2d7ba6c989e2d00c8c5c9b7e451ac7ff38f5896b7de8d7980a017"), looks := true }, kinds := [], alts := [], laidByText := true, laidKinds := [.sentinel, .sentinel], laidTests := true, laidLooks := .later }
def FnHandBackUptoCardSaid : Prop := Claim7.holds Tryd.pinned (.plain (OpenSpec.upto fnHandBackSpec)) fnHandBackUptoCard

/-- THE SECOND FORM's CARD OF 'laws.FnTakeExpired'. -/
def fnTakeExpiredUptoCard : Claim7 := { stood := { row := fnTakeExpiredUptoRow, standIns := [], harness := (true, "ea88e4f2bda2d7ba6c989e2d00c8c5c9b7e451ac7ff38f5896b7de8d7980a017"), looks := true }, kinds := [], alts := [], laidByText := true, laidKinds := [.sentinel, .sentinel], laidTests := true, laidLooks := .later }
def FnTakeExpiredUptoCardSaid : Prop := Claim7.holds Tryd.pinned (.plain (OpenSpec.upto fnTakeExpiredSpec)) fnTakeExpiredUptoCard

/-- THE SECOND FORM's CARD OF 'laws.FnTakeRange'. -/
def fnTakeRangeUptoCard : Claim7 := { stood := { row := fnTakeRangeUptoRow, standIns := [], harness := (true, "ea88e4f2bda2d7ba6c989e2d00c8c5c9b7e451ac7ff38f5896b7de8d7980a017"), looks := true }, kinds := [], alts := [], laidByText := true, laidKinds := [.sentinel, .sentinel], laidTests := true, laidLooks := .later }
def FnTakeRangeUptoCardSaid : Prop := Claim7.holds Tryd.pinned (.plain (OpenSpec.upto fnTakeRangeSpec)) fnTakeRangeUptoCard

/-- THE SECOND FORM's CARD OF 'laws.FnTakeOnce'. -/
def fnTakeOnceUptoCard : Claim7 := { stood := { row := fnTakeOnceUptoRow, standIns := [], harness := (true, "ea88e4f2bda2d7ba6c989e2d00c8c5c9b7e451ac7ff38f5896b7de8d7980a017"), looks := true }, kinds := [], alts := [], laidByText := true, laidKinds := [.sentinel, .sentinel], laidTests := true, laidLooks := .later }
def FnTakeOnceUptoCardSaid : Prop := Claim7.holds Tryd.pinned (.plain (OpenSpec.upto fnTakeOnceSpec)) fnTakeOnceUptoCard

/-- THE SECOND FORM's CARD OF 'laws.FnHandSelf'. -/
def fnHandSelfUptoCard : Claim7 := { stood := { row := fnHandSelfUptoRow, standIns := [], harness := (true, "ea88e4f2bda2d7ba6c989e2d00c8c5c9b7e451ac7ff38f5896b7de8d7980a017"), looks := true }, kinds := [], alts := [], laidByText := true, laidKinds := [.sentinel, .sentinel], laidTests := true, laidLooks := .later }
def FnHandSelfUptoCardSaid : Prop := Claim7.holds Tryd.pinned (.plain (OpenSpec.upto fnHandSelfSpec)) fnHandSelfUptoCard
end Rows
end Go.Proofs.YtoaamamconcieabDoor
