/-
  DERIVED. GIVEN WITH THE SEED: THE CARDS: each row of YtoaamamconcieaaDoorRows.lean that lists a variable, with what it lists TIED to the program's text (the seventh form; the later family's looks); each row that meets fmt, with fmt's text TOLD by the authors' own Lean function (tested against real Go, not proved from fmt's source: count such statements apart). THE CARD IS WHAT COUNTS. Prove the row's statement (the work); the ties are given (YtoaamamconcieaaDoorTie.lean); close each card by the builder's one call (the guide's Derived/Test/ToyasCard.lean, 'card_holds'). Laid BY PROGRAM, IN A SANDBOX (cutbox-door.mjs). By AI agents, Wed Nov 11 2026. No macro, syntax, notation, axiom, sorry.
-/
import Derived.Test.YtoaamamconcieaaDoorRows
import GoSem.ClaimSeven
namespace Go.Proofs.YtoaamamconcieaaDoor
namespace Rows

/-- THE TIED CARD OF 'laws.FnExactLeaseHand'. -/
def fnExactLeaseHandCard : Claim7 := { stood := { row := fnExactLeaseHandRow, standIns := [], harness := (true, "2d93e7d3e281713d96e979e536f92e902345f48834fa4b0551efa7f457c6224e"), looks := true }, kinds := [], alts := [], laidByText := true, laidKinds := [.sentinel, .sentinel], laidTests := true, laidLooks := .later }
def FnExactLeaseHandCardSaid : Prop := Claim7.holds Tryd.pinned (.plain (OpenSpec.ofChange fnExactLeaseHandSpec)) fnExactLeaseHandCard

/-- THE TIED CARD OF 'laws.FnExactLeaseTake'. -/
def fnExactLeaseTakeCard : Claim7 := { stood := { row := fnExactLeaseTakeRow, standIns := [], harness := (true, "2d93e7d3e281713d96e979e536f92e902345f48834fa4b0551efa7f457c6224e"), looks := true }, kinds := [], alts := [], laidByText := true, laidKinds := [.sentinel, .sentinel], laidTests := true, laidLooks := .later }
def FnExactLeaseTakeCardSaid : Prop := Claim7.holds Tryd.pinned (.plain (OpenSpec.ofChange fnExactLeaseTakeSpec)) fnExactLeaseTakeCard

/-- THE TIED CARD OF 'laws.FnHandKeys'. -/
def fnHandKeysCard : Claim7 := { stood := { row := fnHandKeysRow, standIns := [], harness := (true, "2d93e7d3e281713d96e979e536f92e902345f48834fa4b0551efa7f457c6224e"), looks := true }, kinds := [], alts := [], laidByText := true, laidKinds := [.sentinel, .sentinel], laidTests := true, laidLooks := .later }
def FnHandKeysCardSaid : Prop := Claim7.holds Tryd.pinned (.plain (OpenSpec.ofChange fnHandKeysSpec)) fnHandKeysCard

/-- THE TIED CARD OF 'laws.FnHandOwner'. -/
def fnHandOwnerCard : Claim7 := { stood := { row := fnHandOwnerRow, standIns := [], harness := (true, "2d93e7d3e281713d96e979e536f92e902345f48834fa4b0551efa7f457c6224e"), looks := true }, kinds := [], alts := [], laidByText := true, laidKinds := [.sentinel, .sentinel], laidTests := true, laidLooks := .later }
def FnHandOwnerCardSaid : Prop := Claim7.holds Tryd.pinned (.plain (OpenSpec.ofChange fnHandOwnerSpec)) fnHandOwnerCard

/-- THE TIED CARD OF 'laws.FnHandRefused'. -/
def fnHandRefusedCard : Claim7 := { stood := { row := fnHandRefusedRow, standIns := [], harness := (true, "2d93e7d3e281713d96e979e536f92e902345f48834fa4b0551efa7f457c6224e"), looks := true }, kinds := [], alts := [], laidByText := true, laidKinds := [.sentinel, .sentinel], laidTests := true, laidLooks := .later }
def FnHandRefusedCardSaid : Prop := Claim7.holds Tryd.pinned (.plain (OpenSpec.ofChange fnHandRefusedSpec)) fnHandRefusedCard

/-- THE SECOND FORM's CARD OF 'laws.FnExactLeaseHand'. -/
def fnExactLeaseHandUptoCard : Claim7 := { stood := { row := fnExactLeaseHandUptoRow, standIns := [], harness := (true, "2d93e7d3e281713d96e979e536f92e902345f48834fa4b0551efa7f457c6224e"), looks := true }, kinds := [], alts := [], laidByText := true, laidKinds := [.sentinel, .sentinel], laidTests := true, laidLooks := .later }
def FnExactLeaseHandUptoCardSaid : Prop := Claim7.holds Tryd.pinned (.plain (OpenSpec.upto fnExactLeaseHandSpec)) fnExactLeaseHandUptoCard

/-- THE SECOND FORM's CARD OF 'laws.FnExactLeaseTake'. -/
def fnExactLeaseTakeUptoCard : Claim7 := { stood := { row := fnExactLeaseTakeUptoRow, standIns := [], harness := (true, "2d93e7d3e281713d96e979e536f92e902345f48834fa4b0551efa7f457c6224e"), looks := true }, kinds := [], alts := [], laidByText := true, laidKinds := [.sentinel, .sentinel], laidTests := true, laidLooks := .later }
def FnExactLeaseTakeUptoCardSaid : Prop := Claim7.holds Tryd.pinned (.plain (OpenSpec.upto fnExactLeaseTakeSpec)) fnExactLeaseTakeUptoCard

/-- THE SECOND FORM's CARD OF 'laws.FnHandKeys'. -/
def fnHandKeysUptoCard : Claim7 := { stood := { row := fnHandKeysUptoRow, standIns := [], harness := (true, "2d93e7d3e281713d96e979e536f92e902345f48834fa4b0551efa7f457c6224e"), looks := true }, kinds := [], alts := [], laidByText := true, laidKinds := [.sentinel, .sentinel], laidTests := true, laidLooks := .later }
def FnHandKeysUptoCardSaid : Prop := Claim7.holds Tryd.pinned (.plain (OpenSpec.upto fnHandKeysSpec)) fnHandKeysUptoCard

/-- THE SECOND FORM's CARD OF 'laws.FnHandOwner'. -/
def fnHandOwnerUptoCard : Claim7 := { stood := { row := fnHandOwnerUptoRow, standIns := [], harness := (true, "2d93e7d3e281713d96e979e536f92e902345f48834fa4b0551efa7f457c6224e"), looks := true }, kinds := [], alts := [], laidByText := true, laidKinds := [.sentinel, .sentinel], laidTests := true, laidLooks := .later }
def FnHandOwnerUptoCardSaid : Prop := Claim7.holds Tryd.pinned (.plain (OpenSpec.upto fnHandOwnerSpec)) fnHandOwnerUptoCard

/-- THE SECOND FORM's CARD OF 'laws.FnHandRefused'. -/
def fnHandRefusedUptoCard : Claim7 := { stood := { row := fnHandRefusedUptoRow, standIns := [], harness := (true, "2d93e7d3e281713d96e979e536f92e902345f48834fa4b0551efa7f457c6224e"), looks := true }, kinds := [], alts := [], laidByText := true, laidKinds := [.sentinel, .sentinel], laidTests := true, laidLooks := .later }
def FnHandRefusedUptoCardSaid : Prop := Claim7.holds Tryd.pinned (.plain (OpenSpec.upto fnHandRefusedSpec)) fnHandRefusedUptoCard
end Rows
end Go.Proofs.YtoaamamconcieaaDoor
