/-
  DERIVED. GIVEN WITH THE SEED: THE CARDS: each row of YtoegamcnhdlioaaDoorRows.lean that lists a variable, with what it lists TIED to the program's text (the seventh form; the later family's looks); each row that meets fmt, with fmt's text TOLD by the authors' own Lean function (tested against real Go, not proved from fmt's source: count such statements apart). THE CARD IS WHAT COUNTS. Prove the row's statement (the work); the ties are given (YtoegamcnhdlioaaDoorTie.lean); close each card by the builder's one call (the guide's Derived/Test/ToyasCard.lean, 'card_holds'). Laid BY PROGRAM, IN A SANDBOX (cutbox-door.mjs). By AI agents, Wed Nov 11 2026. No macro, syntax, notation, axiom, sorry.
-/
import Derived.Test.YtoegamcnhdlioaaDoorRows
import GoSem.ClaimSeven
namespace Go.Proofs.YtoegamcnhdlioaaDoor
namespace Rows

/-- THE TIED CARD OF 'calendslaw08.GregDays'. -/
def gregDaysCard : Claim7 := { stood := { row := gregDaysRow, standIns := [], harness := (true, "2080650cb7c139125d05502a3530ce3ea02ecee441d954381f18690d9594df05"), looks := true }, kinds := [], alts := [], laidByText := true, laidKinds := [.sentinel], laidTests := true, laidLooks := .later }
def GregDaysCardSaid : Prop := Claim7.holds Tryd.pinned (.plain (OpenSpec.ofChange gregDaysSpec)) gregDaysCard

/-- THE TIED CARD OF 'calendslaw08.GregTurns'. -/
def gregTurnsCard : Claim7 := { stood := { row := gregTurnsRow, standIns := [], harness := (true, "2080650cb7c139125d05502a3530ce3ea02ecee441d954381f18690d9594df05"), looks := true }, kinds := [], alts := [], laidByText := true, laidKinds := [.sentinel], laidTests := true, laidLooks := .later }
def GregTurnsCardSaid : Prop := Claim7.holds Tryd.pinned (.plain (OpenSpec.ofChange gregTurnsSpec)) gregTurnsCard

/-- THE TIED CARD OF 'calendslaw08.GregPlus'. -/
def gregPlusCard : Claim7 := { stood := { row := gregPlusRow, standIns := [], harness := (true, "2080650cb7c139125d05502a3530ce3ea02ecee441d954381f18690d9594df05"), looks := true }, kinds := [], alts := [], laidByText := true, laidKinds := [.sentinel], laidTests := true, laidLooks := .later }
def GregPlusCardSaid : Prop := Claim7.holds Tryd.pinned (.plain (OpenSpec.ofChange gregPlusSpec)) gregPlusCard

/-- THE TIED CARD OF 'calendslaw08.GregWeeks'. -/
def gregWeeksCard : Claim7 := { stood := { row := gregWeeksRow, standIns := [], harness := (true, "2080650cb7c139125d05502a3530ce3ea02ecee441d954381f18690d9594df05"), looks := true }, kinds := [], alts := [], laidByText := true, laidKinds := [.sentinel], laidTests := true, laidLooks := .later }
def GregWeeksCardSaid : Prop := Claim7.holds Tryd.pinned (.plain (OpenSpec.ofChange gregWeeksSpec)) gregWeeksCard

/-- THE TIED CARD OF 'calendslaw08.GregSeven'. -/
def gregSevenCard : Claim7 := { stood := { row := gregSevenRow, standIns := [], harness := (true, "2080650cb7c139125d05502a3530ce3ea02ecee441d954381f18690d9594df05"), looks := true }, kinds := [], alts := [], laidByText := true, laidKinds := [.sentinel], laidTests := true, laidLooks := .later }
def GregSevenCardSaid : Prop := Claim7.holds Tryd.pinned (.plain (OpenSpec.ofChange gregSevenSpec)) gregSevenCard

/-- THE TIED CARD OF 'calendslaw08.GregYears'. -/
def gregYearsCard : Claim7 := { stood := { row := gregYearsRow, standIns := [], harness := (true, "2080650cb7c139125d05502a3530ce3ea02ecee441d954381f18690d9594df05"), looks := true }, kinds := [], alts := [], laidByText := true, laidKinds := [.sentinel], laidTests := true, laidLooks := .later }
def GregYearsCardSaid : Prop := Claim7.holds Tryd.pinned (.plain (OpenSpec.ofChange gregYearsSpec)) gregYearsCard

/-- THE SECOND FORM's CARD OF 'calendslaw08.GregDays'. -/
def gregDaysUptoCard : Claim7 := { stood := { row := gregDaysUptoRow, standIns := [], harness := (true, "2080650cb7c139125d05502a3530ce3ea02ecee441d954381f18690d9594df05"), looks := true }, kinds := [], alts := [], laidByText := true, laidKinds := [.sentinel], laidTests := true, laidLooks := .later }
def GregDaysUptoCardSaid : Prop := Claim7.holds Tryd.pinned (.plain (OpenSpec.upto gregDaysSpec)) gregDaysUptoCard

/-- THE SECOND FORM's CARD OF 'calendslaw08.GregTurns'. -/
def gregTurnsUptoCard : Claim7 := { stood := { row := gregTurnsUptoRow, standIns := [], harness := (true, "2080650cb7c139125d05502a3530ce3ea02ecee441d954381f18690d9594df05"), looks := true }, kinds := [], alts := [], laidByText := true, laidKinds := [.sentinel], laidTests := true, laidLooks := .later }
def GregTurnsUptoCardSaid : Prop := Claim7.holds Tryd.pinned (.plain (OpenSpec.upto gregTurnsSpec)) gregTurnsUptoCard

/-- THE SECOND FORM's CARD OF 'calendslaw08.GregPlus'. -/
def gregPlusUptoCard : Claim7 := { stood := { row := gregPlusUptoRow, standIns := [], harness := (true, "2080650cb7c139125d05502a3530ce3ea02ecee441d954381f18690d9594df05"), looks := true }, kinds := [], alts := [], laidByText := true, laidKinds := [.sentinel], laidTests := true, laidLooks := .later }
def GregPlusUptoCardSaid : Prop := Claim7.holds Tryd.pinned (.plain (OpenSpec.upto gregPlusSpec)) gregPlusUptoCard

/-- THE SECOND FORM's CARD OF 'calendslaw08.GregWeeks'. -/
def gregWeeksUptoCard : Claim7 := { stood := { row := gregWeeksUptoRow, standIns := [], harness := (true, "2080650cb7c139125d05502a3530ce3ea02ecee441d954381f18690d9594df05"), looks := true }, kinds := [], alts := [], laidByText := true, laidKinds := [.sentinel], laidTests := true, laidLooks := .later }
def GregWeeksUptoCardSaid : Prop := Claim7.holds Tryd.pinned (.plain (OpenSpec.upto gregWeeksSpec)) gregWeeksUptoCard

/-- THE SECOND FORM's CARD OF 'calendslaw08.GregSeven'. -/
def gregSevenUptoCard : Claim7 := { stood := { row := gregSevenUptoRow, standIns := [], harness := (true, "2080650cb7c139125d05502a3530ce3ea02ecee441d954381f18690d9594df05"), looks := true }, kinds := [], alts := [], laidByText := true, laidKinds := [.sentinel], laidTests := true, laidLooks := .later }
def GregSevenUptoCardSaid : Prop := Claim7.holds Tryd.pinned (.plain (OpenSpec.upto gregSevenSpec)) gregSevenUptoCard

/-- THE SECOND FORM's CARD OF 'calendslaw08.GregYears'. -/
def gregYearsUptoCard : Claim7 := { stood := { row := gregYearsUptoRow, standIns := [], harness := (true, "2080650cb7c139125d05502a3530ce3ea02ecee441d954381f18690d9594df05"), looks := true }, kinds := [], alts := [], laidByText := true, laidKinds := [.sentinel], laidTests := true, laidLooks := .later }
def GregYearsUptoCardSaid : Prop := Claim7.holds Tryd.pinned (.plain (OpenSpec.upto gregYearsSpec)) gregYearsUptoCard
end Rows
end Go.Proofs.YtoegamcnhdlioaaDoor
