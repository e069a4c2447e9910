/-
  NARROWER THAN 'FOR EVERY INPUT', by the rows' own cells (each row's printed sentence says how): GregDays: laid · GregTurns: laid · GregPlus: laid · GregWeeks: laid · GregSeven: laid · GregYears: laid.
  DERIVED. THE GIVEN ROWS OF THIS SEAT. 6 by the template 'for every input the law returns true; each argument reads behind the call as it read before'; 0 by the template 'total and deterministic' (their statements: YtoegamcnhdlioaaDoorTotals.lean).
  GIVEN WITH THE SEED: the statements are not yours to turn. If you find one false, say at which input.
  Laid BY PROGRAM, IN A SANDBOX (cutbox-rows.mjs): the forced cells as the released guide's own fill.sh prints them over the translation bd09e088e04a962a… (all of the seat's roots in one cut). By AI agents, Wed Nov 11 2026. No macro, syntax, notation, axiom, sorry.
-/
import Derived.Test.YtoegamcnhdlioaaDoorChecked
import GoSem.Claim
import GoSem.ClaimJoined
import GoSem.ClaimMapViews
import Derived.JoinedTies
import Derived.KernelRfl
namespace Go.Proofs.YtoegamcnhdlioaaDoor
/- THE CELL 'sum', in the pinned program and in every row, IS THE sha256 OF THE DUMP (.gsa) THAT YtoegamcnhdlioaaDoorProg.lean LOADS. Nothing in Lean hashes anything: it is a label: what it is worth is what the hold of that sum in a sandbox is worth. -/
noncomputable def Tryd.pinned : Pinned := { name := "ytoegamcnhdlioaadoor", sum := "bd09e088e04a962a8a6042a1ef7b008f39d116482e6c332f176cf0d4ad7438d4", checked := Tryd.checked }
namespace Rows
def none {H : Type} : Left H := { results := [], args := [] }

/- WHAT THE LISTED PACKAGE-LEVEL VARIABLES READ AS WHEN THE CALL BEGINS. Each datum BY PROGRAM (the guide's laid-datum.mjs) off the statement by which the dump's own 'gosem.cut.vars' lays the variable. In a bare row this is a premise. The card (YtoegamcnhdlioaaDoorCards.lean) ties it to the program's text. -/
def laid_calends_greg_errDay {H : Type} : DataW H := .iface "*errors.errorString" (.ptr (.agg [.lit (.string [110, 111, 32, 115, 117, 99, 104, 32, 100, 97, 121])]))

/-- 'calendslaw08.GregDays': WHATEVER THE INPUT: true; the input reads as it did. -/
def gregDaysSpec : ChangeSpec := { name := "gregDays", fn := fun _ => fun
  | [d1, d2] => { results := [.lit (.bool true)], args := [d1, d2] }
  | _ => none }
def gregDaysRow : OpenClaim := { program := "ytoegamcnhdlioaadoor", sum := "bd09e088e04a962a8a6042a1ef7b008f39d116482e6c332f176cf0d4ad7438d4", func := "calends/calendslaw08.GregDays", spec := "gregDays", inPlace := ["internal/reflectlite.TypeOf"], unfollowed := true, recurses := true, named := ["calends/greg.errDay"], apart := false, laid := [("calends/greg.errDay", laid_calends_greg_errDay)] }
def GregDaysSaid : Prop := gregDaysRow.holds Tryd.pinned (OpenSpec.ofChange gregDaysSpec)

/-- ITS FALSE NEIGHBOUR: 'it returns false'. Refute it at one input. -/
def gregDaysWrong : ChangeSpec := { name := "gregDays", fn := fun _ => fun
  | [d1, d2] => { results := [.lit (.bool false)], args := [d1, d2] }
  | _ => none }
def GregDaysWrongFalsely : Prop := gregDaysRow.holds Tryd.pinned (OpenSpec.ofChange gregDaysWrong)

/-- 'calendslaw08.GregTurns': WHATEVER THE INPUT: true; the input reads as it did. -/
def gregTurnsSpec : ChangeSpec := { name := "gregTurns", fn := fun _ => fun
  | [d1, d2] => { results := [.lit (.bool true)], args := [d1, d2] }
  | _ => none }
def gregTurnsRow : OpenClaim := { program := "ytoegamcnhdlioaadoor", sum := "bd09e088e04a962a8a6042a1ef7b008f39d116482e6c332f176cf0d4ad7438d4", func := "calends/calendslaw08.GregTurns", spec := "gregTurns", inPlace := ["internal/reflectlite.TypeOf"], unfollowed := true, recurses := true, named := ["calends/greg.errDay"], apart := false, laid := [("calends/greg.errDay", laid_calends_greg_errDay)] }
def GregTurnsSaid : Prop := gregTurnsRow.holds Tryd.pinned (OpenSpec.ofChange gregTurnsSpec)

/-- ITS FALSE NEIGHBOUR: 'it returns false'. Refute it at one input. -/
def gregTurnsWrong : ChangeSpec := { name := "gregTurns", fn := fun _ => fun
  | [d1, d2] => { results := [.lit (.bool false)], args := [d1, d2] }
  | _ => none }
def GregTurnsWrongFalsely : Prop := gregTurnsRow.holds Tryd.pinned (OpenSpec.ofChange gregTurnsWrong)

/-- 'calendslaw08.GregPlus': WHATEVER THE INPUT: true; the input reads as it did. -/
def gregPlusSpec : ChangeSpec := { name := "gregPlus", fn := fun _ => fun
  | [d1, d2, d3] => { results := [.lit (.bool true)], args := [d1, d2, d3] }
  | _ => none }
def gregPlusRow : OpenClaim := { program := "ytoegamcnhdlioaadoor", sum := "bd09e088e04a962a8a6042a1ef7b008f39d116482e6c332f176cf0d4ad7438d4", func := "calends/calendslaw08.GregPlus", spec := "gregPlus", inPlace := ["internal/reflectlite.TypeOf"], unfollowed := true, recurses := true, named := ["calends/greg.errDay"], apart := false, laid := [("calends/greg.errDay", laid_calends_greg_errDay)] }
def GregPlusSaid : Prop := gregPlusRow.holds Tryd.pinned (OpenSpec.ofChange gregPlusSpec)

/-- ITS FALSE NEIGHBOUR: 'it returns false'. Refute it at one input. -/
def gregPlusWrong : ChangeSpec := { name := "gregPlus", fn := fun _ => fun
  | [d1, d2, d3] => { results := [.lit (.bool false)], args := [d1, d2, d3] }
  | _ => none }
def GregPlusWrongFalsely : Prop := gregPlusRow.holds Tryd.pinned (OpenSpec.ofChange gregPlusWrong)

/-- 'calendslaw08.GregWeeks': WHATEVER THE INPUT: true; the input reads as it did. -/
def gregWeeksSpec : ChangeSpec := { name := "gregWeeks", fn := fun _ => fun
  | [d1, d2, d3] => { results := [.lit (.bool true)], args := [d1, d2, d3] }
  | _ => none }
def gregWeeksRow : OpenClaim := { program := "ytoegamcnhdlioaadoor", sum := "bd09e088e04a962a8a6042a1ef7b008f39d116482e6c332f176cf0d4ad7438d4", func := "calends/calendslaw08.GregWeeks", spec := "gregWeeks", inPlace := ["internal/reflectlite.TypeOf"], unfollowed := true, recurses := true, named := ["calends/greg.errDay"], apart := false, laid := [("calends/greg.errDay", laid_calends_greg_errDay)] }
def GregWeeksSaid : Prop := gregWeeksRow.holds Tryd.pinned (OpenSpec.ofChange gregWeeksSpec)

/-- ITS FALSE NEIGHBOUR: 'it returns false'. Refute it at one input. -/
def gregWeeksWrong : ChangeSpec := { name := "gregWeeks", fn := fun _ => fun
  | [d1, d2, d3] => { results := [.lit (.bool false)], args := [d1, d2, d3] }
  | _ => none }
def GregWeeksWrongFalsely : Prop := gregWeeksRow.holds Tryd.pinned (OpenSpec.ofChange gregWeeksWrong)

/-- 'calendslaw08.GregSeven': WHATEVER THE INPUT: true; the input reads as it did. -/
def gregSevenSpec : ChangeSpec := { name := "gregSeven", fn := fun _ => fun
  | [d1, d2] => { results := [.lit (.bool true)], args := [d1, d2] }
  | _ => none }
def gregSevenRow : OpenClaim := { program := "ytoegamcnhdlioaadoor", sum := "bd09e088e04a962a8a6042a1ef7b008f39d116482e6c332f176cf0d4ad7438d4", func := "calends/calendslaw08.GregSeven", spec := "gregSeven", inPlace := ["internal/reflectlite.TypeOf"], unfollowed := true, recurses := true, named := ["calends/greg.errDay"], apart := false, laid := [("calends/greg.errDay", laid_calends_greg_errDay)] }
def GregSevenSaid : Prop := gregSevenRow.holds Tryd.pinned (OpenSpec.ofChange gregSevenSpec)

/-- ITS FALSE NEIGHBOUR: 'it returns false'. Refute it at one input. -/
def gregSevenWrong : ChangeSpec := { name := "gregSeven", fn := fun _ => fun
  | [d1, d2] => { results := [.lit (.bool false)], args := [d1, d2] }
  | _ => none }
def GregSevenWrongFalsely : Prop := gregSevenRow.holds Tryd.pinned (OpenSpec.ofChange gregSevenWrong)

/-- 'calendslaw08.GregYears': WHATEVER THE INPUT: true; the input reads as it did. -/
def gregYearsSpec : ChangeSpec := { name := "gregYears", fn := fun _ => fun
  | [d] => { results := [.lit (.bool true)], args := [d] }
  | _ => none }
def gregYearsRow : OpenClaim := { program := "ytoegamcnhdlioaadoor", sum := "bd09e088e04a962a8a6042a1ef7b008f39d116482e6c332f176cf0d4ad7438d4", func := "calends/calendslaw08.GregYears", spec := "gregYears", inPlace := ["internal/reflectlite.TypeOf"], unfollowed := true, recurses := true, named := ["calends/greg.errDay"], apart := false, laid := [("calends/greg.errDay", laid_calends_greg_errDay)] }
def GregYearsSaid : Prop := gregYearsRow.holds Tryd.pinned (OpenSpec.ofChange gregYearsSpec)

/-- ITS FALSE NEIGHBOUR: 'it returns false'. Refute it at one input. -/
def gregYearsWrong : ChangeSpec := { name := "gregYears", fn := fun _ => fun
  | [d] => { results := [.lit (.bool false)], args := [d] }
  | _ => none }
def GregYearsWrongFalsely : Prop := gregYearsRow.holds Tryd.pinned (OpenSpec.ofChange gregYearsWrong)

/- THE SECOND FORM. 'bulk': how many values and letters a reading holds, each counted each time it is reached (what is shared counts as often as it is met; a slice's spare places count too). A statement '..UptoSaid' is the law's where the arguments, and the package variables that the reading takes, are together of bulk at most 1048576: NARROWER than '..Said'. Prove '..Said' where nothing that the law and all that it calls make is longer than what came in: it says more and counts as full. Else prove '..UptoSaid'. A law counts once. -/
mutual
def uptoBulk {H : Type} : DataW H → Nat
  | .lit (.string bytes) => bytes.length + 1
  | .lit _ => 1
  | .nil => 1
  | .ptr d => uptoBulk d + 1
  | .slice elems spare => uptoBulkAll elems + uptoBulkAll spare + 1
  | .agg parts => uptoBulkAll parts + 1
  | .iface _ d => uptoBulk d + 1
  | .map entries => uptoBulkEntries entries + 1
  | .held _ => 1
def uptoBulkAll {H : Type} : List (DataW H) → Nat
  | [] => 0
  | d :: r => uptoBulk d + uptoBulkAll r
def uptoBulkEntries {H : Type} : List (Lit × DataW H) → Nat
  | [] => 0
  | x :: r => uptoBulkEntry x + uptoBulkEntries r
def uptoBulkEntry {H : Type} : Lit × DataW H → Nat
  | (.string bytes, d) => bytes.length + uptoBulk d + 1
  | (_, d) => uptoBulk d + 1
 end
def uptoSmall : (H : Type) → List (DataW H) → Bool := fun _ ds => decide (uptoBulkAll ds ≤ 1048576)
def OpenSpec.upto (s : _root_.Go.ChangeSpec) : _root_.Go.OpenSpec := { _root_.Go.OpenSpec.ofChange s with cond := some uptoSmall }

/-- 'calendslaw08.GregDays', WHERE WHAT IT READS IS OF BULK AT MOST 1048576: true; the input reads as it did. -/
def gregDaysUptoRow : OpenClaim := { program := "ytoegamcnhdlioaadoor", sum := "bd09e088e04a962a8a6042a1ef7b008f39d116482e6c332f176cf0d4ad7438d4", func := "calends/calendslaw08.GregDays", spec := "gregDays", inPlace := ["internal/reflectlite.TypeOf"], unfollowed := true, recurses := true, named := ["calends/greg.errDay"], apart := false, laid := [("calends/greg.errDay", laid_calends_greg_errDay)], narrowed := true }
def GregDaysUptoSaid : Prop := gregDaysUptoRow.holds Tryd.pinned (OpenSpec.upto gregDaysSpec)

/-- 'calendslaw08.GregTurns', WHERE WHAT IT READS IS OF BULK AT MOST 1048576: true; the input reads as it did. -/
def gregTurnsUptoRow : OpenClaim := { program := "ytoegamcnhdlioaadoor", sum := "bd09e088e04a962a8a6042a1ef7b008f39d116482e6c332f176cf0d4ad7438d4", func := "calends/calendslaw08.GregTurns", spec := "gregTurns", inPlace := ["internal/reflectlite.TypeOf"], unfollowed := true, recurses := true, named := ["calends/greg.errDay"], apart := false, laid := [("calends/greg.errDay", laid_calends_greg_errDay)], narrowed := true }
def GregTurnsUptoSaid : Prop := gregTurnsUptoRow.holds Tryd.pinned (OpenSpec.upto gregTurnsSpec)

/-- 'calendslaw08.GregPlus', WHERE WHAT IT READS IS OF BULK AT MOST 1048576: true; the input reads as it did. -/
def gregPlusUptoRow : OpenClaim := { program := "ytoegamcnhdlioaadoor", sum := "bd09e088e04a962a8a6042a1ef7b008f39d116482e6c332f176cf0d4ad7438d4", func := "calends/calendslaw08.GregPlus", spec := "gregPlus", inPlace := ["internal/reflectlite.TypeOf"], unfollowed := true, recurses := true, named := ["calends/greg.errDay"], apart := false, laid := [("calends/greg.errDay", laid_calends_greg_errDay)], narrowed := true }
def GregPlusUptoSaid : Prop := gregPlusUptoRow.holds Tryd.pinned (OpenSpec.upto gregPlusSpec)

/-- 'calendslaw08.GregWeeks', WHERE WHAT IT READS IS OF BULK AT MOST 1048576: true; the input reads as it did. -/
def gregWeeksUptoRow : OpenClaim := { program := "ytoegamcnhdlioaadoor", sum := "bd09e088e04a962a8a6042a1ef7b008f39d116482e6c332f176cf0d4ad7438d4", func := "calends/calendslaw08.GregWeeks", spec := "gregWeeks", inPlace := ["internal/reflectlite.TypeOf"], unfollowed := true, recurses := true, named := ["calends/greg.errDay"], apart := false, laid := [("calends/greg.errDay", laid_calends_greg_errDay)], narrowed := true }
def GregWeeksUptoSaid : Prop := gregWeeksUptoRow.holds Tryd.pinned (OpenSpec.upto gregWeeksSpec)

/-- 'calendslaw08.GregSeven', WHERE WHAT IT READS IS OF BULK AT MOST 1048576: true; the input reads as it did. -/
def gregSevenUptoRow : OpenClaim := { program := "ytoegamcnhdlioaadoor", sum := "bd09e088e04a962a8a6042a1ef7b008f39d116482e6c332f176cf0d4ad7438d4", func := "calends/calendslaw08.GregSeven", spec := "gregSeven", inPlace := ["internal/reflectlite.TypeOf"], unfollowed := true, recurses := true, named := ["calends/greg.errDay"], apart := false, laid := [("calends/greg.errDay", laid_calends_greg_errDay)], narrowed := true }
def GregSevenUptoSaid : Prop := gregSevenUptoRow.holds Tryd.pinned (OpenSpec.upto gregSevenSpec)

/-- 'calendslaw08.GregYears', WHERE WHAT IT READS IS OF BULK AT MOST 1048576: true; the input reads as it did. -/
def gregYearsUptoRow : OpenClaim := { program := "ytoegamcnhdlioaadoor", sum := "bd09e088e04a962a8a6042a1ef7b008f39d116482e6c332f176cf0d4ad7438d4", func := "calends/calendslaw08.GregYears", spec := "gregYears", inPlace := ["internal/reflectlite.TypeOf"], unfollowed := true, recurses := true, named := ["calends/greg.errDay"], apart := false, laid := [("calends/greg.errDay", laid_calends_greg_errDay)], narrowed := true }
def GregYearsUptoSaid : Prop := gregYearsUptoRow.holds Tryd.pinned (OpenSpec.upto gregYearsSpec)

end Rows
end Go.Proofs.YtoegamcnhdlioaaDoor
