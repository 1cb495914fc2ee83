/-
  DERIVED. GIVEN WITH THE SEED: THE CARDS: each row of YtaiglcjeikcboaaDoorRows.lean that lists a variable, with what it lists TIED to the program's text (the seventh form; the later family's looks); each row that meets fmt, with fmt's text TOLD by the authors' own Lean function (tested against real Go, not proved from fmt's source: count such statements apart). THE CARD IS WHAT COUNTS. Prove the row's statement (the work); the ties are given (YtaiglcjeikcboaaDoorTie.lean); close each card by the builder's one call (the guide's Derived/Test/ToyasCard.lean, 'card_holds'). Laid BY PROGRAM, IN A SANDBOX (cutbox-door.mjs). By AI agents, Wed Nov 11 2026. No macro, syntax, notation, axiom, sorry.
-/
import Derived.Test.YtaiglcjeikcboaaDoorRows
import GoSem.ClaimSeven
namespace Go.Proofs.YtaiglcjeikcboaaDoor
namespace Rows

/-- THE TIED CARD OF 'breviarylaw01.CharClasses'. -/
def charClassesCard : Claim7 := { stood := { row := charClassesRow, standIns := [], harness := (true, "7f18b6589eb2498111812da5c1624bf8a46c4458979fa92518d391104f78dd19"), looks := false }, kinds := [], alts := [], laidByText := true, laidKinds := [.data, .pinned], laidTests := true, laidLooks := .later }
def CharClassesCardSaid : Prop := Claim7.holds Tryd.pinned (.plain (OpenSpec.ofChange charClassesSpec)) charClassesCard

/-- THE TIED CARD OF 'breviarylaw01.CharTexts'. -/
def charTextsCard : Claim7 := { stood := { row := charTextsRow, standIns := [], harness := (true, "7f18b6589eb2498111812da5c1624bf8a46c4458979fa92518d391104f78dd19"), looks := false }, kinds := [], alts := [], laidByText := true, laidKinds := [.data, .pinned], laidTests := true, laidLooks := .later }
def CharTextsCardSaid : Prop := Claim7.holds Tryd.pinned (.plain (OpenSpec.ofChange charTextsSpec)) charTextsCard

/-- THE TIED CARD OF 'breviarylaw01.CharNames'. -/
def charNamesCard : Claim7 := { stood := { row := charNamesRow, standIns := [], harness := (true, "7f18b6589eb2498111812da5c1624bf8a46c4458979fa92518d391104f78dd19"), looks := false }, kinds := [], alts := [], laidByText := true, laidKinds := [.data, .pinned], laidTests := true, laidLooks := .later }
def CharNamesCardSaid : Prop := Claim7.holds Tryd.pinned (.plain (OpenSpec.ofChange charNamesSpec)) charNamesCard

/-- THE TIED CARD OF 'breviarylaw01.CharWithin'. -/
def charWithinCard : Claim7 := { stood := { row := charWithinRow, standIns := [], harness := (true, "7f18b6589eb2498111812da5c1624bf8a46c4458979fa92518d391104f78dd19"), looks := false }, kinds := [], alts := [], laidByText := true, laidKinds := [.data, .pinned], laidTests := true, laidLooks := .later }
def CharWithinCardSaid : Prop := Claim7.holds Tryd.pinned (.plain (OpenSpec.ofChange charWithinSpec)) charWithinCard

/-- THE TIED CARD OF 'breviarylaw01.CharJoin'. -/
def charJoinCard : Claim7 := { stood := { row := charJoinRow, standIns := [], harness := (true, "7f18b6589eb2498111812da5c1624bf8a46c4458979fa92518d391104f78dd19"), looks := false }, kinds := [], alts := [], laidByText := true, laidKinds := [.data, .pinned], laidTests := true, laidLooks := .later }
def CharJoinCardSaid : Prop := Claim7.holds Tryd.pinned (.plain (OpenSpec.ofChange charJoinSpec)) charJoinCard

/-- THE SECOND FORM's CARD OF 'breviarylaw01.CharClasses'. -/
def charClassesUptoCard : Claim7 := { stood := { row := charClassesUptoRow, standIns := [], harness := (true, "7f18b6589eb2498111812da5c1624bf8a46c4458979fa92518d391104f78dd19"), looks := false }, kinds := [], alts := [], laidByText := true, laidKinds := [.data, .pinned], laidTests := true, laidLooks := .later }
def CharClassesUptoCardSaid : Prop := Claim7.holds Tryd.pinned (.plain (OpenSpec.upto charClassesSpec)) charClassesUptoCard

/-- THE SECOND FORM's CARD OF 'breviarylaw01.CharTexts'. -/
def charTextsUptoCard : Claim7 := { stood := { row := charTextsUptoRow, standIns := [], harness := (true, "7f18b6589eb2498111812da5c1624bf8a46c4458979fa92518d391104f78dd19"), looks := false }, kinds := [], alts := [], laidByText := true, laidKinds := [.data, .pinned], laidTests := true, laidLooks := .later }
def CharTextsUptoCardSaid : Prop := Claim7.holds Tryd.pinned (.plain (OpenSpec.upto charTextsSpec)) charTextsUptoCard

/-- THE SECOND FORM's CARD OF 'breviarylaw01.CharNames'. -/
def charNamesUptoCard : Claim7 := { stood := { row := charNamesUptoRow, standIns := [], harness := (true, "7f18b6589eb2498111812da5c1624bf8a46c4458979fa92518d391104f78dd19"), looks := false }, kinds := [], alts := [], laidByText := true, laidKinds := [.data, .pinned], laidTests := true, laidLooks := .later }
def CharNamesUptoCardSaid : Prop := Claim7.holds Tryd.pinned (.plain (OpenSpec.upto charNamesSpec)) charNamesUptoCard

/-- THE SECOND FORM's CARD OF 'breviarylaw01.CharWithin'. -/
def charWithinUptoCard : Claim7 := { stood := { row := charWithinUptoRow, standIns := [], harness := (true, "7f18b6589eb2498111812da5c1624bf8a46c4458979fa92518d391104f78dd19"), looks := false }, kinds := [], alts := [], laidByText := true, laidKinds := [.data, .pinned], laidTests := true, laidLooks := .later }
def CharWithinUptoCardSaid : Prop := Claim7.holds Tryd.pinned (.plain (OpenSpec.upto charWithinSpec)) charWithinUptoCard

/-- THE SECOND FORM's CARD OF 'breviarylaw01.CharJoin'. -/
def charJoinUptoCard : Claim7 := { stood := { row := charJoinUptoRow, standIns := [], harness := (true, "7f18b6589eb2498111812da5c1624bf8a46c4458979fa92518d391104f78dd19"), looks := false }, kinds := [], alts := [], laidByText := true, laidKinds := [.data, .pinned], laidTests := true, laidLooks := .later }
def CharJoinUptoCardSaid : Prop := Claim7.holds Tryd.pinned (.plain (OpenSpec.upto charJoinSpec)) charJoinUptoCard
end Rows
end Go.Proofs.YtaiglcjeikcboaaDoor
