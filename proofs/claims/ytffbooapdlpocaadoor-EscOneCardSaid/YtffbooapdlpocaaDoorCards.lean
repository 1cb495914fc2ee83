/-
  DERIVED. GIVEN WITH THE SEED: THE CARDS: each row of YtffbooapdlpocaaDoorRows.lean that lists a variable, with what it lists TIED to the program's text (the seventh form; the later family's looks); each row that meets fmt, with fmt's text TOLD by the authors' own Lean function (tested against real Go, not proved from fmt's source: count such statements apart). THE CARD IS WHAT COUNTS. Prove the row's statement (the work); the ties are given (YtffbooapdlpocaaDoorTie.lean); close each card by the builder's one call (the guide's Derived/Test/ToyasCard.lean, 'card_holds'). Laid BY PROGRAM, IN A SANDBOX (cutbox-door.mjs). By AI agents, Wed Nov 11 2026. No macro, syntax, notation, axiom, sorry.
-/
import Derived.Test.YtffbooapdlpocaaDoorRows
import GoSem.ClaimSeven
namespace Go.Proofs.YtffbooapdlpocaaDoor
namespace Rows

/-- THE TIED CARD OF 'breviarylaw05.EscPuts'. -/
def escPutsCard : Claim7 := { stood := { row := escPutsRow, standIns := [], harness := (true, "e3a7c9878a0228771640907d51bf41960d61f82fe157c50aceb300598621afd1"), looks := true }, kinds := [], alts := [], laidByText := true, laidKinds := [.data, .data, .data, .data, .sentinel, .sentinel, .pinned], laidTests := true, laidLooks := .later }
def EscPutsCardSaid : Prop := Claim7.holds Tryd.pinned (.plain (OpenSpec.ofChange escPutsSpec)) escPutsCard

/-- THE TIED CARD OF 'breviarylaw05.EscGets'. -/
def escGetsCard : Claim7 := { stood := { row := escGetsRow, standIns := [], harness := (true, "e3a7c9878a0228771640907d51bf41960d61f82fe157c50aceb300598621afd1"), looks := true }, kinds := [], alts := [], laidByText := true, laidKinds := [.data, .data, .data, .data, .sentinel, .sentinel, .pinned], laidTests := true, laidLooks := .later }
def EscGetsCardSaid : Prop := Claim7.holds Tryd.pinned (.plain (OpenSpec.ofChange escGetsSpec)) escGetsCard

/-- THE TIED CARD OF 'breviarylaw05.EscBack'. -/
def escBackCard : Claim7 := { stood := { row := escBackRow, standIns := [], harness := (true, "e3a7c9878a0228771640907d51bf41960d61f82fe157c50aceb300598621afd1"), looks := true }, kinds := [], alts := [], laidByText := true, laidKinds := [.data, .data, .data, .data, .sentinel, .sentinel, .pinned], laidTests := true, laidLooks := .later }
def EscBackCardSaid : Prop := Claim7.holds Tryd.pinned (.plain (OpenSpec.ofChange escBackSpec)) escBackCard

/-- THE TIED CARD OF 'breviarylaw05.EscOne'. -/
def escOneCard : Claim7 := { stood := { row := escOneRow, standIns := [], harness := (true, "e3a7c9878a0228771640907d51bf41960d61f82fe157c50aceb300598621afd1"), looks := true }, kinds := [], alts := [], laidByText := true, laidKinds := [.data, .data, .data, .data, .sentinel, .sentinel, .pinned], laidTests := true, laidLooks := .later }
def EscOneCardSaid : Prop := Claim7.holds Tryd.pinned (.plain (OpenSpec.ofChange escOneSpec)) escOneCard

/-- THE SECOND FORM's CARD OF 'breviarylaw05.EscPuts'. -/
def escPutsUptoCard : Claim7 := { stood := { row := escPutsUptoRow, standIns := [], harness := (true, "e3a7c9878a0228771640907d51bf41960d61f82fe157c50aceb300598621afd1"), looks := true }, kinds := [], alts := [], laidByText := true, laidKinds := [.data, .data, .data, .data, .sentinel, .sentinel, .pinned], laidTests := true, laidLooks := .later }
def EscPutsUptoCardSaid : Prop := Claim7.holds Tryd.pinned (.plain (OpenSpec.upto escPutsSpec)) escPutsUptoCard

/-- THE SECOND FORM's CARD OF 'breviarylaw05.EscGets'. -/
def escGetsUptoCard : Claim7 := { stood := { row := escGetsUptoRow, standIns := [], harness := (true, "e3a7c9878a0228771640907d51bf41960d61f82fe157c50aceb300598621afd1"), looks := true }, kinds := [], alts := [], laidByText := true, laidKinds := [.data, .data, .data, .data, .sentinel, .sentinel, .pinned], laidTests := true, laidLooks := .later }
def EscGetsUptoCardSaid : Prop := Claim7.holds Tryd.pinned (.plain (OpenSpec.upto escGetsSpec)) escGetsUptoCard

/-- THE SECOND FORM's CARD OF 'breviarylaw05.EscBack'. -/
def escBackUptoCard : Claim7 := { stood := { row := escBackUptoRow, standIns := [], harness := (true, "e3a7c9878a0228771640907d51bf41960d61f82fe157c50aceb300598621afd1"), looks := true }, kinds := [], alts := [], laidByText := true, laidKinds := [.data, .data, .data, .data, .sentinel, .sentinel, .pinned], laidTests := true, laidLooks := .later }
def EscBackUptoCardSaid : Prop := Claim7.holds Tryd.pinned (.plain (OpenSpec.upto escBackSpec)) escBackUptoCard

/-- THE SECOND FORM's CARD OF 'breviarylaw05.EscOne'. -/
def escOneUptoCard : Claim7 := { stood := { row := escOneUptoRow, standIns := [], harness := (true, "e3a7c9878a0228771640907d51bf41960d61f82fe157c50aceb300598621afd1"), looks := true }, kinds := [], alts := [], laidByText := true, laidKinds := [.data, .data, .data, .data, .sentinel, .sentinel, .pinned], laidTests := true, laidLooks := .later }
def EscOneUptoCardSaid : Prop := Claim7.holds Tryd.pinned (.plain (OpenSpec.upto escOneSpec)) escOneUptoCard
end Rows
end Go.Proofs.YtffbooapdlpocaaDoor
