/-
  DERIVED. GIVEN WITH THE SEED: THE CARDS: each row of YtbemijbgbjcoeaaDoorRows.lean that lists a variable, with what it lists TIED to the program's text (the seventh form; the later family's looks); each row that meets fmt, with fmt's text TOLD by the authors' own Lean function (tested against real Go, not proved from fmt's source: count such statements apart). THE CARD IS WHAT COUNTS. Prove the row's statement (the work); the ties are given (YtbemijbgbjcoeaaDoorTie.lean); close each card by the builder's one call (the guide's Derived/Test/ToyasCard.lean, 'card_holds'). Laid BY PROGRAM, IN A SANDBOX (cutbox-door.mjs). By AI agents, Wed Nov 11 2026. No macro, syntax, notation, axiom, sorry.
-/
import Derived.Test.YtbemijbgbjcoeaaDoorRows
import GoSem.ClaimSeven
namespace Go.Proofs.YtbemijbgbjcoeaaDoor
namespace Rows

/-- THE TIED CARD OF 'breviarylaw13.SyntaxRanks'. -/
def syntaxRanksCard : Claim7 := { stood := { row := syntaxRanksRow, standIns := [], harness := (true, "90f2dcc8423e6a5166a60cc87e0e06f1e4be3bb0a81e389024b74fb9ae533953"), looks := true }, kinds := [], alts := [], laidByText := true, laidKinds := [.data, .pinned], laidTests := true, laidLooks := .later }
def SyntaxRanksCardSaid : Prop := Claim7.holds Tryd.pinned (.plain (OpenSpec.ofChange syntaxRanksSpec)) syntaxRanksCard

/-- THE TIED CARD OF 'breviarylaw12.LexWords'. -/
def lexWordsCard : Claim7 := { stood := { row := lexWordsRow, standIns := [], harness := (true, "90f2dcc8423e6a5166a60cc87e0e06f1e4be3bb0a81e389024b74fb9ae533953"), looks := true }, kinds := [], alts := [], laidByText := true, laidKinds := [.data, .pinned], laidTests := true, laidLooks := .later }
def LexWordsCardSaid : Prop := Claim7.holds Tryd.pinned (.plain (OpenSpec.ofChange lexWordsSpec)) lexWordsCard

/-- THE SECOND FORM's CARD OF 'breviarylaw13.SyntaxRanks'. -/
def syntaxRanksUptoCard : Claim7 := { stood := { row := syntaxRanksUptoRow, standIns := [], harness := (true, "90f2dcc8423e6a5166a60cc87e0e06f1e4be3bb0a81e389024b74fb9ae533953"), looks := true }, kinds := [], alts := [], laidByText := true, laidKinds := [.data, .pinned], laidTests := true, laidLooks := .later }
def SyntaxRanksUptoCardSaid : Prop := Claim7.holds Tryd.pinned (.plain (OpenSpec.upto syntaxRanksSpec)) syntaxRanksUptoCard

/-- THE SECOND FORM's CARD OF 'breviarylaw12.LexWords'. -/
def lexWordsUptoCard : Claim7 := { stood := { row := lexWordsUptoRow, standIns := [], harness := (true, "90f2dcc8423e6a5166a60cc87e0e06f1e4be3bb0a81e389024b74fb9ae533953"), looks := true }, kinds := [], alts := [], laidByText := true, laidKinds := [.data, .pinned], laidTests := true, laidLooks := .later }
def LexWordsUptoCardSaid : Prop := Claim7.holds Tryd.pinned (.plain (OpenSpec.upto lexWordsSpec)) lexWordsUptoCard
end Rows
end Go.Proofs.YtbemijbgbjcoeaaDoor
