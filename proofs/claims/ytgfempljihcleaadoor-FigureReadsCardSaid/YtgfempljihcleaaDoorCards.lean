/-
  DERIVED. GIVEN WITH THE SEED: THE CARDS: each row of YtgfempljihcleaaDoorRows.lean that lists a variable, with what it lists TIED to the program's text (the seventh form; the later family's looks); each row that meets fmt, with fmt's text TOLD by the authors' own Lean function (tested against real Go, not proved from fmt's source: count such statements apart). THE CARD IS WHAT COUNTS. Prove the row's statement (the work); the ties are given (YtgfempljihcleaaDoorTie.lean); close each card by the builder's one call (the guide's Derived/Test/ToyasCard.lean, 'card_holds'). Laid BY PROGRAM, IN A SANDBOX (cutbox-door.mjs). By AI agents, Wed Nov 11 2026. No macro, syntax, notation, axiom, sorry.
-/
import Derived.Test.YtgfempljihcleaaDoorRows
import GoSem.ClaimSeven
namespace Go.Proofs.YtgfempljihcleaaDoor
namespace Rows

/-- THE TIED CARD OF 'breviarylaw04.FigureShows'. -/
def figureShowsCard : Claim7 := { stood := { row := figureShowsRow, standIns := [], harness := (true, "4f59acee327190f58dca7d9f2f2c9c5dec0d4c22e68b4fb57a4c30644985e8bb"), looks := false }, kinds := [], alts := [], laidByText := true, laidKinds := [.data, .pinned], laidTests := true, laidLooks := .later }
def FigureShowsCardSaid : Prop := Claim7.holds Tryd.pinned (.plain (OpenSpec.ofChange figureShowsSpec)) figureShowsCard

/-- THE TIED CARD OF 'breviarylaw04.FigureReads'. -/
def figureReadsCard : Claim7 := { stood := { row := figureReadsRow, standIns := [], harness := (true, "4f59acee327190f58dca7d9f2f2c9c5dec0d4c22e68b4fb57a4c30644985e8bb"), looks := false }, kinds := [], alts := [], laidByText := true, laidKinds := [.data, .pinned], laidTests := true, laidLooks := .later }
def FigureReadsCardSaid : Prop := Claim7.holds Tryd.pinned (.plain (OpenSpec.ofChange figureReadsSpec)) figureReadsCard

/-- THE TIED CARD OF 'breviarylaw04.FigureBack'. -/
def figureBackCard : Claim7 := { stood := { row := figureBackRow, standIns := [], harness := (true, "4f59acee327190f58dca7d9f2f2c9c5dec0d4c22e68b4fb57a4c30644985e8bb"), looks := false }, kinds := [], alts := [], laidByText := true, laidKinds := [.data, .pinned], laidTests := true, laidLooks := .later }
def FigureBackCardSaid : Prop := Claim7.holds Tryd.pinned (.plain (OpenSpec.ofChange figureBackSpec)) figureBackCard

/-- THE TIED CARD OF 'breviarylaw04.FigureAgain'. -/
def figureAgainCard : Claim7 := { stood := { row := figureAgainRow, standIns := [], harness := (true, "4f59acee327190f58dca7d9f2f2c9c5dec0d4c22e68b4fb57a4c30644985e8bb"), looks := false }, kinds := [], alts := [], laidByText := true, laidKinds := [.data, .pinned], laidTests := true, laidLooks := .later }
def FigureAgainCardSaid : Prop := Claim7.holds Tryd.pinned (.plain (OpenSpec.ofChange figureAgainSpec)) figureAgainCard

/-- THE TIED CARD OF 'breviarylaw04.FigureOne'. -/
def figureOneCard : Claim7 := { stood := { row := figureOneRow, standIns := [], harness := (true, "4f59acee327190f58dca7d9f2f2c9c5dec0d4c22e68b4fb57a4c30644985e8bb"), looks := false }, kinds := [], alts := [], laidByText := true, laidKinds := [.data, .pinned], laidTests := true, laidLooks := .later }
def FigureOneCardSaid : Prop := Claim7.holds Tryd.pinned (.plain (OpenSpec.ofChange figureOneSpec)) figureOneCard

/-- THE SECOND FORM's CARD OF 'breviarylaw04.FigureShows'. -/
def figureShowsUptoCard : Claim7 := { stood := { row := figureShowsUptoRow, standIns := [], harness := (true, "4f59acee327190f58dca7d9f2f2c9c5dec0d4c22e68b4fb57a4c30644985e8bb"), looks := false }, kinds := [], alts := [], laidByText := true, laidKinds := [.data, .pinned], laidTests := true, laidLooks := .later }
def FigureShowsUptoCardSaid : Prop := Claim7.holds Tryd.pinned (.plain (OpenSpec.upto figureShowsSpec)) figureShowsUptoCard

/-- THE SECOND FORM's CARD OF 'breviarylaw04.FigureReads'. -/
def figureReadsUptoCard : Claim7 := { stood := { row := figureReadsUptoRow, standIns := [], harness := (true, "4f59acee327190f58dca7d9f2f2c9c5dec0d4c22e68b4fb57a4c30644985e8bb"), looks := false }, kinds := [], alts := [], laidByText := true, laidKinds := [.data, .pinned], laidTests := true, laidLooks := .later }
def FigureReadsUptoCardSaid : Prop := Claim7.holds Tryd.pinned (.plain (OpenSpec.upto figureReadsSpec)) figureReadsUptoCard

/-- THE SECOND FORM's CARD OF 'breviarylaw04.FigureBack'. -/
def figureBackUptoCard : Claim7 := { stood := { row := figureBackUptoRow, standIns := [], harness := (true, "4f59acee327190f58dca7d9f2f2c9c5dec0d4c22e68b4fb57a4c30644985e8bb"), looks := false }, kinds := [], alts := [], laidByText := true, laidKinds := [.data, .pinned], laidTests := true, laidLooks := .later }
def FigureBackUptoCardSaid : Prop := Claim7.holds Tryd.pinned (.plain (OpenSpec.upto figureBackSpec)) figureBackUptoCard

/-- THE SECOND FORM's CARD OF 'breviarylaw04.FigureAgain'. -/
def figureAgainUptoCard : Claim7 := { stood := { row := figureAgainUptoRow, standIns := [], harness := (true, "4f59acee327190f58dca7d9f2f2c9c5dec0d4c22e68b4fb57a4c30644985e8bb"), looks := false }, kinds := [], alts := [], laidByText := true, laidKinds := [.data, .pinned], laidTests := true, laidLooks := .later }
def FigureAgainUptoCardSaid : Prop := Claim7.holds Tryd.pinned (.plain (OpenSpec.upto figureAgainSpec)) figureAgainUptoCard

/-- THE SECOND FORM's CARD OF 'breviarylaw04.FigureOne'. -/
def figureOneUptoCard : Claim7 := { stood := { row := figureOneUptoRow, standIns := [], harness := (true, "4f59acee327190f58dca7d9f2f2c9c5dec0d4c22e68b4fb57a4c30644985e8bb"), looks := false }, kinds := [], alts := [], laidByText := true, laidKinds := [.data, .pinned], laidTests := true, laidLooks := .later }
def FigureOneUptoCardSaid : Prop := Claim7.holds Tryd.pinned (.plain (OpenSpec.upto figureOneSpec)) figureOneUptoCard
end Rows
end Go.Proofs.YtgfempljihcleaaDoor
