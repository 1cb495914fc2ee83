/-
  DERIVED. GIVEN WITH THE SEED: THE CARDS: each row of YteooaibbblfmjaaDoorRows.lean that lists a variable, with what it lists TIED to the program's text (the seventh form; the later family's looks); each row that meets fmt, with fmt's text TOLD by the authors' own Lean function (tested against real Go, not proved from fmt's source: count such statements apart). THE CARD IS WHAT COUNTS. Prove the row's statement (the work); the ties are given (YteooaibbblfmjaaDoorTie.lean); close each card by the builder's one call (the guide's Derived/Test/ToyasCard.lean, 'card_holds'). Laid BY PROGRAM, IN A SANDBOX (cutbox-door.mjs). By AI agents, Wed Nov 11 2026. No macro, syntax, notation, axiom, sorry.
-/
import Derived.Test.YteooaibbblfmjaaDoorRows
import GoSem.ClaimSeven
namespace Go.Proofs.YteooaibbblfmjaaDoor
namespace Rows

/-- THE TIED CARD OF 'breviarylaw17.CompareNot'. -/
def compareNotCard : Claim7 := { stood := { row := compareNotRow, standIns := [], harness := (true, "87fa5d1231d757ce5cee3864b38936b3dc37425b59b91008724a408fad218aab"), looks := true }, kinds := [], alts := [], laidByText := true, laidKinds := [.data, .pinned], laidTests := true, laidLooks := .later }
def CompareNotCardSaid : Prop := Claim7.holds Tryd.pinned (.plain (OpenSpec.ofChange compareNotSpec)) compareNotCard

/-- THE TIED CARD OF 'breviarylaw17.CompareSelf'. -/
def compareSelfCard : Claim7 := { stood := { row := compareSelfRow, standIns := [], harness := (true, "87fa5d1231d757ce5cee3864b38936b3dc37425b59b91008724a408fad218aab"), looks := true }, kinds := [], alts := [], laidByText := true, laidKinds := [.data, .pinned], laidTests := true, laidLooks := .later }
def CompareSelfCardSaid : Prop := Claim7.holds Tryd.pinned (.plain (OpenSpec.ofChange compareSelfSpec)) compareSelfCard

/-- THE SECOND FORM's CARD OF 'breviarylaw17.CompareNot'. -/
def compareNotUptoCard : Claim7 := { stood := { row := compareNotUptoRow, standIns := [], harness := (true, "87fa5d1231d757ce5cee3864b38936b3dc37425b59b91008724a408fad218aab"), looks := true }, kinds := [], alts := [], laidByText := true, laidKinds := [.data, .pinned], laidTests := true, laidLooks := .later }
def CompareNotUptoCardSaid : Prop := Claim7.holds Tryd.pinned (.plain (OpenSpec.upto compareNotSpec)) compareNotUptoCard

/-- THE SECOND FORM's CARD OF 'breviarylaw17.CompareSelf'. -/
def compareSelfUptoCard : Claim7 := { stood := { row := compareSelfUptoRow, standIns := [], harness := (true, "87fa5d1231d757ce5cee3864b38936b3dc37425b59b91008724a408fad218aab"), looks := true }, kinds := [], alts := [], laidByText := true, laidKinds := [.data, .pinned], laidTests := true, laidLooks := .later }
def CompareSelfUptoCardSaid : Prop := Claim7.holds Tryd.pinned (.plain (OpenSpec.upto compareSelfSpec)) compareSelfUptoCard
end Rows
end Go.Proofs.YteooaibbblfmjaaDoor
