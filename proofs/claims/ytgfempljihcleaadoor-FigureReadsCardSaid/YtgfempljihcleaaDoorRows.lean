/-
  NARROWER THAN 'FOR EVERY INPUT', by the rows' own cells (each row's printed sentence says how): FigureShows: laid · FigureReads: laid · FigureBack: laid · FigureAgain: laid · FigureOne: laid.
  DERIVED. THE GIVEN ROWS OF THIS SEAT. 5 by the template 'for every input the law returns true; each argument reads behind the call as it read before'; 0 by the template 'total and deterministic' (their statements: YtgfempljihcleaaDoorTotals.lean).
  GIVEN WITH THE SEED: the statements are not yours to turn. If you find one false, say at which input.
  Laid BY PROGRAM, IN A SANDBOX (cutbox-rows.mjs): the forced cells as the released guide's own fill.sh prints them over the translation a75dc229c821864b… (all of the seat's roots in one cut). By AI agents, Wed Nov 11 2026. No macro, syntax, notation, axiom, sorry.
-/
import Derived.Test.YtgfempljihcleaaDoorChecked
import GoSem.PinnedTables
import GoSem.Claim
import GoSem.ClaimJoined
import GoSem.ClaimMapViews
import Derived.JoinedTies
import Derived.KernelRfl
namespace Go.Proofs.YtgfempljihcleaaDoor
/- THE CELL 'sum', in the pinned program and in every row, IS THE sha256 OF THE DUMP (.gsa) THAT YtgfempljihcleaaDoorProg.lean LOADS. Nothing in Lean hashes anything: it is a label: what it is worth is what the hold of that sum in a sandbox is worth. -/
noncomputable def Tryd.pinned : Pinned := { name := "ytgfempljihcleaadoor", sum := "a75dc229c821864ba8371e22d350858a0929c3db1ee0555e63fee6ddd8a6b77b", checked := Tryd.checked }
namespace Rows
def none {H : Type} : Left H := { results := [], args := [] }

/- WHAT THE LISTED PACKAGE-LEVEL VARIABLES READ AS WHEN THE CALL BEGINS. Each datum BY PROGRAM (the guide's laid-datum.mjs) off the statement by which the dump's own 'gosem.cut.vars' lays the variable. In a bare row this is a premise. The card (YtgfempljihcleaaDoorCards.lean) ties it to the program's text. -/
def laid_unicode_utf8_acceptRanges {H : Type} : DataW H := .agg [.agg [.lit (.int .u8 128), .lit (.int .u8 191)], .agg [.lit (.int .u8 160), .lit (.int .u8 191)], .agg [.lit (.int .u8 128), .lit (.int .u8 159)], .agg [.lit (.int .u8 144), .lit (.int .u8 191)], .agg [.lit (.int .u8 128), .lit (.int .u8 143)], .agg [.lit (.int .u8 0), .lit (.int .u8 0)], .agg [.lit (.int .u8 0), .lit (.int .u8 0)], .agg [.lit (.int .u8 0), .lit (.int .u8 0)], .agg [.lit (.int .u8 0), .lit (.int .u8 0)], .agg [.lit (.int .u8 0), .lit (.int .u8 0)], .agg [.lit (.int .u8 0), .lit (.int .u8 0)], .agg [.lit (.int .u8 0), .lit (.int .u8 0)], .agg [.lit (.int .u8 0), .lit (.int .u8 0)], .agg [.lit (.int .u8 0), .lit (.int .u8 0)], .agg [.lit (.int .u8 0), .lit (.int .u8 0)], .agg [.lit (.int .u8 0), .lit (.int .u8 0)]]
/-- One of Go's own tables, pinned by name: the form's constant. -/
def laid_unicode_utf8_first : DataW Unit := Go.Pinned.utf8First

/-- 'breviarylaw04.FigureShows': WHATEVER THE INPUT: true; the input reads as it did. -/
def figureShowsSpec : ChangeSpec := { name := "figureShows", fn := fun _ => fun
  | [d] => { results := [.lit (.bool true)], args := [d] }
  | _ => none }
def figureShowsRow : OpenClaim := { program := "ytgfempljihcleaadoor", sum := "a75dc229c821864ba8371e22d350858a0929c3db1ee0555e63fee6ddd8a6b77b", func := "breviary/breviarylaw04.FigureShows", spec := "figureShows", inPlace := ["internal/abi.NoEscape", "internal/bytealg.MakeNoZero"], unfollowed := true, recurses := true, named := ["unicode/utf8.first", "unicode/utf8.acceptRanges"], apart := false, laid := [("unicode/utf8.acceptRanges", laid_unicode_utf8_acceptRanges), ("unicode/utf8.first", laid_unicode_utf8_first)] }
def FigureShowsSaid : Prop := figureShowsRow.holds Tryd.pinned (OpenSpec.ofChange figureShowsSpec)

/-- ITS FALSE NEIGHBOUR: 'it returns false'. Refute it at one input. -/
def figureShowsWrong : ChangeSpec := { name := "figureShows", fn := fun _ => fun
  | [d] => { results := [.lit (.bool false)], args := [d] }
  | _ => none }
def FigureShowsWrongFalsely : Prop := figureShowsRow.holds Tryd.pinned (OpenSpec.ofChange figureShowsWrong)

/-- 'breviarylaw04.FigureReads': WHATEVER THE INPUT: true; the input reads as it did. -/
def figureReadsSpec : ChangeSpec := { name := "figureReads", fn := fun _ => fun
  | [d] => { results := [.lit (.bool true)], args := [d] }
  | _ => none }
def figureReadsRow : OpenClaim := { program := "ytgfempljihcleaadoor", sum := "a75dc229c821864ba8371e22d350858a0929c3db1ee0555e63fee6ddd8a6b77b", func := "breviary/breviarylaw04.FigureReads", spec := "figureReads", inPlace := ["internal/abi.NoEscape", "internal/bytealg.MakeNoZero"], unfollowed := true, recurses := true, named := ["unicode/utf8.first", "unicode/utf8.acceptRanges"], apart := false, laid := [("unicode/utf8.acceptRanges", laid_unicode_utf8_acceptRanges), ("unicode/utf8.first", laid_unicode_utf8_first)] }
def FigureReadsSaid : Prop := figureReadsRow.holds Tryd.pinned (OpenSpec.ofChange figureReadsSpec)

/-- ITS FALSE NEIGHBOUR: 'it returns false'. Refute it at one input. -/
def figureReadsWrong : ChangeSpec := { name := "figureReads", fn := fun _ => fun
  | [d] => { results := [.lit (.bool false)], args := [d] }
  | _ => none }
def FigureReadsWrongFalsely : Prop := figureReadsRow.holds Tryd.pinned (OpenSpec.ofChange figureReadsWrong)

/-- 'breviarylaw04.FigureBack': WHATEVER THE INPUT: true; the input reads as it did. -/
def figureBackSpec : ChangeSpec := { name := "figureBack", fn := fun _ => fun
  | [d] => { results := [.lit (.bool true)], args := [d] }
  | _ => none }
def figureBackRow : OpenClaim := { program := "ytgfempljihcleaadoor", sum := "a75dc229c821864ba8371e22d350858a0929c3db1ee0555e63fee6ddd8a6b77b", func := "breviary/breviarylaw04.FigureBack", spec := "figureBack", inPlace := ["internal/abi.NoEscape", "internal/bytealg.MakeNoZero"], unfollowed := true, recurses := true, named := ["unicode/utf8.first", "unicode/utf8.acceptRanges"], apart := false, laid := [("unicode/utf8.acceptRanges", laid_unicode_utf8_acceptRanges), ("unicode/utf8.first", laid_unicode_utf8_first)] }
def FigureBackSaid : Prop := figureBackRow.holds Tryd.pinned (OpenSpec.ofChange figureBackSpec)

/-- ITS FALSE NEIGHBOUR: 'it returns false'. Refute it at one input. -/
def figureBackWrong : ChangeSpec := { name := "figureBack", fn := fun _ => fun
  | [d] => { results := [.lit (.bool false)], args := [d] }
  | _ => none }
def FigureBackWrongFalsely : Prop := figureBackRow.holds Tryd.pinned (OpenSpec.ofChange figureBackWrong)

/-- 'breviarylaw04.FigureAgain': WHATEVER THE INPUT: true; the input reads as it did. -/
def figureAgainSpec : ChangeSpec := { name := "figureAgain", fn := fun _ => fun
  | [d] => { results := [.lit (.bool true)], args := [d] }
  | _ => none }
def figureAgainRow : OpenClaim := { program := "ytgfempljihcleaadoor", sum := "a75dc229c821864ba8371e22d350858a0929c3db1ee0555e63fee6ddd8a6b77b", func := "breviary/breviarylaw04.FigureAgain", spec := "figureAgain", inPlace := ["internal/abi.NoEscape", "internal/bytealg.MakeNoZero"], unfollowed := true, recurses := true, named := ["unicode/utf8.first", "unicode/utf8.acceptRanges"], apart := false, laid := [("unicode/utf8.acceptRanges", laid_unicode_utf8_acceptRanges), ("unicode/utf8.first", laid_unicode_utf8_first)] }
def FigureAgainSaid : Prop := figureAgainRow.holds Tryd.pinned (OpenSpec.ofChange figureAgainSpec)

/-- ITS FALSE NEIGHBOUR: 'it returns false'. Refute it at one input. -/
def figureAgainWrong : ChangeSpec := { name := "figureAgain", fn := fun _ => fun
  | [d] => { results := [.lit (.bool false)], args := [d] }
  | _ => none }
def FigureAgainWrongFalsely : Prop := figureAgainRow.holds Tryd.pinned (OpenSpec.ofChange figureAgainWrong)

/-- 'breviarylaw04.FigureOne': WHATEVER THE INPUT: true; the input reads as it did. -/
def figureOneSpec : ChangeSpec := { name := "figureOne", fn := fun _ => fun
  | [d1, d2] => { results := [.lit (.bool true)], args := [d1, d2] }
  | _ => none }
def figureOneRow : OpenClaim := { program := "ytgfempljihcleaadoor", sum := "a75dc229c821864ba8371e22d350858a0929c3db1ee0555e63fee6ddd8a6b77b", func := "breviary/breviarylaw04.FigureOne", spec := "figureOne", inPlace := ["internal/abi.NoEscape", "internal/bytealg.MakeNoZero"], unfollowed := true, recurses := true, named := ["unicode/utf8.first", "unicode/utf8.acceptRanges"], apart := false, laid := [("unicode/utf8.acceptRanges", laid_unicode_utf8_acceptRanges), ("unicode/utf8.first", laid_unicode_utf8_first)] }
def FigureOneSaid : Prop := figureOneRow.holds Tryd.pinned (OpenSpec.ofChange figureOneSpec)

/-- ITS FALSE NEIGHBOUR: 'it returns false'. Refute it at one input. -/
def figureOneWrong : ChangeSpec := { name := "figureOne", fn := fun _ => fun
  | [d1, d2] => { results := [.lit (.bool false)], args := [d1, d2] }
  | _ => none }
def FigureOneWrongFalsely : Prop := figureOneRow.holds Tryd.pinned (OpenSpec.ofChange figureOneWrong)

/- THE SECOND FORM. 'bulk': how many values and letters a reading holds, each counted each time it is reached (what is shared counts as often as it is met; a slice's spare places count too). A statement '..UptoSaid' is the law's where the arguments, and the package variables that the reading takes, are together of bulk at most 1048576: NARROWER than '..Said'. Prove '..Said' where nothing that the law and all that it calls make is longer than what came in: it says more and counts as full. Else prove '..UptoSaid'. A law counts once. -/
mutual
def uptoBulk {H : Type} : DataW H → Nat
  | .lit (.string bytes) => bytes.length + 1
  | .lit _ => 1
  | .nil => 1
  | .ptr d => uptoBulk d + 1
  | .slice elems spare => uptoBulkAll elems + uptoBulkAll spare + 1
  | .agg parts => uptoBulkAll parts + 1
  | .iface _ d => uptoBulk d + 1
  | .map entries => uptoBulkEntries entries + 1
  | .held _ => 1
def uptoBulkAll {H : Type} : List (DataW H) → Nat
  | [] => 0
  | d :: r => uptoBulk d + uptoBulkAll r
def uptoBulkEntries {H : Type} : List (Lit × DataW H) → Nat
  | [] => 0
  | x :: r => uptoBulkEntry x + uptoBulkEntries r
def uptoBulkEntry {H : Type} : Lit × DataW H → Nat
  | (.string bytes, d) => bytes.length + uptoBulk d + 1
  | (_, d) => uptoBulk d + 1
 end
def uptoSmall : (H : Type) → List (DataW H) → Bool := fun _ ds => decide (uptoBulkAll ds ≤ 1048576)
def OpenSpec.upto (s : _root_.Go.ChangeSpec) : _root_.Go.OpenSpec := { _root_.Go.OpenSpec.ofChange s with cond := some uptoSmall }

/-- 'breviarylaw04.FigureShows', WHERE WHAT IT READS IS OF BULK AT MOST 1048576: true; the input reads as it did. -/
def figureShowsUptoRow : OpenClaim := { program := "ytgfempljihcleaadoor", sum := "a75dc229c821864ba8371e22d350858a0929c3db1ee0555e63fee6ddd8a6b77b", func := "breviary/breviarylaw04.FigureShows", spec := "figureShows", inPlace := ["internal/abi.NoEscape", "internal/bytealg.MakeNoZero"], unfollowed := true, recurses := true, named := ["unicode/utf8.first", "unicode/utf8.acceptRanges"], apart := false, laid := [("unicode/utf8.acceptRanges", laid_unicode_utf8_acceptRanges), ("unicode/utf8.first", laid_unicode_utf8_first)], narrowed := true }
def FigureShowsUptoSaid : Prop := figureShowsUptoRow.holds Tryd.pinned (OpenSpec.upto figureShowsSpec)

/-- 'breviarylaw04.FigureReads', WHERE WHAT IT READS IS OF BULK AT MOST 1048576: true; the input reads as it did. -/
def figureReadsUptoRow : OpenClaim := { program := "ytgfempljihcleaadoor", sum := "a75dc229c821864ba8371e22d350858a0929c3db1ee0555e63fee6ddd8a6b77b", func := "breviary/breviarylaw04.FigureReads", spec := "figureReads", inPlace := ["internal/abi.NoEscape", "internal/bytealg.MakeNoZero"], unfollowed := true, recurses := true, named := ["unicode/utf8.first", "unicode/utf8.acceptRanges"], apart := false, laid := [("unicode/utf8.acceptRanges", laid_unicode_utf8_acceptRanges), ("unicode/utf8.first", laid_unicode_utf8_first)], narrowed := true }
def FigureReadsUptoSaid : Prop := figureReadsUptoRow.holds Tryd.pinned (OpenSpec.upto figureReadsSpec)

/-- 'breviarylaw04.FigureBack', WHERE WHAT IT READS IS OF BULK AT MOST 1048576: true; the input reads as it did. -/
def figureBackUptoRow : OpenClaim := { program := "ytgfempljihcleaadoor", sum := "a75dc229c821864ba8371e22d350858a0929c3db1ee0555e63fee6ddd8a6b77b", func := "breviary/breviarylaw04.FigureBack", spec := "figureBack", inPlace := ["internal/abi.NoEscape", "internal/bytealg.MakeNoZero"], unfollowed := true, recurses := true, named := ["unicode/utf8.first", "unicode/utf8.acceptRanges"], apart := false, laid := [("unicode/utf8.acceptRanges", laid_unicode_utf8_acceptRanges), ("unicode/utf8.first", laid_unicode_utf8_first)], narrowed := true }
def FigureBackUptoSaid : Prop := figureBackUptoRow.holds Tryd.pinned (OpenSpec.upto figureBackSpec)

/-- 'breviarylaw04.FigureAgain', WHERE WHAT IT READS IS OF BULK AT MOST 1048576: true; the input reads as it did. -/
def figureAgainUptoRow : OpenClaim := { program := "ytgfempljihcleaadoor", sum := "a75dc229c821864ba8371e22d350858a0929c3db1ee0555e63fee6ddd8a6b77b", func := "breviary/breviarylaw04.FigureAgain", spec := "figureAgain", inPlace := ["internal/abi.NoEscape", "internal/bytealg.MakeNoZero"], unfollowed := true, recurses := true, named := ["unicode/utf8.first", "unicode/utf8.acceptRanges"], apart := false, laid := [("unicode/utf8.acceptRanges", laid_unicode_utf8_acceptRanges), ("unicode/utf8.first", laid_unicode_utf8_first)], narrowed := true }
def FigureAgainUptoSaid : Prop := figureAgainUptoRow.holds Tryd.pinned (OpenSpec.upto figureAgainSpec)

/-- 'breviarylaw04.FigureOne', WHERE WHAT IT READS IS OF BULK AT MOST 1048576: true; the input reads as it did. -/
def figureOneUptoRow : OpenClaim := { program := "ytgfempljihcleaadoor", sum := "a75dc229c821864ba8371e22d350858a0929c3db1ee0555e63fee6ddd8a6b77b", func := "breviary/breviarylaw04.FigureOne", spec := "figureOne", inPlace := ["internal/abi.NoEscape", "internal/bytealg.MakeNoZero"], unfollowed := true, recurses := true, named := ["unicode/utf8.first", "unicode/utf8.acceptRanges"], apart := false, laid := [("unicode/utf8.acceptRanges", laid_unicode_utf8_acceptRanges), ("unicode/utf8.first", laid_unicode_utf8_first)], narrowed := true }
def FigureOneUptoSaid : Prop := figureOneUptoRow.holds Tryd.pinned (OpenSpec.upto figureOneSpec)

end Rows
end Go.Proofs.YtgfempljihcleaaDoor
