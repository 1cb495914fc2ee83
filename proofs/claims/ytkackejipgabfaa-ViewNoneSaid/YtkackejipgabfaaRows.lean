/-
  NARROWER THAN 'FOR EVERY INPUT', by the rows' own cells (each row's printed sentence says how): ViewOrders: loops · ViewApart: loops · ViewNone: loops · ViewSorts: loops · AxisGoes: loops · AxisParts: loops · AxisTurns: loops.
  DERIVED. THE GIVEN ROWS OF THIS SEAT. 7 by the template 'for every input the law returns true; each argument reads behind the call as it read before'; 0 by the template 'total and deterministic' (their statements: YtkackejipgabfaaTotals.lean).
  GIVEN WITH THE SEED: the statements are not yours to turn. If you find one false, say at which input.
  Laid BY PROGRAM, IN A SANDBOX (cutbox-rows.mjs): the forced cells as the released guide's own fill.sh prints them over the translation b4f77cd9946b7de4… (all of the seat's roots in one cut). By AI agents, Wed Nov 11 2026. No macro, syntax, notation, axiom, sorry.
-/
import Derived.Test.YtkackejipgabfaaChecked
import GoSem.Claim
import GoSem.ClaimJoined
import GoSem.ClaimMapViews
import Derived.JoinedTies
import Derived.KernelRfl
namespace Go.Proofs.Ytkackejipgabfaa
/- THE CELL 'sum', in the pinned program and in every row, IS THE sha256 OF THE DUMP (.gsa) THAT YtkackejipgabfaaProg.lean LOADS. Nothing in Lean hashes anything: it is a label: what it is worth is what the hold of that sum in a sandbox is worth. -/
noncomputable def Try.pinned : Pinned := { name := "ytkackejipgabfaa", sum := "b4f77cd9946b7de4c9c4263018cc1f80a8a0975bb8059e82e2c7f811b56ea2f4", checked := Try.checked }
namespace Rows
def none {H : Type} : Left H := { results := [], args := [] }

/-- 'breviarylaw10.ViewOrders': WHATEVER THE INPUT: true; the input reads as it did. -/
def viewOrdersSpec : ChangeSpec := { name := "viewOrders", fn := fun _ => fun
  | [d1, d2, d3] => { results := [.lit (.bool true)], args := [d1, d2, d3] }
  | _ => none }
def viewOrdersRow : OpenClaim := { program := "ytkackejipgabfaa", sum := "b4f77cd9946b7de4c9c4263018cc1f80a8a0975bb8059e82e2c7f811b56ea2f4", func := "breviary/breviarylaw10.ViewOrders", spec := "viewOrders", inPlace := ["internal/abi.NoEscape"], unfollowed := true, recurses := true, loops := true, apart := false }
def ViewOrdersSaid : Prop := viewOrdersRow.holds Try.pinned (OpenSpec.ofChange viewOrdersSpec)

/-- ITS FALSE NEIGHBOUR: 'it returns false'. Refute it at one input. -/
def viewOrdersWrong : ChangeSpec := { name := "viewOrders", fn := fun _ => fun
  | [d1, d2, d3] => { results := [.lit (.bool false)], args := [d1, d2, d3] }
  | _ => none }
def ViewOrdersWrongFalsely : Prop := viewOrdersRow.holds Try.pinned (OpenSpec.ofChange viewOrdersWrong)

/-- 'breviarylaw10.ViewApart': WHATEVER THE INPUT: true; the input reads as it did. -/
def viewApartSpec : ChangeSpec := { name := "viewApart", fn := fun _ => fun
  | [d1, d2] => { results := [.lit (.bool true)], args := [d1, d2] }
  | _ => none }
def viewApartRow : OpenClaim := { program := "ytkackejipgabfaa", sum := "b4f77cd9946b7de4c9c4263018cc1f80a8a0975bb8059e82e2c7f811b56ea2f4", func := "breviary/breviarylaw10.ViewApart", spec := "viewApart", inPlace := ["internal/abi.NoEscape"], unfollowed := true, recurses := true, loops := true, apart := false }
def ViewApartSaid : Prop := viewApartRow.holds Try.pinned (OpenSpec.ofChange viewApartSpec)

/-- ITS FALSE NEIGHBOUR: 'it returns false'. Refute it at one input. -/
def viewApartWrong : ChangeSpec := { name := "viewApart", fn := fun _ => fun
  | [d1, d2] => { results := [.lit (.bool false)], args := [d1, d2] }
  | _ => none }
def ViewApartWrongFalsely : Prop := viewApartRow.holds Try.pinned (OpenSpec.ofChange viewApartWrong)

/-- 'breviarylaw10.ViewNone': WHATEVER THE INPUT: true; the input reads as it did. -/
def viewNoneSpec : ChangeSpec := { name := "viewNone", fn := fun _ => fun
  | [d] => { results := [.lit (.bool true)], args := [d] }
  | _ => none }
def viewNoneRow : OpenClaim := { program := "ytkackejipgabfaa", sum := "b4f77cd9946b7de4c9c4263018cc1f80a8a0975bb8059e82e2c7f811b56ea2f4", func := "breviary/breviarylaw10.ViewNone", spec := "viewNone", inPlace := ["internal/abi.NoEscape"], unfollowed := true, recurses := true, loops := true, apart := false }
def ViewNoneSaid : Prop := viewNoneRow.holds Try.pinned (OpenSpec.ofChange viewNoneSpec)

/-- ITS FALSE NEIGHBOUR: 'it returns false'. Refute it at one input. -/
def viewNoneWrong : ChangeSpec := { name := "viewNone", fn := fun _ => fun
  | [d] => { results := [.lit (.bool false)], args := [d] }
  | _ => none }
def ViewNoneWrongFalsely : Prop := viewNoneRow.holds Try.pinned (OpenSpec.ofChange viewNoneWrong)

/-- 'breviarylaw10.ViewSorts': WHATEVER THE INPUT: true; the input reads as it did. -/
def viewSortsSpec : ChangeSpec := { name := "viewSorts", fn := fun _ => fun
  | [d1, d2, d3] => { results := [.lit (.bool true)], args := [d1, d2, d3] }
  | _ => none }
def viewSortsRow : OpenClaim := { program := "ytkackejipgabfaa", sum := "b4f77cd9946b7de4c9c4263018cc1f80a8a0975bb8059e82e2c7f811b56ea2f4", func := "breviary/breviarylaw10.ViewSorts", spec := "viewSorts", inPlace := ["internal/abi.NoEscape"], unfollowed := true, recurses := true, loops := true, apart := false }
def ViewSortsSaid : Prop := viewSortsRow.holds Try.pinned (OpenSpec.ofChange viewSortsSpec)

/-- ITS FALSE NEIGHBOUR: 'it returns false'. Refute it at one input. -/
def viewSortsWrong : ChangeSpec := { name := "viewSorts", fn := fun _ => fun
  | [d1, d2, d3] => { results := [.lit (.bool false)], args := [d1, d2, d3] }
  | _ => none }
def ViewSortsWrongFalsely : Prop := viewSortsRow.holds Try.pinned (OpenSpec.ofChange viewSortsWrong)

/-- 'breviarylaw11.AxisGoes': WHATEVER THE INPUT: true; the input reads as it did. -/
def axisGoesSpec : ChangeSpec := { name := "axisGoes", fn := fun _ => fun
  | [d1, d2, d3] => { results := [.lit (.bool true)], args := [d1, d2, d3] }
  | _ => none }
def axisGoesRow : OpenClaim := { program := "ytkackejipgabfaa", sum := "b4f77cd9946b7de4c9c4263018cc1f80a8a0975bb8059e82e2c7f811b56ea2f4", func := "breviary/breviarylaw11.AxisGoes", spec := "axisGoes", unfollowed := true, recurses := true, loops := true, apart := false }
def AxisGoesSaid : Prop := axisGoesRow.holds Try.pinned (OpenSpec.ofChange axisGoesSpec)

/-- ITS FALSE NEIGHBOUR: 'it returns false'. Refute it at one input. -/
def axisGoesWrong : ChangeSpec := { name := "axisGoes", fn := fun _ => fun
  | [d1, d2, d3] => { results := [.lit (.bool false)], args := [d1, d2, d3] }
  | _ => none }
def AxisGoesWrongFalsely : Prop := axisGoesRow.holds Try.pinned (OpenSpec.ofChange axisGoesWrong)

/-- 'breviarylaw11.AxisParts': WHATEVER THE INPUT: true; the input reads as it did. -/
def axisPartsSpec : ChangeSpec := { name := "axisParts", fn := fun _ => fun
  | [d1, d2] => { results := [.lit (.bool true)], args := [d1, d2] }
  | _ => none }
def axisPartsRow : OpenClaim := { program := "ytkackejipgabfaa", sum := "b4f77cd9946b7de4c9c4263018cc1f80a8a0975bb8059e82e2c7f811b56ea2f4", func := "breviary/breviarylaw11.AxisParts", spec := "axisParts", unfollowed := true, recurses := true, loops := true, apart := false }
def AxisPartsSaid : Prop := axisPartsRow.holds Try.pinned (OpenSpec.ofChange axisPartsSpec)

/-- ITS FALSE NEIGHBOUR: 'it returns false'. Refute it at one input. -/
def axisPartsWrong : ChangeSpec := { name := "axisParts", fn := fun _ => fun
  | [d1, d2] => { results := [.lit (.bool false)], args := [d1, d2] }
  | _ => none }
def AxisPartsWrongFalsely : Prop := axisPartsRow.holds Try.pinned (OpenSpec.ofChange axisPartsWrong)

/-- 'breviarylaw11.AxisTurns': WHATEVER THE INPUT: true; the input reads as it did. -/
def axisTurnsSpec : ChangeSpec := { name := "axisTurns", fn := fun _ => fun
  | [d1, d2, d3] => { results := [.lit (.bool true)], args := [d1, d2, d3] }
  | _ => none }
def axisTurnsRow : OpenClaim := { program := "ytkackejipgabfaa", sum := "b4f77cd9946b7de4c9c4263018cc1f80a8a0975bb8059e82e2c7f811b56ea2f4", func := "breviary/breviarylaw11.AxisTurns", spec := "axisTurns", unfollowed := true, recurses := true, loops := true, apart := false }
def AxisTurnsSaid : Prop := axisTurnsRow.holds Try.pinned (OpenSpec.ofChange axisTurnsSpec)

/-- ITS FALSE NEIGHBOUR: 'it returns false'. Refute it at one input. -/
def axisTurnsWrong : ChangeSpec := { name := "axisTurns", fn := fun _ => fun
  | [d1, d2, d3] => { results := [.lit (.bool false)], args := [d1, d2, d3] }
  | _ => none }
def AxisTurnsWrongFalsely : Prop := axisTurnsRow.holds Try.pinned (OpenSpec.ofChange axisTurnsWrong)

/- THE SECOND FORM. 'bulk': how many values and letters a reading holds, each counted each time it is reached (what is shared counts as often as it is met; a slice's spare places count too). A statement '..UptoSaid' is the law's where the arguments, and the package variables that the reading takes, are together of bulk at most 1048576: NARROWER than '..Said'. Prove '..Said' where nothing that the law and all that it calls make is longer than what came in: it says more and counts as full. Else prove '..UptoSaid'. A law counts once. -/
mutual
def uptoBulk {H : Type} : DataW H → Nat
  | .lit (.string bytes) => bytes.length + 1
  | .lit _ => 1
  | .nil => 1
  | .ptr d => uptoBulk d + 1
  | .slice elems spare => uptoBulkAll elems + uptoBulkAll spare + 1
  | .agg parts => uptoBulkAll parts + 1
  | .iface _ d => uptoBulk d + 1
  | .map entries => uptoBulkEntries entries + 1
  | .held _ => 1
def uptoBulkAll {H : Type} : List (DataW H) → Nat
  | [] => 0
  | d :: r => uptoBulk d + uptoBulkAll r
def uptoBulkEntries {H : Type} : List (Lit × DataW H) → Nat
  | [] => 0
  | x :: r => uptoBulkEntry x + uptoBulkEntries r
def uptoBulkEntry {H : Type} : Lit × DataW H → Nat
  | (.string bytes, d) => bytes.length + uptoBulk d + 1
  | (_, d) => uptoBulk d + 1
 end
def uptoSmall : (H : Type) → List (DataW H) → Bool := fun _ ds => decide (uptoBulkAll ds ≤ 1048576)
def OpenSpec.upto (s : _root_.Go.ChangeSpec) : _root_.Go.OpenSpec := { _root_.Go.OpenSpec.ofChange s with cond := some uptoSmall }

/-- 'breviarylaw10.ViewOrders', WHERE WHAT IT READS IS OF BULK AT MOST 1048576: true; the input reads as it did. -/
def viewOrdersUptoRow : OpenClaim := { program := "ytkackejipgabfaa", sum := "b4f77cd9946b7de4c9c4263018cc1f80a8a0975bb8059e82e2c7f811b56ea2f4", func := "breviary/breviarylaw10.ViewOrders", spec := "viewOrders", inPlace := ["internal/abi.NoEscape"], unfollowed := true, recurses := true, loops := true, apart := false, narrowed := true }
def ViewOrdersUptoSaid : Prop := viewOrdersUptoRow.holds Try.pinned (OpenSpec.upto viewOrdersSpec)

/-- 'breviarylaw10.ViewApart', WHERE WHAT IT READS IS OF BULK AT MOST 1048576: true; the input reads as it did. -/
def viewApartUptoRow : OpenClaim := { program := "ytkackejipgabfaa", sum := "b4f77cd9946b7de4c9c4263018cc1f80a8a0975bb8059e82e2c7f811b56ea2f4", func := "breviary/breviarylaw10.ViewApart", spec := "viewApart", inPlace := ["internal/abi.NoEscape"], unfollowed := true, recurses := true, loops := true, apart := false, narrowed := true }
def ViewApartUptoSaid : Prop := viewApartUptoRow.holds Try.pinned (OpenSpec.upto viewApartSpec)

/-- 'breviarylaw10.ViewNone', WHERE WHAT IT READS IS OF BULK AT MOST 1048576: true; the input reads as it did. -/
def viewNoneUptoRow : OpenClaim := { program := "ytkackejipgabfaa", sum := "b4f77cd9946b7de4c9c4263018cc1f80a8a0975bb8059e82e2c7f811b56ea2f4", func := "breviary/breviarylaw10.ViewNone", spec := "viewNone", inPlace := ["internal/abi.NoEscape"], unfollowed := true, recurses := true, loops := true, apart := false, narrowed := true }
def ViewNoneUptoSaid : Prop := viewNoneUptoRow.holds Try.pinned (OpenSpec.upto viewNoneSpec)

/-- 'breviarylaw10.ViewSorts', WHERE WHAT IT READS IS OF BULK AT MOST 1048576: true; the input reads as it did. -/
def viewSortsUptoRow : OpenClaim := { program := "ytkackejipgabfaa", sum := "b4f77cd9946b7de4c9c4263018cc1f80a8a0975bb8059e82e2c7f811b56ea2f4", func := "breviary/breviarylaw10.ViewSorts", spec := "viewSorts", inPlace := ["internal/abi.NoEscape"], unfollowed := true, recurses := true, loops := true, apart := false, narrowed := true }
def ViewSortsUptoSaid : Prop := viewSortsUptoRow.holds Try.pinned (OpenSpec.upto viewSortsSpec)

/-- 'breviarylaw11.AxisGoes', WHERE WHAT IT READS IS OF BULK AT MOST 1048576: true; the input reads as it did. -/
def axisGoesUptoRow : OpenClaim := { program := "ytkackejipgabfaa", sum := "b4f77cd9946b7de4c9c4263018cc1f80a8a0975bb8059e82e2c7f811b56ea2f4", func := "breviary/breviarylaw11.AxisGoes", spec := "axisGoes", unfollowed := true, recurses := true, loops := true, apart := false, narrowed := true }
def AxisGoesUptoSaid : Prop := axisGoesUptoRow.holds Try.pinned (OpenSpec.upto axisGoesSpec)

/-- 'breviarylaw11.AxisParts', WHERE WHAT IT READS IS OF BULK AT MOST 1048576: true; the input reads as it did. -/
def axisPartsUptoRow : OpenClaim := { program := "ytkackejipgabfaa", sum := "b4f77cd9946b7de4c9c4263018cc1f80a8a0975bb8059e82e2c7f811b56ea2f4", func := "breviary/breviarylaw11.AxisParts", spec := "axisParts", unfollowed := true, recurses := true, loops := true, apart := false, narrowed := true }
def AxisPartsUptoSaid : Prop := axisPartsUptoRow.holds Try.pinned (OpenSpec.upto axisPartsSpec)

/-- 'breviarylaw11.AxisTurns', WHERE WHAT IT READS IS OF BULK AT MOST 1048576: true; the input reads as it did. -/
def axisTurnsUptoRow : OpenClaim := { program := "ytkackejipgabfaa", sum := "b4f77cd9946b7de4c9c4263018cc1f80a8a0975bb8059e82e2c7f811b56ea2f4", func := "breviary/breviarylaw11.AxisTurns", spec := "axisTurns", unfollowed := true, recurses := true, loops := true, apart := false, narrowed := true }
def AxisTurnsUptoSaid : Prop := axisTurnsUptoRow.holds Try.pinned (OpenSpec.upto axisTurnsSpec)

end Rows
end Go.Proofs.Ytkackejipgabfaa
