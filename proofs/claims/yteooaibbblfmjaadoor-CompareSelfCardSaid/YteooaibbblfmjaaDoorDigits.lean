/- The walks of the document's own Digits, unit, plus. -/
import Derived.Test.YteooaibbblfmjaaDoorLeast
namespace Go.Proofs.YteooaibbblfmjaaDoor.Char
open Go.RowKit

/-- what a function leaves that makes a number: a slice of the call's own that holds its digits -/
def NumPost (w : World) (n : Nat) (e : Ending) (w' : World) : Prop := ∃ v, e = .returned v ∧ Holds w' v (dg n) ∧ Fresh w.heap.size v ∧ Below w.heap.size w w'

end Go.Proofs.YteooaibbblfmjaaDoor.Char
