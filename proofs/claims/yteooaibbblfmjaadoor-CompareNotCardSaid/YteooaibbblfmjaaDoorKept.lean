/- A region that draws its order, over worlds that keep what lay below: its loads read what they read, its calls make memory. -/
import Derived.Test.YteooaibbblfmjaaDoorProg
import Derived.WalkKit
import Derived.Below
import Derived.Lib.Hide
import Derived.Deep.QuietTactic
import Derived.BigQuiet
namespace Go.Proofs.YteooaibbblfmjaaDoor.Char
open Go.RowKit

/-- the worlds that keep what lay below -/
def KeptT (w : World) : Type := { W : World // Below w.heap.size w W }
def KeptT.at {w : World} (q : KeptT w) : World := q.1
theorem KeptT.ok {w : World} (q : KeptT w) : Below w.heap.size w q.at := q.2
theorem KeptT.on {w W' : World} (q : KeptT w) (h : Below q.at.heap.size q.at W') : ∃ q' : KeptT w, W' = q'.at := ⟨⟨W', q.ok.trans (h.mono q.ok.size)⟩, rfl⟩
theorem KeptT.cell {w : World} (q : KeptT w) {g o : Nat} {v : Value} (h : w.cell? ⟨g, o, none⟩ = some v) (hg : g < w.heap.size) : q.at.cell? ⟨g, o, none⟩ = some v := (q.ok.cell (p := ⟨g, o, none⟩) hg).trans h
/-- a region that draws its order, over worlds that keep what lay below -/
theorem wp_region_kept {P : Program} {id : Nat} {Q : Exit → Act → World → Prop} {a : Act} {w : World} {l : List Oper} (T : Type) (f : T → World) (hm : P.follows .mixedOrders = true) (hB : Region.lexB .any l.toArray = true)
    (h0 : ∃ q : T, w.drew = f q) (h : wpQuiet P l.toArray (fun w' => ∃ q : T, w' = f q) (fun a' => ∀ w', (∃ q : T, w' = f q) → Q .normal a' w') l a) : (Code.region id l.toArray true).wp P Q a w :=
  wp_region_quiet (C := fun w' => ∃ q : T, w' = f q) hm hB h0 (by simpa using h)
end Go.Proofs.YteooaibbblfmjaaDoor.Char
