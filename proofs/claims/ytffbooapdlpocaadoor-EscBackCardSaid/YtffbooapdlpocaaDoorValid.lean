/- Go's own utf8.ValidString at this program: the shelf's contract, laid in plain words, and what it asks of the two tables. -/
import Derived.Test.YtffbooapdlpocaaDoorPlain
import Derived.Test.YtffbooapdlpocaaDoorProg
import Derived.WalkKit
import Derived.Below
import Derived.Shelf.Unicode.ValidAny
import Derived.Lib.LaidU8T
namespace Go.Proofs.YtffbooapdlpocaaDoor.Char
open Go.RowKit Go.Shelf Go.Lib

def validRen : Ren :=
  ⟨fun | 196 => 35 | 259 => 43 | n => n,
   fun | 0 => 0 | 3 => 3 | 4 => 4 | 5 => 5 | 9 => 9 | 12 => 12 | 46 => 82 | 53 => 33 | 119 => 78 | 138 => 80 | 139 => 81 | n => n,
   fun | 3 => 0 | 4 => 1 | n => n⟩
theorem laysValid : Lays.n196 Tryd.prog validRen :=
  {
    mixed := by kernel_rfl,
    f196 := Tryd.func35.trans (congrArg some (by kernel_rfl)),
    f259 := Tryd.func43.trans (congrArg some (by kernel_rfl)),
    t0 := Tryd.underlying0,
    a0 := Tryd.isAgg0,
    z0 := Tryd.sizeOf0,
    v0 := Tryd.zeroValue0,
    t3 := Tryd.underlying3,
    a3 := Tryd.isAgg3,
    z3 := Tryd.sizeOf3,
    v3 := Tryd.zeroValue3,
    t4 := Tryd.underlying4,
    a4 := Tryd.isAgg4,
    z4 := Tryd.sizeOf4,
    v4 := Tryd.zeroValue4,
    t5 := Tryd.underlying5,
    a5 := Tryd.isAgg5,
    z5 := Tryd.sizeOf5,
    v5 := Tryd.zeroValue5,
    t9 := Tryd.underlying9,
    a9 := Tryd.isAgg9,
    z9 := Tryd.sizeOf9,
    v9 := Tryd.zeroValue9,
    t12 := Tryd.underlying12,
    a12 := Tryd.isAgg12,
    z12 := Tryd.sizeOf12,
    v12 := Tryd.zeroValue12,
    t46 := Tryd.underlying82,
    a46 := Tryd.isAgg82,
    z46 := Tryd.sizeOf82,
    v46 := Tryd.zeroValue82,
    t53 := Tryd.underlying33,
    a53 := Tryd.isAgg33,
    z53 := Tryd.sizeOf33,
    v53 := Tryd.zeroValue33,
    t119 := Tryd.underlying78,
    a119 := Tryd.isAgg78,
    z119 := Tryd.sizeOf78,
    t138 := Tryd.underlying80,
    a138 := Tryd.isAgg80,
    z138 := Tryd.sizeOf80,
    v138 := Tryd.zeroValue80,
    t139 := Tryd.underlying81,
    a139 := Tryd.isAgg81,
    z139 := Tryd.sizeOf81,
    v139 := Tryd.zeroValue81,
    g3 := by kernel_rfl,
    g4 := by kernel_rfl }

/-- the two tables of unicode/utf8, as the contract asks them -/
def Tabs (w : World) : Prop := Lib.Utf8Tabs 0 1 w
theorem Tabs.below {w w' : World} (h : Tabs w) (hb : Below w.heap.size w w') : Tabs w' := Utf8Tabs_below h hb

theorem valid_any (s : ByteArray) (w : World) (hs : s.size ≤ 9223372036854775807) (hT : Tabs w) :
    Calls Tryd.prog 35 #[.string s] w fun e w' => e = .returned (.bool (Lib.validD s.data.toList)) ∧ Below w.heap.size w w' :=
  Any.utf8_ValidString laysValid s w hs hT
end Go.Proofs.YtffbooapdlpocaaDoor.Char
