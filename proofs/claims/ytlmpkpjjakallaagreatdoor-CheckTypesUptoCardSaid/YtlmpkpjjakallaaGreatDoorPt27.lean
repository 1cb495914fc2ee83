import Derived.Test.YtlmpkpjjakallaaGreatDoorPt11
namespace Go.Proofs.YtlmpkpjjakallaaGreatDoor
namespace Char
open Go.RowKit Go.Lib
theorem cells7 {W:World}{p:Nat}{a b c d e f g:Value}{T:TypeId}(h:W.heap[p]? =some (.cells #[a,b,c,d,e,f,g] T (0,0))):(W.cell? ⟨p,0,none⟩=some a∧W.cell? ⟨p,1,none⟩=some b∧W.cell? ⟨p,2,none⟩=some c∧W.cell? ⟨p,3,none⟩=some d∧W.cell? ⟨p,4,none⟩=some e∧W.cell? ⟨p,5,none⟩=some f∧W.cell? ⟨p,6,none⟩=some g)∧True:=by
 refine⟨⟨?_,?_,?_,?_,?_,?_,?_⟩,trivial⟩<;>simp[World.cell?,h]
structure RtK (w:World)(S:ByteArray)(tg vl:Int)(ok os:Option Addr)(nk jk ns js:Nat)(qA qS qN qL qD:Bool):Prop where
 a:∀W,Below w.heap.size w W→Calls Tryz.prog 36 #[.slice ok nk jk] W fun e w'=>e= .returned (.bool qA)∧Below W.heap.size W w'
 s:∀W,Below w.heap.size w W→Calls Tryz.prog 37 #[.slice os ns js] W fun e w'=>e= .returned (.bool qS)∧Below W.heap.size W w'
 n:∀W,Calls Tryz.prog 38 #[.string S] W fun e w'=>e= .returned (.bool qN)∧Below W.heap.size W w'
 l:∀W,Calls Tryz.prog 39 #[.string S] W fun e w'=>e= .returned (.bool qL)∧Below W.heap.size W w'
 d:∀W,Calls Tryz.prog 40 #[.agg #[.int .i64 tg,.int .i64 vl]] W fun e w'=>e= .returned (.bool qD)∧Below W.heap.size W w'
end Char
end Go.Proofs.YtlmpkpjjakallaaGreatDoor
