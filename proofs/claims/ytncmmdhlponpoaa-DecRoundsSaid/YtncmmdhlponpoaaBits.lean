/- The shelf's own contracts of math/bits at a seat's numbers: Mul64, LeadingZeros64. -/
import Derived.Shelf.Bits.Mul64
import Derived.Shelf.Small.Bits
import Derived.Test.YtncmmdhlponpoaaProg
namespace Go.Proofs.Ytncmmdhlponpoaa.Char
open Go.Shelf Go.RowKit

def layMulRen : Go.Shelf.Ren := ⟨fun | 264 => 61 | n => n, fun | 46 => 62 | 53 => 54 | n => n, fun n => n⟩
theorem layMul : Lays.n264 Try.prog layMulRen := {
  mixed := by kernel_rfl
  f264 := Try.func61.trans (congrArg some (by kernel_rfl))
  t46 := Try.underlying62
  a46 := Try.isAgg62
  z46 := Try.sizeOf62
  v46 := Try.zeroValue62
  t53 := Try.underlying54
  a53 := Try.isAgg54
  z53 := Try.sizeOf54
  v53 := Try.zeroValue54 }
def layLzRen : Go.Shelf.Ren := ⟨fun | 129 => 64 | 134 => 63 | n => n, fun | 3 => 3 | 4 => 4 | 5 => 5 | 9 => 9 | 46 => 62 | 53 => 54 | n => n, fun n => n⟩
theorem layLz : Lays.n134 Try.prog layLzRen := {
  mixed := by kernel_rfl
  f129 := Try.func64.trans (congrArg some (by kernel_rfl))
  f134 := Try.func63.trans (congrArg some (by kernel_rfl))
  t3 := Try.underlying3
  a3 := Try.isAgg3
  z3 := Try.sizeOf3
  v3 := Try.zeroValue3
  t4 := Try.underlying4
  a4 := Try.isAgg4
  z4 := Try.sizeOf4
  v4 := Try.zeroValue4
  t5 := Try.underlying5
  a5 := Try.isAgg5
  z5 := Try.sizeOf5
  v5 := Try.zeroValue5
  t9 := Try.underlying9
  a9 := Try.isAgg9
  z9 := Try.sizeOf9
  v9 := Try.zeroValue9
  t46 := Try.underlying62
  a46 := Try.isAgg62
  z46 := Try.sizeOf62
  v46 := Try.zeroValue62
  t53 := Try.underlying54
  a53 := Try.isAgg54
  z53 := Try.sizeOf54
  v53 := Try.zeroValue54 }
--TAIL
end Go.Proofs.Ytncmmdhlponpoaa.Char
