/- The walk of 'characters work'. -/
import Derived.Test.YtblhiaeocinogaaLen
import Derived.Test.YtblhiaeocinogaaCut
import Derived.Test.YtblhiaeocinogaaMap
namespace Go.Proofs.Ytblhiaeocinogaa.Char
open Go.RowKit

theorem w_len : (crs ⟨#[230, 151, 165, 230, 156, 172]⟩).length = 2 := by decide +kernel
theorem w_cut : cutD ⟨#[97, 98, 99, 100]⟩ 1 2 = [98, 99] := by decide +kernel
theorem w_map : mapD ⟨#[98, 97, 114]⟩ ⟨#[97, 98, 99]⟩ ⟨#[65, 66]⟩ = [66, 65, 114] := by decide +kernel

set_option maxRecDepth 100000 in
set_option maxHeartbeats 2000000 in
theorem works_any (w : World) : Calls Try.prog 8 #[] w fun e w' => e = .returned (.bool true) ∧ Below w.heap.size w w' := by
  go_enter Try.func8, Try.ntmps8
  go_wp2_with fail
  refine (len_any _ _ (by decide)).mono ?_
  rintro e w1 ⟨rfl, h1⟩
  rw [w_len]
  go_wp2_with fail
  refine (cut_any _ 1 2 _ (by decide) (by decide) (by decide)).mono ?_
  rintro e w2 ⟨rfl, h2⟩
  rw [w_cut]
  go_wp2_with fail
  refine (map_any _ _ _ _ (by decide) (by decide) (by decide)).mono ?_
  rintro e w3 ⟨rfl, h3⟩
  rw [w_map]
  go_wp2_with fail
  go_ret
  exact ⟨rfl, h1.trans ((h2.trans (h3.mono h2.size)).mono h1.size)⟩
end Go.Proofs.Ytblhiaeocinogaa.Char
