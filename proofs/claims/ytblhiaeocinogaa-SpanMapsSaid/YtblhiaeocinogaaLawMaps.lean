/- The walk of SpanMaps: any characters become others, and any words get one blank between, as the document says; of texts of at most 1000 bytes. -/
import Derived.Test.YtblhiaeocinogaaWorks
import Derived.Test.YtblhiaeocinogaaRefMap
import Derived.Test.YtblhiaeocinogaaNorm
namespace Go.Proofs.Ytblhiaeocinogaa.Char
open Go.RowKit

set_option maxRecDepth 100000 in
set_option maxHeartbeats 2000000 in
theorem maps_law (s f t : ByteArray) (w : World) :
    Calls Try.prog 5 #[.string s, .string f, .string t] w fun e w' => e = .returned (.bool true) ∧ Below w.heap.size w w' := by
  go_enter Try.func5, Try.ntmps5
  by_cases hl : 1000 < s.size ∨ 1000 < f.size ∨ 1000 < t.size
  · have fin : ∀ w, Calls Try.prog 8 #[] w fun e w' => e = .returned (.bool true) ∧ Below w.heap.size w w' := works_any
    by_cases h1 : 1000 < s.size
    · go_wp2_with fail
      refine (works_any _).mono ?_
      rintro e w1 ⟨rfl, h1⟩
      go_wp2_with fail
      go_ret
      exact ⟨rfl, h1⟩
    · by_cases h2 : 1000 < f.size
      · go_wp2_with fail
        refine (works_any _).mono ?_
        rintro e w1 ⟨rfl, h1⟩
        go_wp2_with fail
        go_ret
        exact ⟨rfl, h1⟩
      · have h3 : 1000 < t.size := by omega
        go_wp2_with fail
        refine (works_any _).mono ?_
        rintro e w1 ⟨rfl, h1⟩
        go_wp2_with fail
        go_ret
        exact ⟨rfl, h1⟩
  · have h1 : s.size ≤ 1000 := by omega
    have h2 : f.size ≤ 1000 := by omega
    have h3 : t.size ≤ 1000 := by omega
    clear hl
    go_wp2_with fail
    refine (map_any s f t _ (by omega) (by omega) (by omega)).mono ?_
    rintro e w1 ⟨rfl, b1⟩
    go_wp2_with fail
    refine (refMap_any s f t _ (by omega) (by omega) (by omega)).mono ?_
    rintro e w2 ⟨rfl, b2⟩
    generalize mapD s f t = X
    go_wp2_with fail
    refine (norm_any s _ (by omega)).mono ?_
    rintro e w3 ⟨rfl, b3⟩
    go_wp2_with fail
    refine (refNorm_any s _ (by omega)).mono ?_
    rintro e w4 ⟨rfl, rfl⟩
    generalize normB s.data.toList = Y
    go_wp2_with fail
    refine (works_any _).mono ?_
    rintro e w5 ⟨rfl, b5⟩
    go_wp2_with fail
    go_ret
    exact ⟨rfl, b1.trans ((b2.trans ((b3.trans (b5.mono b3.size)).mono b2.size)).mono b1.size)⟩
end Go.Proofs.Ytblhiaeocinogaa.Char
