/- The walk of SpanCuts: any text has as many characters, and any part of it is, as the document says; of texts of at most 3000 bytes. -/
import Derived.Test.YtblhiaeocinogaaWorks
import Derived.Test.YtblhiaeocinogaaRefCut
namespace Go.Proofs.Ytblhiaeocinogaa.Char
open Go.RowKit

set_option maxRecDepth 100000 in
set_option maxHeartbeats 2000000 in
theorem cuts_law (s : ByteArray) (from_ many : Int) (w : World) (hw1 : (Lit.int .i64 from_).wf = true) (hw2 : (Lit.int .i64 many).wf = true) :
    Calls Try.prog 3 #[.string s, .int .i64 from_, .int .i64 many] w fun e w' => e = .returned (.bool true) ∧ Below w.heap.size w w' := by
  have HW1 := Lib.hid hw1
  have HW2 := Lib.hid hw2
  clear hw1 hw2
  go_enter Try.func3, Try.ntmps3
  by_cases hl : 3000 < s.size
  · go_wp2_with fail
    refine (works_any _).mono ?_
    rintro e w1 ⟨rfl, h1⟩
    go_wp2_with fail
    go_ret
    exact ⟨rfl, h1⟩
  · go_wp2_with fail
    refine (len_any s _ (by omega)).mono ?_
    rintro e w1 ⟨rfl, h1⟩
    go_wp2_with fail
    refine (crs_any s w1 (by omega)).mono ?_
    rintro e w2 ⟨v, rfl, ho, h2⟩
    obtain ⟨a, cap, rfl, _⟩ := ho.reads
    clear ho
    go_wp2_with fail
    refine (cut_any s from_ many _ (by omega) HW1.out HW2.out).mono ?_
    rintro e w3 ⟨rfl, h3⟩
    go_wp2_with fail
    refine (refCut_any s from_ many _ (by omega) HW1.out HW2.out).mono ?_
    rintro e w4 ⟨rfl, h4⟩
    generalize cutD s from_ many = X
    go_wp2_with fail
    refine (works_any _).mono ?_
    rintro e w5 ⟨rfl, h5⟩
    go_wp2_with fail
    go_ret
    exact ⟨rfl, h1.trans ((h2.trans ((h3.trans ((h4.trans (h5.mono h4.size)).mono h3.size)).mono h2.size)).mono h1.size)⟩
end Go.Proofs.Ytblhiaeocinogaa.Char
