/- The walk of the law EscPuts. -/
import Derived.Test.YtffbooapdlpocaaDoorLaws5
namespace Go.Proofs.YtffbooapdlpocaaDoor.Char
open Go.RowKit Go.Lib

set_option maxRecDepth 100000 in
set_option maxHeartbeats 8000000 in
theorem puts_law (s : ByteArray) (w : World) (hG : Gl w) :
    Calls Tryd.prog 3 #[.string s] w fun e w' => e = .returned (.bool true) ∧ Below w.heap.size w w' := by
  obtain ⟨l, rfl⟩ : ∃ l, s = bs l := ⟨s.data.toList, (bs_of s).symm⟩
  have hsz := bs_size l
  have HG := Lib.hid hG
  have CW := fun W hW => Lib.hid (works_any W hW)
  clear hG
  by_cases hl : l.length ≤ 2000
  · have C1 := fun W => Lib.hid (Put_any l W hl)
    have C2 := fun W => Lib.hid (refPut_any l false W hl)
    have C3 := fun W => Lib.hid (PutAttr_any l W hl)
    have C4 := fun W => Lib.hid (refPut_any l true W hl)
    generalize bs (putL false l) = A at *
    generalize bs (putL true l) = B at *
    go_enter Tryd.func3, Tryd.ntmps3
    go_wp2_with fail
    refine (C1 _).out.mono ?_
    rintro e w1 ⟨rfl, h1⟩
    go_wp2_with fail
    refine (C2 _).out.mono ?_
    rintro e w2 ⟨rfl, rfl⟩
    go_wp2_with fail
    refine (C3 _).out.mono ?_
    rintro e w3 ⟨rfl, h3⟩
    have b3 := h1.trans (h3.mono h1.size)
    go_wp2_with fail
    refine (C4 _).out.mono ?_
    rintro e w4 ⟨rfl, rfl⟩
    go_wp2_with fail
    refine (CW _ (HG.out.below b3)).out.mono ?_
    rintro e w5 ⟨rfl, h5⟩
    go_wp2_with fail
    go_ret
    exact ⟨rfl, b3.trans (h5.mono b3.size)⟩
  · go_enter Tryd.func3, Tryd.ntmps3
    go_wp2_with fail
    refine (CW _ HG.out).out.mono ?_
    rintro e w1 ⟨rfl, h1⟩
    go_wp2_with fail
    go_ret
    exact ⟨rfl, h1⟩
end Go.Proofs.YtffbooapdlpocaaDoor.Char
