/- The walks of 'references go', of the laws EscPuts, EscGets. -/
import Derived.Test.YtffbooapdlpocaaDoorPut
import Derived.Test.YtffbooapdlpocaaDoorRefGetW
import Derived.Test.YtffbooapdlpocaaDoorKept
namespace Go.Proofs.YtffbooapdlpocaaDoor.Char
open Go.RowKit Go.Lib

theorem w_get : getD5 false [38, 35, 54, 53, 59, 38, 35, 120, 52, 50, 59, 38, 108, 116, 59] = ([65, 66, 60], 0) := by decide +kernel
theorem w_put : putL false [97, 60, 98] = [97, 38, 108, 116, 59, 98] := by decide

set_option maxRecDepth 100000 in
set_option maxHeartbeats 2000000 in
theorem works_any (w : World) (hG : Gl w) : Calls Tryd.prog 7 #[] w fun e w' => e = .returned (.bool true) ∧ Below w.heap.size w w' := by
  have CG := fun W (hW : Gl W) => Get_any [38, 35, 54, 53, 59, 38, 35, 120, 52, 50, 59, 38, 108, 116, 59] W (by simp) hW
  have CP := fun W => Put_any [97, 60, 98] W (by simp)
  rw [w_get] at CG
  rw [w_put] at CP
  have C1 : ∀ W, Gl W → Hid (Calls Tryd.prog 11 #[.string ⟨#[38, 35, 54, 53, 59, 38, 35, 120, 52, 50, 59, 38, 108, 116, 59]⟩] W fun e w' => e = .returned (.tuple #[.string ⟨#[65, 66, 60]⟩, .int .i64 0]) ∧ Below W.heap.size W w') := fun W hW => Lib.hid (CG W hW)
  have C2 : ∀ W, Hid (Calls Tryd.prog 8 #[.string ⟨#[97, 60, 98]⟩] W fun e w' => e = .returned (.string ⟨#[97, 38, 108, 116, 59, 98]⟩) ∧ Below W.heap.size W w') := fun W => Lib.hid (CP W)
  have HG := Lib.hid hG
  clear CG CP hG
  go_enter Tryd.func7, Tryd.ntmps7
  go_wp2_with fail
  refine (C1 _ HG.out).out.mono ?_
  rintro e w1 ⟨rfl, h1⟩
  go_wp2_with fail
  refine (C2 _).out.mono ?_
  rintro e w2 ⟨rfl, h2⟩
  go_wp2_with fail
  go_ret
  exact ⟨rfl, h1.trans (h2.mono h1.size)⟩

set_option maxRecDepth 100000 in
set_option maxHeartbeats 8000000 in
theorem gets_law (s : ByteArray) (w : World) (hG : Gl w) :
    Calls Tryd.prog 4 #[.string s] w fun e w' => e = .returned (.bool true) ∧ Below w.heap.size w w' := by
  obtain ⟨l, rfl⟩ : ∃ l, s = bs l := ⟨s.data.toList, (bs_of s).symm⟩
  have hsz := bs_size l
  have HG := Lib.hid hG
  have CW := fun W hW => Lib.hid (works_any W hW)
  clear hG
  by_cases hl : l.length ≤ 2000
  · have C1 := fun W hW => Lib.hid (Get_any l W (by omega) hW)
    have C2 := fun W => Lib.hid (refGet_any l false W hl)
    have C3 := fun W hW => Lib.hid (GetAttr_any l W (by omega) hW)
    have C4 := fun W => Lib.hid (refGet_any l true W hl)
    generalize getD5 false l = A at *
    generalize getD5 true l = B at *
    obtain ⟨A1, A2⟩ := A
    obtain ⟨B1, B2⟩ := B
    dsimp only at C1 C2 C3 C4
    go_enter Tryd.func4, Tryd.ntmps4
    go_wp2_with fail
    refine (C1 _ HG.out).out.mono ?_
    rintro e w1 ⟨rfl, h1⟩
    have G1 := Lib.hid (HG.out.below h1)
    clear C1
    go_wp2_with fail
    refine (C2 _).out.mono ?_
    rintro e w2 ⟨rfl, h2⟩
    have G2 := Lib.hid (G1.out.below h2)
    clear C2
    go_wp2_with fail
    refine (C3 _ G2.out).out.mono ?_
    rintro e w3 ⟨rfl, h3⟩
    have G3 := Lib.hid (G2.out.below h3)
    clear C3
    go_wp2_with fail
    refine (C4 _).out.mono ?_
    rintro e w4 ⟨rfl, h4⟩
    have G4 := Lib.hid (G3.out.below h4)
    clear C4
    go_wp2_with fail
    refine (CW _ G4.out).out.mono ?_
    rintro e w5 ⟨rfl, h5⟩
    go_wp2_with fail
    go_ret
    exact ⟨rfl, ((((h1.trans (h2.mono h1.size)).trans (h3.mono (Nat.le_trans h1.size h2.size))).trans (h4.mono (Nat.le_trans (Nat.le_trans h1.size h2.size) h3.size))).trans (h5.mono (Nat.le_trans (Nat.le_trans (Nat.le_trans h1.size h2.size) h3.size) h4.size)))⟩
  · go_enter Tryd.func4, Tryd.ntmps4
    go_wp2_with fail
    refine (CW _ HG.out).out.mono ?_
    rintro e w1 ⟨rfl, h1⟩
    go_wp2_with fail
    go_ret
    exact ⟨rfl, h1⟩
end Go.Proofs.YtffbooapdlpocaaDoor.Char
