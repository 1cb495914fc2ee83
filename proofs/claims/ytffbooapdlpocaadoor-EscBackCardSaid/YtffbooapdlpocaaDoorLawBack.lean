/- The walk of the law EscBack. -/
import Derived.Test.YtffbooapdlpocaaDoorLaws5
namespace Go.Proofs.YtffbooapdlpocaaDoor.Char
open Go.RowKit Go.Lib

theorem get_back (attr : Bool) (l : List UInt8) : getD5 attr (putL attr l) = if txD l then (l, 0) else ([], 10) := by
  have h : txD (putL attr l) = txD l := txL_put attr _ l (Nat.le_refl _)
  unfold getD5 getF
  rw [h, get_put attr l []]
  rfl

set_option maxRecDepth 100000 in
set_option maxHeartbeats 8000000 in
theorem back_law (s : ByteArray) (w : World) (hG : Gl w) :
    Calls Tryd.prog 5 #[.string s] w fun e w' => e = .returned (.bool true) ∧ Below w.heap.size w w' := by
  obtain ⟨l, rfl⟩ : ∃ l, s = bs l := ⟨s.data.toList, (bs_of s).symm⟩
  have hsz := bs_size l
  have HG := Lib.hid hG
  have CW := fun W hW => Lib.hid (works_any W hW)
  clear hG
  by_cases hl : l.length ≤ 2000
  · have hp0 := putL_le false l
    have hp1 := putL_le true l
    have c1 := fun W => Put_any l W hl
    have c3 := fun W => PutAttr_any l W hl
    have c2 := fun W hW => Get_any (putL false l) W (by omega) hW
    have c4 := fun W hW => GetAttr_any (putL true l) W (by omega) hW
    have hT : ∀ W, Calls Tryd.prog 14 #[.string (bs l)] W fun e w' => e = .returned (.bool (txD l)) ∧ Below W.heap.size W w' := fun W => refText_any (bs l) W (by omega)
    rw [get_back] at c2 c4
    clear hp0 hp1
    generalize bs (putL false l) = A at *
    generalize bs (putL true l) = B at *
    cases htx : txD l with
    | false =>
      rw [htx, if_neg (by simp)] at c2 c4
      rw [htx] at hT
      have C1 := fun W => Lib.hid (c1 W)
      have C2 := fun W hW => Lib.hid (c2 W hW)
      have C3 := fun W => Lib.hid (c3 W)
      have C4 := fun W hW => Lib.hid (c4 W hW)
      have CT := fun W => Lib.hid (hT W)
      have i1 : (bs []).toList = [] := bs_tl []
      have i2 : (bs []).toList.isEmpty = true := by rw [i1]; rfl
      clear c1 c2 c3 c4 hT htx
      go_enter Tryd.func5, Tryd.ntmps5
      go_wp2_with fail
      refine (C1 _).out.mono ?_
      rintro e w1 ⟨rfl, h1⟩
      have G1 := Lib.hid (HG.out.below h1)
      go_wp2_with fail
      refine (C2 _ G1.out).out.mono ?_
      rintro e w2 ⟨rfl, h2⟩
      have G2 := Lib.hid (G1.out.below h2)
      have b2 := h1.trans (h2.mono h1.size)
      clear h1 h2 C1 C2 G1
      go_wp2_with fail
      refine (C3 _).out.mono ?_
      rintro e w3 ⟨rfl, h3⟩
      have G3 := Lib.hid (G2.out.below h3)
      have b3 := b2.trans (h3.mono b2.size)
      clear h3 C3 G2 b2
      go_wp2_with fail
      refine (C4 _ G3.out).out.mono ?_
      rintro e w4 ⟨rfl, h4⟩
      have G4 := Lib.hid (G3.out.below h4)
      have b4 := b3.trans (h4.mono b3.size)
      clear h4 C4 G3 b3
      go_wp2_with fail
      refine (CT _).out.mono ?_
      rintro e w5 ⟨rfl, h5⟩
      have G5 := Lib.hid (G4.out.below h5)
      have b5 := b4.trans (h5.mono b4.size)
      clear h5 CT G4 b4
      go_wp2_with fail
      refine (CW _ G5.out).out.mono ?_
      rintro e w6 ⟨rfl, h6⟩
      go_wp2_with fail
      go_ret
      exact ⟨rfl, b5.trans (h6.mono b5.size)⟩
    | true =>
      rw [htx, if_pos rfl] at c2 c4
      rw [htx] at hT
      have C1 := fun W => Lib.hid (c1 W)
      have C2 := fun W hW => Lib.hid (c2 W hW)
      have C3 := fun W => Lib.hid (c3 W)
      have C4 := fun W hW => Lib.hid (c4 W hW)
      have CT := fun W => Lib.hid (hT W)
      clear c1 c2 c3 c4 hT htx
      go_enter Tryd.func5, Tryd.ntmps5
      go_wp2_with fail
      refine (C1 _).out.mono ?_
      rintro e w1 ⟨rfl, h1⟩
      have G1 := Lib.hid (HG.out.below h1)
      go_wp2_with fail
      refine (C2 _ G1.out).out.mono ?_
      rintro e w2 ⟨rfl, h2⟩
      have G2 := Lib.hid (G1.out.below h2)
      have b2 := h1.trans (h2.mono h1.size)
      clear h1 h2 C1 C2 G1
      go_wp2_with fail
      refine (C3 _).out.mono ?_
      rintro e w3 ⟨rfl, h3⟩
      have G3 := Lib.hid (G2.out.below h3)
      have b3 := b2.trans (h3.mono b2.size)
      clear h3 C3 G2 b2
      go_wp2_with fail
      refine (C4 _ G3.out).out.mono ?_
      rintro e w4 ⟨rfl, h4⟩
      have G4 := Lib.hid (G3.out.below h4)
      have b4 := b3.trans (h4.mono b3.size)
      clear h4 C4 G3 b3
      go_wp2_with fail
      refine (CT _).out.mono ?_
      rintro e w5 ⟨rfl, h5⟩
      have G5 := Lib.hid (G4.out.below h5)
      have b5 := b4.trans (h5.mono b4.size)
      clear h5 CT G4 b4
      go_wp2_with fail
      refine (CW _ G5.out).out.mono ?_
      rintro e w6 ⟨rfl, h6⟩
      go_wp2_with fail
      go_ret
      exact ⟨rfl, b5.trans (h6.mono b5.size)⟩
  · go_enter Tryd.func5, Tryd.ntmps5
    go_wp2_with fail
    refine (CW _ HG.out).out.mono ?_
    rintro e w1 ⟨rfl, h1⟩
    go_wp2_with fail
    go_ret
    exact ⟨rfl, h1⟩
end Go.Proofs.YtffbooapdlpocaaDoor.Char
