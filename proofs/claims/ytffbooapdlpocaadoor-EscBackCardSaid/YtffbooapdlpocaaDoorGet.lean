/- The walks of esc's get, Get, GetAttr. -/
import Derived.Test.YtffbooapdlpocaaDoorMeant
import Derived.Test.YtffbooapdlpocaaDoorBackM
namespace Go.Proofs.YtffbooapdlpocaaDoor.Char
open Go.RowKit Go.Lib Go.Shelf

/-- Get: the text, and the error -/
def getD5 (attr : Bool) (l : List UInt8) : List UInt8 × Nat := getF attr l (txD l)
theorem get_no {attr : Bool} {l : List UInt8} (h : txD l = false) : getD5 attr l = ([], 10) := by unfold getD5 getF; rw [h]; rfl
theorem get_yes {attr : Bool} {l : List UInt8} (h : txD l = true) : getD5 attr l = gL attr [] l := by unfold getD5 getF; rw [h]; rfl

set_option maxRecDepth 100000 in
set_option maxHeartbeats 4000000 in
theorem get_any (attr : Bool) (tb en : UInt8) (ht : tb = if attr then 32 else 9) (he : en = if attr then 32 else 10) (l : List UInt8) (w : World) (hl : l.length ≤ 100000) (hG : Gl w) :
    Calls Tryd.prog 20 #[.string (bs l), .int .u8 (tb.toNat : Int), .int .u8 (en.toNat : Int)] w
      fun e w' => e = .returned (.tuple #[.string (bs (getD5 attr l).1), .int .i64 ((getD5 attr l).2 : Int)]) ∧ Below w.heap.size w w' := by
  have hs := bs_size l
  have hT : Calls Tryd.prog 27 #[.string (bs l)] w fun e w' => e = .returned (.bool (txD l)) ∧ Below w.heap.size w w' := text_any (bs l) w (by omega) hG.1
  have HGL := Lib.hid hG
  have HT := Lib.hid ht
  have HE := Lib.hid he
  obtain ⟨G, hGd⟩ : ∃ G, getD5 attr l = G := ⟨_, rfl⟩
  rw [hGd]
  clear hG ht he hs
  cases htx : txD l with
  | false =>
    rw [htx] at hT
    have HTX := Lib.hid hT
    have HEND := Lib.hid (hGd.symm.trans (get_no htx))
    clear hT htx hGd
    go_enter Tryd.func20, Tryd.ntmps20
    go_wp2_with fail
    refine HTX.out.mono ?_
    rintro e w1 ⟨rfl, hb1⟩
    go_wp2_with fail
    go_ret2
    exact ⟨ret_get HEND.out, hb1⟩
  | true =>
    rw [htx] at hT
    have HTX := Lib.hid hT
    have HEND := Lib.hid (hGd.symm.trans (get_yes htx))
    clear hT htx hGd
    go_enter Tryd.func20, Tryd.ntmps20
    go_wp2_with fail
    refine HTX.out.mono ?_
    rintro e w1 ⟨rfl, hb1⟩
    go_wp2_with fail
    refine (meant_any w1 w1.heap.size attr tb en HT.out HE.out l _ ?_ hl (HGL.out.below hb1) ?_ (Nat.le_refl _)).mono ?_
    · refine ⟨?_, ?_, ?_⟩
      all_goals go_simp
    · exact (Below.refl _ _).alloc (Nat.le_refl _) _
    · rintro e w2 ⟨rfl, hb2⟩
      go_wp2_with fail
      go_ret2
      exact ⟨by rw [HEND.out]; rfl, hb1.trans ((((Below.refl _ _).alloc (Nat.le_refl _) _).trans hb2).mono hb1.size)⟩

set_option maxHeartbeats 2000000 in
theorem Get_any (l : List UInt8) (w : World) (hl : l.length ≤ 100000) (hG : Gl w) :
    Calls Tryd.prog 11 #[.string (bs l)] w fun e w' => e = .returned (.tuple #[.string (bs (getD5 false l).1), .int .i64 ((getD5 false l).2 : Int)]) ∧ Below w.heap.size w w' := by
  have hg : Calls Tryd.prog 20 #[.string (bs l), .int .u8 9, .int .u8 10] w fun e w' => e = .returned (.tuple #[.string (bs (getD5 false l).1), .int .i64 ((getD5 false l).2 : Int)]) ∧ Below w.heap.size w w' := get_any false 9 10 rfl rfl l w hl hG
  have HG := Lib.hid hg
  generalize getD5 false l = G at *
  clear hg hG
  go_enter Tryd.func11, Tryd.ntmps11
  go_wp2_with fail
  refine HG.out.mono ?_
  rintro e w2 ⟨rfl, hb2⟩
  go_wp2_with fail
  go_ret2
  exact ⟨rfl, hb2⟩
set_option maxHeartbeats 2000000 in
theorem GetAttr_any (l : List UInt8) (w : World) (hl : l.length ≤ 100000) (hG : Gl w) :
    Calls Tryd.prog 13 #[.string (bs l)] w fun e w' => e = .returned (.tuple #[.string (bs (getD5 true l).1), .int .i64 ((getD5 true l).2 : Int)]) ∧ Below w.heap.size w w' := by
  have hg : Calls Tryd.prog 20 #[.string (bs l), .int .u8 32, .int .u8 32] w fun e w' => e = .returned (.tuple #[.string (bs (getD5 true l).1), .int .i64 ((getD5 true l).2 : Int)]) ∧ Below w.heap.size w w' := get_any true 32 32 rfl rfl l w hl hG
  have HG := Lib.hid hg
  generalize getD5 true l = G at *
  clear hg hG
  go_enter Tryd.func13, Tryd.ntmps13
  go_wp2_with fail
  refine HG.out.mono ?_
  rintro e w2 ⟨rfl, hb2⟩
  go_wp2_with fail
  go_ret2
  exact ⟨rfl, hb2⟩
end Go.Proofs.YtffbooapdlpocaaDoor.Char
