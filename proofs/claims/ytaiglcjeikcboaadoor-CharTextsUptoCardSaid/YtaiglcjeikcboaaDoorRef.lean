/- The walks of the document's own answers to 'is a number a character, a space, what begins a name, what goes on with one'. -/
import Derived.Test.YtaiglcjeikcboaaDoorIn
namespace Go.Proofs.YtaiglcjeikcboaaDoor.Char
open Go.RowKit

theorem in_new (zs : List Int) (len cap : Nat) (C : Array Value) (n : Int) (w : World) (T : TypeId) (hC : C = (zs.map (Value.int .i64)).toArray) (hz : len = zs.length) (hbig : len ≤ 1000) :
    Calls Tryd.prog 24 #[.int .i64 n, .slice (some ⟨w.heap.size, 0, none⟩) len cap] (w.alloc (.cells C T)) fun e w' => e = .returned (.bool (inP zs n)) ∧ w.alloc (.cells C T) = w' := by
  refine in_any _ 0 len cap n zs _ hz hbig ?_
  intro j hj
  rw [Nat.zero_add, World.cell?_alloc_new, hC]
  simp [List.getD, List.getElem?_eq_getElem hj]

def isL : List Int := [9, 9, 10, 10, 13, 13, 32, 0xd7ff, 0xe000, 0xfffd, 0x10000, 0x10ffff]
def stL : List Int := [0x41, 0x5a, 0x5f, 0x5f, 0x61, 0x7a, 0xc0, 0xd6, 0xd8, 0xf6, 0xf8, 0x2ff, 0x370, 0x37d, 0x37f, 0x1fff, 0x200c, 0x200d, 0x2070, 0x218f, 0x2c00, 0x2fef, 0x3001, 0xd7ff, 0xf900, 0xfdcf, 0xfdf0, 0xfffd, 0x10000, 0xeffff]
def paL : List Int := [0x2d, 0x2e, 0x30, 0x39, 0xb7, 0xb7, 0x300, 0x36f, 0x203f, 0x2040]
/-- a character, a space, what begins a name, what goes on with one: of a number -/
def isC (n : Int) : Bool := inP isL n
def stC (n : Int) : Bool := inP stL n
def paC (n : Int) : Bool := stC n || inP paL n
def spC (n : Int) : Bool := n == 9 || n == 10 || n == 13 || n == 32

set_option maxHeartbeats 400000 in
theorem refIs_any (n : Int) (w : World) :
    Calls Tryd.prog 9 #[.int .i64 n] w fun e w' => e = .returned (.bool (isC n)) ∧ Below w.heap.size w w' := by
  go_enter Tryd.func9, Tryd.ntmps9
  go_wp2_with fail
  refine (in_new isL 12 12 _ n w _ rfl rfl (by decide)).mono ?_
  rintro e w' ⟨rfl, rfl⟩
  go_wp2_with fail
  go_ret
  exact ⟨rfl, (Below.refl _ _).alloc (Nat.le_refl _) _⟩

set_option maxHeartbeats 400000 in
theorem refStart_any (n : Int) (w : World) :
    Calls Tryd.prog 13 #[.int .i64 n] w fun e w' => e = .returned (.bool (stC n)) ∧ Below w.heap.size w w' := by
  go_enter Tryd.func13, Tryd.ntmps13
  go_wp2_with fail
  refine (in_new stL 30 30 _ n w _ rfl rfl (by decide)).mono ?_
  rintro e w' ⟨rfl, rfl⟩
  go_wp2_with fail
  go_ret
  exact ⟨rfl, (Below.refl _ _).alloc (Nat.le_refl _) _⟩

set_option maxHeartbeats 400000 in
theorem refPart_any (n : Int) (w : World) :
    Calls Tryd.prog 15 #[.int .i64 n] w fun e w' => e = .returned (.bool (paC n)) ∧ Below w.heap.size w w' := by
  unfold paC
  generalize hs : stC n = s
  have HS := Lib.hid hs
  clear hs
  go_enter Tryd.func15, Tryd.ntmps15
  go_wp2_with fail
  refine (refStart_any n w).mono ?_
  rintro e w1 ⟨rfl, hb1⟩
  rw [HS.out]
  cases s
  · go_wp2_with fail
    refine (in_new paL 10 10 _ n w1 _ rfl rfl (by decide)).mono ?_
    rintro e w' ⟨rfl, rfl⟩
    go_wp2_with fail
    go_ret
    exact ⟨rfl, hb1.alloc hb1.size _⟩
  · go_wp2_with fail
    go_ret
    exact ⟨rfl, hb1⟩

set_option maxHeartbeats 400000 in
theorem refSpace_any (n : Int) (w : World) :
    Calls Tryd.prog 11 #[.int .i64 n] w fun e w' => e = .returned (.bool (spC n)) ∧ w = w' := by
  go_enter Tryd.func11, Tryd.ntmps11
  go_wp2_with fail
  all_goals go_ret
  all_goals exact ⟨by unfold spC; simp_all, rfl⟩
end Go.Proofs.YtaiglcjeikcboaaDoor.Char
