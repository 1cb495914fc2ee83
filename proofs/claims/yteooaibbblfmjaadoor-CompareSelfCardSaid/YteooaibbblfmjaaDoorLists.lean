/- Mathematics without a program: a number within pairs of a first and a last one; the document's lists of them. -/
import Derived.Test.YteooaibbblfmjaaDoorPlain
namespace Go.Proofs.YteooaibbblfmjaaDoor.Char
open Go.RowKit

/-- a number is within pairs of a first and a last one -/
def inP : List Int → Int → Bool
  | a :: b :: r, n => (decide (a ≤ n) && decide (n ≤ b)) || inP r n
  | _, _ => false

theorem inP_step (zs : List Int) (n : Int) (k : Nat) (h : k + 1 < zs.length) :
    inP (zs.drop k) n = ((decide (zs.getD k 0 ≤ n) && decide (n ≤ zs.getD (k + 1) 0)) || inP (zs.drop (k + 2)) n) := by
  have e1 : zs.drop k = zs.getD k 0 :: zs.getD (k + 1) 0 :: zs.drop (k + 2) := by
    rw [List.drop_eq_getElem_cons (by omega : k < zs.length), List.drop_eq_getElem_cons (by omega : k + 1 < zs.length)]
    simp [List.getD, List.getElem?_eq_getElem h, List.getElem?_eq_getElem (by omega : k < zs.length)]
  rw [e1]
  rfl
theorem inP_end (zs : List Int) (n : Int) (k : Nat) (h : ¬ k + 1 < zs.length) : inP (zs.drop k) n = false := by
  have : (zs.drop k).length ≤ 1 := by simp; omega
  match zs.drop k, this with
  | [], _ => rfl
  | [_], _ => rfl
  | _ :: _ :: _, h2 => simp at h2

def isL : List Int := [9, 9, 10, 10, 13, 13, 32, 0xd7ff, 0xe000, 0xfffd, 0x10000, 0x10ffff]
def stL : List Int := [0x41, 0x5a, 0x5f, 0x5f, 0x61, 0x7a, 0xc0, 0xd6, 0xd8, 0xf6, 0xf8, 0x2ff, 0x370, 0x37d, 0x37f, 0x1fff, 0x200c, 0x200d, 0x2070, 0x218f, 0x2c00, 0x2fef, 0x3001, 0xd7ff, 0xf900, 0xfdcf, 0xfdf0, 0xfffd, 0x10000, 0xeffff]
def paL : List Int := [0x2d, 0x2e, 0x30, 0x39, 0xb7, 0xb7, 0x300, 0x36f, 0x203f, 0x2040]
/-- a character, a space, what begins a name, what goes on with one: of a number -/
def isC (n : Int) : Bool := inP isL n
def stC (n : Int) : Bool := inP stL n
def paC (n : Int) : Bool := stC n || inP paL n
def spC (n : Int) : Bool := n == 9 || n == 10 || n == 13 || n == 32

end Go.Proofs.YteooaibbblfmjaaDoor.Char
