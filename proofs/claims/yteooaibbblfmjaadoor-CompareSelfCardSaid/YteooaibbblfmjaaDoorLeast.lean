/- The walks of the document's own least (is a below b?), Digits and unit. -/
import Derived.Test.YteooaibbblfmjaaDoorNum
namespace Go.Proofs.YteooaibbblfmjaaDoor.Char
open Go.RowKit

/-- of numbers with as many digits: the first digit that differs tells -/
theorem top_differs (a b k : Nat) (h : a / 10 ^ (k + 1) = b / 10 ^ (k + 1)) (hd : a / 10 ^ k % 10 ≠ b / 10 ^ k % 10) : decide (a < b) = decide (a / 10 ^ k % 10 < b / 10 ^ k % 10) := by
  have ea := div_step a k
  have eb := div_step b k
  have h1 := Nat.div_add_mod a (10 ^ k)
  have h2 := Nat.div_add_mod b (10 ^ k)
  have l1 := Nat.mod_lt a (Nat.pow_pos (n := k) (show 0 < 10 by omega))
  have l2 := Nat.mod_lt b (Nat.pow_pos (n := k) (show 0 < 10 by omega))
  rw [h] at ea
  generalize b / 10 ^ (k + 1) = q at ea eb
  generalize a / 10 ^ k % 10 = x at *
  generalize b / 10 ^ k % 10 = y at *
  generalize a / 10 ^ k = A at *
  generalize b / 10 ^ k = B at *
  generalize 10 ^ k = P at *
  rw [decide_eq_decide]
  subst ea eb
  rcases Nat.lt_or_gt_of_ne hd with hx | hx
  · have := Nat.mul_le_mul_left P (show 10 * q + x + 1 ≤ 10 * q + y by omega)
    rw [Nat.mul_add P (10 * q + x) 1] at this
    omega
  · have := Nat.mul_le_mul_left P (show 10 * q + y + 1 ≤ 10 * q + x by omega)
    rw [Nat.mul_add P (10 * q + y) 1] at this
    omega

theorem kept_drewN {B : Nat} {a w : World} (h : Below B a w) (n : Nat) : Below B a (w.drewN n) := ⟨h.os, h.tape, h.output, h.size, h.block⟩
theorem ret_bool {a b : Bool} (h : a = b) : Ending.returned (.bool a) = .returned (.bool b) := by rw [h]

end Go.Proofs.YteooaibbblfmjaaDoor.Char
