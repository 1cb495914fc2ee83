/- math/bits.Mul64 and LeadingZeros64 as the walks ask for them. -/
import Derived.Test.YteooaibbblfmjaaDoorBits
import Derived.Lib.ItoaNum
namespace Go.Proofs.YteooaibbblfmjaaDoor.Char
open Go.Shelf Go.RowKit

theorem mul64_any (x y : Nat) (w : World) (hx : x < 18446744073709551616) (hy : y < 18446744073709551616) :
    Calls Tryd.prog 46 #[.int .u64 (x : Int), .int .u64 (y : Int)] w fun e w' => e = .returned (.tuple #[.int .u64 ((x * y / 18446744073709551616 : Nat) : Int), .int .u64 ((x * y % 18446744073709551616 : Nat) : Int)]) ∧ w = w' :=
  (Any.bits_Mul64 layMul x y hx hy w).mono fun _ _ h => ⟨h.1, h.2.symm⟩

/-- what LeadingZeros64 answers: by how much the number may be shifted -/
def LzPost (w : World) (y : Nat) (e : Ending) (w' : World) : Prop := ∃ s : Nat, e = .returned (.int .i64 (s : Int)) ∧ s ≤ 63 ∧ 9223372036854775808 ≤ y * 2 ^ s ∧ y * 2 ^ s < 18446744073709551616 ∧ w = w'
theorem lz_any (y : Nat) (w : World) (h0 : 0 < y) (hy : y < 18446744073709551616) : Calls Tryd.prog 66 #[.int .u64 (y : Int)] w (LzPost w y) := by
  refine (Any.bits_LeadingZeros64 layLz (y : Int) w (by omega) (by omega)).mono fun e w' h => ?_
  obtain ⟨h1, h2, h3⟩ := Lib.bitLenAux_bounds 64 y hy (by omega)
  have h4 := Lib.bitLen_le y 64 (Nat.le_refl _) hy
  have h5 : Lib.bitLen y = Lib.bitLenAux 64 y := rfl
  rw [← h5] at h1 h2 h3
  have h6 := h.1
  rw [Int.toNat_natCast] at h6
  generalize Lib.bitLen y = k at *
  refine ⟨64 - k, ?_, by omega, ?_, ?_, h.2.symm⟩
  · rw [h6]
    congr 2
    omega
  · have h7 : 2 ^ (k - 1) * 2 ^ (64 - k) ≤ y * 2 ^ (64 - k) := Nat.mul_le_mul_right _ h2
    rw [← Nat.pow_add, show k - 1 + (64 - k) = 63 by omega] at h7
    exact h7
  · have h7 : y * 2 ^ (64 - k) < 2 ^ k * 2 ^ (64 - k) := Nat.mul_lt_mul_of_pos_right h3 (Nat.two_pow_pos _)
    rw [← Nat.pow_add, show k + (64 - k) = 64 by omega] at h7
    exact h7
end Go.Proofs.YteooaibbblfmjaaDoor.Char
