/- Mathematics without a program: a quotient of 128 bits by 64, half a word at a time. -/
namespace Go.Proofs.YteooaibbblfmjaaDoor.Char

/-- the estimate of a half: its state, ahead of a look -/
structure Est (U u Y1 Y0 q r : Nat) : Prop where
  sum : q * Y1 + r = U
  top : (U * 4294967296 + u) / (Y1 * 4294967296 + Y0) ≤ q
  most : q ≤ 4294967297

theorem est_start (U u Y1 Y0 : Nat) (hY1 : 2147483648 ≤ Y1) (hY0 : Y0 < 4294967296) (hu : u < 4294967296) (hU : U < Y1 * 4294967296 + Y0) : Est U u Y1 Y0 (U / Y1) (U - U / Y1 * Y1) where
  sum := by have := Nat.div_mul_le_self U Y1; omega
  top := by
    have h1 : U < (U / Y1 + 1) * Y1 := by rw [Nat.mul_comm]; exact Nat.lt_mul_div_succ U (by omega)
    rw [Nat.div_le_iff_le_mul_add_pred (by omega)]
    generalize U / Y1 = q at h1
    rw [Nat.add_mul, Nat.one_mul] at h1
    have e : (Y1 * 4294967296 + Y0) * q = q * Y1 * 4294967296 + q * Y0 := by rw [Nat.mul_comm, Nat.mul_add, Nat.mul_assoc]
    rw [e]
    have h2 : q * Y0 ≥ 0 := Nat.zero_le _
    generalize q * Y1 = a at *
    generalize q * Y0 = b at *
    omega
  most := by
    have h1 := Nat.div_mul_le_self U Y1
    generalize U / Y1 = q at h1
    rcases Nat.lt_or_ge 4294967297 q with h | h
    · have h2 : 4294967298 * Y1 ≤ q * Y1 := Nat.mul_le_mul_right _ h
      omega
    · exact h
theorem est_less (U u Y1 Y0 q r : Nat) (hu : u < 4294967296) (hU : U < Y1 * 4294967296 + Y0) (h : Est U u Y1 Y0 q r)
    (hc : 4294967296 ≤ q ∨ 4294967296 * r + u < q * Y0) : (U * 4294967296 + u) / (Y1 * 4294967296 + Y0) < q := by
  rw [Nat.div_lt_iff_lt_mul (by omega)]
  have h1 := h.sum
  have e : q * (Y1 * 4294967296 + Y0) = q * Y1 * 4294967296 + q * Y0 := by rw [Nat.mul_add, Nat.mul_assoc]
  rcases hc with hc | hc
  · have h2 : 4294967296 * (Y1 * 4294967296 + Y0) ≤ q * (Y1 * 4294967296 + Y0) := Nat.mul_le_mul_right _ hc
    omega
  · rw [e]
    generalize q * Y1 = a at *
    generalize q * Y0 = b at *
    omega
theorem est_done (U u Y1 Y0 q r : Nat) (hY1 : 2147483648 ≤ Y1) (h : Est U u Y1 Y0 q r) (hc : q * Y0 ≤ 4294967296 * r + u) : q = (U * 4294967296 + u) / (Y1 * 4294967296 + Y0) := by
  have h1 := h.sum
  have h2 := h.top
  have e : q * (Y1 * 4294967296 + Y0) = q * Y1 * 4294967296 + q * Y0 := by rw [Nat.mul_add, Nat.mul_assoc]
  have h3 : q ≤ (U * 4294967296 + u) / (Y1 * 4294967296 + Y0) := by
    rw [Nat.le_div_iff_mul_le (by omega), e]
    generalize q * Y1 = a at *
    generalize q * Y0 = b at *
    omega
  omega
theorem est_step (U u Y1 Y0 q r : Nat) (h : Est U u Y1 Y0 q r) (hl : (U * 4294967296 + u) / (Y1 * 4294967296 + Y0) < q) : Est U u Y1 Y0 (q - 1) (r + Y1) where
  sum := by
    have h1 := h.sum
    obtain ⟨p, rfl⟩ : ∃ p, q = p + 1 := ⟨q - 1, by have := Nat.lt_of_le_of_lt (Nat.zero_le _) hl; omega⟩
    rw [Nat.add_mul] at h1
    show p * Y1 + (r + Y1) = U
    omega
  top := Nat.le_sub_one_of_lt hl
  most := by have := h.most; omega
theorem est_break (U u Y1 Y0 q r : Nat) (hY1 : 2147483648 ≤ Y1) (hY0 : Y0 < 4294967296) (h : Est U u Y1 Y0 q r) (hq : q ≤ 4294967296) (hr : 4294967296 ≤ r) : q = (U * 4294967296 + u) / (Y1 * 4294967296 + Y0) := by
  refine est_done U u Y1 Y0 q r hY1 h ?_
  have h1 : q * Y0 ≤ 4294967296 * 4294967295 := Nat.mul_le_mul hq (by omega)
  omega
/-- what is left of the upper half is below the divisor -/
theorem half_left (U u Y : Nat) (hY : 0 < Y) : U * 4294967296 + u - (U * 4294967296 + u) / Y * Y < Y := by
  have h1 := Nat.div_add_mod (U * 4294967296 + u) Y
  have h2 := Nat.mod_lt (U * 4294967296 + u) hY
  rw [Nat.mul_comm] at h1
  omega
/-- both halves make the whole -/
theorem two_halves' (A u0 Y : Nat) (hY : 0 < Y) : A / Y * 4294967296 + ((A - A / Y * Y) * 4294967296 + u0) / Y = (A * 4294967296 + u0) / Y := by
  have h1 := Nat.div_add_mod A Y
  have h2 : A - A / Y * Y = A % Y := by rw [Nat.mul_comm] at h1; omega
  rw [h2]
  have e : A * 4294967296 + u0 = (A % Y * 4294967296 + u0) + Y * (A / Y * 4294967296) := by
    rw [← Nat.mul_assoc]
    generalize Y * (A / Y) = P at *
    generalize A % Y = R at *
    omega
  rw [e, Nat.add_mul_div_left _ _ hY, Nat.add_comm]
theorem two_halves (H u1 u0 Y : Nat) (hY : 0 < Y) :
    (H * 4294967296 + u1) / Y * 4294967296 + ((H * 4294967296 + u1 - (H * 4294967296 + u1) / Y * Y) * 4294967296 + u0) / Y = ((H * 4294967296 + u1) * 4294967296 + u0) / Y := two_halves' _ u0 Y hY
theorem join64 (H u1 u0 L : Nat) (h : L = u1 * 4294967296 + u0) : (H * 4294967296 + u1) * 4294967296 + u0 = H * 18446744073709551616 + L := by
  simp only [Nat.add_mul, Nat.mul_assoc, Nat.reduceMul]
  omega
/-- a shift of both changes no quotient -/
theorem shifted (hi lo y s : Nat) (hs : s ≤ 63) (hlo : lo < 18446744073709551616) (hh : hi < y) :
    (hi * 2 ^ s + lo / 2 ^ (64 - s)) * 18446744073709551616 + lo * 2 ^ s % 18446744073709551616 = (hi * 18446744073709551616 + lo) * 2 ^ s ∧ hi * 2 ^ s + lo / 2 ^ (64 - s) < y * 2 ^ s ∧ lo / 2 ^ (64 - s) < 2 ^ s ∧
    ((hi * 18446744073709551616 + lo) * 2 ^ s) / (y * 2 ^ s) = (hi * 18446744073709551616 + lo) / y := by
  have hp : 0 < 2 ^ s := Nat.two_pow_pos s
  have h64 : 2 ^ s * 2 ^ (64 - s) = 18446744073709551616 := by rw [← Nat.pow_add, show s + (64 - s) = 64 by omega]
  have hq : 0 < 2 ^ (64 - s) := Nat.two_pow_pos _
  have e1 : lo * 2 ^ s / 18446744073709551616 = lo / 2 ^ (64 - s) := by rw [← h64, Nat.mul_comm (2 ^ s), Nat.mul_div_mul_right _ _ hp]
  have e2 := Nat.div_add_mod (lo * 2 ^ s) 18446744073709551616
  rw [e1] at e2
  have e3 : lo / 2 ^ (64 - s) < 2 ^ s := by rw [Nat.div_lt_iff_lt_mul hq, h64]; exact hlo
  refine ⟨?_, ?_, e3, Nat.mul_div_mul_right _ _ hp⟩
  · have e4 : (hi * 18446744073709551616 + lo) * 2 ^ s = hi * 2 ^ s * 18446744073709551616 + lo * 2 ^ s := by rw [Nat.add_mul, Nat.mul_right_comm]
    rw [e4]
    generalize hi * 2 ^ s = a at *
    generalize lo * 2 ^ s = b at *
    generalize lo / 2 ^ (64 - s) = c at *
    omega
  · have h1 : (hi + 1) * 2 ^ s ≤ y * 2 ^ s := Nat.mul_le_mul_right _ hh
    rw [Nat.add_mul, Nat.one_mul] at h1
    omega
end Go.Proofs.YteooaibbblfmjaaDoor.Char
