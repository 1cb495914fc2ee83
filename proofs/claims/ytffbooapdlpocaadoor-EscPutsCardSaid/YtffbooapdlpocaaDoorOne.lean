/- The walk of the document's own 'the character with which bytes begin'. -/
import Derived.Test.YtffbooapdlpocaaDoorPlain2
import Derived.Lib.OthersKept
import Derived.WalkSmall
namespace Go.Proofs.YtffbooapdlpocaaDoor.Char
open Go.RowKit Go.Lib

/-- the character with which bytes begin, and how many bytes it has; (0, 0): they begin with none -/
def oneN (n b0 b1 b2 b3 : Nat) : Nat × Nat := if (decodeN n b0 b1 b2 b3).1 = 65533 ∧ (decodeN n b0 b1 b2 b3).2 = 1 then (0, 0) else decodeN n b0 b1 b2 b3
def oneL (l : List UInt8) : Nat × Nat := if l = [] then (0, 0) else if (decodeL l).1 = 65533 ∧ (decodeL l).2 = 1 then (0, 0) else decodeL l
def byt (l : List UInt8) (j : Nat) : Nat := (l.getD j 0).toNat
theorem oneL_N (l : List UInt8) (h : l ≠ []) : oneL l = oneN l.length (byt l 0) (byt l 1) (byt l 2) (byt l 3) := by
  unfold oneL oneN byt
  rw [if_neg h, decodeL_N]

theorem one_low (n b0 b1 b2 b3 : Nat) (h : b0 < 128) : oneN n b0 b1 b2 b3 = (b0, 1) := by
  unfold oneN
  simp only [decodeN, if_pos h]
  rw [if_neg (by omega)]
theorem one_none (n b0 b1 b2 b3 : Nat) (h : ¬ b0 < 128) (h2 : b0 / 32 ≠ 6) (h3 : b0 / 16 ≠ 14) (h4 : b0 / 8 ≠ 30) : oneN n b0 b1 b2 b3 = (0, 0) := by
  unfold oneN
  simp only [decodeN, if_neg h, if_neg (show ¬ (b0 / 32 = 6 ∧ (1 < n ∧ b1 / 64 = 2)) by omega), if_neg (show ¬ (b0 / 16 = 14 ∧ (1 < n ∧ b1 / 64 = 2) ∧ (2 < n ∧ b2 / 64 = 2)) by omega),
    if_neg (show ¬ (b0 / 8 = 30 ∧ (1 < n ∧ b1 / 64 = 2) ∧ (2 < n ∧ b2 / 64 = 2) ∧ (3 < n ∧ b3 / 64 = 2)) by omega)]
  rfl
theorem one_two (n b0 b1 b2 b3 : Nat) (h : 192 ≤ b0 ∧ b0 < 224) : oneN n b0 b1 b2 b3 =
    if 1 < n ∧ (128 ≤ b1 ∧ b1 ≤ 191) then (if (b0 - 192) * 64 + (b1 - 128) < 128 then (0, 0) else ((b0 - 192) * 64 + (b1 - 128), 2)) else (0, 0) := by
  unfold oneN
  have x1 : ¬ b0 < 128 := by omega
  have x3 : ¬ (b0 / 16 = 14 ∧ (1 < n ∧ b1 / 64 = 2) ∧ (2 < n ∧ b2 / 64 = 2)) := by omega
  have x4 : ¬ (b0 / 8 = 30 ∧ (1 < n ∧ b1 / 64 = 2) ∧ (2 < n ∧ b2 / 64 = 2) ∧ (3 < n ∧ b3 / 64 = 2)) := by omega
  by_cases c : 1 < n ∧ 128 ≤ b1 ∧ b1 ≤ 191
  · have x2 : b0 / 32 = 6 ∧ (1 < n ∧ b1 / 64 = 2) := by omega
    simp only [decodeN, if_neg x1, if_pos x2]
    rw [if_pos c]
    by_cases d : (b0 - 192) * 64 + (b1 - 128) < 128
    · rw [if_pos d, if_neg (show ¬ (b0 % 32 * 64 + b1 % 64 ≥ 128) by omega)]
      rfl
    · rw [if_neg d, if_pos (show b0 % 32 * 64 + b1 % 64 ≥ 128 by omega), if_neg (by simp)]
      apply Prod.ext <;> simp only <;> omega
  · have x2 : ¬ (b0 / 32 = 6 ∧ (1 < n ∧ b1 / 64 = 2)) := by omega
    simp only [decodeN, if_neg x1, if_neg x2, if_neg x3, if_neg x4]
    rw [if_neg c]
    rfl
set_option maxRecDepth 100000 in
theorem one_three (n b0 b1 b2 b3 : Nat) (h : 224 ≤ b0 ∧ b0 < 240) : oneN n b0 b1 b2 b3 =
    if 2 < n ∧ (128 ≤ b1 ∧ b1 ≤ 191) ∧ (128 ≤ b2 ∧ b2 ≤ 191) then (if (b0 - 224) * 4096 + (b1 - 128) * 64 + (b2 - 128) < 2048 ∨ (55296 ≤ (b0 - 224) * 4096 + (b1 - 128) * 64 + (b2 - 128) ∧ (b0 - 224) * 4096 + (b1 - 128) * 64 + (b2 - 128) ≤ 57343) then (0, 0)
      else ((b0 - 224) * 4096 + (b1 - 128) * 64 + (b2 - 128), 3)) else (0, 0) := by
  unfold oneN
  have x1 : ¬ b0 < 128 := by omega
  have x2 : ¬ (b0 / 32 = 6 ∧ (1 < n ∧ b1 / 64 = 2)) := by omega
  have x4 : ¬ (b0 / 8 = 30 ∧ (1 < n ∧ b1 / 64 = 2) ∧ (2 < n ∧ b2 / 64 = 2) ∧ (3 < n ∧ b3 / 64 = 2)) := by omega
  by_cases c : 2 < n ∧ (128 ≤ b1 ∧ b1 ≤ 191) ∧ 128 ≤ b2 ∧ b2 ≤ 191
  · have x3 : b0 / 16 = 14 ∧ (1 < n ∧ b1 / 64 = 2) ∧ (2 < n ∧ b2 / 64 = 2) := by omega
    simp only [decodeN, if_neg x1, if_neg x2, if_pos x3]
    rw [if_pos c]
    have e : b0 % 16 * 4096 + b1 % 64 * 64 + b2 % 64 = (b0 - 224) * 4096 + (b1 - 128) * 64 + (b2 - 128) := by omega
    rw [e]
    generalize (b0 - 224) * 4096 + (b1 - 128) * 64 + (b2 - 128) = v at *
    have hv : v ≤ 65535 := by omega
    by_cases d : v < 2048 ∨ (55296 ≤ v ∧ v ≤ 57343)
    · rw [if_pos d, if_neg (show ¬ (v ≥ 2048 ∧ (v < 55296 ∨ 57344 ≤ v ∧ v ≤ 1114111)) by omega)]
      rfl
    · rw [if_neg d, if_pos (show v ≥ 2048 ∧ (v < 55296 ∨ 57344 ≤ v ∧ v ≤ 1114111) by omega), if_neg (by simp)]
  · have x3 : ¬ (b0 / 16 = 14 ∧ (1 < n ∧ b1 / 64 = 2) ∧ (2 < n ∧ b2 / 64 = 2)) := by omega
    simp only [decodeN, if_neg x1, if_neg x2, if_neg x3, if_neg x4]
    rw [if_neg c]
    rfl
set_option maxRecDepth 100000 in
theorem one_four (n b0 b1 b2 b3 : Nat) (h : 240 ≤ b0 ∧ b0 < 248) : oneN n b0 b1 b2 b3 =
    if 3 < n ∧ (128 ≤ b1 ∧ b1 ≤ 191) ∧ (128 ≤ b2 ∧ b2 ≤ 191) ∧ (128 ≤ b3 ∧ b3 ≤ 191) then (if (b0 - 240) * 262144 + (b1 - 128) * 4096 + (b2 - 128) * 64 + (b3 - 128) < 65536 ∨ 1114111 < (b0 - 240) * 262144 + (b1 - 128) * 4096 + (b2 - 128) * 64 + (b3 - 128) then (0, 0)
      else ((b0 - 240) * 262144 + (b1 - 128) * 4096 + (b2 - 128) * 64 + (b3 - 128), 4)) else (0, 0) := by
  unfold oneN
  have x1 : ¬ b0 < 128 := by omega
  have x2 : ¬ (b0 / 32 = 6 ∧ (1 < n ∧ b1 / 64 = 2)) := by omega
  have x3 : ¬ (b0 / 16 = 14 ∧ (1 < n ∧ b1 / 64 = 2) ∧ (2 < n ∧ b2 / 64 = 2)) := by omega
  by_cases c : 3 < n ∧ (128 ≤ b1 ∧ b1 ≤ 191) ∧ (128 ≤ b2 ∧ b2 ≤ 191) ∧ 128 ≤ b3 ∧ b3 ≤ 191
  · have x4 : b0 / 8 = 30 ∧ (1 < n ∧ b1 / 64 = 2) ∧ (2 < n ∧ b2 / 64 = 2) ∧ (3 < n ∧ b3 / 64 = 2) := by omega
    simp only [decodeN, if_neg x1, if_neg x2, if_neg x3, if_pos x4]
    rw [if_pos c]
    have e : b0 % 8 * 262144 + b1 % 64 * 4096 + b2 % 64 * 64 + b3 % 64 = (b0 - 240) * 262144 + (b1 - 128) * 4096 + (b2 - 128) * 64 + (b3 - 128) := by omega
    rw [e]
    clear e
    generalize (b0 - 240) * 262144 + (b1 - 128) * 4096 + (b2 - 128) * 64 + (b3 - 128) = v
    by_cases d : v < 65536 ∨ 1114111 < v
    · rw [if_pos d, if_neg (show ¬ (v ≥ 65536 ∧ (v < 55296 ∨ 57344 ≤ v ∧ v ≤ 1114111)) by omega)]
      rfl
    · rw [if_neg d, if_pos (show v ≥ 65536 ∧ (v < 55296 ∨ 57344 ≤ v ∧ v ≤ 1114111) by omega), if_neg (by simp)]
  · have x4 : ¬ (b0 / 8 = 30 ∧ (1 < n ∧ b1 / 64 = 2) ∧ (2 < n ∧ b2 / 64 = 2) ∧ (3 < n ∧ b3 / 64 = 2)) := by omega
    simp only [decodeN, if_neg x1, if_neg x2, if_neg x3, if_neg x4]
    rw [if_neg c]
    rfl
end Go.Proofs.YtffbooapdlpocaaDoor.Char
