/- What Go's internal/strconv.ParseUint answers at the bases 10 and 16, 31 bits. -/
import Derived.Test.YtffbooapdlpocaaDoorShelfPu
import Derived.Test.YtffbooapdlpocaaDoorBs
import Derived.Test.YtffbooapdlpocaaDoorEscM
import Derived.Lib.ParseIntBMem
import Derived.Lib.AtoiAllMem
import Derived.Laws.Closers25
import Derived.Laws.Closers25b
import Derived.BigCall
import Derived.BigGuard
namespace Go.Proofs.YtffbooapdlpocaaDoor.Char
open Go.RowKit Go.Lib Go.Shelf

theorem low_all : ∀ c : Fin 256, (97 ≤ c.val ∧ c.val ≤ 102 → bits .or .u8 (c.val : Int) 32 = (c.val : Int)) ∧ (65 ≤ c.val ∧ c.val ≤ 70 → bits .or .u8 (c.val : Int) 32 = (c.val : Int) + 32) ∧
    (¬ (97 ≤ c.val ∧ c.val ≤ 102) → ¬ (65 ≤ c.val ∧ c.val ≤ 70) → bits .or .u8 (c.val : Int) 32 < 97 ∨ 103 ≤ bits .or .u8 (c.val : Int) 32) := by decide +kernel
theorem valN_ge (base : Nat) (hb : 1 ≤ base) : ∀ (l : List UInt8) (n m : Nat), valN base n l = some m → n ≤ m
  | [], n, m, h => by cases h; exact Nat.le_refl _
  | b :: t, n, m, h => by
    unfold valN at h
    split at h
    · have := valN_ge base hb t _ m h
      have := Nat.le_mul_of_pos_right n (show 0 < base by omega)
      omega
    · cases h
/-- what the digits tell is the number, or no character -/
def PuR (base : Nat) (l : List UInt8) (v : Value) : Prop :=
  (∃ n : Nat, v = .tuple #[.int .u64 (n : Int), .nilIface] ∧ n < 2147483648 ∧ chrN base l = if isC (n : Int) then some n else none) ∨
  (∃ z k : Int, v = .tuple #[.int .u64 z, .iface 95 (.int .i64 k)] ∧ (k = 1 ∨ k = 2) ∧ chrN base l = none)
theorem PuR.empty (base : Nat) : PuR base [] (.tuple #[.int .u64 0, .iface 95 (.int .i64 2)]) := .inr ⟨0, 2, rfl, .inr rfl, rfl⟩
theorem chr_none {base : Nat} {l : List UInt8} (h : valN base 0 l = none) : chrN base l = none := by
  unfold chrN
  split
  · rfl
  · rw [h]; rfl
theorem PuR.bad {base : Nat} {l : List UInt8} (h : valN base 0 l = none) : PuR base l (.tuple #[.int .u64 0, .iface 95 (.int .i64 2)]) := .inr ⟨0, 2, rfl, .inr rfl, chr_none h⟩
theorem PuR.range {base n : Nat} {l r : List UInt8} (hb : 1 ≤ base) (h : valN base 0 l = valN base n r) (hn : 2147483647 < n) : PuR base l (.tuple #[.int .u64 2147483647, .iface 95 (.int .i64 1)]) := by
  refine .inr ⟨2147483647, 1, rfl, .inl rfl, ?_⟩
  unfold chrN
  split
  · rfl
  · cases hv : valN base n r with
    | none => rw [h, hv]; rfl
    | some m =>
      have := valN_ge base hb r n m hv
      rw [h, hv]
      show (if isC (m : Int) then some m else none) = none
      rw [if_neg]
      intro hc
      have := isC_le hc
      omega
theorem PuR.ok {base n : Nat} {l : List UInt8} {a : Int} (h : valN base 0 l = some n) (hn : n ≤ 2147483647) (hl : l ≠ []) (ha : a = (n : Int)) : PuR base l (.tuple #[.int .u64 a, .nilIface]) := by
  refine .inl ⟨n, by rw [ha], by omega, ?_⟩
  unfold chrN
  rw [if_neg hl, h]
  rfl
end Go.Proofs.YtffbooapdlpocaaDoor.Char
