/- Mathematics without a program: what stands in markup for characters, and what is meant by it. -/
import Derived.Test.YtffbooapdlpocaaDoorPlain2
import Derived.Test.YtffbooapdlpocaaDoorLists
import Derived.Lib.RuneBytes
import Derived.Lib.IndexMore
namespace Go.Proofs.YtffbooapdlpocaaDoor.Char
open Go.Lib

/-- what stands for a byte -/
def stdL (attr : Bool) (b : UInt8) : List UInt8 :=
  if b = 38 then [38, 97, 109, 112, 59] else if b = 60 then [38, 108, 116, 59] else if b = 13 then [38, 35, 49, 51, 59]
  else if b = 62 ∧ attr = false then [38, 103, 116, 59] else if b = 34 ∧ attr = true then [38, 113, 117, 111, 116, 59]
  else if b = 9 ∧ attr = true then [38, 35, 57, 59] else if b = 10 ∧ attr = true then [38, 35, 49, 48, 59] else [b]
def putL (attr : Bool) (l : List UInt8) : List UInt8 := l.flatMap (stdL attr)
theorem putL_cons (attr : Bool) (b : UInt8) (t : List UInt8) : putL attr (b :: t) = stdL attr b ++ putL attr t := by simp [putL]
theorem putL_nil (attr : Bool) : putL attr [] = [] := rfl
theorem stdL_le (attr : Bool) (b : UInt8) : (stdL attr b).length ≤ 6 := by
  unfold stdL
  repeat' split
  all_goals simp
theorem putL_le (attr : Bool) : ∀ l : List UInt8, (putL attr l).length ≤ 6 * l.length
  | [] => by simp [putL]
  | b :: t => by
    have h1 := stdL_le attr b
    have h2 := putL_le attr t
    rw [putL_cons, List.length_append, List.length_cons]
    omega
theorem putL_snoc (attr : Bool) (a : List UInt8) (b : UInt8) : putL attr (a ++ [b]) = putL attr a ++ stdL attr b := by simp [putL]

/-- a digit's value; 99: it is none -/
def dgV (b : UInt8) : Nat :=
  if 48 ≤ b.toNat ∧ b.toNat ≤ 57 then b.toNat - 48 else if 97 ≤ b.toNat ∧ b.toNat ≤ 102 then b.toNat - 87 else if 65 ≤ b.toNat ∧ b.toNat ≤ 70 then b.toNat - 55 else 99
/-- the number that digits tell, behind some -/
def valN (base : Nat) : Nat → List UInt8 → Option Nat
  | n, [] => some n
  | n, b :: t => if dgV b < base then valN base (n * base + dgV b) t else none
/-- the character whose number the digits tell -/
def chrN (base : Nat) (l : List UInt8) : Option Nat :=
  if l = [] then none else (valN base 0 l).bind fun n => if isC (n : Int) then some n else none
/-- the character of a reference's inner part -/
def chL (s : List UInt8) : Option Nat :=
  if s = [97, 109, 112] then some 38 else if s = [108, 116] then some 60 else if s = [103, 116] then some 62
  else if s = [113, 117, 111, 116] then some 34 else if s = [97, 112, 111, 115] then some 39
  else if [35, 120].isPrefixOf s then chrN 16 (s.drop 2) else if [35].isPrefixOf s then chrN 10 (s.drop 1) else none
def noS (b : UInt8) : Bool := b != 59
/-- what a reference behind its & tells, and what is left -/
def refL (t : List UInt8) : Option (Nat × List UInt8) :=
  if t.all noS then none else (chL (t.takeWhile noS)).map fun n => (n, (t.dropWhile noS).drop 1)
/-- the first piece of markup: its bytes, and what is left; or why there is none (0: the end) -/
def stp (attr : Bool) : List UInt8 → Nat ⊕ (List UInt8 × List UInt8)
  | [] => .inl 0
  | b :: t =>
    if b = 60 then .inl 13
    else if b = 38 then match refL t with
      | some (n, r) => .inr (encodeRune (n : Int), r)
      | none => .inl 12
    else if b = 13 then .inr ([if attr then 32 else 10], if [10].isPrefixOf t then t.drop 1 else t)
    else .inr ([if attr ∧ (b = 9 ∨ b = 10) then 32 else b], t)
theorem stp_cons (attr : Bool) (b : UInt8) (t : List UInt8) : stp attr (b :: t) =
    if b = 60 then .inl 13
    else if b = 38 then match refL t with
      | some (n, r) => .inr (encodeRune (n : Int), r)
      | none => .inl 12
    else if b = 13 then .inr ([if attr then 32 else 10], if [10].isPrefixOf t then t.drop 1 else t)
    else .inr ([if attr ∧ (b = 9 ∨ b = 10) then 32 else b], t) := rfl
theorem refL_le {t r : List UInt8} {n : Nat} (h : refL t = some (n, r)) : r.length ≤ t.length := by
  unfold refL at h
  split at h
  · cases h
  · have h1 := (List.dropWhile_suffix (l := t) noS).length_le
    cases hc : chL (t.takeWhile noS) with
    | none => rw [hc] at h; cases h
    | some m =>
      rw [hc] at h
      simp only [Option.map_some, Option.some.injEq, Prod.mk.injEq] at h
      rw [← h.2, List.length_drop]
      omega
theorem stp_lt {attr : Bool} {l c r : List UInt8} (h : stp attr l = .inr (c, r)) : r.length < l.length := by
  cases l with
  | nil => cases h
  | cons b t =>
    rw [stp_cons] at h
    rw [List.length_cons]
    split at h
    · cases h
    · split at h
      · split at h
        · rename_i hr
          have := refL_le hr
          simp only [Sum.inr.injEq, Prod.mk.injEq] at h
          rw [← h.2]
          omega
        · cases h
      · split at h
        · simp only [Sum.inr.injEq, Prod.mk.injEq] at h
          rw [← h.2]
          split
          · rw [List.length_drop]; omega
          · omega
        · simp only [Sum.inr.injEq, Prod.mk.injEq] at h
          rw [← h.2]
          omega
/-- the text that is meant behind what is told already, and the error -/
def gN (attr : Bool) : Nat → List UInt8 → List UInt8 → List UInt8 × Nat
  | 0, acc, _ => (acc, 0)
  | n + 1, acc, l => match stp attr l with
    | .inl 0 => (acc, 0)
    | .inl (e + 1) => ([], e + 1)
    | .inr (c, r) => gN attr n (acc ++ c) r
theorem gN_fuel (attr : Bool) : ∀ (n m : Nat) (acc l : List UInt8), l.length < n → l.length < m → gN attr n acc l = gN attr m acc l
  | 0, m, acc, l, hn, _ => by omega
  | n + 1, 0, acc, l, _, hm => by omega
  | n + 1, m + 1, acc, l, hn, hm => by
    unfold gN
    cases h : stp attr l with
    | inl e => cases e <;> rfl
    | inr x =>
      obtain ⟨c, r⟩ := x
      have := stp_lt h
      exact gN_fuel attr n m (acc ++ c) r (by omega) (by omega)
def gL (attr : Bool) (acc l : List UInt8) : List UInt8 × Nat := gN attr (l.length + 1) acc l
theorem gL_end {attr : Bool} {l : List UInt8} (acc : List UInt8) (h : stp attr l = .inl 0) : gL attr acc l = (acc, 0) := by
  unfold gL gN
  rw [h]
theorem gL_err {attr : Bool} {l : List UInt8} {e : Nat} (acc : List UInt8) (h : stp attr l = .inl e) (h0 : e ≠ 0) : gL attr acc l = ([], e) := by
  unfold gL gN
  rw [h]
  cases e with
  | zero => exact absurd rfl h0
  | succ e => rfl
theorem gL_step {attr : Bool} {l c r : List UInt8} (acc : List UInt8) (h : stp attr l = .inr (c, r)) : gL attr acc l = gL attr (acc ++ c) r := by
  have hl := stp_lt h
  have e : gL attr acc l = gN attr l.length (acc ++ c) r := by
    unfold gL
    conv => lhs; unfold gN
    rw [h]
  rw [e]
  exact gN_fuel attr _ _ _ _ (by omega) (by omega)

/-- the number, not above what is no character -/
def capN (n : Nat) : Nat := if n > 0x10ffff then 0x110000 else n
def valC (base : Nat) : Nat → List UInt8 → Option Nat
  | n, [] => some n
  | n, b :: t => if dgV b < base then valC base (capN (n * base + dgV b)) t else none
theorem valC_eq (base : Nat) (hb : base = 10 ∨ base = 16) : ∀ (l : List UInt8) (n : Nat), valC base (capN n) l = (valN base n l).map capN
  | [], n => rfl
  | b :: t, n => by
    unfold valC valN
    by_cases h : dgV b < base
    · rw [if_pos h, if_pos h]
      have e : capN (capN n * base + dgV b) = capN (n * base + dgV b) := by
        rcases hb with rfl | rfl
        all_goals
          unfold capN
          split
          · split <;> split <;> omega
          · rfl
      rw [e]
      exact valC_eq base hb t _
    · rw [if_neg h, if_neg h]; rfl
theorem isC_iff (n : Int) : isC n = true ↔ n = 9 ∨ n = 10 ∨ n = 13 ∨ (32 ≤ n ∧ n ≤ 0xd7ff) ∨ (0xe000 ≤ n ∧ n ≤ 0xfffd) ∨ (0x10000 ≤ n ∧ n ≤ 0x10ffff) := by
  unfold isC isL
  simp only [inP, Bool.or_eq_true, Bool.and_eq_true, decide_eq_true_eq, Bool.false_eq_true, or_false]
  omega
theorem isC_le {n : Int} (h : isC n = true) : 9 ≤ n ∧ n ≤ 0x10ffff ∧ ¬ (0xd800 ≤ n ∧ n ≤ 0xdfff) := by
  rw [isC_iff] at h
  omega
theorem isC_cap (n : Nat) : isC (capN n : Nat) = isC (n : Int) := by
  unfold capN
  split
  · rw [Bool.eq_iff_iff, isC_iff, isC_iff]
    omega
  · rfl
theorem capN_of (n : Nat) (h : isC (n : Int) = true) : capN n = n := by
  have := isC_le h
  unfold capN
  rw [if_neg (by omega)]
/-- the document's way to a character's number -/
theorem chrN_cap (base : Nat) (hb : base = 10 ∨ base = 16) (l : List UInt8) (hl : l ≠ []) : chrN base l = (valC base 0 l).bind fun n => if isC (n : Int) then some n else none := by
  unfold chrN
  rw [if_neg hl]
  have := valC_eq base hb l 0
  rw [show capN 0 = 0 from rfl] at this
  rw [this]
  cases valN base 0 l with
  | none => rfl
  | some n =>
    show (if isC (n : Int) then some n else none) = (if isC ((capN n : Nat) : Int) then some (capN n) else none)
    rw [isC_cap]
    split
    · rename_i h; rw [capN_of n h]
    · rfl
theorem chrN_isC {base : Nat} {l : List UInt8} {n : Nat} (h : chrN base l = some n) : isC (n : Int) = true := by
  unfold chrN at h
  split at h
  · cases h
  · cases hv : valN base 0 l with
    | none => rw [hv] at h; cases h
    | some m =>
      rw [hv] at h
      simp only [Option.bind_some] at h
      split at h
      · rename_i hm; cases h; exact hm
      · cases h
theorem chL_isC {s : List UInt8} {n : Nat} (h : chL s = some n) : isC (n : Int) = true := by
  unfold chL at h
  repeat' split at h
  all_goals first | (cases h; decide) | exact chrN_isC h | cases h
theorem enc_ne (n : Int) : encodeRune n ≠ [] := by
  have := encodeRuneZ_length n
  intro h
  have h2 : (encodeRune n).length = 0 := by rw [h]; rfl
  simp only [encodeRune, List.length_map] at h2
  omega

/-- Get: the text, and the error -/
def getF (attr : Bool) (l : List UInt8) (tx : Bool) : List UInt8 × Nat := if tx then gL attr [] l else ([], 10)
end Go.Proofs.YtffbooapdlpocaaDoor.Char
