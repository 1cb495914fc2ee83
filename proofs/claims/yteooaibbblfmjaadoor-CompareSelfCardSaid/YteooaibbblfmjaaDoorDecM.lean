/- Mathematics without a program: numbers in millionths, and what is none of them. -/
import Derived.ProofKit
namespace Go.Proofs.YteooaibbblfmjaaDoor.Char
open Go.RowKit

/-- a number, or none -/
inductive Nm
  | nan
  | over
  | under
  | num (n : Int)

/-- what a tag and millionths are -/
def toD (t v : Int) : Nm := if t = 0 ∧ v ≠ -9223372036854775808 then .num v else if t = 2 ∧ v = 0 then .over else if t = 3 ∧ v = 0 then .under else .nan
def outT : Nm → Int
  | .nan => 1
  | .over => 2
  | .under => 3
  | .num _ => 0
def outV : Nm → Int
  | .num n => n
  | _ => 0
/-- may it be? -/
def rightB (t v : Int) : Bool := match toD t v with | .nan => t == 1 && v == 0 | _ => true
def aggV (t v : Int) : Value := .agg #[.int .i64 t, .int .i64 v]
def decV (x : Nm) : Value := .agg #[.int .i64 (outT x), .int .i64 (outV x)]

/-- so many millionths, if they fit -/
def fitD (n : Int) : Nm := if 9223372036854775807 < n then .over else if n < -9223372036854775807 then .under else .num n
def sgn : Nm → Int
  | .nan => 0
  | .over => 1
  | .under => -1
  | .num n => n.sign
/-- beyond all numbers, by a sign -/
def pastD (s : Int) : Nm := if 0 < s then .over else if s < 0 then .under else .nan
def negD : Nm → Nm
  | .nan => .nan
  | .over => .under
  | .under => .over
  | .num n => .num (-n)
def addD : Nm → Nm → Nm
  | .nan, _ => .nan
  | _, .nan => .nan
  | .num a, .num b => fitD (a + b)
  | .num _, y => y
  | x, .num _ => x
  | .over, .over => .over
  | .under, .under => .under
  | _, _ => .nan
def mulD : Nm → Nm → Nm
  | .nan, _ => .nan
  | _, .nan => .nan
  | .num a, .num b => fitD ((a * b).tdiv 1000000)
  | x, y => pastD (sgn x * sgn y)
def divD : Nm → Nm → Nm
  | .nan, _ => .nan
  | _, .nan => .nan
  | .num a, .num b => if b = 0 then pastD a.sign else fitD ((a * 1000000).tdiv b)
  | .num _, _ => .num 0
  | x, .num b => if b = 0 then x else pastD (sgn x * b.sign)
  | _, _ => .nan
def modD : Nm → Nm → Nm
  | .num a, .num b => if b = 0 then .nan else .num (a.tmod b)
  | .num a, .over => .num a
  | .num a, .under => .num a
  | _, _ => .nan
/-- the sort of a number, from the lowest one on -/
def srt : Nm → Nat
  | .under => 0
  | .num n => if n < 0 then 1 else if 0 < n then 3 else 2
  | .over => 4
  | .nan => 5
def cmpD : Nm → Nm → Int × Bool
  | .nan, _ => (0, false)
  | _, .nan => (0, false)
  | .num a, .num b => (if a = b then 0 else if a < b then -1 else 1, true)
  | .under, .under => (0, true)
  | .over, .over => (0, true)
  | .under, _ => (-1, true)
  | _, .over => (-1, true)
  | _, _ => (1, true)
def floorD : Nm → Nm
  | .num n => fitD (n / 1000000 * 1000000)
  | x => x
def ceilD (x : Nm) : Nm := negD (floorD (negD x))
def roundD : Nm → Nm
  | .num n => fitD ((n + 500000) / 1000000 * 1000000)
  | x => x
def wholeD : Nm → Int × Bool
  | .num n => if n % 1000000 = 0 then (n / 1000000, true) else (0, false)
  | _ => (0, false)
def intD (n : Int) : Nm := fitD (n * 1000000)

theorem srt_neg {v : Int} (h : v < 0) : srt (.num v) = 1 := by
  show (if v < 0 then 1 else if 0 < v then 3 else 2) = 1
  rw [if_pos h]
theorem srt_pos {v : Int} (h : 0 < v) : srt (.num v) = 3 := by
  show (if v < 0 then 1 else if 0 < v then 3 else 2) = 3
  rw [if_neg (by omega), if_pos h]

/-- a number whose millionths are an int64 other than the least -/
def okD : Nm → Prop
  | .num n => -9223372036854775807 ≤ n ∧ n ≤ 9223372036854775807
  | _ => True

/-- the ways in which two words may be a number, or none -/
theorem toD_cases (t v : Int) : (t = 0 ∧ v ≠ -9223372036854775808 ∧ toD t v = .num v ∧ rightB t v = true) ∨ (t = 2 ∧ v = 0 ∧ toD t v = .over ∧ rightB t v = true) ∨ (t = 3 ∧ v = 0 ∧ toD t v = .under ∧ rightB t v = true) ∨
    (t = 1 ∧ v = 0 ∧ toD t v = .nan ∧ rightB t v = true) ∨ (¬ (t = 0 ∧ v ≠ -9223372036854775808) ∧ ¬ (t = 2 ∧ v = 0) ∧ ¬ (t = 3 ∧ v = 0) ∧ ¬ (t = 1 ∧ v = 0) ∧ toD t v = .nan ∧ rightB t v = false) := by
  by_cases h1 : t = 0 ∧ v ≠ -9223372036854775808
  · have e : toD t v = .num v := by unfold toD; rw [if_pos h1]
    exact .inl ⟨h1.1, h1.2, e, by unfold rightB; rw [e]⟩
  · by_cases h2 : t = 2 ∧ v = 0
    · have e : toD t v = .over := by unfold toD; rw [if_neg h1, if_pos h2]
      exact .inr (.inl ⟨h2.1, h2.2, e, by unfold rightB; rw [e]⟩)
    · by_cases h3 : t = 3 ∧ v = 0
      · have e : toD t v = .under := by unfold toD; rw [if_neg h1, if_neg h2, if_pos h3]
        exact .inr (.inr (.inl ⟨h3.1, h3.2, e, by unfold rightB; rw [e]⟩))
      · have e : toD t v = .nan := by unfold toD; rw [if_neg h1, if_neg h2, if_neg h3]
        by_cases h4 : t = 1 ∧ v = 0
        · exact .inr (.inr (.inr (.inl ⟨h4.1, h4.2, e, by unfold rightB; rw [e, h4.1, h4.2]; rfl⟩)))
        · refine .inr (.inr (.inr (.inr ⟨h1, h2, h3, h4, e, ?_⟩)))
          unfold rightB
          rw [e]
          show (t == 1 && v == 0) = false
          rw [Bool.and_eq_false_iff, beq_eq_false_iff_ne, beq_eq_false_iff_ne]
          omega
theorem toD_out : ∀ x : Nm, okD x → toD (outT x) (outV x) = x
  | .nan, _ => rfl
  | .over, _ => rfl
  | .under, _ => rfl
  | .num n, h => by
    have h1 : -9223372036854775807 ≤ n ∧ n ≤ 9223372036854775807 := h
    have h2 : n ≠ -9223372036854775808 := by omega
    show toD 0 n = .num n
    unfold toD
    rw [if_pos ⟨rfl, h2⟩]
theorem toD_ok (t v : Int) (h : -9223372036854775808 ≤ v ∧ v ≤ 9223372036854775807) : okD (toD t v) := by
  unfold toD
  split
  · rename_i h1
    exact ⟨by omega, h.2⟩
  · split
    · trivial
    · split <;> trivial
theorem fitD_ok (n : Int) : okD (fitD n) := by
  unfold fitD
  split
  · trivial
  · split
    · trivial
    · exact ⟨by omega, by omega⟩
theorem fitD_in (n : Int) (h : -9223372036854775807 ≤ n ∧ n ≤ 9223372036854775807) : fitD n = .num n := by
  unfold fitD
  rw [if_neg (by omega), if_neg (by omega)]
theorem pastD_ok (s : Int) : okD (pastD s) := by
  unfold pastD
  split
  · trivial
  · split <;> trivial
theorem negD_ok : ∀ x, okD x → okD (negD x)
  | .nan, _ => trivial
  | .over, _ => trivial
  | .under, _ => trivial
  | .num n, h => by
    have h1 : -9223372036854775807 ≤ n ∧ n ≤ 9223372036854775807 := h
    show -9223372036854775807 ≤ -n ∧ -n ≤ 9223372036854775807
    exact ⟨by omega, by omega⟩
theorem negD_neg : ∀ x, negD (negD x) = x
  | .nan => rfl
  | .over => rfl
  | .under => rfl
  | .num n => by show Nm.num (- -n) = _; rw [Int.neg_neg]
end Go.Proofs.YteooaibbblfmjaaDoor.Char
