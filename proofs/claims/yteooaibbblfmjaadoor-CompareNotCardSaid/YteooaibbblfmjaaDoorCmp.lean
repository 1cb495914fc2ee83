/- The walks of package dec's Whole, Cmp. -/
import Derived.Test.YteooaibbblfmjaaDoorInt16
namespace Go.Proofs.YteooaibbblfmjaaDoor.Char
open Go.RowKit

theorem ret_ib {a c : Int} {b d : Bool} (h : a = c) (h2 : b = d) : Ending.returned (.tuple #[.int .i64 a, .bool b]) = Ending.returned (.tuple #[.int .i64 c, .bool d]) := by rw [h, h2]
/-- what a new pair of cells reads, behind a call that kept it: its own words -/
theorem kept_one (w : World) (z0 z1 : Value) (T : TypeId) (w1 : World) (h : Below (w.alloc (.cells #[z0, z1] T)).heap.size (w.alloc (.cells #[z0, z1] T)) w1) :
    w1.cell? ⟨w.heap.size, 0, none⟩ = some z0 ∧ w1.cell? ⟨w.heap.size, 1, none⟩ = some z1 ∧ w.heap.size < w1.heap.size ∧ Below w.heap.size w w1 := by
  obtain ⟨a, b, _, _, c, d⟩ := kept_new w z0 z1 T w1 h
  exact ⟨a, b, c, d⟩

theorem div_exact (v : Int) (h : v % 1000000 = 0) : v.tdiv 1000000 = v / 1000000 := by
  obtain ⟨k, rfl⟩ : ∃ k, v = 1000000 * k := ⟨v / 1000000, by omega⟩
  rw [Int.mul_tdiv_cancel_left _ (by omega), Int.mul_ediv_cancel_left _ (by omega)]

theorem cls (x : Nm) : x = .nan ∨ x = .over ∨ x = .under ∨ (∃ n, x = .num n ∧ n < 0 ∧ srt x = 1 ∧ n.sign = -1) ∨ x = .num 0 ∨ (∃ n, x = .num n ∧ 0 < n ∧ srt x = 3 ∧ n.sign = 1) := by
  match x with
  | .nan => exact .inl rfl
  | .over => exact .inr (.inl rfl)
  | .under => exact .inr (.inr (.inl rfl))
  | .num n =>
    rcases Int.lt_trichotomy n 0 with h | rfl | h
    · exact .inr (.inr (.inr (.inl ⟨n, rfl, h, srt_neg h, Int.sign_eq_neg_one_of_neg h⟩)))
    · exact .inr (.inr (.inr (.inr (.inl rfl))))
    · exact .inr (.inr (.inr (.inr (.inr ⟨n, rfl, h, srt_pos h, Int.sign_eq_one_of_pos h⟩))))
theorem srt_nan {x : Nm} : srt x = 5 ↔ x = .nan := by
  rcases cls x with rfl | rfl | rfl | ⟨n, rfl, _, e, _⟩ | rfl | ⟨n, rfl, _, e, _⟩
  · exact ⟨fun _ => rfl, fun _ => rfl⟩
  · exact ⟨(fun h => by cases h), (fun h => by cases h)⟩
  · exact ⟨(fun h => by cases h), (fun h => by cases h)⟩
  · exact ⟨(fun h => by rw [e] at h; cases h), (fun h => by cases h)⟩
  · exact ⟨(fun h => by cases h), (fun h => by cases h)⟩
  · exact ⟨(fun h => by rw [e] at h; cases h), (fun h => by cases h)⟩
theorem cmp_nan {x y : Nm} (h : srt x = 5 ∨ srt y = 5) : cmpD x y = (0, false) := by
  rcases h with h | h
  · rw [srt_nan.1 h]; rfl
  · rw [srt_nan.1 h]
    cases x <;> rfl
theorem cmp_num (a b : Int) : cmpD (.num a) (.num b) = (if a = b then 0 else if a < b then -1 else 1, true) := rfl
theorem cmp_same (t v : Int) (h : srt (toD t v) ≠ 5) : cmpD (toD t v) (toD t v) = (0, true) := by
  have h2 : toD t v ≠ .nan := fun e => h (srt_nan.2 e)
  generalize toD t v = x at *
  match x with
  | .nan => exact absurd rfl h2
  | .over => rfl
  | .under => rfl
  | .num n => rw [cmp_num, if_pos rfl]
theorem srt_num (n : Int) : (n < 0 ∧ srt (.num n) = 1) ∨ (n = 0 ∧ srt (.num n) = 2) ∨ (0 < n ∧ srt (.num n) = 3) := by
  rcases Int.lt_trichotomy n 0 with h | rfl | h
  · exact .inl ⟨h, srt_neg h⟩
  · exact .inr (.inl ⟨rfl, rfl⟩)
  · exact .inr (.inr ⟨h, srt_pos h⟩)
theorem cmp_math (t1 v1 t2 v2 : Int) (h1 : srt (toD t1 v1) ≠ 5) (h2 : srt (toD t2 v2) ≠ 5) (hne : ¬ (t1 = t2 ∧ v1 = v2)) :
    cmpD (toD t1 v1) (toD t2 v2) = (if srt (toD t1 v1) < srt (toD t2 v2) ∨ (srt (toD t1 v1) = srt (toD t2 v2) ∧ v1 < v2) then -1 else 1, true) := by
  have n1 : toD t1 v1 ≠ .nan := fun e => h1 (srt_nan.2 e)
  have n2 : toD t2 v2 ≠ .nan := fun e => h2 (srt_nan.2 e)
  have h4 : srt .over = 4 := rfl
  have h0 : srt .under = 0 := rfl
  have s1 := srt_num v1
  have s2 := srt_num v2
  rcases toD_cases t1 v1 with ⟨ht1, _, e1, _⟩ | ⟨ht1, hv1, e1, _⟩ | ⟨ht1, hv1, e1, _⟩ | ⟨_, _, e1, _⟩ | ⟨_, _, _, _, e1, _⟩ <;>
    rcases toD_cases t2 v2 with ⟨ht2, _, e2, _⟩ | ⟨ht2, hv2, e2, _⟩ | ⟨ht2, hv2, e2, _⟩ | ⟨_, _, e2, _⟩ | ⟨_, _, _, _, e2, _⟩ <;>
    first
      | exact absurd e1 n1
      | exact absurd e2 n2
      | (exfalso; omega)
      | (rw [e1, e2])
  · rw [cmp_num, if_neg (by omega)]
    generalize srt (.num v1) = x at *
    generalize srt (.num v2) = y at *
    by_cases hc : v1 < v2
    · rw [if_pos hc, if_pos (by omega)]
    · rw [if_neg hc, if_neg (by omega)]
  · rw [if_pos (by omega)]; rfl
  · rw [if_neg (by omega)]; rfl
  · rw [if_neg (by omega)]; rfl
  · rw [if_neg (by omega)]; rfl
  · rw [if_pos (by omega)]; rfl
  · rw [if_pos (by omega)]; rfl
end Go.Proofs.YteooaibbblfmjaaDoor.Char
