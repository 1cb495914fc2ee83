/- Mathematics without a program: the tables of fates of package dec, against the numbers themselves. -/
import Derived.Test.YtncmmdhlponpoaaDecM
namespace Go.Proofs.Ytncmmdhlponpoaa.Char

def addT : List Nat := [2, 2, 2, 2, 0, 0, 2, 5, 5, 5, 1, 0, 2, 5, 5, 5, 1, 0, 2, 5, 5, 5, 1, 0, 0, 1, 1, 1, 1, 0, 0, 0, 0, 0, 0, 0]
def mulT : List Nat := [1, 1, 0, 2, 2, 0, 1, 5, 5, 5, 2, 0, 0, 5, 5, 5, 0, 0, 2, 5, 5, 5, 1, 0, 2, 2, 0, 1, 1, 0, 0, 0, 0, 0, 0, 0]
def divT : List Nat := [0, 1, 2, 2, 0, 0, 3, 5, 2, 5, 3, 0, 3, 5, 0, 5, 3, 0, 3, 5, 1, 5, 3, 0, 0, 2, 1, 1, 0, 0, 0, 0, 0, 0, 0, 0]
def modT : List Nat := [0, 0, 0, 0, 0, 0, 4, 5, 0, 5, 4, 0, 4, 5, 0, 5, 4, 0, 4, 5, 0, 5, 4, 0, 0, 0, 0, 0, 0, 0, 0, 0, 0, 0, 0, 0]
def cellsT (l : List Nat) : Array Value := (l.map fun n : Nat => Value.int .i64 (n : Int)).toArray
theorem cellsT_get (l : List Nat) (k : Nat) (h : k < l.length) : (cellsT l)[k]? = some (.int .i64 ((l.getD k 0 : Nat) : Int)) := by
  simp [cellsT, List.getD, List.getElem?_eq_getElem h]

theorem srt_zero : srt (.num 0) = 2 := rfl
theorem cls (x : Nm) : x = .nan ∨ x = .over ∨ x = .under ∨ (∃ n, x = .num n ∧ n < 0 ∧ srt x = 1 ∧ n.sign = -1) ∨ x = .num 0 ∨ (∃ n, x = .num n ∧ 0 < n ∧ srt x = 3 ∧ n.sign = 1) := by
  match x with
  | .nan => exact .inl rfl
  | .over => exact .inr (.inl rfl)
  | .under => exact .inr (.inr (.inl rfl))
  | .num n =>
    rcases Int.lt_trichotomy n 0 with h | rfl | h
    · exact .inr (.inr (.inr (.inl ⟨n, rfl, h, srt_neg h, Int.sign_eq_neg_one_of_neg h⟩)))
    · exact .inr (.inr (.inr (.inr (.inl rfl))))
    · exact .inr (.inr (.inr (.inr (.inr ⟨n, rfl, h, srt_pos h, Int.sign_eq_one_of_pos h⟩))))
theorem toD_num {t v n : Int} (h : toD t v = .num n) : t = 0 ∧ v = n ∧ v ≠ -9223372036854775808 := by
  rcases toD_cases t v with ⟨h1, h2, e, _⟩ | ⟨_, _, e, _⟩ | ⟨_, _, e, _⟩ | ⟨_, _, e, _⟩ | ⟨_, _, _, _, e, _⟩ <;> rw [e] at h <;> cases h
  exact ⟨h1, rfl, h2⟩

/-- what a fate makes of two numbers; S: what the millionths come to, where E -/
def Fated (t1 v1 : Int) (k : Nat) (S X : Nm) (E : Prop) : Prop :=
  (k = 1 ∧ X = .over) ∨ (k = 2 ∧ X = .under) ∨ (k = 3 ∧ X = .num 0) ∨ (k = 4 ∧ aggV t1 v1 = decV X) ∨ (k = 0 ∧ X = .nan) ∨ (k = 5 ∧ X = S ∧ E)

theorem add_fate (t1 v1 : Int) (x y : Nm) (a b : Int) (hx : ∀ n, x = .num n → n = a) (hy : ∀ n, y = .num n → n = b) :
    Fated t1 v1 (addT.getD (srt x * 6 + srt y) 0) (fitD (a + b)) (addD x y) (∃ n m, x = .num n ∧ y = .num m) := by
  unfold Fated
  rcases cls x with rfl | rfl | rfl | ⟨n, rfl, _, ex, _⟩ | rfl | ⟨n, rfl, _, ex, _⟩ <;> rcases cls y with rfl | rfl | rfl | ⟨m, rfl, _, ey, _⟩ | rfl | ⟨m, rfl, _, ey, _⟩ <;>
    (try rw [ex]) <;> (try rw [ey]) <;> (try rw [← hx _ rfl]) <;> (try rw [← hy _ rfl]) <;>
    first
      | exact .inl ⟨rfl, rfl⟩
      | exact .inr (.inl ⟨rfl, rfl⟩)
      | exact .inr (.inr (.inl ⟨rfl, rfl⟩))
      | exact .inr (.inr (.inr (.inr (.inl ⟨rfl, rfl⟩))))
      | exact .inr (.inr (.inr (.inr (.inr ⟨rfl, rfl, _, _, rfl, rfl⟩))))
theorem mul_fate (t1 v1 : Int) (x y : Nm) (a b : Int) (hx : ∀ n, x = .num n → n = a) (hy : ∀ n, y = .num n → n = b) :
    Fated t1 v1 (mulT.getD (srt x * 6 + srt y) 0) (fitD ((a * b).tdiv 1000000)) (mulD x y) (∃ n m, x = .num n ∧ y = .num m) := by
  unfold Fated
  have em : ∀ x y : Nm, (∀ a b, ¬ (x = .num a ∧ y = .num b)) → x ≠ .nan → y ≠ .nan → mulD x y = pastD (sgn x * sgn y) := fun x y h h1 h2 => by
    cases x <;> cases y <;> first | rfl | exact absurd rfl h1 | exact absurd rfl h2 | exact absurd ⟨rfl, rfl⟩ (h _ _)
  have es : ∀ n : Int, sgn (.num n) = n.sign := fun _ => rfl
  rcases cls x with rfl | rfl | rfl | ⟨n, rfl, _, ex, sx⟩ | rfl | ⟨n, rfl, _, ex, sx⟩ <;> rcases cls y with rfl | rfl | rfl | ⟨m, rfl, _, ey, sy⟩ | rfl | ⟨m, rfl, _, ey, sy⟩ <;>
    (try rw [ex]) <;> (try rw [ey]) <;> (try rw [← hx _ rfl]) <;> (try rw [← hy _ rfl]) <;>
    first
      | exact .inr (.inr (.inr (.inr (.inr ⟨rfl, rfl, _, _, rfl, rfl⟩))))
      | exact .inr (.inr (.inr (.inr (.inl ⟨rfl, rfl⟩))))
      | (rw [em _ _ (fun _ _ h => by cases h.1 <;> cases h.2) (by simp) (by simp)]; (try rw [es]); (try rw [es]); (try rw [sx]); (try rw [sy]); first | exact .inl ⟨rfl, rfl⟩ | exact .inr (.inl ⟨rfl, rfl⟩) | exact .inr (.inr (.inr (.inr (.inl ⟨rfl, rfl⟩)))))
theorem div_fate (t1 v1 : Int) (x y : Nm) (a b : Int) (hx : ∀ n, x = .num n → n = a) (hy : ∀ n, y = .num n → n = b) :
    Fated t1 v1 (divT.getD (srt x * 6 + srt y) 0) (fitD ((a * 1000000).tdiv b)) (divD x y) (∃ n m, x = .num n ∧ y = .num m ∧ m ≠ 0) := by
  unfold Fated
  have e1 : ∀ a b : Int, b ≠ 0 → divD (.num a) (.num b) = fitD ((a * 1000000).tdiv b) := fun a b h => by show (if b = 0 then _ else _) = _; rw [if_neg h]
  have e2 : ∀ a : Int, divD (.num a) (.num 0) = pastD a.sign := fun a => rfl
  have e3 : ∀ b : Int, b ≠ 0 → divD .over (.num b) = pastD (1 * b.sign) := fun b h => by show (if b = 0 then _ else _) = _; rw [if_neg h]; rfl
  have e4 : ∀ b : Int, b ≠ 0 → divD .under (.num b) = pastD (-1 * b.sign) := fun b h => by show (if b = 0 then _ else _) = _; rw [if_neg h]; rfl
  rcases cls x with rfl | rfl | rfl | ⟨n, rfl, _, ex, sx⟩ | rfl | ⟨n, rfl, _, ex, sx⟩ <;> rcases cls y with rfl | rfl | rfl | ⟨m, rfl, hm, ey, sy⟩ | rfl | ⟨m, rfl, hm, ey, sy⟩ <;>
    (try rw [ex]) <;> (try rw [ey]) <;> (try (have e := hx _ rfl; subst e)) <;> (try (have e := hy _ rfl; subst e)) <;>
    first
      | (rw [e1 _ _ (by omega)]; exact .inr (.inr (.inr (.inr (.inr ⟨rfl, rfl, _, _, rfl, rfl, by omega⟩)))))
      | (rw [e2]; (try rw [sx]); first | exact .inl ⟨rfl, rfl⟩ | exact .inr (.inl ⟨rfl, rfl⟩) | exact .inr (.inr (.inr (.inr (.inl ⟨rfl, rfl⟩)))))
      | (rw [e3 _ (by omega), sy]; first | exact .inl ⟨rfl, rfl⟩ | exact .inr (.inl ⟨rfl, rfl⟩))
      | (rw [e4 _ (by omega), sy]; first | exact .inl ⟨rfl, rfl⟩ | exact .inr (.inl ⟨rfl, rfl⟩))
      | exact .inl ⟨rfl, rfl⟩
      | exact .inr (.inl ⟨rfl, rfl⟩)
      | exact .inr (.inr (.inl ⟨rfl, rfl⟩))
      | exact .inr (.inr (.inr (.inr (.inl ⟨rfl, rfl⟩))))
theorem mod_fate (t1 v1 : Int) (x y : Nm) (a b : Int) (hx : ∀ n, x = .num n → n = a) (hy : ∀ n, y = .num n → n = b) (h4 : ∀ n, x = .num n → aggV t1 v1 = decV (.num n)) :
    Fated t1 v1 (modT.getD (srt x * 6 + srt y) 0) (.num (a.tmod b)) (modD x y) (∃ n m, x = .num n ∧ y = .num m ∧ m ≠ 0) := by
  unfold Fated
  have e1 : ∀ a b : Int, b ≠ 0 → modD (.num a) (.num b) = .num (a.tmod b) := fun a b h => by show (if b = 0 then _ else _) = _; rw [if_neg h]
  have e2 : ∀ a : Int, modD (.num a) (.num 0) = .nan := fun a => rfl
  rcases cls x with rfl | rfl | rfl | ⟨n, rfl, _, ex, sx⟩ | rfl | ⟨n, rfl, _, ex, sx⟩ <;> rcases cls y with rfl | rfl | rfl | ⟨m, rfl, hm, ey, sy⟩ | rfl | ⟨m, rfl, hm, ey, sy⟩ <;>
    (try rw [ex]) <;> (try rw [ey]) <;> (try (have e := hx _ rfl; subst e)) <;> (try (have e := hy _ rfl; subst e)) <;>
    first
      | (rw [e1 _ _ (by omega)]; exact .inr (.inr (.inr (.inr (.inr ⟨rfl, rfl, _, _, rfl, rfl, by omega⟩)))))
      | (rw [e2]; exact .inr (.inr (.inr (.inr (.inl ⟨rfl, rfl⟩)))))
      | exact .inr (.inr (.inr (.inl ⟨rfl, h4 _ rfl⟩)))
      | exact .inr (.inr (.inr (.inr (.inl ⟨rfl, rfl⟩))))
end Go.Proofs.Ytncmmdhlponpoaa.Char
