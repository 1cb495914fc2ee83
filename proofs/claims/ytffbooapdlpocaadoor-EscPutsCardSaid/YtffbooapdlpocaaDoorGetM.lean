/- Mathematics without a program: a reference by the places of its bytes. -/
import Derived.Test.YtffbooapdlpocaaDoorEscM
namespace Go.Proofs.YtffbooapdlpocaaDoor.Char
open Go.Lib

theorem refL_app (a X : List UInt8) (h : a.all noS = true) : refL (a ++ 59 :: X) = (chL a).map fun n => (n, X) := by
  have ht : ∀ a : List UInt8, a.all noS = true → (a ++ 59 :: X).takeWhile noS = a ∧ (a ++ 59 :: X).dropWhile noS = 59 :: X := by
    intro a
    induction a with
    | nil => intro _; exact ⟨by simp [noS], by simp [noS]⟩
    | cons x a ih =>
      intro h
      rw [List.all_cons, Bool.and_eq_true] at h
      obtain ⟨h1, h2⟩ := ih h.2
      simp [h.1, h1, h2]
  have hn : (a ++ 59 :: X).all noS = false := by
    rw [List.all_append, List.all_cons, show noS 59 = false from rfl]
    simp
  unfold refL
  rw [hn, (ht a h).1, (ht a h).2]
  rfl
theorem getD_at (l : List UInt8) (j : Nat) (h : j < l.length) : l.getD j 0 = l[j] := by simp [List.getD, List.getElem?_eq_getElem h]
theorem refL_at (l : List UInt8) (p e : Nat) (hp : p ≤ e) (he : e < l.length) (h59 : l.getD e 0 = 59) (hn : ∀ j, p ≤ j → j < e → l.getD j 0 ≠ 59) :
    refL (l.drop p) = (chL ((l.drop p).take (e - p))).map fun n => (n, l.drop (e + 1)) := by
  have e1 : l.drop p = (l.drop p).take (e - p) ++ 59 :: l.drop (e + 1) := by
    have h1 := List.take_append_drop (e - p) (l.drop p)
    rw [List.drop_drop, show p + (e - p) = e by omega, List.drop_eq_getElem_cons he, ← getD_at l e he, h59] at h1
    exact h1.symm
  have hall : ((l.drop p).take (e - p)).all noS = true := by
    rw [List.all_eq_true]
    intro x hx
    obtain ⟨i, hi, rfl⟩ := List.getElem_of_mem hx
    rw [List.length_take, List.length_drop] at hi
    rw [List.getElem_take, List.getElem_drop]
    have := hn (p + i) (by omega) (by omega)
    rw [getD_at l (p + i) (by omega)] at this
    unfold noS
    simpa using this
  conv => lhs; rw [e1]
  exact refL_app _ _ hall
theorem refL_off (l : List UInt8) (p : Nat) (hn : ∀ j, p ≤ j → j < l.length → l.getD j 0 ≠ 59) : refL (l.drop p) = none := by
  unfold refL
  rw [if_pos]
  rw [List.all_eq_true]
  intro x hx
  obtain ⟨i, hi, rfl⟩ := List.getElem_of_mem hx
  rw [List.length_drop] at hi
  rw [List.getElem_drop]
  have := hn (p + i) (by omega) (by omega)
  rw [getD_at l (p + i) (by omega)] at this
  unfold noS
  simpa using this
end Go.Proofs.YtffbooapdlpocaaDoor.Char
