/- Plain mathematics of texts one behind the other: no program stands in it. -/
import Derived.Test.YteooaibbblfmjaaDoorPlain
import Derived.Test.YteooaibbblfmjaaDoorLists
import Derived.Laws.RangeAny
namespace Go.Proofs.YteooaibbblfmjaaDoor.Char
open Go.Lib

set_option maxRecDepth 100000 in
set_option maxHeartbeats 4000000 in
/-- more bytes behind a whole character turn nothing of it -/
theorem decodeN_more (n n' b0 b1 b2 b3 c1 c2 c3 : Nat) (hn : n ≤ n') (h1 : 1 < n → c1 = b1) (h2 : 2 < n → c2 = b2) (h3 : 3 < n → c3 = b3)
    (hv : ¬ ((decodeN n b0 b1 b2 b3).1 = 65533 ∧ (decodeN n b0 b1 b2 b3).2 = 1)) : decodeN n' b0 c1 c2 c3 = decodeN n b0 b1 b2 b3 := by
  by_cases a0 : b0 < 128
  · simp only [decodeN, if_pos a0]
  by_cases a1 : b0 / 32 = 6 ∧ (1 < n ∧ b1 / 64 = 2)
  · have e1 := h1 a1.2.1
    subst e1
    have a1' : b0 / 32 = 6 ∧ (1 < n' ∧ c1 / 64 = 2) := ⟨a1.1, by omega, a1.2.2⟩
    simp only [decodeN, if_neg a0, if_pos a1, if_pos a1']
  by_cases a2 : b0 / 16 = 14 ∧ (1 < n ∧ b1 / 64 = 2) ∧ (2 < n ∧ b2 / 64 = 2)
  · have e1 := h1 a2.2.1.1
    have e2 := h2 a2.2.2.1
    subst e1 e2
    have x1 : ¬ (b0 / 32 = 6 ∧ (1 < n' ∧ c1 / 64 = 2)) := by omega
    have a2' : b0 / 16 = 14 ∧ (1 < n' ∧ c1 / 64 = 2) ∧ (2 < n' ∧ c2 / 64 = 2) := ⟨a2.1, ⟨by omega, a2.2.1.2⟩, by omega, a2.2.2.2⟩
    simp only [decodeN, if_neg a0, if_neg a1, if_neg x1, if_pos a2, if_pos a2']
  by_cases a3 : b0 / 8 = 30 ∧ (1 < n ∧ b1 / 64 = 2) ∧ (2 < n ∧ b2 / 64 = 2) ∧ (3 < n ∧ b3 / 64 = 2)
  · have e1 := h1 a3.2.1.1
    have e2 := h2 a3.2.2.1.1
    have e3 := h3 a3.2.2.2.1
    subst e1 e2 e3
    have x1 : ¬ (b0 / 32 = 6 ∧ (1 < n' ∧ c1 / 64 = 2)) := by omega
    have x2 : ¬ (b0 / 16 = 14 ∧ (1 < n' ∧ c1 / 64 = 2) ∧ (2 < n' ∧ c2 / 64 = 2)) := by omega
    have a3' : b0 / 8 = 30 ∧ (1 < n' ∧ c1 / 64 = 2) ∧ (2 < n' ∧ c2 / 64 = 2) ∧ (3 < n' ∧ c3 / 64 = 2) := ⟨a3.1, ⟨by omega, a3.2.1.2⟩, ⟨by omega, a3.2.2.1.2⟩, by omega, a3.2.2.2.2⟩
    simp only [decodeN, if_neg a0, if_neg a1, if_neg a2, if_neg x1, if_neg x2, if_pos a3, if_pos a3']
  · exfalso
    apply hv
    simp only [decodeN, if_neg a0, if_neg a1, if_neg a2, if_neg a3]
    exact ⟨trivial, trivial⟩

theorem decodeL_more (a b : List UInt8) (hne : a ≠ []) (hv : ¬ ((decodeL a).1 = 65533 ∧ (decodeL a).2 = 1)) : decodeL (a ++ b) = decodeL a := by
  have hl : 0 < a.length := List.length_pos_iff.2 hne
  have hg : ∀ j, j < a.length → ((a ++ b).getD j 0) = a.getD j 0 := fun j hj => by
    simp [List.getD, List.getElem?_append_left hj]
  rw [decodeL_N] at hv
  rw [decodeL_N, decodeL_N, hg 0 hl]
  exact decodeN_more _ _ _ _ _ _ _ _ _ (by simp) (fun h => by rw [hg 1 h]) (fun h => by rw [hg 2 h]) (fun h => by rw [hg 3 h]) hv

theorem validD_more : ∀ (n : Nat) (a b : List UInt8), a.length ≤ n → validD a = true → validD (a ++ b) = validD b
  | 0, a, b, hl, _ => by
    obtain rfl : a = [] := List.eq_nil_of_length_eq_zero (by omega)
    rfl
  | n + 1, a, b, hl, hv => by
    by_cases hne : a = []
    · subst hne; rfl
    · have hw := decodeL_width a
      have hle := decodeL_le a hne
      rw [validD_step a hne] at hv
      by_cases hb : (decodeL a).1 = 65533 ∧ (decodeL a).2 = 1
      · rw [if_pos hb] at hv; cases hv
      · rw [if_neg hb] at hv
        rw [validD_step (a ++ b) (by simp [hne]), decodeL_more a b hne hb, if_neg hb, List.drop_append_of_le_length hle]
        exact validD_more n _ b (by rw [List.length_drop]; omega) hv
theorem allR_more (p : Int → Bool) : ∀ (n : Nat) (a b : List UInt8), a.length ≤ n → validD a = true → allR p (a ++ b) = (allR p a && allR p b)
  | 0, a, b, hl, _ => by
    obtain rfl : a = [] := List.eq_nil_of_length_eq_zero (by omega)
    rfl
  | n + 1, a, b, hl, hv => by
    by_cases hne : a = []
    · subst hne; rfl
    · have hw := decodeL_width a
      have hle := decodeL_le a hne
      rw [validD_step a hne] at hv
      by_cases hb : (decodeL a).1 = 65533 ∧ (decodeL a).2 = 1
      · rw [if_pos hb] at hv; cases hv
      · rw [if_neg hb] at hv
        rw [allR_step p (a ++ b) (by simp [hne]), decodeL_more a b hne hb, List.drop_append_of_le_length hle, allR_more p n _ b (by rw [List.length_drop]; omega) hv, allR_step p a hne, Bool.and_assoc]

/-- a space is one byte -/
theorem spC_high (n : Int) (h : 128 ≤ n) : spC n = false := by
  unfold spC
  simp only [Bool.or_eq_false_iff, beq_eq_false_iff_ne]
  omega
theorem decodeL_high (b : UInt8) (t : List UInt8) (h : ¬ b.toNat < 128) : 128 ≤ (decodeL (b :: t)).1 := by
  have := (decode_high ⟨(b :: t).toArray⟩ 0 (by show 0 < (b :: t).toArray.size; simp) (by
    show 128 ≤ ((b :: t).toArray[0]'(by simp)).toNat
    simp; omega)).1
  exact this
theorem blank_bytes : ∀ (n : Nat) (l : List UInt8), l.length ≤ n → allR spC l = l.all fun c => spC (c.toNat : Int)
  | 0, l, h => by
    obtain rfl : l = [] := List.eq_nil_of_length_eq_zero (by omega)
    rfl
  | n + 1, [], _ => rfl
  | n + 1, c :: t, h => by
    rw [allR_step spC _ (by simp), List.all_cons]
    by_cases hc : c.toNat < 128
    · rw [decodeL_ascii c t hc]
      simp only [List.drop_succ_cons, List.drop_zero]
      rw [blank_bytes n t (by simpa using h)]
    · have h1 := decodeL_high c t hc
      rw [spC_high _ (by omega), spC_high (c.toNat : Int) (by omega)]
      rfl
theorem blank_join (a b : List UInt8) : allR spC (a ++ b) = (allR spC a && allR spC b) := by
  rw [blank_bytes _ _ (Nat.le_refl _), blank_bytes _ a (Nat.le_refl _), blank_bytes _ b (Nat.le_refl _), List.all_append]
end Go.Proofs.YteooaibbblfmjaaDoor.Char
