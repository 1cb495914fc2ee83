/- The two stores through a script: how great they grow, and where they begin. -/
import Derived.Test.YtpimdmjhnogelaaStep9
namespace Go.Proofs.Ytpimdmjhnogelaa.Char
open Go.RowKit Go.Lib

theorem sweepL_le (o : Nat) : ∀ L : List On, (sweepL o L).length ≤ L.length
  | [] => Nat.le_refl _
  | x :: r => by
    rw [sweepL]
    have := sweepL_le o r
    split
    · simp only [List.length_cons]; omega
    · simp only [List.length_cons]; omega
theorem stepS_given (S : Sto) (x : StV) : (stepS S x).given ≤ S.given + 1 := by
  unfold stepS
  split
  · exact Nat.le_refl _
  · split
    · unfold instS
      split
      · exact Nat.le_succ _
      · exact Nat.le_succ _
    · split
      · exact Nat.le_succ _
      · exact Nat.le_succ _
theorem stepS_len (S : Sto) (x : StV) : (stepS S x).L.length ≤ S.L.length + S.given := by
  unfold stepS
  split
  · exact Nat.le_add_right _ _
  · split
    · unfold instS
      split
      · next h =>
        have hb : badC S.given [] (x.cs.map toCh) = false := by
          unfold instE at h
          split at h
          · cases h
          · split at h
            · cases h
            · next hb => simpa using hb
        have := bad_len hb
        simp only [layC, List.length_append, List.length_map] at this ⊢
        omega
      · exact Nat.le_add_right _ _
    · split
      · exact Nat.le_trans (sweepL_le _ _) (Nat.le_add_right _ _)
      · exact Nat.le_add_right _ _
/-- how great the store may be behind k steps -/
def FitS (k : Nat) (S : Sto) : Prop := S.given ≤ 1 + k ∧ S.L.length ≤ 1 + 62 * k
theorem FitS.start : FitS 0 newS := ⟨by decide, by decide⟩
theorem FitS.step {k : Nat} {S : Sto} (h : FitS k S) (hk : k < 60) (x : StV) : FitS (k + 1) (stepS S x) := by
  have h1 := stepS_given S x
  have h2 := stepS_len S x
  have := h.1
  have := h.2
  exact ⟨by omega, by omega⟩
theorem FitS.g {k : Nat} {S : Sto} (h : FitS k S) (hk : k ≤ 60) : S.given ≤ 1000 := by have := h.1; omega
theorem FitS.l {k : Nat} {S : Sto} (h : FitS k S) (hk : k ≤ 60) : S.L.length ≤ 10000 := by have := h.2; omega
/-- the two new stores -/
theorem two_start {B : Nat} {w w1 w2 : World} {s d : Nat} {v : Value} (p : PS (fun g => w.heap.size ≤ g ∧ g < w1.heap.size) B w1 s newS) (hb : Below w1.heap.size w1 w2) (r : RefS B w2 d v [(1, 0, rootV)] 1 0) (ho : ∀ k, ownB d v k → w1.heap.size ≤ k) : Two B w2 s d newS :=
  ⟨_, v, _, p.below hb, r, rfl, fun k hk hn => by have := ho k hn; omega⟩
end Go.Proofs.Ytpimdmjhnogelaa.Char
