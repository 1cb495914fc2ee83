/- PlainM -/
import Derived.Test.YtbpamfjhinmbcaaGreatDoorLawPieces
/- Mathematics without a program: a text in which no markup, and no reference, begins. -/
namespace Go.Proofs.YtbpamfjhinmbcaaGreatDoor.Char
open Go.Lib

theorem gL_plain : ∀ (l acc : List UInt8), (∀ x, x ∈ l → x ≠ 60 ∧ x ≠ 38 ∧ x ≠ 13) → gL false acc l = (acc ++ l, 0)
  | [], acc, _ => by rw [gL_end acc rfl, List.append_nil]
  | b :: t, acc, h => by
    obtain ⟨h1, h2, h3⟩ := h b (by simp)
    have hs : stp false (b :: t) = .inr ([b], t) := by
      rw [stp_cons]
      rw [if_neg h1, if_neg h2, if_neg h3]
      simp
    rw [gL_step acc hs, gL_plain t _ (fun x hx => h x (by simp [hx])), List.append_assoc]
    rfl
theorem lines_mem : ∀ (n : Nat) (l : List UInt8), l.length ≤ n → ∀ x, x ∈ linesL l → x = 10 ∨ x ∈ l
  | _, [], _ => by simp [lines_nil]
  | 0, b :: t, h => by simp at h
  | n + 1, b :: t, h => by
    rw [List.length_cons] at h
    have hl := ln_le t
    intro x hx
    by_cases hb : b = 13
    · subst hb
      rw [lines_cr, List.mem_cons] at hx
      rcases hx with rfl | hx
      · exact .inl rfl
      · rcases lines_mem n (lnL t) (by omega) x hx with h | h
        · exact .inl h
        · refine .inr ?_
          unfold lnL at h
          split at h
          · exact List.mem_cons_of_mem _ (List.mem_of_mem_drop h)
          · exact List.mem_cons_of_mem _ h
    · rw [lines_o _ hb, List.mem_cons] at hx
      rcases hx with rfl | hx
      · exact .inr (by simp)
      · rcases lines_mem n t (by omega) x hx with h | h
        · exact .inl h
        · exact .inr (List.mem_cons_of_mem _ h)
theorem pre_not {c b : UInt8} (t m : List UInt8) (h : b ≠ c) : (c :: m).isPrefixOf (b :: t) = false := by
  simp [List.isPrefixOf]
  exact fun hh => absurd hh.symm h
theorem tw_all (p : UInt8 → Bool) : ∀ (l : List UInt8), (∀ x, x ∈ l → p x = true) → l.takeWhile p = l
  | [], _ => rfl
  | b :: t, h => by rw [List.takeWhile_cons, if_pos (h b (by simp)), tw_all p t (fun x hx => h x (by simp [hx]))]
theorem scanF_plain (L : List UInt8) (hne : L ≠ []) (ht : txD L = true) (h : ∀ x, x ∈ L → x ≠ 60 ∧ x ≠ 38 ∧ x ≠ 13) : scanF L [] = .inr [⟨3, [], L, [], false⟩] := by
  have hlt : ltL L = L.length := by
    unfold ltL
    rw [tw_all noL L (fun x hx => by
      unfold noL
      simpa using (h x hx).1)]
  have ho : oneP L = .inr (⟨3, [], L, [], false⟩, []) := by
    cases L with
    | nil => exact absurd rfl hne
    | cons b t =>
      have hb := (h b (by simp)).1
      unfold oneP
      rw [pre_not t _ hb, pre_not t _ hb, pre_not t _ hb, pre_not t _ hb, pre_not t _ hb, pre_not t _ hb]
      simp only [Bool.false_eq_true, if_false]
      unfold txtP
      rw [hlt, List.take_length, List.drop_length, get_yes ht, gL_plain _ _ h]
      rfl
  rw [scanF_ok hne ho, scanF_nil]
  rfl
theorem scan_plain (l : List UInt8) (h : ∀ x, x ∈ l → x ≠ 60 ∧ x ≠ 38) : scanL l = if 4000 < l.length then .inl 3 else if txD l = false then .inl 10 else if l = [] then .inr [] else .inr [⟨3, [], linesL l, [], false⟩] := by
  unfold scanL
  by_cases h4 : 4000 < l.length
  · rw [if_pos h4, if_pos h4]
  rw [if_neg h4, if_neg h4]
  by_cases ht : txD l = false
  · rw [if_pos ht, if_pos ht]
  rw [if_neg ht, if_neg ht]
  by_cases hn : l = []
  · subst hn; rfl
  rw [if_neg hn]
  have hf := lines_free _ l (Nat.le_refl _)
  refine scanF_plain _ ?_ (by rw [lines_tx _ l (Nat.le_refl _)]; simpa using ht) (fun x hx => ?_)
  · cases l with
    | nil => exact absurd rfl hn
    | cons b t =>
      by_cases hb : b = 13
      · subst hb; rw [lines_cr]; simp
      · rw [lines_o _ hb]; simp
  · refine ⟨?_, ?_, hf x hx⟩
    · rcases lines_mem _ l (Nat.le_refl _) x hx with rfl | h1
      · decide
      · exact (h x h1).1
    · rcases lines_mem _ l (Nat.le_refl _) x hx with rfl | h1
      · decide
      · exact (h x h1).2
end Go.Proofs.YtbpamfjhinmbcaaGreatDoor.Char
