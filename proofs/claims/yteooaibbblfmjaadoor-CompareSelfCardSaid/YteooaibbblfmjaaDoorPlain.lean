/- Plain mathematics of runes and bytes: no program stands in it. -/
import Derived.Lib.ValidLaws
import Derived.Lib.TrimUEq
import Derived.Lib.MapLaws
namespace Go.Proofs.YteooaibbblfmjaaDoor.Char
open Go.Lib

/-- all the runes that a range over these bytes gives are such -/
def allN (p : Int → Bool) : Nat → List UInt8 → Bool
  | 0, _ => true
  | n + 1, l => if l = [] then true else p ((decodeL l).1 : Int) && allN p n (l.drop (decodeL l).2)
def allR (p : Int → Bool) (l : List UInt8) : Bool := allN p l.length l

theorem allN_nil (p : Int → Bool) : ∀ n, allN p n [] = true
  | 0 => rfl
  | _ + 1 => by simp [allN]
theorem allN_fuel (p : Int → Bool) : ∀ (n m : Nat) (l : List UInt8), l.length ≤ n → l.length ≤ m → allN p n l = allN p m l
  | 0, m, l, hn, _ => by
    obtain rfl : l = [] := List.eq_nil_of_length_eq_zero (by omega)
    rw [allN_nil, allN_nil]
  | n + 1, 0, l, _, hm => by
    obtain rfl : l = [] := List.eq_nil_of_length_eq_zero (by omega)
    rw [allN_nil, allN_nil]
  | n + 1, m + 1, l, hn, hm => by
    unfold allN
    by_cases hne : l = []
    · simp [hne]
    · have hw := decodeL_width l
      have hl : 0 < l.length := List.length_pos_iff.2 hne
      rw [if_neg hne, if_neg hne, allN_fuel p n m (l.drop (decodeL l).2) (by rw [List.length_drop]; omega) (by rw [List.length_drop]; omega)]
theorem allR_nil (p : Int → Bool) : allR p [] = true := rfl
theorem allR_step (p : Int → Bool) (l : List UInt8) (hne : l ≠ []) : allR p l = (p ((decodeL l).1 : Int) && allR p (l.drop (decodeL l).2)) := by
  have hl : 0 < l.length := List.length_pos_iff.2 hne
  have hw := decodeL_width l
  obtain ⟨n, hn⟩ : ∃ n, l.length = n + 1 := ⟨l.length - 1, by omega⟩
  unfold allR
  rw [hn]
  show (if l = [] then true else _) = _
  rw [if_neg hne, allN_fuel p n (l.drop (decodeL l).2).length _ (by rw [List.length_drop]; omega) (Nat.le_refl _)]

theorem allR_and (p q : Int → Bool) : ∀ (n : Nat) (l : List UInt8), l.length ≤ n → (allR (fun r => p r && q r) l = (allR p l && allR q l))
  | 0, l, h => by
    obtain rfl : l = [] := List.eq_nil_of_length_eq_zero (by omega)
    rfl
  | n + 1, l, h => by
    by_cases hne : l = []
    · subst hne; rfl
    · have hw := decodeL_width l
      rw [allR_step _ l hne, allR_step p l hne, allR_step q l hne, allR_and p q n _ (by rw [List.length_drop]; omega)]
      cases p ((decodeL l).1 : Int) <;> cases q ((decodeL l).1 : Int) <;> simp
theorem allR_imp (p q : Int → Bool) (h : ∀ r, p r = true → q r = true) : ∀ (n : Nat) (l : List UInt8), l.length ≤ n → allR p l = true → allR q l = true
  | 0, l, hl, _ => by
    obtain rfl : l = [] := List.eq_nil_of_length_eq_zero (by omega)
    rfl
  | n + 1, l, hl, ha => by
    by_cases hne : l = []
    · subst hne; rfl
    · have hw := decodeL_width l
      rw [allR_step p l hne, Bool.and_eq_true] at ha
      rw [allR_step q l hne, Bool.and_eq_true]
      exact ⟨h _ ha.1, allR_imp p q h n _ (by rw [List.length_drop]; omega) ha.2⟩

/-- the rune at a place of a string is that of the bytes from there on -/
theorem decode_drop (s : ByteArray) (pos : Nat) : Utf8.decode s pos = decodeL (s.data.toList.drop pos) := (decodeL_drop s pos).symm
theorem drop_ne (s : ByteArray) (pos : Nat) (h : pos < s.size) : s.data.toList.drop pos ≠ [] := by
  have e : s.data.toList.length = s.size := by rw [Array.length_toList]; rfl
  intro h0
  have := congrArg List.length h0
  simp at this
  have e2 : s.data.size = s.size := rfl
  omega
theorem drop_end (s : ByteArray) (pos : Nat) (h : ¬ pos < s.size) : s.data.toList.drop pos = [] := by
  apply List.drop_eq_nil_of_le
  have e : s.data.toList.length = s.size := by rw [Array.length_toList]; rfl
  omega
theorem allR_at (p : Int → Bool) (s : ByteArray) (pos : Nat) (h : pos < s.size) :
    allR p (s.data.toList.drop pos) = (p ((Utf8.decode s pos).1 : Int) && allR p (s.data.toList.drop (pos + (Utf8.decode s pos).2))) := by
  rw [allR_step p _ (drop_ne s pos h), decode_drop, List.drop_drop]
theorem int32_lo {a : Int} (h : (Lit.int .i32 a).wf = true) : -2147483648 ≤ a := by
  have : -2147483648 ≤ a ∧ a ≤ 2147483647 := by simpa [Lit.wf, IntKind.min, IntKind.max, IntKind.signed, IntKind.bits] using h
  exact this.1
theorem int32_hi {a : Int} (h : (Lit.int .i32 a).wf = true) : a ≤ 2147483647 := by
  have : -2147483648 ≤ a ∧ a ≤ 2147483647 := by simpa [Lit.wf, IntKind.min, IntKind.max, IntKind.signed, IntKind.bits] using h
  exact this.2
end Go.Proofs.YteooaibbblfmjaaDoor.Char
