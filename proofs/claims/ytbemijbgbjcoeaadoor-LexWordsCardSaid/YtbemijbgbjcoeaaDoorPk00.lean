/- Plain Lists TxM Plain2 One ScanM Bs RefSp FindW SpcW Shelf12 -/
import Derived.Lib.ValidLaws
import Derived.Lib.TrimUEq
import Derived.Lib.MapLaws
import Derived.Laws.RangeAny
import Derived.Lib.OthersKept
import Derived.WalkSmall
import Derived.Lib.IndexMore
import Derived.Test.YtbemijbgbjcoeaaDoorProg
import Derived.WalkKit
import Derived.Below
import Derived.Outline
import Derived.Lib.Hide
import Derived.Laws.Strings3
import Derived.WideShapes
import Derived.Shelf.Strings.FuncGrows
import Derived.Shelf.Strings.Prefix
import Derived.Shelf.Strings.Cut
import Derived.Shelf.Small.Wraps
import Derived.Shelf.Strings.Repeat
/- Plain mathematics of runes and bytes: no program stands in it. -/
namespace Go.Proofs.YtbemijbgbjcoeaaDoor.Char
open Go.Lib

/-- all the runes that a range over these bytes gives are such -/
def allN (p : Int → Bool) : Nat → List UInt8 → Bool
  | 0, _ => true
  | n + 1, l => if l = [] then true else p ((decodeL l).1 : Int) && allN p n (l.drop (decodeL l).2)
def allR (p : Int → Bool) (l : List UInt8) : Bool := allN p l.length l

theorem allN_nil (p : Int → Bool) : ∀ n, allN p n [] = true
  | 0 => rfl
  | _ + 1 => by simp [allN]
theorem allN_fuel (p : Int → Bool) : ∀ (n m : Nat) (l : List UInt8), l.length ≤ n → l.length ≤ m → allN p n l = allN p m l
  | 0, m, l, hn, _ => by
    obtain rfl : l = [] := List.eq_nil_of_length_eq_zero (by omega)
    rw [allN_nil, allN_nil]
  | n + 1, 0, l, _, hm => by
    obtain rfl : l = [] := List.eq_nil_of_length_eq_zero (by omega)
    rw [allN_nil, allN_nil]
  | n + 1, m + 1, l, hn, hm => by
    unfold allN
    by_cases hne : l = []
    · simp [hne]
    · have hw := decodeL_width l
      have hl : 0 < l.length := List.length_pos_iff.2 hne
      rw [if_neg hne, if_neg hne, allN_fuel p n m (l.drop (decodeL l).2) (by rw [List.length_drop]; omega) (by rw [List.length_drop]; omega)]
theorem allR_nil (p : Int → Bool) : allR p [] = true := rfl
theorem allR_step (p : Int → Bool) (l : List UInt8) (hne : l ≠ []) : allR p l = (p ((decodeL l).1 : Int) && allR p (l.drop (decodeL l).2)) := by
  have hl : 0 < l.length := List.length_pos_iff.2 hne
  have hw := decodeL_width l
  obtain ⟨n, hn⟩ : ∃ n, l.length = n + 1 := ⟨l.length - 1, by omega⟩
  unfold allR
  rw [hn]
  show (if l = [] then true else _) = _
  rw [if_neg hne, allN_fuel p n (l.drop (decodeL l).2).length _ (by rw [List.length_drop]; omega) (Nat.le_refl _)]

theorem allR_and (p q : Int → Bool) : ∀ (n : Nat) (l : List UInt8), l.length ≤ n → (allR (fun r => p r && q r) l = (allR p l && allR q l))
  | 0, l, h => by
    obtain rfl : l = [] := List.eq_nil_of_length_eq_zero (by omega)
    rfl
  | n + 1, l, h => by
    by_cases hne : l = []
    · subst hne; rfl
    · have hw := decodeL_width l
      rw [allR_step _ l hne, allR_step p l hne, allR_step q l hne, allR_and p q n _ (by rw [List.length_drop]; omega)]
      cases p ((decodeL l).1 : Int) <;> cases q ((decodeL l).1 : Int) <;> simp
theorem allR_imp (p q : Int → Bool) (h : ∀ r, p r = true → q r = true) : ∀ (n : Nat) (l : List UInt8), l.length ≤ n → allR p l = true → allR q l = true
  | 0, l, hl, _ => by
    obtain rfl : l = [] := List.eq_nil_of_length_eq_zero (by omega)
    rfl
  | n + 1, l, hl, ha => by
    by_cases hne : l = []
    · subst hne; rfl
    · have hw := decodeL_width l
      rw [allR_step p l hne, Bool.and_eq_true] at ha
      rw [allR_step q l hne, Bool.and_eq_true]
      exact ⟨h _ ha.1, allR_imp p q h n _ (by rw [List.length_drop]; omega) ha.2⟩

/-- the rune at a place of a string is that of the bytes from there on -/
theorem decode_drop (s : ByteArray) (pos : Nat) : Utf8.decode s pos = decodeL (s.data.toList.drop pos) := (decodeL_drop s pos).symm
theorem drop_ne (s : ByteArray) (pos : Nat) (h : pos < s.size) : s.data.toList.drop pos ≠ [] := by
  have e : s.data.toList.length = s.size := by rw [Array.length_toList]; rfl
  intro h0
  have := congrArg List.length h0
  simp at this
  have e2 : s.data.size = s.size := rfl
  omega
theorem drop_end (s : ByteArray) (pos : Nat) (h : ¬ pos < s.size) : s.data.toList.drop pos = [] := by
  apply List.drop_eq_nil_of_le
  have e : s.data.toList.length = s.size := by rw [Array.length_toList]; rfl
  omega
theorem allR_at (p : Int → Bool) (s : ByteArray) (pos : Nat) (h : pos < s.size) :
    allR p (s.data.toList.drop pos) = (p ((Utf8.decode s pos).1 : Int) && allR p (s.data.toList.drop (pos + (Utf8.decode s pos).2))) := by
  rw [allR_step p _ (drop_ne s pos h), decode_drop, List.drop_drop]
theorem int32_lo {a : Int} (h : (Lit.int .i32 a).wf = true) : -2147483648 ≤ a := by
  have : -2147483648 ≤ a ∧ a ≤ 2147483647 := by simpa [Lit.wf, IntKind.min, IntKind.max, IntKind.signed, IntKind.bits] using h
  exact this.1
theorem int32_hi {a : Int} (h : (Lit.int .i32 a).wf = true) : a ≤ 2147483647 := by
  have : -2147483648 ≤ a ∧ a ≤ 2147483647 := by simpa [Lit.wf, IntKind.min, IntKind.max, IntKind.signed, IntKind.bits] using h
  exact this.2
end Go.Proofs.YtbemijbgbjcoeaaDoor.Char

/- Mathematics without a program: a number within pairs of a first and a last one; the document's lists of them. -/
namespace Go.Proofs.YtbemijbgbjcoeaaDoor.Char
open Go.RowKit

/-- a number is within pairs of a first and a last one -/
def inP : List Int → Int → Bool
  | a :: b :: r, n => (decide (a ≤ n) && decide (n ≤ b)) || inP r n
  | _, _ => false

theorem inP_step (zs : List Int) (n : Int) (k : Nat) (h : k + 1 < zs.length) :
    inP (zs.drop k) n = ((decide (zs.getD k 0 ≤ n) && decide (n ≤ zs.getD (k + 1) 0)) || inP (zs.drop (k + 2)) n) := by
  have e1 : zs.drop k = zs.getD k 0 :: zs.getD (k + 1) 0 :: zs.drop (k + 2) := by
    rw [List.drop_eq_getElem_cons (by omega : k < zs.length), List.drop_eq_getElem_cons (by omega : k + 1 < zs.length)]
    simp [List.getD, List.getElem?_eq_getElem h, List.getElem?_eq_getElem (by omega : k < zs.length)]
  rw [e1]
  rfl
theorem inP_end (zs : List Int) (n : Int) (k : Nat) (h : ¬ k + 1 < zs.length) : inP (zs.drop k) n = false := by
  have : (zs.drop k).length ≤ 1 := by simp; omega
  match zs.drop k, this with
  | [], _ => rfl
  | [_], _ => rfl
  | _ :: _ :: _, h2 => simp at h2

def isL : List Int := [9, 9, 10, 10, 13, 13, 32, 0xd7ff, 0xe000, 0xfffd, 0x10000, 0x10ffff]
def stL : List Int := [0x41, 0x5a, 0x5f, 0x5f, 0x61, 0x7a, 0xc0, 0xd6, 0xd8, 0xf6, 0xf8, 0x2ff, 0x370, 0x37d, 0x37f, 0x1fff, 0x200c, 0x200d, 0x2070, 0x218f, 0x2c00, 0x2fef, 0x3001, 0xd7ff, 0xf900, 0xfdcf, 0xfdf0, 0xfffd, 0x10000, 0xeffff]
def paL : List Int := [0x2d, 0x2e, 0x30, 0x39, 0xb7, 0xb7, 0x300, 0x36f, 0x203f, 0x2040]
/-- a character, a space, what begins a name, what goes on with one: of a number -/
def isC (n : Int) : Bool := inP isL n
def stC (n : Int) : Bool := inP stL n
def paC (n : Int) : Bool := stC n || inP paL n
def spC (n : Int) : Bool := n == 9 || n == 10 || n == 13 || n == 32

end Go.Proofs.YtbemijbgbjcoeaaDoor.Char

/- Mathematics without a program: a text of characters; a name. -/
namespace Go.Proofs.YtbemijbgbjcoeaaDoor.Char
open Go.RowKit

def txD (l : List UInt8) : Bool := Lib.validD l && allR isC l
def nmD (s : ByteArray) : Bool := decide (0 < s.size) && decide (s.size ≤ 32) && txD s.data.toList && (stC ((Utf8.decode s 0).1 : Int) && allR paC s.data.toList)
/-- what may go on a name is a character, and no space; a space is a character -/
theorem pa_is (n : Int) (h : paC n = true) : isC n = true := by
  unfold paC stC isC isL stL paL at *
  simp only [inP] at *
  simp only [Bool.or_eq_true, Bool.and_eq_true, decide_eq_true_eq, Bool.false_eq_true, or_false] at *
  omega
theorem pa_sp (n : Int) (h : paC n = true) : spC n = false := by
  unfold paC stC stL paL at h
  unfold spC
  simp only [inP] at h
  simp only [Bool.or_eq_true, Bool.and_eq_true, decide_eq_true_eq, Bool.false_eq_true, or_false] at h
  simp only [Bool.or_eq_false_iff, beq_eq_false_iff_ne]
  omega
theorem size_list (s : ByteArray) : s.data.toList.length = s.size := by rw [Array.length_toList]; rfl
end Go.Proofs.YtbemijbgbjcoeaaDoor.Char

/- Plain mathematics of texts one behind the other: no program stands in it. -/
namespace Go.Proofs.YtbemijbgbjcoeaaDoor.Char
open Go.Lib

set_option maxRecDepth 100000 in
set_option maxHeartbeats 4000000 in
/-- more bytes behind a whole character turn nothing of it -/
theorem decodeN_more (n n' b0 b1 b2 b3 c1 c2 c3 : Nat) (hn : n ≤ n') (h1 : 1 < n → c1 = b1) (h2 : 2 < n → c2 = b2) (h3 : 3 < n → c3 = b3)
    (hv : ¬ ((decodeN n b0 b1 b2 b3).1 = 65533 ∧ (decodeN n b0 b1 b2 b3).2 = 1)) : decodeN n' b0 c1 c2 c3 = decodeN n b0 b1 b2 b3 := by
  by_cases a0 : b0 < 128
  · simp only [decodeN, if_pos a0]
  by_cases a1 : b0 / 32 = 6 ∧ (1 < n ∧ b1 / 64 = 2)
  · have e1 := h1 a1.2.1
    subst e1
    have a1' : b0 / 32 = 6 ∧ (1 < n' ∧ c1 / 64 = 2) := ⟨a1.1, by omega, a1.2.2⟩
    simp only [decodeN, if_neg a0, if_pos a1, if_pos a1']
  by_cases a2 : b0 / 16 = 14 ∧ (1 < n ∧ b1 / 64 = 2) ∧ (2 < n ∧ b2 / 64 = 2)
  · have e1 := h1 a2.2.1.1
    have e2 := h2 a2.2.2.1
    subst e1 e2
    have x1 : ¬ (b0 / 32 = 6 ∧ (1 < n' ∧ c1 / 64 = 2)) := by omega
    have a2' : b0 / 16 = 14 ∧ (1 < n' ∧ c1 / 64 = 2) ∧ (2 < n' ∧ c2 / 64 = 2) := ⟨a2.1, ⟨by omega, a2.2.1.2⟩, by omega, a2.2.2.2⟩
    simp only [decodeN, if_neg a0, if_neg a1, if_neg x1, if_pos a2, if_pos a2']
  by_cases a3 : b0 / 8 = 30 ∧ (1 < n ∧ b1 / 64 = 2) ∧ (2 < n ∧ b2 / 64 = 2) ∧ (3 < n ∧ b3 / 64 = 2)
  · have e1 := h1 a3.2.1.1
    have e2 := h2 a3.2.2.1.1
    have e3 := h3 a3.2.2.2.1
    subst e1 e2 e3
    have x1 : ¬ (b0 / 32 = 6 ∧ (1 < n' ∧ c1 / 64 = 2)) := by omega
    have x2 : ¬ (b0 / 16 = 14 ∧ (1 < n' ∧ c1 / 64 = 2) ∧ (2 < n' ∧ c2 / 64 = 2)) := by omega
    have a3' : b0 / 8 = 30 ∧ (1 < n' ∧ c1 / 64 = 2) ∧ (2 < n' ∧ c2 / 64 = 2) ∧ (3 < n' ∧ c3 / 64 = 2) := ⟨a3.1, ⟨by omega, a3.2.1.2⟩, ⟨by omega, a3.2.2.1.2⟩, by omega, a3.2.2.2.2⟩
    simp only [decodeN, if_neg a0, if_neg a1, if_neg a2, if_neg x1, if_neg x2, if_pos a3, if_pos a3']
  · exfalso
    apply hv
    simp only [decodeN, if_neg a0, if_neg a1, if_neg a2, if_neg a3]
    exact ⟨trivial, trivial⟩

theorem decodeL_more (a b : List UInt8) (hne : a ≠ []) (hv : ¬ ((decodeL a).1 = 65533 ∧ (decodeL a).2 = 1)) : decodeL (a ++ b) = decodeL a := by
  have hl : 0 < a.length := List.length_pos_iff.2 hne
  have hg : ∀ j, j < a.length → ((a ++ b).getD j 0) = a.getD j 0 := fun j hj => by
    simp [List.getD, List.getElem?_append_left hj]
  rw [decodeL_N] at hv
  rw [decodeL_N, decodeL_N, hg 0 hl]
  exact decodeN_more _ _ _ _ _ _ _ _ _ (by simp) (fun h => by rw [hg 1 h]) (fun h => by rw [hg 2 h]) (fun h => by rw [hg 3 h]) hv

theorem validD_more : ∀ (n : Nat) (a b : List UInt8), a.length ≤ n → validD a = true → validD (a ++ b) = validD b
  | 0, a, b, hl, _ => by
    obtain rfl : a = [] := List.eq_nil_of_length_eq_zero (by omega)
    rfl
  | n + 1, a, b, hl, hv => by
    by_cases hne : a = []
    · subst hne; rfl
    · have hw := decodeL_width a
      have hle := decodeL_le a hne
      rw [validD_step a hne] at hv
      by_cases hb : (decodeL a).1 = 65533 ∧ (decodeL a).2 = 1
      · rw [if_pos hb] at hv; cases hv
      · rw [if_neg hb] at hv
        rw [validD_step (a ++ b) (by simp [hne]), decodeL_more a b hne hb, if_neg hb, List.drop_append_of_le_length hle]
        exact validD_more n _ b (by rw [List.length_drop]; omega) hv
theorem allR_more (p : Int → Bool) : ∀ (n : Nat) (a b : List UInt8), a.length ≤ n → validD a = true → allR p (a ++ b) = (allR p a && allR p b)
  | 0, a, b, hl, _ => by
    obtain rfl : a = [] := List.eq_nil_of_length_eq_zero (by omega)
    rfl
  | n + 1, a, b, hl, hv => by
    by_cases hne : a = []
    · subst hne; rfl
    · have hw := decodeL_width a
      have hle := decodeL_le a hne
      rw [validD_step a hne] at hv
      by_cases hb : (decodeL a).1 = 65533 ∧ (decodeL a).2 = 1
      · rw [if_pos hb] at hv; cases hv
      · rw [if_neg hb] at hv
        rw [allR_step p (a ++ b) (by simp [hne]), decodeL_more a b hne hb, List.drop_append_of_le_length hle, allR_more p n _ b (by rw [List.length_drop]; omega) hv, allR_step p a hne, Bool.and_assoc]

/-- a space is one byte -/
theorem spC_high (n : Int) (h : 128 ≤ n) : spC n = false := by
  unfold spC
  simp only [Bool.or_eq_false_iff, beq_eq_false_iff_ne]
  omega
theorem decodeL_high (b : UInt8) (t : List UInt8) (h : ¬ b.toNat < 128) : 128 ≤ (decodeL (b :: t)).1 := by
  have := (decode_high ⟨(b :: t).toArray⟩ 0 (by show 0 < (b :: t).toArray.size; simp) (by
    show 128 ≤ ((b :: t).toArray[0]'(by simp)).toNat
    simp; omega)).1
  exact this
theorem blank_bytes : ∀ (n : Nat) (l : List UInt8), l.length ≤ n → allR spC l = l.all fun c => spC (c.toNat : Int)
  | 0, l, h => by
    obtain rfl : l = [] := List.eq_nil_of_length_eq_zero (by omega)
    rfl
  | n + 1, [], _ => rfl
  | n + 1, c :: t, h => by
    rw [allR_step spC _ (by simp), List.all_cons]
    by_cases hc : c.toNat < 128
    · rw [decodeL_ascii c t hc]
      simp only [List.drop_succ_cons, List.drop_zero]
      rw [blank_bytes n t (by simpa using h)]
    · have h1 := decodeL_high c t hc
      rw [spC_high _ (by omega), spC_high (c.toNat : Int) (by omega)]
      rfl
theorem blank_join (a b : List UInt8) : allR spC (a ++ b) = (allR spC a && allR spC b) := by
  rw [blank_bytes _ _ (Nat.le_refl _), blank_bytes _ a (Nat.le_refl _), blank_bytes _ b (Nat.le_refl _), List.all_append]
end Go.Proofs.YtbemijbgbjcoeaaDoor.Char

/- The walk of the document's own 'the character with which bytes begin'. -/
namespace Go.Proofs.YtbemijbgbjcoeaaDoor.Char
open Go.RowKit Go.Lib

/-- the character with which bytes begin, and how many bytes it has; (0, 0): they begin with none -/
def oneN (n b0 b1 b2 b3 : Nat) : Nat × Nat := if (decodeN n b0 b1 b2 b3).1 = 65533 ∧ (decodeN n b0 b1 b2 b3).2 = 1 then (0, 0) else decodeN n b0 b1 b2 b3
def oneL (l : List UInt8) : Nat × Nat := if l = [] then (0, 0) else if (decodeL l).1 = 65533 ∧ (decodeL l).2 = 1 then (0, 0) else decodeL l
def byt (l : List UInt8) (j : Nat) : Nat := (l.getD j 0).toNat
theorem oneL_N (l : List UInt8) (h : l ≠ []) : oneL l = oneN l.length (byt l 0) (byt l 1) (byt l 2) (byt l 3) := by
  unfold oneL oneN byt
  rw [if_neg h, decodeL_N]

theorem one_low (n b0 b1 b2 b3 : Nat) (h : b0 < 128) : oneN n b0 b1 b2 b3 = (b0, 1) := by
  unfold oneN
  simp only [decodeN, if_pos h]
  rw [if_neg (by omega)]
theorem one_none (n b0 b1 b2 b3 : Nat) (h : ¬ b0 < 128) (h2 : b0 / 32 ≠ 6) (h3 : b0 / 16 ≠ 14) (h4 : b0 / 8 ≠ 30) : oneN n b0 b1 b2 b3 = (0, 0) := by
  unfold oneN
  simp only [decodeN, if_neg h, if_neg (show ¬ (b0 / 32 = 6 ∧ (1 < n ∧ b1 / 64 = 2)) by omega), if_neg (show ¬ (b0 / 16 = 14 ∧ (1 < n ∧ b1 / 64 = 2) ∧ (2 < n ∧ b2 / 64 = 2)) by omega),
    if_neg (show ¬ (b0 / 8 = 30 ∧ (1 < n ∧ b1 / 64 = 2) ∧ (2 < n ∧ b2 / 64 = 2) ∧ (3 < n ∧ b3 / 64 = 2)) by omega)]
  rfl
theorem one_two (n b0 b1 b2 b3 : Nat) (h : 192 ≤ b0 ∧ b0 < 224) : oneN n b0 b1 b2 b3 =
    if 1 < n ∧ (128 ≤ b1 ∧ b1 ≤ 191) then (if (b0 - 192) * 64 + (b1 - 128) < 128 then (0, 0) else ((b0 - 192) * 64 + (b1 - 128), 2)) else (0, 0) := by
  unfold oneN
  have x1 : ¬ b0 < 128 := by omega
  have x3 : ¬ (b0 / 16 = 14 ∧ (1 < n ∧ b1 / 64 = 2) ∧ (2 < n ∧ b2 / 64 = 2)) := by omega
  have x4 : ¬ (b0 / 8 = 30 ∧ (1 < n ∧ b1 / 64 = 2) ∧ (2 < n ∧ b2 / 64 = 2) ∧ (3 < n ∧ b3 / 64 = 2)) := by omega
  by_cases c : 1 < n ∧ 128 ≤ b1 ∧ b1 ≤ 191
  · have x2 : b0 / 32 = 6 ∧ (1 < n ∧ b1 / 64 = 2) := by omega
    simp only [decodeN, if_neg x1, if_pos x2]
    rw [if_pos c]
    by_cases d : (b0 - 192) * 64 + (b1 - 128) < 128
    · rw [if_pos d, if_neg (show ¬ (b0 % 32 * 64 + b1 % 64 ≥ 128) by omega)]
      rfl
    · rw [if_neg d, if_pos (show b0 % 32 * 64 + b1 % 64 ≥ 128 by omega), if_neg (by simp)]
      apply Prod.ext <;> simp only <;> omega
  · have x2 : ¬ (b0 / 32 = 6 ∧ (1 < n ∧ b1 / 64 = 2)) := by omega
    simp only [decodeN, if_neg x1, if_neg x2, if_neg x3, if_neg x4]
    rw [if_neg c]
    rfl
set_option maxRecDepth 100000 in
theorem one_three (n b0 b1 b2 b3 : Nat) (h : 224 ≤ b0 ∧ b0 < 240) : oneN n b0 b1 b2 b3 =
    if 2 < n ∧ (128 ≤ b1 ∧ b1 ≤ 191) ∧ (128 ≤ b2 ∧ b2 ≤ 191) then (if (b0 - 224) * 4096 + (b1 - 128) * 64 + (b2 - 128) < 2048 ∨ (55296 ≤ (b0 - 224) * 4096 + (b1 - 128) * 64 + (b2 - 128) ∧ (b0 - 224) * 4096 + (b1 - 128) * 64 + (b2 - 128) ≤ 57343) then (0, 0)
      else ((b0 - 224) * 4096 + (b1 - 128) * 64 + (b2 - 128), 3)) else (0, 0) := by
  unfold oneN
  have x1 : ¬ b0 < 128 := by omega
  have x2 : ¬ (b0 / 32 = 6 ∧ (1 < n ∧ b1 / 64 = 2)) := by omega
  have x4 : ¬ (b0 / 8 = 30 ∧ (1 < n ∧ b1 / 64 = 2) ∧ (2 < n ∧ b2 / 64 = 2) ∧ (3 < n ∧ b3 / 64 = 2)) := by omega
  by_cases c : 2 < n ∧ (128 ≤ b1 ∧ b1 ≤ 191) ∧ 128 ≤ b2 ∧ b2 ≤ 191
  · have x3 : b0 / 16 = 14 ∧ (1 < n ∧ b1 / 64 = 2) ∧ (2 < n ∧ b2 / 64 = 2) := by omega
    simp only [decodeN, if_neg x1, if_neg x2, if_pos x3]
    rw [if_pos c]
    have e : b0 % 16 * 4096 + b1 % 64 * 64 + b2 % 64 = (b0 - 224) * 4096 + (b1 - 128) * 64 + (b2 - 128) := by omega
    rw [e]
    generalize (b0 - 224) * 4096 + (b1 - 128) * 64 + (b2 - 128) = v at *
    have hv : v ≤ 65535 := by omega
    by_cases d : v < 2048 ∨ (55296 ≤ v ∧ v ≤ 57343)
    · rw [if_pos d, if_neg (show ¬ (v ≥ 2048 ∧ (v < 55296 ∨ 57344 ≤ v ∧ v ≤ 1114111)) by omega)]
      rfl
    · rw [if_neg d, if_pos (show v ≥ 2048 ∧ (v < 55296 ∨ 57344 ≤ v ∧ v ≤ 1114111) by omega), if_neg (by simp)]
  · have x3 : ¬ (b0 / 16 = 14 ∧ (1 < n ∧ b1 / 64 = 2) ∧ (2 < n ∧ b2 / 64 = 2)) := by omega
    simp only [decodeN, if_neg x1, if_neg x2, if_neg x3, if_neg x4]
    rw [if_neg c]
    rfl
set_option maxRecDepth 100000 in
theorem one_four (n b0 b1 b2 b3 : Nat) (h : 240 ≤ b0 ∧ b0 < 248) : oneN n b0 b1 b2 b3 =
    if 3 < n ∧ (128 ≤ b1 ∧ b1 ≤ 191) ∧ (128 ≤ b2 ∧ b2 ≤ 191) ∧ (128 ≤ b3 ∧ b3 ≤ 191) then (if (b0 - 240) * 262144 + (b1 - 128) * 4096 + (b2 - 128) * 64 + (b3 - 128) < 65536 ∨ 1114111 < (b0 - 240) * 262144 + (b1 - 128) * 4096 + (b2 - 128) * 64 + (b3 - 128) then (0, 0)
      else ((b0 - 240) * 262144 + (b1 - 128) * 4096 + (b2 - 128) * 64 + (b3 - 128), 4)) else (0, 0) := by
  unfold oneN
  have x1 : ¬ b0 < 128 := by omega
  have x2 : ¬ (b0 / 32 = 6 ∧ (1 < n ∧ b1 / 64 = 2)) := by omega
  have x3 : ¬ (b0 / 16 = 14 ∧ (1 < n ∧ b1 / 64 = 2) ∧ (2 < n ∧ b2 / 64 = 2)) := by omega
  by_cases c : 3 < n ∧ (128 ≤ b1 ∧ b1 ≤ 191) ∧ (128 ≤ b2 ∧ b2 ≤ 191) ∧ 128 ≤ b3 ∧ b3 ≤ 191
  · have x4 : b0 / 8 = 30 ∧ (1 < n ∧ b1 / 64 = 2) ∧ (2 < n ∧ b2 / 64 = 2) ∧ (3 < n ∧ b3 / 64 = 2) := by omega
    simp only [decodeN, if_neg x1, if_neg x2, if_neg x3, if_pos x4]
    rw [if_pos c]
    have e : b0 % 8 * 262144 + b1 % 64 * 4096 + b2 % 64 * 64 + b3 % 64 = (b0 - 240) * 262144 + (b1 - 128) * 4096 + (b2 - 128) * 64 + (b3 - 128) := by omega
    rw [e]
    clear e
    generalize (b0 - 240) * 262144 + (b1 - 128) * 4096 + (b2 - 128) * 64 + (b3 - 128) = v
    by_cases d : v < 65536 ∨ 1114111 < v
    · rw [if_pos d, if_neg (show ¬ (v ≥ 65536 ∧ (v < 55296 ∨ 57344 ≤ v ∧ v ≤ 1114111)) by omega)]
      rfl
    · rw [if_neg d, if_pos (show v ≥ 65536 ∧ (v < 55296 ∨ 57344 ≤ v ∧ v ≤ 1114111) by omega), if_neg (by simp)]
  · have x4 : ¬ (b0 / 8 = 30 ∧ (1 < n ∧ b1 / 64 = 2) ∧ (2 < n ∧ b2 / 64 = 2) ∧ (3 < n ∧ b3 / 64 = 2)) := by omega
    simp only [decodeN, if_neg x1, if_neg x2, if_neg x3, if_neg x4]
    rw [if_neg c]
    rfl
end Go.Proofs.YtbemijbgbjcoeaaDoor.Char

/- Mathematics without a program: ends of lines, places in a text, a name's run, spaces. -/
namespace Go.Proofs.YtbemijbgbjcoeaaDoor.Char
open Go.Lib

/-- behind the first byte of a line's end -/
def lnL (t : List UInt8) : List UInt8 := if [10].isPrefixOf t then t.drop 1 else t
theorem ln_le (t : List UInt8) : (lnL t).length ≤ t.length := by
  unfold lnL
  split
  · rw [List.length_drop]; omega
  · exact Nat.le_refl _
/-- the ends of lines of one kind -/
def linesN : Nat → List UInt8 → List UInt8
  | 0, _ => []
  | _ + 1, [] => []
  | n + 1, b :: t => if b = 13 then 10 :: linesN n (lnL t) else b :: linesN n t
theorem linesN_fuel : ∀ (n m : Nat) (l : List UInt8), l.length ≤ n → l.length ≤ m → linesN n l = linesN m l
  | 0, 0, _, _, _ => rfl
  | 0, m + 1, l, hn, _ => by
    obtain rfl : l = [] := List.eq_nil_of_length_eq_zero (by omega)
    rfl
  | n + 1, 0, l, _, hm => by
    obtain rfl : l = [] := List.eq_nil_of_length_eq_zero (by omega)
    rfl
  | n + 1, m + 1, [], _, _ => rfl
  | n + 1, m + 1, b :: t, hn, hm => by
    rw [List.length_cons] at hn hm
    have := ln_le t
    unfold linesN
    rw [linesN_fuel n m t (by omega) (by omega), linesN_fuel n m (lnL t) (by omega) (by omega)]
def linesL (l : List UInt8) : List UInt8 := linesN l.length l
theorem lines_nil : linesL [] = [] := rfl
theorem lines_cr (t : List UInt8) : linesL (13 :: t) = 10 :: linesL (lnL t) := by
  have := ln_le t
  unfold linesL
  rw [List.length_cons]
  conv => lhs; unfold linesN
  rw [if_pos rfl, linesN_fuel t.length (lnL t).length (lnL t) this (Nat.le_refl _)]
theorem lines_o {b : UInt8} (t : List UInt8) (h : b ≠ 13) : linesL (b :: t) = b :: linesL t := by
  unfold linesL
  rw [List.length_cons]
  conv => lhs; unfold linesN
  rw [if_neg h]
theorem lines_le : ∀ (n : Nat) (l : List UInt8), l.length ≤ n → (linesL l).length ≤ l.length
  | _, [], _ => Nat.le_refl _
  | 0, b :: t, h => by simp at h
  | n + 1, b :: t, h => by
    rw [List.length_cons] at h
    by_cases hb : b = 13
    · subst hb
      have h1 := ln_le t
      have h2 := lines_le n (lnL t) (by omega)
      rw [lines_cr, List.length_cons, List.length_cons]
      omega
    · have h2 := lines_le n t (by omega)
      rw [lines_o t hb, List.length_cons, List.length_cons]
      omega

/-- the place of the next t from a place on; -1: there is none -/
def fnd (l t : List UInt8) (p : Nat) : Int := if index (l.drop p) t = -1 then -1 else (p : Int) + index (l.drop p) t
theorem fnd_here {l t : List UInt8} {p : Nat} (h : t.isPrefixOf (l.drop p) = true) : fnd l t p = (p : Int) := by
  have e : index (l.drop p) t = 0 := by
    cases hd : l.drop p with
    | nil =>
      rw [hd] at h
      have : t = [] := by cases t with | nil => rfl | cons _ _ => simp [List.isPrefixOf] at h
      subst this
      rfl
    | cons b r =>
      rw [hd] at h
      unfold index
      rw [h]
      rfl
  unfold fnd
  rw [e, if_neg (by omega)]
  omega
theorem fnd_next {l t : List UInt8} {p : Nat} (hp : p < l.length) (h : t.isPrefixOf (l.drop p) = false) : fnd l t p = fnd l t (p + 1) := by
  have hd := List.drop_eq_getElem_cons hp
  rw [hd] at h
  have e : index (l.drop p) t = if index (l.drop (p + 1)) t == -1 then -1 else index (l.drop (p + 1)) t + 1 := by
    rw [hd]
    conv => lhs; unfold index
    rw [h]
    rfl
  have hg := index_ge (l.drop (p + 1)) t
  unfold fnd
  rw [e]
  by_cases h1 : index (l.drop (p + 1)) t = -1
  · rw [h1]; rfl
  · rw [if_neg h1, if_neg (show ¬ (index (l.drop (p + 1)) t == -1) = true by simpa using h1), if_neg (by omega)]
    omega
theorem fnd_end {l t : List UInt8} {p : Nat} (h : l.length < p + t.length) (ht : 0 < t.length) : fnd l t p = -1 := by
  have e : index (l.drop p) t = -1 := by
    refine index_none (fun j hj => ?_)
    rw [List.length_drop] at hj
    cases ho : occAt (l.drop p) t j with
    | false => rfl
    | true =>
      rcases occAt_room ho with h1 | h1
      · rw [List.length_drop] at h1; omega
      · rw [h1] at ht; simp at ht
  unfold fnd
  rw [if_pos e]
theorem pre_take (t r : List UInt8) (h : t.length ≤ r.length) : t.isPrefixOf r = (r.take t.length == t) := by
  have := occAt_iff_take r t 0 (by omega)
  unfold occAt at this
  simpa using this
theorem pre_short {t r : List UInt8} (h : r.length < t.length) : t.isPrefixOf r = false := by
  cases hp : t.isPrefixOf r with
  | false => rfl
  | true =>
    have := (List.isPrefixOf_iff_prefix.1 hp).length_le
    omega
theorem fnd_range {l t : List UInt8} {p : Nat} (h : fnd l t p ≠ -1) (hp : p ≤ l.length) : (p : Int) ≤ fnd l t p ∧ fnd l t p + t.length ≤ l.length := by
  unfold fnd at h ⊢
  by_cases e : index (l.drop p) t = -1
  · rw [if_pos e] at h; exact absurd rfl h
  · rw [if_neg e] at h ⊢
    have hg := index_ge (l.drop p) t
    refine ⟨by omega, ?_⟩
    have key : ∀ (s : List UInt8), index s t ≠ -1 → index s t + t.length ≤ s.length := by
      intro s
      induction s with
      | nil =>
        intro hs
        unfold index at hs ⊢
        cases t with
        | nil => simp
        | cons _ _ => simp at hs
      | cons b s ih =>
        intro hs
        unfold index at hs ⊢
        by_cases hpre : t.isPrefixOf (b :: s) = true
        · rw [if_pos hpre]
          have := (List.isPrefixOf_iff_prefix.1 hpre).length_le
          omega
        · rw [if_neg hpre] at hs ⊢
          by_cases h1 : index s t = -1
          · rw [h1] at hs; exact absurd rfl hs
          · rw [if_neg (show ¬ (index s t == -1) = true by simpa using h1)]
            have := ih h1
            rw [List.length_cons]
            omega
    have := key _ e
    rw [List.length_drop] at this
    omega

/-- how many bytes a name's run has -/
def runN : Nat → List UInt8 → Nat
  | 0, _ => 0
  | n + 1, l => if (oneL l).2 = 0 then 0 else if paC ((oneL l).1 : Int) then (oneL l).2 + runN n (l.drop (oneL l).2) else 0
theorem one_le (l : List UInt8) : (oneL l).2 ≤ l.length := by
  unfold oneL
  split
  · exact Nat.zero_le _
  · split
    · exact Nat.zero_le _
    · rename_i h _
      exact decodeL_le l h
theorem runN_fuel : ∀ (n m : Nat) (l : List UInt8), l.length ≤ n → l.length ≤ m → runN n l = runN m l
  | 0, 0, _, _, _ => rfl
  | 0, m + 1, l, hn, _ => by
    obtain rfl : l = [] := List.eq_nil_of_length_eq_zero (by omega)
    rfl
  | n + 1, 0, l, _, hm => by
    obtain rfl : l = [] := List.eq_nil_of_length_eq_zero (by omega)
    rfl
  | n + 1, m + 1, l, hn, hm => by
    unfold runN
    by_cases h : (oneL l).2 = 0
    · rw [if_pos h, if_pos h]
    · have := one_le l
      rw [if_neg h, if_neg h, runN_fuel n m _ (by rw [List.length_drop]; omega) (by rw [List.length_drop]; omega)]
def runL (l : List UInt8) : Nat := runN l.length l
theorem run_nil : runL [] = 0 := rfl
theorem run_stop {l : List UInt8} (h : (oneL l).2 = 0 ∨ paC ((oneL l).1 : Int) = false) : runL l = 0 := by
  unfold runL
  cases l with
  | nil => rfl
  | cons b t =>
    rw [List.length_cons]
    unfold runN
    rcases h with h | h
    · rw [if_pos h]
    · split
      · rfl
      · rw [h]; rfl
theorem run_go {l : List UInt8} (h : (oneL l).2 ≠ 0) (hp : paC ((oneL l).1 : Int) = true) : runL l = (oneL l).2 + runL (l.drop (oneL l).2) := by
  have hle := one_le l
  obtain ⟨n, hn⟩ : ∃ n, l.length = n + 1 := ⟨l.length - 1, by omega⟩
  unfold runL
  rw [hn]
  conv => lhs; unfold runN
  rw [if_neg h, if_pos hp, runN_fuel n (l.drop (oneL l).2).length _ (by rw [List.length_drop]; omega) (Nat.le_refl _)]
theorem run_le : ∀ (n : Nat) (l : List UInt8), l.length ≤ n → runL l ≤ l.length
  | 0, l, h => by
    obtain rfl : l = [] := List.eq_nil_of_length_eq_zero (by omega)
    exact Nat.le_refl _
  | n + 1, l, h => by
    by_cases h0 : (oneL l).2 = 0 ∨ paC ((oneL l).1 : Int) = false
    · rw [run_stop h0]; exact Nat.zero_le _
    · have hle := one_le l
      have h1 : (oneL l).2 ≠ 0 := fun h => h0 (.inl h)
      have h2 : paC ((oneL l).1 : Int) = true := by
        cases hp : paC ((oneL l).1 : Int) with
        | true => rfl
        | false => exact absurd (.inr hp) h0
      have ih := run_le n (l.drop (oneL l).2) (by rw [List.length_drop]; omega)
      rw [run_go h1 h2]
      rw [List.length_drop] at ih
      omega
/-- how many spaces there are -/
def spcL (l : List UInt8) : Nat := (l.takeWhile fun b => spC (b.toNat : Int)).length
theorem spc_cons (b : UInt8) (t : List UInt8) : spcL (b :: t) = if spC (b.toNat : Int) then spcL t + 1 else 0 := by
  unfold spcL
  rw [List.takeWhile_cons]
  split <;> rfl
theorem spc_le (l : List UInt8) : spcL l ≤ l.length := (List.takeWhile_prefix _).length_le
/-- small letters -/
def smallB (c : UInt8) : UInt8 := if 65 ≤ c.toNat ∧ c.toNat ≤ 90 then c + 32 else c
def smallL (l : List UInt8) : List UInt8 := l.map smallB
/-- the error, if a byte does not stand ahead -/
def mustL (r : List UInt8) (c : UInt8) : Nat := match r with
  | [] => 16
  | b :: _ => if b = c then 0 else 13
end Go.Proofs.YtbemijbgbjcoeaaDoor.Char

/- Texts as lists of bytes, and what the walk asks of them. -/
namespace Go.Proofs.YtbemijbgbjcoeaaDoor.Char
open Go.RowKit Go.Lib

def bs (l : List UInt8) : ByteArray := ⟨l.toArray⟩
theorem bs_list (l : List UInt8) : (bs l).data.toList = l := rfl
theorem bs_of (s : ByteArray) : bs s.data.toList = s := rfl
theorem bs_size (l : List UInt8) : (bs l).size = l.length := by show l.toArray.size = _; rw [List.size_toArray]
theorem bs_ext (l : List UInt8) (i j : Nat) : (bs l).extract i j = bs ((l.drop i).take (j - i)) := by
  rw [← bs_of ((bs l).extract i j), extract_data]
  rfl
theorem bs_add (a b : List UInt8) : bs a ++ bs b = bs (a ++ b) := by
  rw [← bs_of (bs a ++ bs b), ByteArray.data_append, Array.toList_append]
  rfl
theorem bs_get (l : List UInt8) (i : Nat) (h : i < (bs l).size) : (bs l)[i] = l.getD i 0 := by
  have h' : i < l.length := by rw [← bs_size]; exact h
  have e : l.getD i 0 = l[i] := by simp [List.getD, List.getElem?_eq_getElem h']
  rw [e]
  rfl
theorem ret_str {a b : List UInt8} (h : a = b) : Ending.returned (.string (bs a)) = .returned (.string (bs b)) := by rw [h]
theorem bs_tl (l : List UInt8) : (bs l).toList = l := by rw [toList_data]; rfl
theorem drop_cons (l : List UInt8) (k : Nat) (h : k < l.length) : l.drop k = l.getD k 0 :: l.drop (k + 1) := by
  have hg : l.getD k 0 = l[k] := by simp [List.getD, List.getElem?_eq_getElem h]
  rw [List.drop_eq_getElem_cons h, hg]
/-- c == ".." of one byte -/
theorem eq_one (b x : UInt8) (v : Bool) (h : (b == x) = v) : ((bs [b]).toList == [x]) = v := by
  rw [bs_tl, ← h]
  simp
theorem ne_one (b x : UInt8) (h : b ≠ x) : ((bs [b]).toList == [x]) = false := eq_one b x false (beq_eq_false_iff_ne.2 h)
/-- s[k : k+1] -/
theorem bs_one (l : List UInt8) (k : Nat) (h : k < l.length) : (bs l).extract k (k + 1) = bs [l.getD k 0] := by
  rw [bs_ext, drop_cons l k h, Nat.add_sub_cancel_left]
  rfl
theorem slice_one (l : List UInt8) (k : Nat) (h : k < l.length) (wx : World) : (Instr.slice 9 (.string (bs l)) (some (.int .i64 (k : Int))) (some (.int .i64 ((k : Int) + 1))) none).run Tryd.prog wx = .ok (.string (bs [l.getD k 0])) wx := by
  have := run_slice_string (P := Tryd.prog) wx 9 (bs l) .i64 .i64 (k : Int) ((k : Int) + 1) Tryd.underlying9 (by omega) (by omega) (by rw [bs_size]; omega)
  rw [show (k : Int).toNat = k by omega, show ((k : Int) + 1).toNat = k + 1 by omega, bs_one l k h] at this
  exact this
/-- a + b -/
theorem add_bs (a b : List UInt8) (ha : a.length ≤ 1048576) (hb : b.length ≤ 1048576) (wx : World) : (Op.stringOp .add (bs a) (bs b)).run Tryd.prog wx = .ok (.string (bs (a ++ b))) wx := by
  have h1 := bs_size a
  have h2 := bs_size b
  rw [run_string_add wx (bs a) (bs b) (by omega) (by omega), bs_add]
end Go.Proofs.YtbemijbgbjcoeaaDoor.Char

/- The walk of the document's Space. -/
namespace Go.Proofs.YtbemijbgbjcoeaaDoor.Char
open Go.RowKit

set_option maxHeartbeats 400000 in
theorem refSpace_any (n : Int) (w : World) :
    Calls Tryd.prog 41 #[.int .i64 n] w fun e w' => e = .returned (.bool (spC n)) ∧ w = w' := by
  go_enter Tryd.func41, Tryd.ntmps41
  go_wp2_with fail
  all_goals go_ret
  all_goals exact ⟨by unfold spC; simp_all, rfl⟩
end Go.Proofs.YtbemijbgbjcoeaaDoor.Char

/- The walks of the document's own Lines, Find, begins, Spaces, must, small. -/
namespace Go.Proofs.YtbemijbgbjcoeaaDoor.Char
open Go.RowKit Go.Lib

theorem slice_mid6 (l : List UInt8) (i j : Nat) (h : i ≤ j) (hj : j ≤ l.length) (wx : World) : (Instr.slice 9 (.string (bs l)) (some (.int .i64 (i : Int))) (some (.int .i64 (j : Int))) none).run Tryd.prog wx = .ok (.string (bs ((l.drop i).take (j - i)))) wx := by
  have := run_slice_string (P := Tryd.prog) wx 9 (bs l) .i64 .i64 (i : Int) (j : Int) Tryd.underlying9 (by omega) (by omega) (by rw [bs_size]; omega)
  rw [show (i : Int).toNat = i by omega, show (j : Int).toNat = j by omega, bs_ext] at this
  exact this
theorem slice_from (l : List UInt8) (i : Nat) (h : i ≤ l.length) (wx : World) : (Instr.slice 9 (.string (bs l)) (some (.int .i64 (i : Int))) none none).run Tryd.prog wx = .ok (.string (bs (l.drop i))) wx := by
  have hs := bs_size l
  have := run_slice_string_l (P := Tryd.prog) wx 9 (bs l) Tryd.underlying9 .i64 (i : Int) (by omega) (by omega)
  rw [this, show (i : Int).toNat = i by omega, hs, bs_ext]
  have e : (l.drop i).take (l.length - i) = l.drop i := List.take_of_length_le (by rw [List.length_drop]; omega)
  rw [e]
theorem ret_i {k : IntKind} {a b : Int} (h : a = b) : Ending.returned (.int k a) = .returned (.int k b) := by rw [h]
theorem ret_b {a b : Bool} (h : a = b) : Ending.returned (.bool a) = .returned (.bool b) := by rw [h]

set_option maxRecDepth 100000 in
set_option maxHeartbeats 4000000 in
theorem find_any (l t : List UInt8) (p : Nat) (w : World) (hl : l.length ≤ 60000) (hp : p ≤ 60010) (ht : 0 < t.length) (ht2 : t.length ≤ 1000) :
    Calls Tryd.prog 42 #[.string (bs l), .int .i64 (p : Int), .string (bs t)] w fun e w' => e = .returned (.int .i64 (fnd l t p)) ∧ w = w' := by
  obtain ⟨R, hR⟩ : ∃ R, fnd l t p = R := ⟨_, rfl⟩
  rw [hR]
  have HR := Lib.hid hR
  have hsz := bs_size l
  have hst := bs_size t
  clear hR
  go_enter Tryd.func42, Tryd.ntmps42
  go_wp2_with fail
  go_loop [7] (fun v => ∃ k : Nat, v = .int .i64 (k : Int) ∧ k ≤ 60020 ∧ Hid (p ≤ k ∧ fnd l t k = R)) (fun v => 60030 - (RowKit.intOf v).toNat)
  case atStart => exact ⟨p, rfl, by omega, Lib.hid ⟨Nat.le_refl _, HR.out⟩⟩
  case round =>
    obtain ⟨k, rfl, hk, HK⟩ := hrel
    by_cases hlt : k + t.length ≤ l.length
    · have hsl := slice_mid6 l k (k + t.length) (by omega) hlt
      rw [show (((k + t.length : Nat)) : Int) = (k : Int) + (t.length : Int) by omega, Nat.add_sub_cancel_left] at hsl
      have hpt := pre_take t (l.drop k) (by rw [List.length_drop]; omega)
      cases hpre : t.isPrefixOf (l.drop k) with
      | true =>
        rw [hpre] at hpt
        have q : ((bs ((l.drop k).take t.length)).toList == (bs t).toList) = true := by rw [bs_tl, bs_tl]; exact hpt.symm
        have HX : Hid ((k : Int) = R) := Lib.hid (by rw [← HK.out.2, fnd_here hpre])
        clear hpt hpre
        generalize (l.drop k).take t.length = N at *
        go_wp2_with fail
        go_ret
        exact ⟨ret_i HX.out, rfl⟩
      | false =>
        rw [hpre] at hpt
        have q : ((bs ((l.drop k).take t.length)).toList == (bs t).toList) = false := by rw [bs_tl, bs_tl]; exact hpt.symm
        have HX : Hid (p ≤ k + 1 ∧ fnd l t (k + 1) = R) := Lib.hid ⟨by have := HK.out.1; omega, by rw [← HK.out.2, fnd_next (by omega) hpre]⟩
        clear hpt hpre
        generalize (l.drop k).take t.length = N at *
        go_wp2_with fail
        go_round
        case rel => exact ⟨k + 1, by go_num, by omega, HX⟩
        case measure => simp [RowKit.intOf]; omega
    · have HX : Hid ((-1 : Int) = R) := Lib.hid (by rw [← HK.out.2, fnd_end (by omega) ht])
      go_wp2_with fail
      go_ret
      exact ⟨ret_i HX.out, rfl⟩

set_option maxRecDepth 100000 in
set_option maxHeartbeats 4000000 in
theorem begins12_any (l t : List UInt8) (p : Nat) (w : World) (hl : l.length ≤ 60000) (hp : p ≤ l.length) (ht : t.length ≤ 1000) :
    Calls Tryd.prog 67 #[.string (bs l), .int .i64 (p : Int), .string (bs t)] w fun e w' => e = .returned (.bool (t.isPrefixOf (l.drop p))) ∧ w = w' := by
  have hsz := bs_size l
  have hst := bs_size t
  by_cases hlt : p + t.length ≤ l.length
  · have hsl := slice_mid6 l p (p + t.length) (by omega) hlt
    rw [show (((p + t.length : Nat)) : Int) = (p : Int) + (t.length : Int) by omega, Nat.add_sub_cancel_left] at hsl
    have hpt := pre_take t (l.drop p) (by rw [List.length_drop]; omega)
    have q : ((bs ((l.drop p).take t.length)).toList == (bs t).toList) = t.isPrefixOf (l.drop p) := by rw [bs_tl, bs_tl]; exact hpt.symm
    generalize t.isPrefixOf (l.drop p) = v at *
    clear hpt
    generalize (l.drop p).take t.length = N at *
    go_enter Tryd.func67, Tryd.ntmps67
    go_wp2_with fail
    go_ret
    exact ⟨rfl, rfl⟩
  · rw [pre_short (show (l.drop p).length < t.length by rw [List.length_drop]; omega)]
    go_enter Tryd.func67, Tryd.ntmps67
    go_wp2_with fail
    go_ret
    exact ⟨rfl, rfl⟩
end Go.Proofs.YtbemijbgbjcoeaaDoor.Char

/- The walks of the document's own Spaces and must. -/
namespace Go.Proofs.YtbemijbgbjcoeaaDoor.Char
open Go.RowKit Go.Lib

set_option maxRecDepth 100000 in
set_option maxHeartbeats 4000000 in
theorem spaces_any (l : List UInt8) (p : Nat) (w : World) (hl : l.length ≤ 60000) (hp : p ≤ l.length) :
    Calls Tryd.prog 16 #[.string (bs l), .int .i64 (p : Int)] w fun e w' => e = .returned (.int .i64 ((p + spcL (l.drop p) : Nat) : Int)) ∧ w = w' := by
  obtain ⟨R, hR⟩ : ∃ R, p + spcL (l.drop p) = R := ⟨_, rfl⟩
  rw [hR]
  have HR := Lib.hid hR
  have hsz := bs_size l
  clear hR
  go_enter Tryd.func16, Tryd.ntmps16
  go_wp2_with fail
  go_loop [1] (fun v => ∃ k : Nat, v = .int .i64 (k : Int) ∧ k ≤ l.length ∧ Hid (k + spcL (l.drop k) = R)) (fun v => l.length - (RowKit.intOf v).toNat)
  case atStart => exact ⟨p, rfl, hp, HR⟩
  case round =>
    obtain ⟨k, rfl, hk, HK⟩ := hrel
    by_cases hlt : k < l.length
    · have hlt' : k < (bs l).size := by rw [hsz]; exact hlt
      have hgt := bs_get l k hlt'
      have hk2 := HK.out
      rw [drop_cons l k hlt, spc_cons] at hk2
      obtain ⟨nb, hnb⟩ : ∃ nb, (l.getD k 0).toNat = nb := ⟨_, rfl⟩
      have hg : ((bs l)[k]'hlt').toNat = nb := by rw [hgt, hnb]
      rw [hnb] at hk2
      have hn256 : nb < 256 := by rw [← hnb]; exact UInt8.toNat_lt _
      clear hgt hnb
      cases hb : spC (nb : Int) with
      | true =>
        have HS := Lib.hid (fun W => refSpace_any (nb : Int) W)
        rw [hb] at HS hk2
        have HK2 : Hid (k + 1 + spcL (l.drop (k + 1)) = R) := Lib.hid (by rw [if_pos rfl] at hk2; omega)
        clear hk2 hb
        go_wp2_with fail
        refine (HS.out _).mono ?_
        rintro e w1 ⟨rfl, rfl⟩
        go_wp2_with fail
        go_round
        case rel => exact ⟨k + 1, by go_num, by omega, HK2⟩
        case measure => simp [RowKit.intOf]; omega
      | false =>
        have HS := Lib.hid (fun W => refSpace_any (nb : Int) W)
        rw [hb] at HS hk2
        have HK2 : Hid ((k : Int) = (R : Int)) := Lib.hid (by rw [if_neg (by simp)] at hk2; omega)
        clear hk2 hb
        go_wp2_with fail
        refine (HS.out _).mono ?_
        rintro e w1 ⟨rfl, rfl⟩
        go_wp2_with fail
        go_ret
        exact ⟨ret_i HK2.out, rfl⟩
    · have hk2 := HK.out
      rw [List.drop_eq_nil_of_le (by omega)] at hk2
      have HK2 : Hid ((k : Int) = (R : Int)) := Lib.hid (by rw [← hk2]; rfl)
      clear hk2
      go_wp2_with fail
      go_ret
      exact ⟨ret_i HK2.out, rfl⟩

end Go.Proofs.YtbemijbgbjcoeaaDoor.Char

/- The library's structures at this program's numbers: HasPrefix, TrimLeftFunc, Cut, CutPrefix, Repeat. -/
namespace Go.Proofs.YtbemijbgbjcoeaaDoor.Char
open Go.Shelf Go.RowKit

def layTrimLRen : Go.Shelf.Ren := ⟨fun | 272 => 53 | 315 => 74 | n => n, fun | 0 => 0 | 3 => 3 | 4 => 4 | 9 => 9 | 21 => 21 | 40 => 53 | n => n, fun n => n⟩
theorem layTrimL : Lays.n272 Tryd.prog layTrimLRen := {
  mixed := by kernel_rfl
  f272 := Tryd.func53.trans (congrArg some (by kernel_rfl))
  f315 := Tryd.func74.trans (congrArg some (by kernel_rfl))
  t0 := Tryd.underlying0
  a0 := Tryd.isAgg0
  z0 := Tryd.sizeOf0
  v0 := Tryd.zeroValue0
  t3 := Tryd.underlying3
  a3 := Tryd.isAgg3
  z3 := Tryd.sizeOf3
  v3 := Tryd.zeroValue3
  t4 := Tryd.underlying4
  a4 := Tryd.isAgg4
  z4 := Tryd.sizeOf4
  v4 := Tryd.zeroValue4
  t9 := Tryd.underlying9
  a9 := Tryd.isAgg9
  z9 := Tryd.sizeOf9
  v9 := Tryd.zeroValue9
  t21 := Tryd.underlying21
  a21 := Tryd.isAgg21
  z21 := Tryd.sizeOf21
  v21 := Tryd.zeroValue21
  t40 := Tryd.underlying53
  a40 := Tryd.isAgg53
  z40 := Tryd.sizeOf53
  v40 := Tryd.zeroValue53 }
def layHasPRen : Go.Shelf.Ren := ⟨fun | 99 => 62 | 206 => 83 | n => n, fun | 3 => 3 | 4 => 4 | 9 => 9 | n => n, fun n => n⟩
theorem layHasP : Lays.n99 Tryd.prog layHasPRen := {
  mixed := by kernel_rfl
  f99 := Tryd.func62.trans (congrArg some (by kernel_rfl))
  f206 := Tryd.func83.trans (congrArg some (by kernel_rfl))
  t3 := Tryd.underlying3
  a3 := Tryd.isAgg3
  z3 := Tryd.sizeOf3
  v3 := Tryd.zeroValue3
  t4 := Tryd.underlying4
  a4 := Tryd.isAgg4
  z4 := Tryd.sizeOf4
  v4 := Tryd.zeroValue4
  t9 := Tryd.underlying9
  a9 := Tryd.isAgg9
  z9 := Tryd.sizeOf9
  v9 := Tryd.zeroValue9 }
def layCutRen : Go.Shelf.Ren := ⟨fun | 145 => 54 | 217 => 97 | 219 => 89 | 220 => 75 | 224 => 99 | 225 => 98 | 266 => 112 | 267 => 100 | 314 => 113 | n => n, fun | 3 => 3 | 4 => 4 | 5 => 5 | 9 => 9 | 46 => 76 | 51 => 139 | 59 => 82 | 146 => 140 | n => n, fun | 1 => 2 | n => n⟩
theorem layCut : Lays.n145 Tryd.prog layCutRen := {
  mixed := by kernel_rfl
  f145 := Tryd.func54.trans (congrArg some (by kernel_rfl))
  f217 := Tryd.func97.trans (congrArg some (by kernel_rfl))
  f219 := Tryd.func89.trans (congrArg some (by kernel_rfl))
  f220 := Tryd.func75.trans (congrArg some (by kernel_rfl))
  f224 := Tryd.func99.trans (congrArg some (by kernel_rfl))
  f225 := Tryd.func98.trans (congrArg some (by kernel_rfl))
  f266 := Tryd.func112.trans (congrArg some (by kernel_rfl))
  f267 := Tryd.func100.trans (congrArg some (by kernel_rfl))
  f314 := Tryd.func113.trans (congrArg some (by kernel_rfl))
  t3 := Tryd.underlying3
  a3 := Tryd.isAgg3
  z3 := Tryd.sizeOf3
  v3 := Tryd.zeroValue3
  t4 := Tryd.underlying4
  a4 := Tryd.isAgg4
  z4 := Tryd.sizeOf4
  v4 := Tryd.zeroValue4
  t5 := Tryd.underlying5
  a5 := Tryd.isAgg5
  z5 := Tryd.sizeOf5
  v5 := Tryd.zeroValue5
  t9 := Tryd.underlying9
  a9 := Tryd.isAgg9
  z9 := Tryd.sizeOf9
  v9 := Tryd.zeroValue9
  t46 := Tryd.underlying76
  a46 := Tryd.isAgg76
  z46 := Tryd.sizeOf76
  v46 := Tryd.zeroValue76
  t51 := Tryd.underlying139
  a51 := Tryd.isAgg139
  z51 := Tryd.sizeOf139
  v51 := Tryd.zeroValue139
  t59 := Tryd.underlying82
  a59 := Tryd.isAgg82
  z59 := Tryd.sizeOf82
  v59 := Tryd.zeroValue82
  t146 := Tryd.underlying140
  a146 := Tryd.isAgg140
  z146 := Tryd.sizeOf140
  v146 := Tryd.zeroValue140
  g1 := by kernel_rfl }
def layCutPRen : Go.Shelf.Ren := ⟨fun | 103 => 56 | 206 => 83 | 210 => 76 | n => n, fun | 3 => 3 | 4 => 4 | 9 => 9 | 24 => 84 | n => n, fun n => n⟩
theorem layCutP : Lays.n103 Tryd.prog layCutPRen := {
  mixed := by kernel_rfl
  f103 := Tryd.func56.trans (congrArg some (by kernel_rfl))
  f206 := Tryd.func83.trans (congrArg some (by kernel_rfl))
  f210 := Tryd.func76.trans (congrArg some (by kernel_rfl))
  t3 := Tryd.underlying3
  a3 := Tryd.isAgg3
  z3 := Tryd.sizeOf3
  v3 := Tryd.zeroValue3
  t4 := Tryd.underlying4
  a4 := Tryd.isAgg4
  z4 := Tryd.sizeOf4
  v4 := Tryd.zeroValue4
  t9 := Tryd.underlying9
  a9 := Tryd.isAgg9
  z9 := Tryd.sizeOf9
  v9 := Tryd.zeroValue9
  t24 := Tryd.underlying84
  a24 := Tryd.isAgg84
  z24 := Tryd.sizeOf84
  v24 := Tryd.zeroValue84 }
def layRepRen : Go.Shelf.Ren := ⟨fun | 99 => 62 | 105 => 90 | 165 => 102 | 166 => 103 | 169 => 105 | 170 => 104 | 206 => 83 | 212 => 101 | 240 => 116 | 241 => 117 | 263 => 114 | 264 => 115 | 276 => 123 | 277 => 124 | n => n, fun | 0 => 0 | 3 => 3 | 4 => 4 | 5 => 5 | 9 => 9 | 20 => 20 | 37 => 122 | 46 => 76 | 51 => 139 | 53 => 102 | 70 => 121 | 72 => 124 | 75 => 127 | 76 => 128 | 80 => 131 | 109 => 119 | 127 => 145 | 146 => 140 | 148 => 143 | 164 => 149 | n => n, fun n => n⟩
theorem layRep : Lays.n105 Tryd.prog layRepRen := {
  mixed := by kernel_rfl
  f99 := Tryd.func62.trans (congrArg some (by kernel_rfl))
  f105 := Tryd.func90.trans (congrArg some (by kernel_rfl))
  f165 := Tryd.func102.trans (congrArg some (by kernel_rfl))
  f166 := Tryd.func103.trans (congrArg some (by kernel_rfl))
  f169 := Tryd.func105.trans (congrArg some (by kernel_rfl))
  f170 := Tryd.func104.trans (congrArg some (by kernel_rfl))
  f206 := Tryd.func83.trans (congrArg some (by kernel_rfl))
  f212 := Tryd.func101.trans (congrArg some (by kernel_rfl))
  f240 := Tryd.func116.trans (congrArg some (by kernel_rfl))
  f241 := Tryd.func117.trans (congrArg some (by kernel_rfl))
  f263 := Tryd.func114.trans (congrArg some (by kernel_rfl))
  f264 := Tryd.func115.trans (congrArg some (by kernel_rfl))
  f276 := Tryd.func123.trans (congrArg some (by kernel_rfl))
  f277 := Tryd.func124.trans (congrArg some (by kernel_rfl))
  t0 := Tryd.underlying0
  a0 := Tryd.isAgg0
  z0 := Tryd.sizeOf0
  v0 := Tryd.zeroValue0
  t3 := Tryd.underlying3
  a3 := Tryd.isAgg3
  z3 := Tryd.sizeOf3
  v3 := Tryd.zeroValue3
  t4 := Tryd.underlying4
  a4 := Tryd.isAgg4
  z4 := Tryd.sizeOf4
  v4 := Tryd.zeroValue4
  t5 := Tryd.underlying5
  a5 := Tryd.isAgg5
  z5 := Tryd.sizeOf5
  v5 := Tryd.zeroValue5
  t9 := Tryd.underlying9
  a9 := Tryd.isAgg9
  z9 := Tryd.sizeOf9
  v9 := Tryd.zeroValue9
  t20 := Tryd.underlying20
  a20 := Tryd.isAgg20
  z20 := Tryd.sizeOf20
  v20 := Tryd.zeroValue20
  t37 := Tryd.underlying122
  a37 := Tryd.isAgg122
  z37 := Tryd.sizeOf122
  v37 := Tryd.zeroValue122
  t46 := Tryd.underlying76
  a46 := Tryd.isAgg76
  z46 := Tryd.sizeOf76
  v46 := Tryd.zeroValue76
  t51 := Tryd.underlying139
  a51 := Tryd.isAgg139
  z51 := Tryd.sizeOf139
  v51 := Tryd.zeroValue139
  t53 := Tryd.underlying102
  a53 := Tryd.isAgg102
  z53 := Tryd.sizeOf102
  v53 := Tryd.zeroValue102
  t70 := Tryd.underlying121
  a70 := Tryd.isAgg121
  z70 := Tryd.sizeOf121
  v70 := Tryd.zeroValue121
  t72 := Tryd.underlying124
  a72 := Tryd.isAgg124
  z72 := Tryd.sizeOf124
  v72 := Tryd.zeroValue124
  t75 := Tryd.underlying127
  a75 := Tryd.isAgg127
  z75 := Tryd.sizeOf127
  v75 := Tryd.zeroValue127
  t76 := Tryd.underlying128
  a76 := Tryd.isAgg128
  z76 := Tryd.sizeOf128
  v76 := Tryd.zeroValue128
  t109 := Tryd.underlying119
  a109 := Tryd.isAgg119
  z109 := Tryd.sizeOf119
  v109 := Tryd.zeroValue119
  t127 := Tryd.underlying145
  a127 := Tryd.isAgg145
  z127 := Tryd.sizeOf145
  v127 := Tryd.zeroValue145
  t146 := Tryd.underlying140
  a146 := Tryd.isAgg140
  z146 := Tryd.sizeOf140
  v146 := Tryd.zeroValue140
  t148 := Tryd.underlying143
  a148 := Tryd.isAgg143
  z148 := Tryd.sizeOf143
  v148 := Tryd.zeroValue143
  t164 := Tryd.underlying149
  a164 := Tryd.isAgg149
  z164 := Tryd.sizeOf149
  v164 := Tryd.zeroValue149 }
theorem layRepX : Builder.Extra Tryd.prog layRepRen := {
  sizeBuilder := by kernel_rfl
  liesBuilder := by kernel_rfl
  t5 := Tryd.underlying5
  a5 := Tryd.isAgg5
  z5 := Tryd.sizeOf5
  v5 := Tryd.zeroValue5
  infoByte := by kernel_rfl
  cellsByte := by kernel_rfl
  sizeByte := by kernel_rfl
  neB5 := by decide }
--TAIL
end Go.Proofs.YtbemijbgbjcoeaaDoor.Char
