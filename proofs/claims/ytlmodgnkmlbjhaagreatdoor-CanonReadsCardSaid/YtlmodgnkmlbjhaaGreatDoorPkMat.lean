import Derived.Lib.ValidLaws
import Derived.Lib.TrimUEq
import Derived.Lib.MapLaws
import Derived.Laws.RangeAny
import Derived.Lib.OthersKept
import Derived.WalkSmall
import Derived.Lib.IndexMore
import Derived.Lib.RuneBytes
import Derived.Shelf.GgClosure.StringsTrimFunc
namespace Go.Proofs.YtlmodgnkmlbjhaaGreatDoor
namespace Char
open Go.Lib
def allN (p : Int → Bool) : Nat → List UInt8 → Bool
 | 0, _ => true
 | n + 1, l => if l = [] then true else p ((decodeL l).1 : Int) && allN p n (l.drop (decodeL l).2)
def allR (p : Int → Bool) (l : List UInt8) : Bool := allN p l.length l
theorem allN_nil (p : Int → Bool) : ∀ n, allN p n [] = true
 | 0 => rfl
 | _ + 1 => by simp [allN]
theorem allN_fuel (p : Int → Bool) : ∀ (n m : Nat) (l : List UInt8), l.length ≤ n → l.length ≤ m → allN p n l = allN p m l
 | 0, m, l, hn, _ => by
  obtain rfl : l = [] := List.eq_nil_of_length_eq_zero (by omega)
  rw [allN_nil, allN_nil]
 | n + 1, 0, l, _, hm => by
  obtain rfl : l = [] := List.eq_nil_of_length_eq_zero (by omega)
  rw [allN_nil, allN_nil]
 | n + 1, m + 1, l, hn, hm => by
  unfold allN
  by_cases hne : l = []
  ·simp [hne]
  ·have hw := decodeL_width l
   have hl : 0 < l.length := List.length_pos_iff.2 hne
   rw [if_neg hne, if_neg hne, allN_fuel p n m (l.drop (decodeL l).2) (by rw [List.length_drop]; omega) (by rw [List.length_drop]; omega)]
theorem allR_nil (p : Int → Bool) : allR p [] = true := rfl
theorem allR_step (p : Int → Bool) (l : List UInt8) (hne : l ≠ []) : allR p l = (p ((decodeL l).1 : Int) && allR p (l.drop (decodeL l).2)) := by
 have hl : 0 < l.length := List.length_pos_iff.2 hne
 have hw := decodeL_width l
 obtain ⟨n, hn⟩ : ∃ n, l.length = n + 1 := ⟨l.length - 1, by omega⟩
 unfold allR
 rw [hn]
 show (if l = [] then true else _) = _
 rw [if_neg hne, allN_fuel p n (l.drop (decodeL l).2).length _ (by rw [List.length_drop]; omega) (Nat.le_refl _)]
theorem allR_and (p q : Int → Bool) : ∀ (n : Nat) (l : List UInt8), l.length ≤ n → (allR (fun r => p r && q r) l = (allR p l && allR q l))
 | 0, l, h => by
  obtain rfl : l = [] := List.eq_nil_of_length_eq_zero (by omega)
  rfl
 | n + 1, l, h => by
  by_cases hne : l = []
  ·subst hne; rfl
  ·have hw := decodeL_width l
   rw [allR_step _ l hne, allR_step p l hne, allR_step q l hne, allR_and p q n _ (by rw [List.length_drop]; omega)]
   cases p ((decodeL l).1 : Int) <;> cases q ((decodeL l).1 : Int) <;> simp
theorem allR_imp (p q : Int → Bool) (h : ∀ r, p r = true → q r = true) : ∀ (n : Nat) (l : List UInt8), l.length ≤ n → allR p l = true → allR q l = true
 | 0, l, hl, _ => by
  obtain rfl : l = [] := List.eq_nil_of_length_eq_zero (by omega)
  rfl
 | n + 1, l, hl, ha => by
  by_cases hne : l = []
  ·subst hne; rfl
  ·have hw := decodeL_width l
   rw [allR_step p l hne, Bool.and_eq_true] at ha
   rw [allR_step q l hne, Bool.and_eq_true]
   exact ⟨h _ ha.1, allR_imp p q h n _ (by rw [List.length_drop]; omega) ha.2⟩
theorem decode_drop (s : ByteArray) (pos : Nat) : Utf8.decode s pos = decodeL (s.data.toList.drop pos) := (decodeL_drop s pos).symm
theorem drop_ne (s : ByteArray) (pos : Nat) (h : pos < s.size) : s.data.toList.drop pos ≠ [] := by
 have e : s.data.toList.length = s.size := by rw [Array.length_toList]; rfl
 intro h0
 have := congrArg List.length h0
 simp at this
 have e2 : s.data.size = s.size := rfl
 omega
theorem drop_end (s : ByteArray) (pos : Nat) (h : ¬ pos < s.size) : s.data.toList.drop pos = [] := by
 apply List.drop_eq_nil_of_le
 have e : s.data.toList.length = s.size := by rw [Array.length_toList]; rfl
 omega
theorem allR_at (p : Int → Bool) (s : ByteArray) (pos : Nat) (h : pos < s.size) :
  allR p (s.data.toList.drop pos) = (p ((Utf8.decode s pos).1 : Int) && allR p (s.data.toList.drop (pos + (Utf8.decode s pos).2))) := by
 rw [allR_step p _ (drop_ne s pos h), decode_drop, List.drop_drop]
theorem int32_lo {a : Int} (h : (Lit.int .i32 a).wf = true) : -2147483648 ≤ a := by
 have : -2147483648 ≤ a ∧ a ≤ 2147483647 := by simpa [Lit.wf, IntKind.min, IntKind.max, IntKind.signed, IntKind.bits] using h
 exact this.1
theorem int32_hi {a : Int} (h : (Lit.int .i32 a).wf = true) : a ≤ 2147483647 := by
 have : -2147483648 ≤ a ∧ a ≤ 2147483647 := by simpa [Lit.wf, IntKind.min, IntKind.max, IntKind.signed, IntKind.bits] using h
 exact this.2
end Char
namespace Char
open Go.RowKit
def inP : List Int → Int → Bool
 | a :: b :: r, n => (decide (a ≤ n) && decide (n ≤ b)) || inP r n
 | _, _ => false
theorem inP_step (zs : List Int) (n : Int) (k : Nat) (h : k + 1 < zs.length) :
  inP (zs.drop k) n = ((decide (zs.getD k 0 ≤ n) && decide (n ≤ zs.getD (k + 1) 0)) || inP (zs.drop (k + 2)) n) := by
 have e1 : zs.drop k = zs.getD k 0 :: zs.getD (k + 1) 0 :: zs.drop (k + 2) := by
  rw [List.drop_eq_getElem_cons (by omega : k < zs.length), List.drop_eq_getElem_cons (by omega : k + 1 < zs.length)]
  simp [List.getD, List.getElem?_eq_getElem h, List.getElem?_eq_getElem (by omega : k < zs.length)]
 rw [e1]
 rfl
theorem inP_end (zs : List Int) (n : Int) (k : Nat) (h : ¬ k + 1 < zs.length) : inP (zs.drop k) n = false := by
 have : (zs.drop k).length ≤ 1 := by simp; omega
 match zs.drop k, this with
 | [], _ => rfl
 | [_], _ => rfl
 | _ :: _ :: _, h2 => simp at h2
def isL : List Int := [9, 9, 10, 10, 13, 13, 32, 0xd7ff, 0xe000, 0xfffd, 0x10000, 0x10ffff]
def stL : List Int := [0x41, 0x5a, 0x5f, 0x5f, 0x61, 0x7a, 0xc0, 0xd6, 0xd8, 0xf6, 0xf8, 0x2ff, 0x370, 0x37d, 0x37f, 0x1fff, 0x200c, 0x200d, 0x2070, 0x218f, 0x2c00, 0x2fef, 0x3001, 0xd7ff, 0xf900, 0xfdcf, 0xfdf0, 0xfffd, 0x10000, 0xeffff]
def paL : List Int := [0x2d, 0x2e, 0x30, 0x39, 0xb7, 0xb7, 0x300, 0x36f, 0x203f, 0x2040]
def isC (n : Int) : Bool := inP isL n
def stC (n : Int) : Bool := inP stL n
def paC (n : Int) : Bool := stC n || inP paL n
def spC (n : Int) : Bool := n == 9 || n == 10 || n == 13 || n == 32
end Char
namespace Char
open Go.RowKit
def txD (l : List UInt8) : Bool := Lib.validD l && allR isC l
def nmD (s : ByteArray) : Bool := decide (0 < s.size) && decide (s.size ≤ 32) && txD s.data.toList && (stC ((Utf8.decode s 0).1 : Int) && allR paC s.data.toList)
theorem pa_is (n : Int) (h : paC n = true) : isC n = true := by
 unfold paC stC isC isL stL paL at *
 simp only [inP] at *
 simp only [Bool.or_eq_true, Bool.and_eq_true, decide_eq_true_eq, Bool.false_eq_true, or_false] at *
 omega
theorem pa_sp (n : Int) (h : paC n = true) : spC n = false := by
 unfold paC stC stL paL at h
 unfold spC
 simp only [inP] at h
 simp only [Bool.or_eq_true, Bool.and_eq_true, decide_eq_true_eq, Bool.false_eq_true, or_false] at h
 simp only [Bool.or_eq_false_iff, beq_eq_false_iff_ne]
 omega
theorem size_list (s : ByteArray) : s.data.toList.length = s.size := by rw [Array.length_toList]; rfl
end Char
namespace Char
open Go.Lib
set_option maxRecDepth 100000 in
set_option maxHeartbeats 4000000 in
theorem decodeN_more (n n' b0 b1 b2 b3 c1 c2 c3 : Nat) (hn : n ≤ n') (h1 : 1 < n → c1 = b1) (h2 : 2 < n → c2 = b2) (h3 : 3 < n → c3 = b3)
  (hv : ¬ ((decodeN n b0 b1 b2 b3).1 = 65533 ∧ (decodeN n b0 b1 b2 b3).2 = 1)) : decodeN n' b0 c1 c2 c3 = decodeN n b0 b1 b2 b3 := by
 by_cases a0 : b0 < 128
 ·simp only [decodeN, if_pos a0]
 by_cases a1 : b0 / 32 = 6 ∧ (1 < n ∧ b1 / 64 = 2)
 ·have e1 := h1 a1.2.1
  subst e1
  have a1' : b0 / 32 = 6 ∧ (1 < n' ∧ c1 / 64 = 2) := ⟨a1.1, by omega, a1.2.2⟩
  simp only [decodeN, if_neg a0, if_pos a1, if_pos a1']
 by_cases a2 : b0 / 16 = 14 ∧ (1 < n ∧ b1 / 64 = 2) ∧ (2 < n ∧ b2 / 64 = 2)
 ·have e1 := h1 a2.2.1.1
  have e2 := h2 a2.2.2.1
  subst e1 e2
  have x1 : ¬ (b0 / 32 = 6 ∧ (1 < n' ∧ c1 / 64 = 2)) := by omega
  have a2' : b0 / 16 = 14 ∧ (1 < n' ∧ c1 / 64 = 2) ∧ (2 < n' ∧ c2 / 64 = 2) := ⟨a2.1, ⟨by omega, a2.2.1.2⟩, by omega, a2.2.2.2⟩
  simp only [decodeN, if_neg a0, if_neg a1, if_neg x1, if_pos a2, if_pos a2']
 by_cases a3 : b0 / 8 = 30 ∧ (1 < n ∧ b1 / 64 = 2) ∧ (2 < n ∧ b2 / 64 = 2) ∧ (3 < n ∧ b3 / 64 = 2)
 ·have e1 := h1 a3.2.1.1
  have e2 := h2 a3.2.2.1.1
  have e3 := h3 a3.2.2.2.1
  subst e1 e2 e3
  have x1 : ¬ (b0 / 32 = 6 ∧ (1 < n' ∧ c1 / 64 = 2)) := by omega
  have x2 : ¬ (b0 / 16 = 14 ∧ (1 < n' ∧ c1 / 64 = 2) ∧ (2 < n' ∧ c2 / 64 = 2)) := by omega
  have a3' : b0 / 8 = 30 ∧ (1 < n' ∧ c1 / 64 = 2) ∧ (2 < n' ∧ c2 / 64 = 2) ∧ (3 < n' ∧ c3 / 64 = 2) := ⟨a3.1, ⟨by omega, a3.2.1.2⟩, ⟨by omega, a3.2.2.1.2⟩, by omega, a3.2.2.2.2⟩
  simp only [decodeN, if_neg a0, if_neg a1, if_neg a2, if_neg x1, if_neg x2, if_pos a3, if_pos a3']
 ·exfalso
  apply hv
  simp only [decodeN, if_neg a0, if_neg a1, if_neg a2, if_neg a3]
  exact ⟨trivial, trivial⟩
theorem decodeL_more (a b : List UInt8) (hne : a ≠ []) (hv : ¬ ((decodeL a).1 = 65533 ∧ (decodeL a).2 = 1)) : decodeL (a ++ b) = decodeL a := by
 have hl : 0 < a.length := List.length_pos_iff.2 hne
 have hg : ∀ j, j < a.length → ((a ++ b).getD j 0) = a.getD j 0 := fun j hj => by
  simp [List.getD, List.getElem?_append_left hj]
 rw [decodeL_N] at hv
 rw [decodeL_N, decodeL_N, hg 0 hl]
 exact decodeN_more _ _ _ _ _ _ _ _ _ (by simp) (fun h => by rw [hg 1 h]) (fun h => by rw [hg 2 h]) (fun h => by rw [hg 3 h]) hv
theorem validD_more : ∀ (n : Nat) (a b : List UInt8), a.length ≤ n → validD a = true → validD (a ++ b) = validD b
 | 0, a, b, hl, _ => by
  obtain rfl : a = [] := List.eq_nil_of_length_eq_zero (by omega)
  rfl
 | n + 1, a, b, hl, hv => by
  by_cases hne : a = []
  ·subst hne; rfl
  ·have hw := decodeL_width a
   have hle := decodeL_le a hne
   rw [validD_step a hne] at hv
   by_cases hb : (decodeL a).1 = 65533 ∧ (decodeL a).2 = 1
   ·rw [if_pos hb] at hv; cases hv
   ·rw [if_neg hb] at hv
    rw [validD_step (a ++ b) (by simp [hne]), decodeL_more a b hne hb, if_neg hb, List.drop_append_of_le_length hle]
    exact validD_more n _ b (by rw [List.length_drop]; omega) hv
theorem allR_more (p : Int → Bool) : ∀ (n : Nat) (a b : List UInt8), a.length ≤ n → validD a = true → allR p (a ++ b) = (allR p a && allR p b)
 | 0, a, b, hl, _ => by
  obtain rfl : a = [] := List.eq_nil_of_length_eq_zero (by omega)
  rfl
 | n + 1, a, b, hl, hv => by
  by_cases hne : a = []
  ·subst hne; rfl
  ·have hw := decodeL_width a
   have hle := decodeL_le a hne
   rw [validD_step a hne] at hv
   by_cases hb : (decodeL a).1 = 65533 ∧ (decodeL a).2 = 1
   ·rw [if_pos hb] at hv; cases hv
   ·rw [if_neg hb] at hv
    rw [allR_step p (a ++ b) (by simp [hne]), decodeL_more a b hne hb, List.drop_append_of_le_length hle, allR_more p n _ b (by rw [List.length_drop]; omega) hv, allR_step p a hne, Bool.and_assoc]
theorem spC_high (n : Int) (h : 128 ≤ n) : spC n = false := by
 unfold spC
 simp only [Bool.or_eq_false_iff, beq_eq_false_iff_ne]
 omega
theorem decodeL_high (b : UInt8) (t : List UInt8) (h : ¬ b.toNat < 128) : 128 ≤ (decodeL (b :: t)).1 := by
 have := (decode_high ⟨(b :: t).toArray⟩ 0 (by show 0 < (b :: t).toArray.size; simp) (by
  show 128 ≤ ((b :: t).toArray[0]'(by simp)).toNat
  simp; omega)).1
 exact this
theorem blank_bytes : ∀ (n : Nat) (l : List UInt8), l.length ≤ n → allR spC l = l.all fun c => spC (c.toNat : Int)
 | 0, l, h => by
  obtain rfl : l = [] := List.eq_nil_of_length_eq_zero (by omega)
  rfl
 | n + 1, [], _ => rfl
 | n + 1, c :: t, h => by
  rw [allR_step spC _ (by simp), List.all_cons]
  by_cases hc : c.toNat < 128
  ·rw [decodeL_ascii c t hc]
   simp only [List.drop_succ_cons, List.drop_zero]
   rw [blank_bytes n t (by simpa using h)]
  ·have h1 := decodeL_high c t hc
   rw [spC_high _ (by omega), spC_high (c.toNat : Int) (by omega)]
   rfl
theorem blank_join (a b : List UInt8) : allR spC (a ++ b) = (allR spC a && allR spC b) := by
 rw [blank_bytes _ _ (Nat.le_refl _), blank_bytes _ a (Nat.le_refl _), blank_bytes _ b (Nat.le_refl _), List.all_append]
end Char
namespace Char
open Go.RowKit Go.Lib
def oneN (n b0 b1 b2 b3 : Nat) : Nat × Nat := if (decodeN n b0 b1 b2 b3).1 = 65533 ∧ (decodeN n b0 b1 b2 b3).2 = 1 then (0, 0) else decodeN n b0 b1 b2 b3
def oneL (l : List UInt8) : Nat × Nat := if l = [] then (0, 0) else if (decodeL l).1 = 65533 ∧ (decodeL l).2 = 1 then (0, 0) else decodeL l
def byt (l : List UInt8) (j : Nat) : Nat := (l.getD j 0).toNat
theorem oneL_N (l : List UInt8) (h : l ≠ []) : oneL l = oneN l.length (byt l 0) (byt l 1) (byt l 2) (byt l 3) := by
 unfold oneL oneN byt
 rw [if_neg h, decodeL_N]
theorem one_low (n b0 b1 b2 b3 : Nat) (h : b0 < 128) : oneN n b0 b1 b2 b3 = (b0, 1) := by
 unfold oneN
 simp only [decodeN, if_pos h]
 rw [if_neg (by omega)]
theorem one_none (n b0 b1 b2 b3 : Nat) (h : ¬ b0 < 128) (h2 : b0 / 32 ≠ 6) (h3 : b0 / 16 ≠ 14) (h4 : b0 / 8 ≠ 30) : oneN n b0 b1 b2 b3 = (0, 0) := by
 unfold oneN
 simp only [decodeN, if_neg h, if_neg (show ¬ (b0 / 32 = 6 ∧ (1 < n ∧ b1 / 64 = 2)) by omega), if_neg (show ¬ (b0 / 16 = 14 ∧ (1 < n ∧ b1 / 64 = 2) ∧ (2 < n ∧ b2 / 64 = 2)) by omega),
  if_neg (show ¬ (b0 / 8 = 30 ∧ (1 < n ∧ b1 / 64 = 2) ∧ (2 < n ∧ b2 / 64 = 2) ∧ (3 < n ∧ b3 / 64 = 2)) by omega)]
 rfl
theorem one_two (n b0 b1 b2 b3 : Nat) (h : 192 ≤ b0 ∧ b0 < 224) : oneN n b0 b1 b2 b3 =
  if 1 < n ∧ (128 ≤ b1 ∧ b1 ≤ 191) then (if (b0 - 192) * 64 + (b1 - 128) < 128 then (0, 0) else ((b0 - 192) * 64 + (b1 - 128), 2)) else (0, 0) := by
 unfold oneN
 have x1 : ¬ b0 < 128 := by omega
 have x3 : ¬ (b0 / 16 = 14 ∧ (1 < n ∧ b1 / 64 = 2) ∧ (2 < n ∧ b2 / 64 = 2)) := by omega
 have x4 : ¬ (b0 / 8 = 30 ∧ (1 < n ∧ b1 / 64 = 2) ∧ (2 < n ∧ b2 / 64 = 2) ∧ (3 < n ∧ b3 / 64 = 2)) := by omega
 by_cases c : 1 < n ∧ 128 ≤ b1 ∧ b1 ≤ 191
 ·have x2 : b0 / 32 = 6 ∧ (1 < n ∧ b1 / 64 = 2) := by omega
  simp only [decodeN, if_neg x1, if_pos x2]
  rw [if_pos c]
  by_cases d : (b0 - 192) * 64 + (b1 - 128) < 128
  ·rw [if_pos d, if_neg (show ¬ (b0 % 32 * 64 + b1 % 64 ≥ 128) by omega)]
   rfl
  ·rw [if_neg d, if_pos (show b0 % 32 * 64 + b1 % 64 ≥ 128 by omega), if_neg (by simp)]
   apply Prod.ext <;> simp only <;> omega
 ·have x2 : ¬ (b0 / 32 = 6 ∧ (1 < n ∧ b1 / 64 = 2)) := by omega
  simp only [decodeN, if_neg x1, if_neg x2, if_neg x3, if_neg x4]
  rw [if_neg c]
  rfl
set_option maxRecDepth 100000 in
theorem one_three (n b0 b1 b2 b3 : Nat) (h : 224 ≤ b0 ∧ b0 < 240) : oneN n b0 b1 b2 b3 =
  if 2 < n ∧ (128 ≤ b1 ∧ b1 ≤ 191) ∧ (128 ≤ b2 ∧ b2 ≤ 191) then (if (b0 - 224) * 4096 + (b1 - 128) * 64 + (b2 - 128) < 2048 ∨ (55296 ≤ (b0 - 224) * 4096 + (b1 - 128) * 64 + (b2 - 128) ∧ (b0 - 224) * 4096 + (b1 - 128) * 64 + (b2 - 128) ≤ 57343) then (0, 0)
   else ((b0 - 224) * 4096 + (b1 - 128) * 64 + (b2 - 128), 3)) else (0, 0) := by
 unfold oneN
 have x1 : ¬ b0 < 128 := by omega
 have x2 : ¬ (b0 / 32 = 6 ∧ (1 < n ∧ b1 / 64 = 2)) := by omega
 have x4 : ¬ (b0 / 8 = 30 ∧ (1 < n ∧ b1 / 64 = 2) ∧ (2 < n ∧ b2 / 64 = 2) ∧ (3 < n ∧ b3 / 64 = 2)) := by omega
 by_cases c : 2 < n ∧ (128 ≤ b1 ∧ b1 ≤ 191) ∧ 128 ≤ b2 ∧ b2 ≤ 191
 ·have x3 : b0 / 16 = 14 ∧ (1 < n ∧ b1 / 64 = 2) ∧ (2 < n ∧ b2 / 64 = 2) := by omega
  simp only [decodeN, if_neg x1, if_neg x2, if_pos x3]
  rw [if_pos c]
  have e : b0 % 16 * 4096 + b1 % 64 * 64 + b2 % 64 = (b0 - 224) * 4096 + (b1 - 128) * 64 + (b2 - 128) := by omega
  rw [e]
  generalize (b0 - 224) * 4096 + (b1 - 128) * 64 + (b2 - 128) = v at *
  have hv : v ≤ 65535 := by omega
  by_cases d : v < 2048 ∨ (55296 ≤ v ∧ v ≤ 57343)
  ·rw [if_pos d, if_neg (show ¬ (v ≥ 2048 ∧ (v < 55296 ∨ 57344 ≤ v ∧ v ≤ 1114111)) by omega)]
   rfl
  ·rw [if_neg d, if_pos (show v ≥ 2048 ∧ (v < 55296 ∨ 57344 ≤ v ∧ v ≤ 1114111) by omega), if_neg (by simp)]
 ·have x3 : ¬ (b0 / 16 = 14 ∧ (1 < n ∧ b1 / 64 = 2) ∧ (2 < n ∧ b2 / 64 = 2)) := by omega
  simp only [decodeN, if_neg x1, if_neg x2, if_neg x3, if_neg x4]
  rw [if_neg c]
  rfl
set_option maxRecDepth 100000 in
theorem one_four (n b0 b1 b2 b3 : Nat) (h : 240 ≤ b0 ∧ b0 < 248) : oneN n b0 b1 b2 b3 =
  if 3 < n ∧ (128 ≤ b1 ∧ b1 ≤ 191) ∧ (128 ≤ b2 ∧ b2 ≤ 191) ∧ (128 ≤ b3 ∧ b3 ≤ 191) then (if (b0 - 240) * 262144 + (b1 - 128) * 4096 + (b2 - 128) * 64 + (b3 - 128) < 65536 ∨ 1114111 < (b0 - 240) * 262144 + (b1 - 128) * 4096 + (b2 - 128) * 64 + (b3 - 128) then (0, 0)
   else ((b0 - 240) * 262144 + (b1 - 128) * 4096 + (b2 - 128) * 64 + (b3 - 128), 4)) else (0, 0) := by
 unfold oneN
 have x1 : ¬ b0 < 128 := by omega
 have x2 : ¬ (b0 / 32 = 6 ∧ (1 < n ∧ b1 / 64 = 2)) := by omega
 have x3 : ¬ (b0 / 16 = 14 ∧ (1 < n ∧ b1 / 64 = 2) ∧ (2 < n ∧ b2 / 64 = 2)) := by omega
 by_cases c : 3 < n ∧ (128 ≤ b1 ∧ b1 ≤ 191) ∧ (128 ≤ b2 ∧ b2 ≤ 191) ∧ 128 ≤ b3 ∧ b3 ≤ 191
 ·have x4 : b0 / 8 = 30 ∧ (1 < n ∧ b1 / 64 = 2) ∧ (2 < n ∧ b2 / 64 = 2) ∧ (3 < n ∧ b3 / 64 = 2) := by omega
  simp only [decodeN, if_neg x1, if_neg x2, if_neg x3, if_pos x4]
  rw [if_pos c]
  have e : b0 % 8 * 262144 + b1 % 64 * 4096 + b2 % 64 * 64 + b3 % 64 = (b0 - 240) * 262144 + (b1 - 128) * 4096 + (b2 - 128) * 64 + (b3 - 128) := by omega
  rw [e]
  clear e
  generalize (b0 - 240) * 262144 + (b1 - 128) * 4096 + (b2 - 128) * 64 + (b3 - 128) = v
  by_cases d : v < 65536 ∨ 1114111 < v
  ·rw [if_pos d, if_neg (show ¬ (v ≥ 65536 ∧ (v < 55296 ∨ 57344 ≤ v ∧ v ≤ 1114111)) by omega)]
   rfl
  ·rw [if_neg d, if_pos (show v ≥ 65536 ∧ (v < 55296 ∨ 57344 ≤ v ∧ v ≤ 1114111) by omega), if_neg (by simp)]
 ·have x4 : ¬ (b0 / 8 = 30 ∧ (1 < n ∧ b1 / 64 = 2) ∧ (2 < n ∧ b2 / 64 = 2) ∧ (3 < n ∧ b3 / 64 = 2)) := by omega
  simp only [decodeN, if_neg x1, if_neg x2, if_neg x3, if_neg x4]
  rw [if_neg c]
  rfl
end Char
namespace Char
open Go.Lib
def lnL (t : List UInt8) : List UInt8 := if [10].isPrefixOf t then t.drop 1 else t
theorem ln_le (t : List UInt8) : (lnL t).length ≤ t.length := by
 unfold lnL
 split
 ·rw [List.length_drop]; omega
 ·exact Nat.le_refl _
def linesN : Nat → List UInt8 → List UInt8
 | 0, _ => []
 | _ + 1, [] => []
 | n + 1, b :: t => if b = 13 then 10 :: linesN n (lnL t) else b :: linesN n t
theorem linesN_fuel : ∀ (n m : Nat) (l : List UInt8), l.length ≤ n → l.length ≤ m → linesN n l = linesN m l
 | 0, 0, _, _, _ => rfl
 | 0, m + 1, l, hn, _ => by
  obtain rfl : l = [] := List.eq_nil_of_length_eq_zero (by omega)
  rfl
 | n + 1, 0, l, _, hm => by
  obtain rfl : l = [] := List.eq_nil_of_length_eq_zero (by omega)
  rfl
 | n + 1, m + 1, [], _, _ => rfl
 | n + 1, m + 1, b :: t, hn, hm => by
  rw [List.length_cons] at hn hm
  have := ln_le t
  unfold linesN
  rw [linesN_fuel n m t (by omega) (by omega), linesN_fuel n m (lnL t) (by omega) (by omega)]
def linesL (l : List UInt8) : List UInt8 := linesN l.length l
theorem lines_nil : linesL [] = [] := rfl
theorem lines_cr (t : List UInt8) : linesL (13 :: t) = 10 :: linesL (lnL t) := by
 have := ln_le t
 unfold linesL
 rw [List.length_cons]
 conv => lhs; unfold linesN
 rw [if_pos rfl, linesN_fuel t.length (lnL t).length (lnL t) this (Nat.le_refl _)]
theorem lines_o {b : UInt8} (t : List UInt8) (h : b ≠ 13) : linesL (b :: t) = b :: linesL t := by
 unfold linesL
 rw [List.length_cons]
 conv => lhs; unfold linesN
 rw [if_neg h]
theorem lines_le : ∀ (n : Nat) (l : List UInt8), l.length ≤ n → (linesL l).length ≤ l.length
 | _, [], _ => Nat.le_refl _
 | 0, b :: t, h => by simp at h
 | n + 1, b :: t, h => by
  rw [List.length_cons] at h
  by_cases hb : b = 13
  ·subst hb
   have h1 := ln_le t
   have h2 := lines_le n (lnL t) (by omega)
   rw [lines_cr, List.length_cons, List.length_cons]
   omega
  ·have h2 := lines_le n t (by omega)
   rw [lines_o t hb, List.length_cons, List.length_cons]
   omega
def fnd (l t : List UInt8) (p : Nat) : Int := if index (l.drop p) t = -1 then -1 else (p : Int) + index (l.drop p) t
theorem fnd_here {l t : List UInt8} {p : Nat} (h : t.isPrefixOf (l.drop p) = true) : fnd l t p = (p : Int) := by
 have e : index (l.drop p) t = 0 := by
  cases hd : l.drop p with
  | nil =>
   rw [hd] at h
   have : t = [] := by cases t with | nil => rfl | cons _ _ => simp [List.isPrefixOf] at h
   subst this
   rfl
  | cons b r =>
   rw [hd] at h
   unfold index
   rw [h]
   rfl
 unfold fnd
 rw [e, if_neg (by omega)]
 omega
theorem fnd_next {l t : List UInt8} {p : Nat} (hp : p < l.length) (h : t.isPrefixOf (l.drop p) = false) : fnd l t p = fnd l t (p + 1) := by
 have hd := List.drop_eq_getElem_cons hp
 rw [hd] at h
 have e : index (l.drop p) t = if index (l.drop (p + 1)) t == -1 then -1 else index (l.drop (p + 1)) t + 1 := by
  rw [hd]
  conv => lhs; unfold index
  rw [h]
  rfl
 have hg := index_ge (l.drop (p + 1)) t
 unfold fnd
 rw [e]
 by_cases h1 : index (l.drop (p + 1)) t = -1
 ·rw [h1]; rfl
 ·rw [if_neg h1, if_neg (show ¬ (index (l.drop (p + 1)) t == -1) = true by simpa using h1), if_neg (by omega)]
  omega
theorem fnd_end {l t : List UInt8} {p : Nat} (h : l.length < p + t.length) (ht : 0 < t.length) : fnd l t p = -1 := by
 have e : index (l.drop p) t = -1 := by
  refine index_none (fun j hj => ?_)
  rw [List.length_drop] at hj
  cases ho : occAt (l.drop p) t j with
  | false => rfl
  | true =>
   rcases occAt_room ho with h1 | h1
   ·rw [List.length_drop] at h1; omega
   ·rw [h1] at ht; simp at ht
 unfold fnd
 rw [if_pos e]
theorem pre_take (t r : List UInt8) (h : t.length ≤ r.length) : t.isPrefixOf r = (r.take t.length == t) := by
 have := occAt_iff_take r t 0 (by omega)
 unfold occAt at this
 simpa using this
theorem pre_short {t r : List UInt8} (h : r.length < t.length) : t.isPrefixOf r = false := by
 cases hp : t.isPrefixOf r with
 | false => rfl
 | true =>
  have := (List.isPrefixOf_iff_prefix.1 hp).length_le
  omega
theorem fnd_range {l t : List UInt8} {p : Nat} (h : fnd l t p ≠ -1) (hp : p ≤ l.length) : (p : Int) ≤ fnd l t p ∧ fnd l t p + t.length ≤ l.length := by
 unfold fnd at h ⊢
 by_cases e : index (l.drop p) t = -1
 ·rw [if_pos e] at h; exact absurd rfl h
 ·rw [if_neg e] at h ⊢
  have hg := index_ge (l.drop p) t
  refine ⟨by omega, ?_⟩
  have key : ∀ (s : List UInt8), index s t ≠ -1 → index s t + t.length ≤ s.length := by
   intro s
   induction s with
   | nil =>
    intro hs
    unfold index at hs ⊢
    cases t with
    | nil => simp
    | cons _ _ => simp at hs
   | cons b s ih =>
    intro hs
    unfold index at hs ⊢
    by_cases hpre : t.isPrefixOf (b :: s) = true
    ·rw [if_pos hpre]
     have := (List.isPrefixOf_iff_prefix.1 hpre).length_le
     omega
    ·rw [if_neg hpre] at hs ⊢
     by_cases h1 : index s t = -1
     ·rw [h1] at hs; exact absurd rfl hs
     ·rw [if_neg (show ¬ (index s t == -1) = true by simpa using h1)]
      have := ih h1
      rw [List.length_cons]
      omega
  have := key _ e
  rw [List.length_drop] at this
  omega
def runN : Nat → List UInt8 → Nat
 | 0, _ => 0
 | n + 1, l => if (oneL l).2 = 0 then 0 else if paC ((oneL l).1 : Int) then (oneL l).2 + runN n (l.drop (oneL l).2) else 0
theorem one_le (l : List UInt8) : (oneL l).2 ≤ l.length := by
 unfold oneL
 split
 ·exact Nat.zero_le _
 ·split
  ·exact Nat.zero_le _
  ·rename_i h _
   exact decodeL_le l h
theorem runN_fuel : ∀ (n m : Nat) (l : List UInt8), l.length ≤ n → l.length ≤ m → runN n l = runN m l
 | 0, 0, _, _, _ => rfl
 | 0, m + 1, l, hn, _ => by
  obtain rfl : l = [] := List.eq_nil_of_length_eq_zero (by omega)
  rfl
 | n + 1, 0, l, _, hm => by
  obtain rfl : l = [] := List.eq_nil_of_length_eq_zero (by omega)
  rfl
 | n + 1, m + 1, l, hn, hm => by
  unfold runN
  by_cases h : (oneL l).2 = 0
  ·rw [if_pos h, if_pos h]
  ·have := one_le l
   rw [if_neg h, if_neg h, runN_fuel n m _ (by rw [List.length_drop]; omega) (by rw [List.length_drop]; omega)]
def runL (l : List UInt8) : Nat := runN l.length l
theorem run_nil : runL [] = 0 := rfl
theorem run_stop {l : List UInt8} (h : (oneL l).2 = 0 ∨ paC ((oneL l).1 : Int) = false) : runL l = 0 := by
 unfold runL
 cases l with
 | nil => rfl
 | cons b t =>
  rw [List.length_cons]
  unfold runN
  rcases h with h | h
  ·rw [if_pos h]
  ·split
   ·rfl
   ·rw [h]; rfl
theorem run_go {l : List UInt8} (h : (oneL l).2 ≠ 0) (hp : paC ((oneL l).1 : Int) = true) : runL l = (oneL l).2 + runL (l.drop (oneL l).2) := by
 have hle := one_le l
 obtain ⟨n, hn⟩ : ∃ n, l.length = n + 1 := ⟨l.length - 1, by omega⟩
 unfold runL
 rw [hn]
 conv => lhs; unfold runN
 rw [if_neg h, if_pos hp, runN_fuel n (l.drop (oneL l).2).length _ (by rw [List.length_drop]; omega) (Nat.le_refl _)]
theorem run_le : ∀ (n : Nat) (l : List UInt8), l.length ≤ n → runL l ≤ l.length
 | 0, l, h => by
  obtain rfl : l = [] := List.eq_nil_of_length_eq_zero (by omega)
  exact Nat.le_refl _
 | n + 1, l, h => by
  by_cases h0 : (oneL l).2 = 0 ∨ paC ((oneL l).1 : Int) = false
  ·rw [run_stop h0]; exact Nat.zero_le _
  ·have hle := one_le l
   have h1 : (oneL l).2 ≠ 0 := fun h => h0 (.inl h)
   have h2 : paC ((oneL l).1 : Int) = true := by
    cases hp : paC ((oneL l).1 : Int) with
    | true => rfl
    | false => exact absurd (.inr hp) h0
   have ih := run_le n (l.drop (oneL l).2) (by rw [List.length_drop]; omega)
   rw [run_go h1 h2]
   rw [List.length_drop] at ih
   omega
def spcL (l : List UInt8) : Nat := (l.takeWhile fun b => spC (b.toNat : Int)).length
theorem spc_cons (b : UInt8) (t : List UInt8) : spcL (b :: t) = if spC (b.toNat : Int) then spcL t + 1 else 0 := by
 unfold spcL
 rw [List.takeWhile_cons]
 split <;> rfl
theorem spc_le (l : List UInt8) : spcL l ≤ l.length := (List.takeWhile_prefix _).length_le
def smallB (c : UInt8) : UInt8 := if 65 ≤ c.toNat ∧ c.toNat ≤ 90 then c + 32 else c
def smallL (l : List UInt8) : List UInt8 := l.map smallB
def mustL (r : List UInt8) (c : UInt8) : Nat := match r with
 | [] => 16
 | b :: _ => if b = c then 0 else 13
end Char
namespace Char
open Go.Lib
def stdL (attr : Bool) (b : UInt8) : List UInt8 :=
 if b = 38 then [38, 97, 109, 112, 59] else if b = 60 then [38, 108, 116, 59] else if b = 13 then [38, 35, 49, 51, 59]
 else if b = 62 ∧ attr = false then [38, 103, 116, 59] else if b = 34 ∧ attr = true then [38, 113, 117, 111, 116, 59]
 else if b = 9 ∧ attr = true then [38, 35, 57, 59] else if b = 10 ∧ attr = true then [38, 35, 49, 48, 59] else [b]
def putL (attr : Bool) (l : List UInt8) : List UInt8 := l.flatMap (stdL attr)
theorem putL_cons (attr : Bool) (b : UInt8) (t : List UInt8) : putL attr (b :: t) = stdL attr b ++ putL attr t := by simp [putL]
theorem putL_nil (attr : Bool) : putL attr [] = [] := rfl
theorem stdL_le (attr : Bool) (b : UInt8) : (stdL attr b).length ≤ 6 := by
 unfold stdL
 repeat' split
 all_goals simp
theorem putL_le (attr : Bool) : ∀ l : List UInt8, (putL attr l).length ≤ 6 * l.length
 | [] => by simp [putL]
 | b :: t => by
  have h1 := stdL_le attr b
  have h2 := putL_le attr t
  rw [putL_cons, List.length_append, List.length_cons]
  omega
theorem putL_snoc (attr : Bool) (a : List UInt8) (b : UInt8) : putL attr (a ++ [b]) = putL attr a ++ stdL attr b := by simp [putL]
def dgV (b : UInt8) : Nat :=
 if 48 ≤ b.toNat ∧ b.toNat ≤ 57 then b.toNat - 48 else if 97 ≤ b.toNat ∧ b.toNat ≤ 102 then b.toNat - 87 else if 65 ≤ b.toNat ∧ b.toNat ≤ 70 then b.toNat - 55 else 99
def valN (base : Nat) : Nat → List UInt8 → Option Nat
 | n, [] => some n
 | n, b :: t => if dgV b < base then valN base (n * base + dgV b) t else none
def chrN (base : Nat) (l : List UInt8) : Option Nat :=
 if l = [] then none else (valN base 0 l).bind fun n => if isC (n : Int) then some n else none
def chL (s : List UInt8) : Option Nat :=
 if s = [97, 109, 112] then some 38 else if s = [108, 116] then some 60 else if s = [103, 116] then some 62
 else if s = [113, 117, 111, 116] then some 34 else if s = [97, 112, 111, 115] then some 39
 else if [35, 120].isPrefixOf s then chrN 16 (s.drop 2) else if [35].isPrefixOf s then chrN 10 (s.drop 1) else none
def noS (b : UInt8) : Bool := b != 59
def refL (t : List UInt8) : Option (Nat × List UInt8) :=
 if t.all noS then none else (chL (t.takeWhile noS)).map fun n => (n, (t.dropWhile noS).drop 1)
def stp (attr : Bool) : List UInt8 → Nat ⊕ (List UInt8 × List UInt8)
 | [] => .inl 0
 | b :: t =>
  if b = 60 then .inl 13
  else if b = 38 then match refL t with
   | some (n, r) => .inr (encodeRune (n : Int), r)
   | none => .inl 12
  else if b = 13 then .inr ([if attr then 32 else 10], if [10].isPrefixOf t then t.drop 1 else t)
  else .inr ([if attr ∧ (b = 9 ∨ b = 10) then 32 else b], t)
theorem stp_cons (attr : Bool) (b : UInt8) (t : List UInt8) : stp attr (b :: t) =
  if b = 60 then .inl 13
  else if b = 38 then match refL t with
   | some (n, r) => .inr (encodeRune (n : Int), r)
   | none => .inl 12
  else if b = 13 then .inr ([if attr then 32 else 10], if [10].isPrefixOf t then t.drop 1 else t)
  else .inr ([if attr ∧ (b = 9 ∨ b = 10) then 32 else b], t) := rfl
theorem refL_le {t r : List UInt8} {n : Nat} (h : refL t = some (n, r)) : r.length ≤ t.length := by
 unfold refL at h
 split at h
 ·cases h
 ·have h1 := (List.dropWhile_suffix (l := t) noS).length_le
  cases hc : chL (t.takeWhile noS) with
  | none => rw [hc] at h; cases h
  | some m =>
   rw [hc] at h
   simp only [Option.map_some, Option.some.injEq, Prod.mk.injEq] at h
   rw [← h.2, List.length_drop]
   omega
theorem stp_lt {attr : Bool} {l c r : List UInt8} (h : stp attr l = .inr (c, r)) : r.length < l.length := by
 cases l with
 | nil => cases h
 | cons b t =>
  rw [stp_cons] at h
  rw [List.length_cons]
  split at h
  ·cases h
  ·split at h
   ·split at h
    ·rename_i hr
     have := refL_le hr
     simp only [Sum.inr.injEq, Prod.mk.injEq] at h
     rw [← h.2]
     omega
    ·cases h
   ·split at h
    ·simp only [Sum.inr.injEq, Prod.mk.injEq] at h
     rw [← h.2]
     split
     ·rw [List.length_drop]; omega
     ·omega
    ·simp only [Sum.inr.injEq, Prod.mk.injEq] at h
     rw [← h.2]
     omega
def gN (attr : Bool) : Nat → List UInt8 → List UInt8 → List UInt8 × Nat
 | 0, acc, _ => (acc, 0)
 | n + 1, acc, l => match stp attr l with
  | .inl 0 => (acc, 0)
  | .inl (e + 1) => ([], e + 1)
  | .inr (c, r) => gN attr n (acc ++ c) r
theorem gN_fuel (attr : Bool) : ∀ (n m : Nat) (acc l : List UInt8), l.length < n → l.length < m → gN attr n acc l = gN attr m acc l
 | 0, m, acc, l, hn, _ => by omega
 | n + 1, 0, acc, l, _, hm => by omega
 | n + 1, m + 1, acc, l, hn, hm => by
  unfold gN
  cases h : stp attr l with
  | inl e => cases e <;> rfl
  | inr x =>
   obtain ⟨c, r⟩ := x
   have := stp_lt h
   exact gN_fuel attr n m (acc ++ c) r (by omega) (by omega)
def gL (attr : Bool) (acc l : List UInt8) : List UInt8 × Nat := gN attr (l.length + 1) acc l
theorem gL_end {attr : Bool} {l : List UInt8} (acc : List UInt8) (h : stp attr l = .inl 0) : gL attr acc l = (acc, 0) := by
 unfold gL gN
 rw [h]
theorem gL_err {attr : Bool} {l : List UInt8} {e : Nat} (acc : List UInt8) (h : stp attr l = .inl e) (h0 : e ≠ 0) : gL attr acc l = ([], e) := by
 unfold gL gN
 rw [h]
 cases e with
 | zero => exact absurd rfl h0
 | succ e => rfl
theorem gL_step {attr : Bool} {l c r : List UInt8} (acc : List UInt8) (h : stp attr l = .inr (c, r)) : gL attr acc l = gL attr (acc ++ c) r := by
 have hl := stp_lt h
 have e : gL attr acc l = gN attr l.length (acc ++ c) r := by
  unfold gL
  conv => lhs; unfold gN
  rw [h]
 rw [e]
 exact gN_fuel attr _ _ _ _ (by omega) (by omega)
def capN (n : Nat) : Nat := if n > 0x10ffff then 0x110000 else n
def valC (base : Nat) : Nat → List UInt8 → Option Nat
 | n, [] => some n
 | n, b :: t => if dgV b < base then valC base (capN (n * base + dgV b)) t else none
theorem valC_eq (base : Nat) (hb : base = 10 ∨ base = 16) : ∀ (l : List UInt8) (n : Nat), valC base (capN n) l = (valN base n l).map capN
 | [], n => rfl
 | b :: t, n => by
  unfold valC valN
  by_cases h : dgV b < base
  ·rw [if_pos h, if_pos h]
   have e : capN (capN n * base + dgV b) = capN (n * base + dgV b) := by
    rcases hb with rfl | rfl
    all_goals
     unfold capN
     split
     ·split <;> split <;> omega
     ·rfl
   rw [e]
   exact valC_eq base hb t _
  ·rw [if_neg h, if_neg h]; rfl
theorem isC_iff (n : Int) : isC n = true ↔ n = 9 ∨ n = 10 ∨ n = 13 ∨ (32 ≤ n ∧ n ≤ 0xd7ff) ∨ (0xe000 ≤ n ∧ n ≤ 0xfffd) ∨ (0x10000 ≤ n ∧ n ≤ 0x10ffff) := by
 unfold isC isL
 simp only [inP, Bool.or_eq_true, Bool.and_eq_true, decide_eq_true_eq, Bool.false_eq_true, or_false]
 omega
theorem isC_le {n : Int} (h : isC n = true) : 9 ≤ n ∧ n ≤ 0x10ffff ∧ ¬ (0xd800 ≤ n ∧ n ≤ 0xdfff) := by
 rw [isC_iff] at h
 omega
theorem isC_cap (n : Nat) : isC (capN n : Nat) = isC (n : Int) := by
 unfold capN
 split
 ·rw [Bool.eq_iff_iff, isC_iff, isC_iff]
  omega
 ·rfl
theorem capN_of (n : Nat) (h : isC (n : Int) = true) : capN n = n := by
 have := isC_le h
 unfold capN
 rw [if_neg (by omega)]
theorem chrN_cap (base : Nat) (hb : base = 10 ∨ base = 16) (l : List UInt8) (hl : l ≠ []) : chrN base l = (valC base 0 l).bind fun n => if isC (n : Int) then some n else none := by
 unfold chrN
 rw [if_neg hl]
 have := valC_eq base hb l 0
 rw [show capN 0 = 0 from rfl] at this
 rw [this]
 cases valN base 0 l with
 | none => rfl
 | some n =>
  show (if isC (n : Int) then some n else none) = (if isC ((capN n : Nat) : Int) then some (capN n) else none)
  rw [isC_cap]
  split
  ·rename_i h; rw [capN_of n h]
  ·rfl
theorem chrN_isC {base : Nat} {l : List UInt8} {n : Nat} (h : chrN base l = some n) : isC (n : Int) = true := by
 unfold chrN at h
 split at h
 ·cases h
 ·cases hv : valN base 0 l with
  | none => rw [hv] at h; cases h
  | some m =>
   rw [hv] at h
   simp only [Option.bind_some] at h
   split at h
   ·rename_i hm; cases h; exact hm
   ·cases h
theorem chL_isC {s : List UInt8} {n : Nat} (h : chL s = some n) : isC (n : Int) = true := by
 unfold chL at h
 repeat' split at h
 all_goals first | (cases h; decide) | exact chrN_isC h | cases h
theorem enc_ne (n : Int) : encodeRune n ≠ [] := by
 have := encodeRuneZ_length n
 intro h
 have h2 : (encodeRune n).length = 0 := by rw [h]; rfl
 simp only [encodeRune, List.length_map] at h2
 omega
def getF (attr : Bool) (l : List UInt8) (tx : Bool) : List UInt8 × Nat := if tx then gL attr [] l else ([], 10)
end Char
namespace Char
open Go.Lib
theorem refL_app (a X : List UInt8) (h : a.all noS = true) : refL (a ++ 59 :: X) = (chL a).map fun n => (n, X) := by
 have ht : ∀ a : List UInt8, a.all noS = true → (a ++ 59 :: X).takeWhile noS = a ∧ (a ++ 59 :: X).dropWhile noS = 59 :: X := by
  intro a
  induction a with
  | nil => intro _; exact ⟨by simp [noS], by simp [noS]⟩
  | cons x a ih =>
   intro h
   rw [List.all_cons, Bool.and_eq_true] at h
   obtain ⟨h1, h2⟩ := ih h.2
   simp [h.1, h1, h2]
 have hn : (a ++ 59 :: X).all noS = false := by
  rw [List.all_append, List.all_cons, show noS 59 = false from rfl]
  simp
 unfold refL
 rw [hn, (ht a h).1, (ht a h).2]
 rfl
theorem getD_at (l : List UInt8) (j : Nat) (h : j < l.length) : l.getD j 0 = l[j] := by simp [List.getD, List.getElem?_eq_getElem h]
theorem refL_at (l : List UInt8) (p e : Nat) (hp : p ≤ e) (he : e < l.length) (h59 : l.getD e 0 = 59) (hn : ∀ j, p ≤ j → j < e → l.getD j 0 ≠ 59) :
  refL (l.drop p) = (chL ((l.drop p).take (e - p))).map fun n => (n, l.drop (e + 1)) := by
 have e1 : l.drop p = (l.drop p).take (e - p) ++ 59 :: l.drop (e + 1) := by
  have h1 := List.take_append_drop (e - p) (l.drop p)
  rw [List.drop_drop, show p + (e - p) = e by omega, List.drop_eq_getElem_cons he, ← getD_at l e he, h59] at h1
  exact h1.symm
 have hall : ((l.drop p).take (e - p)).all noS = true := by
  rw [List.all_eq_true]
  intro x hx
  obtain ⟨i, hi, rfl⟩ := List.getElem_of_mem hx
  rw [List.length_take, List.length_drop] at hi
  rw [List.getElem_take, List.getElem_drop]
  have := hn (p + i) (by omega) (by omega)
  rw [getD_at l (p + i) (by omega)] at this
  unfold noS
  simpa using this
 conv => lhs; rw [e1]
 exact refL_app _ _ hall
theorem refL_off (l : List UInt8) (p : Nat) (hn : ∀ j, p ≤ j → j < l.length → l.getD j 0 ≠ 59) : refL (l.drop p) = none := by
 unfold refL
 rw [if_pos]
 rw [List.all_eq_true]
 intro x hx
 obtain ⟨i, hi, rfl⟩ := List.getElem_of_mem hx
 rw [List.length_drop] at hi
 rw [List.getElem_drop]
 have := hn (p + i) (by omega) (by omega)
 rw [getD_at l (p + i) (by omega)] at this
 unfold noS
 simpa using this
def nlL (t : List UInt8) : List UInt8 := if [10].isPrefixOf t then t.drop 1 else t
theorem stp_cr {attr : Bool} {en : UInt8} (he : en = if attr then 32 else 10) (t : List UInt8) : stp attr (13 :: t) = .inr ([en], nlL t) := by
 rw [stp_cons, if_neg (by decide), if_neg (by decide), if_pos rfl, he]
 rfl
theorem stp_nine {attr : Bool} {tb : UInt8} (ht : tb = if attr then 32 else 9) (t : List UInt8) : stp attr (9 :: t) = .inr ([tb], t) := by
 rw [stp_cons, if_neg (by decide), if_neg (by decide), if_neg (by decide), ht]
 cases attr <;> rfl
theorem stp_ten {attr : Bool} {en : UInt8} (he : en = if attr then 32 else 10) (t : List UInt8) : stp attr (10 :: t) = .inr ([en], t) := by
 rw [stp_cons, if_neg (by decide), if_neg (by decide), if_neg (by decide), he]
 cases attr <;> rfl
theorem stp_other (attr : Bool) (b : UInt8) (t : List UInt8) (h1 : b ≠ 60) (h2 : b ≠ 38) (h3 : b ≠ 13) (h4 : b ≠ 9) (h5 : b ≠ 10) : stp attr (b :: t) = .inr ([b], t) := by
 rw [stp_cons, if_neg h1, if_neg h2, if_neg h3, if_neg]
 rintro ⟨_, h | h⟩
 ·exact h4 h
 ·exact h5 h
theorem stp_amp_some (attr : Bool) {t r : List UInt8} {n : Nat} (h : refL t = some (n, r)) : stp attr (38 :: t) = .inr (encodeRune (n : Int), r) := by
 rw [stp_cons, if_neg (by decide), if_pos rfl, h]
theorem stp_amp_none (attr : Bool) {t : List UInt8} (h : refL t = none) : stp attr (38 :: t) = .inl 12 := by
 rw [stp_cons, if_neg (by decide), if_pos rfl, h]
theorem u8_ne (b x : UInt8) (h : b ≠ x) : ((b.toNat : Int) == (x.toNat : Int)) = false := by
 rw [beq_eq_false_iff_ne]
 intro hh
 apply h
 apply UInt8.toNat_inj.1
 omega
theorem nl_le (t : List UInt8) : (nlL t).length ≤ t.length := by
 unfold nlL
 split
 ·rw [List.length_drop]; omega
 ·exact Nat.le_refl _
theorem enc_le (n : Int) : (encodeRune n).length ≤ 4 := by
 have := encodeRuneZ_length n
 unfold encodeRune
 rw [List.length_map]
 omega
def getD5 (attr : Bool) (l : List UInt8) : List UInt8 × Nat := getF attr l (txD l)
theorem get_no {attr : Bool} {l : List UInt8} (h : txD l = false) : getD5 attr l = ([], 10) := by unfold getD5 getF; rw [h]; rfl
theorem get_yes {attr : Bool} {l : List UInt8} (h : txD l = true) : getD5 attr l = gL attr [] l := by unfold getD5 getF; rw [h]; rfl
end Char
namespace Char
open Go.Lib
theorem refL_of (a X : List UInt8) (n : Nat) (h : a.all noS = true) (hc : chL a = some n) : refL (a ++ 59 :: X) = some (n, X) := by
 have ht : ∀ a : List UInt8, a.all noS = true → (a ++ 59 :: X).takeWhile noS = a ∧ (a ++ 59 :: X).dropWhile noS = 59 :: X := by
  intro a
  induction a with
  | nil => intro _; exact ⟨by simp [noS], by simp [noS]⟩
  | cons x a ih =>
   intro h
   rw [List.all_cons, Bool.and_eq_true] at h
   obtain ⟨h1, h2⟩ := ih h.2
   simp [h.1, h1, h2]
 have hn : (a ++ 59 :: X).all noS = false := by
  rw [List.all_append, List.all_cons, show noS 59 = false from rfl]
  simp
 unfold refL
 rw [hn, (ht a h).1, (ht a h).2, hc]
 rfl
theorem stp_ref (attr : Bool) (a X : List UInt8) (n : Nat) (h : a.all noS = true) (hc : chL a = some n) : stp attr (38 :: (a ++ 59 :: X)) = .inr (encodeRune (n : Int), X) := by
 rw [stp_cons, if_neg (by decide), if_pos rfl, refL_of a X n h hc]
theorem stp_std (attr : Bool) (b : UInt8) (X : List UInt8) : stp attr (stdL attr b ++ X) = .inr ([b], X) := by
 by_cases h38 : b = 38
 ·subst h38
  exact stp_ref attr [97, 109, 112] X 38 (by decide) (by decide)
 by_cases h60 : b = 60
 ·subst h60
  exact stp_ref attr [108, 116] X 60 (by decide) (by decide)
 by_cases h13 : b = 13
 ·subst h13
  exact stp_ref attr [35, 49, 51] X 13 (by decide) (by decide)
 unfold stdL
 rw [if_neg h38, if_neg h60, if_neg h13]
 by_cases h62 : b = 62 ∧ attr = false
 ·rw [if_pos h62]
  obtain ⟨rfl, rfl⟩ := h62
  exact stp_ref false [103, 116] X 62 (by decide) (by decide)
 by_cases h34 : b = 34 ∧ attr = true
 ·rw [if_neg h62, if_pos h34]
  obtain ⟨rfl, rfl⟩ := h34
  exact stp_ref true [113, 117, 111, 116] X 34 (by decide) (by decide)
 by_cases h9 : b = 9 ∧ attr = true
 ·rw [if_neg h62, if_neg h34, if_pos h9]
  obtain ⟨rfl, rfl⟩ := h9
  exact stp_ref true [35, 57] X 9 (by decide) (by decide)
 by_cases h10 : b = 10 ∧ attr = true
 ·rw [if_neg h62, if_neg h34, if_neg h9, if_pos h10]
  obtain ⟨rfl, rfl⟩ := h10
  exact stp_ref true [35, 49, 48] X 10 (by decide) (by decide)
 rw [if_neg h62, if_neg h34, if_neg h9, if_neg h10]
 show stp attr (b :: X) = _
 rw [stp_cons, if_neg h60, if_neg h38, if_neg h13, if_neg]
 rintro ⟨ha, hb | hb⟩
 ·exact h9 ⟨hb, ha⟩
 ·exact h10 ⟨hb, ha⟩
theorem get_put (attr : Bool) : ∀ (l acc : List UInt8), gL attr acc (putL attr l) = (acc ++ l, 0)
 | [], acc => by rw [putL_nil, gL_end acc rfl, List.append_nil]
 | b :: t, acc => by
  rw [putL_cons, gL_step acc (stp_std attr b (putL attr t)), get_put attr t, List.append_assoc]
  rfl
def txL (l : List UInt8) : Bool := validD l && allR isC l
theorem txL_step (l : List UInt8) (hne : l ≠ []) : txL l = if (decodeL l).1 = 65533 ∧ (decodeL l).2 = 1 then false else isC ((decodeL l).1 : Int) && txL (l.drop (decodeL l).2) := by
 unfold txL
 rw [validD_step l hne, allR_step isC l hne]
 split
 ·rfl
 ·cases isC ((decodeL l).1 : Int) <;> simp
theorem txL_ascii (b : UInt8) (t : List UInt8) (h : b.toNat < 128) : txL (b :: t) = (isC (b.toNat : Int) && txL t) := by
 rw [txL_step _ (by simp), decodeL_ascii b t h, if_neg (by rintro ⟨h1, _⟩; dsimp only at h1; omega)]
 rfl
theorem put_front (attr : Bool) (t : List UInt8) : (t = [] ∧ putL attr t = []) ∨ (∃ c u, t = c :: u ∧ c.toNat / 64 = 2 ∧ putL attr t = c :: putL attr u) ∨
  (∃ c u c' u', t = c :: u ∧ c.toNat / 64 ≠ 2 ∧ putL attr t = c' :: u' ∧ c'.toNat / 64 ≠ 2) := by
 cases t with
 | nil => exact .inl ⟨rfl, rfl⟩
 | cons c u =>
  rw [putL_cons]
  by_cases hc : c.toNat / 64 = 2
  ·refine .inr (.inl ⟨c, u, rfl, hc, ?_⟩)
   have e : stdL attr c = [c] := by
    unfold stdL
    rw [if_neg (by rintro rfl; revert hc; decide), if_neg (by rintro rfl; revert hc; decide), if_neg (by rintro rfl; revert hc; decide), if_neg (by rintro ⟨rfl, _⟩; revert hc; decide),
     if_neg (by rintro ⟨rfl, _⟩; revert hc; decide), if_neg (by rintro ⟨rfl, _⟩; revert hc; decide), if_neg (by rintro ⟨rfl, _⟩; revert hc; decide)]
   rw [e]; rfl
  ·refine .inr (.inr ?_)
   have e : ∃ x r, stdL attr c = x :: r ∧ x.toNat / 64 ≠ 2 := by
    unfold stdL
    repeat' split
    all_goals first | exact ⟨_, _, rfl, hc⟩ | exact ⟨_, _, rfl, by decide⟩
   obtain ⟨x, r, e1, e2⟩ := e
   exact ⟨c, u, x, r ++ putL attr u, rfl, hc, by rw [e1]; rfl, e2⟩
theorem dec_same (n n' b0 b1 b2 b3 c1 c2 c3 : Nat) (h1 : (1 < n ∧ b1 / 64 = 2) ↔ (1 < n' ∧ c1 / 64 = 2)) (e1 : (1 < n ∧ b1 / 64 = 2) → b1 = c1)
  (h2 : (1 < n ∧ b1 / 64 = 2) → ((2 < n ∧ b2 / 64 = 2) ↔ (2 < n' ∧ c2 / 64 = 2))) (e2 : (1 < n ∧ b1 / 64 = 2) → (2 < n ∧ b2 / 64 = 2) → b2 = c2)
  (h3 : (1 < n ∧ b1 / 64 = 2) → (2 < n ∧ b2 / 64 = 2) → ((3 < n ∧ b3 / 64 = 2) ↔ (3 < n' ∧ c3 / 64 = 2))) (e3 : (1 < n ∧ b1 / 64 = 2) → (2 < n ∧ b2 / 64 = 2) → (3 < n ∧ b3 / 64 = 2) → b3 = c3) :
  decodeN n' b0 c1 c2 c3 = decodeN n b0 b1 b2 b3 := by
 by_cases a1 : 1 < n ∧ b1 / 64 = 2
 ·have x1 := h1.1 a1
  obtain rfl := e1 a1
  by_cases a2 : 2 < n ∧ b2 / 64 = 2
  ·have x2 := (h2 a1).1 a2
   obtain rfl := e2 a1 a2
   by_cases a3 : 3 < n ∧ b3 / 64 = 2
   ·have x3 := (h3 a1 a2).1 a3
    obtain rfl := e3 a1 a2 a3
    simp only [decodeN, a1.1, a1.2, x1.1, a2.1, a2.2, x2.1, a3.1, a3.2, x3.1]
   ·have x3 := mt (h3 a1 a2).2 a3
    simp only [decodeN, a1.1, a1.2, x1.1, a2.1, a2.2, x2.1, a3, x3, and_false, if_false]
  ·have x2 := mt (h2 a1).2 a2
   simp only [decodeN, a1.1, a1.2, x1.1, a2, x2, and_false, false_and, if_false]
 ·have x1 := mt h1.2 a1
  simp only [decodeN, a1, x1, and_false, false_and, if_false]
theorem put_decode (attr : Bool) (b : UInt8) (t : List UInt8) : decodeL (b :: putL attr t) = decodeL (b :: t) ∧ (128 ≤ b.toNat → (b :: putL attr t).drop (decodeL (b :: t)).2 = putL attr ((b :: t).drop (decodeL (b :: t)).2)) := by
 have hs := decodeN_shape (b :: t).length ((b :: t).getD 0 0).toNat ((b :: t).getD 1 0).toNat ((b :: t).getD 2 0).toNat ((b :: t).getD 3 0).toNat
 rw [← decodeL_N] at hs
 rw [decodeL_N (b :: putL attr t), decodeL_N (b :: t)]
 rw [decodeL_N (b :: t)] at hs
 rcases put_front attr t with ⟨rfl, e⟩ | ⟨c, u, rfl, hc, e⟩ | ⟨c, u, c', u', rfl, hc, e, hc'⟩
 ·rw [e]
  refine ⟨rfl, fun hb => ?_⟩
  simp only [List.length_cons, List.length_nil, List.getD_cons_zero, List.getD_cons_succ, List.getD_nil] at hs ⊢
  rcases hs with ⟨_, h⟩ | ⟨_, h, _⟩ | ⟨_, h, _⟩ | ⟨_, h, _⟩ | h
  ·rw [h]; rfl
  ·omega
  ·omega
  ·omega
  ·rw [h]; rfl
 ·rcases put_front attr u with ⟨rfl, e2⟩ | ⟨c2, u2, rfl, hc2, e2⟩ | ⟨c2, u2, c2', u2', rfl, hc2, e2, hc2'⟩
  ·rw [e, e2]
   refine ⟨rfl, fun hb => ?_⟩
   simp only [List.length_cons, List.length_nil, List.getD_cons_zero, List.getD_cons_succ, List.getD_nil] at hs ⊢
   rcases hs with ⟨_, h⟩ | ⟨_, _, _, _, h⟩ | ⟨_, h, _⟩ | ⟨_, h, _⟩ | h
   ·rw [h]; exact e.symm
   ·rw [h]; rfl
   ·omega
   ·omega
   ·rw [h]; exact e.symm
  ·rcases put_front attr u2 with ⟨rfl, e3⟩ | ⟨c3, u3, rfl, hc3, e3⟩ | ⟨c3, u3, c3', u3', rfl, hc3, e3, hc3'⟩
   ·rw [e, e2, e3]
    refine ⟨rfl, fun hb => ?_⟩
    simp only [List.length_cons, List.length_nil, List.getD_cons_zero, List.getD_cons_succ, List.getD_nil] at hs ⊢
    rcases hs with ⟨_, h⟩ | ⟨_, _, _, _, h⟩ | ⟨_, _, _, _, _, _, h⟩ | ⟨_, h, _⟩ | h
    ·rw [h]; exact (e.trans (congrArg (List.cons c) (e2.trans (congrArg (List.cons c2) e3)))).symm
    ·rw [h]; exact (e2.trans (congrArg (List.cons c2) e3)).symm
    ·rw [h]; rfl
    ·omega
    ·rw [h]; exact (e.trans (congrArg (List.cons c) (e2.trans (congrArg (List.cons c2) e3)))).symm
   ·rw [e, e2, e3]
    refine ⟨?_, fun hb => ?_⟩
    ·apply dec_same
     all_goals simp
    ·rcases hs with ⟨_, h⟩ | ⟨_, _, _, _, h⟩ | ⟨_, _, _, _, _, _, h⟩ | ⟨_, _, _, _, _, _, _, h⟩ | h
     ·rw [h]; exact (e.trans (congrArg (List.cons c) (e2.trans (congrArg (List.cons c2) e3)))).symm
     ·rw [h]; exact (e2.trans (congrArg (List.cons c2) e3)).symm
     ·rw [h]; exact e3.symm
     ·rw [h]; rfl
     ·rw [h]; exact (e.trans (congrArg (List.cons c) (e2.trans (congrArg (List.cons c2) e3)))).symm
   ·rw [e, e2, e3]
    refine ⟨?_, fun hb => ?_⟩
    ·apply dec_same
     all_goals simp [hc3, hc3']
    ·rcases hs with ⟨_, h⟩ | ⟨_, _, _, _, h⟩ | ⟨_, _, _, _, _, _, h⟩ | ⟨_, _, _, _, h3, _⟩ | h
     ·rw [h]; exact (e.trans (congrArg (List.cons c) (e2.trans (congrArg (List.cons c2) e3)))).symm
     ·rw [h]; exact (e2.trans (congrArg (List.cons c2) e3)).symm
     ·rw [h]; exact e3.symm
     ·exact absurd h3 hc3
     ·rw [h]; exact (e.trans (congrArg (List.cons c) (e2.trans (congrArg (List.cons c2) e3)))).symm
  ·rw [e, e2]
   refine ⟨?_, fun hb => ?_⟩
   ·apply dec_same
    all_goals simp [hc2, hc2']
   ·rcases hs with ⟨_, h⟩ | ⟨_, _, _, _, h⟩ | ⟨_, _, _, h3, _⟩ | ⟨_, _, _, h3, _⟩ | h
    ·rw [h]; exact (e.trans (congrArg (List.cons c) e2)).symm
    ·rw [h]; exact e2.symm
    ·exact absurd h3 hc2
    ·exact absurd h3 hc2
    ·rw [h]; exact (e.trans (congrArg (List.cons c) e2)).symm
 ·rw [e]
  refine ⟨?_, fun hb => ?_⟩
  ·apply dec_same
   all_goals simp [hc, hc']
  ·rcases hs with ⟨_, h⟩ | ⟨_, _, h3, _⟩ | ⟨_, _, h3, _⟩ | ⟨_, _, h3, _⟩ | h
   ·rw [h]; exact e.symm
   ·exact absurd h3 hc
   ·exact absurd h3 hc
   ·exact absurd h3 hc
   ·rw [h]; exact e.symm
theorem txL_list (l X : List UInt8) (h : l.all (fun b => decide (b.toNat < 128) && isC (b.toNat : Int)) = true) : txL (l ++ X) = txL X := by
 induction l with
 | nil => rfl
 | cons b t ih =>
  rw [List.all_cons, Bool.and_eq_true, Bool.and_eq_true, decide_eq_true_eq] at h
  rw [List.cons_append, txL_ascii b _ h.1.1, h.1.2, ih h.2]
  rfl
theorem txL_std (attr : Bool) (b : UInt8) (X : List UInt8) (hb : b.toNat < 128) : txL (stdL attr b ++ X) = (isC (b.toNat : Int) && txL X) := by
 unfold stdL
 repeat' split
 all_goals first
  | (rename_i h; subst h; rw [txL_list _ X (by decide)]; rw [show isC _ = true from by decide]; rfl)
  | (rename_i h; obtain ⟨rfl, _⟩ := h; rw [txL_list _ X (by decide)]; rw [show isC _ = true from by decide]; rfl)
  | exact txL_ascii b X hb
theorem stdL_high (attr : Bool) (b : UInt8) (hb : 128 ≤ b.toNat) : stdL attr b = [b] := by
 unfold stdL
 rw [if_neg (by rintro rfl; revert hb; decide), if_neg (by rintro rfl; revert hb; decide), if_neg (by rintro rfl; revert hb; decide), if_neg (by rintro ⟨rfl, _⟩; revert hb; decide),
  if_neg (by rintro ⟨rfl, _⟩; revert hb; decide), if_neg (by rintro ⟨rfl, _⟩; revert hb; decide), if_neg (by rintro ⟨rfl, _⟩; revert hb; decide)]
theorem txL_put (attr : Bool) : ∀ (n : Nat) (l : List UInt8), l.length ≤ n → txL (putL attr l) = txL l
 | _, [], _ => rfl
 | 0, b :: t, h => by simp at h
 | n + 1, b :: t, h => by
  rw [List.length_cons] at h
  rw [putL_cons]
  by_cases hb : b.toNat < 128
  ·rw [txL_std attr b _ hb, txL_ascii b t hb, txL_put attr n t (by omega)]
  ·obtain ⟨h1, h2⟩ := put_decode attr b t
   have hw := decodeL_width (b :: t)
   rw [stdL_high attr b (by omega)]
   show txL (b :: putL attr t) = _
   rw [txL_step (b :: putL attr t) (by simp), h1, txL_step (b :: t) (by simp), h2 (by omega), txL_put attr n _ (by rw [List.length_drop, List.length_cons]; omega)]
end Char
namespace Char
open Go.Lib
theorem tx_eq (l : List UInt8) : txD l = txL l := rfl
theorem tx_nil : txD [] = true := rfl
def asc0 : List UInt8 → Bool
 | [] => true
 | b :: _ => decide (b.toNat < 128)
theorem getD_app {a b : List UInt8} {j : Nat} (h : j < a.length) : (a ++ b).getD j 0 = a.getD j 0 := by simp [List.getD, List.getElem?_append_left h]
theorem getD_seam {a b : List UInt8} (hb : asc0 b = true) : ¬ (a.length < (a ++ b).length ∧ ((a ++ b).getD a.length 0).toNat / 64 = 2) := by
 cases b with
 | nil => simp
 | cons c r =>
  have : ((a ++ c :: r).getD a.length 0) = c := by simp [List.getD]
  rw [this]
  have h : c.toNat < 128 := by simpa [asc0] using hb
  omega
theorem decode_front (a b : List UInt8) (hne : a ≠ []) (hb : asc0 b = true) : decodeL (a ++ b) = decodeL a := by
 have hl : 0 < a.length := List.length_pos_iff.2 hne
 have hs := getD_seam (a := a) hb
 rw [decodeL_N, decodeL_N, getD_app hl]
 have hlen : (a ++ b).length = a.length + b.length := by simp
 have key : ∀ j, j ≤ a.length → ((j < a.length ∧ (a.getD j 0).toNat / 64 = 2) ↔ (j < (a ++ b).length ∧ ((a ++ b).getD j 0).toNat / 64 = 2)) := by
  intro j hj
  rcases Nat.lt_or_ge j a.length with h | h
  ·rw [getD_app h]
   constructor
   ·rintro ⟨_, h2⟩; exact ⟨by omega, h2⟩
   ·rintro ⟨_, h2⟩; exact ⟨h, h2⟩
  ·have e : j = a.length := by omega
   subst e
   constructor
   ·rintro ⟨h1, _⟩; omega
   ·intro h1; exact absurd h1 hs
 have eqv : ∀ j, (j < a.length ∧ (a.getD j 0).toNat / 64 = 2) → (a.getD j 0).toNat = ((a ++ b).getD j 0).toNat := fun j h => by rw [getD_app h.1]
 exact dec_same _ _ _ _ _ _ _ _ _ (key 1 (by omega)) (eqv 1) (fun h1 => key 2 (by omega)) (fun _ => eqv 2) (fun _ h2 => key 3 (by omega)) (fun _ _ => eqv 3)
theorem tx_split : ∀ (n : Nat) (a b : List UInt8), a.length ≤ n → asc0 b = true → txD (a ++ b) = (txD a && txD b)
 | 0, a, b, h, _ => by
  obtain rfl : a = [] := List.eq_nil_of_length_eq_zero (by omega)
  rfl
 | n + 1, a, b, h, hb => by
  by_cases hne : a = []
  ·subst hne; rfl
  ·have hw := decodeL_width a
   have hle := decodeL_le a hne
   rw [tx_eq, tx_eq a, txL_step (a ++ b) (by simp [hne]), txL_step a hne, decode_front a b hne hb]
   split
   ·rfl
   ·rw [List.drop_append_of_le_length hle, ← tx_eq, tx_split n _ b (by rw [List.length_drop]; omega) hb, Bool.and_assoc]
    rfl
theorem tx_more (a b : List UInt8) (h : txD a = true) : txD (a ++ b) = txD b := by
 unfold txD at h ⊢
 rw [Bool.and_eq_true] at h
 rw [validD_more _ a b (Nat.le_refl _) h.1, allR_more isC _ a b (Nat.le_refl _) h.1, h.2]
 rfl
theorem tx_ascii (b : UInt8) (t : List UInt8) (h : b.toNat < 128) : txD (b :: t) = (isC (b.toNat : Int) && txD t) := txL_ascii b t h
theorem tx_behind : ∀ (m r : List UInt8), m.all (fun b => decide (b.toNat < 128)) = true → txD (m ++ r) = true → txD r = true
 | [], _, _, h => h
 | b :: m, r, ha, h => by
  rw [List.all_cons, Bool.and_eq_true, decide_eq_true_eq] at ha
  rw [List.cons_append, tx_ascii b _ ha.1, Bool.and_eq_true] at h
  exact tx_behind m r ha.2 h.2
theorem pre_split {m l : List UInt8} (h : m.isPrefixOf l = true) : m ++ l.drop m.length = l := by
 obtain ⟨t, rfl⟩ := List.isPrefixOf_iff_prefix.1 h
 simp
theorem tx_take {m l : List UInt8} (ha : m.all (fun b => decide (b.toNat < 128)) = true) (h : m.isPrefixOf l = true) (ht : txD l = true) : txD (l.drop m.length) = true := by
 rw [← pre_split h] at ht
 exact tx_behind m _ ha ht
theorem tx_cut {m l : List UInt8} {i : Nat} (hm : m ≠ []) (ha : m.all (fun b => decide (b.toNat < 128)) = true) (hi : index l m = (i : Int)) (ht : txD l = true) : txD (l.take i) = true ∧ txD (l.drop (i + m.length)) = true ∧ m.isPrefixOf (l.drop i) = true := by
 have hsp := index_spec l m
 have hp : m.isPrefixOf (l.drop i) = true := by
  rcases hsp with ⟨h1, _⟩ | ⟨j, h1, _, h3, _⟩
  ·omega
  ·have : j = i := by omega
   subst this
   exact h3
 have e := List.take_append_drop i l
 have hd : asc0 (l.drop i) = true := by
  obtain ⟨t, ht2⟩ := List.isPrefixOf_iff_prefix.1 hp
  rw [← ht2]
  cases m with
  | nil => exact absurd rfl hm
  | cons b m =>
   rw [List.all_cons, Bool.and_eq_true] at ha
   exact ha.1
 have h2 : txD (l.take i ++ l.drop i) = true := by rw [e]; exact ht
 rw [tx_split _ _ _ (Nat.le_refl _) hd, Bool.and_eq_true] at h2
 refine ⟨h2.1, ?_, hp⟩
 have := tx_take ha hp h2.2
 rwa [List.drop_drop] at this
def tlN (p : Nat → Bool) : Nat → List UInt8 → Nat
 | 0, _ => 0
 | n + 1, l => if l = [] then 0 else if p (decodeL l).1 then (decodeL l).2 + tlN p n (l.drop (decodeL l).2) else 0
theorem tlN_le (p : Nat → Bool) : ∀ (n : Nat) (l : List UInt8), tlN p n l ≤ l.length
 | 0, _ => Nat.zero_le _
 | n + 1, l => by
  unfold tlN
  split
  ·exact Nat.zero_le _
  ·rename_i hne
   split
   ·have h1 := tlN_le p n (l.drop (decodeL l).2)
    have h2 := decodeL_le l hne
    rw [List.length_drop] at h1
    omega
   ·exact Nat.zero_le _
theorem tl_from (p : Nat → Bool) (s : ByteArray) : ∀ (f pos : Nat), s.size ≤ pos + f → pos ≤ s.size → (if idxFuncFrom p false s f pos = -1 then s.size else (idxFuncFrom p false s f pos).toNat) = pos + tlN p f (s.data.toList.drop pos)
 | 0, pos, h, hp => by
  have : pos = s.size := by omega
  subst this
  rfl
 | f + 1, pos, h, hp => by
  by_cases hlt : pos < s.size
  ·have hw := decodeL_width (s.data.toList.drop pos)
   have hne := drop_ne s pos hlt
   have hle := decodeL_le _ hne
   rw [List.length_drop, size_list] at hle
   unfold idxFuncFrom tlN
   rw [if_pos hlt, if_neg hne, decode_drop]
   cases hpp : p (decodeL (s.data.toList.drop pos)).1 with
   | false => simp
   | true =>
    have ih := tl_from p s f (pos + (decodeL (s.data.toList.drop pos)).2) (by omega) (by omega)
    simp only [Bool.true_eq_false, if_false, if_true]
    rw [ih, List.drop_drop]
    omega
  ·have : pos = s.size := by omega
   subst this
   rw [idxFuncFrom_end p false s _ _ hlt, if_pos rfl]
   unfold tlN
   rw [if_pos (drop_end s s.size hlt)]
   omega
def tlL (p : Nat → Bool) (l : List UInt8) : Nat := tlN p l.length l
theorem trimLeft_eq (p : Nat → Bool) (s : ByteArray) : (trimLeftF p s).data.toList = s.data.toList.drop (tlL p s.data.toList) := by
 have h := tl_from p s s.size 0 (by omega) (Nat.zero_le _)
 rw [Nat.zero_add, List.drop_zero] at h
 have e : tlL p s.data.toList = tlN p s.size s.data.toList := by unfold tlL; rw [size_list]
 rw [e, ← h]
 unfold trimLeftF
 change _ = List.drop (if idxFunc p false s = -1 then _ else _) _
 split
 ·rw [List.drop_eq_nil_of_le (by rw [size_list]; exact Nat.le_refl _)]
 ·rw [extract_data]
  exact List.take_of_length_le (by rw [List.length_drop, size_list]; exact Nat.le_refl _)
theorem tlN_fuel (p : Nat → Bool) : ∀ (n m : Nat) (l : List UInt8), l.length ≤ n → l.length ≤ m → tlN p n l = tlN p m l
 | 0, 0, _, _, _ => rfl
 | 0, m + 1, l, hn, _ => by
  obtain rfl : l = [] := List.eq_nil_of_length_eq_zero (by omega)
  rfl
 | n + 1, 0, l, _, hm => by
  obtain rfl : l = [] := List.eq_nil_of_length_eq_zero (by omega)
  rfl
 | n + 1, m + 1, l, hn, hm => by
  unfold tlN
  split
  ·rfl
  ·have := decodeL_width l
   rw [tlN_fuel p n m _ (by rw [List.length_drop]; omega) (by rw [List.length_drop]; omega)]
theorem tl_step (p : Nat → Bool) (l : List UInt8) (hne : l ≠ []) : tlL p l = if p (decodeL l).1 then (decodeL l).2 + tlL p (l.drop (decodeL l).2) else 0 := by
 have hl : 0 < l.length := List.length_pos_iff.2 hne
 have hw := decodeL_width l
 obtain ⟨n, hn⟩ : ∃ n, l.length = n + 1 := ⟨l.length - 1, by omega⟩
 unfold tlL
 rw [hn]
 conv => lhs; unfold tlN
 rw [if_neg hne, tlN_fuel p n (l.drop (decodeL l).2).length _ (by rw [List.length_drop]; omega) (Nat.le_refl _)]
theorem tl_le (p : Nat → Bool) (l : List UInt8) : tlL p l ≤ l.length := tlN_le p _ l
theorem tx_step {l : List UInt8} (hne : l ≠ []) (h : txD l = true) : ¬ ((decodeL l).1 = 65533 ∧ (decodeL l).2 = 1) ∧ isC ((decodeL l).1 : Int) = true ∧ txD (l.drop (decodeL l).2) = true := by
 rw [tx_eq, txL_step l hne] at h
 split at h
 ·cases h
 ·rename_i hb
  rw [Bool.and_eq_true] at h
  exact ⟨hb, h.1, h.2⟩
theorem tx_tl (p : Nat → Bool) : ∀ (n : Nat) (l : List UInt8), l.length ≤ n → txD l = true → txD (l.drop (tlL p l)) = true
 | n, l, hn, h => by
  by_cases hne : l = []
  ·subst hne; rfl
  ·have hw := decodeL_width l
   have hl : 0 < l.length := List.length_pos_iff.2 hne
   rw [tl_step p l hne]
   split
   ·rw [← List.drop_drop]
    match n, hn with
    | 0, hn => omega
    | n + 1, hn => exact tx_tl p n _ (by rw [List.length_drop]; omega) (tx_step hne h).2.2
   ·exact h
theorem run_tl : ∀ (n : Nat) (l : List UInt8), l.length ≤ n → txD l = true → runL l = tlL (fun r => paC (r : Int)) l
 | n, l, hn, h => by
  by_cases hne : l = []
  ·subst hne; rfl
  ·have hw := decodeL_width l
   have hl : 0 < l.length := List.length_pos_iff.2 hne
   obtain ⟨h1, h2, h3⟩ := tx_step hne h
   have ho : oneL l = decodeL l := by
    unfold oneL
    rw [if_neg hne, if_neg h1]
   rw [tl_step _ l hne]
   split
   ·rename_i hp
    rw [run_go (by rw [ho]; omega) (by rw [ho]; exact hp), ho]
    match n, hn with
    | 0, hn => omega
    | n + 1, hn => rw [run_tl n _ (by rw [List.length_drop]; omega) h3]
   ·rename_i hp
    exact run_stop (.inr (by rw [ho]; simpa using hp))
theorem spc_tl : ∀ l : List UInt8, spcL l = tlL (fun r => spC (r : Int)) l
 | [] => rfl
 | b :: t => by
  rw [tl_step _ (b :: t) (by simp), spc_cons]
  by_cases hb : b.toNat < 128
  ·rw [decodeL_ascii b t hb]
   show _ = if spC (b.toNat : Int) = true then 1 + tlL _ t else 0
   rw [spc_tl t]
   split
   ·omega
   ·rfl
  ·have h1 := decodeL_high b t hb
   rw [spC_high (b.toNat : Int) (by omega)]
   show _ = if spC ((decodeL (b :: t)).1 : Int) = true then _ else 0
   rw [spC_high _ (by omega)]
   rfl
def noL (b : UInt8) : Bool := b != 60
def ltL (l : List UInt8) : Nat := (l.takeWhile noL).length
theorem lt_le (l : List UInt8) : ltL l ≤ l.length := (List.takeWhile_prefix _).length_le
theorem lt_high : ∀ (k : Nat) (l : List UInt8), k ≤ l.length → (∀ j, j < k → 128 ≤ (l.getD j 0).toNat) → ltL l = k + ltL (l.drop k)
 | 0, l, _, _ => by simp
 | k + 1, [], h, _ => by simp at h
 | k + 1, b :: t, h, hh => by
  have h0 := hh 0 (by omega)
  rw [List.getD_cons_zero] at h0
  have hn : noL b = true := by
   unfold noL
   rw [bne_iff_ne]
   rintro rfl
   revert h0
   decide
  have ih := lt_high k t (by simpa using h) (fun j hj => by have := hh (j + 1) (by omega); rwa [List.getD_cons_succ] at this)
  unfold ltL at ih ⊢
  rw [List.takeWhile_cons, if_pos hn, List.length_cons, List.drop_succ_cons]
  omega
theorem dec_high (b : UInt8) (t : List UInt8) (hb : ¬ b.toNat < 128) : (decodeL (b :: t)).2 ≤ (b :: t).length ∧ ∀ j, j < (decodeL (b :: t)).2 → 128 ≤ ((b :: t).getD j 0).toNat := by
 refine ⟨decodeL_le _ (by simp), ?_⟩
 have hs := decodeN_shape (b :: t).length ((b :: t).getD 0 0).toNat ((b :: t).getD 1 0).toNat ((b :: t).getD 2 0).toNat ((b :: t).getD 3 0).toNat
 rw [← decodeL_N] at hs
 have h0 : ((b :: t).getD 0 0).toNat = b.toNat := rfl
 intro j hj
 rcases hs with ⟨h, _⟩ | ⟨_, _, h1, _, h⟩ | ⟨_, _, h1, h2, _, _, h⟩ | ⟨_, _, h1, h2, h3, _, _, h⟩ | h
 ·omega
 ·rw [h] at hj
  match j, hj with
  | 0, _ => omega
  | 1, _ => omega
  | j + 2, hj => dsimp only at hj; omega
 ·rw [h] at hj
  match j, hj with
  | 0, _ => omega
  | 1, _ => omega
  | 2, _ => omega
  | j + 3, hj => dsimp only at hj; omega
 ·rw [h] at hj
  match j, hj with
  | 0, _ => omega
  | 1, _ => omega
  | 2, _ => omega
  | 3, _ => omega
  | j + 4, hj => dsimp only at hj; omega
 ·rw [h] at hj
  match j, hj with
  | 0, _ => omega
  | j + 1, hj => dsimp only at hj; omega
theorem lt_tl : ∀ (n : Nat) (l : List UInt8), l.length ≤ n → ltL l = tlL (fun r => (r : Int) != 60) l
 | _, [], _ => rfl
 | 0, b :: t, h => by simp at h
 | n + 1, b :: t, h => by
  rw [List.length_cons] at h
  rw [tl_step _ (b :: t) (by simp)]
  by_cases hb : b.toNat < 128
  ·rw [decodeL_ascii b t hb]
   show _ = if ((b.toNat : Int) != 60) = true then 1 + tlL _ t else 0
   rw [← lt_tl n t (by omega)]
   unfold ltL
   rw [List.takeWhile_cons]
   by_cases h60 : b = 60
   ·subst h60; rfl
   ·have q : ((b.toNat : Int) != 60) = true := by
     rw [bne_iff_ne]; intro hh; exact h60 (UInt8.toNat_inj.1 (by rw [show (60 : UInt8).toNat = 60 from rfl]; omega))
    rw [if_pos (show noL b = true by unfold noL; simpa using h60), if_pos q, List.length_cons]
    omega
  ·have h1 := decodeL_high b t hb
   obtain ⟨h2, h3⟩ := dec_high b t hb
   have hw := decodeL_width (b :: t)
   have q : (((decodeL (b :: t)).1 : Int) != 60) = true := by rw [bne_iff_ne]; omega
   rw [if_pos q, ← lt_tl n _ (by rw [List.length_drop, List.length_cons]; omega)]
   exact lt_high _ _ h2 h3
theorem lt_index : ∀ l : List UInt8, index l [60] = if ltL l = l.length then -1 else (ltL l : Int)
 | [] => rfl
 | b :: t => by
  have ih := lt_index t
  have hle := lt_le t
  unfold index
  by_cases hb : b = 60
  ·subst hb
   simp [ltL, noL, List.isPrefixOf]
  ·have h2 : ([60] : List UInt8).isPrefixOf (b :: t) = false := by
    simp [List.isPrefixOf]
    exact fun h => hb h.symm
   have e : ltL (b :: t) = ltL t + 1 := by
    unfold ltL
    rw [List.takeWhile_cons, if_pos (show noL b = true by unfold noL; simpa using hb), List.length_cons]
   rw [h2, ih, e, List.length_cons]
   simp only [Bool.false_eq_true, if_false]
   by_cases hq : ltL t = t.length
   ·rw [if_pos hq, if_pos (show ltL t + 1 = t.length + 1 by omega)]; rfl
   ·rw [if_neg hq, if_neg (show ¬ ltL t + 1 = t.length + 1 by omega), if_neg (show ¬ (((ltL t : Int) == -1) = true) by rw [beq_iff_eq]; omega)]
    omega
end Char
end Go.Proofs.YtlmodgnkmlbjhaaGreatDoor
