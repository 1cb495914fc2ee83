import Derived.Test.YtlmodgnkmlbjhaaGreatDoorPkMat
import Derived.Test.YtlmodgnkmlbjhaaGreatDoorPkBs
import Derived.Lib.Replace
namespace Go.Proofs.YtlmodgnkmlbjhaaGreatDoor
namespace Char
open Go.RowKit Go.Lib
theorem ln_yes {t : List UInt8} (h : t.head? = some 10) : lnL t = t.drop 1 := by
 cases t with
 | nil => cases h
 | cons c r =>
  simp at h
  subst h
  rfl
theorem ln_no {t : List UInt8} (h : t.head? ≠ some 10) : lnL t = t := by
 cases t with
 | nil => rfl
 | cons c r =>
  unfold lnL
  rw [if_neg]
  intro h2
  simp [List.isPrefixOf] at h2
  exact h (by simp [h2])
def LnK (l : List UInt8) (k : Nat) (acc : List UInt8) : Prop := k ≤ l.length ∧ acc.length ≤ k ∧ acc ++ linesL (l.drop k) = linesL l
theorem LnK.step {l : List UInt8} {k k2 : Nat} {acc : List UInt8} {c : UInt8} (h : LnK l k acc) (hst : linesL (l.drop k) = c :: linesL (l.drop k2)) (hk : k < k2) (hk2 : k2 ≤ l.length) : LnK l k2 (acc ++ [c]) := by
 obtain ⟨h1, h2, h3⟩ := h
 refine ⟨hk2, by simp; omega, ?_⟩
 rw [← h3, hst, List.append_assoc]
 rfl
set_option maxRecDepth 100000 in
set_option maxHeartbeats 8000000 in
theorem refLines_any (l : List UInt8) (w : World) (hl : l.length ≤ 60000) :
  Calls Tryz.prog 65 #[.string (bs l)] w fun e w' => e = .returned (.string (bs (linesL l))) ∧ w = w' := by
 have hsz := bs_size l
 have HK0 : Hid (LnK l 0 []) := Lib.hid ⟨Nat.zero_le _, Nat.le_refl _, rfl⟩
 go_enter Tryz.func65, Tryz.ntmps65
 go_wp2_with fail
 go_loop [3, 4] (fun o i => ∃ (k : Nat) (acc : List UInt8), o = .string (bs acc) ∧ i = .int .i64 (k : Int) ∧ LnK l k acc) (fun _ i => l.length - (RowKit.intOf i).toNat)
 case atStart => exact ⟨0, [], rfl, rfl, HK0.out⟩
 case round =>
  obtain ⟨k, acc, rfl, rfl, hk⟩ := hrel
  have HK := Lib.hid hk
  obtain ⟨hkl, hal, _⟩ := hk
  clear HK0
  by_cases hlt : k < l.length
  ·have hsl := slice_one l k hlt
   have hdr := drop_cons l k hlt
   have hlt' : k < (bs l).size := by rw [hsz]; exact hlt
   have hgt := bs_get l k hlt'
   generalize l.getD k 0 = b at *
   by_cases h13 : b = 13
   ·subst h13
    have hg : ((bs l)[k]'hlt').toNat = 13 := by rw [hgt]; rfl
    have hadd : ∀ wx, (Op.stringOp .add (bs acc) ⟨#[10]⟩).run Tryz.prog wx = .ok (.string (bs (acc ++ [10]))) wx := add_bs acc [10] (by omega) (by simp)
    by_cases hnl : (l.drop (k + 1)).head? = some 10
    ·have hk1 : k + 1 < l.length := by
      rcases Nat.lt_or_ge (k + 1) l.length with h | h
      ·exact h
      ·rw [List.drop_eq_nil_of_le h] at hnl; cases hnl
     have hlt1 : k + 1 < (bs l).size := by rw [hsz]; exact hk1
     have hg1 : ((bs l)[k + 1]'hlt1).toNat = 10 := by
      rw [bs_get l (k + 1) hlt1]
      rw [drop_cons l (k + 1) hk1] at hnl
      simp only [List.head?_cons, Option.some.injEq] at hnl
      rw [hnl]; rfl
     have HK2 := Lib.hid (HK.out.step (c := 10) (k2 := k + 1 + 1) (by rw [hdr, lines_cr, ln_yes hnl, List.drop_drop]) (by omega) (by omega))
     clear hdr hnl hgt
     go_wp2_with fail
     go_round
     case rel => exact ⟨k + 1 + 1, _, rfl, by go_num, HK2.out⟩
     case measure => simp [RowKit.intOf]; omega
    ·have HNL := Lib.hid hnl
     have HK2 := Lib.hid (HK.out.step (c := 10) (k2 := k + 1) (by rw [hdr, lines_cr, ln_no hnl]) (by omega) (by omega))
     clear hdr hnl hgt
     by_cases hk1 : k + 1 < l.length
     ·have hlt1 : k + 1 < (bs l).size := by rw [hsz]; exact hk1
      obtain ⟨n1, hg1, hn1⟩ : ∃ n1 : Nat, ((bs l)[k + 1]'hlt1).toNat = n1 ∧ ((n1 : Int) == 10) = false := by
       refine ⟨_, by rw [bs_get l (k + 1) hlt1], ?_⟩
       rw [beq_eq_false_iff_ne]
       intro hh
       apply HNL.out
       have h3 : l.getD (k + 1) 0 = 10 := UInt8.toNat_inj.1 (by rw [show (10 : UInt8).toNat = 10 from rfl]; omega)
       rw [drop_cons l (k + 1) hk1, h3]; rfl
      go_wp2_with fail
      go_round
      case rel => exact ⟨k + 1, _, rfl, by go_num, HK2.out⟩
      case measure => simp [RowKit.intOf]; omega
     ·go_wp2_with fail
      go_round
      case rel => exact ⟨k + 1, _, rfl, by go_num, HK2.out⟩
      case measure => simp [RowKit.intOf]; omega
   ·have hadd := add_bs acc [b] (by omega) (by simp)
    obtain ⟨n1, hg1, hn1⟩ : ∃ n1 : Nat, ((bs l)[k]'hlt').toNat = n1 ∧ ((n1 : Int) != 13) = true := by
     refine ⟨_, by rw [hgt], ?_⟩
     rw [bne_iff_ne]
     intro hh
     exact h13 (UInt8.toNat_inj.1 (by rw [show (13 : UInt8).toNat = 13 from rfl]; omega))
    have HK2 := Lib.hid (HK.out.step (c := b) (k2 := k + 1) (by rw [hdr, lines_o _ h13]) (by omega) (by omega))
    clear hdr hgt h13
    go_wp2_with fail
    go_round
    case rel => exact ⟨k + 1, _, rfl, by go_num, HK2.out⟩
    case measure => simp [RowKit.intOf]; omega
  ·have hend : Hid (acc = linesL l) := Lib.hid (by
    have h := HK.out.2.2
    rw [List.drop_eq_nil_of_le (by omega), lines_nil, List.append_nil] at h
    exact h)
   go_wp2_with fail
   go_ret
   exact ⟨ret_str hend.out, rfl⟩
end Char
namespace Char
open Go.Lib
theorem rep_hit {old new s : List UInt8} (h0 : old ≠ []) (hne : (old == new) = false) (h : old.isPrefixOf s = true) : replaceAll s old new = new ++ replaceAll (s.drop old.length) old new := by
 have hi : index s old = ((0 : Nat) : Int) := by
  cases s with
  | nil =>
   cases old with
   | nil => exact absurd rfl h0
   | cons => simp at h
  | cons b t => rw [index, if_pos h]; rfl
 have hc := count_hit h0 hi
 unfold replaceAll replace replaceNum
 simp only [hne, if_pos (Or.inl (by decide : (-1 : Int) < 0)), Bool.false_eq_true, if_false]
 rw [hc, Nat.add_comm 1, replaceK_hit _ _ _ _ _ hi]
 simp
theorem rep_skip {old new t : List UInt8} {b : UInt8} (h0 : old ≠ []) (hne : (old == new) = false) (h : old.isPrefixOf (b :: t) = false) : replaceAll (b :: t) old new = b :: replaceAll t old new := by
 have hi : index (b :: t) old = if index t old == -1 then -1 else index t old + 1 := by rw [index, h]; simp
 unfold replaceAll replace replaceNum
 simp only [hne, if_pos (Or.inl (by decide : (-1 : Int) < 0)), Bool.false_eq_true, if_false]
 by_cases hm : index t old = -1
 ·rw [if_pos (beq_iff_eq.2 hm)] at hi
  rw [count_miss hi, count_miss hm]
  rfl
 ·have hge := index_ge t old
  obtain ⟨i, hi2⟩ : ∃ i : Nat, index t old = (i : Int) := ⟨(index t old).toNat, by omega⟩
  rw [if_neg (by simpa using hm), hi2] at hi
  have hi3 : index (b :: t) old = ((i + 1 : Nat) : Int) := by rw [hi]; rfl
  have e : (b :: t).drop (i + 1 + old.length) = t.drop (i + old.length) := by
   rw [show i + 1 + old.length = (i + old.length) + 1 by omega, List.drop_succ_cons]
  rw [count_hit h0 hi3, count_hit h0 hi2, e, Nat.add_comm 1, replaceK_hit _ _ _ _ _ hi3, replaceK_hit _ _ _ _ _ hi2, e]
  simp
theorem rep_nil {old new : List UInt8} (h0 : old ≠ []) (hne : (old == new) = false) : replaceAll [] old new = [] := by
 have hi : index [] old = -1 := by
  cases old with
  | nil => exact absurd rfl h0
  | cons => rfl
 unfold replaceAll replace replaceNum
 simp only [hne, if_pos (Or.inl (by decide : (-1 : Int) < 0)), Bool.false_eq_true, if_false]
 rw [count_miss hi]
 rfl
theorem rep_lines : ∀ (n : Nat) (s : List UInt8), s.length ≤ n → replaceAll (replaceAll s [13, 10] [10]) [13] [10] = linesL s ∧ (replaceAll s [13, 10] [10]).length ≤ s.length
 | _, [], _ => by
  rw [rep_nil (by simp) (by decide), rep_nil (by simp) (by decide)]
  exact ⟨rfl, Nat.le_refl _⟩
 | 0, b :: t, h => by simp at h
 | n + 1, b :: t, h => by
  rw [List.length_cons] at h
  by_cases hb : b = 13
  ·subst hb
   rw [lines_cr]
   cases t with
   | nil =>
    rw [rep_skip (by simp) (by decide) (by decide), rep_nil (by simp) (by decide), rep_hit (by simp) (by decide) (by decide)]
    exact ⟨rfl, Nat.le_refl _⟩
   | cons c t =>
    rw [List.length_cons] at h
    by_cases hc : c = 10
    ·subst hc
     obtain ⟨h1, h2⟩ := rep_lines n t (by omega)
     have he : replaceAll (13 :: 10 :: t) [13, 10] [10] = 10 :: replaceAll t [13, 10] [10] := rep_hit (old := [13, 10]) (new := [10]) (s := 13 :: 10 :: t) (by simp) (by decide) (by simp [List.isPrefixOf])
     rw [he]
     refine ⟨?_, by simp; omega⟩
     rw [rep_skip (by simp) (by decide) (by simp [List.isPrefixOf]), h1]
     rfl
    ·obtain ⟨h1, h2⟩ := rep_lines n (c :: t) (by simp; omega)
     have hp : ([13, 10] : List UInt8).isPrefixOf (13 :: c :: t) = false := by
      simp [List.isPrefixOf]
      exact fun hh => hc hh.symm
     rw [rep_skip (by simp) (by decide) hp]
     refine ⟨?_, by simp at h2 ⊢; omega⟩
     rw [rep_hit (by simp) (by decide) (by simp [List.isPrefixOf])]
     have e : lnL (c :: t) = c :: t := by
      unfold lnL
      rw [if_neg]
      simp [List.isPrefixOf]
      exact fun hh => hc hh.symm
     rw [e, ← h1]
     rfl
  ·obtain ⟨h1, h2⟩ := rep_lines n t (by omega)
   have hp : ([13, 10] : List UInt8).isPrefixOf (b :: t) = false := by
    simp [List.isPrefixOf]
    exact fun hh => absurd hh.symm hb
   have hp2 : ([13] : List UInt8).isPrefixOf (b :: replaceAll t [13, 10] [10]) = false := by
    simp [List.isPrefixOf]
    exact fun hh => hb hh.symm
   rw [rep_skip (by simp) (by decide) hp, rep_skip (by simp) (by decide) hp2, lines_o _ hb, h1]
   exact ⟨rfl, by simp; omega⟩
theorem lines_app : ∀ (a r : List UInt8), (∀ x, x ∈ a → x ≠ 13) → linesL (a ++ r) = a ++ linesL r
 | [], _, _ => rfl
 | b :: a, r, h => by
  rw [List.cons_append, lines_o _ (h b (by simp)), lines_app a r (fun x hx => h x (by simp [hx]))]
  rfl
theorem lines_free : ∀ (n : Nat) (l : List UInt8), l.length ≤ n → ∀ x, x ∈ linesL l → x ≠ 13
 | _, [], _ => by simp [lines_nil]
 | 0, b :: t, h => by simp at h
 | n + 1, b :: t, h => by
  rw [List.length_cons] at h
  have hl := ln_le t
  intro x hx
  by_cases hb : b = 13
  ·subst hb
   rw [lines_cr, List.mem_cons] at hx
   rcases hx with rfl | hx
   ·decide
   ·exact lines_free n (lnL t) (by omega) x hx
  ·rw [lines_o _ hb, List.mem_cons] at hx
   rcases hx with rfl | hx
   ·exact hb
   ·exact lines_free n t (by omega) x hx
theorem lines_idem (l : List UInt8) : linesL (linesL l) = linesL l := by
 have h := lines_app (linesL l) [] (lines_free _ l (Nat.le_refl _))
 rw [List.append_nil, lines_nil, List.append_nil] at h
 exact h
theorem lines_asc (r : List UInt8) (h : asc0 r = true) : asc0 (linesL r) = true := by
 cases r with
 | nil => rfl
 | cons b t =>
  by_cases hb : b = 13
  ·subst hb; rw [lines_cr]; rfl
  ·rw [lines_o _ hb]; exact h
theorem tw_mem (p : UInt8 → Bool) : ∀ (l : List UInt8) (x : UInt8), x ∈ l.takeWhile p → p x = true
 | [], _, h => by simp at h
 | b :: t, x, h => by
  rw [List.takeWhile_cons] at h
  by_cases hb : p b = true
  ·rw [if_pos hb, List.mem_cons] at h
   rcases h with rfl | h
   ·exact hb
   ·exact tw_mem p t x h
  ·rw [if_neg hb] at h; simp at h
theorem lines_tx : ∀ (n : Nat) (s : List UInt8), s.length ≤ n → txD (linesL s) = txD s
 | n, s, hn => by
  have hs : s.takeWhile (fun x => x != 13) ++ s.dropWhile (fun x => x != 13) = s := List.takeWhile_append_dropWhile
  have ha : ∀ x, x ∈ s.takeWhile (fun x => x != 13) → x ≠ 13 := fun x hx => by
   simpa using tw_mem _ _ x hx
  have hlen := congrArg List.length hs
  rw [List.length_append] at hlen
  have hd : s.dropWhile (fun x => x != 13) = [] ∨ ∃ t, s.dropWhile (fun x => x != 13) = 13 :: t := by
   cases h : s.dropWhile (fun x => x != 13) with
   | nil => exact .inl rfl
   | cons c t =>
    have := List.head?_dropWhile_not (fun x => x != 13) s
    rw [h] at this
    simp at this
    exact .inr ⟨t, by rw [this]⟩
  generalize s.takeWhile (fun x => x != 13) = a at *
  generalize s.dropWhile (fun x => x != 13) = r at *
  have hr : asc0 r = true := by
   rcases hd with rfl | ⟨t, rfl⟩ <;> rfl
  rw [← hs, lines_app a r ha, tx_split _ a _ (Nat.le_refl _) (lines_asc r hr), tx_split _ a _ (Nat.le_refl _) hr]
  congr 1
  rcases hd with rfl | ⟨t, rfl⟩
  ·rfl
  ·rw [lines_cr, tx_ascii 10 _ (by decide), tx_ascii 13 _ (by decide)]
   rw [List.length_cons] at hlen
   have h0 : isC (((10 : UInt8).toNat : Nat) : Int) = true := by decide
   have h1 : isC (((13 : UInt8).toNat : Nat) : Int) = true := by decide
   rw [h0, h1, Bool.true_and, Bool.true_and]
   have hl := ln_le t
   match n, hn with
   | 0, hn => omega
   | n + 1, hn =>
    rw [lines_tx n (lnL t) (by omega)]
    unfold lnL
    split
    ·rename_i hp
     cases t with
     | nil => rfl
     | cons c t =>
      have : c = 10 := by simp [List.isPrefixOf] at hp; exact hp.symm
      subst this
      rw [tx_ascii 10 _ (by decide), h0, Bool.true_and]
      rfl
    ·rfl
end Char
end Go.Proofs.YtlmodgnkmlbjhaaGreatDoor
