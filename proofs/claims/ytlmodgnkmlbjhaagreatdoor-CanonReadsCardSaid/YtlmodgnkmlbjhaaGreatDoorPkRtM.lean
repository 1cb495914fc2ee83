import Derived.Test.YtlmodgnkmlbjhaaGreatDoorPkSeq
import Derived.Test.YtlmodgnkmlbjhaaGreatDoorPkMat
import Derived.Test.YtlmodgnkmlbjhaaGreatDoorPkNm
import Derived.Deep.QuietTactic
import Derived.BigQuiet
namespace Go.Proofs.YtlmodgnkmlbjhaaGreatDoor
namespace Char
open Go.Lib
def meetN (a : Tr) : List Tr → Bool
 | [] => false
 | b :: _ => decide (a.kd = 4) && decide (b.kd = 4)
def meetK : List Tr → Bool
 | [] => false
 | a :: r => meetN a r || meetK r
def atsK : Option (List UInt8) → List At2 → Bool
 | _, [] => true
 | p, a :: r => (nmD (bs a.1) && txD a.2 && (match p with
  | none => true
  | some x => Op.bytesLess x a.1)) && atsK (some a.1) r
def chlT (t : Tr) : Bool := t.ats.isEmpty && t.ks.isEmpty
def noCr (l : List UInt8) : Bool := !Lib.contains l [13]
def oneT (t : Tr) : Bool :=
 if t.kd = 2 then nmD (bs t.nm) && t.tx.isEmpty && decide (t.ats.length ≤ 8) && atsK none t.ats
 else if t.kd = 4 then chlT t && txD t.tx && t.nm.isEmpty && !t.tx.isEmpty
 else if t.kd = 5 then chlT t && txD t.tx && noCr t.tx && t.nm.isEmpty && !Lib.contains t.tx [45, 45] && !(t.tx.getLast? == some 45)
 else if t.kd = 6 then chlT t && txD t.tx && noCr t.tx && nmD (bs t.nm) && !Lib.contains t.tx [63, 62] && !(match t.tx with
  | [] => false
  | c :: _ => spC (c.toNat : Int)) && !decide (smallL t.nm = [120, 109, 108])
 else false
def fitT (t : Tr) : Bool := oneT t && (if t.kd = 2 then !meetK t.ks else true)
def runR : List (Nat × Tr) → Nat → Bool
 | [], _ => true
 | x :: r, s => if 12 < x.1 ∨ 120 < s + 1 + x.2.ats.length ∨ fitT x.2 = false then false else runR r (s + 1 + x.2.ats.length)
def rightP (t : Tr) : Bool := decide (t.kd = 2) && runR (seqT 0 t) 0
mutual
def rightT : Tr → Nat → Bool
 | .mk kd nm tx ats ks, d => !(decide (kd = 2) && decide (12 ≤ d)) && oneT (.mk kd nm tx ats ks) && rightK ks (d + 1)
def rightK : List Tr → Nat → Bool
 | [], _ => true
 | k :: r, d => rightT k d && !meetN k r && rightK r d
end
theorem rightT_def (t : Tr) (d : Nat) : rightT t d = (!(decide (t.kd = 2) && decide (12 ≤ d)) && oneT t && rightK t.ks (d + 1)) := by
 cases t
 rw [rightT]
 rfl
def rightD (t : Tr) : Bool := decide (t.kd = 2) && rightT t 0 && decide (szT t ≤ 120)
theorem one_leaf {t : Tr} (h2 : t.kd ≠ 2) (h : oneT t = true) : t.ats = [] ∧ t.ks = [] := by
 unfold oneT at h
 rw [if_neg h2] at h
 have key : chlT t = true := by
  split at h
  ·simp only [Bool.and_eq_true] at h; exact h.1.1.1
  ·split at h
   ·simp only [Bool.and_eq_true] at h; exact h.1.1.1.1.1
   ·split at h
    ·simp only [Bool.and_eq_true] at h; exact h.1.1.1.1.1.1
    ·cases h
 unfold chlT at key
 simpa using key
def levR (l : List (Nat × Tr)) : Prop := ∀ x, x ∈ l → x.1 ≤ 12 ∧ fitT x.2 = true
def wtR (l : List (Nat × Tr)) : Nat := (l.map fun x => 1 + x.2.ats.length).sum
theorem runR_iff : ∀ (l : List (Nat × Tr)) (s : Nat), runR l s = true ↔ (levR l ∧ (l = [] ∨ s + wtR l ≤ 120))
 | [], s => by simp [runR, levR]
 | x :: r, s => by
  have ih := runR_iff r (s + 1 + x.2.ats.length)
  rw [runR]
  have hw : wtR (x :: r) = 1 + x.2.ats.length + wtR r := by simp [wtR]
  split
  ·rename_i h
   simp only [Bool.false_eq_true, false_iff]
   rintro ⟨h1, h2⟩
   have h3 := h1 x (by simp)
   rcases h2 with h2 | h2
   ·cases h2
   ·rw [hw] at h2
    rcases h with h | h | h
    ·omega
    ·omega
    ·rw [h3.2] at h; cases h
  ·rename_i h
   have hx : x.1 ≤ 12 ∧ s + 1 + x.2.ats.length ≤ 120 ∧ fitT x.2 = true := by
    refine ⟨?_, ?_, ?_⟩
    ·exact Nat.le_of_not_lt fun h' => h (.inl h')
    ·exact Nat.le_of_not_lt fun h' => h (.inr (.inl h'))
    ·cases hf : fitT x.2 with
     | true => rfl
     | false => exact absurd (.inr (.inr hf)) h
   rw [ih]
   constructor
   ·rintro ⟨h1, h2⟩
    refine ⟨fun y hy => ?_, .inr ?_⟩
    ·rcases List.mem_cons.1 hy with rfl | hy
     ·exact ⟨hx.1, hx.2.2⟩
     ·exact h1 y hy
    ·rw [hw]
     rcases h2 with rfl | h2
     ·simp [wtR]; omega
     ·omega
   ·rintro ⟨h1, h2⟩
    refine ⟨fun y hy => h1 y (by simp [hy]), .inr ?_⟩
    rcases h2 with h2 | h2
    ·cases h2
    ·rw [hw] at h2; omega
theorem allR_app (a b : List (Nat × Tr)) : levR (a ++ b) ↔ levR a ∧ levR b := by
 unfold levR
 constructor
 ·exact fun h => ⟨fun x hx => h x (List.mem_append_left _ hx), fun x hx => h x (List.mem_append_right _ hx)⟩
 ·rintro ⟨h1, h2⟩ x hx
  rcases List.mem_append.1 hx with hx | hx
  ·exact h1 x hx
  ·exact h2 x hx
mutual
theorem right_iff : ∀ (t : Tr) (d : Nat), d ≤ 12 → (rightT t d = true ↔ levR (seqT d t))
 | .mk kd nm tx ats ks, d, hd => by
  rw [rightT_def]
  by_cases h2 : kd = 2
  ·subst h2
   rw [seqT_elem rfl]
   have hcons : levR ((d + 1, Tr.mk 2 nm tx ats ks) :: seqK (d + 1) ks) ↔ ((d + 1 ≤ 12 ∧ fitT (.mk 2 nm tx ats ks) = true) ∧ levR (seqK (d + 1) ks)) := by
    rw [show (d + 1, Tr.mk 2 nm tx ats ks) :: seqK (d + 1) ks = [(d + 1, Tr.mk 2 nm tx ats ks)] ++ seqK (d + 1) ks from rfl, allR_app]
    simp [levR]
   show _ ↔ levR ((d + 1, Tr.mk 2 nm tx ats ks) :: seqK (d + 1) ks)
   rw [hcons]
   by_cases h12 : 12 ≤ d
   ·simp [Tr.kd, h12]
    intro h; omega
   ·have ih := rightK_iff ks (d + 1) (by omega)
    have hf : fitT (.mk 2 nm tx ats ks) = (oneT (.mk 2 nm tx ats ks) && !meetK ks) := by unfold fitT; simp [Tr.kd, Tr.ks]
    rw [hf]
    simp only [Tr.kd, Tr.ks, decide_true, Bool.true_and, Bool.and_eq_true, h12, decide_false, Bool.not_false]
    rw [ih]
    simp only [Bool.not_eq_true']
    constructor
    ·rintro ⟨h1, h3, h4⟩; exact ⟨⟨by omega, h1, h3⟩, h4⟩
    ·rintro ⟨⟨_, h1, h3⟩, h4⟩; exact ⟨h1, h3, h4⟩
  ·rw [seqT_leaf (t := .mk kd nm tx ats ks) h2]
   have hf : fitT (.mk kd nm tx ats ks) = oneT (.mk kd nm tx ats ks) := by unfold fitT; simp [Tr.kd, h2]
   simp only [levR, List.mem_singleton, forall_eq, hf, Tr.kd, h2, decide_false, Bool.false_and, Bool.not_false, Bool.true_and, Bool.and_eq_true]
   constructor
   ·exact fun h => ⟨hd, h.1⟩
   ·intro h
    refine ⟨h.2, ?_⟩
    rw [(one_leaf (t := .mk kd nm tx ats ks) h2 h.2).2, rightK]
theorem rightK_iff : ∀ (ks : List Tr) (d : Nat), d ≤ 12 → (rightK ks d = true ↔ (meetK ks = false ∧ levR (seqK d ks)))
 | [], d, _ => by simp [rightK, meetK, seqK, levR]
 | k :: r, d, hd => by
  have h1 := right_iff k d hd
  have h2 := rightK_iff r d hd
  rw [rightK, seqK, allR_app, meetK]
  simp only [Bool.and_eq_true, Bool.not_eq_true', Bool.or_eq_false_iff]
  rw [h1, h2]
  constructor
  ·rintro ⟨⟨a, b⟩, c, e⟩; exact ⟨⟨b, c⟩, a, e⟩
  ·rintro ⟨⟨b, c⟩, a, e⟩; exact ⟨⟨a, b⟩, c, e⟩
end
mutual
theorem wtR_seq : ∀ (t : Tr) (d : Nat), levR (seqT d t) → wtR (seqT d t) = szT t
 | .mk kd nm tx ats ks, d, h => by
  by_cases h2 : kd = 2
  ·subst h2
   rw [seqT_elem rfl] at h ⊢
   rw [szT_elem rfl]
   have := wtR_seqK ks (d + 1) (fun x hx => h x (by simp only [List.mem_cons]; exact .inr hx))
   show wtR ((d + 1, Tr.mk 2 nm tx ats ks) :: seqK (d + 1) ks) = _
   rw [show (Tr.mk 2 nm tx ats ks).ks = ks from rfl, ← this]
   simp [wtR, Tr.ats]
  ·rw [seqT_leaf (t := .mk kd nm tx ats ks) h2] at h ⊢
   rw [szT_leaf (t := .mk kd nm tx ats ks) h2]
   have hf := (h (d, .mk kd nm tx ats ks) (by simp)).2
   unfold fitT at hf
   simp only [Tr.kd, h2, if_false, Bool.and_true] at hf
   have := (one_leaf (t := .mk kd nm tx ats ks) h2 hf).1
   simp [wtR, this]
theorem wtR_seqK : ∀ (ks : List Tr) (d : Nat), levR (seqK d ks) → wtR (seqK d ks) = szK ks
 | [], d, _ => by rw [seqK, szK]; rfl
 | k :: r, d, h => by
  rw [seqK, allR_app] at h
  rw [seqK, szK, ← wtR_seq k d h.1, ← wtR_seqK r d h.2]
  simp [wtR]
end
theorem right_same (t : Tr) : rightP t = rightD t := by
 unfold rightP rightD
 by_cases h2 : t.kd = 2
 ·rw [decide_eq_true h2, Bool.true_and, Bool.true_and, Bool.eq_iff_iff, runR_iff, Bool.and_eq_true, right_iff t 0 (by omega), decide_eq_true_eq]
  constructor
  ·rintro ⟨h, h3⟩
   refine ⟨h, ?_⟩
   rw [← wtR_seq t 0 h]
   rcases h3 with h3 | h3
   ·rw [seqT_elem h2] at h3; cases h3
   ·omega
  ·rintro ⟨h, h3⟩
   refine ⟨h, .inr ?_⟩
   rw [wtR_seq t 0 h]
   omega
 ·rw [decide_eq_false h2]
  rfl
end Char
namespace Char
open Go.Lib
def crF (l : List UInt8) : Prop := ∀ b, b ∈ l → b ≠ 13
theorem lines_crF : ∀ (n : Nat) (l : List UInt8), l.length ≤ n → crF (linesL l)
 | _, [], _ => fun b hb => by rw [lines_nil] at hb; cases hb
 | 0, b :: t, h => by simp at h
 | n + 1, b :: t, h => by
  rw [List.length_cons] at h
  by_cases hb : b = 13
  ·subst hb
   have h1 := ln_le t
   rw [lines_cr]
   intro x hx
   rcases List.mem_cons.1 hx with rfl | hx
   ·decide
   ·exact lines_crF n (lnL t) (by omega) x hx
  ·rw [lines_o t hb]
   intro x hx
   rcases List.mem_cons.1 hx with rfl | hx
   ·exact hb
   ·exact lines_crF n t (by omega) x hx
theorem crF.suf {a l : List UInt8} (h : crF l) (hs : a <:+ l) : crF a := fun b hb => h b (hs.mem hb)
theorem crF.drop {l : List UInt8} (h : crF l) (k : Nat) : crF (l.drop k) := h.suf (List.drop_suffix k l)
theorem crF.take {l : List UInt8} (h : crF l) (k : Nat) : crF (l.take k) := fun b hb => h b (List.mem_of_mem_take hb)
theorem cr_no {l : List UInt8} (h : crF l) : noCr l = true := by
 unfold noCr contains
 rcases index_spec l [13] with ⟨h1, _⟩ | ⟨i, h1, _, h3, _⟩
 ·rw [h1]; rfl
 ·exfalso
  unfold occAt at h3
  obtain ⟨t, ht⟩ := List.isPrefixOf_iff_prefix.1 h3
  have hm : (13 : UInt8) ∈ l := List.mem_of_mem_drop (i := i) (by rw [← ht]; simp)
  exact h 13 hm rfl
theorem cut_no {l m : List UInt8} {i : Nat} (hm : m ≠ []) (hi : index l m = (i : Int)) : contains (l.take i) m = false := by
 unfold contains
 rcases index_spec (l.take i) m with ⟨h1, _⟩ | ⟨j, h1, _, h3, _⟩
 ·rw [h1]; rfl
 ·exfalso
  rcases index_spec l m with ⟨g1, _⟩ | ⟨k, g1, _, _, g4⟩
  ·omega
  ·obtain rfl : k = i := by omega
   unfold occAt at h3
   have hp := List.isPrefixOf_iff_prefix.1 h3
   have hlen := hp.length_le
   have hpos := List.length_pos_iff.2 hm
   rw [List.length_drop, List.length_take] at hlen
   have ho : occAt l m j = true := by
    unfold occAt
    rw [List.isPrefixOf_iff_prefix]
    rw [List.drop_take] at hp
    exact hp.trans (List.take_prefix _ _)
   rw [g4 j (by omega)] at ho
   cases ho
theorem drop_no {l m : List UInt8} {k : Nat} (hk : k ≤ l.length) (h : contains l m = false) : contains (l.drop k) m = false := by
 unfold contains at h ⊢
 rcases index_spec (l.drop k) m with ⟨h1, _⟩ | ⟨j, h1, h2, h3, _⟩
 ·rw [h1]; rfl
 ·exfalso
  rw [List.length_drop] at h2
  rcases index_spec l m with ⟨_, g2⟩ | ⟨i, g1, _⟩
  ·have g3 := g2 (k + j) (by omega)
   unfold occAt at h3 g3
   rw [List.drop_drop] at h3
   rw [g3] at h3
   cases h3
  ·rw [g1] at h
   simp at h
theorem cut_last {u : List UInt8} {i : Nat} (hi : index u [45, 45] = (i : Int)) : ((u.take i).getLast? == some 45) = false := by
 cases i with
 | zero => rfl
 | succ n =>
  rcases index_spec u [45, 45] with ⟨g1, _⟩ | ⟨k, g1, _, g3, g4⟩
  ·omega
  ·obtain rfl : k = n + 1 := by omega
   unfold occAt at g3
   obtain ⟨t, ht⟩ := List.isPrefixOf_iff_prefix.1 g3
   have hl : n + 1 < u.length := by
    have := congrArg List.length ht
    simp at this
    omega
   have hno := g4 n (by omega)
   rw [beq_eq_false_iff_ne]
   intro hc
   rw [List.getLast?_eq_getElem?, List.length_take, Nat.min_eq_left (by omega), Nat.add_sub_cancel, List.getElem?_take_of_lt (by omega), List.getElem?_eq_getElem (by omega), Option.some.injEq] at hc
   unfold occAt at hno
   rw [List.drop_eq_getElem_cons (by omega : n < u.length), hc, ← ht] at hno
   simp at hno
theorem spc_head (l : List UInt8) : (match l.drop (spcL l) with
  | [] => false
  | c :: _ => spC (c.toNat : Int)) = false := by
 have e : l.drop (spcL l) = l.dropWhile fun b => spC (b.toNat : Int) := by
  unfold spcL
  conv => lhs; arg 2; rw [← List.takeWhile_append_dropWhile (p := fun b : UInt8 => spC (b.toNat : Int)) (l := l)]
  rw [List.drop_left]
 rw [e]
 cases hd : l.dropWhile fun b => spC (b.toNat : Int) with
 | nil => rfl
 | cons c r =>
  have := List.head?_dropWhile_not (fun b : UInt8 => spC (b.toNat : Int)) l
  rw [hd] at this
  simpa using this
theorem tagN_suf : ∀ (n : Nat) (r : List UInt8) (qs qs' : List At2) (em : Bool) (rest : List UInt8), tagN n r qs = .inr (qs', em, rest) → rest <:+ r
 | 0, _, _, _, _, _, h => by cases h
 | n + 1, r, qs, qs', em, rest, h => by
  unfold tagN at h
  cases hd : r.drop (spcL r) with
  | nil => rw [hd] at h; cases h
  | cons c r2 =>
   have hs : (c :: r2) <:+ r := by rw [← hd]; exact List.drop_suffix _ _
   have hs2 : r2 <:+ r := (List.suffix_cons c r2).trans hs
   rw [hd] at h
   dsimp only at h
   split at h
   ·simp only [Sum.inr.injEq, Prod.mk.injEq] at h
    rw [← h.2.2]; exact hs2
   ·split at h
    ·split at h
     ·cases h
     ·simp only [Sum.inr.injEq, Prod.mk.injEq] at h
      rw [← h.2.2]; exact (List.drop_suffix _ _).trans hs2
    ·split at h
     ·cases h
     ·cases ha : attrL (c :: r2) with
      | inl e => rw [ha] at h; cases h
      | inr x =>
       obtain ⟨m, t, k⟩ := x
       rw [ha] at h
       dsimp only at h
       split at h
       ·cases h
       ·split at h
        ·cases h
        ·exact (tagN_suf n _ _ _ _ _ h).trans ((List.drop_suffix _ _).trans hs)
theorem oneP_suf {r : List UInt8} {t : Tk} {rest : List UInt8} (h : oneP r = .inr (t, rest)) : rest <:+ r := by
 unfold oneP at h
 split at h
 ·unfold comP at h
  split at h
  ·cases h
  ·split at h
   ·simp only [Sum.inr.injEq, Prod.mk.injEq] at h
    rw [← h.2]; exact (List.drop_suffix _ _).trans (List.drop_suffix _ _)
   ·cases h
 ·split at h
  ·unfold datP at h
   split at h
   ·cases h
   ·simp only [Sum.inr.injEq, Prod.mk.injEq] at h
    rw [← h.2]; exact (List.drop_suffix _ _).trans (List.drop_suffix _ _)
  ·split at h
   ·unfold insP at h
    split at h
    ·cases h
    ·split at h
     ·cases h
     ·simp only [Sum.inr.injEq, Prod.mk.injEq] at h
      rw [← h.2]; exact (List.drop_suffix _ _).trans (List.drop_suffix _ _)
   ·split at h
    ·unfold endP at h
     split at h
     ·cases h
     ·split at h
      ·cases h
      ·simp only [Sum.inr.injEq, Prod.mk.injEq] at h
       rw [← h.2]; exact (List.drop_suffix _ _).trans (List.drop_suffix _ _)
    ·split at h
     ·cases h
     ·split at h
      ·unfold staP tagL at h
       split at h
       ·cases h
       ·rename_i hh
        split at hh
        ·cases hh
        ·cases hf : tagF ((r.drop 1).drop (runL (r.drop 1))) [] with
         | inl e => rw [hf] at hh; cases hh
         | inr y =>
          obtain ⟨qs1, em1, rest1⟩ := y
          rw [hf] at hh
          simp only [Sum.inr.injEq, Prod.mk.injEq] at h hh
          rw [← h.2, ← hh.2.2.2]
          exact (tagN_suf _ _ _ _ _ _ hf).trans ((List.drop_suffix _ _).trans (List.drop_suffix _ _))
      ·unfold txtP at h
       split at h
       ·cases h
       ·simp only [Sum.inr.injEq, Prod.mk.injEq] at h
        rw [← h.2]; exact List.drop_suffix _ _
theorem stp_txA {acc l c r : List UInt8} (h : txD (acc ++ l) = true) (hs : stp true l = .inr (c, r)) : txD (acc ++ c ++ r) = true := by
 cases l with
 | nil => cases hs
 | cons b t =>
  by_cases hb : b = 38
  ·subst hb
   have hs2 : stp false (38 :: t) = .inr (c, r) := by
    rw [stp_cons] at hs ⊢
    exact hs
   exact stp_tx h hs2
  ·rw [stp_cons] at hs
   split at hs
   ·cases hs
   ·split at hs
    ·rename_i hb
     subst hb
     simp only [Sum.inr.injEq, Prod.mk.injEq] at hs
     obtain ⟨rfl, rfl⟩ := hs
     rw [tx_split _ acc _ (Nat.le_refl _) (by rfl), Bool.and_eq_true] at h
     have ht := tx_behind [13] t (by decide) h.2
     rw [List.append_assoc, tx_more acc _ h.1]
     show txD (32 :: _) = true
     rw [tx_ascii 32 _ (by decide)]
     rw [show isC (((32 : UInt8).toNat : Nat) : Int) = true by decide, Bool.true_and]
     split
     ·rename_i hp
      exact tx_take (m := [10]) (by decide) hp ht
     ·exact ht
    ·simp only [Sum.inr.injEq, Prod.mk.injEq, true_and] at hs
     obtain ⟨rfl, rfl⟩ := hs
     split
     ·rename_i h9
      have h8 : b.toNat < 128 := by rcases h9 with rfl | rfl <;> decide
      rw [tx_split _ acc _ (Nat.le_refl _) (by simp [asc0, h8]), Bool.and_eq_true] at h
      have ht := tx_behind [b] t (by simp [h8]) h.2
      rw [List.append_assoc, tx_more acc _ h.1]
      show txD (32 :: _) = true
      rw [tx_ascii 32 _ (by decide)]
      rw [show isC (((32 : UInt8).toNat : Nat) : Int) = true by decide, Bool.true_and]
      exact ht
     ·simpa using h
theorem gL_txA : ∀ (n : Nat) (l acc x : List UInt8), l.length ≤ n → txD (acc ++ l) = true → gL true acc l = (x, 0) → txD x = true
 | n, l, acc, x, hn, h, hg => by
  cases hs : stp true l with
  | inl e =>
   by_cases he : e = 0
   ·subst he
    rw [gL_end acc hs] at hg
    simp only [Prod.mk.injEq] at hg
    obtain ⟨rfl, _⟩ := hg
    have hl : l = [] := by
     cases l with
     | nil => rfl
     | cons b t =>
      rw [stp_cons] at hs
      split at hs
      ·cases hs
      ·split at hs
       ·split at hs
        ·cases hs
        ·cases hs
       ·split at hs
        ·cases hs
        ·cases hs
    subst hl
    rw [List.append_nil] at h
    exact h
   ·rw [gL_err acc hs he] at hg
    simp only [Prod.mk.injEq] at hg
    exact absurd hg.2 he
  | inr y =>
   obtain ⟨c, r⟩ := y
   rw [gL_step acc hs] at hg
   have hl := stp_lt hs
   match n, hn with
   | 0, hn => omega
   | n + 1, hn => exact gL_txA n r (acc ++ c) x (by omega) (stp_txA h hs) hg
theorem getD5_txA {l x : List UInt8} (h : txD l = true) (hg : getD5 true l = (x, 0)) : txD x = true := by
 rw [get_yes h] at hg
 exact gL_txA _ l [] x (Nat.le_refl _) (by simpa using h) hg
theorem tx_byte {u : List UInt8} {q : UInt8} {i : Nat} (hq : q.toNat < 128) (hi : index u [q] = (i : Int)) (h : txD u = true) : txD (u.take i) = true :=
 (tx_cut (m := [q]) (by simp) (by simp [hq]) hi h).1
theorem tx_dropped {r : List UInt8} {c : UInt8} {u : List UInt8} {k : Nat} (hk : r.drop k = c :: u) (hc : c.toNat < 128) (ht : txD r = true) : txD (c :: u) = true ∧ txD u = true := by
 have e := List.take_append_drop k r
 rw [hk] at e
 rw [← e, tx_split _ _ _ (Nat.le_refl _) (by simp [asc0, hc]), Bool.and_eq_true] at ht
 exact ⟨ht.2, tx_behind [c] u (by simp [hc]) ht.2⟩
theorem attrL_tx {r m t : List UInt8} {k : Nat} (ht : txD r = true) (h : attrL r = .inr (m, t, k)) : txD t = true := by
 unfold attrL at h
 split at h
 ·cases h
 ·split at h
  ·cases h
  ·unfold attrL.valL attrL.quoL at h
   split at h
   ·cases h
   ·rename_i q u hd
    split at h
    ·cases h
    ·rename_i hq
     have hq8 : q.toNat < 128 := by
      by_cases h1 : q = 34
      ·subst h1; decide
      ·by_cases h2 : q = 39
       ·subst h2; decide
       ·exact absurd ⟨h1, h2⟩ hq
     have hu := (tx_dropped hd hq8 ht).2
     have he : u = r.drop (runL r + spcL (List.drop (runL r) r) + 1 + spcL (List.drop (runL r + spcL (List.drop (runL r) r) + 1) r) + 1) := by
      rw [← List.drop_drop, hd]
      rfl
     split at h
     ·cases h
     ·rename_i hi
      rw [← he] at hi
      obtain ⟨i, hi2⟩ := idx_natP hi
      split at h
      ·cases h
      ·rename_i h0
       simp only [Sum.inr.injEq, Prod.mk.injEq] at h
       rw [← h.2.1]
       rw [← he, hi2, Int.toNat_natCast] at h0 ⊢
       refine getD5_txA (tx_byte hq8 hi2 hu) ?_
       rw [Prod.ext_iff]
       exact ⟨rfl, by simpa using h0⟩
theorem attP_val {r n t rest : List UInt8} {qs : List At2} (h : txD r = true) (ha : attP r qs = .inr (n, t, rest)) : txD t = true := by
 unfold attP at ha
 split at ha
 ·cases ha
 ·rename_i h1
  split at ha
  ·cases ha
  ·split at ha
   ·cases ha
   ·simp only [Sum.inr.injEq, Prod.mk.injEq] at ha
    obtain ⟨rfl, rfl, rfl⟩ := ha
    rw [attQ_eq] at h1
    split at h1
    ·cases h1
    ·rename_i h2
     simp only [Sum.inr.injEq, Prod.mk.injEq] at h1
     obtain ⟨rfl, rfl, rfl⟩ := h1
     exact attrL_tx h h2
theorem tagF_an : ∀ (n : Nat) (r : List UInt8) (qs qs' : List At2) (em : Bool) (rest : List UInt8), r.length ≤ n → txD r = true → (∀ a, a ∈ qs → txD a.2 = true) → tagF r qs = .inr (qs', em, rest) → ∀ a, a ∈ qs' → txD a.2 = true
 | n, r, qs, qs', em, rest, hn, ht, hq, h => by
  have hu := tx_spc ht
  by_cases hgo : 0 < spcL r ∧ [47].isPrefixOf (r.drop (spcL r)) = false ∧ [62].isPrefixOf (r.drop (spcL r)) = false
  ·obtain ⟨g0, g1, g2⟩ := hgo
   rw [tag_go g0 g1 g2] at h
   cases ha : attP (r.drop (spcL r)) qs with
   | inl e => rw [ha] at h; cases h
   | inr x =>
    obtain ⟨m, t, r2⟩ := x
    rw [ha] at h
    obtain ⟨h1, h2⟩ := attP_tx hu ha
    have h3 := attP_val hu ha
    rw [List.length_drop] at h2
    match n, hn with
    | 0, hn => omega
    | n + 1, hn =>
     refine tagF_an n r2 _ _ _ _ (by omega) h1 (fun a ha2 => ?_) h
     rw [List.mem_append, List.mem_singleton] at ha2
     rcases ha2 with ha2 | rfl
     ·exact hq a ha2
     ·exact h3
  ·rw [tag_fin hgo] at h
   unfold finQ at h
   split at h
   ·cases h
   ·simp only [Sum.inr.injEq, Prod.mk.injEq] at h
    rw [← h.1]; exact hq
def spH : List UInt8 → Bool
 | [] => false
 | c :: _ => spC (c.toNat : Int)
structure TkR (t : Tk) : Prop where
 an : ∀ a, a ∈ t.ats → txD a.2 = true
 n3 : t.kd = 3 ∨ t.kd = 4 → t.nm = []
 c4 : t.kd = 4 → crF t.tx ∧ contains t.tx [45, 45] = false ∧ (t.tx.getLast? == some 45) = false
 c5 : t.kd = 5 → crF t.tx ∧ contains t.tx [63, 62] = false ∧ spH t.tx = false ∧ smallL t.nm ≠ [120, 109, 108]
theorem spc_headH (l : List UInt8) : spH (l.drop (spcL l)) = false := by
 have := spc_head l
 cases h : l.drop (spcL l) with
 | nil => rfl
 | cons c r => rw [h] at this; exact this
theorem oneP_right {r : List UInt8} {t : Tk} {rest : List UInt8} (hc : crF r) (ht : txD r = true) (h : oneP r = .inr (t, rest)) : TkR t := by
 unfold oneP at h
 split at h
 ·have hd := hc.drop 4
  generalize r.drop 4 = u at *
  unfold comP at h
  split at h
  ·cases h
  ·rename_i hi
   split at h
   ·simp only [Sum.inr.injEq, Prod.mk.injEq] at h
    rw [← h.1]
    obtain ⟨i, hi2⟩ := idx_natP hi
    rw [hi2, Int.toNat_natCast]
    exact ⟨fun a ha => (by cases ha), fun _ => rfl, fun _ => ⟨hd.take i, cut_no (by simp) hi2, cut_last hi2⟩, fun h5 => by cases h5⟩
   ·cases h
 ·split at h
  ·unfold datP at h
   split at h
   ·cases h
   ·simp only [Sum.inr.injEq, Prod.mk.injEq] at h
    rw [← h.1]
    exact ⟨fun a ha => (by cases ha), fun _ => rfl, fun h4 => (by cases h4), fun h5 => by cases h5⟩
  ·split at h
   ·have hd := hc.drop 2
    generalize r.drop 2 = u at *
    unfold insP at h
    split at h
    ·cases h
    ·rename_i hi
     obtain ⟨i, hi2⟩ := idx_natP hi
     rw [hi2, Int.toNat_natCast] at h
     have hcn := cut_no (by simp) hi2
     have hdt := hd.take i
     generalize u.take i = s at *
     split at h
     ·cases h
     ·rename_i hpi
      simp only [Sum.inr.injEq, Prod.mk.injEq] at h
      rw [← h.1]
      unfold piL at hpi
      split at hpi
      ·cases hpi
      ·rename_i hnm
       split at hpi
       ·cases hpi
       ·simp only [Sum.inr.injEq, Prod.mk.injEq] at hpi
        rw [← hpi.1, ← hpi.2]
        rw [not_or] at hnm
        have hr := run_le _ s (Nat.le_refl _)
        have hs := spc_le (s.drop (runL s))
        rw [List.length_drop] at hs
        refine ⟨fun a ha => (by cases ha), fun h3 => (by rcases h3 with h3 | h3 <;> cases h3), fun h4 => (by cases h4), fun _ => ⟨hdt.drop _, drop_no (by omega) hcn, ?_, hnm.2⟩⟩
        have := spc_headH (s.drop (runL s))
        rwa [List.drop_drop] at this
   ·split at h
    ·unfold endP at h
     split at h
     ·cases h
     ·split at h
      ·cases h
      ·simp only [Sum.inr.injEq, Prod.mk.injEq] at h
       rw [← h.1]
       exact ⟨fun a ha => (by cases ha), fun h3 => (by rcases h3 with h3 | h3 <;> cases h3), fun h4 => (by cases h4), fun h5 => by cases h5⟩
    ·split at h
     ·cases h
     ·split at h
      ·rename_i hp
       have hd := tx_take (m := [60]) (by decide) hp ht
       change txD (r.drop 1) = true at hd
       unfold staP tagL at h
       split at h
       ·cases h
       ·rename_i hh
        split at hh
        ·cases hh
        ·cases hf : tagF ((r.drop 1).drop (runL (r.drop 1))) [] with
         | inl e => rw [hf] at hh; cases hh
         | inr y =>
          obtain ⟨qs1, em1, rest1⟩ := y
          rw [hf] at hh
          simp only [Sum.inr.injEq, Prod.mk.injEq] at h hh
          have := tagF_an _ _ [] _ _ _ (Nat.le_refl _) (tx_run hd) (fun a ha => by cases ha) hf
          rw [← h.1, ← hh.2.1]
          exact ⟨this, fun h3 => (by rcases h3 with h3 | h3 <;> cases h3), fun h4 => (by cases h4), fun h5 => by cases h5⟩
      ·unfold txtP at h
       split at h
       ·cases h
       ·simp only [Sum.inr.injEq, Prod.mk.injEq] at h
        rw [← h.1]
        exact ⟨fun a ha => (by cases ha), fun _ => rfl, fun h4 => (by cases h4), fun h5 => by cases h5⟩
theorem scanL_right {s : List UInt8} {ts : List Tk} (h : scanL s = .inr ts) : ∀ t, t ∈ ts → TkR t := by
 obtain ⟨_, h2, h3⟩ := scanL_small h
 refine scanN_all TkR (fun r => crF r ∧ txD r = true) ?_ _ _ _ _ ⟨lines_crF _ s (Nat.le_refl _), by rw [lines_tx _ s (Nat.le_refl _)]; exact h2⟩ (fun t ht => by cases ht) h3
 rintro r t rest ⟨hr, ht⟩ ho
 exact ⟨oneP_right hr ht ho, hr.suf (oneP_suf ho), oneP_tx ht ho⟩
end Char
namespace Char
open Go.RowKit Go.Lib
def KeptT (w : World) : Type := { W : World // Below w.heap.size w W }
def KeptT.at {w : World} (q : KeptT w) : World := q.1
theorem KeptT.ok {w : World} (q : KeptT w) : Below w.heap.size w q.at := q.2
theorem KeptT.on {w W' : World} (q : KeptT w) (h : Below q.at.heap.size q.at W') : ∃ q' : KeptT w, W' = q'.at := ⟨⟨W', q.ok.trans (h.mono q.ok.size)⟩, rfl⟩
instance (w : World) : Nonempty (KeptT w) := ⟨⟨w, Below.refl _ _⟩⟩
theorem wp_region_kept {P : Program} {id : Nat} {Q : Exit → Act → World → Prop} {a : Act} {w : World} {l : List Oper} (T : Type) (f : T → World) (hm : P.follows .mixedOrders = true) (hB : Region.lexB .any l.toArray = true)
  (h0 : ∃ q : T, w.drew = f q) (h : wpQuiet P l.toArray (fun w' => ∃ q : T, w' = f q) (fun a' => ∀ w', (∃ q : T, w' = f q) → Q .normal a' w') l a) : (Code.region id l.toArray true).wp P Q a w :=
 wp_region_quiet (C := fun w' => ∃ q : T, w' = f q) hm hB h0 (by simpa using h)
end Char
end Go.Proofs.YtlmodgnkmlbjhaaGreatDoor
