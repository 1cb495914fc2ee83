/- Mathematics without a program: Go's way of cutting the document's spaces off both ends is by bytes. -/
import Derived.Test.YteooaibbblfmjaaDoorTxt
import Derived.Test.YteooaibbblfmjaaDoorPlain2
import Derived.Shelf.GgClosure.StringsTrimFunc
namespace Go.Proofs.YteooaibbblfmjaaDoor.Char
open Go.Lib

def spR (r : Nat) : Bool := spC (r : Int)
theorem spB_eq (b : UInt8) : spB b = spR b.toNat := by
  unfold spB spR spC
  rw [Bool.eq_iff_iff]
  simp only [Bool.or_eq_true, beq_iff_eq]
  omega
theorem spR_high (r : Nat) (h : 128 ≤ r) : spR r = false := spC_high _ (by omega)
theorem spB_high (b : UInt8) (h : 128 ≤ b.toNat) : spB b = false := by rw [spB_eq, spR_high _ h]
theorem getD_of (l : List UInt8) (p : Nat) (b : UInt8) (t : List UInt8) (h : l.drop p = b :: t) : l.getD p 0 = b := by
  have e : l[p]? = some b := by rw [← Nat.add_zero p, ← List.getElem?_drop, h]; rfl
  simp [List.getD, e]

theorem left_sp (s : ByteArray) : ∀ (f pos : Nat), s.size ≤ pos + f →
    (s.data.toList.drop pos).dropWhile spB = if idxFuncFrom spR false s f pos = -1 then [] else s.data.toList.drop (idxFuncFrom spR false s f pos).toNat
  | 0, pos, h => by
    have : s.data.toList.drop pos = [] := List.drop_eq_nil_of_le (by rw [← size_eq]; omega)
    simp [idxFuncFrom, this]
  | f + 1, pos, h => by
    by_cases hp : pos < s.size
    · have hd := decodeL_drop s pos
      simp only [idxFuncFrom, if_pos hp, ← hd]
      match hl : s.data.toList.drop pos with
      | [] =>
        have := congrArg List.length hl
        rw [List.length_drop, ← size_eq] at this
        simp at this
        omega
      | b :: t =>
        have ht : s.data.toList.drop (pos + 1) = t := by rw [← List.drop_drop, hl]; rfl
        by_cases hb : b.toNat < 128
        · have e : decodeL (b :: t) = (b.toNat, 1) := by rw [decodeL_N]; exact decodeN_ascii _ _ _ _ _ hb
          rw [e, ← spB_eq]
          cases hs : spB b with
          | true =>
            rw [List.dropWhile_cons, if_pos hs, ← ht]
            simp only [Bool.true_eq_false, if_false]
            exact left_sp s f (pos + 1) (by omega)
          | false => rw [List.dropWhile_cons, if_neg (by rw [hs]; simp), if_pos rfl, if_neg (by omega), Int.toNat_natCast, hl]
        · have hh := decodeL_high b t hb
          rw [spR_high _ hh, if_pos rfl, if_neg (by omega), Int.toNat_natCast, hl, List.dropWhile_cons, if_neg (by rw [spB_high b (by omega)]; simp)]
    · have : s.data.toList.drop pos = [] := List.drop_eq_nil_of_le (by rw [← size_eq]; omega)
      rw [this, idxFuncFrom_end spR false s _ _ hp, if_pos rfl]
      rfl
theorem trimLeft_sp (s : ByteArray) : (trimLeftF spR s).data.toList = s.data.toList.dropWhile spB := by
  have h := left_sp s s.size 0 (by omega)
  rw [List.drop_zero] at h
  rw [h]
  unfold trimLeftF idxFunc
  split
  · rfl
  · rw [extract_data, List.take_of_length_le (by rw [List.length_drop, ← size_eq]; exact Nat.le_refl _)]

def rtrim (l : List UInt8) : List UInt8 := (l.reverse.dropWhile spB).reverse
theorem rtrim_snoc (l : List UInt8) (b : UInt8) : rtrim (l ++ [b]) = if spB b = true then rtrim l else l ++ [b] := by
  unfold rtrim
  rw [List.reverse_append, List.reverse_singleton, List.singleton_append, List.dropWhile_cons]
  split
  · rfl
  · simp
theorem take_snoc (l : List UInt8) (i : Nat) (h : i < l.length) : l.take (i + 1) = l.take i ++ [l.getD i 0] := by
  rw [List.take_succ_eq_append_getElem h]
  simp [List.getD, h]
theorem last_sp (s : ByteArray) : ∀ (f i : Nat), i ≤ f → i ≤ s.data.toList.length → OpenAt s.data.toList i →
    rtrim (s.data.toList.take i) = s.data.toList.take (if 0 ≤ lastIdxFuncFrom spR false s f i then (lastIdxFuncFrom spR false s f i).toNat + (decodeL (s.data.toList.drop (lastIdxFuncFrom spR false s f i).toNat)).2 else 0) ∧
      (lastIdxFuncFrom spR false s f i = -1 ∨ lastIdxFuncFrom spR false s f i < i)
  | 0, i, hf, _, _ => by
    obtain rfl : i = 0 := by omega
    exact ⟨by simp [rtrim, lastIdxFuncFrom], .inl rfl⟩
  | f + 1, i, hf, hil, ho => by
    by_cases hi : 0 < i
    · have hfw := fw_width _ i hi hil ho
      have hw := decodeLastL_width (s.data.toList.take i) (by rw [List.length_take]; omega)
      have hlen : (s.data.toList.take i).length = i := by rw [List.length_take]; omega
      rw [hlen] at hw
      obtain ⟨j, rfl⟩ : ∃ j, i = j + 1 := ⟨i - 1, by omega⟩
      have hr := rtrim_snoc (s.data.toList.take j) (s.data.toList.getD j 0)
      rw [← take_snoc _ j (by omega)] at hr
      simp only [lastIdxFuncFrom, if_pos hi]
      have stay : spR (decodeLastL (s.data.toList.take (j + 1))).1 = false → spB (s.data.toList.getD j 0) = false →
          rtrim (s.data.toList.take (j + 1)) = s.data.toList.take (if 0 ≤ (if spR (decodeLastL (s.data.toList.take (j + 1))).1 = false then ((j + 1 - (decodeLastL (s.data.toList.take (j + 1))).2 : Nat) : Int) else lastIdxFuncFrom spR false s f (j + 1 - (decodeLastL (s.data.toList.take (j + 1))).2)) then (if spR (decodeLastL (s.data.toList.take (j + 1))).1 = false then ((j + 1 - (decodeLastL (s.data.toList.take (j + 1))).2 : Nat) : Int) else lastIdxFuncFrom spR false s f (j + 1 - (decodeLastL (s.data.toList.take (j + 1))).2)).toNat + (decodeL (s.data.toList.drop (if spR (decodeLastL (s.data.toList.take (j + 1))).1 = false then ((j + 1 - (decodeLastL (s.data.toList.take (j + 1))).2 : Nat) : Int) else lastIdxFuncFrom spR false s f (j + 1 - (decodeLastL (s.data.toList.take (j + 1))).2)).toNat)).2 else 0) ∧
          ((if spR (decodeLastL (s.data.toList.take (j + 1))).1 = false then ((j + 1 - (decodeLastL (s.data.toList.take (j + 1))).2 : Nat) : Int) else lastIdxFuncFrom spR false s f (j + 1 - (decodeLastL (s.data.toList.take (j + 1))).2)) = -1 ∨ (if spR (decodeLastL (s.data.toList.take (j + 1))).1 = false then ((j + 1 - (decodeLastL (s.data.toList.take (j + 1))).2 : Nat) : Int) else lastIdxFuncFrom spR false s f (j + 1 - (decodeLastL (s.data.toList.take (j + 1))).2)) < ((j + 1 : Nat) : Int)) := fun h1 h2 => by
        simp only [if_pos h1]
        rw [hr, if_neg (by rw [h2]; simp), if_pos (by omega), Int.toNat_natCast, hfw, Nat.sub_add_cancel hw.2]
        exact ⟨rfl, .inr (by omega)⟩
      rcases last_cases _ (j + 1) hi hil with ⟨ha, hd⟩ | ⟨ha, hd⟩ | ⟨ha, st, hst, hd, hsum⟩
      · rw [Nat.add_sub_cancel] at ha hd
        by_cases hs : spB (s.data.toList.getD j 0) = true
        · have hs' := hs
          rw [spB_eq] at hs'
          simp only [hd, hs', Bool.true_eq_false, if_false, Nat.add_sub_cancel]
          rw [hr, if_pos hs]
          have ⟨h1, h2⟩ := last_sp s f j (by omega) (by omega) (.inr (by omega))
          exact ⟨h1, by omega⟩
        · have hs' : spB (s.data.toList.getD j 0) = false := by simpa using hs
          exact stay (by rw [hd, ← spB_eq]; exact hs') hs'
      · rw [Nat.add_sub_cancel] at ha
        exact stay (by rw [hd]; decide) (spB_high _ ha)
      · rw [Nat.add_sub_cancel] at ha
        refine stay ?_ (spB_high _ ha)
        rw [hd]
        refine spR_high _ ?_
        match hx : (s.data.toList.take (j + 1)).drop st with
        | [] =>
          have := congrArg List.length hx
          rw [List.length_drop, hlen] at this
          simp at this
          omega
        | b :: t =>
          by_cases hb : b.toNat < 128
          · have e : decodeL (b :: t) = (b.toNat, 1) := by rw [decodeL_N]; exact decodeN_ascii _ _ _ _ _ hb
            rw [hx, e] at hsum
            obtain rfl : st = j := by simp only at hsum; omega
            have hg := getD_of _ _ _ _ hx
            rw [getD_takeU _ _ _ (by omega)] at hg
            rw [hg] at ha
            omega
          · exact decodeL_high b t hb
    · obtain rfl : i = 0 := by omega
      rw [lastIdxFuncFrom_zero]
      exact ⟨by simp [rtrim], .inl rfl⟩

theorem trimRight_sp (s : ByteArray) : (trimRightF spR s).data.toList = rtrim s.data.toList := by
  have ⟨h, hlt⟩ := last_sp s s.size s.size (Nat.le_refl _) (by rw [← size_eq]; exact Nat.le_refl _) (.inl (size_eq s))
  rw [List.take_of_length_le (by rw [← size_eq]; exact Nat.le_refl _)] at h
  rw [h]
  unfold trimRightF rightEndF lastIdxFunc
  rw [extract_data, List.drop_zero, Nat.sub_zero]
  congr 1
  split
  · rename_i h0
    congr 2
    have hx : s.extract (lastIdxFuncFrom spR false s s.size s.size).toNat s.size = ⟨(s.data.toList.drop (lastIdxFuncFrom spR false s s.size s.size).toNat).toArray⟩ := by
      rw [extract_eq, List.take_of_length_le (by rw [List.length_drop, ← size_eq]; exact Nat.le_refl _)]
    have hxs : (⟨(s.data.toList.drop (lastIdxFuncFrom spR false s s.size s.size).toNat).toArray⟩ : ByteArray).size ≠ 0 := by
      rw [size_eq]
      simp only [List.length_drop]
      rw [← size_eq]
      omega
    rw [hx]
    unfold decodeGoB decodeL
    rw [if_neg hxs]
  · rfl
/-- what Go cuts off is what the document does -/
theorem trim_sp (s : ByteArray) : (trimF spR s).data.toList = trimL s.data.toList := by
  unfold trimF
  rw [trimRight_sp, trimLeft_sp]
  rfl
end Go.Proofs.YteooaibbblfmjaaDoor.Char
