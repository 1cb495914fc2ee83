/- The walk of CharWithin. -/
import Derived.Test.YtaiglcjeikcboaaDoorJoin
import Derived.Laws.Cover4
namespace Go.Proofs.YtaiglcjeikcboaaDoor.Char
open Go.RowKit Go.Lib

/-- what may go on a name is a character, and no space; a space is a character -/
theorem pa_is (n : Int) (h : paC n = true) : isC n = true := by
  unfold paC stC isC isL stL paL at *
  simp only [inP] at *
  simp only [Bool.or_eq_true, Bool.and_eq_true, decide_eq_true_eq, Bool.false_eq_true, or_false] at *
  omega
theorem pa_sp (n : Int) (h : paC n = true) : spC n = false := by
  unfold paC stC stL paL at h
  unfold spC
  simp only [inP] at h
  simp only [Bool.or_eq_true, Bool.and_eq_true, decide_eq_true_eq, Bool.false_eq_true, or_false] at h
  simp only [Bool.or_eq_false_iff, beq_eq_false_iff_ne]
  omega
theorem sp_is (n : Int) (h : spC n = true) : isC n = true := by
  unfold isC isL
  unfold spC at h
  simp only [inP]
  simp only [Bool.or_eq_true, Bool.and_eq_true, decide_eq_true_eq, Bool.false_eq_true, or_false, beq_iff_eq] at *
  omega
theorem st_pa (n : Int) (h : stC n = true) : paC n = true := by
  unfold paC
  rw [h, Bool.true_or]
theorem pa_range (n : Int) (h : paC n = true) : 45 ≤ n ∧ n ≤ 983039 ∧ ¬ (55296 ≤ n ∧ n ≤ 57343) := by
  unfold paC stC stL paL at h
  simp only [inP] at h
  simp only [Bool.or_eq_true, Bool.and_eq_true, decide_eq_true_eq, Bool.false_eq_true, or_false] at h
  omega

/-- a valid character's bytes are decoded as it, whole -/
theorem enc_one (c : Nat) (h : c < 128) : decodeL [UInt8.ofNat c] = (c, 1) := by
  rw [decodeL_N]
  have e0 : (UInt8.ofNat c).toNat = c := by rw [UInt8.toNat_ofNat']; omega
  simp only [List.getD_cons_zero, e0, decodeN, if_pos h]
theorem enc_two (c : Nat) (h1 : 128 ≤ c) (h2 : c < 2048) : decodeL [UInt8.ofNat (192 + c / 64), UInt8.ofNat (128 + c % 64)] = (c, 2) := by
  rw [decodeL_N]
  have e0 : (UInt8.ofNat (192 + c / 64)).toNat = 192 + c / 64 := by rw [UInt8.toNat_ofNat']; omega
  have e1 : (UInt8.ofNat (128 + c % 64)).toNat = 128 + c % 64 := by rw [UInt8.toNat_ofNat']; omega
  simp only [List.getD_cons_zero, List.getD_cons_succ, List.length_cons, List.length_nil, e0, e1, decodeN]
  rw [if_neg (by omega), if_pos (by omega), if_pos (by omega)]
  congr 1
  omega
theorem enc_three (c : Nat) (h1 : 2048 ≤ c) (h2 : c < 65536) (h3 : ¬ (55296 ≤ c ∧ c ≤ 57343)) :
    decodeL [UInt8.ofNat (224 + c / 4096), UInt8.ofNat (128 + c / 64 % 64), UInt8.ofNat (128 + c % 64)] = (c, 3) := by
  rw [decodeL_N]
  have e0 : (UInt8.ofNat (224 + c / 4096)).toNat = 224 + c / 4096 := by rw [UInt8.toNat_ofNat']; omega
  have e1 : (UInt8.ofNat (128 + c / 64 % 64)).toNat = 128 + c / 64 % 64 := by rw [UInt8.toNat_ofNat']; omega
  have e2 : (UInt8.ofNat (128 + c % 64)).toNat = 128 + c % 64 := by rw [UInt8.toNat_ofNat']; omega
  simp only [List.getD_cons_zero, List.getD_cons_succ, List.length_cons, List.length_nil, e0, e1, e2, decodeN]
  rw [if_neg (by omega), if_neg (by omega), if_pos (by omega), if_pos (by omega)]
  congr 1
  omega
theorem enc_four (c : Nat) (h1 : 65536 ≤ c) (h2 : c ≤ 1114111) :
    decodeL [UInt8.ofNat (240 + c / 262144), UInt8.ofNat (128 + c / 4096 % 64), UInt8.ofNat (128 + c / 64 % 64), UInt8.ofNat (128 + c % 64)] = (c, 4) := by
  rw [decodeL_N]
  have e0 : (UInt8.ofNat (240 + c / 262144)).toNat = 240 + c / 262144 := by rw [UInt8.toNat_ofNat']; omega
  have e1 : (UInt8.ofNat (128 + c / 4096 % 64)).toNat = 128 + c / 4096 % 64 := by rw [UInt8.toNat_ofNat']; omega
  have e2 : (UInt8.ofNat (128 + c / 64 % 64)).toNat = 128 + c / 64 % 64 := by rw [UInt8.toNat_ofNat']; omega
  have e3 : (UInt8.ofNat (128 + c % 64)).toNat = 128 + c % 64 := by rw [UInt8.toNat_ofNat']; omega
  simp only [List.getD_cons_zero, List.getD_cons_succ, List.length_cons, List.length_nil, e0, e1, e2, e3, decodeN]
  rw [if_neg (by omega), if_neg (by omega), if_neg (by omega), if_pos (by omega), if_pos (by omega)]
  congr 1
  omega
theorem enc_decodes (r : Int) (h0 : 0 ≤ r) (h1 : r ≤ 1114111) (h2 : ¬ (55296 ≤ r ∧ r ≤ 57343)) :
    (Utf8.encode r).data.toList ≠ [] ∧ (Utf8.encode r).data.toList.length ≤ 4 ∧ decodeL (Utf8.encode r).data.toList = (r.toNat, (Utf8.encode r).data.toList.length) ∧ ((Utf8.encode r).data.toList.length = 1 → r < 128) := by
  have hv : Utf8.valid r = true := by
    rw [validRune_eq, validRune]
    exact decide_eq_true (by omega)
  unfold Utf8.encode
  simp only [hv, if_true]
  by_cases c1 : r.toNat < 128
  · rw [if_pos c1]
    exact ⟨by simp, by simp, enc_one _ c1, fun _ => by omega⟩
  rw [if_neg c1]
  by_cases c2 : r.toNat < 2048
  · rw [if_pos c2]
    exact ⟨by simp, by simp, enc_two _ (by omega) c2, fun h => by simp at h⟩
  rw [if_neg c2]
  by_cases c3 : r.toNat < 65536
  · rw [if_pos c3]
    exact ⟨by simp, by simp, enc_three _ (by omega) c3 (by omega), fun h => by simp at h⟩
  rw [if_neg c3]
  exact ⟨by simp, by simp, enc_four _ (by omega) (by omega), fun h => by simp at h⟩

theorem size_list (s : ByteArray) : s.data.toList.length = s.size := by rw [Array.length_toList]; rfl
/-- a name with what may go on it behind it, if it is not too long -/
theorem nmD_more (s : ByteArray) (r : Int) (hs : nmD s = true) (hr : paC r = true) (hl : s.size ≤ 28) : nmD (s ++ Utf8.encode r) = true := by
  obtain ⟨r1, r2, r3⟩ := pa_range r hr
  obtain ⟨e1, e2, e3, e4⟩ := enc_decodes r (by omega) (by omega) r3
  generalize he : (Utf8.encode r).data.toList = e at e1 e2 e3 e4
  have hsz : (s ++ Utf8.encode r).size ≤ 32 := by
    rw [ByteArray.size_append, ← size_list (Utf8.encode r), he]; omega
  unfold nmD txD at hs ⊢
  rw [Bool.and_eq_true, Bool.and_eq_true, Bool.and_eq_true, Bool.and_eq_true, Bool.and_eq_true, decide_eq_true_eq, decide_eq_true_eq] at hs
  obtain ⟨⟨⟨p1, p2⟩, p3, p4⟩, p5, p6⟩ := hs
  have hne : s.data.toList ≠ [] := by
    intro h; have := size_list s; rw [h] at this; simp at this; omega
  have hve : validD e = true := by
    rw [validD_step e e1, if_neg (by rw [e3]; simp only; rintro ⟨h, h'⟩; have := e4 h'; omega), e3, List.drop_length]
    rfl
  have hae : ∀ p : Int → Bool, allR p e = p r := fun p => by
    rw [allR_step p e e1, e3, List.drop_length, allR_nil, Bool.and_true]
    congr 1
    simp only
    omega
  have hb : ¬ ((decodeL s.data.toList).1 = 65533 ∧ (decodeL s.data.toList).2 = 1) := by
    intro h
    rw [validD_step _ hne, if_pos h] at p3
    cases p3
  have hd : Utf8.decode (s ++ Utf8.encode r) 0 = Utf8.decode s 0 := by
    rw [decode_drop, decode_drop, List.drop_zero, List.drop_zero, cat_list, decodeL_more _ _ hne hb]
  rw [hd, cat_list, he, validD_more _ _ _ (Nat.le_refl _) p3, allR_more _ _ _ _ (Nat.le_refl _) p3, allR_more _ _ _ _ (Nat.le_refl _) p3, hve, hae, hae, p4, p5, p6, hr, pa_is r hr,
    decide_eq_true (show 0 < (s ++ Utf8.encode r).size by rw [ByteArray.size_append]; omega), decide_eq_true hsz]
  rfl
theorem combos : ∀ st pa is sp : Bool, (st = true → pa = true) → (pa = true → is = true) → (pa = true → sp = false) → (sp = true → is = true) →
    (st = true ∧ pa = true ∧ is = true ∧ sp = false) ∨ (st = false ∧ pa = true ∧ is = true ∧ sp = false) ∨
      (st = false ∧ pa = false ∧ is = true ∧ sp = true) ∨ (st = false ∧ pa = false ∧ is = true ∧ sp = false) ∨ (st = false ∧ pa = false ∧ is = false ∧ sp = false) := by decide

set_option maxHeartbeats 1000000 in
theorem within_law (r : Int) (s : ByteArray) (w : World) (hs : s.size ≤ 140737488351232) (hT : Tabs w) :
    Calls Tryd.prog 6 #[.int .i32 r, .string s] w fun e w' => e = .returned (.bool true) ∧ Below w.heap.size w w' := by
  have hSt : Ans w 12 #[.int .i32 r] (stC r) := Ans.mk fun W _ => start_any r W
  have hPa : Ans w 14 #[.int .i32 r] (paC r) := Ans.mk fun W _ => part_any r W
  have hIs : Ans w 8 #[.int .i32 r] (isC r) := Ans.mk fun W _ => is_any r W
  have hSp : Ans w 10 #[.int .i32 r] (spC r) := Ans.mk fun W _ => space_any r W
  have hNm : Ans w 21 #[.string s] (nmD s) := Ans.mk fun W h => name_any s W (by omega) (hT.on h)
  have hWk : Ans w 16 #[] true := Ans.mk fun W h => works_any W (hT.on h)
  have hMo : nmD s = true → paC r = true → s.size ≤ 28 → Ans w 21 #[.string (s ++ Utf8.encode r)] true := fun h1 h2 h3 => Ans.mk fun W h => by
    rw [← nmD_more s r h1 h2 h3]
    exact name_any _ W (by have := encode_size_le r; rw [ByteArray.size_append]; omega) (hT.on h)
  have k1 := st_pa r
  have k2 := pa_is r
  have k3 := pa_sp r
  have k4 := sp_is r
  have he := encode_size_le r
  generalize stC r = st at hSt k1
  generalize paC r = pa at hPa hMo k1 k2 k3
  generalize isC r = is at hIs k2 k4
  generalize spC r = sp at hSp k3 k4
  generalize nmD s = nm at hNm hMo
  have h0 := Below.refl w.heap.size w
  clear hT
  by_cases hm : nm = true ∧ pa = true ∧ s.size ≤ 28
  · obtain ⟨rfl, rfl, hl⟩ := hm
    have hM := hMo rfl rfl hl
    have hlz : ¬ (28 : Int) < (s.size : Int) := by omega
    obtain rfl := k2 rfl
    obtain rfl := k3 rfl
    clear hMo k1 k4 hl
    cases st
    all_goals
      go_enter Tryd.func6, Tryd.ntmps6
      go_wp2_with (first
        | ((with_reducible refine (hSt.at (by assumption)).mono ?_); rintro e w1 ⟨rfl, h1⟩)
        | ((with_reducible refine (hPa.at (by assumption)).mono ?_); rintro e w1 ⟨rfl, h1⟩)
        | ((with_reducible refine (hIs.at (by assumption)).mono ?_); rintro e w1 ⟨rfl, h1⟩)
        | ((with_reducible refine (hSp.at (by assumption)).mono ?_); rintro e w1 ⟨rfl, h1⟩)
        | ((with_reducible refine (hNm.at (by assumption)).mono ?_); rintro e w1 ⟨rfl, h1⟩)
        | ((with_reducible refine (hWk.at (by assumption)).mono ?_); rintro e w1 ⟨rfl, h1⟩)
        | ((with_reducible refine (hM.at (by assumption)).mono ?_); rintro e w1 ⟨rfl, h1⟩))
      go_ret
      exact ⟨rfl, by assumption⟩
  · clear hMo
    rcases combos st pa is sp k1 k2 k3 k4 with
      ⟨rfl, rfl, rfl, rfl⟩ | ⟨rfl, rfl, rfl, rfl⟩ | ⟨rfl, rfl, rfl, rfl⟩ | ⟨rfl, rfl, rfl, rfl⟩ | ⟨rfl, rfl, rfl, rfl⟩
    all_goals clear k1 k2 k3 k4
    all_goals cases nm
    all_goals try (have hlz : (28 : Int) < (s.size : Int) := by simp at hm; omega)
    all_goals clear hm
    all_goals
      go_enter Tryd.func6, Tryd.ntmps6
      go_wp2_with (first
        | ((with_reducible refine (hSt.at (by assumption)).mono ?_); rintro e w1 ⟨rfl, h1⟩)
        | ((with_reducible refine (hPa.at (by assumption)).mono ?_); rintro e w1 ⟨rfl, h1⟩)
        | ((with_reducible refine (hIs.at (by assumption)).mono ?_); rintro e w1 ⟨rfl, h1⟩)
        | ((with_reducible refine (hSp.at (by assumption)).mono ?_); rintro e w1 ⟨rfl, h1⟩)
        | ((with_reducible refine (hNm.at (by assumption)).mono ?_); rintro e w1 ⟨rfl, h1⟩)
        | ((with_reducible refine (hWk.at (by assumption)).mono ?_); rintro e w1 ⟨rfl, h1⟩))
      go_ret
      exact ⟨rfl, by assumption⟩
end Go.Proofs.YtaiglcjeikcboaaDoor.Char
