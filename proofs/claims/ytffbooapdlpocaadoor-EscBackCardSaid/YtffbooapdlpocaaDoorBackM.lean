/- Mathematics without a program: what was put is what it was. -/
import Derived.Test.YtffbooapdlpocaaDoorEscM
import Derived.Lib.MapLaws
namespace Go.Proofs.YtffbooapdlpocaaDoor.Char
open Go.Lib

theorem refL_of (a X : List UInt8) (n : Nat) (h : a.all noS = true) (hc : chL a = some n) : refL (a ++ 59 :: X) = some (n, X) := by
  have ht : ∀ a : List UInt8, a.all noS = true → (a ++ 59 :: X).takeWhile noS = a ∧ (a ++ 59 :: X).dropWhile noS = 59 :: X := by
    intro a
    induction a with
    | nil => intro _; exact ⟨by simp [noS], by simp [noS]⟩
    | cons x a ih =>
      intro h
      rw [List.all_cons, Bool.and_eq_true] at h
      obtain ⟨h1, h2⟩ := ih h.2
      simp [h.1, h1, h2]
  have hn : (a ++ 59 :: X).all noS = false := by
    rw [List.all_append, List.all_cons, show noS 59 = false from rfl]
    simp
  unfold refL
  rw [hn, (ht a h).1, (ht a h).2, hc]
  rfl
theorem stp_ref (attr : Bool) (a X : List UInt8) (n : Nat) (h : a.all noS = true) (hc : chL a = some n) : stp attr (38 :: (a ++ 59 :: X)) = .inr (encodeRune (n : Int), X) := by
  rw [stp_cons, if_neg (by decide), if_pos rfl, refL_of a X n h hc]
theorem stp_std (attr : Bool) (b : UInt8) (X : List UInt8) : stp attr (stdL attr b ++ X) = .inr ([b], X) := by
  by_cases h38 : b = 38
  · subst h38
    exact stp_ref attr [97, 109, 112] X 38 (by decide) (by decide)
  by_cases h60 : b = 60
  · subst h60
    exact stp_ref attr [108, 116] X 60 (by decide) (by decide)
  by_cases h13 : b = 13
  · subst h13
    exact stp_ref attr [35, 49, 51] X 13 (by decide) (by decide)
  unfold stdL
  rw [if_neg h38, if_neg h60, if_neg h13]
  by_cases h62 : b = 62 ∧ attr = false
  · rw [if_pos h62]
    obtain ⟨rfl, rfl⟩ := h62
    exact stp_ref false [103, 116] X 62 (by decide) (by decide)
  by_cases h34 : b = 34 ∧ attr = true
  · rw [if_neg h62, if_pos h34]
    obtain ⟨rfl, rfl⟩ := h34
    exact stp_ref true [113, 117, 111, 116] X 34 (by decide) (by decide)
  by_cases h9 : b = 9 ∧ attr = true
  · rw [if_neg h62, if_neg h34, if_pos h9]
    obtain ⟨rfl, rfl⟩ := h9
    exact stp_ref true [35, 57] X 9 (by decide) (by decide)
  by_cases h10 : b = 10 ∧ attr = true
  · rw [if_neg h62, if_neg h34, if_neg h9, if_pos h10]
    obtain ⟨rfl, rfl⟩ := h10
    exact stp_ref true [35, 49, 48] X 10 (by decide) (by decide)
  rw [if_neg h62, if_neg h34, if_neg h9, if_neg h10]
  show stp attr (b :: X) = _
  rw [stp_cons, if_neg h60, if_neg h38, if_neg h13, if_neg]
  rintro ⟨ha, hb | hb⟩
  · exact h9 ⟨hb, ha⟩
  · exact h10 ⟨hb, ha⟩
theorem get_put (attr : Bool) : ∀ (l acc : List UInt8), gL attr acc (putL attr l) = (acc ++ l, 0)
  | [], acc => by rw [putL_nil, gL_end acc rfl, List.append_nil]
  | b :: t, acc => by
    rw [putL_cons, gL_step acc (stp_std attr b (putL attr t)), get_put attr t, List.append_assoc]
    rfl

/-- right UTF-8, of characters alone -/
def txL (l : List UInt8) : Bool := validD l && allR isC l
theorem txL_step (l : List UInt8) (hne : l ≠ []) : txL l = if (decodeL l).1 = 65533 ∧ (decodeL l).2 = 1 then false else isC ((decodeL l).1 : Int) && txL (l.drop (decodeL l).2) := by
  unfold txL
  rw [validD_step l hne, allR_step isC l hne]
  split
  · rfl
  · cases isC ((decodeL l).1 : Int) <;> simp
theorem txL_ascii (b : UInt8) (t : List UInt8) (h : b.toNat < 128) : txL (b :: t) = (isC (b.toNat : Int) && txL t) := by
  rw [txL_step _ (by simp), decodeL_ascii b t h, if_neg (by rintro ⟨h1, _⟩; dsimp only at h1; omega)]
  rfl
/-- what is put begins with what goes on with a character just if what was put does -/
theorem put_front (attr : Bool) (t : List UInt8) : (t = [] ∧ putL attr t = []) ∨ (∃ c u, t = c :: u ∧ c.toNat / 64 = 2 ∧ putL attr t = c :: putL attr u) ∨
    (∃ c u c' u', t = c :: u ∧ c.toNat / 64 ≠ 2 ∧ putL attr t = c' :: u' ∧ c'.toNat / 64 ≠ 2) := by
  cases t with
  | nil => exact .inl ⟨rfl, rfl⟩
  | cons c u =>
    rw [putL_cons]
    by_cases hc : c.toNat / 64 = 2
    · refine .inr (.inl ⟨c, u, rfl, hc, ?_⟩)
      have e : stdL attr c = [c] := by
        unfold stdL
        rw [if_neg (by rintro rfl; revert hc; decide), if_neg (by rintro rfl; revert hc; decide), if_neg (by rintro rfl; revert hc; decide), if_neg (by rintro ⟨rfl, _⟩; revert hc; decide),
          if_neg (by rintro ⟨rfl, _⟩; revert hc; decide), if_neg (by rintro ⟨rfl, _⟩; revert hc; decide), if_neg (by rintro ⟨rfl, _⟩; revert hc; decide)]
      rw [e]; rfl
    · refine .inr (.inr ?_)
      have e : ∃ x r, stdL attr c = x :: r ∧ x.toNat / 64 ≠ 2 := by
        unfold stdL
        repeat' split
        all_goals first | exact ⟨_, _, rfl, hc⟩ | exact ⟨_, _, rfl, by decide⟩
      obtain ⟨x, r, e1, e2⟩ := e
      exact ⟨c, u, x, r ++ putL attr u, rfl, hc, by rw [e1]; rfl, e2⟩
theorem dec_same (n n' b0 b1 b2 b3 c1 c2 c3 : Nat) (h1 : (1 < n ∧ b1 / 64 = 2) ↔ (1 < n' ∧ c1 / 64 = 2)) (e1 : (1 < n ∧ b1 / 64 = 2) → b1 = c1)
    (h2 : (1 < n ∧ b1 / 64 = 2) → ((2 < n ∧ b2 / 64 = 2) ↔ (2 < n' ∧ c2 / 64 = 2))) (e2 : (1 < n ∧ b1 / 64 = 2) → (2 < n ∧ b2 / 64 = 2) → b2 = c2)
    (h3 : (1 < n ∧ b1 / 64 = 2) → (2 < n ∧ b2 / 64 = 2) → ((3 < n ∧ b3 / 64 = 2) ↔ (3 < n' ∧ c3 / 64 = 2))) (e3 : (1 < n ∧ b1 / 64 = 2) → (2 < n ∧ b2 / 64 = 2) → (3 < n ∧ b3 / 64 = 2) → b3 = c3) :
    decodeN n' b0 c1 c2 c3 = decodeN n b0 b1 b2 b3 := by
  by_cases a1 : 1 < n ∧ b1 / 64 = 2
  · have x1 := h1.1 a1
    obtain rfl := e1 a1
    by_cases a2 : 2 < n ∧ b2 / 64 = 2
    · have x2 := (h2 a1).1 a2
      obtain rfl := e2 a1 a2
      by_cases a3 : 3 < n ∧ b3 / 64 = 2
      · have x3 := (h3 a1 a2).1 a3
        obtain rfl := e3 a1 a2 a3
        simp only [decodeN, a1.1, a1.2, x1.1, a2.1, a2.2, x2.1, a3.1, a3.2, x3.1]
      · have x3 := mt (h3 a1 a2).2 a3
        simp only [decodeN, a1.1, a1.2, x1.1, a2.1, a2.2, x2.1, a3, x3, and_false, if_false]
    · have x2 := mt (h2 a1).2 a2
      simp only [decodeN, a1.1, a1.2, x1.1, a2, x2, and_false, false_and, if_false]
  · have x1 := mt h1.2 a1
    simp only [decodeN, a1, x1, and_false, false_and, if_false]
theorem put_decode (attr : Bool) (b : UInt8) (t : List UInt8) : decodeL (b :: putL attr t) = decodeL (b :: t) ∧ (128 ≤ b.toNat → (b :: putL attr t).drop (decodeL (b :: t)).2 = putL attr ((b :: t).drop (decodeL (b :: t)).2)) := by
  have hs := decodeN_shape (b :: t).length ((b :: t).getD 0 0).toNat ((b :: t).getD 1 0).toNat ((b :: t).getD 2 0).toNat ((b :: t).getD 3 0).toNat
  rw [← decodeL_N] at hs
  rw [decodeL_N (b :: putL attr t), decodeL_N (b :: t)]
  rw [decodeL_N (b :: t)] at hs
  rcases put_front attr t with ⟨rfl, e⟩ | ⟨c, u, rfl, hc, e⟩ | ⟨c, u, c', u', rfl, hc, e, hc'⟩
  · rw [e]
    refine ⟨rfl, fun hb => ?_⟩
    simp only [List.length_cons, List.length_nil, List.getD_cons_zero, List.getD_cons_succ, List.getD_nil] at hs ⊢
    rcases hs with ⟨_, h⟩ | ⟨_, h, _⟩ | ⟨_, h, _⟩ | ⟨_, h, _⟩ | h
    · rw [h]; rfl
    · omega
    · omega
    · omega
    · rw [h]; rfl
  · rcases put_front attr u with ⟨rfl, e2⟩ | ⟨c2, u2, rfl, hc2, e2⟩ | ⟨c2, u2, c2', u2', rfl, hc2, e2, hc2'⟩
    · rw [e, e2]
      refine ⟨rfl, fun hb => ?_⟩
      simp only [List.length_cons, List.length_nil, List.getD_cons_zero, List.getD_cons_succ, List.getD_nil] at hs ⊢
      rcases hs with ⟨_, h⟩ | ⟨_, _, _, _, h⟩ | ⟨_, h, _⟩ | ⟨_, h, _⟩ | h
      · rw [h]; exact e.symm
      · rw [h]; rfl
      · omega
      · omega
      · rw [h]; exact e.symm
    · rcases put_front attr u2 with ⟨rfl, e3⟩ | ⟨c3, u3, rfl, hc3, e3⟩ | ⟨c3, u3, c3', u3', rfl, hc3, e3, hc3'⟩
      · rw [e, e2, e3]
        refine ⟨rfl, fun hb => ?_⟩
        simp only [List.length_cons, List.length_nil, List.getD_cons_zero, List.getD_cons_succ, List.getD_nil] at hs ⊢
        rcases hs with ⟨_, h⟩ | ⟨_, _, _, _, h⟩ | ⟨_, _, _, _, _, _, h⟩ | ⟨_, h, _⟩ | h
        · rw [h]; exact (e.trans (congrArg (List.cons c) (e2.trans (congrArg (List.cons c2) e3)))).symm
        · rw [h]; exact (e2.trans (congrArg (List.cons c2) e3)).symm
        · rw [h]; rfl
        · omega
        · rw [h]; exact (e.trans (congrArg (List.cons c) (e2.trans (congrArg (List.cons c2) e3)))).symm
      · rw [e, e2, e3]
        refine ⟨?_, fun hb => ?_⟩
        · apply dec_same
          all_goals simp
        · rcases hs with ⟨_, h⟩ | ⟨_, _, _, _, h⟩ | ⟨_, _, _, _, _, _, h⟩ | ⟨_, _, _, _, _, _, _, h⟩ | h
          · rw [h]; exact (e.trans (congrArg (List.cons c) (e2.trans (congrArg (List.cons c2) e3)))).symm
          · rw [h]; exact (e2.trans (congrArg (List.cons c2) e3)).symm
          · rw [h]; exact e3.symm
          · rw [h]; rfl
          · rw [h]; exact (e.trans (congrArg (List.cons c) (e2.trans (congrArg (List.cons c2) e3)))).symm
      · rw [e, e2, e3]
        refine ⟨?_, fun hb => ?_⟩
        · apply dec_same
          all_goals simp [hc3, hc3']
        · rcases hs with ⟨_, h⟩ | ⟨_, _, _, _, h⟩ | ⟨_, _, _, _, _, _, h⟩ | ⟨_, _, _, _, h3, _⟩ | h
          · rw [h]; exact (e.trans (congrArg (List.cons c) (e2.trans (congrArg (List.cons c2) e3)))).symm
          · rw [h]; exact (e2.trans (congrArg (List.cons c2) e3)).symm
          · rw [h]; exact e3.symm
          · exact absurd h3 hc3
          · rw [h]; exact (e.trans (congrArg (List.cons c) (e2.trans (congrArg (List.cons c2) e3)))).symm
    · rw [e, e2]
      refine ⟨?_, fun hb => ?_⟩
      · apply dec_same
        all_goals simp [hc2, hc2']
      · rcases hs with ⟨_, h⟩ | ⟨_, _, _, _, h⟩ | ⟨_, _, _, h3, _⟩ | ⟨_, _, _, h3, _⟩ | h
        · rw [h]; exact (e.trans (congrArg (List.cons c) e2)).symm
        · rw [h]; exact e2.symm
        · exact absurd h3 hc2
        · exact absurd h3 hc2
        · rw [h]; exact (e.trans (congrArg (List.cons c) e2)).symm
  · rw [e]
    refine ⟨?_, fun hb => ?_⟩
    · apply dec_same
      all_goals simp [hc, hc']
    · rcases hs with ⟨_, h⟩ | ⟨_, _, h3, _⟩ | ⟨_, _, h3, _⟩ | ⟨_, _, h3, _⟩ | h
      · rw [h]; exact e.symm
      · exact absurd h3 hc
      · exact absurd h3 hc
      · exact absurd h3 hc
      · rw [h]; exact e.symm
theorem txL_list (l X : List UInt8) (h : l.all (fun b => decide (b.toNat < 128) && isC (b.toNat : Int)) = true) : txL (l ++ X) = txL X := by
  induction l with
  | nil => rfl
  | cons b t ih =>
    rw [List.all_cons, Bool.and_eq_true, Bool.and_eq_true, decide_eq_true_eq] at h
    rw [List.cons_append, txL_ascii b _ h.1.1, h.1.2, ih h.2]
    rfl
theorem txL_std (attr : Bool) (b : UInt8) (X : List UInt8) (hb : b.toNat < 128) : txL (stdL attr b ++ X) = (isC (b.toNat : Int) && txL X) := by
  unfold stdL
  repeat' split
  all_goals first
    | (rename_i h; subst h; rw [txL_list _ X (by decide)]; rw [show isC _ = true from by decide]; rfl)
    | (rename_i h; obtain ⟨rfl, _⟩ := h; rw [txL_list _ X (by decide)]; rw [show isC _ = true from by decide]; rfl)
    | exact txL_ascii b X hb
theorem stdL_high (attr : Bool) (b : UInt8) (hb : 128 ≤ b.toNat) : stdL attr b = [b] := by
  unfold stdL
  rw [if_neg (by rintro rfl; revert hb; decide), if_neg (by rintro rfl; revert hb; decide), if_neg (by rintro rfl; revert hb; decide), if_neg (by rintro ⟨rfl, _⟩; revert hb; decide),
    if_neg (by rintro ⟨rfl, _⟩; revert hb; decide), if_neg (by rintro ⟨rfl, _⟩; revert hb; decide), if_neg (by rintro ⟨rfl, _⟩; revert hb; decide)]
/-- what is put is of characters just if what was put is -/
theorem txL_put (attr : Bool) : ∀ (n : Nat) (l : List UInt8), l.length ≤ n → txL (putL attr l) = txL l
  | _, [], _ => rfl
  | 0, b :: t, h => by simp at h
  | n + 1, b :: t, h => by
    rw [List.length_cons] at h
    rw [putL_cons]
    by_cases hb : b.toNat < 128
    · rw [txL_std attr b _ hb, txL_ascii b t hb, txL_put attr n t (by omega)]
    · obtain ⟨h1, h2⟩ := put_decode attr b t
      have hw := decodeL_width (b :: t)
      rw [stdL_high attr b (by omega)]
      show txL (b :: putL attr t) = _
      rw [txL_step (b :: putL attr t) (by simp), h1, txL_step (b :: t) (by simp), h2 (by omega), txL_put attr n _ (by rw [List.length_drop, List.length_cons]; omega)]
end Go.Proofs.YtffbooapdlpocaaDoor.Char
