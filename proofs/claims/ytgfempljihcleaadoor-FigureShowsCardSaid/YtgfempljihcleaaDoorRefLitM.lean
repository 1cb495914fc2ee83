/- Mathematics without a program: the document's way of reading a literal, byte by byte, is that by its parts. -/
import Derived.Test.YtgfempljihcleaaDoorTold
namespace Go.Proofs.YtgfempljihcleaaDoor.Char

/-- the document's way: points, digits, digits behind the point, the digits that count -/
def litGo : List UInt8 → Nat → Nat → Nat → List Nat → Option Nm
  | [], p, m, b, acc => if 1 < p ∨ m = 0 then none else some (fitD (val (acc ++ List.replicate (6 - b) 0).reverse : Int))
  | c :: r, p, m, b, acc =>
    if ptB c = true then litGo r (p + 1) m b acc
    else if digB c = true then
      (let b' := if 0 < p then b + 1 else b
       litGo r p (m + 1) b' (if b' ≤ 6 then acc ++ [dval c] else acc))
    else none

theorem litGo_pt (c : UInt8) (r : List UInt8) (p m b : Nat) (acc : List Nat) (h : ptB c = true) : litGo (c :: r) p m b acc = litGo r (p + 1) m b acc := by
  show (if ptB c = true then _ else _) = _
  rw [if_pos h]
theorem litGo_bad (c : UInt8) (r : List UInt8) (p m b : Nat) (acc : List Nat) (h : ptB c = false) (h2 : digB c = false) : litGo (c :: r) p m b acc = none := by
  show (if ptB c = true then _ else if digB c = true then _ else _) = _
  rw [if_neg (by rw [h]; simp), if_neg (by rw [h2]; simp)]
theorem litGo_dig0 (c : UInt8) (r : List UInt8) (m b : Nat) (acc : List Nat) (h : digB c = true) (hb : b ≤ 6) : litGo (c :: r) 0 m b acc = litGo r 0 (m + 1) b (acc ++ [dval c]) := by
  show (if ptB c = true then _ else if digB c = true then _ else _) = _
  rw [if_neg (by rw [digB_not_pt h]; simp), if_pos h]
  show litGo r 0 (m + 1) (if 0 < 0 then b + 1 else b) (if (if 0 < 0 then b + 1 else b) ≤ 6 then acc ++ [dval c] else acc) = _
  rw [if_neg (Nat.lt_irrefl 0), if_pos hb]
theorem litGo_dig1 (c : UInt8) (r : List UInt8) (p m b : Nat) (acc : List Nat) (h : digB c = true) (hp : 0 < p) : litGo (c :: r) p m b acc = litGo r p (m + 1) (b + 1) (if b + 1 ≤ 6 then acc ++ [dval c] else acc) := by
  show (if ptB c = true then _ else if digB c = true then _ else _) = _
  rw [if_neg (by rw [digB_not_pt h]; simp), if_pos h]
  show litGo r p (m + 1) (if 0 < p then b + 1 else b) (if (if 0 < p then b + 1 else b) ≤ 6 then acc ++ [dval c] else acc) = _
  rw [if_pos hp]
theorem litGo_many : ∀ (l : List UInt8) (p m b : Nat) (acc : List Nat), 1 < p → litGo l p m b acc = none
  | [], p, m, b, acc, h => by
    show (if 1 < p ∨ m = 0 then _ else _) = _
    rw [if_pos (.inl h)]
  | c :: r, p, m, b, acc, h => by
    cases hp : ptB c with
    | true => rw [litGo_pt c r p m b acc hp]; exact litGo_many r _ _ _ _ (by omega)
    | false =>
      cases hd : digB c with
      | true => rw [litGo_dig1 c r p m b acc hd (by omega)]; exact litGo_many r _ _ _ _ h
      | false => exact litGo_bad c r p m b acc hp hd
theorem litGo_run0 : ∀ (w r : List UInt8) (m : Nat) (acc : List Nat), (∀ b ∈ w, digB b = true) → litGo (w ++ r) 0 m 0 acc = litGo r 0 (m + w.length) 0 (acc ++ w.map dval)
  | [], r, m, acc, _ => by simp
  | c :: w, r, m, acc, h => by
    rw [List.cons_append, litGo_dig0 c _ m 0 acc (h c (List.mem_cons_self ..)) (by omega), litGo_run0 w r (m + 1) _ (fun b hb => h b (List.mem_cons_of_mem _ hb)), List.length_cons, List.map_cons, List.append_assoc, show m + 1 + w.length = m + (w.length + 1) by omega]
    rfl
theorem litGo_run1 : ∀ (f r : List UInt8) (m b : Nat) (acc : List Nat), (∀ x ∈ f, digB x = true) → litGo (f ++ r) 1 m b acc = litGo r 1 (m + f.length) (b + f.length) (acc ++ (f.take (6 - b)).map dval)
  | [], r, m, b, acc, _ => by simp
  | c :: f, r, m, b, acc, h => by
    rw [List.cons_append, litGo_dig1 c _ 1 m b acc (h c (List.mem_cons_self ..)) (by omega), litGo_run1 f r (m + 1) (b + 1) _ (fun x hx => h x (List.mem_cons_of_mem _ hx)), List.length_cons,
      show m + 1 + f.length = m + (f.length + 1) by omega, show b + 1 + f.length = b + (f.length + 1) by omega]
    congr 1
    by_cases hb : b + 1 ≤ 6
    · rw [if_pos hb, show 6 - b = (6 - (b + 1)) + 1 by omega, List.take_succ_cons, List.map_cons, List.append_assoc]
      rfl
    · rw [if_neg hb, show 6 - b = 0 by omega, show 6 - (b + 1) = 0 by omega]
      rfl

theorem while_split (p : UInt8 → Bool) : ∀ l : List UInt8, l = l.takeWhile p ++ l.dropWhile p := fun l => (List.takeWhile_append_dropWhile (p := p) (l := l)).symm
theorem drop_head (p : UInt8 → Bool) : ∀ (l : List UInt8) (c : UInt8) (r : List UInt8), l.dropWhile p = c :: r → p c = false
  | [], c, r, h => by cases h
  | x :: l, c, r, h => by
    rw [List.dropWhile_cons] at h
    split at h
    · exact drop_head p l c r h
    · rename_i hx
      injection h with h1 h2
      rw [← h1]
      simpa using hx
theorem while_all (p : UInt8 → Bool) : ∀ l : List UInt8, ∀ b ∈ l.takeWhile p, p b = true
  | [], b, h => by cases h
  | x :: l, b, h => by
    rw [List.takeWhile_cons] at h
    split at h
    · rename_i hx
      rcases List.mem_cons.1 h with rfl | h
      · exact hx
      · exact while_all p l b h
    · cases h
theorem told_val (w f : List UInt8) : fitD (val ((w.map dval ++ (f.take 6).map dval) ++ List.replicate (6 - f.length) 0).reverse : Int) = toldD w f := by
  unfold toldD
  congr 2
  have e : allD w f = w ++ (f.take 6 ++ List.replicate (6 - f.length) (chr 0)) := by
    unfold allD
    rw [List.length_take]
    congr 3
    omega
  rw [e, ← decL_val, List.map_append, List.map_append, List.map_replicate, List.append_assoc]
  rfl

/-- byte by byte, and by its parts -/
theorem litGo_eq (l : List UInt8) : litGo l 0 0 0 [] = litL l := by
  have hl := while_split digB l
  have hw := while_all digB l
  unfold litL
  simp only
  generalize hr1 : l.dropWhile digB = r1 at *
  have hh := drop_head digB l
  rw [hr1] at hh
  generalize l.takeWhile digB = w at *
  rw [hl, litGo_run0 w r1 0 [] hw, Nat.zero_add, List.nil_append]
  match r1, hh with
  | [], _ =>
    show (if 1 < 0 ∨ w.length = 0 then none else some (fitD (val (w.map dval ++ List.replicate (6 - 0) 0).reverse : Int))) = if ([] : List UInt8) = [] ∧ ([] : List UInt8).length ≤ 1 ∧ ¬ (w = [] ∧ ([] : List UInt8) = []) then some (toldD w []) else none
    by_cases h0 : w = []
    · subst h0; rfl
    · have h1 : w.length ≠ 0 := fun h => h0 (List.eq_nil_of_length_eq_zero h)
      rw [if_neg (by omega), if_pos ⟨rfl, by simp, fun h => h0 h.1⟩, ← told_val]
      simp
  | c :: r, hh =>
    have hcd := hh c r rfl
    cases hp : ptB c with
    | false =>
      rw [litGo_bad c r _ _ _ _ hp hcd]
      have e1 : (c :: r).dropWhile ptB = c :: r := by rw [List.dropWhile_cons, if_neg (by rw [hp]; simp)]
      have e2 : (c :: r).dropWhile digB = c :: r := by rw [List.dropWhile_cons, if_neg (by rw [hcd]; simp)]
      rw [e1, e2, if_neg (fun h => by cases h.1)]
    | true =>
      rw [litGo_pt c r _ _ _ _ hp]
      have e1 : (c :: r).dropWhile ptB = r.dropWhile ptB := by rw [List.dropWhile_cons, if_pos hp]
      have e2 : (c :: r).takeWhile ptB = c :: r.takeWhile ptB := by rw [List.takeWhile_cons, if_pos hp]
      rw [e1, e2]
      by_cases hr : ∃ c' r', r = c' :: r' ∧ ptB c' = true
      · obtain ⟨c', r', rfl, hp'⟩ := hr
        rw [litGo_pt c' r' _ _ _ _ hp', litGo_many _ _ _ _ _ (by omega), List.takeWhile_cons, if_pos hp', if_neg (fun h => by simp at h)]
      · have e3 : r.dropWhile ptB = r ∧ r.takeWhile ptB = [] := by
          match r, hr with
          | [], _ => exact ⟨rfl, rfl⟩
          | c' :: r', hr =>
            have hn : ¬ ptB c' = true := fun h => hr ⟨c', r', rfl, h⟩
            exact ⟨by rw [List.dropWhile_cons, if_neg hn], by rw [List.takeWhile_cons, if_neg hn]⟩
        rw [e3.1, e3.2]
        have hrs := while_split digB r
        have hf := while_all digB r
        have hh2 := drop_head digB r
        generalize r.dropWhile digB = r3 at *
        generalize r.takeWhile digB = f at *
        have hg : litGo r (0 + 1) w.length 0 (w.map dval) = litGo r3 1 (w.length + f.length) (0 + f.length) (w.map dval ++ (f.take (6 - 0)).map dval) := by rw [hrs]; exact litGo_run1 f r3 _ 0 _ hf
        rw [hg]
        match r3, hh2 with
        | [], _ =>
          show (if 1 < 1 ∨ w.length + f.length = 0 then none else some (fitD (val ((w.map dval ++ (f.take 6).map dval) ++ List.replicate (6 - (0 + f.length)) 0).reverse : Int))) = _
          rw [Nat.zero_add, told_val]
          by_cases h0 : w = [] ∧ f = []
          · rw [h0.1, h0.2]; rfl
          · have h1 : w.length + f.length ≠ 0 := fun h => h0 ⟨List.eq_nil_of_length_eq_zero (by omega), List.eq_nil_of_length_eq_zero (by omega)⟩
            rw [if_neg (by omega), if_pos ⟨rfl, by simp, h0⟩]
        | c3 :: r4, hh2 =>
          have hd3 := hh2 c3 r4 rfl
          rw [if_neg (fun h => by cases h.1)]
          cases hp3 : ptB c3 with
          | true => rw [litGo_pt c3 r4 _ _ _ _ hp3]; exact litGo_many _ _ _ _ _ (by omega)
          | false => exact litGo_bad c3 r4 _ _ _ _ hp3 hd3
end Go.Proofs.YtgfempljihcleaaDoor.Char
