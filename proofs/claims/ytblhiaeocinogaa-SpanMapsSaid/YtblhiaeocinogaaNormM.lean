/- Mathematics without a program: the words of a text with one blank between. -/
import Derived.Test.YtblhiaeocinogaaCuts
import Derived.Lib.FieldsP
import Derived.Lib.Join
namespace Go.Proofs.Ytblhiaeocinogaa.Char
open Go.Lib

/-- one byte more: what is told by now, and whether blanks were met behind it -/
def stepN (q : List UInt8 × Bool) (c : UInt8) : List UInt8 × Bool :=
  if spC (c.toNat : Int) then (q.1, true) else ((if q.2 = true ∧ q.1 ≠ [] then q.1 ++ [32] else q.1) ++ [c], false)
def normB (l : List UInt8) : List UInt8 := (l.foldl stepN ([], false)).1

theorem stepN_sp (o : List UInt8) (g : Bool) (c : UInt8) (h : spC (c.toNat : Int) = true) : stepN (o, g) c = (o, true) := by unfold stepN; rw [if_pos h]
theorem stepN_no (o : List UInt8) (g : Bool) (c : UInt8) (h : spC (c.toNat : Int) = false) : stepN (o, g) c = ((if g = true ∧ o ≠ [] then o ++ [32] else o) ++ [c], false) := by
  unfold stepN; rw [if_neg (by rw [h]; simp)]
theorem stepN_in (o : List UInt8) (c : UInt8) (h : spC (c.toNat : Int) = false) : stepN (o, false) c = (o ++ [c], false) := by rw [stepN_no o false c h, if_neg (by simp)]
/-- bytes none of which is a blank -/
theorem fold_in : ∀ (bs : List UInt8) (o : List UInt8), (∀ b ∈ bs, spC (b.toNat : Int) = false) → bs.foldl stepN (o, false) = (o ++ bs, false)
  | [], o, _ => by simp
  | b :: r, o, h => by
    rw [List.foldl_cons, stepN_in o b (h b (by simp)), fold_in r _ (fun x hx => h x (List.mem_cons_of_mem _ hx))]
    simp
theorem fold_word (bs : List UInt8) (o : List UInt8) (g : Bool) (hne : bs ≠ []) (h : ∀ b ∈ bs, spC (b.toNat : Int) = false) : bs.foldl stepN (o, g) = ((if g = true ∧ o ≠ [] then o ++ [32] else o) ++ bs, false) := by
  cases bs with
  | nil => exact absurd rfl hne
  | cons b r =>
    rw [List.foldl_cons, stepN_no o g b (h b (by simp)), fold_in r _ (fun x hx => h x (List.mem_cons_of_mem _ hx))]
    simp
/-- what is told stays as it is -/
theorem fold_same : ∀ (l : List UInt8) (q : List UInt8 × Bool), q.1.foldl stepN ([], false) = (q.1, false) → (l.foldl stepN q).1.foldl stepN ([], false) = ((l.foldl stepN q).1, false)
  | [], q, h => h
  | c :: r, (o, g), h => by
    rw [List.foldl_cons]
    refine fold_same r (stepN (o, g) c) ?_
    have h' : o.foldl stepN ([], false) = (o, false) := h
    by_cases hc : spC (c.toNat : Int) = true
    · rw [stepN_sp o g c hc]; exact h'
    · rw [Bool.not_eq_true] at hc
      rw [stepN_no o g c hc]
      by_cases hg : g = true ∧ o ≠ []
      · rw [if_pos hg]
        have h32 : spC ((32 : UInt8).toNat : Int) = true := by decide
        show (o ++ [32] ++ [c]).foldl stepN ([], false) = (o ++ [32] ++ [c], false)
        simp only [List.foldl_append, List.foldl_cons, List.foldl_nil, h', stepN_sp o false 32 h32]
        rw [stepN_no o true c hc, if_pos ⟨rfl, hg.2⟩]
      · rw [if_neg hg]
        show (o ++ [c]).foldl stepN ([], false) = (o ++ [c], false)
        rw [List.foldl_append, h', List.foldl_cons, List.foldl_nil, stepN_in o c hc]
theorem normB_twice (l : List UInt8) : normB (normB l) = normB l := by
  unfold normB
  rw [fold_same l ([], false) rfl]
theorem fold_length : ∀ (l : List UInt8) (q : List UInt8 × Bool), (l.foldl stepN q).1.length ≤ q.1.length + 2 * l.length
  | [], q => by simp
  | c :: r, q => by
    rw [List.foldl_cons]
    have h := fold_length r (stepN q c)
    have : (stepN q c).1.length ≤ q.1.length + 2 := by
      unfold stepN
      split
      · simp
      · split <;> simp
    rw [List.length_cons]
    omega
theorem normB_length (l : List UInt8) : (normB l).length ≤ 2 * l.length := by
  have := fold_length l ([], false)
  simpa [normB] using this

set_option maxRecDepth 100000 in
/-- a character is a blank, of one byte, or none of its bytes is one -/
theorem chr_sp (b : UInt8) (t : List UInt8) :
    (spC ((decodeL (b :: t)).1 : Int) = true ∧ (decodeL (b :: t)).2 = 1 ∧ spC (b.toNat : Int) = true) ∨
    (spC ((decodeL (b :: t)).1 : Int) = false ∧ ∀ c ∈ (b :: t).take (decodeL (b :: t)).2, spC (c.toNat : Int) = false) := by
  by_cases hb : b.toNat < 128
  · have e : decodeL (b :: t) = (b.toNat, 1) := by
      rw [decodeL_N]
      simp [decodeN, hb]
    rw [e]
    by_cases hs : spC (b.toNat : Int) = true
    · exact .inl ⟨hs, rfl, hs⟩
    · rw [Bool.not_eq_true] at hs
      exact .inr ⟨hs, fun c hc => by simp at hc; rw [hc]; exact hs⟩
  · refine .inr ⟨spC_high _ (by have := decodeL_high b t hb; omega), ?_⟩
    have hi : ∀ c : UInt8, 128 ≤ c.toNat → spC (c.toNat : Int) = false := fun c h => spC_high _ (by omega)
    rw [decodeL_N]
    intro c hc
    have hshape := decodeN_shape (b :: t).length ((b :: t).getD 0 0).toNat ((b :: t).getD 1 0).toNat ((b :: t).getD 2 0).toNat ((b :: t).getD 3 0).toNat
    generalize decodeN (b :: t).length ((b :: t).getD 0 0).toNat ((b :: t).getD 1 0).toNat ((b :: t).getD 2 0).toNat ((b :: t).getD 3 0).toNat = q at hshape hc
    rcases hshape with ⟨c1, e⟩ | ⟨c1, c2, c3, cv, e⟩ | ⟨c1, c2, c3, c4, cv, cs, e⟩ | ⟨c1, c2, c3, c4, c5, cv, cw, e⟩ | e
    · exact absurd c1 hb
    · rw [e] at hc
      clear e cv
      match t, c2, c3, hc with
      | x :: r, _, c3, hc =>
        simp at hc c3
        rcases hc with rfl | rfl
        · exact hi _ (by omega)
        · exact hi _ (by omega)
    · rw [e] at hc
      clear e cv cs
      match t, c2, c3, c4, hc with
      | x :: y :: r, _, c3, c4, hc =>
        simp at hc c3 c4
        rcases hc with rfl | rfl | rfl
        · exact hi _ (by omega)
        · exact hi _ (by omega)
        · exact hi _ (by omega)
    · rw [e] at hc
      clear e cv cw
      match t, c2, c3, c4, c5, hc with
      | x :: y :: z :: r, _, c3, c4, c5, hc =>
        simp at hc c3 c4 c5
        rcases hc with rfl | rfl | rfl | rfl
        · exact hi _ (by omega)
        · exact hi _ (by omega)
        · exact hi _ (by omega)
        · exact hi _ (by omega)
    · subst e
      dsimp only at hc
      simp only [List.take_succ_cons, List.take_zero, List.mem_singleton] at hc
      rw [hc]
      exact hi _ (by omega)

theorem join_snoc (xs : List (List UInt8)) (y : List UInt8) : join (xs ++ [y]) [32] = if xs = [] then y else join xs [32] ++ [32] ++ y := by
  cases xs with
  | nil => simp [join_one]
  | cons x r =>
    rw [if_neg (by simp), List.cons_append, join_cons, join_cons]
    simp [joinTail]
/-- the pieces -/
def pcs (s : ByteArray) (acc : List (Nat × Nat)) : List (List UInt8) := acc.map fun x => (s.extract x.1 x.2).data.toList
/-- how far both are, at one place -/
def Both (s : ByteArray) (pos : Nat) (acc : List (Nat × Nat)) (o : List UInt8) (g : Bool) : Option Nat → Prop
  | none => o = join (pcs s acc) [32] ∧ ((acc = [] ∧ o = []) ∨ (g = true ∧ o ≠ []))
  | some a => a < pos ∧ g = false ∧ o ≠ [] ∧ o = join (pcs s acc ++ [(s.extract a pos).data.toList]) [32]
theorem pcs_snoc (s : ByteArray) (acc : List (Nat × Nat)) (a b : Nat) : pcs s (acc ++ [(a, b)]) = pcs s acc ++ [(s.extract a b).data.toList] := by simp [pcs]
theorem pcs_nil {s : ByteArray} {acc : List (Nat × Nat)} : pcs s acc = [] ↔ acc = [] := by simp [pcs]
theorem ext_split (s : ByteArray) (a b c : Nat) (h1 : a ≤ b) (h2 : b ≤ c) (_ : c ≤ s.size) : (s.extract a c).data.toList = (s.extract a b).data.toList ++ (s.extract b c).data.toList := by
  rw [extract_list, extract_list, extract_list]
  have e : c - a = (b - a) + (c - b) := by omega
  rw [e, List.take_add, List.drop_drop]
  have e2 : a + (b - a) = b := by omega
  rw [e2]
theorem norm_spans (s : ByteArray) : ∀ (f pos : Nat) (st : Option Nat) (acc : List (Nat × Nat)) (o : List UInt8) (g : Bool), s.size ≤ pos + f → pos ≤ s.size → Both s pos acc o g st →
    join (pcs s (closeSpans s (spansFromP (fun x => spC (x : Int)) s f pos st acc))) [32] = ((s.data.toList.drop pos).foldl stepN (o, g)).1 := by
  have fin : ∀ (pos : Nat) (st : Option Nat) (acc : List (Nat × Nat)) (o : List UInt8) (g : Bool), pos = s.size → Both s pos acc o g st → join (pcs s (closeSpans s (acc, st))) [32] = ((s.data.toList.drop pos).foldl stepN (o, g)).1 := by
    intro pos st acc o g hp hb
    rw [drop_end s pos (by omega)]
    cases st with
    | none => exact hb.1.symm
    | some a =>
      show join (pcs s (acc ++ [(a, s.size)])) [32] = o
      rw [pcs_snoc, hb.2.2.2, hp]
  intro f
  induction f with
  | zero => exact fun pos st acc o g h1 h2 hb => fin pos st acc o g (by omega) hb
  | succ f ih =>
    intro pos st acc o g h1 h2 hb
    by_cases hp : pos < s.size
    · have hne := drop_ne s pos hp
      have hw := wid_pos s pos
      have hle := wid_le s pos hp
      have hwd := wid_drop s pos
      have hdl := List.take_append_drop (wid s pos) (s.data.toList.drop pos)
      rw [List.drop_drop] at hdl
      have hex : (s.extract pos (pos + wid s pos)).data.toList = (s.data.toList.drop pos).take (wid s pos) := by rw [extract_list, Nat.add_sub_cancel_left]
      rw [← hdl, List.foldl_append]
      have hch : (spC ((Utf8.decode s pos).1 : Int) = true ∧ wid s pos = 1 ∧ ∃ b, (s.data.toList.drop pos).take (wid s pos) = [b] ∧ spC (b.toNat : Int) = true) ∨
          (spC ((Utf8.decode s pos).1 : Int) = false ∧ ∀ c ∈ (s.data.toList.drop pos).take (wid s pos), spC (c.toNat : Int) = false) := by
        rw [decode_drop, hwd]
        cases hl : s.data.toList.drop pos with
        | nil => exact absurd hl hne
        | cons b t =>
          rcases chr_sp b t with ⟨c1, c2, c3⟩ | h
          · exact .inl ⟨c1, c2, b, by rw [c2]; rfl, c3⟩
          · exact .inr h
      have hbne : (s.data.toList.drop pos).take (wid s pos) ≠ [] := by
        intro h0
        have := congrArg List.length h0
        rw [List.length_take, List.length_drop, sz_list] at this
        simp at this
        omega
      unfold spansFromP
      rw [if_pos hp]
      have hwe : (Utf8.decode s pos).2 = wid s pos := rfl
      rw [hwe]
      generalize (Utf8.decode s pos).1 = rn at hch ⊢
      generalize wid s pos = W at *
      rcases hch with ⟨c1, c2, b, c3, c4⟩ | ⟨c1, c2⟩
      · rw [if_pos c1, c3, List.foldl_cons, List.foldl_nil, stepN_sp o g b c4]
        cases st with
        | none =>
          refine ih _ none acc o true (by omega) hle ⟨hb.1, ?_⟩
          rcases hb.2 with h | h
          · exact .inl h
          · exact .inr ⟨rfl, h.2⟩
        | some a =>
          obtain ⟨b1, b2, b3, b4⟩ := hb
          exact ih _ none (acc ++ [(a, pos)]) o true (by omega) hle ⟨by rw [pcs_snoc]; exact b4, .inr ⟨rfl, b3⟩⟩
      · rw [if_neg (by rw [c1]; simp), fold_word _ o g hbne c2, ← hex]
        rw [← hex] at hbne
        cases st with
        | none =>
          refine ih _ (some pos) acc _ false (by omega) hle ⟨by omega, rfl, fun h0 => hbne (List.append_eq_nil_iff.1 h0).2, ?_⟩
          rw [join_snoc]
          rcases hb.2 with ⟨h3, h4⟩ | ⟨h3, h4⟩
          · rw [if_pos (pcs_nil.2 h3), h4, if_neg (by simp)]
            rfl
          · have hacc : acc ≠ [] := by
              intro h0
              rw [h0] at hb
              exact h4 hb.1
            rw [if_neg (fun h0 => hacc (pcs_nil.1 h0)), if_pos ⟨h3, h4⟩, hb.1]
        | some a =>
          obtain ⟨b1, b2, b3, b4⟩ := hb
          subst b2
          rw [if_neg (by simp)]
          refine ih _ (some a) acc _ false (by omega) hle ⟨by omega, rfl, by simp [b3], ?_⟩
          rw [ext_split s a pos (pos + W) (by omega) (by omega) hle, b4, join_snoc, join_snoc]
          by_cases h0 : pcs s acc = []
          · rw [if_pos h0, if_pos h0]
          · rw [if_neg h0, if_neg h0, List.append_assoc, List.append_assoc]
    · rw [spansFromP_end _ s _ pos st acc hp]
      exact fin pos st acc o g (by omega) hb
/-- what the library's fields and their join tell is what the bytes tell -/
theorem norm_fields (s : ByteArray) : join ((goFieldsP (fun x => spC (x : Int)) s).map (·.data.toList)) [32] = normB s.data.toList := by
  have h := norm_spans s s.size 0 none [] [] false (by omega) (Nat.zero_le _) ⟨rfl, .inl ⟨rfl, rfl⟩⟩
  rw [List.drop_zero] at h
  unfold goFieldsP
  rw [List.map_map]
  exact h
end Go.Proofs.Ytblhiaeocinogaa.Char
