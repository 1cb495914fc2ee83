/- What becomes of characters: what a map from texts holds, as mathematics and as memory. -/
import Derived.Test.YtblhiaeocinogaaSeq
import Derived.Test.YtblhiaeocinogaaRefCrs
import Derived.Maps.OwnIn
import Derived.Maps.AppendAt
import Derived.StringKeys
namespace Go.Proofs.Ytblhiaeocinogaa.Char
open Go.RowKit Go.Shelf
open Go.Maps (Keyed)

/-- what becomes of the character with a number: the other one at that place, or nothing -/
def heir (h : List ByteArray) (k : Nat) : ByteArray := if k < h.length then h.getD k ⟨#[]⟩ else ⟨#[]⟩
/-- .. of the bytes of a character: what becomes of the first one that has them -/
def fateL (h : List ByteArray) (pre : List Ch) (b : List UInt8) : Option ByteArray := (pre.find? (fun x => x.1.2.data.toList == b)).map fun x => heir h x.1.1
/-- how an element reads -/
def fateR : Value → Option (DataW Unit × List MemPlace)
  | .agg cs => match cs.toList with
    | [.string s] => some (.lit (.string s.data.toList), [])
    | _ => none
  | _ => none
theorem fateR_mk (s : ByteArray) : fateR (.agg #[.string s]) = some (.lit (.string s.data.toList), []) := rfl
theorem fateR_inv {v : Value} {z : DataW Unit × List MemPlace} (h : fateR v = some z) : ∃ s : ByteArray, v = .agg #[.string s] ∧ z = (.lit (.string s.data.toList), []) := by
  unfold fateR at h
  split at h
  · rename_i cs
    split at h
    · rename_i s hs
      refine ⟨s, ?_, (Option.some.inj h).symm⟩
      congr 1
      exact Array.toList_inj.1 hs
    · cases h
  · cases h
/-- a datum tells the fates -/
def Fates (D : DataW Unit) (h : List ByteArray) (pre : List Ch) : Prop :=
  ∀ b, Maps.has D (.string b) = (fateL h pre b).isSome ∧ ∀ f, fateL h pre b = some f → ∀ z, D.atKey (.string b) z = .lit (.string f.data.toList)
theorem fates_nil (h : List ByteArray) : Fates (.map []) h [] := fun b => ⟨rfl, fun f hf => by cases hf⟩
theorem fateL_old (h : List ByteArray) (pre : List Ch) (x : Ch) (b : List UInt8) (ho : (fateL h pre x.1.2.data.toList).isSome = true) : fateL h (pre ++ [x]) b = fateL h pre b := by
  unfold fateL at *
  rw [List.find?_append]
  cases hb : pre.find? (fun y => y.1.2.data.toList == b) with
  | some y => rfl
  | none =>
    have : (x.1.2.data.toList == b) = false := by
      rw [beq_eq_false_iff_ne]
      intro e
      rw [e, hb] at ho
      simp at ho
    simp [this]
theorem fateL_new (h : List ByteArray) (pre : List Ch) (x : Ch) (b : List UInt8) (ho : (fateL h pre x.1.2.data.toList).isSome = false) : fateL h (pre ++ [x]) b = if b = x.1.2.data.toList then some (heir h x.1.1) else fateL h pre b := by
  unfold fateL at *
  rw [List.find?_append]
  by_cases e : b = x.1.2.data.toList
  · subst e
    have hn : pre.find? (fun y => y.1.2.data.toList == x.1.2.data.toList) = none := by
      cases hb : pre.find? (fun y => y.1.2.data.toList == x.1.2.data.toList) with
      | none => rfl
      | some y => rw [hb] at ho; simp at ho
    rw [hn]
    simp
  · have : (x.1.2.data.toList == b) = false := by
      rw [beq_eq_false_iff_ne]
      exact fun e' => e e'.symm
    rw [if_neg e]
    simp [this]
theorem fates_old {D : DataW Unit} {h : List ByteArray} {pre : List Ch} (hF : Fates D h pre) (x : Ch) (ho : Maps.has D (.string x.1.2.data.toList) = true) : Fates D h (pre ++ [x]) := by
  have h1 := (hF x.1.2.data.toList).1
  rw [ho] at h1
  intro b
  rw [fateL_old h pre x b h1.symm]
  exact hF b
theorem fates_new {D : DataW Unit} {h : List ByteArray} {pre : List Ch} (hF : Fates D h pre) (hD : Maps.IsMap D) (x : Ch) (ho : Maps.has D (.string x.1.2.data.toList) = false) :
    Fates (D.put (.string x.1.2.data.toList) (.lit (.string (heir h x.1.1).data.toList))) h (pre ++ [x]) := by
  have h1 := (hF x.1.2.data.toList).1
  rw [ho] at h1
  intro b
  rw [fateL_new h pre x b h1.symm]
  by_cases e : b = x.1.2.data.toList
  · subst e
    rw [if_pos rfl]
    exact ⟨Maps.has_put_same hD (show WideAt.IsKeyLit (.string _) from trivial) _, fun f hf z => by rw [Maps.atKey_put_same hD (show WideAt.IsKeyLit (.string _) from trivial)]; cases hf; rfl⟩
  · rw [if_neg e]
    have hne : Lit.string b ≠ Lit.string x.1.2.data.toList := fun e' => e (by cases e'; rfl)
    rw [Maps.has_put_other hne]
    exact ⟨(hF b).1, fun f hf z => by rw [Maps.atKey_put_other hne]; exact (hF b).2 f hf z⟩

theorem key_ch (x : Ch) : keyOf Try.prog 9 (.string x.1.2) = some (.string x.1.2.data.toList) := WideMaps.keyOf_string_mk Try.underlying9 (by have := x.2.2; unfold maxLen; omega)

/-- v, ok := m[k], of a map of fates -/
theorem look_fate {F : Fence} {nF : Nat} (w : World) {ops : Array Oper} {rest : List Oper} {o : Oper} {a : Act} {Q : Exit → Act → World → Prop}
    (hg : o.guard = none) (m x : Operand) (hop : o.op = Op.lookup 54 m x true) (b n : Nat) (D : DataW Unit)
    (hm : a.eval m = .map (some b)) (hown : w.ownsMap Try.prog 9 fateR b n D) (c : Ch) (hx : a.eval x = .string c.1.2)
    (hK : ∀ f : ByteArray, D.atKey (.string c.1.2.data.toList) (.lit (.string [])) = .lit (.string f.data.toList) → wpListIn F nF Try.prog ops Q rest (a.put o.dst (.tuple #[.agg #[.string f], .bool (Maps.has D (.string c.1.2.data.toList))])) w) :
    wpListIn F nF Try.prog ops Q (o :: rest) a w := by
  refine wpListIn_lookup_own_ok w hg m x 54 hop 9 57 (Maps.string_keyed Try.underlying9) Try.underlying54 fateR (Try.zeroValue57 w) (.lit (.string [])) [] rfl b n D hm hown _ _ hx (key_ch c) ?_
  intro v ps hv
  obtain ⟨s, rfl, hz⟩ := fateR_inv hv
  exact hK s (congrArg Prod.fst hz)
end Go.Proofs.Ytblhiaeocinogaa.Char
