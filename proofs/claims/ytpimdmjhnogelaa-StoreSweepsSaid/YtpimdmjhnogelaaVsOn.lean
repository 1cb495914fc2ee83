/- Versions in memory, in a slice. -/
import Derived.Test.YtpimdmjhnogelaaRecOn
namespace Go.Proofs.Ytpimdmjhnogelaa.Char
open Go.RowKit Go.Lib

/-- the cells of a record in memory -/
def RcAt (w : World) (g off : Nat) (x : RcV) : Prop :=
  w.cell? ⟨g, off, none⟩ = some (.int .i64 x.1.kd) ∧ w.cell? ⟨g, off + 1, none⟩ = some (.string (bs x.1.nm)) ∧ w.cell? ⟨g, off + 2, none⟩ = some (.string (bs x.1.tx)) ∧ w.cell? ⟨g, off + 3, none⟩ = some (.int .i64 x.1.pa) ∧
    w.cell? ⟨g, off + 4, none⟩ = some x.2.1 ∧ w.cell? ⟨g, off + 5, none⟩ = some x.2.2 ∧ w.cell? ⟨g, off + 6, none⟩ = some (.bool x.1.gone)
theorem RcAt.move {w w' : World} {g off : Nat} (h : w'.heap[g]? = w.heap[g]?) {x : RcV} (hn : RcAt w g off x) : RcAt w' g off x := by
  obtain ⟨h0, h1, h2, h3, h4, h5, h6⟩ := hn
  have mv : ∀ k v, w.cell? ⟨g, k, none⟩ = some v → w'.cell? ⟨g, k, none⟩ = some v := fun k v hv => (World.cell?_of_block (w := w) h).trans hv
  exact ⟨mv _ _ h0, mv _ _ h1, mv _ _ h2, mv _ _ h3, mv _ _ h4, mv _ _ h5, mv _ _ h6⟩
theorem RcOn.form {w : World} {F : Nat → Prop} {x : RcV} (h : RcOn w F x) : ∃ ok jk oa ja, x.2.1 = .slice ok x.1.ks.length jk ∧ x.2.2 = .slice oa x.1.ats.length ja := by
  obtain ⟨ok, jk, e1⟩ := h.1.form
  obtain ⟨oa, ja, e2⟩ := h.2.form
  exact ⟨ok, jk, oa, ja, e1, e2⟩
/-- a version, and the values of its record's slices -/
abbrev VeV := Nat × RcV
def toVe (x : VeV) : Ve := ⟨x.1, x.2.1⟩
def veC (x : VeV) : List Value := .int .u64 (x.1 : Int) :: rcC x.2
def vesC (xs : List VeV) : List Value := xs.flatMap veC
theorem vesC_len (xs : List VeV) : (vesC xs).length = xs.length * 8 := by
  induction xs with
  | nil => rfl
  | cons x r ih =>
    show (veC x ++ vesC r).length = _
    rw [List.length_append, ih, List.length_cons]
    show 8 + _ = _
    omega
theorem vesC_snoc (xs : List VeV) (x : VeV) : vesC (xs ++ [x]) = vesC xs ++ veC x := by simp [vesC]
theorem vesC_at : ∀ (xs : List VeV) (k i : Nat) (h : k < xs.length) (_ : i < 8), (vesC xs)[k * 8 + i]? = (veC xs[k])[i]?
  | [], k, _, h, _ => by simp at h
  | x :: r, 0, i, _, hi => by
    show (veC x ++ vesC r)[0 * 8 + i]? = _
    rw [show 0 * 8 + i = i by omega, List.getElem?_append_left (by show i < 8; exact hi)]
    rfl
  | x :: r, k + 1, i, h, hi => by
    have ih := vesC_at r k i (by simpa using h) hi
    show (veC x ++ vesC r)[(k + 1) * 8 + i]? = _
    rw [List.getElem?_append_right (by show 8 ≤ _; omega), show (k + 1) * 8 + i - (veC x).length = k * 8 + i by show (k + 1) * 8 + i - 8 = _; omega, ih]
    rfl
def VeAt (w : World) (g off : Nat) (x : VeV) : Prop := w.cell? ⟨g, off, none⟩ = some (.int .u64 (x.1 : Int)) ∧ RcAt w g (off + 1) x.2
theorem VeAt.cells {w : World} {g off : Nat} {x : VeV} (h : VeAt w g off x) : w.cell? ⟨g, off, none⟩ = some (.int .u64 (x.1 : Int)) ∧ w.cell? ⟨g, off + 1, none⟩ = some (.int .i64 x.2.1.kd) ∧ w.cell? ⟨g, off + 2, none⟩ = some (.string (bs x.2.1.nm)) ∧ w.cell? ⟨g, off + 3, none⟩ = some (.string (bs x.2.1.tx)) ∧
    w.cell? ⟨g, off + 4, none⟩ = some (.int .i64 x.2.1.pa) ∧ w.cell? ⟨g, off + 5, none⟩ = some x.2.2.1 ∧ w.cell? ⟨g, off + 6, none⟩ = some x.2.2.2 ∧ w.cell? ⟨g, off + 7, none⟩ = some (.bool x.2.1.gone) := h
theorem VeAt.move {w w' : World} {g off : Nat} (h : w'.heap[g]? = w.heap[g]?) {x : VeV} (hn : VeAt w g off x) : VeAt w' g off x := ⟨(World.cell?_of_block (w := w) h).trans hn.1, hn.2.move h⟩
/-- versions in a slice, in blocks of which F holds -/
def VsOn (w : World) (F : Nat → Prop) (v : Value) (xs : List VeV) : Prop := (∃ o i j, v = .slice o i j ∧ i = xs.length ∧ (xs = [] ∨ ∃ g off, o = some ⟨g, off, none⟩ ∧ F g ∧ ∀ k (h : k < xs.length), VeAt w g (off + k * 8) xs[k])) ∧ ∀ x, x ∈ xs → RcOn w F x.2
theorem VsOn.move {w w' : World} {F F' : Nat → Prop} (h : ∀ b, b < w.heap.size → F b → F' b ∧ w'.heap[b]? = w.heap[b]?) {v : Value} {xs : List VeV} (ha : VsOn w F v xs) : VsOn w' F' v xs := by
  obtain ⟨⟨o, i, j, e1, e2, e3⟩, e9⟩ := ha
  refine ⟨⟨o, i, j, e1, e2, ?_⟩, fun x hx => (e9 x hx).move h⟩
  rcases e3 with e3 | ⟨g, off, e4, e5, e6⟩
  · exact .inl e3
  · by_cases hq : xs = []
    · exact .inl hq
    · obtain ⟨k1, k2⟩ := h g (cell_lt (e6 0 (List.length_pos_iff.2 hq)).1) e5
      exact .inr ⟨g, off, e4, k1, fun k hk => (e6 k hk).move k2⟩
theorem VsOn.below {w w' : World} {F : Nat → Prop} {v : Value} {xs : List VeV} (h : VsOn w F v xs) (hb : Below w.heap.size w w') : VsOn w' F v xs := h.move fun b hb0 hF => ⟨hF, hb.block b hb0⟩
theorem VsOn.reads {w : World} {F : Nat → Prop} {o : Option Addr} {i j : Nat} {xs : List VeV} (h : VsOn w F (.slice o i j) xs) (k : Nat) (hk : k < xs.length) :
    ∃ g off, o = some ⟨g, off, none⟩ ∧ F g ∧ VeAt w g (off + k * 8) xs[k] ∧ RcOn w F xs[k].2 := by
  obtain ⟨⟨o', i', j', e1, e2, e3⟩, e9⟩ := h
  cases e1
  rcases e3 with e3 | ⟨g, off, e4, e5, e6⟩
  · rw [e3] at hk; cases hk
  · exact ⟨g, off, e4, e5, e6 k hk, e9 _ (List.getElem_mem hk)⟩
theorem VsOn.form {w : World} {F : Nat → Prop} {v : Value} {xs : List VeV} (h : VsOn w F v xs) : ∃ o j, v = .slice o xs.length j := by
  obtain ⟨⟨o, i, j, e1, e2, _⟩, _⟩ := h
  exact ⟨o, j, by rw [e1, e2]⟩
theorem VsOn.nil (w : World) (F : Nat → Prop) (o : Option Addr) (j : Nat) : VsOn w F (.slice o 0 j) [] := ⟨⟨o, 0, j, rfl, rfl, .inl rfl⟩, fun _ h => by cases h⟩
/-- no row of numbers is longer than this -/
def RcSm (r : Rc) : Prop := r.ks.length ≤ 2 ^ 44 ∧ r.ats.length ≤ 2 ^ 44
end Go.Proofs.Ytpimdmjhnogelaa.Char
