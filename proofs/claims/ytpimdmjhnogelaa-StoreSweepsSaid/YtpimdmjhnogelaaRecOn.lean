/- Records in memory: rows of numbers, and a record's seven cells. -/
import Derived.Test.YtpimdmjhnogelaaStoM
import Derived.Test.YtpimdmjhnogelaaBs
import Derived.Deep.QuietTactic
import Derived.BigQuiet
import Derived.RangeFuncRecord
namespace Go.Proofs.Ytpimdmjhnogelaa.Char
open Go.RowKit Go.Lib

/-- numbers in a slice, in blocks of which F holds -/
def IntsOn (w : World) (F : Nat → Prop) (v : Value) (zs : List Int) : Prop := ∃ o i j, v = .slice o i j ∧ i = zs.length ∧ (zs = [] ∨ ∃ g off, o = some ⟨g, off, none⟩ ∧ F g ∧
  ∀ k, k < zs.length → w.cell? ⟨g, off + k, none⟩ = some (.int .i64 (zs.getD k 0)))
theorem cell_lt {w : World} {a : Addr} {v : Value} (h : w.cell? a = some v) : a.block < w.heap.size := by
  unfold World.cell? at h
  split at h
  · rename_i hh; exact (Array.getElem?_eq_some_iff.1 hh).1
  · cases h
theorem IntsOn.move {w w' : World} {F F' : Nat → Prop} (h : ∀ b, b < w.heap.size → F b → F' b ∧ w'.heap[b]? = w.heap[b]?) {v : Value} {zs : List Int} (ha : IntsOn w F v zs) : IntsOn w' F' v zs := by
  obtain ⟨o, i, j, e1, e2, e3⟩ := ha
  refine ⟨o, i, j, e1, e2, ?_⟩
  rcases e3 with e3 | ⟨g, off, e4, e5, e6⟩
  · exact .inl e3
  · by_cases hq : zs = []
    · exact .inl hq
    · obtain ⟨k1, k2⟩ := h g (cell_lt (e6 0 (List.length_pos_iff.2 hq))) e5
      exact .inr ⟨g, off, e4, k1, fun k hk => (World.cell?_of_block (w := w) k2).trans (e6 k hk)⟩
theorem IntsOn.reads {w : World} {F : Nat → Prop} {o : Option Addr} {i j : Nat} {zs : List Int} (h : IntsOn w F (.slice o i j) zs) (k : Nat) (hk : k < zs.length) :
    ∃ g off, o = some ⟨g, off, none⟩ ∧ F g ∧ w.cell? ⟨g, off + k, none⟩ = some (.int .i64 zs[k]) := by
  obtain ⟨o', i', j', e1, e2, e3⟩ := h
  cases e1
  rcases e3 with e3 | ⟨g, off, e4, e5, e6⟩
  · rw [e3] at hk; cases hk
  · have := e6 k hk
    rw [List.getD_eq_getElem?_getD, List.getElem?_eq_getElem hk] at this
    exact ⟨g, off, e4, e5, this⟩
theorem IntsOn.form {w : World} {F : Nat → Prop} {v : Value} {zs : List Int} (h : IntsOn w F v zs) : ∃ o j, v = .slice o zs.length j := by
  obtain ⟨o, i, j, e1, e2, _⟩ := h
  exact ⟨o, j, by rw [e1, e2]⟩
theorem IntsOn.nil (w : World) (F : Nat → Prop) (o : Option Addr) (j : Nat) : IntsOn w F (.slice o 0 j) [] := ⟨o, 0, j, rfl, rfl, .inl rfl⟩

/-- a record, and the values that its two slices are -/
abbrev RcV := Rc × Value × Value
def rcC (x : RcV) : List Value := [.int .i64 x.1.kd, .string (bs x.1.nm), .string (bs x.1.tx), .int .i64 x.1.pa, x.2.1, x.2.2, .bool x.1.gone]
/-- a record as a value -/
def rcV (x : RcV) : Value := .agg #[.int .i64 x.1.kd, .string (bs x.1.nm), .string (bs x.1.tx), .int .i64 x.1.pa, x.2.1, x.2.2, .bool x.1.gone]
/-- its two slices, in blocks of which F holds -/
def RcOn (w : World) (F : Nat → Prop) (x : RcV) : Prop := IntsOn w F x.2.1 x.1.ks ∧ IntsOn w F x.2.2 x.1.ats
theorem RcOn.move {w w' : World} {F F' : Nat → Prop} (h : ∀ b, b < w.heap.size → F b → F' b ∧ w'.heap[b]? = w.heap[b]?) {x : RcV} (ha : RcOn w F x) : RcOn w' F' x := ⟨ha.1.move h, ha.2.move h⟩
theorem RcOn.below {w w' : World} {F : Nat → Prop} {x : RcV} (h : RcOn w F x) (hb : Below w.heap.size w w') : RcOn w' F x := h.move fun b hb0 hF => ⟨hF, hb.block b hb0⟩
/-- no record at all -/
def rc0 : Rc := ⟨0, [], [], 0, [], [], false⟩
def rcV0 : RcV := (rc0, .slice none 0 0, .slice none 0 0)
theorem RcOn.none (w : World) (F : Nat → Prop) : RcOn w F rcV0 := ⟨IntsOn.nil _ _ _ _, IntsOn.nil _ _ _ _⟩
deriving instance DecidableEq for Rc
theorem below_drewN (B : Nat) (w : World) (n : Nat) : Below B w (w.drewN n) := ⟨rfl, rfl, rfl, Nat.le_refl _, fun _ _ => rfl⟩
theorem take_eq_succ {α : Type} {a b : List α} {j : Nat} (ha : j < a.length) (hb : j < b.length) (h : a.take j = b.take j) (he : a[j] = b[j]) : a.take (j + 1) = b.take (j + 1) := by
  rw [List.take_succ_eq_append_getElem ha, List.take_succ_eq_append_getElem hb, h, he]
end Go.Proofs.Ytpimdmjhnogelaa.Char
