/- Changes in memory, in a slice that came in. -/
import Derived.Test.YtpimdmjhnogelaaRefFr
namespace Go.Proofs.Ytpimdmjhnogelaa.Char
open Go.RowKit Go.Lib

/-- a change, and the values of its record's slices -/
abbrev ChV := Int × RcV
def toCh (x : ChV) : Int × Rc := (x.1, x.2.1)
def ChAt (w : World) (g off : Nat) (x : ChV) : Prop := w.cell? ⟨g, off, none⟩ = some (.int .i64 x.1) ∧ RcAt w g (off + 1) x.2
theorem ChAt.cells {w : World} {g off : Nat} {x : ChV} (h : ChAt w g off x) : w.cell? ⟨g, off, none⟩ = some (.int .i64 x.1) ∧ w.cell? ⟨g, off + 1, none⟩ = some (.int .i64 x.2.1.kd) ∧ w.cell? ⟨g, off + 2, none⟩ = some (.string (bs x.2.1.nm)) ∧ w.cell? ⟨g, off + 3, none⟩ = some (.string (bs x.2.1.tx)) ∧
    w.cell? ⟨g, off + 4, none⟩ = some (.int .i64 x.2.1.pa) ∧ w.cell? ⟨g, off + 5, none⟩ = some x.2.2.1 ∧ w.cell? ⟨g, off + 6, none⟩ = some x.2.2.2 ∧ w.cell? ⟨g, off + 7, none⟩ = some (.bool x.2.1.gone) := h
theorem ChAt.move {w w' : World} {g off : Nat} (h : w'.heap[g]? = w.heap[g]?) {x : ChV} (hn : ChAt w g off x) : ChAt w' g off x := ⟨(World.cell?_of_block (w := w) h).trans hn.1, hn.2.move h⟩
/-- changes in a slice, in blocks of which F holds -/
def ChsOn (w : World) (F : Nat → Prop) (v : Value) (xs : List ChV) : Prop := (∃ o i j, v = .slice o i j ∧ i = xs.length ∧ (xs = [] ∨ ∃ g off, o = some ⟨g, off, none⟩ ∧ F g ∧ ∀ k (h : k < xs.length), ChAt w g (off + k * 8) xs[k])) ∧ ∀ x, x ∈ xs → RcOn w F x.2
theorem ChsOn.move {w w' : World} {F F' : Nat → Prop} (h : ∀ b, b < w.heap.size → F b → F' b ∧ w'.heap[b]? = w.heap[b]?) {v : Value} {xs : List ChV} (ha : ChsOn w F v xs) : ChsOn w' F' v xs := by
  obtain ⟨⟨o, i, j, e1, e2, e3⟩, e9⟩ := ha
  refine ⟨⟨o, i, j, e1, e2, ?_⟩, fun x hx => (e9 x hx).move h⟩
  rcases e3 with e3 | ⟨g, off, e4, e5, e6⟩
  · exact .inl e3
  · by_cases hq : xs = []
    · exact .inl hq
    · obtain ⟨k1, k2⟩ := h g (cell_lt (e6 0 (List.length_pos_iff.2 hq)).1) e5
      exact .inr ⟨g, off, e4, k1, fun k hk => (e6 k hk).move k2⟩
theorem ChsOn.reads {w : World} {F : Nat → Prop} {o : Option Addr} {i j : Nat} {xs : List ChV} (h : ChsOn w F (.slice o i j) xs) (k : Nat) (hk : k < xs.length) :
    ∃ g off, o = some ⟨g, off, none⟩ ∧ F g ∧ ChAt w g (off + k * 8) xs[k] ∧ RcOn w F xs[k].2 := by
  obtain ⟨⟨o', i', j', e1, e2, e3⟩, e9⟩ := h
  cases e1
  rcases e3 with e3 | ⟨g, off, e4, e5, e6⟩
  · rw [e3] at hk; cases hk
  · exact ⟨g, off, e4, e5, e6 k hk, e9 _ (List.getElem_mem hk)⟩
theorem ChsOn.form {w : World} {F : Nat → Prop} {v : Value} {xs : List ChV} (h : ChsOn w F v xs) : ∃ o j, v = .slice o xs.length j := by
  obtain ⟨⟨o, i, j, e1, e2, _⟩, _⟩ := h
  exact ⟨o, j, by rw [e1, e2]⟩
/-- what came in, below B: it stays -/
theorem ChsOn.below {B : Nat} {w w' : World} {v : Value} {xs : List ChV} (h : ChsOn w (fun g => g < B) v xs) (hb : Below B w w') : ChsOn w' (fun g => g < B) v xs := h.move fun k _ hk => ⟨hk, hb.block k hk⟩
theorem RcOn.low {B : Nat} {w w' : World} {x : RcV} (h : RcOn w (fun g => g < B) x) (hb : Below B w w') : RcOn w' (fun g => g < B) x := h.move fun k _ hk => ⟨hk, hb.block k hk⟩
/-- bad changes: round by round -/
theorem badC_step {gv : Nat} {cs : List ChV} {k : Nat} (h : k < cs.length) : badC gv ((cs.take k).map (·.1)) ((cs.drop k).map toCh) = ((decide (cs[k].1 < 1) || decide ((gv : Int) < cs[k].1) || !rightR cs[k].2.1 || ((cs.take k).map (·.1)).contains cs[k].1) || badC gv ((cs.take (k + 1)).map (·.1)) ((cs.drop (k + 1)).map toCh)) := by
  rw [List.drop_eq_getElem_cons h, List.map_cons, badC, List.take_succ_eq_append_getElem h, List.map_append]
  rfl
/-- what may be laid is no more than there are numbers -/
theorem ids_le : ∀ (g : Nat) (l : List Int), (∀ x, x ∈ l → 1 ≤ x ∧ x ≤ (g : Int)) → l.Pairwise (· ≠ ·) → l.length ≤ g
  | 0, [], _, _ => Nat.le_refl _
  | 0, x :: l, h, _ => by have := h x List.mem_cons_self; omega
  | g + 1, l, h, hp => by
    have h1 := ids_le g (l.filter fun x => decide (x ≠ ((g + 1 : Nat) : Int))) (fun x hx => by
      obtain ⟨a, b⟩ := List.mem_filter.1 hx
      have := h x a
      have hb := of_decide_eq_true b
      omega) (hp.sublist List.filter_sublist)
    have h2 : ∀ m : List Int, m.Pairwise (· ≠ ·) → m.length ≤ (m.filter fun x => decide (x ≠ ((g + 1 : Nat) : Int))).length + 1 := by
      intro m
      induction m with
      | nil => intro _; simp
      | cons x m ih =>
        intro hm
        obtain ⟨q1, q2⟩ := List.pairwise_cons.1 hm
        by_cases hx : x = ((g + 1 : Nat) : Int)
        · have e3 : (m.filter fun x => decide (x ≠ ((g + 1 : Nat) : Int))) = m := List.filter_eq_self.2 fun y hy => decide_eq_true (fun e : y = ((g + 1 : Nat) : Int) => q1 y hy (hx.trans e.symm))
          rw [List.filter_cons, if_neg (by simpa using hx), List.length_cons, e3]
          exact Nat.le_refl _
        · have := ih q2
          rw [List.filter_cons, if_pos (by simpa using hx), List.length_cons, List.length_cons]
          omega
    have := h2 l hp
    omega
theorem bad_len {gv : Nat} {cs : List (Int × Rc)} (h : badC gv [] cs = false) : cs.length ≤ gv := by
  obtain ⟨h1, h2⟩ := bad_no h
  have := ids_le gv (cs.map (·.1)) (fun x hx => by
    obtain ⟨c, hc, rfl⟩ := List.mem_map.1 hx
    exact ⟨(h1 c hc).1, (h1 c hc).2.1⟩) (List.pairwise_map.2 h2)
  simpa using this
end Go.Proofs.Ytpimdmjhnogelaa.Char
