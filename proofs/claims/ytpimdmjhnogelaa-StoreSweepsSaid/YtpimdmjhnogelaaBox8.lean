/- A struct of eight cells in a box (a version, a change): its cells, a store of a whole one; one version more behind a row, in a region that draws its order. -/
import Derived.Test.YtpimdmjhnogelaaCopied9
import Derived.Test.YtpimdmjhnogelaaPushVe
namespace Go.Proofs.Ytpimdmjhnogelaa.Char
open Go.RowKit Go.Lib

def vB (T : TypeId) (u : Value) (x : RcV) : Obj := .cells #[u, .int .i64 x.1.kd, .string (bs x.1.nm), .string (bs x.1.tx), .int .i64 x.1.pa, x.2.1, x.2.2, .bool x.1.gone] T
theorem vB_blk {w : World} {b : Nat} {T : TypeId} {u : Value} {x : RcV} (h : w.heap[b]? = some (vB T u x)) :
    (w.cell? ⟨b, 0, none⟩ = some u ∧ w.cell? ⟨b, 1, none⟩ = some (.int .i64 x.1.kd) ∧ w.cell? ⟨b, 2, none⟩ = some (.string (bs x.1.nm)) ∧ w.cell? ⟨b, 3, none⟩ = some (.string (bs x.1.tx)) ∧ w.cell? ⟨b, 4, none⟩ = some (.int .i64 x.1.pa) ∧ w.cell? ⟨b, 5, none⟩ = some x.2.1 ∧ w.cell? ⟨b, 6, none⟩ = some x.2.2 ∧ w.cell? ⟨b, 7, none⟩ = some (.bool x.1.gone)) ∧ ∀ i, w.frozen? ⟨b, i, none⟩ = false := by
  unfold vB at h
  exact ⟨⟨by simp [World.cell?, h], by simp [World.cell?, h], by simp [World.cell?, h], by simp [World.cell?, h], by simp [World.cell?, h], by simp [World.cell?, h], by simp [World.cell?, h], by simp [World.cell?, h]⟩, fun i => by simp [World.frozen?, h]⟩
/-- a store of a whole one -/
def set8 (w : World) (b : Nat) (u : Value) (x : RcV) : World :=
  (((((((w.setCell ⟨b, 0, none⟩ u).setCell ⟨b, 1, none⟩ (.int .i64 x.1.kd)).setCell ⟨b, 2, none⟩ (.string (bs x.1.nm))).setCell ⟨b, 3, none⟩ (.string (bs x.1.tx))).setCell ⟨b, 4, none⟩ (.int .i64 x.1.pa)).setCell ⟨b, 5, none⟩ x.2.1).setCell ⟨b, 6, none⟩ x.2.2).setCell ⟨b, 7, none⟩ (.bool x.1.gone)
theorem set8_at {w : World} {b : Nat} {T : TypeId} {u v : Value} {x y : RcV} (h : w.heap[b]? = some (vB T v y)) : (set8 w b u x).heap[b]? = some (vB T u x) := by
  unfold set8
  unfold vB at h ⊢
  have h0 := heap_set_at (i := 0) (u := u) h
  have h1 := heap_set_at (i := 1) (u := .int .i64 x.1.kd) h0
  have h2 := heap_set_at (i := 2) (u := .string (bs x.1.nm)) h1
  have h3 := heap_set_at (i := 3) (u := .string (bs x.1.tx)) h2
  have h4 := heap_set_at (i := 4) (u := .int .i64 x.1.pa) h3
  have h5 := heap_set_at (i := 5) (u := x.2.1) h4
  have h6 := heap_set_at (i := 6) (u := x.2.2) h5
  have h7 := heap_set_at (i := 7) (u := .bool x.1.gone) h6
  exact h7.trans (by simp)
theorem set8_ne {w : World} {b k : Nat} {u : Value} {x : RcV} (h : k ≠ b) : (set8 w b u x).heap[k]? = w.heap[k]? := by
  unfold set8
  rw [heap_set_ne (a := ⟨b, 7, none⟩) h, heap_set_ne (a := ⟨b, 6, none⟩) h, heap_set_ne (a := ⟨b, 5, none⟩) h, heap_set_ne (a := ⟨b, 4, none⟩) h, heap_set_ne (a := ⟨b, 3, none⟩) h, heap_set_ne (a := ⟨b, 2, none⟩) h, heap_set_ne (a := ⟨b, 1, none⟩) h, heap_set_ne (a := ⟨b, 0, none⟩) h]
theorem set8_size {w : World} {b : Nat} {u : Value} {x : RcV} : (set8 w b u x).heap.size = w.heap.size := by simp [set8]
theorem set8_below {B b : Nat} {w w' : World} {u : Value} {x : RcV} (h : Below B w w') (hb : B ≤ b) : Below B w (set8 w' b u x) :=
  (((((((h.setCell (p := ⟨b, 0, none⟩) hb _).setCell (p := ⟨b, 1, none⟩) hb _).setCell (p := ⟨b, 2, none⟩) hb _).setCell (p := ⟨b, 3, none⟩) hb _).setCell (p := ⟨b, 4, none⟩) hb _).setCell (p := ⟨b, 5, none⟩) hb _).setCell (p := ⟨b, 6, none⟩) hb _).setCell (p := ⟨b, 7, none⟩) hb _
/-- a loop's variable in its box -/
def box8 (w : World) (T : TypeId) (z u : Value) (x : RcV) : World := set8 (w.alloc (vB T z rcV0)) w.heap.size u x
theorem box8_at {w : World} {T : TypeId} {z u : Value} {x : RcV} : (box8 w T z u x).heap[w.heap.size]? = some (vB T u x) := set8_at (World.alloc_heap_new w _)
theorem box8_below {w : World} {T : TypeId} {z u : Value} {x : RcV} : Below w.heap.size w (box8 w T z u x) := set8_below ((Below.refl _ _).alloc (Nat.le_refl _) _) (Nat.le_refl _)
theorem box8_size {w : World} {T : TypeId} {z u : Value} {x : RcV} : (box8 w T z u x).heap.size = w.heap.size + 1 := by unfold box8; rw [set8_size]; simp
theorem step_pushVe {ops : Array Oper} {o : Oper} {a : Act} {K : Act → World → Prop} {Q : Exit → Act → World → Prop} {E : Prop} {B : Nat} {W : World} {v : Value} {xs : List VeV}
    (hgd : o.guard = none) (s x : Operand) (ho : o.op = .call { callee := .builtin .append, args := #[s, x], argTypes := #[42, 42] })
    (t : Nat) (y : RcV) (hy : ∃ o i j o' i' j', y.2.1 = .slice o i j ∧ y.2.2 = .slice o' i' j') (H : Nat) (hH : W.heap[H]? = some (vB 45 (.int .u64 (t : Int)) y))
    (hown : OwnsVe B W v xs) (hs : a.eval s = v) (hx : a.eval x = .slice (some ⟨H, 0, none⟩) 1 1) (hB : B ≤ W.heap.size) (hlen : xs.length ≤ 1000000)
    (h : ∀ g cap w1, OwnsVe B w1 (.slice (some ⟨g, 0, none⟩) (xs.length + 1) cap) (xs ++ [(t, y)]) → Below B W w1 → (∀ k, k < W.heap.size → some k ≠ v.ownBlock → w1.heap[k]? = W.heap[k]?) → (v.ownBlock = some g ∨ W.heap.size ≤ g) → K (a.put o.dst (.slice (some ⟨g, 0, none⟩) (xs.length + 1) cap)) w1) :
    if Region.wanted o (yielded ops a.tmps) = true then Oper.wp Try.prog o a W K Q else E := by
  obtain ⟨r, va, vb⟩ := y
  obtain ⟨_, _, _, _, _, _, e1, e2⟩ := hy
  dsimp only at e1 e2
  subst e1 e2
  refine step_push info_ve Try.underlying42 rfl (by decide) (by decide) hgd s x ho (veC (t, r, _, _)) rfl ?_ H hH hown hs hx hB (by omega) fun g cap w1 h1 h2 h3 h4 => ?_
  · intro u hu
    simp [veC, rcC] at hu
    rcases hu with rfl | rfl | rfl | rfl | rfl | rfl | rfl | rfl <;> rfl
  · refine h g cap w1 ?_ h2 h3 h4
    unfold OwnsVe
    rw [List.length_append, vesC_snoc]
    exact h1
end Go.Proofs.Ytpimdmjhnogelaa.Char
