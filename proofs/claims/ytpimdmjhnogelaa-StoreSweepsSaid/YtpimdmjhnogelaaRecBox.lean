/- A record in a box of its own: its cells, a store of a whole record, results that are records. -/
import Derived.Test.YtpimdmjhnogelaaRefFr
namespace Go.Proofs.Ytpimdmjhnogelaa.Char
open Go.RowKit Go.Lib

def rcB (x : RcV) : Obj := .cells #[.int .i64 x.1.kd, .string (bs x.1.nm), .string (bs x.1.tx), .int .i64 x.1.pa, x.2.1, x.2.2, .bool x.1.gone] 37
theorem rc_blk {w : World} {b : Nat} {x : RcV} (h : w.heap[b]? = some (rcB x)) :
    (w.cell? ⟨b, 0, none⟩ = some (.int .i64 x.1.kd) ∧ w.cell? ⟨b, 1, none⟩ = some (.string (bs x.1.nm)) ∧ w.cell? ⟨b, 2, none⟩ = some (.string (bs x.1.tx)) ∧ w.cell? ⟨b, 3, none⟩ = some (.int .i64 x.1.pa) ∧ w.cell? ⟨b, 4, none⟩ = some x.2.1 ∧ w.cell? ⟨b, 5, none⟩ = some x.2.2 ∧ w.cell? ⟨b, 6, none⟩ = some (.bool x.1.gone)) ∧ ∀ i, w.frozen? ⟨b, i, none⟩ = false := by
  unfold rcB at h
  exact ⟨⟨by simp [World.cell?, h], by simp [World.cell?, h], by simp [World.cell?, h], by simp [World.cell?, h], by simp [World.cell?, h], by simp [World.cell?, h], by simp [World.cell?, h]⟩, fun i => by simp [World.frozen?, h]⟩
/-- a store of a whole record -/
def set7 (w : World) (b : Nat) (x : RcV) : World :=
  ((((((w.setCell ⟨b, 0, none⟩ (.int .i64 x.1.kd)).setCell ⟨b, 1, none⟩ (.string (bs x.1.nm))).setCell ⟨b, 2, none⟩ (.string (bs x.1.tx))).setCell ⟨b, 3, none⟩ (.int .i64 x.1.pa)).setCell ⟨b, 4, none⟩ x.2.1).setCell ⟨b, 5, none⟩ x.2.2).setCell ⟨b, 6, none⟩ (.bool x.1.gone)
theorem set7_at {w : World} {b : Nat} {x y : RcV} (h : w.heap[b]? = some (rcB y)) : (set7 w b x).heap[b]? = some (rcB x) := by
  unfold set7
  unfold rcB at h ⊢
  have h1 := heap_set_at (i := 0) (u := .int .i64 x.1.kd) h
  have h2 := heap_set_at (i := 1) (u := .string (bs x.1.nm)) h1
  have h3 := heap_set_at (i := 2) (u := .string (bs x.1.tx)) h2
  have h4 := heap_set_at (i := 3) (u := .int .i64 x.1.pa) h3
  have h5 := heap_set_at (i := 4) (u := x.2.1) h4
  have h6 := heap_set_at (i := 5) (u := x.2.2) h5
  have h7 := heap_set_at (i := 6) (u := .bool x.1.gone) h6
  exact h7.trans (by simp)
theorem set7_ne {w : World} {b k : Nat} {x : RcV} (h : k ≠ b) : (set7 w b x).heap[k]? = w.heap[k]? := by
  unfold set7
  rw [heap_set_ne (a := ⟨b, 6, none⟩) h, heap_set_ne (a := ⟨b, 5, none⟩) h, heap_set_ne (a := ⟨b, 4, none⟩) h, heap_set_ne (a := ⟨b, 3, none⟩) h, heap_set_ne (a := ⟨b, 2, none⟩) h, heap_set_ne (a := ⟨b, 1, none⟩) h, heap_set_ne (a := ⟨b, 0, none⟩) h]
theorem set7_size {w : World} {b : Nat} {x : RcV} : (set7 w b x).heap.size = w.heap.size := by simp [set7]
theorem set7_below {B b : Nat} {w w' : World} {x : RcV} (h : Below B w w') (hb : B ≤ b) : Below B w (set7 w' b x) :=
  ((((((h.setCell (p := ⟨b, 0, none⟩) hb _).setCell (p := ⟨b, 1, none⟩) hb _).setCell (p := ⟨b, 2, none⟩) hb _).setCell (p := ⟨b, 3, none⟩) hb _).setCell (p := ⟨b, 4, none⟩) hb _).setCell (p := ⟨b, 5, none⟩) hb _).setCell (p := ⟨b, 6, none⟩) hb _
/-- two results, the first a record in a box -/
theorem end_rc2 {fn : Func} {p q : Tmp} (h : fn.results = #[.cell p 37, .tmp q]) {a : Act} {R : Ending → World → Prop} (w1 : World) (g : Nat) {x : RcV} {c : Value} (hk : w1.heap[g]? = some (rcB x)) (hv : ∃ o i j o' i' j', x.2.1 = .slice o i j ∧ x.2.2 = .slice o' i' j')
    (hp : a.tmps.getD p undef = .pointer (some ⟨g, 0, none⟩)) (hq : a.tmps.getD q undef = c) (hd : a.defers = []) (hR : R (.returned (.tuple #[rcV x, c])) w1) : bodyPost Try.prog fn R .ret a w1 := by
  have hp' : a.tmps[p]?.getD undef = .pointer (some ⟨g, 0, none⟩) := by simpa using hp
  have hq' : a.tmps[q]?.getD undef = c := by simpa using hq
  obtain ⟨r, va, vb⟩ := x
  obtain ⟨_, _, _, _, _, _, e1, e2⟩ := hv
  dsimp only at e1 e2
  subst e1 e2
  obtain ⟨⟨a0, a1, a2, a3, a4, a5, a6⟩, _⟩ := rc_blk hk
  dsimp only at a0 a1 a2 a3 a4 a5 a6
  unfold rcV at hR
  exact bodyPost_ret (by simp [results, h, hp', hq', go_sem, a0, a1, a2, a3, a4, a5, a6]) hd hR
theorem RcOn.slices {w : World} {F : Nat → Prop} {x : RcV} (h : RcOn w F x) : ∃ o i j o' i' j', x.2.1 = .slice o i j ∧ x.2.2 = .slice o' i' j' := by
  obtain ⟨ok, jk, oa, ja, e1, e2⟩ := h.form
  exact ⟨_, _, _, _, _, _, e1, e2⟩
end Go.Proofs.Ytpimdmjhnogelaa.Char
