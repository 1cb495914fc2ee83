/- Records, and bools, in slices of one's own. -/
import Derived.Test.YtpimdmjhnogelaaPush
import Derived.Test.YtpimdmjhnogelaaRefIds
namespace Go.Proofs.Ytpimdmjhnogelaa.Char
open Go.RowKit Go.Lib

def rcsC (xs : List RcV) : List Value := xs.flatMap rcC
theorem rcsC_snoc (xs : List RcV) (x : RcV) : rcsC (xs ++ [x]) = rcsC xs ++ rcC x := by simp [rcsC]
theorem rcsC_at : ∀ (xs : List RcV) (k i : Nat) (h : k < xs.length) (_ : i < 7), (rcsC xs)[k * 7 + i]? = (rcC xs[k])[i]?
  | [], k, _, h, _ => by simp at h
  | x :: r, 0, i, _, hi => by
    show (rcC x ++ rcsC r)[0 * 7 + i]? = _
    rw [show 0 * 7 + i = i by omega, List.getElem?_append_left (by show i < 7; exact hi)]
    rfl
  | x :: r, k + 1, i, h, hi => by
    have ih := rcsC_at r k i (by simpa using h) hi
    show (rcC x ++ rcsC r)[(k + 1) * 7 + i]? = _
    rw [List.getElem?_append_right (by show 7 ≤ _; omega), show (k + 1) * 7 + i - (rcC x).length = k * 7 + i by show (k + 1) * 7 + i - 7 = _; omega, ih]
    rfl
def OwnsRc (B : Nat) (w : World) (v : Value) (xs : List RcV) : Prop := w.ownsRow B 37 7 v xs.length (rcsC xs)
theorem OwnsRc.nil (B : Nat) (w : World) : OwnsRc B w (.slice none 0 0) [] := World.ownsRow_nil _ _ _ _
theorem OwnsRc.keep {B : Nat} {w w' : World} {v : Value} {xs : List RcV} (h : OwnsRc B w v xs) (hk : ∀ g, v.ownBlock = some g → w'.heap[g]? = w.heap[g]?) : OwnsRc B w' v xs := by
  obtain ⟨h1, h2⟩ := h
  refine ⟨h1, ?_⟩
  rcases h2 with h0 | ⟨g, cap, cur, e1, e2, hg, e3⟩
  · exact .inl h0
  · exact .inr ⟨g, cap, cur, e1, e2, (hk g (by rw [e1]; rfl)).trans hg, e3⟩
theorem OwnsRc.blk {B : Nat} {w : World} {v : Value} {xs : List RcV} (h : OwnsRc B w v xs) {g : Nat} (hg : v.ownBlock = some g) : B ≤ g ∧ g < w.heap.size := World.ownsRow.lt h g hg
theorem OwnsRc.form {B : Nat} {w : World} {v : Value} {xs : List RcV} (h : OwnsRc B w v xs) : ∃ o j, v = .slice o xs.length j := by
  rcases h.2 with ⟨h0, h1⟩ | ⟨g, cap, cur, e1, _⟩
  · exact ⟨none, 0, by rw [h0, ← h1]⟩
  · exact ⟨_, _, e1⟩
/-- the cells of the k-th -/
theorem OwnsRc.reads {B : Nat} {w : World} {o : Option Addr} {i j : Nat} {xs : List RcV} (h : OwnsRc B w (.slice o i j) xs) (k : Nat) (hk : k < xs.length) :
    ∃ g, o = some ⟨g, 0, none⟩ ∧ B ≤ g ∧ g < w.heap.size ∧ w.cell? ⟨g, k * 7, none⟩ = some (.int .i64 xs[k].1.kd) ∧ w.cell? ⟨g, k * 7 + 1, none⟩ = some (.string (bs xs[k].1.nm)) ∧ w.cell? ⟨g, k * 7 + 2, none⟩ = some (.string (bs xs[k].1.tx)) ∧
      w.cell? ⟨g, k * 7 + 3, none⟩ = some (.int .i64 xs[k].1.pa) ∧ w.cell? ⟨g, k * 7 + 4, none⟩ = some xs[k].2.1 ∧ w.cell? ⟨g, k * 7 + 5, none⟩ = some xs[k].2.2 ∧ w.cell? ⟨g, k * 7 + 6, none⟩ = some (.bool xs[k].1.gone) := by
  have h0 := h
  obtain ⟨_, h1 | ⟨g, cap, cur, e1, e2, hg, _⟩⟩ := h
  · omega
  · simp only [Value.slice.injEq] at e1
    have hc := World.ownsRow.cells h0 (g := g) (by rw [e1.1]; rfl)
    have key : ∀ n, n < 7 → ∀ u, (rcC xs[k])[n]? = some u → w.cell? ⟨g, k * 7 + n, none⟩ = some u := fun n hn u hu => by
      have := hc (k * 7 + n) u ((rcsC_at xs k n hk hn).trans hu)
      rwa [Addr.add_lit, Nat.zero_add] at this
    exact ⟨g, e1.1, e2, (Array.getElem?_eq_some_iff.1 hg).1, key 0 (by omega) _ rfl, key 1 (by omega) _ rfl, key 2 (by omega) _ rfl, key 3 (by omega) _ rfl, key 4 (by omega) _ rfl, key 5 (by omega) _ rfl, key 6 (by omega) _ rfl⟩
theorem info_rc : (Try.prog.info? 37).map (fun i => (i.zero, i.size, i.bytes)) = some (some (.agg #[.int .i64 0, .string ⟨#[]⟩, .string ⟨#[]⟩, .int .i64 0, .slice none 0 0, .slice none 0 0, .bool false]), 7, 104) := by kernel_rfl
/-- one record more, behind what one's own slice holds -/
theorem wpList_pushRc {ops : Array Oper} {rest : List Oper} {o : Oper} {a : Act} {Q : Exit → Act → World → Prop} {B : Nat} {W : World} {v : Value} {xs : List RcV}
    (hgd : o.guard = none) (s x : Operand) (ho : o.op = .call { callee := .builtin .append, args := #[s, x], argTypes := #[34, 34] })
    (r : Rc) (ok : Option Addr) (ik jk : Nat) (oa : Option Addr) (ia ja : Nat) (hown : OwnsRc B W v xs) (hs : a.eval s = v) (hx : a.eval x = .slice (some ⟨W.heap.size, 0, none⟩) 1 1) (hB : B ≤ W.heap.size) (hlen : xs.length ≤ 1000000)
    (h : ∀ v' w1, OwnsRc B w1 v' (xs ++ [(r, .slice ok ik jk, .slice oa ia ja)]) → Below B W w1 → (∀ k, k < W.heap.size → some k ≠ v.ownBlock → w1.heap[k]? = W.heap[k]?) → (∀ g, v'.ownBlock = some g → v.ownBlock = some g ∨ W.heap.size ≤ g) → wpList Try.prog ops Q rest (a.put o.dst v') w1) :
    wpList Try.prog ops Q (o :: rest) a (W.alloc (.cells #[.int .i64 r.kd, .string (bs r.nm), .string (bs r.tx), .int .i64 r.pa, .slice ok ik jk, .slice oa ia ja, .bool r.gone] 37)) := by
  refine wpList_push info_rc Try.underlying34 rfl (by decide) (by decide) hgd s x ho (rcC (r, .slice ok ik jk, .slice oa ia ja)) rfl ?_ hown hs hx hB (by omega) fun v' w1 h1 h2 h3 h4 => ?_
  · intro u hu
    simp [rcC] at hu
    rcases hu with rfl | rfl | rfl | rfl | rfl | rfl | rfl <;> rfl
  · refine h v' w1 ?_ h2 h3 h4
    unfold OwnsRc
    rw [List.length_append, rcsC_snoc]
    exact h1
def boolC (zs : List Bool) : List Value := zs.map .bool
def OwnsBool (B : Nat) (w : World) (v : Value) (zs : List Bool) : Prop := w.ownsRow B 4 1 v zs.length (boolC zs)
theorem OwnsBool.nil (B : Nat) (w : World) : OwnsBool B w (.slice none 0 0) [] := World.ownsRow_nil _ _ _ _
theorem OwnsBool.keep {B : Nat} {w w' : World} {v : Value} {zs : List Bool} (h : OwnsBool B w v zs) (hk : ∀ g, v.ownBlock = some g → w'.heap[g]? = w.heap[g]?) : OwnsBool B w' v zs := by
  obtain ⟨h1, h2⟩ := h
  refine ⟨h1, ?_⟩
  rcases h2 with h0 | ⟨g, cap, cur, e1, e2, hg, e3⟩
  · exact .inl h0
  · exact .inr ⟨g, cap, cur, e1, e2, (hk g (by rw [e1]; rfl)).trans hg, e3⟩
theorem OwnsBool.blk {B : Nat} {w : World} {v : Value} {zs : List Bool} (h : OwnsBool B w v zs) {g : Nat} (hg : v.ownBlock = some g) : B ≤ g ∧ g < w.heap.size := World.ownsRow.lt h g hg
theorem OwnsBool.below {B : Nat} {w w' : World} {v : Value} {zs : List Bool} (h : OwnsBool B w v zs) (hb : Below w.heap.size w w') : OwnsBool B w' v zs := h.keep fun _ hg => hb.block _ (h.blk hg).2
theorem OwnsBool.form {B : Nat} {w : World} {v : Value} {zs : List Bool} (h : OwnsBool B w v zs) : ∃ o j, v = .slice o zs.length j := by
  rcases h.2 with ⟨h0, h1⟩ | ⟨g, cap, cur, e1, _⟩
  · exact ⟨none, 0, by rw [h0, ← h1]⟩
  · exact ⟨_, _, e1⟩
theorem OwnsBool.reads {B : Nat} {w : World} {o : Option Addr} {i j : Nat} {zs : List Bool} (h : OwnsBool B w (.slice o i j) zs) (k : Nat) (hk : k < zs.length) : ∃ g, o = some ⟨g, 0, none⟩ ∧ B ≤ g ∧ g < w.heap.size ∧ w.cell? ⟨g, k, none⟩ = some (.bool zs[k]) := by
  have h0 := h
  obtain ⟨_, h1 | ⟨g, cap, cur, e1, e2, hg, _⟩⟩ := h
  · omega
  · simp only [Value.slice.injEq] at e1
    have hc := World.ownsRow.cells h0 (g := g) (by rw [e1.1]; rfl) k (.bool zs[k]) (by simp [boolC, hk])
    rw [Addr.add_lit, Nat.zero_add] at hc
    exact ⟨g, e1.1, e2, (Array.getElem?_eq_some_iff.1 hg).1, hc⟩
theorem info_bool : (Try.prog.info? 4).map (fun i => (i.zero, i.size, i.bytes)) = some (some (.bool false), 1, 1) := by kernel_rfl
theorem wpList_pushBool {ops : Array Oper} {rest : List Oper} {o : Oper} {a : Act} {Q : Exit → Act → World → Prop} {B : Nat} {W : World} {v : Value} {zs : List Bool}
    (hgd : o.guard = none) (s x : Operand) (ho : o.op = .call { callee := .builtin .append, args := #[s, x], argTypes := #[35, 35] })
    (z : Bool) (hown : OwnsBool B W v zs) (hs : a.eval s = v) (hx : a.eval x = .slice (some ⟨W.heap.size, 0, none⟩) 1 1) (hB : B ≤ W.heap.size) (hlen : zs.length ≤ 1000000)
    (h : ∀ v' w1, OwnsBool B w1 v' (zs ++ [z]) → Below B W w1 → (∀ k, k < W.heap.size → some k ≠ v.ownBlock → w1.heap[k]? = W.heap[k]?) → (∀ g, v'.ownBlock = some g → v.ownBlock = some g ∨ W.heap.size ≤ g) → wpList Try.prog ops Q rest (a.put o.dst v') w1) :
    wpList Try.prog ops Q (o :: rest) a (W.alloc (.cells #[.bool z] 4)) := by
  refine wpList_push info_bool Try.underlying35 rfl (by decide) (by decide) hgd s x ho [.bool z] rfl ?_ hown hs hx hB (by omega) fun v' w1 h1 h2 h3 h4 => ?_
  · intro u hu
    rw [List.mem_singleton] at hu
    subst hu
    rfl
  · refine h v' w1 ?_ h2 h3 h4
    unfold OwnsBool boolC
    rw [List.length_append, List.map_append]
    exact h1
end Go.Proofs.Ytpimdmjhnogelaa.Char
