/- One element more behind what a slice of one's own holds, of whatever elements. -/
import Derived.Test.YtpimdmjhnogelaaRefFr
import Derived.Maps.AppendAt
import Derived.Deep.AppendLies
import Derived.Deep.RegionLaw
namespace Go.Proofs.Ytpimdmjhnogelaa.Char
open Go.RowKit Go.Lib

theorem wpList_push {ops : Array Oper} {rest : List Oper} {o : Oper} {a : Act} {Q : Exit → Act → World → Prop} {B : Nat} {W : World} {v : Value} {n size bytes : Nat} {xs : List Value} {e st : TypeId} {z : Value}
    (hi : (Try.prog.info? e).map (fun i => (i.zero, i.size, i.bytes)) = some (some z, size, bytes)) (hst : Try.prog.underlying st = some (.slice e)) (hzs : z.cells.size = size) (hsz : 0 < size) (hby : bytes ≤ 1000)
    (hgd : o.guard = none) (s x : Operand) (ho : o.op = .call { callee := .builtin .append, args := #[s, x], argTypes := #[st, st] })
    (cs : List Value) (hcs : cs.length = size) (h1 : ∀ u ∈ cs, u.oneCell' = true) (hown : W.ownsRow B e size v n xs) (hs : a.eval s = v) (hx : a.eval x = .slice (some ⟨W.heap.size, 0, none⟩) 1 1) (hB : B ≤ W.heap.size) (hlen : n ≤ 10000000)
    (h : ∀ v' w1, w1.ownsRow B e size v' (n + 1) (xs ++ cs) → Below B W w1 → (∀ k, k < W.heap.size → some k ≠ v.ownBlock → w1.heap[k]? = W.heap[k]?) → (∀ g, v'.ownBlock = some g → v.ownBlock = some g ∨ W.heap.size ≤ g) → wpList Try.prog ops Q rest (a.put o.dst v') w1) :
    wpList Try.prog ops Q (o :: rest) a (W.alloc (.cells cs.toArray e)) := by
  obtain ⟨i0, hi, hz0, hz1, hz2⟩ := info_parts hi
  refine wpList_append_own_at _ hgd s x st ho B e i0 z size bytes hst hi hz0 hz1 hz2 hzs hsz v n xs hs (World.ownsRow.alloc hown _) ⟨W.heap.size, 0, none⟩ 1 1 cs hx (by rw [hcs, Nat.one_mul]) ?_ h1 ?_ ?_ ?_ ?_
  · intro j u hj
    have hb := World.alloc_heap_new W (.cells cs.toArray e)
    rw [Addr.add_lit, Nat.zero_add]
    simp only [World.cell?, hb]
    simpa using hj
  · unfold maxLen; omega
  · have : (n + 1) * bytes ≤ (n + 1) * 1000 := Nat.mul_le_mul_left _ hby
    omega
  · simp; omega
  · intro v' w1 hown' hgrow _ hloc
    have hsz := hgrow.size
    rw [World.size_alloc] at hsz
    refine h v' w1 hown' (((Below.refl _ _).alloc hB _).grown hgrow (by simp; omega) (fun k hk => by
      rcases hown.2 with ⟨rfl, _⟩ | ⟨g, cap, cur, rfl, hg, _⟩
      · simp [Value.ownBlock] at hk
      · simp [Value.ownBlock] at hk; omega)) (fun k hk hne => ?_) (fun g hg => ?_)
    · rw [hgrow.block k (by simp; omega) (fun e => hne e)]
      exact Below.heap_alloc W _ k hk
    · rcases hloc with hl | hl
      · exact .inl (by rw [← hl]; exact hg)
      · rw [hl] at hg
        simp at hg
        exact .inr (by omega)
/-- the same as a step of a region that draws its order: the box stands in H already -/
theorem step_push {ops : Array Oper} {o : Oper} {a : Act} {K : Act → World → Prop} {Q : Exit → Act → World → Prop} {E : Prop} {B : Nat} {W : World} {v : Value} {n size bytes : Nat} {xs : List Value} {e st : TypeId} {z : Value}
    (hi : (Try.prog.info? e).map (fun i => (i.zero, i.size, i.bytes)) = some (some z, size, bytes)) (hst : Try.prog.underlying st = some (.slice e)) (hzs : z.cells.size = size) (hsz : 0 < size) (hby : bytes ≤ 1000)
    (hgd : o.guard = none) (s x : Operand) (ho : o.op = .call { callee := .builtin .append, args := #[s, x], argTypes := #[st, st] })
    (cs : List Value) (hcs : cs.length = size) (h1 : ∀ u ∈ cs, u.oneCell' = true) (H : Nat) (hH : W.heap[H]? = some (.cells cs.toArray e (0, 0))) (hown : W.ownsRow B e size v n xs) (hs : a.eval s = v) (hx : a.eval x = .slice (some ⟨H, 0, none⟩) 1 1) (hB : B ≤ W.heap.size) (hlen : n ≤ 10000000)
    (h : ∀ g cap w1, w1.ownsRow B e size (.slice (some ⟨g, 0, none⟩) (n + 1) cap) (n + 1) (xs ++ cs) → Below B W w1 → (∀ k, k < W.heap.size → some k ≠ v.ownBlock → w1.heap[k]? = W.heap[k]?) → (v.ownBlock = some g ∨ W.heap.size ≤ g) → K (a.put o.dst (.slice (some ⟨g, 0, none⟩) (n + 1) cap)) w1) :
    if Region.wanted o (yielded ops a.tmps) = true then Oper.wp Try.prog o a W K Q else E := by
  obtain ⟨i0, hi, hz0, hz1, hz2⟩ := info_parts hi
  refine step_append_lies W hgd s x st ho B e i0 z size bytes hst hi hz0 hz1 hz2 hzs hsz v n xs hs hown ⟨H, 0, none⟩ 1 1 cs hx (by rw [hcs, Nat.one_mul]) ?_ h1 (by decide) ?_ ?_ hB W.heap.size rfl ?_
  · intro j u hj
    rw [Addr.add_lit, Nat.zero_add]
    simp only [World.cell?, hH]
    simpa using hj
  · unfold maxLen; omega
  · have : (n + 1) * bytes ≤ (n + 1) * 1000 := Nat.mul_le_mul_left _ hby
    omega
  · intro g cap w1 hown' hgrow hlie _
    refine h g cap w1 hown' ((Below.refl B W).grown hgrow hB (fun k hk => by
      rcases hown.2 with ⟨rfl, _⟩ | ⟨g, cap, cur, rfl, hg, _⟩
      · simp [Value.ownBlock] at hk
      · simp [Value.ownBlock] at hk; omega)) (fun k hk hne => hgrow.block k hk (fun e => hne e)) ?_
    rcases hlie with hl | hl
    · exact .inl hl
    · exact .inr (by omega)
end Go.Proofs.Ytpimdmjhnogelaa.Char
