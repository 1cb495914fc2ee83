/- The walk of the document's own Ids; numbers in a slice of one's own. -/
import Derived.Test.YtpimdmjhnogelaaRefVers
namespace Go.Proofs.Ytpimdmjhnogelaa.Char
open Go.RowKit Go.Lib

def intC (zs : List Int) : List Value := zs.map fun z => .int .i64 z
def OwnsInt (B : Nat) (w : World) (v : Value) (zs : List Int) : Prop := w.ownsRow B 3 1 v zs.length (intC zs)
theorem OwnsInt.nil (B : Nat) (w : World) : OwnsInt B w (.slice none 0 0) [] := World.ownsRow_nil _ _ _ _
theorem OwnsInt.keep {B : Nat} {w w' : World} {v : Value} {zs : List Int} (h : OwnsInt B w v zs) (hk : ∀ g, v.ownBlock = some g → w'.heap[g]? = w.heap[g]?) : OwnsInt B w' v zs := by
  obtain ⟨h1, h2⟩ := h
  refine ⟨h1, ?_⟩
  rcases h2 with h0 | ⟨g, cap, cur, e1, e2, hg, e3⟩
  · exact .inl h0
  · exact .inr ⟨g, cap, cur, e1, e2, (hk g (by rw [e1]; rfl)).trans hg, e3⟩
theorem OwnsInt.blk {B : Nat} {w : World} {v : Value} {zs : List Int} (h : OwnsInt B w v zs) {g : Nat} (hg : v.ownBlock = some g) : B ≤ g ∧ g < w.heap.size := World.ownsRow.lt h g hg
theorem OwnsInt.below {B : Nat} {w w' : World} {v : Value} {zs : List Int} (h : OwnsInt B w v zs) (hb : Below w.heap.size w w') : OwnsInt B w' v zs := h.keep fun _ hg => hb.block _ (h.blk hg).2
theorem OwnsInt.form {B : Nat} {w : World} {v : Value} {zs : List Int} (h : OwnsInt B w v zs) : ∃ o j, v = .slice o zs.length j := by
  rcases h.2 with ⟨h0, h1⟩ | ⟨g, cap, cur, e1, _⟩
  · exact ⟨none, 0, by rw [h0, ← h1]⟩
  · exact ⟨_, _, e1⟩
/-- as numbers that can be read -/
theorem OwnsInt.on {B : Nat} {w : World} {F : Nat → Prop} {v : Value} {zs : List Int} (h : OwnsInt B w v zs) (hF : ∀ g, v.ownBlock = some g → F g) : IntsOn w F v zs := by
  have h0 := h
  rcases h.2 with ⟨h1, h2⟩ | ⟨g, cap, cur, e1, e2, hg, e3⟩
  · exact ⟨none, 0, 0, h1, h2.symm, .inl (List.eq_nil_of_length_eq_zero h2)⟩
  · refine ⟨_, _, _, e1, rfl, .inr ⟨g, 0, rfl, hF g (by rw [e1]; rfl), fun k hk => ?_⟩⟩
    have hc := World.ownsRow.cells h0 (g := g) (by rw [e1]; rfl) k (.int .i64 (zs.getD k 0)) (by simp [intC, List.getD, hk])
    rwa [Addr.add_lit] at hc
theorem info_int : (Try.prog.info? 3).map (fun i => (i.zero, i.size, i.bytes)) = some (some (.int .i64 0), 1, 8) := by kernel_rfl
theorem wpList_pushInt {ops : Array Oper} {rest : List Oper} {o : Oper} {a : Act} {Q : Exit → Act → World → Prop} {B : Nat} {W : World} {v : Value} {zs : List Int}
    (hgd : o.guard = none) (s x : Operand) (ho : o.op = .call { callee := .builtin .append, args := #[s, x], argTypes := #[32, 32] })
    (z : Int) (hown : OwnsInt B W v zs) (hs : a.eval s = v) (hx : a.eval x = .slice (some ⟨W.heap.size, 0, none⟩) 1 1) (hB : B ≤ W.heap.size) (hlen : zs.length ≤ 1000000)
    (h : ∀ v' w1, OwnsInt B w1 v' (zs ++ [z]) → Below B W w1 → (∀ k, k < W.heap.size → some k ≠ v.ownBlock → w1.heap[k]? = W.heap[k]?) → (∀ g, v'.ownBlock = some g → v.ownBlock = some g ∨ W.heap.size ≤ g) → wpList Try.prog ops Q rest (a.put o.dst v') w1) :
    wpList Try.prog ops Q (o :: rest) a (W.alloc (.cells #[.int .i64 z] 3)) := by
  refine wpList_push info_int Try.underlying32 rfl (by decide) (by decide) hgd s x ho [.int .i64 z] rfl ?_ hown hs hx hB (by omega) fun v' w1 h1 h2 h3 h4 => ?_
  · intro u hu
    rw [List.mem_singleton] at hu
    subst hu
    rfl
  · refine h v' w1 ?_ h2 h3 h4
    unfold OwnsInt intC
    rw [List.length_append, List.map_append]
    exact h1
/-- the numbers of the nodes that have a version -/
def idsL (L : List On) : Nat → List Int
  | 0 => []
  | k + 1 => if (versL L ((k + 1 : Nat) : Int)).isEmpty then idsL L k else idsL L k ++ [((k + 1 : Nat) : Int)]
theorem idsL_len (L : List On) : ∀ k, (idsL L k).length ≤ k
  | 0 => Nat.le_refl _
  | k + 1 => by
    have := idsL_len L k
    rw [idsL]
    split
    · omega
    · rw [List.length_append]; simp; omega
end Go.Proofs.Ytpimdmjhnogelaa.Char
