/- Versions in a slice of one's own: one more behind it. -/
import Derived.Test.YtpimdmjhnogelaaPush
namespace Go.Proofs.Ytpimdmjhnogelaa.Char
open Go.RowKit Go.Lib

def OwnsVe (B : Nat) (w : World) (v : Value) (xs : List VeV) : Prop := w.ownsRow B 45 8 v xs.length (vesC xs)
theorem OwnsVe.nil (B : Nat) (w : World) : OwnsVe B w (.slice none 0 0) [] := World.ownsRow_nil _ _ _ _
theorem OwnsVe.keep {B : Nat} {w w' : World} {v : Value} {xs : List VeV} (h : OwnsVe B w v xs) (hk : ∀ g, v.ownBlock = some g → w'.heap[g]? = w.heap[g]?) : OwnsVe B w' v xs := by
  obtain ⟨h1, h2⟩ := h
  refine ⟨h1, ?_⟩
  rcases h2 with h0 | ⟨g, cap, cur, e1, e2, hg, e3⟩
  · exact .inl h0
  · exact .inr ⟨g, cap, cur, e1, e2, (hk g (by rw [e1]; rfl)).trans hg, e3⟩
theorem OwnsVe.blk {B : Nat} {w : World} {v : Value} {xs : List VeV} (h : OwnsVe B w v xs) {g : Nat} (hg : v.ownBlock = some g) : B ≤ g ∧ g < w.heap.size := World.ownsRow.lt h g hg
theorem OwnsVe.form {B : Nat} {w : World} {v : Value} {xs : List VeV} (h : OwnsVe B w v xs) : ∃ o j, v = .slice o xs.length j := by
  rcases h.2 with ⟨h0, h1⟩ | ⟨g, cap, cur, e1, _⟩
  · exact ⟨none, 0, by rw [h0, ← h1]⟩
  · exact ⟨_, _, e1⟩
/-- as versions that can be read -/
theorem OwnsVe.on {B : Nat} {w : World} {F : Nat → Prop} {v : Value} {xs : List VeV} (h : OwnsVe B w v xs) (hF : ∀ g, v.ownBlock = some g → F g) (hr : ∀ x, x ∈ xs → RcOn w F x.2) : VsOn w F v xs := by
  refine ⟨?_, hr⟩
  have h0 := h
  rcases h.2 with ⟨h1, h2⟩ | ⟨g, cap, cur, e1, e2, hg, e3⟩
  · exact ⟨none, 0, 0, h1, h2.symm, .inl (List.eq_nil_of_length_eq_zero h2)⟩
  · refine ⟨_, _, _, e1, rfl, .inr ⟨g, 0, rfl, hF g (by rw [e1]; rfl), fun k hk => ?_⟩⟩
    have hc := World.ownsRow.cells h0 (g := g) (by rw [e1]; rfl)
    have key : ∀ n, n < 8 → ∀ u, (veC xs[k])[n]? = some u → w.cell? ⟨g, k * 8 + n, none⟩ = some u := fun n hn u hu => by
      have := hc (k * 8 + n) u ((vesC_at xs k n hk hn).trans hu)
      rwa [Addr.add_lit, Nat.zero_add] at this
    rw [Nat.zero_add]
    exact ⟨key 0 (by omega) _ rfl, key 1 (by omega) _ rfl, key 2 (by omega) _ rfl, key 3 (by omega) _ rfl, key 4 (by omega) _ rfl, key 5 (by omega) _ rfl, key 6 (by omega) _ rfl, key 7 (by omega) _ rfl⟩
theorem info_ve : (Try.prog.info? 45).map (fun i => (i.zero, i.size, i.bytes)) = some (some (.agg #[.int .u64 0, .int .i64 0, .string ⟨#[]⟩, .string ⟨#[]⟩, .int .i64 0, .slice none 0 0, .slice none 0 0, .bool false]), 8, 112) := by kernel_rfl
/-- one version more, behind what one's own slice holds -/
theorem wpList_pushVe {ops : Array Oper} {rest : List Oper} {o : Oper} {a : Act} {Q : Exit → Act → World → Prop} {B : Nat} {W : World} {v : Value} {xs : List VeV}
    (hgd : o.guard = none) (s x : Operand) (ho : o.op = .call { callee := .builtin .append, args := #[s, x], argTypes := #[42, 42] })
    (t : Nat) (r : Rc) (ok : Option Addr) (ik jk : Nat) (oa : Option Addr) (ia ja : Nat) (hown : OwnsVe B W v xs) (hs : a.eval s = v) (hx : a.eval x = .slice (some ⟨W.heap.size, 0, none⟩) 1 1) (hB : B ≤ W.heap.size) (hlen : xs.length ≤ 1000000)
    (h : ∀ v' w1, OwnsVe B w1 v' (xs ++ [(t, r, .slice ok ik jk, .slice oa ia ja)]) → Below B W w1 → (∀ k, k < W.heap.size → some k ≠ v.ownBlock → w1.heap[k]? = W.heap[k]?) → (∀ g, v'.ownBlock = some g → v.ownBlock = some g ∨ W.heap.size ≤ g) → wpList Try.prog ops Q rest (a.put o.dst v') w1) :
    wpList Try.prog ops Q (o :: rest) a (W.alloc (.cells #[.int .u64 (t : Int), .int .i64 r.kd, .string (bs r.nm), .string (bs r.tx), .int .i64 r.pa, .slice ok ik jk, .slice oa ia ja, .bool r.gone] 45)) := by
  refine wpList_push info_ve Try.underlying42 rfl (by decide) (by decide) hgd s x ho (veC (t, r, .slice ok ik jk, .slice oa ia ja)) rfl ?_ hown hs hx hB (by omega) fun v' w1 h1 h2 h3 h4 => ?_
  · intro u hu
    simp [veC, rcC] at hu
    rcases hu with rfl | rfl | rfl | rfl | rfl | rfl | rfl | rfl <;> rfl
  · refine h v' w1 ?_ h2 h3 h4
    unfold OwnsVe
    rw [List.length_append, vesC_snoc]
    exact h1
end Go.Proofs.Ytpimdmjhnogelaa.Char
