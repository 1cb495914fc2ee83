/- NdOn -/
import Derived.Test.YtognlnjamlhmhaaGreatDoorPkTrM
import Derived.Test.YtognlnjamlhmhaaGreatDoorPkStart
/- A node in memory: what its cells hold, its lists, and all that is in it, in blocks of which F holds. -/
namespace Go.Proofs.YtognlnjamlhmhaaGreatDoor.Char
open Go.RowKit Go.Lib

/-- attributes in a slice -/
def AtsOn (w : World) (F : Nat → Prop) (v : Value) (qs : List At2) : Prop := ∃ o i j, v = .slice o i j ∧ i = qs.length ∧ (qs = [] ∨ ∃ g off, o = some ⟨g, off, none⟩ ∧ F g ∧
  ∀ k, k < qs.length → w.cell? ⟨g, off + k * 2, none⟩ = some (.string (bs (qs.getD k ([], [])).1)) ∧ w.cell? ⟨g, off + k * 2 + 1, none⟩ = some (.string (bs (qs.getD k ([], [])).2)))
/-- a node's five cells -/
def NdAt (w : World) (g off : Nat) (t : Tr) (va vk : Value) : Prop :=
  w.cell? ⟨g, off, none⟩ = some (.int .i64 t.kd) ∧ w.cell? ⟨g, off + 1, none⟩ = some (.string (bs t.nm)) ∧ w.cell? ⟨g, off + 2, none⟩ = some (.string (bs t.tx)) ∧ w.cell? ⟨g, off + 3, none⟩ = some va ∧ w.cell? ⟨g, off + 4, none⟩ = some vk
mutual
/-- a node's lists, and all that is in them -/
def NdOn (w : World) (F : Nat → Prop) : Tr → Value → Value → Prop
  | .mk _ _ _ ats ks, va, vk => AtsOn w F va ats ∧ ∃ o i j, vk = .slice o i j ∧ i = ks.length ∧ (ks = [] ∨ ∃ g off, o = some ⟨g, off, none⟩ ∧ F g ∧ KsOn w F g off ks)
/-- kids, one behind the other -/
def KsOn (w : World) (F : Nat → Prop) (g : Nat) : Nat → List Tr → Prop
  | _, [] => True
  | off, k :: ks => (∃ va vk, NdAt w g off k va vk ∧ NdOn w F k va vk) ∧ KsOn w F g (off + 5) ks
end
def ndV (t : Tr) (va vk : Value) : Value := .agg #[.int .i64 t.kd, .string (bs t.nm), .string (bs t.tx), va, vk]

theorem AtsOn.move {w w' : World} {F F' : Nat → Prop} (h : ∀ b, b < w.heap.size → F b → F' b ∧ w'.heap[b]? = w.heap[b]?) {v : Value} {qs : List At2} (ha : AtsOn w F v qs) : AtsOn w' F' v qs := by
  obtain ⟨o, i, j, e1, e2, e3⟩ := ha
  refine ⟨o, i, j, e1, e2, ?_⟩
  rcases e3 with e3 | ⟨g, off, e4, e5, e6⟩
  · exact .inl e3
  · by_cases hq : qs = []
    · exact .inl hq
    · have h0 := (e6 0 (List.length_pos_iff.2 hq)).1
      have hg : g < w.heap.size := by
        unfold World.cell? at h0
        split at h0
        · rename_i hh; exact (Array.getElem?_eq_some_iff.1 hh).1
        · cases h0
      obtain ⟨k1, k2⟩ := h g hg e5
      exact .inr ⟨g, off, e4, k1, fun k hk => ⟨(World.cell?_of_block (w := w) k2).trans (e6 k hk).1, (World.cell?_of_block (w := w) k2).trans (e6 k hk).2⟩⟩
theorem cell_lt {w : World} {a : Addr} {v : Value} (h : w.cell? a = some v) : a.block < w.heap.size := by
  unfold World.cell? at h
  split at h
  · rename_i hh; exact (Array.getElem?_eq_some_iff.1 hh).1
  · cases h
theorem NdAt.move {w w' : World} {g off : Nat} (h : w'.heap[g]? = w.heap[g]?) {t : Tr} {va vk : Value} (hn : NdAt w g off t va vk) : NdAt w' g off t va vk := by
  obtain ⟨h0, h1, h2, h3, h4⟩ := hn
  exact ⟨(World.cell?_of_block (w := w) h).trans h0, (World.cell?_of_block (w := w) h).trans h1, (World.cell?_of_block (w := w) h).trans h2, (World.cell?_of_block (w := w) h).trans h3, (World.cell?_of_block (w := w) h).trans h4⟩
mutual
theorem NdOn.move {w w' : World} {F F' : Nat → Prop} (h : ∀ b, b < w.heap.size → F b → F' b ∧ w'.heap[b]? = w.heap[b]?) : ∀ (t : Tr) (va vk : Value), NdOn w F t va vk → NdOn w' F' t va vk
  | .mk _ _ _ ats ks, va, vk, hn => by
    rw [NdOn] at hn ⊢
    obtain ⟨h1, o, i, j, e1, e2, e3⟩ := hn
    refine ⟨h1.move h, o, i, j, e1, e2, ?_⟩
    rcases e3 with e3 | ⟨g, off, e4, e5, e6⟩
    · exact .inl e3
    · cases ks with
      | nil => exact .inl rfl
      | cons k r =>
        have hg : g < w.heap.size := by
          rw [KsOn] at e6
          obtain ⟨⟨_, _, ⟨h0, _⟩, _⟩, _⟩ := e6
          exact cell_lt h0
        obtain ⟨k1, k2⟩ := h g hg e5
        exact .inr ⟨g, off, e4, k1, KsOn.move h k2 off _ e6⟩
theorem KsOn.move {w w' : World} {F F' : Nat → Prop} (h : ∀ b, b < w.heap.size → F b → F' b ∧ w'.heap[b]? = w.heap[b]?) {g : Nat} (hg : w'.heap[g]? = w.heap[g]?) : ∀ (off : Nat) (ks : List Tr), KsOn w F g off ks → KsOn w' F' g off ks
  | _, [], _ => by rw [KsOn]; trivial
  | off, k :: r, hk => by
    rw [KsOn] at hk ⊢
    obtain ⟨⟨va, vk, h1, h2⟩, h3⟩ := hk
    exact ⟨⟨va, vk, h1.move hg, NdOn.move h k va vk h2⟩, KsOn.move h hg (off + 5) r h3⟩
end
/-- the k-th kid -/
theorem KsOn.at {w : World} {F : Nat → Prop} {g : Nat} : ∀ {off : Nat} {ks : List Tr}, KsOn w F g off ks → ∀ k (h : k < ks.length), ∃ va vk, NdAt w g (off + k * 5) ks[k] va vk ∧ NdOn w F ks[k] va vk
  | _, [], _, k, h => by cases h
  | off, x :: r, hk, 0, _ => by
    rw [KsOn] at hk
    simpa using hk.1
  | off, x :: r, hk, k + 1, h => by
    rw [KsOn] at hk
    have := hk.2.at k (by simpa using h)
    rw [show off + (k + 1) * 5 = off + 5 + k * 5 by omega]
    exact this
theorem KsOn.of {w : World} {F : Nat → Prop} {g : Nat} : ∀ {off : Nat} {ks : List Tr}, (∀ k (h : k < ks.length), ∃ va vk, NdAt w g (off + k * 5) ks[k] va vk ∧ NdOn w F ks[k] va vk) → KsOn w F g off ks
  | _, [], _ => by rw [KsOn]; trivial
  | off, x :: r, h => by
    rw [KsOn]
    refine ⟨by have h0 := h 0 (by simp); simp only [Nat.zero_mul, Nat.add_zero, List.getElem_cons_zero] at h0; exact h0, KsOn.of fun k hk => ?_⟩
    have := h (k + 1) (by simpa using hk)
    rw [show off + (k + 1) * 5 = off + 5 + k * 5 by omega] at this
    exact this
theorem NdOn.ats {w : World} {F : Nat → Prop} {t : Tr} {va vk : Value} (h : NdOn w F t va vk) : AtsOn w F va t.ats := by
  cases t
  rw [NdOn] at h
  exact h.1
theorem NdOn.kids {w : World} {F : Nat → Prop} {t : Tr} {va vk : Value} (h : NdOn w F t va vk) : ∃ o i j, vk = .slice o i j ∧ i = t.ks.length ∧ (t.ks = [] ∨ ∃ g off, o = some ⟨g, off, none⟩ ∧ F g ∧ KsOn w F g off t.ks) := by
  cases t
  rw [NdOn] at h
  exact h.2
theorem NdOn.of {w : World} {F : Nat → Prop} {t : Tr} {va vk : Value} (h1 : AtsOn w F va t.ats) (h2 : ∃ o i j, vk = .slice o i j ∧ i = t.ks.length ∧ (t.ks = [] ∨ ∃ g off, o = some ⟨g, off, none⟩ ∧ F g ∧ KsOn w F g off t.ks)) : NdOn w F t va vk := by
  cases t
  rw [NdOn]
  exact ⟨h1, h2⟩
theorem NdOn.below {w w' : World} {F : Nat → Prop} {t : Tr} {va vk : Value} (h : NdOn w F t va vk) (hb : Below w.heap.size w w') : NdOn w' F t va vk :=
  NdOn.move (fun b hb0 hF => ⟨hF, hb.block b hb0⟩) t va vk h
theorem NdOn.draws {w : World} {F : Nat → Prop} {t : Tr} {va vk : Value} (h : NdOn w F t va vk) (n : Nat) : NdOn (w.drewN n) F t va vk :=
  NdOn.move (w := w) (w' := w.drewN n) (fun _ _ hF => ⟨hF, rfl⟩) t va vk h
/-- attributes in a slice of one's own -/
theorem OwnsAt.on {B : Nat} {w : World} {F : Nat → Prop} {v : Value} {qs : List At2} (h : OwnsAt B w v qs) (hF : ∀ g, v.ownBlock = some g → F g) : AtsOn w F v qs := by
  have h0 := h
  rcases h.2 with ⟨h1, h2⟩ | ⟨g, cap, cur, e1, e2, hg, e3⟩
  · exact ⟨none, 0, 0, h1, h2.symm, .inl (List.eq_nil_of_length_eq_zero h2)⟩
  · refine ⟨_, _, _, e1, rfl, .inr ⟨g, 0, rfl, hF g (by rw [e1]; rfl), fun k hk => ?_⟩⟩
    rw [e1] at h0
    obtain ⟨g', e4, _, _, r1, r2⟩ := h0.reads k hk
    simp only [Option.some.injEq, Addr.mk.injEq] at e4
    obtain ⟨rfl, _⟩ := e4
    rw [Nat.zero_add]
    exact ⟨r1, r2⟩
end Go.Proofs.YtognlnjamlhmhaaGreatDoor.Char
