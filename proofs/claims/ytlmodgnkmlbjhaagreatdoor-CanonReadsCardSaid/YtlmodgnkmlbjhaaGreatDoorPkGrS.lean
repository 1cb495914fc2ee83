import Derived.Test.YtlmodgnkmlbjhaaGreatDoorPkTrM
import Derived.Test.YtlmodgnkmlbjhaaGreatDoorPkPieces
namespace Go.Proofs.YtlmodgnkmlbjhaaGreatDoor
namespace Char
open Go.RowKit Go.Lib
abbrev NdV := Tr × Value × Value
def ndC (x : NdV) : List Value := [.int .i64 x.1.kd, .string (bs x.1.nm), .string (bs x.1.tx), x.2.1, x.2.2]
def ndsC (xs : List NdV) : List Value := xs.flatMap ndC
theorem ndsC_len (xs : List NdV) : (ndsC xs).length = xs.length * 5 := by
 induction xs with
 | nil => rfl
 | cons x r ih =>
  show (ndC x ++ ndsC r).length = _
  rw [List.length_append, ih, List.length_cons]
  show 5 + _ = _
  omega
theorem ndsC_snoc (xs : List NdV) (x : NdV) : ndsC (xs ++ [x]) = ndsC xs ++ ndC x := by simp [ndsC]
theorem ndsC_at : ∀ (xs : List NdV) (k i : Nat) (h : k < xs.length) (_ : i < 5), (ndsC xs)[k * 5 + i]? = (ndC xs[k])[i]?
 | [], k, _, h, _ => by simp at h
 | x :: r, 0, i, _, hi => by
  show (ndC x ++ ndsC r)[0 * 5 + i]? = _
  rw [show 0 * 5 + i = i by omega, List.getElem?_append_left (by show i < 5; exact hi)]
  rfl
 | x :: r, k + 1, i, h, hi => by
  have ih := ndsC_at r k i (by simpa using h) hi
  show (ndC x ++ ndsC r)[(k + 1) * 5 + i]? = _
  rw [List.getElem?_append_right (by show 5 ≤ _; omega), show (k + 1) * 5 + i - (ndC x).length = k * 5 + i by show (k + 1) * 5 + i - 5 = _; omega, ih]
  rfl
def OwnsNd (B : Nat) (w : World) (F : Nat → Prop) (v : Value) (ks : List Tr) : Prop := ∃ xs : List NdV, xs.map (·.1) = ks ∧ w.ownsRow B 25 5 v xs.length (ndsC xs) ∧ ∀ x, x ∈ xs → NdOn w F x.1 x.2.1 x.2.2
theorem OwnsNd.nil (B : Nat) (w : World) (F : Nat → Prop) : OwnsNd B w F (.slice none 0 0) [] := ⟨[], rfl, World.ownsRow_nil _ _ _ _, fun _ h => by cases h⟩
theorem ownsRow_keep {B : Nat} {w w' : World} {e : TypeId} {size n : Nat} {v : Value} {xs : List Value} (h : w.ownsRow B e size v n xs) (hk : ∀ g, v.ownBlock = some g → w'.heap[g]? = w.heap[g]?) : w'.ownsRow B e size v n xs := by
 refine ⟨h.1, ?_⟩
 rcases h.2 with h0 | ⟨g, cap, cur, e1, e2, hg, e3⟩
 ·exact .inl h0
 ·exact .inr ⟨g, cap, cur, e1, e2, (hk g (by rw [e1]; rfl)).trans hg, e3⟩
theorem OwnsNd.move {B : Nat} {w w' : World} {F F' : Nat → Prop} {v : Value} {ks : List Tr} (h : OwnsNd B w F v ks) (hF : ∀ b, b < w.heap.size → F b → F' b ∧ w'.heap[b]? = w.heap[b]?) (hk : ∀ g, v.ownBlock = some g → w'.heap[g]? = w.heap[g]?) : OwnsNd B w' F' v ks := by
 obtain ⟨xs, h1, h2, h3⟩ := h
 exact ⟨xs, h1, ownsRow_keep h2 hk, fun x hx => NdOn.move hF _ _ _ (h3 x hx)⟩
theorem OwnsNd.form {B : Nat} {w : World} {F : Nat → Prop} {v : Value} {ks : List Tr} (h : OwnsNd B w F v ks) : ∃ o j, v = .slice o ks.length j := by
 obtain ⟨xs, rfl, h2, _⟩ := h
 rcases h2.2 with ⟨h0, h1⟩ | ⟨g, cap, cur, e1, _⟩
 ·exact ⟨none, 0, by rw [h0, List.length_map, h1]⟩
 ·exact ⟨_, _, by rw [e1, List.length_map]⟩
theorem ownsNd_cells {B : Nat} {w : World} {o : Option Addr} {i j : Nat} {xs : List NdV} (h : w.ownsRow B 25 5 (.slice o i j) xs.length (ndsC xs)) (k : Nat) (hk : k < xs.length) : ∃ g, o = some ⟨g, 0, none⟩ ∧ NdAt w g (k * 5) xs[k].1 xs[k].2.1 xs[k].2.2 := by
 rcases h.2 with ⟨_, h1⟩ | ⟨g, cap, cur, e1, e2, hg, _⟩
 ·omega
 ·simp only [Value.slice.injEq] at e1
  have hc := World.ownsRow.cells h (g := g) (by rw [e1.1]; rfl)
  have key : ∀ n, n < 5 → ∀ u, (ndC xs[k])[n]? = some u → w.cell? ⟨g, k * 5 + n, none⟩ = some u := fun n hn u hu => by
   have := hc (k * 5 + n) u ((ndsC_at xs k n hk hn).trans hu)
   rwa [Addr.add_lit, Nat.zero_add] at this
  exact ⟨g, e1.1, key 0 (by omega) _ rfl, key 1 (by omega) _ rfl, key 2 (by omega) _ rfl, key 3 (by omega) _ rfl, key 4 (by omega) _ rfl⟩
theorem OwnsNd.on {B : Nat} {w : World} {F F' : Nat → Prop} {v : Value} {ks : List Tr} (h : OwnsNd B w F v ks) (hF : ∀ b, b < w.heap.size → F b → F' b) (hv : ∀ g, v.ownBlock = some g → F' g) :
  ∃ o i j, v = .slice o i j ∧ i = ks.length ∧ (ks = [] ∨ ∃ g off, o = some ⟨g, off, none⟩ ∧ F' g ∧ KsOn w F' g off ks) := by
 obtain ⟨o, j, rfl⟩ := h.form
 obtain ⟨xs, rfl, h2, h3⟩ := h
 refine ⟨o, _, j, rfl, rfl, ?_⟩
 by_cases hx : xs = []
 ·left; rw [hx]; rfl
 ·right
  obtain ⟨g, rfl, _⟩ := ownsNd_cells h2 0 (List.length_pos_iff.2 hx)
  refine ⟨g, 0, rfl, hv g rfl, KsOn.of fun k hk => ?_⟩
  have hk' : k < xs.length := by simpa using hk
  obtain ⟨g', hg', hn⟩ := ownsNd_cells h2 k hk'
  simp only [Option.some.injEq, Addr.mk.injEq, and_true] at hg'
  subst hg'
  rw [Nat.zero_add]
  simp only [List.getElem_map]
  exact ⟨_, _, hn, NdOn.move (fun b hb hf => ⟨hF b hb hf, rfl⟩) _ _ _ (h3 _ (List.getElem_mem hk'))⟩
structure Fr where
 e : Nat
 va : Value
 vk : Value
 t : Tr
def frC (f : Fr) : Array Value := #[.int .i64 f.t.kd, .string (bs f.t.nm), .string (bs f.t.tx), f.va, f.vk]
def FrAt (w : World) (f : Fr) : Prop := w.heap[f.e]? = some (.cells (frC f) 25 (0, 0))
def acts (fs : List Fr) : List Nat := fs.flatMap fun f => f.e :: f.vk.ownBlock.toList
theorem acts_cons (f : Fr) (fs : List Fr) : acts (f :: fs) = f.e :: (f.vk.ownBlock.toList ++ acts fs) := by simp [acts]
theorem mem_acts {fs : List Fr} {f : Fr} (hf : f ∈ fs) : f.e ∈ acts fs ∧ ∀ g, f.vk.ownBlock = some g → g ∈ acts fs := by
 unfold acts
 simp only [List.mem_flatMap, List.mem_cons, Option.mem_toList]
 exact ⟨⟨f, hf, .inl rfl⟩, fun g hg => ⟨f, hf, .inr hg⟩⟩
structure OkB (B H : Nat) (fut : List Nat) (vo : Value) (fs : List Fr) (b : Nat) : Prop where
 lo : B ≤ b
 fu : b ∉ fut
 ac : b ∉ acts fs
 bx : b < H ∨ H + 6 ≤ b
 op : some b ≠ vo.ownBlock
def topFn (H : Nat) : Value := .func (.func 56) #[] #[.pointer (some ⟨H + 3, 0, none⟩)]
def putFn (H : Nat) : Value := .func (.func 57) #[] #[.pointer (some ⟨H + 4, 0, none⟩)]
structure GS (B H : Nat) (fut : List Nat) (w : World) (vo : Value) (fs : List Fr) : Prop where
 hB : B ≤ H
 sz : H + 6 ≤ w.heap.size
 ob : w.heap[H + 3]? = some (.cells #[vo] 85 (0, 0))
 tb : w.heap[H + 4]? = some (.cells #[topFn H] 86 (0, 0))
 pb : w.heap[H + 5]? = some (.cells #[putFn H] 49 (0, 0))
 own : w.ownsRow (H + 2) 84 1 vo fs.length (fs.reverse.map fun f => .pointer (some ⟨f.e, 0, none⟩))
 frs : ∀ f, f ∈ fs → FrAt w f ∧ AtsOn w (OkB B H fut vo fs) f.va f.t.ats ∧ OwnsNd (H + 6) w (OkB B H fut vo fs) f.vk f.t.ks
 nd : (acts fs).Nodup
 hi : ∀ b, b ∈ acts fs → b = H + 1 ∨ H + 6 ≤ b
 ft : ∀ b, b ∈ fut → b < H
theorem OkB.keep {B H : Nat} {fut fut' : List Nat} {vo vo' : Value} {fs fs' : List Fr} {b : Nat} (h : OkB B H fut vo fs b) (h1 : b ∉ fut → b ∉ fut') (h2 : b ∉ acts fs') (h3 : some b ≠ vo'.ownBlock) : OkB B H fut' vo' fs' b := ⟨h.lo, h1 h.fu, h2, h.bx, h3⟩
theorem block_of_heap {w : World} {b : Nat} {o : Obj} (h : w.heap[b]? = some o) : b < w.heap.size := (Array.getElem?_eq_some_iff.1 h).1
theorem ownsRow_block {B : Nat} {w : World} {e : TypeId} {size n : Nat} {v : Value} {xs : List Value} (h : w.ownsRow B e size v n xs) {g : Nat} (hg : v.ownBlock = some g) : B ≤ g ∧ ∃ cur, w.heap[g]? = some (.cells cur e (0, 0)) := by
 rcases h.2 with ⟨h0, _⟩ | ⟨g', cap, cur, e1, e2, hb, _⟩
 ·rw [h0] at hg; cases hg
 ·rw [e1] at hg
  simp [Value.ownBlock] at hg
  subst hg
  exact ⟨e2, cur, hb⟩
theorem nd_ne_ptr : (25 : TypeId) ≠ 84 := by decide
theorem GS.act {B H : Nat} {fut : List Nat} {w : World} {vo : Value} {fs : List Fr} (h : GS B H fut w vo fs) {b : Nat} (hb : b ∈ acts fs) : ∃ cur, w.heap[b]? = some (.cells cur 25 (0, 0)) := by
 unfold acts at hb
 simp only [List.mem_flatMap, List.mem_cons, Option.mem_toList] at hb
 obtain ⟨f, hf, hb⟩ := hb
 obtain ⟨h1, _, xs, _, h3, _⟩ := h.frs f hf
 rcases hb with rfl | hb
 ·exact ⟨_, h1⟩
 ·exact (ownsRow_block h3 hb).2
theorem GS.vo_ne {B H : Nat} {fut : List Nat} {w : World} {vo : Value} {fs : List Fr} (h : GS B H fut w vo fs) {b : Nat} (hb : b ∈ acts fs) : some b ≠ vo.ownBlock := by
 intro e
 obtain ⟨_, cur, h1⟩ := ownsRow_block h.own e.symm
 obtain ⟨cur2, h2⟩ := h.act hb
 rw [h1] at h2
 simp only [Option.some.injEq, Obj.cells.injEq] at h2
 exact nd_ne_ptr h2.2.1.symm
theorem GS.below {B H : Nat} {fut : List Nat} {w w' : World} {vo : Value} {fs : List Fr} (h : GS B H fut w vo fs) (hb : Below w.heap.size w w') : GS B H fut w' vo fs := by
 have hbl : ∀ b o, w.heap[b]? = some o → w'.heap[b]? = some o := fun b o ho => (hb.block b (block_of_heap ho)).trans ho
 refine ⟨h.hB, Nat.le_trans h.sz hb.size, hbl _ _ h.ob, hbl _ _ h.tb, hbl _ _ h.pb, ownsRow_keep h.own (fun g hg => ?_), fun f hf => ?_, h.nd, h.hi, h.ft⟩
 ·obtain ⟨_, cur, h1⟩ := ownsRow_block h.own hg
  exact hb.block g (block_of_heap h1)
 ·obtain ⟨h1, h2, h3⟩ := h.frs f hf
  refine ⟨hbl _ _ h1, h2.move (fun b hb0 hF => ⟨hF, hb.block b hb0⟩), h3.move (fun b hb0 hF => ⟨hF, hb.block b hb0⟩) (fun g hg => ?_)⟩
  obtain ⟨xs, _, h4, _⟩ := h3
  obtain ⟨_, cur, h5⟩ := ownsRow_block h4 hg
  exact hb.block g (block_of_heap h5)
theorem GS.draws {B H : Nat} {fut : List Nat} {w : World} {vo : Value} {fs : List Fr} (h : GS B H fut w vo fs) (n : Nat) : GS B H fut (w.drewN n) vo fs := h.below ⟨rfl, rfl, rfl, Nat.le_refl _, fun _ _ => rfl⟩
theorem GS.form {B H : Nat} {fut : List Nat} {w : World} {vo : Value} {fs : List Fr} (h : GS B H fut w vo fs) (hne : fs ≠ []) : ∃ g cap, vo = .slice (some ⟨g, 0, none⟩) fs.length cap ∧ fs.length ≤ cap ∧ g < w.heap.size ∧
  ∀ k (hk : k < fs.length), w.cell? ⟨g, fs.length - 1 - k, none⟩ = some (.pointer (some ⟨fs[k].e, 0, none⟩)) := by
 have h0 := h.own
 rcases h.own.2 with ⟨_, h1⟩ | ⟨g, cap, cur, e1, e2, hg, e3, _⟩
 ·exact absurd (List.eq_nil_of_length_eq_zero h1) hne
 ·refine ⟨g, cap, e1, e3, block_of_heap hg, fun k hk => ?_⟩
  have hc := World.ownsRow.cells h0 (g := g) (by rw [e1]; rfl)
  have := hc (fs.length - 1 - k) (.pointer (some ⟨fs[k].e, 0, none⟩)) (by
   rw [List.getElem?_map, List.getElem?_reverse (by omega), show fs.length - 1 - (fs.length - 1 - k) = k by omega, List.getElem?_eq_getElem hk]
   rfl)
  rwa [Addr.add_lit, Nat.zero_add] at this
theorem FrAt.cells {w : World} {f : Fr} (h : FrAt w f) : NdAt w f.e 0 f.t f.va f.vk := by
 unfold FrAt at h
 refine ⟨?_, ?_, ?_, ?_, ?_⟩ <;> simp [World.cell?, h, frC]
theorem FrAt.free {w : World} {f : Fr} (h : FrAt w f) (i : Nat) : w.frozen? ⟨f.e, i, none⟩ = false := by
 unfold FrAt at h
 simp [World.frozen?, h]
end Char
namespace Char
open Go.RowKit Go.Lib
theorem heap_set {w : World} {b o : Nat} {v : Value} {cs : Array Value} {t : TypeId} {fr : Nat × Nat} (h : w.heap[b]? = some (.cells cs t fr)) : (w.setCell ⟨b, o, none⟩ v).heap[b]? = some (.cells (cs.setIfInBounds o v) t fr) := by
 simp [World.setCell, Array.getElem?_modify, h]
theorem heap_set_ne {w : World} {b o k : Nat} {v : Value} (h : k ≠ b) : (w.setCell ⟨b, o, none⟩ v).heap[k]? = w.heap[k]? := Below.heap_setCell w ⟨b, o, none⟩ v k h
theorem GS.pop {B H : Nat} {fut : List Nat} {w : World} {vo : Value} {f f2 : Fr} {r : List Fr} (h : GS B H fut w vo (f :: f2 :: r)) : ∃ g cap, vo = .slice (some ⟨g, 0, none⟩) (r.length + 2) cap ∧ r.length + 2 ≤ cap ∧
  (∀ w', w' = w.setCell ⟨H + 3, 0, none⟩ (.slice (some ⟨g, 0, none⟩) (r.length + 1) cap) → GS B H fut w' (.slice (some ⟨g, 0, none⟩) (r.length + 1) cap) (f2 :: r) ∧ NdOn w' (OkB B H fut (.slice (some ⟨g, 0, none⟩) (r.length + 1) cap) (f2 :: r)) f.t f.va f.vk ∧ FrAt w' f) := by
 rcases h.own.2 with ⟨_, h1⟩ | ⟨g, cap, cur, e1, e2, hg, e3, e4, e5, e6⟩
 ·cases h1
 refine ⟨g, cap, e1, e3, fun w' hw => ?_⟩
 have hw2 : ∀ k, k ≠ H + 3 → w'.heap[k]? = w.heap[k]? := fun k hk => by rw [hw]; exact heap_set_ne hk
 have hsz : w'.heap.size = w.heap.size := by rw [hw, World.size_setCell]
 have hac : ∀ b, b ∈ acts (f2 :: r) → b ∈ acts (f :: f2 :: r) := fun b hb => by
  rw [acts_cons f]
  exact List.mem_cons_of_mem _ (List.mem_append_right _ hb)
 have hnd := h.nd
 rw [acts_cons f, List.nodup_cons, List.nodup_append] at hnd
 have hok : ∀ b, b < w.heap.size → OkB B H fut vo (f :: f2 :: r) b → OkB B H fut (.slice (some ⟨g, 0, none⟩) (r.length + 1) cap) (f2 :: r) b ∧ w'.heap[b]? = w.heap[b]? := fun b _ hb =>
  ⟨hb.keep (fun x => x) (fun hx => hb.ac (hac b hx)) (by have := hb.op; rw [e1] at this; exact this), hw2 b (by have := hb.bx; omega)⟩
 have hav : ∀ b, b ∈ acts (f :: f2 :: r) → w'.heap[b]? = w.heap[b]? := fun b hb => hw2 b (by have := h.hi b hb; omega)
 have hmove : ∀ f', f' ∈ f :: f2 :: r → FrAt w' f' ∧ AtsOn w' (OkB B H fut (.slice (some ⟨g, 0, none⟩) (r.length + 1) cap) (f2 :: r)) f'.va f'.t.ats ∧ OwnsNd (H + 6) w' (OkB B H fut (.slice (some ⟨g, 0, none⟩) (r.length + 1) cap) (f2 :: r)) f'.vk f'.t.ks := fun f' hf => by
  obtain ⟨h1, h2, h3⟩ := h.frs f' hf
  exact ⟨(hav _ (mem_acts hf).1).trans h1, h2.move hok, h3.move hok (fun g hg => hav g ((mem_acts hf).2 g hg))⟩
 have hgo : g ≠ H + 3 := by
  rintro rfl
  have := h.ob
  rw [hg] at this
  simp only [Option.some.injEq, Obj.cells.injEq] at this
  exact absurd this.2.1 (by decide)
 obtain ⟨m1, m2, m3⟩ := hmove f (by simp)
 refine ⟨⟨h.hB, by rw [hsz]; exact h.sz, ?_, (hw2 _ (by omega)).trans h.tb, (hw2 _ (by omega)).trans h.pb, ⟨by simp, .inr ⟨g, cap, cur, rfl, e2, (hw2 g hgo).trans hg, by simp at e3 ⊢; omega, e4, e5, ?_⟩⟩, fun f' hf => hmove f' (List.mem_cons_of_mem _ hf), hnd.2.2.1, fun b hb => h.hi b (hac b hb), h.ft⟩, ?_, m1⟩
 ·rw [hw]
  exact (heap_set h.ob).trans rfl
 ·have h6 := congrArg (fun l => l.take (r.length + 1)) e6
  simp only [List.length_cons, List.take_take, Nat.mul_one] at h6
  rw [show min (r.length + 1) (r.length + 1 + 1) = r.length + 1 by omega] at h6
  rw [List.length_cons, Nat.mul_one, h6, List.reverse_cons, List.map_append, List.take_append_of_le_length (by simp), List.take_of_length_le (by simp)]
 ·refine NdOn.of m2 (m3.on (fun _ _ hF => hF) fun g' hg' => ?_)
  have hmem : g' ∈ acts (f :: f2 :: r) := (mem_acts (f := f) (by simp)).2 g' hg'
  obtain ⟨xs, _, k2, _⟩ := m3
  have hb2 := ownsRow_block k2 hg'
  refine ⟨by have := h.hB; omega, fun hx => by have := h.ft g' hx; omega, fun hx => ?_, .inr hb2.1, ?_⟩
  ·exact hnd.2.2.2 g' (by simp [hg']) g' hx rfl
  ·have := h.vo_ne hmem
   rw [e1] at this
   exact this
theorem GS.turn {B H : Nat} {fut : List Nat} {w w' : World} {vo : Value} {f f' : Fr} {r : List Fr} (h : GS B H fut w vo (f :: r)) (hsz : w.heap.size ≤ w'.heap.size)
  (hbl : ∀ b, b < w.heap.size → b ≠ f.e → some b ≠ f.vk.ownBlock → w'.heap[b]? = w.heap[b]?) (he : f'.e = f.e) (hva : f'.va = f.va) (hats : f'.t.ats = f.t.ats) (hat : FrAt w' f')
  (hnew : ∀ g, f'.vk.ownBlock = some g → f.vk.ownBlock = some g ∨ w.heap.size ≤ g)
  (hown : (∀ b, b < w.heap.size → OkB B H fut vo (f :: r) b → OkB B H fut vo (f' :: r) b ∧ w'.heap[b]? = w.heap[b]?) → OwnsNd (H + 6) w' (OkB B H fut vo (f' :: r)) f'.vk f'.t.ks) : GS B H fut w' vo (f' :: r) := by
 have hac : ∀ b, b < w.heap.size → b ∈ acts (f' :: r) → b ∈ acts (f :: r) := fun b hb hx => by
  rw [acts_cons] at hx ⊢
  simp only [List.mem_cons, List.mem_append, Option.mem_toList] at hx ⊢
  rcases hx with hx | hx | hx
  ·exact .inl (hx.trans he)
  ·rcases hnew b hx with h1 | h1
   ·exact .inr (.inl h1)
   ·omega
  ·exact .inr (.inr hx)
 have hnd := h.nd
 rw [acts_cons f, List.nodup_cons, List.nodup_append] at hnd
 obtain ⟨n1, n2, n3, n4⟩ := hnd
 rw [List.mem_append, not_or] at n1
 have hinr : ∀ b, b ∈ acts r → b < w.heap.size ∧ b ≠ f.e ∧ some b ≠ f.vk.ownBlock := fun b hb => by
  obtain ⟨cur, hc⟩ := h.act (b := b) (by rw [acts_cons]; exact List.mem_cons_of_mem _ (List.mem_append_right _ hb))
  exact ⟨block_of_heap hc, fun e => n1.2 (e ▸ hb), fun e => n4 b (by simp [← e]) b hb rfl⟩
 have hok : ∀ b, b < w.heap.size → OkB B H fut vo (f :: r) b → OkB B H fut vo (f' :: r) b ∧ w'.heap[b]? = w.heap[b]? := fun b hb hF =>
  ⟨hF.keep (fun x => x) (fun hx => hF.ac (hac b hb hx)) hF.op, hbl b hb (fun e => hF.ac (by rw [acts_cons, e]; exact List.mem_cons_self)) (fun e => hF.ac (by rw [acts_cons]; exact List.mem_cons_of_mem _ (List.mem_append_left _ (by simp [← e]))))⟩
 have hbx : ∀ b, H + 3 ≤ b → b < H + 6 → w'.heap[b]? = w.heap[b]? := fun b h1 h2 => hbl b (by have := h.sz; omega) (by have := h.hi f.e (by rw [acts_cons]; exact List.mem_cons_self); omega) (fun e => by
  have h3 := h.hi b (by rw [acts_cons]; exact List.mem_cons_of_mem _ (List.mem_append_left _ (by simp [← e])))
  omega)
 have hvo : ∀ g, vo.ownBlock = some g → w'.heap[g]? = w.heap[g]? := fun g hg => by
  obtain ⟨_, cur, h1⟩ := ownsRow_block h.own hg
  refine hbl g (block_of_heap h1) (fun e => ?_) (fun e => ?_)
  ·exact h.vo_ne (b := f.e) (by rw [acts_cons]; exact List.mem_cons_self) (by rw [hg, e])
  ·exact h.vo_ne (b := g) (by rw [acts_cons]; exact List.mem_cons_of_mem _ (List.mem_append_left _ (by simp [← e]))) hg.symm
 have hkb : ∀ g, f'.vk.ownBlock = some g → H + 6 ≤ g := fun g hg => by
  obtain ⟨xs, _, k2, _⟩ := hown hok
  exact (ownsRow_block k2 hg).1
 refine ⟨h.hB, Nat.le_trans h.sz hsz, (hbx _ (by omega) (by omega)).trans h.ob, (hbx _ (by omega) (by omega)).trans h.tb, (hbx _ (by omega) (by omega)).trans h.pb, ?_, fun f2 hf2 => ?_, ?_, fun b hb => ?_, h.ft⟩
 ·have := ownsRow_keep h.own hvo
  simpa [he] using this
 ·rw [List.mem_cons] at hf2
  rcases hf2 with rfl | hf2
  ·refine ⟨hat, ?_, hown hok⟩
   rw [hva, hats]
   exact (h.frs f (by simp)).2.1.move hok
  ·obtain ⟨h1, h2, h3⟩ := h.frs f2 (List.mem_cons_of_mem _ hf2)
   have hm := mem_acts hf2
   refine ⟨?_, h2.move hok, h3.move hok (fun g hg => ?_)⟩
   ·obtain ⟨q1, q2, q3⟩ := hinr _ hm.1
    exact (hbl _ q1 q2 q3).trans h1
   ·obtain ⟨q1, q2, q3⟩ := hinr _ (hm.2 g hg)
    exact hbl _ q1 q2 q3
 ·rw [acts_cons, List.nodup_cons, List.nodup_append, List.mem_append, not_or]
  refine ⟨⟨fun hx => ?_, by rw [he]; exact n1.2⟩, by cases f'.vk.ownBlock <;> simp, n3, fun a ha b hb e => ?_⟩
  ·simp only [Option.mem_toList] at hx
   rcases hnew _ hx with h1 | h1
   ·exact n1.1 (by simp [← he, h1])
   ·have := block_of_heap (h.frs f (by simp)).1
    rw [he] at h1
    omega
  ·simp only [Option.mem_toList] at ha
   subst e
   rcases hnew _ ha with h1 | h1
   ·exact n4 a (by simp [h1]) a hb rfl
   ·have := (hinr a hb).1
    omega
 ·rw [acts_cons] at hb
  simp only [List.mem_cons, List.mem_append, Option.mem_toList] at hb
  rcases hb with hb | hb | hb
  ·rw [hb, he]
   exact h.hi f.e (by rw [acts_cons]; exact List.mem_cons_self)
  ·exact .inr (hkb b hb)
  ·exact h.hi b (by rw [acts_cons]; exact List.mem_cons_of_mem _ (List.mem_append_right _ hb))
theorem take_set_last {α : Type} : ∀ (l : List α) (x : α), l ≠ [] → l.set (l.length - 1) x = l.dropLast ++ [x]
 | [a], x, _ => rfl
 | a :: b :: r, x, _ => by
  have := take_set_last (b :: r) x (by simp)
  simpa using this
theorem GS.merge {B H : Nat} {fut : List Nat} {w : World} {vo : Value} {f : Fr} {r : List Fr} (h : GS B H fut w vo (f :: r)) {k : Tr} (hl : f.t.ks.getLast? = some k) (hk : k.kd = 4) {n : Tr} (hn : n.kd = 4) :
  ∃ g cap, f.vk = .slice (some ⟨g, 0, none⟩) f.t.ks.length cap ∧ g < w.heap.size ∧ w.cell? ⟨g, (f.t.ks.length - 1) * 5, none⟩ = some (.int .i64 4) ∧ w.cell? ⟨g, (f.t.ks.length - 1) * 5 + 2, none⟩ = some (.string (bs k.tx)) ∧ (∀ i, w.frozen? ⟨g, i, none⟩ = false) ∧
   (∀ w', w' = w.setCell ⟨g, (f.t.ks.length - 1) * 5 + 2, none⟩ (.string (bs (k.tx ++ n.tx))) → GS B H fut w' vo (⟨f.e, f.va, f.vk, f.t.put n⟩ :: r)) := by
 obtain ⟨hf, ha, xs, hx, hown, hnd⟩ := h.frs f (by simp)
 have hne : f.t.ks ≠ [] := by intro e; rw [e] at hl; cases hl
 have hxl : xs.length = f.t.ks.length := by rw [← hx, List.length_map]
 have hpos : 0 < f.t.ks.length := List.length_pos_iff.2 hne
 rcases hown.2 with ⟨_, h1⟩ | ⟨g, cap, cur, e1, e2, hg, e3, e4, e5, e6⟩
 ·omega
 rw [e1] at hown
 obtain ⟨g', hg', hc⟩ := ownsNd_cells hown (xs.length - 1) (by omega)
 simp only [Option.some.injEq, Addr.mk.injEq, and_true] at hg'
 subst hg'
 have hlast : xs[xs.length - 1].1 = k := by
  have : f.t.ks.getLast? = some xs[xs.length - 1].1 := by
   rw [← hx, List.getLast?_map, List.getLast?_eq_getElem?, List.getElem?_eq_getElem (by omega)]
   rfl
  rw [this] at hl
  exact Option.some.inj hl
 rw [hlast] at hc
 obtain ⟨c0, c1, c2, c3, c4⟩ := hc
 rw [hk, hxl] at c0
 rw [hxl] at c2
 refine ⟨g, cap, by rw [e1, hxl], block_of_heap hg, c0, c2, fun i => by simp [World.frozen?, hg], fun w' hw => ?_⟩
 have hge : g ≠ f.e := by
  intro e
  have hnd2 := h.nd
  rw [acts_cons, List.nodup_cons, e1] at hnd2
  exact hnd2.1 (by simp [Value.ownBlock, e])
 have hbl : ∀ b, b ≠ g → w'.heap[b]? = w.heap[b]? := fun b hb => by rw [hw]; exact heap_set_ne hb
 refine h.turn (f' := ⟨f.e, f.va, f.vk, f.t.put n⟩) (by rw [hw, World.size_setCell]; exact Nat.le_refl _) (fun b _ _ hb2 => hbl b (fun e => hb2 (by rw [e, e1]; rfl))) rfl rfl rfl ((hbl _ (fun e => hge e.symm)).trans hf) (fun g' hg' => .inl hg') (fun hok => ?_)
 have hpk : putK f.t.ks n = f.t.ks.dropLast ++ [.mk k.kd k.nm (k.tx ++ n.tx) k.ats k.ks] := by
  unfold putK
  rw [hl]
  simp [hk, hn]
 let y : NdV := (.mk k.kd k.nm (k.tx ++ n.tx) k.ats k.ks, xs[xs.length - 1].2.1, xs[xs.length - 1].2.2)
 refine ⟨xs.dropLast ++ [y], ?_, ?_, ?_⟩
 ·show _ = putK f.t.ks n
  rw [hpk, List.map_append, List.map_dropLast, hx]
  rfl
 ·have hlen : (xs.dropLast ++ [y]).length = xs.length := by simp; omega
  rw [hlen]
  refine ⟨by rw [ndsC_len, hlen], .inr ⟨g, cap, cur.setIfInBounds ((f.t.ks.length - 1) * 5 + 2) (.string (bs (k.tx ++ n.tx))), by rw [e1], e2, ?_, e3, e4, by simpa using e5, ?_⟩⟩
  ·rw [hw]; exact heap_set hg
  ·rw [Array.toList_setIfInBounds, List.take_set, e6]
   have hsp : xs = xs.dropLast ++ [xs[xs.length - 1]] := by
    have := (List.dropLast_concat_getLast (l := xs) (by intro e; rw [e] at hxl; simp at hxl; omega)).symm
    rwa [List.getLast_eq_getElem] at this
   generalize hz : xs[xs.length - 1] = z at *
   rw [show ndsC xs = ndsC xs.dropLast ++ ndC z by rw [← ndsC_snoc, ← hsp], ndsC_snoc]
   have hdl : (ndsC xs.dropLast).length = (f.t.ks.length - 1) * 5 := by rw [ndsC_len, List.length_dropLast, hxl]
   rw [List.set_append_right _ _ (by omega), show (f.t.ks.length - 1) * 5 + 2 - (ndsC xs.dropLast).length = 2 by omega]
   simp only [ndC, y, hlast, List.set_cons_succ, List.set_cons_zero, Tr.kd, Tr.nm, Tr.tx, hz]
 ·intro x hx2
  rw [List.mem_append, List.mem_singleton] at hx2
  rcases hx2 with hx2 | rfl
  ·exact NdOn.move hok _ _ _ (hnd x (List.dropLast_subset _ hx2))
  ·have h0 := hnd _ (List.getElem_mem (show xs.length - 1 < xs.length by omega))
   have h2 := NdOn.move hok _ _ _ h0
   rw [hlast] at h2
   exact NdOn.of h2.ats h2.kids
theorem GS.put {B H : Nat} {fut : List Nat} {w w1 : World} {vo : Value} {f : Fr} {r : List Fr} (h : GS B H fut w vo (f :: r)) {n : Tr} {va vk : Value} (hn : NdOn w (OkB B H fut vo (f :: r)) n va vk) (hp : putK f.t.ks n = f.t.ks ++ [n])
  {g cap : Nat} (hown : ∀ xs : List NdV, xs.map (·.1) = f.t.ks → w.ownsRow (H + 6) 25 5 f.vk xs.length (ndsC xs) → w1.ownsRow (H + 6) 25 5 (.slice (some ⟨g, 0, none⟩) (xs.length + 1) cap) (xs.length + 1) (ndsC xs ++ ndC (n, va, vk)))
  (hbl : ∀ b, b < w.heap.size → some b ≠ f.vk.ownBlock → w1.heap[b]? = w.heap[b]?) (hsz : w.heap.size ≤ w1.heap.size) (hg : f.vk.ownBlock = some g ∨ w.heap.size ≤ g) :
  GS B H fut (w1.setCell ⟨f.e, 4, none⟩ (.slice (some ⟨g, 0, none⟩) (f.t.ks.length + 1) cap)) vo (⟨f.e, f.va, .slice (some ⟨g, 0, none⟩) (f.t.ks.length + 1) cap, f.t.put n⟩ :: r) := by
 obtain ⟨hf, ha, xs, hx, hown0, hnd⟩ := h.frs f (by simp)
 have hxl : xs.length = f.t.ks.length := by rw [← hx, List.length_map]
 have ho := hown xs hx hown0
 have hfe : f.e < w.heap.size := block_of_heap hf
 have hne : some f.e ≠ f.vk.ownBlock := fun e => by
  have hnd2 := h.nd
  rw [acts_cons, List.nodup_cons] at hnd2
  exact hnd2.1 (List.mem_append_left _ (by simp [← e]))
 have hgf : g ≠ f.e := by
  rcases hg with hg | hg
  ·intro e; exact hne (by rw [hg, e])
  ·omega
 have hf1 : w1.heap[f.e]? = some (.cells (frC f) 25 (0, 0)) := (hbl _ hfe hne).trans hf
 refine h.turn (f' := ⟨f.e, f.va, .slice (some ⟨g, 0, none⟩) (f.t.ks.length + 1) cap, f.t.put n⟩) (by rw [World.size_setCell]; exact hsz) (fun b hb h1 h2 => (heap_set_ne h1).trans (hbl b hb h2)) rfl rfl rfl ((heap_set hf1).trans rfl) (fun g' hg' => ?_) (fun hok => ?_)
 ·simp [Value.ownBlock] at hg'
  subst hg'
  exact hg
 ·refine ⟨xs ++ [(n, va, vk)], ?_, ?_, ?_⟩
  ·show _ = putK f.t.ks n
   rw [hp, List.map_append, hx]
   rfl
  ·rw [List.length_append, ndsC_snoc, ← hxl]
   exact ownsRow_keep ho (fun g' hg' => by
    simp [Value.ownBlock] at hg'
    subst hg'
    exact heap_set_ne hgf)
  ·intro x hx2
   rw [List.mem_append, List.mem_singleton] at hx2
   rcases hx2 with hx2 | rfl
   ·exact NdOn.move hok _ _ _ (hnd x hx2)
   ·exact NdOn.move hok _ _ _ hn
theorem GS.push {B H : Nat} {fut fut' : List Nat} {w w4 : World} {vo vo' : Value} {fs : List Fr} {f' : Fr} (h : GS B H fut w vo fs) (hva : ∀ g, f'.va.ownBlock = some g → g ∈ fut) (hfut : ∀ b, b ∈ fut' → b ∈ fut ∧ f'.va.ownBlock ≠ some b)
  (he : w.heap.size ≤ f'.e) (hvk : f'.vk = .slice none 0 0) (hks : f'.t.ks = []) (hat : FrAt w4 f') (hats : OwnsAt B w4 f'.va f'.t.ats)
  (hbl : ∀ b, b < w.heap.size → b ≠ H + 3 → some b ≠ vo.ownBlock → some b ≠ f'.va.ownBlock → w4.heap[b]? = w.heap[b]?) (hsz : w.heap.size ≤ w4.heap.size)
  (hob : w4.heap[H + 3]? = some (.cells #[vo'] 85 (0, 0)))
  (hown : w4.ownsRow (H + 2) 84 1 vo' (fs.length + 1) ((fs.reverse.map fun f => .pointer (some ⟨f.e, 0, none⟩)) ++ [.pointer (some ⟨f'.e, 0, none⟩)]))
  (hvo : vo'.ownBlock = vo.ownBlock ∨ ∀ g, vo'.ownBlock = some g → w.heap.size ≤ g) : GS B H fut' w4 vo' (f' :: fs) := by
 have hac : acts (f' :: fs) = f'.e :: acts fs := by rw [acts_cons, hvk]; rfl
 have hlt : ∀ b, b ∈ acts fs → b < w.heap.size := fun b hb => by
  obtain ⟨cur, hc⟩ := h.act hb
  exact block_of_heap hc
 have hvaH : ∀ g, f'.va.ownBlock = some g → g < H := fun g hg => h.ft g (hva g hg)
 have hact : ∀ b, b ∈ acts fs → w4.heap[b]? = w.heap[b]? := fun b hb => by
  have h1 := h.hi b hb
  exact hbl b (hlt b hb) (by omega) (h.vo_ne hb) (fun e => by have := hvaH b e.symm; omega)
 have hop : ∀ b, b < w.heap.size → some b ≠ vo.ownBlock → some b ≠ vo'.ownBlock := fun b hb hne e => by
  rcases hvo with h1 | h1
  ·exact hne (by rw [← h1]; exact e)
  ·have := h1 b e.symm
   omega
 have hok : ∀ b, b < w.heap.size → OkB B H fut vo fs b → OkB B H fut' vo' (f' :: fs) b ∧ w4.heap[b]? = w.heap[b]? := fun b hb hF => by
  refine ⟨hF.keep (fun x hx => x (hfut b hx).1) (fun hx => ?_) (hop b hb hF.op), hbl b hb (by have := hF.bx; omega) hF.op (fun e => hF.fu (hva b e.symm))⟩
  rw [hac, List.mem_cons] at hx
  rcases hx with hx | hx
  ·omega
  ·exact hF.ac hx
 have hbx : ∀ b, H + 4 ≤ b → b < H + 6 → ∀ o, w.heap[b]? = some o → (∀ cur, o ≠ .cells cur 84 (0, 0)) → w4.heap[b]? = some o := fun b h1 h2 o ho hno => by
  refine (hbl b (block_of_heap ho) (by omega) (fun e => ?_) (fun e => by have := hvaH b e.symm; omega)).trans ho
  obtain ⟨_, cur, h3⟩ := ownsRow_block h.own e.symm
  rw [ho] at h3
  exact hno cur (Option.some.inj h3)
 refine ⟨h.hB, Nat.le_trans h.sz hsz, hob, hbx _ (by omega) (by omega) _ h.tb (fun cur e => ?_), hbx _ (by omega) (by omega) _ h.pb (fun cur e => ?_), ?_, fun f hf => ?_, ?_, fun b hb => ?_, fun b hb => h.ft b (hfut b hb).1⟩
 ·simp only [Obj.cells.injEq] at e
  exact absurd e.2.1 (by decide)
 ·simp only [Obj.cells.injEq] at e
  exact absurd e.2.1 (by decide)
 ·rw [List.length_cons, List.reverse_cons, List.map_append]
  exact hown
 ·rw [List.mem_cons] at hf
  rcases hf with rfl | hf
  ·refine ⟨hat, hats.on (fun g hg => ⟨(hats.block hg).1, fun hx => (hfut g hx).2 hg, fun hx => ?_, .inl (hvaH g hg), fun e => ?_⟩), ?_⟩
   ·rw [hac, List.mem_cons] at hx
    have h1 := hvaH g hg
    have h2 := h.sz
    rcases hx with hx | hx
    ·omega
    ·have := h.hi g hx
     omega
   ·have h1 := hvaH g hg
    have h2 := (ownsRow_block hown e.symm).1
    omega
   ·rw [hvk, hks]
    exact OwnsNd.nil _ _ _
  ·obtain ⟨h1, h2, h3⟩ := h.frs f hf
   have hm := mem_acts hf
   exact ⟨(hact _ hm.1).trans h1, h2.move hok, h3.move hok (fun g hg => hact g (hm.2 g hg))⟩
 ·rw [hac, List.nodup_cons]
  exact ⟨fun hx => by have := hlt _ hx; omega, h.nd⟩
 ·rw [hac, List.mem_cons] at hb
  rcases hb with rfl | hb
  ·have := h.sz
   exact .inr (by omega)
  ·exact h.hi b hb
theorem GS.start {B H : Nat} {fut : List Nat} {w : World} (hB : B ≤ H) (hft : ∀ b, b ∈ fut → b < H) (hsz : H + 6 ≤ w.heap.size)
  (h1 : w.heap[H + 1]? = some (.cells #[.int .i64 1, .string ⟨#[]⟩, .string ⟨#[]⟩, .slice none 0 0, .slice none 0 0] 25 (0, 0)))
  (h2 : w.heap[H + 2]? = some (.cells #[.pointer (some ⟨H + 1, 0, none⟩)] 84 (0, 0)))
  (h3 : w.heap[H + 3]? = some (.cells #[.slice (some ⟨H + 2, 0, none⟩) 1 1] 85 (0, 0)))
  (h4 : w.heap[H + 4]? = some (.cells #[topFn H] 86 (0, 0)))
  (h5 : w.heap[H + 5]? = some (.cells #[putFn H] 49 (0, 0))) :
  GS B H fut w (.slice (some ⟨H + 2, 0, none⟩) 1 1) [⟨H + 1, .slice none 0 0, .slice none 0 0, grd0⟩] := by
 refine ⟨hB, hsz, h3, h4, h5, ⟨rfl, .inr ⟨H + 2, 1, _, rfl, Nat.le_refl _, h2, Nat.le_refl _, by decide, rfl, rfl⟩⟩, fun f hf => ?_, by simp [acts, Value.ownBlock], fun b hb => ?_, hft⟩
 ·rw [List.mem_singleton] at hf
  subst hf
  exact ⟨h1, ⟨none, 0, 0, rfl, rfl, .inl rfl⟩, OwnsNd.nil _ _ _⟩
 ·simp [acts, Value.ownBlock] at hb
  exact .inl hb
end Char
end Go.Proofs.YtlmodgnkmlbjhaaGreatDoor
