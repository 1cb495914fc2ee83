/- The document's own store in memory. -/
import Derived.Test.YtpimdmjhnogelaaVsOn
import Derived.Test.YtpimdmjhnogelaaStoP
import Derived.Laws.AppendOwn
import Derived.OwnWalk
namespace Go.Proofs.Ytpimdmjhnogelaa.Char
open Go.RowKit Go.Lib

/-- a node's version, and the values of its record's slices -/
abbrev OnV := Int × VeV
def toOn (x : OnV) : On := ⟨x.1, toVe x.2⟩
def onC (x : OnV) : List Value := .int .i64 x.1 :: veC x.2
def onsC (xs : List OnV) : List Value := xs.flatMap onC
theorem onsC_len (xs : List OnV) : (onsC xs).length = xs.length * 9 := by
  induction xs with
  | nil => rfl
  | cons x r ih =>
    show (onC x ++ onsC r).length = _
    rw [List.length_append, ih, List.length_cons]
    show 9 + _ = _
    omega
theorem onsC_snoc (xs : List OnV) (x : OnV) : onsC (xs ++ [x]) = onsC xs ++ onC x := by simp [onsC]
theorem onsC_at : ∀ (xs : List OnV) (k i : Nat) (h : k < xs.length) (_ : i < 9), (onsC xs)[k * 9 + i]? = (onC xs[k])[i]?
  | [], k, _, h, _ => by simp at h
  | x :: r, 0, i, _, hi => by
    show (onC x ++ onsC r)[0 * 9 + i]? = _
    rw [show 0 * 9 + i = i by omega, List.getElem?_append_left (by show i < 9; exact hi)]
    rfl
  | x :: r, k + 1, i, h, hi => by
    have ih := onsC_at r k i (by simpa using h) hi
    show (onC x ++ onsC r)[(k + 1) * 9 + i]? = _
    rw [List.getElem?_append_right (by show 9 ≤ _; omega), show (k + 1) * 9 + i - (onC x).length = k * 9 + i by show (k + 1) * 9 + i - 9 = _; omega, ih]
    rfl
/-- blocks of which O does not hold stand as they stood -/
def Only (B : Nat) (O : Nat → Prop) (w w' : World) : Prop := Below B w w' ∧ ∀ k, k < w.heap.size → ¬ O k → w'.heap[k]? = w.heap[k]?
theorem Only.refl (B : Nat) (O : Nat → Prop) (w : World) : Only B O w w := ⟨Below.refl _ _, fun _ _ _ => rfl⟩
theorem Only.trans {B : Nat} {O O' : Nat → Prop} {a b c : World} (h : Only B O a b) (k : Only B O' b c) (hO : ∀ i, i < a.heap.size → O' i → O i) : Only B O a c :=
  ⟨h.1.trans k.1, fun i hi hn => (k.2 i (Nat.lt_of_lt_of_le hi h.1.size) (fun ho => hn (hO i hi ho))).trans (h.2 i hi hn)⟩
theorem Only.of {B : Nat} {O : Nat → Prop} {w w' : World} (h : Below w.heap.size w w') (hB : B ≤ w.heap.size) : Only B O w w' := ⟨h.mono hB, fun k hk _ => h.block k hk⟩
theorem Only.weak {B : Nat} {O O' : Nat → Prop} {w w' : World} (h : Only B O w w') (hO : ∀ i, i < w.heap.size → O i → O' i) : Only B O' w w' := ⟨h.1, fun k hk hn => h.2 k hk fun ho => hn (hO k hk ho)⟩
/-- a row of versions of one's own -/
def OwnsOn (B : Nat) (w : World) (F : Nat → Prop) (v : Value) (xs : List OnV) : Prop := w.ownsRow B 92 9 v xs.length (onsC xs) ∧ ∀ x, x ∈ xs → RcOn w F x.2.2
theorem OwnsOn.nil (B : Nat) (w : World) (F : Nat → Prop) : OwnsOn B w F (.slice none 0 0) [] := ⟨World.ownsRow_nil _ _ _ _, fun _ h => by cases h⟩
theorem OwnsOn.move {B : Nat} {w w' : World} {F F' : Nat → Prop} {v : Value} {xs : List OnV} (h : OwnsOn B w F v xs) (hr : ∀ g, v.ownBlock = some g → w'.heap[g]? = w.heap[g]?) (hm : ∀ b, b < w.heap.size → F b → F' b ∧ w'.heap[b]? = w.heap[b]?) : OwnsOn B w' F' v xs := by
  obtain ⟨⟨h1, h2⟩, h3⟩ := h
  refine ⟨⟨h1, ?_⟩, fun x hx => (h3 x hx).move hm⟩
  rcases h2 with h0 | ⟨g, cap, cur, e1, e2, hg, e3⟩
  · exact .inl h0
  · exact .inr ⟨g, cap, cur, e1, e2, (hr g (by rw [e1]; rfl)).trans hg, e3⟩
theorem OwnsOn.form {B : Nat} {w : World} {F : Nat → Prop} {v : Value} {xs : List OnV} (h : OwnsOn B w F v xs) : ∃ o j, v = .slice o xs.length j := by
  rcases h.1.2 with ⟨h0, h1⟩ | ⟨g, cap, cur, e1, _⟩
  · exact ⟨none, 0, by rw [h0, ← h1]⟩
  · exact ⟨_, _, e1⟩
theorem OwnsOn.blk {B : Nat} {w : World} {F : Nat → Prop} {v : Value} {xs : List OnV} (h : OwnsOn B w F v xs) {g : Nat} (hg : v.ownBlock = some g) : B ≤ g ∧ g < w.heap.size ∧ ∃ cur, w.heap[g]? = some (.cells cur 92 (0, 0)) := by
  rcases h.1.2 with ⟨h0, _⟩ | ⟨g', cap, cur, e1, e2, hg', _⟩
  · rw [h0] at hg; cases hg
  · rw [e1] at hg
    obtain rfl : g' = g := by simpa [Value.ownBlock] using hg
    exact ⟨e2, (Array.getElem?_eq_some_iff.1 hg').1, cur, hg'⟩
/-- the cells of the k-th -/
theorem OwnsOn.reads {B : Nat} {w : World} {F : Nat → Prop} {o : Option Addr} {i j : Nat} {xs : List OnV} (h : OwnsOn B w F (.slice o i j) xs) (k : Nat) (hk : k < xs.length) :
    ∃ g, o = some ⟨g, 0, none⟩ ∧ B ≤ g ∧ g < w.heap.size ∧ w.cell? ⟨g, k * 9, none⟩ = some (.int .i64 xs[k].1) ∧ w.cell? ⟨g, k * 9 + 1, none⟩ = some (.int .u64 (xs[k].2.1 : Int)) ∧ w.cell? ⟨g, k * 9 + 2, none⟩ = some (.int .i64 xs[k].2.2.1.kd) ∧
      w.cell? ⟨g, k * 9 + 3, none⟩ = some (.string (bs xs[k].2.2.1.nm)) ∧ w.cell? ⟨g, k * 9 + 4, none⟩ = some (.string (bs xs[k].2.2.1.tx)) ∧ w.cell? ⟨g, k * 9 + 5, none⟩ = some (.int .i64 xs[k].2.2.1.pa) ∧ w.cell? ⟨g, k * 9 + 6, none⟩ = some xs[k].2.2.2.1 ∧ w.cell? ⟨g, k * 9 + 7, none⟩ = some xs[k].2.2.2.2 ∧ w.cell? ⟨g, k * 9 + 8, none⟩ = some (.bool xs[k].2.2.1.gone) ∧ RcOn w F xs[k].2.2 := by
  have h0 := h.1
  have h9 := h.2
  obtain ⟨⟨_, h1 | ⟨g, cap, cur, e1, e2, hg, _⟩⟩, _⟩ := h
  · omega
  · simp only [Value.slice.injEq] at e1
    have hc := World.ownsRow.cells h0 (g := g) (by rw [e1.1]; rfl)
    have key : ∀ n, n < 9 → ∀ u, (onC xs[k])[n]? = some u → w.cell? ⟨g, k * 9 + n, none⟩ = some u := fun n hn u hu => by
      have := hc (k * 9 + n) u ((onsC_at xs k n hk hn).trans hu)
      rwa [Addr.add_lit, Nat.zero_add] at this
    exact ⟨g, e1.1, e2, (Array.getElem?_eq_some_iff.1 hg).1, key 0 (by omega) _ rfl, key 1 (by omega) _ rfl, key 2 (by omega) _ rfl, key 3 (by omega) _ rfl, key 4 (by omega) _ rfl, key 5 (by omega) _ rfl, key 6 (by omega) _ rfl, key 7 (by omega) _ rfl, key 8 (by omega) _ rfl, h9 _ (List.getElem_mem hk)⟩
theorem info_on : (Try.prog.info? 92).map (fun i => (i.zero, i.size, i.bytes)) = some (some (.agg #[.int .i64 0, .int .u64 0, .int .i64 0, .string ⟨#[]⟩, .string ⟨#[]⟩, .int .i64 0, .slice none 0 0, .slice none 0 0, .bool false]), 9, 120) := by kernel_rfl
/-- a store -/
structure RefS (B : Nat) (w : World) (b : Nat) (v : Value) (xs : List OnV) (gv lt : Nat) : Prop where
  cell : w.heap[b]? = some (.cells #[v, .int .i64 (gv : Int), .int .u64 (lt : Int)] 95 (0, 0))
  row : OwnsOn B w (fun g => g < B) v xs
  low : B ≤ b
theorem RefS.ne {B : Nat} {w : World} {b : Nat} {v : Value} {xs : List OnV} {gv lt : Nat} (h : RefS B w b v xs gv lt) : v.ownBlock ≠ some b := fun e => by
  obtain ⟨_, _, cur, hc⟩ := h.row.blk e
  rw [h.cell] at hc
  simp only [Option.some.injEq, Obj.cells.injEq] at hc
  exact absurd hc.2.1 (by decide)
theorem RefS.lt {B : Nat} {w : World} {b : Nat} {v : Value} {xs : List OnV} {gv lt : Nat} (h : RefS B w b v xs gv lt) : b < w.heap.size := (Array.getElem?_eq_some_iff.1 h.cell).1
theorem RefS.cells {B : Nat} {w : World} {b : Nat} {v : Value} {xs : List OnV} {gv lt : Nat} (h : RefS B w b v xs gv lt) :
    w.cell? ⟨b, 0, none⟩ = some v ∧ w.cell? ⟨b, 1, none⟩ = some (.int .i64 (gv : Int)) ∧ w.cell? ⟨b, 2, none⟩ = some (.int .u64 (lt : Int)) ∧ ∀ i, w.frozen? ⟨b, i, none⟩ = false :=
  ⟨by simp [World.cell?, h.cell], by simp [World.cell?, h.cell], by simp [World.cell?, h.cell], fun i => by simp [World.frozen?, h.cell]⟩
/-- the blocks that are its own -/
def ownB (b : Nat) (v : Value) (k : Nat) : Prop := k = b ∨ v.ownBlock = some k
theorem RefS.move {B : Nat} {w w' : World} {b : Nat} {v : Value} {xs : List OnV} {gv lt : Nat} (h : RefS B w b v xs gv lt) (ho : ∀ k, ownB b v k → w'.heap[k]? = w.heap[k]?) (hm : ∀ k, k < B → w'.heap[k]? = w.heap[k]?) : RefS B w' b v xs gv lt :=
  ⟨(ho b (.inl rfl)).trans h.cell, h.row.move (fun g hg => ho g (.inr hg)) (fun k _ hk => ⟨hk, hm k hk⟩), h.low⟩
theorem RefS.own {B : Nat} {w : World} {b : Nat} {v : Value} {xs : List OnV} {gv lt : Nat} (h : RefS B w b v xs gv lt) {k : Nat} (hk : ownB b v k) : B ≤ k ∧ k < w.heap.size := by
  rcases hk with rfl | hk
  · exact ⟨h.low, h.lt⟩
  · exact ⟨(h.row.blk hk).1, (h.row.blk hk).2.1⟩
theorem RefS.only {B : Nat} {w w' : World} {O : Nat → Prop} {b : Nat} {v : Value} {xs : List OnV} {gv lt : Nat} (h : RefS B w b v xs gv lt) (hw : Only B O w w') (hd : ∀ k, O k → ownB b v k → False) : RefS B w' b v xs gv lt :=
  h.move (fun k hk => hw.2 k (h.own hk).2 fun ho => hd k ho hk) fun k hk => hw.1.block k hk
theorem RefS.below {B : Nat} {w w' : World} {b : Nat} {v : Value} {xs : List OnV} {gv lt : Nat} (h : RefS B w b v xs gv lt) (hb : Below w.heap.size w w') : RefS B w' b v xs gv lt :=
  h.only (Only.of (O := fun _ => False) hb (Nat.le_trans h.low (Nat.le_of_lt h.lt))) fun _ hf _ => hf
end Go.Proofs.Ytpimdmjhnogelaa.Char
