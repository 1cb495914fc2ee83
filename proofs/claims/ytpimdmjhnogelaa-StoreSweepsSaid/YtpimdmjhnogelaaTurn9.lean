/- The store when one node's row has turned. -/
import Derived.Test.YtpimdmjhnogelaaNew9
namespace Go.Proofs.Ytpimdmjhnogelaa.Char
open Go.RowKit Go.Lib

def setF {α : Type} (f : Int → α) (id : Int) (a : α) : Int → α := fun i => if i = id then a else f i
theorem setF_at {α : Type} (f : Int → α) (id : Int) (a : α) : setF f id a id = a := if_pos rfl
theorem setF_ne {α : Type} {f : Int → α} {id i : Int} {a : α} (h : i ≠ id) : setF f id a i = f i := if_neg h
theorem PSt.turn {Z Z' : Nat → Prop} {B : Nat} {w : World} {b mb n : Nat} {D : DataW Value} {V : Int → Value} {X : Int → List VeV} {gv lt : Nat} (h : PSt Z B w b mb n D V X gv lt) {w1 w2 : World} {id : Int} {v1 : Value} {ys : List VeV} {n' : Nat} {D' : DataW Value}
    (ho : OwnsVe B w1 v1 ys) (hk : ∀ k, k < w.heap.size → some k ≠ (V id).ownBlock → w1.heap[k]? = w.heap[k]?) (hs1 : w.heap.size ≤ w1.heap.size) (hn : ∀ g, v1.ownBlock = some g → (V id).ownBlock = some g ∨ (w.heap.size ≤ g ∧ Z' g)) (hZ1 : ∀ g, Z g → Z' g) (hZ2 : ∀ g, Z' g → B ≤ g ∧ g < w2.heap.size)
    (hy : ∀ x, x ∈ ys → x ∈ X id ∨ (RcOn w1 (fun g => w.heap.size ≤ g ∧ Z' g ∧ v1.ownBlock ≠ some g) x.2 ∧ RcSm x.2.1)) (hup : upX ys) (hid : ys ≠ [] → 1 ≤ id ∧ id ≤ (gv : Int))
    (how : w2.ownsMap Try.prog 3 heldE mb n' D') (hh : ∀ j, Maps.has D' (kI j) = if j = id then !ys.isEmpty else Maps.has D (kI j)) (hv : ∀ j, D'.atKey (kI j) (.held nilV) = if j = id then .held v1 else D.atKey (kI j) (.held nilV))
    (hk2 : ∀ k, k < w1.heap.size → k ≠ mb → w2.heap[k]? = w1.heap[k]?) :
    PSt Z' B w2 b mb n' D' (setF V id v1) (setF X id ys) gv lt := by
  have hbl := h.lt'
  have hml := (h.zB mb (h.zo mb (.inr (.inl rfl)))).2
  -- what no row of its own may be, old or new
  have hown : ∀ g, ownP b mb (setF V id v1) g → ownP b mb V g ∨ w.heap.size ≤ g := fun g hg => by
    rcases hg with rfl | rfl | ⟨i, hi⟩
    · exact .inl (.inl rfl)
    · exact .inl (.inr (.inl rfl))
    · by_cases he : i = id
      · subst he
        rw [setF_at] at hi
        rcases hn g hi with h1 | h1
        · exact .inl (.inr (.inr ⟨i, h1⟩))
        · exact .inr h1.1
      · rw [setF_ne he] at hi
        exact .inl (.inr (.inr ⟨i, hi⟩))
  have stay : ∀ g, g < w.heap.size → g ≠ mb → some g ≠ (V id).ownBlock → w2.heap[g]? = w.heap[g]? := fun g h1 h2 h3 => (hk2 g (by omega) h2).trans (hk g h1 h3)
  have old : ∀ x : RcV, RcOn w (fun g => Z g ∧ ¬ ownP b mb V g) x → RcOn w2 (fun g => Z' g ∧ ¬ ownP b mb (setF V id v1) g) x := fun x hx => hx.move fun g hg hF => ⟨⟨hZ1 g hF.1, fun ho' => by
      rcases hown g ho' with h1 | h1
      · exact hF.2 h1
      · omega⟩, stay g hg (fun e => hF.2 (.inr (.inl e))) (fun e => hF.2 (.inr (.inr ⟨id, e.symm⟩)))⟩
  refine ⟨(stay b hbl h.b_ne_m fun e => h.ne_b id e.symm).trans h.cell, how, fun j => ?_, fun j => ?_, fun j => ?_, fun j x hx => ?_, fun j x hx => ?_, fun i j g hi hj => ?_, fun g hg => ?_, fun g hg => ?_, fun j hj => ?_, fun j => ?_⟩
  · rw [hh j]
    by_cases he : j = id
    · subst he; rw [if_pos rfl, setF_at]
    · rw [if_neg he, setF_ne he]; exact h.has j
  · rw [hv j]
    by_cases he : j = id
    · subst he; rw [if_pos rfl, setF_at]
    · rw [if_neg he, setF_ne he]; exact h.val j
  · by_cases he : j = id
    · subst he
      rw [setF_at, setF_at]
      refine ho.keep fun g hg => hk2 g (ho.blk hg).2 fun e => ?_
      rcases hn g hg with h1 | h1
      · exact h.ne_m j (e ▸ h1)
      · omega
    · rw [setF_ne he, setF_ne he]
      refine (h.row j).keep fun g hg => stay g ((h.row j).blk hg).2 (fun e => h.ne_m j (e ▸ hg)) fun e => he (h.ap j id g hg e.symm)
  · by_cases he : j = id
    · subst he
      rw [setF_at] at hx
      rcases hy x hx with h1 | ⟨h1, _⟩
      · exact old x.2 (h.rcs j x h1)
      · refine h1.move fun g hg hF => ⟨⟨hF.2.1, fun ho' => ?_⟩, hk2 g hg fun e => by have := hF.1; omega⟩
        rcases ho' with rfl | rfl | ⟨i, hi⟩
        · have := hF.1; omega
        · have := hF.1; omega
        · by_cases he : i = j
          · subst he; rw [setF_at] at hi; exact hF.2.2 hi
          · rw [setF_ne he] at hi
            have := ((h.row i).blk hi).2
            have := hF.1
            omega
    · rw [setF_ne he] at hx
      exact old x.2 (h.rcs j x hx)
  · by_cases he : j = id
    · subst he
      rw [setF_at] at hx
      rcases hy x hx with h1 | ⟨_, h1⟩
      · exact h.sm j x h1
      · exact h1
    · rw [setF_ne he] at hx
      exact h.sm j x hx
  · have cross : ∀ i j g, i = id → j ≠ id → v1.ownBlock = some g → (V j).ownBlock = some g → False := fun i j g h1 h2 h3 h4 => by
      rcases hn g h3 with h5 | h5
      · exact h2 (h.ap j id g h4 h5)
      · have := ((h.row j).blk h4).2; omega
    by_cases e1 : i = id
    · by_cases e2 : j = id
      · rw [e1, e2]
      · rw [e1, setF_at] at hi
        rw [setF_ne e2] at hj
        exact (cross i j g e1 e2 hi hj).elim
    · by_cases e2 : j = id
      · rw [e2, setF_at] at hj
        rw [setF_ne e1] at hi
        exact (cross j i g e2 e1 hj hi).elim
      · rw [setF_ne e1] at hi
        rw [setF_ne e2] at hj
        exact h.ap i j g hi hj
  · rcases hg with rfl | rfl | ⟨i, hi⟩
    · exact hZ1 _ (h.zo _ (.inl rfl))
    · exact hZ1 _ (h.zo _ (.inr (.inl rfl)))
    · by_cases he : i = id
      · subst he
        rw [setF_at] at hi
        rcases hn g hi with h1 | h1
        · exact hZ1 _ (h.zo _ (.inr (.inr ⟨i, h1⟩)))
        · exact h1.2
      · rw [setF_ne he] at hi
        exact hZ1 _ (h.zo _ (.inr (.inr ⟨i, hi⟩)))
  · exact hZ2 g hg
  · by_cases he : j = id
    · subst he
      rw [setF_at] at hj
      exact hid hj
    · rw [setF_ne he] at hj
      exact h.ids j hj
  · by_cases he : j = id
    · subst he
      rw [setF_at]; exact hup
    · rw [setF_ne he]; exact h.ups j
/-- fewer blocks of its own suffice, where no new ones are -/
theorem PSt.shrink {Z Z' : Nat → Prop} {B : Nat} {w : World} {b mb n : Nat} {D : DataW Value} {V : Int → Value} {X : Int → List VeV} {gv lt : Nat} (h : PSt Z B w b mb n D V X gv lt) (hz : ∀ g, Z g → Z' g) (hB : ∀ g, Z' g → B ≤ g ∧ g < w.heap.size) : PSt Z' B w b mb n D V X gv lt :=
  ⟨h.cell, h.own, h.has, h.val, h.row, fun id x hx => (h.rcs id x hx).move fun _ _ hF => ⟨⟨hz _ hF.1, hF.2⟩, rfl⟩, h.sm, h.ap, fun g hg => hz g (h.zo g hg), hB, h.ids, h.ups⟩
/-- the bound on the map's entries, as low as it can be -/
theorem PSt.tight {Z : Nat → Prop} {B : Nat} {w : World} {b mb n : Nat} {D : DataW Value} {V : Int → Value} {X : Int → List VeV} {gv lt : Nat} (h : PSt Z B w b mb n D V X gv lt) : PSt Z B w b mb gv D V X gv lt := by
  have hs := h.size
  refine { h with own := ?_ }
  obtain ⟨es, clock, hb, F, q1, q2⟩ := h.own
  refine ⟨es, clock, hb, F, ?_, q2⟩
  rw [q2] at hs
  have : Maps.size (DataW.map ((es.toList.map (Go.WideElems.rg Try.prog 3 heldE)).foldr DataW.insert [])) = es.size := length_read es
  omega
end Go.Proofs.Ytpimdmjhnogelaa.Char
