/- The arguments of the laws, opened: a record, a step, steps, changes. -/
import Derived.Test.YtpimdmjhnogelaaStepIn
namespace Go.Proofs.Ytpimdmjhnogelaa.Char
open Go.RowKit Go.Lib Go.ChangeShapes Go.WideShapes Go.Deep
section
variable {H : Type} {enc : TypeId × Value → H} {W : World}
set_option maxRecDepth 100000 in
theorem open_recT {r : Reach} {b0 : Nat} {v : Value} {d : DataW H} {p : List MemPlace} (hv : Value.okWide Try.prog W r b0 37 v) (h : DataW.Trod enc Try.prog W 0 (fun _ => true) true 37 v d p)
    (hw : ∀ m ∈ d.weights Try.prog 37, m ≤ reachBytes) : ∃ x : RcV, v = rcV x ∧ RcOn W (fun b => b < W.heap.size) x ∧ RcSm x.1 := by
  obtain ⟨cs, rfl, _⟩ := okWide_struct Try.underlying37 hv
  obtain ⟨fuel, hf⟩ := h
  obtain ⟨x, hcs, h1, h2⟩ := open_rec hf hw
  refine ⟨x, ?_, h1, h2⟩
  obtain ⟨l⟩ := cs
  have : l = rcC x := hcs
  rw [this]
  rfl

set_option maxRecDepth 100000 in
theorem open_stepT {r : Reach} {b0 : Nat} {v : Value} {d : DataW H} {p : List MemPlace} (hv : Value.okWide Try.prog W r b0 31 v) (h : DataW.Trod enc Try.prog W 0 (fun _ => true) true 31 v d p)
    (hw : ∀ m ∈ d.weights Try.prog 31, m ≤ reachBytes) : ∃ x : StV, v = .agg ⟨stC x⟩ ∧ StOk W W.heap.size x := by
  obtain ⟨cs, rfl, _⟩ := okWide_struct Try.underlying31 hv
  obtain ⟨fuel, hf⟩ := h
  obtain ⟨x, hcs, h1⟩ := open_step hf hw
  refine ⟨x, ?_, h1⟩
  obtain ⟨l⟩ := cs
  have : l = stC x := hcs
  rw [this]
set_option maxRecDepth 100000 in
theorem open_stepsT {r : Reach} {b0 : Nat} {v : Value} {d : DataW H} {p : List MemPlace} (hv : Value.okWide Try.prog W r b0 22 v) (h : DataW.Trod enc Try.prog W 0 (fun _ => true) true 22 v d p)
    (hw : ∀ m ∈ d.weights Try.prog 22, m ≤ reachBytes) : ∃ xs : List StV, StsOn W W.heap.size v xs ∧ xs.length ≤ 2 ^ 62 := by
  obtain ⟨a, l, c, rfl⟩ := okWide_slice Try.underlying22 hv
  obtain ⟨fuel, hf⟩ := h
  exact open_steps hf hw
set_option maxRecDepth 100000 in
theorem open_chsT {r : Reach} {b0 : Nat} {v : Value} {d : DataW H} {p : List MemPlace} (hv : Value.okWide Try.prog W r b0 29 v) (h : DataW.Trod enc Try.prog W 0 (fun _ => true) true 29 v d p)
    (hw : ∀ m ∈ d.weights Try.prog 29, m ≤ reachBytes) : ∃ xs : List ChV, ChsOn W (fun b => b < W.heap.size) v xs ∧ xs.length ≤ 2 ^ 44 ∧ ∀ x, x ∈ xs → RcSm x.2.1 := by
  obtain ⟨a, l, c, rfl⟩ := okWide_slice Try.underlying29 hv
  obtain ⟨fuel, hf⟩ := h
  exact open_chs hf hw
end
end Go.Proofs.Ytpimdmjhnogelaa.Char
