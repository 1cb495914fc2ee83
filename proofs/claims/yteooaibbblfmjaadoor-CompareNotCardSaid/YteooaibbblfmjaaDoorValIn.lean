/- Values that come in, opened: their type, their list of nodes as a slice, their fields. -/
import Derived.Test.YteooaibbblfmjaaDoorDoAny
import Derived.Deep.Slices
import Derived.ChangeArms
import Derived.SizedLaws
import Derived.Carry
import Derived.OpenShut
namespace Go.Proofs.YteooaibbblfmjaaDoor.Char
open Go.RowKit Go.Lib Go.ChangeShapes Go.WideShapes Go.Deep

theorem cells_dec : Tryd.prog.cellsOf 24 = 2 := by kernel_rfl
theorem cells_str : Tryd.prog.cellsOf 9 = 1 := by kernel_rfl
theorem cells_int : Tryd.prog.cellsOf 3 = 1 := by kernel_rfl
theorem cells_i64 : Tryd.prog.cellsOf 2 = 1 := by kernel_rfl
theorem cells_bool : Tryd.prog.cellsOf 4 = 1 := by kernel_rfl
theorem cells_ints : Tryd.prog.cellsOf 22 = 1 := by kernel_rfl
theorem cells_va : Tryd.prog.cellsOf 26 = 6 := by kernel_rfl
section
variable {H : Type} {enc : TypeId × Value → H} {W : World}
set_option maxRecDepth 100000 in
theorem open_va {n : Nat} {cs : List Value} {d : DataW H} {pl : List MemPlace} (h : DataW.trod enc Tryd.prog W 0 (fun _ => true) true n 26 cs = some (d, pl)) : ∃ x : Va, cs = vaC x ∧ okVa x := by
  obtain ⟨xs, k, hk, hx, hlen, hxl, hf⟩ := DataW.trod_struct Tryd.underlying26 h
  rw [cells_va] at hlen
  match cs, hlen with
  | [c0, c1, c2, c3, c4, c5], _ =>
    match xs, hxl with
    | [y0, y1, y2, y3, y4], _ =>
      have h0 := hf 0 _ rfl
      have h1 := hf 1 _ rfl
      have h2 := hf 2 _ rfl
      have h3 := hf 3 _ rfl
      have h4 := hf 4 _ rfl
      simp only [cells_str, cells_int, cells_ints, cells_bool, cells_dec, List.drop_zero, List.take_succ_cons, List.take_zero, List.getElem?_cons_zero, List.getElem?_cons_succ, List.drop_succ_cons, List.getElem_toArray, List.getElem_cons_zero, List.getElem_cons_succ] at h0 h1 h2 h3 h4
      obtain ⟨i, hi, _, hiw⟩ := DataW.trod_int Tryd.underlying3 h0
      obtain ⟨b, hb, _⟩ := DataW.trod_bool Tryd.underlying4 h2
      obtain ⟨s, hs, _, _⟩ := DataW.trod_string Tryd.underlying9 h4
      have hsl : ∃ (o : Option Addr) (n j : Nat), [c1] = [Value.slice o n j] := by
        rcases DataW.trod_slice Tryd.underlying22 h1 with ⟨hc, _⟩ | ⟨ad, len, cap, elems, rest, k', hk', hc, _⟩
        · exact ⟨none, 0, 0, hc⟩
        · exact ⟨_, _, _, hc⟩
      obtain ⟨o, n, j, hsl⟩ := hsl
      obtain ⟨zs, k2, hk2, hx2, hlen2, hzl, hfz⟩ := DataW.trod_struct Tryd.underlying24 h3
      match zs, hzl with
      | [z0, z1], _ =>
        have g0 := hfz 0 _ rfl
        have g1 := hfz 1 _ rfl
        simp only [cells_int, cells_i64, List.drop_zero, List.take_succ_cons, List.take_zero, List.getElem?_cons_zero, List.getElem?_cons_succ, List.drop_succ_cons, List.getElem_toArray, List.getElem_cons_zero, List.getElem_cons_succ] at g0 g1
        obtain ⟨q, hq, _, _⟩ := DataW.trod_int Tryd.underlying3 g0
        obtain ⟨u, hu, _, huw⟩ := DataW.trod_int Tryd.underlying2 g1
        simp only [List.cons.injEq, and_true] at hi hb hs hsl hq hu
        refine ⟨⟨i, o, n, j, b, q, u, s.data.toList⟩, by rw [hi, hb, hs, hsl, hq, hu]; rfl, bounds_i64 hiw, bounds_i64 huw⟩
set_option maxRecDepth 100000 in
theorem open_vaT {r : Reach} {b0 : Nat} {v : Value} {d : DataW H} {p : List MemPlace} (hv : Value.okWide Tryd.prog W r b0 26 v) (h : DataW.Trod enc Tryd.prog W 0 (fun _ => true) true 26 v d p) : ∃ x : Va, v = vaV x ∧ okVa x := by
  obtain ⟨cs, rfl, _⟩ := okWide_struct Tryd.underlying26 hv
  obtain ⟨fuel, hf⟩ := h
  obtain ⟨x, hcs, hx⟩ := open_va hf
  obtain ⟨l⟩ := cs
  have : l = vaC x := hcs
  exact ⟨x, by rw [this]; rfl, hx⟩
theorem laid_out : laidOutB Tryd.prog = true := by kernel_rfl
end
end Go.Proofs.YteooaibbblfmjaaDoor.Char
