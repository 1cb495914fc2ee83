/- An operator and two values that come in, opened. -/
import Derived.Test.YteooaibbblfmjaaDoorValIn
namespace Go.Proofs.YteooaibbblfmjaaDoor.Char
open Go.RowKit Go.Lib Go.ChangeShapes Go.WideShapes Go.Deep
theorem cells_three : Tryd.prog.cellsOf 28 = 13 := by kernel_rfl
section
variable {H : Type} {enc : TypeId × Value → H} {W : World}
set_option maxRecDepth 100000 in
theorem open_threeT {r : Reach} {b0 : Nat} {v : Value} {d : DataW H} {p : List MemPlace} (hv : Value.okWide Tryd.prog W r b0 28 v) (h : DataW.Trod enc Tryd.prog W 0 (fun _ => true) true 28 v d p) :
    ∃ (op : Int) (x y : Va), v = threeV op x y ∧ okVa x ∧ okVa y ∧ (-9223372036854775808 ≤ op ∧ op ≤ 9223372036854775807) := by
  obtain ⟨cs, rfl, _⟩ := okWide_struct Tryd.underlying28 hv
  obtain ⟨fuel, hf⟩ := h
  obtain ⟨l⟩ := cs
  obtain ⟨xs, k, hk, hx, hlen, hxl, hff⟩ := DataW.trod_struct Tryd.underlying28 (show DataW.trod enc Tryd.prog W 0 (fun _ => true) true fuel 28 l = some (d, p) from hf)
  rw [cells_three] at hlen
  match l, hlen with
  | [c0, c1, c2, c3, c4, c5, c6, c7, c8, c9, c10, c11, c12], _ =>
    match xs, hxl with
    | [y0, y1, y2], _ =>
      have h0 := hff 0 _ rfl
      have h1 := hff 1 _ rfl
      have h2 := hff 2 _ rfl
      simp only [cells_int, cells_va, List.drop_zero, List.take_succ_cons, List.take_zero, List.getElem?_cons_zero, List.getElem?_cons_succ, List.drop_succ_cons, List.getElem_toArray, List.getElem_cons_zero, List.getElem_cons_succ] at h0 h1 h2
      obtain ⟨i, hi, _, hiw⟩ := DataW.trod_int Tryd.underlying3 h0
      obtain ⟨x, hx1, ox⟩ := open_va (d := y1.1) (pl := y1.2) h1
      obtain ⟨y, hy1, oy⟩ := open_va (d := y2.1) (pl := y2.2) h2
      refine ⟨i, x, y, ?_, ox, oy, bounds_i64 hiw⟩
      simp only [vaC, List.cons.injEq, and_true] at hi hx1 hy1
      obtain ⟨a0, a1, a2, a3, a4, a5⟩ := hx1
      obtain ⟨b0, b1, b2, b3, b4, b5⟩ := hy1
      rw [hi, a0, a1, a2, a3, a4, a5, b0, b1, b2, b3, b4, b5]
      rfl
end
end Go.Proofs.YteooaibbblfmjaaDoor.Char
