/- Small facts: two new pairs of cells, a number in its cell as what is returned. -/
import Derived.Test.YteooaibbblfmjaaDoorDigits
import Derived.Test.YteooaibbblfmjaaDoorDecM
namespace Go.Proofs.YteooaibbblfmjaaDoor.Char
open Go.RowKit

/-- what a new pair of cells reads, behind a call that kept it -/
theorem kept_new (w : World) (z0 z1 : Value) (T : TypeId) (w1 : World) (h : Below (w.alloc (.cells #[z0, z1] T)).heap.size (w.alloc (.cells #[z0, z1] T)) w1) :
    w1.cell? ⟨w.heap.size, 0, none⟩ = some z0 ∧ w1.cell? ⟨w.heap.size, 1, none⟩ = some z1 ∧ w1.frozen? ⟨w.heap.size, 0, none⟩ = false ∧ w1.frozen? ⟨w.heap.size, 1, none⟩ = false ∧ w.heap.size < w1.heap.size ∧ Below w.heap.size w w1 := by
  have hsz : (w.alloc (.cells #[z0, z1] T)).heap.size = w.heap.size + 1 := by simp
  have hlt : w.heap.size < (w.alloc (.cells #[z0, z1] T)).heap.size := by omega
  have hs := h.size
  refine ⟨?_, ?_, ?_, ?_, by omega, ((Below.refl _ _).alloc (Nat.le_refl _) _).trans (h.mono (by omega))⟩
  · rw [h.cell (p := ⟨w.heap.size, 0, none⟩) hlt, World.cell?_alloc_new]; rfl
  · rw [h.cell (p := ⟨w.heap.size, 1, none⟩) hlt, World.cell?_alloc_new]; rfl
  · rw [h.frozen (p := ⟨w.heap.size, 0, none⟩) hlt]; exact frozen_of_row _ _ _ _ _ (heap_alloc_new _ _)
  · rw [h.frozen (p := ⟨w.heap.size, 1, none⟩) hlt]; exact frozen_of_row _ _ _ _ _ (heap_alloc_new _ _)

/-- a number in its cell is what is returned -/
theorem end_dec {fn : Func} {p : Tmp} (h : fn.results = #[.cell p 24]) {a : Act} {R : Ending → World → Prop} (w1 : World) (g : Nat) (x y : Int) {z0 z1 : Value}
    (k0 : w1.cell? ⟨g, 0, none⟩ = some z0) (k1 : w1.cell? ⟨g, 1, none⟩ = some z1) (hp : a.tmps.getD p undef = .pointer (some ⟨g, 0, none⟩)) (hd : a.defers = [])
    (hR : R (.returned (.agg #[.int .i64 x, .int .i64 y])) ((w1.setCell ⟨g, 0, none⟩ (.int .i64 x)).setCell ⟨g, 1, none⟩ (.int .i64 y))) :
    bodyPost Tryd.prog fn R .ret a ((w1.setCell ⟨g, 0, none⟩ (.int .i64 x)).setCell ⟨g, 1, none⟩ (.int .i64 y)) := by
  have hp' : a.tmps[p]?.getD undef = .pointer (some ⟨g, 0, none⟩) := by simpa using hp
  exact bodyPost_ret (v := .agg #[.int .i64 x, .int .i64 y]) (by simp [results, h, hp', go_sem, k0, k1]) hd hR

/-- what a new pair of cells behind another new pair reads, behind a call that kept both -/
theorem kept_two (w : World) (x0 x1 z0 z1 : Value) (T U : TypeId) (w1 : World) (h : Below ((w.alloc (.cells #[x0, x1] U)).alloc (.cells #[z0, z1] T)).heap.size ((w.alloc (.cells #[x0, x1] U)).alloc (.cells #[z0, z1] T)) w1) :
    w1.cell? ⟨w.heap.size, 0, none⟩ = some x0 ∧ w1.cell? ⟨w.heap.size, 1, none⟩ = some x1 ∧ w1.cell? ⟨w.heap.size + 1, 0, none⟩ = some z0 ∧ w1.cell? ⟨w.heap.size + 1, 1, none⟩ = some z1 ∧
      w1.frozen? ⟨w.heap.size + 1, 0, none⟩ = false ∧ w1.frozen? ⟨w.heap.size + 1, 1, none⟩ = false ∧ w.heap.size + 1 < w1.heap.size ∧ Below w.heap.size w w1 := by
  have hsz : ((w.alloc (.cells #[x0, x1] U)).alloc (.cells #[z0, z1] T)).heap.size = w.heap.size + 1 + 1 := by simp
  have hl1 : w.heap.size < ((w.alloc (.cells #[x0, x1] U)).alloc (.cells #[z0, z1] T)).heap.size := by omega
  have hl2 : w.heap.size + 1 < ((w.alloc (.cells #[x0, x1] U)).alloc (.cells #[z0, z1] T)).heap.size := by omega
  have hs := h.size
  refine ⟨?_, ?_, ?_, ?_, ?_, ?_, by omega, (((Below.refl _ _).alloc (Nat.le_refl _) _).alloc (by simp) _).trans (h.mono (by omega))⟩
  · rw [h.cell (p := ⟨w.heap.size, 0, none⟩) hl1]; go_simp
  · rw [h.cell (p := ⟨w.heap.size, 1, none⟩) hl1]; go_simp
  · rw [h.cell (p := ⟨w.heap.size + 1, 0, none⟩) hl2]; go_simp
  · rw [h.cell (p := ⟨w.heap.size + 1, 1, none⟩) hl2]; go_simp
  · rw [h.frozen (p := ⟨w.heap.size + 1, 0, none⟩) hl2]; go_simp
  · rw [h.frozen (p := ⟨w.heap.size + 1, 1, none⟩) hl2]; go_simp

/-- a number by its size and its side -/
def sizedD (n : Nat) (below : Bool) : Nm := fitD (if below then -(n : Int) else (n : Int))
theorem decV_num (n : Int) : decV (.num n) = .agg #[.int .i64 0, .int .i64 n] := rfl
theorem ret_agg {a b c d : Int} (h : a = c) (h2 : b = d) : Ending.returned (.agg #[.int .i64 a, .int .i64 b]) = .returned (.agg #[.int .i64 c, .int .i64 d]) := by rw [h, h2]

theorem okD_bounds {x : Nm} (h : okD x) : -9223372036854775808 ≤ outV x ∧ outV x ≤ 9223372036854775807 := by
  match x, h with
  | .nan, _ => exact ⟨by decide, by decide⟩
  | .over, _ => exact ⟨by decide, by decide⟩
  | .under, _ => exact ⟨by decide, by decide⟩
  | .num n, h =>
    have h1 : -9223372036854775807 ≤ n ∧ n ≤ 9223372036854775807 := h
    show -9223372036854775808 ≤ n ∧ n ≤ 9223372036854775807
    omega

theorem ret_i64 {a b : Int} (h : a = b) : Ending.returned (.int .i64 a) = .returned (.int .i64 b) := by rw [h]

end Go.Proofs.YteooaibbblfmjaaDoor.Char
