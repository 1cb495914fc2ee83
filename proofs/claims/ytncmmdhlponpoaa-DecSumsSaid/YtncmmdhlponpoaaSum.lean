/- The walk of package dec's sum of millionths. -/
import Derived.Test.YtncmmdhlponpoaaPart
namespace Go.Proofs.Ytncmmdhlponpoaa.Char
open Go.RowKit

/-- what a new pair of cells reads, behind a call that kept it -/
theorem kept_new (w : World) (z0 z1 : Value) (T : TypeId) (w1 : World) (h : Below (w.alloc (.cells #[z0, z1] T)).heap.size (w.alloc (.cells #[z0, z1] T)) w1) :
    w1.cell? ⟨w.heap.size, 0, none⟩ = some z0 ∧ w1.cell? ⟨w.heap.size, 1, none⟩ = some z1 ∧ w1.frozen? ⟨w.heap.size, 0, none⟩ = false ∧ w1.frozen? ⟨w.heap.size, 1, none⟩ = false ∧ w.heap.size < w1.heap.size ∧ Below w.heap.size w w1 := by
  have hsz : (w.alloc (.cells #[z0, z1] T)).heap.size = w.heap.size + 1 := by simp
  have hlt : w.heap.size < (w.alloc (.cells #[z0, z1] T)).heap.size := by omega
  have hs := h.size
  refine ⟨?_, ?_, ?_, ?_, by omega, ((Below.refl _ _).alloc (Nat.le_refl _) _).trans (h.mono (by omega))⟩
  · rw [h.cell (p := ⟨w.heap.size, 0, none⟩) hlt, World.cell?_alloc_new]; rfl
  · rw [h.cell (p := ⟨w.heap.size, 1, none⟩) hlt, World.cell?_alloc_new]; rfl
  · rw [h.frozen (p := ⟨w.heap.size, 0, none⟩) hlt]; exact frozen_of_row _ _ _ _ _ (heap_alloc_new _ _)
  · rw [h.frozen (p := ⟨w.heap.size, 1, none⟩) hlt]; exact frozen_of_row _ _ _ _ _ (heap_alloc_new _ _)

/-- a number in its cell is what is returned -/
theorem end_dec {fn : Func} {p : Tmp} (h : fn.results = #[.cell p 23]) {a : Act} {R : Ending → World → Prop} (w1 : World) (g : Nat) (x y : Int) {z0 z1 : Value}
    (k0 : w1.cell? ⟨g, 0, none⟩ = some z0) (k1 : w1.cell? ⟨g, 1, none⟩ = some z1) (hp : a.tmps.getD p undef = .pointer (some ⟨g, 0, none⟩)) (hd : a.defers = [])
    (hR : R (.returned (.agg #[.int .i64 x, .int .i64 y])) ((w1.setCell ⟨g, 0, none⟩ (.int .i64 x)).setCell ⟨g, 1, none⟩ (.int .i64 y))) :
    bodyPost Try.prog fn R .ret a ((w1.setCell ⟨g, 0, none⟩ (.int .i64 x)).setCell ⟨g, 1, none⟩ (.int .i64 y)) := by
  have hp' : a.tmps[p]?.getD undef = .pointer (some ⟨g, 0, none⟩) := by simpa using hp
  exact bodyPost_ret (v := .agg #[.int .i64 x, .int .i64 y]) (by simp [results, h, hp', go_sem, k0, k1]) hd hR

set_option maxRecDepth 100000 in
set_option maxHeartbeats 2000000 in
theorem sum_any (v u : Int) (w : World) (hv : -9223372036854775807 ≤ v ∧ v ≤ 9223372036854775807) (hu : -9223372036854775807 ≤ u ∧ u ≤ 9223372036854775807) :
    Calls Try.prog 38 #[.int .i64 v, .int .i64 u] w fun e w' => e = .returned (decV (fitD (v + u))) ∧ Below w.heap.size w w' := by
  have hb := fun o => (Below.refl w.heap.size w).alloc (Nat.le_refl _) (Obj.cells o 23)
  by_cases hd : (v < 0) ↔ ¬ (u < 0)
  · have w1 : IntKind.i64.wrap (v + u) = v + u := IntWalk.i64_in _ (by omega)
    rw [fitD_in (v + u) ⟨by omega, by omega⟩]
    have hd2 : (v < 0 ∧ ¬ u < 0) ∨ (¬ v < 0 ∧ u < 0) := by omega
    clear hd hv hu
    rcases hd2 with ⟨h1, h2⟩ | ⟨h1, h2⟩
    all_goals
      go_enter Try.func38, Try.ntmps38
      go_wp2_with fail
      exact bodyPost_ret (v := .agg #[.int .i64 0, .int .i64 (v + u)]) (by simp [results, Try.results38, go_sem]) rfl ⟨rfl, by simpa using hb #[.int .i64 0, .int .i64 (v + u)]⟩
  · have CV := fun W => Lib.hid (size_any v W (by omega) (by omega))
    have CU := fun W => Lib.hid (size_any u W (by omega) (by omega))
    obtain ⟨n, hn⟩ : ∃ n, n = v.natAbs + u.natAbs := ⟨_, rfl⟩
    have w1 : IntKind.u64.wrap ((v.natAbs : Int) + (u.natAbs : Int)) = (n : Int) := by rw [IntKind.wrap_u64]; omega
    have hd2 : (v < 0 ∧ u < 0) ∨ (¬ v < 0 ∧ ¬ u < 0) := by omega
    have hs : sizedD n (decide (v < 0)) = fitD (v + u) := by
      unfold sizedD
      congr 1
      rcases hd2 with ⟨h1, h2⟩ | ⟨h1, h2⟩
      · rw [decide_eq_true h1, if_pos rfl]; omega
      · rw [decide_eq_false h1, if_neg (by simp)]; omega
    have CS := fun W => Lib.hid (sized_any n (decide (v < 0)) W (by omega))
    rw [hs] at CS
    generalize fitD (v + u) = X at CS
    generalize (v.natAbs : Int) = va at *
    generalize (u.natAbs : Int) = ua at *
    clear hs hn hd hv hu
    rcases hd2 with ⟨h1, h2⟩ | ⟨h1, h2⟩
    · rw [decide_eq_true h1] at CS
      go_enter Try.func38, Try.ntmps38
      go_wp2_with fail
      refine (CV _).out.mono ?_
      rintro e w1 ⟨rfl, rfl⟩
      go_wp2_with fail
      refine (CU _).out.mono ?_
      rintro e w1 ⟨rfl, rfl⟩
      go_wp2_with fail
      refine (CS _).out.mono ?_
      rintro e w1 ⟨rfl, h1⟩
      obtain ⟨k0, k1, f0, f1, hs1, hbb⟩ := kept_new w _ _ 23 w1 h1
      unfold decV
      go_wp2_with fail
      exact end_dec rfl w1 w.heap.size _ _ k0 k1 rfl rfl ⟨rfl, (hbb.setCell (Nat.le_refl _) _).setCell (Nat.le_refl _) _⟩
    · go_enter Try.func38, Try.ntmps38
      go_wp2_with fail
      refine (CV _).out.mono ?_
      rintro e w1 ⟨rfl, rfl⟩
      go_wp2_with fail
      refine (CU _).out.mono ?_
      rintro e w1 ⟨rfl, rfl⟩
      go_wp2_with fail
      refine (CS _).out.mono ?_
      rintro e w1 ⟨rfl, h1⟩
      obtain ⟨k0, k1, f0, f1, hs1, hbb⟩ := kept_new w _ _ 23 w1 h1
      unfold decV
      go_wp2_with fail
      exact end_dec rfl w1 w.heap.size _ _ k0 k1 rfl rfl ⟨rfl, (hbb.setCell (Nat.le_refl _) _).setCell (Nat.le_refl _) _⟩
end Go.Proofs.Ytncmmdhlponpoaa.Char
