/- The walk of the document's own Add for numbers in millionths. -/
import Derived.Test.YtncmmdhlponpoaaRefInt
import Derived.Test.YtncmmdhlponpoaaCmpW
import Derived.Deep.DeepCutAuto
namespace Go.Proofs.Ytncmmdhlponpoaa.Char
open Go.RowKit

/-- two new pairs of cells and a third one: what they read behind calls that kept them -/
theorem kept_three (w : World) (x0 x1 y0 y1 z0 z1 : Value) (T : TypeId) (w1 : World)
    (h : Below (((w.alloc (.cells #[x0, x1] T)).alloc (.cells #[y0, y1] T)).alloc (.cells #[z0, z1] T)).heap.size (((w.alloc (.cells #[x0, x1] T)).alloc (.cells #[y0, y1] T)).alloc (.cells #[z0, z1] T)) w1) :
    (w1.cell? ⟨w.heap.size, 0, none⟩ = some x0 ∧ w1.cell? ⟨w.heap.size, 1, none⟩ = some x1 ∧ w1.cell? ⟨w.heap.size + 1, 0, none⟩ = some y0 ∧ w1.cell? ⟨w.heap.size + 1, 1, none⟩ = some y1) ∧
      w1.cell? ⟨w.heap.size + 1 + 1, 0, none⟩ = some z0 ∧ w1.cell? ⟨w.heap.size + 1 + 1, 1, none⟩ = some z1 ∧
      w1.frozen? ⟨w.heap.size + 1 + 1, 0, none⟩ = false ∧ w1.frozen? ⟨w.heap.size + 1 + 1, 1, none⟩ = false ∧ w.heap.size + 1 + 1 < w1.heap.size ∧ Below w.heap.size w w1 := by
  have hsz : (((w.alloc (.cells #[x0, x1] T)).alloc (.cells #[y0, y1] T)).alloc (.cells #[z0, z1] T)).heap.size = w.heap.size + 1 + 1 + 1 := by simp
  have hl1 : w.heap.size < (((w.alloc (.cells #[x0, x1] T)).alloc (.cells #[y0, y1] T)).alloc (.cells #[z0, z1] T)).heap.size := by omega
  have hl2 : w.heap.size + 1 < (((w.alloc (.cells #[x0, x1] T)).alloc (.cells #[y0, y1] T)).alloc (.cells #[z0, z1] T)).heap.size := by omega
  have hl3 : w.heap.size + 1 + 1 < (((w.alloc (.cells #[x0, x1] T)).alloc (.cells #[y0, y1] T)).alloc (.cells #[z0, z1] T)).heap.size := by omega
  have hs := h.size
  refine ⟨⟨?_, ?_, ?_, ?_⟩, ?_, ?_, ?_, ?_, by omega, ((((Below.refl _ _).alloc (Nat.le_refl _) _).alloc (by simp) _).alloc (by simp; omega) _).trans (h.mono (by omega))⟩
  · rw [h.cell (p := ⟨w.heap.size, 0, none⟩) hl1]; go_simp
  · rw [h.cell (p := ⟨w.heap.size, 1, none⟩) hl1]; go_simp
  · rw [h.cell (p := ⟨w.heap.size + 1, 0, none⟩) hl2]; go_simp
  · rw [h.cell (p := ⟨w.heap.size + 1, 1, none⟩) hl2]; go_simp
  · rw [h.cell (p := ⟨w.heap.size + 1 + 1, 0, none⟩) hl3]; go_simp
  · rw [h.cell (p := ⟨w.heap.size + 1 + 1, 1, none⟩) hl3]; go_simp
  · rw [h.frozen (p := ⟨w.heap.size + 1 + 1, 0, none⟩) hl3]; go_simp
  · rw [h.frozen (p := ⟨w.heap.size + 1 + 1, 1, none⟩) hl3]; go_simp

theorem addD_nan : ∀ x y, (nanB x || nanB y) = true → addD x y = .nan := fun x y h => by cases x <;> cases y <;> first | rfl | cases h
theorem add_same (a b : Int) (h : 0 ≤ a.sign * b.sign) : sizedD (a.natAbs + b.natAbs) (decide (a < 0) || decide (b < 0)) = fitD (a + b) := by
  have h2 : (a ≤ 0 ∧ b ≤ 0) ∨ (0 ≤ a ∧ 0 ≤ b) := by
    rcases Int.lt_trichotomy a 0 with ha | rfl | ha
    · rcases Int.lt_trichotomy b 0 with hb | rfl | hb
      · omega
      · omega
      · rw [Int.sign_eq_neg_one_of_neg ha, Int.sign_eq_one_of_pos hb] at h; omega
    · omega
    · rcases Int.lt_trichotomy b 0 with hb | rfl | hb
      · rw [Int.sign_eq_one_of_pos ha, Int.sign_eq_neg_one_of_neg hb] at h; omega
      · omega
      · omega
  unfold sizedD
  congr 1
  by_cases ha : a < 0
  · rw [decide_eq_true ha, Bool.true_or, if_pos rfl]; omega
  · by_cases hb : b < 0
    · rw [decide_eq_true hb, Bool.or_true, if_pos rfl]; omega
    · rw [decide_eq_false ha, decide_eq_false hb]; show ((a.natAbs + b.natAbs : Nat) : Int) = _; omega
theorem add_opposite (a b : Int) (h : ¬ 0 ≤ a.sign * b.sign) : (a < 0 ∧ 0 < b) ∨ (0 < a ∧ b < 0) := by
  rcases Int.lt_trichotomy a 0 with ha | rfl | ha
  · rcases Int.lt_trichotomy b 0 with hb | rfl | hb
    · rw [Int.sign_eq_neg_one_of_neg ha, Int.sign_eq_neg_one_of_neg hb] at h; omega
    · simp at h
    · exact .inl ⟨ha, hb⟩
  · simp at h
  · rcases Int.lt_trichotomy b 0 with hb | rfl | hb
    · exact .inr ⟨ha, hb⟩
    · simp at h
    · rw [Int.sign_eq_one_of_pos ha, Int.sign_eq_one_of_pos hb] at h; omega
theorem add_less (a b : Int) (h : ¬ 0 ≤ a.sign * b.sign) (hl : a.natAbs < b.natAbs) : sizedD (b.natAbs - a.natAbs) (decide (b < 0)) = fitD (a + b) := by
  have h2 := add_opposite a b h
  unfold sizedD
  congr 1
  by_cases hb : b < 0
  · rw [decide_eq_true hb, if_pos rfl]; omega
  · rw [decide_eq_false hb, if_neg (by simp)]; omega
theorem add_more (a b : Int) (h : ¬ 0 ≤ a.sign * b.sign) (hl : ¬ a.natAbs < b.natAbs) : sizedD (a.natAbs - b.natAbs) (decide (a < 0)) = fitD (a + b) := by
  have h2 := add_opposite a b h
  unfold sizedD
  congr 1
  by_cases hb : a < 0
  · rw [decide_eq_true hb, if_pos rfl]; omega
  · rw [decide_eq_false hb, if_neg (by simp)]; omega
theorem sign_bounds (a : Int) : -1 ≤ a.sign ∧ a.sign ≤ 1 := by
  rcases Int.lt_trichotomy a 0 with h | rfl | h
  · rw [Int.sign_eq_neg_one_of_neg h]; omega
  · simp
  · rw [Int.sign_eq_one_of_pos h]; omega

/-- a call more, behind draws -/
theorem kept_step {B W Wd w2 : World} (h : Below B.heap.size B W) (hh : Below Wd.heap.size Wd w2) (e : Wd.heap = W.heap ∧ Wd.os = W.os ∧ Wd.tape = W.tape ∧ Wd.output = W.output) : Below B.heap.size B w2 := by
  have hd : Below W.heap.size W w2 := by
    obtain ⟨e1, e2, e3, e4⟩ := e
    have h1 := hh.block
    have h2 := hh.size
    rw [e1] at h1 h2
    exact ⟨hh.os.trans e2, hh.tape.trans e3, hh.output.trans e4, h2, h1⟩
  exact h.trans (hd.mono h.size)

/-- what the two parameters' boxes and the result's cells read in a world -/
def Three (w : World) (t1 v1 t2 v2 : Int) (w1 : World) : Prop :=
  (w1.cell? ⟨w.heap.size, 0, none⟩ = some (.int .i64 t1) ∧ w1.cell? ⟨w.heap.size, 1, none⟩ = some (.int .i64 v1) ∧ w1.cell? ⟨w.heap.size + 1, 0, none⟩ = some (.int .i64 t2) ∧ w1.cell? ⟨w.heap.size + 1, 1, none⟩ = some (.int .i64 v2)) ∧
    w1.cell? ⟨w.heap.size + 1 + 1, 0, none⟩ = some (.int .i64 0) ∧ w1.cell? ⟨w.heap.size + 1 + 1, 1, none⟩ = some (.int .i64 0) ∧
    w1.frozen? ⟨w.heap.size + 1 + 1, 0, none⟩ = false ∧ w1.frozen? ⟨w.heap.size + 1 + 1, 1, none⟩ = false ∧ w.heap.size + 1 + 1 < w1.heap.size ∧ Below w.heap.size w w1

set_option maxRecDepth 100000 in
set_option maxHeartbeats 4000000 in
theorem refAdd_none (t1 v1 t2 v2 : Int) (w : World) (hn : (nanB (toD t1 v1) || nanB (toD t2 v2)) = true) :
    Calls Try.prog 13 #[aggV t1 v1, aggV t2 v2] w fun e w' => e = .returned (decV (addD (toD t1 v1) (toD t2 v2))) ∧ Below w.heap.size w w' := by
  have CN := fun W => none_any t1 v1 t2 v2 W
  rw [addD_nan _ _ hn]
  rw [hn] at CN
  have C1 := fun W => Lib.hid (CN W)
  unfold aggV at C1 ⊢
  clear CN hn
  go_enter Try.func13, Try.ntmps13
  go_wp2_with fail
  refine (C1 _).out.mono ?_
  rintro e w1 ⟨rfl, h1⟩
  obtain ⟨⟨a0, a1, b0, b1⟩, k0, k1, f0, f1, hs1, hbb⟩ := kept_three w _ _ _ _ _ _ 23 w1 h1
  go_wp2_with fail
  exact end_dec rfl w1 (w.heap.size + 1 + 1) _ _ k0 k1 rfl rfl ⟨rfl, (hbb.setCell (by show w.heap.size ≤ w.heap.size + 1 + 1; omega) _).setCell (by show w.heap.size ≤ w.heap.size + 1 + 1; omega) _⟩

set_option maxRecDepth 100000 in
set_option maxHeartbeats 4000000 in
theorem refAdd_inf (t1 v1 t2 v2 : Int) (w : World) (hn : (nanB (toD t1 v1) || nanB (toD t2 v2)) = false) (hi : t1 ≠ 0 ∨ t2 ≠ 0) :
    Calls Try.prog 13 #[aggV t1 v1, aggV t2 v2] w fun e w' => e = .returned (decV (addD (toD t1 v1) (toD t2 v2))) ∧ Below w.heap.size w w' := by
  have CN := fun W => none_any t1 v1 t2 v2 W
  rw [hn] at CN
  have C1 := fun W => Lib.hid (CN W)
  unfold aggV at C1 ⊢
  clear CN
  rcases toD_cases t1 v1 with ⟨rfl, _, e1, _⟩ | ⟨rfl, rfl, e1, _⟩ | ⟨rfl, rfl, e1, _⟩ | ⟨_, _, e1, _⟩ | ⟨_, _, _, _, e1, _⟩ <;>
    rcases toD_cases t2 v2 with ⟨rfl, _, e2, _⟩ | ⟨rfl, rfl, e2, _⟩ | ⟨rfl, rfl, e2, _⟩ | ⟨_, _, e2, _⟩ | ⟨_, _, _, _, e2, _⟩ <;>
    simp only [e1, e2] at hn ⊢ <;>
    first
      | (exfalso; omega)
      | (cases (hn : true = false); done)
      | skip
  all_goals
    clear e1 e2 hn hi
    go_enter Try.func13, Try.ntmps13
    go_wp2_with fail
    refine (C1 _).out.mono ?_
    rintro e w1 ⟨rfl, h1⟩
    obtain ⟨⟨a0, a1, b0, b1⟩, k0, k1, f0, f1, hs1, hbb⟩ := kept_three w _ _ _ _ _ _ 23 w1 h1
    go_wp2_with fail
    exact end_dec rfl w1 (w.heap.size + 1 + 1) _ _ k0 k1 rfl rfl ⟨rfl, (hbb.setCell (by show w.heap.size ≤ w.heap.size + 1 + 1; omega) _).setCell (by show w.heap.size ≤ w.heap.size + 1 + 1; omega) _⟩
end Go.Proofs.Ytncmmdhlponpoaa.Char
