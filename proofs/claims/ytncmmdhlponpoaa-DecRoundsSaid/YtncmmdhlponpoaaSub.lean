/- The walks of package dec's Sub, Floor, Ceil, Round. -/
import Derived.Test.YtncmmdhlponpoaaNeg
namespace Go.Proofs.Ytncmmdhlponpoaa.Char
open Go.RowKit

theorem okD_bounds {x : Nm} (h : okD x) : -9223372036854775808 ≤ outV x ∧ outV x ≤ 9223372036854775807 := by
  match x, h with
  | .nan, _ => exact ⟨by decide, by decide⟩
  | .over, _ => exact ⟨by decide, by decide⟩
  | .under, _ => exact ⟨by decide, by decide⟩
  | .num n, h =>
    have h1 : -9223372036854775807 ≤ n ∧ n ≤ 9223372036854775807 := h
    show -9223372036854775808 ≤ n ∧ n ≤ 9223372036854775807
    omega

set_option maxRecDepth 100000 in
set_option maxHeartbeats 4000000 in
theorem sub_any (t1 v1 t2 v2 : Int) (w : World) (h1 : -9223372036854775808 ≤ v1 ∧ v1 ≤ 9223372036854775807) (h2 : -9223372036854775808 ≤ v2 ∧ v2 ≤ 9223372036854775807) :
    Calls Try.prog 14 #[aggV t1 v1, aggV t2 v2] w fun e w' => e = .returned (decV (addD (toD t1 v1) (negD (toD t2 v2)))) ∧ Below w.heap.size w w' := by
  have CN := fun W => neg_any t2 v2 W h2
  have hok := negD_ok _ (toD_ok t2 v2 h2)
  have CA := fun W => add_any t1 v1 (outT (negD (toD t2 v2))) (outV (negD (toD t2 v2))) W h1 (okD_bounds hok)
  rw [toD_out _ hok] at CA
  generalize negD (toD t2 v2) = y at *
  generalize addD (toD t1 v1) y = X at *
  obtain ⟨W2, hW2⟩ : ∃ W2, W2 = ((w.alloc (Obj.cells #[Value.int IntKind.i64 t1, Value.int IntKind.i64 v1] 23)).alloc (Obj.cells #[Value.int IntKind.i64 t2, Value.int IntKind.i64 v2] 23)).alloc (Obj.cells #[Value.int IntKind.i64 0, Value.int IntKind.i64 0] 23) := ⟨_, rfl⟩
  have hsz : W2.heap.size = w.heap.size + 1 + 1 + 1 := by rw [hW2]; simp
  have a0 : W2.cell? ⟨w.heap.size, 0, none⟩ = some (.int .i64 t1) := by rw [hW2]; go_simp
  have a1 : W2.cell? ⟨w.heap.size, 1, none⟩ = some (.int .i64 v1) := by rw [hW2]; go_simp
  have b0 : W2.cell? ⟨w.heap.size + 1, 0, none⟩ = some (.int .i64 t2) := by rw [hW2]; go_simp
  have b1 : W2.cell? ⟨w.heap.size + 1, 1, none⟩ = some (.int .i64 v2) := by rw [hW2]; go_simp
  have k0 : W2.cell? ⟨w.heap.size + 1 + 1, 0, none⟩ = some (.int .i64 0) := by rw [hW2]; go_simp
  have k1 : W2.cell? ⟨w.heap.size + 1 + 1, 1, none⟩ = some (.int .i64 0) := by rw [hW2]; go_simp
  have f0 : W2.frozen? ⟨w.heap.size + 1 + 1, 0, none⟩ = false := by rw [hW2]; go_simp
  have f1 : W2.frozen? ⟨w.heap.size + 1 + 1, 1, none⟩ = false := by rw [hW2]; go_simp
  have hbw : Below w.heap.size w W2 := by rw [hW2]; exact (((Below.refl _ _).alloc (Nat.le_refl _) _).alloc (by simp) _).alloc (by simp; omega) _
  have aft : ∀ w1, Below W2.heap.size W2 w1 → w1.cell? ⟨w.heap.size, 0, none⟩ = some (.int .i64 t1) ∧ w1.cell? ⟨w.heap.size, 1, none⟩ = some (.int .i64 v1) ∧ w1.cell? ⟨w.heap.size + 1, 0, none⟩ = some (.int .i64 t2) ∧ w1.cell? ⟨w.heap.size + 1, 1, none⟩ = some (.int .i64 v2) := fun w1 h1 =>
    have hl1 : w.heap.size < W2.heap.size := by omega
    have hl2 : w.heap.size + 1 < W2.heap.size := by omega
    ⟨(h1.cell (p := ⟨w.heap.size, 0, none⟩) hl1).trans a0, (h1.cell (p := ⟨w.heap.size, 1, none⟩) hl1).trans a1, (h1.cell (p := ⟨w.heap.size + 1, 0, none⟩) hl2).trans b0, (h1.cell (p := ⟨w.heap.size + 1, 1, none⟩) hl2).trans b1⟩
  have aft2 : ∀ w1, Below W2.heap.size W2 w1 → w1.cell? ⟨w.heap.size + 1 + 1, 0, none⟩ = some (.int .i64 0) ∧ w1.cell? ⟨w.heap.size + 1 + 1, 1, none⟩ = some (.int .i64 0) ∧
      w1.frozen? ⟨w.heap.size + 1 + 1, 0, none⟩ = false ∧ w1.frozen? ⟨w.heap.size + 1 + 1, 1, none⟩ = false ∧ w.heap.size + 1 + 1 < w1.heap.size ∧ Below w.heap.size w w1 := fun w1 h1 =>
    have hl2 : w.heap.size + 1 + 1 < W2.heap.size := by omega
    ⟨(h1.cell (p := ⟨w.heap.size + 1 + 1, 0, none⟩) hl2).trans k0, (h1.cell (p := ⟨w.heap.size + 1 + 1, 1, none⟩) hl2).trans k1,
     (h1.frozen (p := ⟨w.heap.size + 1 + 1, 0, none⟩) hl2).trans f0, (h1.frozen (p := ⟨w.heap.size + 1 + 1, 1, none⟩) hl2).trans f1, Nat.lt_of_lt_of_le hl2 h1.size, hbw.trans (h1.mono (by omega))⟩
  have AFT := Lib.hid aft
  have AFT2 := Lib.hid aft2
  have HW2 := Lib.hid hW2
  have CNH := fun W => Lib.hid (CN W)
  have CAH := fun W => Lib.hid (CA W)
  unfold aggV decV at CNH CAH
  unfold aggV
  clear hW2 hsz k0 k1 f0 f1 hbw aft aft2 CN CA hok h1 h2
  go_enter Try.func14, Try.ntmps14
  go_wp2_with fail
  rw [← HW2.out]
  go_region_held3 (fun w' => w'.cell? ⟨w.heap.size, 0, none⟩ = some (.int .i64 t1) ∧ w'.cell? ⟨w.heap.size, 1, none⟩ = some (.int .i64 v1) ∧ w'.cell? ⟨w.heap.size + 1, 0, none⟩ = some (.int .i64 t2) ∧ w'.cell? ⟨w.heap.size + 1, 1, none⟩ = some (.int .i64 v2))
    (first | exact ⟨a0, a1, b0, b1⟩ | exact AFT.out _ hc2 | exact AFT.out _ hc1 | (refine ⟨?_, ?_, ?_, ?_⟩ <;> go_simp))
    (first
      | (go_at_call 16; refine (CNH _).out.mono ?_; rintro e w1 ⟨rfl, hb1⟩; have hc1 : Below W2.heap.size W2 w1 := ⟨hb1.os, hb1.tape, hb1.output, hb1.size, hb1.block⟩)
      | (go_at_call 12; refine (CAH _).out.mono ?_; rintro e w2 ⟨rfl, hb2⟩; have hd2 : Below w1.heap.size w1 w2 := ⟨hb2.os, hb2.tape, hb2.output, hb2.size, hb2.block⟩; have hc2 : Below W2.heap.size W2 w2 := hc1.trans (hd2.mono hc1.size); obtain ⟨k0, k1, f0, f1, hs2, hbb⟩ := AFT2.out _ hc2; obtain ⟨p0, p1, p2, p3⟩ := AFT.out _ hc2))
  go_wp2_with fail
  exact end_dec rfl w2 (w.heap.size + 1 + 1) _ _ k0 k1 rfl rfl ⟨rfl, (hbb.setCell (by show w.heap.size ≤ w.heap.size + 1 + 1; omega) _).setCell (by show w.heap.size ≤ w.heap.size + 1 + 1; omega) _⟩
end Go.Proofs.Ytncmmdhlponpoaa.Char
