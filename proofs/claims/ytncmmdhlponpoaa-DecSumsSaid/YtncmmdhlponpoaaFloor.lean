/- The walks of package dec's Floor, Ceil, Round, Int. -/
import Derived.Test.YtncmmdhlponpoaaSub
namespace Go.Proofs.Ytncmmdhlponpoaa.Char
open Go.RowKit

theorem negD_fit (n : Int) : negD (fitD n) = fitD (-n) := by
  unfold fitD
  by_cases h1 : 9223372036854775807 < n
  · rw [if_pos h1, if_neg (by omega), if_pos (by omega)]; rfl
  · by_cases h2 : n < -9223372036854775807
    · rw [if_neg h1, if_pos h2, if_pos (by omega)]; rfl
    · rw [if_neg h1, if_neg h2, if_neg (by omega), if_neg (by omega)]; rfl
theorem floorD_ok : ∀ x, okD x → okD (floorD x)
  | .nan, _ => trivial
  | .over, _ => trivial
  | .under, _ => trivial
  | .num _, _ => fitD_ok _
theorem floor_math (t v : Int) : addD (toD t v) (negD (.num (v % 1000000))) = floorD (toD t v) := by
  rcases toD_cases t v with ⟨_, _, e, _⟩ | ⟨_, h, e, _⟩ | ⟨_, h, e, _⟩ | ⟨_, _, e, _⟩ | ⟨_, _, _, _, e, _⟩ <;> rw [e]
  · show fitD (v + -(v % 1000000)) = fitD (v / 1000000 * 1000000)
    congr 1
    omega
  · rfl
  · rfl
  · rfl
  · rfl
theorem round_low (t v : Int) (h : v % 1000000 < 500000) : floorD (toD t v) = roundD (toD t v) := by
  rcases toD_cases t v with ⟨_, _, e, _⟩ | ⟨_, _, e, _⟩ | ⟨_, _, e, _⟩ | ⟨_, _, e, _⟩ | ⟨_, _, _, _, e, _⟩ <;> rw [e]
  · show fitD (v / 1000000 * 1000000) = fitD ((v + 500000) / 1000000 * 1000000)
    congr 1
    omega
  all_goals rfl
theorem round_high (t v : Int) (h : ¬ v % 1000000 < 500000) : ceilD (toD t v) = roundD (toD t v) := by
  rcases toD_cases t v with ⟨_, _, e, _⟩ | ⟨_, _, e, _⟩ | ⟨_, _, e, _⟩ | ⟨_, _, e, _⟩ | ⟨_, _, _, _, e, _⟩ <;> rw [e]
  · show negD (fitD (-v / 1000000 * 1000000)) = fitD ((v + 500000) / 1000000 * 1000000)
    rw [negD_fit]
    congr 1
    omega
  all_goals rfl
theorem toD_part (v : Int) : toD 0 (v % 1000000) = .num (v % 1000000) := by
  unfold toD
  rw [if_pos ⟨rfl, by omega⟩]

set_option maxRecDepth 100000 in
set_option maxHeartbeats 4000000 in
theorem floor_any (t v : Int) (w : World) (h : -9223372036854775808 ≤ v ∧ v ≤ 9223372036854775807) :
    Calls Try.prog 31 #[aggV t v] w fun e w' => e = .returned (decV (floorD (toD t v))) ∧ Below w.heap.size w w' := by
  have CP := fun W => part_any t v W h.1 h.2
  have CS := fun W => sub_any t v 0 (v % 1000000) W h ⟨by omega, by omega⟩
  rw [toD_part, floor_math] at CS
  generalize floorD (toD t v) = X at *
  generalize v % 1000000 = p at *
  obtain ⟨W2, hW2⟩ : ∃ W2, W2 = (w.alloc (Obj.cells #[Value.int IntKind.i64 t, Value.int IntKind.i64 v] 23)).alloc (Obj.cells #[Value.int IntKind.i64 0, Value.int IntKind.i64 0] 23) := ⟨_, rfl⟩
  have hsz : W2.heap.size = w.heap.size + 1 + 1 := by rw [hW2]; simp
  have a0 : W2.cell? ⟨w.heap.size, 0, none⟩ = some (.int .i64 t) := by rw [hW2]; go_simp
  have a1 : W2.cell? ⟨w.heap.size, 1, none⟩ = some (.int .i64 v) := by rw [hW2]; go_simp
  have k0 : W2.cell? ⟨w.heap.size + 1, 0, none⟩ = some (.int .i64 0) := by rw [hW2]; go_simp
  have k1 : W2.cell? ⟨w.heap.size + 1, 1, none⟩ = some (.int .i64 0) := by rw [hW2]; go_simp
  have f0 : W2.frozen? ⟨w.heap.size + 1, 0, none⟩ = false := by rw [hW2]; go_simp
  have f1 : W2.frozen? ⟨w.heap.size + 1, 1, none⟩ = false := by rw [hW2]; go_simp
  have hbw : Below w.heap.size w W2 := by rw [hW2]; exact ((Below.refl _ _).alloc (Nat.le_refl _) _).alloc (by simp) _
  have aft : ∀ w1, Below W2.heap.size W2 w1 → w1.cell? ⟨w.heap.size, 0, none⟩ = some (.int .i64 t) ∧ w1.cell? ⟨w.heap.size, 1, none⟩ = some (.int .i64 v) := fun w1 h1 =>
    have hl1 : w.heap.size < W2.heap.size := by omega
    ⟨(h1.cell (p := ⟨w.heap.size, 0, none⟩) hl1).trans a0, (h1.cell (p := ⟨w.heap.size, 1, none⟩) hl1).trans a1⟩
  have aft2 : ∀ w1, Below W2.heap.size W2 w1 → w1.cell? ⟨w.heap.size + 1, 0, none⟩ = some (.int .i64 0) ∧ w1.cell? ⟨w.heap.size + 1, 1, none⟩ = some (.int .i64 0) ∧
      w1.frozen? ⟨w.heap.size + 1, 0, none⟩ = false ∧ w1.frozen? ⟨w.heap.size + 1, 1, none⟩ = false ∧ w.heap.size + 1 < w1.heap.size ∧ Below w.heap.size w w1 := fun w1 h1 =>
    have hl2 : w.heap.size + 1 < W2.heap.size := by omega
    ⟨(h1.cell (p := ⟨w.heap.size + 1, 0, none⟩) hl2).trans k0, (h1.cell (p := ⟨w.heap.size + 1, 1, none⟩) hl2).trans k1,
     (h1.frozen (p := ⟨w.heap.size + 1, 0, none⟩) hl2).trans f0, (h1.frozen (p := ⟨w.heap.size + 1, 1, none⟩) hl2).trans f1, Nat.lt_of_lt_of_le hl2 h1.size, hbw.trans (h1.mono (by omega))⟩
  have AFT := Lib.hid aft
  have AFT2 := Lib.hid aft2
  have HW2 := Lib.hid hW2
  have CPH := fun W => Lib.hid (CP W)
  have CSH := fun W => Lib.hid (CS W)
  unfold aggV at CPH CSH
  unfold decV at CSH
  unfold aggV
  clear hW2 hsz k0 k1 f0 f1 hbw aft aft2 CP CS h
  go_enter Try.func31, Try.ntmps31
  go_wp2_with fail
  rw [← HW2.out]
  go_region_held3 (fun w' => w'.cell? ⟨w.heap.size, 0, none⟩ = some (.int .i64 t) ∧ w'.cell? ⟨w.heap.size, 1, none⟩ = some (.int .i64 v))
    (first | exact ⟨a0, a1⟩ | exact AFT.out _ hc2 | exact AFT.out _ hc1 | (refine ⟨?_, ?_⟩ <;> go_simp))
    (first
      | (go_at_call 55; refine (CPH _).out.mono ?_; rintro e w1 ⟨rfl, hb1⟩; have hc1 : Below W2.heap.size W2 w1 := ⟨hb1.os, hb1.tape, hb1.output, hb1.size, hb1.block⟩)
      | (go_at_call 14; refine (CSH _).out.mono ?_; rintro e w2 ⟨rfl, hb2⟩; have hd2 : Below w1.heap.size w1 w2 := ⟨hb2.os, hb2.tape, hb2.output, hb2.size, hb2.block⟩; have hc2 : Below W2.heap.size W2 w2 := hc1.trans (hd2.mono hc1.size); obtain ⟨k0, k1, f0, f1, hs2, hbb⟩ := AFT2.out _ hc2; obtain ⟨p0, p1⟩ := AFT.out _ hc2))
  go_wp2_with fail
  exact end_dec rfl w2 (w.heap.size + 1) _ _ k0 k1 rfl rfl ⟨rfl, (hbb.setCell (by show w.heap.size ≤ w.heap.size + 1; omega) _).setCell (by show w.heap.size ≤ w.heap.size + 1; omega) _⟩

/-- what a new pair of cells behind another new pair reads, behind a call that kept both -/
theorem kept_two (w : World) (x0 x1 z0 z1 : Value) (T U : TypeId) (w1 : World) (h : Below ((w.alloc (.cells #[x0, x1] U)).alloc (.cells #[z0, z1] T)).heap.size ((w.alloc (.cells #[x0, x1] U)).alloc (.cells #[z0, z1] T)) w1) :
    w1.cell? ⟨w.heap.size, 0, none⟩ = some x0 ∧ w1.cell? ⟨w.heap.size, 1, none⟩ = some x1 ∧ w1.cell? ⟨w.heap.size + 1, 0, none⟩ = some z0 ∧ w1.cell? ⟨w.heap.size + 1, 1, none⟩ = some z1 ∧
      w1.frozen? ⟨w.heap.size + 1, 0, none⟩ = false ∧ w1.frozen? ⟨w.heap.size + 1, 1, none⟩ = false ∧ w.heap.size + 1 < w1.heap.size ∧ Below w.heap.size w w1 := by
  have hsz : ((w.alloc (.cells #[x0, x1] U)).alloc (.cells #[z0, z1] T)).heap.size = w.heap.size + 1 + 1 := by simp
  have hl1 : w.heap.size < ((w.alloc (.cells #[x0, x1] U)).alloc (.cells #[z0, z1] T)).heap.size := by omega
  have hl2 : w.heap.size + 1 < ((w.alloc (.cells #[x0, x1] U)).alloc (.cells #[z0, z1] T)).heap.size := by omega
  have hs := h.size
  refine ⟨?_, ?_, ?_, ?_, ?_, ?_, by omega, (((Below.refl _ _).alloc (Nat.le_refl _) _).alloc (by simp) _).trans (h.mono (by omega))⟩
  · rw [h.cell (p := ⟨w.heap.size, 0, none⟩) hl1]; go_simp
  · rw [h.cell (p := ⟨w.heap.size, 1, none⟩) hl1]; go_simp
  · rw [h.cell (p := ⟨w.heap.size + 1, 0, none⟩) hl2]; go_simp
  · rw [h.cell (p := ⟨w.heap.size + 1, 1, none⟩) hl2]; go_simp
  · rw [h.frozen (p := ⟨w.heap.size + 1, 0, none⟩) hl2]; go_simp
  · rw [h.frozen (p := ⟨w.heap.size + 1, 1, none⟩) hl2]; go_simp

set_option maxRecDepth 100000 in
set_option maxHeartbeats 4000000 in
theorem ceil_any (t v : Int) (w : World) (h : -9223372036854775808 ≤ v ∧ v ≤ 9223372036854775807) :
    Calls Try.prog 32 #[aggV t v] w fun e w' => e = .returned (decV (ceilD (toD t v))) ∧ Below w.heap.size w w' := by
  have CN1 := fun W => neg_any t v W h
  have ok1 := negD_ok _ (toD_ok t v h)
  have CF := fun W => floor_any (outT (negD (toD t v))) (outV (negD (toD t v))) W (okD_bounds ok1)
  rw [toD_out _ ok1] at CF
  have ok2 := floorD_ok _ ok1
  have CN2 := fun W => neg_any (outT (floorD (negD (toD t v)))) (outV (floorD (negD (toD t v)))) W (okD_bounds ok2)
  rw [toD_out _ ok2] at CN2
  unfold ceilD
  generalize negD (floorD (negD (toD t v))) = Z at *
  generalize floorD (negD (toD t v)) = Y at *
  generalize negD (toD t v) = X at *
  have C1 := fun W => Lib.hid (CN1 W)
  have C2 := fun W => Lib.hid (CF W)
  have C3 := fun W => Lib.hid (CN2 W)
  unfold decV at C1 C2 C3
  unfold aggV at C1 C2 C3 ⊢
  clear CN1 CF CN2 ok1 ok2 h
  go_enter Try.func32, Try.ntmps32
  go_wp2_with fail
  refine (C1 _).out.mono ?_
  rintro e w1 ⟨rfl, h1⟩
  go_wp2_with fail
  refine (C2 _).out.mono ?_
  rintro e w2 ⟨rfl, h2⟩
  go_wp2_with fail
  refine (C3 _).out.mono ?_
  rintro e w3 ⟨rfl, h3⟩
  obtain ⟨_, _, k0, k1, f0, f1, hs1, hbb⟩ := kept_two w _ _ _ _ 23 23 w3 (h1.trans ((h2.trans (h3.mono h2.size)).mono h1.size))
  go_wp2_with fail
  exact end_dec rfl w3 (w.heap.size + 1) _ _ k0 k1 rfl rfl ⟨rfl, (hbb.setCell (by show w.heap.size ≤ w.heap.size + 1; omega) _).setCell (by show w.heap.size ≤ w.heap.size + 1; omega) _⟩

set_option maxRecDepth 100000 in
set_option maxHeartbeats 4000000 in
theorem round_any (t v : Int) (w : World) (h : -9223372036854775808 ≤ v ∧ v ≤ 9223372036854775807) :
    Calls Try.prog 33 #[aggV t v] w fun e w' => e = .returned (decV (roundD (toD t v))) ∧ Below w.heap.size w w' := by
  have CP := fun W => Lib.hid (part_any t v W h.1 h.2)
  have CF := fun W => Lib.hid (floor_any t v W h)
  have CC := fun W => Lib.hid (ceil_any t v W h)
  have hl := round_low t v
  have hh := round_high t v
  generalize floorD (toD t v) = X at *
  generalize ceilD (toD t v) = Y at *
  generalize roundD (toD t v) = Z at *
  generalize v % 1000000 = p at *
  unfold decV at CF CC
  unfold aggV at CP CF CC ⊢
  clear h
  by_cases hp : p < 500000
  · have hx := hl hp
    subst hx
    clear hl hh
    go_enter Try.func33, Try.ntmps33
    go_wp2_with fail
    refine (CP _).out.mono ?_
    rintro e w1 ⟨rfl, h1⟩
    obtain ⟨a0, a1, k0, k1, f0, f1, hs1, hbb⟩ := kept_two w _ _ _ _ 23 23 w1 h1
    go_wp2_with fail
    refine (CF _).out.mono ?_
    rintro e w2 ⟨rfl, h2⟩
    obtain ⟨_, _, k0, k1, f0, f1, hs1, hbb⟩ := kept_two w _ _ _ _ 23 23 w2 (h1.trans (h2.mono h1.size))
    go_wp2_with fail
    exact end_dec rfl w2 (w.heap.size + 1) _ _ k0 k1 rfl rfl ⟨rfl, (hbb.setCell (by show w.heap.size ≤ w.heap.size + 1; omega) _).setCell (by show w.heap.size ≤ w.heap.size + 1; omega) _⟩
  · have hx := hh hp
    subst hx
    clear hl hh
    go_enter Try.func33, Try.ntmps33
    go_wp2_with fail
    refine (CP _).out.mono ?_
    rintro e w1 ⟨rfl, h1⟩
    obtain ⟨a0, a1, k0, k1, f0, f1, hs1, hbb⟩ := kept_two w _ _ _ _ 23 23 w1 h1
    go_wp2_with fail
    refine (CC _).out.mono ?_
    rintro e w2 ⟨rfl, h2⟩
    obtain ⟨_, _, k0, k1, f0, f1, hs1, hbb⟩ := kept_two w _ _ _ _ 23 23 w2 (h1.trans (h2.mono h1.size))
    go_wp2_with fail
    exact end_dec rfl w2 (w.heap.size + 1) _ _ k0 k1 rfl rfl ⟨rfl, (hbb.setCell (by show w.heap.size ≤ w.heap.size + 1; omega) _).setCell (by show w.heap.size ≤ w.heap.size + 1; omega) _⟩

set_option maxRecDepth 100000 in
set_option maxHeartbeats 2000000 in
theorem int_any (n : Int) (w : World) (h : -9223372036854775808 ≤ n ∧ n ≤ 9223372036854775807) :
    Calls Try.prog 35 #[.int .i64 n] w fun e w' => e = .returned (decV (intD n)) ∧ Below w.heap.size w w' := by
  have CS := fun W => Lib.hid (scaled_any n 1000000 1 W h (by omega) (by omega) (by omega))
  rw [Int.tdiv_one] at CS
  unfold intD
  generalize fitD (n * 1000000) = X at *
  clear h
  go_enter Try.func35, Try.ntmps35
  go_wp2_with fail
  refine (CS _).out.mono ?_
  rintro e w1 ⟨rfl, h1⟩
  obtain ⟨k0, k1, f0, f1, hs1, hbb⟩ := kept_new w _ _ 23 w1 h1
  unfold decV
  go_wp2_with fail
  exact end_dec rfl w1 w.heap.size _ _ k0 k1 rfl rfl ⟨rfl, (hbb.setCell (Nat.le_refl _) _).setCell (Nat.le_refl _) _⟩
end Go.Proofs.Ytncmmdhlponpoaa.Char
