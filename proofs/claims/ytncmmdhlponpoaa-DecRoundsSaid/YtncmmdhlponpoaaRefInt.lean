/- The walks of the document's own Int, Neg for numbers in millionths. -/
import Derived.Test.YtncmmdhlponpoaaMade
namespace Go.Proofs.Ytncmmdhlponpoaa.Char
open Go.RowKit

theorem len_unit : (dg 1000000).length ≤ 7 := dg_len_le _ 7 (by decide)
theorem len_20 (n : Nat) (h : n ≤ 18446744073709551615) : (dg n).length ≤ 20 := dg_len_le _ 20 (by omega)
theorem len_prod (a b : Nat) (k l : Nat) (h1 : a < 10 ^ k) (h2 : b < 10 ^ l) : (dg (a * b)).length ≤ k + l := by
  refine dg_len_le _ _ ?_
  rw [Nat.pow_add]
  rcases Nat.eq_zero_or_pos b with rfl | h0
  · rw [Nat.mul_zero]; exact Nat.mul_pos (Nat.pow_pos (by omega)) (Nat.pow_pos (by omega))
  · exact Nat.lt_of_lt_of_le (Nat.mul_lt_mul_of_pos_right h1 h0) (Nat.mul_le_mul_left _ (by omega))

set_option maxRecDepth 100000 in
set_option maxHeartbeats 4000000 in
theorem refInt_any (n : Int) (w : World) (h : -9223372036854775808 ≤ n ∧ n ≤ 9223372036854775807) :
    Calls Try.prog 36 #[.int .i64 n] w fun e w' => e = .returned (decV (intD n)) ∧ Below w.heap.size w w' := by
  obtain ⟨W1, hW1⟩ : ∃ W1, W1 = w.alloc (Obj.cells #[Value.int IntKind.i64 0, Value.int IntKind.i64 0] 23) := ⟨_, rfl⟩
  have aft : ∀ w1, Below W1.heap.size W1 w1 → w1.cell? ⟨w.heap.size, 0, none⟩ = some (.int .i64 0) ∧ w1.cell? ⟨w.heap.size, 1, none⟩ = some (.int .i64 0) ∧ w1.frozen? ⟨w.heap.size, 0, none⟩ = false ∧ w1.frozen? ⟨w.heap.size, 1, none⟩ = false ∧ w.heap.size < w1.heap.size ∧ Below w.heap.size w w1 := fun w1 h => by
    rw [hW1] at h
    exact kept_new w _ _ 23 w1 h
  have AFT := Lib.hid aft
  have HW1 := Lib.hid hW1
  clear hW1 aft
  have hX : sizedD (n.natAbs * 1000000) (decide (n < 0)) = intD n := by
    unfold sizedD intD
    congr 1
    by_cases hn : n < 0
    · rw [decide_eq_true hn, if_pos rfl]; omega
    · rw [decide_eq_false hn, if_neg (by simp)]; omega
  have hlen := len_20 n.natAbs (by omega)
  have hlp := len_prod n.natAbs 1000000 20 7 (Nat.lt_of_lt_of_le (dg_len_lt _) (Nat.pow_le_pow_right (by omega) hlen)) (by decide)
  have CD := Lib.hid (digits_any n.natAbs W1 (by omega))
  have CP := Lib.hid (fun W va vb (ha : Holds W va (dg n.natAbs)) (hb : Holds W vb (dg 1000000)) => product_any va vb n.natAbs 1000000 W ha hb (by omega) (Nat.le_trans len_unit (by omega)))
  have CM := Lib.hid (fun W va (ha : Holds W va (dg (n.natAbs * 1000000))) => made_any (decide (n < 0)) va (n.natAbs * 1000000) W ha (by omega))
  rw [hX] at CM
  have w1 : n < 0 → IntKind.u64.wrap (-IntKind.u64.wrap n) = (n.natAbs : Int) := fun hv => by rw [IntKind.wrap_u64, IntKind.wrap_u64]; omega
  have w3 : ¬ n < 0 → IntKind.u64.wrap n = (n.natAbs : Int) := fun hv => by rw [IntKind.wrap_u64]; omega
  generalize intD n = X at *
  generalize n.natAbs = a at *
  clear hX hlen hlp h
  by_cases hn : n < 0
  · rw [decide_eq_true hn] at CM
    have e1 := w1 hn
    clear w1 w3
    go_enter Try.func36, Try.ntmps36
    go_wp2_with fail
    rw [← HW1.out]
    refine CD.out.mono ?_
    rintro e w2 ⟨va, rfl, ha, _, hb2⟩
    have HA2 := Lib.hid ha
    clear ha
    go_wp2_with fail
    refine (unit_any _).mono ?_
    rintro e w3 ⟨vb, rfl, hb, _, hb3⟩
    have HC := CP.out _ _ _ (HA2.out.below hb3) hb
    have HCP := Lib.hid HC
    clear hb HC
    go_wp2_with fail
    refine HCP.out.mono ?_
    rintro e w4 ⟨vp, rfl, hp, _, hb4⟩
    have HCM := Lib.hid (CM.out _ _ hp)
    clear hp
    go_wp2_with fail
    refine HCM.out.mono ?_
    rintro e w5 ⟨rfl, hb5⟩
    obtain ⟨k0, k1, f0, f1, hs3, hbb⟩ := AFT.out _ (hb2.trans ((hb3.trans ((hb4.trans (hb5.mono hb4.size)).mono hb3.size)).mono hb2.size))
    unfold decV
    go_wp2_with fail
    exact end_dec rfl w5 w.heap.size _ _ k0 k1 rfl rfl ⟨rfl, (hbb.setCell (Nat.le_refl _) _).setCell (Nat.le_refl _) _⟩
  · rw [decide_eq_false hn] at CM
    have e1 := w3 hn
    clear w1 w3
    go_enter Try.func36, Try.ntmps36
    go_wp2_with fail
    rw [← HW1.out]
    refine CD.out.mono ?_
    rintro e w2 ⟨va, rfl, ha, _, hb2⟩
    have HA2 := Lib.hid ha
    clear ha
    go_wp2_with fail
    refine (unit_any _).mono ?_
    rintro e w3 ⟨vb, rfl, hb, _, hb3⟩
    have HC := CP.out _ _ _ (HA2.out.below hb3) hb
    have HCP := Lib.hid HC
    clear hb HC
    go_wp2_with fail
    refine HCP.out.mono ?_
    rintro e w4 ⟨vp, rfl, hp, _, hb4⟩
    have HCM := Lib.hid (CM.out _ _ hp)
    clear hp
    go_wp2_with fail
    refine HCM.out.mono ?_
    rintro e w5 ⟨rfl, hb5⟩
    obtain ⟨k0, k1, f0, f1, hs3, hbb⟩ := AFT.out _ (hb2.trans ((hb3.trans ((hb4.trans (hb5.mono hb4.size)).mono hb3.size)).mono hb2.size))
    unfold decV
    go_wp2_with fail
    exact end_dec rfl w5 w.heap.size _ _ k0 k1 rfl rfl ⟨rfl, (hbb.setCell (Nat.le_refl _) _).setCell (Nat.le_refl _) _⟩

set_option maxRecDepth 100000 in
set_option maxHeartbeats 4000000 in
theorem refNeg_any (t v : Int) (w : World) (h : -9223372036854775808 ≤ v ∧ v ≤ 9223372036854775807) :
    Calls Try.prog 15 #[aggV t v] w fun e w' => e = .returned (decV (negD (toD t v))) ∧ Below w.heap.size w w' := by
  have CN := fun W => none_any t v t v W
  have CS := fun W => sign_any t v W
  have CG := fun s W => Lib.hid (great_any s W)
  rcases toD_cases t v with ⟨rfl, h2, e, er⟩ | ⟨rfl, rfl, e, er⟩ | ⟨rfl, rfl, e, er⟩ | ⟨rfl, rfl, e, er⟩ | ⟨_, _, _, _, e, er⟩ <;> rw [e] at CN CS ⊢
  · have C1 := fun W => Lib.hid (CN W)
    have wn : IntKind.i64.wrap (-v) = -v := IntWalk.i64_in _ (by omega)
    unfold aggV at C1 ⊢
    clear CN CS CG e er
    go_enter Try.func15, Try.ntmps15
    go_wp2_with fail
    refine (C1 _).out.mono ?_
    rintro e w1 ⟨rfl, h1⟩
    obtain ⟨a0, a1, b0, b1, f0, f1, hs1, hbb⟩ := kept_two w _ _ _ _ 23 23 w1 h1
    have hn : (nanB (.num v) || nanB (.num v)) = false := rfl
    go_wp2_with fail
    exact end_dec rfl w1 (w.heap.size + 1) _ _ b0 b1 rfl rfl ⟨rfl, (hbb.setCell (by show w.heap.size ≤ w.heap.size + 1; omega) _).setCell (by show w.heap.size ≤ w.heap.size + 1; omega) _⟩
  · have C1 := fun W => Lib.hid (CN W)
    have C2 := fun W => Lib.hid (CS W rfl)
    unfold aggV at C1 C2 ⊢
    clear CN CS e er h
    go_enter Try.func15, Try.ntmps15
    go_wp2_with fail
    refine (C1 _).out.mono ?_
    rintro e w1 ⟨rfl, h1⟩
    obtain ⟨a0, a1, b0, b1, f0, f1, hs1, hbb⟩ := kept_two w _ _ _ _ 23 23 w1 h1
    have hn : (nanB .over || nanB .over) = false := rfl
    go_wp2_with fail
    refine (C2 _).out.mono ?_
    rintro e w2 ⟨rfl, h2⟩
    have hs : sgn .over = 1 := rfl
    go_wp2_with fail
    refine (CG _ _).out.mono ?_
    rintro e w3 ⟨rfl, h3⟩
    obtain ⟨_, _, k0, k1, f0, f1, hs1, hbb⟩ := kept_two w _ _ _ _ 23 23 w3 (h1.trans ((h2.trans (h3.mono h2.size)).mono h1.size))
    have hp : pastD (-1) = .under := rfl
    rw [hp]
    unfold decV
    go_wp2_with fail
    exact end_dec rfl w3 (w.heap.size + 1) _ _ k0 k1 rfl rfl ⟨rfl, (hbb.setCell (by show w.heap.size ≤ w.heap.size + 1; omega) _).setCell (by show w.heap.size ≤ w.heap.size + 1; omega) _⟩
  · have C1 := fun W => Lib.hid (CN W)
    have C2 := fun W => Lib.hid (CS W rfl)
    unfold aggV at C1 C2 ⊢
    clear CN CS e er h
    go_enter Try.func15, Try.ntmps15
    go_wp2_with fail
    refine (C1 _).out.mono ?_
    rintro e w1 ⟨rfl, h1⟩
    obtain ⟨a0, a1, b0, b1, f0, f1, hs1, hbb⟩ := kept_two w _ _ _ _ 23 23 w1 h1
    have hn : (nanB .under || nanB .under) = false := rfl
    go_wp2_with fail
    refine (C2 _).out.mono ?_
    rintro e w2 ⟨rfl, h2⟩
    have hs : sgn .under = -1 := rfl
    go_wp2_with fail
    refine (CG _ _).out.mono ?_
    rintro e w3 ⟨rfl, h3⟩
    obtain ⟨_, _, k0, k1, f0, f1, hs1, hbb⟩ := kept_two w _ _ _ _ 23 23 w3 (h1.trans ((h2.trans (h3.mono h2.size)).mono h1.size))
    have hp : pastD 1 = .over := rfl
    rw [hp]
    unfold decV
    go_wp2_with fail
    exact end_dec rfl w3 (w.heap.size + 1) _ _ k0 k1 rfl rfl ⟨rfl, (hbb.setCell (by show w.heap.size ≤ w.heap.size + 1; omega) _).setCell (by show w.heap.size ≤ w.heap.size + 1; omega) _⟩
  all_goals
    have C1 := fun W => Lib.hid (CN W)
    unfold aggV at C1 ⊢
    clear CN CS CG e er h
    go_enter Try.func15, Try.ntmps15
    go_wp2_with fail
    refine (C1 _).out.mono ?_
    rintro e w1 ⟨rfl, h1⟩
    obtain ⟨a0, a1, b0, b1, f0, f1, hs1, hbb⟩ := kept_two w _ _ _ _ 23 23 w1 h1
    have hn : (nanB .nan || nanB .nan) = true := rfl
    go_wp2_with fail
    exact end_dec rfl w1 (w.heap.size + 1) _ _ b0 b1 rfl rfl ⟨rfl, (hbb.setCell (by show w.heap.size ≤ w.heap.size + 1; omega) _).setCell (by show w.heap.size ≤ w.heap.size + 1; omega) _⟩
end Go.Proofs.Ytncmmdhlponpoaa.Char
