/- The walks of the document's own Add (all ways together) and Mul for numbers in millionths. -/
import Derived.Test.YtncmmdhlponpoaaRefAddN
namespace Go.Proofs.Ytncmmdhlponpoaa.Char
open Go.RowKit

theorem refAdd_any (t1 v1 t2 v2 : Int) (w : World) (h1 : -9223372036854775808 ≤ v1 ∧ v1 ≤ 9223372036854775807) (h2 : -9223372036854775808 ≤ v2 ∧ v2 ≤ 9223372036854775807) :
    Calls Try.prog 13 #[aggV t1 v1, aggV t2 v2] w fun e w' => e = .returned (decV (addD (toD t1 v1) (toD t2 v2))) ∧ Below w.heap.size w w' := by
  by_cases hn : (nanB (toD t1 v1) || nanB (toD t2 v2)) = true
  · exact refAdd_none t1 v1 t2 v2 w hn
  · have hn2 : (nanB (toD t1 v1) || nanB (toD t2 v2)) = false := by simpa using hn
    by_cases hi : t1 ≠ 0 ∨ t2 ≠ 0
    · exact refAdd_inf t1 v1 t2 v2 w hn2 hi
    · obtain rfl : t1 = 0 := by omega
      obtain rfl : t2 = 0 := by omega
      have e1 : toD 0 v1 = .num v1 := by
        rcases toD_cases 0 v1 with ⟨_, _, e, _⟩ | ⟨h, _⟩ | ⟨h, _⟩ | ⟨h, _⟩ | ⟨_, _, _, _, e, _⟩
        · exact e
        · cases h
        · cases h
        · cases h
        · rw [e] at hn2; cases hn2
      have e2 : toD 0 v2 = .num v2 := by
        rcases toD_cases 0 v2 with ⟨_, _, e, _⟩ | ⟨h, _⟩ | ⟨h, _⟩ | ⟨h, _⟩ | ⟨_, _, _, _, e, _⟩
        · exact e
        · cases h
        · cases h
        · cases h
        · rw [e, Bool.or_comm] at hn2; cases hn2
      rw [e1, e2]
      exact refAdd_num v1 v2 w (num_in e1 h1) (num_in e2 h2)

theorem mulD_nan : ∀ x y, (nanB x || nanB y) = true → mulD x y = .nan := fun x y h => by cases x <;> cases y <;> first | rfl | cases h
theorem mulD_inf (t1 v1 t2 v2 : Int) (hn : (nanB (toD t1 v1) || nanB (toD t2 v2)) = false) (hi : t1 ≠ 0 ∨ t2 ≠ 0) : mulD (toD t1 v1) (toD t2 v2) = pastD (sgn (toD t1 v1) * sgn (toD t2 v2)) := by
  rcases toD_cases t1 v1 with ⟨_, _, e1, _⟩ | ⟨_, _, e1, _⟩ | ⟨_, _, e1, _⟩ | ⟨_, _, e1, _⟩ | ⟨_, _, _, _, e1, _⟩ <;>
    rcases toD_cases t2 v2 with ⟨_, _, e2, _⟩ | ⟨_, _, e2, _⟩ | ⟨_, _, e2, _⟩ | ⟨_, _, e2, _⟩ | ⟨_, _, _, _, e2, _⟩ <;>
    simp only [e1, e2] at hn ⊢ <;>
    first
      | (exfalso; omega)
      | (cases (hn : true = false); done)
      | rfl
theorem sgn_bounds (x : Nm) : -1 ≤ sgn x ∧ sgn x ≤ 1 := by
  cases x with
  | num n => exact sign_bounds n
  | _ => decide
theorem side_zero (B : Bool) : sizedD 0 B = .num 0 := by cases B <;> rfl
theorem side_mul (a b : Int) (n : Nat) (hn : a = 0 ∨ b = 0 → n = 0) : sizedD n (decide (a.sign * b.sign < 0)) = sizedD n (decide (a < 0) != decide (b < 0)) := by
  rcases Int.lt_trichotomy a 0 with ha | rfl | ha
  · rcases Int.lt_trichotomy b 0 with hb | rfl | hb
    · rw [Int.sign_eq_neg_one_of_neg ha, Int.sign_eq_neg_one_of_neg hb, decide_eq_true ha, decide_eq_true hb]; rfl
    · rw [hn (.inr rfl), side_zero, side_zero]
    · rw [Int.sign_eq_neg_one_of_neg ha, Int.sign_eq_one_of_pos hb, decide_eq_true ha, decide_eq_false (by omega : ¬ b < 0)]; rfl
  · rw [hn (.inl rfl), side_zero, side_zero]
  · rcases Int.lt_trichotomy b 0 with hb | rfl | hb
    · rw [Int.sign_eq_one_of_pos ha, Int.sign_eq_neg_one_of_neg hb, decide_eq_false (by omega : ¬ a < 0), decide_eq_true hb]; rfl
    · rw [hn (.inr rfl), side_zero, side_zero]
    · rw [Int.sign_eq_one_of_pos ha, Int.sign_eq_one_of_pos hb, decide_eq_false (by omega : ¬ a < 0), decide_eq_false (by omega : ¬ b < 0)]; rfl
theorem mul_side (a b : Int) : sizedD (a.natAbs * b.natAbs / 1000000) (decide (a.sign * b.sign < 0)) = fitD ((a * b).tdiv 1000000) := by
  rw [side_mul a b _ (fun h => by rcases h with rfl | rfl <;> simp)]
  have h := scaled_math a b 1000000
  rw [show (decide ((1000000 : Int) < 0)) = false from rfl, Bool.bne_false] at h
  exact h
theorem wrap_signs (x y P : Int) (hx : -1 ≤ x ∧ x ≤ 1) (hy : -1 ≤ y ∧ y ≤ 1) (hP : P = x * y) : IntKind.i64.wrap (x * y) = P ∧ -1 ≤ P ∧ P ≤ 1 := by
  have h1 : P = -1 ∨ P = 0 ∨ P = 1 := by
    rw [hP]
    have e1 : x = -1 ∨ x = 0 ∨ x = 1 := by omega
    have e2 : y = -1 ∨ y = 0 ∨ y = 1 := by omega
    rcases e1 with rfl | rfl | rfl <;> rcases e2 with rfl | rfl | rfl <;> simp
  refine ⟨?_, by omega, by omega⟩
  rw [← hP, IntWalk.i64_in _ (by omega)]

set_option maxRecDepth 100000 in
set_option maxHeartbeats 8000000 in
theorem refMul_any (t1 v1 t2 v2 : Int) (w : World) (h1 : -9223372036854775808 ≤ v1 ∧ v1 ≤ 9223372036854775807) (h2 : -9223372036854775808 ≤ v2 ∧ v2 ≤ 9223372036854775807) :
    Calls Try.prog 21 #[aggV t1 v1, aggV t2 v2] w fun e w' => e = .returned (decV (mulD (toD t1 v1) (toD t2 v2))) ∧ Below w.heap.size w w' := by
  have CN := fun W => none_any t1 v1 t2 v2 W
  obtain ⟨W3, hW3⟩ : ∃ W3, W3 = ((w.alloc (.cells #[Value.int .i64 t1, .int .i64 v1] 23)).alloc (.cells #[Value.int .i64 t2, .int .i64 v2] 23)).alloc (.cells #[Value.int .i64 0, .int .i64 0] 23) := ⟨_, rfl⟩
  have aft : ∀ w1, Below W3.heap.size W3 w1 → Three w t1 v1 t2 v2 w1 := fun w1 h => by rw [hW3] at h; exact kept_three w _ _ _ _ _ _ _ w1 h
  have AFT := Lib.hid aft
  have HW3 := Lib.hid hW3
  clear hW3 aft
  by_cases hn : (nanB (toD t1 v1) || nanB (toD t2 v2)) = true
  · rw [mulD_nan _ _ hn]
    rw [hn] at CN
    have C1 := fun W => Lib.hid (CN W)
    unfold aggV at C1 ⊢
    clear CN hn h1 h2
    go_enter Try.func21, Try.ntmps21
    go_wp2_with fail
    rw [← HW3.out]
    refine (C1 _).out.mono ?_
    rintro e w1 ⟨rfl, h1⟩
    obtain ⟨⟨a0, a1, b0, b1⟩, k0, k1, f0, f1, hs1, hbb⟩ := AFT.out _ h1
    go_wp2_with fail
    exact end_dec rfl w1 (w.heap.size + 1 + 1) _ _ k0 k1 rfl rfl ⟨rfl, (hbb.setCell (by show w.heap.size ≤ w.heap.size + 1 + 1; omega) _).setCell (by show w.heap.size ≤ w.heap.size + 1 + 1; omega) _⟩
  · have hn2 : (nanB (toD t1 v1) || nanB (toD t2 v2)) = false := by simpa using hn
    have hna := (Bool.or_eq_false_iff.1 hn2).1
    have hnb := (Bool.or_eq_false_iff.1 hn2).2
    rw [hn2] at CN
    have C1 := fun W => Lib.hid (CN W)
    have C2 := fun W => Lib.hid (sign_any t1 v1 W hna)
    have C3 := fun W => Lib.hid (sign_any t2 v2 W hnb)
    have CG := fun s W => Lib.hid (great_any s W)
    have hinf := mulD_inf t1 v1 t2 v2 hn2
    have hnum : ¬ (t1 ≠ 0 ∨ t2 ≠ 0) → toD t1 v1 = .num v1 ∧ toD t2 v2 = .num v2 ∧ (-9223372036854775807 ≤ v1 ∧ v1 ≤ 9223372036854775807) ∧ (-9223372036854775807 ≤ v2 ∧ v2 ≤ 9223372036854775807) := fun hi => by
      rcases toD_cases t1 v1 with ⟨_, _, e1, _⟩ | ⟨_, _, e1, _⟩ | ⟨_, _, e1, _⟩ | ⟨_, _, e1, _⟩ | ⟨_, _, _, _, e1, _⟩ <;>
        rcases toD_cases t2 v2 with ⟨_, _, e2, _⟩ | ⟨_, _, e2, _⟩ | ⟨_, _, e2, _⟩ | ⟨_, _, e2, _⟩ | ⟨_, _, _, _, e2, _⟩ <;>
        first
          | exact ⟨e1, e2, num_in e1 h1, num_in e2 h2⟩
          | (exfalso; omega)
          | (exfalso; rw [e1] at hna; cases hna; done)
          | (exfalso; rw [e2] at hnb; cases hnb; done)
    generalize hXX : mulD (toD t1 v1) (toD t2 v2) = X at *
    have HXX := Lib.hid hXX
    clear hXX
    have HINF := Lib.hid hinf
    have HNUM := Lib.hid hnum
    have sb1 := sgn_bounds (toD t1 v1)
    have sb2 := sgn_bounds (toD t2 v2)
    generalize hsa : sgn (toD t1 v1) = sa at *
    generalize hsb : sgn (toD t2 v2) = sb at *
    have HSA := Lib.hid hsa
    have HSB := Lib.hid hsb
    obtain ⟨P, hP⟩ : ∃ P, P = sa * sb := ⟨_, rfl⟩
    obtain ⟨wP, hPb⟩ := wrap_signs sa sb P sb1 sb2 hP
    have HP := Lib.hid hP
    unfold aggV at C1 C2 C3 ⊢
    clear CN hn hn2 hna hnb hinf hnum hsa hsb hP sb1 sb2 h1 h2
    go_enter Try.func21, Try.ntmps21
    go_wp2_with fail
    rw [← HW3.out]
    refine (C1 _).out.mono ?_
    rintro e w1 ⟨rfl, h1⟩
    obtain ⟨⟨a0, a1, b0, b1⟩, _, _, _, _, hs1, _⟩ := AFT.out _ h1
    have A0 : ∀ q : KeptT w1, q.at.cell? ⟨w.heap.size, 0, none⟩ = some (.int .i64 t1) := fun q => q.cell a0 (by omega)
    have A1 : ∀ q : KeptT w1, q.at.cell? ⟨w.heap.size, 1, none⟩ = some (.int .i64 v1) := fun q => q.cell a1 (by omega)
    have B0 : ∀ q : KeptT w1, q.at.cell? ⟨w.heap.size + 1, 0, none⟩ = some (.int .i64 t2) := fun q => q.cell b0 (by omega)
    have B1 : ∀ q : KeptT w1, q.at.cell? ⟨w.heap.size + 1, 1, none⟩ = some (.int .i64 v2) := fun q => q.cell b1 (by omega)
    haveI : Nonempty (KeptT w1) := ⟨⟨w1, Below.refl _ _⟩⟩
    go_wp2_with fail
    refine wp_region_kept (KeptT w1) KeptT.at (by kernel_rfl) (by kernel_rfl) ⟨⟨w1.drew, (Below.refl _ _).drew⟩, rfl⟩ ?_
    repeat (go_big_quiet_step (first
      | (go_at_call 41; rename_i q; with_reducible exact (C2 q.at).out.mono (fun e w' h => ⟨h.1, q.on h.2⟩))
      | (go_at_call 41; rename_i q; with_reducible exact (C3 q.at).out.mono (fun e w' h => ⟨h.1, q.on h.2⟩))))
    refine wpQuiet_nil ?_
    rintro w' ⟨q, rfl⟩
    have okq := q.ok
    generalize q.at = W4 at *
    have hc4 : Below W3.heap.size W3 W4 := h1.trans (okq.mono h1.size)
    obtain ⟨⟨a0, a1, b0, b1⟩, k0, k1, f0, f1, hs4, hbb⟩ := AFT.out _ hc4
    clear A0 A1 B0 B1 C2 C3 okq
    by_cases hi : t1 ≠ 0 ∨ t2 ≠ 0
    · have hX := HINF.out hi
      rw [← HP.out] at hX
      clear HXX
      subst hX
      have hd : ((t1 != 0) = true) ∨ ((t1 != 0) = false ∧ (t2 != 0) = true) := by
        by_cases ht : t1 = 0
        · exact .inr ⟨by simp [ht], by simp; omega⟩
        · exact .inl (by simp [ht])
      clear HINF HNUM hi
      rcases hd with d1 | ⟨d1, d2⟩
      all_goals
        go_wp2_with fail
        refine (CG _ _).out.mono ?_
        rintro e w5 ⟨rfl, hb5⟩
        have hc5 : Below W3.heap.size W3 w5 := hc4.trans (hb5.mono hc4.size)
        obtain ⟨_, k0, k1, f0, f1, hs5, hbb⟩ := AFT.out _ hc5
        unfold decV
        go_wp2_with fail
        exact end_dec rfl w5 (w.heap.size + 1 + 1) _ _ k0 k1 rfl rfl ⟨rfl, (hbb.setCell (by show w.heap.size ≤ w.heap.size + 1 + 1; omega) _).setCell (by show w.heap.size ≤ w.heap.size + 1 + 1; omega) _⟩
    · obtain ⟨e1, e2, hv1, hv2⟩ := HNUM.out (by omega)
      have hX : sizedD (v1.natAbs * v2.natAbs / 1000000) (decide (P < 0)) = X := by
        rw [HP.out, ← HXX.out, ← HSA.out, ← HSB.out, e1, e2]
        exact mul_side v1 v2
      have hla := len_20 v1.natAbs (by omega)
      have hlb := len_20 v2.natAbs (by omega)
      have hlp := len_prod v1.natAbs v2.natAbs 20 20 (Nat.lt_of_lt_of_le (dg_len_lt _) (Nat.pow_le_pow_right (by omega) hla)) (Nat.lt_of_lt_of_le (dg_len_lt _) (Nat.pow_le_pow_right (by omega) hlb))
      have hlq : (dg (v1.natAbs * v2.natAbs / 1000000)).length ≤ 1000 := by
        refine Nat.le_trans (dg_len_le _ 40 ?_) (by omega)
        exact Nat.lt_of_le_of_lt (Nat.div_le_self _ _) (Nat.lt_of_lt_of_le (dg_len_lt _) (Nat.pow_le_pow_right (by omega) hlp))
      have CA := fun W => Lib.hid (refSize_any t1 v1 W hv1)
      have CB := fun W => Lib.hid (refSize_any t2 v2 W hv2)
      have CM : ∀ W va, Holds W va (dg (v1.natAbs * v2.natAbs / 1000000)) → Hid (Calls Try.prog 42 #[.bool (decide (P < 0)), va] W fun e w' => e = .returned (.agg #[.int .i64 (outT X), .int .i64 (outV X)]) ∧ Below W.heap.size W w') := fun W va h => by
        have := made_any (decide (P < 0)) va _ W h hlq
        rw [hX] at this
        exact Lib.hid this
      generalize v1.natAbs = m1 at *
      generalize v2.natAbs = m2 at *
      unfold aggV at CA CB
      have t1b : (t1 != 0) = false := by simp; omega
      have t2b : (t2 != 0) = false := by simp; omega
      have CMH := Lib.hid CM
      clear HINF HNUM e1 e2 hX hlq hv1 hv2 CM hi C1 CG
      go_upto_region 6 with fail
      go_cut [6, 7] (fun s6 s7 wx => Hid (Holds wx s6 (dg (m1 * m2 / 1000000))) ∧ Hid (Below W3.heap.size W3 wx))
      case first =>
        go_region_held3 (fun w' => w'.cell? ⟨w.heap.size, 0, none⟩ = some (.int .i64 t1) ∧ w'.cell? ⟨w.heap.size, 1, none⟩ = some (.int .i64 v1) ∧ w'.cell? ⟨w.heap.size + 1, 0, none⟩ = some (.int .i64 t2) ∧ w'.cell? ⟨w.heap.size + 1, 1, none⟩ = some (.int .i64 v2))
          (first | exact ⟨a0, a1, b0, b1⟩ | exact (AFT.out _ hc9).1 | exact (AFT.out _ hc8).1 | exact (AFT.out _ hc7).1 | exact (AFT.out _ hc6).1 | exact (AFT.out _ hc5).1)
          (first
            | (go_at_call_of 40 (Value.agg #[Value.int IntKind.i64 t1, Value.int IntKind.i64 v1]); refine (CA _).out.mono ?_; rintro e w5 ⟨va, rfl, hva, _, hb5⟩; have hc5 : Below W3.heap.size W3 w5 := kept_step hc4 hb5 ⟨rfl, rfl, rfl, rfl⟩)
            | (go_at_call_of 40 (Value.agg #[Value.int IntKind.i64 t2, Value.int IntKind.i64 v2]); refine (CB _).out.mono ?_; rintro e w6 ⟨vb, rfl, hvb, _, hb6⟩; have hc6 : Below W3.heap.size W3 w6 := kept_step hc5 hb6 ⟨rfl, rfl, rfl, rfl⟩; have hva2 := hva.below hb6)
            | (go_at_call 51; refine (product_any _ _ _ _ _ (by exact hva2) (by exact hvb) (by omega) (by omega)).mono ?_; rintro e w7 ⟨vp, rfl, hvp, _, hb7⟩; have hc7 : Below W3.heap.size W3 w7 := kept_step hc6 hb7 ⟨rfl, rfl, rfl, rfl⟩)
            | (go_at_call 52; refine (unit_any _).mono ?_; rintro e w8 ⟨vu, rfl, hvu, _, hb8⟩; have hc8 : Below W3.heap.size W3 w8 := kept_step hc7 hb8 ⟨rfl, rfl, rfl, rfl⟩; have hvp2 := hvp.below hb8)
            | (go_at_call 50; refine (quotient_any _ _ _ _ _ (by exact hvp2) (by exact hvu) (by omega) (Nat.le_trans len_unit (by omega)) (by omega)).mono ?_; rintro e w9 ⟨vq, vr, rfl, hvq, _, hb9⟩; have hc9 : Below W3.heap.size W3 w9 := kept_step hc8 hb9 ⟨rfl, rfl, rfl, rfl⟩))
        go_wp2_with fail
        go_meet
        exact ⟨Lib.hid hvq, Lib.hid hc9⟩
      case rest =>
        obtain ⟨HQ, HBC⟩ := hcut
        obtain ⟨_, k0, k1, f0, f1, hs9, hbb⟩ := AFT.out _ HBC.out
        go_wp2_with fail
        refine (CMH.out _ _ HQ.out).out.mono ?_
        rintro e w10 ⟨rfl, hb10⟩
        have hc10 : Below W3.heap.size W3 w10 := HBC.out.trans (hb10.mono HBC.out.size)
        obtain ⟨_, k0, k1, f0, f1, hs10, hbb⟩ := AFT.out _ hc10
        go_wp2_with fail
        exact end_dec rfl w10 (w.heap.size + 1 + 1) _ _ k0 k1 rfl rfl ⟨rfl, (hbb.setCell (by show w.heap.size ≤ w.heap.size + 1 + 1; omega) _).setCell (by show w.heap.size ≤ w.heap.size + 1 + 1; omega) _⟩
end Go.Proofs.Ytncmmdhlponpoaa.Char
