/- The walk of the document's own Div for numbers in millionths. -/
import Derived.Test.YtncmmdhlponpoaaRefMul
namespace Go.Proofs.Ytncmmdhlponpoaa.Char
open Go.RowKit

theorem divD_nan : ∀ x y, (nanB x || nanB y) = true → divD x y = .nan := fun x y h => by cases x <;> cases y <;> first | rfl | cases h
theorem divD_two (t1 v1 t2 v2 : Int) (hn : (nanB (toD t1 v1) || nanB (toD t2 v2)) = false) (h1 : t1 ≠ 0) (h2 : t2 ≠ 0) : divD (toD t1 v1) (toD t2 v2) = .nan := by
  rcases toD_cases t1 v1 with ⟨_, _, e1, _⟩ | ⟨_, _, e1, _⟩ | ⟨_, _, e1, _⟩ | ⟨_, _, e1, _⟩ | ⟨_, _, _, _, e1, _⟩ <;>
    rcases toD_cases t2 v2 with ⟨_, _, e2, _⟩ | ⟨_, _, e2, _⟩ | ⟨_, _, e2, _⟩ | ⟨_, _, e2, _⟩ | ⟨_, _, _, _, e2, _⟩ <;>
    simp only [e1, e2] at hn ⊢ <;>
    first
      | (exfalso; omega)
      | (cases (hn : true = false); done)
      | rfl
theorem divD_by (t1 v1 t2 v2 : Int) (hn : (nanB (toD t1 v1) || nanB (toD t2 v2)) = false) (h1 : t1 = 0) (h2 : t2 ≠ 0) : divD (toD t1 v1) (toD t2 v2) = .num 0 := by
  rcases toD_cases t1 v1 with ⟨_, _, e1, _⟩ | ⟨_, _, e1, _⟩ | ⟨_, _, e1, _⟩ | ⟨_, _, e1, _⟩ | ⟨_, _, _, _, e1, _⟩ <;>
    rcases toD_cases t2 v2 with ⟨_, _, e2, _⟩ | ⟨_, _, e2, _⟩ | ⟨_, _, e2, _⟩ | ⟨_, _, e2, _⟩ | ⟨_, _, _, _, e2, _⟩ <;>
    simp only [e1, e2] at hn ⊢ <;>
    first
      | (exfalso; omega)
      | (cases (hn : true = false); done)
      | rfl
theorem num_of {t v : Int} (hn : nanB (toD t v) = false) (h : t = 0) : toD t v = .num v := by
  rcases toD_cases t v with ⟨_, _, e, _⟩ | ⟨h1, _⟩ | ⟨h1, _⟩ | ⟨h1, _⟩ | ⟨_, _, _, _, e, _⟩
  · exact e
  · omega
  · omega
  · omega
  · rw [e] at hn; cases hn
theorem inf_of {t v : Int} (hn : nanB (toD t v) = false) (h : t ≠ 0) : toD t v = .over ∨ toD t v = .under := by
  rcases toD_cases t v with ⟨h1, _⟩ | ⟨_, _, e, _⟩ | ⟨_, _, e, _⟩ | ⟨_, _, e, _⟩ | ⟨_, _, _, _, e, _⟩
  · exact absurd h1 h
  · exact .inl e
  · exact .inr e
  · rw [e] at hn; cases hn
  · rw [e] at hn; cases hn
theorem divD_zero (x : Nm) (hn : nanB x = false) : divD x (.num 0) = pastD (sgn x) := by
  cases x with
  | nan => cases hn
  | over => rfl
  | under => rfl
  | num n => rfl
theorem divD_inf (x : Nm) (b : Int) (hx : x = .over ∨ x = .under) (hb : b ≠ 0) : divD x (.num b) = pastD (sgn x * b.sign) := by
  rcases hx with rfl | rfl
  · show (if b = 0 then _ else _) = _
    rw [if_neg hb]
  · show (if b = 0 then _ else _) = _
    rw [if_neg hb]
theorem div_side (a b : Int) (hb : b ≠ 0) : sizedD (a.natAbs * 1000000 / b.natAbs) (decide (a.sign * b.sign < 0)) = fitD ((a * 1000000).tdiv b) := by
  rw [side_mul a b _ (fun h => by rcases h with rfl | h; simp; exact absurd h hb)]
  have h := scaled_math a 1000000 b
  rw [show (decide ((1000000 : Int) < 0)) = false from rfl, Bool.bne_false] at h
  exact h

set_option maxRecDepth 100000 in
set_option maxHeartbeats 8000000 in
theorem refDiv_any (t1 v1 t2 v2 : Int) (w : World) (h1 : -9223372036854775808 ≤ v1 ∧ v1 ≤ 9223372036854775807) (h2 : -9223372036854775808 ≤ v2 ∧ v2 ≤ 9223372036854775807) :
    Calls Try.prog 23 #[aggV t1 v1, aggV t2 v2] w fun e w' => e = .returned (decV (divD (toD t1 v1) (toD t2 v2))) ∧ Below w.heap.size w w' := by
  have CN := fun W => none_any t1 v1 t2 v2 W
  obtain ⟨W3, hW3⟩ : ∃ W3, W3 = ((w.alloc (.cells #[Value.int .i64 t1, .int .i64 v1] 23)).alloc (.cells #[Value.int .i64 t2, .int .i64 v2] 23)).alloc (.cells #[Value.int .i64 0, .int .i64 0] 23) := ⟨_, rfl⟩
  have aft : ∀ w1, Below W3.heap.size W3 w1 → Three w t1 v1 t2 v2 w1 := fun w1 h => by rw [hW3] at h; exact kept_three w _ _ _ _ _ _ _ w1 h
  have AFT := Lib.hid aft
  have HW3 := Lib.hid hW3
  clear hW3 aft
  generalize hXX : divD (toD t1 v1) (toD t2 v2) = X
  by_cases hn : (nanB (toD t1 v1) || nanB (toD t2 v2)) = true
  · rw [divD_nan _ _ hn] at hXX
    rw [hn] at CN
    have C1 := fun W => Lib.hid (CN W)
    unfold aggV at C1 ⊢
    subst hXX
    clear CN hn h1 h2
    go_enter Try.func23, Try.ntmps23
    go_wp2_with fail
    rw [← HW3.out]
    refine (C1 _).out.mono ?_
    rintro e w1 ⟨rfl, h1⟩
    obtain ⟨⟨a0, a1, b0, b1⟩, k0, k1, f0, f1, hs1, hbb⟩ := AFT.out _ h1
    go_wp2_with fail
    exact end_dec rfl w1 (w.heap.size + 1 + 1) _ _ k0 k1 rfl rfl ⟨rfl, (hbb.setCell (by show w.heap.size ≤ w.heap.size + 1 + 1; omega) _).setCell (by show w.heap.size ≤ w.heap.size + 1 + 1; omega) _⟩
  · have hn2 : (nanB (toD t1 v1) || nanB (toD t2 v2)) = false := by simpa using hn
    have hna := (Bool.or_eq_false_iff.1 hn2).1
    have hnb := (Bool.or_eq_false_iff.1 hn2).2
    rw [hn2] at CN
    have C1 := fun W => Lib.hid (CN W)
    have C2 := fun W => Lib.hid (sign_any t1 v1 W hna)
    have C3 := fun W => Lib.hid (sign_any t2 v2 W hnb)
    have CG := fun s W => Lib.hid (great_any s W)
    by_cases ht2 : t2 = 0
    · have e2 := num_of hnb ht2
      have hv2 := num_in e2 h2
      by_cases hz : v2 = 0
      · rw [e2, hz, divD_zero _ hna] at hXX
        generalize sgn (toD t1 v1) = sa at *
        subst hXX ht2 hz
        unfold aggV at C1 C2 ⊢
        clear CN hn hn2 hna hnb e2 hv2 h1 h2 C3
        by_cases ht1 : t1 = 0
        · subst ht1
          go_enter Try.func23, Try.ntmps23
          go_wp2_with fail
          rw [← HW3.out]
          refine (C1 _).out.mono ?_
          rintro e w1 ⟨rfl, h1⟩
          obtain ⟨⟨a0, a1, b0, b1⟩, k0, k1, f0, f1, hs1, hbb⟩ := AFT.out _ h1
          go_wp2_with fail
          refine (C2 _).out.mono ?_
          rintro e w2 ⟨rfl, h2⟩
          have hc2 : Below W3.heap.size W3 w2 := h1.trans (h2.mono h1.size)
          go_wp2_with fail
          refine (CG _ _).out.mono ?_
          rintro e w5 ⟨rfl, hb5⟩
          have hc5 : Below W3.heap.size W3 w5 := hc2.trans (hb5.mono hc2.size)
          obtain ⟨_, k0, k1, f0, f1, hs5, hbb⟩ := AFT.out _ hc5
          unfold decV
          go_wp2_with fail
          exact end_dec rfl w5 (w.heap.size + 1 + 1) _ _ k0 k1 rfl rfl ⟨rfl, (hbb.setCell (by show w.heap.size ≤ w.heap.size + 1 + 1; omega) _).setCell (by show w.heap.size ≤ w.heap.size + 1 + 1; omega) _⟩
        · have d1 : (t1 != 0) = true := by simp [ht1]
          clear ht1
          go_enter Try.func23, Try.ntmps23
          go_wp2_with fail
          rw [← HW3.out]
          refine (C1 _).out.mono ?_
          rintro e w1 ⟨rfl, h1⟩
          obtain ⟨⟨a0, a1, b0, b1⟩, k0, k1, f0, f1, hs1, hbb⟩ := AFT.out _ h1
          go_wp2_with fail
          refine (C2 _).out.mono ?_
          rintro e w2 ⟨rfl, h2⟩
          have hc2 : Below W3.heap.size W3 w2 := h1.trans (h2.mono h1.size)
          go_wp2_with fail
          refine (CG _ _).out.mono ?_
          rintro e w5 ⟨rfl, hb5⟩
          have hc5 : Below W3.heap.size W3 w5 := hc2.trans (hb5.mono hc2.size)
          obtain ⟨_, k0, k1, f0, f1, hs5, hbb⟩ := AFT.out _ hc5
          unfold decV
          go_wp2_with fail
          exact end_dec rfl w5 (w.heap.size + 1 + 1) _ _ k0 k1 rfl rfl ⟨rfl, (hbb.setCell (by show w.heap.size ≤ w.heap.size + 1 + 1; omega) _).setCell (by show w.heap.size ≤ w.heap.size + 1 + 1; omega) _⟩
      · have hzb : (v2 == 0) = false := by rw [beq_eq_false_iff_ne]; exact hz
        have sb1 := sgn_bounds (toD t1 v1)
        have sb2 := sgn_bounds (toD t2 v2)
        have hsb : sgn (toD t2 v2) = v2.sign := by rw [e2]; rfl
        have hinf : t1 ≠ 0 → X = pastD (sgn (toD t1 v1) * sgn (toD t2 v2)) := fun h => by rw [← hXX, hsb, e2]; exact divD_inf _ v2 (inf_of hna h) hz
        have hnum : t1 = 0 → (-9223372036854775807 ≤ v1 ∧ v1 ≤ 9223372036854775807) ∧ sizedD (v1.natAbs * 1000000 / v2.natAbs) (decide (sgn (toD t1 v1) * sgn (toD t2 v2) < 0)) = X := fun h => by
          have e1 := num_of hna h
          refine ⟨num_in e1 h1, ?_⟩
          rw [← hXX, hsb, e1, e2]
          show sizedD _ (decide (v1.sign * v2.sign < 0)) = (if v2 = 0 then _ else _)
          rw [if_neg hz]
          exact div_side v1 v2 hz
        generalize sgn (toD t1 v1) = sa at *
        generalize sgn (toD t2 v2) = sb at *
        obtain ⟨P, hP⟩ : ∃ P, P = sa * sb := ⟨_, rfl⟩
        obtain ⟨wP, hPb⟩ := wrap_signs sa sb P sb1 sb2 hP
        rw [← hP] at hinf hnum
        have CA := fun h => fun W => Lib.hid (refSize_any t1 v1 W h)
        have CB := fun W => Lib.hid (refSize_any t2 v2 W hv2)
        have HINF := Lib.hid hinf
        have HNUM := Lib.hid hnum
        have hlb := len_20 v2.natAbs (by omega)
        have hb0 : 0 < v2.natAbs := by omega
        unfold aggV at C1 C2 C3 CA CB ⊢
        generalize hm2 : v2.natAbs = m2 at *
        clear CN hn hn2 hna hnb hinf hnum hsb hP sb1 sb2 h1 h2 hXX e2 hv2 hz hm2
        by_cases ht1 : t1 = 0
        · obtain ⟨hv1, hX⟩ := HNUM.out ht1
          have hla := len_20 v1.natAbs (by omega)
          have hlp := len_prod v1.natAbs 1000000 20 7 (Nat.lt_of_lt_of_le (dg_len_lt _) (Nat.pow_le_pow_right (by omega) hla)) (by decide)
          have hlq : (dg (v1.natAbs * 1000000 / m2)).length ≤ 1000 := by
            refine Nat.le_trans (dg_len_le _ 27 ?_) (by omega)
            exact Nat.lt_of_le_of_lt (Nat.div_le_self _ _) (Nat.lt_of_lt_of_le (dg_len_lt _) (Nat.pow_le_pow_right (by omega) hlp))
          have CAH := CA hv1
          have CM : ∀ W va, Holds W va (dg (v1.natAbs * 1000000 / m2)) → Hid (Calls Try.prog 42 #[.bool (decide (P < 0)), va] W fun e w' => e = .returned (.agg #[.int .i64 (outT X), .int .i64 (outV X)]) ∧ Below W.heap.size W w') := fun W va h => by
            have := made_any (decide (P < 0)) va _ W h hlq
            rw [hX] at this
            exact Lib.hid this
          have CMH := Lib.hid CM
          generalize v1.natAbs = m1 at *
          subst ht1 ht2
          clear HINF HNUM hX hlq hv1 CM CG CA
          go_enter Try.func23, Try.ntmps23
          go_wp2_with fail
          rw [← HW3.out]
          refine (C1 _).out.mono ?_
          rintro e w1 ⟨rfl, h1⟩
          obtain ⟨⟨a0, a1, b0, b1⟩, _, _, _, _, hs1, _⟩ := AFT.out _ h1
          have A0 : ∀ q : KeptT w1, q.at.cell? ⟨w.heap.size, 0, none⟩ = some (.int .i64 0) := fun q => q.cell a0 (by omega)
          have A1 : ∀ q : KeptT w1, q.at.cell? ⟨w.heap.size, 1, none⟩ = some (.int .i64 v1) := fun q => q.cell a1 (by omega)
          have B0 : ∀ q : KeptT w1, q.at.cell? ⟨w.heap.size + 1, 0, none⟩ = some (.int .i64 0) := fun q => q.cell b0 (by omega)
          have B1 : ∀ q : KeptT w1, q.at.cell? ⟨w.heap.size + 1, 1, none⟩ = some (.int .i64 v2) := fun q => q.cell b1 (by omega)
          haveI : Nonempty (KeptT w1) := ⟨⟨w1, Below.refl _ _⟩⟩
          go_wp2_with fail
          refine wp_region_kept (KeptT w1) KeptT.at (by kernel_rfl) (by kernel_rfl) ⟨⟨w1.drew, (Below.refl _ _).drew⟩, rfl⟩ ?_
          repeat (go_big_quiet_step (first
            | (go_at_call 41; rename_i q; with_reducible exact (C2 q.at).out.mono (fun e w' h => ⟨h.1, q.on h.2⟩))
            | (go_at_call 41; rename_i q; with_reducible exact (C3 q.at).out.mono (fun e w' h => ⟨h.1, q.on h.2⟩))))
          refine wpQuiet_nil ?_
          rintro w' ⟨q, rfl⟩
          have okq := q.ok
          generalize q.at = W4 at *
          have hc4 : Below W3.heap.size W3 W4 := h1.trans (okq.mono h1.size)
          obtain ⟨⟨a0, a1, b0, b1⟩, k0, k1, f0, f1, hs4, hbb⟩ := AFT.out _ hc4
          clear A0 A1 B0 B1 C2 C3 okq
          go_upto_region 10 with fail
          go_cut [6, 7] (fun s6 s7 wx => Hid (Holds wx s6 (dg (m1 * 1000000 / m2))) ∧ Hid (Below W3.heap.size W3 wx))
          case first =>
            go_region_held3 (fun w' => w'.cell? ⟨w.heap.size, 0, none⟩ = some (.int .i64 0) ∧ w'.cell? ⟨w.heap.size, 1, none⟩ = some (.int .i64 v1) ∧ w'.cell? ⟨w.heap.size + 1, 0, none⟩ = some (.int .i64 0) ∧ w'.cell? ⟨w.heap.size + 1, 1, none⟩ = some (.int .i64 v2))
              (first | exact ⟨a0, a1, b0, b1⟩ | exact (AFT.out _ hc9).1 | exact (AFT.out _ hc8).1 | exact (AFT.out _ hc7).1 | exact (AFT.out _ hc6).1 | exact (AFT.out _ hc5).1)
              (first
                | (go_at_call_of 40 (Value.agg #[Value.int IntKind.i64 0, Value.int IntKind.i64 v1]); refine (CAH _).out.mono ?_; rintro e w5 ⟨va, rfl, hva, _, hb5⟩; have hc5 : Below W3.heap.size W3 w5 := kept_step hc4 hb5 ⟨rfl, rfl, rfl, rfl⟩)
                | (go_at_call 52; refine (unit_any _).mono ?_; rintro e w6 ⟨vu, rfl, hvu, _, hb6⟩; have hc6 : Below W3.heap.size W3 w6 := kept_step hc5 hb6 ⟨rfl, rfl, rfl, rfl⟩; have hva2 := hva.below hb6)
                | (go_at_call 51; refine (product_any _ _ _ _ _ (by exact hva2) (by exact hvu) (by omega) (Nat.le_trans len_unit (by omega))).mono ?_; rintro e w7 ⟨vp, rfl, hvp, _, hb7⟩; have hc7 : Below W3.heap.size W3 w7 := kept_step hc6 hb7 ⟨rfl, rfl, rfl, rfl⟩)
                | (go_at_call_of 40 (Value.agg #[Value.int IntKind.i64 0, Value.int IntKind.i64 v2]); refine (CB _).out.mono ?_; rintro e w8 ⟨vb, rfl, hvb, _, hb8⟩; have hc8 : Below W3.heap.size W3 w8 := kept_step hc7 hb8 ⟨rfl, rfl, rfl, rfl⟩; have hvp2 := hvp.below hb8)
                | (go_at_call 50; refine (quotient_any _ _ _ _ _ (by exact hvp2) (by exact hvb) (by omega) (by omega) (by omega)).mono ?_; rintro e w9 ⟨vq, vr, rfl, hvq, _, hb9⟩; have hc9 : Below W3.heap.size W3 w9 := kept_step hc8 hb9 ⟨rfl, rfl, rfl, rfl⟩))
            go_wp2_with fail
            go_meet
            exact ⟨Lib.hid hvq, Lib.hid hc9⟩
          case rest =>
            obtain ⟨HQ, HBC⟩ := hcut
            obtain ⟨_, k0, k1, f0, f1, hs9, hbb⟩ := AFT.out _ HBC.out
            go_wp2_with fail
            refine (CMH.out _ _ HQ.out).out.mono ?_
            rintro e w10 ⟨rfl, hb10⟩
            have hc10 : Below W3.heap.size W3 w10 := HBC.out.trans (hb10.mono HBC.out.size)
            obtain ⟨_, k0, k1, f0, f1, hs10, hbb⟩ := AFT.out _ hc10
            go_wp2_with fail
            exact end_dec rfl w10 (w.heap.size + 1 + 1) _ _ k0 k1 rfl rfl ⟨rfl, (hbb.setCell (by show w.heap.size ≤ w.heap.size + 1 + 1; omega) _).setCell (by show w.heap.size ≤ w.heap.size + 1 + 1; omega) _⟩
        · have hX := HINF.out ht1
          have d1 : (t1 != 0) = true := by simp [ht1]
          subst hX ht2
          clear HINF HNUM ht1 CA CB hlb hb0
          go_enter Try.func23, Try.ntmps23
          go_wp2_with fail
          rw [← HW3.out]
          refine (C1 _).out.mono ?_
          rintro e w1 ⟨rfl, h1⟩
          obtain ⟨⟨a0, a1, b0, b1⟩, _, _, _, _, hs1, _⟩ := AFT.out _ h1
          have A0 : ∀ q : KeptT w1, q.at.cell? ⟨w.heap.size, 0, none⟩ = some (.int .i64 t1) := fun q => q.cell a0 (by omega)
          have A1 : ∀ q : KeptT w1, q.at.cell? ⟨w.heap.size, 1, none⟩ = some (.int .i64 v1) := fun q => q.cell a1 (by omega)
          have B0 : ∀ q : KeptT w1, q.at.cell? ⟨w.heap.size + 1, 0, none⟩ = some (.int .i64 0) := fun q => q.cell b0 (by omega)
          have B1 : ∀ q : KeptT w1, q.at.cell? ⟨w.heap.size + 1, 1, none⟩ = some (.int .i64 v2) := fun q => q.cell b1 (by omega)
          haveI : Nonempty (KeptT w1) := ⟨⟨w1, Below.refl _ _⟩⟩
          go_wp2_with fail
          refine wp_region_kept (KeptT w1) KeptT.at (by kernel_rfl) (by kernel_rfl) ⟨⟨w1.drew, (Below.refl _ _).drew⟩, rfl⟩ ?_
          repeat (go_big_quiet_step (first
            | (go_at_call 41; rename_i q; with_reducible exact (C2 q.at).out.mono (fun e w' h => ⟨h.1, q.on h.2⟩))
            | (go_at_call 41; rename_i q; with_reducible exact (C3 q.at).out.mono (fun e w' h => ⟨h.1, q.on h.2⟩))))
          refine wpQuiet_nil ?_
          rintro w' ⟨q, rfl⟩
          have okq := q.ok
          generalize q.at = W4 at *
          have hc4 : Below W3.heap.size W3 W4 := h1.trans (okq.mono h1.size)
          obtain ⟨⟨a0, a1, b0, b1⟩, k0, k1, f0, f1, hs4, hbb⟩ := AFT.out _ hc4
          clear A0 A1 B0 B1 C2 C3 okq
          go_wp2_with fail
          refine (CG _ _).out.mono ?_
          rintro e w5 ⟨rfl, hb5⟩
          have hc5 : Below W3.heap.size W3 w5 := hc4.trans (hb5.mono hc4.size)
          obtain ⟨_, k0, k1, f0, f1, hs5, hbb⟩ := AFT.out _ hc5
          unfold decV
          go_wp2_with fail
          exact end_dec rfl w5 (w.heap.size + 1 + 1) _ _ k0 k1 rfl rfl ⟨rfl, (hbb.setCell (by show w.heap.size ≤ w.heap.size + 1 + 1; omega) _).setCell (by show w.heap.size ≤ w.heap.size + 1 + 1; omega) _⟩
    · have d2 : (t2 != 0) = true := by simp [ht2]
      have hX : X = if t1 = 0 then .num 0 else .nan := by
        rw [← hXX]
        by_cases h : t1 = 0
        · rw [if_pos h]; exact divD_by _ _ _ _ hn2 h ht2
        · rw [if_neg h]; exact divD_two _ _ _ _ hn2 h ht2
      unfold aggV at C1 ⊢
      clear CN hn hn2 hna hnb C2 C3 CG hXX h1 h2 ht2
      by_cases ht1 : t1 = 0
      · rw [if_pos ht1] at hX
        subst hX ht1
        go_enter Try.func23, Try.ntmps23
        go_wp2_with fail
        rw [← HW3.out]
        refine (C1 _).out.mono ?_
        rintro e w1 ⟨rfl, h1⟩
        obtain ⟨⟨a0, a1, b0, b1⟩, k0, k1, f0, f1, hs1, hbb⟩ := AFT.out _ h1
        go_wp2_with fail
        exact end_dec rfl w1 (w.heap.size + 1 + 1) _ _ k0 k1 rfl rfl ⟨rfl, (hbb.setCell (by show w.heap.size ≤ w.heap.size + 1 + 1; omega) _).setCell (by show w.heap.size ≤ w.heap.size + 1 + 1; omega) _⟩
      · rw [if_neg ht1] at hX
        have d1 : (t1 != 0) = true := by simp [ht1]
        subst hX
        clear ht1
        go_enter Try.func23, Try.ntmps23
        go_wp2_with fail
        rw [← HW3.out]
        refine (C1 _).out.mono ?_
        rintro e w1 ⟨rfl, h1⟩
        obtain ⟨⟨a0, a1, b0, b1⟩, k0, k1, f0, f1, hs1, hbb⟩ := AFT.out _ h1
        go_wp2_with fail
        exact end_dec rfl w1 (w.heap.size + 1 + 1) _ _ k0 k1 rfl rfl ⟨rfl, (hbb.setCell (by show w.heap.size ≤ w.heap.size + 1 + 1; omega) _).setCell (by show w.heap.size ≤ w.heap.size + 1 + 1; omega) _⟩
end Go.Proofs.Ytncmmdhlponpoaa.Char
