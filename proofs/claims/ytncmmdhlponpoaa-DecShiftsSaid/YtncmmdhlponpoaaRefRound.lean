/- The walk of the document's own Round for numbers in millionths. -/
import Derived.Test.YtncmmdhlponpoaaRefFloor
namespace Go.Proofs.Ytncmmdhlponpoaa.Char
open Go.RowKit

def upR (v : Int) (m : Nat) : Nat := if (¬ v < 0 ∧ ¬ m % 1000000 < 500000) ∨ (v < 0 ∧ 500000 < m % 1000000) then m / 1000000 + 1 else m / 1000000
theorem round_side (v : Int) (n : Nat) (hn : n = upR v v.natAbs) : sizedD (n * 1000000) (decide (v < 0)) = fitD ((v + 500000) / 1000000 * 1000000) := by
  unfold upR at hn
  unfold sizedD
  congr 1
  by_cases h : v < 0
  · rw [decide_eq_true h, if_pos rfl]
    by_cases h2 : 500000 < v.natAbs % 1000000
    · rw [if_pos (.inr ⟨h, h2⟩)] at hn; omega
    · rw [if_neg (fun h3 => by rcases h3 with h3 | h3; exact h3.1 h; exact h2 h3.2)] at hn; omega
  · rw [decide_eq_false h, if_neg (fun h3 => by cases h3)]
    by_cases h2 : v.natAbs % 1000000 < 500000
    · rw [if_neg (fun h3 => by rcases h3 with h3 | h3; exact h3.2 h2; exact h h3.1)] at hn; omega
    · rw [if_pos (.inl ⟨h, h2⟩)] at hn; omega
theorem roundD_nan {x : Nm} (h : nanB x = true) : roundD x = .nan := by cases x <;> first | rfl | cases h
theorem roundD_inf {x : Nm} (h : x = .over ∨ x = .under) : roundD x = x := by rcases h with rfl | rfl <;> rfl

set_option maxRecDepth 100000 in
set_option maxHeartbeats 8000000 in
theorem refRound_any (t v : Int) (w : World) (h : -9223372036854775808 ≤ v ∧ v ≤ 9223372036854775807) :
    Calls Try.prog 34 #[aggV t v] w fun e w' => e = .returned (decV (roundD (toD t v))) ∧ Below w.heap.size w w' := by
  have CN := fun W => none_any t v t v W
  obtain ⟨W3, hW3⟩ : ∃ W3, W3 = (w.alloc (.cells #[Value.int .i64 t, .int .i64 v] 23)).alloc (.cells #[Value.int .i64 0, .int .i64 0] 23) := ⟨_, rfl⟩
  have aft : ∀ w1, Below W3.heap.size W3 w1 → Two w t v w1 := fun w1 h => by rw [hW3] at h; exact kept_two w _ _ _ _ _ _ w1 h
  have AFT := Lib.hid aft
  have HW3 := Lib.hid hW3
  clear hW3 aft
  generalize hXX : roundD (toD t v) = X
  by_cases hn : nanB (toD t v) = true
  · rw [roundD_nan hn] at hXX
    rw [hn] at CN
    have C1 := fun W => Lib.hid (CN W)
    unfold aggV at C1 ⊢
    subst hXX
    clear CN hn h
    go_enter Try.func34, Try.ntmps34
    go_wp2_with fail
    rw [← HW3.out]
    refine (C1 _).out.mono ?_
    rintro e w1 ⟨rfl, h1⟩
    obtain ⟨a0, a1, k0, k1, f0, f1, hs1, hbb⟩ := AFT.out _ h1
    have hn : (true || true) = true := rfl
    go_wp2_with fail
    exact end_dec rfl w1 (w.heap.size + 1) _ _ k0 k1 rfl rfl ⟨rfl, (hbb.setCell (by show w.heap.size ≤ w.heap.size + 1; omega) _).setCell (by show w.heap.size ≤ w.heap.size + 1; omega) _⟩
  · have hna : nanB (toD t v) = false := by simpa using hn
    rw [hna] at CN
    have C1 : ∀ W, Hid (Calls Try.prog 39 #[aggV t v, aggV t v] W fun e w' => e = .returned (.bool false) ∧ Below W.heap.size W w') := fun W => Lib.hid (CN W)
    clear CN hn
    by_cases ht : t = 0
    · have e1 := num_of hna ht
      have hv := num_in e1 h
      rw [e1] at hXX
      have hX : fitD ((v + 500000) / 1000000 * 1000000) = X := hXX
      have hfs := round_side v
      rw [hX] at hfs
      have CA := fun W => Lib.hid (refSize_any t v W hv)
      have hl := len_20 v.natAbs (by omega)
      have hq := len_q v.natAbs (by omega)
      have hq1 := len_q1 v.natAbs (by omega)
      have hlq : ∀ n, (dg n).length ≤ 13 → (dg (n * 1000000)).length ≤ 1000 := fun n hn =>
        Nat.le_trans (len_prod n 1000000 13 7 (Nat.lt_of_lt_of_le (dg_len_lt _) (Nat.pow_le_pow_right (by omega) hn)) (by decide)) (by omega)
      have CM : ∀ B, decide (v < 0) = B → ∀ n, (n = upR v v.natAbs) → (dg n).length ≤ 13 → ∀ W va, Holds W va (dg (n * 1000000)) →
          Hid (Calls Try.prog 42 #[.bool B, va] W fun e w' => e = .returned (.agg #[.int .i64 (outT X), .int .i64 (outV X)]) ∧ Below W.heap.size W w') := fun B hB n hn hl W va hv => by
        subst hB
        have := made_any (decide (v < 0)) va _ W hv (hlq n hl)
        rw [hfs n hn] at this
        exact Lib.hid this
      have CMH := Lib.hid CM
      unfold aggV at C1 CA ⊢
      generalize v.natAbs = m at *
      have hlr := len_20 (m % 1000000) (by omega)
      subst ht
      clear hna e1 hv h hXX hX hfs hlq CM
      go_enter Try.func34, Try.ntmps34
      go_wp2_with fail
      rw [← HW3.out]
      refine (C1 _).out.mono ?_
      rintro e w1 ⟨rfl, h1⟩
      obtain ⟨a0, a1, k0, k1, f0, f1, hs1, hbb⟩ := AFT.out _ h1
      go_wp2_with fail
      refine (CA _).out.mono ?_
      rintro e w2 ⟨va, rfl, hva, _, h2⟩
      have hc2 : Below W3.heap.size W3 w2 := h1.trans (h2.mono h1.size)
      have HVA := Lib.hid hva
      clear hva
      go_wp2_with fail
      refine (unit_any _).mono ?_
      rintro e w3 ⟨vu, rfl, hvu, _, h3⟩
      have hc3 : Below W3.heap.size W3 w3 := hc2.trans (h3.mono hc2.size)
      have CQ := Lib.hid (quotient_any va vu m 1000000 w3 (HVA.out.below h3) hvu (by omega) (Nat.le_trans len_unit (by omega)) (by omega))
      clear hvu
      go_wp2_with fail
      refine CQ.out.mono ?_
      rintro e w4 ⟨vq, vr, rfl, hvq, hvr, h4⟩
      have hc4 : Below W3.heap.size W3 w4 := hc3.trans (h4.mono hc3.size)
      have HVR := Lib.hid hvr
      obtain ⟨a0, a1, k0, k1, f0, f1, hs4, hbb⟩ := AFT.out _ hc4
      have HVQ := Lib.hid hvq
      clear hvq hvr HVA CQ
      go_wp2_with fail
      refine (digits_any 500000 _ (by omega)).mono ?_
      rintro e w5 ⟨vh, rfl, hvh, _, h5⟩
      have hc5 : Below W3.heap.size W3 w5 := hc4.trans (h5.mono hc4.size)
      obtain ⟨a0, a1, k0, k1, f0, f1, hs5, hbb⟩ := AFT.out _ hc5
      have hlh : (dg 500000).length ≤ 1000 := Nat.le_trans (len_20 _ (by omega)) (by omega)
      have CL1 := Lib.hid (least_any vr vh (m % 1000000) 500000 w5 (HVR.out.below h5) hvh (by omega) hlh)
      have CL2 := Lib.hid (least_any vh vr 500000 (m % 1000000) w5 hvh (HVR.out.below h5) hlh (by omega))
      have HVQ5 := Lib.hid (HVQ.out.below h5)
      clear hvh HVR HVQ hlh
      by_cases hvn : v < 0
      · have d1 : decide (v < 0) = true := decide_eq_true hvn
        clear CL1
        by_cases hr : 500000 < m % 1000000
        · rw [decide_eq_true hr] at CL2
          have hn : m / 1000000 + 1 = upR v m := by unfold upR; rw [if_pos (.inr ⟨hvn, hr⟩)]
          have HN := Lib.hid hn
          clear hn hr
          go_wp2_with fail
          refine CL2.out.mono ?_
          rintro e w6 ⟨rfl, h6⟩
          have hc6 : Below W3.heap.size W3 w6 := hc5.trans (h6.mono hc5.size)
          obtain ⟨a0, a1, k0, k1, f0, f1, hs6, hbb⟩ := AFT.out _ hc6
          have HVQ6 := Lib.hid (HVQ5.out.below h6)
          go_wp2_with fail
          refine (plus_any _ _ (m / 1000000) 1 _ (HVQ6.out.below ((Below.refl _ _).alloc (Nat.le_refl _) _)) (holds_one _) (by omega) (by decide)).mono ?_
          rintro e w10 ⟨v5, rfl, hv5, _, h10⟩
          have hc10 : Below W3.heap.size W3 w10 := hc6.trans ((((Below.refl _ _).alloc (Nat.le_refl _) _).trans (h10.mono (by simp))).mono hc6.size)
          obtain ⟨a0, a1, k0, k1, f0, f1, hs10, hbb⟩ := AFT.out _ hc10
          have HV5 := Lib.hid hv5
          clear hv5 h10
          go_wp2_with fail
          go_region_held3 (fun w' => w'.cell? ⟨w.heap.size, 0, none⟩ = some (.int .i64 0) ∧ w'.cell? ⟨w.heap.size, 1, none⟩ = some (.int .i64 v))
            (first | exact ⟨a0, a1⟩ | exact ⟨(AFT.out _ hc9).1, (AFT.out _ hc9).2.1⟩ | exact ⟨(AFT.out _ hc8).1, (AFT.out _ hc8).2.1⟩ | exact ⟨(AFT.out _ hc7).1, (AFT.out _ hc7).2.1⟩ | (refine ⟨?_, ?_⟩ <;> go_simp))
            (first
              | (go_at_call 52; refine (unit_any _).mono ?_; rintro e w7 ⟨vv, rfl, hvv, _, hb7⟩; have hc7 : Below W3.heap.size W3 w7 := kept_step hc10 hb7 ⟨rfl, rfl, rfl, rfl⟩; have hq7 := HV5.out.step hb7 rfl)
              | (go_at_call 51; refine (product_any _ _ _ _ _ (by exact hq7) (by exact hvv) (by omega) (Nat.le_trans len_unit (by omega))).mono ?_; rintro e w8 ⟨vp, rfl, hvp, _, hb8⟩; have hc8 : Below W3.heap.size W3 w8 := kept_step hc7 hb8 ⟨rfl, rfl, rfl, rfl⟩)
              | (go_at_call 42; refine (CMH.out _ (decide_eq_true hvn) _ HN.out (by omega) _ _ (by exact hvp)).out.mono ?_; rintro e w9 ⟨rfl, hb9⟩; have hc9 : Below W3.heap.size W3 w9 := kept_step hc8 hb9 ⟨rfl, rfl, rfl, rfl⟩; obtain ⟨p0, p1, k0, k1, f0, f1, hs9, hbb⟩ := AFT.out _ hc9))
          go_wp2_with fail
          exact end_dec rfl w9 (w.heap.size + 1) _ _ k0 k1 rfl rfl ⟨rfl, (hbb.setCell (by show w.heap.size ≤ w.heap.size + 1; omega) _).setCell (by show w.heap.size ≤ w.heap.size + 1; omega) _⟩
        · rw [decide_eq_false hr] at CL2
          have hn : m / 1000000 = upR v m := by unfold upR; rw [if_neg (fun h3 => by rcases h3 with h3 | h3; exact h3.1 hvn; exact hr h3.2)]
          have HN := Lib.hid hn
          clear hn hr
          go_wp2_with fail
          refine CL2.out.mono ?_
          rintro e w6 ⟨rfl, h6⟩
          have hc6 : Below W3.heap.size W3 w6 := hc5.trans (h6.mono hc5.size)
          obtain ⟨a0, a1, k0, k1, f0, f1, hs6, hbb⟩ := AFT.out _ hc6
          have HVQ6 := Lib.hid (HVQ5.out.below h6)
          go_wp2_with fail
          go_region_held3 (fun w' => w'.cell? ⟨w.heap.size, 0, none⟩ = some (.int .i64 0) ∧ w'.cell? ⟨w.heap.size, 1, none⟩ = some (.int .i64 v))
            (first | exact ⟨a0, a1⟩ | exact ⟨(AFT.out _ hc9).1, (AFT.out _ hc9).2.1⟩ | exact ⟨(AFT.out _ hc8).1, (AFT.out _ hc8).2.1⟩ | exact ⟨(AFT.out _ hc7).1, (AFT.out _ hc7).2.1⟩ | (refine ⟨?_, ?_⟩ <;> go_simp))
            (first
              | (go_at_call 52; refine (unit_any _).mono ?_; rintro e w7 ⟨vv, rfl, hvv, _, hb7⟩; have hc7 : Below W3.heap.size W3 w7 := kept_step hc6 hb7 ⟨rfl, rfl, rfl, rfl⟩; have hq7 := HVQ6.out.step hb7 rfl)
              | (go_at_call 51; refine (product_any _ _ _ _ _ (by exact hq7) (by exact hvv) (by omega) (Nat.le_trans len_unit (by omega))).mono ?_; rintro e w8 ⟨vp, rfl, hvp, _, hb8⟩; have hc8 : Below W3.heap.size W3 w8 := kept_step hc7 hb8 ⟨rfl, rfl, rfl, rfl⟩)
              | (go_at_call 42; refine (CMH.out _ (decide_eq_true hvn) _ HN.out (by omega) _ _ (by exact hvp)).out.mono ?_; rintro e w9 ⟨rfl, hb9⟩; have hc9 : Below W3.heap.size W3 w9 := kept_step hc8 hb9 ⟨rfl, rfl, rfl, rfl⟩; obtain ⟨p0, p1, k0, k1, f0, f1, hs9, hbb⟩ := AFT.out _ hc9))
          go_wp2_with fail
          exact end_dec rfl w9 (w.heap.size + 1) _ _ k0 k1 rfl rfl ⟨rfl, (hbb.setCell (by show w.heap.size ≤ w.heap.size + 1; omega) _).setCell (by show w.heap.size ≤ w.heap.size + 1; omega) _⟩
      · have d1 : decide (v < 0) = false := decide_eq_false hvn
        clear CL2
        by_cases hr : m % 1000000 < 500000
        · rw [decide_eq_true hr] at CL1
          have hn : m / 1000000 = upR v m := by unfold upR; rw [if_neg (fun h3 => by rcases h3 with h3 | h3; exact h3.2 hr; exact hvn h3.1)]
          have HN := Lib.hid hn
          clear hn hr
          go_wp2_with fail
          refine CL1.out.mono ?_
          rintro e w6 ⟨rfl, h6⟩
          have hc6 : Below W3.heap.size W3 w6 := hc5.trans (h6.mono hc5.size)
          obtain ⟨a0, a1, k0, k1, f0, f1, hs6, hbb⟩ := AFT.out _ hc6
          have HVQ6 := Lib.hid (HVQ5.out.below h6)
          go_wp2_with fail
          go_region_held3 (fun w' => w'.cell? ⟨w.heap.size, 0, none⟩ = some (.int .i64 0) ∧ w'.cell? ⟨w.heap.size, 1, none⟩ = some (.int .i64 v))
            (first | exact ⟨a0, a1⟩ | exact ⟨(AFT.out _ hc9).1, (AFT.out _ hc9).2.1⟩ | exact ⟨(AFT.out _ hc8).1, (AFT.out _ hc8).2.1⟩ | exact ⟨(AFT.out _ hc7).1, (AFT.out _ hc7).2.1⟩ | (refine ⟨?_, ?_⟩ <;> go_simp))
            (first
              | (go_at_call 52; refine (unit_any _).mono ?_; rintro e w7 ⟨vv, rfl, hvv, _, hb7⟩; have hc7 : Below W3.heap.size W3 w7 := kept_step hc6 hb7 ⟨rfl, rfl, rfl, rfl⟩; have hq7 := HVQ6.out.step hb7 rfl)
              | (go_at_call 51; refine (product_any _ _ _ _ _ (by exact hq7) (by exact hvv) (by omega) (Nat.le_trans len_unit (by omega))).mono ?_; rintro e w8 ⟨vp, rfl, hvp, _, hb8⟩; have hc8 : Below W3.heap.size W3 w8 := kept_step hc7 hb8 ⟨rfl, rfl, rfl, rfl⟩)
              | (go_at_call 42; refine (CMH.out _ (decide_eq_false (by omega)) _ HN.out (by omega) _ _ (by exact hvp)).out.mono ?_; rintro e w9 ⟨rfl, hb9⟩; have hc9 : Below W3.heap.size W3 w9 := kept_step hc8 hb9 ⟨rfl, rfl, rfl, rfl⟩; obtain ⟨p0, p1, k0, k1, f0, f1, hs9, hbb⟩ := AFT.out _ hc9))
          go_wp2_with fail
          exact end_dec rfl w9 (w.heap.size + 1) _ _ k0 k1 rfl rfl ⟨rfl, (hbb.setCell (by show w.heap.size ≤ w.heap.size + 1; omega) _).setCell (by show w.heap.size ≤ w.heap.size + 1; omega) _⟩
        · rw [decide_eq_false hr] at CL1
          have hn : m / 1000000 + 1 = upR v m := by unfold upR; rw [if_pos (.inl ⟨hvn, hr⟩)]
          have HN := Lib.hid hn
          clear hn hr
          go_wp2_with fail
          refine CL1.out.mono ?_
          rintro e w6 ⟨rfl, h6⟩
          have hc6 : Below W3.heap.size W3 w6 := hc5.trans (h6.mono hc5.size)
          obtain ⟨a0, a1, k0, k1, f0, f1, hs6, hbb⟩ := AFT.out _ hc6
          have HVQ6 := Lib.hid (HVQ5.out.below h6)
          go_wp2_with fail
          refine (plus_any _ _ (m / 1000000) 1 _ (HVQ6.out.below ((Below.refl _ _).alloc (Nat.le_refl _) _)) (holds_one _) (by omega) (by decide)).mono ?_
          rintro e w10 ⟨v5, rfl, hv5, _, h10⟩
          have hc10 : Below W3.heap.size W3 w10 := hc6.trans ((((Below.refl _ _).alloc (Nat.le_refl _) _).trans (h10.mono (by simp))).mono hc6.size)
          obtain ⟨a0, a1, k0, k1, f0, f1, hs10, hbb⟩ := AFT.out _ hc10
          have HV5 := Lib.hid hv5
          clear hv5 h10
          go_wp2_with fail
          go_region_held3 (fun w' => w'.cell? ⟨w.heap.size, 0, none⟩ = some (.int .i64 0) ∧ w'.cell? ⟨w.heap.size, 1, none⟩ = some (.int .i64 v))
            (first | exact ⟨a0, a1⟩ | exact ⟨(AFT.out _ hc9).1, (AFT.out _ hc9).2.1⟩ | exact ⟨(AFT.out _ hc8).1, (AFT.out _ hc8).2.1⟩ | exact ⟨(AFT.out _ hc7).1, (AFT.out _ hc7).2.1⟩ | (refine ⟨?_, ?_⟩ <;> go_simp))
            (first
              | (go_at_call 52; refine (unit_any _).mono ?_; rintro e w7 ⟨vv, rfl, hvv, _, hb7⟩; have hc7 : Below W3.heap.size W3 w7 := kept_step hc10 hb7 ⟨rfl, rfl, rfl, rfl⟩; have hq7 := HV5.out.step hb7 rfl)
              | (go_at_call 51; refine (product_any _ _ _ _ _ (by exact hq7) (by exact hvv) (by omega) (Nat.le_trans len_unit (by omega))).mono ?_; rintro e w8 ⟨vp, rfl, hvp, _, hb8⟩; have hc8 : Below W3.heap.size W3 w8 := kept_step hc7 hb8 ⟨rfl, rfl, rfl, rfl⟩)
              | (go_at_call 42; refine (CMH.out _ (decide_eq_false (by omega)) _ HN.out (by omega) _ _ (by exact hvp)).out.mono ?_; rintro e w9 ⟨rfl, hb9⟩; have hc9 : Below W3.heap.size W3 w9 := kept_step hc8 hb9 ⟨rfl, rfl, rfl, rfl⟩; obtain ⟨p0, p1, k0, k1, f0, f1, hs9, hbb⟩ := AFT.out _ hc9))
          go_wp2_with fail
          exact end_dec rfl w9 (w.heap.size + 1) _ _ k0 k1 rfl rfl ⟨rfl, (hbb.setCell (by show w.heap.size ≤ w.heap.size + 1; omega) _).setCell (by show w.heap.size ≤ w.heap.size + 1; omega) _⟩
    · have hX : X = toD t v := by rw [← hXX]; exact roundD_inf (inf_of hna ht)
      have d1 : (t != 0) = true := by simp [ht]
      have hv : aggV t v = decV X := by
        rw [hX]
        rcases toD_cases t v with ⟨h1, _⟩ | ⟨h1, h2, e, _⟩ | ⟨h1, h2, e, _⟩ | ⟨_, _, e, _⟩ | ⟨_, _, _, _, e, _⟩
        · exact absurd h1 ht
        · rw [e, h1, h2]; rfl
        · rw [e, h1, h2]; rfl
        · rw [e] at hna; cases hna
        · rw [e] at hna; cases hna
      have HV := Lib.hid hv
      unfold aggV at C1 ⊢
      clear hna h hXX ht hX hv
      go_enter Try.func34, Try.ntmps34
      go_wp2_with fail
      rw [← HW3.out]
      refine (C1 _).out.mono ?_
      rintro e w1 ⟨rfl, h1⟩
      obtain ⟨a0, a1, k0, k1, f0, f1, hs1, hbb⟩ := AFT.out _ h1
      go_wp2_with fail
      exact end_dec rfl w1 (w.heap.size + 1) _ _ k0 k1 rfl rfl ⟨by rw [← HV.out]; rfl, (hbb.setCell (by show w.heap.size ≤ w.heap.size + 1; omega) _).setCell (by show w.heap.size ≤ w.heap.size + 1; omega) _⟩
end Go.Proofs.Ytncmmdhlponpoaa.Char
