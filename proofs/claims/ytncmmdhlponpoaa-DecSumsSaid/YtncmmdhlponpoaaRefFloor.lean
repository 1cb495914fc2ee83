/- The walk of the document's own Floor for numbers in millionths. -/
import Derived.Test.YtncmmdhlponpoaaRefMod
namespace Go.Proofs.Ytncmmdhlponpoaa.Char
open Go.RowKit

theorem floor_side (v : Int) (n : Nat) (hn : n = if v < 0 ∧ 0 < v.natAbs % 1000000 then v.natAbs / 1000000 + 1 else v.natAbs / 1000000) : sizedD (n * 1000000) (decide (v < 0)) = fitD (v / 1000000 * 1000000) := by
  unfold sizedD
  congr 1
  by_cases h : v < 0
  · rw [decide_eq_true h, if_pos rfl]
    by_cases h2 : 0 < v.natAbs % 1000000
    · rw [if_pos ⟨h, h2⟩] at hn; omega
    · rw [if_neg (fun h3 => h2 h3.2)] at hn; omega
  · rw [decide_eq_false h, if_neg (fun h3 => by cases h3)]
    rw [if_neg (fun h3 => h h3.1)] at hn
    omega
theorem floorD_nan {x : Nm} (h : nanB x = true) : floorD x = .nan := by cases x <;> first | rfl | cases h
theorem floorD_inf {x : Nm} (h : x = .over ∨ x = .under) : floorD x = x := by rcases h with rfl | rfl <;> rfl
theorem Holds.step {W Wd w2 : World} {v : Value} {l : List Nat} (h : Holds W v l) (hh : Below Wd.heap.size Wd w2) (e : Wd.heap = W.heap) : Holds w2 v l := by
  have h1 : Holds Wd v l := by
    obtain ⟨a, cap, hv, hn, hnil, hc⟩ := h
    refine ⟨a, cap, hv, hn, hnil, fun j hj => ?_⟩
    obtain ⟨g, h1, h2, h3⟩ := hc j hj
    refine ⟨g, h1, by rw [e]; exact h2, ?_⟩
    unfold World.cell? at h3 ⊢
    rw [e]
    exact h3
  exact h1.below hh
/-- a one alone -/
theorem holds_one (W : World) : Holds (W.alloc (.cells #[Value.int .i64 1] 3)) (.slice (some ⟨W.heap.size, 0, none⟩) 1 1) (dg 1) := by
  refine ⟨_, 1, rfl, Nat.le_refl _, fun h => (by cases h), fun j hj => ⟨W.heap.size, rfl, by simp, ?_⟩⟩
  have hj1 : (dg 1).length = 1 := rfl
  obtain rfl : j = 0 := by omega
  rw [World.cell?_alloc_new]
  rfl
theorem len_q (n : Nat) (h : n ≤ 9223372036854775807) : (dg (n / 1000000)).length ≤ 13 := dg_len_le _ 13 (by omega)
theorem len_q1 (n : Nat) (h : n ≤ 9223372036854775807) : (dg (n / 1000000 + 1)).length ≤ 13 := dg_len_le _ 13 (by omega)

/-- what the parameter's box and the result's cells read in a world -/
def Two (w : World) (t v : Int) (w1 : World) : Prop :=
  w1.cell? ⟨w.heap.size, 0, none⟩ = some (.int .i64 t) ∧ w1.cell? ⟨w.heap.size, 1, none⟩ = some (.int .i64 v) ∧
    w1.cell? ⟨w.heap.size + 1, 0, none⟩ = some (.int .i64 0) ∧ w1.cell? ⟨w.heap.size + 1, 1, none⟩ = some (.int .i64 0) ∧
    w1.frozen? ⟨w.heap.size + 1, 0, none⟩ = false ∧ w1.frozen? ⟨w.heap.size + 1, 1, none⟩ = false ∧ w.heap.size + 1 < w1.heap.size ∧ Below w.heap.size w w1

set_option maxRecDepth 100000 in
set_option maxHeartbeats 8000000 in
theorem refFloor_any (t v : Int) (w : World) (h : -9223372036854775808 ≤ v ∧ v ≤ 9223372036854775807) :
    Calls Try.prog 28 #[aggV t v] w fun e w' => e = .returned (decV (floorD (toD t v))) ∧ Below w.heap.size w w' := by
  have CN := fun W => none_any t v t v W
  obtain ⟨W3, hW3⟩ : ∃ W3, W3 = (w.alloc (.cells #[Value.int .i64 t, .int .i64 v] 23)).alloc (.cells #[Value.int .i64 0, .int .i64 0] 23) := ⟨_, rfl⟩
  have aft : ∀ w1, Below W3.heap.size W3 w1 → Two w t v w1 := fun w1 h => by rw [hW3] at h; exact kept_two w _ _ _ _ _ _ w1 h
  have AFT := Lib.hid aft
  have HW3 := Lib.hid hW3
  clear hW3 aft
  generalize hXX : floorD (toD t v) = X
  by_cases hn : nanB (toD t v) = true
  · rw [floorD_nan hn] at hXX
    rw [hn] at CN
    have C1 := fun W => Lib.hid (CN W)
    unfold aggV at C1 ⊢
    subst hXX
    clear CN hn h
    go_enter Try.func28, Try.ntmps28
    go_wp2_with fail
    rw [← HW3.out]
    refine (C1 _).out.mono ?_
    rintro e w1 ⟨rfl, h1⟩
    obtain ⟨a0, a1, k0, k1, f0, f1, hs1, hbb⟩ := AFT.out _ h1
    have hn : (true || true) = true := rfl
    go_wp2_with fail
    exact end_dec rfl w1 (w.heap.size + 1) _ _ k0 k1 rfl rfl ⟨rfl, (hbb.setCell (by show w.heap.size ≤ w.heap.size + 1; omega) _).setCell (by show w.heap.size ≤ w.heap.size + 1; omega) _⟩
  · have hna : nanB (toD t v) = false := by simpa using hn
    rw [hna] at CN
    have C1 : ∀ W, Hid (Calls Try.prog 39 #[aggV t v, aggV t v] W fun e w' => e = .returned (.bool false) ∧ Below W.heap.size W w') := fun W => Lib.hid (CN W)
    clear CN hn
    by_cases ht : t = 0
    · have e1 := num_of hna ht
      have hv := num_in e1 h
      rw [e1] at hXX
      have hX : fitD (v / 1000000 * 1000000) = X := hXX
      have hfs := floor_side v
      rw [hX] at hfs
      have CA := fun W => Lib.hid (refSize_any t v W hv)
      have hl := len_20 v.natAbs (by omega)
      have hq := len_q v.natAbs (by omega)
      have hq1 := len_q1 v.natAbs (by omega)
      have hlq : ∀ n, (dg n).length ≤ 13 → (dg (n * 1000000)).length ≤ 1000 := fun n hn =>
        Nat.le_trans (len_prod n 1000000 13 7 (Nat.lt_of_lt_of_le (dg_len_lt _) (Nat.pow_le_pow_right (by omega) hn)) (by decide)) (by omega)
      have CM : ∀ B, decide (v < 0) = B → ∀ n, (n = if v < 0 ∧ 0 < v.natAbs % 1000000 then v.natAbs / 1000000 + 1 else v.natAbs / 1000000) → (dg n).length ≤ 13 → ∀ W va, Holds W va (dg (n * 1000000)) →
          Hid (Calls Try.prog 42 #[.bool B, va] W fun e w' => e = .returned (.agg #[.int .i64 (outT X), .int .i64 (outV X)]) ∧ Below W.heap.size W w') := fun B hB n hn hl W va hv => by
        subst hB
        have := made_any (decide (v < 0)) va _ W hv (hlq n hl)
        rw [hfs n hn] at this
        exact Lib.hid this
      have CMH := Lib.hid CM
      unfold aggV at C1 CA ⊢
      generalize v.natAbs = m at *
      have hrz : 0 < m % 1000000 ↔ 0 < (dg (m % 1000000)).length := by
        rw [List.length_pos_iff, Ne, dg_nil]
        omega
      have HRZ := Lib.hid hrz
      subst ht
      clear hna e1 hv h hXX hX hfs hlq CM hrz
      go_enter Try.func28, Try.ntmps28
      go_wp2_with fail
      rw [← HW3.out]
      refine (C1 _).out.mono ?_
      rintro e w1 ⟨rfl, h1⟩
      obtain ⟨a0, a1, k0, k1, f0, f1, hs1, hbb⟩ := AFT.out _ h1
      go_wp2_with fail
      refine (CA _).out.mono ?_
      rintro e w2 ⟨va, rfl, hva, _, h2⟩
      have hc2 : Below W3.heap.size W3 w2 := h1.trans (h2.mono h1.size)
      have HVA := Lib.hid hva
      clear hva
      go_wp2_with fail
      refine (unit_any _).mono ?_
      rintro e w3 ⟨vu, rfl, hvu, _, h3⟩
      have hc3 : Below W3.heap.size W3 w3 := hc2.trans (h3.mono hc2.size)
      have CQ := Lib.hid (quotient_any va vu m 1000000 w3 (HVA.out.below h3) hvu (by omega) (Nat.le_trans len_unit (by omega)) (by omega))
      clear hvu
      go_wp2_with fail
      refine CQ.out.mono ?_
      rintro e w4 ⟨vq, vr, rfl, hvq, hvr, h4⟩
      have hc4 : Below W3.heap.size W3 w4 := hc3.trans (h4.mono hc3.size)
      obtain ⟨ar, cr, rfl, _, _, _⟩ := hvr
      obtain ⟨a0, a1, k0, k1, f0, f1, hs4, hbb⟩ := AFT.out _ hc4
      have HVQ := Lib.hid hvq
      clear hvq HVA CQ
      by_cases hvn : v < 0
      · have d1 : decide (v < 0) = true := decide_eq_true hvn
        by_cases hr : 0 < (dg (m % 1000000)).length
        · have hn : m / 1000000 + 1 = if v < 0 ∧ 0 < m % 1000000 then m / 1000000 + 1 else m / 1000000 := by rw [if_pos ⟨hvn, HRZ.out.2 hr⟩]
          have HN := Lib.hid hn
          clear hn
          go_wp2_with fail
          refine (plus_any _ _ (m / 1000000) 1 _ (HVQ.out.below ((Below.refl _ _).alloc (Nat.le_refl _) _)) (holds_one _) (by omega) (by decide)).mono ?_
          rintro e w5 ⟨v5, rfl, hv5, _, h5⟩
          have hc5 : Below W3.heap.size W3 w5 := hc4.trans ((((Below.refl _ _).alloc (Nat.le_refl _) _).trans (h5.mono (by simp))).mono hc4.size)
          obtain ⟨a0, a1, k0, k1, f0, f1, hs5, hbb⟩ := AFT.out _ hc5
          have HV5 := Lib.hid hv5
          clear hv5 h5
          go_wp2_with fail
          go_region_held3 (fun w' => w'.cell? ⟨w.heap.size, 0, none⟩ = some (.int .i64 0) ∧ w'.cell? ⟨w.heap.size, 1, none⟩ = some (.int .i64 v))
            (first | exact ⟨a0, a1⟩ | exact ⟨(AFT.out _ hc8).1, (AFT.out _ hc8).2.1⟩ | exact ⟨(AFT.out _ hc7).1, (AFT.out _ hc7).2.1⟩ | exact ⟨(AFT.out _ hc6).1, (AFT.out _ hc6).2.1⟩ | (refine ⟨?_, ?_⟩ <;> go_simp))
            (first
              | (go_at_call 52; refine (unit_any _).mono ?_; rintro e w6 ⟨vv, rfl, hvv, _, hb6⟩; have hc6 : Below W3.heap.size W3 w6 := kept_step hc5 hb6 ⟨rfl, rfl, rfl, rfl⟩; have hq6 := HV5.out.step hb6 rfl)
              | (go_at_call 51; refine (product_any _ _ _ _ _ (by exact hq6) (by exact hvv) (by omega) (Nat.le_trans len_unit (by omega))).mono ?_; rintro e w7 ⟨vp, rfl, hvp, _, hb7⟩; have hc7 : Below W3.heap.size W3 w7 := kept_step hc6 hb7 ⟨rfl, rfl, rfl, rfl⟩)
              | (go_at_call 42; refine (CMH.out _ (decide_eq_true hvn) _ HN.out (by omega) _ _ (by exact hvp)).out.mono ?_; rintro e w8 ⟨rfl, hb8⟩; have hc8 : Below W3.heap.size W3 w8 := kept_step hc7 hb8 ⟨rfl, rfl, rfl, rfl⟩; obtain ⟨p0, p1, k0, k1, f0, f1, hs8, hbb⟩ := AFT.out _ hc8))
          go_wp2_with fail
          exact end_dec rfl w8 (w.heap.size + 1) _ _ k0 k1 rfl rfl ⟨rfl, (hbb.setCell (by show w.heap.size ≤ w.heap.size + 1; omega) _).setCell (by show w.heap.size ≤ w.heap.size + 1; omega) _⟩
        · have hn : m / 1000000 = if v < 0 ∧ 0 < m % 1000000 then m / 1000000 + 1 else m / 1000000 := by rw [if_neg (fun h => hr (HRZ.out.1 h.2))]
          have HN := Lib.hid hn
          clear hn
          go_wp2_with fail
          go_region_held3 (fun w' => w'.cell? ⟨w.heap.size, 0, none⟩ = some (.int .i64 0) ∧ w'.cell? ⟨w.heap.size, 1, none⟩ = some (.int .i64 v))
            (first | exact ⟨a0, a1⟩ | exact ⟨(AFT.out _ hc8).1, (AFT.out _ hc8).2.1⟩ | exact ⟨(AFT.out _ hc7).1, (AFT.out _ hc7).2.1⟩ | exact ⟨(AFT.out _ hc6).1, (AFT.out _ hc6).2.1⟩ | (refine ⟨?_, ?_⟩ <;> go_simp))
            (first
              | (go_at_call 52; refine (unit_any _).mono ?_; rintro e w6 ⟨vv, rfl, hvv, _, hb6⟩; have hc6 : Below W3.heap.size W3 w6 := kept_step hc4 hb6 ⟨rfl, rfl, rfl, rfl⟩; have hq6 := HVQ.out.step hb6 rfl)
              | (go_at_call 51; refine (product_any _ _ _ _ _ (by exact hq6) (by exact hvv) (by omega) (Nat.le_trans len_unit (by omega))).mono ?_; rintro e w7 ⟨vp, rfl, hvp, _, hb7⟩; have hc7 : Below W3.heap.size W3 w7 := kept_step hc6 hb7 ⟨rfl, rfl, rfl, rfl⟩)
              | (go_at_call 42; refine (CMH.out _ (decide_eq_true hvn) _ HN.out (by omega) _ _ (by exact hvp)).out.mono ?_; rintro e w8 ⟨rfl, hb8⟩; have hc8 : Below W3.heap.size W3 w8 := kept_step hc7 hb8 ⟨rfl, rfl, rfl, rfl⟩; obtain ⟨p0, p1, k0, k1, f0, f1, hs8, hbb⟩ := AFT.out _ hc8))
          go_wp2_with fail
          exact end_dec rfl w8 (w.heap.size + 1) _ _ k0 k1 rfl rfl ⟨rfl, (hbb.setCell (by show w.heap.size ≤ w.heap.size + 1; omega) _).setCell (by show w.heap.size ≤ w.heap.size + 1; omega) _⟩
      · have d1 : decide (v < 0) = false := decide_eq_false hvn
        have hn : m / 1000000 = if v < 0 ∧ 0 < m % 1000000 then m / 1000000 + 1 else m / 1000000 := by rw [if_neg (fun h => hvn h.1)]
        have HN := Lib.hid hn
        clear hn
        go_wp2_with fail
        go_region_held3 (fun w' => w'.cell? ⟨w.heap.size, 0, none⟩ = some (.int .i64 0) ∧ w'.cell? ⟨w.heap.size, 1, none⟩ = some (.int .i64 v))
          (first | exact ⟨a0, a1⟩ | exact ⟨(AFT.out _ hc8).1, (AFT.out _ hc8).2.1⟩ | exact ⟨(AFT.out _ hc7).1, (AFT.out _ hc7).2.1⟩ | exact ⟨(AFT.out _ hc6).1, (AFT.out _ hc6).2.1⟩ | (refine ⟨?_, ?_⟩ <;> go_simp))
          (first
            | (go_at_call 52; refine (unit_any _).mono ?_; rintro e w6 ⟨vv, rfl, hvv, _, hb6⟩; have hc6 : Below W3.heap.size W3 w6 := kept_step hc4 hb6 ⟨rfl, rfl, rfl, rfl⟩; have hq6 := HVQ.out.step hb6 rfl)
            | (go_at_call 51; refine (product_any _ _ _ _ _ (by exact hq6) (by exact hvv) (by omega) (Nat.le_trans len_unit (by omega))).mono ?_; rintro e w7 ⟨vp, rfl, hvp, _, hb7⟩; have hc7 : Below W3.heap.size W3 w7 := kept_step hc6 hb7 ⟨rfl, rfl, rfl, rfl⟩)
            | (go_at_call 42; refine (CMH.out _ (decide_eq_false (by omega)) _ HN.out (by omega) _ _ (by exact hvp)).out.mono ?_; rintro e w8 ⟨rfl, hb8⟩; have hc8 : Below W3.heap.size W3 w8 := kept_step hc7 hb8 ⟨rfl, rfl, rfl, rfl⟩; obtain ⟨p0, p1, k0, k1, f0, f1, hs8, hbb⟩ := AFT.out _ hc8))
        go_wp2_with fail
        exact end_dec rfl w8 (w.heap.size + 1) _ _ k0 k1 rfl rfl ⟨rfl, (hbb.setCell (by show w.heap.size ≤ w.heap.size + 1; omega) _).setCell (by show w.heap.size ≤ w.heap.size + 1; omega) _⟩
    · have hX : X = toD t v := by rw [← hXX]; exact floorD_inf (inf_of hna ht)
      have d1 : (t != 0) = true := by simp [ht]
      have hv : aggV t v = decV X := by
        rw [hX]
        rcases toD_cases t v with ⟨h1, _⟩ | ⟨h1, h2, e, _⟩ | ⟨h1, h2, e, _⟩ | ⟨_, _, e, _⟩ | ⟨_, _, _, _, e, _⟩
        · exact absurd h1 ht
        · rw [e, h1, h2]; rfl
        · rw [e, h1, h2]; rfl
        · rw [e] at hna; cases hna
        · rw [e] at hna; cases hna
      have HV := Lib.hid hv
      unfold aggV at C1 ⊢
      clear hna h hXX ht hX hv
      go_enter Try.func28, Try.ntmps28
      go_wp2_with fail
      rw [← HW3.out]
      refine (C1 _).out.mono ?_
      rintro e w1 ⟨rfl, h1⟩
      obtain ⟨a0, a1, k0, k1, f0, f1, hs1, hbb⟩ := AFT.out _ h1
      go_wp2_with fail
      exact end_dec rfl w1 (w.heap.size + 1) _ _ k0 k1 rfl rfl ⟨by rw [← HV.out]; rfl, (hbb.setCell (by show w.heap.size ≤ w.heap.size + 1; omega) _).setCell (by show w.heap.size ≤ w.heap.size + 1; omega) _⟩
end Go.Proofs.Ytncmmdhlponpoaa.Char
