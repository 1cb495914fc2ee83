/- The walk of the document's own Mod for numbers in millionths. -/
import Derived.Test.YtncmmdhlponpoaaRefDiv
namespace Go.Proofs.Ytncmmdhlponpoaa.Char
open Go.RowKit

theorem mod_side (a b : Int) (hb : b ≠ 0) (hr : -9223372036854775807 ≤ b ∧ b ≤ 9223372036854775807) : sizedD (a.natAbs % b.natAbs) (decide (a < 0)) = .num (a.tmod b) := by
  have hl : a.natAbs % b.natAbs < b.natAbs := Nat.mod_lt _ (by omega)
  have key : ∀ n : Nat, (n : Int).tmod b = ((n % b.natAbs : Nat) : Int) := fun n => by
    rw [Int.tmod_eq_emod_of_nonneg (by omega)]
    rcases Int.natAbs_eq b with e | e
    · rw [e]; simp
    · rw [e]; simp
  by_cases h : a < 0
  · have ea : a = -(a.natAbs : Int) := by omega
    rw [decide_eq_true h]
    show fitD (-((a.natAbs % b.natAbs : Nat) : Int)) = _
    rw [fitD_in _ ⟨by omega, by omega⟩]
    congr 1
    conv => rhs; rw [ea, Int.neg_tmod, key]
  · have ea : a = (a.natAbs : Int) := by omega
    rw [decide_eq_false h]
    show fitD ((a.natAbs % b.natAbs : Nat) : Int) = _
    rw [fitD_in _ ⟨by omega, by omega⟩]
    congr 1
    conv => rhs; rw [ea, key]
theorem modD_nan : ∀ x y, (nanB x || nanB y) = true → modD x y = .nan := fun x y h => by cases x <;> cases y <;> first | rfl | cases h
theorem modD_inf (x y : Nm) (hx : x = .over ∨ x = .under) : modD x y = .nan := by rcases hx with rfl | rfl <;> cases y <;> rfl
theorem modD_by (a : Int) (y : Nm) (hy : y = .over ∨ y = .under) : modD (.num a) y = .num a := by rcases hy with rfl | rfl <;> rfl

set_option maxRecDepth 100000 in
set_option maxHeartbeats 8000000 in
theorem refMod_any (t1 v1 t2 v2 : Int) (w : World) (h1 : -9223372036854775808 ≤ v1 ∧ v1 ≤ 9223372036854775807) (h2 : -9223372036854775808 ≤ v2 ∧ v2 ≤ 9223372036854775807) :
    Calls Try.prog 25 #[aggV t1 v1, aggV t2 v2] w fun e w' => e = .returned (decV (modD (toD t1 v1) (toD t2 v2))) ∧ Below w.heap.size w w' := by
  have CN := fun W => none_any t1 v1 t2 v2 W
  obtain ⟨W3, hW3⟩ : ∃ W3, W3 = ((w.alloc (.cells #[Value.int .i64 t1, .int .i64 v1] 23)).alloc (.cells #[Value.int .i64 t2, .int .i64 v2] 23)).alloc (.cells #[Value.int .i64 0, .int .i64 0] 23) := ⟨_, rfl⟩
  have aft : ∀ w1, Below W3.heap.size W3 w1 → Three w t1 v1 t2 v2 w1 := fun w1 h => by rw [hW3] at h; exact kept_three w _ _ _ _ _ _ _ w1 h
  have AFT := Lib.hid aft
  have HW3 := Lib.hid hW3
  clear hW3 aft
  generalize hXX : modD (toD t1 v1) (toD t2 v2) = X
  by_cases hn : (nanB (toD t1 v1) || nanB (toD t2 v2)) = true
  · rw [modD_nan _ _ hn] at hXX
    rw [hn] at CN
    have C1 := fun W => Lib.hid (CN W)
    unfold aggV at C1 ⊢
    subst hXX
    clear CN hn h1 h2
    go_enter Try.func25, Try.ntmps25
    go_wp2_with fail
    rw [← HW3.out]
    refine (C1 _).out.mono ?_
    rintro e w1 ⟨rfl, h1⟩
    obtain ⟨⟨a0, a1, b0, b1⟩, k0, k1, f0, f1, hs1, hbb⟩ := AFT.out _ h1
    go_wp2_with fail
    exact end_dec rfl w1 (w.heap.size + 1 + 1) _ _ k0 k1 rfl rfl ⟨rfl, (hbb.setCell (by show w.heap.size ≤ w.heap.size + 1 + 1; omega) _).setCell (by show w.heap.size ≤ w.heap.size + 1 + 1; omega) _⟩
  · have hn2 : (nanB (toD t1 v1) || nanB (toD t2 v2)) = false := by simpa using hn
    have hna := (Bool.or_eq_false_iff.1 hn2).1
    have hnb := (Bool.or_eq_false_iff.1 hn2).2
    rw [hn2] at CN
    have C1 := fun W => Lib.hid (CN W)
    clear CN hn hn2
    by_cases ht1 : t1 = 0
    · have e1 := num_of hna ht1
      have hv1 := num_in e1 h1
      by_cases ht2 : t2 = 0
      · have e2 := num_of hnb ht2
        have hv2 := num_in e2 h2
        by_cases hz : v2 = 0
        · have hX : X = .nan := by rw [← hXX, e1, e2, hz]; rfl
          subst hX ht1 ht2 hz
          unfold aggV at C1 ⊢
          clear hna hnb e1 e2 hv1 hv2 h1 h2 hXX
          go_enter Try.func25, Try.ntmps25
          go_wp2_with fail
          rw [← HW3.out]
          refine (C1 _).out.mono ?_
          rintro e w1 ⟨rfl, h1⟩
          obtain ⟨⟨a0, a1, b0, b1⟩, k0, k1, f0, f1, hs1, hbb⟩ := AFT.out _ h1
          go_wp2_with fail
          exact end_dec rfl w1 (w.heap.size + 1 + 1) _ _ k0 k1 rfl rfl ⟨rfl, (hbb.setCell (by show w.heap.size ≤ w.heap.size + 1 + 1; omega) _).setCell (by show w.heap.size ≤ w.heap.size + 1 + 1; omega) _⟩
        · have hzb : (v2 == 0) = false := by rw [beq_eq_false_iff_ne]; exact hz
          have hX : sizedD (v1.natAbs % v2.natAbs) (decide (v1 < 0)) = X := by
            rw [mod_side v1 v2 hz hv2, ← hXX, e1, e2]
            show _ = (if v2 = 0 then _ else _)
            rw [if_neg hz]
          have hla := len_20 v1.natAbs (by omega)
          have hlb := len_20 v2.natAbs (by omega)
          have hb0 : 0 < v2.natAbs := by omega
          have hlr : (dg (v1.natAbs % v2.natAbs)).length ≤ 1000 := Nat.le_trans (len_20 _ (by have := Nat.mod_lt v1.natAbs hb0; omega)) (by omega)
          have CA := fun W => Lib.hid (refSize_any t1 v1 W hv1)
          have CB := fun W => Lib.hid (refSize_any t2 v2 W hv2)
          have CM : ∀ B, decide (v1 < 0) = B → ∀ W va, Holds W va (dg (v1.natAbs % v2.natAbs)) → Hid (Calls Try.prog 42 #[.bool B, va] W fun e w' => e = .returned (.agg #[.int .i64 (outT X), .int .i64 (outV X)]) ∧ Below W.heap.size W w') := fun B hB W va h => by
            subst hB
            have := made_any (decide (v1 < 0)) va _ W h hlr
            rw [hX] at this
            exact Lib.hid this
          have CMH := Lib.hid CM
          unfold aggV at C1 CA CB ⊢
          generalize v1.natAbs = m1 at *
          generalize v2.natAbs = m2 at *
          subst ht1 ht2
          clear hna hnb e1 e2 hv1 hv2 h1 h2 hXX hz hX hlr CM
          go_enter Try.func25, Try.ntmps25
          go_wp2_with fail
          rw [← HW3.out]
          refine (C1 _).out.mono ?_
          rintro e w1 ⟨rfl, h1⟩
          obtain ⟨⟨a0, a1, b0, b1⟩, k0, k1, f0, f1, hs1, hbb⟩ := AFT.out _ h1
          go_upto_region 5 with fail
          go_cut [5, 6] (fun s5 s6 wx => Hid (Holds wx s6 (dg (m1 % m2))) ∧ Hid (Below W3.heap.size W3 wx))
          case first =>
            go_region_held3 (fun w' => w'.cell? ⟨w.heap.size, 0, none⟩ = some (.int .i64 0) ∧ w'.cell? ⟨w.heap.size, 1, none⟩ = some (.int .i64 v1) ∧ w'.cell? ⟨w.heap.size + 1, 0, none⟩ = some (.int .i64 0) ∧ w'.cell? ⟨w.heap.size + 1, 1, none⟩ = some (.int .i64 v2))
              (first | exact ⟨a0, a1, b0, b1⟩ | exact (AFT.out _ hc9).1 | exact (AFT.out _ hc8).1 | exact (AFT.out _ hc5).1)
              (first
                | (go_at_call_of 40 (Value.agg #[Value.int IntKind.i64 0, Value.int IntKind.i64 v1]); refine (CA _).out.mono ?_; rintro e w5 ⟨va, rfl, hva, _, hb5⟩; have hc5 : Below W3.heap.size W3 w5 := kept_step h1 hb5 ⟨rfl, rfl, rfl, rfl⟩)
                | (go_at_call_of 40 (Value.agg #[Value.int IntKind.i64 0, Value.int IntKind.i64 v2]); refine (CB _).out.mono ?_; rintro e w8 ⟨vb, rfl, hvb, _, hb8⟩; have hc8 : Below W3.heap.size W3 w8 := kept_step hc5 hb8 ⟨rfl, rfl, rfl, rfl⟩; have hva2 := hva.below hb8)
                | (go_at_call 50; refine (quotient_any _ _ _ _ _ (by exact hva2) (by exact hvb) (by omega) (by omega) (by omega)).mono ?_; rintro e w9 ⟨vq, vr, rfl, _, hvr, hb9⟩; have hc9 : Below W3.heap.size W3 w9 := kept_step hc8 hb9 ⟨rfl, rfl, rfl, rfl⟩))
            go_wp2_with fail
            go_meet
            exact ⟨Lib.hid hvr, Lib.hid hc9⟩
          case rest =>
            obtain ⟨HQ, HBC⟩ := hcut
            obtain ⟨⟨a0, a1, b0, b1⟩, k0, k1, f0, f1, hs9, hbb⟩ := AFT.out _ HBC.out
            go_wp2_with fail
            refine (CMH.out _ rfl _ _ HQ.out).out.mono ?_
            rintro e w10 ⟨rfl, hb10⟩
            have hc10 : Below W3.heap.size W3 w10 := HBC.out.trans (hb10.mono HBC.out.size)
            obtain ⟨_, k0, k1, f0, f1, hs10, hbb⟩ := AFT.out _ hc10
            go_wp2_with fail
            exact end_dec rfl w10 (w.heap.size + 1 + 1) _ _ k0 k1 rfl rfl ⟨rfl, (hbb.setCell (by show w.heap.size ≤ w.heap.size + 1 + 1; omega) _).setCell (by show w.heap.size ≤ w.heap.size + 1 + 1; omega) _⟩
      · have hX : X = .num v1 := by rw [← hXX, e1]; exact modD_by v1 _ (inf_of hnb ht2)
        have d2 : (t2 != 0) = true := by simp [ht2]
        have d3 : (t2 == 0) = false := by rw [beq_eq_false_iff_ne]; exact ht2
        subst hX ht1
        unfold aggV at C1 ⊢
        clear hna hnb e1 hv1 h1 h2 hXX ht2
        go_enter Try.func25, Try.ntmps25
        go_wp2_with fail
        rw [← HW3.out]
        refine (C1 _).out.mono ?_
        rintro e w1 ⟨rfl, h1⟩
        obtain ⟨⟨a0, a1, b0, b1⟩, k0, k1, f0, f1, hs1, hbb⟩ := AFT.out _ h1
        go_wp2_with fail
        exact end_dec rfl w1 (w.heap.size + 1 + 1) _ _ k0 k1 rfl rfl ⟨rfl, (hbb.setCell (by show w.heap.size ≤ w.heap.size + 1 + 1; omega) _).setCell (by show w.heap.size ≤ w.heap.size + 1 + 1; omega) _⟩
    · have hX : X = .nan := by rw [← hXX]; exact modD_inf _ _ (inf_of hna ht1)
      have d1 : (t1 != 0) = true := by simp [ht1]
      subst hX
      unfold aggV at C1 ⊢
      clear hna hnb h1 h2 hXX ht1
      go_enter Try.func25, Try.ntmps25
      go_wp2_with fail
      rw [← HW3.out]
      refine (C1 _).out.mono ?_
      rintro e w1 ⟨rfl, h1⟩
      obtain ⟨⟨a0, a1, b0, b1⟩, k0, k1, f0, f1, hs1, hbb⟩ := AFT.out _ h1
      go_wp2_with fail
      exact end_dec rfl w1 (w.heap.size + 1 + 1) _ _ k0 k1 rfl rfl ⟨rfl, (hbb.setCell (by show w.heap.size ≤ w.heap.size + 1 + 1; omega) _).setCell (by show w.heap.size ≤ w.heap.size + 1 + 1; omega) _⟩
end Go.Proofs.Ytncmmdhlponpoaa.Char
