/- The walk of the document's own Add for two numbers. -/
import Derived.Test.YtncmmdhlponpoaaRefAdd
namespace Go.Proofs.Ytncmmdhlponpoaa.Char
open Go.RowKit

set_option maxRecDepth 100000 in
set_option maxHeartbeats 8000000 in
theorem refAdd_num (a b : Int) (w : World) (ha : -9223372036854775807 ≤ a ∧ a ≤ 9223372036854775807) (hb : -9223372036854775807 ≤ b ∧ b ≤ 9223372036854775807) :
    Calls Try.prog 13 #[aggV 0 a, aggV 0 b] w fun e w' => e = .returned (decV (fitD (a + b))) ∧ Below w.heap.size w w' := by
  have ta : toD 0 a = .num a := by unfold toD; rw [if_pos ⟨rfl, by omega⟩]
  have tb : toD 0 b = .num b := by unfold toD; rw [if_pos ⟨rfl, by omega⟩]
  have CN := fun W => none_any 0 a 0 b W
  have CSA := fun W => sign_any 0 a W (by rw [ta]; rfl)
  have CSB := fun W => sign_any 0 b W (by rw [tb]; rfl)
  rw [ta, tb] at CN
  rw [ta] at CSA
  rw [tb] at CSB
  have CA := fun W => Lib.hid (refSize_any 0 a W ha)
  have CB := fun W => Lib.hid (refSize_any 0 b W hb)
  have C1 : ∀ W, Hid (Calls Try.prog 39 #[aggV 0 a, aggV 0 b] W fun e w' => e = .returned (.bool false) ∧ Below W.heap.size W w') := fun W => Lib.hid (CN W)
  have C2 : ∀ W, Hid (Calls Try.prog 41 #[aggV 0 a] W fun e w' => e = .returned (.int .i64 a.sign) ∧ Below W.heap.size W w') := fun W => Lib.hid (CSA W)
  have C3 : ∀ W, Hid (Calls Try.prog 41 #[aggV 0 b] W fun e w' => e = .returned (.int .i64 b.sign) ∧ Below W.heap.size W w') := fun W => Lib.hid (CSB W)
  obtain ⟨W3, hW3⟩ : ∃ W3, W3 = ((w.alloc (.cells #[Value.int .i64 0, .int .i64 a] 23)).alloc (.cells #[Value.int .i64 0, .int .i64 b] 23)).alloc (.cells #[Value.int .i64 0, .int .i64 0] 23) := ⟨_, rfl⟩
  have aft : ∀ w1, Below W3.heap.size W3 w1 → Three w 0 a 0 b w1 := fun w1 h => by rw [hW3] at h; exact kept_three w _ _ _ _ _ _ _ w1 h
  have AFT := Lib.hid aft
  have HW3 := Lib.hid hW3
  unfold aggV at CA CB C1 C2 C3 ⊢
  clear CN CSA CSB ta tb hW3 aft
  go_enter Try.func13, Try.ntmps13
  go_wp2_with fail
  rw [← HW3.out]
  refine (C1 _).out.mono ?_
  rintro e w1 ⟨rfl, h1⟩
  obtain ⟨⟨a0, a1, b0, b1⟩, k0, k1, f0, f1, hs1, hbb⟩ := AFT.out _ h1
  go_upto_region 9 with fail
  go_cut [5, 6] (fun s5 s6 wx => Hid (Holds wx s5 (dg a.natAbs)) ∧ Hid (Holds wx s6 (dg b.natAbs)) ∧ Hid (Below W3.heap.size W3 wx))
  case first =>
    go_region_held3 (fun w' => w'.cell? ⟨w.heap.size, 0, none⟩ = some (.int .i64 0) ∧ w'.cell? ⟨w.heap.size, 1, none⟩ = some (.int .i64 a) ∧ w'.cell? ⟨w.heap.size + 1, 0, none⟩ = some (.int .i64 0) ∧ w'.cell? ⟨w.heap.size + 1, 1, none⟩ = some (.int .i64 b))
      (first | exact ⟨a0, a1, b0, b1⟩ | exact (AFT.out _ hca).1 | exact (AFT.out _ hcb).1)
      (first
        | (go_at_call_of 40 (Value.agg #[Value.int IntKind.i64 0, Value.int IntKind.i64 a]); refine (CA _).out.mono ?_; rintro e wa ⟨va, rfl, hva, _, hba⟩; have hca : Below W3.heap.size W3 wa := by first | exact kept_step h1 hba ⟨rfl, rfl, rfl, rfl⟩ | exact kept_step hcb hba ⟨rfl, rfl, rfl, rfl⟩)
        | (go_at_call_of 40 (Value.agg #[Value.int IntKind.i64 0, Value.int IntKind.i64 b]); refine (CB _).out.mono ?_; rintro e wb ⟨vb, rfl, hvb, _, hbb⟩; have hcb : Below W3.heap.size W3 wb := by first | exact kept_step h1 hbb ⟨rfl, rfl, rfl, rfl⟩ | exact kept_step hca hbb ⟨rfl, rfl, rfl, rfl⟩))
    all_goals
      go_wp2_with fail
      go_meet
      first
        | exact ⟨Lib.hid (hva.below hbb), Lib.hid hvb, Lib.hid hcb⟩
        | exact ⟨Lib.hid hva, Lib.hid (hvb.below hba), Lib.hid hca⟩
  case rest =>
    obtain ⟨HX, HY, HBC⟩ := hcut
    obtain ⟨⟨a0, a1, b0, b1⟩, k0, k1, f0, f1, hs1, hbb⟩ := AFT.out _ HBC.out
    have A0 : ∀ q : KeptT wc, q.at.cell? ⟨w.heap.size, 0, none⟩ = some (.int .i64 0) := fun q => q.cell a0 (by omega)
    have A1 : ∀ q : KeptT wc, q.at.cell? ⟨w.heap.size, 1, none⟩ = some (.int .i64 a) := fun q => q.cell a1 (by omega)
    have B0 : ∀ q : KeptT wc, q.at.cell? ⟨w.heap.size + 1, 0, none⟩ = some (.int .i64 0) := fun q => q.cell b0 (by omega)
    have B1 : ∀ q : KeptT wc, q.at.cell? ⟨w.heap.size + 1, 1, none⟩ = some (.int .i64 b) := fun q => q.cell b1 (by omega)
    have sb1 := sign_bounds a
    have sb2 := sign_bounds b
    have hsame := add_same a b
    have hless := add_less a b
    have hmore := add_more a b
    generalize a.sign = sa at *
    generalize b.sign = sb at *
    obtain ⟨P, hP⟩ : ∃ P, P = sa * sb := ⟨_, rfl⟩
    have wP : IntKind.i64.wrap (sa * sb) = P := by
      have h1 : P = -1 ∨ P = 0 ∨ P = 1 := by
        rw [hP]
        have e1 : sa = -1 ∨ sa = 0 ∨ sa = 1 := by omega
        have e2 : sb = -1 ∨ sb = 0 ∨ sb = 1 := by omega
        rcases e1 with rfl | rfl | rfl <;> rcases e2 with rfl | rfl | rfl <;> simp
      rw [← hP, IntWalk.i64_in _ (by omega)]
    rw [← hP] at hsame hless hmore
    have HSAME := Lib.hid hsame
    have HLESS := Lib.hid hless
    have HMORE := Lib.hid hmore
    clear hP hsame hless hmore sb1 sb2 a0 a1 b0 b1 k0 k1 f0 f1 hbb CA CB C1
    haveI : Nonempty (KeptT wc) := ⟨⟨wc, Below.refl _ _⟩⟩
    go_wp2_with fail
    refine wp_region_kept (KeptT wc) KeptT.at (by kernel_rfl) (by kernel_rfl) ⟨⟨wc.drew, (Below.refl _ _).drew⟩, rfl⟩ ?_
    repeat (go_big_quiet_step (first
      | (go_at_call_of 41 (Value.agg #[Value.int IntKind.i64 0, Value.int IntKind.i64 a]); rename_i q; with_reducible exact (C2 q.at).out.mono (fun e w' h => ⟨h.1, q.on h.2⟩))
      | (go_at_call_of 41 (Value.agg #[Value.int IntKind.i64 0, Value.int IntKind.i64 b]); rename_i q; with_reducible exact (C3 q.at).out.mono (fun e w' h => ⟨h.1, q.on h.2⟩))))
    refine wpQuiet_nil ?_
    rintro w' ⟨q, rfl⟩
    have okq := q.ok
    generalize q.at = W4 at *
    have hc4 : Below W3.heap.size W3 W4 := HBC.out.trans (okq.mono HBC.out.size)
    have HX4 := Lib.hid (HX.out.below okq)
    have HY4 := Lib.hid (HY.out.below okq)
    obtain ⟨⟨a0, a1, b0, b1⟩, _, _, _, _, hs4, _⟩ := AFT.out _ hc4
    have la := len_20 a.natAbs (by omega)
    have lb := len_20 b.natAbs (by omega)
    have lab : (dg (a.natAbs + b.natAbs)).length ≤ 1000 := Nat.le_trans (len_20 _ (by omega)) (by omega)
    clear A0 A1 B0 B1 C2 C3 HX HY HBC okq
    by_cases hp : 0 ≤ P
    · have hX := HSAME.out hp
      have hg : (a < 0) ∨ (¬ a < 0 ∧ b < 0) ∨ (¬ a < 0 ∧ ¬ b < 0) := by omega
      have hM : ∀ B : Bool, (decide (a < 0) || decide (b < 0)) = B → ∀ W va, Holds W va (dg (a.natAbs + b.natAbs)) → Hid (Calls Try.prog 42 #[.bool B, va] W fun e w' => e = .returned (.agg #[.int .i64 (outT (fitD (a + b))), .int .i64 (outV (fitD (a + b)))]) ∧ Below W.heap.size W w') := fun B hB W va h => by
        subst hB
        have := made_any (decide (a < 0) || decide (b < 0)) va _ W h lab
        rw [hX] at this
        exact Lib.hid this
      have HMM := Lib.hid hM
      clear HSAME HLESS HMORE hX hM
      rcases hg with h1 | ⟨h1, h2⟩ | ⟨h1, h2⟩
      · have CM := HMM.out true (by rw [decide_eq_true h1]; rfl)
        have d1 : decide (a < 0) = true := decide_eq_true h1
        go_wp2_with fail
        first
          | (go_region_with (first
              | (go_at_call 43; refine (plus_any _ _ _ _ _ (by exact HX4.out) (by exact HY4.out) (by omega) (by omega)).mono ?_; rintro e w5 ⟨vp, rfl, hvp, _, hb5⟩; have hc5 : Below W3.heap.size W3 w5 := kept_step hc4 hb5 ⟨rfl, rfl, rfl, rfl⟩; obtain ⟨⟨p0, p1, p2, p3⟩, _, _, _, _, hs5, _⟩ := AFT.out _ hc5)
              | (go_at_call 42; refine (CM _ _ hvp).out.mono ?_; rintro e w6 ⟨rfl, hb6⟩; have hc6 : Below W3.heap.size W3 w6 := kept_step hc5 hb6 ⟨rfl, rfl, rfl, rfl⟩; obtain ⟨⟨p0, p1, p2, p3⟩, k0, k1, f0, f1, hs6, hb⟩ := AFT.out _ hc6)))
          | fail
        all_goals
          go_wp2_with fail
          exact end_dec rfl w6 (w.heap.size + 1 + 1) _ _ k0 k1 rfl rfl ⟨rfl, (hb.setCell (by show w.heap.size ≤ w.heap.size + 1 + 1; omega) _).setCell (by show w.heap.size ≤ w.heap.size + 1 + 1; omega) _⟩
      · have CM := HMM.out true (by rw [decide_eq_false h1, decide_eq_true h2]; rfl)
        have d1 : decide (a < 0) = false := decide_eq_false h1
        have d2 : decide (b < 0) = true := decide_eq_true h2
        go_wp2_with fail
        go_region_held3 (fun w' => w'.cell? ⟨w.heap.size, 0, none⟩ = some (.int .i64 0) ∧ w'.cell? ⟨w.heap.size, 1, none⟩ = some (.int .i64 a) ∧ w'.cell? ⟨w.heap.size + 1, 0, none⟩ = some (.int .i64 0) ∧ w'.cell? ⟨w.heap.size + 1, 1, none⟩ = some (.int .i64 b))
          (first | exact ⟨a0, a1, b0, b1⟩ | exact (AFT.out _ hc6).1 | exact (AFT.out _ hc5).1 | (refine ⟨?_, ?_, ?_, ?_⟩ <;> go_simp))
          (first
            | (go_at_call 43; refine (plus_any _ _ _ _ _ (by exact HX4.out) (by exact HY4.out) (by omega) (by omega)).mono ?_; rintro e w5 ⟨vp, rfl, hvp, _, hb5⟩; have hc5 : Below W3.heap.size W3 w5 := kept_step hc4 hb5 ⟨rfl, rfl, rfl, rfl⟩)
            | (go_at_call 42; refine (CM _ _ hvp).out.mono ?_; rintro e w6 ⟨rfl, hb6⟩; have hc6 : Below W3.heap.size W3 w6 := kept_step hc5 hb6 ⟨rfl, rfl, rfl, rfl⟩; obtain ⟨⟨p0, p1, p2, p3⟩, k0, k1, f0, f1, hs6, hb⟩ := AFT.out _ hc6))
        go_wp2_with fail
        exact end_dec rfl w6 (w.heap.size + 1 + 1) _ _ k0 k1 rfl rfl ⟨rfl, (hb.setCell (by show w.heap.size ≤ w.heap.size + 1 + 1; omega) _).setCell (by show w.heap.size ≤ w.heap.size + 1 + 1; omega) _⟩
      · have CM := HMM.out false (by rw [decide_eq_false h1, decide_eq_false h2]; rfl)
        have d1 : decide (a < 0) = false := decide_eq_false h1
        have d2 : decide (b < 0) = false := decide_eq_false h2
        go_wp2_with fail
        go_region_held3 (fun w' => w'.cell? ⟨w.heap.size, 0, none⟩ = some (.int .i64 0) ∧ w'.cell? ⟨w.heap.size, 1, none⟩ = some (.int .i64 a) ∧ w'.cell? ⟨w.heap.size + 1, 0, none⟩ = some (.int .i64 0) ∧ w'.cell? ⟨w.heap.size + 1, 1, none⟩ = some (.int .i64 b))
          (first | exact ⟨a0, a1, b0, b1⟩ | exact (AFT.out _ hc6).1 | exact (AFT.out _ hc5).1 | (refine ⟨?_, ?_, ?_, ?_⟩ <;> go_simp))
          (first
            | (go_at_call 43; refine (plus_any _ _ _ _ _ (by exact HX4.out) (by exact HY4.out) (by omega) (by omega)).mono ?_; rintro e w5 ⟨vp, rfl, hvp, _, hb5⟩; have hc5 : Below W3.heap.size W3 w5 := kept_step hc4 hb5 ⟨rfl, rfl, rfl, rfl⟩)
            | (go_at_call 42; refine (CM _ _ hvp).out.mono ?_; rintro e w6 ⟨rfl, hb6⟩; have hc6 : Below W3.heap.size W3 w6 := kept_step hc5 hb6 ⟨rfl, rfl, rfl, rfl⟩; obtain ⟨⟨p0, p1, p2, p3⟩, k0, k1, f0, f1, hs6, hb⟩ := AFT.out _ hc6))
        go_wp2_with fail
        exact end_dec rfl w6 (w.heap.size + 1 + 1) _ _ k0 k1 rfl rfl ⟨rfl, (hb.setCell (by show w.heap.size ≤ w.heap.size + 1 + 1; omega) _).setCell (by show w.heap.size ≤ w.heap.size + 1 + 1; omega) _⟩
    · by_cases hl : a.natAbs < b.natAbs
      · have hX := HLESS.out (by omega) (by omega)
        have hM : ∀ B : Bool, decide (b < 0) = B → ∀ W va, Holds W va (dg (b.natAbs - a.natAbs)) → Hid (Calls Try.prog 42 #[.bool B, va] W fun e w' => e = .returned (.agg #[.int .i64 (outT (fitD (a + b))), .int .i64 (outV (fitD (a + b)))]) ∧ Below W.heap.size W w') := fun B hB W va h => by
          subst hB
          have := made_any (decide (b < 0)) va _ W h (Nat.le_trans (len_20 _ (by omega)) (by omega))
          rw [hX] at this
          exact Lib.hid this
        have HMM := Lib.hid hM
        clear HSAME HLESS HMORE hX hM
        by_cases hs : b < 0
        · have CM := HMM.out true (decide_eq_true hs)
          have d1 : decide (b < 0) = true := decide_eq_true hs
          go_wp2_with fail
          refine (least_any _ _ a.natAbs b.natAbs _ (by exact HX4.out) (by exact HY4.out) (by omega) (by omega)).mono ?_
          rw [decide_eq_true hl]
          rintro e w7 ⟨rfl, hb7⟩
          have hc7 : Below W3.heap.size W3 w7 := kept_step hc4 hb7 ⟨rfl, rfl, rfl, rfl⟩
          have HX7 := Lib.hid (HX4.out.below hb7)
          have HY7 := Lib.hid (HY4.out.below hb7)
          obtain ⟨⟨a0, a1, b0, b1⟩, _, _, _, _, hs7, _⟩ := AFT.out _ hc7
          go_wp2_with fail
          go_region_held3 (fun w' => w'.cell? ⟨w.heap.size, 0, none⟩ = some (.int .i64 0) ∧ w'.cell? ⟨w.heap.size, 1, none⟩ = some (.int .i64 a) ∧ w'.cell? ⟨w.heap.size + 1, 0, none⟩ = some (.int .i64 0) ∧ w'.cell? ⟨w.heap.size + 1, 1, none⟩ = some (.int .i64 b))
            (first | exact ⟨a0, a1, b0, b1⟩ | exact (AFT.out _ hc6).1 | exact (AFT.out _ hc5).1 | (refine ⟨?_, ?_, ?_, ?_⟩ <;> go_simp))
            (first
              | (go_at_call 45; refine (minus_any _ _ _ _ _ (by exact HY7.out) (by exact HX7.out) (by omega) (by omega)).mono ?_; rintro e w5 ⟨vp, rfl, hvp, _, hb5⟩; have hc5 : Below W3.heap.size W3 w5 := kept_step hc7 hb5 ⟨rfl, rfl, rfl, rfl⟩)
              | (go_at_call 42; refine (CM _ _ hvp).out.mono ?_; rintro e w6 ⟨rfl, hb6⟩; have hc6 : Below W3.heap.size W3 w6 := kept_step hc5 hb6 ⟨rfl, rfl, rfl, rfl⟩; obtain ⟨⟨p0, p1, p2, p3⟩, k0, k1, f0, f1, hs6, hb⟩ := AFT.out _ hc6))
          go_wp2_with fail
          exact end_dec rfl w6 (w.heap.size + 1 + 1) _ _ k0 k1 rfl rfl ⟨rfl, (hb.setCell (by show w.heap.size ≤ w.heap.size + 1 + 1; omega) _).setCell (by show w.heap.size ≤ w.heap.size + 1 + 1; omega) _⟩
        · have CM := HMM.out false (decide_eq_false hs)
          have d1 : decide (b < 0) = false := decide_eq_false hs
          go_wp2_with fail
          refine (least_any _ _ a.natAbs b.natAbs _ (by exact HX4.out) (by exact HY4.out) (by omega) (by omega)).mono ?_
          rw [decide_eq_true hl]
          rintro e w7 ⟨rfl, hb7⟩
          have hc7 : Below W3.heap.size W3 w7 := kept_step hc4 hb7 ⟨rfl, rfl, rfl, rfl⟩
          have HX7 := Lib.hid (HX4.out.below hb7)
          have HY7 := Lib.hid (HY4.out.below hb7)
          obtain ⟨⟨a0, a1, b0, b1⟩, _, _, _, _, hs7, _⟩ := AFT.out _ hc7
          go_wp2_with fail
          go_region_held3 (fun w' => w'.cell? ⟨w.heap.size, 0, none⟩ = some (.int .i64 0) ∧ w'.cell? ⟨w.heap.size, 1, none⟩ = some (.int .i64 a) ∧ w'.cell? ⟨w.heap.size + 1, 0, none⟩ = some (.int .i64 0) ∧ w'.cell? ⟨w.heap.size + 1, 1, none⟩ = some (.int .i64 b))
            (first | exact ⟨a0, a1, b0, b1⟩ | exact (AFT.out _ hc6).1 | exact (AFT.out _ hc5).1 | (refine ⟨?_, ?_, ?_, ?_⟩ <;> go_simp))
            (first
              | (go_at_call 45; refine (minus_any _ _ _ _ _ (by exact HY7.out) (by exact HX7.out) (by omega) (by omega)).mono ?_; rintro e w5 ⟨vp, rfl, hvp, _, hb5⟩; have hc5 : Below W3.heap.size W3 w5 := kept_step hc7 hb5 ⟨rfl, rfl, rfl, rfl⟩)
              | (go_at_call 42; refine (CM _ _ hvp).out.mono ?_; rintro e w6 ⟨rfl, hb6⟩; have hc6 : Below W3.heap.size W3 w6 := kept_step hc5 hb6 ⟨rfl, rfl, rfl, rfl⟩; obtain ⟨⟨p0, p1, p2, p3⟩, k0, k1, f0, f1, hs6, hb⟩ := AFT.out _ hc6))
          go_wp2_with fail
          exact end_dec rfl w6 (w.heap.size + 1 + 1) _ _ k0 k1 rfl rfl ⟨rfl, (hb.setCell (by show w.heap.size ≤ w.heap.size + 1 + 1; omega) _).setCell (by show w.heap.size ≤ w.heap.size + 1 + 1; omega) _⟩
      · have hX := HMORE.out (by omega) (by omega)
        have hM : ∀ B : Bool, decide (a < 0) = B → ∀ W va, Holds W va (dg (a.natAbs - b.natAbs)) → Hid (Calls Try.prog 42 #[.bool B, va] W fun e w' => e = .returned (.agg #[.int .i64 (outT (fitD (a + b))), .int .i64 (outV (fitD (a + b)))]) ∧ Below W.heap.size W w') := fun B hB W va h => by
          subst hB
          have := made_any (decide (a < 0)) va _ W h (Nat.le_trans (len_20 _ (by omega)) (by omega))
          rw [hX] at this
          exact Lib.hid this
        have HMM := Lib.hid hM
        clear HSAME HLESS HMORE hX hM
        by_cases hs : a < 0
        · have CM := HMM.out true (decide_eq_true hs)
          have d1 : decide (a < 0) = true := decide_eq_true hs
          go_wp2_with fail
          refine (least_any _ _ a.natAbs b.natAbs _ (by exact HX4.out) (by exact HY4.out) (by omega) (by omega)).mono ?_
          rw [decide_eq_false hl]
          rintro e w7 ⟨rfl, hb7⟩
          have hc7 : Below W3.heap.size W3 w7 := kept_step hc4 hb7 ⟨rfl, rfl, rfl, rfl⟩
          have HX7 := Lib.hid (HX4.out.below hb7)
          have HY7 := Lib.hid (HY4.out.below hb7)
          obtain ⟨⟨a0, a1, b0, b1⟩, _, _, _, _, hs7, _⟩ := AFT.out _ hc7
          go_wp2_with fail
          go_region_held3 (fun w' => w'.cell? ⟨w.heap.size, 0, none⟩ = some (.int .i64 0) ∧ w'.cell? ⟨w.heap.size, 1, none⟩ = some (.int .i64 a) ∧ w'.cell? ⟨w.heap.size + 1, 0, none⟩ = some (.int .i64 0) ∧ w'.cell? ⟨w.heap.size + 1, 1, none⟩ = some (.int .i64 b))
            (first | exact ⟨a0, a1, b0, b1⟩ | exact (AFT.out _ hc6).1 | exact (AFT.out _ hc5).1 | (refine ⟨?_, ?_, ?_, ?_⟩ <;> go_simp))
            (first
              | (go_at_call 45; refine (minus_any _ _ _ _ _ (by exact HX7.out) (by exact HY7.out) (by omega) (by omega)).mono ?_; rintro e w5 ⟨vp, rfl, hvp, _, hb5⟩; have hc5 : Below W3.heap.size W3 w5 := kept_step hc7 hb5 ⟨rfl, rfl, rfl, rfl⟩)
              | (go_at_call 42; refine (CM _ _ hvp).out.mono ?_; rintro e w6 ⟨rfl, hb6⟩; have hc6 : Below W3.heap.size W3 w6 := kept_step hc5 hb6 ⟨rfl, rfl, rfl, rfl⟩; obtain ⟨⟨p0, p1, p2, p3⟩, k0, k1, f0, f1, hs6, hb⟩ := AFT.out _ hc6))
          go_wp2_with fail
          exact end_dec rfl w6 (w.heap.size + 1 + 1) _ _ k0 k1 rfl rfl ⟨rfl, (hb.setCell (by show w.heap.size ≤ w.heap.size + 1 + 1; omega) _).setCell (by show w.heap.size ≤ w.heap.size + 1 + 1; omega) _⟩
        · have CM := HMM.out false (decide_eq_false hs)
          have d1 : decide (a < 0) = false := decide_eq_false hs
          go_wp2_with fail
          refine (least_any _ _ a.natAbs b.natAbs _ (by exact HX4.out) (by exact HY4.out) (by omega) (by omega)).mono ?_
          rw [decide_eq_false hl]
          rintro e w7 ⟨rfl, hb7⟩
          have hc7 : Below W3.heap.size W3 w7 := kept_step hc4 hb7 ⟨rfl, rfl, rfl, rfl⟩
          have HX7 := Lib.hid (HX4.out.below hb7)
          have HY7 := Lib.hid (HY4.out.below hb7)
          obtain ⟨⟨a0, a1, b0, b1⟩, _, _, _, _, hs7, _⟩ := AFT.out _ hc7
          go_wp2_with fail
          go_region_held3 (fun w' => w'.cell? ⟨w.heap.size, 0, none⟩ = some (.int .i64 0) ∧ w'.cell? ⟨w.heap.size, 1, none⟩ = some (.int .i64 a) ∧ w'.cell? ⟨w.heap.size + 1, 0, none⟩ = some (.int .i64 0) ∧ w'.cell? ⟨w.heap.size + 1, 1, none⟩ = some (.int .i64 b))
            (first | exact ⟨a0, a1, b0, b1⟩ | exact (AFT.out _ hc6).1 | exact (AFT.out _ hc5).1 | (refine ⟨?_, ?_, ?_, ?_⟩ <;> go_simp))
            (first
              | (go_at_call 45; refine (minus_any _ _ _ _ _ (by exact HX7.out) (by exact HY7.out) (by omega) (by omega)).mono ?_; rintro e w5 ⟨vp, rfl, hvp, _, hb5⟩; have hc5 : Below W3.heap.size W3 w5 := kept_step hc7 hb5 ⟨rfl, rfl, rfl, rfl⟩)
              | (go_at_call 42; refine (CM _ _ hvp).out.mono ?_; rintro e w6 ⟨rfl, hb6⟩; have hc6 : Below W3.heap.size W3 w6 := kept_step hc5 hb6 ⟨rfl, rfl, rfl, rfl⟩; obtain ⟨⟨p0, p1, p2, p3⟩, k0, k1, f0, f1, hs6, hb⟩ := AFT.out _ hc6))
          go_wp2_with fail
          exact end_dec rfl w6 (w.heap.size + 1 + 1) _ _ k0 k1 rfl rfl ⟨rfl, (hb.setCell (by show w.heap.size ≤ w.heap.size + 1 + 1; omega) _).setCell (by show w.heap.size ≤ w.heap.size + 1 + 1; omega) _⟩
end Go.Proofs.Ytncmmdhlponpoaa.Char
