/- The walk of the law DecOrder. -/
import Derived.Test.YtncmmdhlponpoaaLawC
namespace Go.Proofs.Ytncmmdhlponpoaa.Char
open Go.RowKit

theorem addD_comm : ∀ x y, addD x y = addD y x := fun x y => by
  cases x <;> cases y <;> first | rfl | (show fitD _ = fitD _; rw [Int.add_comm])
theorem mulD_comm : ∀ x y, mulD x y = mulD y x := fun x y => by
  cases x <;> cases y <;> first | rfl | (show fitD _ = fitD _; rw [Int.mul_comm]) | (show pastD _ = pastD _; rw [Int.mul_comm])

/-- what the boxes of two numbers, and a third number, read in a world -/
structure Trio (w : World) (t1 v1 t2 v2 : Int) (g : Nat) (T V : Int) (W : World) : Prop where
  a0 : W.cell? ⟨w.heap.size, 0, none⟩ = some (.int .i64 t1)
  a1 : W.cell? ⟨w.heap.size, 1, none⟩ = some (.int .i64 v1)
  b0 : W.cell? ⟨w.heap.size + 1, 0, none⟩ = some (.int .i64 t2)
  b1 : W.cell? ⟨w.heap.size + 1, 1, none⟩ = some (.int .i64 v2)
  s0 : W.cell? ⟨g, 0, none⟩ = some (.int .i64 T)
  s1 : W.cell? ⟨g, 1, none⟩ = some (.int .i64 V)
  n0 : w.heap.size < W.heap.size
  n1 : w.heap.size + 1 < W.heap.size
  n2 : g < W.heap.size
  ok : Below w.heap.size w W
theorem Trio.on {w : World} {t1 v1 t2 v2 : Int} {g : Nat} {T V : Int} {W W' : World} (h : Trio w t1 v1 t2 v2 g T V W) (hb : Below W.heap.size W W') : Trio w t1 v1 t2 v2 g T V W' :=
  ⟨(hb.cell (p := ⟨w.heap.size, 0, none⟩) h.n0).trans h.a0, (hb.cell (p := ⟨w.heap.size, 1, none⟩) h.n0).trans h.a1, (hb.cell (p := ⟨w.heap.size + 1, 0, none⟩) h.n1).trans h.b0, (hb.cell (p := ⟨w.heap.size + 1, 1, none⟩) h.n1).trans h.b1,
   (hb.cell (p := ⟨g, 0, none⟩) h.n2).trans h.s0, (hb.cell (p := ⟨g, 1, none⟩) h.n2).trans h.s1, Nat.lt_of_lt_of_le h.n0 hb.size, Nat.lt_of_lt_of_le h.n1 hb.size, Nat.lt_of_lt_of_le h.n2 hb.size, h.ok.trans (hb.mono h.ok.size)⟩
theorem Trio.mk' {w : World} {t1 v1 t2 v2 : Int} {T V : Int} {W : World} (a0 : W.cell? ⟨w.heap.size, 0, none⟩ = some (.int .i64 t1)) (a1 : W.cell? ⟨w.heap.size, 1, none⟩ = some (.int .i64 v1))
    (b0 : W.cell? ⟨w.heap.size + 1, 0, none⟩ = some (.int .i64 t2)) (b1 : W.cell? ⟨w.heap.size + 1, 1, none⟩ = some (.int .i64 v2)) (n1 : w.heap.size + 1 < W.heap.size) (ok : Below w.heap.size w W) :
    Trio w t1 v1 t2 v2 W.heap.size T V (W.alloc (.cells #[.int .i64 T, .int .i64 V] 23)) := by
  have hal : Below W.heap.size W (W.alloc (.cells #[.int .i64 T, .int .i64 V] 23)) := (Below.refl _ _).alloc (Nat.le_refl _) _
  have n0 : w.heap.size < W.heap.size := by omega
  exact ⟨(hal.cell (p := ⟨w.heap.size, 0, none⟩) n0).trans a0, (hal.cell (p := ⟨w.heap.size, 1, none⟩) n0).trans a1, (hal.cell (p := ⟨w.heap.size + 1, 0, none⟩) n1).trans b0, (hal.cell (p := ⟨w.heap.size + 1, 1, none⟩) n1).trans b1,
    by rw [World.cell?_alloc_new]; rfl, by rw [World.cell?_alloc_new]; rfl, by simp; omega, by simp; omega, by simp, ok.trans (hal.mono ok.size)⟩

set_option maxRecDepth 100000 in
set_option maxHeartbeats 8000000 in
theorem order_law (t1 v1 t2 v2 : Int) (w : World) (h1 : -9223372036854775808 ≤ v1 ∧ v1 ≤ 9223372036854775807) (h2 : -9223372036854775808 ≤ v2 ∧ v2 ≤ 9223372036854775807) :
    Calls Try.prog 8 #[aggV t1 v1, aggV t2 v2] w fun e w' => e = .returned (.bool true) ∧ Below w.heap.size w w' := by
  have C1 := fun W => Lib.hid (add_any t1 v1 t2 v2 W h1 h2)
  have C2 := fun W => Lib.hid (add_any t2 v2 t1 v1 W h2 h1)
  rw [addD_comm (toD t2 v2)] at C2
  have C3 := fun W => Lib.hid (mul_any t1 v1 t2 v2 W h1 h2)
  have C4 := fun W => Lib.hid (mul_any t2 v2 t1 v1 W h2 h1)
  rw [mulD_comm (toD t2 v2)] at C4
  have C5 := fun W => Lib.hid (right_any t1 v1 W)
  have C6 := fun W => Lib.hid (right_any t2 v2 W)
  have oks : okD (addD (toD t1 v1) (toD t2 v2)) := by
    have k1 := toD_ok t1 v1 h1
    have k2 := toD_ok t2 v2 h2
    generalize toD t1 v1 = x at *
    generalize toD t2 v2 = y at *
    cases x <;> cases y <;> first | trivial | exact fitD_ok _ | exact k1 | exact k2
  have CS := fun W => sub_any (outT (addD (toD t1 v1) (toD t2 v2))) (outV (addD (toD t1 v1) (toD t2 v2))) t2 v2 W (okD_bounds oks) h2
  rw [toD_out _ oks] at CS
  have key : (t1 == 0) = false ∨ (t1 = 0 ∧ (t2 == 0) = false) ∨ (t1 = 0 ∧ t2 = 0 ∧ rightB t1 v1 = false) ∨ (t1 = 0 ∧ t2 = 0 ∧ rightB t1 v1 = true ∧ rightB t2 v2 = false) ∨
      (t1 = 0 ∧ t2 = 0 ∧ rightB t1 v1 = true ∧ rightB t2 v2 = true ∧ (outT (addD (toD t1 v1) (toD t2 v2)) == 0) = false) ∨
      (t1 = 0 ∧ t2 = 0 ∧ rightB t1 v1 = true ∧ rightB t2 v2 = true ∧ outT (addD (toD t1 v1) (toD t2 v2)) = 0 ∧ addD (addD (toD t1 v1) (toD t2 v2)) (negD (toD t2 v2)) = .num v1) := by
    by_cases ht1 : t1 = 0
    · by_cases ht2 : t2 = 0
      · subst ht1 ht2
        rcases toD_cases 0 v1 with ⟨_, _, e1, r1⟩ | ⟨h, _⟩ | ⟨h, _⟩ | ⟨h, _⟩ | ⟨_, _, _, _, _, r1⟩
        · rcases toD_cases 0 v2 with ⟨_, _, e2, r2⟩ | ⟨h, _⟩ | ⟨h, _⟩ | ⟨h, _⟩ | ⟨_, _, _, _, _, r2⟩
          · rw [e1, e2]
            have b1 := num_in e1 h1
            show _ ∨ _ ∨ _ ∨ _ ∨ (_ ∧ _ ∧ _ ∧ _ ∧ (outT (fitD (v1 + v2)) == 0) = false) ∨ (_ ∧ _ ∧ _ ∧ _ ∧ outT (fitD (v1 + v2)) = 0 ∧ addD (fitD (v1 + v2)) (.num (-v2)) = .num v1)
            by_cases hg : 9223372036854775807 < v1 + v2
            · have : fitD (v1 + v2) = .over := by unfold fitD; rw [if_pos hg]
              rw [this]
              exact .inr (.inr (.inr (.inr (.inl ⟨rfl, rfl, r1, r2, rfl⟩))))
            · by_cases hl : v1 + v2 < -9223372036854775807
              · have : fitD (v1 + v2) = .under := by unfold fitD; rw [if_neg hg, if_pos hl]
                rw [this]
                exact .inr (.inr (.inr (.inr (.inl ⟨rfl, rfl, r1, r2, rfl⟩))))
              · have : fitD (v1 + v2) = .num (v1 + v2) := fitD_in _ ⟨by omega, by omega⟩
                rw [this]
                refine .inr (.inr (.inr (.inr (.inr ⟨rfl, rfl, r1, r2, rfl, ?_⟩))))
                show fitD (v1 + v2 + -v2) = _
                rw [show v1 + v2 + -v2 = v1 by omega]
                exact fitD_in _ b1
          · cases h
          · cases h
          · cases h
          · exact .inr (.inr (.inr (.inl ⟨rfl, rfl, r1, r2⟩)))
        · cases h
        · cases h
        · cases h
        · exact .inr (.inr (.inl ⟨rfl, rfl, r1⟩))
      · exact .inr (.inl ⟨ht1, by rw [beq_eq_false_iff_ne]; exact ht2⟩)
    · exact .inl (by rw [beq_eq_false_iff_ne]; exact ht1)
  have C7 := fun W => Lib.hid (CS W)
  generalize addD (addD (toD t1 v1) (toD t2 v2)) (negD (toD t2 v2)) = X3 at *
  generalize addD (toD t1 v1) (toD t2 v2) = X1 at *
  generalize mulD (toD t1 v1) (toD t2 v2) = X2 at *
  generalize hr1 : rightB t1 v1 = r1 at *
  generalize hr2 : rightB t2 v2 = r2 at *
  unfold decV at C1 C2 C3 C4 C7
  unfold aggV at C1 C2 C3 C4 C5 C6 C7 ⊢
  generalize outT X1 = T at *
  generalize outV X1 = V at *
  obtain ⟨W0, hW0⟩ : ∃ W0, W0 = (w.alloc (Obj.cells #[Value.int IntKind.i64 t1, Value.int IntKind.i64 v1] 23)).alloc (Obj.cells #[Value.int IntKind.i64 t2, Value.int IntKind.i64 v2] 23) := ⟨_, rfl⟩
  have hsz : W0.heap.size = w.heap.size + 1 + 1 := by rw [hW0]; simp
  have a0 : W0.cell? ⟨w.heap.size, 0, none⟩ = some (.int .i64 t1) := by rw [hW0]; go_simp
  have a1 : W0.cell? ⟨w.heap.size, 1, none⟩ = some (.int .i64 v1) := by rw [hW0]; go_simp
  have b0 : W0.cell? ⟨w.heap.size + 1, 0, none⟩ = some (.int .i64 t2) := by rw [hW0]; go_simp
  have b1 : W0.cell? ⟨w.heap.size + 1, 1, none⟩ = some (.int .i64 v2) := by rw [hW0]; go_simp
  have hbw : Below w.heap.size w W0 := by rw [hW0]; exact ((Below.refl _ _).alloc (Nat.le_refl _) _).alloc (by simp) _
  have hn1 : w.heap.size + 1 < W0.heap.size := by omega
  have A0 : ∀ q : KeptT W0, q.at.cell? ⟨w.heap.size, 0, none⟩ = some (.int .i64 t1) := fun q => q.cell a0 (by omega)
  have A1 : ∀ q : KeptT W0, q.at.cell? ⟨w.heap.size, 1, none⟩ = some (.int .i64 v1) := fun q => q.cell a1 (by omega)
  have B0 : ∀ q : KeptT W0, q.at.cell? ⟨w.heap.size + 1, 0, none⟩ = some (.int .i64 t2) := fun q => q.cell b0 (by omega)
  have B1 : ∀ q : KeptT W0, q.at.cell? ⟨w.heap.size + 1, 1, none⟩ = some (.int .i64 v2) := fun q => q.cell b1 (by omega)
  have OK : Hid (∀ q : KeptT W0, Below w.heap.size w q.at) := Lib.hid (fun q => hbw.trans (q.ok.mono hbw.size))
  have AFT : Hid (∀ W, Below W0.heap.size W0 W → W.cell? ⟨w.heap.size, 0, none⟩ = some (.int .i64 t1) ∧ W.cell? ⟨w.heap.size, 1, none⟩ = some (.int .i64 v1) ∧ W.cell? ⟨w.heap.size + 1, 0, none⟩ = some (.int .i64 t2) ∧ W.cell? ⟨w.heap.size + 1, 1, none⟩ = some (.int .i64 v2) ∧ w.heap.size + 1 < W.heap.size ∧ w.heap.size < W.heap.size ∧ Below w.heap.size w W) := Lib.hid (fun W hb =>
    ⟨(hb.cell (p := ⟨w.heap.size, 0, none⟩) (by show w.heap.size < _; omega)).trans a0, (hb.cell (p := ⟨w.heap.size, 1, none⟩) (by show w.heap.size < _; omega)).trans a1, (hb.cell (p := ⟨w.heap.size + 1, 0, none⟩) hn1).trans b0, (hb.cell (p := ⟨w.heap.size + 1, 1, none⟩) hn1).trans b1,
     Nat.lt_of_lt_of_le hn1 hb.size, Nat.lt_of_lt_of_le (by omega) hb.size, hbw.trans (hb.mono hbw.size)⟩)
  have HW0 := Lib.hid hW0
  have KEY := Lib.hid key
  clear hW0 hsz a0 a1 b0 b1 hbw h1 h2 key oks CS hr1 hr2 hn1
  haveI : Nonempty (KeptT W0) := ⟨⟨W0, Below.refl _ _⟩⟩
  go_enter Try.func8, Try.ntmps8
  go_wp2_with fail
  rw [← HW0.out]
  refine wp_region_kept (KeptT W0) KeptT.at (by kernel_rfl) (by kernel_rfl) ⟨⟨W0.drew, (Below.refl _ _).drew⟩, rfl⟩ ?_
  repeat (go_big_quiet_step (first
    | (go_at_call 12; rename_i q; with_reducible exact (C1 q.at).out.mono (fun e w' h => ⟨h.1, q.on h.2⟩))
    | (go_at_call 12; rename_i q; with_reducible exact (C2 q.at).out.mono (fun e w' h => ⟨h.1, q.on h.2⟩))
    | (go_at_call 20; rename_i q; with_reducible exact (C3 q.at).out.mono (fun e w' h => ⟨h.1, q.on h.2⟩))
    | (go_at_call 20; rename_i q; with_reducible exact (C4 q.at).out.mono (fun e w' h => ⟨h.1, q.on h.2⟩))))
  refine wpQuiet_nil ?_
  rintro w' ⟨q, rfl⟩
  have okq := q.ok
  generalize q.at = W1 at *
  obtain ⟨a0, a1, b0, b1, n1, n0, ok1⟩ := AFT.out _ okq
  clear A0 A1 B0 B1 C2 C3 C4 OK okq
  go_wp2_with fail
  refine (C1 _).out.mono ?_
  rintro e w2 ⟨rfl, hb2⟩
  have tr : Trio w t1 v1 t2 v2 w2.heap.size T V (w2.alloc (.cells #[.int .i64 T, .int .i64 V] 23)) :=
    Trio.mk' ((hb2.cell (p := ⟨w.heap.size, 0, none⟩) n0).trans a0) ((hb2.cell (p := ⟨w.heap.size, 1, none⟩) n0).trans a1) ((hb2.cell (p := ⟨w.heap.size + 1, 0, none⟩) n1).trans b0) ((hb2.cell (p := ⟨w.heap.size + 1, 1, none⟩) n1).trans b1) (Nat.lt_of_lt_of_le n1 hb2.size) (ok1.trans (hb2.mono ok1.size))
  have TR := Lib.hid tr
  obtain ⟨a0, a1, b0, b1, s0, s1, m0, m1, m2, ok2⟩ := tr
  clear hb2
  rcases KEY.out with d1 | ⟨rfl, d2⟩ | ⟨rfl, rfl, rfl⟩ | ⟨rfl, rfl, rfl, rfl⟩ | ⟨rfl, rfl, rfl, rfl, d3⟩ | ⟨rfl, rfl, rfl, rfl, rfl, rfl⟩
  · go_wp2_with fail
    refine (works_any _).mono ?_
    rintro e w3 ⟨rfl, h3⟩
    go_wp2_with fail
    go_ret
    exact ⟨rfl, ok2.trans (h3.mono ok2.size)⟩
  · go_wp2_with fail
    refine (works_any _).mono ?_
    rintro e w3 ⟨rfl, h3⟩
    go_wp2_with fail
    go_ret
    exact ⟨rfl, ok2.trans (h3.mono ok2.size)⟩
  · go_wp2_with fail
    refine (C5 _).out.mono ?_
    rintro e w3 ⟨rfl, h3⟩
    obtain ⟨a0, a1, b0, b1, s0, s1, m0, m1, m2, ok3⟩ := TR.out.on h3
    go_wp2_with fail
    refine (works_any _).mono ?_
    rintro e w5 ⟨rfl, h5⟩
    go_wp2_with fail
    go_ret
    exact ⟨rfl, ok3.trans (h5.mono ok3.size)⟩
  · go_wp2_with fail
    refine (C5 _).out.mono ?_
    rintro e w3 ⟨rfl, h3⟩
    obtain ⟨a0, a1, b0, b1, s0, s1, m0, m1, m2, ok3⟩ := TR.out.on h3
    have TR3 := Lib.hid (TR.out.on h3)
    go_wp2_with fail
    refine (C6 _).out.mono ?_
    rintro e w4 ⟨rfl, h4⟩
    have TR4 := Lib.hid (TR3.out.on h4)
    obtain ⟨a0, a1, b0, b1, s0, s1, m0, m1, m2, ok4⟩ := TR3.out.on h4
    go_wp2_with fail
    refine (works_any _).mono ?_
    rintro e w5 ⟨rfl, h5⟩
    go_wp2_with fail
    go_ret
    exact ⟨rfl, ok4.trans (h5.mono ok4.size)⟩
  · go_wp2_with fail
    refine (C5 _).out.mono ?_
    rintro e w3 ⟨rfl, h3⟩
    obtain ⟨a0, a1, b0, b1, s0, s1, m0, m1, m2, ok3⟩ := TR.out.on h3
    have TR3 := Lib.hid (TR.out.on h3)
    go_wp2_with fail
    refine (C6 _).out.mono ?_
    rintro e w4 ⟨rfl, h4⟩
    have TR4 := Lib.hid (TR3.out.on h4)
    obtain ⟨a0, a1, b0, b1, s0, s1, m0, m1, m2, ok4⟩ := TR3.out.on h4
    go_wp2_with fail
    refine (works_any _).mono ?_
    rintro e w5 ⟨rfl, h5⟩
    go_wp2_with fail
    go_ret
    exact ⟨rfl, ok4.trans (h5.mono ok4.size)⟩
  · go_wp2_with fail
    refine (C5 _).out.mono ?_
    rintro e w3 ⟨rfl, h3⟩
    obtain ⟨a0, a1, b0, b1, s0, s1, m0, m1, m2, ok3⟩ := TR.out.on h3
    have TR3 := Lib.hid (TR.out.on h3)
    go_wp2_with fail
    refine (C6 _).out.mono ?_
    rintro e w4 ⟨rfl, h4⟩
    have TR4 := Lib.hid (TR3.out.on h4)
    obtain ⟨a0, a1, b0, b1, s0, s1, m0, m1, m2, ok4⟩ := TR3.out.on h4
    have A0 : ∀ q : KeptT w4, q.at.cell? ⟨w.heap.size, 0, none⟩ = _ := fun q => q.cell a0 m0
    have A1 : ∀ q : KeptT w4, q.at.cell? ⟨w.heap.size, 1, none⟩ = _ := fun q => q.cell a1 m0
    have B0 : ∀ q : KeptT w4, q.at.cell? ⟨w.heap.size + 1, 0, none⟩ = _ := fun q => q.cell b0 m1
    have B1 : ∀ q : KeptT w4, q.at.cell? ⟨w.heap.size + 1, 1, none⟩ = _ := fun q => q.cell b1 m1
    have S0 : ∀ q : KeptT w4, q.at.cell? ⟨w2.heap.size, 0, none⟩ = _ := fun q => q.cell s0 m2
    have S1 : ∀ q : KeptT w4, q.at.cell? ⟨w2.heap.size, 1, none⟩ = _ := fun q => q.cell s1 m2
    have OK : Hid (∀ q : KeptT w4, Below w.heap.size w q.at) := Lib.hid (fun q => ok4.trans (q.ok.mono ok4.size))
    have C8 : ∀ W, Hid (Calls Try.prog 14 #[.agg #[.int .i64 0, .int .i64 V], .agg #[.int .i64 0, .int .i64 v2]] W fun e w' => e = .returned (.agg #[.int .i64 0, .int .i64 v1]) ∧ Below W.heap.size W w') := C7
    have C9 := fun W => Lib.hid (works_any W)
    haveI : Nonempty (KeptT w4) := ⟨⟨w4, Below.refl _ _⟩⟩
    go_wp2_with fail
    refine wp_region_kept (KeptT w4) KeptT.at (by kernel_rfl) (by kernel_rfl) ⟨⟨w4.drew, (Below.refl _ _).drew⟩, rfl⟩ ?_
    repeat (go_big_quiet_step (first
      | (go_at_call 14; rename_i q; with_reducible exact (C8 q.at).out.mono (fun e w' h => ⟨h.1, q.on h.2⟩))
      | (go_at_call 19; rename_i q; with_reducible exact (C9 q.at).out.mono (fun e w' h => ⟨h.1, q.on h.2⟩))))
    refine wpQuiet_nil ?_
    rintro w' ⟨q, rfl⟩
    go_wp2_with fail
    go_ret
    exact ⟨rfl, OK.out q⟩
end Go.Proofs.Ytncmmdhlponpoaa.Char
