/- The walk of the law DecShifts. -/
import Derived.Test.YtncmmdhlponpoaaLawF
namespace Go.Proofs.Ytncmmdhlponpoaa.Char
open Go.RowKit

theorem toD_in (v : Int) (h : -9223372036854775807 ≤ v ∧ v ≤ 9223372036854775807) : toD 0 v = .num v := by unfold toD; rw [if_pos ⟨rfl, by omega⟩]
theorem floor_in (v : Int) (h : -9100000000000000000 ≤ v ∧ v ≤ 9100000000000000000) : floorD (toD 0 v) = .num (v / 1000000 * 1000000) := by
  rw [toD_in v ⟨by omega, by omega⟩]
  exact fitD_in _ ⟨by omega, by omega⟩
theorem ceil_in (v : Int) (h : -9100000000000000000 ≤ v ∧ v ≤ 9100000000000000000) : ceilD (toD 0 v) = .num (-(-v / 1000000 * 1000000)) := by
  rw [toD_in v ⟨by omega, by omega⟩]
  show negD (fitD (-v / 1000000 * 1000000)) = _
  rw [fitD_in _ ⟨by omega, by omega⟩]
  rfl
theorem round_in (v : Int) (h : -9100000000000000000 ≤ v ∧ v ≤ 9100000000000000000) : roundD (toD 0 v) = .num ((v + 500000) / 1000000 * 1000000) := by
  rw [toD_in v ⟨by omega, by omega⟩]
  exact fitD_in _ ⟨by omega, by omega⟩
theorem add_in (a b : Int) (h1 : -9100000000000000000 ≤ a ∧ a ≤ 9100000000000000000) (h2 : -9100000000000000000 ≤ b ∧ b ≤ 9100000000000000000) (h3 : -9100000000000000000 ≤ a + b ∧ a + b ≤ 9100000000000000000) : addD (toD 0 a) (toD 0 b) = .num (a + b) := by
  rw [toD_in a ⟨by omega, by omega⟩, toD_in b ⟨by omega, by omega⟩]
  exact fitD_in _ ⟨by omega, by omega⟩

/-- one number's box, and a second number, in a world -/
structure Duet (w : World) (t1 v1 : Int) (g : Nat) (T V : Int) (W : World) : Prop where
  a0 : W.cell? ⟨w.heap.size, 0, none⟩ = some (.int .i64 t1)
  a1 : W.cell? ⟨w.heap.size, 1, none⟩ = some (.int .i64 v1)
  s0 : W.cell? ⟨g, 0, none⟩ = some (.int .i64 T)
  s1 : W.cell? ⟨g, 1, none⟩ = some (.int .i64 V)
  n0 : w.heap.size < W.heap.size
  n2 : g < W.heap.size
  ok : Below w.heap.size w W

theorem Duet.on {w W W' : World} {t1 v1 : Int} (a0 : W.cell? ⟨w.heap.size, 0, none⟩ = some (.int .i64 t1)) (a1 : W.cell? ⟨w.heap.size, 1, none⟩ = some (.int .i64 v1)) (n0 : w.heap.size < W.heap.size) (ok : Below w.heap.size w W) (h : Below W.heap.size W W') :
    W'.cell? ⟨w.heap.size, 0, none⟩ = some (.int .i64 t1) ∧ W'.cell? ⟨w.heap.size, 1, none⟩ = some (.int .i64 v1) ∧ w.heap.size < W'.heap.size ∧ Below w.heap.size w W' :=
  ⟨(h.cell (p := ⟨w.heap.size, 0, none⟩) n0).trans a0, (h.cell (p := ⟨w.heap.size, 1, none⟩) n0).trans a1, Nat.lt_of_lt_of_le n0 h.size, ok.trans (h.mono ok.size)⟩

theorem Duet.mk2 {w W : World} {t1 v1 : Int} {g : Nat} {z0 z1 : Value} (a0 : W.cell? ⟨w.heap.size, 0, none⟩ = some (.int .i64 t1)) (a1 : W.cell? ⟨w.heap.size, 1, none⟩ = some (.int .i64 v1)) (n0 : w.heap.size < W.heap.size) (ok : Below w.heap.size w W)
    (k0 : W.cell? ⟨g, 0, none⟩ = some z0) (k1 : W.cell? ⟨g, 1, none⟩ = some z1) (lg : w.heap.size < g) (ng : g < W.heap.size) (S : Int) :
    Duet w t1 v1 g 0 S ((W.setCell ⟨g, 0, none⟩ (.int .i64 0)).setCell ⟨g, 1, none⟩ (.int .i64 S)) := by
  refine ⟨(cell_two _ _ _ _ _ _ (by omega)).trans a0, (cell_two _ _ _ _ _ _ (by omega)).trans a1, cell_set0 _ _ _ _ _ k0, cell_set1 _ _ _ _ _ k1, ?_, ?_, (ok.setCell (by show w.heap.size ≤ g; omega) _).setCell (by show w.heap.size ≤ g; omega) _⟩
  · simpa [World.setCell] using n0
  · simpa [World.setCell] using ng
theorem Duet.mk1 {w W : World} {t1 v1 : Int} (a0 : W.cell? ⟨w.heap.size, 0, none⟩ = some (.int .i64 t1)) (a1 : W.cell? ⟨w.heap.size, 1, none⟩ = some (.int .i64 v1)) (n0 : w.heap.size < W.heap.size) (ok : Below w.heap.size w W) (S : Int) :
    Duet w t1 v1 W.heap.size 0 S (W.alloc (.cells #[.int .i64 0, .int .i64 S] 23)) := by
  obtain ⟨b0, b1, n1, ok1⟩ := Duet.on a0 a1 n0 ok ((Below.refl _ W).alloc (Nat.le_refl _) (.cells #[.int .i64 0, .int .i64 S] 23))
  exact ⟨b0, b1, by go_simp, by go_simp, n1, by simp, ok1⟩

set_option maxRecDepth 100000 in
set_option maxHeartbeats 8000000 in
theorem shifts_law (t1 v1 n : Int) (w : World) (h1 : -9223372036854775808 ≤ v1 ∧ v1 ≤ 9223372036854775807) (hn : -2147483648 ≤ n ∧ n ≤ 2147483647) :
    Calls Try.prog 11 #[aggV t1 v1, .int .i32 n] w fun e w' => e = .returned (.bool true) ∧ Below w.heap.size w w' := by
  obtain ⟨M, hM⟩ : ∃ M, M = n.tmod 1000000 := ⟨_, rfl⟩
  have hMb : -999999 ≤ M ∧ M ≤ 999999 := by
    have := tmod_abs n 1000000 (by omega)
    omega
  have e1 : n.tmod 1000000 = M := hM.symm
  have e2 : 0 ≤ n → n % 1000000 = M := fun h => by rw [hM, Int.tmod_eq_emod_of_nonneg h]
  have C5 := fun W => Lib.hid (right_any t1 v1 W)
  have key : rightB t1 v1 = false ∨ (rightB t1 v1 = true ∧ (t1 != 0) = true) ∨ (rightB t1 v1 = true ∧ t1 = 0 ∧ 9000000000000 < v1) ∨ (rightB t1 v1 = true ∧ t1 = 0 ∧ ¬ 9000000000000 < v1 ∧ v1 < -9000000000000) ∨
      (rightB t1 v1 = true ∧ t1 = 0 ∧ ¬ 9000000000000 < v1 ∧ ¬ v1 < -9000000000000) := by
    cases hr : rightB t1 v1
    · exact .inl rfl
    · by_cases ht : t1 = 0
      · by_cases hg : 9000000000000 < v1
        · exact .inr (.inr (.inl ⟨rfl, ht, hg⟩))
        · by_cases hl : v1 < -9000000000000
          · exact .inr (.inr (.inr (.inl ⟨rfl, ht, hg, hl⟩)))
          · exact .inr (.inr (.inr (.inr ⟨rfl, ht, hg, hl⟩)))
      · exact .inr (.inl ⟨rfl, by simp [ht]⟩)
  generalize rightB t1 v1 = r1 at *
  unfold aggV at C5 ⊢
  have HM := Lib.hid hM
  clear hM
  have hns : 0 ≤ n ∨ n < 0 := by omega
  rcases hns with hs | hs
  all_goals
    rcases key with rfl | ⟨rfl, d1⟩ | ⟨rfl, rfl, hg⟩ | ⟨rfl, rfl, hg, hl⟩ | ⟨rfl, rfl, hg, hl⟩
  · have e3 := e2 hs
    clear e2
    go_enter Try.func11, Try.ntmps11
    go_wp2_with fail
    refine (C5 _).out.mono ?_
    rintro e w1 ⟨rfl, b1⟩
    obtain ⟨a0, a1, n0, ok⟩ := kept_one w _ _ 23 w1 b1
    go_wp2_with fail
    refine (works_any _).mono ?_
    rintro e w2 ⟨rfl, b2⟩
    go_wp2_with fail
    go_ret
    exact ⟨rfl, ok.trans (b2.mono ok.size)⟩
  · have e3 := e2 hs
    clear e2
    go_enter Try.func11, Try.ntmps11
    go_wp2_with fail
    refine (C5 _).out.mono ?_
    rintro e w1 ⟨rfl, b1⟩
    obtain ⟨a0, a1, n0, ok⟩ := kept_one w _ _ 23 w1 b1
    go_wp2_with fail
    refine (works_any _).mono ?_
    rintro e w2 ⟨rfl, b2⟩
    go_wp2_with fail
    go_ret
    exact ⟨rfl, ok.trans (b2.mono ok.size)⟩
  · have e3 := e2 hs
    clear e2
    go_enter Try.func11, Try.ntmps11
    go_wp2_with fail
    refine (C5 _).out.mono ?_
    rintro e w1 ⟨rfl, b1⟩
    obtain ⟨a0, a1, n0, ok⟩ := kept_one w _ _ 23 w1 b1
    go_wp2_with fail
    refine (works_any _).mono ?_
    rintro e w2 ⟨rfl, b2⟩
    go_wp2_with fail
    go_ret
    exact ⟨rfl, ok.trans (b2.mono ok.size)⟩
  · have e3 := e2 hs
    clear e2
    go_enter Try.func11, Try.ntmps11
    go_wp2_with fail
    refine (C5 _).out.mono ?_
    rintro e w1 ⟨rfl, b1⟩
    obtain ⟨a0, a1, n0, ok⟩ := kept_one w _ _ 23 w1 b1
    go_wp2_with fail
    refine (works_any _).mono ?_
    rintro e w2 ⟨rfl, b2⟩
    go_wp2_with fail
    go_ret
    exact ⟨rfl, ok.trans (b2.mono ok.size)⟩
  · have e3 := e2 hs
    clear e2
    have eI : intD M = .num (M * 1000000) := fitD_in _ ⟨by omega, by omega⟩
    have K1 := fun W => int_any M W (by omega)
    rw [eI] at K1
    have C1 : ∀ W, Hid (Calls Try.prog 35 #[.int .i64 M] W fun e w' => e = .returned (.agg #[.int .i64 0, .int .i64 (M * 1000000)]) ∧ Below W.heap.size W w') := fun W => Lib.hid (K1 W)
    have CA : ∀ a b : Int, (-9100000000000000000 ≤ a ∧ a ≤ 9100000000000000000) → (-9100000000000000000 ≤ b ∧ b ≤ 9100000000000000000) → (-9100000000000000000 ≤ a + b ∧ a + b ≤ 9100000000000000000) →
        ∀ W, Hid (Calls Try.prog 12 #[.agg #[.int .i64 0, .int .i64 a], .agg #[.int .i64 0, .int .i64 b]] W fun e w' => e = .returned (.agg #[.int .i64 0, .int .i64 (a + b)]) ∧ Below W.heap.size W w') := fun a b ha hb hab W => by
      have := add_any 0 a 0 b W (by omega) (by omega)
      rw [add_in a b ha hb hab] at this
      exact Lib.hid this
    have CF : ∀ a : Int, (-9100000000000000000 ≤ a ∧ a ≤ 9100000000000000000) → ∀ b, a / 1000000 * 1000000 = b → ∀ W, Hid (Calls Try.prog 31 #[.agg #[.int .i64 0, .int .i64 a]] W fun e w' => e = .returned (.agg #[.int .i64 0, .int .i64 b]) ∧ Below W.heap.size W w') := fun a ha b hb W => by
      have := floor_any 0 a W (by omega)
      rw [floor_in a ha, hb] at this
      exact Lib.hid this
    have CC : ∀ a : Int, (-9100000000000000000 ≤ a ∧ a ≤ 9100000000000000000) → ∀ b, -(-a / 1000000 * 1000000) = b → ∀ W, Hid (Calls Try.prog 32 #[.agg #[.int .i64 0, .int .i64 a]] W fun e w' => e = .returned (.agg #[.int .i64 0, .int .i64 b]) ∧ Below W.heap.size W w') := fun a ha b hb W => by
      have := ceil_any 0 a W (by omega)
      rw [ceil_in a ha, hb] at this
      exact Lib.hid this
    have CR : ∀ a : Int, (-9100000000000000000 ≤ a ∧ a ≤ 9100000000000000000) → ∀ b, (a + 500000) / 1000000 * 1000000 = b → ∀ W, Hid (Calls Try.prog 33 #[.agg #[.int .i64 0, .int .i64 a]] W fun e w' => e = .returned (.agg #[.int .i64 0, .int .i64 b]) ∧ Below W.heap.size W w') := fun a ha b hb W => by
      have := round_any 0 a W (by omega)
      rw [round_in a ha, hb] at this
      exact Lib.hid this
    obtain ⟨U, hU⟩ : ∃ U, U = M * 1000000 := ⟨_, rfl⟩
    obtain ⟨S, hS⟩ : ∃ S, S = v1 + U := ⟨_, rfl⟩
    obtain ⟨F, hF⟩ : ∃ F, F = v1 / 1000000 * 1000000 := ⟨_, rfl⟩
    obtain ⟨F2, hF2⟩ : ∃ F2, F2 = F + U := ⟨_, rfl⟩
    obtain ⟨G, hG⟩ : ∃ G, G = -(-v1 / 1000000 * 1000000) := ⟨_, rfl⟩
    obtain ⟨G2, hG2⟩ : ∃ G2, G2 = G + U := ⟨_, rfl⟩
    obtain ⟨R, hR⟩ : ∃ R, R = (v1 + 500000) / 1000000 * 1000000 := ⟨_, rfl⟩
    obtain ⟨R2, hR2⟩ : ∃ R2, R2 = R + U := ⟨_, rfl⟩
    have D1 := fun W => CA v1 U (by omega) (by omega) (by omega) W
    rw [← hU] at C1
    rw [← hS] at D1
    have D2 := fun W => CA F U (by omega) (by omega) (by omega) W
    rw [← hF2] at D2
    have D3 := fun W => CA G U (by omega) (by omega) (by omega) W
    rw [← hG2] at D3
    have D4 := fun W => CA R U (by omega) (by omega) (by omega) W
    rw [← hR2] at D4
    have F1 := fun W => CF v1 (by omega) F hF.symm W
    have F3 := fun W => CF S (by omega) F2 (by omega) W
    have G1 := fun W => CC v1 (by omega) G hG.symm W
    have G3 := fun W => CC S (by omega) G2 (by omega) W
    have R1 := fun W => CR v1 (by omega) R hR.symm W
    have R3 := fun W => CR S (by omega) R2 (by omega) W
    have CW := fun W => Lib.hid (works_any W)
    clear CA CF CC CR hU hS hF hF2 hG hG2 hR hR2 eI K1
    go_enter Try.func11, Try.ntmps11
    go_wp2_with fail
    refine (C5 _).out.mono ?_
    rintro e w1 ⟨rfl, b1⟩
    obtain ⟨a0, a1, n0, ok⟩ := kept_one w _ _ 23 w1 b1
    go_upto_region 4 with fail
    go_cut [6] (fun s6 wx => ∃ g : Nat, s6 = .pointer (some ⟨g, 0, none⟩) ∧ Hid (Duet w 0 v1 g 0 S wx))
    case first =>
      go_region_held3 (fun w' => w'.cell? ⟨w.heap.size, 0, none⟩ = some (.int .i64 0) ∧ w'.cell? ⟨w.heap.size, 1, none⟩ = some (.int .i64 v1))
        (first | exact ⟨e0, e1⟩ | exact ⟨c0, c1⟩ | exact ⟨a0, a1⟩ | (refine ⟨?_, ?_⟩ <;> go_simp))
        (first
          | (go_at_call 35; refine (C1 _).out.mono ?_; rintro e w2 ⟨rfl, b2⟩
             first
               | (have hc2 : Below w1.heap.size w1 w2 := kept_step (Below.refl _ _) b2 ⟨rfl, rfl, rfl, rfl⟩
                  obtain ⟨c0, c1, m2, hok2⟩ := Duet.on a0 a1 n0 ok hc2)
               | (obtain ⟨k0, k1, f0, f1, n2, hc2'⟩ := kept_new w1.drew _ _ _ w2 b2
                  have hc2 : Below w1.heap.size w1 w2 := kept_step (Below.refl _ _) hc2' ⟨rfl, rfl, rfl, rfl⟩
                  obtain ⟨c0, c1, m2, hok2⟩ := Duet.on a0 a1 n0 ok hc2))
          | (go_at_call 12; refine (D1 _).out.mono ?_; rintro e w3 ⟨rfl, b3⟩
             first
               | (have hc3 : Below w2.heap.size w2 w3 := kept_step (Below.refl _ _) b3 ⟨rfl, rfl, rfl, rfl⟩
                  obtain ⟨e0, e1, n3, hok3⟩ := Duet.on c0 c1 m2 hok2 hc3)
               | (obtain ⟨k0, k1, f0, f1, n3', hc3⟩ := kept_new w2 _ _ _ w3 b3
                  obtain ⟨e0, e1, n3, hok3⟩ := Duet.on c0 c1 m2 hok2 hc3)
             try (have k0' : w3.cell? ⟨w1.heap.size, 0, none⟩ = some (.int .i64 0) := (hc3.cell (p := ⟨w1.heap.size, 0, none⟩) n2).trans k0
                  have k1' : w3.cell? ⟨w1.heap.size, 1, none⟩ = some (.int .i64 0) := (hc3.cell (p := ⟨w1.heap.size, 1, none⟩) n2).trans k1
                  have f0' : w3.frozen? ⟨w1.heap.size, 0, none⟩ = false := (hc3.frozen (p := ⟨w1.heap.size, 0, none⟩) n2).trans f0
                  have f1' : w3.frozen? ⟨w1.heap.size, 1, none⟩ = false := (hc3.frozen (p := ⟨w1.heap.size, 1, none⟩) n2).trans f1)))
      all_goals
        go_wp2_with fail
        go_meet
        first
          | exact ⟨_, rfl, Lib.hid (Duet.mk1 e0 e1 n3 hok3 S)⟩
          | exact ⟨_, rfl, Lib.hid (Duet.mk2 e0 e1 n3 hok3 k0 k1 m2 n3' S)⟩
          | exact ⟨_, rfl, Lib.hid (Duet.mk2 e0 e1 n3 hok3 k0' k1' n0 (Nat.lt_of_lt_of_le n2 hc3.size) S)⟩
    case rest =>
      obtain ⟨g, rfl, D⟩ := hcut
      obtain ⟨a0, a1, s0, s1, m0, m2, hbw⟩ := D.out
      have A0 : ∀ q : KeptT wc, q.at.cell? ⟨w.heap.size, 0, none⟩ = some (.int .i64 0) := fun q => q.cell a0 m0
      have A1 : ∀ q : KeptT wc, q.at.cell? ⟨w.heap.size, 1, none⟩ = some (.int .i64 v1) := fun q => q.cell a1 m0
      have B0 : ∀ q : KeptT wc, q.at.cell? ⟨g, 0, none⟩ = some (.int .i64 0) := fun q => q.cell s0 m2
      have B1 : ∀ q : KeptT wc, q.at.cell? ⟨g, 1, none⟩ = some (.int .i64 S) := fun q => q.cell s1 m2
      have OK : Hid (∀ q : KeptT wc, Below w.heap.size w q.at) := Lib.hid (fun q => hbw.trans (q.ok.mono hbw.size))
      clear a0 a1 s0 s1 m0 m2 hbw D C5 D1 b1 ok n0
      haveI : Nonempty (KeptT wc) := ⟨⟨wc, Below.refl _ _⟩⟩
      go_wp2_with fail
      refine wp_region_kept (KeptT wc) KeptT.at (by kernel_rfl) (by kernel_rfl) ⟨⟨wc.drew, (Below.refl _ _).drew⟩, rfl⟩ ?_
      repeat (go_big_quiet_step (first
        | (go_at_call 31; rename_i q; with_reducible first | exact (F1 q.at).out.mono (fun e w' h => ⟨h.1, q.on h.2⟩) | exact (F3 q.at).out.mono (fun e w' h => ⟨h.1, q.on h.2⟩))
        | (go_at_call 32; rename_i q; with_reducible first | exact (G1 q.at).out.mono (fun e w' h => ⟨h.1, q.on h.2⟩) | exact (G3 q.at).out.mono (fun e w' h => ⟨h.1, q.on h.2⟩))
        | (go_at_call 33; rename_i q; with_reducible first | exact (R1 q.at).out.mono (fun e w' h => ⟨h.1, q.on h.2⟩) | exact (R3 q.at).out.mono (fun e w' h => ⟨h.1, q.on h.2⟩))
        | (go_at_call 12; rename_i q; with_reducible first | exact (D2 q.at).out.mono (fun e w' h => ⟨h.1, q.on h.2⟩) | exact (D3 q.at).out.mono (fun e w' h => ⟨h.1, q.on h.2⟩) | exact (D4 q.at).out.mono (fun e w' h => ⟨h.1, q.on h.2⟩))
        | (go_at_call 35; rename_i q; with_reducible exact (C1 q.at).out.mono (fun e w' h => ⟨h.1, q.on h.2⟩))
        | (go_at_call 19; rename_i q; with_reducible exact (CW q.at).out.mono (fun e w' h => ⟨h.1, q.on h.2⟩))))
      refine wpQuiet_nil ?_
      rintro w' ⟨q, rfl⟩
      go_wp2_with fail
      go_ret
      exact ⟨rfl, OK.out q⟩
  · clear e2
    go_enter Try.func11, Try.ntmps11
    go_wp2_with fail
    refine (C5 _).out.mono ?_
    rintro e w1 ⟨rfl, b1⟩
    obtain ⟨a0, a1, n0, ok⟩ := kept_one w _ _ 23 w1 b1
    go_wp2_with fail
    refine (works_any _).mono ?_
    rintro e w2 ⟨rfl, b2⟩
    go_wp2_with fail
    go_ret
    exact ⟨rfl, ok.trans (b2.mono ok.size)⟩
  · clear e2
    go_enter Try.func11, Try.ntmps11
    go_wp2_with fail
    refine (C5 _).out.mono ?_
    rintro e w1 ⟨rfl, b1⟩
    obtain ⟨a0, a1, n0, ok⟩ := kept_one w _ _ 23 w1 b1
    go_wp2_with fail
    refine (works_any _).mono ?_
    rintro e w2 ⟨rfl, b2⟩
    go_wp2_with fail
    go_ret
    exact ⟨rfl, ok.trans (b2.mono ok.size)⟩
  · clear e2
    go_enter Try.func11, Try.ntmps11
    go_wp2_with fail
    refine (C5 _).out.mono ?_
    rintro e w1 ⟨rfl, b1⟩
    obtain ⟨a0, a1, n0, ok⟩ := kept_one w _ _ 23 w1 b1
    go_wp2_with fail
    refine (works_any _).mono ?_
    rintro e w2 ⟨rfl, b2⟩
    go_wp2_with fail
    go_ret
    exact ⟨rfl, ok.trans (b2.mono ok.size)⟩
  · clear e2
    go_enter Try.func11, Try.ntmps11
    go_wp2_with fail
    refine (C5 _).out.mono ?_
    rintro e w1 ⟨rfl, b1⟩
    obtain ⟨a0, a1, n0, ok⟩ := kept_one w _ _ 23 w1 b1
    go_wp2_with fail
    refine (works_any _).mono ?_
    rintro e w2 ⟨rfl, b2⟩
    go_wp2_with fail
    go_ret
    exact ⟨rfl, ok.trans (b2.mono ok.size)⟩
  · clear e2
    have eI : intD M = .num (M * 1000000) := fitD_in _ ⟨by omega, by omega⟩
    have K1 := fun W => int_any M W (by omega)
    rw [eI] at K1
    have C1 : ∀ W, Hid (Calls Try.prog 35 #[.int .i64 M] W fun e w' => e = .returned (.agg #[.int .i64 0, .int .i64 (M * 1000000)]) ∧ Below W.heap.size W w') := fun W => Lib.hid (K1 W)
    have CA : ∀ a b : Int, (-9100000000000000000 ≤ a ∧ a ≤ 9100000000000000000) → (-9100000000000000000 ≤ b ∧ b ≤ 9100000000000000000) → (-9100000000000000000 ≤ a + b ∧ a + b ≤ 9100000000000000000) →
        ∀ W, Hid (Calls Try.prog 12 #[.agg #[.int .i64 0, .int .i64 a], .agg #[.int .i64 0, .int .i64 b]] W fun e w' => e = .returned (.agg #[.int .i64 0, .int .i64 (a + b)]) ∧ Below W.heap.size W w') := fun a b ha hb hab W => by
      have := add_any 0 a 0 b W (by omega) (by omega)
      rw [add_in a b ha hb hab] at this
      exact Lib.hid this
    have CF : ∀ a : Int, (-9100000000000000000 ≤ a ∧ a ≤ 9100000000000000000) → ∀ b, a / 1000000 * 1000000 = b → ∀ W, Hid (Calls Try.prog 31 #[.agg #[.int .i64 0, .int .i64 a]] W fun e w' => e = .returned (.agg #[.int .i64 0, .int .i64 b]) ∧ Below W.heap.size W w') := fun a ha b hb W => by
      have := floor_any 0 a W (by omega)
      rw [floor_in a ha, hb] at this
      exact Lib.hid this
    have CC : ∀ a : Int, (-9100000000000000000 ≤ a ∧ a ≤ 9100000000000000000) → ∀ b, -(-a / 1000000 * 1000000) = b → ∀ W, Hid (Calls Try.prog 32 #[.agg #[.int .i64 0, .int .i64 a]] W fun e w' => e = .returned (.agg #[.int .i64 0, .int .i64 b]) ∧ Below W.heap.size W w') := fun a ha b hb W => by
      have := ceil_any 0 a W (by omega)
      rw [ceil_in a ha, hb] at this
      exact Lib.hid this
    have CR : ∀ a : Int, (-9100000000000000000 ≤ a ∧ a ≤ 9100000000000000000) → ∀ b, (a + 500000) / 1000000 * 1000000 = b → ∀ W, Hid (Calls Try.prog 33 #[.agg #[.int .i64 0, .int .i64 a]] W fun e w' => e = .returned (.agg #[.int .i64 0, .int .i64 b]) ∧ Below W.heap.size W w') := fun a ha b hb W => by
      have := round_any 0 a W (by omega)
      rw [round_in a ha, hb] at this
      exact Lib.hid this
    obtain ⟨U, hU⟩ : ∃ U, U = M * 1000000 := ⟨_, rfl⟩
    obtain ⟨S, hS⟩ : ∃ S, S = v1 + U := ⟨_, rfl⟩
    obtain ⟨F, hF⟩ : ∃ F, F = v1 / 1000000 * 1000000 := ⟨_, rfl⟩
    obtain ⟨F2, hF2⟩ : ∃ F2, F2 = F + U := ⟨_, rfl⟩
    obtain ⟨G, hG⟩ : ∃ G, G = -(-v1 / 1000000 * 1000000) := ⟨_, rfl⟩
    obtain ⟨G2, hG2⟩ : ∃ G2, G2 = G + U := ⟨_, rfl⟩
    obtain ⟨R, hR⟩ : ∃ R, R = (v1 + 500000) / 1000000 * 1000000 := ⟨_, rfl⟩
    obtain ⟨R2, hR2⟩ : ∃ R2, R2 = R + U := ⟨_, rfl⟩
    have D1 := fun W => CA v1 U (by omega) (by omega) (by omega) W
    rw [← hU] at C1
    rw [← hS] at D1
    have D2 := fun W => CA F U (by omega) (by omega) (by omega) W
    rw [← hF2] at D2
    have D3 := fun W => CA G U (by omega) (by omega) (by omega) W
    rw [← hG2] at D3
    have D4 := fun W => CA R U (by omega) (by omega) (by omega) W
    rw [← hR2] at D4
    have F1 := fun W => CF v1 (by omega) F hF.symm W
    have F3 := fun W => CF S (by omega) F2 (by omega) W
    have G1 := fun W => CC v1 (by omega) G hG.symm W
    have G3 := fun W => CC S (by omega) G2 (by omega) W
    have R1 := fun W => CR v1 (by omega) R hR.symm W
    have R3 := fun W => CR S (by omega) R2 (by omega) W
    have CW := fun W => Lib.hid (works_any W)
    clear CA CF CC CR hU hS hF hF2 hG hG2 hR hR2 eI K1
    go_enter Try.func11, Try.ntmps11
    go_wp2_with fail
    refine (C5 _).out.mono ?_
    rintro e w1 ⟨rfl, b1⟩
    obtain ⟨a0, a1, n0, ok⟩ := kept_one w _ _ 23 w1 b1
    go_upto_region 4 with fail
    go_cut [6] (fun s6 wx => ∃ g : Nat, s6 = .pointer (some ⟨g, 0, none⟩) ∧ Hid (Duet w 0 v1 g 0 S wx))
    case first =>
      go_region_held3 (fun w' => w'.cell? ⟨w.heap.size, 0, none⟩ = some (.int .i64 0) ∧ w'.cell? ⟨w.heap.size, 1, none⟩ = some (.int .i64 v1))
        (first | exact ⟨e0, e1⟩ | exact ⟨c0, c1⟩ | exact ⟨a0, a1⟩ | (refine ⟨?_, ?_⟩ <;> go_simp))
        (first
          | (go_at_call 35; refine (C1 _).out.mono ?_; rintro e w2 ⟨rfl, b2⟩
             first
               | (have hc2 : Below w1.heap.size w1 w2 := kept_step (Below.refl _ _) b2 ⟨rfl, rfl, rfl, rfl⟩
                  obtain ⟨c0, c1, m2, hok2⟩ := Duet.on a0 a1 n0 ok hc2)
               | (obtain ⟨k0, k1, f0, f1, n2, hc2'⟩ := kept_new w1.drew _ _ _ w2 b2
                  have hc2 : Below w1.heap.size w1 w2 := kept_step (Below.refl _ _) hc2' ⟨rfl, rfl, rfl, rfl⟩
                  obtain ⟨c0, c1, m2, hok2⟩ := Duet.on a0 a1 n0 ok hc2))
          | (go_at_call 12; refine (D1 _).out.mono ?_; rintro e w3 ⟨rfl, b3⟩
             first
               | (have hc3 : Below w2.heap.size w2 w3 := kept_step (Below.refl _ _) b3 ⟨rfl, rfl, rfl, rfl⟩
                  obtain ⟨e0, e1, n3, hok3⟩ := Duet.on c0 c1 m2 hok2 hc3)
               | (obtain ⟨k0, k1, f0, f1, n3', hc3⟩ := kept_new w2 _ _ _ w3 b3
                  obtain ⟨e0, e1, n3, hok3⟩ := Duet.on c0 c1 m2 hok2 hc3)
             try (have k0' : w3.cell? ⟨w1.heap.size, 0, none⟩ = some (.int .i64 0) := (hc3.cell (p := ⟨w1.heap.size, 0, none⟩) n2).trans k0
                  have k1' : w3.cell? ⟨w1.heap.size, 1, none⟩ = some (.int .i64 0) := (hc3.cell (p := ⟨w1.heap.size, 1, none⟩) n2).trans k1
                  have f0' : w3.frozen? ⟨w1.heap.size, 0, none⟩ = false := (hc3.frozen (p := ⟨w1.heap.size, 0, none⟩) n2).trans f0
                  have f1' : w3.frozen? ⟨w1.heap.size, 1, none⟩ = false := (hc3.frozen (p := ⟨w1.heap.size, 1, none⟩) n2).trans f1)))
      all_goals
        go_wp2_with fail
        go_meet
        first
          | exact ⟨_, rfl, Lib.hid (Duet.mk1 e0 e1 n3 hok3 S)⟩
          | exact ⟨_, rfl, Lib.hid (Duet.mk2 e0 e1 n3 hok3 k0 k1 m2 n3' S)⟩
          | exact ⟨_, rfl, Lib.hid (Duet.mk2 e0 e1 n3 hok3 k0' k1' n0 (Nat.lt_of_lt_of_le n2 hc3.size) S)⟩
    case rest =>
      obtain ⟨g, rfl, D⟩ := hcut
      obtain ⟨a0, a1, s0, s1, m0, m2, hbw⟩ := D.out
      have A0 : ∀ q : KeptT wc, q.at.cell? ⟨w.heap.size, 0, none⟩ = some (.int .i64 0) := fun q => q.cell a0 m0
      have A1 : ∀ q : KeptT wc, q.at.cell? ⟨w.heap.size, 1, none⟩ = some (.int .i64 v1) := fun q => q.cell a1 m0
      have B0 : ∀ q : KeptT wc, q.at.cell? ⟨g, 0, none⟩ = some (.int .i64 0) := fun q => q.cell s0 m2
      have B1 : ∀ q : KeptT wc, q.at.cell? ⟨g, 1, none⟩ = some (.int .i64 S) := fun q => q.cell s1 m2
      have OK : Hid (∀ q : KeptT wc, Below w.heap.size w q.at) := Lib.hid (fun q => hbw.trans (q.ok.mono hbw.size))
      clear a0 a1 s0 s1 m0 m2 hbw D C5 D1 b1 ok n0
      haveI : Nonempty (KeptT wc) := ⟨⟨wc, Below.refl _ _⟩⟩
      go_wp2_with fail
      refine wp_region_kept (KeptT wc) KeptT.at (by kernel_rfl) (by kernel_rfl) ⟨⟨wc.drew, (Below.refl _ _).drew⟩, rfl⟩ ?_
      repeat (go_big_quiet_step (first
        | (go_at_call 31; rename_i q; with_reducible first | exact (F1 q.at).out.mono (fun e w' h => ⟨h.1, q.on h.2⟩) | exact (F3 q.at).out.mono (fun e w' h => ⟨h.1, q.on h.2⟩))
        | (go_at_call 32; rename_i q; with_reducible first | exact (G1 q.at).out.mono (fun e w' h => ⟨h.1, q.on h.2⟩) | exact (G3 q.at).out.mono (fun e w' h => ⟨h.1, q.on h.2⟩))
        | (go_at_call 33; rename_i q; with_reducible first | exact (R1 q.at).out.mono (fun e w' h => ⟨h.1, q.on h.2⟩) | exact (R3 q.at).out.mono (fun e w' h => ⟨h.1, q.on h.2⟩))
        | (go_at_call 12; rename_i q; with_reducible first | exact (D2 q.at).out.mono (fun e w' h => ⟨h.1, q.on h.2⟩) | exact (D3 q.at).out.mono (fun e w' h => ⟨h.1, q.on h.2⟩) | exact (D4 q.at).out.mono (fun e w' h => ⟨h.1, q.on h.2⟩))
        | (go_at_call 35; rename_i q; with_reducible exact (C1 q.at).out.mono (fun e w' h => ⟨h.1, q.on h.2⟩))
        | (go_at_call 19; rename_i q; with_reducible exact (CW q.at).out.mono (fun e w' h => ⟨h.1, q.on h.2⟩))))
      refine wpQuiet_nil ?_
      rintro w' ⟨q, rfl⟩
      go_wp2_with fail
      go_ret
      exact ⟨rfl, OK.out q⟩
end Go.Proofs.Ytncmmdhlponpoaa.Char
