/- The walks of the document's own Cmp, Whole for numbers in millionths. -/
import Derived.Test.YtncmmdhlponpoaaRefAdd
namespace Go.Proofs.Ytncmmdhlponpoaa.Char
open Go.RowKit

theorem wholeD_not (t v : Int) (h : nanB (toD t v) = true ∨ t ≠ 0) : wholeD (toD t v) = (0, false) := by
  rcases toD_cases t v with ⟨h1, _, e, _⟩ | ⟨_, _, e, _⟩ | ⟨_, _, e, _⟩ | ⟨_, _, e, _⟩ | ⟨_, _, _, _, e, _⟩ <;> rw [e] at h ⊢
  · rcases h with h | h
    · cases h
    · exact absurd h1 h
  all_goals rfl
theorem tmod_zero (v : Int) : v.tmod 1000000 = 0 ↔ v % 1000000 = 0 := by
  constructor
  · intro h
    have := Int.dvd_of_tmod_eq_zero h
    omega
  · intro h
    exact Int.tmod_eq_zero_of_dvd (by omega)

set_option maxRecDepth 100000 in
set_option maxHeartbeats 4000000 in
theorem refWhole_any (t v : Int) (w : World) (h : -9223372036854775808 ≤ v ∧ v ≤ 9223372036854775807) :
    Calls Try.prog 30 #[aggV t v] w fun e w' => e = .returned (.tuple #[.int .i64 (wholeD (toD t v)).1, .bool (wholeD (toD t v)).2]) ∧ Below w.heap.size w w' := by
  have CN := fun W => none_any t v t v W
  rw [Bool.or_self] at CN
  by_cases hn : nanB (toD t v) = true
  · rw [wholeD_not t v (.inl hn)]
    rw [hn] at CN
    have C1 := fun W => Lib.hid (CN W)
    unfold aggV at C1 ⊢
    clear CN hn h
    go_enter Try.func30, Try.ntmps30
    go_wp2_with fail
    refine (C1 _).out.mono ?_
    rintro e w1 ⟨rfl, h1⟩
    obtain ⟨a0, a1, hs1, hb1⟩ := kept_one w _ _ 23 w1 h1
    go_wp2_with fail
    go_ret2
    exact ⟨rfl, hb1⟩
  · have hna : nanB (toD t v) = false := by simpa using hn
    rw [hna] at CN
    have C1 := fun W => Lib.hid (CN W)
    by_cases ht : t = 0
    · have e1 : toD t v = .num v := by
        rcases toD_cases t v with ⟨_, _, e, _⟩ | ⟨h1, _⟩ | ⟨h1, _⟩ | ⟨h1, _⟩ | ⟨_, _, _, _, e, _⟩
        · exact e
        · omega
        · omega
        · omega
        · rw [e] at hna; cases hna
      rw [e1]
      subst ht
      have htm := tmod_zero v
      have hde := div_exact v
      by_cases hp : v % 1000000 = 0
      · have hw : wholeD (.num v) = (v / 1000000, true) := by show (if v % 1000000 = 0 then _ else _) = _; rw [if_pos hp]
        have hd := hde hp
        rw [hw]
        show Calls _ _ _ _ fun e w' => e = .returned (.tuple #[.int .i64 (v / 1000000), .bool true]) ∧ _
        have hz := htm.2 hp
        have hzb : (v.tmod 1000000 != 0) = false := by simp [hz]
        have hpb : (v % 1000000 != 0) = false := by simp [hp]
        have fin : ∀ X, (X = v.tdiv 1000000 ∨ X = v / 1000000) → X = v / 1000000 := fun X hX => by rcases hX with hX | hX; rw [hX, hd]; exact hX
        have FIN := Lib.hid fin
        unfold aggV at C1 ⊢
        clear CN hn hna e1 htm hde hp hw hd hz fin
        by_cases hv : 0 ≤ v
        · go_enter Try.func30, Try.ntmps30
          go_wp2_with fail
          refine (C1 _).out.mono ?_
          rintro e w1 ⟨rfl, h1⟩
          obtain ⟨a0, a1, hs1, hb1⟩ := kept_one w _ _ 23 w1 h1
          go_wp2_with fail
          go_ret2
          exact ⟨ret_ib (FIN.out _ (by first | exact .inl rfl | exact .inr rfl)) rfl, hb1⟩
        · have hwr : IntKind.i64.wrap (v.tdiv 1000000) = v.tdiv 1000000 := by
            have : v.tdiv 1000000 = -((-v) / 1000000) := by
              rw [← Int.neg_neg v, Int.neg_tdiv, Int.tdiv_eq_ediv_of_nonneg (by omega), Int.neg_neg]
            rw [this]
            exact IntWalk.i64_in _ (by omega)
          go_enter Try.func30, Try.ntmps30
          go_wp2_with fail
          refine (C1 _).out.mono ?_
          rintro e w1 ⟨rfl, h1⟩
          obtain ⟨a0, a1, hs1, hb1⟩ := kept_one w _ _ 23 w1 h1
          go_wp2_with fail
          go_ret2
          exact ⟨ret_ib (FIN.out _ (by first | exact .inl rfl | exact .inr rfl)) rfl, hb1⟩
      · have hw : wholeD (.num v) = (0, false) := by show (if v % 1000000 = 0 then _ else _) = _; rw [if_neg hp]
        rw [hw]
        have hzb : (v.tmod 1000000 != 0) = true := by simpa using fun hz => hp (htm.1 hz)
        have hpb : (v % 1000000 != 0) = true := by simpa using hp
        unfold aggV at C1 ⊢
        clear CN hn hna e1 htm hde hp hw h
        by_cases hv : 0 ≤ v
        all_goals
          go_enter Try.func30, Try.ntmps30
          go_wp2_with fail
          refine (C1 _).out.mono ?_
          rintro e w1 ⟨rfl, h1⟩
          obtain ⟨a0, a1, hs1, hb1⟩ := kept_one w _ _ 23 w1 h1
          go_wp2_with fail
          go_ret2
          exact ⟨rfl, hb1⟩
    · rw [wholeD_not t v (.inr ht)]
      have d1 : (t != 0) = true := by simp [ht]
      unfold aggV at C1 ⊢
      clear CN hn hna h ht
      go_enter Try.func30, Try.ntmps30
      go_wp2_with fail
      refine (C1 _).out.mono ?_
      rintro e w1 ⟨rfl, h1⟩
      obtain ⟨a0, a1, hs1, hb1⟩ := kept_one w _ _ 23 w1 h1
      go_wp2_with fail
      go_ret2
      exact ⟨rfl, hb1⟩

theorem cmpD_nan : ∀ x y, (nanB x || nanB y) = true → cmpD x y = (0, false) := fun x y h => by cases x <;> cases y <;> first | rfl | cases h

set_option maxRecDepth 100000 in
set_option maxHeartbeats 8000000 in
theorem refCmp_any (t1 v1 t2 v2 : Int) (w : World) :
    Calls Try.prog 27 #[aggV t1 v1, aggV t2 v2] w fun e w' => e = .returned (.tuple #[.int .i64 (cmpD (toD t1 v1) (toD t2 v2)).1, .bool (cmpD (toD t1 v1) (toD t2 v2)).2]) ∧ Below w.heap.size w w' := by
  have CN := fun W => none_any t1 v1 t2 v2 W
  by_cases hn : (nanB (toD t1 v1) || nanB (toD t2 v2)) = true
  · rw [cmpD_nan _ _ hn]
    rw [hn] at CN
    have C1 := fun W => Lib.hid (CN W)
    unfold aggV at C1 ⊢
    clear CN hn
    go_enter Try.func27, Try.ntmps27
    go_wp2_with fail
    refine (C1 _).out.mono ?_
    rintro e w1 ⟨rfl, h1⟩
    obtain ⟨a0, a1, b0, b1, _, _, hs1, hb1⟩ := kept_two w _ _ _ _ 23 23 w1 h1
    go_wp2_with fail
    go_ret2
    exact ⟨rfl, hb1⟩
  · have hn2 : (nanB (toD t1 v1) || nanB (toD t2 v2)) = false := by simpa using hn
    rw [hn2] at CN
    have C1 := fun W => Lib.hid (CN W)
    unfold aggV at C1 ⊢
    clear CN hn
    rcases toD_cases t1 v1 with ⟨rfl, _, e1, _⟩ | ⟨rfl, rfl, e1, _⟩ | ⟨rfl, rfl, e1, _⟩ | ⟨_, _, e1, _⟩ | ⟨_, _, _, _, e1, _⟩ <;>
      rcases toD_cases t2 v2 with ⟨rfl, _, e2, _⟩ | ⟨rfl, rfl, e2, _⟩ | ⟨rfl, rfl, e2, _⟩ | ⟨_, _, e2, _⟩ | ⟨_, _, _, _, e2, _⟩ <;>
      simp only [e1, e2] at hn2 ⊢ <;>
      first
        | (cases (hn2 : true = false); done)
        | skip
    · rw [cmp_num]
      rcases Int.lt_trichotomy v1 v2 with hl | rfl | hl
      · have hvb : (v1 == v2) = false := by rw [beq_eq_false_iff_ne]; omega
        rw [if_neg (by omega), if_pos hl]
        clear e1 e2 hn2
        go_enter Try.func27, Try.ntmps27
        go_wp2_with fail
        refine (C1 _).out.mono ?_
        rintro e w1 ⟨rfl, h1⟩
        obtain ⟨a0, a1, b0, b1, _, _, hs1, hb1⟩ := kept_two w _ _ _ _ 23 23 w1 h1
        have hs0 : w.heap.size < w1.heap.size := by omega
        go_wp2_with fail
        go_ret2
        exact ⟨rfl, (hb1.alloc hb1.size _).alloc (by simp; omega) _⟩
      · rw [if_pos rfl]
        clear e1 e2 hn2
        go_enter Try.func27, Try.ntmps27
        go_wp2_with fail
        refine (C1 _).out.mono ?_
        rintro e w1 ⟨rfl, h1⟩
        obtain ⟨a0, a1, b0, b1, _, _, hs1, hb1⟩ := kept_two w _ _ _ _ 23 23 w1 h1
        have hs0 : w.heap.size < w1.heap.size := by omega
        go_wp2_with fail
        go_ret2
        exact ⟨rfl, hb1⟩
      · have hvb : (v1 == v2) = false := by rw [beq_eq_false_iff_ne]; omega
        rw [if_neg (by omega), if_neg (by omega)]
        clear e1 e2 hn2
        go_enter Try.func27, Try.ntmps27
        go_wp2_with fail
        refine (C1 _).out.mono ?_
        rintro e w1 ⟨rfl, h1⟩
        obtain ⟨a0, a1, b0, b1, _, _, hs1, hb1⟩ := kept_two w _ _ _ _ 23 23 w1 h1
        have hs0 : w.heap.size < w1.heap.size := by omega
        go_wp2_with fail
        go_ret2
        exact ⟨rfl, (hb1.alloc hb1.size _).alloc (by simp; omega) _⟩
    all_goals
      clear e1 e2 hn2
      go_enter Try.func27, Try.ntmps27
      go_wp2_with fail
      refine (C1 _).out.mono ?_
      rintro e w1 ⟨rfl, h1⟩
      obtain ⟨a0, a1, b0, b1, _, _, hs1, hb1⟩ := kept_two w _ _ _ _ 23 23 w1 h1
      have hs0 : w.heap.size < w1.heap.size := by omega
      go_wp2_with fail
      go_ret2
      exact ⟨rfl, (by first | exact hb1 | exact (hb1.alloc hb1.size _).alloc (by simp; omega) _)⟩
end Go.Proofs.Ytncmmdhlponpoaa.Char
