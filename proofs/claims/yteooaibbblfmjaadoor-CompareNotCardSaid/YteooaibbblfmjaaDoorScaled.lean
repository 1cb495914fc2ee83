/- The walk of package dec's scaled: a product by a number, cut once. -/
import Derived.Test.YteooaibbblfmjaaDoorSize
import Derived.Test.YteooaibbblfmjaaDoorDiv64
namespace Go.Proofs.YteooaibbblfmjaaDoor.Char
open Go.RowKit

theorem scaled_math (v u d : Int) : sizedD (v.natAbs * u.natAbs / d.natAbs) ((decide (v < 0) != decide (u < 0)) != decide (d < 0)) = fitD ((v * u).tdiv d) := by
  unfold sizedD
  congr 1
  have split : ∀ x : Int, (decide (x < 0) = true ∧ x = -(x.natAbs : Int)) ∨ (decide (x < 0) = false ∧ x = (x.natAbs : Int)) := fun x => by
    by_cases h : x < 0
    · exact .inl ⟨decide_eq_true h, by omega⟩
    · exact .inr ⟨decide_eq_false h, by omega⟩
  have key : ∀ a b c : Nat, ((a : Int) * (b : Int)).tdiv (c : Int) = ((a * b / c : Nat) : Int) := fun a b c => by
    rw [← Int.natCast_mul]
    exact Int.ofNat_tdiv _ _ |>.symm
  have hv := split v
  have hu := split u
  have hd := split d
  generalize v.natAbs = a at *
  generalize u.natAbs = b at *
  generalize d.natAbs = c at *
  rcases hv with ⟨ev, hv⟩ | ⟨ev, hv⟩ <;> rcases hu with ⟨eu, hu⟩ | ⟨eu, hu⟩ <;> rcases hd with ⟨ed, hd⟩ | ⟨ed, hd⟩ <;> rw [ev, eu, ed, hv, hu, hd] <;>
    simp only [Int.neg_mul, Int.mul_neg, Int.neg_tdiv, Int.tdiv_neg, Int.neg_neg, key] <;> rfl

theorem sizedD_great (n m : Nat) (S : Bool) (hn : 9223372036854775807 < n) (hm : 9223372036854775807 < m) : sizedD n S = sizedD m S := by
  cases S
  · show fitD (n : Int) = fitD (m : Int)
    unfold fitD
    rw [if_pos (by omega), if_pos (by omega)]
  · show fitD (-(n : Int)) = fitD (-(m : Int))
    unfold fitD
    rw [if_neg (by omega), if_pos (by omega), if_neg (by omega), if_pos (by omega)]
theorem div64_any (hi lo y : Nat) (w : World) (hh : hi < y) (hlo : lo < 18446744073709551616) (hy2 : y < 18446744073709551616) :
    Calls Tryd.prog 49 #[.int .u64 (hi : Int), .int .u64 (lo : Int), .int .u64 (y : Int)] w (DivPost w ((hi * 18446744073709551616 + lo) / y)) := by
  rcases Nat.eq_zero_or_pos hi with rfl | h0
  · have := div64_low lo y w hh hlo hy2
    rw [Nat.zero_mul, Nat.zero_add]
    exact this
  · exact div64_high hi lo y w hh h0 hlo hy2
theorem bool_side (a b c : Bool) : (!((!(a == b)) == c)) = ((a != b) != c) := by cases a <;> cases b <;> cases c <;> rfl

set_option maxRecDepth 100000 in
set_option maxHeartbeats 4000000 in
theorem scaled_any (v u d : Int) (w : World) (hv : -9223372036854775808 ≤ v ∧ v ≤ 9223372036854775807) (hu : -9223372036854775808 ≤ u ∧ u ≤ 9223372036854775807) (hd : -9223372036854775808 ≤ d ∧ d ≤ 9223372036854775807) (h0 : d ≠ 0) :
    Calls Tryd.prog 31 #[.int .i64 v, .int .i64 u, .int .i64 d] w fun e w' => e = .returned (decV (fitD ((v * u).tdiv d))) ∧ Below w.heap.size w w' := by
  have hm := scaled_math v u d
  have CV := fun W => Lib.hid (size_any v W (by omega) (by omega))
  have CU := fun W => Lib.hid (size_any u W (by omega) (by omega))
  have CD := fun W => Lib.hid (size_any d W (by omega) (by omega))
  have hva : v.natAbs ≤ 9223372036854775808 := by omega
  have hua : u.natAbs ≤ 9223372036854775808 := by omega
  have hda : d.natAbs ≤ 9223372036854775808 := by omega
  have hd0 : 0 < d.natAbs := by omega
  generalize v.natAbs = a at *
  generalize u.natAbs = b at *
  generalize d.natAbs = c at *
  generalize fitD ((v * u).tdiv d) = X at *
  obtain ⟨S, hS⟩ : ∃ S, S = ((decide (v < 0) != decide (u < 0)) != decide (d < 0)) := ⟨_, rfl⟩
  rw [← hS] at hm
  have hab : a * b < 18446744073709551616 * 18446744073709551616 := by
    have := Nat.mul_le_mul hva hua
    omega
  have CM := fun W => Lib.hid (mul64_any a b W (by omega) (by omega))
  obtain ⟨H, hH⟩ : ∃ H, H = a * b / 18446744073709551616 := ⟨_, rfl⟩
  obtain ⟨L, hL⟩ : ∃ L, L = a * b % 18446744073709551616 := ⟨_, rfl⟩
  rw [← hH, ← hL] at CM
  have HM := Lib.hid hm
  have HS : Hid ((!((!(decide (v < 0) == decide (u < 0))) == decide (d < 0))) = S) := Lib.hid (by rw [hS, bool_side])
  have hLb : L < 18446744073709551616 := by rw [hL]; exact Nat.mod_lt _ (by omega)
  have hHL : H * 18446744073709551616 + L = a * b := by rw [hH, hL, Nat.mul_comm]; exact Nat.div_add_mod _ _
  have HHL := Lib.hid hHL
  have hHb : H < 18446744073709551616 := by omega
  clear hm hS hv hu hd h0 hH hL hHL hab
  go_enter Tryd.func31, Tryd.ntmps31
  go_wp2_with fail
  refine (CV _).out.mono ?_
  rintro e w1 ⟨rfl, rfl⟩
  go_wp2_with fail
  refine (CU _).out.mono ?_
  rintro e w1 ⟨rfl, rfl⟩
  go_wp2_with fail
  refine (CM _).out.mono ?_
  rintro e w1 ⟨rfl, rfl⟩
  go_wp2_with fail
  refine (CD _).out.mono ?_
  rintro e w1 ⟨rfl, rfl⟩
  by_cases hc : c ≤ H
  · have hX : sizedD 18446744073709551615 S = X := by
      rw [← HM.out]
      refine sizedD_great _ _ S (by omega) ?_
      have h1 : 18446744073709551616 ≤ a * b / c := by
        rw [Nat.le_div_iff_mul_le hd0, ← HHL.out]
        have := Nat.mul_le_mul_right 18446744073709551616 hc
        omega
      omega
    have CS : ∀ (b' : Bool) W, b' = S → Calls Tryd.prog 48 #[.int .u64 (18446744073709551615 : Int), .bool b'] W fun e w' => e = .returned (decV X) ∧ Below W.heap.size W w' := fun b' W hb => by
      subst hb
      rw [← hX]
      exact sized_any 18446744073709551615 b' W (by omega)
    have CSH := Lib.hid CS
    have hci : (c : Int) ≤ (H : Int) := by omega
    clear hX CS hc
    go_wp2_with fail
    refine (CSH.out _ _ HS.out).mono ?_
    rintro e w1 ⟨rfl, h1⟩
    obtain ⟨k0, k1, f0, f1, hs1, hbb⟩ := kept_new w _ _ 24 w1 h1
    unfold decV
    go_wp2_with fail
    exact end_dec rfl w1 w.heap.size _ _ k0 k1 rfl rfl ⟨rfl, (hbb.setCell (Nat.le_refl _) _).setCell (Nat.le_refl _) _⟩
  · have hci : (H : Int) < (c : Int) := by omega
    have CQ := fun W => div64_any H L c W (by omega) hLb (by omega)
    rw [HHL.out] at CQ
    have hqb : a * b / c < 18446744073709551616 := by
      rw [Nat.div_lt_iff_lt_mul hd0, ← HHL.out]
      have := Nat.mul_le_mul_left 18446744073709551616 (show H + 1 ≤ c by omega)
      omega
    generalize a * b / c = q at *
    have CS : ∀ (b' : Bool) W, b' = S → Calls Tryd.prog 48 #[.int .u64 (q : Int), .bool b'] W fun e w' => e = .returned (decV X) ∧ Below W.heap.size W w' := fun b' W hb => by
      subst hb
      rw [← HM.out]
      exact sized_any q b' W (by omega)
    have CSH := Lib.hid CS
    have CQH := Lib.hid CQ
    clear CQ CS hc hqb
    go_wp2_with fail
    refine (CD _).out.mono ?_
    rintro e w1 ⟨rfl, rfl⟩
    go_wp2_with fail
    refine (CQH.out _).mono ?_
    rintro e w1 ⟨r, rfl, hb1⟩
    go_wp2_with fail
    refine (CSH.out _ _ HS.out).mono ?_
    rintro e w2 ⟨rfl, hb2⟩
    obtain ⟨k0, k1, f0, f1, hs1, hbb⟩ := kept_new w _ _ 24 w2 (hb1.trans (hb2.mono hb1.size))
    unfold decV
    go_wp2_with fail
    exact end_dec rfl w2 w.heap.size _ _ k0 k1 rfl rfl ⟨rfl, (hbb.setCell (Nat.le_refl _) _).setCell (Nat.le_refl _) _⟩
end Go.Proofs.YteooaibbblfmjaaDoor.Char
