/- The walks of package dec's Whole, Cmp. -/
import Derived.Test.YtncmmdhlponpoaaFloor
namespace Go.Proofs.Ytncmmdhlponpoaa.Char
open Go.RowKit

theorem ret_ib {a c : Int} {b d : Bool} (h : a = c) (h2 : b = d) : Ending.returned (.tuple #[.int .i64 a, .bool b]) = Ending.returned (.tuple #[.int .i64 c, .bool d]) := by rw [h, h2]
/-- what a new pair of cells reads, behind a call that kept it: its own words -/
theorem kept_one (w : World) (z0 z1 : Value) (T : TypeId) (w1 : World) (h : Below (w.alloc (.cells #[z0, z1] T)).heap.size (w.alloc (.cells #[z0, z1] T)) w1) :
    w1.cell? ⟨w.heap.size, 0, none⟩ = some z0 ∧ w1.cell? ⟨w.heap.size, 1, none⟩ = some z1 ∧ w.heap.size < w1.heap.size ∧ Below w.heap.size w w1 := by
  obtain ⟨a, b, _, _, c, d⟩ := kept_new w z0 z1 T w1 h
  exact ⟨a, b, c, d⟩

theorem div_exact (v : Int) (h : v % 1000000 = 0) : v.tdiv 1000000 = v / 1000000 := by
  obtain ⟨k, rfl⟩ : ∃ k, v = 1000000 * k := ⟨v / 1000000, by omega⟩
  rw [Int.mul_tdiv_cancel_left _ (by omega), Int.mul_ediv_cancel_left _ (by omega)]

set_option maxRecDepth 100000 in
set_option maxHeartbeats 4000000 in
theorem whole_any (t v : Int) (w : World) (h : -9223372036854775808 ≤ v ∧ v ≤ 9223372036854775807) :
    Calls Try.prog 29 #[aggV t v] w fun e w' => e = .returned (.tuple #[.int .i64 (wholeD (toD t v)).1, .bool (wholeD (toD t v)).2]) ∧ Below w.heap.size w w' := by
  have CR := fun W => right_any t v W
  have CP := fun W => part_any t v W h.1 h.2
  have hde := div_exact v
  rcases toD_cases t v with ⟨rfl, h2, e, er⟩ | ⟨rfl, rfl, e, er⟩ | ⟨rfl, rfl, e, er⟩ | ⟨rfl, rfl, e, er⟩ | ⟨_, _, _, _, e, er⟩ <;> rw [er] at CR <;> rw [e]
  · by_cases hp : v % 1000000 = 0
    · have hw : wholeD (.num v) = (v / 1000000, true) := by show (if v % 1000000 = 0 then _ else _) = _; rw [if_pos hp]
      have hd := hde hp
      have hwr : IntKind.i64.wrap (v.tdiv 1000000) = v.tdiv 1000000 := IntWalk.i64_in _ (by omega)
      rw [hp] at CP
      rw [hw]
      show Calls _ _ _ _ fun e w' => e = .returned (.tuple #[.int .i64 (v / 1000000), .bool true]) ∧ _
      rw [← hd]
      have C1 := fun W => Lib.hid (CR W)
      have C2 := fun W => Lib.hid (CP W)
      have fin : ∀ X, (X = v.tdiv 1000000 ∨ (0 ≤ v ∧ X = v / 1000000)) → X = v.tdiv 1000000 := fun X hX => by rcases hX with hX | ⟨_, hX⟩; exact hX; rw [hX, hd]
      have FIN := Lib.hid fin
      unfold aggV at C1 C2 ⊢
      clear CR CP hde e er h h2 hp hw hd fin
      go_enter Try.func29, Try.ntmps29
      go_wp2_with fail
      refine (C1 _).out.mono ?_
      rintro e w1 ⟨rfl, h1⟩
      obtain ⟨a0, a1, hs1, hb1⟩ := kept_one w _ _ 23 w1 h1
      go_wp2_with fail
      refine (C2 _).out.mono ?_
      rintro e w2 ⟨rfl, h2⟩
      obtain ⟨a0, a1, hs1, hb1⟩ := kept_one w _ _ 23 w2 (h1.trans (h2.mono h1.size))
      go_wp2_with fail
      go_ret2
      exact ⟨ret_ib (FIN.out _ (by first | exact .inl rfl | exact .inr ⟨by assumption, rfl⟩)) rfl, hb1⟩
    · have hw : wholeD (.num v) = (0, false) := by show (if v % 1000000 = 0 then _ else _) = _; rw [if_neg hp]
      have hpb : (v % 1000000 != 0) = true := by simpa using hp
      generalize v % 1000000 = p at *
      rw [hw]
      have C1 := fun W => Lib.hid (CR W)
      have C2 := fun W => Lib.hid (CP W)
      unfold aggV at C1 C2 ⊢
      clear CR CP hde e er h h2 hp hw
      go_enter Try.func29, Try.ntmps29
      go_wp2_with fail
      refine (C1 _).out.mono ?_
      rintro e w1 ⟨rfl, h1⟩
      obtain ⟨a0, a1, hs1, hb1⟩ := kept_one w _ _ 23 w1 h1
      go_wp2_with fail
      refine (C2 _).out.mono ?_
      rintro e w2 ⟨rfl, h2⟩
      obtain ⟨a0, a1, hs1, hb1⟩ := kept_one w _ _ 23 w2 (h1.trans (h2.mono h1.size))
      go_wp2_with fail
      go_ret2
      exact ⟨rfl, hb1⟩
  all_goals
    have C1 := fun W => Lib.hid (CR W)
    unfold aggV at C1 ⊢
    clear CR CP hde e er h
    go_enter Try.func29, Try.ntmps29
    go_wp2_with fail
    refine (C1 _).out.mono ?_
    rintro e w1 ⟨rfl, h1⟩
    obtain ⟨a0, a1, hs1, hb1⟩ := kept_one w _ _ 23 w1 h1
    go_wp2_with fail
    go_ret2
    exact ⟨rfl, hb1⟩

theorem srt_nan {x : Nm} : srt x = 5 ↔ x = .nan := by
  rcases cls x with rfl | rfl | rfl | ⟨n, rfl, _, e, _⟩ | rfl | ⟨n, rfl, _, e, _⟩
  · exact ⟨fun _ => rfl, fun _ => rfl⟩
  · exact ⟨(fun h => by cases h), (fun h => by cases h)⟩
  · exact ⟨(fun h => by cases h), (fun h => by cases h)⟩
  · exact ⟨(fun h => by rw [e] at h; cases h), (fun h => by cases h)⟩
  · exact ⟨(fun h => by cases h), (fun h => by cases h)⟩
  · exact ⟨(fun h => by rw [e] at h; cases h), (fun h => by cases h)⟩
theorem cmp_nan {x y : Nm} (h : srt x = 5 ∨ srt y = 5) : cmpD x y = (0, false) := by
  rcases h with h | h
  · rw [srt_nan.1 h]; rfl
  · rw [srt_nan.1 h]
    cases x <;> rfl
theorem cmp_num (a b : Int) : cmpD (.num a) (.num b) = (if a = b then 0 else if a < b then -1 else 1, true) := rfl
theorem cmp_same (t v : Int) (h : srt (toD t v) ≠ 5) : cmpD (toD t v) (toD t v) = (0, true) := by
  have h2 : toD t v ≠ .nan := fun e => h (srt_nan.2 e)
  generalize toD t v = x at *
  match x with
  | .nan => exact absurd rfl h2
  | .over => rfl
  | .under => rfl
  | .num n => rw [cmp_num, if_pos rfl]
theorem srt_num (n : Int) : (n < 0 ∧ srt (.num n) = 1) ∨ (n = 0 ∧ srt (.num n) = 2) ∨ (0 < n ∧ srt (.num n) = 3) := by
  rcases Int.lt_trichotomy n 0 with h | rfl | h
  · exact .inl ⟨h, srt_neg h⟩
  · exact .inr (.inl ⟨rfl, rfl⟩)
  · exact .inr (.inr ⟨h, srt_pos h⟩)
theorem cmp_math (t1 v1 t2 v2 : Int) (h1 : srt (toD t1 v1) ≠ 5) (h2 : srt (toD t2 v2) ≠ 5) (hne : ¬ (t1 = t2 ∧ v1 = v2)) :
    cmpD (toD t1 v1) (toD t2 v2) = (if srt (toD t1 v1) < srt (toD t2 v2) ∨ (srt (toD t1 v1) = srt (toD t2 v2) ∧ v1 < v2) then -1 else 1, true) := by
  have n1 : toD t1 v1 ≠ .nan := fun e => h1 (srt_nan.2 e)
  have n2 : toD t2 v2 ≠ .nan := fun e => h2 (srt_nan.2 e)
  have h4 : srt .over = 4 := rfl
  have h0 : srt .under = 0 := rfl
  have s1 := srt_num v1
  have s2 := srt_num v2
  rcases toD_cases t1 v1 with ⟨ht1, _, e1, _⟩ | ⟨ht1, hv1, e1, _⟩ | ⟨ht1, hv1, e1, _⟩ | ⟨_, _, e1, _⟩ | ⟨_, _, _, _, e1, _⟩ <;>
    rcases toD_cases t2 v2 with ⟨ht2, _, e2, _⟩ | ⟨ht2, hv2, e2, _⟩ | ⟨ht2, hv2, e2, _⟩ | ⟨_, _, e2, _⟩ | ⟨_, _, _, _, e2, _⟩ <;>
    first
      | exact absurd e1 n1
      | exact absurd e2 n2
      | (exfalso; omega)
      | (rw [e1, e2])
  · rw [cmp_num, if_neg (by omega)]
    generalize srt (.num v1) = x at *
    generalize srt (.num v2) = y at *
    by_cases hc : v1 < v2
    · rw [if_pos hc, if_pos (by omega)]
    · rw [if_neg hc, if_neg (by omega)]
  · rw [if_pos (by omega)]; rfl
  · rw [if_neg (by omega)]; rfl
  · rw [if_neg (by omega)]; rfl
  · rw [if_neg (by omega)]; rfl
  · rw [if_pos (by omega)]; rfl
  · rw [if_pos (by omega)]; rfl
end Go.Proofs.Ytncmmdhlponpoaa.Char
