/- The walk of the law DecOrders. -/
import Derived.Test.YtncmmdhlponpoaaLawD
namespace Go.Proofs.Ytncmmdhlponpoaa.Char
open Go.RowKit

/-- where a number stands among all -/
def ordD : Nm → Int
  | .nan => 0
  | .under => -1000000000000000000000000
  | .over => 1000000000000000000000000
  | .num n => n
theorem ord_num {x : Nm} (h : okD x) (n : Int) (e : x = .num n) : -1000000000000000000000000 < n ∧ n < 1000000000000000000000000 := by
  subst e
  have h1 : -9223372036854775807 ≤ n ∧ n ≤ 9223372036854775807 := h
  omega
theorem cmp_ord (x y : Nm) (hx : okD x) (hy : okD y) (nx : nanB x = false) (ny : nanB y = false) : cmpD x y = (if ordD x = ordD y then 0 else if ordD x < ordD y then -1 else 1, true) := by
  have h1 := ord_num hx
  have h2 := ord_num hy
  have eo : ordD .over = 1000000000000000000000000 := rfl
  have eu : ordD .under = -1000000000000000000000000 := rfl
  have en : ∀ n, ordD (.num n) = n := fun _ => rfl
  clear hx hy
  cases x with
  | nan => cases nx
  | over =>
    cases y with
    | nan => cases ny
    | over => rw [if_pos rfl]; rfl
    | under => rw [if_neg (by omega), if_neg (by omega)]; rfl
    | num b => have := h2 b rfl; rw [en, if_neg (by omega), if_neg (by omega)]; rfl
  | under =>
    cases y with
    | nan => cases ny
    | over => rw [if_neg (by omega), if_pos (by omega)]; rfl
    | under => rw [if_pos rfl]; rfl
    | num b => have := h2 b rfl; rw [en, if_neg (by omega), if_pos (by omega)]; rfl
  | num a =>
    have := h1 a rfl
    cases y with
    | nan => cases ny
    | over => rw [en, if_neg (by omega), if_pos (by omega)]; rfl
    | under => rw [en, if_neg (by omega), if_neg (by omega)]; rfl
    | num b => rfl
/-- how three numbers may stand -/
theorem orders_key (a b c : Nm) (ha : okD a) (hb : okD b) (hc : okD c) : ∃ (x y z : Int) (p q r : Bool), cmpD a b = (x, p) ∧ cmpD b a = (-x, p) ∧ cmpD b c = (y, q) ∧ cmpD a c = (z, r) ∧
    ((p = false ∧ x = 0) ∨ (p = true ∧ x = 1) ∨ (p = true ∧ q = false ∧ x = 0) ∨ (p = true ∧ q = false ∧ x = -1) ∨ (p = true ∧ q = true ∧ x = 0 ∧ y = 1) ∨ (p = true ∧ q = true ∧ x = -1 ∧ y = 1) ∨
      (p = true ∧ q = true ∧ x = 0 ∧ y = 0 ∧ r = true ∧ z = 0) ∨ (p = true ∧ q = true ∧ x = -1 ∧ y = 0 ∧ r = true ∧ z = -1) ∨ (p = true ∧ q = true ∧ x = 0 ∧ y = -1 ∧ r = true ∧ z = -1) ∨ (p = true ∧ q = true ∧ x = -1 ∧ y = -1 ∧ r = true ∧ z = -1)) := by
  by_cases hab : (nanB a || nanB b) = true
  · have hba : (nanB b || nanB a) = true := by rw [Bool.or_comm]; exact hab
    exact ⟨0, _, _, false, _, _, cmpD_nan _ _ hab, cmpD_nan _ _ hba, rfl, rfl, .inl ⟨rfl, rfl⟩⟩
  · have hab2 : (nanB a || nanB b) = false := by simpa using hab
    have na := (Bool.or_eq_false_iff.1 hab2).1
    have nb := (Bool.or_eq_false_iff.1 hab2).2
    have e1 := cmp_ord a b ha hb na nb
    have e2 := cmp_ord b a hb ha nb na
    by_cases hc2 : nanB c = true
    · have h3 : cmpD b c = (0, false) := cmpD_nan _ _ (by rw [hc2, Bool.or_true])
      generalize ordD a = A at *
      generalize ordD b = B at *
      rcases Int.lt_trichotomy A B with h | h | h
      · rw [if_neg (by omega), if_pos h] at e1
        rw [if_neg (by omega), if_neg (by omega)] at e2
        exact ⟨-1, 0, _, true, false, _, e1, e2, h3, rfl, .inr (.inr (.inr (.inl ⟨rfl, rfl, rfl⟩)))⟩
      · rw [if_pos h] at e1
        rw [if_pos h.symm] at e2
        exact ⟨0, 0, _, true, false, _, e1, e2, h3, rfl, .inr (.inr (.inl ⟨rfl, rfl, rfl⟩))⟩
      · rw [if_neg (by omega), if_neg (by omega)] at e1
        rw [if_neg (by omega), if_pos h] at e2
        exact ⟨1, 0, _, true, false, _, e1, e2, h3, rfl, .inr (.inl ⟨rfl, rfl⟩)⟩
    · have nc : nanB c = false := by simpa using hc2
      have e3 := cmp_ord b c hb hc nb nc
      have e4 := cmp_ord a c ha hc na nc
      generalize ordD a = A at *
      generalize ordD b = B at *
      generalize ordD c = C at *
      rcases Int.lt_trichotomy A B with h | h | h
      · rw [if_neg (by omega), if_pos h] at e1
        rw [if_neg (by omega), if_neg (by omega)] at e2
        rcases Int.lt_trichotomy B C with k | k | k
        · rw [if_neg (by omega), if_pos k] at e3
          rw [if_neg (by omega), if_pos (by omega)] at e4
          exact ⟨-1, -1, -1, true, true, true, e1, e2, e3, e4, .inr (.inr (.inr (.inr (.inr (.inr (.inr (.inr (.inr ⟨rfl, rfl, rfl, rfl, rfl, rfl⟩))))))))⟩
        · rw [if_pos k] at e3
          rw [if_neg (by omega), if_pos (by omega)] at e4
          exact ⟨-1, 0, -1, true, true, true, e1, e2, e3, e4, .inr (.inr (.inr (.inr (.inr (.inr (.inr (.inl ⟨rfl, rfl, rfl, rfl, rfl, rfl⟩)))))))⟩
        · rw [if_neg (by omega), if_neg (by omega)] at e3
          exact ⟨-1, 1, _, true, true, _, e1, e2, e3, rfl, .inr (.inr (.inr (.inr (.inr (.inl ⟨rfl, rfl, rfl, rfl⟩)))))⟩
      · rw [if_pos h] at e1
        rw [if_pos h.symm] at e2
        rcases Int.lt_trichotomy B C with k | k | k
        · rw [if_neg (by omega), if_pos k] at e3
          rw [if_neg (by omega), if_pos (by omega)] at e4
          exact ⟨0, -1, -1, true, true, true, e1, e2, e3, e4, .inr (.inr (.inr (.inr (.inr (.inr (.inr (.inr (.inl ⟨rfl, rfl, rfl, rfl, rfl, rfl⟩))))))))⟩
        · rw [if_pos k] at e3
          rw [if_pos (by omega)] at e4
          exact ⟨0, 0, 0, true, true, true, e1, e2, e3, e4, .inr (.inr (.inr (.inr (.inr (.inr (.inl ⟨rfl, rfl, rfl, rfl, rfl, rfl⟩))))))⟩
        · rw [if_neg (by omega), if_neg (by omega)] at e3
          exact ⟨0, 1, _, true, true, _, e1, e2, e3, rfl, .inr (.inr (.inr (.inr (.inl ⟨rfl, rfl, rfl, rfl⟩))))⟩
      · rw [if_neg (by omega), if_neg (by omega)] at e1
        rw [if_neg (by omega), if_pos h] at e2
        exact ⟨1, _, _, true, _, _, e1, e2, rfl, rfl, .inr (.inl ⟨rfl, rfl⟩)⟩

/-- what the boxes of three numbers read in a world -/
structure Trip (w : World) (t1 v1 t2 v2 t3 v3 : Int) (W : World) : Prop where
  a0 : W.cell? ⟨w.heap.size, 0, none⟩ = some (.int .i64 t1)
  a1 : W.cell? ⟨w.heap.size, 1, none⟩ = some (.int .i64 v1)
  b0 : W.cell? ⟨w.heap.size + 1, 0, none⟩ = some (.int .i64 t2)
  b1 : W.cell? ⟨w.heap.size + 1, 1, none⟩ = some (.int .i64 v2)
  c0 : W.cell? ⟨w.heap.size + 1 + 1, 0, none⟩ = some (.int .i64 t3)
  c1 : W.cell? ⟨w.heap.size + 1 + 1, 1, none⟩ = some (.int .i64 v3)
  n2 : w.heap.size + 1 + 1 < W.heap.size
  ok : Below w.heap.size w W
theorem Trip.on {w : World} {t1 v1 t2 v2 t3 v3 : Int} {W W' : World} (h : Trip w t1 v1 t2 v2 t3 v3 W) (hb : Below W.heap.size W W') : Trip w t1 v1 t2 v2 t3 v3 W' :=
  have n0 : w.heap.size < W.heap.size := by have := h.n2; omega
  have n1 : w.heap.size + 1 < W.heap.size := by have := h.n2; omega
  ⟨(hb.cell (p := ⟨w.heap.size, 0, none⟩) n0).trans h.a0, (hb.cell (p := ⟨w.heap.size, 1, none⟩) n0).trans h.a1, (hb.cell (p := ⟨w.heap.size + 1, 0, none⟩) n1).trans h.b0, (hb.cell (p := ⟨w.heap.size + 1, 1, none⟩) n1).trans h.b1,
   (hb.cell (p := ⟨w.heap.size + 1 + 1, 0, none⟩) h.n2).trans h.c0, (hb.cell (p := ⟨w.heap.size + 1 + 1, 1, none⟩) h.n2).trans h.c1, Nat.lt_of_lt_of_le h.n2 hb.size, h.ok.trans (hb.mono h.ok.size)⟩

set_option maxRecDepth 100000 in
set_option maxHeartbeats 8000000 in
theorem orders_law (t1 v1 t2 v2 t3 v3 : Int) (w : World) (h1 : -9223372036854775808 ≤ v1 ∧ v1 ≤ 9223372036854775807) (h2 : -9223372036854775808 ≤ v2 ∧ v2 ≤ 9223372036854775807) (h3 : -9223372036854775808 ≤ v3 ∧ v3 ≤ 9223372036854775807) :
    Calls Try.prog 10 #[aggV t1 v1, aggV t2 v2, aggV t3 v3] w fun e w' => e = .returned (.bool true) ∧ Below w.heap.size w w' := by
  have C1 := fun W => cmp_any t1 v1 t2 v2 W
  have C2 := fun W => cmp_any t2 v2 t3 v3 W
  have C3 := fun W => cmp_any t1 v1 t3 v3 W
  have C4 := fun W => cmp_any t2 v2 t1 v1 W
  obtain ⟨x, y, z, p, q, r, e1, e2, e3, e4, key⟩ := orders_key _ _ _ (toD_ok t1 v1 h1) (toD_ok t2 v2 h2) (toD_ok t3 v3 h3)
  rw [e1] at C1
  rw [e3] at C2
  rw [e4] at C3
  rw [e2] at C4
  have K1 := fun W => Lib.hid (C1 W)
  have K2 := fun W => Lib.hid (C2 W)
  have K3 := fun W => Lib.hid (C3 W)
  have K4 := fun W => Lib.hid (C4 W)
  dsimp only at K1 K2 K3 K4
  unfold aggV at K1 K2 K3 K4 ⊢
  obtain ⟨W0, hW0⟩ : ∃ W0, W0 = ((w.alloc (.cells #[Value.int .i64 t1, .int .i64 v1] 23)).alloc (.cells #[Value.int .i64 t2, .int .i64 v2] 23)).alloc (.cells #[Value.int .i64 t3, .int .i64 v3] 23) := ⟨_, rfl⟩
  have tr : Trip w t1 v1 t2 v2 t3 v3 W0 := by
    have h := kept_three w _ _ _ _ _ _ 23 W0 (by rw [hW0]; exact Below.refl _ _)
    exact ⟨h.1.1, h.1.2.1, h.1.2.2.1, h.1.2.2.2, h.2.1, h.2.2.1, h.2.2.2.2.2.1, h.2.2.2.2.2.2⟩
  have TR := Lib.hid tr
  have HW0 := Lib.hid hW0
  clear C1 C2 C3 C4 e1 e2 e3 e4 h1 h2 h3 hW0 tr
  rcases key with ⟨rfl, rfl⟩ | ⟨rfl, rfl⟩ | ⟨rfl, rfl, rfl⟩ | ⟨rfl, rfl, rfl⟩ | ⟨rfl, rfl, rfl, rfl⟩ | ⟨rfl, rfl, rfl, rfl⟩ | ⟨rfl, rfl, rfl, rfl, rfl, rfl⟩ | ⟨rfl, rfl, rfl, rfl, rfl, rfl⟩ | ⟨rfl, rfl, rfl, rfl, rfl, rfl⟩ | ⟨rfl, rfl, rfl, rfl, rfl, rfl⟩
  all_goals (try cases q)
  all_goals
    go_enter Try.func10, Try.ntmps10
    go_wp2_with fail
    rw [← HW0.out]
    refine (K1 _).out.mono ?_
    rintro e w1 ⟨rfl, b1⟩
    have TR1 := Lib.hid (TR.out.on b1)
    obtain ⟨a0, a1, b0, b1, c0, c1, n2, ok⟩ := TR1.out
    go_wp2_with fail
    refine (K2 _).out.mono ?_
    rintro e w2 ⟨rfl, b1⟩
    have TR2 := Lib.hid (TR1.out.on b1)
    obtain ⟨a0, a1, b0, b1, c0, c1, n2, ok⟩ := TR2.out
    go_wp2_with fail
    refine (K3 _).out.mono ?_
    rintro e w3 ⟨rfl, b1⟩
    have TR3 := Lib.hid (TR2.out.on b1)
    obtain ⟨a0, a1, b0, b1, c0, c1, n2, ok⟩ := TR3.out
    go_wp2_with fail
    refine (K4 _).out.mono ?_
    rintro e w4 ⟨rfl, b1⟩
    have TR4 := Lib.hid (TR3.out.on b1)
    go_wp2_with fail
    refine (works_any _).mono ?_
    rintro e w5 ⟨rfl, b1⟩
    go_wp2_with fail
    go_ret
    exact ⟨rfl, (TR4.out.on b1).ok⟩
end Go.Proofs.Ytncmmdhlponpoaa.Char
