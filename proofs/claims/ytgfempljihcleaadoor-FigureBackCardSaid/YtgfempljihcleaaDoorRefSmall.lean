/- The walks of the document's own Right, none, sign, great, Size, Made for numbers in millionths. -/
import Derived.Test.YtgfempljihcleaaDoorSmall4
namespace Go.Proofs.YtgfempljihcleaaDoor.Char
open Go.RowKit

set_option maxRecDepth 100000 in
set_option maxHeartbeats 2000000 in
theorem refRight_any (t v : Int) (w : World) :
    Calls Tryd.prog 17 #[aggV t v] w fun e w' => e = .returned (.bool (rightB t v)) ∧ Below w.heap.size w w' := by
  have hb := (Below.refl w.heap.size w).alloc (Nat.le_refl _) (Obj.cells #[.int .i64 t, .int .i64 v] 23)
  unfold aggV
  rcases toD_cases t v with ⟨rfl, h2, e, er⟩ | ⟨rfl, rfl, e, er⟩ | ⟨rfl, rfl, e, er⟩ | ⟨rfl, rfl, e, er⟩ | ⟨h1, h2, h3, h4, e, er⟩ <;> rw [er]
  · have hvb : (v != -9223372036854775808) = true := by simpa using h2
    clear h2 e er
    go_enter Tryd.func17, Tryd.ntmps17
    go_wp2_with fail
    go_ret
    exact ⟨rfl, hb⟩
  · clear e er
    go_enter Tryd.func17, Tryd.ntmps17
    go_wp2_with fail
    go_ret
    exact ⟨rfl, hb⟩
  · clear e er
    go_enter Tryd.func17, Tryd.ntmps17
    go_wp2_with fail
    go_ret
    exact ⟨rfl, hb⟩
  · clear e er
    go_enter Tryd.func17, Tryd.ntmps17
    go_wp2_with fail
    go_ret
    exact ⟨rfl, hb⟩
  · clear e er
    by_cases ht : t = 0
    · have hv : v = -9223372036854775808 := by omega
      subst ht hv
      clear h1 h2 h3 h4
      go_enter Tryd.func17, Tryd.ntmps17
      go_wp2_with fail
      go_ret
      exact ⟨rfl, hb⟩
    · have htb : (t == 0) = false := by rw [beq_eq_false_iff_ne]; exact ht
      by_cases hl : 1 ≤ t
      · by_cases hu : t ≤ 3
        · have hvb : (v == 0) = false := by rw [beq_eq_false_iff_ne]; omega
          clear h1 h2 h3 h4 ht
          go_enter Tryd.func17, Tryd.ntmps17
          go_wp2_with fail
          go_ret
          exact ⟨rfl, hb⟩
        · clear h1 h2 h3 h4 ht
          go_enter Tryd.func17, Tryd.ntmps17
          go_wp2_with fail
          go_ret
          exact ⟨rfl, hb⟩
      · clear h1 h2 h3 h4 ht
        go_enter Tryd.func17, Tryd.ntmps17
        go_wp2_with fail
        go_ret
        exact ⟨rfl, hb⟩

def nanB : Nm → Bool
  | .nan => true
  | _ => false

set_option maxRecDepth 100000 in
set_option maxHeartbeats 4000000 in
theorem none_any (t1 v1 t2 v2 : Int) (w : World) :
    Calls Tryd.prog 41 #[aggV t1 v1, aggV t2 v2] w fun e w' => e = .returned (.bool (nanB (toD t1 v1) || nanB (toD t2 v2))) ∧ Below w.heap.size w w' := by
  have CA := fun W => refRight_any t1 v1 W
  have CB := fun W => refRight_any t2 v2 W
  have key : ∀ t v : Int, (rightB t v = false ∧ nanB (toD t v) = true) ∨ (rightB t v = true ∧ t = 1 ∧ nanB (toD t v) = true) ∨ (rightB t v = true ∧ (t == 1) = false ∧ nanB (toD t v) = false) := fun t v => by
    rcases toD_cases t v with ⟨rfl, _, e, er⟩ | ⟨rfl, _, e, er⟩ | ⟨rfl, _, e, er⟩ | ⟨rfl, _, e, er⟩ | ⟨_, _, _, _, e, er⟩ <;> rw [e, er]
    · exact .inr (.inr ⟨rfl, rfl, rfl⟩)
    · exact .inr (.inr ⟨rfl, rfl, rfl⟩)
    · exact .inr (.inr ⟨rfl, rfl, rfl⟩)
    · exact .inr (.inl ⟨rfl, rfl, rfl⟩)
    · exact .inl ⟨rfl, rfl⟩
  have k1 := key t1 v1
  have k2 := key t2 v2
  generalize nanB (toD t1 v1) = n1 at *
  generalize nanB (toD t2 v2) = n2 at *
  generalize rightB t1 v1 = r1 at *
  generalize rightB t2 v2 = r2 at *
  have C1 := fun W => Lib.hid (CA W)
  have C2 := fun W => Lib.hid (CB W)
  unfold aggV at C1 C2 ⊢
  clear CA CB key
  rcases k1 with ⟨rfl, rfl⟩ | ⟨rfl, rfl, rfl⟩ | ⟨rfl, ht1, rfl⟩
  · clear k2
    go_enter Tryd.func41, Tryd.ntmps41
    go_wp2_with fail
    refine (C1 _).out.mono ?_
    rintro e w1 ⟨rfl, h1⟩
    obtain ⟨a0, a1, b0, b1, f0, f1, hs1, hbb⟩ := kept_two w _ _ _ _ 23 23 w1 h1
    go_wp2_with fail
    go_ret
    exact ⟨rfl, hbb⟩
  all_goals
    rcases k2 with ⟨rfl, rfl⟩ | ⟨rfl, rfl, rfl⟩ | ⟨rfl, ht2, rfl⟩
    all_goals
      go_enter Tryd.func41, Tryd.ntmps41
      go_wp2_with fail
      refine (C1 _).out.mono ?_
      rintro e w1 ⟨rfl, h1⟩
      obtain ⟨a0, a1, b0, b1, f0, f1, hs1, hbb⟩ := kept_two w _ _ _ _ 23 23 w1 h1
      go_wp2_with fail
      refine (C2 _).out.mono ?_
      rintro e w2 ⟨rfl, h2⟩
      obtain ⟨a0, a1, b0, b1, f0, f1, hs1, hbb⟩ := kept_two w _ _ _ _ 23 23 w2 (h1.trans (h2.mono h1.size))
      go_wp2_with fail
      go_ret
      exact ⟨rfl, hbb⟩

set_option maxRecDepth 100000 in
set_option maxHeartbeats 2000000 in
theorem sign_any (t v : Int) (w : World) (hr : nanB (toD t v) = false) :
    Calls Tryd.prog 43 #[aggV t v] w fun e w' => e = .returned (.int .i64 (sgn (toD t v))) ∧ Below w.heap.size w w' := by
  have hb := (Below.refl w.heap.size w).alloc (Nat.le_refl _) (Obj.cells #[.int .i64 t, .int .i64 v] 23)
  unfold aggV
  rcases toD_cases t v with ⟨rfl, h2, e, _⟩ | ⟨rfl, rfl, e, _⟩ | ⟨rfl, rfl, e, _⟩ | ⟨_, _, e, _⟩ | ⟨_, _, _, _, e, _⟩ <;> rw [e] at hr ⊢
  · have es : sgn (.num v) = v.sign := rfl
    rw [es]
    clear hr e h2 es
    rcases Int.lt_trichotomy v 0 with h | rfl | h
    · rw [Int.sign_eq_neg_one_of_neg h]
      have hn : ¬ 0 < v := by omega
      go_enter Tryd.func43, Tryd.ntmps43
      go_wp2_with fail
      go_ret
      exact ⟨rfl, hb⟩
    · go_enter Tryd.func43, Tryd.ntmps43
      go_wp2_with fail
      go_ret
      exact ⟨rfl, hb⟩
    · rw [Int.sign_eq_one_of_pos h]
      go_enter Tryd.func43, Tryd.ntmps43
      go_wp2_with fail
      go_ret
      exact ⟨rfl, hb⟩
  · clear hr e
    go_enter Tryd.func43, Tryd.ntmps43
    go_wp2_with fail
    go_ret
    exact ⟨rfl, hb⟩
  · clear hr e
    go_enter Tryd.func43, Tryd.ntmps43
    go_wp2_with fail
    go_ret
    exact ⟨rfl, hb⟩
  · cases hr
  · cases hr

set_option maxRecDepth 100000 in
set_option maxHeartbeats 2000000 in
theorem great_any (s : Int) (w : World) :
    Calls Tryd.prog 42 #[.int .i64 s] w fun e w' => e = .returned (decV (pastD s)) ∧ Below w.heap.size w w' := by
  have hb := fun o => (Below.refl w.heap.size w).alloc (Nat.le_refl _) (Obj.cells o 23)
  rcases Int.lt_trichotomy s 0 with h | rfl | h
  · have e : pastD s = .under := by unfold pastD; rw [if_neg (by omega), if_pos h]
    have hn : ¬ 0 < s := by omega
    rw [e]
    clear e
    go_enter Tryd.func42, Tryd.ntmps42
    go_wp2_with fail
    exact bodyPost_ret (v := .agg #[.int .i64 3, .int .i64 0]) (by simp [results, Tryd.results42, go_sem]) rfl ⟨rfl, by simpa using hb #[.int .i64 3, .int .i64 0]⟩
  · go_enter Tryd.func42, Tryd.ntmps42
    go_wp2_with fail
    exact bodyPost_ret (v := .agg #[.int .i64 1, .int .i64 0]) (by simp [results, Tryd.results42, go_sem]) rfl ⟨rfl, by simpa using hb #[.int .i64 1, .int .i64 0]⟩
  · have e : pastD s = .over := by unfold pastD; rw [if_pos h]
    rw [e]
    clear e
    go_enter Tryd.func42, Tryd.ntmps42
    go_wp2_with fail
    exact bodyPost_ret (v := .agg #[.int .i64 2, .int .i64 0]) (by simp [results, Tryd.results42, go_sem]) rfl ⟨rfl, by simpa using hb #[.int .i64 2, .int .i64 0]⟩

set_option maxRecDepth 100000 in
set_option maxHeartbeats 2000000 in
theorem refSize_any (t v : Int) (w : World) (h : -9223372036854775807 ≤ v ∧ v ≤ 9223372036854775807) :
    Calls Tryd.prog 19 #[aggV t v] w (NumPost w v.natAbs) := by
  have hb := (Below.refl w.heap.size w).alloc (Nat.le_refl _) (Obj.cells #[.int .i64 t, .int .i64 v] 23)
  have hs : (w.alloc (Obj.cells #[.int .i64 t, .int .i64 v] 23)).heap.size = w.heap.size + 1 := by simp
  have CD := fun W => Lib.hid (digits_any v.natAbs W (by omega))
  unfold aggV
  have HS := Lib.hid hs
  have w1 : v < 0 → IntKind.i64.wrap (-v) = (v.natAbs : Int) := fun hv => by rw [IntWalk.i64_in _ (by omega)]; omega
  have w2 : v < 0 → IntKind.u64.wrap (v.natAbs : Int) = (v.natAbs : Int) := fun hv => by rw [IntKind.wrap_u64]; omega
  have w3 : ¬ v < 0 → IntKind.u64.wrap v = (v.natAbs : Int) := fun hv => by rw [IntKind.wrap_u64]; omega
  have w4 : v < 0 → -v = (v.natAbs : Int) := fun hv => by omega
  have w5 : ¬ v < 0 → v = (v.natAbs : Int) := fun hv => by omega
  generalize v.natAbs = n at *
  by_cases hv : v < 0
  · have e1 := w1 hv
    have e2 := w2 hv
    have e4 := w4 hv
    clear w1 w2 w3 w4 w5 hs
    go_enter Tryd.func19, Tryd.ntmps19
    go_wp2_with fail
    refine (CD _).out.mono ?_
    rintro e w1 ⟨v1, rfl, h1, h2, h3⟩
    go_wp2_with fail
    go_ret
    exact ⟨v1, rfl, h1, h2.mono (by rw [HS.out]; omega), hb.trans (h3.mono (by rw [HS.out]; omega))⟩
  · obtain rfl := w5 hv
    clear w1 w2 w3 w4 w5 hs
    go_enter Tryd.func19, Tryd.ntmps19
    go_wp2_with fail
    refine (CD _).out.mono ?_
    rintro e w1 ⟨v1, rfl, h1, h2, h3⟩
    go_wp2_with fail
    go_ret
    exact ⟨v1, rfl, h1, h2.mono (by rw [HS.out]; omega), hb.trans (h3.mono (by rw [HS.out]; omega))⟩
end Go.Proofs.YtgfempljihcleaaDoor.Char
