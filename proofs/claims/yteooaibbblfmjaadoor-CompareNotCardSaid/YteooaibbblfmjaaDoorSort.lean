/- The walks of package dec's own small questions: the sort of a number, whether it may be, how far a number is from 0, a number by its size. -/
import Derived.Test.YteooaibbblfmjaaDoorSmall4
namespace Go.Proofs.YteooaibbblfmjaaDoor.Char
open Go.RowKit

set_option maxRecDepth 100000 in
set_option maxHeartbeats 2000000 in
theorem sortOf_any (t v : Int) (w : World) :
    Calls Tryd.prog 19 #[aggV t v] w fun e w' => e = .returned (.int .i64 (srt (toD t v) : Int)) ∧ Below w.heap.size w w' := by
  have hb := (Below.refl w.heap.size w).alloc (Nat.le_refl _) (Obj.cells #[.int .i64 t, .int .i64 v] 24)
  unfold aggV
  rcases toD_cases t v with ⟨rfl, h2, e, _⟩ | ⟨rfl, rfl, e, _⟩ | ⟨rfl, rfl, e, _⟩ | ⟨rfl, rfl, e, _⟩ | ⟨h1, h2, h3, h4, e, _⟩
  · rw [e]
    have hvb : (v == -9223372036854775808) = false := by rw [beq_eq_false_iff_ne]; exact h2
    clear h2 e
    rcases Int.lt_trichotomy v 0 with h | rfl | h
    · have hs := srt_neg h
      rw [hs]
      clear hs
      go_enter Tryd.func19, Tryd.ntmps19
      go_wp2_with fail
      go_ret
      exact ⟨rfl, hb⟩
    · go_enter Tryd.func19, Tryd.ntmps19
      go_wp2_with fail
      go_ret
      exact ⟨rfl, hb⟩
    · have hs := srt_pos h
      rw [hs]
      have hn : ¬ v < 0 := by omega
      clear hs
      go_enter Tryd.func19, Tryd.ntmps19
      go_wp2_with fail
      go_ret
      exact ⟨rfl, hb⟩
  · rw [e]
    clear e
    go_enter Tryd.func19, Tryd.ntmps19
    go_wp2_with fail
    go_ret
    exact ⟨rfl, hb⟩
  · rw [e]
    clear e
    go_enter Tryd.func19, Tryd.ntmps19
    go_wp2_with fail
    go_ret
    exact ⟨rfl, hb⟩
  · rw [e]
    clear e
    go_enter Tryd.func19, Tryd.ntmps19
    go_wp2_with fail
    go_ret
    exact ⟨rfl, hb⟩
  · rw [e]
    clear e
    by_cases ht : t = 0
    · have hv : v = -9223372036854775808 := by omega
      subst ht hv
      clear h1 h2 h3 h4
      go_enter Tryd.func19, Tryd.ntmps19
      go_wp2_with fail
      go_ret
      exact ⟨rfl, hb⟩
    · have htb : (t == 0) = false := by rw [beq_eq_false_iff_ne]; exact ht
      have htn : (t != 0) = true := by simp [ht]
      by_cases ht3 : t = 3
      · have hvb : (v == 0) = false := by rw [beq_eq_false_iff_ne]; omega
        subst ht3
        clear h1 h2 h3 h4 ht htb htn
        go_enter Tryd.func19, Tryd.ntmps19
        go_wp2_with fail
        go_ret
        exact ⟨rfl, hb⟩
      · by_cases ht2 : t = 2
        · have hvb : (v == 0) = false := by rw [beq_eq_false_iff_ne]; omega
          subst ht2
          clear h1 h2 h3 h4 ht htb htn ht3
          go_enter Tryd.func19, Tryd.ntmps19
          go_wp2_with fail
          go_ret
          exact ⟨rfl, hb⟩
        · have hb3 : (t == 3) = false := by rw [beq_eq_false_iff_ne]; exact ht3
          have hb2 : (t == 2) = false := by rw [beq_eq_false_iff_ne]; exact ht2
          clear h1 h2 h3 h4 ht ht3 ht2
          go_enter Tryd.func19, Tryd.ntmps19
          go_wp2_with fail
          go_ret
          exact ⟨rfl, hb⟩
end Go.Proofs.YteooaibbblfmjaaDoor.Char
