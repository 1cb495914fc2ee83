/- The walks of the document's own Right, none, sign, great, Size, Made for numbers in millionths. -/
import Derived.Test.YtgoicjeegfflpaaDoorSmall4
namespace Go.Proofs.YtgoicjeegfflpaaDoor.Char
open Go.RowKit

set_option maxRecDepth 100000 in
set_option maxHeartbeats 2000000 in
theorem refRight_any (t v : Int) (w : World) :
    Calls Tryd.prog 7 #[aggV t v] w fun e w' => e = .returned (.bool (rightB t v)) ∧ Below w.heap.size w w' := by
  have hb := (Below.refl w.heap.size w).alloc (Nat.le_refl _) (Obj.cells #[.int .i64 t, .int .i64 v] 23)
  unfold aggV
  rcases toD_cases t v with ⟨rfl, h2, e, er⟩ | ⟨rfl, rfl, e, er⟩ | ⟨rfl, rfl, e, er⟩ | ⟨rfl, rfl, e, er⟩ | ⟨h1, h2, h3, h4, e, er⟩ <;> rw [er]
  · have hvb : (v != -9223372036854775808) = true := by simpa using h2
    clear h2 e er
    go_enter Tryd.func7, Tryd.ntmps7
    go_wp2_with fail
    go_ret
    exact ⟨rfl, hb⟩
  · clear e er
    go_enter Tryd.func7, Tryd.ntmps7
    go_wp2_with fail
    go_ret
    exact ⟨rfl, hb⟩
  · clear e er
    go_enter Tryd.func7, Tryd.ntmps7
    go_wp2_with fail
    go_ret
    exact ⟨rfl, hb⟩
  · clear e er
    go_enter Tryd.func7, Tryd.ntmps7
    go_wp2_with fail
    go_ret
    exact ⟨rfl, hb⟩
  · clear e er
    by_cases ht : t = 0
    · have hv : v = -9223372036854775808 := by omega
      subst ht hv
      clear h1 h2 h3 h4
      go_enter Tryd.func7, Tryd.ntmps7
      go_wp2_with fail
      go_ret
      exact ⟨rfl, hb⟩
    · have htb : (t == 0) = false := by rw [beq_eq_false_iff_ne]; exact ht
      by_cases hl : 1 ≤ t
      · by_cases hu : t ≤ 3
        · have hvb : (v == 0) = false := by rw [beq_eq_false_iff_ne]; omega
          clear h1 h2 h3 h4 ht
          go_enter Tryd.func7, Tryd.ntmps7
          go_wp2_with fail
          go_ret
          exact ⟨rfl, hb⟩
        · clear h1 h2 h3 h4 ht
          go_enter Tryd.func7, Tryd.ntmps7
          go_wp2_with fail
          go_ret
          exact ⟨rfl, hb⟩
      · clear h1 h2 h3 h4 ht
        go_enter Tryd.func7, Tryd.ntmps7
        go_wp2_with fail
        go_ret
        exact ⟨rfl, hb⟩

def nanB : Nm → Bool
  | .nan => true
  | _ => false

end Go.Proofs.YtgoicjeegfflpaaDoor.Char
