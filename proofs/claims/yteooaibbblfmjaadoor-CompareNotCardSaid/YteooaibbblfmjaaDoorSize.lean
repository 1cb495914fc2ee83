/- The walks of package dec's size, sized, Right, part, sum. -/
import Derived.Test.YteooaibbblfmjaaDoorSort
namespace Go.Proofs.YteooaibbblfmjaaDoor.Char
open Go.RowKit

theorem ret_u64 {a b : Int} (h : a = b) : Ending.returned (.int .u64 a) = .returned (.int .u64 b) := by rw [h]

set_option maxRecDepth 100000 in
set_option maxHeartbeats 1000000 in
theorem size_any (v : Int) (w : World) (h1 : -9223372036854775808 ≤ v) (h2 : v ≤ 9223372036854775807) :
    Calls Tryd.prog 47 #[.int .i64 v] w fun e w' => e = .returned (.int .u64 (v.natAbs : Int)) ∧ w = w' := by
  by_cases hv : v < 0
  · have e1 : IntKind.u64.wrap (-IntKind.u64.wrap v) = (v.natAbs : Int) := by rw [IntKind.wrap_u64, IntKind.wrap_u64]; omega
    have E1 := Lib.hid e1
    clear e1 h1 h2
    go_enter Tryd.func47, Tryd.ntmps47
    go_wp2_with fail
    go_ret
    exact ⟨ret_u64 E1.out, rfl⟩
  · have e1 : IntKind.u64.wrap v = (v.natAbs : Int) := by rw [IntKind.wrap_u64]; omega
    have E1 := Lib.hid e1
    clear e1 h1 h2
    go_enter Tryd.func47, Tryd.ntmps47
    go_wp2_with fail
    go_ret
    exact ⟨ret_u64 E1.out, rfl⟩

set_option maxRecDepth 100000 in
set_option maxHeartbeats 1000000 in
theorem sized_any (n : Nat) (below : Bool) (w : World) (hn : n ≤ 18446744073709551615) :
    Calls Tryd.prog 48 #[.int .u64 (n : Int), .bool below] w fun e w' => e = .returned (decV (sizedD n below)) ∧ Below w.heap.size w w' := by
  have hb := fun o => (Below.refl w.heap.size w).alloc (Nat.le_refl _) (Obj.cells o 24)
  by_cases hg : 9223372036854775807 < n
  · have hgi : (9223372036854775807 : Int) < (n : Int) := by omega
    cases below
    · have e : sizedD n false = .over := by unfold sizedD fitD; rw [if_pos (by simpa using hgi)]
      rw [e]
      clear e hg hn
      go_enter Tryd.func48, Tryd.ntmps48
      go_wp2_with fail
      exact bodyPost_ret (v := .agg #[.int .i64 2, .int .i64 0]) (by simp [results, Tryd.results48, go_sem]) rfl ⟨rfl, by simpa using hb #[.int .i64 2, .int .i64 0]⟩
    · have e : sizedD n true = .under := by
        show fitD (-(n : Int)) = .under
        unfold fitD
        rw [if_neg (by omega), if_pos (by omega)]
      rw [e]
      clear e hg hn
      go_enter Tryd.func48, Tryd.ntmps48
      go_wp2_with fail
      exact bodyPost_ret (v := .agg #[.int .i64 3, .int .i64 0]) (by simp [results, Tryd.results48, go_sem]) rfl ⟨rfl, by simpa using hb #[.int .i64 3, .int .i64 0]⟩
  · have hgi : ¬ (9223372036854775807 : Int) < (n : Int) := by omega
    have w1 : IntKind.i64.wrap (n : Int) = (n : Int) := IntWalk.i64_in _ (by omega)
    have w2 : IntKind.i64.wrap (-(n : Int)) = -(n : Int) := IntWalk.i64_in _ (by omega)
    cases below
    · have e : sizedD n false = .num n := by unfold sizedD; rw [if_neg (by simp)]; exact fitD_in _ ⟨by omega, by omega⟩
      rw [e]
      clear e hg hn
      go_enter Tryd.func48, Tryd.ntmps48
      go_wp2_with fail
      exact bodyPost_ret (v := .agg #[.int .i64 0, .int .i64 (n : Int)]) (by simp [results, Tryd.results48, go_sem]) rfl ⟨rfl, by simpa using hb #[.int .i64 0, .int .i64 (n : Int)]⟩
    · have e : sizedD n true = .num (-(n : Int)) := by unfold sizedD; rw [if_pos rfl]; exact fitD_in _ ⟨by omega, by omega⟩
      rw [e]
      clear e hg hn
      go_enter Tryd.func48, Tryd.ntmps48
      go_wp2_with fail
      exact bodyPost_ret (v := .agg #[.int .i64 0, .int .i64 (-(n : Int))]) (by simp [results, Tryd.results48, go_sem]) rfl ⟨rfl, by simpa using hb #[.int .i64 0, .int .i64 (-(n : Int))]⟩
end Go.Proofs.YteooaibbblfmjaaDoor.Char
