/- The walks of package dec's size, sized, Right, part, sum. -/
import Derived.Test.YtncmmdhlponpoaaSort
namespace Go.Proofs.Ytncmmdhlponpoaa.Char
open Go.RowKit

theorem ret_u64 {a b : Int} (h : a = b) : Ending.returned (.int .u64 a) = .returned (.int .u64 b) := by rw [h]

set_option maxRecDepth 100000 in
set_option maxHeartbeats 1000000 in
theorem size_any (v : Int) (w : World) (h1 : -9223372036854775808 ≤ v) (h2 : v ≤ 9223372036854775807) :
    Calls Try.prog 58 #[.int .i64 v] w fun e w' => e = .returned (.int .u64 (v.natAbs : Int)) ∧ w = w' := by
  by_cases hv : v < 0
  · have e1 : IntKind.u64.wrap (-IntKind.u64.wrap v) = (v.natAbs : Int) := by rw [IntKind.wrap_u64, IntKind.wrap_u64]; omega
    have E1 := Lib.hid e1
    clear e1 h1 h2
    go_enter Try.func58, Try.ntmps58
    go_wp2_with fail
    go_ret
    exact ⟨ret_u64 E1.out, rfl⟩
  · have e1 : IntKind.u64.wrap v = (v.natAbs : Int) := by rw [IntKind.wrap_u64]; omega
    have E1 := Lib.hid e1
    clear e1 h1 h2
    go_enter Try.func58, Try.ntmps58
    go_wp2_with fail
    go_ret
    exact ⟨ret_u64 E1.out, rfl⟩

/-- a number by its size and its side -/
def sizedD (n : Nat) (below : Bool) : Nm := fitD (if below then -(n : Int) else (n : Int))
theorem decV_num (n : Int) : decV (.num n) = .agg #[.int .i64 0, .int .i64 n] := rfl
theorem ret_agg {a b c d : Int} (h : a = c) (h2 : b = d) : Ending.returned (.agg #[.int .i64 a, .int .i64 b]) = .returned (.agg #[.int .i64 c, .int .i64 d]) := by rw [h, h2]

set_option maxRecDepth 100000 in
set_option maxHeartbeats 1000000 in
theorem sized_any (n : Nat) (below : Bool) (w : World) (hn : n ≤ 18446744073709551615) :
    Calls Try.prog 57 #[.int .u64 (n : Int), .bool below] w fun e w' => e = .returned (decV (sizedD n below)) ∧ Below w.heap.size w w' := by
  have hb := fun o => (Below.refl w.heap.size w).alloc (Nat.le_refl _) (Obj.cells o 23)
  by_cases hg : 9223372036854775807 < n
  · have hgi : (9223372036854775807 : Int) < (n : Int) := by omega
    cases below
    · have e : sizedD n false = .over := by unfold sizedD fitD; rw [if_pos (by simpa using hgi)]
      rw [e]
      clear e hg hn
      go_enter Try.func57, Try.ntmps57
      go_wp2_with fail
      exact bodyPost_ret (v := .agg #[.int .i64 2, .int .i64 0]) (by simp [results, Try.results57, go_sem]) rfl ⟨rfl, by simpa using hb #[.int .i64 2, .int .i64 0]⟩
    · have e : sizedD n true = .under := by
        show fitD (-(n : Int)) = .under
        unfold fitD
        rw [if_neg (by omega), if_pos (by omega)]
      rw [e]
      clear e hg hn
      go_enter Try.func57, Try.ntmps57
      go_wp2_with fail
      exact bodyPost_ret (v := .agg #[.int .i64 3, .int .i64 0]) (by simp [results, Try.results57, go_sem]) rfl ⟨rfl, by simpa using hb #[.int .i64 3, .int .i64 0]⟩
  · have hgi : ¬ (9223372036854775807 : Int) < (n : Int) := by omega
    have w1 : IntKind.i64.wrap (n : Int) = (n : Int) := IntWalk.i64_in _ (by omega)
    have w2 : IntKind.i64.wrap (-(n : Int)) = -(n : Int) := IntWalk.i64_in _ (by omega)
    cases below
    · have e : sizedD n false = .num n := by unfold sizedD; rw [if_neg (by simp)]; exact fitD_in _ ⟨by omega, by omega⟩
      rw [e]
      clear e hg hn
      go_enter Try.func57, Try.ntmps57
      go_wp2_with fail
      exact bodyPost_ret (v := .agg #[.int .i64 0, .int .i64 (n : Int)]) (by simp [results, Try.results57, go_sem]) rfl ⟨rfl, by simpa using hb #[.int .i64 0, .int .i64 (n : Int)]⟩
    · have e : sizedD n true = .num (-(n : Int)) := by unfold sizedD; rw [if_pos rfl]; exact fitD_in _ ⟨by omega, by omega⟩
      rw [e]
      clear e hg hn
      go_enter Try.func57, Try.ntmps57
      go_wp2_with fail
      exact bodyPost_ret (v := .agg #[.int .i64 0, .int .i64 (-(n : Int))]) (by simp [results, Try.results57, go_sem]) rfl ⟨rfl, by simpa using hb #[.int .i64 0, .int .i64 (-(n : Int))]⟩
end Go.Proofs.Ytncmmdhlponpoaa.Char
