/- The walks of the document's own Digits, unit, plus. -/
import Derived.Test.YtgfempljihcleaaDoorLeast
namespace Go.Proofs.YtgfempljihcleaaDoor.Char
open Go.RowKit

/-- what a function leaves that makes a number: a slice of the call's own that holds its digits -/
def NumPost (w : World) (n : Nat) (e : Ending) (w' : World) : Prop := ∃ v, e = .returned v ∧ Holds w' v (dg n) ∧ Fresh w.heap.size v ∧ Below w.heap.size w w'

set_option maxRecDepth 100000 in
set_option maxHeartbeats 2000000 in
theorem digits_any (n : Nat) (w : World) (hn : n ≤ 18446744073709551615) :
    Calls Tryd.prog 34 #[.int .u64 (n : Int)] w (NumPost w n) := by
  have hlen := dg_len_le n 20 (by omega)
  obtain ⟨N, hN⟩ : ∃ N, N = n := ⟨_, rfl⟩
  have HN := Lib.hid hN
  clear hN
  rw [← HN.out]
  have hn' : N ≤ 18446744073709551615 := by have := HN.out; omega
  have hlen' : (dg N).length ≤ 20 := by rw [HN.out]; exact hlen
  clear HN hn hlen
  go_enter Tryd.func34, Tryd.ntmps34
  go_wp2_with fail
  go_loopw [0, 3] (fun i v wr => ∃ (m : Nat) (acc : List Nat), i = .int .u64 (m : Int) ∧ m ≤ N ∧ Owns w.heap.size wr v acc ∧ Below w.heap.size w wr ∧ Hid (acc ++ dg m = dg N)) (fun i _ _ => (intOf i).toNat)
  case atStart => exact ⟨N, [], rfl, Nat.le_refl _, Owns.nil _ _, Below.refl _ _, Lib.hid rfl⟩
  case round =>
    obtain ⟨m, acc, rfl, hm, hown, hbw, HA⟩ := hrel
    have hal : acc.length ≤ 20 := by
      have := congrArg List.length HA.out
      rw [List.length_append] at this
      omega
    by_cases h0 : 0 < m
    · have hA2 : (acc ++ [m % 10]) ++ dg (m / 10) = dg N := by rw [← HA.out, dg_step m (by omega), List.append_assoc]; rfl
      have HA2 := Lib.hid hA2
      clear HA hA2
      go_wp2_with (at_builtin; refine wpList_push rfl _ _ rfl (m % 10) hown rfl rfl hbw (by omega) (by omega) ?_)
      intro v' w1 hown2 hb1
      clear hown
      go_wp2_with fail
      go_roundw
      case rel => exact ⟨m / 10, acc ++ [m % 10], by simp, by omega, hown2, hb1, HA2⟩
      case measure => simp [intOf]; omega
    · obtain rfl : m = 0 := by omega
      have hacc := HA.out
      rw [dg_zero, List.append_nil] at hacc
      have HACC := Lib.hid hacc
      clear HA hacc h0
      go_wp2_with fail
      go_ret
      refine ⟨_, rfl, ?_, Owns.fresh hown, hbw⟩
      rw [← HACC.out]
      exact Owns.holds hown
end Go.Proofs.YtgfempljihcleaaDoor.Char
