/- The walks of the document's 'is a number within pairs', and of its Is. -/
import Derived.Test.YtffbooapdlpocaaDoorLists
import Derived.Test.YtffbooapdlpocaaDoorProg
import Derived.WalkKit
import Derived.Below
import Derived.Outline
import Derived.Lib.Hide
namespace Go.Proofs.YtffbooapdlpocaaDoor.Char
open Go.RowKit

set_option maxHeartbeats 400000 in
theorem in_any (b off len cap : Nat) (n : Int) (zs : List Int) (w : World) (hz : len = zs.length) (hbig : len ≤ 1000)
    (hc : ∀ j, j < zs.length → w.cell? ⟨b, off + j, none⟩ = some (.int .i64 (zs.getD j 0))) :
    Calls Tryd.prog 23 #[.int .i64 n, .slice (some ⟨b, off, none⟩) len cap] w fun e w' => e = .returned (.bool (inP zs n)) ∧ w = w' := by
  have HZ := Lib.hid hz
  clear hz
  obtain ⟨R, hR⟩ : ∃ R, R = inP zs n := ⟨_, rfl⟩
  rw [← hR]
  have HR := Lib.hid hR
  clear hR
  go_enter Tryd.func23, Tryd.ntmps23
  go_wp2
  go_loop [5] (fun i => ∃ k : Nat, 2 * k ≤ len ∧ i = .int .i64 ((2 * k : Nat) : Int) ∧ R = inP (zs.drop (2 * k)) n) (fun i => len - (intOf i).toNat)
  case atStart => exact ⟨0, Nat.zero_le _, rfl, by simpa using HR.out⟩
  case round =>
    obtain ⟨k, hk, rfl, hr⟩ := hrel
    by_cases hlt : 2 * k + 1 < len
    · have hs := inP_step zs n (2 * k) (by rw [← HZ.out]; omega)
      have hc0 := hc (2 * k) (by rw [← HZ.out]; omega)
      have hc1 := hc (2 * k + 1) (by rw [← HZ.out]; omega)
      generalize zs.getD (2 * k) 0 = lo at hc0 hs
      generalize zs.getD (2 * k + 1) 0 = hi at hc1 hs
      rw [← hr] at hs
      have HS := Lib.hid hs
      clear hc hs hr
      go_wp2
      · have h1 : lo ≤ n := by assumption
        have h2 : n ≤ hi := by assumption
        go_ret
        exact ⟨by rw [HS.out]; simp [h1, h2], rfl⟩
      all_goals
        have hx : (decide (lo ≤ n) && decide (n ≤ hi)) = false := by
          rw [Bool.and_eq_false_iff, decide_eq_false_iff_not, decide_eq_false_iff_not]
          omega
        rw [hx, Bool.false_or] at HS
        go_round
        case rel => exact ⟨k + 1, by omega, by go_num, HS.out⟩
        case measure => simp [intOf]; omega
    · have hf := inP_end zs n (2 * k) (by rw [← HZ.out]; exact hlt)
      rw [← hr] at hf
      have HF := Lib.hid hf
      clear hf hr
      go_wp2
      go_ret
      exact ⟨by rw [HF.out]; rfl, rfl⟩
theorem in_new (zs : List Int) (len cap : Nat) (C : Array Value) (n : Int) (w : World) (T : TypeId) (hC : C = (zs.map (Value.int .i64)).toArray) (hz : len = zs.length) (hbig : len ≤ 1000) :
    Calls Tryd.prog 23 #[.int .i64 n, .slice (some ⟨w.heap.size, 0, none⟩) len cap] (w.alloc (.cells C T)) fun e w' => e = .returned (.bool (inP zs n)) ∧ w.alloc (.cells C T) = w' := by
  refine in_any _ 0 len cap n zs _ hz hbig ?_
  intro j hj
  rw [Nat.zero_add, World.cell?_alloc_new, hC]
  simp [List.getD, List.getElem?_eq_getElem hj]

set_option maxHeartbeats 400000 in
theorem refIs_any (n : Int) (w : World) :
    Calls Tryd.prog 16 #[.int .i64 n] w fun e w' => e = .returned (.bool (isC n)) ∧ Below w.heap.size w w' := by
  go_enter Tryd.func16, Tryd.ntmps16
  go_wp2_with fail
  refine (in_new isL 12 12 _ n w _ rfl rfl (by decide)).mono ?_
  rintro e w' ⟨rfl, rfl⟩
  go_wp2_with fail
  go_ret
  exact ⟨rfl, (Below.refl _ _).alloc (Nat.le_refl _) _⟩

end Go.Proofs.YtffbooapdlpocaaDoor.Char
