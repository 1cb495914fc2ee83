/- The walks of 'is a number a space': the program's and the document's. -/
import Derived.Test.YteooaibbblfmjaaDoorLists
import Derived.Test.YteooaibbblfmjaaDoorProg
import Derived.WalkKit
import Derived.Below
import Derived.Outline
import Derived.Lib.Hide
import Derived.Deep.WholeRow
import Derived.Great.BuildSlice
namespace Go.Proofs.YteooaibbblfmjaaDoor.Char
open Go.RowKit

set_option maxHeartbeats 400000 in
theorem within_any (b off len cap : Nat) (n : Int) (zs : List Int) (w : World) (hz : 2 * len = zs.length) (hbig : len ≤ 1000) (hbl : b < w.heap.size)
    (hc : ∀ j, j < zs.length → w.cell? ⟨b, off + j, none⟩ = some (.int .i32 (zs.getD j 0))) :
    Calls Tryd.prog 53 #[.slice (some ⟨b, off, none⟩) len cap, .int .i32 n] w fun e w' => e = .returned (.bool (inP zs n)) ∧ Below w.heap.size w w' := by
  have HZ := Lib.hid hz
  clear hz
  obtain ⟨R, hR⟩ : ∃ R, R = inP zs n := ⟨_, rfl⟩
  rw [← hR]
  have HR := Lib.hid hR
  clear hR
  go_enter Tryd.func53, Tryd.ntmps53
  go_wp2
  go_loopw [9] (fun i wr => ∃ k : Nat, k ≤ len ∧ i = .int .i64 (k : Int) ∧ R = inP (zs.drop (2 * k)) n ∧ Below w.heap.size w wr) (fun i _ => len - (intOf i).toNat)
  case atStart => exact ⟨0, Nat.zero_le _, rfl, by simpa using HR.out, Below.refl _ _⟩
  case round =>
    obtain ⟨k, hk, rfl, hr, hb⟩ := hrel
    by_cases hlt : k < len
    · have hs := inP_step zs n (2 * k) (by rw [← HZ.out]; omega)
      have hc0 : wr.cell? ⟨b, off + k * 2, none⟩ = some (.int .i32 (zs.getD (2 * k) 0)) := by
        rw [Nat.mul_comm k 2]
        exact (hb.cell (p := ⟨b, off + 2 * k, none⟩) hbl).trans (hc (2 * k) (by rw [← HZ.out]; omega))
      have hc1 : wr.cell? ⟨b, off + k * 2 + 1, none⟩ = some (.int .i32 (zs.getD (2 * k + 1) 0)) := by
        rw [Nat.mul_comm k 2, Nat.add_assoc]
        exact (hb.cell (p := ⟨b, off + (2 * k + 1), none⟩) hbl).trans (hc (2 * k + 1) (by rw [← HZ.out]; omega))
      generalize zs.getD (2 * k) 0 = lo at hc0 hs
      generalize zs.getD (2 * k + 1) 0 = hi at hc1 hs
      rw [← hr] at hs
      have HS := Lib.hid hs
      clear hc hs hr
      have hb1 := hb.alloc hb.size (Obj.cells #[Value.int IntKind.i32 lo, Value.int IntKind.i32 hi] 99)
      go_wp2
      · have h1 : lo ≤ n := by assumption
        have h2 : n ≤ hi := by assumption
        go_ret
        exact ⟨by rw [HS.out]; simp [h1, h2], hb1⟩
      all_goals
        have hx : (decide (lo ≤ n) && decide (n ≤ hi)) = false := by
          rw [Bool.and_eq_false_iff, decide_eq_false_iff_not, decide_eq_false_iff_not]
          omega
        rw [hx, Bool.false_or] at HS
        go_roundw
        case rel => exact ⟨k + 1, by omega, by go_num, HS.out, hb1⟩
        case measure => simp [intOf]; omega
    · have hf := inP_end zs n (2 * k) (by rw [← HZ.out]; omega)
      rw [← hr] at hf
      have HF := Lib.hid hf
      clear hf hr
      go_wp2
      go_ret
      exact ⟨by rw [HF.out]; rfl, hb⟩

theorem within_new (zs : List Int) (len cap : Nat) (C : Array Value) (n : Int) (w : World) (T : TypeId) (hC : C = (zs.map (Value.int .i32)).toArray) (hz : 2 * len = zs.length) (hbig : len ≤ 1000) :
    Calls Tryd.prog 53 #[.slice (some ⟨w.heap.size, 0, none⟩) len cap, .int .i32 n] (w.alloc (.cells C T)) fun e w' => e = .returned (.bool (inP zs n)) ∧ Below w.heap.size w w' := by
  refine (within_any _ 0 len cap n zs _ hz hbig (by simp) ?_).mono ?_
  · intro j hj
    rw [Nat.zero_add, World.cell?_alloc_new, hC]
    simp [List.getD, List.getElem?_eq_getElem hj]
  · rintro e w' ⟨he, hb⟩
    exact ⟨he, ((Below.refl _ _).alloc (Nat.le_refl _) _).trans (hb.mono (by simp))⟩

def spM : List Int := [9, 10, 13, 13, 0x20, 0x20]
theorem spM_eq (n : Int) : inP spM n = spC n := by
  unfold spC spM
  simp only [inP]
  rw [Bool.eq_iff_iff]
  simp only [Bool.or_eq_true, Bool.and_eq_true, decide_eq_true_eq, Bool.false_eq_true, or_false, beq_iff_eq]
  omega

set_option maxHeartbeats 400000 in
theorem space_any (n : Int) (w : World) :
    Calls Tryd.prog 34 #[.int .i32 n] w fun e w' => e = .returned (.bool (spC n)) ∧ Below w.heap.size w w' := by
  go_enter Tryd.func34, Tryd.ntmps34
  go_wp2_with fail
  refine (within_new spM 3 3 _ n w _ rfl rfl (by decide)).mono ?_
  rintro e w' ⟨rfl, hb⟩
  go_wp2_with fail
  go_ret
  exact ⟨by rw [← spM_eq]; rfl, hb⟩

end Go.Proofs.YteooaibbblfmjaaDoor.Char
