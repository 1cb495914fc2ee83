/- The walk of the document's 'is a number within pairs of a first and a last one'. -/
import Derived.Test.YtaiglcjeikcboaaDoorProg
import Derived.WalkKit
import Derived.Below
import Derived.Outline
import Derived.Lib.Hide
namespace Go.Proofs.YtaiglcjeikcboaaDoor.Char
open Go.RowKit

/-- a number is within pairs of a first and a last one -/
def inP : List Int → Int → Bool
  | a :: b :: r, n => (decide (a ≤ n) && decide (n ≤ b)) || inP r n
  | _, _ => false

theorem inP_step (zs : List Int) (n : Int) (k : Nat) (h : k + 1 < zs.length) :
    inP (zs.drop k) n = ((decide (zs.getD k 0 ≤ n) && decide (n ≤ zs.getD (k + 1) 0)) || inP (zs.drop (k + 2)) n) := by
  have e1 : zs.drop k = zs.getD k 0 :: zs.getD (k + 1) 0 :: zs.drop (k + 2) := by
    rw [List.drop_eq_getElem_cons (by omega : k < zs.length), List.drop_eq_getElem_cons (by omega : k + 1 < zs.length)]
    simp [List.getD, List.getElem?_eq_getElem h, List.getElem?_eq_getElem (by omega : k < zs.length)]
  rw [e1]
  rfl
theorem inP_end (zs : List Int) (n : Int) (k : Nat) (h : ¬ k + 1 < zs.length) : inP (zs.drop k) n = false := by
  have : (zs.drop k).length ≤ 1 := by simp; omega
  match zs.drop k, this with
  | [], _ => rfl
  | [_], _ => rfl
  | _ :: _ :: _, h2 => simp at h2

set_option maxHeartbeats 400000 in
theorem in_any (b off len cap : Nat) (n : Int) (zs : List Int) (w : World) (hz : len = zs.length) (hbig : len ≤ 1000)
    (hc : ∀ j, j < zs.length → w.cell? ⟨b, off + j, none⟩ = some (.int .i64 (zs.getD j 0))) :
    Calls Tryd.prog 24 #[.int .i64 n, .slice (some ⟨b, off, none⟩) len cap] w fun e w' => e = .returned (.bool (inP zs n)) ∧ w = w' := by
  have HZ := Lib.hid hz
  clear hz
  obtain ⟨R, hR⟩ : ∃ R, R = inP zs n := ⟨_, rfl⟩
  rw [← hR]
  have HR := Lib.hid hR
  clear hR
  go_enter Tryd.func24, Tryd.ntmps24
  go_wp2
  go_loop [5] (fun i => ∃ k : Nat, 2 * k ≤ len ∧ i = .int .i64 ((2 * k : Nat) : Int) ∧ R = inP (zs.drop (2 * k)) n) (fun i => len - (intOf i).toNat)
  case atStart => exact ⟨0, Nat.zero_le _, rfl, by simpa using HR.out⟩
  case round =>
    obtain ⟨k, hk, rfl, hr⟩ := hrel
    by_cases hlt : 2 * k + 1 < len
    · have hs := inP_step zs n (2 * k) (by rw [← HZ.out]; omega)
      have hc0 := hc (2 * k) (by rw [← HZ.out]; omega)
      have hc1 := hc (2 * k + 1) (by rw [← HZ.out]; omega)
      generalize zs.getD (2 * k) 0 = lo at hc0 hs
      generalize zs.getD (2 * k + 1) 0 = hi at hc1 hs
      rw [← hr] at hs
      have HS := Lib.hid hs
      clear hc hs hr
      go_wp2
      · have h1 : lo ≤ n := by assumption
        have h2 : n ≤ hi := by assumption
        go_ret
        exact ⟨by rw [HS.out]; simp [h1, h2], rfl⟩
      all_goals
        have hx : (decide (lo ≤ n) && decide (n ≤ hi)) = false := by
          rw [Bool.and_eq_false_iff, decide_eq_false_iff_not, decide_eq_false_iff_not]
          omega
        rw [hx, Bool.false_or] at HS
        go_round
        case rel => exact ⟨k + 1, by omega, by go_num, HS.out⟩
        case measure => simp [intOf]; omega
    · have hf := inP_end zs n (2 * k) (by rw [← HZ.out]; exact hlt)
      rw [← hr] at hf
      have HF := Lib.hid hf
      clear hf hr
      go_wp2
      go_ret
      exact ⟨by rw [HF.out]; rfl, rfl⟩
end Go.Proofs.YtaiglcjeikcboaaDoor.Char
