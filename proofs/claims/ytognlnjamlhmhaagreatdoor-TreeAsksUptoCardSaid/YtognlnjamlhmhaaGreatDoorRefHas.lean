/- RefHas -/
import Derived.Test.YtognlnjamlhmhaaGreatDoorPkRtM
import Derived.Test.YtognlnjamlhmhaaGreatDoorPkRun
import Derived.Test.YtognlnjamlhmhaaGreatDoorPkGet
/- The walks of the document's own has, and of its small letters. -/
namespace Go.Proofs.YtognlnjamlhmhaaGreatDoor.Char
open Go.RowKit Go.Lib

theorem fnd_zero (l t : List UInt8) : decide (0 ≤ fnd l t 0) = Lib.contains l t := by
  unfold fnd Lib.contains
  rw [List.drop_zero]
  split
  · rename_i h; rw [h]
  · simp
set_option maxRecDepth 100000 in
set_option maxHeartbeats 4000000 in
theorem findB_any (l t : List UInt8) (p : Nat) (w : World) (hl : l.length ≤ 1048576) (hp : p ≤ 1048580) (ht : 0 < t.length) (ht2 : t.length ≤ 1000) :
    Calls Tryz.prog 70 #[.string (bs l), .int .i64 (p : Int), .string (bs t)] w fun e w' => e = .returned (.int .i64 (fnd l t p)) ∧ w = w' := by
  obtain ⟨R, hR⟩ : ∃ R, fnd l t p = R := ⟨_, rfl⟩
  rw [hR]
  have HR := Lib.hid hR
  have hsz := bs_size l
  have hst := bs_size t
  clear hR
  go_enter Tryz.func70, Tryz.ntmps70
  go_wp2_with fail
  go_loop [7] (fun v => ∃ k : Nat, v = .int .i64 (k : Int) ∧ k ≤ 1048590 ∧ Hid (p ≤ k ∧ fnd l t k = R)) (fun v => 1048600 - (RowKit.intOf v).toNat)
  case atStart => exact ⟨p, rfl, by omega, Lib.hid ⟨Nat.le_refl _, HR.out⟩⟩
  case round =>
    obtain ⟨k, rfl, hk, HK⟩ := hrel
    by_cases hlt : k + t.length ≤ l.length
    · have hsl := slice_mid6 l k (k + t.length) (by omega) hlt
      rw [show (((k + t.length : Nat)) : Int) = (k : Int) + (t.length : Int) by omega, Nat.add_sub_cancel_left] at hsl
      have hpt := pre_take t (l.drop k) (by rw [List.length_drop]; omega)
      cases hpre : t.isPrefixOf (l.drop k) with
      | true =>
        rw [hpre] at hpt
        have q : ((bs ((l.drop k).take t.length)).toList == (bs t).toList) = true := by rw [bs_tl, bs_tl]; exact hpt.symm
        have HX : Hid ((k : Int) = R) := Lib.hid (by rw [← HK.out.2, fnd_here hpre])
        clear hpt hpre
        generalize (l.drop k).take t.length = N at *
        go_wp2_with fail
        go_ret
        exact ⟨ret_i HX.out, rfl⟩
      | false =>
        rw [hpre] at hpt
        have q : ((bs ((l.drop k).take t.length)).toList == (bs t).toList) = false := by rw [bs_tl, bs_tl]; exact hpt.symm
        have HX : Hid (p ≤ k + 1 ∧ fnd l t (k + 1) = R) := Lib.hid ⟨by have := HK.out.1; omega, by rw [← HK.out.2, fnd_next (by omega) hpre]⟩
        clear hpt hpre
        generalize (l.drop k).take t.length = N at *
        go_wp2_with fail
        go_round
        case rel => exact ⟨k + 1, by go_num, by omega, HX⟩
        case measure => simp [RowKit.intOf]; omega
    · have HX : Hid ((-1 : Int) = R) := Lib.hid (by rw [← HK.out.2, fnd_end (by omega) ht])
      go_wp2_with fail
      go_ret
      exact ⟨ret_i HX.out, rfl⟩

set_option maxRecDepth 100000 in
set_option maxHeartbeats 4000000 in
theorem refHas_any (l t : List UInt8) (w : World) (hl : l.length ≤ 1048576) (ht : 0 < t.length) (ht2 : t.length ≤ 1000) :
    Calls Tryz.prog 87 #[.string (bs l), .string (bs t)] w fun e w' => e = .returned (.bool (Lib.contains l t)) ∧ w = w' := by
  have hF := findB_any l t 0 w hl (by omega) ht ht2
  rw [← fnd_zero]
  generalize fnd l t 0 = x at *
  rw [show ((0 : Nat) : Int) = 0 from rfl] at hF
  have HF := Lib.hid hF
  clear hF
  go_enter Tryz.func87, Tryz.ntmps87
  go_wp2_with fail
  refine HF.out.mono ?_
  rintro e w1 ⟨rfl, rfl⟩
  go_wp2_with fail
  go_ret
  exact ⟨rfl, rfl⟩
end Go.Proofs.YtognlnjamlhmhaaGreatDoor.Char
