/- The walks of the document's own Digits, unit, plus. -/
import Derived.Test.YtncmmdhlponpoaaLeast
namespace Go.Proofs.Ytncmmdhlponpoaa.Char
open Go.RowKit

/-- what a function leaves that makes a number: a slice of the call's own that holds its digits -/
def NumPost (w : World) (n : Nat) (e : Ending) (w' : World) : Prop := ∃ v, e = .returned v ∧ Holds w' v (dg n) ∧ Fresh w.heap.size v ∧ Below w.heap.size w w'

set_option maxRecDepth 100000 in
set_option maxHeartbeats 2000000 in
theorem digits_any (n : Nat) (w : World) (hn : n ≤ 18446744073709551615) :
    Calls Try.prog 56 #[.int .u64 (n : Int)] w (NumPost w n) := by
  have hlen := dg_len_le n 20 (by omega)
  obtain ⟨N, hN⟩ : ∃ N, N = n := ⟨_, rfl⟩
  have HN := Lib.hid hN
  clear hN
  rw [← HN.out]
  have hn' : N ≤ 18446744073709551615 := by have := HN.out; omega
  have hlen' : (dg N).length ≤ 20 := by rw [HN.out]; exact hlen
  clear HN hn hlen
  go_enter Try.func56, Try.ntmps56
  go_wp2_with fail
  go_loopw [0, 3] (fun i v wr => ∃ (m : Nat) (acc : List Nat), i = .int .u64 (m : Int) ∧ m ≤ N ∧ Owns w.heap.size wr v acc ∧ Below w.heap.size w wr ∧ Hid (acc ++ dg m = dg N)) (fun i _ _ => (intOf i).toNat)
  case atStart => exact ⟨N, [], rfl, Nat.le_refl _, Owns.nil _ _, Below.refl _ _, Lib.hid rfl⟩
  case round =>
    obtain ⟨m, acc, rfl, hm, hown, hbw, HA⟩ := hrel
    have hal : acc.length ≤ 20 := by
      have := congrArg List.length HA.out
      rw [List.length_append] at this
      omega
    by_cases h0 : 0 < m
    · have hA2 : (acc ++ [m % 10]) ++ dg (m / 10) = dg N := by rw [← HA.out, dg_step m (by omega), List.append_assoc]; rfl
      have HA2 := Lib.hid hA2
      clear HA hA2
      go_wp2_with (at_builtin; refine wpList_push rfl _ _ rfl (m % 10) hown rfl rfl hbw (by omega) (by omega) ?_)
      intro v' w1 hown2 hb1
      clear hown
      go_wp2_with fail
      go_roundw
      case rel => exact ⟨m / 10, acc ++ [m % 10], by simp, by omega, hown2, hb1, HA2⟩
      case measure => simp [intOf]; omega
    · obtain rfl : m = 0 := by omega
      have hacc := HA.out
      rw [dg_zero, List.append_nil] at hacc
      have HACC := Lib.hid hacc
      clear HA hacc h0
      go_wp2_with fail
      go_ret
      refine ⟨_, rfl, ?_, Owns.fresh hown, hbw⟩
      rw [← HACC.out]
      exact Owns.holds hown

set_option maxRecDepth 100000 in
set_option maxHeartbeats 1000000 in
theorem unit_any (w : World) : Calls Try.prog 52 #[] w (NumPost w 1000000) := by
  go_enter Try.func52, Try.ntmps52
  go_wp2_with fail
  refine (digits_any 1000000 w (by omega)).mono ?_
  rintro e w1 ⟨v, rfl, h1, h2, h3⟩
  go_wp2_with fail
  go_ret
  exact ⟨v, rfl, h1, h2, h3⟩

set_option maxRecDepth 100000 in
set_option maxHeartbeats 4000000 in
theorem plus_any (va vb : Value) (a b : Nat) (w : World) (ha : Holds w va (dg a)) (hb : Holds w vb (dg b)) (hna : (dg a).length ≤ 900) (hnb : (dg b).length ≤ 900) :
    Calls Try.prog 43 #[va, vb] w (NumPost w (a + b)) := by
  have HHA := Lib.hid ha
  have HHB := Lib.hid hb
  obtain ⟨A, capa, rfl, hca, _, _⟩ := ha
  obtain ⟨B, capb, rfl, hcb, _, _⟩ := hb
  have hoa := dg_over a
  have hob := dg_over b
  have hta := dg_len_lt a
  have htb := dg_len_lt b
  generalize hLa : (dg a).length = La at *
  generalize hLb : (dg b).length = Lb at *
  have OA := Lib.hid hoa
  have OB := Lib.hid hob
  have TA := Lib.hid hta
  have TB := Lib.hid htb
  clear hLa hLb hoa hob hta htb
  go_enter Try.func43, Try.ntmps43
  go_wp2_with fail
  go_loopw [5, 6, 7, 8] (fun v c i _ wr => ∃ (k : Nat) (acc : List Nat) (cc : Nat), i = .int .i64 (k : Int) ∧ c = .int .i64 (cc : Int) ∧ k ≤ max La Lb + 1 ∧ acc.length = k ∧ cc ≤ 1 ∧ Hid (∀ d ∈ acc, d < 10) ∧
      Owns w.heap.size wr v acc ∧ Below w.heap.size w wr ∧ Hid (val acc + cc * 10 ^ k = a % 10 ^ k + b % 10 ^ k)) (fun _ _ i _ _ => 2000 - (intOf i).toNat)
  case atStart => exact ⟨0, [], 0, rfl, rfl, by omega, rfl, by omega, Lib.hid (fun d hd => by cases hd), Owns.nil _ _, Below.refl _ _, Lib.hid (by simp [val, Nat.mod_one])⟩
  case round =>
    obtain ⟨k, acc, cc, rfl, rfl, hk, hal, hcc, HACC, hown, hbw, HV⟩ := hrel
    have hx : a / 10 ^ k % 10 < 10 := Nat.mod_lt _ (by omega)
    have hy : b / 10 ^ k % 10 < 10 := Nat.mod_lt _ (by omega)
    have CX := at_any _ (dg a) k wr (HHA.out.below hbw)
    have CY := at_any _ (dg b) k wr (HHB.out.below hbw)
    rw [dg_getD] at CX CY
    have hst := plus_step a b k (val acc) cc HV.out
    have hna2 := OA.out k
    have hnb2 := OB.out k
    generalize a / 10 ^ k % 10 = x at *
    generalize b / 10 ^ k % 10 = y at *
    have HCX := Lib.hid CX
    have HCY := Lib.hid CY
    have HST := Lib.hid hst
    clear CX CY hst
    by_cases hgo : k < La ∨ k < Lb ∨ 0 < cc
    · have hk2 : k ≤ max La Lb := by
        rcases Nat.lt_or_ge (max La Lb) k with h | h
        · have h1 := HV.out
          rw [(hna2 (by omega)).1, (hnb2 (by omega)).1] at h1
          have h2 := Nat.pow_le_pow_right (n := 10) (by omega) (show La ≤ max La Lb by omega)
          have h3 := Nat.pow_le_pow_right (n := 10) (by omega) (show Lb ≤ max La Lb by omega)
          have h4 : 10 ^ k = 10 * 10 ^ (max La Lb) := by rw [show k = max La Lb + 1 by omega, Nat.pow_succ']
          have h5 : cc = 1 := by omega
          have h6 := TA.out
          have h7 := TB.out
          rw [h5, h4] at h1
          omega
        · exact h
      have HK2 := Lib.hid hk2
      have ed : Value.int .i64 (((x + y + cc) / 10 : Nat) : Int) = Value.int .i64 (((x : Int) + (y : Int) + (cc : Int)) / 10) := by congr 1
      have HED := Lib.hid ed
      have HAL := Lib.hid hal
      have hkb : k ≤ 901 := by omega
      have halb : acc.length ≤ 901 := by omega
      have hlt : ∀ d ∈ acc ++ [(x + y + cc) % 10], d < 10 := snoc_lt HACC.out (Nat.mod_lt _ (by omega))
      have HLT := Lib.hid hlt
      have hv : val (acc ++ [(x + y + cc) % 10]) + (x + y + cc) / 10 * 10 ^ (k + 1) = a % 10 ^ (k + 1) + b % 10 ^ (k + 1) := by rw [val_snoc, HAL.out]; exact HST.out
      have HV2 := Lib.hid hv
      clear hna2 hnb2 hk2 ed hal hlt hv HST HV HACC
      have hgo3 : k < La ∨ (¬ k < La ∧ k < Lb) ∨ (¬ k < La ∧ ¬ k < Lb ∧ 0 < cc) := by omega
      clear hgo
      rcases hgo3 with h1 | ⟨h1, h2⟩ | ⟨h1, h2, h3⟩
      all_goals
        go_wp2_with fail
        refine HCX.out.mono ?_
        rintro e w1 ⟨rfl, rfl⟩
        go_wp2_with fail
        refine HCY.out.mono ?_
        rintro e w1 ⟨rfl, rfl⟩
        go_wp2_with (at_builtin; refine wpList_push rfl _ _ rfl ((x + y + cc) % 10) hown rfl rfl hbw (by omega) (by omega) ?_)
        intro v' w1 hown2 hb1
        clear hown
        go_wp2_with fail
        go_roundw
        case rel => exact ⟨k + 1, acc ++ [(x + y + cc) % 10], (x + y + cc) / 10, by go_num, HED.out.symm, by have := HK2.out; omega, by rw [List.length_append, HAL.out]; rfl, by omega, HLT, hown2, hb1, HV2⟩
        case measure => simp [intOf]; omega
    · have h1 : ¬ k < La := by omega
      have h2 : ¬ k < Lb := by omega
      have h3 : cc = 0 := by omega
      have hv := HV.out
      rw [h3, (hna2 (by omega)).1, (hnb2 (by omega)).1, Nat.zero_mul, Nat.add_zero] at hv
      have hfin := trim_any _ acc wr (Owns.holds hown) HACC.out (by omega)
      unfold TrimPost at hfin
      rw [hv] at hfin
      have HFIN := Lib.hid hfin
      subst h3
      clear hna2 hnb2 hgo HV HCX HCY HST hv hfin
      go_wp2_with fail
      refine HFIN.out.mono ?_
      rintro e w1 ⟨v', rfl, hh, hf, rfl⟩
      go_wp2_with fail
      go_ret
      exact ⟨v', rfl, hh, (Owns.fresh hown).of_eq hf, hbw⟩
end Go.Proofs.Ytncmmdhlponpoaa.Char
