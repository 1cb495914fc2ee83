/- The walk of the document's own minus. -/
import Derived.Test.YtncmmdhlponpoaaDigits
namespace Go.Proofs.Ytncmmdhlponpoaa.Char
open Go.RowKit

/-- the cell of a slice's element -/
theorem Holds.at_ {w : World} {v : Value} {l : List Nat} (h : Holds w v l) (k : Nat) (hk : k < l.length) :
    ∃ g cap, v = .slice (some ⟨g, 0, none⟩) l.length cap ∧ l.length ≤ cap ∧ g < w.heap.size ∧ w.cell? ⟨g, k, none⟩ = some (.int .i64 ((l.getD k 0 : Nat) : Int)) := by
  obtain ⟨a, cap, rfl, hc, _, h⟩ := h
  obtain ⟨g, rfl, h1, h2⟩ := h k hk
  exact ⟨g, cap, rfl, hc, h1, h2⟩

set_option maxRecDepth 100000 in
set_option maxHeartbeats 4000000 in
theorem minus_any (va vb : Value) (a b : Nat) (w : World) (ha : Holds w va (dg a)) (hb : Holds w vb (dg b)) (hna : (dg a).length ≤ 900) (hle : b ≤ a) :
    Calls Try.prog 45 #[va, vb] w (NumPost w (a - b)) := by
  have HHB := Lib.hid hb
  obtain ⟨A, capa, rfl, hca, _, hA⟩ := ha
  have HA := Lib.hid hA
  obtain ⟨B, capb, rfl, hcb, _, _⟩ := hb
  have hta := dg_len_lt a
  generalize hLa : (dg a).length = La at *
  have hda : ∀ j, j < La → (dg a).getD j 0 = a / 10 ^ j % 10 := fun j _ => dg_getD j a
  have HDA := Lib.hid hda
  have TA := Lib.hid hta
  have HLE := Lib.hid hle
  clear hLa hta hle hA hda
  go_enter Try.func45, Try.ntmps45
  go_wp2_with fail
  go_loopw [5, 6, 7, 8] (fun v c i _ wr => ∃ (k : Nat) (acc : List Nat) (cc : Nat), i = .int .i64 (k : Int) ∧ c = .int .i64 (cc : Int) ∧ k ≤ La ∧ acc.length = k ∧ cc ≤ 1 ∧ Hid (∀ d ∈ acc, d < 10) ∧
      Owns w.heap.size wr v acc ∧ Below w.heap.size w wr ∧ Hid (val acc + b % 10 ^ k = a % 10 ^ k + cc * 10 ^ k)) (fun _ _ i _ _ => La - (intOf i).toNat)
  case atStart => exact ⟨0, [], 0, rfl, rfl, by omega, rfl, by omega, Lib.hid (fun d hd => by cases hd), Owns.nil _ _, Below.refl _ _, Lib.hid (by simp [val, Nat.mod_one])⟩
  case round =>
    obtain ⟨k, acc, cc, rfl, rfl, hk, hal, hcc, HACC, hown, hbw, HV⟩ := hrel
    by_cases hlt : k < La
    · have hx : a / 10 ^ k % 10 < 10 := Nat.mod_lt _ (by omega)
      have hy : b / 10 ^ k % 10 < 10 := Nat.mod_lt _ (by omega)
      have CY := fun n => at_any _ (dg b) k (wr.drewN n) ((HHB.out.below hbw).below (kept_drewN (Below.refl _ _) n))
      simp only [dg_getD] at CY
      obtain ⟨g, rfl, hg, hcell⟩ := HA.out k hlt
      rw [HDA.out k hlt] at hcell
      have hcell := (hbw.cell (p := ⟨g, k, none⟩) hg).trans hcell
      have hstep := minus_step a b k (val acc) cc
      generalize a / 10 ^ k % 10 = x at *
      generalize b / 10 ^ k % 10 = y at *
      have HCY := Lib.hid CY
      have HAL := Lib.hid hal
      have hwb := hbw.size
      have hkb : k ≤ 900 := by omega
      have halb : acc.length ≤ 900 := by omega
      have hs1 : IntKind.i64.wrap ((x : Int) - (y : Int)) = (x : Int) - (y : Int) := IntWalk.i64_in _ (by omega)
      have hs2 : IntKind.i64.wrap ((x : Int) - (y : Int) - (cc : Int)) = (x : Int) - (y : Int) - (cc : Int) := IntWalk.i64_in _ (by omega)
      by_cases hneg : y + cc ≤ x
      · have hlt2 : ∀ d ∈ acc ++ [x - y - cc], d < 10 := snoc_lt HACC.out (by omega)
        have HLT := Lib.hid hlt2
        have hv : val (acc ++ [x - y - cc]) + b % 10 ^ (k + 1) = a % 10 ^ (k + 1) + 0 * 10 ^ (k + 1) := by
          rw [val_snoc, HAL.out]
          exact hstep _ 0 HV.out (by omega)
        have HV2 := Lib.hid hv
        clear hal hlt2 hv HV HACC hstep CY
        go_wp2_with fail
        go_quiet ((go_at_call 59; exact (HCY.out _).mono (fun e w' h => ⟨h.1, _, h.2.symm⟩)))
        have hown1 := hown.drewN nq
        have hb0 := kept_drewN hbw nq
        clear hown hbw
        go_wp2_with (at_builtin; refine wpList_push rfl _ _ rfl (x - y - cc) hown1 rfl rfl hb0 (by omega) (by omega) ?_)
        intro v' w1 hown2 hb1
        clear hown1
        go_wp2_with fail
        go_roundw
        case rel => exact ⟨k + 1, acc ++ [x - y - cc], 0, by go_num, rfl, by omega, by rw [List.length_append, HAL.out]; rfl, by omega, HLT, hown2, hb1, HV2⟩
        case measure => simp [intOf]; omega
      · have hlt2 : ∀ d ∈ acc ++ [x + 10 - y - cc], d < 10 := snoc_lt HACC.out (by omega)
        have HLT := Lib.hid hlt2
        have hv : val (acc ++ [x + 10 - y - cc]) + b % 10 ^ (k + 1) = a % 10 ^ (k + 1) + 1 * 10 ^ (k + 1) := by
          rw [val_snoc, HAL.out]
          exact hstep _ 1 HV.out (by omega)
        have HV2 := Lib.hid hv
        clear hal hlt2 hv HV HACC hstep CY
        go_wp2_with fail
        go_quiet ((go_at_call 59; exact (HCY.out _).mono (fun e w' h => ⟨h.1, _, h.2.symm⟩)))
        have hown1 := hown.drewN nq
        have hb0 := kept_drewN hbw nq
        clear hown hbw
        go_wp2_with (at_builtin; refine wpList_push rfl _ _ rfl (x + 10 - y - cc) hown1 rfl rfl hb0 (by omega) (by omega) ?_)
        intro v' w1 hown2 hb1
        clear hown1
        go_wp2_with fail
        go_roundw
        case rel => exact ⟨k + 1, acc ++ [x + 10 - y - cc], 1, by go_num, rfl, by omega, by rw [List.length_append, HAL.out]; rfl, by omega, HLT, hown2, hb1, HV2⟩
        case measure => simp [intOf]; omega
    · have hv : val acc = a - b := by
        have h1 := HV.out
        have h2 := TA.out
        have h3 := HLE.out
        have h4 := Nat.pow_le_pow_right (n := 10) (by omega) (show La ≤ k by omega)
        have h5 := val_lt acc HACC.out
        rw [hal] at h5
        rw [Nat.mod_eq_of_lt (by omega), Nat.mod_eq_of_lt (by omega)] at h1
        rcases Nat.lt_or_ge 0 cc with h6 | h6
        · obtain rfl : cc = 1 := by omega
          omega
        · obtain rfl : cc = 0 := by omega
          omega
      have hfin := trim_any _ acc wr (Owns.holds hown) HACC.out (by omega)
      unfold TrimPost at hfin
      rw [hv] at hfin
      have HFIN := Lib.hid hfin
      clear HV hv hfin
      go_wp2_with fail
      refine HFIN.out.mono ?_
      rintro e w1 ⟨v', rfl, hh, hf, rfl⟩
      go_wp2_with fail
      go_ret
      exact ⟨v', rfl, hh, (Owns.fresh hown).of_eq hf, hbw⟩
end Go.Proofs.Ytncmmdhlponpoaa.Char
