/- The walks of figure's small questions (a digit? a point?) and of the closure that takes bytes off a text as long as a question says yes. -/
import Derived.Test.YteooaibbblfmjaaDoorStr
import Derived.Test.YteooaibbblfmjaaDoorLeast
import Derived.Deep.DeepCutAuto
namespace Go.Proofs.YteooaibbblfmjaaDoor.Char
open Go.RowKit Go.Lib

theorem digit_any (b : UInt8) (w : World) : Calls Tryd.prog 55 #[.int .u8 (b.toNat : Int)] w fun e w' => e = .returned (.bool (digB b)) ∧ w = w' := by
  unfold digB
  by_cases h1 : 48 ≤ b.toNat
  · rw [decide_eq_true h1]
    generalize b.toNat = n at *
    go_enter Tryd.func55, Tryd.ntmps55
    go_wp2_with fail
    go_ret
    exact ⟨ret_bool (by rw [Bool.true_and]; exact decide_eq_decide.2 (by omega)), rfl⟩
  · rw [decide_eq_false h1]
    generalize b.toNat = n at *
    go_enter Tryd.func55, Tryd.ntmps55
    go_wp2_with fail
    go_ret
    exact ⟨rfl, rfl⟩
theorem point_any (b : UInt8) (w : World) : Calls Tryd.prog 56 #[.int .u8 (b.toNat : Int)] w fun e w' => e = .returned (.bool (ptB b)) ∧ w = w' := by
  unfold ptB
  cases h : (b.toNat == 46)
  · have h' : ((b.toNat : Int) == 46) = false := by rw [beq_eq_false_iff_ne] at h ⊢; omega
    clear h
    go_enter Tryd.func56, Tryd.ntmps56
    go_wp2_with fail
    go_ret
    exact ⟨rfl, rfl⟩
  · have h' : ((b.toNat : Int) == 46) = true := by rw [beq_iff_eq] at h ⊢; omega
    clear h
    go_enter Tryd.func56, Tryd.ntmps56
    go_wp2_with fail
    go_ret
    exact ⟨rfl, rfl⟩

/-- a question that a function value answers -/
def Asks (g : Nat) (p : UInt8 → Bool) : Prop := (∀ args w, (callFunc g args).run Tryd.prog w = .ok (.enter g args) w) ∧ ∀ (b : UInt8) (W : World), Calls Tryd.prog g #[.int .u8 (b.toNat : Int)] W fun e w' => e = .returned (.bool (p b)) ∧ W = w'
theorem asks_digit : Asks 55 digB := ⟨enters_of Tryd.func55 (by kernel_rfl) rfl, digit_any⟩
theorem asks_point : Asks 56 ptB := ⟨enters_of Tryd.func56 (by kernel_rfl) rfl, point_any⟩

theorem while_step (p : UInt8 → Bool) (l : List UInt8) (k : Nat) (h : k < l.length) : l.takeWhile p = l.take k ++ (l.drop k).takeWhile p → p (l.getD k 0) = true → l.takeWhile p = l.take (k + 1) ++ (l.drop (k + 1)).takeWhile p := by
  intro e hp
  have hg : l.getD k 0 = l[k] := by simp [List.getD, List.getElem?_eq_getElem h]
  rw [hg] at hp
  rw [e, List.drop_eq_getElem_cons h, List.takeWhile_cons, if_pos hp, List.take_succ_eq_append_getElem h, List.append_assoc]
  rfl
theorem while_stop (p : UInt8 → Bool) (l : List UInt8) (k : Nat) (e : l.takeWhile p = l.take k ++ (l.drop k).takeWhile p) (hp : k < l.length → p (l.getD k 0) = false) : l.takeWhile p = l.take k ∧ l.dropWhile p = l.drop k := by
  have h1 : (l.drop k).takeWhile p = [] := by
    by_cases h : k < l.length
    · have hg : l.getD k 0 = l[k] := by simp [List.getD, List.getElem?_eq_getElem h]
      have := hp h
      rw [hg] at this
      rw [List.drop_eq_getElem_cons h, List.takeWhile_cons, if_neg (by rw [this]; simp)]
    · rw [List.drop_eq_nil_of_le (by omega)]
      rfl
  rw [h1, List.append_nil] at e
  refine ⟨e, ?_⟩
  have h2 := List.takeWhile_append_dropWhile (p := p) (l := l)
  rw [e] at h2
  have h3 := List.take_append_drop k l
  exact List.append_cancel_left (h2.trans h3.symm)

set_option maxRecDepth 100000 in
set_option maxHeartbeats 2000000 in
theorem take_any (g : Nat) (p : UInt8 → Bool) (hg : Asks g p) (R : Nat) (l : List UInt8) (w : World) (hl : l.length ≤ 500) (hc : w.cell? ⟨R, 0, none⟩ = some (.string (bs l))) (hf : w.frozen? ⟨R, 0, none⟩ = false) :
    Calls Tryd.prog 54 #[.func (.func g) #[] #[], .pointer (some ⟨R, 0, none⟩)] w fun e w' => e = .returned (.string (bs (l.takeWhile p))) ∧ w' = w.setCell ⟨R, 0, none⟩ (.string (bs (l.dropWhile p))) := by
  have eg := hg.1
  have HC := Lib.hid hg.2
  obtain ⟨X, hX⟩ : ∃ X, l.takeWhile p = X := ⟨_, rfl⟩
  obtain ⟨Y, hY⟩ : ∃ Y, l.dropWhile p = Y := ⟨_, rfl⟩
  rw [hX, hY]
  have HX := Lib.hid hX
  have HY := Lib.hid hY
  clear hX hY
  have hsz := bs_size l
  have HSZ := Lib.hid hsz
  clear hg
  go_enter Tryd.func54, Tryd.ntmps54
  go_wp2_with fail
  go_loop [4] (fun i => ∃ k : Nat, k ≤ l.length ∧ i = .int .i64 (k : Int) ∧ Hid (l.takeWhile p = l.take k ++ (l.drop k).takeWhile p)) (fun i => l.length - (RowKit.intOf i).toNat)
  case atStart => exact ⟨0, Nat.zero_le _, rfl, Lib.hid (by simp)⟩
  case round =>
    obtain ⟨k, hk, rfl, HK⟩ := hrel
    by_cases hlt : k < l.length
    · have hlt' : k < (bs l).size := by rw [hsz]; exact hlt
      have hgt := bs_get l k hlt'
      have hw := while_step p l k hlt HK.out
      have hst := while_stop p l k HK.out
      clear HK
      cases hp : p (l.getD k 0) with
      | true =>
        have hpv : p ((bs l)[k]'hlt') = true := by rw [hgt]; exact hp
        have HW := Lib.hid (hw hp)
        clear hgt hw hst hp
        go_wp2_with fail
        refine (HC.out _ _).mono ?_
        rintro e w1 ⟨rfl, rfl⟩
        rw [hpv]
        go_wp2_with fail
        go_round
        case rel => exact ⟨k + 1, by omega, by go_num, HW⟩
        case measure => simp [RowKit.intOf]; omega
      | false =>
        have hpv : p ((bs l)[k]'hlt') = false := by rw [hgt]; exact hp
        have ⟨h1, h2⟩ := hst (fun _ => hp)
        have e1 : (bs l).extract 0 k = bs X := by rw [bs_ext, ← HX.out, h1]; simp
        have e2 : (bs l).extract k (bs l).size = bs Y := by rw [bs_ext, bs_size, List.take_of_length_le (by rw [List.length_drop]; exact Nat.le_refl _), ← HY.out, h2]
        clear hgt hw hst hp h1 h2 HX HY
        have E1 := Lib.hid e1
        have E2 := Lib.hid e2
        clear e1 e2
        go_wp2_with fail
        refine (HC.out _ _).mono ?_
        rintro e w1 ⟨rfl, rfl⟩
        rw [hpv]
        go_wp2_with fail
        go_ret
        exact ⟨by rw [← E1.out]; rfl, by rw [← E2.out, HSZ.out]⟩
    · have ⟨h1, h2⟩ := while_stop p l k HK.out (fun h => absurd h hlt)
      have e1 : (bs l).extract 0 k = bs X := by rw [bs_ext, ← HX.out, h1]; simp
      have e2 : (bs l).extract k (bs l).size = bs Y := by rw [bs_ext, bs_size, List.take_of_length_le (by rw [List.length_drop]; exact Nat.le_refl _), ← HY.out, h2]
      clear HK h1 h2 HX HY
      have E1 := Lib.hid e1
      have E2 := Lib.hid e2
      clear e1 e2
      go_wp2_with fail
      go_ret
      exact ⟨by rw [← E1.out]; rfl, by rw [← E2.out, HSZ.out]⟩
end Go.Proofs.YteooaibbblfmjaaDoor.Char
