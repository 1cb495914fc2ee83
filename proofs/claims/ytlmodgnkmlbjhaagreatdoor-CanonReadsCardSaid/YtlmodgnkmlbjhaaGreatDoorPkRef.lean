import Derived.Test.YtlmodgnkmlbjhaaGreatDoorPkMat
import Derived.Test.YtlmodgnkmlbjhaaGreatDoorProg
import Derived.WalkKit
import Derived.Below
import Derived.Outline
import Derived.Lib.Hide
import Derived.Laws.AppendOwn
import Derived.OwnWalk
import Derived.Lib.ValidAsc
import Derived.Test.YtlmodgnkmlbjhaaGreatDoorPkIs
namespace Go.Proofs.YtlmodgnkmlbjhaaGreatDoor
namespace Char
open Go.RowKit
set_option maxHeartbeats 400000 in
theorem refSpace_any (n : Int) (w : World) :
  Calls Tryz.prog 53 #[.int .i64 n] w fun e w' => e = .returned (.bool (spC n)) ∧ w = w' := by
 go_enter Tryz.func53, Tryz.ntmps53
 go_wp2_with fail
 all_goals go_ret
 all_goals exact ⟨by unfold spC; simp_all, rfl⟩
end Char
namespace Char
open Go.RowKit Go.Lib
def vN (c : Nat → Nat) (n0 : Nat) : Nat → Nat
 | 0 => n0
 | j + 1 => vN c n0 j * 64 + (c (j + 1) - 128)
set_option maxRecDepth 100000 in
theorem vN_le (c : Nat → Nat) (n0 : Nat) : ∀ j, (∀ i, 1 ≤ i → i ≤ j → 128 ≤ c i ∧ c i ≤ 191) → vN c n0 j + 1 ≤ (n0 + 1) * 64 ^ j
 | 0, _ => by
  rw [Nat.pow_zero, Nat.mul_one]
  exact Nat.le_refl _
 | j + 1, h => by
  have ih := vN_le c n0 j fun i h1 h2 => h i h1 (by omega)
  have hc := h (j + 1) (by omega) (Nat.le_refl _)
  rw [Nat.pow_succ, ← Nat.mul_assoc]
  generalize (n0 + 1) * 64 ^ j = X at ih
  show vN c n0 j * 64 + (c (j + 1) - 128) + 1 ≤ X * 64
  omega
theorem byt_at (s : ByteArray) (j : Nat) (h : j < s.size) : (s[j]'h).toNat = byt s.data.toList j := by
 unfold byt
 have e : s.data.toList.length = s.size := by rw [Array.length_toList]; rfl
 rw [List.getD, List.getElem?_eq_getElem (by omega)]
 rfl
theorem ret_two {k : IntKind} {a b c d : Int} (h : a = c) (h2 : b = d) : Ending.returned (.tuple #[.int k a, .int k b]) = Ending.returned (.tuple #[.int k c, .int k d]) := by rw [h, h2]
set_option maxRecDepth 100000 in
set_option maxHeartbeats 1000000 in
theorem one_empty (s : ByteArray) (w : World) (h0 : s.size = 0) :
  Calls Tryz.prog 111 #[.string s] w fun e w' => e = .returned (.tuple #[.int .i64 (0 : Int), .int .i64 (0 : Int)]) ∧ w = w' := by
 have h0b : ((s.size : Int) == 0) = true := by simp [h0]
 clear h0
 go_enter Tryz.func111, Tryz.ntmps111
 go_wp2_with fail
 go_ret2
 exact ⟨rfl, rfl⟩
set_option maxRecDepth 100000 in
set_option maxHeartbeats 1000000 in
theorem one_ascii (s : ByteArray) (w : World) (hs : s.size ≤ 1048576) (h0 : 0 < s.size) (hb : (s[0]'h0).toNat < 128) :
  Calls Tryz.prog 111 #[.string s] w fun e w' => e = .returned (.tuple #[.int .i64 ((s[0]'h0).toNat : Int), .int .i64 (1 : Int)]) ∧ w = w' := by
 have h0b : ((s.size : Int) == 0) = false := by rw [beq_eq_false_iff_ne]; omega
 have h0z : (0 : Int) < (s.size : Int) := by omega
 generalize hx : (s[0]'h0).toNat = a at hb
 go_enter Tryz.func111, Tryz.ntmps111
 go_wp2_with fail
 go_ret2
 exact ⟨rfl, rfl⟩
set_option maxRecDepth 100000 in
set_option maxHeartbeats 1000000 in
theorem one_bad (s : ByteArray) (w : World) (hs : s.size ≤ 1048576) (h0 : 0 < s.size) (hb : (128 ≤ (s[0]'h0).toNat ∧ (s[0]'h0).toNat < 192) ∨ 248 ≤ (s[0]'h0).toNat) :
  Calls Tryz.prog 111 #[.string s] w fun e w' => e = .returned (.tuple #[.int .i64 (0 : Int), .int .i64 (0 : Int)]) ∧ w = w' := by
 have h0b : ((s.size : Int) == 0) = false := by rw [beq_eq_false_iff_ne]; omega
 have h0z : (0 : Int) < (s.size : Int) := by omega
 have hlt := (s[0]'h0).toNat_lt
 generalize hx : (s[0]'h0).toNat = a at hb hlt
 rcases hb with ⟨b1, b2⟩ | b1
 all_goals
  go_enter Tryz.func111, Tryz.ntmps111
  go_wp2_with fail
  go_ret2
  exact ⟨rfl, rfl⟩
set_option maxRecDepth 100000 in
set_option maxHeartbeats 1000000 in
theorem one_short2 (s : ByteArray) (w : World) (hs : s.size ≤ 1048576) (h0 : 0 < s.size) (hb : 192 ≤ (s[0]'h0).toNat ∧ (s[0]'h0).toNat < 224) (hl : s.size < 2) :
  Calls Tryz.prog 111 #[.string s] w fun e w' => e = .returned (.tuple #[.int .i64 (0 : Int), .int .i64 (0 : Int)]) ∧ w = w' := by
 have h0b : ((s.size : Int) == 0) = false := by rw [beq_eq_false_iff_ne]; omega
 have h0z : (0 : Int) < (s.size : Int) := by omega
 have hlz : (s.size : Int) < 2 := by omega
 obtain ⟨b1, b2⟩ := hb
 generalize hx : (s[0]'h0).toNat = a at b1 b2
 go_enter Tryz.func111, Tryz.ntmps111
 go_wp2_with fail
 go_ret2
 exact ⟨rfl, rfl⟩
set_option maxRecDepth 100000 in
set_option maxHeartbeats 2000000 in
theorem one_lead2 (s : ByteArray) (w : World) (hs : s.size ≤ 1048576) (h0 : 0 < s.size) (hb : 192 ≤ (s[0]'h0).toNat ∧ (s[0]'h0).toNat < 224) (hl : 2 ≤ s.size) (c : Nat → Nat)
  (hc : ∀ j (h : j < s.size), (s[j]'h).toNat = c j) :
  Calls Tryz.prog 111 #[.string s] w fun e w' => (∃ R : Nat × Nat, R = oneN s.size (c 0) (c 1) (c 2) (c 3) ∧ e = .returned (.tuple #[.int .i64 (R.1 : Int), .int .i64 (R.2 : Int)])) ∧ w = w' := by
 have h0b : ((s.size : Int) == 0) = false := by rw [beq_eq_false_iff_ne]; omega
 have h0z : (0 : Int) < (s.size : Int) := by omega
 have hlz : ¬ (s.size : Int) < 2 := by omega
 obtain ⟨b1, b2⟩ := hb
 have hx := hc 0 h0
 rw [hx] at b1 b2
 obtain ⟨R, hR⟩ : ∃ R, R = oneN s.size (c 0) (c 1) (c 2) (c 3) := ⟨_, rfl⟩
 have HR := Lib.hid hR
 clear hR
 have HC := Lib.hid hc
 clear hc
 obtain ⟨a, ha⟩ : ∃ a, c 0 = a := ⟨_, rfl⟩
 rw [ha] at hx b1 b2
 have HA := Lib.hid ha
 clear ha
 suffices hh : Calls Tryz.prog 111 #[.string s] w fun e w' => e = .returned (.tuple #[.int .i64 (R.1 : Int), .int .i64 (R.2 : Int)]) ∧ w = w' from
  hh.mono fun e w' ⟨he, hw⟩ => ⟨⟨R, HR.out, he⟩, hw⟩
 go_enter Tryz.func111, Tryz.ntmps111
 go_wp2_with fail
 go_loop [6, 8, 9] (fun nv kv _ => ∃ j : Nat, j + 1 ≤ 2 ∧ kv = .int .i64 ((j + 1 : Nat) : Int) ∧ nv = .int .i64 ((vN c (a - 192) j : Nat) : Int) ∧ Hid (∀ i, 1 ≤ i → i ≤ j → 128 ≤ c i ∧ c i ≤ 191)) (fun _ kv _ => 2 - (intOf kv).toNat)
 case atStart => exact ⟨0, by omega, rfl, by congr 1; unfold vN; omega, Lib.hid fun i h1 h2 => by omega⟩
 case round =>
  obtain ⟨j, hj, rfl, rfl, HG⟩ := hrel
  have hv := vN_le c (a - 192) j HG.out
  have hv2 : vN c (a - 192) j ≤ 2097151 := by
   have hj3 : j = 0 ∨ j = 1 ∨ j = 2 ∨ j = 3 := by omega
   rcases hj3 with rfl | rfl | rfl | rfl <;> simp at hv <;> omega
  clear hv
  by_cases hlt : j + 1 < 2
  ·have hjs : j + 1 < s.size := by omega
   have hb3 := HC.out (j + 1) hjs
   have hstep : vN c (a - 192) (j + 1) = vN c (a - 192) j * 64 + (c (j + 1) - 128) := rfl
   obtain ⟨v1, hv1⟩ : ∃ v1, vN c (a - 192) (j + 1) = v1 := ⟨_, rfl⟩
   rw [hv1] at hstep
   have HV := Lib.hid hv1
   clear hv1
   generalize vN c (a - 192) j = v at hv2 hstep
   by_cases hg : 128 ≤ c (j + 1) ∧ c (j + 1) ≤ 191
   ·have HG1 : Hid (∀ i, 1 ≤ i → i ≤ j + 1 → 128 ≤ c i ∧ c i ≤ 191) := Lib.hid fun i h1 h2 => by
     by_cases h : i = j + 1
     ·rw [h]; exact hg
     ·exact HG.out i h1 (by omega)
    obtain ⟨g1, g2⟩ := hg
    generalize c (j + 1) = x at hb3 hstep g1 g2
    have HS := Lib.hid hstep
    clear hstep
    go_wp2_with fail
    go_round
    case rel => exact ⟨j + 1, by omega, by go_num, by congr 1; rw [HV.out, HS.out]; omega, HG1⟩
    case measure => simp [intOf]; omega
   ·have hbad : R = (0, 0) := by
     rw [HR.out, one_two _ _ _ _ _ (by rw [HA.out]; exact ⟨b1, b2⟩), if_neg]
     intro hh
     apply hg
     have hj3 : j + 1 = 1 ∨ j + 1 = 1 := by omega
     rcases hj3 with e | e <;> rw [e] <;> omega
    have HB := Lib.hid hbad
    have hx3 := (s[j + 1]'hjs).toNat_lt
    rw [hb3] at hx3
    rcases (by omega : c (j + 1) < 128 ∨ 191 < c (j + 1)) with g1 | g1
    all_goals
     generalize c (j + 1) = x at hb3 g1 hx3
     clear hstep hg hbad
     go_wp2_with fail
     go_ret2
     exact ⟨ret_two (by rw [HB.out]; rfl) (by rw [HB.out]; rfl), rfl⟩
  ·obtain rfl : j = 1 := by omega
   clear hv2
   generalize hv : vN c (a - 192) 1 = v
   have hval : (c 0 - 192) * 64 + (c 1 - 128) = v := by
    rw [← hv, HA.out, show vN c (a - 192) 1 = (a - 192) * 64 + (c 1 - 128) from rfl]
    all_goals omega
   have hR : R = if v < 128 then (0, 0) else (v, 2) := by
    rw [HR.out, one_two _ _ _ _ _ (by rw [HA.out]; exact ⟨b1, b2⟩), if_pos ⟨by omega, HG.out 1 (by omega) (by omega)⟩, hval]
   have hvb : v ≤ 2047 := by
    have g1 := HG.out 1 (by omega) (by omega)
    skip
    rw [← hval, HA.out]
    omega
   have HRR := Lib.hid hR
   clear hR hv hval hlt
   by_cases hcond : v < 128
   ·have hB := HRR.out
    rw [if_pos hcond] at hB
    have HB := Lib.hid hB
    clear hB HRR
    skip
    all_goals
     go_wp2_with fail
     all_goals
      go_ret2
      exact ⟨ret_two (by rw [HB.out]; rfl) (by rw [HB.out]; rfl), rfl⟩
   ·have hB := HRR.out
    rw [if_neg hcond] at hB
    have HB := Lib.hid hB
    clear hB HRR
    skip
    all_goals
     go_wp2_with fail
     all_goals
      go_ret2
      exact ⟨ret_two (by rw [HB.out]) (by rw [HB.out]; rfl), rfl⟩
set_option maxRecDepth 100000 in
set_option maxHeartbeats 1000000 in
theorem one_short3 (s : ByteArray) (w : World) (hs : s.size ≤ 1048576) (h0 : 0 < s.size) (hb : 224 ≤ (s[0]'h0).toNat ∧ (s[0]'h0).toNat < 240) (hl : s.size < 3) :
  Calls Tryz.prog 111 #[.string s] w fun e w' => e = .returned (.tuple #[.int .i64 (0 : Int), .int .i64 (0 : Int)]) ∧ w = w' := by
 have h0b : ((s.size : Int) == 0) = false := by rw [beq_eq_false_iff_ne]; omega
 have h0z : (0 : Int) < (s.size : Int) := by omega
 have hlz : (s.size : Int) < 3 := by omega
 obtain ⟨b1, b2⟩ := hb
 generalize hx : (s[0]'h0).toNat = a at b1 b2
 go_enter Tryz.func111, Tryz.ntmps111
 go_wp2_with fail
 go_ret2
 exact ⟨rfl, rfl⟩
set_option maxRecDepth 100000 in
set_option maxHeartbeats 2000000 in
theorem one_lead3 (s : ByteArray) (w : World) (hs : s.size ≤ 1048576) (h0 : 0 < s.size) (hb : 224 ≤ (s[0]'h0).toNat ∧ (s[0]'h0).toNat < 240) (hl : 3 ≤ s.size) (c : Nat → Nat)
  (hc : ∀ j (h : j < s.size), (s[j]'h).toNat = c j) :
  Calls Tryz.prog 111 #[.string s] w fun e w' => (∃ R : Nat × Nat, R = oneN s.size (c 0) (c 1) (c 2) (c 3) ∧ e = .returned (.tuple #[.int .i64 (R.1 : Int), .int .i64 (R.2 : Int)])) ∧ w = w' := by
 have h0b : ((s.size : Int) == 0) = false := by rw [beq_eq_false_iff_ne]; omega
 have h0z : (0 : Int) < (s.size : Int) := by omega
 have hlz : ¬ (s.size : Int) < 3 := by omega
 obtain ⟨b1, b2⟩ := hb
 have hx := hc 0 h0
 rw [hx] at b1 b2
 obtain ⟨R, hR⟩ : ∃ R, R = oneN s.size (c 0) (c 1) (c 2) (c 3) := ⟨_, rfl⟩
 have HR := Lib.hid hR
 clear hR
 have HC := Lib.hid hc
 clear hc
 obtain ⟨a, ha⟩ : ∃ a, c 0 = a := ⟨_, rfl⟩
 rw [ha] at hx b1 b2
 have HA := Lib.hid ha
 clear ha
 suffices hh : Calls Tryz.prog 111 #[.string s] w fun e w' => e = .returned (.tuple #[.int .i64 (R.1 : Int), .int .i64 (R.2 : Int)]) ∧ w = w' from
  hh.mono fun e w' ⟨he, hw⟩ => ⟨⟨R, HR.out, he⟩, hw⟩
 go_enter Tryz.func111, Tryz.ntmps111
 go_wp2_with fail
 go_loop [6, 8, 9] (fun nv kv _ => ∃ j : Nat, j + 1 ≤ 3 ∧ kv = .int .i64 ((j + 1 : Nat) : Int) ∧ nv = .int .i64 ((vN c (a - 224) j : Nat) : Int) ∧ Hid (∀ i, 1 ≤ i → i ≤ j → 128 ≤ c i ∧ c i ≤ 191)) (fun _ kv _ => 3 - (intOf kv).toNat)
 case atStart => exact ⟨0, by omega, rfl, by congr 1; unfold vN; omega, Lib.hid fun i h1 h2 => by omega⟩
 case round =>
  obtain ⟨j, hj, rfl, rfl, HG⟩ := hrel
  have hv := vN_le c (a - 224) j HG.out
  have hv2 : vN c (a - 224) j ≤ 2097151 := by
   have hj3 : j = 0 ∨ j = 1 ∨ j = 2 ∨ j = 3 := by omega
   rcases hj3 with rfl | rfl | rfl | rfl <;> simp at hv <;> omega
  clear hv
  by_cases hlt : j + 1 < 3
  ·have hjs : j + 1 < s.size := by omega
   have hb3 := HC.out (j + 1) hjs
   have hstep : vN c (a - 224) (j + 1) = vN c (a - 224) j * 64 + (c (j + 1) - 128) := rfl
   obtain ⟨v1, hv1⟩ : ∃ v1, vN c (a - 224) (j + 1) = v1 := ⟨_, rfl⟩
   rw [hv1] at hstep
   have HV := Lib.hid hv1
   clear hv1
   generalize vN c (a - 224) j = v at hv2 hstep
   by_cases hg : 128 ≤ c (j + 1) ∧ c (j + 1) ≤ 191
   ·have HG1 : Hid (∀ i, 1 ≤ i → i ≤ j + 1 → 128 ≤ c i ∧ c i ≤ 191) := Lib.hid fun i h1 h2 => by
     by_cases h : i = j + 1
     ·rw [h]; exact hg
     ·exact HG.out i h1 (by omega)
    obtain ⟨g1, g2⟩ := hg
    generalize c (j + 1) = x at hb3 hstep g1 g2
    have HS := Lib.hid hstep
    clear hstep
    go_wp2_with fail
    go_round
    case rel => exact ⟨j + 1, by omega, by go_num, by congr 1; rw [HV.out, HS.out]; omega, HG1⟩
    case measure => simp [intOf]; omega
   ·have hbad : R = (0, 0) := by
     rw [HR.out, one_three _ _ _ _ _ (by rw [HA.out]; exact ⟨b1, b2⟩), if_neg]
     intro hh
     apply hg
     have hj3 : j + 1 = 1 ∨ j + 1 = 2 := by omega
     rcases hj3 with e | e <;> rw [e] <;> omega
    have HB := Lib.hid hbad
    have hx3 := (s[j + 1]'hjs).toNat_lt
    rw [hb3] at hx3
    rcases (by omega : c (j + 1) < 128 ∨ 191 < c (j + 1)) with g1 | g1
    all_goals
     generalize c (j + 1) = x at hb3 g1 hx3
     clear hstep hg hbad
     go_wp2_with fail
     go_ret2
     exact ⟨ret_two (by rw [HB.out]; rfl) (by rw [HB.out]; rfl), rfl⟩
  ·obtain rfl : j = 2 := by omega
   clear hv2
   generalize hv : vN c (a - 224) 2 = v
   have hval : (c 0 - 224) * 4096 + (c 1 - 128) * 64 + (c 2 - 128) = v := by
    rw [← hv, HA.out, show vN c (a - 224) 2 = ((a - 224) * 64 + (c 1 - 128)) * 64 + (c 2 - 128) from rfl]
    all_goals omega
   have hR : R = if v < 2048 ∨ (55296 ≤ v ∧ v ≤ 57343) then (0, 0) else (v, 3) := by
    rw [HR.out, one_three _ _ _ _ _ (by rw [HA.out]; exact ⟨b1, b2⟩), if_pos ⟨by omega, HG.out 1 (by omega) (by omega), HG.out 2 (by omega) (by omega)⟩, hval]
   have hvb : v ≤ 65535 := by
    have g1 := HG.out 1 (by omega) (by omega)
    have g2 := HG.out 2 (by omega) (by omega)
    rw [← hval, HA.out]
    omega
   have HRR := Lib.hid hR
   clear hR hv hval hlt
   by_cases hcond : v < 2048 ∨ (55296 ≤ v ∧ v ≤ 57343)
   ·have hB := HRR.out
    rw [if_pos hcond] at hB
    have HB := Lib.hid hB
    clear hB HRR
    rcases hcond with q | ⟨q1, q2⟩
    all_goals
     go_wp2_with fail
     all_goals
      go_ret2
      exact ⟨ret_two (by rw [HB.out]; rfl) (by rw [HB.out]; rfl), rfl⟩
   ·have hB := HRR.out
    rw [if_neg hcond] at hB
    have HB := Lib.hid hB
    clear hB HRR
    rcases (by omega : (2048 ≤ v ∧ v < 55296) ∨ 57343 < v) with ⟨q1, q2⟩ | q
    all_goals
     go_wp2_with fail
     all_goals
      go_ret2
      exact ⟨ret_two (by rw [HB.out]) (by rw [HB.out]; rfl), rfl⟩
set_option maxRecDepth 100000 in
set_option maxHeartbeats 1000000 in
theorem one_short4 (s : ByteArray) (w : World) (hs : s.size ≤ 1048576) (h0 : 0 < s.size) (hb : 240 ≤ (s[0]'h0).toNat ∧ (s[0]'h0).toNat < 248) (hl : s.size < 4) :
  Calls Tryz.prog 111 #[.string s] w fun e w' => e = .returned (.tuple #[.int .i64 (0 : Int), .int .i64 (0 : Int)]) ∧ w = w' := by
 have h0b : ((s.size : Int) == 0) = false := by rw [beq_eq_false_iff_ne]; omega
 have h0z : (0 : Int) < (s.size : Int) := by omega
 have hlz : (s.size : Int) < 4 := by omega
 obtain ⟨b1, b2⟩ := hb
 generalize hx : (s[0]'h0).toNat = a at b1 b2
 go_enter Tryz.func111, Tryz.ntmps111
 go_wp2_with fail
 go_ret2
 exact ⟨rfl, rfl⟩
set_option maxRecDepth 100000 in
set_option maxHeartbeats 2000000 in
theorem one_lead4 (s : ByteArray) (w : World) (hs : s.size ≤ 1048576) (h0 : 0 < s.size) (hb : 240 ≤ (s[0]'h0).toNat ∧ (s[0]'h0).toNat < 248) (hl : 4 ≤ s.size) (c : Nat → Nat)
  (hc : ∀ j (h : j < s.size), (s[j]'h).toNat = c j) :
  Calls Tryz.prog 111 #[.string s] w fun e w' => (∃ R : Nat × Nat, R = oneN s.size (c 0) (c 1) (c 2) (c 3) ∧ e = .returned (.tuple #[.int .i64 (R.1 : Int), .int .i64 (R.2 : Int)])) ∧ w = w' := by
 have h0b : ((s.size : Int) == 0) = false := by rw [beq_eq_false_iff_ne]; omega
 have h0z : (0 : Int) < (s.size : Int) := by omega
 have hlz : ¬ (s.size : Int) < 4 := by omega
 obtain ⟨b1, b2⟩ := hb
 have hx := hc 0 h0
 rw [hx] at b1 b2
 obtain ⟨R, hR⟩ : ∃ R, R = oneN s.size (c 0) (c 1) (c 2) (c 3) := ⟨_, rfl⟩
 have HR := Lib.hid hR
 clear hR
 have HC := Lib.hid hc
 clear hc
 obtain ⟨a, ha⟩ : ∃ a, c 0 = a := ⟨_, rfl⟩
 rw [ha] at hx b1 b2
 have HA := Lib.hid ha
 clear ha
 suffices hh : Calls Tryz.prog 111 #[.string s] w fun e w' => e = .returned (.tuple #[.int .i64 (R.1 : Int), .int .i64 (R.2 : Int)]) ∧ w = w' from
  hh.mono fun e w' ⟨he, hw⟩ => ⟨⟨R, HR.out, he⟩, hw⟩
 go_enter Tryz.func111, Tryz.ntmps111
 go_wp2_with fail
 go_loop [6, 8, 9] (fun nv kv _ => ∃ j : Nat, j + 1 ≤ 4 ∧ kv = .int .i64 ((j + 1 : Nat) : Int) ∧ nv = .int .i64 ((vN c (a - 240) j : Nat) : Int) ∧ Hid (∀ i, 1 ≤ i → i ≤ j → 128 ≤ c i ∧ c i ≤ 191)) (fun _ kv _ => 4 - (intOf kv).toNat)
 case atStart => exact ⟨0, by omega, rfl, by congr 1; unfold vN; omega, Lib.hid fun i h1 h2 => by omega⟩
 case round =>
  obtain ⟨j, hj, rfl, rfl, HG⟩ := hrel
  have hv := vN_le c (a - 240) j HG.out
  have hv2 : vN c (a - 240) j ≤ 2097151 := by
   have hj3 : j = 0 ∨ j = 1 ∨ j = 2 ∨ j = 3 := by omega
   rcases hj3 with rfl | rfl | rfl | rfl <;> simp at hv <;> omega
  clear hv
  by_cases hlt : j + 1 < 4
  ·have hjs : j + 1 < s.size := by omega
   have hb3 := HC.out (j + 1) hjs
   have hstep : vN c (a - 240) (j + 1) = vN c (a - 240) j * 64 + (c (j + 1) - 128) := rfl
   obtain ⟨v1, hv1⟩ : ∃ v1, vN c (a - 240) (j + 1) = v1 := ⟨_, rfl⟩
   rw [hv1] at hstep
   have HV := Lib.hid hv1
   clear hv1
   generalize vN c (a - 240) j = v at hv2 hstep
   by_cases hg : 128 ≤ c (j + 1) ∧ c (j + 1) ≤ 191
   ·have HG1 : Hid (∀ i, 1 ≤ i → i ≤ j + 1 → 128 ≤ c i ∧ c i ≤ 191) := Lib.hid fun i h1 h2 => by
     by_cases h : i = j + 1
     ·rw [h]; exact hg
     ·exact HG.out i h1 (by omega)
    obtain ⟨g1, g2⟩ := hg
    generalize c (j + 1) = x at hb3 hstep g1 g2
    have HS := Lib.hid hstep
    clear hstep
    go_wp2_with fail
    go_round
    case rel => exact ⟨j + 1, by omega, by go_num, by congr 1; rw [HV.out, HS.out]; omega, HG1⟩
    case measure => simp [intOf]; omega
   ·have hbad : R = (0, 0) := by
     rw [HR.out, one_four _ _ _ _ _ (by rw [HA.out]; exact ⟨b1, b2⟩), if_neg]
     intro hh
     apply hg
     have hj3 : j + 1 = 1 ∨ j + 1 = 2 ∨ j + 1 = 3 := by omega
     rcases hj3 with e | e | e <;> rw [e] <;> omega
    have HB := Lib.hid hbad
    have hx3 := (s[j + 1]'hjs).toNat_lt
    rw [hb3] at hx3
    rcases (by omega : c (j + 1) < 128 ∨ 191 < c (j + 1)) with g1 | g1
    all_goals
     generalize c (j + 1) = x at hb3 g1 hx3
     clear hstep hg hbad
     go_wp2_with fail
     go_ret2
     exact ⟨ret_two (by rw [HB.out]; rfl) (by rw [HB.out]; rfl), rfl⟩
  ·obtain rfl : j = 3 := by omega
   clear hv2
   generalize hv : vN c (a - 240) 3 = v
   have hval : (c 0 - 240) * 262144 + (c 1 - 128) * 4096 + (c 2 - 128) * 64 + (c 3 - 128) = v := by
    rw [← hv, HA.out, show vN c (a - 240) 3 = (((a - 240) * 64 + (c 1 - 128)) * 64 + (c 2 - 128)) * 64 + (c 3 - 128) from rfl]
    all_goals omega
   have hR : R = if v < 65536 ∨ 1114111 < v then (0, 0) else (v, 4) := by
    rw [HR.out, one_four _ _ _ _ _ (by rw [HA.out]; exact ⟨b1, b2⟩), if_pos ⟨by omega, HG.out 1 (by omega) (by omega), HG.out 2 (by omega) (by omega), HG.out 3 (by omega) (by omega)⟩, hval]
   have hvb : v ≤ 2097151 := by
    have g1 := HG.out 1 (by omega) (by omega)
    have g2 := HG.out 2 (by omega) (by omega); have g3 := HG.out 3 (by omega) (by omega)
    rw [← hval, HA.out]
    omega
   have HRR := Lib.hid hR
   clear hR hv hval hlt
   by_cases hcond : v < 65536 ∨ 1114111 < v
   ·have hB := HRR.out
    rw [if_pos hcond] at hB
    have HB := Lib.hid hB
    clear hB HRR
    rcases hcond with q | q
    all_goals
     go_wp2_with fail
     all_goals
      go_ret2
      exact ⟨ret_two (by rw [HB.out]; rfl) (by rw [HB.out]; rfl), rfl⟩
   ·have hB := HRR.out
    rw [if_neg hcond] at hB
    have HB := Lib.hid hB
    clear hB HRR
    obtain ⟨q1, q2⟩ : 65536 ≤ v ∧ v ≤ 1114111 := by omega
    all_goals
     go_wp2_with fail
     all_goals
      go_ret2
      exact ⟨ret_two (by rw [HB.out]) (by rw [HB.out]; rfl), rfl⟩
set_option maxRecDepth 100000 in
theorem one_any (s : ByteArray) (w : World) (hs : s.size ≤ 1048576) :
  Calls Tryz.prog 111 #[.string s] w fun e w' => e = .returned (.tuple #[.int .i64 ((oneL s.data.toList).1 : Int), .int .i64 ((oneL s.data.toList).2 : Int)]) ∧ w = w' := by
 have el : s.data.toList.length = s.size := by rw [Array.length_toList]; rfl
 by_cases h0 : s.size = 0
 ·have hn : s.data.toList = [] := List.eq_nil_of_length_eq_zero (by omega)
  rw [hn]
  exact one_empty s w h0
 have h1 : 0 < s.size := by omega
 have hne : s.data.toList ≠ [] := by intro h; rw [h] at el; simp at el; omega
 have hlt := (s[0]'h1).toNat_lt
 have hc : ∀ j (h : j < s.size), (s[j]'h).toNat = byt s.data.toList j := byt_at s
 have hc0 := hc 0 h1
 rw [oneL_N _ hne, el]
 by_cases c1 : (s[0]'h1).toNat < 128
 ·rw [one_low _ _ _ _ _ (by omega), ← hc0]
  exact one_ascii s w hs h1 c1
 by_cases c2 : (s[0]'h1).toNat < 192 ∨ 248 ≤ (s[0]'h1).toNat
 ·rw [one_none _ _ _ _ _ (by omega) (by omega) (by omega) (by omega)]
  exact one_bad s w hs h1 (by omega)
 by_cases c3 : (s[0]'h1).toNat < 224
 ·by_cases hl : s.size < 2
  ·rw [one_two _ _ _ _ _ (by omega), if_neg (by omega)]
   exact one_short2 s w hs h1 (by omega) hl
  ·refine (one_lead2 s w hs h1 (by omega) (by omega) _ hc).mono ?_
   rintro e w' ⟨⟨R, rfl, rfl⟩, hw⟩
   exact ⟨rfl, hw⟩
 by_cases c4 : (s[0]'h1).toNat < 240
 ·by_cases hl : s.size < 3
  ·rw [one_three _ _ _ _ _ (by omega), if_neg (by omega)]
   exact one_short3 s w hs h1 (by omega) hl
  ·refine (one_lead3 s w hs h1 (by omega) (by omega) _ hc).mono ?_
   rintro e w' ⟨⟨R, rfl, rfl⟩, hw⟩
   exact ⟨rfl, hw⟩
 by_cases hl : s.size < 4
 ·rw [one_four _ _ _ _ _ (by omega), if_neg (by omega)]
  exact one_short4 s w hs h1 (by omega) hl
 ·refine (one_lead4 s w hs h1 (by omega) (by omega) _ hc).mono ?_
  rintro e w' ⟨⟨R, rfl, rfl⟩, hw⟩
  exact ⟨rfl, hw⟩
end Char
namespace Char
open Go.RowKit Go.Lib
def runesN : Nat → List UInt8 → List Int
 | 0, _ => []
 | n + 1, l => if l = [] then [] else ((decodeL l).1 : Int) :: runesN n (l.drop (decodeL l).2)
def runesL (l : List UInt8) : List Int := runesN l.length l
theorem runesN_nil : ∀ n, runesN n [] = []
 | 0 => rfl
 | _ + 1 => by simp [runesN]
theorem runesN_fuel : ∀ (n m : Nat) (l : List UInt8), l.length ≤ n → l.length ≤ m → runesN n l = runesN m l
 | 0, m, l, hn, _ => by
  obtain rfl : l = [] := List.eq_nil_of_length_eq_zero (by omega)
  rw [runesN_nil, runesN_nil]
 | n + 1, 0, l, _, hm => by
  obtain rfl : l = [] := List.eq_nil_of_length_eq_zero (by omega)
  rw [runesN_nil, runesN_nil]
 | n + 1, m + 1, l, hn, hm => by
  unfold runesN
  by_cases hne : l = []
  ·simp [hne]
  ·have hw := decodeL_width l
   have hl : 0 < l.length := List.length_pos_iff.2 hne
   rw [if_neg hne, if_neg hne, runesN_fuel n m (l.drop (decodeL l).2) (by rw [List.length_drop]; omega) (by rw [List.length_drop]; omega)]
theorem runesL_nil : runesL [] = [] := rfl
theorem runesL_step (l : List UInt8) (hne : l ≠ []) : runesL l = ((decodeL l).1 : Int) :: runesL (l.drop (decodeL l).2) := by
 have hl : 0 < l.length := List.length_pos_iff.2 hne
 have hw := decodeL_width l
 obtain ⟨n, hn⟩ : ∃ n, l.length = n + 1 := ⟨l.length - 1, by omega⟩
 unfold runesL
 rw [hn]
 show (if l = [] then [] else _) = _
 rw [if_neg hne, runesN_fuel n (l.drop (decodeL l).2).length _ (by rw [List.length_drop]; omega) (Nat.le_refl _)]
theorem allR_all (p : Int → Bool) : ∀ (n : Nat) (l : List UInt8), l.length ≤ n → allR p l = (runesL l).all p
 | 0, l, h => by
  obtain rfl : l = [] := List.eq_nil_of_length_eq_zero (by omega)
  rfl
 | n + 1, l, h => by
  by_cases hne : l = []
  ·subst hne; rfl
  ·have hw := decodeL_width l
   rw [allR_step p l hne, runesL_step l hne, List.all_cons, allR_all p n _ (by rw [List.length_drop]; omega)]
theorem runesL_length : ∀ (n : Nat) (l : List UInt8), l.length ≤ n → (runesL l).length ≤ l.length
 | 0, l, h => by
  obtain rfl : l = [] := List.eq_nil_of_length_eq_zero (by omega)
  exact Nat.le_refl _
 | n + 1, l, h => by
  by_cases hne : l = []
  ·subst hne; exact Nat.le_refl _
  ·have hw := decodeL_width l
   have hle := decodeL_le l hne
   have ih := runesL_length n (l.drop (decodeL l).2) (by rw [List.length_drop]; omega)
   rw [runesL_step l hne, List.length_cons]
   rw [List.length_drop] at ih
   omega
theorem one_stop (l : List UInt8) (hne : l ≠ []) (h : (oneL l).2 = 0) : validD l = false := by
 unfold oneL at h
 rw [if_neg hne] at h
 have hw := decodeL_width l
 by_cases hb : (decodeL l).1 = 65533 ∧ (decodeL l).2 = 1
 ·rw [validD_step l hne, if_pos hb]
 ·rw [if_neg hb] at h; omega
theorem one_go (l : List UInt8) (hne : l ≠ []) (h : (oneL l).2 ≠ 0) :
  validD l = validD (l.drop (oneL l).2) ∧ runesL l = ((oneL l).1 : Int) :: runesL (l.drop (oneL l).2) ∧ 1 ≤ (oneL l).2 ∧ (oneL l).2 ≤ l.length ∧ (oneL l).1 ≤ 1114111 := by
 unfold oneL at h ⊢
 rw [if_neg hne] at h ⊢
 by_cases hb : (decodeL l).1 = 65533 ∧ (decodeL l).2 = 1
 ·rw [if_pos hb] at h; simp at h
 ·rw [if_neg hb]
  exact ⟨by rw [validD_step l hne, if_neg hb], runesL_step l hne, decodeL_width l, decodeL_le l hne, decodeL_rune l⟩
theorem info_int : (Tryz.prog.info? 3).map (fun i => (i.zero, i.size, i.bytes)) = some (some (.int .i64 0), 1, 8) := by kernel_rfl
def CharsPost (w : World) (V : Bool) (l : List Int) (e : Ending) (w' : World) : Prop :=
 ∃ v, e = .returned (.tuple #[v, .bool V]) ∧ w'.ownsRow w.heap.size 3 1 v l.length (l.map (Value.int .i64)) ∧ Below w.heap.size w w'
def chsL (l : List UInt8) : List Int := if validD l then runesL l else []
set_option maxRecDepth 100000 in
set_option maxHeartbeats 2000000 in
theorem chars_any (s : ByteArray) (w : World) (hs : s.size ≤ 1048576) :
  Calls Tryz.prog 81 #[.string s] w (CharsPost w (validD s.data.toList) (chsL s.data.toList)) := by
 obtain ⟨i0, hi, hz0, hz1, hz2⟩ := info_parts info_int
 have el : s.data.toList.length = s.size := by rw [Array.length_toList]; rfl
 obtain ⟨V, hV⟩ : ∃ V, validD s.data.toList = V := ⟨_, rfl⟩
 obtain ⟨X, hX⟩ : ∃ X, chsL s.data.toList = X := ⟨_, rfl⟩
 rw [hX, hV]
 unfold chsL at hX
 rw [hV] at hX
 have HX := Lib.hid hX
 clear hX
 have HV := Lib.hid hV
 have EL := Lib.hid el
 clear hV el
 go_enter Tryz.func81, Tryz.ntmps81
 go_wp2_with fail
 go_loopw [4, 5] (fun v i wr => ∃ (pos : Nat) (acc : List Int), pos ≤ s.size ∧ i = .int .i64 (pos : Int) ∧ acc.length ≤ pos ∧ wr.ownsRow w.heap.size 3 1 v acc.length (acc.map (Value.int .i64)) ∧
   Below w.heap.size w wr ∧ Hid (V = validD (s.data.toList.drop pos)) ∧ Hid (acc ++ runesL (s.data.toList.drop pos) = runesL s.data.toList)) (fun _ i _ => s.size - (intOf i).toNat)
 case atStart => exact ⟨0, [], Nat.zero_le _, rfl, Nat.zero_le _, World.ownsRow_nil _ _ _ _, Below.refl _ _, Lib.hid HV.out.symm, Lib.hid rfl⟩
 case round =>
  obtain ⟨pos, acc, hp, rfl, hal, hown, hbw, HVp, HRp⟩ := hrel
  by_cases hlt : pos < s.size
  ·have hco : Calls Tryz.prog 111 #[.string (s.extract pos s.size)] wr _ := one_any (s.extract pos s.size) wr (by rw [Lib.ext_size]; omega)
   rw [Lib.ext_list] at hco
   have hne := drop_ne s pos hlt
   have hst := one_stop _ hne
   have hgo := one_go _ hne
   have hdl : (s.data.toList.drop pos).length = s.size - pos := by rw [List.length_drop, EL.out]
   generalize (oneL (s.data.toList.drop pos)).1 = N at hco hgo
   generalize (oneL (s.data.toList.drop pos)).2 = M at hco hst hgo
   have HCO := Lib.hid hco
   have HST := Lib.hid hst
   have HGO := Lib.hid hgo
   have HDL := Lib.hid hdl
   clear hco hne hst hgo hdl
   go_wp2_with fail
   refine HCO.out.mono ?_
   rintro e w1 ⟨rfl, rfl⟩
   by_cases hm : M = 0
   ·have hmb : ((M : Int) == 0) = true := by simp [hm]
    have hf := HST.out hm
    rw [← HVp.out] at hf
    have HF := Lib.hid hf
    clear hf hm HCO HST HGO
    go_wp2_with fail
    go_ret2
    have hx := HX.out
    rw [HF.out, if_neg (by simp)] at hx
    rw [← hx, HF.out]
    exact ⟨_, rfl, World.ownsRow_nil _ _ _ _, hbw⟩
   ·have hmb : ((M : Int) == 0) = false := by rw [beq_eq_false_iff_ne]; omega
    obtain ⟨g1, g2, g3, g4, g5⟩ := HGO.out hm
    rw [HDL.out] at g4
    rw [List.drop_drop] at g1 g2
    have HV2 : Hid (V = validD (s.data.toList.drop (pos + M))) := Lib.hid (HVp.out.trans g1)
    have HR2 : Hid ((acc ++ [(N : Int)]) ++ runesL (s.data.toList.drop (pos + M)) = runesL s.data.toList) := Lib.hid (by rw [← HRp.out, g2, List.append_assoc]; rfl)
    have hwb := hbw.size
    clear g1 g2 hm HCO HST HGO HVp HRp
    go_wp2_with (at_builtin; refine wpList_append_own _ rfl _ _ 103 rfl w.heap.size 3 i0 (.int .i64 0) 1 8 Tryz.underlying103 hi hz0 hz1 hz2 rfl (by decide) _ _ _ rfl (hown.alloc _) ⟨wr.heap.size, 0, none⟩ 1 1 [.int .i64 (N : Int)] rfl rfl ?c1 ?c2 ?c3 ?c4 ?c5 ?_)
    case c1 =>
     intro j u hj
     match j, hj with
     | 0, hj => simp at hj; subst hj; simp [Addr.add]
    case c2 => intro u hu; simp at hu; subst hu; rfl
    case c3 => unfold maxLen; omega
    case c4 => omega
    case c5 => simp; omega
    intro v' w1 hown' hgrow _
    have hb1 : Below w.heap.size w w1 := (hbw.alloc hwb _).grown hgrow (by simp; omega) (fun k hk => by
     rcases hown.2 with ⟨rfl, _⟩ | ⟨g, cap, cur, rfl, hg, _⟩
     ·simp [Value.ownBlock] at hk
     ·simp [Value.ownBlock] at hk; omega)
    have hown2 : w1.ownsRow w.heap.size 3 1 v' (acc ++ [(N : Int)]).length ((acc ++ [(N : Int)]).map (Value.int .i64)) := by
     rw [List.length_append, List.map_append]
     exact hown'
    clear hown' hgrow hown
    go_wp2_with fail
    go_roundw
    case rel => exact ⟨pos + M, acc ++ [(N : Int)], by omega, by go_num, by rw [List.length_append]; simp; omega, hown2, hb1, HV2, HR2⟩
    case measure => simp [intOf]; omega
  ·have hnil := drop_end s pos hlt
   have hv := HVp.out
   have hr := HRp.out
   rw [hnil] at hv hr
   have HV1 := Lib.hid hv
   have HR1 := Lib.hid hr
   clear hnil hv hr HVp HRp
   go_wp2_with fail
   go_ret2
   have hv : V = true := HV1.out
   have hr : acc = runesL s.data.toList := by have := HR1.out; rw [runesL_nil, List.append_nil] at this; exact this
   have hx := HX.out
   rw [hv, if_pos rfl, ← hr] at hx
   rw [← hx, hv]
   exact ⟨_, rfl, hown, hbw⟩
end Char
namespace Char
open Go.RowKit
set_option maxHeartbeats 400000 in
theorem in_any (b off len cap : Nat) (n : Int) (zs : List Int) (w : World) (hz : len = zs.length) (hbig : len ≤ 1000)
  (hc : ∀ j, j < zs.length → w.cell? ⟨b, off + j, none⟩ = some (.int .i64 (zs.getD j 0))) :
  Calls Tryz.prog 112 #[.int .i64 n, .slice (some ⟨b, off, none⟩) len cap] w fun e w' => e = .returned (.bool (inP zs n)) ∧ w = w' := by
 have HZ := Lib.hid hz
 clear hz
 obtain ⟨R, hR⟩ : ∃ R, R = inP zs n := ⟨_, rfl⟩
 rw [← hR]
 have HR := Lib.hid hR
 clear hR
 go_enter Tryz.func112, Tryz.ntmps112
 go_wp2
 go_loop [5] (fun i => ∃ k : Nat, 2 * k ≤ len ∧ i = .int .i64 ((2 * k : Nat) : Int) ∧ R = inP (zs.drop (2 * k)) n) (fun i => len - (intOf i).toNat)
 case atStart => exact ⟨0, Nat.zero_le _, rfl, by simpa using HR.out⟩
 case round =>
  obtain ⟨k, hk, rfl, hr⟩ := hrel
  by_cases hlt : 2 * k + 1 < len
  ·have hs := inP_step zs n (2 * k) (by rw [← HZ.out]; omega)
   have hc0 := hc (2 * k) (by rw [← HZ.out]; omega)
   have hc1 := hc (2 * k + 1) (by rw [← HZ.out]; omega)
   generalize zs.getD (2 * k) 0 = lo at hc0 hs
   generalize zs.getD (2 * k + 1) 0 = hi at hc1 hs
   rw [← hr] at hs
   have HS := Lib.hid hs
   clear hc hs hr
   go_wp2
   ·have h1 : lo ≤ n := by assumption
    have h2 : n ≤ hi := by assumption
    go_ret
    exact ⟨by rw [HS.out]; simp [h1, h2], rfl⟩
   all_goals
    have hx : (decide (lo ≤ n) && decide (n ≤ hi)) = false := by
     rw [Bool.and_eq_false_iff, decide_eq_false_iff_not, decide_eq_false_iff_not]
     omega
    rw [hx, Bool.false_or] at HS
    go_round
    case rel => exact ⟨k + 1, by omega, by go_num, HS.out⟩
    case measure => simp [intOf]; omega
  ·have hf := inP_end zs n (2 * k) (by rw [← HZ.out]; exact hlt)
   rw [← hr] at hf
   have HF := Lib.hid hf
   clear hf hr
   go_wp2
   go_ret
   exact ⟨by rw [HF.out]; rfl, rfl⟩
theorem in_new (zs : List Int) (len cap : Nat) (C : Array Value) (n : Int) (w : World) (T : TypeId) (hC : C = (zs.map (Value.int .i64)).toArray) (hz : len = zs.length) (hbig : len ≤ 1000) :
  Calls Tryz.prog 112 #[.int .i64 n, .slice (some ⟨w.heap.size, 0, none⟩) len cap] (w.alloc (.cells C T)) fun e w' => e = .returned (.bool (inP zs n)) ∧ w.alloc (.cells C T) = w' := by
 refine in_any _ 0 len cap n zs _ hz hbig ?_
 intro j hj
 rw [Nat.zero_add, World.cell?_alloc_new, hC]
 simp [List.getD, List.getElem?_eq_getElem hj]
set_option maxHeartbeats 400000 in
theorem refIs_any (n : Int) (w : World) :
  Calls Tryz.prog 84 #[.int .i64 n] w fun e w' => e = .returned (.bool (isC n)) ∧ Below w.heap.size w w' := by
 go_enter Tryz.func84, Tryz.ntmps84
 go_wp2_with fail
 refine (in_new isL 12 12 _ n w _ rfl rfl (by decide)).mono ?_
 rintro e w' ⟨rfl, rfl⟩
 go_wp2_with fail
 go_ret
 exact ⟨rfl, (Below.refl _ _).alloc (Nat.le_refl _) _⟩
end Char
namespace Char
open Go.RowKit Go.Lib
def Reads (w : World) (v : Value) (zs : List Int) : Prop :=
 (zs = [] ∧ v = .slice none 0 0) ∨ ∃ g cap, v = .slice (some ⟨g, 0, none⟩) zs.length cap ∧ g < w.heap.size ∧ ∀ j, j < zs.length → w.cell? ⟨g, j, none⟩ = some (.int .i64 (zs.getD j 0))
theorem Reads.of {w : World} {B T : Nat} {v : Value} {zs : List Int} (h : w.ownsRow B T 1 v zs.length (zs.map (Value.int .i64))) : Reads w v zs := by
 have hc := h
 rcases h.2 with ⟨rfl, hn⟩ | ⟨g, cap, cur, rfl, hg, hcur, _⟩
 ·exact .inl ⟨List.eq_nil_of_length_eq_zero hn, rfl⟩
 ·refine .inr ⟨g, cap, rfl, (Array.getElem?_eq_some_iff.1 hcur).1, fun j hj => ?_⟩
  have := hc.cells (g := g) rfl j (.int .i64 (zs.getD j 0)) (by simp [List.getD, List.getElem?_eq_getElem hj])
  have hadd : (⟨g, 0, none⟩ : Addr).add j = ⟨g, j, none⟩ := by unfold Addr.add; split <;> simp_all
  rwa [hadd] at this
theorem all_step (p : Int → Bool) (zs : List Int) (k : Nat) (h : k < zs.length) : (zs.drop k).all p = (p (zs.getD k 0) && (zs.drop (k + 1)).all p) := by
 rw [List.drop_eq_getElem_cons h, List.all_cons]
 simp [List.getD, List.getElem?_eq_getElem h]
theorem all_end (p : Int → Bool) (zs : List Int) (k : Nat) (h : ¬ k < zs.length) : (zs.drop k).all p = true := by
 rw [List.drop_eq_nil_of_le (by omega)]
 rfl
def rtD (l : List UInt8) : Bool := validD l && (chsL l).all isC
theorem rtD_eq (l : List UInt8) : rtD l = txD l := by
 unfold rtD txD chsL
 cases validD l
 ·rfl
 ·rw [if_pos rfl, allR_all isC _ _ (Nat.le_refl _)]
set_option maxRecDepth 100000 in
set_option maxHeartbeats 2000000 in
theorem refText_any (s : ByteArray) (w : World) (hs : s.size ≤ 1048576) :
  Calls Tryz.prog 51 #[.string s] w fun e w' => e = .returned (.bool (txD s.data.toList)) ∧ Below w.heap.size w w' := by
 rw [← rtD_eq]
 have hC := chars_any s w hs
 have hzl : (chsL s.data.toList).length ≤ 1048576 := by
  have el : s.data.toList.length = s.size := by rw [Array.length_toList]; rfl
  unfold chsL
  split
  ·have := runesL_length _ s.data.toList (Nat.le_refl _); omega
  ·simp
 obtain ⟨R, hR⟩ : ∃ R, rtD s.data.toList = R := ⟨_, rfl⟩
 rw [hR]
 unfold rtD at hR
 generalize validD s.data.toList = V at hC hR
 generalize chsL s.data.toList = zs at hC hR hzl
 have HC := Lib.hid hC
 have HR := Lib.hid hR
 clear hC hR
 go_enter Tryz.func51, Tryz.ntmps51
 go_wp2_with fail
 refine HC.out.mono ?_
 rintro e w1 ⟨v, rfl, hown, hb1⟩
 clear HC
 rcases Reads.of hown with ⟨hz, rfl⟩ | ⟨g, cap, rfl, hg, hcells⟩
 ·clear hown
  obtain rfl := hz
  have HR1 : Hid (V = R) := Lib.hid (by rw [← HR.out]; simp)
  clear HR
  go_wp2_with fail
  go_loopw [4, 5] (fun b k wr => b = .bool V ∧ k = .int .i64 0 ∧ wr = w1) (fun _ _ _ => 0)
  case atStart => exact ⟨rfl, rfl, rfl⟩
  case round =>
   obtain ⟨rfl, rfl, rfl⟩ := hrel
   go_wp2_with fail
   go_ret
   exact ⟨by rw [← HR1.out]; rfl, hb1⟩
 ·clear hown
  have HG := Lib.hid hcells
  clear hcells
  go_wp2_with fail
  go_loopw [4, 5] (fun b i wr => ∃ (k : Nat) (B : Bool), k ≤ zs.length ∧ b = .bool B ∧ i = .int .i64 (k : Int) ∧ Below w1.heap.size w1 wr ∧ Hid ((B && (zs.drop k).all isC) = R)) (fun _ i _ => zs.length - (RowKit.intOf i).toNat)
  case atStart => exact ⟨0, V, Nat.zero_le _, rfl, rfl, Below.refl _ _, Lib.hid (by simpa using HR.out)⟩
  case round =>
   obtain ⟨k, B, hk, rfl, rfl, hbw, HB⟩ := hrel
   by_cases hlt : k < zs.length
   ·have hcell : wr.cell? ⟨g, k, none⟩ = some (.int .i64 (zs.getD k 0)) := (hbw.cell (p := ⟨g, k, none⟩) hg).trans (HG.out k hlt)
    have hst := HB.out
    rw [all_step isC zs k hlt] at hst
    generalize zs.getD k 0 = x at hcell hst
    have HS := Lib.hid hst
    clear hst HB
    cases B
    ·go_wp2_with fail
     go_roundw
     case rel => exact ⟨k + 1, false, by omega, rfl, by go_num, hbw, Lib.hid (by rw [← HS.out]; rfl)⟩
     case measure => simp [RowKit.intOf]; omega
    ·go_wp2_with fail
     refine (refIs_any x wr).mono ?_
     rintro e w2 ⟨rfl, hb2⟩
     generalize isC x = c at HS
     have hbw2 := hbw.trans (hb2.mono hbw.size)
     go_wp2_with fail
     go_roundw
     case rel => exact ⟨k + 1, c, by omega, rfl, by go_num, hbw2, Lib.hid (by rw [← HS.out]; rfl)⟩
     case measure => simp [RowKit.intOf]; omega
   ·have hst := HB.out
    rw [all_end isC zs k hlt, Bool.and_true] at hst
    have HS := Lib.hid hst
    clear hst HB
    go_wp2_with fail
    go_ret
    exact ⟨by rw [← HS.out]; rfl, hb1.trans (hbw.mono hb1.size)⟩
end Char
namespace Char
open Go.RowKit
set_option maxHeartbeats 400000 in
theorem refStart_any (n : Int) (w : World) :
  Calls Tryz.prog 82 #[.int .i64 n] w fun e w' => e = .returned (.bool (stC n)) ∧ Below w.heap.size w w' := by
 go_enter Tryz.func82, Tryz.ntmps82
 go_wp2_with fail
 refine (in_new stL 30 30 _ n w _ rfl rfl (by decide)).mono ?_
 rintro e w' ⟨rfl, rfl⟩
 go_wp2_with fail
 go_ret
 exact ⟨rfl, (Below.refl _ _).alloc (Nat.le_refl _) _⟩
set_option maxHeartbeats 400000 in
theorem refPart_any (n : Int) (w : World) :
  Calls Tryz.prog 83 #[.int .i64 n] w fun e w' => e = .returned (.bool (paC n)) ∧ Below w.heap.size w w' := by
 unfold paC
 generalize hs : stC n = s
 have HS := Lib.hid hs
 clear hs
 go_enter Tryz.func83, Tryz.ntmps83
 go_wp2_with fail
 refine (refStart_any n w).mono ?_
 rintro e w1 ⟨rfl, hb1⟩
 rw [HS.out]
 cases s
 ·go_wp2_with fail
  refine (in_new paL 10 10 _ n w1 _ rfl rfl (by decide)).mono ?_
  rintro e w' ⟨rfl, rfl⟩
  go_wp2_with fail
  go_ret
  exact ⟨rfl, hb1.alloc hb1.size _⟩
 ·go_wp2_with fail
  go_ret
  exact ⟨rfl, hb1⟩
end Char
namespace Char
open Go.RowKit Go.Lib
def rnD (s : ByteArray) : Bool := validD s.data.toList && decide (0 < s.size) && decide (s.size ≤ 32) && (stC ((chsL s.data.toList).getD 0 0) && (chsL s.data.toList).all paC)
theorem rnD_eq (s : ByteArray) : rnD s = nmD s := by
 unfold rnD nmD txD
 by_cases h0 : 0 < s.size
 ·have hne : s.data.toList ≠ [] := by
   intro h; have := size_list s; rw [h] at this; simp at this; omega
  have hd : Utf8.decode s 0 = decodeL s.data.toList := by rw [decode_drop, List.drop_zero]
  rw [hd]
  cases hv : validD s.data.toList
  ·simp
  ·have hc : chsL s.data.toList = runesL s.data.toList := by unfold chsL; rw [if_pos hv]
   rw [hc, allR_all isC _ _ (Nat.le_refl _), allR_all paC _ _ (Nat.le_refl _)]
   have hg : (runesL s.data.toList).getD 0 0 = ((decodeL s.data.toList).1 : Int) := by rw [runesL_step _ hne]; rfl
   rw [hg]
   have himp : (runesL s.data.toList).all paC = true → (runesL s.data.toList).all isC = true := fun h => by
    rw [List.all_eq_true] at h ⊢
    exact fun x hx => pa_is x (h x hx)
   cases hp : (runesL s.data.toList).all paC
   ·simp
   ·rw [himp hp]
    simp
 ·have e0 : decide (0 < s.size) = false := decide_eq_false h0
  rw [e0]
  simp
set_option maxRecDepth 100000 in
set_option maxHeartbeats 2000000 in
theorem refName_any (s : ByteArray) (w : World) (hs : s.size ≤ 1048576) :
  Calls Tryz.prog 50 #[.string s] w fun e w' => e = .returned (.bool (nmD s)) ∧ Below w.heap.size w w' := by
 rw [← rnD_eq]
 have hC := chars_any s w hs
 have hzl : (chsL s.data.toList).length ≤ 1048576 := by
  have el : s.data.toList.length = s.size := by rw [Array.length_toList]; rfl
  unfold chsL
  split
  ·have := runesL_length _ s.data.toList (Nat.le_refl _); omega
  ·simp
 have hz0 : validD s.data.toList = true → 0 < s.size → 0 < (chsL s.data.toList).length := fun hv h => by
  unfold chsL
  rw [if_pos hv, runesL_step _ (by intro h2; have := size_list s; rw [h2] at this; simp at this; omega)]
  simp
 obtain ⟨R, hR⟩ : ∃ R, rnD s = R := ⟨_, rfl⟩
 rw [hR]
 unfold rnD at hR
 generalize validD s.data.toList = V at hC hR hz0
 generalize chsL s.data.toList = zs at hC hR hzl hz0
 have HC := Lib.hid hC
 clear hC
 cases V
 ·have HR : Hid (false = R) := Lib.hid (by rw [← hR]; simp)
  clear hR hz0
  go_enter Tryz.func50, Tryz.ntmps50
  go_wp2_with fail
  refine HC.out.mono ?_
  rintro e w1 ⟨v, rfl, _, hb1⟩
  clear HC
  go_wp2_with fail
  go_ret
  exact ⟨by rw [← HR.out]; rfl, hb1⟩
 by_cases h0 : s.size < 1
 ·have HR : Hid (false = R) := Lib.hid (by rw [← hR, decide_eq_false (show ¬ 0 < s.size by omega)]; simp)
  have h0z : (s.size : Int) < 1 := by omega
  clear hR hz0 h0
  go_enter Tryz.func50, Tryz.ntmps50
  go_wp2_with fail
  refine HC.out.mono ?_
  rintro e w1 ⟨v, rfl, _, hb1⟩
  clear HC
  go_wp2_with fail
  go_ret
  exact ⟨by rw [← HR.out]; rfl, hb1⟩
 by_cases h32 : 32 < s.size
 ·have HR : Hid (false = R) := Lib.hid (by rw [← hR, decide_eq_false (show ¬ s.size ≤ 32 by omega)]; simp)
  have h0z : ¬ (s.size : Int) < 1 := by omega
  have h3z : (32 : Int) < (s.size : Int) := by omega
  clear hR hz0 h0 h32
  go_enter Tryz.func50, Tryz.ntmps50
  go_wp2_with fail
  refine HC.out.mono ?_
  rintro e w1 ⟨v, rfl, _, hb1⟩
  clear HC
  go_wp2_with fail
  go_ret
  exact ⟨by rw [← HR.out]; rfl, hb1⟩
 rw [decide_eq_true (show 0 < s.size by omega), decide_eq_true (show s.size ≤ 32 by omega), Bool.true_and, Bool.true_and, Bool.true_and] at hR
 have hzz := hz0 rfl (by omega)
 have h0z : ¬ (s.size : Int) < 1 := by omega
 have h3z : ¬ (32 : Int) < (s.size : Int) := by omega
 have HR := Lib.hid hR
 clear hR hz0 h0 h32
 go_enter Tryz.func50, Tryz.ntmps50
 go_wp2_with fail
 refine HC.out.mono ?_
 rintro e w1 ⟨v, rfl, hown, hb1⟩
 clear HC
 rcases Reads.of hown with ⟨hz, rfl⟩ | ⟨g, cap, rfl, hg, hcells⟩
 ·rw [hz] at hzz
  simp at hzz
 clear hown
 have HG := Lib.hid hcells
 clear hcells
 have hcell0 : w1.cell? ⟨g, 0, none⟩ = some (.int .i64 (zs.getD 0 0)) := HG.out 0 hzz
 obtain ⟨x0, hx0⟩ : ∃ x0, zs.getD 0 0 = x0 := ⟨_, rfl⟩
 rw [hx0] at hcell0
 have hr2 := HR.out
 rw [hx0] at hr2
 have HR2 := Lib.hid hr2
 clear hr2 HR hx0
 go_wp2_with fail
 refine (refStart_any x0 w1).mono ?_
 rintro e w2 ⟨rfl, hb2⟩
 have hb12 := hb1.trans (hb2.mono hb1.size)
 generalize stC x0 = c0 at HR2
 clear hcell0
 cases c0
 ·go_wp2_with fail
  go_ret
  exact ⟨by rw [← HR2.out]; rfl, hb12⟩
 ·go_wp2_with fail
  go_loopw [5] (fun i wr => ∃ k : Nat, k ≤ zs.length ∧ i = .int .i64 (k : Int) ∧ Below w1.heap.size w1 wr ∧ Hid ((zs.drop k).all paC = R)) (fun i _ => zs.length - (RowKit.intOf i).toNat)
  case atStart => exact ⟨0, Nat.zero_le _, rfl, hb2, Lib.hid (by simpa using HR2.out)⟩
  case round =>
   obtain ⟨k, hk, rfl, hbw, HB⟩ := hrel
   by_cases hlt : k < zs.length
   ·have hcell : wr.cell? ⟨g, k, none⟩ = some (.int .i64 (zs.getD k 0)) := (hbw.cell (p := ⟨g, k, none⟩) hg).trans (HG.out k hlt)
    have hst := HB.out
    rw [all_step paC zs k hlt] at hst
    generalize zs.getD k 0 = x at hcell hst
    have HS := Lib.hid hst
    clear hst HB
    go_wp2_with fail
    refine (refPart_any x wr).mono ?_
    rintro e w3 ⟨rfl, hb3⟩
    generalize paC x = c at HS
    have hbw2 := hbw.trans (hb3.mono hbw.size)
    cases c
    ·go_wp2_with fail
     go_ret
     exact ⟨by rw [← HS.out]; rfl, hb1.trans (hbw2.mono hb1.size)⟩
    ·go_wp2_with fail
     go_roundw
     case rel => exact ⟨k + 1, by omega, by go_num, hbw2, Lib.hid (by rw [← HS.out]; rfl)⟩
     case measure => simp [RowKit.intOf]; omega
   ·have hst := HB.out
    rw [all_end paC zs k hlt] at hst
    have HS := Lib.hid hst
    clear hst HB
    go_wp2_with fail
    go_ret
    exact ⟨by rw [← HS.out]; rfl, hb1.trans (hbw.mono hb1.size)⟩
end Char
namespace Char
open Go.RowKit Go.Lib
set_option maxHeartbeats 400000 in
theorem blank_any (s : ByteArray) (w : World) :
  Calls Tryz.prog 89 #[.string s] w fun e w' => e = .returned (.bool (allR spC s.data.toList)) ∧ Below w.heap.size w w' := by
 obtain ⟨R, hR⟩ : ∃ R, R = allR spC s.data.toList := ⟨_, rfl⟩
 rw [← hR]
 have HR := Lib.hid hR
 clear hR
 go_enter Tryz.func89, Tryz.ntmps89
 go_wp2_with fail
 go_loopw [] (fun wr => ∃ pos : Nat, wr.heap[w.heap.size]? = some (.stringIter s pos) ∧ Below w.heap.size w wr ∧ R = allR spC (s.data.toList.drop pos)) (fun wr => s.size - wr.iterPos w.heap.size)
 case atStart => exact ⟨0, World.iter_heap w s 0, (Below.refl _ _).alloc (Nat.le_refl _) _, by simpa using HR.out⟩
 case round =>
  obtain ⟨pos, hit, hbw, hr⟩ := hrel
  have hsz : w.heap.size < wr.heap.size := (Array.getElem?_eq_some_iff.1 hit).1
  have hip : wr.iterPos w.heap.size = pos := iterPos_of hit
  by_cases hp : pos < s.size
  ·have hst := allR_at spC s pos hp
   have hwd := width_pos s pos hp
   have hnx : ∀ ty, (Instr.next (.pointer (some ⟨w.heap.size, 0, none⟩)) true ty).run Tryz.prog wr = _ := fun ty => Lib.run_next_any_at wr w.heap.size s pos ty hit hp
   have hit2 := Lib.iterAt_heap wr w.heap.size s pos (pos + (Utf8.decode s pos).2) hit
   have hbw2 := Lib.below_iterAt hbw (k := w.heap.size) (Nat.le_refl _) s (pos + (Utf8.decode s pos).2)
   generalize (Utf8.decode s pos).1 = r at hst hnx
   generalize (Utf8.decode s pos).2 = d at hst hnx hwd hit2 hbw2
   generalize wr.iterAt w.heap.size s (pos + d) = W1 at hnx hit2 hbw2
   rw [← hr] at hst
   have HS := Lib.hid hst
   have HI := Lib.hid hit2
   have HP := Lib.hid hip
   clear hst hr hit hit2 hip
   go_wp2_with fail
   refine (chSpace_any (r : Int) W1).mono ?_
   rintro e W2 ⟨rfl, hb2⟩
   have hbw3 := hbw2.trans (hb2.mono hbw2.size)
   have hz1 : w.heap.size < W1.heap.size := (Array.getElem?_eq_some_iff.1 HI.out).1
   have hit3 : W2.heap[w.heap.size]? = some (.stringIter s (pos + d)) := (hb2.block _ hz1).trans HI.out
   have HI3 := Lib.hid hit3
   clear hit3
   generalize spC (r : Int) = v at HS
   cases v
   ·go_wp2_with fail
    go_ret
    exact ⟨by rw [HS.out]; rfl, hbw3⟩
   ·go_wp2_with fail
    go_roundw
    case rel => exact ⟨pos + d, HI3.out, hbw3, by rw [HS.out]; rfl⟩
    case measure =>
     rw [iterPos_of HI3.out, HP.out]
     omega
  ·have hf := drop_end s pos hp
   rw [hf, allR_nil] at hr
   have hnx : ∀ ty, (Instr.next (.pointer (some ⟨w.heap.size, 0, none⟩)) true ty).run Tryz.prog wr = _ := fun ty => Lib.run_next_end_at wr w.heap.size s pos ty hit hp
   have HF := Lib.hid hr
   clear hf hr hit hip
   go_wp2_with fail
   go_ret
   exact ⟨by rw [HF.out]; rfl, hbw⟩
def blB (l : List UInt8) : Bool := l.all fun c => spC (c.toNat : Int)
theorem blB_step (s : ByteArray) (k : Nat) (h : k < s.size) : blB (s.data.toList.drop k) = (spC ((s[k]'h).toNat : Int) && blB (s.data.toList.drop (k + 1))) := by
 have el : s.data.toList.length = s.size := by rw [Array.length_toList]; rfl
 unfold blB
 rw [List.drop_eq_getElem_cons (by omega : k < s.data.toList.length), List.all_cons]
 rfl
set_option maxRecDepth 100000 in
set_option maxHeartbeats 2000000 in
theorem refBlank_any (s : ByteArray) (w : World) (hs : s.size ≤ 1048576) :
  Calls Tryz.prog 34 #[.string s] w fun e w' => e = .returned (.bool (allR spC s.data.toList)) ∧ w = w' := by
 rw [blank_bytes _ _ (Nat.le_refl _)]
 show Calls Tryz.prog 34 #[.string s] w fun e w' => e = .returned (.bool (blB s.data.toList)) ∧ w = w'
 obtain ⟨R, hR⟩ : ∃ R, blB s.data.toList = R := ⟨_, rfl⟩
 rw [hR]
 have HR := Lib.hid hR
 clear hR
 go_enter Tryz.func34, Tryz.ntmps34
 go_wp2_with fail
 go_loop [3] (fun i => ∃ k : Nat, k ≤ s.size ∧ i = .int .i64 (k : Int) ∧ Hid (blB (s.data.toList.drop k) = R)) (fun i => s.size - (RowKit.intOf i).toNat)
 case atStart => exact ⟨0, Nat.zero_le _, rfl, Lib.hid (by simpa using HR.out)⟩
 case round =>
  obtain ⟨k, hk, rfl, HB⟩ := hrel
  by_cases hlt : k < s.size
  ·have hst := HB.out
   rw [blB_step s k hlt] at hst
   have hx3 := (s[k]'hlt).toNat_lt
   generalize hx : (s[k]'hlt).toNat = x at hst hx3
   have HS := Lib.hid hst
   clear hst HB
   go_wp2_with fail
   refine (refSpace_any (x : Int) w).mono ?_
   rintro e w2 ⟨rfl, rfl⟩
   generalize spC (x : Int) = c at HS
   cases c
   ·go_wp2_with fail
    go_ret
    exact ⟨by rw [← HS.out]; rfl, rfl⟩
   ·go_wp2_with fail
    go_round
    case rel => exact ⟨k + 1, by omega, by go_num, Lib.hid (by rw [← HS.out]; rfl)⟩
    case measure => simp [RowKit.intOf]; omega
  ·have hst := HB.out
   rw [drop_end s k hlt] at hst
   have HS := Lib.hid hst
   clear hst HB
   go_wp2_with fail
   go_ret
   exact ⟨by rw [← HS.out]; rfl, rfl⟩
end Char
end Go.Proofs.YtlmodgnkmlbjhaaGreatDoor
