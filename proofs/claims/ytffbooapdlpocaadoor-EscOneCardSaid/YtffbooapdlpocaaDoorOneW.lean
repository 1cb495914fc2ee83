/- The walk of the document's own 'the character with which bytes begin', a class of lead bytes at a time. -/
import Derived.Test.YtffbooapdlpocaaDoorOne
import Derived.Test.YtffbooapdlpocaaDoorProg
import Derived.WalkKit
import Derived.Below
import Derived.Outline
import Derived.Lib.Hide
namespace Go.Proofs.YtffbooapdlpocaaDoor.Char
open Go.RowKit Go.Lib

/-- the number that the first bytes spell -/
def vN (c : Nat → Nat) (n0 : Nat) : Nat → Nat
  | 0 => n0
  | j + 1 => vN c n0 j * 64 + (c (j + 1) - 128)
set_option maxRecDepth 100000 in
theorem vN_le (c : Nat → Nat) (n0 : Nat) : ∀ j, (∀ i, 1 ≤ i → i ≤ j → 128 ≤ c i ∧ c i ≤ 191) → vN c n0 j + 1 ≤ (n0 + 1) * 64 ^ j
  | 0, _ => by
    rw [Nat.pow_zero, Nat.mul_one]
    exact Nat.le_refl _
  | j + 1, h => by
    have ih := vN_le c n0 j fun i h1 h2 => h i h1 (by omega)
    have hc := h (j + 1) (by omega) (Nat.le_refl _)
    rw [Nat.pow_succ, ← Nat.mul_assoc]
    generalize (n0 + 1) * 64 ^ j = X at ih
    show vN c n0 j * 64 + (c (j + 1) - 128) + 1 ≤ X * 64
    omega
theorem byt_at (s : ByteArray) (j : Nat) (h : j < s.size) : (s[j]'h).toNat = byt s.data.toList j := by
  unfold byt
  have e : s.data.toList.length = s.size := by rw [Array.length_toList]; rfl
  rw [List.getD, List.getElem?_eq_getElem (by omega)]
  rfl
theorem ret_two {k : IntKind} {a b c d : Int} (h : a = c) (h2 : b = d) : Ending.returned (.tuple #[.int k a, .int k b]) = Ending.returned (.tuple #[.int k c, .int k d]) := by rw [h, h2]

set_option maxRecDepth 100000 in
set_option maxHeartbeats 1000000 in
theorem one_empty (s : ByteArray) (w : World) (h0 : s.size = 0) :
    Calls Tryd.prog 33 #[.string s] w fun e w' => e = .returned (.tuple #[.int .i64 (0 : Int), .int .i64 (0 : Int)]) ∧ w = w' := by
  have h0b : ((s.size : Int) == 0) = true := by simp [h0]
  clear h0
  go_enter Tryd.func33, Tryd.ntmps33
  go_wp2_with fail
  go_ret2
  exact ⟨rfl, rfl⟩

set_option maxRecDepth 100000 in
set_option maxHeartbeats 1000000 in
theorem one_ascii (s : ByteArray) (w : World) (hs : s.size ≤ 1048576) (h0 : 0 < s.size) (hb : (s[0]'h0).toNat < 128) :
    Calls Tryd.prog 33 #[.string s] w fun e w' => e = .returned (.tuple #[.int .i64 ((s[0]'h0).toNat : Int), .int .i64 (1 : Int)]) ∧ w = w' := by
  have h0b : ((s.size : Int) == 0) = false := by rw [beq_eq_false_iff_ne]; omega
  have h0z : (0 : Int) < (s.size : Int) := by omega
  generalize hx : (s[0]'h0).toNat = a at hb
  go_enter Tryd.func33, Tryd.ntmps33
  go_wp2_with fail
  go_ret2
  exact ⟨rfl, rfl⟩

set_option maxRecDepth 100000 in
set_option maxHeartbeats 1000000 in
theorem one_bad (s : ByteArray) (w : World) (hs : s.size ≤ 1048576) (h0 : 0 < s.size) (hb : (128 ≤ (s[0]'h0).toNat ∧ (s[0]'h0).toNat < 192) ∨ 248 ≤ (s[0]'h0).toNat) :
    Calls Tryd.prog 33 #[.string s] w fun e w' => e = .returned (.tuple #[.int .i64 (0 : Int), .int .i64 (0 : Int)]) ∧ w = w' := by
  have h0b : ((s.size : Int) == 0) = false := by rw [beq_eq_false_iff_ne]; omega
  have h0z : (0 : Int) < (s.size : Int) := by omega
  have hlt := (s[0]'h0).toNat_lt
  generalize hx : (s[0]'h0).toNat = a at hb hlt
  rcases hb with ⟨b1, b2⟩ | b1
  all_goals
    go_enter Tryd.func33, Tryd.ntmps33
    go_wp2_with fail
    go_ret2
    exact ⟨rfl, rfl⟩

set_option maxRecDepth 100000 in
set_option maxHeartbeats 1000000 in
theorem one_short2 (s : ByteArray) (w : World) (hs : s.size ≤ 1048576) (h0 : 0 < s.size) (hb : 192 ≤ (s[0]'h0).toNat ∧ (s[0]'h0).toNat < 224) (hl : s.size < 2) :
    Calls Tryd.prog 33 #[.string s] w fun e w' => e = .returned (.tuple #[.int .i64 (0 : Int), .int .i64 (0 : Int)]) ∧ w = w' := by
  have h0b : ((s.size : Int) == 0) = false := by rw [beq_eq_false_iff_ne]; omega
  have h0z : (0 : Int) < (s.size : Int) := by omega
  have hlz : (s.size : Int) < 2 := by omega
  obtain ⟨b1, b2⟩ := hb
  generalize hx : (s[0]'h0).toNat = a at b1 b2
  go_enter Tryd.func33, Tryd.ntmps33
  go_wp2_with fail
  go_ret2
  exact ⟨rfl, rfl⟩

set_option maxRecDepth 100000 in
set_option maxHeartbeats 2000000 in
theorem one_lead2 (s : ByteArray) (w : World) (hs : s.size ≤ 1048576) (h0 : 0 < s.size) (hb : 192 ≤ (s[0]'h0).toNat ∧ (s[0]'h0).toNat < 224) (hl : 2 ≤ s.size) (c : Nat → Nat)
    (hc : ∀ j (h : j < s.size), (s[j]'h).toNat = c j) :
    Calls Tryd.prog 33 #[.string s] w fun e w' => (∃ R : Nat × Nat, R = oneN s.size (c 0) (c 1) (c 2) (c 3) ∧ e = .returned (.tuple #[.int .i64 (R.1 : Int), .int .i64 (R.2 : Int)])) ∧ w = w' := by
  have h0b : ((s.size : Int) == 0) = false := by rw [beq_eq_false_iff_ne]; omega
  have h0z : (0 : Int) < (s.size : Int) := by omega
  have hlz : ¬ (s.size : Int) < 2 := by omega
  obtain ⟨b1, b2⟩ := hb
  have hx := hc 0 h0
  rw [hx] at b1 b2
  obtain ⟨R, hR⟩ : ∃ R, R = oneN s.size (c 0) (c 1) (c 2) (c 3) := ⟨_, rfl⟩
  have HR := Lib.hid hR
  clear hR
  have HC := Lib.hid hc
  clear hc
  obtain ⟨a, ha⟩ : ∃ a, c 0 = a := ⟨_, rfl⟩
  rw [ha] at hx b1 b2
  have HA := Lib.hid ha
  clear ha
  suffices hh : Calls Tryd.prog 33 #[.string s] w fun e w' => e = .returned (.tuple #[.int .i64 (R.1 : Int), .int .i64 (R.2 : Int)]) ∧ w = w' from
    hh.mono fun e w' ⟨he, hw⟩ => ⟨⟨R, HR.out, he⟩, hw⟩
  go_enter Tryd.func33, Tryd.ntmps33
  go_wp2_with fail
  go_loop [6, 8, 9] (fun nv kv _ => ∃ j : Nat, j + 1 ≤ 2 ∧ kv = .int .i64 ((j + 1 : Nat) : Int) ∧ nv = .int .i64 ((vN c (a - 192) j : Nat) : Int) ∧ Hid (∀ i, 1 ≤ i → i ≤ j → 128 ≤ c i ∧ c i ≤ 191)) (fun _ kv _ => 2 - (intOf kv).toNat)
  case atStart => exact ⟨0, by omega, rfl, by congr 1; unfold vN; omega, Lib.hid fun i h1 h2 => by omega⟩
  case round =>
    obtain ⟨j, hj, rfl, rfl, HG⟩ := hrel
    have hv := vN_le c (a - 192) j HG.out
    have hv2 : vN c (a - 192) j ≤ 2097151 := by
      have hj3 : j = 0 ∨ j = 1 ∨ j = 2 ∨ j = 3 := by omega
      rcases hj3 with rfl | rfl | rfl | rfl <;> simp at hv <;> omega
    clear hv
    by_cases hlt : j + 1 < 2
    · have hjs : j + 1 < s.size := by omega
      have hb3 := HC.out (j + 1) hjs
      have hstep : vN c (a - 192) (j + 1) = vN c (a - 192) j * 64 + (c (j + 1) - 128) := rfl
      obtain ⟨v1, hv1⟩ : ∃ v1, vN c (a - 192) (j + 1) = v1 := ⟨_, rfl⟩
      rw [hv1] at hstep
      have HV := Lib.hid hv1
      clear hv1
      generalize vN c (a - 192) j = v at hv2 hstep
      by_cases hg : 128 ≤ c (j + 1) ∧ c (j + 1) ≤ 191
      · have HG1 : Hid (∀ i, 1 ≤ i → i ≤ j + 1 → 128 ≤ c i ∧ c i ≤ 191) := Lib.hid fun i h1 h2 => by
          by_cases h : i = j + 1
          · rw [h]; exact hg
          · exact HG.out i h1 (by omega)
        obtain ⟨g1, g2⟩ := hg
        generalize c (j + 1) = x at hb3 hstep g1 g2
        have HS := Lib.hid hstep
        clear hstep
        go_wp2_with fail
        go_round
        case rel => exact ⟨j + 1, by omega, by go_num, by congr 1; rw [HV.out, HS.out]; omega, HG1⟩
        case measure => simp [intOf]; omega
      · have hbad : R = (0, 0) := by
          rw [HR.out, one_two _ _ _ _ _ (by rw [HA.out]; exact ⟨b1, b2⟩), if_neg]
          intro hh
          apply hg
          have hj3 : j + 1 = 1 ∨ j + 1 = 1 := by omega
          rcases hj3 with e | e <;> rw [e] <;> omega
        have HB := Lib.hid hbad
        have hx3 := (s[j + 1]'hjs).toNat_lt
        rw [hb3] at hx3
        rcases (by omega : c (j + 1) < 128 ∨ 191 < c (j + 1)) with g1 | g1
        all_goals
          generalize c (j + 1) = x at hb3 g1 hx3
          clear hstep hg hbad
          go_wp2_with fail
          go_ret2
          exact ⟨ret_two (by rw [HB.out]; rfl) (by rw [HB.out]; rfl), rfl⟩
    · obtain rfl : j = 1 := by omega
      clear hv2
      generalize hv : vN c (a - 192) 1 = v
      have hval : (c 0 - 192) * 64 + (c 1 - 128) = v := by
        rw [← hv, HA.out, show vN c (a - 192) 1 = (a - 192) * 64 + (c 1 - 128) from rfl]
        all_goals omega
      have hR : R = if v < 128 then (0, 0) else (v, 2) := by
        rw [HR.out, one_two _ _ _ _ _ (by rw [HA.out]; exact ⟨b1, b2⟩), if_pos ⟨by omega, HG.out 1 (by omega) (by omega)⟩, hval]
      have hvb : v ≤ 2047 := by
        have g1 := HG.out 1 (by omega) (by omega)
        skip
        rw [← hval, HA.out]
        omega
      have HRR := Lib.hid hR
      clear hR hv hval hlt
      by_cases hcond : v < 128
      · have hB := HRR.out
        rw [if_pos hcond] at hB
        have HB := Lib.hid hB
        clear hB HRR
        skip
        all_goals
          go_wp2_with fail
          all_goals
            go_ret2
            exact ⟨ret_two (by rw [HB.out]; rfl) (by rw [HB.out]; rfl), rfl⟩
      · have hB := HRR.out
        rw [if_neg hcond] at hB
        have HB := Lib.hid hB
        clear hB HRR
        skip
        all_goals
          go_wp2_with fail
          all_goals
            go_ret2
            exact ⟨ret_two (by rw [HB.out]) (by rw [HB.out]; rfl), rfl⟩

set_option maxRecDepth 100000 in
set_option maxHeartbeats 1000000 in
theorem one_short3 (s : ByteArray) (w : World) (hs : s.size ≤ 1048576) (h0 : 0 < s.size) (hb : 224 ≤ (s[0]'h0).toNat ∧ (s[0]'h0).toNat < 240) (hl : s.size < 3) :
    Calls Tryd.prog 33 #[.string s] w fun e w' => e = .returned (.tuple #[.int .i64 (0 : Int), .int .i64 (0 : Int)]) ∧ w = w' := by
  have h0b : ((s.size : Int) == 0) = false := by rw [beq_eq_false_iff_ne]; omega
  have h0z : (0 : Int) < (s.size : Int) := by omega
  have hlz : (s.size : Int) < 3 := by omega
  obtain ⟨b1, b2⟩ := hb
  generalize hx : (s[0]'h0).toNat = a at b1 b2
  go_enter Tryd.func33, Tryd.ntmps33
  go_wp2_with fail
  go_ret2
  exact ⟨rfl, rfl⟩

set_option maxRecDepth 100000 in
set_option maxHeartbeats 2000000 in
theorem one_lead3 (s : ByteArray) (w : World) (hs : s.size ≤ 1048576) (h0 : 0 < s.size) (hb : 224 ≤ (s[0]'h0).toNat ∧ (s[0]'h0).toNat < 240) (hl : 3 ≤ s.size) (c : Nat → Nat)
    (hc : ∀ j (h : j < s.size), (s[j]'h).toNat = c j) :
    Calls Tryd.prog 33 #[.string s] w fun e w' => (∃ R : Nat × Nat, R = oneN s.size (c 0) (c 1) (c 2) (c 3) ∧ e = .returned (.tuple #[.int .i64 (R.1 : Int), .int .i64 (R.2 : Int)])) ∧ w = w' := by
  have h0b : ((s.size : Int) == 0) = false := by rw [beq_eq_false_iff_ne]; omega
  have h0z : (0 : Int) < (s.size : Int) := by omega
  have hlz : ¬ (s.size : Int) < 3 := by omega
  obtain ⟨b1, b2⟩ := hb
  have hx := hc 0 h0
  rw [hx] at b1 b2
  obtain ⟨R, hR⟩ : ∃ R, R = oneN s.size (c 0) (c 1) (c 2) (c 3) := ⟨_, rfl⟩
  have HR := Lib.hid hR
  clear hR
  have HC := Lib.hid hc
  clear hc
  obtain ⟨a, ha⟩ : ∃ a, c 0 = a := ⟨_, rfl⟩
  rw [ha] at hx b1 b2
  have HA := Lib.hid ha
  clear ha
  suffices hh : Calls Tryd.prog 33 #[.string s] w fun e w' => e = .returned (.tuple #[.int .i64 (R.1 : Int), .int .i64 (R.2 : Int)]) ∧ w = w' from
    hh.mono fun e w' ⟨he, hw⟩ => ⟨⟨R, HR.out, he⟩, hw⟩
  go_enter Tryd.func33, Tryd.ntmps33
  go_wp2_with fail
  go_loop [6, 8, 9] (fun nv kv _ => ∃ j : Nat, j + 1 ≤ 3 ∧ kv = .int .i64 ((j + 1 : Nat) : Int) ∧ nv = .int .i64 ((vN c (a - 224) j : Nat) : Int) ∧ Hid (∀ i, 1 ≤ i → i ≤ j → 128 ≤ c i ∧ c i ≤ 191)) (fun _ kv _ => 3 - (intOf kv).toNat)
  case atStart => exact ⟨0, by omega, rfl, by congr 1; unfold vN; omega, Lib.hid fun i h1 h2 => by omega⟩
  case round =>
    obtain ⟨j, hj, rfl, rfl, HG⟩ := hrel
    have hv := vN_le c (a - 224) j HG.out
    have hv2 : vN c (a - 224) j ≤ 2097151 := by
      have hj3 : j = 0 ∨ j = 1 ∨ j = 2 ∨ j = 3 := by omega
      rcases hj3 with rfl | rfl | rfl | rfl <;> simp at hv <;> omega
    clear hv
    by_cases hlt : j + 1 < 3
    · have hjs : j + 1 < s.size := by omega
      have hb3 := HC.out (j + 1) hjs
      have hstep : vN c (a - 224) (j + 1) = vN c (a - 224) j * 64 + (c (j + 1) - 128) := rfl
      obtain ⟨v1, hv1⟩ : ∃ v1, vN c (a - 224) (j + 1) = v1 := ⟨_, rfl⟩
      rw [hv1] at hstep
      have HV := Lib.hid hv1
      clear hv1
      generalize vN c (a - 224) j = v at hv2 hstep
      by_cases hg : 128 ≤ c (j + 1) ∧ c (j + 1) ≤ 191
      · have HG1 : Hid (∀ i, 1 ≤ i → i ≤ j + 1 → 128 ≤ c i ∧ c i ≤ 191) := Lib.hid fun i h1 h2 => by
          by_cases h : i = j + 1
          · rw [h]; exact hg
          · exact HG.out i h1 (by omega)
        obtain ⟨g1, g2⟩ := hg
        generalize c (j + 1) = x at hb3 hstep g1 g2
        have HS := Lib.hid hstep
        clear hstep
        go_wp2_with fail
        go_round
        case rel => exact ⟨j + 1, by omega, by go_num, by congr 1; rw [HV.out, HS.out]; omega, HG1⟩
        case measure => simp [intOf]; omega
      · have hbad : R = (0, 0) := by
          rw [HR.out, one_three _ _ _ _ _ (by rw [HA.out]; exact ⟨b1, b2⟩), if_neg]
          intro hh
          apply hg
          have hj3 : j + 1 = 1 ∨ j + 1 = 2 := by omega
          rcases hj3 with e | e <;> rw [e] <;> omega
        have HB := Lib.hid hbad
        have hx3 := (s[j + 1]'hjs).toNat_lt
        rw [hb3] at hx3
        rcases (by omega : c (j + 1) < 128 ∨ 191 < c (j + 1)) with g1 | g1
        all_goals
          generalize c (j + 1) = x at hb3 g1 hx3
          clear hstep hg hbad
          go_wp2_with fail
          go_ret2
          exact ⟨ret_two (by rw [HB.out]; rfl) (by rw [HB.out]; rfl), rfl⟩
    · obtain rfl : j = 2 := by omega
      clear hv2
      generalize hv : vN c (a - 224) 2 = v
      have hval : (c 0 - 224) * 4096 + (c 1 - 128) * 64 + (c 2 - 128) = v := by
        rw [← hv, HA.out, show vN c (a - 224) 2 = ((a - 224) * 64 + (c 1 - 128)) * 64 + (c 2 - 128) from rfl]
        all_goals omega
      have hR : R = if v < 2048 ∨ (55296 ≤ v ∧ v ≤ 57343) then (0, 0) else (v, 3) := by
        rw [HR.out, one_three _ _ _ _ _ (by rw [HA.out]; exact ⟨b1, b2⟩), if_pos ⟨by omega, HG.out 1 (by omega) (by omega), HG.out 2 (by omega) (by omega)⟩, hval]
      have hvb : v ≤ 65535 := by
        have g1 := HG.out 1 (by omega) (by omega)
        have g2 := HG.out 2 (by omega) (by omega)
        rw [← hval, HA.out]
        omega
      have HRR := Lib.hid hR
      clear hR hv hval hlt
      by_cases hcond : v < 2048 ∨ (55296 ≤ v ∧ v ≤ 57343)
      · have hB := HRR.out
        rw [if_pos hcond] at hB
        have HB := Lib.hid hB
        clear hB HRR
        rcases hcond with q | ⟨q1, q2⟩
        all_goals
          go_wp2_with fail
          all_goals
            go_ret2
            exact ⟨ret_two (by rw [HB.out]; rfl) (by rw [HB.out]; rfl), rfl⟩
      · have hB := HRR.out
        rw [if_neg hcond] at hB
        have HB := Lib.hid hB
        clear hB HRR
        rcases (by omega : (2048 ≤ v ∧ v < 55296) ∨ 57343 < v) with ⟨q1, q2⟩ | q
        all_goals
          go_wp2_with fail
          all_goals
            go_ret2
            exact ⟨ret_two (by rw [HB.out]) (by rw [HB.out]; rfl), rfl⟩

set_option maxRecDepth 100000 in
set_option maxHeartbeats 1000000 in
theorem one_short4 (s : ByteArray) (w : World) (hs : s.size ≤ 1048576) (h0 : 0 < s.size) (hb : 240 ≤ (s[0]'h0).toNat ∧ (s[0]'h0).toNat < 248) (hl : s.size < 4) :
    Calls Tryd.prog 33 #[.string s] w fun e w' => e = .returned (.tuple #[.int .i64 (0 : Int), .int .i64 (0 : Int)]) ∧ w = w' := by
  have h0b : ((s.size : Int) == 0) = false := by rw [beq_eq_false_iff_ne]; omega
  have h0z : (0 : Int) < (s.size : Int) := by omega
  have hlz : (s.size : Int) < 4 := by omega
  obtain ⟨b1, b2⟩ := hb
  generalize hx : (s[0]'h0).toNat = a at b1 b2
  go_enter Tryd.func33, Tryd.ntmps33
  go_wp2_with fail
  go_ret2
  exact ⟨rfl, rfl⟩

set_option maxRecDepth 100000 in
set_option maxHeartbeats 2000000 in
theorem one_lead4 (s : ByteArray) (w : World) (hs : s.size ≤ 1048576) (h0 : 0 < s.size) (hb : 240 ≤ (s[0]'h0).toNat ∧ (s[0]'h0).toNat < 248) (hl : 4 ≤ s.size) (c : Nat → Nat)
    (hc : ∀ j (h : j < s.size), (s[j]'h).toNat = c j) :
    Calls Tryd.prog 33 #[.string s] w fun e w' => (∃ R : Nat × Nat, R = oneN s.size (c 0) (c 1) (c 2) (c 3) ∧ e = .returned (.tuple #[.int .i64 (R.1 : Int), .int .i64 (R.2 : Int)])) ∧ w = w' := by
  have h0b : ((s.size : Int) == 0) = false := by rw [beq_eq_false_iff_ne]; omega
  have h0z : (0 : Int) < (s.size : Int) := by omega
  have hlz : ¬ (s.size : Int) < 4 := by omega
  obtain ⟨b1, b2⟩ := hb
  have hx := hc 0 h0
  rw [hx] at b1 b2
  obtain ⟨R, hR⟩ : ∃ R, R = oneN s.size (c 0) (c 1) (c 2) (c 3) := ⟨_, rfl⟩
  have HR := Lib.hid hR
  clear hR
  have HC := Lib.hid hc
  clear hc
  obtain ⟨a, ha⟩ : ∃ a, c 0 = a := ⟨_, rfl⟩
  rw [ha] at hx b1 b2
  have HA := Lib.hid ha
  clear ha
  suffices hh : Calls Tryd.prog 33 #[.string s] w fun e w' => e = .returned (.tuple #[.int .i64 (R.1 : Int), .int .i64 (R.2 : Int)]) ∧ w = w' from
    hh.mono fun e w' ⟨he, hw⟩ => ⟨⟨R, HR.out, he⟩, hw⟩
  go_enter Tryd.func33, Tryd.ntmps33
  go_wp2_with fail
  go_loop [6, 8, 9] (fun nv kv _ => ∃ j : Nat, j + 1 ≤ 4 ∧ kv = .int .i64 ((j + 1 : Nat) : Int) ∧ nv = .int .i64 ((vN c (a - 240) j : Nat) : Int) ∧ Hid (∀ i, 1 ≤ i → i ≤ j → 128 ≤ c i ∧ c i ≤ 191)) (fun _ kv _ => 4 - (intOf kv).toNat)
  case atStart => exact ⟨0, by omega, rfl, by congr 1; unfold vN; omega, Lib.hid fun i h1 h2 => by omega⟩
  case round =>
    obtain ⟨j, hj, rfl, rfl, HG⟩ := hrel
    have hv := vN_le c (a - 240) j HG.out
    have hv2 : vN c (a - 240) j ≤ 2097151 := by
      have hj3 : j = 0 ∨ j = 1 ∨ j = 2 ∨ j = 3 := by omega
      rcases hj3 with rfl | rfl | rfl | rfl <;> simp at hv <;> omega
    clear hv
    by_cases hlt : j + 1 < 4
    · have hjs : j + 1 < s.size := by omega
      have hb3 := HC.out (j + 1) hjs
      have hstep : vN c (a - 240) (j + 1) = vN c (a - 240) j * 64 + (c (j + 1) - 128) := rfl
      obtain ⟨v1, hv1⟩ : ∃ v1, vN c (a - 240) (j + 1) = v1 := ⟨_, rfl⟩
      rw [hv1] at hstep
      have HV := Lib.hid hv1
      clear hv1
      generalize vN c (a - 240) j = v at hv2 hstep
      by_cases hg : 128 ≤ c (j + 1) ∧ c (j + 1) ≤ 191
      · have HG1 : Hid (∀ i, 1 ≤ i → i ≤ j + 1 → 128 ≤ c i ∧ c i ≤ 191) := Lib.hid fun i h1 h2 => by
          by_cases h : i = j + 1
          · rw [h]; exact hg
          · exact HG.out i h1 (by omega)
        obtain ⟨g1, g2⟩ := hg
        generalize c (j + 1) = x at hb3 hstep g1 g2
        have HS := Lib.hid hstep
        clear hstep
        go_wp2_with fail
        go_round
        case rel => exact ⟨j + 1, by omega, by go_num, by congr 1; rw [HV.out, HS.out]; omega, HG1⟩
        case measure => simp [intOf]; omega
      · have hbad : R = (0, 0) := by
          rw [HR.out, one_four _ _ _ _ _ (by rw [HA.out]; exact ⟨b1, b2⟩), if_neg]
          intro hh
          apply hg
          have hj3 : j + 1 = 1 ∨ j + 1 = 2 ∨ j + 1 = 3 := by omega
          rcases hj3 with e | e | e <;> rw [e] <;> omega
        have HB := Lib.hid hbad
        have hx3 := (s[j + 1]'hjs).toNat_lt
        rw [hb3] at hx3
        rcases (by omega : c (j + 1) < 128 ∨ 191 < c (j + 1)) with g1 | g1
        all_goals
          generalize c (j + 1) = x at hb3 g1 hx3
          clear hstep hg hbad
          go_wp2_with fail
          go_ret2
          exact ⟨ret_two (by rw [HB.out]; rfl) (by rw [HB.out]; rfl), rfl⟩
    · obtain rfl : j = 3 := by omega
      clear hv2
      generalize hv : vN c (a - 240) 3 = v
      have hval : (c 0 - 240) * 262144 + (c 1 - 128) * 4096 + (c 2 - 128) * 64 + (c 3 - 128) = v := by
        rw [← hv, HA.out, show vN c (a - 240) 3 = (((a - 240) * 64 + (c 1 - 128)) * 64 + (c 2 - 128)) * 64 + (c 3 - 128) from rfl]
        all_goals omega
      have hR : R = if v < 65536 ∨ 1114111 < v then (0, 0) else (v, 4) := by
        rw [HR.out, one_four _ _ _ _ _ (by rw [HA.out]; exact ⟨b1, b2⟩), if_pos ⟨by omega, HG.out 1 (by omega) (by omega), HG.out 2 (by omega) (by omega), HG.out 3 (by omega) (by omega)⟩, hval]
      have hvb : v ≤ 2097151 := by
        have g1 := HG.out 1 (by omega) (by omega)
        have g2 := HG.out 2 (by omega) (by omega); have g3 := HG.out 3 (by omega) (by omega)
        rw [← hval, HA.out]
        omega
      have HRR := Lib.hid hR
      clear hR hv hval hlt
      by_cases hcond : v < 65536 ∨ 1114111 < v
      · have hB := HRR.out
        rw [if_pos hcond] at hB
        have HB := Lib.hid hB
        clear hB HRR
        rcases hcond with q | q
        all_goals
          go_wp2_with fail
          all_goals
            go_ret2
            exact ⟨ret_two (by rw [HB.out]; rfl) (by rw [HB.out]; rfl), rfl⟩
      · have hB := HRR.out
        rw [if_neg hcond] at hB
        have HB := Lib.hid hB
        clear hB HRR
        obtain ⟨q1, q2⟩ : 65536 ≤ v ∧ v ≤ 1114111 := by omega
        all_goals
          go_wp2_with fail
          all_goals
            go_ret2
            exact ⟨ret_two (by rw [HB.out]) (by rw [HB.out]; rfl), rfl⟩

set_option maxRecDepth 100000 in
/-- the document's One, whatever the bytes -/
theorem one_any (s : ByteArray) (w : World) (hs : s.size ≤ 1048576) :
    Calls Tryd.prog 33 #[.string s] w fun e w' => e = .returned (.tuple #[.int .i64 ((oneL s.data.toList).1 : Int), .int .i64 ((oneL s.data.toList).2 : Int)]) ∧ w = w' := by
  have el : s.data.toList.length = s.size := by rw [Array.length_toList]; rfl
  by_cases h0 : s.size = 0
  · have hn : s.data.toList = [] := List.eq_nil_of_length_eq_zero (by omega)
    rw [hn]
    exact one_empty s w h0
  have h1 : 0 < s.size := by omega
  have hne : s.data.toList ≠ [] := by intro h; rw [h] at el; simp at el; omega
  have hlt := (s[0]'h1).toNat_lt
  have hc : ∀ j (h : j < s.size), (s[j]'h).toNat = byt s.data.toList j := byt_at s
  have hc0 := hc 0 h1
  rw [oneL_N _ hne, el]
  by_cases c1 : (s[0]'h1).toNat < 128
  · rw [one_low _ _ _ _ _ (by omega), ← hc0]
    exact one_ascii s w hs h1 c1
  by_cases c2 : (s[0]'h1).toNat < 192 ∨ 248 ≤ (s[0]'h1).toNat
  · rw [one_none _ _ _ _ _ (by omega) (by omega) (by omega) (by omega)]
    exact one_bad s w hs h1 (by omega)
  by_cases c3 : (s[0]'h1).toNat < 224
  · by_cases hl : s.size < 2
    · rw [one_two _ _ _ _ _ (by omega), if_neg (by omega)]
      exact one_short2 s w hs h1 (by omega) hl
    · refine (one_lead2 s w hs h1 (by omega) (by omega) _ hc).mono ?_
      rintro e w' ⟨⟨R, rfl, rfl⟩, hw⟩
      exact ⟨rfl, hw⟩
  by_cases c4 : (s[0]'h1).toNat < 240
  · by_cases hl : s.size < 3
    · rw [one_three _ _ _ _ _ (by omega), if_neg (by omega)]
      exact one_short3 s w hs h1 (by omega) hl
    · refine (one_lead3 s w hs h1 (by omega) (by omega) _ hc).mono ?_
      rintro e w' ⟨⟨R, rfl, rfl⟩, hw⟩
      exact ⟨rfl, hw⟩
  by_cases hl : s.size < 4
  · rw [one_four _ _ _ _ _ (by omega), if_neg (by omega)]
    exact one_short4 s w hs h1 (by omega) hl
  · refine (one_lead4 s w hs h1 (by omega) (by omega) _ hc).mono ?_
    rintro e w' ⟨⟨R, rfl, rfl⟩, hw⟩
    exact ⟨rfl, hw⟩
end Go.Proofs.YtffbooapdlpocaaDoor.Char
