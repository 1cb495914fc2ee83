/- The walk of the law EscOne, and of its digits. -/
import Derived.Test.YtffbooapdlpocaaDoorLaws5
namespace Go.Proofs.YtffbooapdlpocaaDoor.Char
open Go.RowKit Go.Lib

/-- the digits of a number's end: what is left ahead of them, and they -/
def Dgs (n0 m : Nat) (D : List UInt8) : Prop :=
  (∃ v, n0 = m * 10 ^ D.length + v ∧ ∀ k, valN 10 k D = some (k * 10 ^ D.length + v)) ∧ D.all (fun b => decide (b.toNat < 128) && isC (b.toNat : Int)) = true ∧ D.all noS = true ∧ (∀ c ∈ D, c ≠ 120) ∧ D.length ≤ 10 ∧ m < 10 ^ (10 - D.length)
theorem Dgs.start (n : Nat) (h : n < 10000000000) : Dgs n n [] := ⟨⟨0, by simp, fun k => by simp [valN]⟩, rfl, rfl, (fun c hc => by cases hc), by simp, by simpa using h⟩
/-- the digit's byte -/
def dgB (d : Nat) : UInt8 := UInt8.ofNat (48 + d)
theorem dgB_facts : ∀ d, d < 10 → dgV (dgB d) = d ∧ (dgB d).toNat < 128 ∧ isC ((dgB d).toNat : Int) = true ∧ noS (dgB d) = true ∧ dgB d ≠ 120 := by decide
theorem Dgs.step {n0 m : Nat} {D : List UInt8} (h : Dgs n0 m D) (hm : 0 < m ∨ D = []) : Dgs n0 (m / 10) (dgB (m % 10) :: D) := by
  obtain ⟨⟨v, hv, hk⟩, h1, h2, h3, h4, h5⟩ := h
  obtain ⟨f1, f2, f3, f4, f5⟩ := dgB_facts (m % 10) (Nat.mod_lt _ (by omega))
  have hlen : D.length < 10 := by
    rcases hm with hm | hm
    · rcases Nat.lt_or_ge D.length 10 with h | h
      · exact h
      · rw [show 10 - D.length = 0 by omega] at h5
        simp at h5
        omega
    · rw [hm]; simp
  refine ⟨⟨m % 10 * 10 ^ D.length + v, ?_, fun k => ?_⟩, ?_, ?_, ?_, by simp; omega, ?_⟩
  · rw [List.length_cons, Nat.pow_succ, hv]
    have := Nat.div_add_mod m 10
    generalize 10 ^ D.length = p at *
    have e : m * p = (m / 10) * (p * 10) + m % 10 * p := by
      conv => lhs; rw [← this]
      rw [Nat.add_mul, Nat.mul_comm 10 (m / 10), Nat.mul_assoc, Nat.mul_comm 10 p]
    omega
  · unfold valN
    rw [f1, if_pos (Nat.mod_lt _ (by omega)), hk, List.length_cons, Nat.pow_succ]
    congr 1
    rw [Nat.add_mul, Nat.mul_assoc, Nat.mul_comm 10 (10 ^ D.length)]
    omega
  · rw [List.all_cons, h1, Bool.and_true, Bool.and_eq_true, decide_eq_true_eq]
    exact ⟨f2, f3⟩
  · rw [List.all_cons, h2, f4]; rfl
  · intro c hc
    rcases List.mem_cons.1 hc with rfl | hc
    · exact f5
    · exact h3 c hc
  · rw [List.length_cons]
    have e : 10 ^ (10 - D.length) = 10 ^ (10 - (D.length + 1)) * 10 := by
      rw [← Nat.pow_succ]
      congr 1
      omega
    rw [e] at h5
    omega

theorem ten_ext (d : Nat) (h : d < 10) : (bs [48, 49, 50, 51, 52, 53, 54, 55, 56, 57]).extract d (d + 1) = bs [dgB d] := by
  rw [bs_ext]
  match d, h with
  | 0, _ => rfl
  | 1, _ => rfl
  | 2, _ => rfl
  | 3, _ => rfl
  | 4, _ => rfl
  | 5, _ => rfl
  | 6, _ => rfl
  | 7, _ => rfl
  | 8, _ => rfl
  | 9, _ => rfl
theorem ten_slice (d : Nat) (h : d < 10) (wx : World) : (Instr.slice 9 (.string ⟨#[48, 49, 50, 51, 52, 53, 54, 55, 56, 57]⟩) (some (.int .u64 (d : Int))) (some (.int .u64 ((d : Int) + 1))) none).run Tryd.prog wx = .ok (.string (bs [dgB d])) wx := by
  have hsz : (bs [48, 49, 50, 51, 52, 53, 54, 55, 56, 57]).size = 10 := rfl
  have := run_slice_string (P := Tryd.prog) wx 9 (bs [48, 49, 50, 51, 52, 53, 54, 55, 56, 57]) .u64 .u64 (d : Int) ((d : Int) + 1) Tryd.underlying9 (by omega) (by omega) (by rw [hsz]; omega)
  rw [show (d : Int).toNat = d by omega, show ((d : Int) + 1).toNat = d + 1 by omega, ten_ext d h] at this
  exact this
/-- one, for an empty text -/
def lackOf : Value → Nat
  | .string S => if S.size = 0 then 1 else 0
  | _ => 0
theorem lack_bs (D : List UInt8) : lackOf (.string (bs D)) = if D = [] then 1 else 0 := by
  show (if (bs D).size = 0 then 1 else 0) = _
  rw [bs_size]
  by_cases h : D = []
  · rw [if_pos h, h]; rfl
  · rw [if_neg h, if_neg (by have := List.length_pos_iff.2 h; omega)]
/-- what the digits' text is -/
def DgPost (n0 : Nat) (w : World) (e : Ending) (w' : World) : Prop := (∃ D, e = .returned (.string (bs D)) ∧ Dgs n0 0 D ∧ D ≠ []) ∧ w' = w

set_option maxRecDepth 100000 in
set_option maxHeartbeats 4000000 in
theorem digits_any (n : Nat) (w : World) (hn : n < 4294967296) : Calls Tryd.prog 15 #[.int .u64 (n : Int)] w (DgPost n w) := by
  have H0 := Lib.hid (Dgs.start n (by omega))
  have HN := Lib.hid hn
  clear hn
  go_enter Tryd.func15, Tryd.ntmps15
  go_wp2_with fail
  go_loop [0, 3] (fun i s => ∃ (m : Nat) (D : List UInt8), i = .int .u64 (m : Int) ∧ s = .string (bs D) ∧ Hid (m ≤ n) ∧ Hid (Dgs n m D)) (fun i s => (RowKit.intOf i).toNat + lackOf s)
  case atStart => exact ⟨n, [], rfl, rfl, Lib.hid (Nat.le_refl _), H0⟩
  case round =>
    obtain ⟨m, D, rfl, rfl, HM, HD⟩ := hrel
    have hm32 : m < 4294967296 := Nat.lt_of_le_of_lt HM.out HN.out
    have emod : ((m : Int) % 10) = ((m % 10 : Nat) : Int) := by omega
    have hsl : ∀ wx, (Instr.slice 9 (.string ⟨#[48, 49, 50, 51, 52, 53, 54, 55, 56, 57]⟩) (some (.int .u64 ((m : Int) % 10))) (some (.int .u64 ((m : Int) % 10 + 1))) none).run Tryd.prog wx = .ok (.string (bs [dgB (m % 10)])) wx := fun wx => by
      rw [emod]
      exact ten_slice (m % 10) (Nat.mod_lt _ (by omega)) wx
    have hdl := HD.out.2.2.2.2.1
    have hadd := add_bs [dgB (m % 10)] D (by simp) (by omega)
    have hlk := lack_bs D
    have hlk2 := lack_bs (dgB (m % 10) :: D)
    rw [if_neg (by simp)] at hlk2
    have HLK := Lib.hid hlk
    have HLK2 := Lib.hid hlk2
    clear emod hlk hlk2
    by_cases h0 : 0 < m
    · have HS := Lib.hid (HD.out.step (.inl h0))
      clear hdl
      go_wp2_with fail
      go_round
      case rel => exact ⟨m / 10, [dgB (m % 10)] ++ D, by go_num, rfl, Lib.hid (by have := HM.out; omega), HS⟩
      case measure =>
        rw [HLK.out, HLK2.out]
        simp [RowKit.intOf]
        omega
    · obtain rfl : m = 0 := by omega
      by_cases hD : D = []
      · have HS := Lib.hid (HD.out.step (.inr hD))
        rw [if_pos hD] at HLK
        have i1 : (bs D).toList = [] := by rw [bs_tl]; exact hD
        have i2 : (bs D).toList.isEmpty = true := by rw [i1]; rfl
        have hsl0 : ∀ wx, (Instr.slice 9 (.string ⟨#[48, 49, 50, 51, 52, 53, 54, 55, 56, 57]⟩) (some (.int .u64 0)) (some (.int .u64 1)) none).run Tryd.prog wx = .ok (.string (bs [dgB 0])) wx := ten_slice 0 (by omega)
        have hadd0 := add_bs [dgB 0] D (by simp) (by omega)
        clear hdl hD hadd hsl
        go_wp2_with fail
        go_round
        case rel => exact ⟨0, [dgB 0] ++ D, by go_num, rfl, Lib.hid (by omega), HS⟩
        case measure =>
          rw [HLK.out]
          have h := HLK2.out
          simp [RowKit.intOf] at h ⊢
          omega
      · have i1 : ¬ (bs D).toList = [] := by rw [bs_tl]; exact hD
        have i2 : (bs D).toList.isEmpty = false := by rw [bs_tl]; cases D with | nil => exact absurd rfl hD | cons _ _ => rfl
        have HNE := Lib.hid hD
        clear hdl hD
        go_wp2_with fail
        go_ret
        exact ⟨⟨D, rfl, HD.out, HNE.out⟩, rfl⟩

theorem one_get {n : Nat} {D : List UInt8} (h : Dgs n 0 D) (hne : D ≠ []) : getD5 false (38 :: 35 :: (D ++ [59])) = if isC (n : Int) then (encodeRune (n : Int), 0) else ([], 12) := by
  obtain ⟨⟨v, hv, hk⟩, h1, h2, h3, _, _⟩ := h
  have hvn : v = n := by omega
  subst hvn
  have htx : txD (38 :: 35 :: (D ++ [59])) = true := by
    have h := txL_list (38 :: 35 :: (D ++ [59])) [] (by
      rw [List.all_cons, List.all_cons, List.all_append, h1]
      decide)
    rw [List.append_nil] at h
    exact h
  rw [get_yes htx]
  have hc : chL (35 :: D) = if isC (v : Int) then some v else none := by
    rw [ch_dec D (by
      cases D with
      | nil => simp
      | cons c t =>
        intro hh
        simp at hh
        exact h3 c (by simp) hh)]
    unfold chrN
    have hk0 := hk 0
    rw [Nat.zero_mul, Nat.zero_add] at hk0
    rw [if_neg hne, hk0]
    rfl
  have hr : refL (35 :: (D ++ [59])) = (if isC (v : Int) then some v else none).map fun n => (n, []) := by
    have h := refL_app (35 :: D) [] (by rw [List.all_cons, h2]; rfl)
    rw [hc] at h
    exact h
  cases hic : isC (v : Int) with
  | true =>
    rw [hic] at hr
    have hs := stp_amp_some false (n := v) (r := []) hr
    rw [gL_step [] hs, gL_end _ rfl]
    rfl
  | false =>
    rw [hic] at hr
    have hs := stp_amp_none false (t := 35 :: (D ++ [59])) hr
    rw [gL_err [] hs (by omega)]
    rfl
theorem enc_eq {n : Nat} (h : isC (n : Int) = true) : Utf8.encode (n : Int) = bs (encodeRune (n : Int)) := by
  have hc := isC_le h
  have hv : Utf8.valid (n : Int) = true := by
    unfold Utf8.valid
    simp
    omega
  unfold Utf8.encode
  simp only [hv, if_true, Int.toNat_natCast]
  unfold encodeRune
  by_cases h1 : n < 128
  · rw [if_pos h1, encodeRuneZ_one (by omega) (by omega)]
    simp [bs]
  rw [if_neg h1]
  by_cases h2 : n < 2048
  · rw [if_pos h2, encodeRuneZ_two (by omega) (by omega)]
    have e1 : (192 + (n : Int) / 64).toNat = 192 + n / 64 := by omega
    have e2 : (128 + (n : Int) % 64).toNat = 128 + n % 64 := by omega
    simp [bs, e1, e2]
  rw [if_neg h2]
  by_cases h3 : n < 65536
  · rw [if_pos h3, encodeRuneZ_three (by omega)]
    have e1 : (224 + (n : Int) / 4096).toNat = 224 + n / 4096 := by omega
    have e2 : (128 + (n : Int) / 64 % 64).toNat = 128 + n / 64 % 64 := by omega
    have e3 : (128 + (n : Int) % 64).toNat = 128 + n % 64 := by omega
    simp [bs, e1, e2, e3]
  · rw [if_neg h3, encodeRuneZ_four (by omega) (by omega)]
    have e1 : (240 + (n : Int) / 262144).toNat = 240 + n / 262144 := by omega
    have e2 : (128 + (n : Int) / 4096 % 64).toNat = 128 + n / 4096 % 64 := by omega
    have e3 : (128 + (n : Int) / 64 % 64).toNat = 128 + n / 64 % 64 := by omega
    have e4 : (128 + (n : Int) % 64).toNat = 128 + n % 64 := by omega
    simp [bs, e1, e2, e3, e4]

set_option maxRecDepth 100000 in
set_option maxHeartbeats 8000000 in
theorem one_law (z : Int) (w : World) (hz : 0 ≤ z ∧ z ≤ 4294967295) (hG : Gl w) :
    Calls Tryd.prog 6 #[.int .u32 z] w fun e w' => e = .returned (.bool true) ∧ Below w.heap.size w w' := by
  obtain ⟨n, rfl⟩ : ∃ n : Nat, z = (n : Int) := ⟨z.toNat, by omega⟩
  have hn : n < 4294967296 := by omega
  have CD := Lib.hid (fun W => digits_any n W hn)
  have CI := Lib.hid (fun W => refIs_any (n : Int) W)
  have HG := Lib.hid hG
  have CW := fun W hW => Lib.hid (works_any W hW)
  have n0 : (0 : Int) ≤ (n : Int) := by omega
  have n1 : (n : Int) ≤ 4294967295 := by omega
  clear hG hz
  go_enter Tryd.func6, Tryd.ntmps6
  go_wp2_with fail
  refine (CD.out _).mono ?_
  rintro e w1 ⟨⟨D, rfl, hD, hne⟩, rfl⟩
  have hlen := hD.2.2.2.2.1
  have hget := one_get hD hne
  obtain ⟨S1, hS1⟩ : ∃ S1, S1 = bs ([38, 35] ++ D) := ⟨_, rfl⟩
  obtain ⟨S2, hS2⟩ : ∃ S2, S2 = bs (([38, 35] ++ D) ++ [59]) := ⟨_, rfl⟩
  have hadd1 : ∀ wx, (Op.stringOp .add ⟨#[38, 35]⟩ (bs D)).run Tryd.prog wx = .ok (.string S1) wx := fun wx => by rw [hS1]; exact add_bs [38, 35] D (by simp) (by omega) wx
  have hadd2 : ∀ wx, (Op.stringOp .add S1 ⟨#[59]⟩).run Tryd.prog wx = .ok (.string S2) wx := fun wx => by rw [hS1, hS2]; exact add_bs ([38, 35] ++ D) [59] (by simp; omega) (by simp) wx
  have hG2 : ∀ W, Gl W → Calls Tryd.prog 11 #[.string S2] W fun e w' => e = .returned (.tuple #[.string (bs (getD5 false (38 :: 35 :: (D ++ [59]))).1), .int .i64 ((getD5 false (38 :: 35 :: (D ++ [59]))).2 : Int)]) ∧ Below W.heap.size W w' := fun W hW => by
    rw [hS2]
    exact Get_any (38 :: 35 :: (D ++ [59])) W (by simp; omega) hW
  rw [hget] at hG2
  clear hget hS1 hS2 hD hne hlen
  cases hic : isC (n : Int) with
  | false =>
    rw [hic] at hG2 CI
    have C2 : ∀ W, Gl W → Hid (Calls Tryd.prog 11 #[.string S2] W fun e w' => e = .returned (.tuple #[.string (bs []), .int .i64 12]) ∧ Below W.heap.size W w') := fun W hW => Lib.hid (hG2 W hW)
    have i1 : (bs []).toList = [] := bs_tl []
    have i2 : (bs []).toList.isEmpty = true := by rw [i1]; rfl
    clear hG2 hic CD
    go_wp2_with fail
    refine (C2 _ HG.out).out.mono ?_
    rintro e w2 ⟨rfl, h2⟩
    go_wp2_with fail
    refine (CI.out _).mono ?_
    rintro e w3 ⟨rfl, h3⟩
    have b3 := h2.trans (h3.mono h2.size)
    go_wp2_with fail
    refine (CW _ (HG.out.below b3)).out.mono ?_
    rintro e w4 ⟨rfl, h4⟩
    go_wp2_with fail
    go_ret
    exact ⟨rfl, b3.trans (h4.mono b3.size)⟩
  | true =>
    have henc := enc_eq hic
    have hle := isC_le hic
    have hwr : IntKind.i32.wrap (n : Int) = (n : Int) := by rw [IntKind.wrap_i32]; omega
    rw [hic] at hG2 CI
    have c2 : ∀ W, Gl W → Calls Tryd.prog 11 #[.string S2] W fun e w' => e = .returned (.tuple #[.string (bs (encodeRune (n : Int))), .int .i64 0]) ∧ Below W.heap.size W w' := fun W hW => hG2 W hW
    rw [← henc] at c2
    have C2 := fun W hW => Lib.hid (c2 W hW)
    clear hG2 hic CD c2 henc hle
    go_wp2_with fail
    refine (C2 _ HG.out).out.mono ?_
    rintro e w2 ⟨rfl, h2⟩
    go_wp2_with fail
    refine (CI.out _).mono ?_
    rintro e w3 ⟨rfl, h3⟩
    have b3 := h2.trans (h3.mono h2.size)
    go_wp2_with fail
    refine (CW _ (HG.out.below b3)).out.mono ?_
    rintro e w4 ⟨rfl, h4⟩
    go_wp2_with fail
    go_ret
    exact ⟨rfl, b3.trans (h4.mono b3.size)⟩
end Go.Proofs.YtffbooapdlpocaaDoor.Char
