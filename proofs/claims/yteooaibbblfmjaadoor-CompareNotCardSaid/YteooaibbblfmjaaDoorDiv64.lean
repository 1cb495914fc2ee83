/- The walk of math/bits.Div64, where the quotient fits. -/
import Derived.Test.YteooaibbblfmjaaDoorBitsW
import Derived.Test.YteooaibbblfmjaaDoorDivM
import Derived.Test.YteooaibbblfmjaaDoorLeast
import Derived.Laws.ShiftsVarLaws
import Derived.Deep.DeepCutAuto
import Derived.Deep.CutBlock
namespace Go.Proofs.YteooaibbblfmjaaDoor.Char
open Go.RowKit

/-- what Div64 leaves: the quotient, and something left -/
def DivPost (w : World) (q : Nat) (e : Ending) (w' : World) : Prop := ∃ r : Int, e = .returned (.tuple #[.int .u64 (q : Int), .int .u64 r]) ∧ Below w.heap.size w w'

set_option maxRecDepth 100000 in
set_option maxHeartbeats 2000000 in
theorem div64_low (lo y : Nat) (w : World) (hy : 0 < y) (hlo : lo < 18446744073709551616) (hy2 : y < 18446744073709551616) :
    Calls Tryd.prog 49 #[.int .u64 (0 : Int), .int .u64 (lo : Int), .int .u64 (y : Int)] w (DivPost w (lo / y)) := by
  have hyb : ((y : Int) == 0) = false := by rw [beq_eq_false_iff_ne]; omega
  have hyn : ¬ (y : Int) = 0 := by omega
  have hle : ¬ (y : Int) ≤ 0 := by omega
  obtain ⟨q, hq⟩ : ∃ q, q = lo / y := ⟨_, rfl⟩
  have hqb : q ≤ lo := by rw [hq]; exact Nat.div_le_self _ _
  have e1 : (lo : Int) / (y : Int) = (q : Int) := by rw [hq, Int.natCast_ediv]
  have e2 : IntKind.u64.wrap (q : Int) = (q : Int) := by rw [IntKind.wrap_u64]; omega
  rw [← hq]
  clear hq
  go_enter Tryd.func49, Tryd.ntmps49
  go_wp2_with fail
  go_quiet (fail)
  go_wp2_with fail
  go_ret2
  exact ⟨_, rfl, kept_drewN (Below.refl _ _) _⟩

set_option maxRecDepth 100000 in
set_option maxHeartbeats 4000000 in
theorem div64_high (hi lo y : Nat) (w : World) (hh : hi < y) (h0 : 0 < hi) (hlo : lo < 18446744073709551616) (hy2 : y < 18446744073709551616) :
    Calls Tryd.prog 49 #[.int .u64 (hi : Int), .int .u64 (lo : Int), .int .u64 (y : Int)] w (DivPost w ((hi * 18446744073709551616 + lo) / y)) := by
  have hyb : ((y : Int) == 0) = false := by rw [beq_eq_false_iff_ne]; omega
  have hhb : ((hi : Int) == 0) = false := by rw [beq_eq_false_iff_ne]; omega
  have hle : ¬ (y : Int) ≤ (hi : Int) := by omega
  have CL := Lib.hid (lz_any y w (by omega) hy2)
  go_enter Tryd.func49, Tryd.ntmps49
  go_wp2_with fail
  refine CL.out.mono ?_
  rintro e w1 ⟨s, rfl, hs, hY1, hY2, rfl⟩
  have hsf := shifted hi lo y s hs hlo hh
  obtain ⟨Y, hY⟩ : ∃ Y, Y = y * 2 ^ s := ⟨_, rfl⟩
  have cst : ∀ a : Nat, ((a * 2 ^ s : Nat) : Int) = (a : Int) * 2 ^ s := fun a => by rw [Int.natCast_mul, Int.natCast_pow]; rfl
  have a1 : IntKind.u64.wrap ((y : Int) * 2 ^ s) = (Y : Int) := by rw [hY, IntKind.wrap_u64, ← cst]; omega
  rw [← hY] at hsf hY1 hY2
  obtain ⟨Hs, hHs⟩ : ∃ Hs, Hs = hi * 2 ^ s := ⟨_, rfl⟩
  obtain ⟨lh, hlh⟩ : ∃ lh, lh = lo / 2 ^ (64 - s) := ⟨_, rfl⟩
  obtain ⟨L, hL⟩ : ∃ L, L = lo * 2 ^ s % 18446744073709551616 := ⟨_, rfl⟩
  have a5 : IntKind.u64.wrap ((hi : Int) * 2 ^ s) = (Hs : Int) := by
    have h1 : hi * 2 ^ s ≤ y * 2 ^ s := Nat.mul_le_mul_right _ (by omega)
    rw [IntKind.wrap_u64, ← cst, ← hHs]
    rw [← hHs, ← hY] at h1
    omega
  have a6 : (lo : Int) / 2 ^ (64 - s) = (lh : Int) := by
    rw [hlh, Int.natCast_ediv, Int.natCast_pow]; rfl
  have a8 : IntKind.u64.wrap ((lo : Int) * 2 ^ s) = (L : Int) := by rw [hL, IntKind.wrap_u64, ← cst]; omega
  rw [← hHs, ← hlh, ← hL] at hsf
  have hor : Hs ||| lh = Hs + lh := by
    rw [hHs, ← Nat.shiftLeft_eq, Nat.shiftLeft_add_eq_or_of_lt hsf.2.2.1]
  obtain ⟨h1, h2, h3, h4⟩ := hsf
  obtain ⟨H, hH⟩ : ∃ H, H = Hs + lh := ⟨_, rfl⟩
  rw [← hH] at h1 h2 hor
  have a7 : bits .or .u64 (Hs : Int) (lh : Int) = (H : Int) := by rw [bits_or_u64_nat Hs lh (by omega) (by omega), hor]
  have hLb : L < 18446744073709551616 := by rw [hL]; exact Nat.mod_lt _ (by omega)
  have mask : ∀ a : Nat, a < 18446744073709551616 → bits .and .u64 (a : Int) 4294967295 = ((a % 4294967296 : Nat) : Int) := fun a ha => by
    have h := bits_and_u64_nat a 4294967295 ha (by omega)
    have e : a &&& 4294967295 = a % 4294967296 := Nat.and_two_pow_sub_one_eq_mod a 32
    rw [e] at h
    exact h
  obtain ⟨Y1, hy1⟩ : ∃ Y1, Y1 = Y / 4294967296 := ⟨_, rfl⟩
  obtain ⟨Y0, hy0⟩ : ∃ Y0, Y0 = Y % 4294967296 := ⟨_, rfl⟩
  obtain ⟨u1, hu1⟩ : ∃ u1, u1 = L / 4294967296 := ⟨_, rfl⟩
  obtain ⟨u0, hu0⟩ : ∃ u0, u0 = L % 4294967296 := ⟨_, rfl⟩
  have a2 : (Y : Int) / 4294967296 = (Y1 : Int) := by omega
  have a4 : bits .and .u64 (Y : Int) 4294967295 = (Y0 : Int) := by rw [mask Y hY2, hy0]
  have a9 : (L : Int) / 4294967296 = (u1 : Int) := by omega
  have a10 : bits .and .u64 (L : Int) 4294967295 = (u0 : Int) := by rw [mask L hLb, hu0]
  have hYe : Y = Y1 * 4294967296 + Y0 := by omega
  have hLe : L = u1 * 4294967296 + u0 := by omega
  have b1 : 2147483648 ≤ Y1 := by omega
  have b0 : Y0 < 4294967296 := by omega
  have c1 : u1 < 4294967296 := by omega
  have c0 : u0 < 4294967296 := by omega
  have hHb : H < 18446744073709551616 := by omega
  have hst := est_start H u1 Y1 Y0 b1 b0 c1 (by omega)
  obtain ⟨q, hq⟩ : ∃ q, q = H / Y1 := ⟨_, rfl⟩
  have hpl := Nat.div_mul_le_self H Y1
  rw [← hq] at hst hpl
  obtain ⟨p, hp⟩ : ∃ p, p = q * Y1 := ⟨_, rfl⟩
  rw [← hp] at hst hpl
  have a11 : (H : Int) / (Y1 : Int) = (q : Int) := by rw [hq, Int.natCast_ediv]
  have a12 : IntKind.u64.wrap ((q : Int) * (Y1 : Int)) = (p : Int) := by rw [← Int.natCast_mul, ← hp, IntKind.wrap_u64]; omega
  have a13 : ¬ (Y1 : Int) = 0 := by omega
  have hq2 : q ≤ 18446744073709551615 := by have := hst.most; omega
  have HST := Lib.hid hst
  have SR : Hid (Value.int .u64 ((H : Int) - (p : Int)) = .int .u64 ((H - p : Nat) : Int)) := Lib.hid (by congr 1; omega)
  have RB : Hid (H - p < Y1) := Lib.hid (by
    have h1 := Nat.mod_lt H (show Y1 > 0 by omega)
    have h2 := Nat.div_add_mod H Y1
    rw [← hq, Nat.mul_comm] at h2
    omega)
  have HUY : Hid (H < Y1 * 4294967296 + Y0) := Lib.hid (by omega)
  have HA := Lib.hid h1
  have HB := Lib.hid h4
  have HYe := Lib.hid hYe
  have HLe := Lib.hid hLe
  have HHY := Lib.hid h2
  clear hst h1 h4 hYe hLe h2 h3 hp hq hu0 hu1 hy0 hy1 hH hor hL hlh hHs hY cst mask CL h0 hlo hy2 hh
  go_upto_block 0 with fail
  go_cut [15, 16] (fun s15 s16 wx => ∃ q r : Nat, s15 = .int .u64 (q : Int) ∧ s16 = .int .u64 (r : Int) ∧ Hid (q = (H * 4294967296 + u1) / Y) ∧ wx = w)
  case first =>
    go_wp2_with fail
    go_loop [15, 16] (fun s15 s16 => ∃ q r : Nat, s15 = .int .u64 (q : Int) ∧ s16 = .int .u64 (r : Int) ∧ r < 4294967296 ∧ q ≤ 4294967297 ∧ Hid (Est H u1 Y1 Y0 q r)) (fun _ s16 => 4294967296 - (intOf s16).toNat)
    case atStart => exact ⟨q, H - p, rfl, SR.out, by have := RB.out; omega, HST.out.most, HST⟩
    case round =>
      obtain ⟨q, r, rfl, rfl, hr, hqm, HE⟩ := hrel
      have hless := est_less H u1 Y1 Y0 q r c1 HUY.out HE.out
      have hdone := est_done H u1 Y1 Y0 q r b1 HE.out
      obtain ⟨m, hm⟩ : ∃ m, m = q * Y0 := ⟨_, rfl⟩
      rw [← hm] at hless hdone
      have hmb : q < 4294967296 → m < 18446744073709551616 := fun h => by
        have h2 : q * Y0 ≤ 4294967295 * 4294967295 := Nat.mul_le_mul (by omega) (by omega)
        omega
      have b2 : Y1 < 4294967296 := by omega
      by_cases hc : 4294967296 ≤ q ∨ 4294967296 * r + u1 < m
      · have hl := hless hc
        have hE2 := est_step H u1 Y1 Y0 q r HE.out hl
        have hq1 : 1 ≤ q := Nat.lt_of_le_of_lt (Nat.zero_le _) hl
        have HE2 := Lib.hid hE2
        obtain ⟨q', rfl⟩ : ∃ q', q = q' + 1 := ⟨q - 1, by omega⟩
        have eq1 : ((q' + 1 : Nat) : Int) = (q' : Int) + 1 := by omega
        have eq2 : (q' : Int) + 1 - 1 = (q' : Int) := by omega
        have hbk := est_break H u1 Y1 Y0 q' (r + Y1) b1 b0 hE2 (by omega)
        have HBK := Lib.hid hbk
        have hc2 : 4294967296 ≤ q' + 1 ∨ (¬ 4294967296 ≤ q' + 1 ∧ 4294967296 * r + u1 < m) := by omega
        have HM := Lib.hid hm
        clear hless hdone hl hE2 hbk hc hm HE
        by_cases hbr : 4294967296 ≤ r + Y1
        · rw [eq1]
          have hf : Hid (q' = (H * 4294967296 + u1) / Y) := Lib.hid (by rw [HYe.out]; exact HBK.out hbr)
          clear HBK
          have i0 : (r : Int) < 4294967296 := by omega
          have i3 : (4294967296 : Int) ≤ (r : Int) + (Y1 : Int) := by omega
          have i4 : (q' : Int) ≤ 4294967296 := by omega
          rcases hc2 with h1 | ⟨h1, h2⟩
          · have i1 : (4294967296 : Int) ≤ (q' : Int) + 1 := by omega
            clear h1 hr hqm hbr hq1 hmb
            go_wp2_with fail
            go_meet
            exact ⟨q', r + Y1, by simp, by simp, hf, rfl⟩
          · have a20 : IntKind.u64.wrap (((q' : Int) + 1) * (Y0 : Int)) = (m : Int) := by
              rw [← eq1, ← Int.natCast_mul, ← HM.out, IntKind.wrap_u64]
              have := hmb (by omega)
              omega
            have i1 : (q' : Int) + 1 < 4294967296 := by omega
            have i2 : 4294967296 * (r : Int) + (u1 : Int) < (m : Int) := by omega
            clear hmb h1 h2 hr hqm hbr hq1
            go_wp2_with fail
            go_meet
            exact ⟨q', r + Y1, by simp, by simp, hf, rfl⟩
        · rw [eq1]
          clear HBK
          have i0 : (r : Int) < 4294967296 := by omega
          have HB3 : Hid (r + Y1 < 4294967296) := Lib.hid (by omega)
          have i3 : decide ((4294967296 : Int) ≤ (r : Int) + (Y1 : Int)) = false := decide_eq_false (by omega)
          have i5 : (r : Int) + (Y1 : Int) ≤ 18446744073709551615 := by omega
          have i4 : (q' : Int) ≤ 4294967296 := by omega
          rcases hc2 with h1 | ⟨h1, h2⟩
          · have i1 : (4294967296 : Int) ≤ (q' : Int) + 1 := by omega
            clear h1 hr hqm hbr hq1 hmb
            go_wp2_with fail
            go_round
            case rel => exact ⟨q', r + Y1, by simp, by simp, HB3.out, by omega, HE2⟩
            case measure => have := HB3.out; simp [intOf]; omega
          · have a20 : IntKind.u64.wrap (((q' : Int) + 1) * (Y0 : Int)) = (m : Int) := by
              rw [← eq1, ← Int.natCast_mul, ← HM.out, IntKind.wrap_u64]
              have := hmb (by omega)
              omega
            have i1 : (q' : Int) + 1 < 4294967296 := by omega
            have i2 : 4294967296 * (r : Int) + (u1 : Int) < (m : Int) := by omega
            clear hmb h1 h2 hr hqm hbr hq1
            go_wp2_with fail
            go_round
            case rel => exact ⟨q', r + Y1, by simp, by simp, HB3.out, by omega, HE2⟩
            case measure => have := HB3.out; simp [intOf]; omega
      · have hf : Hid (q = (H * 4294967296 + u1) / Y) := Lib.hid (by rw [HYe.out]; exact hdone (by omega))
        have h1 : q < 4294967296 := by omega
        have h2 : m ≤ 4294967296 * r + u1 := by omega
        have a20 : IntKind.u64.wrap ((q : Int) * (Y0 : Int)) = (m : Int) := by
          rw [← Int.natCast_mul, ← hm, IntKind.wrap_u64]
          have := hmb h1
          omega
        have i0 : (r : Int) < 4294967296 := by omega
        have i1 : decide ((4294967296 : Int) ≤ (q : Int)) = false := decide_eq_false (by omega)
        have i2 : decide (4294967296 * (r : Int) + (u1 : Int) < (m : Int)) = false := decide_eq_false (by omega)
        clear hless hdone hm HE hmb hc h1 h2 hr hqm
        go_wp2_with fail
        go_meet
        exact ⟨q, r, rfl, rfl, hf, rfl⟩
  case rest =>
    obtain ⟨Q1, r1, rfl, rfl, HQ1, rfl⟩ := hcut
    have hY0 : 0 < Y := by have := HYe.out; omega
    have hUlt := half_left H u1 Y hY0
    have hPle := Nat.div_mul_le_self (H * 4294967296 + u1) Y
    have hQ1 : Q1 < 4294967296 := by
      rw [HQ1.out, Nat.div_lt_iff_lt_mul hY0]
      have := HHY.out
      omega
    rw [← HQ1.out] at hUlt hPle
    obtain ⟨P, hP⟩ : ∃ P, P = Q1 * Y := ⟨_, rfl⟩
    rw [← hP] at hUlt hPle
    obtain ⟨U, hU⟩ : ∃ U, U = H * 4294967296 + u1 - P := ⟨_, rfl⟩
    rw [← hU] at hUlt
    have HUQ : Hid (U = H * 4294967296 + u1 - (H * 4294967296 + u1) / Y * Y) := Lib.hid (by rw [hU, hP, HQ1.out])
    have hsum := two_halves H u1 u0 Y hY0
    rw [← HUQ.out, ← HQ1.out] at hsum
    have htot : ((H * 4294967296 + u1) * 4294967296 + u0) / Y = (hi * 18446744073709551616 + lo) / y := by
      have h1 := HA.out
      have h2 := HLe.out
      have h3 := join64 H u1 u0 L h2
      rw [← HB.out, ← h1, h3]
    rw [htot] at hsum
    obtain ⟨A1, hA1⟩ : ∃ A1, A1 = H * 4294967296 % 18446744073709551616 := ⟨_, rfl⟩
    obtain ⟨A2, hA2⟩ : ∃ A2, A2 = (A1 + u1) % 18446744073709551616 := ⟨_, rfl⟩
    obtain ⟨A3, hA3⟩ : ∃ A3, A3 = P % 18446744073709551616 := ⟨_, rfl⟩
    have e1 : IntKind.u64.wrap ((H : Int) * 4294967296) = (A1 : Int) := by rw [IntKind.wrap_u64]; omega
    have e2 : IntKind.u64.wrap ((A1 : Int) + (u1 : Int)) = (A2 : Int) := by rw [IntKind.wrap_u64]; omega
    have e3 : IntKind.u64.wrap ((Q1 : Int) * (Y : Int)) = (A3 : Int) := by rw [← Int.natCast_mul, ← hP, IntKind.wrap_u64]; omega
    have e4 : IntKind.u64.wrap ((A2 : Int) - (A3 : Int)) = (U : Int) := by rw [IntKind.wrap_u64]; omega
    have hUb : U < 18446744073709551616 := by omega
    have hst := est_start U u0 Y1 Y0 b1 b0 c0 (by have := HYe.out; omega)
    obtain ⟨q2, hq2⟩ : ∃ q2, q2 = U / Y1 := ⟨_, rfl⟩
    have hpl2 := Nat.div_mul_le_self U Y1
    rw [← hq2] at hst hpl2
    obtain ⟨p2, hp2⟩ : ∃ p2, p2 = q2 * Y1 := ⟨_, rfl⟩
    rw [← hp2] at hst hpl2
    have e5 : (U : Int) / (Y1 : Int) = (q2 : Int) := by rw [hq2, Int.natCast_ediv]
    have e6 : IntKind.u64.wrap ((q2 : Int) * (Y1 : Int)) = (p2 : Int) := by rw [← Int.natCast_mul, ← hp2, IntKind.wrap_u64]; omega
    have hq3 : q2 ≤ 18446744073709551615 := by have := hst.most; omega
    have HST2 := Lib.hid hst
    have SR2 : Hid (Value.int .u64 ((U : Int) - (p2 : Int)) = .int .u64 ((U - p2 : Nat) : Int)) := Lib.hid (by congr 1; omega)
    have RB2 : Hid (U - p2 < Y1) := Lib.hid (by
      have h1 := Nat.mod_lt U (show Y1 > 0 by omega)
      have h2 := Nat.div_add_mod U Y1
      rw [← hq2, Nat.mul_comm] at h2
      omega)
    have HUY2 : Hid (U < Y1 * 4294967296 + Y0) := Lib.hid (by have := HYe.out; omega)
    have HSUM := Lib.hid hsum
    have b3 : Y1 < 4294967296 := by omega
    have HQ1b := Lib.hid hQ1
    have HULT := Lib.hid hUlt
    clear hY0 hUlt hPle hQ1 hP hU hsum htot hA1 hA2 hA3 hst hq2 hp2 a1 a2 a4 a5 a6 a7 a8 a9 a10 a11 a12
    go_upto_block 2 with fail
    go_cut [18, 16] (fun s18 s16 wx => ∃ q r : Nat, s18 = .int .u64 (q : Int) ∧ s16 = .int .u64 (r : Int) ∧ Hid (q = (U * 4294967296 + u0) / Y) ∧ wx = wc)
    case first =>
      go_wp2_with fail
      go_loop [18, 16] (fun s18 s16 => ∃ q r : Nat, s18 = .int .u64 (q : Int) ∧ s16 = .int .u64 (r : Int) ∧ r < 4294967296 ∧ q ≤ 4294967297 ∧ Hid (Est U u0 Y1 Y0 q r)) (fun _ s16 => 4294967296 - (intOf s16).toNat)
      case atStart => exact ⟨q2, U - p2, rfl, SR2.out, by have := RB2.out; omega, HST2.out.most, HST2⟩
      case round =>
        obtain ⟨q, r, rfl, rfl, hr, hqm, HE⟩ := hrel
        have hless := est_less U u0 Y1 Y0 q r c0 HUY2.out HE.out
        have hdone := est_done U u0 Y1 Y0 q r b1 HE.out
        obtain ⟨m, hm⟩ : ∃ m, m = q * Y0 := ⟨_, rfl⟩
        rw [← hm] at hless hdone
        have hmb : q < 4294967296 → m < 18446744073709551616 := fun h => by
          have h2 : q * Y0 ≤ 4294967295 * 4294967295 := Nat.mul_le_mul (by omega) (by omega)
          omega
        have b2 : Y1 < 4294967296 := by omega
        by_cases hc : 4294967296 ≤ q ∨ 4294967296 * r + u0 < m
        · have hl := hless hc
          have hE2 := est_step U u0 Y1 Y0 q r HE.out hl
          have hq1 : 1 ≤ q := Nat.lt_of_le_of_lt (Nat.zero_le _) hl
          have HE2 := Lib.hid hE2
          obtain ⟨q', rfl⟩ : ∃ q', q = q' + 1 := ⟨q - 1, by omega⟩
          have eq1 : ((q' + 1 : Nat) : Int) = (q' : Int) + 1 := by omega
          have eq2 : (q' : Int) + 1 - 1 = (q' : Int) := by omega
          have hbk := est_break U u0 Y1 Y0 q' (r + Y1) b1 b0 hE2 (by omega)
          have HBK := Lib.hid hbk
          have hc2 : 4294967296 ≤ q' + 1 ∨ (¬ 4294967296 ≤ q' + 1 ∧ 4294967296 * r + u0 < m) := by omega
          have HM := Lib.hid hm
          clear hless hdone hl hE2 hbk hc hm HE
          by_cases hbr : 4294967296 ≤ r + Y1
          · rw [eq1]
            have hf : Hid (q' = (U * 4294967296 + u0) / Y) := Lib.hid (by rw [HYe.out]; exact HBK.out hbr)
            clear HBK
            have i0 : (r : Int) < 4294967296 := by omega
            have i3 : (4294967296 : Int) ≤ (r : Int) + (Y1 : Int) := by omega
            have i4 : (q' : Int) ≤ 4294967296 := by omega
            rcases hc2 with h1 | ⟨h1, h2⟩
            · have i1 : (4294967296 : Int) ≤ (q' : Int) + 1 := by omega
              clear h1 hr hqm hbr hq1 hmb
              go_wp2_with fail
              go_meet
              exact ⟨q', r + Y1, by simp, by simp, hf, rfl⟩
            · have a20 : IntKind.u64.wrap (((q' : Int) + 1) * (Y0 : Int)) = (m : Int) := by
                rw [← eq1, ← Int.natCast_mul, ← HM.out, IntKind.wrap_u64]
                have := hmb (by omega)
                omega
              have i1 : (q' : Int) + 1 < 4294967296 := by omega
              have i2 : 4294967296 * (r : Int) + (u0 : Int) < (m : Int) := by omega
              clear hmb h1 h2 hr hqm hbr hq1
              go_wp2_with fail
              go_meet
              exact ⟨q', r + Y1, by simp, by simp, hf, rfl⟩
          · rw [eq1]
            clear HBK
            have i0 : (r : Int) < 4294967296 := by omega
            have HB3 : Hid (r + Y1 < 4294967296) := Lib.hid (by omega)
            have i3 : decide ((4294967296 : Int) ≤ (r : Int) + (Y1 : Int)) = false := decide_eq_false (by omega)
            have i5 : (r : Int) + (Y1 : Int) ≤ 18446744073709551615 := by omega
            have i4 : (q' : Int) ≤ 4294967296 := by omega
            rcases hc2 with h1 | ⟨h1, h2⟩
            · have i1 : (4294967296 : Int) ≤ (q' : Int) + 1 := by omega
              clear h1 hr hqm hbr hq1 hmb
              go_wp2_with fail
              go_round
              case rel => exact ⟨q', r + Y1, by simp, by simp, HB3.out, by omega, HE2⟩
              case measure => have := HB3.out; simp [intOf]; omega
            · have a20 : IntKind.u64.wrap (((q' : Int) + 1) * (Y0 : Int)) = (m : Int) := by
                rw [← eq1, ← Int.natCast_mul, ← HM.out, IntKind.wrap_u64]
                have := hmb (by omega)
                omega
              have i1 : (q' : Int) + 1 < 4294967296 := by omega
              have i2 : 4294967296 * (r : Int) + (u0 : Int) < (m : Int) := by omega
              clear hmb h1 h2 hr hqm hbr hq1
              go_wp2_with fail
              go_round
              case rel => exact ⟨q', r + Y1, by simp, by simp, HB3.out, by omega, HE2⟩
              case measure => have := HB3.out; simp [intOf]; omega
        · have hf : Hid (q = (U * 4294967296 + u0) / Y) := Lib.hid (by rw [HYe.out]; exact hdone (by omega))
          have h1 : q < 4294967296 := by omega
          have h2 : m ≤ 4294967296 * r + u0 := by omega
          have a20 : IntKind.u64.wrap ((q : Int) * (Y0 : Int)) = (m : Int) := by
            rw [← Int.natCast_mul, ← hm, IntKind.wrap_u64]
            have := hmb h1
            omega
          have i0 : (r : Int) < 4294967296 := by omega
          have i1 : decide ((4294967296 : Int) ≤ (q : Int)) = false := decide_eq_false (by omega)
          have i2 : decide (4294967296 * (r : Int) + (u0 : Int) < (m : Int)) = false := decide_eq_false (by omega)
          clear hless hdone hm HE hmb hc h1 h2 hr hqm
          go_wp2_with fail
          go_meet
          exact ⟨q, r, rfl, rfl, hf, rfl⟩
    case rest =>
      obtain ⟨Q0, r0, rfl, rfl, HQ0, rfl⟩ := hcut
      have hQ0 : Q0 < 4294967296 := by
        have h1 := HULT.out
        rw [HQ0.out, Nat.div_lt_iff_lt_mul (by omega)]
        omega
      have hQ1 := HQ1b.out
      have hfin : ((Q1 : Int) * 4294967296 + (Q0 : Int)) = (((hi * 18446744073709551616 + lo) / y : Nat) : Int) := by
        have := HSUM.out
        rw [← HQ0.out] at this
        omega
      have HFIN := Lib.hid hfin
      clear hfin
      go_wp2_with fail
      go_ret2
      exact ⟨_, by rw [← HFIN.out]; rfl, Below.refl _ _⟩
end Go.Proofs.YteooaibbblfmjaaDoor.Char
