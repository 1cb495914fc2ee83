import Derived.Test.YtlmodgnkmlbjhaaGreatDoorPkRefR
namespace Go.Proofs.YtlmodgnkmlbjhaaGreatDoor
namespace Char
open Go.RowKit Go.Lib
set_option maxRecDepth 100000 in
set_option maxHeartbeats 16000000 in
theorem refOne_pi (t : Tr) (oa : Option Addr) (ja : Nat) (ok : Option Addr) (jk : Nat) (w : World) (hb : RefB t) (h6 : t.kd = 6) :
  Calls Tryz.prog 29 #[.agg #[.int .i64 t.kd, .string (bs t.nm), .string (bs t.tx), .slice oa t.ats.length ja, .slice ok t.ks.length jk]] w fun e w' => e = .returned (.bool (oneT t)) ∧ Below w.heap.size w w' := by
 have hsn := bs_size t.nm
 have hsx := bs_size t.tx
 have hbn := hb.nm
 have hbx := hb.tx
 have hba := hb.al
 have hbk := hb.kl
 obtain ⟨B, hB⟩ : ∃ B, B = w.heap.size := ⟨_, rfl⟩
 obtain ⟨W1, hW1⟩ : ∃ W1, W1 = w.alloc (.cells #[.int .i64 t.kd, .string (bs t.nm), .string (bs t.tx), .slice oa t.ats.length ja, .slice ok t.ks.length jk] 25) := ⟨_, rfl⟩
 have hb1 : Below w.heap.size w W1 := by rw [hW1]; exact (Below.refl _ _).alloc (Nat.le_refl _) _
 have hbk1 : W1.heap[B]? = some (.cells #[.int .i64 t.kd, .string (bs t.nm), .string (bs t.tx), .slice oa t.ats.length ja, .slice ok t.ks.length jk] 25 (0, 0)) := by rw [hW1, hB]; exact World.alloc_heap_new w _
 have hBl := block_of_heap hbk1
 have hbq : ∀ q : KeptT W1, q.at.heap[B]? = some (.cells #[.int .i64 t.kd, .string (bs t.nm), .string (bs t.tx), .slice oa t.ats.length ja, .slice ok t.ks.length jk] 25 (0, 0)) := fun q => (q.ok.block B hBl).trans hbk1
 have z0 : ∀ q : KeptT W1, q.at.cell? ⟨B, 0, none⟩ = some (.int .i64 t.kd) := fun q => by simp [World.cell?, hbq q]
 have z1 : ∀ q : KeptT W1, q.at.cell? ⟨B, 1, none⟩ = some (.string (bs t.nm)) := fun q => by simp [World.cell?, hbq q]
 have z2 : ∀ q : KeptT W1, q.at.cell? ⟨B, 2, none⟩ = some (.string (bs t.tx)) := fun q => by simp [World.cell?, hbq q]
 have z3 : ∀ q : KeptT W1, q.at.cell? ⟨B, 3, none⟩ = some (.slice oa t.ats.length ja) := fun q => by simp [World.cell?, hbq q]
 have z4 : ∀ q : KeptT W1, q.at.cell? ⟨B, 4, none⟩ = some (.slice ok t.ks.length jk) := fun q => by simp [World.cell?, hbq q]
 have HUP := Lib.hid (fun q : KeptT W1 => (show Below w.heap.size w q.at from hb1.trans (q.ok.mono hb1.size)))
 obtain ⟨q0, hq0⟩ : ∃ q0 : KeptT W1, W1 = q0.at := ⟨⟨W1, Below.refl _ _⟩, rfl⟩
 have HW1 := Lib.hid (hW1.symm.trans hq0)
 have HB := Lib.hid hB
 have HRB := Lib.hid hb
 have hTX : ∀ q : KeptT W1, Calls Tryz.prog 51 #[.string (bs t.tx)] q.at fun e w' => e = .returned (.bool (txD t.tx)) ∧ ∃ q' : KeptT W1, w' = q'.at := fun q => (refText_any (bs t.tx) q.at (by omega)).mono fun e w' h => ⟨h.1, q.on h.2⟩
 have hCR : ∀ q : KeptT W1, Calls Tryz.prog 52 #[.string (bs t.tx), .string ⟨#[13]⟩] q.at fun e w' => e = .returned (.bool (Lib.contains t.tx [13])) ∧ ∃ q' : KeptT W1, w' = q'.at := fun q => (refHas_any t.tx [13] q.at hbx (by decide) (by decide)).mono fun e w' h => ⟨h.1, q, h.2.symm⟩
 have hNM : ∀ q : KeptT W1, Calls Tryz.prog 50 #[.string (bs t.nm)] q.at fun e w' => e = .returned (.bool (nmD (bs t.nm))) ∧ ∃ q' : KeptT W1, w' = q'.at := fun q => (refName_any (bs t.nm) q.at (by omega)).mono fun e w' h => ⟨h.1, q.on h.2⟩
 have hQM : ∀ q : KeptT W1, Calls Tryz.prog 52 #[.string (bs t.tx), .string ⟨#[63, 62]⟩] q.at fun e w' => e = .returned (.bool (Lib.contains t.tx [63, 62])) ∧ ∃ q' : KeptT W1, w' = q'.at := fun q => (refHas_any t.tx [63, 62] q.at hbx (by decide) (by decide)).mono fun e w' h => ⟨h.1, q, h.2.symm⟩
 have HR := Lib.hid (show oneT t = (chlT t && (txD t.tx) && !(Lib.contains t.tx [13]) && (nmD (bs t.nm)) && !(Lib.contains t.tx [63, 62]) && !spH t.tx && !decide (smallL t.nm = [120, 109, 108])) by unfold oneT; rw [if_neg (show ¬ t.kd = 2 by omega), if_neg (show ¬ t.kd = 4 by omega), if_neg (show ¬ t.kd = 5 by omega), if_pos h6]; cases t.tx <;> rfl)
 have k2 : (t.kd == 2) = false := by rw [h6]; rfl
 have k4 : (t.kd == 4) = false := by rw [h6]; rfl
 have k5 : (t.kd == 5) = false := by rw [h6]; rfl
 have k6 : (t.kd != 6) = false := by simp [h6]
 have hch : chlT t = (decide (t.ats.length = 0) && decide (t.ks.length = 0)) := by unfold chlT; cases t.ats <;> cases t.ks <;> rfl
 generalize hq_tx : txD t.tx = b_tx at *
 generalize hq_cr : Lib.contains t.tx [13] = b_cr at *
 generalize hq_nm : nmD (bs t.nm) = b_nm at *
 generalize hq_qm : Lib.contains t.tx [63, 62] = b_qm at *
 generalize chlT t = b_ch at *
 have HCH := Lib.hid hch
 have HTX := Lib.hid hTX
 have HCR := Lib.hid hCR
 have HNM := Lib.hid hNM
 have HQM := Lib.hid hQM
 clear hW1 hb1 hbk1 hBl hbq hq0 hB hb hbn hbx hTX hCR hNM hQM hq_tx hq_cr hq_qm h6 hch
 by_cases ha0 : 0 < t.ats.length
 ·have ha1 : decide (0 < t.ats.length) = true := decide_eq_true (by omega)
  have HC0 := Lib.hid (show b_ch = false by rw [HCH.out, decide_eq_false (by omega : ¬ t.ats.length = 0)]; rfl)
  clear ha0
  go_enter Tryz.func29, Tryz.ntmps29
  go_wp2_with fail
  rw [← HB.out, HW1.out]
  go_wp2_with (first | (go_at_call 51; (with_reducible refine (HTX.out _).mono ?_); rintro e _ ⟨rfl, q, rfl⟩) | (go_at_call 52; (with_reducible refine (HCR.out _).mono ?_); rintro e _ ⟨rfl, q, rfl⟩) | (go_at_call 50; (with_reducible refine (HNM.out _).mono ?_); rintro e _ ⟨rfl, q, rfl⟩) | (go_at_call 52; (with_reducible refine (HQM.out _).mono ?_); rintro e _ ⟨rfl, q, rfl⟩))
  go_ret
  exact ⟨by first | (rw [HR.out, HC0.out]; simp) | (rw [HR.out]; simp), by first | exact HUP.out _ | (rw [HB.out]; exact HUP.out _)⟩
 by_cases hk0 : 0 < t.ks.length
 ·have ha1 : decide (0 < t.ats.length) = false := decide_eq_false (by omega)
  have hk1 : decide (0 < t.ks.length) = true := decide_eq_true (by omega)
  have HC0 := Lib.hid (show b_ch = false by rw [HCH.out, decide_eq_false (by omega : ¬ t.ks.length = 0), Bool.and_false])
  clear ha0 hk0
  go_enter Tryz.func29, Tryz.ntmps29
  go_wp2_with fail
  rw [← HB.out, HW1.out]
  go_wp2_with (first | (go_at_call 51; (with_reducible refine (HTX.out _).mono ?_); rintro e _ ⟨rfl, q, rfl⟩) | (go_at_call 52; (with_reducible refine (HCR.out _).mono ?_); rintro e _ ⟨rfl, q, rfl⟩) | (go_at_call 50; (with_reducible refine (HNM.out _).mono ?_); rintro e _ ⟨rfl, q, rfl⟩) | (go_at_call 52; (with_reducible refine (HQM.out _).mono ?_); rintro e _ ⟨rfl, q, rfl⟩))
  go_ret
  exact ⟨by first | (rw [HR.out, HC0.out]; simp) | (rw [HR.out]; simp), by first | exact HUP.out _ | (rw [HB.out]; exact HUP.out _)⟩
 have ha1 : decide (0 < t.ats.length) = false := decide_eq_false (by omega)
 have hk1 : decide (0 < t.ks.length) = false := decide_eq_false (by omega)
 obtain rfl : b_ch = true := by rw [HCH.out, decide_eq_true (by omega : t.ats.length = 0), decide_eq_true (by omega : t.ks.length = 0)]; rfl
 clear ha0 hk0
 cases b_tx with
 | false =>
  go_enter Tryz.func29, Tryz.ntmps29
  go_wp2_with fail
  rw [← HB.out, HW1.out]
  go_wp2_with (first | (go_at_call 51; (with_reducible refine (HTX.out _).mono ?_); rintro e _ ⟨rfl, q, rfl⟩) | (go_at_call 52; (with_reducible refine (HCR.out _).mono ?_); rintro e _ ⟨rfl, q, rfl⟩) | (go_at_call 50; (with_reducible refine (HNM.out _).mono ?_); rintro e _ ⟨rfl, q, rfl⟩) | (go_at_call 52; (with_reducible refine (HQM.out _).mono ?_); rintro e _ ⟨rfl, q, rfl⟩))
  go_ret
  exact ⟨by rw [HR.out]; simp, by first | exact HUP.out _ | (rw [HB.out]; exact HUP.out _)⟩
 | true =>
  cases b_cr with
  | false =>
   cases b_nm with
   | false =>
    go_enter Tryz.func29, Tryz.ntmps29
    go_wp2_with fail
    rw [← HB.out, HW1.out]
    go_wp2_with (first | (go_at_call 51; (with_reducible refine (HTX.out _).mono ?_); rintro e _ ⟨rfl, q, rfl⟩) | (go_at_call 52; (with_reducible refine (HCR.out _).mono ?_); rintro e _ ⟨rfl, q, rfl⟩) | (go_at_call 50; (with_reducible refine (HNM.out _).mono ?_); rintro e _ ⟨rfl, q, rfl⟩) | (go_at_call 52; (with_reducible refine (HQM.out _).mono ?_); rintro e _ ⟨rfl, q, rfl⟩))
    go_ret
    exact ⟨by rw [HR.out]; simp, by first | exact HUP.out _ | (rw [HB.out]; exact HUP.out _)⟩
   | true =>
    cases b_qm with
    | false =>
     by_cases hte : t.tx = []
     ·have hx0 : (bs t.tx).toList.isEmpty = true := by rw [bs_tl, hte]; rfl
      have hx1 : ((bs t.tx).toList == []) = true := by rw [bs_tl, hte]; rfl
      have HSQ := Lib.hid (show spH t.tx = false by rw [hte]; rfl)
      clear hte
      have hle := nmD_le hq_nm
      go_enter Tryz.func29, Tryz.ntmps29
      go_wp2_with fail
      rw [← HB.out, HW1.out]
      go_wp2_with (first | (go_at_call 51; (with_reducible refine (HTX.out _).mono ?_); rintro e _ ⟨rfl, q, rfl⟩) | (go_at_call 52; (with_reducible refine (HCR.out _).mono ?_); rintro e _ ⟨rfl, q, rfl⟩) | (go_at_call 50; (with_reducible refine (HNM.out _).mono ?_); rintro e _ ⟨rfl, q, rfl⟩) | (go_at_call 52; (with_reducible refine (HQM.out _).mono ?_); rintro e _ ⟨rfl, q, rfl⟩))
      go_loopw [4, 5] (fun o i wr => ∃ (k : Nat) (acc : List UInt8), o = .string (bs acc) ∧ i = .int .i64 (k : Int) ∧ k ≤ t.nm.length ∧ acc.length = k ∧ Hid (acc ++ smallL (t.nm.drop k) = smallL t.nm) ∧ ∃ q : KeptT W1, wr = q.at) (fun _ i _ => t.nm.length - (RowKit.intOf i).toNat)
      case atStart => exact ⟨0, [], rfl, rfl, Nat.zero_le _, rfl, Lib.hid rfl, _, rfl⟩
      case round =>
       obtain ⟨k, acc, rfl, rfl, hk, hal, HK, q1, rfl⟩ := hrel
       by_cases hlt : k < t.nm.length
       ·have hlt' : k < (bs t.nm).size := by rw [hsn]; exact hlt
        have hgt := bs_get t.nm k hlt'
        have hk2 := HK.out
        rw [drop_cons t.nm k hlt, show ∀ (b : UInt8) t, smallL (b :: t) = smallB b :: smallL t from fun _ _ => rfl] at hk2
        generalize t.nm.getD k 0 = b at *
        obtain ⟨nb, hnb⟩ : ∃ nb, b.toNat = nb := ⟨_, rfl⟩
        have hg : ((bs t.nm)[k]'hlt').toNat = nb := by rw [hgt, hnb]
        have hn256 : nb < 256 := by rw [← hnb]; exact UInt8.toNat_lt _
        have HK2 : Hid ((acc ++ [smallB b]) ++ smallL (t.nm.drop (k + 1)) = smallL t.nm) := Lib.hid (by rw [List.append_assoc]; exact hk2)
        have hadd := add_bs acc [smallB b] (by omega) (by simp)
        have HQ2 : ∀ o, Hid (∃ q : KeptT W1, q1.at.alloc o = q.at) := fun o => Lib.hid (q1.on ((Below.refl _ _).alloc (Nat.le_refl _) o))
        by_cases hu : 65 ≤ b.toNat ∧ b.toNat ≤ 90
        ·have hcv := conv_back q1.at [(nb : Int) + 32] (by simp; omega)
         have e : [(nb : Int) + 32].map (fun x => x.toNat.toUInt8) = [smallB b] := by rw [small_of b hu, hnb]; rfl
         rw [e] at hcv
         have hcv2 : (convert 42 9 (.slice (some ⟨q1.at.heap.size, 0, none⟩) 1 1)).run Tryz.prog (q1.at.alloc (.cells #[.int .u8 ((nb : Int) + 32)] 5)) = .ok (.string (bs [smallB b])) (q1.at.alloc (.cells #[.int .u8 ((nb : Int) + 32)] 5)) := hcv
         rw [hnb] at hu
         obtain ⟨u1, u2⟩ := hu
         clear hcv hk2 hgt hnb e
         generalize smallB b = c at *
         go_wp2_with fail
         go_roundw
         case rel => exact ⟨k + 1, _, rfl, by go_num, by omega, by simp [hal], HK2, (HQ2 _).out⟩
         case measure => simp [RowKit.intOf]; omega
        ·have hcv := conv_back q1.at [(nb : Int)] (by simp; omega)
         have e : [(nb : Int)].map (fun x => x.toNat.toUInt8) = [smallB b] := by rw [small_same b hu, hnb]; rfl
         rw [e] at hcv
         have hcv2 : (convert 42 9 (.slice (some ⟨q1.at.heap.size, 0, none⟩) 1 1)).run Tryz.prog (q1.at.alloc (.cells #[.int .u8 (nb : Int)] 5)) = .ok (.string (bs [smallB b])) (q1.at.alloc (.cells #[.int .u8 (nb : Int)] 5)) := hcv
         rw [hnb] at hu
         have hu2 : nb < 65 ∨ (¬ nb < 65 ∧ 90 < nb) := by omega
         clear hcv hk2 hgt hnb e hu
         generalize smallB b = c at *
         rcases hu2 with u1 | ⟨u1, u2⟩
         all_goals
          go_wp2_with fail
          go_roundw
          case rel => exact ⟨k + 1, _, rfl, by go_num, by omega, by simp [hal], HK2, (HQ2 _).out⟩
          case measure => simp [RowKit.intOf]; omega
       ·have hend := HK.out
        rw [List.drop_eq_nil_of_le (by omega), show smallL [] = [] from rfl, List.append_nil] at hend
        by_cases hfo : acc = [120, 109, 108]
        ·have k9 : ((bs acc).toList == [120, 109, 108]) = true := by rw [bs_tl, hfo]; rfl
         have HFO := Lib.hid (show decide (smallL t.nm = [120, 109, 108]) = true by rw [← hend]; exact decide_eq_true hfo)
         clear hfo hend
         go_wp2_with fail
         go_ret
         exact ⟨by rw [HR.out, HFO.out, HSQ.out]; simp, by first | exact HUP.out _ | (rw [HB.out]; exact HUP.out _)⟩
        ·have k9 : ((bs acc).toList == [120, 109, 108]) = false := by rw [bs_tl, beq_eq_false_iff_ne]; exact hfo
         have HFO := Lib.hid (show decide (smallL t.nm = [120, 109, 108]) = false by rw [← hend]; exact decide_eq_false hfo)
         clear hfo hend
         go_wp2_with fail
         go_ret
         exact ⟨by rw [HR.out, HFO.out, HSQ.out]; simp, by first | exact HUP.out _ | (rw [HB.out]; exact HUP.out _)⟩
     ·have hx0 : (bs t.tx).toList.isEmpty = false := by rw [bs_tl]; cases hq : t.tx with | nil => exact absurd hq hte | cons _ _ => rfl
      have hx1 : ((bs t.tx).toList == []) = false := by rw [bs_tl]; cases hq : t.tx with | nil => exact absurd hq hte | cons _ _ => rfl
      obtain ⟨c0, r0, hcr⟩ := List.exists_cons_of_ne_nil hte
      have hx2 : 0 < (bs t.tx).size := by rw [hsx, hcr]; simp
      have hx3 : 0 < t.tx.length := by rw [hcr]; simp
      have hgt0 := bs_get t.tx 0 hx2
      obtain ⟨n0, hn0⟩ : ∃ n0, c0.toNat = n0 := ⟨_, rfl⟩
      have hg0 : ((bs t.tx)[0]'hx2).toNat = n0 := by rw [hgt0, hcr, ← hn0]; rfl
      have hn2 : n0 < 256 := by rw [← hn0]; exact UInt8.toNat_lt _
      have hsp : spH t.tx = spC (n0 : Int) := by rw [hcr, ← hn0]; rfl
      have hsc := fun q : KeptT W1 => (refSpace_any (n0 : Int) q.at).mono (R' := fun e w' => e = .returned (.bool (spC (n0 : Int))) ∧ ∃ q' : KeptT W1, w' = q'.at) (fun e w' h => ⟨h.1, q, h.2.symm⟩)
      generalize spC (n0 : Int) = b_sc at *
      have HSPC := Lib.hid hsc
      have HSQ := Lib.hid hsp
      clear hte hcr hgt0 hn0 hsp hsc
      cases b_sc with
      | true =>
       go_enter Tryz.func29, Tryz.ntmps29
       go_wp2_with fail
       rw [← HB.out, HW1.out]
       go_wp2_with (first | (go_at_call 51; (with_reducible refine (HTX.out _).mono ?_); rintro e _ ⟨rfl, q, rfl⟩) | (go_at_call 52; (with_reducible refine (HCR.out _).mono ?_); rintro e _ ⟨rfl, q, rfl⟩) | (go_at_call 50; (with_reducible refine (HNM.out _).mono ?_); rintro e _ ⟨rfl, q, rfl⟩) | (go_at_call 52; (with_reducible refine (HQM.out _).mono ?_); rintro e _ ⟨rfl, q, rfl⟩) | (go_at_call 53; (with_reducible refine (HSPC.out _).mono ?_); rintro e _ ⟨rfl, q, rfl⟩))
       go_ret
       exact ⟨by rw [HR.out, HSQ.out]; simp, by first | exact HUP.out _ | (rw [HB.out]; exact HUP.out _)⟩
      | false =>
       have hle := nmD_le hq_nm
       go_enter Tryz.func29, Tryz.ntmps29
       go_wp2_with fail
       rw [← HB.out, HW1.out]
       go_wp2_with (first | (go_at_call 51; (with_reducible refine (HTX.out _).mono ?_); rintro e _ ⟨rfl, q, rfl⟩) | (go_at_call 52; (with_reducible refine (HCR.out _).mono ?_); rintro e _ ⟨rfl, q, rfl⟩) | (go_at_call 50; (with_reducible refine (HNM.out _).mono ?_); rintro e _ ⟨rfl, q, rfl⟩) | (go_at_call 52; (with_reducible refine (HQM.out _).mono ?_); rintro e _ ⟨rfl, q, rfl⟩) | (go_at_call 53; (with_reducible refine (HSPC.out _).mono ?_); rintro e _ ⟨rfl, q, rfl⟩))
       go_loopw [4, 5] (fun o i wr => ∃ (k : Nat) (acc : List UInt8), o = .string (bs acc) ∧ i = .int .i64 (k : Int) ∧ k ≤ t.nm.length ∧ acc.length = k ∧ Hid (acc ++ smallL (t.nm.drop k) = smallL t.nm) ∧ ∃ q : KeptT W1, wr = q.at) (fun _ i _ => t.nm.length - (RowKit.intOf i).toNat)
       case atStart => exact ⟨0, [], rfl, rfl, Nat.zero_le _, rfl, Lib.hid rfl, _, rfl⟩
       case round =>
        obtain ⟨k, acc, rfl, rfl, hk, hal, HK, q1, rfl⟩ := hrel
        by_cases hlt : k < t.nm.length
        ·have hlt' : k < (bs t.nm).size := by rw [hsn]; exact hlt
         have hgt := bs_get t.nm k hlt'
         have hk2 := HK.out
         rw [drop_cons t.nm k hlt, show ∀ (b : UInt8) t, smallL (b :: t) = smallB b :: smallL t from fun _ _ => rfl] at hk2
         generalize t.nm.getD k 0 = b at *
         obtain ⟨nb, hnb⟩ : ∃ nb, b.toNat = nb := ⟨_, rfl⟩
         have hg : ((bs t.nm)[k]'hlt').toNat = nb := by rw [hgt, hnb]
         have hn256 : nb < 256 := by rw [← hnb]; exact UInt8.toNat_lt _
         have HK2 : Hid ((acc ++ [smallB b]) ++ smallL (t.nm.drop (k + 1)) = smallL t.nm) := Lib.hid (by rw [List.append_assoc]; exact hk2)
         have hadd := add_bs acc [smallB b] (by omega) (by simp)
         have HQ2 : ∀ o, Hid (∃ q : KeptT W1, q1.at.alloc o = q.at) := fun o => Lib.hid (q1.on ((Below.refl _ _).alloc (Nat.le_refl _) o))
         by_cases hu : 65 ≤ b.toNat ∧ b.toNat ≤ 90
         ·have hcv := conv_back q1.at [(nb : Int) + 32] (by simp; omega)
          have e : [(nb : Int) + 32].map (fun x => x.toNat.toUInt8) = [smallB b] := by rw [small_of b hu, hnb]; rfl
          rw [e] at hcv
          have hcv2 : (convert 42 9 (.slice (some ⟨q1.at.heap.size, 0, none⟩) 1 1)).run Tryz.prog (q1.at.alloc (.cells #[.int .u8 ((nb : Int) + 32)] 5)) = .ok (.string (bs [smallB b])) (q1.at.alloc (.cells #[.int .u8 ((nb : Int) + 32)] 5)) := hcv
          rw [hnb] at hu
          obtain ⟨u1, u2⟩ := hu
          clear hcv hk2 hgt hnb e
          generalize smallB b = c at *
          go_wp2_with fail
          go_roundw
          case rel => exact ⟨k + 1, _, rfl, by go_num, by omega, by simp [hal], HK2, (HQ2 _).out⟩
          case measure => simp [RowKit.intOf]; omega
         ·have hcv := conv_back q1.at [(nb : Int)] (by simp; omega)
          have e : [(nb : Int)].map (fun x => x.toNat.toUInt8) = [smallB b] := by rw [small_same b hu, hnb]; rfl
          rw [e] at hcv
          have hcv2 : (convert 42 9 (.slice (some ⟨q1.at.heap.size, 0, none⟩) 1 1)).run Tryz.prog (q1.at.alloc (.cells #[.int .u8 (nb : Int)] 5)) = .ok (.string (bs [smallB b])) (q1.at.alloc (.cells #[.int .u8 (nb : Int)] 5)) := hcv
          rw [hnb] at hu
          have hu2 : nb < 65 ∨ (¬ nb < 65 ∧ 90 < nb) := by omega
          clear hcv hk2 hgt hnb e hu
          generalize smallB b = c at *
          rcases hu2 with u1 | ⟨u1, u2⟩
          all_goals
           go_wp2_with fail
           go_roundw
           case rel => exact ⟨k + 1, _, rfl, by go_num, by omega, by simp [hal], HK2, (HQ2 _).out⟩
           case measure => simp [RowKit.intOf]; omega
        ·have hend := HK.out
         rw [List.drop_eq_nil_of_le (by omega), show smallL [] = [] from rfl, List.append_nil] at hend
         by_cases hfo : acc = [120, 109, 108]
         ·have k9 : ((bs acc).toList == [120, 109, 108]) = true := by rw [bs_tl, hfo]; rfl
          have HFO := Lib.hid (show decide (smallL t.nm = [120, 109, 108]) = true by rw [← hend]; exact decide_eq_true hfo)
          clear hfo hend
          go_wp2_with fail
          go_ret
          exact ⟨by rw [HR.out, HFO.out, HSQ.out]; simp, by first | exact HUP.out _ | (rw [HB.out]; exact HUP.out _)⟩
         ·have k9 : ((bs acc).toList == [120, 109, 108]) = false := by rw [bs_tl, beq_eq_false_iff_ne]; exact hfo
          have HFO := Lib.hid (show decide (smallL t.nm = [120, 109, 108]) = false by rw [← hend]; exact decide_eq_false hfo)
          clear hfo hend
          go_wp2_with fail
          go_ret
          exact ⟨by rw [HR.out, HFO.out, HSQ.out]; simp, by first | exact HUP.out _ | (rw [HB.out]; exact HUP.out _)⟩
    | true =>
     go_enter Tryz.func29, Tryz.ntmps29
     go_wp2_with fail
     rw [← HB.out, HW1.out]
     go_wp2_with (first | (go_at_call 51; (with_reducible refine (HTX.out _).mono ?_); rintro e _ ⟨rfl, q, rfl⟩) | (go_at_call 52; (with_reducible refine (HCR.out _).mono ?_); rintro e _ ⟨rfl, q, rfl⟩) | (go_at_call 50; (with_reducible refine (HNM.out _).mono ?_); rintro e _ ⟨rfl, q, rfl⟩) | (go_at_call 52; (with_reducible refine (HQM.out _).mono ?_); rintro e _ ⟨rfl, q, rfl⟩))
     go_ret
     exact ⟨by rw [HR.out]; simp, by first | exact HUP.out _ | (rw [HB.out]; exact HUP.out _)⟩
  | true =>
   go_enter Tryz.func29, Tryz.ntmps29
   go_wp2_with fail
   rw [← HB.out, HW1.out]
   go_wp2_with (first | (go_at_call 51; (with_reducible refine (HTX.out _).mono ?_); rintro e _ ⟨rfl, q, rfl⟩) | (go_at_call 52; (with_reducible refine (HCR.out _).mono ?_); rintro e _ ⟨rfl, q, rfl⟩) | (go_at_call 50; (with_reducible refine (HNM.out _).mono ?_); rintro e _ ⟨rfl, q, rfl⟩) | (go_at_call 52; (with_reducible refine (HQM.out _).mono ?_); rintro e _ ⟨rfl, q, rfl⟩))
   go_ret
   exact ⟨by rw [HR.out]; simp, by first | exact HUP.out _ | (rw [HB.out]; exact HUP.out _)⟩
end Char
end Go.Proofs.YtlmodgnkmlbjhaaGreatDoor
