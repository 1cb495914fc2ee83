import Derived.Test.YtlmodgnkmlbjhaaGreatDoorPkRtM
import Derived.Test.YtlmodgnkmlbjhaaGreatDoorPkRun
import Derived.Test.YtlmodgnkmlbjhaaGreatDoorPkGet
import Derived.Test.YtlmodgnkmlbjhaaGreatDoorPkRtA
import Derived.Test.YtlmodgnkmlbjhaaGreatDoorPkRef
namespace Go.Proofs.YtlmodgnkmlbjhaaGreatDoor
namespace Char
open Go.RowKit Go.Lib
theorem fnd_zero (l t : List UInt8) : decide (0 ≤ fnd l t 0) = Lib.contains l t := by
 unfold fnd Lib.contains
 rw [List.drop_zero]
 split
 ·rename_i h; rw [h]
 ·simp
set_option maxRecDepth 100000 in
set_option maxHeartbeats 4000000 in
theorem findB_any (l t : List UInt8) (p : Nat) (w : World) (hl : l.length ≤ 1048576) (hp : p ≤ 1048580) (ht : 0 < t.length) (ht2 : t.length ≤ 1000) :
  Calls Tryz.prog 85 #[.string (bs l), .int .i64 (p : Int), .string (bs t)] w fun e w' => e = .returned (.int .i64 (fnd l t p)) ∧ w = w' := by
 obtain ⟨R, hR⟩ : ∃ R, fnd l t p = R := ⟨_, rfl⟩
 rw [hR]
 have HR := Lib.hid hR
 have hsz := bs_size l
 have hst := bs_size t
 clear hR
 go_enter Tryz.func85, Tryz.ntmps85
 go_wp2_with fail
 go_loop [7] (fun v => ∃ k : Nat, v = .int .i64 (k : Int) ∧ k ≤ 1048590 ∧ Hid (p ≤ k ∧ fnd l t k = R)) (fun v => 1048600 - (RowKit.intOf v).toNat)
 case atStart => exact ⟨p, rfl, by omega, Lib.hid ⟨Nat.le_refl _, HR.out⟩⟩
 case round =>
  obtain ⟨k, rfl, hk, HK⟩ := hrel
  by_cases hlt : k + t.length ≤ l.length
  ·have hsl := slice_mid6 l k (k + t.length) (by omega) hlt
   rw [show (((k + t.length : Nat)) : Int) = (k : Int) + (t.length : Int) by omega, Nat.add_sub_cancel_left] at hsl
   have hpt := pre_take t (l.drop k) (by rw [List.length_drop]; omega)
   cases hpre : t.isPrefixOf (l.drop k) with
   | true =>
    rw [hpre] at hpt
    have q : ((bs ((l.drop k).take t.length)).toList == (bs t).toList) = true := by rw [bs_tl, bs_tl]; exact hpt.symm
    have HX : Hid ((k : Int) = R) := Lib.hid (by rw [← HK.out.2, fnd_here hpre])
    clear hpt hpre
    generalize (l.drop k).take t.length = N at *
    go_wp2_with fail
    go_ret
    exact ⟨ret_i HX.out, rfl⟩
   | false =>
    rw [hpre] at hpt
    have q : ((bs ((l.drop k).take t.length)).toList == (bs t).toList) = false := by rw [bs_tl, bs_tl]; exact hpt.symm
    have HX : Hid (p ≤ k + 1 ∧ fnd l t (k + 1) = R) := Lib.hid ⟨by have := HK.out.1; omega, by rw [← HK.out.2, fnd_next (by omega) hpre]⟩
    clear hpt hpre
    generalize (l.drop k).take t.length = N at *
    go_wp2_with fail
    go_round
    case rel => exact ⟨k + 1, by go_num, by omega, HX⟩
    case measure => simp [RowKit.intOf]; omega
  ·have HX : Hid ((-1 : Int) = R) := Lib.hid (by rw [← HK.out.2, fnd_end (by omega) ht])
   go_wp2_with fail
   go_ret
   exact ⟨ret_i HX.out, rfl⟩
set_option maxRecDepth 100000 in
set_option maxHeartbeats 4000000 in
theorem refHas_any (l t : List UInt8) (w : World) (hl : l.length ≤ 1048576) (ht : 0 < t.length) (ht2 : t.length ≤ 1000) :
  Calls Tryz.prog 52 #[.string (bs l), .string (bs t)] w fun e w' => e = .returned (.bool (Lib.contains l t)) ∧ w = w' := by
 have hF := findB_any l t 0 w hl (by omega) ht ht2
 rw [← fnd_zero]
 generalize fnd l t 0 = x at *
 rw [show ((0 : Nat) : Int) = 0 from rfl] at hF
 have HF := Lib.hid hF
 clear hF
 go_enter Tryz.func52, Tryz.ntmps52
 go_wp2_with fail
 refine HF.out.mono ?_
 rintro e w1 ⟨rfl, rfl⟩
 go_wp2_with fail
 go_ret
 exact ⟨rfl, rfl⟩
end Char
namespace Char
open Go.RowKit Go.Lib
structure RefB (t : Tr) : Prop where
 nm : t.nm.length ≤ 1048576
 tx : t.tx.length ≤ 1048576
 al : t.ats.length ≤ 2 ^ 43
 an : ∀ a, a ∈ t.ats → a.1.length ≤ 1048576 ∧ a.2.length ≤ 1048576
 kl : t.ks.length ≤ 1048576
set_option maxRecDepth 100000 in
set_option maxHeartbeats 16000000 in
theorem refOne_text (t : Tr) (oa : Option Addr) (ja : Nat) (ok : Option Addr) (jk : Nat) (w : World) (hb : RefB t) (h4 : t.kd = 4) :
  Calls Tryz.prog 29 #[.agg #[.int .i64 t.kd, .string (bs t.nm), .string (bs t.tx), .slice oa t.ats.length ja, .slice ok t.ks.length jk]] w fun e w' => e = .returned (.bool (oneT t)) ∧ Below w.heap.size w w' := by
 have hsn := bs_size t.nm
 have hsx := bs_size t.tx
 have hbn := hb.nm
 have hbx := hb.tx
 have hba := hb.al
 have hbk := hb.kl
 obtain ⟨B, hB⟩ : ∃ B, B = w.heap.size := ⟨_, rfl⟩
 obtain ⟨W1, hW1⟩ : ∃ W1, W1 = w.alloc (.cells #[.int .i64 t.kd, .string (bs t.nm), .string (bs t.tx), .slice oa t.ats.length ja, .slice ok t.ks.length jk] 25) := ⟨_, rfl⟩
 have hb1 : Below w.heap.size w W1 := by rw [hW1]; exact (Below.refl _ _).alloc (Nat.le_refl _) _
 have hbk1 : W1.heap[B]? = some (.cells #[.int .i64 t.kd, .string (bs t.nm), .string (bs t.tx), .slice oa t.ats.length ja, .slice ok t.ks.length jk] 25 (0, 0)) := by rw [hW1, hB]; exact World.alloc_heap_new w _
 have hBl := block_of_heap hbk1
 have hbq : ∀ q : KeptT W1, q.at.heap[B]? = some (.cells #[.int .i64 t.kd, .string (bs t.nm), .string (bs t.tx), .slice oa t.ats.length ja, .slice ok t.ks.length jk] 25 (0, 0)) := fun q => (q.ok.block B hBl).trans hbk1
 have z0 : ∀ q : KeptT W1, q.at.cell? ⟨B, 0, none⟩ = some (.int .i64 t.kd) := fun q => by simp [World.cell?, hbq q]
 have z1 : ∀ q : KeptT W1, q.at.cell? ⟨B, 1, none⟩ = some (.string (bs t.nm)) := fun q => by simp [World.cell?, hbq q]
 have z2 : ∀ q : KeptT W1, q.at.cell? ⟨B, 2, none⟩ = some (.string (bs t.tx)) := fun q => by simp [World.cell?, hbq q]
 have z3 : ∀ q : KeptT W1, q.at.cell? ⟨B, 3, none⟩ = some (.slice oa t.ats.length ja) := fun q => by simp [World.cell?, hbq q]
 have z4 : ∀ q : KeptT W1, q.at.cell? ⟨B, 4, none⟩ = some (.slice ok t.ks.length jk) := fun q => by simp [World.cell?, hbq q]
 have HUP := Lib.hid (fun q : KeptT W1 => (show Below w.heap.size w q.at from hb1.trans (q.ok.mono hb1.size)))
 obtain ⟨q0, hq0⟩ : ∃ q0 : KeptT W1, W1 = q0.at := ⟨⟨W1, Below.refl _ _⟩, rfl⟩
 have HW1 := Lib.hid (hW1.symm.trans hq0)
 have HB := Lib.hid hB
 have HRB := Lib.hid hb
 have hTX : ∀ q : KeptT W1, Calls Tryz.prog 51 #[.string (bs t.tx)] q.at fun e w' => e = .returned (.bool (txD t.tx)) ∧ ∃ q' : KeptT W1, w' = q'.at := fun q => (refText_any (bs t.tx) q.at (by omega)).mono fun e w' h => ⟨h.1, q.on h.2⟩
 have HR := Lib.hid (show oneT t = (chlT t && (txD t.tx) && t.nm.isEmpty && !t.tx.isEmpty) by exact one_text' h4)
 have k2 : (t.kd == 2) = false := by rw [h4]; rfl
 have k4 : (t.kd == 4) = true := by simp [h4]
 have hn0 : (bs t.nm).toList.isEmpty = t.nm.isEmpty := by rw [bs_tl]
 have hn1 : ((bs t.nm).toList == []) = t.nm.isEmpty := by rw [bs_tl]; cases t.nm <;> rfl
 have hx0 : (bs t.tx).toList.isEmpty = t.tx.isEmpty := by rw [bs_tl]
 have hx1 : ((bs t.tx).toList == []) = t.tx.isEmpty := by rw [bs_tl]; cases t.tx <;> rfl
 have hch : chlT t = (decide (t.ats.length = 0) && decide (t.ks.length = 0)) := by unfold chlT; cases t.ats <;> cases t.ks <;> rfl
 generalize hq_tx : txD t.tx = b_tx at *
 generalize hq_n0 : t.nm.isEmpty = b_n0 at *
 generalize hq_x0 : t.tx.isEmpty = b_x0 at *
 generalize chlT t = b_ch at *
 have HCH := Lib.hid hch
 have HTX := Lib.hid hTX
 clear hW1 hb1 hbk1 hBl hbq hq0 hB hb hbn hbx hTX hq_tx hq_n0 hq_x0 h4 hch
 by_cases ha0 : 0 < t.ats.length
 ·have ha1 : decide (0 < t.ats.length) = true := decide_eq_true (by omega)
  have HC0 := Lib.hid (show b_ch = false by rw [HCH.out, decide_eq_false (by omega : ¬ t.ats.length = 0)]; rfl)
  clear ha0
  go_enter Tryz.func29, Tryz.ntmps29
  go_wp2_with fail
  rw [← HB.out, HW1.out]
  go_wp2_with (first | (go_at_call 51; (with_reducible refine (HTX.out _).mono ?_); rintro e _ ⟨rfl, q, rfl⟩))
  go_ret
  exact ⟨by first | (rw [HR.out, HC0.out]; simp) | (rw [HR.out]; simp), by first | exact HUP.out _ | (rw [HB.out]; exact HUP.out _)⟩
 by_cases hk0 : 0 < t.ks.length
 ·have ha1 : decide (0 < t.ats.length) = false := decide_eq_false (by omega)
  have hk1 : decide (0 < t.ks.length) = true := decide_eq_true (by omega)
  have HC0 := Lib.hid (show b_ch = false by rw [HCH.out, decide_eq_false (by omega : ¬ t.ks.length = 0), Bool.and_false])
  clear ha0 hk0
  go_enter Tryz.func29, Tryz.ntmps29
  go_wp2_with fail
  rw [← HB.out, HW1.out]
  go_wp2_with (first | (go_at_call 51; (with_reducible refine (HTX.out _).mono ?_); rintro e _ ⟨rfl, q, rfl⟩))
  go_ret
  exact ⟨by first | (rw [HR.out, HC0.out]; simp) | (rw [HR.out]; simp), by first | exact HUP.out _ | (rw [HB.out]; exact HUP.out _)⟩
 have ha1 : decide (0 < t.ats.length) = false := decide_eq_false (by omega)
 have hk1 : decide (0 < t.ks.length) = false := decide_eq_false (by omega)
 obtain rfl : b_ch = true := by rw [HCH.out, decide_eq_true (by omega : t.ats.length = 0), decide_eq_true (by omega : t.ks.length = 0)]; rfl
 clear ha0 hk0
 cases b_tx with
 | false =>
  go_enter Tryz.func29, Tryz.ntmps29
  go_wp2_with fail
  rw [← HB.out, HW1.out]
  go_wp2_with (first | (go_at_call 51; (with_reducible refine (HTX.out _).mono ?_); rintro e _ ⟨rfl, q, rfl⟩))
  go_ret
  exact ⟨by rw [HR.out]; simp, by first | exact HUP.out _ | (rw [HB.out]; exact HUP.out _)⟩
 | true =>
  cases b_n0 with
  | false =>
   go_enter Tryz.func29, Tryz.ntmps29
   go_wp2_with fail
   rw [← HB.out, HW1.out]
   go_wp2_with (first | (go_at_call 51; (with_reducible refine (HTX.out _).mono ?_); rintro e _ ⟨rfl, q, rfl⟩))
   go_ret
   exact ⟨by rw [HR.out]; simp, by first | exact HUP.out _ | (rw [HB.out]; exact HUP.out _)⟩
  | true =>
   cases b_x0 with
   | false =>
    go_enter Tryz.func29, Tryz.ntmps29
    go_wp2_with fail
    rw [← HB.out, HW1.out]
    go_wp2_with (first | (go_at_call 51; (with_reducible refine (HTX.out _).mono ?_); rintro e _ ⟨rfl, q, rfl⟩))
    go_ret
    exact ⟨by rw [HR.out]; simp, by first | exact HUP.out _ | (rw [HB.out]; exact HUP.out _)⟩
   | true =>
    go_enter Tryz.func29, Tryz.ntmps29
    go_wp2_with fail
    rw [← HB.out, HW1.out]
    go_wp2_with (first | (go_at_call 51; (with_reducible refine (HTX.out _).mono ?_); rintro e _ ⟨rfl, q, rfl⟩))
    go_ret
    exact ⟨by rw [HR.out]; simp, by first | exact HUP.out _ | (rw [HB.out]; exact HUP.out _)⟩
set_option maxRecDepth 100000 in
set_option maxHeartbeats 16000000 in
theorem refOne_no (t : Tr) (oa : Option Addr) (ja : Nat) (ok : Option Addr) (jk : Nat) (w : World) (hb : RefB t) (h2 : t.kd ≠ 2) (h4 : t.kd ≠ 4) (h5 : t.kd ≠ 5) (h6 : t.kd ≠ 6) :
  Calls Tryz.prog 29 #[.agg #[.int .i64 t.kd, .string (bs t.nm), .string (bs t.tx), .slice oa t.ats.length ja, .slice ok t.ks.length jk]] w fun e w' => e = .returned (.bool (oneT t)) ∧ Below w.heap.size w w' := by
 have hsn := bs_size t.nm
 have hsx := bs_size t.tx
 have hbn := hb.nm
 have hbx := hb.tx
 have hba := hb.al
 have hbk := hb.kl
 obtain ⟨B, hB⟩ : ∃ B, B = w.heap.size := ⟨_, rfl⟩
 obtain ⟨W1, hW1⟩ : ∃ W1, W1 = w.alloc (.cells #[.int .i64 t.kd, .string (bs t.nm), .string (bs t.tx), .slice oa t.ats.length ja, .slice ok t.ks.length jk] 25) := ⟨_, rfl⟩
 have hb1 : Below w.heap.size w W1 := by rw [hW1]; exact (Below.refl _ _).alloc (Nat.le_refl _) _
 have hbk1 : W1.heap[B]? = some (.cells #[.int .i64 t.kd, .string (bs t.nm), .string (bs t.tx), .slice oa t.ats.length ja, .slice ok t.ks.length jk] 25 (0, 0)) := by rw [hW1, hB]; exact World.alloc_heap_new w _
 have hBl := block_of_heap hbk1
 have hbq : ∀ q : KeptT W1, q.at.heap[B]? = some (.cells #[.int .i64 t.kd, .string (bs t.nm), .string (bs t.tx), .slice oa t.ats.length ja, .slice ok t.ks.length jk] 25 (0, 0)) := fun q => (q.ok.block B hBl).trans hbk1
 have z0 : ∀ q : KeptT W1, q.at.cell? ⟨B, 0, none⟩ = some (.int .i64 t.kd) := fun q => by simp [World.cell?, hbq q]
 have z1 : ∀ q : KeptT W1, q.at.cell? ⟨B, 1, none⟩ = some (.string (bs t.nm)) := fun q => by simp [World.cell?, hbq q]
 have z2 : ∀ q : KeptT W1, q.at.cell? ⟨B, 2, none⟩ = some (.string (bs t.tx)) := fun q => by simp [World.cell?, hbq q]
 have z3 : ∀ q : KeptT W1, q.at.cell? ⟨B, 3, none⟩ = some (.slice oa t.ats.length ja) := fun q => by simp [World.cell?, hbq q]
 have z4 : ∀ q : KeptT W1, q.at.cell? ⟨B, 4, none⟩ = some (.slice ok t.ks.length jk) := fun q => by simp [World.cell?, hbq q]
 have HUP := Lib.hid (fun q : KeptT W1 => (show Below w.heap.size w q.at from hb1.trans (q.ok.mono hb1.size)))
 obtain ⟨q0, hq0⟩ : ∃ q0 : KeptT W1, W1 = q0.at := ⟨⟨W1, Below.refl _ _⟩, rfl⟩
 have HW1 := Lib.hid (hW1.symm.trans hq0)
 have HB := Lib.hid hB
 have HRB := Lib.hid hb
 have hTX : ∀ q : KeptT W1, Calls Tryz.prog 51 #[.string (bs t.tx)] q.at fun e w' => e = .returned (.bool (txD t.tx)) ∧ ∃ q' : KeptT W1, w' = q'.at := fun q => (refText_any (bs t.tx) q.at (by omega)).mono fun e w' h => ⟨h.1, q.on h.2⟩
 have hCR : ∀ q : KeptT W1, Calls Tryz.prog 52 #[.string (bs t.tx), .string ⟨#[13]⟩] q.at fun e w' => e = .returned (.bool (Lib.contains t.tx [13])) ∧ ∃ q' : KeptT W1, w' = q'.at := fun q => (refHas_any t.tx [13] q.at hbx (by decide) (by decide)).mono fun e w' h => ⟨h.1, q, h.2.symm⟩
 have HR := Lib.hid (show oneT t = false by unfold oneT; rw [if_neg h2, if_neg h4, if_neg h5, if_neg h6])
 have k2 : (t.kd == 2) = false := by simp [h2]
 have k4 : (t.kd == 4) = false := by simp [h4]
 have k5 : (t.kd == 5) = false := by simp [h5]
 have k6 : (t.kd != 6) = true := by simp [h6]
 have hch : chlT t = (decide (t.ats.length = 0) && decide (t.ks.length = 0)) := by unfold chlT; cases t.ats <;> cases t.ks <;> rfl
 generalize hq_tx : txD t.tx = b_tx at *
 generalize hq_cr : Lib.contains t.tx [13] = b_cr at *
 generalize chlT t = b_ch at *
 have HCH := Lib.hid hch
 have HTX := Lib.hid hTX
 have HCR := Lib.hid hCR
 clear hW1 hb1 hbk1 hBl hbq hq0 hB hb hbn hbx hTX hCR hq_tx hq_cr h2 h4 h5 h6 hch
 by_cases ha0 : 0 < t.ats.length
 ·have ha1 : decide (0 < t.ats.length) = true := decide_eq_true (by omega)
  have HC0 := Lib.hid (show b_ch = false by rw [HCH.out, decide_eq_false (by omega : ¬ t.ats.length = 0)]; rfl)
  clear ha0
  go_enter Tryz.func29, Tryz.ntmps29
  go_wp2_with fail
  rw [← HB.out, HW1.out]
  go_wp2_with (first | (go_at_call 51; (with_reducible refine (HTX.out _).mono ?_); rintro e _ ⟨rfl, q, rfl⟩) | (go_at_call 52; (with_reducible refine (HCR.out _).mono ?_); rintro e _ ⟨rfl, q, rfl⟩))
  go_ret
  exact ⟨by first | (rw [HR.out, HC0.out]; simp) | (rw [HR.out]; simp), by first | exact HUP.out _ | (rw [HB.out]; exact HUP.out _)⟩
 by_cases hk0 : 0 < t.ks.length
 ·have ha1 : decide (0 < t.ats.length) = false := decide_eq_false (by omega)
  have hk1 : decide (0 < t.ks.length) = true := decide_eq_true (by omega)
  have HC0 := Lib.hid (show b_ch = false by rw [HCH.out, decide_eq_false (by omega : ¬ t.ks.length = 0), Bool.and_false])
  clear ha0 hk0
  go_enter Tryz.func29, Tryz.ntmps29
  go_wp2_with fail
  rw [← HB.out, HW1.out]
  go_wp2_with (first | (go_at_call 51; (with_reducible refine (HTX.out _).mono ?_); rintro e _ ⟨rfl, q, rfl⟩) | (go_at_call 52; (with_reducible refine (HCR.out _).mono ?_); rintro e _ ⟨rfl, q, rfl⟩))
  go_ret
  exact ⟨by first | (rw [HR.out, HC0.out]; simp) | (rw [HR.out]; simp), by first | exact HUP.out _ | (rw [HB.out]; exact HUP.out _)⟩
 have ha1 : decide (0 < t.ats.length) = false := decide_eq_false (by omega)
 have hk1 : decide (0 < t.ks.length) = false := decide_eq_false (by omega)
 obtain rfl : b_ch = true := by rw [HCH.out, decide_eq_true (by omega : t.ats.length = 0), decide_eq_true (by omega : t.ks.length = 0)]; rfl
 clear ha0 hk0
 cases b_tx with
 | false =>
  go_enter Tryz.func29, Tryz.ntmps29
  go_wp2_with fail
  rw [← HB.out, HW1.out]
  go_wp2_with (first | (go_at_call 51; (with_reducible refine (HTX.out _).mono ?_); rintro e _ ⟨rfl, q, rfl⟩) | (go_at_call 52; (with_reducible refine (HCR.out _).mono ?_); rintro e _ ⟨rfl, q, rfl⟩))
  go_ret
  exact ⟨by rw [HR.out]; simp, by first | exact HUP.out _ | (rw [HB.out]; exact HUP.out _)⟩
 | true =>
  cases b_cr with
  | false =>
   go_enter Tryz.func29, Tryz.ntmps29
   go_wp2_with fail
   rw [← HB.out, HW1.out]
   go_wp2_with (first | (go_at_call 51; (with_reducible refine (HTX.out _).mono ?_); rintro e _ ⟨rfl, q, rfl⟩) | (go_at_call 52; (with_reducible refine (HCR.out _).mono ?_); rintro e _ ⟨rfl, q, rfl⟩))
   go_ret
   exact ⟨by rw [HR.out]; simp, by first | exact HUP.out _ | (rw [HB.out]; exact HUP.out _)⟩
  | true =>
   go_enter Tryz.func29, Tryz.ntmps29
   go_wp2_with fail
   rw [← HB.out, HW1.out]
   go_wp2_with (first | (go_at_call 51; (with_reducible refine (HTX.out _).mono ?_); rintro e _ ⟨rfl, q, rfl⟩) | (go_at_call 52; (with_reducible refine (HCR.out _).mono ?_); rintro e _ ⟨rfl, q, rfl⟩))
   go_ret
   exact ⟨by rw [HR.out]; simp, by first | exact HUP.out _ | (rw [HB.out]; exact HUP.out _)⟩
end Char
namespace Char
open Go.RowKit Go.Lib
set_option maxRecDepth 100000 in
set_option maxHeartbeats 16000000 in
theorem refOne_comment (t : Tr) (oa : Option Addr) (ja : Nat) (ok : Option Addr) (jk : Nat) (w : World) (hb : RefB t) (h5 : t.kd = 5) :
  Calls Tryz.prog 29 #[.agg #[.int .i64 t.kd, .string (bs t.nm), .string (bs t.tx), .slice oa t.ats.length ja, .slice ok t.ks.length jk]] w fun e w' => e = .returned (.bool (oneT t)) ∧ Below w.heap.size w w' := by
 have hsn := bs_size t.nm
 have hsx := bs_size t.tx
 have hbn := hb.nm
 have hbx := hb.tx
 have hba := hb.al
 have hbk := hb.kl
 obtain ⟨B, hB⟩ : ∃ B, B = w.heap.size := ⟨_, rfl⟩
 obtain ⟨W1, hW1⟩ : ∃ W1, W1 = w.alloc (.cells #[.int .i64 t.kd, .string (bs t.nm), .string (bs t.tx), .slice oa t.ats.length ja, .slice ok t.ks.length jk] 25) := ⟨_, rfl⟩
 have hb1 : Below w.heap.size w W1 := by rw [hW1]; exact (Below.refl _ _).alloc (Nat.le_refl _) _
 have hbk1 : W1.heap[B]? = some (.cells #[.int .i64 t.kd, .string (bs t.nm), .string (bs t.tx), .slice oa t.ats.length ja, .slice ok t.ks.length jk] 25 (0, 0)) := by rw [hW1, hB]; exact World.alloc_heap_new w _
 have hBl := block_of_heap hbk1
 have hbq : ∀ q : KeptT W1, q.at.heap[B]? = some (.cells #[.int .i64 t.kd, .string (bs t.nm), .string (bs t.tx), .slice oa t.ats.length ja, .slice ok t.ks.length jk] 25 (0, 0)) := fun q => (q.ok.block B hBl).trans hbk1
 have z0 : ∀ q : KeptT W1, q.at.cell? ⟨B, 0, none⟩ = some (.int .i64 t.kd) := fun q => by simp [World.cell?, hbq q]
 have z1 : ∀ q : KeptT W1, q.at.cell? ⟨B, 1, none⟩ = some (.string (bs t.nm)) := fun q => by simp [World.cell?, hbq q]
 have z2 : ∀ q : KeptT W1, q.at.cell? ⟨B, 2, none⟩ = some (.string (bs t.tx)) := fun q => by simp [World.cell?, hbq q]
 have z3 : ∀ q : KeptT W1, q.at.cell? ⟨B, 3, none⟩ = some (.slice oa t.ats.length ja) := fun q => by simp [World.cell?, hbq q]
 have z4 : ∀ q : KeptT W1, q.at.cell? ⟨B, 4, none⟩ = some (.slice ok t.ks.length jk) := fun q => by simp [World.cell?, hbq q]
 have HUP := Lib.hid (fun q : KeptT W1 => (show Below w.heap.size w q.at from hb1.trans (q.ok.mono hb1.size)))
 obtain ⟨q0, hq0⟩ : ∃ q0 : KeptT W1, W1 = q0.at := ⟨⟨W1, Below.refl _ _⟩, rfl⟩
 have HW1 := Lib.hid (hW1.symm.trans hq0)
 have HB := Lib.hid hB
 have HRB := Lib.hid hb
 have hTX : ∀ q : KeptT W1, Calls Tryz.prog 51 #[.string (bs t.tx)] q.at fun e w' => e = .returned (.bool (txD t.tx)) ∧ ∃ q' : KeptT W1, w' = q'.at := fun q => (refText_any (bs t.tx) q.at (by omega)).mono fun e w' h => ⟨h.1, q.on h.2⟩
 have hCR : ∀ q : KeptT W1, Calls Tryz.prog 52 #[.string (bs t.tx), .string ⟨#[13]⟩] q.at fun e w' => e = .returned (.bool (Lib.contains t.tx [13])) ∧ ∃ q' : KeptT W1, w' = q'.at := fun q => (refHas_any t.tx [13] q.at hbx (by decide) (by decide)).mono fun e w' h => ⟨h.1, q, h.2.symm⟩
 have hHY : ∀ q : KeptT W1, Calls Tryz.prog 52 #[.string (bs t.tx), .string ⟨#[45, 45]⟩] q.at fun e w' => e = .returned (.bool (Lib.contains t.tx [45, 45])) ∧ ∃ q' : KeptT W1, w' = q'.at := fun q => (refHas_any t.tx [45, 45] q.at hbx (by decide) (by decide)).mono fun e w' h => ⟨h.1, q, h.2.symm⟩
 have HR := Lib.hid (show oneT t = (chlT t && (txD t.tx) && !(Lib.contains t.tx [13]) && t.nm.isEmpty && !(Lib.contains t.tx [45, 45]) && !(t.tx.getLast? == some 45)) by unfold oneT; rw [if_neg (show ¬ t.kd = 2 by omega), if_neg (show ¬ t.kd = 4 by omega), if_pos h5]; rfl)
 have k2 : (t.kd == 2) = false := by rw [h5]; rfl
 have k4 : (t.kd == 4) = false := by rw [h5]; rfl
 have k5 : (t.kd == 5) = true := by simp [h5]
 have hn0 : (bs t.nm).toList.isEmpty = t.nm.isEmpty := by rw [bs_tl]
 have hn1 : ((bs t.nm).toList == []) = t.nm.isEmpty := by rw [bs_tl]; cases t.nm <;> rfl
 have hch : chlT t = (decide (t.ats.length = 0) && decide (t.ks.length = 0)) := by unfold chlT; cases t.ats <;> cases t.ks <;> rfl
 generalize hq_tx : txD t.tx = b_tx at *
 generalize hq_cr : Lib.contains t.tx [13] = b_cr at *
 generalize hq_hy : Lib.contains t.tx [45, 45] = b_hy at *
 generalize hq_n0 : t.nm.isEmpty = b_n0 at *
 generalize chlT t = b_ch at *
 have HCH := Lib.hid hch
 have HTX := Lib.hid hTX
 have HCR := Lib.hid hCR
 have HHY := Lib.hid hHY
 clear hW1 hb1 hbk1 hBl hbq hq0 hB hb hbn hbx hTX hCR hHY hq_tx hq_cr hq_n0 hq_hy h5 hch
 by_cases ha0 : 0 < t.ats.length
 ·have ha1 : decide (0 < t.ats.length) = true := decide_eq_true (by omega)
  have HC0 := Lib.hid (show b_ch = false by rw [HCH.out, decide_eq_false (by omega : ¬ t.ats.length = 0)]; rfl)
  clear ha0
  go_enter Tryz.func29, Tryz.ntmps29
  go_wp2_with fail
  rw [← HB.out, HW1.out]
  go_wp2_with (first | (go_at_call 51; (with_reducible refine (HTX.out _).mono ?_); rintro e _ ⟨rfl, q, rfl⟩) | (go_at_call 52; (with_reducible refine (HCR.out _).mono ?_); rintro e _ ⟨rfl, q, rfl⟩) | (go_at_call 52; (with_reducible refine (HHY.out _).mono ?_); rintro e _ ⟨rfl, q, rfl⟩))
  go_ret
  exact ⟨by first | (rw [HR.out, HC0.out]; simp) | (rw [HR.out]; simp), by first | exact HUP.out _ | (rw [HB.out]; exact HUP.out _)⟩
 by_cases hk0 : 0 < t.ks.length
 ·have ha1 : decide (0 < t.ats.length) = false := decide_eq_false (by omega)
  have hk1 : decide (0 < t.ks.length) = true := decide_eq_true (by omega)
  have HC0 := Lib.hid (show b_ch = false by rw [HCH.out, decide_eq_false (by omega : ¬ t.ks.length = 0), Bool.and_false])
  clear ha0 hk0
  go_enter Tryz.func29, Tryz.ntmps29
  go_wp2_with fail
  rw [← HB.out, HW1.out]
  go_wp2_with (first | (go_at_call 51; (with_reducible refine (HTX.out _).mono ?_); rintro e _ ⟨rfl, q, rfl⟩) | (go_at_call 52; (with_reducible refine (HCR.out _).mono ?_); rintro e _ ⟨rfl, q, rfl⟩) | (go_at_call 52; (with_reducible refine (HHY.out _).mono ?_); rintro e _ ⟨rfl, q, rfl⟩))
  go_ret
  exact ⟨by first | (rw [HR.out, HC0.out]; simp) | (rw [HR.out]; simp), by first | exact HUP.out _ | (rw [HB.out]; exact HUP.out _)⟩
 have ha1 : decide (0 < t.ats.length) = false := decide_eq_false (by omega)
 have hk1 : decide (0 < t.ks.length) = false := decide_eq_false (by omega)
 obtain rfl : b_ch = true := by rw [HCH.out, decide_eq_true (by omega : t.ats.length = 0), decide_eq_true (by omega : t.ks.length = 0)]; rfl
 clear ha0 hk0
 cases b_tx with
 | false =>
  go_enter Tryz.func29, Tryz.ntmps29
  go_wp2_with fail
  rw [← HB.out, HW1.out]
  go_wp2_with (first | (go_at_call 51; (with_reducible refine (HTX.out _).mono ?_); rintro e _ ⟨rfl, q, rfl⟩) | (go_at_call 52; (with_reducible refine (HCR.out _).mono ?_); rintro e _ ⟨rfl, q, rfl⟩) | (go_at_call 52; (with_reducible refine (HHY.out _).mono ?_); rintro e _ ⟨rfl, q, rfl⟩))
  go_ret
  exact ⟨by rw [HR.out]; simp, by first | exact HUP.out _ | (rw [HB.out]; exact HUP.out _)⟩
 | true =>
  cases b_cr with
  | false =>
   cases b_n0 with
   | false =>
    go_enter Tryz.func29, Tryz.ntmps29
    go_wp2_with fail
    rw [← HB.out, HW1.out]
    go_wp2_with (first | (go_at_call 51; (with_reducible refine (HTX.out _).mono ?_); rintro e _ ⟨rfl, q, rfl⟩) | (go_at_call 52; (with_reducible refine (HCR.out _).mono ?_); rintro e _ ⟨rfl, q, rfl⟩) | (go_at_call 52; (with_reducible refine (HHY.out _).mono ?_); rintro e _ ⟨rfl, q, rfl⟩))
    go_ret
    exact ⟨by rw [HR.out]; simp, by first | exact HUP.out _ | (rw [HB.out]; exact HUP.out _)⟩
   | true =>
    cases b_hy with
    | false =>
     by_cases hte : t.tx = []
     ·have hx0 : (bs t.tx).toList.isEmpty = true := by rw [bs_tl, hte]; rfl
      have hx1 : ((bs t.tx).toList == []) = true := by rw [bs_tl, hte]; rfl
      have HL := Lib.hid (show (t.tx.getLast? == some 45) = false by rw [hte]; rfl)
      clear hte
      go_enter Tryz.func29, Tryz.ntmps29
      go_wp2_with fail
      rw [← HB.out, HW1.out]
      go_wp2_with (first | (go_at_call 51; (with_reducible refine (HTX.out _).mono ?_); rintro e _ ⟨rfl, q, rfl⟩) | (go_at_call 52; (with_reducible refine (HCR.out _).mono ?_); rintro e _ ⟨rfl, q, rfl⟩) | (go_at_call 52; (with_reducible refine (HHY.out _).mono ?_); rintro e _ ⟨rfl, q, rfl⟩))
      go_ret
      exact ⟨by rw [HR.out, HL.out]; simp, by first | exact HUP.out _ | (rw [HB.out]; exact HUP.out _)⟩
     ·have hx0 : (bs t.tx).toList.isEmpty = false := by rw [bs_tl]; cases hq : t.tx with | nil => exact absurd hq hte | cons _ _ => rfl
      have hx1 : ((bs t.tx).toList == []) = false := by rw [bs_tl]; cases hq : t.tx with | nil => exact absurd hq hte | cons _ _ => rfl
      obtain ⟨m, hm⟩ : ∃ m, t.tx.length = m + 1 := ⟨t.tx.length - 1, by have := List.length_pos_iff.2 hte; omega⟩
      have hm' : m < (bs t.tx).size := by omega
      have hlst : t.tx.getLast? = some (t.tx.getD m 0) := by rw [List.getLast?_eq_getElem?, hm, Nat.add_sub_cancel, List.getD_eq_getElem?_getD, List.getElem?_eq_getElem (by omega)]; rfl
      have hgt := bs_get t.tx m hm'
      obtain ⟨nb, hnb⟩ : ∃ nb, (t.tx.getD m 0).toNat = nb := ⟨_, rfl⟩
      have hg : ((bs t.tx)[m]'hm').toNat = nb := by rw [hgt, hnb]
      have hbx := HRB.out.tx
      have hwm : IntKind.i64.wrap ((t.tx.length : Int) - 1) = (m : Int) := by rw [IntWalk.i64_in _ (by omega)]; omega
      have hm0 : (0 : Int) ≤ (m : Int) := by omega
      have hm1 : (m : Int) < (t.tx.length : Int) := by omega
      have hm2 : (m : Int) < (m : Int) + 1 := by omega
      have HLS := Lib.hid hlst
      have HNB := Lib.hid hnb
      clear hm hlst hgt hnb hte hbx
      by_cases h45 : nb = 45
      ·have k9 : ((nb : Int) != 45) = false := by rw [bne_eq_false_iff_eq]; omega
       have HL := Lib.hid (show (t.tx.getLast? == some 45) = true by rw [HLS.out, beq_iff_eq, Option.some.injEq]; apply UInt8.toNat_inj.1; rw [HNB.out, h45]; rfl)
       clear h45
       go_enter Tryz.func29, Tryz.ntmps29
       go_wp2_with fail
       rw [← HB.out, HW1.out]
       go_wp2_with (first | (go_at_call 51; (with_reducible refine (HTX.out _).mono ?_); rintro e _ ⟨rfl, q, rfl⟩) | (go_at_call 52; (with_reducible refine (HCR.out _).mono ?_); rintro e _ ⟨rfl, q, rfl⟩) | (go_at_call 52; (with_reducible refine (HHY.out _).mono ?_); rintro e _ ⟨rfl, q, rfl⟩))
       go_ret
       exact ⟨by rw [HR.out, HL.out]; simp, by first | exact HUP.out _ | (rw [HB.out]; exact HUP.out _)⟩
      ·have k9 : ((nb : Int) != 45) = true := by rw [bne_iff_ne]; omega
       have HL := Lib.hid (show (t.tx.getLast? == some 45) = false by rw [HLS.out, beq_eq_false_iff_ne]; intro e; rw [Option.some.injEq] at e; rw [e] at HNB; exact h45 HNB.out.symm)
       clear h45
       go_enter Tryz.func29, Tryz.ntmps29
       go_wp2_with fail
       rw [← HB.out, HW1.out]
       go_wp2_with (first | (go_at_call 51; (with_reducible refine (HTX.out _).mono ?_); rintro e _ ⟨rfl, q, rfl⟩) | (go_at_call 52; (with_reducible refine (HCR.out _).mono ?_); rintro e _ ⟨rfl, q, rfl⟩) | (go_at_call 52; (with_reducible refine (HHY.out _).mono ?_); rintro e _ ⟨rfl, q, rfl⟩))
       go_ret
       exact ⟨by rw [HR.out, HL.out]; simp, by first | exact HUP.out _ | (rw [HB.out]; exact HUP.out _)⟩
    | true =>
     go_enter Tryz.func29, Tryz.ntmps29
     go_wp2_with fail
     rw [← HB.out, HW1.out]
     go_wp2_with (first | (go_at_call 51; (with_reducible refine (HTX.out _).mono ?_); rintro e _ ⟨rfl, q, rfl⟩) | (go_at_call 52; (with_reducible refine (HCR.out _).mono ?_); rintro e _ ⟨rfl, q, rfl⟩) | (go_at_call 52; (with_reducible refine (HHY.out _).mono ?_); rintro e _ ⟨rfl, q, rfl⟩))
     go_ret
     exact ⟨by rw [HR.out]; simp, by first | exact HUP.out _ | (rw [HB.out]; exact HUP.out _)⟩
  | true =>
   go_enter Tryz.func29, Tryz.ntmps29
   go_wp2_with fail
   rw [← HB.out, HW1.out]
   go_wp2_with (first | (go_at_call 51; (with_reducible refine (HTX.out _).mono ?_); rintro e _ ⟨rfl, q, rfl⟩) | (go_at_call 52; (with_reducible refine (HCR.out _).mono ?_); rintro e _ ⟨rfl, q, rfl⟩) | (go_at_call 52; (with_reducible refine (HHY.out _).mono ?_); rintro e _ ⟨rfl, q, rfl⟩))
   go_ret
   exact ⟨by rw [HR.out]; simp, by first | exact HUP.out _ | (rw [HB.out]; exact HUP.out _)⟩
end Char
end Go.Proofs.YtlmodgnkmlbjhaaGreatDoor
