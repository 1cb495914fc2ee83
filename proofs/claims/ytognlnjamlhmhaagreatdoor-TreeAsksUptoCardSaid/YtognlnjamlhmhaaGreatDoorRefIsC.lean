/- RefIsC -/
import Derived.Test.YtognlnjamlhmhaaGreatDoorRefOneT
/- The walk of the document's own one at comments. -/
namespace Go.Proofs.YtognlnjamlhmhaaGreatDoor.Char
open Go.RowKit Go.Lib

set_option maxRecDepth 100000 in
set_option maxHeartbeats 16000000 in
theorem refOne_comment (t : Tr) (oa : Option Addr) (ja : Nat) (ok : Option Addr) (jk : Nat) (w : World) (hb : RefB t) (h5 : t.kd = 5) :
    Calls Tryz.prog 58 #[.agg #[.int .i64 t.kd, .string (bs t.nm), .string (bs t.tx), .slice oa t.ats.length ja, .slice ok t.ks.length jk]] w fun e w' => e = .returned (.bool (oneT t)) ∧ Below w.heap.size w w' := by
  have hsn := bs_size t.nm
  have hsx := bs_size t.tx
  have hbn := hb.nm
  have hbx := hb.tx
  have hba := hb.al
  have hbk := hb.kl
  obtain ⟨B, hB⟩ : ∃ B, B = w.heap.size := ⟨_, rfl⟩
  obtain ⟨W1, hW1⟩ : ∃ W1, W1 = w.alloc (.cells #[.int .i64 t.kd, .string (bs t.nm), .string (bs t.tx), .slice oa t.ats.length ja, .slice ok t.ks.length jk] 26) := ⟨_, rfl⟩
  have hb1 : Below w.heap.size w W1 := by rw [hW1]; exact (Below.refl _ _).alloc (Nat.le_refl _) _
  have hbk1 : W1.heap[B]? = some (.cells #[.int .i64 t.kd, .string (bs t.nm), .string (bs t.tx), .slice oa t.ats.length ja, .slice ok t.ks.length jk] 26 (0, 0)) := by rw [hW1, hB]; exact World.alloc_heap_new w _
  have hBl := block_of_heap hbk1
  have hbq : ∀ q : KeptT W1, q.at.heap[B]? = some (.cells #[.int .i64 t.kd, .string (bs t.nm), .string (bs t.tx), .slice oa t.ats.length ja, .slice ok t.ks.length jk] 26 (0, 0)) := fun q => (q.ok.block B hBl).trans hbk1
  have z0 : ∀ q : KeptT W1, q.at.cell? ⟨B, 0, none⟩ = some (.int .i64 t.kd) := fun q => by simp [World.cell?, hbq q]
  have z1 : ∀ q : KeptT W1, q.at.cell? ⟨B, 1, none⟩ = some (.string (bs t.nm)) := fun q => by simp [World.cell?, hbq q]
  have z2 : ∀ q : KeptT W1, q.at.cell? ⟨B, 2, none⟩ = some (.string (bs t.tx)) := fun q => by simp [World.cell?, hbq q]
  have z3 : ∀ q : KeptT W1, q.at.cell? ⟨B, 3, none⟩ = some (.slice oa t.ats.length ja) := fun q => by simp [World.cell?, hbq q]
  have z4 : ∀ q : KeptT W1, q.at.cell? ⟨B, 4, none⟩ = some (.slice ok t.ks.length jk) := fun q => by simp [World.cell?, hbq q]
  have HUP := Lib.hid (fun q : KeptT W1 => (show Below w.heap.size w q.at from hb1.trans (q.ok.mono hb1.size)))
  obtain ⟨q0, hq0⟩ : ∃ q0 : KeptT W1, W1 = q0.at := ⟨⟨W1, Below.refl _ _⟩, rfl⟩
  have HW1 := Lib.hid (hW1.symm.trans hq0)
  have HB := Lib.hid hB
  have HRB := Lib.hid hb
  have hTX : ∀ q : KeptT W1, Calls Tryz.prog 43 #[.string (bs t.tx)] q.at fun e w' => e = .returned (.bool (txD t.tx)) ∧ ∃ q' : KeptT W1, w' = q'.at := fun q => (refText_any (bs t.tx) q.at (by omega)).mono fun e w' h => ⟨h.1, q.on h.2⟩
  have hCR : ∀ q : KeptT W1, Calls Tryz.prog 87 #[.string (bs t.tx), .string ⟨#[13]⟩] q.at fun e w' => e = .returned (.bool (Lib.contains t.tx [13])) ∧ ∃ q' : KeptT W1, w' = q'.at := fun q => (refHas_any t.tx [13] q.at hbx (by decide) (by decide)).mono fun e w' h => ⟨h.1, q, h.2.symm⟩
  have hHY : ∀ q : KeptT W1, Calls Tryz.prog 87 #[.string (bs t.tx), .string ⟨#[45, 45]⟩] q.at fun e w' => e = .returned (.bool (Lib.contains t.tx [45, 45])) ∧ ∃ q' : KeptT W1, w' = q'.at := fun q => (refHas_any t.tx [45, 45] q.at hbx (by decide) (by decide)).mono fun e w' h => ⟨h.1, q, h.2.symm⟩
  have HR := Lib.hid (show oneT t = (chlT t && (txD t.tx) && !(Lib.contains t.tx [13]) && t.nm.isEmpty && !(Lib.contains t.tx [45, 45]) && !(t.tx.getLast? == some 45)) by unfold oneT; rw [if_neg (show ¬ t.kd = 2 by omega), if_neg (show ¬ t.kd = 4 by omega), if_pos h5]; rfl)
  have k2 : (t.kd == 2) = false := by rw [h5]; rfl
  have k4 : (t.kd == 4) = false := by rw [h5]; rfl
  have k5 : (t.kd == 5) = true := by simp [h5]
  have hn0 : (bs t.nm).toList.isEmpty = t.nm.isEmpty := by rw [bs_tl]
  have hn1 : ((bs t.nm).toList == []) = t.nm.isEmpty := by rw [bs_tl]; cases t.nm <;> rfl
  have hch : chlT t = (decide (t.ats.length = 0) && decide (t.ks.length = 0)) := by unfold chlT; cases t.ats <;> cases t.ks <;> rfl
  generalize hq_tx : txD t.tx = b_tx at *
  generalize hq_cr : Lib.contains t.tx [13] = b_cr at *
  generalize hq_hy : Lib.contains t.tx [45, 45] = b_hy at *
  generalize hq_n0 : t.nm.isEmpty = b_n0 at *
  generalize chlT t = b_ch at *
  have HCH := Lib.hid hch
  have HTX := Lib.hid hTX
  have HCR := Lib.hid hCR
  have HHY := Lib.hid hHY
  clear hW1 hb1 hbk1 hBl hbq hq0 hB hb hbn hbx hTX hCR hHY hq_tx hq_cr hq_n0 hq_hy h5 hch
  by_cases ha0 : 0 < t.ats.length
  · have ha1 : decide (0 < t.ats.length) = true := decide_eq_true (by omega)
    have HC0 := Lib.hid (show b_ch = false by rw [HCH.out, decide_eq_false (by omega : ¬ t.ats.length = 0)]; rfl)
    clear ha0
    go_enter Tryz.func58, Tryz.ntmps58
    go_wp2_with fail
    rw [← HB.out, HW1.out]
    go_wp2_with (first | (go_at_call 43; (with_reducible refine (HTX.out _).mono ?_); rintro e _ ⟨rfl, q, rfl⟩) | (go_at_call 87; (with_reducible refine (HCR.out _).mono ?_); rintro e _ ⟨rfl, q, rfl⟩) | (go_at_call 87; (with_reducible refine (HHY.out _).mono ?_); rintro e _ ⟨rfl, q, rfl⟩))
    go_ret
    exact ⟨by first | (rw [HR.out, HC0.out]; simp) | (rw [HR.out]; simp), by first | exact HUP.out _ | (rw [HB.out]; exact HUP.out _)⟩
  by_cases hk0 : 0 < t.ks.length
  · have ha1 : decide (0 < t.ats.length) = false := decide_eq_false (by omega)
    have hk1 : decide (0 < t.ks.length) = true := decide_eq_true (by omega)
    have HC0 := Lib.hid (show b_ch = false by rw [HCH.out, decide_eq_false (by omega : ¬ t.ks.length = 0), Bool.and_false])
    clear ha0 hk0
    go_enter Tryz.func58, Tryz.ntmps58
    go_wp2_with fail
    rw [← HB.out, HW1.out]
    go_wp2_with (first | (go_at_call 43; (with_reducible refine (HTX.out _).mono ?_); rintro e _ ⟨rfl, q, rfl⟩) | (go_at_call 87; (with_reducible refine (HCR.out _).mono ?_); rintro e _ ⟨rfl, q, rfl⟩) | (go_at_call 87; (with_reducible refine (HHY.out _).mono ?_); rintro e _ ⟨rfl, q, rfl⟩))
    go_ret
    exact ⟨by first | (rw [HR.out, HC0.out]; simp) | (rw [HR.out]; simp), by first | exact HUP.out _ | (rw [HB.out]; exact HUP.out _)⟩
  have ha1 : decide (0 < t.ats.length) = false := decide_eq_false (by omega)
  have hk1 : decide (0 < t.ks.length) = false := decide_eq_false (by omega)
  obtain rfl : b_ch = true := by rw [HCH.out, decide_eq_true (by omega : t.ats.length = 0), decide_eq_true (by omega : t.ks.length = 0)]; rfl
  clear ha0 hk0
  cases b_tx with
  | false =>
    go_enter Tryz.func58, Tryz.ntmps58
    go_wp2_with fail
    rw [← HB.out, HW1.out]
    go_wp2_with (first | (go_at_call 43; (with_reducible refine (HTX.out _).mono ?_); rintro e _ ⟨rfl, q, rfl⟩) | (go_at_call 87; (with_reducible refine (HCR.out _).mono ?_); rintro e _ ⟨rfl, q, rfl⟩) | (go_at_call 87; (with_reducible refine (HHY.out _).mono ?_); rintro e _ ⟨rfl, q, rfl⟩))
    go_ret
    exact ⟨by rw [HR.out]; simp, by first | exact HUP.out _ | (rw [HB.out]; exact HUP.out _)⟩
  | true =>
    cases b_cr with
    | false =>
      cases b_n0 with
      | false =>
        go_enter Tryz.func58, Tryz.ntmps58
        go_wp2_with fail
        rw [← HB.out, HW1.out]
        go_wp2_with (first | (go_at_call 43; (with_reducible refine (HTX.out _).mono ?_); rintro e _ ⟨rfl, q, rfl⟩) | (go_at_call 87; (with_reducible refine (HCR.out _).mono ?_); rintro e _ ⟨rfl, q, rfl⟩) | (go_at_call 87; (with_reducible refine (HHY.out _).mono ?_); rintro e _ ⟨rfl, q, rfl⟩))
        go_ret
        exact ⟨by rw [HR.out]; simp, by first | exact HUP.out _ | (rw [HB.out]; exact HUP.out _)⟩
      | true =>
        cases b_hy with
        | false =>
          by_cases hte : t.tx = []
          · have hx0 : (bs t.tx).toList.isEmpty = true := by rw [bs_tl, hte]; rfl
            have hx1 : ((bs t.tx).toList == []) = true := by rw [bs_tl, hte]; rfl
            have HL := Lib.hid (show (t.tx.getLast? == some 45) = false by rw [hte]; rfl)
            clear hte
            go_enter Tryz.func58, Tryz.ntmps58
            go_wp2_with fail
            rw [← HB.out, HW1.out]
            go_wp2_with (first | (go_at_call 43; (with_reducible refine (HTX.out _).mono ?_); rintro e _ ⟨rfl, q, rfl⟩) | (go_at_call 87; (with_reducible refine (HCR.out _).mono ?_); rintro e _ ⟨rfl, q, rfl⟩) | (go_at_call 87; (with_reducible refine (HHY.out _).mono ?_); rintro e _ ⟨rfl, q, rfl⟩))
            go_ret
            exact ⟨by rw [HR.out, HL.out]; simp, by first | exact HUP.out _ | (rw [HB.out]; exact HUP.out _)⟩
          · have hx0 : (bs t.tx).toList.isEmpty = false := by rw [bs_tl]; cases hq : t.tx with | nil => exact absurd hq hte | cons _ _ => rfl
            have hx1 : ((bs t.tx).toList == []) = false := by rw [bs_tl]; cases hq : t.tx with | nil => exact absurd hq hte | cons _ _ => rfl
            obtain ⟨m, hm⟩ : ∃ m, t.tx.length = m + 1 := ⟨t.tx.length - 1, by have := List.length_pos_iff.2 hte; omega⟩
            have hm' : m < (bs t.tx).size := by omega
            have hlst : t.tx.getLast? = some (t.tx.getD m 0) := by rw [List.getLast?_eq_getElem?, hm, Nat.add_sub_cancel, List.getD_eq_getElem?_getD, List.getElem?_eq_getElem (by omega)]; rfl
            have hgt := bs_get t.tx m hm'
            obtain ⟨nb, hnb⟩ : ∃ nb, (t.tx.getD m 0).toNat = nb := ⟨_, rfl⟩
            have hg : ((bs t.tx)[m]'hm').toNat = nb := by rw [hgt, hnb]
            have hbx := HRB.out.tx
            have hwm : IntKind.i64.wrap ((t.tx.length : Int) - 1) = (m : Int) := by rw [IntWalk.i64_in _ (by omega)]; omega
            have hm0 : (0 : Int) ≤ (m : Int) := by omega
            have hm1 : (m : Int) < (t.tx.length : Int) := by omega
            have hm2 : (m : Int) < (m : Int) + 1 := by omega
            have HLS := Lib.hid hlst
            have HNB := Lib.hid hnb
            clear hm hlst hgt hnb hte hbx
            by_cases h45 : nb = 45
            · have k9 : ((nb : Int) != 45) = false := by rw [bne_eq_false_iff_eq]; omega
              have HL := Lib.hid (show (t.tx.getLast? == some 45) = true by rw [HLS.out, beq_iff_eq, Option.some.injEq]; apply UInt8.toNat_inj.1; rw [HNB.out, h45]; rfl)
              clear h45
              go_enter Tryz.func58, Tryz.ntmps58
              go_wp2_with fail
              rw [← HB.out, HW1.out]
              go_wp2_with (first | (go_at_call 43; (with_reducible refine (HTX.out _).mono ?_); rintro e _ ⟨rfl, q, rfl⟩) | (go_at_call 87; (with_reducible refine (HCR.out _).mono ?_); rintro e _ ⟨rfl, q, rfl⟩) | (go_at_call 87; (with_reducible refine (HHY.out _).mono ?_); rintro e _ ⟨rfl, q, rfl⟩))
              go_ret
              exact ⟨by rw [HR.out, HL.out]; simp, by first | exact HUP.out _ | (rw [HB.out]; exact HUP.out _)⟩
            · have k9 : ((nb : Int) != 45) = true := by rw [bne_iff_ne]; omega
              have HL := Lib.hid (show (t.tx.getLast? == some 45) = false by rw [HLS.out, beq_eq_false_iff_ne]; intro e; rw [Option.some.injEq] at e; rw [e] at HNB; exact h45 HNB.out.symm)
              clear h45
              go_enter Tryz.func58, Tryz.ntmps58
              go_wp2_with fail
              rw [← HB.out, HW1.out]
              go_wp2_with (first | (go_at_call 43; (with_reducible refine (HTX.out _).mono ?_); rintro e _ ⟨rfl, q, rfl⟩) | (go_at_call 87; (with_reducible refine (HCR.out _).mono ?_); rintro e _ ⟨rfl, q, rfl⟩) | (go_at_call 87; (with_reducible refine (HHY.out _).mono ?_); rintro e _ ⟨rfl, q, rfl⟩))
              go_ret
              exact ⟨by rw [HR.out, HL.out]; simp, by first | exact HUP.out _ | (rw [HB.out]; exact HUP.out _)⟩
        | true =>
          go_enter Tryz.func58, Tryz.ntmps58
          go_wp2_with fail
          rw [← HB.out, HW1.out]
          go_wp2_with (first | (go_at_call 43; (with_reducible refine (HTX.out _).mono ?_); rintro e _ ⟨rfl, q, rfl⟩) | (go_at_call 87; (with_reducible refine (HCR.out _).mono ?_); rintro e _ ⟨rfl, q, rfl⟩) | (go_at_call 87; (with_reducible refine (HHY.out _).mono ?_); rintro e _ ⟨rfl, q, rfl⟩))
          go_ret
          exact ⟨by rw [HR.out]; simp, by first | exact HUP.out _ | (rw [HB.out]; exact HUP.out _)⟩
    | true =>
      go_enter Tryz.func58, Tryz.ntmps58
      go_wp2_with fail
      rw [← HB.out, HW1.out]
      go_wp2_with (first | (go_at_call 43; (with_reducible refine (HTX.out _).mono ?_); rintro e _ ⟨rfl, q, rfl⟩) | (go_at_call 87; (with_reducible refine (HCR.out _).mono ?_); rintro e _ ⟨rfl, q, rfl⟩) | (go_at_call 87; (with_reducible refine (HHY.out _).mono ?_); rintro e _ ⟨rfl, q, rfl⟩))
      go_ret
      exact ⟨by rw [HR.out]; simp, by first | exact HUP.out _ | (rw [HB.out]; exact HUP.out _)⟩
end Go.Proofs.YtognlnjamlhmhaaGreatDoor.Char
