/- RefOneT -/
import Derived.Test.YtognlnjamlhmhaaGreatDoorPkRtA
import Derived.Test.YtognlnjamlhmhaaGreatDoorRefHas
import Derived.Test.YtognlnjamlhmhaaGreatDoorPkRef
/- The walk of the document's own one: may a node be, but for its kids? -/
namespace Go.Proofs.YtognlnjamlhmhaaGreatDoor.Char
open Go.RowKit Go.Lib

/-- what the document's own asks of how long things are -/
structure RefB (t : Tr) : Prop where
  nm : t.nm.length ≤ 1048576
  tx : t.tx.length ≤ 1048576
  al : t.ats.length ≤ 1048576
  an : ∀ a, a ∈ t.ats → a.1.length ≤ 1048576 ∧ a.2.length ≤ 1048576
  kl : t.ks.length ≤ 1048576

set_option maxRecDepth 100000 in
set_option maxHeartbeats 16000000 in
theorem refOne_text (t : Tr) (oa : Option Addr) (ja : Nat) (ok : Option Addr) (jk : Nat) (w : World) (hb : RefB t) (h4 : t.kd = 4) :
    Calls Tryz.prog 58 #[.agg #[.int .i64 t.kd, .string (bs t.nm), .string (bs t.tx), .slice oa t.ats.length ja, .slice ok t.ks.length jk]] w fun e w' => e = .returned (.bool (oneT t)) ∧ Below w.heap.size w w' := by
  have hsn := bs_size t.nm
  have hsx := bs_size t.tx
  have hbn := hb.nm
  have hbx := hb.tx
  have hba := hb.al
  have hbk := hb.kl
  obtain ⟨B, hB⟩ : ∃ B, B = w.heap.size := ⟨_, rfl⟩
  obtain ⟨W1, hW1⟩ : ∃ W1, W1 = w.alloc (.cells #[.int .i64 t.kd, .string (bs t.nm), .string (bs t.tx), .slice oa t.ats.length ja, .slice ok t.ks.length jk] 26) := ⟨_, rfl⟩
  have hb1 : Below w.heap.size w W1 := by rw [hW1]; exact (Below.refl _ _).alloc (Nat.le_refl _) _
  have hbk1 : W1.heap[B]? = some (.cells #[.int .i64 t.kd, .string (bs t.nm), .string (bs t.tx), .slice oa t.ats.length ja, .slice ok t.ks.length jk] 26 (0, 0)) := by rw [hW1, hB]; exact World.alloc_heap_new w _
  have hBl := block_of_heap hbk1
  have hbq : ∀ q : KeptT W1, q.at.heap[B]? = some (.cells #[.int .i64 t.kd, .string (bs t.nm), .string (bs t.tx), .slice oa t.ats.length ja, .slice ok t.ks.length jk] 26 (0, 0)) := fun q => (q.ok.block B hBl).trans hbk1
  have z0 : ∀ q : KeptT W1, q.at.cell? ⟨B, 0, none⟩ = some (.int .i64 t.kd) := fun q => by simp [World.cell?, hbq q]
  have z1 : ∀ q : KeptT W1, q.at.cell? ⟨B, 1, none⟩ = some (.string (bs t.nm)) := fun q => by simp [World.cell?, hbq q]
  have z2 : ∀ q : KeptT W1, q.at.cell? ⟨B, 2, none⟩ = some (.string (bs t.tx)) := fun q => by simp [World.cell?, hbq q]
  have z3 : ∀ q : KeptT W1, q.at.cell? ⟨B, 3, none⟩ = some (.slice oa t.ats.length ja) := fun q => by simp [World.cell?, hbq q]
  have z4 : ∀ q : KeptT W1, q.at.cell? ⟨B, 4, none⟩ = some (.slice ok t.ks.length jk) := fun q => by simp [World.cell?, hbq q]
  have HUP := Lib.hid (fun q : KeptT W1 => (show Below w.heap.size w q.at from hb1.trans (q.ok.mono hb1.size)))
  obtain ⟨q0, hq0⟩ : ∃ q0 : KeptT W1, W1 = q0.at := ⟨⟨W1, Below.refl _ _⟩, rfl⟩
  have HW1 := Lib.hid (hW1.symm.trans hq0)
  have HB := Lib.hid hB
  have HRB := Lib.hid hb
  have hTX : ∀ q : KeptT W1, Calls Tryz.prog 43 #[.string (bs t.tx)] q.at fun e w' => e = .returned (.bool (txD t.tx)) ∧ ∃ q' : KeptT W1, w' = q'.at := fun q => (refText_any (bs t.tx) q.at (by omega)).mono fun e w' h => ⟨h.1, q.on h.2⟩
  have HR := Lib.hid (show oneT t = (chlT t && (txD t.tx) && t.nm.isEmpty && !t.tx.isEmpty) by exact one_text' h4)
  have k2 : (t.kd == 2) = false := by rw [h4]; rfl
  have k4 : (t.kd == 4) = true := by simp [h4]
  have hn0 : (bs t.nm).toList.isEmpty = t.nm.isEmpty := by rw [bs_tl]
  have hn1 : ((bs t.nm).toList == []) = t.nm.isEmpty := by rw [bs_tl]; cases t.nm <;> rfl
  have hx0 : (bs t.tx).toList.isEmpty = t.tx.isEmpty := by rw [bs_tl]
  have hx1 : ((bs t.tx).toList == []) = t.tx.isEmpty := by rw [bs_tl]; cases t.tx <;> rfl
  have hch : chlT t = (decide (t.ats.length = 0) && decide (t.ks.length = 0)) := by unfold chlT; cases t.ats <;> cases t.ks <;> rfl
  generalize hq_tx : txD t.tx = b_tx at *
  generalize hq_n0 : t.nm.isEmpty = b_n0 at *
  generalize hq_x0 : t.tx.isEmpty = b_x0 at *
  generalize chlT t = b_ch at *
  have HCH := Lib.hid hch
  have HTX := Lib.hid hTX
  clear hW1 hb1 hbk1 hBl hbq hq0 hB hb hbn hbx hTX hq_tx hq_n0 hq_x0 h4 hch
  by_cases ha0 : 0 < t.ats.length
  · have ha1 : decide (0 < t.ats.length) = true := decide_eq_true (by omega)
    have HC0 := Lib.hid (show b_ch = false by rw [HCH.out, decide_eq_false (by omega : ¬ t.ats.length = 0)]; rfl)
    clear ha0
    go_enter Tryz.func58, Tryz.ntmps58
    go_wp2_with fail
    rw [← HB.out, HW1.out]
    go_wp2_with (first | (go_at_call 43; (with_reducible refine (HTX.out _).mono ?_); rintro e _ ⟨rfl, q, rfl⟩))
    go_ret
    exact ⟨by first | (rw [HR.out, HC0.out]; simp) | (rw [HR.out]; simp), by first | exact HUP.out _ | (rw [HB.out]; exact HUP.out _)⟩
  by_cases hk0 : 0 < t.ks.length
  · have ha1 : decide (0 < t.ats.length) = false := decide_eq_false (by omega)
    have hk1 : decide (0 < t.ks.length) = true := decide_eq_true (by omega)
    have HC0 := Lib.hid (show b_ch = false by rw [HCH.out, decide_eq_false (by omega : ¬ t.ks.length = 0), Bool.and_false])
    clear ha0 hk0
    go_enter Tryz.func58, Tryz.ntmps58
    go_wp2_with fail
    rw [← HB.out, HW1.out]
    go_wp2_with (first | (go_at_call 43; (with_reducible refine (HTX.out _).mono ?_); rintro e _ ⟨rfl, q, rfl⟩))
    go_ret
    exact ⟨by first | (rw [HR.out, HC0.out]; simp) | (rw [HR.out]; simp), by first | exact HUP.out _ | (rw [HB.out]; exact HUP.out _)⟩
  have ha1 : decide (0 < t.ats.length) = false := decide_eq_false (by omega)
  have hk1 : decide (0 < t.ks.length) = false := decide_eq_false (by omega)
  obtain rfl : b_ch = true := by rw [HCH.out, decide_eq_true (by omega : t.ats.length = 0), decide_eq_true (by omega : t.ks.length = 0)]; rfl
  clear ha0 hk0
  cases b_tx with
  | false =>
    go_enter Tryz.func58, Tryz.ntmps58
    go_wp2_with fail
    rw [← HB.out, HW1.out]
    go_wp2_with (first | (go_at_call 43; (with_reducible refine (HTX.out _).mono ?_); rintro e _ ⟨rfl, q, rfl⟩))
    go_ret
    exact ⟨by rw [HR.out]; simp, by first | exact HUP.out _ | (rw [HB.out]; exact HUP.out _)⟩
  | true =>
    cases b_n0 with
    | false =>
      go_enter Tryz.func58, Tryz.ntmps58
      go_wp2_with fail
      rw [← HB.out, HW1.out]
      go_wp2_with (first | (go_at_call 43; (with_reducible refine (HTX.out _).mono ?_); rintro e _ ⟨rfl, q, rfl⟩))
      go_ret
      exact ⟨by rw [HR.out]; simp, by first | exact HUP.out _ | (rw [HB.out]; exact HUP.out _)⟩
    | true =>
      cases b_x0 with
      | false =>
        go_enter Tryz.func58, Tryz.ntmps58
        go_wp2_with fail
        rw [← HB.out, HW1.out]
        go_wp2_with (first | (go_at_call 43; (with_reducible refine (HTX.out _).mono ?_); rintro e _ ⟨rfl, q, rfl⟩))
        go_ret
        exact ⟨by rw [HR.out]; simp, by first | exact HUP.out _ | (rw [HB.out]; exact HUP.out _)⟩
      | true =>
        go_enter Tryz.func58, Tryz.ntmps58
        go_wp2_with fail
        rw [← HB.out, HW1.out]
        go_wp2_with (first | (go_at_call 43; (with_reducible refine (HTX.out _).mono ?_); rintro e _ ⟨rfl, q, rfl⟩))
        go_ret
        exact ⟨by rw [HR.out]; simp, by first | exact HUP.out _ | (rw [HB.out]; exact HUP.out _)⟩

set_option maxRecDepth 100000 in
set_option maxHeartbeats 16000000 in
theorem refOne_no (t : Tr) (oa : Option Addr) (ja : Nat) (ok : Option Addr) (jk : Nat) (w : World) (hb : RefB t) (h2 : t.kd ≠ 2) (h4 : t.kd ≠ 4) (h5 : t.kd ≠ 5) (h6 : t.kd ≠ 6) :
    Calls Tryz.prog 58 #[.agg #[.int .i64 t.kd, .string (bs t.nm), .string (bs t.tx), .slice oa t.ats.length ja, .slice ok t.ks.length jk]] w fun e w' => e = .returned (.bool (oneT t)) ∧ Below w.heap.size w w' := by
  have hsn := bs_size t.nm
  have hsx := bs_size t.tx
  have hbn := hb.nm
  have hbx := hb.tx
  have hba := hb.al
  have hbk := hb.kl
  obtain ⟨B, hB⟩ : ∃ B, B = w.heap.size := ⟨_, rfl⟩
  obtain ⟨W1, hW1⟩ : ∃ W1, W1 = w.alloc (.cells #[.int .i64 t.kd, .string (bs t.nm), .string (bs t.tx), .slice oa t.ats.length ja, .slice ok t.ks.length jk] 26) := ⟨_, rfl⟩
  have hb1 : Below w.heap.size w W1 := by rw [hW1]; exact (Below.refl _ _).alloc (Nat.le_refl _) _
  have hbk1 : W1.heap[B]? = some (.cells #[.int .i64 t.kd, .string (bs t.nm), .string (bs t.tx), .slice oa t.ats.length ja, .slice ok t.ks.length jk] 26 (0, 0)) := by rw [hW1, hB]; exact World.alloc_heap_new w _
  have hBl := block_of_heap hbk1
  have hbq : ∀ q : KeptT W1, q.at.heap[B]? = some (.cells #[.int .i64 t.kd, .string (bs t.nm), .string (bs t.tx), .slice oa t.ats.length ja, .slice ok t.ks.length jk] 26 (0, 0)) := fun q => (q.ok.block B hBl).trans hbk1
  have z0 : ∀ q : KeptT W1, q.at.cell? ⟨B, 0, none⟩ = some (.int .i64 t.kd) := fun q => by simp [World.cell?, hbq q]
  have z1 : ∀ q : KeptT W1, q.at.cell? ⟨B, 1, none⟩ = some (.string (bs t.nm)) := fun q => by simp [World.cell?, hbq q]
  have z2 : ∀ q : KeptT W1, q.at.cell? ⟨B, 2, none⟩ = some (.string (bs t.tx)) := fun q => by simp [World.cell?, hbq q]
  have z3 : ∀ q : KeptT W1, q.at.cell? ⟨B, 3, none⟩ = some (.slice oa t.ats.length ja) := fun q => by simp [World.cell?, hbq q]
  have z4 : ∀ q : KeptT W1, q.at.cell? ⟨B, 4, none⟩ = some (.slice ok t.ks.length jk) := fun q => by simp [World.cell?, hbq q]
  have HUP := Lib.hid (fun q : KeptT W1 => (show Below w.heap.size w q.at from hb1.trans (q.ok.mono hb1.size)))
  obtain ⟨q0, hq0⟩ : ∃ q0 : KeptT W1, W1 = q0.at := ⟨⟨W1, Below.refl _ _⟩, rfl⟩
  have HW1 := Lib.hid (hW1.symm.trans hq0)
  have HB := Lib.hid hB
  have HRB := Lib.hid hb
  have hTX : ∀ q : KeptT W1, Calls Tryz.prog 43 #[.string (bs t.tx)] q.at fun e w' => e = .returned (.bool (txD t.tx)) ∧ ∃ q' : KeptT W1, w' = q'.at := fun q => (refText_any (bs t.tx) q.at (by omega)).mono fun e w' h => ⟨h.1, q.on h.2⟩
  have hCR : ∀ q : KeptT W1, Calls Tryz.prog 87 #[.string (bs t.tx), .string ⟨#[13]⟩] q.at fun e w' => e = .returned (.bool (Lib.contains t.tx [13])) ∧ ∃ q' : KeptT W1, w' = q'.at := fun q => (refHas_any t.tx [13] q.at hbx (by decide) (by decide)).mono fun e w' h => ⟨h.1, q, h.2.symm⟩
  have HR := Lib.hid (show oneT t = false by unfold oneT; rw [if_neg h2, if_neg h4, if_neg h5, if_neg h6])
  have k2 : (t.kd == 2) = false := by simp [h2]
  have k4 : (t.kd == 4) = false := by simp [h4]
  have k5 : (t.kd == 5) = false := by simp [h5]
  have k6 : (t.kd != 6) = true := by simp [h6]
  have hch : chlT t = (decide (t.ats.length = 0) && decide (t.ks.length = 0)) := by unfold chlT; cases t.ats <;> cases t.ks <;> rfl
  generalize hq_tx : txD t.tx = b_tx at *
  generalize hq_cr : Lib.contains t.tx [13] = b_cr at *
  generalize chlT t = b_ch at *
  have HCH := Lib.hid hch
  have HTX := Lib.hid hTX
  have HCR := Lib.hid hCR
  clear hW1 hb1 hbk1 hBl hbq hq0 hB hb hbn hbx hTX hCR hq_tx hq_cr h2 h4 h5 h6 hch
  by_cases ha0 : 0 < t.ats.length
  · have ha1 : decide (0 < t.ats.length) = true := decide_eq_true (by omega)
    have HC0 := Lib.hid (show b_ch = false by rw [HCH.out, decide_eq_false (by omega : ¬ t.ats.length = 0)]; rfl)
    clear ha0
    go_enter Tryz.func58, Tryz.ntmps58
    go_wp2_with fail
    rw [← HB.out, HW1.out]
    go_wp2_with (first | (go_at_call 43; (with_reducible refine (HTX.out _).mono ?_); rintro e _ ⟨rfl, q, rfl⟩) | (go_at_call 87; (with_reducible refine (HCR.out _).mono ?_); rintro e _ ⟨rfl, q, rfl⟩))
    go_ret
    exact ⟨by first | (rw [HR.out, HC0.out]; simp) | (rw [HR.out]; simp), by first | exact HUP.out _ | (rw [HB.out]; exact HUP.out _)⟩
  by_cases hk0 : 0 < t.ks.length
  · have ha1 : decide (0 < t.ats.length) = false := decide_eq_false (by omega)
    have hk1 : decide (0 < t.ks.length) = true := decide_eq_true (by omega)
    have HC0 := Lib.hid (show b_ch = false by rw [HCH.out, decide_eq_false (by omega : ¬ t.ks.length = 0), Bool.and_false])
    clear ha0 hk0
    go_enter Tryz.func58, Tryz.ntmps58
    go_wp2_with fail
    rw [← HB.out, HW1.out]
    go_wp2_with (first | (go_at_call 43; (with_reducible refine (HTX.out _).mono ?_); rintro e _ ⟨rfl, q, rfl⟩) | (go_at_call 87; (with_reducible refine (HCR.out _).mono ?_); rintro e _ ⟨rfl, q, rfl⟩))
    go_ret
    exact ⟨by first | (rw [HR.out, HC0.out]; simp) | (rw [HR.out]; simp), by first | exact HUP.out _ | (rw [HB.out]; exact HUP.out _)⟩
  have ha1 : decide (0 < t.ats.length) = false := decide_eq_false (by omega)
  have hk1 : decide (0 < t.ks.length) = false := decide_eq_false (by omega)
  obtain rfl : b_ch = true := by rw [HCH.out, decide_eq_true (by omega : t.ats.length = 0), decide_eq_true (by omega : t.ks.length = 0)]; rfl
  clear ha0 hk0
  cases b_tx with
  | false =>
    go_enter Tryz.func58, Tryz.ntmps58
    go_wp2_with fail
    rw [← HB.out, HW1.out]
    go_wp2_with (first | (go_at_call 43; (with_reducible refine (HTX.out _).mono ?_); rintro e _ ⟨rfl, q, rfl⟩) | (go_at_call 87; (with_reducible refine (HCR.out _).mono ?_); rintro e _ ⟨rfl, q, rfl⟩))
    go_ret
    exact ⟨by rw [HR.out]; simp, by first | exact HUP.out _ | (rw [HB.out]; exact HUP.out _)⟩
  | true =>
    cases b_cr with
    | false =>
      go_enter Tryz.func58, Tryz.ntmps58
      go_wp2_with fail
      rw [← HB.out, HW1.out]
      go_wp2_with (first | (go_at_call 43; (with_reducible refine (HTX.out _).mono ?_); rintro e _ ⟨rfl, q, rfl⟩) | (go_at_call 87; (with_reducible refine (HCR.out _).mono ?_); rintro e _ ⟨rfl, q, rfl⟩))
      go_ret
      exact ⟨by rw [HR.out]; simp, by first | exact HUP.out _ | (rw [HB.out]; exact HUP.out _)⟩
    | true =>
      go_enter Tryz.func58, Tryz.ntmps58
      go_wp2_with fail
      rw [← HB.out, HW1.out]
      go_wp2_with (first | (go_at_call 43; (with_reducible refine (HTX.out _).mono ?_); rintro e _ ⟨rfl, q, rfl⟩) | (go_at_call 87; (with_reducible refine (HCR.out _).mono ?_); rintro e _ ⟨rfl, q, rfl⟩))
      go_ret
      exact ⟨by rw [HR.out]; simp, by first | exact HUP.out _ | (rw [HB.out]; exact HUP.out _)⟩
end Go.Proofs.YtognlnjamlhmhaaGreatDoor.Char
