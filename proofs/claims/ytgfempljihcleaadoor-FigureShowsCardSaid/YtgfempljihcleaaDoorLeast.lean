/- The walks of the document's own least (is a below b?), Digits and unit. -/
import Derived.Test.YtgfempljihcleaaDoorNum
namespace Go.Proofs.YtgfempljihcleaaDoor.Char
open Go.RowKit

/-- of numbers with as many digits: the first digit that differs tells -/
theorem top_differs (a b k : Nat) (h : a / 10 ^ (k + 1) = b / 10 ^ (k + 1)) (hd : a / 10 ^ k % 10 ≠ b / 10 ^ k % 10) : decide (a < b) = decide (a / 10 ^ k % 10 < b / 10 ^ k % 10) := by
  have ea := div_step a k
  have eb := div_step b k
  have h1 := Nat.div_add_mod a (10 ^ k)
  have h2 := Nat.div_add_mod b (10 ^ k)
  have l1 := Nat.mod_lt a (Nat.pow_pos (n := k) (show 0 < 10 by omega))
  have l2 := Nat.mod_lt b (Nat.pow_pos (n := k) (show 0 < 10 by omega))
  rw [h] at ea
  generalize b / 10 ^ (k + 1) = q at ea eb
  generalize a / 10 ^ k % 10 = x at *
  generalize b / 10 ^ k % 10 = y at *
  generalize a / 10 ^ k = A at *
  generalize b / 10 ^ k = B at *
  generalize 10 ^ k = P at *
  rw [decide_eq_decide]
  subst ea eb
  rcases Nat.lt_or_gt_of_ne hd with hx | hx
  · have := Nat.mul_le_mul_left P (show 10 * q + x + 1 ≤ 10 * q + y by omega)
    rw [Nat.mul_add P (10 * q + x) 1] at this
    omega
  · have := Nat.mul_le_mul_left P (show 10 * q + y + 1 ≤ 10 * q + x by omega)
    rw [Nat.mul_add P (10 * q + y) 1] at this
    omega

theorem kept_drewN {B : Nat} {a w : World} (h : Below B a w) (n : Nat) : Below B a (w.drewN n) := ⟨h.os, h.tape, h.output, h.size, h.block⟩
theorem ret_bool {a b : Bool} (h : a = b) : Ending.returned (.bool a) = .returned (.bool b) := by rw [h]

set_option maxRecDepth 100000 in
set_option maxHeartbeats 2000000 in
theorem leastL_any (va vb : Value) (la lb : List Nat) (a b : Nat) (w : World) (ha : Holds w va la) (hb : Holds w vb lb) (hla0 : ∀ d ∈ la, d < 10) (hlb0 : ∀ d ∈ lb, d < 10) (ea : val la = a) (eb : val lb = b) (hna : la.length ≤ 1000) (hnb : lb.length ≤ 1000) :
    Calls Tryd.prog 36 #[va, vb] w fun e w' => e = .returned (.bool (decide (a < b))) ∧ Below w.heap.size w w' := by
  have CA' := trim_any va la w ha hla0 hna
  have CB' := trim_any vb lb w hb hlb0 hnb
  have CA := Lib.hid CA'
  have CB := Lib.hid CB'
  clear CA' CB'
  have hla := dg_len_below a b
  have hlb := dg_len_below b a
  obtain ⟨R, hR⟩ : ∃ R, decide (a < b) = R := ⟨_, rfl⟩
  rw [hR]
  have HR := Lib.hid hR
  have hda : (dg a).length ≤ 1000 := Nat.le_trans (dg_len_le a la.length (by rw [← ea]; exact val_lt la hla0)) hna
  have hdb : (dg b).length ≤ 1000 := Nat.le_trans (dg_len_le b lb.length (by rw [← eb]; exact val_lt lb hlb0)) hnb
  have EA := Lib.hid ea
  have EB := Lib.hid eb
  clear ha hb hR hla0 hlb0 ea eb hna hnb
  go_enter Tryd.func36, Tryd.ntmps36
  go_wp2_with fail
  refine CA.out.mono ?_
  rintro e w1 ⟨va', rfl, ha, _, rfl⟩
  go_wp2_with fail
  refine CB.out.mono ?_
  rintro e w1 ⟨vb', rfl, hb, _, rfl⟩
  rw [EA.out] at ha
  rw [EB.out] at hb
  obtain ⟨A, capa, rfl, hca, _, hA⟩ := ha
  obtain ⟨B, capb, rfl, hcb, _, hB⟩ := hb
  have HA := Lib.hid hA
  have HB := Lib.hid hB
  have HLA := Lib.hid hla
  have HLB := Lib.hid hlb
  clear CA CB hA hB hla hlb
  by_cases hne : (dg a).length = (dg b).length
  · have hneb : (((dg a).length : Int) != ((dg b).length : Int)) = false := by simp [hne]
    have h0 : a / 10 ^ (dg a).length = b / 10 ^ (dg a).length := by
      rw [Nat.div_eq_of_lt (dg_len_lt a), hne, Nat.div_eq_of_lt (dg_len_lt b)]
    have H0 := Lib.hid h0
    have HN := Lib.hid hne
    clear hne h0 HLA HLB
    go_wp2_with fail
    go_loopw [5] (fun i wr => ∃ k : Nat, k ≤ (dg a).length ∧ i = .int .i64 ((k : Int) - 1) ∧ Hid (a / 10 ^ k = b / 10 ^ k) ∧ Below w.heap.size w wr) (fun i _ => (intOf i + 1).toNat)
    case atStart => exact ⟨(dg a).length, Nat.le_refl _, rfl, H0, Below.refl _ _⟩
    case round =>
      obtain ⟨k, hk, rfl, HK, hbw⟩ := hrel
      by_cases h0 : 0 < k
      · obtain ⟨j, rfl⟩ : ∃ j, k = j + 1 := ⟨k - 1, by omega⟩
        have hjb : j < (dg b).length := by have := HN.out; omega
        obtain ⟨g1, rfl, hg1, hc1⟩ := HA.out j (by omega)
        obtain ⟨g2, rfl, hg2, hc2⟩ := HB.out j hjb
        have hd1 := (hbw.cell (p := ⟨g1, j, none⟩) hg1).trans hc1
        have hd2 := (hbw.cell (p := ⟨g2, j, none⟩) hg2).trans hc2
        have htd := top_differs a b j HK.out
        have hsame : a / 10 ^ j % 10 = b / 10 ^ j % 10 → a / 10 ^ j = b / 10 ^ j := fun h => by
          rw [div_step a j, div_step b j, HK.out, h]
        rw [dg_getD] at hd1 hd2
        have ej : ((↑(j + 1) : Int) - 1) = (j : Int) := by omega
        rw [ej]
        clear hc1 hc2 HK ej
        generalize a / 10 ^ j % 10 = x at *
        generalize b / 10 ^ j % 10 = y at *
        by_cases hxy : x = y
        · have HS := Lib.hid (hsame hxy)
          subst hxy
          clear htd hsame
          go_wp2_with fail
          go_quiet (fail)
          go_wp2_with fail
          go_roundw
          case rel => exact ⟨j, by omega, rfl, HS, kept_drewN hbw _⟩
          case measure => simp [intOf]
        · have hxb : ((x : Int) != (y : Int)) = true := by simp; omega
          have HT := Lib.hid (HR.out.symm.trans (htd hxy))
          clear htd hsame hxy
          go_wp2_with fail
          go_quiet (fail)
          go_wp2_with fail
          go_quiet (fail)
          go_wp2_with fail
          go_ret
          exact ⟨ret_bool HT.out.symm, kept_drewN (kept_drewN hbw _) _⟩
      · obtain rfl : k = 0 := by omega
        have hab := HK.out
        simp at hab
        have HT : Hid (R = false) := Lib.hid (by rw [← HR.out, hab]; simp)
        clear hab HK h0
        go_wp2_with fail
        go_ret
        exact ⟨ret_bool HT.out.symm, hbw⟩
  · have hneb : (((dg a).length : Int) != ((dg b).length : Int)) = true := by simp; omega
    by_cases hlt : (dg a).length < (dg b).length
    · have HT : Hid (R = true) := Lib.hid (by rw [← HR.out, decide_eq_true (HLA.out hlt)])
      clear HLA HLB HR hne
      go_wp2_with fail
      go_ret
      exact ⟨ret_bool HT.out.symm, Below.refl _ _⟩
    · have HT : Hid (R = false) := Lib.hid (by rw [← HR.out]; exact decide_eq_false (fun h => by have := HLB.out (by omega); omega))
      clear HLA HLB HR hne
      go_wp2_with fail
      go_ret
      exact ⟨ret_bool HT.out.symm, Below.refl _ _⟩

theorem least_any (va vb : Value) (a b : Nat) (w : World) (ha : Holds w va (dg a)) (hb : Holds w vb (dg b)) (hna : (dg a).length ≤ 1000) (hnb : (dg b).length ≤ 1000) :
    Calls Tryd.prog 36 #[va, vb] w fun e w' => e = .returned (.bool (decide (a < b))) ∧ Below w.heap.size w w' :=
  leastL_any va vb (dg a) (dg b) a b w ha hb (dg_lt a) (dg_lt b) (val_dg a) (val_dg b) hna hnb
end Go.Proofs.YtgfempljihcleaaDoor.Char
