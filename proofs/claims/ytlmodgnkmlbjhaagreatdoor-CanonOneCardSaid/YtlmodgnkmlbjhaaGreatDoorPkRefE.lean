import Derived.Test.YtlmodgnkmlbjhaaGreatDoorPkRefR
import Derived.Test.YtlmodgnkmlbjhaaGreatDoorRefIsP
import Derived.Test.YtlmodgnkmlbjhaaGreatDoorPkSm
import Derived.Test.YtlmodgnkmlbjhaaGreatDoorPkSeq
namespace Go.Proofs.YtlmodgnkmlbjhaaGreatDoor
namespace Char
open Go.RowKit Go.Lib
set_option maxRecDepth 100000 in
set_option maxHeartbeats 16000000 in
theorem refOne_elem (t : Tr) (oa : Option Addr) (ja : Nat) (ok : Option Addr) (jk : Nat) (w : World) (hb : RefB t) (ha : AtsOn w (fun b => b < w.heap.size) (.slice oa t.ats.length ja) t.ats) (h2 : t.kd = 2) :
  Calls Tryz.prog 29 #[.agg #[.int .i64 t.kd, .string (bs t.nm), .string (bs t.tx), .slice oa t.ats.length ja, .slice ok t.ks.length jk]] w fun e w' => e = .returned (.bool (oneT t)) ∧ Below w.heap.size w w' := by
 have hsn := bs_size t.nm
 have hsx := bs_size t.tx
 have hbn := hb.nm
 have hbx := hb.tx
 have hba := hb.al
 have hbk := hb.kl
 obtain ⟨B, hB⟩ : ∃ B, B = w.heap.size := ⟨_, rfl⟩
 obtain ⟨W1, hW1⟩ : ∃ W1, W1 = w.alloc (.cells #[.int .i64 t.kd, .string (bs t.nm), .string (bs t.tx), .slice oa t.ats.length ja, .slice ok t.ks.length jk] 25) := ⟨_, rfl⟩
 have hb1 : Below w.heap.size w W1 := by rw [hW1]; exact (Below.refl _ _).alloc (Nat.le_refl _) _
 have hbk1 : W1.heap[B]? = some (.cells #[.int .i64 t.kd, .string (bs t.nm), .string (bs t.tx), .slice oa t.ats.length ja, .slice ok t.ks.length jk] 25 (0, 0)) := by rw [hW1, hB]; exact World.alloc_heap_new w _
 have hBl := block_of_heap hbk1
 have hbq : ∀ q : KeptT W1, q.at.heap[B]? = some (.cells #[.int .i64 t.kd, .string (bs t.nm), .string (bs t.tx), .slice oa t.ats.length ja, .slice ok t.ks.length jk] 25 (0, 0)) := fun q => (q.ok.block B hBl).trans hbk1
 have z0 : ∀ q : KeptT W1, q.at.cell? ⟨B, 0, none⟩ = some (.int .i64 t.kd) := fun q => by simp [World.cell?, hbq q]
 have z1 : ∀ q : KeptT W1, q.at.cell? ⟨B, 1, none⟩ = some (.string (bs t.nm)) := fun q => by simp [World.cell?, hbq q]
 have z2 : ∀ q : KeptT W1, q.at.cell? ⟨B, 2, none⟩ = some (.string (bs t.tx)) := fun q => by simp [World.cell?, hbq q]
 have z3 : ∀ q : KeptT W1, q.at.cell? ⟨B, 3, none⟩ = some (.slice oa t.ats.length ja) := fun q => by simp [World.cell?, hbq q]
 have z4 : ∀ q : KeptT W1, q.at.cell? ⟨B, 4, none⟩ = some (.slice ok t.ks.length jk) := fun q => by simp [World.cell?, hbq q]
 have HUP := Lib.hid (fun q : KeptT W1 => (show Below w.heap.size w q.at from hb1.trans (q.ok.mono hb1.size)))
 obtain ⟨q0, hq0⟩ : ∃ q0 : KeptT W1, W1 = q0.at := ⟨⟨W1, Below.refl _ _⟩, rfl⟩
 have HW1 := Lib.hid (hW1.symm.trans hq0)
 have HB := Lib.hid hB
 have HRB := Lib.hid hb
 have hNM : ∀ q : KeptT W1, Calls Tryz.prog 50 #[.string (bs t.nm)] q.at fun e w' => e = .returned (.bool (nmD (bs t.nm))) ∧ ∃ q' : KeptT W1, w' = q'.at := fun q => (refName_any (bs t.nm) q.at (by omega)).mono fun e w' h => ⟨h.1, q.on h.2⟩
 have HATS := Lib.hid ha
 clear ha
 have HR := Lib.hid (show oneT t = ((nmD (bs t.nm)) && t.tx.isEmpty && decide (t.ats.length ≤ 8) && atsK none t.ats) by unfold oneT; rw [if_pos h2])
 have k2 : (t.kd == 2) = true := by simp [h2]
 have hx0 : (bs t.tx).toList.isEmpty = t.tx.isEmpty := by rw [bs_tl]
 have hx1 : ((bs t.tx).toList == []) = t.tx.isEmpty := by rw [bs_tl]; cases t.tx <;> rfl
 generalize hq_nm : nmD (bs t.nm) = b_nm at *
 generalize hq_x0 : t.tx.isEmpty = b_x0 at *
 have HNM := Lib.hid hNM
 clear hW1 hb1 hbk1 hBl hbq hq0 hB hb hbn hbx hNM  h2
 cases b_nm with
 | false =>
  go_enter Tryz.func29, Tryz.ntmps29
  go_wp2_with fail
  rw [← HB.out, HW1.out]
  go_wp2_with (first | (go_at_call 50; (with_reducible refine (HNM.out _).mono ?_); rintro e _ ⟨rfl, q, rfl⟩))
  go_ret
  exact ⟨by rw [HR.out]; simp, by first | exact HUP.out _ | (rw [HB.out]; exact HUP.out _)⟩
 | true =>
  cases b_x0 with
  | false =>
   go_enter Tryz.func29, Tryz.ntmps29
   go_wp2_with fail
   rw [← HB.out, HW1.out]
   go_wp2_with (first | (go_at_call 50; (with_reducible refine (HNM.out _).mono ?_); rintro e _ ⟨rfl, q, rfl⟩))
   go_ret
   exact ⟨by rw [HR.out]; simp, by first | exact HUP.out _ | (rw [HB.out]; exact HUP.out _)⟩
  | true =>
   by_cases h8 : 8 < t.ats.length
   ·have k8 : decide ((8 : Int) < (t.ats.length : Int)) = true := decide_eq_true (by omega)
    have HD8 := Lib.hid (show decide (t.ats.length ≤ 8) = false from decide_eq_false (by omega))
    clear h8
    go_enter Tryz.func29, Tryz.ntmps29
    go_wp2_with fail
    rw [← HB.out, HW1.out]
    go_wp2_with (first | (go_at_call 50; (with_reducible refine (HNM.out _).mono ?_); rintro e _ ⟨rfl, q, rfl⟩))
    go_ret
    exact ⟨by rw [HR.out, HD8.out]; simp, by first | exact HUP.out _ | (rw [HB.out]; exact HUP.out _)⟩
   ·have k8 : decide ((8 : Int) < (t.ats.length : Int)) = false := decide_eq_false (by omega)
    have HD8 := Lib.hid (show decide (t.ats.length ≤ 8) = true from decide_eq_true (by omega))
    clear h8
    go_enter Tryz.func29, Tryz.ntmps29
    go_wp2_with fail
    rw [← HB.out, HW1.out]
    go_wp2_with (first | (go_at_call 50; (with_reducible refine (HNM.out _).mono ?_); rintro e _ ⟨rfl, q, rfl⟩))
    obtain ⟨A, hA⟩ : ∃ A, atsK none t.ats = A := ⟨_, rfl⟩
    rw [hA] at HR
    have H0 := Lib.hid (show atsK (lastN t.ats 0) (t.ats.drop 0) = A from hA)
    clear hA
    go_loopw [3] (fun v wr => ∃ k : Nat, v = .int .i64 (k : Int) ∧ k ≤ t.ats.length ∧ Hid (atsK (lastN t.ats k) (t.ats.drop k) = A) ∧ ∃ q : KeptT W1, wr = q.at) (fun v _ => t.ats.length - (RowKit.intOf v).toNat)
    case atStart => exact ⟨0, rfl, Nat.zero_le _, H0, _, rfl⟩
    case round =>
     obtain ⟨k, rfl, hk, HM, q1, rfl⟩ := hrel
     by_cases hlt : k < t.ats.length
     ·obtain ⟨g, off, rfl, _, c0, c1⟩ := HATS.out.reads k hlt
      have hgl : g < w.heap.size := cell_lt c0
      have hkb := fun q : KeptT W1 => (HUP.out q).block g hgl
      have a0 : ∀ q : KeptT W1, q.at.cell? ⟨g, off + k * 2, none⟩ = some (.string (bs t.ats[k].1)) := fun q => (cell_of_block (hkb q) _).trans c0
      have a1 : ∀ q : KeptT W1, q.at.cell? ⟨g, off + k * 2 + 1, none⟩ = some (.string (bs t.ats[k].2)) := fun q => (cell_of_block (hkb q) _).trans c1
      have hmem := HRB.out.an _ (List.getElem_mem hlt)
      have hM := HM.out
      rw [atsK_drop hlt] at hM
      have hx : ∃ x, t.ats[k] = x := ⟨_, rfl⟩
      obtain ⟨⟨xn, xt⟩, hx⟩ := hx
      rw [hx] at a0 a1 hmem hM
      dsimp only at hmem hM a0 a1
      have hsn2 := bs_size xn
      have hsx2 := bs_size xt
      have hN := fun q : KeptT W1 => (refName_any (bs xn) q.at (by omega)).mono (R' := fun e w' => e = .returned (.bool (nmD (bs xn))) ∧ ∃ q' : KeptT W1, w' = q'.at) fun e w' h => ⟨h.1, q.on h.2⟩
      have hT := fun q : KeptT W1 => (refText_any (bs xt) q.at (by omega)).mono (R' := fun e w' => e = .returned (.bool (txD xt)) ∧ ∃ q' : KeptT W1, w' = q'.at) fun e w' h => ⟨h.1, q.on h.2⟩
      generalize nmD (bs xn) = q1n at *
      generalize txD xt = q2n at *
      have HAN := Lib.hid hN
      have HAT := Lib.hid hT
      have HM2 := Lib.hid hM
      have hk0 : (0 : Int) ≤ (k : Int) := by omega
      have hk1 : (k : Int) < (t.ats.length : Int) := by omega
      clear hN hT hM HM hx c0 c1 hkb hsn2 hsx2
      cases q1n with
      | false =>
       have HX := show A = false by rw [← HM2.out]; rfl
       have HXH := Lib.hid HX
       clear HX
       go_wp2_with fail
       refine wp_region_kept (KeptT W1) KeptT.at (by kernel_rfl) (by kernel_rfl) (q1.on (Below.refl _ _).drew) ?_
       repeat (go_big_quiet_step (first
        | (go_at_call 50; rename_i q; exact HAN.out q)
        | (go_at_call 51; rename_i q; exact HAT.out q)))
       refine wpQuiet_nil ?_
       rintro w' ⟨q, rfl⟩
       go_wp2_with fail
       go_ret
       have HX := HXH.out
       exact ⟨by rw [HR.out, HD8.out, HX]; simp, by first | exact HUP.out _ | (rw [HB.out]; exact HUP.out _)⟩
      | true =>
       cases q2n with
       | false =>
        have HXH := Lib.hid (show A = false by rw [← HM2.out]; rfl)
        go_wp2_with fail
        refine wp_region_kept (KeptT W1) KeptT.at (by kernel_rfl) (by kernel_rfl) (q1.on (Below.refl _ _).drew) ?_
        repeat (go_big_quiet_step (first
         | (go_at_call 50; rename_i q; exact HAN.out q)
         | (go_at_call 51; rename_i q; exact HAT.out q)))
        refine wpQuiet_nil ?_
        rintro w' ⟨q, rfl⟩
        go_wp2_with fail
        go_ret
        have HX := HXH.out
        exact ⟨by rw [HR.out, HD8.out, HX]; simp, by first | exact HUP.out _ | (rw [HB.out]; exact HUP.out _)⟩
       | true =>
        by_cases hkz : k = 0
        ·subst hkz
         simp only [Nat.zero_mul, Nat.add_zero] at a0 a1
         have HT2 := Lib.hid (show atsK (lastN t.ats (0 + 1)) (t.ats.drop (0 + 1)) = A by rw [← HM2.out]; rfl)
         go_wp2_with fail
         refine wp_region_kept (KeptT W1) KeptT.at (by kernel_rfl) (by kernel_rfl) (q1.on (Below.refl _ _).drew) ?_
         repeat (go_big_quiet_step (first
          | (go_at_call 50; rename_i q; exact HAN.out q)
          | (go_at_call 51; rename_i q; exact HAT.out q)))
         refine wpQuiet_nil ?_
         rintro w' ⟨q, rfl⟩
         go_wp2_with fail
         go_roundw
         case rel => exact ⟨0 + 1, by go_num, hlt, HT2, q, rfl⟩
         case measure => simp [RowKit.intOf]; omega
        ·obtain ⟨j, rfl⟩ : ∃ j, k = j + 1 := ⟨k - 1, by omega⟩
         obtain ⟨g2, off2, he2, _, c0, _⟩ := HATS.out.reads j (by omega)
         cases he2
         have hkb2 := fun q : KeptT W1 => (HUP.out q).block g hgl
         have zp : ∀ q : KeptT W1, q.at.cell? ⟨g, off + j * 2, none⟩ = some (.string (bs t.ats[j].1)) := fun q => (cell_of_block (hkb2 q) _).trans c0
         have hd : (t.ats.getD j ([], [])).1 = t.ats[j].1 := by rw [List.getD_eq_getElem?_getD, List.getElem?_eq_getElem (by omega)]; rfl
         have hM3 := HM2.out
         rw [if_neg hkz, Nat.add_sub_cancel, hd, Bool.true_and, Bool.true_and] at hM3
         generalize t.ats[j].1 = pn at *
         have HM3 := Lib.hid hM3
         have hs1 : IntKind.i64.wrap (((j + 1 : Nat) : Int) - 1) = (j : Int) := by rw [IntWalk.i64_in _ (by omega)]; omega
         have hj0 : (0 : Int) ≤ (j : Int) := by omega
         have hj1 : (j : Int) < (t.ats.length : Int) := by omega
         have hj2 : (0 : Int) < ((j + 1 : Nat) : Int) := by omega
         clear hM3 hkb2 c0 hd hkz HM2
         cases hb : Op.bytesLess pn xn with
         | false =>
          have hbl : Op.bytesLess (bs pn).toList (bs xn).toList = false := by rw [bs_tl, bs_tl]; exact hb
          have HXH := Lib.hid (show A = false by rw [← HM3.out, hb]; rfl)
          clear hb
          go_wp2_with fail
          refine wp_region_kept (KeptT W1) KeptT.at (by kernel_rfl) (by kernel_rfl) (q1.on (Below.refl _ _).drew) ?_
          repeat (go_big_quiet_step (first
           | (go_at_call 50; rename_i q; exact HAN.out q)
           | (go_at_call 51; rename_i q; exact HAT.out q)))
          refine wpQuiet_nil ?_
          rintro w' ⟨q, rfl⟩
          go_wp2_with fail
          go_ret
          have HX := HXH.out
          exact ⟨by rw [HR.out, HD8.out, HX]; simp, by first | exact HUP.out _ | (rw [HB.out]; exact HUP.out _)⟩
         | true =>
          have hbl : Op.bytesLess (bs pn).toList (bs xn).toList = true := by rw [bs_tl, bs_tl]; exact hb
          have HT2 := Lib.hid (show atsK (lastN t.ats (j + 1 + 1)) (t.ats.drop (j + 1 + 1)) = A by rw [← HM3.out, hb]; rfl)
          clear hb
          go_wp2_with fail
          refine wp_region_kept (KeptT W1) KeptT.at (by kernel_rfl) (by kernel_rfl) (q1.on (Below.refl _ _).drew) ?_
          repeat (go_big_quiet_step (first
           | (go_at_call 50; rename_i q; exact HAN.out q)
           | (go_at_call 51; rename_i q; exact HAT.out q)))
          refine wpQuiet_nil ?_
          rintro w' ⟨q, rfl⟩
          go_wp2_with fail
          go_roundw
          case rel => exact ⟨j + 1 + 1, by go_num, by omega, HT2, q, rfl⟩
          case measure => simp [RowKit.intOf]; omega
     ·have HXH := Lib.hid (show A = true by rw [← HM.out, List.drop_of_length_le (by omega), atsK_nil])
      have hd : decide (k < t.ats.length) = false := by simpa using hlt
      go_wp2_with fail
      go_ret
      have HX := HXH.out
      exact ⟨by rw [HR.out, HD8.out, HX]; simp, by first | exact HUP.out _ | (rw [HB.out]; exact HUP.out _)⟩
theorem refOne7_any (t : Tr) (va vk : Value) (w : World) (hb : RefB t) (hn : NdOn w (fun b => b < w.heap.size) t va vk) :
  Calls Tryz.prog 29 #[ndV t va vk] w fun e w' => e = .returned (.bool (oneT t)) ∧ Below w.heap.size w w' := by
 obtain ⟨oa, ja, ok, jk, rfl, rfl⟩ := hn.form
 by_cases h2 : t.kd = 2
 ·exact refOne_elem t oa ja ok jk w hb hn.ats h2
 by_cases h4 : t.kd = 4
 ·exact refOne_text t oa ja ok jk w hb h4
 by_cases h5 : t.kd = 5
 ·exact refOne_comment t oa ja ok jk w hb h5
 by_cases h6 : t.kd = 6
 ·exact refOne_pi t oa ja ok jk w hb h6
 ·exact refOne_no t oa ja ok jk w hb h2 h4 h5 h6
end Char
namespace Char
open Go.RowKit Go.Lib
theorem smT.ref {t : Tr} (h : smT 1048576 t) : RefB t := by
 obtain ⟨a, b, c, d, e, _⟩ := smT_def.1 h
 exact ⟨a, b, c, d, e⟩
def rK (d : Nat) : Option Tr → List Tr → Bool
 | _, [] => true
 | none, k :: r => rightT k d && rK d (some k) r
 | some a, k :: r => !(decide (a.kd = 4) && decide (k.kd = 4)) && (rightT k d && rK d (some k) r)
theorem rK_some (d : Nat) : ∀ (l : List Tr) (a : Tr), rK d (some a) l = (!meetN a l && rightK l d)
 | [], a => by rw [rightK]; rfl
 | k :: r, a => by
  rw [rK, rK_some d r k, rightK]
  show _ = (!(decide (a.kd = 4) && decide (k.kd = 4)) && _)
  cases rightT k d <;> cases meetN k r <;> cases rightK r d <;> rfl
theorem rK_none (d : Nat) (l : List Tr) : rK d none l = rightK l d := by
 cases l with
 | nil => rw [rightK]; rfl
 | cons k r =>
  rw [rK, rK_some, rightK]
  cases rightT k d <;> cases meetN k r <;> cases rightK r d <;> rfl
def lastK (ks : List Tr) (k : Nat) : Option Tr := if k = 0 then none else ks[k - 1]?
theorem rK_drop {ks : List Tr} {k d : Nat} (h : k < ks.length) : rK d (lastK ks k) (ks.drop k) = ((if k = 0 then true else !(decide ((ks.getD (k - 1) grd0).kd = 4) && decide (ks[k].kd = 4))) && (rightT ks[k] d && rK d (lastK ks (k + 1)) (ks.drop (k + 1)))) := by
 have e1 : lastK ks (k + 1) = some ks[k] := by
  unfold lastK
  rw [if_neg (by omega), Nat.add_sub_cancel, List.getElem?_eq_getElem h]
 rw [List.drop_eq_getElem_cons h, e1]
 unfold lastK
 by_cases h0 : k = 0
 ·rw [if_pos h0, if_pos h0, rK, Bool.true_and]
 ·rw [if_neg h0, if_neg h0, List.getElem?_eq_getElem (by omega : k - 1 < ks.length), List.getD_eq_getElem?_getD, List.getElem?_eq_getElem (by omega : k - 1 < ks.length), rK]
  rfl
set_option maxRecDepth 100000 in
set_option maxHeartbeats 8000000 in
theorem refRight_any : ∀ (c : Nat) (t : Tr) (va vk : Value) (w : World) (d : Nat), cntT t ≤ c → NdOn w (fun b => b < w.heap.size) t va vk → smT 1048576 t → d ≤ 12 → c ≤ 1000000 →
  Calls Tryz.prog 20 #[ndV t va vk, .int .i64 (d : Int)] w fun e w' => e = .returned (.bool (rightT t d)) ∧ Below w.heap.size w w' := by
 intro c
 induction c with
 | zero => intro t va vk w d hc; have := cntT_pos t; omega
 | succ c ih =>
  intro t va vk w d hc hn hs hd hm
  obtain ⟨oa, ja, ok, jk, rfl, rfl⟩ := hn.form
  have HN := Lib.hid hn
  have HIH := Lib.hid ih
  have HSM := Lib.hid hs
  obtain ⟨w1, hw1⟩ : ∃ w1, w1 = w.alloc (.cells #[.int .i64 t.kd, .string (bs t.nm), .string (bs t.tx), .slice oa t.ats.length ja, .slice ok t.ks.length jk] 25) := ⟨_, rfl⟩
  have b1 : Below w.heap.size w w1 := by rw [hw1]; exact (Below.refl _ _).alloc (Nat.le_refl _) _
  have s1 : w1.heap.size = w.heap.size + 1 := by rw [hw1]; simp
  have hbk : w1.heap[w.heap.size]? = some (.cells #[.int .i64 t.kd, .string (bs t.nm), .string (bs t.tx), .slice oa t.ats.length ja, .slice ok t.ks.length jk] 25 (0, 0)) := by rw [hw1]; exact World.alloc_heap_new w _
  have hcl : ∀ W, Below w1.heap.size w1 W → W.cell? ⟨w.heap.size, 4, none⟩ = some (.slice ok t.ks.length jk) := fun W hW => by
   have h := (hW.block w.heap.size (by omega)).trans hbk
   simp [World.cell?, h]
  have hone := refOne7_any t _ _ w1 hs.ref (hn.move (fun b hb _ => ⟨by omega, b1.block b hb⟩))
  unfold ndV at hone
  rw [hw1] at hone
  have HONE := Lib.hid hone
  have HCL := Lib.hid hcl
  have HB1 := Lib.hid b1
  have HW1 := Lib.hid hw1
  have hcn := cnt_eq t
  have hkl : t.ks.length ≤ 1048576 := (smT_def.1 hs).2.2.2.2.1
  clear hn ih hbk hcl b1 hone hs
  have HRD := Lib.hid (rightT_def t d)
  unfold ndV
  by_cases hA : t.kd = 2 ∧ 12 ≤ d
  ·obtain ⟨h2, h12⟩ := hA
   have k2 : (t.kd == 2) = true := by simp [h2]
   have h12' : (12 : Int) ≤ (d : Int) := by omega
   have HR := Lib.hid (show rightT t d = false by rw [HRD.out, decide_eq_true h2, decide_eq_true h12]; rfl)
   clear h2 hw1
   go_enter Tryz.func20, Tryz.ntmps20
   go_wp2_with fail
   go_ret
   rw [← HW1.out]
   exact ⟨by rw [HR.out]; rfl, HB1.out⟩
  ·have hA2 : (decide (t.kd = 2) && decide (12 ≤ d)) = false := by
    rw [Bool.and_eq_false_iff]
    by_cases h2 : t.kd = 2
    ·exact .inr (decide_eq_false (fun h => hA ⟨h2, h⟩))
    ·exact .inl (decide_eq_false h2)
   have HRD2 := Lib.hid (show rightT t d = (oneT t && rightK t.ks (d + 1)) by rw [HRD.out, hA2]; rfl)
   have hguard : ((t.kd == 2) = true ∧ decide ((12 : Int) ≤ (d : Int)) = false) ∨ (t.kd == 2) = false := by
    by_cases h2 : t.kd = 2
    ·exact .inl ⟨by simp [h2], decide_eq_false (fun h => hA ⟨h2, by omega⟩)⟩
    ·exact .inr (by simp [h2])
   have hd11 : oneT t = true → t.ks ≠ [] → d < 12 := fun h1 hk => by
    by_cases h2 : t.kd = 2
    ·exact Nat.lt_of_not_le (fun h => hA ⟨h2, h⟩)
    ·exact absurd (one_leaf h2 h1).2 hk
   have HD11 := Lib.hid hd11
   generalize hone : oneT t = q at *
   clear hA hA2 hone hd11 HRD hw1
   rcases hguard with ⟨k2, k12⟩ | k2
   all_goals
    cases q with
    | false =>
     go_enter Tryz.func20, Tryz.ntmps20
     go_wp2_with (go_at_call 29; refine HONE.out.mono ?_; rintro e w2 ⟨rfl, hb2⟩)
     go_ret
     rw [← HW1.out] at hb2
     exact ⟨by rw [HRD2.out]; rfl, HB1.out.trans (hb2.mono (by omega))⟩
    | true =>
     go_enter Tryz.func20, Tryz.ntmps20
     go_wp2_with (go_at_call 29; refine HONE.out.mono ?_; rintro e w2 ⟨rfl, hb2⟩)
     rw [← HW1.out] at hb2
     obtain ⟨A, hA⟩ : ∃ A, rightK t.ks (d + 1) = A := ⟨_, rfl⟩
     have HRA := Lib.hid (show rightT t d = A by rw [HRD2.out, hA]; rfl)
     have H0 := Lib.hid (show rK (d + 1) (lastK t.ks 0) (t.ks.drop 0) = A by rw [← hA]; exact rK_none _ _)
     have HB2 := Lib.hid hb2
     clear hA hb2
     go_loopw [5] (fun v wr => ∃ k : Nat, v = .int .i64 (k : Int) ∧ k ≤ t.ks.length ∧ Hid (rK (d + 1) (lastK t.ks k) (t.ks.drop k) = A) ∧ Hid (Below w1.heap.size w1 wr)) (fun v _ => t.ks.length - (RowKit.intOf v).toNat)
     case atStart => exact ⟨0, rfl, Nat.zero_le _, H0, HB2⟩
     case round =>
      obtain ⟨k, rfl, hk, HM, HBR⟩ := hrel
      have hq4 := HCL.out _ HBR.out
      by_cases hlt : k < t.ks.length
      ·have hd12 := HD11.out trivial (by intro e; rw [e] at hlt; cases hlt)
       obtain ⟨o9, i9, j9, hv9, hi9, hkids⟩ := HN.out.kids
       simp only [Value.slice.injEq] at hv9
       obtain ⟨rfl, hi8, rfl⟩ := hv9
       clear hi8 hi9
       rcases hkids with h0 | ⟨g, off, rfl, hg, hK⟩
       ·rw [h0] at hlt; cases hlt
       have hb0 : Below w.heap.size w wr := HB1.out.trans (HBR.out.mono (by omega))
       obtain ⟨va, vk, hat, hon⟩ := hK.at k hlt
       have hgl : g < w.heap.size := cell_lt hat.1
       obtain ⟨a0, a1, a2, a3, a4⟩ := hat.move (hb0.block g hgl)
       have hc3 := cntK_at t.ks k hlt
       have hon2 : NdOn wr (fun b => b < wr.heap.size) t.ks[k] va vk := hon.move (fun b hb _ => ⟨Nat.lt_of_lt_of_le hb hb0.size, hb0.block b hb⟩)
       have hc2 := HIH.out t.ks[k] va vk wr (d + 1) (by omega) hon2 (smK_at (smT_def.1 HSM.out).2.2.2.2.2 k hlt) (by omega) (by omega)
       have hM := HM.out
       rw [rK_drop hlt] at hM
       have hprev : ∀ j, k = j + 1 → ∃ pk : Int, (t.ks.getD j grd0).kd = pk ∧ wr.cell? ⟨g, off + j * 5, none⟩ = some (.int .i64 pk) := fun j hj => by
        obtain ⟨_, _, hat2, _⟩ := hK.at j (by omega)
        refine ⟨t.ks[j].kd, by rw [List.getD_eq_getElem?_getD, List.getElem?_eq_getElem (by omega)]; rfl, (cell_of_block (hb0.block g hgl) _).trans hat2.1⟩
       generalize t.ks[k] = kid at *
       obtain ⟨oa', ja', ok', jk', rfl, rfl⟩ := hon.form
       unfold ndV at hc2
       rw [show ((d + 1 : Nat) : Int) = (d : Int) + 1 by push_cast; rfl] at hc2
       generalize rightT kid (d + 1) = r at *
       have HC2 := Lib.hid hc2
       have HM2 := Lib.hid hM
       have hk0 : (0 : Int) ≤ (k : Int) := by omega
       have hk1 : (k : Int) < (t.ks.length : Int) := by omega
       have hwd : IntKind.i64.wrap ((d : Int) + 1) = (d : Int) + 1 := IntWalk.i64_in _ (by omega)
       clear hc2 hon hon2 hat hK hM HM hcn hc3
       by_cases hkz : k = 0
       ·subst hkz
        simp only [Nat.zero_mul, Nat.add_zero] at a0 a1 a2 a3 a4
        cases r with
        | false =>
         have HX := Lib.hid (show A = false by rw [← HM2.out]; simp)
         go_wp2_with (go_at_call 20; refine HC2.out.mono ?_; rintro e w4 ⟨rfl, hb4⟩)
         go_ret
         exact ⟨by rw [HRA.out, HX.out]; rfl, hb0.trans (hb4.mono hb0.size)⟩
        | true =>
         have HT2 := Lib.hid (show rK (d + 1) (lastK t.ks (0 + 1)) (t.ks.drop (0 + 1)) = A by rw [← HM2.out]; simp)
         go_wp2_with (go_at_call 20; refine HC2.out.mono ?_; rintro e w4 ⟨rfl, hb4⟩)
         go_roundw
         case rel => exact ⟨0 + 1, by go_num, by omega, HT2, Lib.hid (HBR.out.trans (hb4.mono HBR.out.size))⟩
         case measure => simp [RowKit.intOf]; omega
       ·obtain ⟨j, rfl⟩ : ∃ j, k = j + 1 := ⟨k - 1, by omega⟩
        obtain ⟨pk, hpk, hpc⟩ := hprev j rfl
        have hM3 := HM2.out
        rw [if_neg hkz, Nat.add_sub_cancel, hpk] at hM3
        have hs1 : IntKind.i64.wrap (((j + 1 : Nat) : Int) - 1) = (j : Int) := by rw [IntWalk.i64_in _ (by omega)]; omega
        have hj0 : (0 : Int) ≤ (j : Int) := by omega
        have hj1 : (j : Int) < (t.ks.length : Int) := by omega
        have hj2 : (0 : Int) < ((j + 1 : Nat) : Int) := by omega
        clear HM2 hprev hpk hkz
        by_cases h4 : kid.kd = 4
        ·have p4 : (kid.kd == 4) = true := by simp [h4]
         by_cases q4 : pk = 4
         ·have p5 : (pk == 4) = true := by simp [q4]
          have HX := Lib.hid (show A = false by rw [← hM3, decide_eq_true h4, decide_eq_true q4]; rfl)
          clear hM3 h4 q4
          go_wp2_with fail
          go_ret
          exact ⟨by rw [HRA.out, HX.out]; rfl, hb0⟩
         ·have p5 : (pk == 4) = false := by simp [q4]
          have HM2 := Lib.hid hM3
          have HQ4 := Lib.hid (decide_eq_false q4)
          clear hM3 h4 q4
          cases r with
          | false =>
           have HX := Lib.hid (show A = false by rw [← HM2.out]; rw [HQ4.out]; simp)
           go_wp2_with (go_at_call 20; refine HC2.out.mono ?_; rintro e w4 ⟨rfl, hb4⟩)
           go_ret
           exact ⟨by rw [HRA.out, HX.out]; rfl, hb0.trans (hb4.mono hb0.size)⟩
          | true =>
           have HT2 := Lib.hid (show rK (d + 1) (lastK t.ks (j + 1 + 1)) (t.ks.drop (j + 1 + 1)) = A by rw [← HM2.out]; rw [HQ4.out]; simp)
           go_wp2_with (go_at_call 20; refine HC2.out.mono ?_; rintro e w4 ⟨rfl, hb4⟩)
           go_roundw
           case rel => exact ⟨j + 1 + 1, by go_num, by omega, HT2, Lib.hid (HBR.out.trans (hb4.mono HBR.out.size))⟩
           case measure => simp [RowKit.intOf]; omega
        ·have p4 : (kid.kd == 4) = false := by simp [h4]
         have HM2 := Lib.hid hM3
         have HQ4 := Lib.hid (decide_eq_false h4)
         clear hM3 h4
         cases r with
         | false =>
          have HX := Lib.hid (show A = false by rw [← HM2.out]; rw [HQ4.out]; simp)
          go_wp2_with (go_at_call 20; refine HC2.out.mono ?_; rintro e w4 ⟨rfl, hb4⟩)
          go_ret
          exact ⟨by rw [HRA.out, HX.out]; rfl, hb0.trans (hb4.mono hb0.size)⟩
         | true =>
          have HT2 := Lib.hid (show rK (d + 1) (lastK t.ks (j + 1 + 1)) (t.ks.drop (j + 1 + 1)) = A by rw [← HM2.out]; rw [HQ4.out]; simp)
          go_wp2_with (go_at_call 20; refine HC2.out.mono ?_; rintro e w4 ⟨rfl, hb4⟩)
          go_roundw
          case rel => exact ⟨j + 1 + 1, by go_num, by omega, HT2, Lib.hid (HBR.out.trans (hb4.mono HBR.out.size))⟩
          case measure => simp [RowKit.intOf]; omega
      ·have HT := Lib.hid (show A = true by rw [← HM.out, List.drop_of_length_le (by omega)]; cases lastK t.ks k <;> rfl)
       have hb0 : Below w.heap.size w wr := HB1.out.trans (HBR.out.mono (by omega))
       go_wp2_with fail
       go_ret
       exact ⟨by rw [HRA.out, HT.out]; rfl, hb0⟩
set_option maxRecDepth 100000 in
set_option maxHeartbeats 4000000 in
theorem refRights_any (t : Tr) (va vk : Value) (w : World) (hc : cntT t ≤ 2000) (hz : szT t < 2 ^ 63) (hn : NdOn w (fun b => b < w.heap.size) t va vk) (hs : smT 1048576 t) :
  Calls Tryz.prog 11 #[ndV t va vk] w fun e w' => e = .returned (.bool (rightD t)) ∧ Below w.heap.size w w' := by
 obtain ⟨oa, ja, ok, jk, rfl, rfl⟩ := hn.form
 obtain ⟨B, hB⟩ : ∃ B, B = w.heap.size := ⟨_, rfl⟩
 obtain ⟨W1, hW1⟩ : ∃ W1, W1 = w.alloc (.cells #[.int .i64 t.kd, .string (bs t.nm), .string (bs t.tx), .slice oa t.ats.length ja, .slice ok t.ks.length jk] 25) := ⟨_, rfl⟩
 have hb1 : Below w.heap.size w W1 := by rw [hW1]; exact (Below.refl _ _).alloc (Nat.le_refl _) _
 have hbk1 : W1.heap[B]? = some (.cells #[.int .i64 t.kd, .string (bs t.nm), .string (bs t.tx), .slice oa t.ats.length ja, .slice ok t.ks.length jk] 25 (0, 0)) := by rw [hW1, hB]; exact World.alloc_heap_new w _
 have hBl := block_of_heap hbk1
 have hbq : ∀ q : KeptT W1, q.at.heap[B]? = some (.cells #[.int .i64 t.kd, .string (bs t.nm), .string (bs t.tx), .slice oa t.ats.length ja, .slice ok t.ks.length jk] 25 (0, 0)) := fun q => (q.ok.block B hBl).trans hbk1
 have z0 : ∀ q : KeptT W1, q.at.cell? ⟨B, 0, none⟩ = some (.int .i64 t.kd) := fun q => by simp [World.cell?, hbq q]
 have z1 : ∀ q : KeptT W1, q.at.cell? ⟨B, 1, none⟩ = some (.string (bs t.nm)) := fun q => by simp [World.cell?, hbq q]
 have z2 : ∀ q : KeptT W1, q.at.cell? ⟨B, 2, none⟩ = some (.string (bs t.tx)) := fun q => by simp [World.cell?, hbq q]
 have z3 : ∀ q : KeptT W1, q.at.cell? ⟨B, 3, none⟩ = some (.slice oa t.ats.length ja) := fun q => by simp [World.cell?, hbq q]
 have z4 : ∀ q : KeptT W1, q.at.cell? ⟨B, 4, none⟩ = some (.slice ok t.ks.length jk) := fun q => by simp [World.cell?, hbq q]
 have hup : ∀ q : KeptT W1, Below w.heap.size w q.at := fun q => hb1.trans (q.ok.mono hb1.size)
 obtain ⟨q0, hq0⟩ : ∃ q0 : KeptT W1, W1 = q0.at := ⟨⟨W1, Below.refl _ _⟩, rfl⟩
 have hon : ∀ q : KeptT W1, NdOn q.at (fun b => b < q.at.heap.size) t (.slice oa t.ats.length ja) (.slice ok t.ks.length jk) := fun q => hn.move (fun b hb _ => ⟨Nat.lt_of_lt_of_le hb (hup q).size, (hup q).block b hb⟩)
 have hrt : ∀ q : KeptT W1, Calls Tryz.prog 20 #[.agg #[.int .i64 t.kd, .string (bs t.nm), .string (bs t.tx), .slice oa t.ats.length ja, .slice ok t.ks.length jk], .int .i64 0] q.at fun e w' => e = .returned (.bool (rightT t 0)) ∧ ∃ q' : KeptT W1, w' = q'.at := fun q => (refRight_any 2000 t _ _ q.at 0 hc (hon q) hs (by omega) (by omega)).mono fun e w' h => ⟨h.1, q.on h.2⟩
 have hsz : ∀ q : KeptT W1, Calls Tryz.prog 21 #[.agg #[.int .i64 t.kd, .string (bs t.nm), .string (bs t.tx), .slice oa t.ats.length ja, .slice ok t.ks.length jk]] q.at fun e w' => e = .returned (.int .i64 (szT t : Int)) ∧ ∃ q' : KeptT W1, w' = q'.at := fun q => (refSize_any 2000 t _ _ q.at _ hc (hon q) hz (by omega)).mono fun e w' h => ⟨h.1, q.on h.2⟩
 have HRT := Lib.hid hrt
 have HSZ := Lib.hid hsz
 have HUP := Lib.hid hup
 have HW1 := Lib.hid (hW1.symm.trans hq0)
 have HB := Lib.hid hB
 have HR := Lib.hid (show rightD t = (decide (t.kd = 2) && rightT t 0 && decide (szT t ≤ 120)) from rfl)
 clear hW1 hb1 hbk1 hBl hbq hq0 hB hn hs hup hon hrt hsz hc
 generalize rightT t 0 = r at *
 generalize szT t = m at *
 unfold ndV
 by_cases h2 : t.kd = 2
 ·have k2 : (t.kd == 2) = true := by simp [h2]
  have HK := Lib.hid (decide_eq_true h2)
  clear h2
  cases r with
  | false =>
   go_enter Tryz.func11, Tryz.ntmps11
   go_wp2_with fail
   rw [← HB.out, HW1.out]
   go_wp2_with (first | (go_at_call 20; (with_reducible refine (HRT.out _).mono ?_); rintro e _ ⟨rfl, q, rfl⟩) | (go_at_call 21; (with_reducible refine (HSZ.out _).mono ?_); rintro e _ ⟨rfl, q, rfl⟩))
   go_ret
   exact ⟨by rw [HR.out]; simp, by first | exact HUP.out _ | (rw [HB.out]; exact HUP.out _)⟩
  | true =>
   by_cases hm : m ≤ 120
   ·have hm' : decide ((m : Int) ≤ 120) = true := decide_eq_true (by omega)
    have HM := Lib.hid (decide_eq_true hm)
    clear hm
    go_enter Tryz.func11, Tryz.ntmps11
    go_wp2_with fail
    rw [← HB.out, HW1.out]
    go_wp2_with (first | (go_at_call 20; (with_reducible refine (HRT.out _).mono ?_); rintro e _ ⟨rfl, q, rfl⟩) | (go_at_call 21; (with_reducible refine (HSZ.out _).mono ?_); rintro e _ ⟨rfl, q, rfl⟩))
    go_ret
    exact ⟨by rw [HR.out, HK.out, HM.out]; simp, by first | exact HUP.out _ | (rw [HB.out]; exact HUP.out _)⟩
   ·have hm' : decide ((m : Int) ≤ 120) = false := decide_eq_false (by omega)
    have HM := Lib.hid (decide_eq_false hm)
    clear hm
    go_enter Tryz.func11, Tryz.ntmps11
    go_wp2_with fail
    rw [← HB.out, HW1.out]
    go_wp2_with (first | (go_at_call 20; (with_reducible refine (HRT.out _).mono ?_); rintro e _ ⟨rfl, q, rfl⟩) | (go_at_call 21; (with_reducible refine (HSZ.out _).mono ?_); rintro e _ ⟨rfl, q, rfl⟩))
    go_ret
    exact ⟨by rw [HR.out, HK.out, HM.out]; simp, by first | exact HUP.out _ | (rw [HB.out]; exact HUP.out _)⟩
 ·have k2 : (t.kd == 2) = false := by simp [h2]
  have HK := Lib.hid (decide_eq_false h2)
  clear h2
  go_enter Tryz.func11, Tryz.ntmps11
  go_wp2_with fail
  rw [← HB.out, HW1.out]
  go_wp2_with (first | (go_at_call 20; (with_reducible refine (HRT.out _).mono ?_); rintro e _ ⟨rfl, q, rfl⟩) | (go_at_call 21; (with_reducible refine (HSZ.out _).mono ?_); rintro e _ ⟨rfl, q, rfl⟩))
  go_ret
  exact ⟨by rw [HR.out, HK.out]; simp, by first | exact HUP.out _ | (rw [HB.out]; exact HUP.out _)⟩
end Char
end Go.Proofs.YtlmodgnkmlbjhaaGreatDoor
