import Derived.Test.YtlmodgnkmlbjhaaGreatDoorPkRtM
import Derived.Test.YtlmodgnkmlbjhaaGreatDoorPkFew
import Derived.Test.YtlmodgnkmlbjhaaGreatDoorPkScanS
import Derived.Test.YtlmodgnkmlbjhaaGreatDoorPkIs
import Derived.WalkLawsBesides
import Derived.Test.YtlmodgnkmlbjhaaGreatDoorPkIns
import Derived.Test.YtlmodgnkmlbjhaaGreatDoorPkShelf
import Derived.Test.YtlmodgnkmlbjhaaGreatDoorPkNm
namespace Go.Proofs.YtlmodgnkmlbjhaaGreatDoor
set_option maxHeartbeats 16000000
set_option maxRecDepth 100000
namespace Char
open Go.RowKit Go.Lib
theorem childless_any (t : Tr) (oa : Option Addr) (ja : Nat) (ok : Option Addr) (jk : Nat) (w : World) :
  Calls Tryz.prog 40 #[.agg #[.int .i64 t.kd, .string (bs t.nm), .string (bs t.tx), .slice oa t.ats.length ja, .slice ok t.ks.length jk]] w fun e w' => e = .returned (.bool (chlT t)) ∧ Below w.heap.size w w' := by
 obtain ⟨Q, hQ⟩ : ∃ Q, chlT t = Q := ⟨_, rfl⟩
 rw [hQ]
 have HQ := hid hQ
 clear hQ
 by_cases ha : t.ats.length = 0
 ·have k1 : ((t.ats.length : Int) == 0) = true := by rw [beq_iff_eq]; omega
  by_cases hk : t.ks.length = 0
  ·have k2 : ((t.ks.length : Int) == 0) = true := by rw [beq_iff_eq]; omega
   have hq : Q = true := by
    rw [← HQ.out]
    unfold chlT
    rw [List.eq_nil_of_length_eq_zero ha, List.eq_nil_of_length_eq_zero hk]
    rfl
   have HQ2 := hid hq
   clear ha hk hq
   go_enter Tryz.func40, Tryz.ntmps40
   go_wp2_with fail
   go_ret
   exact ⟨by rw [HQ2.out]; rfl, (Below.refl _ _).alloc (Nat.le_refl _) _⟩
  ·have k2 : ((t.ks.length : Int) == 0) = false := by rw [beq_eq_false_iff_ne]; omega
   have hq : Q = false := by
    rw [← HQ.out]
    unfold chlT
    cases hx : t.ks with
    | nil => rw [hx] at hk; exact absurd rfl hk
    | cons _ _ => simp
   have HQ2 := hid hq
   clear ha hk hq
   go_enter Tryz.func40, Tryz.ntmps40
   go_wp2_with fail
   go_ret
   exact ⟨by rw [HQ2.out]; rfl, (Below.refl _ _).alloc (Nat.le_refl _) _⟩
 ·have k1 : ((t.ats.length : Int) == 0) = false := by rw [beq_eq_false_iff_ne]; omega
  have hq : Q = false := by
   rw [← HQ.out]
   unfold chlT
   cases hx : t.ats with
   | nil => rw [hx] at ha; exact absurd rfl ha
   | cons _ _ => rfl
  have HQ2 := hid hq
  clear ha hq
  go_enter Tryz.func40, Tryz.ntmps40
  go_wp2_with fail
  go_ret
  exact ⟨by rw [HQ2.out]; rfl, (Below.refl _ _).alloc (Nat.le_refl _) _⟩
theorem kids_kd {w : World} {F : Nat → Prop} {o : Option Addr} {j : Nat} {ks : List Tr} (h : ∃ o' i' j', (Value.slice o ks.length j) = .slice o' i' j' ∧ i' = ks.length ∧ (ks = [] ∨ ∃ g off, o' = some ⟨g, off, none⟩ ∧ F g ∧ KsOn w F g off ks)) (k : Nat) (hk : k < ks.length) :
  ∃ g off, o = some ⟨g, off, none⟩ ∧ w.cell? ⟨g, off + k * 5, none⟩ = some (.int .i64 ks[k].kd) := by
 obtain ⟨o', i', j', e1, e2, e3⟩ := h
 cases e1
 rcases e3 with e3 | ⟨g, off, e4, _, e6⟩
 ·rw [e3] at hk; cases hk
 ·obtain ⟨_, _, hat, _⟩ := e6.at k hk
  exact ⟨g, off, e4, hat.1⟩
theorem meetK_drop {ks : List Tr} {k : Nat} (h : k + 1 < ks.length) : meetK (ks.drop k) = ((decide (ks[k].kd = 4) && decide (ks[k + 1].kd = 4)) || meetK (ks.drop (k + 1))) := by
 rw [List.drop_eq_getElem_cons (by omega : k < ks.length), meetK, List.drop_eq_getElem_cons h]
 rfl
theorem meetK_end {ks : List Tr} {k : Nat} (h : ks.length ≤ k + 1) : meetK (ks.drop k) = false := by
 by_cases hk : k < ks.length
 ·rw [List.drop_eq_getElem_cons hk, List.drop_of_length_le h]
  rfl
 ·rw [List.drop_of_length_le (by omega)]
  rfl
theorem textsMeet_any (ks : List Tr) (F : Nat → Prop) (o : Option Addr) (j : Nat) (w : World) (hl : ks.length ≤ 2 ^ 62) (hk : ∃ o' i' j', (Value.slice o ks.length j) = .slice o' i' j' ∧ i' = ks.length ∧ (ks = [] ∨ ∃ g off, o' = some ⟨g, off, none⟩ ∧ F g ∧ KsOn w F g off ks)) :
  Calls Tryz.prog 39 #[.slice o ks.length j] w fun e w' => e = .returned (.bool (meetK ks)) ∧ w = w' := by
 obtain ⟨Q, hQ⟩ : ∃ Q, meetK ks = Q := ⟨_, rfl⟩
 rw [hQ]
 have HQ := hid hQ
 have HK := hid hk
 clear hQ hk
 go_enter Tryz.func39, Tryz.ntmps39
 go_wp2_with fail
 go_loop [3] (fun v => ∃ k : Nat, v = .int .i64 ((k + 1 : Nat) : Int) ∧ k ≤ ks.length ∧ Hid (meetK (ks.drop k) = Q)) (fun v => ks.length + 1 - (RowKit.intOf v).toNat)
 case atStart => exact ⟨0, rfl, Nat.zero_le _, HQ⟩
 case round =>
  obtain ⟨k, rfl, hk, HM⟩ := hrel
  have hs1 : IntKind.i64.wrap (((k + 1 : Nat) : Int) - 1) = (k : Int) := by rw [IntWalk.i64_in _ (by omega)]; omega
  by_cases hlt : k + 1 < ks.length
  ·obtain ⟨g, off, rfl, c0⟩ := kids_kd HK.out k (by omega)
   obtain ⟨g', off', he, c1⟩ := kids_kd HK.out (k + 1) hlt
   cases he
   have hM := HM.out
   rw [meetK_drop hlt] at hM
   generalize ks[k].kd = a at *
   generalize ks[k + 1].kd = b at *
   have HM2 := hid hM
   clear hM HM
   by_cases ha : a = 4
   ·have ka : (a == 4) = true := by simp [ha]
    by_cases hb : b = 4
    ·have kb : (b == 4) = true := by simp [hb]
     have HT := hid (show Q = true by rw [← HM2.out, decide_eq_true ha, decide_eq_true hb]; rfl)
     clear ha hb
     go_wp2_with fail
     go_ret
     exact ⟨by rw [HT.out]; rfl, rfl⟩
    ·have kb : (b == 4) = false := by simp [hb]
     have HT := hid (show meetK (ks.drop (k + 1)) = Q by rw [← HM2.out, decide_eq_false hb, Bool.and_false, Bool.false_or])
     clear ha hb
     go_wp2_with fail
     go_round
     case rel => exact ⟨k + 1, by go_num, by omega, HT⟩
     case measure => simp [RowKit.intOf]; omega
   ·have ka : (a == 4) = false := by simp [ha]
    have HT := hid (show meetK (ks.drop (k + 1)) = Q by rw [← HM2.out, decide_eq_false ha, Bool.false_and, Bool.false_or])
    clear ha
    go_wp2_with fail
    go_round
    case rel => exact ⟨k + 1, by go_num, by omega, HT⟩
    case measure => simp [RowKit.intOf]; omega
  ·have HT := hid (show Q = false by rw [← HM.out]; exact meetK_end (by omega))
   clear HM
   go_wp2_with fail
   go_ret
   exact ⟨by rw [HT.out]; rfl, rfl⟩
theorem spcL_pos (l : List UInt8) : spcL l = 0 ↔ spH l = false := by
 cases l with
 | nil => simp [spH, spcL]
 | cons c r =>
  rw [spc_cons]
  show _ ↔ spC (c.toNat : Int) = false
  cases spC (c.toNat : Int) <;> simp
theorem spaceAhead_any (l : List UInt8) (w : World) :
  Calls Tryz.prog 45 #[.string (bs l)] w fun e w' => e = .returned (.bool (spH l)) ∧ Below w.heap.size w w' := by
 have hC := Any.strings_TrimLeftFunc_grows layTrimL 77 #[] (enters_of Tryz.func77 (by kernel_rfl) rfl) (fun r => spC (r : Int)) (bs l) w (space_pred w)
 have he : trimLeftF (fun r => spC (r : Int)) (bs l) = bs (l.drop (spcL l)) := by
  rw [← bs_of (trimLeftF (fun r => spC (r : Int)) (bs l)), trimLeft_eq, spc_tl]
  rfl
 rw [he] at hC
 have hC2 : Calls Tryz.prog 76 #[.string (bs l), .func (.func 77) #[] #[]] w fun e w' => e = .returned (.string (bs (l.drop (spcL l)))) ∧ Below w.heap.size w w' := hC
 obtain ⟨Q, hQ⟩ : ∃ Q, spH l = Q := ⟨_, rfl⟩
 rw [hQ]
 have hle := spc_le l
 have hk : ((bs (l.drop (spcL l))).toList == (bs l).toList) = !Q := by
  rw [bs_tl, bs_tl]
  cases Q with
  | false =>
   rw [(spcL_pos l).2 hQ]
   simp
  | true =>
   rw [Bool.not_true, beq_eq_false_iff_ne]
   intro e
   have := congrArg List.length e
   rw [List.length_drop] at this
   have h0 : spcL l ≠ 0 := fun h => by rw [(spcL_pos l).1 h] at hQ; cases hQ
   omega
 have HC := hid hC2
 generalize l.drop (spcL l) = m at *
 have HK := hid hk
 clear hC hC2 he hle hQ hk
 go_enter Tryz.func45, Tryz.ntmps45
 go_wp2_with fail
 refine HC.out.mono ?_
 rintro e w1 ⟨rfl, hb1⟩
 go_wp2_with fail
 go_ret
 refine ⟨?_, hb1⟩
 show Ending.returned (.bool (!((bs m).toList == (bs l).toList))) = _
 rw [HK.out, Bool.not_not]
end Char
namespace Char
open Go.RowKit Go.Lib
def lastN (qs : List At2) (k : Nat) : Option (List UInt8) := if k = 0 then none else some (qs.getD (k - 1) ([], [])).1
theorem atsK_drop {qs : List At2} {k : Nat} (h : k < qs.length) : atsK (lastN qs k) (qs.drop k) = ((nmD (bs qs[k].1) && txD qs[k].2 && (if k = 0 then true else Op.bytesLess (qs.getD (k - 1) ([], [])).1 qs[k].1)) && atsK (lastN qs (k + 1)) (qs.drop (k + 1))) := by
 have e1 : lastN qs (k + 1) = some qs[k].1 := by
  unfold lastN
  rw [if_neg (by omega), Nat.add_sub_cancel, List.getD_eq_getElem?_getD, List.getElem?_eq_getElem h]
  rfl
 rw [List.drop_eq_getElem_cons h, e1]
 unfold lastN
 by_cases h0 : k = 0
 ·rw [if_pos h0, if_pos h0]
  rfl
 ·rw [if_neg h0, if_neg h0]
  rfl
theorem atsK_nil (p : Option (List UInt8)) : atsK p [] = true := by cases p <;> rfl
theorem fitAttrs_any (qs : List At2) (F : Nat → Prop) (oa : Option Addr) (ja : Nat) (w : World) (hl : qs.length ≤ 2 ^ 62) (hs : ∀ a, a ∈ qs → a.1.length ≤ 2 ^ 62 ∧ a.2.length ≤ 2 ^ 62) (ha : AtsOn w F (.slice oa qs.length ja) qs) (hG : Gl6 w) :
  Calls Tryz.prog 38 #[.slice oa qs.length ja] w fun e w' => e = .returned (.bool (atsK none qs && decide (qs.length ≤ 8))) ∧ Below w.heap.size w w' := by
 obtain ⟨Q, hQ⟩ : ∃ Q, atsK none qs = Q := ⟨_, rfl⟩
 rw [hQ]
 have HA := hid ha
 have HG := hid hG
 have H0 := hid (show atsK (lastN qs 0) (qs.drop 0) = Q from hQ)
 have HS := hid hs
 clear ha hG hQ hs
 go_enter Tryz.func38, Tryz.ntmps38
 go_wp2_with fail
 go_loopw [7] (fun v wr => ∃ k : Nat, v = .int .i64 (k : Int) ∧ k ≤ qs.length ∧ Hid (atsK (lastN qs k) (qs.drop k) = Q) ∧ Hid (Below w.heap.size w wr)) (fun v _ => qs.length - (RowKit.intOf v).toNat)
 case atStart => exact ⟨0, rfl, Nat.zero_le _, H0, hid (Below.refl _ _)⟩
 case round =>
  obtain ⟨k, rfl, hk, HM, HB⟩ := hrel
  by_cases hlt : k < qs.length
  ·obtain ⟨g, off, rfl, _, c0, c1⟩ := HA.out.reads k hlt
   have hgl : g < w.heap.size := cell_lt c0
   have hkb := HB.out.block g hgl
   have a0 := (cell_of_block hkb (off + k * 2)).trans c0
   have a1 := (cell_of_block hkb (off + k * 2 + 1)).trans c1
   have hmem := HS.out _ (List.getElem_mem hlt)
   have hM := HM.out
   rw [atsK_drop hlt] at hM
   have hx : ∃ x, qs[k] = x := ⟨_, rfl⟩
   obtain ⟨⟨xn, xt⟩, hx⟩ := hx
   rw [hx] at a0 a1 hmem hM
   dsimp only at hmem hM a0 a1
   have HM2 := hid hM
   clear hM HM hx c0 c1 hkb
   have hN := fun W (hW : Below w.heap.size w W) => chName_any (bs xn) W (by rw [bs_size]; omega) (HG.out.below hW).1.1
   have hT := fun W (hW : Below w.heap.size w W) => text_any (bs xt) W (by rw [bs_size]; omega) (HG.out.below hW).1.1
   generalize nmD (bs xn) = q1 at *
   rw [bs_list] at hT
   generalize txD xt = q2 at *
   have HN := hid hN
   have HT := hid hT
   clear hN hT
   go_wp2_with fail
   obtain ⟨B, hB⟩ : ∃ B, B = wr.heap.size := ⟨_, rfl⟩
   obtain ⟨W1, hW1⟩ : ∃ W1, W1 = wr.alloc (.cells #[.string (bs xn), .string (bs xt)] 40) := ⟨_, rfl⟩
   rw [← hW1, ← hB]
   have hb1 : Below w.heap.size w W1 := by rw [hW1]; exact HB.out.alloc HB.out.size _
   have hbk : W1.heap[B]? = some (.cells #[.string (bs xn), .string (bs xt)] 40 (0, 0)) := by rw [hW1, hB]; exact World.alloc_heap_new wr _
   have hBl := block_of_heap hbk
   have hcl : ∀ W, Below W1.heap.size W1 W → W.cell? ⟨B, 0, none⟩ = some (.string (bs xn)) ∧ W.cell? ⟨B, 1, none⟩ = some (.string (bs xt)) := fun W hW => by
    have h := (hW.block B hBl).trans hbk
    exact ⟨by simp [World.cell?, h], by simp [World.cell?, h]⟩
   have z0 : ∀ q : KeptT W1, q.at.cell? ⟨B, 0, none⟩ = some (.string (bs xn)) := fun q => (hcl q.at q.ok).1
   have z1 : ∀ q : KeptT W1, q.at.cell? ⟨B, 1, none⟩ = some (.string (bs xt)) := fun q => (hcl q.at q.ok).2
   have HB1 := hid hb1
   have HUP := hid (fun q : KeptT W1 => (show Below w.heap.size w q.at from hb1.trans (q.ok.mono hb1.size)))
   clear hW1 hb1 hbk hB a0 a1 HB hcl
   cases q1 with
   | false =>
    refine wp_region_kept (KeptT W1) KeptT.at (by kernel_rfl) (by kernel_rfl) ⟨⟨W1.drew, (Below.refl _ W1).drew⟩, rfl⟩ ?_
    repeat (go_big_quiet_step (first
     | (go_at_call 37; rename_i q; exact (HN.out q.at (HUP.out q)).mono (fun e w' h => ⟨h.1, q.on h.2⟩))
     | (go_at_call 41; rename_i q; exact (HT.out q.at (HUP.out q)).mono (fun e w' h => ⟨h.1, q.on h.2⟩))))
    refine wpQuiet_nil ?_
    rintro w' ⟨q, rfl⟩
    go_wp2_with fail
    go_ret
    exact ⟨by rw [← HM2.out]; rfl, HUP.out q⟩
   | true =>
    cases q2 with
    | false =>
     refine wp_region_kept (KeptT W1) KeptT.at (by kernel_rfl) (by kernel_rfl) ⟨⟨W1.drew, (Below.refl _ W1).drew⟩, rfl⟩ ?_
     repeat (go_big_quiet_step (first
      | (go_at_call 37; rename_i q; exact (HN.out q.at (HUP.out q)).mono (fun e w' h => ⟨h.1, q.on h.2⟩))
      | (go_at_call 41; rename_i q; exact (HT.out q.at (HUP.out q)).mono (fun e w' h => ⟨h.1, q.on h.2⟩))))
     refine wpQuiet_nil ?_
     rintro w' ⟨q, rfl⟩
     go_wp2_with fail
     go_ret
     exact ⟨by rw [← HM2.out]; rfl, HUP.out q⟩
    | true =>
     by_cases hk0 : k = 0
     ·subst hk0
      have HT2 := hid (show atsK (lastN qs (0 + 1)) (qs.drop (0 + 1)) = Q by rw [← HM2.out]; rfl)
      have HO := hid (show (0 : Int) + 1 = ((0 + 1 : Nat) : Int) from rfl)
      refine wp_region_kept (KeptT W1) KeptT.at (by kernel_rfl) (by kernel_rfl) ⟨⟨W1.drew, (Below.refl _ W1).drew⟩, rfl⟩ ?_
      repeat (go_big_quiet_step (first
       | (go_at_call 37; rename_i q; exact (HN.out q.at (HUP.out q)).mono (fun e w' h => ⟨h.1, q.on h.2⟩))
       | (go_at_call 41; rename_i q; exact (HT.out q.at (HUP.out q)).mono (fun e w' h => ⟨h.1, q.on h.2⟩))))
      refine wpQuiet_nil ?_
      rintro w' ⟨q, rfl⟩
      go_wp2_with fail
      go_roundw
      case rel => exact ⟨0 + 1, by go_num, hlt, HT2, hid (HUP.out q)⟩
      case measure => simp [RowKit.intOf]; omega
     ·obtain ⟨j, rfl⟩ : ∃ j, k = j + 1 := ⟨k - 1, by omega⟩
      obtain ⟨g2, off2, he2, _, c0, _⟩ := HA.out.reads j (by omega)
      cases he2
      have hkb2 := fun q : KeptT W1 => (HUP.out q).block g hgl
      have zp : ∀ q : KeptT W1, q.at.cell? ⟨g, off + j * 2, none⟩ = some (.string (bs qs[j].1)) := fun q => (cell_of_block (hkb2 q) _).trans c0
      have hd : (qs.getD j ([], [])).1 = qs[j].1 := by rw [List.getD_eq_getElem?_getD, List.getElem?_eq_getElem (by omega)]; rfl
      have hM3 := HM2.out
      rw [if_neg hk0, Nat.add_sub_cancel, hd, Bool.true_and, Bool.true_and] at hM3
      generalize qs[j].1 = pn at *
      have HM3 := hid hM3
      have hs1 : IntKind.i64.wrap (((j + 1 : Nat) : Int) - 1) = (j : Int) := by rw [IntWalk.i64_in _ (by omega)]; omega
      have hj0 : (0 : Int) ≤ (j : Int) := by omega
      have hj1 : (j : Int) < (qs.length : Int) := by omega
      have hk1 : (0 : Int) < ((j + 1 : Nat) : Int) := by omega
      clear hM3 hkb2 c0 hd hk0 HM2
      cases hb : Op.bytesLess pn xn with
      | false =>
       have hbl : Op.bytesLess (bs pn).toList (bs xn).toList = false := by rw [bs_tl, bs_tl]; exact hb
       have HT2 := hid (show false = Q by rw [← HM3.out, hb]; rfl)
       clear hb
       refine wp_region_kept (KeptT W1) KeptT.at (by kernel_rfl) (by kernel_rfl) ⟨⟨W1.drew, (Below.refl _ W1).drew⟩, rfl⟩ ?_
       repeat (go_big_quiet_step (first
        | (go_at_call 37; rename_i q; exact (HN.out q.at (HUP.out q)).mono (fun e w' h => ⟨h.1, q.on h.2⟩))
        | (go_at_call 41; rename_i q; exact (HT.out q.at (HUP.out q)).mono (fun e w' h => ⟨h.1, q.on h.2⟩))))
       refine wpQuiet_nil ?_
       rintro w' ⟨q, rfl⟩
       go_wp2_with fail
       go_ret
       exact ⟨by rw [← HT2.out]; rfl, HUP.out q⟩
      | true =>
       have hbl : Op.bytesLess (bs pn).toList (bs xn).toList = true := by rw [bs_tl, bs_tl]; exact hb
       have HT2 := hid (show atsK (lastN qs (j + 1 + 1)) (qs.drop (j + 1 + 1)) = Q by rw [← HM3.out, hb]; rfl)
       clear hb
       refine wp_region_kept (KeptT W1) KeptT.at (by kernel_rfl) (by kernel_rfl) ⟨⟨W1.drew, (Below.refl _ W1).drew⟩, rfl⟩ ?_
       repeat (go_big_quiet_step (first
        | (go_at_call 37; rename_i q; exact (HN.out q.at (HUP.out q)).mono (fun e w' h => ⟨h.1, q.on h.2⟩))
        | (go_at_call 41; rename_i q; exact (HT.out q.at (HUP.out q)).mono (fun e w' h => ⟨h.1, q.on h.2⟩))))
       refine wpQuiet_nil ?_
       rintro w' ⟨q, rfl⟩
       go_wp2_with fail
       go_roundw
       case rel => exact ⟨j + 1 + 1, by go_num, by omega, HT2, hid (HUP.out q)⟩
       case measure => simp [RowKit.intOf]; omega
  ·have HT2 := hid (show true = Q by rw [← HM.out, List.drop_of_length_le (by omega), atsK_nil])
   clear HM
   by_cases h8 : qs.length ≤ 8
   ·have h8' : (qs.length : Int) ≤ 8 := by omega
    have HD := hid (decide_eq_true h8)
    clear h8
    go_wp2_with fail
    go_ret
    exact ⟨by rw [← HT2.out, HD.out]; rfl, HB.out⟩
   ·have h8' : ¬ (qs.length : Int) ≤ 8 := by omega
    have HD := hid (decide_eq_false h8)
    clear h8
    go_wp2_with fail
    go_ret
    exact ⟨by rw [← HT2.out, HD.out]; rfl, HB.out⟩
end Char
namespace Char
open Go.RowKit Go.Lib
theorem hasSuf_any (s t : ByteArray) (w : World) (hs : s.size ≤ 9223372036854775807) :
  Calls Tryz.prog 43 #[.string s, .string t] w fun e w' => e = .returned (.bool (Lib.hasSuffix s.data.toList t.data.toList)) ∧ w = w' := by
 exact (Any.strings_HasSuffix layHSuf s t w hs).mono fun e w' h => ⟨h.1, h.2.symm⟩
theorem has_any (s t : ByteArray) (w : World) (hs : s.size < 4294967281) (hm : MaxL w) :
  Calls Tryz.prog 42 #[.string s, .string t] w fun e w' => e = .returned (.bool (Lib.contains s.data.toList t.data.toList)) ∧ w = w' := by
 obtain ⟨m, hm⟩ := hm
 exact (Any.strings_Contains layCon s t m w hs hm).mono fun e w' h => ⟨h.1, h.2.symm⟩
theorem suf_last (l : List UInt8) : Lib.hasSuffix l [45] = (l.getLast? == some 45) := by
 unfold Lib.hasSuffix
 rw [Bool.eq_iff_iff, List.isSuffixOf_iff_suffix, beq_iff_eq, List.getLast?_eq_some_iff]
 exact ⟨fun ⟨ys, h⟩ => ⟨ys, h.symm⟩, fun ⟨ys, h⟩ => ⟨ys, h.symm⟩⟩
theorem nmD_le {l : List UInt8} (h : nmD (bs l) = true) : l.length ≤ 32 := by
 unfold nmD at h
 simp only [Bool.and_eq_true, decide_eq_true_eq] at h
 have := bs_size l
 omega
structure FitB (t : Tr) : Prop where
 nm : t.nm.length ≤ 2 ^ 31
 tx : t.tx.length ≤ 2 ^ 31
 al : t.ats.length ≤ 2 ^ 43
 an : ∀ a, a ∈ t.ats → a.1.length ≤ 2 ^ 62 ∧ a.2.length ≤ 2 ^ 62
 kl : t.ks.length ≤ 2 ^ 62
theorem one_text' {t : Tr} (h4 : t.kd = 4) : oneT t = (chlT t && txD t.tx && t.nm.isEmpty && !t.tx.isEmpty) := by
 unfold oneT
 rw [if_neg (by omega), if_pos h4]
theorem fits_elem (t : Tr) (oa : Option Addr) (ja : Nat) (ok : Option Addr) (jk : Nat) (w : World) (hb : FitB t) (hn : NdOn w (fun b => b < w.heap.size) t (.slice oa t.ats.length ja) (.slice ok t.ks.length jk)) (hG : Gl6 w) (h2 : t.kd = 2) :
  Calls Tryz.prog 27 #[.agg #[.int .i64 t.kd, .string (bs t.nm), .string (bs t.tx), .slice oa t.ats.length ja, .slice ok t.ks.length jk]] w fun e w' => e = .returned (.bool (fitT t)) ∧ Below w.heap.size w w' := by
 have hsn := bs_size t.nm
 have hsx := bs_size t.tx
 have hbn := hb.nm
 have hbx := hb.tx
 obtain ⟨B, hB⟩ : ∃ B, B = w.heap.size := ⟨_, rfl⟩
 obtain ⟨W1, hW1⟩ : ∃ W1, W1 = w.alloc (.cells #[.int .i64 t.kd, .string (bs t.nm), .string (bs t.tx), .slice oa t.ats.length ja, .slice ok t.ks.length jk] 25) := ⟨_, rfl⟩
 have hb1 : Below w.heap.size w W1 := by rw [hW1]; exact (Below.refl _ _).alloc (Nat.le_refl _) _
 have hbk : W1.heap[B]? = some (.cells #[.int .i64 t.kd, .string (bs t.nm), .string (bs t.tx), .slice oa t.ats.length ja, .slice ok t.ks.length jk] 25 (0, 0)) := by rw [hW1, hB]; exact World.alloc_heap_new w _
 have hBl := block_of_heap hbk
 have hbq : ∀ q : KeptT W1, q.at.heap[B]? = some (.cells #[.int .i64 t.kd, .string (bs t.nm), .string (bs t.tx), .slice oa t.ats.length ja, .slice ok t.ks.length jk] 25 (0, 0)) := fun q => (q.ok.block B hBl).trans hbk
 have z0 : ∀ q : KeptT W1, q.at.cell? ⟨B, 0, none⟩ = some (.int .i64 t.kd) := fun q => by simp [World.cell?, hbq q]
 have z1 : ∀ q : KeptT W1, q.at.cell? ⟨B, 1, none⟩ = some (.string (bs t.nm)) := fun q => by simp [World.cell?, hbq q]
 have z2 : ∀ q : KeptT W1, q.at.cell? ⟨B, 2, none⟩ = some (.string (bs t.tx)) := fun q => by simp [World.cell?, hbq q]
 have z3 : ∀ q : KeptT W1, q.at.cell? ⟨B, 3, none⟩ = some (.slice oa t.ats.length ja) := fun q => by simp [World.cell?, hbq q]
 have z4 : ∀ q : KeptT W1, q.at.cell? ⟨B, 4, none⟩ = some (.slice ok t.ks.length jk) := fun q => by simp [World.cell?, hbq q]
 have HUP := hid (fun q : KeptT W1 => (show Below w.heap.size w q.at from hb1.trans (q.ok.mono hb1.size)))
 obtain ⟨q0, hq0⟩ : ∃ q0 : KeptT W1, W1 = q0.at := ⟨⟨W1, Below.refl _ _⟩, rfl⟩
 have HW1 := hid (hW1.symm.trans hq0)
 have HB := hid hB
 have HG := hid hG
 have HND := hid hn
 have HFB := hid hb
 have hNM : ∀ q : KeptT W1, Calls Tryz.prog 37 #[.string (bs t.nm)] q.at fun e w' => e = .returned (.bool (nmD (bs t.nm))) ∧ ∃ q' : KeptT W1, w' = q'.at := fun q => (chName_any (bs t.nm) q.at (by omega) (HG.out.below (HUP.out q)).1.1).mono fun e w' h => ⟨h.1, q.on h.2⟩
 have hFA : ∀ q : KeptT W1, Calls Tryz.prog 38 #[.slice oa t.ats.length ja] q.at fun e w' => e = .returned (.bool (atsK none t.ats && decide (t.ats.length ≤ 8))) ∧ ∃ q' : KeptT W1, w' = q'.at := fun q => (fitAttrs_any t.ats _ oa ja q.at (by have := HFB.out.al; omega) HFB.out.an (HND.out.below (HUP.out q)).ats (HG.out.below (HUP.out q))).mono fun e w' h => ⟨h.1, q.on h.2⟩
 have hME : ∀ q : KeptT W1, Calls Tryz.prog 39 #[.slice ok t.ks.length jk] q.at fun e w' => e = .returned (.bool (meetK t.ks)) ∧ ∃ q' : KeptT W1, w' = q'.at := fun q => (textsMeet_any t.ks _ ok jk q.at HFB.out.kl (HND.out.below (HUP.out q)).kids).mono fun e w' h => ⟨h.1, q, h.2.symm⟩
 have HR := hid (show fitT t = ((nmD (bs t.nm)) && t.tx.isEmpty && (atsK none t.ats && decide (t.ats.length ≤ 8)) && !(meetK t.ks)) by unfold fitT oneT; rw [if_pos h2, if_pos h2]; cases nmD (bs t.nm) <;> cases t.tx.isEmpty <;> cases decide (t.ats.length ≤ 8) <;> cases atsK none t.ats <;> cases meetK t.ks <;> rfl)
 have k2 : (t.kd == 2) = true := by simp [h2]
 have hx0 : (bs t.tx).toList.isEmpty = t.tx.isEmpty := by rw [bs_tl]
 have hx1 : ((bs t.tx).toList == []) = t.tx.isEmpty := by rw [bs_tl]; cases t.tx <;> rfl
 generalize hq_nm : nmD (bs t.nm) = b_nm at *
 generalize hq_fa : (atsK none t.ats && decide (t.ats.length ≤ 8)) = b_fa at *
 generalize hq_me : meetK t.ks = b_me at *
 generalize hq_x0 : t.tx.isEmpty = b_x0 at *
 have HNM := hid hNM
 have HFA := hid hFA
 have HME := hid hME
 clear hW1 hb1 hbk hBl hbq hq0 hB hG hn hb hbn hbx hNM hFA hME hq_x0 hq_nm hq_fa hq_me h2
 cases b_x0 with
 | false =>
  go_enter Tryz.func27, Tryz.ntmps27
  go_wp2_with fail
  rw [← HB.out, HW1.out]
  go_wp2_with (first | (go_at_call 37; (with_reducible refine (HNM.out _).mono ?_); rintro e _ ⟨rfl, q, rfl⟩) | (go_at_call 38; (with_reducible refine (HFA.out _).mono ?_); rintro e _ ⟨rfl, q, rfl⟩) | (go_at_call 39; (with_reducible refine (HME.out _).mono ?_); rintro e _ ⟨rfl, q, rfl⟩))
  go_ret
  exact ⟨by rw [HR.out]; simp, by first | exact HUP.out _ | (rw [HB.out]; exact HUP.out _)⟩
 | true =>
  cases b_nm with
  | false =>
   go_enter Tryz.func27, Tryz.ntmps27
   go_wp2_with fail
   rw [← HB.out, HW1.out]
   go_wp2_with (first | (go_at_call 37; (with_reducible refine (HNM.out _).mono ?_); rintro e _ ⟨rfl, q, rfl⟩) | (go_at_call 38; (with_reducible refine (HFA.out _).mono ?_); rintro e _ ⟨rfl, q, rfl⟩) | (go_at_call 39; (with_reducible refine (HME.out _).mono ?_); rintro e _ ⟨rfl, q, rfl⟩))
   go_ret
   exact ⟨by rw [HR.out]; simp, by first | exact HUP.out _ | (rw [HB.out]; exact HUP.out _)⟩
  | true =>
   cases b_fa with
   | false =>
    go_enter Tryz.func27, Tryz.ntmps27
    go_wp2_with fail
    rw [← HB.out, HW1.out]
    go_wp2_with (first | (go_at_call 37; (with_reducible refine (HNM.out _).mono ?_); rintro e _ ⟨rfl, q, rfl⟩) | (go_at_call 38; (with_reducible refine (HFA.out _).mono ?_); rintro e _ ⟨rfl, q, rfl⟩) | (go_at_call 39; (with_reducible refine (HME.out _).mono ?_); rintro e _ ⟨rfl, q, rfl⟩))
    go_ret
    exact ⟨by rw [HR.out]; simp, by first | exact HUP.out _ | (rw [HB.out]; exact HUP.out _)⟩
   | true =>
    cases b_me with
    | false =>
     go_enter Tryz.func27, Tryz.ntmps27
     go_wp2_with fail
     rw [← HB.out, HW1.out]
     go_wp2_with (first | (go_at_call 37; (with_reducible refine (HNM.out _).mono ?_); rintro e _ ⟨rfl, q, rfl⟩) | (go_at_call 38; (with_reducible refine (HFA.out _).mono ?_); rintro e _ ⟨rfl, q, rfl⟩) | (go_at_call 39; (with_reducible refine (HME.out _).mono ?_); rintro e _ ⟨rfl, q, rfl⟩))
     go_ret
     exact ⟨by rw [HR.out]; simp, by first | exact HUP.out _ | (rw [HB.out]; exact HUP.out _)⟩
    | true =>
     go_enter Tryz.func27, Tryz.ntmps27
     go_wp2_with fail
     rw [← HB.out, HW1.out]
     go_wp2_with (first | (go_at_call 37; (with_reducible refine (HNM.out _).mono ?_); rintro e _ ⟨rfl, q, rfl⟩) | (go_at_call 38; (with_reducible refine (HFA.out _).mono ?_); rintro e _ ⟨rfl, q, rfl⟩) | (go_at_call 39; (with_reducible refine (HME.out _).mono ?_); rintro e _ ⟨rfl, q, rfl⟩))
     go_ret
     exact ⟨by rw [HR.out]; simp, by first | exact HUP.out _ | (rw [HB.out]; exact HUP.out _)⟩
theorem fits_text (t : Tr) (oa : Option Addr) (ja : Nat) (ok : Option Addr) (jk : Nat) (w : World) (hb : FitB t) (hn : NdOn w (fun b => b < w.heap.size) t (.slice oa t.ats.length ja) (.slice ok t.ks.length jk)) (hG : Gl6 w) (h4 : t.kd = 4) :
  Calls Tryz.prog 27 #[.agg #[.int .i64 t.kd, .string (bs t.nm), .string (bs t.tx), .slice oa t.ats.length ja, .slice ok t.ks.length jk]] w fun e w' => e = .returned (.bool (fitT t)) ∧ Below w.heap.size w w' := by
 have hsn := bs_size t.nm
 have hsx := bs_size t.tx
 have hbn := hb.nm
 have hbx := hb.tx
 obtain ⟨B, hB⟩ : ∃ B, B = w.heap.size := ⟨_, rfl⟩
 obtain ⟨W1, hW1⟩ : ∃ W1, W1 = w.alloc (.cells #[.int .i64 t.kd, .string (bs t.nm), .string (bs t.tx), .slice oa t.ats.length ja, .slice ok t.ks.length jk] 25) := ⟨_, rfl⟩
 have hb1 : Below w.heap.size w W1 := by rw [hW1]; exact (Below.refl _ _).alloc (Nat.le_refl _) _
 have hbk : W1.heap[B]? = some (.cells #[.int .i64 t.kd, .string (bs t.nm), .string (bs t.tx), .slice oa t.ats.length ja, .slice ok t.ks.length jk] 25 (0, 0)) := by rw [hW1, hB]; exact World.alloc_heap_new w _
 have hBl := block_of_heap hbk
 have hbq : ∀ q : KeptT W1, q.at.heap[B]? = some (.cells #[.int .i64 t.kd, .string (bs t.nm), .string (bs t.tx), .slice oa t.ats.length ja, .slice ok t.ks.length jk] 25 (0, 0)) := fun q => (q.ok.block B hBl).trans hbk
 have z0 : ∀ q : KeptT W1, q.at.cell? ⟨B, 0, none⟩ = some (.int .i64 t.kd) := fun q => by simp [World.cell?, hbq q]
 have z1 : ∀ q : KeptT W1, q.at.cell? ⟨B, 1, none⟩ = some (.string (bs t.nm)) := fun q => by simp [World.cell?, hbq q]
 have z2 : ∀ q : KeptT W1, q.at.cell? ⟨B, 2, none⟩ = some (.string (bs t.tx)) := fun q => by simp [World.cell?, hbq q]
 have z3 : ∀ q : KeptT W1, q.at.cell? ⟨B, 3, none⟩ = some (.slice oa t.ats.length ja) := fun q => by simp [World.cell?, hbq q]
 have z4 : ∀ q : KeptT W1, q.at.cell? ⟨B, 4, none⟩ = some (.slice ok t.ks.length jk) := fun q => by simp [World.cell?, hbq q]
 have HUP := hid (fun q : KeptT W1 => (show Below w.heap.size w q.at from hb1.trans (q.ok.mono hb1.size)))
 obtain ⟨q0, hq0⟩ : ∃ q0 : KeptT W1, W1 = q0.at := ⟨⟨W1, Below.refl _ _⟩, rfl⟩
 have HW1 := hid (hW1.symm.trans hq0)
 have HB := hid hB
 have HG := hid hG
 have HND := hid hn
 have HFB := hid hb
 have hCH : ∀ q : KeptT W1, Calls Tryz.prog 40 #[.agg #[.int .i64 t.kd, .string (bs t.nm), .string (bs t.tx), .slice oa t.ats.length ja, .slice ok t.ks.length jk]] q.at fun e w' => e = .returned (.bool (chlT t)) ∧ ∃ q' : KeptT W1, w' = q'.at := fun q => (childless_any t oa ja ok jk q.at).mono fun e w' h => ⟨h.1, q.on h.2⟩
 have hTX : ∀ q : KeptT W1, Calls Tryz.prog 41 #[.string (bs t.tx)] q.at fun e w' => e = .returned (.bool (txD t.tx)) ∧ ∃ q' : KeptT W1, w' = q'.at := fun q => (text_any (bs t.tx) q.at (by omega) (HG.out.below (HUP.out q)).1.1).mono fun e w' h => ⟨h.1, q.on h.2⟩
 have HR := hid (show fitT t = ((chlT t) && (txD t.tx) && t.nm.isEmpty && !t.tx.isEmpty) by unfold fitT; rw [if_neg (show ¬ t.kd = 2 by omega), Bool.and_true, one_text' h4])
 have k2 : (t.kd == 2) = false := by rw [h4]; rfl
 have k4 : (t.kd == 4) = true := by simp [h4]
 have hn0 : (bs t.nm).toList.isEmpty = t.nm.isEmpty := by rw [bs_tl]
 have hn1 : ((bs t.nm).toList == []) = t.nm.isEmpty := by rw [bs_tl]; cases t.nm <;> rfl
 have hx0 : (bs t.tx).toList.isEmpty = t.tx.isEmpty := by rw [bs_tl]
 have hx1 : ((bs t.tx).toList == []) = t.tx.isEmpty := by rw [bs_tl]; cases t.tx <;> rfl
 generalize hq_ch : chlT t = b_ch at *
 generalize hq_tx : txD t.tx = b_tx at *
 generalize hq_n0 : t.nm.isEmpty = b_n0 at *
 generalize hq_x0 : t.tx.isEmpty = b_x0 at *
 have HCH := hid hCH
 have HTX := hid hTX
 clear hW1 hb1 hbk hBl hbq hq0 hB hG hn hb hbn hbx hCH hTX hq_n0 hq_ch hq_x0 hq_tx h4
 cases b_n0 with
 | false =>
  go_enter Tryz.func27, Tryz.ntmps27
  go_wp2_with fail
  rw [← HB.out, HW1.out]
  go_wp2_with (first | (go_at_call 40; (with_reducible refine (HCH.out _).mono ?_); rintro e _ ⟨rfl, q, rfl⟩) | (go_at_call 41; (with_reducible refine (HTX.out _).mono ?_); rintro e _ ⟨rfl, q, rfl⟩))
  go_ret
  exact ⟨by rw [HR.out]; simp, by first | exact HUP.out _ | (rw [HB.out]; exact HUP.out _)⟩
 | true =>
  cases b_ch with
  | false =>
   go_enter Tryz.func27, Tryz.ntmps27
   go_wp2_with fail
   rw [← HB.out, HW1.out]
   go_wp2_with (first | (go_at_call 40; (with_reducible refine (HCH.out _).mono ?_); rintro e _ ⟨rfl, q, rfl⟩) | (go_at_call 41; (with_reducible refine (HTX.out _).mono ?_); rintro e _ ⟨rfl, q, rfl⟩))
   go_ret
   exact ⟨by rw [HR.out]; simp, by first | exact HUP.out _ | (rw [HB.out]; exact HUP.out _)⟩
  | true =>
   cases b_x0 with
   | false =>
    cases b_tx with
    | false =>
     go_enter Tryz.func27, Tryz.ntmps27
     go_wp2_with fail
     rw [← HB.out, HW1.out]
     go_wp2_with (first | (go_at_call 40; (with_reducible refine (HCH.out _).mono ?_); rintro e _ ⟨rfl, q, rfl⟩) | (go_at_call 41; (with_reducible refine (HTX.out _).mono ?_); rintro e _ ⟨rfl, q, rfl⟩))
     go_ret
     exact ⟨by rw [HR.out]; simp, by first | exact HUP.out _ | (rw [HB.out]; exact HUP.out _)⟩
    | true =>
     go_enter Tryz.func27, Tryz.ntmps27
     go_wp2_with fail
     rw [← HB.out, HW1.out]
     go_wp2_with (first | (go_at_call 40; (with_reducible refine (HCH.out _).mono ?_); rintro e _ ⟨rfl, q, rfl⟩) | (go_at_call 41; (with_reducible refine (HTX.out _).mono ?_); rintro e _ ⟨rfl, q, rfl⟩))
     go_ret
     exact ⟨by rw [HR.out]; simp, by first | exact HUP.out _ | (rw [HB.out]; exact HUP.out _)⟩
   | true =>
    go_enter Tryz.func27, Tryz.ntmps27
    go_wp2_with fail
    rw [← HB.out, HW1.out]
    go_wp2_with (first | (go_at_call 40; (with_reducible refine (HCH.out _).mono ?_); rintro e _ ⟨rfl, q, rfl⟩) | (go_at_call 41; (with_reducible refine (HTX.out _).mono ?_); rintro e _ ⟨rfl, q, rfl⟩))
    go_ret
    exact ⟨by rw [HR.out]; simp, by first | exact HUP.out _ | (rw [HB.out]; exact HUP.out _)⟩
theorem fits_comment (t : Tr) (oa : Option Addr) (ja : Nat) (ok : Option Addr) (jk : Nat) (w : World) (hb : FitB t) (hn : NdOn w (fun b => b < w.heap.size) t (.slice oa t.ats.length ja) (.slice ok t.ks.length jk)) (hG : Gl6 w) (h5 : t.kd = 5) :
  Calls Tryz.prog 27 #[.agg #[.int .i64 t.kd, .string (bs t.nm), .string (bs t.tx), .slice oa t.ats.length ja, .slice ok t.ks.length jk]] w fun e w' => e = .returned (.bool (fitT t)) ∧ Below w.heap.size w w' := by
 have hsn := bs_size t.nm
 have hsx := bs_size t.tx
 have hbn := hb.nm
 have hbx := hb.tx
 obtain ⟨B, hB⟩ : ∃ B, B = w.heap.size := ⟨_, rfl⟩
 obtain ⟨W1, hW1⟩ : ∃ W1, W1 = w.alloc (.cells #[.int .i64 t.kd, .string (bs t.nm), .string (bs t.tx), .slice oa t.ats.length ja, .slice ok t.ks.length jk] 25) := ⟨_, rfl⟩
 have hb1 : Below w.heap.size w W1 := by rw [hW1]; exact (Below.refl _ _).alloc (Nat.le_refl _) _
 have hbk : W1.heap[B]? = some (.cells #[.int .i64 t.kd, .string (bs t.nm), .string (bs t.tx), .slice oa t.ats.length ja, .slice ok t.ks.length jk] 25 (0, 0)) := by rw [hW1, hB]; exact World.alloc_heap_new w _
 have hBl := block_of_heap hbk
 have hbq : ∀ q : KeptT W1, q.at.heap[B]? = some (.cells #[.int .i64 t.kd, .string (bs t.nm), .string (bs t.tx), .slice oa t.ats.length ja, .slice ok t.ks.length jk] 25 (0, 0)) := fun q => (q.ok.block B hBl).trans hbk
 have z0 : ∀ q : KeptT W1, q.at.cell? ⟨B, 0, none⟩ = some (.int .i64 t.kd) := fun q => by simp [World.cell?, hbq q]
 have z1 : ∀ q : KeptT W1, q.at.cell? ⟨B, 1, none⟩ = some (.string (bs t.nm)) := fun q => by simp [World.cell?, hbq q]
 have z2 : ∀ q : KeptT W1, q.at.cell? ⟨B, 2, none⟩ = some (.string (bs t.tx)) := fun q => by simp [World.cell?, hbq q]
 have z3 : ∀ q : KeptT W1, q.at.cell? ⟨B, 3, none⟩ = some (.slice oa t.ats.length ja) := fun q => by simp [World.cell?, hbq q]
 have z4 : ∀ q : KeptT W1, q.at.cell? ⟨B, 4, none⟩ = some (.slice ok t.ks.length jk) := fun q => by simp [World.cell?, hbq q]
 have HUP := hid (fun q : KeptT W1 => (show Below w.heap.size w q.at from hb1.trans (q.ok.mono hb1.size)))
 obtain ⟨q0, hq0⟩ : ∃ q0 : KeptT W1, W1 = q0.at := ⟨⟨W1, Below.refl _ _⟩, rfl⟩
 have HW1 := hid (hW1.symm.trans hq0)
 have HB := hid hB
 have HG := hid hG
 have HND := hid hn
 have HFB := hid hb
 have hCH : ∀ q : KeptT W1, Calls Tryz.prog 40 #[.agg #[.int .i64 t.kd, .string (bs t.nm), .string (bs t.tx), .slice oa t.ats.length ja, .slice ok t.ks.length jk]] q.at fun e w' => e = .returned (.bool (chlT t)) ∧ ∃ q' : KeptT W1, w' = q'.at := fun q => (childless_any t oa ja ok jk q.at).mono fun e w' h => ⟨h.1, q.on h.2⟩
 have hTX : ∀ q : KeptT W1, Calls Tryz.prog 41 #[.string (bs t.tx)] q.at fun e w' => e = .returned (.bool (txD t.tx)) ∧ ∃ q' : KeptT W1, w' = q'.at := fun q => (text_any (bs t.tx) q.at (by omega) (HG.out.below (HUP.out q)).1.1).mono fun e w' h => ⟨h.1, q.on h.2⟩
 have hCR : ∀ q : KeptT W1, Calls Tryz.prog 42 #[.string (bs t.tx), .string ⟨#[13]⟩] q.at fun e w' => e = .returned (.bool (Lib.contains t.tx [13])) ∧ ∃ q' : KeptT W1, w' = q'.at := fun q => (has_any (bs t.tx) ⟨#[13]⟩ q.at (by omega) (HG.out.below (HUP.out q)).1.2.1).mono fun e w' h => ⟨h.1, q, h.2.symm⟩
 have hHY : ∀ q : KeptT W1, Calls Tryz.prog 42 #[.string (bs t.tx), .string ⟨#[45, 45]⟩] q.at fun e w' => e = .returned (.bool (Lib.contains t.tx [45, 45])) ∧ ∃ q' : KeptT W1, w' = q'.at := fun q => (has_any (bs t.tx) ⟨#[45, 45]⟩ q.at (by omega) (HG.out.below (HUP.out q)).1.2.1).mono fun e w' h => ⟨h.1, q, h.2.symm⟩
 have hLS : ∀ q : KeptT W1, Calls Tryz.prog 43 #[.string (bs t.tx), .string ⟨#[45]⟩] q.at fun e w' => e = .returned (.bool (t.tx.getLast? == some 45)) ∧ ∃ q' : KeptT W1, w' = q'.at := fun q => (hasSuf_any (bs t.tx) ⟨#[45]⟩ q.at (by omega)).mono fun e w' h => ⟨by rw [← suf_last]; exact h.1, q, h.2.symm⟩
 have HR := hid (show fitT t = ((chlT t) && (txD t.tx) && !(Lib.contains t.tx [13]) && t.nm.isEmpty && !(Lib.contains t.tx [45, 45]) && !(t.tx.getLast? == some 45)) by unfold fitT oneT; rw [if_neg (show ¬ t.kd = 2 by omega), if_neg (show ¬ t.kd = 2 by omega), if_neg (show ¬ t.kd = 4 by omega), if_pos h5, Bool.and_true]; rfl)
 have k2 : (t.kd == 2) = false := by rw [h5]; rfl
 have k4 : (t.kd == 4) = false := by rw [h5]; rfl
 have k5 : (t.kd == 5) = true := by simp [h5]
 have hn0 : (bs t.nm).toList.isEmpty = t.nm.isEmpty := by rw [bs_tl]
 have hn1 : ((bs t.nm).toList == []) = t.nm.isEmpty := by rw [bs_tl]; cases t.nm <;> rfl
 generalize hq_ch : chlT t = b_ch at *
 generalize hq_tx : txD t.tx = b_tx at *
 generalize hq_cr : Lib.contains t.tx [13] = b_cr at *
 generalize hq_hy : Lib.contains t.tx [45, 45] = b_hy at *
 generalize hq_ls : (t.tx.getLast? == some 45) = b_ls at *
 generalize hq_n0 : t.nm.isEmpty = b_n0 at *
 have HCH := hid hCH
 have HTX := hid hTX
 have HCR := hid hCR
 have HHY := hid hHY
 have HLS := hid hLS
 clear hW1 hb1 hbk hBl hbq hq0 hB hG hn hb hbn hbx hCH hTX hCR hHY hLS hq_n0 hq_ch hq_tx hq_cr hq_hy hq_ls h5
 cases b_n0 with
 | false =>
  go_enter Tryz.func27, Tryz.ntmps27
  go_wp2_with fail
  rw [← HB.out, HW1.out]
  go_wp2_with (first | (go_at_call 40; (with_reducible refine (HCH.out _).mono ?_); rintro e _ ⟨rfl, q, rfl⟩) | (go_at_call 41; (with_reducible refine (HTX.out _).mono ?_); rintro e _ ⟨rfl, q, rfl⟩) | (go_at_call 42; (with_reducible refine (HCR.out _).mono ?_); rintro e _ ⟨rfl, q, rfl⟩) | (go_at_call 42; (with_reducible refine (HHY.out _).mono ?_); rintro e _ ⟨rfl, q, rfl⟩) | (go_at_call 43; (with_reducible refine (HLS.out _).mono ?_); rintro e _ ⟨rfl, q, rfl⟩))
  go_ret
  exact ⟨by rw [HR.out]; simp, by first | exact HUP.out _ | (rw [HB.out]; exact HUP.out _)⟩
 | true =>
  cases b_ch with
  | false =>
   go_enter Tryz.func27, Tryz.ntmps27
   go_wp2_with fail
   rw [← HB.out, HW1.out]
   go_wp2_with (first | (go_at_call 40; (with_reducible refine (HCH.out _).mono ?_); rintro e _ ⟨rfl, q, rfl⟩) | (go_at_call 41; (with_reducible refine (HTX.out _).mono ?_); rintro e _ ⟨rfl, q, rfl⟩) | (go_at_call 42; (with_reducible refine (HCR.out _).mono ?_); rintro e _ ⟨rfl, q, rfl⟩) | (go_at_call 42; (with_reducible refine (HHY.out _).mono ?_); rintro e _ ⟨rfl, q, rfl⟩) | (go_at_call 43; (with_reducible refine (HLS.out _).mono ?_); rintro e _ ⟨rfl, q, rfl⟩))
   go_ret
   exact ⟨by rw [HR.out]; simp, by first | exact HUP.out _ | (rw [HB.out]; exact HUP.out _)⟩
  | true =>
   cases b_tx with
   | false =>
    go_enter Tryz.func27, Tryz.ntmps27
    go_wp2_with fail
    rw [← HB.out, HW1.out]
    go_wp2_with (first | (go_at_call 40; (with_reducible refine (HCH.out _).mono ?_); rintro e _ ⟨rfl, q, rfl⟩) | (go_at_call 41; (with_reducible refine (HTX.out _).mono ?_); rintro e _ ⟨rfl, q, rfl⟩) | (go_at_call 42; (with_reducible refine (HCR.out _).mono ?_); rintro e _ ⟨rfl, q, rfl⟩) | (go_at_call 42; (with_reducible refine (HHY.out _).mono ?_); rintro e _ ⟨rfl, q, rfl⟩) | (go_at_call 43; (with_reducible refine (HLS.out _).mono ?_); rintro e _ ⟨rfl, q, rfl⟩))
    go_ret
    exact ⟨by rw [HR.out]; simp, by first | exact HUP.out _ | (rw [HB.out]; exact HUP.out _)⟩
   | true =>
    cases b_cr with
    | false =>
     cases b_hy with
     | false =>
      cases b_ls with
      | false =>
       go_enter Tryz.func27, Tryz.ntmps27
       go_wp2_with fail
       rw [← HB.out, HW1.out]
       go_wp2_with (first | (go_at_call 40; (with_reducible refine (HCH.out _).mono ?_); rintro e _ ⟨rfl, q, rfl⟩) | (go_at_call 41; (with_reducible refine (HTX.out _).mono ?_); rintro e _ ⟨rfl, q, rfl⟩) | (go_at_call 42; (with_reducible refine (HCR.out _).mono ?_); rintro e _ ⟨rfl, q, rfl⟩) | (go_at_call 42; (with_reducible refine (HHY.out _).mono ?_); rintro e _ ⟨rfl, q, rfl⟩) | (go_at_call 43; (with_reducible refine (HLS.out _).mono ?_); rintro e _ ⟨rfl, q, rfl⟩))
       go_ret
       exact ⟨by rw [HR.out]; simp, by first | exact HUP.out _ | (rw [HB.out]; exact HUP.out _)⟩
      | true =>
       go_enter Tryz.func27, Tryz.ntmps27
       go_wp2_with fail
       rw [← HB.out, HW1.out]
       go_wp2_with (first | (go_at_call 40; (with_reducible refine (HCH.out _).mono ?_); rintro e _ ⟨rfl, q, rfl⟩) | (go_at_call 41; (with_reducible refine (HTX.out _).mono ?_); rintro e _ ⟨rfl, q, rfl⟩) | (go_at_call 42; (with_reducible refine (HCR.out _).mono ?_); rintro e _ ⟨rfl, q, rfl⟩) | (go_at_call 42; (with_reducible refine (HHY.out _).mono ?_); rintro e _ ⟨rfl, q, rfl⟩) | (go_at_call 43; (with_reducible refine (HLS.out _).mono ?_); rintro e _ ⟨rfl, q, rfl⟩))
       go_ret
       exact ⟨by rw [HR.out]; simp, by first | exact HUP.out _ | (rw [HB.out]; exact HUP.out _)⟩
     | true =>
      go_enter Tryz.func27, Tryz.ntmps27
      go_wp2_with fail
      rw [← HB.out, HW1.out]
      go_wp2_with (first | (go_at_call 40; (with_reducible refine (HCH.out _).mono ?_); rintro e _ ⟨rfl, q, rfl⟩) | (go_at_call 41; (with_reducible refine (HTX.out _).mono ?_); rintro e _ ⟨rfl, q, rfl⟩) | (go_at_call 42; (with_reducible refine (HCR.out _).mono ?_); rintro e _ ⟨rfl, q, rfl⟩) | (go_at_call 42; (with_reducible refine (HHY.out _).mono ?_); rintro e _ ⟨rfl, q, rfl⟩) | (go_at_call 43; (with_reducible refine (HLS.out _).mono ?_); rintro e _ ⟨rfl, q, rfl⟩))
      go_ret
      exact ⟨by rw [HR.out]; simp, by first | exact HUP.out _ | (rw [HB.out]; exact HUP.out _)⟩
    | true =>
     go_enter Tryz.func27, Tryz.ntmps27
     go_wp2_with fail
     rw [← HB.out, HW1.out]
     go_wp2_with (first | (go_at_call 40; (with_reducible refine (HCH.out _).mono ?_); rintro e _ ⟨rfl, q, rfl⟩) | (go_at_call 41; (with_reducible refine (HTX.out _).mono ?_); rintro e _ ⟨rfl, q, rfl⟩) | (go_at_call 42; (with_reducible refine (HCR.out _).mono ?_); rintro e _ ⟨rfl, q, rfl⟩) | (go_at_call 42; (with_reducible refine (HHY.out _).mono ?_); rintro e _ ⟨rfl, q, rfl⟩) | (go_at_call 43; (with_reducible refine (HLS.out _).mono ?_); rintro e _ ⟨rfl, q, rfl⟩))
     go_ret
     exact ⟨by rw [HR.out]; simp, by first | exact HUP.out _ | (rw [HB.out]; exact HUP.out _)⟩
theorem fits_pi (t : Tr) (oa : Option Addr) (ja : Nat) (ok : Option Addr) (jk : Nat) (w : World) (hb : FitB t) (hn : NdOn w (fun b => b < w.heap.size) t (.slice oa t.ats.length ja) (.slice ok t.ks.length jk)) (hG : Gl6 w) (h6 : t.kd = 6) :
  Calls Tryz.prog 27 #[.agg #[.int .i64 t.kd, .string (bs t.nm), .string (bs t.tx), .slice oa t.ats.length ja, .slice ok t.ks.length jk]] w fun e w' => e = .returned (.bool (fitT t)) ∧ Below w.heap.size w w' := by
 have hsn := bs_size t.nm
 have hsx := bs_size t.tx
 have hbn := hb.nm
 have hbx := hb.tx
 obtain ⟨B, hB⟩ : ∃ B, B = w.heap.size := ⟨_, rfl⟩
 obtain ⟨W1, hW1⟩ : ∃ W1, W1 = w.alloc (.cells #[.int .i64 t.kd, .string (bs t.nm), .string (bs t.tx), .slice oa t.ats.length ja, .slice ok t.ks.length jk] 25) := ⟨_, rfl⟩
 have hb1 : Below w.heap.size w W1 := by rw [hW1]; exact (Below.refl _ _).alloc (Nat.le_refl _) _
 have hbk : W1.heap[B]? = some (.cells #[.int .i64 t.kd, .string (bs t.nm), .string (bs t.tx), .slice oa t.ats.length ja, .slice ok t.ks.length jk] 25 (0, 0)) := by rw [hW1, hB]; exact World.alloc_heap_new w _
 have hBl := block_of_heap hbk
 have hbq : ∀ q : KeptT W1, q.at.heap[B]? = some (.cells #[.int .i64 t.kd, .string (bs t.nm), .string (bs t.tx), .slice oa t.ats.length ja, .slice ok t.ks.length jk] 25 (0, 0)) := fun q => (q.ok.block B hBl).trans hbk
 have z0 : ∀ q : KeptT W1, q.at.cell? ⟨B, 0, none⟩ = some (.int .i64 t.kd) := fun q => by simp [World.cell?, hbq q]
 have z1 : ∀ q : KeptT W1, q.at.cell? ⟨B, 1, none⟩ = some (.string (bs t.nm)) := fun q => by simp [World.cell?, hbq q]
 have z2 : ∀ q : KeptT W1, q.at.cell? ⟨B, 2, none⟩ = some (.string (bs t.tx)) := fun q => by simp [World.cell?, hbq q]
 have z3 : ∀ q : KeptT W1, q.at.cell? ⟨B, 3, none⟩ = some (.slice oa t.ats.length ja) := fun q => by simp [World.cell?, hbq q]
 have z4 : ∀ q : KeptT W1, q.at.cell? ⟨B, 4, none⟩ = some (.slice ok t.ks.length jk) := fun q => by simp [World.cell?, hbq q]
 have HUP := hid (fun q : KeptT W1 => (show Below w.heap.size w q.at from hb1.trans (q.ok.mono hb1.size)))
 obtain ⟨q0, hq0⟩ : ∃ q0 : KeptT W1, W1 = q0.at := ⟨⟨W1, Below.refl _ _⟩, rfl⟩
 have HW1 := hid (hW1.symm.trans hq0)
 have HB := hid hB
 have HG := hid hG
 have HND := hid hn
 have HFB := hid hb
 have hNM : ∀ q : KeptT W1, Calls Tryz.prog 37 #[.string (bs t.nm)] q.at fun e w' => e = .returned (.bool (nmD (bs t.nm))) ∧ ∃ q' : KeptT W1, w' = q'.at := fun q => (chName_any (bs t.nm) q.at (by omega) (HG.out.below (HUP.out q)).1.1).mono fun e w' h => ⟨h.1, q.on h.2⟩
 have hFO : nmD (bs t.nm) = true → ∀ q : KeptT W1, Calls Tryz.prog 44 #[.string (bs t.nm), .string ⟨#[120, 109, 108]⟩] q.at fun e w' => e = .returned (.bool (decide (smallL t.nm = [120, 109, 108]))) ∧ ∃ q' : KeptT W1, w' = q'.at := fun h q => (efold_any t.nm q.at (by have := nmD_le h; omega) (HG.out.below (HUP.out q)).2).mono fun e w' h => ⟨h.1, q.on h.2⟩
 have hCH : ∀ q : KeptT W1, Calls Tryz.prog 40 #[.agg #[.int .i64 t.kd, .string (bs t.nm), .string (bs t.tx), .slice oa t.ats.length ja, .slice ok t.ks.length jk]] q.at fun e w' => e = .returned (.bool (chlT t)) ∧ ∃ q' : KeptT W1, w' = q'.at := fun q => (childless_any t oa ja ok jk q.at).mono fun e w' h => ⟨h.1, q.on h.2⟩
 have hTX : ∀ q : KeptT W1, Calls Tryz.prog 41 #[.string (bs t.tx)] q.at fun e w' => e = .returned (.bool (txD t.tx)) ∧ ∃ q' : KeptT W1, w' = q'.at := fun q => (text_any (bs t.tx) q.at (by omega) (HG.out.below (HUP.out q)).1.1).mono fun e w' h => ⟨h.1, q.on h.2⟩
 have hCR : ∀ q : KeptT W1, Calls Tryz.prog 42 #[.string (bs t.tx), .string ⟨#[13]⟩] q.at fun e w' => e = .returned (.bool (Lib.contains t.tx [13])) ∧ ∃ q' : KeptT W1, w' = q'.at := fun q => (has_any (bs t.tx) ⟨#[13]⟩ q.at (by omega) (HG.out.below (HUP.out q)).1.2.1).mono fun e w' h => ⟨h.1, q, h.2.symm⟩
 have hQM : ∀ q : KeptT W1, Calls Tryz.prog 42 #[.string (bs t.tx), .string ⟨#[63, 62]⟩] q.at fun e w' => e = .returned (.bool (Lib.contains t.tx [63, 62])) ∧ ∃ q' : KeptT W1, w' = q'.at := fun q => (has_any (bs t.tx) ⟨#[63, 62]⟩ q.at (by omega) (HG.out.below (HUP.out q)).1.2.1).mono fun e w' h => ⟨h.1, q, h.2.symm⟩
 have hSP : ∀ q : KeptT W1, Calls Tryz.prog 45 #[.string (bs t.tx)] q.at fun e w' => e = .returned (.bool (spH t.tx)) ∧ ∃ q' : KeptT W1, w' = q'.at := fun q => (spaceAhead_any t.tx q.at).mono fun e w' h => ⟨h.1, q.on h.2⟩
 have HR := hid (show fitT t = ((chlT t) && (txD t.tx) && !(Lib.contains t.tx [13]) && (nmD (bs t.nm)) && !(Lib.contains t.tx [63, 62]) && !(spH t.tx) && !(decide (smallL t.nm = [120, 109, 108]))) by unfold fitT oneT; rw [if_neg (show ¬ t.kd = 2 by omega), if_neg (show ¬ t.kd = 2 by omega), if_neg (show ¬ t.kd = 4 by omega), if_neg (show ¬ t.kd = 5 by omega), if_pos h6, Bool.and_true]; cases t.tx <;> rfl)
 have k2 : (t.kd == 2) = false := by rw [h6]; rfl
 have k4 : (t.kd == 4) = false := by rw [h6]; rfl
 have k5 : (t.kd == 5) = false := by rw [h6]; rfl
 have k6 : (t.kd == 6) = true := by simp [h6]
 generalize hq_nm : nmD (bs t.nm) = b_nm at *
 generalize hq_fo : decide (smallL t.nm = [120, 109, 108]) = b_fo at *
 generalize hq_ch : chlT t = b_ch at *
 generalize hq_tx : txD t.tx = b_tx at *
 generalize hq_cr : Lib.contains t.tx [13] = b_cr at *
 generalize hq_qm : Lib.contains t.tx [63, 62] = b_qm at *
 generalize hq_sp : spH t.tx = b_sp at *
 have HNM := hid hNM
 have HCH := hid hCH
 have HTX := hid hTX
 have HCR := hid hCR
 have HQM := hid hQM
 have HSP := hid hSP
 have HFO := hid hFO
 clear hW1 hb1 hbk hBl hbq hq0 hB hG hn hb hbn hbx hNM hFO hCH hTX hCR hQM hSP hq_nm hq_fo hq_ch hq_tx hq_cr hq_qm hq_sp h6
 cases b_nm with
 | false =>
  go_enter Tryz.func27, Tryz.ntmps27
  go_wp2_with fail
  rw [← HB.out, HW1.out]
  go_wp2_with (first | (go_at_call 37; (with_reducible refine (HNM.out _).mono ?_); rintro e _ ⟨rfl, q, rfl⟩) | (go_at_call 40; (with_reducible refine (HCH.out _).mono ?_); rintro e _ ⟨rfl, q, rfl⟩) | (go_at_call 41; (with_reducible refine (HTX.out _).mono ?_); rintro e _ ⟨rfl, q, rfl⟩) | (go_at_call 42; (with_reducible refine (HCR.out _).mono ?_); rintro e _ ⟨rfl, q, rfl⟩) | (go_at_call 42; (with_reducible refine (HQM.out _).mono ?_); rintro e _ ⟨rfl, q, rfl⟩) | (go_at_call 45; (with_reducible refine (HSP.out _).mono ?_); rintro e _ ⟨rfl, q, rfl⟩))
  go_ret
  exact ⟨by rw [HR.out]; simp, by first | exact HUP.out _ | (rw [HB.out]; exact HUP.out _)⟩
 | true =>
  have HFQ := hid (HFO.out rfl)
  cases b_fo with
  | false =>
   cases b_ch with
   | false =>
    go_enter Tryz.func27, Tryz.ntmps27
    go_wp2_with fail
    rw [← HB.out, HW1.out]
    go_wp2_with (first | (go_at_call 37; (with_reducible refine (HNM.out _).mono ?_); rintro e _ ⟨rfl, q, rfl⟩) | (go_at_call 44; (with_reducible refine (HFQ.out _).mono ?_); rintro e _ ⟨rfl, q, rfl⟩) | (go_at_call 40; (with_reducible refine (HCH.out _).mono ?_); rintro e _ ⟨rfl, q, rfl⟩) | (go_at_call 41; (with_reducible refine (HTX.out _).mono ?_); rintro e _ ⟨rfl, q, rfl⟩) | (go_at_call 42; (with_reducible refine (HCR.out _).mono ?_); rintro e _ ⟨rfl, q, rfl⟩) | (go_at_call 42; (with_reducible refine (HQM.out _).mono ?_); rintro e _ ⟨rfl, q, rfl⟩) | (go_at_call 45; (with_reducible refine (HSP.out _).mono ?_); rintro e _ ⟨rfl, q, rfl⟩))
    go_ret
    exact ⟨by rw [HR.out]; simp, by first | exact HUP.out _ | (rw [HB.out]; exact HUP.out _)⟩
   | true =>
    cases b_tx with
    | false =>
     go_enter Tryz.func27, Tryz.ntmps27
     go_wp2_with fail
     rw [← HB.out, HW1.out]
     go_wp2_with (first | (go_at_call 37; (with_reducible refine (HNM.out _).mono ?_); rintro e _ ⟨rfl, q, rfl⟩) | (go_at_call 44; (with_reducible refine (HFQ.out _).mono ?_); rintro e _ ⟨rfl, q, rfl⟩) | (go_at_call 40; (with_reducible refine (HCH.out _).mono ?_); rintro e _ ⟨rfl, q, rfl⟩) | (go_at_call 41; (with_reducible refine (HTX.out _).mono ?_); rintro e _ ⟨rfl, q, rfl⟩) | (go_at_call 42; (with_reducible refine (HCR.out _).mono ?_); rintro e _ ⟨rfl, q, rfl⟩) | (go_at_call 42; (with_reducible refine (HQM.out _).mono ?_); rintro e _ ⟨rfl, q, rfl⟩) | (go_at_call 45; (with_reducible refine (HSP.out _).mono ?_); rintro e _ ⟨rfl, q, rfl⟩))
     go_ret
     exact ⟨by rw [HR.out]; simp, by first | exact HUP.out _ | (rw [HB.out]; exact HUP.out _)⟩
    | true =>
     cases b_cr with
     | false =>
      cases b_qm with
      | false =>
       cases b_sp with
       | false =>
        go_enter Tryz.func27, Tryz.ntmps27
        go_wp2_with fail
        rw [← HB.out, HW1.out]
        go_wp2_with (first | (go_at_call 37; (with_reducible refine (HNM.out _).mono ?_); rintro e _ ⟨rfl, q, rfl⟩) | (go_at_call 44; (with_reducible refine (HFQ.out _).mono ?_); rintro e _ ⟨rfl, q, rfl⟩) | (go_at_call 40; (with_reducible refine (HCH.out _).mono ?_); rintro e _ ⟨rfl, q, rfl⟩) | (go_at_call 41; (with_reducible refine (HTX.out _).mono ?_); rintro e _ ⟨rfl, q, rfl⟩) | (go_at_call 42; (with_reducible refine (HCR.out _).mono ?_); rintro e _ ⟨rfl, q, rfl⟩) | (go_at_call 42; (with_reducible refine (HQM.out _).mono ?_); rintro e _ ⟨rfl, q, rfl⟩) | (go_at_call 45; (with_reducible refine (HSP.out _).mono ?_); rintro e _ ⟨rfl, q, rfl⟩))
        go_ret
        exact ⟨by rw [HR.out]; simp, by first | exact HUP.out _ | (rw [HB.out]; exact HUP.out _)⟩
       | true =>
        go_enter Tryz.func27, Tryz.ntmps27
        go_wp2_with fail
        rw [← HB.out, HW1.out]
        go_wp2_with (first | (go_at_call 37; (with_reducible refine (HNM.out _).mono ?_); rintro e _ ⟨rfl, q, rfl⟩) | (go_at_call 44; (with_reducible refine (HFQ.out _).mono ?_); rintro e _ ⟨rfl, q, rfl⟩) | (go_at_call 40; (with_reducible refine (HCH.out _).mono ?_); rintro e _ ⟨rfl, q, rfl⟩) | (go_at_call 41; (with_reducible refine (HTX.out _).mono ?_); rintro e _ ⟨rfl, q, rfl⟩) | (go_at_call 42; (with_reducible refine (HCR.out _).mono ?_); rintro e _ ⟨rfl, q, rfl⟩) | (go_at_call 42; (with_reducible refine (HQM.out _).mono ?_); rintro e _ ⟨rfl, q, rfl⟩) | (go_at_call 45; (with_reducible refine (HSP.out _).mono ?_); rintro e _ ⟨rfl, q, rfl⟩))
        go_ret
        exact ⟨by rw [HR.out]; simp, by first | exact HUP.out _ | (rw [HB.out]; exact HUP.out _)⟩
      | true =>
       go_enter Tryz.func27, Tryz.ntmps27
       go_wp2_with fail
       rw [← HB.out, HW1.out]
       go_wp2_with (first | (go_at_call 37; (with_reducible refine (HNM.out _).mono ?_); rintro e _ ⟨rfl, q, rfl⟩) | (go_at_call 44; (with_reducible refine (HFQ.out _).mono ?_); rintro e _ ⟨rfl, q, rfl⟩) | (go_at_call 40; (with_reducible refine (HCH.out _).mono ?_); rintro e _ ⟨rfl, q, rfl⟩) | (go_at_call 41; (with_reducible refine (HTX.out _).mono ?_); rintro e _ ⟨rfl, q, rfl⟩) | (go_at_call 42; (with_reducible refine (HCR.out _).mono ?_); rintro e _ ⟨rfl, q, rfl⟩) | (go_at_call 42; (with_reducible refine (HQM.out _).mono ?_); rintro e _ ⟨rfl, q, rfl⟩) | (go_at_call 45; (with_reducible refine (HSP.out _).mono ?_); rintro e _ ⟨rfl, q, rfl⟩))
       go_ret
       exact ⟨by rw [HR.out]; simp, by first | exact HUP.out _ | (rw [HB.out]; exact HUP.out _)⟩
     | true =>
      go_enter Tryz.func27, Tryz.ntmps27
      go_wp2_with fail
      rw [← HB.out, HW1.out]
      go_wp2_with (first | (go_at_call 37; (with_reducible refine (HNM.out _).mono ?_); rintro e _ ⟨rfl, q, rfl⟩) | (go_at_call 44; (with_reducible refine (HFQ.out _).mono ?_); rintro e _ ⟨rfl, q, rfl⟩) | (go_at_call 40; (with_reducible refine (HCH.out _).mono ?_); rintro e _ ⟨rfl, q, rfl⟩) | (go_at_call 41; (with_reducible refine (HTX.out _).mono ?_); rintro e _ ⟨rfl, q, rfl⟩) | (go_at_call 42; (with_reducible refine (HCR.out _).mono ?_); rintro e _ ⟨rfl, q, rfl⟩) | (go_at_call 42; (with_reducible refine (HQM.out _).mono ?_); rintro e _ ⟨rfl, q, rfl⟩) | (go_at_call 45; (with_reducible refine (HSP.out _).mono ?_); rintro e _ ⟨rfl, q, rfl⟩))
      go_ret
      exact ⟨by rw [HR.out]; simp, by first | exact HUP.out _ | (rw [HB.out]; exact HUP.out _)⟩
  | true =>
   go_enter Tryz.func27, Tryz.ntmps27
   go_wp2_with fail
   rw [← HB.out, HW1.out]
   go_wp2_with (first | (go_at_call 37; (with_reducible refine (HNM.out _).mono ?_); rintro e _ ⟨rfl, q, rfl⟩) | (go_at_call 44; (with_reducible refine (HFQ.out _).mono ?_); rintro e _ ⟨rfl, q, rfl⟩) | (go_at_call 40; (with_reducible refine (HCH.out _).mono ?_); rintro e _ ⟨rfl, q, rfl⟩) | (go_at_call 41; (with_reducible refine (HTX.out _).mono ?_); rintro e _ ⟨rfl, q, rfl⟩) | (go_at_call 42; (with_reducible refine (HCR.out _).mono ?_); rintro e _ ⟨rfl, q, rfl⟩) | (go_at_call 42; (with_reducible refine (HQM.out _).mono ?_); rintro e _ ⟨rfl, q, rfl⟩) | (go_at_call 45; (with_reducible refine (HSP.out _).mono ?_); rintro e _ ⟨rfl, q, rfl⟩))
   go_ret
   exact ⟨by rw [HR.out]; simp, by first | exact HUP.out _ | (rw [HB.out]; exact HUP.out _)⟩
theorem fits_no (t : Tr) (oa : Option Addr) (ja : Nat) (ok : Option Addr) (jk : Nat) (w : World) (h2 : t.kd ≠ 2) (h4 : t.kd ≠ 4) (h5 : t.kd ≠ 5) (h6 : t.kd ≠ 6) :
  Calls Tryz.prog 27 #[.agg #[.int .i64 t.kd, .string (bs t.nm), .string (bs t.tx), .slice oa t.ats.length ja, .slice ok t.ks.length jk]] w fun e w' => e = .returned (.bool (fitT t)) ∧ Below w.heap.size w w' := by
 have HR := hid (show fitT t = false by unfold fitT oneT; rw [if_neg h2, if_neg h2, if_neg h4, if_neg h5, if_neg h6]; rfl)
 have k2 : (t.kd == 2) = false := by simp [h2]
 have k4 : (t.kd == 4) = false := by simp [h4]
 have k5 : (t.kd == 5) = false := by simp [h5]
 have k6 : (t.kd == 6) = false := by simp [h6]
 clear h2 h4 h5 h6
 go_enter Tryz.func27, Tryz.ntmps27
 go_wp2_with fail
 go_ret
 exact ⟨by rw [HR.out]; rfl, (Below.refl _ _).alloc (Nat.le_refl _) _⟩
theorem fits_any (t : Tr) (va vk : Value) (w : World) (hb : FitB t) (hn : NdOn w (fun b => b < w.heap.size) t va vk) (hG : Gl6 w) :
  Calls Tryz.prog 27 #[ndV t va vk] w fun e w' => e = .returned (.bool (fitT t)) ∧ Below w.heap.size w w' := by
 obtain ⟨oa, ja, ok, jk, rfl, rfl⟩ := hn.form
 by_cases h2 : t.kd = 2
 ·exact fits_elem t oa ja ok jk w hb hn hG h2
 by_cases h4 : t.kd = 4
 ·exact fits_text t oa ja ok jk w hb hn hG h4
 by_cases h5 : t.kd = 5
 ·exact fits_comment t oa ja ok jk w hb hn hG h5
 by_cases h6 : t.kd = 6
 ·exact fits_pi t oa ja ok jk w hb hn hG h6
 ·exact fits_no t oa ja ok jk w h2 h4 h5 h6
end Char
end Go.Proofs.YtlmodgnkmlbjhaaGreatDoor
