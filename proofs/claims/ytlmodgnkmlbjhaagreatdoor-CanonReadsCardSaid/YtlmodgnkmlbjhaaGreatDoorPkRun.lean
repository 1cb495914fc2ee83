import Derived.Test.YtlmodgnkmlbjhaaGreatDoorPkMat
import Derived.Test.YtlmodgnkmlbjhaaGreatDoorPkBs
import Derived.Test.YtlmodgnkmlbjhaaGreatDoorPkRef
namespace Go.Proofs.YtlmodgnkmlbjhaaGreatDoor
namespace Char
open Go.RowKit Go.Lib
theorem slice_mid6 (l : List UInt8) (i j : Nat) (h : i ≤ j) (hj : j ≤ l.length) (wx : World) : (Instr.slice 9 (.string (bs l)) (some (.int .i64 (i : Int))) (some (.int .i64 (j : Int))) none).run Tryz.prog wx = .ok (.string (bs ((l.drop i).take (j - i)))) wx := by
 have := run_slice_string (P := Tryz.prog) wx 9 (bs l) .i64 .i64 (i : Int) (j : Int) Tryz.underlying9 (by omega) (by omega) (by rw [bs_size]; omega)
 rw [show (i : Int).toNat = i by omega, show (j : Int).toNat = j by omega, bs_ext] at this
 exact this
theorem slice_from (l : List UInt8) (i : Nat) (h : i ≤ l.length) (wx : World) : (Instr.slice 9 (.string (bs l)) (some (.int .i64 (i : Int))) none none).run Tryz.prog wx = .ok (.string (bs (l.drop i))) wx := by
 have hs := bs_size l
 have := run_slice_string_l (P := Tryz.prog) wx 9 (bs l) Tryz.underlying9 .i64 (i : Int) (by omega) (by omega)
 rw [this, show (i : Int).toNat = i by omega, hs, bs_ext]
 have e : (l.drop i).take (l.length - i) = l.drop i := List.take_of_length_le (by rw [List.length_drop]; omega)
 rw [e]
theorem ret_i {k : IntKind} {a b : Int} (h : a = b) : Ending.returned (.int k a) = .returned (.int k b) := by rw [h]
theorem ret_b {a b : Bool} (h : a = b) : Ending.returned (.bool a) = .returned (.bool b) := by rw [h]
set_option maxRecDepth 100000 in
set_option maxHeartbeats 4000000 in
theorem find_any (l t : List UInt8) (p : Nat) (w : World) (hl : l.length ≤ 60000) (hp : p ≤ 60010) (ht : 0 < t.length) (ht2 : t.length ≤ 1000) :
  Calls Tryz.prog 85 #[.string (bs l), .int .i64 (p : Int), .string (bs t)] w fun e w' => e = .returned (.int .i64 (fnd l t p)) ∧ w = w' := by
 obtain ⟨R, hR⟩ : ∃ R, fnd l t p = R := ⟨_, rfl⟩
 rw [hR]
 have HR := Lib.hid hR
 have hsz := bs_size l
 have hst := bs_size t
 clear hR
 go_enter Tryz.func85, Tryz.ntmps85
 go_wp2_with fail
 go_loop [7] (fun v => ∃ k : Nat, v = .int .i64 (k : Int) ∧ k ≤ 60020 ∧ Hid (p ≤ k ∧ fnd l t k = R)) (fun v => 60030 - (RowKit.intOf v).toNat)
 case atStart => exact ⟨p, rfl, by omega, Lib.hid ⟨Nat.le_refl _, HR.out⟩⟩
 case round =>
  obtain ⟨k, rfl, hk, HK⟩ := hrel
  by_cases hlt : k + t.length ≤ l.length
  ·have hsl := slice_mid6 l k (k + t.length) (by omega) hlt
   rw [show (((k + t.length : Nat)) : Int) = (k : Int) + (t.length : Int) by omega, Nat.add_sub_cancel_left] at hsl
   have hpt := pre_take t (l.drop k) (by rw [List.length_drop]; omega)
   cases hpre : t.isPrefixOf (l.drop k) with
   | true =>
    rw [hpre] at hpt
    have q : ((bs ((l.drop k).take t.length)).toList == (bs t).toList) = true := by rw [bs_tl, bs_tl]; exact hpt.symm
    have HX : Hid ((k : Int) = R) := Lib.hid (by rw [← HK.out.2, fnd_here hpre])
    clear hpt hpre
    generalize (l.drop k).take t.length = N at *
    go_wp2_with fail
    go_ret
    exact ⟨ret_i HX.out, rfl⟩
   | false =>
    rw [hpre] at hpt
    have q : ((bs ((l.drop k).take t.length)).toList == (bs t).toList) = false := by rw [bs_tl, bs_tl]; exact hpt.symm
    have HX : Hid (p ≤ k + 1 ∧ fnd l t (k + 1) = R) := Lib.hid ⟨by have := HK.out.1; omega, by rw [← HK.out.2, fnd_next (by omega) hpre]⟩
    clear hpt hpre
    generalize (l.drop k).take t.length = N at *
    go_wp2_with fail
    go_round
    case rel => exact ⟨k + 1, by go_num, by omega, HX⟩
    case measure => simp [RowKit.intOf]; omega
  ·have HX : Hid ((-1 : Int) = R) := Lib.hid (by rw [← HK.out.2, fnd_end (by omega) ht])
   go_wp2_with fail
   go_ret
   exact ⟨ret_i HX.out, rfl⟩
set_option maxRecDepth 100000 in
set_option maxHeartbeats 4000000 in
theorem begins_any (l t : List UInt8) (p : Nat) (w : World) (hl : l.length ≤ 60000) (hp : p ≤ l.length) (ht : t.length ≤ 1000) :
  Calls Tryz.prog 94 #[.string (bs l), .int .i64 (p : Int), .string (bs t)] w fun e w' => e = .returned (.bool (t.isPrefixOf (l.drop p))) ∧ w = w' := by
 have hsz := bs_size l
 have hst := bs_size t
 by_cases hlt : p + t.length ≤ l.length
 ·have hsl := slice_mid6 l p (p + t.length) (by omega) hlt
  rw [show (((p + t.length : Nat)) : Int) = (p : Int) + (t.length : Int) by omega, Nat.add_sub_cancel_left] at hsl
  have hpt := pre_take t (l.drop p) (by rw [List.length_drop]; omega)
  have q : ((bs ((l.drop p).take t.length)).toList == (bs t).toList) = t.isPrefixOf (l.drop p) := by rw [bs_tl, bs_tl]; exact hpt.symm
  generalize t.isPrefixOf (l.drop p) = v at *
  clear hpt
  generalize (l.drop p).take t.length = N at *
  go_enter Tryz.func94, Tryz.ntmps94
  go_wp2_with fail
  go_ret
  exact ⟨rfl, rfl⟩
 ·rw [pre_short (show (l.drop p).length < t.length by rw [List.length_drop]; omega)]
  go_enter Tryz.func94, Tryz.ntmps94
  go_wp2_with fail
  go_ret
  exact ⟨rfl, rfl⟩
end Char
namespace Char
open Go.RowKit Go.Lib
set_option maxRecDepth 100000 in
set_option maxHeartbeats 4000000 in
theorem run_any (l : List UInt8) (p : Nat) (w : World) (hl : l.length ≤ 60000) (hp : p ≤ l.length) :
  Calls Tryz.prog 126 #[.string (bs l), .int .i64 (p : Int)] w fun e w' => e = .returned (.int .i64 ((p + runL (l.drop p) : Nat) : Int)) ∧ Below w.heap.size w w' := by
 obtain ⟨R, hR⟩ : ∃ R, p + runL (l.drop p) = R := ⟨_, rfl⟩
 rw [hR]
 have HR := Lib.hid hR
 have hsz := bs_size l
 clear hR
 go_enter Tryz.func126, Tryz.ntmps126
 go_wp2_with fail
 go_loopw [1] (fun v wr => ∃ k : Nat, v = .int .i64 (k : Int) ∧ k ≤ l.length ∧ Hid (k + runL (l.drop k) = R) ∧ Hid (Below w.heap.size w wr)) (fun v _ => l.length - (RowKit.intOf v).toNat)
 case atStart => exact ⟨p, rfl, hp, HR, Lib.hid (Below.refl _ _)⟩
 case round =>
  obtain ⟨k, rfl, hk, HK, HB⟩ := hrel
  by_cases hlt : k < l.length
  ·have hsl := slice_from l k hk
   have ho := fun W => one_any (bs (l.drop k)) W (by rw [bs_size, List.length_drop]; omega)
   have ho2 : ∀ W, Calls Tryz.prog 111 #[.string (bs (l.drop k))] W fun e w' => e = .returned (.tuple #[.int .i64 ((oneL (l.drop k)).1 : Int), .int .i64 ((oneL (l.drop k)).2 : Int)]) ∧ W = w' := ho
   have hle := one_le (l.drop k)
   have hk2 := HK.out
   have hgo := @run_go (l.drop k)
   have hstop := @run_stop (l.drop k)
   rw [List.drop_drop] at hgo
   rw [List.length_drop] at hle
   generalize oneL (l.drop k) = o at *
   obtain ⟨n, d⟩ := o
   dsimp only at ho2 hle hgo hstop
   have HO := Lib.hid ho2
   by_cases hd : d = 0
   ·subst hd
    have HX : Hid ((k : Int) = (R : Int)) := Lib.hid (by rw [hstop (.inl rfl)] at hk2; omega)
    clear hk2 hgo hstop ho ho2
    generalize l.drop k = r at *
    go_wp2_with fail
    refine (HO.out _).mono ?_
    rintro e w1 ⟨rfl, rfl⟩
    go_wp2_with fail
    go_ret
    exact ⟨ret_i HX.out, HB.out⟩
   ·have hd2 : (((d : Nat) : Int) == 0) = false := by rw [beq_eq_false_iff_ne]; omega
    cases hpa : paC (n : Int) with
    | true =>
     have HX : Hid (k + d + runL (l.drop (k + d)) = R) := Lib.hid (by rw [hgo hd hpa] at hk2; omega)
     have HP := Lib.hid (fun W => refPart_any (n : Int) W)
     rw [hpa] at HP
     clear hk2 hgo hstop ho ho2 hpa
     generalize hr : l.drop k = r at *
     clear hr
     go_wp2_with fail
     refine (HO.out _).mono ?_
     rintro e w1 ⟨rfl, rfl⟩
     go_wp2_with fail
     refine (HP.out _).mono ?_
     rintro e w2 ⟨rfl, hb2⟩
     have HB2 := Lib.hid (HB.out.trans (hb2.mono HB.out.size))
     clear hb2
     go_wp2_with fail
     go_roundw
     case rel => exact ⟨k + d, by go_num, by omega, HX, HB2⟩
     case measure => simp [RowKit.intOf]; omega
    | false =>
     have HX : Hid ((k : Int) = (R : Int)) := Lib.hid (by rw [hstop (.inr hpa)] at hk2; omega)
     have HP := Lib.hid (fun W => refPart_any (n : Int) W)
     rw [hpa] at HP
     clear hk2 hgo hstop ho ho2 hpa
     generalize l.drop k = r at *
     go_wp2_with fail
     refine (HO.out _).mono ?_
     rintro e w1 ⟨rfl, rfl⟩
     go_wp2_with fail
     refine (HP.out _).mono ?_
     rintro e w2 ⟨rfl, hb2⟩
     go_wp2_with fail
     go_ret
     exact ⟨ret_i HX.out, HB.out.trans (hb2.mono HB.out.size)⟩
  ·have hk2 := HK.out
   rw [List.drop_eq_nil_of_le (by omega)] at hk2
   have HK2 : Hid ((k : Int) = (R : Int)) := Lib.hid (by rw [← hk2]; rfl)
   clear hk2
   go_wp2_with fail
   go_ret
   exact ⟨ret_i HK2.out, HB.out⟩
end Char
namespace Char
open Go.RowKit Go.Lib
def nmE (r : List UInt8) : Nat := if nmD (bs (r.take (runL r))) then 0 else if r = [] then 16 else 11
def NmPost (l : List UInt8) (p : Nat) (w : World) (e : Ending) (w' : World) : Prop :=
 e = .returned (.tuple #[.int .i64 ((if nmE (l.drop p) = 0 then p + runL (l.drop p) else 0 : Nat) : Int), .int .i64 (nmE (l.drop p) : Int)]) ∧ Below w.heap.size w w'
set_option maxRecDepth 100000 in
set_option maxHeartbeats 4000000 in
theorem refname_any (l : List UInt8) (p : Nat) (w : World) (hl : l.length ≤ 60000) (hp : p ≤ l.length) :
  Calls Tryz.prog 96 #[.string (bs l), .int .i64 (p : Int)] w (NmPost l p w) := by
 have hsz := bs_size l
 have HRU := Lib.hid (fun W => run_any l p W hl hp)
 have hrl := run_le _ (l.drop p) (Nat.le_refl _)
 rw [List.length_drop] at hrl
 have hnil : (l.drop p = []) ↔ p = l.length := by
  constructor
  ·intro h
   have := congrArg List.length h
   rw [List.length_drop] at this
   simp at this
   omega
  ·intro h; rw [h]; exact List.drop_eq_nil_of_le (Nat.le_refl _)
 have hr0 : l.drop p = [] → runL (l.drop p) = 0 := fun h => by rw [h]; rfl
 obtain ⟨k, hk⟩ : ∃ k, runL (l.drop p) = k := ⟨_, rfl⟩
 obtain ⟨E, hE⟩ : ∃ E, nmE (l.drop p) = E := ⟨_, rfl⟩
 have hE2 : E = if nmD (bs ((l.drop p).take k)) then 0 else if p = l.length then 16 else 11 := by
  rw [← hE, ← hk]
  unfold nmE
  simp only [hnil]
 unfold NmPost
 rw [hE]
 rw [hk] at HRU hrl hr0 ⊢
 obtain ⟨T, hT⟩ : ∃ T, (if E = 0 then p + k else 0) = T := ⟨_, rfl⟩
 rw [hT]
 have hsl := slice_mid6 l p (p + k) (by omega) (by omega)
 rw [show (((p + k : Nat)) : Int) = (p : Int) + (k : Int) by omega, Nat.add_sub_cancel_left] at hsl
 have hNl : ((l.drop p).take k).length ≤ 60000 := by rw [List.length_take, List.length_drop]; omega
 have hpk : p = l.length → k = 0 := fun h => hr0 (hnil.2 h)
 clear hnil hr0 hk hE
 generalize (l.drop p).take k = N at *
 have hnm := fun W => refName_any (bs N) W (by rw [bs_size]; omega)
 rw [show (((p + k : Nat)) : Int) = (p : Int) + (k : Int) by omega] at HRU
 cases hv : nmD (bs N) with
 | true =>
  rw [hv] at hE2 hnm
  have hE0 : E = 0 := by rw [hE2]; rfl
  have HX : Hid ((p : Int) + (k : Int) = (T : Int) ∧ (0 : Int) = (E : Int)) := Lib.hid ⟨by rw [← hT, if_pos hE0]; omega, by rw [hE0]; rfl⟩
  have HNM := Lib.hid hnm
  clear hE2 hnm hv hpk hT hE0
  go_enter Tryz.func96, Tryz.ntmps96
  go_wp2_with fail
  refine (HRU.out _).mono ?_
  rintro e w1 ⟨rfl, hb1⟩
  go_wp2_with fail
  refine (HNM.out _).mono ?_
  rintro e w2 ⟨rfl, hb2⟩
  go_wp2_with fail
  go_ret2
  exact ⟨ret_two HX.out.1 HX.out.2, hb1.trans (hb2.mono hb1.size)⟩
 | false =>
  rw [hv] at hE2 hnm
  have HNM := Lib.hid hnm
  by_cases hpl : p = l.length
  ·have hk0 := hpk hpl
   have hE0 : E = 16 := (by rw [hE2, if_neg (by simp), if_pos hpl])
   have HX : Hid ((0 : Int) = (T : Int) ∧ (16 : Int) = (E : Int)) := Lib.hid ⟨by rw [← hT, if_neg (by omega)]; rfl, by rw [hE0]; rfl⟩
   have q1 : ((p : Int) + (k : Int) == (p : Int)) = true := by rw [beq_iff_eq]; omega
   have q2 : ((p : Int) == (l.length : Int)) = true := by rw [beq_iff_eq]; omega
   clear hE2 hnm hv hpk hpl hT hE0
   clear hk0
   go_enter Tryz.func96, Tryz.ntmps96
   go_wp2_with fail
   refine (HRU.out _).mono ?_
   rintro e w1 ⟨rfl, hb1⟩
   go_wp2_with fail
   refine (HNM.out _).mono ?_
   rintro e w2 ⟨rfl, hb2⟩
   go_wp2_with fail
   go_ret2
   exact ⟨ret_two HX.out.1 HX.out.2, hb1.trans (hb2.mono hb1.size)⟩
  ·have hE0 : E = 11 := (by rw [hE2, if_neg (by simp), if_neg hpl])
   have HX : Hid ((0 : Int) = (T : Int) ∧ (11 : Int) = (E : Int)) := Lib.hid ⟨by rw [← hT, if_neg (by omega)]; rfl, by rw [hE0]; rfl⟩
   have q2 : ((p : Int) == (l.length : Int)) = false := by rw [beq_eq_false_iff_ne]; omega
   clear hE2 hnm hv hpk hpl hT hE0
   go_enter Tryz.func96, Tryz.ntmps96
   go_wp2_with fail
   refine (HRU.out _).mono ?_
   rintro e w1 ⟨rfl, hb1⟩
   go_wp2_with fail
   refine (HNM.out _).mono ?_
   rintro e w2 ⟨rfl, hb2⟩
   go_wp2_with fail
   all_goals go_ret2
   all_goals exact ⟨ret_two HX.out.1 HX.out.2, hb1.trans (hb2.mono hb1.size)⟩
end Char
namespace Char
open Go.RowKit Go.Lib
set_option maxRecDepth 100000 in
set_option maxHeartbeats 4000000 in
theorem spaces_any (l : List UInt8) (p : Nat) (w : World) (hl : l.length ≤ 60000) (hp : p ≤ l.length) :
  Calls Tryz.prog 97 #[.string (bs l), .int .i64 (p : Int)] w fun e w' => e = .returned (.int .i64 ((p + spcL (l.drop p) : Nat) : Int)) ∧ w = w' := by
 obtain ⟨R, hR⟩ : ∃ R, p + spcL (l.drop p) = R := ⟨_, rfl⟩
 rw [hR]
 have HR := Lib.hid hR
 have hsz := bs_size l
 clear hR
 go_enter Tryz.func97, Tryz.ntmps97
 go_wp2_with fail
 go_loop [1] (fun v => ∃ k : Nat, v = .int .i64 (k : Int) ∧ k ≤ l.length ∧ Hid (k + spcL (l.drop k) = R)) (fun v => l.length - (RowKit.intOf v).toNat)
 case atStart => exact ⟨p, rfl, hp, HR⟩
 case round =>
  obtain ⟨k, rfl, hk, HK⟩ := hrel
  by_cases hlt : k < l.length
  ·have hlt' : k < (bs l).size := by rw [hsz]; exact hlt
   have hgt := bs_get l k hlt'
   have hk2 := HK.out
   rw [drop_cons l k hlt, spc_cons] at hk2
   obtain ⟨nb, hnb⟩ : ∃ nb, (l.getD k 0).toNat = nb := ⟨_, rfl⟩
   have hg : ((bs l)[k]'hlt').toNat = nb := by rw [hgt, hnb]
   rw [hnb] at hk2
   have hn256 : nb < 256 := by rw [← hnb]; exact UInt8.toNat_lt _
   clear hgt hnb
   cases hb : spC (nb : Int) with
   | true =>
    have HS := Lib.hid (fun W => refSpace_any (nb : Int) W)
    rw [hb] at HS hk2
    have HK2 : Hid (k + 1 + spcL (l.drop (k + 1)) = R) := Lib.hid (by rw [if_pos rfl] at hk2; omega)
    clear hk2 hb
    go_wp2_with fail
    refine (HS.out _).mono ?_
    rintro e w1 ⟨rfl, rfl⟩
    go_wp2_with fail
    go_round
    case rel => exact ⟨k + 1, by go_num, by omega, HK2⟩
    case measure => simp [RowKit.intOf]; omega
   | false =>
    have HS := Lib.hid (fun W => refSpace_any (nb : Int) W)
    rw [hb] at HS hk2
    have HK2 : Hid ((k : Int) = (R : Int)) := Lib.hid (by rw [if_neg (by simp)] at hk2; omega)
    clear hk2 hb
    go_wp2_with fail
    refine (HS.out _).mono ?_
    rintro e w1 ⟨rfl, rfl⟩
    go_wp2_with fail
    go_ret
    exact ⟨ret_i HK2.out, rfl⟩
  ·have hk2 := HK.out
   rw [List.drop_eq_nil_of_le (by omega)] at hk2
   have HK2 : Hid ((k : Int) = (R : Int)) := Lib.hid (by rw [← hk2]; rfl)
   clear hk2
   go_wp2_with fail
   go_ret
   exact ⟨ret_i HK2.out, rfl⟩
set_option maxRecDepth 100000 in
set_option maxHeartbeats 4000000 in
theorem must_any (l : List UInt8) (p : Nat) (c : UInt8) (w : World) :
  Calls Tryz.prog 98 #[.string (bs l), .int .i64 (p : Int), .int .u8 (c.toNat : Int)] w fun e w' => e = .returned (.int .i64 (mustL (l.drop p) c : Int)) ∧ w = w' := by
 have hsz := bs_size l
 by_cases hlt : p < l.length
 ·have hlt' : p < (bs l).size := by rw [hsz]; exact hlt
  have hgt := bs_get l p hlt'
  rw [drop_cons l p hlt]
  generalize l.getD p 0 = b at *
  obtain ⟨nb, hnb⟩ : ∃ nb, b.toNat = nb := ⟨_, rfl⟩
  obtain ⟨nc, hnc⟩ : ∃ nc, c.toNat = nc := ⟨_, rfl⟩
  have hg : ((bs l)[p]'hlt').toNat = nb := by rw [hgt, hnb]
  by_cases h : b = c
  ·have q : ((nb : Int) != (nc : Int)) = false := by rw [← hnb, ← hnc, h]; simp
   have HX : Hid ((0 : Int) = (mustL (b :: l.drop (p + 1)) c : Int)) := Lib.hid (by simp [mustL, h])
   rw [hnc]
   clear hgt hnb h hnc
   go_enter Tryz.func98, Tryz.ntmps98
   go_wp2_with fail
   go_ret
   exact ⟨ret_i HX.out, rfl⟩
  ·have q : ((nb : Int) != (nc : Int)) = true := by
    rw [bne_iff_ne, ← hnb, ← hnc]
    intro hh
    exact h (UInt8.toNat_inj.1 (by omega))
   have HX : Hid ((13 : Int) = (mustL (b :: l.drop (p + 1)) c : Int)) := Lib.hid (by simp [mustL, h])
   rw [hnc]
   clear hgt hnb h hnc
   go_enter Tryz.func98, Tryz.ntmps98
   go_wp2_with fail
   go_ret
   exact ⟨ret_i HX.out, rfl⟩
 ·rw [List.drop_eq_nil_of_le (by omega)]
  go_enter Tryz.func98, Tryz.ntmps98
  go_wp2_with fail
  go_ret
  exact ⟨rfl, rfl⟩
end Char
end Go.Proofs.YtlmodgnkmlbjhaaGreatDoor
