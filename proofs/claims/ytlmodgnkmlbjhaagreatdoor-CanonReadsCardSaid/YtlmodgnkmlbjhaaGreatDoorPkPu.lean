import Derived.Test.YtlmodgnkmlbjhaaGreatDoorPkShelf
import Derived.Test.YtlmodgnkmlbjhaaGreatDoorPkBs
import Derived.Test.YtlmodgnkmlbjhaaGreatDoorPkMat
import Derived.Lib.ParseIntBMem
import Derived.Lib.AtoiAllMem
import Derived.Laws.Closers25
import Derived.Laws.Closers25b
import Derived.BigCall
import Derived.BigGuard
namespace Go.Proofs.YtlmodgnkmlbjhaaGreatDoor
namespace Char
open Go.RowKit Go.Lib Go.Shelf
theorem low_all : ∀ c : Fin 256, (97 ≤ c.val ∧ c.val ≤ 102 → bits .or .u8 (c.val : Int) 32 = (c.val : Int)) ∧ (65 ≤ c.val ∧ c.val ≤ 70 → bits .or .u8 (c.val : Int) 32 = (c.val : Int) + 32) ∧
  (¬ (97 ≤ c.val ∧ c.val ≤ 102) → ¬ (65 ≤ c.val ∧ c.val ≤ 70) → bits .or .u8 (c.val : Int) 32 < 97 ∨ 103 ≤ bits .or .u8 (c.val : Int) 32) := by decide +kernel
theorem valN_ge (base : Nat) (hb : 1 ≤ base) : ∀ (l : List UInt8) (n m : Nat), valN base n l = some m → n ≤ m
 | [], n, m, h => by cases h; exact Nat.le_refl _
 | b :: t, n, m, h => by
  unfold valN at h
  split at h
  ·have := valN_ge base hb t _ m h
   have := Nat.le_mul_of_pos_right n (show 0 < base by omega)
   omega
  ·cases h
def PuR (base : Nat) (l : List UInt8) (v : Value) : Prop :=
 (∃ n : Nat, v = .tuple #[.int .u64 (n : Int), .nilIface] ∧ n < 2147483648 ∧ chrN base l = if isC (n : Int) then some n else none) ∨
 (∃ z k : Int, v = .tuple #[.int .u64 z, .iface 224 (.int .i64 k)] ∧ (k = 1 ∨ k = 2) ∧ chrN base l = none)
theorem PuR.empty (base : Nat) : PuR base [] (.tuple #[.int .u64 0, .iface 224 (.int .i64 2)]) := .inr ⟨0, 2, rfl, .inr rfl, rfl⟩
theorem chr_none {base : Nat} {l : List UInt8} (h : valN base 0 l = none) : chrN base l = none := by
 unfold chrN
 split
 ·rfl
 ·rw [h]; rfl
theorem PuR.bad {base : Nat} {l : List UInt8} (h : valN base 0 l = none) : PuR base l (.tuple #[.int .u64 0, .iface 224 (.int .i64 2)]) := .inr ⟨0, 2, rfl, .inr rfl, chr_none h⟩
theorem PuR.range {base n : Nat} {l r : List UInt8} (hb : 1 ≤ base) (h : valN base 0 l = valN base n r) (hn : 2147483647 < n) : PuR base l (.tuple #[.int .u64 2147483647, .iface 224 (.int .i64 1)]) := by
 refine .inr ⟨2147483647, 1, rfl, .inl rfl, ?_⟩
 unfold chrN
 split
 ·rfl
 ·cases hv : valN base n r with
  | none => rw [h, hv]; rfl
  | some m =>
   have := valN_ge base hb r n m hv
   rw [h, hv]
   show (if isC (m : Int) then some m else none) = none
   rw [if_neg]
   intro hc
   have := isC_le hc
   omega
theorem PuR.ok {base n : Nat} {l : List UInt8} {a : Int} (h : valN base 0 l = some n) (hn : n ≤ 2147483647) (hl : l ≠ []) (ha : a = (n : Int)) : PuR base l (.tuple #[.int .u64 a, .nilIface]) := by
 refine .inl ⟨n, by rw [ha], by omega, ?_⟩
 unfold chrN
 rw [if_neg hl, h]
 rfl
end Char
namespace Char
open Go.RowKit Go.Lib Go.Shelf
set_option maxHeartbeats 32000000 in
set_option maxRecDepth 100000 in
theorem pu10_any (l : List UInt8) (w : World) (hne : l ≠ []) (hl : l.length ≤ 100000) :
  Calls Tryz.prog 195 #[.string (bs l), .int .i64 10, .int .i64 31] w fun e w' => (∃ v, e = .returned v ∧ PuR 10 l v) ∧ Below w.heap.size w w' := by
 have hsz := bs_size l
 obtain ⟨t, ht⟩ : ∃ t, t = bs l := ⟨_, rfl⟩
 have hpos : 0 < l.length := List.length_pos_iff.2 hne
 rw [← ht] at hsz ⊢
 have hemp : t.toList.isEmpty = false := by
  rw [ht, bs_tl]
  cases l with
  | nil => exact absurd rfl hne
  | cons _ _ => rfl
 have hcv := Lib.run_convert_string_bytes (P := Tryz.prog) w 9 42 5 t (u := .string) Tryz.underlying9 Tryz.underlying42 Tryz.underlying5
 have hB : ∀ j, j < t.size → (Lib.bytesWorld w 5 t).cell? ⟨w.heap.size, j, none⟩ = some (.int .u8 (t.data.toList.getD j 0).toNat) := fun j hj => Lib.bytesWorld_cell w 5 t j hj
 have hbb : Below w.heap.size w (Lib.bytesWorld w 5 t) := Lib.bytesWorld_below _ _ _
 obtain ⟨W1, hW1⟩ : ∃ W1, W1 = Lib.bytesWorld w 5 t := ⟨_, rfl⟩
 rw [← hW1] at hcv hB hbb
 clear hW1
 rw [show t.data.toList = l by rw [ht]; rfl] at hB
 clear ht
 have HNE := Lib.hid hne
 clear hne
 have hmv : IntKind.u64.wrap (IntKind.u64.wrap 2147483648 - 1) = 2147483647 := by
  rw [IntKind.wrap_u64, IntKind.wrap_u64]
  decide
 go_enter Tryz.func195, Tryz.ntmps195
 go_wp2
 go_loop [12, 13, 101] (fun vu vn vi => ∃ (k acc : Nat) (a : Int), vu = .bool false ∧ vn = .int .u64 a ∧ vi = .int .i64 k ∧ k ≤ t.size ∧ Hid (a = (acc : Int) ∧ acc ≤ 2147483647 ∧ valN 10 0 l = valN 10 acc (l.drop k)))
  (fun _ _ vi => t.size - (RowKit.intOf vi).toNat)
 case atStart => exact ⟨0, 0, 0, rfl, rfl, rfl, by omega, rfl, by omega, rfl⟩
 case round =>
  obtain ⟨k, acc, a, rfl, rfl, rfl, hk, hh⟩ := hrel
  obtain ⟨ha, hacc, hdec⟩ := hh.out
  clear hh
  have a0 : 0 ≤ a := by omega
  have a1 : a ≤ 2147483647 := by omega
  by_cases hkn : k < t.size
  ·have hc := hB k hkn
   rw [drop_cons l k (by omega)] at hdec
   generalize l.getD k 0 = c at hc hdec
   have hc256 : c.toNat < 256 := c.toNat_lt
   have hlow := low_all ⟨c.toNat, hc256⟩
   dsimp only at hlow
   clear hB
   by_cases hdig : 48 ≤ c.toNat ∧ c.toNat ≤ 57
   ·have hd : dgV c = c.toNat - 48 := by unfold dgV; rw [if_pos hdig]
    obtain ⟨hd0, hd1⟩ := hdig
    have hF : valN 10 acc (c :: l.drop (k + 1)) = valN 10 (acc * 10 + (c.toNat - 48)) (l.drop (k + 1)) := by
     conv => lhs; unfold valN
     rw [hd, if_pos (by omega)]
    rw [hF] at hdec
    clear hlow hd hF
    by_cases hov : 2147483647 < acc * 10 + (c.toNat - 48)
    ·have HR := Lib.hid (PuR.range (by omega) hdec hov)
     have iov : 2147483647 < a * 10 + ((c.toNat : Int) - 48) := by omega
     clear hacc hov ha hdec
     go_wp2
     go_ret2
     exact ⟨⟨_, rfl, HR⟩, hbb⟩
    ·have HN : Hid (a * 10 + ((c.toNat : Int) - 48) = ((acc * 10 + (c.toNat - 48) : Nat) : Int) ∧ acc * 10 + (c.toNat - 48) ≤ 2147483647 ∧ valN 10 0 l = valN 10 (acc * 10 + (c.toNat - 48)) (l.drop (k + 1))) := Lib.hid ⟨by omega, by omega, hdec⟩
     have iov : a * 10 + ((c.toNat : Int) - 48) ≤ 2147483647 := by omega
     clear hacc hov hdec ha
     go_wp2
     refine ⟨⟨k + 1, acc * 10 + (c.toNat - 48), a * 10 + ((c.toNat : Int) - 48), rfl, (by first | rfl | (congr 1; omega)), (by first | rfl | (congr 1; omega)), by omega, HN⟩, by simp [RowKit.intOf]; omega⟩
   ·have hd : ¬ dgV c < 10 := by
     unfold dgV
     rw [if_neg hdig]
     split
     ·omega
     ·split <;> omega
    have hF : valN 10 acc (c :: l.drop (k + 1)) = none := by
     conv => lhs; unfold valN
     rw [if_neg hd]
    rw [hF] at hdec
    have HR := Lib.hid (PuR.bad hdec)
    clear hacc hF ha hd hlow hdec
    have hv0 := bits_lo_u8 .or (c.toNat : Int) 32
    have hv1 := bits_hi_u8 .or (c.toNat : Int) 32
    have hu0 := bits_lo_u8 .or 95 32
    have hu1 := bits_hi_u8 .or 95 32
    have e59 : ∀ args w, (callFunc 197 args).run Tryz.prog w = .ok (.enter 197 args) w := enters_of Tryz.func197 (by kernel_rfl) rfl
    go_wp2_with (go_at_fn 197; refine (AnyPu.internal_strconv_lower layLower _ _).mono ?_; rintro e w' ⟨rfl, rfl⟩)
    all_goals go_ret2
    all_goals exact ⟨⟨_, rfl, HR⟩, hbb⟩
  ·have hF : valN 10 acc (l.drop k) = some acc := by rw [List.drop_eq_nil_of_le (by omega)]; rfl
   rw [hF] at hdec
   have HR := Lib.hid (PuR.ok hdec hacc HNE.out ha)
   clear hacc hF ha hdec
   go_wp2
   go_ret2
   exact ⟨⟨_, rfl, HR⟩, hbb⟩
end Char
namespace Char
open Go.RowKit Go.Lib Go.Shelf
set_option maxHeartbeats 32000000 in
set_option maxRecDepth 100000 in
theorem pu16_any (l : List UInt8) (w : World) (hne : l ≠ []) (hl : l.length ≤ 100000) :
  Calls Tryz.prog 195 #[.string (bs l), .int .i64 16, .int .i64 31] w fun e w' => (∃ v, e = .returned v ∧ PuR 16 l v) ∧ Below w.heap.size w w' := by
 have hsz := bs_size l
 obtain ⟨t, ht⟩ : ∃ t, t = bs l := ⟨_, rfl⟩
 have hpos : 0 < l.length := List.length_pos_iff.2 hne
 rw [← ht] at hsz ⊢
 have hemp : t.toList.isEmpty = false := by
  rw [ht, bs_tl]
  cases l with
  | nil => exact absurd rfl hne
  | cons _ _ => rfl
 have hcv := Lib.run_convert_string_bytes (P := Tryz.prog) w 9 42 5 t (u := .string) Tryz.underlying9 Tryz.underlying42 Tryz.underlying5
 have hB : ∀ j, j < t.size → (Lib.bytesWorld w 5 t).cell? ⟨w.heap.size, j, none⟩ = some (.int .u8 (t.data.toList.getD j 0).toNat) := fun j hj => Lib.bytesWorld_cell w 5 t j hj
 have hbb : Below w.heap.size w (Lib.bytesWorld w 5 t) := Lib.bytesWorld_below _ _ _
 obtain ⟨W1, hW1⟩ : ∃ W1, W1 = Lib.bytesWorld w 5 t := ⟨_, rfl⟩
 rw [← hW1] at hcv hB hbb
 clear hW1
 rw [show t.data.toList = l by rw [ht]; rfl] at hB
 clear ht
 have HNE := Lib.hid hne
 clear hne
 have hmv : IntKind.u64.wrap (IntKind.u64.wrap 2147483648 - 1) = 2147483647 := by
  rw [IntKind.wrap_u64, IntKind.wrap_u64]
  decide
 go_enter Tryz.func195, Tryz.ntmps195
 go_wp2
 go_loop [12, 13, 101] (fun vu vn vi => ∃ (k acc : Nat) (a : Int), vu = .bool false ∧ vn = .int .u64 a ∧ vi = .int .i64 k ∧ k ≤ t.size ∧ Hid (a = (acc : Int) ∧ acc ≤ 2147483647 ∧ valN 16 0 l = valN 16 acc (l.drop k)))
  (fun _ _ vi => t.size - (RowKit.intOf vi).toNat)
 case atStart => exact ⟨0, 0, 0, rfl, rfl, rfl, by omega, rfl, by omega, rfl⟩
 case round =>
  obtain ⟨k, acc, a, rfl, rfl, rfl, hk, hh⟩ := hrel
  obtain ⟨ha, hacc, hdec⟩ := hh.out
  clear hh
  have a0 : 0 ≤ a := by omega
  have a1 : a ≤ 2147483647 := by omega
  by_cases hkn : k < t.size
  ·have hc := hB k hkn
   rw [drop_cons l k (by omega)] at hdec
   generalize l.getD k 0 = c at hc hdec
   have hc256 : c.toNat < 256 := c.toNat_lt
   have hlow := low_all ⟨c.toNat, hc256⟩
   dsimp only at hlow
   clear hB
   by_cases hdig : 48 ≤ c.toNat ∧ c.toNat ≤ 57
   ·have hd : dgV c = c.toNat - 48 := by unfold dgV; rw [if_pos hdig]
    obtain ⟨hd0, hd1⟩ := hdig
    have hF : valN 16 acc (c :: l.drop (k + 1)) = valN 16 (acc * 16 + (c.toNat - 48)) (l.drop (k + 1)) := by
     conv => lhs; unfold valN
     rw [hd, if_pos (by omega)]
    rw [hF] at hdec
    clear hlow hd hF
    by_cases hov : 2147483647 < acc * 16 + (c.toNat - 48)
    ·have HR := Lib.hid (PuR.range (by omega) hdec hov)
     have iov : 2147483647 < a * 16 + ((c.toNat : Int) - 48) := by omega
     clear hacc hov ha hdec
     go_wp2
     go_ret2
     exact ⟨⟨_, rfl, HR⟩, hbb⟩
    ·have HN : Hid (a * 16 + ((c.toNat : Int) - 48) = ((acc * 16 + (c.toNat - 48) : Nat) : Int) ∧ acc * 16 + (c.toNat - 48) ≤ 2147483647 ∧ valN 16 0 l = valN 16 (acc * 16 + (c.toNat - 48)) (l.drop (k + 1))) := Lib.hid ⟨by omega, by omega, hdec⟩
     have iov : a * 16 + ((c.toNat : Int) - 48) ≤ 2147483647 := by omega
     clear hacc hov hdec ha
     go_wp2
     refine ⟨⟨k + 1, acc * 16 + (c.toNat - 48), a * 16 + ((c.toNat : Int) - 48), rfl, (by first | rfl | (congr 1; omega)), (by first | rfl | (congr 1; omega)), by omega, HN⟩, by simp [RowKit.intOf]; omega⟩
   ·by_cases hx1 : 97 ≤ c.toNat ∧ c.toNat ≤ 102
    ·have hd : dgV c = c.toNat - 87 := by unfold dgV; rw [if_neg hdig, if_pos hx1]
     have hl2 := hlow.1 hx1
     obtain ⟨hd0, hd1⟩ := hx1
     have hF : valN 16 acc (c :: l.drop (k + 1)) = valN 16 (acc * 16 + (c.toNat - 87)) (l.drop (k + 1)) := by
      conv => lhs; unfold valN
      rw [hd, if_pos (by omega)]
     rw [hF] at hdec
     have e59 : ∀ args w, (callFunc 197 args).run Tryz.prog w = .ok (.enter 197 args) w := enters_of Tryz.func197 (by kernel_rfl) rfl
     clear hlow hd hF hdig 
     by_cases hov : 2147483647 < acc * 16 + (c.toNat - 87)
     ·have HR := Lib.hid (PuR.range (by omega) hdec hov)
      have iov : 2147483647 < a * 16 + ((c.toNat : Int) - 97 + 10) := by omega
      clear hacc hov ha hdec
      go_wp2_with (go_at_fn 197; refine (AnyPu.internal_strconv_lower layLower _ _).mono ?_; rintro e w' ⟨rfl, rfl⟩)
      go_ret2
      exact ⟨⟨_, rfl, HR⟩, hbb⟩
     ·have HN : Hid (a * 16 + ((c.toNat : Int) - 97 + 10) = ((acc * 16 + (c.toNat - 87) : Nat) : Int) ∧ acc * 16 + (c.toNat - 87) ≤ 2147483647 ∧ valN 16 0 l = valN 16 (acc * 16 + (c.toNat - 87)) (l.drop (k + 1))) := Lib.hid ⟨by omega, by omega, hdec⟩
      have iov : a * 16 + ((c.toNat : Int) - 97 + 10) ≤ 2147483647 := by omega
      clear hacc hov hdec ha
      go_wp2_with (go_at_fn 197; refine (AnyPu.internal_strconv_lower layLower _ _).mono ?_; rintro e w' ⟨rfl, rfl⟩)
      refine ⟨⟨k + 1, acc * 16 + (c.toNat - 87), a * 16 + ((c.toNat : Int) - 97 + 10), rfl, (by first | rfl | (congr 1; omega)), (by first | rfl | (congr 1; omega)), by omega, HN⟩, by simp [RowKit.intOf]; omega⟩
    ·by_cases hx2 : 65 ≤ c.toNat ∧ c.toNat ≤ 70
     ·have hd : dgV c = c.toNat - 55 := by unfold dgV; rw [if_neg hdig, if_neg hx1, if_pos hx2]
      have hl2 := hlow.2.1 hx2
      obtain ⟨hd0, hd1⟩ := hx2
      have hF : valN 16 acc (c :: l.drop (k + 1)) = valN 16 (acc * 16 + (c.toNat - 55)) (l.drop (k + 1)) := by
       conv => lhs; unfold valN
       rw [hd, if_pos (by omega)]
      rw [hF] at hdec
      have e59 : ∀ args w, (callFunc 197 args).run Tryz.prog w = .ok (.enter 197 args) w := enters_of Tryz.func197 (by kernel_rfl) rfl
      clear hlow hd hF hdig hx1
      by_cases hov : 2147483647 < acc * 16 + (c.toNat - 55)
      ·have HR := Lib.hid (PuR.range (by omega) hdec hov)
       have iov : 2147483647 < a * 16 + ((c.toNat : Int) + 32 - 97 + 10) := by omega
       clear hacc hov ha hdec
       go_wp2_with (go_at_fn 197; refine (AnyPu.internal_strconv_lower layLower _ _).mono ?_; rintro e w' ⟨rfl, rfl⟩)
       go_ret2
       exact ⟨⟨_, rfl, HR⟩, hbb⟩
      ·have HN : Hid (a * 16 + ((c.toNat : Int) + 32 - 97 + 10) = ((acc * 16 + (c.toNat - 55) : Nat) : Int) ∧ acc * 16 + (c.toNat - 55) ≤ 2147483647 ∧ valN 16 0 l = valN 16 (acc * 16 + (c.toNat - 55)) (l.drop (k + 1))) := Lib.hid ⟨by omega, by omega, hdec⟩
       have iov : a * 16 + ((c.toNat : Int) + 32 - 97 + 10) ≤ 2147483647 := by omega
       clear hacc hov hdec ha
       go_wp2_with (go_at_fn 197; refine (AnyPu.internal_strconv_lower layLower _ _).mono ?_; rintro e w' ⟨rfl, rfl⟩)
       refine ⟨⟨k + 1, acc * 16 + (c.toNat - 55), a * 16 + ((c.toNat : Int) + 32 - 97 + 10), rfl, (by first | rfl | (congr 1; omega)), (by first | rfl | (congr 1; omega)), by omega, HN⟩, by simp [RowKit.intOf]; omega⟩
     ·have hd : ¬ dgV c < 16 := by
       unfold dgV
       rw [if_neg hdig, if_neg hx1, if_neg hx2]
       omega
      have hF : valN 16 acc (c :: l.drop (k + 1)) = none := by
       conv => lhs; unfold valN
       rw [if_neg hd]
      rw [hF] at hdec
      have HR := Lib.hid (PuR.bad hdec)
      have hl2 := hlow.2.2 hx1 hx2
      clear hacc hF ha hd hlow hdec
      have hv0 := bits_lo_u8 .or (c.toNat : Int) 32
      have hv1 := bits_hi_u8 .or (c.toNat : Int) 32
      have h127 : bits .or .u8 95 32 = 127 := by decide
      have e59 : ∀ args w, (callFunc 197 args).run Tryz.prog w = .ok (.enter 197 args) w := enters_of Tryz.func197 (by kernel_rfl) rfl
      rcases hl2 with hl2 | hl2
      all_goals
       go_wp2_with (go_at_fn 197; refine (AnyPu.internal_strconv_lower layLower _ _).mono ?_; rintro e w' ⟨rfl, rfl⟩)
       all_goals go_ret2
       all_goals exact ⟨⟨_, rfl, HR⟩, hbb⟩
  ·have hF : valN 16 acc (l.drop k) = some acc := by rw [List.drop_eq_nil_of_le (by omega)]; rfl
   rw [hF] at hdec
   have HR := Lib.hid (PuR.ok hdec hacc HNE.out ha)
   clear hacc hF ha hdec
   go_wp2
   go_ret2
   exact ⟨⟨_, rfl, HR⟩, hbb⟩
end Char
end Go.Proofs.YtlmodgnkmlbjhaaGreatDoor
