import Derived.Test.YtlmodgnkmlbjhaaGreatDoorPkBs
import Derived.Test.YtlmodgnkmlbjhaaGreatDoorPkMat
import Derived.Laws.IdiomStrings
import Derived.Test.YtlmodgnkmlbjhaaGreatDoorPkRef
namespace Go.Proofs.YtlmodgnkmlbjhaaGreatDoor
namespace Char
open Go.RowKit Go.Lib
theorem ret_int {k : IntKind} {a b : Int} (h : a = b) : Ending.returned (.int k a) = .returned (.int k b) := by rw [h]
set_option maxHeartbeats 2000000 in
theorem value_any (c : UInt8) (w : World) : Calls Tryz.prog 159 #[.int .u8 (c.toNat : Int)] w fun e w' => e = .returned (.int .i64 (dgV c : Int)) ∧ w' = w := by
 have hlt := c.toNat_lt
 unfold dgV
 generalize c.toNat = n at *
 go_enter Tryz.func159, Tryz.ntmps159
 by_cases h1 : 48 ≤ n ∧ n ≤ 57
 ·rw [if_pos h1]
  obtain ⟨a1, a2⟩ := h1
  go_wp2_with fail
  go_ret
  exact ⟨ret_int (by omega), rfl⟩
 ·rw [if_neg h1]
  by_cases h2 : 97 ≤ n ∧ n ≤ 102
  ·rw [if_pos h2]
   obtain ⟨a1, a2⟩ := h2
   have a3 : ¬ n ≤ 57 := by omega
   clear h1
   go_wp2_with fail
   go_ret
   exact ⟨ret_int (by omega), rfl⟩
  ·rw [if_neg h2]
   by_cases h3 : 65 ≤ n ∧ n ≤ 70
   ·rw [if_pos h3]
    obtain ⟨a1, a2⟩ := h3
    clear h1 h2
    go_wp2_with fail
    go_ret
    exact ⟨ret_int (by omega), rfl⟩
   ·rw [if_neg h3]
    go_wp2_with fail
    all_goals go_ret
    all_goals exact ⟨rfl, rfl⟩
theorem conv_back (w : World) (L : List Int) (hL : ∀ x ∈ L, 0 ≤ x ∧ x < 256) :
  (convert 42 9 (.slice (some ⟨w.heap.size, 0, none⟩) L.length L.length)).run Tryz.prog (w.alloc (.cells (L.map (Value.int .u8)).toArray 5)) = .ok (.string (bs (L.map fun x => x.toNat.toUInt8))) (w.alloc (.cells (L.map (Value.int .u8)).toArray 5)) := by
 have h := run_convert_bytes_back (P := Tryz.prog) (w.alloc (.cells (L.map (Value.int .u8)).toArray 5)) 42 9 5 ⟨w.heap.size, 0, none⟩ L.length (L.map fun x => x.toNat.toUInt8) Tryz.underlying42 Tryz.underlying5 Tryz.underlying9 ?_
 ·rw [List.length_map] at h
  exact h
 ·intro j hj
  have hadd : (⟨w.heap.size, 0, none⟩ : Addr).add j = ⟨w.heap.size, j, none⟩ := by unfold Addr.add; split <;> simp_all
  rw [List.length_map] at hj
  have hx := hL L[j] (List.getElem_mem hj)
  rw [hadd, World.cell?_alloc_new]
  simp only [List.getElem?_toArray, List.getElem?_map, List.getElem?_eq_getElem hj, Option.map_some, List.getElem_map]
  congr 2
  simp
  omega
def UtPost (z : Int) (w : World) (e : Ending) (w' : World) : Prop := e = .returned (.string (bs (encodeRune z))) ∧ Below w.heap.size w w'
set_option maxRecDepth 100000 in
set_option maxHeartbeats 2000000 in
theorem utf_one (z : Int) (h : 0 ≤ z) (h2 : z < 128) (w : World) : Calls Tryz.prog 160 #[.int .i64 z] w (UtPost z w) := by
 have hcv : (convert 42 9 (.slice (some ⟨w.heap.size, 0, none⟩) 1 1)).run Tryz.prog (w.alloc (.cells #[.int .u8 (z)] 5)) = .ok (.string (bs (encodeRune z))) (w.alloc (.cells #[.int .u8 (z)] 5)) := by
  have h := conv_back w [z] (by rw [← encodeRuneZ_one (by omega) (by omega)]; exact encodeRuneZ_byte z)
  have e : encodeRune z = [z].map fun x => x.toNat.toUInt8 := by unfold encodeRune; rw [encodeRuneZ_one (by omega) (by omega)]
  rw [e]
  exact h
 unfold UtPost
 generalize encodeRune z = X at *
 go_enter Tryz.func160, Tryz.ntmps160
 go_wp2_with fail
 go_ret
 exact ⟨rfl, (Below.refl _ _).alloc (Nat.le_refl _) _⟩
set_option maxRecDepth 100000 in
set_option maxHeartbeats 2000000 in
theorem utf_two (z : Int) (h : 128 ≤ z) (h2 : z < 2048) (w : World) : Calls Tryz.prog 160 #[.int .i64 z] w (UtPost z w) := by
 have hcv : (convert 42 9 (.slice (some ⟨w.heap.size, 0, none⟩) 2 2)).run Tryz.prog (w.alloc (.cells #[.int .u8 (192 + z / 64), .int .u8 (128 + z % 64)] 5)) = .ok (.string (bs (encodeRune z))) (w.alloc (.cells #[.int .u8 (192 + z / 64), .int .u8 (128 + z % 64)] 5)) := by
  have h := conv_back w [192 + z / 64, 128 + z % 64] (by rw [← encodeRuneZ_two (by omega) (by omega)]; exact encodeRuneZ_byte z)
  have e : encodeRune z = [192 + z / 64, 128 + z % 64].map fun x => x.toNat.toUInt8 := by unfold encodeRune; rw [encodeRuneZ_two (by omega) (by omega)]
  rw [e]
  exact h
 unfold UtPost
 generalize encodeRune z = X at *
 go_enter Tryz.func160, Tryz.ntmps160
 go_wp2_with fail
 go_ret
 exact ⟨rfl, (Below.refl _ _).alloc (Nat.le_refl _) _⟩
set_option maxRecDepth 100000 in
set_option maxHeartbeats 2000000 in
theorem utf_three (z : Int) (h : 2048 ≤ z) (h2 : z < 65536) (h3 : z < 55296 ∨ 57343 < z) (w : World) : Calls Tryz.prog 160 #[.int .i64 z] w (UtPost z w) := by
 have hcv : (convert 42 9 (.slice (some ⟨w.heap.size, 0, none⟩) 3 3)).run Tryz.prog (w.alloc (.cells #[.int .u8 (224 + z / 4096), .int .u8 (128 + z / 64 % 64), .int .u8 (128 + z % 64)] 5)) = .ok (.string (bs (encodeRune z))) (w.alloc (.cells #[.int .u8 (224 + z / 4096), .int .u8 (128 + z / 64 % 64), .int .u8 (128 + z % 64)] 5)) := by
  have h := conv_back w [224 + z / 4096, 128 + z / 64 % 64, 128 + z % 64] (by rw [← encodeRuneZ_three (by omega)]; exact encodeRuneZ_byte z)
  have e : encodeRune z = [224 + z / 4096, 128 + z / 64 % 64, 128 + z % 64].map fun x => x.toNat.toUInt8 := by unfold encodeRune; rw [encodeRuneZ_three (by omega)]
  rw [e]
  exact h
 clear h3
 unfold UtPost
 generalize encodeRune z = X at *
 go_enter Tryz.func160, Tryz.ntmps160
 go_wp2_with fail
 go_ret
 exact ⟨rfl, (Below.refl _ _).alloc (Nat.le_refl _) _⟩
set_option maxRecDepth 100000 in
set_option maxHeartbeats 2000000 in
theorem utf_four (z : Int) (h : 65536 ≤ z) (h2 : z ≤ 1114111) (w : World) : Calls Tryz.prog 160 #[.int .i64 z] w (UtPost z w) := by
 have hcv : (convert 42 9 (.slice (some ⟨w.heap.size, 0, none⟩) 4 4)).run Tryz.prog (w.alloc (.cells #[.int .u8 (240 + z / 262144), .int .u8 (128 + z / 4096 % 64), .int .u8 (128 + z / 64 % 64), .int .u8 (128 + z % 64)] 5)) = .ok (.string (bs (encodeRune z))) (w.alloc (.cells #[.int .u8 (240 + z / 262144), .int .u8 (128 + z / 4096 % 64), .int .u8 (128 + z / 64 % 64), .int .u8 (128 + z % 64)] 5)) := by
  have h := conv_back w [240 + z / 262144, 128 + z / 4096 % 64, 128 + z / 64 % 64, 128 + z % 64] (by rw [← encodeRuneZ_four (by omega) (by omega)]; exact encodeRuneZ_byte z)
  have e : encodeRune z = [240 + z / 262144, 128 + z / 4096 % 64, 128 + z / 64 % 64, 128 + z % 64].map fun x => x.toNat.toUInt8 := by unfold encodeRune; rw [encodeRuneZ_four (by omega) (by omega)]
  rw [e]
  exact h
 unfold UtPost
 generalize encodeRune z = X at *
 go_enter Tryz.func160, Tryz.ntmps160
 go_wp2_with fail
 go_ret
 exact ⟨rfl, (Below.refl _ _).alloc (Nat.le_refl _) _⟩
theorem utf_any (z : Int) (h : isC z = true) (w : World) : Calls Tryz.prog 160 #[.int .i64 z] w (UtPost z w) := by
 have hc := isC_le h
 by_cases h1 : z < 128
 ·exact utf_one z (by omega) h1 w
 by_cases h2 : z < 2048
 ·exact utf_two z (by omega) h2 w
 by_cases h3 : z < 65536
 ·exact utf_three z (by omega) h3 (by omega) w
 ·exact utf_four z (by omega) (by omega) w
end Char
namespace Char
open Go.RowKit Go.Lib
def chB (o : Option Nat) : List UInt8 := match o with
 | some n => encodeRune (n : Int)
 | none => []
def ChPost (s : List UInt8) (w : World) (e : Ending) (w' : World) : Prop := e = .returned (.string (bs (chB (chL s)))) ∧ Below w.heap.size w w'
theorem eq_bs5 (N l : List UInt8) (h : N = l) : ((bs N).toList == l) = true := by rw [bs_tl, h]; simp
theorem ne_bs5 (N l : List UInt8) (h : N ≠ l) : ((bs N).toList == l) = false := by rw [bs_tl]; simpa using h
theorem ch_no (s : List UInt8) (h : ([35] : List UInt8).isPrefixOf s = false) (n1 : s ≠ [97, 109, 112]) (n2 : s ≠ [108, 116]) (n3 : s ≠ [103, 116]) (n4 : s ≠ [113, 117, 111, 116]) (n5 : s ≠ [97, 112, 111, 115]) : chL s = none := by
 unfold chL
 rw [if_neg n1, if_neg n2, if_neg n3, if_neg n4, if_neg n5, h, if_neg, if_neg (by simp)]
 cases s with
 | nil => simp
 | cons c t =>
  intro h2
  simp [List.isPrefixOf] at h h2
  exact h h2.1
theorem ch_hex (d : List UInt8) : chL (35 :: 120 :: d) = chrN 16 d := by
 unfold chL
 rw [if_neg (by simp), if_neg (by simp), if_neg (by simp), if_neg (by simp), if_neg (by simp), if_pos (by simp [List.isPrefixOf])]
 rfl
theorem ch_dec (d : List UInt8) (h : d.head? ≠ some 120) : chL (35 :: d) = chrN 10 d := by
 unfold chL
 rw [if_neg (by simp), if_neg (by simp), if_neg (by simp), if_neg (by simp), if_neg (by simp), if_neg, if_pos (by simp [List.isPrefixOf])]
 ·rfl
 ·cases d with
  | nil => simp [List.isPrefixOf]
  | cons c t =>
   intro h2
   simp [List.isPrefixOf] at h2
   exact h (by simp [h2])
theorem cap_le (n : Nat) : capN n ≤ 0x110000 := by unfold capN; split <;> omega
theorem valC_stop {base : Nat} {n : Nat} {b : UInt8} {t : List UInt8} (h : ¬ dgV b < base) : valC base n (b :: t) = none := by unfold valC; rw [if_neg h]
theorem valC_go {base : Nat} {n : Nat} {b : UInt8} {t : List UInt8} (h : dgV b < base) : valC base n (b :: t) = valC base (capN (n * base + dgV b)) t := by
 conv => lhs; unfold valC
 rw [if_pos h]
theorem dgV_le (b : UInt8) : dgV b ≤ 99 := by
 unfold dgV
 have := b.toNat_lt
 split
 ·omega
 ·split
  ·omega
  ·split <;> omega
def Dg (base : Nat) (s : List UInt8) (fr : Nat) (R : Option Nat) : Prop := chB (chL s) = chB (R.bind fun n => if isC (n : Int) then some n else none) ∧ valC base 0 (s.drop fr) = R
theorem Dg.none {base : Nat} {s : List UInt8} {fr : Nat} (h : Dg base s fr Option.none) : chB (chL s) = [] := h.1
theorem Dg.no {base : Nat} {s : List UInt8} {fr n : Nat} (h : Dg base s fr (some n)) (hn : isC (n : Int) = false) : chB (chL s) = [] := by
 rw [h.1]
 show chB (if isC (n : Int) then some n else Option.none) = []
 rw [hn]
 rfl
theorem Dg.yes {base : Nat} {s : List UInt8} {fr n : Nat} (h : Dg base s fr (some n)) (hn : isC (n : Int) = true) : chB (chL s) = encodeRune (n : Int) := by
 rw [h.1]
 show chB (if isC (n : Int) then some n else Option.none) = _
 rw [hn]
 rfl
theorem Dg.of {base : Nat} (hb : base = 10 ∨ base = 16) {s d : List UInt8} {fr : Nat} (h : chL s = chrN base d) (hd : d ≠ []) (hs : s.drop fr = d) : Dg base s fr (valC base 0 (s.drop fr)) := by
 refine ⟨?_, rfl⟩
 rw [h, chrN_cap base hb d hd, hs]
def namesA : Array Value := #[.string ⟨#[97, 109, 112]⟩, .string ⟨#[108, 116]⟩, .string ⟨#[103, 116]⟩, .string ⟨#[113, 117, 111, 116]⟩, .string ⟨#[97, 112, 111, 115]⟩]
set_option maxRecDepth 100000 in
set_option maxHeartbeats 16000000 in
theorem char_any (s : List UInt8) (w : World) (hl : s.length ≤ 60000) :
  Calls Tryz.prog 125 #[.string (bs s)] w (ChPost s w) := by
 have hsz := bs_size s
 go_enter Tryz.func125, Tryz.ntmps125
 go_wp2_with fail
 go_loop [4] (fun i => ∃ k : Nat, i = .int .i64 (k : Int) ∧ k ≤ 5 ∧ Hid ((0 < k → s ≠ [97, 109, 112]) ∧ (1 < k → s ≠ [108, 116]) ∧ (2 < k → s ≠ [103, 116]) ∧ (3 < k → s ≠ [113, 117, 111, 116]) ∧ (4 < k → s ≠ [97, 112, 111, 115]))) (fun i => 5 - (RowKit.intOf i).toNat)
 case atStart => exact ⟨0, rfl, by omega, Lib.hid (by omega)⟩
 case round =>
  obtain ⟨k, rfl, hk, HN⟩ := hrel
  rcases (show k = 0 ∨ k = 1 ∨ k = 2 ∨ k = 3 ∨ k = 4 ∨ k = 5 by omega) with rfl | rfl | rfl | rfl | rfl | rfl
  ·by_cases hn : s = [97, 109, 112]
   ·have q := eq_bs5 s _ hn
    have hsl : ∀ wx, (Instr.slice 9 (.string ⟨#[38, 60, 62, 34, 39]⟩) (some (.int .i64 0)) (some (.int .i64 1)) none).run Tryz.prog wx = .ok (.string (bs [38])) wx := fun wx => slice_one [38, 60, 62, 34, 39] 0 (by decide) wx
    have HX : Hid (chB (chL s) = [38]) := Lib.hid (by rw [hn]; rfl)
    clear hn HN
    go_wp2_with fail
    go_ret
    exact ⟨by rw [HX.out]; rfl, (Below.refl _ _).alloc (Nat.le_refl _) _⟩
   ·have q := ne_bs5 s _ hn
    have HN2 := Lib.hid hn
    clear hn
    go_wp2_with fail
    go_round
    case rel => exact ⟨1, rfl, by omega, Lib.hid ⟨fun _ => HN2.out, fun h => by omega, fun h => by omega, fun h => by omega, fun h => by omega⟩⟩
    case measure => simp [RowKit.intOf]
  ·by_cases hn : s = [108, 116]
   ·have q := eq_bs5 s _ hn
    have hsl : ∀ wx, (Instr.slice 9 (.string ⟨#[38, 60, 62, 34, 39]⟩) (some (.int .i64 1)) (some (.int .i64 2)) none).run Tryz.prog wx = .ok (.string (bs [60])) wx := fun wx => slice_one [38, 60, 62, 34, 39] 1 (by decide) wx
    have HX : Hid (chB (chL s) = [60]) := Lib.hid (by rw [hn]; rfl)
    clear hn HN
    go_wp2_with fail
    go_ret
    exact ⟨by rw [HX.out]; rfl, (Below.refl _ _).alloc (Nat.le_refl _) _⟩
   ·have q := ne_bs5 s _ hn
    have HN2 := Lib.hid hn
    clear hn
    go_wp2_with fail
    go_round
    case rel => exact ⟨2, rfl, by omega, Lib.hid ⟨fun h => HN.out.1 (by omega), fun _ => HN2.out, fun h => by omega, fun h => by omega, fun h => by omega⟩⟩
    case measure => simp [RowKit.intOf]
  ·by_cases hn : s = [103, 116]
   ·have q := eq_bs5 s _ hn
    have hsl : ∀ wx, (Instr.slice 9 (.string ⟨#[38, 60, 62, 34, 39]⟩) (some (.int .i64 2)) (some (.int .i64 3)) none).run Tryz.prog wx = .ok (.string (bs [62])) wx := fun wx => slice_one [38, 60, 62, 34, 39] 2 (by decide) wx
    have HX : Hid (chB (chL s) = [62]) := Lib.hid (by rw [hn]; rfl)
    clear hn HN
    go_wp2_with fail
    go_ret
    exact ⟨by rw [HX.out]; rfl, (Below.refl _ _).alloc (Nat.le_refl _) _⟩
   ·have q := ne_bs5 s _ hn
    have HN2 := Lib.hid hn
    clear hn
    go_wp2_with fail
    go_round
    case rel => exact ⟨3, rfl, by omega, Lib.hid ⟨fun h => HN.out.1 (by omega), fun h => HN.out.2.1 (by omega), fun _ => HN2.out, fun h => by omega, fun h => by omega⟩⟩
    case measure => simp [RowKit.intOf]
  ·by_cases hn : s = [113, 117, 111, 116]
   ·have q := eq_bs5 s _ hn
    have hsl : ∀ wx, (Instr.slice 9 (.string ⟨#[38, 60, 62, 34, 39]⟩) (some (.int .i64 3)) (some (.int .i64 4)) none).run Tryz.prog wx = .ok (.string (bs [34])) wx := fun wx => slice_one [38, 60, 62, 34, 39] 3 (by decide) wx
    have HX : Hid (chB (chL s) = [34]) := Lib.hid (by rw [hn]; rfl)
    clear hn HN
    go_wp2_with fail
    go_ret
    exact ⟨by rw [HX.out]; rfl, (Below.refl _ _).alloc (Nat.le_refl _) _⟩
   ·have q := ne_bs5 s _ hn
    have HN2 := Lib.hid hn
    clear hn
    go_wp2_with fail
    go_round
    case rel => exact ⟨4, rfl, by omega, Lib.hid ⟨fun h => HN.out.1 (by omega), fun h => HN.out.2.1 (by omega), fun h => HN.out.2.2.1 (by omega), fun _ => HN2.out, fun h => by omega⟩⟩
    case measure => simp [RowKit.intOf]
  ·by_cases hn : s = [97, 112, 111, 115]
   ·have q := eq_bs5 s _ hn
    have hsl : ∀ wx, (Instr.slice 9 (.string ⟨#[38, 60, 62, 34, 39]⟩) (some (.int .i64 4)) (some (.int .i64 5)) none).run Tryz.prog wx = .ok (.string (bs [39])) wx := fun wx => slice_one [38, 60, 62, 34, 39] 4 (by decide) wx
    have HX : Hid (chB (chL s) = [39]) := Lib.hid (by rw [hn]; rfl)
    clear hn HN
    go_wp2_with fail
    go_ret
    exact ⟨by rw [HX.out]; rfl, (Below.refl _ _).alloc (Nat.le_refl _) _⟩
   ·have q := ne_bs5 s _ hn
    have HN2 := Lib.hid hn
    clear hn
    go_wp2_with fail
    go_round
    case rel => exact ⟨5, rfl, by omega, Lib.hid ⟨fun h => HN.out.1 (by omega), fun h => HN.out.2.1 (by omega), fun h => HN.out.2.2.1 (by omega), fun h => HN.out.2.2.2.1 (by omega), fun _ => HN2.out⟩⟩
    case measure => simp [RowKit.intOf]
  ·have m1 := HN.out.1 (by omega)
   have m2 := HN.out.2.1 (by omega)
   have m3 := HN.out.2.2.1 (by omega)
   have m4 := HN.out.2.2.2.1 (by omega)
   have m5 := HN.out.2.2.2.2 (by omega)
   clear HN
   by_cases h0 : ([35] : List UInt8).isPrefixOf s = true
   ·obtain ⟨d, rfl⟩ : ∃ d, s = 35 :: d := by
     cases s with
     | nil => simp [List.isPrefixOf] at h0
     | cons c d => simp [List.isPrefixOf] at h0; exact ⟨d, by rw [← h0]⟩
    clear m1 m2 m3 m4 m5 h0 hsz
    have hz := bs_size (35 :: d)
    by_cases hx : d.head? = some 120
    ·obtain ⟨t, rfl⟩ : ∃ t, d = 120 :: t := by
      cases d with
      | nil => cases hx
      | cons c t => simp at hx; exact ⟨t, by rw [hx]⟩
     clear hx
     have hz0 : 0 < (bs (35 :: 120 :: t)).size := by rw [hz]; simp
     have hz1 : 1 < (bs (35 :: 120 :: t)).size := by rw [hz]; simp
     have g0 : ((bs (35 :: 120 :: t))[0]'hz0).toNat = 35 := rfl
     have g1 : ((bs (35 :: 120 :: t))[1]'hz1).toNat = 120 := rfl
     by_cases ht : t = []
     ·subst ht
      have HEND : Hid (chB (chL [35, 120]) = []) := Lib.hid rfl
      have hz2 : (bs [35, 120]).size = 2 := hz
      clear hz
      generalize bs [35, 120] = S at *
      go_wp2_with fail
      go_ret
      exact ⟨by rw [HEND.out]; rfl, (Below.refl _ _).alloc (Nat.le_refl _) _⟩
     ·have hDg := Dg.of (.inr rfl) (fr := 2) (ch_hex t) ht rfl
      have hpos : 0 < t.length := List.length_pos_iff.2 ht
      have hz2 : 2 < (bs (35 :: 120 :: t)).size := by rw [hz]; simp; omega
      clear ht
      obtain ⟨S0, hS⟩ : ∃ S0, 35 :: 120 :: t = S0 := ⟨_, rfl⟩
      simp only [hS] at *
      clear hS
      obtain ⟨R, hR⟩ : ∃ R, valC 16 0 (S0.drop 2) = R := ⟨_, rfl⟩
      rw [hR] at hDg
      have HD := Lib.hid hDg
      have HR := Lib.hid hR
      have HG := Lib.hid (fun j (hj : j < (bs S0).size) => bs_get S0 j hj)
      clear hDg hR
      go_wp2_with fail
      go_loop [7, 8] (fun n k => ∃ (kk m : Nat) (a : Int), n = .int .i64 a ∧ k = .int .i64 (kk : Int) ∧ 2 ≤ kk ∧ kk ≤ (bs S0).size ∧ Hid (a = (m : Int) ∧ m ≤ 1114112 ∧ valC 16 m (S0.drop kk) = R)) (fun _ k => (bs S0).size - (RowKit.intOf k).toNat)
      case atStart => exact ⟨2, 0, 0, rfl, rfl, by omega, by omega, Lib.hid ⟨rfl, by omega, HR.out⟩⟩
      case round =>
       obtain ⟨kk, m, a, rfl, rfl, hf, hk, HM⟩ := hrel
       obtain ⟨ha, hm, hv⟩ := HM.out
       clear HM
       have a0 : 0 ≤ a := by omega
       have a1 : a ≤ 1114112 := by omega
       by_cases hlt : kk < (bs S0).size
       ·have hgt := HG.out kk hlt
        rw [drop_cons S0 kk (by omega)] at hv
        generalize S0.getD kk 0 = b at *
        have hva := value_any b
        have hle := dgV_le b
        by_cases hd : dgV b < 16
        ·rw [valC_go hd] at hv
         have hcl := cap_le (m * 16 + dgV b)
         generalize dgV b = dv at *
         by_cases hov : 1114111 < a * 16 + (dv : Int)
         ·have HM2 : Hid ((1114112 : Int) = ((capN (m * 16 + dv) : Nat) : Int) ∧ capN (m * 16 + dv) ≤ 1114112 ∧ valC 16 (capN (m * 16 + dv)) (S0.drop (kk + 1)) = R) := Lib.hid ⟨by unfold capN; rw [if_pos (by omega)]; rfl, hcl, hv⟩
          have HVA := Lib.hid hva
          clear hv hcl ha hm hva
          go_wp2_with fail
          refine (HVA.out _).mono ?_
          rintro e w' ⟨rfl, rfl⟩
          clear HVA
          go_wp2_with fail
          go_round
          case rel => exact ⟨kk + 1, _, _, rfl, by go_num, by omega, by omega, HM2⟩
          case measure => simp [RowKit.intOf]; omega
         ·have HM2 : Hid (a * 16 + (dv : Int) = ((capN (m * 16 + dv) : Nat) : Int) ∧ capN (m * 16 + dv) ≤ 1114112 ∧ valC 16 (capN (m * 16 + dv)) (S0.drop (kk + 1)) = R) := Lib.hid ⟨by unfold capN; rw [if_neg (by omega)]; omega, hcl, hv⟩
          have HVA := Lib.hid hva
          clear hv hcl ha hm hva
          go_wp2_with fail
          refine (HVA.out _).mono ?_
          rintro e w' ⟨rfl, rfl⟩
          clear HVA
          go_wp2_with fail
          go_round
          case rel => exact ⟨kk + 1, _, _, rfl, by go_num, by omega, by omega, HM2⟩
          case measure => simp [RowKit.intOf]; omega
        ·rw [valC_stop hd] at hv
         have HEND : Hid (chB (chL S0) = []) := Lib.hid (Dg.none (by rw [hv]; exact HD.out))
         have HVA := Lib.hid hva
         generalize dgV b = dv at *
         clear hv ha hm hva
         go_wp2_with fail
         refine (HVA.out _).mono ?_
         rintro e w' ⟨rfl, rfl⟩
         clear HVA
         go_wp2_with fail
         go_ret
         exact ⟨by rw [HEND.out]; rfl, (Below.refl _ _).alloc (Nat.le_refl _) _⟩
       ·rw [List.drop_eq_nil_of_le (by omega)] at hv
        have hv' : some m = R := hv
        cases hic : isC a with
        | false =>
         have HEND : Hid (chB (chL S0) = []) := Lib.hid (Dg.no (n := m) (by rw [hv']; exact HD.out) (by rw [← ha]; exact hic))
         have HIS := Lib.hid (fun W => refIs_any a W)
         rw [hic] at HIS
         clear hv hv' ha hm hic
         go_wp2_with fail
         refine (HIS.out _).mono ?_
         rintro e w2 ⟨rfl, hb2⟩
         go_wp2_with fail
         go_ret
         exact ⟨by rw [HEND.out]; rfl, ((Below.refl _ _).alloc (Nat.le_refl _) _).trans (hb2.mono (by simp))⟩
        | true =>
         have HEND : Hid (chB (chL S0) = encodeRune a) := Lib.hid (by rw [ha]; exact Dg.yes (n := m) (by rw [hv']; exact HD.out) (by rw [← ha]; exact hic))
         have HIS := Lib.hid (fun W => refIs_any a W)
         have HUT := Lib.hid (fun W => utf_any a hic W)
         rw [hic] at HIS
         clear hv hv' ha hm hic
         go_wp2_with fail
         refine (HIS.out _).mono ?_
         rintro e w2 ⟨rfl, hb2⟩
         go_wp2_with fail
         refine (HUT.out _).mono ?_
         rintro e w3 ⟨rfl, hb3⟩
         go_wp2_with fail
         go_ret
         exact ⟨by rw [HEND.out]; rfl, (((Below.refl _ _).alloc (Nat.le_refl _) _).trans (hb2.mono (by simp))).trans (hb3.mono (Nat.le_trans (by simp) hb2.size))⟩
    ·have hz0 : 0 < (bs (35 :: d)).size := by rw [hz]; simp
     have g0 : ((bs (35 :: d))[0]'hz0).toNat = 35 := rfl
     by_cases hd0 : d = []
     ·subst hd0
      have HEND : Hid (chB (chL [35]) = []) := Lib.hid rfl
      have hz2 : (bs [35]).size = 1 := hz
      clear hz hx
      generalize bs [35] = S at *
      go_wp2_with fail
      go_ret
      exact ⟨by rw [HEND.out]; rfl, (Below.refl _ _).alloc (Nat.le_refl _) _⟩
     ·have hDg := Dg.of (.inl rfl) (fr := 1) (ch_dec d hx) hd0 rfl
      have hz1 : 1 < (bs (35 :: d)).size := by have := List.length_pos_iff.2 hd0; rw [hz]; simp; omega
      obtain ⟨n1, g1, q1⟩ : ∃ n1 : Nat, ((bs (35 :: d))[1]'hz1).toNat = n1 ∧ ((n1 : Int) == 120) = false := by
       cases d with
       | nil => exact absurd rfl hd0
       | cons c t =>
        refine ⟨c.toNat, rfl, ?_⟩
        rw [beq_eq_false_iff_ne]
        intro hh
        apply hx
        have h3 : c = 120 := UInt8.toNat_inj.1 (by rw [show (120 : UInt8).toNat = 120 from rfl]; omega)
        rw [h3]; rfl
      have hz5 : 1 < (bs (35 :: d)).size := hz1
      clear hd0 hx
      obtain ⟨S0, hS⟩ : ∃ S0, 35 :: d = S0 := ⟨_, rfl⟩
      simp only [hS] at *
      clear hS
      obtain ⟨R, hR⟩ : ∃ R, valC 10 0 (S0.drop 1) = R := ⟨_, rfl⟩
      rw [hR] at hDg
      have HD := Lib.hid hDg
      have HR := Lib.hid hR
      have HG := Lib.hid (fun j (hj : j < (bs S0).size) => bs_get S0 j hj)
      clear hDg hR
      go_wp2_with fail
      go_loop [7, 8] (fun n k => ∃ (kk m : Nat) (a : Int), n = .int .i64 a ∧ k = .int .i64 (kk : Int) ∧ 1 ≤ kk ∧ kk ≤ (bs S0).size ∧ Hid (a = (m : Int) ∧ m ≤ 1114112 ∧ valC 10 m (S0.drop kk) = R)) (fun _ k => (bs S0).size - (RowKit.intOf k).toNat)
      case atStart => exact ⟨1, 0, 0, rfl, rfl, by omega, by omega, Lib.hid ⟨rfl, by omega, HR.out⟩⟩
      case round =>
       obtain ⟨kk, m, a, rfl, rfl, hf, hk, HM⟩ := hrel
       obtain ⟨ha, hm, hv⟩ := HM.out
       clear HM
       have a0 : 0 ≤ a := by omega
       have a1 : a ≤ 1114112 := by omega
       by_cases hlt : kk < (bs S0).size
       ·have hgt := HG.out kk hlt
        rw [drop_cons S0 kk (by omega)] at hv
        generalize S0.getD kk 0 = b at *
        have hva := value_any b
        have hle := dgV_le b
        by_cases hd : dgV b < 10
        ·rw [valC_go hd] at hv
         have hcl := cap_le (m * 10 + dgV b)
         generalize dgV b = dv at *
         by_cases hov : 1114111 < a * 10 + (dv : Int)
         ·have HM2 : Hid ((1114112 : Int) = ((capN (m * 10 + dv) : Nat) : Int) ∧ capN (m * 10 + dv) ≤ 1114112 ∧ valC 10 (capN (m * 10 + dv)) (S0.drop (kk + 1)) = R) := Lib.hid ⟨by unfold capN; rw [if_pos (by omega)]; rfl, hcl, hv⟩
          have HVA := Lib.hid hva
          clear hv hcl ha hm hva
          go_wp2_with fail
          refine (HVA.out _).mono ?_
          rintro e w' ⟨rfl, rfl⟩
          clear HVA
          go_wp2_with fail
          go_round
          case rel => exact ⟨kk + 1, _, _, rfl, by go_num, by omega, by omega, HM2⟩
          case measure => simp [RowKit.intOf]; omega
         ·have HM2 : Hid (a * 10 + (dv : Int) = ((capN (m * 10 + dv) : Nat) : Int) ∧ capN (m * 10 + dv) ≤ 1114112 ∧ valC 10 (capN (m * 10 + dv)) (S0.drop (kk + 1)) = R) := Lib.hid ⟨by unfold capN; rw [if_neg (by omega)]; omega, hcl, hv⟩
          have HVA := Lib.hid hva
          clear hv hcl ha hm hva
          go_wp2_with fail
          refine (HVA.out _).mono ?_
          rintro e w' ⟨rfl, rfl⟩
          clear HVA
          go_wp2_with fail
          go_round
          case rel => exact ⟨kk + 1, _, _, rfl, by go_num, by omega, by omega, HM2⟩
          case measure => simp [RowKit.intOf]; omega
        ·rw [valC_stop hd] at hv
         have HEND : Hid (chB (chL S0) = []) := Lib.hid (Dg.none (by rw [hv]; exact HD.out))
         have HVA := Lib.hid hva
         generalize dgV b = dv at *
         clear hv ha hm hva
         go_wp2_with fail
         refine (HVA.out _).mono ?_
         rintro e w' ⟨rfl, rfl⟩
         clear HVA
         go_wp2_with fail
         go_ret
         exact ⟨by rw [HEND.out]; rfl, (Below.refl _ _).alloc (Nat.le_refl _) _⟩
       ·rw [List.drop_eq_nil_of_le (by omega)] at hv
        have hv' : some m = R := hv
        cases hic : isC a with
        | false =>
         have HEND : Hid (chB (chL S0) = []) := Lib.hid (Dg.no (n := m) (by rw [hv']; exact HD.out) (by rw [← ha]; exact hic))
         have HIS := Lib.hid (fun W => refIs_any a W)
         rw [hic] at HIS
         clear hv hv' ha hm hic
         go_wp2_with fail
         refine (HIS.out _).mono ?_
         rintro e w2 ⟨rfl, hb2⟩
         go_wp2_with fail
         go_ret
         exact ⟨by rw [HEND.out]; rfl, ((Below.refl _ _).alloc (Nat.le_refl _) _).trans (hb2.mono (by simp))⟩
        | true =>
         have HEND : Hid (chB (chL S0) = encodeRune a) := Lib.hid (by rw [ha]; exact Dg.yes (n := m) (by rw [hv']; exact HD.out) (by rw [← ha]; exact hic))
         have HIS := Lib.hid (fun W => refIs_any a W)
         have HUT := Lib.hid (fun W => utf_any a hic W)
         rw [hic] at HIS
         clear hv hv' ha hm hic
         go_wp2_with fail
         refine (HIS.out _).mono ?_
         rintro e w2 ⟨rfl, hb2⟩
         go_wp2_with fail
         refine (HUT.out _).mono ?_
         rintro e w3 ⟨rfl, hb3⟩
         go_wp2_with fail
         go_ret
         exact ⟨by rw [HEND.out]; rfl, (((Below.refl _ _).alloc (Nat.le_refl _) _).trans (hb2.mono (by simp))).trans (hb3.mono (Nat.le_trans (by simp) hb2.size))⟩
   ·have HEND : Hid (chB (chL s) = []) := Lib.hid (by rw [ch_no s (Bool.eq_false_iff.2 h0) m1 m2 m3 m4 m5]; rfl)
    clear m1 m2 m3 m4 m5
    cases s with
    | nil =>
     have hz : (bs []).size = 0 := rfl
     clear h0 hsz
     generalize bs [] = S at *
     go_wp2_with fail
     go_ret
     exact ⟨by rw [HEND.out]; rfl, (Below.refl _ _).alloc (Nat.le_refl _) _⟩
    | cons c t =>
     have hz0 : 0 < (bs (c :: t)).size := by rw [hsz]; simp
     obtain ⟨n0, g0, q0⟩ : ∃ n0 : Nat, ((bs (c :: t))[0]'hz0).toNat = n0 ∧ ((n0 : Int) == 35) = false := by
      refine ⟨c.toNat, rfl, ?_⟩
      rw [beq_eq_false_iff_ne]
      intro hh
      apply h0
      have h3 : c = 35 := UInt8.toNat_inj.1 (by rw [show (35 : UInt8).toNat = 35 from rfl]; omega)
      rw [h3]; rfl
     have q1 : ((n0 : Int) != 35) = true := by rw [bne, q0]; rfl
     clear h0
     generalize bs (c :: t) = S at *
     go_wp2_with fail
     all_goals go_ret
     all_goals exact ⟨by rw [HEND.out]; rfl, (Below.refl _ _).alloc (Nat.le_refl _) _⟩
end Char
namespace Char
open Go.RowKit Go.Lib
def GK (attr : Bool) (l : List UInt8) (w : World) (k : Nat) (acc : List UInt8) (wr : World) : Prop :=
 k ≤ l.length ∧ acc.length ≤ 4 * k ∧ Below w.heap.size w wr ∧ gL attr acc (l.drop k) = gL attr [] l
theorem GK.step {attr : Bool} {l : List UInt8} {w : World} {k k2 : Nat} {acc c : List UInt8} {wr w2 : World} (h : GK attr l w k acc wr) (hst : stp attr (l.drop k) = .inr (c, l.drop k2)) (hc : c.length ≤ 4) (hk : k < k2) (hk2 : k2 ≤ l.length) (hb : Below w.heap.size w w2) : GK attr l w k2 (acc ++ c) w2 := by
 obtain ⟨h1, h2, h3, h4⟩ := h
 refine ⟨hk2, by rw [List.length_append]; omega, hb, ?_⟩
 rw [← h4, gL_step acc hst]
theorem GK.err {attr : Bool} {l : List UInt8} {w : World} {k e : Nat} {acc : List UInt8} {wr : World} (h : GK attr l w k acc wr) (hst : stp attr (l.drop k) = .inl (e + 1)) : gL attr [] l = ([], e + 1) := by
 rw [← h.2.2.2, gL_err acc hst (by omega)]
theorem slice_mid (l : List UInt8) (i j : Nat) (h : i ≤ j) (hj : j ≤ l.length) (wx : World) : (Instr.slice 9 (.string (bs l)) (some (.int .i64 (i : Int))) (some (.int .i64 (j : Int))) none).run Tryz.prog wx = .ok (.string (bs ((l.drop i).take (j - i)))) wx := by
 have := run_slice_string (P := Tryz.prog) wx 9 (bs l) .i64 .i64 (i : Int) (j : Int) Tryz.underlying9 (by omega) (by omega) (by rw [bs_size]; omega)
 rw [show (i : Int).toNat = i by omega, show (j : Int).toNat = j by omega, bs_ext] at this
 exact this
theorem ret_get2 {G : List UInt8 × Nat} {a : List UInt8} {n : Nat} (h : G = (a, n)) : Ending.returned (.tuple #[.string (bs a), .int .i64 (n : Int)]) = .returned (.tuple #[.string (bs G.1), .int .i64 (G.2 : Int)]) := by rw [h]
theorem nl_yes {t : List UInt8} (h : t.head? = some 10) : nlL t = t.drop 1 := by
 cases t with
 | nil => cases h
 | cons c r =>
  simp at h
  subst h
  rfl
theorem nl_no {t : List UInt8} (h : t.head? ≠ some 10) : nlL t = t := by
 cases t with
 | nil => rfl
 | cons c r =>
  unfold nlL
  rw [if_neg]
  intro h2
  simp [List.isPrefixOf] at h2
  exact h (by simp [h2])
set_option maxRecDepth 100000 in
set_option maxHeartbeats 32000000 in
theorem refGet_any (l : List UInt8) (attr : Bool) (w : World) (hl : l.length ≤ 60000) :
  Calls Tryz.prog 93 #[.string (bs l), .bool attr] w fun e w' => e = .returned (.tuple #[.string (bs (getD5 attr l).1), .int .i64 ((getD5 attr l).2 : Int)]) ∧ Below w.heap.size w w' := by
 have hsz := bs_size l
 have hT : Calls Tryz.prog 51 #[.string (bs l)] w fun e w' => e = .returned (.bool (txD l)) ∧ Below w.heap.size w w' := refText_any (bs l) w (by omega)
 obtain ⟨G, hGd⟩ : ∃ G, getD5 attr l = G := ⟨_, rfl⟩
 rw [hGd]
 cases htx : txD l with
 | false =>
  rw [htx] at hT
  have HTX := Lib.hid hT
  have HEND := Lib.hid (hGd.symm.trans (get_no htx))
  clear hT htx hGd
  go_enter Tryz.func93, Tryz.ntmps93
  go_wp2_with fail
  refine HTX.out.mono ?_
  rintro e w1 ⟨rfl, hb1⟩
  go_wp2_with fail
  go_ret2
  exact ⟨ret_get2 HEND.out, hb1⟩
 | true =>
  rw [htx] at hT
  have HTX := Lib.hid hT
  have HG0 := Lib.hid (hGd.symm.trans (get_yes htx))
  clear hT htx hGd
  go_enter Tryz.func93, Tryz.ntmps93
  go_wp2_with fail
  refine HTX.out.mono ?_
  rintro e w1 ⟨rfl, hb1⟩
  clear HTX
  have HK0 : Hid (GK attr l w 0 [] w1) := Lib.hid ⟨Nat.zero_le _, by simp, hb1, rfl⟩
  go_wp2_with fail
  go_loopw [6, 7] (fun o k wr => ∃ (kk : Nat) (acc : List UInt8), o = .string (bs acc) ∧ k = .int .i64 (kk : Int) ∧ GK attr l w kk acc wr) (fun _ k _ => l.length - (RowKit.intOf k).toNat)
  case atStart => exact ⟨0, [], rfl, rfl, HK0.out⟩
  case round =>
   obtain ⟨k, acc, rfl, rfl, hk⟩ := hrel
   have HK := Lib.hid hk
   obtain ⟨hkl, hal, hbw, _⟩ := hk
   have HB := Lib.hid hbw
   clear hbw HK0
   by_cases hlt : k < l.length
   ·have hsl := slice_one l k hlt
    have hdr := drop_cons l k hlt
    obtain ⟨b, hb⟩ : ∃ b, b = l.getD k 0 := ⟨_, rfl⟩
    rw [← hb] at hsl hdr
    by_cases h60 : b = 60
    ·subst h60
     have HEND := Lib.hid (HG0.out.trans (HK.out.err (e := 12) (by rw [hdr]; rfl)))
     have q60 := eq_one 60 60 true (by decide)
     clear hdr hb
     go_wp2_with fail
     go_ret2
     exact ⟨ret_get2 HEND.out, HB.out⟩
    by_cases h38 : b = 38
    ·subst h38
     have q60 := eq_one 38 60 false (by decide)
     have q38 := eq_one 38 38 true (by decide)
     have HDR := Lib.hid hdr
     have HB38 := Lib.hid hb
     clear hdr h60 hb
     go_wp2_with fail
     go_loop [9] (fun v => ∃ e : Nat, v = .int .i64 (e : Int) ∧ k ≤ e ∧ e ≤ l.length ∧ Hid (∀ j, k ≤ j → j < e → l.getD j 0 ≠ 59)) (fun v => l.length - (RowKit.intOf v).toNat)
     case atStart => exact ⟨k, rfl, by omega, by omega, Lib.hid (fun j _ _ => by omega)⟩
     case round =>
      obtain ⟨e, rfl, hke, hel, HN⟩ := hrel
      by_cases hlt2 : e < l.length
      ·have hlt3 : e < (bs l).size := by rw [hsz]; exact hlt2
       have hgt := bs_get l e hlt3
       by_cases h59 : l.getD e 0 = 59
       ·have hg : ((bs l)[e]'hlt3).toNat = 59 := by rw [hgt, h59]; rfl
        have hke2 : k < e := by
         rcases Nat.lt_or_ge k e with h | h
         ·exact h
         ·exfalso
          have : e = k := by omega
          rw [this, ← HB38.out] at h59
          revert h59; decide
        have hrf := refL_at l (k + 1) e (by omega) hlt2 h59 (fun j h1 h2 => HN.out j (by omega) h2)
        have hmid := slice_mid l (k + 1) e (by omega) (by omega)
        rw [show (((k + 1 : Nat)) : Int) = (k : Int) + 1 by omega] at hmid
        have hNl : ((l.drop (k + 1)).take (e - (k + 1))).length ≤ 60000 := by rw [List.length_take, List.length_drop]; omega
        generalize (l.drop (k + 1)).take (e - (k + 1)) = N at *
        have HCH := Lib.hid (fun W => char_any N W hNl)
        clear hgt h59 HN
        cases hc : chL N with
        | none =>
         rw [hc] at hrf
         have HEND := Lib.hid (HG0.out.trans (HK.out.err (e := 11) (by rw [HDR.out]; exact stp_amp_none attr hrf)))
         have HCN : Hid (∀ W, Calls Tryz.prog 125 #[.string (bs N)] W fun e w' => e = .returned (.string (bs [])) ∧ Below W.heap.size W w') := Lib.hid (fun W => by
          have h := HCH.out W
          unfold ChPost at h
          rw [hc] at h
          exact h)
         have i1 : (bs []).toList = [] := bs_tl []
         have i2 : (bs []).toList.isEmpty = true := by rw [i1]; rfl
         clear hc hrf HCH
         go_wp2_with fail
         refine (HCN.out _).mono ?_
         rintro e2 w2 ⟨rfl, hb2⟩
         go_wp2_with fail
         go_ret2
         exact ⟨ret_get2 HEND.out, HB.out.trans (hb2.mono HB.out.size)⟩
        | some n =>
         rw [hc] at hrf
         have hcl := enc_le (n : Int)
         have HST := Lib.hid (show stp attr (l.drop k) = .inr (encodeRune (n : Int), l.drop (e + 1)) by rw [HDR.out]; exact stp_amp_some attr hrf)
         have hne := enc_ne (n : Int)
         have hcn : ∀ W, Calls Tryz.prog 125 #[.string (bs N)] W fun e w' => e = .returned (.string (bs (encodeRune (n : Int)))) ∧ Below W.heap.size W w' := (fun W => by
          have h := HCH.out W
          unfold ChPost at h
          rw [hc] at h
          exact h)
         generalize encodeRune (n : Int) = c at *
         have HCN := Lib.hid hcn
         have i1 : ¬ (bs c).toList = [] := by rw [bs_tl]; exact hne
         have i2 : (bs c).toList.isEmpty = false := by rw [bs_tl]; cases c with | nil => exact absurd rfl hne | cons _ _ => rfl
         have hadd := add_bs acc c (by omega) (by omega)
         clear hc hrf HCH hcn hne
         go_wp2_with fail
         refine (HCN.out _).mono ?_
         rintro e2 w2 ⟨rfl, hb2⟩
         have HK2 := Lib.hid (HK.out.step HST.out hcl (by omega) (by omega) (HB.out.trans (hb2.mono HB.out.size)))
         clear hb2
         go_wp2_with fail
         go_roundw
         case rel => exact ⟨e + 1, _, rfl, by go_num, HK2.out⟩
         case measure => simp [RowKit.intOf]; omega
       ·obtain ⟨n2, hg, hn2⟩ : ∃ n2 : Nat, ((bs l)[e]'hlt3).toNat = n2 ∧ ((n2 : Int) != 59) = true := by
         refine ⟨_, by rw [hgt], ?_⟩
         have h : (((l.getD e 0).toNat : Int) == 59) = false := u8_ne (l.getD e 0) 59 h59
         rw [bne, h]
         rfl
        have HN2 : Hid (∀ j, k ≤ j → j < e + 1 → l.getD j 0 ≠ 59) := Lib.hid (fun j h1 h2 => by
         by_cases h : j = e
         ·rw [h]; exact h59
         ·exact HN.out j h1 (by omega))
        clear hgt h59 HN
        go_wp2_with fail
        go_round
        case rel => exact ⟨e + 1, by go_num, by omega, by omega, HN2⟩
        case measure => simp [RowKit.intOf]; omega
      ·have hrf := refL_off l (k + 1) (fun j h1 h2 => HN.out j (by omega) (by omega))
       have HEND := Lib.hid (HG0.out.trans (HK.out.err (e := 11) (by rw [HDR.out]; exact stp_amp_none attr hrf)))
       have hee : e = l.length := by omega
       clear hrf HN
       subst hee
       go_wp2_with fail
       go_ret2
       exact ⟨ret_get2 HEND.out, HB.out⟩
    have hb60 := eq_one b 60 false (beq_eq_false_iff_ne.2 h60)
    have hb38 := eq_one b 38 false (beq_eq_false_iff_ne.2 h38)
    by_cases h13 : b = 13
    ·subst h13
     have q13 := eq_one 13 13 true (by decide)
     by_cases hnl : (l.drop (k + 1)).head? = some 10
     ·have hk1 : k + 1 < l.length := by
       rcases Nat.lt_or_ge (k + 1) l.length with h | h
       ·exact h
       ·rw [List.drop_eq_nil_of_le h] at hnl; cases hnl
      have hlt1 : k + 1 < (bs l).size := by rw [hsz]; exact hk1
      have hg1 : ((bs l)[k + 1]'hlt1).toNat = 10 := by
       rw [bs_get l (k + 1) hlt1]
       rw [drop_cons l (k + 1) hk1] at hnl
       simp only [List.head?_cons, Option.some.injEq] at hnl
       rw [hnl]; rfl
      cases attr
      ·have HK2 := Lib.hid (HK.out.step (c := [10]) (k2 := k + 1 + 1) (by rw [hdr, stp_cr rfl, nl_yes hnl, List.drop_drop]; rfl) (by simp) (by omega) (by omega) HB.out)
       have hadd : ∀ wx, (Op.stringOp .add (bs acc) ⟨#[10]⟩).run Tryz.prog wx = .ok (.string (bs (acc ++ [10]))) wx := add_bs acc [10] (by omega) (by simp)
       clear hdr hnl h60 h38 hb
       go_wp2_with fail
       go_roundw
       case rel => exact ⟨k + 1 + 1, _, rfl, by go_num, HK2.out⟩
       case measure => simp [RowKit.intOf]; omega
      ·have HK2 := Lib.hid (HK.out.step (c := [32]) (k2 := k + 1 + 1) (by rw [hdr, stp_cr rfl, nl_yes hnl, List.drop_drop]; rfl) (by simp) (by omega) (by omega) HB.out)
       have hadd : ∀ wx, (Op.stringOp .add (bs acc) ⟨#[32]⟩).run Tryz.prog wx = .ok (.string (bs (acc ++ [32]))) wx := add_bs acc [32] (by omega) (by simp)
       clear hdr hnl h60 h38 hb
       go_wp2_with fail
       go_roundw
       case rel => exact ⟨k + 1 + 1, _, rfl, by go_num, HK2.out⟩
       case measure => simp [RowKit.intOf]; omega
     ·have HNL := Lib.hid hnl
      cases attr
      ·have HK2 := Lib.hid (HK.out.step (c := [10]) (k2 := k + 1) (by rw [hdr, stp_cr rfl, nl_no hnl]; rfl) (by simp) (by omega) (by omega) HB.out)
       have hadd : ∀ wx, (Op.stringOp .add (bs acc) ⟨#[10]⟩).run Tryz.prog wx = .ok (.string (bs (acc ++ [10]))) wx := add_bs acc [10] (by omega) (by simp)
       clear hdr hnl h60 h38 hb
       by_cases hk1 : k + 1 < l.length
       ·have hlt1 : k + 1 < (bs l).size := by rw [hsz]; exact hk1
        obtain ⟨n1, hg1, hn1⟩ : ∃ n1 : Nat, ((bs l)[k + 1]'hlt1).toNat = n1 ∧ ((n1 : Int) == 10) = false := by
         refine ⟨_, by rw [bs_get l (k + 1) hlt1], u8_ne (l.getD (k + 1) 0) 10 (fun h => HNL.out ?_)⟩
         rw [drop_cons l (k + 1) hk1, h]; rfl
        go_wp2_with fail
        go_roundw
        case rel => exact ⟨k + 1, _, rfl, by go_num, HK2.out⟩
        case measure => simp [RowKit.intOf]; omega
       ·go_wp2_with fail
        go_roundw
        case rel => exact ⟨k + 1, _, rfl, by go_num, HK2.out⟩
        case measure => simp [RowKit.intOf]; omega
      ·have HK2 := Lib.hid (HK.out.step (c := [32]) (k2 := k + 1) (by rw [hdr, stp_cr rfl, nl_no hnl]; rfl) (by simp) (by omega) (by omega) HB.out)
       have hadd : ∀ wx, (Op.stringOp .add (bs acc) ⟨#[32]⟩).run Tryz.prog wx = .ok (.string (bs (acc ++ [32]))) wx := add_bs acc [32] (by omega) (by simp)
       clear hdr hnl h60 h38 hb
       by_cases hk1 : k + 1 < l.length
       ·have hlt1 : k + 1 < (bs l).size := by rw [hsz]; exact hk1
        obtain ⟨n1, hg1, hn1⟩ : ∃ n1 : Nat, ((bs l)[k + 1]'hlt1).toNat = n1 ∧ ((n1 : Int) == 10) = false := by
         refine ⟨_, by rw [bs_get l (k + 1) hlt1], u8_ne (l.getD (k + 1) 0) 10 (fun h => HNL.out ?_)⟩
         rw [drop_cons l (k + 1) hk1, h]; rfl
        go_wp2_with fail
        go_roundw
        case rel => exact ⟨k + 1, _, rfl, by go_num, HK2.out⟩
        case measure => simp [RowKit.intOf]; omega
       ·go_wp2_with fail
        go_roundw
        case rel => exact ⟨k + 1, _, rfl, by go_num, HK2.out⟩
        case measure => simp [RowKit.intOf]; omega
    have hb13 := eq_one b 13 false (beq_eq_false_iff_ne.2 h13)
    by_cases h10 : b = 10
    ·subst h10
     have q10 := eq_one 10 10 true (by decide)
     cases attr
     ·have HK2 := Lib.hid (HK.out.step (c := [10]) (k2 := k + 1) (by rw [hdr, stp_ten rfl]; rfl) (by simp) (by omega) (by omega) HB.out)
      have hadd : ∀ wx, (Op.stringOp .add (bs acc) (bs [10])).run Tryz.prog wx = .ok (.string (bs (acc ++ [10]))) wx := add_bs acc [10] (by omega) (by simp)
      clear hdr h60 h38 h13 hb
      go_wp2_with fail
      go_roundw
      case rel => exact ⟨k + 1, _, rfl, by go_num, HK2.out⟩
      case measure => simp [RowKit.intOf]; omega
     ·have HK2 := Lib.hid (HK.out.step (c := [32]) (k2 := k + 1) (by rw [hdr, stp_ten rfl]; rfl) (by simp) (by omega) (by omega) HB.out)
      have hadd : ∀ wx, (Op.stringOp .add (bs acc) ⟨#[32]⟩).run Tryz.prog wx = .ok (.string (bs (acc ++ [32]))) wx := add_bs acc [32] (by omega) (by simp)
      clear hdr h60 h38 h13 hb
      go_wp2_with fail
      go_roundw
      case rel => exact ⟨k + 1, _, rfl, by go_num, HK2.out⟩
      case measure => simp [RowKit.intOf]; omega
    by_cases h9 : b = 9
    ·subst h9
     have q10 := eq_one 9 10 false (by decide)
     have q9 := eq_one 9 9 true (by decide)
     cases attr
     ·have HK2 := Lib.hid (HK.out.step (c := [9]) (k2 := k + 1) (by rw [hdr, stp_nine rfl]; rfl) (by simp) (by omega) (by omega) HB.out)
      have hadd : ∀ wx, (Op.stringOp .add (bs acc) (bs [9])).run Tryz.prog wx = .ok (.string (bs (acc ++ [9]))) wx := add_bs acc [9] (by omega) (by simp)
      clear hdr h60 h38 h13 hb
      go_wp2_with fail
      go_roundw
      case rel => exact ⟨k + 1, _, rfl, by go_num, HK2.out⟩
      case measure => simp [RowKit.intOf]; omega
     ·have HK2 := Lib.hid (HK.out.step (c := [32]) (k2 := k + 1) (by rw [hdr, stp_nine rfl]; rfl) (by simp) (by omega) (by omega) HB.out)
      have hadd : ∀ wx, (Op.stringOp .add (bs acc) ⟨#[32]⟩).run Tryz.prog wx = .ok (.string (bs (acc ++ [32]))) wx := add_bs acc [32] (by omega) (by simp)
      clear hdr h60 h38 h13 hb
      go_wp2_with fail
      go_roundw
      case rel => exact ⟨k + 1, _, rfl, by go_num, HK2.out⟩
      case measure => simp [RowKit.intOf]; omega
    have q10 := eq_one b 10 false (beq_eq_false_iff_ne.2 h10)
    have q9 := eq_one b 9 false (beq_eq_false_iff_ne.2 h9)
    have HK2 := Lib.hid (HK.out.step (c := [b]) (k2 := k + 1) (by rw [hdr, stp_other attr b _ h60 h38 h13 h9 h10]) (by simp) (by omega) (by omega) HB.out)
    have hadd := add_bs acc [b] (by omega) (by simp)
    clear hdr h60 h38 h13 h9 h10 hb
    cases attr
    ·go_wp2_with fail
     go_roundw
     case rel => exact ⟨k + 1, _, rfl, by go_num, HK2.out⟩
     case measure => simp [RowKit.intOf]; omega
    ·go_wp2_with fail
     go_roundw
     case rel => exact ⟨k + 1, _, rfl, by go_num, HK2.out⟩
     case measure => simp [RowKit.intOf]; omega
   ·have hst : stp attr (l.drop k) = .inl 0 := by rw [List.drop_eq_nil_of_le (by omega)]; rfl
    have HEND : Hid (G = (acc, 0)) := Lib.hid (by rw [HG0.out, ← HK.out.2.2.2, gL_end acc hst])
    clear hst
    go_wp2_with fail
    go_ret2
    exact ⟨ret_get2 HEND.out, HB.out⟩
end Char
namespace Char
open Go.RowKit Go.Lib
theorem small_of (b : UInt8) (h : 65 ≤ b.toNat ∧ b.toNat ≤ 90) : smallB b = ((b.toNat : Int) + 32).toNat.toUInt8 := by
 unfold smallB
 rw [if_pos h]
 apply UInt8.toNat_inj.1
 have e : ((b.toNat : Int) + 32).toNat = b.toNat + 32 := by omega
 rw [e]
 simp
theorem small_same (b : UInt8) (h : ¬ (65 ≤ b.toNat ∧ b.toNat ≤ 90)) : smallB b = ((b.toNat : Int)).toNat.toUInt8 := by
 unfold smallB
 rw [if_neg h]
 simp
set_option maxRecDepth 100000 in
set_option maxHeartbeats 8000000 in
theorem small_any (l : List UInt8) (w : World) (hl : l.length ≤ 60000) :
  Calls Tryz.prog 127 #[.string (bs l)] w fun e w' => e = .returned (.string (bs (smallL l))) ∧ Below w.heap.size w w' := by
 have hsz := bs_size l
 obtain ⟨X, hX⟩ : ∃ X, smallL l = X := ⟨_, rfl⟩
 rw [hX]
 have HX := Lib.hid hX
 clear hX
 go_enter Tryz.func127, Tryz.ntmps127
 go_wp2_with fail
 go_loopw [3, 4] (fun o i wr => ∃ (k : Nat) (acc : List UInt8), o = .string (bs acc) ∧ i = .int .i64 (k : Int) ∧ k ≤ l.length ∧ acc.length = k ∧ Hid (acc ++ smallL (l.drop k) = X) ∧ Hid (Below w.heap.size w wr)) (fun _ i _ => l.length - (RowKit.intOf i).toNat)
 case atStart => exact ⟨0, [], rfl, rfl, Nat.zero_le _, rfl, HX, Lib.hid (Below.refl _ _)⟩
 case round =>
  obtain ⟨k, acc, rfl, rfl, hk, hal, HK, HB⟩ := hrel
  by_cases hlt : k < l.length
  ·have hlt' : k < (bs l).size := by rw [hsz]; exact hlt
   have hgt := bs_get l k hlt'
   have hk2 := HK.out
   rw [drop_cons l k hlt, show ∀ (b : UInt8) t, smallL (b :: t) = smallB b :: smallL t from fun _ _ => rfl] at hk2
   generalize l.getD k 0 = b at *
   obtain ⟨nb, hnb⟩ : ∃ nb, b.toNat = nb := ⟨_, rfl⟩
   have hg : ((bs l)[k]'hlt').toNat = nb := by rw [hgt, hnb]
   have hn256 : nb < 256 := by rw [← hnb]; exact UInt8.toNat_lt _
   have HK2 : Hid ((acc ++ [smallB b]) ++ smallL (l.drop (k + 1)) = X) := Lib.hid (by rw [List.append_assoc]; exact hk2)
   have hadd := add_bs acc [smallB b] (by omega) (by simp)
   have HB2 : ∀ o, Hid (Below w.heap.size w (wr.alloc o)) := fun o => Lib.hid (HB.out.alloc HB.out.size o)
   by_cases hu : 65 ≤ b.toNat ∧ b.toNat ≤ 90
   ·have hcv := conv_back wr [(nb : Int) + 32] (by simp; omega)
    have e : [(nb : Int) + 32].map (fun x => x.toNat.toUInt8) = [smallB b] := by rw [small_of b hu, hnb]; rfl
    rw [e] at hcv
    have hcv2 : (convert 42 9 (.slice (some ⟨wr.heap.size, 0, none⟩) 1 1)).run Tryz.prog (wr.alloc (.cells #[.int .u8 ((nb : Int) + 32)] 5)) = .ok (.string (bs [smallB b])) (wr.alloc (.cells #[.int .u8 ((nb : Int) + 32)] 5)) := hcv
    rw [hnb] at hu
    obtain ⟨u1, u2⟩ := hu
    clear hcv hk2 hgt hnb e
    generalize smallB b = c at *
    go_wp2_with fail
    go_roundw
    case rel => exact ⟨k + 1, _, rfl, by go_num, by omega, by simp [hal], HK2, HB2 _⟩
    case measure => simp [RowKit.intOf]; omega
   ·have hcv := conv_back wr [(nb : Int)] (by simp; omega)
    have e : [(nb : Int)].map (fun x => x.toNat.toUInt8) = [smallB b] := by rw [small_same b hu, hnb]; rfl
    rw [e] at hcv
    have hcv2 : (convert 42 9 (.slice (some ⟨wr.heap.size, 0, none⟩) 1 1)).run Tryz.prog (wr.alloc (.cells #[.int .u8 (nb : Int)] 5)) = .ok (.string (bs [smallB b])) (wr.alloc (.cells #[.int .u8 (nb : Int)] 5)) := hcv
    rw [hnb] at hu
    have hu2 : nb < 65 ∨ (¬ nb < 65 ∧ 90 < nb) := by omega
    clear hcv hk2 hgt hnb e hu
    generalize smallB b = c at *
    rcases hu2 with u1 | ⟨u1, u2⟩
    all_goals
     go_wp2_with fail
     go_roundw
     case rel => exact ⟨k + 1, _, rfl, by go_num, by omega, by simp [hal], HK2, HB2 _⟩
     case measure => simp [RowKit.intOf]; omega
  ·have hend : Hid (acc = X) := Lib.hid (by
    have h := HK.out
    rw [List.drop_eq_nil_of_le (by omega)] at h
    rw [← h]; exact (List.append_nil _).symm)
   go_wp2_with fail
   go_ret
   exact ⟨ret_str hend.out, HB.out⟩
end Char
end Go.Proofs.YtlmodgnkmlbjhaaGreatDoor
