import Derived.Test.YtlmodgnkmlbjhaaGreatDoorPkMat
import Derived.Test.YtlmodgnkmlbjhaaGreatDoorProg
import Derived.WalkKit
import Derived.Below
import Derived.Shelf.Unicode.ValidAny
import Derived.Lib.LaidU8T
import Derived.Outline
import Derived.Lib.Hide
import Derived.Deep.WholeRow
import Derived.Great.BuildSlice
import Derived.Lib.OthersKept
import Derived.WalkSmall
namespace Go.Proofs.YtlmodgnkmlbjhaaGreatDoor
namespace Char
open Go.RowKit Go.Shelf Go.Lib
def validRen : Ren :=
  ⟨fun | 196 => 70 | 259 => 101 | n => n,
   fun | 0 => 0 | 3 => 3 | 4 => 4 | 5 => 5 | 9 => 9 | 12 => 12 | 46 => 131 | 53 => 160 | 119 => 127 | 138 => 129 | 139 => 130 | n => n,
   fun | 3 => 0 | 4 => 1 | n => n⟩
theorem laysValid : Lays.n196 Tryz.prog validRen :=
 {
  mixed := by kernel_rfl,
  f196 := Tryz.func70.trans (congrArg some (by kernel_rfl)),
  f259 := Tryz.func101.trans (congrArg some (by kernel_rfl)),
  t0 := Tryz.underlying0,
  a0 := Tryz.isAgg0,
  z0 := Tryz.sizeOf0,
  v0 := Tryz.zeroValue0,
  t3 := Tryz.underlying3,
  a3 := Tryz.isAgg3,
  z3 := Tryz.sizeOf3,
  v3 := Tryz.zeroValue3,
  t4 := Tryz.underlying4,
  a4 := Tryz.isAgg4,
  z4 := Tryz.sizeOf4,
  v4 := Tryz.zeroValue4,
  t5 := Tryz.underlying5,
  a5 := Tryz.isAgg5,
  z5 := Tryz.sizeOf5,
  v5 := Tryz.zeroValue5,
  t9 := Tryz.underlying9,
  a9 := Tryz.isAgg9,
  z9 := Tryz.sizeOf9,
  v9 := Tryz.zeroValue9,
  t12 := Tryz.underlying12,
  a12 := Tryz.isAgg12,
  z12 := Tryz.sizeOf12,
  v12 := Tryz.zeroValue12,
  t46 := Tryz.underlying131,
  a46 := Tryz.isAgg131,
  z46 := Tryz.sizeOf131,
  v46 := Tryz.zeroValue131,
  t53 := Tryz.underlying160,
  a53 := Tryz.isAgg160,
  z53 := Tryz.sizeOf160,
  v53 := Tryz.zeroValue160,
  t119 := Tryz.underlying127,
  a119 := Tryz.isAgg127,
  z119 := Tryz.sizeOf127,
  t138 := Tryz.underlying129,
  a138 := Tryz.isAgg129,
  z138 := Tryz.sizeOf129,
  v138 := Tryz.zeroValue129,
  t139 := Tryz.underlying130,
  a139 := Tryz.isAgg130,
  z139 := Tryz.sizeOf130,
  v139 := Tryz.zeroValue130,
  g3 := by kernel_rfl,
  g4 := by kernel_rfl }
def Tabs (w : World) : Prop := Lib.Utf8Tabs 0 1 w
theorem Tabs.below {w w' : World} (h : Tabs w) (hb : Below w.heap.size w w') : Tabs w' := Utf8Tabs_below h hb
theorem valid_any (s : ByteArray) (w : World) (hs : s.size ≤ 9223372036854775807) (hT : Tabs w) :
  Calls Tryz.prog 70 #[.string s] w fun e w' => e = .returned (.bool (Lib.validD s.data.toList)) ∧ Below w.heap.size w w' :=
 Any.utf8_ValidString laysValid s w hs hT
end Char
namespace Char
open Go.RowKit
set_option maxHeartbeats 400000 in
theorem within_any (b off len cap : Nat) (n : Int) (zs : List Int) (w : World) (hz : 2 * len = zs.length) (hbig : len ≤ 1000) (hbl : b < w.heap.size)
  (hc : ∀ j, j < zs.length → w.cell? ⟨b, off + j, none⟩ = some (.int .i32 (zs.getD j 0))) :
  Calls Tryz.prog 100 #[.slice (some ⟨b, off, none⟩) len cap, .int .i32 n] w fun e w' => e = .returned (.bool (inP zs n)) ∧ Below w.heap.size w w' := by
 have HZ := Lib.hid hz
 clear hz
 obtain ⟨R, hR⟩ : ∃ R, R = inP zs n := ⟨_, rfl⟩
 rw [← hR]
 have HR := Lib.hid hR
 clear hR
 go_enter Tryz.func100, Tryz.ntmps100
 go_wp2
 go_loopw [9] (fun i wr => ∃ k : Nat, k ≤ len ∧ i = .int .i64 (k : Int) ∧ R = inP (zs.drop (2 * k)) n ∧ Below w.heap.size w wr) (fun i _ => len - (intOf i).toNat)
 case atStart => exact ⟨0, Nat.zero_le _, rfl, by simpa using HR.out, Below.refl _ _⟩
 case round =>
  obtain ⟨k, hk, rfl, hr, hb⟩ := hrel
  by_cases hlt : k < len
  ·have hs := inP_step zs n (2 * k) (by rw [← HZ.out]; omega)
   have hc0 : wr.cell? ⟨b, off + k * 2, none⟩ = some (.int .i32 (zs.getD (2 * k) 0)) := by
    rw [Nat.mul_comm k 2]
    exact (hb.cell (p := ⟨b, off + 2 * k, none⟩) hbl).trans (hc (2 * k) (by rw [← HZ.out]; omega))
   have hc1 : wr.cell? ⟨b, off + k * 2 + 1, none⟩ = some (.int .i32 (zs.getD (2 * k + 1) 0)) := by
    rw [Nat.mul_comm k 2, Nat.add_assoc]
    exact (hb.cell (p := ⟨b, off + (2 * k + 1), none⟩) hbl).trans (hc (2 * k + 1) (by rw [← HZ.out]; omega))
   generalize zs.getD (2 * k) 0 = lo at hc0 hs
   generalize zs.getD (2 * k + 1) 0 = hi at hc1 hs
   rw [← hr] at hs
   have HS := Lib.hid hs
   clear hc hs hr
   have hb1 := hb.alloc hb.size (Obj.cells #[Value.int IntKind.i32 lo, Value.int IntKind.i32 hi] 121)
   go_wp2
   ·have h1 : lo ≤ n := by assumption
    have h2 : n ≤ hi := by assumption
    go_ret
    exact ⟨by rw [HS.out]; simp [h1, h2], hb1⟩
   all_goals
    have hx : (decide (lo ≤ n) && decide (n ≤ hi)) = false := by
     rw [Bool.and_eq_false_iff, decide_eq_false_iff_not, decide_eq_false_iff_not]
     omega
    rw [hx, Bool.false_or] at HS
    go_roundw
    case rel => exact ⟨k + 1, by omega, by go_num, HS.out, hb1⟩
    case measure => simp [intOf]; omega
  ·have hf := inP_end zs n (2 * k) (by rw [← HZ.out]; omega)
   rw [← hr] at hf
   have HF := Lib.hid hf
   clear hf hr
   go_wp2
   go_ret
   exact ⟨by rw [HF.out]; rfl, hb⟩
theorem within_new (zs : List Int) (len cap : Nat) (C : Array Value) (n : Int) (w : World) (T : TypeId) (hC : C = (zs.map (Value.int .i32)).toArray) (hz : 2 * len = zs.length) (hbig : len ≤ 1000) :
  Calls Tryz.prog 100 #[.slice (some ⟨w.heap.size, 0, none⟩) len cap, .int .i32 n] (w.alloc (.cells C T)) fun e w' => e = .returned (.bool (inP zs n)) ∧ Below w.heap.size w w' := by
 refine (within_any _ 0 len cap n zs _ hz hbig (by simp) ?_).mono ?_
 ·intro j hj
  rw [Nat.zero_add, World.cell?_alloc_new, hC]
  simp [List.getD, List.getElem?_eq_getElem hj]
 ·rintro e w' ⟨he, hb⟩
  exact ⟨he, ((Below.refl _ _).alloc (Nat.le_refl _) _).trans (hb.mono (by simp))⟩
def isM : List Int := [9, 10, 13, 13, 0x20, 0xd7ff, 0xe000, 0xfffd, 0x10000, 0x10ffff]
theorem isM_eq (n : Int) : inP isM n = isC n := by
 unfold isC isL isM
 simp only [inP]
 rw [Bool.eq_iff_iff]
 simp only [Bool.or_eq_true, Bool.and_eq_true, decide_eq_true_eq, Bool.false_eq_true, or_false]
 omega
set_option maxHeartbeats 400000 in
theorem is_any (n : Int) (w : World) :
  Calls Tryz.prog 71 #[.int .i32 n] w fun e w' => e = .returned (.bool (isC n)) ∧ Below w.heap.size w w' := by
 go_enter Tryz.func71, Tryz.ntmps71
 go_wp2_with fail
 refine (within_new isM 5 5 _ n w _ rfl rfl (by decide)).mono ?_
 rintro e w' ⟨rfl, hb⟩
 go_wp2_with fail
 go_ret
 exact ⟨by rw [← isM_eq]; rfl, hb⟩
end Char
namespace Char
open Go.RowKit
theorem width_pos (s : ByteArray) (pos : Nat) (h : pos < s.size) : 1 ≤ (Utf8.decode s pos).2 := by
 by_cases ha : (s[pos]'h).toNat < 128
 ·rw [decode_ascii s pos h ha]
  exact Nat.le_refl _
 ·exact (decode_high s pos h (by omega)).2
set_option maxHeartbeats 400000 in
theorem text_any (s : ByteArray) (w : World) (hs : s.size ≤ 9223372036854775807) (hT : Tabs w) :
  Calls Tryz.prog 41 #[.string s] w fun e w' => e = .returned (.bool (txD s.data.toList)) ∧ Below w.heap.size w w' := by
 have hV := valid_any s w hs hT
 clear hT
 obtain ⟨R, hR⟩ : ∃ R, R = txD s.data.toList := ⟨_, rfl⟩
 rw [← hR]
 unfold txD at hR
 generalize Lib.validD s.data.toList = v at hV hR
 have HR := Lib.hid hR
 clear hR
 have HV := Lib.hid hV
 clear hV
 go_enter Tryz.func41, Tryz.ntmps41
 go_wp2_with fail
 refine HV.out.mono ?_
 rintro e w1 ⟨rfl, hb1⟩
 clear HV
 cases v
 ·go_wp2_with fail
  go_ret
  exact ⟨by rw [HR.out]; rfl, hb1⟩
 ·go_wp2_with fail
  go_loopw [] (fun wr => ∃ pos : Nat, wr.heap[w1.heap.size]? = some (.stringIter s pos) ∧ Below w.heap.size w wr ∧ R = allR isC (s.data.toList.drop pos)) (fun wr => s.size - wr.iterPos w1.heap.size)
  case atStart => exact ⟨0, World.iter_heap w1 s 0, hb1.alloc hb1.size _, by simpa using HR.out⟩
  case round =>
   obtain ⟨pos, hit, hbw, hr⟩ := hrel
   have hsz : w1.heap.size < wr.heap.size := (Array.getElem?_eq_some_iff.1 hit).1
   have hip : wr.iterPos w1.heap.size = pos := iterPos_of hit
   by_cases hp : pos < s.size
   ·have hst := allR_at isC s pos hp
    have hwd := width_pos s pos hp
    have hnx : ∀ ty, (Instr.next (.pointer (some ⟨w1.heap.size, 0, none⟩)) true ty).run Tryz.prog wr = _ := fun ty => Lib.run_next_any_at wr w1.heap.size s pos ty hit hp
    have hit2 := Lib.iterAt_heap wr w1.heap.size s pos (pos + (Utf8.decode s pos).2) hit
    have hbw2 := Lib.below_iterAt hbw (k := w1.heap.size) hb1.size s (pos + (Utf8.decode s pos).2)
    generalize (Utf8.decode s pos).1 = r at hst hnx
    generalize (Utf8.decode s pos).2 = d at hst hnx hwd hit2 hbw2
    generalize wr.iterAt w1.heap.size s (pos + d) = W1 at hnx hit2 hbw2
    rw [← hr] at hst
    have HS := Lib.hid hst
    have HI := Lib.hid hit2
    have HP := Lib.hid hip
    clear hst hr hit hit2 hip
    go_wp2_with fail
    refine (is_any (r : Int) W1).mono ?_
    rintro e W2 ⟨rfl, hb2⟩
    have hbw3 := hbw2.trans (hb2.mono hbw2.size)
    have hz1 : w1.heap.size < W1.heap.size := (Array.getElem?_eq_some_iff.1 HI.out).1
    have hit3 : W2.heap[w1.heap.size]? = some (.stringIter s (pos + d)) := (hb2.block _ hz1).trans HI.out
    have HI3 := Lib.hid hit3
    clear hit3
    generalize isC (r : Int) = v at HS
    cases v
    ·go_wp2_with fail
     go_ret
     exact ⟨by rw [HS.out]; rfl, hbw3⟩
    ·go_wp2_with fail
     go_roundw
     case rel => exact ⟨pos + d, HI3.out, hbw3, by rw [HS.out]; rfl⟩
     case measure =>
      rw [iterPos_of HI3.out, HP.out]
      omega
   ·have hf := drop_end s pos hp
    rw [hf, allR_nil] at hr
    have hnx : ∀ ty, (Instr.next (.pointer (some ⟨w1.heap.size, 0, none⟩)) true ty).run Tryz.prog wr = _ := fun ty => Lib.run_next_end_at wr w1.heap.size s pos ty hit hp
    have HF := Lib.hid hr
    clear hf hr hit hip
    go_wp2_with fail
    go_ret
    exact ⟨by rw [HF.out]; rfl, hbw⟩
end Char
namespace Char
open Go.RowKit
def spM : List Int := [9, 10, 13, 13, 0x20, 0x20]
theorem spM_eq (n : Int) : inP spM n = spC n := by
 unfold spC spM
 simp only [inP]
 rw [Bool.eq_iff_iff]
 simp only [Bool.or_eq_true, Bool.and_eq_true, decide_eq_true_eq, Bool.false_eq_true, or_false, beq_iff_eq]
 omega
set_option maxHeartbeats 400000 in
theorem chSpace_any (n : Int) (w : World) :
  Calls Tryz.prog 77 #[.int .i32 n] w fun e w' => e = .returned (.bool (spC n)) ∧ Below w.heap.size w w' := by
 go_enter Tryz.func77, Tryz.ntmps77
 go_wp2_with fail
 refine (within_new spM 3 3 _ n w _ rfl rfl (by decide)).mono ?_
 rintro e w' ⟨rfl, hb⟩
 go_wp2_with fail
 go_ret
 exact ⟨by rw [← spM_eq]; rfl, hb⟩
def stA : Array Value := (stL.map (Value.int .i32)).toArray
set_option maxHeartbeats 400000 in
theorem chStart_any (n : Int) (w : World) :
  Calls Tryz.prog 68 #[.int .i32 n] w fun e w' => e = .returned (.bool (stC n)) ∧ Below w.heap.size w w' := by
 go_enter Tryz.func68, Tryz.ntmps68
 go_wp2_with (first
  | ((with_reducible refine wpList_buildTo rfl 122 _ rfl _ rfl stA (by kernel_rfl) ?_))
  | ((with_reducible refine wpList_store_row rfl 122 _ _ rfl w.heap.size stA rfl rfl 122 _ (heap_alloc_last w _) (by kernel_rfl) rfl (by kernel_rfl) ?_); rw [World.setRow_alloc_new]))
 refine (within_new stL 15 15 _ n w _ rfl rfl (by decide)).mono ?_
 rintro e w' ⟨rfl, hb⟩
 go_wp2_with fail
 go_ret
 exact ⟨rfl, hb⟩
def paA : Array Value := (paL.map (Value.int .i32)).toArray
set_option maxHeartbeats 400000 in
theorem chPart_any (n : Int) (w : World) :
  Calls Tryz.prog 69 #[.int .i32 n] w fun e w' => e = .returned (.bool (paC n)) ∧ Below w.heap.size w w' := by
 unfold paC
 generalize hs : stC n = s
 have HS := Lib.hid hs
 clear hs
 go_enter Tryz.func69, Tryz.ntmps69
 go_wp2_with (first
  | ((with_reducible refine wpList_buildTo rfl 125 _ rfl _ rfl paA (by kernel_rfl) ?_))
  | ((with_reducible refine wpList_store_row rfl 125 _ _ rfl w.heap.size paA rfl rfl 125 _ (heap_alloc_last w _) (by kernel_rfl) rfl (by kernel_rfl) ?_); rw [World.setRow_alloc_new]))
 have hb0 := (Below.refl w.heap.size w).alloc (Nat.le_refl _) (Obj.cells paA 125)
 refine (chStart_any n _).mono ?_
 rintro e w1 ⟨rfl, hb1⟩
 have hbb := hb0.trans (hb1.mono (by simp))
 have hz : w.heap.size < w1.heap.size := by have := hb1.size; simp at this; omega
 have hcl : ∀ j, j < paL.length → w1.cell? ⟨w.heap.size, 0 + j, none⟩ = some (.int .i32 (paL.getD j 0)) := by
  intro j hj
  rw [hb1.cell (p := ⟨w.heap.size, 0 + j, none⟩) (by simp), Nat.zero_add, World.cell?_alloc_new]
  unfold paA
  simp [List.getD, List.getElem?_eq_getElem hj]
 rw [HS.out]
 cases s
 ·have hwn : Calls Tryz.prog 100 #[.slice (some ⟨w.heap.size, 0, none⟩) 5 5, .int .i32 n] w1 _ := within_any w.heap.size 0 5 5 n paL w1 rfl (by decide) hz hcl
  clear hcl
  go_wp2_with fail
  refine hwn.mono ?_
  rintro e w' ⟨rfl, hb2⟩
  go_wp2_with fail
  go_ret
  exact ⟨rfl, hbb.trans (hb2.mono hbb.size)⟩
 ·clear hcl
  go_wp2_with fail
  go_ret
  exact ⟨rfl, hbb⟩
def aheadR (s : ByteArray) (pos : Nat) : Bool := if pos = 0 then stC ((Utf8.decode s 0).1 : Int) else true
set_option maxHeartbeats 400000 in
theorem chName_any (s : ByteArray) (w : World) (hs : s.size ≤ 9223372036854775807) (hT : Tabs w) :
  Calls Tryz.prog 37 #[.string s] w fun e w' => e = .returned (.bool (nmD s)) ∧ Below w.heap.size w w' := by
 have hV := text_any s w hs hT
 clear hT
 obtain ⟨R, hR⟩ : ∃ R, R = nmD s := ⟨_, rfl⟩
 rw [← hR]
 unfold nmD at hR
 by_cases h0 : s.size = 0
 ·have HR := Lib.hid hR
  clear hR hV
  have h0b : ((s.size : Int) == 0) = true := by simp [h0]
  have H0 := Lib.hid h0
  clear h0
  go_enter Tryz.func37, Tryz.ntmps37
  go_wp2_with fail
  go_ret
  exact ⟨by rw [HR.out, H0.out]; rfl, Below.refl _ _⟩
 have h0b : ((s.size : Int) == 0) = false := by rw [beq_eq_false_iff_ne]; omega
 by_cases h32 : 32 < s.size
 ·have h32z : (32 : Int) < (s.size : Int) := by omega
  have e32 : decide (s.size ≤ 32) = false := decide_eq_false (by omega)
  rw [e32, Bool.and_false, Bool.false_and, Bool.false_and] at hR
  have HR := Lib.hid hR
  clear hR hV e32 h32
  go_enter Tryz.func37, Tryz.ntmps37
  go_wp2_with fail
  go_ret
  exact ⟨by rw [HR.out]; rfl, Below.refl _ _⟩
 have h32z : ¬ (32 : Int) < (s.size : Int) := by omega
 rw [decide_eq_true (by omega : 0 < s.size), decide_eq_true (by omega : s.size ≤ 32), Bool.true_and, Bool.true_and] at hR
 generalize txD s.data.toList = v at hV hR
 have HR := Lib.hid hR
 clear hR
 have HV := Lib.hid hV
 clear hV
 go_enter Tryz.func37, Tryz.ntmps37
 go_wp2_with fail
 refine HV.out.mono ?_
 rintro e w1 ⟨rfl, hb1⟩
 clear HV
 cases v
 ·go_wp2_with fail
  go_ret
  exact ⟨by rw [HR.out]; rfl, hb1⟩
 ·go_wp2_with fail
  go_loopw [] (fun wr => ∃ pos : Nat, wr.heap[w1.heap.size]? = some (.stringIter s pos) ∧ Below w.heap.size w wr ∧ R = (aheadR s pos && allR paC (s.data.toList.drop pos))) (fun wr => s.size - wr.iterPos w1.heap.size)
  case atStart => exact ⟨0, World.iter_heap w1 s 0, hb1.alloc hb1.size _, by simpa [aheadR] using HR.out⟩
  case round =>
   obtain ⟨pos, hit, hbw, hr⟩ := hrel
   have hsz : w1.heap.size < wr.heap.size := (Array.getElem?_eq_some_iff.1 hit).1
   have hip : wr.iterPos w1.heap.size = pos := iterPos_of hit
   by_cases hp : pos < s.size
   ·have hst := allR_at paC s pos hp
    have hwd := width_pos s pos hp
    have hnx : ∀ ty, (Instr.next (.pointer (some ⟨w1.heap.size, 0, none⟩)) true ty).run Tryz.prog wr = _ := fun ty => Lib.run_next_any_at wr w1.heap.size s pos ty hit hp
    have hit2 := Lib.iterAt_heap wr w1.heap.size s pos (pos + (Utf8.decode s pos).2) hit
    have hbw2 := Lib.below_iterAt hbw (k := w1.heap.size) hb1.size s (pos + (Utf8.decode s pos).2)
    have hah : aheadR s pos = (if pos = 0 then stC ((Utf8.decode s pos).1 : Int) else true) := by
     unfold aheadR
     by_cases h : pos = 0
     ·rw [if_pos h, if_pos h, h]
     ·rw [if_neg h, if_neg h]
    generalize (Utf8.decode s pos).1 = r at hst hnx hah
    have hd0 : aheadR s (pos + (Utf8.decode s pos).2) = true := by unfold aheadR; rw [if_neg (by omega)]
    generalize (Utf8.decode s pos).2 = d at hst hnx hwd hit2 hbw2 hd0
    generalize wr.iterAt w1.heap.size s (pos + d) = W1 at hnx hit2 hbw2
    rw [hst, hah] at hr
    have HS := Lib.hid hr
    have HI := Lib.hid hit2
    have HP := Lib.hid hip
    have HD := Lib.hid hd0
    clear hst hr hit hit2 hip hah hd0
    have hz1 : w1.heap.size < W1.heap.size := (Array.getElem?_eq_some_iff.1 HI.out).1
    have fin : ∀ W2, Below W1.heap.size W1 W2 → W2.heap[w1.heap.size]? = some (.stringIter s (pos + d)) ∧ Below w.heap.size w W2 := fun W2 hb2 => ⟨(hb2.block _ hz1).trans HI.out, hbw2.trans (hb2.mono hbw2.size)⟩
    by_cases hp0 : pos = 0
    ·have hp0b : ((pos : Int) == 0) = true := by simp [hp0]
     have hs2 := HS.out
     rw [if_pos hp0] at hs2
     have HS2 := Lib.hid hs2
     clear hs2 HS hp0
     go_wp2_with fail
     refine (chStart_any (r : Int) W1).mono ?_
     rintro e W2 ⟨rfl, hb2⟩
     generalize stC (r : Int) = c at HS2
     cases c
     ·go_wp2_with fail
      go_ret
      exact ⟨by rw [HS2.out]; rfl, (fin _ hb2).2⟩
     ·go_wp2_with fail
      refine (chPart_any (r : Int) W2).mono ?_
      rintro e W3 ⟨rfl, hb3⟩
      have hb23 := hb2.trans (hb3.mono hb2.size)
      generalize paC (r : Int) = c2 at HS2
      cases c2
      ·go_wp2_with fail
       go_ret
       exact ⟨by rw [HS2.out]; rfl, (fin _ hb23).2⟩
      ·go_wp2_with fail
       go_roundw
       case rel => exact ⟨pos + d, (fin _ hb23).1, (fin _ hb23).2, by rw [HS2.out, HD.out]; rfl⟩
       case measure =>
        rw [iterPos_of (fin _ hb23).1, HP.out]
        omega
    ·have hp0b : ((pos : Int) == 0) = false := by rw [beq_eq_false_iff_ne]; omega
     have hs2 := HS.out
     rw [if_neg hp0] at hs2
     have HS2 := Lib.hid hs2
     clear hs2 HS hp0
     go_wp2_with fail
     refine (chPart_any (r : Int) W1).mono ?_
     rintro e W2 ⟨rfl, hb2⟩
     generalize paC (r : Int) = c2 at HS2
     cases c2
     ·go_wp2_with fail
      go_ret
      exact ⟨by rw [HS2.out]; rfl, (fin _ hb2).2⟩
     ·go_wp2_with fail
      go_roundw
      case rel => exact ⟨pos + d, (fin _ hb2).1, (fin _ hb2).2, by rw [HS2.out, HD.out]; rfl⟩
      case measure =>
       rw [iterPos_of (fin _ hb2).1, HP.out]
       omega
   ·have hf := drop_end s pos hp
    have hah : aheadR s pos = true := by unfold aheadR; rw [if_neg (by omega)]
    rw [hf, allR_nil, hah] at hr
    have hnx : ∀ ty, (Instr.next (.pointer (some ⟨w1.heap.size, 0, none⟩)) true ty).run Tryz.prog wr = _ := fun ty => Lib.run_next_end_at wr w1.heap.size s pos ty hit hp
    have HF := Lib.hid hr
    clear hf hr hit hip hah
    go_wp2_with fail
    go_ret
    exact ⟨by rw [HF.out]; rfl, hbw⟩
end Char
end Go.Proofs.YtlmodgnkmlbjhaaGreatDoor
