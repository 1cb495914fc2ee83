import Derived.Test.YtlmodgnkmlbjhaaGreatDoorPkBs
import Derived.Test.YtlmodgnkmlbjhaaGreatDoorPkMat
import Derived.Test.YtlmodgnkmlbjhaaGreatDoorPkReader
namespace Go.Proofs.YtlmodgnkmlbjhaaGreatDoor
namespace Char
open Go.RowKit Go.Lib
def plainB (b : UInt8) : Prop := b ≠ 38 ∧ b ≠ 60 ∧ b ≠ 13 ∧ b ≠ 62 ∧ b ≠ 34 ∧ b ≠ 9 ∧ b ≠ 10
theorem b_cases (b : UInt8) : b = 38 ∨ b = 60 ∨ b = 13 ∨ b = 62 ∨ b = 34 ∨ b = 9 ∨ b = 10 ∨ plainB b := by
 unfold plainB
 by_cases h1 : b = 38
 ·exact .inl h1
 by_cases h2 : b = 60
 ·exact .inr (.inl h2)
 by_cases h3 : b = 13
 ·exact .inr (.inr (.inl h3))
 by_cases h4 : b = 62
 ·exact .inr (.inr (.inr (.inl h4)))
 by_cases h5 : b = 34
 ·exact .inr (.inr (.inr (.inr (.inl h5))))
 by_cases h6 : b = 9
 ·exact .inr (.inr (.inr (.inr (.inr (.inl h6)))))
 by_cases h7 : b = 10
 ·exact .inr (.inr (.inr (.inr (.inr (.inr (.inl h7))))))
 exact .inr (.inr (.inr (.inr (.inr (.inr (.inr ⟨h1, h2, h3, h4, h5, h6, h7⟩))))))
theorem std_plain {attr : Bool} {b : UInt8} (h : plainB b) : stdL attr b = [b] := by
 obtain ⟨h1, h2, h3, h4, h5, h6, h7⟩ := h
 simp [stdL, h1, h2, h3, h4, h5, h6, h7]
set_option maxRecDepth 100000 in
set_option maxHeartbeats 8000000 in
theorem refPut_any (l : List UInt8) (attr : Bool) (w : World) (hl : l.length ≤ 60000) :
  Calls Tryz.prog 22 #[.string (bs l), .bool attr] w fun e w' => e = .returned (.string (bs (putL attr l))) ∧ w = w' := by
 obtain ⟨X, hX⟩ : ∃ X, putL attr l = X := ⟨_, rfl⟩
 rw [hX]
 have HX := Lib.hid hX
 have hsz := bs_size l
 have HSZ := Lib.hid hsz
 clear hX
 go_enter Tryz.func22, Tryz.ntmps22
 go_wp2_with fail
 go_loop [5, 6] (fun o i => ∃ (k : Nat) (acc : List UInt8), i = .int .i64 (k : Int) ∧ o = .string (bs acc) ∧ k ≤ l.length ∧ acc.length ≤ 6 * k ∧ Hid (acc ++ putL attr (l.drop k) = X)) (fun _ i => l.length - (RowKit.intOf i).toNat)
 case atStart => exact ⟨0, [], rfl, rfl, by omega, by simp, Lib.hid (by simpa using HX.out)⟩
 case round =>
  obtain ⟨k, acc, rfl, rfl, hk, hal, HG⟩ := hrel
  by_cases hlt : k < l.length
  ·have hg := HG.out
   have hsl := slice_one l k hlt
   rw [drop_cons l k hlt, putL_cons, ← List.append_assoc] at hg
   have hle := stdL_le attr (l.getD k 0)
   generalize l.getD k 0 = b at *
   rcases b_cases b with rfl | rfl | rfl | rfl | rfl | rfl | rfl | hp
   ·have hadd : ∀ wx, (Op.stringOp .add (bs acc) ⟨#[38, 97, 109, 112, 59]⟩).run Tryz.prog wx = .ok (.string (bs (acc ++ [38, 97, 109, 112, 59]))) wx := add_bs acc [38, 97, 109, 112, 59] (by omega) (by simp)
    have hal2 : (acc ++ [38, 97, 109, 112, 59]).length ≤ 6 * (k + 1) := by simp; omega
    have HS : Hid ((acc ++ [38, 97, 109, 112, 59]) ++ putL attr (l.drop (k + 1)) = X) := Lib.hid hg
    have q38 := eq_one 38 38 true (by decide)
    clear hg HG hle
    go_wp2_with fail
    go_round
    case rel => exact ⟨k + 1, acc ++ [38, 97, 109, 112, 59], by go_num, rfl, by omega, hal2, HS⟩
    case measure => simp [RowKit.intOf]; omega
   ·have hadd : ∀ wx, (Op.stringOp .add (bs acc) ⟨#[38, 108, 116, 59]⟩).run Tryz.prog wx = .ok (.string (bs (acc ++ [38, 108, 116, 59]))) wx := add_bs acc [38, 108, 116, 59] (by omega) (by simp)
    have hal2 : (acc ++ [38, 108, 116, 59]).length ≤ 6 * (k + 1) := by simp; omega
    have HS : Hid ((acc ++ [38, 108, 116, 59]) ++ putL attr (l.drop (k + 1)) = X) := Lib.hid hg
    have q38 := eq_one 60 38 false (by decide)
    have q60 := eq_one 60 60 true (by decide)
    clear hg HG hle
    go_wp2_with fail
    go_round
    case rel => exact ⟨k + 1, acc ++ [38, 108, 116, 59], by go_num, rfl, by omega, hal2, HS⟩
    case measure => simp [RowKit.intOf]; omega
   ·have hadd : ∀ wx, (Op.stringOp .add (bs acc) ⟨#[38, 35, 49, 51, 59]⟩).run Tryz.prog wx = .ok (.string (bs (acc ++ [38, 35, 49, 51, 59]))) wx := add_bs acc [38, 35, 49, 51, 59] (by omega) (by simp)
    have hal2 : (acc ++ [38, 35, 49, 51, 59]).length ≤ 6 * (k + 1) := by simp; omega
    have HS : Hid ((acc ++ [38, 35, 49, 51, 59]) ++ putL attr (l.drop (k + 1)) = X) := Lib.hid hg
    have q38 := eq_one 13 38 false (by decide)
    have q60 := eq_one 13 60 false (by decide)
    have q13 := eq_one 13 13 true (by decide)
    clear hg HG hle
    go_wp2_with fail
    go_round
    case rel => exact ⟨k + 1, acc ++ [38, 35, 49, 51, 59], by go_num, rfl, by omega, hal2, HS⟩
    case measure => simp [RowKit.intOf]; omega
   ·cases attr
    ·have hadd : ∀ wx, (Op.stringOp .add (bs acc) ⟨#[38, 103, 116, 59]⟩).run Tryz.prog wx = .ok (.string (bs (acc ++ [38, 103, 116, 59]))) wx := add_bs acc [38, 103, 116, 59] (by omega) (by simp)
     have hal2 : (acc ++ [38, 103, 116, 59]).length ≤ 6 * (k + 1) := by simp; omega
     have HS : Hid ((acc ++ [38, 103, 116, 59]) ++ putL false (l.drop (k + 1)) = X) := Lib.hid hg
     have q38 := eq_one 62 38 false (by decide)
     have q60 := eq_one 62 60 false (by decide)
     have q13 := eq_one 62 13 false (by decide)
     have q62 := eq_one 62 62 true (by decide)
     clear hg HG hle
     go_wp2_with fail
     go_round
     case rel => exact ⟨k + 1, acc ++ [38, 103, 116, 59], by go_num, rfl, by omega, hal2, HS⟩
     case measure => simp [RowKit.intOf]; omega
    ·have hadd := add_bs acc [62] (by omega) (by simp)
     have hal2 : (acc ++ [62]).length ≤ 6 * (k + 1) := by simp; omega
     have HS : Hid ((acc ++ [62]) ++ putL true (l.drop (k + 1)) = X) := Lib.hid hg
     have q38 := eq_one 62 38 false (by decide)
     have q60 := eq_one 62 60 false (by decide)
     have q13 := eq_one 62 13 false (by decide)
     have q62 := eq_one 62 62 true (by decide)
     have q34 := eq_one 62 34 false (by decide)
     have q9 := eq_one 62 9 false (by decide)
     have q10 := eq_one 62 10 false (by decide)
     clear hg HG hle
     go_wp2_with fail
     go_round
     case rel => exact ⟨k + 1, acc ++ [62], by go_num, rfl, by omega, hal2, HS⟩
     case measure => simp [RowKit.intOf]; omega
   ·cases attr
    ·have hadd := add_bs acc [34] (by omega) (by simp)
     have hal2 : (acc ++ [34]).length ≤ 6 * (k + 1) := by simp; omega
     have HS : Hid ((acc ++ [34]) ++ putL false (l.drop (k + 1)) = X) := Lib.hid hg
     have q38 := eq_one 34 38 false (by decide)
     have q60 := eq_one 34 60 false (by decide)
     have q13 := eq_one 34 13 false (by decide)
     have q62 := eq_one 34 62 false (by decide)
     have q34 := eq_one 34 34 true (by decide)
     have q9 := eq_one 34 9 false (by decide)
     have q10 := eq_one 34 10 false (by decide)
     clear hg HG hle
     go_wp2_with fail
     go_round
     case rel => exact ⟨k + 1, acc ++ [34], by go_num, rfl, by omega, hal2, HS⟩
     case measure => simp [RowKit.intOf]; omega
    ·have hadd : ∀ wx, (Op.stringOp .add (bs acc) ⟨#[38, 113, 117, 111, 116, 59]⟩).run Tryz.prog wx = .ok (.string (bs (acc ++ [38, 113, 117, 111, 116, 59]))) wx := add_bs acc [38, 113, 117, 111, 116, 59] (by omega) (by simp)
     have hal2 : (acc ++ [38, 113, 117, 111, 116, 59]).length ≤ 6 * (k + 1) := by simp; omega
     have HS : Hid ((acc ++ [38, 113, 117, 111, 116, 59]) ++ putL true (l.drop (k + 1)) = X) := Lib.hid hg
     have q38 := eq_one 34 38 false (by decide)
     have q60 := eq_one 34 60 false (by decide)
     have q13 := eq_one 34 13 false (by decide)
     have q62 := eq_one 34 62 false (by decide)
     have q34 := eq_one 34 34 true (by decide)
     clear hg HG hle
     go_wp2_with fail
     go_round
     case rel => exact ⟨k + 1, acc ++ [38, 113, 117, 111, 116, 59], by go_num, rfl, by omega, hal2, HS⟩
     case measure => simp [RowKit.intOf]; omega
   ·cases attr
    ·have hadd := add_bs acc [9] (by omega) (by simp)
     have hal2 : (acc ++ [9]).length ≤ 6 * (k + 1) := by simp; omega
     have HS : Hid ((acc ++ [9]) ++ putL false (l.drop (k + 1)) = X) := Lib.hid hg
     have q38 := eq_one 9 38 false (by decide)
     have q60 := eq_one 9 60 false (by decide)
     have q13 := eq_one 9 13 false (by decide)
     have q62 := eq_one 9 62 false (by decide)
     have q34 := eq_one 9 34 false (by decide)
     have q9 := eq_one 9 9 true (by decide)
     have q10 := eq_one 9 10 false (by decide)
     clear hg HG hle
     go_wp2_with fail
     go_round
     case rel => exact ⟨k + 1, acc ++ [9], by go_num, rfl, by omega, hal2, HS⟩
     case measure => simp [RowKit.intOf]; omega
    ·have hadd : ∀ wx, (Op.stringOp .add (bs acc) ⟨#[38, 35, 57, 59]⟩).run Tryz.prog wx = .ok (.string (bs (acc ++ [38, 35, 57, 59]))) wx := add_bs acc [38, 35, 57, 59] (by omega) (by simp)
     have hal2 : (acc ++ [38, 35, 57, 59]).length ≤ 6 * (k + 1) := by simp; omega
     have HS : Hid ((acc ++ [38, 35, 57, 59]) ++ putL true (l.drop (k + 1)) = X) := Lib.hid hg
     have q38 := eq_one 9 38 false (by decide)
     have q60 := eq_one 9 60 false (by decide)
     have q13 := eq_one 9 13 false (by decide)
     have q62 := eq_one 9 62 false (by decide)
     have q34 := eq_one 9 34 false (by decide)
     have q9 := eq_one 9 9 true (by decide)
     clear hg HG hle
     go_wp2_with fail
     go_round
     case rel => exact ⟨k + 1, acc ++ [38, 35, 57, 59], by go_num, rfl, by omega, hal2, HS⟩
     case measure => simp [RowKit.intOf]; omega
   ·cases attr
    ·have hadd := add_bs acc [10] (by omega) (by simp)
     have hal2 : (acc ++ [10]).length ≤ 6 * (k + 1) := by simp; omega
     have HS : Hid ((acc ++ [10]) ++ putL false (l.drop (k + 1)) = X) := Lib.hid hg
     have q38 := eq_one 10 38 false (by decide)
     have q60 := eq_one 10 60 false (by decide)
     have q13 := eq_one 10 13 false (by decide)
     have q62 := eq_one 10 62 false (by decide)
     have q34 := eq_one 10 34 false (by decide)
     have q9 := eq_one 10 9 false (by decide)
     have q10 := eq_one 10 10 true (by decide)
     clear hg HG hle
     go_wp2_with fail
     go_round
     case rel => exact ⟨k + 1, acc ++ [10], by go_num, rfl, by omega, hal2, HS⟩
     case measure => simp [RowKit.intOf]; omega
    ·have hadd : ∀ wx, (Op.stringOp .add (bs acc) ⟨#[38, 35, 49, 48, 59]⟩).run Tryz.prog wx = .ok (.string (bs (acc ++ [38, 35, 49, 48, 59]))) wx := add_bs acc [38, 35, 49, 48, 59] (by omega) (by simp)
     have hal2 : (acc ++ [38, 35, 49, 48, 59]).length ≤ 6 * (k + 1) := by simp; omega
     have HS : Hid ((acc ++ [38, 35, 49, 48, 59]) ++ putL true (l.drop (k + 1)) = X) := Lib.hid hg
     have q38 := eq_one 10 38 false (by decide)
     have q60 := eq_one 10 60 false (by decide)
     have q13 := eq_one 10 13 false (by decide)
     have q62 := eq_one 10 62 false (by decide)
     have q34 := eq_one 10 34 false (by decide)
     have q9 := eq_one 10 9 false (by decide)
     have q10 := eq_one 10 10 true (by decide)
     clear hg HG hle
     go_wp2_with fail
     go_round
     case rel => exact ⟨k + 1, acc ++ [38, 35, 49, 48, 59], by go_num, rfl, by omega, hal2, HS⟩
     case measure => simp [RowKit.intOf]; omega
   ·have hadd := add_bs acc [b] (by omega) (by simp)
    have hal2 : (acc ++ [b]).length ≤ 6 * (k + 1) := by simp; omega
    rw [std_plain hp] at hg
    have HS : Hid ((acc ++ [b]) ++ putL attr (l.drop (k + 1)) = X) := Lib.hid hg
    obtain ⟨p38, p60, p13, p62, p34, p9, p10⟩ := hp
    have q38 := ne_one b 38 p38
    have q60 := ne_one b 60 p60
    have q13 := ne_one b 13 p13
    have q62 := ne_one b 62 p62
    have q34 := ne_one b 34 p34
    have q9 := ne_one b 9 p9
    have q10 := ne_one b 10 p10
    clear hg HG hle p38 p60 p13 p62 p34 p9 p10
    go_wp2_with fail
    go_round
    case rel => exact ⟨k + 1, acc ++ [b], by go_num, rfl, by omega, hal2, HS⟩
    case measure => simp [RowKit.intOf]; omega
  ·have hg := HG.out
   rw [List.drop_eq_nil_of_le (by omega), putL_nil, List.append_nil] at hg
   have HS := Lib.hid hg
   clear hg HG
   go_wp2_with fail
   go_ret
   exact ⟨ret_str HS.out, rfl⟩
end Char
namespace Char
open Go.RowKit Go.Lib Go.Shelf
def sfL (attr : Bool) (b : UInt8) : List UInt8 := if stdL attr b = [b] then [] else stdL attr b
theorem sf_plain {attr : Bool} {b : UInt8} (h : plainB b) : sfL attr b = [] := by unfold sfL; rw [if_pos (std_plain h)]
def SfPost (attr : Bool) (b : UInt8) (w : World) (e : Ending) (w' : World) : Prop := e = .returned (.string (bs (sfL attr b))) ∧ w' = w
theorem u8_no (b x : UInt8) (h : b ≠ x) : ((b.toNat : Int) == (x.toNat : Int)) = false := by
 rw [beq_eq_false_iff_ne]
 intro hh
 apply h
 apply UInt8.toNat_inj.1
 omega
set_option maxHeartbeats 4000000 in
theorem inText_any (b : UInt8) (w : World) : Calls Tryz.prog 110 #[.int .u8 (b.toNat : Int)] w (SfPost false b w) := by
 by_cases h1 : b = 38
 ·subst h1
  show Calls Tryz.prog 110 #[.int .u8 38] w (SfPost false 38 w)
  go_enter Tryz.func110, Tryz.ntmps110
  go_wp2_with fail
  go_ret
  exact ⟨rfl, rfl⟩
 by_cases h2 : b = 60
 ·subst h2
  show Calls Tryz.prog 110 #[.int .u8 60] w (SfPost false 60 w)
  go_enter Tryz.func110, Tryz.ntmps110
  go_wp2_with fail
  go_ret
  exact ⟨rfl, rfl⟩
 by_cases h3 : b = 62
 ·subst h3
  show Calls Tryz.prog 110 #[.int .u8 62] w (SfPost false 62 w)
  go_enter Tryz.func110, Tryz.ntmps110
  go_wp2_with fail
  go_ret
  exact ⟨rfl, rfl⟩
 by_cases h4 : b = 13
 ·subst h4
  show Calls Tryz.prog 110 #[.int .u8 13] w (SfPost false 13 w)
  go_enter Tryz.func110, Tryz.ntmps110
  go_wp2_with fail
  go_ret
  exact ⟨rfl, rfl⟩
 have HSF : Hid (sfL false b = []) := Lib.hid (by unfold sfL; rw [if_pos (by simp [stdL, h1, h2, h3, h4])])
 have q1 : ((b.toNat : Int) == 38) = false := u8_no b 38 h1
 have q2 : ((b.toNat : Int) == 60) = false := u8_no b 60 h2
 have q3 : ((b.toNat : Int) == 62) = false := u8_no b 62 h3
 have q4 : ((b.toNat : Int) == 13) = false := u8_no b 13 h4
 clear h1 h2 h3 h4
 generalize (b.toNat : Int) = z at *
 go_enter Tryz.func110, Tryz.ntmps110
 go_wp2_with fail
 go_ret
 exact ⟨by rw [HSF.out]; rfl, rfl⟩
set_option maxHeartbeats 4000000 in
theorem inAttr_any (b : UInt8) (w : World) : Calls Tryz.prog 109 #[.int .u8 (b.toNat : Int)] w (SfPost true b w) := by
 by_cases h1 : b = 38
 ·subst h1
  show Calls Tryz.prog 109 #[.int .u8 38] w (SfPost true 38 w)
  go_enter Tryz.func109, Tryz.ntmps109
  go_wp2_with fail
  go_ret
  exact ⟨rfl, rfl⟩
 by_cases h2 : b = 60
 ·subst h2
  show Calls Tryz.prog 109 #[.int .u8 60] w (SfPost true 60 w)
  go_enter Tryz.func109, Tryz.ntmps109
  go_wp2_with fail
  go_ret
  exact ⟨rfl, rfl⟩
 by_cases h3 : b = 34
 ·subst h3
  show Calls Tryz.prog 109 #[.int .u8 34] w (SfPost true 34 w)
  go_enter Tryz.func109, Tryz.ntmps109
  go_wp2_with fail
  go_ret
  exact ⟨rfl, rfl⟩
 by_cases h4 : b = 9
 ·subst h4
  show Calls Tryz.prog 109 #[.int .u8 9] w (SfPost true 9 w)
  go_enter Tryz.func109, Tryz.ntmps109
  go_wp2_with fail
  go_ret
  exact ⟨rfl, rfl⟩
 by_cases h5 : b = 10
 ·subst h5
  show Calls Tryz.prog 109 #[.int .u8 10] w (SfPost true 10 w)
  go_enter Tryz.func109, Tryz.ntmps109
  go_wp2_with fail
  go_ret
  exact ⟨rfl, rfl⟩
 by_cases h6 : b = 13
 ·subst h6
  show Calls Tryz.prog 109 #[.int .u8 13] w (SfPost true 13 w)
  go_enter Tryz.func109, Tryz.ntmps109
  go_wp2_with fail
  go_ret
  exact ⟨rfl, rfl⟩
 have HSF : Hid (sfL true b = []) := Lib.hid (by unfold sfL; rw [if_pos (by simp [stdL, h1, h2, h3, h4, h5, h6])])
 have q1 : ((b.toNat : Int) == 38) = false := u8_no b 38 h1
 have q2 : ((b.toNat : Int) == 60) = false := u8_no b 60 h2
 have q3 : ((b.toNat : Int) == 34) = false := u8_no b 34 h3
 have q4 : ((b.toNat : Int) == 9) = false := u8_no b 9 h4
 have q5 : ((b.toNat : Int) == 10) = false := u8_no b 10 h5
 have q6 : ((b.toNat : Int) == 13) = false := u8_no b 13 h6
 clear h1 h2 h3 h4 h5 h6
 generalize (b.toNat : Int) = z at *
 go_enter Tryz.func109, Tryz.ntmps109
 go_wp2_with fail
 go_ret
 exact ⟨by rw [HSF.out]; rfl, rfl⟩
def PutK (w : World) (attr : Bool) (l : List UInt8) (k : Nat) (acc : List UInt8) (wr : World) : Prop :=
 Bld w.heap.size w.heap.size acc wr ∧ Below w.heap.size w wr ∧ k ≤ l.length ∧ acc.length ≤ 6 * k ∧ acc ++ putL attr (l.drop k) = putL attr l
theorem PutK.step {w : World} {attr : Bool} {l : List UInt8} {k : Nat} {acc c : List UInt8} {wr w2 : World} (h : PutK w attr l k acc wr) (hlt : k < l.length) (hc : c = stdL attr (l.getD k 0)) (hp : BldPost w.heap.size w.heap.size (acc ++ c) wr w2) : PutK w attr l (k + 1) (acc ++ c) w2 := by
 obtain ⟨h1, h2, h3, h4, h5⟩ := h
 have hle := stdL_le attr (l.getD k 0)
 rw [drop_cons l k hlt, putL_cons, ← List.append_assoc, ← hc] at h5
 refine ⟨hp.1, h2.trans hp.2, by omega, ?_, h5⟩
 rw [List.length_append, hc]
 omega
set_option maxRecDepth 100000 in
set_option maxHeartbeats 4000000 in
theorem putE_any (g : Nat) (attr : Bool) (eg : ∀ args w, (callFunc g args).run Tryz.prog w = .ok (.enter g args) w) (hg : ∀ (b : UInt8) (W : World), Calls Tryz.prog g #[.int .u8 (b.toNat : Int)] W (SfPost attr b W)) (l : List UInt8) (w : World) (hl : l.length ≤ 60000) :
  Calls Tryz.prog 108 #[.string (bs l), .func (.func g) #[] #[]] w fun e w' => e = .returned (.string (bs (putL attr l))) ∧ Below w.heap.size w w' := by
 obtain ⟨X, hX⟩ : ∃ X, putL attr l = X := ⟨_, rfl⟩
 rw [hX]
 have HX := Lib.hid hX
 have HC := Lib.hid hg
 have hsz := bs_size l
 have HSZ := Lib.hid hsz
 have HK0 : Hid (PutK w attr l 0 [] (w.alloc (.cells #[.pointer none, .slice none 0 0] 44))) := Lib.hid ⟨Lib.IsBuilderF.of (Lib.fresh_isBuilder 44 5 w), (Below.refl _ _).alloc (Nat.le_refl _) _, Nat.zero_le _, by simp, rfl⟩
 clear hX hg
 go_enter Tryz.func108, Tryz.ntmps108
 go_wp2_with fail
 go_loopw [10] (fun i wr => ∃ (k : Nat) (acc : List UInt8), i = .int .i64 (k : Int) ∧ PutK w attr l k acc wr) (fun i _ => l.length - (RowKit.intOf i).toNat)
 case atStart => exact ⟨0, [], rfl, HK0.out⟩
 case round =>
  obtain ⟨k, acc, rfl, hk⟩ := hrel
  have HK := Lib.hid hk
  obtain ⟨hbl, hbw, hkl, hal, _⟩ := hk
  have hz := hbw.size
  have HB := Lib.hid hbl
  have HBW := Lib.hid hbw
  clear hbl hbw HK0
  by_cases hlt : k < l.length
  ·have hlt' : k < (bs l).size := by rw [hsz]; exact hlt
   have hgt := bs_get l k hlt'
   obtain ⟨b, hb⟩ : ∃ b, b = l.getD k 0 := ⟨_, rfl⟩
   rw [← hb] at hgt
   have HBB := Lib.hid hb
   have HCB := Lib.hid (HC.out b)
   by_cases hst : stdL attr b = [b]
   ·have hsf : sfL attr b = [] := by unfold sfL; rw [if_pos hst]
    have HS := Lib.hid (show [b] = stdL attr (l.getD k 0) by rw [← hb, hst])
    have HSF := Lib.hid hsf
    have i1 : (bs (sfL attr b)).toList = [] := by rw [hsf]; exact bs_tl []
    have i2 : (bs (sfL attr b)).toList.isEmpty = true := by rw [i1]; rfl
    clear hb hst hsf
    go_wp2_with fail
    refine (HCB.out _).mono ?_
    rintro e w1 ⟨rfl, rfl⟩
    go_wp2_with fail
    refine (byte_any w.heap.size w.heap.size acc b _ HB.out (by omega) hz).mono ?_
    rintro e w2 ⟨rfl, hp⟩
    have HK2 := Lib.hid (HK.out.step hlt HS.out hp)
    clear hp
    go_wp2_with fail
    go_roundw
    case rel => exact ⟨k + 1, _, by go_num, HK2.out⟩
    case measure => simp [RowKit.intOf]; omega
   ·have hsf : sfL attr b = stdL attr b := by unfold sfL; rw [if_neg hst]
    have hle := stdL_le attr b
    have hne : sfL attr b ≠ [] := by
     rw [hsf]
     unfold stdL
     repeat' split
     all_goals simp
    have HS := Lib.hid (show sfL attr b = stdL attr (l.getD k 0) by rw [← hb, hsf])
    rw [← hsf] at hle
    obtain ⟨r, hr⟩ : ∃ r, sfL attr b = r := ⟨_, rfl⟩
    have HCR : Hid (∀ W, Calls Tryz.prog g #[.int .u8 (b.toNat : Int)] W fun e w' => e = .returned (.string (bs r)) ∧ w' = W) := Lib.hid (fun W => by rw [← hr]; exact HCB.out W)
    rw [hr] at hle hne HS
    have i1 : ¬ (bs r).toList = [] := by rw [bs_tl]; exact hne
    have i2 : (bs r).toList.isEmpty = false := by rw [bs_tl]; cases r with | nil => exact absurd rfl hne | cons _ _ => rfl
    clear hb hst hsf hne hr HCB HC
    go_wp2_with fail
    refine (HCR.out _).mono ?_
    rintro e w1 ⟨rfl, rfl⟩
    go_wp2_with fail
    refine (str_any w.heap.size w.heap.size acc r _ HB.out (by omega) hz).mono ?_
    rintro e w2 ⟨rfl, hp⟩
    have HK2 := Lib.hid (HK.out.step hlt HS.out hp)
    clear hp
    go_wp2_with fail
    go_roundw
    case rel => exact ⟨k + 1, _, by go_num, HK2.out⟩
    case measure => simp [RowKit.intOf]; omega
  ·have hend : Hid (acc = X) := Lib.hid (by
    have h := HK.out.2.2.2.2
    rw [List.drop_eq_nil_of_le (by omega), putL_nil, List.append_nil] at h
    rw [h]; exact HX.out)
   go_wp2_with fail
   refine (out_any w.heap.size w.heap.size acc _ HB.out hz).mono ?_
   rintro e w2 ⟨rfl, hb2⟩
   go_wp2_with fail
   go_ret
   exact ⟨ret_str hend.out, HBW.out.trans hb2⟩
set_option maxHeartbeats 2000000 in
theorem Put_any (l : List UInt8) (w : World) (hl : l.length ≤ 60000) :
  Calls Tryz.prog 80 #[.string (bs l)] w fun e w' => e = .returned (.string (bs (putL false l))) ∧ Below w.heap.size w w' := by
 have HP := Lib.hid (putE_any 110 false (enters_of Tryz.func110 (by kernel_rfl) rfl) inText_any l w hl)
 generalize putL false l = X at *
 go_enter Tryz.func80, Tryz.ntmps80
 go_wp2_with fail
 refine HP.out.mono ?_
 rintro e w2 ⟨rfl, hb2⟩
 go_wp2_with fail
 go_ret
 exact ⟨rfl, hb2⟩
set_option maxHeartbeats 2000000 in
theorem PutAttr_any (l : List UInt8) (w : World) (hl : l.length ≤ 60000) :
  Calls Tryz.prog 79 #[.string (bs l)] w fun e w' => e = .returned (.string (bs (putL true l))) ∧ Below w.heap.size w w' := by
 have HP := Lib.hid (putE_any 109 true (enters_of Tryz.func109 (by kernel_rfl) rfl) inAttr_any l w hl)
 generalize putL true l = X at *
 go_enter Tryz.func79, Tryz.ntmps79
 go_wp2_with fail
 refine HP.out.mono ?_
 rintro e w2 ⟨rfl, hb2⟩
 go_wp2_with fail
 go_ret
 exact ⟨rfl, hb2⟩
end Char
end Go.Proofs.YtlmodgnkmlbjhaaGreatDoor
