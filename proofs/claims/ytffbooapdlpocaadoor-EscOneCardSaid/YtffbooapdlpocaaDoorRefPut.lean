/- The walk of the document's own Put. -/
import Derived.Test.YtffbooapdlpocaaDoorBs
import Derived.Test.YtffbooapdlpocaaDoorEscM
namespace Go.Proofs.YtffbooapdlpocaaDoor.Char
open Go.RowKit Go.Lib

/-- the bytes for which something may stand -/
def plainB (b : UInt8) : Prop := b ≠ 38 ∧ b ≠ 60 ∧ b ≠ 13 ∧ b ≠ 62 ∧ b ≠ 34 ∧ b ≠ 9 ∧ b ≠ 10
theorem b_cases (b : UInt8) : b = 38 ∨ b = 60 ∨ b = 13 ∨ b = 62 ∨ b = 34 ∨ b = 9 ∨ b = 10 ∨ plainB b := by
  unfold plainB
  by_cases h1 : b = 38
  · exact .inl h1
  by_cases h2 : b = 60
  · exact .inr (.inl h2)
  by_cases h3 : b = 13
  · exact .inr (.inr (.inl h3))
  by_cases h4 : b = 62
  · exact .inr (.inr (.inr (.inl h4)))
  by_cases h5 : b = 34
  · exact .inr (.inr (.inr (.inr (.inl h5))))
  by_cases h6 : b = 9
  · exact .inr (.inr (.inr (.inr (.inr (.inl h6)))))
  by_cases h7 : b = 10
  · exact .inr (.inr (.inr (.inr (.inr (.inr (.inl h7))))))
  exact .inr (.inr (.inr (.inr (.inr (.inr (.inr ⟨h1, h2, h3, h4, h5, h6, h7⟩))))))
theorem std_plain {attr : Bool} {b : UInt8} (h : plainB b) : stdL attr b = [b] := by
  obtain ⟨h1, h2, h3, h4, h5, h6, h7⟩ := h
  simp [stdL, h1, h2, h3, h4, h5, h6, h7]

set_option maxRecDepth 100000 in
set_option maxHeartbeats 8000000 in
theorem refPut_any (l : List UInt8) (attr : Bool) (w : World) (hl : l.length ≤ 2000) :
    Calls Tryd.prog 9 #[.string (bs l), .bool attr] w fun e w' => e = .returned (.string (bs (putL attr l))) ∧ w = w' := by
  obtain ⟨X, hX⟩ : ∃ X, putL attr l = X := ⟨_, rfl⟩
  rw [hX]
  have HX := Lib.hid hX
  have hsz := bs_size l
  have HSZ := Lib.hid hsz
  clear hX
  go_enter Tryd.func9, Tryd.ntmps9
  go_wp2_with fail
  go_loop [5, 6] (fun o i => ∃ (k : Nat) (acc : List UInt8), i = .int .i64 (k : Int) ∧ o = .string (bs acc) ∧ k ≤ l.length ∧ acc.length ≤ 6 * k ∧ Hid (acc ++ putL attr (l.drop k) = X)) (fun _ i => l.length - (RowKit.intOf i).toNat)
  case atStart => exact ⟨0, [], rfl, rfl, by omega, by simp, Lib.hid (by simpa using HX.out)⟩
  case round =>
    obtain ⟨k, acc, rfl, rfl, hk, hal, HG⟩ := hrel
    by_cases hlt : k < l.length
    · have hg := HG.out
      have hsl := slice_one l k hlt
      rw [drop_cons l k hlt, putL_cons, ← List.append_assoc] at hg
      have hle := stdL_le attr (l.getD k 0)
      generalize l.getD k 0 = b at *
      rcases b_cases b with rfl | rfl | rfl | rfl | rfl | rfl | rfl | hp
      · have hadd : ∀ wx, (Op.stringOp .add (bs acc) ⟨#[38, 97, 109, 112, 59]⟩).run Tryd.prog wx = .ok (.string (bs (acc ++ [38, 97, 109, 112, 59]))) wx := add_bs acc [38, 97, 109, 112, 59] (by omega) (by simp)
        have hal2 : (acc ++ [38, 97, 109, 112, 59]).length ≤ 6 * (k + 1) := by simp; omega
        have HS : Hid ((acc ++ [38, 97, 109, 112, 59]) ++ putL attr (l.drop (k + 1)) = X) := Lib.hid hg
        have q38 := eq_one 38 38 true (by decide)
        clear hg HG hle
        go_wp2_with fail
        go_round
        case rel => exact ⟨k + 1, acc ++ [38, 97, 109, 112, 59], by go_num, rfl, by omega, hal2, HS⟩
        case measure => simp [RowKit.intOf]; omega
      · have hadd : ∀ wx, (Op.stringOp .add (bs acc) ⟨#[38, 108, 116, 59]⟩).run Tryd.prog wx = .ok (.string (bs (acc ++ [38, 108, 116, 59]))) wx := add_bs acc [38, 108, 116, 59] (by omega) (by simp)
        have hal2 : (acc ++ [38, 108, 116, 59]).length ≤ 6 * (k + 1) := by simp; omega
        have HS : Hid ((acc ++ [38, 108, 116, 59]) ++ putL attr (l.drop (k + 1)) = X) := Lib.hid hg
        have q38 := eq_one 60 38 false (by decide)
        have q60 := eq_one 60 60 true (by decide)
        clear hg HG hle
        go_wp2_with fail
        go_round
        case rel => exact ⟨k + 1, acc ++ [38, 108, 116, 59], by go_num, rfl, by omega, hal2, HS⟩
        case measure => simp [RowKit.intOf]; omega
      · have hadd : ∀ wx, (Op.stringOp .add (bs acc) ⟨#[38, 35, 49, 51, 59]⟩).run Tryd.prog wx = .ok (.string (bs (acc ++ [38, 35, 49, 51, 59]))) wx := add_bs acc [38, 35, 49, 51, 59] (by omega) (by simp)
        have hal2 : (acc ++ [38, 35, 49, 51, 59]).length ≤ 6 * (k + 1) := by simp; omega
        have HS : Hid ((acc ++ [38, 35, 49, 51, 59]) ++ putL attr (l.drop (k + 1)) = X) := Lib.hid hg
        have q38 := eq_one 13 38 false (by decide)
        have q60 := eq_one 13 60 false (by decide)
        have q13 := eq_one 13 13 true (by decide)
        clear hg HG hle
        go_wp2_with fail
        go_round
        case rel => exact ⟨k + 1, acc ++ [38, 35, 49, 51, 59], by go_num, rfl, by omega, hal2, HS⟩
        case measure => simp [RowKit.intOf]; omega
      · cases attr
        · have hadd : ∀ wx, (Op.stringOp .add (bs acc) ⟨#[38, 103, 116, 59]⟩).run Tryd.prog wx = .ok (.string (bs (acc ++ [38, 103, 116, 59]))) wx := add_bs acc [38, 103, 116, 59] (by omega) (by simp)
          have hal2 : (acc ++ [38, 103, 116, 59]).length ≤ 6 * (k + 1) := by simp; omega
          have HS : Hid ((acc ++ [38, 103, 116, 59]) ++ putL false (l.drop (k + 1)) = X) := Lib.hid hg
          have q38 := eq_one 62 38 false (by decide)
          have q60 := eq_one 62 60 false (by decide)
          have q13 := eq_one 62 13 false (by decide)
          have q62 := eq_one 62 62 true (by decide)
          clear hg HG hle
          go_wp2_with fail
          go_round
          case rel => exact ⟨k + 1, acc ++ [38, 103, 116, 59], by go_num, rfl, by omega, hal2, HS⟩
          case measure => simp [RowKit.intOf]; omega
        · have hadd := add_bs acc [62] (by omega) (by simp)
          have hal2 : (acc ++ [62]).length ≤ 6 * (k + 1) := by simp; omega
          have HS : Hid ((acc ++ [62]) ++ putL true (l.drop (k + 1)) = X) := Lib.hid hg
          have q38 := eq_one 62 38 false (by decide)
          have q60 := eq_one 62 60 false (by decide)
          have q13 := eq_one 62 13 false (by decide)
          have q62 := eq_one 62 62 true (by decide)
          have q34 := eq_one 62 34 false (by decide)
          have q9 := eq_one 62 9 false (by decide)
          have q10 := eq_one 62 10 false (by decide)
          clear hg HG hle
          go_wp2_with fail
          go_round
          case rel => exact ⟨k + 1, acc ++ [62], by go_num, rfl, by omega, hal2, HS⟩
          case measure => simp [RowKit.intOf]; omega
      · cases attr
        · have hadd := add_bs acc [34] (by omega) (by simp)
          have hal2 : (acc ++ [34]).length ≤ 6 * (k + 1) := by simp; omega
          have HS : Hid ((acc ++ [34]) ++ putL false (l.drop (k + 1)) = X) := Lib.hid hg
          have q38 := eq_one 34 38 false (by decide)
          have q60 := eq_one 34 60 false (by decide)
          have q13 := eq_one 34 13 false (by decide)
          have q62 := eq_one 34 62 false (by decide)
          have q34 := eq_one 34 34 true (by decide)
          have q9 := eq_one 34 9 false (by decide)
          have q10 := eq_one 34 10 false (by decide)
          clear hg HG hle
          go_wp2_with fail
          go_round
          case rel => exact ⟨k + 1, acc ++ [34], by go_num, rfl, by omega, hal2, HS⟩
          case measure => simp [RowKit.intOf]; omega
        · have hadd : ∀ wx, (Op.stringOp .add (bs acc) ⟨#[38, 113, 117, 111, 116, 59]⟩).run Tryd.prog wx = .ok (.string (bs (acc ++ [38, 113, 117, 111, 116, 59]))) wx := add_bs acc [38, 113, 117, 111, 116, 59] (by omega) (by simp)
          have hal2 : (acc ++ [38, 113, 117, 111, 116, 59]).length ≤ 6 * (k + 1) := by simp; omega
          have HS : Hid ((acc ++ [38, 113, 117, 111, 116, 59]) ++ putL true (l.drop (k + 1)) = X) := Lib.hid hg
          have q38 := eq_one 34 38 false (by decide)
          have q60 := eq_one 34 60 false (by decide)
          have q13 := eq_one 34 13 false (by decide)
          have q62 := eq_one 34 62 false (by decide)
          have q34 := eq_one 34 34 true (by decide)
          clear hg HG hle
          go_wp2_with fail
          go_round
          case rel => exact ⟨k + 1, acc ++ [38, 113, 117, 111, 116, 59], by go_num, rfl, by omega, hal2, HS⟩
          case measure => simp [RowKit.intOf]; omega
      · cases attr
        · have hadd := add_bs acc [9] (by omega) (by simp)
          have hal2 : (acc ++ [9]).length ≤ 6 * (k + 1) := by simp; omega
          have HS : Hid ((acc ++ [9]) ++ putL false (l.drop (k + 1)) = X) := Lib.hid hg
          have q38 := eq_one 9 38 false (by decide)
          have q60 := eq_one 9 60 false (by decide)
          have q13 := eq_one 9 13 false (by decide)
          have q62 := eq_one 9 62 false (by decide)
          have q34 := eq_one 9 34 false (by decide)
          have q9 := eq_one 9 9 true (by decide)
          have q10 := eq_one 9 10 false (by decide)
          clear hg HG hle
          go_wp2_with fail
          go_round
          case rel => exact ⟨k + 1, acc ++ [9], by go_num, rfl, by omega, hal2, HS⟩
          case measure => simp [RowKit.intOf]; omega
        · have hadd : ∀ wx, (Op.stringOp .add (bs acc) ⟨#[38, 35, 57, 59]⟩).run Tryd.prog wx = .ok (.string (bs (acc ++ [38, 35, 57, 59]))) wx := add_bs acc [38, 35, 57, 59] (by omega) (by simp)
          have hal2 : (acc ++ [38, 35, 57, 59]).length ≤ 6 * (k + 1) := by simp; omega
          have HS : Hid ((acc ++ [38, 35, 57, 59]) ++ putL true (l.drop (k + 1)) = X) := Lib.hid hg
          have q38 := eq_one 9 38 false (by decide)
          have q60 := eq_one 9 60 false (by decide)
          have q13 := eq_one 9 13 false (by decide)
          have q62 := eq_one 9 62 false (by decide)
          have q34 := eq_one 9 34 false (by decide)
          have q9 := eq_one 9 9 true (by decide)
          clear hg HG hle
          go_wp2_with fail
          go_round
          case rel => exact ⟨k + 1, acc ++ [38, 35, 57, 59], by go_num, rfl, by omega, hal2, HS⟩
          case measure => simp [RowKit.intOf]; omega
      · cases attr
        · have hadd := add_bs acc [10] (by omega) (by simp)
          have hal2 : (acc ++ [10]).length ≤ 6 * (k + 1) := by simp; omega
          have HS : Hid ((acc ++ [10]) ++ putL false (l.drop (k + 1)) = X) := Lib.hid hg
          have q38 := eq_one 10 38 false (by decide)
          have q60 := eq_one 10 60 false (by decide)
          have q13 := eq_one 10 13 false (by decide)
          have q62 := eq_one 10 62 false (by decide)
          have q34 := eq_one 10 34 false (by decide)
          have q9 := eq_one 10 9 false (by decide)
          have q10 := eq_one 10 10 true (by decide)
          clear hg HG hle
          go_wp2_with fail
          go_round
          case rel => exact ⟨k + 1, acc ++ [10], by go_num, rfl, by omega, hal2, HS⟩
          case measure => simp [RowKit.intOf]; omega
        · have hadd : ∀ wx, (Op.stringOp .add (bs acc) ⟨#[38, 35, 49, 48, 59]⟩).run Tryd.prog wx = .ok (.string (bs (acc ++ [38, 35, 49, 48, 59]))) wx := add_bs acc [38, 35, 49, 48, 59] (by omega) (by simp)
          have hal2 : (acc ++ [38, 35, 49, 48, 59]).length ≤ 6 * (k + 1) := by simp; omega
          have HS : Hid ((acc ++ [38, 35, 49, 48, 59]) ++ putL true (l.drop (k + 1)) = X) := Lib.hid hg
          have q38 := eq_one 10 38 false (by decide)
          have q60 := eq_one 10 60 false (by decide)
          have q13 := eq_one 10 13 false (by decide)
          have q62 := eq_one 10 62 false (by decide)
          have q34 := eq_one 10 34 false (by decide)
          have q9 := eq_one 10 9 false (by decide)
          have q10 := eq_one 10 10 true (by decide)
          clear hg HG hle
          go_wp2_with fail
          go_round
          case rel => exact ⟨k + 1, acc ++ [38, 35, 49, 48, 59], by go_num, rfl, by omega, hal2, HS⟩
          case measure => simp [RowKit.intOf]; omega
      · have hadd := add_bs acc [b] (by omega) (by simp)
        have hal2 : (acc ++ [b]).length ≤ 6 * (k + 1) := by simp; omega
        rw [std_plain hp] at hg
        have HS : Hid ((acc ++ [b]) ++ putL attr (l.drop (k + 1)) = X) := Lib.hid hg
        obtain ⟨p38, p60, p13, p62, p34, p9, p10⟩ := hp
        have q38 := ne_one b 38 p38
        have q60 := ne_one b 60 p60
        have q13 := ne_one b 13 p13
        have q62 := ne_one b 62 p62
        have q34 := ne_one b 34 p34
        have q9 := ne_one b 9 p9
        have q10 := ne_one b 10 p10
        clear hg HG hle p38 p60 p13 p62 p34 p9 p10
        go_wp2_with fail
        go_round
        case rel => exact ⟨k + 1, acc ++ [b], by go_num, rfl, by omega, hal2, HS⟩
        case measure => simp [RowKit.intOf]; omega
    · have hg := HG.out
      rw [List.drop_eq_nil_of_le (by omega), putL_nil, List.append_nil] at hg
      have HS := Lib.hid hg
      clear hg HG
      go_wp2_with fail
      go_ret
      exact ⟨ret_str HS.out, rfl⟩
end Go.Proofs.YtffbooapdlpocaaDoor.Char
