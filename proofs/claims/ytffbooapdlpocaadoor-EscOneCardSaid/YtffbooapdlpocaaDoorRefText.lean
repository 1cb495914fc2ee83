/- The walks of the document's own answers on texts. -/
import Derived.Test.YtffbooapdlpocaaDoorRefChars
import Derived.Test.YtffbooapdlpocaaDoorText
import Derived.Test.YtffbooapdlpocaaDoorIn
namespace Go.Proofs.YtffbooapdlpocaaDoor.Char
open Go.RowKit Go.Lib

/-- a slice that reads as these numbers -/
def Reads (w : World) (v : Value) (zs : List Int) : Prop :=
  (zs = [] ∧ v = .slice none 0 0) ∨ ∃ g cap, v = .slice (some ⟨g, 0, none⟩) zs.length cap ∧ g < w.heap.size ∧ ∀ j, j < zs.length → w.cell? ⟨g, j, none⟩ = some (.int .i64 (zs.getD j 0))
theorem Reads.of {w : World} {B T : Nat} {v : Value} {zs : List Int} (h : w.ownsRow B T 1 v zs.length (zs.map (Value.int .i64))) : Reads w v zs := by
  have hc := h
  rcases h.2 with ⟨rfl, hn⟩ | ⟨g, cap, cur, rfl, hg, hcur, _⟩
  · exact .inl ⟨List.eq_nil_of_length_eq_zero hn, rfl⟩
  · refine .inr ⟨g, cap, rfl, (Array.getElem?_eq_some_iff.1 hcur).1, fun j hj => ?_⟩
    have := hc.cells (g := g) rfl j (.int .i64 (zs.getD j 0)) (by simp [List.getD, List.getElem?_eq_getElem hj])
    have hadd : (⟨g, 0, none⟩ : Addr).add j = ⟨g, j, none⟩ := by unfold Addr.add; split <;> simp_all
    rwa [hadd] at this

theorem all_step (p : Int → Bool) (zs : List Int) (k : Nat) (h : k < zs.length) : (zs.drop k).all p = (p (zs.getD k 0) && (zs.drop (k + 1)).all p) := by
  rw [List.drop_eq_getElem_cons h, List.all_cons]
  simp [List.getD, List.getElem?_eq_getElem h]
theorem all_end (p : Int → Bool) (zs : List Int) (k : Nat) (h : ¬ k < zs.length) : (zs.drop k).all p = true := by
  rw [List.drop_eq_nil_of_le (by omega)]
  rfl

/-- the document's Text -/
def rtD (l : List UInt8) : Bool := validD l && (chsL l).all isC
theorem rtD_eq (l : List UInt8) : rtD l = txD l := by
  unfold rtD txD chsL
  cases validD l
  · rfl
  · rw [if_pos rfl, allR_all isC _ _ (Nat.le_refl _)]

set_option maxRecDepth 100000 in
set_option maxHeartbeats 2000000 in
theorem refText_any (s : ByteArray) (w : World) (hs : s.size ≤ 1048576) :
    Calls Tryd.prog 14 #[.string s] w fun e w' => e = .returned (.bool (txD s.data.toList)) ∧ Below w.heap.size w w' := by
  rw [← rtD_eq]
  have hC := chars_any s w hs
  have hzl : (chsL s.data.toList).length ≤ 1048576 := by
    have el : s.data.toList.length = s.size := by rw [Array.length_toList]; rfl
    unfold chsL
    split
    · have := runesL_length _ s.data.toList (Nat.le_refl _); omega
    · simp
  obtain ⟨R, hR⟩ : ∃ R, rtD s.data.toList = R := ⟨_, rfl⟩
  rw [hR]
  unfold rtD at hR
  generalize validD s.data.toList = V at hC hR
  generalize chsL s.data.toList = zs at hC hR hzl
  have HC := Lib.hid hC
  have HR := Lib.hid hR
  clear hC hR
  go_enter Tryd.func14, Tryd.ntmps14
  go_wp2_with fail
  refine HC.out.mono ?_
  rintro e w1 ⟨v, rfl, hown, hb1⟩
  clear HC
  rcases Reads.of hown with ⟨hz, rfl⟩ | ⟨g, cap, rfl, hg, hcells⟩
  · clear hown
    obtain rfl := hz
    have HR1 : Hid (V = R) := Lib.hid (by rw [← HR.out]; simp)
    clear HR
    go_wp2_with fail
    go_loopw [4, 5] (fun b k wr => b = .bool V ∧ k = .int .i64 0 ∧ wr = w1) (fun _ _ _ => 0)
    case atStart => exact ⟨rfl, rfl, rfl⟩
    case round =>
      obtain ⟨rfl, rfl, rfl⟩ := hrel
      go_wp2_with fail
      go_ret
      exact ⟨by rw [← HR1.out]; rfl, hb1⟩
  · clear hown
    have HG := Lib.hid hcells
    clear hcells
    go_wp2_with fail
    go_loopw [4, 5] (fun b i wr => ∃ (k : Nat) (B : Bool), k ≤ zs.length ∧ b = .bool B ∧ i = .int .i64 (k : Int) ∧ Below w1.heap.size w1 wr ∧ Hid ((B && (zs.drop k).all isC) = R)) (fun _ i _ => zs.length - (RowKit.intOf i).toNat)
    case atStart => exact ⟨0, V, Nat.zero_le _, rfl, rfl, Below.refl _ _, Lib.hid (by simpa using HR.out)⟩
    case round =>
      obtain ⟨k, B, hk, rfl, rfl, hbw, HB⟩ := hrel
      by_cases hlt : k < zs.length
      · have hcell : wr.cell? ⟨g, k, none⟩ = some (.int .i64 (zs.getD k 0)) := (hbw.cell (p := ⟨g, k, none⟩) hg).trans (HG.out k hlt)
        have hst := HB.out
        rw [all_step isC zs k hlt] at hst
        generalize zs.getD k 0 = x at hcell hst
        have HS := Lib.hid hst
        clear hst HB
        cases B
        · go_wp2_with fail
          go_roundw
          case rel => exact ⟨k + 1, false, by omega, rfl, by go_num, hbw, Lib.hid (by rw [← HS.out]; rfl)⟩
          case measure => simp [RowKit.intOf]; omega
        · go_wp2_with fail
          refine (refIs_any x wr).mono ?_
          rintro e w2 ⟨rfl, hb2⟩
          generalize isC x = c at HS
          have hbw2 := hbw.trans (hb2.mono hbw.size)
          go_wp2_with fail
          go_roundw
          case rel => exact ⟨k + 1, c, by omega, rfl, by go_num, hbw2, Lib.hid (by rw [← HS.out]; rfl)⟩
          case measure => simp [RowKit.intOf]; omega
      · have hst := HB.out
        rw [all_end isC zs k hlt, Bool.and_true] at hst
        have HS := Lib.hid hst
        clear hst HB
        go_wp2_with fail
        go_ret
        exact ⟨by rw [← HS.out]; rfl, hb1.trans (hbw.mono hb1.size)⟩
end Go.Proofs.YtffbooapdlpocaaDoor.Char
