/- The walks of the document's own Name and Blank; the laws CharTexts and CharNames. -/
import Derived.Test.YtaiglcjeikcboaaDoorRefText
import Derived.Test.YtaiglcjeikcboaaDoorIncl
namespace Go.Proofs.YtaiglcjeikcboaaDoor.Char
open Go.RowKit Go.Lib

/-- the document's Blank: of bytes -/
def blB (l : List UInt8) : Bool := l.all fun c => spC (c.toNat : Int)
theorem blB_step (s : ByteArray) (k : Nat) (h : k < s.size) : blB (s.data.toList.drop k) = (spC ((s[k]'h).toNat : Int) && blB (s.data.toList.drop (k + 1))) := by
  have el : s.data.toList.length = s.size := by rw [Array.length_toList]; rfl
  unfold blB
  rw [List.drop_eq_getElem_cons (by omega : k < s.data.toList.length), List.all_cons]
  rfl

set_option maxRecDepth 100000 in
set_option maxHeartbeats 2000000 in
theorem refBlank_any (s : ByteArray) (w : World) (hs : s.size ≤ 1048576) :
    Calls Tryd.prog 20 #[.string s] w fun e w' => e = .returned (.bool (allR spC s.data.toList)) ∧ w = w' := by
  rw [blank_bytes _ _ (Nat.le_refl _)]
  show Calls Tryd.prog 20 #[.string s] w fun e w' => e = .returned (.bool (blB s.data.toList)) ∧ w = w'
  obtain ⟨R, hR⟩ : ∃ R, blB s.data.toList = R := ⟨_, rfl⟩
  rw [hR]
  have HR := Lib.hid hR
  clear hR
  go_enter Tryd.func20, Tryd.ntmps20
  go_wp2_with fail
  go_loop [3] (fun i => ∃ k : Nat, k ≤ s.size ∧ i = .int .i64 (k : Int) ∧ Hid (blB (s.data.toList.drop k) = R)) (fun i => s.size - (RowKit.intOf i).toNat)
  case atStart => exact ⟨0, Nat.zero_le _, rfl, Lib.hid (by simpa using HR.out)⟩
  case round =>
    obtain ⟨k, hk, rfl, HB⟩ := hrel
    by_cases hlt : k < s.size
    · have hst := HB.out
      rw [blB_step s k hlt] at hst
      have hx3 := (s[k]'hlt).toNat_lt
      generalize hx : (s[k]'hlt).toNat = x at hst hx3
      have HS := Lib.hid hst
      clear hst HB
      go_wp2_with fail
      refine (refSpace_any (x : Int) w).mono ?_
      rintro e w2 ⟨rfl, rfl⟩
      generalize spC (x : Int) = c at HS
      cases c
      · go_wp2_with fail
        go_ret
        exact ⟨by rw [← HS.out]; rfl, rfl⟩
      · go_wp2_with fail
        go_round
        case rel => exact ⟨k + 1, by omega, by go_num, Lib.hid (by rw [← HS.out]; rfl)⟩
        case measure => simp [RowKit.intOf]; omega
    · have hst := HB.out
      rw [drop_end s k hlt] at hst
      have HS := Lib.hid hst
      clear hst HB
      go_wp2_with fail
      go_ret
      exact ⟨by rw [← HS.out]; rfl, rfl⟩

/-- the document's Name -/
def rnD (s : ByteArray) : Bool := validD s.data.toList && decide (0 < s.size) && decide (s.size ≤ 32) && (stC ((chsL s.data.toList).getD 0 0) && (chsL s.data.toList).all paC)
theorem rnD_eq (s : ByteArray) : rnD s = nmD s := by
  unfold rnD nmD txD
  by_cases h0 : 0 < s.size
  · have hne : s.data.toList ≠ [] := by
      intro h; have := size_list s; rw [h] at this; simp at this; omega
    have hd : Utf8.decode s 0 = decodeL s.data.toList := by rw [decode_drop, List.drop_zero]
    rw [hd]
    cases hv : validD s.data.toList
    · simp
    · have hc : chsL s.data.toList = runesL s.data.toList := by unfold chsL; rw [if_pos hv]
      rw [hc, allR_all isC _ _ (Nat.le_refl _), allR_all paC _ _ (Nat.le_refl _)]
      have hg : (runesL s.data.toList).getD 0 0 = ((decodeL s.data.toList).1 : Int) := by rw [runesL_step _ hne]; rfl
      rw [hg]
      have himp : (runesL s.data.toList).all paC = true → (runesL s.data.toList).all isC = true := fun h => by
        rw [List.all_eq_true] at h ⊢
        exact fun x hx => pa_is x (h x hx)
      cases hp : (runesL s.data.toList).all paC
      · simp
      · rw [himp hp]
        simp
  · have e0 : decide (0 < s.size) = false := decide_eq_false h0
    rw [e0]
    simp
set_option maxRecDepth 100000 in
set_option maxHeartbeats 2000000 in
theorem refName_any (s : ByteArray) (w : World) (hs : s.size ≤ 1048576) :
    Calls Tryd.prog 22 #[.string s] w fun e w' => e = .returned (.bool (nmD s)) ∧ Below w.heap.size w w' := by
  rw [← rnD_eq]
  have hC := chars_any s w hs
  have hzl : (chsL s.data.toList).length ≤ 1048576 := by
    have el : s.data.toList.length = s.size := by rw [Array.length_toList]; rfl
    unfold chsL
    split
    · have := runesL_length _ s.data.toList (Nat.le_refl _); omega
    · simp
  have hz0 : validD s.data.toList = true → 0 < s.size → 0 < (chsL s.data.toList).length := fun hv h => by
    unfold chsL
    rw [if_pos hv, runesL_step _ (by intro h2; have := size_list s; rw [h2] at this; simp at this; omega)]
    simp
  obtain ⟨R, hR⟩ : ∃ R, rnD s = R := ⟨_, rfl⟩
  rw [hR]
  unfold rnD at hR
  generalize validD s.data.toList = V at hC hR hz0
  generalize chsL s.data.toList = zs at hC hR hzl hz0
  have HC := Lib.hid hC
  clear hC
  cases V
  · have HR : Hid (false = R) := Lib.hid (by rw [← hR]; simp)
    clear hR hz0
    go_enter Tryd.func22, Tryd.ntmps22
    go_wp2_with fail
    refine HC.out.mono ?_
    rintro e w1 ⟨v, rfl, _, hb1⟩
    clear HC
    go_wp2_with fail
    go_ret
    exact ⟨by rw [← HR.out]; rfl, hb1⟩
  by_cases h0 : s.size < 1
  · have HR : Hid (false = R) := Lib.hid (by rw [← hR, decide_eq_false (show ¬ 0 < s.size by omega)]; simp)
    have h0z : (s.size : Int) < 1 := by omega
    clear hR hz0 h0
    go_enter Tryd.func22, Tryd.ntmps22
    go_wp2_with fail
    refine HC.out.mono ?_
    rintro e w1 ⟨v, rfl, _, hb1⟩
    clear HC
    go_wp2_with fail
    go_ret
    exact ⟨by rw [← HR.out]; rfl, hb1⟩
  by_cases h32 : 32 < s.size
  · have HR : Hid (false = R) := Lib.hid (by rw [← hR, decide_eq_false (show ¬ s.size ≤ 32 by omega)]; simp)
    have h0z : ¬ (s.size : Int) < 1 := by omega
    have h3z : (32 : Int) < (s.size : Int) := by omega
    clear hR hz0 h0 h32
    go_enter Tryd.func22, Tryd.ntmps22
    go_wp2_with fail
    refine HC.out.mono ?_
    rintro e w1 ⟨v, rfl, _, hb1⟩
    clear HC
    go_wp2_with fail
    go_ret
    exact ⟨by rw [← HR.out]; rfl, hb1⟩
  rw [decide_eq_true (show 0 < s.size by omega), decide_eq_true (show s.size ≤ 32 by omega), Bool.true_and, Bool.true_and, Bool.true_and] at hR
  have hzz := hz0 rfl (by omega)
  have h0z : ¬ (s.size : Int) < 1 := by omega
  have h3z : ¬ (32 : Int) < (s.size : Int) := by omega
  have HR := Lib.hid hR
  clear hR hz0 h0 h32
  go_enter Tryd.func22, Tryd.ntmps22
  go_wp2_with fail
  refine HC.out.mono ?_
  rintro e w1 ⟨v, rfl, hown, hb1⟩
  clear HC
  rcases Reads.of hown with ⟨hz, rfl⟩ | ⟨g, cap, rfl, hg, hcells⟩
  · rw [hz] at hzz
    simp at hzz
  clear hown
  have HG := Lib.hid hcells
  clear hcells
  have hcell0 : w1.cell? ⟨g, 0, none⟩ = some (.int .i64 (zs.getD 0 0)) := HG.out 0 hzz
  obtain ⟨x0, hx0⟩ : ∃ x0, zs.getD 0 0 = x0 := ⟨_, rfl⟩
  rw [hx0] at hcell0
  have hr2 := HR.out
  rw [hx0] at hr2
  have HR2 := Lib.hid hr2
  clear hr2 HR hx0
  go_wp2_with fail
  refine (refStart_any x0 w1).mono ?_
  rintro e w2 ⟨rfl, hb2⟩
  have hb12 := hb1.trans (hb2.mono hb1.size)
  generalize stC x0 = c0 at HR2
  clear hcell0
  cases c0
  · go_wp2_with fail
    go_ret
    exact ⟨by rw [← HR2.out]; rfl, hb12⟩
  · go_wp2_with fail
    go_loopw [5] (fun i wr => ∃ k : Nat, k ≤ zs.length ∧ i = .int .i64 (k : Int) ∧ Below w1.heap.size w1 wr ∧ Hid ((zs.drop k).all paC = R)) (fun i _ => zs.length - (RowKit.intOf i).toNat)
    case atStart => exact ⟨0, Nat.zero_le _, rfl, hb2, Lib.hid (by simpa using HR2.out)⟩
    case round =>
      obtain ⟨k, hk, rfl, hbw, HB⟩ := hrel
      by_cases hlt : k < zs.length
      · have hcell : wr.cell? ⟨g, k, none⟩ = some (.int .i64 (zs.getD k 0)) := (hbw.cell (p := ⟨g, k, none⟩) hg).trans (HG.out k hlt)
        have hst := HB.out
        rw [all_step paC zs k hlt] at hst
        generalize zs.getD k 0 = x at hcell hst
        have HS := Lib.hid hst
        clear hst HB
        go_wp2_with fail
        refine (refPart_any x wr).mono ?_
        rintro e w3 ⟨rfl, hb3⟩
        generalize paC x = c at HS
        have hbw2 := hbw.trans (hb3.mono hbw.size)
        cases c
        · go_wp2_with fail
          go_ret
          exact ⟨by rw [← HS.out]; rfl, hb1.trans (hbw2.mono hb1.size)⟩
        · go_wp2_with fail
          go_roundw
          case rel => exact ⟨k + 1, by omega, by go_num, hbw2, Lib.hid (by rw [← HS.out]; rfl)⟩
          case measure => simp [RowKit.intOf]; omega
      · have hst := HB.out
        rw [all_end paC zs k hlt] at hst
        have HS := Lib.hid hst
        clear hst HB
        go_wp2_with fail
        go_ret
        exact ⟨by rw [← HS.out]; rfl, hb1.trans (hbw.mono hb1.size)⟩

set_option maxHeartbeats 1000000 in
theorem names_law (s : ByteArray) (w : World) (hs : s.size ≤ 1048576) (hT : Tabs w) :
    Calls Tryd.prog 5 #[.string s] w fun e w' => e = .returned (.bool true) ∧ Below w.heap.size w w' := by
  have HT := Lib.hid hT
  clear hT
  go_enter Tryd.func5, Tryd.ntmps5
  go_wp2_with fail
  refine (name_any s w (by omega) HT.out).mono ?_
  rintro e w1 ⟨rfl, hb1⟩
  go_wp2_with fail
  refine (refName_any s w1 hs).mono ?_
  rintro e w2 ⟨rfl, hb2⟩
  have hc2 := hb1.trans (hb2.mono hb1.size)
  generalize nmD s = v
  go_wp2_with fail
  refine (works_any w2 (HT.out.below hc2)).mono ?_
  rintro e w3 ⟨rfl, hb3⟩
  go_wp2_with fail
  go_ret
  exact ⟨rfl, hc2.trans (hb3.mono hc2.size)⟩

set_option maxHeartbeats 1000000 in
theorem texts_law (s : ByteArray) (w : World) (hs : s.size ≤ 1048576) (hT : Tabs w) :
    Calls Tryd.prog 4 #[.string s] w fun e w' => e = .returned (.bool true) ∧ Below w.heap.size w w' := by
  have HT := Lib.hid hT
  clear hT
  go_enter Tryd.func4, Tryd.ntmps4
  go_wp2_with fail
  refine (text_any s w (by omega) HT.out).mono ?_
  rintro e w1 ⟨rfl, hb1⟩
  go_wp2_with fail
  refine (refText_any s w1 hs).mono ?_
  rintro e w2 ⟨rfl, hb2⟩
  have hc2 := hb1.trans (hb2.mono hb1.size)
  generalize txD s.data.toList = v
  go_wp2_with fail
  refine (blank_any s w2).mono ?_
  rintro e w3 ⟨rfl, hb3⟩
  have hc3 := hc2.trans (hb3.mono hc2.size)
  go_wp2_with fail
  refine (refBlank_any s w3 hs).mono ?_
  rintro e w4 ⟨rfl, rfl⟩
  generalize allR spC s.data.toList = v2
  go_wp2_with fail
  refine (works_any w3 (HT.out.below hc3)).mono ?_
  rintro e w5 ⟨rfl, hb5⟩
  go_wp2_with fail
  go_ret
  exact ⟨rfl, hc3.trans (hb5.mono hc3.size)⟩
end Go.Proofs.YtaiglcjeikcboaaDoor.Char
