/- The walks of 'whether, and where, a text stands in another one': the program's and the document's. -/
import Derived.Test.YtblhiaeocinogaaFinds
import Derived.Test.YtblhiaeocinogaaRefCrs
import Derived.Lib.IndexMore
namespace Go.Proofs.Ytblhiaeocinogaa.Char
open Go.RowKit Go.Lib

set_option maxRecDepth 100000 in
theorem has_any (s t : ByteArray) (w : World) (hs : s.size ≤ 1000000) (hm : MaxL w) :
    Calls Try.prog 14 #[.string s, .string t] w fun e w' => e = .returned (.bool (contains s.data.toList t.data.toList)) ∧ Below w.heap.size w w' := by
  have HC := Lib.hid (contains_any s t w (by omega) hm)
  generalize contains s.data.toList t.data.toList = b at HC
  go_enter Try.func14, Try.ntmps14
  go_wp2_with fail
  refine HC.out.mono ?_
  rintro e w1 ⟨rfl, rfl⟩
  go_wp2_with fail
  go_ret
  exact ⟨rfl, Below.refl _ _⟩

/-- what stands ahead, and behind -/
def beforeL (s t : List UInt8) : List UInt8 := if 0 ≤ index s t then s.take (index s t).toNat else []
def afterL (s t : List UInt8) : List UInt8 := if 0 ≤ index s t then s.drop ((index s t).toNat + t.length) else []

set_option maxRecDepth 100000 in
theorem before_any (s t : ByteArray) (w : World) (hs : s.size ≤ 1000000) (hm : MaxL w) :
    Calls Try.prog 15 #[.string s, .string t] w fun e w' => e = .returned (.string ⟨(beforeL s.data.toList t.data.toList).toArray⟩) ∧ Below w.heap.size w w' := by
  have hc := strCut_any s t w (by omega) hm
  unfold cut at hc
  unfold beforeL
  by_cases hi : 0 ≤ index s.data.toList t.data.toList
  · rw [if_pos hi] at hc ⊢
    dsimp only at hc
    have HC := Lib.hid hc
    clear hc
    go_enter Try.func15, Try.ntmps15
    go_wp2_with fail
    refine HC.out.mono ?_
    rintro e w1 ⟨rfl, h1⟩
    go_wp2_with fail
    go_ret
    exact ⟨rfl, h1⟩
  · rw [if_neg hi] at hc ⊢
    dsimp only at hc
    have HC := Lib.hid hc
    clear hc
    go_enter Try.func15, Try.ntmps15
    go_wp2_with fail
    refine HC.out.mono ?_
    rintro e w1 ⟨rfl, h1⟩
    go_wp2_with fail
    go_ret
    exact ⟨rfl, h1⟩

set_option maxRecDepth 100000 in
theorem after_any (s t : ByteArray) (w : World) (hs : s.size ≤ 1000000) (hm : MaxL w) :
    Calls Try.prog 16 #[.string s, .string t] w fun e w' => e = .returned (.string ⟨(afterL s.data.toList t.data.toList).toArray⟩) ∧ Below w.heap.size w w' := by
  have hc := strCut_any s t w (by omega) hm
  unfold cut at hc
  have HC : Hid (Calls Try.prog 27 #[.string s, .string t] w fun e w' => (∃ x b, e = .returned (.tuple #[x, .string ⟨(afterL s.data.toList t.data.toList).toArray⟩, .bool b])) ∧ Below w.heap.size w w') := Lib.hid (hc.mono fun e w' h => ⟨by
    unfold afterL
    by_cases hi : 0 ≤ index s.data.toList t.data.toList
    · rw [if_pos hi] at h ⊢; exact ⟨_, _, h.1⟩
    · rw [if_neg hi] at h ⊢; exact ⟨_, _, h.1⟩, h.2⟩)
  clear hc
  go_enter Try.func16, Try.ntmps16
  go_wp2_with fail
  refine HC.out.mono ?_
  rintro e w1 ⟨⟨x, b, rfl⟩, h1⟩
  go_wp2_with fail
  go_ret
  exact ⟨rfl, h1⟩

set_option maxRecDepth 100000 in
set_option maxHeartbeats 2000000 in
theorem refFind_any (s t : ByteArray) (w : World) (hs : s.size ≤ 1000000) (ht : t.size ≤ 1000000) :
    Calls Try.prog 13 #[.string s, .string t] w fun e w' => e = .returned (.int .i64 (index s.data.toList t.data.toList)) ∧ w = w' := by
  have hsl := sz_list s
  have htl := sz_list t
  obtain ⟨X, hX⟩ : ∃ X, index s.data.toList t.data.toList = X := ⟨_, rfl⟩
  rw [hX]
  have HX := Lib.hid hX
  have HS := Lib.hid hsl
  have HT := Lib.hid htl
  clear hX hsl htl
  go_enter Try.func13, Try.ntmps13
  go_wp2_with fail
  go_loop [5] (fun i => ∃ (k : Nat), k ≤ s.size + 1 ∧ i = .int .i64 (k : Int) ∧ Hid (∀ j, j < k → occAt s.data.toList t.data.toList j = false)) (fun i => s.size + 1 - (RowKit.intOf i).toNat)
  case atStart => exact ⟨0, Nat.zero_le _, rfl, Lib.hid (fun j hj => absurd hj (Nat.not_lt_zero _))⟩
  case round =>
    obtain ⟨k, hk, rfl, HN⟩ := hrel
    by_cases hlt : k + t.size ≤ s.size
    · have hsl := slice_mid s k (k + t.size) ((k : Int) + (t.size : Int)) (by simp) (by omega) hlt
      have hex : (s.extract k (k + t.size)).data.toList = (s.data.toList.drop k).take t.size := by rw [extract_list, Nat.add_sub_cancel_left]
      have hocc := occAt_iff_take s.data.toList t.data.toList k (by rw [HS.out, HT.out]; exact hlt)
      rw [HT.out, ← hex] at hocc
      have HO := Lib.hid hocc
      clear hocc hex
      go_wp2_with fail
      · have hq : ((s.extract k (k + t.size)).toList == t.toList) = true := by assumption
        have hb : ((s.extract k (k + t.size)).data.toList == t.data.toList) = true := by rw [← toList_data, ← toList_data]; exact hq
        have ho := HO.out
        rw [hb] at ho
        have hx := index_first (by rw [HS.out]; omega) ho HN.out
        rw [HX.out] at hx
        go_ret
        exact ⟨by rw [hx]; rfl, rfl⟩
      · have hq : ((s.extract k (k + t.size)).toList == t.toList) = false := by assumption
        have hb : ((s.extract k (k + t.size)).data.toList == t.data.toList) = false := by rw [← toList_data, ← toList_data]; exact hq
        have ho := HO.out
        rw [hb] at ho
        have HN2 : Hid (∀ j, j < k + 1 → occAt s.data.toList t.data.toList j = false) := Lib.hid (fun j hj => by
          by_cases e : j = k
          · rw [e]; exact ho
          · exact HN.out j (by omega))
        go_round
        case rel => exact ⟨k + 1, by omega, by go_num, HN2⟩
        case measure => simp [RowKit.intOf]; omega
    · have hd : X = -1 := by
        rw [← HX.out]
        refine index_none (fun j hj => ?_)
        by_cases hjk : j < k
        · exact HN.out j hjk
        · cases ho : occAt s.data.toList t.data.toList j
          · rfl
          · exfalso
            rw [HS.out] at hj
            rcases occAt_room ho with h | h
            · rw [HS.out, HT.out] at h; omega
            · have := HT.out
              rw [h] at this
              simp at this
              omega
      subst hd
      clear HN HX
      go_wp2_with fail
      go_ret
      exact ⟨rfl, rfl⟩
end Go.Proofs.Ytblhiaeocinogaa.Char
