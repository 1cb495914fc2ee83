/- The walks of 'the words of a text with one blank between': the program's and the document's. -/
import Derived.Test.YtblhiaeocinogaaNormM
import Derived.Test.YtblhiaeocinogaaSpace
import Derived.Test.YtblhiaeocinogaaFields
import Derived.Test.YtblhiaeocinogaaRefCut
namespace Go.Proofs.Ytblhiaeocinogaa.Char
open Go.RowKit Go.Lib

theorem space_grows (w : World) : PredGrows Try.prog 31 #[] (fun x => spC (x : Int)) w :=
  fun W x _ _ => space_any (x : Int) W

set_option maxRecDepth 100000 in
set_option maxHeartbeats 2000000 in
theorem norm_any (s : ByteArray) (w : World) (hs : s.size ≤ 1000000) :
    Calls Try.prog 19 #[.string s] w fun e w' => e = .returned (.string ⟨(normB s.data.toList).toArray⟩) ∧ Below w.heap.size w w' := by
  have hF := Any.strings_FieldsFunc_grows layFields 31 #[] (enters_of Try.func31 (by kernel_rfl) rfl) (fun x => spC (x : Int)) s w (by omega) (space_grows w) (by kernel_rfl) (by kernel_rfl)
  have hn := norm_fields s
  have hnl := normB_length s.data.toList
  rw [sz_list] at hnl
  generalize normB s.data.toList = R at hn hnl ⊢
  generalize goFieldsP (fun x => spC (x : Int)) s = xs at hF hn
  have HF := Lib.hid hF
  have HN := Lib.hid hn
  clear hF hn
  go_enter Try.func19, Try.ntmps19
  go_wp2_with fail
  refine HF.out.mono ?_
  rintro e w1 ⟨A, rfl, hA, hown, hb⟩
  have hAl : A < w1.heap.size := by
    rcases hown.2 with ⟨h, _⟩ | ⟨g, cap, cur, h, _, hg, _⟩
    · cases h
    · have : A = g := by simp at h; exact h.1
      rw [this]
      exact (Array.getElem?_eq_some_iff.1 hg).1
  have hcells : ∀ (j : Nat) x, xs[j]? = some x → w1.cell? ⟨A, 0 + j, none⟩ = some (.string x) := by
    intro j x hx
    have := hown.cells (g := A) rfl j (.string x) (by simp [hx])
    have hadd : (⟨A, 0, none⟩ : Addr).add j = ⟨A, 0 + j, none⟩ := by unfold Addr.add; split <;> simp_all
    rwa [hadd] at this
  have hxl : xs.length ≤ 2 * s.size + 1 := by
    cases xs with
    | nil => simp
    | cons x r =>
      have h1 := join_length x.data.toList (r.map (·.data.toList)) [32]
      have h2 := congrArg List.length HN.out
      rw [List.map_cons, h1] at h2
      simp at h2
      rw [List.length_cons]
      omega
  have HJ := Lib.hid (Any.strings_Join layJoin layJoinX A 0 xs.length xs ⟨#[32]⟩ w1 hcells hAl (by omega) (Nat.le_refl _) (by rw [show (⟨#[32]⟩ : ByteArray).data.toList = [32] from rfl, HN.out]; omega))
  clear hcells hown HF
  go_wp2_with fail
  refine HJ.out.mono ?_
  rintro e w2 ⟨rfl, hb2⟩
  go_wp2_with fail
  go_ret
  refine ⟨?_, hb.trans (hb2.mono hb.size)⟩
  rw [← HN.out]
  rfl

set_option maxRecDepth 100000 in
set_option maxHeartbeats 4000000 in
theorem refNorm_any (s : ByteArray) (w : World) (hs : s.size ≤ 1000000) :
    Calls Try.prog 20 #[.string s] w fun e w' => e = .returned (.string ⟨(normB s.data.toList).toArray⟩) ∧ w = w' := by
  have hl := sz_list s
  obtain ⟨R, hR⟩ : ∃ R, normB s.data.toList = R := ⟨_, rfl⟩
  rw [hR]
  unfold normB at hR
  have HR := Lib.hid hR
  have HL := Lib.hid hl
  clear hR hl
  go_enter Try.func20, Try.ntmps20
  go_wp2_with fail
  go_loop [3, 4, 5] (fun o g i => ∃ (k : Nat) (out : ByteArray) (G : Bool), k ≤ s.size ∧ i = .int .i64 (k : Int) ∧ o = .string out ∧ g = .bool G ∧ out.size ≤ 2 * k ∧ Hid (((s.data.toList.drop k).foldl stepN (out.data.toList, G)).1 = R)) (fun _ _ i => s.size - (RowKit.intOf i).toNat)
  case atStart => exact ⟨0, ⟨#[]⟩, false, Nat.zero_le _, rfl, rfl, rfl, Nat.zero_le _, HR⟩
  case round =>
    obtain ⟨k, out, G, hk, rfl, rfl, rfl, hos, HO⟩ := hrel
    by_cases hlt : k < s.size
    · have hst := HO.out
      have hd : s.data.toList.drop k = s[k] :: s.data.toList.drop (k + 1) := by
        rw [List.drop_eq_getElem_cons (by rw [HL.out]; exact hlt)]
        rfl
      rw [hd, List.foldl_cons] at hst
      have hx1 : (s.extract k (k + 1)).data.toList = [s[k]] := by
        rw [extract_list, hd, Nat.add_sub_cancel_left]
        rfl
      have hx2 : (s.extract k (k + 1)).size = 1 := by rw [← sz_list, hx1]; rfl
      have hwr : wrap64 (s[k].toNat : Int) = (s[k].toNat : Int) := w64r _ ⟨by omega, by have := s[k].toNat_lt; omega⟩
      have HS := Lib.hid hst
      have HX1 := Lib.hid hx1
      have HX2 := Lib.hid hx2
      have HWR := Lib.hid hwr
      clear hst hd HO hx1 hx2 hwr
      go_wp2_with (go_at_call 32; refine (refSpace_any _ _).mono ?_; rintro e w1 ⟨rfl, rfl⟩)
      · rename_i hc
        rw [HWR.out] at hc
        have HS2 : Hid (((s.data.toList.drop (k + 1)).foldl stepN (out.data.toList, true)).1 = R) := Lib.hid (by have h := HS.out; rw [stepN_sp _ _ _ hc] at h; exact h)
        go_round
        case rel => exact ⟨k + 1, out, true, by omega, by go_num, rfl, rfl, by omega, HS2⟩
        case measure => simp [RowKit.intOf]; omega
      · rename_i hc hg he
        rw [HWR.out] at hc
        have hne : out.data.toList ≠ [] := by
          intro h0
          rw [toList_data, h0] at he
          simp at he
        have HS2 : Hid (((s.data.toList.drop (k + 1)).foldl stepN ((out ++ ⟨#[32]⟩ ++ s.extract k (k + 1)).data.toList, false)).1 = R) := Lib.hid (by
          have h := HS.out
          rw [stepN_no _ _ _ hc, if_pos ⟨hg, hne⟩] at h
          rw [app_list, app_list, HX1.out]
          exact h)
        go_round
        case rel => exact ⟨k + 1, _, false, by omega, by go_num, rfl, rfl, by rw [ByteArray.size_append, ByteArray.size_append, HX2.out]; show out.size + 1 + 1 ≤ _; omega, HS2⟩
        case measure => simp [RowKit.intOf]; omega
      · rename_i hc hg he
        rw [HWR.out] at hc
        have hne : out.data.toList = [] := by
          rw [toList_data] at he
          cases h0 : out.data.toList with
          | nil => rfl
          | cons a b => rw [h0] at he; simp at he
        have HS2 : Hid (((s.data.toList.drop (k + 1)).foldl stepN ((out ++ s.extract k (k + 1)).data.toList, false)).1 = R) := Lib.hid (by
          have h := HS.out
          rw [stepN_no _ _ _ hc, if_neg (fun q => q.2 hne)] at h
          rw [app_list, HX1.out]
          exact h)
        go_round
        case rel => exact ⟨k + 1, _, false, by omega, by go_num, rfl, rfl, by rw [ByteArray.size_append, HX2.out]; omega, HS2⟩
        case measure => simp [RowKit.intOf]; omega
      · rename_i hc hg
        rw [HWR.out] at hc
        have HS2 : Hid (((s.data.toList.drop (k + 1)).foldl stepN ((out ++ s.extract k (k + 1)).data.toList, false)).1 = R) := Lib.hid (by
          have h := HS.out
          rw [stepN_no _ _ _ hc, if_neg (fun q => by simp [q.1] at hg)] at h
          rw [app_list, HX1.out]
          exact h)
        go_round
        case rel => exact ⟨k + 1, _, false, by omega, by go_num, rfl, rfl, by rw [ByteArray.size_append, HX2.out]; omega, HS2⟩
        case measure => simp [RowKit.intOf]; omega
    · have hst := HO.out
      rw [drop_end s k hlt] at hst
      have HS : Hid (out.data.toList = R) := Lib.hid hst
      clear hst HO
      go_wp2_with fail
      go_ret
      exact ⟨by rw [← HS.out]; rfl, rfl⟩
end Go.Proofs.Ytblhiaeocinogaa.Char
