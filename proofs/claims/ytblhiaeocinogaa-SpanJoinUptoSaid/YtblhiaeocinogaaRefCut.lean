/- The walk of the document's own 'some of the characters of a text'. -/
import Derived.Test.YtblhiaeocinogaaRefCrs
import Derived.Test.YtblhiaeocinogaaPick
namespace Go.Proofs.Ytblhiaeocinogaa.Char
open Go.RowKit Go.Lib

theorem pick_cons (P : Nat → Bool) (x : Ch) (r : List Ch) : pick P (x :: r) = (if P x.1.1 then x.1.2.data.toList else []) ++ pick P r := by simp [pick]
theorem app_list (a b : ByteArray) : (a ++ b).data.toList = a.data.toList ++ b.data.toList := by rw [ByteArray.data_append]; exact Array.toList_append
theorem w64r (n : Int) (h : -9223372036854775808 ≤ n ∧ n ≤ 9223372036854775807) : wrap64 n = n := by unfold wrap64; omega
theorem i64_boundsr {n : Int} (h : (Lit.int .i64 n).wf = true) : -9223372036854775808 ≤ n ∧ n ≤ 9223372036854775807 := by
  simpa [Lit.wf, IntKind.min, IntKind.max, IntKind.signed, IntKind.bits] using h

set_option maxRecDepth 100000 in
set_option maxHeartbeats 4000000 in
theorem refCut_any (s : ByteArray) (from_ many : Int) (w : World) (hs : s.size ≤ 1000000 - 1) (hw1 : (Lit.int .i64 from_).wf = true) (hw2 : (Lit.int .i64 many).wf = true) :
    Calls Try.prog 12 #[.string s, .int .i64 from_, .int .i64 many] w fun e w' => e = .returned (.string ⟨(cutD s from_ many).toArray⟩) ∧ Below w.heap.size w w' := by
  have hC := crs_any s w (by omega)
  have hcl := crs_length s
  have h4 := crs_four s
  obtain ⟨X, hX⟩ : ∃ X, cutD s from_ many = X := ⟨_, rfl⟩
  rw [hX]
  unfold cutD at hX
  generalize crs s = l at hC hcl h4 hX
  have H4 : Hid (∀ k, k < l.length → (l.getD k ⟨#[]⟩).size ≤ 4) := Lib.hid (fun k hk => h4 _ (by simp [List.getD, List.getElem?_eq_getElem hk]))
  have HX := Lib.hid hX
  have HC := Lib.hid hC
  have hb1 := i64_boundsr hw1
  have hb2 := i64_boundsr hw2
  have HW1 := Lib.hid hw1
  have HW2 := Lib.hid hw2
  clear hX hw1 hw2 hC h4
  go_enter Try.func12, Try.ntmps12
  by_cases hm : many < 1
  · have HPX : Hid (pick (fun _ => false) (num 0 l) = X) := Lib.hid (by rw [← HX.out, if_pos hm, pick_none]; simp)
    clear hb1 hb2 HX
    go_wp2_with fail
    refine HC.out.mono ?_
    rintro e w1 ⟨v, rfl, hown, hbw⟩
    clear HC
    obtain ⟨a, cap, rfl, hcells⟩ := hown.reads
    clear hown
    go_wp2_with fail
    go_loop [8, 9] (fun o i => ∃ (k : Nat) (out : ByteArray), k ≤ l.length ∧ i = .int .i64 (k : Int) ∧ o = .string out ∧ out.size ≤ 4 * k ∧ Hid (out.data.toList ++ pick (fun _ => false) (num k (l.drop k)) = X)) (fun _ i => l.length - (RowKit.intOf i).toNat)
    case atStart => exact ⟨0, ⟨#[]⟩, Nat.zero_le _, rfl, rfl, Nat.zero_le _, Lib.hid (by simpa using HPX.out)⟩
    case round =>
      obtain ⟨k, out, hk, rfl, rfl, hos, HO⟩ := hrel
      by_cases hlt : k < l.length
      · obtain ⟨g, rfl, _, hcell⟩ := hcells k hlt
        have hst := HO.out
        have hc4 := H4.out k hlt
        rw [drop_step l k hlt, num, pick_cons (fun _ => false) (mkCh k (l.getD k ⟨#[]⟩)), mkCh_val k _ (by omega) hc4, ← List.append_assoc] at hst
        generalize l.getD k ⟨#[]⟩ = c at hcell hst hc4
        have HS := Lib.hid hst
        have hadd : ∀ wx, (Op.stringOp .add out c).run Try.prog wx = .ok (.string (out ++ c)) wx := fun wx => run_string_add wx out c (by omega) (by omega)
        clear hst HO
        by_cases h1 : (k : Int) < from_
        · have HS2 : Hid (out.data.toList ++ pick (fun _ => false) (num (k + 1) (l.drop (k + 1))) = X) := Lib.hid (by have h := HS.out; rw [if_neg (by simp), List.append_nil] at h; exact h)
          clear HS
          go_wp2_with fail
          go_round
          case rel => exact ⟨k + 1, out, by omega, by go_num, rfl, by omega, HS2⟩
          case measure => simp [RowKit.intOf]; omega
        · have HS2 : Hid (out.data.toList ++ pick (fun _ => false) (num (k + 1) (l.drop (k + 1))) = X) := Lib.hid (by have h := HS.out; rw [if_neg (by simp), List.append_nil] at h; exact h)
          clear HS
          go_wp2_with fail
          go_round
          case rel => exact ⟨k + 1, out, by omega, by go_num, rfl, by omega, HS2⟩
          case measure => simp [RowKit.intOf]; omega
      · have hst := HO.out
        rw [List.drop_eq_nil_of_le (by omega), num, pick_nil, List.append_nil] at hst
        have HS := Lib.hid hst
        clear hst HO
        go_wp2_with fail
        go_ret
        exact ⟨by rw [← HS.out]; rfl, hbw⟩
  · by_cases hf : from_ < 0
    · have HPX : Hid (pick (sel 0 (from_ + many)) (num 0 l) = X) := Lib.hid (by rw [← HX.out, if_neg hm, if_pos hf])
      have HF : Hid (wrap64 (many + from_) = many + from_) := Lib.hid (w64r _ ⟨by omega, by omega⟩)
      clear hb1 hb2 HX
      go_wp2_with fail
      refine HC.out.mono ?_
      rintro e w1 ⟨v, rfl, hown, hbw⟩
      clear HC
      obtain ⟨a, cap, rfl, hcells⟩ := hown.reads
      clear hown
      go_wp2_with fail
      go_loop [8, 9] (fun o i => ∃ (k : Nat) (out : ByteArray), k ≤ l.length ∧ i = .int .i64 (k : Int) ∧ o = .string out ∧ out.size ≤ 4 * k ∧ Hid (out.data.toList ++ pick (sel 0 (from_ + many)) (num k (l.drop k)) = X)) (fun _ i => l.length - (RowKit.intOf i).toNat)
      case atStart => exact ⟨0, ⟨#[]⟩, Nat.zero_le _, rfl, rfl, Nat.zero_le _, Lib.hid (by simpa using HPX.out)⟩
      case round =>
        obtain ⟨k, out, hk, rfl, rfl, hos, HO⟩ := hrel
        by_cases hlt : k < l.length
        · obtain ⟨g, rfl, _, hcell⟩ := hcells k hlt
          have hst := HO.out
          have hc4 := H4.out k hlt
          rw [drop_step l k hlt, num, pick_cons (sel 0 (from_ + many)) (mkCh k (l.getD k ⟨#[]⟩)), mkCh_val k _ (by omega) hc4, ← List.append_assoc] at hst
          generalize l.getD k ⟨#[]⟩ = c at hcell hst hc4
          have HS := Lib.hid hst
          have hadd : ∀ wx, (Op.stringOp .add out c).run Try.prog wx = .ok (.string (out ++ c)) wx := fun wx => run_string_add wx out c (by omega) (by omega)
          clear hst HO
          have hwk := HF.out
          have hn1 : ¬ (k : Int) < from_ := by omega
          by_cases h3 : many + from_ ≤ (k : Int)
          · have HS2 : Hid (out.data.toList ++ pick (sel 0 (from_ + many)) (num (k + 1) (l.drop (k + 1))) = X) := Lib.hid (by have h := HS.out; rw [if_neg (by rw [sel_high (by dsimp only; omega)]; simp), List.append_nil] at h; exact h)
            clear HS
            go_wp2_with fail
            go_round
            case rel => exact ⟨k + 1, out, by omega, by go_num, rfl, by omega, HS2⟩
            case measure => simp [RowKit.intOf]; omega
          · have HS2 : Hid ((out ++ c).data.toList ++ pick (sel 0 (from_ + many)) (num (k + 1) (l.drop (k + 1))) = X) := Lib.hid (by have h := HS.out; rw [if_pos (sel_yes (by dsimp only; omega) (by dsimp only; omega))] at h; rw [app_list]; exact h)
            clear HS
            go_wp2_with fail
            go_round
            case rel => exact ⟨k + 1, out ++ c, by omega, by go_num, rfl, by rw [ByteArray.size_append]; omega, HS2⟩
            case measure => simp [RowKit.intOf]; omega
        · have hst := HO.out
          rw [List.drop_eq_nil_of_le (by omega), num, pick_nil, List.append_nil] at hst
          have HS := Lib.hid hst
          clear hst HO
          go_wp2_with fail
          go_ret
          exact ⟨by rw [← HS.out]; rfl, hbw⟩
    · have HPX : Hid (pick (sel from_ many) (num 0 l) = X) := Lib.hid (by rw [← HX.out, if_neg hm, if_neg hf])
      have HF : Hid (∀ k : Nat, k ≤ 1000000 → wrap64 ((k : Int) - from_) = (k : Int) - from_) := Lib.hid (fun k hk => w64r _ ⟨by omega, by omega⟩)
      clear hb1 hb2 HX
      go_wp2_with fail
      refine HC.out.mono ?_
      rintro e w1 ⟨v, rfl, hown, hbw⟩
      clear HC
      obtain ⟨a, cap, rfl, hcells⟩ := hown.reads
      clear hown
      go_wp2_with fail
      go_loop [8, 9] (fun o i => ∃ (k : Nat) (out : ByteArray), k ≤ l.length ∧ i = .int .i64 (k : Int) ∧ o = .string out ∧ out.size ≤ 4 * k ∧ Hid (out.data.toList ++ pick (sel from_ many) (num k (l.drop k)) = X)) (fun _ i => l.length - (RowKit.intOf i).toNat)
      case atStart => exact ⟨0, ⟨#[]⟩, Nat.zero_le _, rfl, rfl, Nat.zero_le _, Lib.hid (by simpa using HPX.out)⟩
      case round =>
        obtain ⟨k, out, hk, rfl, rfl, hos, HO⟩ := hrel
        by_cases hlt : k < l.length
        · obtain ⟨g, rfl, _, hcell⟩ := hcells k hlt
          have hst := HO.out
          have hc4 := H4.out k hlt
          rw [drop_step l k hlt, num, pick_cons (sel from_ many) (mkCh k (l.getD k ⟨#[]⟩)), mkCh_val k _ (by omega) hc4, ← List.append_assoc] at hst
          generalize l.getD k ⟨#[]⟩ = c at hcell hst hc4
          have HS := Lib.hid hst
          have hadd : ∀ wx, (Op.stringOp .add out c).run Try.prog wx = .ok (.string (out ++ c)) wx := fun wx => run_string_add wx out c (by omega) (by omega)
          clear hst HO
          have hwk := HF.out k (by omega)
          by_cases h1 : (k : Int) < from_
          · have HS2 : Hid (out.data.toList ++ pick (sel from_ many) (num (k + 1) (l.drop (k + 1))) = X) := Lib.hid (by have h := HS.out; rw [if_neg (by rw [sel_low (by dsimp only; omega)]; simp), List.append_nil] at h; exact h)
            clear HS
            go_wp2_with fail
            go_round
            case rel => exact ⟨k + 1, out, by omega, by go_num, rfl, by omega, HS2⟩
            case measure => simp [RowKit.intOf]; omega
          · by_cases h3 : many ≤ (k : Int) - from_
            · have HS2 : Hid (out.data.toList ++ pick (sel from_ many) (num (k + 1) (l.drop (k + 1))) = X) := Lib.hid (by have h := HS.out; rw [if_neg (by rw [sel_high (by dsimp only; omega)]; simp), List.append_nil] at h; exact h)
              clear HS
              go_wp2_with fail
              go_round
              case rel => exact ⟨k + 1, out, by omega, by go_num, rfl, by omega, HS2⟩
              case measure => simp [RowKit.intOf]; omega
            · have HS2 : Hid ((out ++ c).data.toList ++ pick (sel from_ many) (num (k + 1) (l.drop (k + 1))) = X) := Lib.hid (by have h := HS.out; rw [if_pos (sel_yes (by dsimp only; omega) (by dsimp only; omega))] at h; rw [app_list]; exact h)
              clear HS
              go_wp2_with fail
              go_round
              case rel => exact ⟨k + 1, out ++ c, by omega, by go_num, rfl, by rw [ByteArray.size_append]; omega, HS2⟩
              case measure => simp [RowKit.intOf]; omega
        · have hst := HO.out
          rw [List.drop_eq_nil_of_le (by omega), num, pick_nil, List.append_nil] at hst
          have HS := Lib.hid hst
          clear hst HO
          go_wp2_with fail
          go_ret
          exact ⟨by rw [← HS.out]; rfl, hbw⟩
end Go.Proofs.Ytblhiaeocinogaa.Char
