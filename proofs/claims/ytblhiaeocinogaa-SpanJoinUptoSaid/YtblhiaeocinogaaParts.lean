/- The walk of SpanParts: the parts ahead of a number of characters, and from it on, are the text together; what has one blank between its words stays. -/
import Derived.Test.YtblhiaeocinogaaWorks
import Derived.Test.YtblhiaeocinogaaNorm
import Derived.Test.YtblhiaeocinogaaRefMap
namespace Go.Proofs.Ytblhiaeocinogaa.Char
open Go.RowKit

theorem num_ge : ∀ (l : List ByteArray) (k : Nat), k + l.length ≤ 1000000 → (∀ c ∈ l, c.size ≤ 4) → ∀ x ∈ num k l, x.1.1 < k + l.length
  | [], _, _, _, x, hx => by simp [num] at hx
  | c :: r, k, h, h4, x, hx => by
    rw [List.length_cons] at h ⊢
    simp only [num] at hx
    rcases List.mem_cons.1 hx with rfl | hx
    · rw [mkCh_val k c (by omega) (h4 c (by simp))]; show k < _; omega
    · have := num_ge r (k + 1) (by omega) (fun y hy => h4 y (List.mem_cons_of_mem _ hy)) x hx
      omega
/-- a text cut in two at a character -/
theorem pick_two (P Q : Nat → Bool) : ∀ (l : List Ch), l.Pairwise (fun x y => x.1.1 < y.1.1) → (∀ x ∈ l, Q x.1.1 = !P x.1.1) → (∀ x ∈ l, ∀ y ∈ l, x.1.1 < y.1.1 → P y.1.1 = true → P x.1.1 = true) → pick P l ++ pick Q l = l.flatMap fun x => x.1.2.data.toList
  | [], _, _, _ => rfl
  | x :: r, hw, hq, hm => by
    have e : ∀ P : Nat → Bool, pick P (x :: r) = (if P x.1.1 then x.1.2.data.toList else []) ++ pick P r := fun P => by simp [pick]
    have hw2 := List.pairwise_cons.1 hw
    have ih := pick_two P Q r hw2.2 (fun y hy => hq y (List.mem_cons_of_mem _ hy)) (fun y hy z hz => hm y (List.mem_cons_of_mem _ hy) z (List.mem_cons_of_mem _ hz))
    rw [e, e, hq x (by simp), List.flatMap_cons]
    cases hp : P x.1.1
    · have hn : pick P r = [] := pick_none P r (fun y hy => by
        cases hy2 : P y.1.1
        · rfl
        · rw [hm x (by simp) y (List.mem_cons_of_mem _ hy) (hw2.1 y hy) hy2] at hp; cases hp)
      rw [hn] at ih ⊢
      simp
      simpa using ih
    · simp [← ih]
theorem num_cat (s : ByteArray) (hs : s.size ≤ 1000000) : (num 0 (crs s)).flatMap (fun x => x.1.2.data.toList) = s.data.toList := by
  have h := num_vals (crs s) 0 (by have := crs_length s; omega) (crs_four s)
  have hc := cat_crs s
  unfold cat at hc
  rw [← h, List.flatMap_map] at hc
  exact hc
theorem cut_parts (s : ByteArray) (n : Nat) (hs : s.size ≤ 3000) : cutD s 0 (n : Int) ++ cutD s (n : Int) 4000 = s.data.toList := by
  have h1 : cutD s 0 (n : Int) = pick (sel 0 (n : Int)) (num 0 (crs s)) := by
    unfold cutD
    by_cases h : (n : Int) < 1
    · rw [if_pos h, pick_none]
      intro x _
      exact sel_high (by omega)
    · rw [if_neg h, if_neg (by omega)]
  have h2 : cutD s (n : Int) 4000 = pick (sel (n : Int) 4000) (num 0 (crs s)) := by
    unfold cutD
    rw [if_neg (by omega), if_neg (by omega)]
  rw [h1, h2, pick_two (sel 0 n) (sel n 4000) _ (num_rise s (by omega)) ?_ ?_, num_cat s (by omega)]
  · intro x hx
    have hlt := num_ge (crs s) 0 (by have := crs_length s; omega) (crs_four s) x hx
    have hcl := crs_length s
    by_cases h : (x.1.1 : Int) < n
    · rw [sel_low h, sel_yes (by omega) (by omega)]; rfl
    · rw [sel_yes (by omega) (by omega), sel_high (by omega)]; rfl
  · intro x _ y _ hxy hy
    unfold sel at hy ⊢
    simp at hy ⊢
    omega

set_option maxRecDepth 100000 in
set_option maxHeartbeats 2000000 in
theorem parts_law (s : ByteArray) (n : Int) (w : World) (hw1 : (Lit.int .u8 n).wf = true) :
    Calls Try.prog 6 #[.string s, .int .u8 n] w fun e w' => e = .returned (.bool true) ∧ Below w.heap.size w w' := by
  have hn : 0 ≤ n ∧ n ≤ 255 := by simpa [Lit.wf, IntKind.min, IntKind.max, IntKind.signed, IntKind.bits] using hw1
  obtain ⟨k, rfl⟩ : ∃ k : Nat, n = (k : Int) := ⟨n.toNat, by omega⟩
  have hk : k ≤ 255 := by omega
  clear hw1 hn
  have hwk : (Lit.int .i64 (k : Int)).wf = true := by simp [Lit.wf, IntKind.min, IntKind.max, IntKind.signed, IntKind.bits]; omega
  have HWK := Lib.hid hwk
  clear hwk
  go_enter Try.func6, Try.ntmps6
  by_cases hl : 3000 < s.size
  · go_wp2_with fail
    refine (works_any _).mono ?_
    rintro e w1 ⟨rfl, h1⟩
    go_wp2_with fail
    go_ret
    exact ⟨rfl, h1⟩
  · have hnb := normB_length s.data.toList
    rw [sz_list] at hnb
    have hcp := cut_parts s k (by omega)
    have htw := normB_twice s.data.toList
    have C1 := fun w => Lib.hid (cut_any s 0 (k : Int) w (by omega) (by decide) HWK.out)
    have C2 := fun w => Lib.hid (cut_any s (k : Int) 4000 w (by omega) HWK.out (by decide))
    have N1 := fun w => Lib.hid (norm_any s w (by omega))
    have hms : (⟨(normB s.data.toList).toArray⟩ : ByteArray).size ≤ 1000000 := by show (normB s.data.toList).toArray.size ≤ _; rw [List.size_toArray]; omega
    have N2 := fun w => Lib.hid (norm_any ⟨(normB s.data.toList).toArray⟩ w hms)
    rw [show (⟨(normB s.data.toList).toArray⟩ : ByteArray).data.toList = normB s.data.toList from rfl, htw] at N2
    generalize normB s.data.toList = M at N1 N2 hnb
    generalize cutD s 0 (k : Int) = X at hcp C1
    generalize cutD s (k : Int) 4000 = Y at hcp C2
    have hsum : X.length + Y.length = s.size := by rw [← sz_list, ← hcp, List.length_append]
    have hxy : (⟨X.toArray⟩ : ByteArray) ++ ⟨Y.toArray⟩ = s := by
      apply data_inj.1
      rw [app_list]
      exact hcp
    have hadd : ∀ wx, (Op.stringOp .add ⟨X.toArray⟩ ⟨Y.toArray⟩).run Try.prog wx = .ok (.string s) wx := fun wx => by
      rw [run_string_add wx ⟨X.toArray⟩ ⟨Y.toArray⟩ (by show ((X.toArray.size : Nat) : Int) ≤ _; rw [List.size_toArray]; omega) (by show ((Y.toArray.size : Nat) : Int) ≤ _; rw [List.size_toArray]; omega), hxy]
    clear hcp htw hms hsum hxy hnb
    go_wp2_with fail
    refine (N1 _).out.mono ?_
    rintro e w1 ⟨rfl, h1⟩
    go_wp2_with fail
    refine (C1 _).out.mono ?_
    rintro e w2 ⟨rfl, h2⟩
    go_wp2_with fail
    refine (C2 _).out.mono ?_
    rintro e w3 ⟨rfl, h3⟩
    go_wp2_with fail
    refine (N2 _).out.mono ?_
    rintro e w4 ⟨rfl, h4⟩
    go_wp2_with fail
    refine (works_any _).mono ?_
    rintro e w5 ⟨rfl, h5⟩
    go_wp2_with fail
    go_ret
    exact ⟨rfl, h1.trans ((h2.trans ((h3.trans ((h4.trans (h5.mono h4.size)).mono h3.size)).mono h2.size)).mono h1.size)⟩
end Go.Proofs.Ytblhiaeocinogaa.Char
