/- The walk of SpanJoin: the characters of two texts of characters, one behind the other, are those of both. -/
import Derived.Test.YtblhiaeocinogaaWorks
import Derived.Test.YtblhiaeocinogaaRefChars
import Derived.Test.YtblhiaeocinogaaParts
namespace Go.Proofs.Ytblhiaeocinogaa.Char
open Go.RowKit Go.Lib

theorem wid_more (a b : ByteArray) (pos : Nat) (h : pos < a.size) (hv : ¬ ((decodeL (a.data.toList.drop pos)).1 = 65533 ∧ (decodeL (a.data.toList.drop pos)).2 = 1)) : wid (a ++ b) pos = wid a pos := by
  have hp := sz_list a
  rw [wid_drop, wid_drop, app_list, List.drop_append_of_le_length (by omega), decodeL_more _ _ (drop_ne a pos h) hv]
/-- bytes of right UTF-8 stay so from a character's beginning on -/
theorem validD_from (a : ByteArray) (pos : Nat) (h : pos < a.size) (hv : validD (a.data.toList.drop pos) = true) :
    ¬ ((decodeL (a.data.toList.drop pos)).1 = 65533 ∧ (decodeL (a.data.toList.drop pos)).2 = 1) ∧ validD (a.data.toList.drop (pos + wid a pos)) = true := by
  rw [validD_step _ (drop_ne a pos h)] at hv
  by_cases hb : (decodeL (a.data.toList.drop pos)).1 = 65533 ∧ (decodeL (a.data.toList.drop pos)).2 = 1
  · rw [if_pos hb] at hv; cases hv
  · rw [if_neg hb, List.drop_drop] at hv
    exact ⟨hb, by rw [wid_drop]; exact hv⟩
theorem app_size (a b : ByteArray) : (a ++ b).size = a.size + b.size := ByteArray.size_append
theorem ext_left (a b : ByteArray) (i j : Nat) (hj : j ≤ a.size) : (a ++ b).extract i j = a.extract i j := by
  apply data_inj.1
  have hp := sz_list a
  rw [extract_list, extract_list, app_list]
  by_cases h : i ≤ a.size
  · rw [List.drop_append_of_le_length (by omega), List.take_append_of_le_length (by rw [List.length_drop]; omega)]
  · have : j - i = 0 := by omega
    rw [this]; rfl
theorem ext_right (a b : ByteArray) (i j : Nat) : (a ++ b).extract (a.size + i) (a.size + j) = b.extract i j := by
  apply data_inj.1
  have hp := sz_list a
  rw [extract_list, extract_list, app_list]
  have e : a.data.toList ++ b.data.toList = a.data.toList ++ b.data.toList := rfl
  rw [List.drop_append, hp]
  have e1 : a.data.toList.drop (a.size + i) = [] := List.drop_eq_nil_of_le (by omega)
  have e2 : a.size + i - a.size = i := by omega
  have e3 : a.size + j - (a.size + i) = j - i := by omega
  rw [e1, e2, e3, List.nil_append]
theorem wid_right (a b : ByteArray) (pos : Nat) : wid (a ++ b) (a.size + pos) = wid b pos := by
  have hp := sz_list a
  rw [wid_drop, wid_drop, app_list, List.drop_append, hp]
  have e1 : a.data.toList.drop (a.size + pos) = [] := List.drop_eq_nil_of_le (by omega)
  have e2 : a.size + pos - a.size = pos := by omega
  rw [e1, e2, List.nil_append]
theorem from_right (a b : ByteArray) : ∀ (n pos : Nat), b.size - pos ≤ n → from_ (a ++ b) (a.size + pos) = from_ b pos
  | 0, pos, h => by rw [from_end b pos (by omega), from_end (a ++ b) _ (by rw [app_size]; omega)]
  | n + 1, pos, h => by
    by_cases hp : pos < b.size
    · have hw := wid_pos b pos
      rw [from_step b pos hp, from_step (a ++ b) _ (by rw [app_size]; omega), wid_right]
      have e : a.size + pos + wid b pos = a.size + (pos + wid b pos) := by omega
      rw [e, ext_right, from_right a b n _ (by omega)]
    · rw [from_end b pos hp, from_end (a ++ b) _ (by rw [app_size]; omega)]
theorem from_left (a b : ByteArray) : ∀ (n pos : Nat), a.size - pos ≤ n → pos ≤ a.size → validD (a.data.toList.drop pos) = true → from_ (a ++ b) pos = from_ a pos ++ crs b
  | 0, pos, h, hp, _ => by
    have e : pos = a.size + 0 := by omega
    rw [from_end a pos (by omega), List.nil_append, e, from_right a b b.size 0 (by omega), from_zero]
  | n + 1, pos, h, hp, hv => by
    by_cases hl : pos < a.size
    · have hw := wid_pos a pos
      have hle := wid_le a pos hl
      obtain ⟨h1, h2⟩ := validD_from a pos hl hv
      rw [from_step a pos hl, from_step (a ++ b) pos (by rw [app_size]; omega), wid_more a b pos hl h1, ext_left a b pos _ hle, from_left a b n _ (by omega) hle h2]
      rfl
    · exact from_left a b 0 pos (by omega) hp hv
/-- the characters of two texts, of which the first one is right UTF-8 -/
theorem crs_join (a b : ByteArray) (hv : validD a.data.toList = true) : crs (a ++ b) = crs a ++ crs b := by
  have := from_left a b a.size 0 (by omega) (Nat.zero_le _) hv
  rw [from_zero, from_zero] at this
  exact this
theorem pick_all (P : Nat → Bool) (l : List Ch) (h : ∀ x ∈ l, P x.1.1 = true) : pick P l = l.flatMap fun x => x.1.2.data.toList := by
  have h1 := pick_same P (fun _ => true) l (fun x hx => h x hx)
  rw [h1]
  simp [pick]
theorem num_lo : ∀ (l : List ByteArray) (k : Nat), k + l.length ≤ 1000000 → (∀ c ∈ l, c.size ≤ 4) → ∀ x ∈ num k l, k ≤ x.1.1
  | [], _, _, _, x, hx => by simp [num] at hx
  | c :: r, k, h, h4, x, hx => by
    rw [List.length_cons] at h
    simp only [num] at hx
    rcases List.mem_cons.1 hx with rfl | hx
    · rw [mkCh_val k c (by omega) (h4 c (by simp))]; exact Nat.le_refl _
    · have := num_lo r (k + 1) (by omega) (fun y hy => h4 y (List.mem_cons_of_mem _ hy)) x hx
      omega
theorem num_catk (l : List ByteArray) (k : Nat) (h : k + l.length ≤ 1000000) (h4 : ∀ c ∈ l, c.size ≤ 4) : (num k l).flatMap (fun x => x.1.2.data.toList) = cat l := by
  have hv := num_vals l k h h4
  unfold cat
  rw [← hv, List.flatMap_map]
  rw [hv]
theorem cut_left (a b : ByteArray) (hv : validD a.data.toList = true) (ha : a.size ≤ 1500) (hb : b.size ≤ 1500) : cutD (a ++ b) 0 ((crs a).length : Int) = a.data.toList := by
  have hla := crs_length a
  have hlb := crs_length b
  have h1 : cutD (a ++ b) 0 ((crs a).length : Int) = pick (sel 0 ((crs a).length : Int)) (num 0 (crs (a ++ b))) := by
    unfold cutD
    by_cases h : ((crs a).length : Int) < 1
    · rw [if_pos h, pick_none]
      intro x _
      exact sel_high (by omega)
    · rw [if_neg h, if_neg (by omega)]
  rw [h1, crs_join a b hv, num_append, pick_append, pick_all _ (num 0 (crs a)), pick_none _ (num (0 + (crs a).length) (crs b)), List.append_nil, num_catk _ 0 (by omega) (crs_four a), cat_crs]
  · intro x hx
    have := num_lo _ _ (by omega) (crs_four b) x hx
    exact sel_high (by omega)
  · intro x hx
    have := num_ge _ _ (by omega) (crs_four a) x hx
    exact sel_yes (by omega) (by omega)
theorem cut_right (a b : ByteArray) (hv : validD a.data.toList = true) (ha : a.size ≤ 1500) (hb : b.size ≤ 1500) : cutD (a ++ b) ((crs a).length : Int) 4000 = b.data.toList := by
  have hla := crs_length a
  have hlb := crs_length b
  have h1 : cutD (a ++ b) ((crs a).length : Int) 4000 = pick (sel ((crs a).length : Int) 4000) (num 0 (crs (a ++ b))) := by
    unfold cutD
    rw [if_neg (by omega), if_neg (by omega)]
  rw [h1, crs_join a b hv, num_append, pick_append, pick_none _ (num 0 (crs a)), pick_all _ (num (0 + (crs a).length) (crs b)), List.nil_append, num_catk _ _ (by omega) (crs_four b), cat_crs]
  · intro x hx
    have h2 := num_lo _ _ (by omega) (crs_four b) x hx
    have h3 := num_ge _ _ (by omega) (crs_four b) x hx
    exact sel_yes (by omega) (by omega)
  · intro x hx
    have := num_ge _ _ (by omega) (crs_four a) x hx
    exact sel_low (by omega)

set_option maxRecDepth 100000 in
set_option maxHeartbeats 4000000 in
theorem joins_law (a b : ByteArray) (w : World) (ha : a.size ≤ 1048576) (hb : b.size ≤ 1048576) :
    Calls Try.prog 7 #[.string a, .string b] w fun e w' => e = .returned (.bool true) ∧ Below w.heap.size w w' := by
  have CA := fun w => Lib.hid (chars_any a w ha)
  have CB := fun w => Lib.hid (chars_any b w hb)
  by_cases hl : validD a.data.toList = true ∧ validD b.data.toList = true ∧ a.size ≤ 1500 ∧ b.size ≤ 1500
  · obtain ⟨hva, hvb, hla, hlb⟩ := hl
    have hca := crs_length a
    have hcb := crs_length b
    have hcj := congrArg List.length (crs_join a b hva)
    rw [List.length_append] at hcj
    have hsz := app_size a b
    have h1 := cut_left a b hva hla hlb
    have h2 := cut_right a b hva hla hlb
    have hwf : (Lit.int .i64 ((crs a).length : Int)).wf = true := by simp [Lit.wf, IntKind.min, IntKind.max, IntKind.signed, IntKind.bits]; omega
    have L1 := fun w => Lib.hid (len_any a w (by omega))
    have L2 := fun w => Lib.hid (len_any b w (by omega))
    have L3 := fun w => Lib.hid (len_any (a ++ b) w (by omega))
    have C1 := fun w => Lib.hid (cut_any (a ++ b) 0 ((crs a).length : Int) w (by omega) (by decide) hwf)
    have C2 := fun w => Lib.hid (cut_any (a ++ b) ((crs a).length : Int) 4000 w (by omega) hwf (by decide))
    have ea : (⟨a.data.toList.toArray⟩ : ByteArray) = a := by cases a; simp
    have eb : (⟨b.data.toList.toArray⟩ : ByteArray) = b := by cases b; simp
    rw [h1, ea] at C1
    rw [h2, eb] at C2
    rw [hcj] at L3
    rw [hva] at CA
    rw [hvb] at CB
    have hadd : ∀ wx, (Op.stringOp .add a b).run Try.prog wx = .ok (.string (a ++ b)) wx := fun wx => run_string_add wx a b (by omega) (by omega)
    generalize (crs a).length = na at L1 L3 C1 C2 hca hcj
    generalize (crs b).length = nb at L2 L3 hcb hcj
    generalize chsL a.data.toList = la at CA
    generalize chsL b.data.toList = lb at CB
    generalize a ++ b = c at L3 C1 C2 hadd
    clear h1 h2 hva hvb hcj hsz hwf ea eb
    go_enter Try.func7, Try.ntmps7
    go_wp2_with fail
    refine (CA _).out.mono ?_
    rintro e w1 ⟨v1, rfl, _, b1⟩
    go_wp2_with fail
    refine (CB _).out.mono ?_
    rintro e w2 ⟨v2, rfl, _, b2⟩
    go_wp2_with fail
    refine (L1 _).out.mono ?_
    rintro e w3 ⟨rfl, b3⟩
    go_wp2_with fail
    refine (L3 _).out.mono ?_
    rintro e w4 ⟨rfl, b4⟩
    go_wp2_with fail
    refine (L2 _).out.mono ?_
    rintro e w5 ⟨rfl, b5⟩
    go_wp2_with fail
    refine (C1 _).out.mono ?_
    rintro e w6 ⟨rfl, b6⟩
    go_wp2_with fail
    refine (C2 _).out.mono ?_
    rintro e w7 ⟨rfl, b7⟩
    go_wp2_with fail
    refine (works_any _).mono ?_
    rintro e w8 ⟨rfl, b8⟩
    go_wp2_with fail
    go_ret
    exact ⟨rfl, b1.trans ((b2.trans ((b3.trans ((b4.trans ((b5.trans ((b6.trans ((b7.trans (b8.mono b7.size)).mono b6.size)).mono b5.size)).mono b4.size)).mono b3.size)).mono b2.size)).mono b1.size)⟩
  · generalize validD a.data.toList = va at CA hl
    generalize validD b.data.toList = vb at CB hl
    generalize chsL a.data.toList = la at CA
    generalize chsL b.data.toList = lb at CB
    go_enter Try.func7, Try.ntmps7
    go_wp2_with fail
    refine (CA _).out.mono ?_
    rintro e w1 ⟨v1, rfl, _, b1⟩
    go_wp2_with fail
    refine (CB _).out.mono ?_
    rintro e w2 ⟨v2, rfl, _, b2⟩
    clear CA CB
    cases va with
    | false =>
      clear hl
      go_wp2_with fail
      refine (works_any _).mono ?_
      rintro e w8 ⟨rfl, b8⟩
      go_wp2_with fail
      go_ret
      exact ⟨rfl, b1.trans ((b2.trans (b8.mono b2.size)).mono b1.size)⟩
    | true =>
      cases vb with
      | false =>
        clear hl
        go_wp2_with fail
        refine (works_any _).mono ?_
        rintro e w8 ⟨rfl, b8⟩
        go_wp2_with fail
        go_ret
        exact ⟨rfl, b1.trans ((b2.trans (b8.mono b2.size)).mono b1.size)⟩
      | true =>
        by_cases h1 : 1500 < a.size
        · clear hl
          go_wp2_with fail
          refine (works_any _).mono ?_
          rintro e w8 ⟨rfl, b8⟩
          go_wp2_with fail
          go_ret
          exact ⟨rfl, b1.trans ((b2.trans (b8.mono b2.size)).mono b1.size)⟩
        · have h2 : 1500 < b.size := by
            rcases Nat.lt_or_ge 1500 b.size with h | h
            · exact h
            · exact absurd ⟨rfl, rfl, by omega, h⟩ hl
          clear hl
          go_wp2_with fail
          refine (works_any _).mono ?_
          rintro e w8 ⟨rfl, b8⟩
          go_wp2_with fail
          go_ret
          exact ⟨rfl, b1.trans ((b2.trans (b8.mono b2.size)).mono b1.size)⟩
end Go.Proofs.Ytblhiaeocinogaa.Char
