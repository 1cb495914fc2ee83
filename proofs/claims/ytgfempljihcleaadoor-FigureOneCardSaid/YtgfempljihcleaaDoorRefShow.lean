/- The walk of the document's own Show. -/
import Derived.Test.YtgfempljihcleaaDoorRefDigits
import Derived.Test.YtgfempljihcleaaDoorRefSmall
import Derived.RegionTactic
namespace Go.Proofs.YtgfempljihcleaaDoor.Char
open Go.RowKit Go.Lib

theorem lo_last (j x : Nat) : (lo (j + 1) x).getD j 0 = chr (x % 10) := by
  rw [lo]
  have h := lo_length j (x / 10)
  simp [List.getD, h]
theorem lo_init (j x : Nat) : (lo (j + 1) x).take j = lo j (x / 10) := by
  rw [lo, List.take_append_of_le_length (by rw [lo_length]; exact Nat.le_refl _), List.take_of_length_le (by rw [lo_length]; exact Nat.le_refl _)]

set_option maxRecDepth 100000 in
set_option maxHeartbeats 8000000 in
theorem refShow_num (v : Int) (w : World) (h : -9223372036854775807 ≤ v ∧ v ≤ 9223372036854775807) :
    Calls Tryd.prog 9 #[aggV 0 v] w fun e w' => e = .returned (.string (bs (showN v))) ∧ Below w.heap.size w w' := by
  have hne : v ≠ -9223372036854775808 := by omega
  have hright : rightB 0 v = true := by unfold rightB toD; rw [if_pos ⟨rfl, hne⟩]
  have CR := fun W => refRight_any 0 v W
  rw [hright] at CR
  have CS := fun W => refSize_any 0 v W h
  obtain ⟨m, hm⟩ : ∃ m, v.natAbs = m := ⟨_, rfl⟩
  rw [hm] at CS
  have hml := dg_len_le m 19 (by omega)
  have CD := fun (x : Value) W (hx : Holds W x (dg m)) => refDigits_any x m W hx (by omega)
  have htx := tx_lo m 6
  obtain ⟨L, hL⟩ : ∃ L, max (dg m).length 7 = L := ⟨_, rfl⟩
  rw [hL] at CD
  rw [hL] at htx
  have hLb : L ≤ 19 := by omega
  obtain ⟨A, hA⟩ : ∃ A, tx (m / 10 ^ 6) = A := ⟨_, rfl⟩
  obtain ⟨F, hF⟩ : ∃ F, fr 6 m = F := ⟨_, rfl⟩
  have hFl : F.length ≤ 6 := by rw [← hF]; exact (fr_pad 6 m).1
  rw [hA] at htx
  have hlen := congrArg List.length htx
  rw [lo_length, List.length_append, lo_length] at hlen
  obtain ⟨q, hq⟩ : ∃ q, A.length = q := ⟨_, rfl⟩
  rw [hq] at hlen
  subst hlen
  have hS1 : (bs (lo (q + 6) m)).extract 0 q = bs A := by rw [bs_ext, htx, List.drop_zero, Nat.sub_zero, List.take_append_of_le_length (by omega), List.take_of_length_le (by omega)]
  have hS2 : (bs (lo (q + 6) m)).extract q (q + 6) = bs (lo 6 m) := by
    rw [bs_ext, htx, List.drop_append_of_le_length (by omega), List.drop_eq_nil_of_le (by omega), List.nil_append, Nat.add_sub_cancel_left, List.take_of_length_le (by rw [lo_length]; exact Nat.le_refl _)]
  have hS : (bs (lo (q + 6) m)).size = q + 6 := by rw [bs_size, lo_length]
  obtain ⟨S, hSS⟩ : ∃ S, bs (lo (q + 6) m) = S := ⟨_, rfl⟩
  rw [hSS] at hS hS1 hS2 CD
  obtain ⟨X, hX⟩ : ∃ X, bs (showN v) = X := ⟨_, rfl⟩
  rw [hX]
  unfold showN bodyB at hX
  rw [hm, hA, hF] at hX
  have H1 := Lib.hid CR
  have H2 := Lib.hid CS
  have H3 := Lib.hid CD
  have HX := Lib.hid hX
  have HF := Lib.hid hF
  have HQ := Lib.hid hq
  unfold aggV at H1 H2 ⊢
  have hq13 : q ≤ 13 := by omega
  have hsl1 : ∀ wx, (Instr.slice 9 (.string S) none (some (.int .i64 (q : Int))) none).run Tryd.prog wx = .ok (.string (bs A)) wx := fun wx => by
    have := run_slice_string_h (P := Tryd.prog) wx 9 S Tryd.underlying9 .i64 (q : Int) (by omega) (by omega)
    rw [this, show (q : Int).toNat = q by omega, hS1]
  have hsl2 : ∀ wx, (Instr.slice 9 (.string S) (some (.int .i64 (q : Int))) none none).run Tryd.prog wx = .ok (.string (bs (lo 6 m))) wx := fun wx => by
    have := run_slice_string_l (P := Tryd.prog) wx 9 S Tryd.underlying9 .i64 (q : Int) (by omega) (by omega)
    rw [this, show (q : Int).toNat = q by omega, hS, hS2]
  obtain ⟨W1, hW1⟩ : ∃ W1, W1 = w.alloc (Obj.cells #[Value.int IntKind.i64 0, Value.int IntKind.i64 v] 23) := ⟨_, rfl⟩
  have aft : ∀ w1, Below W1.heap.size W1 w1 → w1.cell? ⟨w.heap.size, 0, none⟩ = some (.int .i64 0) ∧ w1.cell? ⟨w.heap.size, 1, none⟩ = some (.int .i64 v) ∧ w1.frozen? ⟨w.heap.size, 0, none⟩ = false ∧ w1.frozen? ⟨w.heap.size, 1, none⟩ = false ∧ w.heap.size < w1.heap.size ∧ Below w.heap.size w w1 := fun w1 h => by
    rw [hW1] at h
    exact kept_new w _ _ 23 w1 h
  have AFT := Lib.hid aft
  have HW1 := Lib.hid hW1
  clear hright CR CS CD hm hml htx hL hA hF hq hSS hX hS1 hS2 aft hW1 hLb h hne
  go_enter Tryd.func9, Tryd.ntmps9
  go_wp2_with fail
  rw [← HW1.out]
  refine (H1.out _).mono ?_
  rintro e w1 ⟨rfl, hb1⟩
  obtain ⟨a0, a1, _, _, _, _⟩ := AFT.out _ hb1
  go_wp2_with fail
  refine (H2.out _).mono ?_
  rintro e w2 ⟨x, rfl, hx, _, hb2⟩
  clear a0 a1
  obtain ⟨a0, a1, _, _, hs2, hbb⟩ := AFT.out _ (hb1.trans (hb2.mono hb1.size))
  clear hb1 hb2
  go_wp2_with fail
  refine (H3.out x w2 hx).mono ?_
  rintro e w3 ⟨rfl, rfl⟩
  clear hx
  go_wp2_with fail
  go_region
  clear hsl1 hsl2
  go_wp2_with fail
  go_loop [5] (fun r => ∃ (j x : Nat) (R : ByteArray), r = .string R ∧ R.size = j ∧ j ≤ 6 ∧ Hid (R = bs (lo j x)) ∧ Hid (fr j x = F)) (fun r => match r with | .string R => R.size | _ => 0)
  case atStart => exact ⟨6, m, _, rfl, by rw [bs_size, lo_length], by omega, Lib.hid rfl, HF⟩
  case round =>
    obtain ⟨j, x, R, rfl, hR, hj, HR, HFr⟩ := hrel
    clear HF
    by_cases hgo : 0 < j ∧ x % 10 = 0
    · obtain ⟨i, rfl⟩ : ∃ i, j = i + 1 := ⟨j - 1, by omega⟩
      have hi : i < R.size := by omega
      have hb : (R[i]'hi).toNat = 48 := by
        have e : ∀ (R' : ByteArray) (h : i < R'.size), R = R' → (R[i]'hi).toNat = (R'[i]'h).toNat := fun R' h e => by subst e; rfl
        rw [e _ (by rw [bs_size, lo_length]; omega) HR.out, bs_get, lo_last, hgo.2]
        rfl
      have hex : R.extract 0 i = bs (lo i (x / 10)) := by rw [HR.out, bs_ext, List.drop_zero, Nat.sub_zero, lo_init]
      obtain ⟨R', hR'⟩ : ∃ R', R.extract 0 i = R' := ⟨_, rfl⟩
      rw [hR'] at hex
      have hs' : R'.size = i := by rw [hex, bs_size, lo_length]
      have HEX := Lib.hid hex
      have HFr' : Hid (fr i (x / 10) = F) := Lib.hid (by rw [← HFr.out, fr_zero _ _ hgo.2])
      clear hgo HFr hex HR
      go_wp2_with fail
      go_round
      case rel => exact ⟨i, x / 10, R', rfl, hs', by omega, HEX, HFr'⟩
      case measure => show R'.size < R.size; omega
    · have hRF : R = bs F := by rw [HR.out, ← HFr.out, fr_lo j x (fun h0 h1 => hgo ⟨h0, h1⟩)]
      have hA1 : (bs A).size = q := by rw [bs_size]; exact HQ.out
      have hj2 : F.length = j := by rw [← bs_size, ← hRF]; exact hR
      have hneg : ∀ T : ByteArray, T.size ≤ 21 → ∀ wx, (Op.stringOp .add ⟨#[45]⟩ T).run Tryd.prog wx = .ok (.string (⟨#[45]⟩ ++ T)) wx := fun T hT wx => run_string_add wx _ T (by decide) (by omega)
      by_cases h0 : 0 < j
      · obtain ⟨i, rfl⟩ : ∃ i, j = i + 1 := ⟨j - 1, by omega⟩
        have hi : i < R.size := by omega
        obtain ⟨d, hd⟩ : ∃ d, x % 10 = d := ⟨_, rfl⟩
        have hb : (R[i]'hi).toNat = 48 + d := by
          have e : ∀ (R' : ByteArray) (h : i < R'.size), R = R' → (R[i]'hi).toNat = (R'[i]'h).toNat := fun R' h e => by subst e; rfl
          rw [e _ (by rw [bs_size, lo_length]; omega) HR.out, bs_get, lo_last, chr_toNat _ (Nat.mod_lt _ (by omega)), hd]
        have hdn : ((48 : Int) + (d : Int) == 48) = false := by
          rw [beq_eq_false_iff_ne]
          intro h1
          exact hgo ⟨h0, by omega⟩
        have hFne : F ≠ [] := by intro h; rw [h] at hj2; simp at hj2
        have hRne : ¬ R.toList = [] := by rw [hRF, toList_data]; exact hFne
        have hRne2 : R.toList.isEmpty = false := by
          rw [hRF, toList_data]
          show F.isEmpty = false
          cases F with | nil => exact absurd rfl hFne | cons _ _ => rfl
        obtain ⟨B1, hB1⟩ : ∃ B, bs A ++ ⟨#[46]⟩ = B := ⟨_, rfl⟩
        obtain ⟨B2, hB2⟩ : ∃ B, B1 ++ R = B := ⟨_, rfl⟩
        have hB1' : B1 = bs (A ++ [46]) := by rw [← hB1, ← bs_add]; rfl
        have hB2' : B2 = bs (A ++ 46 :: F) := by rw [← hB2, hB1', hRF, bs_add, List.append_assoc]; rfl
        have s1 : B1.size = q + 1 := by rw [hB1', bs_size, List.length_append, HQ.out]; rfl
        have s2 : B2.size ≤ 21 := by rw [hB2', bs_size, List.length_append, HQ.out, List.length_cons]; omega
        have hadd1 : ∀ wx, (Op.stringOp .add (bs A) ⟨#[46]⟩).run Tryd.prog wx = .ok (.string B1) wx := fun wx => by rw [← hB1]; exact run_string_add wx _ _ (by omega) (by decide)
        have hadd2 : ∀ wx, (Op.stringOp .add B1 R).run Tryd.prog wx = .ok (.string B2) wx := fun wx => by rw [← hB2]; exact run_string_add wx _ _ (by omega) (by omega)
        have hadd3 := hneg B2 s2
        have HB2 := Lib.hid hB2'
        have HFN := Lib.hid hFne
        clear hgo HR HFr hRF hd hFne hB1 hB2 hB1' hB2' hneg hA1 s1 s2
        by_cases hv : v < 0
        · have XN : Hid (X = ⟨#[45]⟩ ++ B2) := Lib.hid (by
            rw [← HX.out, HB2.out, if_pos hv, if_neg HFN.out]
            rfl)
          clear HX
          go_wp2_with fail
          go_ret
          exact ⟨by rw [XN.out]; rfl, hbb.drew⟩
        · have XN : Hid (X = B2) := Lib.hid (by rw [← HX.out, HB2.out, if_neg hv, if_neg HFN.out]; rfl)
          clear HX
          go_wp2_with fail
          go_ret
          exact ⟨by rw [XN.out]; rfl, hbb.drew⟩
      · obtain rfl : j = 0 := by omega
        have hFe : F = [] := List.eq_nil_of_length_eq_zero hj2
        have hRe : R.toList = [] := by rw [hRF, toList_data]; exact hFe
        have hadd3 := hneg (bs A) (by omega)
        clear hgo HR HFr hRF hneg hA1
        by_cases hv : v < 0
        · have XN : Hid (X = ⟨#[45]⟩ ++ bs A) := Lib.hid (by rw [← HX.out, if_pos hv, if_pos hFe, List.append_nil]; rfl)
          clear HX hFe
          go_wp2_with fail
          go_ret
          exact ⟨by rw [XN.out]; rfl, hbb.drew⟩
        · have XN : Hid (X = bs A) := Lib.hid (by rw [← HX.out, if_neg hv, if_pos hFe, List.append_nil]; rfl)
          clear HX hFe
          go_wp2_with fail
          go_ret
          exact ⟨by rw [XN.out]; rfl, hbb.drew⟩

set_option maxRecDepth 100000 in
set_option maxHeartbeats 4000000 in
theorem refShow_any (t v : Int) (w : World) (h : -9223372036854775808 ≤ v ∧ v ≤ 9223372036854775807) :
    Calls Tryd.prog 9 #[aggV t v] w fun e w' => e = .returned (.string (bs (showB (toD t v)))) ∧ Below w.heap.size w w' := by
  have CR := fun W => refRight_any t v W
  obtain ⟨W1, hW1⟩ : ∃ W1, W1 = w.alloc (Obj.cells #[Value.int IntKind.i64 t, Value.int IntKind.i64 v] 23) := ⟨_, rfl⟩
  have aft : ∀ w1, Below W1.heap.size W1 w1 → w1.cell? ⟨w.heap.size, 0, none⟩ = some (.int .i64 t) ∧ w1.cell? ⟨w.heap.size, 1, none⟩ = some (.int .i64 v) ∧ w1.frozen? ⟨w.heap.size, 0, none⟩ = false ∧ w1.frozen? ⟨w.heap.size, 1, none⟩ = false ∧ w.heap.size < w1.heap.size ∧ Below w.heap.size w w1 := fun w1 h => by
    rw [hW1] at h
    exact kept_new w _ _ 23 w1 h
  have AFT := Lib.hid aft
  have HW1 := Lib.hid hW1
  clear hW1 aft
  rcases toD_cases t v with ⟨rfl, h2, e, er⟩ | ⟨rfl, rfl, e, er⟩ | ⟨rfl, rfl, e, er⟩ | ⟨rfl, rfl, e, er⟩ | ⟨_, _, _, _, e, er⟩
  · rw [e]
    exact refShow_num v w (by omega)
  all_goals
    rw [er] at CR
    rw [e]
    have C1 := fun W => Lib.hid (CR W)
    unfold aggV at C1 ⊢
    clear CR e er h
    go_enter Tryd.func9, Tryd.ntmps9
    go_wp2_with fail
    rw [← HW1.out]
    refine (C1 _).out.mono ?_
    rintro e w1 ⟨rfl, h1⟩
    obtain ⟨a0, a1, _, _, hs2, hbb⟩ := AFT.out _ h1
    clear h1
    go_wp2_with fail
    go_ret
    exact ⟨rfl, hbb⟩
end Go.Proofs.YtgfempljihcleaaDoor.Char
