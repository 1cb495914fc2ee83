/- The walks of the document's own Made, Int, Neg for numbers in millionths. -/
import Derived.Test.YtgfempljihcleaaDoorRefSmall
namespace Go.Proofs.YtgfempljihcleaaDoor.Char
open Go.RowKit

theorem val_drop (l : List Nat) (j : Nat) (h : j < l.length) : val (l.drop (j + 1)) * 10 + l.getD j 0 = val (l.drop j) := by
  have hg : l.getD j 0 = l[j] := by simp [List.getD, List.getElem?_eq_getElem h]
  rw [List.drop_eq_getElem_cons h, hg, val]
  omega
theorem val_drop_le : ∀ (l : List Nat) (j : Nat), val (l.drop j) ≤ val l
  | [], j => by simp
  | d :: l, 0 => Nat.le_refl _
  | d :: l, j + 1 => by
    have h := val_drop_le l j
    show val (l.drop j) ≤ d + 10 * val l
    omega

set_option maxRecDepth 100000 in
set_option maxHeartbeats 4000000 in
theorem madeL_any (below : Bool) (v : Value) (l : List Nat) (n : Nat) (w : World) (hv : Holds w v l) (hd : ∀ d ∈ l, d < 10) (hn : val l = n) (hl : l.length ≤ 1000) :
    Calls Tryd.prog 24 #[.bool below, v] w fun e w' => e = .returned (decV (sizedD n below)) ∧ Below w.heap.size w w' := by
  obtain ⟨W1, hW1⟩ : ∃ W1, W1 = w.alloc (Obj.cells #[Value.int IntKind.i64 0, Value.int IntKind.i64 0] 23) := ⟨_, rfl⟩
  have hb1 : Below w.heap.size w W1 := by rw [hW1]; exact (Below.refl _ _).alloc (Nat.le_refl _) _
  have hsz : W1.heap.size = w.heap.size + 1 := by rw [hW1]; simp
  have aft : ∀ w1, Below W1.heap.size W1 w1 → w1.cell? ⟨w.heap.size, 0, none⟩ = some (.int .i64 0) ∧ w1.cell? ⟨w.heap.size, 1, none⟩ = some (.int .i64 0) ∧ w1.frozen? ⟨w.heap.size, 0, none⟩ = false ∧ w1.frozen? ⟨w.heap.size, 1, none⟩ = false ∧ w.heap.size < w1.heap.size ∧ Below w.heap.size w w1 := fun w1 h => by
    rw [hW1] at h
    exact kept_new w _ _ 23 w1 h
  have hv1 := hv.below hb1
  have CD := Lib.hid (digits_any 9223372036854775807 W1 (by omega))
  have hmax : (dg 9223372036854775807).length ≤ 1000 := Nat.le_trans (dg_len_le _ 19 (by decide)) (by omega)
  have CL := Lib.hid (fun W va (ha : Holds W va (dg 9223372036854775807)) (hb : Holds W v l) => leastL_any va v (dg 9223372036854775807) l 9223372036854775807 n W ha hb (dg_lt _) hd (val_dg _) hn hmax hl)
  have hvn := hv1
  obtain ⟨A, cap, rfl, hcap, _, hA⟩ := hvn
  have HV1 := Lib.hid hv1
  have HA := Lib.hid hA
  have AFT := Lib.hid aft
  have HW1 := Lib.hid hW1
  have HSZ := Lib.hid hsz
  have HB1 := Lib.hid hb1
  have HD := Lib.hid hd
  have HN := Lib.hid hn
  clear hv hW1 hb1 hsz aft hv1 hA hmax hd hn
  by_cases hg : 9223372036854775807 < n
  · rw [decide_eq_true hg] at CL
    have hX : sizedD n below = if below then .under else .over := by
      cases below
      · show fitD (n : Int) = .over
        unfold fitD
        rw [if_pos (by omega)]
      · show fitD (-(n : Int)) = .under
        unfold fitD
        rw [if_neg (by omega), if_pos (by omega)]
    rw [hX]
    clear hX hg
    go_enter Tryd.func24, Tryd.ntmps24
    go_wp2_with fail
    rw [← HW1.out]
    refine CD.out.mono ?_
    rintro e w2 ⟨va, rfl, ha, _, hb2⟩
    have HHA := Lib.hid ha
    clear ha
    go_wp2_with fail
    refine (CL.out _ _ HHA.out (HV1.out.below hb2)).mono ?_
    rintro e w3 ⟨rfl, hb3⟩
    obtain ⟨k0, k1, f0, f1, hs3, hbb⟩ := AFT.out _ (hb2.trans (hb3.mono hb2.size))
    clear hb2 hb3 HHA
    cases below
    all_goals
      go_wp2_with fail
      exact end_dec rfl w3 w.heap.size _ _ k0 k1 rfl rfl ⟨rfl, (hbb.setCell (Nat.le_refl _) _).setCell (Nat.le_refl _) _⟩
  · rw [decide_eq_false hg] at CL
    have hX : sizedD n below = .num (if below then -(n : Int) else (n : Int)) := by
      cases below
      · exact fitD_in _ ⟨by omega, by omega⟩
      · show fitD (-(n : Int)) = _
        exact fitD_in _ ⟨by omega, by omega⟩
    rw [hX]
    have hnb : n ≤ 9223372036854775807 := by omega
    clear hX hg
    go_enter Tryd.func24, Tryd.ntmps24
    go_wp2_with fail
    rw [← HW1.out]
    refine CD.out.mono ?_
    rintro e w2 ⟨va, rfl, ha, _, hb2⟩
    have HHA := Lib.hid ha
    clear ha
    go_wp2_with fail
    refine (CL.out _ _ HHA.out (HV1.out.below hb2)).mono ?_
    rintro e w3 ⟨rfl, hb3⟩
    have hbw := hb2.trans (hb3.mono hb2.size)
    obtain ⟨k0, k1, f0, f1, hs3, hbb⟩ := AFT.out _ hbw
    have HBW := Lib.hid hbw
    clear hb2 hb3 HHA hbw
    go_wp2_with fail
    go_loop [5, 6] (fun s i => ∃ k : Nat, k ≤ l.length ∧ i = .int .i64 ((k : Int) - 1) ∧ s = .int .i64 ((val (l.drop k) : Nat) : Int)) (fun _ i => (intOf i + 1).toNat)
    case atStart => exact ⟨l.length, Nat.le_refl _, rfl, by rw [List.drop_eq_nil_of_le (Nat.le_refl _)]; rfl⟩
    case round =>
      obtain ⟨k, hk, rfl, rfl⟩ := hrel
      by_cases h0 : 0 < k
      · obtain ⟨j, rfl⟩ : ∃ j, k = j + 1 := ⟨k - 1, by omega⟩
        have ej : ((↑(j + 1) : Int) - 1) = (j : Int) := by omega
        rw [ej]
        obtain ⟨g, rfl, hg, hc⟩ := HA.out j (by omega)
        have hcell := (HBW.out.cell (p := ⟨g, j, none⟩) hg).trans hc
        have hst := val_drop l j (by omega)
        have hle := val_drop_le l j
        rw [HN.out] at hle
        have hd := getD_lt l HD.out j
        generalize val (l.drop (j + 1)) = q at *
        generalize l.getD j 0 = d at *
        generalize hp : val (l.drop j) = p at *
        have HP := Lib.hid hp
        have hqb : q ≤ 922337203685477580 := by omega
        have hpi : (q : Int) * 10 + (d : Int) = (p : Int) := by omega
        have hsum : (q : Int) * 10 + (d : Int) ≤ 9223372036854775807 := by omega
        clear hc hst hp ej h0
        go_wp2_with fail
        go_round
        case rel => exact ⟨j, by omega, rfl, by rw [HP.out, ← hpi]⟩
        case measure => simp [intOf]
      · obtain rfl : k = 0 := by omega
        rw [List.drop_zero, HN.out]
        have wn : IntKind.i64.wrap (-(n : Int)) = -(n : Int) := IntWalk.i64_in _ (by omega)
        clear h0
        cases below
        all_goals
          go_wp2_with fail
          exact end_dec rfl w3 w.heap.size _ _ k0 k1 rfl rfl ⟨rfl, (hbb.setCell (Nat.le_refl _) _).setCell (Nat.le_refl _) _⟩
end Go.Proofs.YtgfempljihcleaaDoor.Char
