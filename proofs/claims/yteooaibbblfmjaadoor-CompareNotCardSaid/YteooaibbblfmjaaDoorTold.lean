/- The walk of figure's told: the number that the digits ahead of a point, and those behind it, say. -/
import Derived.Test.YteooaibbblfmjaaDoorTake
import Derived.Test.YteooaibbblfmjaaDoorSmall4
namespace Go.Proofs.YteooaibbblfmjaaDoor.Char
open Go.RowKit Go.Lib

theorem decL_take (D : List UInt8) (P : List UInt8) (i : Nat) (h : i < D.length) : decL (P ++ D.take (i + 1)) = decL (P ++ D.take i) * 10 + dval (D.getD i 0) := by
  have hg : D.getD i 0 = D[i] := by simp [List.getD, List.getElem?_eq_getElem h]
  rw [List.take_succ_eq_append_getElem h, ← List.append_assoc, decL_snoc, hg]
theorem digB_le {b : UInt8} (h : digB b = true) : 48 ≤ b.toNat ∧ b.toNat ≤ 57 := by
  unfold digB at h
  rw [Bool.and_eq_true, decide_eq_true_iff, decide_eq_true_iff] at h
  exact h
theorem getD_mem (D : List UInt8) (i : Nat) (h : i < D.length) : D.getD i 0 ∈ D := by
  have hg : D.getD i 0 = D[i] := by simp [List.getD, List.getElem?_eq_getElem h]
  rw [hg]
  exact List.getElem_mem h
/-- what is beyond all numbers stays so, with more digits -/
theorem over_part (A P : List UInt8) (D R : List UInt8) (i : Nat) (hA : A = P ++ D ++ R) (h : 9223372036854775807 < decL (P ++ D.take (i + 1))) : fitD (decL A : Int) = .over := by
  have e : A = P ++ D.take (i + 1) ++ (D.drop (i + 1) ++ R) := by
    rw [hA, List.append_assoc, List.append_assoc, ← List.append_assoc (D.take (i + 1)), List.take_append_drop]
  have hl := decL_le_append (P ++ D.take (i + 1)) (D.drop (i + 1) ++ R)
  rw [← e] at hl
  unfold fitD
  rw [if_pos (by omega)]

set_option maxRecDepth 100000 in
set_option maxHeartbeats 8000000 in
theorem told_any (wd f : List UInt8) (w : World) (hwd : ∀ b ∈ wd, digB b = true) (hf : ∀ b ∈ f, digB b = true) (hwl : wd.length ≤ 500) (hfl : f.length ≤ 500) :
    Calls Tryd.prog 57 #[.string (bs wd), .string (bs f)] w fun e w' => e = .returned (decV (toldD wd f)) ∧ Below w.heap.size w w' := by
  obtain ⟨m, hm⟩ : ∃ m, m = min f.length 6 := ⟨_, rfl⟩
  have hmin : ∀ (ts : Array TypeId) (t : TypeId) wx, (Builtin.min_ ts t #[.int .i64 (f.length : Int), .int .i64 6]).run Tryd.prog wx = .ok (.int .i64 (m : Int)) wx := fun ts t wx => by
    rw [run_min_int2]
    congr 2
    split <;> omega
  obtain ⟨f6, hf6⟩ : ∃ f6, f6 = f.take 6 := ⟨_, rfl⟩
  have h6l : f6.length = m := by rw [hf6, List.length_take]; omega
  have hex : (bs f).extract 0 m = bs f6 := by
    rw [bs_ext, hf6, List.drop_zero, Nat.sub_zero]
    by_cases h : f.length ≤ 6
    · rw [List.take_of_length_le (by omega), List.take_of_length_le h]
    · rw [show m = 6 by omega]
  have hs6 : (bs f6).size = m := by rw [bs_size]; exact h6l
  have hsf : (bs f).size = f.length := bs_size f
  have hsw : (bs wd).size = wd.length := bs_size wd
  have h6d : ∀ b ∈ f6, digB b = true := fun b hb => hf b (by rw [hf6] at hb; exact List.mem_of_mem_take hb)
  have CR := fun W => Lib.hid (rep_nought (6 - m) W (by omega))
  have ecast : ((6 - m : Nat) : Int) = 6 - (m : Int) := by omega
  rw [ecast] at CR
  obtain ⟨z, hz⟩ : ∃ z, z = List.replicate (6 - m) (chr 0) := ⟨_, rfl⟩
  rw [← hz] at CR
  have hzl : z.length = 6 - m := by rw [hz, List.length_replicate]
  have hsz : (bs z).size = z.length := bs_size z
  have hzd : ∀ b ∈ z, digB b = true := fun b hb => by rw [hz] at hb; rw [List.eq_of_mem_replicate hb]; decide
  obtain ⟨X, hX⟩ : ∃ X, toldD wd f = X := ⟨_, rfl⟩
  have hall : allD wd f = wd ++ (f6 ++ z) := by unfold allD; rw [← hf6, h6l, hz]
  rw [hX]
  have hover : ∀ P D R i, allD wd f = P ++ D ++ R → 9223372036854775807 < decL (P ++ D.take (i + 1)) → X = .over := fun P D R i h1 h2 => by rw [← hX]; exact over_part _ P D R i h1 h2
  have hfin : decL (wd ++ (f6 ++ z)) ≤ 9223372036854775807 → X = .num (decL (wd ++ (f6 ++ z)) : Int) := fun h => by
    rw [← hX]
    unfold toldD
    rw [hall, fitD_in _ (by omega)]
  rw [hall] at hover
  have HOV := Lib.hid hover
  have HFI := Lib.hid hfin
  have HWD := Lib.hid hwd
  have H6D := Lib.hid h6d
  have HZD := Lib.hid hzd
  have hmb : m ≤ 6 := by omega
  have hmf : m ≤ f.length := by omega
  obtain ⟨W1, hW1⟩ : ∃ W1, W1 = w.alloc (Obj.cells #[Value.int IntKind.i64 0, Value.int IntKind.i64 0] 24) := ⟨_, rfl⟩
  have hb1 : Below w.heap.size w W1 := by rw [hW1]; exact (Below.refl _ _).alloc (Nat.le_refl _) _
  have aft : ∀ w1, Below W1.heap.size W1 w1 → w1.cell? ⟨w.heap.size, 0, none⟩ = some (.int .i64 0) ∧ w1.cell? ⟨w.heap.size, 1, none⟩ = some (.int .i64 0) ∧ w1.frozen? ⟨w.heap.size, 0, none⟩ = false ∧ w1.frozen? ⟨w.heap.size, 1, none⟩ = false ∧ w.heap.size < w1.heap.size ∧ Below w.heap.size w w1 := fun w1 h => by
    rw [hW1] at h
    exact kept_new w _ _ 24 w1 h
  have AFT := Lib.hid aft
  have HW1 := Lib.hid hW1
  clear hm hf6 h6d hz hzd hX hall hover hfin hwd hf ecast hW1 aft hb1
  go_enter Tryd.func57, Tryd.ntmps57
  go_wp2_with fail
  rw [← HW1.out]
  refine (CR _).out.mono ?_
  rintro e w2 ⟨rfl, hb2⟩
  have hbw := hb2
  obtain ⟨k0, k1, f0, f1, hs2, hbb⟩ := AFT.out _ hb2
  clear hb2 hbw
  go_wp2_with fail
  go_loop [6, 24] (fun v i => ∃ (j n : Nat), i = .int .i64 (j : Int) ∧ v = .int .i64 (n : Int) ∧ j ≤ 3 ∧ n ≤ 9223372036854775807 ∧ Hid (n = decL (([wd, f6, z].take j).flatten))) (fun _ i => 3 - (RowKit.intOf i).toNat)
  case atStart => exact ⟨0, 0, rfl, rfl, by omega, by omega, Lib.hid rfl⟩
  case round =>
    obtain ⟨j, n, rfl, rfl, hj, hn, HN⟩ := hrel
    by_cases hlt : j < 3
    · obtain ⟨D, P, R, hDP⟩ : ∃ D P R : List UInt8, (∀ wx, (Instr.index 128 (.agg #[Value.string (bs wd), Value.string (bs f6), Value.string (bs z)]) (.int .i64 (j : Int))).run Tryd.prog wx = .ok (.string (bs D)) wx) ∧ ([wd, f6, z].take j).flatten = P ∧ wd ++ (f6 ++ z) = P ++ D ++ R ∧ ([wd, f6, z].take (j + 1)).flatten = P ++ D ∧ (∀ b ∈ D, digB b = true) ∧ D.length ≤ 500 := by
        match j, hlt with
        | 0, _ => exact ⟨wd, [], f6 ++ z, fun wx => by simp [Instr.index, run_underlying Tryd.underlying128, asIntOf, go_sem], rfl, rfl, by simp, HWD.out, hwl⟩
        | 1, _ => exact ⟨f6, wd, z, fun wx => by simp [Instr.index, run_underlying Tryd.underlying128, asIntOf, go_sem], by simp, by simp, by simp, H6D.out, by omega⟩
        | 2, _ => exact ⟨z, wd ++ f6, [], fun wx => by simp [Instr.index, run_underlying Tryd.underlying128, asIntOf, go_sem], by simp, by simp, by simp, HZD.out, by omega⟩
      obtain ⟨hidx, hP, hA, hP2, hDd, hDl⟩ := hDP
      have hn0 := HN.out
      rw [hP] at hn0
      have HN0 := Lib.hid hn0
      have HA := Lib.hid hA
      have HP2 := Lib.hid hP2
      have HDd := Lib.hid hDd
      have hsD : (bs D).size = D.length := bs_size D
      have HSD := Lib.hid hsD
      clear hn0 hP hA hP2 hDd HN
      go_wp2_with fail
      go_loop [6, 29] (fun v i => ∃ (i' n : Nat), i = .int .i64 (i' : Int) ∧ v = .int .i64 (n : Int) ∧ i' ≤ D.length ∧ n ≤ 9223372036854775807 ∧ Hid (n = decL (P ++ D.take i'))) (fun _ i => D.length - (RowKit.intOf i).toNat)
      case atStart => exact ⟨0, n, rfl, rfl, by omega, hn, Lib.hid (by simpa using HN0.out)⟩
      case round =>
        clear hn HN0
        obtain ⟨i, n, rfl, rfl, hi, hn, HN⟩ := hrel
        by_cases hli : i < D.length
        · have hli' : i < (bs D).size := by rw [hsD]; exact hli
          have hgt := bs_get D i hli'
          have hdg := digB_le (HDd.out _ (getD_mem D i hli))
          have hst := decL_take D P i hli
          have ⟨d, hd⟩ : ∃ d, d = dval (D.getD i 0) := ⟨_, rfl⟩
          have hdv : (bs D)[i].toNat = 48 + d := by rw [hgt, hd]; unfold dval; omega
          have hd9 : d ≤ 9 := by rw [hd]; unfold dval; omega
          rw [← hd, ← HN.out] at hst
          have hov := HOV.out P D R i HA.out
          rw [hst] at hov
          have HST := Lib.hid hst
          have HOV2 := Lib.hid hov
          clear hgt hdg hst hd hov HN
          by_cases hbig : 9223372036854775807 < n * 10 + d
          · have HXO := Lib.hid (HOV2.out hbig)
            clear HST HOV2
            go_wp2_with fail
            exact end_dec rfl w2 w.heap.size _ _ k0 k1 rfl rfl ⟨by rw [HXO.out]; rfl, (hbb.setCell (Nat.le_refl _) _).setCell (Nat.le_refl _) _⟩
          · clear HOV2
            go_wp2_with fail
            go_round
            case rel => exact ⟨i + 1, n * 10 + d, by go_num, by go_num, by omega, by omega, Lib.hid HST.out.symm⟩
            case measure => simp [RowKit.intOf]; omega
        · have hfull : D.take i = D := List.take_of_length_le (by omega)
          have hn1 := HN.out
          rw [hfull, ← HP2.out] at hn1
          have HN1 := Lib.hid hn1
          clear hfull hn1 HN
          go_wp2_with fail
          go_round
          case rel => exact ⟨j + 1, n, by go_num, rfl, by omega, by omega, HN1⟩
          case measure => simp [RowKit.intOf]; omega
    · have hX := HFI.out
      have hn1 := HN.out
      obtain rfl : j = 3 := by omega
      have e3 : ([wd, f6, z].take 3).flatten = wd ++ (f6 ++ z) := by simp
      rw [e3] at hn1
      rw [← hn1] at hX
      have HXN := Lib.hid (hX hn)
      clear HN hn1 hX e3 HOV HFI
      go_wp2_with fail
      exact end_dec rfl w2 w.heap.size _ _ k0 k1 rfl rfl ⟨by rw [HXN.out]; rfl, (hbb.setCell (Nat.le_refl _) _).setCell (Nat.le_refl _) _⟩
end Go.Proofs.YteooaibbblfmjaaDoor.Char
