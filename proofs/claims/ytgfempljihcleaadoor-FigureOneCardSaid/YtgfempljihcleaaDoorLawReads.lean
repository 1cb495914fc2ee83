/- The walks of the laws FigureReads, FigureBack. -/
import Derived.Test.YtgfempljihcleaaDoorLaws4
namespace Go.Proofs.YtgfempljihcleaaDoor.Char
open Go.RowKit Go.Lib

theorem tx_len (n k : Nat) (h : n < 10 ^ (k + 1)) : (tx n).length ≤ k + 1 := by
  rw [tx_step, List.length_append, List.length_singleton, txs_lo, lo_length]
  have : (dg (n / 10)).length ≤ k := dg_len_le _ k (by rw [Nat.div_lt_iff_lt_mul (by omega), ← Nat.pow_succ]; exact h)
  omega
theorem show_len : ∀ x : Nm, okD x → (showB x).length ≤ 30
  | .nan, _ => by decide
  | .over, _ => by decide
  | .under, _ => by decide
  | .num n, h => by
    have hb : -9223372036854775807 ≤ n ∧ n ≤ 9223372036854775807 := h
    show (showN n).length ≤ 30
    unfold showN bodyB
    have h1 := (fr_pad 6 n.natAbs).1
    have h2 := tx_len (n.natAbs / 10 ^ 6) 12 (by omega)
    generalize fr 6 n.natAbs = F at *
    rw [List.length_append, List.length_append]
    have h3 : (if n < 0 then ([45] : List UInt8) else []).length ≤ 1 := by split <;> simp
    have h4 : (if F = [] then ([] : List UInt8) else 46 :: F).length ≤ 7 := by
      split
      · simp
      · rw [List.length_cons]; omega
    omega

set_option maxRecDepth 100000 in
set_option maxHeartbeats 8000000 in
theorem reads_law (s : ByteArray) (w : World) (hT : Tabs w) :
    Calls Tryd.prog 4 #[.string s] w fun e w' => e = .returned (.bool true) ∧ Below w.heap.size w w' := by
  have C0 := fun W hW => Lib.hid (works_any W hW)
  have HT := Lib.hid hT
  clear hT
  by_cases hs : 500 < s.size
  · go_enter Tryd.func4, Tryd.ntmps4
    go_wp2_with fail
    refine (C0 _ HT.out).out.mono ?_
    rintro e w1 ⟨rfl, h1⟩
    go_wp2_with fail
    go_ret
    exact ⟨rfl, h1⟩
  · have hs' : s.data.toList.length ≤ 500 := by rw [← size_eq]; omega
    have L1 := fun W => lit_any s.data.toList W hs'
    have L2 := fun W => refLit_any s.data.toList W hs'
    have R1 := fun W hW => read_any s.data.toList W hs' hW
    have R2 := fun W => refRead_any s.data.toList W hs'
    generalize litX (litL s.data.toList) = Y at L1 L2
    generalize (litL s.data.toList).isSome = S at L1 L2
    generalize readD s.data.toList = X at R1 R2
    rw [bs_of] at L1 L2 R1 R2
    unfold decV at L1 L2 R1 R2
    have C1 := fun W => Lib.hid (L1 W)
    have C2 := fun W => Lib.hid (L2 W)
    have C3 := fun W hW => Lib.hid (R1 W hW)
    have C4 := fun W => Lib.hid (R2 W)
    clear L1 L2 R1 R2 hs'
    go_enter Tryd.func4, Tryd.ntmps4
    go_wp2_with fail
    refine (C1 _).out.mono ?_
    rintro e w1 ⟨rfl, h1⟩
    go_wp2_with fail
    refine (C2 _).out.mono ?_
    rintro e w2 ⟨rfl, h2⟩
    obtain ⟨a0, a1, b0, b1, hs2, hb2⟩ := kept_new w1 _ _ 23 w2 h2
    have hbw := h1.trans (hb2.mono h1.size)
    clear h1 h2 hb2
    go_wp2_with fail
    refine (C3 _ (HT.out.below (hbw.alloc hbw.size _))).out.mono ?_
    rintro e w3 ⟨rfl, h3⟩
    obtain ⟨c0, c1, d0, d1, hs3, hb3⟩ := kept_new w2 _ _ 23 w3 h3
    obtain ⟨a2, a3, b2, b3, hs4, _⟩ := kept_past w2 w3 _ _ _ _ hs2 a0 a1 b0 b1 h3
    have hbw3 := hbw.trans (hb3.mono hbw.size)
    clear h3 a0 a1 b0 b1 hb3 hbw
    go_wp2_with fail
    refine (C4 _).out.mono ?_
    rintro e w4 ⟨rfl, h4⟩
    have e0 := (h4.cell (p := ⟨w1.heap.size, 0, none⟩) hs4).trans a2
    have e1 := (h4.cell (p := ⟨w1.heap.size, 1, none⟩) hs4).trans a3
    have e2 := (h4.cell (p := ⟨w2.heap.size, 0, none⟩) hs3).trans c0
    have e3 := (h4.cell (p := ⟨w2.heap.size, 1, none⟩) hs3).trans c1
    have hbw4 := hbw3.trans (h4.mono hbw3.size)
    clear h4 a2 a3 b2 b3 c0 c1 d0 d1 hbw3
    go_wp2_with fail
    refine (C0 _ (HT.out.below hbw4)).out.mono ?_
    rintro e w5 ⟨rfl, h5⟩
    go_wp2_with fail
    go_ret
    exact ⟨rfl, hbw4.trans (h5.mono hbw4.size)⟩

set_option maxRecDepth 100000 in
set_option maxHeartbeats 8000000 in
theorem back_law (t v : Int) (w : World) (h : -9223372036854775808 ≤ v ∧ v ≤ 9223372036854775807) (hT : Tabs w) :
    Calls Tryd.prog 5 #[aggV t v] w fun e w' => e = .returned (.bool true) ∧ Below w.heap.size w w' := by
  have hok := toD_ok t v h
  have hrs := read_show (toD t v) hok
  have hlen := show_len (toD t v) hok
  have C1' := fun W => show_any t v W h
  generalize showB (toD t v) = B at C1' hrs hlen
  have C2' := fun W hW => read_any B W (by omega) hW
  rw [hrs] at C2'
  have C3' := fun W => right_any t v W
  have C4 := fun W hW => Lib.hid (works_any W hW)
  have C1 := fun W => Lib.hid (C1' W)
  obtain ⟨W0, hW0⟩ : ∃ W0, W0 = w.alloc (Obj.cells #[Value.int IntKind.i64 t, Value.int IntKind.i64 v] 23) := ⟨_, rfl⟩
  have aft : ∀ w1, Below W0.heap.size W0 w1 → w1.cell? ⟨w.heap.size, 0, none⟩ = some (.int .i64 t) ∧ w1.cell? ⟨w.heap.size, 1, none⟩ = some (.int .i64 v) ∧ w1.frozen? ⟨w.heap.size, 0, none⟩ = false ∧ w1.frozen? ⟨w.heap.size, 1, none⟩ = false ∧ w.heap.size < w1.heap.size ∧ Below w.heap.size w w1 := fun w1 h => by
    rw [hW0] at h
    exact kept_new w _ _ 23 w1 h
  have AFT := Lib.hid aft
  have HW0 := Lib.hid hW0
  have HT := Lib.hid hT
  clear hW0 aft hT hok hrs hlen C1'
  unfold aggV at C1 C3' ⊢
  rcases toD_cases t v with ⟨rfl, h2, e, er⟩ | ⟨rfl, rfl, e, er⟩ | ⟨rfl, rfl, e, er⟩ | ⟨rfl, rfl, e, er⟩ | ⟨_, _, _, _, e, er⟩
  all_goals
    rw [e] at C2'
    rw [er] at C3'
    have C2 := fun W hW => Lib.hid (C2' W hW)
    have C3 := fun W => Lib.hid (C3' W)
    unfold decV outT outV at C2
    simp only at C2
    clear C2' C3' e er h
    go_enter Tryd.func5, Tryd.ntmps5
    go_wp2_with fail
    rw [← HW0.out]
    refine (C1 _).out.mono ?_
    rintro e w1 ⟨rfl, h1⟩
    have hb1 := (AFT.out _ h1).2.2.2.2.2
    go_wp2_with fail
    refine (C2 _ (HT.out.below hb1)).out.mono ?_
    rintro e w2 ⟨rfl, h2⟩
    obtain ⟨a0, a1, b0, b1, hs2, hbb⟩ := AFT.out _ (h1.trans (h2.mono h1.size))
    clear h1 h2 hb1
    go_wp2_with fail
    refine (C3 _).out.mono ?_
    rintro e w3 ⟨rfl, h3⟩
    obtain ⟨c0, c1, d0, d1, hs3, hb3⟩ := kept_new w2 _ _ 23 w3 h3
    obtain ⟨a2, a3, b2, b3, hs4, _⟩ := kept_past w2 w3 _ _ _ _ hs2 a0 a1 b0 b1 h3
    have hbw3 := hbb.trans (hb3.mono hbb.size)
    clear h3 a0 a1 b0 b1 hb3 hbb
    go_wp2_with fail
    refine (C4 _ (HT.out.below hbw3)).out.mono ?_
    rintro e w4 ⟨rfl, h4⟩
    go_wp2_with fail
    go_ret
    exact ⟨rfl, hbw3.trans (h4.mono hbw3.size)⟩
end Go.Proofs.YtgfempljihcleaaDoor.Char
