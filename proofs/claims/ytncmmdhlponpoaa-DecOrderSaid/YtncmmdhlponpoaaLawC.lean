/- The walks of the laws DecRounds, DecInts. -/
import Derived.Test.YtncmmdhlponpoaaLawB
namespace Go.Proofs.Ytncmmdhlponpoaa.Char
open Go.RowKit

set_option maxRecDepth 100000 in
set_option maxHeartbeats 8000000 in
theorem rounds_law (t v : Int) (w : World) (h : -9223372036854775808 ≤ v ∧ v ≤ 9223372036854775807) :
    Calls Try.prog 6 #[aggV t v] w fun e w' => e = .returned (.bool true) ∧ Below w.heap.size w w' := by
  have ok1 := negD_ok _ (toD_ok t v h)
  have ok2 := floorD_ok _ ok1
  have CN1 := fun W => refNeg_any t v W h
  have CF := fun W => refFloor_any (outT (negD (toD t v))) (outV (negD (toD t v))) W (okD_bounds ok1)
  rw [toD_out _ ok1] at CF
  have CN2 := fun W => refNeg_any (outT (floorD (negD (toD t v)))) (outV (floorD (negD (toD t v)))) W (okD_bounds ok2)
  rw [toD_out _ ok2] at CN2
  have CC := fun W => ceil_any t v W h
  unfold ceilD at CC
  have C1 := fun W => Lib.hid (CN1 W)
  have C2 := fun W => Lib.hid (CF W)
  have C3 := fun W => Lib.hid (CN2 W)
  have C4 := fun W => Lib.hid (whole_any t v W h)
  have C5 := fun W => Lib.hid (refWhole_any t v W h)
  have C6 := fun W => Lib.hid (floor_any t v W h)
  have C7 := fun W => Lib.hid (refFloor_any t v W h)
  have C8 := fun W => Lib.hid (CC W)
  have C9 := fun W => Lib.hid (round_any t v W h)
  have C10 := fun W => Lib.hid (refRound_any t v W h)
  have C11 := fun W => Lib.hid (works_any W)
  clear CN1 CF CN2 CC ok1 ok2 h
  generalize negD (floorD (negD (toD t v))) = X3 at *
  generalize floorD (negD (toD t v)) = X2 at *
  generalize negD (toD t v) = X1 at *
  generalize (wholeD (toD t v)).1 = n at *
  generalize (wholeD (toD t v)).2 = b at *
  generalize floorD (toD t v) = X4 at *
  generalize roundD (toD t v) = X5 at *
  unfold decV at C1 C2 C3 C6 C7 C8 C9 C10
  unfold aggV at C1 C2 C3 C4 C5 C6 C7 C8 C9 C10 ⊢
  go_enter Try.func6, Try.ntmps6
  go_wp2_with fail
  refine (C1 _).out.mono ?_
  rintro e w1 ⟨rfl, h1⟩
  go_wp2_with fail
  refine (C2 _).out.mono ?_
  rintro e w2 ⟨rfl, h2⟩
  go_wp2_with fail
  refine (C3 _).out.mono ?_
  rintro e w3 ⟨rfl, h3⟩
  obtain ⟨a0, a1, hs3, hb3⟩ := kept_one w _ _ 23 w3 (h1.trans ((h2.trans (h3.mono h2.size)).mono h1.size))
  clear C1 C2 C3 h1 h2 h3
  go_wp2_with fail
  refine (C4 _).out.mono ?_
  rintro e w4 ⟨rfl, h4⟩
  obtain ⟨x0, x1, _, _, hs4, hb4⟩ := kept_new w3 _ _ 23 w4 h4
  have a0 := (hb4.cell (p := ⟨w.heap.size, 0, none⟩) hs3).trans a0
  have a1 := (hb4.cell (p := ⟨w.heap.size, 1, none⟩) hs3).trans a1
  go_wp2_with fail
  refine (C5 _).out.mono ?_
  rintro e W0 ⟨rfl, h5⟩
  have hs30 : w.heap.size < w4.heap.size := Nat.lt_of_lt_of_le hs3 hb4.size
  have a0 := (h5.cell (p := ⟨w.heap.size, 0, none⟩) hs30).trans a0
  have a1 := (h5.cell (p := ⟨w.heap.size, 1, none⟩) hs30).trans a1
  have x0 := (h5.cell (p := ⟨w3.heap.size, 0, none⟩) hs4).trans x0
  have x1 := (h5.cell (p := ⟨w3.heap.size, 1, none⟩) hs4).trans x1
  have hs5 := h5.size
  have hbw : Below w.heap.size w W0 := hb3.trans ((hb4.trans (h5.mono hb4.size)).mono hb3.size)
  have A0 : ∀ q : KeptT W0, q.at.cell? ⟨w.heap.size, 0, none⟩ = some (.int .i64 t) := fun q => q.cell a0 (by omega)
  have A1 : ∀ q : KeptT W0, q.at.cell? ⟨w.heap.size, 1, none⟩ = some (.int .i64 v) := fun q => q.cell a1 (by omega)
  have B0 : ∀ q : KeptT W0, q.at.cell? ⟨w3.heap.size, 0, none⟩ = some (.int .i64 (outT X3)) := fun q => q.cell x0 (by omega)
  have B1 : ∀ q : KeptT W0, q.at.cell? ⟨w3.heap.size, 1, none⟩ = some (.int .i64 (outV X3)) := fun q => q.cell x1 (by omega)
  have OK : Hid (∀ q : KeptT W0, Below w.heap.size w q.at) := Lib.hid (fun q => hbw.trans (q.ok.mono hbw.size))
  clear a0 a1 x0 x1 hbw h4 h5 hb4 hb3 C4 C5
  haveI : Nonempty (KeptT W0) := ⟨⟨W0, Below.refl _ _⟩⟩
  go_wp2_with fail
  refine wp_region_kept (KeptT W0) KeptT.at (by kernel_rfl) (by kernel_rfl) ⟨⟨W0.drew, (Below.refl _ _).drew⟩, rfl⟩ ?_
  repeat (go_big_quiet_step (first
    | (go_at_call 31; rename_i q; with_reducible exact (C6 q.at).out.mono (fun e w' h => ⟨h.1, q.on h.2⟩))
    | (go_at_call 28; rename_i q; with_reducible exact (C7 q.at).out.mono (fun e w' h => ⟨h.1, q.on h.2⟩))
    | (go_at_call 32; rename_i q; with_reducible exact (C8 q.at).out.mono (fun e w' h => ⟨h.1, q.on h.2⟩))
    | (go_at_call 33; rename_i q; with_reducible exact (C9 q.at).out.mono (fun e w' h => ⟨h.1, q.on h.2⟩))
    | (go_at_call 34; rename_i q; with_reducible exact (C10 q.at).out.mono (fun e w' h => ⟨h.1, q.on h.2⟩))
    | (go_at_call 19; rename_i q; with_reducible exact (C11 q.at).out.mono (fun e w' h => ⟨h.1, q.on h.2⟩))))
  refine wpQuiet_nil ?_
  rintro w' ⟨q, rfl⟩
  go_wp2_with fail
  go_ret
  exact ⟨rfl, OK.out q⟩

theorem int_cases (n : Int) : (intD n = .num (n * 1000000) ∧ wholeD (intD n) = (n, true)) ∨ ((intD n = .over ∨ intD n = .under) ∧ wholeD (intD n) = (0, false)) := by
  unfold intD fitD
  by_cases h1 : 9223372036854775807 < n * 1000000
  · rw [if_pos h1]; exact .inr ⟨.inl rfl, rfl⟩
  · by_cases h2 : n * 1000000 < -9223372036854775807
    · rw [if_neg h1, if_pos h2]; exact .inr ⟨.inr rfl, rfl⟩
    · rw [if_neg h1, if_neg h2]
      refine .inl ⟨rfl, ?_⟩
      show (if n * 1000000 % 1000000 = 0 then _ else _) = _
      rw [if_pos (by omega)]
      congr 1
      omega

set_option maxRecDepth 100000 in
set_option maxHeartbeats 8000000 in
theorem ints_law (n : Int) (w : World) (h : -9223372036854775808 ≤ n ∧ n ≤ 9223372036854775807) :
    Calls Try.prog 7 #[.int .i64 n] w fun e w' => e = .returned (.bool true) ∧ Below w.heap.size w w' := by
  have C1 := fun W => Lib.hid (int_any n W h)
  have okI : okD (intD n) := fitD_ok _
  have CW := fun W => whole_any (outT (intD n)) (outV (intD n)) W (okD_bounds okI)
  rw [toD_out _ okI] at CW
  have C2 := fun W => Lib.hid (CW W)
  have C3 := fun W => Lib.hid (refInt_any n W h)
  have C4 := fun W => Lib.hid (works_any W)
  have hc := int_cases n
  have key : ∃ (T V m : Int) (b : Bool), outT (intD n) = T ∧ outV (intD n) = V ∧ (wholeD (intD n)).1 = m ∧ (wholeD (intD n)).2 = b ∧ ((T = 0 ∧ b = true ∧ m = n) ∨ ((T == 0) = false ∧ b = false)) := by
    refine ⟨_, _, _, _, rfl, rfl, rfl, rfl, ?_⟩
    rcases hc with ⟨e, ew⟩ | ⟨e, ew⟩
    · rw [ew, e]; exact .inl ⟨rfl, rfl, rfl⟩
    · rw [ew]
      rcases e with e | e <;> rw [e] <;> exact .inr ⟨rfl, rfl⟩
  obtain ⟨T, V, m, b, eT, eV, em, eb, hk⟩ := key
  unfold decV at C1 C3
  unfold aggV at C2
  rw [eT, eV] at C1 C2 C3
  rw [em, eb] at C2
  clear CW okI h hc eT eV em eb
  rcases hk with ⟨rfl, rfl, rfl⟩ | ⟨hT, rfl⟩
  all_goals
    go_enter Try.func7, Try.ntmps7
    go_wp2_with fail
    refine (C1 _).out.mono ?_
    rintro e w1 ⟨rfl, h1⟩
    go_wp2_with fail
    refine (C2 _).out.mono ?_
    rintro e W0 ⟨rfl, h2⟩
    obtain ⟨a0, a1, _, _, hs2, hb2⟩ := kept_new w1 _ _ 23 W0 h2
    have A0 : ∀ q : KeptT W0, q.at.cell? ⟨w1.heap.size, 0, none⟩ = _ := fun q => q.cell a0 (by omega)
    have A1 : ∀ q : KeptT W0, q.at.cell? ⟨w1.heap.size, 1, none⟩ = _ := fun q => q.cell a1 (by omega)
    have hbw : Below w.heap.size w W0 := h1.trans (hb2.mono h1.size)
    have OK : Hid (∀ q : KeptT W0, Below w.heap.size w q.at) := Lib.hid (fun q => hbw.trans (q.ok.mono hbw.size))
    clear a0 a1 hbw h1 h2 hb2 C1 C2
    haveI : Nonempty (KeptT W0) := ⟨⟨W0, Below.refl _ _⟩⟩
    go_wp2_with fail
    refine wp_region_kept (KeptT W0) KeptT.at (by kernel_rfl) (by kernel_rfl) ⟨⟨W0.drew, (Below.refl _ _).drew⟩, rfl⟩ ?_
    repeat (go_big_quiet_step (first
      | (go_at_call 36; rename_i q; with_reducible exact (C3 q.at).out.mono (fun e w' h => ⟨h.1, q.on h.2⟩))
      | (go_at_call 19; rename_i q; with_reducible exact (C4 q.at).out.mono (fun e w' h => ⟨h.1, q.on h.2⟩))))
    refine wpQuiet_nil ?_
    rintro w' ⟨q, rfl⟩
    go_wp2_with fail
    go_ret
    exact ⟨rfl, OK.out q⟩
end Go.Proofs.Ytncmmdhlponpoaa.Char
