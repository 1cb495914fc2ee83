/- The walk of the law FigureOne. -/
import Derived.Test.YtgfempljihcleaaDoorLawAgain
namespace Go.Proofs.YtgfempljihcleaaDoor.Char
open Go.RowKit Go.Lib

/-- two pairs of cells at the heap's end, and what they read -/
def Two (w : World) (x0 x1 y0 y1 : Value) (W : World) : Prop :=
  W.cell? ⟨w.heap.size, 0, none⟩ = some x0 ∧ W.cell? ⟨w.heap.size, 1, none⟩ = some x1 ∧ W.cell? ⟨w.heap.size + 1, 0, none⟩ = some y0 ∧ W.cell? ⟨w.heap.size + 1, 1, none⟩ = some y1 ∧
  W.frozen? ⟨w.heap.size, 0, none⟩ = false ∧ W.frozen? ⟨w.heap.size, 1, none⟩ = false ∧ W.frozen? ⟨w.heap.size + 1, 0, none⟩ = false ∧ W.frozen? ⟨w.heap.size + 1, 1, none⟩ = false ∧ w.heap.size + 1 < W.heap.size ∧ Below w.heap.size w W
theorem Two.trans {w W W' : World} {x0 x1 y0 y1 : Value} (h : Two w x0 x1 y0 y1 W) (hb : Below W.heap.size W W') : Two w x0 x1 y0 y1 W' := by
  obtain ⟨a0, a1, b0, b1, f0, f1, g0, g1, hs, hbw⟩ := h
  have hs0 : w.heap.size < W.heap.size := by omega
  exact ⟨(hb.cell (p := ⟨w.heap.size, 0, none⟩) hs0).trans a0, (hb.cell (p := ⟨w.heap.size, 1, none⟩) hs0).trans a1, (hb.cell (p := ⟨w.heap.size + 1, 0, none⟩) hs).trans b0, (hb.cell (p := ⟨w.heap.size + 1, 1, none⟩) hs).trans b1,
    (hb.frozen (p := ⟨w.heap.size, 0, none⟩) hs0).trans f0, (hb.frozen (p := ⟨w.heap.size, 1, none⟩) hs0).trans f1, (hb.frozen (p := ⟨w.heap.size + 1, 0, none⟩) hs).trans g0, (hb.frozen (p := ⟨w.heap.size + 1, 1, none⟩) hs).trans g1,
    Nat.lt_of_lt_of_le hs hb.size, hbw.trans (hb.mono hbw.size)⟩
theorem Two.first {w W : World} {x0 x1 y0 y1 : Value} (h : Two w x0 x1 y0 y1 W) (u v : Value) : Two w u v y0 y1 ((W.setCell ⟨w.heap.size, 0, none⟩ u).setCell ⟨w.heap.size, 1, none⟩ v) := by
  obtain ⟨a0, a1, b0, b1, f0, f1, g0, g1, hs, hbw⟩ := h
  refine ⟨?_, ?_, ?_, ?_, ?_, ?_, ?_, ?_, by simpa using hs, (hbw.setCell (Nat.le_refl _) _).setCell (Nat.le_refl _) _⟩
  all_goals go_simp
theorem Two.second {w W : World} {x0 x1 y0 y1 : Value} (h : Two w x0 x1 y0 y1 W) (u v : Value) : Two w x0 x1 u v ((W.setCell ⟨w.heap.size + 1, 0, none⟩ u).setCell ⟨w.heap.size + 1, 1, none⟩ v) := by
  obtain ⟨a0, a1, b0, b1, f0, f1, g0, g1, hs, hbw⟩ := h
  refine ⟨?_, ?_, ?_, ?_, ?_, ?_, ?_, ?_, by simpa using hs, (hbw.setCell (by show w.heap.size ≤ w.heap.size + 1; omega) _).setCell (by show w.heap.size ≤ w.heap.size + 1; omega) _⟩
  all_goals go_simp

set_option maxRecDepth 100000 in
set_option maxHeartbeats 8000000 in
theorem one_law (t1 v1 t2 v2 : Int) (w : World) (h1 : -9223372036854775808 ≤ v1 ∧ v1 ≤ 9223372036854775807) (h2 : -9223372036854775808 ≤ v2 ∧ v2 ≤ 9223372036854775807) (hT : Tabs w) :
    Calls Tryd.prog 7 #[aggV t1 v1, aggV t2 v2] w fun e w' => e = .returned (.bool true) ∧ Below w.heap.size w w' := by
  have hx := toD_ok t1 v1 h1
  have hy := toD_ok t2 v2 h2
  have D1' := fun W => right_any t1 v1 W
  have D2' := fun W => right_any t2 v2 W
  have bk1 := toD_back t1 v1
  have bk2 := toD_back t2 v2
  have wr1 := toD_wrong t1 v1
  have wr2 := toD_wrong t2 v2
  have S1' := fun W => show_any (outT (toD t1 v1)) (outV (toD t1 v1)) W (okD_bounds hx)
  have S2' := fun W => show_any (outT (toD t2 v2)) (outV (toD t2 v2)) W (okD_bounds hy)
  rw [toD_out _ hx] at S1'
  rw [toD_out _ hy] at S2'
  have hin := show_inj (toD t1 v1) (toD t2 v2) hx hy
  have hsm : outT (toD t1 v1) = outT (toD t2 v2) → outV (toD t1 v1) = outV (toD t2 v2) → toD t1 v1 = toD t2 v2 := fun e1 e2 => by rw [← toD_out _ hx, ← toD_out _ hy, e1, e2]
  have C4 := fun W hW => Lib.hid (works_any W hW)
  have hw1 : rightB t1 v1 = false → outT (toD t1 v1) = 1 ∧ outV (toD t1 v1) = 0 := fun h => by rw [wr1 h]; exact ⟨rfl, rfl⟩
  have hw2 : rightB t2 v2 = false → outT (toD t2 v2) = 1 ∧ outV (toD t2 v2) = 0 := fun h => by rw [wr2 h]; exact ⟨rfl, rfl⟩
  have hsame : (outT (toD t1 v1) = outT (toD t2 v2) ∧ outV (toD t1 v1) = outV (toD t2 v2) ∧ bs (showB (toD t1 v1)) = bs (showB (toD t2 v2))) ∨
      (((bs (showB (toD t1 v1))).toList == (bs (showB (toD t2 v2))).toList) = false ∧ ((outT (toD t1 v1) == outT (toD t2 v2)) = false ∨ (outT (toD t1 v1) = outT (toD t2 v2) ∧ (outV (toD t1 v1) == outV (toD t2 v2)) = false))) := by
    by_cases he : showB (toD t1 v1) = showB (toD t2 v2)
    · exact .inl ⟨(hin he).1, (hin he).2, by rw [he]⟩
    · refine .inr ⟨by rw [beq_eq_false_iff_ne, tl, tl]; exact he, ?_⟩
      by_cases ht : outT (toD t1 v1) = outT (toD t2 v2)
      · refine .inr ⟨ht, ?_⟩
        rw [beq_eq_false_iff_ne]
        intro hv
        exact he (by rw [hsm ht hv])
      · exact .inl (by rw [beq_eq_false_iff_ne]; exact ht)
  generalize outT (toD t1 v1) = T1 at *
  generalize outV (toD t1 v1) = V1 at *
  generalize outT (toD t2 v2) = T2 at *
  generalize outV (toD t2 v2) = V2 at *
  generalize bs (showB (toD t1 v1)) = P1 at *
  generalize bs (showB (toD t2 v2)) = P2 at *
  have HSAME := Lib.hid hsame
  unfold aggV at S1' S2' D1' D2' ⊢
  obtain ⟨W0, hW0⟩ : ∃ W0, W0 = (w.alloc (Obj.cells #[Value.int IntKind.i64 t1, Value.int IntKind.i64 v1] 23)).alloc (Obj.cells #[Value.int IntKind.i64 t2, Value.int IntKind.i64 v2] 23) := ⟨_, rfl⟩
  have F0 : Two w (.int .i64 t1) (.int .i64 v1) (.int .i64 t2) (.int .i64 v2) W0 := by
    rw [hW0]
    refine ⟨?_, ?_, ?_, ?_, ?_, ?_, ?_, ?_, by simp, ((Below.refl _ _).alloc (Nat.le_refl _) _).alloc (by simp) _⟩
    all_goals go_simp
  have HW0 := Lib.hid hW0
  have HT := Lib.hid hT
  have S1 := fun W => Lib.hid (S1' W)
  have S2 := fun W => Lib.hid (S2' W)
  clear hW0 hT hx hy S1' S2' hin hsm hsame wr1 wr2 h1 h2
  cases hr1 : rightB t1 v1 with
  | true =>
    rw [hr1] at D1'
    have D1 := fun W => Lib.hid (D1' W)
    obtain ⟨rfl, rfl⟩ := bk1 hr1
    clear D1' bk1 hw1 hr1
    cases hr2 : rightB t2 v2 with
    | true =>
      rw [hr2] at D2'
      have D2 := fun W => Lib.hid (D2' W)
      obtain ⟨rfl, rfl⟩ := bk2 hr2
      clear D2' bk2 hw2 hr2
      go_enter Tryd.func7, Tryd.ntmps7
      go_wp2_with fail
      rw [← HW0.out]
      refine (D1 _).out.mono ?_
      rintro e w1 ⟨rfl, h1⟩
      have F1 := F0.trans h1
      clear F0 h1
      obtain ⟨a0, a1, b0, b1, f0, f1, g0, g1, hs, hbw⟩ := F1
      have F1 : Two w _ _ _ _ w1 := ⟨a0, a1, b0, b1, f0, f1, g0, g1, hs, hbw⟩
      go_wp2_with fail
      clear a0 a1 b0 b1 f0 f1 g0 g1 hs hbw
      refine (D2 _).out.mono ?_
      rintro e w2 ⟨rfl, h2⟩
      have F2 := F1.trans h2
      clear F1 h2
      obtain ⟨a0, a1, b0, b1, f0, f1, g0, g1, hs, hbw⟩ := F2
      obtain ⟨Wr, rfl⟩ : ∃ Wr : World, Wr = w2 := ⟨_, rfl⟩
      go_wp2_with fail
      have A0 := fun q : KeptT Wr => q.cell a0 (by omega)
      have A1 := fun q : KeptT Wr => q.cell a1 (by omega)
      have B0 := fun q : KeptT Wr => q.cell b0 (by omega)
      have B1 := fun q : KeptT Wr => q.cell b1 (by omega)
      have OK : Hid (∀ q : KeptT Wr, Below w.heap.size w q.at) := Lib.hid (fun q => hbw.trans (q.ok.mono hbw.size))
      clear a0 a1 b0 b1 f0 f1 g0 g1 hs hbw
      haveI : Nonempty (KeptT Wr) := ⟨⟨Wr, Below.refl _ _⟩⟩
      rcases HSAME.out with ⟨rfl, rfl, rfl⟩ | ⟨hB, hTV⟩
      · clear HSAME
        refine wp_region_kept (KeptT Wr) KeptT.at (by kernel_rfl) (by kernel_rfl) ⟨⟨Wr.drew, (Below.refl _ _).drew⟩, rfl⟩ ?_
        repeat (go_big_quiet_step (first
          | (go_at_call 8; rename_i q; with_reducible exact (S1 q.at).out.mono (fun e w' h => ⟨h.1, q.on h.2⟩))
          | (go_at_call 10; rename_i q; with_reducible exact (C4 q.at (HT.out.below (OK.out q))).out.mono (fun e w' h => ⟨h.1, q.on h.2⟩))))
        refine wpQuiet_nil ?_
        rintro w' ⟨q, rfl⟩
        go_wp2_with fail
        go_ret
        exact ⟨rfl, OK.out q⟩
      · clear HSAME
        rcases hTV with hTV | ⟨rfl, hTV⟩
        all_goals
          refine wp_region_kept (KeptT Wr) KeptT.at (by kernel_rfl) (by kernel_rfl) ⟨⟨Wr.drew, (Below.refl _ _).drew⟩, rfl⟩ ?_
          repeat (go_big_quiet_step (first
            | (go_at_call 8; rename_i q; with_reducible exact (S1 q.at).out.mono (fun e w' h => ⟨h.1, q.on h.2⟩))
            | (go_at_call 8; rename_i q; with_reducible exact (S2 q.at).out.mono (fun e w' h => ⟨h.1, q.on h.2⟩))
            | (go_at_call 10; rename_i q; with_reducible exact (C4 q.at (HT.out.below (OK.out q))).out.mono (fun e w' h => ⟨h.1, q.on h.2⟩))))
          refine wpQuiet_nil ?_
          rintro w' ⟨q, rfl⟩
          go_wp2_with fail
          go_ret
          exact ⟨rfl, OK.out q⟩
    | false =>
      rw [hr2] at D2'
      have D2 := fun W => Lib.hid (D2' W)
      have HE2 := Lib.hid (hw2 hr2)
      clear D2' bk2 hw2 hr2
      go_enter Tryd.func7, Tryd.ntmps7
      go_wp2_with fail
      rw [← HW0.out]
      refine (D1 _).out.mono ?_
      rintro e w1 ⟨rfl, h1⟩
      have F1 := F0.trans h1
      clear F0 h1
      obtain ⟨a0, a1, b0, b1, f0, f1, g0, g1, hs, hbw⟩ := F1
      have F1 : Two w _ _ _ _ w1 := ⟨a0, a1, b0, b1, f0, f1, g0, g1, hs, hbw⟩
      go_wp2_with fail
      clear a0 a1 b0 b1 f0 f1 g0 g1 hs hbw
      refine (D2 _).out.mono ?_
      rintro e w2 ⟨rfl, h2⟩
      have F2 := F1.trans h2
      clear F1 h2
      have F3 : Two w (.int .i64 t1) (.int .i64 v1) (.int .i64 T2) (.int .i64 V2) ((w2.setCell ⟨w.heap.size + 1, 0, none⟩ (.int .i64 1)).setCell ⟨w.heap.size + 1, 1, none⟩ (.int .i64 0)) := by rw [HE2.out.1, HE2.out.2]; exact F2.second (.int .i64 1) (.int .i64 0)
      obtain ⟨a0, a1, b0, b1, f0, f1, g0, g1, hs, hbw⟩ := F2
      have hs0 : w.heap.size < w2.heap.size := by omega
      go_wp2_with fail
      obtain ⟨Wr, hWr⟩ : ∃ Wr, Wr = (w2.setCell ⟨w.heap.size + 1, 0, none⟩ (.int .i64 1)).setCell ⟨w.heap.size + 1, 1, none⟩ (.int .i64 0) := ⟨_, rfl⟩
      rw [← hWr] at F3 ⊢
      clear a0 a1 b0 b1 f0 f1 g0 g1 hs hbw hWr hs0
      obtain ⟨a0, a1, b0, b1, f0, f1, g0, g1, hs, hbw⟩ := F3
      have A0 := fun q : KeptT Wr => q.cell a0 (by omega)
      have A1 := fun q : KeptT Wr => q.cell a1 (by omega)
      have B0 := fun q : KeptT Wr => q.cell b0 (by omega)
      have B1 := fun q : KeptT Wr => q.cell b1 (by omega)
      have OK : Hid (∀ q : KeptT Wr, Below w.heap.size w q.at) := Lib.hid (fun q => hbw.trans (q.ok.mono hbw.size))
      clear a0 a1 b0 b1 f0 f1 g0 g1 hs hbw
      haveI : Nonempty (KeptT Wr) := ⟨⟨Wr, Below.refl _ _⟩⟩
      rcases HSAME.out with ⟨rfl, rfl, rfl⟩ | ⟨hB, hTV⟩
      · clear HSAME
        refine wp_region_kept (KeptT Wr) KeptT.at (by kernel_rfl) (by kernel_rfl) ⟨⟨Wr.drew, (Below.refl _ _).drew⟩, rfl⟩ ?_
        repeat (go_big_quiet_step (first
          | (go_at_call 8; rename_i q; with_reducible exact (S1 q.at).out.mono (fun e w' h => ⟨h.1, q.on h.2⟩))
          | (go_at_call 10; rename_i q; with_reducible exact (C4 q.at (HT.out.below (OK.out q))).out.mono (fun e w' h => ⟨h.1, q.on h.2⟩))))
        refine wpQuiet_nil ?_
        rintro w' ⟨q, rfl⟩
        go_wp2_with fail
        go_ret
        exact ⟨rfl, OK.out q⟩
      · clear HSAME
        rcases hTV with hTV | ⟨rfl, hTV⟩
        all_goals
          refine wp_region_kept (KeptT Wr) KeptT.at (by kernel_rfl) (by kernel_rfl) ⟨⟨Wr.drew, (Below.refl _ _).drew⟩, rfl⟩ ?_
          repeat (go_big_quiet_step (first
            | (go_at_call 8; rename_i q; with_reducible exact (S1 q.at).out.mono (fun e w' h => ⟨h.1, q.on h.2⟩))
            | (go_at_call 8; rename_i q; with_reducible exact (S2 q.at).out.mono (fun e w' h => ⟨h.1, q.on h.2⟩))
            | (go_at_call 10; rename_i q; with_reducible exact (C4 q.at (HT.out.below (OK.out q))).out.mono (fun e w' h => ⟨h.1, q.on h.2⟩))))
          refine wpQuiet_nil ?_
          rintro w' ⟨q, rfl⟩
          go_wp2_with fail
          go_ret
          exact ⟨rfl, OK.out q⟩
  | false =>
    rw [hr1] at D1'
    have D1 := fun W => Lib.hid (D1' W)
    have HE1 := Lib.hid (hw1 hr1)
    clear D1' bk1 hw1 hr1
    cases hr2 : rightB t2 v2 with
    | true =>
      rw [hr2] at D2'
      have D2 := fun W => Lib.hid (D2' W)
      obtain ⟨rfl, rfl⟩ := bk2 hr2
      clear D2' bk2 hw2 hr2
      go_enter Tryd.func7, Tryd.ntmps7
      go_wp2_with fail
      rw [← HW0.out]
      refine (D1 _).out.mono ?_
      rintro e w0 ⟨rfl, h1⟩
      have G0 := F0.trans h1
      clear F0 h1
      have G1 : Two w (.int .i64 T1) (.int .i64 V1) (.int .i64 t2) (.int .i64 v2) ((w0.setCell ⟨w.heap.size, 0, none⟩ (.int .i64 1)).setCell ⟨w.heap.size, 1, none⟩ (.int .i64 0)) := by rw [HE1.out.1, HE1.out.2]; exact G0.first (.int .i64 1) (.int .i64 0)
      obtain ⟨a0, a1, b0, b1, f0, f1, g0, g1, hs, hbw⟩ := G0
      have hs0 : w.heap.size < w0.heap.size := by omega
      obtain ⟨w1, hw1⟩ : ∃ w1, w1 = (w0.setCell ⟨w.heap.size, 0, none⟩ (.int .i64 1)).setCell ⟨w.heap.size, 1, none⟩ (.int .i64 0) := ⟨_, rfl⟩
      rw [← hw1] at G1
      have HW1 := Lib.hid hw1
      clear hw1
      go_wp2_with fail
      rw [← HW1.out]
      clear a0 a1 b0 b1 f0 f1 g0 g1 hs hbw hs0
      have F1 := G1
      clear G1
      refine (D2 _).out.mono ?_
      rintro e w2 ⟨rfl, h2⟩
      have F2 := F1.trans h2
      clear F1 h2
      obtain ⟨a0, a1, b0, b1, f0, f1, g0, g1, hs, hbw⟩ := F2
      obtain ⟨Wr, rfl⟩ : ∃ Wr : World, Wr = w2 := ⟨_, rfl⟩
      go_wp2_with fail
      have A0 := fun q : KeptT Wr => q.cell a0 (by omega)
      have A1 := fun q : KeptT Wr => q.cell a1 (by omega)
      have B0 := fun q : KeptT Wr => q.cell b0 (by omega)
      have B1 := fun q : KeptT Wr => q.cell b1 (by omega)
      have OK : Hid (∀ q : KeptT Wr, Below w.heap.size w q.at) := Lib.hid (fun q => hbw.trans (q.ok.mono hbw.size))
      clear a0 a1 b0 b1 f0 f1 g0 g1 hs hbw
      haveI : Nonempty (KeptT Wr) := ⟨⟨Wr, Below.refl _ _⟩⟩
      rcases HSAME.out with ⟨rfl, rfl, rfl⟩ | ⟨hB, hTV⟩
      · clear HSAME
        refine wp_region_kept (KeptT Wr) KeptT.at (by kernel_rfl) (by kernel_rfl) ⟨⟨Wr.drew, (Below.refl _ _).drew⟩, rfl⟩ ?_
        repeat (go_big_quiet_step (first
          | (go_at_call 8; rename_i q; with_reducible exact (S1 q.at).out.mono (fun e w' h => ⟨h.1, q.on h.2⟩))
          | (go_at_call 10; rename_i q; with_reducible exact (C4 q.at (HT.out.below (OK.out q))).out.mono (fun e w' h => ⟨h.1, q.on h.2⟩))))
        refine wpQuiet_nil ?_
        rintro w' ⟨q, rfl⟩
        go_wp2_with fail
        go_ret
        exact ⟨rfl, OK.out q⟩
      · clear HSAME
        rcases hTV with hTV | ⟨rfl, hTV⟩
        all_goals
          refine wp_region_kept (KeptT Wr) KeptT.at (by kernel_rfl) (by kernel_rfl) ⟨⟨Wr.drew, (Below.refl _ _).drew⟩, rfl⟩ ?_
          repeat (go_big_quiet_step (first
            | (go_at_call 8; rename_i q; with_reducible exact (S1 q.at).out.mono (fun e w' h => ⟨h.1, q.on h.2⟩))
            | (go_at_call 8; rename_i q; with_reducible exact (S2 q.at).out.mono (fun e w' h => ⟨h.1, q.on h.2⟩))
            | (go_at_call 10; rename_i q; with_reducible exact (C4 q.at (HT.out.below (OK.out q))).out.mono (fun e w' h => ⟨h.1, q.on h.2⟩))))
          refine wpQuiet_nil ?_
          rintro w' ⟨q, rfl⟩
          go_wp2_with fail
          go_ret
          exact ⟨rfl, OK.out q⟩
    | false =>
      rw [hr2] at D2'
      have D2 := fun W => Lib.hid (D2' W)
      have HE2 := Lib.hid (hw2 hr2)
      clear D2' bk2 hw2 hr2
      go_enter Tryd.func7, Tryd.ntmps7
      go_wp2_with fail
      rw [← HW0.out]
      refine (D1 _).out.mono ?_
      rintro e w0 ⟨rfl, h1⟩
      have G0 := F0.trans h1
      clear F0 h1
      have G1 : Two w (.int .i64 T1) (.int .i64 V1) (.int .i64 t2) (.int .i64 v2) ((w0.setCell ⟨w.heap.size, 0, none⟩ (.int .i64 1)).setCell ⟨w.heap.size, 1, none⟩ (.int .i64 0)) := by rw [HE1.out.1, HE1.out.2]; exact G0.first (.int .i64 1) (.int .i64 0)
      obtain ⟨a0, a1, b0, b1, f0, f1, g0, g1, hs, hbw⟩ := G0
      have hs0 : w.heap.size < w0.heap.size := by omega
      obtain ⟨w1, hw1⟩ : ∃ w1, w1 = (w0.setCell ⟨w.heap.size, 0, none⟩ (.int .i64 1)).setCell ⟨w.heap.size, 1, none⟩ (.int .i64 0) := ⟨_, rfl⟩
      rw [← hw1] at G1
      have HW1 := Lib.hid hw1
      clear hw1
      go_wp2_with fail
      rw [← HW1.out]
      clear a0 a1 b0 b1 f0 f1 g0 g1 hs hbw hs0
      have F1 := G1
      clear G1
      refine (D2 _).out.mono ?_
      rintro e w2 ⟨rfl, h2⟩
      have F2 := F1.trans h2
      clear F1 h2
      have F3 : Two w (.int .i64 T1) (.int .i64 V1) (.int .i64 T2) (.int .i64 V2) ((w2.setCell ⟨w.heap.size + 1, 0, none⟩ (.int .i64 1)).setCell ⟨w.heap.size + 1, 1, none⟩ (.int .i64 0)) := by rw [HE2.out.1, HE2.out.2]; exact F2.second (.int .i64 1) (.int .i64 0)
      obtain ⟨a0, a1, b0, b1, f0, f1, g0, g1, hs, hbw⟩ := F2
      have hs0 : w.heap.size < w2.heap.size := by omega
      go_wp2_with fail
      obtain ⟨Wr, hWr⟩ : ∃ Wr, Wr = (w2.setCell ⟨w.heap.size + 1, 0, none⟩ (.int .i64 1)).setCell ⟨w.heap.size + 1, 1, none⟩ (.int .i64 0) := ⟨_, rfl⟩
      rw [← hWr] at F3 ⊢
      clear a0 a1 b0 b1 f0 f1 g0 g1 hs hbw hWr hs0
      obtain ⟨a0, a1, b0, b1, f0, f1, g0, g1, hs, hbw⟩ := F3
      have A0 := fun q : KeptT Wr => q.cell a0 (by omega)
      have A1 := fun q : KeptT Wr => q.cell a1 (by omega)
      have B0 := fun q : KeptT Wr => q.cell b0 (by omega)
      have B1 := fun q : KeptT Wr => q.cell b1 (by omega)
      have OK : Hid (∀ q : KeptT Wr, Below w.heap.size w q.at) := Lib.hid (fun q => hbw.trans (q.ok.mono hbw.size))
      clear a0 a1 b0 b1 f0 f1 g0 g1 hs hbw
      haveI : Nonempty (KeptT Wr) := ⟨⟨Wr, Below.refl _ _⟩⟩
      rcases HSAME.out with ⟨rfl, rfl, rfl⟩ | ⟨hB, hTV⟩
      · clear HSAME
        refine wp_region_kept (KeptT Wr) KeptT.at (by kernel_rfl) (by kernel_rfl) ⟨⟨Wr.drew, (Below.refl _ _).drew⟩, rfl⟩ ?_
        repeat (go_big_quiet_step (first
          | (go_at_call 8; rename_i q; with_reducible exact (S1 q.at).out.mono (fun e w' h => ⟨h.1, q.on h.2⟩))
          | (go_at_call 10; rename_i q; with_reducible exact (C4 q.at (HT.out.below (OK.out q))).out.mono (fun e w' h => ⟨h.1, q.on h.2⟩))))
        refine wpQuiet_nil ?_
        rintro w' ⟨q, rfl⟩
        go_wp2_with fail
        go_ret
        exact ⟨rfl, OK.out q⟩
      · clear HSAME
        rcases hTV with hTV | ⟨rfl, hTV⟩
        all_goals
          refine wp_region_kept (KeptT Wr) KeptT.at (by kernel_rfl) (by kernel_rfl) ⟨⟨Wr.drew, (Below.refl _ _).drew⟩, rfl⟩ ?_
          repeat (go_big_quiet_step (first
            | (go_at_call 8; rename_i q; with_reducible exact (S1 q.at).out.mono (fun e w' h => ⟨h.1, q.on h.2⟩))
            | (go_at_call 8; rename_i q; with_reducible exact (S2 q.at).out.mono (fun e w' h => ⟨h.1, q.on h.2⟩))
            | (go_at_call 10; rename_i q; with_reducible exact (C4 q.at (HT.out.below (OK.out q))).out.mono (fun e w' h => ⟨h.1, q.on h.2⟩))))
          refine wpQuiet_nil ?_
          rintro w' ⟨q, rfl⟩
          go_wp2_with fail
          go_ret
          exact ⟨rfl, OK.out q⟩
end Go.Proofs.YtgfempljihcleaaDoor.Char
