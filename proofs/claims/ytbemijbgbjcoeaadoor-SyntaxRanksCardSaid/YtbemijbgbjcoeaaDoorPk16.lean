/- LawRanks Witness -/
import Derived.Test.YtbemijbgbjcoeaaDoorPk15
import Derived.Deep.QuietTactic
import Derived.BigQuiet
import Derived.Deep.CutBlock
import Derived.Deep.DeepCutAuto
import Derived.Test.YtbemijbgbjcoeaaDoorCards
import Derived.Test.YtbemijbgbjcoeaaDoorTie
import Derived.Test.YtbemijbgbjcoeaaDoorPk02
import Derived.PinnedBridge
import Derived.Lay
import Derived.Lib.LaidIn
import Derived.Lib.LaidU8T
import Derived.Lib.LaidTab
import Derived.Deep.DeepHandedRow
import Derived.Deep.DeepWitnessRowRef
import Derived.ProofKit
import Derived.OpenShut
import Derived.JoinedCond
import Derived.SizedLaws
import Derived.Shelf.Vars
import Derived.LaidLaws
/- Operators of any two ranks are put in one another as the document's grammar says. -/
namespace Go.Proofs.YtbemijbgbjcoeaaDoor.Char
open Go.RowKit Go.Lib

theorem below_drewN13 (w : World) : ∀ n, Below w.heap.size w (w.drewN n)
  | 0 => Below.refl _ _
  | n + 1 => (below_drewN13 w n).drew
theorem adds4 (m1 m2 : List UInt8) (h1 : m1.length ≤ 10) (h2 : m2.length ≤ 10) : ∃ T1 T2 T3 T4 : ByteArray, (∀ wx, (Op.stringOp .add ⟨#[49, 32]⟩ (bs m1)).run Tryd.prog wx = .ok (.string T1) wx) ∧ (∀ wx, (Op.stringOp .add T1 ⟨#[32, 50, 32]⟩).run Tryd.prog wx = .ok (.string T2) wx) ∧
    (∀ wx, (Op.stringOp .add T2 (bs m2)).run Tryd.prog wx = .ok (.string T3) wx) ∧ (∀ wx, (Op.stringOp .add T3 ⟨#[32, 51]⟩).run Tryd.prog wx = .ok (.string T4) wx) ∧ T4 = bs (((([49, 32] ++ m1) ++ [32, 50, 32]) ++ m2) ++ [32, 51]) := by
  refine ⟨bs ([49, 32] ++ m1), bs (([49, 32] ++ m1) ++ [32, 50, 32]), bs ((([49, 32] ++ m1) ++ [32, 50, 32]) ++ m2), _, fun wx => ?_, fun wx => ?_, fun wx => ?_, fun wx => ?_, rfl⟩
  · show (Op.stringOp .add (bs [49, 32]) (bs m1)).run Tryd.prog wx = _
    rw [run_string_add_sum wx _ _ (by rw [bs_size, bs_size]; simp; omega), bs_add]
  · show (Op.stringOp .add _ (bs [32, 50, 32])).run Tryd.prog wx = _
    rw [run_string_add_sum wx _ _ (by rw [bs_size, bs_size]; simp; omega), bs_add]
  · rw [run_string_add_sum wx _ _ (by rw [bs_size, bs_size]; simp; omega), bs_add]
  · show (Op.stringOp .add _ (bs [32, 51])).run Tryd.prog wx = _
    rw [run_string_add_sum wx _ _ (by rw [bs_size, bs_size]; simp; omega), bs_add]
theorem ops_cells {W : World} {g : Nat} (h : W.heap[g]? = some (.cells #[.string ⟨#[111, 114]⟩, .string ⟨#[97, 110, 100]⟩, .string ⟨#[61]⟩, .string ⟨#[33, 61]⟩, .string ⟨#[60]⟩, .string ⟨#[60, 61]⟩, .string ⟨#[62]⟩, .string ⟨#[62, 61]⟩, .string ⟨#[43]⟩, .string ⟨#[45]⟩, .string ⟨#[42]⟩, .string ⟨#[100, 105, 118]⟩, .string ⟨#[109, 111, 100]⟩] 9 (0, 0))) :
    ∀ k, k < 13 → W.cell? ⟨g, k, none⟩ = some (.string (bs (opsT.getD k []))) := by
  intro k hk
  have : k = 0 ∨ k = 1 ∨ k = 2 ∨ k = 3 ∨ k = 4 ∨ k = 5 ∨ k = 6 ∨ k = 7 ∨ k = 8 ∨ k = 9 ∨ k = 10 ∨ k = 11 ∨ k = 12 := by omega
  rcases this with rfl | rfl | rfl | rfl | rfl | rfl | rfl | rfl | rfl | rfl | rfl | rfl | rfl <;> (simp only [World.cell?, h]; rfl)
theorem rks_cells {W : World} {g : Nat} (h : W.heap[g]? = some (.cells #[.int .i64 0, .int .i64 1, .int .i64 2, .int .i64 2, .int .i64 3, .int .i64 3, .int .i64 3, .int .i64 3, .int .i64 4, .int .i64 4, .int .i64 5, .int .i64 5, .int .i64 5] 3 (0, 0))) :
    ∀ k, k < 13 → W.cell? ⟨g, k, none⟩ = some (.int .i64 ((rkT.getD k 0 : Nat) : Int)) := by
  intro k hk
  have : k = 0 ∨ k = 1 ∨ k = 2 ∨ k = 3 ∨ k = 4 ∨ k = 5 ∨ k = 6 ∨ k = 7 ∨ k = 8 ∨ k = 9 ∨ k = 10 ∨ k = 11 ∨ k = 12 := by omega
  rcases this with rfl | rfl | rfl | rfl | rfl | rfl | rfl | rfl | rfl | rfl | rfl | rfl | rfl <;> (simp only [World.cell?, h]; rfl)

/-- what is behind the call, wherever the box of its answer was made -/
structure RkB (W1 : World) (a b c : Int) (gb g off j1 : Nat) (W : World) : Prop where
  ok : Below W1.heap.size W1 W
  c0 : W.cell? ⟨gb, 0, none⟩ = some (.int .i64 a)
  c5 : W.cell? ⟨gb, 5, none⟩ = some (.slice (some ⟨g, off, none⟩) 2 j1)
  k0 : W.cell? ⟨g, off, none⟩ = some (.int .i64 b)
  k1 : W.cell? ⟨g, off + 7, none⟩ = some (.int .i64 c)
theorem RkB.before {W1 w4 : World} {a b c tg vl : Int} {s : ByteArray} {ab : Bool} {g off j1 n2 j2 : Nat} {o3 : Option Addr} (q1 : Below W1.heap.size W1 w4) (hb : w4.heap[W1.heap.size]? = some (boxEx ex0 (.slice none 0 0) (.slice none 0 0))) (hg : W1.heap.size < g) (q2 : w4.cell? ⟨g, off, none⟩ = some (.int .i64 b)) (q3 : w4.cell? ⟨g, off + 7, none⟩ = some (.int .i64 c)) :
    RkB W1 a b c W1.heap.size g off j1 (((((((w4.setCell ⟨W1.heap.size, 0, none⟩ (.int .i64 a)).setCell ⟨W1.heap.size, 1, none⟩ (.string s)).setCell ⟨W1.heap.size, 2, none⟩ (.int .i64 tg)).setCell ⟨W1.heap.size, 3, none⟩ (.int .i64 vl)).setCell ⟨W1.heap.size, 4, none⟩ (.bool ab)).setCell ⟨W1.heap.size, 5, none⟩ (.slice (some ⟨g, off, none⟩) 2 j1)).setCell ⟨W1.heap.size, 6, none⟩ (.slice o3 n2 j2)) := by
  obtain ⟨⟨b0, b1, b2, b3, b4, b5, b6⟩, fb⟩ := boxEx_blk hb
  have hne : g ≠ W1.heap.size := by omega
  refine ⟨((((((q1.setCell (p := ⟨W1.heap.size, 0, none⟩) (Nat.le_refl _) _).setCell (p := ⟨W1.heap.size, 1, none⟩) (Nat.le_refl _) _).setCell (p := ⟨W1.heap.size, 2, none⟩) (Nat.le_refl _) _).setCell (p := ⟨W1.heap.size, 3, none⟩) (Nat.le_refl _) _).setCell (p := ⟨W1.heap.size, 4, none⟩) (Nat.le_refl _) _).setCell (p := ⟨W1.heap.size, 5, none⟩) (Nat.le_refl _) _).setCell (p := ⟨W1.heap.size, 6, none⟩) (Nat.le_refl _) _, by go_simp, by go_simp, by go_simp, by go_simp⟩
theorem RkB.behind {W1 w4 : World} {a b c tg vl : Int} {s : ByteArray} {ab : Bool} {g off j1 n2 j2 : Nat} {o3 : Option Addr} (q1 : Below W1.heap.size W1 w4) (q2 : w4.cell? ⟨g, off, none⟩ = some (.int .i64 b)) (q3 : w4.cell? ⟨g, off + 7, none⟩ = some (.int .i64 c)) :
    RkB W1 a b c w4.heap.size g off j1 (w4.alloc (.cells #[.int .i64 a, .string s, .int .i64 tg, .int .i64 vl, .bool ab, .slice (some ⟨g, off, none⟩) 2 j1, .slice o3 n2 j2] 29)) := by
  have hn := World.alloc_heap_new w4 (.cells #[.int .i64 a, .string s, .int .i64 tg, .int .i64 vl, .bool ab, .slice (some ⟨g, off, none⟩) 2 j1, .slice o3 n2 j2] 29)
  have hb := below_box (w := w4) (.cells #[.int .i64 a, .string s, .int .i64 tg, .int .i64 vl, .bool ab, .slice (some ⟨g, off, none⟩) 2 j1, .slice o3 n2 j2] 29)
  exact ⟨q1.trans (hb.mono q1.size), by simp only [World.cell?, hn]; rfl, by simp only [World.cell?, hn]; rfl, (hb.cell (p := ⟨g, off, none⟩) (cell_lt q2)).trans q2, (hb.cell (p := ⟨g, off + 7, none⟩) (cell_lt q3)).trans q3⟩
set_option maxRecDepth 100000 in
set_option maxHeartbeats 8000000 in
theorem ranks_law (a b : Int) (w : World) (ha : 0 ≤ a ∧ a ≤ 255) (hb : 0 ≤ b ∧ b ≤ 255) (hG : Gl w) :
    Calls Tryd.prog 3 #[.int .u8 a, .int .u8 b] w fun e w' => e = .returned (.bool true) ∧ Below w.heap.size w w' := by
  obtain ⟨i, hi, hia⟩ : ∃ i : Nat, i < 13 ∧ a % 13 = (i : Int) := ⟨(a % 13).toNat, by omega, by omega⟩
  obtain ⟨j, hj, hjb⟩ : ∃ j : Nat, j < 13 ∧ b % 13 = (j : Int) := ⟨(b % 13).toNat, by omega, by omega⟩
  obtain ⟨W1, hW1⟩ : ∃ W1, W1 = (w.alloc (.cells #[.string ⟨#[111, 114]⟩, .string ⟨#[97, 110, 100]⟩, .string ⟨#[61]⟩, .string ⟨#[33, 61]⟩, .string ⟨#[60]⟩, .string ⟨#[60, 61]⟩, .string ⟨#[62]⟩, .string ⟨#[62, 61]⟩, .string ⟨#[43]⟩, .string ⟨#[45]⟩, .string ⟨#[42]⟩, .string ⟨#[100, 105, 118]⟩, .string ⟨#[109, 111, 100]⟩] 9)).alloc (.cells #[.int .i64 0, .int .i64 1, .int .i64 2, .int .i64 2, .int .i64 3, .int .i64 3, .int .i64 3, .int .i64 3, .int .i64 4, .int .i64 4, .int .i64 5, .int .i64 5, .int .i64 5] 3) := ⟨_, rfl⟩
  have hb1 : Below w.heap.size w W1 := by rw [hW1]; exact ((Below.refl _ _).alloc (Nat.le_refl _) _).alloc (by simp) _
  have hoc := ops_cells (W := W1) (g := w.heap.size) (by rw [hW1]; exact heap_box2 w _ _)
  have hrc := rks_cells (W := W1) (g := w.heap.size + 1) (by rw [hW1]; simpa using World.alloc_heap_new (w.alloc _) _)
  have hm : ∀ k, k < 13 → (opsT.getD k []).length ≤ 10 := by decide
  obtain ⟨T1, T2, T3, T4, A1, A2, A3, A4, hT⟩ := adds4 _ _ (hm i hi) (hm j hj)
  have hR := fun (W : World) (hg : Gl W) => rk_called i j hi hj W hg
  unfold rkText at hR
  rw [← hT] at hR
  have o1 := hoc i hi
  have o2 := hoc j hj
  have p1 : ∀ ob, (W1.alloc ob).cell? ⟨w.heap.size, i, none⟩ = some (.string (bs (opsT.getD i []))) := fun ob => ((below_box (w := W1) ob).cell (p := ⟨w.heap.size, i, none⟩) (cell_lt (w := W1) o1)).trans o1
  have p2 : ∀ ob, (W1.alloc ob).cell? ⟨w.heap.size, j, none⟩ = some (.string (bs (opsT.getD j []))) := fun ob => ((below_box (w := W1) ob).cell (p := ⟨w.heap.size, j, none⟩) (cell_lt (w := W1) o2)).trans o2
  have r1 := hrc i hi
  have r2 := hrc j hj
  have HS1 := Lib.hid (show w.heap.size + 2 = W1.heap.size by rw [hW1]; simp)
  have HW := Lib.hid hW1
  have HB := Lib.hid hb1
  have HG := Lib.hid (hG.below hb1)
  generalize bs (opsT.getD i []) = M1 at *
  generalize bs (opsT.getD j []) = M2 at *
  generalize hri : rkT.getD i 0 = ri at *
  generalize hrj : rkT.getD j 0 = rj at *
  have hz0 : (0 : Int) ≤ (i : Int) := by omega
  have hz1 : (i : Int) < 13 := by omega
  have hz2 : (0 : Int) ≤ (j : Int) := by omega
  have hz3 : (j : Int) < 13 := by omega
  clear hT hm hoc hrc hb1 hG hW1 hri hrj
  by_cases hge : rj ≤ ri
  · have kge : decide (rj ≤ ri) = true := decide_eq_true hge
    have hR2 : ∀ (W : World), Gl W → Calls Tryd.prog 5 #[.string T4] W (RkP W ((j : Int) + 1) ((i : Int) + 1) 19) := fun W hg => by
      have := hR W hg
      rwa [if_pos hge] at this
    have HR := Lib.hid hR2
    clear hR hR2 hge
    go_enter Tryd.func3, Tryd.ntmps3
    go_upto_region 4 with fail
    rw [← HW.out]
    clear hia hjb
    go_cut [9, 10] (fun s9 s10 wx => ∃ gb g off j1 : Nat, s9 = .pointer (some ⟨gb, 0, none⟩) ∧ s10 = .int .i64 0 ∧ Hid (RkB W1 ((j : Int) + 1) ((i : Int) + 1) 19 gb g off j1 wx))
    case first =>
      go_region_law (first
        | (go_simp; go_at_call 5
           first
             | (refine (HR.out ((W1.alloc (boxEx ex0 (.slice none 0 0) (.slice none 0 0))).drew) ((HG.out.below (below_box _)).below ((Below.refl _ _).drew))).mono ?_
                rintro e w4 ⟨s, tg, vl, ab, g, off, j1, n2, j2, o3, rfl, q1, qg, q2, q3⟩
                have hbx : w4.heap[W1.heap.size]? = some (boxEx ex0 (.slice none 0 0) (.slice none 0 0)) := (q1.block W1.heap.size (by simp)).trans (World.alloc_heap_new W1 (boxEx ex0 (.slice none 0 0) (.slice none 0 0)))
                have gbx := (Array.getElem?_eq_some_iff.1 hbx).1
                obtain ⟨⟨b0, b1, b2, b3, b4, b5, b6⟩, fbx⟩ := boxEx_blk hbx
                have Q1 := Lib.hid (((below_box (w := W1) (boxEx ex0 (.slice none 0 0) (.slice none 0 0))).drew).trans (q1.mono (by simp)))
                have HBX := Lib.hid hbx
                have HQG := Lib.hid (show W1.heap.size < g by have h9 := qg; simp at h9; omega)
                clear hbx qg)
             | (refine (HR.out W1.drew (HG.out.below ((Below.refl _ _).drew))).mono ?_
                rintro e w4 ⟨s, tg, vl, ab, g, off, j1, n2, j2, o3, rfl, q1, qg, q2, q3⟩
                have Q1 := Lib.hid ((show Below W1.heap.size W1 W1.drew from (Below.refl _ _).drew).trans q1)
                clear qg)
           have Q2 := Lib.hid q2
           have Q3 := Lib.hid q3
           clear q1 q2 q3))
      all_goals
        go_wp2_with fail
        go_meet
        first
          | exact ⟨_, g, off, j1, rfl, rfl, Lib.hid (RkB.before Q1.out HBX.out HQG.out Q2.out Q3.out)⟩
          | exact ⟨_, g, off, j1, rfl, rfl, Lib.hid (RkB.behind Q1.out Q2.out Q3.out)⟩
    case rest =>
      obtain ⟨gb, g, off, j1, rfl, rfl, D⟩ := hcut
      obtain ⟨ok, c0, c5, k0, k1⟩ := D.out
      have v1 := (ok.cell (p := ⟨w.heap.size + 1, i, none⟩) (cell_lt r1)).trans r1
      have v2 := (ok.cell (p := ⟨w.heap.size + 1, j, none⟩) (cell_lt r2)).trans r2
      have HK := Lib.hid (fun W (h : Below wc.heap.size wc W) => works13_any W ((HG.out.below ok).below h))
      have HOK := Lib.hid (HB.out.trans (ok.mono HB.out.size))
      clear ok r1 r2 o1 o2 p1 p2 A1 A2 A3 A4 HR D
      go_wp2_with fail
      go_quiet (fail)
      go_wp2_with (first
        | (go_at_call 6
           refine (HK.out _ (below_drewN13 _ _)).mono ?_
           rintro e w9 ⟨rfl, hb9⟩
           have HB9 := Lib.hid ((below_drewN13 wc _).trans (hb9.mono (below_drewN13 wc _).size))
           clear hb9))
      go_ret
      exact ⟨rfl, HOK.out.trans (HB9.out.mono HOK.out.size)⟩
  · have kge : decide (rj ≤ ri) = false := decide_eq_false hge
    have hR2 : ∀ (W : World), Gl W → Calls Tryd.prog 5 #[.string T4] W (RkP W ((i : Int) + 1) 19 ((j : Int) + 1)) := fun W hg => by
      have := hR W hg
      rwa [if_neg hge] at this
    have HR := Lib.hid hR2
    clear hR hR2 hge
    go_enter Tryd.func3, Tryd.ntmps3
    go_upto_region 4 with fail
    rw [← HW.out]
    clear hia hjb
    go_cut [9, 10] (fun s9 s10 wx => ∃ gb g off j1 : Nat, s9 = .pointer (some ⟨gb, 0, none⟩) ∧ s10 = .int .i64 0 ∧ Hid (RkB W1 ((i : Int) + 1) 19 ((j : Int) + 1) gb g off j1 wx))
    case first =>
      go_region_law (first
        | (go_simp; go_at_call 5
           first
             | (refine (HR.out ((W1.alloc (boxEx ex0 (.slice none 0 0) (.slice none 0 0))).drew) ((HG.out.below (below_box _)).below ((Below.refl _ _).drew))).mono ?_
                rintro e w4 ⟨s, tg, vl, ab, g, off, j1, n2, j2, o3, rfl, q1, qg, q2, q3⟩
                have hbx : w4.heap[W1.heap.size]? = some (boxEx ex0 (.slice none 0 0) (.slice none 0 0)) := (q1.block W1.heap.size (by simp)).trans (World.alloc_heap_new W1 (boxEx ex0 (.slice none 0 0) (.slice none 0 0)))
                have gbx := (Array.getElem?_eq_some_iff.1 hbx).1
                obtain ⟨⟨b0, b1, b2, b3, b4, b5, b6⟩, fbx⟩ := boxEx_blk hbx
                have Q1 := Lib.hid (((below_box (w := W1) (boxEx ex0 (.slice none 0 0) (.slice none 0 0))).drew).trans (q1.mono (by simp)))
                have HBX := Lib.hid hbx
                have HQG := Lib.hid (show W1.heap.size < g by have h9 := qg; simp at h9; omega)
                clear hbx qg)
             | (refine (HR.out W1.drew (HG.out.below ((Below.refl _ _).drew))).mono ?_
                rintro e w4 ⟨s, tg, vl, ab, g, off, j1, n2, j2, o3, rfl, q1, qg, q2, q3⟩
                have Q1 := Lib.hid ((show Below W1.heap.size W1 W1.drew from (Below.refl _ _).drew).trans q1)
                clear qg)
           have Q2 := Lib.hid q2
           have Q3 := Lib.hid q3
           clear q1 q2 q3))
      all_goals
        go_wp2_with fail
        go_meet
        first
          | exact ⟨_, g, off, j1, rfl, rfl, Lib.hid (RkB.before Q1.out HBX.out HQG.out Q2.out Q3.out)⟩
          | exact ⟨_, g, off, j1, rfl, rfl, Lib.hid (RkB.behind Q1.out Q2.out Q3.out)⟩
    case rest =>
      obtain ⟨gb, g, off, j1, rfl, rfl, D⟩ := hcut
      obtain ⟨ok, c0, c5, k0, k1⟩ := D.out
      have v1 := (ok.cell (p := ⟨w.heap.size + 1, i, none⟩) (cell_lt r1)).trans r1
      have v2 := (ok.cell (p := ⟨w.heap.size + 1, j, none⟩) (cell_lt r2)).trans r2
      have HK := Lib.hid (fun W (h : Below wc.heap.size wc W) => works13_any W ((HG.out.below ok).below h))
      have HOK := Lib.hid (HB.out.trans (ok.mono HB.out.size))
      clear ok r1 r2 o1 o2 p1 p2 A1 A2 A3 A4 HR D
      go_wp2_with fail
      go_quiet (fail)
      go_wp2_with (first
        | (go_at_call 6
           refine (HK.out _ (below_drewN13 _ _)).mono ?_
           rintro e w9 ⟨rfl, hb9⟩
           have HB9 := Lib.hid ((below_drewN13 wc _).trans (hb9.mono (below_drewN13 wc _).size))
           clear hb9))
      go_ret
      exact ⟨rfl, HOK.out.trans (HB9.out.mono HOK.out.size)⟩
end Go.Proofs.YtbemijbgbjcoeaaDoor.Char

/- A world in which the listed variables read as the rows list them; and what the rows' list, and a well-shaped world, give the walks. -/
namespace Go.Proofs.YtbemijbgbjcoeaaDoor.Char
open Go.ChangeShapes Go.WideShapes Go.ChangeAt Go.RowKit

theorem own : ownKnob Tryd.prog.godebug = none := by kernel_rfl

/-- what the rows list -/
def laid : List (String × DataW Unit) := [("unicode/utf8.acceptRanges", Rows.laid_unicode_utf8_acceptRanges), ("unicode/utf8.first", Rows.laid_unicode_utf8_first)]
def laidL : List (String × DataW Unit) := [("unicode/utf8.acceptRanges", Lib.acceptData), ("unicode/utf8.first", Lib.firstData)]
theorem accept_eq : (Rows.laid_unicode_utf8_acceptRanges : DataW Unit) = Lib.acceptData := by kernel_rfl
theorem first_eq : Rows.laid_unicode_utf8_first = Lib.firstData := Pinned.utf8First_eq
theorem laid_eq : laid = laidL := by
  unfold laid laidL
  rw [accept_eq, first_eq]
/-- the settled world, the variables holding what their initialisers lay -/
noncomputable def laidWorld (os : Os) : World := World.laidAll Tryd.prog os laid
theorem laid_met (os : Os) (args : Array Value) : laidMet Tryd.prog laid ((laidWorld os).forCall (fun _ _ => 0) ⟨#[], args, []⟩).memory := laidMet_laidAll _ (by kernel_rfl) (by kernel_rfl)
theorem maxL_of {W : World} (h : W.ShapedOpen Tryd.prog) : MaxL W :=
  cell_of_shapedOpen_int (t := 3) (zero := #[.int .i64 0]) h (of_decide_eq_true (by kernel_rfl)) (by kernel_rfl) rfl (by kernel_rfl) (by kernel_rfl) Tryd.underlying3
theorem tabs_of {W : World} (hL : laidMetH Tryd.prog laid W) : Tabs W := by
  rw [laid_eq] at hL
  exact utf8Tabs_of_readsT (U8Types.of196 laysValid) ⟨by kernel_rfl, by kernel_rfl, by kernel_rfl, by kernel_rfl, by kernel_rfl, by kernel_rfl, by kernel_rfl⟩ (Lib.laidMet.reads hL (by unfold laidL; simp)) (Lib.laidMet.reads hL (by unfold laidL; simp))
theorem reachBytes_val : reachBytes ≤ 140737488351232 := by decide
theorem gl_of {W : World} (hL : laidMetH Tryd.prog laid W) (hS : W.ShapedOpen Tryd.prog) : Gl W := ⟨tabs_of hL, maxL_of hS⟩
end Go.Proofs.YtbemijbgbjcoeaaDoor.Char
