/- The walk of figure's Lit. -/
import Derived.Test.YteooaibbblfmjaaDoorTold
namespace Go.Proofs.YteooaibbblfmjaaDoor.Char
open Go.RowKit Go.Lib

theorem tl (l : List UInt8) : (bs l).toList = l := by rw [toList_data]; rfl
/-- a number in its cell, and yes or no, are what is returned -/
theorem end_lit {fn : Func} {p q : Tmp} (h : fn.results = #[.cell p 24, .tmp q]) {a : Act} {R : Ending → World → Prop} (w1 : World) (g : Nat) (x y : Int) (u : Bool) {z0 z1 : Value}
    (k0 : w1.cell? ⟨g, 0, none⟩ = some z0) (k1 : w1.cell? ⟨g, 1, none⟩ = some z1) (hp : a.tmps.getD p undef = .pointer (some ⟨g, 0, none⟩)) (hq : a.tmps.getD q undef = .bool u) (hd : a.defers = [])
    (hR : R (.returned (.tuple #[.agg #[.int .i64 x, .int .i64 y], .bool u])) ((w1.setCell ⟨g, 0, none⟩ (.int .i64 x)).setCell ⟨g, 1, none⟩ (.int .i64 y))) :
    bodyPost Tryd.prog fn R .ret a ((w1.setCell ⟨g, 0, none⟩ (.int .i64 x)).setCell ⟨g, 1, none⟩ (.int .i64 y)) := by
  have hp' : a.tmps[p]?.getD undef = .pointer (some ⟨g, 0, none⟩) := by simpa using hp
  have hq' : a.tmps[q]?.getD undef = .bool u := by simpa using hq
  exact bodyPost_ret (v := .tuple #[.agg #[.int .i64 x, .int .i64 y], .bool u]) (by simp [results, h, hp', hq', go_sem, k0, k1]) hd hR
def litX (o : Option Nm) : Nm := o.getD (.num 0)

theorem dropWhile_le (p : UInt8 → Bool) (l : List UInt8) : (l.dropWhile p).length ≤ l.length := (List.dropWhile_suffix p).length_le
theorem takeWhile_le (p : UInt8 → Bool) (l : List UInt8) : (l.takeWhile p).length ≤ l.length := (List.takeWhile_prefix p).length_le
theorem takeWhile_all (p : UInt8 → Bool) : ∀ l : List UInt8, ∀ b ∈ l.takeWhile p, p b = true
  | [], b, h => by cases h
  | x :: l, b, h => by
    rw [List.takeWhile_cons] at h
    split at h
    · rename_i hx
      rcases List.mem_cons.1 h with rfl | h
      · exact hx
      · exact takeWhile_all p l b h
    · cases h
/-- what a step on the box of the rest leaves -/
theorem box_step (n : Nat) (w0 w : World) (v v' : Value) (x y : Value) (hs : n + 1 < w.heap.size) (h0 : w.cell? ⟨n, 0, none⟩ = some x) (h1 : w.cell? ⟨n, 1, none⟩ = some y) (g0 : w.frozen? ⟨n, 0, none⟩ = false) (g1 : w.frozen? ⟨n, 1, none⟩ = false)
    (hc : w.cell? ⟨n + 1, 0, none⟩ = some v) (hf : w.frozen? ⟨n + 1, 0, none⟩ = false) (hb : Below n w0 w) :
    n + 1 < (w.setCell ⟨n + 1, 0, none⟩ v').heap.size ∧ (w.setCell ⟨n + 1, 0, none⟩ v').cell? ⟨n, 0, none⟩ = some x ∧ (w.setCell ⟨n + 1, 0, none⟩ v').cell? ⟨n, 1, none⟩ = some y ∧ (w.setCell ⟨n + 1, 0, none⟩ v').frozen? ⟨n, 0, none⟩ = false ∧ (w.setCell ⟨n + 1, 0, none⟩ v').frozen? ⟨n, 1, none⟩ = false ∧
      (w.setCell ⟨n + 1, 0, none⟩ v').cell? ⟨n + 1, 0, none⟩ = some v' ∧ (w.setCell ⟨n + 1, 0, none⟩ v').frozen? ⟨n + 1, 0, none⟩ = false ∧ Below n w0 (w.setCell ⟨n + 1, 0, none⟩ v') := by
  refine ⟨?_, ?_, ?_, ?_, ?_, ?_, ?_, hb.setCell (by show n ≤ n + 1; omega) _⟩
  all_goals go_simp

set_option maxRecDepth 100000 in
set_option maxHeartbeats 8000000 in
theorem lit_any (l : List UInt8) (w : World) (hl : l.length ≤ 500) :
    Calls Tryd.prog 35 #[.string (bs l)] w fun e w' => e = .returned (.tuple #[decV (litX (litL l)), .bool (litL l).isSome]) ∧ Below w.heap.size w w' := by
  obtain ⟨wd, hwd⟩ : ∃ x, x = l.takeWhile digB := ⟨_, rfl⟩
  obtain ⟨r1, hr1⟩ : ∃ x, x = l.dropWhile digB := ⟨_, rfl⟩
  obtain ⟨pt, hpt⟩ : ∃ x, x = r1.takeWhile ptB := ⟨_, rfl⟩
  obtain ⟨r2, hr2⟩ : ∃ x, x = r1.dropWhile ptB := ⟨_, rfl⟩
  obtain ⟨f, hf⟩ : ∃ x, x = r2.takeWhile digB := ⟨_, rfl⟩
  obtain ⟨r3, hr3⟩ : ∃ x, x = r2.dropWhile digB := ⟨_, rfl⟩
  have hlit : litL l = if r3 = [] ∧ pt.length ≤ 1 ∧ ¬ (wd = [] ∧ f = []) then some (toldD wd f) else none := by
    rw [hr3, hpt, hwd, hf, hr2, hr1]
    rfl
  have l1 : r1.length ≤ 500 := by have := dropWhile_le digB l; rw [hr1]; omega
  have l2 : r2.length ≤ 500 := by have := dropWhile_le ptB r1; rw [hr2]; omega
  have lw : wd.length ≤ 500 := by have := takeWhile_le digB l; rw [hwd]; omega
  have lp : pt.length ≤ 500 := by have := takeWhile_le ptB r1; rw [hpt]; omega
  have lf : f.length ≤ 500 := by have := takeWhile_le digB r2; rw [hf]; omega
  have T1 := fun W h1 h2 => take_any 55 digB asks_digit (w.heap.size + 1) l W hl h1 h2
  have T2 := fun W h1 h2 => take_any 56 ptB asks_point (w.heap.size + 1) r1 W l1 h1 h2
  have T3 := fun W h1 h2 => take_any 55 digB asks_digit (w.heap.size + 1) r2 W l2 h1 h2
  rw [← hwd, ← hr1] at T1
  rw [← hpt, ← hr2] at T2
  rw [← hf, ← hr3] at T3
  have CT := (fun W => told_any wd f W (by rw [hwd]; exact takeWhile_all _ _) (by rw [hf]; exact takeWhile_all _ _) lw lf)
  have H1 := Lib.hid T1
  have H2 := Lib.hid T2
  have H3 := Lib.hid T3
  obtain ⟨X, hX⟩ : ∃ X, litL l = X := ⟨_, rfl⟩
  obtain ⟨Y, hY⟩ : ∃ Y, toldD wd f = Y := ⟨_, rfl⟩
  rw [hY] at CT hlit
  clear hY
  rw [hX]
  rw [hX] at hlit
  have HX := Lib.hid hlit
  have HCT := Lib.hid CT
  clear CT
  have sw : (bs wd).size = wd.length := bs_size wd
  have sp : (bs pt).size = pt.length := bs_size pt
  have sf : (bs f).size = f.length := bs_size f
  have s3 : (bs r3).size = r3.length := bs_size r3
  clear hX hlit T1 T2 T3 hwd hr1 hpt hr2 hf hr3 l1 l2
  obtain ⟨W0, hW0⟩ : ∃ W0, W0 = (w.alloc (Obj.cells #[Value.int IntKind.i64 0, Value.int IntKind.i64 0] 24)).alloc (Obj.cells #[Value.string (bs l)] 9) := ⟨_, rfl⟩
  have F0 : w.heap.size + 1 < W0.heap.size ∧ W0.cell? ⟨w.heap.size, 0, none⟩ = some (.int .i64 0) ∧ W0.cell? ⟨w.heap.size, 1, none⟩ = some (.int .i64 0) ∧ W0.frozen? ⟨w.heap.size, 0, none⟩ = false ∧ W0.frozen? ⟨w.heap.size, 1, none⟩ = false ∧
      W0.cell? ⟨w.heap.size + 1, 0, none⟩ = some (.string (bs l)) ∧ W0.frozen? ⟨w.heap.size + 1, 0, none⟩ = false ∧ Below w.heap.size w W0 := by
    rw [hW0]
    refine ⟨by simp, ?_, ?_, ?_, ?_, ?_, ?_, ((Below.refl _ _).alloc (Nat.le_refl _) _).alloc (by simp) _⟩
    all_goals go_simp
  have HW0 := Lib.hid hW0
  clear hW0
  go_enter Tryd.func35, Tryd.ntmps35
  go_wp2_with fail
  rw [← HW0.out]
  obtain ⟨z0, a0, b0, c0, d0, e0, g0, k0⟩ := F0
  refine (H1.out _ e0 g0).mono ?_
  rintro e w1 ⟨rfl, hw1⟩
  have F1 := box_step _ w W0 _ (.string (bs r1)) _ _ z0 a0 b0 c0 d0 e0 g0 k0
  rw [← hw1] at F1
  clear z0 a0 b0 c0 d0 e0 g0 k0 hw1
  obtain ⟨z0, a0, b0, c0, d0, e0, g0, k0⟩ := F1
  go_wp2_with fail
  refine (H2.out _ e0 g0).mono ?_
  rintro e w2 ⟨rfl, hw2⟩
  have F2 := box_step _ w w1 _ (.string (bs r2)) _ _ z0 a0 b0 c0 d0 e0 g0 k0
  rw [← hw2] at F2
  clear z0 a0 b0 c0 d0 e0 g0 k0 hw2
  obtain ⟨z0, a0, b0, c0, d0, e0, g0, k0⟩ := F2
  go_wp2_with fail
  refine (H3.out _ e0 g0).mono ?_
  rintro e w3 ⟨rfl, hw3⟩
  have F3 := box_step _ w w2 _ (.string (bs r3)) _ _ z0 a0 b0 c0 d0 e0 g0 k0
  rw [← hw3] at F3
  clear z0 a0 b0 c0 d0 e0 g0 k0 hw3
  obtain ⟨z0, a0, b0, c0, d0, e0, g0, k0⟩ := F3
  clear H1 H2 H3
  have em : ∀ x : List UInt8, x = [] → (bs x).toList = [] := fun x h => by rw [h]; exact tl []
  have en : ∀ x : List UInt8, x ≠ [] → ¬ (bs x).toList = [] := fun x h => by rw [tl]; exact h
  have im : ∀ x : List UInt8, x = [] → (bs x).toList.isEmpty = true := fun x h => by rw [h, tl]; rfl
  have ine : ∀ x : List UInt8, x ≠ [] → (bs x).toList.isEmpty = false := fun x h => by rw [tl]; cases x with | nil => exact absurd rfl h | cons _ _ => rfl
  clear sw sf s3
  by_cases c3 : r3 = []
  · have q3 := em _ c3
    have i3 := im _ c3
    by_cases cp : pt.length ≤ 1
    · have dp : decide ((1 : Int) < (pt.length : Int)) = false := by rw [decide_eq_false_iff_not]; omega
      by_cases cw : wd = []
      · have qw := em _ cw
        have iw := im _ cw
        by_cases cf : f = []
        · have XN : Hid (X = none) := Lib.hid (by rw [HX.out, if_neg (fun h => h.2.2 ⟨cw, cf⟩)])
          have qf := em _ cf
          have if_ := im _ cf
          clear HX HCT c3 cw cf em en im ine
          go_wp2_with fail
          exact end_lit rfl w3 w.heap.size _ _ false a0 b0 rfl rfl rfl ⟨by rw [XN.out]; rfl, (k0.setCell (Nat.le_refl _) _).setCell (Nat.le_refl _) _⟩
        · have XS : Hid (X = some Y) := Lib.hid (by rw [HX.out, if_pos ⟨c3, cp, fun h => cf h.2⟩])
          have qf := en _ cf
          have if_ := ine _ cf
          clear HX c3 cw cf em en im ine
          go_wp2_with fail
          refine (HCT.out _).mono ?_
          rintro e w4 ⟨rfl, hb4⟩
          have q0 := (hb4.cell (p := ⟨w.heap.size, 0, none⟩) (by show w.heap.size < _; omega)).trans a0
          have q1 := (hb4.cell (p := ⟨w.heap.size, 1, none⟩) (by show w.heap.size < _; omega)).trans b0
          have qf0 := (hb4.frozen (p := ⟨w.heap.size, 0, none⟩) (by show w.heap.size < _; omega)).trans c0
          have qf1 := (hb4.frozen (p := ⟨w.heap.size, 1, none⟩) (by show w.heap.size < _; omega)).trans d0
          have qs := Nat.lt_of_lt_of_le z0 hb4.size
          have qb := k0.trans (hb4.mono (by omega))
          unfold decV
          clear hb4 a0 b0 c0 d0 e0 g0 z0
          have qs' : w.heap.size < w4.heap.size := by omega
          go_wp2_with fail
          exact end_lit rfl w4 w.heap.size _ _ true q0 q1 rfl rfl rfl ⟨by rw [XS.out]; rfl, (qb.setCell (Nat.le_refl _) _).setCell (Nat.le_refl _) _⟩
      · have XS : Hid (X = some Y) := Lib.hid (by rw [HX.out, if_pos ⟨c3, cp, fun h => cw h.1⟩])
        have qw := en _ cw
        have iw := ine _ cw
        clear HX c3 cw em en im ine
        go_wp2_with fail
        refine (HCT.out _).mono ?_
        rintro e w4 ⟨rfl, hb4⟩
        have q0 := (hb4.cell (p := ⟨w.heap.size, 0, none⟩) (by show w.heap.size < _; omega)).trans a0
        have q1 := (hb4.cell (p := ⟨w.heap.size, 1, none⟩) (by show w.heap.size < _; omega)).trans b0
        have qf0 := (hb4.frozen (p := ⟨w.heap.size, 0, none⟩) (by show w.heap.size < _; omega)).trans c0
        have qf1 := (hb4.frozen (p := ⟨w.heap.size, 1, none⟩) (by show w.heap.size < _; omega)).trans d0
        have qs := Nat.lt_of_lt_of_le z0 hb4.size
        have qb := k0.trans (hb4.mono (by omega))
        unfold decV
        clear hb4 a0 b0 c0 d0 e0 g0 z0
        have qs' : w.heap.size < w4.heap.size := by omega
        go_wp2_with fail
        exact end_lit rfl w4 w.heap.size _ _ true q0 q1 rfl rfl rfl ⟨by rw [XS.out]; rfl, (qb.setCell (Nat.le_refl _) _).setCell (Nat.le_refl _) _⟩
    · have XN : Hid (X = none) := Lib.hid (by rw [HX.out, if_neg (fun h => cp h.2.1)])
      have dp : decide ((1 : Int) < (pt.length : Int)) = true := by rw [decide_eq_true_iff]; omega
      clear HX HCT c3 em en im ine
      go_wp2_with fail
      exact end_lit rfl w3 w.heap.size _ _ false a0 b0 rfl rfl rfl ⟨by rw [XN.out]; rfl, (k0.setCell (Nat.le_refl _) _).setCell (Nat.le_refl _) _⟩
  · have XN : Hid (X = none) := Lib.hid (by rw [HX.out, if_neg (fun h => c3 h.1)])
    have q3 := en _ c3
    have i3 := ine _ c3
    clear HX HCT c3 em en im ine
    go_wp2_with fail
    exact end_lit rfl w3 w.heap.size _ _ false a0 b0 rfl rfl rfl ⟨by rw [XN.out]; rfl, (k0.setCell (Nat.le_refl _) _).setCell (Nat.le_refl _) _⟩
end Go.Proofs.YteooaibbblfmjaaDoor.Char
