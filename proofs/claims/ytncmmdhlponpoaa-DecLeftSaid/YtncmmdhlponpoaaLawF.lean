/- The walk of the law DecLeft. -/
import Derived.Test.YtncmmdhlponpoaaLawE
namespace Go.Proofs.Ytncmmdhlponpoaa.Char
open Go.RowKit

theorem left_math (a b : Int) (hb : b ≠ 0) : (a.tmod b ≠ 0 → (a.tmod b < 0 ↔ a < 0)) ∧ (a.tmod b).natAbs < b.natAbs ∧ (a - a.tmod b).tmod b = 0 ∧ (a.tmod b).natAbs ≤ a.natAbs := by
  have h1 : (a.tmod b).natAbs < b.natAbs := by rw [Int.natAbs_tmod]; exact Nat.mod_lt _ (by omega)
  have h4 : (a.tmod b).natAbs ≤ a.natAbs := by rw [Int.natAbs_tmod]; exact Nat.mod_le _ _
  have h3 : (a - a.tmod b).tmod b = 0 := by
    have e := Int.tmod_add_mul_tdiv a b
    have e2 : a - a.tmod b = b * a.tdiv b := by omega
    rw [e2]
    exact Int.mul_tmod_right b _
  refine ⟨fun h0 => ?_, h1, h3, h4⟩
  by_cases ha : a < 0
  · have e : a.tmod b = -((-a).tmod b) := by rw [← Int.neg_tmod, Int.neg_neg]
    have h5 : 0 ≤ (-a).tmod b := Int.tmod_nonneg b (by omega)
    omega
  · have h5 : 0 ≤ a.tmod b := Int.tmod_nonneg b (by omega)
    omega

/-- two numbers more, in cells of their own that are written -/
structure Duo (w : World) (t1 v1 t2 v2 : Int) (G : Nat) (T V : Int) (g h : Nat) (X Y : Int) (W : World) : Prop where
  tr : Trio w t1 v1 t2 v2 G T V W
  g0 : W.cell? ⟨g, 0, none⟩ = some (.int .i64 0)
  g1 : W.cell? ⟨g, 1, none⟩ = some (.int .i64 X)
  h0 : W.cell? ⟨h, 0, none⟩ = some (.int .i64 0)
  h1 : W.cell? ⟨h, 1, none⟩ = some (.int .i64 Y)
  fg0 : W.frozen? ⟨g, 0, none⟩ = false
  fg1 : W.frozen? ⟨g, 1, none⟩ = false
  fh0 : W.frozen? ⟨h, 0, none⟩ = false
  fh1 : W.frozen? ⟨h, 1, none⟩ = false
  ng : g < W.heap.size
  nh : h < W.heap.size
  gh : g ≠ h
  lg : G < g
  lh : G < h
  kg : w.heap.size + 1 < g
  kh : w.heap.size + 1 < h
theorem Duo.on {w : World} {t1 v1 t2 v2 : Int} {G : Nat} {T V : Int} {g h : Nat} {X Y : Int} {W W' : World} (d : Duo w t1 v1 t2 v2 G T V g h X Y W) (hb : Below W.heap.size W W') : Duo w t1 v1 t2 v2 G T V g h X Y W' :=
  ⟨d.tr.on hb, (hb.cell (p := ⟨g, 0, none⟩) d.ng).trans d.g0, (hb.cell (p := ⟨g, 1, none⟩) d.ng).trans d.g1, (hb.cell (p := ⟨h, 0, none⟩) d.nh).trans d.h0, (hb.cell (p := ⟨h, 1, none⟩) d.nh).trans d.h1,
   (hb.frozen (p := ⟨g, 0, none⟩) d.ng).trans d.fg0, (hb.frozen (p := ⟨g, 1, none⟩) d.ng).trans d.fg1, (hb.frozen (p := ⟨h, 0, none⟩) d.nh).trans d.fh0, (hb.frozen (p := ⟨h, 1, none⟩) d.nh).trans d.fh1,
   Nat.lt_of_lt_of_le d.ng hb.size, Nat.lt_of_lt_of_le d.nh hb.size, d.gh, d.lg, d.lh, d.kg, d.kh⟩
theorem cell_far (W : World) (g k : Nat) (u : Value) (p o : Nat) (h : p ≠ g) : (W.setCell ⟨g, k, none⟩ u).cell? ⟨p, o, none⟩ = W.cell? ⟨p, o, none⟩ :=
  World.cell?_setCell_other W ⟨g, k, none⟩ ⟨p, o, none⟩ u (fun e => h (by injection e with e; exact e.symm))
theorem cell_two (W : World) (g : Nat) (u u' : Value) (p o : Nat) (h : p ≠ g) : ((W.setCell ⟨g, 0, none⟩ u).setCell ⟨g, 1, none⟩ u').cell? ⟨p, o, none⟩ = W.cell? ⟨p, o, none⟩ := by
  rw [cell_far _ _ _ _ _ _ h, cell_far _ _ _ _ _ _ h]
theorem cell_set0 (W : World) (g : Nat) (u u' z0 : Value) (h : W.cell? ⟨g, 0, none⟩ = some z0) : ((W.setCell ⟨g, 0, none⟩ u).setCell ⟨g, 1, none⟩ u').cell? ⟨g, 0, none⟩ = some u := by
  rw [World.cell?_setCell_other _ ⟨g, 1, none⟩ ⟨g, 0, none⟩ u' (fun e => by injection e with _ e; cases e)]
  exact World.cell?_setCell_same' _ _ _ (by rw [h]; rfl)
theorem cell_set1 (W : World) (g : Nat) (u u' z1 : Value) (h : W.cell? ⟨g, 1, none⟩ = some z1) : ((W.setCell ⟨g, 0, none⟩ u).setCell ⟨g, 1, none⟩ u').cell? ⟨g, 1, none⟩ = some u' := by
  refine World.cell?_setCell_same' _ _ _ ?_
  rw [World.cell?_setCell_other _ ⟨g, 0, none⟩ ⟨g, 1, none⟩ u (fun e => by injection e with _ e; cases e), h]
  rfl
theorem Trio.set_ {w : World} {t1 v1 t2 v2 : Int} {G : Nat} {T V : Int} {W : World} (d : Trio w t1 v1 t2 v2 G T V W) {g : Nat} (lg : G < g) (kg : w.heap.size + 1 < g) (u u' : Value) :
    Trio w t1 v1 t2 v2 G T V ((W.setCell ⟨g, 0, none⟩ u).setCell ⟨g, 1, none⟩ u') := by
  refine ⟨(cell_two _ _ _ _ _ _ (by omega)).trans d.a0, (cell_two _ _ _ _ _ _ (by omega)).trans d.a1, (cell_two _ _ _ _ _ _ (by omega)).trans d.b0, (cell_two _ _ _ _ _ _ (by omega)).trans d.b1,
    (cell_two _ _ _ _ _ _ (by omega)).trans d.s0, (cell_two _ _ _ _ _ _ (by omega)).trans d.s1, ?_, ?_, ?_, (d.ok.setCell (by show w.heap.size ≤ g; omega) _).setCell (by show w.heap.size ≤ g; omega) _⟩
  · have := d.n0; simpa [World.setCell] using this
  · have := d.n1; simpa [World.setCell] using this
  · have := d.n2; simpa [World.setCell] using this
theorem Duo.setx {w : World} {t1 v1 t2 v2 : Int} {G : Nat} {T V : Int} {g h : Nat} {X Y : Int} {W : World} (d : Duo w t1 v1 t2 v2 G T V g h X Y W) (X' : Int) :
    Duo w t1 v1 t2 v2 G T V g h X' Y ((W.setCell ⟨g, 0, none⟩ (.int .i64 0)).setCell ⟨g, 1, none⟩ (.int .i64 X')) := by
  refine ⟨d.tr.set_ d.lg d.kg _ _, cell_set0 _ _ _ _ _ d.g0, cell_set1 _ _ _ _ _ d.g1, (cell_two _ _ _ _ _ _ d.gh.symm).trans d.h0, (cell_two _ _ _ _ _ _ d.gh.symm).trans d.h1, ?_, ?_, ?_, ?_, ?_, ?_, d.gh, d.lg, d.lh, d.kg, d.kh⟩
  · rw [World.frozen?_setCell, World.frozen?_setCell]; exact d.fg0
  · rw [World.frozen?_setCell, World.frozen?_setCell]; exact d.fg1
  · rw [World.frozen?_setCell, World.frozen?_setCell]; exact d.fh0
  · rw [World.frozen?_setCell, World.frozen?_setCell]; exact d.fh1
  · have := d.ng; simpa [World.setCell] using this
  · have := d.nh; simpa [World.setCell] using this
theorem Duo.sety {w : World} {t1 v1 t2 v2 : Int} {G : Nat} {T V : Int} {g h : Nat} {X Y : Int} {W : World} (d : Duo w t1 v1 t2 v2 G T V g h X Y W) (Y' : Int) :
    Duo w t1 v1 t2 v2 G T V g h X Y' ((W.setCell ⟨h, 0, none⟩ (.int .i64 0)).setCell ⟨h, 1, none⟩ (.int .i64 Y')) := by
  refine ⟨d.tr.set_ d.lh d.kh _ _, (cell_two _ _ _ _ _ _ d.gh).trans d.g0, (cell_two _ _ _ _ _ _ d.gh).trans d.g1, cell_set0 _ _ _ _ _ d.h0, cell_set1 _ _ _ _ _ d.h1, ?_, ?_, ?_, ?_, ?_, ?_, d.gh, d.lg, d.lh, d.kg, d.kh⟩
  · rw [World.frozen?_setCell, World.frozen?_setCell]; exact d.fg0
  · rw [World.frozen?_setCell, World.frozen?_setCell]; exact d.fg1
  · rw [World.frozen?_setCell, World.frozen?_setCell]; exact d.fh0
  · rw [World.frozen?_setCell, World.frozen?_setCell]; exact d.fh1
  · have := d.ng; simpa [World.setCell] using this
  · have := d.nh; simpa [World.setCell] using this
theorem Duo.mk1 {w : World} {t1 v1 t2 v2 : Int} {G : Nat} {T V : Int} {X Y : Int} {W : World} (d : Trio w t1 v1 t2 v2 G T V W) :
    Duo w t1 v1 t2 v2 G T V W.heap.size (W.heap.size + 1) X Y (((W.alloc (.cells #[.int .i64 0, .int .i64 X] 23)).alloc (.cells #[.int .i64 0, .int .i64 Y] 23)).drew) := by
  have hb : Below W.heap.size W (((W.alloc (.cells #[.int .i64 0, .int .i64 X] 23)).alloc (.cells #[.int .i64 0, .int .i64 Y] 23)).drew) := (((Below.refl _ _).alloc (Nat.le_refl _) _).alloc (by simp) _).drew
  have n1 := d.n1
  have n2 := d.n2
  exact ⟨d.on hb, by go_simp, by go_simp, by go_simp, by go_simp, by go_simp, by go_simp, by go_simp, by go_simp, by show _ < ((W.alloc _).alloc _).heap.size; simp; omega, by show _ < ((W.alloc _).alloc _).heap.size; simp, by omega, n2, by omega, n1, by omega⟩
theorem Duo.swap {w : World} {t1 v1 t2 v2 : Int} {G : Nat} {T V : Int} {g h : Nat} {X Y : Int} {W : World} (d : Duo w t1 v1 t2 v2 G T V g h X Y W) : Duo w t1 v1 t2 v2 G T V h g Y X W :=
  ⟨d.tr, d.h0, d.h1, d.g0, d.g1, d.fh0, d.fh1, d.fg0, d.fg1, d.nh, d.ng, d.gh.symm, d.lh, d.lg, d.kh, d.kg⟩

set_option maxRecDepth 100000 in
set_option maxHeartbeats 8000000 in
theorem left_law (t1 v1 t2 v2 : Int) (w : World) (h1 : -9223372036854775808 ≤ v1 ∧ v1 ≤ 9223372036854775807) (h2 : -9223372036854775808 ≤ v2 ∧ v2 ≤ 9223372036854775807) :
    Calls Try.prog 9 #[aggV t1 v1, aggV t2 v2] w fun e w' => e = .returned (.bool true) ∧ Below w.heap.size w w' := by
  have C1 := fun W => Lib.hid (mod_any t1 v1 t2 v2 W h2)
  have C5 := fun W => Lib.hid (right_any t1 v1 W)
  have C6 := fun W => Lib.hid (right_any t2 v2 W)
  have key : (t1 != 0) = true ∨ (t1 = 0 ∧ (t2 != 0) = true) ∨ (t1 = 0 ∧ t2 = 0 ∧ rightB t1 v1 = false) ∨ (t1 = 0 ∧ t2 = 0 ∧ rightB t1 v1 = true ∧ rightB t2 v2 = false) ∨
      (t1 = 0 ∧ t2 = 0 ∧ rightB t1 v1 = true ∧ rightB t2 v2 = true ∧ v2 = 0) ∨
      (t1 = 0 ∧ t2 = 0 ∧ rightB t1 v1 = true ∧ rightB t2 v2 = true ∧ v2 ≠ 0 ∧ (-9223372036854775807 ≤ v1 ∧ v1 ≤ 9223372036854775807) ∧ (-9223372036854775807 ≤ v2 ∧ v2 ≤ 9223372036854775807) ∧ modD (toD t1 v1) (toD t2 v2) = .num (v1.tmod v2)) := by
    by_cases ht1 : t1 = 0
    · by_cases ht2 : t2 = 0
      · subst ht1 ht2
        rcases toD_cases 0 v1 with ⟨_, _, e1, r1⟩ | ⟨h, _⟩ | ⟨h, _⟩ | ⟨h, _⟩ | ⟨_, _, _, _, _, r1⟩
        · rcases toD_cases 0 v2 with ⟨_, _, e2, r2⟩ | ⟨h, _⟩ | ⟨h, _⟩ | ⟨h, _⟩ | ⟨_, _, _, _, _, r2⟩
          · by_cases hz : v2 = 0
            · exact .inr (.inr (.inr (.inr (.inl ⟨rfl, rfl, r1, r2, hz⟩))))
            · refine .inr (.inr (.inr (.inr (.inr ⟨rfl, rfl, r1, r2, hz, num_in e1 h1, num_in e2 h2, ?_⟩))))
              rw [e1, e2]
              show (if v2 = 0 then _ else _) = _
              rw [if_neg hz]
          · cases h
          · cases h
          · cases h
          · exact .inr (.inr (.inr (.inl ⟨rfl, rfl, r1, r2⟩)))
        · cases h
        · cases h
        · cases h
        · exact .inr (.inr (.inl ⟨rfl, rfl, r1⟩))
      · exact .inr (.inl ⟨ht1, by simp [ht2]⟩)
    · exact .inl (by simp [ht1])
  generalize modD (toD t1 v1) (toD t2 v2) = X1 at *
  generalize rightB t1 v1 = r1 at *
  generalize rightB t2 v2 = r2 at *
  unfold decV at C1
  unfold aggV at C1 C5 C6 ⊢
  have KEY := Lib.hid key
  clear key h1 h2
  go_enter Try.func9, Try.ntmps9
  go_wp2_with fail
  refine (C1 _).out.mono ?_
  rintro e w2 ⟨rfl, hb2⟩
  obtain ⟨a0, a1, b0, b1, _, _, n1, ok1⟩ := kept_two w _ _ _ _ 23 23 w2 hb2
  have tr : Trio w t1 v1 t2 v2 w2.heap.size (outT X1) (outV X1) (w2.alloc (.cells #[.int .i64 (outT X1), .int .i64 (outV X1)] 23)) := Trio.mk' a0 a1 b0 b1 n1 ok1
  have TR := Lib.hid tr
  obtain ⟨a0, a1, b0, b1, s0, s1, m0, m1, m2, ok2⟩ := tr
  clear hb2 C1 n1 ok1
  rcases KEY.out with d1 | ⟨rfl, d2⟩ | ⟨rfl, rfl, rfl⟩ | ⟨rfl, rfl, rfl, rfl⟩ | ⟨rfl, rfl, rfl, rfl, rfl⟩ | ⟨rfl, rfl, rfl, rfl, hz, hv1, hv2, rfl⟩
  · go_wp2_with fail
    refine (works_any _).mono ?_
    rintro e w3 ⟨rfl, h3⟩
    go_wp2_with fail
    go_ret
    exact ⟨rfl, ok2.trans (h3.mono ok2.size)⟩
  · go_wp2_with fail
    refine (works_any _).mono ?_
    rintro e w3 ⟨rfl, h3⟩
    go_wp2_with fail
    go_ret
    exact ⟨rfl, ok2.trans (h3.mono ok2.size)⟩
  · go_wp2_with fail
    refine (C5 _).out.mono ?_
    rintro e w3 ⟨rfl, h3⟩
    obtain ⟨a0, a1, b0, b1, s0, s1, m0, m1, m2, ok3⟩ := TR.out.on h3
    go_wp2_with fail
    refine (works_any _).mono ?_
    rintro e w5 ⟨rfl, h5⟩
    go_wp2_with fail
    go_ret
    exact ⟨rfl, ok3.trans (h5.mono ok3.size)⟩
  all_goals
    go_wp2_with fail
    refine (C5 _).out.mono ?_
    rintro e w3 ⟨rfl, h3⟩
    obtain ⟨a0, a1, b0, b1, s0, s1, m0, m1, m2, ok3⟩ := TR.out.on h3
    have TR3 := Lib.hid (TR.out.on h3)
    go_wp2_with fail
    refine (C6 _).out.mono ?_
    rintro e w4 ⟨rfl, h4⟩
    have TR4 := Lib.hid (TR3.out.on h4)
    obtain ⟨a0, a1, b0, b1, s0, s1, m0, m1, m2, ok4⟩ := TR3.out.on h4
  · go_wp2_with fail
    refine (works_any _).mono ?_
    rintro e w5 ⟨rfl, h5⟩
    go_wp2_with fail
    go_ret
    exact ⟨rfl, ok4.trans (h5.mono ok4.size)⟩
  · go_wp2_with fail
    refine (works_any _).mono ?_
    rintro e w5 ⟨rfl, h5⟩
    go_wp2_with fail
    go_ret
    exact ⟨rfl, ok4.trans (h5.mono ok4.size)⟩
  · have hzb : (v2 == 0) = false := by rw [beq_eq_false_iff_ne]; exact hz
    obtain ⟨l1, l2, l3, l4⟩ := left_math v1 v2 hz
    have t0 : outT (.num (v1.tmod v2)) = 0 := rfl
    have tv : outV (.num (v1.tmod v2)) = v1.tmod v2 := rfl
    rw [t0] at s0
    rw [tv] at s1
    have tr4 := TR4.out
    rw [t0, tv] at tr4
    have C8 := fun W => neg_any 0 (v1.tmod v2) W (by omega)
    have C9 := fun W => neg_any 0 v2 W (by omega)
    have e8 : toD 0 (v1.tmod v2) = .num (v1.tmod v2) := by unfold toD; rw [if_pos ⟨rfl, by omega⟩]
    have e9 : toD 0 v2 = .num v2 := by unfold toD; rw [if_pos ⟨rfl, by omega⟩]
    rw [e8] at C8
    rw [e9] at C9
    have K8 : ∀ W, Hid (Calls Try.prog 16 #[.agg #[.int .i64 0, .int .i64 (v1.tmod v2)]] W fun e w' => e = .returned (.agg #[.int .i64 0, .int .i64 (-(v1.tmod v2))]) ∧ Below W.heap.size W w') := fun W => Lib.hid (C8 W)
    have K9 : ∀ W, Hid (Calls Try.prog 16 #[.agg #[.int .i64 0, .int .i64 v2]] W fun e w' => e = .returned (.agg #[.int .i64 0, .int .i64 (-v2)]) ∧ Below W.heap.size W w') := fun W => Lib.hid (C9 W)
    have KC : ∀ x y : Int, 0 ≤ x → x < y → y ≤ 9223372036854775807 → ∀ W, Hid (Calls Try.prog 26 #[.agg #[.int .i64 0, .int .i64 x], .agg #[.int .i64 0, .int .i64 y]] W fun e w' => e = .returned (.tuple #[.int .i64 (-1), .bool true]) ∧ Below W.heap.size W w') := fun x y hx hxy hy W => by
      have ex : toD 0 x = .num x := by unfold toD; rw [if_pos ⟨rfl, by omega⟩]
      have ey : toD 0 y = .num y := by unfold toD; rw [if_pos ⟨rfl, by omega⟩]
      have := cmp_any 0 x 0 y W
      rw [ex, ey, cmp_num, if_neg (by omega), if_pos hxy] at this
      exact Lib.hid this
    generalize v1.tmod v2 = ρ at *
    have wsub : IntKind.i64.wrap (v1 - ρ) = v1 - ρ := by
      by_cases h0 : ρ = 0
      · rw [h0, Int.sub_zero]; exact IntWalk.i64_in _ (by omega)
      · have := l1 h0
        exact IntWalk.i64_in _ (by omega)
    have bsub : -9223372036854775808 ≤ v1 - ρ ∧ v1 - ρ ≤ 9223372036854775807 := by
      by_cases h0 : ρ = 0
      · omega
      · have := l1 h0
        omega
    have hsub : (ρ ≠ 0 ∧ ρ < 0 ∧ v1 < 0) ∨ (ρ ≠ 0 ∧ ¬ ρ < 0 ∧ ¬ v1 < 0) ∨ ρ = 0 := by
      by_cases h0 : ρ = 0
      · exact .inr (.inr h0)
      · have := l1 h0
        omega
    have HKC := Lib.hid KC
    have HL2 := Lib.hid l2
    have HT4 := Lib.hid tr4
    have L3 := Lib.hid l3
    clear C8 C9 e8 e9 KC l1 l2 l4 tr4 TR TR3 TR4 KEY C5 C6 t0 tv h3 h4
    have hv2s : v2 < 0 ∨ ¬ v2 < 0 := by omega
    rcases hsub with ⟨h0, hr, hv⟩ | ⟨h0, hr, hv⟩ | h0
    all_goals
      rcases hv2s with hb | hb
    · have h0b : (ρ != 0) = true := by simp [h0]
      have d1 : decide (ρ < 0) = true := decide_eq_true hr
      have d2 : decide (v1 < 0) = true := decide_eq_true hv
      have d3 : decide (v2 < 0) = true := decide_eq_true hb
      have CK := HKC.out (-ρ) (-v2) (by omega) (by have := HL2.out; omega) (by omega)
      go_upto_region 6 with fail
      go_cut [6, 7] (fun s6 s7 wx => ∃ g h : Nat, s6 = .pointer (some ⟨g, 0, none⟩) ∧ s7 = .pointer (some ⟨h, 0, none⟩) ∧ Hid (Duo w 0 v1 0 v2 w2.heap.size 0 ρ g h ρ v2 wx))
      case first =>
        go_region
        all_goals
          go_wp2_with fail
          go_meet
          first
            | exact ⟨_, _, rfl, rfl, Lib.hid (Duo.mk1 HT4.out)⟩
            | exact ⟨_, _, rfl, rfl, Lib.hid (Duo.mk1 HT4.out).swap⟩
      case rest =>
        obtain ⟨g, h, rfl, rfl, D⟩ := hcut
        obtain ⟨⟨a0, a1, b0, b1, s0, s1, m0, m1, m2, ok5⟩, g0, g1, h0', h1', fg0, fg1, fh0, fh1, ng, nh, gh, lg, lh, kg, kh⟩ := D.out
        go_wp2_with fail
        refine (K8 _).out.mono ?_
        rintro e w5 ⟨rfl, hb5⟩
        have D5 := Lib.hid (D.out.on hb5)
        obtain ⟨⟨a0, a1, b0, b1, s0, s1, m0, m1, m2, ok5⟩, g0, g1, h0', h1', fg0, fg1, fh0, fh1, ng, nh, gh, lg, lh, kg, kh⟩ := D5.out
        go_upto_region 9 with fail
        have D6 := D5.out.setx (-ρ)
        generalize ((w5.setCell ⟨g, 0, none⟩ (.int .i64 0)).setCell ⟨g, 1, none⟩ (.int .i64 (-ρ))) = W6 at D6 ⊢
        clear D5 D a0 a1 b0 b1 s0 s1 m0 m1 m2 ok5 g0 g1 h0' h1' fg0 fg1 fh0 fh1 ng nh
        have D := Lib.hid D6
        clear D6
        obtain ⟨⟨a0, a1, b0, b1, s0, s1, m0, m1, m2, ok5⟩, g0, g1, h0', h1', fg0, fg1, fh0, fh1, ng, nh, gh, lg, lh, kg, kh⟩ := D.out
        go_wp2_with fail
        refine (K9 _).out.mono ?_
        rintro e w7 ⟨rfl, hb7⟩
        have D7 := Lib.hid (D.out.on hb7)
        obtain ⟨⟨a0, a1, b0, b1, s0, s1, m0, m1, m2, ok5⟩, g0, g1, h0', h1', fg0, fg1, fh0, fh1, ng, nh, gh, lg, lh, kg, kh⟩ := D7.out
        go_upto_region 11 with fail
        have D8 := D7.out.sety (-v2)
        generalize ((w7.setCell ⟨h, 0, none⟩ (.int .i64 0)).setCell ⟨h, 1, none⟩ (.int .i64 (-v2))) = W8 at D8 ⊢
        clear D7 D a0 a1 b0 b1 s0 s1 m0 m1 m2 ok5 g0 g1 h0' h1' fg0 fg1 fh0 fh1 ng nh
        have D := Lib.hid D8
        clear D8
        obtain ⟨⟨a0, a1, b0, b1, s0, s1, m0, m1, m2, ok5⟩, g0, g1, h0', h1', fg0, fg1, fh0, fh1, ng, nh, gh, lg, lh, kg, kh⟩ := D.out
        go_wp2_with fail
        refine (CK _).out.mono ?_
        rintro e w9 ⟨rfl, hb9⟩
        have D9 := Lib.hid (D.out.on hb9)
        obtain ⟨⟨a0, a1, b0, b1, s0, s1, m0, m1, m2, ok5⟩, g0, g1, h0', h1', fg0, fg1, fh0, fh1, ng, nh, gh, lg, lh, kg, kh⟩ := D9.out
        have ht1 := L3.out
        have ht2 : (v1 - ρ) % v2 = 0 := Int.emod_eq_zero_of_dvd (Int.dvd_of_tmod_eq_zero ht1)
        go_wp2_with fail
        refine (works_any _).mono ?_
        rintro e w10 ⟨rfl, hb10⟩
        go_wp2_with fail
        go_ret
        exact ⟨rfl, ok5.trans (hb10.mono ok5.size)⟩
    · have h0b : (ρ != 0) = true := by simp [h0]
      have d1 : decide (ρ < 0) = true := decide_eq_true hr
      have d2 : decide (v1 < 0) = true := decide_eq_true hv
      have d3 : decide (v2 < 0) = false := decide_eq_false hb
      have CK := HKC.out (-ρ) v2 (by omega) (by have := HL2.out; omega) (by omega)
      go_upto_region 6 with fail
      go_cut [6, 7] (fun s6 s7 wx => ∃ g h : Nat, s6 = .pointer (some ⟨g, 0, none⟩) ∧ s7 = .pointer (some ⟨h, 0, none⟩) ∧ Hid (Duo w 0 v1 0 v2 w2.heap.size 0 ρ g h ρ v2 wx))
      case first =>
        go_region
        all_goals
          go_wp2_with fail
          go_meet
          first
            | exact ⟨_, _, rfl, rfl, Lib.hid (Duo.mk1 HT4.out)⟩
            | exact ⟨_, _, rfl, rfl, Lib.hid (Duo.mk1 HT4.out).swap⟩
      case rest =>
        obtain ⟨g, h, rfl, rfl, D⟩ := hcut
        obtain ⟨⟨a0, a1, b0, b1, s0, s1, m0, m1, m2, ok5⟩, g0, g1, h0', h1', fg0, fg1, fh0, fh1, ng, nh, gh, lg, lh, kg, kh⟩ := D.out
        go_wp2_with fail
        refine (K8 _).out.mono ?_
        rintro e w5 ⟨rfl, hb5⟩
        have D5 := Lib.hid (D.out.on hb5)
        obtain ⟨⟨a0, a1, b0, b1, s0, s1, m0, m1, m2, ok5⟩, g0, g1, h0', h1', fg0, fg1, fh0, fh1, ng, nh, gh, lg, lh, kg, kh⟩ := D5.out
        go_upto_region 9 with fail
        have D6 := D5.out.setx (-ρ)
        generalize ((w5.setCell ⟨g, 0, none⟩ (.int .i64 0)).setCell ⟨g, 1, none⟩ (.int .i64 (-ρ))) = W6 at D6 ⊢
        clear D5 D a0 a1 b0 b1 s0 s1 m0 m1 m2 ok5 g0 g1 h0' h1' fg0 fg1 fh0 fh1 ng nh
        have D := Lib.hid D6
        clear D6
        obtain ⟨⟨a0, a1, b0, b1, s0, s1, m0, m1, m2, ok5⟩, g0, g1, h0', h1', fg0, fg1, fh0, fh1, ng, nh, gh, lg, lh, kg, kh⟩ := D.out
        go_wp2_with fail
        refine (CK _).out.mono ?_
        rintro e w9 ⟨rfl, hb9⟩
        have D9 := Lib.hid (D.out.on hb9)
        obtain ⟨⟨a0, a1, b0, b1, s0, s1, m0, m1, m2, ok5⟩, g0, g1, h0', h1', fg0, fg1, fh0, fh1, ng, nh, gh, lg, lh, kg, kh⟩ := D9.out
        have ht1 := L3.out
        have ht2 : (v1 - ρ) % v2 = 0 := Int.emod_eq_zero_of_dvd (Int.dvd_of_tmod_eq_zero ht1)
        go_wp2_with fail
        refine (works_any _).mono ?_
        rintro e w10 ⟨rfl, hb10⟩
        go_wp2_with fail
        go_ret
        exact ⟨rfl, ok5.trans (hb10.mono ok5.size)⟩
    · have h0b : (ρ != 0) = true := by simp [h0]
      have d1 : decide (ρ < 0) = false := decide_eq_false hr
      have d2 : decide (v1 < 0) = false := decide_eq_false hv
      have d3 : decide (v2 < 0) = true := decide_eq_true hb
      have CK := HKC.out ρ (-v2) (by omega) (by have := HL2.out; omega) (by omega)
      go_upto_region 6 with fail
      go_cut [6, 7] (fun s6 s7 wx => ∃ g h : Nat, s6 = .pointer (some ⟨g, 0, none⟩) ∧ s7 = .pointer (some ⟨h, 0, none⟩) ∧ Hid (Duo w 0 v1 0 v2 w2.heap.size 0 ρ g h ρ v2 wx))
      case first =>
        go_region
        all_goals
          go_wp2_with fail
          go_meet
          first
            | exact ⟨_, _, rfl, rfl, Lib.hid (Duo.mk1 HT4.out)⟩
            | exact ⟨_, _, rfl, rfl, Lib.hid (Duo.mk1 HT4.out).swap⟩
      case rest =>
        obtain ⟨g, h, rfl, rfl, D⟩ := hcut
        obtain ⟨⟨a0, a1, b0, b1, s0, s1, m0, m1, m2, ok5⟩, g0, g1, h0', h1', fg0, fg1, fh0, fh1, ng, nh, gh, lg, lh, kg, kh⟩ := D.out
        go_wp2_with fail
        refine (K9 _).out.mono ?_
        rintro e w7 ⟨rfl, hb7⟩
        have D7 := Lib.hid (D.out.on hb7)
        obtain ⟨⟨a0, a1, b0, b1, s0, s1, m0, m1, m2, ok5⟩, g0, g1, h0', h1', fg0, fg1, fh0, fh1, ng, nh, gh, lg, lh, kg, kh⟩ := D7.out
        go_upto_region 11 with fail
        have D8 := D7.out.sety (-v2)
        generalize ((w7.setCell ⟨h, 0, none⟩ (.int .i64 0)).setCell ⟨h, 1, none⟩ (.int .i64 (-v2))) = W8 at D8 ⊢
        clear D7 D a0 a1 b0 b1 s0 s1 m0 m1 m2 ok5 g0 g1 h0' h1' fg0 fg1 fh0 fh1 ng nh
        have D := Lib.hid D8
        clear D8
        obtain ⟨⟨a0, a1, b0, b1, s0, s1, m0, m1, m2, ok5⟩, g0, g1, h0', h1', fg0, fg1, fh0, fh1, ng, nh, gh, lg, lh, kg, kh⟩ := D.out
        go_wp2_with fail
        refine (CK _).out.mono ?_
        rintro e w9 ⟨rfl, hb9⟩
        have D9 := Lib.hid (D.out.on hb9)
        obtain ⟨⟨a0, a1, b0, b1, s0, s1, m0, m1, m2, ok5⟩, g0, g1, h0', h1', fg0, fg1, fh0, fh1, ng, nh, gh, lg, lh, kg, kh⟩ := D9.out
        have ht1 := L3.out
        have ht2 : (v1 - ρ) % v2 = 0 := Int.emod_eq_zero_of_dvd (Int.dvd_of_tmod_eq_zero ht1)
        go_wp2_with fail
        refine (works_any _).mono ?_
        rintro e w10 ⟨rfl, hb10⟩
        go_wp2_with fail
        go_ret
        exact ⟨rfl, ok5.trans (hb10.mono ok5.size)⟩
    · have h0b : (ρ != 0) = true := by simp [h0]
      have d1 : decide (ρ < 0) = false := decide_eq_false hr
      have d2 : decide (v1 < 0) = false := decide_eq_false hv
      have d3 : decide (v2 < 0) = false := decide_eq_false hb
      have CK := HKC.out ρ v2 (by omega) (by have := HL2.out; omega) (by omega)
      go_upto_region 6 with fail
      go_cut [6, 7] (fun s6 s7 wx => ∃ g h : Nat, s6 = .pointer (some ⟨g, 0, none⟩) ∧ s7 = .pointer (some ⟨h, 0, none⟩) ∧ Hid (Duo w 0 v1 0 v2 w2.heap.size 0 ρ g h ρ v2 wx))
      case first =>
        go_region
        all_goals
          go_wp2_with fail
          go_meet
          first
            | exact ⟨_, _, rfl, rfl, Lib.hid (Duo.mk1 HT4.out)⟩
            | exact ⟨_, _, rfl, rfl, Lib.hid (Duo.mk1 HT4.out).swap⟩
      case rest =>
        obtain ⟨g, h, rfl, rfl, D⟩ := hcut
        obtain ⟨⟨a0, a1, b0, b1, s0, s1, m0, m1, m2, ok5⟩, g0, g1, h0', h1', fg0, fg1, fh0, fh1, ng, nh, gh, lg, lh, kg, kh⟩ := D.out
        go_wp2_with fail
        refine (CK _).out.mono ?_
        rintro e w9 ⟨rfl, hb9⟩
        have D9 := Lib.hid (D.out.on hb9)
        obtain ⟨⟨a0, a1, b0, b1, s0, s1, m0, m1, m2, ok5⟩, g0, g1, h0', h1', fg0, fg1, fh0, fh1, ng, nh, gh, lg, lh, kg, kh⟩ := D9.out
        have ht1 := L3.out
        have ht2 : (v1 - ρ) % v2 = 0 := Int.emod_eq_zero_of_dvd (Int.dvd_of_tmod_eq_zero ht1)
        go_wp2_with fail
        refine (works_any _).mono ?_
        rintro e w10 ⟨rfl, hb10⟩
        go_wp2_with fail
        go_ret
        exact ⟨rfl, ok5.trans (hb10.mono ok5.size)⟩
    · subst h0
      have d1 : decide ((0 : Int) < 0) = false := rfl
      have d3 : decide (v2 < 0) = true := decide_eq_true hb
      have CK := HKC.out 0 (-v2) (by omega) (by have := HL2.out; omega) (by omega)
      go_upto_region 6 with fail
      go_cut [6, 7] (fun s6 s7 wx => ∃ g h : Nat, s6 = .pointer (some ⟨g, 0, none⟩) ∧ s7 = .pointer (some ⟨h, 0, none⟩) ∧ Hid (Duo w 0 v1 0 v2 w2.heap.size 0 0 g h 0 v2 wx))
      case first =>
        go_region
        all_goals
          go_wp2_with fail
          go_meet
          first
            | exact ⟨_, _, rfl, rfl, Lib.hid (Duo.mk1 HT4.out)⟩
            | exact ⟨_, _, rfl, rfl, Lib.hid (Duo.mk1 HT4.out).swap⟩
      case rest =>
        obtain ⟨g, h, rfl, rfl, D⟩ := hcut
        obtain ⟨⟨a0, a1, b0, b1, s0, s1, m0, m1, m2, ok5⟩, g0, g1, h0', h1', fg0, fg1, fh0, fh1, ng, nh, gh, lg, lh, kg, kh⟩ := D.out
        go_wp2_with fail
        refine (K9 _).out.mono ?_
        rintro e w7 ⟨rfl, hb7⟩
        have D7 := Lib.hid (D.out.on hb7)
        obtain ⟨⟨a0, a1, b0, b1, s0, s1, m0, m1, m2, ok5⟩, g0, g1, h0', h1', fg0, fg1, fh0, fh1, ng, nh, gh, lg, lh, kg, kh⟩ := D7.out
        go_upto_region 11 with fail
        have D8 := D7.out.sety (-v2)
        generalize ((w7.setCell ⟨h, 0, none⟩ (.int .i64 0)).setCell ⟨h, 1, none⟩ (.int .i64 (-v2))) = W8 at D8 ⊢
        clear D7 D a0 a1 b0 b1 s0 s1 m0 m1 m2 ok5 g0 g1 h0' h1' fg0 fg1 fh0 fh1 ng nh
        have D := Lib.hid D8
        clear D8
        obtain ⟨⟨a0, a1, b0, b1, s0, s1, m0, m1, m2, ok5⟩, g0, g1, h0', h1', fg0, fg1, fh0, fh1, ng, nh, gh, lg, lh, kg, kh⟩ := D.out
        go_wp2_with fail
        refine (CK _).out.mono ?_
        rintro e w9 ⟨rfl, hb9⟩
        have D9 := Lib.hid (D.out.on hb9)
        obtain ⟨⟨a0, a1, b0, b1, s0, s1, m0, m1, m2, ok5⟩, g0, g1, h0', h1', fg0, fg1, fh0, fh1, ng, nh, gh, lg, lh, kg, kh⟩ := D9.out
        have ht1 := L3.out
        have ht2 : (v1 - 0) % v2 = 0 := Int.emod_eq_zero_of_dvd (Int.dvd_of_tmod_eq_zero ht1)
        rw [Int.sub_zero] at ht1 ht2
        go_wp2_with fail
        refine (works_any _).mono ?_
        rintro e w10 ⟨rfl, hb10⟩
        go_wp2_with fail
        go_ret
        exact ⟨rfl, ok5.trans (hb10.mono ok5.size)⟩
    · subst h0
      have d1 : decide ((0 : Int) < 0) = false := rfl
      have d3 : decide (v2 < 0) = false := decide_eq_false hb
      have CK := HKC.out 0 v2 (by omega) (by have := HL2.out; omega) (by omega)
      go_upto_region 6 with fail
      go_cut [6, 7] (fun s6 s7 wx => ∃ g h : Nat, s6 = .pointer (some ⟨g, 0, none⟩) ∧ s7 = .pointer (some ⟨h, 0, none⟩) ∧ Hid (Duo w 0 v1 0 v2 w2.heap.size 0 0 g h 0 v2 wx))
      case first =>
        go_region
        all_goals
          go_wp2_with fail
          go_meet
          first
            | exact ⟨_, _, rfl, rfl, Lib.hid (Duo.mk1 HT4.out)⟩
            | exact ⟨_, _, rfl, rfl, Lib.hid (Duo.mk1 HT4.out).swap⟩
      case rest =>
        obtain ⟨g, h, rfl, rfl, D⟩ := hcut
        obtain ⟨⟨a0, a1, b0, b1, s0, s1, m0, m1, m2, ok5⟩, g0, g1, h0', h1', fg0, fg1, fh0, fh1, ng, nh, gh, lg, lh, kg, kh⟩ := D.out
        go_wp2_with fail
        refine (CK _).out.mono ?_
        rintro e w9 ⟨rfl, hb9⟩
        have D9 := Lib.hid (D.out.on hb9)
        obtain ⟨⟨a0, a1, b0, b1, s0, s1, m0, m1, m2, ok5⟩, g0, g1, h0', h1', fg0, fg1, fh0, fh1, ng, nh, gh, lg, lh, kg, kh⟩ := D9.out
        have ht1 := L3.out
        have ht2 : (v1 - 0) % v2 = 0 := Int.emod_eq_zero_of_dvd (Int.dvd_of_tmod_eq_zero ht1)
        rw [Int.sub_zero] at ht1 ht2
        go_wp2_with fail
        refine (works_any _).mono ?_
        rintro e w10 ⟨rfl, hb10⟩
        go_wp2_with fail
        go_ret
        exact ⟨rfl, ok5.trans (hb10.mono ok5.size)⟩
end Go.Proofs.Ytncmmdhlponpoaa.Char
