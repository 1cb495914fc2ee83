/- Lit WdOn LexA -/
import Derived.Test.YtbemijbgbjcoeaaDoorPk03
import Derived.Maps.AppendAt
import Derived.Deep.AppendLies
import Derived.Deep.RegionLaw
import Derived.RangeFuncRecord
import Derived.Test.YtbemijbgbjcoeaaDoorPk02
/- The walk of figure's Lit. -/
namespace Go.Proofs.YtbemijbgbjcoeaaDoor.Char
end Go.Proofs.YtbemijbgbjcoeaaDoor.Char
namespace Go.Proofs.YtbemijbgbjcoeaaDoor.Fig
open Go.Proofs.YtbemijbgbjcoeaaDoor.Char Go.RowKit Go.Lib

theorem tl (l : List UInt8) : (bs l).toList = l := by rw [toList_data]; rfl
/-- a number in its cell, and yes or no, are what is returned -/
theorem end_lit {fn : Func} {p q : Tmp} (h : fn.results = #[.cell p 25, .tmp q]) {a : Act} {R : Ending → World → Prop} (w1 : World) (g : Nat) (x y : Int) (u : Bool) {z0 z1 : Value}
    (k0 : w1.cell? ⟨g, 0, none⟩ = some z0) (k1 : w1.cell? ⟨g, 1, none⟩ = some z1) (hp : a.tmps.getD p undef = .pointer (some ⟨g, 0, none⟩)) (hq : a.tmps.getD q undef = .bool u) (hd : a.defers = [])
    (hR : R (.returned (.tuple #[.agg #[.int .i64 x, .int .i64 y], .bool u])) ((w1.setCell ⟨g, 0, none⟩ (.int .i64 x)).setCell ⟨g, 1, none⟩ (.int .i64 y))) :
    bodyPost Tryd.prog fn R .ret a ((w1.setCell ⟨g, 0, none⟩ (.int .i64 x)).setCell ⟨g, 1, none⟩ (.int .i64 y)) := by
  have hp' : a.tmps[p]?.getD undef = .pointer (some ⟨g, 0, none⟩) := by simpa using hp
  have hq' : a.tmps[q]?.getD undef = .bool u := by simpa using hq
  exact bodyPost_ret (v := .tuple #[.agg #[.int .i64 x, .int .i64 y], .bool u]) (by simp [results, h, hp', hq', go_sem, k0, k1]) hd hR
def litX (o : Option Nm) : Nm := o.getD (.num 0)

theorem dropWhile_le (p : UInt8 → Bool) (l : List UInt8) : (l.dropWhile p).length ≤ l.length := (List.dropWhile_suffix p).length_le
theorem takeWhile_le (p : UInt8 → Bool) (l : List UInt8) : (l.takeWhile p).length ≤ l.length := (List.takeWhile_prefix p).length_le
theorem takeWhile_all (p : UInt8 → Bool) : ∀ l : List UInt8, ∀ b ∈ l.takeWhile p, p b = true
  | [], b, h => by cases h
  | x :: l, b, h => by
    rw [List.takeWhile_cons] at h
    split at h
    · rename_i hx
      rcases List.mem_cons.1 h with rfl | h
      · exact hx
      · exact takeWhile_all p l b h
    · cases h
/-- what a step on the box of the rest leaves -/
theorem box_step (n : Nat) (w0 w : World) (v v' : Value) (x y : Value) (hs : n + 1 < w.heap.size) (h0 : w.cell? ⟨n, 0, none⟩ = some x) (h1 : w.cell? ⟨n, 1, none⟩ = some y) (g0 : w.frozen? ⟨n, 0, none⟩ = false) (g1 : w.frozen? ⟨n, 1, none⟩ = false)
    (hc : w.cell? ⟨n + 1, 0, none⟩ = some v) (hf : w.frozen? ⟨n + 1, 0, none⟩ = false) (hb : Below n w0 w) :
    n + 1 < (w.setCell ⟨n + 1, 0, none⟩ v').heap.size ∧ (w.setCell ⟨n + 1, 0, none⟩ v').cell? ⟨n, 0, none⟩ = some x ∧ (w.setCell ⟨n + 1, 0, none⟩ v').cell? ⟨n, 1, none⟩ = some y ∧ (w.setCell ⟨n + 1, 0, none⟩ v').frozen? ⟨n, 0, none⟩ = false ∧ (w.setCell ⟨n + 1, 0, none⟩ v').frozen? ⟨n, 1, none⟩ = false ∧
      (w.setCell ⟨n + 1, 0, none⟩ v').cell? ⟨n + 1, 0, none⟩ = some v' ∧ (w.setCell ⟨n + 1, 0, none⟩ v').frozen? ⟨n + 1, 0, none⟩ = false ∧ Below n w0 (w.setCell ⟨n + 1, 0, none⟩ v') := by
  refine ⟨?_, ?_, ?_, ?_, ?_, ?_, ?_, hb.setCell (by show n ≤ n + 1; omega) _⟩
  all_goals go_simp

set_option maxRecDepth 100000 in
set_option maxHeartbeats 8000000 in
theorem lit_any (l : List UInt8) (w : World) (hl : l.length ≤ 500) :
    Calls Tryd.prog 57 #[.string (bs l)] w fun e w' => e = .returned (.tuple #[decV (litX (litL l)), .bool (litL l).isSome]) ∧ Below w.heap.size w w' := by
  obtain ⟨wd, hwd⟩ : ∃ x, x = l.takeWhile digB := ⟨_, rfl⟩
  obtain ⟨r1, hr1⟩ : ∃ x, x = l.dropWhile digB := ⟨_, rfl⟩
  obtain ⟨pt, hpt⟩ : ∃ x, x = r1.takeWhile ptB := ⟨_, rfl⟩
  obtain ⟨r2, hr2⟩ : ∃ x, x = r1.dropWhile ptB := ⟨_, rfl⟩
  obtain ⟨f, hf⟩ : ∃ x, x = r2.takeWhile digB := ⟨_, rfl⟩
  obtain ⟨r3, hr3⟩ : ∃ x, x = r2.dropWhile digB := ⟨_, rfl⟩
  have hlit : litL l = if r3 = [] ∧ pt.length ≤ 1 ∧ ¬ (wd = [] ∧ f = []) then some (toldD wd f) else none := by
    rw [hr3, hpt, hwd, hf, hr2, hr1]
    rfl
  have l1 : r1.length ≤ 500 := by have := dropWhile_le digB l; rw [hr1]; omega
  have l2 : r2.length ≤ 500 := by have := dropWhile_le ptB r1; rw [hr2]; omega
  have lw : wd.length ≤ 500 := by have := takeWhile_le digB l; rw [hwd]; omega
  have lp : pt.length ≤ 500 := by have := takeWhile_le ptB r1; rw [hpt]; omega
  have lf : f.length ≤ 500 := by have := takeWhile_le digB r2; rw [hf]; omega
  have T1 := fun W h1 h2 => take_any 78 digB asks_digit (w.heap.size + 1) l W hl h1 h2
  have T2 := fun W h1 h2 => take_any 79 ptB asks_point (w.heap.size + 1) r1 W l1 h1 h2
  have T3 := fun W h1 h2 => take_any 78 digB asks_digit (w.heap.size + 1) r2 W l2 h1 h2
  rw [← hwd, ← hr1] at T1
  rw [← hpt, ← hr2] at T2
  rw [← hf, ← hr3] at T3
  have CT := (fun W => told_any wd f W (by rw [hwd]; exact takeWhile_all _ _) (by rw [hf]; exact takeWhile_all _ _) lw lf)
  have H1 := Lib.hid T1
  have H2 := Lib.hid T2
  have H3 := Lib.hid T3
  obtain ⟨X, hX⟩ : ∃ X, litL l = X := ⟨_, rfl⟩
  obtain ⟨Y, hY⟩ : ∃ Y, toldD wd f = Y := ⟨_, rfl⟩
  rw [hY] at CT hlit
  clear hY
  rw [hX]
  rw [hX] at hlit
  have HX := Lib.hid hlit
  have HCT := Lib.hid CT
  clear CT
  have sw : (bs wd).size = wd.length := bs_size wd
  have sp : (bs pt).size = pt.length := bs_size pt
  have sf : (bs f).size = f.length := bs_size f
  have s3 : (bs r3).size = r3.length := bs_size r3
  clear hX hlit T1 T2 T3 hwd hr1 hpt hr2 hf hr3 l1 l2
  obtain ⟨W0, hW0⟩ : ∃ W0, W0 = (w.alloc (Obj.cells #[Value.int IntKind.i64 0, Value.int IntKind.i64 0] 25)).alloc (Obj.cells #[Value.string (bs l)] 9) := ⟨_, rfl⟩
  have F0 : w.heap.size + 1 < W0.heap.size ∧ W0.cell? ⟨w.heap.size, 0, none⟩ = some (.int .i64 0) ∧ W0.cell? ⟨w.heap.size, 1, none⟩ = some (.int .i64 0) ∧ W0.frozen? ⟨w.heap.size, 0, none⟩ = false ∧ W0.frozen? ⟨w.heap.size, 1, none⟩ = false ∧
      W0.cell? ⟨w.heap.size + 1, 0, none⟩ = some (.string (bs l)) ∧ W0.frozen? ⟨w.heap.size + 1, 0, none⟩ = false ∧ Below w.heap.size w W0 := by
    rw [hW0]
    refine ⟨by simp, ?_, ?_, ?_, ?_, ?_, ?_, ((Below.refl _ _).alloc (Nat.le_refl _) _).alloc (by simp) _⟩
    all_goals go_simp
  have HW0 := Lib.hid hW0
  clear hW0
  go_enter Tryd.func57, Tryd.ntmps57
  go_wp2_with fail
  rw [← HW0.out]
  obtain ⟨z0, a0, b0, c0, d0, e0, g0, k0⟩ := F0
  refine (H1.out _ e0 g0).mono ?_
  rintro e w1 ⟨rfl, hw1⟩
  have F1 := box_step _ w W0 _ (.string (bs r1)) _ _ z0 a0 b0 c0 d0 e0 g0 k0
  rw [← hw1] at F1
  clear z0 a0 b0 c0 d0 e0 g0 k0 hw1
  obtain ⟨z0, a0, b0, c0, d0, e0, g0, k0⟩ := F1
  go_wp2_with fail
  refine (H2.out _ e0 g0).mono ?_
  rintro e w2 ⟨rfl, hw2⟩
  have F2 := box_step _ w w1 _ (.string (bs r2)) _ _ z0 a0 b0 c0 d0 e0 g0 k0
  rw [← hw2] at F2
  clear z0 a0 b0 c0 d0 e0 g0 k0 hw2
  obtain ⟨z0, a0, b0, c0, d0, e0, g0, k0⟩ := F2
  go_wp2_with fail
  refine (H3.out _ e0 g0).mono ?_
  rintro e w3 ⟨rfl, hw3⟩
  have F3 := box_step _ w w2 _ (.string (bs r3)) _ _ z0 a0 b0 c0 d0 e0 g0 k0
  rw [← hw3] at F3
  clear z0 a0 b0 c0 d0 e0 g0 k0 hw3
  obtain ⟨z0, a0, b0, c0, d0, e0, g0, k0⟩ := F3
  clear H1 H2 H3
  have em : ∀ x : List UInt8, x = [] → (bs x).toList = [] := fun x h => by rw [h]; exact tl []
  have en : ∀ x : List UInt8, x ≠ [] → ¬ (bs x).toList = [] := fun x h => by rw [tl]; exact h
  have im : ∀ x : List UInt8, x = [] → (bs x).toList.isEmpty = true := fun x h => by rw [h, tl]; rfl
  have ine : ∀ x : List UInt8, x ≠ [] → (bs x).toList.isEmpty = false := fun x h => by rw [tl]; cases x with | nil => exact absurd rfl h | cons _ _ => rfl
  clear sw sf s3
  by_cases c3 : r3 = []
  · have q3 := em _ c3
    have i3 := im _ c3
    by_cases cp : pt.length ≤ 1
    · have dp : decide ((1 : Int) < (pt.length : Int)) = false := by rw [decide_eq_false_iff_not]; omega
      by_cases cw : wd = []
      · have qw := em _ cw
        have iw := im _ cw
        by_cases cf : f = []
        · have XN : Hid (X = none) := Lib.hid (by rw [HX.out, if_neg (fun h => h.2.2 ⟨cw, cf⟩)])
          have qf := em _ cf
          have if_ := im _ cf
          clear HX HCT c3 cw cf em en im ine
          go_wp2_with fail
          exact end_lit rfl w3 w.heap.size _ _ false a0 b0 rfl rfl rfl ⟨by rw [XN.out]; rfl, (k0.setCell (Nat.le_refl _) _).setCell (Nat.le_refl _) _⟩
        · have XS : Hid (X = some Y) := Lib.hid (by rw [HX.out, if_pos ⟨c3, cp, fun h => cf h.2⟩])
          have qf := en _ cf
          have if_ := ine _ cf
          clear HX c3 cw cf em en im ine
          go_wp2_with fail
          refine (HCT.out _).mono ?_
          rintro e w4 ⟨rfl, hb4⟩
          have q0 := (hb4.cell (p := ⟨w.heap.size, 0, none⟩) (by show w.heap.size < _; omega)).trans a0
          have q1 := (hb4.cell (p := ⟨w.heap.size, 1, none⟩) (by show w.heap.size < _; omega)).trans b0
          have qf0 := (hb4.frozen (p := ⟨w.heap.size, 0, none⟩) (by show w.heap.size < _; omega)).trans c0
          have qf1 := (hb4.frozen (p := ⟨w.heap.size, 1, none⟩) (by show w.heap.size < _; omega)).trans d0
          have qs := Nat.lt_of_lt_of_le z0 hb4.size
          have qb := k0.trans (hb4.mono (by omega))
          unfold decV
          clear hb4 a0 b0 c0 d0 e0 g0 z0
          have qs' : w.heap.size < w4.heap.size := by omega
          go_wp2_with fail
          exact end_lit rfl w4 w.heap.size _ _ true q0 q1 rfl rfl rfl ⟨by rw [XS.out]; rfl, (qb.setCell (Nat.le_refl _) _).setCell (Nat.le_refl _) _⟩
      · have XS : Hid (X = some Y) := Lib.hid (by rw [HX.out, if_pos ⟨c3, cp, fun h => cw h.1⟩])
        have qw := en _ cw
        have iw := ine _ cw
        clear HX c3 cw em en im ine
        go_wp2_with fail
        refine (HCT.out _).mono ?_
        rintro e w4 ⟨rfl, hb4⟩
        have q0 := (hb4.cell (p := ⟨w.heap.size, 0, none⟩) (by show w.heap.size < _; omega)).trans a0
        have q1 := (hb4.cell (p := ⟨w.heap.size, 1, none⟩) (by show w.heap.size < _; omega)).trans b0
        have qf0 := (hb4.frozen (p := ⟨w.heap.size, 0, none⟩) (by show w.heap.size < _; omega)).trans c0
        have qf1 := (hb4.frozen (p := ⟨w.heap.size, 1, none⟩) (by show w.heap.size < _; omega)).trans d0
        have qs := Nat.lt_of_lt_of_le z0 hb4.size
        have qb := k0.trans (hb4.mono (by omega))
        unfold decV
        clear hb4 a0 b0 c0 d0 e0 g0 z0
        have qs' : w.heap.size < w4.heap.size := by omega
        go_wp2_with fail
        exact end_lit rfl w4 w.heap.size _ _ true q0 q1 rfl rfl rfl ⟨by rw [XS.out]; rfl, (qb.setCell (Nat.le_refl _) _).setCell (Nat.le_refl _) _⟩
    · have XN : Hid (X = none) := Lib.hid (by rw [HX.out, if_neg (fun h => cp h.2.1)])
      have dp : decide ((1 : Int) < (pt.length : Int)) = true := by rw [decide_eq_true_iff]; omega
      clear HX HCT c3 em en im ine
      go_wp2_with fail
      exact end_lit rfl w3 w.heap.size _ _ false a0 b0 rfl rfl rfl ⟨by rw [XN.out]; rfl, (k0.setCell (Nat.le_refl _) _).setCell (Nat.le_refl _) _⟩
  · have XN : Hid (X = none) := Lib.hid (by rw [HX.out, if_neg (fun h => c3 h.1)])
    have q3 := en _ c3
    have i3 := ine _ c3
    clear HX HCT c3 em en im ine
    go_wp2_with fail
    exact end_lit rfl w3 w.heap.size _ _ false a0 b0 rfl rfl rfl ⟨by rw [XN.out]; rfl, (k0.setCell (Nat.le_refl _) _).setCell (Nat.le_refl _) _⟩
end Go.Proofs.YtbemijbgbjcoeaaDoor.Fig

/- A word in memory: in a box of its own, as a result, in a slice of one's own. -/
namespace Go.Proofs.YtbemijbgbjcoeaaDoor.Char
open Go.RowKit Go.Lib
open Go.Proofs.YtbemijbgbjcoeaaDoor.Fig (Nm outT outV decV)

theorem cell_lt {w : World} {a : Addr} {v : Value} (h : w.cell? a = some v) : a.block < w.heap.size := by
  unfold World.cell? at h
  split at h
  · rename_i hh; exact (Array.getElem?_eq_some_iff.1 hh).1
  · cases h
theorem heap_set_ne {w : World} {a : Addr} {u : Value} {k : Nat} (h : k ≠ a.block) : (w.setCell a u).heap[k]? = w.heap[k]? := Below.heap_setCell w a u k h
theorem heap_set_at {w : World} {b i : Nat} {cs : Array Value} {T : TypeId} {u : Value} (h : w.heap[b]? = some (.cells cs T (0, 0))) : (w.setCell ⟨b, i, none⟩ u).heap[b]? = some (.cells (cs.setIfInBounds i u) T (0, 0)) := by
  unfold World.setCell
  dsimp only
  rw [Array.getElem?_modify, if_pos rfl, h]
  rfl
def wdC (w : Wd) : List Value := [.int .i64 (w.k : Int), .string (bs w.s), .int .i64 (outT w.n), .int .i64 (outV w.n)]
/-- a word as a value -/
def wdV (w : Wd) : Value := .agg #[.int .i64 (w.k : Int), .string (bs w.s), .int .i64 (outT w.n), .int .i64 (outV w.n)]
def wdB (w : Wd) : Obj := .cells #[.int .i64 (w.k : Int), .string (bs w.s), .int .i64 (outT w.n), .int .i64 (outV w.n)] 47
def wd0 : Wd := ⟨0, [], .num 0⟩
theorem wd_blk {w : World} {b : Nat} {x : Wd} (h : w.heap[b]? = some (wdB x)) :
    (w.cell? ⟨b, 0, none⟩ = some (.int .i64 (x.k : Int)) ∧ w.cell? ⟨b, 1, none⟩ = some (.string (bs x.s)) ∧ w.cell? ⟨b, 2, none⟩ = some (.int .i64 (outT x.n)) ∧ w.cell? ⟨b, 3, none⟩ = some (.int .i64 (outV x.n))) ∧ ∀ i, w.frozen? ⟨b, i, none⟩ = false := by
  unfold wdB at h
  exact ⟨⟨by simp [World.cell?, h], by simp [World.cell?, h], by simp [World.cell?, h], by simp [World.cell?, h]⟩, fun i => by simp [World.frozen?, h]⟩
/-- a store of a whole word -/
def set4 (w : World) (b : Nat) (x : Wd) : World :=
  (((w.setCell ⟨b, 0, none⟩ (.int .i64 (x.k : Int))).setCell ⟨b, 1, none⟩ (.string (bs x.s))).setCell ⟨b, 2, none⟩ (.int .i64 (outT x.n))).setCell ⟨b, 3, none⟩ (.int .i64 (outV x.n))
theorem set4_at {w : World} {b : Nat} {x y : Wd} (h : w.heap[b]? = some (wdB y)) : (set4 w b x).heap[b]? = some (wdB x) := by
  unfold set4
  unfold wdB at h ⊢
  have h1 := heap_set_at (i := 0) (u := .int .i64 (x.k : Int)) h
  have h2 := heap_set_at (i := 1) (u := .string (bs x.s)) h1
  have h3 := heap_set_at (i := 2) (u := .int .i64 (outT x.n)) h2
  have h4 := heap_set_at (i := 3) (u := .int .i64 (outV x.n)) h3
  exact h4.trans (by simp)
theorem set4_ne {w : World} {b k : Nat} {x : Wd} (h : k ≠ b) : (set4 w b x).heap[k]? = w.heap[k]? := by
  unfold set4
  rw [heap_set_ne (a := ⟨b, 3, none⟩) h, heap_set_ne (a := ⟨b, 2, none⟩) h, heap_set_ne (a := ⟨b, 1, none⟩) h, heap_set_ne (a := ⟨b, 0, none⟩) h]
theorem set4_size {w : World} {b : Nat} {x : Wd} : (set4 w b x).heap.size = w.heap.size := by simp [set4]
theorem set4_below {B b : Nat} {w w' : World} {x : Wd} (h : Below B w w') (hb : B ≤ b) : Below B w (set4 w' b x) :=
  (((h.setCell (p := ⟨b, 0, none⟩) hb _).setCell (p := ⟨b, 1, none⟩) hb _).setCell (p := ⟨b, 2, none⟩) hb _).setCell (p := ⟨b, 3, none⟩) hb _
/-- two results, the first a word in a box -/
theorem end_wd2 {fn : Func} {p q : Tmp} (h : fn.results = #[.cell p 47, .tmp q]) {a : Act} {R : Ending → World → Prop} (w1 : World) (g : Nat) {x : Wd} {c : Value} (hk : w1.heap[g]? = some (wdB x))
    (hp : a.tmps.getD p undef = .pointer (some ⟨g, 0, none⟩)) (hq : a.tmps.getD q undef = c) (hd : a.defers = []) (hR : R (.returned (.tuple #[wdV x, c])) w1) : bodyPost Tryd.prog fn R .ret a w1 := by
  have hp' : a.tmps[p]?.getD undef = .pointer (some ⟨g, 0, none⟩) := by simpa using hp
  have hq' : a.tmps[q]?.getD undef = c := by simpa using hq
  obtain ⟨⟨a0, a1, a2, a3⟩, _⟩ := wd_blk hk
  unfold wdV at hR
  exact bodyPost_ret (by simp [results, h, hp', hq', go_sem, a0, a1, a2, a3]) hd hR
/-- what a function that looks for a word hands back -/
def WdPost (w : World) (o : Option (Wd × Nat)) (e : Ending) (w' : World) : Prop := e = .returned (.tuple #[wdV (o.getD (wd0, 0)).1, .int .i64 ((o.getD (wd0, 0)).2 : Int)]) ∧ Below w.heap.size w w'
theorem below_box {w : World} (o : Obj) : Below w.heap.size w (w.alloc o) := (Below.refl _ _).alloc (Nat.le_refl _) _
/-- the end of such a function: a word in the box that its result is -/
theorem end_word {fn : Func} {p q : Tmp} (h : fn.results = #[.cell p 47, .tmp q]) {a : Act} (w w1 : World) (o : Option (Wd × Nat)) {x y : Wd} {k : Int} (hk : w1.heap[w.heap.size]? = some (wdB y)) (hb : Below w.heap.size w w1)
    (hx : (o.getD (wd0, 0)).1 = x) (hn : ((o.getD (wd0, 0)).2 : Int) = k)
    (hp : a.tmps.getD p undef = .pointer (some ⟨w.heap.size, 0, none⟩)) (hq : a.tmps.getD q undef = .int .i64 k) (hd : a.defers = []) : bodyPost Tryd.prog fn (WdPost w o) .ret a (set4 w1 w.heap.size x) :=
  end_wd2 h _ w.heap.size (c := .int .i64 k) (set4_at hk) hp hq hd ⟨by rw [hx, hn], set4_below hb (Nat.le_refl _)⟩
/-- words in a slice of one's own -/
def wdsC (xs : List Wd) : List Value := xs.flatMap wdC
theorem wdsC_snoc (xs : List Wd) (x : Wd) : wdsC (xs ++ [x]) = wdsC xs ++ wdC x := by simp [wdsC]
theorem wdsC_at : ∀ (xs : List Wd) (k i : Nat) (h : k < xs.length) (_ : i < 4), (wdsC xs)[k * 4 + i]? = (wdC xs[k])[i]?
  | [], k, _, h, _ => by simp at h
  | x :: r, 0, i, _, hi => by
    show (wdC x ++ wdsC r)[0 * 4 + i]? = _
    rw [show 0 * 4 + i = i by omega, List.getElem?_append_left (by show i < 4; exact hi)]
    rfl
  | x :: r, k + 1, i, h, hi => by
    have ih := wdsC_at r k i (by simpa using h) hi
    show (wdC x ++ wdsC r)[(k + 1) * 4 + i]? = _
    rw [List.getElem?_append_right (by show 4 ≤ _; omega), show (k + 1) * 4 + i - (wdC x).length = k * 4 + i by show (k + 1) * 4 + i - 4 = _; omega, ih]
    rfl
def OwnsWd (B : Nat) (w : World) (v : Value) (xs : List Wd) : Prop := w.ownsRow B 47 4 v xs.length (wdsC xs)
theorem OwnsWd.nil (B : Nat) (w : World) : OwnsWd B w (.slice none 0 0) [] := World.ownsRow_nil _ _ _ _
theorem OwnsWd.keep {B : Nat} {w w' : World} {v : Value} {xs : List Wd} (h : OwnsWd B w v xs) (hk : ∀ g, v.ownBlock = some g → w'.heap[g]? = w.heap[g]?) : OwnsWd B w' v xs := by
  obtain ⟨h1, h2⟩ := h
  refine ⟨h1, ?_⟩
  rcases h2 with h0 | ⟨g, cap, cur, e1, e2, hg, e3⟩
  · exact .inl h0
  · exact .inr ⟨g, cap, cur, e1, e2, (hk g (by rw [e1]; rfl)).trans hg, e3⟩
theorem OwnsWd.blk {B : Nat} {w : World} {v : Value} {xs : List Wd} (h : OwnsWd B w v xs) {g : Nat} (hg : v.ownBlock = some g) : B ≤ g ∧ g < w.heap.size := World.ownsRow.lt h g hg
theorem OwnsWd.below {B : Nat} {w w' : World} {v : Value} {xs : List Wd} (h : OwnsWd B w v xs) (hb : Below w.heap.size w w') : OwnsWd B w' v xs := h.keep fun g hg => hb.block g (h.blk hg).2
theorem OwnsWd.form {B : Nat} {w : World} {v : Value} {xs : List Wd} (h : OwnsWd B w v xs) : ∃ o j, v = .slice o xs.length j := by
  rcases h.2 with ⟨h0, h1⟩ | ⟨g, cap, cur, e1, _⟩
  · exact ⟨none, 0, by rw [h0, ← h1]⟩
  · exact ⟨_, _, e1⟩
/-- what such a slice reads at a place -/
theorem OwnsWd.reads {B : Nat} {w : World} {o : Option Addr} {j : Nat} {xs : List Wd} (h : OwnsWd B w (.slice o xs.length j) xs) (k : Nat) (hk : k < xs.length) :
    ∃ g, o = some ⟨g, 0, none⟩ ∧ g < w.heap.size ∧ w.cell? ⟨g, k * 4, none⟩ = some (.int .i64 (xs[k].k : Int)) ∧ w.cell? ⟨g, k * 4 + 1, none⟩ = some (.string (bs xs[k].s)) ∧ w.cell? ⟨g, k * 4 + 2, none⟩ = some (.int .i64 (outT xs[k].n)) ∧ w.cell? ⟨g, k * 4 + 3, none⟩ = some (.int .i64 (outV xs[k].n)) := by
  have h0 := h
  rcases h.2 with ⟨h1, h2⟩ | ⟨g, cap, cur, e1, e2, hg, e3⟩
  · omega
  · have ho : o = some ⟨g, 0, none⟩ := by cases e1; rfl
    have hc := World.ownsRow.cells h0 (g := g) (by rw [e1]; rfl)
    have key : ∀ n, n < 4 → ∀ u, (wdC xs[k])[n]? = some u → w.cell? ⟨g, k * 4 + n, none⟩ = some u := fun n hn u hu => by
      have := hc (k * 4 + n) u ((wdsC_at xs k n hk hn).trans hu)
      rwa [Addr.add_lit, Nat.zero_add] at this
    exact ⟨g, ho, (Array.getElem?_eq_some_iff.1 hg).1, key 0 (by omega) _ rfl, key 1 (by omega) _ rfl, key 2 (by omega) _ rfl, key 3 (by omega) _ rfl⟩
theorem info_wd : (Tryd.prog.info? 47).map (fun i => (i.zero, i.size, i.bytes)) = some (some (.agg #[.int .i64 0, .string ⟨#[]⟩, .int .i64 0, .int .i64 0]), 4, 40) := by kernel_rfl
/-- one element more behind what a slice of one's own holds -/
theorem wpList_push {ops : Array Oper} {rest : List Oper} {o : Oper} {a : Act} {Q : Exit → Act → World → Prop} {B : Nat} {W : World} {v : Value} {n size bytes : Nat} {xs : List Value} {e st : TypeId} {z : Value}
    (hi : (Tryd.prog.info? e).map (fun i => (i.zero, i.size, i.bytes)) = some (some z, size, bytes)) (hst : Tryd.prog.underlying st = some (.slice e)) (hzs : z.cells.size = size) (hsz : 0 < size) (hby : bytes ≤ 1000)
    (hgd : o.guard = none) (s x : Operand) (ho : o.op = .call { callee := .builtin .append, args := #[s, x], argTypes := #[st, st] })
    (cs : List Value) (hcs : cs.length = size) (h1 : ∀ u ∈ cs, u.oneCell' = true) (hown : W.ownsRow B e size v n xs) (hs : a.eval s = v) (hx : a.eval x = .slice (some ⟨W.heap.size, 0, none⟩) 1 1) (hB : B ≤ W.heap.size) (hlen : n ≤ 10000000)
    (h : ∀ v' w1, w1.ownsRow B e size v' (n + 1) (xs ++ cs) → Below B W w1 → (∀ k, k < W.heap.size → some k ≠ v.ownBlock → w1.heap[k]? = W.heap[k]?) → (∀ g, v'.ownBlock = some g → v.ownBlock = some g ∨ W.heap.size ≤ g) → wpList Tryd.prog ops Q rest (a.put o.dst v') w1) :
    wpList Tryd.prog ops Q (o :: rest) a (W.alloc (.cells cs.toArray e)) := by
  obtain ⟨i0, hi, hz0, hz1, hz2⟩ := info_parts hi
  refine wpList_append_own_at _ hgd s x st ho B e i0 z size bytes hst hi hz0 hz1 hz2 hzs hsz v n xs hs (World.ownsRow.alloc hown _) ⟨W.heap.size, 0, none⟩ 1 1 cs hx (by rw [hcs, Nat.one_mul]) ?_ h1 ?_ ?_ ?_ ?_
  · intro j u hj
    have hb := World.alloc_heap_new W (.cells cs.toArray e)
    rw [Addr.add_lit, Nat.zero_add]
    simp only [World.cell?, hb]
    simpa using hj
  · unfold maxLen; omega
  · have : (n + 1) * bytes ≤ (n + 1) * 1000 := Nat.mul_le_mul_left _ hby
    omega
  · simp; omega
  · intro v' w1 hown' hgrow _ hloc
    have hsz := hgrow.size
    rw [World.size_alloc] at hsz
    refine h v' w1 hown' (((Below.refl _ _).alloc hB _).grown hgrow (by simp; omega) (fun k hk => by
      rcases hown.2 with ⟨rfl, _⟩ | ⟨g, cap, cur, rfl, hg, _⟩
      · simp [Value.ownBlock] at hk
      · simp [Value.ownBlock] at hk; omega)) (fun k hk hne => ?_) (fun g hg => ?_)
    · rw [hgrow.block k (by simp; omega) (fun e => hne e)]
      exact Below.heap_alloc W _ k hk
    · rcases hloc with hl | hl
      · exact .inl (by rw [← hl]; exact hg)
      · rw [hl] at hg
        simp at hg
        exact .inr (by omega)
theorem wpList_pushWd {ops : Array Oper} {rest : List Oper} {o : Oper} {a : Act} {Q : Exit → Act → World → Prop} {B : Nat} {W : World} {v : Value} {xs : List Wd}
    (hgd : o.guard = none) (s x : Operand) (ho : o.op = .call { callee := .builtin .append, args := #[s, x], argTypes := #[35, 35] })
    (y : Wd) (hown : OwnsWd B W v xs) (hs : a.eval s = v) (hx : a.eval x = .slice (some ⟨W.heap.size, 0, none⟩) 1 1) (hB : B ≤ W.heap.size) (hlen : xs.length ≤ 1000000)
    (h : ∀ v' w1, OwnsWd B w1 v' (xs ++ [y]) → Below B W w1 → (∀ k, k < W.heap.size → some k ≠ v.ownBlock → w1.heap[k]? = W.heap[k]?) → (∀ g, v'.ownBlock = some g → v.ownBlock = some g ∨ W.heap.size ≤ g) → wpList Tryd.prog ops Q rest (a.put o.dst v') w1) :
    wpList Tryd.prog ops Q (o :: rest) a (W.alloc (.cells #[.int .i64 (y.k : Int), .string (bs y.s), .int .i64 (outT y.n), .int .i64 (outV y.n)] 47)) := by
  refine wpList_push info_wd Tryd.underlying35 rfl (by decide) (by decide) hgd s x ho (wdC y) rfl ?_ hown hs hx hB (by omega) fun v' w1 h1 h2 h3 h4 => ?_
  · intro u hu
    simp [wdC] at hu
    rcases hu with rfl | rfl | rfl | rfl <;> rfl
  · refine h v' w1 ?_ h2 h3 h4
    unfold OwnsWd
    rw [List.length_append, wdsC_snoc]
    exact h1
end Go.Proofs.YtbemijbgbjcoeaaDoor.Char

/- Mathematics without a program: what stands behind the words of an expression. -/
namespace Go.Proofs.YtbemijbgbjcoeaaDoor.Char
open Go.Lib Go.RowKit
open Go.Proofs.YtbemijbgbjcoeaaDoor.Fig (Nm litL digB)

/-- nothing, or what begins with a space -/
def Sp (g : List UInt8) : Prop := g = [] ∨ ∃ b t, g = b :: t ∧ spC (b.toNat : Int) = true
theorem sp_low {b : UInt8} (h : spC (b.toNat : Int) = true) : b.toNat = 9 ∨ b.toNat = 10 ∨ b.toNat = 13 ∨ b.toNat = 32 := by
  unfold spC at h
  simp only [Bool.or_eq_true, beq_iff_eq] at h
  omega
theorem sp_dig {b : UInt8} (h : spC (b.toNat : Int) = true) : digB b = false := by
  have := sp_low h
  unfold digB
  rw [Bool.and_eq_false_iff, decide_eq_false_iff_not, decide_eq_false_iff_not]
  omega
theorem tw_app {p : UInt8 → Bool} {g : List UInt8} (hg : g = [] ∨ ∃ b t, g = b :: t ∧ p b = false) : ∀ l : List UInt8, (l ++ g).takeWhile p = l.takeWhile p
  | [] => by
    rcases hg with rfl | ⟨b, t, rfl, h⟩
    · rfl
    · rw [List.nil_append, List.takeWhile_cons, h]; rfl
  | x :: l => by
    rw [List.cons_append, List.takeWhile_cons, List.takeWhile_cons, tw_app hg l]
theorem Sp.dig {g : List UInt8} (h : Sp g) : g = [] ∨ ∃ b t, g = b :: t ∧ digB b = false := by
  rcases h with h | ⟨b, t, h1, h2⟩
  · exact .inl h
  · exact .inr ⟨b, t, h1, sp_dig h2⟩
theorem Sp.asc {g : List UInt8} (h : Sp g) : asc0 g = true := by
  rcases h with rfl | ⟨b, t, rfl, h2⟩
  · rfl
  · have := sp_low h2
    unfold asc0
    rw [decide_eq_true_eq]
    omega
def noSp (p : List UInt8) : Bool := p.all fun b => !spC (b.toNat : Int)
theorem pre_app {g : List UInt8} (hg : Sp g) : ∀ (p l : List UInt8), noSp p = true → p.isPrefixOf (l ++ g) = p.isPrefixOf l
  | [], l, _ => by cases l <;> cases g <;> rfl
  | x :: p, [], h => by
    rcases hg with rfl | ⟨b, t, rfl, h2⟩
    · rfl
    · unfold noSp at h
      rw [List.all_cons, Bool.and_eq_true] at h
      have hx : x ≠ b := fun e => by rw [e, h2] at h; exact absurd h.1 (by decide)
      simp [List.isPrefixOf, hx]
  | x :: p, y :: l, h => by
    unfold noSp at h
    rw [List.all_cons, Bool.and_eq_true] at h
    rw [List.cons_append, List.isPrefixOf, List.isPrefixOf, pre_app hg p l h.2]
theorem dgs_app {g : List UInt8} (hg : Sp g) (l : List UInt8) : dgs (l ++ g) = dgs l := by
  unfold dgs
  rw [tw_app hg.dig]
theorem siz_app {g : List UInt8} (hg : Sp g) (l : List UInt8) : sizN (l ++ g) = sizN l := by
  have hd := dgs_le l
  unfold sizN
  rw [dgs_app hg, List.drop_append_of_le_length hd, pre_app hg _ _ (by decide)]
  cases hp : ([46] : List UInt8).isPrefixOf (l.drop (dgs l)) with
  | false => rfl
  | true =>
    have h1 : dgs l + 1 ≤ l.length := by
      have := (List.isPrefixOf_iff_prefix.1 hp).length_le
      rw [List.length_drop] at this
      simp at this
      omega
    rw [List.drop_append_of_le_length h1, dgs_app hg]
theorem numW_app {g : List UInt8} (hg : Sp g) (l : List UInt8) : numW (l ++ g) = numW l := by
  unfold numW
  rw [siz_app hg, List.take_append_of_le_length (siz_le l)]
theorem find_congr {α : Type} {f g : α → Bool} : ∀ {l : List α}, (∀ x, x ∈ l → f x = g x) → l.find? f = l.find? g
  | [], _ => rfl
  | x :: l, h => by
    rw [List.find?_cons, List.find?_cons, h x List.mem_cons_self, find_congr fun y hy => h y (List.mem_cons_of_mem _ hy)]
theorem signW_app {g : List UInt8} (hg : Sp g) (k : Nat) (ss : List (List UInt8)) (hs : ss.all noSp = true) (l : List UInt8) : signW k ss (l ++ g) = signW k ss l := by
  unfold signW firstP
  rw [find_congr fun p hp => pre_app hg p l (List.all_eq_true.1 hs p hp)]
theorem one_app {g : List UInt8} (hg : Sp g) {l : List UInt8} (hl : l ≠ []) : oneL (l ++ g) = oneL l := by
  unfold oneL
  rw [if_neg hl, if_neg (by simp [hl]), decode_front l g hl hg.asc]
theorem sp_one {b : UInt8} (t : List UInt8) (h : spC (b.toNat : Int) = true) : oneL (b :: t) = (b.toNat, 1) := by
  have := sp_low h
  unfold oneL
  rw [if_neg (by simp), decodeL_ascii b t (by omega), if_neg (by simp; omega)]
theorem sp_run {g : List UInt8} (hg : Sp g) : runL g = 0 := by
  rcases hg with rfl | ⟨b, t, rfl, h⟩
  · rfl
  · refine run_stop (.inr ?_)
    rw [sp_one t h]
    cases hp : paC (b.toNat : Int) with
    | false => rfl
    | true => rw [pa_sp _ hp] at h; cases h
theorem run_app {g : List UInt8} (hg : Sp g) : ∀ (n : Nat) (l : List UInt8), l.length ≤ n → runL (l ++ g) = runL l
  | n, l, hn => by
    by_cases hl : l = []
    · subst hl
      rw [List.nil_append, sp_run hg]
      rfl
    · have ho := one_app hg hl
      have hlp := List.length_pos_iff.2 hl
      by_cases h0 : (oneL l).2 = 0 ∨ paC ((oneL l).1 : Int) = false
      · rw [run_stop h0, run_stop (by rw [ho]; exact h0)]
      · have h1 : (oneL l).2 ≠ 0 := fun h => h0 (.inl h)
        have h2 : paC ((oneL l).1 : Int) = true := by
          cases hp : paC ((oneL l).1 : Int) with
          | true => rfl
          | false => exact absurd (.inr hp) h0
        have hle := one_le l
        rw [run_go h1 h2, run_go (by rw [ho]; exact h1) (by rw [ho]; exact h2), ho, List.drop_append_of_le_length hle]
        match n, hn with
        | 0, hn => omega
        | n + 1, hn => rw [run_app hg n _ (by rw [List.length_drop]; omega)]
theorem runL_app {g : List UInt8} (hg : Sp g) (l : List UInt8) : runL (l ++ g) = runL l := run_app hg _ l (Nat.le_refl _)
theorem tw_full {p : UInt8 → Bool} : ∀ {l : List UInt8}, (l.takeWhile p).length = l.length → ∀ b ∈ l, p b = true
  | [], _, b, hb => by cases hb
  | x :: l, h, b, hb => by
    rw [List.takeWhile_cons] at h
    split at h
    · rename_i hx
      rcases List.mem_cons.1 hb with rfl | hb
      · exact hx
      · exact tw_full (by simpa using h) b hb
    · simp at h
theorem tw_yes {p : UInt8 → Bool} : ∀ {l : List UInt8}, (∀ b ∈ l, p b = true) → l.takeWhile p = l
  | [], _ => rfl
  | x :: l, h => by rw [List.takeWhile_cons, if_pos (h x List.mem_cons_self), tw_yes fun b hb => h b (List.mem_cons_of_mem _ hb)]
theorem tw_cut {p : UInt8 → Bool} : ∀ {l : List UInt8} (g : List UInt8), (l.takeWhile p).length ≠ l.length → (l ++ g).takeWhile p = l.takeWhile p
  | [], g, h => absurd rfl h
  | x :: l, g, h => by
    rw [List.cons_append, List.takeWhile_cons, List.takeWhile_cons]
    split
    · rename_i hx
      rw [List.takeWhile_cons, if_pos hx] at h
      rw [tw_cut g (by simpa using h)]
    · rfl
theorem litW_app {g : List UInt8} (hq : ∀ b ∈ g, b ≠ 34 ∧ b ≠ 39) {l : List UInt8} (hl : l ≠ []) : litW (l ++ g) = litW l := by
  cases l with
  | nil => exact absurd rfl hl
  | cons c t =>
    rw [List.cons_append, litW_cons, litW_cons]
    by_cases hc : c = 34 ∨ c = 39
    · rw [if_pos hc, if_pos hc]
      by_cases hf : (t.takeWhile (· != c)).length = t.length
      · rw [if_neg (show ¬ (t.takeWhile (· != c)).length < t.length by omega)]
        rw [tw_yes (l := t ++ g) (fun b hb => by
          rcases List.mem_append.1 hb with h | h
          · exact tw_full hf b h
          · have := hq b h
            rw [bne_iff_ne]
            rintro rfl
            rcases hc with rfl | rfl
            · exact this.1 rfl
            · exact this.2 rfl), if_neg (by omega)]
      · have hle := (List.takeWhile_prefix (· != c) (l := t)).length_le
        have h1 : (t.takeWhile (· != c)).length < t.length := by omega
        have h2 : (t.takeWhile (· != c)).length < (t ++ g).length := by rw [List.length_append]; omega
        rw [tw_cut g hf, if_pos h2, if_pos h1]
    · rw [if_neg hc, if_neg hc]
theorem varW_app {g : List UInt8} (hg : Sp g) {l : List UInt8} (hl : l ≠ []) : varW (l ++ g) = varW l := by
  have h1 : 1 ≤ l.length := List.length_pos_iff.2 hl
  unfold varW
  rw [pre_app hg _ _ (by decide), List.drop_append_of_le_length h1, runL_app hg, List.take_append_of_le_length (run_le _ _ (Nat.le_refl _))]
theorem nameW_app {g : List UInt8} (hg : Sp g) (e : Bool) {l : List UInt8} (hx : nxL (l.drop (runL l) ++ g) = nxL (l.drop (runL l))) : nameW e (l ++ g) = nameW e l := by
  unfold nameW
  rw [runL_app hg, List.take_append_of_le_length (run_le _ _ (Nat.le_refl _)), List.drop_append_of_le_length (run_le _ _ (Nat.le_refl _)), hx]
theorem dropS_tw (l : List UInt8) : dropS l = l.dropWhile fun b => spC (b.toNat : Int) := by
  unfold dropS spcL
  have h := List.takeWhile_append_dropWhile (p := fun b : UInt8 => spC (b.toNat : Int)) (l := l)
  have h2 := List.drop_left (l₁ := l.takeWhile fun b : UInt8 => spC (b.toNat : Int)) (l₂ := l.dropWhile fun b : UInt8 => spC (b.toNat : Int))
  rwa [h] at h2
theorem dropS_app (r g : List UInt8) : dropS (r ++ g) = if dropS r = [] then dropS g else dropS r ++ g := by
  rw [dropS_tw, dropS_tw, dropS_tw]
  induction r with
  | nil => rfl
  | cons b r ih =>
    rw [List.cons_append, List.dropWhile_cons, List.dropWhile_cons]
    split
    · exact ih
    · rw [if_neg (by simp)]; rfl
/-- behind the spaces there is none -/
theorem dropS_head {l : List UInt8} {b : UInt8} {t : List UInt8} (h : dropS l = b :: t) : spC (b.toNat : Int) = false := by
  rw [dropS_tw] at h
  induction l with
  | nil => cases h
  | cons c l ih =>
    rw [List.dropWhile_cons] at h
    split at h
    · exact ih h
    · rename_i hc
      cases h
      simpa using hc
theorem dropS_id {b : UInt8} (t : List UInt8) (h : spC (b.toNat : Int) = false) : dropS (b :: t) = b :: t := by
  rw [dropS_tw, List.dropWhile_cons, h]
  rfl
theorem nx_app {g : List UInt8} (hg : Sp g) (h0 : nxL g = 0) (r : List UInt8) : nxL (r ++ g) = nxL r := by
  unfold nxL at h0 ⊢
  rw [dropS_app]
  split
  · rename_i h
    rw [h, h0]
    rfl
  · unfold nx0
    rw [pre_app hg _ _ (by decide), pre_app hg _ _ (by decide)]
/-- more behind a space, without quotes, brackets, colons -/
theorem wd_app {g : List UInt8} (hg : Sp g) (hq : ∀ b ∈ g, b ≠ 34 ∧ b ≠ 39) (h0 : nxL g = 0) {l : List UInt8} (hl : l ≠ []) (e : Bool) : wdL (l ++ g) e = wdL l e := by
  unfold wdL
  rw [litW_app hq hl, numW_app hg, signW_app hg _ _ (by decide), signW_app hg _ _ (by decide), signW_app hg _ _ (by decide), varW_app hg hl, nameW_app hg e (nx_app hg h0 _)]
def lastE (e : Bool) : List Wd → Bool
  | [] => e
  | w :: ws => lastE (endW w) ws
def thenW (r : Nat ⊕ List Wd) (F : List Wd → Nat ⊕ List Wd) : Nat ⊕ List Wd := match r with
  | .inl x => .inl x
  | .inr ws => F ws
theorem lex_app {g : List UInt8} (hg : Sp g) (hq : ∀ b ∈ g, b ≠ 34 ∧ b ≠ 39) (h0 : nxL g = 0) : ∀ (N : Nat) (x : List UInt8), x.length ≤ N → ∀ (e : Bool) (n : Nat),
    lexG (dropS (x ++ g)) e n = thenW (lexG (dropS x) e n) fun ws => appW ws (lexG (dropS g) (lastE e ws) (n + ws.length))
  | N, x, hx, e, n => by
    rw [dropS_app]
    by_cases hl : dropS x = []
    · rw [if_pos hl, hl, lexG_nil]
      show _ = appW [] _
      rw [appW_nil]
      rfl
    · rw [if_neg hl]
      have hd := dropS_le x
      have hlg : dropS x ++ g ≠ [] := by simp [hl]
      have hw := wd_app hg hq h0 hl e
      generalize dropS x = l at *
      cases h : wdL l e with
      | none =>
        rw [h] at hw
        rw [lexG_none n hl h, lexG_none n hlg hw]
        rfl
      | some y =>
        obtain ⟨w, k⟩ := y
        rw [h] at hw
        have hk := wdL_len h
        by_cases hn : n = 120
        · subst hn
          rw [lexG_full hl h, lexG_full hlg hw]
          rfl
        · have hlp := List.length_pos_iff.2 hl
          rw [lexG_some hl h hn, lexG_some hlg hw hn, List.drop_append_of_le_length hk.2]
          match N, hx with
          | 0, hx => omega
          | N + 1, hx =>
            rw [lex_app hg hq h0 N (l.drop k) (by rw [List.length_drop]; omega)]
            cases lexG (dropS (l.drop k)) (endW w) (n + 1) with
            | inl y => rfl
            | inr ws =>
              show appW [w] (appW ws _) = appW (w :: ws) (lexG (dropS g) (lastE (endW w) ws) (n + (ws.length + 1)))
              rw [appW_app, show n + (ws.length + 1) = n + 1 + ws.length by omega]
              rfl
/-- a gap of spaces turns nothing -/
theorem gap_tx : ∀ (g y : List UInt8), (∀ b ∈ g, spC (b.toNat : Int) = true) → txD (g ++ y) = txD y
  | [], _, _ => rfl
  | b :: g, y, h => by
    have hb := h b List.mem_cons_self
    have h2 := sp_low hb
    have hc : isC (b.toNat : Int) = true := by
      rcases h2 with h | h | h | h <;> rw [h] <;> decide
    rw [List.cons_append, tx_ascii b _ (by omega), hc, gap_tx g y fun c hc => h c (List.mem_cons_of_mem _ hc)]
    rfl
theorem gap_drop : ∀ (g y : List UInt8), (∀ b ∈ g, spC (b.toNat : Int) = true) → dropS (g ++ y) = dropS y
  | [], _, _ => rfl
  | b :: g, y, h => by
    have := gap_drop g y fun c hc => h c (List.mem_cons_of_mem _ hc)
    rw [dropS_tw] at this ⊢
    rw [List.cons_append, List.dropWhile_cons, if_pos (h b List.mem_cons_self), this]
theorem gap_sp {g : List UInt8} (h : ∀ b ∈ g, spC (b.toNat : Int) = true) : Sp g := by
  cases g with
  | nil => exact .inl rfl
  | cons b t => exact .inr ⟨b, t, rfl, h b List.mem_cons_self⟩
theorem lex_gap {g s : List UInt8} (h : ∀ b ∈ g, spC (b.toNat : Int) = true) (hl : s.length + 2 * g.length ≤ 400) : lexL (g ++ (s ++ g)) = lexL s := by
  have hd : dropS g = [] := by
    have := gap_drop g [] h
    rw [List.append_nil] at this
    rw [this]
    rfl
  have htx : txD (s ++ g) = txD s := by
    rw [tx_split _ s g (Nat.le_refl _) (gap_sp h).asc]
    have := gap_tx g [] h
    rw [List.append_nil] at this
    rw [this, tx_nil, Bool.and_true]
  unfold lexL
  rw [gap_tx g _ h, gap_drop g _ h, htx, if_neg (by simp only [List.length_append]; omega), if_neg (show ¬ 400 < s.length by omega)]
  split
  · rfl
  · rw [lex_app (gap_sp h) (fun b hb => by have := sp_low (h b hb); exact ⟨fun e => by rw [e] at this; simp at this, fun e => by rw [e] at this; simp at this⟩) (by unfold nxL; rw [hd]; rfl) _ s (Nat.le_refl _), hd]
    cases lexG (dropS s) false 0 with
    | inl x => rfl
    | inr ws =>
      show appW ws (.inr []) = _
      show Sum.inr (ws ++ []) = _
      rw [List.append_nil]
end Go.Proofs.YtbemijbgbjcoeaaDoor.Char
