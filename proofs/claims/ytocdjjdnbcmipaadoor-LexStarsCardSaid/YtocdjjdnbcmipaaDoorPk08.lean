/- LawStars Witness -/
import Derived.Test.YtocdjjdnbcmipaaDoorPk07
import Derived.Test.YtocdjjdnbcmipaaDoorCards
import Derived.Test.YtocdjjdnbcmipaaDoorTie
import Derived.Test.YtocdjjdnbcmipaaDoorPk02
import Derived.PinnedBridge
import Derived.Lay
import Derived.Lib.LaidIn
import Derived.Lib.LaidU8T
import Derived.Lib.LaidTab
import Derived.Deep.DeepHandedRow
import Derived.Deep.DeepWitnessRowRef
import Derived.ProofKit
import Derived.OpenShut
import Derived.JoinedCond
import Derived.SizedLaws
import Derived.Shelf.Vars
import Derived.LaidLaws
/- A star, or one of four names, is an operator just behind what ends a part. -/
namespace Go.Proofs.YtocdjjdnbcmipaaDoor.Char
open Go.RowKit Go.Lib
open Go.Proofs.YtocdjjdnbcmipaaDoor.Fig (outT outV)

/-- the five, in memory -/
def fiveB : Obj := .cells #[.string ⟨#[42]⟩, .string ⟨#[97, 110, 100]⟩, .string ⟨#[111, 114]⟩, .string ⟨#[109, 111, 100]⟩, .string ⟨#[100, 105, 118]⟩] 9
theorem five_at (W : World) (k : Nat) (nm : List UInt8) (h : nmL[k]? = some nm) : (W.alloc fiveB).cell? ⟨W.heap.size, k, none⟩ = some (.string (bs nm)) := by
  have hb := World.alloc_heap_new W fiveB
  simp only [World.cell?, hb]
  match k, h with
  | 0, h => cases h; rfl
  | 1, h => cases h; rfl
  | 2, h => cases h; rfl
  | 3, h => cases h; rfl
  | 4, h => cases h; rfl
set_option maxHeartbeats 8000000 in
theorem stars_nil (l nm : List UInt8) (z : Int) (k K : Nat) (w : World) (k1 : decide ((380 : Int) < (l.length : Int)) = false) (hsz : (bs l).size = l.length) (hk : z.tmod 5 = (k : Int)) (hk5 : k < 5)
    (HW : Hid (∀ W : World, Below w.heap.size w W → Calls Tryd.prog 7 #[] W fun e w' => e = .returned (.bool true) ∧ Below W.heap.size W w'))
    (HA : Hid (Calls Tryd.prog 8 #[.string (bs l)] w (WordsPost w (.inr []))))
    (HX2 : Hid (∀ W : World, Below w.heap.size w W → Calls Tryd.prog 8 #[.string (bs (l ++ (32 :: nm)))] W (WordsPost W (.inr [⟨K, nm, .num 0⟩]))))
    (ha1 : ∀ wx, (Op.stringOp .add (bs l) ⟨#[32]⟩).run Tryd.prog wx = .ok (.string (bs (l ++ [32]))) wx) (ha2 : ∀ wx, (Op.stringOp .add (bs (l ++ [32])) (bs nm)).run Tryd.prog wx = .ok (.string (bs (l ++ (32 :: nm)))) wx)
    (hfive : ∀ W : World, (W.alloc (.cells #[.string ⟨#[42]⟩, .string ⟨#[97, 110, 100]⟩, .string ⟨#[111, 114]⟩, .string ⟨#[109, 111, 100]⟩, .string ⟨#[100, 105, 118]⟩] 9)).cell? ⟨W.heap.size, k, none⟩ = some (.string (bs nm)))
    (h5 : ((K : Int) == 5) = false) : Calls Tryd.prog 5 #[.string (bs l), .int .u8 z] w fun e w' => e = .returned (.bool true) ∧ Below w.heap.size w w' := by
  have hk0 : (0 : Int) ≤ (k : Int) := by omega
  have hk1 : (k : Int) < 5 := by omega
  have hss : ((bs nm).toList == (bs nm).toList) = true := by simp
  go_enter Tryd.func5, Tryd.ntmps5
  go_wp2_with (first
    | (go_at_call 8
       have C := HA.out
       with_reducible refine C.mono ?_
       clear C
       intro e w1 hq
       obtain ⟨v1, x1, rfl, hb1, rfl, ho⟩ := words_out hq
       obtain ⟨o1, j1, hv1⟩ := ho.form
       subst hv1
       have HB1 := Lib.hid hb1
       clear hq hb1 ho HA)
    | (go_at_call 8
       refine (HX2.out _ (HB1.out.alloc HB1.out.size _)).mono ?_
       intro e w2 hq
       obtain ⟨v2, x2, rfl, hb2, rfl, ho⟩ := words_out hq
       obtain ⟨o2, j2, hv2⟩ := ho.form
       rw [hv2] at ho
       obtain ⟨g2, rfl, hg2, y0, y1, y2, y3⟩ := ho.reads 0 (Nat.lt_succ_self 0)
       subst hv2
       have HB2 := Lib.hid ((HB1.out.alloc HB1.out.size _).trans (hb2.mono (HB1.out.alloc HB1.out.size _).size))
       clear hq hb2 ho hg2)
    | (go_at_call 7
       refine (HW.out _ (HB2.out.alloc HB2.out.size _)).mono ?_
       rintro e w4 ⟨rfl, hb4⟩
       have HB4 := Lib.hid ((HB2.out.alloc HB2.out.size _).trans (hb4.mono (HB2.out.alloc HB2.out.size _).size))
       clear hb4))
  go_ret
  exact ⟨rfl, HB4.out⟩
set_option maxHeartbeats 8000000 in
theorem stars_op (l nm : List UInt8) (z : Int) (k K : Nat) (xs : List Wd) (x : Wd) (w : World) (k1 : decide ((380 : Int) < (l.length : Int)) = false) (hsz : (bs l).size = l.length) (hk : z.tmod 5 = (k : Int)) (hk5 : k < 5) (hn : xs.length + 1 ≤ 118)
    (HW : Hid (∀ W : World, Below w.heap.size w W → Calls Tryd.prog 7 #[] W fun e w' => e = .returned (.bool true) ∧ Below W.heap.size W w'))
    (HA : Hid (Calls Tryd.prog 8 #[.string (bs l)] w (WordsPost w (.inr (xs ++ [x])))))
    (HX2 : Hid (∀ W : World, Below w.heap.size w W → Calls Tryd.prog 8 #[.string (bs (l ++ (32 :: nm)))] W (WordsPost W (.inr (xs ++ [x] ++ [⟨K, nm, .num 0⟩])))))
    (ha1 : ∀ wx, (Op.stringOp .add (bs l) ⟨#[32]⟩).run Tryd.prog wx = .ok (.string (bs (l ++ [32]))) wx) (ha2 : ∀ wx, (Op.stringOp .add (bs (l ++ [32])) (bs nm)).run Tryd.prog wx = .ok (.string (bs (l ++ (32 :: nm)))) wx)
    (hfive : ∀ W : World, (W.alloc (.cells #[.string ⟨#[42]⟩, .string ⟨#[97, 110, 100]⟩, .string ⟨#[111, 114]⟩, .string ⟨#[109, 111, 100]⟩, .string ⟨#[100, 105, 118]⟩] 9)).cell? ⟨W.heap.size, k, none⟩ = some (.string (bs nm)))
    (h5 : ((K : Int) == 5) = false) (c1 : ((x.k : Int) != 5) = false) : Calls Tryd.prog 5 #[.string (bs l), .int .u8 z] w fun e w' => e = .returned (.bool true) ∧ Below w.heap.size w w' := by
  have hk0 : (0 : Int) ≤ (k : Int) := by omega
  have hk1 : (k : Int) < 5 := by omega
  have hss : ((bs nm).toList == (bs nm).toList) = true := by simp
  have k2 : decide ((118 : Int) < (xs.length : Int) + 1) = false := decide_eq_false (by omega)
  have k3 : decide ((0 : Int) < (xs.length : Int) + 1) = true := decide_eq_true (by omega)
  go_enter Tryd.func5, Tryd.ntmps5
  go_wp2_with (first
    | (go_at_call 8
       have C := HA.out
       with_reducible refine C.mono ?_
       clear C
       intro e w1 hq
       obtain ⟨v1, x1, rfl, hb1, rfl, ho⟩ := words_out hq
       obtain ⟨o1, j1, hv1⟩ := ho.form
       rw [hv1] at ho
       obtain ⟨g1, rfl, hg1, z0, z1, z2, z3⟩ := ho.reads xs.length (by rw [List.length_append, List.length_singleton]; omega)
       have hl1 : (xs ++ [x]).length = xs.length + 1 := by rw [List.length_append, List.length_singleton]
       have hx1 : ∀ h, (xs ++ [x])[xs.length]'h = x := fun h => by simp
       rw [hx1] at z0 z1 z2 z3
       rw [hl1] at hv1
       subst hv1
       have HZ1 := Lib.hid fun (W : World) (hb : Below w1.heap.size w1 W) => And.intro ((hb.cell (p := ⟨g1, xs.length * 4, none⟩) hg1).trans z0) ((hb.cell (p := ⟨g1, xs.length * 4 + 1, none⟩) hg1).trans z1)
       clear z0 z1 z2 z3 hg1 hl1 hx1
       have HB1 := Lib.hid hb1
       clear hq hb1 ho HA)
    | (go_at_call 8
       refine (HX2.out _ (HB1.out.alloc HB1.out.size _)).mono ?_
       intro e w2 hq
       obtain ⟨v2, x2, rfl, hb2, rfl, ho⟩ := words_out hq
       obtain ⟨o2, j2, hv2⟩ := ho.form
       rw [hv2] at ho
       obtain ⟨g2, rfl, hg2, y0, y1, y2, y3⟩ := ho.reads (xs.length + 1) (by simp)
       have hl2 : (xs ++ [x] ++ [(⟨K, nm, .num 0⟩ : Wd)]).length = xs.length + 1 + 1 := by simp
       have hx2 : ∀ h, (xs ++ [x] ++ [(⟨K, nm, .num 0⟩ : Wd)])[xs.length + 1]'h = ⟨K, nm, .num 0⟩ := fun h => by simp
       rw [hx2] at y0 y1 y2 y3
       rw [hl2] at hv2
       subst hv2
       obtain ⟨z0, z1⟩ := HZ1.out _ ((below_box _).trans (hb2.mono (below_box _).size))
       have HB12 := Lib.hid ((below_box (w := w1) fiveB).trans (hb2.mono (below_box (w := w1) fiveB).size))
       obtain ⟨u0, u1⟩ := HZ1.out _ (HB12.out.trans ((below_box (.cells #[.int .i64 (K : Int), .string (bs nm), .int .i64 (outT (.num 0)), .int .i64 (outV (.num 0))] 35)).mono HB12.out.size))
       clear hl2 hx2
       have HB2 := Lib.hid ((HB1.out.alloc HB1.out.size _).trans (hb2.mono (HB1.out.alloc HB1.out.size _).size))
       clear hq hb2 ho hg2)
    | (go_at_call 7
       refine (HW.out _ (HB2.out.alloc HB2.out.size _)).mono ?_
       rintro e w4 ⟨rfl, hb4⟩
       have HB4 := Lib.hid ((HB2.out.alloc HB2.out.size _).trans (hb4.mono (HB2.out.alloc HB2.out.size _).size))
       clear hb4))
  go_ret
  exact ⟨rfl, HB4.out⟩
set_option maxHeartbeats 8000000 in
theorem stars_other (l nm : List UInt8) (z : Int) (k K : Nat) (xs : List Wd) (x : Wd) (w : World) (k1 : decide ((380 : Int) < (l.length : Int)) = false) (hsz : (bs l).size = l.length) (hk : z.tmod 5 = (k : Int)) (hk5 : k < 5) (hn : xs.length + 1 ≤ 118)
    (HW : Hid (∀ W : World, Below w.heap.size w W → Calls Tryd.prog 7 #[] W fun e w' => e = .returned (.bool true) ∧ Below W.heap.size W w'))
    (HA : Hid (Calls Tryd.prog 8 #[.string (bs l)] w (WordsPost w (.inr (xs ++ [x])))))
    (HX2 : Hid (∀ W : World, Below w.heap.size w W → Calls Tryd.prog 8 #[.string (bs (l ++ (32 :: nm)))] W (WordsPost W (.inr (xs ++ [x] ++ [⟨K, nm, .num 0⟩])))))
    (ha1 : ∀ wx, (Op.stringOp .add (bs l) ⟨#[32]⟩).run Tryd.prog wx = .ok (.string (bs (l ++ [32]))) wx) (ha2 : ∀ wx, (Op.stringOp .add (bs (l ++ [32])) (bs nm)).run Tryd.prog wx = .ok (.string (bs (l ++ (32 :: nm)))) wx)
    (hfive : ∀ W : World, (W.alloc (.cells #[.string ⟨#[42]⟩, .string ⟨#[97, 110, 100]⟩, .string ⟨#[111, 114]⟩, .string ⟨#[109, 111, 100]⟩, .string ⟨#[100, 105, 118]⟩] 9)).cell? ⟨W.heap.size, k, none⟩ = some (.string (bs nm)))
    (h5 : ((K : Int) == 5) = true) (c1 : ((x.k : Int) != 5) = true) (c2 : ((x.k : Int) == 1) = false) : Calls Tryd.prog 5 #[.string (bs l), .int .u8 z] w fun e w' => e = .returned (.bool true) ∧ Below w.heap.size w w' := by
  have hk0 : (0 : Int) ≤ (k : Int) := by omega
  have hk1 : (k : Int) < 5 := by omega
  have hss : ((bs nm).toList == (bs nm).toList) = true := by simp
  have k2 : decide ((118 : Int) < (xs.length : Int) + 1) = false := decide_eq_false (by omega)
  have k3 : decide ((0 : Int) < (xs.length : Int) + 1) = true := decide_eq_true (by omega)
  go_enter Tryd.func5, Tryd.ntmps5
  go_wp2_with (first
    | (go_at_call 8
       have C := HA.out
       with_reducible refine C.mono ?_
       clear C
       intro e w1 hq
       obtain ⟨v1, x1, rfl, hb1, rfl, ho⟩ := words_out hq
       obtain ⟨o1, j1, hv1⟩ := ho.form
       rw [hv1] at ho
       obtain ⟨g1, rfl, hg1, z0, z1, z2, z3⟩ := ho.reads xs.length (by rw [List.length_append, List.length_singleton]; omega)
       have hl1 : (xs ++ [x]).length = xs.length + 1 := by rw [List.length_append, List.length_singleton]
       have hx1 : ∀ h, (xs ++ [x])[xs.length]'h = x := fun h => by simp
       rw [hx1] at z0 z1 z2 z3
       rw [hl1] at hv1
       subst hv1
       have HZ1 := Lib.hid fun (W : World) (hb : Below w1.heap.size w1 W) => And.intro ((hb.cell (p := ⟨g1, xs.length * 4, none⟩) hg1).trans z0) ((hb.cell (p := ⟨g1, xs.length * 4 + 1, none⟩) hg1).trans z1)
       clear z0 z1 z2 z3 hg1 hl1 hx1
       have HB1 := Lib.hid hb1
       clear hq hb1 ho HA)
    | (go_at_call 8
       refine (HX2.out _ (HB1.out.alloc HB1.out.size _)).mono ?_
       intro e w2 hq
       obtain ⟨v2, x2, rfl, hb2, rfl, ho⟩ := words_out hq
       obtain ⟨o2, j2, hv2⟩ := ho.form
       rw [hv2] at ho
       obtain ⟨g2, rfl, hg2, y0, y1, y2, y3⟩ := ho.reads (xs.length + 1) (by simp)
       have hl2 : (xs ++ [x] ++ [(⟨K, nm, .num 0⟩ : Wd)]).length = xs.length + 1 + 1 := by simp
       have hx2 : ∀ h, (xs ++ [x] ++ [(⟨K, nm, .num 0⟩ : Wd)])[xs.length + 1]'h = ⟨K, nm, .num 0⟩ := fun h => by simp
       rw [hx2] at y0 y1 y2 y3
       rw [hl2] at hv2
       subst hv2
       obtain ⟨z0, z1⟩ := HZ1.out _ ((below_box _).trans (hb2.mono (below_box _).size))
       have HB12 := Lib.hid ((below_box (w := w1) fiveB).trans (hb2.mono (below_box (w := w1) fiveB).size))
       obtain ⟨u0, u1⟩ := HZ1.out _ (HB12.out.trans ((below_box (.cells #[.int .i64 (K : Int), .string (bs nm), .int .i64 (outT (.num 0)), .int .i64 (outV (.num 0))] 35)).mono HB12.out.size))
       clear hl2 hx2
       have HB2 := Lib.hid ((HB1.out.alloc HB1.out.size _).trans (hb2.mono (HB1.out.alloc HB1.out.size _).size))
       clear hq hb2 ho hg2)
    | (go_at_call 7
       refine (HW.out _ (HB2.out.alloc HB2.out.size _)).mono ?_
       rintro e w4 ⟨rfl, hb4⟩
       have HB4 := Lib.hid ((HB2.out.alloc HB2.out.size _).trans (hb4.mono (HB2.out.alloc HB2.out.size _).size))
       clear hb4))
  go_ret
  exact ⟨rfl, HB4.out⟩
set_option maxHeartbeats 8000000 in
theorem stars_m1 (l nm : List UInt8) (z : Int) (k K : Nat) (xs : List Wd) (x : Wd) (w : World) (k1 : decide ((380 : Int) < (l.length : Int)) = false) (hsz : (bs l).size = l.length) (hk : z.tmod 5 = (k : Int)) (hk5 : k < 5) (hn : xs.length + 1 ≤ 118)
    (HW : Hid (∀ W : World, Below w.heap.size w W → Calls Tryd.prog 7 #[] W fun e w' => e = .returned (.bool true) ∧ Below W.heap.size W w'))
    (HA : Hid (Calls Tryd.prog 8 #[.string (bs l)] w (WordsPost w (.inr (xs ++ [x])))))
    (HX2 : Hid (∀ W : World, Below w.heap.size w W → Calls Tryd.prog 8 #[.string (bs (l ++ (32 :: nm)))] W (WordsPost W (.inr (xs ++ [x] ++ [⟨K, nm, .num 0⟩])))))
    (ha1 : ∀ wx, (Op.stringOp .add (bs l) ⟨#[32]⟩).run Tryd.prog wx = .ok (.string (bs (l ++ [32]))) wx) (ha2 : ∀ wx, (Op.stringOp .add (bs (l ++ [32])) (bs nm)).run Tryd.prog wx = .ok (.string (bs (l ++ (32 :: nm)))) wx)
    (hfive : ∀ W : World, (W.alloc (.cells #[.string ⟨#[42]⟩, .string ⟨#[97, 110, 100]⟩, .string ⟨#[111, 114]⟩, .string ⟨#[109, 111, 100]⟩, .string ⟨#[100, 105, 118]⟩] 9)).cell? ⟨W.heap.size, k, none⟩ = some (.string (bs nm)))
    (h5 : ((K : Int) == 5) = true) (c1 : ((x.k : Int) != 5) = true) (c2 : ((x.k : Int) == 1) = true) (f1 : ((bs x.s).toList == [41]) = true) : Calls Tryd.prog 5 #[.string (bs l), .int .u8 z] w fun e w' => e = .returned (.bool true) ∧ Below w.heap.size w w' := by
  have hk0 : (0 : Int) ≤ (k : Int) := by omega
  have hk1 : (k : Int) < 5 := by omega
  have hss : ((bs nm).toList == (bs nm).toList) = true := by simp
  have k2 : decide ((118 : Int) < (xs.length : Int) + 1) = false := decide_eq_false (by omega)
  have k3 : decide ((0 : Int) < (xs.length : Int) + 1) = true := decide_eq_true (by omega)
  go_enter Tryd.func5, Tryd.ntmps5
  go_wp2_with (first
    | (go_at_call 8
       have C := HA.out
       with_reducible refine C.mono ?_
       clear C
       intro e w1 hq
       obtain ⟨v1, x1, rfl, hb1, rfl, ho⟩ := words_out hq
       obtain ⟨o1, j1, hv1⟩ := ho.form
       rw [hv1] at ho
       obtain ⟨g1, rfl, hg1, z0, z1, z2, z3⟩ := ho.reads xs.length (by rw [List.length_append, List.length_singleton]; omega)
       have hl1 : (xs ++ [x]).length = xs.length + 1 := by rw [List.length_append, List.length_singleton]
       have hx1 : ∀ h, (xs ++ [x])[xs.length]'h = x := fun h => by simp
       rw [hx1] at z0 z1 z2 z3
       rw [hl1] at hv1
       subst hv1
       have HZ1 := Lib.hid fun (W : World) (hb : Below w1.heap.size w1 W) => And.intro ((hb.cell (p := ⟨g1, xs.length * 4, none⟩) hg1).trans z0) ((hb.cell (p := ⟨g1, xs.length * 4 + 1, none⟩) hg1).trans z1)
       clear z0 z1 z2 z3 hg1 hl1 hx1
       have HB1 := Lib.hid hb1
       clear hq hb1 ho HA)
    | (go_at_call 8
       refine (HX2.out _ (HB1.out.alloc HB1.out.size _)).mono ?_
       intro e w2 hq
       obtain ⟨v2, x2, rfl, hb2, rfl, ho⟩ := words_out hq
       obtain ⟨o2, j2, hv2⟩ := ho.form
       rw [hv2] at ho
       obtain ⟨g2, rfl, hg2, y0, y1, y2, y3⟩ := ho.reads (xs.length + 1) (by simp)
       have hl2 : (xs ++ [x] ++ [(⟨K, nm, .num 0⟩ : Wd)]).length = xs.length + 1 + 1 := by simp
       have hx2 : ∀ h, (xs ++ [x] ++ [(⟨K, nm, .num 0⟩ : Wd)])[xs.length + 1]'h = ⟨K, nm, .num 0⟩ := fun h => by simp
       rw [hx2] at y0 y1 y2 y3
       rw [hl2] at hv2
       subst hv2
       obtain ⟨z0, z1⟩ := HZ1.out _ ((below_box _).trans (hb2.mono (below_box _).size))
       have HB12 := Lib.hid ((below_box (w := w1) fiveB).trans (hb2.mono (below_box (w := w1) fiveB).size))
       obtain ⟨u0, u1⟩ := HZ1.out _ (HB12.out.trans ((below_box (.cells #[.int .i64 (K : Int), .string (bs nm), .int .i64 (outT (.num 0)), .int .i64 (outV (.num 0))] 35)).mono HB12.out.size))
       clear hl2 hx2
       have HB2 := Lib.hid ((HB1.out.alloc HB1.out.size _).trans (hb2.mono (HB1.out.alloc HB1.out.size _).size))
       clear hq hb2 ho hg2)
    | (go_at_call 7
       refine (HW.out _ (HB2.out.alloc HB2.out.size _)).mono ?_
       rintro e w4 ⟨rfl, hb4⟩
       have HB4 := Lib.hid ((HB2.out.alloc HB2.out.size _).trans (hb4.mono (HB2.out.alloc HB2.out.size _).size))
       clear hb4))
  go_ret
  exact ⟨rfl, HB4.out⟩
set_option maxHeartbeats 8000000 in
theorem stars_m2 (l nm : List UInt8) (z : Int) (k K : Nat) (xs : List Wd) (x : Wd) (w : World) (k1 : decide ((380 : Int) < (l.length : Int)) = false) (hsz : (bs l).size = l.length) (hk : z.tmod 5 = (k : Int)) (hk5 : k < 5) (hn : xs.length + 1 ≤ 118)
    (HW : Hid (∀ W : World, Below w.heap.size w W → Calls Tryd.prog 7 #[] W fun e w' => e = .returned (.bool true) ∧ Below W.heap.size W w'))
    (HA : Hid (Calls Tryd.prog 8 #[.string (bs l)] w (WordsPost w (.inr (xs ++ [x])))))
    (HX2 : Hid (∀ W : World, Below w.heap.size w W → Calls Tryd.prog 8 #[.string (bs (l ++ (32 :: nm)))] W (WordsPost W (.inr (xs ++ [x] ++ [⟨K, nm, .num 0⟩])))))
    (ha1 : ∀ wx, (Op.stringOp .add (bs l) ⟨#[32]⟩).run Tryd.prog wx = .ok (.string (bs (l ++ [32]))) wx) (ha2 : ∀ wx, (Op.stringOp .add (bs (l ++ [32])) (bs nm)).run Tryd.prog wx = .ok (.string (bs (l ++ (32 :: nm)))) wx)
    (hfive : ∀ W : World, (W.alloc (.cells #[.string ⟨#[42]⟩, .string ⟨#[97, 110, 100]⟩, .string ⟨#[111, 114]⟩, .string ⟨#[109, 111, 100]⟩, .string ⟨#[100, 105, 118]⟩] 9)).cell? ⟨W.heap.size, k, none⟩ = some (.string (bs nm)))
    (h5 : ((K : Int) == 5) = true) (c1 : ((x.k : Int) != 5) = true) (c2 : ((x.k : Int) == 1) = true) (f1 : ((bs x.s).toList == [41]) = false) (f2 : ((bs x.s).toList == [93]) = true) : Calls Tryd.prog 5 #[.string (bs l), .int .u8 z] w fun e w' => e = .returned (.bool true) ∧ Below w.heap.size w w' := by
  have hk0 : (0 : Int) ≤ (k : Int) := by omega
  have hk1 : (k : Int) < 5 := by omega
  have hss : ((bs nm).toList == (bs nm).toList) = true := by simp
  have k2 : decide ((118 : Int) < (xs.length : Int) + 1) = false := decide_eq_false (by omega)
  have k3 : decide ((0 : Int) < (xs.length : Int) + 1) = true := decide_eq_true (by omega)
  go_enter Tryd.func5, Tryd.ntmps5
  go_wp2_with (first
    | (go_at_call 8
       have C := HA.out
       with_reducible refine C.mono ?_
       clear C
       intro e w1 hq
       obtain ⟨v1, x1, rfl, hb1, rfl, ho⟩ := words_out hq
       obtain ⟨o1, j1, hv1⟩ := ho.form
       rw [hv1] at ho
       obtain ⟨g1, rfl, hg1, z0, z1, z2, z3⟩ := ho.reads xs.length (by rw [List.length_append, List.length_singleton]; omega)
       have hl1 : (xs ++ [x]).length = xs.length + 1 := by rw [List.length_append, List.length_singleton]
       have hx1 : ∀ h, (xs ++ [x])[xs.length]'h = x := fun h => by simp
       rw [hx1] at z0 z1 z2 z3
       rw [hl1] at hv1
       subst hv1
       have HZ1 := Lib.hid fun (W : World) (hb : Below w1.heap.size w1 W) => And.intro ((hb.cell (p := ⟨g1, xs.length * 4, none⟩) hg1).trans z0) ((hb.cell (p := ⟨g1, xs.length * 4 + 1, none⟩) hg1).trans z1)
       clear z0 z1 z2 z3 hg1 hl1 hx1
       have HB1 := Lib.hid hb1
       clear hq hb1 ho HA)
    | (go_at_call 8
       refine (HX2.out _ (HB1.out.alloc HB1.out.size _)).mono ?_
       intro e w2 hq
       obtain ⟨v2, x2, rfl, hb2, rfl, ho⟩ := words_out hq
       obtain ⟨o2, j2, hv2⟩ := ho.form
       rw [hv2] at ho
       obtain ⟨g2, rfl, hg2, y0, y1, y2, y3⟩ := ho.reads (xs.length + 1) (by simp)
       have hl2 : (xs ++ [x] ++ [(⟨K, nm, .num 0⟩ : Wd)]).length = xs.length + 1 + 1 := by simp
       have hx2 : ∀ h, (xs ++ [x] ++ [(⟨K, nm, .num 0⟩ : Wd)])[xs.length + 1]'h = ⟨K, nm, .num 0⟩ := fun h => by simp
       rw [hx2] at y0 y1 y2 y3
       rw [hl2] at hv2
       subst hv2
       obtain ⟨z0, z1⟩ := HZ1.out _ ((below_box _).trans (hb2.mono (below_box _).size))
       have HB12 := Lib.hid ((below_box (w := w1) fiveB).trans (hb2.mono (below_box (w := w1) fiveB).size))
       obtain ⟨u0, u1⟩ := HZ1.out _ (HB12.out.trans ((below_box (.cells #[.int .i64 (K : Int), .string (bs nm), .int .i64 (outT (.num 0)), .int .i64 (outV (.num 0))] 35)).mono HB12.out.size))
       clear hl2 hx2
       have HB2 := Lib.hid ((HB1.out.alloc HB1.out.size _).trans (hb2.mono (HB1.out.alloc HB1.out.size _).size))
       clear hq hb2 ho hg2)
    | (go_at_call 7
       refine (HW.out _ (HB2.out.alloc HB2.out.size _)).mono ?_
       rintro e w4 ⟨rfl, hb4⟩
       have HB4 := Lib.hid ((HB2.out.alloc HB2.out.size _).trans (hb4.mono (HB2.out.alloc HB2.out.size _).size))
       clear hb4))
  go_ret
  exact ⟨rfl, HB4.out⟩
set_option maxHeartbeats 8000000 in
theorem stars_m3 (l nm : List UInt8) (z : Int) (k K : Nat) (xs : List Wd) (x : Wd) (w : World) (k1 : decide ((380 : Int) < (l.length : Int)) = false) (hsz : (bs l).size = l.length) (hk : z.tmod 5 = (k : Int)) (hk5 : k < 5) (hn : xs.length + 1 ≤ 118)
    (HW : Hid (∀ W : World, Below w.heap.size w W → Calls Tryd.prog 7 #[] W fun e w' => e = .returned (.bool true) ∧ Below W.heap.size W w'))
    (HA : Hid (Calls Tryd.prog 8 #[.string (bs l)] w (WordsPost w (.inr (xs ++ [x])))))
    (HX2 : Hid (∀ W : World, Below w.heap.size w W → Calls Tryd.prog 8 #[.string (bs (l ++ (32 :: nm)))] W (WordsPost W (.inr (xs ++ [x] ++ [⟨K, nm, .num 0⟩])))))
    (ha1 : ∀ wx, (Op.stringOp .add (bs l) ⟨#[32]⟩).run Tryd.prog wx = .ok (.string (bs (l ++ [32]))) wx) (ha2 : ∀ wx, (Op.stringOp .add (bs (l ++ [32])) (bs nm)).run Tryd.prog wx = .ok (.string (bs (l ++ (32 :: nm)))) wx)
    (hfive : ∀ W : World, (W.alloc (.cells #[.string ⟨#[42]⟩, .string ⟨#[97, 110, 100]⟩, .string ⟨#[111, 114]⟩, .string ⟨#[109, 111, 100]⟩, .string ⟨#[100, 105, 118]⟩] 9)).cell? ⟨W.heap.size, k, none⟩ = some (.string (bs nm)))
    (h5 : ((K : Int) == 5) = true) (c1 : ((x.k : Int) != 5) = true) (c2 : ((x.k : Int) == 1) = true) (f1 : ((bs x.s).toList == [41]) = false) (f2 : ((bs x.s).toList == [93]) = false) (f3 : ((bs x.s).toList == [46]) = true) : Calls Tryd.prog 5 #[.string (bs l), .int .u8 z] w fun e w' => e = .returned (.bool true) ∧ Below w.heap.size w w' := by
  have hk0 : (0 : Int) ≤ (k : Int) := by omega
  have hk1 : (k : Int) < 5 := by omega
  have hss : ((bs nm).toList == (bs nm).toList) = true := by simp
  have k2 : decide ((118 : Int) < (xs.length : Int) + 1) = false := decide_eq_false (by omega)
  have k3 : decide ((0 : Int) < (xs.length : Int) + 1) = true := decide_eq_true (by omega)
  go_enter Tryd.func5, Tryd.ntmps5
  go_wp2_with (first
    | (go_at_call 8
       have C := HA.out
       with_reducible refine C.mono ?_
       clear C
       intro e w1 hq
       obtain ⟨v1, x1, rfl, hb1, rfl, ho⟩ := words_out hq
       obtain ⟨o1, j1, hv1⟩ := ho.form
       rw [hv1] at ho
       obtain ⟨g1, rfl, hg1, z0, z1, z2, z3⟩ := ho.reads xs.length (by rw [List.length_append, List.length_singleton]; omega)
       have hl1 : (xs ++ [x]).length = xs.length + 1 := by rw [List.length_append, List.length_singleton]
       have hx1 : ∀ h, (xs ++ [x])[xs.length]'h = x := fun h => by simp
       rw [hx1] at z0 z1 z2 z3
       rw [hl1] at hv1
       subst hv1
       have HZ1 := Lib.hid fun (W : World) (hb : Below w1.heap.size w1 W) => And.intro ((hb.cell (p := ⟨g1, xs.length * 4, none⟩) hg1).trans z0) ((hb.cell (p := ⟨g1, xs.length * 4 + 1, none⟩) hg1).trans z1)
       clear z0 z1 z2 z3 hg1 hl1 hx1
       have HB1 := Lib.hid hb1
       clear hq hb1 ho HA)
    | (go_at_call 8
       refine (HX2.out _ (HB1.out.alloc HB1.out.size _)).mono ?_
       intro e w2 hq
       obtain ⟨v2, x2, rfl, hb2, rfl, ho⟩ := words_out hq
       obtain ⟨o2, j2, hv2⟩ := ho.form
       rw [hv2] at ho
       obtain ⟨g2, rfl, hg2, y0, y1, y2, y3⟩ := ho.reads (xs.length + 1) (by simp)
       have hl2 : (xs ++ [x] ++ [(⟨K, nm, .num 0⟩ : Wd)]).length = xs.length + 1 + 1 := by simp
       have hx2 : ∀ h, (xs ++ [x] ++ [(⟨K, nm, .num 0⟩ : Wd)])[xs.length + 1]'h = ⟨K, nm, .num 0⟩ := fun h => by simp
       rw [hx2] at y0 y1 y2 y3
       rw [hl2] at hv2
       subst hv2
       obtain ⟨z0, z1⟩ := HZ1.out _ ((below_box _).trans (hb2.mono (below_box _).size))
       have HB12 := Lib.hid ((below_box (w := w1) fiveB).trans (hb2.mono (below_box (w := w1) fiveB).size))
       obtain ⟨u0, u1⟩ := HZ1.out _ (HB12.out.trans ((below_box (.cells #[.int .i64 (K : Int), .string (bs nm), .int .i64 (outT (.num 0)), .int .i64 (outV (.num 0))] 35)).mono HB12.out.size))
       clear hl2 hx2
       have HB2 := Lib.hid ((HB1.out.alloc HB1.out.size _).trans (hb2.mono (HB1.out.alloc HB1.out.size _).size))
       clear hq hb2 ho hg2)
    | (go_at_call 7
       refine (HW.out _ (HB2.out.alloc HB2.out.size _)).mono ?_
       rintro e w4 ⟨rfl, hb4⟩
       have HB4 := Lib.hid ((HB2.out.alloc HB2.out.size _).trans (hb4.mono (HB2.out.alloc HB2.out.size _).size))
       clear hb4))
  go_ret
  exact ⟨rfl, HB4.out⟩
set_option maxHeartbeats 8000000 in
theorem stars_m4 (l nm : List UInt8) (z : Int) (k K : Nat) (xs : List Wd) (x : Wd) (w : World) (k1 : decide ((380 : Int) < (l.length : Int)) = false) (hsz : (bs l).size = l.length) (hk : z.tmod 5 = (k : Int)) (hk5 : k < 5) (hn : xs.length + 1 ≤ 118)
    (HW : Hid (∀ W : World, Below w.heap.size w W → Calls Tryd.prog 7 #[] W fun e w' => e = .returned (.bool true) ∧ Below W.heap.size W w'))
    (HA : Hid (Calls Tryd.prog 8 #[.string (bs l)] w (WordsPost w (.inr (xs ++ [x])))))
    (HX2 : Hid (∀ W : World, Below w.heap.size w W → Calls Tryd.prog 8 #[.string (bs (l ++ (32 :: nm)))] W (WordsPost W (.inr (xs ++ [x] ++ [⟨K, nm, .num 0⟩])))))
    (ha1 : ∀ wx, (Op.stringOp .add (bs l) ⟨#[32]⟩).run Tryd.prog wx = .ok (.string (bs (l ++ [32]))) wx) (ha2 : ∀ wx, (Op.stringOp .add (bs (l ++ [32])) (bs nm)).run Tryd.prog wx = .ok (.string (bs (l ++ (32 :: nm)))) wx)
    (hfive : ∀ W : World, (W.alloc (.cells #[.string ⟨#[42]⟩, .string ⟨#[97, 110, 100]⟩, .string ⟨#[111, 114]⟩, .string ⟨#[109, 111, 100]⟩, .string ⟨#[100, 105, 118]⟩] 9)).cell? ⟨W.heap.size, k, none⟩ = some (.string (bs nm)))
    (h5 : ((K : Int) == 5) = true) (c1 : ((x.k : Int) != 5) = true) (c2 : ((x.k : Int) == 1) = true) (f1 : ((bs x.s).toList == [41]) = false) (f2 : ((bs x.s).toList == [93]) = false) (f3 : ((bs x.s).toList == [46]) = false) (f4 : ((bs x.s).toList == [46, 46]) = true) : Calls Tryd.prog 5 #[.string (bs l), .int .u8 z] w fun e w' => e = .returned (.bool true) ∧ Below w.heap.size w w' := by
  have hk0 : (0 : Int) ≤ (k : Int) := by omega
  have hk1 : (k : Int) < 5 := by omega
  have hss : ((bs nm).toList == (bs nm).toList) = true := by simp
  have k2 : decide ((118 : Int) < (xs.length : Int) + 1) = false := decide_eq_false (by omega)
  have k3 : decide ((0 : Int) < (xs.length : Int) + 1) = true := decide_eq_true (by omega)
  go_enter Tryd.func5, Tryd.ntmps5
  go_wp2_with (first
    | (go_at_call 8
       have C := HA.out
       with_reducible refine C.mono ?_
       clear C
       intro e w1 hq
       obtain ⟨v1, x1, rfl, hb1, rfl, ho⟩ := words_out hq
       obtain ⟨o1, j1, hv1⟩ := ho.form
       rw [hv1] at ho
       obtain ⟨g1, rfl, hg1, z0, z1, z2, z3⟩ := ho.reads xs.length (by rw [List.length_append, List.length_singleton]; omega)
       have hl1 : (xs ++ [x]).length = xs.length + 1 := by rw [List.length_append, List.length_singleton]
       have hx1 : ∀ h, (xs ++ [x])[xs.length]'h = x := fun h => by simp
       rw [hx1] at z0 z1 z2 z3
       rw [hl1] at hv1
       subst hv1
       have HZ1 := Lib.hid fun (W : World) (hb : Below w1.heap.size w1 W) => And.intro ((hb.cell (p := ⟨g1, xs.length * 4, none⟩) hg1).trans z0) ((hb.cell (p := ⟨g1, xs.length * 4 + 1, none⟩) hg1).trans z1)
       clear z0 z1 z2 z3 hg1 hl1 hx1
       have HB1 := Lib.hid hb1
       clear hq hb1 ho HA)
    | (go_at_call 8
       refine (HX2.out _ (HB1.out.alloc HB1.out.size _)).mono ?_
       intro e w2 hq
       obtain ⟨v2, x2, rfl, hb2, rfl, ho⟩ := words_out hq
       obtain ⟨o2, j2, hv2⟩ := ho.form
       rw [hv2] at ho
       obtain ⟨g2, rfl, hg2, y0, y1, y2, y3⟩ := ho.reads (xs.length + 1) (by simp)
       have hl2 : (xs ++ [x] ++ [(⟨K, nm, .num 0⟩ : Wd)]).length = xs.length + 1 + 1 := by simp
       have hx2 : ∀ h, (xs ++ [x] ++ [(⟨K, nm, .num 0⟩ : Wd)])[xs.length + 1]'h = ⟨K, nm, .num 0⟩ := fun h => by simp
       rw [hx2] at y0 y1 y2 y3
       rw [hl2] at hv2
       subst hv2
       obtain ⟨z0, z1⟩ := HZ1.out _ ((below_box _).trans (hb2.mono (below_box _).size))
       have HB12 := Lib.hid ((below_box (w := w1) fiveB).trans (hb2.mono (below_box (w := w1) fiveB).size))
       obtain ⟨u0, u1⟩ := HZ1.out _ (HB12.out.trans ((below_box (.cells #[.int .i64 (K : Int), .string (bs nm), .int .i64 (outT (.num 0)), .int .i64 (outV (.num 0))] 35)).mono HB12.out.size))
       clear hl2 hx2
       have HB2 := Lib.hid ((HB1.out.alloc HB1.out.size _).trans (hb2.mono (HB1.out.alloc HB1.out.size _).size))
       clear hq hb2 ho hg2)
    | (go_at_call 7
       refine (HW.out _ (HB2.out.alloc HB2.out.size _)).mono ?_
       rintro e w4 ⟨rfl, hb4⟩
       have HB4 := Lib.hid ((HB2.out.alloc HB2.out.size _).trans (hb4.mono (HB2.out.alloc HB2.out.size _).size))
       clear hb4))
  go_ret
  exact ⟨rfl, HB4.out⟩
set_option maxHeartbeats 8000000 in
theorem stars_m5 (l nm : List UInt8) (z : Int) (k K : Nat) (xs : List Wd) (x : Wd) (w : World) (k1 : decide ((380 : Int) < (l.length : Int)) = false) (hsz : (bs l).size = l.length) (hk : z.tmod 5 = (k : Int)) (hk5 : k < 5) (hn : xs.length + 1 ≤ 118)
    (HW : Hid (∀ W : World, Below w.heap.size w W → Calls Tryd.prog 7 #[] W fun e w' => e = .returned (.bool true) ∧ Below W.heap.size W w'))
    (HA : Hid (Calls Tryd.prog 8 #[.string (bs l)] w (WordsPost w (.inr (xs ++ [x])))))
    (HX2 : Hid (∀ W : World, Below w.heap.size w W → Calls Tryd.prog 8 #[.string (bs (l ++ (32 :: nm)))] W (WordsPost W (.inr (xs ++ [x] ++ [⟨K, nm, .num 0⟩])))))
    (ha1 : ∀ wx, (Op.stringOp .add (bs l) ⟨#[32]⟩).run Tryd.prog wx = .ok (.string (bs (l ++ [32]))) wx) (ha2 : ∀ wx, (Op.stringOp .add (bs (l ++ [32])) (bs nm)).run Tryd.prog wx = .ok (.string (bs (l ++ (32 :: nm)))) wx)
    (hfive : ∀ W : World, (W.alloc (.cells #[.string ⟨#[42]⟩, .string ⟨#[97, 110, 100]⟩, .string ⟨#[111, 114]⟩, .string ⟨#[109, 111, 100]⟩, .string ⟨#[100, 105, 118]⟩] 9)).cell? ⟨W.heap.size, k, none⟩ = some (.string (bs nm)))
    (h5 : ((K : Int) == 5) = false) (c1 : ((x.k : Int) != 5) = true) (c2 : ((x.k : Int) == 1) = true) (f1 : ((bs x.s).toList == [41]) = false) (f2 : ((bs x.s).toList == [93]) = false) (f3 : ((bs x.s).toList == [46]) = false) (f4 : ((bs x.s).toList == [46, 46]) = false) : Calls Tryd.prog 5 #[.string (bs l), .int .u8 z] w fun e w' => e = .returned (.bool true) ∧ Below w.heap.size w w' := by
  have hk0 : (0 : Int) ≤ (k : Int) := by omega
  have hk1 : (k : Int) < 5 := by omega
  have hss : ((bs nm).toList == (bs nm).toList) = true := by simp
  have k2 : decide ((118 : Int) < (xs.length : Int) + 1) = false := decide_eq_false (by omega)
  have k3 : decide ((0 : Int) < (xs.length : Int) + 1) = true := decide_eq_true (by omega)
  go_enter Tryd.func5, Tryd.ntmps5
  go_wp2_with (first
    | (go_at_call 8
       have C := HA.out
       with_reducible refine C.mono ?_
       clear C
       intro e w1 hq
       obtain ⟨v1, x1, rfl, hb1, rfl, ho⟩ := words_out hq
       obtain ⟨o1, j1, hv1⟩ := ho.form
       rw [hv1] at ho
       obtain ⟨g1, rfl, hg1, z0, z1, z2, z3⟩ := ho.reads xs.length (by rw [List.length_append, List.length_singleton]; omega)
       have hl1 : (xs ++ [x]).length = xs.length + 1 := by rw [List.length_append, List.length_singleton]
       have hx1 : ∀ h, (xs ++ [x])[xs.length]'h = x := fun h => by simp
       rw [hx1] at z0 z1 z2 z3
       rw [hl1] at hv1
       subst hv1
       have HZ1 := Lib.hid fun (W : World) (hb : Below w1.heap.size w1 W) => And.intro ((hb.cell (p := ⟨g1, xs.length * 4, none⟩) hg1).trans z0) ((hb.cell (p := ⟨g1, xs.length * 4 + 1, none⟩) hg1).trans z1)
       clear z0 z1 z2 z3 hg1 hl1 hx1
       have HB1 := Lib.hid hb1
       clear hq hb1 ho HA)
    | (go_at_call 8
       refine (HX2.out _ (HB1.out.alloc HB1.out.size _)).mono ?_
       intro e w2 hq
       obtain ⟨v2, x2, rfl, hb2, rfl, ho⟩ := words_out hq
       obtain ⟨o2, j2, hv2⟩ := ho.form
       rw [hv2] at ho
       obtain ⟨g2, rfl, hg2, y0, y1, y2, y3⟩ := ho.reads (xs.length + 1) (by simp)
       have hl2 : (xs ++ [x] ++ [(⟨K, nm, .num 0⟩ : Wd)]).length = xs.length + 1 + 1 := by simp
       have hx2 : ∀ h, (xs ++ [x] ++ [(⟨K, nm, .num 0⟩ : Wd)])[xs.length + 1]'h = ⟨K, nm, .num 0⟩ := fun h => by simp
       rw [hx2] at y0 y1 y2 y3
       rw [hl2] at hv2
       subst hv2
       obtain ⟨z0, z1⟩ := HZ1.out _ ((below_box _).trans (hb2.mono (below_box _).size))
       have HB12 := Lib.hid ((below_box (w := w1) fiveB).trans (hb2.mono (below_box (w := w1) fiveB).size))
       obtain ⟨u0, u1⟩ := HZ1.out _ (HB12.out.trans ((below_box (.cells #[.int .i64 (K : Int), .string (bs nm), .int .i64 (outT (.num 0)), .int .i64 (outV (.num 0))] 35)).mono HB12.out.size))
       clear hl2 hx2
       have HB2 := Lib.hid ((HB1.out.alloc HB1.out.size _).trans (hb2.mono (HB1.out.alloc HB1.out.size _).size))
       clear hq hb2 ho hg2)
    | (go_at_call 7
       refine (HW.out _ (HB2.out.alloc HB2.out.size _)).mono ?_
       rintro e w4 ⟨rfl, hb4⟩
       have HB4 := Lib.hid ((HB2.out.alloc HB2.out.size _).trans (hb4.mono (HB2.out.alloc HB2.out.size _).size))
       clear hb4))
  go_ret
  exact ⟨rfl, HB4.out⟩
theorem stars_main (l nm : List UInt8) (z : Int) (k : Nat) (ws : List Wd) (w : World) (k1 : decide ((380 : Int) < (l.length : Int)) = false) (hsz : (bs l).size = l.length) (hn : ws.length ≤ 118) (hk : z.tmod 5 = (k : Int)) (hk5 : k < 5)
    (HW : Hid (∀ W : World, Below w.heap.size w W → Calls Tryd.prog 7 #[] W fun e w' => e = .returned (.bool true) ∧ Below W.heap.size W w'))
    (HA : Hid (Calls Tryd.prog 8 #[.string (bs l)] w (WordsPost w (.inr ws))))
    (HX2 : Hid (∀ W : World, Below w.heap.size w W → Calls Tryd.prog 8 #[.string (bs (l ++ (32 :: nm)))] W (WordsPost W (.inr (ws ++ [⟨kindS (lastE false ws) nm, nm, .num 0⟩])))))
    (ha1 : ∀ wx, (Op.stringOp .add (bs l) ⟨#[32]⟩).run Tryd.prog wx = .ok (.string (bs (l ++ [32]))) wx) (ha2 : ∀ wx, (Op.stringOp .add (bs (l ++ [32])) (bs nm)).run Tryd.prog wx = .ok (.string (bs (l ++ (32 :: nm)))) wx)
    (hfive : ∀ W : World, (W.alloc (.cells #[.string ⟨#[42]⟩, .string ⟨#[97, 110, 100]⟩, .string ⟨#[111, 114]⟩, .string ⟨#[109, 111, 100]⟩, .string ⟨#[100, 105, 118]⟩] 9)).cell? ⟨W.heap.size, k, none⟩ = some (.string (bs nm)))
    (hmk : ∀ x ∈ ws, x.k = 1 → x.s ∈ marksL) (hmem : nm ∈ nmL) : Calls Tryd.prog 5 #[.string (bs l), .int .u8 z] w fun e w' => e = .returned (.bool true) ∧ Below w.heap.size w w' := by
  rcases List.eq_nil_or_concat ws with rfl | ⟨xs, x, rfl⟩
  · exact stars_nil l nm z k _ w k1 hsz hk hk5 HW HA HX2 ha1 ha2 hfive (kindS_five false hmem)
  · rw [List.concat_eq_append] at *
    rw [lastE_snoc] at HX2
    have hn2 : xs.length + 1 ≤ 118 := by simpa using hn
    have hm1 := hmk x (by simp)
    have h5 := kindS_five (endW x) hmem
    by_cases q5 : x.k = 5
    · have he : endW x = false := by unfold endW; rw [q5]; rfl
      rw [he] at HX2 h5
      exact stars_op l nm z k _ xs x w k1 hsz hk hk5 hn2 HW HA HX2 ha1 ha2 hfive h5 (by rw [q5]; rfl)
    · have c1 : ((x.k : Int) != 5) = true := by rw [bne_iff_ne]; omega
      by_cases q1 : x.k = 1
      · have c2 : ((x.k : Int) == 1) = true := by rw [q1]; rfl
        have hm2 := hm1 q1
        have he : endW x = !openL.contains x.s := by unfold endW; rw [q1]; rfl
        rw [he] at HX2 h5
        unfold marksL at hm2
        simp only [List.mem_cons, List.not_mem_nil, or_false] at hm2
        have fT : ∀ a b : List UInt8, decide (a = b) = true → ((bs a).toList == b) = true := fun a b h => eq_bs a b true h
        have fF : ∀ a b : List UInt8, decide (a = b) = false → ((bs a).toList == b) = false := fun a b h => eq_bs a b false h
        rcases hm2 with e | e | e | e | e | e | e | e | e
        · rw [e, show (!openL.contains [46, 46]) = true from rfl] at HX2 h5
          exact stars_m4 l nm z k _ xs x w k1 hsz hk hk5 hn2 HW HA HX2 ha1 ha2 hfive h5 c1 c2 (by rw [e]; exact fF _ _ rfl) (by rw [e]; exact fF _ _ rfl) (by rw [e]; exact fF _ _ rfl) (by rw [e]; exact fT _ _ rfl)
        · rw [e, show (!openL.contains [58, 58]) = false from rfl] at HX2 h5
          exact stars_m5 l nm z k _ xs x w k1 hsz hk hk5 hn2 HW HA HX2 ha1 ha2 hfive h5 c1 c2 (by rw [e]; exact fF _ _ rfl) (by rw [e]; exact fF _ _ rfl) (by rw [e]; exact fF _ _ rfl) (by rw [e]; exact fF _ _ rfl)
        · rw [e, show (!openL.contains [40]) = false from rfl] at HX2 h5
          exact stars_m5 l nm z k _ xs x w k1 hsz hk hk5 hn2 HW HA HX2 ha1 ha2 hfive h5 c1 c2 (by rw [e]; exact fF _ _ rfl) (by rw [e]; exact fF _ _ rfl) (by rw [e]; exact fF _ _ rfl) (by rw [e]; exact fF _ _ rfl)
        · rw [e, show (!openL.contains [41]) = true from rfl] at HX2 h5
          exact stars_m1 l nm z k _ xs x w k1 hsz hk hk5 hn2 HW HA HX2 ha1 ha2 hfive h5 c1 c2 (by rw [e]; exact fT _ _ rfl)
        · rw [e, show (!openL.contains [91]) = false from rfl] at HX2 h5
          exact stars_m5 l nm z k _ xs x w k1 hsz hk hk5 hn2 HW HA HX2 ha1 ha2 hfive h5 c1 c2 (by rw [e]; exact fF _ _ rfl) (by rw [e]; exact fF _ _ rfl) (by rw [e]; exact fF _ _ rfl) (by rw [e]; exact fF _ _ rfl)
        · rw [e, show (!openL.contains [93]) = true from rfl] at HX2 h5
          exact stars_m2 l nm z k _ xs x w k1 hsz hk hk5 hn2 HW HA HX2 ha1 ha2 hfive h5 c1 c2 (by rw [e]; exact fF _ _ rfl) (by rw [e]; exact fT _ _ rfl)
        · rw [e, show (!openL.contains [46]) = true from rfl] at HX2 h5
          exact stars_m3 l nm z k _ xs x w k1 hsz hk hk5 hn2 HW HA HX2 ha1 ha2 hfive h5 c1 c2 (by rw [e]; exact fF _ _ rfl) (by rw [e]; exact fF _ _ rfl) (by rw [e]; exact fT _ _ rfl)
        · rw [e, show (!openL.contains [64]) = false from rfl] at HX2 h5
          exact stars_m5 l nm z k _ xs x w k1 hsz hk hk5 hn2 HW HA HX2 ha1 ha2 hfive h5 c1 c2 (by rw [e]; exact fF _ _ rfl) (by rw [e]; exact fF _ _ rfl) (by rw [e]; exact fF _ _ rfl) (by rw [e]; exact fF _ _ rfl)
        · rw [e, show (!openL.contains [44]) = false from rfl] at HX2 h5
          exact stars_m5 l nm z k _ xs x w k1 hsz hk hk5 hn2 HW HA HX2 ha1 ha2 hfive h5 c1 c2 (by rw [e]; exact fF _ _ rfl) (by rw [e]; exact fF _ _ rfl) (by rw [e]; exact fF _ _ rfl) (by rw [e]; exact fF _ _ rfl)
      · have c2 : ((x.k : Int) == 1) = false := by rw [beq_eq_false_iff_ne]; omega
        have he : endW x = true := by unfold endW; simp [q5, q1]
        rw [he] at HX2 h5
        exact stars_other l nm z k _ xs x w k1 hsz hk hk5 hn2 HW HA HX2 ha1 ha2 hfive h5 c1 c2
set_option maxHeartbeats 8000000 in
theorem stars_law (s : ByteArray) (z : Int) (w : World) (hz : 0 ≤ z ∧ z ≤ 255) (hG : Gl w) (hs : s.size ≤ 140737488351232) :
    Calls Tryd.prog 5 #[.string s, .int .u8 z] w fun e w' => e = .returned (.bool true) ∧ Below w.heap.size w w' := by
  obtain ⟨l, rfl⟩ : ∃ l, s = bs l := ⟨s.data.toList, (bs_of s).symm⟩
  have hsz := bs_size l
  have HW := Lib.hid fun (W : World) (hb : Below w.heap.size w W) => works_any W (hG.below hb)
  by_cases h1 : 380 < l.length
  · have k1 : decide ((380 : Int) < (l.length : Int)) = true := decide_eq_true (by omega)
    have HW1 := Lib.hid (HW.out w (Below.refl _ _))
    clear h1 hz HW hs
    go_enter Tryd.func5, Tryd.ntmps5
    go_wp2_with (first
      | (go_at_call 7
         refine HW1.out.mono ?_
         rintro e w1 ⟨rfl, hb1⟩
         have HB1 := Lib.hid hb1
         clear hb1 HW1))
    go_ret
    exact ⟨rfl, HB1.out⟩
  · have k1 : decide ((380 : Int) < (l.length : Int)) = false := decide_eq_false (by omega)
    obtain ⟨k, hk⟩ : ∃ k : Nat, z.tmod 5 = (k : Int) := ⟨(z.tmod 5).toNat, by have := Int.tmod_nonneg 5 hz.1; omega⟩
    have hk5 : k < 5 := by have := Int.tmod_lt_of_pos z (show (0 : Int) < 5 by omega); omega
    obtain ⟨nm, hnm⟩ : ∃ nm, nmL[k]? = some nm := ⟨_, List.getElem?_eq_getElem hk5⟩
    have hmem : nm ∈ nmL := List.mem_of_getElem? hnm
    have hnl := (nm_facts hmem).2.1
    have hll : l.length ≤ 380 := by omega
    have hA := lex_any l w (by omega) hG
    have HX := Lib.hid fun (W : World) (hb : Below w.heap.size w W) => lex_any (l ++ (32 :: nm)) W (by rw [List.length_append, List.length_cons]; omega) (hG.below hb)
    cases hL : lexL l with
    | inl y =>
      rw [hL] at hA
      have HA := Lib.hid hA
      have hy : ((y : Int) != 0) = true := by
        rw [bne_iff_ne]
        rcases lexL_errs hL with rfl | rfl | rfl <;> decide
      clear hA hL HX hmem hnm hk5 hk hz hs h1 hnl hll
      go_enter Tryd.func5, Tryd.ntmps5
      go_wp2_with (first
        | (go_at_call 8
           refine HA.out.mono ?_
           intro e w1 hq
           obtain ⟨v1, x1, rfl, hb1, rfl, rfl⟩ := words_out hq
           have HB1 := Lib.hid hb1
           have HW1 := Lib.hid (HW.out w1 hb1)
           clear hq hb1 HA)
        | (go_at_call 7
           refine HW1.out.mono ?_
           rintro e w4 ⟨rfl, hb4⟩
           have HB4 := Lib.hid (HB1.out.trans (hb4.mono HB1.out.size))
           clear hb4 HW1))
      go_ret
      exact ⟨rfl, HB4.out⟩
    | inr ws =>
      rw [hL] at hA
      have HA := Lib.hid hA
      have hln := lexL_len hL
      by_cases h118 : ws.length ≤ 118
      · have hst := lex_stars hL h118 hll hmem
        have hx : ∀ W : World, Below w.heap.size w W → _ := HX.out
        rw [hst] at hx
        have ha2 := add_bs (l ++ [32]) nm (by rw [List.length_append, List.length_singleton]; omega) (by omega)
        rw [show l ++ [32] ++ nm = l ++ (32 :: nm) by simp] at ha2
        exact stars_main l nm z k ws w k1 hsz h118 hk hk5 HW HA (Lib.hid hx) (fun wx => add_bs l [32] (by omega) (by decide) wx) ha2 (fun W => five_at W k nm hnm) (lexL_marks hL) hmem
      · have k2 : decide ((118 : Int) < (ws.length : Int)) = true := decide_eq_true (by omega)
        clear hA hL HX hmem hnm hk5 hk hz hs h1 hnl hll
        go_enter Tryd.func5, Tryd.ntmps5
        go_wp2_with (first
          | (go_at_call 8
             refine HA.out.mono ?_
             intro e w1 hq
             obtain ⟨v1, x1, rfl, hb1, rfl, ho⟩ := words_out hq
             obtain ⟨o1, j1, rfl⟩ := ho.form
             have HB1 := Lib.hid hb1
             have HW1 := Lib.hid (HW.out w1 hb1)
             clear hq hb1 ho HA)
          | (go_at_call 7
             refine HW1.out.mono ?_
             rintro e w4 ⟨rfl, hb4⟩
             have HB4 := Lib.hid (HB1.out.trans (hb4.mono HB1.out.size))
             clear hb4 HW1))
        go_ret
        exact ⟨rfl, HB4.out⟩
end Go.Proofs.YtocdjjdnbcmipaaDoor.Char

/- A world in which the listed variables read as the rows list them; and what the rows' list, and a well-shaped world, give the walks. -/
namespace Go.Proofs.YtocdjjdnbcmipaaDoor.Char
open Go.ChangeShapes Go.WideShapes Go.ChangeAt Go.RowKit

theorem own : ownKnob Tryd.prog.godebug = none := by kernel_rfl

/-- what the rows list -/
def laid : List (String × DataW Unit) := [("unicode/utf8.acceptRanges", Rows.laid_unicode_utf8_acceptRanges), ("unicode/utf8.first", Rows.laid_unicode_utf8_first)]
def laidL : List (String × DataW Unit) := [("unicode/utf8.acceptRanges", Lib.acceptData), ("unicode/utf8.first", Lib.firstData)]
theorem accept_eq : (Rows.laid_unicode_utf8_acceptRanges : DataW Unit) = Lib.acceptData := by kernel_rfl
theorem first_eq : Rows.laid_unicode_utf8_first = Lib.firstData := Pinned.utf8First_eq
theorem laid_eq : laid = laidL := by
  unfold laid laidL
  rw [accept_eq, first_eq]
/-- the settled world, the variables holding what their initialisers lay -/
noncomputable def laidWorld (os : Os) : World := World.laidAll Tryd.prog os laid
theorem laid_met (os : Os) (args : Array Value) : laidMet Tryd.prog laid ((laidWorld os).forCall (fun _ _ => 0) ⟨#[], args, []⟩).memory := laidMet_laidAll _ (by kernel_rfl) (by kernel_rfl)
theorem maxL_of {W : World} (h : W.ShapedOpen Tryd.prog) : MaxL W :=
  cell_of_shapedOpen_int (t := 3) (zero := #[.int .i64 0]) h (of_decide_eq_true (by kernel_rfl)) (by kernel_rfl) rfl (by kernel_rfl) (by kernel_rfl) Tryd.underlying3
theorem tabs_of {W : World} (hL : laidMetH Tryd.prog laid W) : Tabs W := by
  rw [laid_eq] at hL
  exact utf8Tabs_of_readsT (U8Types.of196 laysValid) ⟨by kernel_rfl, by kernel_rfl, by kernel_rfl, by kernel_rfl, by kernel_rfl, by kernel_rfl, by kernel_rfl⟩ (Lib.laidMet.reads hL (by unfold laidL; simp)) (Lib.laidMet.reads hL (by unfold laidL; simp))
theorem reachBytes_val : reachBytes ≤ 140737488351232 := by decide
theorem gl_of {W : World} (hL : laidMetH Tryd.prog laid W) (hS : W.ShapedOpen Tryd.prog) : Gl W := ⟨tabs_of hL, maxL_of hS⟩
end Go.Proofs.YtocdjjdnbcmipaaDoor.Char
