/- The walk of the lexer's names. -/
import Derived.Test.YtbemijbgbjcoeaaDoorPk07
namespace Go.Proofs.YtbemijbgbjcoeaaDoor.Char
open Go.RowKit Go.Lib

theorem wd_keep {w W : World} (hb : Below w.heap.size w W) {g : Nat} {x : Wd} (h : w.heap[g]? = some (wdB x)) : W.heap[g]? = some (wdB x) := (hb.block g (Array.getElem?_eq_some_iff.1 h).1).trans h
theorem wd_new (w : World) (k : Int) (N : List UInt8) (hk : k = 2) : (w.alloc (.cells #[.int .i64 k, .string (bs N), .int .i64 0, .int .i64 0] 47)).heap[w.heap.size]? = some (wdB ⟨2, N, .num 0⟩) := by rw [hk]; exact World.alloc_heap_new w _
set_option maxHeartbeats 8000000 in
theorem named_bad (l N : List UInt8) (ended : Bool) (w : World)
    (HR : Hid (∀ W : World, Calls Tryd.prog 59 #[.string (bs l)] W fun e w' => e = .returned (.string (bs N)) ∧ Below W.heap.size W w'))
    (HN : Hid (∀ W : World, Below w.heap.size w W → Calls Tryd.prog 60 #[.string (bs N)] W fun e w' => e = .returned (.bool false) ∧ Below W.heap.size W w')) :
    Calls Tryd.prog 37 #[.string (bs l), .bool ended] w (WdPost w (none)) := by
  obtain ⟨W1, hW1⟩ : ∃ W1, W1 = w.alloc (.cells #[.int .i64 0, .string ⟨#[]⟩, .int .i64 0, .int .i64 0] 47) := ⟨_, rfl⟩
  have hb1 : Below w.heap.size w W1 := by rw [hW1]; exact below_box _
  have hk1 : W1.heap[w.heap.size]? = some (wdB wd0) := by rw [hW1]; exact World.alloc_heap_new w _
  have hl1 : w.heap.size < W1.heap.size := (Array.getElem?_eq_some_iff.1 hk1).1
  have HW1 := Lib.hid hW1
  have HKEY := Lib.hid fun (w3 : World) (hb3 : Below W1.heap.size W1 w3) => wd0_at ((hb3.block _ hl1).trans hk1)
  have HKB := Lib.hid fun (w3 : World) (hb3 : Below W1.heap.size W1 w3) => And.intro ((hb3.block _ hl1).trans hk1) (hb1.trans (hb3.mono hb1.size))
  clear hb1 hk1 hl1 hW1
  go_enter Tryd.func37, Tryd.ntmps37
  go_upto_region 1 with fail
  rw [← HW1.out]
  clear HW1
  go_wp2_with (first
    | (go_at_call 59
       refine (HR.out _).mono ?_
       rintro e w3 ⟨rfl, hb3⟩
       have HB3 := Lib.hid hb3
       have HN3 := Lib.hid (HN.out w3 (HKB.out w3 hb3).2)
       clear hb3 HR)
    | (go_at_call 60
       refine HN3.out.mono ?_
       rintro e w4 ⟨rfl, hb4⟩
       have hb := HB3.out.trans (hb4.mono HB3.out.size)
       obtain ⟨⟨d0, d1, d2, d3⟩, f0, f1, f2, f3⟩ := HKEY.out w4 hb
       have HKB4 := Lib.hid (HKB.out w4 hb)
       clear hb hb4 HN3))
  exact end_word Tryd.results37 w w4 none (x := wd0) HKB4.out.1 HKB4.out.2 (by rfl) (by rfl) rfl rfl rfl
set_option maxHeartbeats 8000000 in
theorem named_nojoin (l N : List UInt8) (w : World)
    (HR : Hid (∀ W : World, Calls Tryd.prog 59 #[.string (bs l)] W fun e w' => e = .returned (.string (bs N)) ∧ Below W.heap.size W w'))
    (HN : Hid (∀ W : World, Below w.heap.size w W → Calls Tryd.prog 60 #[.string (bs N)] W fun e w' => e = .returned (.bool true) ∧ Below W.heap.size W w'))
    (HJ : Hid (∀ W : World, Calls Tryd.prog 61 #[.string (bs N)] W fun e w' => e = .returned (.bool false) ∧ w' = W)) :
    Calls Tryd.prog 37 #[.string (bs l), .bool true] w (WdPost w (none)) := by
  obtain ⟨W1, hW1⟩ : ∃ W1, W1 = w.alloc (.cells #[.int .i64 0, .string ⟨#[]⟩, .int .i64 0, .int .i64 0] 47) := ⟨_, rfl⟩
  have hb1 : Below w.heap.size w W1 := by rw [hW1]; exact below_box _
  have hk1 : W1.heap[w.heap.size]? = some (wdB wd0) := by rw [hW1]; exact World.alloc_heap_new w _
  have hl1 : w.heap.size < W1.heap.size := (Array.getElem?_eq_some_iff.1 hk1).1
  have HW1 := Lib.hid hW1
  have HKEY := Lib.hid fun (w3 : World) (hb3 : Below W1.heap.size W1 w3) => wd0_at ((hb3.block _ hl1).trans hk1)
  have HKB := Lib.hid fun (w3 : World) (hb3 : Below W1.heap.size W1 w3) => And.intro ((hb3.block _ hl1).trans hk1) (hb1.trans (hb3.mono hb1.size))
  clear hb1 hk1 hl1 hW1
  go_enter Tryd.func37, Tryd.ntmps37
  go_upto_region 1 with fail
  rw [← HW1.out]
  clear HW1
  go_wp2_with (first
    | (go_at_call 59
       refine (HR.out _).mono ?_
       rintro e w3 ⟨rfl, hb3⟩
       have HB3 := Lib.hid hb3
       have HN3 := Lib.hid (HN.out w3 (HKB.out w3 hb3).2)
       clear hb3 HR)
    | (go_at_call 60
       refine HN3.out.mono ?_
       rintro e w4 ⟨rfl, hb4⟩
       have hb := HB3.out.trans (hb4.mono HB3.out.size)
       obtain ⟨⟨d0, d1, d2, d3⟩, f0, f1, f2, f3⟩ := HKEY.out w4 hb
       have HKB4 := Lib.hid (HKB.out w4 hb)
       clear hb hb4 HN3)
    | (go_at_call 61
       refine (HJ.out _).mono ?_
       rintro e w5 ⟨rfl, hw⟩
       have hw := hw.symm
       subst hw
       clear HJ))
  exact end_word Tryd.results37 w w4 none (x := wd0) HKB4.out.1 HKB4.out.2 (by rfl) (by rfl) rfl rfl rfl
set_option maxHeartbeats 8000000 in
theorem named_op (l N t nx : List UInt8) (n : Nat) (w : World)
    (hN : (bs N).size = n) (hsl : ∀ wx, (Instr.slice 9 (.string (bs l)) (some (.int .i64 (n : Int))) none none).run Tryd.prog wx = .ok (.string (bs t)) wx)
    (HR : Hid (∀ W : World, Calls Tryd.prog 59 #[.string (bs l)] W fun e w' => e = .returned (.string (bs N)) ∧ Below W.heap.size W w'))
    (HN : Hid (∀ W : World, Below w.heap.size w W → Calls Tryd.prog 60 #[.string (bs N)] W fun e w' => e = .returned (.bool true) ∧ Below W.heap.size W w'))
    (HJ : Hid (∀ W : World, Calls Tryd.prog 61 #[.string (bs N)] W fun e w' => e = .returned (.bool true) ∧ w' = W))
    (HS : Hid (∀ W : World, Calls Tryd.prog 22 #[.string (bs t), .func (.func 23) #[] #[]] W fun e w' => e = .returned (.string (bs nx)) ∧ Below W.heap.size W w')) :
    Calls Tryd.prog 37 #[.string (bs l), .bool true] w (WdPost w (some (⟨5, N, .num 0⟩, n))) := by
  obtain ⟨W1, hW1⟩ : ∃ W1, W1 = w.alloc (.cells #[.int .i64 0, .string ⟨#[]⟩, .int .i64 0, .int .i64 0] 47) := ⟨_, rfl⟩
  have hb1 : Below w.heap.size w W1 := by rw [hW1]; exact below_box _
  have hk1 : W1.heap[w.heap.size]? = some (wdB wd0) := by rw [hW1]; exact World.alloc_heap_new w _
  have hl1 : w.heap.size < W1.heap.size := (Array.getElem?_eq_some_iff.1 hk1).1
  have HW1 := Lib.hid hW1
  have HKEY := Lib.hid fun (w3 : World) (hb3 : Below W1.heap.size W1 w3) => wd0_at ((hb3.block _ hl1).trans hk1)
  have HKB := Lib.hid fun (w3 : World) (hb3 : Below W1.heap.size W1 w3) => And.intro ((hb3.block _ hl1).trans hk1) (hb1.trans (hb3.mono hb1.size))
  clear hb1 hk1 hl1 hW1
  go_enter Tryd.func37, Tryd.ntmps37
  go_upto_region 1 with fail
  rw [← HW1.out]
  clear HW1
  go_wp2_with (first
    | (go_at_call 59
       refine (HR.out _).mono ?_
       rintro e w3 ⟨rfl, hb3⟩
       have HB3 := Lib.hid hb3
       have HN3 := Lib.hid (HN.out w3 (HKB.out w3 hb3).2)
       clear hb3 HR)
    | (go_at_call 60
       refine HN3.out.mono ?_
       rintro e w4 ⟨rfl, hb4⟩
       have hb := HB3.out.trans (hb4.mono HB3.out.size)
       obtain ⟨⟨d0, d1, d2, d3⟩, f0, f1, f2, f3⟩ := HKEY.out w4 hb
       have HKB4 := Lib.hid (HKB.out w4 hb)
       clear hb hb4 HN3)
    | (go_at_call 61
       refine (HJ.out _).mono ?_
       rintro e w5 ⟨rfl, hw⟩
       have hw := hw.symm
       subst hw
       clear HJ)
    | (go_at_call 22
       refine (HS.out _).mono ?_
       rintro e w6 ⟨rfl, hb6⟩
       have hq := wd_keep hb6 (wd_new w4 2 N rfl)
       have hp := wd_keep hb6 ((((below_box _).block _ (Array.getElem?_eq_some_iff.1 HKB4.out.1).1)).trans HKB4.out.1)
       have hB6 := HKB4.out.2.trans (((below_box _).trans (hb6.mono (below_box _).size)).mono HKB4.out.2.size)
       clear d0 d1 d2 d3 f0 f1 f2 f3
       obtain ⟨⟨d0, d1, d2, d3⟩, f0, f1, f2, f3⟩ := wd0_at hp
       obtain ⟨⟨c0, c1, c2, c3⟩, g⟩ := wd_blk hq
       obtain ⟨g0, g1, g2, g3⟩ : _ ∧ _ ∧ _ ∧ _ := ⟨g 0, g 1, g 2, g 3⟩
       obtain ⟨⟨h0, h1, h2, h3⟩, j0, j1, j2, j3⟩ := wd0_at ((heap_set_ne (a := ⟨w4.heap.size, 0, none⟩) (u := .int .i64 5) (Nat.ne_of_lt (Array.getElem?_eq_some_iff.1 HKB4.out.1).1)).trans hp)
       have hne : w.heap.size ≠ w4.heap.size := Nat.ne_of_lt (Array.getElem?_eq_some_iff.1 HKB4.out.1).1
       have HP6 := Lib.hid hp
       have HB6 := Lib.hid hB6
       have HNE := Lib.hid hne
       clear hb6 hq hp hB6 g HS hne))
  exact end_word Tryd.results37 w _ (some (⟨5, N, .num 0⟩, n)) (x := ⟨5, N, .num 0⟩) ((heap_set_ne (a := ⟨w4.heap.size, 0, none⟩) HNE.out).trans HP6.out) (HB6.out.setCell (p := ⟨w4.heap.size, 0, none⟩) (Nat.le_of_lt (Nat.lt_of_le_of_ne HKB4.out.2.size HNE.out)) _) (by rfl) (by rfl) rfl rfl rfl
set_option maxHeartbeats 8000000 in
theorem named_type (l N t nx : List UInt8) (n : Nat) (w : World)
    (hN : (bs N).size = n) (hsl : ∀ wx, (Instr.slice 9 (.string (bs l)) (some (.int .i64 (n : Int))) none none).run Tryd.prog wx = .ok (.string (bs t)) wx)
    (HR : Hid (∀ W : World, Calls Tryd.prog 59 #[.string (bs l)] W fun e w' => e = .returned (.string (bs N)) ∧ Below W.heap.size W w'))
    (HN : Hid (∀ W : World, Below w.heap.size w W → Calls Tryd.prog 60 #[.string (bs N)] W fun e w' => e = .returned (.bool true) ∧ Below W.heap.size W w'))
    (HS : Hid (∀ W : World, Calls Tryd.prog 22 #[.string (bs t), .func (.func 23) #[] #[]] W fun e w' => e = .returned (.string (bs nx)) ∧ Below W.heap.size W w'))
    (HO : Hid (∀ W : World, Calls Tryd.prog 62 #[.string (bs nx), .string ⟨#[40]⟩] W fun e w' => e = .returned (.bool true) ∧ w' = W))
    (HK : Hid (∀ W : World, Calls Tryd.prog 63 #[.string (bs N)] W fun e w' => e = .returned (.bool true) ∧ w' = W)) :
    Calls Tryd.prog 37 #[.string (bs l), .bool false] w (WdPost w (some (⟨4, N, .num 0⟩, n))) := by
  obtain ⟨W1, hW1⟩ : ∃ W1, W1 = w.alloc (.cells #[.int .i64 0, .string ⟨#[]⟩, .int .i64 0, .int .i64 0] 47) := ⟨_, rfl⟩
  have hb1 : Below w.heap.size w W1 := by rw [hW1]; exact below_box _
  have hk1 : W1.heap[w.heap.size]? = some (wdB wd0) := by rw [hW1]; exact World.alloc_heap_new w _
  have hl1 : w.heap.size < W1.heap.size := (Array.getElem?_eq_some_iff.1 hk1).1
  have HW1 := Lib.hid hW1
  have HKEY := Lib.hid fun (w3 : World) (hb3 : Below W1.heap.size W1 w3) => wd0_at ((hb3.block _ hl1).trans hk1)
  have HKB := Lib.hid fun (w3 : World) (hb3 : Below W1.heap.size W1 w3) => And.intro ((hb3.block _ hl1).trans hk1) (hb1.trans (hb3.mono hb1.size))
  clear hb1 hk1 hl1 hW1
  go_enter Tryd.func37, Tryd.ntmps37
  go_upto_region 1 with fail
  rw [← HW1.out]
  clear HW1
  go_wp2_with (first
    | (go_at_call 59
       refine (HR.out _).mono ?_
       rintro e w3 ⟨rfl, hb3⟩
       have HB3 := Lib.hid hb3
       have HN3 := Lib.hid (HN.out w3 (HKB.out w3 hb3).2)
       clear hb3 HR)
    | (go_at_call 60
       refine HN3.out.mono ?_
       rintro e w4 ⟨rfl, hb4⟩
       have hb := HB3.out.trans (hb4.mono HB3.out.size)
       obtain ⟨⟨d0, d1, d2, d3⟩, f0, f1, f2, f3⟩ := HKEY.out w4 hb
       have HKB4 := Lib.hid (HKB.out w4 hb)
       clear hb hb4 HN3)
    | (go_at_call 22
       refine (HS.out _).mono ?_
       rintro e w6 ⟨rfl, hb6⟩
       have hq := wd_keep hb6 (wd_new w4 2 N rfl)
       have hp := wd_keep hb6 ((((below_box _).block _ (Array.getElem?_eq_some_iff.1 HKB4.out.1).1)).trans HKB4.out.1)
       have hB6 := HKB4.out.2.trans (((below_box _).trans (hb6.mono (below_box _).size)).mono HKB4.out.2.size)
       clear d0 d1 d2 d3 f0 f1 f2 f3
       obtain ⟨⟨d0, d1, d2, d3⟩, f0, f1, f2, f3⟩ := wd0_at hp
       obtain ⟨⟨c0, c1, c2, c3⟩, g⟩ := wd_blk hq
       obtain ⟨g0, g1, g2, g3⟩ : _ ∧ _ ∧ _ ∧ _ := ⟨g 0, g 1, g 2, g 3⟩
       obtain ⟨⟨h0, h1, h2, h3⟩, j0, j1, j2, j3⟩ := wd0_at ((heap_set_ne (a := ⟨w4.heap.size, 0, none⟩) (u := .int .i64 4) (Nat.ne_of_lt (Array.getElem?_eq_some_iff.1 HKB4.out.1).1)).trans hp)
       have hne : w.heap.size ≠ w4.heap.size := Nat.ne_of_lt (Array.getElem?_eq_some_iff.1 HKB4.out.1).1
       have HP6 := Lib.hid hp
       have HB6 := Lib.hid hB6
       have HNE := Lib.hid hne
       clear hb6 hq hp hB6 g HS hne)
    | (go_at_call 62
       have CC := HO.out w6
       with_reducible refine CC.mono ?_
       clear CC
       rintro e w7 ⟨rfl, hw⟩
       have hw := hw.symm
       subst hw)
    | (go_at_call 63
       refine (HK.out _).mono ?_
       rintro e w7 ⟨rfl, hw⟩
       have hw := hw.symm
       subst hw))
  exact end_word Tryd.results37 w _ (some (⟨4, N, .num 0⟩, n)) (x := ⟨4, N, .num 0⟩) ((heap_set_ne (a := ⟨w4.heap.size, 0, none⟩) HNE.out).trans HP6.out) (HB6.out.setCell (p := ⟨w4.heap.size, 0, none⟩) (Nat.le_of_lt (Nat.lt_of_le_of_ne HKB4.out.2.size HNE.out)) _) (by rfl) (by rfl) rfl rfl rfl
set_option maxHeartbeats 8000000 in
theorem named_func (l N t nx : List UInt8) (n : Nat) (w : World)
    (hN : (bs N).size = n) (hsl : ∀ wx, (Instr.slice 9 (.string (bs l)) (some (.int .i64 (n : Int))) none none).run Tryd.prog wx = .ok (.string (bs t)) wx)
    (HR : Hid (∀ W : World, Calls Tryd.prog 59 #[.string (bs l)] W fun e w' => e = .returned (.string (bs N)) ∧ Below W.heap.size W w'))
    (HN : Hid (∀ W : World, Below w.heap.size w W → Calls Tryd.prog 60 #[.string (bs N)] W fun e w' => e = .returned (.bool true) ∧ Below W.heap.size W w'))
    (HS : Hid (∀ W : World, Calls Tryd.prog 22 #[.string (bs t), .func (.func 23) #[] #[]] W fun e w' => e = .returned (.string (bs nx)) ∧ Below W.heap.size W w'))
    (HO : Hid (∀ W : World, Calls Tryd.prog 62 #[.string (bs nx), .string ⟨#[40]⟩] W fun e w' => e = .returned (.bool true) ∧ w' = W))
    (HK : Hid (∀ W : World, Calls Tryd.prog 63 #[.string (bs N)] W fun e w' => e = .returned (.bool false) ∧ w' = W)) :
    Calls Tryd.prog 37 #[.string (bs l), .bool false] w (WdPost w (some (⟨6, N, .num 0⟩, n))) := by
  obtain ⟨W1, hW1⟩ : ∃ W1, W1 = w.alloc (.cells #[.int .i64 0, .string ⟨#[]⟩, .int .i64 0, .int .i64 0] 47) := ⟨_, rfl⟩
  have hb1 : Below w.heap.size w W1 := by rw [hW1]; exact below_box _
  have hk1 : W1.heap[w.heap.size]? = some (wdB wd0) := by rw [hW1]; exact World.alloc_heap_new w _
  have hl1 : w.heap.size < W1.heap.size := (Array.getElem?_eq_some_iff.1 hk1).1
  have HW1 := Lib.hid hW1
  have HKEY := Lib.hid fun (w3 : World) (hb3 : Below W1.heap.size W1 w3) => wd0_at ((hb3.block _ hl1).trans hk1)
  have HKB := Lib.hid fun (w3 : World) (hb3 : Below W1.heap.size W1 w3) => And.intro ((hb3.block _ hl1).trans hk1) (hb1.trans (hb3.mono hb1.size))
  clear hb1 hk1 hl1 hW1
  go_enter Tryd.func37, Tryd.ntmps37
  go_upto_region 1 with fail
  rw [← HW1.out]
  clear HW1
  go_wp2_with (first
    | (go_at_call 59
       refine (HR.out _).mono ?_
       rintro e w3 ⟨rfl, hb3⟩
       have HB3 := Lib.hid hb3
       have HN3 := Lib.hid (HN.out w3 (HKB.out w3 hb3).2)
       clear hb3 HR)
    | (go_at_call 60
       refine HN3.out.mono ?_
       rintro e w4 ⟨rfl, hb4⟩
       have hb := HB3.out.trans (hb4.mono HB3.out.size)
       obtain ⟨⟨d0, d1, d2, d3⟩, f0, f1, f2, f3⟩ := HKEY.out w4 hb
       have HKB4 := Lib.hid (HKB.out w4 hb)
       clear hb hb4 HN3)
    | (go_at_call 22
       refine (HS.out _).mono ?_
       rintro e w6 ⟨rfl, hb6⟩
       have hq := wd_keep hb6 (wd_new w4 2 N rfl)
       have hp := wd_keep hb6 ((((below_box _).block _ (Array.getElem?_eq_some_iff.1 HKB4.out.1).1)).trans HKB4.out.1)
       have hB6 := HKB4.out.2.trans (((below_box _).trans (hb6.mono (below_box _).size)).mono HKB4.out.2.size)
       clear d0 d1 d2 d3 f0 f1 f2 f3
       obtain ⟨⟨d0, d1, d2, d3⟩, f0, f1, f2, f3⟩ := wd0_at hp
       obtain ⟨⟨c0, c1, c2, c3⟩, g⟩ := wd_blk hq
       obtain ⟨g0, g1, g2, g3⟩ : _ ∧ _ ∧ _ ∧ _ := ⟨g 0, g 1, g 2, g 3⟩
       obtain ⟨⟨h0, h1, h2, h3⟩, j0, j1, j2, j3⟩ := wd0_at ((heap_set_ne (a := ⟨w4.heap.size, 0, none⟩) (u := .int .i64 6) (Nat.ne_of_lt (Array.getElem?_eq_some_iff.1 HKB4.out.1).1)).trans hp)
       have hne : w.heap.size ≠ w4.heap.size := Nat.ne_of_lt (Array.getElem?_eq_some_iff.1 HKB4.out.1).1
       have HP6 := Lib.hid hp
       have HB6 := Lib.hid hB6
       have HNE := Lib.hid hne
       clear hb6 hq hp hB6 g HS hne)
    | (go_at_call 62
       have CC := HO.out w6
       with_reducible refine CC.mono ?_
       clear CC
       rintro e w7 ⟨rfl, hw⟩
       have hw := hw.symm
       subst hw)
    | (go_at_call 63
       refine (HK.out _).mono ?_
       rintro e w7 ⟨rfl, hw⟩
       have hw := hw.symm
       subst hw))
  exact end_word Tryd.results37 w _ (some (⟨6, N, .num 0⟩, n)) (x := ⟨6, N, .num 0⟩) ((heap_set_ne (a := ⟨w4.heap.size, 0, none⟩) HNE.out).trans HP6.out) (HB6.out.setCell (p := ⟨w4.heap.size, 0, none⟩) (Nat.le_of_lt (Nat.lt_of_le_of_ne HKB4.out.2.size HNE.out)) _) (by rfl) (by rfl) rfl rfl rfl
set_option maxHeartbeats 8000000 in
theorem named_axis (l N t nx : List UInt8) (n : Nat) (w : World)
    (hN : (bs N).size = n) (hsl : ∀ wx, (Instr.slice 9 (.string (bs l)) (some (.int .i64 (n : Int))) none none).run Tryd.prog wx = .ok (.string (bs t)) wx)
    (HR : Hid (∀ W : World, Calls Tryd.prog 59 #[.string (bs l)] W fun e w' => e = .returned (.string (bs N)) ∧ Below W.heap.size W w'))
    (HN : Hid (∀ W : World, Below w.heap.size w W → Calls Tryd.prog 60 #[.string (bs N)] W fun e w' => e = .returned (.bool true) ∧ Below W.heap.size W w'))
    (HS : Hid (∀ W : World, Calls Tryd.prog 22 #[.string (bs t), .func (.func 23) #[] #[]] W fun e w' => e = .returned (.string (bs nx)) ∧ Below W.heap.size W w'))
    (HO : Hid (∀ W : World, Calls Tryd.prog 62 #[.string (bs nx), .string ⟨#[40]⟩] W fun e w' => e = .returned (.bool false) ∧ w' = W))
    (HA : Hid (∀ W : World, Calls Tryd.prog 62 #[.string (bs nx), .string ⟨#[58, 58]⟩] W fun e w' => e = .returned (.bool true) ∧ w' = W)) :
    Calls Tryd.prog 37 #[.string (bs l), .bool false] w (WdPost w (some (⟨7, N, .num 0⟩, n))) := by
  obtain ⟨W1, hW1⟩ : ∃ W1, W1 = w.alloc (.cells #[.int .i64 0, .string ⟨#[]⟩, .int .i64 0, .int .i64 0] 47) := ⟨_, rfl⟩
  have hb1 : Below w.heap.size w W1 := by rw [hW1]; exact below_box _
  have hk1 : W1.heap[w.heap.size]? = some (wdB wd0) := by rw [hW1]; exact World.alloc_heap_new w _
  have hl1 : w.heap.size < W1.heap.size := (Array.getElem?_eq_some_iff.1 hk1).1
  have HW1 := Lib.hid hW1
  have HKEY := Lib.hid fun (w3 : World) (hb3 : Below W1.heap.size W1 w3) => wd0_at ((hb3.block _ hl1).trans hk1)
  have HKB := Lib.hid fun (w3 : World) (hb3 : Below W1.heap.size W1 w3) => And.intro ((hb3.block _ hl1).trans hk1) (hb1.trans (hb3.mono hb1.size))
  clear hb1 hk1 hl1 hW1
  go_enter Tryd.func37, Tryd.ntmps37
  go_upto_region 1 with fail
  rw [← HW1.out]
  clear HW1
  go_wp2_with (first
    | (go_at_call 59
       refine (HR.out _).mono ?_
       rintro e w3 ⟨rfl, hb3⟩
       have HB3 := Lib.hid hb3
       have HN3 := Lib.hid (HN.out w3 (HKB.out w3 hb3).2)
       clear hb3 HR)
    | (go_at_call 60
       refine HN3.out.mono ?_
       rintro e w4 ⟨rfl, hb4⟩
       have hb := HB3.out.trans (hb4.mono HB3.out.size)
       obtain ⟨⟨d0, d1, d2, d3⟩, f0, f1, f2, f3⟩ := HKEY.out w4 hb
       have HKB4 := Lib.hid (HKB.out w4 hb)
       clear hb hb4 HN3)
    | (go_at_call 22
       refine (HS.out _).mono ?_
       rintro e w6 ⟨rfl, hb6⟩
       have hq := wd_keep hb6 (wd_new w4 2 N rfl)
       have hp := wd_keep hb6 ((((below_box _).block _ (Array.getElem?_eq_some_iff.1 HKB4.out.1).1)).trans HKB4.out.1)
       have hB6 := HKB4.out.2.trans (((below_box _).trans (hb6.mono (below_box _).size)).mono HKB4.out.2.size)
       clear d0 d1 d2 d3 f0 f1 f2 f3
       obtain ⟨⟨d0, d1, d2, d3⟩, f0, f1, f2, f3⟩ := wd0_at hp
       obtain ⟨⟨c0, c1, c2, c3⟩, g⟩ := wd_blk hq
       obtain ⟨g0, g1, g2, g3⟩ : _ ∧ _ ∧ _ ∧ _ := ⟨g 0, g 1, g 2, g 3⟩
       obtain ⟨⟨h0, h1, h2, h3⟩, j0, j1, j2, j3⟩ := wd0_at ((heap_set_ne (a := ⟨w4.heap.size, 0, none⟩) (u := .int .i64 7) (Nat.ne_of_lt (Array.getElem?_eq_some_iff.1 HKB4.out.1).1)).trans hp)
       have hne : w.heap.size ≠ w4.heap.size := Nat.ne_of_lt (Array.getElem?_eq_some_iff.1 HKB4.out.1).1
       have HP6 := Lib.hid hp
       have HB6 := Lib.hid hB6
       have HNE := Lib.hid hne
       clear hb6 hq hp hB6 g HS hne)
    | (go_at_call 62
       have CC := HO.out w6
       with_reducible refine CC.mono ?_
       clear CC
       rintro e w7 ⟨rfl, hw⟩
       have hw := hw.symm
       subst hw)
    | (go_at_call 62
       have CC := HA.out w6
       with_reducible refine CC.mono ?_
       clear CC
       rintro e w7 ⟨rfl, hw⟩
       have hw := hw.symm
       subst hw))
  exact end_word Tryd.results37 w _ (some (⟨7, N, .num 0⟩, n)) (x := ⟨7, N, .num 0⟩) ((heap_set_ne (a := ⟨w4.heap.size, 0, none⟩) HNE.out).trans HP6.out) (HB6.out.setCell (p := ⟨w4.heap.size, 0, none⟩) (Nat.le_of_lt (Nat.lt_of_le_of_ne HKB4.out.2.size HNE.out)) _) (by rfl) (by rfl) rfl rfl rfl
set_option maxHeartbeats 8000000 in
theorem named_name (l N t nx : List UInt8) (n : Nat) (w : World)
    (hN : (bs N).size = n) (hsl : ∀ wx, (Instr.slice 9 (.string (bs l)) (some (.int .i64 (n : Int))) none none).run Tryd.prog wx = .ok (.string (bs t)) wx)
    (HR : Hid (∀ W : World, Calls Tryd.prog 59 #[.string (bs l)] W fun e w' => e = .returned (.string (bs N)) ∧ Below W.heap.size W w'))
    (HN : Hid (∀ W : World, Below w.heap.size w W → Calls Tryd.prog 60 #[.string (bs N)] W fun e w' => e = .returned (.bool true) ∧ Below W.heap.size W w'))
    (HS : Hid (∀ W : World, Calls Tryd.prog 22 #[.string (bs t), .func (.func 23) #[] #[]] W fun e w' => e = .returned (.string (bs nx)) ∧ Below W.heap.size W w'))
    (HO : Hid (∀ W : World, Calls Tryd.prog 62 #[.string (bs nx), .string ⟨#[40]⟩] W fun e w' => e = .returned (.bool false) ∧ w' = W))
    (HA : Hid (∀ W : World, Calls Tryd.prog 62 #[.string (bs nx), .string ⟨#[58, 58]⟩] W fun e w' => e = .returned (.bool false) ∧ w' = W)) :
    Calls Tryd.prog 37 #[.string (bs l), .bool false] w (WdPost w (some (⟨2, N, .num 0⟩, n))) := by
  obtain ⟨W1, hW1⟩ : ∃ W1, W1 = w.alloc (.cells #[.int .i64 0, .string ⟨#[]⟩, .int .i64 0, .int .i64 0] 47) := ⟨_, rfl⟩
  have hb1 : Below w.heap.size w W1 := by rw [hW1]; exact below_box _
  have hk1 : W1.heap[w.heap.size]? = some (wdB wd0) := by rw [hW1]; exact World.alloc_heap_new w _
  have hl1 : w.heap.size < W1.heap.size := (Array.getElem?_eq_some_iff.1 hk1).1
  have HW1 := Lib.hid hW1
  have HKEY := Lib.hid fun (w3 : World) (hb3 : Below W1.heap.size W1 w3) => wd0_at ((hb3.block _ hl1).trans hk1)
  have HKB := Lib.hid fun (w3 : World) (hb3 : Below W1.heap.size W1 w3) => And.intro ((hb3.block _ hl1).trans hk1) (hb1.trans (hb3.mono hb1.size))
  clear hb1 hk1 hl1 hW1
  go_enter Tryd.func37, Tryd.ntmps37
  go_upto_region 1 with fail
  rw [← HW1.out]
  clear HW1
  go_wp2_with (first
    | (go_at_call 59
       refine (HR.out _).mono ?_
       rintro e w3 ⟨rfl, hb3⟩
       have HB3 := Lib.hid hb3
       have HN3 := Lib.hid (HN.out w3 (HKB.out w3 hb3).2)
       clear hb3 HR)
    | (go_at_call 60
       refine HN3.out.mono ?_
       rintro e w4 ⟨rfl, hb4⟩
       have hb := HB3.out.trans (hb4.mono HB3.out.size)
       obtain ⟨⟨d0, d1, d2, d3⟩, f0, f1, f2, f3⟩ := HKEY.out w4 hb
       have HKB4 := Lib.hid (HKB.out w4 hb)
       clear hb hb4 HN3)
    | (go_at_call 22
       refine (HS.out _).mono ?_
       rintro e w6 ⟨rfl, hb6⟩
       have hq := wd_keep hb6 (wd_new w4 2 N rfl)
       have hp := wd_keep hb6 ((((below_box _).block _ (Array.getElem?_eq_some_iff.1 HKB4.out.1).1)).trans HKB4.out.1)
       have hB6 := HKB4.out.2.trans (((below_box _).trans (hb6.mono (below_box _).size)).mono HKB4.out.2.size)
       clear d0 d1 d2 d3 f0 f1 f2 f3
       obtain ⟨⟨d0, d1, d2, d3⟩, f0, f1, f2, f3⟩ := wd0_at hp
       obtain ⟨⟨c0, c1, c2, c3⟩, g⟩ := wd_blk hq
       obtain ⟨g0, g1, g2, g3⟩ : _ ∧ _ ∧ _ ∧ _ := ⟨g 0, g 1, g 2, g 3⟩
       have hne : w.heap.size ≠ w4.heap.size := Nat.ne_of_lt (Array.getElem?_eq_some_iff.1 HKB4.out.1).1
       have HP6 := Lib.hid hp
       have HB6 := Lib.hid hB6
       have HNE := Lib.hid hne
       clear hb6 hq hp hB6 g HS hne)
    | (go_at_call 62
       have CC := HO.out w6
       with_reducible refine CC.mono ?_
       clear CC
       rintro e w7 ⟨rfl, hw⟩
       have hw := hw.symm
       subst hw)
    | (go_at_call 62
       have CC := HA.out w6
       with_reducible refine CC.mono ?_
       clear CC
       rintro e w7 ⟨rfl, hw⟩
       have hw := hw.symm
       subst hw))
  exact end_word Tryd.results37 w w6 (some (⟨2, N, .num 0⟩, n)) (x := ⟨2, N, .num 0⟩) HP6.out HB6.out (by rfl) (by rfl) rfl rfl rfl
theorem named_any (l : List UInt8) (ended : Bool) (w : World) (hl : l.length ≤ 1000) (ht : txD l = true) (hG : Gl w) : Calls Tryd.prog 37 #[.string (bs l), .bool ended] w (WdPost w (nameW ended l)) := by
  have hr := run_le _ l (Nat.le_refl _)
  have hNl : (l.take (runL l)).length = runL l := by rw [List.length_take]; exact Nat.min_eq_left hr
  have hN : (bs (l.take (runL l))).size = runL l := by rw [bs_size]; exact hNl
  have hsl := slice_from l (runL l) hr
  have HR := Lib.hid fun (W : World) => lexRun_any l W (by omega) ht
  have hNm : ∀ W : World, Below w.heap.size w W → _ := fun (W : World) (hb : Below w.heap.size w W) => chName_any (bs (l.take (runL l))) W (by omega) (hG.below hb).1
  have HS := Lib.hid fun (W : World) => behindS_any (l.drop (runL l)) W
  have HJ : ∀ W : World, _ := fun (W : World) => joins_any (l.take (runL l)) W
  have HK : ∀ W : World, _ := fun (W : World) => kindOf_any (l.take (runL l)) W
  have HO : ∀ W : World, _ := fun (W : World) => hasp_any (dropS (l.drop (runL l))) [40] W
  have HA : ∀ W : World, _ := fun (W : World) => hasp_any (dropS (l.drop (runL l))) [58, 58] W
  cases hE : nmD (bs (l.take (runL l))) with
  | false =>
    rw [hE] at hNm
    have e : nameW ended l = none := by unfold nameW; rw [hE]; rfl
    rw [e]
    exact named_bad l _ ended w HR (Lib.hid hNm)
  | true =>
    rw [hE] at hNm
    cases ended with
    | true =>
      cases hj : joinsL.contains (l.take (runL l)) with
      | false =>
        rw [hj] at HJ
        have e : nameW true l = none := by unfold nameW; rw [hE, hj]; rfl
        rw [e]
        exact named_nojoin l _ w HR (Lib.hid hNm) (Lib.hid HJ)
      | true =>
        rw [hj] at HJ
        have e : nameW true l = some (⟨5, l.take (runL l), .num 0⟩, runL l) := by unfold nameW; rw [hE, hj]; rfl
        rw [e]
        exact named_op l _ _ _ _ w hN hsl HR (Lib.hid hNm) (Lib.hid HJ) HS
    | false =>
      have e0 : nameW false l = some (⟨kindN false (l.take (runL l)) (nx0 (dropS (l.drop (runL l)))), l.take (runL l), .num 0⟩, runL l) := by unfold nameW; rw [hE]; rfl
      rw [e0]
      unfold nx0
      cases h1 : ([40] : List UInt8).isPrefixOf (dropS (l.drop (runL l))) with
      | true =>
        rw [h1] at HO
        cases h2 : typesL.contains (l.take (runL l)) with
        | true =>
          rw [h2] at HK
          have e : kindN false (l.take (runL l)) (if true = true then 1 else if ([58, 58] : List UInt8).isPrefixOf (dropS (l.drop (runL l))) = true then 2 else 0) = 4 := by unfold kindN; rw [h2]; rfl
          rw [e]
          exact named_type l _ _ _ _ w hN hsl HR (Lib.hid hNm) HS (Lib.hid HO) (Lib.hid HK)
        | false =>
          rw [h2] at HK
          have e : kindN false (l.take (runL l)) (if true = true then 1 else if ([58, 58] : List UInt8).isPrefixOf (dropS (l.drop (runL l))) = true then 2 else 0) = 6 := by unfold kindN; rw [h2]; rfl
          rw [e]
          exact named_func l _ _ _ _ w hN hsl HR (Lib.hid hNm) HS (Lib.hid HO) (Lib.hid HK)
      | false =>
        rw [h1] at HO
        cases h2 : ([58, 58] : List UInt8).isPrefixOf (dropS (l.drop (runL l))) with
        | true =>
          rw [h2] at HA
          exact named_axis l _ _ _ _ w hN hsl HR (Lib.hid hNm) HS (Lib.hid HO) (Lib.hid HA)
        | false =>
          rw [h2] at HA
          exact named_name l _ _ _ _ w hN hsl HR (Lib.hid hNm) HS (Lib.hid HO) (Lib.hid HA)
end Go.Proofs.YtbemijbgbjcoeaaDoor.Char
