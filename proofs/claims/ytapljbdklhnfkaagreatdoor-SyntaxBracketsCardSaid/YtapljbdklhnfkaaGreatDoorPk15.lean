/- KindD KindE -/
import Derived.Test.YtapljbdklhnfkaaGreatDoorPk14
/- The walk of the lexer's numbers. -/
namespace Go.Proofs.YtapljbdklhnfkaaGreatDoor.Char
open Go.RowKit Go.Lib
open Go.Proofs.YtapljbdklhnfkaaGreatDoor.Fig (litL litX decV outT outV lit_any)

theorem siz_rest (l : List UInt8) : (if ([46] : List UInt8).isPrefixOf (l.drop (dgs l)) then ((l.drop (dgs l)).drop 1).drop (dgs ((l.drop (dgs l)).drop 1)) else l.drop (dgs l)) = l.drop (sizN l) := by
  unfold sizN
  have e : (l.drop (dgs l)).drop 1 = l.drop (dgs l + 1) := by rw [List.drop_drop]
  split
  · rw [e, List.drop_drop]
    exact congrArg (fun n => l.drop n) (by omega)
  · rw [Nat.add_zero]
theorem dec_box (w5 : World) (T V : Int) : (w5.alloc (.cells #[.int .i64 T, .int .i64 V] 24)).cell? ⟨w5.heap.size, 0, none⟩ = some (.int .i64 T) ∧ (w5.alloc (.cells #[.int .i64 T, .int .i64 V] 24)).cell? ⟨w5.heap.size, 1, none⟩ = some (.int .i64 V) := by
  have h := World.alloc_heap_new w5 (.cells #[.int .i64 T, .int .i64 V] 24)
  exact ⟨by simp only [World.cell?, h]; rfl, by simp only [World.cell?, h]; rfl⟩
theorem end_drew {fn : Func} {p q : Tmp} (h : fn.results = #[.cell p 84, .tmp q]) {a : Act} (w w1 : World) (o : Option (Wd × Nat)) {x y : Wd} {k : Int} (hk : w1.heap[w.heap.size]? = some (wdB y)) (hb : Below w.heap.size w w1)
    (hx : (o.getD (wd0, 0)).1 = x) (hn : ((o.getD (wd0, 0)).2 : Int) = k)
    (hp : a.tmps.getD p undef = .pointer (some ⟨w.heap.size, 0, none⟩)) (hq : a.tmps.getD q undef = .int .i64 k) (hd : a.defers = []) : bodyPost Tryz.prog fn (WdPost w o) .ret a (set4 w1 w.heap.size x).drew :=
  end_wd2 h _ w.heap.size (c := .int .i64 k) (set4_at hk) hp hq hd ⟨by rw [hx, hn], (set4_below hb (Nat.le_refl _)).drew⟩
set_option maxHeartbeats 8000000 in
theorem number_f_no (l u r1 : List UInt8) (n : Nat) (T V : Int) (w : World)
    (hs1 : (bs l).size = l.length) (hs2 : (bs r1).size = l.length - n)
    (hwr : IntKind.i64.wrap ((l.length : Int) - ((l.length - n : Nat) : Int)) = (n : Int))
    (hsl : ∀ wx, (Instr.slice 9 (.string (bs l)) none (some (.int .i64 (n : Int))) none).run Tryz.prog wx = .ok (.string (bs u)) wx)
    (HBD : Hid (∀ W : World, Calls Tryz.prog 89 #[.string (bs l), .func (.func 132) #[] #[]] W fun e w' => e = .returned (.string (bs r1)) ∧ Below W.heap.size W w'))
    (HC : Hid (∀ W : World, Calls Tryz.prog 133 #[.string (bs r1), .string (bs [46])] W fun e w' => e = .returned (.tuple #[.string (bs r1), .bool false]) ∧ w' = W))
    (HLIT : Hid (∀ W : World, Calls Tryz.prog 134 #[.string (bs u)] W fun e w' => e = .returned (.tuple #[.agg #[.int .i64 T, .int .i64 V], .bool false]) ∧ Below W.heap.size W w')) :
    Calls Tryz.prog 94 #[.string (bs l)] w (WdPost w (none)) := by
  obtain ⟨W1, hW1⟩ : ∃ W1, W1 = w.alloc (.cells #[.int .i64 0, .string ⟨#[]⟩, .int .i64 0, .int .i64 0] 84) := ⟨_, rfl⟩
  have hb1 : Below w.heap.size w W1 := by rw [hW1]; exact below_box _
  have hk1 : W1.heap[w.heap.size]? = some (wdB wd0) := by rw [hW1]; exact World.alloc_heap_new w _
  have hl1 : w.heap.size < W1.heap.size := (Array.getElem?_eq_some_iff.1 hk1).1
  have HW1 := Lib.hid hW1
  have HKEY := Lib.hid fun (w3 : World) (hb3 : Below W1.heap.size W1 w3) => wd0_at ((hb3.block _ hl1).trans hk1)
  have HKB := Lib.hid fun (w3 : World) (hb3 : Below W1.heap.size W1 w3) => And.intro ((hb3.block _ hl1).trans hk1) (hb1.trans (hb3.mono hb1.size))
  have HL1 := Lib.hid hl1
  have HBD1 := Lib.hid (HBD.out W1)
  clear hb1 hk1 hl1 hW1 HBD
  go_enter Tryz.func94, Tryz.ntmps94
  go_upto_region 1 with fail
  rw [← HW1.out]
  clear HW1
  go_wp2_with (first
    | (go_at_call 89
       with_reducible refine HBD1.out.mono ?_
       rintro e w2 ⟨rfl, hb2⟩
       have HB2 := Lib.hid hb2
       have HC2 := Lib.hid (HC.out w2)
       clear hb2 HBD1)
    | (go_at_call 133
       refine HC2.out.mono ?_
       rintro e w3 ⟨rfl, hw⟩
       have hw := hw.symm
       subst hw
       have HB4 := HB2
       have HT4 := Lib.hid (HLIT.out w2)
       clear HC2)
    | (go_at_call 134
       refine HT4.out.mono ?_
       rintro e w5 ⟨rfl, hb5⟩
       have hb := HB4.out.trans (hb5.mono HB4.out.size)
       have ka := fun ob => HKEY.out _ (hb.trans ((below_box ob).mono hb.size))
       have KB := Lib.hid fun ob => HKB.out _ (hb.trans ((below_box ob).mono hb.size))
       clear hb hb5 HT4))
  exact end_word Tryz.results94 w _ none (x := wd0) (KB.out _).1 (KB.out _).2 (by rfl) (by rfl) rfl rfl rfl
set_option maxHeartbeats 8000000 in
theorem number_f_odd (l u r1 : List UInt8) (n : Nat) (T V : Int) (w : World) (hT : (T != 0) = true)
    (hs1 : (bs l).size = l.length) (hs2 : (bs r1).size = l.length - n)
    (hwr : IntKind.i64.wrap ((l.length : Int) - ((l.length - n : Nat) : Int)) = (n : Int))
    (hsl : ∀ wx, (Instr.slice 9 (.string (bs l)) none (some (.int .i64 (n : Int))) none).run Tryz.prog wx = .ok (.string (bs u)) wx)
    (HBD : Hid (∀ W : World, Calls Tryz.prog 89 #[.string (bs l), .func (.func 132) #[] #[]] W fun e w' => e = .returned (.string (bs r1)) ∧ Below W.heap.size W w'))
    (HC : Hid (∀ W : World, Calls Tryz.prog 133 #[.string (bs r1), .string (bs [46])] W fun e w' => e = .returned (.tuple #[.string (bs r1), .bool false]) ∧ w' = W))
    (HLIT : Hid (∀ W : World, Calls Tryz.prog 134 #[.string (bs u)] W fun e w' => e = .returned (.tuple #[.agg #[.int .i64 T, .int .i64 V], .bool true]) ∧ Below W.heap.size W w')) :
    Calls Tryz.prog 94 #[.string (bs l)] w (WdPost w (none)) := by
  obtain ⟨W1, hW1⟩ : ∃ W1, W1 = w.alloc (.cells #[.int .i64 0, .string ⟨#[]⟩, .int .i64 0, .int .i64 0] 84) := ⟨_, rfl⟩
  have hb1 : Below w.heap.size w W1 := by rw [hW1]; exact below_box _
  have hk1 : W1.heap[w.heap.size]? = some (wdB wd0) := by rw [hW1]; exact World.alloc_heap_new w _
  have hl1 : w.heap.size < W1.heap.size := (Array.getElem?_eq_some_iff.1 hk1).1
  have HW1 := Lib.hid hW1
  have HKEY := Lib.hid fun (w3 : World) (hb3 : Below W1.heap.size W1 w3) => wd0_at ((hb3.block _ hl1).trans hk1)
  have HKB := Lib.hid fun (w3 : World) (hb3 : Below W1.heap.size W1 w3) => And.intro ((hb3.block _ hl1).trans hk1) (hb1.trans (hb3.mono hb1.size))
  have HL1 := Lib.hid hl1
  have HBD1 := Lib.hid (HBD.out W1)
  clear hb1 hk1 hl1 hW1 HBD
  go_enter Tryz.func94, Tryz.ntmps94
  go_upto_region 1 with fail
  rw [← HW1.out]
  clear HW1
  go_wp2_with (first
    | (go_at_call 89
       with_reducible refine HBD1.out.mono ?_
       rintro e w2 ⟨rfl, hb2⟩
       have HB2 := Lib.hid hb2
       have HC2 := Lib.hid (HC.out w2)
       clear hb2 HBD1)
    | (go_at_call 133
       refine HC2.out.mono ?_
       rintro e w3 ⟨rfl, hw⟩
       have hw := hw.symm
       subst hw
       have HB4 := HB2
       have HT4 := Lib.hid (HLIT.out w2)
       clear HC2)
    | (go_at_call 134
       refine HT4.out.mono ?_
       rintro e w5 ⟨rfl, hb5⟩
       have hb := HB4.out.trans (hb5.mono HB4.out.size)
       have ka := fun ob => HKEY.out _ (hb.trans ((below_box ob).mono hb.size))
       have KB := Lib.hid fun ob => HKB.out _ (hb.trans ((below_box ob).mono hb.size))
       clear hb hb5 HT4))
  exact end_word Tryz.results94 w _ none (x := wd0) (KB.out _).1 (KB.out _).2 (by rfl) (by rfl) rfl rfl rfl
set_option maxHeartbeats 8000000 in
theorem number_f_yes (l u r1 : List UInt8) (n : Nat) (V : Int) (w : World)
    (hs1 : (bs l).size = l.length) (hs2 : (bs r1).size = l.length - n)
    (hwr : IntKind.i64.wrap ((l.length : Int) - ((l.length - n : Nat) : Int)) = (n : Int))
    (hsl : ∀ wx, (Instr.slice 9 (.string (bs l)) none (some (.int .i64 (n : Int))) none).run Tryz.prog wx = .ok (.string (bs u)) wx)
    (HBD : Hid (∀ W : World, Calls Tryz.prog 89 #[.string (bs l), .func (.func 132) #[] #[]] W fun e w' => e = .returned (.string (bs r1)) ∧ Below W.heap.size W w'))
    (HC : Hid (∀ W : World, Calls Tryz.prog 133 #[.string (bs r1), .string (bs [46])] W fun e w' => e = .returned (.tuple #[.string (bs r1), .bool false]) ∧ w' = W))
    (HLIT : Hid (∀ W : World, Calls Tryz.prog 134 #[.string (bs u)] W fun e w' => e = .returned (.tuple #[.agg #[.int .i64 0, .int .i64 V], .bool true]) ∧ Below W.heap.size W w')) :
    Calls Tryz.prog 94 #[.string (bs l)] w (WdPost w (some (⟨9, u, .num V⟩, n))) := by
  obtain ⟨W1, hW1⟩ : ∃ W1, W1 = w.alloc (.cells #[.int .i64 0, .string ⟨#[]⟩, .int .i64 0, .int .i64 0] 84) := ⟨_, rfl⟩
  have hb1 : Below w.heap.size w W1 := by rw [hW1]; exact below_box _
  have hk1 : W1.heap[w.heap.size]? = some (wdB wd0) := by rw [hW1]; exact World.alloc_heap_new w _
  have hl1 : w.heap.size < W1.heap.size := (Array.getElem?_eq_some_iff.1 hk1).1
  have HW1 := Lib.hid hW1
  have HKEY := Lib.hid fun (w3 : World) (hb3 : Below W1.heap.size W1 w3) => wd0_at ((hb3.block _ hl1).trans hk1)
  have HKB := Lib.hid fun (w3 : World) (hb3 : Below W1.heap.size W1 w3) => And.intro ((hb3.block _ hl1).trans hk1) (hb1.trans (hb3.mono hb1.size))
  have HL1 := Lib.hid hl1
  have HBD1 := Lib.hid (HBD.out W1)
  clear hb1 hk1 hl1 hW1 HBD
  go_enter Tryz.func94, Tryz.ntmps94
  go_upto_region 1 with fail
  rw [← HW1.out]
  clear HW1
  go_wp2_with (first
    | (go_at_call 89
       with_reducible refine HBD1.out.mono ?_
       rintro e w2 ⟨rfl, hb2⟩
       have HB2 := Lib.hid hb2
       have HC2 := Lib.hid (HC.out w2)
       clear hb2 HBD1)
    | (go_at_call 133
       refine HC2.out.mono ?_
       rintro e w3 ⟨rfl, hw⟩
       have hw := hw.symm
       subst hw
       have HB4 := HB2
       have HT4 := Lib.hid (HLIT.out w2)
       clear HC2)
    | (go_at_call 134
       refine HT4.out.mono ?_
       rintro e w5 ⟨rfl, hb5⟩
       have hb := HB4.out.trans (hb5.mono HB4.out.size)
       have ka := fun ob => HKEY.out _ (hb.trans ((below_box ob).mono hb.size))
       have KB := Lib.hid fun ob => HKB.out _ (hb.trans ((below_box ob).mono hb.size))
       clear hb hb5 HT4))
  obtain ⟨⟨d0, d1, d2, d3⟩, f0, f1, f2, f3⟩ := ka (.cells #[.int .i64 0, .int .i64 V] 24)
  obtain ⟨e1, e2⟩ := dec_box w5 0 V
  clear ka

  go_region
  go_wp2_with fail
  exact end_drew Tryz.results94 w _ (some (⟨9, u, .num V⟩, n)) (x := ⟨9, u, .num V⟩) (KB.out _).1 (KB.out _).2 (by rfl) (by rfl) rfl rfl rfl
set_option maxHeartbeats 8000000 in
theorem number_t_no (l u r1 t2 : List UInt8) (n : Nat) (T V : Int) (w : World)
    (hs1 : (bs l).size = l.length) (hs2 : (bs t2).size = l.length - n)
    (hwr : IntKind.i64.wrap ((l.length : Int) - ((l.length - n : Nat) : Int)) = (n : Int))
    (hsl : ∀ wx, (Instr.slice 9 (.string (bs l)) none (some (.int .i64 (n : Int))) none).run Tryz.prog wx = .ok (.string (bs u)) wx)
    (HBD : Hid (∀ W : World, Calls Tryz.prog 89 #[.string (bs l), .func (.func 132) #[] #[]] W fun e w' => e = .returned (.string (bs r1)) ∧ Below W.heap.size W w'))
    (HC : Hid (∀ W : World, Calls Tryz.prog 133 #[.string (bs r1), .string (bs [46])] W fun e w' => e = .returned (.tuple #[.string (bs (r1.drop 1)), .bool true]) ∧ w' = W))
    (HP : Hid (∀ W : World, Calls Tryz.prog 89 #[.string (bs (r1.drop 1)), .func (.func 132) #[] #[]] W fun e w' => e = .returned (.string (bs t2)) ∧ Below W.heap.size W w'))
    (HLIT : Hid (∀ W : World, Calls Tryz.prog 134 #[.string (bs u)] W fun e w' => e = .returned (.tuple #[.agg #[.int .i64 T, .int .i64 V], .bool false]) ∧ Below W.heap.size W w')) :
    Calls Tryz.prog 94 #[.string (bs l)] w (WdPost w (none)) := by
  obtain ⟨W1, hW1⟩ : ∃ W1, W1 = w.alloc (.cells #[.int .i64 0, .string ⟨#[]⟩, .int .i64 0, .int .i64 0] 84) := ⟨_, rfl⟩
  have hb1 : Below w.heap.size w W1 := by rw [hW1]; exact below_box _
  have hk1 : W1.heap[w.heap.size]? = some (wdB wd0) := by rw [hW1]; exact World.alloc_heap_new w _
  have hl1 : w.heap.size < W1.heap.size := (Array.getElem?_eq_some_iff.1 hk1).1
  have HW1 := Lib.hid hW1
  have HKEY := Lib.hid fun (w3 : World) (hb3 : Below W1.heap.size W1 w3) => wd0_at ((hb3.block _ hl1).trans hk1)
  have HKB := Lib.hid fun (w3 : World) (hb3 : Below W1.heap.size W1 w3) => And.intro ((hb3.block _ hl1).trans hk1) (hb1.trans (hb3.mono hb1.size))
  have HL1 := Lib.hid hl1
  have HBD1 := Lib.hid (HBD.out W1)
  clear hb1 hk1 hl1 hW1 HBD
  generalize r1.drop 1 = pt at *
  go_enter Tryz.func94, Tryz.ntmps94
  go_upto_region 1 with fail
  rw [← HW1.out]
  clear HW1
  go_wp2_with (first
    | (go_at_call 89
       with_reducible refine HBD1.out.mono ?_
       rintro e w2 ⟨rfl, hb2⟩
       have HB2 := Lib.hid hb2
       have HC2 := Lib.hid (HC.out w2)
       clear hb2 HBD1)
    | (go_at_call 133
       refine HC2.out.mono ?_
       rintro e w3 ⟨rfl, hw⟩
       have hw := hw.symm
       subst hw
       have HP2 := Lib.hid (HP.out w2)
       clear HC2)
    | (go_at_call 89
       refine HP2.out.mono ?_
       rintro e w4 ⟨rfl, hb4⟩
       have HB4 := Lib.hid (HB2.out.trans (hb4.mono HB2.out.size))
       have HT4 := Lib.hid (HLIT.out w4)
       clear hb4)
    | (go_at_call 134
       refine HT4.out.mono ?_
       rintro e w5 ⟨rfl, hb5⟩
       have hb := HB4.out.trans (hb5.mono HB4.out.size)
       have ka := fun ob => HKEY.out _ (hb.trans ((below_box ob).mono hb.size))
       have KB := Lib.hid fun ob => HKB.out _ (hb.trans ((below_box ob).mono hb.size))
       clear hb hb5 HT4))
  exact end_word Tryz.results94 w _ none (x := wd0) (KB.out _).1 (KB.out _).2 (by rfl) (by rfl) rfl rfl rfl
set_option maxHeartbeats 8000000 in
theorem number_t_odd (l u r1 t2 : List UInt8) (n : Nat) (T V : Int) (w : World) (hT : (T != 0) = true)
    (hs1 : (bs l).size = l.length) (hs2 : (bs t2).size = l.length - n)
    (hwr : IntKind.i64.wrap ((l.length : Int) - ((l.length - n : Nat) : Int)) = (n : Int))
    (hsl : ∀ wx, (Instr.slice 9 (.string (bs l)) none (some (.int .i64 (n : Int))) none).run Tryz.prog wx = .ok (.string (bs u)) wx)
    (HBD : Hid (∀ W : World, Calls Tryz.prog 89 #[.string (bs l), .func (.func 132) #[] #[]] W fun e w' => e = .returned (.string (bs r1)) ∧ Below W.heap.size W w'))
    (HC : Hid (∀ W : World, Calls Tryz.prog 133 #[.string (bs r1), .string (bs [46])] W fun e w' => e = .returned (.tuple #[.string (bs (r1.drop 1)), .bool true]) ∧ w' = W))
    (HP : Hid (∀ W : World, Calls Tryz.prog 89 #[.string (bs (r1.drop 1)), .func (.func 132) #[] #[]] W fun e w' => e = .returned (.string (bs t2)) ∧ Below W.heap.size W w'))
    (HLIT : Hid (∀ W : World, Calls Tryz.prog 134 #[.string (bs u)] W fun e w' => e = .returned (.tuple #[.agg #[.int .i64 T, .int .i64 V], .bool true]) ∧ Below W.heap.size W w')) :
    Calls Tryz.prog 94 #[.string (bs l)] w (WdPost w (none)) := by
  obtain ⟨W1, hW1⟩ : ∃ W1, W1 = w.alloc (.cells #[.int .i64 0, .string ⟨#[]⟩, .int .i64 0, .int .i64 0] 84) := ⟨_, rfl⟩
  have hb1 : Below w.heap.size w W1 := by rw [hW1]; exact below_box _
  have hk1 : W1.heap[w.heap.size]? = some (wdB wd0) := by rw [hW1]; exact World.alloc_heap_new w _
  have hl1 : w.heap.size < W1.heap.size := (Array.getElem?_eq_some_iff.1 hk1).1
  have HW1 := Lib.hid hW1
  have HKEY := Lib.hid fun (w3 : World) (hb3 : Below W1.heap.size W1 w3) => wd0_at ((hb3.block _ hl1).trans hk1)
  have HKB := Lib.hid fun (w3 : World) (hb3 : Below W1.heap.size W1 w3) => And.intro ((hb3.block _ hl1).trans hk1) (hb1.trans (hb3.mono hb1.size))
  have HL1 := Lib.hid hl1
  have HBD1 := Lib.hid (HBD.out W1)
  clear hb1 hk1 hl1 hW1 HBD
  generalize r1.drop 1 = pt at *
  go_enter Tryz.func94, Tryz.ntmps94
  go_upto_region 1 with fail
  rw [← HW1.out]
  clear HW1
  go_wp2_with (first
    | (go_at_call 89
       with_reducible refine HBD1.out.mono ?_
       rintro e w2 ⟨rfl, hb2⟩
       have HB2 := Lib.hid hb2
       have HC2 := Lib.hid (HC.out w2)
       clear hb2 HBD1)
    | (go_at_call 133
       refine HC2.out.mono ?_
       rintro e w3 ⟨rfl, hw⟩
       have hw := hw.symm
       subst hw
       have HP2 := Lib.hid (HP.out w2)
       clear HC2)
    | (go_at_call 89
       refine HP2.out.mono ?_
       rintro e w4 ⟨rfl, hb4⟩
       have HB4 := Lib.hid (HB2.out.trans (hb4.mono HB2.out.size))
       have HT4 := Lib.hid (HLIT.out w4)
       clear hb4)
    | (go_at_call 134
       refine HT4.out.mono ?_
       rintro e w5 ⟨rfl, hb5⟩
       have hb := HB4.out.trans (hb5.mono HB4.out.size)
       have ka := fun ob => HKEY.out _ (hb.trans ((below_box ob).mono hb.size))
       have KB := Lib.hid fun ob => HKB.out _ (hb.trans ((below_box ob).mono hb.size))
       clear hb hb5 HT4))
  exact end_word Tryz.results94 w _ none (x := wd0) (KB.out _).1 (KB.out _).2 (by rfl) (by rfl) rfl rfl rfl
set_option maxHeartbeats 8000000 in
theorem number_t_yes (l u r1 t2 : List UInt8) (n : Nat) (V : Int) (w : World)
    (hs1 : (bs l).size = l.length) (hs2 : (bs t2).size = l.length - n)
    (hwr : IntKind.i64.wrap ((l.length : Int) - ((l.length - n : Nat) : Int)) = (n : Int))
    (hsl : ∀ wx, (Instr.slice 9 (.string (bs l)) none (some (.int .i64 (n : Int))) none).run Tryz.prog wx = .ok (.string (bs u)) wx)
    (HBD : Hid (∀ W : World, Calls Tryz.prog 89 #[.string (bs l), .func (.func 132) #[] #[]] W fun e w' => e = .returned (.string (bs r1)) ∧ Below W.heap.size W w'))
    (HC : Hid (∀ W : World, Calls Tryz.prog 133 #[.string (bs r1), .string (bs [46])] W fun e w' => e = .returned (.tuple #[.string (bs (r1.drop 1)), .bool true]) ∧ w' = W))
    (HP : Hid (∀ W : World, Calls Tryz.prog 89 #[.string (bs (r1.drop 1)), .func (.func 132) #[] #[]] W fun e w' => e = .returned (.string (bs t2)) ∧ Below W.heap.size W w'))
    (HLIT : Hid (∀ W : World, Calls Tryz.prog 134 #[.string (bs u)] W fun e w' => e = .returned (.tuple #[.agg #[.int .i64 0, .int .i64 V], .bool true]) ∧ Below W.heap.size W w')) :
    Calls Tryz.prog 94 #[.string (bs l)] w (WdPost w (some (⟨9, u, .num V⟩, n))) := by
  obtain ⟨W1, hW1⟩ : ∃ W1, W1 = w.alloc (.cells #[.int .i64 0, .string ⟨#[]⟩, .int .i64 0, .int .i64 0] 84) := ⟨_, rfl⟩
  have hb1 : Below w.heap.size w W1 := by rw [hW1]; exact below_box _
  have hk1 : W1.heap[w.heap.size]? = some (wdB wd0) := by rw [hW1]; exact World.alloc_heap_new w _
  have hl1 : w.heap.size < W1.heap.size := (Array.getElem?_eq_some_iff.1 hk1).1
  have HW1 := Lib.hid hW1
  have HKEY := Lib.hid fun (w3 : World) (hb3 : Below W1.heap.size W1 w3) => wd0_at ((hb3.block _ hl1).trans hk1)
  have HKB := Lib.hid fun (w3 : World) (hb3 : Below W1.heap.size W1 w3) => And.intro ((hb3.block _ hl1).trans hk1) (hb1.trans (hb3.mono hb1.size))
  have HL1 := Lib.hid hl1
  have HBD1 := Lib.hid (HBD.out W1)
  clear hb1 hk1 hl1 hW1 HBD
  generalize r1.drop 1 = pt at *
  go_enter Tryz.func94, Tryz.ntmps94
  go_upto_region 1 with fail
  rw [← HW1.out]
  clear HW1
  go_wp2_with (first
    | (go_at_call 89
       with_reducible refine HBD1.out.mono ?_
       rintro e w2 ⟨rfl, hb2⟩
       have HB2 := Lib.hid hb2
       have HC2 := Lib.hid (HC.out w2)
       clear hb2 HBD1)
    | (go_at_call 133
       refine HC2.out.mono ?_
       rintro e w3 ⟨rfl, hw⟩
       have hw := hw.symm
       subst hw
       have HP2 := Lib.hid (HP.out w2)
       clear HC2)
    | (go_at_call 89
       refine HP2.out.mono ?_
       rintro e w4 ⟨rfl, hb4⟩
       have HB4 := Lib.hid (HB2.out.trans (hb4.mono HB2.out.size))
       have HT4 := Lib.hid (HLIT.out w4)
       clear hb4)
    | (go_at_call 134
       refine HT4.out.mono ?_
       rintro e w5 ⟨rfl, hb5⟩
       have hb := HB4.out.trans (hb5.mono HB4.out.size)
       have ka := fun ob => HKEY.out _ (hb.trans ((below_box ob).mono hb.size))
       have KB := Lib.hid fun ob => HKB.out _ (hb.trans ((below_box ob).mono hb.size))
       clear hb hb5 HT4))
  obtain ⟨⟨d0, d1, d2, d3⟩, f0, f1, f2, f3⟩ := ka (.cells #[.int .i64 0, .int .i64 V] 24)
  obtain ⟨e1, e2⟩ := dec_box w5 0 V
  clear ka

  go_region
  go_wp2_with fail
  exact end_drew Tryz.results94 w _ (some (⟨9, u, .num V⟩, n)) (x := ⟨9, u, .num V⟩) (KB.out _).1 (KB.out _).2 (by rfl) (by rfl) rfl rfl rfl
theorem number_any (l : List UInt8) (w : World) (hl : l.length ≤ 450) : Calls Tryz.prog 94 #[.string (bs l)] w (WdPost w (numW l)) := by
  have hn := siz_le l
  have hrest := siz_rest l
  obtain ⟨n, hnn⟩ : ∃ n, sizN l = n := ⟨_, rfl⟩
  have hv : numW l = (isNum (litL (l.take n))).map fun v => (⟨9, l.take n, .num v⟩, n) := by unfold numW; rw [hnn]
  rw [hnn] at hn hrest
  have hu : (l.take n).length = n := by rw [List.length_take]; exact Nat.min_eq_left hn
  have hsl := slice_to l n hn
  have hs1 := bs_size l
  have hs2 := bs_size (l.drop n)
  rw [List.length_drop] at hs2
  have hwr : IntKind.i64.wrap ((l.length : Int) - ((l.length - n : Nat) : Int)) = (n : Int) := by
    rw [show (l.length : Int) - ((l.length - n : Nat) : Int) = (n : Int) by omega]
    exact IntWalk.i64_in _ (by omega)
  have HLIT : ∀ W : World, _ := fun (W : World) => lit_any (l.take n) W (by omega)
  rw [hv]
  have HBD := Lib.hid (behindD_any l)
  cases hp : ([46] : List UInt8).isPrefixOf (l.drop (dgs l)) with
  | false =>
    rw [hp] at hrest
    simp only [Bool.false_eq_true, if_false] at hrest
    rw [← hrest] at hs2
    have HC := Lib.hid fun (W : World) => cutp12 (l.drop (dgs l)) [46] W false hp
    cases hL : litL (l.take n) with
    | none => rw [hL] at HLIT; exact number_f_no l _ _ n _ _ w hs1 hs2 hwr hsl HBD HC (Lib.hid HLIT)
    | some x =>
      rw [hL] at HLIT
      cases x with
      | num v => exact number_f_yes l _ _ n _ w hs1 hs2 hwr hsl HBD HC (Lib.hid HLIT)
      | nan => exact number_f_odd l _ _ n 1 0 w (by decide) hs1 hs2 hwr hsl HBD HC (Lib.hid HLIT)
      | over => exact number_f_odd l _ _ n 2 0 w (by decide) hs1 hs2 hwr hsl HBD HC (Lib.hid HLIT)
      | under => exact number_f_odd l _ _ n 3 0 w (by decide) hs1 hs2 hwr hsl HBD HC (Lib.hid HLIT)
  | true =>
    rw [hp] at hrest
    simp only [if_true] at hrest
    have HC := Lib.hid fun (W : World) => cutp12 (l.drop (dgs l)) [46] W true hp
    have HP := Lib.hid fun (W : World) => behindD_any ((l.drop (dgs l)).drop 1) W
    rw [hrest] at HP
    cases hL : litL (l.take n) with
    | none => rw [hL] at HLIT; exact number_t_no l _ _ _ n _ _ w hs1 hs2 hwr hsl HBD HC HP (Lib.hid HLIT)
    | some x =>
      rw [hL] at HLIT
      cases x with
      | num v => exact number_t_yes l _ _ _ n _ w hs1 hs2 hwr hsl HBD HC HP (Lib.hid HLIT)
      | nan => exact number_t_odd l _ _ _ n 1 0 w (by decide) hs1 hs2 hwr hsl HBD HC HP (Lib.hid HLIT)
      | over => exact number_t_odd l _ _ _ n 2 0 w (by decide) hs1 hs2 hwr hsl HBD HC HP (Lib.hid HLIT)
      | under => exact number_t_odd l _ _ _ n 3 0 w (by decide) hs1 hs2 hwr hsl HBD HC HP (Lib.hid HLIT)
end Go.Proofs.YtapljbdklhnfkaaGreatDoor.Char

/- The walk of the lexer's names. -/
namespace Go.Proofs.YtapljbdklhnfkaaGreatDoor.Char
open Go.RowKit Go.Lib

theorem wd_keep {w W : World} (hb : Below w.heap.size w W) {g : Nat} {x : Wd} (h : w.heap[g]? = some (wdB x)) : W.heap[g]? = some (wdB x) := (hb.block g (Array.getElem?_eq_some_iff.1 h).1).trans h
theorem wd_new (w : World) (k : Int) (N : List UInt8) (hk : k = 2) : (w.alloc (.cells #[.int .i64 k, .string (bs N), .int .i64 0, .int .i64 0] 84)).heap[w.heap.size]? = some (wdB ⟨2, N, .num 0⟩) := by rw [hk]; exact World.alloc_heap_new w _
set_option maxHeartbeats 8000000 in
theorem named_bad (l N : List UInt8) (ended : Bool) (w : World)
    (HR : Hid (∀ W : World, Calls Tryz.prog 136 #[.string (bs l)] W fun e w' => e = .returned (.string (bs N)) ∧ Below W.heap.size W w'))
    (HN : Hid (∀ W : World, Below w.heap.size w W → Calls Tryz.prog 66 #[.string (bs N)] W fun e w' => e = .returned (.bool false) ∧ Below W.heap.size W w')) :
    Calls Tryz.prog 104 #[.string (bs l), .bool ended] w (WdPost w (none)) := by
  obtain ⟨W1, hW1⟩ : ∃ W1, W1 = w.alloc (.cells #[.int .i64 0, .string ⟨#[]⟩, .int .i64 0, .int .i64 0] 84) := ⟨_, rfl⟩
  have hb1 : Below w.heap.size w W1 := by rw [hW1]; exact below_box _
  have hk1 : W1.heap[w.heap.size]? = some (wdB wd0) := by rw [hW1]; exact World.alloc_heap_new w _
  have hl1 : w.heap.size < W1.heap.size := (Array.getElem?_eq_some_iff.1 hk1).1
  have HW1 := Lib.hid hW1
  have HKEY := Lib.hid fun (w3 : World) (hb3 : Below W1.heap.size W1 w3) => wd0_at ((hb3.block _ hl1).trans hk1)
  have HKB := Lib.hid fun (w3 : World) (hb3 : Below W1.heap.size W1 w3) => And.intro ((hb3.block _ hl1).trans hk1) (hb1.trans (hb3.mono hb1.size))
  clear hb1 hk1 hl1 hW1
  go_enter Tryz.func104, Tryz.ntmps104
  go_upto_region 1 with fail
  rw [← HW1.out]
  clear HW1
  go_wp2_with (first
    | (go_at_call 136
       refine (HR.out _).mono ?_
       rintro e w3 ⟨rfl, hb3⟩
       have HB3 := Lib.hid hb3
       have HN3 := Lib.hid (HN.out w3 (HKB.out w3 hb3).2)
       clear hb3 HR)
    | (go_at_call 66
       refine HN3.out.mono ?_
       rintro e w4 ⟨rfl, hb4⟩
       have hb := HB3.out.trans (hb4.mono HB3.out.size)
       obtain ⟨⟨d0, d1, d2, d3⟩, f0, f1, f2, f3⟩ := HKEY.out w4 hb
       have HKB4 := Lib.hid (HKB.out w4 hb)
       clear hb hb4 HN3))
  exact end_word Tryz.results104 w w4 none (x := wd0) HKB4.out.1 HKB4.out.2 (by rfl) (by rfl) rfl rfl rfl
set_option maxHeartbeats 8000000 in
theorem named_nojoin (l N : List UInt8) (w : World)
    (HR : Hid (∀ W : World, Calls Tryz.prog 136 #[.string (bs l)] W fun e w' => e = .returned (.string (bs N)) ∧ Below W.heap.size W w'))
    (HN : Hid (∀ W : World, Below w.heap.size w W → Calls Tryz.prog 66 #[.string (bs N)] W fun e w' => e = .returned (.bool true) ∧ Below W.heap.size W w'))
    (HJ : Hid (∀ W : World, Calls Tryz.prog 137 #[.string (bs N)] W fun e w' => e = .returned (.bool false) ∧ w' = W)) :
    Calls Tryz.prog 104 #[.string (bs l), .bool true] w (WdPost w (none)) := by
  obtain ⟨W1, hW1⟩ : ∃ W1, W1 = w.alloc (.cells #[.int .i64 0, .string ⟨#[]⟩, .int .i64 0, .int .i64 0] 84) := ⟨_, rfl⟩
  have hb1 : Below w.heap.size w W1 := by rw [hW1]; exact below_box _
  have hk1 : W1.heap[w.heap.size]? = some (wdB wd0) := by rw [hW1]; exact World.alloc_heap_new w _
  have hl1 : w.heap.size < W1.heap.size := (Array.getElem?_eq_some_iff.1 hk1).1
  have HW1 := Lib.hid hW1
  have HKEY := Lib.hid fun (w3 : World) (hb3 : Below W1.heap.size W1 w3) => wd0_at ((hb3.block _ hl1).trans hk1)
  have HKB := Lib.hid fun (w3 : World) (hb3 : Below W1.heap.size W1 w3) => And.intro ((hb3.block _ hl1).trans hk1) (hb1.trans (hb3.mono hb1.size))
  clear hb1 hk1 hl1 hW1
  go_enter Tryz.func104, Tryz.ntmps104
  go_upto_region 1 with fail
  rw [← HW1.out]
  clear HW1
  go_wp2_with (first
    | (go_at_call 136
       refine (HR.out _).mono ?_
       rintro e w3 ⟨rfl, hb3⟩
       have HB3 := Lib.hid hb3
       have HN3 := Lib.hid (HN.out w3 (HKB.out w3 hb3).2)
       clear hb3 HR)
    | (go_at_call 66
       refine HN3.out.mono ?_
       rintro e w4 ⟨rfl, hb4⟩
       have hb := HB3.out.trans (hb4.mono HB3.out.size)
       obtain ⟨⟨d0, d1, d2, d3⟩, f0, f1, f2, f3⟩ := HKEY.out w4 hb
       have HKB4 := Lib.hid (HKB.out w4 hb)
       clear hb hb4 HN3)
    | (go_at_call 137
       refine (HJ.out _).mono ?_
       rintro e w5 ⟨rfl, hw⟩
       have hw := hw.symm
       subst hw
       clear HJ))
  exact end_word Tryz.results104 w w4 none (x := wd0) HKB4.out.1 HKB4.out.2 (by rfl) (by rfl) rfl rfl rfl
set_option maxHeartbeats 8000000 in
theorem named_op (l N t nx : List UInt8) (n : Nat) (w : World)
    (hN : (bs N).size = n) (hsl : ∀ wx, (Instr.slice 9 (.string (bs l)) (some (.int .i64 (n : Int))) none none).run Tryz.prog wx = .ok (.string (bs t)) wx)
    (HR : Hid (∀ W : World, Calls Tryz.prog 136 #[.string (bs l)] W fun e w' => e = .returned (.string (bs N)) ∧ Below W.heap.size W w'))
    (HN : Hid (∀ W : World, Below w.heap.size w W → Calls Tryz.prog 66 #[.string (bs N)] W fun e w' => e = .returned (.bool true) ∧ Below W.heap.size W w'))
    (HJ : Hid (∀ W : World, Calls Tryz.prog 137 #[.string (bs N)] W fun e w' => e = .returned (.bool true) ∧ w' = W))
    (HS : Hid (∀ W : World, Calls Tryz.prog 89 #[.string (bs t), .func (.func 90) #[] #[]] W fun e w' => e = .returned (.string (bs nx)) ∧ Below W.heap.size W w')) :
    Calls Tryz.prog 104 #[.string (bs l), .bool true] w (WdPost w (some (⟨5, N, .num 0⟩, n))) := by
  obtain ⟨W1, hW1⟩ : ∃ W1, W1 = w.alloc (.cells #[.int .i64 0, .string ⟨#[]⟩, .int .i64 0, .int .i64 0] 84) := ⟨_, rfl⟩
  have hb1 : Below w.heap.size w W1 := by rw [hW1]; exact below_box _
  have hk1 : W1.heap[w.heap.size]? = some (wdB wd0) := by rw [hW1]; exact World.alloc_heap_new w _
  have hl1 : w.heap.size < W1.heap.size := (Array.getElem?_eq_some_iff.1 hk1).1
  have HW1 := Lib.hid hW1
  have HKEY := Lib.hid fun (w3 : World) (hb3 : Below W1.heap.size W1 w3) => wd0_at ((hb3.block _ hl1).trans hk1)
  have HKB := Lib.hid fun (w3 : World) (hb3 : Below W1.heap.size W1 w3) => And.intro ((hb3.block _ hl1).trans hk1) (hb1.trans (hb3.mono hb1.size))
  clear hb1 hk1 hl1 hW1
  go_enter Tryz.func104, Tryz.ntmps104
  go_upto_region 1 with fail
  rw [← HW1.out]
  clear HW1
  go_wp2_with (first
    | (go_at_call 136
       refine (HR.out _).mono ?_
       rintro e w3 ⟨rfl, hb3⟩
       have HB3 := Lib.hid hb3
       have HN3 := Lib.hid (HN.out w3 (HKB.out w3 hb3).2)
       clear hb3 HR)
    | (go_at_call 66
       refine HN3.out.mono ?_
       rintro e w4 ⟨rfl, hb4⟩
       have hb := HB3.out.trans (hb4.mono HB3.out.size)
       obtain ⟨⟨d0, d1, d2, d3⟩, f0, f1, f2, f3⟩ := HKEY.out w4 hb
       have HKB4 := Lib.hid (HKB.out w4 hb)
       clear hb hb4 HN3)
    | (go_at_call 137
       refine (HJ.out _).mono ?_
       rintro e w5 ⟨rfl, hw⟩
       have hw := hw.symm
       subst hw
       clear HJ)
    | (go_at_call 89
       refine (HS.out _).mono ?_
       rintro e w6 ⟨rfl, hb6⟩
       have hq := wd_keep hb6 (wd_new w4 2 N rfl)
       have hp := wd_keep hb6 ((((below_box _).block _ (Array.getElem?_eq_some_iff.1 HKB4.out.1).1)).trans HKB4.out.1)
       have hB6 := HKB4.out.2.trans (((below_box _).trans (hb6.mono (below_box _).size)).mono HKB4.out.2.size)
       clear d0 d1 d2 d3 f0 f1 f2 f3
       obtain ⟨⟨d0, d1, d2, d3⟩, f0, f1, f2, f3⟩ := wd0_at hp
       obtain ⟨⟨c0, c1, c2, c3⟩, g⟩ := wd_blk hq
       obtain ⟨g0, g1, g2, g3⟩ : _ ∧ _ ∧ _ ∧ _ := ⟨g 0, g 1, g 2, g 3⟩
       obtain ⟨⟨h0, h1, h2, h3⟩, j0, j1, j2, j3⟩ := wd0_at ((heap_set_ne (a := ⟨w4.heap.size, 0, none⟩) (u := .int .i64 5) (Nat.ne_of_lt (Array.getElem?_eq_some_iff.1 HKB4.out.1).1)).trans hp)
       have hne : w.heap.size ≠ w4.heap.size := Nat.ne_of_lt (Array.getElem?_eq_some_iff.1 HKB4.out.1).1
       have HP6 := Lib.hid hp
       have HB6 := Lib.hid hB6
       have HNE := Lib.hid hne
       clear hb6 hq hp hB6 g HS hne))
  exact end_word Tryz.results104 w _ (some (⟨5, N, .num 0⟩, n)) (x := ⟨5, N, .num 0⟩) ((heap_set_ne (a := ⟨w4.heap.size, 0, none⟩) HNE.out).trans HP6.out) (HB6.out.setCell (p := ⟨w4.heap.size, 0, none⟩) (Nat.le_of_lt (Nat.lt_of_le_of_ne HKB4.out.2.size HNE.out)) _) (by rfl) (by rfl) rfl rfl rfl
set_option maxHeartbeats 8000000 in
theorem named_type (l N t nx : List UInt8) (n : Nat) (w : World)
    (hN : (bs N).size = n) (hsl : ∀ wx, (Instr.slice 9 (.string (bs l)) (some (.int .i64 (n : Int))) none none).run Tryz.prog wx = .ok (.string (bs t)) wx)
    (HR : Hid (∀ W : World, Calls Tryz.prog 136 #[.string (bs l)] W fun e w' => e = .returned (.string (bs N)) ∧ Below W.heap.size W w'))
    (HN : Hid (∀ W : World, Below w.heap.size w W → Calls Tryz.prog 66 #[.string (bs N)] W fun e w' => e = .returned (.bool true) ∧ Below W.heap.size W w'))
    (HS : Hid (∀ W : World, Calls Tryz.prog 89 #[.string (bs t), .func (.func 90) #[] #[]] W fun e w' => e = .returned (.string (bs nx)) ∧ Below W.heap.size W w'))
    (HO : Hid (∀ W : World, Calls Tryz.prog 138 #[.string (bs nx), .string ⟨#[40]⟩] W fun e w' => e = .returned (.bool true) ∧ w' = W))
    (HK : Hid (∀ W : World, Calls Tryz.prog 139 #[.string (bs N)] W fun e w' => e = .returned (.bool true) ∧ w' = W)) :
    Calls Tryz.prog 104 #[.string (bs l), .bool false] w (WdPost w (some (⟨4, N, .num 0⟩, n))) := by
  obtain ⟨W1, hW1⟩ : ∃ W1, W1 = w.alloc (.cells #[.int .i64 0, .string ⟨#[]⟩, .int .i64 0, .int .i64 0] 84) := ⟨_, rfl⟩
  have hb1 : Below w.heap.size w W1 := by rw [hW1]; exact below_box _
  have hk1 : W1.heap[w.heap.size]? = some (wdB wd0) := by rw [hW1]; exact World.alloc_heap_new w _
  have hl1 : w.heap.size < W1.heap.size := (Array.getElem?_eq_some_iff.1 hk1).1
  have HW1 := Lib.hid hW1
  have HKEY := Lib.hid fun (w3 : World) (hb3 : Below W1.heap.size W1 w3) => wd0_at ((hb3.block _ hl1).trans hk1)
  have HKB := Lib.hid fun (w3 : World) (hb3 : Below W1.heap.size W1 w3) => And.intro ((hb3.block _ hl1).trans hk1) (hb1.trans (hb3.mono hb1.size))
  clear hb1 hk1 hl1 hW1
  go_enter Tryz.func104, Tryz.ntmps104
  go_upto_region 1 with fail
  rw [← HW1.out]
  clear HW1
  go_wp2_with (first
    | (go_at_call 136
       refine (HR.out _).mono ?_
       rintro e w3 ⟨rfl, hb3⟩
       have HB3 := Lib.hid hb3
       have HN3 := Lib.hid (HN.out w3 (HKB.out w3 hb3).2)
       clear hb3 HR)
    | (go_at_call 66
       refine HN3.out.mono ?_
       rintro e w4 ⟨rfl, hb4⟩
       have hb := HB3.out.trans (hb4.mono HB3.out.size)
       obtain ⟨⟨d0, d1, d2, d3⟩, f0, f1, f2, f3⟩ := HKEY.out w4 hb
       have HKB4 := Lib.hid (HKB.out w4 hb)
       clear hb hb4 HN3)
    | (go_at_call 89
       refine (HS.out _).mono ?_
       rintro e w6 ⟨rfl, hb6⟩
       have hq := wd_keep hb6 (wd_new w4 2 N rfl)
       have hp := wd_keep hb6 ((((below_box _).block _ (Array.getElem?_eq_some_iff.1 HKB4.out.1).1)).trans HKB4.out.1)
       have hB6 := HKB4.out.2.trans (((below_box _).trans (hb6.mono (below_box _).size)).mono HKB4.out.2.size)
       clear d0 d1 d2 d3 f0 f1 f2 f3
       obtain ⟨⟨d0, d1, d2, d3⟩, f0, f1, f2, f3⟩ := wd0_at hp
       obtain ⟨⟨c0, c1, c2, c3⟩, g⟩ := wd_blk hq
       obtain ⟨g0, g1, g2, g3⟩ : _ ∧ _ ∧ _ ∧ _ := ⟨g 0, g 1, g 2, g 3⟩
       obtain ⟨⟨h0, h1, h2, h3⟩, j0, j1, j2, j3⟩ := wd0_at ((heap_set_ne (a := ⟨w4.heap.size, 0, none⟩) (u := .int .i64 4) (Nat.ne_of_lt (Array.getElem?_eq_some_iff.1 HKB4.out.1).1)).trans hp)
       have hne : w.heap.size ≠ w4.heap.size := Nat.ne_of_lt (Array.getElem?_eq_some_iff.1 HKB4.out.1).1
       have HP6 := Lib.hid hp
       have HB6 := Lib.hid hB6
       have HNE := Lib.hid hne
       clear hb6 hq hp hB6 g HS hne)
    | (go_at_call 138
       have CC := HO.out w6
       with_reducible refine CC.mono ?_
       clear CC
       rintro e w7 ⟨rfl, hw⟩
       have hw := hw.symm
       subst hw)
    | (go_at_call 139
       refine (HK.out _).mono ?_
       rintro e w7 ⟨rfl, hw⟩
       have hw := hw.symm
       subst hw))
  exact end_word Tryz.results104 w _ (some (⟨4, N, .num 0⟩, n)) (x := ⟨4, N, .num 0⟩) ((heap_set_ne (a := ⟨w4.heap.size, 0, none⟩) HNE.out).trans HP6.out) (HB6.out.setCell (p := ⟨w4.heap.size, 0, none⟩) (Nat.le_of_lt (Nat.lt_of_le_of_ne HKB4.out.2.size HNE.out)) _) (by rfl) (by rfl) rfl rfl rfl
set_option maxHeartbeats 8000000 in
theorem named_func (l N t nx : List UInt8) (n : Nat) (w : World)
    (hN : (bs N).size = n) (hsl : ∀ wx, (Instr.slice 9 (.string (bs l)) (some (.int .i64 (n : Int))) none none).run Tryz.prog wx = .ok (.string (bs t)) wx)
    (HR : Hid (∀ W : World, Calls Tryz.prog 136 #[.string (bs l)] W fun e w' => e = .returned (.string (bs N)) ∧ Below W.heap.size W w'))
    (HN : Hid (∀ W : World, Below w.heap.size w W → Calls Tryz.prog 66 #[.string (bs N)] W fun e w' => e = .returned (.bool true) ∧ Below W.heap.size W w'))
    (HS : Hid (∀ W : World, Calls Tryz.prog 89 #[.string (bs t), .func (.func 90) #[] #[]] W fun e w' => e = .returned (.string (bs nx)) ∧ Below W.heap.size W w'))
    (HO : Hid (∀ W : World, Calls Tryz.prog 138 #[.string (bs nx), .string ⟨#[40]⟩] W fun e w' => e = .returned (.bool true) ∧ w' = W))
    (HK : Hid (∀ W : World, Calls Tryz.prog 139 #[.string (bs N)] W fun e w' => e = .returned (.bool false) ∧ w' = W)) :
    Calls Tryz.prog 104 #[.string (bs l), .bool false] w (WdPost w (some (⟨6, N, .num 0⟩, n))) := by
  obtain ⟨W1, hW1⟩ : ∃ W1, W1 = w.alloc (.cells #[.int .i64 0, .string ⟨#[]⟩, .int .i64 0, .int .i64 0] 84) := ⟨_, rfl⟩
  have hb1 : Below w.heap.size w W1 := by rw [hW1]; exact below_box _
  have hk1 : W1.heap[w.heap.size]? = some (wdB wd0) := by rw [hW1]; exact World.alloc_heap_new w _
  have hl1 : w.heap.size < W1.heap.size := (Array.getElem?_eq_some_iff.1 hk1).1
  have HW1 := Lib.hid hW1
  have HKEY := Lib.hid fun (w3 : World) (hb3 : Below W1.heap.size W1 w3) => wd0_at ((hb3.block _ hl1).trans hk1)
  have HKB := Lib.hid fun (w3 : World) (hb3 : Below W1.heap.size W1 w3) => And.intro ((hb3.block _ hl1).trans hk1) (hb1.trans (hb3.mono hb1.size))
  clear hb1 hk1 hl1 hW1
  go_enter Tryz.func104, Tryz.ntmps104
  go_upto_region 1 with fail
  rw [← HW1.out]
  clear HW1
  go_wp2_with (first
    | (go_at_call 136
       refine (HR.out _).mono ?_
       rintro e w3 ⟨rfl, hb3⟩
       have HB3 := Lib.hid hb3
       have HN3 := Lib.hid (HN.out w3 (HKB.out w3 hb3).2)
       clear hb3 HR)
    | (go_at_call 66
       refine HN3.out.mono ?_
       rintro e w4 ⟨rfl, hb4⟩
       have hb := HB3.out.trans (hb4.mono HB3.out.size)
       obtain ⟨⟨d0, d1, d2, d3⟩, f0, f1, f2, f3⟩ := HKEY.out w4 hb
       have HKB4 := Lib.hid (HKB.out w4 hb)
       clear hb hb4 HN3)
    | (go_at_call 89
       refine (HS.out _).mono ?_
       rintro e w6 ⟨rfl, hb6⟩
       have hq := wd_keep hb6 (wd_new w4 2 N rfl)
       have hp := wd_keep hb6 ((((below_box _).block _ (Array.getElem?_eq_some_iff.1 HKB4.out.1).1)).trans HKB4.out.1)
       have hB6 := HKB4.out.2.trans (((below_box _).trans (hb6.mono (below_box _).size)).mono HKB4.out.2.size)
       clear d0 d1 d2 d3 f0 f1 f2 f3
       obtain ⟨⟨d0, d1, d2, d3⟩, f0, f1, f2, f3⟩ := wd0_at hp
       obtain ⟨⟨c0, c1, c2, c3⟩, g⟩ := wd_blk hq
       obtain ⟨g0, g1, g2, g3⟩ : _ ∧ _ ∧ _ ∧ _ := ⟨g 0, g 1, g 2, g 3⟩
       obtain ⟨⟨h0, h1, h2, h3⟩, j0, j1, j2, j3⟩ := wd0_at ((heap_set_ne (a := ⟨w4.heap.size, 0, none⟩) (u := .int .i64 6) (Nat.ne_of_lt (Array.getElem?_eq_some_iff.1 HKB4.out.1).1)).trans hp)
       have hne : w.heap.size ≠ w4.heap.size := Nat.ne_of_lt (Array.getElem?_eq_some_iff.1 HKB4.out.1).1
       have HP6 := Lib.hid hp
       have HB6 := Lib.hid hB6
       have HNE := Lib.hid hne
       clear hb6 hq hp hB6 g HS hne)
    | (go_at_call 138
       have CC := HO.out w6
       with_reducible refine CC.mono ?_
       clear CC
       rintro e w7 ⟨rfl, hw⟩
       have hw := hw.symm
       subst hw)
    | (go_at_call 139
       refine (HK.out _).mono ?_
       rintro e w7 ⟨rfl, hw⟩
       have hw := hw.symm
       subst hw))
  exact end_word Tryz.results104 w _ (some (⟨6, N, .num 0⟩, n)) (x := ⟨6, N, .num 0⟩) ((heap_set_ne (a := ⟨w4.heap.size, 0, none⟩) HNE.out).trans HP6.out) (HB6.out.setCell (p := ⟨w4.heap.size, 0, none⟩) (Nat.le_of_lt (Nat.lt_of_le_of_ne HKB4.out.2.size HNE.out)) _) (by rfl) (by rfl) rfl rfl rfl
set_option maxHeartbeats 8000000 in
theorem named_axis (l N t nx : List UInt8) (n : Nat) (w : World)
    (hN : (bs N).size = n) (hsl : ∀ wx, (Instr.slice 9 (.string (bs l)) (some (.int .i64 (n : Int))) none none).run Tryz.prog wx = .ok (.string (bs t)) wx)
    (HR : Hid (∀ W : World, Calls Tryz.prog 136 #[.string (bs l)] W fun e w' => e = .returned (.string (bs N)) ∧ Below W.heap.size W w'))
    (HN : Hid (∀ W : World, Below w.heap.size w W → Calls Tryz.prog 66 #[.string (bs N)] W fun e w' => e = .returned (.bool true) ∧ Below W.heap.size W w'))
    (HS : Hid (∀ W : World, Calls Tryz.prog 89 #[.string (bs t), .func (.func 90) #[] #[]] W fun e w' => e = .returned (.string (bs nx)) ∧ Below W.heap.size W w'))
    (HO : Hid (∀ W : World, Calls Tryz.prog 138 #[.string (bs nx), .string ⟨#[40]⟩] W fun e w' => e = .returned (.bool false) ∧ w' = W))
    (HA : Hid (∀ W : World, Calls Tryz.prog 138 #[.string (bs nx), .string ⟨#[58, 58]⟩] W fun e w' => e = .returned (.bool true) ∧ w' = W)) :
    Calls Tryz.prog 104 #[.string (bs l), .bool false] w (WdPost w (some (⟨7, N, .num 0⟩, n))) := by
  obtain ⟨W1, hW1⟩ : ∃ W1, W1 = w.alloc (.cells #[.int .i64 0, .string ⟨#[]⟩, .int .i64 0, .int .i64 0] 84) := ⟨_, rfl⟩
  have hb1 : Below w.heap.size w W1 := by rw [hW1]; exact below_box _
  have hk1 : W1.heap[w.heap.size]? = some (wdB wd0) := by rw [hW1]; exact World.alloc_heap_new w _
  have hl1 : w.heap.size < W1.heap.size := (Array.getElem?_eq_some_iff.1 hk1).1
  have HW1 := Lib.hid hW1
  have HKEY := Lib.hid fun (w3 : World) (hb3 : Below W1.heap.size W1 w3) => wd0_at ((hb3.block _ hl1).trans hk1)
  have HKB := Lib.hid fun (w3 : World) (hb3 : Below W1.heap.size W1 w3) => And.intro ((hb3.block _ hl1).trans hk1) (hb1.trans (hb3.mono hb1.size))
  clear hb1 hk1 hl1 hW1
  go_enter Tryz.func104, Tryz.ntmps104
  go_upto_region 1 with fail
  rw [← HW1.out]
  clear HW1
  go_wp2_with (first
    | (go_at_call 136
       refine (HR.out _).mono ?_
       rintro e w3 ⟨rfl, hb3⟩
       have HB3 := Lib.hid hb3
       have HN3 := Lib.hid (HN.out w3 (HKB.out w3 hb3).2)
       clear hb3 HR)
    | (go_at_call 66
       refine HN3.out.mono ?_
       rintro e w4 ⟨rfl, hb4⟩
       have hb := HB3.out.trans (hb4.mono HB3.out.size)
       obtain ⟨⟨d0, d1, d2, d3⟩, f0, f1, f2, f3⟩ := HKEY.out w4 hb
       have HKB4 := Lib.hid (HKB.out w4 hb)
       clear hb hb4 HN3)
    | (go_at_call 89
       refine (HS.out _).mono ?_
       rintro e w6 ⟨rfl, hb6⟩
       have hq := wd_keep hb6 (wd_new w4 2 N rfl)
       have hp := wd_keep hb6 ((((below_box _).block _ (Array.getElem?_eq_some_iff.1 HKB4.out.1).1)).trans HKB4.out.1)
       have hB6 := HKB4.out.2.trans (((below_box _).trans (hb6.mono (below_box _).size)).mono HKB4.out.2.size)
       clear d0 d1 d2 d3 f0 f1 f2 f3
       obtain ⟨⟨d0, d1, d2, d3⟩, f0, f1, f2, f3⟩ := wd0_at hp
       obtain ⟨⟨c0, c1, c2, c3⟩, g⟩ := wd_blk hq
       obtain ⟨g0, g1, g2, g3⟩ : _ ∧ _ ∧ _ ∧ _ := ⟨g 0, g 1, g 2, g 3⟩
       obtain ⟨⟨h0, h1, h2, h3⟩, j0, j1, j2, j3⟩ := wd0_at ((heap_set_ne (a := ⟨w4.heap.size, 0, none⟩) (u := .int .i64 7) (Nat.ne_of_lt (Array.getElem?_eq_some_iff.1 HKB4.out.1).1)).trans hp)
       have hne : w.heap.size ≠ w4.heap.size := Nat.ne_of_lt (Array.getElem?_eq_some_iff.1 HKB4.out.1).1
       have HP6 := Lib.hid hp
       have HB6 := Lib.hid hB6
       have HNE := Lib.hid hne
       clear hb6 hq hp hB6 g HS hne)
    | (go_at_call 138
       have CC := HO.out w6
       with_reducible refine CC.mono ?_
       clear CC
       rintro e w7 ⟨rfl, hw⟩
       have hw := hw.symm
       subst hw)
    | (go_at_call 138
       have CC := HA.out w6
       with_reducible refine CC.mono ?_
       clear CC
       rintro e w7 ⟨rfl, hw⟩
       have hw := hw.symm
       subst hw))
  exact end_word Tryz.results104 w _ (some (⟨7, N, .num 0⟩, n)) (x := ⟨7, N, .num 0⟩) ((heap_set_ne (a := ⟨w4.heap.size, 0, none⟩) HNE.out).trans HP6.out) (HB6.out.setCell (p := ⟨w4.heap.size, 0, none⟩) (Nat.le_of_lt (Nat.lt_of_le_of_ne HKB4.out.2.size HNE.out)) _) (by rfl) (by rfl) rfl rfl rfl
set_option maxHeartbeats 8000000 in
theorem named_name (l N t nx : List UInt8) (n : Nat) (w : World)
    (hN : (bs N).size = n) (hsl : ∀ wx, (Instr.slice 9 (.string (bs l)) (some (.int .i64 (n : Int))) none none).run Tryz.prog wx = .ok (.string (bs t)) wx)
    (HR : Hid (∀ W : World, Calls Tryz.prog 136 #[.string (bs l)] W fun e w' => e = .returned (.string (bs N)) ∧ Below W.heap.size W w'))
    (HN : Hid (∀ W : World, Below w.heap.size w W → Calls Tryz.prog 66 #[.string (bs N)] W fun e w' => e = .returned (.bool true) ∧ Below W.heap.size W w'))
    (HS : Hid (∀ W : World, Calls Tryz.prog 89 #[.string (bs t), .func (.func 90) #[] #[]] W fun e w' => e = .returned (.string (bs nx)) ∧ Below W.heap.size W w'))
    (HO : Hid (∀ W : World, Calls Tryz.prog 138 #[.string (bs nx), .string ⟨#[40]⟩] W fun e w' => e = .returned (.bool false) ∧ w' = W))
    (HA : Hid (∀ W : World, Calls Tryz.prog 138 #[.string (bs nx), .string ⟨#[58, 58]⟩] W fun e w' => e = .returned (.bool false) ∧ w' = W)) :
    Calls Tryz.prog 104 #[.string (bs l), .bool false] w (WdPost w (some (⟨2, N, .num 0⟩, n))) := by
  obtain ⟨W1, hW1⟩ : ∃ W1, W1 = w.alloc (.cells #[.int .i64 0, .string ⟨#[]⟩, .int .i64 0, .int .i64 0] 84) := ⟨_, rfl⟩
  have hb1 : Below w.heap.size w W1 := by rw [hW1]; exact below_box _
  have hk1 : W1.heap[w.heap.size]? = some (wdB wd0) := by rw [hW1]; exact World.alloc_heap_new w _
  have hl1 : w.heap.size < W1.heap.size := (Array.getElem?_eq_some_iff.1 hk1).1
  have HW1 := Lib.hid hW1
  have HKEY := Lib.hid fun (w3 : World) (hb3 : Below W1.heap.size W1 w3) => wd0_at ((hb3.block _ hl1).trans hk1)
  have HKB := Lib.hid fun (w3 : World) (hb3 : Below W1.heap.size W1 w3) => And.intro ((hb3.block _ hl1).trans hk1) (hb1.trans (hb3.mono hb1.size))
  clear hb1 hk1 hl1 hW1
  go_enter Tryz.func104, Tryz.ntmps104
  go_upto_region 1 with fail
  rw [← HW1.out]
  clear HW1
  go_wp2_with (first
    | (go_at_call 136
       refine (HR.out _).mono ?_
       rintro e w3 ⟨rfl, hb3⟩
       have HB3 := Lib.hid hb3
       have HN3 := Lib.hid (HN.out w3 (HKB.out w3 hb3).2)
       clear hb3 HR)
    | (go_at_call 66
       refine HN3.out.mono ?_
       rintro e w4 ⟨rfl, hb4⟩
       have hb := HB3.out.trans (hb4.mono HB3.out.size)
       obtain ⟨⟨d0, d1, d2, d3⟩, f0, f1, f2, f3⟩ := HKEY.out w4 hb
       have HKB4 := Lib.hid (HKB.out w4 hb)
       clear hb hb4 HN3)
    | (go_at_call 89
       refine (HS.out _).mono ?_
       rintro e w6 ⟨rfl, hb6⟩
       have hq := wd_keep hb6 (wd_new w4 2 N rfl)
       have hp := wd_keep hb6 ((((below_box _).block _ (Array.getElem?_eq_some_iff.1 HKB4.out.1).1)).trans HKB4.out.1)
       have hB6 := HKB4.out.2.trans (((below_box _).trans (hb6.mono (below_box _).size)).mono HKB4.out.2.size)
       clear d0 d1 d2 d3 f0 f1 f2 f3
       obtain ⟨⟨d0, d1, d2, d3⟩, f0, f1, f2, f3⟩ := wd0_at hp
       obtain ⟨⟨c0, c1, c2, c3⟩, g⟩ := wd_blk hq
       obtain ⟨g0, g1, g2, g3⟩ : _ ∧ _ ∧ _ ∧ _ := ⟨g 0, g 1, g 2, g 3⟩
       have hne : w.heap.size ≠ w4.heap.size := Nat.ne_of_lt (Array.getElem?_eq_some_iff.1 HKB4.out.1).1
       have HP6 := Lib.hid hp
       have HB6 := Lib.hid hB6
       have HNE := Lib.hid hne
       clear hb6 hq hp hB6 g HS hne)
    | (go_at_call 138
       have CC := HO.out w6
       with_reducible refine CC.mono ?_
       clear CC
       rintro e w7 ⟨rfl, hw⟩
       have hw := hw.symm
       subst hw)
    | (go_at_call 138
       have CC := HA.out w6
       with_reducible refine CC.mono ?_
       clear CC
       rintro e w7 ⟨rfl, hw⟩
       have hw := hw.symm
       subst hw))
  exact end_word Tryz.results104 w w6 (some (⟨2, N, .num 0⟩, n)) (x := ⟨2, N, .num 0⟩) HP6.out HB6.out (by rfl) (by rfl) rfl rfl rfl
theorem named_any (l : List UInt8) (ended : Bool) (w : World) (hl : l.length ≤ 1000) (ht : txD l = true) (hG : Gl w) : Calls Tryz.prog 104 #[.string (bs l), .bool ended] w (WdPost w (nameW ended l)) := by
  have hr := run_le _ l (Nat.le_refl _)
  have hNl : (l.take (runL l)).length = runL l := by rw [List.length_take]; exact Nat.min_eq_left hr
  have hN : (bs (l.take (runL l))).size = runL l := by rw [bs_size]; exact hNl
  have hsl := slice_from l (runL l) hr
  have HR := Lib.hid fun (W : World) => lexRun_any l W (by omega) ht
  have hNm : ∀ W : World, Below w.heap.size w W → _ := fun (W : World) (hb : Below w.heap.size w W) => chName_any (bs (l.take (runL l))) W (by omega) (hG.below hb).1
  have HS := Lib.hid fun (W : World) => behindS_any (l.drop (runL l)) W
  have HJ : ∀ W : World, _ := fun (W : World) => joins_any (l.take (runL l)) W
  have HK : ∀ W : World, _ := fun (W : World) => kindOf_any (l.take (runL l)) W
  have HO : ∀ W : World, _ := fun (W : World) => hasp_any (dropS (l.drop (runL l))) [40] W
  have HA : ∀ W : World, _ := fun (W : World) => hasp_any (dropS (l.drop (runL l))) [58, 58] W
  cases hE : nmD (bs (l.take (runL l))) with
  | false =>
    rw [hE] at hNm
    have e : nameW ended l = none := by unfold nameW; rw [hE]; rfl
    rw [e]
    exact named_bad l _ ended w HR (Lib.hid hNm)
  | true =>
    rw [hE] at hNm
    cases ended with
    | true =>
      cases hj : joinsL.contains (l.take (runL l)) with
      | false =>
        rw [hj] at HJ
        have e : nameW true l = none := by unfold nameW; rw [hE, hj]; rfl
        rw [e]
        exact named_nojoin l _ w HR (Lib.hid hNm) (Lib.hid HJ)
      | true =>
        rw [hj] at HJ
        have e : nameW true l = some (⟨5, l.take (runL l), .num 0⟩, runL l) := by unfold nameW; rw [hE, hj]; rfl
        rw [e]
        exact named_op l _ _ _ _ w hN hsl HR (Lib.hid hNm) (Lib.hid HJ) HS
    | false =>
      have e0 : nameW false l = some (⟨kindN false (l.take (runL l)) (nx0 (dropS (l.drop (runL l)))), l.take (runL l), .num 0⟩, runL l) := by unfold nameW; rw [hE]; rfl
      rw [e0]
      unfold nx0
      cases h1 : ([40] : List UInt8).isPrefixOf (dropS (l.drop (runL l))) with
      | true =>
        rw [h1] at HO
        cases h2 : typesL.contains (l.take (runL l)) with
        | true =>
          rw [h2] at HK
          have e : kindN false (l.take (runL l)) (if true = true then 1 else if ([58, 58] : List UInt8).isPrefixOf (dropS (l.drop (runL l))) = true then 2 else 0) = 4 := by unfold kindN; rw [h2]; rfl
          rw [e]
          exact named_type l _ _ _ _ w hN hsl HR (Lib.hid hNm) HS (Lib.hid HO) (Lib.hid HK)
        | false =>
          rw [h2] at HK
          have e : kindN false (l.take (runL l)) (if true = true then 1 else if ([58, 58] : List UInt8).isPrefixOf (dropS (l.drop (runL l))) = true then 2 else 0) = 6 := by unfold kindN; rw [h2]; rfl
          rw [e]
          exact named_func l _ _ _ _ w hN hsl HR (Lib.hid hNm) HS (Lib.hid HO) (Lib.hid HK)
      | false =>
        rw [h1] at HO
        cases h2 : ([58, 58] : List UInt8).isPrefixOf (dropS (l.drop (runL l))) with
        | true =>
          rw [h2] at HA
          exact named_axis l _ _ _ _ w hN hsl HR (Lib.hid hNm) HS (Lib.hid HO) (Lib.hid HA)
        | false =>
          rw [h2] at HA
          exact named_name l _ _ _ _ w hN hsl HR (Lib.hid hNm) HS (Lib.hid HO) (Lib.hid HA)
end Go.Proofs.YtapljbdklhnfkaaGreatDoor.Char
