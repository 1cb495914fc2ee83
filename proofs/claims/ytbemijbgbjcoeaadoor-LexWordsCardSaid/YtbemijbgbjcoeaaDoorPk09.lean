/- DocN OneM RefLitM Made -/
import Derived.Test.YtbemijbgbjcoeaaDoorPk06
import Derived.Test.YtbemijbgbjcoeaaDoorPk07
import Derived.Test.YtbemijbgbjcoeaaDoorPk08
import Derived.Test.YtbemijbgbjcoeaaDoorPk05
import Derived.Test.YtbemijbgbjcoeaaDoorPk03
/- The walk of the document's own named. -/
namespace Go.Proofs.YtbemijbgbjcoeaaDoor.Char
open Go.RowKit Go.Lib
open Go.Proofs.YtbemijbgbjcoeaaDoor.Fig (outT outV)

/-- what the document's named tells: a word, and whether it is one -/
def NmPost (w : World) (o : Option Wd) (e : Ending) (w' : World) : Prop := (∃ y, (∀ x, o = some x → y = x) ∧ e = .returned (.tuple #[wdV y, .bool o.isSome])) ∧ Below w.heap.size w w'
theorem end_nm {fn : Func} {p q : Tmp} (h : fn.results = #[.cell p 47, .tmp q]) {a : Act} (w w1 : World) (o : Option Wd) {x y : Wd} {k : Bool} (hk : w1.heap[w.heap.size]? = some (wdB y)) (hb : Below w.heap.size w w1)
    (hx : ∀ z, o = some z → x = z) (hn : o.isSome = k)
    (hp : a.tmps.getD p undef = .pointer (some ⟨w.heap.size, 0, none⟩)) (hq : a.tmps.getD q undef = .bool k) (hd : a.defers = []) : bodyPost Tryd.prog fn (NmPost w o) .ret a (set4 w1 w.heap.size x) :=
  end_wd2 h _ w.heap.size (c := .bool k) (set4_at hk) hp hq hd ⟨⟨x, hx, by rw [hn]⟩, set4_below hb (Nat.le_refl _)⟩
theorem types_new (w4 : World) (N : List UInt8) : ((w4.alloc (.cells #[.int .i64 6, .string (bs N), .int .i64 0, .int .i64 0] 47)).alloc (.cells #[.string ⟨#[99, 111, 109, 109, 101, 110, 116]⟩, .string ⟨#[116, 101, 120, 116]⟩, .string ⟨#[112, 114, 111, 99, 101, 115, 115, 105, 110, 103, 45, 105, 110, 115, 116, 114, 117, 99, 116, 105, 111, 110]⟩, .string ⟨#[110, 111, 100, 101]⟩] 9)).heap[w4.heap.size + 1]? = some (.cells (typesL.map fun s => Value.string (bs s)).toArray 9 (0, 0)) := by
  have h := World.alloc_heap_new (w4.alloc (.cells #[.int .i64 6, .string (bs N), .int .i64 0, .int .i64 0] 47)) (.cells #[.string ⟨#[99, 111, 109, 109, 101, 110, 116]⟩, .string ⟨#[116, 101, 120, 116]⟩, .string ⟨#[112, 114, 111, 99, 101, 115, 115, 105, 110, 103, 45, 105, 110, 115, 116, 114, 117, 99, 116, 105, 111, 110]⟩, .string ⟨#[110, 111, 100, 101]⟩] 9)
  rwa [World.size_alloc] at h
set_option maxHeartbeats 8000000 in
theorem nm12_bad (l N : List UInt8) (p q : Nat) (v : Value) (w : World)
    (hsl : ∀ wx, (Instr.slice 9 (.string (bs l)) (some (.int .i64 (p : Int))) (some (.int .i64 (q : Int))) none).run Tryd.prog wx = .ok (.string (bs N)) wx)
    (HN : Hid (∀ W : World, Below w.heap.size w W → Calls Tryd.prog 48 #[.string (bs N)] W fun e w' => e = .returned (.bool false) ∧ Below W.heap.size W w')) :
    Calls Tryd.prog 49 #[.string (bs l), .int .i64 (p : Int), .int .i64 (q : Int), v] w (NmPost w none) := by
  obtain ⟨W1, hW1⟩ : ∃ W1, W1 = w.alloc (.cells #[.int .i64 0, .string ⟨#[]⟩, .int .i64 0, .int .i64 0] 47) := ⟨_, rfl⟩
  have hb1 : Below w.heap.size w W1 := by rw [hW1]; exact below_box _
  have hk1 : W1.heap[w.heap.size]? = some (wdB wd0) := by rw [hW1]; exact World.alloc_heap_new w _
  have hl1 : w.heap.size < W1.heap.size := (Array.getElem?_eq_some_iff.1 hk1).1
  have HW1 := Lib.hid hW1
  have HKEY := Lib.hid fun (w3 : World) (hb3 : Below W1.heap.size W1 w3) => wd0_at ((hb3.block _ hl1).trans hk1)
  have HKB := Lib.hid fun (w3 : World) (hb3 : Below W1.heap.size W1 w3) => And.intro ((hb3.block _ hl1).trans hk1) (hb1.trans (hb3.mono hb1.size))
  have HN1 := Lib.hid (HN.out W1 hb1)
  clear hb1 hk1 hl1 hW1 HN
  go_enter Tryd.func49, Tryd.ntmps49
  go_upto_region 1 with fail
  rw [← HW1.out]
  clear HW1
  go_wp2_with (first
    | (go_at_call 48
       refine HN1.out.mono ?_
       rintro e w3 ⟨rfl, hb3⟩
       have HB3 := Lib.hid hb3
       have HKB3 := Lib.hid (HKB.out w3 hb3)
       obtain ⟨⟨d0, d1, d2, d3⟩, f0, f1, f2, f3⟩ := HKEY.out w3 hb3
       clear hb3 HN1))
  exact end_nm Tryd.results49 w w3 none (x := wd0) HKB3.out.1 HKB3.out.2 (fun z h => by cases h) rfl rfl rfl rfl
set_option maxHeartbeats 8000000 in
theorem nm12_op (l N : List UInt8) (p q : Nat) (v : Value) (w : World)
    (hsl : ∀ wx, (Instr.slice 9 (.string (bs l)) (some (.int .i64 (p : Int))) (some (.int .i64 (q : Int))) none).run Tryd.prog wx = .ok (.string (bs N)) wx)
    (HN : Hid (∀ W : World, Below w.heap.size w W → Calls Tryd.prog 48 #[.string (bs N)] W fun e w' => e = .returned (.bool true) ∧ Below W.heap.size W w'))
    (HE : Hid (∀ W : World, Below w.heap.size w W → Calls Tryd.prog 46 #[v] W fun e w' => e = .returned (.bool true) ∧ Below W.heap.size W w'))
    (HI : Hid (∀ (W : World) (g : Nat), (∀ i (h : i < joinsL.length), W.cell? ⟨g, i, none⟩ = some (.string (bs joinsL[i]))) → Calls Tryd.prog 68 #[.string (bs N), .slice (some ⟨g, 0, none⟩) 4 4] W fun e w' => e = .returned (.bool true) ∧ W = w')) :
    Calls Tryd.prog 49 #[.string (bs l), .int .i64 (p : Int), .int .i64 (q : Int), v] w (NmPost w (some ⟨5, N, .num 0⟩)) := by
  obtain ⟨W1, hW1⟩ : ∃ W1, W1 = w.alloc (.cells #[.int .i64 0, .string ⟨#[]⟩, .int .i64 0, .int .i64 0] 47) := ⟨_, rfl⟩
  have hb1 : Below w.heap.size w W1 := by rw [hW1]; exact below_box _
  have hk1 : W1.heap[w.heap.size]? = some (wdB wd0) := by rw [hW1]; exact World.alloc_heap_new w _
  have hl1 : w.heap.size < W1.heap.size := (Array.getElem?_eq_some_iff.1 hk1).1
  have HW1 := Lib.hid hW1
  have HKEY := Lib.hid fun (w3 : World) (hb3 : Below W1.heap.size W1 w3) => wd0_at ((hb3.block _ hl1).trans hk1)
  have HKB := Lib.hid fun (w3 : World) (hb3 : Below W1.heap.size W1 w3) => And.intro ((hb3.block _ hl1).trans hk1) (hb1.trans (hb3.mono hb1.size))
  have HN1 := Lib.hid (HN.out W1 hb1)
  clear hb1 hk1 hl1 hW1 HN
  go_enter Tryd.func49, Tryd.ntmps49
  go_upto_region 1 with fail
  rw [← HW1.out]
  clear HW1
  go_wp2_with (first
    | (go_at_call 48
       refine HN1.out.mono ?_
       rintro e w3 ⟨rfl, hb3⟩
       have HB3 := Lib.hid hb3
       have HKB3 := Lib.hid (HKB.out w3 hb3)
       obtain ⟨⟨d0, d1, d2, d3⟩, f0, f1, f2, f3⟩ := HKEY.out w3 hb3
       clear hb3 HN1)
    | (go_at_call 46
       refine (HE.out _ HKB3.out.2).mono ?_
       rintro e w4 ⟨rfl, hb4⟩
       have hb := HB3.out.trans (hb4.mono HB3.out.size)
       clear d0 d1 d2 d3 f0 f1 f2 f3
       obtain ⟨⟨d0, d1, d2, d3⟩, f0, f1, f2, f3⟩ := HKEY.out w4 hb
       have HKB4 := Lib.hid (HKB.out w4 hb)
       have hb5 := hb.trans ((below_box (.cells #[.string ⟨#[97, 110, 100]⟩, .string ⟨#[111, 114]⟩, .string ⟨#[109, 111, 100]⟩, .string ⟨#[100, 105, 118]⟩] 9)).mono hb.size)
       obtain ⟨⟨g0, g1, g2, g3⟩, k0, k1, k2, k3⟩ := HKEY.out _ hb5
       have HKB5 := Lib.hid (HKB.out _ hb5)
       clear hb hb4 hb5 HE)
    | (go_at_call 68
       refine (HI.out (w4.alloc (.cells #[.string ⟨#[97, 110, 100]⟩, .string ⟨#[111, 114]⟩, .string ⟨#[109, 111, 100]⟩, .string ⟨#[100, 105, 118]⟩] 9)) w4.heap.size (strs_at joinsL (T := 9) (World.alloc_heap_new w4 _))).mono ?_
       rintro e w5 ⟨rfl, rfl⟩
       clear HI))
  exact end_nm Tryd.results49 w _ (some ⟨5, N, .num 0⟩) (x := ⟨5, N, .num 0⟩) HKB5.out.1 HKB5.out.2 (fun z h => by cases h; rfl) rfl rfl rfl rfl
set_option maxHeartbeats 8000000 in
theorem nm12_nojoin (l N : List UInt8) (p q : Nat) (v : Value) (w : World)
    (hsl : ∀ wx, (Instr.slice 9 (.string (bs l)) (some (.int .i64 (p : Int))) (some (.int .i64 (q : Int))) none).run Tryd.prog wx = .ok (.string (bs N)) wx)
    (HN : Hid (∀ W : World, Below w.heap.size w W → Calls Tryd.prog 48 #[.string (bs N)] W fun e w' => e = .returned (.bool true) ∧ Below W.heap.size W w'))
    (HE : Hid (∀ W : World, Below w.heap.size w W → Calls Tryd.prog 46 #[v] W fun e w' => e = .returned (.bool true) ∧ Below W.heap.size W w'))
    (HI : Hid (∀ (W : World) (g : Nat), (∀ i (h : i < joinsL.length), W.cell? ⟨g, i, none⟩ = some (.string (bs joinsL[i]))) → Calls Tryd.prog 68 #[.string (bs N), .slice (some ⟨g, 0, none⟩) 4 4] W fun e w' => e = .returned (.bool false) ∧ W = w')) :
    Calls Tryd.prog 49 #[.string (bs l), .int .i64 (p : Int), .int .i64 (q : Int), v] w (NmPost w none) := by
  obtain ⟨W1, hW1⟩ : ∃ W1, W1 = w.alloc (.cells #[.int .i64 0, .string ⟨#[]⟩, .int .i64 0, .int .i64 0] 47) := ⟨_, rfl⟩
  have hb1 : Below w.heap.size w W1 := by rw [hW1]; exact below_box _
  have hk1 : W1.heap[w.heap.size]? = some (wdB wd0) := by rw [hW1]; exact World.alloc_heap_new w _
  have hl1 : w.heap.size < W1.heap.size := (Array.getElem?_eq_some_iff.1 hk1).1
  have HW1 := Lib.hid hW1
  have HKEY := Lib.hid fun (w3 : World) (hb3 : Below W1.heap.size W1 w3) => wd0_at ((hb3.block _ hl1).trans hk1)
  have HKB := Lib.hid fun (w3 : World) (hb3 : Below W1.heap.size W1 w3) => And.intro ((hb3.block _ hl1).trans hk1) (hb1.trans (hb3.mono hb1.size))
  have HN1 := Lib.hid (HN.out W1 hb1)
  clear hb1 hk1 hl1 hW1 HN
  go_enter Tryd.func49, Tryd.ntmps49
  go_upto_region 1 with fail
  rw [← HW1.out]
  clear HW1
  go_wp2_with (first
    | (go_at_call 48
       refine HN1.out.mono ?_
       rintro e w3 ⟨rfl, hb3⟩
       have HB3 := Lib.hid hb3
       have HKB3 := Lib.hid (HKB.out w3 hb3)
       obtain ⟨⟨d0, d1, d2, d3⟩, f0, f1, f2, f3⟩ := HKEY.out w3 hb3
       clear hb3 HN1)
    | (go_at_call 46
       refine (HE.out _ HKB3.out.2).mono ?_
       rintro e w4 ⟨rfl, hb4⟩
       have hb := HB3.out.trans (hb4.mono HB3.out.size)
       clear d0 d1 d2 d3 f0 f1 f2 f3
       obtain ⟨⟨d0, d1, d2, d3⟩, f0, f1, f2, f3⟩ := HKEY.out w4 hb
       have HKB4 := Lib.hid (HKB.out w4 hb)
       have hb5 := hb.trans ((below_box (.cells #[.string ⟨#[97, 110, 100]⟩, .string ⟨#[111, 114]⟩, .string ⟨#[109, 111, 100]⟩, .string ⟨#[100, 105, 118]⟩] 9)).mono hb.size)
       obtain ⟨⟨g0, g1, g2, g3⟩, k0, k1, k2, k3⟩ := HKEY.out _ hb5
       have HKB5 := Lib.hid (HKB.out _ hb5)
       clear hb hb4 hb5 HE)
    | (go_at_call 68
       refine (HI.out (w4.alloc (.cells #[.string ⟨#[97, 110, 100]⟩, .string ⟨#[111, 114]⟩, .string ⟨#[109, 111, 100]⟩, .string ⟨#[100, 105, 118]⟩] 9)) w4.heap.size (strs_at joinsL (T := 9) (World.alloc_heap_new w4 _))).mono ?_
       rintro e w5 ⟨rfl, rfl⟩
       clear HI))
  exact end_nm Tryd.results49 w _ none (x := ⟨5, N, .num 0⟩) HKB5.out.1 HKB5.out.2 (fun z h => by cases h) rfl rfl rfl rfl
set_option maxHeartbeats 8000000 in
theorem nm12_type (l N : List UInt8) (p q r : Nat) (v : Value) (w : World)
    (hsl : ∀ wx, (Instr.slice 9 (.string (bs l)) (some (.int .i64 (p : Int))) (some (.int .i64 (q : Int))) none).run Tryd.prog wx = .ok (.string (bs N)) wx)
    (HN : Hid (∀ W : World, Below w.heap.size w W → Calls Tryd.prog 48 #[.string (bs N)] W fun e w' => e = .returned (.bool true) ∧ Below W.heap.size W w'))
    (HE : Hid (∀ W : World, Below w.heap.size w W → Calls Tryd.prog 46 #[v] W fun e w' => e = .returned (.bool false) ∧ Below W.heap.size W w'))
    (HS : Hid (∀ W : World, Calls Tryd.prog 16 #[.string (bs l), .int .i64 (q : Int)] W fun e w' => e = .returned (.int .i64 (r : Int)) ∧ W = w'))
    (HO : Hid (∀ W : World, Calls Tryd.prog 67 #[.string (bs l), .int .i64 (r : Int), .string ⟨#[40]⟩] W fun e w' => e = .returned (.bool true) ∧ W = w'))
    (HC : Hid (∀ W : World, Calls Tryd.prog 67 #[.string (bs l), .int .i64 (r : Int), .string ⟨#[58, 58]⟩] W fun e w' => e = .returned (.bool false) ∧ W = w'))
    (HI : Hid (∀ (W : World) (g : Nat), (∀ i (h : i < typesL.length), W.cell? ⟨g, i, none⟩ = some (.string (bs typesL[i]))) → Calls Tryd.prog 68 #[.string (bs N), .slice (some ⟨g, 0, none⟩) 4 4] W fun e w' => e = .returned (.bool true) ∧ W = w')) :
    Calls Tryd.prog 49 #[.string (bs l), .int .i64 (p : Int), .int .i64 (q : Int), v] w (NmPost w (some ⟨4, N, .num 0⟩)) := by
  obtain ⟨W1, hW1⟩ : ∃ W1, W1 = w.alloc (.cells #[.int .i64 0, .string ⟨#[]⟩, .int .i64 0, .int .i64 0] 47) := ⟨_, rfl⟩
  have hb1 : Below w.heap.size w W1 := by rw [hW1]; exact below_box _
  have hk1 : W1.heap[w.heap.size]? = some (wdB wd0) := by rw [hW1]; exact World.alloc_heap_new w _
  have hl1 : w.heap.size < W1.heap.size := (Array.getElem?_eq_some_iff.1 hk1).1
  have HW1 := Lib.hid hW1
  have HKEY := Lib.hid fun (w3 : World) (hb3 : Below W1.heap.size W1 w3) => wd0_at ((hb3.block _ hl1).trans hk1)
  have HKB := Lib.hid fun (w3 : World) (hb3 : Below W1.heap.size W1 w3) => And.intro ((hb3.block _ hl1).trans hk1) (hb1.trans (hb3.mono hb1.size))
  have HN1 := Lib.hid (HN.out W1 hb1)
  clear hb1 hk1 hl1 hW1 HN
  go_enter Tryd.func49, Tryd.ntmps49
  go_upto_region 1 with fail
  rw [← HW1.out]
  clear HW1
  go_wp2_with (first
    | (go_at_call 48
       refine HN1.out.mono ?_
       rintro e w3 ⟨rfl, hb3⟩
       have HB3 := Lib.hid hb3
       have HKB3 := Lib.hid (HKB.out w3 hb3)
       obtain ⟨⟨d0, d1, d2, d3⟩, f0, f1, f2, f3⟩ := HKEY.out w3 hb3
       clear hb3 HN1)
    | (go_at_call 46
       refine (HE.out _ HKB3.out.2).mono ?_
       rintro e w4 ⟨rfl, hb4⟩
       have hb := HB3.out.trans (hb4.mono HB3.out.size)
       clear d0 d1 d2 d3 f0 f1 f2 f3
       obtain ⟨⟨d0, d1, d2, d3⟩, f0, f1, f2, f3⟩ := HKEY.out w4 hb
       have HKB4 := Lib.hid (HKB.out w4 hb)
       have ka := fun ob => HKEY.out (w4.alloc ob) (hb.trans ((below_box ob).mono hb.size))
       have KB := Lib.hid fun ob => HKB.out (w4.alloc ob) (hb.trans ((below_box ob).mono hb.size))
       have kaa := fun ob ob2 => HKEY.out ((w4.alloc ob).alloc ob2) ((hb.trans ((below_box ob).mono hb.size)).trans ((below_box ob2).mono (hb.trans ((below_box ob).mono hb.size)).size))
       have KBB := Lib.hid fun ob ob2 => HKB.out ((w4.alloc ob).alloc ob2) ((hb.trans ((below_box ob).mono hb.size)).trans ((below_box ob2).mono (hb.trans ((below_box ob).mono hb.size)).size))
       clear hb hb4 HE d0 d1 d2 d3 f0 f1 f2 f3)
    | (go_at_call 16
       refine (HS.out _).mono ?_
       rintro e w5 ⟨rfl, rfl⟩
       clear HS)
    | (go_at_call 67
       have CC := HC.out (w4.alloc (.cells #[.int .i64 2, .string (bs N), .int .i64 0, .int .i64 0] 47))
       with_reducible refine CC.mono ?_
       clear CC
       rintro e w6 ⟨rfl, rfl⟩)
    | (go_at_call 67
       refine (HO.out _).mono ?_
       rintro e w6 ⟨rfl, rfl⟩)
    | (go_at_call 68
       refine (HI.out ((w4.alloc (.cells #[.int .i64 6, .string (bs N), .int .i64 0, .int .i64 0] 47)).alloc (.cells #[.string ⟨#[99, 111, 109, 109, 101, 110, 116]⟩, .string ⟨#[116, 101, 120, 116]⟩, .string ⟨#[112, 114, 111, 99, 101, 115, 115, 105, 110, 103, 45, 105, 110, 115, 116, 114, 117, 99, 116, 105, 111, 110]⟩, .string ⟨#[110, 111, 100, 101]⟩] 9)) (w4.heap.size + 1) (strs_at typesL (T := 9) (types_new w4 N))).mono ?_
       rintro e w7 ⟨rfl, rfl⟩))
  exact end_nm Tryd.results49 w _ (some ⟨4, N, .num 0⟩) (x := ⟨4, N, .num 0⟩) (KBB.out _ _).1 (KBB.out _ _).2 (fun z h => by cases h; rfl) rfl rfl rfl rfl
set_option maxHeartbeats 8000000 in
theorem nm12_func (l N : List UInt8) (p q r : Nat) (v : Value) (w : World)
    (hsl : ∀ wx, (Instr.slice 9 (.string (bs l)) (some (.int .i64 (p : Int))) (some (.int .i64 (q : Int))) none).run Tryd.prog wx = .ok (.string (bs N)) wx)
    (HN : Hid (∀ W : World, Below w.heap.size w W → Calls Tryd.prog 48 #[.string (bs N)] W fun e w' => e = .returned (.bool true) ∧ Below W.heap.size W w'))
    (HE : Hid (∀ W : World, Below w.heap.size w W → Calls Tryd.prog 46 #[v] W fun e w' => e = .returned (.bool false) ∧ Below W.heap.size W w'))
    (HS : Hid (∀ W : World, Calls Tryd.prog 16 #[.string (bs l), .int .i64 (q : Int)] W fun e w' => e = .returned (.int .i64 (r : Int)) ∧ W = w'))
    (HO : Hid (∀ W : World, Calls Tryd.prog 67 #[.string (bs l), .int .i64 (r : Int), .string ⟨#[40]⟩] W fun e w' => e = .returned (.bool true) ∧ W = w'))
    (HC : Hid (∀ W : World, Calls Tryd.prog 67 #[.string (bs l), .int .i64 (r : Int), .string ⟨#[58, 58]⟩] W fun e w' => e = .returned (.bool false) ∧ W = w'))
    (HI : Hid (∀ (W : World) (g : Nat), (∀ i (h : i < typesL.length), W.cell? ⟨g, i, none⟩ = some (.string (bs typesL[i]))) → Calls Tryd.prog 68 #[.string (bs N), .slice (some ⟨g, 0, none⟩) 4 4] W fun e w' => e = .returned (.bool false) ∧ W = w')) :
    Calls Tryd.prog 49 #[.string (bs l), .int .i64 (p : Int), .int .i64 (q : Int), v] w (NmPost w (some ⟨6, N, .num 0⟩)) := by
  obtain ⟨W1, hW1⟩ : ∃ W1, W1 = w.alloc (.cells #[.int .i64 0, .string ⟨#[]⟩, .int .i64 0, .int .i64 0] 47) := ⟨_, rfl⟩
  have hb1 : Below w.heap.size w W1 := by rw [hW1]; exact below_box _
  have hk1 : W1.heap[w.heap.size]? = some (wdB wd0) := by rw [hW1]; exact World.alloc_heap_new w _
  have hl1 : w.heap.size < W1.heap.size := (Array.getElem?_eq_some_iff.1 hk1).1
  have HW1 := Lib.hid hW1
  have HKEY := Lib.hid fun (w3 : World) (hb3 : Below W1.heap.size W1 w3) => wd0_at ((hb3.block _ hl1).trans hk1)
  have HKB := Lib.hid fun (w3 : World) (hb3 : Below W1.heap.size W1 w3) => And.intro ((hb3.block _ hl1).trans hk1) (hb1.trans (hb3.mono hb1.size))
  have HN1 := Lib.hid (HN.out W1 hb1)
  clear hb1 hk1 hl1 hW1 HN
  go_enter Tryd.func49, Tryd.ntmps49
  go_upto_region 1 with fail
  rw [← HW1.out]
  clear HW1
  go_wp2_with (first
    | (go_at_call 48
       refine HN1.out.mono ?_
       rintro e w3 ⟨rfl, hb3⟩
       have HB3 := Lib.hid hb3
       have HKB3 := Lib.hid (HKB.out w3 hb3)
       obtain ⟨⟨d0, d1, d2, d3⟩, f0, f1, f2, f3⟩ := HKEY.out w3 hb3
       clear hb3 HN1)
    | (go_at_call 46
       refine (HE.out _ HKB3.out.2).mono ?_
       rintro e w4 ⟨rfl, hb4⟩
       have hb := HB3.out.trans (hb4.mono HB3.out.size)
       clear d0 d1 d2 d3 f0 f1 f2 f3
       obtain ⟨⟨d0, d1, d2, d3⟩, f0, f1, f2, f3⟩ := HKEY.out w4 hb
       have HKB4 := Lib.hid (HKB.out w4 hb)
       have ka := fun ob => HKEY.out (w4.alloc ob) (hb.trans ((below_box ob).mono hb.size))
       have KB := Lib.hid fun ob => HKB.out (w4.alloc ob) (hb.trans ((below_box ob).mono hb.size))
       have kaa := fun ob ob2 => HKEY.out ((w4.alloc ob).alloc ob2) ((hb.trans ((below_box ob).mono hb.size)).trans ((below_box ob2).mono (hb.trans ((below_box ob).mono hb.size)).size))
       have KBB := Lib.hid fun ob ob2 => HKB.out ((w4.alloc ob).alloc ob2) ((hb.trans ((below_box ob).mono hb.size)).trans ((below_box ob2).mono (hb.trans ((below_box ob).mono hb.size)).size))
       clear hb hb4 HE d0 d1 d2 d3 f0 f1 f2 f3)
    | (go_at_call 16
       refine (HS.out _).mono ?_
       rintro e w5 ⟨rfl, rfl⟩
       clear HS)
    | (go_at_call 67
       have CC := HC.out (w4.alloc (.cells #[.int .i64 2, .string (bs N), .int .i64 0, .int .i64 0] 47))
       with_reducible refine CC.mono ?_
       clear CC
       rintro e w6 ⟨rfl, rfl⟩)
    | (go_at_call 67
       refine (HO.out _).mono ?_
       rintro e w6 ⟨rfl, rfl⟩)
    | (go_at_call 68
       refine (HI.out ((w4.alloc (.cells #[.int .i64 6, .string (bs N), .int .i64 0, .int .i64 0] 47)).alloc (.cells #[.string ⟨#[99, 111, 109, 109, 101, 110, 116]⟩, .string ⟨#[116, 101, 120, 116]⟩, .string ⟨#[112, 114, 111, 99, 101, 115, 115, 105, 110, 103, 45, 105, 110, 115, 116, 114, 117, 99, 116, 105, 111, 110]⟩, .string ⟨#[110, 111, 100, 101]⟩] 9)) (w4.heap.size + 1) (strs_at typesL (T := 9) (types_new w4 N))).mono ?_
       rintro e w7 ⟨rfl, rfl⟩))
  exact end_nm Tryd.results49 w _ (some ⟨6, N, .num 0⟩) (x := ⟨6, N, .num 0⟩) (KBB.out _ _).1 (KBB.out _ _).2 (fun z h => by cases h; rfl) rfl rfl rfl rfl
set_option maxHeartbeats 8000000 in
theorem nm12_axis (l N : List UInt8) (p q r : Nat) (v : Value) (w : World)
    (hsl : ∀ wx, (Instr.slice 9 (.string (bs l)) (some (.int .i64 (p : Int))) (some (.int .i64 (q : Int))) none).run Tryd.prog wx = .ok (.string (bs N)) wx)
    (HN : Hid (∀ W : World, Below w.heap.size w W → Calls Tryd.prog 48 #[.string (bs N)] W fun e w' => e = .returned (.bool true) ∧ Below W.heap.size W w'))
    (HE : Hid (∀ W : World, Below w.heap.size w W → Calls Tryd.prog 46 #[v] W fun e w' => e = .returned (.bool false) ∧ Below W.heap.size W w'))
    (HS : Hid (∀ W : World, Calls Tryd.prog 16 #[.string (bs l), .int .i64 (q : Int)] W fun e w' => e = .returned (.int .i64 (r : Int)) ∧ W = w'))
    (HO : Hid (∀ W : World, Calls Tryd.prog 67 #[.string (bs l), .int .i64 (r : Int), .string ⟨#[40]⟩] W fun e w' => e = .returned (.bool false) ∧ W = w'))
    (HC : Hid (∀ W : World, Calls Tryd.prog 67 #[.string (bs l), .int .i64 (r : Int), .string ⟨#[58, 58]⟩] W fun e w' => e = .returned (.bool true) ∧ W = w')) :
    Calls Tryd.prog 49 #[.string (bs l), .int .i64 (p : Int), .int .i64 (q : Int), v] w (NmPost w (some ⟨7, N, .num 0⟩)) := by
  obtain ⟨W1, hW1⟩ : ∃ W1, W1 = w.alloc (.cells #[.int .i64 0, .string ⟨#[]⟩, .int .i64 0, .int .i64 0] 47) := ⟨_, rfl⟩
  have hb1 : Below w.heap.size w W1 := by rw [hW1]; exact below_box _
  have hk1 : W1.heap[w.heap.size]? = some (wdB wd0) := by rw [hW1]; exact World.alloc_heap_new w _
  have hl1 : w.heap.size < W1.heap.size := (Array.getElem?_eq_some_iff.1 hk1).1
  have HW1 := Lib.hid hW1
  have HKEY := Lib.hid fun (w3 : World) (hb3 : Below W1.heap.size W1 w3) => wd0_at ((hb3.block _ hl1).trans hk1)
  have HKB := Lib.hid fun (w3 : World) (hb3 : Below W1.heap.size W1 w3) => And.intro ((hb3.block _ hl1).trans hk1) (hb1.trans (hb3.mono hb1.size))
  have HN1 := Lib.hid (HN.out W1 hb1)
  clear hb1 hk1 hl1 hW1 HN
  go_enter Tryd.func49, Tryd.ntmps49
  go_upto_region 1 with fail
  rw [← HW1.out]
  clear HW1
  go_wp2_with (first
    | (go_at_call 48
       refine HN1.out.mono ?_
       rintro e w3 ⟨rfl, hb3⟩
       have HB3 := Lib.hid hb3
       have HKB3 := Lib.hid (HKB.out w3 hb3)
       obtain ⟨⟨d0, d1, d2, d3⟩, f0, f1, f2, f3⟩ := HKEY.out w3 hb3
       clear hb3 HN1)
    | (go_at_call 46
       refine (HE.out _ HKB3.out.2).mono ?_
       rintro e w4 ⟨rfl, hb4⟩
       have hb := HB3.out.trans (hb4.mono HB3.out.size)
       clear d0 d1 d2 d3 f0 f1 f2 f3
       obtain ⟨⟨d0, d1, d2, d3⟩, f0, f1, f2, f3⟩ := HKEY.out w4 hb
       have HKB4 := Lib.hid (HKB.out w4 hb)
       have ka := fun ob => HKEY.out (w4.alloc ob) (hb.trans ((below_box ob).mono hb.size))
       have KB := Lib.hid fun ob => HKB.out (w4.alloc ob) (hb.trans ((below_box ob).mono hb.size))
       have kaa := fun ob ob2 => HKEY.out ((w4.alloc ob).alloc ob2) ((hb.trans ((below_box ob).mono hb.size)).trans ((below_box ob2).mono (hb.trans ((below_box ob).mono hb.size)).size))
       have KBB := Lib.hid fun ob ob2 => HKB.out ((w4.alloc ob).alloc ob2) ((hb.trans ((below_box ob).mono hb.size)).trans ((below_box ob2).mono (hb.trans ((below_box ob).mono hb.size)).size))
       clear hb hb4 HE d0 d1 d2 d3 f0 f1 f2 f3)
    | (go_at_call 16
       refine (HS.out _).mono ?_
       rintro e w5 ⟨rfl, rfl⟩
       clear HS)
    | (go_at_call 67
       have CC := HC.out (w4.alloc (.cells #[.int .i64 2, .string (bs N), .int .i64 0, .int .i64 0] 47))
       with_reducible refine CC.mono ?_
       clear CC
       rintro e w6 ⟨rfl, rfl⟩)
    | (go_at_call 67
       refine (HO.out _).mono ?_
       rintro e w6 ⟨rfl, rfl⟩))
  exact end_nm Tryd.results49 w _ (some ⟨7, N, .num 0⟩) (x := ⟨7, N, .num 0⟩) (KB.out _).1 (KB.out _).2 (fun z h => by cases h; rfl) rfl rfl rfl rfl
set_option maxHeartbeats 8000000 in
theorem nm12_name (l N : List UInt8) (p q r : Nat) (v : Value) (w : World)
    (hsl : ∀ wx, (Instr.slice 9 (.string (bs l)) (some (.int .i64 (p : Int))) (some (.int .i64 (q : Int))) none).run Tryd.prog wx = .ok (.string (bs N)) wx)
    (HN : Hid (∀ W : World, Below w.heap.size w W → Calls Tryd.prog 48 #[.string (bs N)] W fun e w' => e = .returned (.bool true) ∧ Below W.heap.size W w'))
    (HE : Hid (∀ W : World, Below w.heap.size w W → Calls Tryd.prog 46 #[v] W fun e w' => e = .returned (.bool false) ∧ Below W.heap.size W w'))
    (HS : Hid (∀ W : World, Calls Tryd.prog 16 #[.string (bs l), .int .i64 (q : Int)] W fun e w' => e = .returned (.int .i64 (r : Int)) ∧ W = w'))
    (HO : Hid (∀ W : World, Calls Tryd.prog 67 #[.string (bs l), .int .i64 (r : Int), .string ⟨#[40]⟩] W fun e w' => e = .returned (.bool false) ∧ W = w'))
    (HC : Hid (∀ W : World, Calls Tryd.prog 67 #[.string (bs l), .int .i64 (r : Int), .string ⟨#[58, 58]⟩] W fun e w' => e = .returned (.bool false) ∧ W = w')) :
    Calls Tryd.prog 49 #[.string (bs l), .int .i64 (p : Int), .int .i64 (q : Int), v] w (NmPost w (some ⟨2, N, .num 0⟩)) := by
  obtain ⟨W1, hW1⟩ : ∃ W1, W1 = w.alloc (.cells #[.int .i64 0, .string ⟨#[]⟩, .int .i64 0, .int .i64 0] 47) := ⟨_, rfl⟩
  have hb1 : Below w.heap.size w W1 := by rw [hW1]; exact below_box _
  have hk1 : W1.heap[w.heap.size]? = some (wdB wd0) := by rw [hW1]; exact World.alloc_heap_new w _
  have hl1 : w.heap.size < W1.heap.size := (Array.getElem?_eq_some_iff.1 hk1).1
  have HW1 := Lib.hid hW1
  have HKEY := Lib.hid fun (w3 : World) (hb3 : Below W1.heap.size W1 w3) => wd0_at ((hb3.block _ hl1).trans hk1)
  have HKB := Lib.hid fun (w3 : World) (hb3 : Below W1.heap.size W1 w3) => And.intro ((hb3.block _ hl1).trans hk1) (hb1.trans (hb3.mono hb1.size))
  have HN1 := Lib.hid (HN.out W1 hb1)
  clear hb1 hk1 hl1 hW1 HN
  go_enter Tryd.func49, Tryd.ntmps49
  go_upto_region 1 with fail
  rw [← HW1.out]
  clear HW1
  go_wp2_with (first
    | (go_at_call 48
       refine HN1.out.mono ?_
       rintro e w3 ⟨rfl, hb3⟩
       have HB3 := Lib.hid hb3
       have HKB3 := Lib.hid (HKB.out w3 hb3)
       obtain ⟨⟨d0, d1, d2, d3⟩, f0, f1, f2, f3⟩ := HKEY.out w3 hb3
       clear hb3 HN1)
    | (go_at_call 46
       refine (HE.out _ HKB3.out.2).mono ?_
       rintro e w4 ⟨rfl, hb4⟩
       have hb := HB3.out.trans (hb4.mono HB3.out.size)
       clear d0 d1 d2 d3 f0 f1 f2 f3
       obtain ⟨⟨d0, d1, d2, d3⟩, f0, f1, f2, f3⟩ := HKEY.out w4 hb
       have HKB4 := Lib.hid (HKB.out w4 hb)
       have ka := fun ob => HKEY.out (w4.alloc ob) (hb.trans ((below_box ob).mono hb.size))
       have KB := Lib.hid fun ob => HKB.out (w4.alloc ob) (hb.trans ((below_box ob).mono hb.size))
       have kaa := fun ob ob2 => HKEY.out ((w4.alloc ob).alloc ob2) ((hb.trans ((below_box ob).mono hb.size)).trans ((below_box ob2).mono (hb.trans ((below_box ob).mono hb.size)).size))
       have KBB := Lib.hid fun ob ob2 => HKB.out ((w4.alloc ob).alloc ob2) ((hb.trans ((below_box ob).mono hb.size)).trans ((below_box ob2).mono (hb.trans ((below_box ob).mono hb.size)).size))
       clear hb hb4 HE d0 d1 d2 d3 f0 f1 f2 f3)
    | (go_at_call 16
       refine (HS.out _).mono ?_
       rintro e w5 ⟨rfl, rfl⟩
       clear HS)
    | (go_at_call 67
       have CC := HC.out (w4.alloc (.cells #[.int .i64 2, .string (bs N), .int .i64 0, .int .i64 0] 47))
       with_reducible refine CC.mono ?_
       clear CC
       rintro e w6 ⟨rfl, rfl⟩)
    | (go_at_call 67
       refine (HO.out _).mono ?_
       rintro e w6 ⟨rfl, rfl⟩))
  exact end_nm Tryd.results49 w _ (some ⟨2, N, .num 0⟩) (x := ⟨2, N, .num 0⟩) (KB.out _).1 (KB.out _).2 (fun z h => by cases h; rfl) rfl rfl rfl rfl
theorem named12_any (l : List UInt8) (p B : Nat) (v : Value) (xs : List Wd) (w : World) (hl : l.length ≤ 1000) (hp : p ≤ l.length) (ho : OwnsWd B w v xs) (hxl : xs.length ≤ 1000) :
    Calls Tryd.prog 49 #[.string (bs l), .int .i64 (p : Int), .int .i64 ((p + runL (l.drop p) : Nat) : Int), v] w (NmPost w ((nameW (lastE false xs) (l.drop p)).map (·.1))) := by
  obtain ⟨L, hL⟩ : ∃ L, l.drop p = L := ⟨_, rfl⟩
  have hr := run_le _ L (Nat.le_refl _)
  have hLl : L.length = l.length - p := by rw [← hL, List.length_drop]
  rw [hL]
  obtain ⟨q, hq⟩ : ∃ q, p + runL L = q := ⟨_, rfl⟩
  have hql : q ≤ l.length := by omega
  have hsl := slice_mid6 l p q (by omega) hql
  rw [hL, show q - p = runL L by omega] at hsl
  have hNl : (L.take (runL L)).length ≤ 1000 := by rw [List.length_take]; omega
  have hN : (bs (L.take (runL L))).size ≤ 1000 := by rw [bs_size]; exact hNl
  have hNm : ∀ W : World, Below w.heap.size w W → _ := fun (W : World) (_ : Below w.heap.size w W) => refName_any (bs (L.take (runL L))) W (by omega)
  have hE : ∀ W : World, Below w.heap.size w W → _ := fun (W : World) (hb : Below w.heap.size w W) => ends12_any B v xs W (ho.below hb) hxl
  have hdq : l.drop q = L.drop (runL L) := by rw [← hq, ← hL, List.drop_drop]
  have HS := Lib.hid fun (W : World) => spaces_any l q W (by omega) hql
  obtain ⟨r, hrr⟩ : ∃ r, q + spcL (l.drop q) = r := ⟨_, rfl⟩
  rw [hrr] at HS
  have hsp := spc_le (l.drop q)
  rw [List.length_drop] at hsp
  have hrl : r ≤ l.length := by omega
  have hdr : l.drop r = dropS (L.drop (runL L)) := by rw [← hrr, ← hdq]; unfold dropS; rw [List.drop_drop]
  have hO : ∀ W : World, _ := fun (W : World) => begins_at l [40] r W (by omega) hrl (by decide) hdr
  have hC : ∀ W : World, _ := fun (W : World) => begins_at l [58, 58] r W (by omega) hrl (by decide) hdr
  have hIj : ∀ (W : World) (g : Nat), (∀ i (h : i < joinsL.length), W.cell? ⟨g, i, none⟩ = some (.string (bs joinsL[i]))) → _ := fun (W : World) (g : Nat) (hc : ∀ i (h : i < joinsL.length), W.cell? ⟨g, i, none⟩ = some (.string (bs joinsL[i]))) => in12_any joinsL (L.take (runL L)) g W hc (by decide)
  have hIt : ∀ (W : World) (g : Nat), (∀ i (h : i < typesL.length), W.cell? ⟨g, i, none⟩ = some (.string (bs typesL[i]))) → _ := fun (W : World) (g : Nat) (hc : ∀ i (h : i < typesL.length), W.cell? ⟨g, i, none⟩ = some (.string (bs typesL[i]))) => in12_any typesL (L.take (runL L)) g W hc (by decide)
  rw [hq]
  generalize lastE false xs = ended at *
  cases hE1 : nmD (bs (L.take (runL L))) with
  | false =>
    rw [hE1] at hNm
    have e : nameW ended L = none := by unfold nameW; rw [hE1]; rfl
    rw [e]
    exact nm12_bad l _ p q v w hsl (Lib.hid hNm)
  | true =>
    rw [hE1] at hNm
    cases ended with
    | true =>
      cases hj : joinsL.contains (L.take (runL L)) with
      | false =>
        rw [hj] at hIj
        have e : nameW true L = none := by unfold nameW; rw [hE1, hj]; rfl
        rw [e]
        exact nm12_nojoin l _ p q v w hsl (Lib.hid hNm) (Lib.hid hE) (Lib.hid hIj)
      | true =>
        rw [hj] at hIj
        have e : nameW true L = some (⟨5, L.take (runL L), .num 0⟩, runL L) := by unfold nameW; rw [hE1, hj]; rfl
        rw [e]
        exact nm12_op l _ p q v w hsl (Lib.hid hNm) (Lib.hid hE) (Lib.hid hIj)
    | false =>
      have e0 : nameW false L = some (⟨kindN false (L.take (runL L)) (nx0 (dropS (L.drop (runL L)))), L.take (runL L), .num 0⟩, runL L) := by unfold nameW; rw [hE1]; rfl
      rw [e0]
      unfold nx0
      cases h1 : ([40] : List UInt8).isPrefixOf (dropS (L.drop (runL L))) with
      | true =>
        rw [h1] at hO
        have h2 : ([58, 58] : List UInt8).isPrefixOf (dropS (L.drop (runL L))) = false := by
          obtain ⟨t, ht⟩ := List.isPrefixOf_iff_prefix.1 h1
          rw [← ht]
          rfl
        rw [h2] at hC
        cases h3 : typesL.contains (L.take (runL L)) with
        | true =>
          rw [h3] at hIt
          have e : kindN false (L.take (runL L)) (if true = true then 1 else if ([58, 58] : List UInt8).isPrefixOf (dropS (L.drop (runL L))) = true then 2 else 0) = 4 := by unfold kindN; rw [h3]; rfl
          rw [e]
          exact nm12_type l _ p q r v w hsl (Lib.hid hNm) (Lib.hid hE) HS (Lib.hid hO) (Lib.hid hC) (Lib.hid hIt)
        | false =>
          rw [h3] at hIt
          have e : kindN false (L.take (runL L)) (if true = true then 1 else if ([58, 58] : List UInt8).isPrefixOf (dropS (L.drop (runL L))) = true then 2 else 0) = 6 := by unfold kindN; rw [h3]; rfl
          rw [e]
          exact nm12_func l _ p q r v w hsl (Lib.hid hNm) (Lib.hid hE) HS (Lib.hid hO) (Lib.hid hC) (Lib.hid hIt)
      | false =>
        rw [h1] at hO
        cases h2 : ([58, 58] : List UInt8).isPrefixOf (dropS (L.drop (runL L))) with
        | true =>
          rw [h2] at hC
          exact nm12_axis l _ p q r v w hsl (Lib.hid hNm) (Lib.hid hE) HS (Lib.hid hO) (Lib.hid hC)
        | false =>
          rw [h2] at hC
          exact nm12_name l _ p q r v w hsl (Lib.hid hNm) (Lib.hid hE) HS (Lib.hid hO) (Lib.hid hC)
end Go.Proofs.YtbemijbgbjcoeaaDoor.Char

/- Mathematics without a program: a word by its first byte, as the document tells it. -/
namespace Go.Proofs.YtbemijbgbjcoeaaDoor.Char
open Go.Lib Go.RowKit
open Go.Proofs.YtbemijbgbjcoeaaDoor.Fig (litL digB ptB decL dval allD toldD fitD)

theorem decL_bound : ∀ (l : List UInt8) (n : Nat), l.foldl (fun n b => n * 10 + dval b) n ≤ (n + 256) * 11 ^ l.length
  | [], n => by simp
  | b :: l, n => by
    have h := decL_bound l (n * 10 + dval b)
    have hd : dval b ≤ 255 := by unfold dval; have := UInt8.toNat_lt b; omega
    rw [List.foldl_cons, List.length_cons, Nat.pow_succ, Nat.mul_comm (11 ^ l.length) 11, ← Nat.mul_assoc]
    exact Nat.le_trans h (Nat.mul_le_mul_right _ (by omega))
theorem allD_len (f : List UInt8) : (allD [] f).length = 6 := by
  unfold allD
  have : (f.take 6).length ≤ 6 := by rw [List.length_take]; omega
  simp only [List.nil_append, List.length_append, List.length_replicate]
  omega
theorem told_dot (f : List UInt8) : ∃ v, toldD [] f = .num v := by
  have h := decL_bound (allD [] f) 0
  rw [allD_len] at h
  have h2 : decL (allD [] f) ≤ 256 * 11 ^ 6 := by unfold decL; omega
  unfold toldD fitD
  rw [if_neg (by have : (256 * 11 ^ 6 : Nat) = 453519616 := by decide
                 omega), if_neg (by omega)]
  exact ⟨_, rfl⟩
theorem dw_all {q : UInt8 → Bool} : ∀ l : List UInt8, (∀ b ∈ l, q b = true) → l.dropWhile q = [] ∧ l.takeWhile q = l
  | [], _ => ⟨rfl, rfl⟩
  | b :: l, h => by
    obtain ⟨h1, h2⟩ := dw_all l fun c hc => h c (List.mem_cons_of_mem _ hc)
    rw [List.dropWhile_cons, List.takeWhile_cons, if_pos (h b List.mem_cons_self), if_pos (h b List.mem_cons_self), h1, h2]
    exact ⟨rfl, rfl⟩
theorem lit_dot {d : UInt8} {ds : List UInt8} (h : ∀ b ∈ d :: ds, digB b = true) : ∃ v, litL (46 :: d :: ds) = some (.num v) := by
  obtain ⟨v, hv⟩ := told_dot (d :: ds)
  obtain ⟨h1, h2⟩ := dw_all (d :: ds) h
  have hd := h d List.mem_cons_self
  have hp : ptB d = false := by
    unfold digB at hd
    unfold ptB
    simp only [Bool.and_eq_true, decide_eq_true_eq] at hd
    rw [beq_eq_false_iff_ne]
    omega
  have e1 : (46 :: d :: ds : List UInt8).dropWhile digB = 46 :: d :: ds := rfl
  have e2 : (46 :: d :: ds : List UInt8).takeWhile digB = [] := rfl
  have e3 : (46 :: d :: ds : List UInt8).dropWhile ptB = d :: ds := by
    rw [List.dropWhile_cons, if_pos (by decide), List.dropWhile_cons, if_neg (by rw [hp]; decide)]
  have e4 : (46 :: d :: ds : List UInt8).takeWhile ptB = [46] := by
    rw [List.takeWhile_cons, if_pos (by decide), List.takeWhile_cons, if_neg (by rw [hp]; decide)]
  refine ⟨v, ?_⟩
  show (if ((46 :: d :: ds : List UInt8).dropWhile digB |>.dropWhile ptB).dropWhile digB = [] ∧ (((46 :: d :: ds : List UInt8).dropWhile digB).takeWhile ptB).length ≤ 1 ∧ ¬ ((46 :: d :: ds : List UInt8).takeWhile digB = [] ∧ ((46 :: d :: ds : List UInt8).dropWhile digB |>.dropWhile ptB).takeWhile digB = []) then some (toldD ((46 :: d :: ds : List UInt8).takeWhile digB) (((46 :: d :: ds : List UInt8).dropWhile digB |>.dropWhile ptB).takeWhile digB)) else none) = _
  rw [e1, e2, e3, e4, h1, h2, if_pos ⟨rfl, by decide, by simp⟩, hv]
/-- a number that begins with a point is one -/
theorem num_dot (t : List UInt8) (h : 0 < dgs t) : ∃ x, numW (46 :: t) = some x := by
  have h0 : dgs (46 :: t) = 0 := dgs_none t (by decide)
  have hs : sizN (46 :: t) = 1 + dgs t := by
    unfold sizN
    rw [h0]
    show 0 + (if true = true then 1 + dgs t else 0) = _
    rw [if_pos rfl, Nat.zero_add]
  have hm : ∀ b ∈ t.take (dgs t), digB b = true := fun b hb => by rw [dgs_take] at hb; exact tw_mem hb
  have hl : (t.take (dgs t)).length = dgs t := by rw [List.length_take]; exact Nat.min_eq_left (dgs_le t)
  unfold numW
  rw [hs, show 1 + dgs t = dgs t + 1 by omega, List.take_succ_cons]
  cases hd : t.take (dgs t) with
  | nil => rw [hd] at hl; simp at hl; omega
  | cons d ds =>
    rw [hd] at hm
    obtain ⟨v, hv⟩ := lit_dot hm
    rw [hv]
    exact ⟨_, rfl⟩
theorem quote_wd {c : UInt8} (t : List UInt8) (e : Bool) (h : c = 34 ∨ c = 39) : wdL (c :: t) e = litW (c :: t) := by
  obtain ⟨a, b⟩ := head_low c (by rcases h with rfl | rfl <;> decide)
  obtain ⟨s1, s2, s3⟩ := signs_none (c := c) t (by rcases h with rfl | rfl <;> decide) e
  unfold wdL
  rw [numW_none t (by rcases h with rfl | rfl <;> decide) (by rcases h with rfl | rfl <;> decide), s1, s2, s3, varW_none t (by rcases h with rfl | rfl <;> decide), nameW_none t e a b]
  cases litW (c :: t) <;> rfl
theorem dig_ne {c : UInt8} (h : digB c = true) : c ≠ 34 ∧ c ≠ 39 ∧ signB c = false ∧ c ≠ 36 ∧ headB c = true := by
  have : ∀ n : Fin 256, digB (UInt8.ofNat n.val) = true → UInt8.ofNat n.val ≠ 34 ∧ UInt8.ofNat n.val ≠ 39 ∧ signB (UInt8.ofNat n.val) = false ∧ UInt8.ofNat n.val ≠ 36 ∧ headB (UInt8.ofNat n.val) = true := by decide +kernel
  have h2 := this ⟨c.toNat, UInt8.toNat_lt c⟩
  rw [UInt8.ofNat_toNat] at h2
  exact h2 h
theorem digit_wd {c : UInt8} (t : List UInt8) (e : Bool) (h : digB c = true) : wdL (c :: t) e = numW (c :: t) := by
  obtain ⟨n1, n2, n3, n4, n5⟩ := dig_ne h
  obtain ⟨a, b⟩ := head_low c n5
  obtain ⟨s1, s2, s3⟩ := signs_none (c := c) t n3 e
  unfold wdL
  rw [litW_none t ⟨n1, n2⟩, s1, s2, s3, varW_none t n4, nameW_none t e a b]
  cases numW (c :: t) <;> rfl
theorem dot_wd (t : List UInt8) (e : Bool) (h : 0 < dgs t) : wdL (46 :: t) e = numW (46 :: t) := by
  obtain ⟨x, hx⟩ := num_dot t h
  unfold wdL
  rw [litW_none t ⟨by decide, by decide⟩, hx]
  rfl
theorem dot_no (t : List UInt8) (h : dgs t = 0) : numW (46 :: t) = none := by
  have h0 : dgs (46 :: t) = 0 := dgs_none t (by decide)
  have hs : sizN (46 :: t) = 1 := by
    unfold sizN
    rw [h0]
    show 0 + (if true = true then 1 + dgs t else 0) = _
    rw [if_pos rfl, h]
  unfold numW
  rw [hs, show (46 :: t).take 1 = [46] from rfl]
  rfl
/-- what is neither a text nor a number -/
theorem rest_wd {c : UInt8} (t : List UInt8) (e : Bool) (h : c ≠ 34 ∧ c ≠ 39) (hn : numW (c :: t) = none) : wdL (c :: t) e = orW (signW 1 marksL (c :: t)) (orW (signW 5 opsL (c :: t)) (orW (signW (starK e) [[42]] (c :: t)) (orW (varW (c :: t)) (nameW e (c :: t))))) := by
  unfold wdL
  rw [litW_none t h, hn]
  rfl
end Go.Proofs.YtbemijbgbjcoeaaDoor.Char

/- Mathematics without a program: the document's way of reading a literal, byte by byte, is that by its parts. -/
namespace Go.Proofs.YtbemijbgbjcoeaaDoor.Char
end Go.Proofs.YtbemijbgbjcoeaaDoor.Char
namespace Go.Proofs.YtbemijbgbjcoeaaDoor.Fig

/-- the document's way: points, digits, digits behind the point, the digits that count -/
def litGo : List UInt8 → Nat → Nat → Nat → List Nat → Option Nm
  | [], p, m, b, acc => if 1 < p ∨ m = 0 then none else some (fitD (val (acc ++ List.replicate (6 - b) 0).reverse : Int))
  | c :: r, p, m, b, acc =>
    if ptB c = true then litGo r (p + 1) m b acc
    else if digB c = true then
      (let b' := if 0 < p then b + 1 else b
       litGo r p (m + 1) b' (if b' ≤ 6 then acc ++ [dval c] else acc))
    else none

theorem litGo_pt (c : UInt8) (r : List UInt8) (p m b : Nat) (acc : List Nat) (h : ptB c = true) : litGo (c :: r) p m b acc = litGo r (p + 1) m b acc := by
  show (if ptB c = true then _ else _) = _
  rw [if_pos h]
theorem litGo_bad (c : UInt8) (r : List UInt8) (p m b : Nat) (acc : List Nat) (h : ptB c = false) (h2 : digB c = false) : litGo (c :: r) p m b acc = none := by
  show (if ptB c = true then _ else if digB c = true then _ else _) = _
  rw [if_neg (by rw [h]; simp), if_neg (by rw [h2]; simp)]
theorem litGo_dig0 (c : UInt8) (r : List UInt8) (m b : Nat) (acc : List Nat) (h : digB c = true) (hb : b ≤ 6) : litGo (c :: r) 0 m b acc = litGo r 0 (m + 1) b (acc ++ [dval c]) := by
  show (if ptB c = true then _ else if digB c = true then _ else _) = _
  rw [if_neg (by rw [digB_not_pt h]; simp), if_pos h]
  show litGo r 0 (m + 1) (if 0 < 0 then b + 1 else b) (if (if 0 < 0 then b + 1 else b) ≤ 6 then acc ++ [dval c] else acc) = _
  rw [if_neg (Nat.lt_irrefl 0), if_pos hb]
theorem litGo_dig1 (c : UInt8) (r : List UInt8) (p m b : Nat) (acc : List Nat) (h : digB c = true) (hp : 0 < p) : litGo (c :: r) p m b acc = litGo r p (m + 1) (b + 1) (if b + 1 ≤ 6 then acc ++ [dval c] else acc) := by
  show (if ptB c = true then _ else if digB c = true then _ else _) = _
  rw [if_neg (by rw [digB_not_pt h]; simp), if_pos h]
  show litGo r p (m + 1) (if 0 < p then b + 1 else b) (if (if 0 < p then b + 1 else b) ≤ 6 then acc ++ [dval c] else acc) = _
  rw [if_pos hp]
theorem litGo_many : ∀ (l : List UInt8) (p m b : Nat) (acc : List Nat), 1 < p → litGo l p m b acc = none
  | [], p, m, b, acc, h => by
    show (if 1 < p ∨ m = 0 then _ else _) = _
    rw [if_pos (.inl h)]
  | c :: r, p, m, b, acc, h => by
    cases hp : ptB c with
    | true => rw [litGo_pt c r p m b acc hp]; exact litGo_many r _ _ _ _ (by omega)
    | false =>
      cases hd : digB c with
      | true => rw [litGo_dig1 c r p m b acc hd (by omega)]; exact litGo_many r _ _ _ _ h
      | false => exact litGo_bad c r p m b acc hp hd
theorem litGo_run0 : ∀ (w r : List UInt8) (m : Nat) (acc : List Nat), (∀ b ∈ w, digB b = true) → litGo (w ++ r) 0 m 0 acc = litGo r 0 (m + w.length) 0 (acc ++ w.map dval)
  | [], r, m, acc, _ => by simp
  | c :: w, r, m, acc, h => by
    rw [List.cons_append, litGo_dig0 c _ m 0 acc (h c (List.mem_cons_self ..)) (by omega), litGo_run0 w r (m + 1) _ (fun b hb => h b (List.mem_cons_of_mem _ hb)), List.length_cons, List.map_cons, List.append_assoc, show m + 1 + w.length = m + (w.length + 1) by omega]
    rfl
theorem litGo_run1 : ∀ (f r : List UInt8) (m b : Nat) (acc : List Nat), (∀ x ∈ f, digB x = true) → litGo (f ++ r) 1 m b acc = litGo r 1 (m + f.length) (b + f.length) (acc ++ (f.take (6 - b)).map dval)
  | [], r, m, b, acc, _ => by simp
  | c :: f, r, m, b, acc, h => by
    rw [List.cons_append, litGo_dig1 c _ 1 m b acc (h c (List.mem_cons_self ..)) (by omega), litGo_run1 f r (m + 1) (b + 1) _ (fun x hx => h x (List.mem_cons_of_mem _ hx)), List.length_cons,
      show m + 1 + f.length = m + (f.length + 1) by omega, show b + 1 + f.length = b + (f.length + 1) by omega]
    congr 1
    by_cases hb : b + 1 ≤ 6
    · rw [if_pos hb, show 6 - b = (6 - (b + 1)) + 1 by omega, List.take_succ_cons, List.map_cons, List.append_assoc]
      rfl
    · rw [if_neg hb, show 6 - b = 0 by omega, show 6 - (b + 1) = 0 by omega]
      rfl

theorem while_split (p : UInt8 → Bool) : ∀ l : List UInt8, l = l.takeWhile p ++ l.dropWhile p := fun l => (List.takeWhile_append_dropWhile (p := p) (l := l)).symm
theorem drop_head (p : UInt8 → Bool) : ∀ (l : List UInt8) (c : UInt8) (r : List UInt8), l.dropWhile p = c :: r → p c = false
  | [], c, r, h => by cases h
  | x :: l, c, r, h => by
    rw [List.dropWhile_cons] at h
    split at h
    · exact drop_head p l c r h
    · rename_i hx
      injection h with h1 h2
      rw [← h1]
      simpa using hx
theorem while_all (p : UInt8 → Bool) : ∀ l : List UInt8, ∀ b ∈ l.takeWhile p, p b = true
  | [], b, h => by cases h
  | x :: l, b, h => by
    rw [List.takeWhile_cons] at h
    split at h
    · rename_i hx
      rcases List.mem_cons.1 h with rfl | h
      · exact hx
      · exact while_all p l b h
    · cases h
theorem told_val (w f : List UInt8) : fitD (val ((w.map dval ++ (f.take 6).map dval) ++ List.replicate (6 - f.length) 0).reverse : Int) = toldD w f := by
  unfold toldD
  congr 2
  have e : allD w f = w ++ (f.take 6 ++ List.replicate (6 - f.length) (chr 0)) := by
    unfold allD
    rw [List.length_take]
    congr 3
    omega
  rw [e, ← decL_val, List.map_append, List.map_append, List.map_replicate, List.append_assoc]
  rfl

/-- byte by byte, and by its parts -/
theorem litGo_eq (l : List UInt8) : litGo l 0 0 0 [] = litL l := by
  have hl := while_split digB l
  have hw := while_all digB l
  unfold litL
  simp only
  generalize hr1 : l.dropWhile digB = r1 at *
  have hh := drop_head digB l
  rw [hr1] at hh
  generalize l.takeWhile digB = w at *
  rw [hl, litGo_run0 w r1 0 [] hw, Nat.zero_add, List.nil_append]
  match r1, hh with
  | [], _ =>
    show (if 1 < 0 ∨ w.length = 0 then none else some (fitD (val (w.map dval ++ List.replicate (6 - 0) 0).reverse : Int))) = if ([] : List UInt8) = [] ∧ ([] : List UInt8).length ≤ 1 ∧ ¬ (w = [] ∧ ([] : List UInt8) = []) then some (toldD w []) else none
    by_cases h0 : w = []
    · subst h0; rfl
    · have h1 : w.length ≠ 0 := fun h => h0 (List.eq_nil_of_length_eq_zero h)
      rw [if_neg (by omega), if_pos ⟨rfl, by simp, fun h => h0 h.1⟩, ← told_val]
      simp
  | c :: r, hh =>
    have hcd := hh c r rfl
    cases hp : ptB c with
    | false =>
      rw [litGo_bad c r _ _ _ _ hp hcd]
      have e1 : (c :: r).dropWhile ptB = c :: r := by rw [List.dropWhile_cons, if_neg (by rw [hp]; simp)]
      have e2 : (c :: r).dropWhile digB = c :: r := by rw [List.dropWhile_cons, if_neg (by rw [hcd]; simp)]
      rw [e1, e2, if_neg (fun h => by cases h.1)]
    | true =>
      rw [litGo_pt c r _ _ _ _ hp]
      have e1 : (c :: r).dropWhile ptB = r.dropWhile ptB := by rw [List.dropWhile_cons, if_pos hp]
      have e2 : (c :: r).takeWhile ptB = c :: r.takeWhile ptB := by rw [List.takeWhile_cons, if_pos hp]
      rw [e1, e2]
      by_cases hr : ∃ c' r', r = c' :: r' ∧ ptB c' = true
      · obtain ⟨c', r', rfl, hp'⟩ := hr
        rw [litGo_pt c' r' _ _ _ _ hp', litGo_many _ _ _ _ _ (by omega), List.takeWhile_cons, if_pos hp', if_neg (fun h => by simp at h)]
      · have e3 : r.dropWhile ptB = r ∧ r.takeWhile ptB = [] := by
          match r, hr with
          | [], _ => exact ⟨rfl, rfl⟩
          | c' :: r', hr =>
            have hn : ¬ ptB c' = true := fun h => hr ⟨c', r', rfl, h⟩
            exact ⟨by rw [List.dropWhile_cons, if_neg hn], by rw [List.takeWhile_cons, if_neg hn]⟩
        rw [e3.1, e3.2]
        have hrs := while_split digB r
        have hf := while_all digB r
        have hh2 := drop_head digB r
        generalize r.dropWhile digB = r3 at *
        generalize r.takeWhile digB = f at *
        have hg : litGo r (0 + 1) w.length 0 (w.map dval) = litGo r3 1 (w.length + f.length) (0 + f.length) (w.map dval ++ (f.take (6 - 0)).map dval) := by rw [hrs]; exact litGo_run1 f r3 _ 0 _ hf
        rw [hg]
        match r3, hh2 with
        | [], _ =>
          show (if 1 < 1 ∨ w.length + f.length = 0 then none else some (fitD (val ((w.map dval ++ (f.take 6).map dval) ++ List.replicate (6 - (0 + f.length)) 0).reverse : Int))) = _
          rw [Nat.zero_add, told_val]
          by_cases h0 : w = [] ∧ f = []
          · rw [h0.1, h0.2]; rfl
          · have h1 : w.length + f.length ≠ 0 := fun h => h0 ⟨List.eq_nil_of_length_eq_zero (by omega), List.eq_nil_of_length_eq_zero (by omega)⟩
            rw [if_neg (by omega), if_pos ⟨rfl, by simp, h0⟩]
        | c3 :: r4, hh2 =>
          have hd3 := hh2 c3 r4 rfl
          rw [if_neg (fun h => by cases h.1)]
          cases hp3 : ptB c3 with
          | true => rw [litGo_pt c3 r4 _ _ _ _ hp3]; exact litGo_many _ _ _ _ _ (by omega)
          | false => exact litGo_bad c3 r4 _ _ _ _ hp3 hd3
end Go.Proofs.YtbemijbgbjcoeaaDoor.Fig

/- The walks of the document's own Made, Int, Neg for numbers in millionths. -/
namespace Go.Proofs.YtbemijbgbjcoeaaDoor.Char
end Go.Proofs.YtbemijbgbjcoeaaDoor.Char
namespace Go.Proofs.YtbemijbgbjcoeaaDoor.Fig
open Go.Proofs.YtbemijbgbjcoeaaDoor.Char Go.RowKit

theorem val_drop (l : List Nat) (j : Nat) (h : j < l.length) : val (l.drop (j + 1)) * 10 + l.getD j 0 = val (l.drop j) := by
  have hg : l.getD j 0 = l[j] := by simp [List.getD, List.getElem?_eq_getElem h]
  rw [List.drop_eq_getElem_cons h, hg, val]
  omega
theorem val_drop_le : ∀ (l : List Nat) (j : Nat), val (l.drop j) ≤ val l
  | [], j => by simp
  | d :: l, 0 => Nat.le_refl _
  | d :: l, j + 1 => by
    have h := val_drop_le l j
    show val (l.drop j) ≤ d + 10 * val l
    omega

set_option maxRecDepth 100000 in
set_option maxHeartbeats 4000000 in
theorem madeL_any (below : Bool) (v : Value) (l : List Nat) (n : Nat) (w : World) (hv : Holds w v l) (hd : ∀ d ∈ l, d < 10) (hn : val l = n) (hl : l.length ≤ 1000) :
    Calls Tryd.prog 66 #[.bool below, v] w fun e w' => e = .returned (decV (sizedD n below)) ∧ Below w.heap.size w w' := by
  obtain ⟨W1, hW1⟩ : ∃ W1, W1 = w.alloc (Obj.cells #[Value.int IntKind.i64 0, Value.int IntKind.i64 0] 25) := ⟨_, rfl⟩
  have hb1 : Below w.heap.size w W1 := by rw [hW1]; exact (Below.refl _ _).alloc (Nat.le_refl _) _
  have hsz : W1.heap.size = w.heap.size + 1 := by rw [hW1]; simp
  have aft : ∀ w1, Below W1.heap.size W1 w1 → w1.cell? ⟨w.heap.size, 0, none⟩ = some (.int .i64 0) ∧ w1.cell? ⟨w.heap.size, 1, none⟩ = some (.int .i64 0) ∧ w1.frozen? ⟨w.heap.size, 0, none⟩ = false ∧ w1.frozen? ⟨w.heap.size, 1, none⟩ = false ∧ w.heap.size < w1.heap.size ∧ Below w.heap.size w w1 := fun w1 h => by
    rw [hW1] at h
    exact kept_new w _ _ 25 w1 h
  have hv1 := hv.below hb1
  have CD := Lib.hid (digits_any 9223372036854775807 W1 (by omega))
  have hmax : (dg 9223372036854775807).length ≤ 1000 := Nat.le_trans (dg_len_le _ 19 (by decide)) (by omega)
  have CL := Lib.hid (fun W va (ha : Holds W va (dg 9223372036854775807)) (hb : Holds W v l) => leastL_any va v (dg 9223372036854775807) l 9223372036854775807 n W ha hb (dg_lt _) hd (val_dg _) hn hmax hl)
  have hvn := hv1
  obtain ⟨A, cap, rfl, hcap, _, hA⟩ := hvn
  have HV1 := Lib.hid hv1
  have HA := Lib.hid hA
  have AFT := Lib.hid aft
  have HW1 := Lib.hid hW1
  have HSZ := Lib.hid hsz
  have HB1 := Lib.hid hb1
  have HD := Lib.hid hd
  have HN := Lib.hid hn
  clear hv hW1 hb1 hsz aft hv1 hA hmax hd hn
  by_cases hg : 9223372036854775807 < n
  · rw [decide_eq_true hg] at CL
    have hX : sizedD n below = if below then .under else .over := by
      cases below
      · show fitD (n : Int) = .over
        unfold fitD
        rw [if_pos (by omega)]
      · show fitD (-(n : Int)) = .under
        unfold fitD
        rw [if_neg (by omega), if_pos (by omega)]
    rw [hX]
    clear hX hg
    go_enter Tryd.func66, Tryd.ntmps66
    go_wp2_with fail
    rw [← HW1.out]
    refine CD.out.mono ?_
    rintro e w2 ⟨va, rfl, ha, _, hb2⟩
    have HHA := Lib.hid ha
    clear ha
    go_wp2_with fail
    refine (CL.out _ _ HHA.out (HV1.out.below hb2)).mono ?_
    rintro e w3 ⟨rfl, hb3⟩
    obtain ⟨k0, k1, f0, f1, hs3, hbb⟩ := AFT.out _ (hb2.trans (hb3.mono hb2.size))
    clear hb2 hb3 HHA
    cases below
    all_goals
      go_wp2_with fail
      exact end_dec rfl w3 w.heap.size _ _ k0 k1 rfl rfl ⟨rfl, (hbb.setCell (Nat.le_refl _) _).setCell (Nat.le_refl _) _⟩
  · rw [decide_eq_false hg] at CL
    have hX : sizedD n below = .num (if below then -(n : Int) else (n : Int)) := by
      cases below
      · exact fitD_in _ ⟨by omega, by omega⟩
      · show fitD (-(n : Int)) = _
        exact fitD_in _ ⟨by omega, by omega⟩
    rw [hX]
    have hnb : n ≤ 9223372036854775807 := by omega
    clear hX hg
    go_enter Tryd.func66, Tryd.ntmps66
    go_wp2_with fail
    rw [← HW1.out]
    refine CD.out.mono ?_
    rintro e w2 ⟨va, rfl, ha, _, hb2⟩
    have HHA := Lib.hid ha
    clear ha
    go_wp2_with fail
    refine (CL.out _ _ HHA.out (HV1.out.below hb2)).mono ?_
    rintro e w3 ⟨rfl, hb3⟩
    have hbw := hb2.trans (hb3.mono hb2.size)
    obtain ⟨k0, k1, f0, f1, hs3, hbb⟩ := AFT.out _ hbw
    have HBW := Lib.hid hbw
    clear hb2 hb3 HHA hbw
    go_wp2_with fail
    go_loop [5, 6] (fun s i => ∃ k : Nat, k ≤ l.length ∧ i = .int .i64 ((k : Int) - 1) ∧ s = .int .i64 ((val (l.drop k) : Nat) : Int)) (fun _ i => (intOf i + 1).toNat)
    case atStart => exact ⟨l.length, Nat.le_refl _, rfl, by rw [List.drop_eq_nil_of_le (Nat.le_refl _)]; rfl⟩
    case round =>
      obtain ⟨k, hk, rfl, rfl⟩ := hrel
      by_cases h0 : 0 < k
      · obtain ⟨j, rfl⟩ : ∃ j, k = j + 1 := ⟨k - 1, by omega⟩
        have ej : ((↑(j + 1) : Int) - 1) = (j : Int) := by omega
        rw [ej]
        obtain ⟨g, rfl, hg, hc⟩ := HA.out j (by omega)
        have hcell := (HBW.out.cell (p := ⟨g, j, none⟩) hg).trans hc
        have hst := val_drop l j (by omega)
        have hle := val_drop_le l j
        rw [HN.out] at hle
        have hd := getD_lt l HD.out j
        generalize val (l.drop (j + 1)) = q at *
        generalize l.getD j 0 = d at *
        generalize hp : val (l.drop j) = p at *
        have HP := Lib.hid hp
        have hqb : q ≤ 922337203685477580 := by omega
        have hpi : (q : Int) * 10 + (d : Int) = (p : Int) := by omega
        have hsum : (q : Int) * 10 + (d : Int) ≤ 9223372036854775807 := by omega
        clear hc hst hp ej h0
        go_wp2_with fail
        go_round
        case rel => exact ⟨j, by omega, rfl, by rw [HP.out, ← hpi]⟩
        case measure => simp [intOf]
      · obtain rfl : k = 0 := by omega
        rw [List.drop_zero, HN.out]
        have wn : IntKind.i64.wrap (-(n : Int)) = -(n : Int) := IntWalk.i64_in _ (by omega)
        clear h0
        cases below
        all_goals
          go_wp2_with fail
          exact end_dec rfl w3 w.heap.size _ _ k0 k1 rfl rfl ⟨rfl, (hbb.setCell (Nat.le_refl _) _).setCell (Nat.le_refl _) _⟩
end Go.Proofs.YtbemijbgbjcoeaaDoor.Fig
