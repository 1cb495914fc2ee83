/- The walks of package value's ToStr of a text, ToNum and ToBool of what is no nodes (written by gen_tovc.py). -/
import Derived.Test.YteooaibbblfmjaaDoorToldC
import Derived.Test.YteooaibbblfmjaaDoorRight
namespace Go.Proofs.YteooaibbblfmjaaDoor.Char
open Go.RowKit Go.Lib

set_option maxRecDepth 100000 in
set_option maxHeartbeats 4000000 in
theorem toStr_str (p : Value) (o : Option Addr) (n j : Nat) (b : Bool) (g v : Int) (s : ByteArray) (w : World) : Calls Tryd.prog 25 #[p, .agg #[.int .i64 4, .slice o n j, .bool b, .int .i64 g, .int .i64 v, .string s]] w fun e w' => e = .returned (.string s) ∧ Below w.heap.size w w' := by
  have as0 := fun W => as_text_nodes s W
  have as1 := fun W => as_text_truth s W
  have as2 := fun W => as_text_number s W
  have as3 := fun W => as_text_text s W
  go_enter Tryd.func25, Tryd.ntmps25
  go_wp2_with (first
      | (go_at_call 22
         refine (told_str o n j b g v s _).mono ?_
         rintro e w1 ⟨rfl, hb⟩
         have hk := blk_call (o := boxVa 4 o n j b g v s) (w := w.alloc (boxVa 4 o n j b g v s)) (p := w.heap.size) (heap_alloc_new w (boxVa 4 o n j b g v s)) hb
         obtain ⟨⟨c0, c1, c2, c3, c4, c5⟩, cf⟩ := boxVa_blk hk
         have HB1 := Lib.hid ((below_box w (boxVa 4 o n j b g v s)).trans (hb.mono (by simp)))
         clear hb hk))
  go_ret
  exact ⟨rfl, HB1.out⟩
set_option maxRecDepth 100000 in
set_option maxHeartbeats 4000000 in
theorem toNum_true (p : Value) (o : Option Addr) (n j : Nat) (g v : Int) (s : ByteArray) (w : World) : Calls Tryd.prog 12 #[p, .agg #[.int .i64 2, .slice o n j, .bool true, .int .i64 g, .int .i64 v, .string s]] w fun e w' => e = .returned (.agg #[.int .i64 0, .int .i64 1000000]) ∧ Below w.heap.size w w' := by
  have HI := Lib.hid fun W => int_any 1 W (by omega)
  rw [show intD 1 = .num 1000000 from by rfl] at HI
  unfold decV outT outV at HI
  have as0 := fun W => as_truth_nodes true W
  have as1 := fun W => as_truth_truth true W
  have as2 := fun W => as_truth_number true W
  have as3 := fun W => as_truth_text true W
  go_enter Tryd.func12, Tryd.ntmps12
  go_wp2_with (first
      | (go_at_call 22
         refine (told_bool o n j true g v s _).mono ?_
         rintro e w1 ⟨rfl, hb⟩
         have hk := blk_call (o := boxVa 2 o n j true g v s) (w := (w.alloc (boxVa 2 o n j true g v s)).alloc (.cells #[.int .i64 0, .int .i64 0] 24)) (p := w.heap.size) ((Below.heap_alloc _ _ _ (by simp)).trans (heap_alloc_new w (boxVa 2 o n j true g v s))) hb
         obtain ⟨⟨c0, c1, c2, c3, c4, c5⟩, cf⟩ := boxVa_blk hk
         have hk2 : w1.heap[w.heap.size + 1]? = some (.cells #[.int .i64 0, .int .i64 0] 24 (0, 0)) := blk_call (w := (w.alloc (boxVa 2 o n j true g v s)).alloc (.cells #[.int .i64 0, .int .i64 0] 24)) (p := w.heap.size + 1) (by have := heap_alloc_new (w.alloc (boxVa 2 o n j true g v s)) (.cells #[.int .i64 0, .int .i64 0] 24); rw [World.size_alloc] at this; exact this) hb
         have HB1 := Lib.hid (((below_box w (boxVa 2 o n j true g v s)).alloc (by simp) (.cells #[.int .i64 0, .int .i64 0] 24)).trans (hb.mono (by simp; omega)))
         have HK1 := Lib.hid hk2
         clear hk2
         clear hb hk)
      | (go_at_call 23
         refine (HI.out _).mono ?_
         rintro e w2 ⟨rfl, hb⟩
         have hz := blk_call HK1.out hb
         have k0 : w2.cell? ⟨w.heap.size + 1, 0, none⟩ = some (.int .i64 0) := by simp [World.cell?, hz]
         have k1 : w2.cell? ⟨w.heap.size + 1, 1, none⟩ = some (.int .i64 0) := by simp [World.cell?, hz]
         have kf : ∀ i, w2.frozen? ⟨w.heap.size + 1, i, none⟩ = false := fun i => by simp [World.frozen?, hz]
         have kl : w.heap.size + 1 < w2.heap.size := (Array.getElem?_eq_some_iff.1 hz).1
         have HB2 := Lib.hid (HB1.out.trans (hb.mono HB1.out.size))
         clear hb hz))
  exact end_dec rfl w2 (w.heap.size + 1) 0 1000000 k0 k1 rfl rfl ⟨rfl, (HB2.out.setCell (p := ⟨w.heap.size + 1, 0, none⟩) (by show w.heap.size ≤ w.heap.size + 1; omega) _).setCell (p := ⟨w.heap.size + 1, 1, none⟩) (by show w.heap.size ≤ w.heap.size + 1; omega) _⟩
set_option maxRecDepth 100000 in
set_option maxHeartbeats 4000000 in
theorem toNum_false (p : Value) (o : Option Addr) (n j : Nat) (g v : Int) (s : ByteArray) (w : World) : Calls Tryd.prog 12 #[p, .agg #[.int .i64 2, .slice o n j, .bool false, .int .i64 g, .int .i64 v, .string s]] w fun e w' => e = .returned (.agg #[.int .i64 0, .int .i64 0]) ∧ Below w.heap.size w w' := by
  have HI := Lib.hid fun W => int_any 0 W (by omega)
  rw [show intD 0 = .num 0 from by rfl] at HI
  unfold decV outT outV at HI
  have as0 := fun W => as_truth_nodes false W
  have as1 := fun W => as_truth_truth false W
  have as2 := fun W => as_truth_number false W
  have as3 := fun W => as_truth_text false W
  go_enter Tryd.func12, Tryd.ntmps12
  go_wp2_with (first
      | (go_at_call 22
         refine (told_bool o n j false g v s _).mono ?_
         rintro e w1 ⟨rfl, hb⟩
         have hk := blk_call (o := boxVa 2 o n j false g v s) (w := (w.alloc (boxVa 2 o n j false g v s)).alloc (.cells #[.int .i64 0, .int .i64 0] 24)) (p := w.heap.size) ((Below.heap_alloc _ _ _ (by simp)).trans (heap_alloc_new w (boxVa 2 o n j false g v s))) hb
         obtain ⟨⟨c0, c1, c2, c3, c4, c5⟩, cf⟩ := boxVa_blk hk
         have hk2 : w1.heap[w.heap.size + 1]? = some (.cells #[.int .i64 0, .int .i64 0] 24 (0, 0)) := blk_call (w := (w.alloc (boxVa 2 o n j false g v s)).alloc (.cells #[.int .i64 0, .int .i64 0] 24)) (p := w.heap.size + 1) (by have := heap_alloc_new (w.alloc (boxVa 2 o n j false g v s)) (.cells #[.int .i64 0, .int .i64 0] 24); rw [World.size_alloc] at this; exact this) hb
         have HB1 := Lib.hid (((below_box w (boxVa 2 o n j false g v s)).alloc (by simp) (.cells #[.int .i64 0, .int .i64 0] 24)).trans (hb.mono (by simp; omega)))
         have HK1 := Lib.hid hk2
         clear hk2
         clear hb hk)
      | (go_at_call 23
         refine (HI.out _).mono ?_
         rintro e w2 ⟨rfl, hb⟩
         have hz := blk_call HK1.out hb
         have k0 : w2.cell? ⟨w.heap.size + 1, 0, none⟩ = some (.int .i64 0) := by simp [World.cell?, hz]
         have k1 : w2.cell? ⟨w.heap.size + 1, 1, none⟩ = some (.int .i64 0) := by simp [World.cell?, hz]
         have kf : ∀ i, w2.frozen? ⟨w.heap.size + 1, i, none⟩ = false := fun i => by simp [World.frozen?, hz]
         have kl : w.heap.size + 1 < w2.heap.size := (Array.getElem?_eq_some_iff.1 hz).1
         have HB2 := Lib.hid (HB1.out.trans (hb.mono HB1.out.size))
         clear hb hz))
  exact end_dec rfl w2 (w.heap.size + 1) 0 0 k0 k1 rfl rfl ⟨rfl, (HB2.out.setCell (p := ⟨w.heap.size + 1, 0, none⟩) (by show w.heap.size ≤ w.heap.size + 1; omega) _).setCell (p := ⟨w.heap.size + 1, 1, none⟩) (by show w.heap.size ≤ w.heap.size + 1; omega) _⟩
theorem toNum_bool (p : Value) (o : Option Addr) (n j : Nat) (b : Bool) (g v : Int) (s : ByteArray) (w : World) : Calls Tryd.prog 12 #[p, .agg #[.int .i64 2, .slice o n j, .bool b, .int .i64 g, .int .i64 v, .string s]] w fun e w' => e = .returned (.agg #[.int .i64 0, .int .i64 (if b then 1000000 else 0)]) ∧ Below w.heap.size w w' := by
  cases b
  · exact toNum_false p o n j g v s w
  · exact toNum_true p o n j g v s w
set_option maxRecDepth 100000 in
set_option maxHeartbeats 4000000 in
theorem toNum_numt (p : Value) (o : Option Addr) (n j : Nat) (b : Bool) (g v : Int) (s : ByteArray) (w : World) (hr : rightB g v = true) : Calls Tryd.prog 12 #[p, .agg #[.int .i64 3, .slice o n j, .bool b, .int .i64 g, .int .i64 v, .string s]] w fun e w' => e = .returned (.agg #[.int .i64 g, .int .i64 v]) ∧ Below w.heap.size w w' := by
  have HR := Lib.hid fun W => right_any g v W
  rw [hr] at HR
  unfold aggV at HR
  clear hr
  have as0 := fun W => as_number_nodes g v W
  have as1 := fun W => as_number_truth g v W
  have as2 := fun W => as_number_number g v W
  have as3 := fun W => as_number_text g v W
  go_enter Tryd.func12, Tryd.ntmps12
  go_wp2_with (first
      | (go_at_call 22
         refine (told_num o n j b g v s _).mono ?_
         rintro e w1 ⟨rfl, hb⟩
         have hk := blk_call (o := boxVa 3 o n j b g v s) (w := (w.alloc (boxVa 3 o n j b g v s)).alloc (.cells #[.int .i64 0, .int .i64 0] 24)) (p := w.heap.size) ((Below.heap_alloc _ _ _ (by simp)).trans (heap_alloc_new w (boxVa 3 o n j b g v s))) hb
         obtain ⟨⟨c0, c1, c2, c3, c4, c5⟩, cf⟩ := boxVa_blk hk
         have hk2 : w1.heap[w.heap.size + 1]? = some (.cells #[.int .i64 0, .int .i64 0] 24 (0, 0)) := blk_call (w := (w.alloc (boxVa 3 o n j b g v s)).alloc (.cells #[.int .i64 0, .int .i64 0] 24)) (p := w.heap.size + 1) (by have := heap_alloc_new (w.alloc (boxVa 3 o n j b g v s)) (.cells #[.int .i64 0, .int .i64 0] 24); rw [World.size_alloc] at this; exact this) hb
         have HB1 := Lib.hid (((below_box w (boxVa 3 o n j b g v s)).alloc (by simp) (.cells #[.int .i64 0, .int .i64 0] 24)).trans (hb.mono (by simp; omega)))
         have HK1 := Lib.hid hk2
         clear hk2
         clear hb hk)
      | (go_at_call 8
         refine (HR.out _).mono ?_
         rintro e w2 ⟨rfl, hb⟩
         have hd := blk_call (w := (w1.alloc (.cells #[.int .i64 g, .int .i64 v] 53)).alloc (.cells #[.int .i64 g, .int .i64 v] 24)) (p := w1.heap.size + 1) (by have := heap_alloc_new (w1.alloc (.cells #[.int .i64 g, .int .i64 v] 53)) (.cells #[.int .i64 g, .int .i64 v] 24); rw [World.size_alloc] at this; exact this) hb
         have d0 : w2.cell? ⟨w1.heap.size + 1, 0, none⟩ = some (.int .i64 g) := by simp [World.cell?, hd]
         have d1 : w2.cell? ⟨w1.heap.size + 1, 1, none⟩ = some (.int .i64 v) := by simp [World.cell?, hd]
         have hz := blk_call (blk_call HK1.out (((Below.refl _ w1).alloc (Nat.le_refl _) (.cells #[.int .i64 g, .int .i64 v] 53)).alloc (by simp) (.cells #[.int .i64 g, .int .i64 v] 24))) hb
         have k0 : w2.cell? ⟨w.heap.size + 1, 0, none⟩ = some (.int .i64 0) := by simp [World.cell?, hz]
         have k1 : w2.cell? ⟨w.heap.size + 1, 1, none⟩ = some (.int .i64 0) := by simp [World.cell?, hz]
         have kf : ∀ i, w2.frozen? ⟨w.heap.size + 1, i, none⟩ = false := fun i => by simp [World.frozen?, hz]
         have kl : w.heap.size + 1 < w2.heap.size := (Array.getElem?_eq_some_iff.1 hz).1
         have HB2 := Lib.hid (((HB1.out.alloc HB1.out.size (.cells #[.int .i64 g, .int .i64 v] 53)).alloc (Nat.le_trans HB1.out.size (by simp)) (.cells #[.int .i64 g, .int .i64 v] 24)).trans (hb.mono (Nat.le_trans HB1.out.size (by simp; omega))))
         clear hb hz hd))
  exact end_dec rfl w2 (w.heap.size + 1) g v k0 k1 rfl rfl ⟨rfl, (HB2.out.setCell (p := ⟨w.heap.size + 1, 0, none⟩) (by show w.heap.size ≤ w.heap.size + 1; omega) _).setCell (p := ⟨w.heap.size + 1, 1, none⟩) (by show w.heap.size ≤ w.heap.size + 1; omega) _⟩
set_option maxRecDepth 100000 in
set_option maxHeartbeats 4000000 in
theorem toNum_numf (p : Value) (o : Option Addr) (n j : Nat) (b : Bool) (g v : Int) (s : ByteArray) (w : World) (hr : rightB g v = false) : Calls Tryd.prog 12 #[p, .agg #[.int .i64 3, .slice o n j, .bool b, .int .i64 g, .int .i64 v, .string s]] w fun e w' => e = .returned (.agg #[.int .i64 1, .int .i64 0]) ∧ Below w.heap.size w w' := by
  have HR := Lib.hid fun W => right_any g v W
  rw [hr] at HR
  unfold aggV at HR
  clear hr
  have as0 := fun W => as_number_nodes g v W
  have as1 := fun W => as_number_truth g v W
  have as2 := fun W => as_number_number g v W
  have as3 := fun W => as_number_text g v W
  go_enter Tryd.func12, Tryd.ntmps12
  go_wp2_with (first
      | (go_at_call 22
         refine (told_num o n j b g v s _).mono ?_
         rintro e w1 ⟨rfl, hb⟩
         have hk := blk_call (o := boxVa 3 o n j b g v s) (w := (w.alloc (boxVa 3 o n j b g v s)).alloc (.cells #[.int .i64 0, .int .i64 0] 24)) (p := w.heap.size) ((Below.heap_alloc _ _ _ (by simp)).trans (heap_alloc_new w (boxVa 3 o n j b g v s))) hb
         obtain ⟨⟨c0, c1, c2, c3, c4, c5⟩, cf⟩ := boxVa_blk hk
         have hk2 : w1.heap[w.heap.size + 1]? = some (.cells #[.int .i64 0, .int .i64 0] 24 (0, 0)) := blk_call (w := (w.alloc (boxVa 3 o n j b g v s)).alloc (.cells #[.int .i64 0, .int .i64 0] 24)) (p := w.heap.size + 1) (by have := heap_alloc_new (w.alloc (boxVa 3 o n j b g v s)) (.cells #[.int .i64 0, .int .i64 0] 24); rw [World.size_alloc] at this; exact this) hb
         have HB1 := Lib.hid (((below_box w (boxVa 3 o n j b g v s)).alloc (by simp) (.cells #[.int .i64 0, .int .i64 0] 24)).trans (hb.mono (by simp; omega)))
         have HK1 := Lib.hid hk2
         clear hk2
         clear hb hk)
      | (go_at_call 8
         refine (HR.out _).mono ?_
         rintro e w2 ⟨rfl, hb⟩
         have hd := blk_call (w := (w1.alloc (.cells #[.int .i64 g, .int .i64 v] 53)).alloc (.cells #[.int .i64 g, .int .i64 v] 24)) (p := w1.heap.size + 1) (by have := heap_alloc_new (w1.alloc (.cells #[.int .i64 g, .int .i64 v] 53)) (.cells #[.int .i64 g, .int .i64 v] 24); rw [World.size_alloc] at this; exact this) hb
         have d0 : w2.cell? ⟨w1.heap.size + 1, 0, none⟩ = some (.int .i64 g) := by simp [World.cell?, hd]
         have d1 : w2.cell? ⟨w1.heap.size + 1, 1, none⟩ = some (.int .i64 v) := by simp [World.cell?, hd]
         have hz := blk_call (blk_call HK1.out (((Below.refl _ w1).alloc (Nat.le_refl _) (.cells #[.int .i64 g, .int .i64 v] 53)).alloc (by simp) (.cells #[.int .i64 g, .int .i64 v] 24))) hb
         have k0 : w2.cell? ⟨w.heap.size + 1, 0, none⟩ = some (.int .i64 0) := by simp [World.cell?, hz]
         have k1 : w2.cell? ⟨w.heap.size + 1, 1, none⟩ = some (.int .i64 0) := by simp [World.cell?, hz]
         have kf : ∀ i, w2.frozen? ⟨w.heap.size + 1, i, none⟩ = false := fun i => by simp [World.frozen?, hz]
         have kl : w.heap.size + 1 < w2.heap.size := (Array.getElem?_eq_some_iff.1 hz).1
         have HB2 := Lib.hid (((HB1.out.alloc HB1.out.size (.cells #[.int .i64 g, .int .i64 v] 53)).alloc (Nat.le_trans HB1.out.size (by simp)) (.cells #[.int .i64 g, .int .i64 v] 24)).trans (hb.mono (Nat.le_trans HB1.out.size (by simp; omega))))
         clear hb hz hd))
  exact end_dec rfl w2 (w.heap.size + 1) 1 0 k0 k1 rfl rfl ⟨rfl, (HB2.out.setCell (p := ⟨w.heap.size + 1, 0, none⟩) (by show w.heap.size ≤ w.heap.size + 1; omega) _).setCell (p := ⟨w.heap.size + 1, 1, none⟩) (by show w.heap.size ≤ w.heap.size + 1; omega) _⟩
set_option maxRecDepth 100000 in
set_option maxHeartbeats 4000000 in
theorem toNum_str (o : Option Addr) (n j : Nat) (b : Bool) (g v : Int) (l : List UInt8) (w : World) (p : Value) (hl : l.length ≤ 500) (hT : Tabs w) : Calls Tryd.prog 12 #[p, .agg #[.int .i64 4, .slice o n j, .bool b, .int .i64 g, .int .i64 v, .string (bs l)]] w fun e w' => e = .returned (decV (readD l)) ∧ Below w.heap.size w w' := by
  have HR := Lib.hid fun W (hW : Below w.heap.size w W) => read_any l W hl (hT.below hW)
  generalize readD l = X at *
  unfold decV at HR ⊢
  obtain ⟨s, hs⟩ : ∃ s, bs l = s := ⟨_, rfl⟩
  rw [hs] at HR ⊢
  clear hl hT hs
  have as0 := fun W => as_text_nodes s W
  have as1 := fun W => as_text_truth s W
  have as2 := fun W => as_text_number s W
  have as3 := fun W => as_text_text s W
  go_enter Tryd.func12, Tryd.ntmps12
  go_wp2_with (first
      | (go_at_call 22
         refine (told_str o n j b g v s _).mono ?_
         rintro e w1 ⟨rfl, hb⟩
         have hk := blk_call (o := boxVa 4 o n j b g v s) (w := (w.alloc (boxVa 4 o n j b g v s)).alloc (.cells #[.int .i64 0, .int .i64 0] 24)) (p := w.heap.size) ((Below.heap_alloc _ _ _ (by simp)).trans (heap_alloc_new w (boxVa 4 o n j b g v s))) hb
         obtain ⟨⟨c0, c1, c2, c3, c4, c5⟩, cf⟩ := boxVa_blk hk
         have hk2 : w1.heap[w.heap.size + 1]? = some (.cells #[.int .i64 0, .int .i64 0] 24 (0, 0)) := blk_call (w := (w.alloc (boxVa 4 o n j b g v s)).alloc (.cells #[.int .i64 0, .int .i64 0] 24)) (p := w.heap.size + 1) (by have := heap_alloc_new (w.alloc (boxVa 4 o n j b g v s)) (.cells #[.int .i64 0, .int .i64 0] 24); rw [World.size_alloc] at this; exact this) hb
         have HB1 := Lib.hid (((below_box w (boxVa 4 o n j b g v s)).alloc (by simp) (.cells #[.int .i64 0, .int .i64 0] 24)).trans (hb.mono (by simp; omega)))
         have HK1 := Lib.hid hk2
         clear hk2
         clear hb hk)
      | (go_at_call 25
         refine (toStr_str _ o n j b g v s _).mono ?_
         rintro e w2 ⟨rfl, hb⟩
         have hz2 := blk_call HK1.out hb
         have HB12 := Lib.hid (HB1.out.trans (hb.mono HB1.out.size))
         have HK12 := Lib.hid hz2
         clear hb hz2)
      | (go_at_call 24
         refine (HR.out _ HB12.out).mono ?_
         rintro e w3 ⟨rfl, hb⟩
         have hz := blk_call HK12.out hb
         have k0 : w3.cell? ⟨w.heap.size + 1, 0, none⟩ = some (.int .i64 0) := by simp [World.cell?, hz]
         have k1 : w3.cell? ⟨w.heap.size + 1, 1, none⟩ = some (.int .i64 0) := by simp [World.cell?, hz]
         have kf : ∀ i, w3.frozen? ⟨w.heap.size + 1, i, none⟩ = false := fun i => by simp [World.frozen?, hz]
         have kl : w.heap.size + 1 < w3.heap.size := (Array.getElem?_eq_some_iff.1 hz).1
         have HB2 := Lib.hid (HB12.out.trans (hb.mono HB12.out.size))
         clear hb hz))
  exact end_dec rfl w3 (w.heap.size + 1) (outT X) (outV X) k0 k1 rfl rfl ⟨rfl, (HB2.out.setCell (p := ⟨w.heap.size + 1, 0, none⟩) (by show w.heap.size ≤ w.heap.size + 1; omega) _).setCell (p := ⟨w.heap.size + 1, 1, none⟩) (by show w.heap.size ≤ w.heap.size + 1; omega) _⟩
set_option maxRecDepth 100000 in
set_option maxHeartbeats 4000000 in
theorem toBool_bool (o : Option Addr) (n j : Nat) (b : Bool) (g v : Int) (s : ByteArray) (w : World) : Calls Tryd.prog 27 #[.agg #[.int .i64 2, .slice o n j, .bool b, .int .i64 g, .int .i64 v, .string s]] w fun e w' => e = .returned (.bool b) ∧ Below w.heap.size w w' := by
  have as0 := fun W => as_truth_nodes b W
  have as1 := fun W => as_truth_truth b W
  have as2 := fun W => as_truth_number b W
  have as3 := fun W => as_truth_text b W
  go_enter Tryd.func27, Tryd.ntmps27
  go_wp2_with (first
      | (go_at_call 22
         refine (told_bool o n j b g v s _).mono ?_
         rintro e w1 ⟨rfl, hb⟩
         have hk := blk_call (o := boxVa 2 o n j b g v s) (w := w.alloc (boxVa 2 o n j b g v s)) (p := w.heap.size) (heap_alloc_new w (boxVa 2 o n j b g v s)) hb
         obtain ⟨⟨c0, c1, c2, c3, c4, c5⟩, cf⟩ := boxVa_blk hk
         have HB1 := Lib.hid ((below_box w (boxVa 2 o n j b g v s)).trans (hb.mono (by simp)))
         clear hb hk))
  go_ret
  exact ⟨rfl, HB1.out⟩
set_option maxRecDepth 100000 in
set_option maxHeartbeats 4000000 in
theorem toBool_strt (o : Option Addr) (n j : Nat) (b : Bool) (g v : Int) (s : ByteArray) (w : World) (he : (s.toList == []) = true) : Calls Tryd.prog 27 #[.agg #[.int .i64 4, .slice o n j, .bool b, .int .i64 g, .int .i64 v, .string s]] w fun e w' => e = .returned (.bool false) ∧ Below w.heap.size w w' := by
  have hn : (s.toList != []) = false := by rw [bne, he]; rfl
  have as0 := fun W => as_text_nodes s W
  have as1 := fun W => as_text_truth s W
  have as2 := fun W => as_text_number s W
  have as3 := fun W => as_text_text s W
  go_enter Tryd.func27, Tryd.ntmps27
  go_wp2_with (first
      | (go_at_call 22
         refine (told_str o n j b g v s _).mono ?_
         rintro e w1 ⟨rfl, hb⟩
         have hk := blk_call (o := boxVa 4 o n j b g v s) (w := w.alloc (boxVa 4 o n j b g v s)) (p := w.heap.size) (heap_alloc_new w (boxVa 4 o n j b g v s)) hb
         obtain ⟨⟨c0, c1, c2, c3, c4, c5⟩, cf⟩ := boxVa_blk hk
         have HB1 := Lib.hid ((below_box w (boxVa 4 o n j b g v s)).trans (hb.mono (by simp)))
         clear hb hk))
  go_ret
  exact ⟨rfl, HB1.out⟩
set_option maxRecDepth 100000 in
set_option maxHeartbeats 4000000 in
theorem toBool_strf (o : Option Addr) (n j : Nat) (b : Bool) (g v : Int) (s : ByteArray) (w : World) (he : (s.toList == []) = false) : Calls Tryd.prog 27 #[.agg #[.int .i64 4, .slice o n j, .bool b, .int .i64 g, .int .i64 v, .string s]] w fun e w' => e = .returned (.bool true) ∧ Below w.heap.size w w' := by
  have hn : (s.toList != []) = true := by rw [bne, he]; rfl
  have as0 := fun W => as_text_nodes s W
  have as1 := fun W => as_text_truth s W
  have as2 := fun W => as_text_number s W
  have as3 := fun W => as_text_text s W
  go_enter Tryd.func27, Tryd.ntmps27
  go_wp2_with (first
      | (go_at_call 22
         refine (told_str o n j b g v s _).mono ?_
         rintro e w1 ⟨rfl, hb⟩
         have hk := blk_call (o := boxVa 4 o n j b g v s) (w := w.alloc (boxVa 4 o n j b g v s)) (p := w.heap.size) (heap_alloc_new w (boxVa 4 o n j b g v s)) hb
         obtain ⟨⟨c0, c1, c2, c3, c4, c5⟩, cf⟩ := boxVa_blk hk
         have HB1 := Lib.hid ((below_box w (boxVa 4 o n j b g v s)).trans (hb.mono (by simp)))
         clear hb hk))
  go_ret
  exact ⟨rfl, HB1.out⟩
theorem toBool_str (o : Option Addr) (n j : Nat) (b : Bool) (g v : Int) (s : ByteArray) (w : World) : Calls Tryd.prog 27 #[.agg #[.int .i64 4, .slice o n j, .bool b, .int .i64 g, .int .i64 v, .string s]] w fun e w' => e = .returned (.bool (!(s.toList == []))) ∧ Below w.heap.size w w' := by
  cases h : (s.toList == [])
  · exact toBool_strf o n j b g v s w h
  · exact toBool_strt o n j b g v s w h
set_option maxRecDepth 100000 in
set_option maxHeartbeats 4000000 in
theorem toBool_num (o : Option Addr) (n j : Nat) (b : Bool) (g v : Int) (s : ByteArray) (w : World) : Calls Tryd.prog 27 #[.agg #[.int .i64 3, .slice o n j, .bool b, .int .i64 g, .int .i64 v, .string s]] w fun e w' => e = .returned (.bool ((cmpD (toD g v) (.num 0)).2 && (cmpD (toD g v) (.num 0)).1 != 0)) ∧ Below w.heap.size w w' := by
  have HI := Lib.hid fun W => int_any 0 W (by omega)
  rw [show intD 0 = .num 0 from by rfl] at HI
  unfold decV outT outV at HI
  have HC := Lib.hid fun W => cmp_any g v 0 0 W
  rw [show toD 0 0 = .num 0 from by rfl] at HC
  unfold aggV at HC
  obtain ⟨C, hC⟩ : ∃ C, C = cmpD (toD g v) (.num 0) := ⟨_, rfl⟩
  rw [← hC] at HC ⊢
  obtain ⟨c, q⟩ := C
  clear hC
  simp only at HC ⊢
  have as0 := fun W => as_number_nodes g v W
  have as1 := fun W => as_number_truth g v W
  have as2 := fun W => as_number_number g v W
  have as3 := fun W => as_number_text g v W
  go_enter Tryd.func27, Tryd.ntmps27
  go_wp2_with (first
      | (go_at_call 22
         refine (told_num o n j b g v s _).mono ?_
         rintro e w1 ⟨rfl, hb⟩
         have hk := blk_call (o := boxVa 3 o n j b g v s) (w := w.alloc (boxVa 3 o n j b g v s)) (p := w.heap.size) (heap_alloc_new w (boxVa 3 o n j b g v s)) hb
         obtain ⟨⟨c0, c1, c2, c3, c4, c5⟩, cf⟩ := boxVa_blk hk
         have HB1 := Lib.hid ((below_box w (boxVa 3 o n j b g v s)).trans (hb.mono (by simp)))
         clear hb hk))
  obtain ⟨W0, hW0⟩ : ∃ W0, W0 = w1.alloc (.cells #[.int .i64 g, .int .i64 v] 53) := ⟨_, rfl⟩
  have hk0 : W0.heap[w1.heap.size]? = some (.cells #[.int .i64 g, .int .i64 v] 53 (0, 0)) := by rw [hW0]; exact heap_alloc_new w1 _
  have hl0 : w1.heap.size < W0.heap.size := (Array.getElem?_eq_some_iff.1 hk0).1
  have a0 : W0.cell? ⟨w1.heap.size, 0, none⟩ = some (.int .i64 g) := by simp [World.cell?, hk0]
  have a1 : W0.cell? ⟨w1.heap.size, 1, none⟩ = some (.int .i64 v) := by simp [World.cell?, hk0]
  have A0 : ∀ q : KeptT W0, q.at.cell? ⟨w1.heap.size, 0, none⟩ = some (.int .i64 g) := fun q => q.cell a0 hl0
  have A1 : ∀ q : KeptT W0, q.at.cell? ⟨w1.heap.size, 1, none⟩ = some (.int .i64 v) := fun q => q.cell a1 hl0
  have hbw : Below w.heap.size w W0 := by rw [hW0]; exact HB1.out.alloc HB1.out.size _
  have OK : Hid (∀ q : KeptT W0, Below w.heap.size w q.at) := Lib.hid (fun q => hbw.trans (q.ok.mono hbw.size))
  have HW0 := Lib.hid hW0
  clear hW0 hk0 hl0 a0 a1 hbw
  haveI : Nonempty (KeptT W0) := ⟨⟨W0, Below.refl _ _⟩⟩
  rw [← HW0.out]
  refine wp_region_kept (KeptT W0) KeptT.at (by kernel_rfl) (by kernel_rfl) ⟨⟨W0.drew, (Below.refl _ _).drew⟩, rfl⟩ ?_
  repeat (go_big_quiet_step (first
    | (go_at_call 23; rename_i q; with_reducible exact (HI.out q.at).mono (fun e w' h => ⟨h.1, q.on h.2⟩))
    | (go_at_call 21; rename_i q; with_reducible exact (HC.out q.at).mono (fun e w' h => ⟨h.1, q.on h.2⟩))))
  refine wpQuiet_nil ?_
  rintro w' ⟨q2, rfl⟩
  have hbq := OK.out q2
  generalize q2.at = W1 at *
  clear A0 A1 OK HW0 HC HI
  cases q with
  | false =>
    go_wp2_with fail
    go_ret
    exact ⟨rfl, hbq⟩
  | true =>
    go_wp2_with fail
    go_ret
    exact ⟨rfl, hbq⟩
end Go.Proofs.YteooaibbblfmjaaDoor.Char
