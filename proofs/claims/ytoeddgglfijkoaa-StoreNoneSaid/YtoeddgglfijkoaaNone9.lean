/- What a store tells that New did not make. -/
import Derived.Test.YtoeddgglfijkoaaMade9
import Derived.Test.YtoeddgglfijkoaaRefNew
import Derived.Test.YtoeddgglfijkoaaRecBox
import Derived.Test.YtoeddgglfijkoaaSweep9
namespace Go.Proofs.Ytoeddgglfijkoaa.Char
open Go.RowKit Go.Lib

/-- New did not make it -/
def NoM (w : World) (p : Value) : Prop := ∀ w', Below w.heap.size w w' → Calls Try.prog 31 #[p] w' fun e w'' => e = .returned (.bool false) ∧ w'' = w'
theorem NoM.none (w : World) : NoM w (.pointer none) := fun w' _ => made_none w'
theorem NoM.zero {w : World} {b : Nat} (h : w.cell? ⟨b, 0, Option.none⟩ = some (.pointer Option.none)) : NoM w (.pointer (some ⟨b, 0, Option.none⟩)) := fun w' hb =>
  made_zero b w' ((hb.cell (p := ⟨b, 0, Option.none⟩) (cell_lt (a := ⟨b, 0, Option.none⟩) h)).trans h)
theorem NoM.below {w w' : World} {p : Value} (h : NoM w p) (hb : Below w.heap.size w w') : NoM w' p := fun w2 h2 => h w2 (hb.trans (h2.mono hb.size))
set_option maxRecDepth 100000 in
set_option maxHeartbeats 2000000 in
theorem none_fresh {w : World} {p : Value} (h : NoM w p)  :
    Calls Try.prog 27 #[p] w fun e w' => e = .returned (.int .i64 0) ∧ Below w.heap.size w w' := by
  have H := Lib.hid h
  clear h
  go_enter Try.func27, Try.ntmps27
  go_wp2_with (first
    | (go_at_call 31
       refine (H.out _ (Below.refl _ _)).mono ?_
       rintro e w1 ⟨rfl, rfl⟩))
  go_ret
  exact ⟨rfl, Below.refl _ _⟩
set_option maxRecDepth 100000 in
set_option maxHeartbeats 2000000 in
theorem none_last {w : World} {p : Value} (h : NoM w p)  :
    Calls Try.prog 11 #[p] w fun e w' => e = .returned (.int .u64 0) ∧ Below w.heap.size w w' := by
  have H := Lib.hid h
  clear h
  go_enter Try.func11, Try.ntmps11
  go_wp2_with (first
    | (go_at_call 31
       refine (H.out _ (Below.refl _ _)).mono ?_
       rintro e w1 ⟨rfl, rfl⟩))
  go_ret
  exact ⟨rfl, Below.refl _ _⟩
set_option maxRecDepth 100000 in
set_option maxHeartbeats 2000000 in
theorem none_at {w : World} {p : Value} (h : NoM w p) (id : Int) (t : Nat) :
    Calls Try.prog 19 #[p, .int .i64 id, .int .u64 (t : Int)] w fun e w' => e = .returned (.tuple #[rcV rcV0, .bool false]) ∧ Below w.heap.size w w' := by
  obtain ⟨W1, hW1⟩ : ∃ W1, W1 = w.alloc (rcB rcV0) := ⟨_, rfl⟩
  have hb1 : Below w.heap.size w W1 := by rw [hW1]; exact (Below.refl _ _).alloc (Nat.le_refl _) _
  have hM := h W1 hb1
  have hk1 : W1.heap[w.heap.size]? = some (rcB rcV0) := by rw [hW1]; exact World.alloc_heap_new w _
  obtain ⟨⟨d0, d1, d2, d3, d4, d5, d6⟩, df⟩ := rc_blk hk1
  have f0 := df 0
  have f1 := df 1
  have f2 := df 2
  have f3 := df 3
  have f4 := df 4
  have f5 := df 5
  have f6 := df 6
  dsimp only [rcV0, rc0] at d0 d1 d2 d3 d4 d5 d6
  have HW1 := Lib.hid hW1
  have HB1 := Lib.hid hb1
  have HK1 := Lib.hid hk1
  unfold rcB rcV0 rc0 at HW1
  dsimp only at HW1
  clear h hb1 hW1 hk1 df
  go_enter Try.func19, Try.ntmps19
  go_wp2_with (first
    | (go_at_call 31; rw [show (⟨#[]⟩ : ByteArray) = bs [] from rfl, ← HW1.out]; refine hM.mono ?_; rintro e w' ⟨rfl, hw'⟩; rw [hw']; clear hw'))
  refine end_rc2 Try.results19 _ w.heap.size (x := rcV0) (c := .bool false) (set7_at (x := rcV0) HK1.out) ⟨_, _, _, _, _, _, rfl, rfl⟩ rfl rfl rfl ?_
  exact ⟨rfl, set7_below (x := rcV0) HB1.out (Nat.le_refl _)⟩
set_option maxRecDepth 100000 in
set_option maxHeartbeats 2000000 in
theorem none_inst {w : World} {p : Value} (h : NoM w p) (t : Nat) (o : Option Addr) (i j : Nat) :
    Calls Try.prog 23 #[p, .int .u64 (t : Int), .slice o i j] w fun e w' => e = .returned (.int .i64 1) ∧ Below w.heap.size w w' := by
  have H := Lib.hid h
  clear h
  go_enter Try.func23, Try.ntmps23
  go_wp2_with (first
    | (go_at_call 31
       refine (H.out _ (Below.refl _ _)).mono ?_
       rintro e w1 ⟨rfl, rfl⟩))
  go_ret
  exact ⟨rfl, Below.refl _ _⟩
set_option maxRecDepth 100000 in
set_option maxHeartbeats 1000000 in
theorem none_sweep {w : World} {q : Option Addr} (h : NoM w (.pointer q)) (t : Nat) :
    Calls Try.prog 20 #[.pointer q, .int .u64 (t : Int)] w fun e w' => e = .returned (.int .i64 0) ∧ Below w.heap.size w w' := by
  obtain ⟨W1, hW1⟩ : ∃ W1, W1 = (w.alloc (.cells #[.pointer q] 23)).alloc (.cells #[.int .u64 (t : Int)] 28) := ⟨_, rfl⟩
  have hb1 : Below w.heap.size w W1 := by rw [hW1]; exact ((Below.refl _ _).alloc (Nat.le_refl _) _).alloc (by simp) _
  have hc : W1.cell? ⟨w.heap.size, 0, none⟩ = some (.pointer q) := by rw [hW1]; go_simp
  have HM := Lib.hid ((callsIn_wide (n := 19)).2 (h W1 hb1))
  have HB := Lib.hid hb1
  have HW := Lib.hid hW1
  clear h hb1 hW1
  refine (callsIn_wide (n := 20)).1 ?_
  refine callsIn_of_wp_marks Try.func20 rfl trivial ?_ rfl
  simp only [Try.ntmps20, List.size_toArray, List.length_cons, List.length_nil, Nat.reduceAdd, Nat.reduceSub, Array.replicate_succ, Array.replicate_zero, List.push_toArray, List.append_toArray, List.nil_append, List.cons_append]
  gi_wp2_with (first
    | (refine ⟨trivial, ?_⟩; gi_at_call 31; rw [← HW.out]; refine HM.out.mono ?_; rintro e w1 ⟨rfl, hw1⟩; rw [hw1]; clear hw1))
  refine ⟨_, results_tmp rfl _ _ _, rfl, ?_⟩
  exact HB.out
set_option maxRecDepth 100000 in
set_option maxHeartbeats 2000000 in
theorem none_vers {w : World} {p : Value} (h : NoM w p) (id : Int) :
    Calls Try.prog 22 #[p, .int .i64 id] w fun e w' => e = .returned (.slice none 0 0) ∧ Below w.heap.size w w' := by
  have H := Lib.hid h
  clear h
  go_enter Try.func22, Try.ntmps22
  go_wp2_with (first
    | (go_at_call 31
       refine (H.out _ (Below.refl _ _)).mono ?_
       rintro e w1 ⟨rfl, rfl⟩))
  go_ret
  exact ⟨rfl, Below.refl _ _⟩
set_option maxRecDepth 100000 in
set_option maxHeartbeats 2000000 in
theorem none_count {w : World} {p : Value} (h : NoM w p)  :
    Calls Try.prog 12 #[p] w fun e w' => e = .returned (.int .i64 0) ∧ Below w.heap.size w w' := by
  have H := Lib.hid h
  clear h
  go_enter Try.func12, Try.ntmps12
  go_wp2_with (first
    | (go_at_call 31
       refine (H.out _ (Below.refl _ _)).mono ?_
       rintro e w1 ⟨rfl, rfl⟩))
  go_ret
  exact ⟨rfl, Below.refl _ _⟩
set_option maxRecDepth 100000 in
set_option maxHeartbeats 2000000 in
theorem none_ids {w : World} {p : Value} (h : NoM w p)  :
    Calls Try.prog 14 #[p] w fun e w' => e = .returned (.slice none 0 0) ∧ Below w.heap.size w w' := by
  have H := Lib.hid h
  clear h
  go_enter Try.func14, Try.ntmps14
  go_wp2_with (first
    | (go_at_call 31
       refine (H.out _ (Below.refl _ _)).mono ?_
       rintro e w1 ⟨rfl, rfl⟩))
  go_ret
  exact ⟨rfl, Below.refl _ _⟩
end Go.Proofs.Ytoeddgglfijkoaa.Char
