/- The walk of figure's Show. -/
import Derived.Test.YtgoicjeegfflpaaDoorShown
import Derived.Test.YtgoicjeegfflpaaDoorRight
namespace Go.Proofs.YtgoicjeegfflpaaDoor.Char
open Go.RowKit Go.Lib

set_option maxRecDepth 100000 in
set_option maxHeartbeats 4000000 in
theorem show_any (t v : Int) (w : World) (h : -9223372036854775808 ≤ v ∧ v ≤ 9223372036854775807) :
    Calls Tryd.prog 16 #[aggV t v] w fun e w' => e = .returned (.string (bs (showB (toD t v)))) ∧ Below w.heap.size w w' := by
  have CR := fun W => right_any t v W
  obtain ⟨W1, hW1⟩ : ∃ W1, W1 = w.alloc (Obj.cells #[Value.int IntKind.i64 t, Value.int IntKind.i64 v] 23) := ⟨_, rfl⟩
  have aft : ∀ w1, Below W1.heap.size W1 w1 → w1.cell? ⟨w.heap.size, 0, none⟩ = some (.int .i64 t) ∧ w1.cell? ⟨w.heap.size, 1, none⟩ = some (.int .i64 v) ∧ w1.frozen? ⟨w.heap.size, 0, none⟩ = false ∧ w1.frozen? ⟨w.heap.size, 1, none⟩ = false ∧ w.heap.size < w1.heap.size ∧ Below w.heap.size w w1 := fun w1 h => by
    rw [hW1] at h
    exact kept_new w _ _ 23 w1 h
  have AFT := Lib.hid aft
  have HW1 := Lib.hid hW1
  clear hW1 aft
  rcases toD_cases t v with ⟨rfl, h2, e, er⟩ | ⟨rfl, rfl, e, er⟩ | ⟨rfl, rfl, e, er⟩ | ⟨rfl, rfl, e, er⟩ | ⟨_, _, _, _, e, er⟩
  · rw [er] at CR
    rw [e]
    have C1 := fun W => Lib.hid (CR W)
    have CS := fun W => Lib.hid (shown_any v W (by omega))
    obtain ⟨X, hX⟩ : ∃ X, showN v = X := ⟨_, rfl⟩
    have hX2 : showB (.num v) = X := hX
    rw [hX2]
    rw [hX] at CS
    unfold aggV at C1 ⊢
    clear CR e er h h2 hX hX2
    go_enter Tryd.func16, Tryd.ntmps16
    go_wp2_with fail
    rw [← HW1.out]
    refine (C1 _).out.mono ?_
    rintro e w1 ⟨rfl, h1⟩
    obtain ⟨a0, a1, _, _, hs2, hbb⟩ := AFT.out _ h1
    clear h1
    go_wp2_with fail
    refine (CS _).out.mono ?_
    rintro e w2 ⟨rfl, h2⟩
    go_wp2_with fail
    go_ret
    exact ⟨rfl, hbb.trans (h2.mono hbb.size)⟩
  all_goals
    rw [er] at CR
    rw [e]
    have C1 := fun W => Lib.hid (CR W)
    unfold aggV at C1 ⊢
    clear CR e er h
    go_enter Tryd.func16, Tryd.ntmps16
    go_wp2_with fail
    rw [← HW1.out]
    refine (C1 _).out.mono ?_
    rintro e w1 ⟨rfl, h1⟩
    obtain ⟨a0, a1, _, _, hs2, hbb⟩ := AFT.out _ h1
    clear h1
    go_wp2_with fail
    go_ret
    exact ⟨rfl, hbb⟩
end Go.Proofs.YtgoicjeegfflpaaDoor.Char
