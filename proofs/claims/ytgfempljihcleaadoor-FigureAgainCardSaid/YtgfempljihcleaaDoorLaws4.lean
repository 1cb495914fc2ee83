/- The walks of 'a number is shown, and read', of the laws FigureShows, FigureReads. -/
import Derived.Test.YtgfempljihcleaaDoorRefRead
import Derived.Test.YtgfempljihcleaaDoorRefShow
import Derived.Test.YtgfempljihcleaaDoorShow
import Derived.Test.YtgfempljihcleaaDoorKept
namespace Go.Proofs.YtgfempljihcleaaDoor.Char
open Go.RowKit Go.Lib

theorem w_show : showB (toD 0 2500000) = [50, 46, 53] := by rfl
theorem w_read : readD [32, 45, 49, 46, 53, 48, 32] = .num (-1500000) := by rfl

set_option maxRecDepth 100000 in
set_option maxHeartbeats 2000000 in
theorem works_any (w : World) (hT : Tabs w) : Calls Tryd.prog 10 #[] w fun e w' => e = .returned (.bool true) ∧ Below w.heap.size w w' := by
  have CS := fun W => show_any 0 2500000 W (by omega)
  have CR := fun W (hW : Tabs W) => read_any [32, 45, 49, 46, 53, 48, 32] W (by simp) hW
  rw [w_show] at CS
  rw [w_read] at CR
  have C1 : ∀ W, Hid (Calls Tryd.prog 8 #[.agg #[.int .i64 0, .int .i64 2500000]] W fun e w' => e = .returned (.string ⟨#[50, 46, 53]⟩) ∧ Below W.heap.size W w') := fun W => Lib.hid (CS W)
  have C2 : ∀ W, Tabs W → Hid (Calls Tryd.prog 13 #[.string ⟨#[32, 45, 49, 46, 53, 48, 32]⟩] W fun e w' => e = .returned (.agg #[.int .i64 0, .int .i64 (-1500000)]) ∧ Below W.heap.size W w') := fun W hW => Lib.hid (CR W hW)
  have HT := Lib.hid hT
  clear CS CR hT
  go_enter Tryd.func10, Tryd.ntmps10
  go_wp2_with fail
  refine (C1 _).out.mono ?_
  rintro e w1 ⟨rfl, h1⟩
  go_wp2_with fail
  refine (C2 _ (HT.out.below h1)).out.mono ?_
  rintro e w2 ⟨rfl, h2⟩
  go_wp2_with fail
  go_ret
  exact ⟨rfl, h1.trans (h2.mono h1.size)⟩

set_option maxRecDepth 100000 in
set_option maxHeartbeats 8000000 in
theorem shows_law (t v : Int) (w : World) (h : -9223372036854775808 ≤ v ∧ v ≤ 9223372036854775807) (hT : Tabs w) :
    Calls Tryd.prog 3 #[aggV t v] w fun e w' => e = .returned (.bool true) ∧ Below w.heap.size w w' := by
  have C1 := fun W => Lib.hid (show_any t v W h)
  have C2 := fun W => Lib.hid (refShow_any t v W h)
  have C3 := fun W hW => Lib.hid (works_any W hW)
  generalize bs (showB (toD t v)) = B at *
  unfold aggV at C1 C2 ⊢
  obtain ⟨W0, hW0⟩ : ∃ W0, W0 = w.alloc (Obj.cells #[Value.int IntKind.i64 t, Value.int IntKind.i64 v] 23) := ⟨_, rfl⟩
  have hsz : W0.heap.size = w.heap.size + 1 := by rw [hW0]; simp
  have a0 : W0.cell? ⟨w.heap.size, 0, none⟩ = some (.int .i64 t) := by rw [hW0]; go_simp
  have a1 : W0.cell? ⟨w.heap.size, 1, none⟩ = some (.int .i64 v) := by rw [hW0]; go_simp
  have hbw : Below w.heap.size w W0 := by rw [hW0]; exact (Below.refl _ _).alloc (Nat.le_refl _) _
  have A0 : ∀ q : KeptT W0, q.at.cell? ⟨w.heap.size, 0, none⟩ = some (.int .i64 t) := fun q => q.cell a0 (by omega)
  have A1 : ∀ q : KeptT W0, q.at.cell? ⟨w.heap.size, 1, none⟩ = some (.int .i64 v) := fun q => q.cell a1 (by omega)
  have OK : Hid (∀ q : KeptT W0, Below w.heap.size w q.at) := Lib.hid (fun q => hbw.trans (q.ok.mono hbw.size))
  have HW0 := Lib.hid hW0
  have HT := Lib.hid hT
  clear hW0 hsz a0 a1 hbw h hT
  haveI : Nonempty (KeptT W0) := ⟨⟨W0, Below.refl _ _⟩⟩
  go_enter Tryd.func3, Tryd.ntmps3
  go_wp2_with fail
  rw [← HW0.out]
  refine wp_region_kept (KeptT W0) KeptT.at (by kernel_rfl) (by kernel_rfl) ⟨⟨W0.drew, (Below.refl _ _).drew⟩, rfl⟩ ?_
  repeat (go_big_quiet_step (first
    | (go_at_call 8; rename_i q; with_reducible exact (C1 q.at).out.mono (fun e w' h => ⟨h.1, q.on h.2⟩))
    | (go_at_call 9; rename_i q; with_reducible exact (C2 q.at).out.mono (fun e w' h => ⟨h.1, q.on h.2⟩))
    | (go_at_call 10; rename_i q; with_reducible exact (C3 q.at (HT.out.below (OK.out q))).out.mono (fun e w' h => ⟨h.1, q.on h.2⟩))))
  refine wpQuiet_nil ?_
  rintro w' ⟨q, rfl⟩
  go_wp2_with fail
  go_ret
  exact ⟨rfl, OK.out q⟩
end Go.Proofs.YtgfempljihcleaaDoor.Char
