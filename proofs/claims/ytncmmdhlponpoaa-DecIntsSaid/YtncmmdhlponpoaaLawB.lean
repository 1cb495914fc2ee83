/- The walks of the laws DecProducts, DecCompares. -/
import Derived.Test.YtncmmdhlponpoaaLaws
namespace Go.Proofs.Ytncmmdhlponpoaa.Char
open Go.RowKit

set_option maxRecDepth 100000 in
set_option maxHeartbeats 8000000 in
theorem products_law (t1 v1 t2 v2 : Int) (w : World) (h1 : -9223372036854775808 ≤ v1 ∧ v1 ≤ 9223372036854775807) (h2 : -9223372036854775808 ≤ v2 ∧ v2 ≤ 9223372036854775807) :
    Calls Try.prog 4 #[aggV t1 v1, aggV t2 v2] w fun e w' => e = .returned (.bool true) ∧ Below w.heap.size w w' := by
  have C1 := fun W => Lib.hid (mul_any t1 v1 t2 v2 W h1 h2)
  have C2 := fun W => Lib.hid (refMul_any t1 v1 t2 v2 W h1 h2)
  have C3 := fun W => Lib.hid (div_any t1 v1 t2 v2 W h1 h2)
  have C4 := fun W => Lib.hid (refDiv_any t1 v1 t2 v2 W h1 h2)
  have C5 := fun W => Lib.hid (mod_any t1 v1 t2 v2 W h2)
  have C6 := fun W => Lib.hid (refMod_any t1 v1 t2 v2 W h1 h2)
  have C7 := fun W => Lib.hid (works_any W)
  generalize mulD (toD t1 v1) (toD t2 v2) = X1 at *
  generalize divD (toD t1 v1) (toD t2 v2) = X2 at *
  generalize modD (toD t1 v1) (toD t2 v2) = X3 at *
  unfold decV at C1 C2 C3 C4 C5 C6
  unfold aggV at C1 C2 C3 C4 C5 C6 ⊢
  obtain ⟨W0, hW0⟩ : ∃ W0, W0 = (w.alloc (Obj.cells #[Value.int IntKind.i64 t1, Value.int IntKind.i64 v1] 23)).alloc (Obj.cells #[Value.int IntKind.i64 t2, Value.int IntKind.i64 v2] 23) := ⟨_, rfl⟩
  have hsz : W0.heap.size = w.heap.size + 1 + 1 := by rw [hW0]; simp
  have a0 : W0.cell? ⟨w.heap.size, 0, none⟩ = some (.int .i64 t1) := by rw [hW0]; go_simp
  have a1 : W0.cell? ⟨w.heap.size, 1, none⟩ = some (.int .i64 v1) := by rw [hW0]; go_simp
  have b0 : W0.cell? ⟨w.heap.size + 1, 0, none⟩ = some (.int .i64 t2) := by rw [hW0]; go_simp
  have b1 : W0.cell? ⟨w.heap.size + 1, 1, none⟩ = some (.int .i64 v2) := by rw [hW0]; go_simp
  have hbw : Below w.heap.size w W0 := by rw [hW0]; exact ((Below.refl _ _).alloc (Nat.le_refl _) _).alloc (by simp) _
  have A0 : ∀ q : KeptT W0, q.at.cell? ⟨w.heap.size, 0, none⟩ = some (.int .i64 t1) := fun q => q.cell a0 (by omega)
  have A1 : ∀ q : KeptT W0, q.at.cell? ⟨w.heap.size, 1, none⟩ = some (.int .i64 v1) := fun q => q.cell a1 (by omega)
  have B0 : ∀ q : KeptT W0, q.at.cell? ⟨w.heap.size + 1, 0, none⟩ = some (.int .i64 t2) := fun q => q.cell b0 (by omega)
  have B1 : ∀ q : KeptT W0, q.at.cell? ⟨w.heap.size + 1, 1, none⟩ = some (.int .i64 v2) := fun q => q.cell b1 (by omega)
  have OK : Hid (∀ q : KeptT W0, Below w.heap.size w q.at) := Lib.hid (fun q => hbw.trans (q.ok.mono hbw.size))
  have HW0 := Lib.hid hW0
  clear hW0 hsz a0 a1 b0 b1 hbw h1 h2
  haveI : Nonempty (KeptT W0) := ⟨⟨W0, Below.refl _ _⟩⟩
  go_enter Try.func4, Try.ntmps4
  go_wp2_with fail
  rw [← HW0.out]
  refine wp_region_kept (KeptT W0) KeptT.at (by kernel_rfl) (by kernel_rfl) ⟨⟨W0.drew, (Below.refl _ _).drew⟩, rfl⟩ ?_
  repeat (go_big_quiet_step (first
    | (go_at_call 20; rename_i q; with_reducible exact (C1 q.at).out.mono (fun e w' h => ⟨h.1, q.on h.2⟩))
    | (go_at_call 21; rename_i q; with_reducible exact (C2 q.at).out.mono (fun e w' h => ⟨h.1, q.on h.2⟩))
    | (go_at_call 22; rename_i q; with_reducible exact (C3 q.at).out.mono (fun e w' h => ⟨h.1, q.on h.2⟩))
    | (go_at_call 23; rename_i q; with_reducible exact (C4 q.at).out.mono (fun e w' h => ⟨h.1, q.on h.2⟩))
    | (go_at_call 24; rename_i q; with_reducible exact (C5 q.at).out.mono (fun e w' h => ⟨h.1, q.on h.2⟩))
    | (go_at_call 25; rename_i q; with_reducible exact (C6 q.at).out.mono (fun e w' h => ⟨h.1, q.on h.2⟩))
    | (go_at_call 19; rename_i q; with_reducible exact (C7 q.at).out.mono (fun e w' h => ⟨h.1, q.on h.2⟩))))
  refine wpQuiet_nil ?_
  rintro w' ⟨q, rfl⟩
  go_wp2_with fail
  go_ret
  exact ⟨rfl, OK.out q⟩

set_option maxRecDepth 100000 in
set_option maxHeartbeats 4000000 in
theorem compares_law (t1 v1 t2 v2 : Int) (w : World) :
    Calls Try.prog 5 #[aggV t1 v1, aggV t2 v2] w fun e w' => e = .returned (.bool true) ∧ Below w.heap.size w w' := by
  have C1 := fun W => Lib.hid (cmp_any t1 v1 t2 v2 W)
  have C2 := fun W => Lib.hid (refCmp_any t1 v1 t2 v2 W)
  generalize (cmpD (toD t1 v1) (toD t2 v2)).1 = c at *
  generalize (cmpD (toD t1 v1) (toD t2 v2)).2 = b at *
  unfold aggV at C1 C2 ⊢
  go_enter Try.func5, Try.ntmps5
  go_wp2_with fail
  refine (C1 _).out.mono ?_
  rintro e w1 ⟨rfl, h1⟩
  obtain ⟨a0, a1, b0, b1, _, _, hs1, hb1⟩ := kept_two w _ _ _ _ 23 23 w1 h1
  go_wp2_with fail
  refine (C2 _).out.mono ?_
  rintro e w2 ⟨rfl, h2⟩
  have hb2 := hb1.trans (h2.mono hb1.size)
  go_wp2_with fail
  refine (works_any _).mono ?_
  rintro e w3 ⟨rfl, h3⟩
  go_wp2_with fail
  go_ret
  exact ⟨rfl, hb2.trans (h3.mono hb2.size)⟩
end Go.Proofs.Ytncmmdhlponpoaa.Char
