/- The walks of the laws DecSums, DecProducts, DecCompares; of 'a product, and a quotient'. -/
import Derived.Test.YtncmmdhlponpoaaRefRound
import Derived.Test.YtncmmdhlponpoaaRefCmp
namespace Go.Proofs.Ytncmmdhlponpoaa.Char
open Go.RowKit

theorem w_mul : mulD (toD 0 1500000) (toD 0 1500000) = .num 2250000 := by rfl
theorem w_div : divD (toD 0 1000000) (toD 0 3000000) = .num 333333 := by rfl

set_option maxRecDepth 100000 in
set_option maxHeartbeats 2000000 in
theorem works_any (w : World) : Calls Try.prog 19 #[] w fun e w' => e = .returned (.bool true) ∧ Below w.heap.size w w' := by
  have CM := fun W => mul_any 0 1500000 0 1500000 W (by omega) (by omega)
  have CD := fun W => div_any 0 1000000 0 3000000 W (by omega) (by omega)
  rw [w_mul] at CM
  rw [w_div] at CD
  have C1 := fun W => Lib.hid (CM W)
  have C2 := fun W => Lib.hid (CD W)
  unfold aggV decV outT outV at C1 C2
  clear CM CD
  go_enter Try.func19, Try.ntmps19
  go_wp2_with fail
  refine (C1 _).out.mono ?_
  rintro e w1 ⟨rfl, h1⟩
  go_wp2_with fail
  refine (C2 _).out.mono ?_
  rintro e w2 ⟨rfl, h2⟩
  go_wp2_with fail
  go_ret
  exact ⟨rfl, h1.trans (h2.mono h1.size)⟩

theorem ret_true {b : Bool} (h : b = true) : Ending.returned (.bool b) = .returned (.bool true) := by rw [h]

set_option maxRecDepth 100000 in
set_option maxHeartbeats 8000000 in
theorem sums_law (t1 v1 t2 v2 : Int) (w : World) (h1 : -9223372036854775808 ≤ v1 ∧ v1 ≤ 9223372036854775807) (h2 : -9223372036854775808 ≤ v2 ∧ v2 ≤ 9223372036854775807) :
    Calls Try.prog 3 #[aggV t1 v1, aggV t2 v2] w fun e w' => e = .returned (.bool true) ∧ Below w.heap.size w w' := by
  have hok := negD_ok _ (toD_ok t2 v2 h2)
  have C1 := fun W => Lib.hid (add_any t1 v1 t2 v2 W h1 h2)
  have C2 := fun W => Lib.hid (refAdd_any t1 v1 t2 v2 W h1 h2)
  have C3 := fun W => Lib.hid (sub_any t1 v1 t2 v2 W h1 h2)
  have C4 := fun W => Lib.hid (refNeg_any t2 v2 W h2)
  have C5' := fun W => refAdd_any t1 v1 (outT (negD (toD t2 v2))) (outV (negD (toD t2 v2))) W h1 (okD_bounds hok)
  rw [toD_out _ hok] at C5'
  have C5 := fun W => Lib.hid (C5' W)
  have C6 := fun W => Lib.hid (neg_any t1 v1 W h1)
  have C7 := fun W => Lib.hid (refNeg_any t1 v1 W h1)
  have C8 := fun W => Lib.hid (right_any t1 v1 W)
  have C9 := fun W => Lib.hid (refRight_any t1 v1 W)
  have C10 := fun W => Lib.hid (works_any W)
  generalize addD (toD t1 v1) (negD (toD t2 v2)) = X3 at *
  generalize addD (toD t1 v1) (toD t2 v2) = X1 at *
  generalize negD (toD t2 v2) = X2 at *
  generalize negD (toD t1 v1) = X4 at *
  generalize rightB t1 v1 = R at *
  unfold decV at C1 C2 C3 C4 C5 C6 C7
  unfold aggV at C1 C2 C3 C4 C5 C6 C7 C8 C9 ⊢
  obtain ⟨W0, hW0⟩ : ∃ W0, W0 = (w.alloc (Obj.cells #[Value.int IntKind.i64 t1, Value.int IntKind.i64 v1] 23)).alloc (Obj.cells #[Value.int IntKind.i64 t2, Value.int IntKind.i64 v2] 23) := ⟨_, rfl⟩
  have hsz : W0.heap.size = w.heap.size + 1 + 1 := by rw [hW0]; simp
  have a0 : W0.cell? ⟨w.heap.size, 0, none⟩ = some (.int .i64 t1) := by rw [hW0]; go_simp
  have a1 : W0.cell? ⟨w.heap.size, 1, none⟩ = some (.int .i64 v1) := by rw [hW0]; go_simp
  have b0 : W0.cell? ⟨w.heap.size + 1, 0, none⟩ = some (.int .i64 t2) := by rw [hW0]; go_simp
  have b1 : W0.cell? ⟨w.heap.size + 1, 1, none⟩ = some (.int .i64 v2) := by rw [hW0]; go_simp
  have hbw : Below w.heap.size w W0 := by rw [hW0]; exact ((Below.refl _ _).alloc (Nat.le_refl _) _).alloc (by simp) _
  have A0 : ∀ q : KeptT W0, q.at.cell? ⟨w.heap.size, 0, none⟩ = some (.int .i64 t1) := fun q => q.cell a0 (by omega)
  have A1 : ∀ q : KeptT W0, q.at.cell? ⟨w.heap.size, 1, none⟩ = some (.int .i64 v1) := fun q => q.cell a1 (by omega)
  have B0 : ∀ q : KeptT W0, q.at.cell? ⟨w.heap.size + 1, 0, none⟩ = some (.int .i64 t2) := fun q => q.cell b0 (by omega)
  have B1 : ∀ q : KeptT W0, q.at.cell? ⟨w.heap.size + 1, 1, none⟩ = some (.int .i64 v2) := fun q => q.cell b1 (by omega)
  have OK : Hid (∀ q : KeptT W0, Below w.heap.size w q.at) := Lib.hid (fun q => hbw.trans (q.ok.mono hbw.size))
  have HW0 := Lib.hid hW0
  clear hW0 hsz a0 a1 b0 b1 hbw hok C5' h1 h2
  haveI : Nonempty (KeptT W0) := ⟨⟨W0, Below.refl _ _⟩⟩
  go_enter Try.func3, Try.ntmps3
  go_wp2_with fail
  rw [← HW0.out]
  refine wp_region_kept (KeptT W0) KeptT.at (by kernel_rfl) (by kernel_rfl) ⟨⟨W0.drew, (Below.refl _ _).drew⟩, rfl⟩ ?_
  repeat (go_big_quiet_step (first
    | (go_at_call 12; rename_i q; with_reducible exact (C1 q.at).out.mono (fun e w' h => ⟨h.1, q.on h.2⟩))
    | (go_at_call 13; rename_i q; with_reducible exact (C2 q.at).out.mono (fun e w' h => ⟨h.1, q.on h.2⟩))
    | (go_at_call 14; rename_i q; with_reducible exact (C3 q.at).out.mono (fun e w' h => ⟨h.1, q.on h.2⟩))
    | (go_at_call 15; rename_i q; with_reducible exact (C4 q.at).out.mono (fun e w' h => ⟨h.1, q.on h.2⟩))
    | (go_at_call 13; rename_i q; with_reducible exact (C5 q.at).out.mono (fun e w' h => ⟨h.1, q.on h.2⟩))
    | (go_at_call 16; rename_i q; with_reducible exact (C6 q.at).out.mono (fun e w' h => ⟨h.1, q.on h.2⟩))
    | (go_at_call 15; rename_i q; with_reducible exact (C7 q.at).out.mono (fun e w' h => ⟨h.1, q.on h.2⟩))
    | (go_at_call 17; rename_i q; with_reducible exact (C8 q.at).out.mono (fun e w' h => ⟨h.1, q.on h.2⟩))
    | (go_at_call 18; rename_i q; with_reducible exact (C9 q.at).out.mono (fun e w' h => ⟨h.1, q.on h.2⟩))
    | (go_at_call 19; rename_i q; with_reducible exact (C10 q.at).out.mono (fun e w' h => ⟨h.1, q.on h.2⟩))))
  refine wpQuiet_nil ?_
  rintro w' ⟨q, rfl⟩
  go_wp2_with fail
  go_ret
  exact ⟨rfl, OK.out q⟩
end Go.Proofs.Ytncmmdhlponpoaa.Char
