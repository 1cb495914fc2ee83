/- The walks of package dec's Add, Mul, Div, Mod. -/
import Derived.Test.YtncmmdhlponpoaaReckon
import Derived.Test.YtncmmdhlponpoaaFates3
import Derived.Deep.WholeRow
import Derived.Great.BuildSlice
import Derived.Laws.Rows
namespace Go.Proofs.Ytncmmdhlponpoaa.Char
open Go.RowKit

theorem srt_idx (x y : Nm) : srt x * 6 + srt y < 36 := by have := srt_le x; have := srt_le y; omega
theorem num_in {t v n : Int} (h : toD t v = .num n) (hv : -9223372036854775808 ≤ v ∧ v ≤ 9223372036854775807) : -9223372036854775807 ≤ v ∧ v ≤ 9223372036854775807 := by
  have := (toD_num h).2.2
  omega

set_option maxRecDepth 100000 in
set_option maxHeartbeats 2000000 in
theorem mul1_any (v u : Int) (w : World) (hv : -9223372036854775808 ≤ v ∧ v ≤ 9223372036854775807) (hu : -9223372036854775808 ≤ u ∧ u ≤ 9223372036854775807) :
    Calls Try.prog 48 #[.int .i64 v, .int .i64 u] w fun e w' => e = .returned (decV (fitD ((v * u).tdiv 1000000))) ∧ Below w.heap.size w w' := by
  have CS := fun W => Lib.hid (scaled_any v u 1000000 W hv hu (by omega) (by omega))
  generalize fitD ((v * u).tdiv 1000000) = X at *
  clear hv hu
  go_enter Try.func48, Try.ntmps48
  go_wp2_with fail
  refine (CS _).out.mono ?_
  rintro e w1 ⟨rfl, h1⟩
  obtain ⟨k0, k1, f0, f1, hs1, hbb⟩ := kept_new w _ _ 23 w1 h1
  unfold decV
  go_wp2_with fail
  exact end_dec rfl w1 w.heap.size _ _ k0 k1 rfl rfl ⟨rfl, (hbb.setCell (Nat.le_refl _) _).setCell (Nat.le_refl _) _⟩

set_option maxRecDepth 100000 in
set_option maxHeartbeats 2000000 in
theorem div1_any (v u : Int) (w : World) (hv : -9223372036854775808 ≤ v ∧ v ≤ 9223372036854775807) (hu : -9223372036854775808 ≤ u ∧ u ≤ 9223372036854775807) (h0 : u ≠ 0) :
    Calls Try.prog 53 #[.int .i64 v, .int .i64 u] w fun e w' => e = .returned (decV (fitD ((v * 1000000).tdiv u))) ∧ Below w.heap.size w w' := by
  have CS := fun W => Lib.hid (scaled_any v 1000000 u W hv (by omega) hu h0)
  generalize fitD ((v * 1000000).tdiv u) = X at *
  clear hv hu h0
  go_enter Try.func53, Try.ntmps53
  go_wp2_with fail
  refine (CS _).out.mono ?_
  rintro e w1 ⟨rfl, h1⟩
  obtain ⟨k0, k1, f0, f1, hs1, hbb⟩ := kept_new w _ _ 23 w1 h1
  unfold decV
  go_wp2_with fail
  exact end_dec rfl w1 w.heap.size _ _ k0 k1 rfl rfl ⟨rfl, (hbb.setCell (Nat.le_refl _) _).setCell (Nat.le_refl _) _⟩

theorem tmod_abs (v u : Int) (h0 : u ≠ 0) : -(u.natAbs : Int) < v.tmod u ∧ v.tmod u < (u.natAbs : Int) := by
  have h1 : (v.tmod u).natAbs < u.natAbs := by rw [Int.natAbs_tmod]; exact Nat.mod_lt _ (by omega)
  omega

set_option maxRecDepth 100000 in
set_option maxHeartbeats 2000000 in
theorem mod1_any (v u : Int) (w : World) (hu : -9223372036854775807 ≤ u ∧ u ≤ 9223372036854775807) (h0 : u ≠ 0) :
    Calls Try.prog 54 #[.int .i64 v, .int .i64 u] w fun e w' => e = .returned (decV (.num (v.tmod u))) ∧ Below w.heap.size w w' := by
  have hb := fun o => (Below.refl w.heap.size w).alloc (Nat.le_refl _) (Obj.cells o 23)
  have h3 := tmod_abs v u h0
  have hw : IntKind.i64.wrap (v.tmod u) = v.tmod u := IntWalk.i64_in _ (by omega)
  have h0b : (u == 0) = false := by rw [beq_eq_false_iff_ne]; exact h0
  clear hu h3
  go_enter Try.func54, Try.ntmps54
  go_wp2_with fail
  exact bodyPost_ret (v := .agg #[.int .i64 0, .int .i64 (v.tmod u)]) (by simp [results, Try.results54, go_sem]) rfl ⟨rfl, by simpa using hb #[.int .i64 0, .int .i64 (v.tmod u)]⟩

def addA : Array Value := cellsT addT

set_option maxRecDepth 100000 in
set_option maxHeartbeats 4000000 in
theorem add_any (t1 v1 t2 v2 : Int) (w : World) (h1 : -9223372036854775808 ≤ v1 ∧ v1 ≤ 9223372036854775807) (h2 : -9223372036854775808 ≤ v2 ∧ v2 ≤ 9223372036854775807) :
    Calls Try.prog 12 #[aggV t1 v1, aggV t2 v2] w fun e w' => e = .returned (decV (addD (toD t1 v1) (toD t2 v2))) ∧ Below w.heap.size w w' := by
  have hf := add_fate t1 v1 (toD t1 v1) (toD t2 v2) v1 v2 (fun n h => (toD_num h).2.1.symm) (fun n h => (toD_num h).2.1.symm)
  have hent : ∀ args w, (callFunc 38 args).run Try.prog w = .ok (.enter 38 args) w := enters_of Try.func38 (by kernel_rfl) rfl
  have CR : ∀ W, Calls Try.prog 37 #[aggV t1 v1, aggV t2 v2, .agg addA, .func (.func 38) #[] #[]] W fun e w' => e = .returned (decV (addD (toD t1 v1) (toD t2 v2))) ∧ Below W.heap.size W w' := fun W => by
    refine reckon_any t1 v1 t2 v2 addA _ _ _ W hent (cellsT_get addT _ (srt_idx _ _)) ?_
    rcases hf with h | h | h | h | h | ⟨h, hX, n, m, hn, hm⟩
    · exact .inl h
    · exact .inr (.inl h)
    · exact .inr (.inr (.inl h))
    · exact .inr (.inr (.inr (.inl h)))
    · exact .inr (.inr (.inr (.inr (.inl h))))
    · refine .inr (.inr (.inr (.inr (.inr ⟨h, fun W => ?_⟩))))
      rw [hX]
      exact sum_any v1 v2 W (num_in hn h1) (num_in hm h2)
  have CRH := fun W => Lib.hid (CR W)
  generalize addD (toD t1 v1) (toD t2 v2) = X at CRH
  clear hf hent CR h1 h2
  unfold aggV at CRH ⊢
  obtain ⟨W3, hW3⟩ : ∃ W3, W3 = ((w.alloc (Obj.cells #[Value.int IntKind.i64 t1, Value.int IntKind.i64 v1] 23)).alloc (Obj.cells #[Value.int IntKind.i64 t2, Value.int IntKind.i64 v2] 23)).alloc
      (Obj.cells #[Value.int IntKind.i64 0, Value.int IntKind.i64 0] 23) := ⟨_, rfl⟩
  have hsz : W3.heap.size = w.heap.size + 1 + 1 + 1 := by rw [hW3]; simp
  have hG : ∀ o, (W3.alloc o).heap[w.heap.size + 1 + 1 + 1]? = some o := fun o => by rw [← hsz]; exact heap_alloc_last _ _
  have hR : ∀ c c', (W3.alloc (.cells c 38)).setRow (w.heap.size + 1 + 1 + 1) c' = W3.alloc (.cells c' 38) := fun c c' => by rw [← hsz, World.setRow_alloc_new]
  rw [hW3] at hG hR
  have HG := Lib.hid hG
  have HR := Lib.hid hR
  have HW3 := Lib.hid hW3
  have HSZ := Lib.hid hsz
  clear hG hR hW3 hsz
  go_enter Try.func12, Try.ntmps12
  go_wp2_with (first
    | ((with_reducible refine wpList_buildTo rfl 38 _ rfl _ rfl addA (by kernel_rfl) ?_))
    | ((with_reducible refine wpList_store_row rfl 38 _ _ rfl (w.heap.size + 1 + 1 + 1) addA rfl rfl 38 _ (HG.out _) (by kernel_rfl) rfl (by kernel_rfl) ?_); rw [HR.out])
    | ((with_reducible refine wpList_load_row rfl 38 _ rfl (w.heap.size + 1 + 1 + 1) rfl 38 addA _ _ (HG.out _) Try.underlying38 rfl (by kernel_rfl) ?_)))
  refine (CRH _).out.mono ?_
  rintro e w1 ⟨rfl, h1⟩
  rw [← HW3.out] at h1
  have hsz4 : w.heap.size + 1 + 1 < (W3.alloc (Obj.cells addA 38)).heap.size := by have := HSZ.out; simp; omega
  have k0 : w1.cell? ⟨w.heap.size + 1 + 1, 0, none⟩ = some (.int .i64 0) := (h1.cell (p := ⟨w.heap.size + 1 + 1, 0, none⟩) hsz4).trans (by rw [HW3.out]; go_simp)
  have k1 : w1.cell? ⟨w.heap.size + 1 + 1, 1, none⟩ = some (.int .i64 0) := (h1.cell (p := ⟨w.heap.size + 1 + 1, 1, none⟩) hsz4).trans (by rw [HW3.out]; go_simp)
  have f0 : w1.frozen? ⟨w.heap.size + 1 + 1, 0, none⟩ = false := (h1.frozen (p := ⟨w.heap.size + 1 + 1, 0, none⟩) hsz4).trans (by rw [HW3.out]; go_simp)
  have f1 : w1.frozen? ⟨w.heap.size + 1 + 1, 1, none⟩ = false := (h1.frozen (p := ⟨w.heap.size + 1 + 1, 1, none⟩) hsz4).trans (by rw [HW3.out]; go_simp)
  have hb3 : Below w.heap.size w W3 := by
    rw [HW3.out]
    exact (((Below.refl _ _).alloc (Nat.le_refl _) _).alloc (by simp) _).alloc (by simp; omega) _
  have hb1 := (hb3.alloc hb3.size (Obj.cells addA 38)).trans (h1.mono (by omega))
  have hs1 : w.heap.size + 1 + 1 < w1.heap.size := by have := h1.size; omega
  clear h1 hsz4
  unfold decV
  go_wp2_with fail
  exact end_dec rfl w1 (w.heap.size + 1 + 1) _ _ k0 k1 rfl rfl ⟨rfl, (hb1.setCell (by show w.heap.size ≤ w.heap.size + 1 + 1; omega) _).setCell (by show w.heap.size ≤ w.heap.size + 1 + 1; omega) _⟩

def mulA : Array Value := cellsT mulT

set_option maxRecDepth 100000 in
set_option maxHeartbeats 4000000 in
theorem mul_any (t1 v1 t2 v2 : Int) (w : World) (h1 : -9223372036854775808 ≤ v1 ∧ v1 ≤ 9223372036854775807) (h2 : -9223372036854775808 ≤ v2 ∧ v2 ≤ 9223372036854775807) :
    Calls Try.prog 20 #[aggV t1 v1, aggV t2 v2] w fun e w' => e = .returned (decV (mulD (toD t1 v1) (toD t2 v2))) ∧ Below w.heap.size w w' := by
  have hf := mul_fate t1 v1 (toD t1 v1) (toD t2 v2) v1 v2 (fun n h => (toD_num h).2.1.symm) (fun n h => (toD_num h).2.1.symm)
  have hent : ∀ args w, (callFunc 48 args).run Try.prog w = .ok (.enter 48 args) w := enters_of Try.func48 (by kernel_rfl) rfl
  have CR : ∀ W, Calls Try.prog 37 #[aggV t1 v1, aggV t2 v2, .agg mulA, .func (.func 48) #[] #[]] W fun e w' => e = .returned (decV (mulD (toD t1 v1) (toD t2 v2))) ∧ Below W.heap.size W w' := fun W => by
    refine reckon_any t1 v1 t2 v2 mulA _ _ _ W hent (cellsT_get mulT _ (srt_idx _ _)) ?_
    rcases hf with h | h | h | h | h | ⟨h, hX, _⟩
    · exact .inl h
    · exact .inr (.inl h)
    · exact .inr (.inr (.inl h))
    · exact .inr (.inr (.inr (.inl h)))
    · exact .inr (.inr (.inr (.inr (.inl h))))
    · refine .inr (.inr (.inr (.inr (.inr ⟨h, fun W => ?_⟩))))
      rw [hX]
      exact mul1_any v1 v2 W h1 h2
  have CRH := fun W => Lib.hid (CR W)
  generalize mulD (toD t1 v1) (toD t2 v2) = X at CRH
  clear hf hent CR h1 h2
  unfold aggV at CRH ⊢
  obtain ⟨W3, hW3⟩ : ∃ W3, W3 = ((w.alloc (Obj.cells #[Value.int IntKind.i64 t1, Value.int IntKind.i64 v1] 23)).alloc (Obj.cells #[Value.int IntKind.i64 t2, Value.int IntKind.i64 v2] 23)).alloc
      (Obj.cells #[Value.int IntKind.i64 0, Value.int IntKind.i64 0] 23) := ⟨_, rfl⟩
  have hsz : W3.heap.size = w.heap.size + 1 + 1 + 1 := by rw [hW3]; simp
  have hG : ∀ o, (W3.alloc o).heap[w.heap.size + 1 + 1 + 1]? = some o := fun o => by rw [← hsz]; exact heap_alloc_last _ _
  have hR : ∀ c c', (W3.alloc (.cells c 38)).setRow (w.heap.size + 1 + 1 + 1) c' = W3.alloc (.cells c' 38) := fun c c' => by rw [← hsz, World.setRow_alloc_new]
  rw [hW3] at hG hR
  have HG := Lib.hid hG
  have HR := Lib.hid hR
  have HW3 := Lib.hid hW3
  have HSZ := Lib.hid hsz
  clear hG hR hW3 hsz
  go_enter Try.func20, Try.ntmps20
  go_wp2_with (first
    | ((with_reducible refine wpList_buildTo rfl 38 _ rfl _ rfl mulA (by kernel_rfl) ?_))
    | ((with_reducible refine wpList_store_row rfl 38 _ _ rfl (w.heap.size + 1 + 1 + 1) mulA rfl rfl 38 _ (HG.out _) (by kernel_rfl) rfl (by kernel_rfl) ?_); rw [HR.out])
    | ((with_reducible refine wpList_load_row rfl 38 _ rfl (w.heap.size + 1 + 1 + 1) rfl 38 mulA _ _ (HG.out _) Try.underlying38 rfl (by kernel_rfl) ?_)))
  refine (CRH _).out.mono ?_
  rintro e w1 ⟨rfl, h1⟩
  rw [← HW3.out] at h1
  have hsz4 : w.heap.size + 1 + 1 < (W3.alloc (Obj.cells mulA 38)).heap.size := by have := HSZ.out; simp; omega
  have k0 : w1.cell? ⟨w.heap.size + 1 + 1, 0, none⟩ = some (.int .i64 0) := (h1.cell (p := ⟨w.heap.size + 1 + 1, 0, none⟩) hsz4).trans (by rw [HW3.out]; go_simp)
  have k1 : w1.cell? ⟨w.heap.size + 1 + 1, 1, none⟩ = some (.int .i64 0) := (h1.cell (p := ⟨w.heap.size + 1 + 1, 1, none⟩) hsz4).trans (by rw [HW3.out]; go_simp)
  have f0 : w1.frozen? ⟨w.heap.size + 1 + 1, 0, none⟩ = false := (h1.frozen (p := ⟨w.heap.size + 1 + 1, 0, none⟩) hsz4).trans (by rw [HW3.out]; go_simp)
  have f1 : w1.frozen? ⟨w.heap.size + 1 + 1, 1, none⟩ = false := (h1.frozen (p := ⟨w.heap.size + 1 + 1, 1, none⟩) hsz4).trans (by rw [HW3.out]; go_simp)
  have hb3 : Below w.heap.size w W3 := by
    rw [HW3.out]
    exact (((Below.refl _ _).alloc (Nat.le_refl _) _).alloc (by simp) _).alloc (by simp; omega) _
  have hb1 := (hb3.alloc hb3.size (Obj.cells mulA 38)).trans (h1.mono (by omega))
  have hs1 : w.heap.size + 1 + 1 < w1.heap.size := by have := h1.size; omega
  clear h1 hsz4
  unfold decV
  go_wp2_with fail
  exact end_dec rfl w1 (w.heap.size + 1 + 1) _ _ k0 k1 rfl rfl ⟨rfl, (hb1.setCell (by show w.heap.size ≤ w.heap.size + 1 + 1; omega) _).setCell (by show w.heap.size ≤ w.heap.size + 1 + 1; omega) _⟩

def divA : Array Value := cellsT divT

set_option maxRecDepth 100000 in
set_option maxHeartbeats 4000000 in
theorem div_any (t1 v1 t2 v2 : Int) (w : World) (h1 : -9223372036854775808 ≤ v1 ∧ v1 ≤ 9223372036854775807) (h2 : -9223372036854775808 ≤ v2 ∧ v2 ≤ 9223372036854775807) :
    Calls Try.prog 22 #[aggV t1 v1, aggV t2 v2] w fun e w' => e = .returned (decV (divD (toD t1 v1) (toD t2 v2))) ∧ Below w.heap.size w w' := by
  have hf := div_fate t1 v1 (toD t1 v1) (toD t2 v2) v1 v2 (fun n h => (toD_num h).2.1.symm) (fun n h => (toD_num h).2.1.symm)
  have hent : ∀ args w, (callFunc 53 args).run Try.prog w = .ok (.enter 53 args) w := enters_of Try.func53 (by kernel_rfl) rfl
  have CR : ∀ W, Calls Try.prog 37 #[aggV t1 v1, aggV t2 v2, .agg divA, .func (.func 53) #[] #[]] W fun e w' => e = .returned (decV (divD (toD t1 v1) (toD t2 v2))) ∧ Below W.heap.size W w' := fun W => by
    refine reckon_any t1 v1 t2 v2 divA _ _ _ W hent (cellsT_get divT _ (srt_idx _ _)) ?_
    rcases hf with h | h | h | h | h | ⟨h, hX, _, m, _, hm, h0⟩
    · exact .inl h
    · exact .inr (.inl h)
    · exact .inr (.inr (.inl h))
    · exact .inr (.inr (.inr (.inl h)))
    · exact .inr (.inr (.inr (.inr (.inl h))))
    · refine .inr (.inr (.inr (.inr (.inr ⟨h, fun W => ?_⟩))))
      rw [hX]
      exact div1_any v1 v2 W h1 h2 (by rw [(toD_num hm).2.1]; exact h0)
  have CRH := fun W => Lib.hid (CR W)
  generalize divD (toD t1 v1) (toD t2 v2) = X at CRH
  clear hf hent CR h1 h2
  unfold aggV at CRH ⊢
  obtain ⟨W3, hW3⟩ : ∃ W3, W3 = ((w.alloc (Obj.cells #[Value.int IntKind.i64 t1, Value.int IntKind.i64 v1] 23)).alloc (Obj.cells #[Value.int IntKind.i64 t2, Value.int IntKind.i64 v2] 23)).alloc
      (Obj.cells #[Value.int IntKind.i64 0, Value.int IntKind.i64 0] 23) := ⟨_, rfl⟩
  have hsz : W3.heap.size = w.heap.size + 1 + 1 + 1 := by rw [hW3]; simp
  have hG : ∀ o, (W3.alloc o).heap[w.heap.size + 1 + 1 + 1]? = some o := fun o => by rw [← hsz]; exact heap_alloc_last _ _
  have hR : ∀ c c', (W3.alloc (.cells c 38)).setRow (w.heap.size + 1 + 1 + 1) c' = W3.alloc (.cells c' 38) := fun c c' => by rw [← hsz, World.setRow_alloc_new]
  rw [hW3] at hG hR
  have HG := Lib.hid hG
  have HR := Lib.hid hR
  have HW3 := Lib.hid hW3
  have HSZ := Lib.hid hsz
  clear hG hR hW3 hsz
  go_enter Try.func22, Try.ntmps22
  go_wp2_with (first
    | ((with_reducible refine wpList_buildTo rfl 38 _ rfl _ rfl divA (by kernel_rfl) ?_))
    | ((with_reducible refine wpList_store_row rfl 38 _ _ rfl (w.heap.size + 1 + 1 + 1) divA rfl rfl 38 _ (HG.out _) (by kernel_rfl) rfl (by kernel_rfl) ?_); rw [HR.out])
    | ((with_reducible refine wpList_load_row rfl 38 _ rfl (w.heap.size + 1 + 1 + 1) rfl 38 divA _ _ (HG.out _) Try.underlying38 rfl (by kernel_rfl) ?_)))
  refine (CRH _).out.mono ?_
  rintro e w1 ⟨rfl, h1⟩
  rw [← HW3.out] at h1
  have hsz4 : w.heap.size + 1 + 1 < (W3.alloc (Obj.cells divA 38)).heap.size := by have := HSZ.out; simp; omega
  have k0 : w1.cell? ⟨w.heap.size + 1 + 1, 0, none⟩ = some (.int .i64 0) := (h1.cell (p := ⟨w.heap.size + 1 + 1, 0, none⟩) hsz4).trans (by rw [HW3.out]; go_simp)
  have k1 : w1.cell? ⟨w.heap.size + 1 + 1, 1, none⟩ = some (.int .i64 0) := (h1.cell (p := ⟨w.heap.size + 1 + 1, 1, none⟩) hsz4).trans (by rw [HW3.out]; go_simp)
  have f0 : w1.frozen? ⟨w.heap.size + 1 + 1, 0, none⟩ = false := (h1.frozen (p := ⟨w.heap.size + 1 + 1, 0, none⟩) hsz4).trans (by rw [HW3.out]; go_simp)
  have f1 : w1.frozen? ⟨w.heap.size + 1 + 1, 1, none⟩ = false := (h1.frozen (p := ⟨w.heap.size + 1 + 1, 1, none⟩) hsz4).trans (by rw [HW3.out]; go_simp)
  have hb3 : Below w.heap.size w W3 := by
    rw [HW3.out]
    exact (((Below.refl _ _).alloc (Nat.le_refl _) _).alloc (by simp) _).alloc (by simp; omega) _
  have hb1 := (hb3.alloc hb3.size (Obj.cells divA 38)).trans (h1.mono (by omega))
  have hs1 : w.heap.size + 1 + 1 < w1.heap.size := by have := h1.size; omega
  clear h1 hsz4
  unfold decV
  go_wp2_with fail
  exact end_dec rfl w1 (w.heap.size + 1 + 1) _ _ k0 k1 rfl rfl ⟨rfl, (hb1.setCell (by show w.heap.size ≤ w.heap.size + 1 + 1; omega) _).setCell (by show w.heap.size ≤ w.heap.size + 1 + 1; omega) _⟩

def modA : Array Value := cellsT modT

set_option maxRecDepth 100000 in
set_option maxHeartbeats 4000000 in
theorem mod_any (t1 v1 t2 v2 : Int) (w : World) (h2 : -9223372036854775808 ≤ v2 ∧ v2 ≤ 9223372036854775807) :
    Calls Try.prog 24 #[aggV t1 v1, aggV t2 v2] w fun e w' => e = .returned (decV (modD (toD t1 v1) (toD t2 v2))) ∧ Below w.heap.size w w' := by
  have hf := mod_fate t1 v1 (toD t1 v1) (toD t2 v2) v1 v2 (fun n h => (toD_num h).2.1.symm) (fun n h => (toD_num h).2.1.symm) (fun n h => by rw [(toD_num h).1, (toD_num h).2.1]; rfl)
  have hent : ∀ args w, (callFunc 54 args).run Try.prog w = .ok (.enter 54 args) w := enters_of Try.func54 (by kernel_rfl) rfl
  have CR : ∀ W, Calls Try.prog 37 #[aggV t1 v1, aggV t2 v2, .agg modA, .func (.func 54) #[] #[]] W fun e w' => e = .returned (decV (modD (toD t1 v1) (toD t2 v2))) ∧ Below W.heap.size W w' := fun W => by
    refine reckon_any t1 v1 t2 v2 modA _ _ _ W hent (cellsT_get modT _ (srt_idx _ _)) ?_
    rcases hf with h | h | h | h | h | ⟨h, hX, _, m, _, hm, h0⟩
    · exact .inl h
    · exact .inr (.inl h)
    · exact .inr (.inr (.inl h))
    · exact .inr (.inr (.inr (.inl h)))
    · exact .inr (.inr (.inr (.inr (.inl h))))
    · refine .inr (.inr (.inr (.inr (.inr ⟨h, fun W => ?_⟩))))
      rw [hX]
      exact mod1_any v1 v2 W (num_in hm h2) (by rw [(toD_num hm).2.1]; exact h0)
  have CRH := fun W => Lib.hid (CR W)
  generalize modD (toD t1 v1) (toD t2 v2) = X at CRH
  clear hf hent CR h2
  unfold aggV at CRH ⊢
  obtain ⟨W3, hW3⟩ : ∃ W3, W3 = ((w.alloc (Obj.cells #[Value.int IntKind.i64 t1, Value.int IntKind.i64 v1] 23)).alloc (Obj.cells #[Value.int IntKind.i64 t2, Value.int IntKind.i64 v2] 23)).alloc
      (Obj.cells #[Value.int IntKind.i64 0, Value.int IntKind.i64 0] 23) := ⟨_, rfl⟩
  have hsz : W3.heap.size = w.heap.size + 1 + 1 + 1 := by rw [hW3]; simp
  have hG : ∀ o, (W3.alloc o).heap[w.heap.size + 1 + 1 + 1]? = some o := fun o => by rw [← hsz]; exact heap_alloc_last _ _
  have hR : ∀ c c', (W3.alloc (.cells c 38)).setRow (w.heap.size + 1 + 1 + 1) c' = W3.alloc (.cells c' 38) := fun c c' => by rw [← hsz, World.setRow_alloc_new]
  rw [hW3] at hG hR
  have HG := Lib.hid hG
  have HR := Lib.hid hR
  have HW3 := Lib.hid hW3
  have HSZ := Lib.hid hsz
  clear hG hR hW3 hsz
  go_enter Try.func24, Try.ntmps24
  go_wp2_with (first
    | ((with_reducible refine wpList_buildTo rfl 38 _ rfl _ rfl modA (by kernel_rfl) ?_))
    | ((with_reducible refine wpList_store_row rfl 38 _ _ rfl (w.heap.size + 1 + 1 + 1) modA rfl rfl 38 _ (HG.out _) (by kernel_rfl) rfl (by kernel_rfl) ?_); rw [HR.out])
    | ((with_reducible refine wpList_load_row rfl 38 _ rfl (w.heap.size + 1 + 1 + 1) rfl 38 modA _ _ (HG.out _) Try.underlying38 rfl (by kernel_rfl) ?_)))
  refine (CRH _).out.mono ?_
  rintro e w1 ⟨rfl, h1⟩
  rw [← HW3.out] at h1
  have hsz4 : w.heap.size + 1 + 1 < (W3.alloc (Obj.cells modA 38)).heap.size := by have := HSZ.out; simp; omega
  have k0 : w1.cell? ⟨w.heap.size + 1 + 1, 0, none⟩ = some (.int .i64 0) := (h1.cell (p := ⟨w.heap.size + 1 + 1, 0, none⟩) hsz4).trans (by rw [HW3.out]; go_simp)
  have k1 : w1.cell? ⟨w.heap.size + 1 + 1, 1, none⟩ = some (.int .i64 0) := (h1.cell (p := ⟨w.heap.size + 1 + 1, 1, none⟩) hsz4).trans (by rw [HW3.out]; go_simp)
  have f0 : w1.frozen? ⟨w.heap.size + 1 + 1, 0, none⟩ = false := (h1.frozen (p := ⟨w.heap.size + 1 + 1, 0, none⟩) hsz4).trans (by rw [HW3.out]; go_simp)
  have f1 : w1.frozen? ⟨w.heap.size + 1 + 1, 1, none⟩ = false := (h1.frozen (p := ⟨w.heap.size + 1 + 1, 1, none⟩) hsz4).trans (by rw [HW3.out]; go_simp)
  have hb3 : Below w.heap.size w W3 := by
    rw [HW3.out]
    exact (((Below.refl _ _).alloc (Nat.le_refl _) _).alloc (by simp) _).alloc (by simp; omega) _
  have hb1 := (hb3.alloc hb3.size (Obj.cells modA 38)).trans (h1.mono (by omega))
  have hs1 : w.heap.size + 1 + 1 < w1.heap.size := by have := h1.size; omega
  clear h1 hsz4
  unfold decV
  go_wp2_with fail
  exact end_dec rfl w1 (w.heap.size + 1 + 1) _ _ k0 k1 rfl rfl ⟨rfl, (hb1.setCell (by show w.heap.size ≤ w.heap.size + 1 + 1; omega) _).setCell (by show w.heap.size ≤ w.heap.size + 1 + 1; omega) _⟩
end Go.Proofs.Ytncmmdhlponpoaa.Char
