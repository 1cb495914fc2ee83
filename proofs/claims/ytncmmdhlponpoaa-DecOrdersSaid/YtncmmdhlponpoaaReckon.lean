/- The walk of package dec's reckon: what becomes of two numbers, by the fates of their sorts. -/
import Derived.Test.YtncmmdhlponpoaaScaled
import Derived.Test.YtncmmdhlponpoaaKept
namespace Go.Proofs.Ytncmmdhlponpoaa.Char
open Go.RowKit

theorem srt_le : ∀ x, srt x ≤ 5
  | .nan => Nat.le_refl _
  | .over => by decide
  | .under => by decide
  | .num n => by
    show (if n < 0 then 1 else if 0 < n then 3 else 2) ≤ 5
    split
    · omega
    · split <;> omega

set_option maxRecDepth 100000 in
set_option maxHeartbeats 4000000 in
theorem reckon_any (t1 v1 t2 v2 : Int) (tab : Array Value) (g : FuncId) (k : Nat) (X : Nm) (w : World) (hent : ∀ args w, (callFunc g args).run Try.prog w = .ok (.enter g args) w) (hk : tab[srt (toD t1 v1) * 6 + srt (toD t2 v2)]? = some (.int .i64 (k : Int)))
    (h : (k = 1 ∧ X = .over) ∨ (k = 2 ∧ X = .under) ∨ (k = 3 ∧ X = .num 0) ∨ (k = 4 ∧ aggV t1 v1 = decV X) ∨ (k = 0 ∧ X = .nan) ∨
      (k = 5 ∧ ∀ W, Calls Try.prog g #[.int .i64 v1, .int .i64 v2] W fun e w' => e = .returned (decV X) ∧ Below W.heap.size W w')) :
    Calls Try.prog 37 #[aggV t1 v1, aggV t2 v2, .agg tab, .func (.func g) #[] #[]] w fun e w' => e = .returned (decV X) ∧ Below w.heap.size w w' := by
  have hs1 := srt_le (toD t1 v1)
  have hs2 := srt_le (toD t2 v2)
  have CA := fun W => Lib.hid (sortOf_any t1 v1 W)
  have CB := fun W => Lib.hid (sortOf_any t2 v2 W)
  generalize srt (toD t1 v1) = s1 at *
  generalize srt (toD t2 v2) = s2 at *
  have H := Lib.hid h
  clear h
  unfold aggV at CA CB ⊢
  go_enter Try.func37, Try.ntmps37
  go_wp2_with fail
  obtain ⟨W0, hW0⟩ : ∃ W0, W0 = (((w.alloc (Obj.cells #[Value.int IntKind.i64 t1, Value.int IntKind.i64 v1] 23)).alloc (Obj.cells #[Value.int IntKind.i64 t2, Value.int IntKind.i64 v2] 23)).alloc
      (Obj.cells tab 38)).alloc (Obj.cells #[Value.int IntKind.i64 0, Value.int IntKind.i64 0] 23) := ⟨_, rfl⟩
  have hsz : W0.heap.size = w.heap.size + 1 + 1 + 1 + 1 := by rw [hW0]; simp
  have a0 : W0.cell? ⟨w.heap.size, 0, none⟩ = some (.int .i64 t1) := by rw [hW0]; go_simp
  have a1 : W0.cell? ⟨w.heap.size, 1, none⟩ = some (.int .i64 v1) := by rw [hW0]; go_simp
  have b0 : W0.cell? ⟨w.heap.size + 1, 0, none⟩ = some (.int .i64 t2) := by rw [hW0]; go_simp
  have b1 : W0.cell? ⟨w.heap.size + 1, 1, none⟩ = some (.int .i64 v2) := by rw [hW0]; go_simp
  have c0 : W0.cell? ⟨w.heap.size + 1 + 1, s1 * 6 + s2, none⟩ = some (.int .i64 (k : Int)) := by rw [hW0, ← hk]; go_simp
  have d0 : W0.cell? ⟨w.heap.size + 1 + 1 + 1, 0, none⟩ = some (.int .i64 0) := by rw [hW0]; go_simp
  have d1 : W0.cell? ⟨w.heap.size + 1 + 1 + 1, 1, none⟩ = some (.int .i64 0) := by rw [hW0]; go_simp
  have e0 : W0.frozen? ⟨w.heap.size + 1 + 1 + 1, 0, none⟩ = false := by rw [hW0]; go_simp
  have e1 : W0.frozen? ⟨w.heap.size + 1 + 1 + 1, 1, none⟩ = false := by rw [hW0]; go_simp
  have hbw : Below w.heap.size w W0 := by
    rw [hW0]
    exact ((((Below.refl _ _).alloc (Nat.le_refl _) _).alloc (by simp) _).alloc (by simp; omega) _).alloc (by simp; omega) _
  rw [← hW0]
  have D0 := Lib.hid d0
  have D1 := Lib.hid d1
  have E0 := Lib.hid e0
  have E1 := Lib.hid e1
  clear d0 d1 e0 e1
  have A0 : ∀ q : KeptT W0, q.at.cell? ⟨w.heap.size, 0, none⟩ = some (.int .i64 t1) := fun q => q.cell a0 (by omega)
  have A1 : ∀ q : KeptT W0, q.at.cell? ⟨w.heap.size, 1, none⟩ = some (.int .i64 v1) := fun q => q.cell a1 (by omega)
  have B0 : ∀ q : KeptT W0, q.at.cell? ⟨w.heap.size + 1, 0, none⟩ = some (.int .i64 t2) := fun q => q.cell b0 (by omega)
  have B1 : ∀ q : KeptT W0, q.at.cell? ⟨w.heap.size + 1, 1, none⟩ = some (.int .i64 v2) := fun q => q.cell b1 (by omega)
  have C0 : ∀ q : KeptT W0, q.at.cell? ⟨w.heap.size + 1 + 1, s1 * 6 + s2, none⟩ = some (.int .i64 (k : Int)) := fun q => q.cell c0 (by omega)
  have HK := Lib.hid hk
  have HW0 := Lib.hid hW0
  have HSZ := Lib.hid hsz
  have l1 : s1 < 6 := by omega
  have l2 : s2 < 6 := by omega
  clear hk hW0 hsz a0 a1 b0 b1 c0
  haveI : Nonempty (KeptT W0) := ⟨⟨W0, Below.refl _ _⟩⟩
  refine wp_region_kept (KeptT W0) KeptT.at (by kernel_rfl) (by kernel_rfl) ⟨⟨W0.drew, (Below.refl _ _).drew⟩, rfl⟩ ?_
  repeat (go_big_quiet_step (first
    | (go_at_call 47; rename_i q; with_reducible exact (CA q.at).out.mono (fun e w' h => ⟨h.1, q.on h.2⟩))
    | (go_at_call 47; rename_i q; with_reducible exact (CB q.at).out.mono (fun e w' h => ⟨h.1, q.on h.2⟩))))
  refine wpQuiet_nil ?_
  rintro w' ⟨q, rfl⟩
  have a0 := A0 q
  have a1 := A1 q
  have b0 := B0 q
  have b1 := B1 q
  have okq := q.ok
  generalize q.at = W1 at *
  have d0 := (okq.cell (p := ⟨w.heap.size + 1 + 1 + 1, 0, none⟩) (by rw [HSZ.out]; show w.heap.size + 1 + 1 + 1 < _; omega)).trans D0.out
  have d1 := (okq.cell (p := ⟨w.heap.size + 1 + 1 + 1, 1, none⟩) (by rw [HSZ.out]; show w.heap.size + 1 + 1 + 1 < _; omega)).trans D1.out
  have e0 := (okq.frozen (p := ⟨w.heap.size + 1 + 1 + 1, 0, none⟩) (by rw [HSZ.out]; show w.heap.size + 1 + 1 + 1 < _; omega)).trans E0.out
  have e1 := (okq.frozen (p := ⟨w.heap.size + 1 + 1 + 1, 1, none⟩) (by rw [HSZ.out]; show w.heap.size + 1 + 1 + 1 < _; omega)).trans E1.out
  have hb1 : Below w.heap.size w W1 := hbw.trans (okq.mono hbw.size)
  have hsz1 : w.heap.size + 1 + 1 + 1 < W1.heap.size := by have h1 := okq.size; have h2 := HSZ.out; omega
  have HB1 := Lib.hid hb1
  clear A0 A1 B0 B1 C0 D0 D1 E0 E1 CA CB okq hb1 hbw
  rcases H.out with ⟨rfl, rfl⟩ | ⟨rfl, rfl⟩ | ⟨rfl, rfl⟩ | ⟨rfl, hX⟩ | ⟨rfl, rfl⟩ | ⟨rfl, hC⟩
  · go_wp2_with fail
    exact end_dec rfl W1 (w.heap.size + 1 + 1 + 1) _ _ d0 d1 rfl rfl ⟨rfl, ((HB1.out).setCell (by show w.heap.size ≤ w.heap.size + 1 + 1 + 1; omega) _).setCell (by show w.heap.size ≤ w.heap.size + 1 + 1 + 1; omega) _⟩
  · go_wp2_with fail
    exact end_dec rfl W1 (w.heap.size + 1 + 1 + 1) _ _ d0 d1 rfl rfl ⟨rfl, ((HB1.out).setCell (by show w.heap.size ≤ w.heap.size + 1 + 1 + 1; omega) _).setCell (by show w.heap.size ≤ w.heap.size + 1 + 1 + 1; omega) _⟩
  · go_wp2_with fail
    exact end_dec rfl W1 (w.heap.size + 1 + 1 + 1) _ _ d0 d1 rfl rfl ⟨rfl, ((HB1.out).setCell (by show w.heap.size ≤ w.heap.size + 1 + 1 + 1; omega) _).setCell (by show w.heap.size ≤ w.heap.size + 1 + 1 + 1; omega) _⟩
  · have HX := Lib.hid hX
    clear hX
    go_wp2_with fail
    exact end_dec rfl W1 (w.heap.size + 1 + 1 + 1) _ _ d0 d1 rfl rfl ⟨by rw [← HX.out]; rfl, ((HB1.out).setCell (by show w.heap.size ≤ w.heap.size + 1 + 1 + 1; omega) _).setCell (by show w.heap.size ≤ w.heap.size + 1 + 1 + 1; omega) _⟩
  · go_wp2_with fail
    exact end_dec rfl W1 (w.heap.size + 1 + 1 + 1) _ _ d0 d1 rfl rfl ⟨rfl, ((HB1.out).setCell (by show w.heap.size ≤ w.heap.size + 1 + 1 + 1; omega) _).setCell (by show w.heap.size ≤ w.heap.size + 1 + 1 + 1; omega) _⟩
  · have HC := Lib.hid hC
    clear hC
    go_wp2_with fail
    refine (HC.out _).mono ?_
    rintro e w2 ⟨rfl, h2⟩
    have hb2 := HB1.out.trans (h2.mono HB1.out.size)
    have p0 := (h2.cell (p := ⟨w.heap.size + 1 + 1 + 1, 0, none⟩) hsz1).trans d0
    have p1 := (h2.cell (p := ⟨w.heap.size + 1 + 1 + 1, 1, none⟩) hsz1).trans d1
    have f0 := (h2.frozen (p := ⟨w.heap.size + 1 + 1 + 1, 0, none⟩) hsz1).trans e0
    have f1 := (h2.frozen (p := ⟨w.heap.size + 1 + 1 + 1, 1, none⟩) hsz1).trans e1
    have hsz2 : w.heap.size + 1 + 1 + 1 < w2.heap.size := by have := h2.size; omega
    unfold decV
    go_wp2_with fail
    exact end_dec rfl w2 (w.heap.size + 1 + 1 + 1) _ _ p0 p1 rfl rfl ⟨rfl, (hb2.setCell (by show w.heap.size ≤ w.heap.size + 1 + 1 + 1; omega) _).setCell (by show w.heap.size ≤ w.heap.size + 1 + 1 + 1; omega) _⟩
end Go.Proofs.Ytncmmdhlponpoaa.Char
