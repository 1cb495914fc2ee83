/- The walks of package dec's Neg, Sub. -/
import Derived.Test.YteooaibbblfmjaaDoorRight
import Derived.RegionTactic
import Derived.Deep.RegionHeld3
namespace Go.Proofs.YteooaibbblfmjaaDoor.Char
open Go.RowKit

/-- a number in its cell is what is returned: whatever the world -/
theorem end_at {fn : Func} {p : Tmp} (h : fn.results = #[.cell p 24]) {a : Act} {R : Ending → World → Prop} {W : World} (g : Nat) (x y : Int)
    (k0 : W.cell? ⟨g, 0, none⟩ = some (.int .i64 x)) (k1 : W.cell? ⟨g, 1, none⟩ = some (.int .i64 y)) (hp : a.tmps.getD p undef = .pointer (some ⟨g, 0, none⟩)) (hd : a.defers = [])
    (hR : R (.returned (.agg #[.int .i64 x, .int .i64 y])) W) : bodyPost Tryd.prog fn R .ret a W := by
  have hp' : a.tmps[p]?.getD undef = .pointer (some ⟨g, 0, none⟩) := by simpa using hp
  exact bodyPost_ret (v := .agg #[.int .i64 x, .int .i64 y]) (by simp [results, h, hp', go_sem, k0, k1]) hd hR

set_option maxRecDepth 100000 in
set_option maxHeartbeats 4000000 in
theorem neg_any (t v : Int) (w : World) (h : -9223372036854775808 ≤ v ∧ v ≤ 9223372036854775807) :
    Calls Tryd.prog 36 #[aggV t v] w fun e w' => e = .returned (decV (negD (toD t v))) ∧ Below w.heap.size w w' := by
  have CR := fun W => right_any t v W
  obtain ⟨W2, hW2⟩ : ∃ W2, W2 = (w.alloc (Obj.cells #[Value.int IntKind.i64 t, Value.int IntKind.i64 v] 24)).alloc (Obj.cells #[Value.int IntKind.i64 0, Value.int IntKind.i64 0] 24) := ⟨_, rfl⟩
  have hsz : W2.heap.size = w.heap.size + 1 + 1 := by rw [hW2]; simp
  have a0 : W2.cell? ⟨w.heap.size, 0, none⟩ = some (.int .i64 t) := by rw [hW2]; go_simp
  have a1 : W2.cell? ⟨w.heap.size, 1, none⟩ = some (.int .i64 v) := by rw [hW2]; go_simp
  have k0 : W2.cell? ⟨w.heap.size + 1, 0, none⟩ = some (.int .i64 0) := by rw [hW2]; go_simp
  have k1 : W2.cell? ⟨w.heap.size + 1, 1, none⟩ = some (.int .i64 0) := by rw [hW2]; go_simp
  have f0 : W2.frozen? ⟨w.heap.size + 1, 0, none⟩ = false := by rw [hW2]; go_simp
  have f1 : W2.frozen? ⟨w.heap.size + 1, 1, none⟩ = false := by rw [hW2]; go_simp
  have hbw : Below w.heap.size w W2 := by rw [hW2]; exact ((Below.refl _ _).alloc (Nat.le_refl _) _).alloc (by simp) _
  have aft : ∀ w1, Below W2.heap.size W2 w1 → w1.cell? ⟨w.heap.size, 0, none⟩ = some (.int .i64 t) ∧ w1.cell? ⟨w.heap.size, 1, none⟩ = some (.int .i64 v) ∧ w1.cell? ⟨w.heap.size + 1, 0, none⟩ = some (.int .i64 0) ∧ w1.cell? ⟨w.heap.size + 1, 1, none⟩ = some (.int .i64 0) ∧
      w1.frozen? ⟨w.heap.size + 1, 0, none⟩ = false ∧ w1.frozen? ⟨w.heap.size + 1, 1, none⟩ = false ∧ w.heap.size + 1 < w1.heap.size ∧ Below w.heap.size w w1 := fun w1 h1 =>
    have hl1 : w.heap.size < W2.heap.size := by omega
    have hl2 : w.heap.size + 1 < W2.heap.size := by omega
    ⟨(h1.cell (p := ⟨w.heap.size, 0, none⟩) hl1).trans a0, (h1.cell (p := ⟨w.heap.size, 1, none⟩) hl1).trans a1, (h1.cell (p := ⟨w.heap.size + 1, 0, none⟩) hl2).trans k0, (h1.cell (p := ⟨w.heap.size + 1, 1, none⟩) hl2).trans k1,
     (h1.frozen (p := ⟨w.heap.size + 1, 0, none⟩) hl2).trans f0, (h1.frozen (p := ⟨w.heap.size + 1, 1, none⟩) hl2).trans f1, Nat.lt_of_lt_of_le hl2 h1.size, hbw.trans (h1.mono (by omega))⟩
  have AFT := Lib.hid aft
  have HW2 := Lib.hid hW2
  clear hW2 hsz a0 a1 k0 k1 f0 f1 hbw aft
  unfold aggV at CR ⊢
  rcases toD_cases t v with ⟨rfl, h2, e, er⟩ | ⟨rfl, rfl, e, er⟩ | ⟨rfl, rfl, e, er⟩ | ⟨rfl, rfl, e, er⟩ | ⟨_, _, _, _, e, er⟩
  · rw [er] at CR
    rw [e]
    have CRH := fun W => Lib.hid (CR W)
    have wn : IntKind.i64.wrap (-v) = -v := IntWalk.i64_in _ (by omega)
    clear CR e er h h2
    go_enter Tryd.func36, Tryd.ntmps36
    go_wp2_with fail
    refine (CRH _).out.mono ?_
    rintro e w1 ⟨rfl, h1⟩
    rw [← HW2.out] at h1
    obtain ⟨a0, a1, k0, k1, f0, f1, hs1, hb1⟩ := AFT.out _ h1
    clear h1
    have hs0 : w.heap.size < w1.heap.size := by omega
    go_wp2_with fail
    go_region
    go_wp2_with fail
    exact end_at rfl (w.heap.size + 1) 0 (-v) (by go_simp) (by go_simp) rfl rfl ⟨rfl, (((hb1.setCell (by show w.heap.size ≤ w.heap.size + 1; omega) _).setCell (by show w.heap.size ≤ w.heap.size + 1; omega) _).alloc (by simp; omega) _).drew⟩
  · rw [er] at CR
    rw [e]
    have CRH := fun W => Lib.hid (CR W)
    clear CR e er h
    go_enter Tryd.func36, Tryd.ntmps36
    go_wp2_with fail
    refine (CRH _).out.mono ?_
    rintro e w1 ⟨rfl, h1⟩
    rw [← HW2.out] at h1
    obtain ⟨a0, a1, k0, k1, f0, f1, hs1, hb1⟩ := AFT.out _ h1
    clear h1
    have hs0 : w.heap.size < w1.heap.size := by omega
    go_wp2_with fail
    go_region
    go_wp2_with fail
    exact end_at rfl (w.heap.size + 1) 3 0 (by go_simp) (by go_simp) rfl rfl ⟨rfl, (((hb1.setCell (by show w.heap.size ≤ w.heap.size + 1; omega) _).setCell (by show w.heap.size ≤ w.heap.size + 1; omega) _).alloc (by simp; omega) _).drew⟩
  · rw [er] at CR
    rw [e]
    have CRH := fun W => Lib.hid (CR W)
    clear CR e er h
    go_enter Tryd.func36, Tryd.ntmps36
    go_wp2_with fail
    refine (CRH _).out.mono ?_
    rintro e w1 ⟨rfl, h1⟩
    rw [← HW2.out] at h1
    obtain ⟨a0, a1, k0, k1, f0, f1, hs1, hb1⟩ := AFT.out _ h1
    clear h1
    have hs0 : w.heap.size < w1.heap.size := by omega
    go_wp2_with fail
    go_region
    go_wp2_with fail
    exact end_at rfl (w.heap.size + 1) 2 0 (by go_simp) (by go_simp) rfl rfl ⟨rfl, (((hb1.setCell (by show w.heap.size ≤ w.heap.size + 1; omega) _).setCell (by show w.heap.size ≤ w.heap.size + 1; omega) _).alloc (by simp; omega) _).drew⟩
  · rw [er] at CR
    rw [e]
    have CRH := fun W => Lib.hid (CR W)
    clear CR e er h
    go_enter Tryd.func36, Tryd.ntmps36
    go_wp2_with fail
    refine (CRH _).out.mono ?_
    rintro e w1 ⟨rfl, h1⟩
    rw [← HW2.out] at h1
    obtain ⟨a0, a1, k0, k1, f0, f1, hs1, hb1⟩ := AFT.out _ h1
    clear h1
    have hs0 : w.heap.size < w1.heap.size := by omega
    go_wp2_with fail
    go_region
    go_wp2_with fail
    exact end_at rfl (w.heap.size + 1) 1 0 (by go_simp) (by go_simp) rfl rfl ⟨rfl, (((hb1.setCell (by show w.heap.size ≤ w.heap.size + 1; omega) _).setCell (by show w.heap.size ≤ w.heap.size + 1; omega) _).alloc (by simp; omega) _).drew⟩
  · rw [er] at CR
    rw [e]
    have CRH := fun W => Lib.hid (CR W)
    clear CR e er h
    go_enter Tryd.func36, Tryd.ntmps36
    go_wp2_with fail
    refine (CRH _).out.mono ?_
    rintro e w1 ⟨rfl, h1⟩
    rw [← HW2.out] at h1
    obtain ⟨a0, a1, k0, k1, f0, f1, hs1, hb1⟩ := AFT.out _ h1
    clear h1
    go_wp2_with fail
    exact end_at rfl (w.heap.size + 1) 1 0 (by go_simp) (by go_simp) rfl rfl ⟨rfl, (hb1.setCell (by show w.heap.size ≤ w.heap.size + 1; omega) _).setCell (by show w.heap.size ≤ w.heap.size + 1; omega) _⟩
end Go.Proofs.YteooaibbblfmjaaDoor.Char
