/- RefFn Laws15 Witness -/
import Derived.Test.YtpdbanaffohblaaGreatDoorPk06
import Derived.Great.Walk
import Derived.BigRegion
import Derived.Deep.RegionHeld3
import Derived.Test.YtpdbanaffohblaaGreatDoorPk23
import Derived.Laws.StructEq
import Derived.Test.YtpdbanaffohblaaGreatDoorCards
import Derived.Test.YtpdbanaffohblaaGreatDoorTie
import Derived.Test.YtpdbanaffohblaaGreatDoorPk02
import Derived.PinnedBridge
import Derived.Lay
import Derived.Lib.LaidIn
import Derived.Lib.LaidU8T
import Derived.Lib.LaidTab
import Derived.Deep.DeepHandedRow
import Derived.Deep.DeepWitnessRowRef
import Derived.ProofKit
import Derived.OpenShut
import Derived.JoinedCond
import Derived.SizedLaws
import Derived.Shelf.Vars
import Derived.LaidLaws
/- The walk of the document's own Func (written by gen_reffn.py). -/
namespace Go.Proofs.YtpdbanaffohblaaGreatDoor.Char
open Go.RowKit Go.Lib

deriving instance DecidableEq for Fn4
def fnR : List (List UInt8 × Fn4) := [
  ([108, 97, 115, 116], ⟨0, 0, false, 3⟩),
  ([112, 111, 115, 105, 116, 105, 111, 110], ⟨0, 0, false, 3⟩),
  ([99, 111, 117, 110, 116], ⟨1, 1, true, 3⟩),
  ([115, 117, 109], ⟨1, 1, true, 3⟩),
  ([108, 111, 99, 97, 108, 45, 110, 97, 109, 101], ⟨0, 1, true, 4⟩),
  ([110, 97, 109, 101], ⟨0, 1, true, 4⟩),
  ([110, 97, 109, 101, 115, 112, 97, 99, 101, 45, 117, 114, 105], ⟨0, 1, true, 4⟩),
  ([115, 116, 114, 105, 110, 103], ⟨0, 1, false, 4⟩),
  ([110, 111, 114, 109, 97, 108, 105, 122, 101, 45, 115, 112, 97, 99, 101], ⟨0, 1, false, 4⟩),
  ([99, 111, 110, 99, 97, 116], ⟨2, 120, false, 4⟩),
  ([115, 116, 97, 114, 116, 115, 45, 119, 105, 116, 104], ⟨2, 2, false, 2⟩),
  ([99, 111, 110, 116, 97, 105, 110, 115], ⟨2, 2, false, 2⟩),
  ([115, 117, 98, 115, 116, 114, 105, 110, 103, 45, 98, 101, 102, 111, 114, 101], ⟨2, 2, false, 4⟩),
  ([115, 117, 98, 115, 116, 114, 105, 110, 103, 45, 97, 102, 116, 101, 114], ⟨2, 2, false, 4⟩),
  ([115, 117, 98, 115, 116, 114, 105, 110, 103], ⟨2, 3, false, 4⟩),
  ([116, 114, 97, 110, 115, 108, 97, 116, 101], ⟨3, 3, false, 4⟩),
  ([115, 116, 114, 105, 110, 103, 45, 108, 101, 110, 103, 116, 104], ⟨0, 1, false, 3⟩),
  ([98, 111, 111, 108, 101, 97, 110], ⟨1, 1, false, 2⟩),
  ([110, 111, 116], ⟨1, 1, false, 2⟩),
  ([108, 97, 110, 103], ⟨1, 1, false, 2⟩),
  ([116, 114, 117, 101], ⟨0, 0, false, 2⟩),
  ([102, 97, 108, 115, 101], ⟨0, 0, false, 2⟩),
  ([110, 117, 109, 98, 101, 114], ⟨0, 1, false, 3⟩),
  ([102, 108, 111, 111, 114], ⟨1, 1, false, 3⟩),
  ([99, 101, 105, 108, 105, 110, 103], ⟨1, 1, false, 3⟩),
  ([114, 111, 117, 110, 100], ⟨1, 1, false, 3⟩)]
theorem fnR_eq (s : List UInt8) : fnF s = fnG fnR s := by
  unfold fnF
  by_cases h : s ∈ fnT.map (·.1)
  · have key : ∀ x ∈ fnT.map (·.1), fnG fnT x = fnG fnR x := by decide +kernel
    exact key s h
  · rw [fnG_no fnT s (fun p hp e => h (by rw [e]; exact List.mem_map_of_mem hp)), fnG_no fnR s (fun p hp e => h ?_)]
    have key : ∀ p ∈ fnR, p.1 ∈ fnT.map (·.1) := by decide +kernel
    rw [e]
    exact key p hp
def rfN : Array Value := (fnR.map fun p => Value.string (bs p.1)).toArray
def rfL : Array Value := (fnR.map fun p => Value.int .i64 p.2.least).toArray
def rfM : Array Value := (fnR.map fun p => Value.int .i64 p.2.most).toArray
def rfT : Array Value := (fnR.map fun p => Value.int .i64 p.2.ty).toArray
theorem rf_at {k : Nat} (h : k < 26) : ∃ n f, fnR[k]? = some (n, f) ∧ rfN[k]? = some (.string (bs n)) ∧ rfL[k]? = some (.int .i64 f.least) ∧ rfM[k]? = some (.int .i64 f.most) ∧ rfT[k]? = some (.int .i64 f.ty) ∧ f.nodes = (decide (2 ≤ k) && decide (k ≤ 6)) := by
  have hk : k < fnR.length := h
  have h0 : fnR[k]? = some fnR[k] := List.getElem?_eq_getElem hk
  have hn : ∀ j : Fin 26, (fnR[j.val]'(show j.val < fnR.length from j.isLt)).2.nodes = (decide (2 ≤ j.val) && decide (j.val ≤ 6)) := by decide +kernel
  refine ⟨fnR[k].1, fnR[k].2, h0, ?_, ?_, ?_, ?_, hn ⟨k, h⟩⟩
  · unfold rfN; rw [List.getElem?_toArray, List.getElem?_map, h0]; rfl
  · unfold rfL; rw [List.getElem?_toArray, List.getElem?_map, h0]; rfl
  · unfold rfM; rw [List.getElem?_toArray, List.getElem?_map, h0]; rfl
  · unfold rfT; rw [List.getElem?_toArray, List.getElem?_map, h0]; rfl
theorem fnG_drop {k : Nat} {n : List UInt8} {f : Fn4} (h : fnR[k]? = some (n, f)) (s : List UInt8) : fnG (fnR.drop k) s = if s = n then some f else fnG (fnR.drop (k + 1)) s := by
  obtain ⟨hk, e⟩ := List.getElem?_eq_some_iff.1 h
  rw [List.drop_eq_getElem_cons hk, fnG, e]
/-- the four rows, in memory -/
def rfW (w : World) : World := ((((w.alloc (.cells #[.int .i64 0, .int .i64 0, .bool false, .int .i64 0] 44)).alloc (.cells rfN 9)).alloc (.cells rfL 3)).alloc (.cells rfM 3)).alloc (.cells rfT 3)
theorem rfW_below (w : World) : Below w.heap.size w (rfW w) := by
  unfold rfW
  exact (((((Below.refl _ _).alloc (Nat.le_refl _) _).alloc (by simp) _).alloc (by simp; omega) _).alloc (by simp; omega) _).alloc (by simp; omega) _
theorem rfW_cells (w : World) (k : Nat) : (rfW w).cell? ⟨w.heap.size + 1, k, none⟩ = rfN[k]? ∧ (rfW w).cell? ⟨w.heap.size + 2, k, none⟩ = rfL[k]? ∧ (rfW w).cell? ⟨w.heap.size + 3, k, none⟩ = rfM[k]? ∧ (rfW w).cell? ⟨w.heap.size + 4, k, none⟩ = rfT[k]? := by
  obtain ⟨w0, h0⟩ : ∃ w0, w0 = w.alloc (.cells #[.int .i64 0, .int .i64 0, .bool false, .int .i64 0] 44) := ⟨_, rfl⟩
  have s0 : w0.heap.size = w.heap.size + 1 := by rw [h0]; simp
  obtain ⟨w1, h1⟩ : ∃ w1, w1 = w0.alloc (.cells rfN 9) := ⟨_, rfl⟩
  have s1 : w1.heap.size = w.heap.size + 2 := by rw [h1]; simp [s0]
  obtain ⟨w2, h2⟩ : ∃ w2, w2 = w1.alloc (.cells rfL 3) := ⟨_, rfl⟩
  have s2 : w2.heap.size = w.heap.size + 3 := by rw [h2]; simp [s1]
  obtain ⟨w3, h3⟩ : ∃ w3, w3 = w2.alloc (.cells rfM 3) := ⟨_, rfl⟩
  have s3 : w3.heap.size = w.heap.size + 4 := by rw [h3]; simp [s2]
  have hw : rfW w = w3.alloc (.cells rfT 3) := by rw [h3, h2, h1, h0]; rfl
  have b1 : w1.heap[w.heap.size + 1]? = some (.cells rfN 9 (0, 0)) := by rw [h1, ← s0]; exact World.alloc_heap_new w0 _
  have b2 : w2.heap[w.heap.size + 2]? = some (.cells rfL 3 (0, 0)) := by rw [h2, ← s1]; exact World.alloc_heap_new w1 _
  have b3 : w3.heap[w.heap.size + 3]? = some (.cells rfM 3 (0, 0)) := by rw [h3, ← s2]; exact World.alloc_heap_new w2 _
  have b4 : (rfW w).heap[w.heap.size + 4]? = some (.cells rfT 3 (0, 0)) := by rw [hw, ← s3]; exact World.alloc_heap_new w3 _
  have c3 : (rfW w).heap[w.heap.size + 3]? = some (.cells rfM 3 (0, 0)) := by rw [hw]; exact (Below.heap_alloc _ _ _ (by omega)).trans b3
  have c2 : (rfW w).heap[w.heap.size + 2]? = some (.cells rfL 3 (0, 0)) := by rw [hw]; exact (Below.heap_alloc _ _ _ (by omega)).trans (by rw [h3]; exact (Below.heap_alloc _ _ _ (by omega)).trans b2)
  have c1 : (rfW w).heap[w.heap.size + 1]? = some (.cells rfN 9 (0, 0)) := by rw [hw]; exact (Below.heap_alloc _ _ _ (by omega)).trans (by rw [h3]; exact (Below.heap_alloc _ _ _ (by omega)).trans (by rw [h2]; exact (Below.heap_alloc _ _ _ (by omega)).trans b1))
  exact ⟨Lib.cell_of_heap c1 k, Lib.cell_of_heap c2 k, Lib.cell_of_heap c3 k, Lib.cell_of_heap b4 k⟩
theorem rfW_box (w : World) : (rfW w).heap[w.heap.size]? = some (.cells #[.int .i64 0, .int .i64 0, .bool false, .int .i64 0] 44 (0, 0)) := by
  unfold rfW
  refine (Below.heap_alloc _ _ _ (by simp; omega)).trans ((Below.heap_alloc _ _ _ (by simp; omega)).trans ((Below.heap_alloc _ _ _ (by simp; omega)).trans ((Below.heap_alloc _ _ _ (by simp)).trans ?_)))
  exact World.alloc_heap_new w _
set_option maxRecDepth 100000 in
set_option maxHeartbeats 8000000 in
theorem refFn_any (s : List UInt8) (w : World) : Calls Tryz.prog 24 #[.string (bs s)] w (FnP w (fnF s)) := by
  rw [fnR_eq]
  obtain ⟨R, hR⟩ : ∃ R, fnG fnR s = R := ⟨_, rfl⟩
  have hR0 : fnG (fnR.drop 0) s = R := hR
  rw [hR]
  have HR0 := Lib.hid hR0
  clear hR hR0
  have HB := Lib.hid (rfW_below w)
  have HC := Lib.hid (rfW_cells w)
  have HX := Lib.hid (rfW_box w)
  go_enter Tryz.func24, Tryz.ntmps24
  go_wp2_with fail
  change Code.wp _ _ _ _ (rfW w)
  obtain ⟨W4, hW4⟩ : ∃ W4, W4 = rfW w := ⟨_, rfl⟩
  rw [← hW4] at HB HC HX ⊢
  obtain ⟨⟨x0, f0⟩, ⟨x1, f1⟩, ⟨x2, f2⟩, x3, f3⟩ : (W4.cell? ⟨w.heap.size, 0, none⟩ = some (.int .i64 0) ∧ W4.frozen? ⟨w.heap.size, 0, none⟩ = false) ∧ (W4.cell? ⟨w.heap.size, 1, none⟩ = some (.int .i64 0) ∧ W4.frozen? ⟨w.heap.size, 1, none⟩ = false) ∧ (W4.cell? ⟨w.heap.size, 2, none⟩ = some (.bool false) ∧ W4.frozen? ⟨w.heap.size, 2, none⟩ = false) ∧ (W4.cell? ⟨w.heap.size, 3, none⟩ = some (.int .i64 0) ∧ W4.frozen? ⟨w.heap.size, 3, none⟩ = false) := by
    have h := HX.out
    exact ⟨⟨by simp [World.cell?, h], by simp [World.frozen?, h]⟩, ⟨by simp [World.cell?, h], by simp [World.frozen?, h]⟩, ⟨by simp [World.cell?, h], by simp [World.frozen?, h]⟩, by simp [World.cell?, h], by simp [World.frozen?, h]⟩
  clear hW4
  go_loop [8] (fun v => ∃ k : Nat, v = .int .i64 (k : Int) ∧ k ≤ 26 ∧ Hid (fnG (fnR.drop k) s = R)) (fun v => 26 - (RowKit.intOf v).toNat)
  case atStart => exact ⟨0, rfl, by omega, HR0⟩
  case round =>
    obtain ⟨k, rfl, hk, HK⟩ := hrel
    by_cases hlt : k < 26
    · have l0 : decide ((k : Int) < 26) = true := decide_eq_true (by omega)
      obtain ⟨n, f, e0, e1, e2, e3, e4, e5⟩ := rf_at hlt
      obtain ⟨c1, c2, c3, c4⟩ := HC.out k
      change W4.cell? ⟨w.heap.size + 1 + 1, k, none⟩ = _ at c2
      change W4.cell? ⟨w.heap.size + 1 + 1 + 1, k, none⟩ = _ at c3
      change W4.cell? ⟨w.heap.size + 1 + 1 + 1 + 1, k, none⟩ = _ at c4
      rw [e1] at c1
      rw [e2] at c2
      rw [e3] at c3
      rw [e4] at c4
      have hk2 := HK.out
      rw [fnG_drop e0] at hk2
      clear e0 e1 e2 e3 e4
      have q2 : decide ((2 : Int) ≤ (k : Int)) = decide (2 ≤ k) := by rw [decide_eq_decide]; omega
      have q6 : decide ((k : Int) ≤ 6) = decide (k ≤ 6) := by rw [decide_eq_decide]; omega
      by_cases hs : s = n
      · rw [if_pos hs] at hk2
        have HK2 := Lib.hid hk2
        have hq : ((bs n).toList == (bs s).toList) = true := by rw [hs, beq_iff_eq]
        have HE5 := Lib.hid e5
        generalize bs n = N at *
        generalize bs s = S at *
        clear hk2 hs e5 HK
        generalize decide (2 ≤ k) = b1 at *
        generalize decide (k ≤ 6) = b2 at *
        obtain ⟨le, mo, nd, ty⟩ := f
        cases b1
        · go_upto_region 9 with fail
          refine wp_region_held (S := fun W' => W'.cell? ⟨w.heap.size + 1 + 1, k, none⟩ = some (.int .i64 le) ∧ W'.cell? ⟨w.heap.size + 1 + 1 + 1, k, none⟩ = some (.int .i64 mo) ∧ W'.cell? ⟨w.heap.size + 1 + 1 + 1 + 1, k, none⟩ = some (.int .i64 ty)) (by kernel_rfl) ?_
          change wpAnyH _ _ _ _ _ _ _ _ W4.drew
          have hH0 : W4.drew.cell? ⟨w.heap.size + 1 + 1, k, none⟩ = some (.int .i64 le) ∧ W4.drew.cell? ⟨w.heap.size + 1 + 1 + 1, k, none⟩ = some (.int .i64 mo) ∧ W4.drew.cell? ⟨w.heap.size + 1 + 1 + 1 + 1, k, none⟩ = some (.int .i64 ty) := ⟨c2, c3, c4⟩
          refine wpAnyH_take (i := 0) (oi := _) (v := .slice (some ⟨w.heap.size + 1 + 1, 0, none⟩) 26 26) rfl (by kernel_rfl) (by kernel_rfl) (by kernel_rfl) (fun _ _ _ h => h) (Or.inl ⟨by rfl, fun W hSw => by dsimp only at hSw; go_simp <;> (intro hh; omega)⟩) hH0 ?_
          simp only [Act.put, List.setIfInBounds_toArray]
          refine wpAnyH_take (i := 1) (oi := _) (v := .int .i64 (k : Int)) rfl (by kernel_rfl) (by kernel_rfl) (by kernel_rfl) (fun _ _ _ h => h) (Or.inl ⟨by rfl, fun W hSw => by dsimp only at hSw; go_simp <;> (intro hh; omega)⟩) hH0 ?_
          simp only [Act.put]
          refine wpAnyH_take (i := 2) (oi := _) (v := .pointer (some ⟨w.heap.size + 1 + 1, k, none⟩)) rfl (by kernel_rfl) (by kernel_rfl) (by kernel_rfl) (fun _ _ _ h => h) (Or.inl ⟨by rfl, fun W hSw => by dsimp only at hSw; go_simp <;> (intro hh; omega)⟩) hH0 ?_
          simp only [Act.put]
          refine wpAnyH_take (i := 3) (oi := _) (v := .int .i64 le) rfl (by kernel_rfl) (by kernel_rfl) (by kernel_rfl) (fun _ _ _ h => h) (Or.inl ⟨by rfl, fun W hSw => by dsimp only at hSw; go_simp <;> (intro hh; omega)⟩) hH0 ?_
          simp only [Act.put]
          refine wpAnyH_take (i := 4) (oi := _) (v := .slice (some ⟨w.heap.size + 1 + 1 + 1, 0, none⟩) 26 26) rfl (by kernel_rfl) (by kernel_rfl) (by kernel_rfl) (fun _ _ _ h => h) (Or.inl ⟨by rfl, fun W hSw => by dsimp only at hSw; go_simp <;> (intro hh; omega)⟩) hH0 ?_
          simp only [Act.put]
          refine wpAnyH_take (i := 5) (oi := _) (v := .int .i64 (k : Int)) rfl (by kernel_rfl) (by kernel_rfl) (by kernel_rfl) (fun _ _ _ h => h) (Or.inl ⟨by rfl, fun W hSw => by dsimp only at hSw; go_simp <;> (intro hh; omega)⟩) hH0 ?_
          simp only [Act.put]
          refine wpAnyH_take (i := 6) (oi := _) (v := .pointer (some ⟨w.heap.size + 1 + 1 + 1, k, none⟩)) rfl (by kernel_rfl) (by kernel_rfl) (by kernel_rfl) (fun _ _ _ h => h) (Or.inl ⟨by rfl, fun W hSw => by dsimp only at hSw; go_simp <;> (intro hh; omega)⟩) hH0 ?_
          simp only [Act.put]
          refine wpAnyH_take (i := 7) (oi := _) (v := .int .i64 mo) rfl (by kernel_rfl) (by kernel_rfl) (by kernel_rfl) (fun _ _ _ h => h) (Or.inl ⟨by rfl, fun W hSw => by dsimp only at hSw; go_simp <;> (intro hh; omega)⟩) hH0 ?_
          simp only [Act.put]
          refine wpAnyH_take (i := 8) (oi := _) (v := .int .i64 (k : Int)) rfl (by kernel_rfl) (by kernel_rfl) (by kernel_rfl) (fun _ _ _ h => h) (Or.inl ⟨by rfl, fun W hSw => by dsimp only at hSw; go_simp <;> (intro hh; omega)⟩) hH0 ?_
          simp only [Act.put]
          refine wpAnyH_take (i := 9) (oi := _) (v := .bool false) rfl (by kernel_rfl) (by kernel_rfl) (by kernel_rfl) (fun _ _ _ h => h) (Or.inl ⟨by rfl, fun W hSw => by dsimp only at hSw; go_simp <;> (intro hh; omega)⟩) hH0 ?_
          simp only [Act.put]
          refine wpAnyH_take (i := 10) (oi := _) (v := .bool false) rfl (by kernel_rfl) (by kernel_rfl) (by kernel_rfl) (fun _ _ _ h => h) (Or.inl ⟨by rfl, fun W hSw => by dsimp only at hSw; go_simp <;> (intro hh; omega)⟩) hH0 ?_
          simp only [Act.put]
          refine wpAnyH_take (i := 14) (oi := _) (v := .slice (some ⟨w.heap.size + 1 + 1 + 1 + 1, 0, none⟩) 26 26) rfl (by kernel_rfl) (by kernel_rfl) (by kernel_rfl) (fun _ _ _ h => h) (Or.inl ⟨by rfl, fun W hSw => by dsimp only at hSw; go_simp <;> (intro hh; omega)⟩) hH0 ?_
          simp only [Act.put]
          refine wpAnyH_take (i := 15) (oi := _) (v := .int .i64 (k : Int)) rfl (by kernel_rfl) (by kernel_rfl) (by kernel_rfl) (fun _ _ _ h => h) (Or.inl ⟨by rfl, fun W hSw => by dsimp only at hSw; go_simp <;> (intro hh; omega)⟩) hH0 ?_
          simp only [Act.put]
          refine wpAnyH_take (i := 16) (oi := _) (v := .pointer (some ⟨w.heap.size + 1 + 1 + 1 + 1, k, none⟩)) rfl (by kernel_rfl) (by kernel_rfl) (by kernel_rfl) (fun _ _ _ h => h) (Or.inl ⟨by rfl, fun W hSw => by dsimp only at hSw; go_simp <;> (intro hh; omega)⟩) hH0 ?_
          simp only [Act.put]
          refine wpAnyH_take (i := 17) (oi := _) (v := .int .i64 ty) rfl (by kernel_rfl) (by kernel_rfl) (by kernel_rfl) (fun _ _ _ h => h) (Or.inl ⟨by rfl, fun W hSw => by dsimp only at hSw; go_simp <;> (intro hh; omega)⟩) hH0 ?_
          simp only [Act.put]
          refine wpAnyH_ready (rs := [11]) (by kernel_rfl) (by simp) ?_
          refine AllReadyH.cons rfl (fun K hK => ?_) (AllReadyH.nil)
          go_simp
          refine hK.out _ _ hH0 (fun _ => ?_)
          clear hK K
          refine wpAnyH_ready (rs := [12]) (by kernel_rfl) (by simp) ?_
          refine AllReadyH.cons rfl (fun K hK => ?_) (AllReadyH.nil)
          go_simp
          refine hK.out _ _ hH0 (fun _ => ?_)
          clear hK K
          refine wpAnyH_ready (rs := [13]) (by kernel_rfl) (by simp) ?_
          refine AllReadyH.cons rfl (fun K hK => ?_) (AllReadyH.nil)
          go_simp
          refine hK.out _ _ hH0 (fun _ => ?_)
          clear hK K
          refine wpAnyH_ready (rs := [18]) (by kernel_rfl) (by simp) ?_
          refine AllReadyH.cons rfl (fun K hK => ?_) (AllReadyH.nil)
          go_simp
          refine hK.out _ _ hH0 (fun _ => ?_)
          clear hK K
          refine wpAnyH_ready (rs := [19]) (by kernel_rfl) (by simp) ?_
          refine AllReadyH.cons rfl (fun K hK => ?_) (AllReadyH.nil)
          go_simp
          refine hK.out _ _ ⟨?_, ?_, ?_⟩ (fun _ => ?_)
          · go_simp
          · go_simp
          · go_simp
          clear hK K hH0
          refine wpAnyH_ready (rs := [20]) (by kernel_rfl) (by simp) ?_
          refine AllReadyH.cons rfl (fun K hK => ?_) (AllReadyH.nil)
          go_simp
          refine hK.out _ _ ⟨?_, ?_, ?_⟩ (fun _ => ?_)
          · go_simp
          · go_simp
          · go_simp
          clear hK K
          refine wpAnyH_done (by kernel_rfl) ?_ _
          go_wp2_with fail
          rw [← HK2.out]
          refine endFn Tryz.results24 _ w.heap.size (c0 := .int .i64 le) (c1 := .int .i64 mo) (c2 := .bool false) (c3 := .int .i64 ty) (c := .bool true) ?_ ?_ ?_ ?_ (by rfl) (by rfl) rfl ⟨?_, ?_⟩
          · go_simp
          · go_simp
          · go_simp
          · go_simp
          · exact ((((HB.out.setCell (p := ⟨w.heap.size, 0, none⟩) (Nat.le_refl _) _).setCell (p := ⟨w.heap.size, 1, none⟩) (Nat.le_refl _) _).setCell (p := ⟨w.heap.size, 2, none⟩) (Nat.le_refl _) _).setCell (p := ⟨w.heap.size, 3, none⟩) (Nat.le_refl _) _).drew
          · have hnd : nd = (false && b2) := HE5.out
            rw [hnd]
            rfl
        · go_upto_region 9 with fail
          refine wp_region_held (S := fun W' => W'.cell? ⟨w.heap.size + 1 + 1, k, none⟩ = some (.int .i64 le) ∧ W'.cell? ⟨w.heap.size + 1 + 1 + 1, k, none⟩ = some (.int .i64 mo) ∧ W'.cell? ⟨w.heap.size + 1 + 1 + 1 + 1, k, none⟩ = some (.int .i64 ty)) (by kernel_rfl) ?_
          change wpAnyH _ _ _ _ _ _ _ _ W4.drew
          have hH0 : W4.drew.cell? ⟨w.heap.size + 1 + 1, k, none⟩ = some (.int .i64 le) ∧ W4.drew.cell? ⟨w.heap.size + 1 + 1 + 1, k, none⟩ = some (.int .i64 mo) ∧ W4.drew.cell? ⟨w.heap.size + 1 + 1 + 1 + 1, k, none⟩ = some (.int .i64 ty) := ⟨c2, c3, c4⟩
          refine wpAnyH_take (i := 0) (oi := _) (v := .slice (some ⟨w.heap.size + 1 + 1, 0, none⟩) 26 26) rfl (by kernel_rfl) (by kernel_rfl) (by kernel_rfl) (fun _ _ _ h => h) (Or.inl ⟨by rfl, fun W hSw => by dsimp only at hSw; go_simp <;> (intro hh; omega)⟩) hH0 ?_
          simp only [Act.put, List.setIfInBounds_toArray]
          refine wpAnyH_take (i := 1) (oi := _) (v := .int .i64 (k : Int)) rfl (by kernel_rfl) (by kernel_rfl) (by kernel_rfl) (fun _ _ _ h => h) (Or.inl ⟨by rfl, fun W hSw => by dsimp only at hSw; go_simp <;> (intro hh; omega)⟩) hH0 ?_
          simp only [Act.put]
          refine wpAnyH_take (i := 2) (oi := _) (v := .pointer (some ⟨w.heap.size + 1 + 1, k, none⟩)) rfl (by kernel_rfl) (by kernel_rfl) (by kernel_rfl) (fun _ _ _ h => h) (Or.inl ⟨by rfl, fun W hSw => by dsimp only at hSw; go_simp <;> (intro hh; omega)⟩) hH0 ?_
          simp only [Act.put]
          refine wpAnyH_take (i := 3) (oi := _) (v := .int .i64 le) rfl (by kernel_rfl) (by kernel_rfl) (by kernel_rfl) (fun _ _ _ h => h) (Or.inl ⟨by rfl, fun W hSw => by dsimp only at hSw; go_simp <;> (intro hh; omega)⟩) hH0 ?_
          simp only [Act.put]
          refine wpAnyH_take (i := 4) (oi := _) (v := .slice (some ⟨w.heap.size + 1 + 1 + 1, 0, none⟩) 26 26) rfl (by kernel_rfl) (by kernel_rfl) (by kernel_rfl) (fun _ _ _ h => h) (Or.inl ⟨by rfl, fun W hSw => by dsimp only at hSw; go_simp <;> (intro hh; omega)⟩) hH0 ?_
          simp only [Act.put]
          refine wpAnyH_take (i := 5) (oi := _) (v := .int .i64 (k : Int)) rfl (by kernel_rfl) (by kernel_rfl) (by kernel_rfl) (fun _ _ _ h => h) (Or.inl ⟨by rfl, fun W hSw => by dsimp only at hSw; go_simp <;> (intro hh; omega)⟩) hH0 ?_
          simp only [Act.put]
          refine wpAnyH_take (i := 6) (oi := _) (v := .pointer (some ⟨w.heap.size + 1 + 1 + 1, k, none⟩)) rfl (by kernel_rfl) (by kernel_rfl) (by kernel_rfl) (fun _ _ _ h => h) (Or.inl ⟨by rfl, fun W hSw => by dsimp only at hSw; go_simp <;> (intro hh; omega)⟩) hH0 ?_
          simp only [Act.put]
          refine wpAnyH_take (i := 7) (oi := _) (v := .int .i64 mo) rfl (by kernel_rfl) (by kernel_rfl) (by kernel_rfl) (fun _ _ _ h => h) (Or.inl ⟨by rfl, fun W hSw => by dsimp only at hSw; go_simp <;> (intro hh; omega)⟩) hH0 ?_
          simp only [Act.put]
          refine wpAnyH_take (i := 8) (oi := _) (v := .int .i64 (k : Int)) rfl (by kernel_rfl) (by kernel_rfl) (by kernel_rfl) (fun _ _ _ h => h) (Or.inl ⟨by rfl, fun W hSw => by dsimp only at hSw; go_simp <;> (intro hh; omega)⟩) hH0 ?_
          simp only [Act.put]
          refine wpAnyH_take (i := 9) (oi := _) (v := .bool true) rfl (by kernel_rfl) (by kernel_rfl) (by kernel_rfl) (fun _ _ _ h => h) (Or.inl ⟨by rfl, fun W hSw => by dsimp only at hSw; go_simp <;> (intro hh; omega)⟩) hH0 ?_
          simp only [Act.put]
          refine wpAnyH_take (i := 10) (oi := _) (v := .bool true) rfl (by kernel_rfl) (by kernel_rfl) (by kernel_rfl) (fun _ _ _ h => h) (Or.inl ⟨by rfl, fun W hSw => by dsimp only at hSw; go_simp <;> (intro hh; omega)⟩) hH0 ?_
          simp only [Act.put]
          refine wpAnyH_take (i := 14) (oi := _) (v := .slice (some ⟨w.heap.size + 1 + 1 + 1 + 1, 0, none⟩) 26 26) rfl (by kernel_rfl) (by kernel_rfl) (by kernel_rfl) (fun _ _ _ h => h) (Or.inl ⟨by rfl, fun W hSw => by dsimp only at hSw; go_simp <;> (intro hh; omega)⟩) hH0 ?_
          simp only [Act.put]
          refine wpAnyH_take (i := 15) (oi := _) (v := .int .i64 (k : Int)) rfl (by kernel_rfl) (by kernel_rfl) (by kernel_rfl) (fun _ _ _ h => h) (Or.inl ⟨by rfl, fun W hSw => by dsimp only at hSw; go_simp <;> (intro hh; omega)⟩) hH0 ?_
          simp only [Act.put]
          refine wpAnyH_take (i := 16) (oi := _) (v := .pointer (some ⟨w.heap.size + 1 + 1 + 1 + 1, k, none⟩)) rfl (by kernel_rfl) (by kernel_rfl) (by kernel_rfl) (fun _ _ _ h => h) (Or.inl ⟨by rfl, fun W hSw => by dsimp only at hSw; go_simp <;> (intro hh; omega)⟩) hH0 ?_
          simp only [Act.put]
          refine wpAnyH_take (i := 17) (oi := _) (v := .int .i64 ty) rfl (by kernel_rfl) (by kernel_rfl) (by kernel_rfl) (fun _ _ _ h => h) (Or.inl ⟨by rfl, fun W hSw => by dsimp only at hSw; go_simp <;> (intro hh; omega)⟩) hH0 ?_
          simp only [Act.put]
          refine wpAnyH_ready (rs := [11]) (by kernel_rfl) (by simp) ?_
          refine AllReadyH.cons rfl (fun K hK => ?_) (AllReadyH.nil)
          go_simp
          refine hK.out _ _ hH0 (fun _ => ?_)
          clear hK K
          refine wpAnyH_ready (rs := [12]) (by kernel_rfl) (by simp) ?_
          refine AllReadyH.cons rfl (fun K hK => ?_) (AllReadyH.nil)
          go_simp
          refine hK.out _ _ hH0 (fun _ => ?_)
          clear hK K
          refine wpAnyH_ready (rs := [13]) (by kernel_rfl) (by simp) ?_
          refine AllReadyH.cons rfl (fun K hK => ?_) (AllReadyH.nil)
          go_simp
          refine hK.out _ _ hH0 (fun _ => ?_)
          clear hK K
          refine wpAnyH_ready (rs := [18]) (by kernel_rfl) (by simp) ?_
          refine AllReadyH.cons rfl (fun K hK => ?_) (AllReadyH.nil)
          go_simp
          refine hK.out _ _ hH0 (fun _ => ?_)
          clear hK K
          refine wpAnyH_ready (rs := [19]) (by kernel_rfl) (by simp) ?_
          refine AllReadyH.cons rfl (fun K hK => ?_) (AllReadyH.nil)
          go_simp
          refine hK.out _ _ ⟨?_, ?_, ?_⟩ (fun _ => ?_)
          · go_simp
          · go_simp
          · go_simp
          clear hK K hH0
          refine wpAnyH_ready (rs := [20]) (by kernel_rfl) (by simp) ?_
          refine AllReadyH.cons rfl (fun K hK => ?_) (AllReadyH.nil)
          go_simp
          refine hK.out _ _ ⟨?_, ?_, ?_⟩ (fun _ => ?_)
          · go_simp
          · go_simp
          · go_simp
          clear hK K
          refine wpAnyH_done (by kernel_rfl) ?_ _
          go_wp2_with fail
          rw [← HK2.out]
          refine endFn Tryz.results24 _ w.heap.size (c0 := .int .i64 le) (c1 := .int .i64 mo) (c2 := .bool b2) (c3 := .int .i64 ty) (c := .bool true) ?_ ?_ ?_ ?_ (by rfl) (by rfl) rfl ⟨?_, ?_⟩
          · go_simp
          · go_simp
          · go_simp
          · go_simp
          · exact ((((HB.out.setCell (p := ⟨w.heap.size, 0, none⟩) (Nat.le_refl _) _).setCell (p := ⟨w.heap.size, 1, none⟩) (Nat.le_refl _) _).setCell (p := ⟨w.heap.size, 2, none⟩) (Nat.le_refl _) _).setCell (p := ⟨w.heap.size, 3, none⟩) (Nat.le_refl _) _).drew
          · have hnd : nd = (true && b2) := HE5.out
            rw [hnd]
            rfl
      · rw [if_neg hs] at hk2
        have HK2 := Lib.hid hk2
        have hq : ((bs n).toList == (bs s).toList) = false := by rw [bs_tl, bs_tl, beq_eq_false_iff_ne]; exact fun e => hs e.symm
        clear hk2 hs q2 q6 e5 HK
        generalize bs n = N at *
        generalize bs s = S at *
        go_wp2_with fail
        go_round
        case rel => exact ⟨k + 1, by go_num, by omega, HK2⟩
        case measure => simp [RowKit.intOf]; omega
    · have e : k = 26 := by omega
      subst e
      have hk2 := HK.out
      have hk3 : fnG (fnR.drop 26) s = none := rfl
      rw [hk3] at hk2
      have HK2 := Lib.hid hk2
      clear hk2 hk3 HK
      go_wp2_with fail
      rw [← HK2.out]
      refine endFn Tryz.results24 _ w.heap.size (c0 := .int .i64 0) (c1 := .int .i64 0) (c2 := .bool false) (c3 := .int .i64 0) (c := .bool false) ?_ ?_ ?_ ?_ (by rfl) (by rfl) rfl ⟨?_, rfl⟩
      · go_simp
      · go_simp
      · go_simp
      · go_simp
      · exact (((HB.out.setCell (p := ⟨w.heap.size, 0, none⟩) (Nat.le_refl _) _).setCell (p := ⟨w.heap.size, 1, none⟩) (Nat.le_refl _) _).setCell (p := ⟨w.heap.size, 2, none⟩) (Nat.le_refl _) _).setCell (p := ⟨w.heap.size, 3, none⟩) (Nat.le_refl _) _
end Go.Proofs.YtpdbanaffohblaaGreatDoor.Char

/- The laws of stage 15 that ask no answer of the document's but a function: what works tells; functions. -/
namespace Go.Proofs.YtpdbanaffohblaaGreatDoor.Char
open Go.RowKit Go.Lib

theorem FnP.tup {w : World} {x : Option Fn4} {e : Ending} {w' : World} (h : FnP w x e w') : ∃ f b, f = x.getD fn0 ∧ b = x.isSome ∧ e = .returned (.tuple #[.agg #[.int .i64 f.least, .int .i64 f.most, .bool f.nodes, .int .i64 f.ty], .bool b]) ∧ Below w.heap.size w w' := by
  obtain ⟨h1, h2⟩ := h
  cases x with
  | none => exact ⟨_, _, rfl, rfl, h2, h1⟩
  | some f => exact ⟨_, _, rfl, rfl, h2, h1⟩
theorem eq_fnc (a b d : Int) (c : Bool) (w : World) : (binOp .eql 44 (.agg #[.int .i64 a, .int .i64 b, .bool c, .int .i64 d]) (.agg #[.int .i64 a, .int .i64 b, .bool c, .int .i64 d])).run Tryz.prog w = .ok (.bool true) w := by
  have u9 := Tryz.underlying3
  have u7 := Tryz.underlying4
  have a9 := Tryz.isAgg3
  have a7 := Tryz.isAgg4
  have z9 := Tryz.sizeOf3
  have z7 := Tryz.sizeOf4
  have hS : Tryz.prog.underlying 44 = some (.struct (Tryz.prog.fieldsOf 44)) := by kernel_rfl
  have hp : Tryz.prog.stoodInHeld 44 = false := by kernel_rfl
  rw [run_eql_struct, show (10000 : Nat) = 9999 + 1 from rfl, run_equalIn_agg w 9999 44 _ _ hS hp]
  simp only [Program.fieldsOf, Tryz.underlying44]
  go_simp
theorem guard_fnc (op : BinOp) (x y : Operand) (xs ys : Array Value) (w : World) : (eqGuard op 44 x y (.agg xs) (.agg ys)).run Tryz.prog w = .ok () w :=
  run_eqGuard_agg w op 44 x y _ _ (by kernel_rfl)
theorem comp_called (l : List UInt8) (w : World) (hl : l.length ≤ 140737488351232) (hG : Gl w) : Calls Tryz.prog 28 #[.string (bs l)] w fun e w' => ∃ (x : Ex) (o1 o2 : Option Addr) (j1 j2 : Nat) (t f : Int), comR l = (x, t, f) ∧
    e = .returned (.tuple #[.agg #[.int .i64 x.op, .string (bs x.s), .int .i64 x.tg, .int .i64 x.vl, .bool x.abs, .slice o1 x.ks.length j1, .slice o2 x.ss.length j2], .int .i64 t, .int .i64 f]) ∧ Below w.heap.size w w' ∧ ExOn w' (fun _ => True) x (.slice o1 x.ks.length j1) (.slice o2 x.ss.length j2) := by
  refine (compC_any l w hl hG).mono ?_
  rintro e w' ⟨hb, vk, vs, rfl, hx⟩
  obtain ⟨h1, h2⟩ := ExOn.iff.1 hx
  obtain ⟨o1, j1, rfl⟩ := h1.form
  obtain ⟨o2, j2, rfl⟩ := h2.form
  exact ⟨(comR l).1, o1, o2, j1, j2, (comR l).2.1, (comR l).2.2, rfl, rfl, hb, ExOn.move (fun _ _ _ => ⟨trivial, rfl⟩) _ _ _ hx⟩
theorem comp_one : (comR [99, 111, 117, 110, 116, 40, 47, 47, 97, 41, 32, 43, 32, 49]).2 = (3, 0) := by kernel_rfl
theorem comp_two : (comR [99, 111, 117, 110, 116, 40, 49, 41]).2 = (0, 35) := by kernel_rfl
set_option maxRecDepth 100000 in
set_option maxHeartbeats 8000000 in
theorem works15_any (w : World) (hG : Gl w) : Calls Tryz.prog 25 #[] w fun e w' => e = .returned (.bool true) ∧ Below w.heap.size w w' := by
  have HP := Lib.hid (comp_called [99, 111, 117, 110, 116, 40, 47, 47, 97, 41, 32, 43, 32, 49] w (by decide) hG)
  have HQ := Lib.hid fun (W : World) (hb : Below w.heap.size w W) => comp_called [99, 111, 117, 110, 116, 40, 49, 41] W (by decide) (hG.below hb)
  clear hG
  go_enter Tryz.func25, Tryz.ntmps25
  go_wp2_with fail
  refine HP.out.mono ?_
  rintro e w1 ⟨x, o1, o2, j1, j2, t, f, hc, rfl, hb1, _⟩
  have hc2 := comp_one
  rw [hc] at hc2
  obtain ⟨rfl, rfl⟩ : t = 3 ∧ f = 0 := Prod.mk.injEq .. ▸ hc2
  have HB1 := Lib.hid fun o => hb1.trans ((below_box (w := w1) o).mono hb1.size)
  clear hb1 hc hc2 HP
  go_wp2_with fail
  refine (HQ.out _ (HB1.out _)).mono ?_
  rintro e w2 ⟨y, o3, o4, j3, j4, t, f, hc, rfl, hb2, _⟩
  have hc2 := comp_two
  rw [hc] at hc2
  obtain ⟨rfl, rfl⟩ : t = 0 ∧ f = 35 := Prod.mk.injEq .. ▸ hc2
  have HB2 := Lib.hid fun o => ((HB1.out _).trans (hb2.mono (HB1.out _).size)).trans ((below_box (w := w2) o).mono ((HB1.out _).trans (hb2.mono (HB1.out _).size)).size)
  clear hb2 hc hc2 HQ
  go_wp2_with fail
  go_ret
  exact ⟨rfl, HB2.out _⟩
set_option maxRecDepth 100000 in
set_option maxHeartbeats 8000000 in
theorem funcs_law (s : ByteArray) (w : World) (hG : Gl w) : Calls Tryz.prog 7 #[.string s] w fun e w' => e = .returned (.bool true) ∧ Below w.heap.size w w' := by
  obtain ⟨l, rfl⟩ : ∃ l, s = bs l := ⟨s.data.toList, (bs_of s).symm⟩
  have HF := Lib.hid (func_any l w)
  have HR := Lib.hid fun W => refFn_any l W
  have HWK := Lib.hid fun (W : World) (hb : Below w.heap.size w W) => works15_any W (hG.below hb)
  have he := eq_fnc
  have hg := guard_fnc
  generalize bs l = S at *
  clear hG
  go_enter Tryz.func7, Tryz.ntmps7
  go_wp2_with fail
  refine HF.out.mono ?_
  intro e w1 h1
  obtain ⟨f, b, hf, hb, rfl, hb1⟩ := h1.tup
  have HB1 := Lib.hid hb1
  have HFF := Lib.hid (And.intro hf hb)
  clear h1 hb1 HF hf hb
  go_wp2_with fail
  refine (HR.out _).mono ?_
  intro e w2 h2
  obtain ⟨g, c, hg2, hc, rfl, hb2⟩ := h2.tup
  rw [← HFF.out.1] at hg2
  rw [← HFF.out.2] at hc
  subst hg2 hc
  obtain ⟨W1, hW1⟩ : ∃ W1, W1 = w1.alloc (.cells #[.int .i64 g.least, .int .i64 g.most, .bool g.nodes, .int .i64 g.ty] 44) := ⟨_, rfl⟩
  rw [← hW1] at hb2
  have hbb : Below w.heap.size w W1 := HB1.out.trans (by rw [hW1]; exact (below_box _).mono HB1.out.size)
  have hk : W1.heap[w1.heap.size]? = some (.cells #[.int .i64 g.least, .int .i64 g.most, .bool g.nodes, .int .i64 g.ty] 44 (0, 0)) := by rw [hW1]; exact World.alloc_heap_new w1 _
  have hk2 := (hb2.block w1.heap.size (by rw [hW1]; simp)).trans hk
  have hb3 : ∀ ob, Below w.heap.size w (w2.alloc ob) := fun ob => (hbb.trans (hb2.mono hbb.size)).trans ((below_box (w := w2) ob).mono (hbb.trans (hb2.mono hbb.size)).size)
  have hlt : w1.heap.size < w2.heap.size := (Array.getElem?_eq_some_iff.1 hk2).1
  have hk3 : ∀ ob, (w2.alloc ob).heap[w1.heap.size]? = some (.cells #[.int .i64 g.least, .int .i64 g.most, .bool g.nodes, .int .i64 g.ty] 44 (0, 0)) := fun ob => (Below.heap_alloc _ _ _ hlt).trans hk2
  have c0 : ∀ ob, (w2.alloc ob).cell? ⟨w1.heap.size, 0, none⟩ = some (.int .i64 g.least) := fun ob => by simp [World.cell?, hk3 ob]
  have c1 : ∀ ob, (w2.alloc ob).cell? ⟨w1.heap.size, 1, none⟩ = some (.int .i64 g.most) := fun ob => by simp [World.cell?, hk3 ob]
  have c2 : ∀ ob, (w2.alloc ob).cell? ⟨w1.heap.size, 2, none⟩ = some (.bool g.nodes) := fun ob => by simp [World.cell?, hk3 ob]
  have c3 : ∀ ob, (w2.alloc ob).cell? ⟨w1.heap.size, 3, none⟩ = some (.int .i64 g.ty) := fun ob => by simp [World.cell?, hk3 ob]
  have HB3 := Lib.hid hb3
  clear h2 hb2 hbb hk hk2 hk3 hlt hW1 hb3 HR HFF
  go_wp2_with fail
  refine (HWK.out _ (HB3.out _)).mono ?_
  rintro e w3 ⟨rfl, hb4⟩
  have HB4 := Lib.hid ((HB3.out _).trans (hb4.mono (HB3.out _).size))
  clear hb4
  go_wp2_with fail
  go_ret
  exact ⟨rfl, HB4.out⟩
end Go.Proofs.YtpdbanaffohblaaGreatDoor.Char

/- A world in which the listed variables read as the rows list them; and what the rows' list, and a well-shaped world, give the walks. -/
namespace Go.Proofs.YtpdbanaffohblaaGreatDoor.Char
open Go.ChangeShapes Go.WideShapes Go.ChangeAt Go.RowKit

theorem own : ownKnob Tryz.prog.godebug = none := by kernel_rfl

/-- what the rows list -/
def laid : List (String × DataW Unit) := [("unicode/utf8.acceptRanges", Rows.laid_unicode_utf8_acceptRanges), ("unicode/utf8.first", Rows.laid_unicode_utf8_first)]
def laidL : List (String × DataW Unit) := [("unicode/utf8.acceptRanges", Lib.acceptData), ("unicode/utf8.first", Lib.firstData)]
theorem accept_eq : (Rows.laid_unicode_utf8_acceptRanges : DataW Unit) = Lib.acceptData := by kernel_rfl
theorem first_eq : Rows.laid_unicode_utf8_first = Lib.firstData := Pinned.utf8First_eq
theorem laid_eq : laid = laidL := by
  unfold laid laidL
  rw [accept_eq, first_eq]
/-- the settled world, the variables holding what their initialisers lay -/
noncomputable def laidWorld (os : Os) : World := World.laidAll Tryz.prog os laid
theorem laid_met (os : Os) (args : Array Value) : laidMet Tryz.prog laid ((laidWorld os).forCall (fun _ _ => 0) ⟨#[], args, []⟩).memory := laidMet_laidAll _ (by kernel_rfl) (by kernel_rfl)
theorem maxL_of {W : World} (h : W.ShapedOpen Tryz.prog) : MaxL W :=
  cell_of_shapedOpen_int (t := 3) (zero := #[.int .i64 0]) h (of_decide_eq_true (by kernel_rfl)) (by kernel_rfl) rfl (by kernel_rfl) (by kernel_rfl) Tryz.underlying3
theorem tabs_of {W : World} (hL : laidMetH Tryz.prog laid W) : Tabs W := by
  rw [laid_eq] at hL
  exact utf8Tabs_of_readsT (U8Types.of196 laysValid) ⟨by kernel_rfl, by kernel_rfl, by kernel_rfl, by kernel_rfl, by kernel_rfl, by kernel_rfl, by kernel_rfl⟩ (Lib.laidMet.reads hL (by unfold laidL; simp)) (Lib.laidMet.reads hL (by unfold laidL; simp))
theorem reachBytes_val : reachBytes ≤ 140737488351232 := by decide
theorem gl_of {W : World} (hL : laidMetH Tryz.prog laid W) (hS : W.ShapedOpen Tryz.prog) : Gl W := ⟨tabs_of hL, maxL_of hS⟩
end Go.Proofs.YtpdbanaffohblaaGreatDoor.Char
