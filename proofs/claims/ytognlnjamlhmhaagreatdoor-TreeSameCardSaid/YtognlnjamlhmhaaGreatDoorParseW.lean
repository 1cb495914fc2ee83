/- ParseW -/
import Derived.Test.YtognlnjamlhmhaaGreatDoorPkNm
import Derived.Test.YtognlnjamlhmhaaGreatDoorGrown
import Derived.Test.YtognlnjamlhmhaaGreatDoorPkScan
/- The walk of the program's Parse. -/
namespace Go.Proofs.YtognlnjamlhmhaaGreatDoor.Char
open Go.RowKit Go.Lib

set_option maxRecDepth 100000 in
set_option maxHeartbeats 4000000 in
theorem parse_any (l : List UInt8) (w : World) (hz : l.length ≤ 9223372036854775807) (hG : Gl6 w) :
    Calls Tryz.prog 8 #[.string (bs l)] w (GrPost w.heap.size w (parseL l)) := by
  obtain ⟨W0, hW0⟩ : ∃ W0, W0 = w.alloc (.cells #[.int .i64 0, .string ⟨#[]⟩, .string ⟨#[]⟩, .slice none 0 0, .slice none 0 0] 26) := ⟨_, rfl⟩
  have b0 : Below w.heap.size w W0 := by rw [hW0]; exact (Below.refl _ _).alloc (Nat.le_refl _) _
  have s0 : W0.heap.size = w.heap.size + 1 := by rw [hW0]; simp
  have hrs : W0.heap[w.heap.size]? = some (.cells #[.int .i64 0, .string ⟨#[]⟩, .string ⟨#[]⟩, .slice none 0 0, .slice none 0 0] 26 (0, 0)) := by rw [hW0]; exact World.alloc_heap_new w _
  have HS := Lib.hid (scanA_any l W0 hz (hG.below b0))
  have HW0 := Lib.hid hW0
  have HB0 := Lib.hid b0
  -- the cell of the result, behind whatever lies above it
  have hcl : ∀ W, Below W0.heap.size W0 W → (∀ i, W.frozen? ⟨w.heap.size, i, none⟩ = false) ∧ W.cell? ⟨w.heap.size, 0, none⟩ = some (.int .i64 0) ∧ W.cell? ⟨w.heap.size, 1, none⟩ = some (.string ⟨#[]⟩) ∧ W.cell? ⟨w.heap.size, 2, none⟩ = some (.string ⟨#[]⟩) ∧ W.cell? ⟨w.heap.size, 3, none⟩ = some (.slice none 0 0) ∧ W.cell? ⟨w.heap.size, 4, none⟩ = some (.slice none 0 0) := fun W hW => by
    have h := (hW.block w.heap.size (by omega)).trans hrs
    exact ⟨fun i => by simp [World.frozen?, h], by simp [World.cell?, h], by simp [World.cell?, h], by simp [World.cell?, h], by simp [World.cell?, h], by simp [World.cell?, h]⟩
  have HCL := Lib.hid hcl
  clear hG hW0 b0 hrs hcl
  unfold parseL
  unfold ScPostA at HS
  cases hs : scanL l with
  | inl err =>
    rw [hs] at HS
    have hne : err ≠ 0 := by
      unfold scanL at hs
      split at hs
      · cases hs; decide
      · split at hs
        · cases hs; decide
        · exact scanF_errne hs
    have HS2 : Hid (Calls Tryz.prog 19 #[.string (bs l)] W0 fun e w' => e = .returned (.tuple #[.slice none 0 0, .int .i64 (err : Int)]) ∧ Below W0.heap.size W0 w') := HS
    have k1 : ((err : Int) == 0) = false := by rw [beq_eq_false_iff_ne]; omega
    obtain ⟨P, hP⟩ : ∃ P, GrPost w.heap.size w (.inl err) = P := ⟨_, rfl⟩
    dsimp only
    rw [hP]
    have HP := Lib.hid hP
    clear HS hs hP
    go_enter Tryz.func8, Tryz.ntmps8
    go_wp2_with fail
    rw [← HW0.out]
    refine HS2.out.mono ?_
    rintro e w1 ⟨rfl, hb1⟩
    obtain ⟨z0, z1, z2, z3, z4, z5⟩ := HCL.out w1 hb1
    have HB1 := Lib.hid (HB0.out.trans (hb1.mono (by omega)))
    clear hb1
    go_wp2_with fail
    refine end_nd2 Tryz.results8 _ w.heap.size (kd := 0) (n := ⟨#[]⟩) (t := ⟨#[]⟩) (va := .slice none 0 0) (vk := .slice none 0 0) ⟨_, _, _, rfl⟩ ⟨_, _, _, rfl⟩ ⟨by go_simp, by go_simp, by go_simp, by go_simp, by go_simp⟩ rfl rfl rfl ?_
    rw [← HP.out]
    exact ⟨rfl, (((((HB1.out.setCell (p := ⟨w.heap.size, 0, none⟩) (Nat.le_refl _) _).setCell (p := ⟨w.heap.size, 1, none⟩) (Nat.le_refl _) _).setCell (p := ⟨w.heap.size, 2, none⟩) (Nat.le_refl _) _).setCell (p := ⟨w.heap.size, 3, none⟩) (Nat.le_refl _) _).setCell (p := ⟨w.heap.size, 4, none⟩) (Nat.le_refl _) _)⟩
  | inr ts =>
    rw [hs] at HS
    have hl := (scanL_len hs).1
    have hok := scanL_tok hs
    have HS2 : Hid (Calls Tryz.prog 19 #[.string (bs l)] W0 fun e w' => ∃ (xs : List TkV) (o : Option Addr) (i j : Nat), xs.map (·.1) = ts ∧ e = .returned (.tuple #[.slice o i j, .int .i64 0]) ∧ OwnsTk W0.heap.size w' (.slice o i j) xs ∧ ApartT xs ∧ Below W0.heap.size W0 w') := HS
    obtain ⟨P, hP⟩ : ∃ P, GrPost w.heap.size w (runT ts [grd0] 0) = P := ⟨_, rfl⟩
    dsimp only
    rw [hP]
    have HP := Lib.hid hP
    have HOK := Lib.hid hok
    clear HS hs hP hok
    go_enter Tryz.func8, Tryz.ntmps8
    go_wp2_with fail
    rw [← HW0.out]
    refine HS2.out.mono ?_
    rintro e w1 ⟨xs, o, i, j, hx, rfl, ho, ha, hb1⟩
    have hC := grown_any W0.heap.size w1 xs o i j ho hb1.size ha (fun x hxm => HOK.out x.1 (by rw [← hx]; exact List.mem_map_of_mem hxm)) (by have := congrArg List.length hx; simp at this; omega)
    rw [hx] at hC
    have HC := Lib.hid hC
    have HB1 := Lib.hid hb1
    clear hC ho ha hb1 hx
    go_wp2_with fail
    refine HC.out.mono ?_
    intro e w2 hp
    cases hr : runT ts [grd0] 0 with
    | inl err =>
      rw [hr] at hp HP
      obtain ⟨rfl, hb⟩ := hp
      have hb2 := HB1.out.trans hb
      obtain ⟨z0, z1, z2, z3, z4, z5⟩ := HCL.out w2 hb2
      have HB2 := Lib.hid (HB0.out.trans (hb2.mono (by omega)))
      clear hb hb2 hr
      unfold zeroNd
      go_wp2_with fail
      refine end_nd2 Tryz.results8 _ w.heap.size (kd := 0) (n := ⟨#[]⟩) (t := ⟨#[]⟩) (va := .slice none 0 0) (vk := .slice none 0 0) ⟨_, _, _, rfl⟩ ⟨_, _, _, rfl⟩ ⟨by go_simp, by go_simp, by go_simp, by go_simp, by go_simp⟩ rfl rfl rfl ?_
      rw [← HP.out]
      exact ⟨rfl, (((((HB2.out.setCell (p := ⟨w.heap.size, 0, none⟩) (Nat.le_refl _) _).setCell (p := ⟨w.heap.size, 1, none⟩) (Nat.le_refl _) _).setCell (p := ⟨w.heap.size, 2, none⟩) (Nat.le_refl _) _).setCell (p := ⟨w.heap.size, 3, none⟩) (Nat.le_refl _) _).setCell (p := ⟨w.heap.size, 4, none⟩) (Nat.le_refl _) _)⟩
    | inr t =>
      rw [hr] at hp HP
      obtain ⟨va, vk, rfl, hn, hb⟩ := hp
      obtain ⟨oa, ja, ok, jk, rfl, rfl⟩ := hn.form
      have hb2 := HB1.out.trans hb
      obtain ⟨z0, z1, z2, z3, z4, z5⟩ := HCL.out w2 hb2
      have HB2 := Lib.hid (HB0.out.trans (hb2.mono (by omega)))
      have HN := Lib.hid hn
      clear hb hb2 hr hn
      unfold ndV
      go_wp2_with fail
      refine end_nd2 Tryz.results8 _ w.heap.size (kd := t.kd) (n := bs t.nm) (t := bs t.tx) (va := .slice oa t.ats.length ja) (vk := .slice ok t.ks.length jk) ⟨_, _, _, rfl⟩ ⟨_, _, _, rfl⟩ ⟨by go_simp, by go_simp, by go_simp, by go_simp, by go_simp⟩ rfl rfl rfl ?_
      rw [← HP.out]
      refine ⟨_, _, rfl, ?_, (((((HB2.out.setCell (p := ⟨w.heap.size, 0, none⟩) (Nat.le_refl _) _).setCell (p := ⟨w.heap.size, 1, none⟩) (Nat.le_refl _) _).setCell (p := ⟨w.heap.size, 2, none⟩) (Nat.le_refl _) _).setCell (p := ⟨w.heap.size, 3, none⟩) (Nat.le_refl _) _).setCell (p := ⟨w.heap.size, 4, none⟩) (Nat.le_refl _) _)⟩
      refine NdOn.move (fun b hb hF => ⟨by omega, ?_⟩) _ _ _ HN.out
      have hne : b ≠ w.heap.size := by omega
      rw [heap_set_ne hne, heap_set_ne hne, heap_set_ne hne, heap_set_ne hne, heap_set_ne hne]
end Go.Proofs.YtognlnjamlhmhaaGreatDoor.Char
