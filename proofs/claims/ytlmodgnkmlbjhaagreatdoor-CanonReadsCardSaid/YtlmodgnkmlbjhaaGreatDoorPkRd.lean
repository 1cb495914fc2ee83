import Derived.Test.YtlmodgnkmlbjhaaGreatDoorPkWr
import Derived.Test.YtlmodgnkmlbjhaaGreatDoorPkGrown
import Derived.Test.YtlmodgnkmlbjhaaGreatDoorPkFew
namespace Go.Proofs.YtlmodgnkmlbjhaaGreatDoor
set_option maxHeartbeats 4000000
set_option maxRecDepth 100000
namespace Char
open Go.RowKit Go.Lib Go.Shelf
theorem res_cells {W : World} {R : Nat} (h : W.heap[R]? = some (.cells #[.int .i64 0, .string ⟨#[]⟩, .string ⟨#[]⟩, .slice none 0 0, .slice none 0 0] 25 (0, 0))) : (∀ i, W.frozen? ⟨R, i, none⟩ = false) ∧ W.cell? ⟨R, 0, none⟩ = some (.int .i64 0) ∧ W.cell? ⟨R, 1, none⟩ = some (.string ⟨#[]⟩) ∧ W.cell? ⟨R, 2, none⟩ = some (.string ⟨#[]⟩) ∧ W.cell? ⟨R, 3, none⟩ = some (.slice none 0 0) ∧ W.cell? ⟨R, 4, none⟩ = some (.slice none 0 0) :=
 ⟨fun i => by simp [World.frozen?, h], by simp [World.cell?, h], by simp [World.cell?, h], by simp [World.cell?, h], by simp [World.cell?, h], by simp [World.cell?, h]⟩
theorem readC_any (l : List UInt8) (w : World) (hz : l.length ≤ 9223372036854775807) (hG : Gl6 w) :
  Calls Tryz.prog 13 #[.string (bs l)] w (GrPost w.heap.size w (rdC l)) := by
 obtain ⟨W0, hW0⟩ : ∃ W0, W0 = w.alloc (.cells #[.int .i64 0, .string ⟨#[]⟩, .string ⟨#[]⟩, .slice none 0 0, .slice none 0 0] 25) := ⟨_, rfl⟩
 have b0 : Below w.heap.size w W0 := by rw [hW0]; exact (Below.refl _ _).alloc (Nat.le_refl _) _
 have s0 : W0.heap.size = w.heap.size + 1 := by rw [hW0]; simp
 have hrs : W0.heap[w.heap.size]? = some (.cells #[.int .i64 0, .string ⟨#[]⟩, .string ⟨#[]⟩, .slice none 0 0, .slice none 0 0] 25 (0, 0)) := by rw [hW0]; exact World.alloc_heap_new w _
 have hp := parse_any l W0 hz (hG.below b0)
 have HW0 := hid hW0
 have HB0 := hid b0
 have HRS := hid hrs
 have HS0 := hid s0
 clear hW0 b0 hrs s0
 unfold rdC
 cases hg : parseL l with
 | inl err =>
  rw [hg] at hp
  have hp2 : Calls Tryz.prog 23 #[.string (bs l)] W0 fun e w' => e = .returned (.tuple #[.agg #[.int .i64 0, .string ⟨#[]⟩, .string ⟨#[]⟩, .slice none 0 0, .slice none 0 0], .int .i64 (err : Int)]) ∧ Below W0.heap.size W0 w' := hp
  have hne := parse_errne hg
  have k1 : ((err : Int) != 0) = true := by rw [bne_iff_ne]; omega
  show Calls Tryz.prog 13 #[.string (bs l)] w fun e w' => e = .returned (.tuple #[.agg #[.int .i64 0, .string ⟨#[]⟩, .string ⟨#[]⟩, .slice none 0 0, .slice none 0 0], .int .i64 (err : Int)]) ∧ Below w.heap.size w w'
  have HP := hid hp2
  clear hp hp2 hne hg hG hz
  go_enter Tryz.func13, Tryz.ntmps13
  go_wp2_with fail
  rw [← HW0.out]
  refine HP.out.mono ?_
  rintro e w1 ⟨rfl, hb1⟩
  obtain ⟨z0, z1, z2, z3, z4, z5⟩ := res_cells ((hb1.block _ (by rw [HS0.out]; omega)).trans HRS.out)
  have hzz : w.heap.size < w1.heap.size := by have := hb1.size; rw [HS0.out] at this; omega
  have HB1 := hid (HB0.out.trans (hb1.mono HB0.out.size))
  clear hb1
  go_wp2_with fail
  refine end_nd2 Tryz.results13 _ w.heap.size (c := .int .i64 (err : Int)) (kd := 0) (n := ⟨#[]⟩) (t := ⟨#[]⟩) (va := .slice none 0 0) (vk := .slice none 0 0) ⟨_, _, _, rfl⟩ ⟨_, _, _, rfl⟩ ⟨by go_simp, by go_simp, by go_simp, by go_simp, by go_simp⟩ rfl rfl rfl ?_
  exact ⟨rfl, ((((((HB1.out.setCell (p := ⟨w.heap.size, 0, none⟩) (Nat.le_refl _) _).setCell (p := ⟨w.heap.size, 1, none⟩) (Nat.le_refl _) _).setCell (p := ⟨w.heap.size, 2, none⟩) (Nat.le_refl _) _).setCell (p := ⟨w.heap.size, 3, none⟩) (Nat.le_refl _) _).setCell (p := ⟨w.heap.size, 4, none⟩) (Nat.le_refl _) _).alloc (by simp; omega) _)⟩
 | inr t =>
  rw [hg] at hp
  have hc := (parse_cnt hg).1
  have hsm := parse_sm16 hg
  have hrt := parse_right hg
  have HP := hid hp
  have hwr := wrL_right hrt
  have HW := hid (fun (W : World) va vk (hn : NdOn W (fun b => b < W.heap.size) t va vk) (hG : Gl6 W) => (writeC_any t va vk W hn (by omega) hsm hG))
  rw [hwr] at HW
  have HGL := hid hG
  have hml := (right_ok hrt hsm).2
  dsimp only
  clear hp hc hsm hrt hg hG hz hwr
  obtain ⟨M, hM⟩ : ∃ M, mkT t = M := ⟨_, rfl⟩
  rw [hM] at HW hml ⊢
  have hMs := bs_size M
  clear hM
  by_cases h4 : 4000 < M.length
  ·rw [if_pos h4]
   show Calls Tryz.prog 13 #[.string (bs l)] w fun e w' => e = .returned (.tuple #[.agg #[.int .i64 0, .string ⟨#[]⟩, .string ⟨#[]⟩, .slice none 0 0, .slice none 0 0], .int .i64 3]) ∧ Below w.heap.size w w'
   have h5 : (4000 : Int) < ((bs M).size : Int) := by rw [hMs]; omega
   go_enter Tryz.func13, Tryz.ntmps13
   go_wp2_with fail
   rw [← HW0.out]
   refine HP.out.mono ?_
   intro e w1 h1
   obtain ⟨va, vk, rfl, hn1, hb1⟩ := h1
   obtain ⟨oa, ja, ok, jk, rfl, rfl⟩ := hn1.form
   obtain ⟨z0, z1, z2, z3, z4, z5⟩ := res_cells ((hb1.block _ (by rw [HS0.out]; omega)).trans HRS.out)
   have hzz : w.heap.size < w1.heap.size := by have := hb1.size; rw [HS0.out] at this; omega
   have hb01 : Below w.heap.size w w1 := HB0.out.trans (hb1.mono HB0.out.size)
   unfold ndV
   obtain ⟨W2, hW2⟩ : ∃ W2, W2 = w1.alloc (.cells #[.int .i64 t.kd, .string (bs t.nm), .string (bs t.tx), .slice oa t.ats.length ja, .slice ok t.ks.length jk] 25) := ⟨_, rfl⟩
   have b2 : Below w1.heap.size w1 W2 := by rw [hW2]; exact (Below.refl _ _).alloc (Nat.le_refl _) _
   have s2 : W2.heap.size = w1.heap.size + 1 := by rw [hW2]; simp
   have hbk : W2.heap[w1.heap.size]? = some (.cells #[.int .i64 t.kd, .string (bs t.nm), .string (bs t.tx), .slice oa t.ats.length ja, .slice ok t.ks.length jk] 25 (0, 0)) := by rw [hW2]; exact World.alloc_heap_new w1 _
   have hw2 := HW.out W2 _ _ (hn1.move (fun b hb _ => ⟨Nat.lt_of_lt_of_le hb b2.size, b2.block b hb⟩)) (HGL.out.below (hb01.trans (b2.mono hb01.size)))
   have hres : W2.heap[w.heap.size]? = some (.cells #[.int .i64 0, .string ⟨#[]⟩, .string ⟨#[]⟩, .slice none 0 0, .slice none 0 0] 25 (0, 0)) := (b2.block _ hzz).trans ((hb1.block _ (by rw [HS0.out]; omega)).trans HRS.out)
   unfold ndV at hw2
   have HW2 := hid hW2
   have HWW := hid hw2
   have HRES := hid hres
   have HBK := hid hbk
   have HB2 := hid (hb01.trans (b2.mono hb01.size))
   have HS2 := hid s2
   have HN1 := hid (hn1.move (F' := fun b => w.heap.size + 1 ≤ b) (fun b _ hF => ⟨by rw [← HS0.out]; exact hF, b2.block b (by assumption)⟩))
   clear hW2 b2 s2 hbk hw2 hres hn1 hb1 hb01 z0 z1 z2 z3 z4 z5
   go_wp2_with fail
   rw [← HW2.out]
   refine HWW.out.mono ?_
   rintro e w3 ⟨rfl, hb3⟩
   have hsz3 : w.heap.size < w3.heap.size := by have h1 := hb3.size; have h2 := HS2.out; omega
   obtain ⟨z0, z1, z2, z3, z4, z5⟩ := res_cells ((hb3.block _ (by rw [HS2.out]; omega)).trans HRES.out)
   have hbn := (hb3.block _ (by rw [HS2.out]; omega)).trans HBK.out
   have y0 : w3.cell? ⟨w1.heap.size, 0, none⟩ = some (.int .i64 t.kd) := cell_row hbn rfl
   have y1 : w3.cell? ⟨w1.heap.size, 1, none⟩ = some (.string (bs t.nm)) := cell_row hbn rfl
   have y2 : w3.cell? ⟨w1.heap.size, 2, none⟩ = some (.string (bs t.tx)) := cell_row hbn rfl
   have y3 : w3.cell? ⟨w1.heap.size, 3, none⟩ = some (.slice oa t.ats.length ja) := cell_row hbn rfl
   have y4 : w3.cell? ⟨w1.heap.size, 4, none⟩ = some (.slice ok t.ks.length jk) := cell_row hbn rfl
   have HB3 := hid (HB2.out.trans (hb3.mono HB2.out.size))
   have HN3 := hid (HN1.out.move (fun b hb hF => ⟨hF, hb3.block b hb⟩))
   clear hb3 hbn
   go_wp2_with fail
   refine end_nd2 Tryz.results13 _ w.heap.size (c := .int .i64 3) (kd := 0) (n := ⟨#[]⟩) (t := ⟨#[]⟩) (va := .slice none 0 0) (vk := .slice none 0 0) ⟨_, _, _, rfl⟩ ⟨_, _, _, rfl⟩ ⟨by go_simp, by go_simp, by go_simp, by go_simp, by go_simp⟩ rfl rfl rfl ?_
   exact ⟨rfl, (((((HB3.out.setCell (p := ⟨w.heap.size, 0, none⟩) (Nat.le_refl _) _).setCell (p := ⟨w.heap.size, 1, none⟩) (Nat.le_refl _) _).setCell (p := ⟨w.heap.size, 2, none⟩) (Nat.le_refl _) _).setCell (p := ⟨w.heap.size, 3, none⟩) (Nat.le_refl _) _).setCell (p := ⟨w.heap.size, 4, none⟩) (Nat.le_refl _) _)⟩
  ·rw [if_neg h4]
   show Calls Tryz.prog 13 #[.string (bs l)] w fun e w' => ∃ va vk, e = .returned (.tuple #[ndV t va vk, .int .i64 0]) ∧ NdOn w' (fun b => w.heap.size ≤ b) t va vk ∧ Below w.heap.size w w'
   have h5 : ¬ (4000 : Int) < ((bs M).size : Int) := by rw [hMs]; omega
   go_enter Tryz.func13, Tryz.ntmps13
   go_wp2_with fail
   rw [← HW0.out]
   refine HP.out.mono ?_
   intro e w1 h1
   obtain ⟨va, vk, rfl, hn1, hb1⟩ := h1
   obtain ⟨oa, ja, ok, jk, rfl, rfl⟩ := hn1.form
   obtain ⟨z0, z1, z2, z3, z4, z5⟩ := res_cells ((hb1.block _ (by rw [HS0.out]; omega)).trans HRS.out)
   have hzz : w.heap.size < w1.heap.size := by have := hb1.size; rw [HS0.out] at this; omega
   have hb01 : Below w.heap.size w w1 := HB0.out.trans (hb1.mono HB0.out.size)
   unfold ndV
   obtain ⟨W2, hW2⟩ : ∃ W2, W2 = w1.alloc (.cells #[.int .i64 t.kd, .string (bs t.nm), .string (bs t.tx), .slice oa t.ats.length ja, .slice ok t.ks.length jk] 25) := ⟨_, rfl⟩
   have b2 : Below w1.heap.size w1 W2 := by rw [hW2]; exact (Below.refl _ _).alloc (Nat.le_refl _) _
   have s2 : W2.heap.size = w1.heap.size + 1 := by rw [hW2]; simp
   have hbk : W2.heap[w1.heap.size]? = some (.cells #[.int .i64 t.kd, .string (bs t.nm), .string (bs t.tx), .slice oa t.ats.length ja, .slice ok t.ks.length jk] 25 (0, 0)) := by rw [hW2]; exact World.alloc_heap_new w1 _
   have hw2 := HW.out W2 _ _ (hn1.move (fun b hb _ => ⟨Nat.lt_of_lt_of_le hb b2.size, b2.block b hb⟩)) (HGL.out.below (hb01.trans (b2.mono hb01.size)))
   have hres : W2.heap[w.heap.size]? = some (.cells #[.int .i64 0, .string ⟨#[]⟩, .string ⟨#[]⟩, .slice none 0 0, .slice none 0 0] 25 (0, 0)) := (b2.block _ hzz).trans ((hb1.block _ (by rw [HS0.out]; omega)).trans HRS.out)
   unfold ndV at hw2
   have HW2 := hid hW2
   have HWW := hid hw2
   have HRES := hid hres
   have HBK := hid hbk
   have HB2 := hid (hb01.trans (b2.mono hb01.size))
   have HS2 := hid s2
   have HN1 := hid (hn1.move (F' := fun b => w.heap.size + 1 ≤ b) (fun b _ hF => ⟨by rw [← HS0.out]; exact hF, b2.block b (by assumption)⟩))
   clear hW2 b2 s2 hbk hw2 hres hn1 hb1 hb01 z0 z1 z2 z3 z4 z5
   go_wp2_with fail
   rw [← HW2.out]
   refine HWW.out.mono ?_
   rintro e w3 ⟨rfl, hb3⟩
   have hsz3 : w.heap.size < w3.heap.size := by have h1 := hb3.size; have h2 := HS2.out; omega
   obtain ⟨z0, z1, z2, z3, z4, z5⟩ := res_cells ((hb3.block _ (by rw [HS2.out]; omega)).trans HRES.out)
   have hbn := (hb3.block _ (by rw [HS2.out]; omega)).trans HBK.out
   have y0 : w3.cell? ⟨w1.heap.size, 0, none⟩ = some (.int .i64 t.kd) := cell_row hbn rfl
   have y1 : w3.cell? ⟨w1.heap.size, 1, none⟩ = some (.string (bs t.nm)) := cell_row hbn rfl
   have y2 : w3.cell? ⟨w1.heap.size, 2, none⟩ = some (.string (bs t.tx)) := cell_row hbn rfl
   have y3 : w3.cell? ⟨w1.heap.size, 3, none⟩ = some (.slice oa t.ats.length ja) := cell_row hbn rfl
   have y4 : w3.cell? ⟨w1.heap.size, 4, none⟩ = some (.slice ok t.ks.length jk) := cell_row hbn rfl
   have HB3 := hid (HB2.out.trans (hb3.mono HB2.out.size))
   have HN3 := hid (HN1.out.move (fun b hb hF => ⟨hF, hb3.block b hb⟩))
   clear hb3 hbn
   go_wp2_with fail
   refine end_nd2 Tryz.results13 _ w.heap.size (c := .int .i64 0) (kd := t.kd) (n := bs t.nm) (t := bs t.tx) (va := .slice oa t.ats.length ja) (vk := .slice ok t.ks.length jk) ⟨_, _, _, rfl⟩ ⟨_, _, _, rfl⟩ ⟨by go_simp, by go_simp, by go_simp, by go_simp, by go_simp⟩ rfl rfl rfl ?_
   refine ⟨_, _, rfl, ?_, (((((HB3.out.setCell (p := ⟨w.heap.size, 0, none⟩) (Nat.le_refl _) _).setCell (p := ⟨w.heap.size, 1, none⟩) (Nat.le_refl _) _).setCell (p := ⟨w.heap.size, 2, none⟩) (Nat.le_refl _) _).setCell (p := ⟨w.heap.size, 3, none⟩) (Nat.le_refl _) _).setCell (p := ⟨w.heap.size, 4, none⟩) (Nat.le_refl _) _)⟩
   refine NdOn.move (fun b hb hF => ⟨by omega, ?_⟩) _ _ _ HN3.out
   have hne : b ≠ w.heap.size := by omega
   rw [heap_set_ne hne, heap_set_ne hne, heap_set_ne hne, heap_set_ne hne, heap_set_ne hne]
end Char
namespace Char
open Go.RowKit Go.Lib Go.Shelf
def wk8 : Tr := .mk 2 [97] [] [([120], [50]), ([121], [49])] [.mk 2 [98] [] [] [], .mk 4 [] [99, 62] [] []]
theorem wk8_parse : parseL [60, 97, 32, 32, 121, 61, 39, 49, 39, 32, 120, 61, 34, 50, 34, 62, 60, 98, 47, 62, 99, 62, 60, 47, 97, 32, 62] = .inr wk8 := by
 kernel_rfl
theorem wk8_mk : mkT wk8 = [60, 97, 32, 120, 61, 34, 50, 34, 32, 121, 61, 34, 49, 34, 62, 60, 98, 62, 60, 47, 98, 62, 99, 38, 103, 116, 59, 60, 47, 97, 62] := by decide +kernel
theorem wk8_read : rdC [60, 97, 32, 32, 121, 61, 39, 49, 39, 32, 120, 61, 34, 50, 34, 62, 60, 98, 47, 62, 99, 62, 60, 47, 97, 32, 62] = .inr wk8 := by
 unfold rdC
 rw [wk8_parse]
 dsimp only
 rw [if_neg (by rw [wk8_mk]; decide)]
theorem wk8_cnt : cntT wk8 = 3 := by simp [wk8, cntT, cntK]
theorem works8_any (w : World) (hG : Gl6 w) : Calls Tryz.prog 9 #[] w fun e w' => e = .returned (.bool true) ∧ Below w.heap.size w w' := by
 have hp := fun W (hb : Below w.heap.size w W) => readC_any [60, 97, 32, 32, 121, 61, 39, 49, 39, 32, 120, 61, 34, 50, 34, 62, 60, 98, 47, 62, 99, 62, 60, 47, 97, 32, 62] W (by decide) (hG.below hb)
 rw [wk8_read] at hp
 have hwr : wrL wk8 = [60, 97, 32, 120, 61, 34, 50, 34, 32, 121, 61, 34, 49, 34, 62, 60, 98, 62, 60, 47, 98, 62, 99, 38, 103, 116, 59, 60, 47, 97, 62] := (wrL_right (parse_right wk8_parse)).trans wk8_mk
 have hW := fun (W : World) va vk (hn : NdOn W (fun b => b < W.heap.size) wk8 va vk) (hG : Gl6 W) => writeC_any wk8 va vk W hn (by rw [wk8_cnt]; omega) (parse_sm16 wk8_parse) hG
 rw [hwr] at hW
 have HP := hid hp
 have HW := hid hW
 have HGL := hid hG
 clear hp hG hW hwr
 go_enter Tryz.func9, Tryz.ntmps9
 go_wp2_with fail
 refine (HP.out w (Below.refl _ _)).mono ?_
 rintro e w1 ⟨va, vk, rfl, hn1, hb1⟩
 obtain ⟨oa, ja, ok, jk, rfl, rfl⟩ := hn1.form
 obtain ⟨W2, hW2⟩ : ∃ W2, W2 = w1.alloc (.cells #[.int .i64 wk8.kd, .string (bs wk8.nm), .string (bs wk8.tx), .slice oa wk8.ats.length ja, .slice ok wk8.ks.length jk] 25) := ⟨_, rfl⟩
 have b2 : Below w1.heap.size w1 W2 := by rw [hW2]; exact (Below.refl _ _).alloc (Nat.le_refl _) _
 have hw2 := HW.out W2 _ _ (hn1.move (fun b hb _ => ⟨Nat.lt_of_lt_of_le hb b2.size, b2.block b hb⟩)) (HGL.out.below (hb1.trans (b2.mono hb1.size)))
 unfold ndV at hw2 ⊢
 have HB2 := hid (hb1.trans (b2.mono hb1.size))
 have HW2 := hid hW2
 have HWW := hid hw2
 clear hW2 b2 hw2 hb1 hn1
 go_wp2_with fail
 rw [← HW2.out]
 refine HWW.out.mono ?_
 rintro e w3 ⟨rfl, hb3⟩
 have hr : (bs [60, 97, 32, 120, 61, 34, 50, 34, 32, 121, 61, 34, 49, 34, 62, 60, 98, 62, 60, 47, 98, 62, 99, 38, 103, 116, 59, 60, 47, 97, 62]) = ⟨#[60, 97, 32, 120, 61, 34, 50, 34, 32, 121, 61, 34, 49, 34, 62, 60, 98, 62, 60, 47, 98, 62, 99, 38, 103, 116, 59, 60, 47, 97, 62]⟩ := rfl
 rw [hr]
 have HB3 := hid (HB2.out.trans (hb3.mono HB2.out.size))
 clear hb3
 go_wp2_with fail
 go_ret
 exact ⟨rfl, HB3.out⟩
end Char
namespace Char
open Go.RowKit Go.Lib Go.Shelf
theorem same_self (t : Tr) (va vk ua uk : Value) (w : World) (F G : Nat → Prop) (h1 : NdOn w F t va vk) (h2 : NdOn w G t ua uk) (hc : cntT t ≤ 1000000) (hm : mxT t ≤ 2 ^ 62) :
  Calls Tryz.prog 15 #[ndV t va vk, ndV t ua uk] w fun e w' => e = .returned (.bool true) ∧ Below w.heap.size w w' := by
 have h := refSame_any 1000000 t t va vk ua uk w F G hc h1 h2 hm (by omega)
 rw [eqT_self] at h
 exact h
theorem same_zero (W : World) : Calls Tryz.prog 15 #[.agg #[.int .i64 0, .string ⟨#[]⟩, .string ⟨#[]⟩, .slice none 0 0, .slice none 0 0], .agg #[.int .i64 0, .string ⟨#[]⟩, .string ⟨#[]⟩, .slice none 0 0, .slice none 0 0]] W fun e w' => e = .returned (.bool true) ∧ Below W.heap.size W w' :=
 same_self (.mk 0 [] [] [] []) (.slice none 0 0) (.slice none 0 0) (.slice none 0 0) (.slice none 0 0) W (fun _ => True) (fun _ => True) (NdOn.of ⟨none, 0, 0, rfl, rfl, .inl rfl⟩ ⟨none, 0, 0, rfl, rfl, .inl rfl⟩) (NdOn.of ⟨none, 0, 0, rfl, rfl, .inl rfl⟩ ⟨none, 0, 0, rfl, rfl, .inl rfl⟩) (by rw [cntT, cntK]; omega) (by rw [mxT, mxK]; simp)
def rdT : Nat ⊕ Tr → Tr
 | .inl _ => .mk 0 [] [] [] []
 | .inr t => t
def rdE : Nat ⊕ Tr → Nat
 | .inl e => e
 | .inr _ => 0
theorem zero_on (W : World) (F : Nat → Prop) : NdOn W F (.mk 0 [] [] [] []) (.slice none 0 0) (.slice none 0 0) := NdOn.of ⟨none, 0, 0, rfl, rfl, .inl rfl⟩ ⟨none, 0, 0, rfl, rfl, .inl rfl⟩
def RdPost (w : World) (G : Nat ⊕ Tr) (e : Ending) (w' : World) : Prop := ∃ oa ja ok jk, e = .returned (.tuple #[.agg #[.int .i64 (rdT G).kd, .string (bs (rdT G).nm), .string (bs (rdT G).tx), .slice oa (rdT G).ats.length ja, .slice ok (rdT G).ks.length jk], .int .i64 (rdE G : Int)]) ∧ NdOn w' (fun b => b < w'.heap.size) (rdT G) (.slice oa (rdT G).ats.length ja) (.slice ok (rdT G).ks.length jk) ∧ Below w.heap.size w w'
theorem NdOn.lt {w : World} {F : Nat → Prop} {t : Tr} {va vk : Value} (h : NdOn w F t va vk) : NdOn w (fun b => b < w.heap.size) t va vk := NdOn.move (fun _ hb _ => ⟨hb, rfl⟩) t va vk h
theorem GrPost.rd {w : World} {G : Nat ⊕ Tr} {e : Ending} {w' : World} (h : GrPost w.heap.size w G e w') : RdPost w G e w' := by
 cases G with
 | inl err => exact ⟨none, 0, none, 0, h.1, zero_on _ _, h.2⟩
 | inr t =>
  obtain ⟨va, vk, rfl, hn, hb⟩ := h
  obtain ⟨oa, ja, ok, jk, rfl, rfl⟩ := hn.form
  exact ⟨oa, ja, ok, jk, rfl, hn.lt, hb⟩
theorem rd_cnt (l : List UInt8) : cntT (rdT (rdC l)) ≤ 121 ∧ mxT (rdT (rdC l)) ≤ 120 := by
 cases hg : rdC l with
 | inl e => exact ⟨by show cntT (.mk 0 [] [] [] []) ≤ 121; rw [cntT, cntK]; omega, by show mxT (.mk 0 [] [] [] []) ≤ 120; rw [mxT, mxK]; simp⟩
 | inr t => exact parse_cnt (rd_ok hg).1
end Char
end Go.Proofs.YtlmodgnkmlbjhaaGreatDoor
