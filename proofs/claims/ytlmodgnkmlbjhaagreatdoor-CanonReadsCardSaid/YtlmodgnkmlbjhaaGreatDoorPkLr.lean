import Derived.Test.YtlmodgnkmlbjhaaGreatDoorPkRd
import Derived.Test.YtlmodgnkmlbjhaaGreatDoorMarkupW
import Derived.Test.YtlmodgnkmlbjhaaGreatDoorPkInsL
namespace Go.Proofs.YtlmodgnkmlbjhaaGreatDoor
set_option maxHeartbeats 8000000
set_option maxRecDepth 100000
namespace Char
open Go.RowKit Go.Lib Go.Shelf
theorem refRead_any (l : List UInt8) (w : World) (hz : l.length ≤ 9223372036854775807) :
  Calls Tryz.prog 14 #[.string (bs l)] w (GrPost w.heap.size w (rdC l)) := by
 obtain ⟨W0, hW0⟩ : ∃ W0, W0 = w.alloc (.cells #[.int .i64 0, .string ⟨#[]⟩, .string ⟨#[]⟩, .slice none 0 0, .slice none 0 0] 25) := ⟨_, rfl⟩
 have b0 : Below w.heap.size w W0 := by rw [hW0]; exact (Below.refl _ _).alloc (Nat.le_refl _) _
 have s0 : W0.heap.size = w.heap.size + 1 := by rw [hW0]; simp
 have hrs : W0.heap[w.heap.size]? = some (.cells #[.int .i64 0, .string ⟨#[]⟩, .string ⟨#[]⟩, .slice none 0 0, .slice none 0 0] 25 (0, 0)) := by rw [hW0]; exact World.alloc_heap_new w _
 have hp := refParse_any l W0 hz
 have HW0 := hid hW0
 have HB0 := hid b0
 have HRS := hid hrs
 have HS0 := hid s0
 clear hW0 b0 hrs s0
 unfold rdC
 cases hg : parseL l with
 | inl err =>
  rw [hg] at hp
  have hp2 : Calls Tryz.prog 24 #[.string (bs l)] W0 fun e w' => e = .returned (.tuple #[.agg #[.int .i64 0, .string ⟨#[]⟩, .string ⟨#[]⟩, .slice none 0 0, .slice none 0 0], .int .i64 (err : Int)]) ∧ Below W0.heap.size W0 w' := hp
  have hne := parse_errne hg
  have k1 : ((err : Int) != 0) = true := by rw [bne_iff_ne]; omega
  have k2 : ((err : Int) == 0) = false := by rw [beq_eq_false_iff_ne]; omega
  show Calls Tryz.prog 14 #[.string (bs l)] w fun e w' => e = .returned (.tuple #[.agg #[.int .i64 0, .string ⟨#[]⟩, .string ⟨#[]⟩, .slice none 0 0, .slice none 0 0], .int .i64 (err : Int)]) ∧ Below w.heap.size w w'
  have HP := hid hp2
  clear hp hp2 hne hg hz
  go_enter Tryz.func14, Tryz.ntmps14
  go_wp2_with fail
  rw [← HW0.out]
  refine HP.out.mono ?_
  rintro e w1 ⟨rfl, hb1⟩
  obtain ⟨z0, z1, z2, z3, z4, z5⟩ := res_cells ((hb1.block _ (by rw [HS0.out]; omega)).trans HRS.out)
  have hzz : w.heap.size < w1.heap.size := by have := hb1.size; rw [HS0.out] at this; omega
  have HB1 := hid (HB0.out.trans (hb1.mono HB0.out.size))
  clear hb1
  go_wp2_with fail
  refine end_nd2 Tryz.results14 _ w.heap.size (c := .int .i64 (err : Int)) (kd := 0) (n := ⟨#[]⟩) (t := ⟨#[]⟩) (va := .slice none 0 0) (vk := .slice none 0 0) ⟨_, _, _, rfl⟩ ⟨_, _, _, rfl⟩ ⟨by go_simp, by go_simp, by go_simp, by go_simp, by go_simp⟩ rfl rfl rfl ?_
  exact ⟨rfl, ((set5 HB1.out (Nat.le_refl _)).alloc (by simp; omega) _)⟩
 | inr t =>
  rw [hg] at hp
  have hc := (parse_cnt hg).1
  have hsm := parse_sm16 hg
  have hrt := parse_right hg
  have HP := hid hp
  have hml := (right_ok hrt hsm).2
  have hok := (right_ok hrt hsm).1
  have HW := hid (fun (W : World) va vk (hn : NdOn W (fun b => b < W.heap.size) t va vk) => (markup_any (cntT t) t va vk W _ (Nat.le_refl _) hn hok (by omega)))
  dsimp only
  clear hp hc hsm hrt hg hz hok
  obtain ⟨M, hM⟩ : ∃ M, mkT t = M := ⟨_, rfl⟩
  rw [hM] at HW hml ⊢
  have hMs := bs_size M
  clear hM
  by_cases h4 : 4000 < M.length
  ·rw [if_pos h4]
   show Calls Tryz.prog 14 #[.string (bs l)] w fun e w' => e = .returned (.tuple #[.agg #[.int .i64 0, .string ⟨#[]⟩, .string ⟨#[]⟩, .slice none 0 0, .slice none 0 0], .int .i64 3]) ∧ Below w.heap.size w w'
   have h5 : (4000 : Int) < ((bs M).size : Int) := by rw [hMs]; omega
   go_enter Tryz.func14, Tryz.ntmps14
   go_wp2_with fail
   rw [← HW0.out]
   refine HP.out.mono ?_
   intro e w1 h1
   obtain ⟨va, vk, rfl, hn1, hb1⟩ := h1
   obtain ⟨oa, ja, ok, jk, rfl, rfl⟩ := hn1.form
   obtain ⟨z0, z1, z2, z3, z4, z5⟩ := res_cells ((hb1.block _ (by rw [HS0.out]; omega)).trans HRS.out)
   have hzz : w.heap.size < w1.heap.size := by have := hb1.size; rw [HS0.out] at this; omega
   have hb01 : Below w.heap.size w w1 := HB0.out.trans (hb1.mono HB0.out.size)
   unfold ndV
   obtain ⟨W2, hW2⟩ : ∃ W2, W2 = w1.alloc (.cells #[.int .i64 t.kd, .string (bs t.nm), .string (bs t.tx), .slice oa t.ats.length ja, .slice ok t.ks.length jk] 25) := ⟨_, rfl⟩
   have b2 : Below w1.heap.size w1 W2 := by rw [hW2]; exact (Below.refl _ _).alloc (Nat.le_refl _) _
   have s2 : W2.heap.size = w1.heap.size + 1 := by rw [hW2]; simp
   have hbk : W2.heap[w1.heap.size]? = some (.cells #[.int .i64 t.kd, .string (bs t.nm), .string (bs t.tx), .slice oa t.ats.length ja, .slice ok t.ks.length jk] 25 (0, 0)) := by rw [hW2]; exact World.alloc_heap_new w1 _
   have hw2 := HW.out W2 _ _ (hn1.move (fun b hb _ => ⟨Nat.lt_of_lt_of_le hb b2.size, b2.block b hb⟩))
   have hres : W2.heap[w.heap.size]? = some (.cells #[.int .i64 0, .string ⟨#[]⟩, .string ⟨#[]⟩, .slice none 0 0, .slice none 0 0] 25 (0, 0)) := (b2.block _ hzz).trans ((hb1.block _ (by rw [HS0.out]; omega)).trans HRS.out)
   unfold ndV at hw2
   have HW2 := hid hW2
   have HWW := hid hw2
   have HRES := hid hres
   have HBK := hid hbk
   have HB2 := hid (hb01.trans (b2.mono hb01.size))
   have HS2 := hid s2
   have HN1 := hid (hn1.move (F' := fun b => w.heap.size + 1 ≤ b) (fun b _ hF => ⟨by rw [← HS0.out]; exact hF, b2.block b (by assumption)⟩))
   clear hW2 b2 s2 hbk hw2 hres hn1 hb1 hb01 z0 z1 z2 z3 z4 z5
   go_wp2_with fail
   rw [← HW2.out]
   refine HWW.out.mono ?_
   rintro e w3 ⟨rfl, hb3⟩
   have hsz3 : w.heap.size < w3.heap.size := by have h1 := hb3.size; have h2 := HS2.out; omega
   obtain ⟨z0, z1, z2, z3, z4, z5⟩ := res_cells ((hb3.block _ (by rw [HS2.out]; omega)).trans HRES.out)
   have hbn := (hb3.block _ (by rw [HS2.out]; omega)).trans HBK.out
   have y0 : w3.cell? ⟨w1.heap.size, 0, none⟩ = some (.int .i64 t.kd) := cell_row hbn rfl
   have y1 : w3.cell? ⟨w1.heap.size, 1, none⟩ = some (.string (bs t.nm)) := cell_row hbn rfl
   have y2 : w3.cell? ⟨w1.heap.size, 2, none⟩ = some (.string (bs t.tx)) := cell_row hbn rfl
   have y3 : w3.cell? ⟨w1.heap.size, 3, none⟩ = some (.slice oa t.ats.length ja) := cell_row hbn rfl
   have y4 : w3.cell? ⟨w1.heap.size, 4, none⟩ = some (.slice ok t.ks.length jk) := cell_row hbn rfl
   have HB3 := hid (HB2.out.trans (hb3.mono HB2.out.size))
   have HN3 := hid (HN1.out.move (fun b hb hF => ⟨hF, hb3.block b hb⟩))
   clear hb3 hbn
   go_wp2_with fail
   refine end_nd2 Tryz.results14 _ w.heap.size (c := .int .i64 3) (kd := 0) (n := ⟨#[]⟩) (t := ⟨#[]⟩) (va := .slice none 0 0) (vk := .slice none 0 0) ⟨_, _, _, rfl⟩ ⟨_, _, _, rfl⟩ ⟨by go_simp, by go_simp, by go_simp, by go_simp, by go_simp⟩ rfl rfl rfl ?_
   exact ⟨rfl, (set5 HB3.out (Nat.le_refl _))⟩
  ·rw [if_neg h4]
   show Calls Tryz.prog 14 #[.string (bs l)] w fun e w' => ∃ va vk, e = .returned (.tuple #[ndV t va vk, .int .i64 0]) ∧ NdOn w' (fun b => w.heap.size ≤ b) t va vk ∧ Below w.heap.size w w'
   have h5 : ¬ (4000 : Int) < ((bs M).size : Int) := by rw [hMs]; omega
   go_enter Tryz.func14, Tryz.ntmps14
   go_wp2_with fail
   rw [← HW0.out]
   refine HP.out.mono ?_
   intro e w1 h1
   obtain ⟨va, vk, rfl, hn1, hb1⟩ := h1
   obtain ⟨oa, ja, ok, jk, rfl, rfl⟩ := hn1.form
   obtain ⟨z0, z1, z2, z3, z4, z5⟩ := res_cells ((hb1.block _ (by rw [HS0.out]; omega)).trans HRS.out)
   have hzz : w.heap.size < w1.heap.size := by have := hb1.size; rw [HS0.out] at this; omega
   have hb01 : Below w.heap.size w w1 := HB0.out.trans (hb1.mono HB0.out.size)
   unfold ndV
   obtain ⟨W2, hW2⟩ : ∃ W2, W2 = w1.alloc (.cells #[.int .i64 t.kd, .string (bs t.nm), .string (bs t.tx), .slice oa t.ats.length ja, .slice ok t.ks.length jk] 25) := ⟨_, rfl⟩
   have b2 : Below w1.heap.size w1 W2 := by rw [hW2]; exact (Below.refl _ _).alloc (Nat.le_refl _) _
   have s2 : W2.heap.size = w1.heap.size + 1 := by rw [hW2]; simp
   have hbk : W2.heap[w1.heap.size]? = some (.cells #[.int .i64 t.kd, .string (bs t.nm), .string (bs t.tx), .slice oa t.ats.length ja, .slice ok t.ks.length jk] 25 (0, 0)) := by rw [hW2]; exact World.alloc_heap_new w1 _
   have hw2 := HW.out W2 _ _ (hn1.move (fun b hb _ => ⟨Nat.lt_of_lt_of_le hb b2.size, b2.block b hb⟩))
   have hres : W2.heap[w.heap.size]? = some (.cells #[.int .i64 0, .string ⟨#[]⟩, .string ⟨#[]⟩, .slice none 0 0, .slice none 0 0] 25 (0, 0)) := (b2.block _ hzz).trans ((hb1.block _ (by rw [HS0.out]; omega)).trans HRS.out)
   unfold ndV at hw2
   have HW2 := hid hW2
   have HWW := hid hw2
   have HRES := hid hres
   have HBK := hid hbk
   have HB2 := hid (hb01.trans (b2.mono hb01.size))
   have HS2 := hid s2
   have HN1 := hid (hn1.move (F' := fun b => w.heap.size + 1 ≤ b) (fun b _ hF => ⟨by rw [← HS0.out]; exact hF, b2.block b (by assumption)⟩))
   clear hW2 b2 s2 hbk hw2 hres hn1 hb1 hb01 z0 z1 z2 z3 z4 z5
   go_wp2_with fail
   rw [← HW2.out]
   refine HWW.out.mono ?_
   rintro e w3 ⟨rfl, hb3⟩
   have hsz3 : w.heap.size < w3.heap.size := by have h1 := hb3.size; have h2 := HS2.out; omega
   obtain ⟨z0, z1, z2, z3, z4, z5⟩ := res_cells ((hb3.block _ (by rw [HS2.out]; omega)).trans HRES.out)
   have hbn := (hb3.block _ (by rw [HS2.out]; omega)).trans HBK.out
   have y0 : w3.cell? ⟨w1.heap.size, 0, none⟩ = some (.int .i64 t.kd) := cell_row hbn rfl
   have y1 : w3.cell? ⟨w1.heap.size, 1, none⟩ = some (.string (bs t.nm)) := cell_row hbn rfl
   have y2 : w3.cell? ⟨w1.heap.size, 2, none⟩ = some (.string (bs t.tx)) := cell_row hbn rfl
   have y3 : w3.cell? ⟨w1.heap.size, 3, none⟩ = some (.slice oa t.ats.length ja) := cell_row hbn rfl
   have y4 : w3.cell? ⟨w1.heap.size, 4, none⟩ = some (.slice ok t.ks.length jk) := cell_row hbn rfl
   have HB3 := hid (HB2.out.trans (hb3.mono HB2.out.size))
   have HN3 := hid (HN1.out.move (fun b hb hF => ⟨hF, hb3.block b hb⟩))
   clear hb3 hbn
   go_wp2_with fail
   refine end_nd2 Tryz.results14 _ w.heap.size (c := .int .i64 0) (kd := t.kd) (n := bs t.nm) (t := bs t.tx) (va := .slice oa t.ats.length ja) (vk := .slice ok t.ks.length jk) ⟨_, _, _, rfl⟩ ⟨_, _, _, rfl⟩ ⟨by go_simp, by go_simp, by go_simp, by go_simp, by go_simp⟩ rfl rfl rfl ?_
   refine ⟨_, _, rfl, ?_, (set5 HB3.out (Nat.le_refl _))⟩
   refine NdOn.move (fun b hb hF => ⟨by omega, ?_⟩) _ _ _ HN3.out
   have hne : b ≠ w.heap.size := by omega
   rw [heap_set_ne hne, heap_set_ne hne, heap_set_ne hne, heap_set_ne hne, heap_set_ne hne]
end Char
namespace Char
open Go.RowKit Go.Lib Go.Shelf
theorem reads_law (s : ByteArray) (w : World) (hz : s.size ≤ maxLen) (hG : Gl6 w) :
  Calls Tryz.prog 4 #[.string s] w fun e w' => e = .returned (.bool true) ∧ Below w.heap.size w w' := by
 obtain ⟨l, rfl⟩ : ∃ l, s = bs l := ⟨s.data.toList, (bs_of s).symm⟩
 have hsz := bs_size l
 unfold maxLen at hz
 have HWK := hid (fun W (hW : Below w.heap.size w W) => works8_any W (hG.below hW))
 by_cases hl : 4100 < l.length
 ·have hl2 : (4100 : Int) < ((bs l).size : Int) := by rw [hsz]; omega
  clear hz hsz hG hl
  go_enter Tryz.func4, Tryz.ntmps4
  go_wp2_with fail
  refine (HWK.out w (Below.refl _ _)).mono ?_
  rintro e w3 ⟨rfl, hb⟩
  go_wp2_with fail
  go_ret
  exact ⟨rfl, hb⟩
 ·have hl2 : ¬ (4100 : Int) < ((bs l).size : Int) := by rw [hsz]; omega
  have HR := hid ((readC_any l w (by omega) hG).mono fun e w' h => GrPost.rd h)
  have HD := hid (fun W => (refRead_any l W (by omega)).mono fun e w' h => GrPost.rd h)
  have HCN := hid (rd_cnt l)
  clear hz hsz hl hG
  generalize rdC l = G at *
  generalize hT : rdT G = t at *
  unfold RdPost at HR HD
  simp only [hT] at HR HD
  generalize (rdE G : Int) = er at *
  clear hT
  go_enter Tryz.func4, Tryz.ntmps4
  go_wp2_with fail
  refine HR.out.mono ?_
  rintro e w1 ⟨oa, ja, ok, jk, rfl, hn1, hb1⟩
  obtain ⟨W2, hW2⟩ : ∃ W2, W2 = w1.alloc (.cells #[.int .i64 t.kd, .string (bs t.nm), .string (bs t.tx), .slice oa t.ats.length ja, .slice ok t.ks.length jk] 25) := ⟨_, rfl⟩
  have b2 : Below w1.heap.size w1 W2 := by rw [hW2]; exact (Below.refl _ _).alloc (Nat.le_refl _) _
  have s2 : W2.heap.size = w1.heap.size + 1 := by rw [hW2]; simp
  have hbk : W2.heap[w1.heap.size]? = some (.cells #[.int .i64 t.kd, .string (bs t.nm), .string (bs t.tx), .slice oa t.ats.length ja, .slice ok t.ks.length jk] 25 (0, 0)) := by rw [hW2]; exact World.alloc_heap_new w1 _
  have HW2 := hid hW2
  have HBK := hid hbk
  have HB2 := hid (hb1.trans (b2.mono hb1.size))
  have HS2 := hid s2
  have HN1 := hid (hn1.below b2)
  clear hW2 b2 s2 hbk hn1 hb1
  go_wp2_with fail
  rw [← HW2.out]
  refine (HD.out W2).mono ?_
  rintro e w3 ⟨oa3, ja3, ok3, jk3, rfl, hn3, hb3⟩
  have hz3 : w1.heap.size < w3.heap.size := by have h1 := hb3.size; have h2 := HS2.out; omega
  have hbn := (hb3.block _ (by rw [HS2.out]; omega)).trans HBK.out
  have y0 : w3.cell? ⟨w1.heap.size, 0, none⟩ = some (.int .i64 t.kd) := cell_row hbn rfl
  have y1 : w3.cell? ⟨w1.heap.size, 1, none⟩ = some (.string (bs t.nm)) := cell_row hbn rfl
  have y2 : w3.cell? ⟨w1.heap.size, 2, none⟩ = some (.string (bs t.tx)) := cell_row hbn rfl
  have y3 : w3.cell? ⟨w1.heap.size, 3, none⟩ = some (.slice oa t.ats.length ja) := cell_row hbn rfl
  have y4 : w3.cell? ⟨w1.heap.size, 4, none⟩ = some (.slice ok t.ks.length jk) := cell_row hbn rfl
  have HB3 := hid (HB2.out.trans (hb3.mono HB2.out.size))
  have HN3 := hid hn3
  have HN13 := hid (HN1.out.below hb3)
  obtain ⟨W4, hW4⟩ : ∃ W4, W4 = w3.alloc (.cells #[.int .i64 t.kd, .string (bs t.nm), .string (bs t.tx), .slice oa3 t.ats.length ja3, .slice ok3 t.ks.length jk3] 25) := ⟨_, rfl⟩
  have b4 : Below w3.heap.size w3 W4 := by rw [hW4]; exact (Below.refl _ _).alloc (Nat.le_refl _) _
  have hsame := same_self t _ _ _ _ W4 _ _ (HN13.out.below b4) (HN3.out.below b4) (by have := HCN.out.1; omega) (by have := HCN.out.2; omega)
  unfold ndV at hsame
  have HSAME := hid hsame
  have HW4 := hid hW4
  have HB4 := hid (HB3.out.trans (b4.mono HB3.out.size))
  clear hb3 hbn hn3 hsame hW4 b4
  go_wp2_with fail
  rw [← HW4.out]
  refine HSAME.out.mono ?_
  rintro e w5 ⟨rfl, hb5⟩
  have HB5 := hid (HB4.out.trans (hb5.mono HB4.out.size))
  clear hb5
  go_wp2_with fail
  refine (HWK.out _ HB5.out).mono ?_
  rintro e w6 ⟨rfl, hb6⟩
  go_wp2_with fail
  go_ret
  exact ⟨rfl, HB5.out.trans (hb6.mono HB5.out.size)⟩
end Char
end Go.Proofs.YtlmodgnkmlbjhaaGreatDoor
