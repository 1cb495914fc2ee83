import Derived.Test.YtlmodgnkmlbjhaaGreatDoorPkRd
namespace Go.Proofs.YtlmodgnkmlbjhaaGreatDoor
namespace Char
open Go.RowKit Go.Lib Go.Shelf
set_option maxRecDepth 100000 in
set_option maxHeartbeats 8000000 in
theorem back_law (s : ByteArray) (w : World) (hz : s.size ≤ maxLen) (hG : Gl6 w) :
  Calls Tryz.prog 5 #[.string s] w fun e w' => e = .returned (.bool true) ∧ Below w.heap.size w w' := by
 obtain ⟨l, rfl⟩ : ∃ l, s = bs l := ⟨s.data.toList, (bs_of s).symm⟩
 have hsz := bs_size l
 unfold maxLen at hz
 have HWK := Lib.hid (fun W (hW : Below w.heap.size w W) => works8_any W (hG.below hW))
 have HGL := Lib.hid hG
 have HR := Lib.hid (readC_any l w (by omega) hG)
 clear hz hsz hG
 cases hg : rdC l with
 | inl err =>
  rw [hg] at HR
  have HR2 : Hid (Calls Tryz.prog 13 #[.string (bs l)] w fun e w' => e = .returned (.tuple #[.agg #[.int .i64 0, .string ⟨#[]⟩, .string ⟨#[]⟩, .slice none 0 0, .slice none 0 0], .int .i64 (err : Int)]) ∧ Below w.heap.size w w') := HR
  have hne := rd_errne hg
  have k1 : ((err : Int) != 0) = true := by rw [bne_iff_ne]; omega
  clear HR hg hne
  go_enter Tryz.func5, Tryz.ntmps5
  go_wp2_with fail
  refine HR2.out.mono ?_
  rintro e w1 ⟨rfl, hb1⟩
  obtain ⟨W2, hW2⟩ : ∃ W2, W2 = w1.alloc (.cells #[.int .i64 0, .string ⟨#[]⟩, .string ⟨#[]⟩, .slice none 0 0, .slice none 0 0] 25) := ⟨_, rfl⟩
  have b2 : Below w1.heap.size w1 W2 := by rw [hW2]; exact (Below.refl _ _).alloc (Nat.le_refl _) _
  have HW2 := Lib.hid hW2
  have HB2 := Lib.hid (hb1.trans (b2.mono hb1.size))
  clear hW2 b2 hb1
  go_wp2_with fail
  rw [← HW2.out]
  refine (same_zero W2).mono ?_
  rintro e w5 ⟨rfl, hb5⟩
  have HB5 := Lib.hid (HB2.out.trans (hb5.mono HB2.out.size))
  clear hb5
  go_wp2_with fail
  refine (HWK.out _ HB5.out).mono ?_
  rintro e w6 ⟨rfl, hb6⟩
  go_wp2_with fail
  go_ret
  exact ⟨rfl, HB5.out.trans (hb6.mono HB5.out.size)⟩
 | inr t =>
  rw [hg] at HR
  obtain ⟨hp, hml⟩ := rd_ok hg
  have hrt := parse_right hp
  have hc := parse_cnt hp
  have HW := Lib.hid (fun (W : World) va vk (hn : NdOn W (fun b => b < W.heap.size) t va vk) (hG : Gl6 W) => (writeC_any t va vk W hn (by omega) (parse_sm16 hp) hG))
  rw [wrL_right hrt] at HW
  have HRB := Lib.hid (fun W (hG : Gl6 W) => (readC_any (mkT t) W (by omega) hG).mono fun e w' h => GrPost.rd h)
  rw [rd_back hrt hml] at HRB
  have hne : mkT t ≠ [] := mkT_ne (by unfold rightD at hrt; rw [Bool.and_eq_true, Bool.and_eq_true, decide_eq_true_eq] at hrt; exact hrt.1.1)
  have HCN := Lib.hid hc
  unfold RdPost at HRB
  simp only [show rdT (.inr t) = t from rfl, show rdE (.inr t) = 0 from rfl] at HRB
  have HR1 := HR.out.mono fun e w' h => GrPost.rd h
  unfold RdPost at HR1
  simp only [show rdT (.inr t) = t from rfl, show rdE (.inr t) = 0 from rfl] at HR1
  have HR2 := Lib.hid HR1
  clear HR HR1 hg hp hml hrt hc
  generalize mkT t = M at *
  have m1 : (bs M).toList.isEmpty = false := by rw [bs_tl]; simpa using hne
  have m2 : ¬ (bs M).toList = [] := by rw [bs_tl]; exact hne
  clear hne
  go_enter Tryz.func5, Tryz.ntmps5
  go_wp2_with fail
  refine HR2.out.mono ?_
  rintro e w1 ⟨oa, ja, ok, jk, rfl, hn1, hb1⟩
  obtain ⟨W2, hW2⟩ : ∃ W2, W2 = w1.alloc (.cells #[.int .i64 t.kd, .string (bs t.nm), .string (bs t.tx), .slice oa t.ats.length ja, .slice ok t.ks.length jk] 25) := ⟨_, rfl⟩
  have b2 : Below w1.heap.size w1 W2 := by rw [hW2]; exact (Below.refl _ _).alloc (Nat.le_refl _) _
  have s2 : W2.heap.size = w1.heap.size + 1 := by rw [hW2]; simp
  have hbk : W2.heap[w1.heap.size]? = some (.cells #[.int .i64 t.kd, .string (bs t.nm), .string (bs t.tx), .slice oa t.ats.length ja, .slice ok t.ks.length jk] 25 (0, 0)) := by rw [hW2]; exact World.alloc_heap_new w1 _
  have HW2 := Lib.hid hW2
  have HBK := Lib.hid hbk
  have HB2 := Lib.hid (hb1.trans (b2.mono hb1.size))
  have HS2 := Lib.hid s2
  have HN1 := Lib.hid (hn1.below b2).lt
  clear hW2 b2 s2 hbk hn1 hb1
  go_wp2_with fail
  rw [← HW2.out]
  refine (HW.out W2 _ _ HN1.out (HGL.out.below HB2.out)).mono ?_
  rintro e w3 ⟨rfl, hb3⟩
  have HB3 := Lib.hid (HB2.out.trans (hb3.mono HB2.out.size))
  have HB23 := Lib.hid hb3
  clear hb3
  go_wp2_with fail
  refine (HRB.out w3 (HGL.out.below HB3.out)).mono ?_
  rintro e w4 ⟨oa4, ja4, ok4, jk4, rfl, hn4, hb4⟩
  have hb24 := HB23.out.trans (hb4.mono HB23.out.size)
  have hz4 : w1.heap.size < w4.heap.size := by have h1 := hb24.size; have h2 := HS2.out; omega
  have hbn := (hb24.block _ (by rw [HS2.out]; omega)).trans HBK.out
  have y0 : w4.cell? ⟨w1.heap.size, 0, none⟩ = some (.int .i64 t.kd) := cell_row hbn rfl
  have y1 : w4.cell? ⟨w1.heap.size, 1, none⟩ = some (.string (bs t.nm)) := cell_row hbn rfl
  have y2 : w4.cell? ⟨w1.heap.size, 2, none⟩ = some (.string (bs t.tx)) := cell_row hbn rfl
  have y3 : w4.cell? ⟨w1.heap.size, 3, none⟩ = some (.slice oa t.ats.length ja) := cell_row hbn rfl
  have y4 : w4.cell? ⟨w1.heap.size, 4, none⟩ = some (.slice ok t.ks.length jk) := cell_row hbn rfl
  have HB4 := Lib.hid (HB3.out.trans (hb4.mono HB3.out.size))
  have HN4 := Lib.hid hn4
  have HN14 := Lib.hid (HN1.out.below hb24)
  obtain ⟨W5, hW5⟩ : ∃ W5, W5 = w4.alloc (.cells #[.int .i64 t.kd, .string (bs t.nm), .string (bs t.tx), .slice oa4 t.ats.length ja4, .slice ok4 t.ks.length jk4] 25) := ⟨_, rfl⟩
  have b5 : Below w4.heap.size w4 W5 := by rw [hW5]; exact (Below.refl _ _).alloc (Nat.le_refl _) _
  have s5 : W5.heap.size = w4.heap.size + 1 := by rw [hW5]; simp
  have hbk5 : W5.heap[w4.heap.size]? = some (.cells #[.int .i64 t.kd, .string (bs t.nm), .string (bs t.tx), .slice oa4 t.ats.length ja4, .slice ok4 t.ks.length jk4] 25 (0, 0)) := by rw [hW5]; exact World.alloc_heap_new w4 _
  have hsame := same_self t _ _ _ _ W5 _ _ (HN14.out.below b5) (HN4.out.below b5) (by have := HCN.out.1; omega) (by have := HCN.out.2; omega)
  unfold ndV at hsame
  have HSAME := Lib.hid hsame
  have HW5 := Lib.hid hW5
  have HS5 := Lib.hid s5
  have HBK5 := Lib.hid hbk5
  have HB5 := Lib.hid (HB4.out.trans (b5.mono HB4.out.size))
  have HN5 := Lib.hid (HN4.out.below b5).lt
  clear hb4 hb24 hbn hn4 hsame hW5 b5 s5 hbk5
  go_wp2_with fail
  rw [← HW5.out]
  refine HSAME.out.mono ?_
  rintro e w6 ⟨rfl, hb6⟩
  have hbn6 := (hb6.block _ (by rw [HS5.out]; omega)).trans HBK5.out
  have x0 : w6.cell? ⟨w4.heap.size, 0, none⟩ = some (.int .i64 t.kd) := cell_row hbn6 rfl
  have x1 : w6.cell? ⟨w4.heap.size, 1, none⟩ = some (.string (bs t.nm)) := cell_row hbn6 rfl
  have x2 : w6.cell? ⟨w4.heap.size, 2, none⟩ = some (.string (bs t.tx)) := cell_row hbn6 rfl
  have x3 : w6.cell? ⟨w4.heap.size, 3, none⟩ = some (.slice oa4 t.ats.length ja4) := cell_row hbn6 rfl
  have x4 : w6.cell? ⟨w4.heap.size, 4, none⟩ = some (.slice ok4 t.ks.length jk4) := cell_row hbn6 rfl
  have HB6 := Lib.hid (HB5.out.trans (hb6.mono HB5.out.size))
  have hwr := HW.out w6 _ _ (HN5.out.below hb6).lt (HGL.out.below HB6.out)
  unfold ndV at hwr
  have HWR := Lib.hid hwr
  clear hb6 hbn6 hwr y0 y1 y2 y3 y4 hz4
  go_wp2_with fail
  refine HWR.out.mono ?_
  rintro e w7 ⟨rfl, hb7⟩
  have HB7 := Lib.hid (HB6.out.trans (hb7.mono HB6.out.size))
  clear hb7
  go_wp2_with fail
  refine (HWK.out _ HB7.out).mono ?_
  rintro e w8 ⟨rfl, hb8⟩
  go_wp2_with fail
  go_ret
  exact ⟨rfl, HB7.out.trans (hb8.mono HB7.out.size)⟩
end Char
end Go.Proofs.YtlmodgnkmlbjhaaGreatDoor
