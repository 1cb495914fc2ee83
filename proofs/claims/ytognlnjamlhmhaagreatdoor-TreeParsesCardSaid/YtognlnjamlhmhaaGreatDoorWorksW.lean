/- WorksW -/
import Derived.Test.YtognlnjamlhmhaaGreatDoorPkGrown
import Derived.Test.YtognlnjamlhmhaaGreatDoorPkSame
/- The walk of works: one element. -/
namespace Go.Proofs.YtognlnjamlhmhaaGreatDoor.Char
open Go.RowKit Go.Lib

def wkTree : Tr := .mk 2 [97] [] [([120], [49]), ([121], [50])] [.mk 4 [] [98] [] [], .mk 2 [99] [] [] []]
set_option maxRecDepth 100000 in
theorem wk_parse : parseL [60, 97, 32, 121, 61, 39, 50, 39, 32, 120, 61, 39, 49, 39, 62, 98, 60, 99, 47, 62, 60, 47, 97, 62] = .inr wkTree := by
  kernel_rfl
theorem wk_size : szL (seqT 0 wkTree) = 5 := by rw [szL_seqT]; simp [wkTree, szT, szK]
theorem wk_depth : dpL (seqT 0 wkTree) = 2 := by rw [dpL_seqT]; simp [wkTree, dpT, dpK]
theorem wk_cnt : cntT wkTree = 3 := by simp [wkTree, cntT, cntK]

set_option maxRecDepth 100000 in
set_option maxHeartbeats 4000000 in
theorem works_any (w : World) (hG : Gl6 w) : Calls Tryz.prog 7 #[] w fun e w' => e = .returned (.bool true) ∧ Below w.heap.size w w' := by
  have hp := fun W (hb : Below w.heap.size w W) => parse_any [60, 97, 32, 121, 61, 39, 50, 39, 32, 120, 61, 39, 49, 39, 62, 98, 60, 99, 47, 62, 60, 47, 97, 62] W (by decide) (hG.below hb)
  rw [wk_parse] at hp
  have HP := Lib.hid hp
  clear hp hG
  go_enter Tryz.func7, Tryz.ntmps7
  go_wp2_with fail
  refine (HP.out w (Below.refl _ _)).mono ?_
  rintro e w2 ⟨va, vk, rfl, hn, hb⟩
  clear HP
  obtain ⟨oa, ja, ok, jk, rfl, rfl⟩ := hn.form
  have hrd := AtsOn.reads hn.ats 0 (by decide)
  obtain ⟨g, off, rfl, _, r0, _⟩ := hrd
  have hgl := cell_lt r0
  have hsz : ∀ W, Below w2.heap.size w2 W → Calls Tryz.prog 14 #[ndV wkTree (.slice (some ⟨g, off, none⟩) wkTree.ats.length ja) (.slice ok wkTree.ks.length jk)] W fun e w' => e = .returned (.int .i64 5) ∧ Below W.heap.size W w' := fun W hW =>
    (size_any wkTree _ _ W (hn.move (fun b hb _ => ⟨Nat.lt_of_lt_of_le hb hW.size, hW.block b hb⟩)) (by rw [wk_cnt]; omega) (by rw [wk_size]; omega)).mono (by rintro e w' ⟨rfl, h⟩; exact ⟨by rw [wk_size]; rfl, h⟩)
  have hdp : ∀ W, Below w2.heap.size w2 W → Calls Tryz.prog 16 #[ndV wkTree (.slice (some ⟨g, off, none⟩) wkTree.ats.length ja) (.slice ok wkTree.ks.length jk)] W fun e w' => e = .returned (.int .i64 2) ∧ Below W.heap.size W w' := fun W hW =>
    (depth_any wkTree _ _ W (hn.move (fun b hb _ => ⟨Nat.lt_of_lt_of_le hb hW.size, hW.block b hb⟩)) (by rw [wk_cnt]; omega)).mono (by rintro e w' ⟨rfl, h⟩; exact ⟨by rw [wk_depth]; rfl, h⟩)
  have r0a : w2.cell? ⟨g, off, none⟩ = some (.string (bs [120])) := by simpa [wkTree, Tr.ats] using r0
  have r0' : w2.cell? ⟨g, off, none⟩ = some (.string ⟨#[120]⟩) := r0a
  have el : wkTree.ats.length = 2 := rfl
  have ek : wkTree.ks.length = 2 := rfl
  have e0 : ndV wkTree (.slice (some ⟨g, off, none⟩) 2 ja) (.slice ok 2 jk) = .agg #[.int .i64 2, .string ⟨#[97]⟩, .string ⟨#[]⟩, .slice (some ⟨g, off, none⟩) 2 ja, .slice ok 2 jk] := rfl
  rw [el, ek, e0] at hsz hdp
  rw [el, ek, e0]
  have HSZ := Lib.hid hsz
  have HDP := Lib.hid hdp
  have HB := Lib.hid hb
  clear hsz hdp hb hn r0 r0a e0 el ek
  go_wp2_with fail
  obtain ⟨W3, hW3⟩ : ∃ W3, W3 = w2.alloc (.cells #[.int .i64 2, .string ⟨#[97]⟩, .string ⟨#[]⟩, .slice (some ⟨g, off, none⟩) 2 ja, .slice ok 2 jk] 26) := ⟨_, rfl⟩
  have hb3 : Below w2.heap.size w2 W3 := by rw [hW3]; exact (Below.refl _ _).alloc (Nat.le_refl _) _
  have s3 : W3.heap.size = w2.heap.size + 1 := by rw [hW3]; simp
  have hbk : W3.heap[w2.heap.size]? = some (.cells #[.int .i64 2, .string ⟨#[97]⟩, .string ⟨#[]⟩, .slice (some ⟨g, off, none⟩) 2 ja, .slice ok 2 jk] 26 (0, 0)) := by rw [hW3]; exact World.alloc_heap_new w2 _
  rw [← hW3]
  clear hW3
  refine (HSZ.out W3 hb3).mono ?_
  rintro e w4 ⟨rfl, hb4⟩
  have h4 := (hb4.block w2.heap.size (by omega)).trans hbk
  have c0 : w4.cell? ⟨w2.heap.size, 0, none⟩ = some (.int .i64 2) := by simp [World.cell?, h4]
  have c1 : w4.cell? ⟨w2.heap.size, 1, none⟩ = some (.string ⟨#[97]⟩) := by simp [World.cell?, h4]
  have c2 : w4.cell? ⟨w2.heap.size, 2, none⟩ = some (.string ⟨#[]⟩) := by simp [World.cell?, h4]
  have c3 : w4.cell? ⟨w2.heap.size, 3, none⟩ = some (.slice (some ⟨g, off, none⟩) 2 ja) := by simp [World.cell?, h4]
  have c4 : w4.cell? ⟨w2.heap.size, 4, none⟩ = some (.slice ok 2 jk) := by simp [World.cell?, h4]
  have hb5 := hb3.trans (hb4.mono hb3.size)
  have HB5 := Lib.hid hb5
  clear hb3 hb4 hbk h4 hb5 s3
  go_wp2_with fail
  refine (HDP.out w4 HB5.out).mono ?_
  rintro e w5 ⟨rfl, hb6⟩
  go_wp2_with fail
  go_ret
  exact ⟨rfl, HB.out.trans ((HB5.out.trans (hb6.mono HB5.out.size)).mono HB.out.size)⟩
end Go.Proofs.YtognlnjamlhmhaaGreatDoor.Char
