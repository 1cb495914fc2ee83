/- LawParse -/
import Derived.Test.YtognlnjamlhmhaaGreatDoorRefParseW
import Derived.Test.YtognlnjamlhmhaaGreatDoorWorksW
import Derived.Test.YtognlnjamlhmhaaGreatDoorRefSameW
/- The walk of the statement on Parse. -/
namespace Go.Proofs.YtognlnjamlhmhaaGreatDoor.Char
open Go.RowKit Go.Lib

/-- what a parser tells: the node, the error -/
def outT : Nat ⊕ Tr → Tr × Nat
  | .inl e => (.mk 0 [] [] [] [], e)
  | .inr t => (t, 0)
theorem zero_on (W : World) (F : Nat → Prop) : NdOn W F (.mk 0 [] [] [] []) (.slice none 0 0) (.slice none 0 0) := NdOn.of ⟨none, 0, 0, rfl, rfl, .inl rfl⟩ ⟨none, 0, 0, rfl, rfl, .inl rfl⟩
theorem grPost_out {B : Nat} {w : World} {G : Nat ⊕ Tr} {e : Ending} {w' : World} (h : GrPost B w G e w') : ∃ va vk, e = .returned (.tuple #[ndV (outT G).1 va vk, .int .i64 ((outT G).2 : Int)]) ∧ NdOn w' (fun b => B ≤ b) (outT G).1 va vk ∧ Below B w w' := by
  cases G with
  | inl err => exact ⟨.slice none 0 0, .slice none 0 0, h.1, zero_on _ _, h.2⟩
  | inr t =>
    obtain ⟨va, vk, h1, h2, h3⟩ := h
    exact ⟨va, vk, h1, h2, h3⟩
theorem outT_cnt (s : List UInt8) : cntT (outT (parseL s)).1 ≤ 2000 ∧ mxT (outT (parseL s)).1 ≤ 2 ^ 62 := by
  cases h : parseL s with
  | inl e => exact ⟨by unfold outT; rw [cntT, cntK]; omega, by unfold outT; rw [mxT, mxK]; simp⟩
  | inr t =>
    have := parse_cnt h
    unfold outT
    dsimp only
    omega
set_option maxRecDepth 100000 in
set_option maxHeartbeats 8000000 in
theorem lawParse_any (s : List UInt8) (w : World) (hz : s.length ≤ 9223372036854775807) (hG : Gl6 w) :
    Calls Tryz.prog 3 #[.string (bs s)] w fun e w' => e = .returned (.bool true) ∧ Below w.heap.size w w' := by
  have hsz := bs_size s
  by_cases hl : 4100 < s.length
  · have hl' : (4100 : Int) < (s.length : Int) := by omega
    have HWK := Lib.hid (works_any w hG)
    clear hl
    go_enter Tryz.func3, Tryz.ntmps3
    go_wp2_with fail
    refine HWK.out.mono ?_
    rintro e w1 ⟨rfl, hb1⟩
    go_wp2_with fail
    go_ret
    exact ⟨rfl, hb1⟩
  · have hl' : ¬ (4100 : Int) < (s.length : Int) := by omega
    have HP := Lib.hid (parse_any s w hz hG)
    have HR := Lib.hid (fun W => refParse_any s W hz)
    have HWK := Lib.hid (fun W (hW : Below w.heap.size w W) => works_any W (hG.below hW))
    have hcn := outT_cnt s
    generalize hg : parseL s = G at *
    generalize hn : (outT G).1 = n at *
    generalize hx : (outT G).2 = x at *
    have HN := Lib.hid hn
    have HX := Lib.hid hx
    clear hg hn hx hl
    go_enter Tryz.func3, Tryz.ntmps3
    go_wp2_with fail
    refine HP.out.mono ?_
    intro e w1 h1
    obtain ⟨va, vk, rfl, hn1, hb1⟩ := grPost_out h1
    rw [HN.out] at hn1 ⊢
    rw [HX.out]
    obtain ⟨oa, ja, ok, jk, rfl, rfl⟩ := hn1.form
    have HN1 := Lib.hid hn1
    have HB1 := Lib.hid hb1
    clear h1 hn1 hb1
    unfold ndV
    go_wp2_with fail
    obtain ⟨w2, hw2⟩ : ∃ w2, w2 = w1.alloc (.cells #[.int .i64 n.kd, .string (bs n.nm), .string (bs n.tx), .slice oa n.ats.length ja, .slice ok n.ks.length jk] 26) := ⟨_, rfl⟩
    have b2 : Below w1.heap.size w1 w2 := by rw [hw2]; exact (Below.refl _ _).alloc (Nat.le_refl _) _
    have hk2 : w2.heap[w1.heap.size]? = some (.cells #[.int .i64 n.kd, .string (bs n.nm), .string (bs n.tx), .slice oa n.ats.length ja, .slice ok n.ks.length jk] 26 (0, 0)) := by rw [hw2]; exact World.alloc_heap_new w1 _
    rw [← hw2]
    have HB2 := Lib.hid b2
    have HK2 := Lib.hid hk2
    clear hw2 b2 hk2
    refine (HR.out w2).mono ?_
    intro e w3 h3
    obtain ⟨vb, vl, rfl, hn3, hb3⟩ := grPost_out h3
    rw [HN.out] at hn3 ⊢
    rw [HX.out]
    obtain ⟨pa, la, pk, lk, rfl, rfl⟩ := hn3.form
    have HN3 := Lib.hid hn3
    have HB3 := Lib.hid hb3
    clear h3 hn3 hb3
    unfold ndV
    have hlt1 : w1.heap.size < w2.heap.size := block_of_heap HK2.out
    have hlt2 : w2.heap.size ≤ w3.heap.size := HB3.out.size
    go_upto_region 5 with fail
    obtain ⟨w4, hw4⟩ : ∃ w4, w4 = w3.alloc (.cells #[.int .i64 n.kd, .string (bs n.nm), .string (bs n.tx), .slice pa n.ats.length la, .slice pk n.ks.length lk] 26) := ⟨_, rfl⟩
    have b4 : Below w3.heap.size w3 w4 := by rw [hw4]; exact (Below.refl _ _).alloc (Nat.le_refl _) _
    have hk4 : w4.heap[w3.heap.size]? = some (.cells #[.int .i64 n.kd, .string (bs n.nm), .string (bs n.tx), .slice pa n.ats.length la, .slice pk n.ks.length lk] 26 (0, 0)) := by rw [hw4]; exact World.alloc_heap_new w3 _
    have hk1 := (b4.block w1.heap.size (by omega)).trans ((HB3.out.block w1.heap.size hlt1).trans HK2.out)
    rw [← hw4]
    have c0 : w4.cell? ⟨w1.heap.size, 0, none⟩ = some (.int .i64 n.kd) := by simp [World.cell?, hk1]
    have c1 : w4.cell? ⟨w1.heap.size, 1, none⟩ = some (.string (bs n.nm)) := by simp [World.cell?, hk1]
    have c2 : w4.cell? ⟨w1.heap.size, 2, none⟩ = some (.string (bs n.tx)) := by simp [World.cell?, hk1]
    have c3 : w4.cell? ⟨w1.heap.size, 3, none⟩ = some (.slice oa n.ats.length ja) := by simp [World.cell?, hk1]
    have c4 : w4.cell? ⟨w1.heap.size, 4, none⟩ = some (.slice ok n.ks.length jk) := by simp [World.cell?, hk1]
    have d0 : w4.cell? ⟨w3.heap.size, 0, none⟩ = some (.int .i64 n.kd) := by simp [World.cell?, hk4]
    have d1 : w4.cell? ⟨w3.heap.size, 1, none⟩ = some (.string (bs n.nm)) := by simp [World.cell?, hk4]
    have d2 : w4.cell? ⟨w3.heap.size, 2, none⟩ = some (.string (bs n.tx)) := by simp [World.cell?, hk4]
    have d3 : w4.cell? ⟨w3.heap.size, 3, none⟩ = some (.slice pa n.ats.length la) := by simp [World.cell?, hk4]
    have d4 : w4.cell? ⟨w3.heap.size, 4, none⟩ = some (.slice pk n.ks.length lk) := by simp [World.cell?, hk4]
    have bb : Below w1.heap.size w1 w4 := HB2.out.trans ((HB3.out.trans (b4.mono hlt2)).mono HB2.out.size)
    have hs := refSame_any 2000 n n _ _ _ _ w4 _ _ hcn.1 (HN1.out.below bb) (HN3.out.below b4) hcn.2 (by omega)
    rw [eqT_self] at hs
    unfold ndV at hs
    have HS := Lib.hid hs
    have HBB := Lib.hid (HB1.out.trans (bb.mono HB1.out.size))
    clear hw4 b4 hk4 hk1 bb hs hcn hlt1 hlt2
    go_wp2_with fail
    refine HS.out.mono ?_
    rintro e w5 ⟨rfl, hb5⟩
    have hB5 := HBB.out.trans (hb5.mono HBB.out.size)
    have HW := Lib.hid (HWK.out w5 hB5)
    have HB5 := Lib.hid hB5
    clear hb5 hB5
    go_wp2_with fail
    refine HW.out.mono ?_
    rintro e w6 ⟨rfl, hb6⟩
    have hB6 := HB5.out.trans (hb6.mono HB5.out.size)
    clear hb6
    go_wp2_with fail
    go_ret
    exact ⟨rfl, hB6⟩
theorem parses_law (s : ByteArray) (w : World) (hz : s.size ≤ maxLen) (hG : Gl6 w) :
    Calls Tryz.prog 3 #[.string s] w fun e w' => e = .returned (.bool true) ∧ Below w.heap.size w w' := by
  obtain ⟨l, rfl⟩ : ∃ l, s = bs l := ⟨s.data.toList, (bs_of s).symm⟩
  have hsz := bs_size l
  unfold maxLen at hz
  exact lawParse_any l w (by omega) hG
end Go.Proofs.YtognlnjamlhmhaaGreatDoor.Char
