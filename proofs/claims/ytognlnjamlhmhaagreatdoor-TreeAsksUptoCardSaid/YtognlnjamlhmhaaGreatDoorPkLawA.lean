/- WorksW LawAsks -/
import Derived.Test.YtognlnjamlhmhaaGreatDoorPkGrown
import Derived.Test.YtognlnjamlhmhaaGreatDoorPkSame
import Derived.Test.YtognlnjamlhmhaaGreatDoorPkRefR
import Derived.Test.YtognlnjamlhmhaaGreatDoorPkRtW
import Derived.Test.YtognlnjamlhmhaaGreatDoorPkSize
import Derived.Test.YtognlnjamlhmhaaGreatDoorPkFew
/- The walk of works: one element. -/
namespace Go.Proofs.YtognlnjamlhmhaaGreatDoor.Char
open Go.RowKit Go.Lib

def wkTree : Tr := .mk 2 [97] [] [([120], [49]), ([121], [50])] [.mk 4 [] [98] [] [], .mk 2 [99] [] [] []]
set_option maxRecDepth 100000 in
theorem wk_parse : parseL [60, 97, 32, 121, 61, 39, 50, 39, 32, 120, 61, 39, 49, 39, 62, 98, 60, 99, 47, 62, 60, 47, 97, 62] = .inr wkTree := by
  kernel_rfl
theorem wk_size : szL (seqT 0 wkTree) = 5 := by rw [szL_seqT]; simp [wkTree, szT, szK]
theorem wk_depth : dpL (seqT 0 wkTree) = 2 := by rw [dpL_seqT]; simp [wkTree, dpT, dpK]
theorem wk_cnt : cntT wkTree = 3 := by simp [wkTree, cntT, cntK]

set_option maxRecDepth 100000 in
set_option maxHeartbeats 4000000 in
theorem works_any (w : World) (hG : Gl6 w) : Calls Tryz.prog 7 #[] w fun e w' => e = .returned (.bool true) ∧ Below w.heap.size w w' := by
  have hp := fun W (hb : Below w.heap.size w W) => parse_any [60, 97, 32, 121, 61, 39, 50, 39, 32, 120, 61, 39, 49, 39, 62, 98, 60, 99, 47, 62, 60, 47, 97, 62] W (by decide) (hG.below hb)
  rw [wk_parse] at hp
  have HP := Lib.hid hp
  clear hp hG
  go_enter Tryz.func7, Tryz.ntmps7
  go_wp2_with fail
  refine (HP.out w (Below.refl _ _)).mono ?_
  rintro e w2 ⟨va, vk, rfl, hn, hb⟩
  clear HP
  obtain ⟨oa, ja, ok, jk, rfl, rfl⟩ := hn.form
  have hrd := AtsOn.reads hn.ats 0 (by decide)
  obtain ⟨g, off, rfl, _, r0, _⟩ := hrd
  have hgl := cell_lt r0
  have hsz : ∀ W, Below w2.heap.size w2 W → Calls Tryz.prog 14 #[ndV wkTree (.slice (some ⟨g, off, none⟩) wkTree.ats.length ja) (.slice ok wkTree.ks.length jk)] W fun e w' => e = .returned (.int .i64 5) ∧ Below W.heap.size W w' := fun W hW =>
    (size_any wkTree _ _ W (hn.move (fun b hb _ => ⟨Nat.lt_of_lt_of_le hb hW.size, hW.block b hb⟩)) (by rw [wk_cnt]; omega) (by rw [wk_size]; omega)).mono (by rintro e w' ⟨rfl, h⟩; exact ⟨by rw [wk_size]; rfl, h⟩)
  have hdp : ∀ W, Below w2.heap.size w2 W → Calls Tryz.prog 16 #[ndV wkTree (.slice (some ⟨g, off, none⟩) wkTree.ats.length ja) (.slice ok wkTree.ks.length jk)] W fun e w' => e = .returned (.int .i64 2) ∧ Below W.heap.size W w' := fun W hW =>
    (depth_any wkTree _ _ W (hn.move (fun b hb _ => ⟨Nat.lt_of_lt_of_le hb hW.size, hW.block b hb⟩)) (by rw [wk_cnt]; omega)).mono (by rintro e w' ⟨rfl, h⟩; exact ⟨by rw [wk_depth]; rfl, h⟩)
  have r0a : w2.cell? ⟨g, off, none⟩ = some (.string (bs [120])) := by simpa [wkTree, Tr.ats] using r0
  have r0' : w2.cell? ⟨g, off, none⟩ = some (.string ⟨#[120]⟩) := r0a
  have el : wkTree.ats.length = 2 := rfl
  have ek : wkTree.ks.length = 2 := rfl
  have e0 : ndV wkTree (.slice (some ⟨g, off, none⟩) 2 ja) (.slice ok 2 jk) = .agg #[.int .i64 2, .string ⟨#[97]⟩, .string ⟨#[]⟩, .slice (some ⟨g, off, none⟩) 2 ja, .slice ok 2 jk] := rfl
  rw [el, ek, e0] at hsz hdp
  rw [el, ek, e0]
  have HSZ := Lib.hid hsz
  have HDP := Lib.hid hdp
  have HB := Lib.hid hb
  clear hsz hdp hb hn r0 r0a e0 el ek
  go_wp2_with fail
  obtain ⟨W3, hW3⟩ : ∃ W3, W3 = w2.alloc (.cells #[.int .i64 2, .string ⟨#[97]⟩, .string ⟨#[]⟩, .slice (some ⟨g, off, none⟩) 2 ja, .slice ok 2 jk] 26) := ⟨_, rfl⟩
  have hb3 : Below w2.heap.size w2 W3 := by rw [hW3]; exact (Below.refl _ _).alloc (Nat.le_refl _) _
  have s3 : W3.heap.size = w2.heap.size + 1 := by rw [hW3]; simp
  have hbk : W3.heap[w2.heap.size]? = some (.cells #[.int .i64 2, .string ⟨#[97]⟩, .string ⟨#[]⟩, .slice (some ⟨g, off, none⟩) 2 ja, .slice ok 2 jk] 26 (0, 0)) := by rw [hW3]; exact World.alloc_heap_new w2 _
  rw [← hW3]
  clear hW3
  refine (HSZ.out W3 hb3).mono ?_
  rintro e w4 ⟨rfl, hb4⟩
  have h4 := (hb4.block w2.heap.size (by omega)).trans hbk
  have c0 : w4.cell? ⟨w2.heap.size, 0, none⟩ = some (.int .i64 2) := by simp [World.cell?, h4]
  have c1 : w4.cell? ⟨w2.heap.size, 1, none⟩ = some (.string ⟨#[97]⟩) := by simp [World.cell?, h4]
  have c2 : w4.cell? ⟨w2.heap.size, 2, none⟩ = some (.string ⟨#[]⟩) := by simp [World.cell?, h4]
  have c3 : w4.cell? ⟨w2.heap.size, 3, none⟩ = some (.slice (some ⟨g, off, none⟩) 2 ja) := by simp [World.cell?, h4]
  have c4 : w4.cell? ⟨w2.heap.size, 4, none⟩ = some (.slice ok 2 jk) := by simp [World.cell?, h4]
  have hb5 := hb3.trans (hb4.mono hb3.size)
  have HB5 := Lib.hid hb5
  clear hb3 hb4 hbk h4 hb5 s3
  go_wp2_with fail
  refine (HDP.out w4 HB5.out).mono ?_
  rintro e w5 ⟨rfl, hb6⟩
  go_wp2_with fail
  go_ret
  exact ⟨rfl, HB.out.trans ((HB5.out.trans (hb6.mono HB5.out.size)).mono HB.out.size)⟩
end Go.Proofs.YtognlnjamlhmhaaGreatDoor.Char

/- The walk of the statement on Right, Size and Depth. -/
namespace Go.Proofs.YtognlnjamlhmhaaGreatDoor.Char
open Go.RowKit Go.Lib

mutual
theorem sz_cnt {N : Nat} : ∀ t : Tr, smT N t → szT t ≤ cntT t * (N + 1)
  | .mk kd nm tx ats ks, h => by
    have hd := smT_def.1 h
    have ih := sz_cntK ks hd.2.2.2.2.2
    have ha : ats.length ≤ N := hd.2.2.1
    rw [szT, cntT, Nat.add_mul]
    split
    · omega
    · have : 1 ≤ 1 * (N + 1) := by omega
      omega
theorem sz_cntK {N : Nat} : ∀ ks : List Tr, smK N ks → szK ks ≤ cntK ks * (N + 1)
  | [], _ => by rw [szK]; omega
  | k :: r, h => by
    rw [smK] at h
    have h1 := sz_cnt k h.1
    have h2 := sz_cntK r h.2
    rw [szK, cntK, Nat.add_mul]
    omega
end
set_option maxRecDepth 100000 in
set_option maxHeartbeats 8000000 in
theorem lawAsks_any (t : Tr) (va vk : Value) (w : World) (hn : NdOn w (fun b => b < w.heap.size) t va vk) (hs : smT 1048576 t) (hG : Gl6 w) :
    Calls Tryz.prog 5 #[ndV t va vk] w fun e w' => e = .returned (.bool true) ∧ Below w.heap.size w w' := by
  obtain ⟨oa, ja, ok, jk, rfl, rfl⟩ := hn.form
  obtain ⟨B, hB⟩ : ∃ B, B = w.heap.size := ⟨_, rfl⟩
  obtain ⟨W1, hW1⟩ : ∃ W1, W1 = w.alloc (.cells #[.int .i64 t.kd, .string (bs t.nm), .string (bs t.tx), .slice oa t.ats.length ja, .slice ok t.ks.length jk] 26) := ⟨_, rfl⟩
  have hb1 : Below w.heap.size w W1 := by rw [hW1]; exact (Below.refl _ _).alloc (Nat.le_refl _) _
  have hbk1 : W1.heap[B]? = some (.cells #[.int .i64 t.kd, .string (bs t.nm), .string (bs t.tx), .slice oa t.ats.length ja, .slice ok t.ks.length jk] 26 (0, 0)) := by rw [hW1, hB]; exact World.alloc_heap_new w _
  have hBl := block_of_heap hbk1
  have hbq : ∀ q : KeptT W1, q.at.heap[B]? = some (.cells #[.int .i64 t.kd, .string (bs t.nm), .string (bs t.tx), .slice oa t.ats.length ja, .slice ok t.ks.length jk] 26 (0, 0)) := fun q => (q.ok.block B hBl).trans hbk1
  have z0 : ∀ q : KeptT W1, q.at.cell? ⟨B, 0, none⟩ = some (.int .i64 t.kd) := fun q => by simp [World.cell?, hbq q]
  have z1 : ∀ q : KeptT W1, q.at.cell? ⟨B, 1, none⟩ = some (.string (bs t.nm)) := fun q => by simp [World.cell?, hbq q]
  have z2 : ∀ q : KeptT W1, q.at.cell? ⟨B, 2, none⟩ = some (.string (bs t.tx)) := fun q => by simp [World.cell?, hbq q]
  have z3 : ∀ q : KeptT W1, q.at.cell? ⟨B, 3, none⟩ = some (.slice oa t.ats.length ja) := fun q => by simp [World.cell?, hbq q]
  have z4 : ∀ q : KeptT W1, q.at.cell? ⟨B, 4, none⟩ = some (.slice ok t.ks.length jk) := fun q => by simp [World.cell?, hbq q]
  have hup : ∀ q : KeptT W1, Below w.heap.size w q.at := fun q => hb1.trans (q.ok.mono hb1.size)
  obtain ⟨q0, hq0⟩ : ∃ q0 : KeptT W1, W1 = q0.at := ⟨⟨W1, Below.refl _ _⟩, rfl⟩
  have hon : ∀ q : KeptT W1, NdOn q.at (fun b => b < q.at.heap.size) t (.slice oa t.ats.length ja) (.slice ok t.ks.length jk) := fun q => hn.move (fun b hb _ => ⟨Nat.lt_of_lt_of_le hb (hup q).size, (hup q).block b hb⟩)
  have hFW : ∀ q : KeptT W1, Calls Tryz.prog 13 #[.agg #[.int .i64 t.kd, .string (bs t.nm), .string (bs t.tx), .slice oa t.ats.length ja, .slice ok t.ks.length jk]] q.at fun e w' => e = .returned (.bool (fewB t)) ∧ ∃ q' : KeptT W1, w' = q'.at := fun q => (fewF_any t _ _ q.at (hon q)).mono fun e w' h => ⟨h.1, q.on h.2⟩
  have hWK : ∀ q : KeptT W1, Calls Tryz.prog 7 #[] q.at fun e w' => e = .returned (.bool true) ∧ ∃ q' : KeptT W1, w' = q'.at := fun q => (works_any q.at (hG.below (hup q))).mono fun e w' h => ⟨h.1, q.on h.2⟩
  have HW1 := Lib.hid (hW1.symm.trans hq0)
  have HB := Lib.hid hB
  have HUP := Lib.hid hup
  have HFW := Lib.hid hFW
  have HWK := Lib.hid hWK
  have HON := Lib.hid hon
  have HSM := Lib.hid hs
  have HG := Lib.hid hG
  clear hW1 hb1 hbk1 hBl hbq hq0 hB hn hs hup hon hFW hWK hG
  unfold ndV
  cases hfew : fewB t with
  | false =>
    rw [hfew] at HFW
    clear hfew
    go_enter Tryz.func5, Tryz.ntmps5
    go_wp2_with fail
    rw [← HB.out, HW1.out]
    go_wp2_with (first | (go_at_call 13; (with_reducible refine (HFW.out _).mono ?_); rintro e _ ⟨rfl, q, rfl⟩) | (go_at_call 7; (with_reducible refine (HWK.out _).mono ?_); rintro e _ ⟨rfl, q, rfl⟩))
    go_ret
    exact ⟨rfl, by first | exact HUP.out _ | (rw [HB.out]; exact HUP.out _)⟩
  | true =>
    have hc := fewB_cnt hfew
    rw [hfew] at HFW
    have hz : szT t < 2 ^ 63 := by
      have h1 := sz_cnt t HSM.out
      have h2 : cntT t * (1048576 + 1) ≤ 2000 * (1048576 + 1) := Nat.mul_le_mul_right _ hc
      omega
    have hP : ∀ q : KeptT W1, Calls Tryz.prog 11 #[.agg #[.int .i64 t.kd, .string (bs t.nm), .string (bs t.tx), .slice oa t.ats.length ja, .slice ok t.ks.length jk]] q.at fun e w' => e = .returned (.bool (rightD t)) ∧ ∃ q' : KeptT W1, w' = q'.at := fun q => (right_any t _ _ q.at (HON.out q) (by omega) (fun x hx => (sm_seq t 0 HSM.out x hx).fit) (HG.out.below (HUP.out q))).mono fun e w' h => ⟨by rw [← right_same]; exact h.1, q.on h.2⟩
    have hR : ∀ q : KeptT W1, Calls Tryz.prog 12 #[.agg #[.int .i64 t.kd, .string (bs t.nm), .string (bs t.tx), .slice oa t.ats.length ja, .slice ok t.ks.length jk]] q.at fun e w' => e = .returned (.bool (rightD t)) ∧ ∃ q' : KeptT W1, w' = q'.at := fun q => (refRights_any t _ _ q.at hc hz (HON.out q) HSM.out).mono fun e w' h => ⟨h.1, q.on h.2⟩
    have hS : ∀ q : KeptT W1, Calls Tryz.prog 14 #[.agg #[.int .i64 t.kd, .string (bs t.nm), .string (bs t.tx), .slice oa t.ats.length ja, .slice ok t.ks.length jk]] q.at fun e w' => e = .returned (.int .i64 (szT t : Int)) ∧ ∃ q' : KeptT W1, w' = q'.at := fun q => (size_any t _ _ q.at (HON.out q) (by omega) (by rw [szL_seqT]; exact hz)).mono fun e w' h => ⟨by rw [← szL_seqT 0 t]; exact h.1, q.on h.2⟩
    have hZ : ∀ q : KeptT W1, Calls Tryz.prog 15 #[.agg #[.int .i64 t.kd, .string (bs t.nm), .string (bs t.tx), .slice oa t.ats.length ja, .slice ok t.ks.length jk]] q.at fun e w' => e = .returned (.int .i64 (szT t : Int)) ∧ ∃ q' : KeptT W1, w' = q'.at := fun q => (refSize_any 2000 t _ _ q.at _ hc (HON.out q) hz (by omega)).mono fun e w' h => ⟨h.1, q.on h.2⟩
    have hD : ∀ q : KeptT W1, Calls Tryz.prog 16 #[.agg #[.int .i64 t.kd, .string (bs t.nm), .string (bs t.tx), .slice oa t.ats.length ja, .slice ok t.ks.length jk]] q.at fun e w' => e = .returned (.int .i64 (dpT t : Int)) ∧ ∃ q' : KeptT W1, w' = q'.at := fun q => (depth_any t _ _ q.at (HON.out q) (by omega)).mono fun e w' h => ⟨by have := h.1; rw [dpL_seqT, Nat.zero_add] at this; exact this, q.on h.2⟩
    have hE : ∀ q : KeptT W1, Calls Tryz.prog 17 #[.agg #[.int .i64 t.kd, .string (bs t.nm), .string (bs t.tx), .slice oa t.ats.length ja, .slice ok t.ks.length jk]] q.at fun e w' => e = .returned (.int .i64 (dpT t : Int)) ∧ ∃ q' : KeptT W1, w' = q'.at := fun q => (refDepth_any 2000 t _ _ q.at _ hc (HON.out q) (by omega)).mono fun e w' h => ⟨h.1, q.on h.2⟩
    generalize rightD t = r at *
    generalize szT t = m at *
    generalize dpT t = d at *
    have HP := Lib.hid hP
    have HR := Lib.hid hR
    have HS := Lib.hid hS
    have HZ := Lib.hid hZ
    have HD := Lib.hid hD
    have HE := Lib.hid hE
    clear hfew hc hz hP hR hS hZ hD hE
    cases r
    all_goals
      go_enter Tryz.func5, Tryz.ntmps5
      go_wp2_with fail
      rw [← HB.out, HW1.out]
      go_wp2_with (go_at_call 13; (with_reducible refine (HFW.out _).mono ?_); rintro e _ ⟨rfl, q1, rfl⟩)
      refine wp_region_kept (KeptT W1) KeptT.at (by kernel_rfl) (by kernel_rfl) (q1.on (Below.refl _ _).drew) ?_
      repeat (go_big_quiet_step (first
        | (go_at_call 11; rename_i q; exact HP.out q)
        | (go_at_call 12; rename_i q; exact HR.out q)
        | (go_at_call 14; rename_i q; exact HS.out q)
        | (go_at_call 15; rename_i q; exact HZ.out q)
        | (go_at_call 16; rename_i q; exact HD.out q)
        | (go_at_call 17; rename_i q; exact HE.out q)
        | (go_at_call 7; rename_i q; exact HWK.out q)))
      refine wpQuiet_nil ?_
      rintro w' ⟨q, rfl⟩
      go_wp2_with fail
      go_ret
      exact ⟨rfl, by first | exact HUP.out _ | (rw [HB.out]; exact HUP.out _)⟩
end Go.Proofs.YtognlnjamlhmhaaGreatDoor.Char
