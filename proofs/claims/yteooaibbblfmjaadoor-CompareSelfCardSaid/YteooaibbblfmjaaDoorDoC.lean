/- package compare's Do of two values that are no nodes, by its three ways (written by gen_do.py). -/
import Derived.Test.YteooaibbblfmjaaDoorDoM
namespace Go.Proofs.YteooaibbblfmjaaDoor.Char
open Go.RowKit Go.Lib

set_option maxRecDepth 100000 in
set_option maxHeartbeats 8000000 in
theorem do_truth_eq (op : Int) (ta : Int) (oa : Option Addr) (na ja : Nat) (ba : Bool) (ga va : Int) (sa : ByteArray) (tb : Int) (ob : Option Addr) (nb jb : Nat) (bb : Bool) (gb vb : Int) (sb : ByteArray) (w : World) (hta : ta = 2 ∨ ta = 3 ∨ ta = 4) (htb : tb = 2 ∨ tb = 3 ∨ tb = 4) (h3 : (op == 3) = true) (h2 : (ta == 2 || tb == 2) = true) (xa xb : Bool) (ma mb : Int) (X : Bool)
    (hTa : ∀ W, Below w.heap.size w W → Calls Tryd.prog 13 #[.agg #[.int .i64 ta, .slice oa na ja, .bool ba, .int .i64 ga, .int .i64 va, .string sa]] W fun e w' => e = .returned (.agg #[.int .i64 2, .slice none 0 0, .bool xa, .int .i64 0, .int .i64 0, .string ⟨#[]⟩]) ∧ Below W.heap.size W w')
    (hTb : ∀ W, Below w.heap.size w W → Calls Tryd.prog 13 #[.agg #[.int .i64 tb, .slice ob nb jb, .bool bb, .int .i64 gb, .int .i64 vb, .string sb]] W fun e w' => e = .returned (.agg #[.int .i64 2, .slice none 0 0, .bool xb, .int .i64 0, .int .i64 0, .string ⟨#[]⟩]) ∧ Below W.heap.size W w')
    (hNa : ∀ W, Below w.heap.size w W → Calls Tryd.prog 12 #[.pointer none, .agg #[.int .i64 2, .slice none 0 0, .bool xa, .int .i64 0, .int .i64 0, .string ⟨#[]⟩]] W fun e w' => e = .returned (.agg #[.int .i64 0, .int .i64 ma]) ∧ Below W.heap.size W w')
    (hNb : ∀ W, Below w.heap.size w W → Calls Tryd.prog 12 #[.pointer none, .agg #[.int .i64 2, .slice none 0 0, .bool xb, .int .i64 0, .int .i64 0, .string ⟨#[]⟩]] W fun e w' => e = .returned (.agg #[.int .i64 0, .int .i64 mb]) ∧ Below W.heap.size W w')
    (hX : X = wayL op (toD 0 ma) (toD 0 mb)) :
    Calls Tryd.prog 7 #[.pointer none, .int .i64 op, .agg #[.int .i64 ta, .slice oa na ja, .bool ba, .int .i64 ga, .int .i64 va, .string sa], .agg #[.int .i64 tb, .slice ob nb jb, .bool bb, .int .i64 gb, .int .i64 vb, .string sb]] w fun e w' => e = .returned (.bool X) ∧ Below w.heap.size w w' := by
  have HTRa := Lib.hid hTa
  have HTRb := Lib.hid hTb
  have HNa := Lib.hid hNa
  have HNb := Lib.hid hNb
  have HX : Hid (∀ q W, W.cell? ⟨q, 0, none⟩ = some (.int .i64 op) → q < W.heap.size → Calls Tryd.prog 20 #[.agg #[.int .i64 0, .int .i64 ma], .agg #[.int .i64 0, .int .i64 mb], .pointer (some ⟨q, 0, none⟩)] W fun e w' => e = .returned (.bool X) ∧ Below W.heap.size W w') := Lib.hid fun q W h h' => way1_at 0 ma 0 mb op q W h h' X hX
  clear hTa hTb hNa hNb hX
  have HTA := Lib.hid fun W => typed_any ta oa na ja ba ga va sa hta W
  have HTB := Lib.hid fun W => typed_any tb ob nb jb bb gb vb sb htb W
  have hn1a : (ta == 1) = false := by rcases hta with rfl | rfl | rfl <;> rfl
  have hn1b : (tb == 1) = false := by rcases htb with rfl | rfl | rfl <;> rfl
  clear hta htb
  obtain ⟨W0, hW0⟩ : ∃ W0, W0 = ((w.alloc (.cells #[.int .i64 op] 3)).alloc (.cells #[.int .i64 ta, .slice oa na ja, .bool ba, .int .i64 ga, .int .i64 va, .string sa] 26)).alloc (.cells #[.int .i64 tb, .slice ob nb jb, .bool bb, .int .i64 gb, .int .i64 vb, .string sb] 26) := ⟨_, rfl⟩
  have hB0 : Below w.heap.size w W0 := by rw [hW0]; exact ((below_box w _).alloc (by simp) _).alloc (by simp; omega) _
  obtain ⟨k0, k1, k2⟩ := three_blk w (.cells #[.int .i64 op] 3) (.cells #[.int .i64 ta, .slice oa na ja, .bool ba, .int .i64 ga, .int .i64 va, .string sa] 26) (.cells #[.int .i64 tb, .slice ob nb jb, .bool bb, .int .i64 gb, .int .i64 vb, .string sb] 26)
  rw [← hW0] at k0 k1 k2
  have HS : Hid (∀ W', Below W0.heap.size W0 W' → W'.cell? ⟨w.heap.size, 0, none⟩ = some (.int .i64 op) ∧ (W'.cell? ⟨w.heap.size + 1, 0, none⟩ = some (.int .i64 ta) ∧ W'.cell? ⟨w.heap.size + 1, 1, none⟩ = some (.slice oa na ja) ∧ W'.cell? ⟨w.heap.size + 1, 2, none⟩ = some (.bool ba) ∧ W'.cell? ⟨w.heap.size + 1, 3, none⟩ = some (.int .i64 ga) ∧ W'.cell? ⟨w.heap.size + 1, 4, none⟩ = some (.int .i64 va) ∧ W'.cell? ⟨w.heap.size + 1, 5, none⟩ = some (.string sa)) ∧ W'.cell? ⟨w.heap.size + 1 + 1, 0, none⟩ = some (.int .i64 tb) ∧ W'.cell? ⟨w.heap.size + 1 + 1, 1, none⟩ = some (.slice ob nb jb) ∧ W'.cell? ⟨w.heap.size + 1 + 1, 2, none⟩ = some (.bool bb) ∧ W'.cell? ⟨w.heap.size + 1 + 1, 3, none⟩ = some (.int .i64 gb) ∧ W'.cell? ⟨w.heap.size + 1 + 1, 4, none⟩ = some (.int .i64 vb) ∧ W'.cell? ⟨w.heap.size + 1 + 1, 5, none⟩ = some (.string sb)) := Lib.hid fun W' h => by
    have m0 := blk_call k0 h
    have m1 := blk_call (o := boxVa ta oa na ja ba ga va sa) k1 h
    have m2 := blk_call (o := boxVa tb ob nb jb bb gb vb sb) k2 h
    exact ⟨scell m0, (boxVa_blk m1).1, (boxVa_blk m2).1⟩
  obtain ⟨e0, ⟨a0, a1, a2, a3, a4, a5⟩, d0, d1, d2, d3, d4, d5⟩ := HS.out W0 (Below.refl _ _)
  have HB0 := Lib.hid hB0
  rw [hW0] at e0 a0 a1 a2 a3 a4 a5 d0 d1 d2 d3 d4 d5
  have HW0 := Lib.hid hW0
  clear k0 k1 k2 hB0
  go_enter Tryd.func7, Tryd.ntmps7
  go_upto_region 6 with (first
    | (go_at_call 10
       with_reducible refine (HTA.out _).mono ?_
       rintro e w1 ⟨rfl, hb⟩
       rw [← HW0.out] at hb
       obtain ⟨e0, ⟨a0, a1, a2, a3, a4, a5⟩, d0, d1, d2, d3, d4, d5⟩ := HS.out w1 hb
       have HB1 := Lib.hid hb
       clear hb)
    | (go_at_call 10
       with_reducible refine (HTB.out _).mono ?_
       rintro e w2 ⟨rfl, hb⟩
       have hb := HB1.out.trans (hb.mono HB1.out.size)
       obtain ⟨e0, ⟨a0, a1, a2, a3, a4, a5⟩, d0, d1, d2, d3, d4, d5⟩ := HS.out w2 hb
       have HB2 := Lib.hid hb
       clear hb)
    | (go_at_call 9
       refine (with_any (w.heap.size + 1) (w.heap.size + 1 + 1) ta tb _ _ a0 d0).mono ?_
       rintro e w' ⟨rfl, hw⟩
       have hw := hw.symm
       subst hw))
  all_goals
    refine wp_region_held (S := (fun W' => W'.cell? ⟨w.heap.size, 0, none⟩ = some (.int .i64 op) ∧ (W'.cell? ⟨w.heap.size + 1, 0, none⟩ = some (.int .i64 ta) ∧ W'.cell? ⟨w.heap.size + 1, 1, none⟩ = some (.slice oa na ja) ∧ W'.cell? ⟨w.heap.size + 1, 2, none⟩ = some (.bool ba) ∧ W'.cell? ⟨w.heap.size + 1, 3, none⟩ = some (.int .i64 ga) ∧ W'.cell? ⟨w.heap.size + 1, 4, none⟩ = some (.int .i64 va) ∧ W'.cell? ⟨w.heap.size + 1, 5, none⟩ = some (.string sa)) ∧ W'.cell? ⟨w.heap.size + 1 + 1, 0, none⟩ = some (.int .i64 tb) ∧ W'.cell? ⟨w.heap.size + 1 + 1, 1, none⟩ = some (.slice ob nb jb) ∧ W'.cell? ⟨w.heap.size + 1 + 1, 2, none⟩ = some (.bool bb) ∧ W'.cell? ⟨w.heap.size + 1 + 1, 3, none⟩ = some (.int .i64 gb) ∧ W'.cell? ⟨w.heap.size + 1 + 1, 4, none⟩ = some (.int .i64 vb) ∧ W'.cell? ⟨w.heap.size + 1 + 1, 5, none⟩ = some (.string sb))) (by kernel_rfl) ?_
    change wpAnyH _ _ _ _ _ _ _ _ w2.drew
    have HB2 := Lib.hid HB2.out.drew
    have hH0 := HS.out w2.drew HB2.out
    refine wpAnyH_take (i := 0) (oi := _) (v := (.int .i64 op)) rfl (by kernel_rfl) (by kernel_rfl) (by kernel_rfl) (fun _ _ _ h => h) (Or.inl ⟨by rfl, fun W hSw => by dsimp only at hSw; go_simp⟩) hH0 ?_
    simp only [Act.put, List.setIfInBounds_toArray]
    refine wpAnyH_take (i := 2) (oi := _) (v := (.pointer none)) rfl (by kernel_rfl) (by kernel_rfl) (by kernel_rfl) (fun _ _ _ h => h) (Or.inl ⟨by rfl, fun W hSw => by dsimp only at hSw; go_simp⟩) hH0 ?_
    simp only [Act.put]
    refine wpAnyH_take (i := 3) (oi := _) (v := (.agg #[.int .i64 ta, .slice oa na ja, .bool ba, .int .i64 ga, .int .i64 va, .string sa])) rfl (by kernel_rfl) (by kernel_rfl) (by kernel_rfl) (fun _ _ _ h => h) (Or.inl ⟨by rfl, fun W hSw => by dsimp only at hSw; go_simp⟩) hH0 ?_
    simp only [Act.put]
    refine wpAnyH_take (i := 6) (oi := _) (v := (.pointer none)) rfl (by kernel_rfl) (by kernel_rfl) (by kernel_rfl) (fun _ _ _ h => h) (Or.inl ⟨by rfl, fun W hSw => by dsimp only at hSw; go_simp⟩) hH0 ?_
    simp only [Act.put]
    refine wpAnyH_take (i := 7) (oi := _) (v := (.agg #[.int .i64 tb, .slice ob nb jb, .bool bb, .int .i64 gb, .int .i64 vb, .string sb])) rfl (by kernel_rfl) (by kernel_rfl) (by kernel_rfl) (fun _ _ _ h => h) (Or.inl ⟨by rfl, fun W hSw => by dsimp only at hSw; go_simp⟩) hH0 ?_
    simp only [Act.put]
    clear hH0
    refine wpAnyH_ready (rs := [1]) (by kernel_rfl) (by simp) ?_
    refine AllReadyH.cons rfl (fun K hK => ?_) (AllReadyH.nil)
    go_simp
    refine (way_any op w2.drew).mono ?_
    rintro e w3 ⟨q, rfl, hq, hb⟩
    have HQ := Lib.hid fun (W : World) (h : Below w3.heap.size w3 W) => (show W.cell? ⟨q, 0, none⟩ = some (.int .i64 op) ∧ q < W.heap.size from ⟨(h.cell (p := ⟨q, 0, none⟩) hq.2).trans hq.1, Nat.lt_of_lt_of_le hq.2 h.size⟩)
    have HB3 := Lib.hid (HB2.out.trans (hb.mono HB2.out.size))
    clear hb
    have HC3 := Lib.hid (Below.refl w3.heap.size w3)
    clear hq
    refine hK.out _ _ (HS.out _ HB3.out) (fun _ => ?_)
    clear hK K
    refine wpAnyH_ready (rs := [4]) (by kernel_rfl) (by simp) ?_
    refine AllReadyH.cons rfl (fun K hK => ?_) (AllReadyH.nil)
    go_simp
    refine (HTRa.out w3 (HB0.out.trans (HB3.out.mono HB0.out.size))).mono ?_
    rintro e w4 ⟨rfl, hb⟩
    have HC4 := Lib.hid (HC3.out.trans (hb.mono HC3.out.size))
    have HB4 := Lib.hid (HB3.out.trans (hb.mono HB3.out.size))
    clear hb
    refine hK.out _ _ (HS.out _ HB4.out) (fun _ => ?_)
    clear hK K
    refine wpAnyH_ready (rs := [5]) (by kernel_rfl) (by simp) ?_
    refine AllReadyH.cons rfl (fun K hK => ?_) (AllReadyH.nil)
    go_simp
    refine (HNa.out w4 (HB0.out.trans (HB4.out.mono HB0.out.size))).mono ?_
    rintro e w5 ⟨rfl, hb⟩
    have HC5 := Lib.hid (HC4.out.trans (hb.mono HC4.out.size))
    have HB5 := Lib.hid (HB4.out.trans (hb.mono HB4.out.size))
    clear hb
    refine hK.out _ _ (HS.out _ HB5.out) (fun _ => ?_)
    clear hK K
    refine wpAnyH_ready (rs := [8]) (by kernel_rfl) (by simp) ?_
    refine AllReadyH.cons rfl (fun K hK => ?_) (AllReadyH.nil)
    go_simp
    refine (HTRb.out w5 (HB0.out.trans (HB5.out.mono HB0.out.size))).mono ?_
    rintro e w6 ⟨rfl, hb⟩
    have HC6 := Lib.hid (HC5.out.trans (hb.mono HC5.out.size))
    have HB6 := Lib.hid (HB5.out.trans (hb.mono HB5.out.size))
    clear hb
    refine hK.out _ _ (HS.out _ HB6.out) (fun _ => ?_)
    clear hK K
    refine wpAnyH_ready (rs := [9]) (by kernel_rfl) (by simp) ?_
    refine AllReadyH.cons rfl (fun K hK => ?_) (AllReadyH.nil)
    go_simp
    refine (HNb.out w6 (HB0.out.trans (HB6.out.mono HB0.out.size))).mono ?_
    rintro e w7 ⟨rfl, hb⟩
    have HC7 := Lib.hid (HC6.out.trans (hb.mono HC6.out.size))
    have HB7 := Lib.hid (HB6.out.trans (hb.mono HB6.out.size))
    clear hb
    refine hK.out _ _ (HS.out _ HB7.out) (fun _ => ?_)
    clear hK K
    refine wpAnyH_ready (rs := [10]) (by kernel_rfl) (by simp) ?_
    refine AllReadyH.cons rfl (fun K hK => ?_) (AllReadyH.nil)
    go_simp
    refine (HX.out q w7 (HQ.out w7 HC7.out).1 (HQ.out w7 HC7.out).2).mono ?_
    rintro e w8 ⟨rfl, hb⟩
    have HB8 := Lib.hid (HB7.out.trans (hb.mono HB7.out.size))
    clear hb
    refine hK.out _ _ (HS.out _ HB8.out) (fun _ => ?_)
    clear hK K
    refine wpAnyH_ready (rs := [11]) (by kernel_rfl) (by simp) ?_
    refine AllReadyH.cons rfl (fun K hK => ?_) (AllReadyH.nil)
    go_simp
    refine hK.out _ _ (HS.out _ HB8.out) (fun _ => ?_)
    clear hK K
    refine wpAnyH_done (by kernel_rfl) ?_ _
    go_wp2_with fail
    go_ret
    exact ⟨rfl, HB0.out.trans (HB8.out.mono HB0.out.size)⟩
set_option maxRecDepth 100000 in
set_option maxHeartbeats 8000000 in
theorem do_truth_ne (op : Int) (ta : Int) (oa : Option Addr) (na ja : Nat) (ba : Bool) (ga va : Int) (sa : ByteArray) (tb : Int) (ob : Option Addr) (nb jb : Nat) (bb : Bool) (gb vb : Int) (sb : ByteArray) (w : World) (hta : ta = 2 ∨ ta = 3 ∨ ta = 4) (htb : tb = 2 ∨ tb = 3 ∨ tb = 4) (h3 : (op == 3) = false) (h4 : (op == 4) = true) (h2 : (ta == 2 || tb == 2) = true) (xa xb : Bool) (ma mb : Int) (X : Bool)
    (hTa : ∀ W, Below w.heap.size w W → Calls Tryd.prog 13 #[.agg #[.int .i64 ta, .slice oa na ja, .bool ba, .int .i64 ga, .int .i64 va, .string sa]] W fun e w' => e = .returned (.agg #[.int .i64 2, .slice none 0 0, .bool xa, .int .i64 0, .int .i64 0, .string ⟨#[]⟩]) ∧ Below W.heap.size W w')
    (hTb : ∀ W, Below w.heap.size w W → Calls Tryd.prog 13 #[.agg #[.int .i64 tb, .slice ob nb jb, .bool bb, .int .i64 gb, .int .i64 vb, .string sb]] W fun e w' => e = .returned (.agg #[.int .i64 2, .slice none 0 0, .bool xb, .int .i64 0, .int .i64 0, .string ⟨#[]⟩]) ∧ Below W.heap.size W w')
    (hNa : ∀ W, Below w.heap.size w W → Calls Tryd.prog 12 #[.pointer none, .agg #[.int .i64 2, .slice none 0 0, .bool xa, .int .i64 0, .int .i64 0, .string ⟨#[]⟩]] W fun e w' => e = .returned (.agg #[.int .i64 0, .int .i64 ma]) ∧ Below W.heap.size W w')
    (hNb : ∀ W, Below w.heap.size w W → Calls Tryd.prog 12 #[.pointer none, .agg #[.int .i64 2, .slice none 0 0, .bool xb, .int .i64 0, .int .i64 0, .string ⟨#[]⟩]] W fun e w' => e = .returned (.agg #[.int .i64 0, .int .i64 mb]) ∧ Below W.heap.size W w')
    (hX : X = wayL op (toD 0 ma) (toD 0 mb)) :
    Calls Tryd.prog 7 #[.pointer none, .int .i64 op, .agg #[.int .i64 ta, .slice oa na ja, .bool ba, .int .i64 ga, .int .i64 va, .string sa], .agg #[.int .i64 tb, .slice ob nb jb, .bool bb, .int .i64 gb, .int .i64 vb, .string sb]] w fun e w' => e = .returned (.bool X) ∧ Below w.heap.size w w' := by
  have HTRa := Lib.hid hTa
  have HTRb := Lib.hid hTb
  have HNa := Lib.hid hNa
  have HNb := Lib.hid hNb
  have HX : Hid (∀ q W, W.cell? ⟨q, 0, none⟩ = some (.int .i64 op) → q < W.heap.size → Calls Tryd.prog 20 #[.agg #[.int .i64 0, .int .i64 ma], .agg #[.int .i64 0, .int .i64 mb], .pointer (some ⟨q, 0, none⟩)] W fun e w' => e = .returned (.bool X) ∧ Below W.heap.size W w') := Lib.hid fun q W h h' => way1_at 0 ma 0 mb op q W h h' X hX
  clear hTa hTb hNa hNb hX
  have HTA := Lib.hid fun W => typed_any ta oa na ja ba ga va sa hta W
  have HTB := Lib.hid fun W => typed_any tb ob nb jb bb gb vb sb htb W
  have hn1a : (ta == 1) = false := by rcases hta with rfl | rfl | rfl <;> rfl
  have hn1b : (tb == 1) = false := by rcases htb with rfl | rfl | rfl <;> rfl
  clear hta htb
  obtain ⟨W0, hW0⟩ : ∃ W0, W0 = ((w.alloc (.cells #[.int .i64 op] 3)).alloc (.cells #[.int .i64 ta, .slice oa na ja, .bool ba, .int .i64 ga, .int .i64 va, .string sa] 26)).alloc (.cells #[.int .i64 tb, .slice ob nb jb, .bool bb, .int .i64 gb, .int .i64 vb, .string sb] 26) := ⟨_, rfl⟩
  have hB0 : Below w.heap.size w W0 := by rw [hW0]; exact ((below_box w _).alloc (by simp) _).alloc (by simp; omega) _
  obtain ⟨k0, k1, k2⟩ := three_blk w (.cells #[.int .i64 op] 3) (.cells #[.int .i64 ta, .slice oa na ja, .bool ba, .int .i64 ga, .int .i64 va, .string sa] 26) (.cells #[.int .i64 tb, .slice ob nb jb, .bool bb, .int .i64 gb, .int .i64 vb, .string sb] 26)
  rw [← hW0] at k0 k1 k2
  have HS : Hid (∀ W', Below W0.heap.size W0 W' → W'.cell? ⟨w.heap.size, 0, none⟩ = some (.int .i64 op) ∧ (W'.cell? ⟨w.heap.size + 1, 0, none⟩ = some (.int .i64 ta) ∧ W'.cell? ⟨w.heap.size + 1, 1, none⟩ = some (.slice oa na ja) ∧ W'.cell? ⟨w.heap.size + 1, 2, none⟩ = some (.bool ba) ∧ W'.cell? ⟨w.heap.size + 1, 3, none⟩ = some (.int .i64 ga) ∧ W'.cell? ⟨w.heap.size + 1, 4, none⟩ = some (.int .i64 va) ∧ W'.cell? ⟨w.heap.size + 1, 5, none⟩ = some (.string sa)) ∧ W'.cell? ⟨w.heap.size + 1 + 1, 0, none⟩ = some (.int .i64 tb) ∧ W'.cell? ⟨w.heap.size + 1 + 1, 1, none⟩ = some (.slice ob nb jb) ∧ W'.cell? ⟨w.heap.size + 1 + 1, 2, none⟩ = some (.bool bb) ∧ W'.cell? ⟨w.heap.size + 1 + 1, 3, none⟩ = some (.int .i64 gb) ∧ W'.cell? ⟨w.heap.size + 1 + 1, 4, none⟩ = some (.int .i64 vb) ∧ W'.cell? ⟨w.heap.size + 1 + 1, 5, none⟩ = some (.string sb)) := Lib.hid fun W' h => by
    have m0 := blk_call k0 h
    have m1 := blk_call (o := boxVa ta oa na ja ba ga va sa) k1 h
    have m2 := blk_call (o := boxVa tb ob nb jb bb gb vb sb) k2 h
    exact ⟨scell m0, (boxVa_blk m1).1, (boxVa_blk m2).1⟩
  obtain ⟨e0, ⟨a0, a1, a2, a3, a4, a5⟩, d0, d1, d2, d3, d4, d5⟩ := HS.out W0 (Below.refl _ _)
  have HB0 := Lib.hid hB0
  rw [hW0] at e0 a0 a1 a2 a3 a4 a5 d0 d1 d2 d3 d4 d5
  have HW0 := Lib.hid hW0
  clear k0 k1 k2 hB0
  go_enter Tryd.func7, Tryd.ntmps7
  go_upto_region 6 with (first
    | (go_at_call 10
       with_reducible refine (HTA.out _).mono ?_
       rintro e w1 ⟨rfl, hb⟩
       rw [← HW0.out] at hb
       obtain ⟨e0, ⟨a0, a1, a2, a3, a4, a5⟩, d0, d1, d2, d3, d4, d5⟩ := HS.out w1 hb
       have HB1 := Lib.hid hb
       clear hb)
    | (go_at_call 10
       with_reducible refine (HTB.out _).mono ?_
       rintro e w2 ⟨rfl, hb⟩
       have hb := HB1.out.trans (hb.mono HB1.out.size)
       obtain ⟨e0, ⟨a0, a1, a2, a3, a4, a5⟩, d0, d1, d2, d3, d4, d5⟩ := HS.out w2 hb
       have HB2 := Lib.hid hb
       clear hb)
    | (go_at_call 9
       refine (with_any (w.heap.size + 1) (w.heap.size + 1 + 1) ta tb _ _ a0 d0).mono ?_
       rintro e w' ⟨rfl, hw⟩
       have hw := hw.symm
       subst hw))
  all_goals
    refine wp_region_held (S := (fun W' => W'.cell? ⟨w.heap.size, 0, none⟩ = some (.int .i64 op) ∧ (W'.cell? ⟨w.heap.size + 1, 0, none⟩ = some (.int .i64 ta) ∧ W'.cell? ⟨w.heap.size + 1, 1, none⟩ = some (.slice oa na ja) ∧ W'.cell? ⟨w.heap.size + 1, 2, none⟩ = some (.bool ba) ∧ W'.cell? ⟨w.heap.size + 1, 3, none⟩ = some (.int .i64 ga) ∧ W'.cell? ⟨w.heap.size + 1, 4, none⟩ = some (.int .i64 va) ∧ W'.cell? ⟨w.heap.size + 1, 5, none⟩ = some (.string sa)) ∧ W'.cell? ⟨w.heap.size + 1 + 1, 0, none⟩ = some (.int .i64 tb) ∧ W'.cell? ⟨w.heap.size + 1 + 1, 1, none⟩ = some (.slice ob nb jb) ∧ W'.cell? ⟨w.heap.size + 1 + 1, 2, none⟩ = some (.bool bb) ∧ W'.cell? ⟨w.heap.size + 1 + 1, 3, none⟩ = some (.int .i64 gb) ∧ W'.cell? ⟨w.heap.size + 1 + 1, 4, none⟩ = some (.int .i64 vb) ∧ W'.cell? ⟨w.heap.size + 1 + 1, 5, none⟩ = some (.string sb))) (by kernel_rfl) ?_
    change wpAnyH _ _ _ _ _ _ _ _ w2.drew
    have HB2 := Lib.hid HB2.out.drew
    have hH0 := HS.out w2.drew HB2.out
    refine wpAnyH_take (i := 0) (oi := _) (v := (.int .i64 op)) rfl (by kernel_rfl) (by kernel_rfl) (by kernel_rfl) (fun _ _ _ h => h) (Or.inl ⟨by rfl, fun W hSw => by dsimp only at hSw; go_simp⟩) hH0 ?_
    simp only [Act.put, List.setIfInBounds_toArray]
    refine wpAnyH_take (i := 2) (oi := _) (v := (.pointer none)) rfl (by kernel_rfl) (by kernel_rfl) (by kernel_rfl) (fun _ _ _ h => h) (Or.inl ⟨by rfl, fun W hSw => by dsimp only at hSw; go_simp⟩) hH0 ?_
    simp only [Act.put]
    refine wpAnyH_take (i := 3) (oi := _) (v := (.agg #[.int .i64 ta, .slice oa na ja, .bool ba, .int .i64 ga, .int .i64 va, .string sa])) rfl (by kernel_rfl) (by kernel_rfl) (by kernel_rfl) (fun _ _ _ h => h) (Or.inl ⟨by rfl, fun W hSw => by dsimp only at hSw; go_simp⟩) hH0 ?_
    simp only [Act.put]
    refine wpAnyH_take (i := 6) (oi := _) (v := (.pointer none)) rfl (by kernel_rfl) (by kernel_rfl) (by kernel_rfl) (fun _ _ _ h => h) (Or.inl ⟨by rfl, fun W hSw => by dsimp only at hSw; go_simp⟩) hH0 ?_
    simp only [Act.put]
    refine wpAnyH_take (i := 7) (oi := _) (v := (.agg #[.int .i64 tb, .slice ob nb jb, .bool bb, .int .i64 gb, .int .i64 vb, .string sb])) rfl (by kernel_rfl) (by kernel_rfl) (by kernel_rfl) (fun _ _ _ h => h) (Or.inl ⟨by rfl, fun W hSw => by dsimp only at hSw; go_simp⟩) hH0 ?_
    simp only [Act.put]
    clear hH0
    refine wpAnyH_ready (rs := [1]) (by kernel_rfl) (by simp) ?_
    refine AllReadyH.cons rfl (fun K hK => ?_) (AllReadyH.nil)
    go_simp
    refine (way_any op w2.drew).mono ?_
    rintro e w3 ⟨q, rfl, hq, hb⟩
    have HQ := Lib.hid fun (W : World) (h : Below w3.heap.size w3 W) => (show W.cell? ⟨q, 0, none⟩ = some (.int .i64 op) ∧ q < W.heap.size from ⟨(h.cell (p := ⟨q, 0, none⟩) hq.2).trans hq.1, Nat.lt_of_lt_of_le hq.2 h.size⟩)
    have HB3 := Lib.hid (HB2.out.trans (hb.mono HB2.out.size))
    clear hb
    have HC3 := Lib.hid (Below.refl w3.heap.size w3)
    clear hq
    refine hK.out _ _ (HS.out _ HB3.out) (fun _ => ?_)
    clear hK K
    refine wpAnyH_ready (rs := [4]) (by kernel_rfl) (by simp) ?_
    refine AllReadyH.cons rfl (fun K hK => ?_) (AllReadyH.nil)
    go_simp
    refine (HTRa.out w3 (HB0.out.trans (HB3.out.mono HB0.out.size))).mono ?_
    rintro e w4 ⟨rfl, hb⟩
    have HC4 := Lib.hid (HC3.out.trans (hb.mono HC3.out.size))
    have HB4 := Lib.hid (HB3.out.trans (hb.mono HB3.out.size))
    clear hb
    refine hK.out _ _ (HS.out _ HB4.out) (fun _ => ?_)
    clear hK K
    refine wpAnyH_ready (rs := [5]) (by kernel_rfl) (by simp) ?_
    refine AllReadyH.cons rfl (fun K hK => ?_) (AllReadyH.nil)
    go_simp
    refine (HNa.out w4 (HB0.out.trans (HB4.out.mono HB0.out.size))).mono ?_
    rintro e w5 ⟨rfl, hb⟩
    have HC5 := Lib.hid (HC4.out.trans (hb.mono HC4.out.size))
    have HB5 := Lib.hid (HB4.out.trans (hb.mono HB4.out.size))
    clear hb
    refine hK.out _ _ (HS.out _ HB5.out) (fun _ => ?_)
    clear hK K
    refine wpAnyH_ready (rs := [8]) (by kernel_rfl) (by simp) ?_
    refine AllReadyH.cons rfl (fun K hK => ?_) (AllReadyH.nil)
    go_simp
    refine (HTRb.out w5 (HB0.out.trans (HB5.out.mono HB0.out.size))).mono ?_
    rintro e w6 ⟨rfl, hb⟩
    have HC6 := Lib.hid (HC5.out.trans (hb.mono HC5.out.size))
    have HB6 := Lib.hid (HB5.out.trans (hb.mono HB5.out.size))
    clear hb
    refine hK.out _ _ (HS.out _ HB6.out) (fun _ => ?_)
    clear hK K
    refine wpAnyH_ready (rs := [9]) (by kernel_rfl) (by simp) ?_
    refine AllReadyH.cons rfl (fun K hK => ?_) (AllReadyH.nil)
    go_simp
    refine (HNb.out w6 (HB0.out.trans (HB6.out.mono HB0.out.size))).mono ?_
    rintro e w7 ⟨rfl, hb⟩
    have HC7 := Lib.hid (HC6.out.trans (hb.mono HC6.out.size))
    have HB7 := Lib.hid (HB6.out.trans (hb.mono HB6.out.size))
    clear hb
    refine hK.out _ _ (HS.out _ HB7.out) (fun _ => ?_)
    clear hK K
    refine wpAnyH_ready (rs := [10]) (by kernel_rfl) (by simp) ?_
    refine AllReadyH.cons rfl (fun K hK => ?_) (AllReadyH.nil)
    go_simp
    refine (HX.out q w7 (HQ.out w7 HC7.out).1 (HQ.out w7 HC7.out).2).mono ?_
    rintro e w8 ⟨rfl, hb⟩
    have HB8 := Lib.hid (HB7.out.trans (hb.mono HB7.out.size))
    clear hb
    refine hK.out _ _ (HS.out _ HB8.out) (fun _ => ?_)
    clear hK K
    refine wpAnyH_ready (rs := [11]) (by kernel_rfl) (by simp) ?_
    refine AllReadyH.cons rfl (fun K hK => ?_) (AllReadyH.nil)
    go_simp
    refine hK.out _ _ (HS.out _ HB8.out) (fun _ => ?_)
    clear hK K
    refine wpAnyH_done (by kernel_rfl) ?_ _
    go_wp2_with fail
    go_ret
    exact ⟨rfl, HB0.out.trans (HB8.out.mono HB0.out.size)⟩
set_option maxRecDepth 100000 in
set_option maxHeartbeats 8000000 in
theorem do_num_a (op : Int) (ta : Int) (oa : Option Addr) (na ja : Nat) (ba : Bool) (ga va : Int) (sa : ByteArray) (tb : Int) (ob : Option Addr) (nb jb : Nat) (bb : Bool) (gb vb : Int) (sb : ByteArray) (w : World) (hta : ta = 2 ∨ ta = 3 ∨ ta = 4) (htb : tb = 2 ∨ tb = 3 ∨ tb = 4) (h3 : (op == 3) = false) (h4 : (op == 4) = false) (h2 : (ta == 2 || tb == 2) = true) (ka ma kb mb : Int) (X : Bool)
    (hNa : ∀ W, Below w.heap.size w W → Calls Tryd.prog 15 #[.pointer none, .agg #[.int .i64 ta, .slice oa na ja, .bool ba, .int .i64 ga, .int .i64 va, .string sa]] W fun e w' => ∃ r, e = .returned r ∧ DcsOn w' r [(ka, ma)] ∧ Below W.heap.size W w')
    (hNb : ∀ W, Below w.heap.size w W → Calls Tryd.prog 15 #[.pointer none, .agg #[.int .i64 tb, .slice ob nb jb, .bool bb, .int .i64 gb, .int .i64 vb, .string sb]] W fun e w' => ∃ r, e = .returned r ∧ DcsOn w' r [(kb, mb)] ∧ Below W.heap.size W w')
    (hX : X = wayL op (toD ka ma) (toD kb mb)) :
    Calls Tryd.prog 7 #[.pointer none, .int .i64 op, .agg #[.int .i64 ta, .slice oa na ja, .bool ba, .int .i64 ga, .int .i64 va, .string sa], .agg #[.int .i64 tb, .slice ob nb jb, .bool bb, .int .i64 gb, .int .i64 vb, .string sb]] w fun e w' => e = .returned (.bool X) ∧ Below w.heap.size w w' := by
  have HNa := Lib.hid hNa
  have HNb := Lib.hid hNb
  have HX : Hid (∀ ra rb q W, DcsOn W ra [(ka, ma)] → DcsOn W rb [(kb, mb)] → W.cell? ⟨q, 0, none⟩ = some (.int .i64 op) → Calls Tryd.prog 14 #[ra, rb, .func (.func 20) #[] #[.pointer (some ⟨q, 0, none⟩)]] W fun e w' => e = .returned (.bool X) ∧ Below W.heap.size W w') := Lib.hid fun ra rb q W h1 h2 h3 => by
    have := someD_any ra rb [(ka, ma)] [(kb, mb)] q op W h1 h2 (by simp) (by simp) h3
    rw [hX]
    simpa using this
  clear hNa hNb hX
  have HTA := Lib.hid fun W => typed_any ta oa na ja ba ga va sa hta W
  have HTB := Lib.hid fun W => typed_any tb ob nb jb bb gb vb sb htb W
  have hn1a : (ta == 1) = false := by rcases hta with rfl | rfl | rfl <;> rfl
  have hn1b : (tb == 1) = false := by rcases htb with rfl | rfl | rfl <;> rfl
  clear hta htb
  obtain ⟨W0, hW0⟩ : ∃ W0, W0 = ((w.alloc (.cells #[.int .i64 op] 3)).alloc (.cells #[.int .i64 ta, .slice oa na ja, .bool ba, .int .i64 ga, .int .i64 va, .string sa] 26)).alloc (.cells #[.int .i64 tb, .slice ob nb jb, .bool bb, .int .i64 gb, .int .i64 vb, .string sb] 26) := ⟨_, rfl⟩
  have hB0 : Below w.heap.size w W0 := by rw [hW0]; exact ((below_box w _).alloc (by simp) _).alloc (by simp; omega) _
  obtain ⟨k0, k1, k2⟩ := three_blk w (.cells #[.int .i64 op] 3) (.cells #[.int .i64 ta, .slice oa na ja, .bool ba, .int .i64 ga, .int .i64 va, .string sa] 26) (.cells #[.int .i64 tb, .slice ob nb jb, .bool bb, .int .i64 gb, .int .i64 vb, .string sb] 26)
  rw [← hW0] at k0 k1 k2
  have HS : Hid (∀ W', Below W0.heap.size W0 W' → W'.cell? ⟨w.heap.size, 0, none⟩ = some (.int .i64 op) ∧ (W'.cell? ⟨w.heap.size + 1, 0, none⟩ = some (.int .i64 ta) ∧ W'.cell? ⟨w.heap.size + 1, 1, none⟩ = some (.slice oa na ja) ∧ W'.cell? ⟨w.heap.size + 1, 2, none⟩ = some (.bool ba) ∧ W'.cell? ⟨w.heap.size + 1, 3, none⟩ = some (.int .i64 ga) ∧ W'.cell? ⟨w.heap.size + 1, 4, none⟩ = some (.int .i64 va) ∧ W'.cell? ⟨w.heap.size + 1, 5, none⟩ = some (.string sa)) ∧ W'.cell? ⟨w.heap.size + 1 + 1, 0, none⟩ = some (.int .i64 tb) ∧ W'.cell? ⟨w.heap.size + 1 + 1, 1, none⟩ = some (.slice ob nb jb) ∧ W'.cell? ⟨w.heap.size + 1 + 1, 2, none⟩ = some (.bool bb) ∧ W'.cell? ⟨w.heap.size + 1 + 1, 3, none⟩ = some (.int .i64 gb) ∧ W'.cell? ⟨w.heap.size + 1 + 1, 4, none⟩ = some (.int .i64 vb) ∧ W'.cell? ⟨w.heap.size + 1 + 1, 5, none⟩ = some (.string sb)) := Lib.hid fun W' h => by
    have m0 := blk_call k0 h
    have m1 := blk_call (o := boxVa ta oa na ja ba ga va sa) k1 h
    have m2 := blk_call (o := boxVa tb ob nb jb bb gb vb sb) k2 h
    exact ⟨scell m0, (boxVa_blk m1).1, (boxVa_blk m2).1⟩
  obtain ⟨e0, ⟨a0, a1, a2, a3, a4, a5⟩, d0, d1, d2, d3, d4, d5⟩ := HS.out W0 (Below.refl _ _)
  have HB0 := Lib.hid hB0
  rw [hW0] at e0 a0 a1 a2 a3 a4 a5 d0 d1 d2 d3 d4 d5
  have HW0 := Lib.hid hW0
  clear k0 k1 k2 hB0
  go_enter Tryd.func7, Tryd.ntmps7
  go_upto_region 8 with (first
    | (go_at_call 10
       with_reducible refine (HTA.out _).mono ?_
       rintro e w1 ⟨rfl, hb⟩
       rw [← HW0.out] at hb
       obtain ⟨e0, ⟨a0, a1, a2, a3, a4, a5⟩, d0, d1, d2, d3, d4, d5⟩ := HS.out w1 hb
       have HB1 := Lib.hid hb
       clear hb)
    | (go_at_call 10
       with_reducible refine (HTB.out _).mono ?_
       rintro e w2 ⟨rfl, hb⟩
       have hb := HB1.out.trans (hb.mono HB1.out.size)
       obtain ⟨e0, ⟨a0, a1, a2, a3, a4, a5⟩, d0, d1, d2, d3, d4, d5⟩ := HS.out w2 hb
       have HB2 := Lib.hid hb
       clear hb)
    | (go_at_call 9
       refine (with_any (w.heap.size + 1) (w.heap.size + 1 + 1) ta tb _ _ a0 d0).mono ?_
       rintro e w' ⟨rfl, hw⟩
       have hw := hw.symm
       subst hw))
  all_goals
    refine wp_region_held (S := (fun W' => W'.cell? ⟨w.heap.size, 0, none⟩ = some (.int .i64 op) ∧ (W'.cell? ⟨w.heap.size + 1, 0, none⟩ = some (.int .i64 ta) ∧ W'.cell? ⟨w.heap.size + 1, 1, none⟩ = some (.slice oa na ja) ∧ W'.cell? ⟨w.heap.size + 1, 2, none⟩ = some (.bool ba) ∧ W'.cell? ⟨w.heap.size + 1, 3, none⟩ = some (.int .i64 ga) ∧ W'.cell? ⟨w.heap.size + 1, 4, none⟩ = some (.int .i64 va) ∧ W'.cell? ⟨w.heap.size + 1, 5, none⟩ = some (.string sa)) ∧ W'.cell? ⟨w.heap.size + 1 + 1, 0, none⟩ = some (.int .i64 tb) ∧ W'.cell? ⟨w.heap.size + 1 + 1, 1, none⟩ = some (.slice ob nb jb) ∧ W'.cell? ⟨w.heap.size + 1 + 1, 2, none⟩ = some (.bool bb) ∧ W'.cell? ⟨w.heap.size + 1 + 1, 3, none⟩ = some (.int .i64 gb) ∧ W'.cell? ⟨w.heap.size + 1 + 1, 4, none⟩ = some (.int .i64 vb) ∧ W'.cell? ⟨w.heap.size + 1 + 1, 5, none⟩ = some (.string sb))) (by kernel_rfl) ?_
    change wpAnyH _ _ _ _ _ _ _ _ w2.drew
    have HB2 := Lib.hid HB2.out.drew
    have hH0 := HS.out w2.drew HB2.out
    refine wpAnyH_take (i := 0) (oi := _) (v := (.pointer none)) rfl (by kernel_rfl) (by kernel_rfl) (by kernel_rfl) (fun _ _ _ h => h) (Or.inl ⟨by rfl, fun W hSw => by dsimp only at hSw; go_simp⟩) hH0 ?_
    simp only [Act.put, List.setIfInBounds_toArray]
    refine wpAnyH_take (i := 1) (oi := _) (v := (.agg #[.int .i64 ta, .slice oa na ja, .bool ba, .int .i64 ga, .int .i64 va, .string sa])) rfl (by kernel_rfl) (by kernel_rfl) (by kernel_rfl) (fun _ _ _ h => h) (Or.inl ⟨by rfl, fun W hSw => by dsimp only at hSw; go_simp⟩) hH0 ?_
    simp only [Act.put]
    refine wpAnyH_take (i := 3) (oi := _) (v := (.pointer none)) rfl (by kernel_rfl) (by kernel_rfl) (by kernel_rfl) (fun _ _ _ h => h) (Or.inl ⟨by rfl, fun W hSw => by dsimp only at hSw; go_simp⟩) hH0 ?_
    simp only [Act.put]
    refine wpAnyH_take (i := 4) (oi := _) (v := (.agg #[.int .i64 tb, .slice ob nb jb, .bool bb, .int .i64 gb, .int .i64 vb, .string sb])) rfl (by kernel_rfl) (by kernel_rfl) (by kernel_rfl) (fun _ _ _ h => h) (Or.inl ⟨by rfl, fun W hSw => by dsimp only at hSw; go_simp⟩) hH0 ?_
    simp only [Act.put]
    refine wpAnyH_take (i := 6) (oi := _) (v := (.int .i64 op)) rfl (by kernel_rfl) (by kernel_rfl) (by kernel_rfl) (fun _ _ _ h => h) (Or.inl ⟨by rfl, fun W hSw => by dsimp only at hSw; go_simp⟩) hH0 ?_
    simp only [Act.put]
    clear hH0
    refine wpAnyH_ready (rs := [2]) (by kernel_rfl) (by simp) ?_
    refine AllReadyH.cons rfl (fun K hK => ?_) (AllReadyH.nil)
    go_simp
    refine (HNa.out w2.drew (HB0.out.trans (HB2.out.mono HB0.out.size))).mono ?_
    rintro e w3 ⟨ra, rfl, hra, hb⟩
    have HB3 := Lib.hid (HB2.out.trans (hb.mono HB2.out.size))
    clear hb
    have HRA := Lib.hid hra
    clear hra
    refine hK.out _ _ (HS.out _ HB3.out) (fun _ => ?_)
    clear hK K
    refine wpAnyH_ready (rs := [5]) (by kernel_rfl) (by simp) ?_
    refine AllReadyH.cons rfl (fun K hK => ?_) (AllReadyH.nil)
    go_simp
    refine (HNb.out w3 (HB0.out.trans (HB3.out.mono HB0.out.size))).mono ?_
    rintro e w4 ⟨rb, rfl, hrb, hb⟩
    have HRA4 := Lib.hid (HRA.out.below hb)
    have HRB := Lib.hid hrb
    have HB4 := Lib.hid (HB3.out.trans (hb.mono HB3.out.size))
    clear hb
    clear hrb
    refine hK.out _ _ (HS.out _ HB4.out) (fun _ => ?_)
    clear hK K
    refine wpAnyH_ready (rs := [7]) (by kernel_rfl) (by simp) ?_
    refine AllReadyH.cons rfl (fun K hK => ?_) (AllReadyH.nil)
    go_simp
    refine (way_any op w4).mono ?_
    rintro e w5 ⟨q, rfl, hq, hb⟩
    have HRA5 := Lib.hid (HRA4.out.below hb)
    have HRB5 := Lib.hid (HRB.out.below hb)
    have HQ := Lib.hid hq
    have HB5 := Lib.hid (HB4.out.trans (hb.mono HB4.out.size))
    clear hb
    clear hq
    refine hK.out _ _ (HS.out _ HB5.out) (fun _ => ?_)
    clear hK K
    refine wpAnyH_ready (rs := [8]) (by kernel_rfl) (by simp) ?_
    refine AllReadyH.cons rfl (fun K hK => ?_) (AllReadyH.nil)
    go_simp
    refine (HX.out ra rb q w5 HRA5.out HRB5.out HQ.out.1).mono ?_
    rintro e w6 ⟨rfl, hb⟩
    have HB6 := Lib.hid (HB5.out.trans (hb.mono HB5.out.size))
    clear hb
    refine hK.out _ _ (HS.out _ HB6.out) (fun _ => ?_)
    clear hK K
    refine wpAnyH_ready (rs := [9]) (by kernel_rfl) (by simp) ?_
    refine AllReadyH.cons rfl (fun K hK => ?_) (AllReadyH.nil)
    go_simp
    refine hK.out _ _ (HS.out _ HB6.out) (fun _ => ?_)
    clear hK K
    refine wpAnyH_done (by kernel_rfl) ?_ _
    go_wp2_with fail
    go_ret
    exact ⟨rfl, HB0.out.trans (HB6.out.mono HB0.out.size)⟩
set_option maxRecDepth 100000 in
set_option maxHeartbeats 8000000 in
theorem do_num_b (op : Int) (ta : Int) (oa : Option Addr) (na ja : Nat) (ba : Bool) (ga va : Int) (sa : ByteArray) (tb : Int) (ob : Option Addr) (nb jb : Nat) (bb : Bool) (gb vb : Int) (sb : ByteArray) (w : World) (hta : ta = 2 ∨ ta = 3 ∨ ta = 4) (htb : tb = 2 ∨ tb = 3 ∨ tb = 4) (h3 : (op == 3) = false) (h4 : (op == 4) = false) (h2 : (ta == 2 || tb == 2) = false) (ka ma kb mb : Int) (X : Bool)
    (hNa : ∀ W, Below w.heap.size w W → Calls Tryd.prog 15 #[.pointer none, .agg #[.int .i64 ta, .slice oa na ja, .bool ba, .int .i64 ga, .int .i64 va, .string sa]] W fun e w' => ∃ r, e = .returned r ∧ DcsOn w' r [(ka, ma)] ∧ Below W.heap.size W w')
    (hNb : ∀ W, Below w.heap.size w W → Calls Tryd.prog 15 #[.pointer none, .agg #[.int .i64 tb, .slice ob nb jb, .bool bb, .int .i64 gb, .int .i64 vb, .string sb]] W fun e w' => ∃ r, e = .returned r ∧ DcsOn w' r [(kb, mb)] ∧ Below W.heap.size W w')
    (hX : X = wayL op (toD ka ma) (toD kb mb)) :
    Calls Tryd.prog 7 #[.pointer none, .int .i64 op, .agg #[.int .i64 ta, .slice oa na ja, .bool ba, .int .i64 ga, .int .i64 va, .string sa], .agg #[.int .i64 tb, .slice ob nb jb, .bool bb, .int .i64 gb, .int .i64 vb, .string sb]] w fun e w' => e = .returned (.bool X) ∧ Below w.heap.size w w' := by
  have HNa := Lib.hid hNa
  have HNb := Lib.hid hNb
  have HX : Hid (∀ ra rb q W, DcsOn W ra [(ka, ma)] → DcsOn W rb [(kb, mb)] → W.cell? ⟨q, 0, none⟩ = some (.int .i64 op) → Calls Tryd.prog 14 #[ra, rb, .func (.func 20) #[] #[.pointer (some ⟨q, 0, none⟩)]] W fun e w' => e = .returned (.bool X) ∧ Below W.heap.size W w') := Lib.hid fun ra rb q W h1 h2 h3 => by
    have := someD_any ra rb [(ka, ma)] [(kb, mb)] q op W h1 h2 (by simp) (by simp) h3
    rw [hX]
    simpa using this
  clear hNa hNb hX
  have HTA := Lib.hid fun W => typed_any ta oa na ja ba ga va sa hta W
  have HTB := Lib.hid fun W => typed_any tb ob nb jb bb gb vb sb htb W
  have hn1a : (ta == 1) = false := by rcases hta with rfl | rfl | rfl <;> rfl
  have hn1b : (tb == 1) = false := by rcases htb with rfl | rfl | rfl <;> rfl
  clear hta htb
  obtain ⟨W0, hW0⟩ : ∃ W0, W0 = ((w.alloc (.cells #[.int .i64 op] 3)).alloc (.cells #[.int .i64 ta, .slice oa na ja, .bool ba, .int .i64 ga, .int .i64 va, .string sa] 26)).alloc (.cells #[.int .i64 tb, .slice ob nb jb, .bool bb, .int .i64 gb, .int .i64 vb, .string sb] 26) := ⟨_, rfl⟩
  have hB0 : Below w.heap.size w W0 := by rw [hW0]; exact ((below_box w _).alloc (by simp) _).alloc (by simp; omega) _
  obtain ⟨k0, k1, k2⟩ := three_blk w (.cells #[.int .i64 op] 3) (.cells #[.int .i64 ta, .slice oa na ja, .bool ba, .int .i64 ga, .int .i64 va, .string sa] 26) (.cells #[.int .i64 tb, .slice ob nb jb, .bool bb, .int .i64 gb, .int .i64 vb, .string sb] 26)
  rw [← hW0] at k0 k1 k2
  have HS : Hid (∀ W', Below W0.heap.size W0 W' → W'.cell? ⟨w.heap.size, 0, none⟩ = some (.int .i64 op) ∧ (W'.cell? ⟨w.heap.size + 1, 0, none⟩ = some (.int .i64 ta) ∧ W'.cell? ⟨w.heap.size + 1, 1, none⟩ = some (.slice oa na ja) ∧ W'.cell? ⟨w.heap.size + 1, 2, none⟩ = some (.bool ba) ∧ W'.cell? ⟨w.heap.size + 1, 3, none⟩ = some (.int .i64 ga) ∧ W'.cell? ⟨w.heap.size + 1, 4, none⟩ = some (.int .i64 va) ∧ W'.cell? ⟨w.heap.size + 1, 5, none⟩ = some (.string sa)) ∧ W'.cell? ⟨w.heap.size + 1 + 1, 0, none⟩ = some (.int .i64 tb) ∧ W'.cell? ⟨w.heap.size + 1 + 1, 1, none⟩ = some (.slice ob nb jb) ∧ W'.cell? ⟨w.heap.size + 1 + 1, 2, none⟩ = some (.bool bb) ∧ W'.cell? ⟨w.heap.size + 1 + 1, 3, none⟩ = some (.int .i64 gb) ∧ W'.cell? ⟨w.heap.size + 1 + 1, 4, none⟩ = some (.int .i64 vb) ∧ W'.cell? ⟨w.heap.size + 1 + 1, 5, none⟩ = some (.string sb)) := Lib.hid fun W' h => by
    have m0 := blk_call k0 h
    have m1 := blk_call (o := boxVa ta oa na ja ba ga va sa) k1 h
    have m2 := blk_call (o := boxVa tb ob nb jb bb gb vb sb) k2 h
    exact ⟨scell m0, (boxVa_blk m1).1, (boxVa_blk m2).1⟩
  obtain ⟨e0, ⟨a0, a1, a2, a3, a4, a5⟩, d0, d1, d2, d3, d4, d5⟩ := HS.out W0 (Below.refl _ _)
  have HB0 := Lib.hid hB0
  rw [hW0] at e0 a0 a1 a2 a3 a4 a5 d0 d1 d2 d3 d4 d5
  have HW0 := Lib.hid hW0
  clear k0 k1 k2 hB0
  go_enter Tryd.func7, Tryd.ntmps7
  go_upto_region 8 with (first
    | (go_at_call 10
       with_reducible refine (HTA.out _).mono ?_
       rintro e w1 ⟨rfl, hb⟩
       rw [← HW0.out] at hb
       obtain ⟨e0, ⟨a0, a1, a2, a3, a4, a5⟩, d0, d1, d2, d3, d4, d5⟩ := HS.out w1 hb
       have HB1 := Lib.hid hb
       clear hb)
    | (go_at_call 10
       with_reducible refine (HTB.out _).mono ?_
       rintro e w2 ⟨rfl, hb⟩
       have hb := HB1.out.trans (hb.mono HB1.out.size)
       obtain ⟨e0, ⟨a0, a1, a2, a3, a4, a5⟩, d0, d1, d2, d3, d4, d5⟩ := HS.out w2 hb
       have HB2 := Lib.hid hb
       clear hb)
    | (go_at_call 9
       refine (with_any (w.heap.size + 1) (w.heap.size + 1 + 1) ta tb _ _ a0 d0).mono ?_
       rintro e w' ⟨rfl, hw⟩
       have hw := hw.symm
       subst hw))
  all_goals
    refine wp_region_held (S := (fun W' => W'.cell? ⟨w.heap.size, 0, none⟩ = some (.int .i64 op) ∧ (W'.cell? ⟨w.heap.size + 1, 0, none⟩ = some (.int .i64 ta) ∧ W'.cell? ⟨w.heap.size + 1, 1, none⟩ = some (.slice oa na ja) ∧ W'.cell? ⟨w.heap.size + 1, 2, none⟩ = some (.bool ba) ∧ W'.cell? ⟨w.heap.size + 1, 3, none⟩ = some (.int .i64 ga) ∧ W'.cell? ⟨w.heap.size + 1, 4, none⟩ = some (.int .i64 va) ∧ W'.cell? ⟨w.heap.size + 1, 5, none⟩ = some (.string sa)) ∧ W'.cell? ⟨w.heap.size + 1 + 1, 0, none⟩ = some (.int .i64 tb) ∧ W'.cell? ⟨w.heap.size + 1 + 1, 1, none⟩ = some (.slice ob nb jb) ∧ W'.cell? ⟨w.heap.size + 1 + 1, 2, none⟩ = some (.bool bb) ∧ W'.cell? ⟨w.heap.size + 1 + 1, 3, none⟩ = some (.int .i64 gb) ∧ W'.cell? ⟨w.heap.size + 1 + 1, 4, none⟩ = some (.int .i64 vb) ∧ W'.cell? ⟨w.heap.size + 1 + 1, 5, none⟩ = some (.string sb))) (by kernel_rfl) ?_
    change wpAnyH _ _ _ _ _ _ _ _ w2.drew
    have HB2 := Lib.hid HB2.out.drew
    have hH0 := HS.out w2.drew HB2.out
    refine wpAnyH_take (i := 0) (oi := _) (v := (.pointer none)) rfl (by kernel_rfl) (by kernel_rfl) (by kernel_rfl) (fun _ _ _ h => h) (Or.inl ⟨by rfl, fun W hSw => by dsimp only at hSw; go_simp⟩) hH0 ?_
    simp only [Act.put, List.setIfInBounds_toArray]
    refine wpAnyH_take (i := 1) (oi := _) (v := (.agg #[.int .i64 ta, .slice oa na ja, .bool ba, .int .i64 ga, .int .i64 va, .string sa])) rfl (by kernel_rfl) (by kernel_rfl) (by kernel_rfl) (fun _ _ _ h => h) (Or.inl ⟨by rfl, fun W hSw => by dsimp only at hSw; go_simp⟩) hH0 ?_
    simp only [Act.put]
    refine wpAnyH_take (i := 3) (oi := _) (v := (.pointer none)) rfl (by kernel_rfl) (by kernel_rfl) (by kernel_rfl) (fun _ _ _ h => h) (Or.inl ⟨by rfl, fun W hSw => by dsimp only at hSw; go_simp⟩) hH0 ?_
    simp only [Act.put]
    refine wpAnyH_take (i := 4) (oi := _) (v := (.agg #[.int .i64 tb, .slice ob nb jb, .bool bb, .int .i64 gb, .int .i64 vb, .string sb])) rfl (by kernel_rfl) (by kernel_rfl) (by kernel_rfl) (fun _ _ _ h => h) (Or.inl ⟨by rfl, fun W hSw => by dsimp only at hSw; go_simp⟩) hH0 ?_
    simp only [Act.put]
    refine wpAnyH_take (i := 6) (oi := _) (v := (.int .i64 op)) rfl (by kernel_rfl) (by kernel_rfl) (by kernel_rfl) (fun _ _ _ h => h) (Or.inl ⟨by rfl, fun W hSw => by dsimp only at hSw; go_simp⟩) hH0 ?_
    simp only [Act.put]
    clear hH0
    refine wpAnyH_ready (rs := [2]) (by kernel_rfl) (by simp) ?_
    refine AllReadyH.cons rfl (fun K hK => ?_) (AllReadyH.nil)
    go_simp
    refine (HNa.out w2.drew (HB0.out.trans (HB2.out.mono HB0.out.size))).mono ?_
    rintro e w3 ⟨ra, rfl, hra, hb⟩
    have HB3 := Lib.hid (HB2.out.trans (hb.mono HB2.out.size))
    clear hb
    have HRA := Lib.hid hra
    clear hra
    refine hK.out _ _ (HS.out _ HB3.out) (fun _ => ?_)
    clear hK K
    refine wpAnyH_ready (rs := [5]) (by kernel_rfl) (by simp) ?_
    refine AllReadyH.cons rfl (fun K hK => ?_) (AllReadyH.nil)
    go_simp
    refine (HNb.out w3 (HB0.out.trans (HB3.out.mono HB0.out.size))).mono ?_
    rintro e w4 ⟨rb, rfl, hrb, hb⟩
    have HRA4 := Lib.hid (HRA.out.below hb)
    have HRB := Lib.hid hrb
    have HB4 := Lib.hid (HB3.out.trans (hb.mono HB3.out.size))
    clear hb
    clear hrb
    refine hK.out _ _ (HS.out _ HB4.out) (fun _ => ?_)
    clear hK K
    refine wpAnyH_ready (rs := [7]) (by kernel_rfl) (by simp) ?_
    refine AllReadyH.cons rfl (fun K hK => ?_) (AllReadyH.nil)
    go_simp
    refine (way_any op w4).mono ?_
    rintro e w5 ⟨q, rfl, hq, hb⟩
    have HRA5 := Lib.hid (HRA4.out.below hb)
    have HRB5 := Lib.hid (HRB.out.below hb)
    have HQ := Lib.hid hq
    have HB5 := Lib.hid (HB4.out.trans (hb.mono HB4.out.size))
    clear hb
    clear hq
    refine hK.out _ _ (HS.out _ HB5.out) (fun _ => ?_)
    clear hK K
    refine wpAnyH_ready (rs := [8]) (by kernel_rfl) (by simp) ?_
    refine AllReadyH.cons rfl (fun K hK => ?_) (AllReadyH.nil)
    go_simp
    refine (HX.out ra rb q w5 HRA5.out HRB5.out HQ.out.1).mono ?_
    rintro e w6 ⟨rfl, hb⟩
    have HB6 := Lib.hid (HB5.out.trans (hb.mono HB5.out.size))
    clear hb
    refine hK.out _ _ (HS.out _ HB6.out) (fun _ => ?_)
    clear hK K
    refine wpAnyH_ready (rs := [9]) (by kernel_rfl) (by simp) ?_
    refine AllReadyH.cons rfl (fun K hK => ?_) (AllReadyH.nil)
    go_simp
    refine hK.out _ _ (HS.out _ HB6.out) (fun _ => ?_)
    clear hK K
    refine wpAnyH_done (by kernel_rfl) ?_ _
    go_wp2_with fail
    go_ret
    exact ⟨rfl, HB0.out.trans (HB6.out.mono HB0.out.size)⟩
set_option maxRecDepth 100000 in
set_option maxHeartbeats 8000000 in
theorem do_num_c (op : Int) (ta : Int) (oa : Option Addr) (na ja : Nat) (ba : Bool) (ga va : Int) (sa : ByteArray) (tb : Int) (ob : Option Addr) (nb jb : Nat) (bb : Bool) (gb vb : Int) (sb : ByteArray) (w : World) (hta : ta = 2 ∨ ta = 3 ∨ ta = 4) (htb : tb = 2 ∨ tb = 3 ∨ tb = 4) (h3 : (op == 3) = true) (h2 : (ta == 2 || tb == 2) = false) (h5 : (ta == 3 || tb == 3) = true) (ka ma kb mb : Int) (X : Bool)
    (hNa : ∀ W, Below w.heap.size w W → Calls Tryd.prog 15 #[.pointer none, .agg #[.int .i64 ta, .slice oa na ja, .bool ba, .int .i64 ga, .int .i64 va, .string sa]] W fun e w' => ∃ r, e = .returned r ∧ DcsOn w' r [(ka, ma)] ∧ Below W.heap.size W w')
    (hNb : ∀ W, Below w.heap.size w W → Calls Tryd.prog 15 #[.pointer none, .agg #[.int .i64 tb, .slice ob nb jb, .bool bb, .int .i64 gb, .int .i64 vb, .string sb]] W fun e w' => ∃ r, e = .returned r ∧ DcsOn w' r [(kb, mb)] ∧ Below W.heap.size W w')
    (hX : X = wayL op (toD ka ma) (toD kb mb)) :
    Calls Tryd.prog 7 #[.pointer none, .int .i64 op, .agg #[.int .i64 ta, .slice oa na ja, .bool ba, .int .i64 ga, .int .i64 va, .string sa], .agg #[.int .i64 tb, .slice ob nb jb, .bool bb, .int .i64 gb, .int .i64 vb, .string sb]] w fun e w' => e = .returned (.bool X) ∧ Below w.heap.size w w' := by
  have HNa := Lib.hid hNa
  have HNb := Lib.hid hNb
  have HX : Hid (∀ ra rb q W, DcsOn W ra [(ka, ma)] → DcsOn W rb [(kb, mb)] → W.cell? ⟨q, 0, none⟩ = some (.int .i64 op) → Calls Tryd.prog 14 #[ra, rb, .func (.func 20) #[] #[.pointer (some ⟨q, 0, none⟩)]] W fun e w' => e = .returned (.bool X) ∧ Below W.heap.size W w') := Lib.hid fun ra rb q W h1 h2 h3 => by
    have := someD_any ra rb [(ka, ma)] [(kb, mb)] q op W h1 h2 (by simp) (by simp) h3
    rw [hX]
    simpa using this
  clear hNa hNb hX
  have HTA := Lib.hid fun W => typed_any ta oa na ja ba ga va sa hta W
  have HTB := Lib.hid fun W => typed_any tb ob nb jb bb gb vb sb htb W
  have hn1a : (ta == 1) = false := by rcases hta with rfl | rfl | rfl <;> rfl
  have hn1b : (tb == 1) = false := by rcases htb with rfl | rfl | rfl <;> rfl
  clear hta htb
  obtain ⟨W0, hW0⟩ : ∃ W0, W0 = ((w.alloc (.cells #[.int .i64 op] 3)).alloc (.cells #[.int .i64 ta, .slice oa na ja, .bool ba, .int .i64 ga, .int .i64 va, .string sa] 26)).alloc (.cells #[.int .i64 tb, .slice ob nb jb, .bool bb, .int .i64 gb, .int .i64 vb, .string sb] 26) := ⟨_, rfl⟩
  have hB0 : Below w.heap.size w W0 := by rw [hW0]; exact ((below_box w _).alloc (by simp) _).alloc (by simp; omega) _
  obtain ⟨k0, k1, k2⟩ := three_blk w (.cells #[.int .i64 op] 3) (.cells #[.int .i64 ta, .slice oa na ja, .bool ba, .int .i64 ga, .int .i64 va, .string sa] 26) (.cells #[.int .i64 tb, .slice ob nb jb, .bool bb, .int .i64 gb, .int .i64 vb, .string sb] 26)
  rw [← hW0] at k0 k1 k2
  have HS : Hid (∀ W', Below W0.heap.size W0 W' → W'.cell? ⟨w.heap.size, 0, none⟩ = some (.int .i64 op) ∧ (W'.cell? ⟨w.heap.size + 1, 0, none⟩ = some (.int .i64 ta) ∧ W'.cell? ⟨w.heap.size + 1, 1, none⟩ = some (.slice oa na ja) ∧ W'.cell? ⟨w.heap.size + 1, 2, none⟩ = some (.bool ba) ∧ W'.cell? ⟨w.heap.size + 1, 3, none⟩ = some (.int .i64 ga) ∧ W'.cell? ⟨w.heap.size + 1, 4, none⟩ = some (.int .i64 va) ∧ W'.cell? ⟨w.heap.size + 1, 5, none⟩ = some (.string sa)) ∧ W'.cell? ⟨w.heap.size + 1 + 1, 0, none⟩ = some (.int .i64 tb) ∧ W'.cell? ⟨w.heap.size + 1 + 1, 1, none⟩ = some (.slice ob nb jb) ∧ W'.cell? ⟨w.heap.size + 1 + 1, 2, none⟩ = some (.bool bb) ∧ W'.cell? ⟨w.heap.size + 1 + 1, 3, none⟩ = some (.int .i64 gb) ∧ W'.cell? ⟨w.heap.size + 1 + 1, 4, none⟩ = some (.int .i64 vb) ∧ W'.cell? ⟨w.heap.size + 1 + 1, 5, none⟩ = some (.string sb)) := Lib.hid fun W' h => by
    have m0 := blk_call k0 h
    have m1 := blk_call (o := boxVa ta oa na ja ba ga va sa) k1 h
    have m2 := blk_call (o := boxVa tb ob nb jb bb gb vb sb) k2 h
    exact ⟨scell m0, (boxVa_blk m1).1, (boxVa_blk m2).1⟩
  obtain ⟨e0, ⟨a0, a1, a2, a3, a4, a5⟩, d0, d1, d2, d3, d4, d5⟩ := HS.out W0 (Below.refl _ _)
  have HB0 := Lib.hid hB0
  rw [hW0] at e0 a0 a1 a2 a3 a4 a5 d0 d1 d2 d3 d4 d5
  have HW0 := Lib.hid hW0
  clear k0 k1 k2 hB0
  go_enter Tryd.func7, Tryd.ntmps7
  go_upto_region 8 with (first
    | (go_at_call 10
       with_reducible refine (HTA.out _).mono ?_
       rintro e w1 ⟨rfl, hb⟩
       rw [← HW0.out] at hb
       obtain ⟨e0, ⟨a0, a1, a2, a3, a4, a5⟩, d0, d1, d2, d3, d4, d5⟩ := HS.out w1 hb
       have HB1 := Lib.hid hb
       clear hb)
    | (go_at_call 10
       with_reducible refine (HTB.out _).mono ?_
       rintro e w2 ⟨rfl, hb⟩
       have hb := HB1.out.trans (hb.mono HB1.out.size)
       obtain ⟨e0, ⟨a0, a1, a2, a3, a4, a5⟩, d0, d1, d2, d3, d4, d5⟩ := HS.out w2 hb
       have HB2 := Lib.hid hb
       clear hb)
    | (go_at_call 9
       refine (with_any (w.heap.size + 1) (w.heap.size + 1 + 1) ta tb _ _ a0 d0).mono ?_
       rintro e w' ⟨rfl, hw⟩
       have hw := hw.symm
       subst hw))
  all_goals
    refine wp_region_held (S := (fun W' => W'.cell? ⟨w.heap.size, 0, none⟩ = some (.int .i64 op) ∧ (W'.cell? ⟨w.heap.size + 1, 0, none⟩ = some (.int .i64 ta) ∧ W'.cell? ⟨w.heap.size + 1, 1, none⟩ = some (.slice oa na ja) ∧ W'.cell? ⟨w.heap.size + 1, 2, none⟩ = some (.bool ba) ∧ W'.cell? ⟨w.heap.size + 1, 3, none⟩ = some (.int .i64 ga) ∧ W'.cell? ⟨w.heap.size + 1, 4, none⟩ = some (.int .i64 va) ∧ W'.cell? ⟨w.heap.size + 1, 5, none⟩ = some (.string sa)) ∧ W'.cell? ⟨w.heap.size + 1 + 1, 0, none⟩ = some (.int .i64 tb) ∧ W'.cell? ⟨w.heap.size + 1 + 1, 1, none⟩ = some (.slice ob nb jb) ∧ W'.cell? ⟨w.heap.size + 1 + 1, 2, none⟩ = some (.bool bb) ∧ W'.cell? ⟨w.heap.size + 1 + 1, 3, none⟩ = some (.int .i64 gb) ∧ W'.cell? ⟨w.heap.size + 1 + 1, 4, none⟩ = some (.int .i64 vb) ∧ W'.cell? ⟨w.heap.size + 1 + 1, 5, none⟩ = some (.string sb))) (by kernel_rfl) ?_
    change wpAnyH _ _ _ _ _ _ _ _ w2.drew
    have HB2 := Lib.hid HB2.out.drew
    have hH0 := HS.out w2.drew HB2.out
    refine wpAnyH_take (i := 0) (oi := _) (v := (.pointer none)) rfl (by kernel_rfl) (by kernel_rfl) (by kernel_rfl) (fun _ _ _ h => h) (Or.inl ⟨by rfl, fun W hSw => by dsimp only at hSw; go_simp⟩) hH0 ?_
    simp only [Act.put, List.setIfInBounds_toArray]
    refine wpAnyH_take (i := 1) (oi := _) (v := (.agg #[.int .i64 ta, .slice oa na ja, .bool ba, .int .i64 ga, .int .i64 va, .string sa])) rfl (by kernel_rfl) (by kernel_rfl) (by kernel_rfl) (fun _ _ _ h => h) (Or.inl ⟨by rfl, fun W hSw => by dsimp only at hSw; go_simp⟩) hH0 ?_
    simp only [Act.put]
    refine wpAnyH_take (i := 3) (oi := _) (v := (.pointer none)) rfl (by kernel_rfl) (by kernel_rfl) (by kernel_rfl) (fun _ _ _ h => h) (Or.inl ⟨by rfl, fun W hSw => by dsimp only at hSw; go_simp⟩) hH0 ?_
    simp only [Act.put]
    refine wpAnyH_take (i := 4) (oi := _) (v := (.agg #[.int .i64 tb, .slice ob nb jb, .bool bb, .int .i64 gb, .int .i64 vb, .string sb])) rfl (by kernel_rfl) (by kernel_rfl) (by kernel_rfl) (fun _ _ _ h => h) (Or.inl ⟨by rfl, fun W hSw => by dsimp only at hSw; go_simp⟩) hH0 ?_
    simp only [Act.put]
    refine wpAnyH_take (i := 6) (oi := _) (v := (.int .i64 op)) rfl (by kernel_rfl) (by kernel_rfl) (by kernel_rfl) (fun _ _ _ h => h) (Or.inl ⟨by rfl, fun W hSw => by dsimp only at hSw; go_simp⟩) hH0 ?_
    simp only [Act.put]
    clear hH0
    refine wpAnyH_ready (rs := [2]) (by kernel_rfl) (by simp) ?_
    refine AllReadyH.cons rfl (fun K hK => ?_) (AllReadyH.nil)
    go_simp
    refine (HNa.out w2.drew (HB0.out.trans (HB2.out.mono HB0.out.size))).mono ?_
    rintro e w3 ⟨ra, rfl, hra, hb⟩
    have HB3 := Lib.hid (HB2.out.trans (hb.mono HB2.out.size))
    clear hb
    have HRA := Lib.hid hra
    clear hra
    refine hK.out _ _ (HS.out _ HB3.out) (fun _ => ?_)
    clear hK K
    refine wpAnyH_ready (rs := [5]) (by kernel_rfl) (by simp) ?_
    refine AllReadyH.cons rfl (fun K hK => ?_) (AllReadyH.nil)
    go_simp
    refine (HNb.out w3 (HB0.out.trans (HB3.out.mono HB0.out.size))).mono ?_
    rintro e w4 ⟨rb, rfl, hrb, hb⟩
    have HRA4 := Lib.hid (HRA.out.below hb)
    have HRB := Lib.hid hrb
    have HB4 := Lib.hid (HB3.out.trans (hb.mono HB3.out.size))
    clear hb
    clear hrb
    refine hK.out _ _ (HS.out _ HB4.out) (fun _ => ?_)
    clear hK K
    refine wpAnyH_ready (rs := [7]) (by kernel_rfl) (by simp) ?_
    refine AllReadyH.cons rfl (fun K hK => ?_) (AllReadyH.nil)
    go_simp
    refine (way_any op w4).mono ?_
    rintro e w5 ⟨q, rfl, hq, hb⟩
    have HRA5 := Lib.hid (HRA4.out.below hb)
    have HRB5 := Lib.hid (HRB.out.below hb)
    have HQ := Lib.hid hq
    have HB5 := Lib.hid (HB4.out.trans (hb.mono HB4.out.size))
    clear hb
    clear hq
    refine hK.out _ _ (HS.out _ HB5.out) (fun _ => ?_)
    clear hK K
    refine wpAnyH_ready (rs := [8]) (by kernel_rfl) (by simp) ?_
    refine AllReadyH.cons rfl (fun K hK => ?_) (AllReadyH.nil)
    go_simp
    refine (HX.out ra rb q w5 HRA5.out HRB5.out HQ.out.1).mono ?_
    rintro e w6 ⟨rfl, hb⟩
    have HB6 := Lib.hid (HB5.out.trans (hb.mono HB5.out.size))
    clear hb
    refine hK.out _ _ (HS.out _ HB6.out) (fun _ => ?_)
    clear hK K
    refine wpAnyH_ready (rs := [9]) (by kernel_rfl) (by simp) ?_
    refine AllReadyH.cons rfl (fun K hK => ?_) (AllReadyH.nil)
    go_simp
    refine hK.out _ _ (HS.out _ HB6.out) (fun _ => ?_)
    clear hK K
    refine wpAnyH_done (by kernel_rfl) ?_ _
    go_wp2_with fail
    go_ret
    exact ⟨rfl, HB0.out.trans (HB6.out.mono HB0.out.size)⟩
set_option maxRecDepth 100000 in
set_option maxHeartbeats 8000000 in
theorem do_num_d (op : Int) (ta : Int) (oa : Option Addr) (na ja : Nat) (ba : Bool) (ga va : Int) (sa : ByteArray) (tb : Int) (ob : Option Addr) (nb jb : Nat) (bb : Bool) (gb vb : Int) (sb : ByteArray) (w : World) (hta : ta = 2 ∨ ta = 3 ∨ ta = 4) (htb : tb = 2 ∨ tb = 3 ∨ tb = 4) (h3 : (op == 3) = false) (h4 : (op == 4) = true) (h2 : (ta == 2 || tb == 2) = false) (h5 : (ta == 3 || tb == 3) = true) (ka ma kb mb : Int) (X : Bool)
    (hNa : ∀ W, Below w.heap.size w W → Calls Tryd.prog 15 #[.pointer none, .agg #[.int .i64 ta, .slice oa na ja, .bool ba, .int .i64 ga, .int .i64 va, .string sa]] W fun e w' => ∃ r, e = .returned r ∧ DcsOn w' r [(ka, ma)] ∧ Below W.heap.size W w')
    (hNb : ∀ W, Below w.heap.size w W → Calls Tryd.prog 15 #[.pointer none, .agg #[.int .i64 tb, .slice ob nb jb, .bool bb, .int .i64 gb, .int .i64 vb, .string sb]] W fun e w' => ∃ r, e = .returned r ∧ DcsOn w' r [(kb, mb)] ∧ Below W.heap.size W w')
    (hX : X = wayL op (toD ka ma) (toD kb mb)) :
    Calls Tryd.prog 7 #[.pointer none, .int .i64 op, .agg #[.int .i64 ta, .slice oa na ja, .bool ba, .int .i64 ga, .int .i64 va, .string sa], .agg #[.int .i64 tb, .slice ob nb jb, .bool bb, .int .i64 gb, .int .i64 vb, .string sb]] w fun e w' => e = .returned (.bool X) ∧ Below w.heap.size w w' := by
  have HNa := Lib.hid hNa
  have HNb := Lib.hid hNb
  have HX : Hid (∀ ra rb q W, DcsOn W ra [(ka, ma)] → DcsOn W rb [(kb, mb)] → W.cell? ⟨q, 0, none⟩ = some (.int .i64 op) → Calls Tryd.prog 14 #[ra, rb, .func (.func 20) #[] #[.pointer (some ⟨q, 0, none⟩)]] W fun e w' => e = .returned (.bool X) ∧ Below W.heap.size W w') := Lib.hid fun ra rb q W h1 h2 h3 => by
    have := someD_any ra rb [(ka, ma)] [(kb, mb)] q op W h1 h2 (by simp) (by simp) h3
    rw [hX]
    simpa using this
  clear hNa hNb hX
  have HTA := Lib.hid fun W => typed_any ta oa na ja ba ga va sa hta W
  have HTB := Lib.hid fun W => typed_any tb ob nb jb bb gb vb sb htb W
  have hn1a : (ta == 1) = false := by rcases hta with rfl | rfl | rfl <;> rfl
  have hn1b : (tb == 1) = false := by rcases htb with rfl | rfl | rfl <;> rfl
  clear hta htb
  obtain ⟨W0, hW0⟩ : ∃ W0, W0 = ((w.alloc (.cells #[.int .i64 op] 3)).alloc (.cells #[.int .i64 ta, .slice oa na ja, .bool ba, .int .i64 ga, .int .i64 va, .string sa] 26)).alloc (.cells #[.int .i64 tb, .slice ob nb jb, .bool bb, .int .i64 gb, .int .i64 vb, .string sb] 26) := ⟨_, rfl⟩
  have hB0 : Below w.heap.size w W0 := by rw [hW0]; exact ((below_box w _).alloc (by simp) _).alloc (by simp; omega) _
  obtain ⟨k0, k1, k2⟩ := three_blk w (.cells #[.int .i64 op] 3) (.cells #[.int .i64 ta, .slice oa na ja, .bool ba, .int .i64 ga, .int .i64 va, .string sa] 26) (.cells #[.int .i64 tb, .slice ob nb jb, .bool bb, .int .i64 gb, .int .i64 vb, .string sb] 26)
  rw [← hW0] at k0 k1 k2
  have HS : Hid (∀ W', Below W0.heap.size W0 W' → W'.cell? ⟨w.heap.size, 0, none⟩ = some (.int .i64 op) ∧ (W'.cell? ⟨w.heap.size + 1, 0, none⟩ = some (.int .i64 ta) ∧ W'.cell? ⟨w.heap.size + 1, 1, none⟩ = some (.slice oa na ja) ∧ W'.cell? ⟨w.heap.size + 1, 2, none⟩ = some (.bool ba) ∧ W'.cell? ⟨w.heap.size + 1, 3, none⟩ = some (.int .i64 ga) ∧ W'.cell? ⟨w.heap.size + 1, 4, none⟩ = some (.int .i64 va) ∧ W'.cell? ⟨w.heap.size + 1, 5, none⟩ = some (.string sa)) ∧ W'.cell? ⟨w.heap.size + 1 + 1, 0, none⟩ = some (.int .i64 tb) ∧ W'.cell? ⟨w.heap.size + 1 + 1, 1, none⟩ = some (.slice ob nb jb) ∧ W'.cell? ⟨w.heap.size + 1 + 1, 2, none⟩ = some (.bool bb) ∧ W'.cell? ⟨w.heap.size + 1 + 1, 3, none⟩ = some (.int .i64 gb) ∧ W'.cell? ⟨w.heap.size + 1 + 1, 4, none⟩ = some (.int .i64 vb) ∧ W'.cell? ⟨w.heap.size + 1 + 1, 5, none⟩ = some (.string sb)) := Lib.hid fun W' h => by
    have m0 := blk_call k0 h
    have m1 := blk_call (o := boxVa ta oa na ja ba ga va sa) k1 h
    have m2 := blk_call (o := boxVa tb ob nb jb bb gb vb sb) k2 h
    exact ⟨scell m0, (boxVa_blk m1).1, (boxVa_blk m2).1⟩
  obtain ⟨e0, ⟨a0, a1, a2, a3, a4, a5⟩, d0, d1, d2, d3, d4, d5⟩ := HS.out W0 (Below.refl _ _)
  have HB0 := Lib.hid hB0
  rw [hW0] at e0 a0 a1 a2 a3 a4 a5 d0 d1 d2 d3 d4 d5
  have HW0 := Lib.hid hW0
  clear k0 k1 k2 hB0
  go_enter Tryd.func7, Tryd.ntmps7
  go_upto_region 8 with (first
    | (go_at_call 10
       with_reducible refine (HTA.out _).mono ?_
       rintro e w1 ⟨rfl, hb⟩
       rw [← HW0.out] at hb
       obtain ⟨e0, ⟨a0, a1, a2, a3, a4, a5⟩, d0, d1, d2, d3, d4, d5⟩ := HS.out w1 hb
       have HB1 := Lib.hid hb
       clear hb)
    | (go_at_call 10
       with_reducible refine (HTB.out _).mono ?_
       rintro e w2 ⟨rfl, hb⟩
       have hb := HB1.out.trans (hb.mono HB1.out.size)
       obtain ⟨e0, ⟨a0, a1, a2, a3, a4, a5⟩, d0, d1, d2, d3, d4, d5⟩ := HS.out w2 hb
       have HB2 := Lib.hid hb
       clear hb)
    | (go_at_call 9
       refine (with_any (w.heap.size + 1) (w.heap.size + 1 + 1) ta tb _ _ a0 d0).mono ?_
       rintro e w' ⟨rfl, hw⟩
       have hw := hw.symm
       subst hw))
  all_goals
    refine wp_region_held (S := (fun W' => W'.cell? ⟨w.heap.size, 0, none⟩ = some (.int .i64 op) ∧ (W'.cell? ⟨w.heap.size + 1, 0, none⟩ = some (.int .i64 ta) ∧ W'.cell? ⟨w.heap.size + 1, 1, none⟩ = some (.slice oa na ja) ∧ W'.cell? ⟨w.heap.size + 1, 2, none⟩ = some (.bool ba) ∧ W'.cell? ⟨w.heap.size + 1, 3, none⟩ = some (.int .i64 ga) ∧ W'.cell? ⟨w.heap.size + 1, 4, none⟩ = some (.int .i64 va) ∧ W'.cell? ⟨w.heap.size + 1, 5, none⟩ = some (.string sa)) ∧ W'.cell? ⟨w.heap.size + 1 + 1, 0, none⟩ = some (.int .i64 tb) ∧ W'.cell? ⟨w.heap.size + 1 + 1, 1, none⟩ = some (.slice ob nb jb) ∧ W'.cell? ⟨w.heap.size + 1 + 1, 2, none⟩ = some (.bool bb) ∧ W'.cell? ⟨w.heap.size + 1 + 1, 3, none⟩ = some (.int .i64 gb) ∧ W'.cell? ⟨w.heap.size + 1 + 1, 4, none⟩ = some (.int .i64 vb) ∧ W'.cell? ⟨w.heap.size + 1 + 1, 5, none⟩ = some (.string sb))) (by kernel_rfl) ?_
    change wpAnyH _ _ _ _ _ _ _ _ w2.drew
    have HB2 := Lib.hid HB2.out.drew
    have hH0 := HS.out w2.drew HB2.out
    refine wpAnyH_take (i := 0) (oi := _) (v := (.pointer none)) rfl (by kernel_rfl) (by kernel_rfl) (by kernel_rfl) (fun _ _ _ h => h) (Or.inl ⟨by rfl, fun W hSw => by dsimp only at hSw; go_simp⟩) hH0 ?_
    simp only [Act.put, List.setIfInBounds_toArray]
    refine wpAnyH_take (i := 1) (oi := _) (v := (.agg #[.int .i64 ta, .slice oa na ja, .bool ba, .int .i64 ga, .int .i64 va, .string sa])) rfl (by kernel_rfl) (by kernel_rfl) (by kernel_rfl) (fun _ _ _ h => h) (Or.inl ⟨by rfl, fun W hSw => by dsimp only at hSw; go_simp⟩) hH0 ?_
    simp only [Act.put]
    refine wpAnyH_take (i := 3) (oi := _) (v := (.pointer none)) rfl (by kernel_rfl) (by kernel_rfl) (by kernel_rfl) (fun _ _ _ h => h) (Or.inl ⟨by rfl, fun W hSw => by dsimp only at hSw; go_simp⟩) hH0 ?_
    simp only [Act.put]
    refine wpAnyH_take (i := 4) (oi := _) (v := (.agg #[.int .i64 tb, .slice ob nb jb, .bool bb, .int .i64 gb, .int .i64 vb, .string sb])) rfl (by kernel_rfl) (by kernel_rfl) (by kernel_rfl) (fun _ _ _ h => h) (Or.inl ⟨by rfl, fun W hSw => by dsimp only at hSw; go_simp⟩) hH0 ?_
    simp only [Act.put]
    refine wpAnyH_take (i := 6) (oi := _) (v := (.int .i64 op)) rfl (by kernel_rfl) (by kernel_rfl) (by kernel_rfl) (fun _ _ _ h => h) (Or.inl ⟨by rfl, fun W hSw => by dsimp only at hSw; go_simp⟩) hH0 ?_
    simp only [Act.put]
    clear hH0
    refine wpAnyH_ready (rs := [2]) (by kernel_rfl) (by simp) ?_
    refine AllReadyH.cons rfl (fun K hK => ?_) (AllReadyH.nil)
    go_simp
    refine (HNa.out w2.drew (HB0.out.trans (HB2.out.mono HB0.out.size))).mono ?_
    rintro e w3 ⟨ra, rfl, hra, hb⟩
    have HB3 := Lib.hid (HB2.out.trans (hb.mono HB2.out.size))
    clear hb
    have HRA := Lib.hid hra
    clear hra
    refine hK.out _ _ (HS.out _ HB3.out) (fun _ => ?_)
    clear hK K
    refine wpAnyH_ready (rs := [5]) (by kernel_rfl) (by simp) ?_
    refine AllReadyH.cons rfl (fun K hK => ?_) (AllReadyH.nil)
    go_simp
    refine (HNb.out w3 (HB0.out.trans (HB3.out.mono HB0.out.size))).mono ?_
    rintro e w4 ⟨rb, rfl, hrb, hb⟩
    have HRA4 := Lib.hid (HRA.out.below hb)
    have HRB := Lib.hid hrb
    have HB4 := Lib.hid (HB3.out.trans (hb.mono HB3.out.size))
    clear hb
    clear hrb
    refine hK.out _ _ (HS.out _ HB4.out) (fun _ => ?_)
    clear hK K
    refine wpAnyH_ready (rs := [7]) (by kernel_rfl) (by simp) ?_
    refine AllReadyH.cons rfl (fun K hK => ?_) (AllReadyH.nil)
    go_simp
    refine (way_any op w4).mono ?_
    rintro e w5 ⟨q, rfl, hq, hb⟩
    have HRA5 := Lib.hid (HRA4.out.below hb)
    have HRB5 := Lib.hid (HRB.out.below hb)
    have HQ := Lib.hid hq
    have HB5 := Lib.hid (HB4.out.trans (hb.mono HB4.out.size))
    clear hb
    clear hq
    refine hK.out _ _ (HS.out _ HB5.out) (fun _ => ?_)
    clear hK K
    refine wpAnyH_ready (rs := [8]) (by kernel_rfl) (by simp) ?_
    refine AllReadyH.cons rfl (fun K hK => ?_) (AllReadyH.nil)
    go_simp
    refine (HX.out ra rb q w5 HRA5.out HRB5.out HQ.out.1).mono ?_
    rintro e w6 ⟨rfl, hb⟩
    have HB6 := Lib.hid (HB5.out.trans (hb.mono HB5.out.size))
    clear hb
    refine hK.out _ _ (HS.out _ HB6.out) (fun _ => ?_)
    clear hK K
    refine wpAnyH_ready (rs := [9]) (by kernel_rfl) (by simp) ?_
    refine AllReadyH.cons rfl (fun K hK => ?_) (AllReadyH.nil)
    go_simp
    refine hK.out _ _ (HS.out _ HB6.out) (fun _ => ?_)
    clear hK K
    refine wpAnyH_done (by kernel_rfl) ?_ _
    go_wp2_with fail
    go_ret
    exact ⟨rfl, HB0.out.trans (HB6.out.mono HB0.out.size)⟩
set_option maxRecDepth 100000 in
set_option maxHeartbeats 8000000 in
theorem do_text_eq (op : Int) (ta : Int) (oa : Option Addr) (na ja : Nat) (ba : Bool) (ga va : Int) (sa : ByteArray) (tb : Int) (ob : Option Addr) (nb jb : Nat) (bb : Bool) (gb vb : Int) (sb : ByteArray) (w : World) (hta : ta = 2 ∨ ta = 3 ∨ ta = 4) (htb : tb = 2 ∨ tb = 3 ∨ tb = 4) (h3 : (op == 3) = true) (h2 : (ta == 2 || tb == 2) = false) (h5 : (ta == 3 || tb == 3) = false) (ra rb : ByteArray) (X : Bool)
    (hNa : ∀ W, Below w.heap.size w W → Calls Tryd.prog 17 #[.pointer none, .agg #[.int .i64 ta, .slice oa na ja, .bool ba, .int .i64 ga, .int .i64 va, .string sa]] W fun e w' => ∃ r, e = .returned r ∧ TxsOn w' r [ra] ∧ Below W.heap.size W w')
    (hNb : ∀ W, Below w.heap.size w W → Calls Tryd.prog 17 #[.pointer none, .agg #[.int .i64 tb, .slice ob nb jb, .bool bb, .int .i64 gb, .int .i64 vb, .string sb]] W fun e w' => ∃ r, e = .returned r ∧ TxsOn w' r [rb] ∧ Below W.heap.size W w')
    (hX : X = ((ra.toList == rb.toList) == (op == 3))) :
    Calls Tryd.prog 7 #[.pointer none, .int .i64 op, .agg #[.int .i64 ta, .slice oa na ja, .bool ba, .int .i64 ga, .int .i64 va, .string sa], .agg #[.int .i64 tb, .slice ob nb jb, .bool bb, .int .i64 gb, .int .i64 vb, .string sb]] w fun e w' => e = .returned (.bool X) ∧ Below w.heap.size w w' := by
  have HNa := Lib.hid hNa
  have HNb := Lib.hid hNb
  have HX : Hid (∀ ya yb W, TxsOn W ya [ra] → TxsOn W yb [rb] → W.cell? ⟨w.heap.size, 0, none⟩ = some (.int .i64 op) → Calls Tryd.prog 16 #[ya, yb, .func (.func 18) #[] #[.pointer (some ⟨w.heap.size, 0, none⟩)]] W fun e w' => e = .returned (.bool X) ∧ Below W.heap.size W w') := Lib.hid fun ya yb W h1 h2 h3 => by
    have := someS_any ya yb [ra] [rb] w.heap.size op W h1 h2 (by simp) (by simp) h3
    rw [hX]
    simpa using this
  clear hNa hNb hX
  have HTA := Lib.hid fun W => typed_any ta oa na ja ba ga va sa hta W
  have HTB := Lib.hid fun W => typed_any tb ob nb jb bb gb vb sb htb W
  have hn1a : (ta == 1) = false := by rcases hta with rfl | rfl | rfl <;> rfl
  have hn1b : (tb == 1) = false := by rcases htb with rfl | rfl | rfl <;> rfl
  clear hta htb
  obtain ⟨W0, hW0⟩ : ∃ W0, W0 = ((w.alloc (.cells #[.int .i64 op] 3)).alloc (.cells #[.int .i64 ta, .slice oa na ja, .bool ba, .int .i64 ga, .int .i64 va, .string sa] 26)).alloc (.cells #[.int .i64 tb, .slice ob nb jb, .bool bb, .int .i64 gb, .int .i64 vb, .string sb] 26) := ⟨_, rfl⟩
  have hB0 : Below w.heap.size w W0 := by rw [hW0]; exact ((below_box w _).alloc (by simp) _).alloc (by simp; omega) _
  obtain ⟨k0, k1, k2⟩ := three_blk w (.cells #[.int .i64 op] 3) (.cells #[.int .i64 ta, .slice oa na ja, .bool ba, .int .i64 ga, .int .i64 va, .string sa] 26) (.cells #[.int .i64 tb, .slice ob nb jb, .bool bb, .int .i64 gb, .int .i64 vb, .string sb] 26)
  rw [← hW0] at k0 k1 k2
  have HS : Hid (∀ W', Below W0.heap.size W0 W' → W'.cell? ⟨w.heap.size, 0, none⟩ = some (.int .i64 op) ∧ (W'.cell? ⟨w.heap.size + 1, 0, none⟩ = some (.int .i64 ta) ∧ W'.cell? ⟨w.heap.size + 1, 1, none⟩ = some (.slice oa na ja) ∧ W'.cell? ⟨w.heap.size + 1, 2, none⟩ = some (.bool ba) ∧ W'.cell? ⟨w.heap.size + 1, 3, none⟩ = some (.int .i64 ga) ∧ W'.cell? ⟨w.heap.size + 1, 4, none⟩ = some (.int .i64 va) ∧ W'.cell? ⟨w.heap.size + 1, 5, none⟩ = some (.string sa)) ∧ W'.cell? ⟨w.heap.size + 1 + 1, 0, none⟩ = some (.int .i64 tb) ∧ W'.cell? ⟨w.heap.size + 1 + 1, 1, none⟩ = some (.slice ob nb jb) ∧ W'.cell? ⟨w.heap.size + 1 + 1, 2, none⟩ = some (.bool bb) ∧ W'.cell? ⟨w.heap.size + 1 + 1, 3, none⟩ = some (.int .i64 gb) ∧ W'.cell? ⟨w.heap.size + 1 + 1, 4, none⟩ = some (.int .i64 vb) ∧ W'.cell? ⟨w.heap.size + 1 + 1, 5, none⟩ = some (.string sb)) := Lib.hid fun W' h => by
    have m0 := blk_call k0 h
    have m1 := blk_call (o := boxVa ta oa na ja ba ga va sa) k1 h
    have m2 := blk_call (o := boxVa tb ob nb jb bb gb vb sb) k2 h
    exact ⟨scell m0, (boxVa_blk m1).1, (boxVa_blk m2).1⟩
  obtain ⟨e0, ⟨a0, a1, a2, a3, a4, a5⟩, d0, d1, d2, d3, d4, d5⟩ := HS.out W0 (Below.refl _ _)
  have HB0 := Lib.hid hB0
  rw [hW0] at e0 a0 a1 a2 a3 a4 a5 d0 d1 d2 d3 d4 d5
  have HW0 := Lib.hid hW0
  clear k0 k1 k2 hB0
  go_enter Tryd.func7, Tryd.ntmps7
  go_upto_region 9 with (first
    | (go_at_call 10
       with_reducible refine (HTA.out _).mono ?_
       rintro e w1 ⟨rfl, hb⟩
       rw [← HW0.out] at hb
       obtain ⟨e0, ⟨a0, a1, a2, a3, a4, a5⟩, d0, d1, d2, d3, d4, d5⟩ := HS.out w1 hb
       have HB1 := Lib.hid hb
       clear hb)
    | (go_at_call 10
       with_reducible refine (HTB.out _).mono ?_
       rintro e w2 ⟨rfl, hb⟩
       have hb := HB1.out.trans (hb.mono HB1.out.size)
       obtain ⟨e0, ⟨a0, a1, a2, a3, a4, a5⟩, d0, d1, d2, d3, d4, d5⟩ := HS.out w2 hb
       have HB2 := Lib.hid hb
       clear hb)
    | (go_at_call 9
       refine (with_any (w.heap.size + 1) (w.heap.size + 1 + 1) ta tb _ _ a0 d0).mono ?_
       rintro e w' ⟨rfl, hw⟩
       have hw := hw.symm
       subst hw))
  all_goals
    refine wp_region_held (S := (fun W' => W'.cell? ⟨w.heap.size, 0, none⟩ = some (.int .i64 op) ∧ (W'.cell? ⟨w.heap.size + 1, 0, none⟩ = some (.int .i64 ta) ∧ W'.cell? ⟨w.heap.size + 1, 1, none⟩ = some (.slice oa na ja) ∧ W'.cell? ⟨w.heap.size + 1, 2, none⟩ = some (.bool ba) ∧ W'.cell? ⟨w.heap.size + 1, 3, none⟩ = some (.int .i64 ga) ∧ W'.cell? ⟨w.heap.size + 1, 4, none⟩ = some (.int .i64 va) ∧ W'.cell? ⟨w.heap.size + 1, 5, none⟩ = some (.string sa)) ∧ W'.cell? ⟨w.heap.size + 1 + 1, 0, none⟩ = some (.int .i64 tb) ∧ W'.cell? ⟨w.heap.size + 1 + 1, 1, none⟩ = some (.slice ob nb jb) ∧ W'.cell? ⟨w.heap.size + 1 + 1, 2, none⟩ = some (.bool bb) ∧ W'.cell? ⟨w.heap.size + 1 + 1, 3, none⟩ = some (.int .i64 gb) ∧ W'.cell? ⟨w.heap.size + 1 + 1, 4, none⟩ = some (.int .i64 vb) ∧ W'.cell? ⟨w.heap.size + 1 + 1, 5, none⟩ = some (.string sb))) (by kernel_rfl) ?_
    change wpAnyH _ _ _ _ _ _ _ _ w2.drew
    have HB2 := Lib.hid HB2.out.drew
    have hH0 := HS.out w2.drew HB2.out
    refine wpAnyH_take (i := 0) (oi := _) (v := (.pointer none)) rfl (by kernel_rfl) (by kernel_rfl) (by kernel_rfl) (fun _ _ _ h => h) (Or.inl ⟨by rfl, fun W hSw => by dsimp only at hSw; go_simp⟩) hH0 ?_
    simp only [Act.put, List.setIfInBounds_toArray]
    refine wpAnyH_take (i := 1) (oi := _) (v := (.agg #[.int .i64 ta, .slice oa na ja, .bool ba, .int .i64 ga, .int .i64 va, .string sa])) rfl (by kernel_rfl) (by kernel_rfl) (by kernel_rfl) (fun _ _ _ h => h) (Or.inl ⟨by rfl, fun W hSw => by dsimp only at hSw; go_simp⟩) hH0 ?_
    simp only [Act.put]
    refine wpAnyH_take (i := 3) (oi := _) (v := (.pointer none)) rfl (by kernel_rfl) (by kernel_rfl) (by kernel_rfl) (fun _ _ _ h => h) (Or.inl ⟨by rfl, fun W hSw => by dsimp only at hSw; go_simp⟩) hH0 ?_
    simp only [Act.put]
    refine wpAnyH_take (i := 4) (oi := _) (v := (.agg #[.int .i64 tb, .slice ob nb jb, .bool bb, .int .i64 gb, .int .i64 vb, .string sb])) rfl (by kernel_rfl) (by kernel_rfl) (by kernel_rfl) (fun _ _ _ h => h) (Or.inl ⟨by rfl, fun W hSw => by dsimp only at hSw; go_simp⟩) hH0 ?_
    simp only [Act.put]
    refine wpAnyH_take (i := 6) (oi := _) (v := (.func (.func 18) #[] #[.pointer (some ⟨w.heap.size, 0, none⟩)])) rfl (by kernel_rfl) (by kernel_rfl) (by kernel_rfl) (fun _ _ _ h => h) (Or.inl ⟨by rfl, fun W hSw => by dsimp only at hSw; go_simp⟩) hH0 ?_
    simp only [Act.put]
    clear hH0
    refine wpAnyH_ready (rs := [2]) (by kernel_rfl) (by simp) ?_
    refine AllReadyH.cons rfl (fun K hK => ?_) (AllReadyH.nil)
    go_simp
    refine (HNa.out w2.drew (HB0.out.trans (HB2.out.mono HB0.out.size))).mono ?_
    rintro e w3 ⟨ra, rfl, hra, hb⟩
    have HB3 := Lib.hid (HB2.out.trans (hb.mono HB2.out.size))
    clear hb
    have HRA := Lib.hid hra
    clear hra
    refine hK.out _ _ (HS.out _ HB3.out) (fun _ => ?_)
    clear hK K
    refine wpAnyH_ready (rs := [5]) (by kernel_rfl) (by simp) ?_
    refine AllReadyH.cons rfl (fun K hK => ?_) (AllReadyH.nil)
    go_simp
    refine (HNb.out w3 (HB0.out.trans (HB3.out.mono HB0.out.size))).mono ?_
    rintro e w4 ⟨rb, rfl, hrb, hb⟩
    have HRA4 := Lib.hid (HRA.out.below hb)
    have HRB := Lib.hid hrb
    have HB4 := Lib.hid (HB3.out.trans (hb.mono HB3.out.size))
    clear hb
    clear hrb
    refine hK.out _ _ (HS.out _ HB4.out) (fun _ => ?_)
    clear hK K
    refine wpAnyH_ready (rs := [7]) (by kernel_rfl) (by simp) ?_
    refine AllReadyH.cons rfl (fun K hK => ?_) (AllReadyH.nil)
    go_simp
    refine (HX.out ra rb w4 HRA4.out HRB.out (HS.out w4 HB4.out).1).mono ?_
    rintro e w5 ⟨rfl, hb⟩
    have HB5 := Lib.hid (HB4.out.trans (hb.mono HB4.out.size))
    clear hb
    refine hK.out _ _ (HS.out _ HB5.out) (fun _ => ?_)
    clear hK K
    refine wpAnyH_ready (rs := [8]) (by kernel_rfl) (by simp) ?_
    refine AllReadyH.cons rfl (fun K hK => ?_) (AllReadyH.nil)
    go_simp
    refine hK.out _ _ (HS.out _ HB5.out) (fun _ => ?_)
    clear hK K
    refine wpAnyH_done (by kernel_rfl) ?_ _
    go_wp2_with fail
    go_ret
    exact ⟨rfl, HB0.out.trans (HB5.out.mono HB0.out.size)⟩
set_option maxRecDepth 100000 in
set_option maxHeartbeats 8000000 in
theorem do_text_ne (op : Int) (ta : Int) (oa : Option Addr) (na ja : Nat) (ba : Bool) (ga va : Int) (sa : ByteArray) (tb : Int) (ob : Option Addr) (nb jb : Nat) (bb : Bool) (gb vb : Int) (sb : ByteArray) (w : World) (hta : ta = 2 ∨ ta = 3 ∨ ta = 4) (htb : tb = 2 ∨ tb = 3 ∨ tb = 4) (h3 : (op == 3) = false) (h4 : (op == 4) = true) (h2 : (ta == 2 || tb == 2) = false) (h5 : (ta == 3 || tb == 3) = false) (ra rb : ByteArray) (X : Bool)
    (hNa : ∀ W, Below w.heap.size w W → Calls Tryd.prog 17 #[.pointer none, .agg #[.int .i64 ta, .slice oa na ja, .bool ba, .int .i64 ga, .int .i64 va, .string sa]] W fun e w' => ∃ r, e = .returned r ∧ TxsOn w' r [ra] ∧ Below W.heap.size W w')
    (hNb : ∀ W, Below w.heap.size w W → Calls Tryd.prog 17 #[.pointer none, .agg #[.int .i64 tb, .slice ob nb jb, .bool bb, .int .i64 gb, .int .i64 vb, .string sb]] W fun e w' => ∃ r, e = .returned r ∧ TxsOn w' r [rb] ∧ Below W.heap.size W w')
    (hX : X = ((ra.toList == rb.toList) == (op == 3))) :
    Calls Tryd.prog 7 #[.pointer none, .int .i64 op, .agg #[.int .i64 ta, .slice oa na ja, .bool ba, .int .i64 ga, .int .i64 va, .string sa], .agg #[.int .i64 tb, .slice ob nb jb, .bool bb, .int .i64 gb, .int .i64 vb, .string sb]] w fun e w' => e = .returned (.bool X) ∧ Below w.heap.size w w' := by
  have HNa := Lib.hid hNa
  have HNb := Lib.hid hNb
  have HX : Hid (∀ ya yb W, TxsOn W ya [ra] → TxsOn W yb [rb] → W.cell? ⟨w.heap.size, 0, none⟩ = some (.int .i64 op) → Calls Tryd.prog 16 #[ya, yb, .func (.func 18) #[] #[.pointer (some ⟨w.heap.size, 0, none⟩)]] W fun e w' => e = .returned (.bool X) ∧ Below W.heap.size W w') := Lib.hid fun ya yb W h1 h2 h3 => by
    have := someS_any ya yb [ra] [rb] w.heap.size op W h1 h2 (by simp) (by simp) h3
    rw [hX]
    simpa using this
  clear hNa hNb hX
  have HTA := Lib.hid fun W => typed_any ta oa na ja ba ga va sa hta W
  have HTB := Lib.hid fun W => typed_any tb ob nb jb bb gb vb sb htb W
  have hn1a : (ta == 1) = false := by rcases hta with rfl | rfl | rfl <;> rfl
  have hn1b : (tb == 1) = false := by rcases htb with rfl | rfl | rfl <;> rfl
  clear hta htb
  obtain ⟨W0, hW0⟩ : ∃ W0, W0 = ((w.alloc (.cells #[.int .i64 op] 3)).alloc (.cells #[.int .i64 ta, .slice oa na ja, .bool ba, .int .i64 ga, .int .i64 va, .string sa] 26)).alloc (.cells #[.int .i64 tb, .slice ob nb jb, .bool bb, .int .i64 gb, .int .i64 vb, .string sb] 26) := ⟨_, rfl⟩
  have hB0 : Below w.heap.size w W0 := by rw [hW0]; exact ((below_box w _).alloc (by simp) _).alloc (by simp; omega) _
  obtain ⟨k0, k1, k2⟩ := three_blk w (.cells #[.int .i64 op] 3) (.cells #[.int .i64 ta, .slice oa na ja, .bool ba, .int .i64 ga, .int .i64 va, .string sa] 26) (.cells #[.int .i64 tb, .slice ob nb jb, .bool bb, .int .i64 gb, .int .i64 vb, .string sb] 26)
  rw [← hW0] at k0 k1 k2
  have HS : Hid (∀ W', Below W0.heap.size W0 W' → W'.cell? ⟨w.heap.size, 0, none⟩ = some (.int .i64 op) ∧ (W'.cell? ⟨w.heap.size + 1, 0, none⟩ = some (.int .i64 ta) ∧ W'.cell? ⟨w.heap.size + 1, 1, none⟩ = some (.slice oa na ja) ∧ W'.cell? ⟨w.heap.size + 1, 2, none⟩ = some (.bool ba) ∧ W'.cell? ⟨w.heap.size + 1, 3, none⟩ = some (.int .i64 ga) ∧ W'.cell? ⟨w.heap.size + 1, 4, none⟩ = some (.int .i64 va) ∧ W'.cell? ⟨w.heap.size + 1, 5, none⟩ = some (.string sa)) ∧ W'.cell? ⟨w.heap.size + 1 + 1, 0, none⟩ = some (.int .i64 tb) ∧ W'.cell? ⟨w.heap.size + 1 + 1, 1, none⟩ = some (.slice ob nb jb) ∧ W'.cell? ⟨w.heap.size + 1 + 1, 2, none⟩ = some (.bool bb) ∧ W'.cell? ⟨w.heap.size + 1 + 1, 3, none⟩ = some (.int .i64 gb) ∧ W'.cell? ⟨w.heap.size + 1 + 1, 4, none⟩ = some (.int .i64 vb) ∧ W'.cell? ⟨w.heap.size + 1 + 1, 5, none⟩ = some (.string sb)) := Lib.hid fun W' h => by
    have m0 := blk_call k0 h
    have m1 := blk_call (o := boxVa ta oa na ja ba ga va sa) k1 h
    have m2 := blk_call (o := boxVa tb ob nb jb bb gb vb sb) k2 h
    exact ⟨scell m0, (boxVa_blk m1).1, (boxVa_blk m2).1⟩
  obtain ⟨e0, ⟨a0, a1, a2, a3, a4, a5⟩, d0, d1, d2, d3, d4, d5⟩ := HS.out W0 (Below.refl _ _)
  have HB0 := Lib.hid hB0
  rw [hW0] at e0 a0 a1 a2 a3 a4 a5 d0 d1 d2 d3 d4 d5
  have HW0 := Lib.hid hW0
  clear k0 k1 k2 hB0
  go_enter Tryd.func7, Tryd.ntmps7
  go_upto_region 9 with (first
    | (go_at_call 10
       with_reducible refine (HTA.out _).mono ?_
       rintro e w1 ⟨rfl, hb⟩
       rw [← HW0.out] at hb
       obtain ⟨e0, ⟨a0, a1, a2, a3, a4, a5⟩, d0, d1, d2, d3, d4, d5⟩ := HS.out w1 hb
       have HB1 := Lib.hid hb
       clear hb)
    | (go_at_call 10
       with_reducible refine (HTB.out _).mono ?_
       rintro e w2 ⟨rfl, hb⟩
       have hb := HB1.out.trans (hb.mono HB1.out.size)
       obtain ⟨e0, ⟨a0, a1, a2, a3, a4, a5⟩, d0, d1, d2, d3, d4, d5⟩ := HS.out w2 hb
       have HB2 := Lib.hid hb
       clear hb)
    | (go_at_call 9
       refine (with_any (w.heap.size + 1) (w.heap.size + 1 + 1) ta tb _ _ a0 d0).mono ?_
       rintro e w' ⟨rfl, hw⟩
       have hw := hw.symm
       subst hw))
  all_goals
    refine wp_region_held (S := (fun W' => W'.cell? ⟨w.heap.size, 0, none⟩ = some (.int .i64 op) ∧ (W'.cell? ⟨w.heap.size + 1, 0, none⟩ = some (.int .i64 ta) ∧ W'.cell? ⟨w.heap.size + 1, 1, none⟩ = some (.slice oa na ja) ∧ W'.cell? ⟨w.heap.size + 1, 2, none⟩ = some (.bool ba) ∧ W'.cell? ⟨w.heap.size + 1, 3, none⟩ = some (.int .i64 ga) ∧ W'.cell? ⟨w.heap.size + 1, 4, none⟩ = some (.int .i64 va) ∧ W'.cell? ⟨w.heap.size + 1, 5, none⟩ = some (.string sa)) ∧ W'.cell? ⟨w.heap.size + 1 + 1, 0, none⟩ = some (.int .i64 tb) ∧ W'.cell? ⟨w.heap.size + 1 + 1, 1, none⟩ = some (.slice ob nb jb) ∧ W'.cell? ⟨w.heap.size + 1 + 1, 2, none⟩ = some (.bool bb) ∧ W'.cell? ⟨w.heap.size + 1 + 1, 3, none⟩ = some (.int .i64 gb) ∧ W'.cell? ⟨w.heap.size + 1 + 1, 4, none⟩ = some (.int .i64 vb) ∧ W'.cell? ⟨w.heap.size + 1 + 1, 5, none⟩ = some (.string sb))) (by kernel_rfl) ?_
    change wpAnyH _ _ _ _ _ _ _ _ w2.drew
    have HB2 := Lib.hid HB2.out.drew
    have hH0 := HS.out w2.drew HB2.out
    refine wpAnyH_take (i := 0) (oi := _) (v := (.pointer none)) rfl (by kernel_rfl) (by kernel_rfl) (by kernel_rfl) (fun _ _ _ h => h) (Or.inl ⟨by rfl, fun W hSw => by dsimp only at hSw; go_simp⟩) hH0 ?_
    simp only [Act.put, List.setIfInBounds_toArray]
    refine wpAnyH_take (i := 1) (oi := _) (v := (.agg #[.int .i64 ta, .slice oa na ja, .bool ba, .int .i64 ga, .int .i64 va, .string sa])) rfl (by kernel_rfl) (by kernel_rfl) (by kernel_rfl) (fun _ _ _ h => h) (Or.inl ⟨by rfl, fun W hSw => by dsimp only at hSw; go_simp⟩) hH0 ?_
    simp only [Act.put]
    refine wpAnyH_take (i := 3) (oi := _) (v := (.pointer none)) rfl (by kernel_rfl) (by kernel_rfl) (by kernel_rfl) (fun _ _ _ h => h) (Or.inl ⟨by rfl, fun W hSw => by dsimp only at hSw; go_simp⟩) hH0 ?_
    simp only [Act.put]
    refine wpAnyH_take (i := 4) (oi := _) (v := (.agg #[.int .i64 tb, .slice ob nb jb, .bool bb, .int .i64 gb, .int .i64 vb, .string sb])) rfl (by kernel_rfl) (by kernel_rfl) (by kernel_rfl) (fun _ _ _ h => h) (Or.inl ⟨by rfl, fun W hSw => by dsimp only at hSw; go_simp⟩) hH0 ?_
    simp only [Act.put]
    refine wpAnyH_take (i := 6) (oi := _) (v := (.func (.func 18) #[] #[.pointer (some ⟨w.heap.size, 0, none⟩)])) rfl (by kernel_rfl) (by kernel_rfl) (by kernel_rfl) (fun _ _ _ h => h) (Or.inl ⟨by rfl, fun W hSw => by dsimp only at hSw; go_simp⟩) hH0 ?_
    simp only [Act.put]
    clear hH0
    refine wpAnyH_ready (rs := [2]) (by kernel_rfl) (by simp) ?_
    refine AllReadyH.cons rfl (fun K hK => ?_) (AllReadyH.nil)
    go_simp
    refine (HNa.out w2.drew (HB0.out.trans (HB2.out.mono HB0.out.size))).mono ?_
    rintro e w3 ⟨ra, rfl, hra, hb⟩
    have HB3 := Lib.hid (HB2.out.trans (hb.mono HB2.out.size))
    clear hb
    have HRA := Lib.hid hra
    clear hra
    refine hK.out _ _ (HS.out _ HB3.out) (fun _ => ?_)
    clear hK K
    refine wpAnyH_ready (rs := [5]) (by kernel_rfl) (by simp) ?_
    refine AllReadyH.cons rfl (fun K hK => ?_) (AllReadyH.nil)
    go_simp
    refine (HNb.out w3 (HB0.out.trans (HB3.out.mono HB0.out.size))).mono ?_
    rintro e w4 ⟨rb, rfl, hrb, hb⟩
    have HRA4 := Lib.hid (HRA.out.below hb)
    have HRB := Lib.hid hrb
    have HB4 := Lib.hid (HB3.out.trans (hb.mono HB3.out.size))
    clear hb
    clear hrb
    refine hK.out _ _ (HS.out _ HB4.out) (fun _ => ?_)
    clear hK K
    refine wpAnyH_ready (rs := [7]) (by kernel_rfl) (by simp) ?_
    refine AllReadyH.cons rfl (fun K hK => ?_) (AllReadyH.nil)
    go_simp
    refine (HX.out ra rb w4 HRA4.out HRB.out (HS.out w4 HB4.out).1).mono ?_
    rintro e w5 ⟨rfl, hb⟩
    have HB5 := Lib.hid (HB4.out.trans (hb.mono HB4.out.size))
    clear hb
    refine hK.out _ _ (HS.out _ HB5.out) (fun _ => ?_)
    clear hK K
    refine wpAnyH_ready (rs := [8]) (by kernel_rfl) (by simp) ?_
    refine AllReadyH.cons rfl (fun K hK => ?_) (AllReadyH.nil)
    go_simp
    refine hK.out _ _ (HS.out _ HB5.out) (fun _ => ?_)
    clear hK K
    refine wpAnyH_done (by kernel_rfl) ?_ _
    go_wp2_with fail
    go_ret
    exact ⟨rfl, HB0.out.trans (HB5.out.mono HB0.out.size)⟩
end Go.Proofs.YteooaibbblfmjaaDoor.Char
