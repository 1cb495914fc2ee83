/- LawSame -/
import Derived.Test.YtognlnjamlhmhaaGreatDoorWorksW
/- The walk of the statement on Same. -/
namespace Go.Proofs.YtognlnjamlhmhaaGreatDoor.Char
open Go.RowKit Go.Lib

theorem NdOn.low {w W : World} {n₀ : Nat} {t : Tr} {va vk : Value} (h : NdOn w (fun b => b < n₀) t va vk) (hb : Below w.heap.size w W) : NdOn W (fun b => b < W.heap.size) t va vk :=
  h.move (fun b hb2 _ => ⟨Nat.lt_of_lt_of_le hb2 hb.size, hb.block b hb2⟩)
set_option maxRecDepth 100000 in
set_option maxHeartbeats 4000000 in
theorem lawSame_any (a b : Tr) (va vk ua uk : Value) (w : World) (hn : NdOn w (fun b => b < w.heap.size) a va vk) (hm : NdOn w (fun b => b < w.heap.size) b ua uk) (hx : mxT a ≤ 2 ^ 62) (hG : Gl6 w) :
    Calls Tryz.prog 6 #[ndV a va vk, ndV b ua uk] w fun e w' => e = .returned (.bool true) ∧ Below w.heap.size w w' := by
  obtain ⟨oa, ja, ok, jk, rfl, rfl⟩ := hn.form
  obtain ⟨pa, la, pk, lk, rfl, rfl⟩ := hm.form
  have hfa := fun W hW => fewF_any a _ _ W (hn.low hW)
  have hfb := fun W hW => fewF_any b _ _ W (hm.low hW)
  have hwk := fun W (hW : Below w.heap.size w W) => works_any W (hG.below hW)
  have hsm := fun W hW (hc : cntT a ≤ 2000) => same_any 2000 a b _ _ _ _ W _ _ hc (hn.low hW) (hm.low hW) hx (by omega)
  have hsr := fun W hW (hc : cntT a ≤ 2000) => refSame_any 2000 a b _ _ _ _ W _ _ hc (hn.low hW) (hm.low hW) hx (by omega)
  have hss := fun W hW (hc : cntT a ≤ 2000) => same_any 2000 a a _ _ _ _ W _ _ hc (hn.low hW) (hn.low hW) hx (by omega)
  have hcn := @fewB_cnt a
  rw [eqT_self] at hss
  unfold ndV at hfa hfb hsm hsr hss ⊢
  have HFA := Lib.hid hfa
  have HFB := Lib.hid hfb
  have HWK := Lib.hid hwk
  have HSM := Lib.hid hsm
  have HSR := Lib.hid hsr
  have HSS := Lib.hid hss
  have HCN := Lib.hid hcn
  clear hfa hfb hwk hsm hsr hss hn hm hcn hG
  go_enter Tryz.func6, Tryz.ntmps6
  go_wp2_with fail
  obtain ⟨w1, hw1⟩ : ∃ w1, w1 = (w.alloc (.cells #[.int .i64 a.kd, .string (bs a.nm), .string (bs a.tx), .slice oa a.ats.length ja, .slice ok a.ks.length jk] 26)).alloc (.cells #[.int .i64 b.kd, .string (bs b.nm), .string (bs b.tx), .slice pa b.ats.length la, .slice pk b.ks.length lk] 26) := ⟨_, rfl⟩
  have b1 : Below w.heap.size w w1 := by rw [hw1]; exact ((Below.refl _ _).alloc (Nat.le_refl _) _).alloc (by simp) _
  have s1 : w1.heap.size = w.heap.size + 2 := by rw [hw1]; simp
  have hcl : ∀ W, Below w1.heap.size w1 W → (W.cell? ⟨w.heap.size, 0, none⟩ = some (.int .i64 a.kd) ∧ W.cell? ⟨w.heap.size, 1, none⟩ = some (.string (bs a.nm)) ∧ W.cell? ⟨w.heap.size, 2, none⟩ = some (.string (bs a.tx)) ∧ W.cell? ⟨w.heap.size, 3, none⟩ = some (.slice oa a.ats.length ja) ∧ W.cell? ⟨w.heap.size, 4, none⟩ = some (.slice ok a.ks.length jk)) ∧
      (W.cell? ⟨w.heap.size + 1, 0, none⟩ = some (.int .i64 b.kd) ∧ W.cell? ⟨w.heap.size + 1, 1, none⟩ = some (.string (bs b.nm)) ∧ W.cell? ⟨w.heap.size + 1, 2, none⟩ = some (.string (bs b.tx)) ∧ W.cell? ⟨w.heap.size + 1, 3, none⟩ = some (.slice pa b.ats.length la) ∧ W.cell? ⟨w.heap.size + 1, 4, none⟩ = some (.slice pk b.ks.length lk)) := fun W hW => by
    have h0 := hW.block w.heap.size (by omega)
    have h1 := hW.block (w.heap.size + 1) (by omega)
    refine ⟨⟨?_, ?_, ?_, ?_, ?_⟩, ⟨?_, ?_, ?_, ?_, ?_⟩⟩
    all_goals first
      | (rw [World.cell?_of_block (w := w1) h0, hw1]; go_simp; done)
      | (rw [World.cell?_of_block (w := w1) h1, hw1]; go_simp; done)
  rw [← hw1]
  have HCL := Lib.hid hcl
  have HB1 := Lib.hid b1
  clear hw1 hcl b1
  refine (HFA.out w1 HB1.out).mono ?_
  rintro e w2 ⟨rfl, hb2⟩
  obtain ⟨⟨c0, c1, c2, c3, c4⟩, d0, d1, d2, d3, d4⟩ := HCL.out w2 hb2
  have HB2 := Lib.hid hb2
  clear hb2
  cases hfa : fewB a with
  | false =>
    go_wp2_with fail
    have hb3 := HB1.out.trans (HB2.out.mono (by omega))
    refine (HWK.out w2 hb3).mono ?_
    rintro e w3 ⟨rfl, hb4⟩
    go_wp2_with fail
    go_ret
    exact ⟨rfl, hb3.trans (hb4.mono hb3.size)⟩
  | true =>
    have HC := Lib.hid (HCN.out hfa)
    clear hfa
    go_wp2_with fail
    have hb3 := HB1.out.trans (HB2.out.mono (by omega))
    refine (HFB.out w2 hb3).mono ?_
    rintro e w3 ⟨rfl, hb4⟩
    have hb5 := HB2.out.trans (hb4.mono HB2.out.size)
    clear c0 c1 c2 c3 c4 d0 d1 d2 d3 d4
    obtain ⟨⟨c0, c1, c2, c3, c4⟩, d0, d1, d2, d3, d4⟩ := HCL.out w3 hb5
    have HB5 := Lib.hid hb5
    clear hb3 hb4 hb5
    cases hfb : fewB b with
    | false =>
      go_wp2_with fail
      have hb3 := HB1.out.trans (HB5.out.mono (by omega))
      refine (HWK.out w3 hb3).mono ?_
      rintro e w4 ⟨rfl, hb4⟩
      go_wp2_with fail
      go_ret
      exact ⟨rfl, hb3.trans (hb4.mono hb3.size)⟩
    | true =>
      have k0 : ∀ W, Below w1.heap.size w1 W → Below w.heap.size w W := fun W hW => HB1.out.trans (hW.mono (by omega))
      have HSM2 := Lib.hid (fun W (hW : Below w1.heap.size w1 W) => (HSM.out W (k0 W hW) HC.out).mono (R' := fun e w' => e = .returned (.bool (eqT a b)) ∧ Below w1.heap.size w1 w') (fun e w' h => ⟨h.1, hW.trans (h.2.mono hW.size)⟩))
      have HSR2 := Lib.hid (fun W (hW : Below w1.heap.size w1 W) => (HSR.out W (k0 W hW) HC.out).mono (R' := fun e w' => e = .returned (.bool (eqT a b)) ∧ Below w1.heap.size w1 w') (fun e w' h => ⟨h.1, hW.trans (h.2.mono hW.size)⟩))
      have HSS2 := Lib.hid (fun W (hW : Below w1.heap.size w1 W) => (HSS.out W (k0 W hW) HC.out).mono (R' := fun e w' => e = .returned (.bool true) ∧ Below w1.heap.size w1 w') (fun e w' h => ⟨h.1, hW.trans (h.2.mono hW.size)⟩))
      have HWK2 := Lib.hid (fun W (hW : Below w1.heap.size w1 W) => (HWK.out W (k0 W hW)).mono (R' := fun e w' => e = .returned (.bool true) ∧ Below w1.heap.size w1 w') (fun e w' h => ⟨h.1, hW.trans (h.2.mono hW.size)⟩))
      have hb3 := HB5.out
      clear HSM HSR HSS HWK HFA HFB HC HCN hfb HB2 HB5 c0 c1 c2 c3 c4 d0 d1 d2 d3 d4
      have hb0 := hb3.drew
      go_wp2_with fail
      generalize eqT a b = q at *
      cases q
      all_goals
        refine wp_region_held (S := (fun W => (W.cell? ⟨w.heap.size, 0, none⟩ = some (.int .i64 a.kd) ∧ W.cell? ⟨w.heap.size, 1, none⟩ = some (.string (bs a.nm)) ∧ W.cell? ⟨w.heap.size, 2, none⟩ = some (.string (bs a.tx)) ∧ W.cell? ⟨w.heap.size, 3, none⟩ = some (.slice oa a.ats.length ja) ∧ W.cell? ⟨w.heap.size, 4, none⟩ = some (.slice ok a.ks.length jk)) ∧ (W.cell? ⟨w.heap.size + 1, 0, none⟩ = some (.int .i64 b.kd) ∧ W.cell? ⟨w.heap.size + 1, 1, none⟩ = some (.string (bs b.nm)) ∧ W.cell? ⟨w.heap.size + 1, 2, none⟩ = some (.string (bs b.tx)) ∧ W.cell? ⟨w.heap.size + 1, 3, none⟩ = some (.slice pa b.ats.length la) ∧ W.cell? ⟨w.heap.size + 1, 4, none⟩ = some (.slice pk b.ks.length lk)))) (by kernel_rfl) ?_
        change wpAnyH _ _ _ _ _ _ _ _ w3.drew
        have hH0 := HCL.out w3.drew hb0
        refine wpAnyH_take (i := 0) (oi := _) (v := (.agg #[.int .i64 a.kd, .string (bs a.nm), .string (bs a.tx), .slice oa a.ats.length ja, .slice ok a.ks.length jk])) rfl (by kernel_rfl) (by kernel_rfl) (by kernel_rfl) (fun _ _ _ h => h) (Or.inl ⟨by rfl, fun W hSw => by dsimp only at hSw; go_simp⟩) hH0 ?_
        simp only [Act.put, List.setIfInBounds_toArray]
        refine wpAnyH_take (i := 1) (oi := _) (v := (.agg #[.int .i64 b.kd, .string (bs b.nm), .string (bs b.tx), .slice pa b.ats.length la, .slice pk b.ks.length lk])) rfl (by kernel_rfl) (by kernel_rfl) (by kernel_rfl) (fun _ _ _ h => h) (Or.inl ⟨by rfl, fun W hSw => by dsimp only at hSw; go_simp⟩) hH0 ?_
        simp only [Act.put]
        refine wpAnyH_take (i := 3) (oi := _) (v := (.agg #[.int .i64 a.kd, .string (bs a.nm), .string (bs a.tx), .slice oa a.ats.length ja, .slice ok a.ks.length jk])) rfl (by kernel_rfl) (by kernel_rfl) (by kernel_rfl) (fun _ _ _ h => h) (Or.inl ⟨by rfl, fun W hSw => by dsimp only at hSw; go_simp⟩) hH0 ?_
        simp only [Act.put]
        refine wpAnyH_take (i := 4) (oi := _) (v := (.agg #[.int .i64 b.kd, .string (bs b.nm), .string (bs b.tx), .slice pa b.ats.length la, .slice pk b.ks.length lk])) rfl (by kernel_rfl) (by kernel_rfl) (by kernel_rfl) (fun _ _ _ h => h) (Or.inl ⟨by rfl, fun W hSw => by dsimp only at hSw; go_simp⟩) hH0 ?_
        simp only [Act.put]
        clear hH0
        refine wpAnyH_ready (rs := [2]) (by kernel_rfl) (by simp) ?_
        refine AllReadyH.cons rfl (fun K hK => ?_) (AllReadyH.nil)
        go_simp
        refine (HSM2.out _ hb0).mono ?_
        rintro e w4 ⟨rfl, hb4⟩
        refine hK.out _ _ (HCL.out _ hb4) (fun _ => ?_)
        clear hK K
        refine wpAnyH_ready (rs := [5]) (by kernel_rfl) (by simp) ?_
        refine AllReadyH.cons rfl (fun K hK => ?_) (AllReadyH.nil)
        go_simp
        refine (HSR2.out _ hb4).mono ?_
        rintro e w5 ⟨rfl, hb5⟩
        refine hK.out _ _ (HCL.out _ hb5) (fun _ => ?_)
        clear hK K
        refine wpAnyH_ready (rs := [6]) (by kernel_rfl) (by simp) ?_
        refine AllReadyH.cons rfl (fun K hK => ?_) (AllReadyH.nil)
        go_simp
        refine hK.out _ _ (HCL.out _ hb5) (fun _ => ?_)
        clear hK K
        refine wpAnyH_ready (rs := [7]) (by kernel_rfl) (by simp) ?_
        refine AllReadyH.cons rfl (fun K hK => ?_) (AllReadyH.nil)
        go_simp
        refine hK.out _ _ (HCL.out _ hb5) (fun _ => ?_)
        clear hK K
        refine wpAnyH_ready (rs := [8, 9]) (by kernel_rfl) (by simp) ?_
        refine AllReadyH.cons rfl (fun K hK => ?_) (AllReadyH.cons rfl (fun K hK => ?_) (AllReadyH.nil))
        · go_simp
          refine hK.out _ _ (HCL.out _ hb5) (fun _ => ?_)
          clear hK K
          refine wpAnyH_ready (rs := [9]) (by kernel_rfl) (by simp) ?_
          refine AllReadyH.cons rfl (fun K hK => ?_) (AllReadyH.nil)
          go_simp
          refine hK.out _ _ (HCL.out _ hb5) (fun _ => ?_)
          clear hK K
          refine wpAnyH_ready (rs := [10]) (by kernel_rfl) (by simp) ?_
          refine AllReadyH.cons rfl (fun K hK => ?_) (AllReadyH.nil)
          go_simp
          refine (HSS2.out _ hb5).mono ?_
          rintro e w6 ⟨rfl, hb6⟩
          refine hK.out _ _ (HCL.out _ hb6) (fun _ => ?_)
          clear hK K
          refine wpAnyH_ready (rs := [11]) (by kernel_rfl) (by simp) ?_
          refine AllReadyH.cons rfl (fun K hK => ?_) (AllReadyH.nil)
          go_simp
          refine hK.out _ _ (HCL.out _ hb6) (fun _ => ?_)
          clear hK K
          refine wpAnyH_ready (rs := [12]) (by kernel_rfl) (by simp) ?_
          refine AllReadyH.cons rfl (fun K hK => ?_) (AllReadyH.nil)
          go_simp
          refine hK.out _ _ (HCL.out _ hb6) (fun _ => ?_)
          clear hK K
          refine wpAnyH_ready (rs := [13]) (by kernel_rfl) (by simp) ?_
          refine AllReadyH.cons rfl (fun K hK => ?_) (AllReadyH.nil)
          go_simp
          refine (HWK2.out _ hb6).mono ?_
          rintro e w7 ⟨rfl, hb7⟩
          refine hK.out _ _ (HCL.out _ hb7) (fun _ => ?_)
          clear hK K
          refine wpAnyH_ready (rs := [14]) (by kernel_rfl) (by simp) ?_
          refine AllReadyH.cons rfl (fun K hK => ?_) (AllReadyH.nil)
          go_simp
          refine hK.out _ _ (HCL.out _ hb7) (fun _ => ?_)
          clear hK K
          refine wpAnyH_ready (rs := [15]) (by kernel_rfl) (by simp) ?_
          refine AllReadyH.cons rfl (fun K hK => ?_) (AllReadyH.nil)
          go_simp
          refine hK.out _ _ (HCL.out _ hb7) (fun _ => ?_)
          clear hK K
          refine wpAnyH_done (by kernel_rfl) ?_ _
          go_wp2_with fail
          go_ret
          exact ⟨rfl, k0 _ hb7⟩
        · go_simp
          refine hK.out _ _ (HCL.out _ hb5) (fun _ => ?_)
          clear hK K
          refine wpAnyH_ready (rs := [8]) (by kernel_rfl) (by simp) ?_
          refine AllReadyH.cons rfl (fun K hK => ?_) (AllReadyH.nil)
          go_simp
          refine hK.out _ _ (HCL.out _ hb5) (fun _ => ?_)
          clear hK K
          refine wpAnyH_ready (rs := [10]) (by kernel_rfl) (by simp) ?_
          refine AllReadyH.cons rfl (fun K hK => ?_) (AllReadyH.nil)
          go_simp
          refine (HSS2.out _ hb5).mono ?_
          rintro e w6 ⟨rfl, hb6⟩
          refine hK.out _ _ (HCL.out _ hb6) (fun _ => ?_)
          clear hK K
          refine wpAnyH_ready (rs := [11]) (by kernel_rfl) (by simp) ?_
          refine AllReadyH.cons rfl (fun K hK => ?_) (AllReadyH.nil)
          go_simp
          refine hK.out _ _ (HCL.out _ hb6) (fun _ => ?_)
          clear hK K
          refine wpAnyH_ready (rs := [12]) (by kernel_rfl) (by simp) ?_
          refine AllReadyH.cons rfl (fun K hK => ?_) (AllReadyH.nil)
          go_simp
          refine hK.out _ _ (HCL.out _ hb6) (fun _ => ?_)
          clear hK K
          refine wpAnyH_ready (rs := [13]) (by kernel_rfl) (by simp) ?_
          refine AllReadyH.cons rfl (fun K hK => ?_) (AllReadyH.nil)
          go_simp
          refine (HWK2.out _ hb6).mono ?_
          rintro e w7 ⟨rfl, hb7⟩
          refine hK.out _ _ (HCL.out _ hb7) (fun _ => ?_)
          clear hK K
          refine wpAnyH_ready (rs := [14]) (by kernel_rfl) (by simp) ?_
          refine AllReadyH.cons rfl (fun K hK => ?_) (AllReadyH.nil)
          go_simp
          refine hK.out _ _ (HCL.out _ hb7) (fun _ => ?_)
          clear hK K
          refine wpAnyH_ready (rs := [15]) (by kernel_rfl) (by simp) ?_
          refine AllReadyH.cons rfl (fun K hK => ?_) (AllReadyH.nil)
          go_simp
          refine hK.out _ _ (HCL.out _ hb7) (fun _ => ?_)
          clear hK K
          refine wpAnyH_done (by kernel_rfl) ?_ _
          go_wp2_with fail
          go_ret
          exact ⟨rfl, k0 _ hb7⟩
end Go.Proofs.YtognlnjamlhmhaaGreatDoor.Char
