/- RefSameW -/
import Derived.Test.YtognlnjamlhmhaaGreatDoorPkEq
import Derived.StillTailTactics
/- The walk of the document's own Same. -/
namespace Go.Proofs.YtognlnjamlhmhaaGreatDoor.Char
open Go.RowKit Go.Lib

theorem below_drewN (B : Nat) (w : World) (n : Nat) : Below B w (w.drewN n) := ⟨rfl, rfl, rfl, Nat.le_refl _, fun _ _ => rfl⟩
set_option maxRecDepth 100000 in
set_option maxHeartbeats 4000000 in
theorem refSame_any : ∀ (c : Nat) (a b : Tr) (va vk ua uk : Value) (w : World) (F G : Nat → Prop), cntT a ≤ c → NdOn w F a va vk → NdOn w G b ua uk → mxT a ≤ 2 ^ 62 → c ≤ 1000000 →
    Calls Tryz.prog 10 #[ndV a va vk, ndV b ua uk] w fun e w' => e = .returned (.bool (eqT a b)) ∧ Below w.heap.size w w' := by
  intro c
  induction c with
  | zero => intro a b va vk ua uk w F G hc; have := cntT_pos a; omega
  | succ c ih =>
    intro a b va vk ua uk w F G hc hn hm hx hcm
    obtain ⟨oa, ja, ok, jk, rfl, rfl⟩ := hn.form
    obtain ⟨pa, la, pk, lk, rfl, rfl⟩ := hm.form
    obtain ⟨w1, hw1⟩ : ∃ w1, w1 = (w.alloc (.cells #[.int .i64 a.kd, .string (bs a.nm), .string (bs a.tx), .slice oa a.ats.length ja, .slice ok a.ks.length jk] 26)).alloc (.cells #[.int .i64 b.kd, .string (bs b.nm), .string (bs b.tx), .slice pa b.ats.length la, .slice pk b.ks.length lk] 26) := ⟨_, rfl⟩
    have b1 : Below w.heap.size w w1 := by rw [hw1]; exact ((Below.refl _ _).alloc (Nat.le_refl _) _).alloc (by simp) _
    have s1 : w1.heap.size = w.heap.size + 2 := by rw [hw1]; simp
    have hcl : ∀ W, Below w1.heap.size w1 W → (W.cell? ⟨w.heap.size, 0, none⟩ = some (.int .i64 a.kd) ∧ W.cell? ⟨w.heap.size, 1, none⟩ = some (.string (bs a.nm)) ∧ W.cell? ⟨w.heap.size, 2, none⟩ = some (.string (bs a.tx)) ∧ W.cell? ⟨w.heap.size, 3, none⟩ = some (.slice oa a.ats.length ja) ∧ W.cell? ⟨w.heap.size, 4, none⟩ = some (.slice ok a.ks.length jk)) ∧
        (W.cell? ⟨w.heap.size + 1, 0, none⟩ = some (.int .i64 b.kd) ∧ W.cell? ⟨w.heap.size + 1, 1, none⟩ = some (.string (bs b.nm)) ∧ W.cell? ⟨w.heap.size + 1, 2, none⟩ = some (.string (bs b.tx)) ∧ W.cell? ⟨w.heap.size + 1, 3, none⟩ = some (.slice pa b.ats.length la) ∧ W.cell? ⟨w.heap.size + 1, 4, none⟩ = some (.slice pk b.ks.length lk)) := fun W hW => by
      have h0 := hW.block w.heap.size (by omega)
      have h1 := hW.block (w.heap.size + 1) (by omega)
      refine ⟨⟨?_, ?_, ?_, ?_, ?_⟩, ⟨?_, ?_, ?_, ?_, ?_⟩⟩
      all_goals first
        | (rw [World.cell?_of_block (w := w1) h0, hw1]; go_simp; done)
        | (rw [World.cell?_of_block (w := w1) h1, hw1]; go_simp; done)
    have HCL := Lib.hid hcl
    have HB1 := Lib.hid b1
    have HW1 := Lib.hid hw1
    have HIH := Lib.hid ih
    have HN := Lib.hid hn
    have HM := Lib.hid hm
    have hcn := cnt_eq a
    have hmx := mxT_def a
    have hat := AtsOn.move (fun _ hb hF => ⟨hF, b1.block _ hb⟩) hn.ats
    have hbt := AtsOn.move (fun _ hb hF => ⟨hF, b1.block _ hb⟩) hm.ats
    have hsa := sameAts_any a.ats b.ats _ _ _ _ _ _ w1 (by omega) hat hbt
    have HSA := Lib.hid hsa
    clear hcl ih hn hm hat hbt hsa b1
    unfold ndV
    have hdef := eqT_def a b
    by_cases e0 : a.kd = b.kd
    · have k0 : (a.kd != b.kd) = false := by simp [e0]
      rw [decide_eq_true e0] at hdef
      clear e0
      by_cases e1 : a.nm = b.nm
      · have k1 : ((bs a.nm).toList == (bs b.nm).toList) = true := by rw [e1, beq_iff_eq]
        rw [decide_eq_true e1] at hdef
        clear e1
        by_cases e2 : a.tx = b.tx
        · have k2 : ((bs a.tx).toList == (bs b.tx).toList) = true := by rw [e2, beq_iff_eq]
          rw [decide_eq_true e2] at hdef
          clear e2
          by_cases e3 : a.ats = b.ats
          · rw [decide_eq_true e3] at hdef HSA
            clear e3
            by_cases e4 : a.ks.length = b.ks.length
            · have k4 : ((a.ks.length : Int) != (b.ks.length : Int)) = false := by simp [e4]
              have HL := Lib.hid e4
              clear e4
              have HD := Lib.hid hdef
              clear hdef
              go_enter Tryz.func10, Tryz.ntmps10
              go_wp2_with fail
              rw [← HW1.out]
              clear HW1 hw1
              refine HSA.out.mono ?_
              rintro e w2 ⟨rfl, n, rfl⟩
              obtain ⟨⟨c0, c1, c2, c3, c4⟩, d0, d1, d2, d3, d4⟩ := HCL.out (w1.drewN n) (below_drewN _ _ _)
              go_wp2_with fail
              clear c0 c1 c2 c3 c4 d0 d1 d2 d3 d4
              go_loopw [5] (fun v wr => ∃ j : Nat, v = .int .i64 (j : Int) ∧ j ≤ a.ks.length ∧ Below w1.heap.size w1 wr ∧ eqKs a.ks b.ks = eqKs (a.ks.drop j) (b.ks.drop j)) (fun v _ => a.ks.length - (RowKit.intOf v).toNat)
              case atStart => exact ⟨0, rfl, Nat.zero_le _, below_drewN _ _ _, by simp⟩
              case round =>
                obtain ⟨j, rfl, hj, hbr, heq⟩ := hrel
                have hlen := HL.out
                have hcl := cntK_len a.ks
                obtain ⟨⟨_, _, _, _, c4⟩, _, _, _, _, d4⟩ := HCL.out _ hbr
                by_cases hlt : j < a.ks.length
                · have hlt2 : j < b.ks.length := by omega
                  rw [eqKs_drop _ _ j hlt hlt2] at heq
                  obtain ⟨o9, i9, j9, hv9, hi9, hkids⟩ := HN.out.kids
                  simp only [Value.slice.injEq] at hv9
                  obtain ⟨rfl, rfl, rfl⟩ := hv9
                  rcases hkids with h0 | ⟨g, off, rfl, hg, hK⟩
                  · rw [h0] at hlt; cases hlt
                  obtain ⟨va, vk, hat, hon⟩ := hK.at j hlt
                  obtain ⟨o8, i8, j8, hv8, hi8, hkids⟩ := HM.out.kids
                  simp only [Value.slice.injEq] at hv8
                  obtain ⟨rfl, rfl, rfl⟩ := hv8
                  rcases hkids with h0 | ⟨g', off', rfl, hg', hK'⟩
                  · rw [h0] at hlt2; cases hlt2
                  obtain ⟨ua, uk, hat', hon'⟩ := hK'.at j hlt2
                  have hb0 : Below w.heap.size w wr := HB1.out.trans (hbr.mono (by omega))
                  obtain ⟨a0, a1, a2, a3, a4⟩ := hat.move (hb0.block g (cell_lt hat.1))
                  obtain ⟨b0, b1, b2, b3, b4⟩ := hat'.move (hb0.block g' (cell_lt hat'.1))
                  have hc3 := cntK_at a.ks j hlt
                  have hm3 := mxK_at a.ks j hlt
                  have hc2 := HIH.out a.ks[j] b.ks[j] va vk ua uk wr.drew F G (by omega) (hon.below hb0.drew) (hon'.below hb0.drew) (by omega) (by omega)
                  generalize a.ks[j] = kid at *
                  generalize b.ks[j] = kid' at *
                  obtain ⟨oa', ja', ok', jk', rfl, rfl⟩ := hon.form
                  obtain ⟨oa2, ja2, ok2, jk2, rfl, rfl⟩ := hon'.form
                  unfold ndV at hc2
                  have HC2 := Lib.hid hc2
                  have HE := Lib.hid heq
                  have HBR := Lib.hid hbr
                  clear hc2 hon hon' hat hat' hK hK' heq hbr hb0 hlen hi9 hi8
                  cases hr : eqT kid kid' with
                  | false =>
                    have HR := Lib.hid hr
                    clear hr
                    go_wp2_with fail
                    go_still_tail 10, (by kernel_rfl)
                    change wpList _ _ _ _ _ wr.drew
                    go_wp2_with fail
                    refine HC2.out.mono ?_
                    rintro e w2 ⟨rfl, hb2⟩
                    rw [HR.out]
                    go_wp2_with fail
                    go_ret
                    rw [HD.out, HE.out, HR.out]
                    exact ⟨rfl, HB1.out.trans ((HBR.out.drew.trans (hb2.mono HBR.out.drew.size)).mono (by omega))⟩
                  | true =>
                    have HR := Lib.hid hr
                    clear hr
                    go_wp2_with fail
                    go_still_tail 10, (by kernel_rfl)
                    change wpList _ _ _ _ _ wr.drew
                    go_wp2_with fail
                    refine HC2.out.mono ?_
                    rintro e w2 ⟨rfl, hb2⟩
                    rw [HR.out]
                    go_wp2_with fail
                    go_roundw
                    case rel => exact ⟨j + 1, by go_num, by omega, HBR.out.drew.trans (hb2.mono HBR.out.drew.size), by rw [HE.out, HR.out, Bool.true_and]⟩
                    case measure => simp [RowKit.intOf]; omega
                · have e : j = a.ks.length := by omega
                  subst e
                  rw [eqKs_end _ _ hlen] at heq
                  have HE := Lib.hid heq
                  clear heq hlen
                  go_wp2_with fail
                  go_ret
                  rw [HD.out, HE.out]
                  exact ⟨rfl, HB1.out.trans (hbr.mono (by omega))⟩
            · have k4 : ((a.ks.length : Int) != (b.ks.length : Int)) = true := by rw [bne_iff_ne]; omega
              have HD := Lib.hid (hdef.trans (by rw [eqKs_len _ _ e4]))
              clear hdef e4
              go_enter Tryz.func10, Tryz.ntmps10
              go_wp2_with fail
              rw [← HW1.out]
              clear HW1 hw1
              refine HSA.out.mono ?_
              rintro e w2 ⟨rfl, n, rfl⟩
              obtain ⟨⟨c0, c1, c2, c3, c4⟩, d0, d1, d2, d3, d4⟩ := HCL.out (w1.drewN n) (below_drewN _ _ _)
              go_wp2_with fail
              go_ret
              rw [HD.out]
              exact ⟨rfl, HB1.out.trans (below_drewN _ _ _)⟩
          · rw [decide_eq_false e3] at hdef HSA
            have HD := Lib.hid hdef
            clear hdef e3
            go_enter Tryz.func10, Tryz.ntmps10
            go_wp2_with fail
            rw [← HW1.out]
            clear HW1 hw1
            refine HSA.out.mono ?_
            rintro e w2 ⟨rfl, n, rfl⟩
            go_wp2_with fail
            go_ret
            rw [HD.out]
            exact ⟨rfl, HB1.out.trans (below_drewN _ _ _)⟩
        · have k2 : ((bs a.tx).toList == (bs b.tx).toList) = false := by rw [bs_tl, bs_tl, beq_eq_false_iff_ne]; exact e2
          rw [decide_eq_false e2] at hdef
          have HD := Lib.hid hdef
          clear hdef e2
          go_enter Tryz.func10, Tryz.ntmps10
          go_wp2_with fail
          rw [← HW1.out]
          go_ret
          rw [HD.out]
          exact ⟨rfl, HB1.out⟩
      · have k1 : ((bs a.nm).toList == (bs b.nm).toList) = false := by rw [bs_tl, bs_tl, beq_eq_false_iff_ne]; exact e1
        rw [decide_eq_false e1] at hdef
        have HD := Lib.hid hdef
        clear hdef e1
        go_enter Tryz.func10, Tryz.ntmps10
        go_wp2_with fail
        rw [← HW1.out]
        go_ret
        rw [HD.out]
        exact ⟨rfl, HB1.out⟩
    · have k0 : (a.kd != b.kd) = true := by simp [e0]
      rw [decide_eq_false e0] at hdef
      have HD := Lib.hid hdef
      clear hdef e0
      go_enter Tryz.func10, Tryz.ntmps10
      go_wp2_with fail
      rw [← HW1.out]
      go_ret
      rw [HD.out]
      exact ⟨rfl, HB1.out⟩
end Go.Proofs.YtognlnjamlhmhaaGreatDoor.Char
