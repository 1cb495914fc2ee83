/- The walk of the document's Match. -/
import Derived.Test.YtbbfcjaggdpfbaaPk14
import Derived.Test.YtbbfcjaggdpfbaaPk11
import Derived.Test.YtbbfcjaggdpfbaaPk12
import Derived.Test.YtbbfcjaggdpfbaaPk15
namespace Go.Proofs.Ytbbfcjaggdpfbaa.Char
open Go.RowKit Go.Lib

section
variable {w : World} {b t : Nat} {L : List On} {own : Own}
set_option maxRecDepth 100000 in
set_option maxHeartbeats 16000000 in
theorem matchR_any (h : DV w b L t own) (a k : Int) (nm : List UInt8) (hs : Bool) (id : Int) :
    Calls Try.prog 43 #[.pointer (some ⟨b, 0, none⟩), .int .i64 a, teV k nm hs, .int .i64 id] w fun e w' => e = .returned (.bool (matchT a k nm hs (lookV L t own id))) ∧ Below w.heap.size w w' := by
  have hG := fun ob => (h.one ob).get id
  have HB := Lib.hid fun ob => (Below.refl _ w).alloc (Nat.le_refl _) ob
  obtain ⟨R, hR⟩ : ∃ R, lookV L t own id = R := ⟨_, rfl⟩
  rw [hR] at hG ⊢
  have T0 : Hid ((w.alloc (.cells #[.int .i64 k, .string (bs nm), .bool hs] 83)).cell? ⟨w.heap.size, 0, none⟩ = some (.int .i64 k)) := Lib.hid (by rw [World.cell?_alloc_new]; rfl)
  have T1 : Hid ((w.alloc (.cells #[.int .i64 k, .string (bs nm), .bool hs] 83)).cell? ⟨w.heap.size, 1, none⟩ = some (.string (bs nm))) := Lib.hid (by rw [World.cell?_alloc_new]; rfl)
  have T2 : Hid ((w.alloc (.cells #[.int .i64 k, .string (bs nm), .bool hs] 83)).cell? ⟨w.heap.size, 2, none⟩ = some (.bool hs)) := Lib.hid (by rw [World.cell?_alloc_new]; rfl)
  have HRT := Lib.hid fun W => rightTR_any k nm hs W
  have HG := Lib.hid hG
  clear h hG hR
  unfold teV at *
  cases R with
  | none =>
    clear T0 T1 T2 HRT
    go_enter Try.func43, Try.ntmps43
    go_wp2_with (first
      | (go_at_call 75
         refine (HG.out _).mono ?_
         rintro e w2 ⟨⟨r2, va, vb⟩, rfl, q1, q2, q3⟩
         obtain ⟨ok2, jk2, oa2, ja2, e1, e2⟩ := q2.form
         dsimp only [Option.getD] at e1 e2 q1
         subst e1 e2 q1
         have hs2 := q3.size
         simp only [World.size_alloc] at hs2
         have HB2 := Lib.hid ((HB.out _).trans (q3.mono (by simp)))
         clear q2 q3
         unfold rcV
         dsimp only))
    go_ret
    exact ⟨rfl, HB2.out.alloc (by have := HB2.out.size; omega) _⟩
  | some r =>
    cases hrt : rightT k nm hs with
    | false =>
      rw [hrt] at HRT
      have HF := Lib.hid (matchT_no (a := a) (r := r) (show (rightT k nm hs && decide (1 ≤ a ∧ a ≤ 12)) = false by rw [hrt]; rfl))
      clear hrt
      go_enter Try.func43, Try.ntmps43
      go_wp2_with (first
        | (go_at_call 75
           refine (HG.out _).mono ?_
           rintro e w2 ⟨⟨r2, va, vb⟩, rfl, q1, q2, q3⟩
           obtain ⟨ok2, jk2, oa2, ja2, e1, e2⟩ := q2.form
           dsimp only [Option.getD] at e1 e2 q1
           subst e1 e2 q1
           have hs2 := q3.size
           simp only [World.size_alloc] at hs2
           have HB2 := Lib.hid ((HB.out _).trans (q3.mono (by simp)))
           have g2 := Lib.cell?_alloc_some (rcB (r2, .slice ok2 r2.ks.length jk2, .slice oa2 r2.ats.length ja2)) (keep_cell T0.out q3)
           have g3 := Lib.cell?_alloc_some (rcB (r2, .slice ok2 r2.ks.length jk2, .slice oa2 r2.ats.length ja2)) (keep_cell T1.out q3)
           have g4 := Lib.cell?_alloc_some (rcB (r2, .slice ok2 r2.ks.length jk2, .slice oa2 r2.ats.length ja2)) (keep_cell T2.out q3)
           have HR2 := Lib.hid (rc_blk (World.alloc_heap_new w2 (rcB (r2, .slice ok2 r2.ks.length jk2, .slice oa2 r2.ats.length ja2)))).1
           unfold rcB at g2 g3 g4 HR2
           dsimp only at g2 g3 g4 HR2
           clear q2 q3
           unfold rcV
           dsimp only)
        | (go_at_call 45
           refine (HRT.out _).mono ?_
           rintro e w4 ⟨rfl, q4⟩
           have hs4 := q4.size
           simp only [World.size_alloc] at hs4
           have HB4 := Lib.hid ((HB2.out.alloc (by omega) _).trans (q4.mono (by simp; omega)))
           have t0 := keep_cell g2 q4
           have t1 := keep_cell g3 q4
           have t2 := keep_cell g4 q4
           have r0 := keep_cell HR2.out.1 q4
           have r1 := keep_cell HR2.out.2.1 q4
           clear g2 g3 g4 q4))
      go_ret
      exact ⟨by rw [HF.out]; rfl, HB4.out⟩
    | true =>
      rw [hrt] at HRT
      by_cases ha : 1 ≤ a ∧ a ≤ 12
      · have hok := matchT_ok (a := a) (r := r) (show (rightT k nm hs && decide (1 ≤ a ∧ a ≤ 12)) = true by rw [hrt, decide_eq_true ha]; rfl)
        have a1 : decide (a < 1) = false := decide_eq_false (by omega)
        have a2 : decide (12 < a) = false := decide_eq_false (by omega)
        have hkk := rightT_kind hrt
        have hha := rightT_has hrt
        obtain ⟨M, hM⟩ : ∃ M, matchT a k nm hs (some r) = M := ⟨_, rfl⟩
        rw [hM] at hok ⊢
        clear hrt hM
        obtain ⟨E, hE⟩ : ∃ E, decide (r.nm = nm) = E := ⟨_, rfl⟩
        rw [hE] at hok
        have he := bs_eqv _ _ _ hE
        clear hE
        rcases hkk with rfl | rfl | rfl | rfl | rfl | rfl
        · obtain rfl := hha (by decide)
          clear hha
          rw [if_neg (by decide), if_neg (by decide)] at hok
          by_cases a9 : a = 9
          · subst a9
            rw [if_pos rfl] at hok
            cases hq : (r.kd == 3) <;> rw [hq] at hok
            · have HM := Lib.hid hok
              clear hok
              go_enter Try.func43, Try.ntmps43
              go_wp2_with (first
                | (go_at_call 75
                   refine (HG.out _).mono ?_
                   rintro e w2 ⟨⟨r2, va, vb⟩, rfl, q1, q2, q3⟩
                   obtain ⟨ok2, jk2, oa2, ja2, e1, e2⟩ := q2.form
                   dsimp only [Option.getD] at e1 e2 q1
                   subst e1 e2 q1
                   have hs2 := q3.size
                   simp only [World.size_alloc] at hs2
                   have HB2 := Lib.hid ((HB.out _).trans (q3.mono (by simp)))
                   have g2 := Lib.cell?_alloc_some (rcB (r2, .slice ok2 r2.ks.length jk2, .slice oa2 r2.ats.length ja2)) (keep_cell T0.out q3)
                   have g3 := Lib.cell?_alloc_some (rcB (r2, .slice ok2 r2.ks.length jk2, .slice oa2 r2.ats.length ja2)) (keep_cell T1.out q3)
                   have g4 := Lib.cell?_alloc_some (rcB (r2, .slice ok2 r2.ks.length jk2, .slice oa2 r2.ats.length ja2)) (keep_cell T2.out q3)
                   have HR2 := Lib.hid (rc_blk (World.alloc_heap_new w2 (rcB (r2, .slice ok2 r2.ks.length jk2, .slice oa2 r2.ats.length ja2)))).1
                   unfold rcB at g2 g3 g4 HR2
                   dsimp only at g2 g3 g4 HR2
                   clear q2 q3
                   unfold rcV
                   dsimp only)
                | (go_at_call 45
                   refine (HRT.out _).mono ?_
                   rintro e w4 ⟨rfl, q4⟩
                   have hs4 := q4.size
                   simp only [World.size_alloc] at hs4
                   have HB4 := Lib.hid ((HB2.out.alloc (by omega) _).trans (q4.mono (by simp; omega)))
                   have t0 := keep_cell g2 q4
                   have t1 := keep_cell g3 q4
                   have t2 := keep_cell g4 q4
                   have r0 := keep_cell HR2.out.1 q4
                   have r1 := keep_cell HR2.out.2.1 q4
                   clear g2 g3 g4 q4))
              go_ret
              exact ⟨by rw [HM.out]; rfl, HB4.out⟩
            · have HM := Lib.hid hok
              clear hok
              cases E
              · skip
                go_enter Try.func43, Try.ntmps43
                go_wp2_with (first
                  | (go_at_call 75
                     refine (HG.out _).mono ?_
                     rintro e w2 ⟨⟨r2, va, vb⟩, rfl, q1, q2, q3⟩
                     obtain ⟨ok2, jk2, oa2, ja2, e1, e2⟩ := q2.form
                     dsimp only [Option.getD] at e1 e2 q1
                     subst e1 e2 q1
                     have hs2 := q3.size
                     simp only [World.size_alloc] at hs2
                     have HB2 := Lib.hid ((HB.out _).trans (q3.mono (by simp)))
                     have g2 := Lib.cell?_alloc_some (rcB (r2, .slice ok2 r2.ks.length jk2, .slice oa2 r2.ats.length ja2)) (keep_cell T0.out q3)
                     have g3 := Lib.cell?_alloc_some (rcB (r2, .slice ok2 r2.ks.length jk2, .slice oa2 r2.ats.length ja2)) (keep_cell T1.out q3)
                     have g4 := Lib.cell?_alloc_some (rcB (r2, .slice ok2 r2.ks.length jk2, .slice oa2 r2.ats.length ja2)) (keep_cell T2.out q3)
                     have HR2 := Lib.hid (rc_blk (World.alloc_heap_new w2 (rcB (r2, .slice ok2 r2.ks.length jk2, .slice oa2 r2.ats.length ja2)))).1
                     unfold rcB at g2 g3 g4 HR2
                     dsimp only at g2 g3 g4 HR2
                     clear q2 q3
                     unfold rcV
                     dsimp only)
                  | (go_at_call 45
                     refine (HRT.out _).mono ?_
                     rintro e w4 ⟨rfl, q4⟩
                     have hs4 := q4.size
                     simp only [World.size_alloc] at hs4
                     have HB4 := Lib.hid ((HB2.out.alloc (by omega) _).trans (q4.mono (by simp; omega)))
                     have t0 := keep_cell g2 q4
                     have t1 := keep_cell g3 q4
                     have t2 := keep_cell g4 q4
                     have r0 := keep_cell HR2.out.1 q4
                     have r1 := keep_cell HR2.out.2.1 q4
                     clear g2 g3 g4 q4))
                go_ret
                exact ⟨by rw [HM.out]; rfl, HB4.out⟩
              · skip
                go_enter Try.func43, Try.ntmps43
                go_wp2_with (first
                  | (go_at_call 75
                     refine (HG.out _).mono ?_
                     rintro e w2 ⟨⟨r2, va, vb⟩, rfl, q1, q2, q3⟩
                     obtain ⟨ok2, jk2, oa2, ja2, e1, e2⟩ := q2.form
                     dsimp only [Option.getD] at e1 e2 q1
                     subst e1 e2 q1
                     have hs2 := q3.size
                     simp only [World.size_alloc] at hs2
                     have HB2 := Lib.hid ((HB.out _).trans (q3.mono (by simp)))
                     have g2 := Lib.cell?_alloc_some (rcB (r2, .slice ok2 r2.ks.length jk2, .slice oa2 r2.ats.length ja2)) (keep_cell T0.out q3)
                     have g3 := Lib.cell?_alloc_some (rcB (r2, .slice ok2 r2.ks.length jk2, .slice oa2 r2.ats.length ja2)) (keep_cell T1.out q3)
                     have g4 := Lib.cell?_alloc_some (rcB (r2, .slice ok2 r2.ks.length jk2, .slice oa2 r2.ats.length ja2)) (keep_cell T2.out q3)
                     have HR2 := Lib.hid (rc_blk (World.alloc_heap_new w2 (rcB (r2, .slice ok2 r2.ks.length jk2, .slice oa2 r2.ats.length ja2)))).1
                     unfold rcB at g2 g3 g4 HR2
                     dsimp only at g2 g3 g4 HR2
                     clear q2 q3
                     unfold rcV
                     dsimp only)
                  | (go_at_call 45
                     refine (HRT.out _).mono ?_
                     rintro e w4 ⟨rfl, q4⟩
                     have hs4 := q4.size
                     simp only [World.size_alloc] at hs4
                     have HB4 := Lib.hid ((HB2.out.alloc (by omega) _).trans (q4.mono (by simp; omega)))
                     have t0 := keep_cell g2 q4
                     have t1 := keep_cell g3 q4
                     have t2 := keep_cell g4 q4
                     have r0 := keep_cell HR2.out.1 q4
                     have r1 := keep_cell HR2.out.2.1 q4
                     clear g2 g3 g4 q4))
                go_ret
                exact ⟨by rw [HM.out]; rfl, HB4.out⟩
          · have b9 : (a == 9) = false := beq_eq_false_iff_ne.2 a9
            rw [if_neg a9] at hok
            clear a9 ha
            cases hq : (r.kd == 2) <;> rw [hq] at hok
            · have HM := Lib.hid hok
              clear hok
              go_enter Try.func43, Try.ntmps43
              go_wp2_with (first
                | (go_at_call 75
                   refine (HG.out _).mono ?_
                   rintro e w2 ⟨⟨r2, va, vb⟩, rfl, q1, q2, q3⟩
                   obtain ⟨ok2, jk2, oa2, ja2, e1, e2⟩ := q2.form
                   dsimp only [Option.getD] at e1 e2 q1
                   subst e1 e2 q1
                   have hs2 := q3.size
                   simp only [World.size_alloc] at hs2
                   have HB2 := Lib.hid ((HB.out _).trans (q3.mono (by simp)))
                   have g2 := Lib.cell?_alloc_some (rcB (r2, .slice ok2 r2.ks.length jk2, .slice oa2 r2.ats.length ja2)) (keep_cell T0.out q3)
                   have g3 := Lib.cell?_alloc_some (rcB (r2, .slice ok2 r2.ks.length jk2, .slice oa2 r2.ats.length ja2)) (keep_cell T1.out q3)
                   have g4 := Lib.cell?_alloc_some (rcB (r2, .slice ok2 r2.ks.length jk2, .slice oa2 r2.ats.length ja2)) (keep_cell T2.out q3)
                   have HR2 := Lib.hid (rc_blk (World.alloc_heap_new w2 (rcB (r2, .slice ok2 r2.ks.length jk2, .slice oa2 r2.ats.length ja2)))).1
                   unfold rcB at g2 g3 g4 HR2
                   dsimp only at g2 g3 g4 HR2
                   clear q2 q3
                   unfold rcV
                   dsimp only)
                | (go_at_call 45
                   refine (HRT.out _).mono ?_
                   rintro e w4 ⟨rfl, q4⟩
                   have hs4 := q4.size
                   simp only [World.size_alloc] at hs4
                   have HB4 := Lib.hid ((HB2.out.alloc (by omega) _).trans (q4.mono (by simp; omega)))
                   have t0 := keep_cell g2 q4
                   have t1 := keep_cell g3 q4
                   have t2 := keep_cell g4 q4
                   have r0 := keep_cell HR2.out.1 q4
                   have r1 := keep_cell HR2.out.2.1 q4
                   clear g2 g3 g4 q4))
              go_ret
              exact ⟨by rw [HM.out]; rfl, HB4.out⟩
            · have HM := Lib.hid hok
              clear hok
              cases E
              · skip
                go_enter Try.func43, Try.ntmps43
                go_wp2_with (first
                  | (go_at_call 75
                     refine (HG.out _).mono ?_
                     rintro e w2 ⟨⟨r2, va, vb⟩, rfl, q1, q2, q3⟩
                     obtain ⟨ok2, jk2, oa2, ja2, e1, e2⟩ := q2.form
                     dsimp only [Option.getD] at e1 e2 q1
                     subst e1 e2 q1
                     have hs2 := q3.size
                     simp only [World.size_alloc] at hs2
                     have HB2 := Lib.hid ((HB.out _).trans (q3.mono (by simp)))
                     have g2 := Lib.cell?_alloc_some (rcB (r2, .slice ok2 r2.ks.length jk2, .slice oa2 r2.ats.length ja2)) (keep_cell T0.out q3)
                     have g3 := Lib.cell?_alloc_some (rcB (r2, .slice ok2 r2.ks.length jk2, .slice oa2 r2.ats.length ja2)) (keep_cell T1.out q3)
                     have g4 := Lib.cell?_alloc_some (rcB (r2, .slice ok2 r2.ks.length jk2, .slice oa2 r2.ats.length ja2)) (keep_cell T2.out q3)
                     have HR2 := Lib.hid (rc_blk (World.alloc_heap_new w2 (rcB (r2, .slice ok2 r2.ks.length jk2, .slice oa2 r2.ats.length ja2)))).1
                     unfold rcB at g2 g3 g4 HR2
                     dsimp only at g2 g3 g4 HR2
                     clear q2 q3
                     unfold rcV
                     dsimp only)
                  | (go_at_call 45
                     refine (HRT.out _).mono ?_
                     rintro e w4 ⟨rfl, q4⟩
                     have hs4 := q4.size
                     simp only [World.size_alloc] at hs4
                     have HB4 := Lib.hid ((HB2.out.alloc (by omega) _).trans (q4.mono (by simp; omega)))
                     have t0 := keep_cell g2 q4
                     have t1 := keep_cell g3 q4
                     have t2 := keep_cell g4 q4
                     have r0 := keep_cell HR2.out.1 q4
                     have r1 := keep_cell HR2.out.2.1 q4
                     clear g2 g3 g4 q4))
                go_ret
                exact ⟨by rw [HM.out]; rfl, HB4.out⟩
              · skip
                go_enter Try.func43, Try.ntmps43
                go_wp2_with (first
                  | (go_at_call 75
                     refine (HG.out _).mono ?_
                     rintro e w2 ⟨⟨r2, va, vb⟩, rfl, q1, q2, q3⟩
                     obtain ⟨ok2, jk2, oa2, ja2, e1, e2⟩ := q2.form
                     dsimp only [Option.getD] at e1 e2 q1
                     subst e1 e2 q1
                     have hs2 := q3.size
                     simp only [World.size_alloc] at hs2
                     have HB2 := Lib.hid ((HB.out _).trans (q3.mono (by simp)))
                     have g2 := Lib.cell?_alloc_some (rcB (r2, .slice ok2 r2.ks.length jk2, .slice oa2 r2.ats.length ja2)) (keep_cell T0.out q3)
                     have g3 := Lib.cell?_alloc_some (rcB (r2, .slice ok2 r2.ks.length jk2, .slice oa2 r2.ats.length ja2)) (keep_cell T1.out q3)
                     have g4 := Lib.cell?_alloc_some (rcB (r2, .slice ok2 r2.ks.length jk2, .slice oa2 r2.ats.length ja2)) (keep_cell T2.out q3)
                     have HR2 := Lib.hid (rc_blk (World.alloc_heap_new w2 (rcB (r2, .slice ok2 r2.ks.length jk2, .slice oa2 r2.ats.length ja2)))).1
                     unfold rcB at g2 g3 g4 HR2
                     dsimp only at g2 g3 g4 HR2
                     clear q2 q3
                     unfold rcV
                     dsimp only)
                  | (go_at_call 45
                     refine (HRT.out _).mono ?_
                     rintro e w4 ⟨rfl, q4⟩
                     have hs4 := q4.size
                     simp only [World.size_alloc] at hs4
                     have HB4 := Lib.hid ((HB2.out.alloc (by omega) _).trans (q4.mono (by simp; omega)))
                     have t0 := keep_cell g2 q4
                     have t1 := keep_cell g3 q4
                     have t2 := keep_cell g4 q4
                     have r0 := keep_cell HR2.out.1 q4
                     have r1 := keep_cell HR2.out.2.1 q4
                     clear g2 g3 g4 q4))
                go_ret
                exact ⟨by rw [HM.out]; rfl, HB4.out⟩
        · obtain rfl := hha (by decide)
          clear hha
          rw [if_neg (by decide), if_neg (by decide)] at hok
          by_cases a9 : a = 9
          · subst a9
            rw [if_pos rfl] at hok
            cases hq : (r.kd == 3) <;> rw [hq] at hok
            · have HM := Lib.hid hok
              clear hok
              go_enter Try.func43, Try.ntmps43
              go_wp2_with (first
                | (go_at_call 75
                   refine (HG.out _).mono ?_
                   rintro e w2 ⟨⟨r2, va, vb⟩, rfl, q1, q2, q3⟩
                   obtain ⟨ok2, jk2, oa2, ja2, e1, e2⟩ := q2.form
                   dsimp only [Option.getD] at e1 e2 q1
                   subst e1 e2 q1
                   have hs2 := q3.size
                   simp only [World.size_alloc] at hs2
                   have HB2 := Lib.hid ((HB.out _).trans (q3.mono (by simp)))
                   have g2 := Lib.cell?_alloc_some (rcB (r2, .slice ok2 r2.ks.length jk2, .slice oa2 r2.ats.length ja2)) (keep_cell T0.out q3)
                   have g3 := Lib.cell?_alloc_some (rcB (r2, .slice ok2 r2.ks.length jk2, .slice oa2 r2.ats.length ja2)) (keep_cell T1.out q3)
                   have g4 := Lib.cell?_alloc_some (rcB (r2, .slice ok2 r2.ks.length jk2, .slice oa2 r2.ats.length ja2)) (keep_cell T2.out q3)
                   have HR2 := Lib.hid (rc_blk (World.alloc_heap_new w2 (rcB (r2, .slice ok2 r2.ks.length jk2, .slice oa2 r2.ats.length ja2)))).1
                   unfold rcB at g2 g3 g4 HR2
                   dsimp only at g2 g3 g4 HR2
                   clear q2 q3
                   unfold rcV
                   dsimp only)
                | (go_at_call 45
                   refine (HRT.out _).mono ?_
                   rintro e w4 ⟨rfl, q4⟩
                   have hs4 := q4.size
                   simp only [World.size_alloc] at hs4
                   have HB4 := Lib.hid ((HB2.out.alloc (by omega) _).trans (q4.mono (by simp; omega)))
                   have t0 := keep_cell g2 q4
                   have t1 := keep_cell g3 q4
                   have t2 := keep_cell g4 q4
                   have r0 := keep_cell HR2.out.1 q4
                   have r1 := keep_cell HR2.out.2.1 q4
                   clear g2 g3 g4 q4))
              go_ret
              exact ⟨by rw [HM.out]; rfl, HB4.out⟩
            · have HM := Lib.hid hok
              clear hok
              go_enter Try.func43, Try.ntmps43
              go_wp2_with (first
                | (go_at_call 75
                   refine (HG.out _).mono ?_
                   rintro e w2 ⟨⟨r2, va, vb⟩, rfl, q1, q2, q3⟩
                   obtain ⟨ok2, jk2, oa2, ja2, e1, e2⟩ := q2.form
                   dsimp only [Option.getD] at e1 e2 q1
                   subst e1 e2 q1
                   have hs2 := q3.size
                   simp only [World.size_alloc] at hs2
                   have HB2 := Lib.hid ((HB.out _).trans (q3.mono (by simp)))
                   have g2 := Lib.cell?_alloc_some (rcB (r2, .slice ok2 r2.ks.length jk2, .slice oa2 r2.ats.length ja2)) (keep_cell T0.out q3)
                   have g3 := Lib.cell?_alloc_some (rcB (r2, .slice ok2 r2.ks.length jk2, .slice oa2 r2.ats.length ja2)) (keep_cell T1.out q3)
                   have g4 := Lib.cell?_alloc_some (rcB (r2, .slice ok2 r2.ks.length jk2, .slice oa2 r2.ats.length ja2)) (keep_cell T2.out q3)
                   have HR2 := Lib.hid (rc_blk (World.alloc_heap_new w2 (rcB (r2, .slice ok2 r2.ks.length jk2, .slice oa2 r2.ats.length ja2)))).1
                   unfold rcB at g2 g3 g4 HR2
                   dsimp only at g2 g3 g4 HR2
                   clear q2 q3
                   unfold rcV
                   dsimp only)
                | (go_at_call 45
                   refine (HRT.out _).mono ?_
                   rintro e w4 ⟨rfl, q4⟩
                   have hs4 := q4.size
                   simp only [World.size_alloc] at hs4
                   have HB4 := Lib.hid ((HB2.out.alloc (by omega) _).trans (q4.mono (by simp; omega)))
                   have t0 := keep_cell g2 q4
                   have t1 := keep_cell g3 q4
                   have t2 := keep_cell g4 q4
                   have r0 := keep_cell HR2.out.1 q4
                   have r1 := keep_cell HR2.out.2.1 q4
                   clear g2 g3 g4 q4))
              go_ret
              exact ⟨by rw [HM.out]; rfl, HB4.out⟩
          · have b9 : (a == 9) = false := beq_eq_false_iff_ne.2 a9
            rw [if_neg a9] at hok
            clear a9 ha
            cases hq : (r.kd == 2) <;> rw [hq] at hok
            · have HM := Lib.hid hok
              clear hok
              go_enter Try.func43, Try.ntmps43
              go_wp2_with (first
                | (go_at_call 75
                   refine (HG.out _).mono ?_
                   rintro e w2 ⟨⟨r2, va, vb⟩, rfl, q1, q2, q3⟩
                   obtain ⟨ok2, jk2, oa2, ja2, e1, e2⟩ := q2.form
                   dsimp only [Option.getD] at e1 e2 q1
                   subst e1 e2 q1
                   have hs2 := q3.size
                   simp only [World.size_alloc] at hs2
                   have HB2 := Lib.hid ((HB.out _).trans (q3.mono (by simp)))
                   have g2 := Lib.cell?_alloc_some (rcB (r2, .slice ok2 r2.ks.length jk2, .slice oa2 r2.ats.length ja2)) (keep_cell T0.out q3)
                   have g3 := Lib.cell?_alloc_some (rcB (r2, .slice ok2 r2.ks.length jk2, .slice oa2 r2.ats.length ja2)) (keep_cell T1.out q3)
                   have g4 := Lib.cell?_alloc_some (rcB (r2, .slice ok2 r2.ks.length jk2, .slice oa2 r2.ats.length ja2)) (keep_cell T2.out q3)
                   have HR2 := Lib.hid (rc_blk (World.alloc_heap_new w2 (rcB (r2, .slice ok2 r2.ks.length jk2, .slice oa2 r2.ats.length ja2)))).1
                   unfold rcB at g2 g3 g4 HR2
                   dsimp only at g2 g3 g4 HR2
                   clear q2 q3
                   unfold rcV
                   dsimp only)
                | (go_at_call 45
                   refine (HRT.out _).mono ?_
                   rintro e w4 ⟨rfl, q4⟩
                   have hs4 := q4.size
                   simp only [World.size_alloc] at hs4
                   have HB4 := Lib.hid ((HB2.out.alloc (by omega) _).trans (q4.mono (by simp; omega)))
                   have t0 := keep_cell g2 q4
                   have t1 := keep_cell g3 q4
                   have t2 := keep_cell g4 q4
                   have r0 := keep_cell HR2.out.1 q4
                   have r1 := keep_cell HR2.out.2.1 q4
                   clear g2 g3 g4 q4))
              go_ret
              exact ⟨by rw [HM.out]; rfl, HB4.out⟩
            · have HM := Lib.hid hok
              clear hok
              go_enter Try.func43, Try.ntmps43
              go_wp2_with (first
                | (go_at_call 75
                   refine (HG.out _).mono ?_
                   rintro e w2 ⟨⟨r2, va, vb⟩, rfl, q1, q2, q3⟩
                   obtain ⟨ok2, jk2, oa2, ja2, e1, e2⟩ := q2.form
                   dsimp only [Option.getD] at e1 e2 q1
                   subst e1 e2 q1
                   have hs2 := q3.size
                   simp only [World.size_alloc] at hs2
                   have HB2 := Lib.hid ((HB.out _).trans (q3.mono (by simp)))
                   have g2 := Lib.cell?_alloc_some (rcB (r2, .slice ok2 r2.ks.length jk2, .slice oa2 r2.ats.length ja2)) (keep_cell T0.out q3)
                   have g3 := Lib.cell?_alloc_some (rcB (r2, .slice ok2 r2.ks.length jk2, .slice oa2 r2.ats.length ja2)) (keep_cell T1.out q3)
                   have g4 := Lib.cell?_alloc_some (rcB (r2, .slice ok2 r2.ks.length jk2, .slice oa2 r2.ats.length ja2)) (keep_cell T2.out q3)
                   have HR2 := Lib.hid (rc_blk (World.alloc_heap_new w2 (rcB (r2, .slice ok2 r2.ks.length jk2, .slice oa2 r2.ats.length ja2)))).1
                   unfold rcB at g2 g3 g4 HR2
                   dsimp only at g2 g3 g4 HR2
                   clear q2 q3
                   unfold rcV
                   dsimp only)
                | (go_at_call 45
                   refine (HRT.out _).mono ?_
                   rintro e w4 ⟨rfl, q4⟩
                   have hs4 := q4.size
                   simp only [World.size_alloc] at hs4
                   have HB4 := Lib.hid ((HB2.out.alloc (by omega) _).trans (q4.mono (by simp; omega)))
                   have t0 := keep_cell g2 q4
                   have t1 := keep_cell g3 q4
                   have t2 := keep_cell g4 q4
                   have r0 := keep_cell HR2.out.1 q4
                   have r1 := keep_cell HR2.out.2.1 q4
                   clear g2 g3 g4 q4))
              go_ret
              exact ⟨by rw [HM.out]; rfl, HB4.out⟩
        · obtain rfl := hha (by decide)
          clear hha
          rw [if_pos rfl] at hok
          have HM := Lib.hid hok
          clear hok he
          clear ha
          go_enter Try.func43, Try.ntmps43
          go_wp2_with (first
            | (go_at_call 75
               refine (HG.out _).mono ?_
               rintro e w2 ⟨⟨r2, va, vb⟩, rfl, q1, q2, q3⟩
               obtain ⟨ok2, jk2, oa2, ja2, e1, e2⟩ := q2.form
               dsimp only [Option.getD] at e1 e2 q1
               subst e1 e2 q1
               have hs2 := q3.size
               simp only [World.size_alloc] at hs2
               have HB2 := Lib.hid ((HB.out _).trans (q3.mono (by simp)))
               have g2 := Lib.cell?_alloc_some (rcB (r2, .slice ok2 r2.ks.length jk2, .slice oa2 r2.ats.length ja2)) (keep_cell T0.out q3)
               have g3 := Lib.cell?_alloc_some (rcB (r2, .slice ok2 r2.ks.length jk2, .slice oa2 r2.ats.length ja2)) (keep_cell T1.out q3)
               have g4 := Lib.cell?_alloc_some (rcB (r2, .slice ok2 r2.ks.length jk2, .slice oa2 r2.ats.length ja2)) (keep_cell T2.out q3)
               have HR2 := Lib.hid (rc_blk (World.alloc_heap_new w2 (rcB (r2, .slice ok2 r2.ks.length jk2, .slice oa2 r2.ats.length ja2)))).1
               unfold rcB at g2 g3 g4 HR2
               dsimp only at g2 g3 g4 HR2
               clear q2 q3
               unfold rcV
               dsimp only)
            | (go_at_call 45
               refine (HRT.out _).mono ?_
               rintro e w4 ⟨rfl, q4⟩
               have hs4 := q4.size
               simp only [World.size_alloc] at hs4
               have HB4 := Lib.hid ((HB2.out.alloc (by omega) _).trans (q4.mono (by simp; omega)))
               have t0 := keep_cell g2 q4
               have t1 := keep_cell g3 q4
               have t2 := keep_cell g4 q4
               have r0 := keep_cell HR2.out.1 q4
               have r1 := keep_cell HR2.out.2.1 q4
               clear g2 g3 g4 q4))
          go_ret
          exact ⟨by rw [HM.out]; rfl, HB4.out⟩
        · obtain rfl := hha (by decide)
          clear hha
          rw [if_neg (by decide), if_pos (by decide)] at hok
          cases hq : (r.kd == 4) <;> rw [hq] at hok
          · have HM := Lib.hid hok
            clear hok
            clear ha
            go_enter Try.func43, Try.ntmps43
            go_wp2_with (first
              | (go_at_call 75
                 refine (HG.out _).mono ?_
                 rintro e w2 ⟨⟨r2, va, vb⟩, rfl, q1, q2, q3⟩
                 obtain ⟨ok2, jk2, oa2, ja2, e1, e2⟩ := q2.form
                 dsimp only [Option.getD] at e1 e2 q1
                 subst e1 e2 q1
                 have hs2 := q3.size
                 simp only [World.size_alloc] at hs2
                 have HB2 := Lib.hid ((HB.out _).trans (q3.mono (by simp)))
                 have g2 := Lib.cell?_alloc_some (rcB (r2, .slice ok2 r2.ks.length jk2, .slice oa2 r2.ats.length ja2)) (keep_cell T0.out q3)
                 have g3 := Lib.cell?_alloc_some (rcB (r2, .slice ok2 r2.ks.length jk2, .slice oa2 r2.ats.length ja2)) (keep_cell T1.out q3)
                 have g4 := Lib.cell?_alloc_some (rcB (r2, .slice ok2 r2.ks.length jk2, .slice oa2 r2.ats.length ja2)) (keep_cell T2.out q3)
                 have HR2 := Lib.hid (rc_blk (World.alloc_heap_new w2 (rcB (r2, .slice ok2 r2.ks.length jk2, .slice oa2 r2.ats.length ja2)))).1
                 unfold rcB at g2 g3 g4 HR2
                 dsimp only at g2 g3 g4 HR2
                 clear q2 q3
                 unfold rcV
                 dsimp only)
              | (go_at_call 45
                 refine (HRT.out _).mono ?_
                 rintro e w4 ⟨rfl, q4⟩
                 have hs4 := q4.size
                 simp only [World.size_alloc] at hs4
                 have HB4 := Lib.hid ((HB2.out.alloc (by omega) _).trans (q4.mono (by simp; omega)))
                 have t0 := keep_cell g2 q4
                 have t1 := keep_cell g3 q4
                 have t2 := keep_cell g4 q4
                 have r0 := keep_cell HR2.out.1 q4
                 have r1 := keep_cell HR2.out.2.1 q4
                 clear g2 g3 g4 q4))
            go_ret
            exact ⟨by rw [HM.out]; rfl, HB4.out⟩
          · have HM := Lib.hid hok
            clear hok
            clear ha
            go_enter Try.func43, Try.ntmps43
            go_wp2_with (first
              | (go_at_call 75
                 refine (HG.out _).mono ?_
                 rintro e w2 ⟨⟨r2, va, vb⟩, rfl, q1, q2, q3⟩
                 obtain ⟨ok2, jk2, oa2, ja2, e1, e2⟩ := q2.form
                 dsimp only [Option.getD] at e1 e2 q1
                 subst e1 e2 q1
                 have hs2 := q3.size
                 simp only [World.size_alloc] at hs2
                 have HB2 := Lib.hid ((HB.out _).trans (q3.mono (by simp)))
                 have g2 := Lib.cell?_alloc_some (rcB (r2, .slice ok2 r2.ks.length jk2, .slice oa2 r2.ats.length ja2)) (keep_cell T0.out q3)
                 have g3 := Lib.cell?_alloc_some (rcB (r2, .slice ok2 r2.ks.length jk2, .slice oa2 r2.ats.length ja2)) (keep_cell T1.out q3)
                 have g4 := Lib.cell?_alloc_some (rcB (r2, .slice ok2 r2.ks.length jk2, .slice oa2 r2.ats.length ja2)) (keep_cell T2.out q3)
                 have HR2 := Lib.hid (rc_blk (World.alloc_heap_new w2 (rcB (r2, .slice ok2 r2.ks.length jk2, .slice oa2 r2.ats.length ja2)))).1
                 unfold rcB at g2 g3 g4 HR2
                 dsimp only at g2 g3 g4 HR2
                 clear q2 q3
                 unfold rcV
                 dsimp only)
              | (go_at_call 45
                 refine (HRT.out _).mono ?_
                 rintro e w4 ⟨rfl, q4⟩
                 have hs4 := q4.size
                 simp only [World.size_alloc] at hs4
                 have HB4 := Lib.hid ((HB2.out.alloc (by omega) _).trans (q4.mono (by simp; omega)))
                 have t0 := keep_cell g2 q4
                 have t1 := keep_cell g3 q4
                 have t2 := keep_cell g4 q4
                 have r0 := keep_cell HR2.out.1 q4
                 have r1 := keep_cell HR2.out.2.1 q4
                 clear g2 g3 g4 q4))
            go_ret
            exact ⟨by rw [HM.out]; rfl, HB4.out⟩
        · obtain rfl := hha (by decide)
          clear hha
          rw [if_neg (by decide), if_pos (by decide)] at hok
          cases hq : (r.kd == 5) <;> rw [hq] at hok
          · have HM := Lib.hid hok
            clear hok
            clear ha
            go_enter Try.func43, Try.ntmps43
            go_wp2_with (first
              | (go_at_call 75
                 refine (HG.out _).mono ?_
                 rintro e w2 ⟨⟨r2, va, vb⟩, rfl, q1, q2, q3⟩
                 obtain ⟨ok2, jk2, oa2, ja2, e1, e2⟩ := q2.form
                 dsimp only [Option.getD] at e1 e2 q1
                 subst e1 e2 q1
                 have hs2 := q3.size
                 simp only [World.size_alloc] at hs2
                 have HB2 := Lib.hid ((HB.out _).trans (q3.mono (by simp)))
                 have g2 := Lib.cell?_alloc_some (rcB (r2, .slice ok2 r2.ks.length jk2, .slice oa2 r2.ats.length ja2)) (keep_cell T0.out q3)
                 have g3 := Lib.cell?_alloc_some (rcB (r2, .slice ok2 r2.ks.length jk2, .slice oa2 r2.ats.length ja2)) (keep_cell T1.out q3)
                 have g4 := Lib.cell?_alloc_some (rcB (r2, .slice ok2 r2.ks.length jk2, .slice oa2 r2.ats.length ja2)) (keep_cell T2.out q3)
                 have HR2 := Lib.hid (rc_blk (World.alloc_heap_new w2 (rcB (r2, .slice ok2 r2.ks.length jk2, .slice oa2 r2.ats.length ja2)))).1
                 unfold rcB at g2 g3 g4 HR2
                 dsimp only at g2 g3 g4 HR2
                 clear q2 q3
                 unfold rcV
                 dsimp only)
              | (go_at_call 45
                 refine (HRT.out _).mono ?_
                 rintro e w4 ⟨rfl, q4⟩
                 have hs4 := q4.size
                 simp only [World.size_alloc] at hs4
                 have HB4 := Lib.hid ((HB2.out.alloc (by omega) _).trans (q4.mono (by simp; omega)))
                 have t0 := keep_cell g2 q4
                 have t1 := keep_cell g3 q4
                 have t2 := keep_cell g4 q4
                 have r0 := keep_cell HR2.out.1 q4
                 have r1 := keep_cell HR2.out.2.1 q4
                 clear g2 g3 g4 q4))
            go_ret
            exact ⟨by rw [HM.out]; rfl, HB4.out⟩
          · have HM := Lib.hid hok
            clear hok
            clear ha
            go_enter Try.func43, Try.ntmps43
            go_wp2_with (first
              | (go_at_call 75
                 refine (HG.out _).mono ?_
                 rintro e w2 ⟨⟨r2, va, vb⟩, rfl, q1, q2, q3⟩
                 obtain ⟨ok2, jk2, oa2, ja2, e1, e2⟩ := q2.form
                 dsimp only [Option.getD] at e1 e2 q1
                 subst e1 e2 q1
                 have hs2 := q3.size
                 simp only [World.size_alloc] at hs2
                 have HB2 := Lib.hid ((HB.out _).trans (q3.mono (by simp)))
                 have g2 := Lib.cell?_alloc_some (rcB (r2, .slice ok2 r2.ks.length jk2, .slice oa2 r2.ats.length ja2)) (keep_cell T0.out q3)
                 have g3 := Lib.cell?_alloc_some (rcB (r2, .slice ok2 r2.ks.length jk2, .slice oa2 r2.ats.length ja2)) (keep_cell T1.out q3)
                 have g4 := Lib.cell?_alloc_some (rcB (r2, .slice ok2 r2.ks.length jk2, .slice oa2 r2.ats.length ja2)) (keep_cell T2.out q3)
                 have HR2 := Lib.hid (rc_blk (World.alloc_heap_new w2 (rcB (r2, .slice ok2 r2.ks.length jk2, .slice oa2 r2.ats.length ja2)))).1
                 unfold rcB at g2 g3 g4 HR2
                 dsimp only at g2 g3 g4 HR2
                 clear q2 q3
                 unfold rcV
                 dsimp only)
              | (go_at_call 45
                 refine (HRT.out _).mono ?_
                 rintro e w4 ⟨rfl, q4⟩
                 have hs4 := q4.size
                 simp only [World.size_alloc] at hs4
                 have HB4 := Lib.hid ((HB2.out.alloc (by omega) _).trans (q4.mono (by simp; omega)))
                 have t0 := keep_cell g2 q4
                 have t1 := keep_cell g3 q4
                 have t2 := keep_cell g4 q4
                 have r0 := keep_cell HR2.out.1 q4
                 have r1 := keep_cell HR2.out.2.1 q4
                 clear g2 g3 g4 q4))
            go_ret
            exact ⟨by rw [HM.out]; rfl, HB4.out⟩
        · clear hha
          rw [if_neg (by decide), if_pos (by decide)] at hok
          cases hq : (r.kd == 6) <;> rw [hq] at hok
          · have HM := Lib.hid hok
            clear hok
            clear ha
            go_enter Try.func43, Try.ntmps43
            go_wp2_with (first
              | (go_at_call 75
                 refine (HG.out _).mono ?_
                 rintro e w2 ⟨⟨r2, va, vb⟩, rfl, q1, q2, q3⟩
                 obtain ⟨ok2, jk2, oa2, ja2, e1, e2⟩ := q2.form
                 dsimp only [Option.getD] at e1 e2 q1
                 subst e1 e2 q1
                 have hs2 := q3.size
                 simp only [World.size_alloc] at hs2
                 have HB2 := Lib.hid ((HB.out _).trans (q3.mono (by simp)))
                 have g2 := Lib.cell?_alloc_some (rcB (r2, .slice ok2 r2.ks.length jk2, .slice oa2 r2.ats.length ja2)) (keep_cell T0.out q3)
                 have g3 := Lib.cell?_alloc_some (rcB (r2, .slice ok2 r2.ks.length jk2, .slice oa2 r2.ats.length ja2)) (keep_cell T1.out q3)
                 have g4 := Lib.cell?_alloc_some (rcB (r2, .slice ok2 r2.ks.length jk2, .slice oa2 r2.ats.length ja2)) (keep_cell T2.out q3)
                 have HR2 := Lib.hid (rc_blk (World.alloc_heap_new w2 (rcB (r2, .slice ok2 r2.ks.length jk2, .slice oa2 r2.ats.length ja2)))).1
                 unfold rcB at g2 g3 g4 HR2
                 dsimp only at g2 g3 g4 HR2
                 clear q2 q3
                 unfold rcV
                 dsimp only)
              | (go_at_call 45
                 refine (HRT.out _).mono ?_
                 rintro e w4 ⟨rfl, q4⟩
                 have hs4 := q4.size
                 simp only [World.size_alloc] at hs4
                 have HB4 := Lib.hid ((HB2.out.alloc (by omega) _).trans (q4.mono (by simp; omega)))
                 have t0 := keep_cell g2 q4
                 have t1 := keep_cell g3 q4
                 have t2 := keep_cell g4 q4
                 have r0 := keep_cell HR2.out.1 q4
                 have r1 := keep_cell HR2.out.2.1 q4
                 clear g2 g3 g4 q4))
            go_ret
            exact ⟨by rw [HM.out]; rfl, HB4.out⟩
          · have HM := Lib.hid hok
            clear hok
            cases hs <;> cases E
            · skip
              clear ha
              go_enter Try.func43, Try.ntmps43
              go_wp2_with (first
                | (go_at_call 75
                   refine (HG.out _).mono ?_
                   rintro e w2 ⟨⟨r2, va, vb⟩, rfl, q1, q2, q3⟩
                   obtain ⟨ok2, jk2, oa2, ja2, e1, e2⟩ := q2.form
                   dsimp only [Option.getD] at e1 e2 q1
                   subst e1 e2 q1
                   have hs2 := q3.size
                   simp only [World.size_alloc] at hs2
                   have HB2 := Lib.hid ((HB.out _).trans (q3.mono (by simp)))
                   have g2 := Lib.cell?_alloc_some (rcB (r2, .slice ok2 r2.ks.length jk2, .slice oa2 r2.ats.length ja2)) (keep_cell T0.out q3)
                   have g3 := Lib.cell?_alloc_some (rcB (r2, .slice ok2 r2.ks.length jk2, .slice oa2 r2.ats.length ja2)) (keep_cell T1.out q3)
                   have g4 := Lib.cell?_alloc_some (rcB (r2, .slice ok2 r2.ks.length jk2, .slice oa2 r2.ats.length ja2)) (keep_cell T2.out q3)
                   have HR2 := Lib.hid (rc_blk (World.alloc_heap_new w2 (rcB (r2, .slice ok2 r2.ks.length jk2, .slice oa2 r2.ats.length ja2)))).1
                   unfold rcB at g2 g3 g4 HR2
                   dsimp only at g2 g3 g4 HR2
                   clear q2 q3
                   unfold rcV
                   dsimp only)
                | (go_at_call 45
                   refine (HRT.out _).mono ?_
                   rintro e w4 ⟨rfl, q4⟩
                   have hs4 := q4.size
                   simp only [World.size_alloc] at hs4
                   have HB4 := Lib.hid ((HB2.out.alloc (by omega) _).trans (q4.mono (by simp; omega)))
                   have t0 := keep_cell g2 q4
                   have t1 := keep_cell g3 q4
                   have t2 := keep_cell g4 q4
                   have r0 := keep_cell HR2.out.1 q4
                   have r1 := keep_cell HR2.out.2.1 q4
                   clear g2 g3 g4 q4))
              go_ret
              exact ⟨by rw [HM.out]; rfl, HB4.out⟩
            · skip
              clear ha
              go_enter Try.func43, Try.ntmps43
              go_wp2_with (first
                | (go_at_call 75
                   refine (HG.out _).mono ?_
                   rintro e w2 ⟨⟨r2, va, vb⟩, rfl, q1, q2, q3⟩
                   obtain ⟨ok2, jk2, oa2, ja2, e1, e2⟩ := q2.form
                   dsimp only [Option.getD] at e1 e2 q1
                   subst e1 e2 q1
                   have hs2 := q3.size
                   simp only [World.size_alloc] at hs2
                   have HB2 := Lib.hid ((HB.out _).trans (q3.mono (by simp)))
                   have g2 := Lib.cell?_alloc_some (rcB (r2, .slice ok2 r2.ks.length jk2, .slice oa2 r2.ats.length ja2)) (keep_cell T0.out q3)
                   have g3 := Lib.cell?_alloc_some (rcB (r2, .slice ok2 r2.ks.length jk2, .slice oa2 r2.ats.length ja2)) (keep_cell T1.out q3)
                   have g4 := Lib.cell?_alloc_some (rcB (r2, .slice ok2 r2.ks.length jk2, .slice oa2 r2.ats.length ja2)) (keep_cell T2.out q3)
                   have HR2 := Lib.hid (rc_blk (World.alloc_heap_new w2 (rcB (r2, .slice ok2 r2.ks.length jk2, .slice oa2 r2.ats.length ja2)))).1
                   unfold rcB at g2 g3 g4 HR2
                   dsimp only at g2 g3 g4 HR2
                   clear q2 q3
                   unfold rcV
                   dsimp only)
                | (go_at_call 45
                   refine (HRT.out _).mono ?_
                   rintro e w4 ⟨rfl, q4⟩
                   have hs4 := q4.size
                   simp only [World.size_alloc] at hs4
                   have HB4 := Lib.hid ((HB2.out.alloc (by omega) _).trans (q4.mono (by simp; omega)))
                   have t0 := keep_cell g2 q4
                   have t1 := keep_cell g3 q4
                   have t2 := keep_cell g4 q4
                   have r0 := keep_cell HR2.out.1 q4
                   have r1 := keep_cell HR2.out.2.1 q4
                   clear g2 g3 g4 q4))
              go_ret
              exact ⟨by rw [HM.out]; rfl, HB4.out⟩
            · skip
              clear ha
              go_enter Try.func43, Try.ntmps43
              go_wp2_with (first
                | (go_at_call 75
                   refine (HG.out _).mono ?_
                   rintro e w2 ⟨⟨r2, va, vb⟩, rfl, q1, q2, q3⟩
                   obtain ⟨ok2, jk2, oa2, ja2, e1, e2⟩ := q2.form
                   dsimp only [Option.getD] at e1 e2 q1
                   subst e1 e2 q1
                   have hs2 := q3.size
                   simp only [World.size_alloc] at hs2
                   have HB2 := Lib.hid ((HB.out _).trans (q3.mono (by simp)))
                   have g2 := Lib.cell?_alloc_some (rcB (r2, .slice ok2 r2.ks.length jk2, .slice oa2 r2.ats.length ja2)) (keep_cell T0.out q3)
                   have g3 := Lib.cell?_alloc_some (rcB (r2, .slice ok2 r2.ks.length jk2, .slice oa2 r2.ats.length ja2)) (keep_cell T1.out q3)
                   have g4 := Lib.cell?_alloc_some (rcB (r2, .slice ok2 r2.ks.length jk2, .slice oa2 r2.ats.length ja2)) (keep_cell T2.out q3)
                   have HR2 := Lib.hid (rc_blk (World.alloc_heap_new w2 (rcB (r2, .slice ok2 r2.ks.length jk2, .slice oa2 r2.ats.length ja2)))).1
                   unfold rcB at g2 g3 g4 HR2
                   dsimp only at g2 g3 g4 HR2
                   clear q2 q3
                   unfold rcV
                   dsimp only)
                | (go_at_call 45
                   refine (HRT.out _).mono ?_
                   rintro e w4 ⟨rfl, q4⟩
                   have hs4 := q4.size
                   simp only [World.size_alloc] at hs4
                   have HB4 := Lib.hid ((HB2.out.alloc (by omega) _).trans (q4.mono (by simp; omega)))
                   have t0 := keep_cell g2 q4
                   have t1 := keep_cell g3 q4
                   have t2 := keep_cell g4 q4
                   have r0 := keep_cell HR2.out.1 q4
                   have r1 := keep_cell HR2.out.2.1 q4
                   clear g2 g3 g4 q4))
              go_ret
              exact ⟨by rw [HM.out]; rfl, HB4.out⟩
            · skip
              clear ha
              go_enter Try.func43, Try.ntmps43
              go_wp2_with (first
                | (go_at_call 75
                   refine (HG.out _).mono ?_
                   rintro e w2 ⟨⟨r2, va, vb⟩, rfl, q1, q2, q3⟩
                   obtain ⟨ok2, jk2, oa2, ja2, e1, e2⟩ := q2.form
                   dsimp only [Option.getD] at e1 e2 q1
                   subst e1 e2 q1
                   have hs2 := q3.size
                   simp only [World.size_alloc] at hs2
                   have HB2 := Lib.hid ((HB.out _).trans (q3.mono (by simp)))
                   have g2 := Lib.cell?_alloc_some (rcB (r2, .slice ok2 r2.ks.length jk2, .slice oa2 r2.ats.length ja2)) (keep_cell T0.out q3)
                   have g3 := Lib.cell?_alloc_some (rcB (r2, .slice ok2 r2.ks.length jk2, .slice oa2 r2.ats.length ja2)) (keep_cell T1.out q3)
                   have g4 := Lib.cell?_alloc_some (rcB (r2, .slice ok2 r2.ks.length jk2, .slice oa2 r2.ats.length ja2)) (keep_cell T2.out q3)
                   have HR2 := Lib.hid (rc_blk (World.alloc_heap_new w2 (rcB (r2, .slice ok2 r2.ks.length jk2, .slice oa2 r2.ats.length ja2)))).1
                   unfold rcB at g2 g3 g4 HR2
                   dsimp only at g2 g3 g4 HR2
                   clear q2 q3
                   unfold rcV
                   dsimp only)
                | (go_at_call 45
                   refine (HRT.out _).mono ?_
                   rintro e w4 ⟨rfl, q4⟩
                   have hs4 := q4.size
                   simp only [World.size_alloc] at hs4
                   have HB4 := Lib.hid ((HB2.out.alloc (by omega) _).trans (q4.mono (by simp; omega)))
                   have t0 := keep_cell g2 q4
                   have t1 := keep_cell g3 q4
                   have t2 := keep_cell g4 q4
                   have r0 := keep_cell HR2.out.1 q4
                   have r1 := keep_cell HR2.out.2.1 q4
                   clear g2 g3 g4 q4))
              go_ret
              exact ⟨by rw [HM.out]; rfl, HB4.out⟩
      · have HF := Lib.hid (matchT_no (a := a) (k := k) (nm := nm) (hs := hs) (r := r) (show (rightT k nm hs && decide (1 ≤ a ∧ a ≤ 12)) = false by rw [decide_eq_false ha, Bool.and_false]))
        clear hrt
        by_cases h1 : a < 1
        · have a1 : decide (a < 1) = true := decide_eq_true h1
          clear h1 ha
          go_enter Try.func43, Try.ntmps43
          go_wp2_with (first
            | (go_at_call 75
               refine (HG.out _).mono ?_
               rintro e w2 ⟨⟨r2, va, vb⟩, rfl, q1, q2, q3⟩
               obtain ⟨ok2, jk2, oa2, ja2, e1, e2⟩ := q2.form
               dsimp only [Option.getD] at e1 e2 q1
               subst e1 e2 q1
               have hs2 := q3.size
               simp only [World.size_alloc] at hs2
               have HB2 := Lib.hid ((HB.out _).trans (q3.mono (by simp)))
               have g2 := Lib.cell?_alloc_some (rcB (r2, .slice ok2 r2.ks.length jk2, .slice oa2 r2.ats.length ja2)) (keep_cell T0.out q3)
               have g3 := Lib.cell?_alloc_some (rcB (r2, .slice ok2 r2.ks.length jk2, .slice oa2 r2.ats.length ja2)) (keep_cell T1.out q3)
               have g4 := Lib.cell?_alloc_some (rcB (r2, .slice ok2 r2.ks.length jk2, .slice oa2 r2.ats.length ja2)) (keep_cell T2.out q3)
               have HR2 := Lib.hid (rc_blk (World.alloc_heap_new w2 (rcB (r2, .slice ok2 r2.ks.length jk2, .slice oa2 r2.ats.length ja2)))).1
               unfold rcB at g2 g3 g4 HR2
               dsimp only at g2 g3 g4 HR2
               clear q2 q3
               unfold rcV
               dsimp only)
            | (go_at_call 45
               refine (HRT.out _).mono ?_
               rintro e w4 ⟨rfl, q4⟩
               have hs4 := q4.size
               simp only [World.size_alloc] at hs4
               have HB4 := Lib.hid ((HB2.out.alloc (by omega) _).trans (q4.mono (by simp; omega)))
               have t0 := keep_cell g2 q4
               have t1 := keep_cell g3 q4
               have t2 := keep_cell g4 q4
               have r0 := keep_cell HR2.out.1 q4
               have r1 := keep_cell HR2.out.2.1 q4
               clear g2 g3 g4 q4))
          go_ret
          exact ⟨by rw [HF.out]; rfl, HB4.out⟩
        · have a1 : decide (a < 1) = false := decide_eq_false h1
          have a2 : decide (12 < a) = true := decide_eq_true (by omega)
          clear h1 ha
          go_enter Try.func43, Try.ntmps43
          go_wp2_with (first
            | (go_at_call 75
               refine (HG.out _).mono ?_
               rintro e w2 ⟨⟨r2, va, vb⟩, rfl, q1, q2, q3⟩
               obtain ⟨ok2, jk2, oa2, ja2, e1, e2⟩ := q2.form
               dsimp only [Option.getD] at e1 e2 q1
               subst e1 e2 q1
               have hs2 := q3.size
               simp only [World.size_alloc] at hs2
               have HB2 := Lib.hid ((HB.out _).trans (q3.mono (by simp)))
               have g2 := Lib.cell?_alloc_some (rcB (r2, .slice ok2 r2.ks.length jk2, .slice oa2 r2.ats.length ja2)) (keep_cell T0.out q3)
               have g3 := Lib.cell?_alloc_some (rcB (r2, .slice ok2 r2.ks.length jk2, .slice oa2 r2.ats.length ja2)) (keep_cell T1.out q3)
               have g4 := Lib.cell?_alloc_some (rcB (r2, .slice ok2 r2.ks.length jk2, .slice oa2 r2.ats.length ja2)) (keep_cell T2.out q3)
               have HR2 := Lib.hid (rc_blk (World.alloc_heap_new w2 (rcB (r2, .slice ok2 r2.ks.length jk2, .slice oa2 r2.ats.length ja2)))).1
               unfold rcB at g2 g3 g4 HR2
               dsimp only at g2 g3 g4 HR2
               clear q2 q3
               unfold rcV
               dsimp only)
            | (go_at_call 45
               refine (HRT.out _).mono ?_
               rintro e w4 ⟨rfl, q4⟩
               have hs4 := q4.size
               simp only [World.size_alloc] at hs4
               have HB4 := Lib.hid ((HB2.out.alloc (by omega) _).trans (q4.mono (by simp; omega)))
               have t0 := keep_cell g2 q4
               have t1 := keep_cell g3 q4
               have t2 := keep_cell g4 q4
               have r0 := keep_cell HR2.out.1 q4
               have r1 := keep_cell HR2.out.2.1 q4
               clear g2 g3 g4 q4))
          go_ret
          exact ⟨by rw [HF.out]; rfl, HB4.out⟩
end
end Go.Proofs.Ytbbfcjaggdpfbaa.Char
