/- The walk of the program's Match. -/
import Derived.Test.YtkackejipgabfaaPk16
import Derived.Test.YtkackejipgabfaaPk11
import Derived.Test.YtkackejipgabfaaPk12
namespace Go.Proofs.Ytkackejipgabfaa.Char
open Go.RowKit Go.Lib

/-- whether a node, of which R is told, passes a test -/
def matchT (a k : Int) (nm : List UInt8) (hs : Bool) (R : Option Rc) : Bool := match R with
  | none => false
  | some r => if rightT k nm hs && decide (1 ≤ a ∧ a ≤ 12) then
      if k = 3 then true else if 3 < k then (r.kd == k) && (!hs || decide (r.nm = nm)) else (r.kd == (if a = 9 then 3 else 2)) && (k == 2 || decide (r.nm = nm))
    else false
theorem matchT_no {a k : Int} {nm : List UInt8} {hs : Bool} {r : Rc} (h : (rightT k nm hs && decide (1 ≤ a ∧ a ≤ 12)) = false) : matchT a k nm hs (some r) = false := by
  unfold matchT
  rw [h]
  rfl
theorem matchT_ok {a k : Int} {nm : List UInt8} {hs : Bool} {r : Rc} (h : (rightT k nm hs && decide (1 ≤ a ∧ a ≤ 12)) = true) : matchT a k nm hs (some r) = if k = 3 then true else if 3 < k then (r.kd == k) && (!hs || decide (r.nm = nm)) else (r.kd == (if a = 9 then 3 else 2)) && (k == 2 || decide (r.nm = nm)) := by
  show (if (rightT k nm hs && decide (1 ≤ a ∧ a ≤ 12)) = true then _ else _) = _
  rw [if_pos h]
theorem nmX_ne {a : Int} (h0 : 1 ≤ a) (h1 : a ≤ 12) : (nmX a).isEmpty = false := by
  have h : a = 1 ∨ a = 2 ∨ a = 3 ∨ a = 4 ∨ a = 5 ∨ a = 6 ∨ a = 7 ∨ a = 8 ∨ a = 9 ∨ a = 10 ∨ a = 11 ∨ a = 12 := by omega
  rcases h with rfl | rfl | rfl | rfl | rfl | rfl | rfl | rfl | rfl | rfl | rfl | rfl <;> rfl
theorem rightT_kind {k : Int} {nm : List UInt8} {hs : Bool} (h : rightT k nm hs = true) : k = 1 ∨ k = 2 ∨ k = 3 ∨ k = 4 ∨ k = 5 ∨ k = 6 := by
  unfold rightT at h
  by_cases h1 : k = 1
  · exact .inl h1
  · by_cases h6 : k = 6
    · omega
    · rw [if_neg h1, if_neg h6] at h
      by_cases h25 : 2 ≤ k ∧ k ≤ 5
      · omega
      · rw [if_neg h25] at h; cases h
theorem rightT_has {k : Int} {nm : List UInt8} {hs : Bool} (h : rightT k nm hs = true) (h6 : k ≠ 6) : hs = false := by
  unfold rightT at h
  rw [if_neg h6] at h
  cases hs with
  | false => rfl
  | true =>
    by_cases h1 : k = 1
    · rw [if_pos h1, Bool.not_true, Bool.and_false] at h; cases h
    · rw [if_neg h1] at h
      by_cases h25 : 2 ≤ k ∧ k ≤ 5
      · rw [if_pos h25, Bool.not_true, Bool.and_false] at h; cases h
      · rw [if_neg h25] at h; cases h
section
variable {Z : Nat → Prop} {w : World} {vp : Option Addr} {look : Int → Option Rc}
set_option maxRecDepth 100000 in
set_option maxHeartbeats 16000000 in
theorem match_any (h : VH Z w vp look) (a k : Int) (nm : List UInt8) (hs : Bool) (id : Int) (hid : (Lit.int .i64 id).wf = true) :
    Calls Try.prog 66 #[.pointer vp, .int .i64 a, teV k nm hs, .int .i64 id] w fun e w' => e = .returned (.bool (matchT a k nm hs (look id))) ∧ Below w.heap.size w w' := by
  have hG := fun ob => getV_gen (h.one ob) id hid
  have HB := Lib.hid fun ob => (Below.refl _ w).alloc (Nat.le_refl _) ob
  obtain ⟨R, hR⟩ : ∃ R, look id = R := ⟨_, rfl⟩
  rw [hR] at hG ⊢
  have T0 : Hid ((w.alloc (.cells #[.int .i64 k, .string (bs nm), .bool hs] 140)).cell? ⟨w.heap.size, 0, none⟩ = some (.int .i64 k)) := Lib.hid (by rw [World.cell?_alloc_new]; rfl)
  have T1 : Hid ((w.alloc (.cells #[.int .i64 k, .string (bs nm), .bool hs] 140)).cell? ⟨w.heap.size, 1, none⟩ = some (.string (bs nm))) := Lib.hid (by rw [World.cell?_alloc_new]; rfl)
  have T2 : Hid ((w.alloc (.cells #[.int .i64 k, .string (bs nm), .bool hs] 140)).cell? ⟨w.heap.size, 2, none⟩ = some (.bool hs)) := Lib.hid (by rw [World.cell?_alloc_new]; rfl)
  have HRT := Lib.hid fun W => rightT_any k nm hs W
  have HN := Lib.hid fun W => nameX_any a W
  have HG := Lib.hid hG
  clear h hG hR hid
  unfold teV at *
  cases R with
  | none =>
    clear T0 T1 T2 HRT HN
    go_enter Try.func66, Try.ntmps66
    go_wp2_with (first
      | (go_at_call 27
         refine (HG.out _).mono ?_
         rintro e w2 ⟨⟨r2, va, vb⟩, rfl, q1, q2, q3⟩
         obtain ⟨ok2, jk2, oa2, ja2, e1, e2⟩ := q2.form
         dsimp only [Option.getD] at e1 e2 q1
         subst e1 e2 q1
         have hs2 := q3.size
         simp only [World.size_alloc] at hs2
         have HB2 := Lib.hid ((HB.out _).trans (q3.mono (by simp)))
         clear q2 q3
         unfold rcV
         dsimp only))
    go_ret
    exact ⟨rfl, HB2.out.alloc (by have := HB2.out.size; omega) _⟩
  | some r =>
    cases hrt : rightT k nm hs with
    | false =>
      rw [hrt] at HRT
      have HF := Lib.hid (matchT_no (a := a) (r := r) (show (rightT k nm hs && decide (1 ≤ a ∧ a ≤ 12)) = false by rw [hrt]; rfl))
      clear hrt HN
      go_enter Try.func66, Try.ntmps66
      go_wp2_with (first
        | (go_at_call 27
           refine (HG.out _).mono ?_
           rintro e w2 ⟨⟨r2, va, vb⟩, rfl, q1, q2, q3⟩
           obtain ⟨ok2, jk2, oa2, ja2, e1, e2⟩ := q2.form
           dsimp only [Option.getD] at e1 e2 q1
           subst e1 e2 q1
           have hs2 := q3.size
           simp only [World.size_alloc] at hs2
           have HB2 := Lib.hid ((HB.out _).trans (q3.mono (by simp)))
           have g2 := Lib.cell?_alloc_some (rcB (r2, .slice ok2 r2.ks.length jk2, .slice oa2 r2.ats.length ja2)) (keep_cell T0.out q3)
           have g3 := Lib.cell?_alloc_some (rcB (r2, .slice ok2 r2.ks.length jk2, .slice oa2 r2.ats.length ja2)) (keep_cell T1.out q3)
           have g4 := Lib.cell?_alloc_some (rcB (r2, .slice ok2 r2.ks.length jk2, .slice oa2 r2.ats.length ja2)) (keep_cell T2.out q3)
           have HR2 := Lib.hid (rc_blk (World.alloc_heap_new w2 (rcB (r2, .slice ok2 r2.ks.length jk2, .slice oa2 r2.ats.length ja2)))).1
           unfold rcB at g2 g3 g4 HR2
           dsimp only at g2 g3 g4 HR2
           clear q2 q3
           unfold rcV
           dsimp only)
        | (go_at_call 93
           refine (HRT.out _).mono ?_
           rintro e w4 ⟨rfl, q4⟩
           have hs4 := q4.size
           simp only [World.size_alloc] at hs4
           have HB4 := Lib.hid ((HB2.out.alloc (by omega) _).trans (q4.mono (by simp; omega)))
           have t0 := keep_cell g2 q4
           have t1 := keep_cell g3 q4
           have t2 := keep_cell g4 q4
           have r0 := keep_cell HR2.out.1 q4
           have r1 := keep_cell HR2.out.2.1 q4
           clear g2 g3 g4 q4))
      go_ret
      exact ⟨by rw [HF.out]; rfl, HB4.out⟩
    | true =>
      rw [hrt] at HRT
      by_cases ha : 1 ≤ a ∧ a ≤ 12
      · have hok := matchT_ok (a := a) (r := r) (show (rightT k nm hs && decide (1 ≤ a ∧ a ≤ 12)) = true by rw [hrt, decide_eq_true ha]; rfl)
        have hx := bs_emp _ _ (nmX_ne ha.1 ha.2)
        generalize nmX a = X at *
        have hkk := rightT_kind hrt
        have hha := rightT_has hrt
        obtain ⟨M, hM⟩ : ∃ M, matchT a k nm hs (some r) = M := ⟨_, rfl⟩
        rw [hM] at hok ⊢
        clear hrt hM
        obtain ⟨E, hE⟩ : ∃ E, decide (r.nm = nm) = E := ⟨_, rfl⟩
        rw [hE] at hok
        have he := bs_eqv _ _ _ hE
        clear hE
        rcases hkk with rfl | rfl | rfl | rfl | rfl | rfl
        · obtain rfl := hha (by decide)
          clear hha
          rw [if_neg (by decide), if_neg (by decide)] at hok
          by_cases a9 : a = 9
          · subst a9
            rw [if_pos rfl] at hok
            cases hq : (r.kd == 3) <;> rw [hq] at hok
            · have HM := Lib.hid hok
              clear hok
              go_enter Try.func66, Try.ntmps66
              go_wp2_with (first
                | (go_at_call 27
                   refine (HG.out _).mono ?_
                   rintro e w2 ⟨⟨r2, va, vb⟩, rfl, q1, q2, q3⟩
                   obtain ⟨ok2, jk2, oa2, ja2, e1, e2⟩ := q2.form
                   dsimp only [Option.getD] at e1 e2 q1
                   subst e1 e2 q1
                   have hs2 := q3.size
                   simp only [World.size_alloc] at hs2
                   have HB2 := Lib.hid ((HB.out _).trans (q3.mono (by simp)))
                   have g2 := Lib.cell?_alloc_some (rcB (r2, .slice ok2 r2.ks.length jk2, .slice oa2 r2.ats.length ja2)) (keep_cell T0.out q3)
                   have g3 := Lib.cell?_alloc_some (rcB (r2, .slice ok2 r2.ks.length jk2, .slice oa2 r2.ats.length ja2)) (keep_cell T1.out q3)
                   have g4 := Lib.cell?_alloc_some (rcB (r2, .slice ok2 r2.ks.length jk2, .slice oa2 r2.ats.length ja2)) (keep_cell T2.out q3)
                   have HR2 := Lib.hid (rc_blk (World.alloc_heap_new w2 (rcB (r2, .slice ok2 r2.ks.length jk2, .slice oa2 r2.ats.length ja2)))).1
                   unfold rcB at g2 g3 g4 HR2
                   dsimp only at g2 g3 g4 HR2
                   clear q2 q3
                   unfold rcV
                   dsimp only)
                | (go_at_call 93
                   refine (HRT.out _).mono ?_
                   rintro e w4 ⟨rfl, q4⟩
                   have hs4 := q4.size
                   simp only [World.size_alloc] at hs4
                   have HB4 := Lib.hid ((HB2.out.alloc (by omega) _).trans (q4.mono (by simp; omega)))
                   have t0 := keep_cell g2 q4
                   have t1 := keep_cell g3 q4
                   have t2 := keep_cell g4 q4
                   have r0 := keep_cell HR2.out.1 q4
                   have r1 := keep_cell HR2.out.2.1 q4
                   clear g2 g3 g4 q4)
                | (go_at_call 65
                   refine (HN.out _).mono ?_
                   rintro e w5 ⟨rfl, q5⟩
                   have HB5 := Lib.hid (HB4.out.trans (q5.mono HB4.out.size))
                   have s0 := keep_cell t0 q5
                   have s1 := keep_cell t1 q5
                   have s2 := keep_cell t2 q5
                   have p0 := keep_cell r0 q5
                   have p1 := keep_cell r1 q5
                   clear t0 t1 t2 r0 r1 q5))
              go_ret
              exact ⟨by rw [HM.out]; rfl, HB5.out⟩
            · have HM := Lib.hid hok
              clear hok
              cases E
              · skip
                go_enter Try.func66, Try.ntmps66
                go_wp2_with (first
                  | (go_at_call 27
                     refine (HG.out _).mono ?_
                     rintro e w2 ⟨⟨r2, va, vb⟩, rfl, q1, q2, q3⟩
                     obtain ⟨ok2, jk2, oa2, ja2, e1, e2⟩ := q2.form
                     dsimp only [Option.getD] at e1 e2 q1
                     subst e1 e2 q1
                     have hs2 := q3.size
                     simp only [World.size_alloc] at hs2
                     have HB2 := Lib.hid ((HB.out _).trans (q3.mono (by simp)))
                     have g2 := Lib.cell?_alloc_some (rcB (r2, .slice ok2 r2.ks.length jk2, .slice oa2 r2.ats.length ja2)) (keep_cell T0.out q3)
                     have g3 := Lib.cell?_alloc_some (rcB (r2, .slice ok2 r2.ks.length jk2, .slice oa2 r2.ats.length ja2)) (keep_cell T1.out q3)
                     have g4 := Lib.cell?_alloc_some (rcB (r2, .slice ok2 r2.ks.length jk2, .slice oa2 r2.ats.length ja2)) (keep_cell T2.out q3)
                     have HR2 := Lib.hid (rc_blk (World.alloc_heap_new w2 (rcB (r2, .slice ok2 r2.ks.length jk2, .slice oa2 r2.ats.length ja2)))).1
                     unfold rcB at g2 g3 g4 HR2
                     dsimp only at g2 g3 g4 HR2
                     clear q2 q3
                     unfold rcV
                     dsimp only)
                  | (go_at_call 93
                     refine (HRT.out _).mono ?_
                     rintro e w4 ⟨rfl, q4⟩
                     have hs4 := q4.size
                     simp only [World.size_alloc] at hs4
                     have HB4 := Lib.hid ((HB2.out.alloc (by omega) _).trans (q4.mono (by simp; omega)))
                     have t0 := keep_cell g2 q4
                     have t1 := keep_cell g3 q4
                     have t2 := keep_cell g4 q4
                     have r0 := keep_cell HR2.out.1 q4
                     have r1 := keep_cell HR2.out.2.1 q4
                     clear g2 g3 g4 q4)
                  | (go_at_call 65
                     refine (HN.out _).mono ?_
                     rintro e w5 ⟨rfl, q5⟩
                     have HB5 := Lib.hid (HB4.out.trans (q5.mono HB4.out.size))
                     have s0 := keep_cell t0 q5
                     have s1 := keep_cell t1 q5
                     have s2 := keep_cell t2 q5
                     have p0 := keep_cell r0 q5
                     have p1 := keep_cell r1 q5
                     clear t0 t1 t2 r0 r1 q5))
                go_ret
                exact ⟨by rw [HM.out]; rfl, HB5.out⟩
              · skip
                go_enter Try.func66, Try.ntmps66
                go_wp2_with (first
                  | (go_at_call 27
                     refine (HG.out _).mono ?_
                     rintro e w2 ⟨⟨r2, va, vb⟩, rfl, q1, q2, q3⟩
                     obtain ⟨ok2, jk2, oa2, ja2, e1, e2⟩ := q2.form
                     dsimp only [Option.getD] at e1 e2 q1
                     subst e1 e2 q1
                     have hs2 := q3.size
                     simp only [World.size_alloc] at hs2
                     have HB2 := Lib.hid ((HB.out _).trans (q3.mono (by simp)))
                     have g2 := Lib.cell?_alloc_some (rcB (r2, .slice ok2 r2.ks.length jk2, .slice oa2 r2.ats.length ja2)) (keep_cell T0.out q3)
                     have g3 := Lib.cell?_alloc_some (rcB (r2, .slice ok2 r2.ks.length jk2, .slice oa2 r2.ats.length ja2)) (keep_cell T1.out q3)
                     have g4 := Lib.cell?_alloc_some (rcB (r2, .slice ok2 r2.ks.length jk2, .slice oa2 r2.ats.length ja2)) (keep_cell T2.out q3)
                     have HR2 := Lib.hid (rc_blk (World.alloc_heap_new w2 (rcB (r2, .slice ok2 r2.ks.length jk2, .slice oa2 r2.ats.length ja2)))).1
                     unfold rcB at g2 g3 g4 HR2
                     dsimp only at g2 g3 g4 HR2
                     clear q2 q3
                     unfold rcV
                     dsimp only)
                  | (go_at_call 93
                     refine (HRT.out _).mono ?_
                     rintro e w4 ⟨rfl, q4⟩
                     have hs4 := q4.size
                     simp only [World.size_alloc] at hs4
                     have HB4 := Lib.hid ((HB2.out.alloc (by omega) _).trans (q4.mono (by simp; omega)))
                     have t0 := keep_cell g2 q4
                     have t1 := keep_cell g3 q4
                     have t2 := keep_cell g4 q4
                     have r0 := keep_cell HR2.out.1 q4
                     have r1 := keep_cell HR2.out.2.1 q4
                     clear g2 g3 g4 q4)
                  | (go_at_call 65
                     refine (HN.out _).mono ?_
                     rintro e w5 ⟨rfl, q5⟩
                     have HB5 := Lib.hid (HB4.out.trans (q5.mono HB4.out.size))
                     have s0 := keep_cell t0 q5
                     have s1 := keep_cell t1 q5
                     have s2 := keep_cell t2 q5
                     have p0 := keep_cell r0 q5
                     have p1 := keep_cell r1 q5
                     clear t0 t1 t2 r0 r1 q5))
                go_ret
                exact ⟨by rw [HM.out]; rfl, HB5.out⟩
          · have b9 : (a == 9) = false := beq_eq_false_iff_ne.2 a9
            rw [if_neg a9] at hok
            clear a9 ha
            cases hq : (r.kd == 2) <;> rw [hq] at hok
            · have HM := Lib.hid hok
              clear hok
              go_enter Try.func66, Try.ntmps66
              go_wp2_with (first
                | (go_at_call 27
                   refine (HG.out _).mono ?_
                   rintro e w2 ⟨⟨r2, va, vb⟩, rfl, q1, q2, q3⟩
                   obtain ⟨ok2, jk2, oa2, ja2, e1, e2⟩ := q2.form
                   dsimp only [Option.getD] at e1 e2 q1
                   subst e1 e2 q1
                   have hs2 := q3.size
                   simp only [World.size_alloc] at hs2
                   have HB2 := Lib.hid ((HB.out _).trans (q3.mono (by simp)))
                   have g2 := Lib.cell?_alloc_some (rcB (r2, .slice ok2 r2.ks.length jk2, .slice oa2 r2.ats.length ja2)) (keep_cell T0.out q3)
                   have g3 := Lib.cell?_alloc_some (rcB (r2, .slice ok2 r2.ks.length jk2, .slice oa2 r2.ats.length ja2)) (keep_cell T1.out q3)
                   have g4 := Lib.cell?_alloc_some (rcB (r2, .slice ok2 r2.ks.length jk2, .slice oa2 r2.ats.length ja2)) (keep_cell T2.out q3)
                   have HR2 := Lib.hid (rc_blk (World.alloc_heap_new w2 (rcB (r2, .slice ok2 r2.ks.length jk2, .slice oa2 r2.ats.length ja2)))).1
                   unfold rcB at g2 g3 g4 HR2
                   dsimp only at g2 g3 g4 HR2
                   clear q2 q3
                   unfold rcV
                   dsimp only)
                | (go_at_call 93
                   refine (HRT.out _).mono ?_
                   rintro e w4 ⟨rfl, q4⟩
                   have hs4 := q4.size
                   simp only [World.size_alloc] at hs4
                   have HB4 := Lib.hid ((HB2.out.alloc (by omega) _).trans (q4.mono (by simp; omega)))
                   have t0 := keep_cell g2 q4
                   have t1 := keep_cell g3 q4
                   have t2 := keep_cell g4 q4
                   have r0 := keep_cell HR2.out.1 q4
                   have r1 := keep_cell HR2.out.2.1 q4
                   clear g2 g3 g4 q4)
                | (go_at_call 65
                   refine (HN.out _).mono ?_
                   rintro e w5 ⟨rfl, q5⟩
                   have HB5 := Lib.hid (HB4.out.trans (q5.mono HB4.out.size))
                   have s0 := keep_cell t0 q5
                   have s1 := keep_cell t1 q5
                   have s2 := keep_cell t2 q5
                   have p0 := keep_cell r0 q5
                   have p1 := keep_cell r1 q5
                   clear t0 t1 t2 r0 r1 q5))
              go_ret
              exact ⟨by rw [HM.out]; rfl, HB5.out⟩
            · have HM := Lib.hid hok
              clear hok
              cases E
              · skip
                go_enter Try.func66, Try.ntmps66
                go_wp2_with (first
                  | (go_at_call 27
                     refine (HG.out _).mono ?_
                     rintro e w2 ⟨⟨r2, va, vb⟩, rfl, q1, q2, q3⟩
                     obtain ⟨ok2, jk2, oa2, ja2, e1, e2⟩ := q2.form
                     dsimp only [Option.getD] at e1 e2 q1
                     subst e1 e2 q1
                     have hs2 := q3.size
                     simp only [World.size_alloc] at hs2
                     have HB2 := Lib.hid ((HB.out _).trans (q3.mono (by simp)))
                     have g2 := Lib.cell?_alloc_some (rcB (r2, .slice ok2 r2.ks.length jk2, .slice oa2 r2.ats.length ja2)) (keep_cell T0.out q3)
                     have g3 := Lib.cell?_alloc_some (rcB (r2, .slice ok2 r2.ks.length jk2, .slice oa2 r2.ats.length ja2)) (keep_cell T1.out q3)
                     have g4 := Lib.cell?_alloc_some (rcB (r2, .slice ok2 r2.ks.length jk2, .slice oa2 r2.ats.length ja2)) (keep_cell T2.out q3)
                     have HR2 := Lib.hid (rc_blk (World.alloc_heap_new w2 (rcB (r2, .slice ok2 r2.ks.length jk2, .slice oa2 r2.ats.length ja2)))).1
                     unfold rcB at g2 g3 g4 HR2
                     dsimp only at g2 g3 g4 HR2
                     clear q2 q3
                     unfold rcV
                     dsimp only)
                  | (go_at_call 93
                     refine (HRT.out _).mono ?_
                     rintro e w4 ⟨rfl, q4⟩
                     have hs4 := q4.size
                     simp only [World.size_alloc] at hs4
                     have HB4 := Lib.hid ((HB2.out.alloc (by omega) _).trans (q4.mono (by simp; omega)))
                     have t0 := keep_cell g2 q4
                     have t1 := keep_cell g3 q4
                     have t2 := keep_cell g4 q4
                     have r0 := keep_cell HR2.out.1 q4
                     have r1 := keep_cell HR2.out.2.1 q4
                     clear g2 g3 g4 q4)
                  | (go_at_call 65
                     refine (HN.out _).mono ?_
                     rintro e w5 ⟨rfl, q5⟩
                     have HB5 := Lib.hid (HB4.out.trans (q5.mono HB4.out.size))
                     have s0 := keep_cell t0 q5
                     have s1 := keep_cell t1 q5
                     have s2 := keep_cell t2 q5
                     have p0 := keep_cell r0 q5
                     have p1 := keep_cell r1 q5
                     clear t0 t1 t2 r0 r1 q5))
                go_ret
                exact ⟨by rw [HM.out]; rfl, HB5.out⟩
              · skip
                go_enter Try.func66, Try.ntmps66
                go_wp2_with (first
                  | (go_at_call 27
                     refine (HG.out _).mono ?_
                     rintro e w2 ⟨⟨r2, va, vb⟩, rfl, q1, q2, q3⟩
                     obtain ⟨ok2, jk2, oa2, ja2, e1, e2⟩ := q2.form
                     dsimp only [Option.getD] at e1 e2 q1
                     subst e1 e2 q1
                     have hs2 := q3.size
                     simp only [World.size_alloc] at hs2
                     have HB2 := Lib.hid ((HB.out _).trans (q3.mono (by simp)))
                     have g2 := Lib.cell?_alloc_some (rcB (r2, .slice ok2 r2.ks.length jk2, .slice oa2 r2.ats.length ja2)) (keep_cell T0.out q3)
                     have g3 := Lib.cell?_alloc_some (rcB (r2, .slice ok2 r2.ks.length jk2, .slice oa2 r2.ats.length ja2)) (keep_cell T1.out q3)
                     have g4 := Lib.cell?_alloc_some (rcB (r2, .slice ok2 r2.ks.length jk2, .slice oa2 r2.ats.length ja2)) (keep_cell T2.out q3)
                     have HR2 := Lib.hid (rc_blk (World.alloc_heap_new w2 (rcB (r2, .slice ok2 r2.ks.length jk2, .slice oa2 r2.ats.length ja2)))).1
                     unfold rcB at g2 g3 g4 HR2
                     dsimp only at g2 g3 g4 HR2
                     clear q2 q3
                     unfold rcV
                     dsimp only)
                  | (go_at_call 93
                     refine (HRT.out _).mono ?_
                     rintro e w4 ⟨rfl, q4⟩
                     have hs4 := q4.size
                     simp only [World.size_alloc] at hs4
                     have HB4 := Lib.hid ((HB2.out.alloc (by omega) _).trans (q4.mono (by simp; omega)))
                     have t0 := keep_cell g2 q4
                     have t1 := keep_cell g3 q4
                     have t2 := keep_cell g4 q4
                     have r0 := keep_cell HR2.out.1 q4
                     have r1 := keep_cell HR2.out.2.1 q4
                     clear g2 g3 g4 q4)
                  | (go_at_call 65
                     refine (HN.out _).mono ?_
                     rintro e w5 ⟨rfl, q5⟩
                     have HB5 := Lib.hid (HB4.out.trans (q5.mono HB4.out.size))
                     have s0 := keep_cell t0 q5
                     have s1 := keep_cell t1 q5
                     have s2 := keep_cell t2 q5
                     have p0 := keep_cell r0 q5
                     have p1 := keep_cell r1 q5
                     clear t0 t1 t2 r0 r1 q5))
                go_ret
                exact ⟨by rw [HM.out]; rfl, HB5.out⟩
        · obtain rfl := hha (by decide)
          clear hha
          rw [if_neg (by decide), if_neg (by decide)] at hok
          by_cases a9 : a = 9
          · subst a9
            rw [if_pos rfl] at hok
            cases hq : (r.kd == 3) <;> rw [hq] at hok
            · have HM := Lib.hid hok
              clear hok
              go_enter Try.func66, Try.ntmps66
              go_wp2_with (first
                | (go_at_call 27
                   refine (HG.out _).mono ?_
                   rintro e w2 ⟨⟨r2, va, vb⟩, rfl, q1, q2, q3⟩
                   obtain ⟨ok2, jk2, oa2, ja2, e1, e2⟩ := q2.form
                   dsimp only [Option.getD] at e1 e2 q1
                   subst e1 e2 q1
                   have hs2 := q3.size
                   simp only [World.size_alloc] at hs2
                   have HB2 := Lib.hid ((HB.out _).trans (q3.mono (by simp)))
                   have g2 := Lib.cell?_alloc_some (rcB (r2, .slice ok2 r2.ks.length jk2, .slice oa2 r2.ats.length ja2)) (keep_cell T0.out q3)
                   have g3 := Lib.cell?_alloc_some (rcB (r2, .slice ok2 r2.ks.length jk2, .slice oa2 r2.ats.length ja2)) (keep_cell T1.out q3)
                   have g4 := Lib.cell?_alloc_some (rcB (r2, .slice ok2 r2.ks.length jk2, .slice oa2 r2.ats.length ja2)) (keep_cell T2.out q3)
                   have HR2 := Lib.hid (rc_blk (World.alloc_heap_new w2 (rcB (r2, .slice ok2 r2.ks.length jk2, .slice oa2 r2.ats.length ja2)))).1
                   unfold rcB at g2 g3 g4 HR2
                   dsimp only at g2 g3 g4 HR2
                   clear q2 q3
                   unfold rcV
                   dsimp only)
                | (go_at_call 93
                   refine (HRT.out _).mono ?_
                   rintro e w4 ⟨rfl, q4⟩
                   have hs4 := q4.size
                   simp only [World.size_alloc] at hs4
                   have HB4 := Lib.hid ((HB2.out.alloc (by omega) _).trans (q4.mono (by simp; omega)))
                   have t0 := keep_cell g2 q4
                   have t1 := keep_cell g3 q4
                   have t2 := keep_cell g4 q4
                   have r0 := keep_cell HR2.out.1 q4
                   have r1 := keep_cell HR2.out.2.1 q4
                   clear g2 g3 g4 q4)
                | (go_at_call 65
                   refine (HN.out _).mono ?_
                   rintro e w5 ⟨rfl, q5⟩
                   have HB5 := Lib.hid (HB4.out.trans (q5.mono HB4.out.size))
                   have s0 := keep_cell t0 q5
                   have s1 := keep_cell t1 q5
                   have s2 := keep_cell t2 q5
                   have p0 := keep_cell r0 q5
                   have p1 := keep_cell r1 q5
                   clear t0 t1 t2 r0 r1 q5))
              go_ret
              exact ⟨by rw [HM.out]; rfl, HB5.out⟩
            · have HM := Lib.hid hok
              clear hok
              go_enter Try.func66, Try.ntmps66
              go_wp2_with (first
                | (go_at_call 27
                   refine (HG.out _).mono ?_
                   rintro e w2 ⟨⟨r2, va, vb⟩, rfl, q1, q2, q3⟩
                   obtain ⟨ok2, jk2, oa2, ja2, e1, e2⟩ := q2.form
                   dsimp only [Option.getD] at e1 e2 q1
                   subst e1 e2 q1
                   have hs2 := q3.size
                   simp only [World.size_alloc] at hs2
                   have HB2 := Lib.hid ((HB.out _).trans (q3.mono (by simp)))
                   have g2 := Lib.cell?_alloc_some (rcB (r2, .slice ok2 r2.ks.length jk2, .slice oa2 r2.ats.length ja2)) (keep_cell T0.out q3)
                   have g3 := Lib.cell?_alloc_some (rcB (r2, .slice ok2 r2.ks.length jk2, .slice oa2 r2.ats.length ja2)) (keep_cell T1.out q3)
                   have g4 := Lib.cell?_alloc_some (rcB (r2, .slice ok2 r2.ks.length jk2, .slice oa2 r2.ats.length ja2)) (keep_cell T2.out q3)
                   have HR2 := Lib.hid (rc_blk (World.alloc_heap_new w2 (rcB (r2, .slice ok2 r2.ks.length jk2, .slice oa2 r2.ats.length ja2)))).1
                   unfold rcB at g2 g3 g4 HR2
                   dsimp only at g2 g3 g4 HR2
                   clear q2 q3
                   unfold rcV
                   dsimp only)
                | (go_at_call 93
                   refine (HRT.out _).mono ?_
                   rintro e w4 ⟨rfl, q4⟩
                   have hs4 := q4.size
                   simp only [World.size_alloc] at hs4
                   have HB4 := Lib.hid ((HB2.out.alloc (by omega) _).trans (q4.mono (by simp; omega)))
                   have t0 := keep_cell g2 q4
                   have t1 := keep_cell g3 q4
                   have t2 := keep_cell g4 q4
                   have r0 := keep_cell HR2.out.1 q4
                   have r1 := keep_cell HR2.out.2.1 q4
                   clear g2 g3 g4 q4)
                | (go_at_call 65
                   refine (HN.out _).mono ?_
                   rintro e w5 ⟨rfl, q5⟩
                   have HB5 := Lib.hid (HB4.out.trans (q5.mono HB4.out.size))
                   have s0 := keep_cell t0 q5
                   have s1 := keep_cell t1 q5
                   have s2 := keep_cell t2 q5
                   have p0 := keep_cell r0 q5
                   have p1 := keep_cell r1 q5
                   clear t0 t1 t2 r0 r1 q5))
              go_ret
              exact ⟨by rw [HM.out]; rfl, HB5.out⟩
          · have b9 : (a == 9) = false := beq_eq_false_iff_ne.2 a9
            rw [if_neg a9] at hok
            clear a9 ha
            cases hq : (r.kd == 2) <;> rw [hq] at hok
            · have HM := Lib.hid hok
              clear hok
              go_enter Try.func66, Try.ntmps66
              go_wp2_with (first
                | (go_at_call 27
                   refine (HG.out _).mono ?_
                   rintro e w2 ⟨⟨r2, va, vb⟩, rfl, q1, q2, q3⟩
                   obtain ⟨ok2, jk2, oa2, ja2, e1, e2⟩ := q2.form
                   dsimp only [Option.getD] at e1 e2 q1
                   subst e1 e2 q1
                   have hs2 := q3.size
                   simp only [World.size_alloc] at hs2
                   have HB2 := Lib.hid ((HB.out _).trans (q3.mono (by simp)))
                   have g2 := Lib.cell?_alloc_some (rcB (r2, .slice ok2 r2.ks.length jk2, .slice oa2 r2.ats.length ja2)) (keep_cell T0.out q3)
                   have g3 := Lib.cell?_alloc_some (rcB (r2, .slice ok2 r2.ks.length jk2, .slice oa2 r2.ats.length ja2)) (keep_cell T1.out q3)
                   have g4 := Lib.cell?_alloc_some (rcB (r2, .slice ok2 r2.ks.length jk2, .slice oa2 r2.ats.length ja2)) (keep_cell T2.out q3)
                   have HR2 := Lib.hid (rc_blk (World.alloc_heap_new w2 (rcB (r2, .slice ok2 r2.ks.length jk2, .slice oa2 r2.ats.length ja2)))).1
                   unfold rcB at g2 g3 g4 HR2
                   dsimp only at g2 g3 g4 HR2
                   clear q2 q3
                   unfold rcV
                   dsimp only)
                | (go_at_call 93
                   refine (HRT.out _).mono ?_
                   rintro e w4 ⟨rfl, q4⟩
                   have hs4 := q4.size
                   simp only [World.size_alloc] at hs4
                   have HB4 := Lib.hid ((HB2.out.alloc (by omega) _).trans (q4.mono (by simp; omega)))
                   have t0 := keep_cell g2 q4
                   have t1 := keep_cell g3 q4
                   have t2 := keep_cell g4 q4
                   have r0 := keep_cell HR2.out.1 q4
                   have r1 := keep_cell HR2.out.2.1 q4
                   clear g2 g3 g4 q4)
                | (go_at_call 65
                   refine (HN.out _).mono ?_
                   rintro e w5 ⟨rfl, q5⟩
                   have HB5 := Lib.hid (HB4.out.trans (q5.mono HB4.out.size))
                   have s0 := keep_cell t0 q5
                   have s1 := keep_cell t1 q5
                   have s2 := keep_cell t2 q5
                   have p0 := keep_cell r0 q5
                   have p1 := keep_cell r1 q5
                   clear t0 t1 t2 r0 r1 q5))
              go_ret
              exact ⟨by rw [HM.out]; rfl, HB5.out⟩
            · have HM := Lib.hid hok
              clear hok
              go_enter Try.func66, Try.ntmps66
              go_wp2_with (first
                | (go_at_call 27
                   refine (HG.out _).mono ?_
                   rintro e w2 ⟨⟨r2, va, vb⟩, rfl, q1, q2, q3⟩
                   obtain ⟨ok2, jk2, oa2, ja2, e1, e2⟩ := q2.form
                   dsimp only [Option.getD] at e1 e2 q1
                   subst e1 e2 q1
                   have hs2 := q3.size
                   simp only [World.size_alloc] at hs2
                   have HB2 := Lib.hid ((HB.out _).trans (q3.mono (by simp)))
                   have g2 := Lib.cell?_alloc_some (rcB (r2, .slice ok2 r2.ks.length jk2, .slice oa2 r2.ats.length ja2)) (keep_cell T0.out q3)
                   have g3 := Lib.cell?_alloc_some (rcB (r2, .slice ok2 r2.ks.length jk2, .slice oa2 r2.ats.length ja2)) (keep_cell T1.out q3)
                   have g4 := Lib.cell?_alloc_some (rcB (r2, .slice ok2 r2.ks.length jk2, .slice oa2 r2.ats.length ja2)) (keep_cell T2.out q3)
                   have HR2 := Lib.hid (rc_blk (World.alloc_heap_new w2 (rcB (r2, .slice ok2 r2.ks.length jk2, .slice oa2 r2.ats.length ja2)))).1
                   unfold rcB at g2 g3 g4 HR2
                   dsimp only at g2 g3 g4 HR2
                   clear q2 q3
                   unfold rcV
                   dsimp only)
                | (go_at_call 93
                   refine (HRT.out _).mono ?_
                   rintro e w4 ⟨rfl, q4⟩
                   have hs4 := q4.size
                   simp only [World.size_alloc] at hs4
                   have HB4 := Lib.hid ((HB2.out.alloc (by omega) _).trans (q4.mono (by simp; omega)))
                   have t0 := keep_cell g2 q4
                   have t1 := keep_cell g3 q4
                   have t2 := keep_cell g4 q4
                   have r0 := keep_cell HR2.out.1 q4
                   have r1 := keep_cell HR2.out.2.1 q4
                   clear g2 g3 g4 q4)
                | (go_at_call 65
                   refine (HN.out _).mono ?_
                   rintro e w5 ⟨rfl, q5⟩
                   have HB5 := Lib.hid (HB4.out.trans (q5.mono HB4.out.size))
                   have s0 := keep_cell t0 q5
                   have s1 := keep_cell t1 q5
                   have s2 := keep_cell t2 q5
                   have p0 := keep_cell r0 q5
                   have p1 := keep_cell r1 q5
                   clear t0 t1 t2 r0 r1 q5))
              go_ret
              exact ⟨by rw [HM.out]; rfl, HB5.out⟩
        · obtain rfl := hha (by decide)
          clear hha
          rw [if_pos rfl] at hok
          have HM := Lib.hid hok
          clear hok he
          by_cases a9 : a = 9
          · subst a9
            go_enter Try.func66, Try.ntmps66
            go_wp2_with (first
              | (go_at_call 27
                 refine (HG.out _).mono ?_
                 rintro e w2 ⟨⟨r2, va, vb⟩, rfl, q1, q2, q3⟩
                 obtain ⟨ok2, jk2, oa2, ja2, e1, e2⟩ := q2.form
                 dsimp only [Option.getD] at e1 e2 q1
                 subst e1 e2 q1
                 have hs2 := q3.size
                 simp only [World.size_alloc] at hs2
                 have HB2 := Lib.hid ((HB.out _).trans (q3.mono (by simp)))
                 have g2 := Lib.cell?_alloc_some (rcB (r2, .slice ok2 r2.ks.length jk2, .slice oa2 r2.ats.length ja2)) (keep_cell T0.out q3)
                 have g3 := Lib.cell?_alloc_some (rcB (r2, .slice ok2 r2.ks.length jk2, .slice oa2 r2.ats.length ja2)) (keep_cell T1.out q3)
                 have g4 := Lib.cell?_alloc_some (rcB (r2, .slice ok2 r2.ks.length jk2, .slice oa2 r2.ats.length ja2)) (keep_cell T2.out q3)
                 have HR2 := Lib.hid (rc_blk (World.alloc_heap_new w2 (rcB (r2, .slice ok2 r2.ks.length jk2, .slice oa2 r2.ats.length ja2)))).1
                 unfold rcB at g2 g3 g4 HR2
                 dsimp only at g2 g3 g4 HR2
                 clear q2 q3
                 unfold rcV
                 dsimp only)
              | (go_at_call 93
                 refine (HRT.out _).mono ?_
                 rintro e w4 ⟨rfl, q4⟩
                 have hs4 := q4.size
                 simp only [World.size_alloc] at hs4
                 have HB4 := Lib.hid ((HB2.out.alloc (by omega) _).trans (q4.mono (by simp; omega)))
                 have t0 := keep_cell g2 q4
                 have t1 := keep_cell g3 q4
                 have t2 := keep_cell g4 q4
                 have r0 := keep_cell HR2.out.1 q4
                 have r1 := keep_cell HR2.out.2.1 q4
                 clear g2 g3 g4 q4)
              | (go_at_call 65
                 refine (HN.out _).mono ?_
                 rintro e w5 ⟨rfl, q5⟩
                 have HB5 := Lib.hid (HB4.out.trans (q5.mono HB4.out.size))
                 have s0 := keep_cell t0 q5
                 have s1 := keep_cell t1 q5
                 have s2 := keep_cell t2 q5
                 have p0 := keep_cell r0 q5
                 have p1 := keep_cell r1 q5
                 clear t0 t1 t2 r0 r1 q5))
            go_ret
            exact ⟨by rw [HM.out]; rfl, HB5.out⟩
          · have b9 : (a == 9) = false := beq_eq_false_iff_ne.2 a9
            clear a9 ha
            go_enter Try.func66, Try.ntmps66
            go_wp2_with (first
              | (go_at_call 27
                 refine (HG.out _).mono ?_
                 rintro e w2 ⟨⟨r2, va, vb⟩, rfl, q1, q2, q3⟩
                 obtain ⟨ok2, jk2, oa2, ja2, e1, e2⟩ := q2.form
                 dsimp only [Option.getD] at e1 e2 q1
                 subst e1 e2 q1
                 have hs2 := q3.size
                 simp only [World.size_alloc] at hs2
                 have HB2 := Lib.hid ((HB.out _).trans (q3.mono (by simp)))
                 have g2 := Lib.cell?_alloc_some (rcB (r2, .slice ok2 r2.ks.length jk2, .slice oa2 r2.ats.length ja2)) (keep_cell T0.out q3)
                 have g3 := Lib.cell?_alloc_some (rcB (r2, .slice ok2 r2.ks.length jk2, .slice oa2 r2.ats.length ja2)) (keep_cell T1.out q3)
                 have g4 := Lib.cell?_alloc_some (rcB (r2, .slice ok2 r2.ks.length jk2, .slice oa2 r2.ats.length ja2)) (keep_cell T2.out q3)
                 have HR2 := Lib.hid (rc_blk (World.alloc_heap_new w2 (rcB (r2, .slice ok2 r2.ks.length jk2, .slice oa2 r2.ats.length ja2)))).1
                 unfold rcB at g2 g3 g4 HR2
                 dsimp only at g2 g3 g4 HR2
                 clear q2 q3
                 unfold rcV
                 dsimp only)
              | (go_at_call 93
                 refine (HRT.out _).mono ?_
                 rintro e w4 ⟨rfl, q4⟩
                 have hs4 := q4.size
                 simp only [World.size_alloc] at hs4
                 have HB4 := Lib.hid ((HB2.out.alloc (by omega) _).trans (q4.mono (by simp; omega)))
                 have t0 := keep_cell g2 q4
                 have t1 := keep_cell g3 q4
                 have t2 := keep_cell g4 q4
                 have r0 := keep_cell HR2.out.1 q4
                 have r1 := keep_cell HR2.out.2.1 q4
                 clear g2 g3 g4 q4)
              | (go_at_call 65
                 refine (HN.out _).mono ?_
                 rintro e w5 ⟨rfl, q5⟩
                 have HB5 := Lib.hid (HB4.out.trans (q5.mono HB4.out.size))
                 have s0 := keep_cell t0 q5
                 have s1 := keep_cell t1 q5
                 have s2 := keep_cell t2 q5
                 have p0 := keep_cell r0 q5
                 have p1 := keep_cell r1 q5
                 clear t0 t1 t2 r0 r1 q5))
            go_ret
            exact ⟨by rw [HM.out]; rfl, HB5.out⟩
        · obtain rfl := hha (by decide)
          clear hha
          rw [if_neg (by decide), if_pos (by decide)] at hok
          cases hq : (r.kd == 4) <;> rw [hq] at hok
          · have HM := Lib.hid hok
            clear hok
            by_cases a9 : a = 9
            · subst a9
              go_enter Try.func66, Try.ntmps66
              go_wp2_with (first
                | (go_at_call 27
                   refine (HG.out _).mono ?_
                   rintro e w2 ⟨⟨r2, va, vb⟩, rfl, q1, q2, q3⟩
                   obtain ⟨ok2, jk2, oa2, ja2, e1, e2⟩ := q2.form
                   dsimp only [Option.getD] at e1 e2 q1
                   subst e1 e2 q1
                   have hs2 := q3.size
                   simp only [World.size_alloc] at hs2
                   have HB2 := Lib.hid ((HB.out _).trans (q3.mono (by simp)))
                   have g2 := Lib.cell?_alloc_some (rcB (r2, .slice ok2 r2.ks.length jk2, .slice oa2 r2.ats.length ja2)) (keep_cell T0.out q3)
                   have g3 := Lib.cell?_alloc_some (rcB (r2, .slice ok2 r2.ks.length jk2, .slice oa2 r2.ats.length ja2)) (keep_cell T1.out q3)
                   have g4 := Lib.cell?_alloc_some (rcB (r2, .slice ok2 r2.ks.length jk2, .slice oa2 r2.ats.length ja2)) (keep_cell T2.out q3)
                   have HR2 := Lib.hid (rc_blk (World.alloc_heap_new w2 (rcB (r2, .slice ok2 r2.ks.length jk2, .slice oa2 r2.ats.length ja2)))).1
                   unfold rcB at g2 g3 g4 HR2
                   dsimp only at g2 g3 g4 HR2
                   clear q2 q3
                   unfold rcV
                   dsimp only)
                | (go_at_call 93
                   refine (HRT.out _).mono ?_
                   rintro e w4 ⟨rfl, q4⟩
                   have hs4 := q4.size
                   simp only [World.size_alloc] at hs4
                   have HB4 := Lib.hid ((HB2.out.alloc (by omega) _).trans (q4.mono (by simp; omega)))
                   have t0 := keep_cell g2 q4
                   have t1 := keep_cell g3 q4
                   have t2 := keep_cell g4 q4
                   have r0 := keep_cell HR2.out.1 q4
                   have r1 := keep_cell HR2.out.2.1 q4
                   clear g2 g3 g4 q4)
                | (go_at_call 65
                   refine (HN.out _).mono ?_
                   rintro e w5 ⟨rfl, q5⟩
                   have HB5 := Lib.hid (HB4.out.trans (q5.mono HB4.out.size))
                   have s0 := keep_cell t0 q5
                   have s1 := keep_cell t1 q5
                   have s2 := keep_cell t2 q5
                   have p0 := keep_cell r0 q5
                   have p1 := keep_cell r1 q5
                   clear t0 t1 t2 r0 r1 q5))
              go_ret
              exact ⟨by rw [HM.out]; rfl, HB5.out⟩
            · have b9 : (a == 9) = false := beq_eq_false_iff_ne.2 a9
              clear a9 ha
              go_enter Try.func66, Try.ntmps66
              go_wp2_with (first
                | (go_at_call 27
                   refine (HG.out _).mono ?_
                   rintro e w2 ⟨⟨r2, va, vb⟩, rfl, q1, q2, q3⟩
                   obtain ⟨ok2, jk2, oa2, ja2, e1, e2⟩ := q2.form
                   dsimp only [Option.getD] at e1 e2 q1
                   subst e1 e2 q1
                   have hs2 := q3.size
                   simp only [World.size_alloc] at hs2
                   have HB2 := Lib.hid ((HB.out _).trans (q3.mono (by simp)))
                   have g2 := Lib.cell?_alloc_some (rcB (r2, .slice ok2 r2.ks.length jk2, .slice oa2 r2.ats.length ja2)) (keep_cell T0.out q3)
                   have g3 := Lib.cell?_alloc_some (rcB (r2, .slice ok2 r2.ks.length jk2, .slice oa2 r2.ats.length ja2)) (keep_cell T1.out q3)
                   have g4 := Lib.cell?_alloc_some (rcB (r2, .slice ok2 r2.ks.length jk2, .slice oa2 r2.ats.length ja2)) (keep_cell T2.out q3)
                   have HR2 := Lib.hid (rc_blk (World.alloc_heap_new w2 (rcB (r2, .slice ok2 r2.ks.length jk2, .slice oa2 r2.ats.length ja2)))).1
                   unfold rcB at g2 g3 g4 HR2
                   dsimp only at g2 g3 g4 HR2
                   clear q2 q3
                   unfold rcV
                   dsimp only)
                | (go_at_call 93
                   refine (HRT.out _).mono ?_
                   rintro e w4 ⟨rfl, q4⟩
                   have hs4 := q4.size
                   simp only [World.size_alloc] at hs4
                   have HB4 := Lib.hid ((HB2.out.alloc (by omega) _).trans (q4.mono (by simp; omega)))
                   have t0 := keep_cell g2 q4
                   have t1 := keep_cell g3 q4
                   have t2 := keep_cell g4 q4
                   have r0 := keep_cell HR2.out.1 q4
                   have r1 := keep_cell HR2.out.2.1 q4
                   clear g2 g3 g4 q4)
                | (go_at_call 65
                   refine (HN.out _).mono ?_
                   rintro e w5 ⟨rfl, q5⟩
                   have HB5 := Lib.hid (HB4.out.trans (q5.mono HB4.out.size))
                   have s0 := keep_cell t0 q5
                   have s1 := keep_cell t1 q5
                   have s2 := keep_cell t2 q5
                   have p0 := keep_cell r0 q5
                   have p1 := keep_cell r1 q5
                   clear t0 t1 t2 r0 r1 q5))
              go_ret
              exact ⟨by rw [HM.out]; rfl, HB5.out⟩
          · have HM := Lib.hid hok
            clear hok
            by_cases a9 : a = 9
            · subst a9
              go_enter Try.func66, Try.ntmps66
              go_wp2_with (first
                | (go_at_call 27
                   refine (HG.out _).mono ?_
                   rintro e w2 ⟨⟨r2, va, vb⟩, rfl, q1, q2, q3⟩
                   obtain ⟨ok2, jk2, oa2, ja2, e1, e2⟩ := q2.form
                   dsimp only [Option.getD] at e1 e2 q1
                   subst e1 e2 q1
                   have hs2 := q3.size
                   simp only [World.size_alloc] at hs2
                   have HB2 := Lib.hid ((HB.out _).trans (q3.mono (by simp)))
                   have g2 := Lib.cell?_alloc_some (rcB (r2, .slice ok2 r2.ks.length jk2, .slice oa2 r2.ats.length ja2)) (keep_cell T0.out q3)
                   have g3 := Lib.cell?_alloc_some (rcB (r2, .slice ok2 r2.ks.length jk2, .slice oa2 r2.ats.length ja2)) (keep_cell T1.out q3)
                   have g4 := Lib.cell?_alloc_some (rcB (r2, .slice ok2 r2.ks.length jk2, .slice oa2 r2.ats.length ja2)) (keep_cell T2.out q3)
                   have HR2 := Lib.hid (rc_blk (World.alloc_heap_new w2 (rcB (r2, .slice ok2 r2.ks.length jk2, .slice oa2 r2.ats.length ja2)))).1
                   unfold rcB at g2 g3 g4 HR2
                   dsimp only at g2 g3 g4 HR2
                   clear q2 q3
                   unfold rcV
                   dsimp only)
                | (go_at_call 93
                   refine (HRT.out _).mono ?_
                   rintro e w4 ⟨rfl, q4⟩
                   have hs4 := q4.size
                   simp only [World.size_alloc] at hs4
                   have HB4 := Lib.hid ((HB2.out.alloc (by omega) _).trans (q4.mono (by simp; omega)))
                   have t0 := keep_cell g2 q4
                   have t1 := keep_cell g3 q4
                   have t2 := keep_cell g4 q4
                   have r0 := keep_cell HR2.out.1 q4
                   have r1 := keep_cell HR2.out.2.1 q4
                   clear g2 g3 g4 q4)
                | (go_at_call 65
                   refine (HN.out _).mono ?_
                   rintro e w5 ⟨rfl, q5⟩
                   have HB5 := Lib.hid (HB4.out.trans (q5.mono HB4.out.size))
                   have s0 := keep_cell t0 q5
                   have s1 := keep_cell t1 q5
                   have s2 := keep_cell t2 q5
                   have p0 := keep_cell r0 q5
                   have p1 := keep_cell r1 q5
                   clear t0 t1 t2 r0 r1 q5))
              go_ret
              exact ⟨by rw [HM.out]; rfl, HB5.out⟩
            · have b9 : (a == 9) = false := beq_eq_false_iff_ne.2 a9
              clear a9 ha
              go_enter Try.func66, Try.ntmps66
              go_wp2_with (first
                | (go_at_call 27
                   refine (HG.out _).mono ?_
                   rintro e w2 ⟨⟨r2, va, vb⟩, rfl, q1, q2, q3⟩
                   obtain ⟨ok2, jk2, oa2, ja2, e1, e2⟩ := q2.form
                   dsimp only [Option.getD] at e1 e2 q1
                   subst e1 e2 q1
                   have hs2 := q3.size
                   simp only [World.size_alloc] at hs2
                   have HB2 := Lib.hid ((HB.out _).trans (q3.mono (by simp)))
                   have g2 := Lib.cell?_alloc_some (rcB (r2, .slice ok2 r2.ks.length jk2, .slice oa2 r2.ats.length ja2)) (keep_cell T0.out q3)
                   have g3 := Lib.cell?_alloc_some (rcB (r2, .slice ok2 r2.ks.length jk2, .slice oa2 r2.ats.length ja2)) (keep_cell T1.out q3)
                   have g4 := Lib.cell?_alloc_some (rcB (r2, .slice ok2 r2.ks.length jk2, .slice oa2 r2.ats.length ja2)) (keep_cell T2.out q3)
                   have HR2 := Lib.hid (rc_blk (World.alloc_heap_new w2 (rcB (r2, .slice ok2 r2.ks.length jk2, .slice oa2 r2.ats.length ja2)))).1
                   unfold rcB at g2 g3 g4 HR2
                   dsimp only at g2 g3 g4 HR2
                   clear q2 q3
                   unfold rcV
                   dsimp only)
                | (go_at_call 93
                   refine (HRT.out _).mono ?_
                   rintro e w4 ⟨rfl, q4⟩
                   have hs4 := q4.size
                   simp only [World.size_alloc] at hs4
                   have HB4 := Lib.hid ((HB2.out.alloc (by omega) _).trans (q4.mono (by simp; omega)))
                   have t0 := keep_cell g2 q4
                   have t1 := keep_cell g3 q4
                   have t2 := keep_cell g4 q4
                   have r0 := keep_cell HR2.out.1 q4
                   have r1 := keep_cell HR2.out.2.1 q4
                   clear g2 g3 g4 q4)
                | (go_at_call 65
                   refine (HN.out _).mono ?_
                   rintro e w5 ⟨rfl, q5⟩
                   have HB5 := Lib.hid (HB4.out.trans (q5.mono HB4.out.size))
                   have s0 := keep_cell t0 q5
                   have s1 := keep_cell t1 q5
                   have s2 := keep_cell t2 q5
                   have p0 := keep_cell r0 q5
                   have p1 := keep_cell r1 q5
                   clear t0 t1 t2 r0 r1 q5))
              go_ret
              exact ⟨by rw [HM.out]; rfl, HB5.out⟩
        · obtain rfl := hha (by decide)
          clear hha
          rw [if_neg (by decide), if_pos (by decide)] at hok
          cases hq : (r.kd == 5) <;> rw [hq] at hok
          · have HM := Lib.hid hok
            clear hok
            by_cases a9 : a = 9
            · subst a9
              go_enter Try.func66, Try.ntmps66
              go_wp2_with (first
                | (go_at_call 27
                   refine (HG.out _).mono ?_
                   rintro e w2 ⟨⟨r2, va, vb⟩, rfl, q1, q2, q3⟩
                   obtain ⟨ok2, jk2, oa2, ja2, e1, e2⟩ := q2.form
                   dsimp only [Option.getD] at e1 e2 q1
                   subst e1 e2 q1
                   have hs2 := q3.size
                   simp only [World.size_alloc] at hs2
                   have HB2 := Lib.hid ((HB.out _).trans (q3.mono (by simp)))
                   have g2 := Lib.cell?_alloc_some (rcB (r2, .slice ok2 r2.ks.length jk2, .slice oa2 r2.ats.length ja2)) (keep_cell T0.out q3)
                   have g3 := Lib.cell?_alloc_some (rcB (r2, .slice ok2 r2.ks.length jk2, .slice oa2 r2.ats.length ja2)) (keep_cell T1.out q3)
                   have g4 := Lib.cell?_alloc_some (rcB (r2, .slice ok2 r2.ks.length jk2, .slice oa2 r2.ats.length ja2)) (keep_cell T2.out q3)
                   have HR2 := Lib.hid (rc_blk (World.alloc_heap_new w2 (rcB (r2, .slice ok2 r2.ks.length jk2, .slice oa2 r2.ats.length ja2)))).1
                   unfold rcB at g2 g3 g4 HR2
                   dsimp only at g2 g3 g4 HR2
                   clear q2 q3
                   unfold rcV
                   dsimp only)
                | (go_at_call 93
                   refine (HRT.out _).mono ?_
                   rintro e w4 ⟨rfl, q4⟩
                   have hs4 := q4.size
                   simp only [World.size_alloc] at hs4
                   have HB4 := Lib.hid ((HB2.out.alloc (by omega) _).trans (q4.mono (by simp; omega)))
                   have t0 := keep_cell g2 q4
                   have t1 := keep_cell g3 q4
                   have t2 := keep_cell g4 q4
                   have r0 := keep_cell HR2.out.1 q4
                   have r1 := keep_cell HR2.out.2.1 q4
                   clear g2 g3 g4 q4)
                | (go_at_call 65
                   refine (HN.out _).mono ?_
                   rintro e w5 ⟨rfl, q5⟩
                   have HB5 := Lib.hid (HB4.out.trans (q5.mono HB4.out.size))
                   have s0 := keep_cell t0 q5
                   have s1 := keep_cell t1 q5
                   have s2 := keep_cell t2 q5
                   have p0 := keep_cell r0 q5
                   have p1 := keep_cell r1 q5
                   clear t0 t1 t2 r0 r1 q5))
              go_ret
              exact ⟨by rw [HM.out]; rfl, HB5.out⟩
            · have b9 : (a == 9) = false := beq_eq_false_iff_ne.2 a9
              clear a9 ha
              go_enter Try.func66, Try.ntmps66
              go_wp2_with (first
                | (go_at_call 27
                   refine (HG.out _).mono ?_
                   rintro e w2 ⟨⟨r2, va, vb⟩, rfl, q1, q2, q3⟩
                   obtain ⟨ok2, jk2, oa2, ja2, e1, e2⟩ := q2.form
                   dsimp only [Option.getD] at e1 e2 q1
                   subst e1 e2 q1
                   have hs2 := q3.size
                   simp only [World.size_alloc] at hs2
                   have HB2 := Lib.hid ((HB.out _).trans (q3.mono (by simp)))
                   have g2 := Lib.cell?_alloc_some (rcB (r2, .slice ok2 r2.ks.length jk2, .slice oa2 r2.ats.length ja2)) (keep_cell T0.out q3)
                   have g3 := Lib.cell?_alloc_some (rcB (r2, .slice ok2 r2.ks.length jk2, .slice oa2 r2.ats.length ja2)) (keep_cell T1.out q3)
                   have g4 := Lib.cell?_alloc_some (rcB (r2, .slice ok2 r2.ks.length jk2, .slice oa2 r2.ats.length ja2)) (keep_cell T2.out q3)
                   have HR2 := Lib.hid (rc_blk (World.alloc_heap_new w2 (rcB (r2, .slice ok2 r2.ks.length jk2, .slice oa2 r2.ats.length ja2)))).1
                   unfold rcB at g2 g3 g4 HR2
                   dsimp only at g2 g3 g4 HR2
                   clear q2 q3
                   unfold rcV
                   dsimp only)
                | (go_at_call 93
                   refine (HRT.out _).mono ?_
                   rintro e w4 ⟨rfl, q4⟩
                   have hs4 := q4.size
                   simp only [World.size_alloc] at hs4
                   have HB4 := Lib.hid ((HB2.out.alloc (by omega) _).trans (q4.mono (by simp; omega)))
                   have t0 := keep_cell g2 q4
                   have t1 := keep_cell g3 q4
                   have t2 := keep_cell g4 q4
                   have r0 := keep_cell HR2.out.1 q4
                   have r1 := keep_cell HR2.out.2.1 q4
                   clear g2 g3 g4 q4)
                | (go_at_call 65
                   refine (HN.out _).mono ?_
                   rintro e w5 ⟨rfl, q5⟩
                   have HB5 := Lib.hid (HB4.out.trans (q5.mono HB4.out.size))
                   have s0 := keep_cell t0 q5
                   have s1 := keep_cell t1 q5
                   have s2 := keep_cell t2 q5
                   have p0 := keep_cell r0 q5
                   have p1 := keep_cell r1 q5
                   clear t0 t1 t2 r0 r1 q5))
              go_ret
              exact ⟨by rw [HM.out]; rfl, HB5.out⟩
          · have HM := Lib.hid hok
            clear hok
            by_cases a9 : a = 9
            · subst a9
              go_enter Try.func66, Try.ntmps66
              go_wp2_with (first
                | (go_at_call 27
                   refine (HG.out _).mono ?_
                   rintro e w2 ⟨⟨r2, va, vb⟩, rfl, q1, q2, q3⟩
                   obtain ⟨ok2, jk2, oa2, ja2, e1, e2⟩ := q2.form
                   dsimp only [Option.getD] at e1 e2 q1
                   subst e1 e2 q1
                   have hs2 := q3.size
                   simp only [World.size_alloc] at hs2
                   have HB2 := Lib.hid ((HB.out _).trans (q3.mono (by simp)))
                   have g2 := Lib.cell?_alloc_some (rcB (r2, .slice ok2 r2.ks.length jk2, .slice oa2 r2.ats.length ja2)) (keep_cell T0.out q3)
                   have g3 := Lib.cell?_alloc_some (rcB (r2, .slice ok2 r2.ks.length jk2, .slice oa2 r2.ats.length ja2)) (keep_cell T1.out q3)
                   have g4 := Lib.cell?_alloc_some (rcB (r2, .slice ok2 r2.ks.length jk2, .slice oa2 r2.ats.length ja2)) (keep_cell T2.out q3)
                   have HR2 := Lib.hid (rc_blk (World.alloc_heap_new w2 (rcB (r2, .slice ok2 r2.ks.length jk2, .slice oa2 r2.ats.length ja2)))).1
                   unfold rcB at g2 g3 g4 HR2
                   dsimp only at g2 g3 g4 HR2
                   clear q2 q3
                   unfold rcV
                   dsimp only)
                | (go_at_call 93
                   refine (HRT.out _).mono ?_
                   rintro e w4 ⟨rfl, q4⟩
                   have hs4 := q4.size
                   simp only [World.size_alloc] at hs4
                   have HB4 := Lib.hid ((HB2.out.alloc (by omega) _).trans (q4.mono (by simp; omega)))
                   have t0 := keep_cell g2 q4
                   have t1 := keep_cell g3 q4
                   have t2 := keep_cell g4 q4
                   have r0 := keep_cell HR2.out.1 q4
                   have r1 := keep_cell HR2.out.2.1 q4
                   clear g2 g3 g4 q4)
                | (go_at_call 65
                   refine (HN.out _).mono ?_
                   rintro e w5 ⟨rfl, q5⟩
                   have HB5 := Lib.hid (HB4.out.trans (q5.mono HB4.out.size))
                   have s0 := keep_cell t0 q5
                   have s1 := keep_cell t1 q5
                   have s2 := keep_cell t2 q5
                   have p0 := keep_cell r0 q5
                   have p1 := keep_cell r1 q5
                   clear t0 t1 t2 r0 r1 q5))
              go_ret
              exact ⟨by rw [HM.out]; rfl, HB5.out⟩
            · have b9 : (a == 9) = false := beq_eq_false_iff_ne.2 a9
              clear a9 ha
              go_enter Try.func66, Try.ntmps66
              go_wp2_with (first
                | (go_at_call 27
                   refine (HG.out _).mono ?_
                   rintro e w2 ⟨⟨r2, va, vb⟩, rfl, q1, q2, q3⟩
                   obtain ⟨ok2, jk2, oa2, ja2, e1, e2⟩ := q2.form
                   dsimp only [Option.getD] at e1 e2 q1
                   subst e1 e2 q1
                   have hs2 := q3.size
                   simp only [World.size_alloc] at hs2
                   have HB2 := Lib.hid ((HB.out _).trans (q3.mono (by simp)))
                   have g2 := Lib.cell?_alloc_some (rcB (r2, .slice ok2 r2.ks.length jk2, .slice oa2 r2.ats.length ja2)) (keep_cell T0.out q3)
                   have g3 := Lib.cell?_alloc_some (rcB (r2, .slice ok2 r2.ks.length jk2, .slice oa2 r2.ats.length ja2)) (keep_cell T1.out q3)
                   have g4 := Lib.cell?_alloc_some (rcB (r2, .slice ok2 r2.ks.length jk2, .slice oa2 r2.ats.length ja2)) (keep_cell T2.out q3)
                   have HR2 := Lib.hid (rc_blk (World.alloc_heap_new w2 (rcB (r2, .slice ok2 r2.ks.length jk2, .slice oa2 r2.ats.length ja2)))).1
                   unfold rcB at g2 g3 g4 HR2
                   dsimp only at g2 g3 g4 HR2
                   clear q2 q3
                   unfold rcV
                   dsimp only)
                | (go_at_call 93
                   refine (HRT.out _).mono ?_
                   rintro e w4 ⟨rfl, q4⟩
                   have hs4 := q4.size
                   simp only [World.size_alloc] at hs4
                   have HB4 := Lib.hid ((HB2.out.alloc (by omega) _).trans (q4.mono (by simp; omega)))
                   have t0 := keep_cell g2 q4
                   have t1 := keep_cell g3 q4
                   have t2 := keep_cell g4 q4
                   have r0 := keep_cell HR2.out.1 q4
                   have r1 := keep_cell HR2.out.2.1 q4
                   clear g2 g3 g4 q4)
                | (go_at_call 65
                   refine (HN.out _).mono ?_
                   rintro e w5 ⟨rfl, q5⟩
                   have HB5 := Lib.hid (HB4.out.trans (q5.mono HB4.out.size))
                   have s0 := keep_cell t0 q5
                   have s1 := keep_cell t1 q5
                   have s2 := keep_cell t2 q5
                   have p0 := keep_cell r0 q5
                   have p1 := keep_cell r1 q5
                   clear t0 t1 t2 r0 r1 q5))
              go_ret
              exact ⟨by rw [HM.out]; rfl, HB5.out⟩
        · clear hha
          rw [if_neg (by decide), if_pos (by decide)] at hok
          cases hq : (r.kd == 6) <;> rw [hq] at hok
          · have HM := Lib.hid hok
            clear hok
            by_cases a9 : a = 9
            · subst a9
              go_enter Try.func66, Try.ntmps66
              go_wp2_with (first
                | (go_at_call 27
                   refine (HG.out _).mono ?_
                   rintro e w2 ⟨⟨r2, va, vb⟩, rfl, q1, q2, q3⟩
                   obtain ⟨ok2, jk2, oa2, ja2, e1, e2⟩ := q2.form
                   dsimp only [Option.getD] at e1 e2 q1
                   subst e1 e2 q1
                   have hs2 := q3.size
                   simp only [World.size_alloc] at hs2
                   have HB2 := Lib.hid ((HB.out _).trans (q3.mono (by simp)))
                   have g2 := Lib.cell?_alloc_some (rcB (r2, .slice ok2 r2.ks.length jk2, .slice oa2 r2.ats.length ja2)) (keep_cell T0.out q3)
                   have g3 := Lib.cell?_alloc_some (rcB (r2, .slice ok2 r2.ks.length jk2, .slice oa2 r2.ats.length ja2)) (keep_cell T1.out q3)
                   have g4 := Lib.cell?_alloc_some (rcB (r2, .slice ok2 r2.ks.length jk2, .slice oa2 r2.ats.length ja2)) (keep_cell T2.out q3)
                   have HR2 := Lib.hid (rc_blk (World.alloc_heap_new w2 (rcB (r2, .slice ok2 r2.ks.length jk2, .slice oa2 r2.ats.length ja2)))).1
                   unfold rcB at g2 g3 g4 HR2
                   dsimp only at g2 g3 g4 HR2
                   clear q2 q3
                   unfold rcV
                   dsimp only)
                | (go_at_call 93
                   refine (HRT.out _).mono ?_
                   rintro e w4 ⟨rfl, q4⟩
                   have hs4 := q4.size
                   simp only [World.size_alloc] at hs4
                   have HB4 := Lib.hid ((HB2.out.alloc (by omega) _).trans (q4.mono (by simp; omega)))
                   have t0 := keep_cell g2 q4
                   have t1 := keep_cell g3 q4
                   have t2 := keep_cell g4 q4
                   have r0 := keep_cell HR2.out.1 q4
                   have r1 := keep_cell HR2.out.2.1 q4
                   clear g2 g3 g4 q4)
                | (go_at_call 65
                   refine (HN.out _).mono ?_
                   rintro e w5 ⟨rfl, q5⟩
                   have HB5 := Lib.hid (HB4.out.trans (q5.mono HB4.out.size))
                   have s0 := keep_cell t0 q5
                   have s1 := keep_cell t1 q5
                   have s2 := keep_cell t2 q5
                   have p0 := keep_cell r0 q5
                   have p1 := keep_cell r1 q5
                   clear t0 t1 t2 r0 r1 q5))
              go_ret
              exact ⟨by rw [HM.out]; rfl, HB5.out⟩
            · have b9 : (a == 9) = false := beq_eq_false_iff_ne.2 a9
              clear a9 ha
              go_enter Try.func66, Try.ntmps66
              go_wp2_with (first
                | (go_at_call 27
                   refine (HG.out _).mono ?_
                   rintro e w2 ⟨⟨r2, va, vb⟩, rfl, q1, q2, q3⟩
                   obtain ⟨ok2, jk2, oa2, ja2, e1, e2⟩ := q2.form
                   dsimp only [Option.getD] at e1 e2 q1
                   subst e1 e2 q1
                   have hs2 := q3.size
                   simp only [World.size_alloc] at hs2
                   have HB2 := Lib.hid ((HB.out _).trans (q3.mono (by simp)))
                   have g2 := Lib.cell?_alloc_some (rcB (r2, .slice ok2 r2.ks.length jk2, .slice oa2 r2.ats.length ja2)) (keep_cell T0.out q3)
                   have g3 := Lib.cell?_alloc_some (rcB (r2, .slice ok2 r2.ks.length jk2, .slice oa2 r2.ats.length ja2)) (keep_cell T1.out q3)
                   have g4 := Lib.cell?_alloc_some (rcB (r2, .slice ok2 r2.ks.length jk2, .slice oa2 r2.ats.length ja2)) (keep_cell T2.out q3)
                   have HR2 := Lib.hid (rc_blk (World.alloc_heap_new w2 (rcB (r2, .slice ok2 r2.ks.length jk2, .slice oa2 r2.ats.length ja2)))).1
                   unfold rcB at g2 g3 g4 HR2
                   dsimp only at g2 g3 g4 HR2
                   clear q2 q3
                   unfold rcV
                   dsimp only)
                | (go_at_call 93
                   refine (HRT.out _).mono ?_
                   rintro e w4 ⟨rfl, q4⟩
                   have hs4 := q4.size
                   simp only [World.size_alloc] at hs4
                   have HB4 := Lib.hid ((HB2.out.alloc (by omega) _).trans (q4.mono (by simp; omega)))
                   have t0 := keep_cell g2 q4
                   have t1 := keep_cell g3 q4
                   have t2 := keep_cell g4 q4
                   have r0 := keep_cell HR2.out.1 q4
                   have r1 := keep_cell HR2.out.2.1 q4
                   clear g2 g3 g4 q4)
                | (go_at_call 65
                   refine (HN.out _).mono ?_
                   rintro e w5 ⟨rfl, q5⟩
                   have HB5 := Lib.hid (HB4.out.trans (q5.mono HB4.out.size))
                   have s0 := keep_cell t0 q5
                   have s1 := keep_cell t1 q5
                   have s2 := keep_cell t2 q5
                   have p0 := keep_cell r0 q5
                   have p1 := keep_cell r1 q5
                   clear t0 t1 t2 r0 r1 q5))
              go_ret
              exact ⟨by rw [HM.out]; rfl, HB5.out⟩
          · have HM := Lib.hid hok
            clear hok
            cases hs <;> cases E
            · skip
              by_cases a9 : a = 9
              · subst a9
                go_enter Try.func66, Try.ntmps66
                go_wp2_with (first
                  | (go_at_call 27
                     refine (HG.out _).mono ?_
                     rintro e w2 ⟨⟨r2, va, vb⟩, rfl, q1, q2, q3⟩
                     obtain ⟨ok2, jk2, oa2, ja2, e1, e2⟩ := q2.form
                     dsimp only [Option.getD] at e1 e2 q1
                     subst e1 e2 q1
                     have hs2 := q3.size
                     simp only [World.size_alloc] at hs2
                     have HB2 := Lib.hid ((HB.out _).trans (q3.mono (by simp)))
                     have g2 := Lib.cell?_alloc_some (rcB (r2, .slice ok2 r2.ks.length jk2, .slice oa2 r2.ats.length ja2)) (keep_cell T0.out q3)
                     have g3 := Lib.cell?_alloc_some (rcB (r2, .slice ok2 r2.ks.length jk2, .slice oa2 r2.ats.length ja2)) (keep_cell T1.out q3)
                     have g4 := Lib.cell?_alloc_some (rcB (r2, .slice ok2 r2.ks.length jk2, .slice oa2 r2.ats.length ja2)) (keep_cell T2.out q3)
                     have HR2 := Lib.hid (rc_blk (World.alloc_heap_new w2 (rcB (r2, .slice ok2 r2.ks.length jk2, .slice oa2 r2.ats.length ja2)))).1
                     unfold rcB at g2 g3 g4 HR2
                     dsimp only at g2 g3 g4 HR2
                     clear q2 q3
                     unfold rcV
                     dsimp only)
                  | (go_at_call 93
                     refine (HRT.out _).mono ?_
                     rintro e w4 ⟨rfl, q4⟩
                     have hs4 := q4.size
                     simp only [World.size_alloc] at hs4
                     have HB4 := Lib.hid ((HB2.out.alloc (by omega) _).trans (q4.mono (by simp; omega)))
                     have t0 := keep_cell g2 q4
                     have t1 := keep_cell g3 q4
                     have t2 := keep_cell g4 q4
                     have r0 := keep_cell HR2.out.1 q4
                     have r1 := keep_cell HR2.out.2.1 q4
                     clear g2 g3 g4 q4)
                  | (go_at_call 65
                     refine (HN.out _).mono ?_
                     rintro e w5 ⟨rfl, q5⟩
                     have HB5 := Lib.hid (HB4.out.trans (q5.mono HB4.out.size))
                     have s0 := keep_cell t0 q5
                     have s1 := keep_cell t1 q5
                     have s2 := keep_cell t2 q5
                     have p0 := keep_cell r0 q5
                     have p1 := keep_cell r1 q5
                     clear t0 t1 t2 r0 r1 q5))
                go_ret
                exact ⟨by rw [HM.out]; rfl, HB5.out⟩
              · have b9 : (a == 9) = false := beq_eq_false_iff_ne.2 a9
                clear a9 ha
                go_enter Try.func66, Try.ntmps66
                go_wp2_with (first
                  | (go_at_call 27
                     refine (HG.out _).mono ?_
                     rintro e w2 ⟨⟨r2, va, vb⟩, rfl, q1, q2, q3⟩
                     obtain ⟨ok2, jk2, oa2, ja2, e1, e2⟩ := q2.form
                     dsimp only [Option.getD] at e1 e2 q1
                     subst e1 e2 q1
                     have hs2 := q3.size
                     simp only [World.size_alloc] at hs2
                     have HB2 := Lib.hid ((HB.out _).trans (q3.mono (by simp)))
                     have g2 := Lib.cell?_alloc_some (rcB (r2, .slice ok2 r2.ks.length jk2, .slice oa2 r2.ats.length ja2)) (keep_cell T0.out q3)
                     have g3 := Lib.cell?_alloc_some (rcB (r2, .slice ok2 r2.ks.length jk2, .slice oa2 r2.ats.length ja2)) (keep_cell T1.out q3)
                     have g4 := Lib.cell?_alloc_some (rcB (r2, .slice ok2 r2.ks.length jk2, .slice oa2 r2.ats.length ja2)) (keep_cell T2.out q3)
                     have HR2 := Lib.hid (rc_blk (World.alloc_heap_new w2 (rcB (r2, .slice ok2 r2.ks.length jk2, .slice oa2 r2.ats.length ja2)))).1
                     unfold rcB at g2 g3 g4 HR2
                     dsimp only at g2 g3 g4 HR2
                     clear q2 q3
                     unfold rcV
                     dsimp only)
                  | (go_at_call 93
                     refine (HRT.out _).mono ?_
                     rintro e w4 ⟨rfl, q4⟩
                     have hs4 := q4.size
                     simp only [World.size_alloc] at hs4
                     have HB4 := Lib.hid ((HB2.out.alloc (by omega) _).trans (q4.mono (by simp; omega)))
                     have t0 := keep_cell g2 q4
                     have t1 := keep_cell g3 q4
                     have t2 := keep_cell g4 q4
                     have r0 := keep_cell HR2.out.1 q4
                     have r1 := keep_cell HR2.out.2.1 q4
                     clear g2 g3 g4 q4)
                  | (go_at_call 65
                     refine (HN.out _).mono ?_
                     rintro e w5 ⟨rfl, q5⟩
                     have HB5 := Lib.hid (HB4.out.trans (q5.mono HB4.out.size))
                     have s0 := keep_cell t0 q5
                     have s1 := keep_cell t1 q5
                     have s2 := keep_cell t2 q5
                     have p0 := keep_cell r0 q5
                     have p1 := keep_cell r1 q5
                     clear t0 t1 t2 r0 r1 q5))
                go_ret
                exact ⟨by rw [HM.out]; rfl, HB5.out⟩
            · skip
              by_cases a9 : a = 9
              · subst a9
                go_enter Try.func66, Try.ntmps66
                go_wp2_with (first
                  | (go_at_call 27
                     refine (HG.out _).mono ?_
                     rintro e w2 ⟨⟨r2, va, vb⟩, rfl, q1, q2, q3⟩
                     obtain ⟨ok2, jk2, oa2, ja2, e1, e2⟩ := q2.form
                     dsimp only [Option.getD] at e1 e2 q1
                     subst e1 e2 q1
                     have hs2 := q3.size
                     simp only [World.size_alloc] at hs2
                     have HB2 := Lib.hid ((HB.out _).trans (q3.mono (by simp)))
                     have g2 := Lib.cell?_alloc_some (rcB (r2, .slice ok2 r2.ks.length jk2, .slice oa2 r2.ats.length ja2)) (keep_cell T0.out q3)
                     have g3 := Lib.cell?_alloc_some (rcB (r2, .slice ok2 r2.ks.length jk2, .slice oa2 r2.ats.length ja2)) (keep_cell T1.out q3)
                     have g4 := Lib.cell?_alloc_some (rcB (r2, .slice ok2 r2.ks.length jk2, .slice oa2 r2.ats.length ja2)) (keep_cell T2.out q3)
                     have HR2 := Lib.hid (rc_blk (World.alloc_heap_new w2 (rcB (r2, .slice ok2 r2.ks.length jk2, .slice oa2 r2.ats.length ja2)))).1
                     unfold rcB at g2 g3 g4 HR2
                     dsimp only at g2 g3 g4 HR2
                     clear q2 q3
                     unfold rcV
                     dsimp only)
                  | (go_at_call 93
                     refine (HRT.out _).mono ?_
                     rintro e w4 ⟨rfl, q4⟩
                     have hs4 := q4.size
                     simp only [World.size_alloc] at hs4
                     have HB4 := Lib.hid ((HB2.out.alloc (by omega) _).trans (q4.mono (by simp; omega)))
                     have t0 := keep_cell g2 q4
                     have t1 := keep_cell g3 q4
                     have t2 := keep_cell g4 q4
                     have r0 := keep_cell HR2.out.1 q4
                     have r1 := keep_cell HR2.out.2.1 q4
                     clear g2 g3 g4 q4)
                  | (go_at_call 65
                     refine (HN.out _).mono ?_
                     rintro e w5 ⟨rfl, q5⟩
                     have HB5 := Lib.hid (HB4.out.trans (q5.mono HB4.out.size))
                     have s0 := keep_cell t0 q5
                     have s1 := keep_cell t1 q5
                     have s2 := keep_cell t2 q5
                     have p0 := keep_cell r0 q5
                     have p1 := keep_cell r1 q5
                     clear t0 t1 t2 r0 r1 q5))
                go_ret
                exact ⟨by rw [HM.out]; rfl, HB5.out⟩
              · have b9 : (a == 9) = false := beq_eq_false_iff_ne.2 a9
                clear a9 ha
                go_enter Try.func66, Try.ntmps66
                go_wp2_with (first
                  | (go_at_call 27
                     refine (HG.out _).mono ?_
                     rintro e w2 ⟨⟨r2, va, vb⟩, rfl, q1, q2, q3⟩
                     obtain ⟨ok2, jk2, oa2, ja2, e1, e2⟩ := q2.form
                     dsimp only [Option.getD] at e1 e2 q1
                     subst e1 e2 q1
                     have hs2 := q3.size
                     simp only [World.size_alloc] at hs2
                     have HB2 := Lib.hid ((HB.out _).trans (q3.mono (by simp)))
                     have g2 := Lib.cell?_alloc_some (rcB (r2, .slice ok2 r2.ks.length jk2, .slice oa2 r2.ats.length ja2)) (keep_cell T0.out q3)
                     have g3 := Lib.cell?_alloc_some (rcB (r2, .slice ok2 r2.ks.length jk2, .slice oa2 r2.ats.length ja2)) (keep_cell T1.out q3)
                     have g4 := Lib.cell?_alloc_some (rcB (r2, .slice ok2 r2.ks.length jk2, .slice oa2 r2.ats.length ja2)) (keep_cell T2.out q3)
                     have HR2 := Lib.hid (rc_blk (World.alloc_heap_new w2 (rcB (r2, .slice ok2 r2.ks.length jk2, .slice oa2 r2.ats.length ja2)))).1
                     unfold rcB at g2 g3 g4 HR2
                     dsimp only at g2 g3 g4 HR2
                     clear q2 q3
                     unfold rcV
                     dsimp only)
                  | (go_at_call 93
                     refine (HRT.out _).mono ?_
                     rintro e w4 ⟨rfl, q4⟩
                     have hs4 := q4.size
                     simp only [World.size_alloc] at hs4
                     have HB4 := Lib.hid ((HB2.out.alloc (by omega) _).trans (q4.mono (by simp; omega)))
                     have t0 := keep_cell g2 q4
                     have t1 := keep_cell g3 q4
                     have t2 := keep_cell g4 q4
                     have r0 := keep_cell HR2.out.1 q4
                     have r1 := keep_cell HR2.out.2.1 q4
                     clear g2 g3 g4 q4)
                  | (go_at_call 65
                     refine (HN.out _).mono ?_
                     rintro e w5 ⟨rfl, q5⟩
                     have HB5 := Lib.hid (HB4.out.trans (q5.mono HB4.out.size))
                     have s0 := keep_cell t0 q5
                     have s1 := keep_cell t1 q5
                     have s2 := keep_cell t2 q5
                     have p0 := keep_cell r0 q5
                     have p1 := keep_cell r1 q5
                     clear t0 t1 t2 r0 r1 q5))
                go_ret
                exact ⟨by rw [HM.out]; rfl, HB5.out⟩
            · skip
              by_cases a9 : a = 9
              · subst a9
                go_enter Try.func66, Try.ntmps66
                go_wp2_with (first
                  | (go_at_call 27
                     refine (HG.out _).mono ?_
                     rintro e w2 ⟨⟨r2, va, vb⟩, rfl, q1, q2, q3⟩
                     obtain ⟨ok2, jk2, oa2, ja2, e1, e2⟩ := q2.form
                     dsimp only [Option.getD] at e1 e2 q1
                     subst e1 e2 q1
                     have hs2 := q3.size
                     simp only [World.size_alloc] at hs2
                     have HB2 := Lib.hid ((HB.out _).trans (q3.mono (by simp)))
                     have g2 := Lib.cell?_alloc_some (rcB (r2, .slice ok2 r2.ks.length jk2, .slice oa2 r2.ats.length ja2)) (keep_cell T0.out q3)
                     have g3 := Lib.cell?_alloc_some (rcB (r2, .slice ok2 r2.ks.length jk2, .slice oa2 r2.ats.length ja2)) (keep_cell T1.out q3)
                     have g4 := Lib.cell?_alloc_some (rcB (r2, .slice ok2 r2.ks.length jk2, .slice oa2 r2.ats.length ja2)) (keep_cell T2.out q3)
                     have HR2 := Lib.hid (rc_blk (World.alloc_heap_new w2 (rcB (r2, .slice ok2 r2.ks.length jk2, .slice oa2 r2.ats.length ja2)))).1
                     unfold rcB at g2 g3 g4 HR2
                     dsimp only at g2 g3 g4 HR2
                     clear q2 q3
                     unfold rcV
                     dsimp only)
                  | (go_at_call 93
                     refine (HRT.out _).mono ?_
                     rintro e w4 ⟨rfl, q4⟩
                     have hs4 := q4.size
                     simp only [World.size_alloc] at hs4
                     have HB4 := Lib.hid ((HB2.out.alloc (by omega) _).trans (q4.mono (by simp; omega)))
                     have t0 := keep_cell g2 q4
                     have t1 := keep_cell g3 q4
                     have t2 := keep_cell g4 q4
                     have r0 := keep_cell HR2.out.1 q4
                     have r1 := keep_cell HR2.out.2.1 q4
                     clear g2 g3 g4 q4)
                  | (go_at_call 65
                     refine (HN.out _).mono ?_
                     rintro e w5 ⟨rfl, q5⟩
                     have HB5 := Lib.hid (HB4.out.trans (q5.mono HB4.out.size))
                     have s0 := keep_cell t0 q5
                     have s1 := keep_cell t1 q5
                     have s2 := keep_cell t2 q5
                     have p0 := keep_cell r0 q5
                     have p1 := keep_cell r1 q5
                     clear t0 t1 t2 r0 r1 q5))
                go_ret
                exact ⟨by rw [HM.out]; rfl, HB5.out⟩
              · have b9 : (a == 9) = false := beq_eq_false_iff_ne.2 a9
                clear a9 ha
                go_enter Try.func66, Try.ntmps66
                go_wp2_with (first
                  | (go_at_call 27
                     refine (HG.out _).mono ?_
                     rintro e w2 ⟨⟨r2, va, vb⟩, rfl, q1, q2, q3⟩
                     obtain ⟨ok2, jk2, oa2, ja2, e1, e2⟩ := q2.form
                     dsimp only [Option.getD] at e1 e2 q1
                     subst e1 e2 q1
                     have hs2 := q3.size
                     simp only [World.size_alloc] at hs2
                     have HB2 := Lib.hid ((HB.out _).trans (q3.mono (by simp)))
                     have g2 := Lib.cell?_alloc_some (rcB (r2, .slice ok2 r2.ks.length jk2, .slice oa2 r2.ats.length ja2)) (keep_cell T0.out q3)
                     have g3 := Lib.cell?_alloc_some (rcB (r2, .slice ok2 r2.ks.length jk2, .slice oa2 r2.ats.length ja2)) (keep_cell T1.out q3)
                     have g4 := Lib.cell?_alloc_some (rcB (r2, .slice ok2 r2.ks.length jk2, .slice oa2 r2.ats.length ja2)) (keep_cell T2.out q3)
                     have HR2 := Lib.hid (rc_blk (World.alloc_heap_new w2 (rcB (r2, .slice ok2 r2.ks.length jk2, .slice oa2 r2.ats.length ja2)))).1
                     unfold rcB at g2 g3 g4 HR2
                     dsimp only at g2 g3 g4 HR2
                     clear q2 q3
                     unfold rcV
                     dsimp only)
                  | (go_at_call 93
                     refine (HRT.out _).mono ?_
                     rintro e w4 ⟨rfl, q4⟩
                     have hs4 := q4.size
                     simp only [World.size_alloc] at hs4
                     have HB4 := Lib.hid ((HB2.out.alloc (by omega) _).trans (q4.mono (by simp; omega)))
                     have t0 := keep_cell g2 q4
                     have t1 := keep_cell g3 q4
                     have t2 := keep_cell g4 q4
                     have r0 := keep_cell HR2.out.1 q4
                     have r1 := keep_cell HR2.out.2.1 q4
                     clear g2 g3 g4 q4)
                  | (go_at_call 65
                     refine (HN.out _).mono ?_
                     rintro e w5 ⟨rfl, q5⟩
                     have HB5 := Lib.hid (HB4.out.trans (q5.mono HB4.out.size))
                     have s0 := keep_cell t0 q5
                     have s1 := keep_cell t1 q5
                     have s2 := keep_cell t2 q5
                     have p0 := keep_cell r0 q5
                     have p1 := keep_cell r1 q5
                     clear t0 t1 t2 r0 r1 q5))
                go_ret
                exact ⟨by rw [HM.out]; rfl, HB5.out⟩
            · skip
              by_cases a9 : a = 9
              · subst a9
                go_enter Try.func66, Try.ntmps66
                go_wp2_with (first
                  | (go_at_call 27
                     refine (HG.out _).mono ?_
                     rintro e w2 ⟨⟨r2, va, vb⟩, rfl, q1, q2, q3⟩
                     obtain ⟨ok2, jk2, oa2, ja2, e1, e2⟩ := q2.form
                     dsimp only [Option.getD] at e1 e2 q1
                     subst e1 e2 q1
                     have hs2 := q3.size
                     simp only [World.size_alloc] at hs2
                     have HB2 := Lib.hid ((HB.out _).trans (q3.mono (by simp)))
                     have g2 := Lib.cell?_alloc_some (rcB (r2, .slice ok2 r2.ks.length jk2, .slice oa2 r2.ats.length ja2)) (keep_cell T0.out q3)
                     have g3 := Lib.cell?_alloc_some (rcB (r2, .slice ok2 r2.ks.length jk2, .slice oa2 r2.ats.length ja2)) (keep_cell T1.out q3)
                     have g4 := Lib.cell?_alloc_some (rcB (r2, .slice ok2 r2.ks.length jk2, .slice oa2 r2.ats.length ja2)) (keep_cell T2.out q3)
                     have HR2 := Lib.hid (rc_blk (World.alloc_heap_new w2 (rcB (r2, .slice ok2 r2.ks.length jk2, .slice oa2 r2.ats.length ja2)))).1
                     unfold rcB at g2 g3 g4 HR2
                     dsimp only at g2 g3 g4 HR2
                     clear q2 q3
                     unfold rcV
                     dsimp only)
                  | (go_at_call 93
                     refine (HRT.out _).mono ?_
                     rintro e w4 ⟨rfl, q4⟩
                     have hs4 := q4.size
                     simp only [World.size_alloc] at hs4
                     have HB4 := Lib.hid ((HB2.out.alloc (by omega) _).trans (q4.mono (by simp; omega)))
                     have t0 := keep_cell g2 q4
                     have t1 := keep_cell g3 q4
                     have t2 := keep_cell g4 q4
                     have r0 := keep_cell HR2.out.1 q4
                     have r1 := keep_cell HR2.out.2.1 q4
                     clear g2 g3 g4 q4)
                  | (go_at_call 65
                     refine (HN.out _).mono ?_
                     rintro e w5 ⟨rfl, q5⟩
                     have HB5 := Lib.hid (HB4.out.trans (q5.mono HB4.out.size))
                     have s0 := keep_cell t0 q5
                     have s1 := keep_cell t1 q5
                     have s2 := keep_cell t2 q5
                     have p0 := keep_cell r0 q5
                     have p1 := keep_cell r1 q5
                     clear t0 t1 t2 r0 r1 q5))
                go_ret
                exact ⟨by rw [HM.out]; rfl, HB5.out⟩
              · have b9 : (a == 9) = false := beq_eq_false_iff_ne.2 a9
                clear a9 ha
                go_enter Try.func66, Try.ntmps66
                go_wp2_with (first
                  | (go_at_call 27
                     refine (HG.out _).mono ?_
                     rintro e w2 ⟨⟨r2, va, vb⟩, rfl, q1, q2, q3⟩
                     obtain ⟨ok2, jk2, oa2, ja2, e1, e2⟩ := q2.form
                     dsimp only [Option.getD] at e1 e2 q1
                     subst e1 e2 q1
                     have hs2 := q3.size
                     simp only [World.size_alloc] at hs2
                     have HB2 := Lib.hid ((HB.out _).trans (q3.mono (by simp)))
                     have g2 := Lib.cell?_alloc_some (rcB (r2, .slice ok2 r2.ks.length jk2, .slice oa2 r2.ats.length ja2)) (keep_cell T0.out q3)
                     have g3 := Lib.cell?_alloc_some (rcB (r2, .slice ok2 r2.ks.length jk2, .slice oa2 r2.ats.length ja2)) (keep_cell T1.out q3)
                     have g4 := Lib.cell?_alloc_some (rcB (r2, .slice ok2 r2.ks.length jk2, .slice oa2 r2.ats.length ja2)) (keep_cell T2.out q3)
                     have HR2 := Lib.hid (rc_blk (World.alloc_heap_new w2 (rcB (r2, .slice ok2 r2.ks.length jk2, .slice oa2 r2.ats.length ja2)))).1
                     unfold rcB at g2 g3 g4 HR2
                     dsimp only at g2 g3 g4 HR2
                     clear q2 q3
                     unfold rcV
                     dsimp only)
                  | (go_at_call 93
                     refine (HRT.out _).mono ?_
                     rintro e w4 ⟨rfl, q4⟩
                     have hs4 := q4.size
                     simp only [World.size_alloc] at hs4
                     have HB4 := Lib.hid ((HB2.out.alloc (by omega) _).trans (q4.mono (by simp; omega)))
                     have t0 := keep_cell g2 q4
                     have t1 := keep_cell g3 q4
                     have t2 := keep_cell g4 q4
                     have r0 := keep_cell HR2.out.1 q4
                     have r1 := keep_cell HR2.out.2.1 q4
                     clear g2 g3 g4 q4)
                  | (go_at_call 65
                     refine (HN.out _).mono ?_
                     rintro e w5 ⟨rfl, q5⟩
                     have HB5 := Lib.hid (HB4.out.trans (q5.mono HB4.out.size))
                     have s0 := keep_cell t0 q5
                     have s1 := keep_cell t1 q5
                     have s2 := keep_cell t2 q5
                     have p0 := keep_cell r0 q5
                     have p1 := keep_cell r1 q5
                     clear t0 t1 t2 r0 r1 q5))
                go_ret
                exact ⟨by rw [HM.out]; rfl, HB5.out⟩
      · have HF := Lib.hid (matchT_no (a := a) (k := k) (nm := nm) (hs := hs) (r := r) (show (rightT k nm hs && decide (1 ≤ a ∧ a ≤ 12)) = false by rw [decide_eq_false ha, Bool.and_false]))
        have hx : (bs (nmX a)).toList.isEmpty = true := bs_emp _ _ (by
          by_cases h0 : a = 0
          · subst h0; rfl
          · rw [nmX_no (by omega)]; rfl)
        generalize nmX a = X at *
        clear hrt ha
        go_enter Try.func66, Try.ntmps66
        go_wp2_with (first
          | (go_at_call 27
             refine (HG.out _).mono ?_
             rintro e w2 ⟨⟨r2, va, vb⟩, rfl, q1, q2, q3⟩
             obtain ⟨ok2, jk2, oa2, ja2, e1, e2⟩ := q2.form
             dsimp only [Option.getD] at e1 e2 q1
             subst e1 e2 q1
             have hs2 := q3.size
             simp only [World.size_alloc] at hs2
             have HB2 := Lib.hid ((HB.out _).trans (q3.mono (by simp)))
             have g2 := Lib.cell?_alloc_some (rcB (r2, .slice ok2 r2.ks.length jk2, .slice oa2 r2.ats.length ja2)) (keep_cell T0.out q3)
             have g3 := Lib.cell?_alloc_some (rcB (r2, .slice ok2 r2.ks.length jk2, .slice oa2 r2.ats.length ja2)) (keep_cell T1.out q3)
             have g4 := Lib.cell?_alloc_some (rcB (r2, .slice ok2 r2.ks.length jk2, .slice oa2 r2.ats.length ja2)) (keep_cell T2.out q3)
             have HR2 := Lib.hid (rc_blk (World.alloc_heap_new w2 (rcB (r2, .slice ok2 r2.ks.length jk2, .slice oa2 r2.ats.length ja2)))).1
             unfold rcB at g2 g3 g4 HR2
             dsimp only at g2 g3 g4 HR2
             clear q2 q3
             unfold rcV
             dsimp only)
          | (go_at_call 93
             refine (HRT.out _).mono ?_
             rintro e w4 ⟨rfl, q4⟩
             have hs4 := q4.size
             simp only [World.size_alloc] at hs4
             have HB4 := Lib.hid ((HB2.out.alloc (by omega) _).trans (q4.mono (by simp; omega)))
             have t0 := keep_cell g2 q4
             have t1 := keep_cell g3 q4
             have t2 := keep_cell g4 q4
             have r0 := keep_cell HR2.out.1 q4
             have r1 := keep_cell HR2.out.2.1 q4
             clear g2 g3 g4 q4)
          | (go_at_call 65
             refine (HN.out _).mono ?_
             rintro e w5 ⟨rfl, q5⟩
             have HB5 := Lib.hid (HB4.out.trans (q5.mono HB4.out.size))
             have s0 := keep_cell t0 q5
             have s1 := keep_cell t1 q5
             have s2 := keep_cell t2 q5
             have p0 := keep_cell r0 q5
             have p1 := keep_cell r1 q5
             clear t0 t1 t2 r0 r1 q5))
        go_ret
        exact ⟨by rw [HF.out]; rfl, HB5.out⟩
end
end Go.Proofs.Ytkackejipgabfaa.Char
