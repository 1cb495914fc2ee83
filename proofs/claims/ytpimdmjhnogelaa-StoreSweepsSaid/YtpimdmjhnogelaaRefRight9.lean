/- The walk of the document's own Right (by gen_refright.py). -/
import Derived.Test.YtpimdmjhnogelaaIntsW
import Derived.Test.YtpimdmjhnogelaaStoP
namespace Go.Proofs.Ytpimdmjhnogelaa.Char
open Go.RowKit Go.Lib

set_option maxRecDepth 100000 in
set_option maxHeartbeats 8000000 in
theorem refRight_any (r : Rc) (ok : Option Addr) (jk : Nat) (oa : Option Addr) (ja : Nat) (w : World) (F : Nat → Prop) (hk : IntsOn w F (.slice ok r.ks.length jk) r.ks) (ha : IntsOn w F (.slice oa r.ats.length ja) r.ats) (hz : r.ks.length ≤ 2 ^ 62) (hz2 : r.ats.length ≤ 2 ^ 62) :
    Calls Try.prog 72 #[.agg #[.int .i64 r.kd, .string (bs r.nm), .string (bs r.tx), .int .i64 r.pa, .slice ok r.ks.length jk, .slice oa r.ats.length ja, .bool r.gone]] w fun e w' => e = .returned (.bool (rightR r)) ∧ Below w.heap.size w w' := by
  obtain ⟨W1, hW1⟩ : ∃ W1, W1 = w.alloc (.cells #[.int .i64 r.kd, .string (bs r.nm), .string (bs r.tx), .int .i64 r.pa, .slice ok r.ks.length jk, .slice oa r.ats.length ja, .bool r.gone] 37) := ⟨_, rfl⟩
  have hb1 : Below w.heap.size w W1 := by rw [hW1]; exact (Below.refl _ _).alloc (Nat.le_refl _) _
  have HL := Lib.hid (low_any r.ks F ok jk W1 hz (hk.move fun b hb hF => ⟨hF, hb1.block b hb⟩))
  have HM := Lib.hid (low_any r.ats F oa ja W1 hz2 (ha.move fun b hb hF => ⟨hF, hb1.block b hb⟩))
  have hbk : W1.heap[w.heap.size]? = some (.cells #[.int .i64 r.kd, .string (bs r.nm), .string (bs r.tx), .int .i64 r.pa, .slice ok r.ks.length jk, .slice oa r.ats.length ja, .bool r.gone] 37 (0, 0)) := by rw [hW1]; exact World.alloc_heap_new w _
  have z0 : W1.cell? ⟨w.heap.size, 0, none⟩ = some (.int .i64 r.kd) := by simp [World.cell?, hbk]
  have z1 : W1.cell? ⟨w.heap.size, 1, none⟩ = some (.string (bs r.nm)) := by simp [World.cell?, hbk]
  have z2 : W1.cell? ⟨w.heap.size, 2, none⟩ = some (.string (bs r.tx)) := by simp [World.cell?, hbk]
  have z3 : W1.cell? ⟨w.heap.size, 3, none⟩ = some (.int .i64 r.pa) := by simp [World.cell?, hbk]
  have z4 : W1.cell? ⟨w.heap.size, 4, none⟩ = some (.slice ok r.ks.length jk) := by simp [World.cell?, hbk]
  have z5 : W1.cell? ⟨w.heap.size, 5, none⟩ = some (.slice oa r.ats.length ja) := by simp [World.cell?, hbk]
  have z6 : W1.cell? ⟨w.heap.size, 6, none⟩ = some (.bool r.gone) := by simp [World.cell?, hbk]
  have HB1 := Lib.hid hb1
  have HW1 := Lib.hid hW1
  clear hW1 hb1 hbk hk ha
  have hdef : rightR r = if r.gone then decide (r.kd = 0) && r.nm.isEmpty && r.tx.isEmpty && decide (r.pa = 0) && r.ks.isEmpty && r.ats.isEmpty
    else decide (1 ≤ r.kd) && decide (r.kd ≤ 6) && decide (0 ≤ r.pa) && !(lowL r.ks) && !(lowL r.ats) := rfl
  have hn1 : ((bs r.nm).toList == []) = r.nm.isEmpty := by rw [bs_tl]; cases r.nm <;> rfl
  have hx1 : ((bs r.tx).toList == []) = r.tx.isEmpty := by rw [bs_tl]; cases r.tx <;> rfl
  have hn0 : (bs r.nm).toList.isEmpty = r.nm.isEmpty := by rw [bs_tl]
  have hx0 : (bs r.tx).toList.isEmpty = r.tx.isEmpty := by rw [bs_tl]
  have hki : r.ks.isEmpty = decide (r.ks.length = 0) := by cases r.ks <;> rfl
  have hai : r.ats.isEmpty = decide (r.ats.length = 0) := by cases r.ats <;> rfl
  rw [hki, hai] at hdef
  clear hki hai
  obtain ⟨R, hR⟩ : ∃ R, rightR r = R := ⟨_, rfl⟩
  rw [hR] at hdef ⊢
  clear hR
  generalize lowL r.ks = b_lk at *
  generalize lowL r.ats = b_la at *
  generalize r.nm.isEmpty = b_n at *
  generalize r.tx.isEmpty = b_x at *
  cases hg : r.gone with
  | true =>
    rw [hg] at hdef z6 HW1
    by_cases h0 : r.kd = 0
    · rw [decide_eq_true h0] at hdef
      have k0 : (r.kd == 0) = true := by rw [h0]; rfl
      clear h0
      cases b_n with
      | true =>
        cases b_x with
        | true =>
          by_cases h3 : r.pa = 0
          · rw [decide_eq_true h3] at hdef
            have k3 : (r.pa == 0) = true := by rw [h3]; rfl
            clear h3
            by_cases h4 : r.ks.length = 0
            · rw [decide_eq_true h4] at hdef
              have k4 : ((r.ks.length : Int) == 0) = true := by rw [h4]; rfl
              clear h4
              by_cases h5 : r.ats.length = 0
              · rw [decide_eq_true h5] at hdef
                have k5 : ((r.ats.length : Int) == 0) = true := by rw [h5]; rfl
                clear h5
                have HD := Lib.hid hdef
                clear hdef
                go_enter Try.func72, Try.ntmps72
                go_wp2_with fail
                go_ret
                exact ⟨by rw [HD.out]; rfl, by rw [← HW1.out]; exact HB1.out⟩
              · rw [decide_eq_false h5] at hdef
                have k5 : ((r.ats.length : Int) == 0) = false := by rw [beq_eq_false_iff_ne]; omega
                clear h5
                have HD := Lib.hid hdef
                clear hdef
                go_enter Try.func72, Try.ntmps72
                go_wp2_with fail
                go_ret
                exact ⟨by rw [HD.out]; rfl, by rw [← HW1.out]; exact HB1.out⟩
            · rw [decide_eq_false h4] at hdef
              have k4 : ((r.ks.length : Int) == 0) = false := by rw [beq_eq_false_iff_ne]; omega
              clear h4
              have HD := Lib.hid hdef
              clear hdef
              go_enter Try.func72, Try.ntmps72
              go_wp2_with fail
              go_ret
              exact ⟨by rw [HD.out]; rfl, by rw [← HW1.out]; exact HB1.out⟩
          · rw [decide_eq_false h3] at hdef
            have k3 : (r.pa == 0) = false := by rw [beq_eq_false_iff_ne]; exact h3
            clear h3
            have HD := Lib.hid hdef
            clear hdef
            go_enter Try.func72, Try.ntmps72
            go_wp2_with fail
            go_ret
            exact ⟨by rw [HD.out]; rfl, by rw [← HW1.out]; exact HB1.out⟩
        | false =>
          have HD := Lib.hid hdef
          clear hdef
          go_enter Try.func72, Try.ntmps72
          go_wp2_with fail
          go_ret
          exact ⟨by rw [HD.out]; rfl, by rw [← HW1.out]; exact HB1.out⟩
      | false =>
        have HD := Lib.hid hdef
        clear hdef
        go_enter Try.func72, Try.ntmps72
        go_wp2_with fail
        go_ret
        exact ⟨by rw [HD.out]; rfl, by rw [← HW1.out]; exact HB1.out⟩
    · rw [decide_eq_false h0] at hdef
      have k0 : (r.kd == 0) = false := by rw [beq_eq_false_iff_ne]; exact h0
      clear h0
      have HD := Lib.hid hdef
      clear hdef
      go_enter Try.func72, Try.ntmps72
      go_wp2_with fail
      go_ret
      exact ⟨by rw [HD.out]; rfl, by rw [← HW1.out]; exact HB1.out⟩
  | false =>
    rw [hg] at hdef z6 HW1
    by_cases h0 : 1 ≤ r.kd
    · rw [decide_eq_true h0] at hdef
      by_cases h1 : r.kd ≤ 6
      · rw [decide_eq_true h1] at hdef
        by_cases h2 : 0 ≤ r.pa
        · rw [decide_eq_true h2] at hdef
          cases b_lk with
          | true =>
            have HD := Lib.hid hdef
            clear hdef
            go_enter Try.func72, Try.ntmps72
            go_wp2_with fail
            rw [← HW1.out]
            refine HL.out.mono ?_
            rintro e w1 ⟨rfl, rfl⟩
            go_wp2_with fail
            go_ret
            exact ⟨by rw [HD.out]; rfl, HB1.out⟩
          | false =>
            cases b_la with
            | true =>
              have HD := Lib.hid hdef
              clear hdef
              go_enter Try.func72, Try.ntmps72
              go_wp2_with fail
              rw [← HW1.out]
              refine HL.out.mono ?_
              rintro e w1 ⟨rfl, rfl⟩
              go_wp2_with fail
              refine HM.out.mono ?_
              rintro e w1 ⟨rfl, rfl⟩
              go_wp2_with fail
              go_ret
              exact ⟨by rw [HD.out]; rfl, HB1.out⟩
            | false =>
              have HD := Lib.hid hdef
              clear hdef
              go_enter Try.func72, Try.ntmps72
              go_wp2_with fail
              rw [← HW1.out]
              refine HL.out.mono ?_
              rintro e w1 ⟨rfl, rfl⟩
              go_wp2_with fail
              refine HM.out.mono ?_
              rintro e w1 ⟨rfl, rfl⟩
              go_wp2_with fail
              go_ret
              exact ⟨by rw [HD.out]; rfl, HB1.out⟩
        · rw [decide_eq_false h2] at hdef
          have HD := Lib.hid hdef
          clear hdef
          go_enter Try.func72, Try.ntmps72
          go_wp2_with fail
          go_ret
          exact ⟨by rw [HD.out]; rfl, by rw [← HW1.out]; exact HB1.out⟩
      · rw [decide_eq_false h1] at hdef
        have HD := Lib.hid hdef
        clear hdef
        go_enter Try.func72, Try.ntmps72
        go_wp2_with fail
        go_ret
        exact ⟨by rw [HD.out]; rfl, by rw [← HW1.out]; exact HB1.out⟩
    · rw [decide_eq_false h0] at hdef
      have HD := Lib.hid hdef
      clear hdef
      go_enter Try.func72, Try.ntmps72
      go_wp2_with fail
      go_ret
      exact ⟨by rw [HD.out]; rfl, by rw [← HW1.out]; exact HB1.out⟩
end Go.Proofs.Ytpimdmjhnogelaa.Char
