/- The walk of the document's own Same (by gen_refsame.py). -/
import Derived.Test.YtpimdmjhnogelaaIntsW
namespace Go.Proofs.Ytpimdmjhnogelaa.Char
open Go.RowKit Go.Lib

theorem same_def (a b : Rc) : decide (a = b) = (decide (a.kd = b.kd) && decide (a.nm = b.nm) && decide (a.tx = b.tx) && decide (a.pa = b.pa) && decide (a.gone = b.gone) && decide (a.ks = b.ks) && decide (a.ats = b.ats)) := by
  obtain ⟨a1, a2, a3, a4, a5, a6, a7⟩ := a
  obtain ⟨b1, b2, b3, b4, b5, b6, b7⟩ := b
  rw [Bool.eq_iff_iff]
  simp only [decide_eq_true_eq, Bool.and_eq_true, Rc.mk.injEq]
  constructor
  · rintro ⟨h1, h2, h3, h4, h5, h6, h7⟩; exact ⟨⟨⟨⟨⟨⟨h1, h2⟩, h3⟩, h4⟩, h7⟩, h5⟩, h6⟩
  · rintro ⟨⟨⟨⟨⟨⟨h1, h2⟩, h3⟩, h4⟩, h7⟩, h5⟩, h6⟩; exact ⟨h1, h2, h3, h4, h5, h6, h7⟩
set_option maxRecDepth 100000 in
set_option maxHeartbeats 8000000 in
theorem refSame_any (a b : Rc) (ok : Option Addr) (jk : Nat) (oa : Option Addr) (ja : Nat) (pk : Option Addr) (lk : Nat) (pa : Option Addr) (la : Nat) (w : World) (F G : Nat → Prop) (hk : IntsOn w F (.slice ok a.ks.length jk) a.ks) (ha : IntsOn w F (.slice oa a.ats.length ja) a.ats)
    (hk' : IntsOn w G (.slice pk b.ks.length lk) b.ks) (ha' : IntsOn w G (.slice pa b.ats.length la) b.ats) (hz : a.ks.length ≤ 2 ^ 62) (hz2 : a.ats.length ≤ 2 ^ 62) :
    Calls Try.prog 14 #[.agg #[.int .i64 a.kd, .string (bs a.nm), .string (bs a.tx), .int .i64 a.pa, .slice ok a.ks.length jk, .slice oa a.ats.length ja, .bool a.gone], .agg #[.int .i64 b.kd, .string (bs b.nm), .string (bs b.tx), .int .i64 b.pa, .slice pk b.ks.length lk, .slice pa b.ats.length la, .bool b.gone]] w fun e w' => e = .returned (.bool (decide (a = b))) ∧ Below w.heap.size w w' := by
  obtain ⟨W1, hW1⟩ : ∃ W1, W1 = (w.alloc (.cells #[.int .i64 a.kd, .string (bs a.nm), .string (bs a.tx), .int .i64 a.pa, .slice ok a.ks.length jk, .slice oa a.ats.length ja, .bool a.gone] 37)).alloc (.cells #[.int .i64 b.kd, .string (bs b.nm), .string (bs b.tx), .int .i64 b.pa, .slice pk b.ks.length lk, .slice pa b.ats.length la, .bool b.gone] 37) := ⟨_, rfl⟩
  have hb1 : Below w.heap.size w W1 := by rw [hW1]; exact ((Below.refl _ _).alloc (Nat.le_refl _) _).alloc (by simp) _
  have mv : ∀ n b, b < w.heap.size → (W1.drewN n).heap[b]? = w.heap[b]? := fun n b hb => hb1.block b hb
  have HK := Lib.hid (fun n => ints_any a.ks b.ks F G ok jk pk lk (W1.drewN n) hz (hk.move fun b hb hF => ⟨hF, mv n b hb⟩) (hk'.move fun b hb hF => ⟨hF, mv n b hb⟩))
  have HA := Lib.hid (fun n => ints_any a.ats b.ats F G oa ja pa la (W1.drewN n) hz2 (ha.move fun b hb hF => ⟨hF, mv n b hb⟩) (ha'.move fun b hb hF => ⟨hF, mv n b hb⟩))
  have hbk : W1.heap[w.heap.size]? = some (.cells #[.int .i64 a.kd, .string (bs a.nm), .string (bs a.tx), .int .i64 a.pa, .slice ok a.ks.length jk, .slice oa a.ats.length ja, .bool a.gone] 37 (0, 0)) := by rw [hW1, Below.heap_alloc _ _ _ (by simp)]; exact World.alloc_heap_new w _
  have hbl : W1.heap[w.heap.size + 1]? = some (.cells #[.int .i64 b.kd, .string (bs b.nm), .string (bs b.tx), .int .i64 b.pa, .slice pk b.ks.length lk, .slice pa b.ats.length la, .bool b.gone] 37 (0, 0)) := by rw [hW1]; have := World.alloc_heap_new (w.alloc (.cells #[.int .i64 a.kd, .string (bs a.nm), .string (bs a.tx), .int .i64 a.pa, .slice ok a.ks.length jk, .slice oa a.ats.length ja, .bool a.gone] 37)) (.cells #[.int .i64 b.kd, .string (bs b.nm), .string (bs b.tx), .int .i64 b.pa, .slice pk b.ks.length lk, .slice pa b.ats.length la, .bool b.gone] 37); simpa using this
  have z0 : ∀ n, (W1.drewN n).cell? ⟨w.heap.size, 0, none⟩ = some (.int .i64 a.kd) := fun n => by show W1.cell? _ = _; simp [World.cell?, hbk]
  have z1 : ∀ n, (W1.drewN n).cell? ⟨w.heap.size, 1, none⟩ = some (.string (bs a.nm)) := fun n => by show W1.cell? _ = _; simp [World.cell?, hbk]
  have z2 : ∀ n, (W1.drewN n).cell? ⟨w.heap.size, 2, none⟩ = some (.string (bs a.tx)) := fun n => by show W1.cell? _ = _; simp [World.cell?, hbk]
  have z3 : ∀ n, (W1.drewN n).cell? ⟨w.heap.size, 3, none⟩ = some (.int .i64 a.pa) := fun n => by show W1.cell? _ = _; simp [World.cell?, hbk]
  have z4 : ∀ n, (W1.drewN n).cell? ⟨w.heap.size, 4, none⟩ = some (.slice ok a.ks.length jk) := fun n => by show W1.cell? _ = _; simp [World.cell?, hbk]
  have z5 : ∀ n, (W1.drewN n).cell? ⟨w.heap.size, 5, none⟩ = some (.slice oa a.ats.length ja) := fun n => by show W1.cell? _ = _; simp [World.cell?, hbk]
  have z6 : ∀ n, (W1.drewN n).cell? ⟨w.heap.size, 6, none⟩ = some (.bool a.gone) := fun n => by show W1.cell? _ = _; simp [World.cell?, hbk]
  have y0 : ∀ n, (W1.drewN n).cell? ⟨w.heap.size + 1, 0, none⟩ = some (.int .i64 b.kd) := fun n => by show W1.cell? _ = _; simp [World.cell?, hbl]
  have y1 : ∀ n, (W1.drewN n).cell? ⟨w.heap.size + 1, 1, none⟩ = some (.string (bs b.nm)) := fun n => by show W1.cell? _ = _; simp [World.cell?, hbl]
  have y2 : ∀ n, (W1.drewN n).cell? ⟨w.heap.size + 1, 2, none⟩ = some (.string (bs b.tx)) := fun n => by show W1.cell? _ = _; simp [World.cell?, hbl]
  have y3 : ∀ n, (W1.drewN n).cell? ⟨w.heap.size + 1, 3, none⟩ = some (.int .i64 b.pa) := fun n => by show W1.cell? _ = _; simp [World.cell?, hbl]
  have y4 : ∀ n, (W1.drewN n).cell? ⟨w.heap.size + 1, 4, none⟩ = some (.slice pk b.ks.length lk) := fun n => by show W1.cell? _ = _; simp [World.cell?, hbl]
  have y5 : ∀ n, (W1.drewN n).cell? ⟨w.heap.size + 1, 5, none⟩ = some (.slice pa b.ats.length la) := fun n => by show W1.cell? _ = _; simp [World.cell?, hbl]
  have y6 : ∀ n, (W1.drewN n).cell? ⟨w.heap.size + 1, 6, none⟩ = some (.bool b.gone) := fun n => by show W1.cell? _ = _; simp [World.cell?, hbl]
  have HB1 := Lib.hid hb1
  have HW1 := Lib.hid hW1
  have HZ := Lib.hid (And.intro (And.intro z4 z5) (And.intro y4 y5))
  clear hW1 hb1 mv hbk hbl hk ha hk' ha'
  have hdef := same_def a b
  obtain ⟨R, hR⟩ : ∃ R, decide (a = b) = R := ⟨_, rfl⟩
  rw [hR] at hdef ⊢
  clear hR
  have x0 := z0 0
  have q0 := y0 0
  have x1 := z1 0
  have q1 := y1 0
  have x2 := z2 0
  have q2 := y2 0
  have x3 := z3 0
  have q3 := y3 0
  have x4 := z4 0
  have q4 := y4 0
  have x5 := z5 0
  have q5 := y5 0
  have x6 := z6 0
  have q6 := y6 0
  clear z0 z1 z2 z3 z4 z5 z6 y0 y1 y2 y3 y4 y5 y6
  change W1.cell? _ = _ at x0
  change W1.cell? _ = _ at q0
  change W1.cell? _ = _ at x1
  change W1.cell? _ = _ at q1
  change W1.cell? _ = _ at x2
  change W1.cell? _ = _ at q2
  change W1.cell? _ = _ at x3
  change W1.cell? _ = _ at q3
  change W1.cell? _ = _ at x4
  change W1.cell? _ = _ at q4
  change W1.cell? _ = _ at x5
  change W1.cell? _ = _ at q5
  change W1.cell? _ = _ at x6
  change W1.cell? _ = _ at q6
  by_cases h0 : a.kd = b.kd
  · rw [decide_eq_true h0] at hdef
    have k0 : (a.kd == b.kd) = true := by rw [h0, beq_self_eq_true]
    clear h0
    by_cases h1 : a.nm = b.nm
    · rw [decide_eq_true h1] at hdef
      have k1 : ((bs a.nm).toList == (bs b.nm).toList) = true := by rw [bs_tl, bs_tl]; rw [h1, beq_self_eq_true]
      clear h1
      by_cases h2 : a.tx = b.tx
      · rw [decide_eq_true h2] at hdef
        have k2 : ((bs a.tx).toList == (bs b.tx).toList) = true := by rw [bs_tl, bs_tl]; rw [h2, beq_self_eq_true]
        clear h2
        by_cases h3 : a.pa = b.pa
        · rw [decide_eq_true h3] at hdef
          have k3 : (a.pa == b.pa) = true := by rw [h3, beq_self_eq_true]
          clear h3
          by_cases h4 : a.gone = b.gone
          · rw [decide_eq_true h4] at hdef
            have k4 : (a.gone == b.gone) = true := by rw [h4, beq_self_eq_true]
            clear h4
            cases hks : decide (a.ks = b.ks) with
            | true =>
              rw [hks] at hdef
              cases has : decide (a.ats = b.ats) with
              | true =>
                rw [has] at hdef
                have HD := Lib.hid hdef
                clear hdef
                go_enter Try.func14, Try.ntmps14
                go_wp2_with fail
                rw [← HW1.out]
                refine (HK.out 0).mono ?_
                rintro e w1 ⟨rfl, n, rfl⟩
                rw [hks]
                rw [World.drewN_drewN, Nat.zero_add]
                have x4 := HZ.out.1.1 n
                have x5 := HZ.out.1.2 n
                have q4 := HZ.out.2.1 n
                have q5 := HZ.out.2.2 n
                go_wp2_with fail
                refine (HA.out n).mono ?_
                rintro e w1 ⟨rfl, m, rfl⟩
                rw [has]
                go_wp2_with fail
                go_ret
                exact ⟨by rw [HD.out]; rfl, HB1.out.trans (below_drewN _ _ _)⟩
              | false =>
                rw [has] at hdef
                have HD := Lib.hid hdef
                clear hdef
                go_enter Try.func14, Try.ntmps14
                go_wp2_with fail
                rw [← HW1.out]
                refine (HK.out 0).mono ?_
                rintro e w1 ⟨rfl, n, rfl⟩
                rw [hks]
                rw [World.drewN_drewN, Nat.zero_add]
                have x4 := HZ.out.1.1 n
                have x5 := HZ.out.1.2 n
                have q4 := HZ.out.2.1 n
                have q5 := HZ.out.2.2 n
                go_wp2_with fail
                refine (HA.out n).mono ?_
                rintro e w1 ⟨rfl, m, rfl⟩
                rw [has]
                go_wp2_with fail
                go_ret
                exact ⟨by rw [HD.out]; rfl, HB1.out.trans (below_drewN _ _ _)⟩
            | false =>
              rw [hks] at hdef
              have HD := Lib.hid hdef
              clear hdef
              go_enter Try.func14, Try.ntmps14
              go_wp2_with fail
              rw [← HW1.out]
              refine (HK.out 0).mono ?_
              rintro e w1 ⟨rfl, n, rfl⟩
              rw [hks]
              go_wp2_with fail
              go_ret
              exact ⟨by rw [HD.out]; rfl, HB1.out.trans (below_drewN _ _ _)⟩
          · rw [decide_eq_false h4] at hdef
            have k4 : (a.gone == b.gone) = false := beq_eq_false_iff_ne.2 h4
            clear h4
            have HD := Lib.hid hdef
            clear hdef
            go_enter Try.func14, Try.ntmps14
            go_wp2_with fail
            go_ret
            exact ⟨by rw [HD.out]; rfl, by rw [← HW1.out]; exact HB1.out⟩
        · rw [decide_eq_false h3] at hdef
          have k3 : (a.pa == b.pa) = false := beq_eq_false_iff_ne.2 h3
          clear h3
          have HD := Lib.hid hdef
          clear hdef
          go_enter Try.func14, Try.ntmps14
          go_wp2_with fail
          go_ret
          exact ⟨by rw [HD.out]; rfl, by rw [← HW1.out]; exact HB1.out⟩
      · rw [decide_eq_false h2] at hdef
        have k2 : ((bs a.tx).toList == (bs b.tx).toList) = false := by rw [bs_tl, bs_tl]; exact beq_eq_false_iff_ne.2 h2
        clear h2
        have HD := Lib.hid hdef
        clear hdef
        go_enter Try.func14, Try.ntmps14
        go_wp2_with fail
        go_ret
        exact ⟨by rw [HD.out]; rfl, by rw [← HW1.out]; exact HB1.out⟩
    · rw [decide_eq_false h1] at hdef
      have k1 : ((bs a.nm).toList == (bs b.nm).toList) = false := by rw [bs_tl, bs_tl]; exact beq_eq_false_iff_ne.2 h1
      clear h1
      have HD := Lib.hid hdef
      clear hdef
      go_enter Try.func14, Try.ntmps14
      go_wp2_with fail
      go_ret
      exact ⟨by rw [HD.out]; rfl, by rw [← HW1.out]; exact HB1.out⟩
  · rw [decide_eq_false h0] at hdef
    have k0 : (a.kd == b.kd) = false := beq_eq_false_iff_ne.2 h0
    clear h0
    have HD := Lib.hid hdef
    clear hdef
    go_enter Try.func14, Try.ntmps14
    go_wp2_with fail
    go_ret
    exact ⟨by rw [HD.out]; rfl, by rw [← HW1.out]; exact HB1.out⟩
end Go.Proofs.Ytpimdmjhnogelaa.Char
