/- The walk of the document's own All. -/
import Derived.Test.YtpimdmjhnogelaaVsOn
import Derived.Test.YtpimdmjhnogelaaRefSame9
import Derived.StillTailTactics
namespace Go.Proofs.Ytpimdmjhnogelaa.Char
open Go.RowKit Go.Lib

deriving instance DecidableEq for Ve
theorem ve_ne (x y : VeV) : (decide (toVe x = toVe y)) = (decide (x.1 = y.1) && decide (x.2.1 = y.2.1)) := by
  rw [Bool.eq_iff_iff]
  simp [toVe]
set_option maxRecDepth 100000 in
set_option maxHeartbeats 8000000 in
theorem all_any (xs ys : List VeV) (F G : Nat → Prop) (o1 : Option Addr) (j1 : Nat) (o2 : Option Addr) (j2 : Nat) (w : World) (hq : xs.length ≤ 2 ^ 62) (hs : ∀ x, x ∈ xs → RcSm x.2.1) (h1 : VsOn w F (.slice o1 xs.length j1) xs) (h2 : VsOn w G (.slice o2 ys.length j2) ys) :
    Calls Try.prog 45 #[.slice o1 xs.length j1, .slice o2 ys.length j2] w fun e w' => e = .returned (.bool (decide (xs.map toVe = ys.map toVe))) ∧ Below w.heap.size w w' := by
  have HS := Lib.hid hs
  clear hs
  by_cases hlen : xs.length = ys.length
  · have k0 : ((xs.length : Int) != (xs.length : Int)) = false := by simp
    rw [← hlen] at h2 ⊢
    have H1 := Lib.hid h1
    have H2 := Lib.hid h2
    have HL := Lib.hid hlen
    clear hlen h1 h2
    go_enter Try.func45, Try.ntmps45
    go_wp2_with fail
    go_loopw [5] (fun v wr => ∃ j : Nat, v = .int .i64 (j : Int) ∧ j ≤ xs.length ∧ Hid ((xs.map toVe).take j = (ys.map toVe).take j ∧ Below w.heap.size w wr)) (fun v _ => xs.length - (RowKit.intOf v).toNat)
    case atStart => exact ⟨0, rfl, Nat.zero_le _, Lib.hid ⟨by simp, Below.refl _ _⟩⟩
    case round =>
      obtain ⟨j, rfl, hj, HR⟩ := hrel
      by_cases hlt : j < xs.length
      · have hlt2 : j < ys.length := by have := HL.out; omega
        obtain ⟨g1, f1, rfl, hg1, ha, hra⟩ := (H1.out.below HR.out.2).reads j hlt
        obtain ⟨g2, f2, rfl, hg2, hb, hrb⟩ := (H2.out.below HR.out.2).reads j hlt2
        have hsm := HS.out xs[j] (List.getElem_mem hlt)
        have hts : toVe xs[j] = toVe ys[j] → (xs.map toVe).take (j + 1) = (ys.map toVe).take (j + 1) := fun h => take_eq_succ (by simpa using hlt) (by simpa using hlt2) HR.out.1 (by simpa using h)
        have hxy : toVe xs[j] ≠ toVe ys[j] → xs.map toVe ≠ ys.map toVe := fun h e => h (by
          have e2 := congrArg (fun l => l[j]?) e
          simpa [hlt, hlt2] using e2)
        have hve := ve_ne xs[j] ys[j]
        generalize xs[j] = x at *
        generalize ys[j] = y at *
        obtain ⟨tx, x⟩ := x
        obtain ⟨ty, y⟩ := y
        obtain ⟨r, va, vb⟩ := x
        obtain ⟨r', va', vb'⟩ := y
        obtain ⟨oa, ja, ob, jb, e1, e2⟩ := hra.form
        obtain ⟨oa', ja', ob', jb', e3, e4⟩ := hrb.form
        dsimp only at e1 e2 e3 e4
        subst e1 e2 e3 e4
        obtain ⟨a0, a1, a2, a3, a4, a5, a6, a7⟩ := ha.cells
        obtain ⟨b0, b1, b2, b3, b4, b5, b6, b7⟩ := hb.cells
        dsimp only at a0 a1 a2 a3 a4 a5 a6 a7 b0 b1 b2 b3 b4 b5 b6 b7
        clear ha hb
        have HC := Lib.hid (refSame_any r r' oa ja ob jb oa' ja' ob' jb' wr.drew F G (hra.1.move fun b _ hF => ⟨hF, rfl⟩) (hra.2.move fun b _ hF => ⟨hF, rfl⟩) (hrb.1.move fun b _ hF => ⟨hF, rfl⟩) (hrb.2.move fun b _ hF => ⟨hF, rfl⟩) (Nat.le_trans hsm.1 (by decide)) (Nat.le_trans hsm.2 (by decide)))
        clear hra hrb hsm
        by_cases ht : tx = ty
        · have k1 : ((tx : Int) != (ty : Int)) = false := by rw [ht]; simp
          have hve2 := hve
          rw [decide_eq_true ht, Bool.true_and] at hve2
          cases hr : decide (r = r') with
          | false =>
            have HT := Lib.hid (hxy (of_decide_eq_false (hve2.trans hr)))
            rw [hr] at HC
            clear hts hxy hve hve2 hr ht
            go_wp2_with fail
            go_still_tail 22, (by kernel_rfl)
            change wpList _ _ _ _ _ wr.drew
            go_wp2_with fail
            refine HC.out.mono ?_
            rintro e w2 ⟨rfl, hb2⟩
            have HB2 := Lib.hid (HR.out.2.drew.trans (hb2.mono HR.out.2.drew.size))
            clear hb2
            go_wp2_with fail
            go_ret
            exact ⟨by rw [decide_eq_false HT.out]; rfl, HB2.out⟩
          | true =>
            have HT := Lib.hid (hts (of_decide_eq_true (hve2.trans hr)))
            rw [hr] at HC
            clear hts hxy hve hve2 hr ht
            go_wp2_with fail
            go_still_tail 22, (by kernel_rfl)
            change wpList _ _ _ _ _ wr.drew
            go_wp2_with fail
            refine HC.out.mono ?_
            rintro e w2 ⟨rfl, hb2⟩
            have HB2 := Lib.hid (HR.out.2.drew.trans (hb2.mono HR.out.2.drew.size))
            clear hb2
            go_wp2_with fail
            go_roundw
            case rel => exact ⟨j + 1, by go_num, by omega, Lib.hid ⟨HT.out, HB2.out⟩⟩
            case measure => simp [RowKit.intOf]; omega
        · have k1 : ((tx : Int) != (ty : Int)) = true := by rw [bne_iff_ne]; omega
          have HT := Lib.hid (hxy (of_decide_eq_false (by rw [hve, decide_eq_false ht]; rfl)))
          clear hts hxy hve ht
          go_wp2_with fail
          go_quiet (fail)
          go_wp2_with fail
          go_ret
          exact ⟨by rw [decide_eq_false HT.out]; rfl, HR.out.2.trans (below_drewN _ _ _)⟩
      · have e : j = xs.length := by omega
        subst e
        have HT := Lib.hid (show xs.map toVe = ys.map toVe by
          have := HR.out.1
          rwa [List.take_of_length_le (by simp), List.take_of_length_le (by have := HL.out; simp; omega)] at this)
        go_wp2_with fail
        go_ret
        exact ⟨by rw [decide_eq_true HT.out]; rfl, HR.out.2⟩
  · have k0 : ((xs.length : Int) != (ys.length : Int)) = true := by simp; omega
    go_enter Try.func45, Try.ntmps45
    go_wp2_with fail
    go_ret
    exact ⟨by rw [decide_eq_false (fun e => hlen (by have := congrArg List.length e; simpa using this))]; rfl, Below.refl _ _⟩
end Go.Proofs.Ytpimdmjhnogelaa.Char
