/- The law on kinds (written by gen_kinds.py). -/
import Derived.Test.YtpdbanaffohblaaGreatDoorPk24
namespace Go.Proofs.YtpdbanaffohblaaGreatDoor.Char
open Go.RowKit Go.Lib

theorem finT_err {m : Bool} {t e : Int} {y : Int ⊕ Bool} (h : finT m t y = .inl e) : y = .inl e ∨ e = 35 := by
  cases y with
  | inl k => cases h; exact .inl rfl
  | inr b =>
    unfold finT at h
    dsimp only at h
    split at h
    · cases h
    · cases h; exact .inr rfl
mutual
theorem ckE_err : ∀ (x : Ex) (n : Nat) (e : Int), rightE x = true → ckE x n = .inl e → e ≠ 0
  | .mk op s tg vl ab ks ss, n, e, hr, h => by
    rw [rightE, Bool.and_eq_true, Bool.and_eq_true] at hr
    obtain ⟨hf, hk, hs⟩ := hr
    have hks := fun m t (h : finT m t (ckKs ks n) = .inl e) => show e ≠ 0 from by
      rcases finT_err h with h | h
      · exact ckKs_err ks n e hk h
      · omega
    rw [ckE] at h
    split at h
    · exact hks _ _ h
    · split at h
      · exact hks _ _ h
      · split at h
        · exact hks _ _ h
        · split at h
          · cases hq : finT true 1 (ckKs ks n) with
            | inl k => rw [hq] at h; cases h; exact hks _ _ hq
            | inr t =>
              rw [hq] at h
              dsimp only at h
              cases hz : ckSs ss n with
              | none => rw [hz] at h; cases h
              | some k => rw [hz] at h; cases h; exact ckSs_err ss n _ hs hz
          · split at h
            · rename_i h17
              have hl := (right_op hf).2.2 h17
              match ks, hk, hl, h with
              | [], _, hl, _ => simp at hl
              | k :: r, hk, _, h =>
                rw [rightEs, Bool.and_eq_true] at hk
                rw [ckF] at h
                cases hq : ckE k n with
                | inl z => rw [hq] at h; cases h; exact ckE_err k n _ hk.1 hq
                | inr t =>
                  rw [hq] at h
                  dsimp only at h
                  split at h
                  · cases hz : ckPs r n with
                    | none => rw [hz] at h; cases h
                    | some z => rw [hz] at h; cases h; exact ckPs_err r n _ hk.2 hz
                  · cases h; omega
            · split at h
              · cases h
              · split at h
                · cases h
                · split at h
                  · cases hq : fnF s with
                    | none => rw [hq] at h; cases h; omega
                    | some f =>
                      rw [hq] at h
                      dsimp only at h
                      split at h
                      · cases h; omega
                      · exact hks _ _ h
                  · cases h; omega
theorem ckKs_err : ∀ (ks : List Ex) (n : Nat) (e : Int), rightEs ks = true → ckKs ks n = .inl e → e ≠ 0
  | [], _, _, _, h => by rw [ckKs] at h; cases h
  | k :: r, n, e, hr, h => by
    rw [rightEs, Bool.and_eq_true] at hr
    rw [ckKs] at h
    cases hq : ckE k n with
    | inl z => rw [hq] at h; cases h; exact ckE_err k n _ hr.1 hq
    | inr t =>
      rw [hq] at h
      dsimp only at h
      cases hz : ckKs r n with
      | inl z => rw [hz] at h; cases h; exact ckKs_err r n _ hr.2 hz
      | inr b => rw [hz] at h; cases h
theorem ckPs_err : ∀ (ks : List Ex) (n : Nat) (e : Int), rightEs ks = true → ckPs ks n = some e → e ≠ 0
  | [], _, _, _, h => by rw [ckPs] at h; cases h
  | k :: r, n, e, hr, h => by
    rw [rightEs, Bool.and_eq_true] at hr
    rw [ckPs] at h
    split at h
    · cases h; omega
    · cases hq : ckE k (n + 1) with
      | inl z => rw [hq] at h; cases h; exact ckE_err k (n + 1) _ hr.1 hq
      | inr t => rw [hq] at h; exact ckPs_err r n e hr.2 h
theorem ckSs_err : ∀ (ss : List St) (n : Nat) (e : Int), rightSs ss = true → ckSs ss n = some e → e ≠ 0
  | [], _, _, _, h => by rw [ckSs] at h; cases h
  | k :: r, n, e, hr, h => by
    rw [rightSs, Bool.and_eq_true] at hr
    rw [ckSs] at h
    cases hq : ckS k n with
    | some z => rw [hq] at h; cases h; exact ckS_err k n _ hr.1 hq
    | none => rw [hq] at h; exact ckSs_err r n e hr.2 h
theorem ckS_err : ∀ (x : St) (n : Nat) (e : Int), rightS x = true → ckS x n = some e → e ≠ 0
  | .mk _ _ _ _ ps, n, e, hr, h => by
    rw [rightS, Bool.and_eq_true] at hr
    rw [ckS] at h
    exact ckPs_err ps n e hr.2 h
end
theorem finT_ty {m : Bool} {t e : Int} {y : Int ⊕ Bool} (h : finT m t y = .inr e) : e = t := by
  cases y with
  | inl k => cases h
  | inr b =>
    unfold finT at h
    dsimp only at h
    split at h
    · cases h; rfl
    · cases h
/-- the type of an expression, by its operator, or its function -/
def kindD (x : Ex) : Int := if x.op ≤ 8 then 2 else if x.op ≤ 13 ∨ x.op = 15 ∨ x.op = 19 then 3 else if x.op = 18 then 4 else if x.op = 20 then ((fnF x.s).getD fn0).ty else 1
theorem kind_of {x : Ex} {n : Nat} {t : Int} (hr : rightE x = true) (h : ckE x n = .inr t) : t = kindD x := by
  obtain ⟨op, s, tg, vl, ab, ks, ss⟩ := x
  rw [rightE, Bool.and_eq_true] at hr
  obtain ⟨h1, h2, _⟩ := right_op hr.1
  show t = (if op ≤ 8 then 2 else if op ≤ 13 ∨ op = 15 ∨ op = 19 then 3 else if op = 18 then 4 else if op = 20 then ((fnF s).getD fn0).ty else 1)
  rw [ckE] at h
  split at h
  · rw [if_pos (by omega)]; exact finT_ty h
  · split at h
    · rw [if_neg (by omega), if_pos (by omega)]; exact finT_ty h
    · split at h
      · rw [if_neg (by omega), if_neg (by omega), if_neg (by omega), if_neg (by omega)]; exact finT_ty h
      · split at h
        · rw [if_neg (by omega), if_neg (by omega), if_neg (by omega), if_neg (by omega)]
          cases hq : finT true 1 (ckKs ks n) with
          | inl k => rw [hq] at h; cases h
          | inr u =>
            rw [hq] at h
            have := finT_ty hq
            dsimp only at h
            cases hz : ckSs ss n with
            | some k => rw [hz] at h; cases h
            | none => rw [hz] at h; cases h; exact this
        · split at h
          · rw [if_neg (by omega), if_neg (by omega), if_neg (by omega), if_neg (by omega)]
            cases ks with
            | nil => rw [ckF] at h; cases h
            | cons k r =>
              rw [ckF] at h
              cases hq : ckE k n with
              | inl z => rw [hq] at h; cases h
              | inr u =>
                rw [hq] at h
                dsimp only at h
                split at h
                · cases hz : ckPs r n with
                  | some k => rw [hz] at h; cases h
                  | none => rw [hz] at h; cases h; rfl
                · cases h
          · split at h
            · rw [if_neg (by omega), if_neg (by omega), if_pos (by omega)]; cases h; rfl
            · split at h
              · rw [if_neg (by omega), if_pos (by omega)]; cases h; rfl
              · split at h
                · rw [if_neg (by omega), if_neg (by omega), if_neg (by omega), if_pos (by omega)]
                  cases hq : fnF s with
                  | none => rw [hq] at h; cases h
                  | some f =>
                    rw [hq] at h
                    dsimp only at h
                    split at h
                    · cases h
                    · exact finT_ty h
                · cases h
theorem comR_ok {l : List UInt8} {x : Ex} {t f : Int} (h : comR l = (x, t, f)) : (f = 0 ∧ rightE x = true ∧ t = kindD x) ∨ (f ≠ 0 ∧ t = 0) := by
  unfold comR at h
  cases hp : parseR l with
  | inl y =>
    rw [hp] at h
    cases h
    have := parse_err hp
    exact .inr ⟨by omega, rfl⟩
  | inr a =>
    rw [hp] at h
    dsimp only at h
    split at h
    · rename_i h0
      cases h
      unfold typD at h0 ⊢
      cases hr : rightE x with
      | false => rw [hr, if_neg (by simp)] at h0; omega
      | true =>
        rw [hr, if_pos rfl] at h0
        rw [if_pos rfl]
        cases hc : ckE x 0 with
        | inl e =>
          rw [hc] at h0
          exact absurd h0 (ckE_err x 0 e hr hc)
        | inr t => exact .inl ⟨rfl, rfl, kind_of hr hc⟩
    · rename_i h0
      cases h
      exact .inr ⟨h0, rfl⟩
set_option maxRecDepth 100000 in
set_option maxHeartbeats 8000000 in
theorem kinds_no (l : List UInt8) (w : World) (hG : Gl w) (hl : l.length ≤ 140737488351232) (x : Ex) (t f : Int) (hc : comR l = (x, t, f)) (hf : f ≠ 0) (ht : t = 0) : Calls Tryz.prog 10 #[.string (bs l)] w fun e w' => e = .returned (.bool true) ∧ Below w.heap.size w w' := by
  have hcc := comp_called l w hl hG
  rw [hc] at hcc
  have HF := Lib.hid hcc
  have HWK := Lib.hid fun (W : World) (hb : Below w.heap.size w W) => works15_any W (hG.below hb)
  have k0 : (f != 0) = true := by rw [bne_iff_ne]; exact hf
  subst ht
  clear hf
  generalize bs l = S at *
  clear hG hl hcc hc
  go_enter Tryz.func10, Tryz.ntmps10
  go_wp2_with fail
  refine HF.out.mono ?_
  rintro e w1 ⟨x', o1, o2, j1, j2, t', f', hq, rfl, hb1, _⟩
  simp only [Prod.mk.injEq] at hq
  obtain ⟨q1, q2, q3⟩ := hq
  subst q1 q2 q3
  have HB1 := Lib.hid fun o => hb1.trans ((below_box (w := w1) o).mono hb1.size)
  clear hb1 HF
  go_wp2_with fail
  refine (HWK.out _ (HB1.out _)).mono ?_
  rintro e w3 ⟨rfl, hb4⟩
  have HB4 := Lib.hid ((HB1.out _).trans (hb4.mono (HB1.out _).size))
  clear hb4
  go_wp2_with fail
  go_ret
  exact ⟨rfl, HB4.out⟩
set_option maxRecDepth 100000 in
set_option maxHeartbeats 8000000 in
theorem kinds_A (l : List UInt8) (w : World) (hG : Gl w) (hl : l.length ≤ 140737488351232) (x : Ex) (t f : Int) (hc : comR l = (x, t, f)) (hf : f = 0) (ho : x.op ≤ 8) (ht : t = 2) : Calls Tryz.prog 10 #[.string (bs l)] w fun e w' => e = .returned (.bool true) ∧ Below w.heap.size w w' := by
  have hcc := comp_called l w hl hG
  rw [hc] at hcc
  have HF := Lib.hid hcc
  have HWK := Lib.hid fun (W : World) (hb : Below w.heap.size w W) => works15_any W (hG.below hb)
  have k0 : decide (x.op ≤ 8) = true := decide_eq_true ho
  subst hf ht
  clear ho
  generalize bs l = S at *
  clear hG hl hcc hc
  go_enter Tryz.func10, Tryz.ntmps10
  go_wp2_with fail
  refine HF.out.mono ?_
  rintro e w1 ⟨x', o1, o2, j1, j2, t', f', hq, rfl, hb1, _⟩
  simp only [Prod.mk.injEq] at hq
  obtain ⟨q1, q2, q3⟩ := hq
  subst q1 q2 q3
  have HB1 := Lib.hid fun o => hb1.trans ((below_box (w := w1) o).mono hb1.size)
  clear hb1 HF
  go_wp2_with fail
  refine (HWK.out _ (HB1.out _)).mono ?_
  rintro e w3 ⟨rfl, hb4⟩
  have HB4 := Lib.hid ((HB1.out _).trans (hb4.mono (HB1.out _).size))
  clear hb4
  go_wp2_with fail
  go_ret
  exact ⟨rfl, HB4.out⟩
set_option maxRecDepth 100000 in
set_option maxHeartbeats 8000000 in
theorem kinds_B (l : List UInt8) (w : World) (hG : Gl w) (hl : l.length ≤ 140737488351232) (x : Ex) (t f : Int) (hc : comR l = (x, t, f)) (hf : f = 0) (ho : ¬ x.op ≤ 8) (ho2 : x.op ≤ 13) (ht : t = 3) : Calls Tryz.prog 10 #[.string (bs l)] w fun e w' => e = .returned (.bool true) ∧ Below w.heap.size w w' := by
  have hcc := comp_called l w hl hG
  rw [hc] at hcc
  have HF := Lib.hid hcc
  have HWK := Lib.hid fun (W : World) (hb : Below w.heap.size w W) => works15_any W (hG.below hb)
  have k0 : decide (x.op ≤ 8) = false := decide_eq_false ho
  have k1 : decide (x.op ≤ 13) = true := decide_eq_true ho2
  subst hf ht
  clear ho ho2
  generalize bs l = S at *
  clear hG hl hcc hc
  go_enter Tryz.func10, Tryz.ntmps10
  go_wp2_with fail
  refine HF.out.mono ?_
  rintro e w1 ⟨x', o1, o2, j1, j2, t', f', hq, rfl, hb1, _⟩
  simp only [Prod.mk.injEq] at hq
  obtain ⟨q1, q2, q3⟩ := hq
  subst q1 q2 q3
  have HB1 := Lib.hid fun o => hb1.trans ((below_box (w := w1) o).mono hb1.size)
  clear hb1 HF
  go_wp2_with fail
  refine (HWK.out _ (HB1.out _)).mono ?_
  rintro e w3 ⟨rfl, hb4⟩
  have HB4 := Lib.hid ((HB1.out _).trans (hb4.mono (HB1.out _).size))
  clear hb4
  go_wp2_with fail
  go_ret
  exact ⟨rfl, HB4.out⟩
set_option maxRecDepth 100000 in
set_option maxHeartbeats 8000000 in
theorem kinds_14 (l : List UInt8) (w : World) (hG : Gl w) (hl : l.length ≤ 140737488351232) (x : Ex) (t f : Int) (hc : comR l = (x, t, f)) (hf : f = 0) (ho : x.op = 14) (ht : t = 1) : Calls Tryz.prog 10 #[.string (bs l)] w fun e w' => e = .returned (.bool true) ∧ Below w.heap.size w w' := by
  have hcc := comp_called l w hl hG
  rw [hc] at hcc
  have HF := Lib.hid hcc
  have HWK := Lib.hid fun (W : World) (hb : Below w.heap.size w W) => works15_any W (hG.below hb)
  have k0 : decide (x.op ≤ 8) = false := decide_eq_false (by omega)
  have k1 : decide (x.op ≤ 13) = false := decide_eq_false (by omega)
  have k15 : (x.op == 15) = false := by rw [ho]; rfl
  have k19 : (x.op == 19) = false := by rw [ho]; rfl
  have k18 : (x.op == 18) = false := by rw [ho]; rfl
  have k20 : (x.op == 20) = false := by rw [ho]; rfl
  subst hf ht
  clear ho
  generalize bs l = S at *
  clear hG hl hcc hc
  go_enter Tryz.func10, Tryz.ntmps10
  go_wp2_with fail
  refine HF.out.mono ?_
  rintro e w1 ⟨x', o1, o2, j1, j2, t', f', hq, rfl, hb1, _⟩
  simp only [Prod.mk.injEq] at hq
  obtain ⟨q1, q2, q3⟩ := hq
  subst q1 q2 q3
  have HB1 := Lib.hid fun o => hb1.trans ((below_box (w := w1) o).mono hb1.size)
  clear hb1 HF
  go_wp2_with fail
  refine (HWK.out _ (HB1.out _)).mono ?_
  rintro e w3 ⟨rfl, hb4⟩
  have HB4 := Lib.hid ((HB1.out _).trans (hb4.mono (HB1.out _).size))
  clear hb4
  go_wp2_with fail
  go_ret
  exact ⟨rfl, HB4.out⟩
set_option maxRecDepth 100000 in
set_option maxHeartbeats 8000000 in
theorem kinds_15 (l : List UInt8) (w : World) (hG : Gl w) (hl : l.length ≤ 140737488351232) (x : Ex) (t f : Int) (hc : comR l = (x, t, f)) (hf : f = 0) (ho : x.op = 15) (ht : t = 3) : Calls Tryz.prog 10 #[.string (bs l)] w fun e w' => e = .returned (.bool true) ∧ Below w.heap.size w w' := by
  have hcc := comp_called l w hl hG
  rw [hc] at hcc
  have HF := Lib.hid hcc
  have HWK := Lib.hid fun (W : World) (hb : Below w.heap.size w W) => works15_any W (hG.below hb)
  have k0 : decide (x.op ≤ 8) = false := decide_eq_false (by omega)
  have k1 : decide (x.op ≤ 13) = false := decide_eq_false (by omega)
  have k15 : (x.op == 15) = true := by rw [ho]; rfl
  have k19 : (x.op == 19) = false := by rw [ho]; rfl
  have k18 : (x.op == 18) = false := by rw [ho]; rfl
  have k20 : (x.op == 20) = false := by rw [ho]; rfl
  subst hf ht
  clear ho
  generalize bs l = S at *
  clear hG hl hcc hc
  go_enter Tryz.func10, Tryz.ntmps10
  go_wp2_with fail
  refine HF.out.mono ?_
  rintro e w1 ⟨x', o1, o2, j1, j2, t', f', hq, rfl, hb1, _⟩
  simp only [Prod.mk.injEq] at hq
  obtain ⟨q1, q2, q3⟩ := hq
  subst q1 q2 q3
  have HB1 := Lib.hid fun o => hb1.trans ((below_box (w := w1) o).mono hb1.size)
  clear hb1 HF
  go_wp2_with fail
  refine (HWK.out _ (HB1.out _)).mono ?_
  rintro e w3 ⟨rfl, hb4⟩
  have HB4 := Lib.hid ((HB1.out _).trans (hb4.mono (HB1.out _).size))
  clear hb4
  go_wp2_with fail
  go_ret
  exact ⟨rfl, HB4.out⟩
set_option maxRecDepth 100000 in
set_option maxHeartbeats 8000000 in
theorem kinds_16 (l : List UInt8) (w : World) (hG : Gl w) (hl : l.length ≤ 140737488351232) (x : Ex) (t f : Int) (hc : comR l = (x, t, f)) (hf : f = 0) (ho : x.op = 16) (ht : t = 1) : Calls Tryz.prog 10 #[.string (bs l)] w fun e w' => e = .returned (.bool true) ∧ Below w.heap.size w w' := by
  have hcc := comp_called l w hl hG
  rw [hc] at hcc
  have HF := Lib.hid hcc
  have HWK := Lib.hid fun (W : World) (hb : Below w.heap.size w W) => works15_any W (hG.below hb)
  have k0 : decide (x.op ≤ 8) = false := decide_eq_false (by omega)
  have k1 : decide (x.op ≤ 13) = false := decide_eq_false (by omega)
  have k15 : (x.op == 15) = false := by rw [ho]; rfl
  have k19 : (x.op == 19) = false := by rw [ho]; rfl
  have k18 : (x.op == 18) = false := by rw [ho]; rfl
  have k20 : (x.op == 20) = false := by rw [ho]; rfl
  subst hf ht
  clear ho
  generalize bs l = S at *
  clear hG hl hcc hc
  go_enter Tryz.func10, Tryz.ntmps10
  go_wp2_with fail
  refine HF.out.mono ?_
  rintro e w1 ⟨x', o1, o2, j1, j2, t', f', hq, rfl, hb1, _⟩
  simp only [Prod.mk.injEq] at hq
  obtain ⟨q1, q2, q3⟩ := hq
  subst q1 q2 q3
  have HB1 := Lib.hid fun o => hb1.trans ((below_box (w := w1) o).mono hb1.size)
  clear hb1 HF
  go_wp2_with fail
  refine (HWK.out _ (HB1.out _)).mono ?_
  rintro e w3 ⟨rfl, hb4⟩
  have HB4 := Lib.hid ((HB1.out _).trans (hb4.mono (HB1.out _).size))
  clear hb4
  go_wp2_with fail
  go_ret
  exact ⟨rfl, HB4.out⟩
set_option maxRecDepth 100000 in
set_option maxHeartbeats 8000000 in
theorem kinds_17 (l : List UInt8) (w : World) (hG : Gl w) (hl : l.length ≤ 140737488351232) (x : Ex) (t f : Int) (hc : comR l = (x, t, f)) (hf : f = 0) (ho : x.op = 17) (ht : t = 1) : Calls Tryz.prog 10 #[.string (bs l)] w fun e w' => e = .returned (.bool true) ∧ Below w.heap.size w w' := by
  have hcc := comp_called l w hl hG
  rw [hc] at hcc
  have HF := Lib.hid hcc
  have HWK := Lib.hid fun (W : World) (hb : Below w.heap.size w W) => works15_any W (hG.below hb)
  have k0 : decide (x.op ≤ 8) = false := decide_eq_false (by omega)
  have k1 : decide (x.op ≤ 13) = false := decide_eq_false (by omega)
  have k15 : (x.op == 15) = false := by rw [ho]; rfl
  have k19 : (x.op == 19) = false := by rw [ho]; rfl
  have k18 : (x.op == 18) = false := by rw [ho]; rfl
  have k20 : (x.op == 20) = false := by rw [ho]; rfl
  subst hf ht
  clear ho
  generalize bs l = S at *
  clear hG hl hcc hc
  go_enter Tryz.func10, Tryz.ntmps10
  go_wp2_with fail
  refine HF.out.mono ?_
  rintro e w1 ⟨x', o1, o2, j1, j2, t', f', hq, rfl, hb1, _⟩
  simp only [Prod.mk.injEq] at hq
  obtain ⟨q1, q2, q3⟩ := hq
  subst q1 q2 q3
  have HB1 := Lib.hid fun o => hb1.trans ((below_box (w := w1) o).mono hb1.size)
  clear hb1 HF
  go_wp2_with fail
  refine (HWK.out _ (HB1.out _)).mono ?_
  rintro e w3 ⟨rfl, hb4⟩
  have HB4 := Lib.hid ((HB1.out _).trans (hb4.mono (HB1.out _).size))
  clear hb4
  go_wp2_with fail
  go_ret
  exact ⟨rfl, HB4.out⟩
set_option maxRecDepth 100000 in
set_option maxHeartbeats 8000000 in
theorem kinds_18 (l : List UInt8) (w : World) (hG : Gl w) (hl : l.length ≤ 140737488351232) (x : Ex) (t f : Int) (hc : comR l = (x, t, f)) (hf : f = 0) (ho : x.op = 18) (ht : t = 4) : Calls Tryz.prog 10 #[.string (bs l)] w fun e w' => e = .returned (.bool true) ∧ Below w.heap.size w w' := by
  have hcc := comp_called l w hl hG
  rw [hc] at hcc
  have HF := Lib.hid hcc
  have HWK := Lib.hid fun (W : World) (hb : Below w.heap.size w W) => works15_any W (hG.below hb)
  have k0 : decide (x.op ≤ 8) = false := decide_eq_false (by omega)
  have k1 : decide (x.op ≤ 13) = false := decide_eq_false (by omega)
  have k15 : (x.op == 15) = false := by rw [ho]; rfl
  have k19 : (x.op == 19) = false := by rw [ho]; rfl
  have k18 : (x.op == 18) = true := by rw [ho]; rfl
  have k20 : (x.op == 20) = false := by rw [ho]; rfl
  subst hf ht
  clear ho
  generalize bs l = S at *
  clear hG hl hcc hc
  go_enter Tryz.func10, Tryz.ntmps10
  go_wp2_with fail
  refine HF.out.mono ?_
  rintro e w1 ⟨x', o1, o2, j1, j2, t', f', hq, rfl, hb1, _⟩
  simp only [Prod.mk.injEq] at hq
  obtain ⟨q1, q2, q3⟩ := hq
  subst q1 q2 q3
  have HB1 := Lib.hid fun o => hb1.trans ((below_box (w := w1) o).mono hb1.size)
  clear hb1 HF
  go_wp2_with fail
  refine (HWK.out _ (HB1.out _)).mono ?_
  rintro e w3 ⟨rfl, hb4⟩
  have HB4 := Lib.hid ((HB1.out _).trans (hb4.mono (HB1.out _).size))
  clear hb4
  go_wp2_with fail
  go_ret
  exact ⟨rfl, HB4.out⟩
set_option maxRecDepth 100000 in
set_option maxHeartbeats 8000000 in
theorem kinds_19 (l : List UInt8) (w : World) (hG : Gl w) (hl : l.length ≤ 140737488351232) (x : Ex) (t f : Int) (hc : comR l = (x, t, f)) (hf : f = 0) (ho : x.op = 19) (ht : t = 3) : Calls Tryz.prog 10 #[.string (bs l)] w fun e w' => e = .returned (.bool true) ∧ Below w.heap.size w w' := by
  have hcc := comp_called l w hl hG
  rw [hc] at hcc
  have HF := Lib.hid hcc
  have HWK := Lib.hid fun (W : World) (hb : Below w.heap.size w W) => works15_any W (hG.below hb)
  have k0 : decide (x.op ≤ 8) = false := decide_eq_false (by omega)
  have k1 : decide (x.op ≤ 13) = false := decide_eq_false (by omega)
  have k15 : (x.op == 15) = false := by rw [ho]; rfl
  have k19 : (x.op == 19) = true := by rw [ho]; rfl
  have k18 : (x.op == 18) = false := by rw [ho]; rfl
  have k20 : (x.op == 20) = false := by rw [ho]; rfl
  subst hf ht
  clear ho
  generalize bs l = S at *
  clear hG hl hcc hc
  go_enter Tryz.func10, Tryz.ntmps10
  go_wp2_with fail
  refine HF.out.mono ?_
  rintro e w1 ⟨x', o1, o2, j1, j2, t', f', hq, rfl, hb1, _⟩
  simp only [Prod.mk.injEq] at hq
  obtain ⟨q1, q2, q3⟩ := hq
  subst q1 q2 q3
  have HB1 := Lib.hid fun o => hb1.trans ((below_box (w := w1) o).mono hb1.size)
  clear hb1 HF
  go_wp2_with fail
  refine (HWK.out _ (HB1.out _)).mono ?_
  rintro e w3 ⟨rfl, hb4⟩
  have HB4 := Lib.hid ((HB1.out _).trans (hb4.mono (HB1.out _).size))
  clear hb4
  go_wp2_with fail
  go_ret
  exact ⟨rfl, HB4.out⟩
set_option maxRecDepth 100000 in
set_option maxHeartbeats 8000000 in
theorem kinds_21 (l : List UInt8) (w : World) (hG : Gl w) (hl : l.length ≤ 140737488351232) (x : Ex) (t f : Int) (hc : comR l = (x, t, f)) (hf : f = 0) (ho : x.op = 21) (ht : t = 1) : Calls Tryz.prog 10 #[.string (bs l)] w fun e w' => e = .returned (.bool true) ∧ Below w.heap.size w w' := by
  have hcc := comp_called l w hl hG
  rw [hc] at hcc
  have HF := Lib.hid hcc
  have HWK := Lib.hid fun (W : World) (hb : Below w.heap.size w W) => works15_any W (hG.below hb)
  have k0 : decide (x.op ≤ 8) = false := decide_eq_false (by omega)
  have k1 : decide (x.op ≤ 13) = false := decide_eq_false (by omega)
  have k15 : (x.op == 15) = false := by rw [ho]; rfl
  have k19 : (x.op == 19) = false := by rw [ho]; rfl
  have k18 : (x.op == 18) = false := by rw [ho]; rfl
  have k20 : (x.op == 20) = false := by rw [ho]; rfl
  subst hf ht
  clear ho
  generalize bs l = S at *
  clear hG hl hcc hc
  go_enter Tryz.func10, Tryz.ntmps10
  go_wp2_with fail
  refine HF.out.mono ?_
  rintro e w1 ⟨x', o1, o2, j1, j2, t', f', hq, rfl, hb1, _⟩
  simp only [Prod.mk.injEq] at hq
  obtain ⟨q1, q2, q3⟩ := hq
  subst q1 q2 q3
  have HB1 := Lib.hid fun o => hb1.trans ((below_box (w := w1) o).mono hb1.size)
  clear hb1 HF
  go_wp2_with fail
  refine (HWK.out _ (HB1.out _)).mono ?_
  rintro e w3 ⟨rfl, hb4⟩
  have HB4 := Lib.hid ((HB1.out _).trans (hb4.mono (HB1.out _).size))
  clear hb4
  go_wp2_with fail
  go_ret
  exact ⟨rfl, HB4.out⟩
set_option maxRecDepth 100000 in
set_option maxHeartbeats 8000000 in
theorem kinds_20 (l : List UInt8) (w : World) (hG : Gl w) (hl : l.length ≤ 140737488351232) (x : Ex) (t f : Int) (hc : comR l = (x, t, f)) (hf : f = 0) (ho : x.op = 20) (ht : t = ((fnF x.s).getD fn0).ty) : Calls Tryz.prog 10 #[.string (bs l)] w fun e w' => e = .returned (.bool true) ∧ Below w.heap.size w w' := by
  have hcc := comp_called l w hl hG
  rw [hc] at hcc
  have HF := Lib.hid hcc
  have HWK := Lib.hid fun (W : World) (hb : Below w.heap.size w W) => works15_any W (hG.below hb)
  have k0 : decide (x.op ≤ 8) = false := decide_eq_false (by omega)
  have k1 : decide (x.op ≤ 13) = false := decide_eq_false (by omega)
  have k15 : (x.op == 15) = false := by rw [ho]; rfl
  have k19 : (x.op == 19) = false := by rw [ho]; rfl
  have k18 : (x.op == 18) = false := by rw [ho]; rfl
  have k20 : (x.op == 20) = true := by rw [ho]; rfl
  have HR := Lib.hid fun W => refFn_any x.s W
  have HT := Lib.hid ht
  subst hf
  clear ho ht
  generalize bs l = S at *
  clear hG hl hcc hc
  go_enter Tryz.func10, Tryz.ntmps10
  go_wp2_with fail
  refine HF.out.mono ?_
  rintro e w1 ⟨x', o1, o2, j1, j2, t', f', hq, rfl, hb1, _⟩
  simp only [Prod.mk.injEq] at hq
  obtain ⟨q1, q2, q3⟩ := hq
  subst q1 q2 q3
  have HB1 := Lib.hid fun o => hb1.trans ((below_box (w := w1) o).mono hb1.size)
  clear hb1 HF
  go_wp2_with fail
  refine (HR.out _).mono ?_
  intro e w2 h2
  obtain ⟨g, c, hg2, hc, rfl, hb2⟩ := h2.tup
  have ht2 : t = g.ty := by rw [HT.out, hg2]
  have HB2 := Lib.hid fun o => ((HB1.out _).trans (hb2.mono (HB1.out _).size)).trans ((below_box (w := w2) o).mono ((HB1.out _).trans (hb2.mono (HB1.out _).size)).size)
  obtain ⟨T, hT⟩ : ∃ T, g.ty = T := ⟨_, rfl⟩
  rw [hT] at ht2 ⊢
  subst ht2
  clear h2 hb2 hT hg2 hc HR HT
  go_wp2_with fail
  refine (HWK.out _ (HB2.out _)).mono ?_
  rintro e w3 ⟨rfl, hb4⟩
  have HB4 := Lib.hid ((HB2.out _).trans (hb4.mono (HB2.out _).size))
  clear hb4
  go_wp2_with fail
  go_ret
  exact ⟨rfl, HB4.out⟩
theorem kinds_law (s : ByteArray) (w : World) (hG : Gl w) (hs : s.size ≤ 140737488351232) : Calls Tryz.prog 10 #[.string s] w fun e w' => e = .returned (.bool true) ∧ Below w.heap.size w w' := by
  obtain ⟨l, rfl⟩ : ∃ l, s = bs l := ⟨s.data.toList, (bs_of s).symm⟩
  have hsz := bs_size l
  have hl : l.length ≤ 140737488351232 := by omega
  obtain ⟨x, t, f, hc⟩ : ∃ x t f, comR l = (x, t, f) := ⟨_, _, _, rfl⟩
  rcases comR_ok hc with ⟨hf, hr, ht⟩ | ⟨hf, ht⟩
  · have ho : 1 ≤ x.op ∧ x.op ≤ 21 := by
      rw [rightE_def, Bool.and_eq_true] at hr
      have := right_op hr.1
      omega
    unfold kindD at ht
    by_cases h8 : x.op ≤ 8
    · rw [if_pos h8] at ht
      exact kinds_A l w hG hl x t f hc hf h8 ht
    rw [if_neg h8] at ht
    by_cases h13 : x.op ≤ 13
    · rw [if_pos (.inl h13)] at ht
      exact kinds_B l w hG hl x t f hc hf h8 h13 ht
    have hc8 : x.op = 14 ∨ x.op = 15 ∨ x.op = 16 ∨ x.op = 17 ∨ x.op = 18 ∨ x.op = 19 ∨ x.op = 20 ∨ x.op = 21 := by omega
    rcases hc8 with h | h | h | h | h | h | h | h
    · rw [if_neg (by omega), if_neg (by omega), if_neg (by omega)] at ht
      exact kinds_14 l w hG hl x t f hc hf h ht
    · rw [if_pos (by omega)] at ht
      exact kinds_15 l w hG hl x t f hc hf h ht
    · rw [if_neg (by omega), if_neg (by omega), if_neg (by omega)] at ht
      exact kinds_16 l w hG hl x t f hc hf h ht
    · rw [if_neg (by omega), if_neg (by omega), if_neg (by omega)] at ht
      exact kinds_17 l w hG hl x t f hc hf h ht
    · rw [if_neg (by omega), if_pos h] at ht
      exact kinds_18 l w hG hl x t f hc hf h ht
    · rw [if_pos (by omega)] at ht
      exact kinds_19 l w hG hl x t f hc hf h ht
    · rw [if_neg (by omega), if_neg (by omega), if_pos h] at ht
      exact kinds_20 l w hG hl x t f hc hf h ht
    · rw [if_neg (by omega), if_neg (by omega), if_neg (by omega)] at ht
      exact kinds_21 l w hG hl x t f hc hf h ht
  · exact kinds_no l w hG hl x t f hc hf ht
end Go.Proofs.YtpdbanaffohblaaGreatDoor.Char
