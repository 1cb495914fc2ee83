/- The walk of the document's own quotient (of two, and what is left). -/
import Derived.Test.YtncmmdhlponpoaaProduct
import Derived.Laws.AppendOwnNone
namespace Go.Proofs.Ytncmmdhlponpoaa.Char
open Go.RowKit

theorem Owns.lt {n₀ G N cap : Nat} {w : World} {l : List Nat} (h : Owns n₀ w (.slice (some ⟨G, 0, none⟩) N cap) l) : G < w.heap.size := by
  rcases h.2 with ⟨h1, _⟩ | ⟨g, c, cur, h1, _, hcur, _⟩
  · cases h1
  · injection h1 with h1
    injection h1 with h1
    injection h1 with h1
    subst h1
    exact (Array.getElem?_eq_some_iff.1 hcur).1
theorem Owns.below {n₀ : Nat} {w w' : World} {v : Value} {l : List Nat} (h : Owns n₀ w v l) (hb : Below w.heap.size w w') : Owns n₀ w' v l := by
  refine ⟨h.1, ?_⟩
  rcases h.2 with h1 | ⟨g, c, cur, h1, h2, hcur, h3⟩
  · exact .inl h1
  · exact .inr ⟨g, c, cur, h1, h2, (hb.block g (Array.getElem?_eq_some_iff.1 hcur).1).trans hcur, h3⟩
/-- a store elsewhere -/
theorem Holds.far {w : World} {v : Value} {l : List Nat} (h : Holds w v l) (G k : Nat) (u : Value) (hne : v.ownBlock ≠ some G) : Holds (w.setCell ⟨G, k, none⟩ u) v l := by
  obtain ⟨a, cap, hv, hn, hnil, hc⟩ := h
  refine ⟨a, cap, hv, hn, hnil, fun j hj => ?_⟩
  obtain ⟨g, rfl, h2, h3⟩ := hc j hj
  refine ⟨g, rfl, by simpa [World.setCell] using h2, ?_⟩
  have hg : g ≠ G := fun e => hne (by rw [hv, e]; rfl)
  rw [World.cell?_setCell_other w ⟨G, k, none⟩ ⟨g, j, none⟩ u (fun e => hg (by injection e with e; exact e.symm))]
  exact h3

/-- one number ahead of what a slice holds -/
theorem wpList_ahead {ops : Array Oper} {rest : List Oper} {o : Oper} {a : Act} {Q : Exit → Act → World → Prop} {W : World} {rv : Value} {l : List Nat} {z : Int}
    (hgd : o.guard = none) (s x : Operand) (ho : o.op = .call { callee := .builtin .append, args := #[s, x], argTypes := #[41, 41] })
    (d : Nat) (hr : Holds W rv l) (hs : a.eval s = .slice (some ⟨W.heap.size, 0, none⟩) 1 1) (hx : a.eval x = rv) (hz : z = (d : Int)) (hlen : l.length ≤ 1000)
    (h : ∀ v' w1, Holds w1 v' (d :: l) → Fresh W.heap.size v' → Below W.heap.size W w1 → wpList Try.prog ops Q rest (a.put o.dst v') w1) :
    wpList Try.prog ops Q (o :: rest) a (W.alloc (.cells #[.int .i64 z] 3)) := by
  obtain ⟨i0, hi, hz0, hz1, hz2⟩ := info_parts info_int
  subst hz
  have hown : Owns W.heap.size (W.alloc (.cells #[.int .i64 (d : Int)] 3)) (.slice (some ⟨W.heap.size, 0, none⟩) 1 1) [d] :=
    World.ownsRow_lit W #[.int .i64 (d : Int)] 1 (Nat.le_refl _) (by unfold maxLen; omega) rfl
  have hal : Below W.heap.size W (W.alloc (.cells #[.int .i64 (d : Int)] 3)) := (Below.refl _ _).alloc (Nat.le_refl _) _
  have hr' := hr.below hal
  obtain ⟨A, cap, rfl, hn, hnil, hc⟩ := hr'
  rcases A with _ | ad
  · obtain rfl : cap = 0 := hnil rfl
    obtain rfl : l = [] := List.eq_nil_of_length_eq_zero (by omega)
    refine wpList_append_own_none hgd s x 41 ho W.heap.size 3 i0 1 Try.underlying41 hi _ 1 (ics [d]) hs hown hx ?_
    exact h _ _ (Owns.holds hown) (Owns.fresh hown) hal
  · refine wpList_append_own _ hgd s x 41 ho W.heap.size 3 i0 (.int .i64 0) 1 8 Try.underlying41 hi hz0 hz1 hz2 rfl (by decide) _ 1 (ics [d]) hs hown ad l.length cap (ics l) hx (by rw [ics_length]; omega) ?_ ?_ ?_ ?_ ?_ ?_
    · intro j u hj
      have hjl : j < l.length := by
        rcases Nat.lt_or_ge j l.length with h | h
        · exact h
        · rw [List.getElem?_eq_none (by rw [ics_length]; exact h)] at hj; cases hj
      obtain ⟨g, he, _, h3⟩ := hc j hjl
      injection he with he
      subst he
      rw [ics_get l j hjl] at hj
      injection hj with hj
      subst hj
      have hadd : (⟨g, 0, none⟩ : Addr).add j = ⟨g, j, none⟩ := by unfold Addr.add; split <;> simp_all
      rw [hadd]
      exact h3
    · intro u hu
      obtain ⟨x, _, rfl⟩ := List.mem_map.1 hu
      rfl
    · unfold maxLen; omega
    · omega
    · simp
    · intro v' w1 hown' hgrow _
      have ho2 : Owns W.heap.size w1 v' (d :: l) := by
        unfold Owns
        rw [List.length_cons, show d :: l = [d] ++ l from rfl, ics_append, Nat.add_comm l.length 1]
        exact hown'
      refine h v' w1 (Owns.holds ho2) (Owns.fresh ho2) (hal.grown hgrow (by simp) (fun k hk => ?_))
      simp [Value.ownBlock] at hk
      omega

/-- what quotient leaves -/
def QuotPost (w : World) (q r : Nat) (e : Ending) (w' : World) : Prop :=
  ∃ v v', e = .returned (.tuple #[v, v']) ∧ Holds w' v (dg q) ∧ Holds w' v' (dg r) ∧ Below w.heap.size w w'
/-- the digit that a cell holds -/
def digitAt (w : World) (G j : Nat) : Nat := match w.cell? ⟨G, j, none⟩ with | some (.int _ d) => d.toNat | _ => 0
theorem digitAt_of {w : World} {G j d : Nat} (h : w.cell? ⟨G, j, none⟩ = some (.int .i64 (d : Int))) : digitAt w G j = d := by unfold digitAt; rw [h]; simp
theorem rep_get (j d : Nat) (u : List Nat) : (List.replicate j 0 ++ d :: u).getD j 0 = d := by
  simp [List.getD]
theorem rep_set (j d d' : Nat) (u : List Nat) : (List.replicate j 0 ++ d :: u).set j d' = List.replicate j 0 ++ d' :: u := by
  rw [List.set_append_right _ _ (by simp)]
  simp
theorem quot_step (a b j Q R y d r : Nat) (h : Q * b + R = a / 10 ^ (j + 1)) (hy : a / 10 ^ j % 10 = y) (hd : d * b + r = 10 * R + y) : (d + 10 * Q) * b + r = a / 10 ^ j := by
  have e := div_step a j
  rw [hy, ← h] at e
  rw [e, Nat.add_mul, Nat.mul_add, Nat.mul_assoc]
  omega

set_option maxRecDepth 100000 in
set_option maxHeartbeats 4000000 in
theorem quotient_any (va vb : Value) (a b : Nat) (w : World) (ha : Holds w va (dg a)) (hb : Holds w vb (dg b)) (hna : (dg a).length ≤ 900) (hnb : (dg b).length ≤ 400) (hb0 : 0 < b) :
    Calls Try.prog 50 #[va, vb] w (QuotPost w (a / b) (a % b)) := by
  have HHB := Lib.hid hb
  obtain ⟨A, capa, rfl, hca, _, hA⟩ := ha
  have HA := Lib.hid hA
  have hta := dg_len_lt a
  generalize hLa : (dg a).length = La at *
  have hda : ∀ j, j < La → (dg a).getD j 0 = a / 10 ^ j % 10 := fun j _ => dg_getD j a
  have HDA := Lib.hid hda
  have TA := Lib.hid hta
  have HNB := Lib.hid hnb
  clear hLa hta hA hda hnb hb
  go_enter Try.func50, Try.ntmps50
  go_wp2_with (at_make; refine wpList_zeros rfl _ _ rfl La _ _ rfl rfl rfl rfl (by omega) ?_)
  intro w0 hown0 hbw0
  go_wp2_with fail
  go_loopw [7, 8] (fun r i wr => ∃ (k : Nat) (u : List Nat) (rr : Nat), i = .int .i64 ((k : Int) - 1) ∧ k ≤ La ∧ k + u.length = La ∧ Hid (∀ d ∈ u, d < 10) ∧ rr < b ∧ Hid (Holds wr r (dg rr)) ∧ Hid (r.ownBlock ≠ some w.heap.size) ∧
      Hid (Owns w.heap.size wr (.slice (some ⟨w.heap.size, 0, none⟩) La La) (List.replicate k 0 ++ u)) ∧ Below w.heap.size w wr ∧ Hid (val u * b + rr = a / 10 ^ k)) (fun _ i _ => (intOf i + 1).toNat)
  case atStart => exact ⟨La, [], 0, rfl, Nat.le_refl _, rfl, Lib.hid (fun d hd => by cases hd), hb0, Lib.hid (Holds.nil _), Lib.hid (by simp [Value.ownBlock]), Lib.hid (by simpa using hown0), hbw0, Lib.hid (by rw [Nat.div_eq_of_lt TA.out]; simp [val])⟩
  case round =>
    obtain ⟨k, u, rr, rfl, hk, hku, HU, hrb, HR, HNE, HOWN, hbw, HV⟩ := hrel
    obtain ⟨wo, rfl⟩ : ∃ wo : World, wo = wr := ⟨_, rfl⟩
    by_cases h0 : 0 < k
    · obtain ⟨j, rfl⟩ : ∃ j, k = j + 1 := ⟨k - 1, by omega⟩
      have ej : ((↑(j + 1) : Int) - 1) = (j : Int) := by omega
      rw [ej]
      obtain ⟨g, rfl, hg, hcell⟩ := HA.out j (by omega)
      rw [HDA.out j (by omega)] at hcell
      have hy : a / 10 ^ j % 10 < 10 := Nat.mod_lt _ (by omega)
      have hca := (hbw.cell (p := ⟨g, j, none⟩) hg).trans hcell
      have hqs := quot_step a b j (val u) rr
      have hrl : (dg rr).length ≤ 400 := by
        refine Nat.le_trans (dg_len_le rr _ ?_) HNB.out
        exact Nat.lt_of_lt_of_le hrb (Nat.le_of_lt (dg_len_lt b))
      generalize a / 10 ^ j % 10 = y at *
      have HQS := Lib.hid hqs
      clear ej hcell hqs h0
      go_wp2_with (at_builtin; refine wpList_ahead rfl _ _ rfl y HR.out rfl rfl rfl (by omega) ?_)
      intro v1 w1 hh1 hf1 hb1
      have htr := trim_any v1 (y :: dg rr) w1 hh1 (fun d hd => by rcases List.mem_cons.1 hd with rfl | h; exact hy; exact dg_lt rr d h) (by rw [List.length_cons]; omega)
      unfold TrimPost at htr
      rw [val, val_dg] at htr
      have HTR := Lib.hid htr
      clear htr
      have hown1 := HOWN.out.below hb1
      have hG := HOWN.out.lt
      have hbw1 := hbw.trans (hb1.mono hbw.size)
      have hR : y + 10 * rr < 10 * b := by omega
      have hL1 : ∀ r, r ≤ y + 10 * rr → (dg r).length ≤ 401 := fun r hr => by
        have h1 := dg_len_lt b
        have h2 := HNB.out
        refine Nat.le_trans (dg_len_le r ((dg b).length + 1) ?_) (by omega)
        rw [Nat.pow_succ]
        omega
      have HL1 := Lib.hid hL1
      have HOWN1 : Hid (Owns w.heap.size w1 (.slice (some ⟨w.heap.size, 0, none⟩) La La) (List.replicate j 0 ++ 0 :: u)) := Lib.hid (by
        have e : List.replicate (j + 1) 0 ++ u = List.replicate j 0 ++ 0 :: u := by rw [List.replicate_succ']; simp
        rw [e] at hown1
        exact hown1)
      have HFR : Hid (∀ v2 : Value, v2.ownBlock = v1.ownBlock → v2.ownBlock ≠ some w.heap.size) := Lib.hid (fun v2 he h => by
        have := hf1 w.heap.size (by rw [← he]; exact h)
        omega)
      clear hown1 hL1 HOWN HR HNE hf1
      go_wp2_with fail
      refine HTR.out.mono ?_
      rintro e w2 ⟨v2, rfl, hh2, he2, rfl⟩
      have HH2 := Lib.hid hh2
      have HE2 := Lib.hid (HFR.out v2 he2)
      clear hh2 he2 HFR HTR
      go_wp2_with fail
      go_loopw [7] (fun r wr => ∃ (d rd : Nat), Hid (Holds wr r (dg rd)) ∧ Hid (r.ownBlock ≠ some w.heap.size) ∧
          Hid (Owns w.heap.size wr (.slice (some ⟨w.heap.size, 0, none⟩) La La) (List.replicate j 0 ++ d :: u)) ∧ Below w.heap.size w wr ∧ Hid (d * b + rd = 10 * rr + y)) (fun _ wr => 10 - digitAt wr w.heap.size j)
      case atStart => exact ⟨0, y + 10 * rr, HH2, HE2, HOWN1, hbw1, Lib.hid (by omega)⟩
      case round =>
        obtain ⟨d, rd, HR, HNE, HOWN, hbw, HV2⟩ := hrel
        obtain ⟨wi, rfl⟩ : ∃ wi : World, wi = wr := ⟨_, rfl⟩
        have hlt := HOWN.out.at_ j (by simp)
        rw [rep_get] at hlt
        have hda := digitAt_of hlt.1
        have hd9 : d ≤ 9 := by
          have h1 := HV2.out
          rcases Nat.lt_or_ge 9 d with h | h
          · have := Nat.mul_le_mul_right b h
            omega
          · omega
        have hrd : rd ≤ y + 10 * rr := by have := HV2.out; omega
        have CL := Lib.hid (least_any _ _ rd b wi HR.out (HHB.out.below hbw) (by have := HL1.out rd hrd; omega) (by have := HNB.out; omega))
        have HDA2 := Lib.hid hda
        clear hlt hda
        by_cases hrb2 : rd < b
        · have hd1 : decide (rd < b) = true := decide_eq_true hrb2
          rw [hd1] at CL
          have HV3 : Hid (val (d :: u) * b + rd = a / 10 ^ j) := Lib.hid (HQS.out y d rd HV.out rfl HV2.out)
          have HU2 : Hid (∀ x ∈ d :: u, x < 10) := Lib.hid (fun x hx => by rcases List.mem_cons.1 hx with rfl | h; omega; exact HU.out x h)
          clear hd1
          go_wp2_with fail
          refine CL.out.mono ?_
          rintro e w3 ⟨rfl, hb3⟩
          have HR3 := Lib.hid (HR.out.below hb3)
          have HOWN3 := Lib.hid (HOWN.out.below hb3)
          have hbw3 := hbw.trans (hb3.mono hbw.size)
          go_wp2_with fail
          go_roundw
          case rel => exact ⟨j, d :: u, rd, rfl, by omega, by rw [List.length_cons]; omega, HU2, hrb2, HR3, HNE, HOWN3, hbw3, HV3⟩
          case measure => simp [intOf]
        · have hd1 : decide (rd < b) = false := decide_eq_false hrb2
          rw [hd1] at CL
          have hd8 : d ≤ 8 := by
            have h1 := HV2.out
            rcases Nat.lt_or_ge 8 d with h | h
            · obtain rfl : d = 9 := by omega
              omega
            · exact h
          have HV3 : Hid ((d + 1) * b + (rd - b) = 10 * rr + y) := Lib.hid (by have := HV2.out; rw [Nat.add_mul]; omega)
          clear hd1
          go_wp2_with fail
          refine CL.out.mono ?_
          rintro e w3 ⟨rfl, hb3⟩
          have HR3 := HR.out.below hb3
          have HOWN3 := HOWN.out.below hb3
          have hbw3 := hbw.trans (hb3.mono hbw.size)
          have CM := Lib.hid (minus_any _ _ rd b w3 HR3 (HHB.out.below hbw3) (by have := HL1.out rd hrd; omega) (by omega))
          have HOWN3 := Lib.hid HOWN3
          clear HR3
          go_wp2_with fail
          refine CM.out.mono ?_
          rintro e w4 ⟨v4, rfl, hh4, hf4, hb4⟩
          have hown4 := HOWN3.out.below hb4
          have hbw4 := hbw3.trans (hb4.mono hbw3.size)
          have hcell := hown4.at_ j (by simp)
          rw [rep_get] at hcell
          obtain ⟨hc1, hc2⟩ := hcell
          have hset := hown4.set_ j (d + 1)
          rw [rep_set, show ((d + 1 : Nat) : Int) = (d : Int) + 1 by omega] at hset
          have hne4 : v4.ownBlock ≠ some w.heap.size := fun h => by
            have h1 := hf4 _ h
            have h2 := HOWN3.out.lt
            omega
          have hfar := hh4.far w.heap.size j (.int .i64 ((d : Int) + 1)) hne4
          have hb5 := hbw4.setCell (p := ⟨w.heap.size, j, none⟩) (Nat.le_refl _) (.int .i64 ((d : Int) + 1))
          have hm : 10 - digitAt (w4.setCell ⟨w.heap.size, j, none⟩ (.int .i64 ((d : Int) + 1))) w.heap.size j < 10 - digitAt wi w.heap.size j := by
            have h1 := hset.at_ j (by simp)
            rw [rep_get] at h1
            rw [HDA2.out, digitAt_of h1.1]
            omega
          have HFAR := Lib.hid hfar
          have HSET := Lib.hid hset
          have HNE4 := Lib.hid hne4
          have HM := Lib.hid hm
          clear hh4 hf4 hown4 hset hne4 hfar hm
          go_wp2_with fail
          go_roundw
          case rel => exact ⟨d + 1, rd - b, HFAR, HNE4, HSET, hb5, HV3⟩
          case measure => exact HM.out
    · obtain rfl : k = 0 := by omega
      have hv := HV.out
      rw [Nat.pow_zero, Nat.div_one] at hv
      have hq : val u = a / b ∧ rr = a % b := by
        have h1 : (rr + b * val u) = a := by rw [Nat.mul_comm]; omega
        constructor
        · rw [← h1, Nat.add_mul_div_left _ _ hb0, Nat.div_eq_of_lt hrb]; omega
        · rw [← h1, Nat.add_mul_mod_self_left, Nat.mod_eq_of_lt hrb]
      have hown := HOWN.out
      rw [List.replicate_zero, List.nil_append] at hown
      have hfin := trim_any _ u wo (Owns.holds hown) HU.out (by omega)
      unfold TrimPost at hfin
      rw [hq.1] at hfin
      have HFIN := Lib.hid hfin
      have hr := HR.out
      rw [hq.2] at hr
      have HR2 := Lib.hid hr
      clear hown HV hv hfin hq hr h0 HR
      have e0 : (((0 : Nat) : Int) - 1) = -1 := by omega
      go_wp2_with fail
      refine HFIN.out.mono ?_
      rintro e w1 ⟨v', rfl, hh, hf, rfl⟩
      have HH := Lib.hid hh
      clear hh hf
      go_wp2_with fail
      go_ret2
      exact ⟨v', _, rfl, HH.out, HR2.out, hbw⟩
end Go.Proofs.Ytncmmdhlponpoaa.Char
