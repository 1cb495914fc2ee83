import Derived.Test.YtlmodgnkmlbjhaaGreatDoorPkScanP
import Derived.Test.YtlmodgnkmlbjhaaGreatDoorPkTok
import Derived.Deep.RegionHeld3
import Derived.Deep.RegionWith
import Derived.Deep.AppendLies
import Derived.Deep.RegionLaw
namespace Go.Proofs.YtlmodgnkmlbjhaaGreatDoor
namespace Char
open Go.RowKit Go.Lib Go.Shelf
theorem step_pushAt {ops : Array Oper} {o : Oper} {a : Act} {K : Act → World → Prop} {Q : Exit → Act → World → Prop} {E : Prop} {B : Nat} {W : World} {v : Value} {qs : List At2}
  (hgd : o.guard = none) (s x : Operand) (ho : o.op = .call { callee := .builtin .append, args := #[s, x], argTypes := #[22, 22] })
  (n t : List UInt8) (H : Nat) (hown : OwnsAt B W v qs) (hs : a.eval s = v) (hx : a.eval x = .slice (some ⟨H, 0, none⟩) 1 1) (hc0 : W.cell? ⟨H, 0, none⟩ = some (.string (bs n))) (hc1 : W.cell? ⟨H, 1, none⟩ = some (.string (bs t))) (hB : B ≤ W.heap.size) (hlen : qs.length ≤ 1000)
  (h : ∀ v' w1, OwnsAt B w1 v' (qs ++ [(n, t)]) → Below B W w1 → K (a.put o.dst v') w1) :
  if Region.wanted o (yielded ops a.tmps) = true then Oper.wp Tryz.prog o a W K Q else E := by
 obtain ⟨i0, hi, hz0, hz1, hz2⟩ := info_parts info_at
 refine step_append_lies W hgd s x 22 ho B 40 i0 (.agg #[.string ⟨#[]⟩, .string ⟨#[]⟩]) 2 32 Tryz.underlying22 hi hz0 hz1 hz2 rfl (by decide) v qs.length (atsC qs) hs hown ⟨H, 0, none⟩ 1 1 [.string (bs n), .string (bs t)] hx rfl ?_ ?_ (by decide) ?_ ?_ hB W.heap.size rfl ?_
 ·intro j u hj
  match j, hj with
  | 0, hj => simp at hj; subst hj; simpa [Addr.add] using hc0
  | 1, hj => simp at hj; subst hj; simpa [Addr.add] using hc1
 ·intro u hu
  simp at hu
  rcases hu with rfl | rfl <;> rfl
 ·unfold maxLen; omega
 ·omega
 ·intro g cap w1 hown' hgrow _ _
  have hsz := hgrow.size
  refine h _ w1 ?_ ((Below.refl B W).grown hgrow hB (fun k hk => by
   rcases hown.2 with ⟨rfl, _⟩ | ⟨g, cap, cur, rfl, hg, _⟩
   ·simp [Value.ownBlock] at hk
   ·simp [Value.ownBlock] at hk; omega))
  unfold OwnsAt
  rw [List.length_append, atsC_snoc]
  exact hown'
structure SpK (R : Nat) (w : World) (T : Nat) (N : List UInt8) (v : Value) (qs : List At2) (cur : List UInt8) (W : World) : Prop where
 rd : RdB R cur W
 env : Env R W
 box : TokAt w.heap.size 0 ⟨#[]⟩ ⟨#[]⟩ (.slice none 0 0) false W
 tag : TokAt T 1 (bs N) ⟨#[]⟩ v false W
 own : OwnsAt (T + 1) W v qs
 but : But R w W
 hr : R < w.heap.size
 hT : w.heap.size < T
theorem SpK.next {R : Nat} {w : World} {T : Nat} {N : List UInt8} {v : Value} {qs : List At2} {cur cur' : List UInt8} {W W2 : World} (h : SpK R w T N v qs cur W) (hr : RdB R cur' W2) (hb : But R W W2) : SpK R w T N v qs cur' W2 :=
 ⟨hr, h.env.but hb, h.box.block (hb.2 _ h.box.2.2 (by have := h.hr; omega)), h.tag.block (hb.2 _ h.tag.2.2 (by have := h.hr; have := h.hT; omega)), h.own.keep (fun k hk hk2 => hb.2 k hk2 (by have := h.hr; have := h.hT; omega)), h.but.trans hb, h.hr, h.hT⟩
theorem SpK.drew {R : Nat} {w : World} {T : Nat} {N : List UInt8} {v : Value} {qs : List At2} {cur : List UInt8} {W : World} (h : SpK R w T N v qs cur W) : SpK R w T N v qs cur W.drew :=
 h.next (h.rd.below ((Below.refl _ _).drew)) (But.of ((Below.refl _ _).drew) h.rd.2.2)
theorem SpK.push {R : Nat} {w : World} {T : Nat} {N : List UInt8} {v v' : Value} {qs qs' : List At2} {cur : List UInt8} {W W1 : World} (h : SpK R w T N v qs cur W) (hb : Below (T + 1) W W1) (ho : OwnsAt (T + 1) W1 v' qs') : SpK R w T N v' qs' cur (W1.setCell ⟨T, 3, none⟩ v') := by
 have hsb : Below T W1 (W1.setCell ⟨T, 3, none⟩ v') := (Below.refl T W1).setCell (p := ⟨T, 3, none⟩) (Nat.le_refl _) _
 have hr := h.hr
 have hT := h.hT
 have k1 : RdB R cur W1 := h.rd.block (hb.block R (by omega))
 have k2 : TokAt w.heap.size 0 ⟨#[]⟩ ⟨#[]⟩ (.slice none 0 0) false W1 := h.box.block (hb.block _ (by omega))
 have k3 : TokAt T 1 (bs N) ⟨#[]⟩ v false W1 := h.tag.block (hb.block _ (by omega))
 refine ⟨k1.block (hsb.block R (by omega)), ?_, k2.block (hsb.block _ (by omega)), k3.put3 _, ho.keep (fun k hk _ => Below.heap_setCell _ _ _ _ (by show k ≠ T; omega)), ?_, hr, hT⟩
 ·obtain ⟨w0, e1, e2, e3⟩ := h.env
  exact ⟨w0, e1, e2.trans ((hb.mono (by omega)).trans (hsb.mono (by omega))), e3⟩
 ·exact ⟨h.but.1.trans ((hb.mono (by omega)).trans (hsb.mono (by omega))), fun k hk hkr => ((hsb.block k (by omega)).trans (hb.block k (by omega))).trans (h.but.2 k hk hkr)⟩
def FinT (R : Nat) (w : World) (N : List UInt8) (P : Ending → World → Prop) : Nat ⊕ (List At2 × Bool × List UInt8) → Prop
 | .inl err => ∀ W, But R w W → P (pan err) W
 | .inr (qs, em, rest) => ∀ (W : World) (o : Option Addr) (i j : Nat), RdB R rest W → But R w W → OwnsAt w.heap.size W (.slice o i j) qs → P (.returned (tokV 1 (bs N) ⟨#[]⟩ (.slice o i j) em)) W
theorem finT_of {R : Nat} {l : List UInt8} {w : World} {P : Ending → World → Prop} {N : List UInt8} {G : Nat ⊕ (List At2 × Bool × List UInt8)} (hP : PcP R (staP l) w = P) (hn : nmE l = 0) (hN : l.take (runL l) = N) (hG : tagF (l.drop (runL l)) [] = G) : FinT R w N P G := by
 subst hP
 unfold staP tagL
 rw [if_neg (by omega), hG, hN]
 clear hG hN
 cases G with
 | inl err => exact fun W hb => ⟨rfl, hb⟩
 | inr y =>
  obtain ⟨qs, em, rest⟩ := y
  exact fun W o i j h1 h2 h3 => ⟨o, i, j, rfl, h1, h2, h3⟩
theorem TokAt.put4 {g : Nat} {kd : Int} {n t : ByteArray} {v : Value} {em : Bool} {w : World} (h : TokAt g kd n t v em w) (em' : Bool) : TokAt g kd n t v em' (w.setCell ⟨g, 4, none⟩ (.bool em')) := by
 obtain ⟨⟨a0, a1, a2, a3, a4⟩, ⟨b0, b1, b2, b3, b4⟩, h3⟩ := h
 refine ⟨⟨?_, ?_, ?_, ?_, ?_⟩, ⟨?_, ?_, ?_, ?_, ?_⟩, ?_⟩
 all_goals go_simp
set_option maxRecDepth 100000 in
set_option maxHeartbeats 16000000 in
theorem start_p (R : Nat) (l : List UInt8) (w : World) (h : RdB R l w) (hl : l.length ≤ 60000) (ht : txD l = true) (hE : Env R w) :
    Calls Tryz.prog 119 #[.pointer (some ⟨R, 0, none⟩)] w (PcP R (staP l) w) := by
  obtain ⟨P, hP⟩ : ∃ P, PcP R (staP l) w = P := ⟨_, rfl⟩
  have hR := h.2.2
  obtain ⟨W0, hW0, h0, hE0, hT0, hB0, hlt0⟩ := begin_tok R l w h hE
  have HW0 := Lib.hid hW0
  have HT0 := Lib.hid hT0
  have HB0 := Lib.hid hB0
  by_cases hn : nmE l ≠ 0
  · have hpp : Hid (∀ W, But R w W → P (pan (nmE l)) W) := Lib.hid (fun W hb => by
      rw [← hP]
      unfold staP tagL
      rw [if_pos hn]
      exact ⟨rfl, hb⟩)
    rw [hP]
    have hnm := name_no R l W0 h0 (by omega) ht hE0 hn
    unfold PaP at hnm
    have HNM := Lib.hid hnm
    clear hn hnm h0 hE0 hT0 hB0 hW0 h hE hP ht
    generalize nmE l = err at *
    go_enter Tryz.func119, Tryz.ntmps119
    go_wp2_with fail
    rw [← HW0.out]
    refine HNM.out.mono ?_
    rintro e w1 ⟨rfl, hb1⟩
    have HB1 := Lib.hid (HB0.out.trans hb1)
    clear hb1
    unfold pan
    go_wp2_with fail
    exact ⟨rfl, hpp.out _ HB1.out⟩
  have hnm := name_ok R l W0 h0 (by omega) ht hE0 (by omega)
  unfold ScP at hnm
  have HNM := Lib.hid hnm
  obtain ⟨G, hG⟩ : ∃ G, tagF (l.drop (runL l)) [] = G := ⟨_, rfl⟩
  obtain ⟨N, hN⟩ : ∃ N, l.take (runL l) = N := ⟨_, rfl⟩
  have HP : Hid (FinT R w N P G) := Lib.hid (finT_of hP (by omega) hN hG)
  rw [hP]
  have htx := tx_run ht
  have htl : (l.drop (runL l)).length ≤ 60000 := by rw [List.length_drop]; omega
  rw [hN] at HNM
  clear hn hnm h0 hE0 hT0 hB0 hW0 h hP ht hN
  generalize l.drop (runL l) = t1 at *
  go_enter Tryz.func119, Tryz.ntmps119
  go_wp2_with fail
  rw [← HW0.out]
  refine HNM.out.mono ?_
  rintro e w1 ⟨rfl, hr1, hb1⟩
  have hsz1 := hb1.size
  obtain ⟨W1, hW1⟩ : ∃ W1, W1 = w1.alloc (.cells #[.int .i64 1, .string (bs N), .string ⟨#[]⟩, .slice none 0 0, .bool false] 72) := ⟨_, rfl⟩
  have hbn : Below w1.heap.size w1 W1 := by rw [hW1]; exact (Below.refl _ _).alloc (Nat.le_refl _) _
  have hk1 : SpK R w w1.heap.size N (.slice none 0 0) [] t1 W1 := ⟨hr1.below hbn, (hE.but (HB0.out.trans hb1)).below hbn, (HT0.out.but hb1 (by omega)).below hbn (by omega), by rw [hW1]; exact TokAt.new _ _ _ _ _ _, OwnsAt.nil _ _, (HB0.out.trans hb1).trans (But.of hbn hr1.2.2), hR, by omega⟩
  have HK1 := Lib.hid hk1
  have HW1 := Lib.hid hW1
  have HG := Lib.hid hG
  have HTX := Lib.hid htx
  clear hr1 hb1 hbn hk1 hW1 hE hG htx
  go_upto_region 2 with (fail)
  rw [← HW1.out]
  go_wp2_with fail
  go_loopw [] (fun wr => ∃ (cur : List UInt8) (qs : List At2) (o : Option Addr) (i j : Nat), SpK R w w1.heap.size N (.slice o i j) qs cur wr ∧ (txD cur = true ∧ cur.length ≤ 60000 ∧ qs.length ≤ 8) ∧ tagF cur qs = G) (fun wr => left R wr)
  case atStart => exact ⟨t1, [], none, 0, 0, HK1.out, ⟨HTX.out, htl, by simp⟩, HG.out⟩
  case round =>
    obtain ⟨cur, qs, o, i, j, hk, ⟨hct, hcl, hq8⟩, hgf⟩ := hrel
    have HK := Lib.hid hk
    have hmz := left_of hk.rd
    have HMZ := Lib.hid hmz
    clear HK1 HG HTX HT0 HB0 hmz
    have hs1 := spaces_p R cur wr hk.rd (by omega)
    unfold ScP at hs1
    have hut := tx_spc hct
    have hul : (cur.drop (spcL cur)).length ≤ cur.length - spcL cur := by rw [List.length_drop]; omega
    by_cases hgo : 0 < spcL cur ∧ [47].isPrefixOf (cur.drop (spcL cur)) = false ∧ [62].isPrefixOf (cur.drop (spcL cur)) = false
    · obtain ⟨g0, g1, g2⟩ := hgo
      rw [tag_go g0 g1 g2] at hgf
      rw [decide_eq_true g0] at hs1
      generalize cur.drop (spcL cur) = u at *
      have HS1 := Lib.hid hs1
      have ha1 : ∀ W, RdB R u W → Calls Tryz.prog 142 #[.pointer (some ⟨R, 0, none⟩), .string ⟨#[47]⟩] W fun e w' => e = .returned (.bool false) ∧ w' = W := fun W hr => by rw [← g1]; exact ahead_any R u [47] W hr
      have ha2 : ∀ W, RdB R u W → Calls Tryz.prog 142 #[.pointer (some ⟨R, 0, none⟩), .string ⟨#[62]⟩] W fun e w' => e = .returned (.bool false) ∧ w' = W := fun W hr => by rw [← g2]; exact ahead_any R u [62] W hr
      have HA1 := Lib.hid ha1
      have HA2 := Lib.hid ha2
      have HGF := Lib.hid hgf
      clear hs1 ha1 ha2 g1 g2 hk hgf
      go_wp2_with fail
      refine HS1.out.mono ?_
      rintro e w2 ⟨rfl, hr2, hb2⟩
      have HK2 := Lib.hid (HK.out.next hr2 hb2)
      have HC1 := Lib.hid (HA1.out w2 hr2)
      have HC2 := Lib.hid (HA2.out w2 hr2)
      clear hr2 hb2
      go_wp2_with fail
      refine HC1.out.mono ?_
      rintro e w3 ⟨rfl, rfl⟩
      go_wp2_with fail
      refine HC2.out.mono ?_
      rintro e w3 ⟨rfl, rfl⟩
      have hkd := HK2.out.drew
      have hat := att_any R u w3.drew hkd.rd (by omega) hut hkd.env qs (w1.heap.size + 1) o i j hq8 hkd.own (by have := hkd.hr; have := hkd.hT; omega)
      have HKD := Lib.hid hkd
      obtain ⟨⟨d0, d1, d2, d3, d4⟩, ⟨f0, f1, f2, f3, f4⟩, h6⟩ := HK2.out.tag
      cases hx : attP u qs with
      | inl err =>
        rw [hx] at hat
        have hgf2 := HGF.out
        rw [hx] at hgf2
        have hP1 := HP.out
        rw [← hgf2] at hP1
        have HPE := Lib.hid hP1
        have hat2 : Calls Tryz.prog 143 #[.pointer (some ⟨R, 0, none⟩), .slice o i j] w3.drew (fun e w' => e = pan err ∧ But R w3.drew w') := hat
        have HAT := Lib.hid hat2
        clear hat hat2 hx hgf2 hP1 hkd
        go_wp2_with fail
        refine wp_region_any (by kernel_rfl) ?_
        change wpAny _ _ _ _ _ _ _ (World.drew _)
        refine wpAny_take (i := 0) (v := .pointer (some ⟨w1.heap.size, 3, none⟩)) rfl (by kernel_rfl) (by kernel_rfl) (by kernel_rfl) (fun _ _ _ h => h) (Or.inl ⟨by rfl, ?_⟩) ?_
        · intro w; go_simp
        refine wpAny_take (i := 2) (v := .pointer (some ⟨R, 0, none⟩)) rfl (by kernel_rfl) (by kernel_rfl) (by kernel_rfl) (fun _ _ _ h => h) (Or.inl ⟨by rfl, ?_⟩) ?_
        · intro w; go_simp
        refine wpAny_take (i := 3) (v := .pointer (some ⟨w1.heap.size, 3, none⟩)) rfl (by kernel_rfl) (by kernel_rfl) (by kernel_rfl) (fun _ _ _ h => h) (Or.inl ⟨by rfl, ?_⟩) ?_
        · intro w; go_simp
        refine wpAny_ready (rs := [1, 4]) (by kernel_rfl) (by simp) ?_
        refine AllReady.cons rfl (fun K hK => ?_) (AllReady.cons rfl (fun K hK => ?_) AllReady.nil)
        · go_simp
          refine hK _ _ ?_
          clear hK K
          refine wpAny_ready (rs := [4]) (by kernel_rfl) (by simp) ?_
          refine AllReady.cons rfl (fun K hK => ?_) AllReady.nil
          go_simp
          refine hK _ _ ?_
          clear hK K
          refine wpAny_ready (rs := [5]) (by kernel_rfl) (by simp) ?_
          refine AllReady.cons rfl (fun K hK => ?_) AllReady.nil
          go_simp
          refine HAT.out.mono ?_
          rintro e w4 ⟨rfl, hb4⟩
          exact ⟨rfl, HPE.out _ (HKD.out.but.trans hb4)⟩
        · go_simp
          refine hK _ _ ?_
          clear hK K
          refine wpAny_ready (rs := [1, 5]) (by kernel_rfl) (by simp) ?_
          refine AllReady.cons rfl (fun K hK => ?_) (AllReady.cons rfl (fun K hK => ?_) AllReady.nil)
          · go_simp
            refine hK _ _ ?_
            clear hK K
            refine wpAny_ready (rs := [5]) (by kernel_rfl) (by simp) ?_
            refine AllReady.cons rfl (fun K hK => ?_) AllReady.nil
            go_simp
            refine HAT.out.mono ?_
            rintro e w4 ⟨rfl, hb4⟩
            exact ⟨rfl, HPE.out _ (HKD.out.but.trans hb4)⟩
          · go_simp
            refine HAT.out.mono ?_
            rintro e w4 ⟨rfl, hb4⟩
            exact ⟨rfl, HPE.out _ (HKD.out.but.trans hb4)⟩
      | inr y =>
        obtain ⟨xm, xt, rest⟩ := y
        rw [hx] at hat
        have hgf2 := HGF.out
        rw [hx] at hgf2
        have HG2 := Lib.hid hgf2
        have hat2 : Calls Tryz.prog 143 #[.pointer (some ⟨R, 0, none⟩), .slice o i j] w3.drew (fun e w' => e = .returned (.agg #[.string (bs xm), .string (bs xt)]) ∧ RdB R rest w' ∧ But R w3.drew w') := hat
        have HAT := Lib.hid hat2
        have hrx := attP_tx hut hx
        have hq7 := attP_len hq8 hx
        clear hat hat2 hx hgf2 hkd
        go_wp2_with fail
        go_region_law (first
            | (refine step_pushAt rfl (.tmp 20) (.tmp 25) rfl xm xt w4.heap.size (HK4.out.own.keep (fun k _ hk => Below.heap_alloc w4 _ k hk)) rfl rfl (by go_simp) (by go_simp) (by have := HK4.out.tag.2.2; simp; omega) (by omega) ?_; intro v' w5 hown5 hb5
               obtain ⟨o5, i5, j5, rfl⟩ := hown5.form
               have hpu := (HK4.out.push ((Below.refl _ _).alloc (Nat.le_refl _) _ |>.mono (by have := HK4.out.tag.2.2; omega) |>.trans hb5) hown5)
               have HPU := Lib.hid hpu
               clear hpu
               obtain ⟨⟨x0, x1, x2, x3, x4⟩, ⟨y0, y1, y2, y3, y4⟩, y5⟩ := (HK4.out.tag.below ((Below.refl _ _).alloc (Nat.le_refl _) _) HK4.out.tag.2.2).below hb5 (by omega))
            | (go_simp; go_at_call 143; refine HAT.out.mono ?_; rintro e w4 ⟨rfl, hr4, hb4⟩
               have hk4 := HKD.out.next hr4 hb4
               have d3' := hk4.tag.1.2.2.2.1
               have h6' := hk4.tag.2.2
               have HK4 := Lib.hid hk4
               clear hk4 hr4 hb4))
        all_goals
          go_wp2_with fail
          go_roundw
          case rel => exact ⟨rest, qs ++ [(xm, xt)], o5, i5, j5, HPU.out, ⟨hrx.1, by omega, by simp; omega⟩, HG2.out⟩
          case measure =>
            rw [left_of HPU.out.rd, HMZ.out]
            omega
    · rw [tag_fin hgo] at hgf
      have hcase : decide (0 < spcL cur) = false ∨ (decide (0 < spcL cur) = true ∧ [47].isPrefixOf (cur.drop (spcL cur)) = true) ∨ (decide (0 < spcL cur) = true ∧ [47].isPrefixOf (cur.drop (spcL cur)) = false ∧ [62].isPrefixOf (cur.drop (spcL cur)) = true) := by
        by_cases h0 : 0 < spcL cur
        · cases h1 : [47].isPrefixOf (cur.drop (spcL cur)) with
          | true => exact .inr (.inl ⟨decide_eq_true h0, rfl⟩)
          | false =>
            cases h2 : [62].isPrefixOf (cur.drop (spcL cur)) with
            | true => exact .inr (.inr ⟨decide_eq_true h0, rfl, rfl⟩)
            | false => exact absurd ⟨h0, h1, h2⟩ hgo
        · exact .inl (decide_eq_false h0)
      generalize decide (0 < spcL cur) = bb at *
      generalize cur.drop (spcL cur) = u at *
      have htk : ∀ W, RdB R u W → Calls Tryz.prog 120 #[.pointer (some ⟨R, 0, none⟩), .string ⟨#[47]⟩] W (fun e w' => e = .returned (.bool ([47].isPrefixOf u)) ∧ RdB R (sl47 u) w' ∧ But R W w') := fun W hr => take_any R u [47] W hr
      have ha1 : ∀ W, RdB R u W → Calls Tryz.prog 142 #[.pointer (some ⟨R, 0, none⟩), .string ⟨#[47]⟩] W fun e w' => e = .returned (.bool ([47].isPrefixOf u)) ∧ w' = W := fun W hr => ahead_any R u [47] W hr
      have ha2 : ∀ W, RdB R u W → Calls Tryz.prog 142 #[.pointer (some ⟨R, 0, none⟩), .string ⟨#[62]⟩] W fun e w' => e = .returned (.bool ([62].isPrefixOf u)) ∧ w' = W := fun W hr => ahead_any R u [62] W hr
      unfold finQ at hgf
      have hmy : ∀ W, RdB R (sl47 u) W → mustL (sl47 u) 62 = 0 → Calls Tryz.prog 141 #[.pointer (some ⟨R, 0, none⟩), .string ⟨#[62]⟩] W (fun e w' => e = .returned (.tuple #[]) ∧ RdB R ((sl47 u).drop 1) w' ∧ But R W w') := fun W hr h0 => by
        rcases must_cases (sl47 u) 62 with ⟨x, hx, _, _⟩ | ⟨_, h, _⟩ | ⟨_, h, _⟩
        · rw [hx] at hr ⊢
          exact must_ok R 62 x W hr
        · omega
        · omega
      have hmn : ∀ W, RdB R (sl47 u) W → mustL (sl47 u) 62 ≠ 0 → Calls Tryz.prog 141 #[.pointer (some ⟨R, 0, none⟩), .string ⟨#[62]⟩] W (fun e w' => e = pan (mustL (sl47 u) 62) ∧ But R W w') := fun W hr h0 => must_no R 62 (sl47 u) W hr h0
      have HMY := Lib.hid hmy
      have HMN := Lib.hid hmn
      clear hmy hmn hk hgo
      generalize [62].isPrefixOf u = v62 at *
      generalize [47].isPrefixOf u = v47 at *
      generalize sl47 u = x at *
      have HTK := Lib.hid htk
      have HA1 := Lib.hid ha1
      have HA2 := Lib.hid ha2
      have HS1 := Lib.hid hs1
      clear htk ha1 ha2 hs1
      obtain ⟨mm, hmm⟩ : ∃ mm, mustL x 62 = mm := ⟨_, rfl⟩
      rw [hmm] at HMY HMN hgf
      obtain ⟨yy, hyy⟩ : ∃ yy, x.drop 1 = yy := ⟨_, rfl⟩
      rw [hyy] at HMY hgf
      clear hmm hyy
      rcases hcase with rfl | ⟨rfl, rfl⟩ | ⟨rfl, rfl, rfl⟩
      · go_wp2_with fail
        refine HS1.out.mono ?_
        rintro e w2 ⟨rfl, hr2, hb2⟩
        have HK2 := Lib.hid (HK.out.next hr2 hb2)
        have HC1 := Lib.hid (HA1.out w2 hr2)
        have HC2 := Lib.hid (HA2.out w2 hr2)
        have HT2 := Lib.hid (HTK.out w2 hr2)
        clear hr2 hb2
        go_wp2_with fail
        refine HT2.out.mono ?_
        rintro e w4 ⟨rfl, hr4, hb4⟩
        have hk4 := HK2.out.next hr4 hb4
        have HK4 := Lib.hid hk4
        obtain ⟨⟨d0, d1, d2, d3, d4⟩, ⟨f0, f1, f2, f3, f4⟩, h6⟩ := hk4.tag
        have hsb : Below w1.heap.size w4 (w4.setCell ⟨w1.heap.size, 4, none⟩ (.bool v47)) := (Below.refl _ _).setCell (p := ⟨w1.heap.size, 4, none⟩) (Nat.le_refl _) _
        have hRT : R < w1.heap.size := by have := hk4.hr; have := hk4.hT; omega
        have hr5 : RdB R x (w4.setCell ⟨w1.heap.size, 4, none⟩ (.bool v47)) := hr4.block (hsb.block R hRT)
        have ht5 : TokAt w1.heap.size 1 (bs N) ⟨#[]⟩ (.slice o i j) v47 (w4.setCell ⟨w1.heap.size, 4, none⟩ (.bool v47)) := hk4.tag.put4 v47
        have hx5 : TokAt w.heap.size 0 ⟨#[]⟩ ⟨#[]⟩ (.slice none 0 0) false (w4.setCell ⟨w1.heap.size, 4, none⟩ (.bool v47)) := hk4.box.block (hsb.block _ hk4.hT)
        have ho5 : OwnsAt (w1.heap.size + 1) (w4.setCell ⟨w1.heap.size, 4, none⟩ (.bool v47)) (.slice o i j) qs := hk4.own.keep (fun k hk _ => Below.heap_setCell _ _ _ _ (by show k ≠ w1.heap.size; omega))
        have hb5 : But R w (w4.setCell ⟨w1.heap.size, 4, none⟩ (.bool v47)) := ⟨hk4.but.1.trans (hsb.mono (by omega)), fun k hk hkr => (hsb.block k (by have := hk4.hT; omega)).trans (hk4.but.2 k hk hkr)⟩
        have HR5 := Lib.hid hr5
        have HT5 := Lib.hid ht5
        have HX5 := Lib.hid hx5
        have HO5 := Lib.hid ho5
        have HB5 := Lib.hid hb5
        have hwT := hk4.hT
        have hwR := hk4.hr
        clear hr4 hb4 hk4 hsb hr5 ht5 hx5 ho5 hb5
        by_cases hm : mm = 0
        · rw [if_neg (by omega)] at hgf
          have hP1 := HP.out
          rw [← hgf] at hP1
          have HPE := Lib.hid hP1
          have HM5 := Lib.hid (HMY.out _ HR5.out hm)
          clear hm hgf hP1
          go_wp2_with fail
          refine HM5.out.mono ?_
          rintro e w6 ⟨rfl, hr6, hb6⟩
          have hk6 := HX5.out.block (hb6.2 _ HX5.out.2.2 (by omega))
          have hk7 := HT5.out.block (hb6.2 _ HT5.out.2.2 (by omega))
          have HK6 := Lib.hid hk6
          have HR6 := Lib.hid hr6
          have HB6 := Lib.hid (HB5.out.trans hb6)
          have HO6 := Lib.hid (HO5.out.keep (fun k hk hk2 => hb6.2 k hk2 (by omega)))
          clear d0 d1 d2 d3 d4 f0 f1 f2 f3 f4 h6
          obtain ⟨⟨c0, c1, c2, c3, c4⟩, ⟨f0, f1, f2, f3, f4⟩, h3⟩ := hk6
          obtain ⟨⟨d0, d1, d2, d3, d4⟩, _, h4⟩ := hk7
          clear hr6 hb6
          go_wp2_with fail
          exact end_tok1 rfl _ w.heap.size (HK6.out.set) rfl rfl (HPE.out _ o i j (HR6.out.tok (by omega) _ _ _ _ _) (HB6.out.tok (Nat.le_refl _) hwR _ _ _ _ _) ((HO6.out.keep (fun k hk _ => tokSet_block _ _ _ _ _ _ _ k (by omega))).low (by omega)))
        · rw [if_pos hm] at hgf
          have hP1 := HP.out
          rw [← hgf] at hP1
          have HPE := Lib.hid hP1
          have HM5 := Lib.hid (HMN.out _ HR5.out hm)
          clear hm hgf hP1
          go_wp2_with fail
          refine HM5.out.mono ?_
          rintro e w6 ⟨rfl, hb6⟩
          have HB6 := Lib.hid (HB5.out.trans hb6)
          clear hb6
          unfold pan
          go_wp2_with fail
          exact ⟨rfl, HPE.out _ HB6.out⟩
      · go_wp2_with fail
        refine HS1.out.mono ?_
        rintro e w2 ⟨rfl, hr2, hb2⟩
        have HK2 := Lib.hid (HK.out.next hr2 hb2)
        have HC1 := Lib.hid (HA1.out w2 hr2)
        have HC2 := Lib.hid (HA2.out w2 hr2)
        have HT2 := Lib.hid (HTK.out w2 hr2)
        clear hr2 hb2
        go_wp2_with fail
        refine HC1.out.mono ?_
        rintro e w3 ⟨rfl, rfl⟩
        go_wp2_with fail
        refine HT2.out.mono ?_
        rintro e w4 ⟨rfl, hr4, hb4⟩
        have hk4 := HK2.out.next hr4 hb4
        have HK4 := Lib.hid hk4
        obtain ⟨⟨d0, d1, d2, d3, d4⟩, ⟨f0, f1, f2, f3, f4⟩, h6⟩ := hk4.tag
        have hsb : Below w1.heap.size w4 (w4.setCell ⟨w1.heap.size, 4, none⟩ (.bool true)) := (Below.refl _ _).setCell (p := ⟨w1.heap.size, 4, none⟩) (Nat.le_refl _) _
        have hRT : R < w1.heap.size := by have := hk4.hr; have := hk4.hT; omega
        have hr5 : RdB R x (w4.setCell ⟨w1.heap.size, 4, none⟩ (.bool true)) := hr4.block (hsb.block R hRT)
        have ht5 : TokAt w1.heap.size 1 (bs N) ⟨#[]⟩ (.slice o i j) true (w4.setCell ⟨w1.heap.size, 4, none⟩ (.bool true)) := hk4.tag.put4 true
        have hx5 : TokAt w.heap.size 0 ⟨#[]⟩ ⟨#[]⟩ (.slice none 0 0) false (w4.setCell ⟨w1.heap.size, 4, none⟩ (.bool true)) := hk4.box.block (hsb.block _ hk4.hT)
        have ho5 : OwnsAt (w1.heap.size + 1) (w4.setCell ⟨w1.heap.size, 4, none⟩ (.bool true)) (.slice o i j) qs := hk4.own.keep (fun k hk _ => Below.heap_setCell _ _ _ _ (by show k ≠ w1.heap.size; omega))
        have hb5 : But R w (w4.setCell ⟨w1.heap.size, 4, none⟩ (.bool true)) := ⟨hk4.but.1.trans (hsb.mono (by omega)), fun k hk hkr => (hsb.block k (by have := hk4.hT; omega)).trans (hk4.but.2 k hk hkr)⟩
        have HR5 := Lib.hid hr5
        have HT5 := Lib.hid ht5
        have HX5 := Lib.hid hx5
        have HO5 := Lib.hid ho5
        have HB5 := Lib.hid hb5
        have hwT := hk4.hT
        have hwR := hk4.hr
        clear hr4 hb4 hk4 hsb hr5 ht5 hx5 ho5 hb5
        by_cases hm : mm = 0
        · rw [if_neg (by omega)] at hgf
          have hP1 := HP.out
          rw [← hgf] at hP1
          have HPE := Lib.hid hP1
          have HM5 := Lib.hid (HMY.out _ HR5.out hm)
          clear hm hgf hP1
          go_wp2_with fail
          refine HM5.out.mono ?_
          rintro e w6 ⟨rfl, hr6, hb6⟩
          have hk6 := HX5.out.block (hb6.2 _ HX5.out.2.2 (by omega))
          have hk7 := HT5.out.block (hb6.2 _ HT5.out.2.2 (by omega))
          have HK6 := Lib.hid hk6
          have HR6 := Lib.hid hr6
          have HB6 := Lib.hid (HB5.out.trans hb6)
          have HO6 := Lib.hid (HO5.out.keep (fun k hk hk2 => hb6.2 k hk2 (by omega)))
          clear d0 d1 d2 d3 d4 f0 f1 f2 f3 f4 h6
          obtain ⟨⟨c0, c1, c2, c3, c4⟩, ⟨f0, f1, f2, f3, f4⟩, h3⟩ := hk6
          obtain ⟨⟨d0, d1, d2, d3, d4⟩, _, h4⟩ := hk7
          clear hr6 hb6
          go_wp2_with fail
          exact end_tok1 rfl _ w.heap.size (HK6.out.set) rfl rfl (HPE.out _ o i j (HR6.out.tok (by omega) _ _ _ _ _) (HB6.out.tok (Nat.le_refl _) hwR _ _ _ _ _) ((HO6.out.keep (fun k hk _ => tokSet_block _ _ _ _ _ _ _ k (by omega))).low (by omega)))
        · rw [if_pos hm] at hgf
          have hP1 := HP.out
          rw [← hgf] at hP1
          have HPE := Lib.hid hP1
          have HM5 := Lib.hid (HMN.out _ HR5.out hm)
          clear hm hgf hP1
          go_wp2_with fail
          refine HM5.out.mono ?_
          rintro e w6 ⟨rfl, hb6⟩
          have HB6 := Lib.hid (HB5.out.trans hb6)
          clear hb6
          unfold pan
          go_wp2_with fail
          exact ⟨rfl, HPE.out _ HB6.out⟩
      · go_wp2_with fail
        refine HS1.out.mono ?_
        rintro e w2 ⟨rfl, hr2, hb2⟩
        have HK2 := Lib.hid (HK.out.next hr2 hb2)
        have HC1 := Lib.hid (HA1.out w2 hr2)
        have HC2 := Lib.hid (HA2.out w2 hr2)
        have HT2 := Lib.hid (HTK.out w2 hr2)
        clear hr2 hb2
        go_wp2_with fail
        refine HC1.out.mono ?_
        rintro e w3 ⟨rfl, rfl⟩
        go_wp2_with fail
        refine HC2.out.mono ?_
        rintro e w3 ⟨rfl, rfl⟩
        go_wp2_with fail
        refine HT2.out.mono ?_
        rintro e w4 ⟨rfl, hr4, hb4⟩
        have hk4 := HK2.out.next hr4 hb4
        have HK4 := Lib.hid hk4
        obtain ⟨⟨d0, d1, d2, d3, d4⟩, ⟨f0, f1, f2, f3, f4⟩, h6⟩ := hk4.tag
        have hsb : Below w1.heap.size w4 (w4.setCell ⟨w1.heap.size, 4, none⟩ (.bool false)) := (Below.refl _ _).setCell (p := ⟨w1.heap.size, 4, none⟩) (Nat.le_refl _) _
        have hRT : R < w1.heap.size := by have := hk4.hr; have := hk4.hT; omega
        have hr5 : RdB R x (w4.setCell ⟨w1.heap.size, 4, none⟩ (.bool false)) := hr4.block (hsb.block R hRT)
        have ht5 : TokAt w1.heap.size 1 (bs N) ⟨#[]⟩ (.slice o i j) false (w4.setCell ⟨w1.heap.size, 4, none⟩ (.bool false)) := hk4.tag.put4 false
        have hx5 : TokAt w.heap.size 0 ⟨#[]⟩ ⟨#[]⟩ (.slice none 0 0) false (w4.setCell ⟨w1.heap.size, 4, none⟩ (.bool false)) := hk4.box.block (hsb.block _ hk4.hT)
        have ho5 : OwnsAt (w1.heap.size + 1) (w4.setCell ⟨w1.heap.size, 4, none⟩ (.bool false)) (.slice o i j) qs := hk4.own.keep (fun k hk _ => Below.heap_setCell _ _ _ _ (by show k ≠ w1.heap.size; omega))
        have hb5 : But R w (w4.setCell ⟨w1.heap.size, 4, none⟩ (.bool false)) := ⟨hk4.but.1.trans (hsb.mono (by omega)), fun k hk hkr => (hsb.block k (by have := hk4.hT; omega)).trans (hk4.but.2 k hk hkr)⟩
        have HR5 := Lib.hid hr5
        have HT5 := Lib.hid ht5
        have HX5 := Lib.hid hx5
        have HO5 := Lib.hid ho5
        have HB5 := Lib.hid hb5
        have hwT := hk4.hT
        have hwR := hk4.hr
        clear hr4 hb4 hk4 hsb hr5 ht5 hx5 ho5 hb5
        by_cases hm : mm = 0
        · rw [if_neg (by omega)] at hgf
          have hP1 := HP.out
          rw [← hgf] at hP1
          have HPE := Lib.hid hP1
          have HM5 := Lib.hid (HMY.out _ HR5.out hm)
          clear hm hgf hP1
          go_wp2_with fail
          refine HM5.out.mono ?_
          rintro e w6 ⟨rfl, hr6, hb6⟩
          have hk6 := HX5.out.block (hb6.2 _ HX5.out.2.2 (by omega))
          have hk7 := HT5.out.block (hb6.2 _ HT5.out.2.2 (by omega))
          have HK6 := Lib.hid hk6
          have HR6 := Lib.hid hr6
          have HB6 := Lib.hid (HB5.out.trans hb6)
          have HO6 := Lib.hid (HO5.out.keep (fun k hk hk2 => hb6.2 k hk2 (by omega)))
          clear d0 d1 d2 d3 d4 f0 f1 f2 f3 f4 h6
          obtain ⟨⟨c0, c1, c2, c3, c4⟩, ⟨f0, f1, f2, f3, f4⟩, h3⟩ := hk6
          obtain ⟨⟨d0, d1, d2, d3, d4⟩, _, h4⟩ := hk7
          clear hr6 hb6
          go_wp2_with fail
          exact end_tok1 rfl _ w.heap.size (HK6.out.set) rfl rfl (HPE.out _ o i j (HR6.out.tok (by omega) _ _ _ _ _) (HB6.out.tok (Nat.le_refl _) hwR _ _ _ _ _) ((HO6.out.keep (fun k hk _ => tokSet_block _ _ _ _ _ _ _ k (by omega))).low (by omega)))
        · rw [if_pos hm] at hgf
          have hP1 := HP.out
          rw [← hgf] at hP1
          have HPE := Lib.hid hP1
          have HM5 := Lib.hid (HMN.out _ HR5.out hm)
          clear hm hgf hP1
          go_wp2_with fail
          refine HM5.out.mono ?_
          rintro e w6 ⟨rfl, hb6⟩
          have HB6 := Lib.hid (HB5.out.trans hb6)
          clear hb6
          unfold pan
          go_wp2_with fail
          exact ⟨rfl, HPE.out _ HB6.out⟩
end Char
end Go.Proofs.YtlmodgnkmlbjhaaGreatDoor
