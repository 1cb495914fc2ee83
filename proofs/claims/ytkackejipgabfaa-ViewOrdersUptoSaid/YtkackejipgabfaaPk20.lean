/- LawOrders10 LawSorts10 NoneV3 -/
import Derived.Test.YtkackejipgabfaaPk19
import Derived.Test.YtkackejipgabfaaPk06
import Derived.Deep.DeepCutAuto
import Derived.Test.YtkackejipgabfaaPk11
import Derived.Deep.AppendLies
import Derived.Deep.RegionLaw
import Derived.Test.YtkackejipgabfaaPk15
import Derived.Test.YtkackejipgabfaaPk10
/- The walk of the law ViewOrders. -/
namespace Go.Proofs.Ytkackejipgabfaa.Char
open Go.RowKit Go.Lib

/-- numbers that can be read -/
def Rd (W : World) (u : Value) (A : List Int) : Prop := IntsOn W (fun g => g < W.heap.size) u A
theorem Rd.below {W W' : World} {u : Value} {A : List Int} (h : Rd W u A) (hb : Below W.heap.size W W') : Rd W' u A := h.move fun _ hg hF => ⟨Nat.lt_of_lt_of_le hF hb.size, hb.block _ hg⟩
theorem Rd.ints {W : World} {A : List Int} {o1 o2 : Option Addr} {j1 j2 : Nat} (hA : A.length ≤ 2 ^ 62) (h1 : Rd W (.slice o1 A.length j1) A) (h2 : Rd W (.slice o2 A.length j2) A) :
    Calls Try.prog 14 #[.slice o1 A.length j1, .slice o2 A.length j2] W fun e w' => e = .returned (.bool true) ∧ ∃ n, w' = W.drewN n := by
  have := ints_any A A _ _ o1 j1 o2 j2 W hA h1 h2
  rw [decide_eq_true rfl] at this
  exact this
theorem OwnsInt.rd {B : Nat} {W : World} {v : Value} {A : List Int} (h : OwnsInt B W v A) : Rd W v A := h.on fun _ hg => (h.blk hg).2
theorem IntsOn.take {w : World} {F : Nat → Prop} {o : Option Addr} {j : Nat} {zs : List Int} (h : IntsOn w F (.slice o zs.length j) zs) (n : Nat) : IntsOn w F (.slice o (zs.take n).length j) (zs.take n) := by
  obtain ⟨o', i', j', e1, e2, e3⟩ := h
  cases e1
  refine ⟨o, _, j, rfl, rfl, ?_⟩
  rcases e3 with e3 | ⟨g, off, e4, e5, e6⟩
  · left; rw [e3, List.take_nil]
  · refine .inr ⟨g, off, e4, e5, fun k hk => ?_⟩
    rw [List.length_take] at hk
    have := e6 k (by omega)
    rw [List.getD_eq_getElem?_getD] at this ⊢
    rw [List.getElem?_take_of_lt (by omega)]
    exact this
set_option maxRecDepth 100000 in
set_option maxHeartbeats 16000000 in
theorem lawOrders10_any (t : Tr) (va vk : Value) (o : Option Addr) (j : Nat) (qs : List StX) (oz : Option Addr) (jz : Nat) (zs : List Int) (w : World) (hn : NdOn w (fun g => g < w.heap.size) t va vk) (ht : totP t ≤ 1048576)
    (hqs : StsOn w (fun g => g < w.heap.size) (.slice o qs.length j) qs) (hsm : ∀ q, q ∈ qs → StSm q) (hsum : sumT (fun q => totP q.t) qs ≤ 1048576)
    (hz : IntsOn w (fun g => g < w.heap.size) (.slice oz zs.length jz) zs) (hzj : zs.length ≤ jz) (hzw : ∀ z, z ∈ zs → (Lit.int .i64 z).wf = true) :
    Calls Try.prog 3 #[ndV t va vk, .slice o qs.length j, .slice oz zs.length jz] w fun e w' => e = .returned (.bool true) ∧ Below w.heap.size w w' := by
  obtain ⟨oa, ja, ok, jk, rfl, rfl⟩ := hn.form
  obtain ⟨W0, hW0⟩ : ∃ W0, W0 = w.alloc (.cells #[.int .i64 t.kd, .string (bs t.nm), .string (bs t.tx), .slice oa t.ats.length ja, .slice ok t.ks.length jk] 25) := ⟨_, rfl⟩
  have hb0 : Below w.heap.size w W0 := by rw [hW0]; exact (Below.refl _ _).alloc (Nat.le_refl _) _
  have hk0 : W0.heap[w.heap.size]? = some (.cells #[.int .i64 t.kd, .string (bs t.nm), .string (bs t.tx), .slice oa t.ats.length ja, .slice ok t.ks.length jk] 25 (0, 0)) := by rw [hW0]; exact World.alloc_heap_new w _
  have n0 : W0.cell? ⟨w.heap.size, 0, none⟩ = some (.int .i64 t.kd) := by simp [World.cell?, hk0]
  have n1 : W0.cell? ⟨w.heap.size, 1, none⟩ = some (.string (bs t.nm)) := by simp [World.cell?, hk0]
  have n2 : W0.cell? ⟨w.heap.size, 2, none⟩ = some (.string (bs t.tx)) := by simp [World.cell?, hk0]
  have n3 : W0.cell? ⟨w.heap.size, 3, none⟩ = some (.slice oa t.ats.length ja) := by simp [World.cell?, hk0]
  have n4 : W0.cell? ⟨w.heap.size, 4, none⟩ = some (.slice ok t.ks.length jk) := by simp [World.cell?, hk0]
  have hn0 : NdOn W0 (fun g => g < w.heap.size) t (.slice oa t.ats.length ja) (.slice ok t.ks.length jk) := hn.move (fun g hg hF => ⟨hg, hb0.block g hg⟩)
  have hfew := fewF_any t _ _ W0 (hn0.move fun g hg _ => ⟨hg, rfl⟩)
  obtain ⟨E, hE⟩ : ∃ E, fewB t = E := ⟨_, rfl⟩
  rw [hE] at hfew
  unfold ndV at hfew
  have HF := Lib.hid hfew
  have HN := Lib.hid hn0
  have HQS := Lib.hid (hqs.move (F' := fun g => g < w.heap.size) (w' := W0) fun g hg hF => ⟨hg, hb0.block g hg⟩)
  have HZ := Lib.hid (hz.move (F' := fun g => g < w.heap.size) (w' := W0) fun g hg hF => ⟨hg, hb0.block g hg⟩)
  have HSM := Lib.hid hsm
  have HSU := Lib.hid hsum
  have HB0 := Lib.hid hb0
  have HE := Lib.hid hE
  have HW0 := Lib.hid hW0
  have HWK := Lib.hid worksB_any
  have HZW := Lib.hid hzw
  have HT := Lib.hid ht
  clear hn hqs hsm hsum hb0 hk0 hn0 hfew hE hW0 hz hzw ht
  unfold ndV
  cases E with
  | false =>
    go_enter Try.func3, Try.ntmps3
    go_upto_region 1 with fail
    rw [← HW0.out]
    go_wp2_with (first
      | (go_at_call 10
         refine HF.out.mono ?_
         rintro e w1 ⟨rfl, q1⟩
         have HB1 := Lib.hid (HB0.out.trans (q1.mono HB0.out.size))
         clear q1 n0 n1 n2 n3 n4)
      | (go_at_call 11
         refine (HWK.out _).mono ?_
         rintro e w2 ⟨rfl, q2⟩
         have HB2 := Lib.hid (HB1.out.trans (q2.mono HB1.out.size))
         clear q2))
    go_ret
    exact ⟨rfl, HB2.out⟩
  | true =>
    have hcnt := few_cnt HE.out
    go_enter Try.func3, Try.ntmps3
    go_upto_region 1 with fail
    rw [← HW0.out]
    clear HW0
    go_upto_region 6 with (first
      | (go_at_call 10
         refine HF.out.mono ?_
         rintro e w1 ⟨rfl, q1⟩
         have hw1 := HB0.out.size
         have hm := madeB_any t (.slice oa t.ats.length ja) (.slice ok t.ks.length jk) w1 (F := fun g => g < w.heap.size) hcnt (HN.out.move fun g hg hF => ⟨hF, q1.block g hg⟩) (fun g hg => Nat.lt_of_lt_of_le (Nat.lt_of_lt_of_le hg hw1) q1.size) (by have := HT.out; omega)
         unfold ndV at hm
         have HM := Lib.hid hm
         have HB1 := Lib.hid (HB0.out.trans (q1.mono HB0.out.size))
         have HQ1 := Lib.hid q1
         have m0 := keep_cell n0 q1
         have m1 := keep_cell n1 q1
         have m2 := keep_cell n2 q1
         have m3 := keep_cell n3 q1
         have m4 := keep_cell n4 q1
         clear q1 n0 n1 n2 n3 n4 hm hw1)
      | (go_at_call 12
         refine HM.out.mono ?_
         rintro e w2 ⟨p, b, sb, b2, d, Z, Z1, Y, Y1, rfl, h2, h3⟩
         have HP : Hid (PairN w1.heap.size w1 w2 p b sb b2 d 3 (stoI t) []) := Lib.hid ⟨Z, Z1, Y, Y1, h2, h3⟩
         clear h2 h3 m0 m1 m2 m3 m4 HM))
    have hgt := stoI_given t
    have hlen := stoI_len t
    have hwl := wfL_stoI t (by have := HT.out; omega)
    obtain ⟨SS, hSS⟩ : ∃ SS, stoI t = SS := ⟨_, rfl⟩
    rw [hSS] at HP hgt hlen hwl
    have HBD : Hid (SS.given ≤ 1048577 ∧ SS.L.length ≤ 1048578 ∧ wfL SS.L) := Lib.hid ⟨by have := HT.out; omega, by have := HT.out; omega, hwl⟩
    clear hgt hlen hwl hSS
    go_wp2_with fail
    go_loopw [8] (fun v wr => ∃ k : Nat, v = .int .i64 (k : Int) ∧ k ≤ qs.length ∧ k ≤ 20 ∧ Hid (PairN w1.heap.size w1 wr p b sb b2 d 3 (givS SS (playG (SS.given, []) (qs.take k)).1) (playG (SS.given, []) (qs.take k)).2)) (fun v _ => 20 - (RowKit.intOf v).toNat)
    case atStart => exact ⟨0, rfl, Nat.zero_le _, Nat.zero_le _, Lib.hid HP.out⟩
    case round =>
      obtain ⟨k, rfl, hk, hk20, HK⟩ := hrel
      clear HP
      have hst := totP_sum (qs.take k)
      have hst2 := sum_take (tl := fun q => totP q.t) k qs
      obtain ⟨g1, g2, g3⟩ := play_ok (qs.take k) SS.given [] (fun c hc => by cases hc) (fun q hq => HSM.out q (List.mem_of_mem_take hq)) (by have := HSU.out; have := HBD.out.1; omega)
      have htl : (qs.take k).length = k := by rw [List.length_take]; omega
      rw [htl] at g2
      simp only [List.length_nil] at g2
      have HG1 : Hid ((playG (SS.given, []) (qs.take k)).1 ≤ 3000000 ∧ (playG (SS.given, []) (qs.take k)).2.length ≤ 1048600 ∧ wfO (playG (SS.given, []) (qs.take k)).2) := Lib.hid ⟨by have := HSU.out; have := HBD.out.1; omega, by have := HSU.out; omega, g3⟩
      clear hst hst2 g1 g2 g3 htl
      by_cases hin : k < qs.length ∧ k < 20
      · obtain ⟨hlt, hl20⟩ := hin
        have hbw := HK.out.bel
        have hw1 : w.heap.size ≤ w1.heap.size := HB1.out.size
        obtain ⟨g, off, rfl, hgG, hat, hon⟩ := (HQS.out.move (F' := fun g => g < w.heap.size) (w' := wr) fun g hg hF => ⟨hF, (hbw.block g (by omega)).trans (HQ1.out.block g hg)⟩).reads k hlt
        have hs := HSM.out qs[k] (List.getElem_mem hlt)
        have hps : playG (SS.given, []) (qs.take (k + 1)) = stepG (playG (SS.given, []) (qs.take k)).1 (playG (SS.given, []) (qs.take k)).2 qs[k] := by rw [List.take_succ_eq_append_getElem hlt, playG_snoc]
        have htt : totP qs[k].t ≤ sumT (fun q => totP q.t) qs := sum_mem (tl := fun q : StX => totP q.t) (List.getElem_mem hlt)
        obtain ⟨y, hy⟩ : ∃ y, qs[k] = y := ⟨_, rfl⟩
        rw [hy] at hat hon hs hps htt
        have hst := step_any HK.out y hon (fun g hg => Nat.lt_of_lt_of_le hg hw1) hs (by show (playG (SS.given, []) (qs.take k)).1 + totP y.t ≤ 10000000; have := HG1.out.1; have := HSU.out; omega) (by have := HG1.out.2.1; have := HSU.out; omega)
        have e1 : ∀ n, givS (givS SS (playG (SS.given, []) (qs.take k)).1) n = givS SS n := fun n => rfl
        have e2 : (givS SS (playG (SS.given, []) (qs.take k)).1).given = (playG (SS.given, []) (qs.take k)).1 := rfl
        rw [e1, e2, ← hps] at hst
        obtain ⟨kd, id, ⟨r, v1, v2⟩, tt, va', vk'⟩ := y
        obtain ⟨ok', jk', oa', ja', oa2, ja2, ok2, jk2, f1, f2, f3, f4⟩ := hon.form
        dsimp only at f1 f2 f3 f4
        subst f1 f2 f3 f4
        obtain ⟨a0, a1, ⟨a2, a3, a4, a5, a6, a7, a8⟩, a9, a10, a11, a12, a13⟩ := hat
        dsimp only at a0 a1 a2 a3 a4 a5 a6 a7 a8 a9 a10 a11 a12 a13
        unfold stV at hst
        dsimp only at hst
        have HST := Lib.hid hst
        have HLT := Lib.hid hlt
        have HL20 := Lib.hid hl20
        have k1 : decide ((k : Int) < (qs.length : Int)) = true := decide_eq_true (by omega)
        have k2 : decide ((k : Int) < 20) = true := decide_eq_true (by omega)
        have hz0 : (0 : Int) ≤ (k : Int) := by omega
        have hz1 : (k : Int) < (qs.length : Int) := by omega
        clear hst hps htt hs hon hy hbw hw1 e1 e2 HG1 hlt hl20
        go_wp2_with (first
          | (go_at_call 13
             refine HST.out.mono ?_
             rintro e w9 ⟨rfl, h9⟩
             have H9 := Lib.hid h9
             clear h9 a0 a1 a2 a3 a4 a5 a6 a7 a8 a9 a10 a11 a12 a13))
        exact ⟨⟨k + 1, by go_num, by have := HLT.out; omega, by have := HL20.out; omega, H9⟩, by have := HL20.out; simp [RowKit.intOf]; omega⟩
      · have hb := HK.out.both (by show SS.L.length ≤ 5000000; have := HBD.out.2.1; omega) HBD.out.2.2 HG1.out.2.2 (by have := HG1.out.2.1; omega)
        have HBO : Hid (Both wr p b b2 SS.L 3 (playG (SS.given, []) (qs.take k)).2) := Lib.hid hb
        have HBW := Lib.hid (HB1.out.trans (HK.out.bel.mono HB1.out.size))
        have HQW : Hid (Below w1.heap.size w1 wr) := Lib.hid HK.out.bel
        generalize (playG (SS.given, []) (qs.take k)).2 = own at HBO
        clear hb HK HG1
        have hcase : (decide (k < qs.length) = true ∧ decide ((k : Int) < 20) = false) ∨ decide (k < qs.length) = false := by
          by_cases hlt : k < qs.length
          · exact .inl ⟨decide_eq_true hlt, decide_eq_false (by omega)⟩
          · exact .inr (decide_eq_false hlt)
        clear hin hk hk20
        obtain ⟨ZT, hZT⟩ : ∃ ZT, zs.take 200 = ZT := ⟨_, rfl⟩
        have htk := HZ.out.take 200
        have hztl : ZT.length ≤ 200 := by rw [← hZT, List.length_take]; omega
        have hlz : ZT.length = if 200 < zs.length then 200 else zs.length := by rw [← hZT, List.length_take]; split <;> omega
        rw [hZT] at htk
        have HTK := Lib.hid htk
        have HTW := Lib.hid fun z (hz : z ∈ ZT) => HZW.out z (List.mem_of_mem_take (hZT ▸ hz))
        have HTL := Lib.hid hztl
        have hform : 200 < zs.length → ∃ g off, oz = some ⟨g, off, none⟩ := fun h => by
          obtain ⟨o', i', j', e1, e2, e3⟩ := HZ.out
          cases e1
          rcases e3 with e3 | ⟨g, off, e4, _⟩
          · rw [e3] at h; simp at h
          · exact ⟨g, off, e4⟩
        clear htk hztl hZT
        rcases hcase with ⟨k1, k2⟩ | k1
        all_goals go_upto_if 35 with fail
        all_goals
          go_cut [2] (fun v wx => v = .slice oz ZT.length jz ∧ wx = wr)
          case first =>
            by_cases hl : 200 < zs.length
            · have l1 : decide ((200 : Int) < (zs.length : Int)) = true := decide_eq_true (by omega)
              have l2 : 200 ≤ jz := by omega
              rw [if_pos hl] at hlz
              have HLZ := Lib.hid hlz
              clear hlz
              obtain ⟨g, off, rfl⟩ := hform hl
              go_wp2_with fail
              go_meet
              exact ⟨by rw [HLZ.out], rfl⟩
            · have l1 : decide ((200 : Int) < (zs.length : Int)) = false := decide_eq_false (by omega)
              rw [if_neg hl] at hlz
              have HLZ := Lib.hid hlz
              clear hlz
              go_wp2_with fail
              go_meet
              exact ⟨by rw [HLZ.out], rfl⟩
          case rest =>
            obtain ⟨rfl, hwc⟩ := hcut
            have hwc := hwc.symm
            subst hwc
            have hdr : Below wr.heap.size wr wr.drew := (Below.refl _ _).drew
            have hbd := HBO.out.below hdr
            have BW : Hid (Below wr.heap.size wr wr.drew) := Lib.hid hdr
            have y0 := hbd.c0
            have y1 := hbd.c1
            have HAL := Lib.hid HBO.out.allLen
            have HTW2 := HTW
            have hw1 : w.heap.size ≤ w1.heap.size := HB1.out.size
            have HRZ : Hid (Rd wr (.slice oz ZT.length jz) ZT) := Lib.hid (HTK.out.move fun g hg hF => ⟨Nat.lt_of_lt_of_le hF HBW.out.size, (HQW.out.block g (by omega)).trans (HQ1.out.block g hg)⟩)
            generalize hAA : asG (goV SS.L 3 own 1) = A at *
            clear hdr hbd hw1
            clear hlz HTK HZ HBD HQS HSM HSU HN HQ1 HQW HF hform HZW HTW
            go_upto_region 12 with fail
            go_region_held3 (fun w' => w'.cell? ⟨p, 0, none⟩ = some (.pointer (some ⟨b, 0, none⟩)) ∧ w'.cell? ⟨p, 1, none⟩ = some (.pointer (some ⟨b2, 0, none⟩)))
              (first
                | exact ⟨y0, y1⟩
                | exact ⟨a0, a1⟩
                | exact ⟨b0, b1⟩
                | exact ⟨c0, c1⟩
                | exact ⟨d0, d1⟩
                | exact ⟨e0, e1⟩
                | exact ⟨f0, f1⟩)
              (first
                | (go_at_call 15
                   refine (HBO.out.below BW.out).allV.mono ?_
                   rintro e wa ⟨ua, rfl, qa, qb⟩
                   rw [hAA] at qa
                   obtain ⟨oa1, ja1, rfl⟩ := qa.form
                   have R1 := Lib.hid qa.rd
                   have BW := Lib.hid (BW.out.trans (qb.mono BW.out.size))
                   have a0 := (HBO.out.below BW.out).c0
                   have a1 := (HBO.out.below BW.out).c1
                   clear qa qb)
                | (go_at_call 16
                   refine (HBO.out.below BW.out).dv.all.mono ?_
                   rintro e wb ⟨ub, rfl, qa, qb⟩
                   rw [hAA] at qa
                   obtain ⟨ob1, jb1, rfl⟩ := qa.form
                   have HI := Lib.hid (Rd.ints (Nat.le_trans HAL.out (by decide)) (R1.out.below qb) qa.rd)
                   have BW := Lib.hid (BW.out.trans (qb.mono BW.out.size))
                   have b0 := (HBO.out.below BW.out).c0
                   have b1 := (HBO.out.below BW.out).c1
                   clear qa qb)
                | (go_at_call 14
                   refine HI.out.mono ?_
                   rintro e wi ⟨rfl, ni, hwi⟩
                   have hbi := below_drewN wb.heap.size wb ni
                   rw [← hwi] at hbi
                   have BW := Lib.hid (BW.out.trans (hbi.mono BW.out.size))
                   have c0 := (HBO.out.below BW.out).c0
                   have c1 := (HBO.out.below BW.out).c1
                   clear hwi hbi HI)
                | (go_at_call 17
                   refine ((HBO.out.below BW.out).sortV oz jz ZT (HRZ.out.below BW.out) (fun _ hg => hg) (by have := HTL.out; omega) HTW2.out).mono ?_
                   rintro e wa ⟨ua, rfl, qa, qb⟩
                   rw [hAA] at qa
                   obtain ⟨oa2, ja2, rfl⟩ := qa.form
                   have R1 := Lib.hid qa.rd
                   have BW := Lib.hid (BW.out.trans (qb.mono BW.out.size))
                   have d0 := (HBO.out.below BW.out).c0
                   have d1 := (HBO.out.below BW.out).c1
                   clear qa qb)
                | (go_at_call 18
                   refine ((HBO.out.below BW.out).dv.sort (.slice oz ZT.length jz) ZT (HRZ.out.below BW.out) (by have := HTL.out; omega)).mono ?_
                   rintro e wb ⟨ub, rfl, qa, qb⟩
                   rw [hAA] at qa
                   obtain ⟨ob2, jb2, rfl⟩ := qa.form
                   have HI := Lib.hid (Rd.ints (Nat.le_trans (Nat.le_trans (List.length_filter_le _ _) HAL.out) (by decide)) (R1.out.below qb) qa.rd)
                   have BW := Lib.hid (BW.out.trans (qb.mono BW.out.size))
                   have e0 := (HBO.out.below BW.out).c0
                   have e1 := (HBO.out.below BW.out).c1
                   clear qa qb)
                | (go_at_call 11
                   refine (HWK.out _).mono ?_
                   rintro e ww ⟨rfl, qb⟩
                   have BW := Lib.hid (BW.out.trans (qb.mono BW.out.size))
                   have f0 := (HBO.out.below BW.out).c0
                   have f1 := (HBO.out.below BW.out).c1
                   clear qb))
            all_goals
              go_wp2_with fail
              go_ret
              exact ⟨rfl, HBW.out.trans (BW.out.mono HBW.out.size)⟩
theorem lawOrders10_of (t : Tr) (va vk v : Value) (qs : List StX) (oz : Option Addr) (jz : Nat) (zs : List Int) (w : World) (hn : NdOn w (fun g => g < w.heap.size) t va vk) (ht : tallT t ≤ 1048576)
    (hqs : StsOn w (fun g => g < w.heap.size) v qs) (hsm : ∀ q, q ∈ qs → StSm q) (hsum : sumT (fun q => tallT q.t) qs ≤ 1048576)
    (hz : IntsOn w (fun g => g < w.heap.size) (.slice oz zs.length jz) zs) (hzj : zs.length ≤ jz) (hzw : ∀ z, z ∈ zs → (Lit.int .i64 z).wf = true) :
    Calls Try.prog 3 #[ndV t va vk, v, .slice oz zs.length jz] w fun e w' => e = .returned (.bool true) ∧ Below w.heap.size w w' := by
  obtain ⟨o, j, rfl⟩ := hqs.form
  exact lawOrders10_any t va vk o j qs oz jz zs w hn (Nat.le_trans (totP_tall t) ht) hqs hsm (Nat.le_trans (totP_sum qs) hsum) hz hzj hzw
end Go.Proofs.Ytkackejipgabfaa.Char

/- The walk of the law ViewSorts. -/
namespace Go.Proofs.Ytkackejipgabfaa.Char
open Go.RowKit Go.Lib

/-- two numbers more behind a slice of one's own, as a step of a region that draws its order -/
theorem step_pushInt2 {ops : Array Oper} {o : Oper} {a : Act} {K : Act → World → Prop} {Q : Exit → Act → World → Prop} {E : Prop} {B : Nat} {W : World} {v : Value} {zs : List Int}
    (hgd : o.guard = none) (s x : Operand) (ho : o.op = .call { callee := .builtin .append, args := #[s, x], argTypes := #[27, 27] })
    (z y : Int) (H : Nat) (hH : W.heap[H]? = some (.cells #[.int .i64 z, .int .i64 y] 3 (0, 0))) (hown : OwnsInt B W v zs) (hs : a.eval s = v) (hx : a.eval x = .slice (some ⟨H, 0, none⟩) 2 2) (hB : B ≤ W.heap.size) (hlen : zs.length ≤ 100000000)
    (h : ∀ g cap w1, OwnsInt B w1 (.slice (some ⟨g, 0, none⟩) (zs.length + 2) cap) (zs ++ [z, y]) → Below B W w1 → K (a.put o.dst (.slice (some ⟨g, 0, none⟩) (zs.length + 2) cap)) w1) :
    if Region.wanted o (yielded ops a.tmps) = true then Oper.wp Try.prog o a W K Q else E := by
  obtain ⟨i0, hi, hz0, hz1, hz2⟩ := info_parts info_int
  refine step_append_lies W hgd s x 27 ho B 3 i0 (.int .i64 0) 1 8 Try.underlying27 hi hz0 hz1 hz2 rfl (by omega) v zs.length (intC zs) hs hown ⟨H, 0, none⟩ 2 2 [.int .i64 z, .int .i64 y] hx rfl ?_ ?_ (by decide) ?_ ?_ hB W.heap.size rfl ?_
  · intro j u hj
    rw [Addr.add_lit, Nat.zero_add]
    simp only [World.cell?, hH]
    simpa using hj
  · intro u hu
    simp only [List.mem_cons, List.not_mem_nil, or_false] at hu
    rcases hu with rfl | rfl <;> rfl
  · unfold maxLen; omega
  · omega
  · intro g cap w1 hown' hgrow _ _
    refine h g cap w1 ?_ ((Below.refl B W).grown hgrow hB (fun k hk => (hown.blk hk).1))
    unfold OwnsInt intC
    rw [List.length_append, List.map_append]
    exact hown'
/-- what is sorted -/
def srt (A zs : List Int) : List Int := A.filter fun z => zs.any fun y => y == z
theorem any_mem {zs : List Int} {z : Int} : (zs.any fun y => y == z) = decide (z ∈ zs) := by
  rw [Bool.eq_iff_iff]
  simp
theorem srt_congr (A : List Int) {zs ys : List Int} (h : ∀ z, z ∈ A → (z ∈ zs ↔ z ∈ ys)) : srt A zs = srt A ys := by
  unfold srt
  refine List.filter_congr fun z hz => ?_
  rw [any_mem, any_mem]
  exact decide_eq_decide.2 (h z hz)
theorem mem_srt {A zs : List Int} {z : Int} : z ∈ srt A zs ↔ z ∈ A ∧ z ∈ zs := by
  unfold srt
  rw [List.mem_filter, any_mem, decide_eq_true_iff]
theorem srt_srt (A zs : List Int) : srt A (srt A zs) = srt A zs := srt_congr A fun z hz => by
  rw [mem_srt]
  exact ⟨fun h => h.2, fun h => ⟨hz, h⟩⟩
theorem srt_self (A : List Int) : srt A A = A := by
  unfold srt
  rw [List.filter_eq_self]
  intro z hz
  rw [any_mem]
  exact decide_eq_true hz
theorem has_srt {A zs : List Int} {x : Int} (h : x ∈ zs) : ((srt A zs).any fun z => z == x) = A.any fun z => z == x := by
  rw [any_mem, any_mem]
  exact decide_eq_decide.2 ⟨fun q => (mem_srt.1 q).1, fun q => mem_srt.2 ⟨q, h⟩⟩
/-- turned round, each twice -/
def trn : List Int → List Int
  | [] => []
  | z :: r => trn r ++ [z, z]
theorem mem_trn {z : Int} : ∀ {l : List Int}, z ∈ trn l ↔ z ∈ l
  | [] => Iff.rfl
  | y :: r => by
    rw [trn, List.mem_append, mem_trn (l := r), List.mem_cons]
    simp only [List.mem_cons, List.not_mem_nil, or_false, or_self]
    exact Or.comm
theorem trn_len : ∀ l : List Int, (trn l).length = 2 * l.length
  | [] => rfl
  | y :: r => by
    rw [trn, List.length_append, trn_len r]
    simp
    omega
theorem trn_drop {l : List Int} {k : Nat} (h : k < l.length) : trn (l.drop k) = trn (l.drop (k + 1)) ++ [l[k], l[k]] := by
  rw [List.drop_eq_getElem_cons h, trn]
theorem trn_srt (A l : List Int) : srt A (trn l) = srt A l := srt_congr A fun _ _ => mem_trn
set_option maxRecDepth 100000 in
set_option maxHeartbeats 16000000 in
theorem lawSorts10_any (t : Tr) (va vk : Value) (o : Option Addr) (j : Nat) (qs : List StX) (oz : Option Addr) (jz : Nat) (zs : List Int) (w : World) (hn : NdOn w (fun g => g < w.heap.size) t va vk) (ht : totP t ≤ 1048576)
    (hqs : StsOn w (fun g => g < w.heap.size) (.slice o qs.length j) qs) (hsm : ∀ q, q ∈ qs → StSm q) (hsum : sumT (fun q => totP q.t) qs ≤ 1048576)
    (hz : IntsOn w (fun g => g < w.heap.size) (.slice oz zs.length jz) zs) (hzj : zs.length ≤ jz) (hzw : ∀ z, z ∈ zs → (Lit.int .i64 z).wf = true) :
    Calls Try.prog 6 #[ndV t va vk, .slice o qs.length j, .slice oz zs.length jz] w fun e w' => e = .returned (.bool true) ∧ Below w.heap.size w w' := by
  obtain ⟨oa, ja, ok, jk, rfl, rfl⟩ := hn.form
  obtain ⟨W0, hW0⟩ : ∃ W0, W0 = w.alloc (.cells #[.int .i64 t.kd, .string (bs t.nm), .string (bs t.tx), .slice oa t.ats.length ja, .slice ok t.ks.length jk] 25) := ⟨_, rfl⟩
  have hb0 : Below w.heap.size w W0 := by rw [hW0]; exact (Below.refl _ _).alloc (Nat.le_refl _) _
  have hk0 : W0.heap[w.heap.size]? = some (.cells #[.int .i64 t.kd, .string (bs t.nm), .string (bs t.tx), .slice oa t.ats.length ja, .slice ok t.ks.length jk] 25 (0, 0)) := by rw [hW0]; exact World.alloc_heap_new w _
  have n0 : W0.cell? ⟨w.heap.size, 0, none⟩ = some (.int .i64 t.kd) := by simp [World.cell?, hk0]
  have n1 : W0.cell? ⟨w.heap.size, 1, none⟩ = some (.string (bs t.nm)) := by simp [World.cell?, hk0]
  have n2 : W0.cell? ⟨w.heap.size, 2, none⟩ = some (.string (bs t.tx)) := by simp [World.cell?, hk0]
  have n3 : W0.cell? ⟨w.heap.size, 3, none⟩ = some (.slice oa t.ats.length ja) := by simp [World.cell?, hk0]
  have n4 : W0.cell? ⟨w.heap.size, 4, none⟩ = some (.slice ok t.ks.length jk) := by simp [World.cell?, hk0]
  have hn0 : NdOn W0 (fun g => g < w.heap.size) t (.slice oa t.ats.length ja) (.slice ok t.ks.length jk) := hn.move (fun g hg hF => ⟨hg, hb0.block g hg⟩)
  have hfew := fewF_any t _ _ W0 (hn0.move fun g hg _ => ⟨hg, rfl⟩)
  obtain ⟨E, hE⟩ : ∃ E, fewB t = E := ⟨_, rfl⟩
  rw [hE] at hfew
  unfold ndV at hfew
  have HF := Lib.hid hfew
  have HN := Lib.hid hn0
  have HQS := Lib.hid (hqs.move (F' := fun g => g < w.heap.size) (w' := W0) fun g hg hF => ⟨hg, hb0.block g hg⟩)
  have HZ := Lib.hid (hz.move (F' := fun g => g < w.heap.size) (w' := W0) fun g hg hF => ⟨hg, hb0.block g hg⟩)
  have HSM := Lib.hid hsm
  have HSU := Lib.hid hsum
  have HB0 := Lib.hid hb0
  have HE := Lib.hid hE
  have HW0 := Lib.hid hW0
  have HWK := Lib.hid worksB_any
  have HZW := Lib.hid hzw
  have HT := Lib.hid ht
  clear hn hqs hsm hsum hb0 hk0 hn0 hfew hE hW0 hz hzw ht
  unfold ndV
  cases E with
  | false =>
    go_enter Try.func6, Try.ntmps6
    go_upto_region 1 with fail
    rw [← HW0.out]
    go_wp2_with (first
      | (go_at_call 10
         refine HF.out.mono ?_
         rintro e w1 ⟨rfl, q1⟩
         have HB1 := Lib.hid (HB0.out.trans (q1.mono HB0.out.size))
         clear q1 n0 n1 n2 n3 n4)
      | (go_at_call 11
         refine (HWK.out _).mono ?_
         rintro e w2 ⟨rfl, q2⟩
         have HB2 := Lib.hid (HB1.out.trans (q2.mono HB1.out.size))
         clear q2))
    go_ret
    exact ⟨rfl, HB2.out⟩
  | true =>
    have hcnt := few_cnt HE.out
    go_enter Try.func6, Try.ntmps6
    go_upto_region 1 with fail
    rw [← HW0.out]
    clear HW0
    go_upto_region 6 with (first
      | (go_at_call 10
         refine HF.out.mono ?_
         rintro e w1 ⟨rfl, q1⟩
         have hw1 := HB0.out.size
         have hm := madeB_any t (.slice oa t.ats.length ja) (.slice ok t.ks.length jk) w1 (F := fun g => g < w.heap.size) hcnt (HN.out.move fun g hg hF => ⟨hF, q1.block g hg⟩) (fun g hg => Nat.lt_of_lt_of_le (Nat.lt_of_lt_of_le hg hw1) q1.size) (by have := HT.out; omega)
         unfold ndV at hm
         have HM := Lib.hid hm
         have HB1 := Lib.hid (HB0.out.trans (q1.mono HB0.out.size))
         have HQ1 := Lib.hid q1
         have m0 := keep_cell n0 q1
         have m1 := keep_cell n1 q1
         have m2 := keep_cell n2 q1
         have m3 := keep_cell n3 q1
         have m4 := keep_cell n4 q1
         clear q1 n0 n1 n2 n3 n4 hm hw1)
      | (go_at_call 12
         refine HM.out.mono ?_
         rintro e w2 ⟨p, b, sb, b2, d, Z, Z1, Y, Y1, rfl, h2, h3⟩
         have HP : Hid (PairN w1.heap.size w1 w2 p b sb b2 d 3 (stoI t) []) := Lib.hid ⟨Z, Z1, Y, Y1, h2, h3⟩
         clear h2 h3 m0 m1 m2 m3 m4 HM))
    have hgt := stoI_given t
    have hlen := stoI_len t
    have hwl := wfL_stoI t (by have := HT.out; omega)
    obtain ⟨SS, hSS⟩ : ∃ SS, stoI t = SS := ⟨_, rfl⟩
    rw [hSS] at HP hgt hlen hwl
    have HBD : Hid (SS.given ≤ 1048577 ∧ SS.L.length ≤ 1048578 ∧ wfL SS.L) := Lib.hid ⟨by have := HT.out; omega, by have := HT.out; omega, hwl⟩
    clear hgt hlen hwl hSS
    go_wp2_with fail
    go_loopw [8] (fun v wr => ∃ k : Nat, v = .int .i64 (k : Int) ∧ k ≤ qs.length ∧ k ≤ 20 ∧ Hid (PairN w1.heap.size w1 wr p b sb b2 d 3 (givS SS (playG (SS.given, []) (qs.take k)).1) (playG (SS.given, []) (qs.take k)).2)) (fun v _ => 20 - (RowKit.intOf v).toNat)
    case atStart => exact ⟨0, rfl, Nat.zero_le _, Nat.zero_le _, Lib.hid HP.out⟩
    case round =>
      obtain ⟨k, rfl, hk, hk20, HK⟩ := hrel
      clear HP
      have hst := totP_sum (qs.take k)
      have hst2 := sum_take (tl := fun q => totP q.t) k qs
      obtain ⟨g1, g2, g3⟩ := play_ok (qs.take k) SS.given [] (fun c hc => by cases hc) (fun q hq => HSM.out q (List.mem_of_mem_take hq)) (by have := HSU.out; have := HBD.out.1; omega)
      have htl : (qs.take k).length = k := by rw [List.length_take]; omega
      rw [htl] at g2
      simp only [List.length_nil] at g2
      have HG1 : Hid ((playG (SS.given, []) (qs.take k)).1 ≤ 3000000 ∧ (playG (SS.given, []) (qs.take k)).2.length ≤ 1048600 ∧ wfO (playG (SS.given, []) (qs.take k)).2) := Lib.hid ⟨by have := HSU.out; have := HBD.out.1; omega, by have := HSU.out; omega, g3⟩
      clear hst hst2 g1 g2 g3 htl
      by_cases hin : k < qs.length ∧ k < 20
      · obtain ⟨hlt, hl20⟩ := hin
        have hbw := HK.out.bel
        have hw1 : w.heap.size ≤ w1.heap.size := HB1.out.size
        obtain ⟨g, off, rfl, hgG, hat, hon⟩ := (HQS.out.move (F' := fun g => g < w.heap.size) (w' := wr) fun g hg hF => ⟨hF, (hbw.block g (by omega)).trans (HQ1.out.block g hg)⟩).reads k hlt
        have hs := HSM.out qs[k] (List.getElem_mem hlt)
        have hps : playG (SS.given, []) (qs.take (k + 1)) = stepG (playG (SS.given, []) (qs.take k)).1 (playG (SS.given, []) (qs.take k)).2 qs[k] := by rw [List.take_succ_eq_append_getElem hlt, playG_snoc]
        have htt : totP qs[k].t ≤ sumT (fun q => totP q.t) qs := sum_mem (tl := fun q : StX => totP q.t) (List.getElem_mem hlt)
        obtain ⟨y, hy⟩ : ∃ y, qs[k] = y := ⟨_, rfl⟩
        rw [hy] at hat hon hs hps htt
        have hst := step_any HK.out y hon (fun g hg => Nat.lt_of_lt_of_le hg hw1) hs (by show (playG (SS.given, []) (qs.take k)).1 + totP y.t ≤ 10000000; have := HG1.out.1; have := HSU.out; omega) (by have := HG1.out.2.1; have := HSU.out; omega)
        have e1 : ∀ n, givS (givS SS (playG (SS.given, []) (qs.take k)).1) n = givS SS n := fun n => rfl
        have e2 : (givS SS (playG (SS.given, []) (qs.take k)).1).given = (playG (SS.given, []) (qs.take k)).1 := rfl
        rw [e1, e2, ← hps] at hst
        obtain ⟨kd, id, ⟨r, v1, v2⟩, tt, va', vk'⟩ := y
        obtain ⟨ok', jk', oa', ja', oa2, ja2, ok2, jk2, f1, f2, f3, f4⟩ := hon.form
        dsimp only at f1 f2 f3 f4
        subst f1 f2 f3 f4
        obtain ⟨a0, a1, ⟨a2, a3, a4, a5, a6, a7, a8⟩, a9, a10, a11, a12, a13⟩ := hat
        dsimp only at a0 a1 a2 a3 a4 a5 a6 a7 a8 a9 a10 a11 a12 a13
        unfold stV at hst
        dsimp only at hst
        have HST := Lib.hid hst
        have HLT := Lib.hid hlt
        have HL20 := Lib.hid hl20
        have k1 : decide ((k : Int) < (qs.length : Int)) = true := decide_eq_true (by omega)
        have k2 : decide ((k : Int) < 20) = true := decide_eq_true (by omega)
        have hz0 : (0 : Int) ≤ (k : Int) := by omega
        have hz1 : (k : Int) < (qs.length : Int) := by omega
        clear hst hps htt hs hon hy hbw hw1 e1 e2 HG1 hlt hl20
        go_wp2_with (first
          | (go_at_call 13
             refine HST.out.mono ?_
             rintro e w9 ⟨rfl, h9⟩
             have H9 := Lib.hid h9
             clear h9 a0 a1 a2 a3 a4 a5 a6 a7 a8 a9 a10 a11 a12 a13))
        exact ⟨⟨k + 1, by go_num, by have := HLT.out; omega, by have := HL20.out; omega, H9⟩, by have := HL20.out; simp [RowKit.intOf]; omega⟩
      · have hb := HK.out.both (by show SS.L.length ≤ 5000000; have := HBD.out.2.1; omega) HBD.out.2.2 HG1.out.2.2 (by have := HG1.out.2.1; omega)
        have HBO : Hid (Both wr p b b2 SS.L 3 (playG (SS.given, []) (qs.take k)).2) := Lib.hid hb
        have HBW := Lib.hid (HB1.out.trans (HK.out.bel.mono HB1.out.size))
        have HQW : Hid (Below w1.heap.size w1 wr) := Lib.hid HK.out.bel
        generalize (playG (SS.given, []) (qs.take k)).2 = own at HBO
        clear hb HK HG1
        have hcase : (decide (k < qs.length) = true ∧ decide ((k : Int) < 20) = false) ∨ decide (k < qs.length) = false := by
          by_cases hlt : k < qs.length
          · exact .inl ⟨decide_eq_true hlt, decide_eq_false (by omega)⟩
          · exact .inr (decide_eq_false hlt)
        clear hin hk hk20
        obtain ⟨ZT, hZT⟩ : ∃ ZT, zs.take 100 = ZT := ⟨_, rfl⟩
        have htk := HZ.out.take 100
        have hztl : ZT.length ≤ 100 := by rw [← hZT, List.length_take]; omega
        have hlz : ZT.length = if 100 < zs.length then 100 else zs.length := by rw [← hZT, List.length_take]; split <;> omega
        rw [hZT] at htk
        have HTK := Lib.hid htk
        have HTW := Lib.hid fun z (hz : z ∈ ZT) => HZW.out z (List.mem_of_mem_take (hZT ▸ hz))
        have HTL := Lib.hid hztl
        have hform : 100 < zs.length → ∃ g off, oz = some ⟨g, off, none⟩ := fun h => by
          obtain ⟨o', i', j', e1, e2, e3⟩ := HZ.out
          cases e1
          rcases e3 with e3 | ⟨g, off, e4, _⟩
          · rw [e3] at h; simp at h
          · exact ⟨g, off, e4⟩
        clear htk hztl hZT
        rcases hcase with ⟨k1, k2⟩ | k1
        all_goals go_upto_if 40 with fail
        all_goals
          go_cut [2] (fun v wx => v = .slice oz ZT.length jz ∧ wx = wr)
          case first =>
            by_cases hl : 100 < zs.length
            · have l1 : decide ((100 : Int) < (zs.length : Int)) = true := decide_eq_true (by omega)
              have l2 : 100 ≤ jz := by omega
              rw [if_pos hl] at hlz
              have HLZ := Lib.hid hlz
              clear hlz
              obtain ⟨g, off, rfl⟩ := hform hl
              go_wp2_with fail
              go_meet
              exact ⟨by rw [HLZ.out], rfl⟩
            · have l1 : decide ((100 : Int) < (zs.length : Int)) = false := decide_eq_false (by omega)
              rw [if_neg hl] at hlz
              have HLZ := Lib.hid hlz
              clear hlz
              go_wp2_with fail
              go_meet
              exact ⟨by rw [HLZ.out], rfl⟩
          case rest =>
            obtain ⟨rfl, hwc⟩ := hcut
            have hwc := hwc.symm
            subst hwc
            have hdr : Below wr.heap.size wr wr.drew := (Below.refl _ _).drew
            have hbd := HBO.out.below hdr
            have BW : Hid (Below wr.heap.size wr wr.drew) := Lib.hid hdr
            have y0 := hbd.c0
            have y1 := hbd.c1
            have HAL := Lib.hid HBO.out.allLen
            have HTW2 := HTW
            have hw1 : w.heap.size ≤ w1.heap.size := HB1.out.size
            have HRZ : Hid (Rd wr (.slice oz ZT.length jz) ZT) := Lib.hid (HTK.out.move fun g hg hF => ⟨Nat.lt_of_lt_of_le hF HBW.out.size, (HQW.out.block g (by omega)).trans (HQ1.out.block g hg)⟩)
            generalize hAA : asG (goV SS.L 3 own 1) = A at *
            clear hdr hbd hw1
            clear hlz HTK HZ HBD HQS HQ1 HSM HSU HN HQW HF hform HZW HTW
            obtain ⟨wz, hwz⟩ : ∃ wz : World, wz = wr := ⟨_, rfl⟩
            subst hwz
            have hzl := HTL.out
            go_wp2_with fail
            go_loopw [9, 10] (fun u v wx => ∃ m : Nat, v = .int .i64 ((m : Int) - 1) ∧ m ≤ ZT.length ∧ Hid (OwnsInt wz.heap.size wx u (trn (ZT.drop m)) ∧ Below wz.heap.size wz wx)) (fun _ v _ => (RowKit.intOf v + 1).toNat)
            case atStart => exact ⟨ZT.length, by go_num, Nat.le_refl _, Lib.hid ⟨by rw [List.drop_length]; exact OwnsInt.nil _ _, Below.refl _ _⟩⟩
            case round =>
              obtain ⟨m, rfl, hm, HR⟩ := hrel
              by_cases h0 : 0 < m
              · obtain ⟨i, rfl⟩ : ∃ i, m = i + 1 := ⟨m - 1, by omega⟩
                have ej : ((↑(i + 1) : Int) - 1) = (i : Int) := by omega
                rw [ej]
                obtain ⟨g, off, rfl, hgl, hcell⟩ := (HRZ.out.below HR.out.2).reads i (by omega)
                have htd := trn_drop (l := ZT) (k := i) (by omega)
                obtain ⟨z, hz⟩ : ∃ z, ZT[i] = z := ⟨_, rfl⟩
                rw [hz] at hcell htd
                have hown := HR.out.1.below (((Below.refl wr.heap.size wr).alloc (Nat.le_refl _) (.cells #[.int .i64 z, .int .i64 z] 3)).drew)
                have HTD := Lib.hid htd
                have HTN : Hid ((trn (ZT.drop (i + 1))).length ≤ 100000000) := Lib.hid (by rw [trn_len, List.length_drop]; omega)
                have HRB : Hid (Below wz.heap.size wz (wr.alloc (.cells #[.int .i64 z, .int .i64 z] 3)).drew) := Lib.hid (HR.out.2.trans ((((Below.refl wr.heap.size wr).alloc (Nat.le_refl _) _).drew).mono HR.out.2.size))
                have hi0 : (0 : Int) ≤ (i : Int) := by omega
                have hi1 : (i : Int) < (ZT.length : Int) := by omega
                have hi2 : i ≤ 100 := by omega
                have HM := Lib.hid hm
                clear htd hz ej HR hm h0
                go_wp2_with fail
                go_region_law (first
                  | (refine step_pushInt2 rfl (.tmp 50) (.tmp 59) rfl z z wr.heap.size (World.alloc_heap_new wr _) hown rfl rfl HRB.out.size HTN.out ?_; intro g2 cap w1 q1 q2))
                all_goals
                  have HQ3 : Hid (OwnsInt wz.heap.size w1 (.slice (some ⟨g2, 0, none⟩) ((trn (ZT.drop (i + 1))).length + 2) cap) (trn (ZT.drop i)) ∧ Below wz.heap.size wz w1) := Lib.hid ⟨by rw [HTD.out]; exact q1, HRB.out.trans q2⟩
                  clear q1 q2 hown
                  go_wp2_with fail
                  exact ⟨⟨i, by go_num, by have := HM.out; omega, HQ3⟩, by simp [RowKit.intOf]⟩
              · obtain rfl : m = 0 := by omega
                have hT := HR.out.1
                rw [List.drop_zero] at hT
                obtain ⟨T, hTe⟩ : ∃ T, trn ZT = T := ⟨_, rfl⟩
                have hsT := trn_srt A ZT
                have hTl := trn_len ZT
                have hTm := fun z => mem_trn (z := z) (l := ZT)
                rw [hTe] at hT hsT hTl hTm
                obtain ⟨FA, hFA⟩ : ∃ FA, srt A ZT = FA := ⟨_, rfl⟩
                have hs1 := srt_srt A ZT
                have hs2 := srt_self A
                have hfm : ∀ z, z ∈ FA → z ∈ A := fun z hz => by rw [← hFA] at hz; exact (mem_srt.1 hz).1
                have hfl : FA.length ≤ 10000000 := by rw [← hFA]; exact Nat.le_trans (List.length_filter_le _ _) HAL.out
                have hhs := fun x (hx : x ∈ ZT) => has_srt (A := A) hx
                rw [hFA] at hs1 hsT hhs
                have hawf := HBO.out.allWf
                rw [hAA] at hawf
                have HF1 := Lib.hid hs1
                have HF2 := Lib.hid hsT
                have HF3 := Lib.hid hs2
                have HF4 := Lib.hid hFA
                have HHS := Lib.hid hhs
                have HWA := Lib.hid hawf
                have HWF := Lib.hid fun z (hz : z ∈ FA) => hawf z (hfm z hz)
                have HWT := Lib.hid fun z (hz : z ∈ T) => HTW2.out z ((hTm z).1 hz)
                have HFL := Lib.hid hfl
                have HTLL : Hid (T.length ≤ 200) := Lib.hid (by omega)
                obtain ⟨oT, jT, rfl⟩ := hT.form
                have RT := Lib.hid hT.rd
                have hbw := HR.out.2
                have HRZ := Lib.hid (HRZ.out.below hbw)
                have BW := Lib.hid hbw
                have cc := (HBO.out.below hbw).c0
                clear hs1 hsT hs2 hFA hhs hawf hfm hfl hTl hTm hTe hT hbw hm h0 HR y0 y1 hzl
                go_upto_region 19 with (first
                  | (go_at_call 17
                     refine ((HBO.out.below BW.out).sortV oz jz ZT HRZ.out (fun _ hg => hg) (by have := HTL.out; omega) HTW2.out).mono ?_
                     rintro e wa ⟨ua, rfl, qa, qb⟩
                     rw [hAA] at qa
                     replace qa : OwnsInt _ wa ua (srt A ZT) := qa
                     rw [HF4.out] at qa
                     obtain ⟨oF, jF, rfl⟩ := qa.form
                     have RF0 := Lib.hid qa.rd
                     have hbw := BW.out.trans (qb.mono BW.out.size)
                     have BW := Lib.hid hbw
                     have cc := (HBO.out.below hbw).c0
                     have RF := RF0
                     try (have RA := Lib.hid (RA.out.below qb))
                     try (have RT := Lib.hid (RT.out.below qb))
                     try (have HRZ := Lib.hid (HRZ.out.below qb))
                     clear qa qb hbw)
                  | (go_at_call 15
                     refine (HBO.out.below BW.out).allV.mono ?_
                     rintro e wb ⟨ub, rfl, qa, qb⟩
                     rw [hAA] at qa
                     obtain ⟨oA, jA, rfl⟩ := qa.form
                     have RA0 := Lib.hid qa.rd
                     have hbw := BW.out.trans (qb.mono BW.out.size)
                     have BW := Lib.hid hbw
                     have cc := (HBO.out.below hbw).c0
                     try (have RF := Lib.hid (RF.out.below qb))
                     have RA := RA0
                     try (have RT := Lib.hid (RT.out.below qb))
                     try (have HRZ := Lib.hid (HRZ.out.below qb))
                     clear qa qb hbw)
                  )
                go_wp2_with (first
                  | (go_at_call 17
                     have C := (HBO.out.below BW.out).sortV oF jF FA RF.out (fun _ hg => hg) HFL.out HWF.out
                     with_reducible refine C.mono ?_
                     clear C
                     rintro e wa ⟨ua, rfl, qa, qb⟩
                     rw [hAA] at qa
                     replace qa : OwnsInt _ wa ua (srt A FA) := qa
                     rw [HF1.out] at qa
                     obtain ⟨oG, jG, rfl⟩ := qa.form
                     have HI := Lib.hid (Rd.ints (Nat.le_trans HFL.out (by decide)) qa.rd (RF.out.below qb))
                     have hbw := BW.out.trans (qb.mono BW.out.size)
                     have BW := Lib.hid hbw
                     have cc := (HBO.out.below hbw).c0
                     try (have RF := Lib.hid (RF.out.below qb))
                     try (have RA := Lib.hid (RA.out.below qb))
                     try (have RT := Lib.hid (RT.out.below qb))
                     try (have HRZ := Lib.hid (HRZ.out.below qb))
                     clear qa qb hbw)
                  | (go_at_call 17
                     have C := (HBO.out.below BW.out).sortV oT jT T RT.out (fun _ hg => hg) (by have := HTLL.out; omega) HWT.out
                     with_reducible refine C.mono ?_
                     clear C
                     rintro e wa ⟨ua, rfl, qa, qb⟩
                     rw [hAA] at qa
                     replace qa : OwnsInt _ wa ua (srt A T) := qa
                     rw [HF2.out] at qa
                     obtain ⟨oG2, jG2, rfl⟩ := qa.form
                     have HI := Lib.hid (Rd.ints (Nat.le_trans HFL.out (by decide)) qa.rd (RF.out.below qb))
                     have hbw := BW.out.trans (qb.mono BW.out.size)
                     have BW := Lib.hid hbw
                     have cc := (HBO.out.below hbw).c0
                     try (have RF := Lib.hid (RF.out.below qb))
                     try (have RA := Lib.hid (RA.out.below qb))
                     try (have RT := Lib.hid (RT.out.below qb))
                     try (have HRZ := Lib.hid (HRZ.out.below qb))
                     clear qa qb hbw)
                  | (go_at_call 17
                     have C := (HBO.out.below BW.out).sortV oA jA A RA.out (fun _ hg => hg) HAL.out HWA.out
                     with_reducible refine C.mono ?_
                     clear C
                     rintro e wa ⟨ua, rfl, qa, qb⟩
                     rw [hAA] at qa
                     replace qa : OwnsInt _ wa ua (srt A A) := qa
                     rw [HF3.out] at qa
                     obtain ⟨oG3, jG3, rfl⟩ := qa.form
                     have HI := Lib.hid (Rd.ints (Nat.le_trans HAL.out (by decide)) qa.rd (RA.out.below qb))
                     have hbw := BW.out.trans (qb.mono BW.out.size)
                     have BW := Lib.hid hbw
                     have cc := (HBO.out.below hbw).c0
                     try (have RF := Lib.hid (RF.out.below qb))
                     try (have RA := Lib.hid (RA.out.below qb))
                     try (have RT := Lib.hid (RT.out.below qb))
                     try (have HRZ := Lib.hid (HRZ.out.below qb))
                     clear qa qb hbw)
                  | (go_at_call 14
                     with_reducible refine HI.out.mono ?_
                     rintro e wi ⟨rfl, ni, hwi⟩
                     have qb := below_drewN wa.heap.size wa ni
                     rw [← hwi] at qb
                     have qa := hwi
                     clear hwi HI
                     have hbw := BW.out.trans (qb.mono BW.out.size)
                     have BW := Lib.hid hbw
                     have cc := (HBO.out.below hbw).c0
                     try (have RF := Lib.hid (RF.out.below qb))
                     try (have RA := Lib.hid (RA.out.below qb))
                     try (have RT := Lib.hid (RT.out.below qb))
                     try (have HRZ := Lib.hid (HRZ.out.below qb))
                     clear qa qb hbw)
                  )
                obtain ⟨wy, hwy⟩ : ∃ wy : World, wy = wi := ⟨_, rfl⟩
                subst hwy
                have HBY := Lib.hid (HBW.out.trans (BW.out.mono HBW.out.size))
                have hzl := HTL.out
                clear cc BW HBO HF1 HF2 HF3 HF4 HWA HWF HWT HBW RT
                go_loopw [13] (fun v wx => ∃ k : Nat, v = .int .i64 (k : Int) ∧ k ≤ ZT.length ∧ Hid (Below wy.heap.size wy wx)) (fun v _ => ZT.length - (RowKit.intOf v).toNat)
                case atStart => exact ⟨0, rfl, Nat.zero_le _, Lib.hid (Below.refl _ _)⟩
                case round =>
                  obtain ⟨i, rfl, hi, HR⟩ := hrel
                  by_cases hlt : i < ZT.length
                  · have hdr : Below wr.heap.size wr wr.drew := (Below.refl _ _).drew
                    have hbd := HR.out.trans (hdr.mono HR.out.size)
                    obtain ⟨g, off, rfl, hgl, hcell⟩ := (HRZ.out.below hbd).reads i hlt
                    have hhs := HHS.out ZT[i] (List.getElem_mem hlt)
                    obtain ⟨z, hz⟩ : ∃ z, ZT[i] = z := ⟨_, rfl⟩
                    rw [hz] at hcell hhs
                    have C1 := hasW_any (RA.out.below hbd) (by have := HAL.out; omega) z
                    have C2 := hasW_any (RF.out.below hbd) (by have := HFL.out; omega) z
                    rw [hhs] at C2
                    obtain ⟨bo, hbo⟩ : ∃ bo, (A.any fun y => y == z) = bo := ⟨_, rfl⟩
                    rw [hbo] at C1 C2
                    have HC1 := Lib.hid C1
                    have HC2 := Lib.hid C2
                    have HBD := Lib.hid hbd
                    have hi0 : (0 : Int) ≤ (i : Int) := by omega
                    have hi1 : (i : Int) < (ZT.length : Int) := by omega
                    have HI0 := Lib.hid hlt
                    clear C1 C2 hbo hhs hz hbd hdr hlt hi HR
                    cases bo <;>
                    · go_wp2_with fail
                      go_region_held3 (fun w' => w'.cell? ⟨g, off + i, none⟩ = some (.int .i64 z))
                        (first | exact hcell)
                        (first
                          | (go_at_call 35
                             with_reducible refine HC1.out.mono ?_
                             rintro e wh ⟨rfl, hwh⟩
                             subst hwh)
                          | (go_at_call 35
                             with_reducible refine HC2.out.mono ?_
                             rintro e wh ⟨rfl, hwh⟩
                             subst hwh))
                      all_goals
                        go_wp2_with fail
                        exact ⟨⟨i + 1, by go_num, by have := HI0.out; omega, HBD⟩, by have := HI0.out; simp [RowKit.intOf]; omega⟩
                  · have HR2 := HR
                    have k3 : decide ((i : Int) < (ZT.length : Int)) = false := decide_eq_false (by omega)
                    have k4 : decide (i < ZT.length) = false := decide_eq_false hlt
                    clear HR hlt hi
                    go_wp2_with (first
                      | (go_at_call 11
                         refine (HWK.out _).mono ?_
                         rintro e ww ⟨rfl, qb⟩
                         have HQ := Lib.hid (HR2.out.trans (qb.mono HR2.out.size))
                         clear qb))
                    go_ret
                    exact ⟨rfl, HBY.out.trans (HQ.out.mono HBY.out.size)⟩
theorem lawSorts10_of (t : Tr) (va vk v : Value) (qs : List StX) (oz : Option Addr) (jz : Nat) (zs : List Int) (w : World) (hn : NdOn w (fun g => g < w.heap.size) t va vk) (ht : tallT t ≤ 1048576)
    (hqs : StsOn w (fun g => g < w.heap.size) v qs) (hsm : ∀ q, q ∈ qs → StSm q) (hsum : sumT (fun q => tallT q.t) qs ≤ 1048576)
    (hz : IntsOn w (fun g => g < w.heap.size) (.slice oz zs.length jz) zs) (hzj : zs.length ≤ jz) (hzw : ∀ z, z ∈ zs → (Lit.int .i64 z).wf = true) :
    Calls Try.prog 6 #[ndV t va vk, v, .slice oz zs.length jz] w fun e w' => e = .returned (.bool true) ∧ Below w.heap.size w w' := by
  obtain ⟨o, j, rfl⟩ := hqs.form
  exact lawSorts10_any t va vk o j qs oz jz zs w hn (Nat.le_trans (totP_tall t) ht) hqs hsm (Nat.le_trans (totP_sum qs) hsum) hz hzj hzw
end Go.Proofs.Ytkackejipgabfaa.Char

/- A view that New did not make: Node. -/
namespace Go.Proofs.Ytkackejipgabfaa.Char
open Go.RowKit Go.Lib

/-- no node, in a box -/
def nd0B : Obj := .cells #[.int .i64 0, .string ⟨#[]⟩, .string ⟨#[]⟩, .slice none 0 0, .slice none 0 0] 25
def nd0 : Value := .agg #[.int .i64 0, .string ⟨#[]⟩, .string ⟨#[]⟩, .slice none 0 0, .slice none 0 0]
theorem nd0_blk {w : World} {b : Nat} (h : w.heap[b]? = some nd0B) :
    (w.cell? ⟨b, 0, none⟩ = some (.int .i64 0) ∧ w.cell? ⟨b, 1, none⟩ = some (.string ⟨#[]⟩) ∧ w.cell? ⟨b, 2, none⟩ = some (.string ⟨#[]⟩) ∧ w.cell? ⟨b, 3, none⟩ = some (.slice none 0 0) ∧ w.cell? ⟨b, 4, none⟩ = some (.slice none 0 0)) ∧ ∀ i, w.frozen? ⟨b, i, none⟩ = false := by
  unfold nd0B at h
  exact ⟨⟨by simp [World.cell?, h], by simp [World.cell?, h], by simp [World.cell?, h], by simp [World.cell?, h], by simp [World.cell?, h]⟩, fun i => by simp [World.frozen?, h]⟩
def set5 (w : World) (b : Nat) : World :=
  ((((w.setCell ⟨b, 0, none⟩ (.int .i64 0)).setCell ⟨b, 1, none⟩ (.string ⟨#[]⟩)).setCell ⟨b, 2, none⟩ (.string ⟨#[]⟩)).setCell ⟨b, 3, none⟩ (.slice none 0 0)).setCell ⟨b, 4, none⟩ (.slice none 0 0)
theorem set5_at {w : World} {b : Nat} (h : w.heap[b]? = some nd0B) : (set5 w b).heap[b]? = some nd0B := by
  unfold set5
  unfold nd0B at h ⊢
  have h1 := heap_set_at (i := 0) (u := .int .i64 0) h
  have h2 := heap_set_at (i := 1) (u := .string ⟨#[]⟩) h1
  have h3 := heap_set_at (i := 2) (u := .string ⟨#[]⟩) h2
  have h4 := heap_set_at (i := 3) (u := .slice none 0 0) h3
  have h5 := heap_set_at (i := 4) (u := .slice none 0 0) h4
  exact h5.trans (by simp)
theorem set5_below {B b : Nat} {w w' : World} (h : Below B w w') (hb : B ≤ b) : Below B w (set5 w' b) :=
  ((((h.setCell (p := ⟨b, 0, none⟩) hb _).setCell (p := ⟨b, 1, none⟩) hb _).setCell (p := ⟨b, 2, none⟩) hb _).setCell (p := ⟨b, 3, none⟩) hb _).setCell (p := ⟨b, 4, none⟩) hb _
theorem end_nd2 {fn : Func} {p q : Tmp} (h : fn.results = #[.cell p 25, .tmp q]) {a : Act} {R : Ending → World → Prop} (w1 : World) (g : Nat) {c : Value} (hk : w1.heap[g]? = some nd0B)
    (hp : a.tmps.getD p undef = .pointer (some ⟨g, 0, none⟩)) (hq : a.tmps.getD q undef = c) (hd : a.defers = []) (hR : R (.returned (.tuple #[nd0, c])) w1) : bodyPost Try.prog fn R .ret a w1 := by
  have hp' : a.tmps[p]?.getD undef = .pointer (some ⟨g, 0, none⟩) := by simpa using hp
  have hq' : a.tmps[q]?.getD undef = c := by simpa using hq
  obtain ⟨⟨a0, a1, a2, a3, a4⟩, _⟩ := nd0_blk hk
  unfold nd0 at hR
  exact bodyPost_ret (by simp [results, h, hp', hq', go_sem, a0, a1, a2, a3, a4]) hd hR
section
variable {Z : Nat → Prop} {w : World} {vp : Option Addr}
set_option maxRecDepth 100000 in
set_option maxHeartbeats 2000000 in
theorem none_item (h : NoV Z w vp) (id : Int) (hid : (Lit.int .i64 id).wf = true) (m : Nat) (hm : MetI w m [] (.map [])) (hml : m < w.heap.size) :
    Calls Try.prog 59 #[.pointer vp, .int .i64 id, .map (some m)] w fun e w' => e = .returned (.tuple #[nd0, .bool false]) ∧ Below w.heap.size w w' := by
  obtain ⟨W1, hW1⟩ : ∃ W1, W1 = (w.alloc nd0B) := ⟨_, rfl⟩
  have hb1 : Below w.heap.size w W1 := by rw [hW1]; exact (Below.refl _ _).alloc (Nat.le_refl _) _
  have hk1 : W1.heap[w.heap.size]? = some nd0B := by rw [hW1]; exact World.alloc_heap_new w _
  have hlk := (hm.move (hb1.block _ hml)).look hid
  have hb12 : Below W1.heap.size W1 (W1.alloc (.cells #[] 105)) := (Below.refl _ _).alloc (Nat.le_refl _) _
  have hb2 : Below w.heap.size w (W1.alloc (.cells #[] 105)) := hb1.trans (hb12.mono hb1.size)
  have hl1 : w.heap.size < W1.heap.size := by rw [hW1]; simp
  have key : ∀ (w3 : World) (ob : Obj), Below (W1.alloc (.cells #[] 105)).heap.size (W1.alloc (.cells #[] 105)) w3 → (w3.alloc ob).heap[w.heap.size]? = some nd0B ∧ Below w.heap.size w (w3.alloc ob) := fun w3 ob hb => by
    have h1 := hb12.size
    have h2 := hb.size
    refine ⟨(Below.heap_alloc _ _ _ (by omega)).trans ((hb.block _ (by omega)).trans ((hb12.block _ hl1).trans hk1)), (hb2.trans (hb.mono hb2.size)).alloc (by omega) _⟩
  have HR := Lib.hid (none_record (h.below hb2) id)
  unfold nd0B at hW1
  rw [hW1] at hlk HR key
  have KEY := Lib.hid key
  clear h hm hml hb1 hb2 hb12 hW1 hk1 hl1 key
  go_enter Try.func59, Try.ntmps59
  go_wp2_with (first
    | (go_at_call 58
       refine HR.out.mono ?_
       rintro e w3 ⟨⟨r', va, vb'⟩, rfl, x1, x2, x3⟩
       obtain ⟨ok, jk, oa, ja, e1, e2⟩ := x2.form
       dsimp only [Option.getD] at e1 e2 x1
       subst e1 e2 x1
       have kk := KEY.out w3 (.cells #[.int .i64 rc0.kd, .string (bs rc0.nm), .string (bs rc0.tx), .int .i64 rc0.pa, .slice ok rc0.ks.length jk, .slice oa rc0.ats.length ja, .bool rc0.gone] 34) x3
       obtain ⟨⟨d0, d1, d2, d3, d4⟩, df⟩ := nd0_blk kk.1
       have f0 := df 0
       have f1 := df 1
       have f2 := df 2
       have f3 := df 3
       have f4 := df 4
       have KK := Lib.hid kk
       clear x2 x3 kk df HR KEY
       unfold rcV
       dsimp only))
  refine end_nd2 Try.results59 _ w.heap.size (c := .bool false) (set5_at KK.out.1) rfl rfl rfl ?_
  exact ⟨rfl, set5_below KK.out.2 (Nat.le_refl _)⟩
set_option maxRecDepth 100000 in
set_option maxHeartbeats 2000000 in
theorem none_node (h : NoV Z w vp) (id : Int) (hid : (Lit.int .i64 id).wf = true) :
    Calls Try.prog 28 #[.pointer vp, .int .i64 id] w fun e w' => e = .returned (.tuple #[nd0, .bool false]) ∧ Below w.heap.size w w' := by
  have hmk : ∀ w, (Instr.makeMap 104 none).run Try.prog w = .ok (.map (some w.heap.size)) (w.alloc (.map #[] 0)) := fun w => run_makeMap _ w
  obtain ⟨W1, hW1⟩ : ∃ W1, W1 = w.alloc nd0B := ⟨_, rfl⟩
  have hb1 : Below w.heap.size w W1 := by rw [hW1]; exact (Below.refl _ _).alloc (Nat.le_refl _) _
  have hk1 : W1.heap[w.heap.size]? = some nd0B := by rw [hW1]; exact World.alloc_heap_new w _
  have hs1 : W1.heap.size = w.heap.size + 1 := by rw [hW1]; simp
  have hb2 : Below W1.heap.size W1 (W1.alloc (.map #[] 0)) := (Below.refl _ _).alloc (Nat.le_refl _) _
  have hit := none_item (h.below (hb1.trans (hb2.mono hb1.size))) id hid W1.heap.size (MetI.start W1) (by simp)
  have key : ∀ w3, Below (W1.alloc (.map #[] 0)).heap.size (W1.alloc (.map #[] 0)) w3 → w3.heap[w.heap.size]? = some nd0B ∧ Below w.heap.size w w3 := fun w3 hb => by
    have h1 := hb2.size
    have h2 := hb.size
    exact ⟨(hb.block _ (by omega)).trans ((hb2.block _ (by omega)).trans hk1), (hb1.trans (hb2.mono hb1.size)).trans (hb.mono (by omega))⟩
  rw [hs1] at hit
  unfold nd0B at hW1
  rw [hW1] at hit key
  have HIT := Lib.hid hit
  have KEY := Lib.hid key
  clear h hb1 hb2 hk1 hs1 hit key hW1
  go_enter Try.func28, Try.ntmps28
  go_wp2_with (first
    | (go_at_call 59
       refine HIT.out.mono ?_
       rintro e w3 ⟨rfl, q⟩
       have kk := KEY.out w3 q
       obtain ⟨⟨d0, d1, d2, d3, d4⟩, df⟩ := nd0_blk kk.1
       have f0 := df 0
       have f1 := df 1
       have f2 := df 2
       have f3 := df 3
       have f4 := df 4
       have KK := Lib.hid kk
       clear kk df HIT KEY q
       unfold nd0))
  refine end_nd2 Try.results28 _ w.heap.size (c := .bool false) (set5_at KK.out.1) rfl rfl rfl ?_
  exact ⟨rfl, set5_below KK.out.2 (Nat.le_refl _)⟩
end
end Go.Proofs.Ytkackejipgabfaa.Char
