import Derived.Test.YtlmodgnkmlbjhaaGreatDoorPkSeq
import Derived.Test.YtlmodgnkmlbjhaaGreatDoorPkTok
import Derived.StillTailTactics
namespace Go.Proofs.YtlmodgnkmlbjhaaGreatDoor
set_option maxHeartbeats 4000000
set_option maxRecDepth 100000
namespace Char
open Go.RowKit Go.Lib
end Char
namespace Char
open Go.RowKit Go.Lib
end Char
namespace Char
open Go.RowKit Go.Lib
theorem ne_attr2 (x y : At2) (w : World) : (binOp .neq 40 (.agg #[.string (bs x.1), .string (bs x.2)]) (.agg #[.string (bs y.1), .string (bs y.2)])).run Tryz.prog w = .ok (.bool (decide (x ≠ y))) w := by
 obtain ⟨a, b⟩ := x
 obtain ⟨c, d⟩ := y
 have u9 := Tryz.underlying9
 have a9 := Tryz.isAgg9
 have z9 := Tryz.sizeOf9
 have hS : Tryz.prog.underlying 40 = some (.struct (Tryz.prog.fieldsOf 40)) := by kernel_rfl
 have hp : Tryz.prog.stoodInHeld 40 = false := by kernel_rfl
 rw [run_neq_struct, show (10000 : Nat) = 9999 + 1 from rfl, run_equalIn_agg w 9999 40 _ _ hS hp]
 simp only [Program.fieldsOf, Tryz.underlying40]
 by_cases h1 : a = c
 ·by_cases h2 : b = d
  ·subst h1 h2; go_simp
  ·subst h1; go_simp; simp [bs_tl, h2]
 ·go_simp; simp [bs_tl, h1]
theorem AtsOn.reads {w : World} {F : Nat → Prop} {o : Option Addr} {i j : Nat} {qs : List At2} (h : AtsOn w F (.slice o i j) qs) (k : Nat) (hk : k < qs.length) :
  ∃ g off, o = some ⟨g, off, none⟩ ∧ F g ∧ w.cell? ⟨g, off + k * 2, none⟩ = some (.string (bs qs[k].1)) ∧ w.cell? ⟨g, off + k * 2 + 1, none⟩ = some (.string (bs qs[k].2)) := by
 obtain ⟨o', i', j', e1, e2, e3⟩ := h
 cases e1
 rcases e3 with e3 | ⟨g, off, e4, e5, e6⟩
 ·rw [e3] at hk; cases hk
 ·have := e6 k hk
  rw [List.getD_eq_getElem?_getD, List.getElem?_eq_getElem hk] at this
  exact ⟨g, off, e4, e5, this⟩
theorem take_eq_succ {α : Type} {a b : List α} {j : Nat} (ha : j < a.length) (hb : j < b.length) (h : a.take j = b.take j) (he : a[j] = b[j]) : a.take (j + 1) = b.take (j + 1) := by
 rw [List.take_succ_eq_append_getElem ha, List.take_succ_eq_append_getElem hb, h, he]
theorem sameAts_any (qs rs : List At2) (F1 F2 : Nat → Prop) (o1 : Option Addr) (j1 : Nat) (o2 : Option Addr) (j2 : Nat) (w : World) (hq : qs.length ≤ 2 ^ 62) (h1 : AtsOn w F1 (.slice o1 qs.length j1) qs) (h2 : AtsOn w F2 (.slice o2 rs.length j2) rs) :
  Calls Tryz.prog 25 #[.slice o1 qs.length j1, .slice o2 rs.length j2] w fun e w' => e = .returned (.bool (decide (qs = rs))) ∧ ∃ n, w' = w.drewN n := by
 have H1 := hid h1
 have H2 := hid h2
 clear h1 h2
 by_cases hlen : qs.length = rs.length
 ·have k0 : ((qs.length : Int) != (rs.length : Int)) = false := by rw [hlen]; simp
  go_enter Tryz.func25, Tryz.ntmps25
  go_wp2_with fail
  go_loopw [5] (fun v wr => ∃ j : Nat, v = .int .i64 (j : Int) ∧ j ≤ qs.length ∧ qs.take j = rs.take j ∧ ∃ n, wr = w.drewN n) (fun v _ => qs.length - (RowKit.intOf v).toNat)
  case atStart => exact ⟨0, rfl, Nat.zero_le _, by simp, 0, rfl⟩
  case round =>
   obtain ⟨j, rfl, hj, htk, n, rfl⟩ := hrel
   by_cases hlt : j < qs.length
   ·obtain ⟨g1, f1, rfl, hg1, r0, r1⟩ := H1.out.reads j hlt
    obtain ⟨g2, f2, rfl, hg2, s0, s1⟩ := H2.out.reads j (by omega)
    have hts := take_eq_succ hlt (by omega : j < rs.length) htk
    have hxy : qs[j] ≠ rs[j]'(by omega) → qs ≠ rs := fun h e => h (by subst e; rfl)
    generalize qs[j] = x at *
    generalize rs[j]'(by omega) = y at *
    have hne := fun wx => ne_attr2 x y wx
    have hgu := fun a b wx => guard_attr a b (bs x.1) (bs x.2) (bs y.1) (bs y.2) wx
    by_cases hx : x = y
    ·have kx : decide (x ≠ y) = false := by simp [hx]
     rw [kx] at hne
     have HT := hid (hts hx)
     clear hts hxy htk hx kx
     go_wp2_with fail
     go_quiet (fail)
     go_wp2_with fail
     exact ⟨⟨j + 1, by go_num, by omega, HT.out, _, rfl⟩, by simp [RowKit.intOf]; omega⟩
    ·have kx : decide (x ≠ y) = true := by simp [hx]
     rw [kx] at hne
     have HT := hid (hxy hx)
     clear hts hxy htk hx kx
     go_wp2_with fail
     go_quiet (fail)
     go_wp2_with fail
     go_ret
     exact ⟨by rw [decide_eq_false HT.out]; rfl, _, World.drewN_drewN _ _ _⟩
   ·have e : j = qs.length := by omega
    subst e
    rw [List.take_length, hlen, List.take_length] at htk
    have HT := hid htk
    clear htk
    go_wp2_with fail
    go_ret
    exact ⟨by rw [decide_eq_true HT.out]; rfl, n, rfl⟩
 ·have k0 : ((qs.length : Int) != (rs.length : Int)) = true := by simp; omega
  go_enter Tryz.func25, Tryz.ntmps25
  go_wp2_with fail
  go_ret
  exact ⟨by rw [decide_eq_false (fun e => hlen (by rw [e]))]; rfl, 0, rfl⟩
end Char
namespace Char
open Go.RowKit Go.Lib
mutual
def eqT : Tr → Tr → Bool
 | .mk kd nm tx ats ks, b => (decide (kd = b.kd) && decide (nm = b.nm) && decide (tx = b.tx) && decide (ats = b.ats)) && eqKs ks b.ks
def eqKs : List Tr → List Tr → Bool
 | [], [] => true
 | [], _ :: _ => false
 | _ :: _, [] => false
 | k :: r, l :: s => eqT k l && eqKs r s
end
theorem eqT_def (a b : Tr) : eqT a b = ((decide (a.kd = b.kd) && decide (a.nm = b.nm) && decide (a.tx = b.tx) && decide (a.ats = b.ats)) && eqKs a.ks b.ks) := by
 cases a
 rw [eqT]
 rfl
theorem eqKs_len : ∀ (k l : List Tr), k.length ≠ l.length → eqKs k l = false
 | [], [], h => absurd rfl h
 | [], _ :: _, _ => by rw [eqKs]
 | _ :: _, [], _ => by rw [eqKs]
 | k :: r, l :: s, h => by
  rw [eqKs, eqKs_len r s (by simpa using h), Bool.and_false]
theorem eqKs_drop : ∀ (k l : List Tr) (j : Nat) (h1 : j < k.length) (h2 : j < l.length), eqKs (k.drop j) (l.drop j) = (eqT k[j] l[j] && eqKs (k.drop (j + 1)) (l.drop (j + 1))) := by
 intro k l j h1 h2
 rw [List.drop_eq_getElem_cons h1, List.drop_eq_getElem_cons h2, eqKs]
theorem eqKs_end (k l : List Tr) (h : k.length = l.length) : eqKs (k.drop k.length) (l.drop k.length) = true := by
 rw [List.drop_length, h, List.drop_length, eqKs]
mutual
theorem eqT_self : ∀ a : Tr, eqT a a = true
 | .mk kd nm tx ats ks => by
  have := eqKs_self ks
  rw [eqT_def]
  simp [Tr.ks, this]
theorem eqKs_self : ∀ k : List Tr, eqKs k k = true
 | [] => by rw [eqKs]
 | k :: r => by rw [eqKs, eqT_self k, eqKs_self r]; rfl
end
mutual
def mxT : Tr → Nat
 | .mk _ _ _ ats ks => max ats.length (mxK ks)
def mxK : List Tr → Nat
 | [] => 0
 | k :: r => max (mxT k) (mxK r)
end
theorem mxT_def (t : Tr) : mxT t = max t.ats.length (mxK t.ks) := by cases t; rw [mxT]; rfl
theorem mxK_at : ∀ (ks : List Tr) (j : Nat) (h : j < ks.length), mxT ks[j] ≤ mxK ks
 | [], j, h => by cases h
 | x :: r, 0, _ => by rw [mxK]; simp only [List.getElem_cons_zero]; omega
 | x :: r, j + 1, h => by
  have := mxK_at r j (by simpa using h)
  rw [mxK]
  simp only [List.getElem_cons_succ]
  omega
end Char
namespace Char
open Go.RowKit Go.Lib
theorem below_drewN (B : Nat) (w : World) (n : Nat) : Below B w (w.drewN n) := ⟨rfl, rfl, rfl, Nat.le_refl _, fun _ _ => rfl⟩
theorem refSame_any : ∀ (c : Nat) (a b : Tr) (va vk ua uk : Value) (w : World) (F G : Nat → Prop), cntT a ≤ c → NdOn w F a va vk → NdOn w G b ua uk → mxT a ≤ 2 ^ 62 → c ≤ 1000000 →
  Calls Tryz.prog 15 #[ndV a va vk, ndV b ua uk] w fun e w' => e = .returned (.bool (eqT a b)) ∧ Below w.heap.size w w' := by
 intro c
 induction c with
 | zero => intro a b va vk ua uk w F G hc; have := cntT_pos a; omega
 | succ c ih =>
  intro a b va vk ua uk w F G hc hn hm hx hcm
  obtain ⟨oa, ja, ok, jk, rfl, rfl⟩ := hn.form
  obtain ⟨pa, la, pk, lk, rfl, rfl⟩ := hm.form
  obtain ⟨w1, hw1⟩ : ∃ w1, w1 = (w.alloc (.cells #[.int .i64 a.kd, .string (bs a.nm), .string (bs a.tx), .slice oa a.ats.length ja, .slice ok a.ks.length jk] 25)).alloc (.cells #[.int .i64 b.kd, .string (bs b.nm), .string (bs b.tx), .slice pa b.ats.length la, .slice pk b.ks.length lk] 25) := ⟨_, rfl⟩
  have b1 : Below w.heap.size w w1 := by rw [hw1]; exact ((Below.refl _ _).alloc (Nat.le_refl _) _).alloc (by simp) _
  have s1 : w1.heap.size = w.heap.size + 2 := by rw [hw1]; simp
  have hcl : ∀ W, Below w1.heap.size w1 W → (W.cell? ⟨w.heap.size, 0, none⟩ = some (.int .i64 a.kd) ∧ W.cell? ⟨w.heap.size, 1, none⟩ = some (.string (bs a.nm)) ∧ W.cell? ⟨w.heap.size, 2, none⟩ = some (.string (bs a.tx)) ∧ W.cell? ⟨w.heap.size, 3, none⟩ = some (.slice oa a.ats.length ja) ∧ W.cell? ⟨w.heap.size, 4, none⟩ = some (.slice ok a.ks.length jk)) ∧
    (W.cell? ⟨w.heap.size + 1, 0, none⟩ = some (.int .i64 b.kd) ∧ W.cell? ⟨w.heap.size + 1, 1, none⟩ = some (.string (bs b.nm)) ∧ W.cell? ⟨w.heap.size + 1, 2, none⟩ = some (.string (bs b.tx)) ∧ W.cell? ⟨w.heap.size + 1, 3, none⟩ = some (.slice pa b.ats.length la) ∧ W.cell? ⟨w.heap.size + 1, 4, none⟩ = some (.slice pk b.ks.length lk)) := fun W hW => by
   have h0 := hW.block w.heap.size (by omega)
   have h1 := hW.block (w.heap.size + 1) (by omega)
   refine ⟨⟨?_, ?_, ?_, ?_, ?_⟩, ⟨?_, ?_, ?_, ?_, ?_⟩⟩
   all_goals first
    | (rw [World.cell?_of_block (w := w1) h0, hw1]; go_simp; done)
    | (rw [World.cell?_of_block (w := w1) h1, hw1]; go_simp; done)
  have HCL := hid hcl
  have HB1 := hid b1
  have HW1 := hid hw1
  have HIH := hid ih
  have HN := hid hn
  have HM := hid hm
  have hcn := cnt_eq a
  have hmx := mxT_def a
  have hat := AtsOn.move (fun _ hb hF => ⟨hF, b1.block _ hb⟩) hn.ats
  have hbt := AtsOn.move (fun _ hb hF => ⟨hF, b1.block _ hb⟩) hm.ats
  have hsa := sameAts_any a.ats b.ats _ _ _ _ _ _ w1 (by omega) hat hbt
  have HSA := hid hsa
  clear hcl ih hn hm hat hbt hsa b1
  unfold ndV
  have hdef := eqT_def a b
  by_cases e0 : a.kd = b.kd
  ·have k0 : (a.kd != b.kd) = false := by simp [e0]
   rw [decide_eq_true e0] at hdef
   clear e0
   by_cases e1 : a.nm = b.nm
   ·have k1 : ((bs a.nm).toList == (bs b.nm).toList) = true := by rw [e1, beq_iff_eq]
    rw [decide_eq_true e1] at hdef
    clear e1
    by_cases e2 : a.tx = b.tx
    ·have k2 : ((bs a.tx).toList == (bs b.tx).toList) = true := by rw [e2, beq_iff_eq]
     rw [decide_eq_true e2] at hdef
     clear e2
     by_cases e3 : a.ats = b.ats
     ·rw [decide_eq_true e3] at hdef HSA
      clear e3
      by_cases e4 : a.ks.length = b.ks.length
      ·have k4 : ((a.ks.length : Int) != (b.ks.length : Int)) = false := by simp [e4]
       have HL := hid e4
       clear e4
       have HD := hid hdef
       clear hdef
       go_enter Tryz.func15, Tryz.ntmps15
       go_wp2_with fail
       rw [← HW1.out]
       clear HW1 hw1
       refine HSA.out.mono ?_
       rintro e w2 ⟨rfl, n, rfl⟩
       obtain ⟨⟨c0, c1, c2, c3, c4⟩, d0, d1, d2, d3, d4⟩ := HCL.out (w1.drewN n) (below_drewN _ _ _)
       go_wp2_with fail
       clear c0 c1 c2 c3 c4 d0 d1 d2 d3 d4
       go_loopw [5] (fun v wr => ∃ j : Nat, v = .int .i64 (j : Int) ∧ j ≤ a.ks.length ∧ Below w1.heap.size w1 wr ∧ eqKs a.ks b.ks = eqKs (a.ks.drop j) (b.ks.drop j)) (fun v _ => a.ks.length - (RowKit.intOf v).toNat)
       case atStart => exact ⟨0, rfl, Nat.zero_le _, below_drewN _ _ _, by simp⟩
       case round =>
        obtain ⟨j, rfl, hj, hbr, heq⟩ := hrel
        have hlen := HL.out
        have hcl := cntK_len a.ks
        obtain ⟨⟨_, _, _, _, c4⟩, _, _, _, _, d4⟩ := HCL.out _ hbr
        by_cases hlt : j < a.ks.length
        ·have hlt2 : j < b.ks.length := by omega
         rw [eqKs_drop _ _ j hlt hlt2] at heq
         obtain ⟨o9, i9, j9, hv9, hi9, hkids⟩ := HN.out.kids
         simp only [Value.slice.injEq] at hv9
         obtain ⟨rfl, rfl, rfl⟩ := hv9
         rcases hkids with h0 | ⟨g, off, rfl, hg, hK⟩
         ·rw [h0] at hlt; cases hlt
         obtain ⟨va, vk, hat, hon⟩ := hK.at j hlt
         obtain ⟨o8, i8, j8, hv8, hi8, hkids⟩ := HM.out.kids
         simp only [Value.slice.injEq] at hv8
         obtain ⟨rfl, rfl, rfl⟩ := hv8
         rcases hkids with h0 | ⟨g', off', rfl, hg', hK'⟩
         ·rw [h0] at hlt2; cases hlt2
         obtain ⟨ua, uk, hat', hon'⟩ := hK'.at j hlt2
         have hb0 : Below w.heap.size w wr := HB1.out.trans (hbr.mono (by omega))
         obtain ⟨a0, a1, a2, a3, a4⟩ := hat.move (hb0.block g (cell_lt hat.1))
         obtain ⟨b0, b1, b2, b3, b4⟩ := hat'.move (hb0.block g' (cell_lt hat'.1))
         have hc3 := cntK_at a.ks j hlt
         have hm3 := mxK_at a.ks j hlt
         have hc2 := HIH.out a.ks[j] b.ks[j] va vk ua uk wr.drew F G (by omega) (hon.below hb0.drew) (hon'.below hb0.drew) (by omega) (by omega)
         generalize a.ks[j] = kid at *
         generalize b.ks[j] = kid' at *
         obtain ⟨oa', ja', ok', jk', rfl, rfl⟩ := hon.form
         obtain ⟨oa2, ja2, ok2, jk2, rfl, rfl⟩ := hon'.form
         unfold ndV at hc2
         have HC2 := hid hc2
         have HE := hid heq
         have HBR := hid hbr
         clear hc2 hon hon' hat hat' hK hK' heq hbr hb0 hlen hi9 hi8
         cases hr : eqT kid kid' with
         | false =>
          have HR := hid hr
          clear hr
          go_wp2_with fail
          go_still_tail 10, (by kernel_rfl)
          change wpList _ _ _ _ _ wr.drew
          go_wp2_with fail
          refine HC2.out.mono ?_
          rintro e w2 ⟨rfl, hb2⟩
          rw [HR.out]
          go_wp2_with fail
          go_ret
          rw [HD.out, HE.out, HR.out]
          exact ⟨rfl, HB1.out.trans ((HBR.out.drew.trans (hb2.mono HBR.out.drew.size)).mono (by omega))⟩
         | true =>
          have HR := hid hr
          clear hr
          go_wp2_with fail
          go_still_tail 10, (by kernel_rfl)
          change wpList _ _ _ _ _ wr.drew
          go_wp2_with fail
          refine HC2.out.mono ?_
          rintro e w2 ⟨rfl, hb2⟩
          rw [HR.out]
          go_wp2_with fail
          go_roundw
          case rel => exact ⟨j + 1, by go_num, by omega, HBR.out.drew.trans (hb2.mono HBR.out.drew.size), by rw [HE.out, HR.out, Bool.true_and]⟩
          case measure => simp [RowKit.intOf]; omega
        ·have e : j = a.ks.length := by omega
         subst e
         rw [eqKs_end _ _ hlen] at heq
         have HE := hid heq
         clear heq hlen
         go_wp2_with fail
         go_ret
         rw [HD.out, HE.out]
         exact ⟨rfl, HB1.out.trans (hbr.mono (by omega))⟩
      ·have k4 : ((a.ks.length : Int) != (b.ks.length : Int)) = true := by rw [bne_iff_ne]; omega
       have HD := hid (hdef.trans (by rw [eqKs_len _ _ e4]))
       clear hdef e4
       go_enter Tryz.func15, Tryz.ntmps15
       go_wp2_with fail
       rw [← HW1.out]
       clear HW1 hw1
       refine HSA.out.mono ?_
       rintro e w2 ⟨rfl, n, rfl⟩
       obtain ⟨⟨c0, c1, c2, c3, c4⟩, d0, d1, d2, d3, d4⟩ := HCL.out (w1.drewN n) (below_drewN _ _ _)
       go_wp2_with fail
       go_ret
       rw [HD.out]
       exact ⟨rfl, HB1.out.trans (below_drewN _ _ _)⟩
     ·rw [decide_eq_false e3] at hdef HSA
      have HD := hid hdef
      clear hdef e3
      go_enter Tryz.func15, Tryz.ntmps15
      go_wp2_with fail
      rw [← HW1.out]
      clear HW1 hw1
      refine HSA.out.mono ?_
      rintro e w2 ⟨rfl, n, rfl⟩
      go_wp2_with fail
      go_ret
      rw [HD.out]
      exact ⟨rfl, HB1.out.trans (below_drewN _ _ _)⟩
    ·have k2 : ((bs a.tx).toList == (bs b.tx).toList) = false := by rw [bs_tl, bs_tl, beq_eq_false_iff_ne]; exact e2
     rw [decide_eq_false e2] at hdef
     have HD := hid hdef
     clear hdef e2
     go_enter Tryz.func15, Tryz.ntmps15
     go_wp2_with fail
     rw [← HW1.out]
     go_ret
     rw [HD.out]
     exact ⟨rfl, HB1.out⟩
   ·have k1 : ((bs a.nm).toList == (bs b.nm).toList) = false := by rw [bs_tl, bs_tl, beq_eq_false_iff_ne]; exact e1
    rw [decide_eq_false e1] at hdef
    have HD := hid hdef
    clear hdef e1
    go_enter Tryz.func15, Tryz.ntmps15
    go_wp2_with fail
    rw [← HW1.out]
    go_ret
    rw [HD.out]
    exact ⟨rfl, HB1.out⟩
  ·have k0 : (a.kd != b.kd) = true := by simp [e0]
   rw [decide_eq_false e0] at hdef
   have HD := hid hdef
   clear hdef e0
   go_enter Tryz.func15, Tryz.ntmps15
   go_wp2_with fail
   rw [← HW1.out]
   go_ret
   rw [HD.out]
   exact ⟨rfl, HB1.out⟩
end Char
end Go.Proofs.YtlmodgnkmlbjhaaGreatDoor
