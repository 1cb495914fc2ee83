/- The law StoreRefuses: a change that is refused turns nothing. -/
import Derived.Test.YtoeddgglfijkoaaWorks9
import Derived.Test.YtoeddgglfijkoaaRun9
import Derived.Deep.RegionWith
import Derived.Deep.RegionHeld3
namespace Go.Proofs.Ytoeddgglfijkoaa.Char
open Go.RowKit Go.Lib

theorem idsL_in (L : List On) : ∀ (n : Nat) (z : Int), z ∈ idsL L n → 1 ≤ z ∧ z ≤ (n : Int)
  | 0, z, h => by cases h
  | k + 1, z, h => by
    rw [idsL] at h
    split at h
    · have := idsL_in L k z h; omega
    · rcases List.mem_append.1 h with h | h
      · have := idsL_in L k z h; omega
      · rw [List.mem_singleton] at h; omega
theorem wf_int {z : Int} (h : 1 ≤ z ∧ z ≤ 1000) : (Lit.int .i64 z).wf = true := by
  have hm : IntKind.i64.min = -9223372036854775808 := by decide
  have hx : IntKind.i64.max = 9223372036854775807 := by decide
  simp [Lit.wf, hm, hx]
  omega
set_option maxRecDepth 100000 in
set_option maxHeartbeats 16000000 in
theorem lawRefuses_any (xs : List StV) (o : Option Addr) (j : Nat) (t : Nat) (cs : List ChV) (oc : Option Addr) (jc : Nat) (w : World) (h : StsOn w w.heap.size (.slice o xs.length j) xs)
    (hc : ChsOn w (fun b => b < w.heap.size) (.slice oc cs.length jc) cs) (hcl : cs.length ≤ 2 ^ 44) (hsm : ∀ x, x ∈ cs → RcSm x.2.1) :
    Calls Try.prog 6 #[.slice o xs.length j, .int .u64 (t : Int), .slice oc cs.length jc] w fun e w' => e = .returned (.bool true) ∧ Below w.heap.size w w' := by
  have HN := Lib.hid (ps_new w.heap.size w (Nat.le_refl _))
  have HX := Lib.hid h
  have HC := Lib.hid hc
  have HCL := Lib.hid hcl
  have HSM := Lib.hid hsm
  clear h hc hcl hsm
  go_enter Try.func6, Try.ntmps6
  go_wp2_with (first
    | (go_at_call 8
       refine HN.out.mono ?_
       rintro e w1 ⟨s, rfl, p1, b1⟩
       have HP1 := Lib.hid p1
       have HB1 := Lib.hid b1
       have HR := Lib.hid (refNew_any w.heap.size w1 b1.size)
       clear p1 b1)
    | (go_at_call 9
       refine HR.out.mono ?_
       rintro e w2 ⟨d, vd, rfl, r2, b2, n2⟩
       have hT := two_start HP1.out b2 r2 n2
       have HT : Hid (Two w.heap.size w2 s d newS) := Lib.hid hT
       have HB2 := Lib.hid (HB1.out.trans (b2.mono HB1.out.size))
       clear r2 b2 n2 hT HN HP1 HR))
  go_loopw [9] (fun v wr => ∃ k : Nat, v = .int .i64 (k : Int) ∧ k ≤ xs.length ∧ k ≤ 50 ∧ ∃ S, FitS k S ∧ Hid (Two w.heap.size wr s d S ∧ Below w.heap.size w wr)) (fun v _ => xs.length - (RowKit.intOf v).toNat)
  case atStart => exact ⟨0, rfl, Nat.zero_le _, Nat.zero_le _, newS, FitS.start, Lib.hid ⟨HT.out, HB2.out⟩⟩
  case round =>
    obtain ⟨k, rfl, hk, hk5, S, hf, HR⟩ := hrel
    clear HT HB2 HB1
    by_cases hin : k < xs.length ∧ k < 50
    · obtain ⟨hlt, h50⟩ := hin
      obtain ⟨g, off, rfl, hat, hok⟩ := (HX.out.below HR.out.2).reads k hlt
      have hf1 := hf.step (by omega) xs[k]
      have HS := Lib.hid (step_any HR.out.1 xs[k] hok (hf.g (by omega)) (hf.l (by omega)))
      have HB := Lib.hid HR.out.2
      unfold stV at HS
      obtain ⟨a0, a1, a2, a3⟩ := hat
      generalize stepS S xs[k] = S' at *
      generalize xs[k] = x at *
      have HF := Lib.hid hf1
      clear hf hf1 hok HR
      go_wp2_with (first
        | (go_at_call 10
           refine HS.out.mono ?_
           rintro e w3 ⟨rfl, t3, b3⟩
           have hT3 : Two w.heap.size w3 s d S' ∧ Below w.heap.size w w3 := ⟨t3, HB.out.trans b3⟩
           have HT3 : Hid (Two w.heap.size w3 s d S' ∧ Below w.heap.size w w3) := Lib.hid hT3
           clear hT3 t3 b3))
      go_roundw
      case rel => exact ⟨k + 1, by go_num, by omega, by omega, S', HF.out, HT3⟩
      case measure => simp [RowKit.intOf]; omega
    · by_cases hlt : k < xs.length
      all_goals
        try have h50 : ¬ k < 50 := by omega
        have hg := hf.g (by omega)
        have hl' := hf.l (by omega)
        have hb := HR.out.2
        have hcr := HC.out.below hb
        obtain ⟨Z, v3, zs, p3, r3, e3, ap3⟩ := HR.out.1
        have hBw := hb.size
        have hzB := p3.zB
        have hzl : zs.length = S.L.length := by rw [← e3, List.length_map]
        have HA := Lib.hid (ps_inst p3 t cs oc jc hBw (fun g (hg : g < w.heap.size) hzz => by have := (hzB g hzz).1; omega) hcr HSM.out HCL.out (by omega) (by omega))
        by_cases h0 : instE S t (cs.map toCh) = 0
        · rw [h0] at HA
          have HRI := fun w4 (o4 : Only w.heap.size Z wr w4) => Lib.hid (refInst_any (r3.only o4 ap3) t cs oc jc (hcr.below o4.1) HSM.out (Nat.le_trans HCL.out (by decide)) (by omega) (by omega))
          rw [e3] at HRI
          have HRJ := fun w4 o4 => Lib.hid (by have := (HRI w4 o4).out; rw [show instE ⟨S.L, S.given, S.last⟩ t (cs.map toCh) = 0 from h0] at this; exact this)
          have HBR := Lib.hid hb
          clear hf p3 r3 e3 ap3 hb hcr HR HRI
          go_wp2_with (first
            | (go_at_call 23
               refine HA.out.mono ?_
               rintro e w4 ⟨rfl, o4, _⟩
               have HJ := HRJ w4 o4
               have HO4 := Lib.hid (HBR.out.trans o4.1)
               clear o4)
            | (go_at_call 24
               refine HJ.out.mono ?_
               rintro e w5 ⟨rfl, _, o5⟩
               have HO5 := Lib.hid (HO4.out.trans o5.1)
               have HW := Lib.hid (works_any w5)
               clear o5)
            | (go_at_call 16
               refine HW.out.mono ?_
               rintro e w6 ⟨rfl, b6⟩))
          go_ret
          exact ⟨rfl, HO5.out.trans (b6.mono HO5.out.size)⟩
        · have hE : instS S t (cs.map toCh) = S := by unfold instS; rw [if_neg h0]
          rw [hE] at HA
          generalize instE S t (cs.map toCh) = E at *
          have k0 : ((E : Int) == 0) = false := by simp; exact h0
          have HTW := fun w4 (o4 : Only w.heap.size Z wr w4) Z4 (p4 : PS Z4 w.heap.size w4 s S) (z2 : ∀ g, Z4 g → Z g ∨ wr.heap.size ≤ g) => (⟨Z4, v3, zs, p4, r3.only o4 ap3, e3, fun g hg hn => (z2 g hg).elim (fun h => ap3 g h hn) (fun h => by have := (r3.own hn).2; omega)⟩ : Two w.heap.size w4 s d S)
          have HTX := Lib.hid HTW
          have HRI := fun w4 (o4 : Only w.heap.size Z wr w4) => Lib.hid (refIds_any (r3.only o4 ap3) (by omega) (by omega))
          rw [e3] at HRI
          have HBR := Lib.hid hb
          clear hf p3 r3 e3 ap3 hb hcr HR hE HTW
          go_wp2_with (first
            | (go_at_call 23
               refine HA.out.mono ?_
               rintro e w4 ⟨rfl, o4, Z4, p4, _, z2⟩
               have hT4 : Two w.heap.size w4 s d S := HTX.out w4 o4 Z4 p4 z2
               have HT4 : Hid (Two w.heap.size w4 s d S) := Lib.hid hT4
               have HI := HRI w4 o4
               have HB4 := Lib.hid (HBR.out.trans o4.1)
               clear o4 p4 z2 hT4)
            | (go_at_call 15
               refine HI.out.mono ?_
               rintro e w5 ⟨u5, rfl, i5, b5⟩
               obtain ⟨o5, j5, rfl⟩ := i5.form
               have i5' := i5.on (F := fun g => g < w5.heap.size) (fun g hg => (i5.blk hg).2)
               have HI5 := Lib.hid i5'
               have hT5 : Two w.heap.size w5 s d S := Two.below HT4.out b5
               have HT5 : Hid (Two w.heap.size w5 s d S) := Lib.hid hT5
               have HB5 := Lib.hid (HB4.out.trans (b5.mono HB4.out.size))
               clear i5 i5' hT5 b5))
          have hids := idsL_in S.L S.given
          have hidl := idsL_len S.L S.given
          generalize idsL S.L S.given = ids at *
          clear HA HTX HRI HI HB4 HT4 HBR
          go_loopw [11] (fun v wq => ∃ m : Nat, v = .int .i64 (m : Int) ∧ m ≤ ids.length ∧ Hid (Two w.heap.size wq s d S ∧ Below w5.heap.size w5 wq)) (fun v _ => ids.length - (RowKit.intOf v).toNat)
          case atStart => exact ⟨0, rfl, Nat.zero_le _, Lib.hid ⟨HT5.out, Below.refl _ _⟩⟩
          case round =>
            obtain ⟨m, rfl, hm, HQ⟩ := hrel
            by_cases hlt2 : m < ids.length
            · obtain ⟨g6, f6, rfl, hg6, c6⟩ := (HI5.out.move (fun b hb hF => ⟨hF, HQ.out.2.block b hb⟩)).reads m hlt2
              have hg6' : g6 < wr.heap.size := Nat.lt_of_lt_of_le hg6 HQ.out.2.size
              have hid := wf_int (z := ids[m]) (by have := hids _ (List.getElem_mem hlt2); omega)
              generalize ids[m] = id at *
              have ht : Two w.heap.size wr.drew s d S := Two.below HQ.out.1 (Below.refl _ _).drew
              have hV1 := ht
              obtain ⟨Z7, v7, zs7, p7, _⟩ := hV1
              have HV1 := Lib.hid (ps_versions p7 id hid (by omega))
              have HV2 := fun w' (hb : Below wr.drew.heap.size wr.drew w') => Lib.hid (two_dvers (Two.below ht hb) id (by omega))
              have HB7 := Lib.hid HQ.out.2.drew
              have HT7 : Hid (Two w.heap.size wr.drew s d S) := Lib.hid ht
              have s6 : wr.drew.cell? ⟨g6, f6 + m, none⟩ = some (.int .i64 id) := c6
              have KS := Lib.hid (fun (W : World) (hb : Below wr.drew.heap.size wr.drew W) => (hb.cell (p := ⟨g6, f6 + m, none⟩) hg6').trans s6)
              have hz0 : (0 : Int) ≤ (m : Int) := by omega
              have hz1 : (m : Int) < (ids.length : Int) := by omega
              clear p7 ht HQ c6
              go_wp2_with fail
              go_region_held3 (fun w' => w'.cell? ⟨g6, f6 + m, none⟩ = some (.int .i64 id))
                (first | exact s6 | exact s7 | exact s8 | exact s9)
                (first
                  | (go_at_call 22
                     refine HV1.out.mono ?_
                     rintro e w6 ⟨u6, y6, rfl, e6, o6, m6, q6⟩
                     have s7 := KS.out w6 q6
                     have v6 := o6.on
                     obtain ⟨oy, jy, rfl⟩ := v6.form
                     have H6 := HV2 w6 q6)
                  | (go_at_call 26
                     refine H6.out.mono ?_
                     rintro e w7 ⟨u7, y7, rfl, e7, v7, q7⟩
                     have q47 := q6.trans (q7.mono q6.size)
                     have s8 := KS.out w7 q47
                     obtain ⟨oz, jz, rfl⟩ := v7.form
                     have h7 := all_any y6 y7 _ _ oy jy oz jz w7 (by have := congrArg List.length e6; rw [List.length_map] at this; have := versL_le S.L id; omega) m6 (v6.below q7) v7
                     rw [decide_eq_true (e6.trans e7.symm)] at h7
                     have H7 := Lib.hid h7
                     clear h7)
                  | (go_at_call 25
                     refine H7.out.mono ?_
                     rintro e w8 ⟨rfl, q8⟩
                     have q48 := q47.trans (q8.mono q47.size)
                     have s9 := KS.out w8 q48))
              all_goals
                have hR8 : Two w.heap.size w8 s d S ∧ Below w5.heap.size w5 w8 := ⟨Two.below HT7.out q48, HB7.out.trans (q48.mono HB7.out.size)⟩
                have HR8 : Hid (Two w.heap.size w8 s d S ∧ Below w5.heap.size w5 w8) := Lib.hid hR8
                clear hR8
                go_wp2_with fail
                go_roundw
                case rel => exact ⟨m + 1, by go_num, by omega, HR8⟩
                case measure => simp [RowKit.intOf]; omega
            · have e : m = ids.length := by omega
              subst e
              have ht : Two w.heap.size wr.drew s d S := Two.below HQ.out.1 (Below.refl _ _).drew
              obtain ⟨Z7, v7, zs7, p7, r7, e7, _⟩ := ht
              obtain ⟨o7, j7, e8⟩ := r7.row.form
              obtain ⟨c0, c1, c2, c9⟩ := r7.cells
              have hz7 : zs7.length = S.L.length := by rw [← e7, List.length_map]
              rw [e8, hz7] at c0
              have HL := Lib.hid (ps_last p7)
              have HCo := Lib.hid (ps_count p7 (by omega) (by omega))
              have HB7 := Lib.hid (HB5.out.trans (HQ.out.2.drew.mono HB5.out.size))
              have hd7 := r7.lt
              clear p7 r7 e7 c1 c9 HQ e8
              go_wp2_with fail
              go_region_with
                (first
                  | (go_at_call 11
                     refine HL.out.mono ?_
                     rintro e w8 ⟨rfl, rfl⟩)
                  | (go_at_call 12
                     refine HCo.out.mono ?_
                     rintro e w9 ⟨rfl, b9⟩
                     have c0b := (b9.cell (p := ⟨d, 0, none⟩) hd7).trans c0
                     have HW := Lib.hid (works_any w9))
                  | (go_at_call 16
                     refine HW.out.mono ?_
                     rintro e w10 ⟨rfl, b10⟩))
              all_goals
                go_wp2_with fail
                go_ret
                exact ⟨rfl, HB7.out.trans ((b9.trans (b10.mono b9.size)).mono HB7.out.size)⟩
theorem u64_nat {a : Int} (ha : (Lit.int .u64 a).wf = true) : ∃ t : Nat, a = (t : Int) ∧ t < 2 ^ 64 := by
  have hm : IntKind.u64.min = 0 := by decide
  have hx : IntKind.u64.max = 18446744073709551615 := by decide
  simp [Lit.wf, hm, hx] at ha
  exact ⟨a.toNat, by omega, by omega⟩
theorem lawRefuses_of (xs : List StV) (v : Value) (a : Int) (ha : (Lit.int .u64 a).wf = true) (cs : List ChV) (vc : Value) (w : World) (h : StsOn w w.heap.size v xs)
    (hc : ChsOn w (fun b => b < w.heap.size) vc cs) (hcl : cs.length ≤ 2 ^ 44) (hsm : ∀ x, x ∈ cs → RcSm x.2.1) :
    Calls Try.prog 6 #[v, .int .u64 a, vc] w fun e w' => e = .returned (.bool true) ∧ Below w.heap.size w w' := by
  obtain ⟨o, j, rfl⟩ := h.form
  obtain ⟨oc, jc, rfl⟩ := hc.form
  obtain ⟨t, rfl, _⟩ := u64_nat ha
  exact lawRefuses_any xs o j t cs oc jc w h hc hcl hsm
end Go.Proofs.Ytoeddgglfijkoaa.Char
