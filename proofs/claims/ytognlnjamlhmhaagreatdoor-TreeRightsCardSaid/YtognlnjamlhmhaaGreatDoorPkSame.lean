/- SameW Same -/
import Derived.Test.YtognlnjamlhmhaaGreatDoorRefSameW
/- The walk of the program's Same. -/
namespace Go.Proofs.YtognlnjamlhmhaaGreatDoor.Char
open Go.RowKit Go.Lib

set_option maxRecDepth 100000 in
set_option maxHeartbeats 4000000 in
theorem eqFunc_of (c : Nat)
    (hS : ∀ (a b : Tr) (va vk ua uk : Value) (w : World) (F G : Nat → Prop), cntT a ≤ c → NdOn w F a va vk → NdOn w G b ua uk → mxT a ≤ 2 ^ 62 →
      Calls Tryz.prog 18 #[ndV a va vk, ndV b ua uk] w fun e w' => e = .returned (.bool (eqT a b)) ∧ Below w.heap.size w w')
    (ks ls : List Tr) (o1 o2 : Option Addr) (j1 j2 : Nat) (w : World) (F G : Nat → Prop) (hc : cntK ks ≤ c) (hcm : c ≤ 1000000)
    (h1 : ks = [] ∨ ∃ g off, o1 = some ⟨g, off, none⟩ ∧ F g ∧ KsOn w F g off ks) (h2 : ls = [] ∨ ∃ g off, o2 = some ⟨g, off, none⟩ ∧ G g ∧ KsOn w G g off ls) (hm : mxK ks ≤ 2 ^ 62) :
    Calls Tryz.prog 30 #[.slice o1 ks.length j1, .slice o2 ls.length j2, .func (.func 18) #[] #[]] w fun e w' => e = .returned (.bool (eqKs ks ls)) ∧ Below w.heap.size w w' := by
  have HS := Lib.hid hS
  clear hS
  have hcl := cntK_len ks
  by_cases e4 : ks.length = ls.length
  · have k4 : ((ks.length : Int) != (ls.length : Int)) = false := by simp [e4]
    have HL := Lib.hid e4
    clear e4
    go_enter Tryz.func30, Tryz.ntmps30
    go_wp2_with fail
    go_loopw [17] (fun v wr => ∃ j : Nat, v = .int .i64 (j : Int) ∧ j ≤ ks.length ∧ Below w.heap.size w wr ∧ eqKs ks ls = eqKs (ks.drop j) (ls.drop j)) (fun v _ => ks.length - (RowKit.intOf v).toNat)
    case atStart => exact ⟨0, rfl, Nat.zero_le _, Below.refl _ _, by simp⟩
    case round =>
      obtain ⟨j, rfl, hj, hbr, heq⟩ := hrel
      have hlen := HL.out
      by_cases hlt : j < ks.length
      · have hlt2 : j < ls.length := by omega
        rw [eqKs_drop _ _ j hlt hlt2] at heq
        rcases h1 with h0 | ⟨g, off, rfl, hg, hK⟩
        · rw [h0] at hlt; cases hlt
        obtain ⟨va, vk, hat, hon⟩ := hK.at j hlt
        rcases h2 with h0 | ⟨g', off', rfl, hg', hK'⟩
        · rw [h0] at hlt2; cases hlt2
        obtain ⟨ua, uk, hat', hon'⟩ := hK'.at j hlt2
        have hq1 : ∀ W, Below w.heap.size w W → NdAt W g (off + j * 5) ks[j] va vk := fun W hW => hat.move (hW.block g (cell_lt hat.1))
        have hq2 : ∀ W, Below w.heap.size w W → NdAt W g' (off' + j * 5) ls[j] ua uk := fun W hW => hat'.move (hW.block g' (cell_lt hat'.1))
        have hc3 := cntK_at ks j hlt
        have hm3 := mxK_at ks j hlt
        have hc2 := fun W (hW : Below w.heap.size w W) => HS.out ks[j] ls[j] va vk ua uk W F G (by omega) (hon.below hW) (hon'.below hW) (by omega)
        generalize ks[j] = kid at *
        generalize ls[j] = kid' at *
        obtain ⟨oa', ja', ok', jk', rfl, rfl⟩ := hon.form
        obtain ⟨oa2, ja2, ok2, jk2, rfl, rfl⟩ := hon'.form
        unfold ndV at hc2
        have HC2 := Lib.hid hc2
        have HE := Lib.hid heq
        have HBR := Lib.hid hbr
        have HQ2 := Lib.hid hq2
        obtain ⟨a0, a1, a2, a3, a4⟩ := hq1 wr hbr
        obtain ⟨b0, b1, b2, b3, b4⟩ := hq2 wr hbr
        have hgl : g < wr.heap.size := cell_lt a0
        have hgl' : g' < wr.heap.size := cell_lt b0
        clear hc2 hon hon' hat hat' hK hK' heq hbr hlen hq1 hq2
        cases hr : eqT kid kid' with
        | false =>
          have HR := Lib.hid hr
          clear hr
          go_wp2_with fail
          obtain ⟨W2, hW2⟩ : ∃ W2, W2 = ((wr.alloc (.cells #[.int .i64 kid.kd, .string (bs kid.nm), .string (bs kid.tx), .slice oa' kid.ats.length ja', .slice ok' kid.ks.length jk'] 26)).alloc (.cells #[.int .i64 kid'.kd, .string (bs kid'.nm), .string (bs kid'.tx), .slice oa2 kid'.ats.length ja2, .slice ok2 kid'.ks.length jk2] 26)) := ⟨_, rfl⟩
          have hb2 : Below w.heap.size w W2 := by rw [hW2]; exact (HBR.out.alloc HBR.out.size _).alloc (by have := HBR.out.size; simp; omega) _
          rw [← hW2]
          clear hW2
          refine (HC2.out W2 hb2).mono ?_
          rintro e w2 ⟨rfl, hb3⟩
          have HB4 := Lib.hid (hb2.trans (hb3.mono hb2.size))
          clear hb2 hb3
          rw [HR.out]
          go_wp2_with fail
          go_ret
          rw [HE.out, HR.out]
          exact ⟨rfl, HB4.out⟩
        | true =>
          have HR := Lib.hid hr
          clear hr
          go_wp2_with fail
          obtain ⟨W2, hW2⟩ : ∃ W2, W2 = ((wr.alloc (.cells #[.int .i64 kid.kd, .string (bs kid.nm), .string (bs kid.tx), .slice oa' kid.ats.length ja', .slice ok' kid.ks.length jk'] 26)).alloc (.cells #[.int .i64 kid'.kd, .string (bs kid'.nm), .string (bs kid'.tx), .slice oa2 kid'.ats.length ja2, .slice ok2 kid'.ks.length jk2] 26)) := ⟨_, rfl⟩
          have hb2 : Below w.heap.size w W2 := by rw [hW2]; exact (HBR.out.alloc HBR.out.size _).alloc (by have := HBR.out.size; simp; omega) _
          rw [← hW2]
          clear hW2
          refine (HC2.out W2 hb2).mono ?_
          rintro e w2 ⟨rfl, hb3⟩
          have HB4 := Lib.hid (hb2.trans (hb3.mono hb2.size))
          clear hb2 hb3
          rw [HR.out]
          go_wp2_with fail
          go_roundw
          case rel => exact ⟨j + 1, by go_num, by omega, HB4.out, by rw [HE.out, HR.out, Bool.true_and]⟩
          case measure => simp [RowKit.intOf]; omega
      · have e : j = ks.length := by omega
        subst e
        rw [eqKs_end _ _ hlen] at heq
        have HE := Lib.hid heq
        clear heq hlen
        go_wp2_with fail
        go_ret
        rw [HE.out]
        exact ⟨rfl, hbr⟩
  · have k4 : ((ks.length : Int) != (ls.length : Int)) = true := by rw [bne_iff_ne]; omega
    have HD := Lib.hid (eqKs_len _ _ e4)
    clear e4
    go_enter Tryz.func30, Tryz.ntmps30
    go_wp2_with fail
    go_ret
    rw [HD.out]
    exact ⟨rfl, Below.refl _ _⟩
end Go.Proofs.YtognlnjamlhmhaaGreatDoor.Char

/- The walk of the program's Same. -/
namespace Go.Proofs.YtognlnjamlhmhaaGreatDoor.Char
open Go.RowKit Go.Lib

set_option maxRecDepth 100000 in
set_option maxHeartbeats 4000000 in
theorem same_any : ∀ (c : Nat) (a b : Tr) (va vk ua uk : Value) (w : World) (F G : Nat → Prop), cntT a ≤ c → NdOn w F a va vk → NdOn w G b ua uk → mxT a ≤ 2 ^ 62 → c ≤ 1000000 →
    Calls Tryz.prog 18 #[ndV a va vk, ndV b ua uk] w fun e w' => e = .returned (.bool (eqT a b)) ∧ Below w.heap.size w w' := by
  intro c
  induction c with
  | zero => intro a b va vk ua uk w F G hc; have := cntT_pos a; omega
  | succ c ih =>
    intro a b va vk ua uk w F G hc hn hm hx hcm
    obtain ⟨oa, ja, ok, jk, rfl, rfl⟩ := hn.form
    obtain ⟨pa, la, pk, lk, rfl, rfl⟩ := hm.form
    obtain ⟨w1, hw1⟩ : ∃ w1, w1 = (w.alloc (.cells #[.int .i64 a.kd, .string (bs a.nm), .string (bs a.tx), .slice oa a.ats.length ja, .slice ok a.ks.length jk] 26)).alloc (.cells #[.int .i64 b.kd, .string (bs b.nm), .string (bs b.tx), .slice pa b.ats.length la, .slice pk b.ks.length lk] 26) := ⟨_, rfl⟩
    have b1 : Below w.heap.size w w1 := by rw [hw1]; exact ((Below.refl _ _).alloc (Nat.le_refl _) _).alloc (by simp) _
    have s1 : w1.heap.size = w.heap.size + 2 := by rw [hw1]; simp
    have hcl : ∀ W, Below w1.heap.size w1 W → (W.cell? ⟨w.heap.size, 0, none⟩ = some (.int .i64 a.kd) ∧ W.cell? ⟨w.heap.size, 1, none⟩ = some (.string (bs a.nm)) ∧ W.cell? ⟨w.heap.size, 2, none⟩ = some (.string (bs a.tx)) ∧ W.cell? ⟨w.heap.size, 3, none⟩ = some (.slice oa a.ats.length ja) ∧ W.cell? ⟨w.heap.size, 4, none⟩ = some (.slice ok a.ks.length jk)) ∧
        (W.cell? ⟨w.heap.size + 1, 0, none⟩ = some (.int .i64 b.kd) ∧ W.cell? ⟨w.heap.size + 1, 1, none⟩ = some (.string (bs b.nm)) ∧ W.cell? ⟨w.heap.size + 1, 2, none⟩ = some (.string (bs b.tx)) ∧ W.cell? ⟨w.heap.size + 1, 3, none⟩ = some (.slice pa b.ats.length la) ∧ W.cell? ⟨w.heap.size + 1, 4, none⟩ = some (.slice pk b.ks.length lk)) := fun W hW => by
      have h0 := hW.block w.heap.size (by omega)
      have h1 := hW.block (w.heap.size + 1) (by omega)
      refine ⟨⟨?_, ?_, ?_, ?_, ?_⟩, ⟨?_, ?_, ?_, ?_, ?_⟩⟩
      all_goals first
        | (rw [World.cell?_of_block (w := w1) h0, hw1]; go_simp; done)
        | (rw [World.cell?_of_block (w := w1) h1, hw1]; go_simp; done)
    have HCL := Lib.hid hcl
    have HB1 := Lib.hid b1
    have HW1 := Lib.hid hw1
    have HIH := Lib.hid ih
    have HN := Lib.hid hn
    have HM := Lib.hid hm
    have hcn := cnt_eq a
    have hmx := mxT_def a
    have hat := AtsOn.move (fun _ hb hF => ⟨hF, b1.block _ hb⟩) hn.ats
    have hbt := AtsOn.move (fun _ hb hF => ⟨hF, b1.block _ hb⟩) hm.ats
    have hsa := slicesEqual_any a.ats b.ats _ _ _ _ _ _ w1 (by omega) hat hbt
    have HSA := Lib.hid hsa
    clear hcl ih hn hm hat hbt hsa b1
    unfold ndV
    have hdef := eqT_def a b
    by_cases e0 : a.kd = b.kd
    · have k0 : (a.kd == b.kd) = true := by simp [e0]
      rw [decide_eq_true e0] at hdef
      clear e0
      by_cases e1 : a.nm = b.nm
      · have k1 : ((bs a.nm).toList == (bs b.nm).toList) = true := by rw [e1, beq_iff_eq]
        rw [decide_eq_true e1] at hdef
        clear e1
        by_cases e2 : a.tx = b.tx
        · have k2 : ((bs a.tx).toList == (bs b.tx).toList) = true := by rw [e2, beq_iff_eq]
          rw [decide_eq_true e2] at hdef
          clear e2
          by_cases e3 : a.ats = b.ats
          · rw [decide_eq_true e3] at hdef HSA
            clear e3
            have HD := Lib.hid hdef
            clear hdef
            go_enter Tryz.func18, Tryz.ntmps18
            go_wp2_with fail
            rw [← HW1.out]
            clear HW1 hw1
            refine HSA.out.mono ?_
            rintro e w2 ⟨rfl, n, rfl⟩
            obtain ⟨⟨c0, c1, c2, c3, c4⟩, d0, d1, d2, d3, d4⟩ := HCL.out (w1.drewN n) (below_drewN _ _ _)
            go_wp2_with fail
            have hbw : Below w.heap.size w (w1.drewN n) := HB1.out.trans (below_drewN _ _ _)
            have hE : Calls Tryz.prog 30 #[.slice ok a.ks.length jk, .slice pk b.ks.length lk, .func (.func 18) #[] #[]] (w1.drewN n) fun e w' => e = .returned (.bool (eqKs a.ks b.ks)) ∧ Below (w1.drewN n).heap.size (w1.drewN n) w' := by
              obtain ⟨_, _, _, hv1, _, hk1⟩ := (HN.out.below hbw).kids
              obtain ⟨_, _, _, hv2, _, hk2⟩ := (HM.out.below hbw).kids
              cases hv1
              cases hv2
              exact eqFunc_of c (fun a b va vk ua uk w F G q1 q2 q3 q4 => HIH.out a b va vk ua uk w F G q1 q2 q3 q4 (by omega)) a.ks b.ks ok pk jk lk (w1.drewN n) F G (by omega) (by omega) hk1 hk2 (by omega)
            refine hE.mono ?_
            rintro e w2 ⟨rfl, hb2⟩
            go_wp2_with fail
            go_ret
            rw [HD.out]
            exact ⟨by simp, hbw.trans (hb2.mono hbw.size)⟩
          · rw [decide_eq_false e3] at hdef HSA
            have HD := Lib.hid hdef
            clear hdef e3
            go_enter Tryz.func18, Tryz.ntmps18
            go_wp2_with fail
            rw [← HW1.out]
            clear HW1 hw1
            refine HSA.out.mono ?_
            rintro e w2 ⟨rfl, n, rfl⟩
            go_wp2_with fail
            go_ret
            rw [HD.out]
            exact ⟨rfl, HB1.out.trans (below_drewN _ _ _)⟩
        · have k2 : ((bs a.tx).toList == (bs b.tx).toList) = false := by rw [bs_tl, bs_tl, beq_eq_false_iff_ne]; exact e2
          rw [decide_eq_false e2] at hdef
          have HD := Lib.hid hdef
          clear hdef e2
          go_enter Tryz.func18, Tryz.ntmps18
          go_wp2_with fail
          rw [← HW1.out]
          go_ret
          rw [HD.out]
          exact ⟨rfl, HB1.out⟩
      · have k1 : ((bs a.nm).toList == (bs b.nm).toList) = false := by rw [bs_tl, bs_tl, beq_eq_false_iff_ne]; exact e1
        rw [decide_eq_false e1] at hdef
        have HD := Lib.hid hdef
        clear hdef e1
        go_enter Tryz.func18, Tryz.ntmps18
        go_wp2_with fail
        rw [← HW1.out]
        go_ret
        rw [HD.out]
        exact ⟨rfl, HB1.out⟩
    · have k0 : (a.kd == b.kd) = false := by simp [e0]
      rw [decide_eq_false e0] at hdef
      have HD := Lib.hid hdef
      clear hdef e0
      go_enter Tryz.func18, Tryz.ntmps18
      go_wp2_with fail
      rw [← HW1.out]
      go_ret
      rw [HD.out]
      exact ⟨rfl, HB1.out⟩
end Go.Proofs.YtognlnjamlhmhaaGreatDoor.Char
