/- RefSameE RefSameF FewX NextW NameX OfX -/
import Derived.Test.YtapljbdklhnfkaaGreatDoorPk05
import Derived.StillTailTactics
import Derived.Deep.CutBlock
import Derived.Deep.DeepCutAuto
import Derived.Test.YtapljbdklhnfkaaGreatDoorPk02
import Derived.Deep.WholeRow
import Derived.Great.BuildSlice
import Derived.WalkLawsBesides
/- The walk of the document's own Same and Lists, on expressions. -/
namespace Go.Proofs.YtapljbdklhnfkaaGreatDoor.Char
open Go.RowKit Go.Lib

set_option maxRecDepth 100000 in
set_option maxHeartbeats 4000000 in
theorem lists_of (c : Nat) (hS : SamC 12 c) (ks ls : List Ex) (v1 v2 : Value) (w : World) (F G : Nat → Prop) (hc : cntEs ks ≤ c) (hcm : c ≤ 1000)
    (h1 : KdOn w F v1 ks) (h2 : KdOn w G v2 ls) :
    Calls Tryz.prog 26 #[v1, v2] w fun e w' => e = .returned (.bool (eqEs ks ls)) ∧ Below w.heap.size w w' := by
  have HS := Lib.hid hS
  clear hS
  have hcl := cntEs_len ks
  obtain ⟨o1, j1, rfl⟩ := h1.form
  obtain ⟨o2, j2, rfl⟩ := h2.form
  by_cases e4 : ks.length = ls.length
  · have k4 : ((ks.length : Int) != (ls.length : Int)) = false := by simp [e4]
    have HL := Lib.hid e4
    clear e4
    go_enter Tryz.func26, Tryz.ntmps26
    go_wp2_with fail
    go_loopw [5] (fun v wr => ∃ j : Nat, v = .int .i64 (j : Int) ∧ j ≤ ks.length ∧ Below w.heap.size w wr ∧ eqEs ks ls = eqEs (ks.drop j) (ls.drop j)) (fun v _ => ks.length - (RowKit.intOf v).toNat)
    case atStart => exact ⟨0, rfl, Nat.zero_le _, Below.refl _ _, by simp⟩
    case round =>
      obtain ⟨j, rfl, hj, hbr, heq⟩ := hrel
      have hlen := HL.out
      by_cases hlt : j < ks.length
      · have hlt2 : j < ls.length := by omega
        rw [eqEs_drop _ _ j hlt hlt2] at heq
        obtain ⟨_, _, hv1, h1⟩ := h1
        obtain ⟨_, _, hv2, h2⟩ := h2
        cases hv1
        cases hv2
        rcases h1 with h0 | ⟨g, off, rfl, hg, hK⟩
        · rw [h0] at hlt; cases hlt
        obtain ⟨va, vk, hat, hon⟩ := hK.at j hlt
        rcases h2 with h0 | ⟨g', off', rfl, hg', hK'⟩
        · rw [h0] at hlt2; cases hlt2
        obtain ⟨ua, uk, hat', hon'⟩ := hK'.at j hlt2
        obtain ⟨a0, a1, a2, a3, a4, a5, a6⟩ := (hat.move (hbr.block g hat.lt)).cells
        obtain ⟨b0, b1, b2, b3, b4, b5, b6⟩ := (hat'.move (hbr.block g' hat'.lt)).cells
        have hc3 := cntEs_at ks j hlt
        have hc2 := HS.out ks[j] ls[j] va vk ua uk wr.drew F G (by omega) (hon.below hbr.drew) (hon'.below hbr.drew)
        generalize ks[j] = kid at *
        generalize ls[j] = kid' at *
        obtain ⟨hn1, hn2⟩ := ExOn.iff.1 hon
        obtain ⟨hn3, hn4⟩ := ExOn.iff.1 hon'
        obtain ⟨oa', ja', rfl⟩ := hn1.form
        obtain ⟨ok', jk', rfl⟩ := hn2.form
        obtain ⟨oa2, ja2, rfl⟩ := hn3.form
        obtain ⟨ok2, jk2, rfl⟩ := hn4.form
        unfold exV at hc2
        have HC2 := Lib.hid hc2
        have HE := Lib.hid heq
        have HBR := Lib.hid hbr
        clear hc2 hon hon' hat hat' hK hK' heq hbr hlen hn1 hn2 hn3 hn4
        cases hr : eqE kid kid' with
        | false =>
          have HR := Lib.hid hr
          clear hr
          go_wp2_with fail
          go_still_tail 8, (by kernel_rfl)
          change wpList _ _ _ _ _ wr.drew
          go_wp2_with fail
          refine HC2.out.mono ?_
          rintro e w2 ⟨rfl, hb2⟩
          rw [HR.out]
          go_wp2_with fail
          go_ret
          rw [HE.out, HR.out]
          exact ⟨rfl, HBR.out.drew.trans (hb2.mono HBR.out.drew.size)⟩
        | true =>
          have HR := Lib.hid hr
          clear hr
          go_wp2_with fail
          go_still_tail 8, (by kernel_rfl)
          change wpList _ _ _ _ _ wr.drew
          go_wp2_with fail
          refine HC2.out.mono ?_
          rintro e w2 ⟨rfl, hb2⟩
          rw [HR.out]
          go_wp2_with fail
          go_roundw
          case rel => exact ⟨j + 1, by go_num, by omega, HBR.out.drew.trans (hb2.mono HBR.out.drew.size), by rw [HE.out, HR.out, Bool.true_and]⟩
          case measure => simp [RowKit.intOf]; omega
      · have e : j = ks.length := by omega
        subst e
        rw [eqEs_end _ _ hlen] at heq
        have HE := Lib.hid heq
        clear heq hlen
        go_wp2_with fail
        go_ret
        rw [HE.out]
        exact ⟨rfl, hbr⟩
  · have k4 : ((ks.length : Int) != (ls.length : Int)) = true := by rw [bne_iff_ne]; omega
    have HD := Lib.hid (eqEs_len _ _ e4)
    clear e4
    go_enter Tryz.func26, Tryz.ntmps26
    go_wp2_with fail
    go_ret
    rw [HD.out]
    exact ⟨rfl, Below.refl _ _⟩
theorem duo_st (w : World) (p q : St) (vp vq : Value) : (((w.alloc (boxSt p vp)).alloc (boxSt q vq)).drew).heap[w.heap.size]? = some (boxSt p vp) ∧ (((w.alloc (boxSt p vp)).alloc (boxSt q vq)).drew).heap[w.heap.size + 1]? = some (boxSt q vq) ∧ Below w.heap.size w (((w.alloc (boxSt p vp)).alloc (boxSt q vq)).drew) := by
  have h1 : ((w.alloc (boxSt p vp)).alloc (boxSt q vq)).heap[w.heap.size]? = some (boxSt p vp) := (Below.heap_alloc _ _ _ (by simp)).trans (World.alloc_heap_new w _)
  have h2 : ((w.alloc (boxSt p vp)).alloc (boxSt q vq)).heap[w.heap.size + 1]? = some (boxSt q vq) := by simpa using World.alloc_heap_new (w.alloc (boxSt p vp)) (boxSt q vq)
  exact ⟨h1, h2, (((Below.refl _ _).alloc (Nat.le_refl _) _).alloc (by simp) _).drew⟩
/-- the document's Lists, of so many parts -/
theorem lists_bool (c : Nat) (hS : SamC 12 c) (hcm : c ≤ 1000) : ∀ (ks ls : List Ex) (v1 v2 : Value) (w : World) (F G : Nat → Prop), cntEs ks ≤ c → KdOn w F v1 ks → KdOn w G v2 ls →
    Calls Tryz.prog 26 #[v1, v2] w fun e w' => e = .returned (.bool (eqEs ks ls)) ∧ Below w.heap.size w w' := fun ks ls v1 v2 w F G hc h1 h2 => lists_of c hS ks ls v1 v2 w F G hc hcm h1 h2

set_option maxRecDepth 100000 in
set_option maxHeartbeats 8000000 in
theorem refSame_yes (c : Nat) (hS : SamC 12 c) (hcm : c ≤ 1000) (a b : Ex) (va vk ua uk : Value) (w : World) (F G : Nat → Prop) (hc : cntE a ≤ c + 1) (ha : ExOn w F a va vk) (hb : ExOn w G b ua uk)
    (e0 : a.op = b.op) (e1 : a.s = b.s) (e2 : a.tg = b.tg ∧ a.vl = b.vl) (e3 : a.abs = b.abs) (e4 : a.ss.length = b.ss.length) (e5 : eqEs a.ks b.ks = true) :
    Calls Tryz.prog 12 #[exV a va vk, exV b ua uk] w fun e w' => e = .returned (.bool (eqSs a.ss b.ss)) ∧ Below w.heap.size w w' := by
  obtain ⟨ha1, ha2⟩ := ExOn.iff.1 ha
  obtain ⟨hb1, hb2⟩ := ExOn.iff.1 hb
  obtain ⟨oa, ja, rfl⟩ := ha1.form
  obtain ⟨oc, jc, rfl⟩ := ha2.form
  obtain ⟨ob, jb, rfl⟩ := hb1.form
  obtain ⟨od, jd, rfl⟩ := hb2.form
  have hcd := cntE_def a
  have hcs := cntSs_len a.ss
  obtain ⟨w1, hw1⟩ : ∃ w1, w1 = (w.alloc (boxEx a (.slice oa a.ks.length ja) (.slice oc a.ss.length jc))).alloc (boxEx b (.slice ob b.ks.length jb) (.slice od b.ss.length jd)) := ⟨_, rfl⟩
  have b1 : Below w.heap.size w w1 := by rw [hw1]; exact ((Below.refl _ _).alloc (Nat.le_refl _) _).alloc (by simp) _
  have hq := lists_of c hS a.ks b.ks _ _ w1 F G (by omega) hcm (ha1.below b1) (hb1.below b1)
  rw [e5] at hq
  have s1 : w1.heap.size = w.heap.size + 2 := by rw [hw1]; simp
  have hcl : ∀ W, Below w1.heap.size w1 W → W.cell? ⟨w.heap.size, 5 + 1, none⟩ = some (.slice oc a.ss.length jc) ∧ W.cell? ⟨w.heap.size + 1, 5 + 1, none⟩ = some (.slice od b.ss.length jd) := fun W hW => by
    have h0 : w1.cell? ⟨w.heap.size, 6, none⟩ = some (.slice oc a.ss.length jc) := by rw [hw1]; unfold boxEx; go_simp
    have h1 : w1.cell? ⟨w.heap.size + 1, 6, none⟩ = some (.slice od b.ss.length jd) := by rw [hw1]; unfold boxEx; go_simp
    exact ⟨(hW.cell (p := ⟨w.heap.size, 6, none⟩) (by show w.heap.size < _; omega)).trans h0, (hW.cell (p := ⟨w.heap.size + 1, 6, none⟩) (by show w.heap.size + 1 < _; omega)).trans h1⟩
  simp only [Nat.reduceAdd] at hcl
  have ht := fun wx => ne_dec a.tg a.vl b.tg b.vl wx
  rw [decide_eq_true e2] at ht
  simp only [Bool.not_true] at ht
  have hg := fun x y wx => guard_dec .neq x y #[.int .i64 a.tg, .int .i64 a.vl] #[.int .i64 b.tg, .int .i64 b.vl] wx
  have k0 : (a.op != b.op) = false := by simp [e0]
  have k1 : ((bs a.s).toList == (bs b.s).toList) = true := by rw [e1, beq_iff_eq]
  have k4 : ((a.ss.length : Int) != (b.ss.length : Int)) = false := by simp [e4]
  have hat : ∀ W, Below w1.heap.size w1 W → SdOn W F (.slice oc a.ss.length jc) a.ss ∧ SdOn W G (.slice od b.ss.length jd) b.ss := fun W hW => ⟨ha2.below (b1.trans (hW.mono b1.size)), hb2.below (b1.trans (hW.mono b1.size))⟩
  have hcc : cntSs a.ss ≤ c := by omega
  have hlists := lists_bool c hS hcm
  unfold boxEx at hw1
  unfold exV
  rw [← e3] at hw1 ⊢
  have HQ := Lib.hid hq
  have HCL := Lib.hid hcl
  have HAT := Lib.hid hat
  have HB := Lib.hid b1
  have HW := Lib.hid hw1
  have HL := Lib.hid e4
  have HCC := Lib.hid hcc
  have HLI := Lib.hid hlists
  have hsl : a.ss.length ≤ 1000 := by omega
  clear hq hcl b1 hw1 ha hb ha1 ha2 hb1 hb2 hS hc hcd hcm e0 e1 e2 e3 e4 e5 hcs hat hcc hlists
  go_enter Tryz.func12, Tryz.ntmps12
  go_wp2_with fail
  rw [← HW.out]
  refine HQ.out.mono ?_
  rintro e w2 ⟨rfl, hb2⟩
  obtain ⟨c0, c1⟩ := HCL.out _ hb2
  have HB2 := Lib.hid hb2
  clear hb2 HQ HW
  go_wp2_with fail
  clear c0 c1
  go_loopw [5] (fun v wr => ∃ j : Nat, v = .int .i64 (j : Int) ∧ j ≤ a.ss.length ∧ Hid (Below w1.heap.size w1 wr ∧ eqSs a.ss b.ss = eqSs (a.ss.drop j) (b.ss.drop j))) (fun v _ => a.ss.length - (RowKit.intOf v).toNat)
  case atStart => exact ⟨0, rfl, Nat.zero_le _, Lib.hid ⟨HB2.out, by simp⟩⟩
  case round =>
    clear HB2
    obtain ⟨j, rfl, hj, HR⟩ := hrel
    obtain ⟨c0, c1⟩ := HCL.out _ HR.out.1
    by_cases hlt : j < a.ss.length
    · have hlt2 : j < b.ss.length := by have := HL.out; omega
      obtain ⟨hat1, hat2⟩ := HAT.out _ HR.out.1
      obtain ⟨g, off, va, rfl, hg1, hx1, hx2⟩ := hat1.read j hlt
      obtain ⟨g', off', ua, rfl, hg2, hy1, hy2⟩ := hat2.read j hlt2
      have heq := HR.out.2
      rw [eqSs_drop _ _ j hlt hlt2] at heq
      have hcn := cntSs_at a.ss j hlt
      have hcs := cntS_def a.ss[j]
      generalize a.ss[j] = p at *
      generalize b.ss[j] = q at *
      obtain ⟨a0, a1, a2, a3, a4⟩ := hx1.cells
      obtain ⟨b0, b1, b2, b3, b4⟩ := hy1.cells
      have hn1 := StOn.iff.1 hx2
      have hn2 := StOn.iff.1 hy2
      obtain ⟨op, jp, rfl⟩ := hn1.form
      obtain ⟨oq, jq, rfl⟩ := hn2.form
      have HE := Lib.hid heq
      have HBR := Lib.hid HR.out.1
      have HN1 := Lib.hid hn1
      have HN2 := Lib.hid hn2
      have hgl : g < wr.heap.size := cell_lt a0
      have hgl' : g' < wr.heap.size := cell_lt b0
      have hz0 : w.heap.size < wr.heap.size := cell_lt c0
      have hz1 : w.heap.size + 1 < wr.heap.size := cell_lt c1
      clear hx1 hx2 hy1 hy2 heq hat1 hat2 HR hn1 hn2
      go_upto_region 6 with fail
      go_cut [6, 7] (fun v6 v7 wx => ∃ b6 b7 : Nat, v6 = .pointer (some ⟨b6, 0, none⟩) ∧ v7 = .pointer (some ⟨b7, 0, none⟩) ∧ Hid (wx.heap[b6]? = some (boxSt p (.slice op p.ps.length jp)) ∧ wx.heap[b7]? = some (boxSt q (.slice oq q.ps.length jq)) ∧ Below wr.heap.size wr wx))
      case first =>
        go_region
        all_goals
          go_wp2_with fail
          go_meet
          first
            | exact ⟨_, _, rfl, rfl, Lib.hid (duo_st wr p q _ _)⟩
            | exact ⟨_, _, rfl, rfl, Lib.hid ⟨(duo_st wr q p _ _).2.1, (duo_st wr q p _ _).1, (duo_st wr q p _ _).2.2⟩⟩
      case rest =>
        clear c0 c1 a0 a1 a2 a3 a4 b0 b1 b2 b3 b4 hgl hgl' hz0 hz1
        obtain ⟨b6, b7, rfl, rfl, HD⟩ := hcut
        obtain ⟨⟨a0, a1, a2, a3, a4⟩, _⟩ := boxSt_blk HD.out.1
        obtain ⟨⟨b0, b1, b2, b3, b4⟩, _⟩ := boxSt_blk HD.out.2.1
        have HBW := Lib.hid (HBR.out.trans (HD.out.2.2.mono HBR.out.size))
        have HLQ := Lib.hid (HLI.out p.ps q.ps _ _ wc F G (by have := HCC.out; omega) (HN1.out.below HD.out.2.2) (HN2.out.below HD.out.2.2))
        clear HN1 HN2 HD HLI HBR HAT HCL
        have hdef := eqS_def p q
        have ht2 := fun wx => ne_tst p.tk q.tk p.nm q.nm p.has q.has wx
        have hg3 := fun x y wx => guard_tst .neq x y #[.int .i64 p.tk, .string (bs p.nm), .bool p.has] #[.int .i64 q.tk, .string (bs q.nm), .bool q.has] wx
        by_cases f0 : p.ax = q.ax
        · have k6 : (p.ax != q.ax) = false := by simp [f0]
          rw [decide_eq_true f0] at hdef
          clear f0
          by_cases f1 : p.tk = q.tk ∧ p.nm = q.nm ∧ p.has = q.has
          · rw [decide_eq_true f1] at hdef ht2
            clear f1
            simp only [Bool.not_true] at ht2
            obtain ⟨Q, hQ⟩ : ∃ Q, eqEs p.ps q.ps = Q := ⟨_, rfl⟩
            rw [hQ] at hdef HLQ
            clear hQ
            have HE2 := Lib.hid (HE.out.trans (by rw [hdef]))
            clear hdef HE
            cases Q with
            | true =>
              go_wp2_with fail
              refine HLQ.out.mono ?_
              rintro e w3 ⟨rfl, hb3⟩
              have HB3 := Lib.hid (HBW.out.trans (hb3.mono HBW.out.size))
              clear hb3 HBW HLQ
              go_wp2_with fail
              go_roundw
              case rel => exact ⟨j + 1, by go_num, by omega, Lib.hid ⟨HB3.out, by rw [HE2.out]; rfl⟩⟩
              case measure => simp [RowKit.intOf]; omega
            | false =>
              go_wp2_with fail
              refine HLQ.out.mono ?_
              rintro e w3 ⟨rfl, hb3⟩
              have HB3 := Lib.hid (HBW.out.trans (hb3.mono HBW.out.size))
              clear hb3 HBW HLQ
              go_wp2_with fail
              go_ret
              rw [HE2.out]
              exact ⟨rfl, HB.out.trans (HB3.out.mono (by omega))⟩
          · rw [decide_eq_false f1] at hdef ht2
            clear f1
            simp only [Bool.not_false] at ht2
            have HE2 := Lib.hid (HE.out.trans (by rw [hdef]))
            clear hdef HE
            go_wp2_with fail
            go_ret
            rw [HE2.out]
            exact ⟨rfl, HB.out.trans (HBW.out.mono (by omega))⟩
        · have k6 : (p.ax != q.ax) = true := by simp [f0]
          rw [decide_eq_false f0] at hdef
          clear f0
          have HE2 := Lib.hid (HE.out.trans (by rw [hdef]))
          clear hdef HE
          go_wp2_with fail
          go_ret
          rw [HE2.out]
          exact ⟨rfl, HB.out.trans (HBW.out.mono (by omega))⟩
    · have e : j = a.ss.length := by omega
      subst e
      have heq := HR.out.2
      rw [eqSs_end _ _ HL.out] at heq
      have HE := Lib.hid heq
      have HF := Lib.hid HR.out.1
      clear heq HR
      go_wp2_with fail
      go_ret
      rw [HE.out]
      exact ⟨rfl, HB.out.trans (HF.out.mono (by omega))⟩
end Go.Proofs.YtapljbdklhnfkaaGreatDoor.Char

/- The document's own Same: all its ways. -/
namespace Go.Proofs.YtapljbdklhnfkaaGreatDoor.Char
open Go.RowKit Go.Lib

set_option maxRecDepth 100000 in
set_option maxHeartbeats 8000000 in
theorem refSame_of (c : Nat) (hS : SamC 12 c) (hcm : c ≤ 1000) : SamC 12 (c + 1) := by
  intro a b va vk ua uk w F G hc ha hb
  by_cases hall : a.op = b.op ∧ a.s = b.s ∧ (a.tg = b.tg ∧ a.vl = b.vl) ∧ a.abs = b.abs ∧ a.ss.length = b.ss.length ∧ eqEs a.ks b.ks = true
  · obtain ⟨e0, e1, e2, e3, e4, e5⟩ := hall
    have hdef : eqE a b = eqSs a.ss b.ss := by rw [eqE_def, decide_eq_true e0, decide_eq_true e1, decide_eq_true e2, decide_eq_true e3, e5]; rfl
    rw [hdef]
    exact refSame_yes c hS hcm a b va vk ua uk w F G hc ha hb e0 e1 e2 e3 e4 e5
  obtain ⟨ha1, ha2⟩ := ExOn.iff.1 ha
  obtain ⟨hb1, hb2⟩ := ExOn.iff.1 hb
  obtain ⟨oa, ja, rfl⟩ := ha1.form
  obtain ⟨oc, jc, rfl⟩ := ha2.form
  obtain ⟨ob, jb, rfl⟩ := hb1.form
  obtain ⟨od, jd, rfl⟩ := hb2.form
  have hcd := cntE_def a
  have hdef : eqE a b = false := by
    rw [eqE_def]
    by_cases e0 : a.op = b.op
    · by_cases e1 : a.s = b.s
      · by_cases e2 : a.tg = b.tg ∧ a.vl = b.vl
        · by_cases e3 : a.abs = b.abs
          · by_cases e4 : a.ss.length = b.ss.length
            · cases e5 : eqEs a.ks b.ks with
              | true => exact absurd ⟨e0, e1, e2, e3, e4, e5⟩ hall
              | false => rw [Bool.false_and, Bool.and_false]
            · rw [eqSs_len _ _ e4, Bool.and_false, Bool.and_false]
          · rw [decide_eq_false e3, Bool.and_false, Bool.false_and]
        · rw [decide_eq_false e2, Bool.and_false, Bool.false_and, Bool.false_and]
      · rw [decide_eq_false e1, Bool.and_false, Bool.false_and, Bool.false_and, Bool.false_and]
    · rw [decide_eq_false e0, Bool.false_and, Bool.false_and, Bool.false_and, Bool.false_and]
  rw [hdef]
  clear hdef
  obtain ⟨w1, hw1⟩ : ∃ w1, w1 = (w.alloc (boxEx a (.slice oa a.ks.length ja) (.slice oc a.ss.length jc))).alloc (boxEx b (.slice ob b.ks.length jb) (.slice od b.ss.length jd)) := ⟨_, rfl⟩
  have b1 : Below w.heap.size w w1 := by rw [hw1]; exact ((Below.refl _ _).alloc (Nat.le_refl _) _).alloc (by simp) _
  have hq := lists_of c hS a.ks b.ks _ _ w1 F G (by omega) hcm (ha1.below b1) (hb1.below b1)
  have ht := fun wx => ne_dec a.tg a.vl b.tg b.vl wx
  have hg := fun x y wx => guard_dec .neq x y #[.int .i64 a.tg, .int .i64 a.vl] #[.int .i64 b.tg, .int .i64 b.vl] wx
  unfold boxEx at hw1
  unfold exV
  have HB := Lib.hid b1
  clear b1 ha hb ha1 ha2 hb1 hb2 hS hc hcd hcm
  by_cases e0 : a.op = b.op
  · have k0 : (a.op != b.op) = false := by simp [e0]
    by_cases e1 : a.s = b.s
    · have k1 : ((bs a.s).toList == (bs b.s).toList) = true := by rw [e1, beq_iff_eq]
      by_cases e2 : a.tg = b.tg ∧ a.vl = b.vl
      · rw [decide_eq_true e2] at ht
        simp only [Bool.not_true] at ht
        by_cases e3 : a.abs = b.abs
        · rw [← e3] at hw1 ⊢
          by_cases e4 : a.ss.length = b.ss.length
          · have k4 : ((a.ss.length : Int) != (b.ss.length : Int)) = false := by simp [e4]
            have e5 : eqEs a.ks b.ks = false := by
              cases e5 : eqEs a.ks b.ks with
              | true => exact absurd ⟨e0, e1, e2, e3, e4, e5⟩ hall
              | false => rfl
            rw [e5] at hq
            have HQ := Lib.hid hq
            have HW := Lib.hid hw1
            clear hall e0 e1 e2 e3 e4 e5 hq hw1
            go_enter Tryz.func12, Tryz.ntmps12
            go_wp2_with fail
            rw [← HW.out]
            refine HQ.out.mono ?_
            rintro e w2 ⟨rfl, hb2⟩
            go_wp2_with fail
            go_ret
            exact ⟨rfl, HB.out.trans (hb2.mono HB.out.size)⟩
          · have k4 : ((a.ss.length : Int) != (b.ss.length : Int)) = true := by rw [bne_iff_ne]; omega
            have HW := Lib.hid hw1
            clear hall e0 e1 e2 e3 e4 hq hw1
            go_enter Tryz.func12, Tryz.ntmps12
            go_wp2_with fail
            rw [← HW.out]
            go_ret
            exact ⟨rfl, HB.out⟩
        · clear hall e0 e1 e2 hq
          generalize a.abs = p at *
          generalize b.abs = q at *
          cases p <;> cases q
          · exact absurd rfl e3
          · have HW := Lib.hid hw1
            clear e3 hw1
            go_enter Tryz.func12, Tryz.ntmps12
            go_wp2_with fail
            rw [← HW.out]
            go_ret
            exact ⟨rfl, HB.out⟩
          · have HW := Lib.hid hw1
            clear e3 hw1
            go_enter Tryz.func12, Tryz.ntmps12
            go_wp2_with fail
            rw [← HW.out]
            go_ret
            exact ⟨rfl, HB.out⟩
          · exact absurd rfl e3
      · rw [decide_eq_false e2] at ht
        simp only [Bool.not_false] at ht
        have HW := Lib.hid hw1
        clear hall e0 e1 e2 hq hw1
        go_enter Tryz.func12, Tryz.ntmps12
        go_wp2_with fail
        rw [← HW.out]
        go_ret
        exact ⟨rfl, HB.out⟩
    · have k1 : ((bs a.s).toList == (bs b.s).toList) = false := by rw [bs_tl, bs_tl, beq_eq_false_iff_ne]; exact e1
      have HW := Lib.hid hw1
      clear hall e0 e1 hq hw1
      go_enter Tryz.func12, Tryz.ntmps12
      go_wp2_with fail
      rw [← HW.out]
      go_ret
      exact ⟨rfl, HB.out⟩
  · have k0 : (a.op != b.op) = true := by simp [e0]
    have HW := Lib.hid hw1
    clear hall e0 hq hw1
    go_enter Tryz.func12, Tryz.ntmps12
    go_wp2_with fail
    rw [← HW.out]
    go_ret
    exact ⟨rfl, HB.out⟩
theorem refSameE_any : ∀ c, c ≤ 1001 → SamC 12 c
  | 0, _ => fun a _ _ _ _ _ _ _ _ hc => by have := cntE_pos a; omega
  | c + 1, h => refSame_of c (refSameE_any c (by omega)) (by omega)
end Go.Proofs.YtapljbdklhnfkaaGreatDoor.Char

/- The walks of the statements' own few and Few, on expressions. -/
namespace Go.Proofs.YtapljbdklhnfkaaGreatDoor.Char
open Go.RowKit Go.Lib

/-- a counter in a box -/
def Ctr (L : Nat) (l : Int) (w : World) : Prop := w.cell? ⟨L, 0, none⟩ = some (.int .i64 l) ∧ w.frozen? ⟨L, 0, none⟩ = false
theorem Ctr.set {L : Nat} {l : Int} {w : World} (h : Ctr L l w) (m : Int) : Ctr L m (w.setCell ⟨L, 0, none⟩ (.int .i64 m)) :=
  ⟨World.cell?_setCell_same' _ _ _ (by rw [h.1]; rfl), by rw [World.frozen?_setCell]; exact h.2⟩
theorem Ctr.box {L : Nat} {l : Int} {w : World} (h : Ctr L l w) (o : Obj) : Ctr L l (w.alloc o) := by
  have := cell_lt h.1
  exact ⟨by rw [World.cell?_alloc_past _ _ _ (by omega)]; exact h.1, by rw [World.frozen?_alloc_past _ _ _ (by omega)]; exact h.2⟩
theorem ExOn.butL {L : Nat} {w w' : World} {x : Ex} {vk vs : Value} (h : ExOn w (· ≠ L) x vk vs) (hb : But L w w') : ExOn w' (· ≠ L) x vk vs :=
  ExOn.move (fun b hb0 hF => ⟨hF, hb.2 b hb0 hF⟩) x vk vs h
theorem KdOn.butL {L : Nat} {w w' : World} {v : Value} {ks : List Ex} (h : KdOn w (· ≠ L) v ks) (hb : But L w w') : KdOn w' (· ≠ L) v ks :=
  KdOn.move (fun b hb0 hF => ⟨hF, hb.2 b hb0 hF⟩) h
theorem SdOn.butL {L : Nat} {w w' : World} {v : Value} {ks : List St} (h : SdOn w (· ≠ L) v ks) (hb : But L w w') : SdOn w' (· ≠ L) v ks :=
  SdOn.move (fun b hb0 hF => ⟨hF, hb.2 b hb0 hF⟩) h
theorem Ctr.but {L M : Nat} {l : Int} {w w' : World} (h : Ctr L l w) (hb : But M w w') (hn : L ≠ M) : Ctr L l w' := by
  have hk := hb.2 L (cell_lt h.1) hn
  exact ⟨(World.cell?_of_block (a := ⟨L, 0, none⟩) hk).trans h.1, (World.frozen?_of_block (a := ⟨L, 0, none⟩) hk).trans h.2⟩
theorem fewEs_cons (k : Ex) (r : List Ex) (d : Nat) (l : Int) : fewEs (k :: r) d l = (fewE k d l).bind (fewEs r d) := by rw [fewEs]
theorem fewSs_cons (k : St) (r : List St) (d : Nat) (l : Int) : fewSs (k :: r) d l = (fewEs k.ps d (l - 1)).bind (fewSs r d) := by rw [fewSs, fewS_def]
theorem fewEs_nil (d : Nat) (l : Int) : fewEs [] d l = some l := by rw [fewEs]
theorem fewSs_nil (d : Nat) (l : Int) : fewSs [] d l = some l := by rw [fewSs]
/-- what few leaves -/
def FewP (L : Nat) (w : World) (R : Option Int) (e : Ending) (w' : World) : Prop := e = .returned (.bool R.isSome) ∧ But L w w' ∧ ∀ l', R = some l' → Ctr L l' w'
/-- few, of expressions of one depth -/
def FewC (L d : Nat) : Prop := ∀ (x : Ex) (vk vs : Value) (w : World) (l : Int), ExOn w (· ≠ L) x vk vs → wfE (2 ^ 47) x → Ctr L l w → -140737488355328 ≤ l → l ≤ 1000 →
    Calls Tryz.prog 27 #[exV x vk vs, .int .i64 (d : Int), .pointer (some ⟨L, 0, none⟩)] w (FewP L w (fewE x d l))

set_option maxRecDepth 100000 in
set_option maxHeartbeats 4000000 in
theorem few13_no (L d : Nat) (x : Ex) (vk vs : Value) (w : World) (l : Int) (hc : Ctr L l w) (hl : -140737488355328 ≤ l) (hl2 : l ≤ 1000) (h : d = 0 ∨ l ≤ 0) :
    Calls Tryz.prog 27 #[exV x vk vs, .int .i64 (d : Int), .pointer (some ⟨L, 0, none⟩)] w (FewP L w none) := by
  have hLl : L < w.heap.size := cell_lt hc.1
  obtain ⟨c0, c1⟩ := hc
  have c2 : (w.setCell ⟨L, 0, none⟩ (.int .i64 (l - 1))).cell? ⟨L, 0, none⟩ = some (.int .i64 (l - 1)) := (Ctr.set ⟨c0, c1⟩ (l - 1)).1
  have hfin : But L w ((w.setCell ⟨L, 0, none⟩ (.int .i64 (l - 1))).alloc (boxEx x vk vs)) := (But.set _ _ _ _).trans (But.of (below_box _) (by simpa using hLl))
  unfold boxEx at hfin
  have HF := Lib.hid hfin
  clear hfin c2
  unfold exV
  by_cases hd : d = 0
  · subst hd
    go_enter Tryz.func27, Tryz.ntmps27
    go_wp2_with fail
    go_ret
    exact ⟨rfl, HF.out, fun _ h => by cases h⟩
  · have k1 : ((d : Int) == 0) = false := by rw [beq_eq_false_iff_ne]; omega
    have k2 : decide (l - 1 < 0) = true := decide_eq_true (by omega)
    go_enter Tryz.func27, Tryz.ntmps27
    go_wp2_with fail
    go_ret
    exact ⟨rfl, HF.out, fun _ h => by cases h⟩

set_option maxRecDepth 100000 in
set_option maxHeartbeats 8000000 in
theorem few13_go (L d : Nat) (ih : FewC L d) (hd : d ≤ 200) (x : Ex) (vk vs : Value) (w : World) (l : Int) (hx : ExOn w (· ≠ L) x vk vs) (hw : wfE (2 ^ 47) x) (hc : Ctr L l w) (hl : 0 < l) (hl2 : l ≤ 1000) :
    Calls Tryz.prog 27 #[exV x vk vs, .int .i64 ((d + 1 : Nat) : Int), .pointer (some ⟨L, 0, none⟩)] w (FewP L w (fewE x (d + 1) l)) := by
  have hLl : L < w.heap.size := cell_lt hc.1
  rw [fewE_go (by omega), Nat.add_sub_cancel]
  obtain ⟨X, hX⟩ : ∃ X, ((fewEs x.ks d (l - 1)).bind fun l1 => (fewSs x.ss d l1).bind fun l2 => if 0 ≤ l2 then some l2 else none) = X := ⟨_, rfl⟩
  rw [hX]
  have HX := Lib.hid hX
  clear hX
  obtain ⟨hk, hs⟩ := ExOn.iff.1 hx
  obtain ⟨ok, jk, rfl⟩ := hk.form
  obtain ⟨os, js, rfl⟩ := hs.form
  obtain ⟨⟨_, _, _, _, hkl, hsl⟩, hwk, hws⟩ := (wfE_def _ _).1 hw
  have c0 := hc.1
  have c1 := hc.2
  obtain ⟨w1, hw1⟩ : ∃ w1, w1 = (w.setCell ⟨L, 0, none⟩ (.int .i64 (l - 1))).alloc (boxEx x (.slice ok x.ks.length jk) (.slice os x.ss.length js)) := ⟨_, rfl⟩
  have hb1 : But L w w1 := by rw [hw1]; exact (But.set _ _ _ _).trans (But.of (below_box _) (by simpa using hLl))
  have hc1 : Ctr L (l - 1) w1 := by rw [hw1]; exact (hc.set _).box _
  have hbk : w1.heap[w.heap.size]? = some (boxEx x (.slice ok x.ks.length jk) (.slice os x.ss.length js)) := by
    rw [hw1]
    simpa using World.alloc_heap_new (w.setCell ⟨L, 0, none⟩ (.int .i64 (l - 1))) (boxEx x (.slice ok x.ks.length jk) (.slice os x.ss.length js))
  have hs1 : w1.heap.size = w.heap.size + 1 := by rw [hw1]; simp
  have hcl : ∀ W, But L w1 W → W.cell? ⟨w.heap.size, 5, none⟩ = some (.slice ok x.ks.length jk) ∧ W.cell? ⟨w.heap.size, 6, none⟩ = some (.slice os x.ss.length js) := fun W hW => by
    have h := (hW.2 w.heap.size (by omega) (by omega)).trans hbk
    obtain ⟨⟨_, _, _, _, _, a5, a6⟩, _⟩ := boxEx_blk h
    exact ⟨a5, a6⟩
  have hkd : ∀ W, But L w1 W → KdOn W (· ≠ L) (.slice ok x.ks.length jk) x.ks := fun W hW => hk.butL (hb1.trans hW)
  have hsd : ∀ W, But L w1 W → SdOn W (· ≠ L) (.slice os x.ss.length js) x.ss := fun W hW => hs.butL (hb1.trans hW)
  have HCL := Lib.hid hcl
  have HB1 := Lib.hid hb1
  have HKD := Lib.hid hkd
  have HSD := Lib.hid hsd
  have HIH := Lib.hid ih
  have HWK := Lib.hid hwk
  have HWS := Lib.hid hws
  have HC1 := Lib.hid hc1
  have k1 : (((d : Int) + 1) == 0) = false := by rw [beq_eq_false_iff_ne]; omega
  have k2 : decide (l - 1 < 0) = false := decide_eq_false (by omega)
  unfold boxEx at hw1
  have HW1 := Lib.hid hw1
  clear hx hw hc hk hs hb1 hc1 hbk hs1 hcl hkd hsd ih hwk hws hw1
  unfold exV
  push_cast
  go_enter Tryz.func27, Tryz.ntmps27
  go_wp2_with fail
  rw [← HW1.out]
  clear HW1
  go_loopw [7] (fun v wr => ∃ (j : Nat) (m : Int), v = .int .i64 (j : Int) ∧ j ≤ x.ks.length ∧ 0 ≤ m ∧ m ≤ 1000 ∧ Hid (Ctr L m wr ∧ But L w1 wr ∧ fewEs (x.ks.drop j) d m = fewEs x.ks d (l - 1))) (fun v _ => x.ks.length - (RowKit.intOf v).toNat)
  case atStart => exact ⟨0, l - 1, rfl, Nat.zero_le _, by omega, by omega, Lib.hid ⟨HC1.out, But.refl _ _, rfl⟩⟩
  case round =>
    obtain ⟨j, m, rfl, hj, hm, hm2, HR⟩ := hrel
    clear HC1
    obtain ⟨q5, q6⟩ := HCL.out _ HR.out.2.1
    obtain ⟨c0, c1⟩ := HR.out.1
    by_cases hlt : j < x.ks.length
    · obtain ⟨g, off, va, vk, rfl, hg, hat, hon⟩ := (HKD.out _ HR.out.2.1).read j hlt
      have hcc := HIH.out x.ks[j] va vk wr m hon (wfEs_at HWK.out j hlt) HR.out.1 (by omega) hm2
      have heq := HR.out.2.2
      rw [List.drop_eq_getElem_cons hlt, fewEs_cons] at heq
      have hcnt := fewE_cnt x.ks[j] d m
      generalize x.ks[j] = kid at *
      obtain ⟨a0, a1, a2, a3, a4, a5, a6⟩ := hat.cells
      obtain ⟨hn1, hn2⟩ := ExOn.iff.1 hon
      obtain ⟨oa', ja', rfl⟩ := hn1.form
      obtain ⟨ok', jk', rfl⟩ := hn2.form
      unfold exV at hcc
      have HB := Lib.hid HR.out.2.1
      have HC2 := Lib.hid hcc
      have HEQ := Lib.hid heq
      have HCN := Lib.hid hcnt
      clear hcc hon hat heq hcnt hn1 hn2 HR
      cases hr : fewE kid d m with
      | none =>
        have HRR := Lib.hid hr
        clear hr
        go_wp2_with fail
        refine HC2.out.mono ?_
        rintro e w2 ⟨rfl, hk2, _⟩
        rw [HRR.out]
        go_wp2_with fail
        go_ret
        have heq := HEQ.out
        rw [HRR.out] at heq
        have hx0 : X = none := by rw [← HX.out, ← heq]; rfl
        rw [hx0]
        exact ⟨rfl, HB1.out.trans (HB.out.trans hk2), fun _ h => by cases h⟩
      | some m2 =>
        have HRR := Lib.hid hr
        have hm3 := HCN.out m2 hr
        clear hr
        go_wp2_with fail
        refine HC2.out.mono ?_
        rintro e w2 ⟨rfl, hk2, hm4⟩
        have HF := Lib.hid (show Ctr L m2 w2 ∧ But L w1 w2 from ⟨hm4 m2 HRR.out, HB.out.trans hk2⟩)
        clear hm4 hk2
        rw [HRR.out]
        go_wp2_with fail
        go_roundw
        case rel => exact ⟨j + 1, m2, by go_num, by omega, hm3.2, by omega, Lib.hid ⟨HF.out.1, HF.out.2, by have heq := HEQ.out; rw [HRR.out] at heq; exact heq⟩⟩
        case measure => simp [RowKit.intOf]; omega
    · have e : j = x.ks.length := by omega
      subst e
      have heq := HR.out.2.2
      rw [List.drop_length, fewEs_nil] at heq
      have HX2 := Lib.hid (show ((fewSs x.ss d m).bind fun l2 => if 0 ≤ l2 then some l2 else none) = X by rw [← HX.out, ← heq]; rfl)
      clear HX
      have HB := Lib.hid HR.out.2.1
      have HCT := Lib.hid HR.out.1
      clear heq HR
      go_wp2_with fail
      go_loopw [8] (fun v wr => ∃ (j : Nat) (n : Int), v = .int .i64 (j : Int) ∧ j ≤ x.ss.length ∧ -(j : Int) ≤ n ∧ n ≤ 1000 ∧ Hid (Ctr L n wr ∧ But L w1 wr ∧ fewSs (x.ss.drop j) d n = fewSs x.ss d m)) (fun v _ => x.ss.length - (RowKit.intOf v).toNat)
      case atStart => exact ⟨0, m, rfl, Nat.zero_le _, by omega, by omega, Lib.hid ⟨HCT.out, HB.out, rfl⟩⟩
      case round =>
        clear HCT HB c0 c1 q5 q6 hm hm2
        obtain ⟨j, n, rfl, hj, hn, hn2, HR⟩ := hrel
        obtain ⟨W3, rfl⟩ : ∃ W3, W3 = wr := ⟨_, rfl⟩
        obtain ⟨q5, q6⟩ := HCL.out _ HR.out.2.1
        obtain ⟨c0, c1⟩ := HR.out.1
        by_cases hlt : j < x.ss.length
        · obtain ⟨g, off, vp, rfl, hg, hat, hon⟩ := (HSD.out _ HR.out.2.1).read j hlt
          have heq := HR.out.2.2
          rw [List.drop_eq_getElem_cons hlt, fewSs_cons] at heq
          have HWP := Lib.hid ((wfS_def _ _).1 (wfSs_at HWS.out j hlt))
          have hps := StOn.iff.1 hon
          have hat2 : ∀ W, But L W3 W → StAt W g (off + j * 5) x.ss[j] vp := fun W hW => hat.move (hW.2 g hat.lt hg)
          have hps2 : ∀ W, But L W3 W → KdOn W (· ≠ L) vp x.ss[j].ps := fun W hW => hps.butL hW
          generalize x.ss[j] = st at *
          obtain ⟨op, jp, rfl⟩ := hps.form
          have HEQ := Lib.hid heq
          have HAT := Lib.hid hat2
          have HPS := Lib.hid hps2
          have HB0 := Lib.hid HR.out.2.1
          have HC0 := Lib.hid HR.out.1
          clear heq hat hon hps hat2 hps2 HR
          go_wp2_with fail
          go_loopw [9] (fun v wx => ∃ (i : Nat) (m' : Int), v = .int .i64 (i : Int) ∧ i ≤ st.ps.length ∧ -(j : Int) - 1 ≤ m' ∧ m' ≤ 1000 ∧ Hid (Ctr L m' wx ∧ But L W3 wx ∧ fewEs (st.ps.drop i) d m' = fewEs st.ps d (n - 1))) (fun v _ => st.ps.length - (RowKit.intOf v).toNat)
          case atStart => exact ⟨0, n - 1, rfl, Nat.zero_le _, by omega, by omega, Lib.hid ⟨HC0.out.set _, But.set _ _ _ _, rfl⟩⟩
          case round =>
            clear c0 c1 q5 q6
            obtain ⟨i, m', rfl, hi, hm', hm2', HR⟩ := hrel
            obtain ⟨q5, q6⟩ := HCL.out _ (HB0.out.trans HR.out.2.1)
            obtain ⟨c0, c1⟩ := HR.out.1
            obtain ⟨b0, b1, b2, b3, b4⟩ := (HAT.out _ HR.out.2.1).cells
            have hl46 : st.ps.length ≤ 2 ^ 47 := HWP.out.1.2.2.2
            by_cases hlt2 : i < st.ps.length
            · obtain ⟨g', off', va, vk, rfl, hg', hat', hon'⟩ := (HPS.out _ HR.out.2.1).read i hlt2
              have hcc := HIH.out st.ps[i] va vk wr m' hon' (wfEs_at HWP.out.2 i hlt2) HR.out.1 (by omega) hm2'
              have heq := HR.out.2.2
              rw [List.drop_eq_getElem_cons hlt2, fewEs_cons] at heq
              have hcnt := fewE_cnt st.ps[i] d m'
              generalize st.ps[i] = kid at *
              obtain ⟨a0, a1, a2, a3, a4, a5, a6⟩ := hat'.cells
              obtain ⟨hn1, hn2⟩ := ExOn.iff.1 hon'
              obtain ⟨oa', ja', rfl⟩ := hn1.form
              obtain ⟨ok', jk', rfl⟩ := hn2.form
              unfold exV at hcc
              have HB := Lib.hid HR.out.2.1
              have HC2 := Lib.hid hcc
              have HEQ2 := Lib.hid heq
              have HCN := Lib.hid hcnt
              clear hcc hon' hat' heq hcnt hn1 hn2 HR
              cases hr : fewE kid d m' with
              | none =>
                have HRR := Lib.hid hr
                clear hr
                go_wp2_with fail
                refine HC2.out.mono ?_
                rintro e w2 ⟨rfl, hk2, _⟩
                rw [HRR.out]
                go_wp2_with fail
                go_ret
                have heq := HEQ2.out
                rw [HRR.out] at heq
                have h2 := HEQ.out
                rw [← heq] at h2
                have hx0 : X = none := by rw [← HX2.out, ← h2]; rfl
                rw [hx0]
                exact ⟨rfl, HB1.out.trans (HB0.out.trans (HB.out.trans hk2)), fun _ h => by cases h⟩
              | some m2 =>
                have HRR := Lib.hid hr
                have hm3 := HCN.out m2 hr
                clear hr
                go_wp2_with fail
                refine HC2.out.mono ?_
                rintro e w2 ⟨rfl, hk2, hm4⟩
                have HF := Lib.hid (show Ctr L m2 w2 ∧ But L W3 w2 from ⟨hm4 m2 HRR.out, HB.out.trans hk2⟩)
                clear hm4 hk2
                rw [HRR.out]
                go_wp2_with fail
                go_roundw
                case rel => exact ⟨i + 1, m2, by go_num, by omega, by omega, by omega, Lib.hid ⟨HF.out.1, HF.out.2, by have heq := HEQ2.out; rw [HRR.out] at heq; exact heq⟩⟩
                case measure => simp [RowKit.intOf]; omega
            · have e : i = st.ps.length := by omega
              subst e
              have heq := HR.out.2.2
              rw [List.drop_length, fewEs_nil] at heq
              have h2 := HEQ.out
              rw [← heq] at h2
              have HEQ3 := Lib.hid h2
              have HF := Lib.hid (show Ctr L m' wr ∧ But L w1 wr from ⟨HR.out.1, HB0.out.trans HR.out.2.1⟩)
              clear heq h2 HEQ HR
              go_wp2_with fail
              go_roundw
              case rel => exact ⟨j + 1, m', by go_num, by omega, by omega, by omega, Lib.hid ⟨HF.out.1, HF.out.2, HEQ3.out⟩⟩
              case measure => simp [RowKit.intOf]; omega
        · have e : j = x.ss.length := by omega
          subst e
          have heq := HR.out.2.2
          rw [List.drop_length, fewSs_nil] at heq
          have HX3 := Lib.hid (show (if 0 ≤ n then some n else none) = X by rw [← HX2.out, ← heq]; rfl)
          clear HX2
          have HB := Lib.hid HR.out.2.1
          have HCT := Lib.hid HR.out.1
          clear heq HR
          by_cases h0 : 0 ≤ n
          · have k3 : decide (0 ≤ n) = true := decide_eq_true h0
            go_wp2_with fail
            go_ret
            have hx0 : X = some n := by rw [← HX3.out, if_pos h0]
            rw [hx0]
            exact ⟨rfl, HB1.out.trans HB.out, fun _ h => by cases h; exact HCT.out⟩
          · have k3 : decide (0 ≤ n) = false := decide_eq_false h0
            go_wp2_with fail
            go_ret
            have hx0 : X = none := by rw [← HX3.out, if_neg (by omega)]
            rw [hx0]
            exact ⟨rfl, HB1.out.trans HB.out, fun _ h => by cases h⟩
theorem few13_any (L : Nat) : ∀ d, d ≤ 200 → FewC L d
  | 0, _ => fun x vk vs w l _ _ hc hl hl2 => by
    rw [fewE_no (.inl rfl)]
    exact few13_no L 0 x vk vs w l hc hl hl2 (.inl rfl)
  | d + 1, h => fun x vk vs w l hx hw hc hl hl2 => by
    by_cases h0 : l ≤ 0
    · rw [fewE_no (.inr h0)]
      exact few13_no L (d + 1) x vk vs w l hc hl hl2 (.inr h0)
    · exact few13_go L d (few13_any L d (by omega)) (by omega) x vk vs w l hx hw hc (by omega) hl2
set_option maxRecDepth 100000 in
set_option maxHeartbeats 4000000 in
theorem fewF_any (x : Ex) (vk vs : Value) (w : World) (hx : ExOn w (· < w.heap.size) x vk vs) (hw : wfE (2 ^ 47) x) :
    Calls Tryz.prog 13 #[exV x vk vs] w fun e w' => e = .returned (.bool (fewB x)) ∧ Below w.heap.size w w' := by
  obtain ⟨hk, hs⟩ := ExOn.iff.1 hx
  obtain ⟨ok, jk, rfl⟩ := hk.form
  obtain ⟨os, js, rfl⟩ := hs.form
  obtain ⟨w1, hw1⟩ : ∃ w1, w1 = (w.alloc (boxEx x (.slice ok x.ks.length jk) (.slice os x.ss.length js))).alloc (.cells #[.int .i64 1000] 3) := ⟨_, rfl⟩
  have hb1 : Below w.heap.size w w1 := by rw [hw1]; exact ((Below.refl _ _).alloc (Nat.le_refl _) _).alloc (by simp) _
  have hs1 : w1.heap.size = w.heap.size + 2 := by rw [hw1]; simp
  have hc1 : Ctr (w.heap.size + 1) 1000 w1 := by rw [hw1]; exact ⟨by go_simp, by go_simp⟩
  have hon : ExOn w1 (· ≠ w.heap.size + 1) x (.slice ok x.ks.length jk) (.slice os x.ss.length js) := ExOn.move (fun b hb hF => ⟨by omega, hb1.block b hb⟩) _ _ _ hx
  have h := few13_any (w.heap.size + 1) 200 (by omega) x _ _ w1 1000 hon hw hc1 (by omega) (by omega)
  unfold exV at h ⊢
  unfold boxEx at hw1
  have H := Lib.hid h
  have HB := Lib.hid hb1
  have HW := Lib.hid hw1
  clear h hx hw hk hs hb1 hs1 hc1 hon
  unfold fewB
  go_enter Tryz.func13, Tryz.ntmps13
  go_wp2_with fail
  rw [← HW.out]
  refine H.out.mono ?_
  rintro e w2 ⟨rfl, hk2, _⟩
  clear H HW hw1
  go_wp2_with fail
  go_ret
  exact ⟨rfl, HB.out.trans (hk2.1.mono (by omega))⟩
end Go.Proofs.YtapljbdklhnfkaaGreatDoor.Char

/- The parser's next; atPrimary, atStep; anyNode. -/
namespace Go.Proofs.YtapljbdklhnfkaaGreatDoor.Char
open Go.RowKit Go.Lib
open Go.Proofs.YtapljbdklhnfkaaGreatDoor.Fig (outT outV)

set_option maxHeartbeats 4000000 in
theorem next_ok (R : Nat) (x : Wd) (r : List Wd) (w : World) (h : LfB R (x :: r) w) : Calls Tryz.prog 212 #[.pointer (some ⟨R, 0, none⟩)] w (TkP R (wdV x) r w) := by
  have hlt := h.lt
  obtain ⟨g, off, c, h1, h2, ⟨x0, x1, x2, x3⟩, o', hs, h3⟩ := h.cons
  have hg := cell_lt x0
  dsimp only at hg
  unfold TkP wdV
  have hpos : ((r.length + 1 : Nat) : Int) ≠ 0 := by omega
  have hpos2 : (0 : Int) < ((r.length + 1 : Nat) : Int) := by omega
  have k0 : (((r.length + 1 : Nat) : Int) == 0) = false := by rw [beq_eq_false_iff_ne]; exact hpos
  have H3 := Lib.hid h3
  clear h h3
  generalize r.length + 1 = n at *
  generalize (x.k : Int) = c0 at *
  generalize bs x.s = c1 at *
  generalize outT x.n = c2 at *
  generalize outV x.n = c3 at *
  go_enter Tryz.func212, Tryz.ntmps212
  go_wp2_with fail
  refine endCWd Tryz.results212 w.heap.size ?_ rfl rfl ⟨rfl, (H3.out.box _).box _, ((But.set R 0 w _).box hlt _).box hlt _⟩
  simpa using heap_box2 (w.setCell ⟨R, 0, none⟩ (.slice o' r.length (c - 1))) _ _
def nextL (ts : List Wd) : Option (Wd × List Wd) := match ts with
  | [] => none
  | x :: r => some (x, r)

/-- does a Primary, or a Step, begin here -/
def priL (ts : List Wd) : Bool := atL 10 ts || atL 8 ts || atL 9 ts || atL 6 ts || aheadL 1 [40] ts
def stpL (ts : List Wd) : Bool := atL 2 ts || atL 3 ts || atL 4 ts || atL 7 ts || aheadL 1 [46] ts || aheadL 1 [46, 46] ts || aheadL 1 [64] ts
set_option maxHeartbeats 4000000 in
theorem atPrimary_any (R : Nat) (ts : List Wd) (w : World) (h : LfB R ts w) : Calls Tryz.prog 181 #[.pointer (some ⟨R, 0, none⟩)] w fun e w' => e = .returned (.bool (priL ts)) ∧ w' = w := by
  have A0 := Lib.hid (at_any R 10 ts w h)
  have A1 := Lib.hid (at_any R 8 ts w h)
  have A2 := Lib.hid (at_any R 9 ts w h)
  have A3 := Lib.hid (at_any R 6 ts w h)
  have a4 : Calls Tryz.prog 180 #[.pointer (some ⟨R, 0, none⟩), .int .i64 1, .string ⟨#[40]⟩] w (fun e w' => e = .returned (.bool (aheadL 1 [40] ts)) ∧ w' = w) := ahead_any R 1 [40] ts w h
  have A4 := Lib.hid a4
  clear a4
  unfold priL
  generalize atL 10 ts = b0 at *
  generalize atL 8 ts = b1 at *
  generalize atL 9 ts = b2 at *
  generalize atL 6 ts = b3 at *
  generalize aheadL 1 [40] ts = b4 at *
  clear h
  have hcs : (b0 = true) ∨ (b0 = false ∧ b1 = true) ∨ (b0 = false ∧ b1 = false ∧ b2 = true) ∨ (b0 = false ∧ b1 = false ∧ b2 = false ∧ b3 = true) ∨ (b0 = false ∧ b1 = false ∧ b2 = false ∧ b3 = false) := by cases b0 <;> cases b1 <;> cases b2 <;> cases b3 <;> simp
  rcases hcs with rfl | ⟨rfl, rfl⟩ | ⟨rfl, rfl, rfl⟩ | ⟨rfl, rfl, rfl, rfl⟩ | ⟨rfl, rfl, rfl, rfl⟩
  all_goals
    go_enter Tryz.func181, Tryz.ntmps181
    go_wp2_with (first
      | (go_at_call 198
         first
           | (with_reducible refine A0.out.mono ?_)
           | (with_reducible refine A1.out.mono ?_)
           | (with_reducible refine A2.out.mono ?_)
           | (with_reducible refine A3.out.mono ?_)
         rintro e w1 ⟨rfl, rfl⟩)
      | (go_at_call 180
         refine A4.out.mono ?_
         rintro e w1 ⟨rfl, rfl⟩))
    go_ret
    exact ⟨rfl, rfl⟩
set_option maxHeartbeats 4000000 in
theorem atStep_any (R : Nat) (ts : List Wd) (w : World) (h : LfB R ts w) : Calls Tryz.prog 199 #[.pointer (some ⟨R, 0, none⟩)] w fun e w' => e = .returned (.bool (stpL ts)) ∧ w' = w := by
  have A0 := Lib.hid (at_any R 2 ts w h)
  have A1 := Lib.hid (at_any R 3 ts w h)
  have A2 := Lib.hid (at_any R 4 ts w h)
  have A3 := Lib.hid (at_any R 7 ts w h)
  have a4 : Calls Tryz.prog 180 #[.pointer (some ⟨R, 0, none⟩), .int .i64 1, .string ⟨#[46]⟩] w (fun e w' => e = .returned (.bool (aheadL 1 [46] ts)) ∧ w' = w) := ahead_any R 1 [46] ts w h
  have A4 := Lib.hid a4
  clear a4
  have a5 : Calls Tryz.prog 180 #[.pointer (some ⟨R, 0, none⟩), .int .i64 1, .string ⟨#[46, 46]⟩] w (fun e w' => e = .returned (.bool (aheadL 1 [46, 46] ts)) ∧ w' = w) := ahead_any R 1 [46, 46] ts w h
  have A5 := Lib.hid a5
  clear a5
  have a6 : Calls Tryz.prog 180 #[.pointer (some ⟨R, 0, none⟩), .int .i64 1, .string ⟨#[64]⟩] w (fun e w' => e = .returned (.bool (aheadL 1 [64] ts)) ∧ w' = w) := ahead_any R 1 [64] ts w h
  have A6 := Lib.hid a6
  clear a6
  unfold stpL
  generalize atL 2 ts = b0 at *
  generalize atL 3 ts = b1 at *
  generalize atL 4 ts = b2 at *
  generalize atL 7 ts = b3 at *
  generalize aheadL 1 [46] ts = b4 at *
  generalize aheadL 1 [46, 46] ts = b5 at *
  generalize aheadL 1 [64] ts = b6 at *
  clear h
  have hcs : (b0 = true) ∨ (b0 = false ∧ b1 = true) ∨ (b0 = false ∧ b1 = false ∧ b2 = true) ∨ (b0 = false ∧ b1 = false ∧ b2 = false ∧ b3 = true) ∨ (b0 = false ∧ b1 = false ∧ b2 = false ∧ b3 = false ∧ b4 = true) ∨ (b0 = false ∧ b1 = false ∧ b2 = false ∧ b3 = false ∧ b4 = false ∧ b5 = true) ∨ (b0 = false ∧ b1 = false ∧ b2 = false ∧ b3 = false ∧ b4 = false ∧ b5 = false) := by cases b0 <;> cases b1 <;> cases b2 <;> cases b3 <;> cases b4 <;> cases b5 <;> simp
  rcases hcs with rfl | ⟨rfl, rfl⟩ | ⟨rfl, rfl, rfl⟩ | ⟨rfl, rfl, rfl, rfl⟩ | ⟨rfl, rfl, rfl, rfl, rfl⟩ | ⟨rfl, rfl, rfl, rfl, rfl, rfl⟩ | ⟨rfl, rfl, rfl, rfl, rfl, rfl⟩
  all_goals
    go_enter Tryz.func199, Tryz.ntmps199
    go_wp2_with (first
      | (go_at_call 198
         first
           | (with_reducible refine A0.out.mono ?_)
           | (with_reducible refine A1.out.mono ?_)
           | (with_reducible refine A2.out.mono ?_)
           | (with_reducible refine A3.out.mono ?_)
         rintro e w1 ⟨rfl, rfl⟩)
      | (go_at_call 180
         first
           | (with_reducible refine A4.out.mono ?_)
           | (with_reducible refine A5.out.mono ?_)
           | (with_reducible refine A6.out.mono ?_)
         rintro e w1 ⟨rfl, rfl⟩))
    go_ret
    exact ⟨rfl, rfl⟩
set_option maxHeartbeats 4000000 in
theorem anyNode_any (a : Int) (w : World) : Calls Tryz.prog 203 #[.int .i64 a] w fun e w' => e = .returned (stpV (.mk a 3 [] false []) (.slice none 0 0)) ∧ Below w.heap.size w w' := by
  unfold stpV
  go_enter Tryz.func203, Tryz.ntmps203
  go_wp2_with fail
  exact endCSt Tryz.results203 w.heap.size (World.alloc_heap_new w _) rfl rfl ⟨rfl, below_box _⟩
end Go.Proofs.YtapljbdklhnfkaaGreatDoor.Char

/- The names of the axes: the program's and the document's. -/
namespace Go.Proofs.YtapljbdklhnfkaaGreatDoor.Char
open Go.RowKit Go.Lib

def nmAx : List (List UInt8) := [[], [99, 104, 105, 108, 100], [100, 101, 115, 99, 101, 110, 100, 97, 110, 116], [112, 97, 114, 101, 110, 116], [97, 110, 99, 101, 115, 116, 111, 114], [102, 111, 108, 108, 111, 119, 105, 110, 103, 45, 115, 105, 98, 108, 105, 110, 103], [112, 114, 101, 99, 101, 100, 105, 110, 103, 45, 115, 105, 98, 108, 105, 110, 103], [102, 111, 108, 108, 111, 119, 105, 110, 103], [112, 114, 101, 99, 101, 100, 105, 110, 103], [97, 116, 116, 114, 105, 98, 117, 116, 101], [115, 101, 108, 102], [100, 101, 115, 99, 101, 110, 100, 97, 110, 116, 45, 111, 114, 45, 115, 101, 108, 102], [97, 110, 99, 101, 115, 116, 111, 114, 45, 111, 114, 45, 115, 101, 108, 102]]
/-- an axis's name; empty of no axis -/
def nmX (a : Int) : List UInt8 := if a < 0 then [] else nmAx.getD a.toNat []
def nmCx : Array Value := (nmAx.map fun l => Value.string (bs l)).toArray
def nmDx : Array Value := (nmAx.tail.map fun l => Value.string (bs l)).toArray
theorem nmX_no {a : Int} (h : a < 0 ∨ 13 ≤ a) : nmX a = [] := by
  unfold nmX
  split
  · rfl
  · rw [List.getD_eq_getElem?_getD, List.getElem?_eq_none (by show 13 ≤ _; omega)]
    rfl
theorem nmCx_at {a : Int} (h0 : 0 ≤ a) (h1 : a < 13) : nmCx[a.toNat]? = some (.string (bs (nmX a))) := by
  have hl : a.toNat < nmAx.length := by show _ < 13; omega
  unfold nmCx nmX
  rw [if_neg (by omega), List.getElem?_toArray, List.getElem?_map, List.getElem?_eq_getElem hl, List.getD_eq_getElem?_getD, List.getElem?_eq_getElem hl]
  rfl
theorem nmDx_at {a : Int} (h0 : 1 ≤ a) (h1 : a ≤ 12) : nmDx[(a - 1).toNat]? = some (.string (bs (nmX a))) := by
  have hl : a.toNat < nmAx.length := by show _ < 13; omega
  have ht : (a - 1).toNat + 1 = a.toNat := by omega
  unfold nmDx nmX
  rw [if_neg (by omega), List.getElem?_toArray, List.getElem?_map, List.getElem?_tail, ht, List.getElem?_eq_getElem hl, List.getD_eq_getElem?_getD, List.getElem?_eq_getElem hl]
  rfl
set_option maxRecDepth 100000 in
set_option maxHeartbeats 4000000 in
theorem nameX_any (a : Int) (w : World) :
    Calls Tryz.prog 68 #[.int .i64 a] w fun e w' => e = .returned (.string (bs (nmX a))) ∧ Below w.heap.size w w' := by
  have hb := (Below.refl w.heap.size w).alloc (Nat.le_refl _) (.cells nmCx 125)
  have HB := Lib.hid hb
  clear hb
  by_cases h0 : a < 0
  · have k0 : decide (a < 0) = true := decide_eq_true h0
    have HX := Lib.hid (nmX_no (.inl h0))
    go_enter Tryz.func68, Tryz.ntmps68
    go_wp2_with (first
      | ((with_reducible refine wpList_buildTo rfl 125 _ rfl _ rfl nmCx (by kernel_rfl) ?_))
      | ((with_reducible refine wpList_store_row rfl 125 _ _ rfl w.heap.size nmCx rfl rfl 125 _ (heap_alloc_last w _) (by kernel_rfl) rfl (by kernel_rfl) ?_); rw [World.setRow_alloc_new]))
    go_ret
    exact ⟨by rw [HX.out]; rfl, HB.out⟩
  · have k0 : decide (a < 0) = false := decide_eq_false h0
    by_cases h1 : 13 ≤ a
    · have k1 : decide (13 ≤ a) = true := decide_eq_true h1
      have HX := Lib.hid (nmX_no (.inr h1))
      go_enter Tryz.func68, Tryz.ntmps68
      go_wp2_with (first
        | ((with_reducible refine wpList_buildTo rfl 125 _ rfl _ rfl nmCx (by kernel_rfl) ?_))
        | ((with_reducible refine wpList_store_row rfl 125 _ _ rfl w.heap.size nmCx rfl rfl 125 _ (heap_alloc_last w _) (by kernel_rfl) rfl (by kernel_rfl) ?_); rw [World.setRow_alloc_new]))
      go_ret
      exact ⟨by rw [HX.out]; rfl, HB.out⟩
    · have k1 : decide (13 ≤ a) = false := decide_eq_false h1
      have hc : (w.alloc (.cells nmCx 125)).cell? ⟨w.heap.size, a.toNat, none⟩ = some (.string (bs (nmX a))) := by
        rw [World.cell?_alloc_new]
        exact nmCx_at (by omega) (by omega)
      have hz : 0 ≤ a := by omega
      have hz1 : a < 13 := by omega
      generalize nmX a = X at *
      go_enter Tryz.func68, Tryz.ntmps68
      go_wp2_with (first
        | ((with_reducible refine wpList_buildTo rfl 125 _ rfl _ rfl nmCx (by kernel_rfl) ?_))
        | ((with_reducible refine wpList_store_row rfl 125 _ _ rfl w.heap.size nmCx rfl rfl 125 _ (heap_alloc_last w _) (by kernel_rfl) rfl (by kernel_rfl) ?_); rw [World.setRow_alloc_new]))
      go_ret
      exact ⟨rfl, HB.out⟩
end Go.Proofs.YtapljbdklhnfkaaGreatDoor.Char

/- The walk of an axis's number by its name. -/
namespace Go.Proofs.YtapljbdklhnfkaaGreatDoor.Char
open Go.RowKit Go.Lib

theorem bs_eqv (a b : List UInt8) (v : Bool) (h : decide (a = b) = v) : ((bs a).toList == (bs b).toList) = v := by
  rw [bs_tl, bs_tl, ← h, Bool.eq_iff_iff, beq_iff_eq, decide_eq_true_eq]
def ofF (s : List UInt8) : Nat → Nat → Nat
  | 0, _ => 0
  | n + 1, a => if nmX a = s then a else ofF s n (a + 1)
/-- the axis of a name; 0: there is none -/
def ofX (s : List UInt8) : Nat := ofF s 12 1
set_option maxRecDepth 100000 in
set_option maxHeartbeats 4000000 in
theorem ofX_any (s : List UInt8) (w : World) :
    Calls Tryz.prog 216 #[.string (bs s)] w fun e w' => e = .returned (.int .i64 (ofX s : Int)) ∧ Below w.heap.size w w' := by
  obtain ⟨R, hR⟩ : ∃ R, ofX s = R := ⟨_, rfl⟩
  rw [hR]
  have HR := Lib.hid hR
  clear hR
  have HB := Lib.hid (Below.refl w.heap.size w)
  go_enter Tryz.func216, Tryz.ntmps216
  go_wp2_with fail
  go_loopw [3] (fun v wr => ∃ k : Nat, v = .int .i64 (k : Int) ∧ 1 ≤ k ∧ k ≤ 13 ∧ Hid (R = ofF s (13 - k) k ∧ Below w.heap.size w wr)) (fun v _ => 13 - (RowKit.intOf v).toNat)
  case atStart => exact ⟨1, rfl, by omega, by omega, Lib.hid ⟨HR.out.symm, HB.out⟩⟩
  case round =>
    obtain ⟨k, rfl, hk1, hk13, HI⟩ := hrel
    by_cases hlt : k ≤ 12
    · have k0 : decide ((k : Int) ≤ 12) = true := decide_eq_true (by omega)
      have HN := Lib.hid (nameX_any (k : Int) wr)
      have hstep : ofF s (13 - k) k = if nmX (k : Int) = s then k else ofF s (13 - (k + 1)) (k + 1) := by
        rw [show 13 - k = (13 - (k + 1)) + 1 by omega]
        rfl
      have HS := Lib.hid hstep
      clear hstep
      cases he : decide (nmX (k : Int) = s) with
      | true =>
        have hq := bs_eqv _ _ _ he
        have HE := Lib.hid (of_decide_eq_true he)
        clear he
        generalize nmX (k : Int) = X at *
        go_wp2_with (first
          | (go_at_call 68
             refine HN.out.mono ?_
             rintro e w2 ⟨rfl, q2⟩))
        go_ret
        refine ⟨?_, HI.out.2.trans (q2.mono HI.out.2.size)⟩
        rw [HI.out.1, HS.out, if_pos HE.out]; rfl
      | false =>
        have hq := bs_eqv _ _ _ he
        have HE := Lib.hid (of_decide_eq_false he)
        clear he
        generalize nmX (k : Int) = X at *
        go_wp2_with (first
          | (go_at_call 68
             refine HN.out.mono ?_
             rintro e w2 ⟨rfl, q2⟩))
        go_roundw
        case rel => exact ⟨k + 1, by go_num, by omega, by omega, Lib.hid ⟨by rw [HI.out.1, HS.out, if_neg HE.out], HI.out.2.trans (q2.mono HI.out.2.size)⟩⟩
        case measure => simp [RowKit.intOf]; omega
    · have e : k = 13 := by omega
      subst e
      have k0 : decide ((13 : Int) ≤ 12) = false := by decide
      go_wp2_with fail
      go_ret
      exact ⟨by rw [HI.out.1]; rfl, HI.out.2⟩
end Go.Proofs.YtapljbdklhnfkaaGreatDoor.Char
