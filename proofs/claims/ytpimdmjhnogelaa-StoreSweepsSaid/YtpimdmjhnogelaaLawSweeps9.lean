/- The law StoreSweeps: a sweep turns no answer for times that are not below it; behind it no node has two versions that are not above. -/
import Derived.Test.YtpimdmjhnogelaaWorks9
import Derived.Test.YtpimdmjhnogelaaRun9
import Derived.Test.YtpimdmjhnogelaaRows9
import Derived.Deep.RegionWith
import Derived.Deep.RegionHeld3
import Derived.Deep.CutBlock
import Derived.Deep.DeepCutAuto
namespace Go.Proofs.Ytpimdmjhnogelaa.Char
open Go.RowKit Go.Lib

theorem idsL_mem (L : List On) : ∀ (n : Nat) (z : Int), z ∈ idsL L n → 1 ≤ z ∧ z ≤ (n : Int)
  | 0, z, h => by cases h
  | k + 1, z, h => by
    rw [idsL] at h
    split at h
    · have := idsL_mem L k z h; omega
    · rcases List.mem_append.1 h with h | h
      · have := idsL_mem L k z h; omega
      · rw [List.mem_singleton] at h; omega
theorem wf_id {z : Int} (h : 1 ≤ z ∧ z ≤ 1000) : (Lit.int .i64 z).wf = true := by
  have hm : IntKind.i64.min = -9223372036854775808 := by decide
  have hx : IntKind.i64.max = 9223372036854775807 := by decide
  simp [Lit.wf, hm, hx]
  omega
set_option maxRecDepth 100000 in
set_option maxHeartbeats 16000000 in
theorem lawSweeps_any (xs : List StV) (o : Option Addr) (j : Nat) (a m : Nat) (ha : a < 2 ^ 64) (hm : m < 2 ^ 64) (w : World) (h : StsOn w w.heap.size (.slice o xs.length j) xs) :
    Calls Try.prog 3 #[.slice o xs.length j, .int .u64 (a : Int), .int .u64 (m : Int)] w fun e w' => e = .returned (.bool true) ∧ Below w.heap.size w w' := by
  have HN := Lib.hid (ps_new w.heap.size w (Nat.le_refl _))
  have HX := Lib.hid h
  have hm1 : m % 100 < 100 := Nat.mod_lt _ (by decide)
  clear h
  go_enter Try.func3, Try.ntmps3
  go_upto_block 0 with (first
    | (go_at_call 8
       refine HN.out.mono ?_
       rintro e w1 ⟨s, rfl, p1, b1⟩
       have HP1 := Lib.hid p1
       have HB1 := Lib.hid b1
       have HR := Lib.hid (refNew_any w.heap.size w1 b1.size)
       clear p1 b1)
    | (go_at_call 9
       refine HR.out.mono ?_
       rintro e w2 ⟨d, vd, rfl, r2, b2, n2⟩
       have hT := two_start HP1.out b2 r2 n2
       have HT : Hid (Two w.heap.size w2 s d newS) := Lib.hid hT
       have HB2 := Lib.hid (HB1.out.trans (b2.mono HB1.out.size))
       clear r2 b2 n2 hT HN HP1 HR))
  go_cut [9] (fun _ wx => ∃ S, S.given ≤ 1000 ∧ S.L.length ≤ 10000 ∧ Hid (Two w.heap.size wx s d S ∧ Below w.heap.size w wx))
  case first =>
    go_wp2_with fail
    go_loopw [9] (fun v wr => ∃ k : Nat, v = .int .i64 (k : Int) ∧ k ≤ xs.length ∧ k ≤ 50 ∧ ∃ S, FitS k S ∧ Hid (Two w.heap.size wr s d S ∧ Below w.heap.size w wr)) (fun v _ => xs.length - (RowKit.intOf v).toNat)
    case atStart => exact ⟨0, rfl, Nat.zero_le _, Nat.zero_le _, newS, FitS.start, Lib.hid ⟨HT.out, HB2.out⟩⟩
    case round =>
      obtain ⟨k, rfl, hk, hk5, S, hf, HR⟩ := hrel
      clear HT HB2 HB1
      by_cases hin : k < xs.length ∧ k < 50
      · obtain ⟨hlt, h50⟩ := hin
        obtain ⟨g, off, rfl, hat, hok⟩ := (HX.out.below HR.out.2).reads k hlt
        have hf1 := hf.step (by omega) xs[k]
        have HS := Lib.hid (step_any HR.out.1 xs[k] hok (hf.g (by omega)) (hf.l (by omega)))
        have HB := Lib.hid HR.out.2
        unfold stV at HS
        obtain ⟨a0, a1, a2, a3⟩ := hat
        generalize stepS S xs[k] = S' at *
        generalize xs[k] = x at *
        have HF := Lib.hid hf1
        clear hf hf1 hok HR
        go_wp2_with (first
          | (go_at_call 10
             refine HS.out.mono ?_
             rintro e w3 ⟨rfl, t3, b3⟩
             have hT3 : Two w.heap.size w3 s d S' ∧ Below w.heap.size w w3 := ⟨t3, HB.out.trans b3⟩
             have HT3 : Hid (Two w.heap.size w3 s d S' ∧ Below w.heap.size w w3) := Lib.hid hT3
             clear hT3 t3 b3))
        go_roundw
        case rel => exact ⟨k + 1, by go_num, by omega, by omega, S', HF.out, HT3⟩
        case measure => simp [RowKit.intOf]; omega
      · by_cases hlt : k < xs.length
        all_goals
          try have h50 : ¬ k < 50 := by omega
          have hg := hf.g (by omega)
          have hl' := hf.l (by omega)
          clear hf
          go_wp2_with fail
          go_meet
          exact ⟨S, hg, hl', HR⟩
  case rest =>
    obtain ⟨S, hg, hl', HR⟩ := hcut
    clear HT HB2 HB1
    go_upto_region 7 with fail
    go_cut [10] (fun s10 wx => ∃ T0 : Nat, s10 = .int .u64 (T0 : Int) ∧ T0 < 2 ^ 64 ∧ wx = wc)
    case first =>
      obtain ⟨T0, hT0, hT1⟩ : ∃ T0 : Nat, IntKind.u64.wrap ((a : Int) + (m : Int) % 100) = (T0 : Int) ∧ T0 < 2 ^ 64 := by
        refine ⟨(a + m % 100) % 2 ^ 64, ?_, Nat.mod_lt _ (by decide)⟩
        rw [IntKind.wrap_u64]
        omega
      go_wp2_with fail
      go_meet
      exact ⟨T0, by rw [← hT0], hT1, rfl⟩
    case rest =>
      obtain ⟨T0, rfl, hT1, rfl⟩ := hcut
      go_upto_if 48 with fail
      go_cut [10] (fun s10 wx => ∃ T : Nat, s10 = .int .u64 (T : Int) ∧ a ≤ T ∧ T < 2 ^ 64 ∧ wx = wc)
      case first =>
        by_cases hov : T0 < a
        · go_wp2_with fail
          go_meet
          exact ⟨a, rfl, Nat.le_refl _, ha, rfl⟩
        · go_wp2_with fail
          go_meet
          exact ⟨T0, rfl, by omega, hT1, rfl⟩
      case rest =>
        obtain ⟨T, rfl, hTa, hT, rfl⟩ := hcut
        clear hT1
        obtain ⟨Z, v3, zs, p3, r3, e3, ap3⟩ := HR.out.1
        have HI := Lib.hid (ps_ids p3 (by omega))
        have HP := Lib.hid p3
        have HBR := Lib.hid HR.out.2
        obtain ⟨C0, hC0⟩ : ∃ C0, wc.heap.size = C0 := ⟨_, rfl⟩
        have HZ0 : Hid (∀ g, Z g → g < C0) := Lib.hid fun g hg => by have := (HP.out.zB g hg).2; omega
        clear r3 e3 ap3 HR p3
        go_upto_block 2 with (first
          | (go_at_call 11
             refine HI.out.mono ?_
             rintro e w3 ⟨u3, rfl, i3, b3⟩))
        obtain ⟨o3, j3, rfl⟩ := i3.form
        have i3' := i3.on (F := fun g => C0 ≤ g ∧ g < w3.heap.size) (fun g hg => by have := i3.blk hg; omega)
        have HI3 := Lib.hid i3'
        have hp3 := HP.out.below b3
        have HP3 : Hid (PS Z w.heap.size w3 s S) := Lib.hid hp3
        have HB3 := Lib.hid (HBR.out.trans (b3.mono HBR.out.size))
        have hwc3 : C0 ≤ w3.heap.size := by have := b3.size; omega
        have hids := idsL_mem S.L S.given
        have hidl := idsL_len S.L S.given
        generalize idsL S.L S.given = ids at *
        clear i3 i3' hp3 b3 HI HP HBR
        go_cut [12, 13, 14, 15, 16] (fun v1 v2 _ _ _ wx => (∃ p q r, v1 = .slice p q r) ∧ (∃ p q r, v2 = .slice p q r) ∧ Hid (∃ (rs : List RcV) (zs : List Bool), OwnsRc w3.heap.size wx v1 rs ∧ OwnsBool w3.heap.size wx v2 zs ∧ (∀ g, v1.ownBlock = some g → v2.ownBlock ≠ some g) ∧ rs.map (·.1) = ids.map (fun id => (atV (versL S.L id) T).getD rc0) ∧ zs = ids.map (fun id => (atV (versL S.L id) T).isSome) ∧ (∀ x, x ∈ rs → RcOn wx (fun g => w3.heap.size ≤ g ∧ v1.ownBlock ≠ some g ∧ v2.ownBlock ≠ some g) x) ∧ Below w3.heap.size w3 wx))
        case first =>
          go_wp2_with fail
          go_loopw [12, 13, 14] (fun v1 v2 v3 wr => ∃ n : Nat, v3 = .int .i64 (n : Int) ∧ n ≤ ids.length ∧ (∃ p q r, v1 = .slice p q r) ∧ (∃ p q r, v2 = .slice p q r) ∧ Hid (∃ (rs : List RcV) (zs : List Bool), OwnsRc w3.heap.size wr v1 rs ∧ OwnsBool w3.heap.size wr v2 zs ∧ (∀ g, v1.ownBlock = some g → v2.ownBlock ≠ some g) ∧ rs.map (·.1) = (ids.take n).map (fun id => (atV (versL S.L id) T).getD rc0) ∧ zs = (ids.take n).map (fun id => (atV (versL S.L id) T).isSome) ∧ (∀ x, x ∈ rs → RcOn wr (fun g => w3.heap.size ≤ g ∧ v1.ownBlock ≠ some g ∧ v2.ownBlock ≠ some g) x) ∧ Below w3.heap.size w3 wr)) (fun _ _ v _ => ids.length - (RowKit.intOf v).toNat)
          case atStart => exact ⟨0, rfl, Nat.zero_le _, ⟨_, _, _, rfl⟩, ⟨_, _, _, rfl⟩, Lib.hid ⟨[], [], World.ownsRow_nil _ _ _ _, World.ownsRow_nil _ _ _ _, fun g h => (by cases h), rfl, rfl, fun x hx => (by cases hx), Below.refl _ _⟩⟩
          case round =>
            obtain ⟨n, rfl, hn, ⟨l1, l2, l3, rfl⟩, ⟨m1, m2, m3, rfl⟩, HQ⟩ := hrel
            by_cases hlt2 : n < ids.length
            · obtain ⟨rs, zs2, q1, q2, q3, q4, q5, q6, q7⟩ := HQ.out
              obtain ⟨g6, f6, rfl, hg6, c6⟩ := (HI3.out.move (fun b hb hF => ⟨hF, q7.block b hb⟩)).reads n hlt2
              have hidw := wf_id (z := ids[n]) (by have := hids _ (List.getElem_mem hlt2); omega)
              have ht1 : ids.take (n + 1) = ids.take n ++ [ids[n]] := (List.take_succ_eq_append_getElem hlt2)
              have hA := ps_at (HP3.out.below q7) ids[n] hidw T (by omega)
              have hz0 : (0 : Int) ≤ (n : Int) := by omega
              have hz1 : (n : Int) < (ids.length : Int) := by omega
              have hrl : rs.length = n := by have := congrArg List.length q4; simpa [Nat.min_eq_left hn] using this
              have hzl2 : zs2.length = n := by rw [q5]; simp [Nat.min_eq_left hn]
              generalize ids[n] = id at *
              obtain ⟨R, hR⟩ : ∃ R, atV (versL S.L id) T = R := ⟨_, rfl⟩
              rw [hR] at hA
              have HA := Lib.hid hA
              have HRR := Lib.hid hR
              have HT1 := Lib.hid ht1
              have Q1 := Lib.hid q1
              have Q2 := Lib.hid q2
              have Q3 := Lib.hid q3
              have Q4 := Lib.hid q4
              have Q5 := Lib.hid q5
              have Q6 := Lib.hid q6
              have Q7 := Lib.hid q7
              have HRL := Lib.hid hrl
              have HZL := Lib.hid hzl2
              obtain ⟨z, hz⟩ : ∃ z, R.isSome = z := ⟨_, rfl⟩
              have HZ := Lib.hid hz
              clear hA hR q1 q2 q3 q4 q5 q6 q7 hrl hzl2 ht1 HQ
              have hidn : n ≤ 1000 := by omega
              go_wp2_with (first
                | (go_at_call 12
                   refine HA.out.mono ?_
                   rintro e w4 ⟨⟨r4, va4, vb4⟩, he, p1, p2, p3⟩
                   rw [HZ.out] at he
                   subst he
                   dsimp only at p1
                   obtain ⟨ok4, jk4, oa4, ja4, e3, e4⟩ := p2.form
                   dsimp only at e3 e4
                   subst e3 e4
                   have hs4 := p3.size
                   have hs7 := Q7.out.size
                   have HW5 := Lib.hid (fun ob => (p3.alloc p3.size ob : Below wr.heap.size wr (w4.alloc ob)))
                   have P1 := Lib.hid p1
                   have P2 := Lib.hid p2
                   clear p1 p2 p3
                   unfold rcV
                   dsimp only)
                | (at_builtin
                   refine wpList_pushRc rfl _ _ rfl r4 ok4 _ jk4 oa4 _ ja4 (Q1.out.keep fun g hg => (HW5.out _).block g (Q1.out.blk hg).2) rfl (by simp [Act.eval]) (by simp; omega) (by have := HRL.out; omega) ?_
                   intro u5 w5 o5 b5 k5 n5)
                | (at_builtin
                   refine wpList_pushBool rfl _ _ rfl z (Q2.out.keep fun g hg => (k5 g (by have := (Q2.out.blk hg).2; simp; omega) (fun e => Q3.out g e.symm hg)).trans ((HW5.out _).block g (Q2.out.blk hg).2)) rfl (by simp [Act.eval]) (by have := b5.size; simp at this; omega) (by have := HZL.out; omega) ?_
                   intro u6 w6 o6 b6 k6 n6)
                | go_in)
              obtain ⟨a5, j5, e5⟩ := o5.form
              obtain ⟨a6, j6, e6⟩ := o6.form
              have s45 : w4.heap.size + 1 ≤ w5.heap.size := by have := b5.size; simpa using this
              have s56 := b6.size
              have L1 : ∀ g, (Value.slice l1 l2 l3).ownBlock = some g → g < wr.heap.size := fun g hg => (Q1.out.blk hg).2
              have M1 : ∀ g, (Value.slice m1 m2 m3).ownBlock = some g → g < wr.heap.size := fun g hg => (Q2.out.blk hg).2
              have U5 : ∀ g, u5.ownBlock = some g → ((Value.slice l1 l2 l3).ownBlock = some g ∨ w4.heap.size + 1 ≤ g) ∧ g < w5.heap.size := fun g hg => ⟨by simpa using n5 g hg, (o5.blk hg).2⟩
              have U6 : ∀ g, u6.ownBlock = some g → (Value.slice m1 m2 m3).ownBlock = some g ∨ w5.heap.size ≤ g := n6
              have F4 : ∀ g, g < w4.heap.size → some g ≠ (Value.slice l1 l2 l3).ownBlock → some g ≠ (Value.slice m1 m2 m3).ownBlock → w6.heap[g]? = w4.heap[g]? := fun g h1 h2 h3 =>
                (k6 g (by omega) h3).trans ((k5 g (by simp; omega) h2).trans (Below.heap_alloc _ _ _ h1))
              have FW : ∀ g, g < wr.heap.size → some g ≠ (Value.slice l1 l2 l3).ownBlock → some g ≠ (Value.slice m1 m2 m3).ownBlock → w6.heap[g]? = wr.heap[g]? := fun g h1 h2 h3 =>
                (k6 g (by omega) h3).trans ((k5 g (by simp; omega) h2).trans ((HW5.out _).block g h1))
              have B6 : Below w3.heap.size w3 w6 := Q7.out.trans ((((HW5.out _).mono hs7).trans b5).trans b6)
              have HNX : Hid (∃ (rs : List RcV) (zs : List Bool), OwnsRc w3.heap.size w6 u5 rs ∧ OwnsBool w3.heap.size w6 u6 zs ∧ (∀ g, u5.ownBlock = some g → u6.ownBlock ≠ some g) ∧ rs.map (·.1) = (ids.take (n + 1)).map (fun id => (atV (versL S.L id) T).getD rc0) ∧ zs = (ids.take (n + 1)).map (fun id => (atV (versL S.L id) T).isSome) ∧ (∀ x, x ∈ rs → RcOn w6 (fun g => w3.heap.size ≤ g ∧ u5.ownBlock ≠ some g ∧ u6.ownBlock ≠ some g) x) ∧ Below w3.heap.size w3 w6) := Lib.hid (by
                refine ⟨rs ++ [(r4, .slice ok4 r4.ks.length jk4, .slice oa4 r4.ats.length ja4)], zs2 ++ [z], o5.keep fun g hg => k6 g (U5 g hg).2 fun e => ?_, o6, fun g hg hg6 => ?_, ?_, ?_, fun x hx => ?_, B6⟩
                · have q1 := M1 g e.symm
                  rcases (U5 g hg).1 with h | h
                  · exact Q3.out g h e.symm
                  · omega
                · rcases (U5 g hg).1 with h | h
                  · rcases U6 g hg6 with h6 | h6
                    · exact Q3.out g h h6
                    · have := L1 g h; omega
                  · rcases U6 g hg6 with h6 | h6
                    · have := M1 g h6; omega
                    · have := (U5 g hg).2; omega
                · rw [List.map_append, Q4.out, HT1.out, List.map_append, P1.out, ← HRR.out]; rfl
                · rw [Q5.out, HT1.out, List.map_append, ← HZ.out, ← HRR.out]; rfl
                · rw [List.mem_append, List.mem_singleton] at hx
                  rcases hx with hx | rfl
                  · refine (Q6.out x hx).move fun g hg hF => ⟨⟨hF.1, fun e => ?_, fun e => ?_⟩, FW g hg (fun e => hF.2.1 e.symm) (fun e => hF.2.2 e.symm)⟩
                    · rcases (U5 g e).1 with h | h
                      · exact hF.2.1 h
                      · omega
                    · rcases U6 g e with h | h
                      · exact hF.2.2 h
                      · omega
                  · refine P2.out.move fun g hg hF => ?_
                    have hF' : wr.heap.size ≤ g := hF
                    refine ⟨⟨by omega, fun e => ?_, fun e => ?_⟩, F4 g hg (fun e => by have := L1 g e.symm; omega) (fun e => by have := M1 g e.symm; omega)⟩
                    · rcases (U5 g e).1 with h | h
                      · have := L1 g h; omega
                      · omega
                    · rcases U6 g e with h | h
                      · have := M1 g h; omega
                      · omega)
              exact ⟨⟨n + 1, by go_num, by omega, ⟨_, _, _, e5⟩, ⟨_, _, _, e6⟩, HNX⟩, by simp [RowKit.intOf]; omega⟩
            · have e : n = ids.length := by omega
              subst e
              go_wp2_with fail
              go_meet
              refine ⟨⟨_, _, _, rfl⟩, ⟨_, _, _, rfl⟩, ?_⟩
              rw [List.take_length] at HQ
              exact HQ
        case rest =>
          obtain ⟨⟨l1, l2, l3, rfl⟩, ⟨m1, m2, m3, rfl⟩, HQ⟩ := hcut
          obtain ⟨rs, zb, q1, q2, q3, q4, q5, q6, q7⟩ := HQ.out
          have hrl : rs.length = ids.length := by have := congrArg List.length q4; simpa using this
          have hzl : zb.length = ids.length := by rw [q5]; simp
          have hl2 : l2 = ids.length := by
            obtain ⟨_, _, e⟩ := q1.form
            simp only [Value.slice.injEq] at e
            omega
          have hm2 : m2 = ids.length := by
            obtain ⟨_, _, e⟩ := q2.form
            simp only [Value.slice.injEq] at e
            omega
          subst hl2 hm2
          have hA := HP3.out.below q7
          have hS := ps_sweep hA (Nat.le_trans HB3.out.size q7.size) a (by omega) (by omega)
          have hi5 := HI3.out.move (w' := wc) (F' := fun g => C0 ≤ g ∧ g < w3.heap.size) (fun b hb hF => ⟨hF, q7.block b hb⟩)
          have hup := fun id => hA.inv.vers id
          have hsm := fun id r (hr : atV (versL S.L id) T = some r) => hA.sm hr
          have HS := Lib.hid hS
          have HI := Lib.hid hi5
          have HUP := Lib.hid hup
          have HSM := Lib.hid hsm
          have Q1 := Lib.hid q1
          have Q2 := Lib.hid q2
          have Q4 := Lib.hid q4
          have Q5 := Lib.hid q5
          have Q6 := Lib.hid q6
          have Q7 := Lib.hid q7
          have HRL := Lib.hid hrl
          have HZL := Lib.hid hzl
          have h7 := q7.size
          clear hA hS q1 q2 q3 q4 q5 q6 q7 hrl hzl HQ hi5 hup hsm HI3 HP3
          go_wp2_with (first
            | (go_at_call 13
               refine HS.out.mono ?_
               rintro e w5 ⟨rfl, p5, o5⟩))
          have h5 := o5.1.size
          have K5 : ∀ g, g < wc.heap.size → C0 ≤ g → w5.heap[g]? = wc.heap[g]? := fun g h1 h2 => o5.2 g h1 (fun hz => by have := HZ0.out g hz; omega)
          have HI5 := Lib.hid (HI.out.move (w' := w5) (F' := fun g => g < w5.heap.size) (fun g hg hF => ⟨Nat.lt_of_lt_of_le hg h5, K5 g hg hF.1⟩))
          have R5 := Lib.hid (Q1.out.keep (w' := w5) (fun g hg => K5 g (Q1.out.blk hg).2 (by have := (Q1.out.blk hg).1; omega)))
          have Z5 := Lib.hid (Q2.out.keep (w' := w5) (fun g hg => K5 g (Q2.out.blk hg).2 (by have := (Q2.out.blk hg).1; omega)))
          have X5 := Lib.hid (fun x hx => (Q6.out x hx).move (w' := w5) (F' := fun _ => True) (fun g hg hF => ⟨trivial, K5 g hg (by have := hF.1; omega)⟩))
          have P5 := Lib.hid p5
          have B5 := Lib.hid ((HB3.out.trans (Q7.out.mono HB3.out.size)).trans o5.1)
          clear K5 p5 o5 HS HI Q1 Q2 Q6 Q7 HB3
          go_loopw [17] (fun v wr => ∃ n : Nat, v = .int .i64 (n : Int) ∧ n ≤ ids.length ∧ Hid (Below w5.heap.size w5 wr)) (fun v _ => ids.length - (RowKit.intOf v).toNat)
          case atStart => exact ⟨0, rfl, Nat.zero_le _, Lib.hid (Below.refl _ _)⟩
          case round =>
            obtain ⟨n, rfl, hn, HB⟩ := hrel
            by_cases hlt2 : n < ids.length
            · obtain ⟨g6, f6, rfl, hg6, c6⟩ := HI5.out.reads n hlt2
              have hrn : n < rs.length := by have := HRL.out; omega
              have hzn : n < zb.length := by have := HZL.out; omega
              obtain ⟨gr, rfl, _, hgr, r0, r1, r2, r3, r4, r5, r6⟩ := R5.out.reads n hrn
              obtain ⟨gb, rfl, _, hgb, b0⟩ := Z5.out.reads n hzn
              have hidw := wf_id (z := ids[n]) (by have := hids _ (List.getElem_mem hlt2); omega)
              have hz0 : (0 : Int) ≤ (n : Int) := by omega
              have hz1 : (n : Int) < (ids.length : Int) := by omega
              have hx5 := X5.out _ (List.getElem_mem hrn)
              have e4 : rs[n].1 = (atV (versL S.L ids[n]) T).getD rc0 := by
                have h1 : (rs.map (·.1))[n]? = (ids.map (fun id => (atV (versL S.L id) T).getD rc0))[n]? := by rw [Q4.out]
                rw [List.getElem?_map, List.getElem?_map, List.getElem?_eq_getElem hrn, List.getElem?_eq_getElem hlt2] at h1
                simpa using h1
              have e5 : zb[n] = (atV (versL S.L ids[n]) T).isSome := by
                have h1 : zb[n]? = (ids.map (fun id => (atV (versL S.L id) T).isSome))[n]? := by rw [← Q5.out]
                rw [List.getElem?_map, List.getElem?_eq_getElem hzn, List.getElem?_eq_getElem hlt2] at h1
                simpa using h1
              have hA := ps_at (P5.out.below HB.out) ids[n] hidw T (by have := sweepL_le a S.L; show (sweepL a S.L).length ≤ 100000; omega)
              have hva : atV (versL (sweepS S a).L ids[n]) T = atV (versL S.L ids[n]) T := by
                show atV (versL (sweepL a S.L) ids[n]) T = _
                rw [vers_sweep, atV_sweep hTa (HUP.out _)]
              rw [hva] at hA
              have hV := fun w' (hb : Below wr.heap.size wr w') => ps_versions ((P5.out.below HB.out).below hb) ids[n] hidw (by have := sweepL_le a S.L; show (sweepL a S.L).length ≤ 100000; omega)
              have hvl : (versL (sweepS S a).L ids[n]).length ≤ 10000 := by
                have h1 := versL_le (sweepL a S.L) ids[n]
                have := sweepL_le a S.L
                show (versL (sweepL a S.L) ids[n]).length ≤ 10000
                omega
              have hlow : ((versL (sweepS S a).L ids[n]).filter fun x => decide (x.time ≤ a)).length ≤ 1 := by
                have := sweepV_low a (versL S.L ids[n])
                rwa [← vers_sweep] at this
              have hsr := HSM.out ids[n]
              generalize ids[n] = id at *
              generalize zb[n] = zz at *
              generalize rs[n] = rr at *
              obtain ⟨R, hR⟩ : ∃ R, atV (versL S.L id) T = R := ⟨_, rfl⟩
              rw [hR] at hA e4 e5 hsr
              have hsm4 : RcSm rr.1 := by
                rw [e4]
                cases R with
                | none => exact ⟨by decide, by decide⟩
                | some r => exact hsr r rfl
              have hwr := HB.out.size
              have HC6 := Lib.hid (fun (W : World) (hb : Below w5.heap.size w5 W) => (hb.cell (p := ⟨g6, f6 + n, none⟩) hg6).trans c6)
              have c6r := HC6.out wr HB.out
              obtain ⟨x5, va5, vb5⟩ := rr
              obtain ⟨okd, jkd, oad, jad, e7, e8⟩ := hx5.form
              dsimp only at e4 e7 e8 r0 r1 r2 r3 r4 r5 r6 hsm4
              subst e7 e8
              have KR := Lib.hid (fun (W : World) (hb : Below w5.heap.size w5 W) => (⟨(hb.cell (p := ⟨gb, n, none⟩) hgb).trans b0, (hb.cell (p := ⟨gr, n * 7, none⟩) hgr).trans r0, (hb.cell (p := ⟨gr, n * 7 + 1, none⟩) hgr).trans r1, (hb.cell (p := ⟨gr, n * 7 + 2, none⟩) hgr).trans r2, (hb.cell (p := ⟨gr, n * 7 + 3, none⟩) hgr).trans r3, (hb.cell (p := ⟨gr, n * 7 + 4, none⟩) hgr).trans r4, (hb.cell (p := ⟨gr, n * 7 + 5, none⟩) hgr).trans r5, (hb.cell (p := ⟨gr, n * 7 + 6, none⟩) hgr).trans r6⟩ :
                W.cell? ⟨gb, n, none⟩ = some (.bool zz) ∧ W.cell? ⟨gr, n * 7, none⟩ = some (.int .i64 x5.kd) ∧ W.cell? ⟨gr, n * 7 + 1, none⟩ = some (.string (bs x5.nm)) ∧ W.cell? ⟨gr, n * 7 + 2, none⟩ = some (.string (bs x5.tx)) ∧ W.cell? ⟨gr, n * 7 + 3, none⟩ = some (.int .i64 x5.pa) ∧ W.cell? ⟨gr, n * 7 + 4, none⟩ = some (.slice okd x5.ks.length jkd) ∧ W.cell? ⟨gr, n * 7 + 5, none⟩ = some (.slice oad x5.ats.length jad) ∧ W.cell? ⟨gr, n * 7 + 6, none⟩ = some (.bool x5.gone)))
              have HA := Lib.hid hA
              have HV := Lib.hid hV
              have HX5 := Lib.hid hx5
              have E4 := Lib.hid e4
              have E5 := Lib.hid e5
              have SM4 := Lib.hid hsm4
              have HLOW := Lib.hid hlow
              have HVL := Lib.hid hvl
              clear hA hV hx5 e4 e5 hsm4 hlow hvl hva hR hsr r0 r1 r2 r3 r4 r5 r6 b0 c6 hrn hzn
              have hidn : n ≤ 1000 := by omega
              go_upto_region 24 with (first
                | (go_at_call 12
                   refine HA.out.mono ?_
                   rintro e w4 ⟨⟨q4, va4, vb4⟩, he, p1, p2, p3⟩
                   dsimp only at p1
                   rw [← E5.out] at he
                   subst he
                   obtain ⟨ok4, jk4, oa4, ja4, e3, e4⟩ := p2.form
                   dsimp only at e3 e4
                   subst e3 e4
                   have hs4 := p3.size
                   have P1 := Lib.hid p1
                   have P2 := Lib.hid p2
                   have P3 := Lib.hid p3
                   clear p1 p2 p3
                   unfold rcV
                   dsimp only))
              obtain ⟨W4, hW4⟩ : ∃ W4, W4 = w4.alloc (rcB (q4, .slice ok4 q4.ks.length jk4, .slice oa4 q4.ats.length ja4)) := ⟨_, rfl⟩
              have hb4 : Below wr.heap.size wr W4 := by rw [hW4]; exact P3.out.alloc hs4 _
              have hs5 : W4.heap.size = w4.heap.size + 1 := by rw [hW4]; simp
              have t4 : W4.heap[w4.heap.size]? = some (rcB (q4, .slice ok4 q4.ks.length jk4, .slice oa4 q4.ats.length ja4)) := by rw [hW4]; exact World.alloc_heap_new w4 _
              obtain ⟨⟨b0, b1, b2, b3, b4, b5, b6⟩, _⟩ := rc_blk t4
              dsimp only at b0 b1 b2 b3 b4 b5 b6
              have hb54 : Below w5.heap.size w5 W4 := HB.out.trans (hb4.mono hwr)
              have KS := Lib.hid (fun (W : World) (hb : Below W4.heap.size W4 W) => (⟨KR.out W (hb54.trans (hb.mono (by omega))), (hb.cell (p := ⟨w4.heap.size, 0, none⟩) (by simp; omega)).trans b0, (hb.cell (p := ⟨w4.heap.size, 1, none⟩) (by simp; omega)).trans b1, (hb.cell (p := ⟨w4.heap.size, 2, none⟩) (by simp; omega)).trans b2, (hb.cell (p := ⟨w4.heap.size, 3, none⟩) (by simp; omega)).trans b3, (hb.cell (p := ⟨w4.heap.size, 4, none⟩) (by simp; omega)).trans b4, (hb.cell (p := ⟨w4.heap.size, 5, none⟩) (by simp; omega)).trans b5, (hb.cell (p := ⟨w4.heap.size, 6, none⟩) (by simp; omega)).trans b6⟩ :
                (W.cell? ⟨gb, n, none⟩ = some (.bool zz) ∧ W.cell? ⟨gr, n * 7, none⟩ = some (.int .i64 x5.kd) ∧ W.cell? ⟨gr, n * 7 + 1, none⟩ = some (.string (bs x5.nm)) ∧ W.cell? ⟨gr, n * 7 + 2, none⟩ = some (.string (bs x5.tx)) ∧ W.cell? ⟨gr, n * 7 + 3, none⟩ = some (.int .i64 x5.pa) ∧ W.cell? ⟨gr, n * 7 + 4, none⟩ = some (.slice okd x5.ks.length jkd) ∧ W.cell? ⟨gr, n * 7 + 5, none⟩ = some (.slice oad x5.ats.length jad) ∧ W.cell? ⟨gr, n * 7 + 6, none⟩ = some (.bool x5.gone)) ∧
                W.cell? ⟨w4.heap.size, 0, none⟩ = some (.int .i64 q4.kd) ∧ W.cell? ⟨w4.heap.size, 1, none⟩ = some (.string (bs q4.nm)) ∧ W.cell? ⟨w4.heap.size, 2, none⟩ = some (.string (bs q4.tx)) ∧ W.cell? ⟨w4.heap.size, 3, none⟩ = some (.int .i64 q4.pa) ∧ W.cell? ⟨w4.heap.size, 4, none⟩ = some (.slice ok4 q4.ks.length jk4) ∧ W.cell? ⟨w4.heap.size, 5, none⟩ = some (.slice oa4 q4.ats.length ja4) ∧ W.cell? ⟨w4.heap.size, 6, none⟩ = some (.bool q4.gone)))
              have hq : q4 = x5 := P1.out.trans E4.out.symm
              have hr4 : RcOn W4 (fun g => wr.heap.size ≤ g) (q4, .slice ok4 q4.ks.length jk4, .slice oa4 q4.ats.length ja4) := P2.out.move fun g hg hF => ⟨hF, by rw [hW4]; exact Below.heap_alloc _ _ _ hg⟩
              have hrd : RcOn W4 (fun _ => True) (x5, .slice okd x5.ks.length jkd, .slice oad x5.ats.length jad) := HX5.out.move fun g hg hF => ⟨hF, hb54.block g hg⟩
              have HSA := Lib.hid (fun w' (hb : Below W4.heap.size W4 w') => refSame_any q4 x5 ok4 jk4 oa4 ja4 okd jkd oad jad w' _ _ (hr4.below hb).1 (hr4.below hb).2 (hrd.below hb).1 (hrd.below hb).2 (by rw [hq]; exact Nat.le_trans SM4.out.1 (by decide)) (by rw [hq]; exact Nat.le_trans SM4.out.2 (by decide)))
              have HQ := Lib.hid hq
              have HB4 := Lib.hid hb4
              have HW4 := Lib.hid hW4
              unfold rcB at HW4
              dsimp only at HW4
              have s4 := KS.out W4.drew (Below.refl _ _).drew
              clear hb4 t4 b0 b1 b2 b3 b4 b5 b6 hb54 hr4 hrd hW4 hq KR
              rw [← HW4.out]
              go_cut [109] (fun s109 wx => s109 = .bool false ∧ Hid (Below W4.heap.size W4 wx))
              case first =>
                go_region_held3 (fun w' => (w'.cell? ⟨gb, n, none⟩ = some (.bool zz) ∧ w'.cell? ⟨gr, n * 7, none⟩ = some (.int .i64 x5.kd) ∧ w'.cell? ⟨gr, n * 7 + 1, none⟩ = some (.string (bs x5.nm)) ∧ w'.cell? ⟨gr, n * 7 + 2, none⟩ = some (.string (bs x5.tx)) ∧ w'.cell? ⟨gr, n * 7 + 3, none⟩ = some (.int .i64 x5.pa) ∧ w'.cell? ⟨gr, n * 7 + 4, none⟩ = some (.slice okd x5.ks.length jkd) ∧ w'.cell? ⟨gr, n * 7 + 5, none⟩ = some (.slice oad x5.ats.length jad) ∧ w'.cell? ⟨gr, n * 7 + 6, none⟩ = some (.bool x5.gone)) ∧
                  w'.cell? ⟨w4.heap.size, 0, none⟩ = some (.int .i64 q4.kd) ∧ w'.cell? ⟨w4.heap.size, 1, none⟩ = some (.string (bs q4.nm)) ∧ w'.cell? ⟨w4.heap.size, 2, none⟩ = some (.string (bs q4.tx)) ∧ w'.cell? ⟨w4.heap.size, 3, none⟩ = some (.int .i64 q4.pa) ∧ w'.cell? ⟨w4.heap.size, 4, none⟩ = some (.slice ok4 q4.ks.length jk4) ∧ w'.cell? ⟨w4.heap.size, 5, none⟩ = some (.slice oa4 q4.ats.length ja4) ∧ w'.cell? ⟨w4.heap.size, 6, none⟩ = some (.bool q4.gone))
                  (first | exact s4 | exact s5)
                  (first
                    | (go_at_call 14
                       refine (HSA.out _ (Below.refl _ _).drew).mono ?_
                       rintro e w6 ⟨rfl, q6⟩
                       have q46 : Below W4.heap.size W4 w6 := (Below.refl _ _).drew.trans q6
                       have s5 := KS.out w6 q46
                       rw [decide_eq_true HQ.out]))
                all_goals
                  go_wp2_with fail
                  go_meet
                  exact ⟨by simp, Lib.hid q46⟩
              case rest =>
                obtain ⟨rfl, HB6⟩ := hcut
                have hs6 := HB6.out.size
                have hbr : Below wr.heap.size wr wc := HB4.out.trans (HB6.out.mono (by omega))
                have c6w := HC6.out wc (HB.out.trans (hbr.mono hwr))
                have HV6 := Lib.hid (HV.out wc hbr)
                have HBR := Lib.hid hbr
                clear hbr HA HV KS HSA s4
                go_wp2_with (first
                  | (go_at_call 15
                     refine HV6.out.mono ?_
                     rintro e w7 ⟨u7, ys, rfl, y1, y2, _, y4⟩
                     have hon := y2.on
                     obtain ⟨oy, jy, rfl⟩ := hon.form))
                have hyl : ys.length ≤ 10000 := by
                  have := congrArg List.length y1
                  rw [List.length_map] at this
                  have := HVL.out
                  omega
                have HON := Lib.hid hon
                have HB7 := Lib.hid (HBR.out.trans (y4.mono HBR.out.size))
                have HLO : Hid ((ys.filter fun y => decide (y.1 ≤ a)).length ≤ 1) := Lib.hid (by
                  have h1 := HLOW.out
                  rw [← y1, List.filter_map, List.length_map] at h1
                  exact h1)
                clear hon y1 y2 y4
                go_loopw [20, 22] (fun v1 v2 wx => ∃ k c : Nat, v2 = .int .i64 (k : Int) ∧ v1 = .int .i64 (c : Int) ∧ k ≤ ys.length ∧ c ≤ k ∧ Hid (c = ((ys.take k).filter fun y => decide (y.1 ≤ a)).length) ∧ Hid (Below w7.heap.size w7 wx)) (fun _ v _ => ys.length - (RowKit.intOf v).toNat)
                case atStart => exact ⟨0, 0, rfl, rfl, Nat.zero_le _, Nat.le_refl _, Lib.hid rfl, Lib.hid (Below.refl _ _)⟩
                case round =>
                  obtain ⟨k, c, rfl, rfl, hk, hck, HC, HBX⟩ := hrel
                  by_cases hlt4 : k < ys.length
                  · obtain ⟨gy, fy, rfl, _, hve, _⟩ := (HON.out.move (F' := fun _ => True) (fun b hb _ => ⟨trivial, HBX.out.block b hb⟩)).reads k hlt4
                    have t0 := hve.1
                    have ht1 : ys.take (k + 1) = ys.take k ++ [ys[k]] := (List.take_succ_eq_append_getElem hlt4)
                    have HT1 := Lib.hid ht1
                    have hz2 : (0 : Int) ≤ (k : Int) := by omega
                    have hz3 : (k : Int) < (ys.length : Int) := by omega
                    clear hve ht1
                    by_cases hle : ys[k].1 ≤ a
                    · have hc1 : ((ys.take (k + 1)).filter fun y => decide (y.1 ≤ a)).length = c + 1 := by
                        rw [HT1.out, List.filter_append, List.length_append, ← HC.out, List.filter_cons, if_pos (decide_eq_true hle)]
                        rfl
                      have HC1 := Lib.hid hc1.symm
                      have k0 : ((ys[k].1 : Nat) : Int) ≤ (a : Int) := by omega
                      clear hc1
                      generalize ys[k] = y at *
                      go_wp2_with fail
                      go_roundw
                      case rel => exact ⟨k + 1, c + 1, by go_num, by go_num, by omega, by omega, HC1, HBX⟩
                      case measure => simp [RowKit.intOf]; omega
                    · have hc1 : ((ys.take (k + 1)).filter fun y => decide (y.1 ≤ a)).length = c := by
                        rw [HT1.out, List.filter_append, List.length_append, ← HC.out, List.filter_cons, if_neg (by simpa using hle)]
                        rfl
                      have HC1 := Lib.hid hc1.symm
                      have k0 : ¬ ((ys[k].1 : Nat) : Int) ≤ (a : Int) := by omega
                      clear hc1
                      generalize ys[k] = y at *
                      go_wp2_with fail
                      go_roundw
                      case rel => exact ⟨k + 1, c, by go_num, rfl, by omega, by omega, HC1, HBX⟩
                      case measure => simp [RowKit.intOf]; omega
                  · have e : k = ys.length := by omega
                    subst e
                    have hc1 : c ≤ 1 := by
                      have h1 := HC.out
                      rw [List.take_length] at h1
                      have := HLO.out
                      omega
                    clear HC
                    go_wp2_with fail
                    exact ⟨⟨n + 1, by go_num, by omega, Lib.hid ((HB.out.trans (HB7.out.mono hwr)).trans (HBX.out.mono (Nat.le_trans hwr HB7.out.size)))⟩, by simp [RowKit.intOf]; omega⟩
            · have e : n = ids.length := by omega
              subst e
              have hS := ps_sweep (P5.out.below HB.out) (Nat.le_trans B5.out.size HB.out.size) a (by show S.given ≤ 100000; omega) (by have := sweepL_le a S.L; show (sweepL a S.L).length ≤ 100000; omega)
              rw [show sweepL a (sweepS S a).L = (sweepS S a).L from sweepL_again a S.L, Int.sub_self] at hS
              have HS := Lib.hid hS
              have HBE := Lib.hid (B5.out.trans (HB.out.mono B5.out.size))
              clear hS
              go_wp2_with (first
                | (go_at_call 13
                   refine HS.out.mono ?_
                   rintro e w8 ⟨rfl, p8, o8⟩
                   have HW := Lib.hid (works_any w8))
                | (go_at_call 16
                   refine HW.out.mono ?_
                   rintro e w9 ⟨rfl, b9⟩))
              go_ret
              exact ⟨rfl, (HBE.out.trans o8.1).trans (b9.mono (HBE.out.trans o8.1).size)⟩
theorem u64_of {a : Int} (ha : (Lit.int .u64 a).wf = true) : ∃ t : Nat, a = (t : Int) ∧ t < 2 ^ 64 := by
  have hm : IntKind.u64.min = 0 := by decide
  have hx : IntKind.u64.max = 18446744073709551615 := by decide
  simp [Lit.wf, hm, hx] at ha
  exact ⟨a.toNat, by omega, by omega⟩
theorem lawSweeps_of (xs : List StV) (v : Value) (a m : Int) (ha : (Lit.int .u64 a).wf = true) (hm : (Lit.int .u64 m).wf = true) (w : World) (h : StsOn w w.heap.size v xs) :
    Calls Try.prog 3 #[v, .int .u64 a, .int .u64 m] w fun e w' => e = .returned (.bool true) ∧ Below w.heap.size w w' := by
  obtain ⟨o, j, rfl⟩ := h.form
  obtain ⟨a, rfl, ha'⟩ := u64_of ha
  obtain ⟨m, rfl, hm'⟩ := u64_of hm
  exact lawSweeps_any xs o j a m ha' hm' w h
end Go.Proofs.Ytpimdmjhnogelaa.Char
