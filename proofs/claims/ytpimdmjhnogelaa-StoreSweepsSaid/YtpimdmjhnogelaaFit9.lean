/- The walk of fit: may these changes be laid? -/
import Derived.Test.YtpimdmjhnogelaaPStM
import Derived.Test.YtpimdmjhnogelaaBox8
import Derived.Test.YtpimdmjhnogelaaChOn
import Derived.Test.YtpimdmjhnogelaaRight9
import Derived.Test.YtpimdmjhnogelaaCount9
import Derived.Test.YtpimdmjhnogelaaQuietK
namespace Go.Proofs.Ytpimdmjhnogelaa.Char
open Go.RowKit Go.Lib

/-- one change that may not be laid, whatever the others are -/
def badL (gv : Nat) (c : Int × Rc) : Bool := !rightR c.2 || decide (c.1 < 1) || decide ((gv : Int) < c.1)
theorem badC_of {gv : Nat} : ∀ {cs : List (Int × Rc)} {seen : List Int}, (∀ c, c ∈ cs → badL gv c = false ∧ c.1 ∉ seen) → (cs.map (·.1)).Nodup → badC gv seen cs = false
  | [], _, _, _ => rfl
  | c :: r, seen, h, hp => by
    rw [List.map_cons, List.nodup_cons] at hp
    obtain ⟨h1, h2⟩ := h c List.mem_cons_self
    unfold badL at h1
    rw [Bool.or_eq_false_iff, Bool.or_eq_false_iff] at h1
    obtain ⟨⟨a1, a2⟩, a3⟩ := h1
    rw [badC, a1, a2, a3, badC_of (seen := seen ++ [c.1]) (fun x hx => ⟨(h x (List.mem_cons_of_mem _ hx)).1, fun hs => by
      rw [List.mem_append, List.mem_singleton] at hs
      rcases hs with hs | hs
      · exact (h x (List.mem_cons_of_mem _ hx)).2 hs
      · exact hp.1 (hs ▸ List.mem_map_of_mem hx)⟩) hp.2]
    simpa using h2
theorem badC_bad {gv : Nat} {cs : List (Int × Rc)} {c : Int × Rc} (hc : c ∈ cs) (hb : badL gv c = true) : badC gv [] cs = true := by
  cases h : badC gv [] cs with
  | true => rfl
  | false =>
    obtain ⟨a, b, d, _⟩ := (bad_no h).1 c hc
    unfold badL at hb
    rw [d, decide_eq_false (by omega : ¬ c.1 < 1), decide_eq_false (by omega : ¬ (gv : Int) < c.1)] at hb
    cases hb
theorem badC_nodup {gv : Nat} {cs : List (Int × Rc)} (h : ∀ c, c ∈ cs → badL gv c = false) : badC gv [] cs = !decide ((cs.map (·.1)).Nodup) := by
  by_cases hp : (cs.map (·.1)).Nodup
  · rw [decide_eq_true hp, badC_of (fun c hc => ⟨h c hc, by simp⟩) hp]; rfl
  · rw [decide_eq_false hp]
    cases hb : badC gv [] cs with
    | true => rfl
    | false => exact absurd (List.pairwise_map.2 (bad_no hb).2) hp
/-- the set of the numbers that have come -/
structure MetI (w : World) (m0 : Nat) (ids : List Int) (D : DataW Value) : Prop where
  own : w.ownsMap Try.prog 3 unitElem m0 ids.length D
  has : ∀ x, Maps.has D (kI x) = decide (x ∈ ids)
  num : Maps.size D = ids.length ↔ ids.Nodup
theorem MetI.snoc {w w1 : World} {m0 : Nat} {ids : List Int} {D : DataW Value} (h : MetI w m0 ids D) {x : Int} (ho : w1.ownsMap Try.prog 3 unitElem m0 (ids.length + 1) (D.put (kI x) (.agg []))) : MetI w1 m0 (ids ++ [x]) (D.put (kI x) (.agg [])) := by
  have hle := h.own.size_le
  refine ⟨by rw [List.length_append]; exact ho, fun y => ?_, ?_⟩
  · by_cases hy : y = x
    · subst hy
      rw [Maps.has_put_same h.own.isMap (kI_key y)]
      simp
    · rw [Maps.has_put_other (kI_ne hy), h.has y]
      simp [hy]
  · rw [Maps.size_put (h.own.tidy law_int), h.has x, List.length_append, List.length_singleton]
    by_cases hx : x ∈ ids
    · rw [decide_eq_true hx, if_pos rfl]
      constructor
      · intro e; omega
      · intro hn
        exact absurd hx (by
          rw [List.nodup_append] at hn
          exact fun hm => hn.2.2 x hm x (List.mem_singleton.2 rfl) rfl)
    · rw [decide_eq_false hx, if_neg (by simp)]
      constructor
      · intro e
        exact List.nodup_append.2 ⟨h.num.1 (by omega), by simp, fun a ha c hc => by rw [List.mem_singleton] at hc; subst hc; exact fun e => hx (e ▸ ha)⟩
      · intro hn
        rw [h.num.2 (List.nodup_append.1 hn).1]
theorem MetI.move {w w1 : World} {m0 : Nat} {ids : List Int} {D : DataW Value} (h : MetI w m0 ids D) (hb : w1.heap[m0]? = w.heap[m0]?) : MetI w1 m0 ids D := by
  obtain ⟨es, clock, q0, F, q1, q2⟩ := h.own
  exact ⟨⟨es, clock, hb.trans q0, F, q1, q2⟩, h.has, h.num⟩
theorem MetI.start (w : World) : MetI (w.alloc (.map #[] 0)) w.heap.size [] (.map []) :=
  ⟨World.ownsMap_made w _ _ _, fun _ => rfl, by simp [Maps.size]⟩
set_option maxRecDepth 100000 in
set_option maxHeartbeats 8000000 in
theorem fit_any {Z : Nat → Prop} {B : Nat} {w : World} {b mb n : Nat} {D : DataW Value} {V : Int → Value} {X : Int → List VeV} {gv lt : Nat} (h : PSt Z B w b mb n D V X gv lt) (cs : List ChV) (o : Option Addr) (j : Nat) {F : Nat → Prop} (hc : ChsOn w F (.slice o cs.length j) cs) (hsm : ∀ x, x ∈ cs → RcSm x.2.1) (hcl : cs.length ≤ 2 ^ 44) (hg : gv ≤ 100000) :
    Calls Try.prog 64 #[.pointer (some ⟨b, 0, none⟩), .slice o cs.length j] w fun e w' => e = .returned (.bool (!badC gv [] (cs.map toCh))) ∧ Below w.heap.size w w' := by
  obtain ⟨E, hE⟩ : ∃ E, badC gv [] (cs.map toCh) = E := ⟨_, rfl⟩
  rw [hE]
  have HE := Lib.hid hE
  have H := Lib.hid h
  have HC := Lib.hid (fun wr (hb : Below w.heap.size w wr) => hc.move fun k hk hF => ⟨hF, hb.block k hk⟩)
  have HSM := Lib.hid hsm
  have hbl := h.lt'
  clear h hc hsm hE
  have hmk : ∀ w, (Instr.makeMap 118 none).run Try.prog w = .ok (.map (some w.heap.size)) (w.alloc (.map #[] 0)) := fun w => run_makeMap _ w
  go_enter Try.func64, Try.ntmps64
  go_wp2_with fail
  go_loopw [11] (fun i wr => ∃ (k : Nat) (M : DataW Value), i = .int .i64 (k : Int) ∧ k ≤ cs.length ∧ Hid (Below w.heap.size w wr ∧ w.heap.size < wr.heap.size ∧ MetI wr w.heap.size ((cs.take k).map (·.1)) M ∧ ∀ c, c ∈ cs.take k → badL gv (toCh c) = false)) (fun v _ => cs.length - (RowKit.intOf v).toNat)
  case atStart => exact ⟨0, .map [], rfl, Nat.zero_le _, Lib.hid ⟨(Below.refl _ _).alloc (Nat.le_refl _) _, by simp, MetI.start w, fun c hc => by simp at hc⟩⟩
  case round =>
    obtain ⟨k, M, rfl, hk, HK⟩ := hrel
    have hwr := HK.out.2.1
    by_cases hlt : k < cs.length
    · obtain ⟨g, off, rfl, hg1, hat, hon⟩ := (HC.out _ HK.out.1).reads k hlt
      have hsx := HSM.out _ (List.getElem_mem hlt)
      have hmem : toCh cs[k] ∈ cs.map toCh := List.mem_map_of_mem (List.getElem_mem hlt)
      have htk := List.take_succ_eq_append_getElem hlt
      obtain ⟨Y, hY⟩ : ∃ Y, cs[k] = Y := ⟨_, rfl⟩
      rw [hY] at hat hon hsx hmem htk
      have HTK := Lib.hid htk
      clear hY htk
      obtain ⟨yi, r, va, vb⟩ := Y
      obtain ⟨ok, jk, oa, ja, e1, e2⟩ := hon.form
      dsimp only at e1 e2 hsx
      subst e1 e2
      obtain ⟨a0, a1, a2, a3, a4, a5, a6, a7⟩ := hat.cells
      dsimp only at a0 a1 a2 a3 a4 a5 a6 a7
      obtain ⟨W1, hW1⟩ : ∃ W1, W1 = wr.alloc (vB 73 (.int .i64 yi) (r, .slice ok r.ks.length jk, .slice oa r.ats.length ja)) := ⟨_, rfl⟩
      have hb1 : Below wr.heap.size wr W1 := by rw [hW1]; exact (Below.refl _ _).alloc (Nat.le_refl _) _
      have hs1 : W1.heap.size = wr.heap.size + 1 := by rw [hW1]; simp
      have hk1 : W1.heap[wr.heap.size]? = some (vB 73 (.int .i64 yi) (r, .slice ok r.ks.length jk, .slice oa r.ats.length ja)) := by rw [hW1]; exact World.alloc_heap_new wr _
      obtain ⟨⟨d0, d1, d2, d3, d4, d5, d6, d7⟩, _⟩ := vB_blk hk1
      dsimp only at d0 d1 d2 d3 d4 d5 d6 d7
      have hbw1 := HK.out.1.trans (hb1.mono (by omega))
      have HRT := fun (q : KeptT W1) => Lib.hid (right_any r ok jk oa ja q.at F (((hon.1.move fun b hb0 hF => ⟨hF, hb1.block b hb0⟩ : IntsOn W1 F _ r.ks)).move fun b hb0 hF => ⟨hF, q.ok.block b hb0⟩) (((hon.2.move fun b hb0 hF => ⟨hF, hb1.block b hb0⟩ : IntsOn W1 F _ r.ats)).move fun b hb0 hF => ⟨hF, q.ok.block b hb0⟩) (Nat.le_trans hsx.1 (by decide)) (Nat.le_trans hsx.2 (by decide)))
      have c1 := (H.out.below hbw1).cells.2.1
      have E0 := fun (q : KeptT W1) => (q.ok.cell (p := ⟨wr.heap.size, 0, none⟩) (by simp; omega)).trans d0
      have E1 := fun (q : KeptT W1) => (q.ok.cell (p := ⟨wr.heap.size, 1, none⟩) (by simp; omega)).trans d1
      have E2 := fun (q : KeptT W1) => (q.ok.cell (p := ⟨wr.heap.size, 2, none⟩) (by simp; omega)).trans d2
      have E3 := fun (q : KeptT W1) => (q.ok.cell (p := ⟨wr.heap.size, 3, none⟩) (by simp; omega)).trans d3
      have E4 := fun (q : KeptT W1) => (q.ok.cell (p := ⟨wr.heap.size, 4, none⟩) (by simp; omega)).trans d4
      have E5 := fun (q : KeptT W1) => (q.ok.cell (p := ⟨wr.heap.size, 5, none⟩) (by simp; omega)).trans d5
      have E6 := fun (q : KeptT W1) => (q.ok.cell (p := ⟨wr.heap.size, 6, none⟩) (by simp; omega)).trans d6
      have E7 := fun (q : KeptT W1) => (q.ok.cell (p := ⟨wr.heap.size, 7, none⟩) (by simp; omega)).trans d7
      have C1 := fun (q : KeptT W1) => (q.ok.cell (p := ⟨b, 1, none⟩) (by simp; omega)).trans c1
      have hlb : badL gv (toCh (yi, r, .slice ok r.ks.length jk, .slice oa r.ats.length ja)) = (!rightR r || decide (yi < 1) || decide ((gv : Int) < yi)) := rfl
      have HW1 := Lib.hid hW1
      have HB1 := Lib.hid hb1
      have HMEM := Lib.hid hmem
      unfold vB at HW1
      dsimp only at HW1
      clear hat hon hsx hmem hbw1 hb1 hW1 hk1 d0 d1 d2 d3 d4 d5 d6 d7 c1
      haveI : Nonempty (KeptT W1) := ⟨⟨W1, Below.refl _ _⟩⟩
      cases hr : rightR r with
      | false =>
        rw [hr] at HRT hlb
        clear hr
        replace hlb := hlb.trans (by rfl : _ = true)
        have HE2 := Lib.hid (show E = true by rw [← HE.out]; exact badC_bad HMEM.out hlb)
        clear hlb
        go_wp2_with fail
        rw [← HW1.out]
        refine wp_region_kept (KeptT W1) KeptT.at (by kernel_rfl) (by kernel_rfl) ⟨⟨W1.drew, (Below.refl _ _).drew⟩, rfl⟩ ?_
        repeat (go_big_quiet_step (first
          | (go_at_call 63; rename_i q; with_reducible exact (HRT q).out.mono (fun e w' h => ⟨h.1, q.on h.2⟩))))
        refine wpQuiet_nil ?_
        rintro w' ⟨q, rfl⟩
        have HBQ := Lib.hid ((HK.out.1.trans (HB1.out.mono (by omega))).trans (q.ok.mono (by omega)))
        have i0 := E0 q
        all_goals
          go_wp2_with fail
          go_ret
          exact ⟨by rw [HE2.out]; rfl, HBQ.out⟩
      | true =>
        rw [hr] at HRT hlb
        clear hr
        by_cases h1 : yi < 1
        · have k1 : decide (yi < 1) = true := decide_eq_true h1
          rw [k1] at hlb
          replace hlb := hlb.trans (by rfl : _ = true)
          have HE2 := Lib.hid (show E = true by rw [← HE.out]; exact badC_bad HMEM.out hlb)
          clear hlb
          go_wp2_with fail
          rw [← HW1.out]
          refine wp_region_kept (KeptT W1) KeptT.at (by kernel_rfl) (by kernel_rfl) ⟨⟨W1.drew, (Below.refl _ _).drew⟩, rfl⟩ ?_
          repeat (go_big_quiet_step (first
            | (go_at_call 63; rename_i q; with_reducible exact (HRT q).out.mono (fun e w' h => ⟨h.1, q.on h.2⟩))))
          refine wpQuiet_nil ?_
          rintro w' ⟨q, rfl⟩
          have HBQ := Lib.hid ((HK.out.1.trans (HB1.out.mono (by omega))).trans (q.ok.mono (by omega)))
          have i0 := E0 q
          all_goals
            go_wp2_with fail
            go_ret
            exact ⟨by rw [HE2.out]; rfl, HBQ.out⟩
        · have k1 : decide (yi < 1) = false := decide_eq_false h1
          rw [k1] at hlb
          by_cases h2 : (gv : Int) < yi
          · have k2 : decide ((gv : Int) < yi) = true := decide_eq_true h2
            rw [k2] at hlb
            replace hlb := hlb.trans (by rfl : _ = true)
            have HE2 := Lib.hid (show E = true by rw [← HE.out]; exact badC_bad HMEM.out hlb)
            clear hlb
            go_wp2_with fail
            rw [← HW1.out]
            refine wp_region_kept (KeptT W1) KeptT.at (by kernel_rfl) (by kernel_rfl) ⟨⟨W1.drew, (Below.refl _ _).drew⟩, rfl⟩ ?_
            repeat (go_big_quiet_step (first
              | (go_at_call 63; rename_i q; with_reducible exact (HRT q).out.mono (fun e w' h => ⟨h.1, q.on h.2⟩))))
            refine wpQuiet_nil ?_
            rintro w' ⟨q, rfl⟩
            have HBQ := Lib.hid ((HK.out.1.trans (HB1.out.mono (by omega))).trans (q.ok.mono (by omega)))
            have i0 := E0 q
            all_goals
              go_wp2_with fail
              go_ret
              exact ⟨by rw [HE2.out]; rfl, HBQ.out⟩
          · have k2 : decide ((gv : Int) < yi) = false := decide_eq_false h2
            rw [k2] at hlb
            replace hlb := hlb.trans (by rfl : _ = false)
            have hwf := wf_small (x := yi) (by omega) (by omega)
            have HLB := Lib.hid hlb
            clear hlb
            go_wp2_with fail
            rw [← HW1.out]
            refine wp_region_kept (KeptT W1) KeptT.at (by kernel_rfl) (by kernel_rfl) ⟨⟨W1.drew, (Below.refl _ _).drew⟩, rfl⟩ ?_
            repeat (go_big_quiet_step (first
              | (go_at_call 63; rename_i q; with_reducible exact (HRT q).out.mono (fun e w' h => ⟨h.1, q.on h.2⟩))))
            refine wpQuiet_nil ?_
            rintro w' ⟨q, rfl⟩
            have HBQ := Lib.hid ((HK.out.1.trans (HB1.out.mono (by omega))).trans (q.ok.mono (by omega)))
            have i0 := E0 q
            have hme : MetI q.at w.heap.size ((cs.take k).map (·.1)) M := HK.out.2.2.1.move ((q.ok.block w.heap.size (by omega)).trans (HB1.out.block w.heap.size (by omega)))
            have hkl : ((cs.take k).map (·.1)).length = k := by rw [List.length_map, List.length_take]; omega
            have HME := Lib.hid hme
            have hqs := q.ok.size
            clear hme
            go_wp2_with (first
              | (at_mapUpdate; refine wpList_mapUpdate_in _ rfl _ _ _ 118 rfl 3 119 law_int Try.underlying118 unitElem w.heap.size _ M rfl HME.out.own (by rw [hkl]; unfold maxLen; omega) _ _ (kI yi) rfl rfl (key_int hwf) (.agg []) [] unitElem_mk ?_; intro w5 hown5 hturn5; have HM5 := Lib.hid (HME.out.snoc hown5); have HT5 := Lib.hid hturn5; clear hown5 hturn5)
              | fail)
            have hg5 := HT5.out.grown
            refine ⟨⟨k + 1, _, by rw [Int.natCast_add]; rfl, by omega, Lib.hid ⟨HBQ.out.grown hg5 (by omega) (fun k hk => by cases hk; exact Nat.le_refl _), by have := hg5.size; omega, by rw [HTK.out, List.map_append]; exact HM5.out, fun c hc => ?_⟩⟩, by simp [RowKit.intOf]; omega⟩
            rw [HTK.out, List.mem_append, List.mem_singleton] at hc
            rcases hc with hc | rfl
            · exact HK.out.2.2.2 c hc
            · exact HLB.out
    · have hke : k = cs.length := by omega
      have hall := HK.out.2.2.2
      rw [hke, List.take_length] at hall
      have hE3 : badC gv [] (cs.map toCh) = !decide (((cs.map toCh).map (·.1)).Nodup) := badC_nodup fun c hc => by
        obtain ⟨c', hc', rfl⟩ := List.mem_map.1 hc
        exact hall c' hc'
      have hme := HK.out.2.2.1
      rw [hke, List.take_length] at hme
      have hsz := hme.own.size_le
      rw [List.length_map] at hsz
      have hnum := hme.num
      rw [List.length_map] at hnum
      have HME := Lib.hid hme
      have HEE : Hid (E = !decide (Maps.size M = cs.length)) := Lib.hid (by
        rw [← HE.out, hE3, List.map_map]
        congr 1
        exact decide_eq_decide.2 hnum.symm)
      have HBK := Lib.hid HK.out.1
      clear HK hall hE3 hme hnum
      by_cases hq : Maps.size M = cs.length
      · have k1 : ((Maps.size M : Int) == (cs.length : Int)) = true := by rw [hq, beq_self_eq_true]
        go_wp2_with (refine wpList_len_own _ rfl _ 118 rfl 3 119 Try.underlying118 _ w.heap.size _ M rfl HME.out.own ?_)
        go_ret
        exact ⟨by rw [HEE.out, decide_eq_true hq]; rfl, HBK.out⟩
      · have k1 : ((Maps.size M : Int) == (cs.length : Int)) = false := by rw [beq_eq_false_iff_ne]; omega
        go_wp2_with (refine wpList_len_own _ rfl _ 118 rfl 3 119 Try.underlying118 _ w.heap.size _ M rfl HME.out.own ?_)
        go_ret
        exact ⟨by rw [HEE.out, decide_eq_false hq]; rfl, HBK.out⟩
end Go.Proofs.Ytpimdmjhnogelaa.Char
