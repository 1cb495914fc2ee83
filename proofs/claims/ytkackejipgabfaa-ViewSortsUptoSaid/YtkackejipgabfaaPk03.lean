/- QuietK Fit9 RefAt At9 -/
import Derived.Test.YtkackejipgabfaaPk00
import Derived.Deep.QuietTactic
import Derived.BigQuiet
import Derived.Test.YtkackejipgabfaaPk01
import Derived.Test.YtkackejipgabfaaPk02
/- A region that draws its order, over worlds that keep what lay: loads of what lay, and calls that make memory. -/
namespace Go.Proofs.Ytkackejipgabfaa.Char
open Go.RowKit Go.Lib

/-- the worlds that keep what lay below -/
def KeptT (w : World) : Type := { W : World // Below w.heap.size w W }
def KeptT.at {w : World} (q : KeptT w) : World := q.1
theorem KeptT.ok {w : World} (q : KeptT w) : Below w.heap.size w q.at := q.2
theorem KeptT.on {w W' : World} (q : KeptT w) (h : Below q.at.heap.size q.at W') : ∃ q' : KeptT w, W' = q'.at := ⟨⟨W', q.ok.trans (h.mono q.ok.size)⟩, rfl⟩
instance (w : World) : Nonempty (KeptT w) := ⟨⟨w, Below.refl _ _⟩⟩
/-- a region that draws its order, over worlds that keep what lay below -/
theorem wp_region_kept {P : Program} {id : Nat} {Q : Exit → Act → World → Prop} {a : Act} {w : World} {l : List Oper} (T : Type) (f : T → World) (hm : P.follows .mixedOrders = true) (hB : Region.lexB .any l.toArray = true)
    (h0 : ∃ q : T, w.drew = f q) (h : wpQuiet P l.toArray (fun w' => ∃ q : T, w' = f q) (fun a' => ∀ w', (∃ q : T, w' = f q) → Q .normal a' w') l a) : (Code.region id l.toArray true).wp P Q a w :=
  wp_region_quiet (C := fun w' => ∃ q : T, w' = f q) hm hB h0 (by simpa using h)
end Go.Proofs.Ytkackejipgabfaa.Char

/- The walk of fit: may these changes be laid? -/
namespace Go.Proofs.Ytkackejipgabfaa.Char
open Go.RowKit Go.Lib

/-- one change that may not be laid, whatever the others are -/
def badL (gv : Nat) (c : Int × Rc) : Bool := !rightR c.2 || decide (c.1 < 1) || decide ((gv : Int) < c.1)
theorem badC_of {gv : Nat} : ∀ {cs : List (Int × Rc)} {seen : List Int}, (∀ c, c ∈ cs → badL gv c = false ∧ c.1 ∉ seen) → (cs.map (·.1)).Nodup → badC gv seen cs = false
  | [], _, _, _ => rfl
  | c :: r, seen, h, hp => by
    rw [List.map_cons, List.nodup_cons] at hp
    obtain ⟨h1, h2⟩ := h c List.mem_cons_self
    unfold badL at h1
    rw [Bool.or_eq_false_iff, Bool.or_eq_false_iff] at h1
    obtain ⟨⟨a1, a2⟩, a3⟩ := h1
    rw [badC, a1, a2, a3, badC_of (seen := seen ++ [c.1]) (fun x hx => ⟨(h x (List.mem_cons_of_mem _ hx)).1, fun hs => by
      rw [List.mem_append, List.mem_singleton] at hs
      rcases hs with hs | hs
      · exact (h x (List.mem_cons_of_mem _ hx)).2 hs
      · exact hp.1 (hs ▸ List.mem_map_of_mem hx)⟩) hp.2]
    simpa using h2
theorem badC_bad {gv : Nat} {cs : List (Int × Rc)} {c : Int × Rc} (hc : c ∈ cs) (hb : badL gv c = true) : badC gv [] cs = true := by
  cases h : badC gv [] cs with
  | true => rfl
  | false =>
    obtain ⟨a, b, d, _⟩ := (bad_no h).1 c hc
    unfold badL at hb
    rw [d, decide_eq_false (by omega : ¬ c.1 < 1), decide_eq_false (by omega : ¬ (gv : Int) < c.1)] at hb
    cases hb
theorem badC_nodup {gv : Nat} {cs : List (Int × Rc)} (h : ∀ c, c ∈ cs → badL gv c = false) : badC gv [] cs = !decide ((cs.map (·.1)).Nodup) := by
  by_cases hp : (cs.map (·.1)).Nodup
  · rw [decide_eq_true hp, badC_of (fun c hc => ⟨h c hc, by simp⟩) hp]; rfl
  · rw [decide_eq_false hp]
    cases hb : badC gv [] cs with
    | true => rfl
    | false => exact absurd (List.pairwise_map.2 (bad_no hb).2) hp
/-- the set of the numbers that have come -/
structure MetI (w : World) (m0 : Nat) (ids : List Int) (D : DataW Value) : Prop where
  own : w.ownsMap Try.prog 3 unitElem m0 ids.length D
  has : ∀ x, Maps.has D (kI x) = decide (x ∈ ids)
  num : Maps.size D = ids.length ↔ ids.Nodup
theorem MetI.snoc {w w1 : World} {m0 : Nat} {ids : List Int} {D : DataW Value} (h : MetI w m0 ids D) {x : Int} (ho : w1.ownsMap Try.prog 3 unitElem m0 (ids.length + 1) (D.put (kI x) (.agg []))) : MetI w1 m0 (ids ++ [x]) (D.put (kI x) (.agg [])) := by
  have hle := h.own.size_le
  refine ⟨by rw [List.length_append]; exact ho, fun y => ?_, ?_⟩
  · by_cases hy : y = x
    · subst hy
      rw [Maps.has_put_same h.own.isMap (kI_key y)]
      simp
    · rw [Maps.has_put_other (kI_ne hy), h.has y]
      simp [hy]
  · rw [Maps.size_put (h.own.tidy law_int), h.has x, List.length_append, List.length_singleton]
    by_cases hx : x ∈ ids
    · rw [decide_eq_true hx, if_pos rfl]
      constructor
      · intro e; omega
      · intro hn
        exact absurd hx (by
          rw [List.nodup_append] at hn
          exact fun hm => hn.2.2 x hm x (List.mem_singleton.2 rfl) rfl)
    · rw [decide_eq_false hx, if_neg (by simp)]
      constructor
      · intro e
        exact List.nodup_append.2 ⟨h.num.1 (by omega), by simp, fun a ha c hc => by rw [List.mem_singleton] at hc; subst hc; exact fun e => hx (e ▸ ha)⟩
      · intro hn
        rw [h.num.2 (List.nodup_append.1 hn).1]
theorem MetI.move {w w1 : World} {m0 : Nat} {ids : List Int} {D : DataW Value} (h : MetI w m0 ids D) (hb : w1.heap[m0]? = w.heap[m0]?) : MetI w1 m0 ids D := by
  obtain ⟨es, clock, q0, F, q1, q2⟩ := h.own
  exact ⟨⟨es, clock, hb.trans q0, F, q1, q2⟩, h.has, h.num⟩
theorem MetI.start (w : World) : MetI (w.alloc (.map #[] 0)) w.heap.size [] (.map []) :=
  ⟨World.ownsMap_made w _ _ _, fun _ => rfl, by simp [Maps.size]⟩
set_option maxRecDepth 100000 in
set_option maxHeartbeats 8000000 in
theorem fit_any {Z : Nat → Prop} {B : Nat} {w : World} {b mb n : Nat} {D : DataW Value} {V : Int → Value} {X : Int → List VeV} {gv lt : Nat} (h : PSt Z B w b mb n D V X gv lt) (cs : List ChV) (o : Option Addr) (j : Nat) {F : Nat → Prop} (hc : ChsOn w F (.slice o cs.length j) cs) (hsm : ∀ x, x ∈ cs → RcSm x.2.1) (hcl : cs.length ≤ 2 ^ 44) (hg : gv ≤ 10000000) :
    Calls Try.prog 56 #[.pointer (some ⟨b, 0, none⟩), .slice o cs.length j] w fun e w' => e = .returned (.bool (!badC gv [] (cs.map toCh))) ∧ Below w.heap.size w w' := by
  obtain ⟨E, hE⟩ : ∃ E, badC gv [] (cs.map toCh) = E := ⟨_, rfl⟩
  rw [hE]
  have HE := Lib.hid hE
  have H := Lib.hid h
  have HC := Lib.hid (fun wr (hb : Below w.heap.size w wr) => hc.move fun k hk hF => ⟨hF, hb.block k hk⟩)
  have HSM := Lib.hid hsm
  have hbl := h.lt'
  clear h hc hsm hE
  have hmk : ∀ w, (Instr.makeMap 104 none).run Try.prog w = .ok (.map (some w.heap.size)) (w.alloc (.map #[] 0)) := fun w => run_makeMap _ w
  go_enter Try.func56, Try.ntmps56
  go_wp2_with fail
  go_loopw [11] (fun i wr => ∃ (k : Nat) (M : DataW Value), i = .int .i64 (k : Int) ∧ k ≤ cs.length ∧ Hid (Below w.heap.size w wr ∧ w.heap.size < wr.heap.size ∧ MetI wr w.heap.size ((cs.take k).map (·.1)) M ∧ ∀ c, c ∈ cs.take k → badL gv (toCh c) = false)) (fun v _ => cs.length - (RowKit.intOf v).toNat)
  case atStart => exact ⟨0, .map [], rfl, Nat.zero_le _, Lib.hid ⟨(Below.refl _ _).alloc (Nat.le_refl _) _, by simp, MetI.start w, fun c hc => by simp at hc⟩⟩
  case round =>
    obtain ⟨k, M, rfl, hk, HK⟩ := hrel
    have hwr := HK.out.2.1
    by_cases hlt : k < cs.length
    · obtain ⟨g, off, rfl, hg1, hat, hon⟩ := (HC.out _ HK.out.1).reads k hlt
      have hsx := HSM.out _ (List.getElem_mem hlt)
      have hmem : toCh cs[k] ∈ cs.map toCh := List.mem_map_of_mem (List.getElem_mem hlt)
      have htk := List.take_succ_eq_append_getElem hlt
      obtain ⟨Y, hY⟩ : ∃ Y, cs[k] = Y := ⟨_, rfl⟩
      rw [hY] at hat hon hsx hmem htk
      have HTK := Lib.hid htk
      clear hY htk
      obtain ⟨yi, r, va, vb⟩ := Y
      obtain ⟨ok, jk, oa, ja, e1, e2⟩ := hon.form
      dsimp only at e1 e2 hsx
      subst e1 e2
      obtain ⟨a0, a1, a2, a3, a4, a5, a6, a7⟩ := hat.cells
      dsimp only at a0 a1 a2 a3 a4 a5 a6 a7
      obtain ⟨W1, hW1⟩ : ∃ W1, W1 = wr.alloc (vB 56 (.int .i64 yi) (r, .slice ok r.ks.length jk, .slice oa r.ats.length ja)) := ⟨_, rfl⟩
      have hb1 : Below wr.heap.size wr W1 := by rw [hW1]; exact (Below.refl _ _).alloc (Nat.le_refl _) _
      have hs1 : W1.heap.size = wr.heap.size + 1 := by rw [hW1]; simp
      have hk1 : W1.heap[wr.heap.size]? = some (vB 56 (.int .i64 yi) (r, .slice ok r.ks.length jk, .slice oa r.ats.length ja)) := by rw [hW1]; exact World.alloc_heap_new wr _
      obtain ⟨⟨d0, d1, d2, d3, d4, d5, d6, d7⟩, _⟩ := vB_blk hk1
      dsimp only at d0 d1 d2 d3 d4 d5 d6 d7
      have hbw1 := HK.out.1.trans (hb1.mono (by omega))
      have HRT := fun (q : KeptT W1) => Lib.hid (right_any r ok jk oa ja q.at F (((hon.1.move fun b hb0 hF => ⟨hF, hb1.block b hb0⟩ : IntsOn W1 F _ r.ks)).move fun b hb0 hF => ⟨hF, q.ok.block b hb0⟩) (((hon.2.move fun b hb0 hF => ⟨hF, hb1.block b hb0⟩ : IntsOn W1 F _ r.ats)).move fun b hb0 hF => ⟨hF, q.ok.block b hb0⟩) (Nat.le_trans hsx.1 (by decide)) (Nat.le_trans hsx.2 (by decide)))
      have c1 := (H.out.below hbw1).cells.2.1
      have E0 := fun (q : KeptT W1) => (q.ok.cell (p := ⟨wr.heap.size, 0, none⟩) (by simp; omega)).trans d0
      have E1 := fun (q : KeptT W1) => (q.ok.cell (p := ⟨wr.heap.size, 1, none⟩) (by simp; omega)).trans d1
      have E2 := fun (q : KeptT W1) => (q.ok.cell (p := ⟨wr.heap.size, 2, none⟩) (by simp; omega)).trans d2
      have E3 := fun (q : KeptT W1) => (q.ok.cell (p := ⟨wr.heap.size, 3, none⟩) (by simp; omega)).trans d3
      have E4 := fun (q : KeptT W1) => (q.ok.cell (p := ⟨wr.heap.size, 4, none⟩) (by simp; omega)).trans d4
      have E5 := fun (q : KeptT W1) => (q.ok.cell (p := ⟨wr.heap.size, 5, none⟩) (by simp; omega)).trans d5
      have E6 := fun (q : KeptT W1) => (q.ok.cell (p := ⟨wr.heap.size, 6, none⟩) (by simp; omega)).trans d6
      have E7 := fun (q : KeptT W1) => (q.ok.cell (p := ⟨wr.heap.size, 7, none⟩) (by simp; omega)).trans d7
      have C1 := fun (q : KeptT W1) => (q.ok.cell (p := ⟨b, 1, none⟩) (by simp; omega)).trans c1
      have hlb : badL gv (toCh (yi, r, .slice ok r.ks.length jk, .slice oa r.ats.length ja)) = (!rightR r || decide (yi < 1) || decide ((gv : Int) < yi)) := rfl
      have HW1 := Lib.hid hW1
      have HB1 := Lib.hid hb1
      have HMEM := Lib.hid hmem
      unfold vB at HW1
      dsimp only at HW1
      clear hat hon hsx hmem hbw1 hb1 hW1 hk1 d0 d1 d2 d3 d4 d5 d6 d7 c1
      haveI : Nonempty (KeptT W1) := ⟨⟨W1, Below.refl _ _⟩⟩
      cases hr : rightR r with
      | false =>
        rw [hr] at HRT hlb
        clear hr
        replace hlb := hlb.trans (by rfl : _ = true)
        have HE2 := Lib.hid (show E = true by rw [← HE.out]; exact badC_bad HMEM.out hlb)
        clear hlb
        go_wp2_with fail
        rw [← HW1.out]
        refine wp_region_kept (KeptT W1) KeptT.at (by kernel_rfl) (by kernel_rfl) ⟨⟨W1.drew, (Below.refl _ _).drew⟩, rfl⟩ ?_
        repeat (go_big_quiet_step (first
          | (go_at_call 53; rename_i q; with_reducible exact (HRT q).out.mono (fun e w' h => ⟨h.1, q.on h.2⟩))))
        refine wpQuiet_nil ?_
        rintro w' ⟨q, rfl⟩
        have HBQ := Lib.hid ((HK.out.1.trans (HB1.out.mono (by omega))).trans (q.ok.mono (by omega)))
        have i0 := E0 q
        all_goals
          go_wp2_with fail
          go_ret
          exact ⟨by rw [HE2.out]; rfl, HBQ.out⟩
      | true =>
        rw [hr] at HRT hlb
        clear hr
        by_cases h1 : yi < 1
        · have k1 : decide (yi < 1) = true := decide_eq_true h1
          rw [k1] at hlb
          replace hlb := hlb.trans (by rfl : _ = true)
          have HE2 := Lib.hid (show E = true by rw [← HE.out]; exact badC_bad HMEM.out hlb)
          clear hlb
          go_wp2_with fail
          rw [← HW1.out]
          refine wp_region_kept (KeptT W1) KeptT.at (by kernel_rfl) (by kernel_rfl) ⟨⟨W1.drew, (Below.refl _ _).drew⟩, rfl⟩ ?_
          repeat (go_big_quiet_step (first
            | (go_at_call 53; rename_i q; with_reducible exact (HRT q).out.mono (fun e w' h => ⟨h.1, q.on h.2⟩))))
          refine wpQuiet_nil ?_
          rintro w' ⟨q, rfl⟩
          have HBQ := Lib.hid ((HK.out.1.trans (HB1.out.mono (by omega))).trans (q.ok.mono (by omega)))
          have i0 := E0 q
          all_goals
            go_wp2_with fail
            go_ret
            exact ⟨by rw [HE2.out]; rfl, HBQ.out⟩
        · have k1 : decide (yi < 1) = false := decide_eq_false h1
          rw [k1] at hlb
          by_cases h2 : (gv : Int) < yi
          · have k2 : decide ((gv : Int) < yi) = true := decide_eq_true h2
            rw [k2] at hlb
            replace hlb := hlb.trans (by rfl : _ = true)
            have HE2 := Lib.hid (show E = true by rw [← HE.out]; exact badC_bad HMEM.out hlb)
            clear hlb
            go_wp2_with fail
            rw [← HW1.out]
            refine wp_region_kept (KeptT W1) KeptT.at (by kernel_rfl) (by kernel_rfl) ⟨⟨W1.drew, (Below.refl _ _).drew⟩, rfl⟩ ?_
            repeat (go_big_quiet_step (first
              | (go_at_call 53; rename_i q; with_reducible exact (HRT q).out.mono (fun e w' h => ⟨h.1, q.on h.2⟩))))
            refine wpQuiet_nil ?_
            rintro w' ⟨q, rfl⟩
            have HBQ := Lib.hid ((HK.out.1.trans (HB1.out.mono (by omega))).trans (q.ok.mono (by omega)))
            have i0 := E0 q
            all_goals
              go_wp2_with fail
              go_ret
              exact ⟨by rw [HE2.out]; rfl, HBQ.out⟩
          · have k2 : decide ((gv : Int) < yi) = false := decide_eq_false h2
            rw [k2] at hlb
            replace hlb := hlb.trans (by rfl : _ = false)
            have hwf := wf_small (x := yi) (by omega) (by omega)
            have HLB := Lib.hid hlb
            clear hlb
            go_wp2_with fail
            rw [← HW1.out]
            refine wp_region_kept (KeptT W1) KeptT.at (by kernel_rfl) (by kernel_rfl) ⟨⟨W1.drew, (Below.refl _ _).drew⟩, rfl⟩ ?_
            repeat (go_big_quiet_step (first
              | (go_at_call 53; rename_i q; with_reducible exact (HRT q).out.mono (fun e w' h => ⟨h.1, q.on h.2⟩))))
            refine wpQuiet_nil ?_
            rintro w' ⟨q, rfl⟩
            have HBQ := Lib.hid ((HK.out.1.trans (HB1.out.mono (by omega))).trans (q.ok.mono (by omega)))
            have i0 := E0 q
            have hme : MetI q.at w.heap.size ((cs.take k).map (·.1)) M := HK.out.2.2.1.move ((q.ok.block w.heap.size (by omega)).trans (HB1.out.block w.heap.size (by omega)))
            have hkl : ((cs.take k).map (·.1)).length = k := by rw [List.length_map, List.length_take]; omega
            have HME := Lib.hid hme
            have hqs := q.ok.size
            clear hme
            go_wp2_with (first
              | (at_mapUpdate; refine wpList_mapUpdate_in _ rfl _ _ _ 104 rfl 3 105 law_int Try.underlying104 unitElem w.heap.size _ M rfl HME.out.own (by rw [hkl]; unfold maxLen; omega) _ _ (kI yi) rfl rfl (key_int hwf) (.agg []) [] unitElem_mk ?_; intro w5 hown5 hturn5; have HM5 := Lib.hid (HME.out.snoc hown5); have HT5 := Lib.hid hturn5; clear hown5 hturn5)
              | fail)
            have hg5 := HT5.out.grown
            refine ⟨⟨k + 1, _, by rw [Int.natCast_add]; rfl, by omega, Lib.hid ⟨HBQ.out.grown hg5 (by omega) (fun k hk => by cases hk; exact Nat.le_refl _), by have := hg5.size; omega, by rw [HTK.out, List.map_append]; exact HM5.out, fun c hc => ?_⟩⟩, by simp [RowKit.intOf]; omega⟩
            rw [HTK.out, List.mem_append, List.mem_singleton] at hc
            rcases hc with hc | rfl
            · exact HK.out.2.2.2 c hc
            · exact HLB.out
    · have hke : k = cs.length := by omega
      have hall := HK.out.2.2.2
      rw [hke, List.take_length] at hall
      have hE3 : badC gv [] (cs.map toCh) = !decide (((cs.map toCh).map (·.1)).Nodup) := badC_nodup fun c hc => by
        obtain ⟨c', hc', rfl⟩ := List.mem_map.1 hc
        exact hall c' hc'
      have hme := HK.out.2.2.1
      rw [hke, List.take_length] at hme
      have hsz := hme.own.size_le
      rw [List.length_map] at hsz
      have hnum := hme.num
      rw [List.length_map] at hnum
      have HME := Lib.hid hme
      have HEE : Hid (E = !decide (Maps.size M = cs.length)) := Lib.hid (by
        rw [← HE.out, hE3, List.map_map]
        congr 1
        exact decide_eq_decide.2 hnum.symm)
      have HBK := Lib.hid HK.out.1
      clear HK hall hE3 hme hnum
      by_cases hq : Maps.size M = cs.length
      · have k1 : ((Maps.size M : Int) == (cs.length : Int)) = true := by rw [hq, beq_self_eq_true]
        go_wp2_with (refine wpList_len_own _ rfl _ 104 rfl 3 105 Try.underlying104 _ w.heap.size _ M rfl HME.out.own ?_)
        go_ret
        exact ⟨by rw [HEE.out, decide_eq_true hq]; rfl, HBK.out⟩
      · have k1 : ((Maps.size M : Int) == (cs.length : Int)) = false := by rw [beq_eq_false_iff_ne]; omega
        go_wp2_with (refine wpList_len_own _ rfl _ 104 rfl 3 105 Try.underlying104 _ w.heap.size _ M rfl HME.out.own ?_)
        go_ret
        exact ⟨by rw [HEE.out, decide_eq_false hq]; rfl, HBK.out⟩
end Go.Proofs.Ytkackejipgabfaa.Char

/- The walk of the document's own At. -/
namespace Go.Proofs.Ytkackejipgabfaa.Char
open Go.RowKit Go.Lib

/-- the last of a node's versions that is not above a time -/
def atF (id : Int) (t : Nat) (x : OnV) : Bool := decide (x.1 = id) && decide (x.2.1 ≤ t)
def atL (id : Int) (t : Nat) (xs : List OnV) : Option OnV := (xs.filter (atF id t)).getLast?
theorem atL_step {id : Int} {t : Nat} {xs : List OnV} {k : Nat} (h : k < xs.length) : atL id t (xs.take (k + 1)) = if atF id t xs[k] then some xs[k] else atL id t (xs.take k) := by
  unfold atL
  rw [List.take_succ_eq_append_getElem h, List.filter_append]
  by_cases hf : atF id t xs[k] = true
  · rw [if_pos hf]; simp [hf]
  · rw [if_neg hf]; simp [hf]
/-- what At tells -/
def atR : Option OnV → RcV × Bool
  | none => (rcV0, false)
  | some x => if x.2.2.1.gone then (rcV0, false) else (x.2.2, true)
/-- what has been found so far -/
structure AtI (B : Nat) (w : World) (c : Option OnV) (wr : World) (x : RcV) (is : Bool) : Prop where
  bel : Below w.heap.size w wr
  res : wr.heap[w.heap.size]? = some (rcB rcV0)
  cur : wr.heap[w.heap.size + 1]? = some (rcB x)
  on : RcOn w (fun g => g < B) x
  val : (x, is) = match c with
    | none => (rcV0, false)
    | some y => (y.2.2, true)
theorem AtI.store {B : Nat} {w : World} {c : Option OnV} {wr : World} {x : RcV} {is : Bool} (h : AtI B w c wr x is) {y : OnV} (hy : RcOn w (fun g => g < B) y.2.2) : AtI B w (some y) (set7 wr (w.heap.size + 1) y.2.2) y.2.2 true :=
  ⟨set7_below h.bel (Nat.le_succ _), (set7_ne (by omega)).trans h.res, set7_at h.cur, hy, rfl⟩
set_option maxRecDepth 100000 in
set_option maxHeartbeats 4000000 in
theorem refAt_any {B : Nat} {w : World} {b : Nat} {v : Value} {xs : List OnV} {gv lt : Nat} (h : RefS B w b v xs gv lt) (id : Int) (t : Nat) (hl : xs.length ≤ 100000000) :
    Calls Try.prog 106 #[.pointer (some ⟨b, 0, none⟩), .int .i64 id, .int .u64 (t : Int)] w fun e w' => e = .returned (.tuple #[rcV (atR (atL id t xs)).1, .bool (atR (atL id t xs)).2]) ∧ Below w.heap.size w w' := by
  have H := Lib.hid h
  obtain ⟨o, j, rfl⟩ := h.row.form
  obtain ⟨X, hX⟩ : ∃ X, atR (atL id t xs) = X := ⟨_, rfl⟩
  rw [hX]
  have HX := Lib.hid hX
  clear hX
  obtain ⟨W0, hW0⟩ : ∃ W0, W0 = (w.alloc (rcB rcV0)).alloc (rcB rcV0) := ⟨_, rfl⟩
  have b0 : Below w.heap.size w W0 := by rw [hW0]; exact ((Below.refl _ _).alloc (Nat.le_refl _) _).alloc (by simp) _
  have hI0 : AtI B w (atL id t (xs.take 0)) W0 rcV0 false := by
    refine ⟨b0, ?_, ?_, RcOn.none _ _, rfl⟩
    · rw [hW0, Below.heap_alloc _ _ _ (by simp)]; exact World.alloc_heap_new w _
    · rw [hW0]; have := World.alloc_heap_new (w.alloc (rcB rcV0)) (rcB rcV0); simpa using this
  have HI := Lib.hid hI0
  have HW0 := Lib.hid hW0
  have HO := Lib.hid h.row.2
  have HR := Lib.hid (fun wr (hb : Below w.heap.size w wr) => h.below hb)
  have c0 := ((h.below b0).cells).1
  clear h hI0 b0 hW0
  unfold rcB rcV0 rc0 at HW0
  dsimp only at HW0
  go_enter Try.func106, Try.ntmps106
  go_wp2_with fail
  have e0 : (⟨#[]⟩ : ByteArray) = bs [] := rfl
  rw [e0, ← HW0.out]
  clear e0
  go_loopw [9, 10] (fun i v wr => ∃ k : Nat, ∃ x : RcV, ∃ is : Bool, v = .int .i64 (k : Int) ∧ i = .bool is ∧ k ≤ xs.length ∧ Hid (AtI B w (atL id t (xs.take k)) wr x is)) (fun _ v _ => xs.length - (RowKit.intOf v).toNat)
  case atStart => exact ⟨0, rcV0, false, rfl, rfl, Nat.zero_le _, HI⟩
  case round =>
    obtain ⟨k, x, is, rfl, rfl, hk, HK⟩ := hrel
    have hS := HR.out _ HK.out.bel
    obtain ⟨c0, _, _, _⟩ := hS.cells
    by_cases hlt : k < xs.length
    · obtain ⟨g, rfl, hg1, hg2, a0, a1, a2, a3, a4, a5, a6, a7, a8, hon⟩ := hS.row.reads k hlt
      have hst := atL_step (id := id) (t := t) hlt
      have HON := Lib.hid (HO.out _ (List.getElem_mem hlt))
      generalize xs[k] = y at *
      obtain ⟨yi, yt, r, va, vb⟩ := y
      obtain ⟨ok, jk, oa, ja, e1, e2⟩ := hon.form
      dsimp only at e1 e2
      subst e1 e2
      dsimp only at a0 a1 a2 a3 a4 a5 a6 a7 a8
      have HST := Lib.hid hst
      have hun : ∀ c, atF id t (yi, yt, r, .slice ok r.ks.length jk, .slice oa r.ats.length ja) = c → atL id t (xs.take (k + 1)) = if c then some (yi, yt, r, .slice ok r.ks.length jk, .slice oa r.ats.length ja) else atL id t (xs.take k) := fun c hc => by rw [HST.out, hc]
      have HUN := Lib.hid hun
      clear hst HST hun hS hon
      by_cases hi : yi = id
      · have k1 : (yi == id) = true := by rw [hi, beq_self_eq_true]
        by_cases ht : yt ≤ t
        · have k2 : (yt : Int) ≤ (t : Int) := by omega
          have HA := Lib.hid (HUN.out true (by unfold atF; rw [decide_eq_true hi, decide_eq_true ht]; rfl))
          obtain ⟨⟨z0, z1, z2, z3, z4, z5, z6⟩, hfr⟩ := rc_blk HK.out.cur
          have f0 := hfr 0
          have f1 := hfr 1
          have f2 := hfr 2
          have f3 := hfr 3
          have f4 := hfr 4
          have f5 := hfr 5
          have f6 := hfr 6
          clear HUN hi ht hfr
          go_wp2_with fail
          exact ⟨⟨k + 1, (r, .slice ok r.ks.length jk, .slice oa r.ats.length ja), true, by go_num, rfl, by omega, Lib.hid (by rw [HA.out]; exact HK.out.store HON.out)⟩, by simp [RowKit.intOf]; omega⟩
        · have k2 : ¬ (yt : Int) ≤ (t : Int) := by omega
          have HA := Lib.hid (HUN.out false (by unfold atF; rw [decide_eq_false ht, Bool.and_false]))
          clear HUN hi ht
          go_wp2_with fail
          go_roundw
          case rel => exact ⟨k + 1, x, is, by go_num, rfl, by omega, Lib.hid (by rw [HA.out]; exact HK.out)⟩
          case measure => simp [RowKit.intOf]; omega
      · have k1 : (yi == id) = false := beq_eq_false_iff_ne.2 hi
        have HA := Lib.hid (HUN.out false (by unfold atF; rw [decide_eq_false hi, Bool.false_and]))
        clear HUN hi
        go_wp2_with fail
        go_roundw
        case rel => exact ⟨k + 1, x, is, by go_num, rfl, by omega, Lib.hid (by rw [HA.out]; exact HK.out)⟩
        case measure => simp [RowKit.intOf]; omega
    · have e : k = xs.length := by omega
      subst e
      rw [List.take_length] at HK
      obtain ⟨⟨z0, z1, z2, z3, z4, z5, z6⟩, hfr⟩ := rc_blk HK.out.cur
      obtain ⟨⟨y0, y1, y2, y3, y4, y5, y6⟩, hfq⟩ := rc_blk HK.out.res
      have f0 := hfq 0
      have f1 := hfq 1
      have f2 := hfq 2
      have f3 := hfq 3
      have f4 := hfq 4
      have f5 := hfq 5
      have f6 := hfq 6
      have hval := HK.out.val
      have hon := HK.out.on
      clear hfr hfq hS
      cases hg : atL id t xs with
      | none =>
        rw [hg] at hval
        obtain ⟨rfl, rfl⟩ := Prod.mk.injEq .. ▸ hval
        have HE := Lib.hid (show X = (rcV0, false) by rw [← HX.out, hg]; rfl)
        clear hg hval
        go_wp2_with fail
        refine end_rc2 Try.results106 _ w.heap.size (x := rcV0) (c := .bool false) (set7_at (x := rcV0) HK.out.res) ⟨_, _, _, _, _, _, rfl, rfl⟩ rfl rfl rfl ?_
        rw [HE.out]
        exact ⟨rfl, set7_below (x := rcV0) HK.out.bel (Nat.le_refl _)⟩
      | some y =>
        rw [hg] at hval
        obtain ⟨rfl, rfl⟩ := Prod.mk.injEq .. ▸ hval
        obtain ⟨yi, yt, r, va, vb⟩ := y
        obtain ⟨ok, jk, oa, ja, e1, e2⟩ := hon.form
        dsimp only at e1 e2
        subst e1 e2
        dsimp only at z0 z1 z2 z3 z4 z5 z6
        cases hgo : r.gone with
        | true =>
          have HE := Lib.hid (show X = (rcV0, false) by rw [← HX.out, hg]; unfold atR; dsimp only; rw [hgo]; rfl)
          rw [hgo] at z6
          clear hg hval hgo hon
          go_wp2_with fail
          refine end_rc2 Try.results106 _ w.heap.size (x := rcV0) (c := .bool false) (set7_at (x := rcV0) HK.out.res) ⟨_, _, _, _, _, _, rfl, rfl⟩ rfl rfl rfl ?_
          rw [HE.out]
          exact ⟨rfl, set7_below (x := rcV0) HK.out.bel (Nat.le_refl _)⟩
        | false =>
          have HE := Lib.hid (show X = ((r, .slice ok r.ks.length jk, .slice oa r.ats.length ja), true) by rw [← HX.out, hg]; unfold atR; dsimp only; rw [hgo]; rfl)
          have HG := Lib.hid hgo
          rw [hgo] at z6
          clear hg hval hgo hon
          go_wp2_with fail
          refine end_rc2 Try.results106 _ w.heap.size (x := (r, .slice ok r.ks.length jk, .slice oa r.ats.length ja)) (c := .bool true) ?_ ⟨_, _, _, _, _, _, rfl, rfl⟩ rfl rfl rfl ?_
          · rw [← HG.out]
            exact set7_at (x := (r, .slice ok r.ks.length jk, .slice oa r.ats.length ja)) HK.out.res
          · rw [HE.out]
            refine ⟨rfl, ?_⟩
            rw [← HG.out]
            exact set7_below (x := (r, .slice ok r.ks.length jk, .slice oa r.ats.length ja)) HK.out.bel (Nat.le_refl _)
end Go.Proofs.Ytkackejipgabfaa.Char

/- The walks of the program's Fresh, Last and At. -/
namespace Go.Proofs.Ytkackejipgabfaa.Char
open Go.RowKit Go.Lib

theorem PSt.turn_b {Z : Nat → Prop} {B : Nat} {w : World} {b mb n : Nat} {D : DataW Value} {V : Int → Value} {X : Int → List VeV} {gv lt : Nat} (h : PSt Z B w b mb n D V X gv lt) {w' : World} {gv' lt' : Nat}
    (hc : w'.heap[b]? = some (.cells #[.pointer (some ⟨b, 0, none⟩), .int .i64 (gv' : Int), .int .u64 (lt' : Int), .map (some mb)] 112 (0, 0))) (ho : ∀ k, k ≠ b → w'.heap[k]? = w.heap[k]?) (hs : w.heap.size ≤ w'.heap.size) (hg : gv ≤ gv') : PSt Z B w' b mb n D V X gv' lt' where
  cell := hc
  own := by
    obtain ⟨es, clock, hb, F, q1, q2⟩ := h.own
    exact ⟨es, clock, (ho mb (Ne.symm h.b_ne_m)).trans hb, F, q1, q2⟩
  has := h.has
  val := h.val
  row := fun id => (h.row id).keep fun g hg => ho g fun e => h.ne_b id (e ▸ hg)
  rcs := fun id x hx => (h.rcs id x hx).move fun g _ hF => ⟨hF, ho g fun e => hF.2 (.inl e)⟩
  sm := h.sm
  ap := h.ap
  zo := h.zo
  zB := fun g hg => ⟨(h.zB g hg).1, Nat.lt_of_lt_of_le (h.zB g hg).2 hs⟩
  ids := fun id hid => ⟨(h.ids id hid).1, by have := (h.ids id hid).2; omega⟩
  ups := h.ups
section
variable {Z : Nat → Prop} {B : Nat} {w : World} {b mb n : Nat} {D : DataW Value} {V : Int → Value} {X : Int → List VeV} {gv lt : Nat}
set_option maxRecDepth 100000 in
set_option maxHeartbeats 4000000 in
theorem fresh_any (h : PSt Z B w b mb n D V X gv lt) (hg : gv ≤ 10000000) :
    Calls Try.prog 25 #[.pointer (some ⟨b, 0, none⟩)] w fun e w' => e = .returned (.int .i64 ((gv + 1 : Nat) : Int)) ∧ PSt Z B w' b mb n D V X (gv + 1) lt ∧ Only B Z w w' := by
  have hM := made_yes b w h.cells.1
  have c1 := h.cells.2.1
  have f1 := h.cells.2.2.2.2 1
  have H := Lib.hid h
  clear h
  go_enter Try.func25, Try.ntmps25
  go_wp2_with (go_at_call 54; refine hM.mono ?_; rintro e w' ⟨rfl, hw'⟩; rw [hw']; clear hw')
  go_ret
  have hz := H.out.zo b (.inl rfl)
  have hc := heap_set_at (i := 1) (u := .int .i64 ((gv + 1 : Nat) : Int)) H.out.cell
  refine ⟨by rw [Int.natCast_add]; rfl, ?_, ?_, ?_⟩
  · refine H.out.turn_b (w' := w.setCell ⟨b, 1, none⟩ (.int .i64 ((gv : Int) + 1))) ?_ (fun k hk => heap_set_ne hk) (by rw [World.size_setCell]; exact Nat.le_refl _) (by omega)
    rw [Int.natCast_add] at hc
    exact hc.trans (by simp)
  · exact (Below.refl _ _).setCell (p := ⟨b, 1, none⟩) (H.out.zB b hz).1 _
  · intro k _ hk
    exact heap_set_ne fun e => hk (e ▸ hz)
/-- what a node was, by its versions -/
def atX (t : Nat) (xs : List VeV) : Option Rc := if upN t xs = 0 then none else if (xs.getD (upN t xs - 1) (0, rcV0)).2.1.gone = true then none else some (xs.getD (upN t xs - 1) (0, rcV0)).2.1
theorem filter_up (t : Nat) : ∀ {xs : List VeV}, upX xs → xs.filter (fun x => decide (x.1 ≤ t)) = xs.take (upN t xs)
  | [], _ => rfl
  | x :: r, h => by
    obtain ⟨h1, h2⟩ := List.pairwise_cons.1 h
    have ih := filter_up t h2
    unfold upN at ih ⊢
    rw [List.filter_cons, List.takeWhile_cons]
    by_cases hx : x.1 ≤ t
    · simp [hx, ih]
    · simp only [hx, decide_false, Bool.false_eq_true, if_false, List.length_nil, List.take_zero]
      exact List.filter_eq_nil_iff.2 fun y hy => by have := h1 y hy; simp; omega
theorem atX_eq {t : Nat} {xs : List VeV} (h : upX xs) : atX t xs = atV (xs.map toVe) t := by
  unfold atV atX
  rw [List.filter_map, show ((fun x : Ve => decide (x.time ≤ t)) ∘ toVe) = fun x : VeV => decide (x.1 ≤ t) from rfl, filter_up t h]
  have hle := upN_le t xs
  by_cases h0 : upN t xs = 0
  · rw [if_pos h0, h0]; rfl
  · rw [if_neg h0, List.getLast?_map, List.getLast?_take, if_neg h0]
    have hk : upN t xs - 1 < xs.length := by omega
    rw [List.getD_eq_getElem?_getD, List.getElem?_eq_getElem hk]
    rfl
/-- what At hands back -/
def AtPost (w : World) (R : Option Rc) : Ending → World → Prop := fun e w' => ∃ x' : RcV, e = .returned (.tuple #[rcV x', .bool R.isSome]) ∧ x'.1 = R.getD rc0 ∧ RcOn w' (fun g => w.heap.size ≤ g) x' ∧ Below w.heap.size w w'
set_option maxRecDepth 100000 in
set_option maxHeartbeats 8000000 in
theorem at_any (h : PSt Z B w b mb n D V X gv lt) (id : Int) (hid : (Lit.int .i64 id).wf = true) (t : Nat) (hl : (X id).length ≤ 2 ^ 61) :
    Calls Try.prog 89 #[.pointer (some ⟨b, 0, none⟩), .int .i64 id, .int .u64 (t : Int)] w (AtPost w (atX t (X id))) := by
  obtain ⟨W1, hW1⟩ : ∃ W1, W1 = w.alloc (rcB rcV0) := ⟨_, rfl⟩
  have hb1 : Below w.heap.size w W1 := by rw [hW1]; exact (Below.refl _ _).alloc (Nat.le_refl _) _
  have h1 := h.below hb1
  have hM := made_yes b W1 h1.cells.1
  have c3 := h1.cells.2.2.2.1
  have hlk := h1.look hid
  obtain ⟨o, j, hV⟩ := h.form id
  have hon := h1.on id
  rw [hV] at hlk hon
  have hU := upTo_any t (X id) Z o j W1 (h.ups id) hl hon
  have hle := upN_le t (X id)
  have hsm := h.sm id
  have hk1 : W1.heap[w.heap.size]? = some (rcB rcV0) := by rw [hW1]; exact World.alloc_heap_new w _
  have hs1 : W1.heap.size = w.heap.size + 1 := by rw [hW1]; simp
  obtain ⟨R, hR⟩ : ∃ R, atX t (X id) = R := ⟨_, rfl⟩
  rw [hR]
  unfold atX at hR
  generalize upN t (X id) = k at hU hle hR
  have HW1 := Lib.hid hW1
  have HB1 := Lib.hid hb1
  have HK1 := Lib.hid hk1
  unfold rcB rcV0 rc0 at HW1
  dsimp only at HW1
  clear h h1 hb1 hW1 hk1
  by_cases h0 : k = 0
  · subst h0
    rw [if_pos rfl] at hR
    subst hR
    clear hon hsm
    go_enter Try.func89, Try.ntmps89
    go_wp2_with (first
      | (go_at_call 54; rw [show (⟨#[]⟩ : ByteArray) = bs [] from rfl, ← HW1.out]; refine hM.mono ?_; rintro e w' ⟨rfl, hw'⟩; rw [hw']; clear hw')
      | (go_at_call 115; refine hU.mono ?_; rintro e w2 ⟨rfl, hb2⟩; have m2 := (hb2.block w.heap.size (by omega)).trans HK1.out; obtain ⟨⟨d0, d1, d2, d3, d4, d5, d6⟩, df⟩ := rc_blk m2; have f0 := df 0; have f1 := df 1; have f2 := df 2; have f3 := df 3; have f4 := df 4; have f5 := df 5; have f6 := df 6; dsimp only [rcV0, rc0] at d0 d1 d2 d3 d4 d5 d6; have HB2 := Lib.hid hb2; have HM2 := Lib.hid m2; clear hb2 m2 df))
    refine end_rc2 Try.results89 _ w.heap.size (x := rcV0) (c := .bool false) (set7_at (x := rcV0) HM2.out) ⟨_, _, _, _, _, _, rfl, rfl⟩ rfl rfl rfl ?_
    refine ⟨rcV0, rfl, rfl, RcOn.none _ _, set7_below (x := rcV0) (HB1.out.trans (HB2.out.mono (by omega))) (Nat.le_refl _)⟩
  · rw [if_neg h0] at hR
    have hk1 : k - 1 < (X id).length := by omega
    rw [List.getD_eq_getElem?_getD, List.getElem?_eq_getElem hk1, Option.getD_some] at hR
    obtain ⟨g, off, rfl, _, hve, hrc⟩ := hon.reads (k - 1) hk1
    have hsx := hsm _ (List.getElem_mem hk1)
    generalize (X id)[k - 1] = x at hve hrc hR hsx
    have hgl := cell_lt hve.1
    obtain ⟨tx, r, va, vb⟩ := x
    obtain ⟨ok, jk, oa, ja, e1, e2⟩ := hrc.form
    dsimp only at e1 e2 hR hsx
    subst e1 e2
    have HG := fun w' (hb : Below W1.heap.size W1 w') => Lib.hid (hve.move (hb.block g hgl))
    have HC := fun w' (hb : Below W1.heap.size W1 w') => Lib.hid (copied_any (r, .slice ok r.ks.length jk, .slice oa r.ats.length ja) Z w' (hrc.below hb) hsx)
    unfold rcV at HC
    dsimp only at HC
    have hki : (k : Int) - 1 = ((k - 1 : Nat) : Int) := by omega
    have hk0 : ((k : Int) == 0) = false := by simp; omega
    have hlt : ((k - 1 : Nat) : Int) < ((X id).length : Int) := by omega
    clear hve hrc hon hsm hgl
    cases hgn : r.gone with
    | true =>
      rw [hgn, if_pos rfl] at hR
      subst hR
      clear HC
      go_enter Try.func89, Try.ntmps89
      go_wp2_with (first
        | (go_at_call 54; rw [show (⟨#[]⟩ : ByteArray) = bs [] from rfl, ← HW1.out]; refine hM.mono ?_; rintro e w' ⟨rfl, hw'⟩; rw [hw']; clear hw')
        | (go_at_call 115; refine hU.mono ?_; rintro e w2 ⟨rfl, hb2⟩; have m2 := (hb2.block w.heap.size (by omega)).trans HK1.out; obtain ⟨⟨d0, d1, d2, d3, d4, d5, d6⟩, df⟩ := rc_blk m2; have f0 := df 0; have f1 := df 1; have f2 := df 2; have f3 := df 3; have f4 := df 4; have f5 := df 5; have f6 := df 6; dsimp only [rcV0, rc0] at d0 d1 d2 d3 d4 d5 d6; have hg7 := (HG _ hb2).out.cells.2.2.2.2.2.2.2; dsimp only at hg7; rw [hgn] at hg7; have HB2 := Lib.hid hb2; have HM2 := Lib.hid m2; clear hb2 m2 df))
      refine end_rc2 Try.results89 _ w.heap.size (x := rcV0) (c := .bool false) (set7_at (x := rcV0) HM2.out) ⟨_, _, _, _, _, _, rfl, rfl⟩ rfl rfl rfl ?_
      refine ⟨rcV0, rfl, rfl, RcOn.none _ _, set7_below (x := rcV0) (HB1.out.trans (HB2.out.mono (by omega))) (Nat.le_refl _)⟩
    | false =>
      rw [hgn, if_neg (by simp)] at hR
      subst hR
      rw [hgn] at HC
      have HGN := Lib.hid hgn
      clear hgn
      go_enter Try.func89, Try.ntmps89
      go_wp2_with (first
        | (go_at_call 54; rw [show (⟨#[]⟩ : ByteArray) = bs [] from rfl, ← HW1.out]; refine hM.mono ?_; rintro e w' ⟨rfl, hw'⟩; rw [hw']; clear hw')
        | (go_at_call 115; refine hU.mono ?_; rintro e w2 ⟨rfl, hb2⟩; have m2 := (hb2.block w.heap.size (by omega)).trans HK1.out; obtain ⟨⟨d0, d1, d2, d3, d4, d5, d6⟩, df⟩ := rc_blk m2; have f0 := df 0; have f1 := df 1; have f2 := df 2; have f3 := df 3; have f4 := df 4; have f5 := df 5; have f6 := df 6; dsimp only [rcV0, rc0] at d0 d1 d2 d3 d4 d5 d6; obtain ⟨g0, g1, g2, g3, g4, g5, g6, g7⟩ := (HG _ hb2).out.cells; dsimp only at g0 g1 g2 g3 g4 g5 g6 g7; rw [HGN.out] at g7; have HC2 := HC _ hb2; have HB2 := Lib.hid hb2; have HM2 := Lib.hid m2; clear hb2 m2 df)
        | (go_at_call 57
           refine HC2.out.mono ?_
           rintro e w3 ⟨⟨r', va', vb'⟩, q1, rfl, q3, q4⟩
           dsimp only at q1
           subst q1
           obtain ⟨ok2, jk2, oa2, ja2, e1, e2⟩ := q3.form
           dsimp only at e1 e2
           subst e1 e2
           have hsz := HB2.out.size
           have m3 := (q4.block w.heap.size (by omega)).trans HM2.out
           clear d0 d1 d2 d3 d4 d5 d6 f0 f1 f2 f3 f4 f5 f6
           obtain ⟨⟨d0, d1, d2, d3, d4, d5, d6⟩, df⟩ := rc_blk m3
           have f0 := df 0
           have f1 := df 1
           have f2 := df 2
           have f3 := df 3
           have f4 := df 4
           have f5 := df 5
           have f6 := df 6
           dsimp only [rcV0, rc0] at d0 d1 d2 d3 d4 d5 d6
           have HQ3 := Lib.hid q3
           have HQ4 := Lib.hid q4
           have HM3 := Lib.hid m3
           clear q3 q4 m3 df
           unfold rcV
           dsimp only))
      refine end_rc2 Try.results89 _ w.heap.size (x := (r', .slice ok2 r'.ks.length jk2, .slice oa2 r'.ats.length ja2)) (c := .bool true) (set7_at (x := (r', .slice ok2 r'.ks.length jk2, .slice oa2 r'.ats.length ja2)) HM3.out) ⟨_, _, _, _, _, _, rfl, rfl⟩ rfl rfl rfl ?_
      refine ⟨(r', .slice ok2 r'.ks.length jk2, .slice oa2 r'.ats.length ja2), rfl, rfl, HQ3.out.move fun b _ hF => ?_, set7_below (x := (r', .slice ok2 r'.ks.length jk2, .slice oa2 r'.ats.length ja2)) ((HB1.out.trans (HB2.out.mono (by omega))).trans (HQ4.out.mono (by omega))) (Nat.le_refl _)⟩
      have hF' : w2.heap.size ≤ b := hF
      exact ⟨(by omega : w.heap.size ≤ b), set7_ne (x := (r', .slice ok2 r'.ks.length jk2, .slice oa2 r'.ats.length ja2)) (by omega)⟩
end
end Go.Proofs.Ytkackejipgabfaa.Char
