/- WfM SortM SortV SmallV GetW HasW WayM GetV TellV -/
import Derived.Test.YtkackejipgabfaaPk10
import Derived.Test.YtkackejipgabfaaPk05
import Derived.Test.YtkackejipgabfaaPk06
import Derived.Test.YtkackejipgabfaaPk04
import Derived.Test.YtkackejipgabfaaPk07
import Derived.Test.YtkackejipgabfaaPk00
/- Records whose numbers may be, and whose lists are short: what is told of them. -/
namespace Go.Proofs.Ytkackejipgabfaa.Char
open Go.RowKit Go.Lib

/-- the numbers in a record's lists may be -/
def wfR (r : Rc) : Prop := ∀ z, z ∈ r.ks ∨ z ∈ r.ats → (Lit.int .i64 z).wf = true
def wfO (own : Own) : Prop := ∀ c, c ∈ own → wfR c.2
def wfL (L : List On) : Prop := ∀ x, x ∈ L → wfR x.v.r
theorem wfO_lay {own : Own} (h : wfO own) (id : Int) {r : Rc} (hr : wfR r) : wfO (layO own id r) := fun c hc => by
  rcases layO_mem hc with rfl | ⟨hc, _⟩
  · exact hr
  · exact h c hc
theorem wfO_put {own : Own} (h : wfO own) (id : Int) {r : Rc} (hr : wfR r) : wfO (putO own id r) := by
  unfold putO
  split
  · exact h
  · exact wfO_lay h id hr
theorem wfR_at3 (id : Int) (a : At2) : wfR (atR3 id a) := fun z hz => by
  unfold atR3 at hz
  rcases hz with hz | hz <;> cases hz
theorem wfO_plantA (id : Int) : ∀ (as1 : List At2) (g : Nat) (own : Own), wfO own → wfO (plantA id as1 g own)
  | [], _, _, h => h
  | a :: r, g, _, h => wfO_plantA id r (g + 1) _ (wfO_lay h _ (wfR_at3 id a))
mutual
theorem wfO_plantT : ∀ (t : Tr) (par : Int) (g : Nat) (own : Own), wfO own → g + totP t ≤ 100000000 → wfO (plantT t par g own).2.2
  | .mk kd nm tx ats ks, par, g, own, h, hg => by
    cases hk : aloneK kd with
    | false => rw [plantT_no (by exact hk)]; exact h
    | true =>
      rw [totP, if_pos hk] at hg
      rw [plantT, if_pos hk]
      dsimp only
      obtain ⟨s1, s2, s3, s4⟩ := plantK_spec ks ((g + 1 : Nat) : Int) (g + 1 + ats.length) (plantA ((g + 1 : Nat) : Int) ats (g + 1) own)
      refine wfO_lay (wfO_plantK ks _ (g + 1 + ats.length) _ (wfO_plantA _ ats _ _ h) (by omega)) _ fun z hz => ?_
      rcases hz with hz | hz
      · have := s4 z hz
        exact wf_7 (by omega) (by omega)
      · have := atIds_mem hz
        exact wf_7 (by omega) (by omega)
theorem wfO_plantK : ∀ (ks : List Tr) (par : Int) (g : Nat) (own : Own), wfO own → g + totPK ks ≤ 100000000 → wfO (plantK ks par g own).2.2
  | [], par, g, own, h, _ => by rw [plantK]; exact h
  | k :: ks, par, g, own, h, hg => by
    rw [totPK] at hg
    rw [plantK]
    dsimp only
    have h1 := (plantT_spec k par g own).1
    exact wfO_plantK ks par _ _ (wfO_plantT k par g own h (by omega)) (by omega)
end
theorem wfL_inst {S : Sto} (h : wfL S.L) (time : Nat) {cs : List (Int × Rc)} (hc : wfO cs) : wfL (instS S time cs).L := by
  unfold instS
  split
  · intro x hx
    rcases List.mem_append.1 hx with hx | hx
    · exact h x hx
    · unfold layC at hx
      obtain ⟨c, hc', rfl⟩ := List.mem_map.1 hx
      exact hc c hc'
  · exact h
theorem wfR_atV {l : List Ve} {t : Nat} {r : Rc} (h : atV l t = some r) : ∃ x, x ∈ l ∧ x.r = r := by
  unfold atV at h
  cases hl : (l.filter fun x => decide (x.time ≤ t)).getLast? with
  | none => rw [hl] at h; cases h
  | some x =>
    rw [hl] at h
    dsimp only at h
    split at h
    · cases h
    · cases h
      exact ⟨x, (List.mem_filter.1 (List.mem_of_getLast? hl)).1, rfl⟩
theorem wfR_look {L : List On} {t : Nat} {own : Own} (hL : wfL L) (ho : wfO own) (hu : upO own) {id : Int} {r : Rc} (h : lookV L t own id = some r) : wfR r := by
  unfold lookV at h
  cases hq : ownAt own id with
  | some x =>
    rw [hq] at h
    dsimp only at h
    split at h
    · cases h
    · cases h
      exact ho _ ((ownAt_mem hu).1 hq)
  | none =>
    rw [hq] at h
    obtain ⟨x, hx, rfl⟩ := wfR_atV h
    unfold versL at hx
    obtain ⟨y, hy, rfl⟩ := List.mem_map.1 hx
    exact hL y (List.mem_filter.1 hy).1
section
variable {Z Z1 : Nat → Prop} {B B1 : Nat} {w : World} {b sb mb t : Nat} {D : DataW Value} {own : Own} {S : Sto}
/-- what a view of a store tells -/
theorem PV.vh (h : PV Z B w b sb mb t D own) (hp : PS Z1 B1 w sb S) (hl : S.L.length ≤ 10000000) (hL : wfL S.L) (ho : wfO own) : VH (fun g => Z g ∨ Z1 g) w (some ⟨b, 0, none⟩) (lookV S.L t own) := by
  refine ⟨fun _ hz hs id hid => ?_, fun _ _ hr => lookV_sm h hp hr, fun _ hg => hg.elim (fun q => (h.zB _ q).2) (fun q => (hp.zB _ q).2), fun _ _ hr => wfR_look hL ho h.up hr⟩
  refine (record_any (h.move (fun g hg => hz g (.inl hg)) hs) (hp.move (fun g hg => hz g (.inr hg)) hs) id hid hl).mono ?_
  rintro _ _ ⟨x, q1, q2, q3, q4⟩
  exact ⟨x, q1, q2, q3.move fun _ _ hF => ⟨hF.elim (fun q => .inl (.inl q)) .inr, rfl⟩, q4⟩
end
end Go.Proofs.Ytkackejipgabfaa.Char

/- What Sort keeps: the numbers that are wanted, as a set, and when no more can come. -/
namespace Go.Proofs.Ytkackejipgabfaa.Char
open Go.RowKit Go.Lib

theorem filter_stop {pre rest : List Int} (hn : (pre ++ rest).Nodup) {p : Int → Bool} {ds : List Int} (hp : ∀ x, p x = true ↔ x ∈ ds) (hl : (pre.filter p).length = ds.length) : (pre ++ rest).filter p = pre.filter p := by
  have hall : ∀ x, x ∈ ds → x ∈ pre.filter p := fun x hx => by
    refine Classical.byContradiction fun hno => ?_
    have h1 : (x :: pre.filter p).Nodup := List.nodup_cons.2 ⟨hno, ((List.nodup_append.1 hn).1).filter _⟩
    have := nodup_len h1 (b := ds) fun i hi => by
      rcases List.mem_cons.1 hi with rfl | hi
      · exact hx
      · exact (hp i).1 (List.mem_filter.1 hi).2
    simp only [List.length_cons] at this
    omega
  rw [List.filter_append]
  have : rest.filter p = [] := List.filter_eq_nil_iff.2 fun y hy he => by
    have h1 := (List.mem_filter.1 (hall y ((hp y).1 he))).1
    exact (List.nodup_append.1 hn).2.2 y h1 y hy rfl
  rw [this, List.append_nil]
/-- the set of the numbers that are wanted -/
structure SetN (w : World) (m0 : Nat) (ids ds : List Int) (D : DataW Value) : Prop where
  met : MetI w m0 ids D
  nd : ds.Nodup
  mem : ∀ x, x ∈ ds ↔ x ∈ ids
  len : Maps.size D = ds.length
theorem SetN.start (w : World) : SetN (w.alloc (.map #[] 0)) w.heap.size [] [] (.map []) := ⟨MetI.start w, List.nodup_nil, fun _ => Iff.rfl, rfl⟩
theorem SetN.move {w w1 : World} {m0 : Nat} {ids ds : List Int} {D : DataW Value} (h : SetN w m0 ids ds D) (hb : w1.heap[m0]? = w.heap[m0]?) : SetN w1 m0 ids ds D := ⟨h.met.move hb, h.nd, h.mem, h.len⟩
theorem SetN.snoc {w w1 : World} {m0 : Nat} {ids ds : List Int} {D : DataW Value} (h : SetN w m0 ids ds D) {x : Int} (ho : w1.ownsMap Try.prog 3 unitElem m0 (ids.length + 1) (D.put (kI x) (.agg []))) : ∃ ds', SetN w1 m0 (ids ++ [x]) ds' (D.put (kI x) (.agg [])) := by
  have hs := Maps.size_put (k := kI x) (d := .agg []) (h.met.own.tidy law_int)
  rw [h.met.has x] at hs
  by_cases hx : x ∈ ids
  · rw [decide_eq_true hx, if_pos rfl] at hs
    refine ⟨ds, h.met.snoc ho, h.nd, fun y => ?_, hs.trans h.len⟩
    rw [List.mem_append, List.mem_singleton, h.mem y]
    exact ⟨.inl, fun e => e.elim id fun e => e ▸ hx⟩
  · rw [decide_eq_false hx, if_neg (by simp)] at hs
    refine ⟨ds ++ [x], h.met.snoc ho, List.nodup_append.2 ⟨h.nd, by simp, fun a ha c hc => ?_⟩, fun y => ?_, by rw [hs, h.len, List.length_append, List.length_singleton]⟩
    · rw [List.mem_singleton] at hc
      subst hc
      exact fun e => hx ((h.mem c).1 (e ▸ ha))
    · rw [List.mem_append, List.mem_singleton, List.mem_append, List.mem_singleton, h.mem y]
/-- the loop of Sort -/
structure SorI (w WL : World) (vp : Option Addr) (p : Int → Bool) (O : Nat → Prop) (pre : List Met) (W : World) : Prop where
  bel : Below w.heap.size w W
  size : WL.heap.size ≤ W.heap.size
  lowO : ∀ k, O k → WL.heap.size ≤ k
  box : Col w.heap.size WL.heap.size O ((pre.map (·.id)).filter p) W
  vb : W.heap[w.heap.size + 1]? = some (.cells #[.pointer vp] 38 (0, 0))
theorem SorI.step {w WL : World} {vp : Option Addr} {p : Int → Bool} {O O' : Nat → Prop} {pre : List Met} {W W' : World} (hw : w.heap.size + 2 < WL.heap.size) (h : SorI w WL vp p O pre W) (hs : ItStep O W O' W') : SorI w WL vp p O' pre W' := by
  have h1 := h.size
  have keep : ∀ k, k < WL.heap.size → W'.heap[k]? = W.heap[k]? := fun k hk => hs.keep k (by omega) (fun ho => by have := h.lowO k ho; omega)
  refine ⟨ItStep.below h.bel (Nat.le_refl _) hs (fun k ho => by have := h.lowO k ho; omega), Nat.le_trans h1 hs.low.size, fun k ho => ?_, h.box.step hs (by omega) (fun ho => by have := h.lowO _ ho; omega), (keep _ (by omega)).trans h.vb⟩
  rcases hs.new k ho with q | q
  · exact h.lowO k q
  · omega
end Go.Proofs.Ytkackejipgabfaa.Char

/- The walk of a view's Sort. -/
namespace Go.Proofs.Ytkackejipgabfaa.Char
open Go.RowKit Go.Lib Go.Shelf
attribute [local go_sem] Oper.semAt_some

set_option maxRecDepth 100000 in
set_option maxHeartbeats 4000000 in
theorem sort_gen {Z : Nat → Prop} {w : World} {vp : Option Addr} {look : Int → Option Rc} (h : VH Z w vp look) (f : Nat) (full : List Gn) (hg : goF look f 1 false [] = some full) (hfl : full.length ≤ 10000000) (hnd : (full.map (·.1)).Nodup) (hwi : ∀ x, x ∈ full → (Lit.int .i64 x.1).wf = true)
    {K : Nat → Prop} (oz : Option Addr) (jz : Nat) (zs : List Int) (hz : IntsOn w K (.slice oz zs.length jz) zs) (hK : ∀ g, K g → g < w.heap.size) (hzl : zs.length ≤ 10000000) (hzw : ∀ z, z ∈ zs → (Lit.int .i64 z).wf = true) :
    Calls Try.prog 17 #[.pointer vp, .slice oz zs.length jz] w fun e w' => ∃ u, e = .returned u ∧ OwnsInt w.heap.size w' u ((full.map (·.1)).filter fun z => zs.any fun y => y == z) ∧ Below w.heap.size w w' := by
  obtain ⟨p, hpd⟩ : ∃ p : Int → Bool, (fun z => zs.any fun y => y == z) = p := ⟨_, rfl⟩
  have HPZ := Lib.hid (fun x => show p x = decide (x ∈ zs) by rw [← hpd, Bool.eq_iff_iff]; simp)
  rw [hpd]
  clear hpd
  have HT := fun (W : World) => Lib.hid ((callsIn_wide (n := 23)).2 (through_any vp 1 W))
  have H := Lib.hid h
  have HZ := Lib.hid hz
  have HK' := Lib.hid hK
  have HZW := Lib.hid hzw
  have hmk : ∀ w, (Instr.makeMap 104 none).run Try.prog w = .ok (.map (some w.heap.size)) (w.alloc (.map #[] 0)) := fun w => run_makeMap _ w
  clear h hz hK hzw
  refine (callsIn_wide (n := 24)).1 ?_
  refine callsIn_of_wp_marks Try.func17 rfl trivial ?_ rfl
  simp only [Try.ntmps17, List.size_toArray, List.length_cons, List.length_nil, Nat.reduceAdd, Nat.reduceSub, Array.replicate_succ, Array.replicate_zero, List.push_toArray, List.append_toArray, List.nil_append, List.cons_append]
  gi_wp2_with fail
  obtain ⟨W1, hW1⟩ : ∃ W1, W1 = (w.alloc (.map #[] 0)).alloc (.cells #[.map (some w.heap.size)] 104) := ⟨_, rfl⟩
  rw [← hW1]
  have hb1 : Below w.heap.size w W1 := by rw [hW1]; exact ((Below.refl _ _).alloc (Nat.le_refl _) _).alloc (by simp) _
  have hs1 : W1.heap.size = w.heap.size + 2 := by rw [hW1]; simp
  have hx1 : W1.heap[w.heap.size + 1]? = some (.cells #[.map (some w.heap.size)] 104 (0, 0)) := by
    rw [hW1]
    have := World.alloc_heap_new (w.alloc (.map #[] 0)) (.cells #[.map (some w.heap.size)] 104)
    simpa using this
  have hset : SetN W1 w.heap.size [] [] (.map []) := (SetN.start w).move (by rw [hW1]; exact Below.heap_alloc _ _ _ (by simp))
  have HS1 := Lib.hid (⟨hb1, by omega, hx1, hset⟩ : Below w.heap.size w W1 ∧ w.heap.size + 1 < W1.heap.size ∧ W1.heap[w.heap.size + 1]? = some (.cells #[.map (some w.heap.size)] 104 (0, 0)) ∧ SetN W1 w.heap.size [] [] (.map []))
  clear hb1 hs1 hx1 hset hW1
  gi_loopw [15] (fun v wr => ∃ (k : Nat) (ds : List Int) (D : DataW Value), v = .int .i64 (k : Int) ∧ k ≤ zs.length ∧ Hid (Below w.heap.size w wr ∧ w.heap.size + 1 < wr.heap.size ∧ wr.heap[w.heap.size + 1]? = some (.cells #[.map (some w.heap.size)] 104 (0, 0)) ∧ SetN wr w.heap.size (zs.take k) ds D)) (fun v _ => zs.length - (RowKit.intOf v).toNat)
  case atStart => exact ⟨0, [], .map [], rfl, Nat.zero_le _, Lib.hid (by rw [List.take_zero]; exact HS1.out)⟩
  case round =>
    obtain ⟨k, ds, D, rfl, hk, HQ⟩ := hrel
    obtain ⟨hb, hsz, hxr, hset⟩ := HQ.out
    have ce : wr.cell? ⟨w.heap.size + 1, 0, none⟩ = some (.map (some w.heap.size)) := by simp [World.cell?, hxr]
    by_cases hlt : k < zs.length
    · obtain ⟨o1, i1, j1, e1, e2, e3⟩ := HZ.out.move (F' := K) (w' := wr) (fun g hg hF => ⟨hF, hb.block g hg⟩)
      simp only [Value.slice.injEq] at e1
      obtain ⟨rfl, rfl, rfl⟩ := e1
      rcases e3 with h0 | ⟨g, off, rfl, hgF, hc⟩
      · rw [h0] at hlt; cases hlt
      have c0 := hc k hlt
      rw [show zs.getD k 0 = zs[k] by simp [hlt]] at c0
      have htk := List.take_succ_eq_append_getElem hlt
      have hwf := HZW.out zs[k] (List.getElem_mem hlt)
      obtain ⟨z, hzk⟩ : ∃ z, zs[k] = z := ⟨_, rfl⟩
      rw [hzk] at c0 htk hwf
      obtain ⟨W5, hrun, how, hturn⟩ := hset.met.own.store law_int Try.underlying104 (by rw [List.length_take]; unfold maxLen; omega) (key_int hwf) unitElem_mk
      have hg5 := hturn.grown
      have s5 := hg5.size
      have keep5 : ∀ g, g < wr.heap.size → g ≠ w.heap.size → W5.heap[g]? = wr.heap[g]? := fun g h1 h2 => hg5.block g h1 (fun e => h2 (by cases e; rfl))
      obtain ⟨ds', hs'⟩ := hset.snoc how
      rw [← htk] at hs'
      have hb5 : Below w.heap.size w W5 := hb.grown hg5 (by omega) (fun k hk => by cases hk; exact Nat.le_refl _)
      have HN : Hid (Below w.heap.size w W5 ∧ w.heap.size + 1 < W5.heap.size ∧ W5.heap[w.heap.size + 1]? = some (.cells #[.map (some w.heap.size)] 104 (0, 0)) ∧ SetN W5 w.heap.size (zs.take (k + 1)) ds' (D.put (kI z) (.agg []))) :=
        Lib.hid ⟨hb5, by omega, (keep5 _ hsz (by omega)).trans hxr, hs'⟩
      have HLT := Lib.hid hlt
      have hz0 : (0 : Int) ≤ (k : Int) := by omega
      have hz1 : (k : Int) < (zs.length : Int) := by omega
      clear hc e2 htk hwf hzk how hturn hg5 keep5 hs' hb5 hb hxr hset
      gi_wp2_with fail
      exact ⟨⟨k + 1, ds', _, by go_num, HLT.out, HN⟩, by have := HLT.out; simp [RowKit.intOf]; omega⟩
    · have ek : k = zs.length := by omega
      subst ek
      rw [List.take_length] at hset
      have hp : ∀ x, p x = true ↔ x ∈ ds := fun x => by rw [hset.mem x, HPZ.out x]; simp
      have HSET := Lib.hid hset
      have HB := Lib.hid hb
      have HXR := Lib.hid hxr
      have HTH0 := Lib.hid (H.out.below hb)
      clear HQ hset hb hxr hk ce
      gi_wp2_with (first
        | (refine ⟨trivial, ?_⟩; gi_at_call 46; refine (HT _).out.mono ?_; rintro e w' ⟨rfl, rfl⟩))
      have HPP := Lib.hid hp
      clear hp
      obtain ⟨WL, hWL⟩ : ∃ WL, WL = ((wr.alloc (.cells #[.slice none 0 0] 27)).alloc (.cells #[.pointer vp] 38)).alloc (.cells #[.int .i64 1] 3) := ⟨_, rfl⟩
      rw [← hWL]
      have hB0 : Below wr.heap.size wr WL := by rw [hWL]; exact (((Below.refl _ _).alloc (Nat.le_refl _) _).alloc (by simp) _).alloc (by simp; omega) _
      have hsL : WL.heap.size = wr.heap.size + 3 := by rw [hWL]; simp
      have hbx : WL.cell? ⟨wr.heap.size, 0, none⟩ = some (.slice none 0 0) ∧ WL.frozen? ⟨wr.heap.size, 0, none⟩ = false := by rw [hWL]; exact ⟨by go_simp, by go_simp⟩
      have hbv : WL.heap[wr.heap.size + 1]? = some (.cells #[.pointer vp] 38 (0, 0)) := by
        rw [hWL, Below.heap_alloc _ _ _ (by simp)]
        have := World.alloc_heap_new (wr.alloc (.cells #[.slice none 0 0] 27)) (.cells #[.pointer vp] 38)
        simpa using this
      have hbi : WL.heap[wr.heap.size + 2]? = some (.cells #[.int .i64 1] 3 (0, 0)) := by
        rw [hWL]
        have := World.alloc_heap_new ((wr.alloc (.cells #[.slice none 0 0] 27)).alloc (.cells #[.pointer vp] 38)) (.cells #[.int .i64 1] 3)
        simpa using this
      have HTH := (HTH0.out.below hB0).th hbv
      have hsw := HB.out.size
      refine wpIn_rangeFunc_set (n := 24) (gf := 78) (lb := #[.pointer (some ⟨wr.heap.size + 1, 0, none⟩), .pointer (some ⟨wr.heap.size + 2, 0, none⟩)]) rfl (enters_of Try.func78 (by kernel_rfl) rfl)
        (through_seq HTH 1 (by decide) f full hg (by omega) WL hbi) (Below.refl _ _) (fun _ => rfl)
        (fun O pre W => SorI wr WL vp p O pre W) (fun c O pre' W => c = .exit 2 ∧ ∃ pre x, pre' = pre ++ [x] ∧ SorI wr WL vp p O pre W ∧ ((pre.map (·.id)).filter p).length = ds.length) (fun O pre W O' W' h hs => h.step (by omega) hs) (fun c O pre W O' W' h hs => ⟨h.1, by
          obtain ⟨pre', x, e1, e2, e3⟩ := h.2
          exact ⟨pre', x, e1, e2.step (by omega) hs, e3⟩⟩) ?st ?start
        (fun _ x a' _ => a' = { tmps := #[.pointer vp, .slice oz zs.length jz, undef, undef, .slice none 0 0, .pointer (some ⟨w.heap.size + 1, 0, none⟩), undef, u7, .pointer (some ⟨wr.heap.size, 0, none⟩), .int .i64 x.id, undef, undef, .map (some w.heap.size), .slice oz zs.length jz, .int .i64 (zs.length : Int), .int .i64 (zs.length : Int), .bool false, u17, u18, u19, u20, u21, u22, .pointer vp, .func (.func 78) #[] #[.pointer (some ⟨wr.heap.size + 1, 0, none⟩), .pointer (some ⟨wr.heap.size + 2, 0, none⟩)], .int .i64 x.id, .agg #[.int .i64 x.r.kd, .string (bs x.r.nm), .string (bs x.r.tx), .int .i64 x.r.pa, .slice x.ok x.r.ks.length x.jk, .slice x.oa x.r.ats.length x.ja, .bool x.r.gone, .bool x.aside], undef, undef, undef, undef, undef, undef, undef, undef, undef, undef, undef, undef, undef, undef, undef, undef, undef], defers := [] })
        (fun _ _ _ _ _ _ h _ => h) ?assign ?body ?done ?stop
      case st =>
        intro O pre W hi
        refine ⟨fun g hg => ?_, hi.size⟩
        rcases hg with hg | rfl
        · have := HTH0.out.zB g hg
          exact (hi.bel.block g this).trans (hB0.block g this).symm
        · exact hi.vb.trans hbv.symm
      case start => exact ⟨hB0, Nat.le_refl _, fun _ h => h.elim, ⟨_, hbx.1, hbx.2, OwnsInt.nil _ _, fun g hg => (by cases hg)⟩, hbv⟩
      case assign =>
        rintro l m O pre x W K hO hi hK
        simp only [Met.enc]
        gi_wp2
        exact hK _ _ (Nat.le_refl _) (fun _ _ => rfl) hi rfl
      case body =>
        rintro l m O pre x a' W hO hi rfl hpx
        have hle := hpx.length_le
        rw [List.length_map, List.length_append, List.length_singleton] at hle
        have hxf : Met.key x ∈ full := hpx.subset (List.mem_map.2 ⟨x, List.mem_append.2 (.inr (List.mem_singleton.2 rfl)), rfl⟩)
        have hxw : (Lit.int .i64 x.id).wf = true := hwi _ hxf
        have hsetW := HSET.out.move (hi.bel.block w.heap.size (by omega))
        have ce : W.cell? ⟨w.heap.size + 1, 0, none⟩ = some (.map (some w.heap.size)) := by
          have := (hi.bel.block (w.heap.size + 1) (by omega)).trans HXR.out
          simp [World.cell?, this]
        have hln := fun ty => hsetW.met.own.len Try.underlying104 ty
        have hlk := hsetW.met.look hxw
        rw [← HPZ.out] at hlk
        obtain ⟨v, k3, k4, k6, k7⟩ := hi.box
        obtain ⟨o, j, rfl⟩ := k6.form
        have hfl2 := List.length_filter_le p (pre.map (·.id))
        rw [List.length_map] at hfl2
        obtain ⟨n, hn⟩ : ∃ n, ((pre.map (·.id)).filter p).length = n := ⟨_, rfl⟩
        rw [hn] at k3 k6 k7 hfl2
        have hsd := hsetW.len
        have HI := Lib.hid hi
        have HK6 := Lib.hid k6
        have HK7 := Lib.hid k7
        have HO := Lib.hid hO
        have HN := Lib.hid hn
        have HSD := Lib.hid hsd
        have hz := hi.size
        clear hpx hi k6 k7 hO hn hsetW hxf hxw
        by_cases hq : n = Maps.size D
        · have k1 : ((n : Int) == (Maps.size D : Int)) = true := beq_iff_eq.2 (by rw [hq])
          have HQQ := Lib.hid hq
          clear hq hsd
          gi_wp2_with fail
          exact ⟨Nat.le_refl _, fun _ _ => rfl, rfl, pre, x, rfl, HI.out, by rw [HN.out, HQQ.out, HSD.out]⟩
        · have k1 : ((n : Int) == (Maps.size D : Int)) = false := beq_eq_false_iff_ne.2 (by omega)
          clear hq hsd
          have hA : wr.heap.size < W.heap.size := by omega
          have hbo := fun ob => ((Below.refl _ W).alloc (Nat.le_refl _) ob : Below W.heap.size W (W.alloc ob))
          have k3' := fun ob => (World.cell?_of_block (w := W) (w' := W.alloc ob) (a := ⟨wr.heap.size, 0, none⟩) ((hbo ob).block _ hA)).trans k3
          have k4' := fun ob => (World.frozen?_of_block (w := W) (w' := W.alloc ob) (a := ⟨wr.heap.size, 0, none⟩) ((hbo ob).block _ hA)).trans k4
          have HBO := Lib.hid hbo
          clear hbo
          cases hpx : p x.id with
          | false =>
            rw [hpx] at hlk
            have HPX := Lib.hid hpx
            clear hpx
            gi_wp2_with fail
            refine ⟨by simp, fun k hk => (HBO.out _).block k (HO.out k hk), ?_⟩
            have hst := HI.out.step (by omega) (ItStep.pass HO.out (HBO.out (.cells #[] 105)))
            refine ⟨hst.bel, hst.size, hst.lowO, ?_, hst.vb⟩
            rw [List.map_append, List.filter_append, List.map_singleton, List.filter_cons, if_neg (by rw [HPX.out]; decide), List.filter_nil, List.append_nil]
            exact hst.box
          | true =>
            rw [hpx] at hlk
            have HPX := Lib.hid hpx
            clear hpx
            gi_wp2_with (first
              | (refine wpListIn_pushInt WL.heap.size rfl (.tmp 39) (.tmp 41) rfl x.id (HK6.out.below (HBO.out _)) rfl (by simp [Act.eval]) (by rw [World.size_alloc]; omega) (by rw [HN.out]; omega) ?_
                 intro v' w1 q1 q2 q3 q4 q5
                 have c1 := (World.cell?_of_block (w' := w1) (a := ⟨wr.heap.size, 0, none⟩) (q3 _ (by simp; omega) (fun e => by have := (HK6.out.blk e.symm).1; simp at this; omega))).trans (k3' _)
                 have c2 := (World.frozen?_of_block (w' := w1) (a := ⟨wr.heap.size, 0, none⟩) (q3 _ (by simp; omega) (fun e => by have := (HK6.out.blk e.symm).1; simp at this; omega))).trans (k4' _)
                 obtain ⟨o2, j2, rfl⟩ := q1.form
                 have Q1 := Lib.hid q1
                 have Q2 := Lib.hid q2
                 have Q3 := Lib.hid q3
                 have Q4 := Lib.hid q4
                 rw [List.length_append, List.length_singleton, HN.out] 
                 clear q1 q2 q3 q4)
              | fail)
            obtain ⟨p1, p2⟩ := Col.push (O := O) (zs := (pre.map (·.id)).filter p) (W := W.alloc (.cells #[] 105)) (v := .slice o n j) (z := x.id) (A := wr.heap.size) (B0 := WL.heap.size) (by omega) HK7.out (fun k hk => by rw [World.size_alloc]; have := HO.out k hk; omega) c1 c2 Q1.out Q3.out Q4.out
            rw [List.length_append, List.length_singleton, HN.out] at p1 p2
            have hne : ∀ k, O k → k ≠ wr.heap.size := fun k hk => by have := HI.out.lowO k hk; omega
            have hq5 : W.heap.size ≤ w1.heap.size := by have := q5; rw [World.size_alloc] at this; omega
            have keep : ∀ k, k < W.heap.size → k ≠ wr.heap.size → (Value.slice o n j).ownBlock ≠ some k → (w1.setCell ⟨wr.heap.size, 0, none⟩ (.slice o2 (n + 1) j2)).heap[k]? = W.heap[k]? := fun k h1 h2 h3 => (p2 k (by rw [World.size_alloc]; omega) h2 h3).trans ((HBO.out _).block k h1)
            refine ⟨by rw [World.size_setCell]; exact hq5, fun k hk => keep k (HO.out k hk) (hne k hk) (fun e => HK7.out k e hk), ?_, by rw [World.size_setCell]; omega, HI.out.lowO, ?_, (keep (wr.heap.size + 1) (by omega) (by omega) (fun e => by have := (HK6.out.blk e).1; omega)).trans HI.out.vb⟩
            · exact ((HI.out.bel.trans ((HBO.out _).mono (by omega))).trans (Q2.out.mono (by omega))).setCell (p := ⟨wr.heap.size, 0, none⟩) (Nat.le_refl _) _
            · rw [List.map_append, List.filter_append, List.map_singleton, List.filter_cons, if_pos HPX.out, List.filter_nil]
              exact p1
      case done =>
        rintro O xs W hO hD hxs hi hK
        obtain ⟨v, k3, k4, k6, k7⟩ := hi.box
        have hids : xs.map (·.id) = full.map (·.1) := by rw [← hxs, List.map_map]; rfl
        rw [hids] at k6
        obtain ⟨o, j, rfl⟩ := k6.form
        obtain ⟨n, hn⟩ : ∃ n, ((full.map (·.1)).filter p).length = n := ⟨_, rfl⟩
        rw [hn] at k3 k6 k7
        have HK6 := Lib.hid k6
        have HK7 := Lib.hid k7
        have HI := Lib.hid hi
        clear hi k6 k7 hn
        gi_wp2
        refine ⟨by simp, .inl ⟨_, _, rfl, run_takeDeferred hK, ?_⟩⟩
        exact ⟨_, results_tmp rfl _ _ _, _, rfl, (HK6.out.keep fun g hg => World.putObj_heap_other (fun e => HK7.out g hg (by rw [e]; exact hD))).weak (B' := w.heap.size) (B := WL.heap.size) (by omega), below_putObj (HB.out.trans (HI.out.bel.mono hsw)) (by show w.heap.size ≤ WL.heap.size; omega) _⟩
      case stop =>
        rintro O c pre W hO hD hpx ⟨rfl, pre', x, rfl, hi, hl⟩ hK
        obtain ⟨tl, htl⟩ := hpx
        have hfu : full.map (·.1) = pre'.map (·.id) ++ (x.id :: tl.map (·.1)) := by
          rw [← htl, List.map_append, List.map_map, List.map_append, List.append_assoc]
          rfl
        have hfs := filter_stop (pre := pre'.map (·.id)) (rest := x.id :: tl.map (·.1)) (by rw [← hfu]; exact hnd) HPP.out hl
        rw [← hfu] at hfs
        obtain ⟨v, k3, k4, k6, k7⟩ := hi.box
        rw [← hfs] at k6
        obtain ⟨o, j, rfl⟩ := k6.form
        obtain ⟨n, hn⟩ : ∃ n, ((full.map (·.1)).filter p).length = n := ⟨_, rfl⟩
        rw [hn] at k3 k6 k7
        have HK6 := Lib.hid k6
        have HK7 := Lib.hid k7
        have HI := Lib.hid hi
        clear hi k6 k7 hn hfs hfu htl hl
        gi_wp2
        refine ⟨by simp, .inl ⟨_, _, rfl, run_takeDeferred hK, ?_⟩⟩
        exact ⟨_, results_tmp rfl _ _ _, _, rfl, (HK6.out.keep fun g hg => World.putObj_heap_other (fun e => HK7.out g hg (by rw [e]; exact hD))).weak (B' := w.heap.size) (B := WL.heap.size) (by omega), below_putObj (HB.out.trans (HI.out.bel.mono hsw)) (by show w.heap.size ≤ WL.heap.size; omega) _⟩
end Go.Proofs.Ytkackejipgabfaa.Char

/- Small things of a view: its time; the numbers that are gone through may be. -/
namespace Go.Proofs.Ytkackejipgabfaa.Char
open Go.RowKit Go.Lib

theorem goL_wf {g : Int → Bool → List Gn → Option (List Gn)} (hg : ∀ k a acc acc', (Lit.int .i64 k).wf = true → (∀ x, x ∈ acc → (Lit.int .i64 x.1).wf = true) → g k a acc = some acc' → ∀ x, x ∈ acc' → (Lit.int .i64 x.1).wf = true) :
    ∀ (ks : List Int) (a : Bool) (acc acc' : List Gn), (∀ z, z ∈ ks → (Lit.int .i64 z).wf = true) → (∀ x, x ∈ acc → (Lit.int .i64 x.1).wf = true) → goL g ks a acc = some acc' → ∀ x, x ∈ acc' → (Lit.int .i64 x.1).wf = true
  | [], _, acc, acc', _, ha, h => by rw [goL] at h; cases h; exact ha
  | k :: ks, a, acc, acc', hk, ha, h => by
    rw [goL] at h
    cases h1 : g k a acc with
    | none => rw [h1] at h; cases h
    | some c =>
      rw [h1] at h
      exact goL_wf hg ks a c acc' (fun z hz => hk z (List.mem_cons_of_mem _ hz)) (hg k a acc c (hk k (List.mem_cons_self ..)) ha h1) h
theorem goF_wf {look : Int → Option Rc} (hw : ∀ id r, look id = some r → ∀ z, z ∈ r.ks ∨ z ∈ r.ats → (Lit.int .i64 z).wf = true) : ∀ (f : Nat) (id : Int) (a : Bool) (acc acc' : List Gn), (Lit.int .i64 id).wf = true → (∀ x, x ∈ acc → (Lit.int .i64 x.1).wf = true) → goF look f id a acc = some acc' → ∀ x, x ∈ acc' → (Lit.int .i64 x.1).wf = true
  | 0, _, _, _, _, _, _, h => by cases h
  | f + 1, id, a, acc, acc', hi, ha, h => by
    have ih := fun k a acc acc' h1 h2 h3 => goF_wf hw f k a acc acc' h1 h2 h3
    rw [goF] at h
    cases hl : look id with
    | none => rw [hl] at h; cases h; exact ha
    | some r =>
      rw [hl] at h
      dsimp only at h
      split at h
      · cases h; exact ha
      · cases h1 : goL (goF look f) r.ats true (acc ++ [(id, a, r)]) with
        | none => rw [h1] at h; cases h
        | some c =>
          rw [h1] at h
          refine goL_wf ih r.ks a c acc' (fun z hz => hw id r hl z (.inl hz)) (goL_wf ih r.ats true _ c (fun z hz => hw id r hl z (.inr hz)) (fun x hx => ?_) h1) h
          rcases List.mem_append.1 hx with hx | hx
          · exact ha x hx
          · rw [List.mem_singleton] at hx; subst hx; exact hi
section
variable {Z : Nat → Prop} {B : Nat} {w : World} {b sb mb t : Nat} {D : DataW Value} {own : Own}
set_option maxRecDepth 100000 in
set_option maxHeartbeats 600000 in
theorem time_any (h : PV Z B w b sb mb t D own) : Calls Try.prog 31 #[.pointer (some ⟨b, 0, none⟩)] w fun e w' => e = .returned (.int .u64 (t : Int)) ∧ w' = w := by
  obtain ⟨c0, c1, c2, c3, _⟩ := h.cells
  have HM := Lib.hid (vmade_yes b w c0)
  have hbl := h.lt
  clear h c0 c1 c3
  go_enter Try.func31, Try.ntmps31
  go_wp2_with (first
    | (go_at_call 48; refine HM.out.mono ?_; rintro e w' ⟨rfl, hw⟩; have hw := hw.symm; subst hw))
  go_ret
  exact ⟨rfl, rfl⟩
end
end Go.Proofs.Ytkackejipgabfaa.Char

/- The walk of the document's own Get. -/
namespace Go.Proofs.Ytkackejipgabfaa.Char
open Go.RowKit Go.Lib

theorem ownAt_app (a b : Own) (id : Int) : ownAt (a ++ b) id = (ownAt a id).or (ownAt b id) := by
  unfold ownAt
  rw [List.find?_append]
  cases a.find? fun c => c.1 == id <;> rfl
theorem ownAt_one (c : Int × Rc) (own : Own) (id : Int) : ownAt (c :: own) id = if c.1 = id then some c.2 else ownAt own id := by
  unfold ownAt
  by_cases h : c.1 = id
  · rw [if_pos h, List.find?_cons_of_pos (by simpa using h)]; rfl
  · rw [if_neg h, List.find?_cons_of_neg (by simpa using h)]
theorem chs_at {cs : List ChV} {id : Int} {k : Nat} (hk : k < cs.length) (h0 : ownAt ((cs.take k).map toCh) id = none) :
    (cs[k].1 = id → ownAt (cs.map toCh) id = some cs[k].2.1) ∧ (cs[k].1 ≠ id → ownAt ((cs.take (k + 1)).map toCh) id = none) := by
  refine ⟨fun he => ?_, fun he => ?_⟩
  · have e1 : cs.map toCh = (cs.take k).map toCh ++ (toCh cs[k] :: (cs.drop (k + 1)).map toCh) := by
      rw [← List.map_cons, ← List.drop_eq_getElem_cons hk, ← List.map_append, List.take_append_drop]
    rw [e1, ownAt_app, h0, ownAt_one, if_pos (by exact he)]
    rfl
  · rw [List.take_succ_eq_append_getElem hk, List.map_append, ownAt_app, h0, List.map_cons, ownAt_one, if_neg (by exact he)]
    rfl
theorem atR_zero {c : Option OnV} (h : (atR c).2 = false) : (atR c).1 = rcV0 := by
  cases c with
  | none => rfl
  | some x =>
    unfold atR at h ⊢
    dsimp only at h ⊢
    by_cases hg : x.2.2.1.gone = true
    · rw [if_pos hg]
    · rw [if_neg hg] at h; cases h
theorem atR_on {F : Nat → Prop} {w : World} {xs : List OnV} (h : ∀ x, x ∈ xs → RcOn w F x.2.2) (id : Int) (t : Nat) : RcOn w F (atR (atL id t xs)).1 := by
  unfold atR
  split
  · exact RcOn.none _ _
  · rename_i x hx
    split
    · exact RcOn.none _ _
    · exact h x (List.mem_filter.1 (List.mem_of_getLast? hx)).1

/-- what the document's Get hands back -/
def GetP (F : Nat → Prop) (w : World) (R : Option Rc) : Ending → World → Prop := fun e w' => ∃ x : RcV, e = .returned (.tuple #[rcV x, .bool R.isSome]) ∧ x.1 = R.getD rc0 ∧ RcOn w' F x ∧ Below w.heap.size w w'
set_option maxRecDepth 100000 in
set_option maxHeartbeats 8000000 in
theorem getW_any {F : Nat → Prop} {B : Nat} {w : World} {b d t gv la : Nat} {v v2 : Value} {xs : List OnV} {cs : List ChV} (hs : RefG F B w d v xs gv la) (h : RW F B w b d t v2 cs) (hl : xs.length ≤ 100000000) (hc : cs.length ≤ 10000000) (id : Int) :
    Calls Try.prog 68 #[.pointer (some ⟨b, 0, none⟩), .int .i64 id] w (GetP F w (lookV (xs.map toOn) t (cs.map toCh) id)) := by
  obtain ⟨W0, hW0⟩ : ∃ W0, W0 = w.alloc (rcB rcV0) := ⟨_, rfl⟩
  have hb0 : Below w.heap.size w W0 := by rw [hW0]; exact (Below.refl _ _).alloc (Nat.le_refl _) _
  have hs0 : W0.heap.size = w.heap.size + 1 := by rw [hW0]; simp
  have hk0 : W0.heap[w.heap.size]? = some (rcB rcV0) := by rw [hW0]; exact World.alloc_heap_new w _
  obtain ⟨o, j, hv⟩ := h.row.form
  subst hv
  have h1 := h.below hb0
  have s1 := hs.below hb0
  have hA := refG_at (s1.below (Below.refl _ _).drew) id t hl
  have hon0 := atR_on s1.row.2 id t
  have htie := at_tie id t xs
  have hzero := atR_zero (c := atL id t xs)
  obtain ⟨⟨⟨r', va', vb'⟩, is'⟩, hat⟩ : ∃ c, atR (atL id t xs) = c := ⟨_, rfl⟩
  rw [hat] at hA hon0 htie hzero
  obtain ⟨ok2, jk2, oa2, ja2, e1, e2⟩ := hon0.form
  dsimp only at e1 e2 hA htie hzero
  subst e1 e2
  obtain ⟨c0, c1, c2, _⟩ := h1.cells
  have hbl := h1.ltb
  obtain ⟨⟨d0, d1, d2, d3, d4, d5, d6⟩, df⟩ := rc_blk hk0
  dsimp only [rcV0, rc0] at d0 d1 d2 d3 d4 d5 d6
  have f0 := df 0
  have f1 := df 1
  have f2 := df 2
  have f3 := df 3
  have f4 := df 4
  have f5 := df 5
  have f6 := df 6
  have H := Lib.hid h1
  have HFB := Lib.hid h.fb
  have HW0 := Lib.hid hW0
  have HB0 := Lib.hid hb0
  have HK0 := Lib.hid hk0
  unfold rcV at hA
  dsimp only at hA
  have HA := Lib.hid hA
  have HON0 := Lib.hid hon0
  have HTIE := Lib.hid htie
  have HZERO := Lib.hid hzero
  unfold rcB rcV0 rc0 at HW0
  dsimp only at HW0
  clear h hs h1 s1 hb0 hW0 hk0 df hat hA hon0 htie hzero
  go_enter Try.func68, Try.ntmps68
  go_wp2_with fail
  have e0 : (⟨#[]⟩ : ByteArray) = bs [] := rfl
  rw [e0, ← HW0.out]
  clear e0
  go_loopw [6] (fun v6 wr => ∃ k : Nat, v6 = .int .i64 (k : Int) ∧ k ≤ cs.length ∧ wr = W0 ∧ Hid (ownAt ((cs.take k).map toCh) id = none)) (fun v _ => cs.length - (RowKit.intOf v).toNat)
  case atStart => exact ⟨0, rfl, Nat.zero_le _, rfl, Lib.hid rfl⟩
  case round =>
    obtain ⟨k, rfl, hk, hwr, HQ⟩ := hrel
    have hwr := hwr.symm
    subst hwr
    by_cases hlt : k < cs.length
    · have hon := H.out.row.on (F := F) (G := fun g => F g ∨ (Value.slice o cs.length j).ownBlock = some g) (fun g hg => .inr hg) H.out.on (fun g hg => .inl hg)
      obtain ⟨g, off, rfl, hgl, hat, _⟩ := hon.reads k hlt
      have hro := H.out.on _ (List.getElem_mem hlt)
      obtain ⟨q1, q2⟩ := chs_at hlt HQ.out
      have hz0 : (0 : Int) ≤ (k : Int) := by omega
      have hz1 : (k : Int) < (cs.length : Int) := by omega
      obtain ⟨Y, hY⟩ : ∃ Y, cs[k] = Y := ⟨_, rfl⟩
      rw [hY] at hat hro q1 q2
      obtain ⟨yi, yr, ya, yb⟩ := Y
      obtain ⟨yok, yjk, yoa, yja, e1, e2⟩ := hro.form
      dsimp only at e1 e2 q1 q2
      subst e1 e2
      obtain ⟨a0, a1, a2, a3, a4, a5, a6, a7⟩ := hat.cells
      dsimp only at a0 a1 a2 a3 a4 a5 a6 a7
      have HRO := Lib.hid hro
      clear hon hat hro hY
      by_cases he : yi = id
      · have k5 : (yi == id) = true := beq_iff_eq.2 he
        have HF := Lib.hid (q1 he)
        clear q1 q2 he
        cases hg : yr.gone with
        | true =>
          have HR : Hid (lookV (xs.map toOn) t (cs.map toCh) id = none) := Lib.hid (by unfold lookV; rw [HF.out]; exact if_pos hg)
          rw [hg] at a7
          clear hg
          go_wp2_with fail
          refine end_rc2 Try.results68 _ w.heap.size (x := rcV0) (c := .bool false) (set7_at (x := rcV0) HK0.out) ⟨_, _, _, _, _, _, rfl, rfl⟩ rfl rfl rfl ?_
          rw [HR.out]
          exact ⟨rcV0, rfl, rfl, RcOn.none _ _, set7_below (x := rcV0) HB0.out (Nat.le_refl _)⟩
        | false =>
          have HR : Hid (lookV (xs.map toOn) t (cs.map toCh) id = some yr) := Lib.hid (by unfold lookV; rw [HF.out]; exact if_neg (by rw [hg]; decide))
          have HG := Lib.hid hg
          rw [hg] at a7
          clear hg
          go_wp2_with fail
          refine end_rc2 Try.results68 _ w.heap.size (x := (yr, .slice yok yr.ks.length yjk, .slice yoa yr.ats.length yja)) (c := .bool true) ?_ ⟨_, _, _, _, _, _, rfl, rfl⟩ rfl rfl rfl ?_
          · rw [← HG.out]
            exact set7_at (x := (yr, .slice yok yr.ks.length yjk, .slice yoa yr.ats.length yja)) HK0.out
          · rw [HR.out]
            refine ⟨(yr, .slice yok yr.ks.length yjk, .slice yoa yr.ats.length yja), by unfold rcV; dsimp only; rw [HG.out]; rfl, rfl, HRO.out.move fun g hg hF => ⟨hF, ?_⟩, ?_⟩
            · rw [← HG.out]
              exact set7_ne (x := (yr, .slice yok yr.ks.length yjk, .slice yoa yr.ats.length yja)) (fun e => by have := HFB.out g hF; omega)
            · rw [← HG.out]
              exact set7_below (x := (yr, .slice yok yr.ks.length yjk, .slice yoa yr.ats.length yja)) HB0.out (Nat.le_refl _)
      · have k5 : (yi == id) = false := beq_eq_false_iff_ne.2 he
        have HF := Lib.hid (q2 he)
        clear q1 q2 he
        go_wp2_with fail
        go_roundw
        case rel => exact ⟨k + 1, by go_num, by omega, by trivial, HF⟩
        case measure => simp [RowKit.intOf]; omega
    · have e : k = cs.length := by omega
      subst e
      rw [List.take_length] at HQ
      have hR : lookV (xs.map toOn) t (cs.map toCh) id = if is' = true then some r' else none := by unfold lookV; rw [HQ.out]; exact HTIE.out
      have c0' : W0.drew.cell? ⟨b, 0, none⟩ = some (.pointer (some ⟨d, 0, none⟩)) := c0
      have c1' : W0.drew.cell? ⟨b, 1, none⟩ = some (.int .u64 (t : Int)) := c1
      have HR := Lib.hid hR
      clear hR
      go_upto_region 8 with fail
      go_region_with
        (first
          | (go_at_call 106
             refine HA.out.mono ?_
             rintro e w3 ⟨rfl, q3⟩
             have hs3 : W0.heap.size ≤ w3.heap.size := q3.size
             have m3 := (q3.block w.heap.size (by show w.heap.size < W0.heap.size; omega)).trans (show W0.drew.heap[w.heap.size]? = some (rcB rcV0) from HK0.out)
             clear d0 d1 d2 d3 d4 d5 d6 f0 f1 f2 f3 f4 f5 f6
             obtain ⟨⟨d0, d1, d2, d3, d4, d5, d6⟩, df⟩ := rc_blk m3
             have f0 := df 0
             have f1 := df 1
             have f2 := df 2
             have f3 := df 3
             have f4 := df 4
             have f5 := df 5
             have f6 := df 6
             dsimp only [rcV0, rc0] at d0 d1 d2 d3 d4 d5 d6
             have HQ3 := Lib.hid q3
             have HM3 := Lib.hid m3
             clear q3 m3 df))
      all_goals
        go_wp2_with fail
        refine end_rc2 Try.results68 _ w.heap.size (x := (r', .slice ok2 r'.ks.length jk2, .slice oa2 r'.ats.length ja2)) (c := .bool is') (set7_at (x := (r', .slice ok2 r'.ks.length jk2, .slice oa2 r'.ats.length ja2)) HM3.out) ⟨_, _, _, _, _, _, rfl, rfl⟩ rfl rfl rfl ?_
        have hb3 : Below w.heap.size w w3 := HB0.out.drew.trans (HQ3.out.mono (by show w.heap.size ≤ W0.heap.size; omega))
        refine ⟨(r', .slice ok2 r'.ks.length jk2, .slice oa2 r'.ats.length ja2), ?_, ?_, HON0.out.move fun g hg hF => ⟨hF, (set7_ne (x := (r', .slice ok2 r'.ks.length jk2, .slice oa2 r'.ats.length ja2)) (by have := HFB.out g hF; omega)).trans (HQ3.out.block g hg)⟩, set7_below (x := (r', .slice ok2 r'.ks.length jk2, .slice oa2 r'.ats.length ja2)) hb3 (Nat.le_refl _)⟩
        · rw [HR.out]
          cases is' <;> rfl
        · rw [HR.out]
          cases is' with
          | true => rfl
          | false => exact congrArg Prod.fst (HZERO.out rfl)
end Go.Proofs.Ytkackejipgabfaa.Char

/- The walk of the document's own Has. -/
namespace Go.Proofs.Ytkackejipgabfaa.Char
open Go.RowKit Go.Lib

set_option maxRecDepth 100000 in
theorem hasW_any {F : Nat → Prop} {w : World} {v : Value} {zs : List Int} (h : IntsOn w F v zs) (hl : zs.length ≤ 1000000000) (n : Int) :
    Calls Try.prog 35 #[v, .int .i64 n] w fun e w' => e = .returned (.bool (zs.any fun z => z == n)) ∧ w' = w := by
  obtain ⟨o, i, j, rfl, rfl, hz⟩ := h
  have HZ := Lib.hid hz
  clear hz
  go_enter Try.func35, Try.ntmps35
  go_wp2_with fail
  go_loopw [5] (fun v5 wr => ∃ k : Nat, v5 = .int .i64 (k : Int) ∧ k ≤ zs.length ∧ wr = w ∧ Hid ((zs.take k).any (fun z => z == n) = false)) (fun v _ => zs.length - (RowKit.intOf v).toNat)
  case atStart => exact ⟨0, rfl, Nat.zero_le _, rfl, Lib.hid rfl⟩
  case round =>
    obtain ⟨k, rfl, hk, hwr, HQ⟩ := hrel
    have hwr := hwr.symm
    subst hwr
    by_cases hlt : k < zs.length
    · rcases HZ.out with h0 | ⟨g, off, rfl, hg, hc⟩
      · rw [h0] at hlt; cases hlt
      have c0 := hc k hlt
      have e0 : zs.getD k 0 = zs[k] := by simp [hlt]
      have htk := List.take_succ_eq_append_getElem hlt
      have hm := List.getElem_mem hlt
      rw [e0] at c0
      obtain ⟨y, hy⟩ : ∃ y, zs[k] = y := ⟨_, rfl⟩
      rw [hy] at c0 htk hm
      have hz0 : (0 : Int) ≤ (k : Int) := by omega
      have hz1 : (k : Int) < (zs.length : Int) := by omega
      have HTK := Lib.hid htk
      have HM := Lib.hid hm
      clear hc e0 htk hm hy
      by_cases he : y = n
      · have k5 : (y == n) = true := beq_iff_eq.2 he
        have HE := Lib.hid he
        clear he
        go_wp2_with fail
        go_ret
        have : (zs.any fun z => z == n) = true := List.any_eq_true.2 ⟨y, HM.out, by simpa using HE.out⟩
        rw [this]
        exact ⟨rfl, rfl⟩
      · have k5 : (y == n) = false := beq_eq_false_iff_ne.2 he
        have HE := Lib.hid he
        clear he
        go_wp2_with fail
        go_roundw
        case rel => exact ⟨k + 1, by go_num, by omega, by trivial, Lib.hid (by rw [HTK.out, List.any_append, HQ.out]; simp [HE.out])⟩
        case measure => simp [RowKit.intOf]; omega
    · have e : k = zs.length := by omega
      subst e
      rw [List.take_length] at HQ
      go_wp2_with fail
      go_ret
      rw [HQ.out]
      exact ⟨rfl, rfl⟩
end Go.Proofs.Ytkackejipgabfaa.Char

/- What the document's Go keeps of its way. -/
namespace Go.Proofs.Ytkackejipgabfaa.Char
open Go.RowKit Go.Lib

/-- the document's view and its store, all of it below q -/
structure VWq (F : Nat → Prop) (B q : Nat) (w : World) (b d t : Nat) (v v2 : Value) (xs : List OnV) (cs : List ChV) (gv la : Nat) : Prop where
  st : RefG F B w d v xs gv la
  vw : RW F B w b d t v2 cs
  lo : ∀ g, (ownB d v g ∨ g = b ∨ v2.ownBlock = some g ∨ F g) → g < q
theorem VWq.below {F : Nat → Prop} {B q : Nat} {w : World} {b d t : Nat} {v v2 : Value} {xs : List OnV} {cs : List ChV} {gv la : Nat} (h : VWq F B q w b d t v v2 xs cs gv la) {w' : World} (hb : Below q w w') : VWq F B q w' b d t v v2 xs cs gv la :=
  ⟨h.st.move (fun k hk => hb.block k (h.lo k (.inl hk))) (fun k hk => hb.block k (h.lo k (.inr (.inr (.inr hk))))) hb.size,
    h.vw.move (fun k hk => hb.block k (h.lo k (by rcases hk with hk | hk | hk; exact .inr (.inl hk); exact .inr (.inr (.inl hk)); exact .inr (.inr (.inr hk))))) hb.size, h.lo⟩

def asG (acc : List Gn) : List Int := acc.map (·.1)
def bsG (acc : List Gn) : List Int := (acc.filter (·.2.1)).map (·.1)
theorem hasG_as (acc : List Gn) (id : Int) : ((asG acc).any fun z => z == id) = hasG acc id := by unfold asG hasG; rw [List.any_map]; rfl
theorem asG_snoc (acc : List Gn) (x : Gn) : asG (acc ++ [x]) = asG acc ++ [x.1] := by unfold asG; rw [List.map_append]; rfl
theorem bsG_yes (acc : List Gn) (id : Int) (r : Rc) : bsG (acc ++ [(id, true, r)]) = bsG acc ++ [id] := by unfold bsG; simp
theorem bsG_no (acc : List Gn) (id : Int) (r : Rc) : bsG (acc ++ [(id, false, r)]) = bsG acc := by unfold bsG; simp
theorem bsG_len (acc : List Gn) : (bsG acc).length ≤ acc.length := by unfold bsG; rw [List.length_map]; exact List.length_filter_le _ _

/-- the way in memory -/
structure GoW (w : World) (q : Nat) (u v : Value) (ys zs' : List Int) : Prop where
  cell : w.heap[q]? = some (.cells #[u, v] 102 (0, 0))
  ou : OwnsInt (q + 1) w u ys
  ov : OwnsInt (q + 1) w v zs'
  ne : ∀ g, u.ownBlock = some g → v.ownBlock ≠ some g
theorem GoW.cells {w : World} {q : Nat} {u v : Value} {ys zs' : List Int} (h : GoW w q u v ys zs') : w.cell? ⟨q, 0, none⟩ = some u ∧ w.cell? ⟨q, 1, none⟩ = some v ∧ (∀ i, w.frozen? ⟨q, i, none⟩ = false) ∧ q < w.heap.size :=
  ⟨by simp [World.cell?, h.cell], by simp [World.cell?, h.cell], fun i => by simp [World.frozen?, h.cell], (Array.getElem?_eq_some_iff.1 h.cell).1⟩
theorem GoW.move {w : World} {q : Nat} {u v : Value} {ys zs' : List Int} (h : GoW w q u v ys zs') {w' : World} (hk : ∀ g, g = q ∨ u.ownBlock = some g ∨ v.ownBlock = some g → w'.heap[g]? = w.heap[g]?) : GoW w' q u v ys zs' :=
  ⟨(hk q (.inl rfl)).trans h.cell, h.ou.keep fun g hg => hk g (.inr (.inl hg)), h.ov.keep fun g hg => hk g (.inr (.inr hg)), h.ne⟩
theorem GoW.below {w : World} {q : Nat} {u v : Value} {ys zs' : List Int} (h : GoW w q u v ys zs') {w' : World} (hb : Below w.heap.size w w') : GoW w' q u v ys zs' :=
  h.move fun g hg => hb.block g (by
    rcases hg with rfl | hg | hg
    · exact h.cells.2.2.2
    · exact (h.ou.blk hg).2
    · exact (h.ov.blk hg).2)
/-- the way grows; all else stands -/
def WayO (q : Nat) (u v : Value) : Nat → Prop := fun g => g = q ∨ u.ownBlock = some g ∨ v.ownBlock = some g
def GoP (q : Nat) (w : World) (u v : Value) (acc' : List Gn) : Ending → World → Prop := fun e w' => (∃ z, e = .returned z) ∧ ∃ u' v', GoW w' q u' v' (asG acc') (bsG acc') ∧ Only q (WayO q u v) w w' ∧ ∀ g, u'.ownBlock = some g ∨ v'.ownBlock = some g → (u.ownBlock = some g ∨ v.ownBlock = some g) ∨ w.heap.size ≤ g

structure GI (q : Nat) (w : World) (u0 v0 : Value) (xb : Nat) (x : RcV) (ys zs' : List Int) (u v : Value) (wr : World) : Prop where
  go : GoW wr q u v ys zs'
  only : Only q (WayO q u0 v0) w wr
  xo : wr.heap[xb]? = some (rcB x)
  own : ∀ g, u.ownBlock = some g ∨ v.ownBlock = some g → (u0.ownBlock = some g ∨ v0.ownBlock = some g) ∨ xb < g
  xlt : w.heap.size ≤ xb
  o0 : ∀ g, u0.ownBlock = some g ∨ v0.ownBlock = some g → q < g ∧ g < w.heap.size
  qlt : q < w.heap.size
section
variable {q : Nat} {w : World} {u0 v0 : Value} {xb : Nat} {x : RcV} {ys zs' : List Int} {u v : Value} {wr : World}
theorem GI.xlw (h : GI q w u0 v0 xb x ys zs' u v wr) : xb < wr.heap.size := (Array.getElem?_eq_some_iff.1 h.xo).1
theorem GI.nx (h : GI q w u0 v0 xb x ys zs' u v wr) : ¬ WayO q u v xb := fun e => by
  have := h.qlt
  have := h.xlt
  rcases e with e | e | e
  · omega
  · rcases h.own xb (.inl e) with e | e
    · have := h.o0 xb e; omega
    · omega
  · rcases h.own xb (.inr e) with e | e
    · have := h.o0 xb e; omega
    · omega
theorem GI.after (h : GI q w u0 v0 xb x ys zs' u v wr) {w' : World} {u' v' : Value} {ys' zs2 : List Int} (ho : Only q (WayO q u v) wr w') (hg : GoW w' q u' v' ys' zs2)
    (hn : ∀ g, u'.ownBlock = some g ∨ v'.ownBlock = some g → (u.ownBlock = some g ∨ v.ownBlock = some g) ∨ wr.heap.size ≤ g) : GI q w u0 v0 xb x ys' zs2 u' v' w' := by
  have hx := h.xlw
  have hxl := h.xlt
  refine ⟨hg, h.only.trans ho fun i hi e => ?_, (ho.2 xb hx h.nx).trans h.xo, fun g e => ?_, h.xlt, h.o0, h.qlt⟩
  · rcases e with e | e
    · exact .inl e
    · rcases h.own i e with e | e
      · exact .inr e
      · omega
  · rcases hn g e with e | e
    · exact h.own g e
    · exact .inr (by omega)
theorem GI.stay (h : GI q w u0 v0 xb x ys zs' u v wr) {w' : World} (hb : Below wr.heap.size wr w') : GI q w u0 v0 xb x ys zs' u v w' :=
  h.after (Only.of hb (Nat.le_of_lt h.go.cells.2.2.2)) (h.go.below hb) (fun _ e => .inl e)
theorem way_set0 {w : World} {q : Nat} {u v : Value} (h : w.heap[q]? = some (.cells #[u, v] 102 (0, 0))) (u' : Value) : (w.setCell ⟨q, 0, none⟩ u').heap[q]? = some (.cells #[u', v] 102 (0, 0)) :=
  (heap_set_at (i := 0) (u := u') h).trans (by simp)
theorem way_set1 {w : World} {q : Nat} {u v : Value} (h : w.heap[q]? = some (.cells #[u, v] 102 (0, 0))) (v' : Value) : (w.setCell ⟨q, 1, none⟩ v').heap[q]? = some (.cells #[u, v'] 102 (0, 0)) :=
  (heap_set_at (i := 1) (u := v') h).trans (by simp)
theorem GI.pushU (h : GI q w u0 v0 xb x ys zs' u v wr) {w1 : World} {u' : Value} {z : Int} (q1 : OwnsInt (q + 1) w1 u' (ys ++ [z])) (q2 : Below (q + 1) wr w1) (q3 : ∀ k, k < wr.heap.size → some k ≠ u.ownBlock → w1.heap[k]? = wr.heap[k]?) (q4 : ∀ g, u'.ownBlock = some g → u.ownBlock = some g ∨ wr.heap.size ≤ g) :
    GI q w u0 v0 xb x (ys ++ [z]) zs' u' v (w1.setCell ⟨q, 0, none⟩ u') := by
  have hq := h.go.cells.2.2.2
  have keep : ∀ k, k < wr.heap.size → k ≠ q → u.ownBlock ≠ some k → (w1.setCell ⟨q, 0, none⟩ u').heap[k]? = wr.heap[k]? := fun k h1 h2 h3 => (heap_set_ne (a := ⟨q, 0, none⟩) h2).trans (q3 k h1 fun e => h3 e.symm)
  have hu : ∀ g, u.ownBlock = some g → q < g := fun g hg => (h.go.ou.blk hg).1
  refine h.after (u' := u') (v' := v) ⟨(q2.mono (Nat.le_succ q)).setCell (p := ⟨q, 0, none⟩) (Nat.le_refl _) _, fun k h1 h2 => keep k h1 (fun e => h2 (.inl e)) (fun e => h2 (.inr (.inl e)))⟩ ⟨?_, ?_, ?_, fun g hg e => ?_⟩ (fun g hg => ?_)
  · exact way_set0 ((q3 q hq (fun e => by have := hu q e.symm; omega)).trans h.go.cell) u'
  · exact q1.keep fun g hg => heap_set_ne (a := ⟨q, 0, none⟩) (by have := (q1.blk hg).1; show g ≠ q; omega)
  · exact h.go.ov.keep fun g hg => keep g (h.go.ov.blk hg).2 (by have := (h.go.ov.blk hg).1; omega) (fun e => h.go.ne g e hg)
  · rcases q4 g hg with p | p
    · exact h.go.ne g p e
    · have := (h.go.ov.blk e).2; omega
  · rcases hg with hg | hg
    · exact (q4 g hg).elim (fun p => .inl (.inl p)) .inr
    · exact .inl (.inr hg)
theorem GI.pushV (h : GI q w u0 v0 xb x ys zs' u v wr) {w1 : World} {v' : Value} {z : Int} (q1 : OwnsInt (q + 1) w1 v' (zs' ++ [z])) (q2 : Below (q + 1) wr w1) (q3 : ∀ k, k < wr.heap.size → some k ≠ v.ownBlock → w1.heap[k]? = wr.heap[k]?) (q4 : ∀ g, v'.ownBlock = some g → v.ownBlock = some g ∨ wr.heap.size ≤ g) :
    GI q w u0 v0 xb x ys (zs' ++ [z]) u v' (w1.setCell ⟨q, 1, none⟩ v') := by
  have hq := h.go.cells.2.2.2
  have keep : ∀ k, k < wr.heap.size → k ≠ q → v.ownBlock ≠ some k → (w1.setCell ⟨q, 1, none⟩ v').heap[k]? = wr.heap[k]? := fun k h1 h2 h3 => (heap_set_ne (a := ⟨q, 1, none⟩) h2).trans (q3 k h1 fun e => h3 e.symm)
  have hu : ∀ g, v.ownBlock = some g → q < g := fun g hg => (h.go.ov.blk hg).1
  refine h.after (u' := u) (v' := v') ⟨(q2.mono (Nat.le_succ q)).setCell (p := ⟨q, 1, none⟩) (Nat.le_refl _) _, fun k h1 h2 => keep k h1 (fun e => h2 (.inl e)) (fun e => h2 (.inr (.inr e)))⟩ ⟨?_, ?_, ?_, fun g hg e => ?_⟩ (fun g hg => ?_)
  · exact way_set1 ((q3 q hq (fun e => by have := hu q e.symm; omega)).trans h.go.cell) v'
  · exact h.go.ou.keep fun g hg => keep g (h.go.ou.blk hg).2 (by have := (h.go.ou.blk hg).1; omega) (fun e => h.go.ne g hg e)
  · exact q1.keep fun g hg => heap_set_ne (a := ⟨q, 1, none⟩) (by have := (q1.blk hg).1; show g ≠ q; omega)
  · rcases q4 g e with p | p
    · exact h.go.ne g hg p
    · have := (h.go.ou.blk hg).2; omega
  · rcases hg with hg | hg
    · exact .inl (.inl hg)
    · exact (q4 g hg).elim (fun p => .inl (.inr p)) .inr
end
end Go.Proofs.Ytkackejipgabfaa.Char

/- The walk of Get. -/
namespace Go.Proofs.Ytkackejipgabfaa.Char
open Go.RowKit Go.Lib

/-- what Get hands back: a copy -/
def GetVP (w : World) (R : Option Rc) : Ending → World → Prop := fun e w' => ∃ x : RcV, e = .returned (.tuple #[rcV x, .bool R.isSome]) ∧ x.1 = R.getD rc0 ∧ RcOn w' (fun g => w.heap.size ≤ g) x ∧ Below w.heap.size w w'
section
set_option maxRecDepth 100000 in
set_option maxHeartbeats 600000 in
theorem getV_gen {Z : Nat → Prop} {w : World} {vp : Option Addr} {look : Int → Option Rc} (h : VH Z w vp look) (id : Int) (hid : (Lit.int .i64 id).wf = true) :
    Calls Try.prog 27 #[.pointer vp, .int .i64 id] w (GetVP w (look id)) := by
  obtain ⟨W1, hW1⟩ : ∃ W1, W1 = w.alloc (rcB rcV0) := ⟨_, rfl⟩
  have hb1 : Below w.heap.size w W1 := by rw [hW1]; exact (Below.refl _ _).alloc (Nat.le_refl _) _
  have hs1 : W1.heap.size = w.heap.size + 1 := by rw [hW1]; simp
  have hk1 : W1.heap[w.heap.size]? = some (rcB rcV0) := by rw [hW1]; exact World.alloc_heap_new w _
  have hrec := (h.below hb1).tell W1 (fun _ _ => rfl) (Nat.le_refl _) id hid
  have hsm : RcSm ((look id).getD rc0) := by
    cases hr : look id with
    | none => exact ⟨Nat.zero_le _, Nat.zero_le _⟩
    | some r => exact h.sm id r hr
  obtain ⟨R, hR⟩ : ∃ R, look id = R := ⟨_, rfl⟩
  rw [hR] at hrec hsm ⊢
  have HREC := Lib.hid hrec
  have HSM := Lib.hid hsm
  have HB1 := Lib.hid hb1
  have HK1 := Lib.hid hk1
  have HW1 := Lib.hid hW1
  unfold rcB rcV0 rc0 at HW1
  dsimp only at HW1
  clear h hR hrec hsm hb1 hk1 hW1
  go_enter Try.func27, Try.ntmps27
  go_upto_region 2 with (first
    | (go_at_call 58
       rw [show (⟨#[]⟩ : ByteArray) = bs [] from rfl, ← HW1.out]
       refine HREC.out.mono ?_
       rintro e w2 ⟨⟨r, va, vb⟩, rfl, q1, q2, q3⟩
       dsimp only at q1
       obtain ⟨ok, jk, oa, ja, e1, e2⟩ := q2.form
       dsimp only at e1 e2
       subst e1 e2
       unfold rcV
       dsimp only
       have Q1 := Lib.hid q1
       have Q2 := Lib.hid q2
       have Q3 := Lib.hid q3
       clear q1 q2 q3))
  obtain ⟨W3, hW3⟩ : ∃ W3, W3 = w2.alloc (.cells #[.int .i64 r.kd, .string (bs r.nm), .string (bs r.tx), .int .i64 r.pa, .slice ok r.ks.length jk, .slice oa r.ats.length ja, .bool r.gone] 34) := ⟨_, rfl⟩
  rw [← hW3]
  have hs2 := Q3.out.size
  have hb3 : Below w2.heap.size w2 W3 := by rw [hW3]; exact (Below.refl _ _).alloc (Nat.le_refl _) _
  have hk3 : W3.heap[w2.heap.size]? = some (rcB (r, .slice ok r.ks.length jk, .slice oa r.ats.length ja)) := by rw [hW3]; exact World.alloc_heap_new w2 _
  have hb13 : Below W1.heap.size W1 W3 := Q3.out.trans (hb3.mono hs2)
  obtain ⟨⟨y0, y1, y2, y3, y4, y5, y6⟩, _⟩ := rc_blk hk3
  dsimp only at y0 y1 y2 y3 y4 y5 y6
  have hcp := copiedV_any (r, .slice ok r.ks.length jk, .slice oa r.ats.length ja) _ W3 (Q2.out.below hb3) (by have := HSM.out; rw [← Q1.out] at this; exact this)
  have HCP := Lib.hid hcp
  unfold rcV at HCP
  dsimp only at HCP
  have HB13 := Lib.hid hb13
  have hs3 := hb13.size
  clear hcp hb13 hk3 hb3 hW3
  go_wp2_with (first
    | (go_at_call 52
       refine HCP.out.mono ?_
       rintro e w4 ⟨⟨r4, va4, vb4⟩, h4, rfl, q2, q3⟩
       dsimp only at h4
       subst h4
       obtain ⟨ok4, jk4, oa4, ja4, e1, e2⟩ := q2.form
       dsimp only at e1 e2
       subst e1 e2
       unfold rcV
       dsimp only
       have hb14 := HB13.out.trans (q3.mono hs3)
       have m4 := (hb14.block w.heap.size (by omega)).trans HK1.out
       obtain ⟨⟨d0, d1, d2, d3, d4, d5, d6⟩, df⟩ := rc_blk m4
       have f0 := df 0
       have f1 := df 1
       have f2 := df 2
       have f3 := df 3
       have f4 := df 4
       have f5 := df 5
       have f6 := df 6
       dsimp only [rcV0, rc0] at d0 d1 d2 d3 d4 d5 d6
       have HB14 := Lib.hid hb14
       have HM4 := Lib.hid m4
       have HQ2 := Lib.hid q2
       have HS4 := Lib.hid q3.size
       clear q2 q3 hb14 m4 df))
  refine end_rc2 Try.results27 _ w.heap.size (x := (r4, .slice ok4 r4.ks.length jk4, .slice oa4 r4.ats.length ja4)) (c := .bool R.isSome) (set7_at (x := (r4, .slice ok4 r4.ks.length jk4, .slice oa4 r4.ats.length ja4)) HM4.out) ⟨_, _, _, _, _, _, rfl, rfl⟩ rfl rfl rfl ?_
  refine ⟨(r4, .slice ok4 r4.ks.length jk4, .slice oa4 r4.ats.length ja4), rfl, Q1.out, HQ2.out.move fun g _ hF => ?_, set7_below (x := (r4, .slice ok4 r4.ks.length jk4, .slice oa4 r4.ats.length ja4)) (HB1.out.trans (HB14.out.mono (by omega))) (Nat.le_refl _)⟩
  have hF' : W3.heap.size ≤ g := hF
  exact ⟨by omega, set7_ne (x := (r4, .slice ok4 r4.ks.length jk4, .slice oa4 r4.ats.length ja4)) (by omega)⟩
end
end Go.Proofs.Ytkackejipgabfaa.Char

/- All and Sort of a view of a store. -/
namespace Go.Proofs.Ytkackejipgabfaa.Char
open Go.RowKit Go.Lib

section
variable {Z Z1 : Nat → Prop} {B B1 : Nat} {w : World} {b sb mb t : Nat} {D : DataW Value} {own : Own} {S : Sto}
theorem allV_any (h : PV Z B w b sb mb t D own) (hp : PS Z1 B1 w sb S) (hl : S.L.length ≤ 1000000) (ho1 : own.length ≤ 1000000) (hL : wfL S.L) (ho : wfO own) :
    Calls Try.prog 15 #[.pointer (some ⟨b, 0, none⟩)] w fun e w' => ∃ u, e = .returned u ∧ OwnsInt w.heap.size w' u (asG (goV S.L t own 1)) ∧ Below w.heap.size w w' :=
  all_gen (h.vh hp (by omega) hL ho) _ _ (goV_eq S.L t own 1) (by have := goV_len S.L t own 1; omega)
theorem sortV_any (h : PV Z B w b sb mb t D own) (hp : PS Z1 B1 w sb S) (hl : S.L.length ≤ 1000000) (ho1 : own.length ≤ 1000000) (hL : wfL S.L) (ho : wfO own)
    {K : Nat → Prop} (oz : Option Addr) (jz : Nat) (zs : List Int) (hz : IntsOn w K (.slice oz zs.length jz) zs) (hK : ∀ g, K g → g < w.heap.size) (hzl : zs.length ≤ 10000000) (hzw : ∀ z, z ∈ zs → (Lit.int .i64 z).wf = true) :
    Calls Try.prog 17 #[.pointer (some ⟨b, 0, none⟩), .slice oz zs.length jz] w fun e w' => ∃ u, e = .returned u ∧ OwnsInt w.heap.size w' u ((asG (goV S.L t own 1)).filter fun z => zs.any fun y => y == z) ∧ Below w.heap.size w w' := by
  have hv := h.vh hp (by omega) hL ho
  exact sort_gen hv _ _ (goV_eq S.L t own 1) (by have := goV_len S.L t own 1; omega) (goV_once S.L t own 1).1 (goF_wf hv.wf _ 1 false [] _ (by decide) (fun x hx => (by cases hx)) (goV_eq S.L t own 1)) oz jz zs hz hK hzl hzw
theorem getV_any (h : PV Z B w b sb mb t D own) (hp : PS Z1 B1 w sb S) (hl : S.L.length ≤ 1000000) (hL : wfL S.L) (ho : wfO own) (id : Int) (hid : (Lit.int .i64 id).wf = true) :
    Calls Try.prog 27 #[.pointer (some ⟨b, 0, none⟩), .int .i64 id] w (GetVP w (lookV S.L t own id)) :=
  getV_gen (h.vh hp (by omega) hL ho) id hid
end
end Go.Proofs.Ytkackejipgabfaa.Char
