/- PVOn RecordV PutV TrM NdOn SeqM IntP VS -/
import Derived.Test.YtkackejipgabfaaPk04
import Derived.Maps.OwnSet
import Derived.Maps.Ext
import Derived.Deep.RegionWith
import Derived.Deep.CutBlock
import Derived.Deep.DeepCutAuto
import Derived.Test.YtkackejipgabfaaPk02
import Derived.Test.YtkackejipgabfaaPk00
import Derived.RangeFuncNested
import Derived.RangeFuncBound
import Derived.RangeFuncCalls
import Derived.RangeFuncLeaves
import Derived.RangeFuncBox
import Derived.RangeFuncKeeps
import Derived.Shelf.Abstract
import Derived.Shelf.RegionOpen
import Derived.OwnWalkIn
import Derived.TacticsInMore
import Derived.LoopNIn
import Derived.LoopIn
import Derived.Test.YtkackejipgabfaaPk01
import Derived.Maps.OwnIn
/- A view in memory: its own changes in a map from numbers to records. -/
namespace Go.Proofs.Ytkackejipgabfaa.Char
open Go.RowKit Go.Lib

/-- the view at b, of the store at sb, at the time t; its changes in the map mb; all that is its own lies in Z -/
structure PV (Z : Nat → Prop) (B : Nat) (w : World) (b sb mb t : Nat) (D : DataW Value) (own : Own) : Prop where
  cell : w.heap[b]? = some (.cells #[.pointer (some ⟨b, 0, none⟩), .pointer (some ⟨sb, 0, none⟩), .int .u64 (t : Int), .map (some mb)] 63 (0, 0))
  mown : w.ownsMap Try.prog 3 heldE mb own.length D
  siz : Maps.size D = own.length
  has : ∀ id, Maps.has D (kI id) = (ownAt own id).isSome
  val : ∀ id r, ownAt own id = some r → ∃ x : RcV, x.1 = r ∧ D.atKey (kI id) (.held (rcV rcV0)) = .held (rcV x) ∧ RcOn w (fun g => Z g ∧ g ≠ b ∧ g ≠ mb) x
  no : ∀ id, ownAt own id = none → D.atKey (kI id) (.held (rcV rcV0)) = .held (rcV rcV0)
  sm : ∀ c, c ∈ own → RcSm c.2
  zb : Z b
  zm : Z mb
  zB : ∀ g, Z g → B ≤ g ∧ g < w.heap.size
  up : upO own
  ids : ∀ c, c ∈ own → 1 ≤ c.1 ∧ (Lit.int .i64 c.1).wf = true
section
variable {Z : Nat → Prop} {B : Nat} {w : World} {b sb mb t : Nat} {D : DataW Value} {own : Own}
theorem PV.move (h : PV Z B w b sb mb t D own) {w' : World} (hz : ∀ g, Z g → w'.heap[g]? = w.heap[g]?) (hs : w.heap.size ≤ w'.heap.size) : PV Z B w' b sb mb t D own where
  cell := (hz b h.zb).trans h.cell
  mown := by
    obtain ⟨es, clock, hb, F, q1, q2⟩ := h.mown
    exact ⟨es, clock, (hz mb h.zm).trans hb, F, q1, q2⟩
  siz := h.siz
  has := h.has
  val := fun id r hr => by
    obtain ⟨x, h1, h2, h3⟩ := h.val id r hr
    exact ⟨x, h1, h2, h3.move fun g _ hF => ⟨hF, hz g hF.1⟩⟩
  no := h.no
  sm := h.sm
  zb := h.zb
  zm := h.zm
  zB := fun g hg => ⟨(h.zB g hg).1, Nat.lt_of_lt_of_le (h.zB g hg).2 hs⟩
  up := h.up
  ids := h.ids
theorem PV.below (h : PV Z B w b sb mb t D own) {w' : World} (hb : Below w.heap.size w w') : PV Z B w' b sb mb t D own := h.move (fun g hg => hb.block g (h.zB g hg).2) hb.size
theorem PV.cells (h : PV Z B w b sb mb t D own) : w.cell? ⟨b, 0, none⟩ = some (.pointer (some ⟨b, 0, none⟩)) ∧ w.cell? ⟨b, 1, none⟩ = some (.pointer (some ⟨sb, 0, none⟩)) ∧ w.cell? ⟨b, 2, none⟩ = some (.int .u64 (t : Int)) ∧ w.cell? ⟨b, 3, none⟩ = some (.map (some mb)) ∧ ∀ i, w.frozen? ⟨b, i, none⟩ = false :=
  ⟨by simp [World.cell?, h.cell], by simp [World.cell?, h.cell], by simp [World.cell?, h.cell], by simp [World.cell?, h.cell], fun i => by simp [World.frozen?, h.cell]⟩
theorem PV.lt (h : PV Z B w b sb mb t D own) : b < w.heap.size := (Array.getElem?_eq_some_iff.1 h.cell).1
theorem PV.ne (h : PV Z B w b sb mb t D own) : b ≠ mb := fun e => by
  obtain ⟨es, clock, hb, _⟩ := h.mown
  rw [← e, h.cell] at hb
  cases hb
theorem zero_rec (w : World) : (zeroValue 34).run Try.prog w = .ok (rcV rcV0) w := Try.zeroValue34 w
/-- what the map tells of a node -/
theorem PV.look (h : PV Z B w b sb mb t D own) {id : Int} (hid : (Lit.int .i64 id).wf = true) :
    ∃ x : RcV, (Instr.lookup 61 (.map (some mb)) (.int .i64 id) true).run Try.prog w = .ok (.tuple #[rcV x, .bool (ownAt own id).isSome]) w ∧ (Instr.lookup 61 (.map (some mb)) (.int .i64 id) false).run Try.prog w = .ok (rcV x) w ∧
      x.1 = (ownAt own id).getD rc0 ∧ RcOn w (fun g => Z g ∧ g ≠ b ∧ g ≠ mb) x := by
  obtain ⟨v, ps, hr, hv⟩ := h.mown.look_ok law_int Try.underlying61 (zero_rec w) (show heldE (rcV rcV0) = some (.held (rcV rcV0), []) from rfl) (key_int hid)
  obtain ⟨v', ps', hr', hv'⟩ := h.mown.lookup law_int Try.underlying61 (zero_rec w) (show heldE (rcV rcV0) = some (.held (rcV rcV0), []) from rfl) (key_int hid)
  rw [h.has id] at hr
  cases ho : ownAt own id with
  | none =>
    have hn := h.no id ho
    rw [hn] at hv hv'
    simp only [heldE, Option.some.injEq, Prod.mk.injEq, DataW.held.injEq] at hv hv'
    rw [hv.1, ho] at hr
    rw [hv'.1] at hr'
    exact ⟨rcV0, hr, hr', rfl, RcOn.none _ _⟩
  | some r =>
    obtain ⟨x, h1, h2, h3⟩ := h.val id r ho
    rw [h2] at hv hv'
    simp only [heldE, Option.some.injEq, Prod.mk.injEq, DataW.held.injEq] at hv hv'
    rw [hv.1, ho] at hr
    rw [hv'.1] at hr'
    exact ⟨x, hr, hr', h1, h3⟩
theorem PV.smAt (h : PV Z B w b sb mb t D own) {id : Int} : RcSm ((ownAt own id).getD rc0) := by
  cases ho : ownAt own id with
  | none => exact ⟨by decide, by decide⟩
  | some r => exact h.sm _ ((ownAt_mem h.up).1 ho)
end
end Go.Proofs.Ytkackejipgabfaa.Char

/- The walk of a view's record. -/
namespace Go.Proofs.Ytkackejipgabfaa.Char
open Go.RowKit Go.Lib

/-- what record hands back -/
def RecPost (Z : Nat → Prop) (w : World) (R : Option Rc) : Ending → World → Prop := fun e w' => ∃ x : RcV, e = .returned (.tuple #[rcV x, .bool R.isSome]) ∧ x.1 = R.getD rc0 ∧ RcOn w' (fun g => Z g ∨ w.heap.size ≤ g) x ∧ Below w.heap.size w w'
section
variable {Z Z1 : Nat → Prop} {B B1 : Nat} {w : World} {b sb mb t : Nat} {D : DataW Value} {own : Own} {S : Sto}
theorem lookV_sm (h : PV Z B w b sb mb t D own) (hp : PS Z1 B1 w sb S) {id : Int} {r : Rc} (hr : lookV S.L t own id = some r) : RcSm r := by
  unfold lookV at hr
  cases ho : ownAt own id with
  | none => rw [ho] at hr; exact hp.sm hr
  | some x =>
    rw [ho] at hr
    dsimp only at hr
    split at hr
    · cases hr
    · cases hr
      exact h.sm _ ((ownAt_mem h.up).1 ho)
set_option maxRecDepth 100000 in
set_option maxHeartbeats 8000000 in
theorem record_any (h : PV Z B w b sb mb t D own) (hp : PS Z1 B1 w sb S) (id : Int) (hid : (Lit.int .i64 id).wf = true) (hl : S.L.length ≤ 10000000) :
    Calls Try.prog 58 #[.pointer (some ⟨b, 0, none⟩), .int .i64 id] w (RecPost Z w (lookV S.L t own id)) := by
  obtain ⟨W1, hW1⟩ : ∃ W1, W1 = w.alloc (rcB rcV0) := ⟨_, rfl⟩
  have hb1 : Below w.heap.size w W1 := by rw [hW1]; exact (Below.refl _ _).alloc (Nat.le_refl _) _
  have hs1 : W1.heap.size = w.heap.size + 1 := by rw [hW1]; simp
  have hk1 : W1.heap[w.heap.size]? = some (rcB rcV0) := by rw [hW1]; exact World.alloc_heap_new w _
  have h1 := h.below hb1
  have p1 := hp.below hb1
  have hM := vmade_yes b W1 h1.cells.1
  have c3 := h1.cells.2.2.2.1
  obtain ⟨⟨r, va, vb⟩, hlk, _, hx1, hx2⟩ := h1.look hid
  obtain ⟨ok, jk, oa, ja, e1, e2⟩ := hx2.form
  dsimp only at e1 e2 hx1
  subst e1 e2
  obtain ⟨W2, hW2⟩ : ∃ W2, W2 = W1.alloc (rcB (r, .slice ok r.ks.length jk, .slice oa r.ats.length ja)) := ⟨_, rfl⟩
  have hb2 : Below W1.heap.size W1 W2 := by rw [hW2]; exact (Below.refl _ _).alloc (Nat.le_refl _) _
  have hb02 : Below w.heap.size w W2 := hb1.trans (hb2.mono (by omega))
  have hs2 : W2.heap.size = w.heap.size + 2 := by rw [hW2]; simp; omega
  have hkr : W2.heap[w.heap.size]? = some (rcB rcV0) := (hb2.block _ (by omega)).trans hk1
  have hkx : W2.heap[w.heap.size + 1]? = some (rcB (r, .slice ok r.ks.length jk, .slice oa r.ats.length ja)) := by rw [hW2, ← hs1]; exact World.alloc_heap_new W1 _
  have h2 := h1.below hb2
  have p2 := p1.below hb2
  have c1 := h2.cells.2.1
  have c2 := h2.cells.2.2.1
  have hx22 : RcOn W2 (fun g => Z g ∧ g < w.heap.size) (r, .slice ok r.ks.length jk, .slice oa r.ats.length ja) := hx2.move fun g hg hF => ⟨⟨hF.1, (h.zB g hF.1).2⟩, hb2.block g hg⟩
  have HA := Lib.hid (ps_at (p2.below (Below.refl _ _).drew) id hid t hl)
  have hbl := h2.lt
  obtain ⟨⟨d0, d1, d2, d3, d4, d5, d6⟩, df⟩ := rc_blk hkr
  obtain ⟨⟨y0, y1, y2, y3, y4, y5, y6⟩, _⟩ := rc_blk hkx
  dsimp only [rcV0, rc0] at d0 d1 d2 d3 d4 d5 d6
  dsimp only at y0 y1 y2 y3 y4 y5 y6
  have f0 := df 0
  have f1 := df 1
  have f2 := df 2
  have f3 := df 3
  have f4 := df 4
  have f5 := df 5
  have f6 := df 6
  obtain ⟨R, hR⟩ : ∃ R, lookV S.L t own id = R := ⟨_, rfl⟩
  rw [hR]
  unfold lookV at hR
  have HW1 := Lib.hid hW1
  have HW2 := Lib.hid hW2
  have HB02 := Lib.hid hb02
  have HKR := Lib.hid hkr
  have HX := Lib.hid hx22
  unfold rcB rcV0 rc0 at HW1
  unfold rcB at HW2
  dsimp only at HW1 HW2
  unfold rcV at hlk
  dsimp only at hlk
  obtain ⟨Q, hQ⟩ : ∃ Q, ownAt own id = Q := ⟨_, rfl⟩
  rw [hQ] at hx1 hlk hR
  clear h hp h1 p1 h2 p2 hb1 hb2 hb02 hW1 hW2 hk1 hkr hkx hx2 hx22 df hQ
  cases Q with
  | none =>
    dsimp only at hR
    rw [hR] at HA
    simp only [Option.isSome_none] at hlk
    clear hR hx1 y0 y1 y2 y3 y4 y5 y6
    go_enter Try.func58, Try.ntmps58
    go_upto_region 5 with (first
      | (go_at_call 48; rw [show (⟨#[]⟩ : ByteArray) = bs [] from rfl, ← HW1.out]; refine hM.mono ?_; rintro e w' ⟨rfl, hw'⟩; rw [hw']; clear hw'))
    rw [← HW2.out]
    have c1' : W2.drew.cell? ⟨b, 1, none⟩ = some (.pointer (some ⟨sb, 0, none⟩)) := c1
    have c2' : W2.drew.cell? ⟨b, 2, none⟩ = some (.int .u64 (t : Int)) := c2
    go_region_with
      (first
        | (go_at_call 89
           refine HA.out.mono ?_
           rintro e w3 ⟨⟨r', va', vb'⟩, rfl, q1, q2, q3⟩
           dsimp only at q1
           obtain ⟨ok2, jk2, oa2, ja2, e1, e2⟩ := q2.form
           dsimp only at e1 e2
           subst e1 e2
           have hs3 : W2.heap.size ≤ w3.heap.size := q3.size
           have m3 := (q3.block w.heap.size (by show w.heap.size < W2.heap.size; omega)).trans (show W2.drew.heap[w.heap.size]? = some (rcB rcV0) from HKR.out)
           clear d0 d1 d2 d3 d4 d5 d6 f0 f1 f2 f3 f4 f5 f6
           obtain ⟨⟨d0, d1, d2, d3, d4, d5, d6⟩, df⟩ := rc_blk m3
           have f0 := df 0
           have f1 := df 1
           have f2 := df 2
           have f3 := df 3
           have f4 := df 4
           have f5 := df 5
           have f6 := df 6
           dsimp only [rcV0, rc0] at d0 d1 d2 d3 d4 d5 d6
           have HQ1 := Lib.hid q1
           have HQ2 := Lib.hid q2
           have HQ3 := Lib.hid q3
           have HM3 := Lib.hid m3
           clear q1 q2 q3 m3 df
           unfold rcV
           dsimp only))
    all_goals
      go_wp2_with fail
      refine end_rc2 Try.results58 _ w.heap.size (x := (r', .slice ok2 r'.ks.length jk2, .slice oa2 r'.ats.length ja2)) (c := .bool R.isSome) (set7_at (x := (r', .slice ok2 r'.ks.length jk2, .slice oa2 r'.ats.length ja2)) HM3.out) ⟨_, _, _, _, _, _, rfl, rfl⟩ rfl rfl rfl ?_
      refine ⟨(r', .slice ok2 r'.ks.length jk2, .slice oa2 r'.ats.length ja2), rfl, HQ1.out, HQ2.out.move fun g _ hF => ?_, set7_below (x := (r', .slice ok2 r'.ks.length jk2, .slice oa2 r'.ats.length ja2)) ((HB02.out.drew).trans (HQ3.out.mono (by show w.heap.size ≤ W2.heap.size; omega))) (Nat.le_refl _)⟩
      have hF' : W2.heap.size ≤ g := hF
      exact ⟨.inr (by omega), set7_ne (x := (r', .slice ok2 r'.ks.length jk2, .slice oa2 r'.ats.length ja2)) (by omega)⟩
  | some q =>
    dsimp only [Option.getD] at hx1
    subst hx1
    simp only [Option.isSome_some] at hlk
    dsimp only at hR
    clear HA c1 c2
    cases hgn : r.gone with
    | true =>
      rw [hgn] at y6
      rw [if_pos hgn] at hR
      subst hR
      rw [hgn] at hlk
      have HW3 : Hid (W2 = W1.alloc (.cells #[.int .i64 r.kd, .string (bs r.nm), .string (bs r.tx), .int .i64 r.pa, .slice ok r.ks.length jk, .slice oa r.ats.length ja, .bool true] 34)) := Lib.hid (by rw [HW2.out, hgn])
      clear hgn
      go_enter Try.func58, Try.ntmps58
      go_upto_region 6 with (first
        | (go_at_call 48; rw [show (⟨#[]⟩ : ByteArray) = bs [] from rfl, ← HW1.out]; refine hM.mono ?_; rintro e w' ⟨rfl, hw'⟩; rw [hw']; clear hw'))
      rw [← HW3.out]
      go_wp2_with fail
      refine end_rc2 Try.results58 _ w.heap.size (x := rcV0) (c := .bool false) (set7_at (x := rcV0) HKR.out) ⟨_, _, _, _, _, _, rfl, rfl⟩ rfl rfl rfl ?_
      exact ⟨rcV0, rfl, rfl, RcOn.none _ _, set7_below (x := rcV0) HB02.out (Nat.le_refl _)⟩
    | false =>
      rw [hgn] at y6
      rw [if_neg (by rw [hgn]; simp)] at hR
      subst hR
      have HGN := Lib.hid hgn
      rw [hgn] at hlk
      have HW3 : Hid (W2 = W1.alloc (.cells #[.int .i64 r.kd, .string (bs r.nm), .string (bs r.tx), .int .i64 r.pa, .slice ok r.ks.length jk, .slice oa r.ats.length ja, .bool false] 34)) := Lib.hid (by rw [HW2.out, hgn])
      clear hgn
      go_enter Try.func58, Try.ntmps58
      go_upto_region 6 with (first
        | (go_at_call 48; rw [show (⟨#[]⟩ : ByteArray) = bs [] from rfl, ← HW1.out]; refine hM.mono ?_; rintro e w' ⟨rfl, hw'⟩; rw [hw']; clear hw'))
      rw [← HW3.out]
      go_wp2_with fail
      have hst := set7_at (x := (r, .slice ok r.ks.length jk, .slice oa r.ats.length ja)) HKR.out
      have hbl := set7_below (x := (r, .slice ok r.ks.length jk, .slice oa r.ats.length ja)) HB02.out (Nat.le_refl _)
      have hne := fun g (hg : g ≠ w.heap.size) => set7_ne (w := W2) (x := (r, .slice ok r.ks.length jk, .slice oa r.ats.length ja)) hg
      unfold set7 at hst hbl hne
      dsimp only at hst hbl hne
      rw [HGN.out] at hst hbl hne
      refine end_rc2 Try.results58 _ w.heap.size (x := (r, .slice ok r.ks.length jk, .slice oa r.ats.length ja)) (c := .bool true) hst ⟨_, _, _, _, _, _, rfl, rfl⟩ rfl rfl rfl ?_
      refine ⟨(r, .slice ok r.ks.length jk, .slice oa r.ats.length ja), rfl, rfl, HX.out.move fun g hg hF => ?_, hbl⟩
      exact ⟨.inl hF.1, hne g (by have := hF.2; omega)⟩
end
end Go.Proofs.Ytkackejipgabfaa.Char

/- The walks of a view's New and Put. -/
namespace Go.Proofs.Ytkackejipgabfaa.Char
open Go.RowKit Go.Lib Go.Maps

theorem layO_length {own : Own} (h : upO own) (id : Int) (r : Rc) : (layO own id r).length = if (ownAt own id).isSome = true then own.length else own.length + 1 := by
  have key : ∀ l : Own, upO l → (l.filter fun c => decide (c.1 < id)).length + (l.filter fun c => decide (id < c.1)).length + (if (ownAt l id).isSome = true then 1 else 0) = l.length := by
    intro l
    induction l with
    | nil => intro _; rfl
    | cons c l ih =>
      intro hu
      obtain ⟨h1, h2⟩ := List.pairwise_cons.1 hu
      have ih := ih h2
      rw [List.filter_cons, List.filter_cons, List.length_cons]
      rcases Int.lt_trichotomy c.1 id with hc | hc | hc
      · have : ownAt (c :: l) id = ownAt l id := by unfold ownAt; rw [List.find?_cons, beq_eq_false_iff_ne.2 (by omega)]
        rw [this, if_pos (decide_eq_true hc), if_neg (by simp; omega), List.length_cons]
        omega
      · have e1 : ownAt (c :: l) id = some c.2 := by unfold ownAt; rw [List.find?_cons, beq_iff_eq.2 hc]; rfl
        have e2 : ownAt l id = none := ownAt_none.2 fun x hx => by have := h1 x hx; omega
        rw [e2] at ih
        rw [e1, if_neg (by simp; omega), if_neg (by simp; omega)]
        simp at ih ⊢
        omega
      · have : ownAt (c :: l) id = ownAt l id := by unfold ownAt; rw [List.find?_cons, beq_eq_false_iff_ne.2 (by omega)]
        rw [this, if_neg (by simp; omega), if_pos (decide_eq_true hc), List.length_cons]
        omega
  have := key own h
  unfold layO
  rw [List.length_append, List.length_cons]
  split
  · rename_i hs; rw [if_pos hs] at this; omega
  · rename_i hs; rw [if_neg hs] at this; omega
theorem owns_size {w : World} {mb n m : Nat} {D : DataW Value} (h : w.ownsMap Try.prog 3 heldE mb n D) (hs : Maps.size D = m) : w.ownsMap Try.prog 3 heldE mb m D := by
  obtain ⟨es, clock, hb, F, q1, rfl⟩ := h
  refine ⟨es, clock, hb, F, ?_, rfl⟩
  have e1 : Maps.size (DataW.map ((es.toList.map (Go.WideElems.rg Try.prog 3 heldE)).foldr DataW.insert [])) = es.size := by simp [Maps.size, Go.length_sorted]
  omega
/-- what Put tells, and what it leaves -/
def putE (id : Int) (r : Rc) : Nat := if decide (id < 1) || !rightR r then 2 else 0
def putO (own : Own) (id : Int) (r : Rc) : Own := if decide (id < 1) || !rightR r then own else layO own id r
section
variable {Z : Nat → Prop} {B : Nat} {w : World} {b sb mb t : Nat} {D : DataW Value} {own : Own}
theorem PV.lay (h : PV Z B w b sb mb t D own) {w1 w2 : World} {id : Int} {x : RcV} (hid : 1 ≤ id ∧ (Lit.int .i64 id).wf = true) (hb : Below w.heap.size w w1) (hx : RcOn w1 (fun g => w.heap.size ≤ g) x) (hsm : RcSm x.1)
    (how : w2.ownsMap Try.prog 3 heldE mb (own.length + 1) (D.put (kI id) (.held (rcV x)))) (hturn : w1.mapTurned w2 mb) :
    PV (fun g => Z g ∨ (w.heap.size ≤ g ∧ g < w2.heap.size)) B w2 b sb mb t (D.put (kI id) (.held (rcV x))) (layO own id x.1) ∧ Only B Z w w2 := by
  have hg := hturn.grown
  have hs1 := hb.size
  have hs2 := hg.size
  have hB := (h.zB b h.zb).1
  have hbl := h.lt
  have keep : ∀ g, g < w1.heap.size → g ≠ mb → w2.heap[g]? = w1.heap[g]? := fun g h1 h2 => hg.block g h1 (fun e => h2 (by cases e; rfl))
  have keep0 : ∀ g, g < w.heap.size → g ≠ mb → w2.heap[g]? = w.heap[g]? := fun g h1 h2 => (keep g (by omega) h2).trans (hb.block g h1)
  have hml := (h.zB mb h.zm).2
  have hz : Maps.size (D.put (kI id) (.held (rcV x))) = (layO own id x.1).length := by
    rw [Maps.size_put (h.mown.tidy law_int), h.has id, layO_length h.up, h.siz]
  refine ⟨⟨(keep0 b hbl h.ne).trans h.cell, owns_size how hz, hz, fun j => ?_, fun j r hr => ?_, fun j hj => ?_, fun c hc => ?_, .inl h.zb, .inl h.zm, fun g hg' => ?_, h.up.lay _ _, fun c hc => ?_⟩, ?_⟩
  · rw [has_put h.mown.isMap, ownAt_lay h.up, h.has j]
    by_cases hj : j = id
    · rw [if_pos hj, if_pos hj]; rfl
    · rw [if_neg hj, if_neg hj]
  · rw [ownAt_lay h.up] at hr
    rw [val_put h.mown.isMap]
    by_cases hj : j = id
    · rw [if_pos hj] at hr ⊢
      cases hr
      exact ⟨x, rfl, rfl, hx.move fun g hgl hF => ⟨⟨.inr ⟨hF, by omega⟩, by omega, by omega⟩, keep g hgl (by omega)⟩⟩
    · rw [if_neg hj] at hr ⊢
      obtain ⟨y, y1, y2, y3⟩ := h.val j r hr
      exact ⟨y, y1, y2, y3.move fun g hgl hF => ⟨⟨.inl hF.1, hF.2⟩, keep0 g hgl hF.2.2⟩⟩
  · rw [ownAt_lay h.up] at hj
    rw [val_put h.mown.isMap]
    by_cases he : j = id
    · rw [if_pos he] at hj; cases hj
    · rw [if_neg he] at hj ⊢; exact h.no j hj
  · rcases layO_mem hc with rfl | ⟨hc, _⟩
    · exact hsm
    · exact h.sm c hc
  · rcases hg' with h1 | h1
    · have := h.zB g h1; omega
    · omega
  · rcases layO_mem hc with rfl | ⟨hc, _⟩
    · exact hid
    · exact h.ids c hc
  · refine ⟨(hb.mono (by omega)).grown hg (by omega) (fun k hk => by cases hk; exact (h.zB mb h.zm).1), fun g h1 h2 => keep0 g h1 (fun e => h2 (by rw [e]; exact h.zm))⟩
/-- what is behind Put -/
def PutPost (Z : Nat → Prop) (B : Nat) (w : World) (b sb mb t : Nat) (own : Own) (id : Int) (r : Rc) : Ending → World → Prop := fun e w' => e = .returned (.int .i64 (putE id r : Int)) ∧ Only B Z w w' ∧
  ∃ Z' D', PV Z' B w' b sb mb t D' (putO own id r) ∧ (∀ g, Z g → Z' g) ∧ ∀ g, Z' g → Z g ∨ w.heap.size ≤ g
set_option maxRecDepth 100000 in
set_option maxHeartbeats 8000000 in
theorem put_any (h : PV Z B w b sb mb t D own) (hl : own.length ≤ 10000000) (id : Int) (hid : (Lit.int .i64 id).wf = true) (x : RcV) {F : Nat → Prop} (hx : RcOn w F x) (hsm : RcSm x.1) :
    Calls Try.prog 23 #[.pointer (some ⟨b, 0, none⟩), .int .i64 id, rcV x] w (PutPost Z B w b sb mb t own id x.1) := by
  obtain ⟨r, va, vb⟩ := x
  obtain ⟨ok, jk, oa, ja, e1, e2⟩ := hx.form
  dsimp only at e1 e2 hsm
  subst e1 e2
  obtain ⟨W1, hW1⟩ : ∃ W1, W1 = w.alloc (rcB (r, .slice ok r.ks.length jk, .slice oa r.ats.length ja)) := ⟨_, rfl⟩
  have hb1 : Below w.heap.size w W1 := by rw [hW1]; exact (Below.refl _ _).alloc (Nat.le_refl _) _
  have hs1 : W1.heap.size = w.heap.size + 1 := by rw [hW1]; simp
  have hk1 : W1.heap[w.heap.size]? = some (rcB (r, .slice ok r.ks.length jk, .slice oa r.ats.length ja)) := by rw [hW1]; exact World.alloc_heap_new w _
  have h1 := h.below hb1
  have hM := vmade_yes b W1 h1.cells.1
  have c3 := h1.cells.2.2.2.1
  have hx1 := hx.below hb1
  have hR := right_any r ok jk oa ja W1 F hx1.1 hx1.2 (Nat.le_trans hsm.1 (by decide)) (Nat.le_trans hsm.2 (by decide))
  have hC := copiedV_any (r, .slice ok r.ks.length jk, .slice oa r.ats.length ja) F
  obtain ⟨⟨y0, y1, y2, y3, y4, y5, y6⟩, _⟩ := rc_blk hk1
  dsimp only at y0 y1 y2 y3 y4 y5 y6
  have hB := Nat.le_trans (h.zB b h.zb).1 (Nat.le_of_lt h.lt)
  have hbl := h1.lt
  have H := Lib.hid h
  have HR := Lib.hid hR
  have HC := Lib.hid (fun w' (hb : Below W1.heap.size W1 w') => hC w' (hx1.below hb) hsm)
  have HW1 := Lib.hid hW1
  have HB1 := Lib.hid hb1
  have HK1 := Lib.hid hk1
  have bad : (decide (id < 1) || !rightR r) = true → ∀ w', Below w.heap.size w w' → PutPost Z B w b sb mb t own id r (.returned (.int .i64 2)) w' := fun hbad w' hb' => by
    refine ⟨by unfold putE; rw [if_pos hbad]; rfl, Only.of hb' hB, Z, D, ?_, fun _ h => h, fun _ h => .inl h⟩
    unfold putO
    rw [if_pos hbad]
    exact h.below hb'
  have HBAD := Lib.hid bad
  unfold rcB at HW1
  unfold rcV at HC
  dsimp only at HW1 HC
  clear h hx h1 hb1 hW1 hk1 hx1 hR hC bad
  unfold rcV
  dsimp only
  by_cases hi : id < 1
  · have k0 : decide (id < 1) = true := decide_eq_true hi
    go_enter Try.func23, Try.ntmps23
    go_wp2_with (go_at_call 48; rw [← HW1.out]; refine hM.mono ?_; rintro e w' ⟨rfl, hw'⟩; rw [hw']; clear hw')
    go_ret
    exact HBAD.out (by rw [k0]; rfl) _ HB1.out
  · have k0 : decide (id < 1) = false := decide_eq_false hi
    cases hr : rightR r with
    | false =>
      rw [hr] at HR
      have HB2 := Lib.hid (HBAD.out (by rw [hr, Bool.not_false, Bool.or_true]))
      clear hr HBAD
      go_enter Try.func23, Try.ntmps23
      go_wp2_with (first
        | (go_at_call 48; rw [← HW1.out]; refine hM.mono ?_; rintro e w' ⟨rfl, hw'⟩; rw [hw']; clear hw')
        | (go_at_call 53; refine HR.out.mono ?_; rintro e w2 ⟨rfl, q2⟩))
      go_ret
      exact HB2.out _ (HB1.out.trans (q2.mono (by omega)))
    | true =>
      rw [hr] at HR
      have HE : Hid (putE id r = 0 ∧ putO own id r = layO own id r) := Lib.hid (by unfold putE putO; rw [k0, hr]; exact ⟨rfl, rfl⟩)
      clear hr HBAD
      go_enter Try.func23, Try.ntmps23
      go_upto_region 5 with (first
        | (go_at_call 48; rw [← HW1.out]; refine hM.mono ?_; rintro e w' ⟨rfl, hw'⟩; rw [hw']; clear hw')
        | (go_at_call 53; refine HR.out.mono ?_; rintro e w2 ⟨rfl, q2⟩))
      have hb2 : Below w.heap.size w w2 := HB1.out.trans (q2.mono (by omega))
      have KS := Lib.hid (fun (W : World) (hb : Below w2.heap.size w2 W) => (⟨((q2.trans (hb.mono q2.size)).cell (p := ⟨b, 3, none⟩) hbl).trans c3, ((q2.trans (hb.mono q2.size)).cell (p := ⟨w.heap.size, 0, none⟩) (by simp; omega)).trans y0, ((q2.trans (hb.mono q2.size)).cell (p := ⟨w.heap.size, 1, none⟩) (by simp; omega)).trans y1, ((q2.trans (hb.mono q2.size)).cell (p := ⟨w.heap.size, 2, none⟩) (by simp; omega)).trans y2, ((q2.trans (hb.mono q2.size)).cell (p := ⟨w.heap.size, 3, none⟩) (by simp; omega)).trans y3, ((q2.trans (hb.mono q2.size)).cell (p := ⟨w.heap.size, 4, none⟩) (by simp; omega)).trans y4, ((q2.trans (hb.mono q2.size)).cell (p := ⟨w.heap.size, 5, none⟩) (by simp; omega)).trans y5, ((q2.trans (hb.mono q2.size)).cell (p := ⟨w.heap.size, 6, none⟩) (by simp; omega)).trans y6⟩ :
        W.cell? ⟨b, 3, none⟩ = some (.map (some mb)) ∧ W.cell? ⟨w.heap.size, 0, none⟩ = some (.int .i64 r.kd) ∧ W.cell? ⟨w.heap.size, 1, none⟩ = some (.string (bs r.nm)) ∧ W.cell? ⟨w.heap.size, 2, none⟩ = some (.string (bs r.tx)) ∧ W.cell? ⟨w.heap.size, 3, none⟩ = some (.int .i64 r.pa) ∧ W.cell? ⟨w.heap.size, 4, none⟩ = some (.slice ok r.ks.length jk) ∧ W.cell? ⟨w.heap.size, 5, none⟩ = some (.slice oa r.ats.length ja) ∧ W.cell? ⟨w.heap.size, 6, none⟩ = some (.bool r.gone)))
      have hC3 := HC.out w2.drew (q2.trans (Below.refl _ _).drew)
      have HB2 := Lib.hid hb2
      have HQ2 := Lib.hid q2
      obtain ⟨s0, s1, s2, s3, s4, s5, s6, s7⟩ := KS.out w2.drew (Below.refl _ _).drew
      clear q2 hb2 c3 y0 y1 y2 y3 y4 y5 y6
      go_region_with
        (first
          | (go_at_call 52
             refine hC3.mono ?_
             rintro e w3 ⟨⟨r', va', vb'⟩, q1, rfl, q3, q4⟩
             dsimp only at q1
             subst q1
             obtain ⟨ok2, jk2, oa2, ja2, e1, e2⟩ := q3.form
             dsimp only at e1 e2
             subst e1 e2
             have hb23 : Below w2.heap.size w2 w3 := (Below.refl _ _).drew.trans q4
             obtain ⟨z0, _⟩ := KS.out w3 hb23
             have hb03 := HB2.out.trans (hb23.mono HB2.out.size)
             obtain ⟨w5, hrun, how, hturn⟩ := ((H.out.below hb03).mown).store law_int Try.underlying61 (by unfold maxLen; omega) (key_int hid) (show heldE (rcV (r', .slice ok2 r'.ks.length jk2, .slice oa2 r'.ats.length ja2)) = some (.held (rcV (r', .slice ok2 r'.ks.length jk2, .slice oa2 r'.ats.length ja2)), []) from rfl)
             have HB03 := Lib.hid hb03
             have HQ3 := Lib.hid q3
             have HHOW := Lib.hid how
             have HTU := Lib.hid hturn
             unfold rcV at hrun
             dsimp only at hrun
             clear q3 q4 hb23 hb03 how hturn
             unfold rcV
             dsimp only))
      all_goals
        go_wp2_with fail
        go_ret
        have hs2 := HB2.out.size
        obtain ⟨l1, l2⟩ := H.out.lay ⟨by omega, hid⟩ HB03.out (HQ3.out.move fun g _ hF => ⟨(by have hF' : w2.heap.size ≤ g := hF; omega), rfl⟩) hsm HHOW.out HTU.out
        refine ⟨by rw [HE.out.1]; rfl, l2, _, _, by rw [HE.out.2]; exact l1, fun g hg => Or.inl hg, fun g hg => hg.imp _root_.id And.left⟩
end
end Go.Proofs.Ytkackejipgabfaa.Char

/- Nodes by themselves, without a program. -/
namespace Go.Proofs.Ytkackejipgabfaa.Char
open Go.Lib

/-- an attribute: its name, its text -/
abbrev At2 := List UInt8 × List UInt8
/-- a node by itself -/
inductive Tr where
  | mk (kd : Int) (nm tx : List UInt8) (ats : List At2) (ks : List Tr)
def Tr.kd : Tr → Int | .mk k _ _ _ _ => k
def Tr.nm : Tr → List UInt8 | .mk _ n _ _ _ => n
def Tr.tx : Tr → List UInt8 | .mk _ _ t _ _ => t
def Tr.ats : Tr → List At2 | .mk _ _ _ a _ => a
def Tr.ks : Tr → List Tr | .mk _ _ _ _ k => k
theorem Tr.eta (t : Tr) : Tr.mk t.kd t.nm t.tx t.ats t.ks = t := by cases t; rfl

end Go.Proofs.Ytkackejipgabfaa.Char

/- A node in memory: what its cells hold, its lists, and all that is in it, in blocks of which F holds. -/
namespace Go.Proofs.Ytkackejipgabfaa.Char
open Go.RowKit Go.Lib

/-- attributes in a slice -/
def AtsOn (w : World) (F : Nat → Prop) (v : Value) (qs : List At2) : Prop := ∃ o i j, v = .slice o i j ∧ i = qs.length ∧ (qs = [] ∨ ∃ g off, o = some ⟨g, off, none⟩ ∧ F g ∧
  ∀ k, k < qs.length → w.cell? ⟨g, off + k * 2, none⟩ = some (.string (bs (qs.getD k ([], [])).1)) ∧ w.cell? ⟨g, off + k * 2 + 1, none⟩ = some (.string (bs (qs.getD k ([], [])).2)))
/-- a node's five cells -/
def NdAt (w : World) (g off : Nat) (t : Tr) (va vk : Value) : Prop :=
  w.cell? ⟨g, off, none⟩ = some (.int .i64 t.kd) ∧ w.cell? ⟨g, off + 1, none⟩ = some (.string (bs t.nm)) ∧ w.cell? ⟨g, off + 2, none⟩ = some (.string (bs t.tx)) ∧ w.cell? ⟨g, off + 3, none⟩ = some va ∧ w.cell? ⟨g, off + 4, none⟩ = some vk
mutual
/-- a node's lists, and all that is in them -/
def NdOn (w : World) (F : Nat → Prop) : Tr → Value → Value → Prop
  | .mk _ _ _ ats ks, va, vk => AtsOn w F va ats ∧ ∃ o i j, vk = .slice o i j ∧ i = ks.length ∧ (ks = [] ∨ ∃ g off, o = some ⟨g, off, none⟩ ∧ F g ∧ KsOn w F g off ks)
/-- kids, one behind the other -/
def KsOn (w : World) (F : Nat → Prop) (g : Nat) : Nat → List Tr → Prop
  | _, [] => True
  | off, k :: ks => (∃ va vk, NdAt w g off k va vk ∧ NdOn w F k va vk) ∧ KsOn w F g (off + 5) ks
end
def ndV (t : Tr) (va vk : Value) : Value := .agg #[.int .i64 t.kd, .string (bs t.nm), .string (bs t.tx), va, vk]

theorem AtsOn.move {w w' : World} {F F' : Nat → Prop} (h : ∀ b, b < w.heap.size → F b → F' b ∧ w'.heap[b]? = w.heap[b]?) {v : Value} {qs : List At2} (ha : AtsOn w F v qs) : AtsOn w' F' v qs := by
  obtain ⟨o, i, j, e1, e2, e3⟩ := ha
  refine ⟨o, i, j, e1, e2, ?_⟩
  rcases e3 with e3 | ⟨g, off, e4, e5, e6⟩
  · exact .inl e3
  · by_cases hq : qs = []
    · exact .inl hq
    · have h0 := (e6 0 (List.length_pos_iff.2 hq)).1
      have hg : g < w.heap.size := by
        unfold World.cell? at h0
        split at h0
        · rename_i hh; exact (Array.getElem?_eq_some_iff.1 hh).1
        · cases h0
      obtain ⟨k1, k2⟩ := h g hg e5
      exact .inr ⟨g, off, e4, k1, fun k hk => ⟨(World.cell?_of_block (w := w) k2).trans (e6 k hk).1, (World.cell?_of_block (w := w) k2).trans (e6 k hk).2⟩⟩
theorem NdAt.move {w w' : World} {g off : Nat} (h : w'.heap[g]? = w.heap[g]?) {t : Tr} {va vk : Value} (hn : NdAt w g off t va vk) : NdAt w' g off t va vk := by
  obtain ⟨h0, h1, h2, h3, h4⟩ := hn
  exact ⟨(World.cell?_of_block (w := w) h).trans h0, (World.cell?_of_block (w := w) h).trans h1, (World.cell?_of_block (w := w) h).trans h2, (World.cell?_of_block (w := w) h).trans h3, (World.cell?_of_block (w := w) h).trans h4⟩
mutual
theorem NdOn.move {w w' : World} {F F' : Nat → Prop} (h : ∀ b, b < w.heap.size → F b → F' b ∧ w'.heap[b]? = w.heap[b]?) : ∀ (t : Tr) (va vk : Value), NdOn w F t va vk → NdOn w' F' t va vk
  | .mk _ _ _ ats ks, va, vk, hn => by
    rw [NdOn] at hn ⊢
    obtain ⟨h1, o, i, j, e1, e2, e3⟩ := hn
    refine ⟨h1.move h, o, i, j, e1, e2, ?_⟩
    rcases e3 with e3 | ⟨g, off, e4, e5, e6⟩
    · exact .inl e3
    · cases ks with
      | nil => exact .inl rfl
      | cons k r =>
        have hg : g < w.heap.size := by
          rw [KsOn] at e6
          obtain ⟨⟨_, _, ⟨h0, _⟩, _⟩, _⟩ := e6
          exact cell_lt h0
        obtain ⟨k1, k2⟩ := h g hg e5
        exact .inr ⟨g, off, e4, k1, KsOn.move h k2 off _ e6⟩
theorem KsOn.move {w w' : World} {F F' : Nat → Prop} (h : ∀ b, b < w.heap.size → F b → F' b ∧ w'.heap[b]? = w.heap[b]?) {g : Nat} (hg : w'.heap[g]? = w.heap[g]?) : ∀ (off : Nat) (ks : List Tr), KsOn w F g off ks → KsOn w' F' g off ks
  | _, [], _ => by rw [KsOn]; trivial
  | off, k :: r, hk => by
    rw [KsOn] at hk ⊢
    obtain ⟨⟨va, vk, h1, h2⟩, h3⟩ := hk
    exact ⟨⟨va, vk, h1.move hg, NdOn.move h k va vk h2⟩, KsOn.move h hg (off + 5) r h3⟩
end
/-- the k-th kid -/
theorem KsOn.at {w : World} {F : Nat → Prop} {g : Nat} : ∀ {off : Nat} {ks : List Tr}, KsOn w F g off ks → ∀ k (h : k < ks.length), ∃ va vk, NdAt w g (off + k * 5) ks[k] va vk ∧ NdOn w F ks[k] va vk
  | _, [], _, k, h => by cases h
  | off, x :: r, hk, 0, _ => by
    rw [KsOn] at hk
    simpa using hk.1
  | off, x :: r, hk, k + 1, h => by
    rw [KsOn] at hk
    have := hk.2.at k (by simpa using h)
    rw [show off + (k + 1) * 5 = off + 5 + k * 5 by omega]
    exact this
theorem KsOn.of {w : World} {F : Nat → Prop} {g : Nat} : ∀ {off : Nat} {ks : List Tr}, (∀ k (h : k < ks.length), ∃ va vk, NdAt w g (off + k * 5) ks[k] va vk ∧ NdOn w F ks[k] va vk) → KsOn w F g off ks
  | _, [], _ => by rw [KsOn]; trivial
  | off, x :: r, h => by
    rw [KsOn]
    refine ⟨by have h0 := h 0 (by simp); simp only [Nat.zero_mul, Nat.add_zero, List.getElem_cons_zero] at h0; exact h0, KsOn.of fun k hk => ?_⟩
    have := h (k + 1) (by simpa using hk)
    rw [show off + (k + 1) * 5 = off + 5 + k * 5 by omega] at this
    exact this
theorem NdOn.ats {w : World} {F : Nat → Prop} {t : Tr} {va vk : Value} (h : NdOn w F t va vk) : AtsOn w F va t.ats := by
  cases t
  rw [NdOn] at h
  exact h.1
theorem NdOn.kids {w : World} {F : Nat → Prop} {t : Tr} {va vk : Value} (h : NdOn w F t va vk) : ∃ o i j, vk = .slice o i j ∧ i = t.ks.length ∧ (t.ks = [] ∨ ∃ g off, o = some ⟨g, off, none⟩ ∧ F g ∧ KsOn w F g off t.ks) := by
  cases t
  rw [NdOn] at h
  exact h.2
theorem NdOn.of {w : World} {F : Nat → Prop} {t : Tr} {va vk : Value} (h1 : AtsOn w F va t.ats) (h2 : ∃ o i j, vk = .slice o i j ∧ i = t.ks.length ∧ (t.ks = [] ∨ ∃ g off, o = some ⟨g, off, none⟩ ∧ F g ∧ KsOn w F g off t.ks)) : NdOn w F t va vk := by
  cases t
  rw [NdOn]
  exact ⟨h1, h2⟩
theorem NdOn.below {w w' : World} {F : Nat → Prop} {t : Tr} {va vk : Value} (h : NdOn w F t va vk) (hb : Below w.heap.size w w') : NdOn w' F t va vk :=
  NdOn.move (fun b hb0 hF => ⟨hF, hb.block b hb0⟩) t va vk h
theorem NdOn.draws {w : World} {F : Nat → Prop} {t : Tr} {va vk : Value} (h : NdOn w F t va vk) (n : Nat) : NdOn (w.drewN n) F t va vk :=
  NdOn.move (w := w) (w' := w.drewN n) (fun _ _ hF => ⟨hF, rfl⟩) t va vk h
theorem AtsOn.form {w : World} {F : Nat → Prop} {v : Value} {qs : List At2} (h : AtsOn w F v qs) : ∃ o j, v = .slice o qs.length j := by
  obtain ⟨o, i, j, h1, rfl, _⟩ := h
  exact ⟨o, j, h1⟩
theorem NdOn.form {w : World} {F : Nat → Prop} {t : Tr} {va vk : Value} (h : NdOn w F t va vk) : ∃ oa ja ok jk, va = .slice oa t.ats.length ja ∧ vk = .slice ok t.ks.length jk := by
  obtain ⟨oa, ja, h1⟩ := h.ats.form
  obtain ⟨ok, i, jk, h2, rfl, _⟩ := h.kids
  exact ⟨oa, ja, ok, jk, h1, h2⟩
end Go.Proofs.Ytkackejipgabfaa.Char

/- The nodes of a tree, one behind the other, each with how many elements it is in, itself included; and what a loop over them keeps. -/
namespace Go.Proofs.Ytkackejipgabfaa.Char
open Go.RowKit Go.Lib

mutual
/-- a node and all that is in it -/
def seqT : Nat → Tr → List (Nat × Tr)
  | lv, .mk kd nm tx ats ks => if kd = 2 then (lv + 1, .mk kd nm tx ats ks) :: seqK (lv + 1) ks else [(lv, .mk kd nm tx ats ks)]
def seqK : Nat → List Tr → List (Nat × Tr)
  | _, [] => []
  | lv, k :: ks => seqT lv k ++ seqK lv ks
end
mutual
/-- how many nodes there are, attributes aside -/
def cntT : Tr → Nat
  | .mk _ _ _ _ ks => 1 + cntK ks
def cntK : List Tr → Nat
  | [] => 0
  | k :: ks => cntT k + cntK ks
end
theorem cnt_eq (t : Tr) : cntT t = 1 + cntK t.ks := by cases t; rw [cntT]; rfl
theorem cntT_pos (t : Tr) : 1 ≤ cntT t := by rw [cnt_eq]; omega
theorem cntK_len : ∀ ks : List Tr, ks.length ≤ cntK ks
  | [] => Nat.le_refl _
  | k :: ks => by
    have h1 := cntT_pos k
    have h2 := cntK_len ks
    rw [List.length_cons, cntK]; omega
theorem cntK_at : ∀ (ks : List Tr) (k : Nat) (h : k < ks.length), cntT ks[k] ≤ cntK ks
  | [], k, h => by cases h
  | x :: r, 0, _ => by rw [cntK]; simp
  | x :: r, k + 1, h => by
    have := cntK_at r k (by simpa using h)
    rw [cntK]
    simp only [List.getElem_cons_succ]
    omega
theorem cntK_drop : ∀ (ks : List Tr) (k : Nat), cntK (ks.drop k) ≤ cntK ks
  | [], k => by simp
  | x :: r, 0 => by simp
  | x :: r, k + 1 => by
    have := cntK_drop r k
    rw [cntK, List.drop_succ_cons]; omega
theorem seqT_elem {lv : Nat} {t : Tr} (h : t.kd = 2) : seqT lv t = (lv + 1, t) :: seqK (lv + 1) t.ks := by
  obtain ⟨kd, nm, tx, ats, ks⟩ := t
  replace h : kd = 2 := h
  rw [seqT, if_pos h]
  rfl
theorem seqT_leaf {lv : Nat} {t : Tr} (h : t.kd ≠ 2) : seqT lv t = [(lv, t)] := by
  obtain ⟨kd, nm, tx, ats, ks⟩ := t
  replace h : kd ≠ 2 := h
  rw [seqT, if_neg h]
/-- what the body of a loop over nodes keeps: all but its own variable -/
def KpN (n₀ bx : Nat) (W W' : World) : Prop := Below n₀ W W' ∧ ∀ (k : Nat) (o : Obj), W.heap[k]? = some o → o.isCells = true → k ≠ bx → W'.heap[k]? = some o
theorem kpN_t {n₀ bx : Nat} {A B C : World} (h : KpN n₀ bx A B) (k : KpN n₀ bx B C) : KpN n₀ bx A C := ⟨h.1.trans k.1, fun i o hi hc hb => k.2 i o (h.2 i o hi hc hb) hc hb⟩
theorem kpN_refl (n₀ bx : Nat) (W : World) : KpN n₀ bx W W := ⟨Below.refl _ _, fun _ _ h _ _ => h⟩
theorem kpN_b {n₀ bx m : Nat} (hm : n₀ ≤ m) (W : World) (l : Nat) (o o' : Obj) (hl : m ≤ l) (h : W.heap[l]? = some o) (hc : o.isCells = false) (_ : o.isWalk = false) : KpN n₀ bx W (W.putObj l o') := by
  refine ⟨⟨rfl, rfl, rfl, by simp, fun k hk => World.putObj_heap_other (by omega)⟩, fun k q hk hq _ => ?_⟩
  by_cases e : k = l
  · subst e
    rw [h] at hk
    cases hk
    rw [hc] at hq
    cases hq
  · exact (World.putObj_heap_other e).trans hk
theorem kpN_grow {n₀ bx : Nat} {W W' : World} (hn : n₀ ≤ W.heap.size) (h : Below W.heap.size W W') : KpN n₀ bx W W' := ⟨h.mono hn, fun k _ hk _ _ => (h.block k (Array.getElem?_eq_some_iff.1 hk).1).trans hk⟩
theorem kpN_setCell {n₀ bx : Nat} (hb : n₀ ≤ bx) (W : World) (i : Nat) (v : Value) : KpN n₀ bx W (W.setCell ⟨bx, i, none⟩ v) :=
  ⟨(Below.refl _ _).setCell (p := ⟨bx, i, none⟩) hb _, fun k _ hk _ hne => (Below.heap_setCell W ⟨bx, i, none⟩ v k hne).trans hk⟩
end Go.Proofs.Ytkackejipgabfaa.Char

/- Numbers in a slice of one's own. -/
namespace Go.Proofs.Ytkackejipgabfaa.Char
open Go.RowKit Go.Lib Go.Maps
attribute [local go_sem] Oper.semAt_some

def intC (zs : List Int) : List Value := zs.map fun z => .int .i64 z
def OwnsInt (B : Nat) (w : World) (v : Value) (zs : List Int) : Prop := w.ownsRow B 3 1 v zs.length (intC zs)
theorem OwnsInt.nil (B : Nat) (w : World) : OwnsInt B w (.slice none 0 0) [] := World.ownsRow_nil _ _ _ _
theorem OwnsInt.keep {B : Nat} {w w' : World} {v : Value} {zs : List Int} (h : OwnsInt B w v zs) (hk : ∀ g, v.ownBlock = some g → w'.heap[g]? = w.heap[g]?) : OwnsInt B w' v zs := by
  obtain ⟨h1, h2⟩ := h
  refine ⟨h1, ?_⟩
  rcases h2 with h0 | ⟨g, cap, cur, e1, e2, hg, e3⟩
  · exact .inl h0
  · exact .inr ⟨g, cap, cur, e1, e2, (hk g (by rw [e1]; rfl)).trans hg, e3⟩
theorem OwnsInt.blk {B : Nat} {w : World} {v : Value} {zs : List Int} (h : OwnsInt B w v zs) {g : Nat} (hg : v.ownBlock = some g) : B ≤ g ∧ g < w.heap.size := World.ownsRow.lt h g hg
theorem OwnsInt.below {B : Nat} {w w' : World} {v : Value} {zs : List Int} (h : OwnsInt B w v zs) (hb : Below w.heap.size w w') : OwnsInt B w' v zs := h.keep fun _ hg => hb.block _ (h.blk hg).2
theorem OwnsInt.form {B : Nat} {w : World} {v : Value} {zs : List Int} (h : OwnsInt B w v zs) : ∃ o j, v = .slice o zs.length j := by
  rcases h.2 with ⟨h0, h1⟩ | ⟨g, cap, cur, e1, _⟩
  · exact ⟨none, 0, by rw [h0, ← h1]⟩
  · exact ⟨_, _, e1⟩
/-- as numbers that can be read -/
theorem OwnsInt.on {B : Nat} {w : World} {F : Nat → Prop} {v : Value} {zs : List Int} (h : OwnsInt B w v zs) (hF : ∀ g, v.ownBlock = some g → F g) : IntsOn w F v zs := by
  have h0 := h
  rcases h.2 with ⟨h1, h2⟩ | ⟨g, cap, cur, e1, e2, hg, e3⟩
  · exact ⟨none, 0, 0, h1, h2.symm, .inl (List.eq_nil_of_length_eq_zero h2)⟩
  · refine ⟨_, _, _, e1, rfl, .inr ⟨g, 0, rfl, hF g (by rw [e1]; rfl), fun k hk => ?_⟩⟩
    have hc := World.ownsRow.cells h0 (g := g) (by rw [e1]; rfl) k (.int .i64 (zs.getD k 0)) (by simp [intC, List.getD, hk])
    rwa [Addr.add_lit] at hc
theorem info_int : (Try.prog.info? 3).map (fun i => (i.zero, i.size, i.bytes)) = some (some (.int .i64 0), 1, 8) := by kernel_rfl
theorem wpList_pushInt {ops : Array Oper} {rest : List Oper} {o : Oper} {a : Act} {Q : Exit → Act → World → Prop} {B : Nat} {W : World} {v : Value} {zs : List Int}
    (hgd : o.guard = none) (s x : Operand) (ho : o.op = .call { callee := .builtin .append, args := #[s, x], argTypes := #[27, 27] })
    (z : Int) (hown : OwnsInt B W v zs) (hs : a.eval s = v) (hx : a.eval x = .slice (some ⟨W.heap.size, 0, none⟩) 1 1) (hB : B ≤ W.heap.size) (hlen : zs.length ≤ 100000000)
    (h : ∀ v' w1, OwnsInt B w1 v' (zs ++ [z]) → Below B W w1 → (∀ k, k < W.heap.size → some k ≠ v.ownBlock → w1.heap[k]? = W.heap[k]?) → (∀ g, v'.ownBlock = some g → v.ownBlock = some g ∨ W.heap.size ≤ g) → wpList Try.prog ops Q rest (a.put o.dst v') w1) :
    wpList Try.prog ops Q (o :: rest) a (W.alloc (.cells #[.int .i64 z] 3)) := by
  refine wpList_push info_int Try.underlying27 rfl (by decide) (by decide) hgd s x ho [.int .i64 z] rfl ?_ hown hs hx hB (by omega) fun v' w1 h1 h2 h3 h4 => ?_
  · intro u hu
    rw [List.mem_singleton] at hu
    subst hu
    rfl
  · refine h v' w1 ?_ h2 h3 h4
    unfold OwnsInt intC
    rw [List.length_append, List.map_append]
    exact h1
theorem OwnsInt.put {B : Nat} {w : World} {v : Value} {zs : List Int} (h : OwnsInt B w v zs) {l : Nat} {o : Obj} (o' : Obj) (ho : w.heap[l]? = some o) (hc : o.isCells = false) : OwnsInt B (w.putObj l o') v zs :=
  h.keep fun g hg => World.putObj_heap_other fun e => by
    rcases h.2 with ⟨h1, _⟩ | ⟨g', cap, cur, e1, _, hg', _⟩
    · rw [h1] at hg; cases hg
    · rw [e1] at hg
      obtain rfl : g' = g := by simpa [Value.ownBlock] using hg
      rw [e, ho] at hg'
      cases hg'
      cases hc
theorem OwnsInt.weak {B B' : Nat} {w : World} {v : Value} {zs : List Int} (h : OwnsInt B w v zs) (hB : B' ≤ B) : OwnsInt B' w v zs := by
  obtain ⟨h1, h2⟩ := h
  refine ⟨h1, ?_⟩
  rcases h2 with h0 | ⟨g, cap, cur, e1, e2, e3⟩
  · exact .inl h0
  · exact .inr ⟨g, cap, cur, e1, Nat.le_trans hB e2, e3⟩
theorem wpListIn_pushInt {F : Fence} {nF : Nat} {ops : Array Oper} {rest : List Oper} {o : Oper} {a : Act} {Q : Exit → Act → World → Prop} (B : Nat) {W : World} {v : Value} {zs : List Int}
    (hgd : o.guard = none) (s x : Operand) (ho : o.op = .call { callee := .builtin .append, args := #[s, x], argTypes := #[27, 27] })
    (z : Int) (hown : OwnsInt B W v zs) (hs : a.eval s = v) (hx : a.eval x = .slice (some ⟨W.heap.size, 0, none⟩) 1 1) (hB : B ≤ W.heap.size) (hlen : zs.length ≤ 100000000)
    (h : ∀ v' w1, OwnsInt B w1 v' (zs ++ [z]) → Below B W w1 → (∀ k, k < W.heap.size → some k ≠ v.ownBlock → w1.heap[k]? = W.heap[k]?) → (∀ g, v'.ownBlock = some g → v.ownBlock = some g ∨ W.heap.size ≤ g) → W.heap.size ≤ w1.heap.size → wpListIn F nF Try.prog ops Q rest (a.put o.dst v') w1) :
    wpListIn F nF Try.prog ops Q (o :: rest) a (W.alloc (.cells #[.int .i64 z] 3)) := by
  obtain ⟨i0, hi, hz0, hz1, hz2⟩ := info_parts info_int
  refine wpListIn_append_own_at _ hgd s x 27 ho B 3 i0 (.int .i64 0) 1 8 Try.underlying27 hi hz0 hz1 hz2 rfl (by omega) v zs.length (intC zs) hs (World.ownsRow.alloc hown _) ⟨W.heap.size, 0, none⟩ 1 1 [.int .i64 z] hx rfl (cell_one_new _ _ _) ?_ ?_ ?_ ?_ ?_
  · intro u hu
    rw [List.mem_singleton] at hu
    subst hu
    rfl
  · unfold maxLen; omega
  · omega
  · simp; omega
  · intro v' w1 hown' hgrow _ hloc
    have hsz := hgrow.size
    rw [World.size_alloc] at hsz
    refine h v' w1 ?_ (((Below.refl _ _).alloc hB _).grown hgrow (by simp; omega) (fun k hk => (hown.blk hk).1)) (fun k hk hne => ?_) (fun g hg => ?_) (by omega)
    · unfold OwnsInt intC
      rw [List.length_append, List.map_append]
      exact hown'
    · rw [hgrow.block k (by simp; omega) (fun e => hne e)]
      exact Below.heap_alloc W _ k hk
    · rcases hloc with hl | hl
      · exact .inl (by rw [← hl]; exact hg)
      · rw [hl] at hg
        simp at hg
        exact .inr (by omega)
end Go.Proofs.Ytkackejipgabfaa.Char

/- A view and its store, apart; what planting makes, without a program. -/
namespace Go.Proofs.Ytkackejipgabfaa.Char
open Go.RowKit Go.Lib

/-- the view at b, the store at sb: their blocks are apart -/
def VS (Z Z1 : Nat → Prop) (B : Nat) (w : World) (b sb t : Nat) (S : Sto) (own : Own) : Prop := ∃ mb D, PV Z B w b sb mb t D own ∧ PS Z1 B w sb S ∧ ∀ g, Z g → ¬ Z1 g
section
variable {Z Z1 : Nat → Prop} {B : Nat} {w : World} {b sb t : Nat} {S : Sto} {own : Own}
theorem VS.move (h : VS Z Z1 B w b sb t S own) {w' : World} (hz : ∀ g, Z g ∨ Z1 g → w'.heap[g]? = w.heap[g]?) (hs : w.heap.size ≤ w'.heap.size) : VS Z Z1 B w' b sb t S own := by
  obtain ⟨mb, D, h1, h2, h3⟩ := h
  exact ⟨mb, D, h1.move (fun g hg => hz g (.inl hg)) hs, h2.move (fun g hg => hz g (.inr hg)) hs, h3⟩
theorem VS.zB (h : VS Z Z1 B w b sb t S own) : ∀ g, Z g ∨ Z1 g → B ≤ g ∧ g < w.heap.size := by
  obtain ⟨mb, D, h1, h2, _⟩ := h
  exact fun g hg => hg.elim (h1.zB g) (h2.zB g)
theorem VS.below (h : VS Z Z1 B w b sb t S own) {w' : World} (hb : Below w.heap.size w w') : VS Z Z1 B w' b sb t S own := h.move (fun g hg => hb.block g (h.zB g hg).2) hb.size
theorem VS.lowB (h : VS Z Z1 B w b sb t S own) : B ≤ w.heap.size := by
  obtain ⟨mb, D, h1, h2, _⟩ := h
  have := h1.zB b h1.zb
  omega
theorem VS.made (h : VS Z Z1 B w b sb t S own) : Calls Try.prog 48 #[.pointer (some ⟨b, 0, none⟩)] w fun e w' => e = .returned (.bool true) ∧ w' = w := by
  obtain ⟨mb, D, h1, h2, _⟩ := h
  exact vmade_yes b w h1.cells.1
theorem VS.sbc (h : VS Z Z1 B w b sb t S own) : w.cell? ⟨b, 1, none⟩ = some (.pointer (some ⟨sb, 0, none⟩)) ∧ b < w.heap.size := by
  obtain ⟨mb, D, h1, h2, _⟩ := h
  exact ⟨h1.cells.2.1, h1.lt⟩
theorem VS.up (h : VS Z Z1 B w b sb t S own) : upO own := by
  obtain ⟨mb, D, h1, h2, _⟩ := h
  exact h1.up
theorem vs_fresh (h : VS Z Z1 B w b sb t S own) (hg : S.given ≤ 10000000) :
    Calls Try.prog 25 #[.pointer (some ⟨sb, 0, none⟩)] w fun e w' => e = .returned (.int .i64 ((S.given + 1 : Nat) : Int)) ∧ VS Z Z1 B w' b sb t (freshS S) own ∧ Only B Z1 w w' := by
  obtain ⟨mb, D, h1, h2, h3⟩ := h
  exact (ps_fresh h2 hg).mono fun e w' ⟨q1, q2, q3⟩ => ⟨q1, ⟨mb, D, h1.move (fun g hg => q3.2 g (h1.zB g hg).2 (h3 g hg)) q3.1.size, q2, h3⟩, q3⟩
/-- what is behind a Put of a record that may be -/
def VsPut (Z Z1 : Nat → Prop) (B : Nat) (w : World) (b sb t : Nat) (S : Sto) (own : Own) (id : Int) (r : Rc) : Ending → World → Prop := fun e w' => e = .returned (.int .i64 (putE id r : Int)) ∧ Only B Z w w' ∧
  ∃ Z', VS Z' Z1 B w' b sb t S (putO own id r) ∧ (∀ g, Z g → Z' g) ∧ ∀ g, Z' g → Z g ∨ w.heap.size ≤ g
theorem vs_put (h : VS Z Z1 B w b sb t S own) (hl : own.length ≤ 10000000) (id : Int) (hid : (Lit.int .i64 id).wf = true) (x : RcV) {F : Nat → Prop} (hx : RcOn w F x) (hsm : RcSm x.1) :
    Calls Try.prog 23 #[.pointer (some ⟨b, 0, none⟩), .int .i64 id, rcV x] w (VsPut Z Z1 B w b sb t S own id x.1) := by
  obtain ⟨mb, D, h1, h2, h3⟩ := h
  refine (put_any h1 hl id hid x hx hsm).mono fun e w' ⟨q1, q2, Z', D', q3, q4, q5⟩ => ⟨q1, q2, Z', ⟨mb, D', q3, h2.move (fun g hg => q2.2 g (h2.zB g hg).2 (fun hz => h3 g hz hg)) q2.1.size, fun g hg hz1 => ?_⟩, q4, q5⟩
  rcases q5 g hg with q | q
  · exact h3 g q hz1
  · have := (h2.zB g hz1).2; omega
end
/-- kinds of nodes that may be by themselves -/
def aloneK (k : Int) : Bool := decide (k = 2) || decide (k = 4) || decide (k = 5) || decide (k = 6)
mutual
/-- how many numbers a node takes -/
def totP : Tr → Nat
  | .mk kd _ _ ats ks => if aloneK kd = true then 1 + ats.length + totPK ks else 0
def totPK : List Tr → Nat
  | [] => 0
  | k :: ks => totP k + totPK ks
end
def atR3 (id : Int) (a : At2) : Rc := ⟨3, a.1, a.2, id, [], [], false⟩
/-- a node's attributes, put: their numbers begin behind g -/
def plantA (id : Int) : List At2 → Nat → Own → Own
  | [], _, own => own
  | a :: r, g, own => plantA id r (g + 1) (layO own ((g + 1 : Nat) : Int) (atR3 id a))
def atIds (g n : Nat) : List Int := (List.range' (g + 1) n).map fun i : Nat => (i : Int)
mutual
/-- a node, put: its number (0: none), the greatest number given, the changes -/
def plantT : Tr → Int → Nat → Own → Int × Nat × Own
  | .mk kd nm tx ats ks, par, g, own =>
    if aloneK kd = true then
      let id : Int := ((g + 1 : Nat) : Int)
      let k := plantK ks id (g + 1 + ats.length) (plantA id ats (g + 1) own)
      (id, k.2.1, layO k.2.2 id ⟨kd, nm, tx, max par 0, k.1, atIds (g + 1) ats.length, false⟩)
    else (0, g, own)
def plantK : List Tr → Int → Nat → Own → List Int × Nat × Own
  | [], _, g, own => ([], g, own)
  | k :: ks, par, g, own =>
    let a := plantT k par g own
    let b := plantK ks par a.2.1 a.2.2
    ((if a.1 = 0 then [] else [a.1]) ++ b.1, b.2.1, b.2.2)
end
theorem plantT_no {t : Tr} (h : aloneK t.kd = false) (par : Int) (g : Nat) (own : Own) : plantT t par g own = (0, g, own) := by
  obtain ⟨kd, nm, tx, ats, ks⟩ := t
  replace h : aloneK kd = false := h
  rw [plantT, if_neg (by rw [h]; simp)]
theorem totP_yes {t : Tr} (h : aloneK t.kd = true) : totP t = 1 + t.ats.length + totPK t.ks := by
  obtain ⟨kd, nm, tx, ats, ks⟩ := t
  replace h : aloneK kd = true := h
  rw [totP, if_pos h]
  rfl
theorem plantT_yes {t : Tr} (h : aloneK t.kd = true) (par : Int) (g : Nat) (own : Own) : plantT t par g own = (((g + 1 : Nat) : Int), (plantK t.ks ((g + 1 : Nat) : Int) (g + 1 + t.ats.length) (plantA ((g + 1 : Nat) : Int) t.ats (g + 1) own)).2.1,
    layO (plantK t.ks ((g + 1 : Nat) : Int) (g + 1 + t.ats.length) (plantA ((g + 1 : Nat) : Int) t.ats (g + 1) own)).2.2 ((g + 1 : Nat) : Int) ⟨t.kd, t.nm, t.tx, max par 0, (plantK t.ks ((g + 1 : Nat) : Int) (g + 1 + t.ats.length) (plantA ((g + 1 : Nat) : Int) t.ats (g + 1) own)).1, atIds (g + 1) t.ats.length, false⟩) := by
  obtain ⟨kd, nm, tx, ats, ks⟩ := t
  replace h : aloneK kd = true := h
  rw [plantT, if_pos h]
  rfl
theorem plantK_cons (k : Tr) (ks : List Tr) (par : Int) (g : Nat) (own : Own) : plantK (k :: ks) par g own = ((if (plantT k par g own).1 = 0 then [] else [(plantT k par g own).1]) ++ (plantK ks par (plantT k par g own).2.1 (plantT k par g own).2.2).1, (plantK ks par (plantT k par g own).2.1 (plantT k par g own).2.2).2.1, (plantK ks par (plantT k par g own).2.1 (plantT k par g own).2.2).2.2) := by rw [plantK]
theorem plantA_len (id : Int) : ∀ (ats : List At2) (g : Nat) (own : Own), (plantA id ats g own).length ≤ own.length + ats.length
  | [], _, _ => Nat.le_refl _
  | a :: r, g, own => by
    have h1 := plantA_len id r (g + 1) (layO own ((g + 1 : Nat) : Int) (atR3 id a))
    have h2 := layO_len own ((g + 1 : Nat) : Int) (atR3 id a)
    rw [plantA, List.length_cons]
    omega
mutual
theorem plantT_spec : ∀ (t : Tr) (par : Int) (g : Nat) (own : Own), (plantT t par g own).2.1 = g + totP t ∧ (plantT t par g own).2.2.length ≤ own.length + totP t ∧ 0 ≤ (plantT t par g own).1 ∧ (plantT t par g own).1 ≤ ((g + totP t : Nat) : Int) ∧ ((plantT t par g own).1 ≠ 0 → 1 ≤ totP t)
  | .mk kd nm tx ats ks, par, g, own => by
    cases hk : aloneK kd with
    | false => rw [plantT_no (by exact hk), totP, if_neg (by rw [hk]; simp)]; simp
    | true =>
      rw [plantT_yes (by exact hk), totP_yes (by exact hk)]
      obtain ⟨h1, h2, _⟩ := plantK_spec ks ((g + 1 : Nat) : Int) (g + 1 + ats.length) (plantA ((g + 1 : Nat) : Int) ats (g + 1) own)
      have h3 := plantA_len ((g + 1 : Nat) : Int) ats (g + 1) own
      have h4 := layO_len (plantK ks ((g + 1 : Nat) : Int) (g + 1 + ats.length) (plantA ((g + 1 : Nat) : Int) ats (g + 1) own)).2.2 ((g + 1 : Nat) : Int) ⟨kd, nm, tx, max par 0, (plantK ks ((g + 1 : Nat) : Int) (g + 1 + ats.length) (plantA ((g + 1 : Nat) : Int) ats (g + 1) own)).1, atIds (g + 1) ats.length, false⟩
      show (plantK ks ((g + 1 : Nat) : Int) (g + 1 + ats.length) (plantA ((g + 1 : Nat) : Int) ats (g + 1) own)).2.1 = g + (1 + ats.length + totPK ks) ∧ (layO (plantK ks ((g + 1 : Nat) : Int) (g + 1 + ats.length) (plantA ((g + 1 : Nat) : Int) ats (g + 1) own)).2.2 ((g + 1 : Nat) : Int) ⟨kd, nm, tx, max par 0, (plantK ks ((g + 1 : Nat) : Int) (g + 1 + ats.length) (plantA ((g + 1 : Nat) : Int) ats (g + 1) own)).1, atIds (g + 1) ats.length, false⟩).length ≤ own.length + (1 + ats.length + totPK ks) ∧ (0 : Int) ≤ ((g + 1 : Nat) : Int) ∧ ((g + 1 : Nat) : Int) ≤ ((g + (1 + ats.length + totPK ks) : Nat) : Int) ∧ (((g + 1 : Nat) : Int) ≠ 0 → 1 ≤ 1 + ats.length + totPK ks)
      refine ⟨by rw [h1]; omega, by omega, by omega, by omega, fun _ => by omega⟩
theorem plantK_spec : ∀ (ks : List Tr) (par : Int) (g : Nat) (own : Own), (plantK ks par g own).2.1 = g + totPK ks ∧ (plantK ks par g own).2.2.length ≤ own.length + totPK ks ∧ (plantK ks par g own).1.length ≤ totPK ks ∧ ∀ z, z ∈ (plantK ks par g own).1 → 1 ≤ z ∧ z ≤ ((g + totPK ks : Nat) : Int)
  | [], par, g, own => by rw [plantK, totPK]; exact ⟨rfl, Nat.le_refl _, Nat.le_refl _, fun z hz => by cases hz⟩
  | k :: ks, par, g, own => by
    obtain ⟨h1, h2, h3, h4, h5⟩ := plantT_spec k par g own
    obtain ⟨i1, i2, i3, i4⟩ := plantK_spec ks par (plantT k par g own).2.1 (plantT k par g own).2.2
    rw [plantK_cons, totPK]
    dsimp only
    refine ⟨by rw [i1, h1]; omega, by omega, ?_, fun z hz => ?_⟩
    · rw [List.length_append]
      split
      · simp; omega
      · rename_i hne
        have : 1 ≤ totP k := h5 hne
        simp
        omega
    · rcases List.mem_append.1 hz with hz | hz
      · split at hz
        · cases hz
        · rw [List.mem_singleton] at hz; subst hz; omega
      · have := i4 z hz; rw [h1] at this; omega
end
theorem atIds_mem {g n : Nat} {z : Int} (h : z ∈ atIds g n) : 1 ≤ z ∧ z ≤ ((g + n : Nat) : Int) := by
  unfold atIds at h
  obtain ⟨i, hi, rfl⟩ := List.mem_map.1 h
  rw [List.mem_range'_1] at hi
  omega
end Go.Proofs.Ytkackejipgabfaa.Char
