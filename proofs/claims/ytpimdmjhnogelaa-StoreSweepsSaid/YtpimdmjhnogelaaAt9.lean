/- The walks of the program's Fresh, Last and At. -/
import Derived.Test.YtpimdmjhnogelaaPStM
import Derived.Test.YtpimdmjhnogelaaCopied9
import Derived.Test.YtpimdmjhnogelaaRefAt
namespace Go.Proofs.Ytpimdmjhnogelaa.Char
open Go.RowKit Go.Lib

theorem PSt.turn_b {Z : Nat → Prop} {B : Nat} {w : World} {b mb n : Nat} {D : DataW Value} {V : Int → Value} {X : Int → List VeV} {gv lt : Nat} (h : PSt Z B w b mb n D V X gv lt) {w' : World} {gv' lt' : Nat}
    (hc : w'.heap[b]? = some (.cells #[.pointer (some ⟨b, 0, none⟩), .int .i64 (gv' : Int), .int .u64 (lt' : Int), .map (some mb)] 90 (0, 0))) (ho : ∀ k, k ≠ b → w'.heap[k]? = w.heap[k]?) (hs : w.heap.size ≤ w'.heap.size) (hg : gv ≤ gv') : PSt Z B w' b mb n D V X gv' lt' where
  cell := hc
  own := by
    obtain ⟨es, clock, hb, F, q1, q2⟩ := h.own
    exact ⟨es, clock, (ho mb (Ne.symm h.b_ne_m)).trans hb, F, q1, q2⟩
  has := h.has
  val := h.val
  row := fun id => (h.row id).keep fun g hg => ho g fun e => h.ne_b id (e ▸ hg)
  rcs := fun id x hx => (h.rcs id x hx).move fun g _ hF => ⟨hF, ho g fun e => hF.2 (.inl e)⟩
  sm := h.sm
  ap := h.ap
  zo := h.zo
  zB := fun g hg => ⟨(h.zB g hg).1, Nat.lt_of_lt_of_le (h.zB g hg).2 hs⟩
  ids := fun id hid => ⟨(h.ids id hid).1, by have := (h.ids id hid).2; omega⟩
  ups := h.ups
section
variable {Z : Nat → Prop} {B : Nat} {w : World} {b mb n : Nat} {D : DataW Value} {V : Int → Value} {X : Int → List VeV} {gv lt : Nat}
set_option maxRecDepth 100000 in
set_option maxHeartbeats 4000000 in
theorem fresh_any (h : PSt Z B w b mb n D V X gv lt) (hg : gv ≤ 100000) :
    Calls Try.prog 31 #[.pointer (some ⟨b, 0, none⟩)] w fun e w' => e = .returned (.int .i64 ((gv + 1 : Nat) : Int)) ∧ PSt Z B w' b mb n D V X (gv + 1) lt ∧ Only B Z w w' := by
  have hM := made_yes b w h.cells.1
  have c1 := h.cells.2.1
  have f1 := h.cells.2.2.2.2 1
  have H := Lib.hid h
  clear h
  go_enter Try.func31, Try.ntmps31
  go_wp2_with (go_at_call 47; refine hM.mono ?_; rintro e w' ⟨rfl, hw'⟩; rw [hw']; clear hw')
  go_ret
  have hz := H.out.zo b (.inl rfl)
  have hc := heap_set_at (i := 1) (u := .int .i64 ((gv + 1 : Nat) : Int)) H.out.cell
  refine ⟨by rw [Int.natCast_add]; rfl, ?_, ?_, ?_⟩
  · refine H.out.turn_b (w' := w.setCell ⟨b, 1, none⟩ (.int .i64 ((gv : Int) + 1))) ?_ (fun k hk => heap_set_ne hk) (by rw [World.size_setCell]; exact Nat.le_refl _) (by omega)
    rw [Int.natCast_add] at hc
    exact hc.trans (by simp)
  · exact (Below.refl _ _).setCell (p := ⟨b, 1, none⟩) (H.out.zB b hz).1 _
  · intro k _ hk
    exact heap_set_ne fun e => hk (e ▸ hz)
/-- what a node was, by its versions -/
def atX (t : Nat) (xs : List VeV) : Option Rc := if upN t xs = 0 then none else if (xs.getD (upN t xs - 1) (0, rcV0)).2.1.gone = true then none else some (xs.getD (upN t xs - 1) (0, rcV0)).2.1
theorem filter_up (t : Nat) : ∀ {xs : List VeV}, upX xs → xs.filter (fun x => decide (x.1 ≤ t)) = xs.take (upN t xs)
  | [], _ => rfl
  | x :: r, h => by
    obtain ⟨h1, h2⟩ := List.pairwise_cons.1 h
    have ih := filter_up t h2
    unfold upN at ih ⊢
    rw [List.filter_cons, List.takeWhile_cons]
    by_cases hx : x.1 ≤ t
    · simp [hx, ih]
    · simp only [hx, decide_false, Bool.false_eq_true, if_false, List.length_nil, List.take_zero]
      exact List.filter_eq_nil_iff.2 fun y hy => by have := h1 y hy; simp; omega
theorem atX_eq {t : Nat} {xs : List VeV} (h : upX xs) : atX t xs = atV (xs.map toVe) t := by
  unfold atV atX
  rw [List.filter_map, show ((fun x : Ve => decide (x.time ≤ t)) ∘ toVe) = fun x : VeV => decide (x.1 ≤ t) from rfl, filter_up t h]
  have hle := upN_le t xs
  by_cases h0 : upN t xs = 0
  · rw [if_pos h0, h0]; rfl
  · rw [if_neg h0, List.getLast?_map, List.getLast?_take, if_neg h0]
    have hk : upN t xs - 1 < xs.length := by omega
    rw [List.getD_eq_getElem?_getD, List.getElem?_eq_getElem hk]
    rfl
/-- what At hands back -/
def AtPost (w : World) (R : Option Rc) : Ending → World → Prop := fun e w' => ∃ x' : RcV, e = .returned (.tuple #[rcV x', .bool R.isSome]) ∧ x'.1 = R.getD rc0 ∧ RcOn w' (fun g => w.heap.size ≤ g) x' ∧ Below w.heap.size w w'
set_option maxRecDepth 100000 in
set_option maxHeartbeats 8000000 in
theorem at_any (h : PSt Z B w b mb n D V X gv lt) (id : Int) (hid : (Lit.int .i64 id).wf = true) (t : Nat) (hl : (X id).length ≤ 2 ^ 61) :
    Calls Try.prog 12 #[.pointer (some ⟨b, 0, none⟩), .int .i64 id, .int .u64 (t : Int)] w (AtPost w (atX t (X id))) := by
  obtain ⟨W1, hW1⟩ : ∃ W1, W1 = w.alloc (rcB rcV0) := ⟨_, rfl⟩
  have hb1 : Below w.heap.size w W1 := by rw [hW1]; exact (Below.refl _ _).alloc (Nat.le_refl _) _
  have h1 := h.below hb1
  have hM := made_yes b W1 h1.cells.1
  have c3 := h1.cells.2.2.2.1
  have hlk := h1.look hid
  obtain ⟨o, j, hV⟩ := h.form id
  have hon := h1.on id
  rw [hV] at hlk hon
  have hU := upTo_any t (X id) Z o j W1 (h.ups id) hl hon
  have hle := upN_le t (X id)
  have hsm := h.sm id
  have hk1 : W1.heap[w.heap.size]? = some (rcB rcV0) := by rw [hW1]; exact World.alloc_heap_new w _
  have hs1 : W1.heap.size = w.heap.size + 1 := by rw [hW1]; simp
  obtain ⟨R, hR⟩ : ∃ R, atX t (X id) = R := ⟨_, rfl⟩
  rw [hR]
  unfold atX at hR
  generalize upN t (X id) = k at hU hle hR
  have HW1 := Lib.hid hW1
  have HB1 := Lib.hid hb1
  have HK1 := Lib.hid hk1
  unfold rcB rcV0 rc0 at HW1
  dsimp only at HW1
  clear h h1 hb1 hW1 hk1
  by_cases h0 : k = 0
  · subst h0
    rw [if_pos rfl] at hR
    subst hR
    clear hon hsm
    go_enter Try.func12, Try.ntmps12
    go_wp2_with (first
      | (go_at_call 47; rw [show (⟨#[]⟩ : ByteArray) = bs [] from rfl, ← HW1.out]; refine hM.mono ?_; rintro e w' ⟨rfl, hw'⟩; rw [hw']; clear hw')
      | (go_at_call 49; refine hU.mono ?_; rintro e w2 ⟨rfl, hb2⟩; have m2 := (hb2.block w.heap.size (by omega)).trans HK1.out; obtain ⟨⟨d0, d1, d2, d3, d4, d5, d6⟩, df⟩ := rc_blk m2; have f0 := df 0; have f1 := df 1; have f2 := df 2; have f3 := df 3; have f4 := df 4; have f5 := df 5; have f6 := df 6; dsimp only [rcV0, rc0] at d0 d1 d2 d3 d4 d5 d6; have HB2 := Lib.hid hb2; have HM2 := Lib.hid m2; clear hb2 m2 df))
    refine end_rc2 Try.results12 _ w.heap.size (x := rcV0) (c := .bool false) (set7_at (x := rcV0) HM2.out) ⟨_, _, _, _, _, _, rfl, rfl⟩ rfl rfl rfl ?_
    refine ⟨rcV0, rfl, rfl, RcOn.none _ _, set7_below (x := rcV0) (HB1.out.trans (HB2.out.mono (by omega))) (Nat.le_refl _)⟩
  · rw [if_neg h0] at hR
    have hk1 : k - 1 < (X id).length := by omega
    rw [List.getD_eq_getElem?_getD, List.getElem?_eq_getElem hk1, Option.getD_some] at hR
    obtain ⟨g, off, rfl, _, hve, hrc⟩ := hon.reads (k - 1) hk1
    have hsx := hsm _ (List.getElem_mem hk1)
    generalize (X id)[k - 1] = x at hve hrc hR hsx
    have hgl := cell_lt hve.1
    obtain ⟨tx, r, va, vb⟩ := x
    obtain ⟨ok, jk, oa, ja, e1, e2⟩ := hrc.form
    dsimp only at e1 e2 hR hsx
    subst e1 e2
    have HG := fun w' (hb : Below W1.heap.size W1 w') => Lib.hid (hve.move (hb.block g hgl))
    have HC := fun w' (hb : Below W1.heap.size W1 w') => Lib.hid (copied_any (r, .slice ok r.ks.length jk, .slice oa r.ats.length ja) Z w' (hrc.below hb) hsx)
    unfold rcV at HC
    dsimp only at HC
    have hki : (k : Int) - 1 = ((k - 1 : Nat) : Int) := by omega
    have hk0 : ((k : Int) == 0) = false := by simp; omega
    have hlt : ((k - 1 : Nat) : Int) < ((X id).length : Int) := by omega
    clear hve hrc hon hsm hgl
    cases hgn : r.gone with
    | true =>
      rw [hgn, if_pos rfl] at hR
      subst hR
      clear HC
      go_enter Try.func12, Try.ntmps12
      go_wp2_with (first
        | (go_at_call 47; rw [show (⟨#[]⟩ : ByteArray) = bs [] from rfl, ← HW1.out]; refine hM.mono ?_; rintro e w' ⟨rfl, hw'⟩; rw [hw']; clear hw')
        | (go_at_call 49; refine hU.mono ?_; rintro e w2 ⟨rfl, hb2⟩; have m2 := (hb2.block w.heap.size (by omega)).trans HK1.out; obtain ⟨⟨d0, d1, d2, d3, d4, d5, d6⟩, df⟩ := rc_blk m2; have f0 := df 0; have f1 := df 1; have f2 := df 2; have f3 := df 3; have f4 := df 4; have f5 := df 5; have f6 := df 6; dsimp only [rcV0, rc0] at d0 d1 d2 d3 d4 d5 d6; have hg7 := (HG _ hb2).out.cells.2.2.2.2.2.2.2; dsimp only at hg7; rw [hgn] at hg7; have HB2 := Lib.hid hb2; have HM2 := Lib.hid m2; clear hb2 m2 df))
      refine end_rc2 Try.results12 _ w.heap.size (x := rcV0) (c := .bool false) (set7_at (x := rcV0) HM2.out) ⟨_, _, _, _, _, _, rfl, rfl⟩ rfl rfl rfl ?_
      refine ⟨rcV0, rfl, rfl, RcOn.none _ _, set7_below (x := rcV0) (HB1.out.trans (HB2.out.mono (by omega))) (Nat.le_refl _)⟩
    | false =>
      rw [hgn, if_neg (by simp)] at hR
      subst hR
      rw [hgn] at HC
      have HGN := Lib.hid hgn
      clear hgn
      go_enter Try.func12, Try.ntmps12
      go_wp2_with (first
        | (go_at_call 47; rw [show (⟨#[]⟩ : ByteArray) = bs [] from rfl, ← HW1.out]; refine hM.mono ?_; rintro e w' ⟨rfl, hw'⟩; rw [hw']; clear hw')
        | (go_at_call 49; refine hU.mono ?_; rintro e w2 ⟨rfl, hb2⟩; have m2 := (hb2.block w.heap.size (by omega)).trans HK1.out; obtain ⟨⟨d0, d1, d2, d3, d4, d5, d6⟩, df⟩ := rc_blk m2; have f0 := df 0; have f1 := df 1; have f2 := df 2; have f3 := df 3; have f4 := df 4; have f5 := df 5; have f6 := df 6; dsimp only [rcV0, rc0] at d0 d1 d2 d3 d4 d5 d6; obtain ⟨g0, g1, g2, g3, g4, g5, g6, g7⟩ := (HG _ hb2).out.cells; dsimp only at g0 g1 g2 g3 g4 g5 g6 g7; rw [HGN.out] at g7; have HC2 := HC _ hb2; have HB2 := Lib.hid hb2; have HM2 := Lib.hid m2; clear hb2 m2 df)
        | (go_at_call 50
           refine HC2.out.mono ?_
           rintro e w3 ⟨⟨r', va', vb'⟩, q1, rfl, q3, q4⟩
           dsimp only at q1
           subst q1
           obtain ⟨ok2, jk2, oa2, ja2, e1, e2⟩ := q3.form
           dsimp only at e1 e2
           subst e1 e2
           have hsz := HB2.out.size
           have m3 := (q4.block w.heap.size (by omega)).trans HM2.out
           clear d0 d1 d2 d3 d4 d5 d6 f0 f1 f2 f3 f4 f5 f6
           obtain ⟨⟨d0, d1, d2, d3, d4, d5, d6⟩, df⟩ := rc_blk m3
           have f0 := df 0
           have f1 := df 1
           have f2 := df 2
           have f3 := df 3
           have f4 := df 4
           have f5 := df 5
           have f6 := df 6
           dsimp only [rcV0, rc0] at d0 d1 d2 d3 d4 d5 d6
           have HQ3 := Lib.hid q3
           have HQ4 := Lib.hid q4
           have HM3 := Lib.hid m3
           clear q3 q4 m3 df
           unfold rcV
           dsimp only))
      refine end_rc2 Try.results12 _ w.heap.size (x := (r', .slice ok2 r'.ks.length jk2, .slice oa2 r'.ats.length ja2)) (c := .bool true) (set7_at (x := (r', .slice ok2 r'.ks.length jk2, .slice oa2 r'.ats.length ja2)) HM3.out) ⟨_, _, _, _, _, _, rfl, rfl⟩ rfl rfl rfl ?_
      refine ⟨(r', .slice ok2 r'.ks.length jk2, .slice oa2 r'.ats.length ja2), rfl, rfl, HQ3.out.move fun b _ hF => ?_, set7_below (x := (r', .slice ok2 r'.ks.length jk2, .slice oa2 r'.ats.length ja2)) ((HB1.out.trans (HB2.out.mono (by omega))).trans (HQ4.out.mono (by omega))) (Nat.le_refl _)⟩
      have hF' : w2.heap.size ≤ b := hF
      exact ⟨(by omega : w.heap.size ≤ b), set7_ne (x := (r', .slice ok2 r'.ks.length jk2, .slice oa2 r'.ats.length ja2)) (by omega)⟩
end
end Go.Proofs.Ytpimdmjhnogelaa.Char
