/- The walk of the program's Versions. -/
import Derived.Test.YtpimdmjhnogelaaPStM
import Derived.Test.YtpimdmjhnogelaaBox8
import Derived.Test.YtpimdmjhnogelaaRefVers
import Derived.Deep.RegionLaw
namespace Go.Proofs.Ytpimdmjhnogelaa.Char
open Go.RowKit Go.Lib

/-- a row of versions that was made anew, their lists too -/
structure OvS (B : Nat) (w : World) (v : Value) (ys : List VeV) : Prop where
  row : OwnsVe B w v ys
  rcs : ∀ x, x ∈ ys → RcOn w (fun g => B ≤ g ∧ v.ownBlock ≠ some g) x.2
theorem OvS.nil (B : Nat) (w : World) : OvS B w (.slice none 0 0) [] := ⟨OwnsVe.nil _ _, fun _ h => by cases h⟩
theorem OvS.below {B : Nat} {w w' : World} {v : Value} {ys : List VeV} (h : OvS B w v ys) (hb : Below w.heap.size w w') : OvS B w' v ys :=
  ⟨h.row.keep fun g hg => hb.block g (h.row.blk hg).2, fun x hx => (h.rcs x hx).below hb⟩
theorem OvS.on {B : Nat} {w : World} {v : Value} {ys : List VeV} (h : OvS B w v ys) : VsOn w (fun g => B ≤ g) v ys :=
  h.row.on (fun _ hg => (h.row.blk hg).1) fun x hx => (h.rcs x hx).move fun _ _ hF => ⟨hF.1, rfl⟩
/-- one more behind it -/
theorem OvS.push {B : Nat} {w w1 : World} {v v1 : Value} {ys : List VeV} {y : VeV} (h : OvS B w v ys) (ho : OwnsVe B w1 v1 (ys ++ [y])) (hk : ∀ k, k < w.heap.size → some k ≠ v.ownBlock → w1.heap[k]? = w.heap[k]?) (hn : ∀ g, v1.ownBlock = some g → v.ownBlock = some g ∨ w.heap.size ≤ g)
    (hy : RcOn w (fun g => B ≤ g ∧ v.ownBlock ≠ some g) y.2) : OvS B w1 v1 (ys ++ [y]) := by
  have key : ∀ {x : RcV}, RcOn w (fun g => B ≤ g ∧ v.ownBlock ≠ some g) x → RcOn w1 (fun g => B ≤ g ∧ v1.ownBlock ≠ some g) x := fun {x} hx => hx.move fun b hb hF => ⟨⟨hF.1, fun e => by
    rcases hn b e with h1 | h1
    · exact hF.2 h1
    · omega⟩, hk b hb fun e => hF.2 e.symm⟩
  refine ⟨ho, fun x hx => ?_⟩
  rw [List.mem_append, List.mem_singleton] at hx
  rcases hx with hx | rfl
  · exact key (h.rcs x hx)
  · exact key hy
/-- what Versions hands back -/
def VersPost (w : World) (xs : List VeV) : Ending → World → Prop := fun e w' => ∃ (u : Value) (ys : List VeV), e = .returned u ∧ ys.map toVe = xs.map toVe ∧ OvS w.heap.size w' u ys ∧ Below w.heap.size w w'
set_option maxRecDepth 100000 in
set_option maxHeartbeats 8000000 in
theorem versions_any {Z : Nat → Prop} {B : Nat} {w : World} {b mb n : Nat} {D : DataW Value} {V : Int → Value} {X : Int → List VeV} {gv lt : Nat} (h : PSt Z B w b mb n D V X gv lt) (id : Int) (hid : (Lit.int .i64 id).wf = true) (hl : (X id).length ≤ 100000) :
    Calls Try.prog 15 #[.pointer (some ⟨b, 0, none⟩), .int .i64 id] w (VersPost w (X id)) := by
  have hM := made_yes b w h.cells.1
  have c3 := h.cells.2.2.2.1
  have hlk := h.look hid
  obtain ⟨o, j, hV⟩ := h.form id
  have hon := h.on id
  rw [hV] at hlk hon
  have hsm := h.sm id
  clear h
  generalize X id = xs at *
  have HON := Lib.hid hon
  have HSM := Lib.hid hsm
  clear hon hsm hV
  go_enter Try.func15, Try.ntmps15
  go_wp2_with (go_at_call 47; refine hM.mono ?_; rintro e w' ⟨rfl, hw'⟩; rw [hw']; clear hw')
  go_loopw [5, 18] (fun v i wr => ∃ (k : Nat) (o1 : Option Addr) (j1 : Nat) (ys : List VeV), i = .int .i64 (k : Int) ∧ v = .slice o1 k j1 ∧ k ≤ xs.length ∧ Hid (ys.map toVe = (xs.take k).map toVe ∧ OvS w.heap.size wr (.slice o1 k j1) ys ∧ Below w.heap.size w wr)) (fun _ i _ => xs.length - (RowKit.intOf i).toNat)
  case atStart => exact ⟨0, none, 0, [], rfl, rfl, Nat.zero_le _, Lib.hid ⟨rfl, OvS.nil _ _, Below.refl _ _⟩⟩
  case round =>
    obtain ⟨k, o1, j1, ys, rfl, rfl, hk, HK⟩ := hrel
    by_cases hlt : k < xs.length
    · obtain ⟨g, off, rfl, _, hve, hrc⟩ := HON.out.reads k hlt
      have hsx := HSM.out _ (List.getElem_mem hlt)
      obtain ⟨Y, hY⟩ : ∃ Y, xs[k] = Y := ⟨_, rfl⟩
      rw [hY] at hve hrc hsx
      have HY := Lib.hid hY
      clear hY
      have hgl := cell_lt hve.1
      obtain ⟨tx, r, va, vb⟩ := Y
      obtain ⟨ok, jk, oa, ja, e1, e2⟩ := hrc.form
      dsimp only at e1 e2 hsx
      subst e1 e2
      have hb0 := HK.out.2.2
      have hs0 := hb0.size
      have hyl : ys.length = k := by have := congrArg List.length HK.out.1; rw [List.length_map, List.length_map, List.length_take] at this; omega
      obtain ⟨g0, g1, g2, g3, g4, g5, g6, g7⟩ := (hve.move (hb0.block g hgl)).cells
      dsimp only at g0 g1 g2 g3 g4 g5 g6 g7
      obtain ⟨W1, hW1⟩ : ∃ W1, W1 = wr.alloc (vB 45 (.int .u64 (tx : Int)) (r, .slice ok r.ks.length jk, .slice oa r.ats.length ja)) := ⟨_, rfl⟩
      have hb1 : Below wr.heap.size wr W1 := by rw [hW1]; exact (Below.refl _ _).alloc (Nat.le_refl _) _
      have hs1 : W1.heap.size = wr.heap.size + 1 := by rw [hW1]; simp
      have hk1 : W1.heap[wr.heap.size]? = some (vB 45 (.int .u64 (tx : Int)) (r, .slice ok r.ks.length jk, .slice oa r.ats.length ja)) := by rw [hW1]; exact World.alloc_heap_new wr _
      obtain ⟨⟨d0, d1, d2, d3, d4, d5, d6, d7⟩, df⟩ := vB_blk hk1
      dsimp only at d0 d1 d2 d3 d4 d5 d6 d7
      have HC := fun w' (hb : Below W1.heap.size W1 w') => Lib.hid (copied_any (r, .slice ok r.ks.length jk, .slice oa r.ats.length ja) Z w' (((hrc.below hb0).below hb1).below hb) hsx)
      unfold rcV at HC
      dsimp only at HC
      have HW1 := Lib.hid hW1
      have HB1 := Lib.hid hb1
      have HB0 := Lib.hid hb0
      unfold vB at HW1
      dsimp only at HW1
      clear hve hrc hgl hsx hb0 hb1 hW1 hk1 df
      go_wp2_with fail
      rw [← HW1.out]
      go_region_law (first
        | (go_simp
           go_at_call 50
           refine (HC _ (by first | exact (Below.refl _ _).drew | exact Below.refl _ _)).out.mono ?_
           rintro e w3 ⟨⟨r', va', vb'⟩, q1, rfl, q3, q4⟩
           dsimp only at q1
           subst q1
           obtain ⟨ok2, jk2, oa2, ja2, e1, e2⟩ := q3.form
           dsimp only at e1 e2
           subst e1 e2
           have t0 : w3.cell? ⟨wr.heap.size, 0, none⟩ = some (.int .u64 (tx : Int)) := (q4.cell (p := ⟨wr.heap.size, 0, none⟩) (by simp; omega)).trans d0
           have hb3 : Below wr.heap.size wr w3 := (HB1.out.drew).trans (q4.mono (by simp; omega))
           have hov := HK.out.2.1.below hb3
           have hy3 : RcOn w3 (fun g => w.heap.size ≤ g ∧ (Value.slice o1 k j1).ownBlock ≠ some g) (r', .slice ok2 r'.ks.length jk2, .slice oa2 r'.ats.length ja2) := q3.move fun b _ hF => by
             have hF' : W1.heap.size ≤ b := hF
             exact ⟨⟨(by omega : w.heap.size ≤ b), fun e => by have := (HK.out.2.1.row.blk e).2; omega⟩, rfl⟩
           have hs3 : w.heap.size ≤ w3.heap.size := Nat.le_trans hs0 hb3.size
           have HOV := Lib.hid hov
           have HY3 := Lib.hid hy3
           have HB3 := Lib.hid hb3
           clear q3 q4 hov hy3 hb3
           unfold rcV
           dsimp only)
        | (refine step_pushVe rfl (.tmp 22) (.tmp 29) rfl tx (r', .slice ok2 r'.ks.length jk2, .slice oa2 r'.ats.length ja2) ⟨_, _, _, _, _, _, rfl, rfl⟩ w3.heap.size (World.alloc_heap_new w3 _) (HOV.out.below ((Below.refl _ _).alloc (Nat.le_refl _) _)).row rfl rfl (by simp; omega) (by omega) ?_
           intro x2 cap w4 hown4 hb4 hk4 hl4
           rw [hyl] at hown4 ⊢))
      all_goals
        have hov4 := (HOV.out.below ((Below.refl _ _).alloc (Nat.le_refl _) _)).push hown4 hk4 (fun g hg => by
          obtain rfl : x2 = g := by simpa [Value.ownBlock] using hg
          exact hl4) (HY3.out.below ((Below.refl _ _).alloc (Nat.le_refl _) _))
        have hb5 : Below w.heap.size w w4 := ((HB0.out.trans (HB3.out.mono (by omega))).alloc hs3 _).trans hb4
        have HOV4 := Lib.hid hov4
        have HB5 := Lib.hid hb5
        clear hov4 hb5 hown4 hb4 hk4 hl4
        go_wp2_with fail
        go_roundw
        case rel => exact ⟨k + 1, _, _, _, by go_num, rfl, by omega, Lib.hid ⟨by rw [List.map_append, HK.out.1, List.take_succ_eq_append_getElem hlt, List.map_append, HY.out]; rfl, HOV4.out, HB5.out⟩⟩
        case measure => simp [RowKit.intOf]; omega
    · have e : k = xs.length := by omega
      subst e
      rw [List.take_length] at HK
      go_wp2_with fail
      go_ret
      exact ⟨_, ys, rfl, HK.out.1, HK.out.2.1, HK.out.2.2⟩
end Go.Proofs.Ytpimdmjhnogelaa.Char
