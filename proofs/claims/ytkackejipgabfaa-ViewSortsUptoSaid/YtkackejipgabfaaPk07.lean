/- RefLay RefRight9 RefGInst RefGAt WS -/
import Derived.Test.YtkackejipgabfaaPk06
import Derived.Test.YtkackejipgabfaaPk00
import Derived.Test.YtkackejipgabfaaPk02
import Derived.Test.YtkackejipgabfaaPk01
import Derived.StillTailTactics
import Derived.Test.YtkackejipgabfaaPk03
import Derived.Test.YtkackejipgabfaaPk05
/- The walk of the document's own Lay. -/
namespace Go.Proofs.Ytkackejipgabfaa.Char
open Go.RowKit Go.Lib

theorem OwnsCh.weak {B B' : Nat} {w : World} {v : Value} {xs : List ChV} (h : OwnsCh B w v xs) (hB : B' ≤ B) : OwnsCh B' w v xs := by
  obtain ⟨h1, h2⟩ := h
  refine ⟨h1, ?_⟩
  rcases h2 with h0 | ⟨g, cap, cur, e1, e2, e3⟩
  · exact .inl h0
  · exact .inr ⟨g, cap, cur, e1, Nat.le_trans hB e2, e3⟩
theorem RW.fin {F : Nat → Prop} {B : Nat} {W1 wr : World} {b d t : Nat} {v u : Value} {cs zs : List ChV} {c0 : ChV} (h : RW F B W1 b d t v cs) (hx : RcOn W1 F c0.2) (hb : Below W1.heap.size W1 wr) (ho : OwnsCh W1.heap.size wr u zs) (hm : ∀ x, x ∈ zs → x = c0 ∨ x ∈ cs) :
    RW F B (wr.setCell ⟨b, 2, none⟩ u) b d t u zs ∧ (∀ g, u.ownBlock = some g → W1.heap.size ≤ g) ∧ Only B (fun k => k = b) W1 (wr.setCell ⟨b, 2, none⟩ u) := by
  have hbl := h.ltb
  have hB := Nat.le_trans h.low (Nat.le_of_lt hbl)
  have hne : ∀ k, k ≠ b → (wr.setCell ⟨b, 2, none⟩ u).heap[k]? = wr.heap[k]? := fun k hk => heap_set_ne (a := ⟨b, 2, none⟩) hk
  have hu : ∀ g, u.ownBlock = some g → W1.heap.size ≤ g := fun g hg => (ho.blk hg).1
  have hF : ∀ g, F g → (wr.setCell ⟨b, 2, none⟩ u).heap[g]? = W1.heap[g]? := fun g hg => (hne g (h.sep g hg).1).trans (hb.block g (h.fb g hg))
  refine ⟨⟨?_, (ho.keep fun g hg => hne g (by have := hu g hg; omega)).weak hB, fun x hxz => ?_, h.low, fun g hg => ⟨(h.sep g hg).1, fun e => by have := hu g e; have := h.fb g hg; omega⟩, fun g hg => by rw [World.size_setCell]; exact Nat.lt_of_lt_of_le (h.fb g hg) hb.size⟩, hu, (hb.mono hB).setCell (p := ⟨b, 2, none⟩) h.low _, fun k hk hn => (hne k hn).trans (hb.block k hk)⟩
  · have := heap_set_at (i := 2) (u := u) ((hb.block b hbl).trans h.cell)
    exact this.trans (by simp)
  · rcases hm x hxz with rfl | hx'
    · exact hx.move fun g _ hg => ⟨hg, hF g hg⟩
    · exact (h.on x hx').move fun g _ hg => ⟨hg, hF g hg⟩
set_option maxRecDepth 100000 in
set_option maxHeartbeats 8000000 in
theorem layW_any {F : Nat → Prop} {B : Nat} {w : World} {b d t : Nat} {v : Value} {cs : List ChV} (h : RW F B w b d t v cs) (hl : cs.length ≤ 10000000) (id : Int) (x : RcV) (hx : RcOn w F x) :
    Calls Try.prog 76 #[.pointer (some ⟨b, 0, none⟩), .int .i64 id, rcV x] w fun e w' => (∃ u, e = .returned u) ∧ ∃ v', RW F B w' b d t v' (layE (id, x) cs) ∧ (∀ g, v'.ownBlock = some g → w.heap.size ≤ g) ∧ Only B (fun k => k = b) w w' := by
  obtain ⟨r, va, vb⟩ := x
  obtain ⟨ok, jk, oa, ja, e1, e2⟩ := hx.form
  dsimp only at e1 e2
  subst e1 e2
  obtain ⟨W1, hW1⟩ : ∃ W1, W1 = w.alloc (rcB (r, .slice ok r.ks.length jk, .slice oa r.ats.length ja)) := ⟨_, rfl⟩
  have hb1 : Below w.heap.size w W1 := by rw [hW1]; exact (Below.refl _ _).alloc (Nat.le_refl _) _
  have hs1 : W1.heap.size = w.heap.size + 1 := by rw [hW1]; simp
  have hk1 : W1.heap[w.heap.size]? = some (rcB (r, .slice ok r.ks.length jk, .slice oa r.ats.length ja)) := by rw [hW1]; exact World.alloc_heap_new w _
  obtain ⟨o, j, hv⟩ := h.row.form
  have h1 := h.below hb1
  have hbl := h.ltb
  have hB := Nat.le_trans h.low (Nat.le_of_lt hbl)
  obtain ⟨⟨y0, y1, y2, y3, y4, y5, y6⟩, _⟩ := rc_blk hk1
  dsimp only at y0 y1 y2 y3 y4 y5 y6
  obtain ⟨c0, hc0⟩ : ∃ c0 : ChV, c0 = (id, r, .slice ok r.ks.length jk, .slice oa r.ats.length ja) := ⟨_, rfl⟩
  have H := Lib.hid h1
  have HW1 := Lib.hid hW1
  have HB1 := Lib.hid hb1
  have HX := Lib.hid (hx.below hb1)
  have HV := Lib.hid hv
  have HC0 := Lib.hid hc0
  have KR := Lib.hid (fun (W : World) (hb : Below W1.heap.size W1 W) => (⟨(hb.cell (p := ⟨w.heap.size, 0, none⟩) (by simp; omega)).trans y0, (hb.cell (p := ⟨w.heap.size, 1, none⟩) (by simp; omega)).trans y1, (hb.cell (p := ⟨w.heap.size, 2, none⟩) (by simp; omega)).trans y2, (hb.cell (p := ⟨w.heap.size, 3, none⟩) (by simp; omega)).trans y3, (hb.cell (p := ⟨w.heap.size, 4, none⟩) (by simp; omega)).trans y4, (hb.cell (p := ⟨w.heap.size, 5, none⟩) (by simp; omega)).trans y5, (hb.cell (p := ⟨w.heap.size, 6, none⟩) (by simp; omega)).trans y6⟩ :
    W.cell? ⟨w.heap.size, 0, none⟩ = some (.int .i64 r.kd) ∧ W.cell? ⟨w.heap.size, 1, none⟩ = some (.string (bs r.nm)) ∧ W.cell? ⟨w.heap.size, 2, none⟩ = some (.string (bs r.tx)) ∧ W.cell? ⟨w.heap.size, 3, none⟩ = some (.int .i64 r.pa) ∧ W.cell? ⟨w.heap.size, 4, none⟩ = some (.slice ok r.ks.length jk) ∧ W.cell? ⟨w.heap.size, 5, none⟩ = some (.slice oa r.ats.length ja) ∧ W.cell? ⟨w.heap.size, 6, none⟩ = some (.bool r.gone)))
  rw [← hc0]
  clear h h1 hb1 hW1 hk1 hx hc0 y0 y1 y2 y3 y4 y5 y6
  subst hv
  unfold rcB at HW1
  unfold rcV
  dsimp only at HW1 ⊢
  go_enter Try.func76, Try.ntmps76
  go_wp2_with fail
  rw [← HW1.out]
  go_loopw [6, 7, 8] (fun v6 v7 v8 wr => ∃ k : Nat, ∃ ld : Bool, v8 = .int .i64 (k : Int) ∧ v7 = .bool ld ∧ k ≤ cs.length ∧ (∃ p q r, v6 = .slice p q r) ∧ Hid ((layF c0 (cs.take k)).2 = ld ∧ OwnsCh W1.heap.size wr v6 (layF c0 (cs.take k)).1 ∧ Below W1.heap.size W1 wr)) (fun _ _ v _ => cs.length - (RowKit.intOf v).toNat)
  case atStart => exact ⟨0, false, rfl, rfl, Nat.zero_le _, ⟨_, _, _, rfl⟩, Lib.hid ⟨rfl, OwnsCh.nil _ _, Below.refl _ _⟩⟩
  case round =>
    obtain ⟨k, ld, rfl, rfl, hk, ⟨p, q, s, rfl⟩, HQ⟩ := hrel
    have hR := H.out.below HQ.out.2.2
    obtain ⟨_, _, c2, cf⟩ := hR.cells
    have f2 := cf 2
    obtain ⟨z0, z1, z2, z3, z4, z5, z6⟩ := KR.out wr HQ.out.2.2
    have hwr := HQ.out.2.2.size
    have hB1 : B ≤ W1.heap.size := by omega
    by_cases hlt : k < cs.length
    · have hon := H.out.row.on (F := F) (G := fun g => g < W1.heap.size) (fun g hg => (H.out.row.blk hg).2) H.out.on (fun g hg => H.out.fb g hg)
      obtain ⟨g, off, rfl, hgl, hat, hro⟩ := hon.reads k hlt
      have htk : layF c0 (cs.take (k + 1)) = layS c0 (layF c0 (cs.take k)) cs[k] := by rw [List.take_succ_eq_append_getElem hlt, layF_snoc]
      have hlen := layF_len c0 (cs.take k)
      rw [List.length_take] at hlen
      have hz0 : (0 : Int) ≤ (k : Int) := by omega
      have hz1 : (k : Int) < (cs.length : Int) := by omega
      obtain ⟨Y, hY⟩ : ∃ Y, cs[k] = Y := ⟨_, rfl⟩
      rw [hY] at hat hro htk
      have HY := Lib.hid hY
      obtain ⟨yi, yr, ya, yb⟩ := Y
      obtain ⟨yok, yjk, yoa, yja, e1, e2⟩ := hro.form
      dsimp only at e1 e2
      subst e1 e2
      have KA := Lib.hid (fun (W : World) (hb : Below W1.heap.size W1 W) => (hat.move (hb.block g hgl)).cells)
      have KC := Lib.hid (fun (W : World) (hb : Below W1.heap.size W1 W) => (H.out.below hb).cells.2.2.1)
      obtain ⟨a0, a1, a2, a3, a4, a5, a6, a7⟩ := KA.out wr HQ.out.2.2
      dsimp only at a0 a1 a2 a3 a4 a5 a6 a7
      obtain ⟨ys, bl, hys⟩ : ∃ ys bl, layF c0 (cs.take k) = (ys, bl) := ⟨_, _, rfl⟩
      rw [hys] at HQ htk hlen
      dsimp only at HQ hlen
      have hld := HQ.out.1
      subst hld
      have HTK := Lib.hid htk
      clear hon hat hro htk hY hR hys cf f2
      cases bl with
      | true =>
        by_cases he : yi = id
        · have k5 : (yi == id) = true := beq_iff_eq.2 he
          have HNX : Hid (layF c0 (cs.take (k + 1)) = (ys, true)) := Lib.hid (by rw [HTK.out]; unfold layS; rw [HC0.out]; simp [he])
          clear he
          go_wp2_with fail
          exact ⟨⟨k + 1, true, by go_num, rfl, by omega, ⟨_, _, _, rfl⟩, Lib.hid (by rw [HNX.out]; exact ⟨rfl, HQ.out.2.1, HQ.out.2.2⟩)⟩, by simp [RowKit.intOf]; omega⟩
        · have k5 : (yi == id) = false := beq_eq_false_iff_ne.2 he
          have HNX : Hid (layF c0 (cs.take (k + 1)) = (ys ++ [(yi, yr, .slice yok yr.ks.length yjk, .slice yoa yr.ats.length yja)], true)) := Lib.hid (by rw [HTK.out]; unfold layS; rw [HC0.out]; simp [he])
          clear he
          go_wp2_with (first
            | (at_builtin
               refine wpList_pushCh rfl (.tmp 48) (.tmp 56) rfl yi yr yok _ yjk yoa _ yja HQ.out.2.1 rfl (by simp [Act.eval]) hwr (by omega) ?_
               intro u1 w2 q1 q2 q3 q4)
            | go_in)
          obtain ⟨o1, j1, e1⟩ := q1.form
          exact ⟨⟨k + 1, true, by go_num, rfl, by omega, ⟨_, _, _, e1⟩, Lib.hid (by rw [HNX.out]; exact ⟨rfl, q1, HQ.out.2.2.trans q2⟩)⟩, by simp [RowKit.intOf]; omega⟩
      | false =>
        by_cases hge : id ≤ yi
        · by_cases he : yi = id
          · have k5 : (yi == id) = true := beq_iff_eq.2 he
            have HNX : Hid (layF c0 (cs.take (k + 1)) = (ys ++ [c0], true)) := Lib.hid (by rw [HTK.out]; unfold layS; rw [HC0.out]; simp [he])
            clear he
            go_wp2_with (first
              | (at_builtin
                 refine wpList_pushCh rfl (.tmp 32) (.tmp 36) rfl id r ok _ jk oa _ ja HQ.out.2.1 rfl (by simp [Act.eval]) hwr (by omega) ?_
                 intro u1 w2 q1 q2 q3 q4
                 obtain ⟨o1, j1, rfl⟩ := q1.form
                 rw [List.length_append, List.length_singleton] at q1
                 have hb2 := HQ.out.2.2.trans q2
                 have c2' := KC.out w2 hb2
                 obtain ⟨a0', a1', a2', a3', a4', a5', a6', a7'⟩ := KA.out w2 hb2
                 dsimp only at a0' a1' a2' a3' a4' a5' a6' a7'
                 have Q1 := Lib.hid q1
                 have HB2 := Lib.hid hb2
                 clear q1 q2 q3 q4 hb2)
              | go_in)
            exact ⟨⟨k + 1, true, by go_num, rfl, by omega, ⟨_, _, _, rfl⟩, Lib.hid (by rw [HNX.out]; exact ⟨rfl, by rw [HC0.out]; exact Q1.out, HB2.out⟩)⟩, by simp [RowKit.intOf]; omega⟩
          · have k5 : (yi == id) = false := beq_eq_false_iff_ne.2 he
            have HNX : Hid (layF c0 (cs.take (k + 1)) = ((ys ++ [c0]) ++ [(yi, yr, .slice yok yr.ks.length yjk, .slice yoa yr.ats.length yja)], true)) := Lib.hid (by rw [HTK.out]; unfold layS; rw [HC0.out]; simp [he, hge])
            clear he
            go_wp2_with (first
              | (at_builtin
                 refine wpList_pushCh rfl (.tmp 32) (.tmp 36) rfl id r ok _ jk oa _ ja HQ.out.2.1 rfl (by simp [Act.eval]) hwr (by omega) ?_
                 intro u1 w2 q1 q2 q3 q4
                 obtain ⟨o1, j1, rfl⟩ := q1.form
                 rw [List.length_append, List.length_singleton] at q1
                 have hb2 := HQ.out.2.2.trans q2
                 have hs2 := hb2.size
                 have c2' := KC.out w2 hb2
                 obtain ⟨a0', a1', a2', a3', a4', a5', a6', a7'⟩ := KA.out w2 hb2
                 dsimp only at a0' a1' a2' a3' a4' a5' a6' a7'
                 have Q1 := Lib.hid q1
                 have HB2 := Lib.hid hb2
                 clear q1 q2 q3 q4 hb2)
              | (at_builtin
                 refine wpList_pushCh rfl (.tmp 48) (.tmp 56) rfl yi yr yok _ yjk yoa _ yja Q1.out rfl (by simp [Act.eval]) hs2 (by simp; omega) ?_
                 intro u3 w3 p1 p2 p3 p4)
              | go_in)
            obtain ⟨o3, j3, e3⟩ := p1.form
            exact ⟨⟨k + 1, true, by go_num, rfl, by omega, ⟨_, _, _, e3⟩, Lib.hid (by rw [HNX.out]; exact ⟨rfl, by rw [HC0.out]; exact p1, HB2.out.trans p2⟩)⟩, by simp [RowKit.intOf]; omega⟩
        · have he : ¬ yi = id := by omega
          have k5 : (yi == id) = false := beq_eq_false_iff_ne.2 he
          have HNX : Hid (layF c0 (cs.take (k + 1)) = (ys ++ [(yi, yr, .slice yok yr.ks.length yjk, .slice yoa yr.ats.length yja)], false)) := Lib.hid (by rw [HTK.out]; unfold layS; rw [HC0.out]; simp [he, hge])
          clear he
          go_wp2_with (first
            | (at_builtin
               refine wpList_pushCh rfl (.tmp 48) (.tmp 56) rfl yi yr yok _ yjk yoa _ yja HQ.out.2.1 rfl (by simp [Act.eval]) hwr (by omega) ?_
               intro u1 w2 q1 q2 q3 q4)
            | go_in)
          obtain ⟨o1, j1, e1⟩ := q1.form
          exact ⟨⟨k + 1, false, by go_num, rfl, by omega, ⟨_, _, _, e1⟩, Lib.hid (by rw [HNX.out]; exact ⟨rfl, q1, HQ.out.2.2.trans q2⟩)⟩, by simp [RowKit.intOf]; omega⟩
    · have e : k = cs.length := by omega
      subst e
      rw [List.take_length] at HQ
      have hlen := layF_len c0 cs
      have hld := HQ.out.1
      obtain ⟨ys, bl, hys⟩ : ∃ ys bl, layF c0 cs = (ys, bl) := ⟨_, _, rfl⟩
      rw [hys] at HQ hlen hld
      dsimp only at HQ hlen hld
      subst hld
      have HYS := Lib.hid hys
      clear hys hR cf
      have hxc : RcOn W1 F c0.2 := by rw [HC0.out]; exact HX.out
      cases bl with
      | true =>
        have hE : layE c0 cs = ys := by unfold layE; rw [HYS.out]; rfl
        obtain ⟨p1, p2, p3⟩ := H.out.fin hxc HQ.out.2.2 HQ.out.2.1 (fun y hy => layE_mem (by rw [hE]; exact hy))
        have P1 := Lib.hid p1
        have P2 := Lib.hid p2
        have P3 := Lib.hid p3
        have HE := Lib.hid hE
        clear p1 p2 p3 hE hxc
        go_wp2_with fail
        go_end0
        exact ⟨⟨_, rfl⟩, _, by rw [HE.out]; exact P1.out, fun g hg => by have := P2.out g hg; omega, (Only.of HB1.out hB).trans P3.out fun _ _ h => h⟩
      | false =>
        have hE : layE c0 cs = ys ++ [c0] := by unfold layE; rw [HYS.out]; rfl
        have HE := Lib.hid hE
        have HXC := Lib.hid hxc
        clear hE hxc
        go_wp2_with (first
          | (at_builtin
             refine wpList_pushCh rfl (.tmp 60) (.tmp 64) rfl id r ok _ jk oa _ ja HQ.out.2.1 rfl (by simp [Act.eval]) hwr (by omega) ?_
             intro u1 w2 q1 q2 q3 q4
             obtain ⟨o1, j1, rfl⟩ := q1.form
             rw [List.length_append, List.length_singleton] at q1
             have hb2 := HQ.out.2.2.trans q2
             obtain ⟨_, _, c2', cf'⟩ := (H.out.below hb2).cells
             have f2' := cf' 2
             have Q1 := Lib.hid q1
             have HB2 := Lib.hid hb2
             clear q1 q2 q3 q4 hb2 cf')
          | go_in)
        have hq1 := Q1.out
        rw [← HC0.out] at hq1
        obtain ⟨p1, p2, p3⟩ := H.out.fin HXC.out HB2.out hq1 (fun y hy => layE_mem (by rw [HE.out]; exact hy))
        go_end0
        exact ⟨⟨_, rfl⟩, _, by rw [HE.out]; exact p1, fun g hg => by have := p2 g hg; omega, (Only.of HB1.out hB).trans p3 fun _ _ h => h⟩
end Go.Proofs.Ytkackejipgabfaa.Char

/- The walk of the document's own Right (by gen_refright.py). -/
namespace Go.Proofs.Ytkackejipgabfaa.Char
open Go.RowKit Go.Lib

set_option maxRecDepth 100000 in
set_option maxHeartbeats 8000000 in
theorem refRight_any (r : Rc) (ok : Option Addr) (jk : Nat) (oa : Option Addr) (ja : Nat) (w : World) (F : Nat → Prop) (hk : IntsOn w F (.slice ok r.ks.length jk) r.ks) (ha : IntsOn w F (.slice oa r.ats.length ja) r.ats) (hz : r.ks.length ≤ 2 ^ 62) (hz2 : r.ats.length ≤ 2 ^ 62) :
    Calls Try.prog 77 #[.agg #[.int .i64 r.kd, .string (bs r.nm), .string (bs r.tx), .int .i64 r.pa, .slice ok r.ks.length jk, .slice oa r.ats.length ja, .bool r.gone]] w fun e w' => e = .returned (.bool (rightR r)) ∧ Below w.heap.size w w' := by
  obtain ⟨W1, hW1⟩ : ∃ W1, W1 = w.alloc (.cells #[.int .i64 r.kd, .string (bs r.nm), .string (bs r.tx), .int .i64 r.pa, .slice ok r.ks.length jk, .slice oa r.ats.length ja, .bool r.gone] 34) := ⟨_, rfl⟩
  have hb1 : Below w.heap.size w W1 := by rw [hW1]; exact (Below.refl _ _).alloc (Nat.le_refl _) _
  have HL := Lib.hid (low_any r.ks F ok jk W1 hz (hk.move fun b hb hF => ⟨hF, hb1.block b hb⟩))
  have HM := Lib.hid (low_any r.ats F oa ja W1 hz2 (ha.move fun b hb hF => ⟨hF, hb1.block b hb⟩))
  have hbk : W1.heap[w.heap.size]? = some (.cells #[.int .i64 r.kd, .string (bs r.nm), .string (bs r.tx), .int .i64 r.pa, .slice ok r.ks.length jk, .slice oa r.ats.length ja, .bool r.gone] 34 (0, 0)) := by rw [hW1]; exact World.alloc_heap_new w _
  have z0 : W1.cell? ⟨w.heap.size, 0, none⟩ = some (.int .i64 r.kd) := by simp [World.cell?, hbk]
  have z1 : W1.cell? ⟨w.heap.size, 1, none⟩ = some (.string (bs r.nm)) := by simp [World.cell?, hbk]
  have z2 : W1.cell? ⟨w.heap.size, 2, none⟩ = some (.string (bs r.tx)) := by simp [World.cell?, hbk]
  have z3 : W1.cell? ⟨w.heap.size, 3, none⟩ = some (.int .i64 r.pa) := by simp [World.cell?, hbk]
  have z4 : W1.cell? ⟨w.heap.size, 4, none⟩ = some (.slice ok r.ks.length jk) := by simp [World.cell?, hbk]
  have z5 : W1.cell? ⟨w.heap.size, 5, none⟩ = some (.slice oa r.ats.length ja) := by simp [World.cell?, hbk]
  have z6 : W1.cell? ⟨w.heap.size, 6, none⟩ = some (.bool r.gone) := by simp [World.cell?, hbk]
  have HB1 := Lib.hid hb1
  have HW1 := Lib.hid hW1
  clear hW1 hb1 hbk hk ha
  have hdef : rightR r = if r.gone then decide (r.kd = 0) && r.nm.isEmpty && r.tx.isEmpty && decide (r.pa = 0) && r.ks.isEmpty && r.ats.isEmpty
    else decide (1 ≤ r.kd) && decide (r.kd ≤ 6) && decide (0 ≤ r.pa) && !(lowL r.ks) && !(lowL r.ats) := rfl
  have hn1 : ((bs r.nm).toList == []) = r.nm.isEmpty := by rw [bs_tl]; cases r.nm <;> rfl
  have hx1 : ((bs r.tx).toList == []) = r.tx.isEmpty := by rw [bs_tl]; cases r.tx <;> rfl
  have hn0 : (bs r.nm).toList.isEmpty = r.nm.isEmpty := by rw [bs_tl]
  have hx0 : (bs r.tx).toList.isEmpty = r.tx.isEmpty := by rw [bs_tl]
  have hki : r.ks.isEmpty = decide (r.ks.length = 0) := by cases r.ks <;> rfl
  have hai : r.ats.isEmpty = decide (r.ats.length = 0) := by cases r.ats <;> rfl
  rw [hki, hai] at hdef
  clear hki hai
  obtain ⟨R, hR⟩ : ∃ R, rightR r = R := ⟨_, rfl⟩
  rw [hR] at hdef ⊢
  clear hR
  generalize lowL r.ks = b_lk at *
  generalize lowL r.ats = b_la at *
  generalize r.nm.isEmpty = b_n at *
  generalize r.tx.isEmpty = b_x at *
  cases hg : r.gone with
  | true =>
    rw [hg] at hdef z6 HW1
    by_cases h0 : r.kd = 0
    · rw [decide_eq_true h0] at hdef
      have k0 : (r.kd == 0) = true := by rw [h0]; rfl
      clear h0
      cases b_n with
      | true =>
        cases b_x with
        | true =>
          by_cases h3 : r.pa = 0
          · rw [decide_eq_true h3] at hdef
            have k3 : (r.pa == 0) = true := by rw [h3]; rfl
            clear h3
            by_cases h4 : r.ks.length = 0
            · rw [decide_eq_true h4] at hdef
              have k4 : ((r.ks.length : Int) == 0) = true := by rw [h4]; rfl
              clear h4
              by_cases h5 : r.ats.length = 0
              · rw [decide_eq_true h5] at hdef
                have k5 : ((r.ats.length : Int) == 0) = true := by rw [h5]; rfl
                clear h5
                have HD := Lib.hid hdef
                clear hdef
                go_enter Try.func77, Try.ntmps77
                go_wp2_with fail
                go_ret
                exact ⟨by rw [HD.out]; rfl, by rw [← HW1.out]; exact HB1.out⟩
              · rw [decide_eq_false h5] at hdef
                have k5 : ((r.ats.length : Int) == 0) = false := by rw [beq_eq_false_iff_ne]; omega
                clear h5
                have HD := Lib.hid hdef
                clear hdef
                go_enter Try.func77, Try.ntmps77
                go_wp2_with fail
                go_ret
                exact ⟨by rw [HD.out]; rfl, by rw [← HW1.out]; exact HB1.out⟩
            · rw [decide_eq_false h4] at hdef
              have k4 : ((r.ks.length : Int) == 0) = false := by rw [beq_eq_false_iff_ne]; omega
              clear h4
              have HD := Lib.hid hdef
              clear hdef
              go_enter Try.func77, Try.ntmps77
              go_wp2_with fail
              go_ret
              exact ⟨by rw [HD.out]; rfl, by rw [← HW1.out]; exact HB1.out⟩
          · rw [decide_eq_false h3] at hdef
            have k3 : (r.pa == 0) = false := by rw [beq_eq_false_iff_ne]; exact h3
            clear h3
            have HD := Lib.hid hdef
            clear hdef
            go_enter Try.func77, Try.ntmps77
            go_wp2_with fail
            go_ret
            exact ⟨by rw [HD.out]; rfl, by rw [← HW1.out]; exact HB1.out⟩
        | false =>
          have HD := Lib.hid hdef
          clear hdef
          go_enter Try.func77, Try.ntmps77
          go_wp2_with fail
          go_ret
          exact ⟨by rw [HD.out]; rfl, by rw [← HW1.out]; exact HB1.out⟩
      | false =>
        have HD := Lib.hid hdef
        clear hdef
        go_enter Try.func77, Try.ntmps77
        go_wp2_with fail
        go_ret
        exact ⟨by rw [HD.out]; rfl, by rw [← HW1.out]; exact HB1.out⟩
    · rw [decide_eq_false h0] at hdef
      have k0 : (r.kd == 0) = false := by rw [beq_eq_false_iff_ne]; exact h0
      clear h0
      have HD := Lib.hid hdef
      clear hdef
      go_enter Try.func77, Try.ntmps77
      go_wp2_with fail
      go_ret
      exact ⟨by rw [HD.out]; rfl, by rw [← HW1.out]; exact HB1.out⟩
  | false =>
    rw [hg] at hdef z6 HW1
    by_cases h0 : 1 ≤ r.kd
    · rw [decide_eq_true h0] at hdef
      by_cases h1 : r.kd ≤ 6
      · rw [decide_eq_true h1] at hdef
        by_cases h2 : 0 ≤ r.pa
        · rw [decide_eq_true h2] at hdef
          cases b_lk with
          | true =>
            have HD := Lib.hid hdef
            clear hdef
            go_enter Try.func77, Try.ntmps77
            go_wp2_with fail
            rw [← HW1.out]
            refine HL.out.mono ?_
            rintro e w1 ⟨rfl, rfl⟩
            go_wp2_with fail
            go_ret
            exact ⟨by rw [HD.out]; rfl, HB1.out⟩
          | false =>
            cases b_la with
            | true =>
              have HD := Lib.hid hdef
              clear hdef
              go_enter Try.func77, Try.ntmps77
              go_wp2_with fail
              rw [← HW1.out]
              refine HL.out.mono ?_
              rintro e w1 ⟨rfl, rfl⟩
              go_wp2_with fail
              refine HM.out.mono ?_
              rintro e w1 ⟨rfl, rfl⟩
              go_wp2_with fail
              go_ret
              exact ⟨by rw [HD.out]; rfl, HB1.out⟩
            | false =>
              have HD := Lib.hid hdef
              clear hdef
              go_enter Try.func77, Try.ntmps77
              go_wp2_with fail
              rw [← HW1.out]
              refine HL.out.mono ?_
              rintro e w1 ⟨rfl, rfl⟩
              go_wp2_with fail
              refine HM.out.mono ?_
              rintro e w1 ⟨rfl, rfl⟩
              go_wp2_with fail
              go_ret
              exact ⟨by rw [HD.out]; rfl, HB1.out⟩
        · rw [decide_eq_false h2] at hdef
          have HD := Lib.hid hdef
          clear hdef
          go_enter Try.func77, Try.ntmps77
          go_wp2_with fail
          go_ret
          exact ⟨by rw [HD.out]; rfl, by rw [← HW1.out]; exact HB1.out⟩
      · rw [decide_eq_false h1] at hdef
        have HD := Lib.hid hdef
        clear hdef
        go_enter Try.func77, Try.ntmps77
        go_wp2_with fail
        go_ret
        exact ⟨by rw [HD.out]; rfl, by rw [← HW1.out]; exact HB1.out⟩
    · rw [decide_eq_false h0] at hdef
      have HD := Lib.hid hdef
      clear hdef
      go_enter Try.func77, Try.ntmps77
      go_wp2_with fail
      go_ret
      exact ⟨by rw [HD.out]; rfl, by rw [← HW1.out]; exact HB1.out⟩
end Go.Proofs.Ytkackejipgabfaa.Char

/- The walk of the document's own Install, its records anywhere. -/
namespace Go.Proofs.Ytkackejipgabfaa.Char
open Go.RowKit Go.Lib

def toOnG (t : Nat) (c : ChV) : OnV := (c.1, t, c.2)
theorem step_pushG {F : Nat → Prop} {ops : Array Oper} {o : Oper} {a : Act} {K : Act → World → Prop} {Q : Exit → Act → World → Prop} {E : Prop} {B : Nat} {W : World} {v : Value} {xs : List OnV}
    (hgd : o.guard = none) (s x : Operand) (ho : o.op = .call { callee := .builtin .append, args := #[s, x], argTypes := #[151, 151] })
    (id : Int) (t : Nat) (r : Rc) (ok : Option Addr) (ik jk : Nat) (oa : Option Addr) (ia ja : Nat) (H : Nat) (hH : W.heap[H]? = some (.cells #[.int .i64 id, .int .u64 (t : Int), .int .i64 r.kd, .string (bs r.nm), .string (bs r.tx), .int .i64 r.pa, .slice ok ik jk, .slice oa ia ja, .bool r.gone] 150 (0, 0)))
    (hsep : ∀ g, F g → some g ≠ v.ownBlock ∧ g < W.heap.size) (hown : OwnsOn B W F v xs) (hon : RcOn W F (r, .slice ok ik jk, .slice oa ia ja)) (hs : a.eval s = v) (hx : a.eval x = .slice (some ⟨H, 0, none⟩) 1 1) (hB : B ≤ W.heap.size) (hlen : xs.length ≤ 100000000)
    (h : ∀ g cap w1, OwnsOn B w1 F (.slice (some ⟨g, 0, none⟩) (xs.length + 1) cap) (xs ++ [(id, t, r, .slice ok ik jk, .slice oa ia ja)]) → Below B W w1 → (∀ k, k < W.heap.size → some k ≠ v.ownBlock → w1.heap[k]? = W.heap[k]?) → (v.ownBlock = some g ∨ W.heap.size ≤ g) → K (a.put o.dst (.slice (some ⟨g, 0, none⟩) (xs.length + 1) cap)) w1) :
    if Region.wanted o (yielded ops a.tmps) = true then Oper.wp Try.prog o a W K Q else E := by
  refine step_push info_on Try.underlying151 rfl (by decide) (by decide) hgd s x ho (onC (id, t, r, .slice ok ik jk, .slice oa ia ja)) rfl ?_ H hH hown.1 hs hx hB (by omega) fun g cap w1 h1 h2 h3 h4 => ?_
  · intro u hu
    simp [onC, veC, rcC] at hu
    rcases hu with rfl | rfl | rfl | rfl | rfl | rfl | rfl | rfl | rfl <;> rfl
  · refine h g cap w1 ⟨?_, fun y hy => ?_⟩ h2 h3 h4
    · rw [List.length_append, onsC_snoc]
      exact h1
    · rw [List.mem_append, List.mem_singleton] at hy
      rcases hy with hy | rfl
      · exact (hown.2 y hy).move fun g _ hF => ⟨hF, h3 g (hsep g hF).2 (hsep g hF).1⟩
      · exact hon.move fun g _ hF => ⟨hF, h3 g (hsep g hF).2 (hsep g hF).1⟩
/-- a version more, laid into the store -/
theorem RefG.push {F : Nat → Prop} {B : Nat} {W : World} {b : Nat} {v : Value} {ys : List OnV} {gv la : Nat} (h : RefG F B W b v ys gv la) {w1 : World} {v2 : Value} {y : OnV} (ho : OwnsOn B w1 F v2 (ys ++ [y])) (hb : Below B W w1) (hk : ∀ k, k < W.heap.size → some k ≠ v.ownBlock → w1.heap[k]? = W.heap[k]?) (hn : ∀ g, v2.ownBlock = some g → v.ownBlock = some g ∨ W.heap.size ≤ g) :
    RefG F B (w1.setCell ⟨b, 0, none⟩ v2) b v2 (ys ++ [y]) gv la ∧ Only B (ownB b v) W (w1.setCell ⟨b, 0, none⟩ v2) := by
  have hc : w1.heap[b]? = some (.cells #[v, .int .i64 (gv : Int), .int .u64 (la : Int)] 153 (0, 0)) := (hk b h.lt (fun e => h.ne e.symm)).trans h.cell
  have hne : ∀ k, k ≠ b → (w1.setCell ⟨b, 0, none⟩ v2).heap[k]? = w1.heap[k]? := fun k hk => heap_set_ne (a := ⟨b, 0, none⟩) hk
  refine ⟨⟨heap_set_at hc, ho.move (fun g hg => hne g fun e => ?_) (fun k _ hk => ⟨hk, hne k (fun e => h.sep k hk (.inl e))⟩), h.low, fun g hg hown => ?_, fun g hg => by rw [World.size_setCell]; exact Nat.lt_of_lt_of_le (h.fb g hg) hb.size⟩, hb.setCell (p := ⟨b, 0, none⟩) h.low _, fun k hk' hno => (hne k fun e => hno (.inl e)).trans (hk k hk' fun e => hno (.inr e.symm))⟩
  · subst e
    rcases hn g hg with h1 | h1
    · exact h.ne h1
    · have := h.lt; omega
  · rcases hown with h1 | h1
    · exact h.sep g hg (.inl h1)
    · rcases hn g h1 with h2 | h2
      · exact h.sep g hg (.inr h2)
      · have := h.fb g hg; omega
theorem RefG.next {F : Nat → Prop} {B : Nat} {w wr : World} {b : Nat} {v0 v : Value} {ys : List OnV} {gv la : Nat} (h : RefG F B wr b v ys gv la) (ho : Only B (ownB b v0) w wr) (hn : ∀ g, v.ownBlock = some g → v0.ownBlock = some g ∨ w.heap.size ≤ g) {bx : Obj} {w1 : World} {g2 n m cap : Nat} {y : OnV} (hB : B ≤ wr.heap.size)
    (hown1 : OwnsOn B w1 F (.slice (some ⟨g2, 0, none⟩) m cap) (ys ++ [y])) (hm : m = n) (hb1 : Below B (wr.alloc bx).drew w1) (hk1 : ∀ k, k < (wr.alloc bx).drew.heap.size → some k ≠ v.ownBlock → w1.heap[k]? = (wr.alloc bx).drew.heap[k]?) (hl1 : v.ownBlock = some g2 ∨ (wr.alloc bx).drew.heap.size ≤ g2) :
    RefG F B (w1.setCell ⟨b, 0, none⟩ (.slice (some ⟨g2, 0, none⟩) n cap)) b (.slice (some ⟨g2, 0, none⟩) n cap) (ys ++ [y]) gv la ∧ Only B (ownB b v0) w (w1.setCell ⟨b, 0, none⟩ (.slice (some ⟨g2, 0, none⟩) n cap)) ∧ ∀ g, (Value.slice (some ⟨g2, 0, none⟩) n cap).ownBlock = some g → v0.ownBlock = some g ∨ w.heap.size ≤ g := by
  subst hm
  have hb0 : Below wr.heap.size wr (wr.alloc bx).drew := ((Below.refl _ _).alloc (Nat.le_refl _) _).drew
  have hz : (wr.alloc bx).drew.heap.size = wr.heap.size + 1 := by simp
  have hwz := ho.1.size
  obtain ⟨p1, p2⟩ := (h.below hb0).push hown1 hb1 hk1 (fun g hg => by
    obtain rfl : g2 = g := by simpa [Value.ownBlock] using hg
    exact hl1)
  refine ⟨p1, ?_, fun g hg => ?_⟩
  · refine ho.trans ((Only.of (O := ownB b v) hb0 hB).trans p2 fun i _ hi => hi) fun i hi hoi => ?_
    rcases hoi with rfl | hoi
    · exact .inl rfl
    · rcases hn i hoi with h1 | h1
      · exact .inr h1
      · omega
  · obtain rfl : g2 = g := by simpa [Value.ownBlock] using hg
    rcases hl1 with h1 | h1
    · exact hn _ h1
    · exact .inr (by omega)
theorem RefG.after {F : Nat → Prop} {B : Nat} {W w1 : World} {b : Nat} {v : Value} {ys : List OnV} {gv la : Nat} (h : RefG F B W b v ys gv la) (hk : ∀ k, k < W.heap.size → some k ≠ v.ownBlock → w1.heap[k]? = W.heap[k]?) : w1.cell? ⟨b, 0, none⟩ = some v ∧ w1.frozen? ⟨b, 0, none⟩ = false := by
  have hc := (hk b h.lt (fun e => h.ne e.symm)).trans h.cell
  exact ⟨by simp [World.cell?, hc], by simp [World.frozen?, hc]⟩
theorem RefG.stamp {F : Nat → Prop} {B : Nat} {W : World} {b : Nat} {v : Value} {ys : List OnV} {gv la : Nat} (h : RefG F B W b v ys gv la) (t : Nat) :
    RefG F B (W.setCell ⟨b, 2, none⟩ (.int .u64 (t : Int))) b v ys gv t ∧ Only B (ownB b v) W (W.setCell ⟨b, 2, none⟩ (.int .u64 (t : Int))) := by
  have hne : ∀ k, k ≠ b → (W.setCell ⟨b, 2, none⟩ (.int .u64 (t : Int))).heap[k]? = W.heap[k]? := fun k hk => heap_set_ne (a := ⟨b, 2, none⟩) hk
  exact ⟨⟨heap_set_at h.cell, h.row.move (fun g hg => hne g fun e => h.ne (by rw [← e]; exact hg)) (fun k _ hk => ⟨hk, hne k (fun e => h.sep k hk (.inl e))⟩), h.low, h.sep, fun g hg => by rw [World.size_setCell]; exact h.fb g hg⟩, (Below.refl _ _).setCell (p := ⟨b, 2, none⟩) h.low _, fun k _ hn => hne k fun e => hn (.inl e)⟩
/-- what becomes of a call of Install that tells E -/
def InstG (F : Nat → Prop) (B : Nat) (w : World) (b : Nat) (v : Value) (xs new : List OnV) (gv lt t E : Nat) (e : Ending) (w' : World) : Prop :=
  e = .returned (.int .i64 (E : Int)) ∧ (if E = 0 then ∃ v', RefG F B w' b v' (xs ++ new) gv t ∧ ∀ g, v'.ownBlock = some g → v.ownBlock = some g ∨ w.heap.size ≤ g else RefG F B w' b v xs gv lt) ∧ Only B (ownB b v) w w'
theorem InstG.bad {F : Nat → Prop} {B : Nat} {w w' : World} {b : Nat} {v : Value} {xs new : List OnV} {gv lt t E : Nat} (h : RefG F B w b v xs gv lt) (hE : E ≠ 0) (hb : Below w.heap.size w w') : InstG F B w b v xs new gv lt t E (.returned (.int .i64 (E : Int))) w' := by
  refine ⟨rfl, ?_, Only.of hb (Nat.le_trans h.low (Nat.le_of_lt h.lt))⟩
  rw [if_neg hE]
  exact h.below hb
theorem notin_takeG {cs : List ChV} {j k : Nat} {id : Int} (hk : k ≤ cs.length) (hj : j < k) (h : id ∉ (cs.take j).map (·.1)) (hne : cs[j].1 ≠ id) : id ∉ (cs.take (j + 1)).map (·.1) := by
  rw [List.take_succ_eq_append_getElem (by omega), List.map_append, List.mem_append]
  rintro (h1 | h1)
  · exact h h1
  · simp at h1; exact hne h1.symm
theorem in_takeG {cs : List ChV} {j k : Nat} (hk : k ≤ cs.length) (hj : j < k) : cs[j].1 ∈ (cs.take k).map (·.1) :=
  List.mem_map.2 ⟨cs[j], by rw [← List.getElem_take (h := by rw [List.length_take]; omega) (xs := cs) (j := k)]; exact List.getElem_mem _, rfl⟩
set_option maxRecDepth 100000 in
set_option maxHeartbeats 8000000 in
theorem refG_inst {F G : Nat → Prop} {B : Nat} {w : World} {b : Nat} {v : Value} {xs : List OnV} {gv lt : Nat} (h : RefG F B w b v xs gv lt) (t : Nat) (cs : List ChV) (o : Option Addr) (j : Nat) (hc : ChsOn w G (.slice o cs.length j) cs) (hr : ∀ x, x ∈ cs → RcOn w F x.2) (hG : ∀ g, G g → ¬ ownB b v g) (hsm : ∀ x, x ∈ cs → RcSm x.2.1) (hcl : cs.length ≤ 2 ^ 62) (hl : xs.length ≤ 10000000) (hg : gv ≤ 10000000) :
    Calls Try.prog 45 #[.pointer (some ⟨b, 0, none⟩), .int .u64 (t : Int), .slice o cs.length j] w (InstG F B w b v xs (cs.map (toOnG t)) gv lt t (instE ⟨xs.map toOn, gv, lt⟩ t (cs.map toCh))) := by
  obtain ⟨E, hE⟩ : ∃ E, instE ⟨xs.map toOn, gv, lt⟩ t (cs.map toCh) = E := ⟨_, rfl⟩
  rw [hE]
  unfold instE at hE
  dsimp only at hE
  obtain ⟨o0, j0, rfl⟩ := h.row.form
  have c2 := (h.cells).2.2.1
  have H := Lib.hid h
  by_cases ht : t ≤ lt
  · have k1 : (t : Int) ≤ (lt : Int) := by omega
    rw [if_pos ht] at hE
    subst hE
    clear h
    go_enter Try.func45, Try.ntmps45
    go_wp2_with fail
    go_ret
    exact InstG.bad H.out (by decide) (Below.refl _ _)
  · have k1 : ¬ (t : Int) ≤ (lt : Int) := by omega
    rw [if_neg ht] at hE
    have HR := Lib.hid (fun wr (hb : Below w.heap.size w wr) => h.below hb)
    have HC := Lib.hid (fun (wr : World) (hk : ∀ g, g < w.heap.size → ¬ ownB b (.slice o0 xs.length j0) g → wr.heap[g]? = w.heap[g]?) => hc.move (w' := wr) (F' := G) (fun g hg hg' => ⟨hg', hk g hg (hG g hg')⟩))
    have HRR := Lib.hid (fun (wr : World) (hk : ∀ g, g < w.heap.size → ¬ ownB b (.slice o0 xs.length j0) g → wr.heap[g]? = w.heap[g]?) x hx => (hr x hx).move (w' := wr) (F' := F) (fun g hg hF => ⟨hF, hk g hg (h.sep g hF)⟩))
    have HBs := Lib.hid (Nat.le_trans h.low (Nat.le_of_lt h.lt))
    have HSM := Lib.hid hsm
    have HE := Lib.hid hE
    have HT := Lib.hid ht
    clear h hc hr hG hsm hE ht
    go_enter Try.func45, Try.ntmps45
    go_wp2_with fail
    go_loopw [7] (fun i wr => ∃ k : Nat, i = .int .i64 (k : Int) ∧ k ≤ cs.length ∧ Hid (Below w.heap.size w wr ∧ badC gv [] (cs.map toCh) = badC gv ((cs.take k).map (·.1)) ((cs.drop k).map toCh))) (fun v _ => cs.length - (RowKit.intOf v).toNat)
    case atStart => exact ⟨0, rfl, Nat.zero_le _, Lib.hid ⟨Below.refl _ _, rfl⟩⟩
    case round =>
      obtain ⟨k, rfl, hk, HK⟩ := hrel
      obtain ⟨_, c1, c2, _⟩ := (HR.out _ HK.out.1).cells
      by_cases hlt : k < cs.length
      · obtain ⟨g, off, rfl, hg1, hat, hon⟩ := (HC.out _ (fun g hg _ => HK.out.1.block g hg)).reads k hlt
        have hst := HK.out.2.trans (badC_step hlt)
        have hsm := HSM.out _ (List.getElem_mem hlt)
        obtain ⟨Y, hY⟩ : ∃ Y, cs[k] = Y := ⟨_, rfl⟩
        rw [hY] at hat hon hst hsm
        have HY := Lib.hid hY
        clear hY
        obtain ⟨yi, r, va, vb⟩ := Y
        obtain ⟨ok, jk, oa, ja, e1, e2⟩ := hon.form
        dsimp only at e1 e2
        subst e1 e2
        obtain ⟨a0, a1, a2, a3, a4, a5, a6, a7⟩ := hat.cells
        dsimp only at a0 a1 a2 a3 a4 a5 a6 a7 hst
        have HRT := Lib.hid (refRight_any r ok jk oa ja wr.drew G (hon.1.move fun b _ hF => ⟨hF, rfl⟩) (hon.2.move fun b _ hF => ⟨hF, rfl⟩) (Nat.le_trans hsm.1 (by decide)) (Nat.le_trans hsm.2 (by decide)))
        clear hat hon hsm
        by_cases h1 : yi < 1
        · have k2 : decide (yi < 1) = true := decide_eq_true h1
          have HE2 := Lib.hid (show E = 2 by rw [← HE.out, hst, k2]; rfl)
          clear hst HRT
          go_wp2_with fail
          go_quiet (fail)
          go_wp2_with fail
          go_ret
          rw [HE2.out]
          exact InstG.bad H.out (by decide) (HK.out.1.trans (below_drewN _ _ _))
        · have k2 : decide (yi < 1) = false := decide_eq_false h1
          rw [k2, Bool.false_or] at hst
          by_cases h2 : (gv : Int) < yi
          · have k3 : decide ((gv : Int) < yi) = true := decide_eq_true h2
            have HE2 := Lib.hid (show E = 2 by rw [← HE.out, hst, k3]; rfl)
            clear hst HRT
            go_wp2_with fail
            go_quiet (fail)
            go_wp2_with fail
            go_ret
            rw [HE2.out]
            exact InstG.bad H.out (by decide) (HK.out.1.trans (below_drewN _ _ _))
          · have k3 : decide ((gv : Int) < yi) = false := decide_eq_false h2
            rw [k3, Bool.false_or] at hst
            cases hr : rightR r with
            | false =>
              rw [hr] at hst HRT
              have HE2 := Lib.hid (show E = 2 by rw [← HE.out, hst]; rfl)
              clear hst hr
              go_wp2_with fail
              go_still_tail 24, (by kernel_rfl)
              change wpList _ _ _ _ _ wr.drew
              go_wp2_with fail
              refine HRT.out.mono ?_
              rintro e w2 ⟨rfl, hb2⟩
              have HB2 := Lib.hid (HK.out.1.drew.trans (hb2.mono HK.out.1.drew.size))
              clear hb2
              go_wp2_with fail
              go_ret
              rw [HE2.out]
              exact InstG.bad H.out (by decide) HB2.out
            | true =>
              rw [hr, Bool.not_true, Bool.false_or] at hst
              rw [hr] at HRT
              have HST := Lib.hid hst
              clear hst hr
              go_wp2_with fail
              go_still_tail 24, (by kernel_rfl)
              change wpList _ _ _ _ _ wr.drew
              go_wp2_with fail
              refine HRT.out.mono ?_
              rintro e w2 ⟨rfl, hb2⟩
              have HB2 := Lib.hid (HK.out.1.drew.trans (hb2.mono HK.out.1.drew.size))
              clear hb2
              go_wp2_with fail
              go_loopw [8] (fun i wr' => ∃ m : Nat, i = .int .i64 (m : Int) ∧ m ≤ k ∧ Hid (Below w.heap.size w wr' ∧ yi ∉ (cs.take m).map (·.1))) (fun v _ => k - (RowKit.intOf v).toNat)
              case atStart => exact ⟨0, rfl, Nat.zero_le _, Lib.hid ⟨HB2.out, by simp⟩⟩
              case round =>
                obtain ⟨m, rfl, hm, HM⟩ := hrel
                by_cases hmk : m < k
                · have hmk1 : (m : Int) < (k : Int) := by omega
                  have hml : m < cs.length := by omega
                  obtain ⟨g', off', hoo, _, hat, _⟩ := (HC.out _ (fun g hg _ => HM.out.1.block g hg)).reads m hml
                  obtain ⟨rfl, rfl⟩ : g = g' ∧ off = off' := by simpa using hoo
                  obtain ⟨g', off', hoo', _, hat', _⟩ := (HC.out _ (fun g hg _ => HM.out.1.block g hg)).reads k hlt
                  obtain ⟨rfl, rfl⟩ : g = g' ∧ off = off' := by simpa using hoo'
                  have b0 := hat.1
                  have d0 := hat'.1
                  rw [HY.out] at d0
                  dsimp only at d0
                  have hin := in_takeG hk hmk
                  have hnot := notin_takeG hk hmk HM.out.2
                  obtain ⟨z, hz⟩ : ∃ z, cs[m].1 = z := ⟨_, rfl⟩
                  rw [hz] at b0 hin hnot
                  clear hz hat hat' hoo hoo'
                  by_cases hzy : z = yi
                  · have k5 : (z == yi) = true := by rw [hzy, beq_self_eq_true]
                    have HE2 := Lib.hid (show E = 2 by
                      rw [hzy] at hin
                      rw [← HE.out, HST.out, List.contains_iff_mem.2 hin]; rfl)
                    clear hin hnot hzy
                    go_wp2_with fail
                    go_quiet (fail)
                    go_wp2_with fail
                    go_ret
                    rw [HE2.out]
                    exact InstG.bad H.out (by decide) (HM.out.1.trans (below_drewN _ _ _))
                  · have k5 : (z == yi) = false := beq_eq_false_iff_ne.2 hzy
                    have HN := Lib.hid (hnot hzy)
                    clear hin hnot hzy
                    go_wp2_with fail
                    go_quiet (fail)
                    go_wp2_with fail
                    exact ⟨⟨m + 1, by go_num, by omega, Lib.hid ⟨HM.out.1.trans (below_drewN _ _ _), HN.out⟩⟩, by simp [RowKit.intOf]; omega⟩
                · have e : m = k := by omega
                  subst e
                  have hc2 : ((cs.take m).map (·.1)).contains yi = false := by
                    rw [← Bool.not_eq_true, List.contains_iff_mem]; exact HM.out.2
                  have HX := Lib.hid (show badC gv [] (cs.map toCh) = badC gv ((cs.take (m + 1)).map (·.1)) ((cs.drop (m + 1)).map toCh) by rw [HST.out, hc2, Bool.false_or])
                  clear hc2
                  go_wp2_with fail
                  go_roundw
                  case rel => exact ⟨m + 1, by go_num, by omega, Lib.hid ⟨HM.out.1, HX.out⟩⟩
                  case measure => simp [RowKit.intOf]; omega
      · have e : k = cs.length := by omega
        subst e
        have hE0 : badC gv [] (cs.map toCh) = false := by
          rw [HK.out.2, List.drop_length]; rfl
        have hcl2 := bad_len hE0
        rw [List.length_map] at hcl2
        have HE2 := Lib.hid (show E = 0 by rw [← HE.out, hE0]; rfl)
        have HB1 := HK.out.1
        clear HK hE0 c1 c2
        go_wp2_with fail
        go_loopw [9] (fun i wr' => ∃ k : Nat, ∃ o' j', i = .int .i64 (k : Int) ∧ k ≤ cs.length ∧ Hid (RefG F B wr' b (.slice o' (xs.length + k) j') (xs ++ (cs.take k).map (toOnG t)) gv lt ∧ Only B (ownB b (.slice o0 xs.length j0)) w wr' ∧ ∀ g, (Value.slice o' (xs.length + k) j').ownBlock = some g → (Value.slice o0 xs.length j0).ownBlock = some g ∨ w.heap.size ≤ g)) (fun v _ => cs.length - (RowKit.intOf v).toNat)
        case atStart => exact ⟨0, o0, j0, rfl, Nat.zero_le _, Lib.hid ⟨by simpa using HR.out _ HB1, Only.of HB1 HBs.out, fun g hg => .inl hg⟩⟩
        case round =>
          obtain ⟨k, o1, j1, rfl, hk, HK⟩ := hrel
          obtain ⟨c0, _, _, cf⟩ := HK.out.1.cells
          have f0 := cf 0
          have hbl := HK.out.1.lt
          clear cf
          by_cases hlt : k < cs.length
          · obtain ⟨g, off, rfl, hg1, hat, hon⟩ := (HC.out _ HK.out.2.1.2).reads k hlt
            obtain ⟨Y, hY⟩ : ∃ Y, cs[k] = Y := ⟨_, rfl⟩
            have hon2 := HRR.out _ HK.out.2.1.2 _ (List.getElem_mem hlt)
            rw [hY] at hat hon hon2
            have HY := Lib.hid hY
            clear hY
            obtain ⟨yi, r, va, vb⟩ := Y
            obtain ⟨ok, jk, oa, ja, e1, e2⟩ := hon.form
            dsimp only at e1 e2
            subst e1 e2
            obtain ⟨a0, a1, a2, a3, a4, a5, a6, a7⟩ := hat.cells
            dsimp only at a0 a1 a2 a3 a4 a5 a6 a7
            have HON := Lib.hid hon2
            clear hat hon hon2
            go_wp2_with fail
            go_region_law (first
              | (refine step_pushG rfl (.tmp 75) (.tmp 89) rfl yi t r ok _ jk oa _ ja wr.heap.size (World.alloc_heap_new wr _) (fun g hg => ⟨fun e => HK.out.1.sep g hg (.inr e.symm), by have := HK.out.1.fb g hg; simp; omega⟩) (HK.out.1.below ((Below.refl _ _).alloc (Nat.le_refl _) _).drew).row (HON.out.below ((Below.refl _ _).alloc (Nat.le_refl _) _).drew) rfl rfl (by simp; exact Nat.le_succ_of_le (Nat.le_trans HBs.out HK.out.2.1.1.size)) (by simp; omega) ?_; intro g2 cap w1 hown1 hb1 hk1 hl1; obtain ⟨z0, z1⟩ := (HK.out.1.below ((Below.refl _ _).alloc (Nat.le_refl _) _).drew).after hk1))
            all_goals
              have hnx := HK.out.1.next HK.out.2.1 HK.out.2.2 (n := xs.length + k + 1) (Nat.le_trans HBs.out HK.out.2.1.1.size) hown1 (by simp; omega) hb1 hk1 hl1
              have HNX := Lib.hid hnx
              clear hnx hown1 hb1 hk1 hl1 z0 z1
              go_wp2_with fail
              go_roundw
              case rel => exact ⟨k + 1, _, _, by go_num, by omega, Lib.hid (by
                have e2 : (cs.take (k + 1)).map (toOnG t) = (cs.take k).map (toOnG t) ++ [(yi, t, r, .slice ok r.ks.length jk, .slice oa r.ats.length ja)] := by
                  rw [List.take_succ_eq_append_getElem hlt, List.map_append, HY.out]; rfl
                rw [e2, ← List.append_assoc]
                exact HNX.out)⟩
              case measure => simp [RowKit.intOf]; omega
          · have e : k = cs.length := by omega
            subst e
            rw [List.take_length] at HK
            obtain ⟨_, _, c2, cf⟩ := HK.out.1.cells
            have f2 := cf 2
            clear cf
            go_wp2_with fail
            go_ret
            rw [HE2.out]
            obtain ⟨p1, p2⟩ := HK.out.1.stamp t
            exact ⟨rfl, by rw [if_pos rfl]; exact ⟨_, p1, HK.out.2.2⟩, HK.out.2.1.trans p2 fun i hi hoi => by
              rcases hoi with rfl | hoi
              · exact .inl rfl
              · rcases HK.out.2.2 i hoi with h1 | h1
                · exact .inr h1
                · omega⟩
end Go.Proofs.Ytkackejipgabfaa.Char

/- The walk of the document's own At, its records anywhere. -/
namespace Go.Proofs.Ytkackejipgabfaa.Char
open Go.RowKit Go.Lib

/-- what has been found so far -/
structure AtG (F : Nat → Prop) (w : World) (c : Option OnV) (wr : World) (x : RcV) (is : Bool) : Prop where
  bel : Below w.heap.size w wr
  res : wr.heap[w.heap.size]? = some (rcB rcV0)
  cur : wr.heap[w.heap.size + 1]? = some (rcB x)
  on : RcOn w F x
  val : (x, is) = match c with
    | none => (rcV0, false)
    | some y => (y.2.2, true)
theorem AtG.store {F : Nat → Prop} {w : World} {c : Option OnV} {wr : World} {x : RcV} {is : Bool} (h : AtG F w c wr x is) {y : OnV} (hy : RcOn w F y.2.2) : AtG F w (some y) (set7 wr (w.heap.size + 1) y.2.2) y.2.2 true :=
  ⟨set7_below h.bel (Nat.le_succ _), (set7_ne (by omega)).trans h.res, set7_at h.cur, hy, rfl⟩
set_option maxRecDepth 100000 in
set_option maxHeartbeats 4000000 in
theorem refG_at {F : Nat → Prop} {B : Nat} {w : World} {b : Nat} {v : Value} {xs : List OnV} {gv lt : Nat} (h : RefG F B w b v xs gv lt) (id : Int) (t : Nat) (hl : xs.length ≤ 100000000) :
    Calls Try.prog 106 #[.pointer (some ⟨b, 0, none⟩), .int .i64 id, .int .u64 (t : Int)] w fun e w' => e = .returned (.tuple #[rcV (atR (atL id t xs)).1, .bool (atR (atL id t xs)).2]) ∧ Below w.heap.size w w' := by
  have H := Lib.hid h
  obtain ⟨o, j, rfl⟩ := h.row.form
  obtain ⟨X, hX⟩ : ∃ X, atR (atL id t xs) = X := ⟨_, rfl⟩
  rw [hX]
  have HX := Lib.hid hX
  clear hX
  obtain ⟨W0, hW0⟩ : ∃ W0, W0 = (w.alloc (rcB rcV0)).alloc (rcB rcV0) := ⟨_, rfl⟩
  have b0 : Below w.heap.size w W0 := by rw [hW0]; exact ((Below.refl _ _).alloc (Nat.le_refl _) _).alloc (by simp) _
  have hI0 : AtG F w (atL id t (xs.take 0)) W0 rcV0 false := by
    refine ⟨b0, ?_, ?_, RcOn.none _ _, rfl⟩
    · rw [hW0, Below.heap_alloc _ _ _ (by simp)]; exact World.alloc_heap_new w _
    · rw [hW0]; have := World.alloc_heap_new (w.alloc (rcB rcV0)) (rcB rcV0); simpa using this
  have HI := Lib.hid hI0
  have HW0 := Lib.hid hW0
  have HO := Lib.hid h.row.2
  have HR := Lib.hid (fun wr (hb : Below w.heap.size w wr) => h.below hb)
  have c0 := ((h.below b0).cells).1
  clear h hI0 b0 hW0
  unfold rcB rcV0 rc0 at HW0
  dsimp only at HW0
  go_enter Try.func106, Try.ntmps106
  go_wp2_with fail
  have e0 : (⟨#[]⟩ : ByteArray) = bs [] := rfl
  rw [e0, ← HW0.out]
  clear e0
  go_loopw [9, 10] (fun i v wr => ∃ k : Nat, ∃ x : RcV, ∃ is : Bool, v = .int .i64 (k : Int) ∧ i = .bool is ∧ k ≤ xs.length ∧ Hid (AtG F w (atL id t (xs.take k)) wr x is)) (fun _ v _ => xs.length - (RowKit.intOf v).toNat)
  case atStart => exact ⟨0, rcV0, false, rfl, rfl, Nat.zero_le _, HI⟩
  case round =>
    obtain ⟨k, x, is, rfl, rfl, hk, HK⟩ := hrel
    have hS := HR.out _ HK.out.bel
    obtain ⟨c0, _, _, _⟩ := hS.cells
    by_cases hlt : k < xs.length
    · obtain ⟨g, rfl, hg1, hg2, a0, a1, a2, a3, a4, a5, a6, a7, a8, hon⟩ := hS.row.reads k hlt
      have hst := atL_step (id := id) (t := t) hlt
      have HON := Lib.hid (HO.out _ (List.getElem_mem hlt))
      generalize xs[k] = y at *
      obtain ⟨yi, yt, r, va, vb⟩ := y
      obtain ⟨ok, jk, oa, ja, e1, e2⟩ := hon.form
      dsimp only at e1 e2
      subst e1 e2
      dsimp only at a0 a1 a2 a3 a4 a5 a6 a7 a8
      have HST := Lib.hid hst
      have hun : ∀ c, atF id t (yi, yt, r, .slice ok r.ks.length jk, .slice oa r.ats.length ja) = c → atL id t (xs.take (k + 1)) = if c then some (yi, yt, r, .slice ok r.ks.length jk, .slice oa r.ats.length ja) else atL id t (xs.take k) := fun c hc => by rw [HST.out, hc]
      have HUN := Lib.hid hun
      clear hst HST hun hS hon
      by_cases hi : yi = id
      · have k1 : (yi == id) = true := by rw [hi, beq_self_eq_true]
        by_cases ht : yt ≤ t
        · have k2 : (yt : Int) ≤ (t : Int) := by omega
          have HA := Lib.hid (HUN.out true (by unfold atF; rw [decide_eq_true hi, decide_eq_true ht]; rfl))
          obtain ⟨⟨z0, z1, z2, z3, z4, z5, z6⟩, hfr⟩ := rc_blk HK.out.cur
          have f0 := hfr 0
          have f1 := hfr 1
          have f2 := hfr 2
          have f3 := hfr 3
          have f4 := hfr 4
          have f5 := hfr 5
          have f6 := hfr 6
          clear HUN hi ht hfr
          go_wp2_with fail
          exact ⟨⟨k + 1, (r, .slice ok r.ks.length jk, .slice oa r.ats.length ja), true, by go_num, rfl, by omega, Lib.hid (by rw [HA.out]; exact HK.out.store HON.out)⟩, by simp [RowKit.intOf]; omega⟩
        · have k2 : ¬ (yt : Int) ≤ (t : Int) := by omega
          have HA := Lib.hid (HUN.out false (by unfold atF; rw [decide_eq_false ht, Bool.and_false]))
          clear HUN hi ht
          go_wp2_with fail
          go_roundw
          case rel => exact ⟨k + 1, x, is, by go_num, rfl, by omega, Lib.hid (by rw [HA.out]; exact HK.out)⟩
          case measure => simp [RowKit.intOf]; omega
      · have k1 : (yi == id) = false := beq_eq_false_iff_ne.2 hi
        have HA := Lib.hid (HUN.out false (by unfold atF; rw [decide_eq_false hi, Bool.false_and]))
        clear HUN hi
        go_wp2_with fail
        go_roundw
        case rel => exact ⟨k + 1, x, is, by go_num, rfl, by omega, Lib.hid (by rw [HA.out]; exact HK.out)⟩
        case measure => simp [RowKit.intOf]; omega
    · have e : k = xs.length := by omega
      subst e
      rw [List.take_length] at HK
      obtain ⟨⟨z0, z1, z2, z3, z4, z5, z6⟩, hfr⟩ := rc_blk HK.out.cur
      obtain ⟨⟨y0, y1, y2, y3, y4, y5, y6⟩, hfq⟩ := rc_blk HK.out.res
      have f0 := hfq 0
      have f1 := hfq 1
      have f2 := hfq 2
      have f3 := hfq 3
      have f4 := hfq 4
      have f5 := hfq 5
      have f6 := hfq 6
      have hval := HK.out.val
      have hon := HK.out.on
      clear hfr hfq hS
      cases hg : atL id t xs with
      | none =>
        rw [hg] at hval
        obtain ⟨rfl, rfl⟩ := Prod.mk.injEq .. ▸ hval
        have HE := Lib.hid (show X = (rcV0, false) by rw [← HX.out, hg]; rfl)
        clear hg hval
        go_wp2_with fail
        refine end_rc2 Try.results106 _ w.heap.size (x := rcV0) (c := .bool false) (set7_at (x := rcV0) HK.out.res) ⟨_, _, _, _, _, _, rfl, rfl⟩ rfl rfl rfl ?_
        rw [HE.out]
        exact ⟨rfl, set7_below (x := rcV0) HK.out.bel (Nat.le_refl _)⟩
      | some y =>
        rw [hg] at hval
        obtain ⟨rfl, rfl⟩ := Prod.mk.injEq .. ▸ hval
        obtain ⟨yi, yt, r, va, vb⟩ := y
        obtain ⟨ok, jk, oa, ja, e1, e2⟩ := hon.form
        dsimp only at e1 e2
        subst e1 e2
        dsimp only at z0 z1 z2 z3 z4 z5 z6
        cases hgo : r.gone with
        | true =>
          have HE := Lib.hid (show X = (rcV0, false) by rw [← HX.out, hg]; unfold atR; dsimp only; rw [hgo]; rfl)
          rw [hgo] at z6
          clear hg hval hgo hon
          go_wp2_with fail
          refine end_rc2 Try.results106 _ w.heap.size (x := rcV0) (c := .bool false) (set7_at (x := rcV0) HK.out.res) ⟨_, _, _, _, _, _, rfl, rfl⟩ rfl rfl rfl ?_
          rw [HE.out]
          exact ⟨rfl, set7_below (x := rcV0) HK.out.bel (Nat.le_refl _)⟩
        | false =>
          have HE := Lib.hid (show X = ((r, .slice ok r.ks.length jk, .slice oa r.ats.length ja), true) by rw [← HX.out, hg]; unfold atR; dsimp only; rw [hgo]; rfl)
          have HG := Lib.hid hgo
          rw [hgo] at z6
          clear hg hval hgo hon
          go_wp2_with fail
          refine end_rc2 Try.results106 _ w.heap.size (x := (r, .slice ok r.ks.length jk, .slice oa r.ats.length ja)) (c := .bool true) ?_ ⟨_, _, _, _, _, _, rfl, rfl⟩ rfl rfl rfl ?_
          · rw [← HG.out]
            exact set7_at (x := (r, .slice ok r.ks.length jk, .slice oa r.ats.length ja)) HK.out.res
          · rw [HE.out]
            refine ⟨rfl, ?_⟩
            rw [← HG.out]
            exact set7_below (x := (r, .slice ok r.ks.length jk, .slice oa r.ats.length ja)) HK.out.bel (Nat.le_refl _)
end Go.Proofs.Ytkackejipgabfaa.Char

/- The document's view and its store, apart. -/
namespace Go.Proofs.Ytkackejipgabfaa.Char
open Go.RowKit Go.Lib

/-- the document's view at b, its store at d; all that is theirs lies in Z -/
def WS (Z Z1 : Nat → Prop) (B : Nat) (w : World) (b d t : Nat) (S : Sto) (own : Own) : Prop := ∃ (F : Nat → Prop) (v v2 : Value) (xs : List OnV) (cs : List ChV), RefG F B w d v xs S.given S.last ∧ xs.map toOn = S.L ∧ RW F B w b d t v2 cs ∧ cs.map toCh = own ∧
  (∀ g, ownB d v g → g ≠ b ∧ v2.ownBlock ≠ some g) ∧ (∀ g, (ownB d v g ∨ g = b ∨ v2.ownBlock = some g ∨ F g) → Z g) ∧ (∀ g, Z g ∨ Z1 g → g < w.heap.size) ∧ upO own
section
variable {Z Z1 : Nat → Prop} {B : Nat} {w : World} {b d t : Nat} {S : Sto} {own : Own}
theorem WS.move (h : WS Z Z1 B w b d t S own) {w' : World} (hz : ∀ g, Z g ∨ Z1 g → w'.heap[g]? = w.heap[g]?) (hs : w.heap.size ≤ w'.heap.size) : WS Z Z1 B w' b d t S own := by
  obtain ⟨F, v, v2, xs, cs, h1, h2, h3, h4, h5, h6, h7, h8⟩ := h
  exact ⟨F, v, v2, xs, cs, h1.move (fun g hg => hz g (.inl (h6 g (.inl hg)))) (fun g hg => hz g (.inl (h6 g (.inr (.inr (.inr hg)))))) hs, h2,
    h3.move (fun g hg => hz g (.inl (h6 g (by rcases hg with hg | hg | hg; exact .inr (.inl hg); exact .inr (.inr (.inl hg)); exact .inr (.inr (.inr hg)))))) hs, h4, h5, h6, fun g hg => Nat.lt_of_lt_of_le (h7 g hg) hs, h8⟩
theorem WS.zB (h : WS Z Z1 B w b d t S own) : ∀ g, Z g ∨ Z1 g → 0 ≤ g ∧ g < w.heap.size := by
  obtain ⟨F, v, v2, xs, cs, h1, h2, h3, h4, h5, h6, h7, h8⟩ := h
  exact fun g hg => ⟨Nat.zero_le _, h7 g hg⟩
theorem WS.below (h : WS Z Z1 B w b d t S own) {w' : World} (hb : Below w.heap.size w w') : WS Z Z1 B w' b d t S own := h.move (fun g hg => hb.block g (h.zB g hg).2) hb.size
theorem WS.lowB (h : WS Z Z1 B w b d t S own) : B ≤ w.heap.size := by
  obtain ⟨F, v, v2, xs, cs, h1, _⟩ := h
  exact h1.low'
theorem WS.sbc (h : WS Z Z1 B w b d t S own) : w.cell? ⟨b, 0, none⟩ = some (.pointer (some ⟨d, 0, none⟩)) ∧ b < w.heap.size := by
  obtain ⟨F, v, v2, xs, cs, h1, h2, h3, _⟩ := h
  exact ⟨h3.cells.1, h3.ltb⟩
theorem ws_fresh (h : WS Z Z1 B w b d t S own) (hg : S.given ≤ 10000000) :
    Calls Try.prog 75 #[.pointer (some ⟨d, 0, none⟩)] w fun e w' => e = .returned (.int .i64 ((S.given + 1 : Nat) : Int)) ∧ WS Z Z1 B w' b d t (freshS S) own ∧ Only B Z w w' := by
  obtain ⟨F, v, v2, xs, cs, h1, h2, h3, h4, h5, h6, h7, h8⟩ := h
  refine (refG_fresh h1 (by omega)).mono fun e w' ⟨q1, q2, q3, q4⟩ => ⟨q1, ⟨F, v, v2, xs, cs, q2, h2, h3.move (fun g hg => q4.2 g ?_ fun e => ?_) q4.1.size, h4, h5, h6, fun g hg => by rw [q3]; exact h7 g hg, h8⟩, q4.weak fun g _ e => h6 g (.inl (.inl e))⟩
  · exact h7 g (.inl (h6 g (by rcases hg with hg | hg | hg; exact .inr (.inl hg); exact .inr (.inr (.inl hg)); exact .inr (.inr (.inr hg)))))
  · subst e
    rcases hg with hg | hg | hg
    · exact (h5 g (.inl rfl)).1 hg
    · exact (h5 g (.inl rfl)).2 hg
    · exact h1.sep g hg (.inl rfl)
theorem ws_lay (h : WS Z Z1 B w b d t S own) (hl : own.length ≤ 10000000) (id : Int) (x : RcV) {G : Nat → Prop} (hx : RcOn w G x) (hG : ∀ g, G g → (¬ Z g ∨ g < B) ∧ g < w.heap.size) :
    Calls Try.prog 76 #[.pointer (some ⟨b, 0, none⟩), .int .i64 id, rcV x] w fun e w' => (∃ u, e = .returned u) ∧ Only B Z w w' ∧ ∃ Z', WS Z' Z1 B w' b d t S (layO own id x.1) ∧ (∀ g, Z g → Z' g) ∧ ∀ g, Z' g → Z g ∨ G g ∨ w.heap.size ≤ g := by
  obtain ⟨F, v, v2, xs, cs, h1, h2, h3, h4, h5, h6, h7, h8⟩ := h
  have hZb : ∀ g, G g → ¬ (ownB d v g) ∧ g ≠ b ∧ v2.ownBlock ≠ some g := fun g hg => by
    rcases (hG g hg).1 with q | q
    · exact ⟨fun e => q (h6 g (.inl e)), fun e => q (h6 g (.inr (.inl e))), fun e => q (h6 g (.inr (.inr (.inl e))))⟩
    · exact ⟨fun e => by have := (h1.own e).1; omega, fun e => by have := h3.low; omega, fun e => by have := (h3.row.blk e).1; omega⟩
  have r3 := h3.weak (F' := fun g => F g ∨ G g) (fun _ => .inl) (fun g hg => hg.elim (h3.sep g) (fun q => (hZb g q).2)) (fun g hg => hg.elim (h3.fb g) (fun q => (hG g q).2))
  have r1 := h1.weak (F' := fun g => F g ∨ G g) (fun _ => .inl) (fun g hg => hg.elim (h1.sep g) (fun q => (hZb g q).1)) (fun g hg => hg.elim (h1.fb g) (fun q => (hG g q).2))
  have hcl : cs.length ≤ 10000000 := by rw [← h4, List.length_map] at hl; exact hl
  refine (layW_any r3 hcl id x (hx.move fun g _ hg => ⟨.inr hg, rfl⟩)).mono fun e w' ⟨q1, v', q2, q3, q4⟩ => ⟨q1, q4.weak fun g _ e => h6 g (.inr (.inl e)), fun g => Z g ∨ G g ∨ (w.heap.size ≤ g ∧ g < w'.heap.size), ⟨fun g => F g ∨ G g, v, v', xs, layE (id, x) cs, r1.move (fun g hg => q4.2 g (r1.own hg).2 (h5 g hg).1) (fun g hg => q4.2 g (r1.fb g hg) (r3.sep g hg).1) q4.1.size, h2, q2, ?_, fun g hg => ⟨(h5 g hg).1, fun e => ?_⟩, fun g hg => ?_, fun g hg => ?_, h8.lay _ _⟩, fun _ => .inl, fun g hg => ?_⟩
  · rw [layE_spec _ _ (by rw [h4]; exact h8), h4]
  · have := q3 g e; have := (h1.own hg).2; omega
  · rcases hg with hg | hg | hg | hg
    · exact .inl (h6 g (.inl hg))
    · exact .inl (h6 g (.inr (.inl hg)))
    · exact .inr (.inr ⟨q3 g hg, (q2.row.blk hg).2⟩)
    · rcases hg with hg | hg
      · exact .inl (h6 g (.inr (.inr (.inr hg))))
      · exact .inr (.inl hg)
  · have hs := q4.1.size
    rcases hg with (hg | hg | hg) | hg
    · have := h7 g (.inl hg); omega
    · have := (hG g hg).2; omega
    · exact hg.2
    · have := h7 g (.inr hg); omega
  · rcases hg with hg | hg | hg
    · exact .inl hg
    · exact .inr (.inl hg)
    · exact .inr (.inr hg.1)
end
end Go.Proofs.Ytkackejipgabfaa.Char
