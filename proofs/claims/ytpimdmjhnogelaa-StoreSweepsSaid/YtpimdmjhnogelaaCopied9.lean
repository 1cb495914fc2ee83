/- The walk of copied: a record that shares no list with another one. -/
import Derived.Test.YtpimdmjhnogelaaRecBox
import Derived.Laws.AppendOwn
import Derived.Maps.AppendAt
import Derived.OwnWalk
namespace Go.Proofs.Ytpimdmjhnogelaa.Char
open Go.RowKit Go.Lib

theorem info_i64 : (Try.prog.info? 3).map (fun i => (i.zero, i.size, i.bytes)) = some (some (.int .i64 0), 1, 8) := by kernel_rfl
set_option maxRecDepth 100000 in
/-- all of a row of numbers behind nothing: a row of its own -/
theorem wpList_dup {ops : Array Oper} {rest : List Oper} {o : Oper} {a : Act} {Q : Exit → Act → World → Prop} (B : Nat) (W : World) (hB : B ≤ W.heap.size) (zs : List Int) (F : Nat → Prop) (q : Option Addr) (j : Nat) (h : IntsOn W F (.slice q zs.length j) zs) (hlen : zs.length ≤ 2 ^ 44)
    (hgd : o.guard = none) (s x : Operand) (ho : o.op = .call { callee := .builtin .append, args := #[s, x], argTypes := #[32, 32] }) (hs : a.eval s = .slice none 0 0) (hx : a.eval x = .slice q zs.length j)
    (hK : ∀ q' j' w', IntsOn w' (fun g => W.heap.size ≤ g) (.slice q' zs.length j') zs → Below B W w' → (∀ k, k < W.heap.size → w'.heap[k]? = W.heap[k]?) → wpList Try.prog ops Q rest (a.put o.dst (.slice q' zs.length j')) w') :
    wpList Try.prog ops Q (o :: rest) a W := by
  obtain ⟨i0, hi, hz0, hz1, hz2⟩ := info_parts info_i64
  by_cases h0 : zs = []
  · subst h0
    refine wpList_plain hgd fun K hK' => ?_
    have hr : ∀ ty, (Builtin.append_ #[32, 32] ty #[.slice none 0 0, .slice q 0 j]).run Try.prog W = .ok (.slice none 0 0) W := fun ty => by
      cases q <;> simp [Builtin.append_, run_underlying Try.underlying32, sizeOf, typeInfo, hi, Builtin.lenOf, Builtin.firstCells, loadCells, loadCellsFrom]
    unfold Oper.wp execOp
    rw [show ([] : List Int).length = 0 from rfl] at hx
    simp only [ho, resolve, invoke, builtin, Sem.run_bind, Sem.run_pure, Result.andThen_ok, List.map_toArray, List.map_cons, List.map_nil, hs, hx, hr]
    exact hK' _ _ (hK none 0 W (IntsOn.nil _ _ _ _) (Below.refl _ _) (fun _ _ => rfl))
  · obtain ⟨o', i', j', e1, e2, e3⟩ := h
    cases e1
    rcases e3 with rfl | ⟨g, off, rfl, _, hc⟩
    · exact absurd rfl h0
    · refine wpList_append_own_at W hgd s x 32 ho W.heap.size 3 i0 (.int .i64 0) 1 8 Try.underlying32 hi hz0 hz1 hz2 rfl (by omega) (.slice none 0 0) 0 [] hs (World.ownsRow_nil _ _ _ _) ⟨g, off, none⟩ zs.length j (zs.map (Value.int .i64)) hx (by simp) ?_ (ints_oneCell _ _) ?_ ?_ (Nat.le_refl _) ?_
      · intro k u hk
        rw [List.getElem?_map] at hk
        have hkl : k < zs.length := by
          by_cases hkl : k < zs.length
          · exact hkl
          · rw [List.getElem?_eq_none (by omega)] at hk; cases hk
        have := hc k hkl
        rw [List.getD_eq_getElem?_getD, List.getElem?_eq_getElem hkl] at this
        rw [List.getElem?_eq_getElem hkl] at hk
        rw [Addr.add_lit, this]
        simpa using hk
      · unfold maxLen; omega
      · omega
      · intro v' w' hown hgrow hnil hat
        have hpos : 0 < zs.length := List.length_pos_iff.2 h0
        rw [List.nil_append, Nat.zero_add] at hown
        have hcells := fun g => hown.cells (g := g)
        rcases hown.2 with ⟨rfl, hz⟩ | ⟨g', cap, cur, rfl, hg', _⟩
        · omega
        · refine hK _ _ w' ⟨_, _, _, rfl, rfl, .inr ⟨g', 0, rfl, hg', fun k hk => ?_⟩⟩ ((Below.refl B W).grown hgrow hB (fun k hk => by simp [Value.ownBlock] at hk)) (fun k hk => hgrow.block k hk (by simp [Value.ownBlock]))
          have := hcells g' rfl k (.int .i64 (zs.getD k 0)) (by rw [List.getElem?_map, List.getElem?_eq_getElem hk, List.getD_eq_getElem?_getD, List.getElem?_eq_getElem hk]; rfl)
          rwa [Addr.add_lit] at this
/-- one result, a record in a box -/
theorem end_rc1 {fn : Func} {p : Tmp} (h : fn.results = #[.cell p 37]) {a : Act} {R : Ending → World → Prop} (w1 : World) (g : Nat) {x : RcV} (hk : w1.heap[g]? = some (rcB x)) (hv : ∃ o i j o' i' j', x.2.1 = .slice o i j ∧ x.2.2 = .slice o' i' j')
    (hp : a.tmps.getD p undef = .pointer (some ⟨g, 0, none⟩)) (hd : a.defers = []) (hR : R (.returned (rcV x)) w1) : bodyPost Try.prog fn R .ret a w1 := by
  have hp' : a.tmps[p]?.getD undef = .pointer (some ⟨g, 0, none⟩) := by simpa using hp
  obtain ⟨r, va, vb⟩ := x
  obtain ⟨_, _, _, _, _, _, e1, e2⟩ := hv
  dsimp only at e1 e2
  subst e1 e2
  obtain ⟨⟨a0, a1, a2, a3, a4, a5, a6⟩, _⟩ := rc_blk hk
  dsimp only at a0 a1 a2 a3 a4 a5 a6
  unfold rcV at hR
  exact bodyPost_ret (by simp [results, h, hp', go_sem, a0, a1, a2, a3, a4, a5, a6]) hd hR
theorem rcB_set4 {w : World} {b : Nat} {x : RcV} (h : w.heap[b]? = some (rcB x)) (v : Value) : (w.setCell ⟨b, 4, none⟩ v).heap[b]? = some (rcB (x.1, v, x.2.2)) := by
  unfold rcB at h ⊢
  exact (heap_set_at (i := 4) (u := v) h).trans (by simp)
theorem rcB_set5 {w : World} {b : Nat} {x : RcV} (h : w.heap[b]? = some (rcB x)) (v : Value) : (w.setCell ⟨b, 5, none⟩ v).heap[b]? = some (rcB (x.1, x.2.1, v)) := by
  unfold rcB at h ⊢
  exact (heap_set_at (i := 5) (u := v) h).trans (by simp)
/-- what copied hands back -/
def CopPost (w : World) (r : Rc) : Ending → World → Prop := fun e w' => ∃ x' : RcV, x'.1 = r ∧ e = .returned (rcV x') ∧ RcOn w' (fun g => w.heap.size ≤ g) x' ∧ Below w.heap.size w w'
set_option maxRecDepth 100000 in
set_option maxHeartbeats 4000000 in
theorem copied_any (x : RcV) (F : Nat → Prop) (w : World) (h : RcOn w F x) (hs : RcSm x.1) :
    Calls Try.prog 50 #[rcV x] w (CopPost w x.1) := by
  obtain ⟨r, va, vb⟩ := x
  obtain ⟨ok, jk, oa, ja, e1, e2⟩ := h.form
  dsimp only at e1 e2
  subst e1 e2
  obtain ⟨W0, hW0⟩ : ∃ W0, W0 = (w.alloc (rcB (r, .slice ok r.ks.length jk, .slice oa r.ats.length ja))).alloc (rcB rcV0) := ⟨_, rfl⟩
  have b0 : Below w.heap.size w W0 := by rw [hW0]; exact ((Below.refl _ _).alloc (Nat.le_refl _) _).alloc (by simp) _
  have s0 : W0.heap.size = w.heap.size + 2 := by rw [hW0]; simp
  have k1 : W0.heap[w.heap.size]? = some (rcB (r, .slice ok r.ks.length jk, .slice oa r.ats.length ja)) := by
    rw [hW0, Below.heap_alloc _ _ _ (by simp)]; exact World.alloc_heap_new w _
  have k2 : W0.heap[w.heap.size + 1]? = some (rcB rcV0) := by
    rw [hW0]; have := World.alloc_heap_new (w.alloc (rcB (r, .slice ok r.ks.length jk, .slice oa r.ats.length ja))) (rcB rcV0); simpa using this
  have HW0 := Lib.hid hW0
  have i1 : IntsOn W0 F (.slice ok r.ks.length jk) r.ks := h.1.move fun b hb hF => ⟨hF, b0.block b hb⟩
  have HI2 := Lib.hid (fun (W : World) (hb : Below w.heap.size w W) => (h.2.move fun b hb' hF => ⟨hF, hb.block b hb'⟩ : IntsOn W F (.slice oa r.ats.length ja) r.ats))
  have hs1 := hs.1
  have hs2 := hs.2
  dsimp only at hs1 hs2
  have HI1 := Lib.hid i1
  have HK1 := Lib.hid k1
  have HK2 := Lib.hid k2
  have HB0 := Lib.hid b0
  clear h hs i1 k1 k2 b0 hW0
  unfold rcB rcV0 rc0 at HW0
  dsimp only at HW0
  unfold rcV
  dsimp only
  go_enter Try.func50, Try.ntmps50
  go_wp2_with (first
    | (refine wpList_dup w.heap.size _ (by simp; omega) r.ks F ok jk (HW0.out ▸ HI1.out) hs1 rfl (.const (.slice none 0 0)) (.tmp 4) rfl rfl rfl ?_
       rw [show (⟨#[]⟩ : ByteArray) = bs [] from rfl, ← HW0.out]
       intro q1 j1 w1 g1 b1 m1
       have n1 := (m1 _ (by omega)).trans HK1.out
       have n2 := (m1 _ (by omega)).trans HK2.out
       have hb1 := HB0.out.trans b1
       obtain ⟨⟨_, _, _, _, x4, x5, _⟩, xf⟩ := rc_blk n1
       dsimp only at x4 x5
       have z4 := xf 4
       obtain ⟨W2, hW2⟩ : ∃ W2, W2 = w1.setCell ⟨w.heap.size, 4, none⟩ (.slice q1 r.ks.length j1) := ⟨_, rfl⟩
       have p1 : W2.heap[w.heap.size]? = some (rcB (r, .slice q1 r.ks.length j1, .slice oa r.ats.length ja)) := by rw [hW2]; exact rcB_set4 n1 _
       have p2 : W2.heap[w.heap.size + 1]? = some (rcB rcV0) := by rw [hW2, heap_set_ne (by simp)]; exact n2
       have pb : Below w.heap.size w W2 := by rw [hW2]; exact hb1.setCell (p := ⟨w.heap.size, 4, none⟩) (Nat.le_refl _) _
       have pi := HI2.out W2 pb
       have pg : IntsOn W2 (fun g => w.heap.size + 2 ≤ g) (.slice q1 r.ks.length j1) r.ks := g1.move fun b hb hF => by
         have hF' : W0.heap.size ≤ b := hF
         exact ⟨(by omega : w.heap.size + 2 ≤ b), by rw [hW2]; exact heap_set_ne (by simp; omega)⟩
       have s1 : w.heap.size + 2 ≤ W2.heap.size := by rw [hW2, World.size_setCell, ← s0]; exact b1.size
       obtain ⟨⟨_, _, _, _, _, y5, _⟩, _⟩ := rc_blk p1
       dsimp only at y5
       have HW2 := Lib.hid hW2
       have HP1 := Lib.hid p1
       have HP2 := Lib.hid p2
       have HPB := Lib.hid pb
       have HPI := Lib.hid pi
       have HPG := Lib.hid pg
       clear hW2 p1 p2 pb pi pg g1 b1 m1 n1 n2 hb1 xf)
    | (refine wpList_dup w.heap.size _ (by rw [World.size_setCell]; have := HPB.out.size; rw [HW2.out, World.size_setCell] at this; exact this) r.ats F oa ja (HW2.out ▸ HPI.out) hs2 rfl (.const (.slice none 0 0)) (.tmp 8) rfl rfl rfl ?_
       rw [← HW2.out]
       intro q2 j2 w3 g2 b2 m2
       have n1 := (m2 _ (by omega)).trans HP1.out
       have n2 := (m2 _ (by omega)).trans HP2.out
       have hb2 := HPB.out.trans b2
       obtain ⟨⟨c0, c1, c2, c3, c4, c5, c6⟩, xf⟩ := rc_blk n1
       dsimp only at c0 c1 c2 c3 c4 c5 c6
       have z5 := xf 5
       obtain ⟨W4, hW4⟩ : ∃ W4, W4 = w3.setCell ⟨w.heap.size, 5, none⟩ (.slice q2 r.ats.length j2) := ⟨_, rfl⟩
       have p1 : W4.heap[w.heap.size]? = some (rcB (r, .slice q1 r.ks.length j1, .slice q2 r.ats.length j2)) := by rw [hW4]; exact rcB_set5 n1 _
       have p2 : W4.heap[w.heap.size + 1]? = some (rcB rcV0) := by rw [hW4, heap_set_ne (by simp)]; exact n2
       have pb : Below w.heap.size w W4 := by rw [hW4]; exact hb2.setCell (p := ⟨w.heap.size, 5, none⟩) (Nat.le_refl _) _
       have pg : IntsOn W4 (fun g => w.heap.size + 2 ≤ g) (.slice q2 r.ats.length j2) r.ats := g2.move fun b hb hF => by
         have hF' : W2.heap.size ≤ b := hF
         exact ⟨(by omega : w.heap.size + 2 ≤ b), by rw [hW4]; exact heap_set_ne (by simp; omega)⟩
       have pg1 : IntsOn W4 (fun g => w.heap.size + 2 ≤ g) (.slice q1 r.ks.length j1) r.ks := HPG.out.move fun b hb hF => by
         have hF' : w.heap.size + 2 ≤ b := hF
         exact ⟨hF', by rw [hW4]; exact (heap_set_ne (by simp; omega)).trans (m2 _ hb)⟩
       obtain ⟨⟨d0, d1, d2, d3, d4, d5, d6⟩, df⟩ := rc_blk n2
       have f0 := df 0
       have f1 := df 1
       have f2 := df 2
       have f3 := df 3
       have f4 := df 4
       have f5 := df 5
       have f6 := df 6
       dsimp only [rcV0, rc0] at d0 d1 d2 d3 d4 d5 d6
       have HW4 := Lib.hid hW4
       have HQ2 := Lib.hid p2
       have HQB := Lib.hid pb
       have HQG := Lib.hid pg
       have HQG1 := Lib.hid pg1
       clear hW4 p1 p2 pb pg pg1 g2 b2 m2 n1 n2 hb2 xf df)
    | fail)
  rw [← HW4.out]
  have hq : (set7 W4 (w.heap.size + 1) (r, .slice q1 r.ks.length j1, .slice q2 r.ats.length j2)).heap[w.heap.size + 1]? = some (rcB (r, .slice q1 r.ks.length j1, .slice q2 r.ats.length j2)) := set7_at (x := (r, .slice q1 r.ks.length j1, .slice q2 r.ats.length j2)) HQ2.out
  refine end_rc1 Try.results50 _ (w.heap.size + 1) (x := (r, .slice q1 r.ks.length j1, .slice q2 r.ats.length j2)) hq ⟨_, _, _, _, _, _, rfl, rfl⟩ rfl rfl ?_
  refine ⟨(r, .slice q1 r.ks.length j1, .slice q2 r.ats.length j2), rfl, rfl, ⟨HQG1.out.move fun b _ hF => ?_, HQG.out.move fun b _ hF => ?_⟩, set7_below (x := (r, .slice q1 r.ks.length j1, .slice q2 r.ats.length j2)) HQB.out (Nat.le_succ _)⟩
  · have hF' : w.heap.size + 2 ≤ b := hF
    exact ⟨(by omega : w.heap.size ≤ b), set7_ne (x := (r, .slice q1 r.ks.length j1, .slice q2 r.ats.length j2)) (by omega)⟩
  · have hF' : w.heap.size + 2 ≤ b := hF
    exact ⟨(by omega : w.heap.size ≤ b), set7_ne (x := (r, .slice q1 r.ks.length j1, .slice q2 r.ats.length j2)) (by omega)⟩
end Go.Proofs.Ytpimdmjhnogelaa.Char
