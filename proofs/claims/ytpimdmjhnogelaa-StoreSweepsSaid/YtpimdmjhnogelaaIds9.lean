/- The walk of the program's Ids. -/
import Derived.Test.YtpimdmjhnogelaaCount9
import Derived.Test.YtpimdmjhnogelaaRefIds
import Derived.Maps.OwnIn
namespace Go.Proofs.Ytpimdmjhnogelaa.Char
open Go.RowKit Go.Lib Go.Sort Go.Maps
attribute [local go_sem] Oper.semAt_some

theorem OwnsInt.put {B : Nat} {w : World} {v : Value} {zs : List Int} (h : OwnsInt B w v zs) {l : Nat} {o : Obj} (o' : Obj) (ho : w.heap[l]? = some o) (hc : o.isCells = false) : OwnsInt B (w.putObj l o') v zs :=
  h.keep fun g hg => World.putObj_heap_other fun e => by
    rcases h.2 with ⟨h1, _⟩ | ⟨g', cap, cur, e1, _, hg', _⟩
    · rw [h1] at hg; cases hg
    · rw [e1] at hg
      obtain rfl : g' = g := by simpa [Value.ownBlock] using hg
      rw [e, ho] at hg'
      cases hg'
      cases hc
theorem OwnsInt.weak {B B' : Nat} {w : World} {v : Value} {zs : List Int} (h : OwnsInt B w v zs) (hB : B' ≤ B) : OwnsInt B' w v zs := by
  obtain ⟨h1, h2⟩ := h
  refine ⟨h1, ?_⟩
  rcases h2 with h0 | ⟨g, cap, cur, e1, e2, e3⟩
  · exact .inl h0
  · exact .inr ⟨g, cap, cur, e1, Nat.le_trans hB e2, e3⟩
theorem wpListIn_pushInt {F : Fence} {nF : Nat} {ops : Array Oper} {rest : List Oper} {o : Oper} {a : Act} {Q : Exit → Act → World → Prop} (B : Nat) {W : World} {v : Value} {zs : List Int}
    (hgd : o.guard = none) (s x : Operand) (ho : o.op = .call { callee := .builtin .append, args := #[s, x], argTypes := #[32, 32] })
    (z : Int) (hown : OwnsInt B W v zs) (hs : a.eval s = v) (hx : a.eval x = .slice (some ⟨W.heap.size, 0, none⟩) 1 1) (hB : B ≤ W.heap.size) (hlen : zs.length ≤ 1000000)
    (h : ∀ v' w1, OwnsInt B w1 v' (zs ++ [z]) → Below B W w1 → (∀ k, k < W.heap.size → some k ≠ v.ownBlock → w1.heap[k]? = W.heap[k]?) → (∀ g, v'.ownBlock = some g → v.ownBlock = some g ∨ W.heap.size ≤ g) → W.heap.size ≤ w1.heap.size → wpListIn F nF Try.prog ops Q rest (a.put o.dst v') w1) :
    wpListIn F nF Try.prog ops Q (o :: rest) a (W.alloc (.cells #[.int .i64 z] 3)) := by
  obtain ⟨i0, hi, hz0, hz1, hz2⟩ := info_parts info_int
  refine wpListIn_append_own_at _ hgd s x 32 ho B 3 i0 (.int .i64 0) 1 8 Try.underlying32 hi hz0 hz1 hz2 rfl (by omega) v zs.length (intC zs) hs (World.ownsRow.alloc hown _) ⟨W.heap.size, 0, none⟩ 1 1 [.int .i64 z] hx rfl (cell_one_new _ _ _) ?_ ?_ ?_ ?_ ?_
  · intro u hu
    rw [List.mem_singleton] at hu
    subst hu
    rfl
  · unfold maxLen; omega
  · omega
  · simp; omega
  · intro v' w1 hown' hgrow _ hloc
    have hsz := hgrow.size
    rw [World.size_alloc] at hsz
    refine h v' w1 ?_ (((Below.refl _ _).alloc hB _).grown hgrow (by simp; omega) (fun k hk => (hown.blk hk).1)) (fun k hk hne => ?_) (fun g hg => ?_) (by omega)
    · unfold OwnsInt intC
      rw [List.length_append, List.map_append]
      exact hown'
    · rw [hgrow.block k (by simp; omega) (fun e => hne e)]
      exact Below.heap_alloc W _ k hk
    · rcases hloc with hl | hl
      · exact .inl (by rw [← hl]; exact hg)
      · rw [hl] at hg
        simp at hg
        exact .inr (by omega)
set_option maxRecDepth 100000 in
set_option maxHeartbeats 4000000 in
theorem ids_any {Z : Nat → Prop} {B : Nat} {w : World} {b mb n : Nat} {D : DataW Value} {V : Int → Value} {X : Int → List VeV} {gv lt : Nat} (h : PSt Z B w b mb n D V X gv lt) (hg : gv ≤ 100000) :
    Calls Try.prog 11 #[.pointer (some ⟨b, 0, none⟩)] w fun e w' => ∃ u, e = .returned u ∧ OwnsInt w.heap.size w' u (idsX gv X) ∧ Below w.heap.size w w' := by
  have hM := fun (W : World) (hb : Below w.heap.size w W) => (callsIn_wide (n := 19)).2 (made_yes b W (h.below hb).cells.1)
  have HM := Lib.hid hM
  have HN := fun (W : World) => Lib.hid (nodes_in Fence.wide 19 trivial rfl b W)
  have H := Lib.hid h
  clear h hM
  refine (callsIn_wide (n := 20)).1 ?_
  refine callsIn_of_wp_marks Try.func11 rfl trivial ?_ rfl
  simp only [Try.ntmps11, List.size_toArray, List.length_cons, List.length_nil, Nat.reduceAdd, Nat.reduceSub, Array.replicate_succ, Array.replicate_zero, List.push_toArray, List.append_toArray, List.nil_append, List.cons_append]
  gi_wp2_with (first
    | (refine ⟨trivial, ?_⟩; gi_at_call 47; refine (HM.out _ (Below.refl _ _)).mono ?_; rintro e w' ⟨rfl, rfl⟩)
    | (refine ⟨trivial, ?_⟩; gi_at_call 48; refine (HN _).out.mono ?_; rintro e w' ⟨rfl, rfl⟩))
  obtain ⟨WL, hWL⟩ : ∃ WL, WL = (w'.alloc (.cells #[.slice none 0 0] 32)).alloc (.cells #[.pointer (some ⟨b, 0, none⟩)] 24) := ⟨_, rfl⟩
  rw [← hWL]
  have hB0 : Below w'.heap.size w' WL := by rw [hWL]; exact ((Below.refl _ _).alloc (Nat.le_refl _) _).alloc (by simp) _
  have hsL : WL.heap.size = w'.heap.size + 2 := by rw [hWL]; simp
  have hbx : WL.cell? ⟨w'.heap.size, 0, none⟩ = some (.slice none 0 0) ∧ WL.frozen? ⟨w'.heap.size, 0, none⟩ = false := by rw [hWL]; exact ⟨by go_simp, by go_simp⟩
  have hbt : WL.cell? ⟨w'.heap.size + 1, 0, none⟩ = some (.pointer (some ⟨b, 0, none⟩)) := by rw [hWL]; go_simp
  refine wpIn_rangeFunc_fix (F := Fence.wide) (n := 20) rfl (by omega) (gf := 73) (lb := #[.pointer (some ⟨w'.heap.size + 1, 0, none⟩)]) rfl trivial (enters_of Try.func73 (by kernel_rfl) rfl)
    (nodes1_fix 19 (by omega) b mb (w'.heap.size + 1) (xsP gv X V) (Nat.le_trans (xsP_len _ _ _) (by omega)) (xsP_wf (by omega) X V) WL) (Below.refl _ _) (fun _ => rfl)
    (fun m pre W => Below w'.heap.size w' W ∧ WL.heap.size ≤ W.heap.size ∧ (∃ v, W.cell? ⟨w'.heap.size, 0, none⟩ = some v ∧ W.frozen? ⟨w'.heap.size, 0, none⟩ = false ∧ OwnsInt (w'.heap.size + 2) W v (pre.map (·.1)) ∧ ∀ g, v.ownBlock = some g → m ≤ g) ∧ W.cell? ⟨w'.heap.size + 1, 0, none⟩ = some (.pointer (some ⟨b, 0, none⟩)))
    ?keep ?st ?start (fun x => { tmps := #[.pointer (some ⟨b, 0, none⟩), undef, .slice none 0 0, .pointer (some ⟨w'.heap.size, 0, none⟩), .int .i64 x.1, .pointer (some ⟨b, 0, none⟩), .bool true, .bool false, .pointer (some ⟨b, 0, none⟩), .func (.func 73) #[] #[.pointer (some ⟨w'.heap.size + 1, 0, none⟩)], .int .i64 x.1, x.2, undef, undef, undef, undef, undef], defers := [] })
    ?assign ?body ?done
  case keep =>
    rintro m pre W l o o' ⟨k1, k2, ⟨v, k3, k4, k6, k7⟩, k5⟩ hl ho hc _
    have e1 : (W.putObj l o').heap[w'.heap.size]? = W.heap[w'.heap.size]? := World.putObj_heap_other (by omega)
    have e2 : (W.putObj l o').heap[w'.heap.size + 1]? = W.heap[w'.heap.size + 1]? := World.putObj_heap_other (by omega)
    exact ⟨below_putObj k1 (by omega) o', by rw [World.putObj_size]; exact k2, ⟨v, (World.cell?_of_block (w := W) (a := ⟨w'.heap.size, 0, none⟩) e1).trans k3, (World.frozen?_of_block (w := W) (a := ⟨w'.heap.size, 0, none⟩) e1).trans k4, k6.put o' ho hc, k7⟩, (World.cell?_of_block (w := W) (a := ⟨w'.heap.size + 1, 0, none⟩) e2).trans k5⟩
  case st =>
    rintro m pre W ⟨k1, _, _, k5⟩
    exact (H.out.below k1).stN (by omega) k5 pre
  case start =>
    intro W hb
    exact ⟨hB0.trans (hb.mono (by omega)), hb.size, ⟨_, (hb.cell (p := ⟨w'.heap.size, 0, none⟩) (by simp; omega)).trans hbx.1, (World.frozen?_of_block (w := WL) (a := ⟨w'.heap.size, 0, none⟩) (hb.block w'.heap.size (by omega))).trans hbx.2, OwnsInt.nil _ _, fun g hg => by cases hg⟩, (hb.cell (p := ⟨w'.heap.size + 1, 0, none⟩) (by simp; omega)).trans hbt⟩
  case assign =>
    rintro l ⟨xi, xv⟩ W K hK
    simp only [encN]
    gi_wp2
    exact hK
  case body =>
    rintro l m pre ⟨xi, xv⟩ W hm hmW ⟨k1, k2, ⟨v, k3, k4, k6, k7⟩, k5⟩ hpx
    have hle := (pre_fst hpx).length_le
    have hgl := idsX_len (gv := gv) (X := X)
    rw [List.map_append, List.length_append] at hle
    have HP : Hid ((pre ++ [(xi, xv)]).map (·.1) = pre.map (·.1) ++ [xi]) := Lib.hid (by simp)
    obtain ⟨o, j, rfl⟩ := k6.form
    rw [List.length_map] at k3 k6 k7
    have HK1 := Lib.hid k1
    have HK5 := Lib.hid k5
    have HK6 := Lib.hid k6
    have HK7 := Lib.hid k7
    clear hpx k1 k5 k6 k7
    gi_wp2_with (first
      | (refine wpListIn_pushInt (w'.heap.size + 2) rfl (.tmp 12) (.tmp 14) rfl xi HK6.out rfl rfl (by omega) (by omega) ?_
         intro v' w1 q1 q2 q3 q4 q5
         have c1 := (World.cell?_of_block (w := W) (w' := w1) (a := ⟨w'.heap.size, 0, none⟩) (q3 _ (by show w'.heap.size < _; omega) (fun e => by have := (HK6.out.blk e.symm).1; simp at this; omega))).trans k3
         have c2 := (World.frozen?_of_block (w := W) (w' := w1) (a := ⟨w'.heap.size, 0, none⟩) (q3 _ (by show w'.heap.size < _; omega) (fun e => by have := (HK6.out.blk e.symm).1; simp at this; omega))).trans k4
         obtain ⟨o2, j2, rfl⟩ := q1.form
         rw [show (List.map (fun x => x.fst) pre ++ [xi]).length = pre.length + 1 by simp] at q1 q4
         have Q1 := Lib.hid q1
         have Q2 := Lib.hid q2
         have Q3 := Lib.hid q3
         have Q4 := Lib.hid q4
         clear q1 q2 q3 q4)
      | fail)
    refine ⟨⟨(HK1.out.trans (Q2.out.mono (by omega))).setCell (p := ⟨w'.heap.size, 0, none⟩) (Nat.le_refl _) _, by rw [World.size_setCell]; omega, ⟨_, World.cell?_setCell_same' _ _ _ (by rw [c1]; rfl), by rw [World.frozen?_setCell]; exact c2, ?_, fun g hg => ?_⟩, ?_⟩, by rw [World.size_setCell]; omega, fun k r1 r2 => ?_⟩
    · rw [HP.out]
      refine OwnsInt.keep (w := w1) ?_ fun g hg => heap_set_ne (by have := (Q1.out.blk hg).1; simp; omega)
      exact Q1.out
    · rcases Q4.out g hg with h1 | h1
      · exact HK7.out g h1
      · omega
    · refine (World.cell?_of_block (w := W) (a := ⟨w'.heap.size + 1, 0, none⟩) ((heap_set_ne (by simp)).trans (Q3.out (w'.heap.size + 1) (by omega) fun e => ?_))).trans HK5.out
      have := (HK6.out.blk e.symm).1
      omega
    · refine (heap_set_ne (by simp; omega)).trans (Q3.out k (by omega) fun e => ?_)
      have := HK7.out k e.symm
      omega
  case done =>
    rintro D m W hD ⟨k1, k2, ⟨v, k3, k4, k6, k7⟩, k5⟩ hK
    rw [xsP_fst] at k6
    have HK6 := Lib.hid k6
    obtain ⟨o, j, rfl⟩ := k6.form
    gi_wp2
    refine ⟨by simp, .inl ⟨_, _, rfl, run_takeDeferred hK, ?_⟩⟩
    exact ⟨_, results_tmp rfl _ _ _, _, rfl, (HK6.out.put _ hK rfl).weak (by omega), below_putObj k1 (by omega) _⟩
end Go.Proofs.Ytpimdmjhnogelaa.Char
