/- SizeW RefSizeW RefDepthW -/
import Derived.Test.YtognlnjamlhmhaaGreatDoorPkSeq
/- The walk of Size: how many nodes there are, attributes among them. -/
namespace Go.Proofs.YtognlnjamlhmhaaGreatDoor.Char
open Go.RowKit Go.Lib Go.Shelf
attribute [local go_sem] Oper.semAt_some

/-- what one node counts -/
def wtN (x : Nat × Tr) : Nat := 1 + (if x.2.kd = 2 then x.2.ats.length else 0)
def szL (l : List (Nat × Tr)) : Nat := (l.map wtN).sum
theorem w64_add (a b : Int) : wrap64 (wrap64 a + b) = wrap64 (a + b) := by unfold wrap64; omega
theorem szL_snoc (l : List (Nat × Tr)) (x : Nat × Tr) : szL (l ++ [x]) = szL l + wtN x := by simp [szL]
set_option maxRecDepth 100000 in
set_option maxHeartbeats 2000000 in
theorem size_any (t : Tr) (va vk : Value) (w : World) (hn : NdOn w (fun b => b < w.heap.size) t va vk) (hc : cntT t ≤ 1000000) (hz : szL (seqT 0 t) < 2 ^ 63) :
    Calls Tryz.prog 14 #[ndV t va vk] w fun e w' => e = .returned (.int .i64 (szL (seqT 0 t) : Int)) ∧ Below w.heap.size w w' := by
  obtain ⟨oa, ja, ok, jk, rfl, rfl⟩ := hn.form
  have HN := Lib.hid hn
  clear hn
  have hA := fun (W : World) => all_in (n := 8) Fence.wide trivial rfl t (.slice oa t.ats.length ja) (.slice ok t.ks.length jk) ⟨_, _, _, rfl⟩ ⟨_, _, _, rfl⟩ W
  unfold ndV at hA ⊢
  have HA := fun W => Lib.hid (hA W)
  clear hA
  refine (callsIn_wide (n := 9)).1 ?_
  refine callsIn_of_wp_marks Tryz.func14 rfl trivial ?_ rfl
  simp only [Tryz.ntmps14, List.size_toArray, List.length_cons, List.length_nil, Nat.reduceAdd, Nat.reduceSub, Array.replicate_succ, Array.replicate_zero, List.push_toArray, List.append_toArray, List.nil_append, List.cons_append]
  gi_wp2_with (refine ⟨trivial, ?_⟩; gi_at_call 25; refine (HA _).out.mono ?_; rintro e w' ⟨rfl, rfl⟩)
  obtain ⟨WL, hWL⟩ : ∃ WL, WL = ((w.alloc (.cells #[.int .i64 t.kd, .string (bs t.nm), .string (bs t.tx), .slice oa t.ats.length ja, .slice ok t.ks.length jk] 26)).alloc (.cells #[.int .i64 0] 3)).alloc (.cells #[.int .i64 t.kd, .string (bs t.nm), .string (bs t.tx), .slice oa t.ats.length ja, .slice ok t.ks.length jk] 26) := ⟨_, rfl⟩
  rw [← hWL]
  have hB0 : Below w.heap.size w WL := by rw [hWL]; exact (((Below.refl _ _).alloc (Nat.le_refl _) _).alloc (by simp) _).alloc (by simp; omega) _
  have hsL : WL.heap.size = w.heap.size + 3 := by rw [hWL]; simp
  have hBt : WL.heap[w.heap.size + 2]? = some (.cells #[.int .i64 t.kd, .string (bs t.nm), .string (bs t.tx), .slice oa t.ats.length ja, .slice ok t.ks.length jk] 26 (0, 0)) := by
    rw [hWL]
    have := World.alloc_heap_new ((w.alloc (.cells #[.int .i64 t.kd, .string (bs t.nm), .string (bs t.tx), .slice oa t.ats.length ja, .slice ok t.ks.length jk] 26)).alloc (.cells #[.int .i64 0] 3)) (.cells #[.int .i64 t.kd, .string (bs t.nm), .string (bs t.tx), .slice oa t.ats.length ja, .slice ok t.ks.length jk] 26)
    simpa using this
  have hbx : WL.cell? ⟨w.heap.size + 1, 0, none⟩ = some (.int .i64 0) ∧ WL.frozen? ⟨w.heap.size + 1, 0, none⟩ = false := by rw [hWL]; exact ⟨by go_simp, by go_simp⟩
  refine wpIn_rangeFunc_ownH (F := Fence.wide) (n := 9) rfl (by omega) (gf := 48) (lb := #[.pointer (some ⟨w.heap.size + 2, 0, none⟩)]) rfl trivial (enters_of Tryz.func48 (by kernel_rfl) rfl)
    (all_stops Fence.wide rfl (9 - 1) trivial trivial rfl (w.heap.size + 2) w.heap.size (w.heap.size + 1) w (by omega) t _ _ WL (by omega) hBt HN.out hB0 hc) kpN_t (fun W l o o' hl => kpN_b (by omega) W l o o' hl) (Below.refl _ _) (fun _ => rfl)
    (fun pre W => (W.cell? ⟨w.heap.size + 1, 0, none⟩ = some (.int .i64 (wrap64 (szL (pre.map NdX.key) : Int))) ∧ W.frozen? ⟨w.heap.size + 1, 0, none⟩ = false) ∧ (Below w.heap.size w W ∧ WL.heap.size ≤ W.heap.size))
    (fun _ _ _ => False)
    (OwnFrom.and (Own.from (fun s A B row hs hg hr => ⟨cell_kept hs.1 hg hr, (frozen_kept hs.1 hg hr).trans hs.2⟩) _) (OwnFrom.and (ownFrom_below (Nat.le_refl _) (by omega)) (fun _ _ _ _ hs hg _ => Nat.le_trans hs hg.size)))
    (fun _ _ _ _ _ hs _ _ => hs)
    ⟨⟨hbx.1.trans (by simp [szL, wrap64]), hbx.2⟩, hB0, Nat.le_refl _⟩
    (fun x a' W => ∃ Bx, w.heap.size + 1 < Bx ∧ W.heap[Bx]? = some (.cells #[.int .i64 x.1.2.1.kd, .string (bs x.1.2.1.nm), .string (bs x.1.2.1.tx), x.1.2.2.1, x.1.2.2.2] 26 (0, 0)) ∧ a' = { tmps := #[(.agg #[.int .i64 t.kd, .string (bs t.nm), .string (bs t.tx), .slice oa t.ats.length ja, .slice ok t.ks.length jk]), .pointer (some ⟨w.heap.size, 0, none⟩), .int .i64 0, .pointer (some ⟨w.heap.size + 1, 0, none⟩), undef, .pointer (some ⟨Bx, 0, none⟩), (.agg #[.int .i64 t.kd, .string (bs t.nm), .string (bs t.tx), .slice oa t.ats.length ja, .slice ok t.ks.length jk]), .func (.func 48) #[] #[.pointer (some ⟨w.heap.size + 2, 0, none⟩)], .int .i64 (x.1.1 : Int), ndV x.1.2.1 x.1.2.2.1 x.1.2.2.2, undef, undef, undef, undef, undef, undef, undef, undef, undef, undef, undef], defers := [] })
    (fun x a' _ X Y row hs hg hr => by obtain ⟨Bx, e1, e2, e3⟩ := hs; refine ⟨Bx, e1, (hg.block Bx (Array.getElem?_eq_some_iff.1 e2).1 (fun e => ?_)).trans e2, e3⟩; obtain ⟨_, o, ho, hc⟩ := hr Bx e.symm; rw [e2] at ho; cases ho; cases hc)
    ?assign ?body ?done ?stop
  case assign =>
    rintro l pre ⟨⟨lv, t', va', vk'⟩, hx⟩ W K ⟨⟨hc, hf⟩, hB, hL⟩ hK
    have hx' : NdOn w (fun b => b < w.heap.size) t' va' vk' := hx
    obtain ⟨oa', ja', ok', jk', rfl, rfl⟩ := hx'.form
    simp only [NdX.enc, ndV] at hK ⊢
    gi_wp2
    refine hK _ _ ((KeepsOthers.alloc _ _).from _) (kpN_grow hB.size ((Below.refl _ W).alloc (Nat.le_refl _) _)) ⟨⟨?_, ?_⟩, hB.alloc hB.size _, by simp; omega⟩ ⟨W.heap.size, by omega, World.alloc_heap_new W _, rfl⟩
    · rw [World.cell?_alloc_past _ _ _ (by omega)]; exact hc
    · rw [World.frozen?_alloc_past _ _ _ (by omega)]; exact hf
  case body =>
    rintro l pre ⟨⟨lv, t', va', vk'⟩, hx⟩ a' W hl _ ⟨⟨hc, hf⟩, hB, hL⟩ ⟨Bx, hBx, bX, rfl⟩ hlt
    have hx' : NdOn w (fun b => b < w.heap.size) t' va' vk' := hx
    obtain ⟨oa', ja', ok', jk', rfl, rfl⟩ := hx'.form
    simp only [ndV] at bX ⊢
    have c0 : W.cell? ⟨Bx, 0, none⟩ = some (.int .i64 t'.kd) := by simp [World.cell?, bX]
    have c3 : W.cell? ⟨Bx, 3, none⟩ = some (.slice oa' t'.ats.length ja') := by simp [World.cell?, bX]
    have hK : List.map NdX.key (pre ++ ([(⟨(lv, t', Value.slice oa' t'.ats.length ja', Value.slice ok' t'.ks.length jk'), hx⟩ : NdX w w.heap.size)] : List (NdX w w.heap.size))) = pre.map NdX.key ++ [(lv, t')] := by rw [List.map_append]; rfl
    gi_wp2
    · rename_i h
      have h2 : t'.kd = 2 := by simpa using h
      refine ⟨(KeepsOthers.setCell _ _ _).from _ |>.trans ((KeepsOthers.setCell _ _ _).from _), kpN_t (kpN_setCell (by omega) _ _ _) (kpN_setCell (by omega) _ _ _), ⟨?_, by rw [World.frozen?_setCell, World.frozen?_setCell]; exact hf⟩, (hB.setCell (p := ⟨w.heap.size + 1, 0, none⟩) (by simp) _).setCell (p := ⟨w.heap.size + 1, 0, none⟩) (by simp) _, by simp; omega⟩
      rw [World.cell?_setCell_same' _ _ _ (by rw [World.cell?_setCell_same' _ _ _ (by rw [hc]; rfl)]; rfl), hK, szL_snoc, w64_add, Int.add_assoc, w64_add, wtN, if_pos h2]
      rw [Int.natCast_add, Int.natCast_add]; rfl
    · rename_i h
      have h2 : t'.kd ≠ 2 := by simpa using h
      refine ⟨(KeepsOthers.setCell _ _ _).from _, kpN_setCell (by omega) _ _ _, ⟨?_, by rw [World.frozen?_setCell]; exact hf⟩, hB.setCell (p := ⟨w.heap.size + 1, 0, none⟩) (by simp) _, by simp; omega⟩
      rw [World.cell?_setCell_same' _ _ _ (by rw [hc]; rfl), hK, szL_snoc, w64_add, wtN, if_neg h2]
      push_cast
      rfl
  case done =>
    rintro D ys W hD hys ⟨⟨hc, _⟩, hB, _⟩ hK
    rw [hys, show wrap64 (szL (seqT 0 t) : Int) = (szL (seqT 0 t) : Int) from IntWalk.wrap64_in _ (by omega)] at hc
    gi_wp2
    refine ⟨by simp, .inl ⟨_, _, rfl, run_takeDeferred hK, ?_⟩⟩
    exact ⟨_, results_tmp rfl _ _ _, rfl, hB.trans (belowK_b (w := w) (Nat.le_refl _) W D _ _ (by omega) hK rfl rfl)⟩
  case stop =>
    rintro D c pre W _ _ h _
    exact h.elim
end Go.Proofs.YtognlnjamlhmhaaGreatDoor.Char

/- The walk of the document's own Size. -/
namespace Go.Proofs.YtognlnjamlhmhaaGreatDoor.Char
open Go.RowKit Go.Lib

mutual
/-- how many nodes there are, attributes of elements among them -/
def szT : Tr → Nat
  | .mk kd _ _ ats ks => if kd = 2 then 1 + ats.length + szK ks else 1
def szK : List Tr → Nat
  | [] => 0
  | k :: ks => szT k + szK ks
end
theorem szT_elem {t : Tr} (h : t.kd = 2) : szT t = 1 + t.ats.length + szK t.ks := by
  obtain ⟨kd, nm, tx, ats, ks⟩ := t
  replace h : kd = 2 := h
  rw [szT, if_pos h]
  rfl
theorem szT_leaf {t : Tr} (h : t.kd ≠ 2) : szT t = 1 := by
  obtain ⟨kd, nm, tx, ats, ks⟩ := t
  replace h : kd ≠ 2 := h
  rw [szT, if_neg h]
theorem szK_take : ∀ (ks : List Tr) (j : Nat) (h : j < ks.length), szK (ks.take (j + 1)) = szK (ks.take j) + szT ks[j]
  | [], j, h => by cases h
  | x :: r, 0, h => by simp [szK]
  | x :: r, j + 1, h => by
    have := szK_take r j (by simpa using h)
    simp only [List.take_succ_cons, szK, List.getElem_cons_succ]
    omega
theorem szK_takeLe : ∀ (ks : List Tr) (j : Nat), szK (ks.take j) ≤ szK ks
  | [], j => by simp
  | x :: r, 0 => by simp [szK]
  | x :: r, j + 1 => by
    have := szK_takeLe r j
    simp only [List.take_succ_cons, szK]
    omega
theorem szL_append (a b : List (Nat × Tr)) : szL (a ++ b) = szL a + szL b := by simp [szL]
mutual
theorem szL_seqT : ∀ (lv : Nat) (t : Tr), szL (seqT lv t) = szT t
  | lv, .mk kd nm tx ats ks => by
    rw [seqT, szT]
    split
    · rename_i h
      have := szL_seqK (lv + 1) ks
      rw [show (lv + 1, Tr.mk kd nm tx ats ks) :: seqK (lv + 1) ks = [(lv + 1, Tr.mk kd nm tx ats ks)] ++ seqK (lv + 1) ks from rfl, szL_append, this]
      simp [szL, wtN, Tr.kd, Tr.ats, h]
    · rename_i h
      simp [szL, wtN, Tr.kd, h]
theorem szL_seqK : ∀ (lv : Nat) (ks : List Tr), szL (seqK lv ks) = szK ks
  | lv, [] => by simp [seqK, szK, szL]
  | lv, k :: ks => by
    rw [seqK, szK, szL_append, szL_seqT lv k, szL_seqK lv ks]
end

set_option maxRecDepth 100000 in
set_option maxHeartbeats 4000000 in
theorem refSize_any : ∀ (c : Nat) (t : Tr) (va vk : Value) (w : World) (F : Nat → Prop), cntT t ≤ c → NdOn w F t va vk → szT t < 2 ^ 63 → c ≤ 1000000 →
    Calls Tryz.prog 15 #[ndV t va vk] w fun e w' => e = .returned (.int .i64 (szT t : Int)) ∧ Below w.heap.size w w' := by
  intro c
  induction c with
  | zero => intro t va vk w F hc; have := cntT_pos t; omega
  | succ c ih =>
    intro t va vk w F hc hn hz hm
    obtain ⟨oa, ja, ok, jk, rfl, rfl⟩ := hn.form
    have HN := Lib.hid hn
    have HIH := Lib.hid ih
    obtain ⟨w1, hw1⟩ : ∃ w1, w1 = w.alloc (.cells #[.int .i64 t.kd, .string (bs t.nm), .string (bs t.tx), .slice oa t.ats.length ja, .slice ok t.ks.length jk] 26) := ⟨_, rfl⟩
    have b1 : Below w.heap.size w w1 := by rw [hw1]; exact (Below.refl _ _).alloc (Nat.le_refl _) _
    have s1 : w1.heap.size = w.heap.size + 1 := by rw [hw1]; simp
    have hbk : w1.heap[w.heap.size]? = some (.cells #[.int .i64 t.kd, .string (bs t.nm), .string (bs t.tx), .slice oa t.ats.length ja, .slice ok t.ks.length jk] 26 (0, 0)) := by rw [hw1]; exact World.alloc_heap_new w _
    have hcl : ∀ W, Below w1.heap.size w1 W → W.cell? ⟨w.heap.size, 4, none⟩ = some (.slice ok t.ks.length jk) := fun W hW => by
      have h := (hW.block w.heap.size (by omega)).trans hbk
      simp [World.cell?, h]
    have HCL := Lib.hid hcl
    have HB1 := Lib.hid b1
    have HW1 := Lib.hid hw1
    have hcn := cnt_eq t
    clear hn ih hbk hcl b1
    unfold ndV
    by_cases h2 : t.kd = 2
    · have hz2 := szT_elem h2
      go_enter Tryz.func15, Tryz.ntmps15
      rw [h2]
      go_wp2_with fail
      have hw2 := HW1.out
      rw [h2] at hw2
      rw [← hw2]
      clear hw2 HW1 hw1
      go_loopw [3, 4] (fun m v wr => ∃ j : Nat, v = .int .i64 (j : Int) ∧ j ≤ t.ks.length ∧ m = .int .i64 ((1 + t.ats.length + szK (t.ks.take j) : Nat) : Int) ∧ Below w1.heap.size w1 wr) (fun _ v _ => t.ks.length - (RowKit.intOf v).toNat)
      case atStart => exact ⟨0, rfl, Nat.zero_le _, by simp [szK], Below.refl _ _⟩
      case round =>
        obtain ⟨j, rfl, hj, rfl, hbr⟩ := hrel
        have hq4 := HCL.out _ hbr
        have hcl := cntK_len t.ks
        by_cases hlt : j < t.ks.length
        · obtain ⟨o9, i9, j9, hv9, hi9, hkids⟩ := HN.out.kids
          simp only [Value.slice.injEq] at hv9
          obtain ⟨rfl, rfl, rfl⟩ := hv9
          rcases hkids with h0 | ⟨g, off, rfl, hg, hK⟩
          · rw [h0] at hlt; cases hlt
          obtain ⟨va, vk, hat, hon⟩ := hK.at j hlt
          have hgl : g < w.heap.size := cell_lt hat.1
          have hb0 : Below w.heap.size w wr := HB1.out.trans (hbr.mono (by omega))
          obtain ⟨a0, a1, a2, a3, a4⟩ := hat.move (hb0.block g hgl)
          have hon2 := hon.below hb0
          have hz3 := szK_take t.ks j hlt
          have hz4 := szK_takeLe t.ks (j + 1)
          have hc3 := cntK_at t.ks j hlt
          have hc2 := HIH.out t.ks[j] va vk wr F (by omega) hon2 (by omega) (by omega)
          generalize t.ks[j] = kid at *
          obtain ⟨oa', ja', ok', jk', rfl, rfl⟩ := hon.form
          unfold ndV at hc2
          have HC2 := Lib.hid hc2
          clear hc2 hon hon2 hat hK
          go_wp2_with fail
          refine HC2.out.mono ?_
          rintro e w2 ⟨rfl, hb2⟩
          have hbr2 : Below w1.heap.size w1 w2 := hbr.trans (hb2.mono hbr.size)
          have ha1 : ((1 + t.ats.length + szK (t.ks.take j) : Nat) : Int) + (szT kid : Int) = ((1 + t.ats.length + szK (t.ks.take (j + 1)) : Nat) : Int) := by rw [hz3]; push_cast; omega
          go_wp2_with fail
          go_roundw
          case rel => exact ⟨j + 1, by go_num, by omega, by rw [← ha1]; go_num, hbr2⟩
          case measure => simp [RowKit.intOf]; omega
        · go_wp2_with fail
          go_ret
          have e : j = t.ks.length := by omega
          subst e
          rw [List.take_length]
          exact ⟨by rw [hz2]; rfl, HB1.out.trans (hbr.mono (by omega))⟩
    · have hk : (t.kd == 2) = false := by rw [beq_eq_false_iff_ne]; exact h2
      go_enter Tryz.func15, Tryz.ntmps15
      rw [szT_leaf h2]
      go_wp2_with fail
      rw [← HW1.out]
      go_ret
      exact ⟨rfl, HB1.out⟩
end Go.Proofs.YtognlnjamlhmhaaGreatDoor.Char

/- The walk of the document's own Depth. -/
namespace Go.Proofs.YtognlnjamlhmhaaGreatDoor.Char
open Go.RowKit Go.Lib

mutual
/-- how many elements are in one another -/
def dpT : Tr → Nat
  | .mk kd _ _ _ ks => if kd = 2 then dpK ks + 1 else 0
def dpK : List Tr → Nat
  | [] => 0
  | k :: ks => max (dpT k) (dpK ks)
end
theorem dpT_elem {t : Tr} (h : t.kd = 2) : dpT t = dpK t.ks + 1 := by
  obtain ⟨kd, nm, tx, ats, ks⟩ := t
  replace h : kd = 2 := h
  rw [dpT, if_pos h]
  rfl
theorem dpT_leaf {t : Tr} (h : t.kd ≠ 2) : dpT t = 0 := by
  obtain ⟨kd, nm, tx, ats, ks⟩ := t
  replace h : kd ≠ 2 := h
  rw [dpT, if_neg h]
theorem dpK_take : ∀ (ks : List Tr) (j : Nat) (h : j < ks.length), dpK (ks.take (j + 1)) = max (dpK (ks.take j)) (dpT ks[j])
  | [], j, h => by cases h
  | x :: r, 0, h => by simp [dpK]
  | x :: r, j + 1, h => by
    have := dpK_take r j (by simpa using h)
    simp only [List.take_succ_cons, dpK, List.getElem_cons_succ]
    omega
mutual
theorem dpT_le : ∀ t : Tr, dpT t ≤ cntT t
  | .mk kd nm tx ats ks => by
    have := dpK_le ks
    rw [dpT, cntT]
    split <;> omega
theorem dpK_le : ∀ ks : List Tr, dpK ks ≤ cntK ks
  | [] => by simp [dpK]
  | k :: ks => by
    have h1 := dpT_le k
    have h2 := dpK_le ks
    rw [dpK, cntK]
    omega
end
theorem dpL_append (a b : List (Nat × Tr)) : dpL (a ++ b) = max (dpL a) (dpL b) := by
  induction b generalizing a with
  | nil => simp [dpL]
  | cons x r ih =>
    have h1 := ih (a ++ [x])
    have h2 := ih [x]
    rw [show a ++ [x] ++ r = a ++ x :: r by simp, dpL_snoc] at h1
    rw [h1, show x :: r = [x] ++ r from rfl, h2]
    simp [dpL]
mutual
theorem dpL_seqT : ∀ (lv : Nat) (t : Tr), dpL (seqT lv t) = lv + dpT t
  | lv, .mk kd nm tx ats ks => by
    rw [seqT, dpT]
    split
    · have := dpL_seqK (lv + 1) ks
      rw [show (lv + 1, Tr.mk kd nm tx ats ks) :: seqK (lv + 1) ks = [(lv + 1, Tr.mk kd nm tx ats ks)] ++ seqK (lv + 1) ks from rfl, dpL_append, this]
      simp only [dpL, List.foldl_cons, List.foldl_nil]
      split
      · rename_i h; subst h; simp [dpK]
      · omega
    · simp [dpL]
theorem dpL_seqK : ∀ (lv : Nat) (ks : List Tr), dpL (seqK lv ks) = if ks = [] then 0 else lv + dpK ks
  | lv, [] => by simp [seqK, dpL]
  | lv, k :: ks => by
    have h1 := dpL_seqT lv k
    have h2 := dpL_seqK lv ks
    rw [seqK, dpL_append, h1, h2, dpK]
    cases ks with
    | nil => simp [dpK]
    | cons x r =>
      rw [if_neg (by intro h; cases h), if_neg (by intro h; cases h)]
      omega
end

set_option maxRecDepth 100000 in
set_option maxHeartbeats 4000000 in
theorem refDepth_any : ∀ (c : Nat) (t : Tr) (va vk : Value) (w : World) (F : Nat → Prop), cntT t ≤ c → NdOn w F t va vk → c ≤ 1000000 →
    Calls Tryz.prog 17 #[ndV t va vk] w fun e w' => e = .returned (.int .i64 (dpT t : Int)) ∧ Below w.heap.size w w' := by
  intro c
  induction c with
  | zero => intro t va vk w F hc; have := cntT_pos t; omega
  | succ c ih =>
    intro t va vk w F hc hn hm
    obtain ⟨oa, ja, ok, jk, rfl, rfl⟩ := hn.form
    have HN := Lib.hid hn
    have HIH := Lib.hid ih
    obtain ⟨w1, hw1⟩ : ∃ w1, w1 = w.alloc (.cells #[.int .i64 t.kd, .string (bs t.nm), .string (bs t.tx), .slice oa t.ats.length ja, .slice ok t.ks.length jk] 26) := ⟨_, rfl⟩
    have b1 : Below w.heap.size w w1 := by rw [hw1]; exact (Below.refl _ _).alloc (Nat.le_refl _) _
    have s1 : w1.heap.size = w.heap.size + 1 := by rw [hw1]; simp
    have hbk : w1.heap[w.heap.size]? = some (.cells #[.int .i64 t.kd, .string (bs t.nm), .string (bs t.tx), .slice oa t.ats.length ja, .slice ok t.ks.length jk] 26 (0, 0)) := by rw [hw1]; exact World.alloc_heap_new w _
    have hcl : ∀ W, Below w1.heap.size w1 W → W.cell? ⟨w.heap.size, 4, none⟩ = some (.slice ok t.ks.length jk) := fun W hW => by
      have h := (hW.block w.heap.size (by omega)).trans hbk
      simp [World.cell?, h]
    have HCL := Lib.hid hcl
    have HB1 := Lib.hid b1
    have HW1 := Lib.hid hw1
    have hcn := cnt_eq t
    clear hn ih hbk hcl b1
    unfold ndV
    by_cases h2 : t.kd = 2
    · have hz2 := dpT_elem h2
      go_enter Tryz.func17, Tryz.ntmps17
      rw [h2]
      go_wp2_with fail
      have hw2 := HW1.out
      rw [h2] at hw2
      rw [← hw2]
      clear hw2 HW1 hw1
      go_loopw [3, 4] (fun m v wr => ∃ j : Nat, v = .int .i64 (j : Int) ∧ j ≤ t.ks.length ∧ m = .int .i64 (dpK (t.ks.take j) : Int) ∧ dpK (t.ks.take j) ≤ cntK t.ks ∧ Below w1.heap.size w1 wr) (fun _ v _ => t.ks.length - (RowKit.intOf v).toNat)
      case atStart => exact ⟨0, rfl, Nat.zero_le _, by simp [dpK], by simp [dpK], Below.refl _ _⟩
      case round =>
        obtain ⟨j, rfl, hj, rfl, hdj, hbr⟩ := hrel
        have hq4 := HCL.out _ hbr
        have hcl := cntK_len t.ks
        by_cases hlt : j < t.ks.length
        · obtain ⟨o9, i9, j9, hv9, hi9, hkids⟩ := HN.out.kids
          simp only [Value.slice.injEq] at hv9
          obtain ⟨rfl, rfl, rfl⟩ := hv9
          rcases hkids with h0 | ⟨g, off, rfl, hg, hK⟩
          · rw [h0] at hlt; cases hlt
          obtain ⟨va, vk, hat, hon⟩ := hK.at j hlt
          have hgl : g < w.heap.size := cell_lt hat.1
          have hb0 : Below w.heap.size w wr := HB1.out.trans (hbr.mono (by omega))
          obtain ⟨a0, a1, a2, a3, a4⟩ := hat.move (hb0.block g hgl)
          have hon2 := hon.below hb0
          have hz3 := dpK_take t.ks j hlt
          have hd5 := dpT_le t.ks[j]
          have hc3 := cntK_at t.ks j hlt
          have hc2 := HIH.out t.ks[j] va vk wr F (by omega) hon2 (by omega)
          generalize t.ks[j] = kid at *
          obtain ⟨oa', ja', ok', jk', rfl, rfl⟩ := hon.form
          unfold ndV at hc2
          have HC2 := Lib.hid hc2
          clear hc2 hon hon2 hat hK
          go_wp2_with fail
          refine HC2.out.mono ?_
          rintro e w2 ⟨rfl, hb2⟩
          have hbr2 : Below w1.heap.size w1 w2 := hbr.trans (hb2.mono hbr.size)
          by_cases hgt : dpK (t.ks.take j) < dpT kid
          · rw [Nat.max_eq_right (by omega)] at hz3
            go_wp2_with fail
            go_roundw
            case rel => exact ⟨j + 1, by go_num, by omega, by rw [hz3], by omega, hbr2⟩
            case measure => simp [RowKit.intOf]; omega
          · rw [Nat.max_eq_left (by omega)] at hz3
            go_wp2_with fail
            go_roundw
            case rel => exact ⟨j + 1, by go_num, by omega, by rw [hz3], by omega, hbr2⟩
            case measure => simp [RowKit.intOf]; omega
        · have e : j = t.ks.length := by omega
          subst e
          rw [List.take_length] at hdj ⊢
          go_wp2_with fail
          go_ret
          exact ⟨by rw [hz2]; rfl, HB1.out.trans (hbr.mono (by omega))⟩
    · have hk : (t.kd == 2) = false := by rw [beq_eq_false_iff_ne]; exact h2
      go_enter Tryz.func17, Tryz.ntmps17
      rw [dpT_leaf h2]
      go_wp2_with fail
      rw [← HW1.out]
      go_ret
      exact ⟨rfl, HB1.out⟩
end Go.Proofs.YtognlnjamlhmhaaGreatDoor.Char
