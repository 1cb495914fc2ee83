/- The walk of the program's Sweep. -/
import Derived.Test.YtpimdmjhnogelaaTurn9
import Derived.Test.YtpimdmjhnogelaaCount9
import Derived.Test.YtpimdmjhnogelaaDelete9
import Derived.Test.YtpimdmjhnogelaaRecBox
import Derived.Test.YtpimdmjhnogelaaRoundAny
namespace Go.Proofs.Ytpimdmjhnogelaa.Char
open Go.RowKit Go.Lib Go.Sort Go.Maps
attribute [local go_sem] Oper.semAt_some

/-- what is left of a node's versions -/
def swR (o : Nat) (xs : List VeV) : List VeV := xs.drop (swN o xs)
/-- the versions when some nodes have been swept -/
def Xp (o : Nat) (X : Int → List VeV) (ids : List Int) : Int → List VeV := fun id => if id ∈ ids then swR o (X id) else X id
theorem Xp_nil (o : Nat) (X : Int → List VeV) : Xp o X [] = X := funext fun id => by simp [Xp]
theorem Xp_snoc (o : Nat) (X : Int → List VeV) (ids : List Int) (x : Int) : Xp o X (ids ++ [x]) = setF (Xp o X ids) x (swR o (X x)) := funext fun id => by
  unfold Xp setF
  by_cases h : id = x
  · subst h; simp
  · simp [h]
def sumL (o : Nat) (X : Int → List VeV) (ids : List Int) : Nat := (ids.map fun id => swN o (X id)).sum
theorem sumL_snoc (o : Nat) (X : Int → List VeV) (ids : List Int) (id : Int) : sumL o X (ids ++ [id]) = sumL o X ids + swN o (X id) := by simp [sumL]
theorem swN_le (o : Nat) (xs : List VeV) : swN o xs ≤ xs.length := by
  have := upN_le o xs
  unfold swN
  split
  · omega
  · split <;> omega
theorem sumL_le (o : Nat) (X : Int → List VeV) : ∀ ids : List Int, sumL o X ids ≤ cntL X ids
  | [] => Nat.le_refl _
  | id :: r => by
    have h1 := sumL_le o X r
    have h2 := swN_le o (X id)
    simp only [sumL, cntL, List.map_cons, List.sum_cons] at h1 ⊢
    omega
theorem OwnsVe.some {B : Nat} {w : World} {v : Value} {xs : List VeV} (h : OwnsVe B w v xs) (hne : xs ≠ []) : ∃ g j, v = .slice (some ⟨g, 0, none⟩) xs.length j := by
  rcases h.2 with ⟨_, h1⟩ | ⟨g, cap, cur, e1, _⟩
  · exact absurd (List.eq_nil_of_length_eq_zero h1) hne
  · exact ⟨g, cap, e1⟩
theorem notin_pre {gv : Nat} {X : Int → List VeV} {V : Int → Value} {pre : List (Int × Value)} {x : Int × Value} (h : (pre ++ [x]) <+: xsP gv X V) : x.1 ∉ pre.map (·.1) := by
  have h1 := pre_fst h
  have h2 : ((pre ++ [x]).map (·.1)).Nodup := idsX_nodup.sublist h1.sublist
  rw [List.map_append, List.nodup_append] at h2
  exact fun hm => h2.2.2 _ hm _ (by simp) rfl
/-- between the rounds of a sweep -/
structure SwP (Z : Nat → Prop) (B : Nat) (w : World) (b mb gv lt o : Nat) (V : Int → Value) (X : Int → List VeV) (ids : List Int) (W : World) : Prop where
  st : ∃ D' V', PSt Z B W b mb gv D' V' (Xp o X ids) gv lt ∧ ∀ id, id ∉ ids → V' id = V id
  only : Only B Z w W
  size : w.heap.size + 4 ≤ W.heap.size
  bs_ : W.cell? ⟨w.heap.size, 0, none⟩ = some (.pointer (some ⟨b, 0, none⟩))
  bo : W.cell? ⟨w.heap.size + 1, 0, none⟩ = some (.int .u64 (o : Int))
  bw : W.cell? ⟨w.heap.size + 2, 0, none⟩ = some (.int .i64 (sumL o X ids : Int)) ∧ W.frozen? ⟨w.heap.size + 2, 0, none⟩ = false
  bt : W.cell? ⟨w.heap.size + 3, 0, none⟩ = some (.pointer (some ⟨b, 0, none⟩))
section
variable {Z : Nat → Prop} {B : Nat} {w : World} {b mb gv lt o : Nat} {V : Int → Value} {X : Int → List VeV} {ids : List Int} {W : World}
theorem SwP.move (h : SwP Z B w b mb gv lt o V X ids W) (hB : B ≤ w.heap.size) (hZ : ∀ g, Z g → g < w.heap.size) {W' : World} (hb : ∀ k, k < w.heap.size + 4 → W'.heap[k]? = W.heap[k]?) (hbl : Below (w.heap.size + 4) W W') : SwP Z B w b mb gv lt o V X ids W' := by
  obtain ⟨D', V', h1, h2⟩ := h.st
  have mv : ∀ k v, k < w.heap.size + 4 → W.cell? ⟨k, 0, none⟩ = some v → W'.cell? ⟨k, 0, none⟩ = some v := fun k v hk hv => (World.cell?_of_block (w := W) (a := ⟨k, 0, none⟩) (hb k hk)).trans hv
  exact ⟨⟨D', V', h1.move (fun g hg => hb g (by have := hZ g hg; omega)) hbl.size, h2⟩, ⟨h.only.1.trans (hbl.mono (by omega)), fun k hk hn => (hb k (by omega)).trans (h.only.2 k hk hn)⟩, Nat.le_trans h.size hbl.size, mv _ _ (by omega) h.bs_, mv _ _ (by omega) h.bo, ⟨mv _ _ (by omega) h.bw.1, (World.frozen?_of_block (w := W) (a := ⟨w.heap.size + 2, 0, none⟩) (hb (w.heap.size + 2) (by omega))).trans h.bw.2⟩, mv _ _ (by omega) h.bt⟩
theorem SwP.next (h : SwP Z B w b mb gv lt o V X ids W) (hZ : ∀ g, Z g → g < w.heap.size) {xi : Int} {W5 : World} (hst : ∃ D' V', PSt Z B W5 b mb gv D' V' (Xp o X (ids ++ [xi])) gv lt ∧ ∀ id, id ∉ ids ++ [xi] → V' id = V id)
    (hf : ∀ k, k < W.heap.size → ¬ Z k → k ≠ w.heap.size + 2 → W5.heap[k]? = W.heap[k]?) (hbl : Below B W W5) (hw : W5.cell? ⟨w.heap.size + 2, 0, none⟩ = some (.int .i64 (sumL o X (ids ++ [xi]) : Int))) (hwf : W5.frozen? ⟨w.heap.size + 2, 0, none⟩ = false) : SwP Z B w b mb gv lt o V X (ids ++ [xi]) W5 := by
  have hs := h.size
  have mv : ∀ k v, w.heap.size ≤ k → k < w.heap.size + 4 → k ≠ w.heap.size + 2 → W.cell? ⟨k, 0, none⟩ = some v → W5.cell? ⟨k, 0, none⟩ = some v := fun k v h1 h2 h3 hv => (World.cell?_of_block (w := W) (a := ⟨k, 0, none⟩) (hf k (by omega) (fun hz => by have := hZ k hz; omega) h3)).trans hv
  exact ⟨hst, ⟨h.only.1.trans hbl, fun k hk hn => (hf k (by omega) hn (by omega)).trans (h.only.2 k hk hn)⟩, Nat.le_trans hs hbl.size, mv _ _ (by omega) (by omega) (by omega) h.bs_, mv _ _ (by omega) (by omega) (by omega) h.bo, ⟨hw, hwf⟩, mv _ _ (by omega) (by omega) (by omega) h.bt⟩
theorem SwP.stN (hg : gv ≤ 1000000) {pre : List (Int × Value)} (h : SwP Z B w b mb gv lt o V X (pre.map (·.1)) W) : StN b mb (w.heap.size + 3) (xsP gv X V) pre W := by
  obtain ⟨D', V', h1, h2⟩ := h.st
  refine ⟨h.bt, h1.cells.2.2.2.1, gv, D', h1.own, fun x hx => ?_, fun hp => ?_⟩
  · rw [h1.val, h2 x.1 (notin_pre hx), (xsP_mem (mem_of_pre hx)).1]
  · subst hp
    refine ⟨Nat.le_trans h1.size hg, fun ss hss => ?_⟩
    have := h1.keys hss
    rw [List.map_nil, Xp_nil] at this
    rw [xsP_fst, this]
end
set_option maxRecDepth 100000 in
set_option maxHeartbeats 8000000 in
theorem sweep_any {Z : Nat → Prop} {B : Nat} {w : World} {b mb n : Nat} {D : DataW Value} {V : Int → Value} {X : Int → List VeV} {gv lt : Nat} (h : PSt Z B w b mb n D V X gv lt) (hB : B ≤ w.heap.size) (o : Nat) (hg : gv ≤ 100000) (hc : cntL X (idsX gv X) ≤ 100000) (hl : ∀ id, (X id).length ≤ 100000) :
    Calls Try.prog 13 #[.pointer (some ⟨b, 0, none⟩), .int .u64 (o : Int)] w fun e w' => e = .returned (.int .i64 (sumL o X (idsX gv X) : Int)) ∧ (∃ D' V', PSt Z B w' b mb gv D' V' (Xp o X (idsX gv X)) gv lt) ∧ Only B Z w w' := by
  have HM := Lib.hid (fun (W : World) (hb : Below w.heap.size w W) => (callsIn_wide (n := 19)).2 (made_yes b W (h.below hb).cells.1))
  have HN := fun (W : World) => Lib.hid (nodes_in Fence.wide 19 trivial rfl b W)
  have H := Lib.hid h.tight
  clear h
  refine (callsIn_wide (n := 20)).1 ?_
  refine callsIn_of_wp_marks Try.func13 rfl trivial ?_ rfl
  simp only [Try.ntmps13, List.size_toArray, List.length_cons, List.length_nil, Nat.reduceAdd, Nat.reduceSub, Array.replicate_succ, Array.replicate_zero, List.push_toArray, List.append_toArray, List.nil_append, List.cons_append]
  gi_wp2_with (first
    | (refine ⟨trivial, ?_⟩; gi_at_call 47; refine (HM.out _ (((Below.refl _ _).alloc (Nat.le_refl _) _).alloc (by simp) _)).mono ?_; rintro e w1 ⟨rfl, hw1⟩; rw [hw1]; clear hw1)
    | (refine ⟨trivial, ?_⟩; gi_at_call 48; refine (HN _).out.mono ?_; rintro e w1 ⟨rfl, hw1⟩; rw [hw1]; clear hw1))
  obtain ⟨WL, hWL⟩ : ∃ WL, WL = (((w.alloc (.cells #[.pointer (some ⟨b, 0, none⟩)] 24)).alloc (.cells #[.int .u64 (o : Int)] 23)).alloc (.cells #[.int .i64 0] 3)).alloc (.cells #[.pointer (some ⟨b, 0, none⟩)] 24) := ⟨_, rfl⟩
  rw [← hWL]
  have hB0 : Below w.heap.size w WL := by rw [hWL]; exact ((((Below.refl _ _).alloc (Nat.le_refl _) _).alloc (by simp) _).alloc (by simp; omega) _).alloc (by simp; omega) _
  have hsL : WL.heap.size = w.heap.size + 4 := by rw [hWL]; simp
  have hZ : ∀ g, Z g → g < w.heap.size := fun g hg => (H.out.zB g hg).2
  have hI0 : SwP Z B w b mb gv lt o V X [] WL := by
    refine ⟨⟨D, V, ?_, fun _ _ => rfl⟩, Only.of hB0 hB, by omega, by rw [hWL]; go_simp, by rw [hWL]; go_simp, ⟨by rw [hWL]; go_simp; rfl, by rw [hWL]; go_simp⟩, by rw [hWL]; go_simp⟩
    rw [Xp_nil]
    exact H.out.below hB0
  have HZ := Lib.hid hZ
  refine wpIn_rangeFunc_fix (F := Fence.wide) (n := 20) rfl (by omega) (gf := 73) (lb := #[.pointer (some ⟨w.heap.size + 3, 0, none⟩)]) rfl trivial (enters_of Try.func73 (by kernel_rfl) rfl)
    (nodes1_fix 19 (by omega) b mb (w.heap.size + 3) (xsP gv X V) (Nat.le_trans (xsP_len _ _ _) (by omega)) (xsP_wf (by omega) X V) WL) (Below.refl _ _) (fun _ => rfl)
    (fun _ pre W => SwP Z B w b mb gv lt o V X (pre.map (·.1)) W)
    ?keep ?st ?start (fun x => { tmps := #[.pointer (some ⟨b, 0, none⟩), .int .u64 (o : Int), .pointer (some ⟨w.heap.size, 0, none⟩), .pointer (some ⟨w.heap.size + 1, 0, none⟩), .int .i64 0, .pointer (some ⟨w.heap.size + 2, 0, none⟩), .int .i64 x.1, x.2, undef, .pointer (some ⟨b, 0, none⟩), .bool true, .bool false, .pointer (some ⟨b, 0, none⟩), .func (.func 73) #[] #[.pointer (some ⟨w.heap.size + 3, 0, none⟩)], .int .i64 x.1, x.2, undef, undef, undef, undef, undef, undef, undef, undef, undef, undef, undef, undef, undef, undef, undef, undef, undef, undef, undef, undef, undef, undef, undef, undef], defers := [] })
    ?assign ?body ?done
  case keep =>
    rintro m pre W l o' o2 hi hl _ _ _
    exact hi.move hB hZ (fun k hk => World.putObj_heap_other (by omega)) (below_putObj (Below.refl _ _) (by omega) _)
  case st =>
    rintro m pre W hi
    exact hi.stN (by omega)
  case start =>
    intro W hb
    exact hI0.move hB hZ (fun k hk => hb.block k (by omega)) (by rw [← hsL]; exact hb)
  case assign =>
    rintro l ⟨xi, xv⟩ W K hK
    simp only [encN]
    gi_wp2
    exact hK
  case body =>
    rintro l m pre ⟨xi, xv⟩ W hm hmW hi hpx
    obtain ⟨e0, _, _, hne⟩ := xsP_mem (mem_of_pre hpx)
    have hni := notin_pre hpx
    have hpf := cntL_pre (X := X) (pre_fst hpx)
    rw [List.map_append, List.map_cons, List.map_nil, cntL_snoc] at hpf
    dsimp only at e0 hne hni hpf
    subst e0
    obtain ⟨D', V', hst, hV'⟩ := hi.st
    have hXe : Xp o X (pre.map (·.1)) xi = X xi := if_neg hni
    have hrow := hst.row xi
    rw [hXe, hV' xi hni] at hrow
    obtain ⟨g, j, hV⟩ := hrow.some hne
    have hon := hst.on xi
    rw [hXe, hV' xi hni, hV] at hon
    have hup : upX (X xi) := by have := hst.ups xi; rwa [hXe] at this
    have hsw := swept_any o (X xi) Z (some ⟨g, 0, none⟩) j W hup (Nat.le_trans (hl xi) (by decide)) hon
    have hle := swN_le o (X xi)
    have hsl := sumL_le o X (pre.map (·.1))
    have HP : Hid ((pre ++ [(xi, V xi)]).map (·.1) = pre.map (·.1) ++ [xi]) := Lib.hid (by simp)
    have HS := Lib.hid ((callsIn_wide (n := 17)).2 hsw)
    rw [hV]
    obtain ⟨k, hk⟩ : ∃ k, swN o (X xi) = k := ⟨_, rfl⟩
    rw [hk] at HS hle
    have hwf := wf_small (x := xi) (hst.ids xi (by rw [hXe]; exact hne)).1 (by have := (hst.ids xi (by rw [hXe]; exact hne)).2; omega)
    have HI := Lib.hid hi
    have HST := Lib.hid hst
    have HV' := Lib.hid hV'
    have HXE := Lib.hid hXe
    have HROW := Lib.hid hrow
    have HK := Lib.hid hk
    have HUP := Lib.hid hup
    have HV := Lib.hid hV
    have c1 := hi.bo
    clear hpx hi hst hV' hXe hrow hon hup hsw hk hV
    by_cases hkl : k = (X xi).length
    · subst hkl
      gi_wp2_with (first
        | (refine ⟨trivial, ?_⟩
           gi_at_call 51
           refine HS.out.mono ?_
           rintro e w1 ⟨rfl, hb1⟩
           have hw1 := hb1.size
           have hi1 := HI.out.move hB HZ.out (fun q hq => hb1.block q (by omega)) (hb1.mono (by omega))
           have d0 := hi1.bs_
           have d2 := hi1.bw.1
           have d2f := hi1.bw.2
           have hst1 := HST.out.below hb1
           have d3 := hst1.cells.2.2.2.1
           obtain ⟨W2, hW2⟩ : ∃ W2, W2 = w1.setCell ⟨w.heap.size + 2, 0, none⟩ (.int .i64 ((sumL o X (pre.map (·.1)) : Int) + ((X xi).length : Int))) := ⟨_, rfl⟩
           have hst2 : PSt Z B W2 b mb gv D' V' (Xp o X (pre.map (·.1))) gv lt := hst1.move (fun g hg => by rw [hW2]; exact heap_set_ne (by have := HZ.out g hg; simp; omega)) (by rw [hW2, World.size_setCell]; exact Nat.le_refl _)
           obtain ⟨w5, hrun, how, hturn⟩ := hst2.own.drop law_int Try.underlying88 (key_int hwf) 0
           have HW2 := Lib.hid hW2
           rw [hW2] at hrun
           have HST2 := Lib.hid hst2
           have HHOW := Lib.hid how
           have HTU := Lib.hid hturn
           have HB1 := Lib.hid hb1
           have HI1 := Lib.hid hi1
           clear hi1 hst1 hb1 hst2 how hturn hW2)
        | fail)
      have hg5 := HTU.out.grown
      have hs5 := hg5.size
      have hs2 : W2.heap.size = w1.heap.size := by rw [HW2.out, World.size_setCell]
      have hmz := HST.out.zo mb (.inr (.inl rfl))
      have hml := HZ.out mb hmz
      have hfr : ∀ q, q ≠ w.heap.size + 2 → q ≠ mb → q < W.heap.size → w5.heap[q]? = W.heap[q]? := fun q q1 q2 q3 => by
        rw [hg5.block q (by omega) (fun e => q2 (by cases e; rfl)), HW2.out, heap_set_ne q1]
        exact HB1.out.block q q3
      have ht := HST2.out.turn (Z' := Z) (id := xi) (v1 := nilV) (ys := []) (OwnsVe.nil _ _) (fun _ _ _ => rfl) (Nat.le_refl _) (fun g hg => by cases hg) (fun _ hg => hg) (fun g hg => ⟨(HST.out.zB g hg).1, by have := HZ.out g hg; omega⟩) (fun x hx => by cases hx) List.Pairwise.nil (fun e => absurd rfl e) HHOW.out (fun q => by rw [has_del]; rfl) (fun q => by rw [val_del]) (fun q q1 q2 => hg5.block q q1 (fun e => q2 (by cases e; rfl)))
      have hX2 : setF (Xp o X (pre.map (·.1))) xi [] = Xp o X (pre.map (·.1) ++ [xi]) := by
        rw [Xp_snoc]
        congr 1
        unfold swR
        rw [HK.out, List.drop_length]
      rw [hX2] at ht
      have hcell : w5.heap[w.heap.size + 2]? = W2.heap[w.heap.size + 2]? := hg5.block _ (by omega) (fun e => absurd (Option.some.inj e) (by omega))
      have hB5 : Below B W w5 := by
        refine Below.grown (w := W2) ?_ hg5 (by omega) (fun q hq => by cases hq; exact (HST.out.zB _ hmz).1)
        rw [HW2.out]
        exact (HB1.out.mono (by omega)).setCell (p := ⟨w.heap.size + 2, 0, none⟩) (by simp; omega) _
      have hnx := HI.out.next HZ.out (xi := xi) (W5 := w5) ⟨_, _, ht, fun id hid => ?_⟩ (fun q q1 q2 q3 => hfr q q3 (fun e => q2 (e ▸ hmz)) q1) hB5 ?_ ?_
      · exact ⟨by show SwP Z B w b mb gv lt o V X (List.map (fun x => x.1) (pre ++ [(xi, Value.slice (some ⟨g, 0, none⟩) (X xi).length j)])) w5; rw [List.map_append]; exact hnx, by omega, fun q q1 q2 => hfr q (by omega) (by omega) (by omega)⟩
      · rw [List.mem_append, List.mem_singleton, not_or] at hid
        rw [setF_ne hid.2]
        exact HV'.out id hid.1
      · rw [World.cell?_of_block (w := W2) (w' := w5) (a := ⟨w.heap.size + 2, 0, none⟩) hcell, HW2.out, World.cell?_setCell_same' _ _ _ (by rw [d2]; rfl), sumL_snoc, HK.out, Int.natCast_add]
      · rw [World.frozen?_of_block (w := W2) (w' := w5) (a := ⟨w.heap.size + 2, 0, none⟩) hcell, HW2.out, World.frozen?_setCell]
        exact d2f
    · have k1 : ((k : Int) == ((X xi).length : Int)) = false := by rw [beq_eq_false_iff_ne]; omega
      gi_wp2_with fail
      refine ⟨trivial, ?_⟩
      refine HS.out.mono ?_
      rintro e w1 ⟨rfl, hb1⟩
      have hw1 := hb1.size
      have hi1 := HI.out.move hB HZ.out (fun q hq => hb1.block q (by omega)) (hb1.mono (by omega))
      have d0 := hi1.bs_
      have d2 := hi1.bw.1
      have d2f := hi1.bw.2
      have hst1 := HST.out.below hb1
      have d3 := hst1.cells.2.2.2.1
      obtain ⟨W2, hW2⟩ : ∃ W2, W2 = w1.setCell ⟨w.heap.size + 2, 0, none⟩ (.int .i64 ((sumL o X (pre.map (·.1)) : Int) + (k : Int))) := ⟨_, rfl⟩
      have hst2 : PSt Z B W2 b mb gv D' V' (Xp o X (pre.map (·.1))) gv lt := hst1.move (fun g hg => by rw [hW2]; exact heap_set_ne (by have := HZ.out g hg; simp; omega)) (by rw [hW2, World.size_setCell]; exact Nat.le_refl _)
      have hrow2 := hst2.row xi
      rw [HXE.out, HV'.out xi hni, HV.out] at hrow2
      have HD := Lib.hid ((callsIn_wide (n := 17)).2 (delete_any (B := B) (w := W2.drew) g j (X xi) k hrow2 (by omega) (Nat.le_trans (hl xi) (by decide)) (fun x hx => (hst2.rcs xi x (by rw [HXE.out]; exact hx)).slices)))
      have HW2 := Lib.hid hW2
      have HST2 := Lib.hid hst2
      have HB1 := Lib.hid hb1
      have HI1 := Lib.hid hi1
      clear hi1 hst1 hb1 hst2 hW2 hrow2
      gi_wp2_with fail
      rw [← HW2.out]
      have hs2 : W2.heap.size = w1.heap.size := by rw [HW2.out, World.size_setCell]
      have hmz := HST.out.zo mb (.inr (.inl rfl))
      have hgz : Z g := HST.out.zo g (.inr (.inr ⟨xi, by rw [HV'.out xi hni, HV.out]; rfl⟩))
      have hgl := HZ.out g hgz
      have hml := HZ.out mb hmz
      have hbl := H.out.lt'
      have hgb : g ≠ b := fun e => HST2.out.ne_b xi (by rw [HV'.out xi hni, HV.out, e]; rfl)
      have hgm : g ≠ mb := fun e => HST2.out.ne_m xi (by rw [HV'.out xi hni, HV.out, e]; rfl)
      have e0 : W2.cell? ⟨w.heap.size, 0, none⟩ = some (.pointer (some ⟨b, 0, none⟩)) := by
        rw [← d0, HW2.out]
        exact World.cell?_of_block (a := ⟨w.heap.size, 0, none⟩) (heap_set_ne (by simp))
      have e3 := HST2.out.cells.2.2.2.1
      have FIN : Hid (∀ w4 w5, OwnsVe B w4 (.slice (some ⟨g, 0, none⟩) ((X xi).length - k) j) ((X xi).drop k) → Below B W2.drew w4 → (∀ i, i ≠ g → w4.heap[i]? = W2.drew.heap[i]?) → w5.ownsMap Try.prog 3 heldE mb (gv + 1) (D'.put (kI xi) (.held (.slice (some ⟨g, 0, none⟩) ((X xi).length - k) j))) → w4.mapTurned w5 mb →
          SwP Z B w b mb gv lt o V X (List.map (fun x => x.1) (pre ++ [(xi, Value.slice (some ⟨g, 0, none⟩) (X xi).length j)])) w5 ∧ m ≤ w5.heap.size ∧ ∀ q, WL.heap.size ≤ q → q < m → w5.heap[q]? = W.heap[q]?) := Lib.hid fun w4 w5 hrow4 hb4 hf4 how hturn => by
        have hg5 := hturn.grown
        have hs5 := hg5.size
        have hs4 : W2.heap.size ≤ w4.heap.size := hb4.size
        have hfr : ∀ q, q ≠ w.heap.size + 2 → q ≠ mb → q ≠ g → q < W.heap.size → w5.heap[q]? = W.heap[q]? := fun q q1 q2 q3 q4 => by
          have a1 := hg5.block q (by omega) (fun e => q2 (by cases e; rfl))
          have a2 : w4.heap[q]? = W2.heap[q]? := hf4 q q3
          rw [a1, a2, HW2.out, heap_set_ne q1]
          exact HB1.out.block q q4
        have hXe := HXE.out
        have hVe := HV'.out xi hni
        have ht := HST2.out.turn (Z' := Z) (w1 := w4) (id := xi) (v1 := .slice (some ⟨g, 0, none⟩) ((X xi).length - k) j) (ys := (X xi).drop k) hrow4 (fun q q1 q2 => hf4 q (fun e => q2 (by rw [hVe, HV.out, e]; rfl))) hs4 (fun q hq => .inl (by rw [hVe, HV.out]; exact hq)) (fun _ hg => hg) (fun q hq => ⟨(HST.out.zB q hq).1, by have := HZ.out q hq; omega⟩)
          (fun x hx => .inl (by rw [hXe]; exact List.mem_of_mem_drop hx)) (List.Pairwise.sublist (List.drop_sublist _ _) HUP.out) (fun _ => HST.out.ids xi (by rw [hXe]; exact hne)) how
          (fun q => by
            rw [has_put HST.out.own.isMap]
            have he : ((X xi).drop k).isEmpty = false := by
              cases hd : (X xi).drop k with
              | nil => have := congrArg List.length hd; rw [List.length_drop] at this; simp at this; omega
              | cons a r => rfl
            rw [he]; rfl) (fun q => by rw [val_put HST.out.own.isMap]) (fun q q1 q2 => hg5.block q q1 (fun e => q2 (by cases e; rfl)))
        have hX2 : setF (Xp o X (pre.map (·.1))) xi ((X xi).drop k) = Xp o X (pre.map (·.1) ++ [xi]) := by
          rw [Xp_snoc]
          unfold swR
          rw [HK.out]
        rw [hX2] at ht
        have hcell : w5.heap[w.heap.size + 2]? = W2.heap[w.heap.size + 2]? := (hg5.block (w.heap.size + 2) (by omega) (fun e => absurd (Option.some.inj e) (by omega))).trans (hf4 (w.heap.size + 2) (by omega))
        have hB2 : Below B W W2 := by
          rw [HW2.out]
          exact (HB1.out.mono (by omega)).setCell (p := ⟨w.heap.size + 2, 0, none⟩) (by simp; omega) _
        have hB5 : Below B W w5 := (hB2.drew.trans hb4).grown hg5 (by omega) (fun q hq => by cases hq; exact (HST.out.zB _ hmz).1)
        have hnx := HI.out.next HZ.out (xi := xi) (W5 := w5) ⟨_, _, ht.tight, fun id hid => ?_⟩ (fun q q1 q2 q3 => hfr q q3 (fun e => q2 (e ▸ hmz)) (fun e => q2 (e ▸ hgz)) q1) hB5 ?_ ?_
        · exact ⟨by rw [List.map_append]; exact hnx, by omega, fun q q1 q2 => hfr q (by omega) (by omega) (by omega) (by omega)⟩
        · rw [List.mem_append, List.mem_singleton, not_or] at hid
          rw [setF_ne hid.2]
          exact HV'.out id hid.1
        · rw [World.cell?_of_block (w := W2) (w' := w5) (a := ⟨w.heap.size + 2, 0, none⟩) hcell, HW2.out, World.cell?_setCell_same' _ _ _ (by rw [d2]; rfl), sumL_snoc, HK.out, Int.natCast_add]
        · rw [World.frozen?_of_block (w := W2) (w' := w5) (a := ⟨w.heap.size + 2, 0, none⟩) hcell, HW2.out, World.frozen?_setCell]
          exact d2f
      refine wpIn_region_round (by kernel_rfl) (by kernel_rfl) ?_
      change wpAnyIn _ _ _ _ _ _ _ _ _ W2.drew
      refine wpAnyIn_take (i := 4) (v := (.int .i64 xi)) rfl rfl (by kernel_rfl) (by kernel_rfl) (by kernel_rfl) (fun _ _ _ h => h) ⟨Or.inl ⟨by rfl, fun w => by go_simp⟩, fun _ => rfl⟩ ?_
      refine wpAnyIn_take (i := 5) (v := (.slice (some ⟨g, 0, none⟩) (X xi).length j)) rfl rfl (by kernel_rfl) (by kernel_rfl) (by kernel_rfl) (fun _ _ _ h => h) ⟨Or.inl ⟨by rfl, fun w => by go_simp⟩, fun _ => rfl⟩ ?_
      refine wpAnyIn_take (i := 6) (v := (.int .i64 (k : Int))) rfl rfl (by kernel_rfl) (by kernel_rfl) (by kernel_rfl) (fun _ _ _ h => h) ⟨Or.inl ⟨by rfl, fun w => by go_simp⟩, fun _ => rfl⟩ ?_
      refine wpAnyIn_ready (rs := [0, 7]) (by kernel_rfl) (by simp) ?_
      refine AllReadyIn.cons rfl (fun K hK => ?_) (AllReadyIn.cons rfl (fun K hK => ?_) AllReadyIn.nil)
      · go_simp
        refine hK _ _ ?_
        clear hK K
        refine wpAnyIn_take (i := 1) (v := (.pointer (some ⟨b, 0, none⟩))) rfl rfl (by kernel_rfl) (by kernel_rfl) (by kernel_rfl) (fun _ _ _ h => h) ⟨Or.inl ⟨by rfl, fun w => by go_simp⟩, fun _ => rfl⟩ ?_
        refine wpAnyIn_take (i := 2) (v := (.pointer (some ⟨b, 3, none⟩))) rfl rfl (by kernel_rfl) (by kernel_rfl) (by kernel_rfl) (fun _ _ _ h => h) ⟨Or.inl ⟨by rfl, fun w => by go_simp⟩, fun _ => rfl⟩ ?_
        refine wpAnyIn_ready (rs := [3, 7]) (by kernel_rfl) (by simp) ?_
        refine AllReadyIn.cons rfl (fun K hK => ?_) (AllReadyIn.cons rfl (fun K hK => ?_) AllReadyIn.nil)
        · go_simp
          refine hK _ _ ?_
          clear hK K
          refine wpAnyIn_ready (rs := [7]) (by kernel_rfl) (by simp) ?_
          refine AllReadyIn.cons rfl (fun K hK => ?_) AllReadyIn.nil
          go_simp
          refine ⟨trivial, ?_⟩
          refine HD.out.mono ?_
          rintro e w4 ⟨rfl, hrow4, hb4, hf4⟩
          refine hK _ _ ?_
          clear hK K
          have f0 : w4.cell? ⟨w.heap.size, 0, none⟩ = some (.pointer (some ⟨b, 0, none⟩)) := (World.cell?_of_block (w := W2.drew) (a := ⟨w.heap.size, 0, none⟩) (hf4 w.heap.size (by omega))).trans e0
          have f3 : w4.cell? ⟨b, 3, none⟩ = some (.map (some mb)) := (World.cell?_of_block (w := W2.drew) (a := ⟨b, 3, none⟩) (hf4 b (Ne.symm hgb))).trans e3
          obtain ⟨es, clock, q0, q1, q2, q3⟩ := HST2.out.own
          have own4 : w4.ownsMap Try.prog 3 heldE mb gv D' := ⟨es, clock, (hf4 mb (Ne.symm hgm)).trans q0, q1, q2, q3⟩
          obtain ⟨w5, hrun, how, hturn⟩ := own4.store law_int Try.underlying88 (by unfold maxLen; omega) (key_int hwf) (show heldE (.slice (some ⟨g, 0, none⟩) ((X xi).length - k) j) = some (.held (.slice (some ⟨g, 0, none⟩) ((X xi).length - k) j), []) from rfl)
          have HROW4 := Lib.hid hrow4
          have HB4 := Lib.hid hb4
          have HF4 := Lib.hid hf4
          have HHOW := Lib.hid how
          have HTU := Lib.hid hturn
          clear hrow4 hb4 hf4 q0 q1 q2 q3 own4 how hturn
          refine wpAnyIn_ready (rs := [8]) (by kernel_rfl) (by simp) ?_
          refine AllReadyIn.cons rfl (fun K hK => ?_) AllReadyIn.nil
          go_simp
          refine hK _ _ ?_
          clear hK K
          refine wpAnyIn_done (by kernel_rfl) ?_ _
          exact FIN.out w4 w5 HROW4.out HB4.out HF4.out HHOW.out HTU.out
        · go_simp
          refine ⟨trivial, ?_⟩
          refine HD.out.mono ?_
          rintro e w4 ⟨rfl, hrow4, hb4, hf4⟩
          refine hK _ _ ?_
          clear hK K
          have f0 : w4.cell? ⟨w.heap.size, 0, none⟩ = some (.pointer (some ⟨b, 0, none⟩)) := (World.cell?_of_block (w := W2.drew) (a := ⟨w.heap.size, 0, none⟩) (hf4 w.heap.size (by omega))).trans e0
          have f3 : w4.cell? ⟨b, 3, none⟩ = some (.map (some mb)) := (World.cell?_of_block (w := W2.drew) (a := ⟨b, 3, none⟩) (hf4 b (Ne.symm hgb))).trans e3
          obtain ⟨es, clock, q0, q1, q2, q3⟩ := HST2.out.own
          have own4 : w4.ownsMap Try.prog 3 heldE mb gv D' := ⟨es, clock, (hf4 mb (Ne.symm hgm)).trans q0, q1, q2, q3⟩
          obtain ⟨w5, hrun, how, hturn⟩ := own4.store law_int Try.underlying88 (by unfold maxLen; omega) (key_int hwf) (show heldE (.slice (some ⟨g, 0, none⟩) ((X xi).length - k) j) = some (.held (.slice (some ⟨g, 0, none⟩) ((X xi).length - k) j), []) from rfl)
          have HROW4 := Lib.hid hrow4
          have HB4 := Lib.hid hb4
          have HF4 := Lib.hid hf4
          have HHOW := Lib.hid how
          have HTU := Lib.hid hturn
          clear hrow4 hb4 hf4 q0 q1 q2 q3 own4 how hturn
          refine wpAnyIn_ready (rs := [3]) (by kernel_rfl) (by simp) ?_
          refine AllReadyIn.cons rfl (fun K hK => ?_) AllReadyIn.nil
          go_simp
          refine hK _ _ ?_
          clear hK K
          refine wpAnyIn_ready (rs := [8]) (by kernel_rfl) (by simp) ?_
          refine AllReadyIn.cons rfl (fun K hK => ?_) AllReadyIn.nil
          go_simp
          refine hK _ _ ?_
          clear hK K
          refine wpAnyIn_done (by kernel_rfl) ?_ _
          exact FIN.out w4 w5 HROW4.out HB4.out HF4.out HHOW.out HTU.out
      · go_simp
        refine ⟨trivial, ?_⟩
        refine HD.out.mono ?_
        rintro e w4 ⟨rfl, hrow4, hb4, hf4⟩
        refine hK _ _ ?_
        clear hK K
        have f0 : w4.cell? ⟨w.heap.size, 0, none⟩ = some (.pointer (some ⟨b, 0, none⟩)) := (World.cell?_of_block (w := W2.drew) (a := ⟨w.heap.size, 0, none⟩) (hf4 w.heap.size (by omega))).trans e0
        have f3 : w4.cell? ⟨b, 3, none⟩ = some (.map (some mb)) := (World.cell?_of_block (w := W2.drew) (a := ⟨b, 3, none⟩) (hf4 b (Ne.symm hgb))).trans e3
        obtain ⟨es, clock, q0, q1, q2, q3⟩ := HST2.out.own
        have own4 : w4.ownsMap Try.prog 3 heldE mb gv D' := ⟨es, clock, (hf4 mb (Ne.symm hgm)).trans q0, q1, q2, q3⟩
        obtain ⟨w5, hrun, how, hturn⟩ := own4.store law_int Try.underlying88 (by unfold maxLen; omega) (key_int hwf) (show heldE (.slice (some ⟨g, 0, none⟩) ((X xi).length - k) j) = some (.held (.slice (some ⟨g, 0, none⟩) ((X xi).length - k) j), []) from rfl)
        have HROW4 := Lib.hid hrow4
        have HB4 := Lib.hid hb4
        have HF4 := Lib.hid hf4
        have HHOW := Lib.hid how
        have HTU := Lib.hid hturn
        clear hrow4 hb4 hf4 q0 q1 q2 q3 own4 how hturn
        refine wpAnyIn_ready (rs := [0]) (by kernel_rfl) (by simp) ?_
        refine AllReadyIn.cons rfl (fun K hK => ?_) AllReadyIn.nil
        go_simp
        refine hK _ _ ?_
        clear hK K
        refine wpAnyIn_take (i := 1) (v := (.pointer (some ⟨b, 0, none⟩))) rfl rfl (by kernel_rfl) (by kernel_rfl) (by kernel_rfl) (fun _ _ _ h => h) ⟨Or.inl ⟨by rfl, fun w => by go_simp⟩, fun _ => rfl⟩ ?_
        refine wpAnyIn_take (i := 2) (v := (.pointer (some ⟨b, 3, none⟩))) rfl rfl (by kernel_rfl) (by kernel_rfl) (by kernel_rfl) (fun _ _ _ h => h) ⟨Or.inl ⟨by rfl, fun w => by go_simp⟩, fun _ => rfl⟩ ?_
        refine wpAnyIn_ready (rs := [3]) (by kernel_rfl) (by simp) ?_
        refine AllReadyIn.cons rfl (fun K hK => ?_) AllReadyIn.nil
        go_simp
        refine hK _ _ ?_
        clear hK K
        refine wpAnyIn_ready (rs := [8]) (by kernel_rfl) (by simp) ?_
        refine AllReadyIn.cons rfl (fun K hK => ?_) AllReadyIn.nil
        go_simp
        refine hK _ _ ?_
        clear hK K
        refine wpAnyIn_done (by kernel_rfl) ?_ _
        exact FIN.out w4 w5 HROW4.out HB4.out HF4.out HHOW.out HTU.out
  case done =>
    rintro D1 m W hD hi hK
    rw [xsP_fst] at hi
    obtain ⟨c1, _⟩ := hi.bw
    gi_wp2
    refine ⟨by simp, .inl ⟨_, _, rfl, run_takeDeferred hK, ?_⟩⟩
    refine ⟨_, results_tmp rfl _ _ _, rfl, ?_⟩
    have hfin := hi.move hB hZ (W' := W.putObj D1 (.deferred none)) (fun k hk => World.putObj_heap_other (by omega)) (below_putObj (Below.refl _ _) (by omega) _)
    obtain ⟨D', V', h1, _⟩ := hfin.st
    exact ⟨⟨D', V', h1⟩, hfin.only⟩
end Go.Proofs.Ytpimdmjhnogelaa.Char
