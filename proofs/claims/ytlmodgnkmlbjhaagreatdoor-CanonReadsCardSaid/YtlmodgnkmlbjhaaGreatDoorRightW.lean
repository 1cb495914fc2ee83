import Derived.Test.YtlmodgnkmlbjhaaGreatDoorPkRtA
import Derived.Test.YtlmodgnkmlbjhaaGreatDoorPkSeq
namespace Go.Proofs.YtlmodgnkmlbjhaaGreatDoor
set_option maxHeartbeats 4000000
set_option maxRecDepth 100000
namespace Char
open Go.RowKit Go.Lib Go.Shelf
attribute [local go_sem] Oper.semAt_some
theorem wtR_snoc (l : List (Nat × Tr)) (x : Nat × Tr) : wtR (l ++ [x]) = wtR l + (1 + x.2.ats.length) := by simp [wtR]
def goneR (l : List (Nat × Tr)) : Prop := wtR l ≤ 120 ∧ ∀ rest, runR (l ++ rest) 0 = runR rest (wtR l)
def badR (l : List (Nat × Tr)) : Prop := ∀ rest, runR (l ++ rest) 0 = false
theorem goneR_nil : goneR [] := ⟨by simp [wtR], fun rest => by simp [wtR]⟩
theorem goneR_snoc {l : List (Nat × Tr)} {x : Nat × Tr} (h : goneR l) (h1 : x.1 ≤ 12) (h2 : wtR l + (1 + x.2.ats.length) ≤ 120) (h3 : fitT x.2 = true) : goneR (l ++ [x]) := by
 refine ⟨by rw [wtR_snoc]; exact h2, fun rest => ?_⟩
 rw [List.append_assoc, h.2, wtR_snoc]
 show runR (x :: rest) _ = _
 rw [runR, if_neg]
 ·rw [Nat.add_assoc]
 ·rintro (h | h | h)
  ·omega
  ·omega
  ·rw [h3] at h; cases h
theorem badR_snoc {l : List (Nat × Tr)} {x : Nat × Tr} (h : goneR l) (h1 : 12 < x.1 ∨ 120 < wtR l + (1 + x.2.ats.length) ∨ fitT x.2 = false) : badR (l ++ [x]) := by
 intro rest
 rw [List.append_assoc, h.2]
 show runR (x :: rest) _ = _
 rw [runR, if_pos]
 rcases h1 with h | h | h
 ·exact .inl h
 ·exact .inr (.inl (by omega))
 ·exact .inr (.inr h)
theorem keeps_below {W W' : World} (h : Below W.heap.size W W') : KeepsOthers W W' := ⟨h.size, fun k _ hk _ => (h.block k (Array.getElem?_eq_some_iff.1 hk).1).trans hk⟩
theorem right_any (t : Tr) (va vk : Value) (w : World) (hn : NdOn w (fun b => b < w.heap.size) t va vk) (hc : cntT t ≤ 1000000) (hfb : ∀ x, x ∈ seqT 0 t → FitB x.2) (hG : Gl6 w) :
  Calls Tryz.prog 17 #[ndV t va vk] w fun e w' => e = .returned (.bool (rightP t)) ∧ Below w.heap.size w w' := by
 obtain ⟨oa, ja, ok, jk, rfl, rfl⟩ := hn.form
 have HN := hid hn
 have HG := hid hG
 have HFB := hid hfb
 clear hn hG hfb
 have hA := fun (W : World) => all_in (n := 8) Fence.wide trivial rfl t (.slice oa t.ats.length ja) (.slice ok t.ks.length jk) ⟨_, _, _, rfl⟩ ⟨_, _, _, rfl⟩ W
 unfold ndV at hA ⊢
 have HA := fun W => hid (hA W)
 clear hA
 by_cases h2 : t.kd = 2
 ·have k2 : (t.kd != 2) = false := by simp [h2]
  have H2 := hid h2
  clear h2
  refine (callsIn_wide (n := 9)).1 ?_
  refine callsIn_of_wp_marks Tryz.func17 rfl trivial ?_ rfl
  simp only [Tryz.ntmps17, List.size_toArray, List.length_cons, List.length_nil, Nat.reduceAdd, Nat.reduceSub, Array.replicate_succ, Array.replicate_zero, List.push_toArray, List.append_toArray, List.nil_append, List.cons_append]
  gi_wp2_with (refine ⟨trivial, ?_⟩; gi_at_call 26; refine (HA _).out.mono ?_; rintro e w' ⟨rfl, rfl⟩)
  obtain ⟨WL, hWL⟩ : ∃ WL, WL = (((w.alloc (.cells #[.int .i64 t.kd, .string (bs t.nm), .string (bs t.tx), .slice oa t.ats.length ja, .slice ok t.ks.length jk] 25)).alloc (.cells #[.bool false] 4)).alloc (.cells #[.int .i64 0] 3)).alloc (.cells #[.int .i64 t.kd, .string (bs t.nm), .string (bs t.tx), .slice oa t.ats.length ja, .slice ok t.ks.length jk] 25) := ⟨_, rfl⟩
  rw [← hWL]
  have hB0 : Below w.heap.size w WL := by rw [hWL]; exact ((((Below.refl _ _).alloc (Nat.le_refl _) _).alloc (by simp) _).alloc (by simp; omega) _).alloc (by simp; omega) _
  have hsL : WL.heap.size = w.heap.size + 4 := by rw [hWL]; simp
  have hBt : WL.heap[w.heap.size + 3]? = some (.cells #[.int .i64 t.kd, .string (bs t.nm), .string (bs t.tx), .slice oa t.ats.length ja, .slice ok t.ks.length jk] 25 (0, 0)) := by
   rw [hWL]
   have := World.alloc_heap_new (((w.alloc (.cells #[.int .i64 t.kd, .string (bs t.nm), .string (bs t.tx), .slice oa t.ats.length ja, .slice ok t.ks.length jk] 25)).alloc (.cells #[.bool false] 4)).alloc (.cells #[.int .i64 0] 3)) (.cells #[.int .i64 t.kd, .string (bs t.nm), .string (bs t.tx), .slice oa t.ats.length ja, .slice ok t.ks.length jk] 25)
   simpa using this
  have hbx : WL.cell? ⟨w.heap.size + 2, 0, none⟩ = some (.int .i64 0) ∧ WL.frozen? ⟨w.heap.size + 2, 0, none⟩ = false := by rw [hWL]; exact ⟨by go_simp, by go_simp⟩
  have hrx : WL.cell? ⟨w.heap.size + 1, 0, none⟩ = some (.bool false) ∧ WL.frozen? ⟨w.heap.size + 1, 0, none⟩ = false := by rw [hWL]; exact ⟨by go_simp, by go_simp⟩
  refine wpIn_rangeFunc_ownH (F := Fence.wide) (n := 9) rfl (by omega) (gf := 35) (lb := #[.pointer (some ⟨w.heap.size + 3, 0, none⟩)]) rfl trivial (enters_of Tryz.func35 (by kernel_rfl) rfl)
   (allP_stops FitB Fence.wide rfl (9 - 1) trivial trivial rfl (w.heap.size + 3) w.heap.size (w.heap.size + 2) w (by omega) t _ _ WL (by omega) hBt HFB.out HN.out hB0 hc) kpN_t (fun W l o o' hl => kpN_b (by omega) W l o o' hl) (Below.refl _ _) (fun _ => rfl)
   (fun pre W => ((W.cell? ⟨w.heap.size + 2, 0, none⟩ = some (.int .i64 (wtR (pre.map NdP.key) : Int)) ∧ W.frozen? ⟨w.heap.size + 2, 0, none⟩ = false) ∧ (W.cell? ⟨w.heap.size + 1, 0, none⟩ = some (.bool false) ∧ W.frozen? ⟨w.heap.size + 1, 0, none⟩ = false)) ∧ ((Below w.heap.size w W ∧ WL.heap.size ≤ W.heap.size) ∧ goneR (pre.map NdP.key)))
   (fun c pre W => (W.cell? ⟨w.heap.size + 1, 0, none⟩ = some (.bool false)) ∧ (Below w.heap.size w W ∧ (c = Code.ret ∧ badR (pre.map NdP.key))))
   (OwnFrom.and (Own.from (fun s A B row hs hg hr => ⟨⟨cell_kept hs.1.1 hg hr, (frozen_kept hs.1.1 hg hr).trans hs.1.2⟩, ⟨cell_kept hs.2.1 hg hr, (frozen_kept hs.2.1 hg hr).trans hs.2.2⟩⟩) _) (OwnFrom.and (OwnFrom.and (ownFrom_below (Nat.le_refl _) (by omega)) (fun _ _ _ _ hs hg _ => Nat.le_trans hs hg.size)) (fun _ _ _ _ hs _ _ => hs)))
   (fun c => OwnFrom.and (Own.from (fun s A B row hs hg hr => cell_kept hs hg hr) _) (OwnFrom.and (ownFrom_below (Nat.le_refl _) (by omega)) (fun _ _ _ _ hs _ _ => hs)))
   ⟨⟨⟨hbx.1.trans (by simp [wtR]), hbx.2⟩, hrx⟩, ⟨hB0, Nat.le_refl _⟩, goneR_nil⟩
   (fun x a' W => ∃ Bx, w.heap.size + 2 < Bx ∧ W.heap[Bx]? = some (.cells #[.int .i64 x.1.2.1.kd, .string (bs x.1.2.1.nm), .string (bs x.1.2.1.tx), x.1.2.2.1, x.1.2.2.2] 25 (0, 0)) ∧ a' = { tmps := #[(.agg #[.int .i64 t.kd, .string (bs t.nm), .string (bs t.tx), .slice oa t.ats.length ja, .slice ok t.ks.length jk]), .pointer (some ⟨w.heap.size, 0, none⟩), .pointer (some ⟨w.heap.size + 1, 0, none⟩), .pointer (some ⟨w.heap.size + 2, 0, none⟩), .int .i64 (x.1.1 : Int), .pointer (some ⟨Bx, 0, none⟩), .pointer (some ⟨w.heap.size, 0, none⟩), .int .i64 t.kd, .bool false, (.agg #[.int .i64 t.kd, .string (bs t.nm), .string (bs t.tx), .slice oa t.ats.length ja, .slice ok t.ks.length jk]), .func (.func 35) #[] #[.pointer (some ⟨w.heap.size + 3, 0, none⟩)], .int .i64 (x.1.1 : Int), ndV x.1.2.1 x.1.2.2.1 x.1.2.2.2, undef, undef, undef, undef, undef, undef, undef, undef, undef, undef, undef, undef, undef, undef, undef, undef, undef], defers := [] })
   (fun x a' _ X Y row hs hg hr => by obtain ⟨Bx, e1, e2, e3⟩ := hs; refine ⟨Bx, e1, (hg.block Bx (Array.getElem?_eq_some_iff.1 e2).1 (fun e => ?_)).trans e2, e3⟩; obtain ⟨_, o, ho, hc⟩ := hr Bx e.symm; rw [e2] at ho; cases ho; cases hc)
   ?assign ?body ?done ?stop
  case assign =>
   rintro l pre ⟨⟨lv, t', va', vk'⟩, hx⟩ W K ⟨⟨⟨hc1, hf1⟩, hc2, hf2⟩, ⟨hB, hL⟩, hgn⟩ hK
   have hx' : NdOn w (fun b => b < w.heap.size) t' va' vk' := hx.1
   obtain ⟨oa', ja', ok', jk', rfl, rfl⟩ := hx'.form
   simp only [NdP.enc, ndV] at hK ⊢
   gi_wp2
   refine hK _ _ ((KeepsOthers.alloc _ _).from _) (kpN_grow hB.size ((Below.refl _ W).alloc (Nat.le_refl _) _)) ⟨⟨⟨?_, ?_⟩, ?_, ?_⟩, ⟨hB.alloc hB.size _, by simp; omega⟩, hgn⟩ ⟨W.heap.size, by omega, World.alloc_heap_new W _, rfl⟩
   ·rw [World.cell?_alloc_past _ _ _ (by omega)]; exact hc1
   ·rw [World.frozen?_alloc_past _ _ _ (by omega)]; exact hf1
   ·rw [World.cell?_alloc_past _ _ _ (by omega)]; exact hc2
   ·rw [World.frozen?_alloc_past _ _ _ (by omega)]; exact hf2
  case body =>
   rintro l pre ⟨⟨lv, t', va', vk'⟩, hx⟩ a' W hl _ ⟨⟨⟨hc1, hf1⟩, hc2, hf2⟩, ⟨hB, hL⟩, hgn⟩ ⟨Bx, hBx, bX, rfl⟩ hlt
   have hx' : NdOn w (fun b => b < w.heap.size) t' va' vk' := hx.1
   obtain ⟨oa', ja', ok', jk', rfl, rfl⟩ := hx'.form
   have hfb : FitB t' := hx.2
   have hK : List.map NdP.key (pre ++ ([(⟨(lv, t', Value.slice oa' t'.ats.length ja', Value.slice ok' t'.ks.length jk'), hx⟩ : NdP w w.heap.size FitB)] : List (NdP w w.heap.size FitB))) = pre.map NdP.key ++ [(lv, t')] := by rw [List.map_append]; rfl
   have HKY := hid hK
   have hal := hfb.al
   have hwl := hgn.1
   have HGN := hid hgn
   generalize hs : wtR (pre.map NdP.key) = sz at *
   have HSZ := hid hs
   clear hs hgn hK
   simp only [ndV] at bX ⊢
   have z0 : ∀ V : World, V.heap[Bx]? = W.heap[Bx]? → V.cell? ⟨Bx, 0, none⟩ = some (.int .i64 t'.kd) ∧ V.cell? ⟨Bx, 1, none⟩ = some (.string (bs t'.nm)) ∧ V.cell? ⟨Bx, 2, none⟩ = some (.string (bs t'.tx)) ∧ V.cell? ⟨Bx, 3, none⟩ = some (.slice oa' t'.ats.length ja') ∧ V.cell? ⟨Bx, 4, none⟩ = some (.slice ok' t'.ks.length jk') := fun V h => by
    have h := h.trans bX
    exact ⟨by simp [World.cell?, h], by simp [World.cell?, h], by simp [World.cell?, h], by simp [World.cell?, h], by simp [World.cell?, h]⟩
   obtain ⟨c0, c1, c2, c3, c4⟩ := z0 W rfl
   have hw1 : IntKind.i64.wrap (1 + (t'.ats.length : Int)) = 1 + (t'.ats.length : Int) := IntWalk.i64_in _ (by omega)
   have hw2 : IntKind.i64.wrap ((sz : Int) + (1 + (t'.ats.length : Int))) = (sz : Int) + (1 + (t'.ats.length : Int)) := IntWalk.i64_in _ (by omega)
   have hcs : W.setCell ⟨w.heap.size + 2, 0, none⟩ (.int .i64 ((sz : Int) + (1 + (t'.ats.length : Int)))) = W.setCell ⟨w.heap.size + 2, 0, none⟩ (.int .i64 ((sz + (1 + t'.ats.length) : Nat) : Int)) := by push_cast; rfl
   have HCS := hid hcs
   clear hcs
   by_cases hlv : 12 < lv
   ·have hlv' : (12 : Int) < (lv : Int) := by omega
    gi_wp2_with (refine ⟨trivial, ?_⟩)
    refine ⟨((KeepsOthers.setCell _ _ _).from _).trans ((KeepsOthers.setCell _ _ _).from _), ?_, (hB.setCell (p := ⟨w.heap.size + 2, 0, none⟩) (by simp) _).setCell (p := ⟨w.heap.size + 1, 0, none⟩) (by simp) _, rfl, by rw [HKY.out]; exact badR_snoc HGN.out (.inl hlv)⟩
    rw [World.cell?_setCell_same' _ _ _ (by rw [(cell_of_block (heap_set_ne (by omega)) 0).trans hc2]; rfl)]
   ·have hlv' : ¬ (12 : Int) < (lv : Int) := by omega
    by_cases hsz : 120 < sz + (1 + t'.ats.length)
    ·have hsz' : (120 : Int) < (sz : Int) + (1 + (t'.ats.length : Int)) := by omega
     gi_wp2_with (refine ⟨trivial, ?_⟩)
     refine ⟨((KeepsOthers.setCell _ _ _).from _).trans ((KeepsOthers.setCell _ _ _).from _), ?_, (hB.setCell (p := ⟨w.heap.size + 2, 0, none⟩) (by simp) _).setCell (p := ⟨w.heap.size + 1, 0, none⟩) (by simp) _, rfl, by rw [HKY.out]; exact badR_snoc HGN.out (.inr (.inl (by rw [HSZ.out]; exact hsz)))⟩
     rw [World.cell?_setCell_same' _ _ _ (by rw [(cell_of_block (heap_set_ne (by omega)) 0).trans hc2]; rfl)]
    ·have hsz' : ¬ (120 : Int) < (sz : Int) + (1 + (t'.ats.length : Int)) := by omega
     obtain ⟨V, hV⟩ : ∃ V, V = W.setCell ⟨w.heap.size + 2, 0, none⟩ (.int .i64 ((sz : Int) + (1 + (t'.ats.length : Int)))) := ⟨_, rfl⟩
     have hBV : Below w.heap.size w V := by rw [hV]; exact hB.setCell (p := ⟨w.heap.size + 2, 0, none⟩) (by simp) _
     have hsV : V.heap.size = W.heap.size := by rw [hV, World.size_setCell]
     have hv2 : V.cell? ⟨w.heap.size + 2, 0, none⟩ = some (.int .i64 ((sz + (1 + t'.ats.length) : Nat) : Int)) := by rw [hV, HCS.out]; exact World.cell?_setCell_same' _ _ _ (by rw [hc1]; rfl)
     have hv1 : V.cell? ⟨w.heap.size + 1, 0, none⟩ = some (.bool false) := by rw [hV]; exact (cell_of_block (heap_set_ne (by omega)) 0).trans hc2
     have hg2 : V.frozen? ⟨w.heap.size + 2, 0, none⟩ = false := by rw [hV, World.frozen?_setCell]; exact hf1
     have hg1 : V.frozen? ⟨w.heap.size + 1, 0, none⟩ = false := by rw [hV, World.frozen?_setCell]; exact hf2
     have hKV : KpN w.heap.size (w.heap.size + 2) W V := by rw [hV]; exact kpN_setCell (by omega) _ _ _
     have hOV : KeepsOthers W V := by rw [hV]; exact KeepsOthers.setCell _ _ _
     have hnV : NdOn V (fun b => b < V.heap.size) t' (.slice oa' t'.ats.length ja') (.slice ok' t'.ks.length jk') := hx'.move (fun b hb2 _ => ⟨Nat.lt_of_lt_of_le hb2 hBV.size, hBV.block b hb2⟩)
     have hF := fits_any t' _ _ V hfb hnV (HG.out.below hBV)
     unfold ndV at hF
     generalize hft : fitT t' = q at hF
     have HFT := hid hft
     have hcc : ∀ V2, Below V.heap.size V V2 → (V2.cell? ⟨w.heap.size + 2, 0, none⟩ = some (.int .i64 ((sz + (1 + t'.ats.length) : Nat) : Int)) ∧ V2.frozen? ⟨w.heap.size + 2, 0, none⟩ = false) ∧ V2.cell? ⟨w.heap.size + 1, 0, none⟩ = some (.bool false) ∧ V2.frozen? ⟨w.heap.size + 1, 0, none⟩ = false := fun V2 h2 =>
      ⟨⟨(cell_of_block (h2.block _ (by omega)) 0).trans hv2, (frozen_of_block (h2.block _ (by omega)) 0).trans hg2⟩, (cell_of_block (h2.block _ (by omega)) 0).trans hv1, (frozen_of_block (h2.block _ (by omega)) 0).trans hg1⟩
     rw [hV] at hF hcc
     have HF := hid hF
     have HCC := hid hcc
     have HV := hid hV
     have HBV := hid hBV
     have HKV := hid hKV
     have HOV := hid hOV
     have HSV := hid hsV
     clear hft hF hV hBV hKV hOV hnV hsV hv2 hv1 hg2 hg1 hx' z0 hcc
     cases q with
     | false =>
      gi_wp2_with (refine ⟨trivial, ?_⟩; gi_at_call 27; refine (CallsIn.inRound l (callsIn_wide.2 HF.out)).mono ?_; rintro e W2 ⟨rfl, hb2⟩; obtain ⟨⟨y1, y2⟩, y3, y4⟩ := HCC.out W2 hb2)
      rw [← HV.out] at hb2
      refine ⟨(HOV.out.from _).trans (((keeps_below hb2).from _).trans ((KeepsOthers.setCell _ _ _).from _)), ?_, ((HBV.out.trans (hb2.mono HBV.out.size)).setCell (p := ⟨w.heap.size + 1, 0, none⟩) (by simp) _), rfl, by rw [HKY.out]; exact badR_snoc HGN.out (.inr (.inr HFT.out))⟩
      rw [World.cell?_setCell_same' _ _ _ (by rw [y3]; rfl)]
     | true =>
      gi_wp2_with (refine ⟨trivial, ?_⟩; gi_at_call 27; refine (CallsIn.inRound l (callsIn_wide.2 HF.out)).mono ?_; rintro e W2 ⟨rfl, hb2⟩; obtain ⟨⟨y1, y2⟩, y3, y4⟩ := HCC.out W2 hb2)
      rw [← HV.out] at hb2
      have hs2 := hb2.size
      have hs3 := HSV.out
      refine ⟨(HOV.out.from _).trans ((keeps_below hb2).from _), kpN_t HKV.out (kpN_grow (by omega) hb2), ⟨⟨?_, y2⟩, y3, y4⟩, ⟨HBV.out.trans (hb2.mono HBV.out.size), by omega⟩, ?_⟩
      ·rw [HKY.out, wtR_snoc, HSZ.out]; exact y1
      ·rw [HKY.out]; exact goneR_snoc HGN.out (Nat.le_of_not_lt hlv) (by rw [HSZ.out]; exact Nat.le_of_not_lt hsz) HFT.out
  case done =>
   rintro D ys W hD hys ⟨⟨⟨hc1, hf1⟩, hc2, hf2⟩, ⟨hB, hL⟩, hgn⟩ hK
   rw [hys] at hgn
   have hr : rightP t = true := by
    unfold rightP
    rw [decide_eq_true H2.out, Bool.true_and]
    have := hgn.2 []
    rw [List.append_nil] at this
    rw [this, runR]
   have HR := hid hr
   clear hr hgn hys
   have hDl := (Array.getElem?_eq_some_iff.1 hK).1
   gi_wp2
   have hKs : (W.setCell ⟨w.heap.size + 1, 0, none⟩ (.bool true)).heap[D]? = some (.deferred (some [])) := (heap_set_ne (by omega)).trans hK
   have hce : ((W.setCell ⟨w.heap.size + 1, 0, none⟩ (.bool true)).putObj D (.deferred none)).cell? ⟨w.heap.size + 1, 0, none⟩ = some (.bool true) := (cell_of_block (World.putObj_heap_other (by omega)) 0).trans (World.cell?_setCell_same' _ _ _ (by rw [hc2]; rfl))
   have hBs := hB.setCell (p := ⟨w.heap.size + 1, 0, none⟩) (by simp) (.bool true)
   refine ⟨by simp, .inl ⟨_, _, rfl, run_takeDeferred hKs, ?_⟩⟩
   exact ⟨.bool true, by simp [results, Tryz.results17, go_sem, hce], by rw [HR.out], hBs.trans (belowK_b (w := w) (Nat.le_refl _) _ D _ _ (by omega) hKs rfl rfl)⟩
  case stop =>
   rintro D c pre W hD hpre ⟨hc2, hB, rfl, hbd⟩ hK
   have hr : rightP t = false := by
    obtain ⟨rest, hrest⟩ := hpre
    unfold rightP
    rw [decide_eq_true H2.out, Bool.true_and, ← hrest]
    exact hbd rest
   have HR := hid hr
   clear hr hbd hpre
   gi_wp2
   have hce : (W.putObj D (.deferred none)).cell? ⟨w.heap.size + 1, 0, none⟩ = some (.bool false) := (cell_of_block (World.putObj_heap_other (by omega)) 0).trans hc2
   refine ⟨by simp, .inl ⟨_, _, rfl, run_takeDeferred hK, ?_⟩⟩
   exact ⟨.bool false, by simp [results, Tryz.results17, go_sem, hce], by rw [HR.out], hB.trans (belowK_b (w := w) (Nat.le_refl _) W D _ _ (by omega) hK rfl rfl)⟩
 ·have k2 : (t.kd != 2) = true := by simp [h2]
  have HR := hid (show rightP t = false by unfold rightP; rw [decide_eq_false h2]; rfl)
  clear h2
  go_enter Tryz.func17, Tryz.ntmps17
  go_wp2_with fail
  exact bodyPost_ret (v := .bool false) (by simp [results, Tryz.results17, go_sem]) rfl ⟨by rw [HR.out], ((Below.refl _ _).alloc (Nat.le_refl _) _).alloc (by simp) _⟩
end Char
end Go.Proofs.YtlmodgnkmlbjhaaGreatDoor
