/- Whether one of a row, and one of another row, of numbers stand so (written by gen_pairs.py). -/
import Derived.Test.YteooaibbblfmjaaDoorPairD
import Derived.Test.YteooaibbblfmjaaDoorWayC
namespace Go.Proofs.YteooaibbblfmjaaDoor.Char
open Go.RowKit Go.Lib Go.Shelf
attribute [local go_sem] Oper.semAt_some

theorem pairsD_stops (F : Fence) (n : Nat) (hf : F.fn 40) (hro : F.round = none) (hn : 1 ≤ n) (n₀ bx bA bB : Nat) (oa ob : Option Addr) (ca cb : Nat) (xs ys : List (Int × Int)) (hxn : xs.length ≤ 100000) (hyn : ys.length ≤ 100000) (w : World)
    (hn0 : n₀ ≤ w.heap.size) (hbx : bx < w.heap.size) (hF : ∀ W', KpN n₀ bx w W' → RowsD W' bA bB oa ob ca cb xs ys) :
    SeqStopsK F n Tryd.prog 40 #[.pointer (some ⟨bA, 0, none⟩), .pointer (some ⟨bB, 0, none⟩)] (fun x : (Int × Int) × (Int × Int) => #[.agg #[.int .i64 x.1.1, .int .i64 x.1.2], .agg #[.int .i64 x.2.1, .int .i64 x.2.2]]) (KpN n₀ bx) (fun zs => zs = pairsL xs ys) (fun pre => pre <+: pairsL xs ys) (pairsL xs ys).length w :=
  fun l J Jx W hW hJ _ hY h0 => pairsID_in F n hf hro hn l n₀ bx bA bB oa ob ca cb xs ys J Jx W hJ (Nat.le_trans hn0 hW.size) (Nat.lt_of_lt_of_le hbx hW.size) hxn hyn hY (fun W' h => hF W' (kpN_t (kpN_grow hn0 hW) h)) h0
set_option maxHeartbeats 1000000 in
theorem pairsD_in (F : Fence) (n : Nat) (hf : F.fn 28) (hro : F.round = none) (oa ob : Option Addr) (na nb ca cb : Nat) (w : World) :
    CallsIn F n Tryd.prog 28 #[.slice oa na ca, .slice ob nb cb] w fun e w' => e = .returned (.func (.func 40) #[] #[.pointer (some ⟨w.heap.size, 0, none⟩), .pointer (some ⟨w.heap.size + 1, 0, none⟩)]) ∧ w' = (w.alloc (.cells #[.slice oa na ca] 41)).alloc (.cells #[.slice ob nb cb] 41) := by
  refine callsIn_of_wp Tryd.func28 rfl hf ?_ hro
  simp only [Tryd.ntmps28, List.size_toArray, List.length_cons, List.length_nil, Nat.reduceAdd, Nat.reduceSub, Array.replicate_succ, Array.replicate_zero, List.push_toArray, List.append_toArray, List.nil_append, List.cons_append]
  gi_wp2
  go_ret
  exact ⟨rfl, rfl⟩
set_option maxRecDepth 100000 in
set_option maxHeartbeats 4000000 in
theorem someD_any (va vb : Value) (xs ys : List (Int × Int)) (q : Nat) (op : Int) (w : World) (hx : DcsOn w va xs) (hy : DcsOn w vb ys) (hxn : xs.length ≤ 100000) (hyn : ys.length ≤ 100000) (hq : w.cell? ⟨q, 0, none⟩ = some (.int .i64 op)) :
    Calls Tryd.prog 14 #[va, vb, .func (.func 20) #[] #[.pointer (some ⟨q, 0, none⟩)]] w fun e w' => e = .returned (.bool (xs.any fun x => ys.any fun y => wayL op (toD x.1 x.2) (toD y.1 y.2))) ∧ Below w.heap.size w w' := by
  have hql := cell_lt (a := ⟨q, 0, none⟩) hq
  have hql : q < w.heap.size := hql
  obtain ⟨Pz, hPz⟩ : ∃ Pz : (Int × Int) × (Int × Int) → Bool, Pz = fun z => wayL op (toD z.1.1 z.1.2) (toD z.2.1 z.2.2) := ⟨_, rfl⟩
  obtain ⟨R, hR⟩ : ∃ R : Bool, R = (pairsL xs ys).any Pz := ⟨_, rfl⟩
  rw [← pairsL_any (fun x y => wayL op (toD x.1 x.2) (toD y.1 y.2)) xs ys, ← hPz, ← hR]
  have HPz := Lib.hid hPz
  have HR := Lib.hid hR
  clear hPz hR
  obtain ⟨oa, ca, rfl, hx⟩ := hx
  obtain ⟨ob, cb, rfl, hy⟩ := hy
  have HX := Lib.hid hx
  have HY := Lib.hid hy
  clear hx hy
  refine (callsIn_wide (n := 9)).1 ?_
  refine callsIn_of_wp_marks Tryd.func14 rfl trivial ?_ rfl
  simp only [Tryd.ntmps14, List.size_toArray, List.length_cons, List.length_nil, Nat.reduceAdd, Nat.reduceSub, Array.replicate_succ, Array.replicate_zero, List.push_toArray, List.append_toArray, List.nil_append, List.cons_append]
  gi_wp2_with (refine ⟨trivial, ?_⟩; gi_at_call 28; refine (pairsD_in Fence.wide _ trivial rfl _ _ _ _ _ _ _).mono ?_; rintro e w' ⟨rfl, rfl⟩)
  obtain ⟨WL, hWL⟩ : ∃ WL, WL = (((w.alloc (.cells #[.func (.func 20) #[] #[.pointer (some ⟨q, 0, none⟩)]] 36)).alloc (.cells #[.bool false] 4)).alloc (.cells #[.slice oa xs.length ca] 41)).alloc (.cells #[.slice ob ys.length cb] 41) := ⟨_, rfl⟩
  rw [← hWL]
  have hB0 : Below w.heap.size w WL := by rw [hWL]; exact ((((Below.refl _ _).alloc (Nat.le_refl _) _).alloc (by simp) _).alloc (by simp; omega) _).alloc (by simp; omega) _
  have hsL : WL.heap.size = w.heap.size + 4 := by rw [hWL]; simp
  obtain ⟨b0, b1, b2, b3⟩ := four_blk w (.cells #[.func (.func 20) #[] #[.pointer (some ⟨q, 0, none⟩)]] 36) (.cells #[.bool false] 4) (.cells #[.slice oa xs.length ca] 41) (.cells #[.slice ob ys.length cb] 41)
  rw [← hWL] at b0 b1 b2 b3
  clear hWL
  have hF : ∀ W', KpN w.heap.size (w.heap.size + 1) WL W' → RowsD W' (w.heap.size + 2) (w.heap.size + 3) oa ob ca cb xs ys := fun W' h => by
    have k2 := kpN_blk h b2 (by omega)
    have k3 := kpN_blk h b3 (by omega)
    have hb := hB0.trans h.1
    refine ⟨by simp [World.cell?, k2], by simp [World.cell?, k3], fun k hk => ?_, fun k hk => ?_⟩
    · rcases HX.out with rfl | ⟨g, off, e1, e2, e3⟩
      · cases hk
      · exact ⟨g, off, e1, ⟨(hb.cell (p := ⟨g, off + k * 2, none⟩) e2).trans (e3 k hk).1, (hb.cell (p := ⟨g, off + k * 2 + 1, none⟩) e2).trans (e3 k hk).2⟩⟩
    · rcases HY.out with rfl | ⟨g, off, e1, e2, e3⟩
      · cases hk
      · exact ⟨g, off, e1, ⟨(hb.cell (p := ⟨g, off + k * 2, none⟩) e2).trans (e3 k hk).1, (hb.cell (p := ⟨g, off + k * 2 + 1, none⟩) e2).trans (e3 k hk).2⟩⟩
  have hq0 : WL.cell? ⟨w.heap.size, 0, none⟩ = some (.func (.func 20) #[] #[.pointer (some ⟨q, 0, none⟩)]) := by simp [World.cell?, b0]
  have hf0 : WL.frozen? ⟨w.heap.size, 0, none⟩ = false := by simp [World.frozen?, b0]
  have hr0 : WL.cell? ⟨w.heap.size + 1, 0, none⟩ = some (.bool false) := by simp [World.cell?, b1]
  have hg0 : WL.frozen? ⟨w.heap.size + 1, 0, none⟩ = false := by simp [World.frozen?, b1]
  refine wpIn_rangeFunc_ownH (F := Fence.wide) (n := 9) rfl (by omega) (gf := 40) (lb := #[.pointer (some ⟨w.heap.size + 2, 0, none⟩), .pointer (some ⟨w.heap.size + 3, 0, none⟩)]) rfl trivial (enters_of Tryd.func40 (by kernel_rfl) rfl)
    (pairsD_stops Fence.wide (9 - 1) trivial rfl (by omega) w.heap.size (w.heap.size + 1) (w.heap.size + 2) (w.heap.size + 3) oa ob ca cb xs ys hxn hyn WL (by omega) (by omega) hF) kpN_t (fun W l o o' hl => kpN_b (by omega) W l o o' hl) (Below.refl _ _) (fun _ => rfl)
    (fun pre W => ((W.cell? ⟨w.heap.size, 0, none⟩ = some (.func (.func 20) #[] #[.pointer (some ⟨q, 0, none⟩)]) ∧ W.frozen? ⟨w.heap.size, 0, none⟩ = false) ∧ (W.cell? ⟨w.heap.size + 1, 0, none⟩ = some (.bool false) ∧ W.frozen? ⟨w.heap.size + 1, 0, none⟩ = false)) ∧ ((Below w.heap.size w W ∧ WL.heap.size ≤ W.heap.size) ∧ pre.any Pz = false))
    (fun c pre W => (W.cell? ⟨w.heap.size + 1, 0, none⟩ = some (.bool true)) ∧ (Below w.heap.size w W ∧ (c = Code.ret ∧ pre.any Pz = true)))
    (OwnFrom.and (Own.from (fun s A B row hs hg hr => ⟨⟨cell_kept hs.1.1 hg hr, (frozen_kept hs.1.1 hg hr).trans hs.1.2⟩, ⟨cell_kept hs.2.1 hg hr, (frozen_kept hs.2.1 hg hr).trans hs.2.2⟩⟩) _) (OwnFrom.and (OwnFrom.and (ownFrom_below (Nat.le_refl _) (by omega)) (fun _ _ _ _ hs hg _ => Nat.le_trans hs hg.size)) (fun _ _ _ _ hs _ _ => hs)))
    (fun c => OwnFrom.and (Own.from (fun s A B row hs hg hr => cell_kept hs hg hr) _) (OwnFrom.and (ownFrom_below (Nat.le_refl _) (by omega)) (fun _ _ _ _ hs _ _ => hs)))
    ⟨⟨⟨hq0, hf0⟩, hr0, hg0⟩, ⟨hB0, Nat.le_refl _⟩, rfl⟩
    (fun x a' W => ∃ B7 B8, w.heap.size + 1 < B7 ∧ w.heap.size + 1 < B8 ∧ W.heap[B7]? = some (.cells #[.int .i64 x.1.1, .int .i64 x.1.2] 24 (0, 0)) ∧ W.heap[B8]? = some (.cells #[.int .i64 x.2.1, .int .i64 x.2.2] 24 (0, 0)) ∧ a' = { tmps := #[.slice oa xs.length ca, .slice ob ys.length cb, .func (.func 20) #[] #[.pointer (some ⟨q, 0, none⟩)], undef, undef, .pointer (some ⟨w.heap.size, 0, none⟩), .pointer (some ⟨w.heap.size + 1, 0, none⟩), .pointer (some ⟨B7, 0, none⟩), .pointer (some ⟨B8, 0, none⟩), .slice oa xs.length ca, .slice ob ys.length cb, .func (.func 40) #[] #[.pointer (some ⟨w.heap.size + 2, 0, none⟩), .pointer (some ⟨w.heap.size + 3, 0, none⟩)], .agg #[.int .i64 x.1.1, .int .i64 x.1.2], .agg #[.int .i64 x.2.1, .int .i64 x.2.2], undef, undef, undef, undef], defers := [] })
    (fun x a' _ X Y row hs hg hr => by obtain ⟨B7, B8, l7, l8, e7, e8, e3⟩ := hs; refine ⟨B7, B8, l7, l8, (hg.block B7 (Array.getElem?_eq_some_iff.1 e7).1 (fun e => ?_)).trans e7, (hg.block B8 (Array.getElem?_eq_some_iff.1 e8).1 (fun e => ?_)).trans e8, e3⟩ <;> (obtain ⟨_, o, ho, hc⟩ := hr _ e.symm; first | (rw [e7] at ho; cases ho; cases hc) | (rw [e8] at ho; cases ho; cases hc)))
    ?assign ?body ?done ?stop
  case assign =>
    rintro l pre x W K hI hK
    obtain ⟨⟨⟨hcS, hfS⟩, hc2, hf2⟩, ⟨hB, hL⟩, hany⟩ := hI
    simp only at hK ⊢
    gi_wp2
    refine hK _ _ (((KeepsOthers.alloc _ _).from _).trans ((KeepsOthers.alloc _ _).from _)) (kpN_grow hB.size (((Below.refl _ W).alloc (Nat.le_refl _) _).alloc (by simp) _)) ⟨⟨⟨?_, ?_⟩, ?_, ?_⟩, ⟨(hB.alloc hB.size _).alloc (Nat.le_trans hB.size (by simp)) _, by simp; omega⟩, hany⟩ ⟨W.heap.size, W.heap.size + 1, by omega, by omega, ?_, ?_, rfl⟩
    · rw [World.cell?_alloc_past _ _ _ (by simp; omega), World.cell?_alloc_past _ _ _ (by omega)]; exact hcS
    · rw [World.frozen?_alloc_past _ _ _ (by simp; omega), World.frozen?_alloc_past _ _ _ (by omega)]; exact hfS
    · rw [World.cell?_alloc_past _ _ _ (by simp; omega), World.cell?_alloc_past _ _ _ (by omega)]; exact hc2
    · rw [World.frozen?_alloc_past _ _ _ (by simp; omega), World.frozen?_alloc_past _ _ _ (by omega)]; exact hf2
    · exact (Below.heap_alloc _ _ _ (by simp)).trans (World.alloc_heap_new W _)
    · have := World.alloc_heap_new (W.alloc (.cells #[.int .i64 x.1.1, .int .i64 x.1.2] 24)) (.cells #[.int .i64 x.2.1, .int .i64 x.2.2] 24)
      rw [World.size_alloc] at this
      exact this
  case body =>
    rintro l pre x a' W hl _ ⟨⟨⟨hcS, hfS⟩, hc2, hf2⟩, ⟨hB, hL⟩, hany⟩ ⟨B7, B8, l7, l8, e7, e8, rfl⟩ hlt
    have hqW : W.cell? ⟨q, 0, none⟩ = some (.int .i64 op) := (hB.cell (p := ⟨q, 0, none⟩) hql).trans hq
    have hS := way1_any x.1.1 x.1.2 x.2.1 x.2.2 op q W hqW (Nat.lt_of_lt_of_le hql hB.size)
    have hP : Pz x = (wayL op (toD x.1.1 x.1.2) (toD x.2.1 x.2.2)) := by rw [HPz.out]
    rw [← hP] at hS
    have HS := Lib.hid hS
    obtain ⟨a0, a1⟩ := dcells e7
    obtain ⟨a2, a3⟩ := dcells e8
    have HP : Hid ((pre ++ [x]).any Pz = (Pz x)) := Lib.hid (by rw [List.any_append, hany]; simp)
    have hwl : w.heap.size < W.heap.size := by omega
    have HCC := Lib.hid fun (V2 : World) (h2 : Below W.heap.size W V2) => (show (V2.cell? ⟨w.heap.size, 0, none⟩ = some (.func (.func 20) #[] #[.pointer (some ⟨q, 0, none⟩)]) ∧ V2.frozen? ⟨w.heap.size, 0, none⟩ = false) ∧ V2.cell? ⟨w.heap.size + 1, 0, none⟩ = some (.bool false) ∧ V2.frozen? ⟨w.heap.size + 1, 0, none⟩ = false from
      ⟨⟨(cellB (h2.block _ (by omega)) 0).trans hcS, (frozenB (h2.block _ (by omega)) 0).trans hfS⟩, (cellB (h2.block _ (by omega)) 0).trans hc2, (frozenB (h2.block _ (by omega)) 0).trans hf2⟩)
    clear hS hP hqW hany
    generalize Pz x = pq at HS HP
    cases pq with
    | false =>
      gi_wp2_with (refine ⟨trivial, ?_⟩; gi_at_call 20; refine (CallsIn.inRound l (callsIn_wide.2 HS.out)).mono ?_; rintro e W2 ⟨rfl, hb2⟩; obtain ⟨⟨y1, y2⟩, y3, y4⟩ := HCC.out W2 hb2)
      have hs2 := hb2.size
      exact ⟨(keeps_low hb2).from _, kpN_grow (by omega) hb2, ⟨⟨y1, y2⟩, y3, y4⟩, ⟨hB.trans (hb2.mono hB.size), by omega⟩, HP.out⟩
    | true =>
      gi_wp2_with (refine ⟨trivial, ?_⟩; gi_at_call 20; refine (CallsIn.inRound l (callsIn_wide.2 HS.out)).mono ?_; rintro e W2 ⟨rfl, hb2⟩; obtain ⟨⟨y1, y2⟩, y3, y4⟩ := HCC.out W2 hb2)
      have hs2 := hb2.size
      refine ⟨((keeps_low hb2).from _).trans ((KeepsOthers.setCell _ _ _).from _), ?_, (hB.trans (hb2.mono hB.size)).setCell (p := ⟨w.heap.size + 1, 0, none⟩) (by simp) _, rfl, HP.out⟩
      rw [World.cell?_setCell_same' _ _ _ (by rw [y3]; rfl)]
  case done =>
    rintro D zs W hD hzs ⟨⟨⟨hcS, hfS⟩, hc2, hf2⟩, ⟨hB, hL⟩, hany⟩ hK
    have hr : R = false := by rw [HR.out, ← hzs]; exact hany
    subst hr
    clear hany hzs
    have hDl := (Array.getElem?_eq_some_iff.1 hK).1
    have hBs := hB.setCell (p := ⟨w.heap.size + 1, 0, none⟩) (by simp) (.bool false)
    gi_wp2
    have hKs : (W.setCell ⟨w.heap.size + 1, 0, none⟩ (.bool false)).heap[D]? = some (.deferred (some [])) := (heap_ne (fun e => by subst e; exact cell_def hK hc2)).trans hK
    have hce : ((W.setCell ⟨w.heap.size + 1, 0, none⟩ (.bool false)).putObj D (.deferred none)).cell? ⟨w.heap.size + 1, 0, none⟩ = some (.bool false) := (cellB (World.putObj_heap_other (fun e => by subst e; exact cell_def hK hc2)) 0).trans (World.cell?_setCell_same' _ _ _ (by rw [hc2]; rfl))
    refine ⟨by simp, .inl ⟨_, _, rfl, run_takeDeferred hKs, ?_⟩⟩
    exact ⟨.bool false, by simp [results, Tryd.results14, go_sem, hce], rfl, hBs.trans (belowK_b (w := w) (Nat.le_refl _) _ D _ _ (by omega) hKs rfl rfl)⟩
  case stop =>
    rintro D c pre W hD hpre ⟨hc2, hB, rfl, hany⟩ hK
    have hr : R = true := by
      obtain ⟨rest, hrest⟩ := hpre
      rw [HR.out, ← hrest, List.any_append, hany]
      rfl
    subst hr
    clear hany hpre
    gi_wp2
    have hce : (W.putObj D (.deferred none)).cell? ⟨w.heap.size + 1, 0, none⟩ = some (.bool true) := (cellB (World.putObj_heap_other (fun e => by subst e; exact cell_def hK hc2)) 0).trans hc2
    refine ⟨by simp, .inl ⟨_, _, rfl, run_takeDeferred hK, ?_⟩⟩
    exact ⟨.bool true, by simp [results, Tryd.results14, go_sem, hce], rfl, hB.trans (belowK_b (w := w) (Nat.le_refl _) W D _ _ (by omega) hK rfl rfl)⟩
end Go.Proofs.YteooaibbblfmjaaDoor.Char
