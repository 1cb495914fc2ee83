import Derived.Test.YtlmodgnkmlbjhaaGreatDoorPkGrw
import Derived.Deep.RegionLaw
import Derived.Deep.RegionWith
import Derived.Deep.RegionHeld3
import Derived.Deep.AppendLies
import Derived.Laws.EntriesVeiled
namespace Go.Proofs.YtlmodgnkmlbjhaaGreatDoor
namespace Char
open Go.RowKit Go.Lib
theorem info_nd : (Tryz.prog.info? 25).map (fun i => (i.zero, i.size, i.bytes)) = some (some (.agg #[.int .i64 0, .string ⟨#[]⟩, .string ⟨#[]⟩, .slice none 0 0, .slice none 0 0]), 5, 88) := by kernel_rfl
theorem step_pushNd {ops : Array Oper} {o : Oper} {a : Act} {K : Act → World → Prop} {Q : Exit → Act → World → Prop} {E : Prop} {B : Nat} {W : World} {v : Value} {xs : List NdV}
  (hgd : o.guard = none) (s x : Operand) (ho : o.op = .call { callee := .builtin .append, args := #[s, x], argTypes := #[23, 23] })
  (y : NdV) (hf1 : ∃ oa ia ja, y.2.1 = .slice oa ia ja) (hf2 : ∃ oa ia ja, y.2.2 = .slice oa ia ja) (N : Nat) (hown : W.ownsRow B 25 5 v xs.length (ndsC xs)) (hs : a.eval s = v) (hx : a.eval x = .slice (some ⟨N, 0, none⟩) 1 1) (hc : ∀ j u, (ndC y)[j]? = some u → W.cell? ⟨N, j, none⟩ = some u) (hB : B ≤ W.heap.size) (hlen : xs.length ≤ 100000)
  (h : ∀ g cap w1, w1.ownsRow B 25 5 (.slice (some ⟨g, 0, none⟩) (xs.length + 1) cap) (xs.length + 1) (ndsC xs ++ ndC y) → W.grownBy w1 v.ownBlock → (v.ownBlock = some g ∨ g = W.heap.size) → K (a.put o.dst (.slice (some ⟨g, 0, none⟩) (xs.length + 1) cap)) w1) :
  if Region.wanted o (yielded ops a.tmps) = true then Oper.wp Tryz.prog o a W K Q else E := by
 obtain ⟨i0, hi, hz0, hz1, hz2⟩ := info_parts info_nd
 refine step_append_lies W hgd s x 23 ho B 25 i0 (.agg #[.int .i64 0, .string ⟨#[]⟩, .string ⟨#[]⟩, .slice none 0 0, .slice none 0 0]) 5 88 Tryz.underlying23 hi hz0 hz1 hz2 rfl (by decide) v xs.length (ndsC xs) hs hown ⟨N, 0, none⟩ 1 1 (ndC y) hx rfl ?_ ?_ (by decide) ?_ ?_ hB W.heap.size rfl (fun g cap w1 h1 h2 h3 _ => h g cap w1 h1 h2 h3)
 ·intro j u hj
  rw [Addr.add_lit, Nat.zero_add]
  exact hc j u hj
 ·intro u hu
  obtain ⟨oa, ia, ja, hf1⟩ := hf1
  obtain ⟨ob, ib, jb, hf2⟩ := hf2
  simp [ndC, hf1, hf2] at hu
  rcases hu with rfl | rfl | rfl | rfl | rfl <;> rfl
 ·unfold maxLen; omega
 ·omega
theorem AtsOn.form {w : World} {F : Nat → Prop} {v : Value} {qs : List At2} (h : AtsOn w F v qs) : ∃ o j, v = .slice o qs.length j := by
 obtain ⟨o, i, j, h1, rfl, _⟩ := h
 exact ⟨o, j, h1⟩
theorem NdOn.form {w : World} {F : Nat → Prop} {t : Tr} {va vk : Value} (h : NdOn w F t va vk) : ∃ oa ja ok jk, va = .slice oa t.ats.length ja ∧ vk = .slice ok t.ks.length jk := by
 obtain ⟨oa, ja, h1⟩ := h.ats.form
 obtain ⟨ok, i, jk, h2, rfl, _⟩ := h.kids
 exact ⟨oa, ja, ok, jk, h1, h2⟩
theorem putK_text {ks : List Tr} {n k : Tr} (hl : ks.getLast? = some k) (hk : k.kd = 4) (hn : n.kd = 4) : putK ks n = ks.dropLast ++ [.mk k.kd k.nm (k.tx ++ n.tx) k.ats k.ks] := by
 unfold putK
 rw [hl]
 simp [hk, hn]
theorem putK_more {ks : List Tr} {n : Tr} (h : lastTx ks = false ∨ n.kd ≠ 4) : putK ks n = ks ++ [n] := by
 unfold putK
 unfold lastTx at h
 cases hl : ks.getLast? with
 | none => rfl
 | some k =>
  rw [hl] at h
  dsimp only at h ⊢
  rw [if_neg]
  rintro he
  simp only [Bool.and_eq_true, beq_iff_eq] at he
  rcases h with h | h
  ·rw [he.1] at h; cases h
  ·exact h he.2
set_option maxRecDepth 100000 in
set_option maxHeartbeats 8000000 in
theorem put_merge {B H : Nat} {fut : List Nat} {w : World} {vo : Value} {f : Fr} {r : List Fr} (h : GS B H fut w vo (f :: r)) (n : Tr) (va vk : Value) (hn : NdOn w (OkB B H fut vo (f :: r)) n va vk) (hl : r.length ≤ 1000) (hk : f.t.ks.length ≤ 100000)
  (ht : n.tx.length ≤ 1099511627776) (hlt : ∀ k, k ∈ f.t.ks → k.tx.length ≤ 1099511627776) (h4 : lastTx f.t.ks = true) (hn4 : n.kd = 4) :
  Calls Tryz.prog 57 #[ndV n va vk, .pointer (some ⟨H + 4, 0, none⟩)] w fun e w' => e = .returned (.tuple #[]) ∧ ∃ vk', GS B H fut w' vo (⟨f.e, f.va, vk', f.t.put n⟩ :: r) ∧ Below (H + 1) w w' := by
 have e34 : ∀ args w, (callFunc 56 args).run Tryz.prog w = .ok (.enter 56 args) w := enters_of Tryz.func56 (by kernel_rfl) rfl
 obtain ⟨oa, ja, ok, jk, rfl, rfl⟩ := hn.form
 obtain ⟨W0, hW0⟩ : ∃ W0, W0 = w.alloc (.cells #[.int .i64 n.kd, .string (bs n.nm), .string (bs n.tx), .slice oa n.ats.length ja, .slice ok n.ks.length jk] 25) := ⟨_, rfl⟩
 have hb0 : Below w.heap.size w W0 := by rw [hW0]; exact (Below.refl _ _).alloc (Nat.le_refl _) _
 have hs0 : W0.heap.size = w.heap.size + 1 := by rw [hW0]; simp
 have g0 := h.below hb0
 have hlast : ∃ k, f.t.ks.getLast? = some k ∧ k.kd = 4 ∧ k ∈ f.t.ks := by
  unfold lastTx at h4
  cases hg : f.t.ks.getLast? with
  | none => rw [hg] at h4; cases h4
  | some k => rw [hg] at h4; exact ⟨k, rfl, by simpa using h4, List.mem_of_getLast? hg⟩
 obtain ⟨k, hk1, hk2, hk3⟩ := hlast
 have hkt := hlt k hk3
 have C1 := Lib.hid (top_any g0 hl)
 obtain ⟨f1, f2, f3⟩ := g0.frs f (by simp)
 have hlp := lastP_yes h4 f3.last
 have C2 := lastText_any W0 f.e f.vk f.t.ks f1.cells.2.2.2.2 f3.last (by omega)
 obtain ⟨g, j2, hv, hp⟩ := hlp
 rw [hp] at C2
 have hm := fun m => (g0.draws m).merge hk1 hk2 hn4
 have hsz := h.sz
 have hs4 : H + 4 < w.heap.size := by omega
 have tb : W0.cell? ⟨H + 4, 0, none⟩ = some (topFn H) := by simp [World.cell?, g0.tb]
 have tb2 : w.cell? ⟨H + 4, 0, none⟩ = some (topFn H) := by simp [World.cell?, h.tb]
 have d2 : W0.cell? ⟨w.heap.size, 2, none⟩ = some (.string (bs n.tx)) := by rw [hW0]; go_simp
 have d0 : W0.cell? ⟨w.heap.size, 0, none⟩ = some (.int .i64 4) := by rw [hW0, hn4]; go_simp
 have hgl := (hm 0)
 obtain ⟨g', cap', hv', hg1, hc0, hc2, hfz, _⟩ := hgl
 rw [hv] at hv'
 simp only [Value.slice.injEq, Option.some.injEq, Addr.mk.injEq, true_and, and_true] at hv'
 obtain ⟨rfl, rfl⟩ := hv'
 have hfin : ∀ m w', w' = (W0.drewN m).setCell ⟨g, (f.t.ks.length - 1) * 5 + 2, none⟩ (.string (bs (k.tx ++ n.tx))) → ∃ vk', GS B H fut w' vo (⟨f.e, f.va, vk', f.t.put n⟩ :: r) ∧ Below (H + 1) w w' := fun m w' hw => by
  obtain ⟨g2, cap2, hv2, _, _, _, _, hq⟩ := hm m
  rw [hv] at hv2
  simp only [Value.slice.injEq, Option.some.injEq, Addr.mk.injEq, true_and, and_true] at hv2
  obtain ⟨rfl, rfl⟩ := hv2
  refine ⟨_, hq w' hw, ?_⟩
  have hge : H + 6 ≤ g := by
   obtain ⟨xs, _, k2, _⟩ := f3
   exact (ownsRow_block k2 (g := g) (by rw [hv]; rfl)).1
  rw [hw]
  have hbd : Below (H + 1) w (W0.drewN m) := (hb0.mono (by omega)).trans ⟨rfl, rfl, rfl, Nat.le_refl _, fun _ _ => rfl⟩
  exact hbd.setCell (p := ⟨g, (f.t.ks.length - 1) * 5 + 2, none⟩) (by show H + 1 ≤ g; omega) _
 have hadd : ∀ wx, (Op.stringOp .add (bs k.tx) (bs n.tx)).run Tryz.prog wx = .ok (.string (bs (k.tx ++ n.tx))) wx := fun wx => by
  have h1 := bs_size k.tx
  have h2 := bs_size n.tx
  rw [run_string_add_sum wx (bs k.tx) (bs n.tx) (by omega), bs_add]
 have HF := Lib.hid hfin
 have CC2 := Lib.hid C2
 have HW0 := Lib.hid hW0
 have hgs : g < W0.heap.size := hg1
 have hfz2 : W0.frozen? ⟨g, (f.t.ks.length - 1) * 5 + 2, none⟩ = false := hfz _
 have hc2' : W0.cell? ⟨g, (f.t.ks.length - 1) * 5 + 2, none⟩ = some (.string (bs k.tx)) := hc2
 clear hfin C2 hm hk1 hk2 hk3 hp hv f1 f2 f3 hc0 hc2 hfz hlt h4 h g0 hn hb0 hW0 hg1 hkt ht hk
 rw [hn4] at HW0
 unfold ndV
 rw [hn4]
 unfold topFn at tb tb2
 generalize (f.t.ks.length - 1) * 5 = z at *
 go_enter Tryz.func57, Tryz.ntmps57
 go_wp2_with fail
 rw [← HW0.out]
 refine C1.out.mono ?_
 rintro e w1 ⟨rfl, rfl⟩
 go_wp2_with fail
 refine CC2.out.mono ?_
 rintro e w1 ⟨rfl, m, rfl⟩
 go_wp2_with fail
 go_region
 all_goals
  go_wp2_with fail
  go_end0
  exact ⟨rfl, HF.out (m + 1) _ rfl⟩
theorem nd_cells (w : World) (t : Tr) (va vk : Value) : ∀ j u, (ndC (t, va, vk))[j]? = some u → (w.alloc (.cells #[.int .i64 t.kd, .string (bs t.nm), .string (bs t.tx), va, vk] 25)).cell? ⟨w.heap.size, j, none⟩ = some u := by
 intro j u hj
 match j, hj with
 | 0, hj => simp [ndC] at hj; subst hj; go_simp
 | 1, hj => simp [ndC] at hj; subst hj; go_simp
 | 2, hj => simp [ndC] at hj; subst hj; go_simp
 | 3, hj => simp [ndC] at hj; subst hj; go_simp
 | 4, hj => simp [ndC] at hj; subst hj; go_simp
 | j + 5, hj => simp [ndC] at hj
set_option maxRecDepth 100000 in
set_option maxHeartbeats 16000000 in
theorem put_more {B H : Nat} {fut : List Nat} {w : World} {vo : Value} {f : Fr} {r : List Fr} (h : GS B H fut w vo (f :: r)) (n : Tr) (va vk : Value) (hn : NdOn w (OkB B H fut vo (f :: r)) n va vk) (hl : r.length ≤ 1000) (hk : f.t.ks.length ≤ 100000)
  (h4 : lastTx f.t.ks = false ∨ n.kd ≠ 4) :
  Calls Tryz.prog 57 #[ndV n va vk, .pointer (some ⟨H + 4, 0, none⟩)] w fun e w' => e = .returned (.tuple #[]) ∧ ∃ vk', GS B H fut w' vo (⟨f.e, f.va, vk', f.t.put n⟩ :: r) ∧ Below (H + 1) w w' := by
 have e34 : ∀ args w, (callFunc 56 args).run Tryz.prog w = .ok (.enter 56 args) w := enters_of Tryz.func56 (by kernel_rfl) rfl
 obtain ⟨oa, ja, ok, jk, rfl, rfl⟩ := hn.form
 obtain ⟨W0, hW0⟩ : ∃ W0, W0 = w.alloc (.cells #[.int .i64 n.kd, .string (bs n.nm), .string (bs n.tx), .slice oa n.ats.length ja, .slice ok n.ks.length jk] 25) := ⟨_, rfl⟩
 have hb0 : Below w.heap.size w W0 := by rw [hW0]; exact (Below.refl _ _).alloc (Nat.le_refl _) _
 have hs0 : W0.heap.size = w.heap.size + 1 := by rw [hW0]; simp
 have g0 := h.below hb0
 have n0 := hn.below hb0
 have C1 := fun m => Lib.hid (top_any (g0.draws m) hl)
 obtain ⟨f1, f2, f3⟩ := g0.frs f (by simp)
 have C2 := Lib.hid (lastText_any W0 f.e f.vk f.t.ks f1.cells.2.2.2.2 f3.last (by omega))
 have hsz := h.sz
 have hs4 : H + 4 < w.heap.size := by omega
 have tb : W0.cell? ⟨H + 4, 0, none⟩ = some (topFn H) := by simp [World.cell?, g0.tb]
 have tb2 : w.cell? ⟨H + 4, 0, none⟩ = some (topFn H) := by simp [World.cell?, h.tb]
 have hs5 : H + 4 < W0.heap.size := by omega
 have hse : f.e < W0.heap.size := block_of_heap f1
 have hsn : w.heap.size < W0.heap.size := by omega
 have c4 : W0.cell? ⟨f.e, 4, none⟩ = some f.vk := f1.cells.2.2.2.2
 have d0 : W0.cell? ⟨w.heap.size, 0, none⟩ = some (.int .i64 n.kd) := by rw [hW0]; go_simp
 have d1 : W0.cell? ⟨w.heap.size, 1, none⟩ = some (.string (bs n.nm)) := by rw [hW0]; go_simp
 have d2 : W0.cell? ⟨w.heap.size, 2, none⟩ = some (.string (bs n.tx)) := by rw [hW0]; go_simp
 have d3 : W0.cell? ⟨w.heap.size, 3, none⟩ = some (.slice oa n.ats.length ja) := by rw [hW0]; go_simp
 have d4 : W0.cell? ⟨w.heap.size, 4, none⟩ = some (.slice ok n.ks.length jk) := by rw [hW0]; go_simp
 obtain ⟨ov, jv, hv⟩ := f3.form
 obtain ⟨xs, hx, hown, _⟩ := f3
 have hxl : xs.length = f.t.ks.length := by rw [← hx, List.length_map]
 have hfe : some f.e ≠ f.vk.ownBlock := fun e => by
  have hnd2 := g0.nd
  rw [acts_cons, List.nodup_cons] at hnd2
  exact hnd2.1 (List.mem_append_left _ (by simp [← e]))
 have hfH : f.e ≠ H + 4 ∧ f.e ≠ w.heap.size := by
  have h1 := h.hi f.e (by rw [acts_cons]; exact List.mem_cons_self)
  have h2 := block_of_heap (h.frs f (by simp)).1
  omega
 have hvH : ∀ g, f.vk.ownBlock = some g → g ≠ H + 4 ∧ g ≠ w.heap.size := fun g hg => by
  obtain ⟨ys, _, k2, _⟩ := (h.frs f (by simp)).2.2
  obtain ⟨h1, c, h2⟩ := ownsRow_block k2 hg
  have := block_of_heap h2
  omega
 have hSx : ∀ W : World, W.heap[H + 4]? = W0.heap[H + 4]? → W.heap[w.heap.size]? = W0.heap[w.heap.size]? → W.cell? ⟨H + 4, 0, none⟩ = some (.func (.func 56) #[] #[.pointer (some ⟨H + 3, 0, none⟩)]) ∧ W.cell? ⟨w.heap.size, 0, none⟩ = some (.int .i64 n.kd) ∧ W.cell? ⟨w.heap.size, 1, none⟩ = some (.string (bs n.nm)) ∧ W.cell? ⟨w.heap.size, 2, none⟩ = some (.string (bs n.tx)) ∧ W.cell? ⟨w.heap.size, 3, none⟩ = some (.slice oa n.ats.length ja) ∧ W.cell? ⟨w.heap.size, 4, none⟩ = some (.slice ok n.ks.length jk) := fun W q1 q2 =>
  ⟨(cell_of_block q1 0).trans tb, (cell_of_block q2 0).trans d0, (cell_of_block q2 1).trans d1, (cell_of_block q2 2).trans d2, (cell_of_block q2 3).trans d3, (cell_of_block q2 4).trans d4⟩
 -- what the append leaves
 have hfin : ∀ m g cap w1, w1.ownsRow (H + 6) 25 5 (.slice (some ⟨g, 0, none⟩) (xs.length + 1) cap) (xs.length + 1) (ndsC xs ++ ndC (n, .slice oa n.ats.length ja, .slice ok n.ks.length jk)) →
   ((W0.drewN m).alloc (.cells #[.int .i64 n.kd, .string (bs n.nm), .string (bs n.tx), .slice oa n.ats.length ja, .slice ok n.ks.length jk] 25)).grownBy w1 f.vk.ownBlock → (f.vk.ownBlock = some g ∨ g = W0.heap.size + 1) →
   (w1.cell? ⟨f.e, 4, none⟩ = some f.vk ∧ w1.frozen? ⟨f.e, 4, none⟩ = false) ∧ (w1.cell? ⟨H + 4, 0, none⟩ = some (.func (.func 56) #[] #[.pointer (some ⟨H + 3, 0, none⟩)]) ∧ w1.cell? ⟨w.heap.size, 0, none⟩ = some (.int .i64 n.kd) ∧ w1.cell? ⟨w.heap.size, 1, none⟩ = some (.string (bs n.nm)) ∧ w1.cell? ⟨w.heap.size, 2, none⟩ = some (.string (bs n.tx)) ∧ w1.cell? ⟨w.heap.size, 3, none⟩ = some (.slice oa n.ats.length ja) ∧ w1.cell? ⟨w.heap.size, 4, none⟩ = some (.slice ok n.ks.length jk)) ∧ (∀ v, (w1.setCell ⟨f.e, 4, none⟩ v).cell? ⟨H + 4, 0, none⟩ = some (.func (.func 56) #[] #[.pointer (some ⟨H + 3, 0, none⟩)]) ∧ (w1.setCell ⟨f.e, 4, none⟩ v).cell? ⟨w.heap.size, 0, none⟩ = some (.int .i64 n.kd) ∧ (w1.setCell ⟨f.e, 4, none⟩ v).cell? ⟨w.heap.size, 1, none⟩ = some (.string (bs n.nm)) ∧ (w1.setCell ⟨f.e, 4, none⟩ v).cell? ⟨w.heap.size, 2, none⟩ = some (.string (bs n.tx)) ∧ (w1.setCell ⟨f.e, 4, none⟩ v).cell? ⟨w.heap.size, 3, none⟩ = some (.slice oa n.ats.length ja) ∧ (w1.setCell ⟨f.e, 4, none⟩ v).cell? ⟨w.heap.size, 4, none⟩ = some (.slice ok n.ks.length jk)) ∧ ∀ m2 w', w' = (w1.drewN m2).setCell ⟨f.e, 4, none⟩ (.slice (some ⟨g, 0, none⟩) (xs.length + 1) cap) → ∃ vk', GS B H fut w' vo (⟨f.e, f.va, vk', f.t.put n⟩ :: r) ∧ Below (H + 1) w w' := fun m g cap w1 ho hg hgg => by
  have hsW : ((W0.drewN m).alloc (.cells #[.int .i64 n.kd, .string (bs n.nm), .string (bs n.tx), .slice oa n.ats.length ja, .slice ok n.ks.length jk] 25)).heap.size = W0.heap.size + 1 := by rw [World.size_alloc]; rfl
  have hbl : ∀ b, b < W0.heap.size → some b ≠ f.vk.ownBlock → w1.heap[b]? = W0.heap[b]? := fun b hb hne => (hg.block b (by omega) hne).trans (Below.heap_alloc (W0.drewN m) _ b hb)
  have hsz1 : W0.heap.size ≤ w1.heap.size := by have := hg.size; omega
  have hfe1 : w1.heap[f.e]? = some (.cells (frC f) 25 (0, 0)) := (hbl _ hse hfe).trans f1
  have hb4 := hbl (H + 4) hs5 (fun e => (hvH _ e.symm).1 rfl)
  have hbn := hbl w.heap.size hsn (fun e => (hvH _ e.symm).2 rfl)
  refine ⟨⟨by simp [World.cell?, hfe1, frC], by simp [World.frozen?, hfe1]⟩, hSx w1 hb4 hbn, fun v => hSx _ ((heap_set_ne (Ne.symm hfH.1)).trans hb4) ((heap_set_ne (Ne.symm hfH.2)).trans hbn), fun m2 w' hw => ?_⟩
  have hp := g0.put (w1 := w1.drewN m2) n0 (putK_more h4) (g := g) (cap := cap) (fun ys hy hoy => by
   have : ys.length = xs.length := by have := congrArg List.length hy; simp at this; omega
   have hcs : ndsC ys = ndsC xs := by
    rcases hoy.2 with ⟨q0, q1⟩ | ⟨q, c, cur, q1, _, q2, _, _, _, q3⟩
    ·have hy0 : ys = [] := List.eq_nil_of_length_eq_zero q1
     have hx0 : xs = [] := List.eq_nil_of_length_eq_zero (by omega)
     rw [hy0, hx0]
    ·rcases hown.2 with ⟨p0, p1⟩ | ⟨p, c2, cur2, p1, _, p2, _, _, _, p3⟩
     ·have hy0 : ys = [] := List.eq_nil_of_length_eq_zero (by omega)
      have hx0 : xs = [] := List.eq_nil_of_length_eq_zero p1
      rw [hy0, hx0]
     ·rw [q1] at p1
      simp only [Value.slice.injEq, Option.some.injEq, Addr.mk.injEq, and_true] at p1
      rw [p1.1, p2] at q2
      simp only [Option.some.injEq, Obj.cells.injEq] at q2
      rw [← q3, ← p3, q2.1, this]
   rw [hcs, this]
   exact ho) hbl hsz1 (hgg.imp id (fun e => by omega))
  rw [← hxl, ← hw] at hp
  refine ⟨_, hp, ?_⟩
  have hfeH : H + 1 ≤ f.e := by have := g0.hi f.e (by rw [acts_cons]; exact List.mem_cons_self); omega
  have hb1 : Below (H + 1) w w1 := ((hb0.mono (by omega)).trans ((⟨rfl, rfl, rfl, Nat.le_refl _, fun _ _ => rfl⟩ : Below (H + 1) W0 (W0.drewN m)).alloc (by show H + 1 ≤ W0.heap.size; omega) _)).grown hg (by omega) (fun k hk => by have := (ownsRow_block hown hk).1; omega)
  rw [hw]
  exact (hb1.trans (⟨rfl, rfl, rfl, Nat.le_refl _, fun _ _ => rfl⟩ : Below (H + 1) w1 (w1.drewN m2))).setCell (p := ⟨f.e, 4, none⟩) hfeH _
 have HF := Lib.hid hfin
 have HW0 := Lib.hid hW0
 have HOWN := Lib.hid hown
 have HV := Lib.hid hv
 have hs6 : H + 6 ≤ W0.heap.size := by omega
 have hxl2 : xs.length ≤ 100000 := by omega
 rw [hv] at c4
 have hpp : (lastP f.vk f.t.ks = none) ∨ ((n.kd == 4) = false ∧ ∃ g z, lastP f.vk f.t.ks = some ⟨g, z, none⟩) := by
  cases hlt : lastTx f.t.ks with
  | false => exact .inl (lastP_no hlt)
  | true =>
   obtain ⟨g, j, _, hp⟩ := lastP_yes hlt (g0.frs f (by simp)).2.2.last
   refine .inr ⟨?_, g, _, hp⟩
   rcases h4 with h4 | h4
   ·rw [hlt] at h4; cases h4
   ·simpa using h4
 have cA4 : ∀ k o, ((W0.drewN k).alloc o).cell? ⟨f.e, 4, none⟩ = some (.slice ov f.t.ks.length jv) := fun k o => ((((Below.refl _ _).alloc (Nat.le_refl _) o : Below (W0.drewN k).heap.size (W0.drewN k) _)).cell (p := ⟨f.e, 4, none⟩) hse).trans c4
 have HXL := Lib.hid hxl
 have HS := fun k => Lib.hid (hSx (W0.drewN k) rfl rfl)
 have HSA := fun k o => Lib.hid (hSx ((W0.drewN k).alloc o) (Below.heap_alloc (W0.drewN k) o _ hs5) (Below.heap_alloc (W0.drewN k) o _ hsn))
 have CA := fun k => Lib.hid (top_any (g0.draws k) hl)
 have CB := fun k o => Lib.hid (top_any ((g0.draws k).below ((Below.refl _ _).alloc (Nat.le_refl _) o)) hl)
 have HOA := fun k o => Lib.hid (ownsRow_keep (w' := (W0.drewN k).alloc o) hown (fun g hg => Below.heap_alloc (W0.drewN k) o g (by have := (ownsRow_block hown hg).2; obtain ⟨c, hc⟩ := this; exact block_of_heap hc)))
 rw [hv] at HOA HF
 clear hfin hW0 hown hv g0 n0 h hn f1 f2 hfe hb0 hs0 hx h4 hSx hvH hfH
 have tbA : ∀ k o, ((W0.drewN k).alloc o).cell? ⟨H + 4, 0, none⟩ = some (topFn H) := fun k o => ((((Below.refl _ _).alloc (Nat.le_refl _) o : Below (W0.drewN k).heap.size (W0.drewN k) _)).cell (p := ⟨H + 4, 0, none⟩) hs5).trans tb
 unfold topFn at tb tb2 tbA
 unfold ndV
 rcases hpp with hpp | ⟨k4, gg, zz, hpp⟩
 all_goals
  rw [hpp] at C2
  go_enter Tryz.func57, Tryz.ntmps57
  go_wp2_with fail
  rw [← HW0.out]
  refine (C1 0).out.mono ?_
  rintro e w1 ⟨rfl, rfl⟩
  go_wp2_with fail
  refine C2.out.mono ?_
  rintro e w1 ⟨rfl, m, rfl⟩
  go_wp2_with fail
  refine wp_region_held (S := (fun W => W.cell? ⟨H + 4, 0, none⟩ = some (.func (.func 56) #[] #[.pointer (some ⟨H + 3, 0, none⟩)]) ∧ W.cell? ⟨w.heap.size, 0, none⟩ = some (.int .i64 n.kd) ∧ W.cell? ⟨w.heap.size, 1, none⟩ = some (.string (bs n.nm)) ∧ W.cell? ⟨w.heap.size, 2, none⟩ = some (.string (bs n.tx)) ∧ W.cell? ⟨w.heap.size, 3, none⟩ = some (.slice oa n.ats.length ja) ∧ W.cell? ⟨w.heap.size, 4, none⟩ = some (.slice ok n.ks.length jk))) (by kernel_rfl) ?_
  have hH0 := (HS (m + 1)).out
  change wpAnyH _ _ _ _ _ _ _ _ (W0.drewN (m + 1))
  refine wpAnyH_take (i := 0) (oi := _) (v := (.func (.func 56) #[] #[.pointer (some ⟨H + 3, 0, none⟩)])) rfl (by kernel_rfl) (by kernel_rfl) (by kernel_rfl) (fun _ _ _ h => h) (Or.inl ⟨by rfl, fun W hSw => by dsimp only at hSw; go_simp⟩) hH0 ?_
  simp only [Act.put, List.setIfInBounds_toArray]
  refine wpAnyH_take (i := 2) (oi := _) (v := (.func (.func 56) #[] #[.pointer (some ⟨H + 3, 0, none⟩)])) rfl (by kernel_rfl) (by kernel_rfl) (by kernel_rfl) (fun _ _ _ h => h) (Or.inl ⟨by rfl, fun W hSw => by dsimp only at hSw; go_simp⟩) hH0 ?_
  simp only [Act.put]
  refine wpAnyH_take (i := 7) (oi := _) (v := (.agg #[.int .i64 n.kd, .string (bs n.nm), .string (bs n.tx), .slice oa n.ats.length ja, .slice ok n.ks.length jk])) rfl (by kernel_rfl) (by kernel_rfl) (by kernel_rfl) (fun _ _ _ h => h) (Or.inl ⟨by rfl, fun W hSw => by dsimp only at hSw; go_simp⟩) hH0 ?_
  simp only [Act.put]
  clear hH0
  refine wpAnyH_ready (rs := [1, 8]) (by kernel_rfl) (by simp) ?_
  refine AllReadyH.cons rfl (fun K hK => ?_) (AllReadyH.cons rfl (fun K hK => ?_) (AllReadyH.nil))
  ·go_simp
   refine (CA _).out.mono ?_
   rintro e w4 ⟨rfl, rfl⟩
   refine hK.out _ _ (HS _).out (fun _ => ?_)
   clear hK K
   refine wpAnyH_ready (rs := [3, 8]) (by kernel_rfl) (by simp) ?_
   refine AllReadyH.cons rfl (fun K hK => ?_) (AllReadyH.cons rfl (fun K hK => ?_) (AllReadyH.nil))
   ·go_simp
    refine (CA _).out.mono ?_
    rintro e w4 ⟨rfl, rfl⟩
    refine hK.out _ _ (HS _).out (fun _ => ?_)
    clear hK K
    refine wpAnyH_ready (rs := [4, 8]) (by kernel_rfl) (by simp) ?_
    refine AllReadyH.cons rfl (fun K hK => ?_) (AllReadyH.cons rfl (fun K hK => ?_) (AllReadyH.nil))
    ·go_simp
     refine hK.out _ _ (HS _).out (fun _ => ?_)
     clear hK K
     refine wpAnyH_ready (rs := [5, 8]) (by kernel_rfl) (by simp) ?_
     refine AllReadyH.cons rfl (fun K hK => ?_) (AllReadyH.cons rfl (fun K hK => ?_) (AllReadyH.nil))
     ·go_simp
      refine hK.out _ _ (HS _).out (fun _ => ?_)
      clear hK K
      refine wpAnyH_ready (rs := [6, 8]) (by kernel_rfl) (by simp) ?_
      refine AllReadyH.cons rfl (fun K hK => ?_) (AllReadyH.cons rfl (fun K hK => ?_) (AllReadyH.nil))
      ·go_simp
       refine hK.out _ _ (HS _).out (fun _ => ?_)
       clear hK K
       refine wpAnyH_ready (rs := [8]) (by kernel_rfl) (by simp) ?_
       refine AllReadyH.cons rfl (fun K hK => ?_) (AllReadyH.nil)
       go_simp
       refine hK.out _ _ (HSA _ _).out (fun _ => ?_)
       clear hK K
       refine wpAnyH_ready (rs := [9]) (by kernel_rfl) (by simp) ?_
       refine AllReadyH.cons rfl (fun K hK => ?_) (AllReadyH.nil)
       refine step_pushNd rfl (.tmp 29) (.tmp 31) rfl (n, .slice oa n.ats.length ja, .slice ok n.ks.length jk) ⟨_, _, _, rfl⟩ ⟨_, _, _, rfl⟩ W0.heap.size (HOA _ _).out rfl rfl (nd_cells (W0.drewN (m + 1)) n _ _) (by simp; omega) hxl2 ?_
       intro g cap w5 ho5 hg5 hgg5
       obtain ⟨⟨q1, q2⟩, S5, S6, hq⟩ := HF.out (m + 1) g cap w5 ho5 hg5 (hgg5.imp id (fun e => e.trans (by simp)))
       have HQ := Lib.hid hq
       have H5 := Lib.hid S5
       have H6 := fun v => Lib.hid (S6 v)
       refine hK.out _ _ S5 (fun _ => ?_)
       clear hq ho5 hg5 hgg5 hK S6 S5 K
       refine wpAnyH_ready (rs := [10]) (by kernel_rfl) (by simp) ?_
       refine AllReadyH.cons rfl (fun K hK => ?_) (AllReadyH.nil)
       go_simp
       refine hK.out _ _ H5.out (fun _ => ?_)
       clear hK K
       refine wpAnyH_ready (rs := [11]) (by kernel_rfl) (by simp) ?_
       refine AllReadyH.cons rfl (fun K hK => ?_) (AllReadyH.nil)
       go_simp
       refine hK.out _ _ H5.out (fun _ => ?_)
       clear hK K
       refine wpAnyH_ready (rs := [12]) (by kernel_rfl) (by simp) ?_
       refine AllReadyH.cons rfl (fun K hK => ?_) (AllReadyH.nil)
       go_simp
       refine hK.out _ _ (H6 _).out (fun _ => ?_)
       clear hK K
       refine wpAnyH_done (by kernel_rfl) ?_ _
       go_wp2_with fail
       go_end0
       exact ⟨rfl, HQ.out 0 _ (by rw [HXL.out]; rfl)⟩
      ·go_simp
       refine hK.out _ _ (HSA _ _).out (fun _ => ?_)
       clear hK K
       refine wpAnyH_ready (rs := [6]) (by kernel_rfl) (by simp) ?_
       refine AllReadyH.cons rfl (fun K hK => ?_) (AllReadyH.nil)
       go_simp
       refine hK.out _ _ (HSA _ _).out (fun _ => ?_)
       clear hK K
       refine wpAnyH_ready (rs := [9]) (by kernel_rfl) (by simp) ?_
       refine AllReadyH.cons rfl (fun K hK => ?_) (AllReadyH.nil)
       refine step_pushNd rfl (.tmp 29) (.tmp 31) rfl (n, .slice oa n.ats.length ja, .slice ok n.ks.length jk) ⟨_, _, _, rfl⟩ ⟨_, _, _, rfl⟩ W0.heap.size (HOA _ _).out rfl rfl (nd_cells (W0.drewN (m + 1)) n _ _) (by simp; omega) hxl2 ?_
       intro g cap w5 ho5 hg5 hgg5
       obtain ⟨⟨q1, q2⟩, S5, S6, hq⟩ := HF.out (m + 1) g cap w5 ho5 hg5 (hgg5.imp id (fun e => e.trans (by simp)))
       have HQ := Lib.hid hq
       have H5 := Lib.hid S5
       have H6 := fun v => Lib.hid (S6 v)
       refine hK.out _ _ S5 (fun _ => ?_)
       clear hq ho5 hg5 hgg5 hK S6 S5 K
       refine wpAnyH_ready (rs := [10]) (by kernel_rfl) (by simp) ?_
       refine AllReadyH.cons rfl (fun K hK => ?_) (AllReadyH.nil)
       go_simp
       refine hK.out _ _ H5.out (fun _ => ?_)
       clear hK K
       refine wpAnyH_ready (rs := [11]) (by kernel_rfl) (by simp) ?_
       refine AllReadyH.cons rfl (fun K hK => ?_) (AllReadyH.nil)
       go_simp
       refine hK.out _ _ H5.out (fun _ => ?_)
       clear hK K
       refine wpAnyH_ready (rs := [12]) (by kernel_rfl) (by simp) ?_
       refine AllReadyH.cons rfl (fun K hK => ?_) (AllReadyH.nil)
       go_simp
       refine hK.out _ _ (H6 _).out (fun _ => ?_)
       clear hK K
       refine wpAnyH_done (by kernel_rfl) ?_ _
       go_wp2_with fail
       go_end0
       exact ⟨rfl, HQ.out 0 _ (by rw [HXL.out]; rfl)⟩
     ·go_simp
      refine hK.out _ _ (HSA _ _).out (fun _ => ?_)
      clear hK K
      refine wpAnyH_ready (rs := [5]) (by kernel_rfl) (by simp) ?_
      refine AllReadyH.cons rfl (fun K hK => ?_) (AllReadyH.nil)
      go_simp
      refine hK.out _ _ (HSA _ _).out (fun _ => ?_)
      clear hK K
      refine wpAnyH_ready (rs := [6]) (by kernel_rfl) (by simp) ?_
      refine AllReadyH.cons rfl (fun K hK => ?_) (AllReadyH.nil)
      go_simp
      refine hK.out _ _ (HSA _ _).out (fun _ => ?_)
      clear hK K
      refine wpAnyH_ready (rs := [9]) (by kernel_rfl) (by simp) ?_
      refine AllReadyH.cons rfl (fun K hK => ?_) (AllReadyH.nil)
      refine step_pushNd rfl (.tmp 29) (.tmp 31) rfl (n, .slice oa n.ats.length ja, .slice ok n.ks.length jk) ⟨_, _, _, rfl⟩ ⟨_, _, _, rfl⟩ W0.heap.size (HOA _ _).out rfl rfl (nd_cells (W0.drewN (m + 1)) n _ _) (by simp; omega) hxl2 ?_
      intro g cap w5 ho5 hg5 hgg5
      obtain ⟨⟨q1, q2⟩, S5, S6, hq⟩ := HF.out (m + 1) g cap w5 ho5 hg5 (hgg5.imp id (fun e => e.trans (by simp)))
      have HQ := Lib.hid hq
      have H5 := Lib.hid S5
      have H6 := fun v => Lib.hid (S6 v)
      refine hK.out _ _ S5 (fun _ => ?_)
      clear hq ho5 hg5 hgg5 hK S6 S5 K
      refine wpAnyH_ready (rs := [10]) (by kernel_rfl) (by simp) ?_
      refine AllReadyH.cons rfl (fun K hK => ?_) (AllReadyH.nil)
      go_simp
      refine hK.out _ _ H5.out (fun _ => ?_)
      clear hK K
      refine wpAnyH_ready (rs := [11]) (by kernel_rfl) (by simp) ?_
      refine AllReadyH.cons rfl (fun K hK => ?_) (AllReadyH.nil)
      go_simp
      refine hK.out _ _ H5.out (fun _ => ?_)
      clear hK K
      refine wpAnyH_ready (rs := [12]) (by kernel_rfl) (by simp) ?_
      refine AllReadyH.cons rfl (fun K hK => ?_) (AllReadyH.nil)
      go_simp
      refine hK.out _ _ (H6 _).out (fun _ => ?_)
      clear hK K
      refine wpAnyH_done (by kernel_rfl) ?_ _
      go_wp2_with fail
      go_end0
      exact ⟨rfl, HQ.out 0 _ (by rw [HXL.out]; rfl)⟩
    ·go_simp
     refine hK.out _ _ (HSA _ _).out (fun _ => ?_)
     clear hK K
     refine wpAnyH_ready (rs := [4]) (by kernel_rfl) (by simp) ?_
     refine AllReadyH.cons rfl (fun K hK => ?_) (AllReadyH.nil)
     go_simp
     refine hK.out _ _ (HSA _ _).out (fun _ => ?_)
     clear hK K
     refine wpAnyH_ready (rs := [5]) (by kernel_rfl) (by simp) ?_
     refine AllReadyH.cons rfl (fun K hK => ?_) (AllReadyH.nil)
     go_simp
     refine hK.out _ _ (HSA _ _).out (fun _ => ?_)
     clear hK K
     refine wpAnyH_ready (rs := [6]) (by kernel_rfl) (by simp) ?_
     refine AllReadyH.cons rfl (fun K hK => ?_) (AllReadyH.nil)
     go_simp
     refine hK.out _ _ (HSA _ _).out (fun _ => ?_)
     clear hK K
     refine wpAnyH_ready (rs := [9]) (by kernel_rfl) (by simp) ?_
     refine AllReadyH.cons rfl (fun K hK => ?_) (AllReadyH.nil)
     refine step_pushNd rfl (.tmp 29) (.tmp 31) rfl (n, .slice oa n.ats.length ja, .slice ok n.ks.length jk) ⟨_, _, _, rfl⟩ ⟨_, _, _, rfl⟩ W0.heap.size (HOA _ _).out rfl rfl (nd_cells (W0.drewN (m + 1)) n _ _) (by simp; omega) hxl2 ?_
     intro g cap w5 ho5 hg5 hgg5
     obtain ⟨⟨q1, q2⟩, S5, S6, hq⟩ := HF.out (m + 1) g cap w5 ho5 hg5 (hgg5.imp id (fun e => e.trans (by simp)))
     have HQ := Lib.hid hq
     have H5 := Lib.hid S5
     have H6 := fun v => Lib.hid (S6 v)
     refine hK.out _ _ S5 (fun _ => ?_)
     clear hq ho5 hg5 hgg5 hK S6 S5 K
     refine wpAnyH_ready (rs := [10]) (by kernel_rfl) (by simp) ?_
     refine AllReadyH.cons rfl (fun K hK => ?_) (AllReadyH.nil)
     go_simp
     refine hK.out _ _ H5.out (fun _ => ?_)
     clear hK K
     refine wpAnyH_ready (rs := [11]) (by kernel_rfl) (by simp) ?_
     refine AllReadyH.cons rfl (fun K hK => ?_) (AllReadyH.nil)
     go_simp
     refine hK.out _ _ H5.out (fun _ => ?_)
     clear hK K
     refine wpAnyH_ready (rs := [12]) (by kernel_rfl) (by simp) ?_
     refine AllReadyH.cons rfl (fun K hK => ?_) (AllReadyH.nil)
     go_simp
     refine hK.out _ _ (H6 _).out (fun _ => ?_)
     clear hK K
     refine wpAnyH_done (by kernel_rfl) ?_ _
     go_wp2_with fail
     go_end0
     exact ⟨rfl, HQ.out 0 _ (by rw [HXL.out]; rfl)⟩
   ·go_simp
    refine hK.out _ _ (HSA _ _).out (fun _ => ?_)
    clear hK K
    refine wpAnyH_ready (rs := [3]) (by kernel_rfl) (by simp) ?_
    refine AllReadyH.cons rfl (fun K hK => ?_) (AllReadyH.nil)
    go_simp
    refine (CB _ _).out.mono ?_
    rintro e w4 ⟨rfl, rfl⟩
    refine hK.out _ _ (HSA _ _).out (fun _ => ?_)
    clear hK K
    refine wpAnyH_ready (rs := [4]) (by kernel_rfl) (by simp) ?_
    refine AllReadyH.cons rfl (fun K hK => ?_) (AllReadyH.nil)
    go_simp
    refine hK.out _ _ (HSA _ _).out (fun _ => ?_)
    clear hK K
    refine wpAnyH_ready (rs := [5]) (by kernel_rfl) (by simp) ?_
    refine AllReadyH.cons rfl (fun K hK => ?_) (AllReadyH.nil)
    go_simp
    refine hK.out _ _ (HSA _ _).out (fun _ => ?_)
    clear hK K
    refine wpAnyH_ready (rs := [6]) (by kernel_rfl) (by simp) ?_
    refine AllReadyH.cons rfl (fun K hK => ?_) (AllReadyH.nil)
    go_simp
    refine hK.out _ _ (HSA _ _).out (fun _ => ?_)
    clear hK K
    refine wpAnyH_ready (rs := [9]) (by kernel_rfl) (by simp) ?_
    refine AllReadyH.cons rfl (fun K hK => ?_) (AllReadyH.nil)
    refine step_pushNd rfl (.tmp 29) (.tmp 31) rfl (n, .slice oa n.ats.length ja, .slice ok n.ks.length jk) ⟨_, _, _, rfl⟩ ⟨_, _, _, rfl⟩ W0.heap.size (HOA _ _).out rfl rfl (nd_cells (W0.drewN (m + 1)) n _ _) (by simp; omega) hxl2 ?_
    intro g cap w5 ho5 hg5 hgg5
    obtain ⟨⟨q1, q2⟩, S5, S6, hq⟩ := HF.out (m + 1) g cap w5 ho5 hg5 (hgg5.imp id (fun e => e.trans (by simp)))
    have HQ := Lib.hid hq
    have H5 := Lib.hid S5
    have H6 := fun v => Lib.hid (S6 v)
    refine hK.out _ _ S5 (fun _ => ?_)
    clear hq ho5 hg5 hgg5 hK S6 S5 K
    refine wpAnyH_ready (rs := [10]) (by kernel_rfl) (by simp) ?_
    refine AllReadyH.cons rfl (fun K hK => ?_) (AllReadyH.nil)
    go_simp
    refine hK.out _ _ H5.out (fun _ => ?_)
    clear hK K
    refine wpAnyH_ready (rs := [11]) (by kernel_rfl) (by simp) ?_
    refine AllReadyH.cons rfl (fun K hK => ?_) (AllReadyH.nil)
    go_simp
    refine hK.out _ _ H5.out (fun _ => ?_)
    clear hK K
    refine wpAnyH_ready (rs := [12]) (by kernel_rfl) (by simp) ?_
    refine AllReadyH.cons rfl (fun K hK => ?_) (AllReadyH.nil)
    go_simp
    refine hK.out _ _ (H6 _).out (fun _ => ?_)
    clear hK K
    refine wpAnyH_done (by kernel_rfl) ?_ _
    go_wp2_with fail
    go_end0
    exact ⟨rfl, HQ.out 0 _ (by rw [HXL.out]; rfl)⟩
  ·go_simp
   refine hK.out _ _ (HSA _ _).out (fun _ => ?_)
   clear hK K
   refine wpAnyH_ready (rs := [1]) (by kernel_rfl) (by simp) ?_
   refine AllReadyH.cons rfl (fun K hK => ?_) (AllReadyH.nil)
   go_simp
   refine (CB _ _).out.mono ?_
   rintro e w4 ⟨rfl, rfl⟩
   refine hK.out _ _ (HSA _ _).out (fun _ => ?_)
   clear hK K
   refine wpAnyH_ready (rs := [3]) (by kernel_rfl) (by simp) ?_
   refine AllReadyH.cons rfl (fun K hK => ?_) (AllReadyH.nil)
   go_simp
   refine (CB _ _).out.mono ?_
   rintro e w4 ⟨rfl, rfl⟩
   refine hK.out _ _ (HSA _ _).out (fun _ => ?_)
   clear hK K
   refine wpAnyH_ready (rs := [4]) (by kernel_rfl) (by simp) ?_
   refine AllReadyH.cons rfl (fun K hK => ?_) (AllReadyH.nil)
   go_simp
   refine hK.out _ _ (HSA _ _).out (fun _ => ?_)
   clear hK K
   refine wpAnyH_ready (rs := [5]) (by kernel_rfl) (by simp) ?_
   refine AllReadyH.cons rfl (fun K hK => ?_) (AllReadyH.nil)
   go_simp
   refine hK.out _ _ (HSA _ _).out (fun _ => ?_)
   clear hK K
   refine wpAnyH_ready (rs := [6]) (by kernel_rfl) (by simp) ?_
   refine AllReadyH.cons rfl (fun K hK => ?_) (AllReadyH.nil)
   go_simp
   refine hK.out _ _ (HSA _ _).out (fun _ => ?_)
   clear hK K
   refine wpAnyH_ready (rs := [9]) (by kernel_rfl) (by simp) ?_
   refine AllReadyH.cons rfl (fun K hK => ?_) (AllReadyH.nil)
   refine step_pushNd rfl (.tmp 29) (.tmp 31) rfl (n, .slice oa n.ats.length ja, .slice ok n.ks.length jk) ⟨_, _, _, rfl⟩ ⟨_, _, _, rfl⟩ W0.heap.size (HOA _ _).out rfl rfl (nd_cells (W0.drewN (m + 1)) n _ _) (by simp; omega) hxl2 ?_
   intro g cap w5 ho5 hg5 hgg5
   obtain ⟨⟨q1, q2⟩, S5, S6, hq⟩ := HF.out (m + 1) g cap w5 ho5 hg5 (hgg5.imp id (fun e => e.trans (by simp)))
   have HQ := Lib.hid hq
   have H5 := Lib.hid S5
   have H6 := fun v => Lib.hid (S6 v)
   refine hK.out _ _ S5 (fun _ => ?_)
   clear hq ho5 hg5 hgg5 hK S6 S5 K
   refine wpAnyH_ready (rs := [10]) (by kernel_rfl) (by simp) ?_
   refine AllReadyH.cons rfl (fun K hK => ?_) (AllReadyH.nil)
   go_simp
   refine hK.out _ _ H5.out (fun _ => ?_)
   clear hK K
   refine wpAnyH_ready (rs := [11]) (by kernel_rfl) (by simp) ?_
   refine AllReadyH.cons rfl (fun K hK => ?_) (AllReadyH.nil)
   go_simp
   refine hK.out _ _ H5.out (fun _ => ?_)
   clear hK K
   refine wpAnyH_ready (rs := [12]) (by kernel_rfl) (by simp) ?_
   refine AllReadyH.cons rfl (fun K hK => ?_) (AllReadyH.nil)
   go_simp
   refine hK.out _ _ (H6 _).out (fun _ => ?_)
   clear hK K
   refine wpAnyH_done (by kernel_rfl) ?_ _
   go_wp2_with fail
   go_end0
   exact ⟨rfl, HQ.out 0 _ (by rw [HXL.out]; rfl)⟩
theorem put_any {B H : Nat} {fut : List Nat} {w : World} {vo : Value} {f : Fr} {r : List Fr} (h : GS B H fut w vo (f :: r)) (n : Tr) (va vk : Value) (hn : NdOn w (OkB B H fut vo (f :: r)) n va vk) (hl : r.length ≤ 1000) (hk : f.t.ks.length ≤ 100000)
  (ht : n.tx.length ≤ 1099511627776) (hlt : ∀ k, k ∈ f.t.ks → k.tx.length ≤ 1099511627776) :
  Calls Tryz.prog 57 #[ndV n va vk, .pointer (some ⟨H + 4, 0, none⟩)] w fun e w' => e = .returned (.tuple #[]) ∧ ∃ vk', GS B H fut w' vo (⟨f.e, f.va, vk', f.t.put n⟩ :: r) ∧ Below (H + 1) w w' := by
 by_cases h4 : lastTx f.t.ks = true ∧ n.kd = 4
 ·exact put_merge h n va vk hn hl hk ht hlt h4.1 h4.2
 ·refine put_more h n va vk hn hl hk ?_
  cases hb : lastTx f.t.ks with
  | false => exact .inl rfl
  | true => exact .inr (fun e => h4 ⟨hb, e⟩)
end Char
end Go.Proofs.YtlmodgnkmlbjhaaGreatDoor
