import Derived.Test.YtlmodgnkmlbjhaaGreatDoorPkScanP
import Derived.Test.YtlmodgnkmlbjhaaGreatDoorPkPiece
import Derived.Defers
import Derived.Recover
import Derived.Deep.RegionLaw
import Derived.Deep.RegionWith
import Derived.Deep.RegionHeld3
import Derived.Deep.AppendLies
namespace Go.Proofs.YtlmodgnkmlbjhaaGreatDoor
namespace Char
open Go.RowKit Go.Lib
theorem asc0_lt (c : UInt8) (r : List UInt8) (h : c.toNat < 128) : txD (c :: r) = true → txD r = true := fun ht => tx_behind [c] r (by simp [h]) ht
theorem must_tx {u : List UInt8} (h : txD u = true) (hm : mustL u 62 = 0) : txD (u.drop 1) = true := by
 cases u with
 | nil => rfl
 | cons c t =>
  by_cases hc : c = 62
  ·subst hc
   exact tx_behind [62] t (by decide) h
  ·simp [mustL, hc] at hm
theorem idx_natP {u m : List UInt8} (h : ¬ index u m = -1) : ∃ i : Nat, index u m = (i : Int) := by
 rcases index_spec u m with ⟨h1, _⟩ | ⟨j, h1, _⟩
 ·exact absurd h1 h
 ·exact ⟨j, h1⟩
theorem tagF_tx : ∀ (n : Nat) (r : List UInt8) (qs qs' : List At2) (em : Bool) (rest : List UInt8), r.length ≤ n → txD r = true → tagF r qs = .inr (qs', em, rest) → txD rest = true
 | n, r, qs, qs', em, rest, hn, ht, h => by
  have hu := tx_spc ht
  by_cases hgo : 0 < spcL r ∧ [47].isPrefixOf (r.drop (spcL r)) = false ∧ [62].isPrefixOf (r.drop (spcL r)) = false
  ·obtain ⟨g0, g1, g2⟩ := hgo
   rw [tag_go g0 g1 g2] at h
   cases ha : attP (r.drop (spcL r)) qs with
   | inl e => rw [ha] at h; cases h
   | inr x =>
    obtain ⟨m, t, r2⟩ := x
    rw [ha] at h
    obtain ⟨h1, h2⟩ := attP_tx hu ha
    rw [List.length_drop] at h2
    match n, hn with
    | 0, hn => omega
    | n + 1, hn => exact tagF_tx n r2 _ _ _ _ (by omega) h1 h
  ·rw [tag_fin hgo] at h
   generalize r.drop (spcL r) = u at *
   unfold finQ at h
   split at h
   ·cases h
   ·rename_i hm
    simp only [Sum.inr.injEq, Prod.mk.injEq] at h
    rw [← h.2.2]
    have hs : txD (sl47 u) = true := by
     unfold sl47
     split
     ·rename_i hp
      exact tx_take (m := [47]) (by decide) hp hu
     ·exact hu
    exact must_tx hs (by simpa using hm)
theorem oneP_tx {r : List UInt8} {t : Tk} {rest : List UInt8} (ht : txD r = true) (h : oneP r = .inr (t, rest)) : txD rest = true := by
 unfold oneP at h
 split at h
 ·rename_i hp
  have hd := tx_take (m := [60, 33, 45, 45]) (by decide) hp ht
  change txD (r.drop 4) = true at hd
  generalize r.drop 4 = u at *
  unfold comP at h
  split at h
  ·cases h
  ·rename_i hi
   split at h
   ·rename_i h2
    simp only [Sum.inr.injEq, Prod.mk.injEq] at h
    rw [← h.2]
    obtain ⟨i, hi2⟩ := idx_natP hi
    rw [hi2, Int.toNat_natCast] at h2 ⊢
    obtain ⟨_, k2, _⟩ := tx_cut (m := [45, 45]) (by simp) (by decide) hi2 hd
    have k3 := tx_take (m := [62]) (by decide) h2 k2
    rw [List.drop_drop] at k3
    exact k3
   ·cases h
 ·split at h
  ·rename_i hp
   have hd := tx_take (m := [60, 33, 91, 67, 68, 65, 84, 65, 91]) (by decide) hp ht
   change txD (r.drop 9) = true at hd
   generalize r.drop 9 = u at *
   unfold datP at h
   split at h
   ·cases h
   ·rename_i hi
    simp only [Sum.inr.injEq, Prod.mk.injEq] at h
    rw [← h.2]
    obtain ⟨i, hi2⟩ := idx_natP hi
    rw [hi2, Int.toNat_natCast]
    exact (tx_cut (m := [93, 93, 62]) (by simp) (by decide) hi2 hd).2.1
  ·split at h
   ·rename_i hp
    have hd := tx_take (m := [60, 63]) (by decide) hp ht
    change txD (r.drop 2) = true at hd
    generalize r.drop 2 = u at *
    unfold insP at h
    split at h
    ·cases h
    ·rename_i hi
     split at h
     ·cases h
     ·simp only [Sum.inr.injEq, Prod.mk.injEq] at h
      rw [← h.2]
      obtain ⟨i, hi2⟩ := idx_natP hi
      rw [hi2, Int.toNat_natCast]
      exact (tx_cut (m := [63, 62]) (by simp) (by decide) hi2 hd).2.1
   ·split at h
    ·rename_i hp
     have hd := tx_take (m := [60, 47]) (by decide) hp ht
     change txD (r.drop 2) = true at hd
     generalize r.drop 2 = u at *
     unfold endP at h
     split at h
     ·cases h
     ·split at h
      ·cases h
      ·rename_i hm
       simp only [Sum.inr.injEq, Prod.mk.injEq] at h
       rw [← h.2]
       have k1 := tx_spc (tx_run hd)
       rw [List.drop_drop] at k1
       have k2 := must_tx k1 (by simpa using hm)
       rw [List.drop_drop] at k2
       exact k2
    ·split at h
     ·cases h
     ·split at h
      ·rename_i hp
       have hd := tx_take (m := [60]) (by decide) hp ht
       change txD (r.drop 1) = true at hd
       generalize r.drop 1 = u at *
       unfold staP tagL at h
       split at h
       ·cases h
       ·rename_i hh
        split at hh
        ·cases hh
        ·cases hf : tagF (u.drop (runL u)) [] with
         | inl e => rw [hf] at hh; cases hh
         | inr y =>
          obtain ⟨qs1, em1, rest1⟩ := y
          rw [hf] at hh
          simp only [Sum.inr.injEq, Prod.mk.injEq] at h hh
          rw [← h.2, ← hh.2.2.2]
          exact tagF_tx _ _ _ _ _ _ (Nat.le_refl _) (tx_run hd) hf
      ·unfold txtP at h
       split at h
       ·cases h
       ·simp only [Sum.inr.injEq, Prod.mk.injEq] at h
        rw [← h.2]
        rw [lt_tl _ _ (Nat.le_refl _)]
        exact tx_tl _ _ _ (Nat.le_refl _) ht
end Char
namespace Char
open Go.RowKit Go.Lib Go.Shelf
set_option maxRecDepth 100000 in
set_option maxHeartbeats 4000000 in
theorem catch_idle (p q : Addr) (w : World) :
  CallsD Tryz.prog 87 #[.pointer (some p), .pointer (some q)] .returning w fun e u' w' => e = .returned (.tuple #[]) ∧ u' = .returning ∧ w' = w := by
 refine callsD_of_wpS Tryz.func87 rfl fun c₀ cs hu => ?_
 apply wpS_seq
 apply wpS_region
 simp [wpOpsS, go_sem, recoverD, hu, Tryz.ntmps87, Exit.thenS]
 apply wpS_seq
 apply wpS_region
 simp [wpOpsS, go_sem, Exit.thenS]
 refine wpS_cond (t := false) (by simp [Act.eval, Array.replicate]) ?_
 simp only [Bool.false_eq_true, if_false]
 refine wpS_of_wp (wp_skip ?_)
 cases c₀
 simp_all [bodyPostS, results, Tryz.results87]
set_option maxRecDepth 100000 in
set_option maxHeartbeats 4000000 in
theorem catch_panicking (A : Nat) (err : Nat) (older : List PanicEntry) (w : World) (v0 v1 : Value) (hp : w.cell? ⟨A, 0, none⟩ = some v0) (hq : w.cell? ⟨A + 1, 0, none⟩ = some v1) (hfp : w.frozen? ⟨A, 0, none⟩ = false) (hfq : w.frozen? ⟨A + 1, 0, none⟩ = false) :
  CallsD Tryz.prog 87 #[.pointer (some ⟨A, 0, none⟩), .pointer (some ⟨A + 1, 0, none⟩)] (.panicking ({ v := .iface 30 (.int .i64 (err : Int)), recovered := false } :: older)) w fun e u' w' =>
   e = .returned (.tuple #[]) ∧ u' = .panicking ({ v := .iface 30 (.int .i64 (err : Int)), recovered := true } :: older) ∧ w' = ((w.setCell ⟨A, 0, none⟩ (.slice none 0 0)).setCell ⟨A + 1, 0, none⟩ (.int .i64 (err : Int))).drew := by
 refine callsD_of_wpS Tryz.func87 rfl fun c₀ cs hu => ?_
 apply wpS_seq
 apply wpS_region
 simp [wpOpsS, go_sem, recoverD, hu, Tryz.ntmps87, Exit.thenS]
 apply wpS_seq
 apply wpS_region
 simp [wpOpsS, go_sem, Exit.thenS]
 refine wpS_cond (t := true) (by simp [Act.eval, Array.replicate]) ?_
 simp only [if_true]
 refine wpS_of_wp ?_
 generalize hQ : (fun (e : Exit) (a' : Act) (w' : World) => bodyPostS Tryz.prog Tryz.f87 c₀ cs _ e a' _ w') = Q
 change Code.wp _ _ _ { tmps := #[.pointer (some ⟨A, 0, none⟩), .pointer (some ⟨A + 1, 0, none⟩), .iface 30 (.int .i64 (err : Int)), .iface 30 (.int .i64 (err : Int)), .iface 30 (.int .i64 (err : Int)), .bool true, undef, undef], defers := [] } w
 have hta : ∀ w : World, (Instr.typeAssert (.iface 30 (.int .i64 (err : Int))) 20 30 false).run Tryz.prog w = .ok (.int .i64 (err : Int)) w := fun _ => by kernel_rfl
 go_region
 subst hQ
 simp [bodyPostS, results, Tryz.results87]
end Char
namespace Char
open Go.RowKit Go.Lib Go.Shelf
def onlyN (Q : Exit → Act → World → Prop) : Exit → Act → World → Prop
 | .normal, a, w => Q .normal a w
 | _, _, _ => False
theorem wp_onlyN {P : Program} {c : Code} {Q : Exit → Act → World → Prop} {a : Act} {w : World} (h : c.wp P (onlyN Q) a w) : c.wp P Q a w :=
 Code.wp_mono (fun e a w h => by cases e <;> first | exact h | exact h.elim) h
def ApartT (xs : List TkV) : Prop := (xs.filterMap fun x => x.2.ownBlock).Nodup
theorem OwnsAt.block {B : Nat} {w : World} {v : Value} {qs : List At2} (h : OwnsAt B w v qs) {g : Nat} (hg : v.ownBlock = some g) : B ≤ g ∧ g < w.heap.size := by
 rcases h.2 with ⟨h0, _⟩ | ⟨g', cap, cur, e1, e2, hb, _⟩
 ·rw [h0] at hg; cases hg
 ·rw [e1] at hg
  simp [Value.ownBlock] at hg
  subst hg
  exact ⟨e2, (Array.getElem?_eq_some_iff.1 hb).1⟩
theorem ApartT.snoc {B C : Nat} {W W2 : World} {v : Value} {xs : List TkV} {t : TkV} (h : ApartT xs) (ho : OwnsTk B W v xs) (hz : W.heap.size ≤ C) (ht : OwnsAt C W2 t.2 t.1.ats) : ApartT (xs ++ [t]) := by
 unfold ApartT at h ⊢
 rw [List.filterMap_append, List.nodup_append]
 refine ⟨h, ?_, ?_⟩
 ·cases hb : t.2.ownBlock <;> simp [hb]
 ·intro a ha b hb
  rw [List.mem_filterMap] at ha hb
  obtain ⟨x, hx, hxa⟩ := ha
  obtain ⟨y, hy, hyb⟩ := hb
  rw [List.mem_singleton] at hy
  subst hy
  have h1 := (ho.2 x hx).block hxa
  have h2 := ht.block hyb
  omega
def PzP (R : Nat) (x : Nat ⊕ List Tk) (w : World) (e : Ending) (w' : World) : Prop := match x with
 | .inl err => e = .returned (.tuple #[.slice none 0 0, .int .i64 (err : Int)]) ∧ But R w w'
 | .inr ts => ∃ (xs : List TkV) (o : Option Addr) (i j : Nat), xs.map (·.1) = ts ∧ e = .returned (.tuple #[.slice o i j, .int .i64 0]) ∧ OwnsTk w.heap.size w' (.slice o i j) xs ∧ But R w w' ∧ ApartT xs
structure PzK (R : Nat) (w : World) (v : Value) (xs : List TkV) (cur : List UInt8) (W : World) : Prop where
 rd : RdB R cur W
 env : Env R W
 all : W.cell? ⟨w.heap.size, 0, none⟩ = some v ∧ W.frozen? ⟨w.heap.size, 0, none⟩ = false
 wrong : W.cell? ⟨w.heap.size + 1, 0, none⟩ = some (.int .i64 0) ∧ W.frozen? ⟨w.heap.size + 1, 0, none⟩ = false
 own : OwnsTk (w.heap.size + 2) W v xs
 but : But R w W
 hr : R < w.heap.size
 sz : w.heap.size + 2 ≤ W.heap.size
theorem PzK.next {R : Nat} {w : World} {v : Value} {xs : List TkV} {cur cur' : List UInt8} {W W2 : World} (h : PzK R w v xs cur W) (hr : RdB R cur' W2) (hb : But R W W2) : PzK R w v xs cur' W2 := by
 have e0 := hb.2 w.heap.size (by have := h.sz; omega) (by have := h.hr; omega)
 have e1 := hb.2 (w.heap.size + 1) (by have := h.sz; omega) (by have := h.hr; omega)
 exact ⟨hr, h.env.but hb, ⟨(cell_of_block e0 0).trans h.all.1, (frozen_of_block e0 0).trans h.all.2⟩, ⟨(cell_of_block e1 0).trans h.wrong.1, (frozen_of_block e1 0).trans h.wrong.2⟩, h.own.keep (fun k hk hk2 => hb.2 k hk2 (by have := h.hr; omega)), h.but.trans hb, h.hr, Nat.le_trans h.sz hb.size⟩
theorem PzK.drew {R : Nat} {w : World} {v : Value} {xs : List TkV} {cur : List UInt8} {W : World} (h : PzK R w v xs cur W) : PzK R w v xs cur W.drew :=
 h.next (h.rd.below ((Below.refl _ _).drew)) (But.of ((Below.refl _ _).drew) h.rd.2.2)
theorem PzK.vars {R : Nat} {w : World} {v : Value} {xs : List TkV} {cur : List UInt8} {W W2 : World} (h : PzK R w v xs cur W) (hb : But R W W2) : (W2.cell? ⟨w.heap.size, 0, none⟩ = some v ∧ W2.frozen? ⟨w.heap.size, 0, none⟩ = false) ∧ (W2.cell? ⟨w.heap.size + 1, 0, none⟩ = some (.int .i64 0) ∧ W2.frozen? ⟨w.heap.size + 1, 0, none⟩ = false) := by
 have e0 := hb.2 w.heap.size (by have := h.sz; omega) (by have := h.hr; omega)
 have e1 := hb.2 (w.heap.size + 1) (by have := h.sz; omega) (by have := h.hr; omega)
 exact ⟨⟨(cell_of_block e0 0).trans h.all.1, (frozen_of_block e0 0).trans h.all.2⟩, ⟨(cell_of_block e1 0).trans h.wrong.1, (frozen_of_block e1 0).trans h.wrong.2⟩⟩
theorem PzK.varsE {R : Nat} {w : World} {v : Value} {xs : List TkV} {cur : List UInt8} {W W1 W2 : World} (h : PzK R w v xs cur W) (h1 : Below W.heap.size W W1) (h2 : Below (w.heap.size + 2) W1 W2) : (W2.cell? ⟨w.heap.size, 0, none⟩ = some v ∧ W2.frozen? ⟨w.heap.size, 0, none⟩ = false) ∧ (W2.cell? ⟨w.heap.size + 1, 0, none⟩ = some (.int .i64 0) ∧ W2.frozen? ⟨w.heap.size + 1, 0, none⟩ = false) := by
 have hs := h.sz
 have e0 := (h2.block w.heap.size (by omega)).trans (h1.block w.heap.size (by omega))
 have e1 := (h2.block (w.heap.size + 1) (by omega)).trans (h1.block (w.heap.size + 1) (by omega))
 exact ⟨⟨(cell_of_block e0 0).trans h.all.1, (frozen_of_block e0 0).trans h.all.2⟩, ⟨(cell_of_block e1 0).trans h.wrong.1, (frozen_of_block e1 0).trans h.wrong.2⟩⟩
theorem tk_cells (w : World) (t : Tk) (v : Value) : ∀ j u, (tkC (t, v))[j]? = some u → (w.alloc (.cells #[.int .i64 t.kd, .string (bs t.nm), .string (bs t.tx), v, .bool t.em] 72)).cell? ⟨w.heap.size, j, none⟩ = some u := by
 intro j u hj
 match j, hj with
 | 0, hj => simp [tkC] at hj; subst hj; go_simp
 | 1, hj => simp [tkC] at hj; subst hj; go_simp
 | 2, hj => simp [tkC] at hj; subst hj; go_simp
 | 3, hj => simp [tkC] at hj; subst hj; go_simp
 | 4, hj => simp [tkC] at hj; subst hj; go_simp
 | j + 5, hj => simp [tkC] at hj
theorem But.two {R A : Nat} {w W : World} (h : But R w W) (hR : R < w.heap.size) (hA : w.heap.size = A) (v v' : Value) : But R w ((W.setCell ⟨A, 0, none⟩ v).setCell ⟨A + 1, 0, none⟩ v') := by
 subst hA
 have hb : Below w.heap.size W ((W.setCell ⟨w.heap.size, 0, none⟩ v).setCell ⟨w.heap.size + 1, 0, none⟩ v') := ((Below.refl _ _).setCell (p := ⟨w.heap.size, 0, none⟩) (Nat.le_refl _) _).setCell (p := ⟨w.heap.size + 1, 0, none⟩) (Nat.le_succ _) _
 exact ⟨h.1.trans (hb.mono (Nat.le_of_lt hR)), fun k hk hkr => (hb.block k hk).trans (h.2 k hk hkr)⟩
theorem PzK.push {R : Nat} {w : World} {v v' : Value} {xs xs' : List TkV} {cur : List UInt8} {W W1 : World} (h : PzK R w v xs cur W) (hb : Below (w.heap.size + 2) W W1) (ho : OwnsTk (w.heap.size + 2) W1 v' xs') (hz : w.heap.size + 2 ≤ W1.heap.size) : PzK R w v' xs' cur (W1.setCell ⟨w.heap.size, 0, none⟩ v') := by
 have hr := h.hr
 have hsb : ∀ k, k ≠ w.heap.size → (W1.setCell ⟨w.heap.size, 0, none⟩ v').heap[k]? = W1.heap[k]? := fun k hk => Below.heap_setCell _ _ _ _ hk
 have hbl : ∀ k, k < w.heap.size + 2 → k ≠ w.heap.size → (W1.setCell ⟨w.heap.size, 0, none⟩ v').heap[k]? = W.heap[k]? := fun k h1 h2 => (hsb k h2).trans (hb.block k h1)
 have hb0 : Below w.heap.size W W1 := hb.mono (by omega)
 have hbe : Below w.heap.size W (W1.setCell ⟨w.heap.size, 0, none⟩ v') := hb0.setCell (p := ⟨w.heap.size, 0, none⟩) (Nat.le_refl _) _
 have e0 := hb.block w.heap.size (by omega)
 have e1 := hbl (w.heap.size + 1) (by omega) (by omega)
 have c0 := (cell_of_block e0 0).trans h.all.1
 have f0 := (frozen_of_block e0 0).trans h.all.2
 refine ⟨h.rd.block (hbl R (by omega) (by omega)), ?_, ⟨by go_simp, by go_simp⟩, ⟨(cell_of_block e1 0).trans h.wrong.1, (frozen_of_block e1 0).trans h.wrong.2⟩, ho.keep (fun k hk _ => hsb k (by omega)), ⟨h.but.1.trans (hbe.mono (by omega)), fun k hk hkr => (hbe.block k hk).trans (h.but.2 k hk hkr)⟩, hr, ?_⟩
 ·obtain ⟨w0, g1, g2, g3⟩ := h.env
  exact ⟨w0, g1, g2.trans (hbe.mono (by omega)), g3⟩
 ·rw [World.size_setCell]
  exact hz
theorem step_pushTk {ops : Array Oper} {o : Oper} {a : Act} {K : Act → World → Prop} {Q : Exit → Act → World → Prop} {E : Prop} {B : Nat} {W : World} {v : Value} {xs : List TkV}
  (hgd : o.guard = none) (s x : Operand) (ho : o.op = .call { callee := .builtin .append, args := #[s, x], argTypes := #[62, 62] })
  (t : TkV) (H : Nat) (hown : OwnsTk B W v xs) (hat : OwnsAt B W t.2 t.1.ats) (hf : ∃ oa ia ja, t.2 = .slice oa ia ja) (hs : a.eval s = v) (hx : a.eval x = .slice (some ⟨H, 0, none⟩) 1 1) (hc : ∀ j u, (tkC t)[j]? = some u → W.cell? ⟨H, j, none⟩ = some u) (hB : B ≤ W.heap.size) (hlen : xs.length ≤ 100000)
  (h : ∀ v' w1, OwnsTk B w1 v' (xs ++ [t]) → Below B W w1 → K (a.put o.dst v') w1) :
  if Region.wanted o (yielded ops a.tmps) = true then Oper.wp Tryz.prog o a W K Q else E := by
 obtain ⟨i0, hi, hz0, hz1, hz2⟩ := info_parts info_tk
 refine step_append_lies W hgd s x 62 ho B 72 i0 (.agg #[.int .i64 0, .string ⟨#[]⟩, .string ⟨#[]⟩, .slice none 0 0, .bool false]) 5 72 Tryz.underlying62 hi hz0 hz1 hz2 rfl (by decide) v xs.length (tksC xs) hs hown.1 ⟨H, 0, none⟩ 1 1 (tkC t) hx rfl ?_ ?_ (by decide) ?_ ?_ hB W.heap.size rfl ?_
 ·intro j u hj
  rw [Addr.add_lit, Nat.zero_add]
  exact hc j u hj
 ·intro u hu
  obtain ⟨oa, ia, ja, hf⟩ := hf
  simp [tkC, hf] at hu
  rcases hu with rfl | rfl | rfl | rfl | rfl <;> rfl
 ·unfold maxLen; omega
 ·omega
 ·intro g cap w1 hown' hgrow _ _
  have hsz := hgrow.size
  have hblk : ∀ k, k < W.heap.size → some k ≠ v.ownBlock → w1.heap[k]? = W.heap[k]? := fun k hk hne => hgrow.block k hk (fun e => hne e)
  have hatk : ∀ k, B ≤ k → k < W.heap.size → (∃ cur, W.heap[k]? = some (.cells cur 40 (0, 0))) → w1.heap[k]? = W.heap[k]? := fun k _ hk ⟨cur, hc⟩ => hblk k hk (fun e => by
   rcases hown.1.2 with ⟨h0, _⟩ | ⟨g, cap, cur2, e1, _, hg, _⟩
   ·rw [h0] at e; cases e
   ·rw [e1] at e
    simp [Value.ownBlock] at e
    subst e
    rw [hc] at hg
    simp only [Option.some.injEq, Obj.cells.injEq] at hg
    exact at_ne_tok hg.2.1)
  refine h _ w1 ⟨?_, ?_⟩ ((Below.refl B W).grown hgrow hB (fun k hk => by
   rcases hown.1.2 with ⟨rfl, _⟩ | ⟨g, cap, cur, rfl, hg, _⟩
   ·simp [Value.ownBlock] at hk
   ·simp [Value.ownBlock] at hk; omega))
  ·rw [List.length_append, tksC_snoc]
   exact hown'
  ·intro x hx
   rw [List.mem_append, List.mem_singleton] at hx
   rcases hx with hx | rfl
   ·exact (hown.2 x hx).keepB hatk
   ·exact hat.keepB hatk
set_option maxRecDepth 100000 in
set_option maxHeartbeats 16000000 in
theorem pieces_any (R : Nat) (l : List UInt8) (w : World) (h : RdB R l w) (hl : l.length ≤ 60000) (ht : txD l = true) (hE : Env R w) :
    Calls Tryz.prog 55 #[.pointer (some ⟨R, 0, none⟩)] w (PzP R (scanF l []) w) := by
  have hmf : ∀ (fn : Fn) (first cap : Array Value) (w : World), (Instr.makeFunc fn first cap).run Tryz.prog w = .ok (.func fn first cap) w := fun _ _ _ _ => rfl
  obtain ⟨P, hP⟩ : ∃ P, PzP R (scanF l []) w = P := ⟨_, rfl⟩
  obtain ⟨G, hG⟩ : ∃ G, scanF l [] = G := ⟨_, rfl⟩
  rw [hP]
  rw [hG] at hP
  have hR := h.2.2
  -- the two variables
  obtain ⟨W0, hW0⟩ : ∃ W0, W0 = (w.alloc (.cells #[.slice none 0 0] 62)).alloc (.cells #[.int .i64 0] 30) := ⟨_, rfl⟩
  have hb0 : Below w.heap.size w W0 := by rw [hW0]; exact ((Below.refl _ _).alloc (Nat.le_refl _) _).alloc (by simp) _
  have hk0 : PzK R w (.slice none 0 0) [] l W0 := ⟨h.below hb0, hE.below hb0, by rw [hW0]; exact ⟨by go_simp, by go_simp⟩, by rw [hW0]; exact ⟨by go_simp, by go_simp⟩, OwnsTk.nil _ _, But.of hb0 hR, hR, by rw [hW0]; simp⟩
  have HK0 := Lib.hid hk0
  have HW0 := Lib.hid hW0
  have HG := Lib.hid hG
  have HP := Lib.hid hP
  have HT := Lib.hid ht
  clear hb0 hk0 hW0 hG hP ht h hE
  go_enter_defers Tryz.func55, Tryz.ntmps55
  go_wp2_with fail
  rw [← HW0.out]
  go_loopw [] (fun wr => ∃ (cur : List UInt8) (xs : List TkV) (o : Option Addr) (i j : Nat), PzK R w (.slice o i j) xs cur wr ∧ (txD cur = true ∧ cur.length + xs.length ≤ 60000 ∧ ApartT xs) ∧ scanF cur (xs.map (·.1)) = G) (fun wr => left R wr)
  case atStart => exact ⟨l, [], none, 0, 0, HK0.out, ⟨HT.out, by simpa using hl, List.nodup_nil⟩, HG.out⟩
  case round =>
    obtain ⟨cur, xs, o, i, j, hk, ⟨hct, hcl, hap⟩, hgf⟩ := hrel
    have HK := Lib.hid hk
    have HAP := Lib.hid hap
    clear hap
    have HMZ := Lib.hid (left_of hk.rd)
    clear HK0 HG HT
    obtain ⟨a0, b0⟩ := hk.all
    obtain ⟨a1, b1⟩ := hk.wrong
    have hsz := hk.sz
    by_cases hne : cur = []
    · subst hne
      rw [scanF_nil] at hgf
      have HGF := Lib.hid hgf
      obtain ⟨k1, k2, k3⟩ := hk.rd
      have i1 : (bs []).toList = [] := bs_tl []
      have i2 : (bs []).toList.isEmpty = true := by rw [i1]; rfl
      have i3 : ((bs []).toList != []) = false := by rw [i1]; rfl
      have HO := Lib.hid hk.own
      have HB := Lib.hid hk.but
      clear hk hgf hct
      go_wp2_with fail
      refine leaves_cons (f := 87) (args := #[.pointer (some ⟨w.heap.size, 0, none⟩), .pointer (some ⟨w.heap.size + 1, 0, none⟩)]) (by simp) (by simp [go_sem]) ?_
      refine (catch_idle _ _ _).mono ?_
      rintro e u' w'' ⟨rfl, rfl, rfl⟩
      have e0 : (((wr.setCell { block := w.heap.size, off := 0 } (Value.slice o i j)).setCell { block := w.heap.size + 1, off := 0 } (Value.int IntKind.i64 0))).cell? ⟨w.heap.size, 0, none⟩ = some (Value.slice o i j) := by go_simp
      have e1 : (((wr.setCell { block := w.heap.size, off := 0 } (Value.slice o i j)).setCell { block := w.heap.size + 1, off := 0 } (Value.int IntKind.i64 0))).cell? ⟨w.heap.size + 1, 0, none⟩ = some (Value.int IntKind.i64 0) := by go_simp
      simp [Leaves, settle, results, Tryz.results55, go_sem, e0, e1]
      rw [← HP.out, ← HGF.out]
      refine ⟨xs, o, i, j, rfl, rfl, (HO.out.keep (fun k hk hk2 => ?_)).low (by omega), HB.out.two hR rfl _ _, HAP.out⟩
      exact (Below.heap_setCell _ _ _ _ (by show k ≠ w.heap.size + 1; omega)).trans (Below.heap_setCell _ _ _ _ (by show k ≠ w.heap.size; omega))
    · have HN := Lib.hid hne
      obtain ⟨k1, k2, k3⟩ := hk.rd
      have i1 : (bs cur).toList = cur := bs_tl cur
      have i2 : (bs cur).toList.isEmpty = false := by rw [i1]; cases cur <;> simp_all
      have i3 : ((bs cur).toList != []) = true := by rw [i1]; cases cur <;> simp_all
      have i4 : cur.isEmpty = false := by cases cur <;> simp_all
      have hkd := hk.drew
      have hpc := piece_any R cur wr.drew hkd.rd (by omega) hct hkd.env
      have HKD := Lib.hid hkd
      have HGF := Lib.hid hgf
      cases hx : oneP cur with
      | inl err =>
        rw [hx] at hpc
        have hpc2 : Calls Tryz.prog 88 #[.pointer (some ⟨R, 0, none⟩)] wr.drew (fun e w' => e = pan err ∧ But R wr.drew w') := hpc
        have HPC := Lib.hid hpc2
        have hP1 := HP.out
        rw [← hgf, scanF_err hne hx] at hP1
        have HPE : Hid (∀ W, But R wr.drew W → P (.returned (.tuple #[.slice none 0 0, .int .i64 (err : Int)])) (((W.setCell ⟨w.heap.size, 0, none⟩ (.slice none 0 0)).setCell ⟨w.heap.size + 1, 0, none⟩ (.int .i64 (err : Int))).drew)) := Lib.hid (fun W hb => by
          rw [← hP1]
          exact ⟨rfl, ((hkd.but.trans hb).two hR rfl _ _).trans (But.of ((Below.refl _ _).drew) (Nat.lt_of_lt_of_le hR (hkd.but.trans hb |>.two hR rfl _ _).size))⟩)
        clear hpc hpc2 hx hgf hct hne hk hP1 hkd
        go_wp2_with fail
        refine wp_region_any (by kernel_rfl) ?_
        change wpAny _ _ _ _ _ _ _ (World.drew _)
        refine wpAny_ready (rs := [0, 1]) (by kernel_rfl) (by simp) ?_
        refine AllReady.cons rfl (fun K hK => ?_) (AllReady.cons rfl (fun K hK => ?_) AllReady.nil)
        · go_simp
          refine hK _ _ ?_
          clear hK K
          refine wpAny_ready (rs := [1]) (by kernel_rfl) (by simp) ?_
          refine AllReady.cons rfl (fun K hK => ?_) AllReady.nil
          go_simp
          refine hK _ _ ?_
          clear hK K
          refine wpAny_ready (rs := [2]) (by kernel_rfl) (by simp) ?_
          refine AllReady.cons rfl (fun K hK => ?_) AllReady.nil
          go_simp
          refine HPC.out.mono ?_
          rintro e w4 ⟨rfl, hb4⟩
          have hvv := HKD.out.vars hb4
          obtain ⟨⟨x0, y0⟩, ⟨x1, y1⟩⟩ := hvv
          refine leaves_cons (u := .panicking [{ v := .iface 30 (.int .i64 (err : Int)), recovered := false }]) (f := 87) (args := #[.pointer (some ⟨w.heap.size, 0, none⟩), .pointer (some ⟨w.heap.size + 1, 0, none⟩)]) (by simp) (by simp [go_sem]) ?_
          refine (catch_panicking _ err [] w4 _ _ x0 x1 y0 y1).mono ?_
          rintro e u' w5 ⟨rfl, rfl, rfl⟩
          have e0 : ((((w4.setCell { block := w.heap.size, off := 0 } (Value.slice none 0 0)).setCell { block := w.heap.size + 1, off := 0 } (Value.int IntKind.i64 (err : Int)))).drew).cell? ⟨w.heap.size, 0, none⟩ = some (Value.slice none 0 0) := by go_simp
          have e1 : ((((w4.setCell { block := w.heap.size, off := 0 } (Value.slice none 0 0)).setCell { block := w.heap.size + 1, off := 0 } (Value.int IntKind.i64 (err : Int)))).drew).cell? ⟨w.heap.size + 1, 0, none⟩ = some (Value.int IntKind.i64 (err : Int)) := by go_simp
          simp [Leaves, settle, results, Tryz.results55, go_sem, e0, e1]
          exact HPE.out w4 hb4
        · go_simp
          refine hK _ _ ?_
          clear hK K
          refine wpAny_ready (rs := [0, 2]) (by kernel_rfl) (by simp) ?_
          refine AllReady.cons rfl (fun K hK => ?_) (AllReady.cons rfl (fun K hK => ?_) AllReady.nil)
          · go_simp
            refine hK _ _ ?_
            clear hK K
            refine wpAny_ready (rs := [2]) (by kernel_rfl) (by simp) ?_
            refine AllReady.cons rfl (fun K hK => ?_) AllReady.nil
            go_simp
            refine HPC.out.mono ?_
            rintro e w4 ⟨rfl, hb4⟩
            have hvv := HKD.out.vars hb4
            obtain ⟨⟨x0, y0⟩, ⟨x1, y1⟩⟩ := hvv
            refine leaves_cons (u := .panicking [{ v := .iface 30 (.int .i64 (err : Int)), recovered := false }]) (f := 87) (args := #[.pointer (some ⟨w.heap.size, 0, none⟩), .pointer (some ⟨w.heap.size + 1, 0, none⟩)]) (by simp) (by simp [go_sem]) ?_
            refine (catch_panicking _ err [] w4 _ _ x0 x1 y0 y1).mono ?_
            rintro e u' w5 ⟨rfl, rfl, rfl⟩
            have e0 : ((((w4.setCell { block := w.heap.size, off := 0 } (Value.slice none 0 0)).setCell { block := w.heap.size + 1, off := 0 } (Value.int IntKind.i64 (err : Int)))).drew).cell? ⟨w.heap.size, 0, none⟩ = some (Value.slice none 0 0) := by go_simp
            have e1 : ((((w4.setCell { block := w.heap.size, off := 0 } (Value.slice none 0 0)).setCell { block := w.heap.size + 1, off := 0 } (Value.int IntKind.i64 (err : Int)))).drew).cell? ⟨w.heap.size + 1, 0, none⟩ = some (Value.int IntKind.i64 (err : Int)) := by go_simp
            simp [Leaves, settle, results, Tryz.results55, go_sem, e0, e1]
            exact HPE.out w4 hb4
          · go_simp
            refine HPC.out.mono ?_
            rintro e w4 ⟨rfl, hb4⟩
            have hvv := HKD.out.vars hb4
            obtain ⟨⟨x0, y0⟩, ⟨x1, y1⟩⟩ := hvv
            refine leaves_cons (u := .panicking [{ v := .iface 30 (.int .i64 (err : Int)), recovered := false }]) (f := 87) (args := #[.pointer (some ⟨w.heap.size, 0, none⟩), .pointer (some ⟨w.heap.size + 1, 0, none⟩)]) (by simp) (by simp [go_sem]) ?_
            refine (catch_panicking _ err [] w4 _ _ x0 x1 y0 y1).mono ?_
            rintro e u' w5 ⟨rfl, rfl, rfl⟩
            have e0 : ((((w4.setCell { block := w.heap.size, off := 0 } (Value.slice none 0 0)).setCell { block := w.heap.size + 1, off := 0 } (Value.int IntKind.i64 (err : Int)))).drew).cell? ⟨w.heap.size, 0, none⟩ = some (Value.slice none 0 0) := by go_simp
            have e1 : ((((w4.setCell { block := w.heap.size, off := 0 } (Value.slice none 0 0)).setCell { block := w.heap.size + 1, off := 0 } (Value.int IntKind.i64 (err : Int)))).drew).cell? ⟨w.heap.size + 1, 0, none⟩ = some (Value.int IntKind.i64 (err : Int)) := by go_simp
            simp [Leaves, settle, results, Tryz.results55, go_sem, e0, e1]
            exact HPE.out w4 hb4
      | inr y =>
        obtain ⟨t, rest⟩ := y
        rw [hx] at hpc
        have hpc2 : Calls Tryz.prog 88 #[.pointer (some ⟨R, 0, none⟩)] wr.drew (fun e w' => ∃ (o : Option Addr) (i j : Nat), e = .returned (.agg #[.int .i64 t.kd, .string (bs t.nm), .string (bs t.tx), .slice o i j, .bool t.em]) ∧ RdB R rest w' ∧ But R wr.drew w' ∧ OwnsAt wr.drew.heap.size w' (.slice o i j) t.ats) := hpc
        have HPC := Lib.hid hpc2
        rw [scanF_ok hne hx] at hgf
        have HG2 := Lib.hid hgf
        have hrx := oneP_tx hct hx
        have hrl := oneP_lt hne hx
        clear hpc hpc2 hx hgf hct hne hk hkd HGF
        go_wp2_with fail
        refine wp_onlyN ?_
        go_region_law (first
            | (refine step_pushTk rfl (.tmp 10) (.tmp 13) rfl (t, .slice ot it jt) w4.heap.size (HK4.out.own.keep (fun k _ hk => Below.heap_alloc w4 _ k hk)) ((HOT.out.low (by have := HKD.out.sz; omega)).keep (fun k _ hk => Below.heap_alloc w4 _ k hk)) ⟨_, _, _, rfl⟩ rfl rfl (tk_cells w4 t _) (by have := HK4.out.sz; simp; omega) (by omega) ?_; intro v' w5 hown5 hb5
               obtain ⟨o5, i5, j5, rfl⟩ := hown5.form
               have hz5 := hb5.size
               have hpu := (HK4.out.push (((Below.refl _ _).alloc (Nat.le_refl _) _ |>.mono (by have := HK4.out.sz; omega)).trans hb5) hown5 (by have := HK4.out.sz; simp at hz5; omega))
               have HPU := Lib.hid hpu
               have hvb := HK4.out.varsE ((Below.refl w4.heap.size w4).alloc (Nat.le_refl _) _) hb5
               clear hpu
               obtain ⟨⟨x0, y0⟩, ⟨x1, y1⟩⟩ := hvb)
            | (go_simp; go_at_call 88; refine HPC.out.mono ?_; rintro e w4 ⟨ot, it, jt, rfl, hr4, hb4, hot⟩
               have hk4 := HKD.out.next hr4 hb4
               have HOT := Lib.hid hot
               obtain ⟨d0, f0⟩ := hk4.all
               have h6 : w.heap.size < w4.heap.size := by have := hk4.sz; omega
               have HK4 := Lib.hid hk4
               clear hk4 hr4 hb4 hot))
        all_goals
          simp only [onlyN]
          go_wp2_with fail
          go_roundw
          case rel => exact ⟨rest, xs ++ [(t, .slice ot it jt)], o5, i5, j5, HPU.out, ⟨hrx, by simp; omega, HAP.out.snoc (t := (t, .slice ot it jt)) HKD.out.own (Nat.le_refl _) HOT.out⟩, by simpa using HG2.out⟩
          case measure =>
            rw [left_of HPU.out.rd, HMZ.out]
            omega
end Char
end Go.Proofs.YtlmodgnkmlbjhaaGreatDoor
