import Derived.Test.YtlmodgnkmlbjhaaGreatDoorPkGrS
import Derived.RangeFuncNested
import Derived.RangeFuncBound
import Derived.RangeFuncCalls
import Derived.RangeFuncLeaves
import Derived.RangeFuncBox
import Derived.RangeFuncKeeps
import Derived.Shelf.Abstract
import Derived.Shelf.RegionOpen
import Derived.OwnWalkIn
import Derived.TacticsInMore
import Derived.LoopNIn
import Derived.LoopIn
import Derived.Test.YtlmodgnkmlbjhaaGreatDoorGrP
import Derived.RangeFuncWrites
namespace Go.Proofs.YtlmodgnkmlbjhaaGreatDoor
set_option maxHeartbeats 4000000
set_option maxRecDepth 100000
namespace Char
open Go.RowKit Go.Lib
mutual
def seqT : Nat → Tr → List (Nat × Tr)
 | lv, .mk kd nm tx ats ks => if kd = 2 then (lv + 1, .mk kd nm tx ats ks) :: seqK (lv + 1) ks else [(lv, .mk kd nm tx ats ks)]
def seqK : Nat → List Tr → List (Nat × Tr)
 | _, [] => []
 | lv, k :: ks => seqT lv k ++ seqK lv ks
end
mutual
def cntT : Tr → Nat
 | .mk _ _ _ _ ks => 1 + cntK ks
def cntK : List Tr → Nat
 | [] => 0
 | k :: ks => cntT k + cntK ks
end
theorem cnt_eq (t : Tr) : cntT t = 1 + cntK t.ks := by cases t; rw [cntT]; rfl
theorem cntT_pos (t : Tr) : 1 ≤ cntT t := by rw [cnt_eq]; omega
theorem cntK_len : ∀ ks : List Tr, ks.length ≤ cntK ks
 | [] => Nat.le_refl _
 | k :: ks => by
  have h1 := cntT_pos k
  have h2 := cntK_len ks
  rw [List.length_cons, cntK]; omega
theorem cntK_at : ∀ (ks : List Tr) (k : Nat) (h : k < ks.length), cntT ks[k] ≤ cntK ks
 | [], k, h => by cases h
 | x :: r, 0, _ => by rw [cntK]; simp
 | x :: r, k + 1, h => by
  have := cntK_at r k (by simpa using h)
  rw [cntK]
  simp only [List.getElem_cons_succ]
  omega
theorem seqT_elem {lv : Nat} {t : Tr} (h : t.kd = 2) : seqT lv t = (lv + 1, t) :: seqK (lv + 1) t.ks := by
 obtain ⟨kd, nm, tx, ats, ks⟩ := t
 replace h : kd = 2 := h
 rw [seqT, if_pos h]
 rfl
theorem seqT_leaf {lv : Nat} {t : Tr} (h : t.kd ≠ 2) : seqT lv t = [(lv, t)] := by
 obtain ⟨kd, nm, tx, ats, ks⟩ := t
 replace h : kd ≠ 2 := h
 rw [seqT, if_neg h]
def NdX (w0 : World) (n₀ : Nat) : Type := { x : Nat × NdV // NdOn w0 (fun b => b < n₀) x.2.1 x.2.2.1 x.2.2.2 }
def NdX.key {w0 : World} {n₀ : Nat} (x : NdX w0 n₀) : Nat × Tr := (x.1.1, x.1.2.1)
def NdX.enc {w0 : World} {n₀ : Nat} (x : NdX w0 n₀) : Array Value := #[.int .i64 (x.1.1 : Int), ndV x.1.2.1 x.1.2.2.1 x.1.2.2.2]
def KpN (n₀ bx : Nat) (W W' : World) : Prop := Below n₀ W W' ∧ ∀ (k : Nat) (o : Obj), W.heap[k]? = some o → o.isCells = true → k ≠ bx → W'.heap[k]? = some o
theorem kpN_t {n₀ bx : Nat} {A B C : World} (h : KpN n₀ bx A B) (k : KpN n₀ bx B C) : KpN n₀ bx A C := ⟨h.1.trans k.1, fun i o hi hc hb => k.2 i o (h.2 i o hi hc hb) hc hb⟩
theorem kpN_b {n₀ bx m : Nat} (hm : n₀ ≤ m) (W : World) (l : Nat) (o o' : Obj) (hl : m ≤ l) (h : W.heap[l]? = some o) (hc : o.isCells = false) (_ : o.isWalk = false) : KpN n₀ bx W (W.putObj l o') := by
 refine ⟨⟨rfl, rfl, rfl, by simp, fun k hk => World.putObj_heap_other (by omega)⟩, fun k q hk hq _ => ?_⟩
 by_cases e : k = l
 ·subst e
  rw [h] at hk
  cases hk
  rw [hc] at hq
  cases hq
 ·exact (World.putObj_heap_other e).trans hk
theorem kpN_grow {n₀ bx : Nat} {W W' : World} (hn : n₀ ≤ W.heap.size) (h : Below W.heap.size W W') : KpN n₀ bx W W' := ⟨h.mono hn, fun k _ hk _ _ => (h.block k (Array.getElem?_eq_some_iff.1 hk).1).trans hk⟩
theorem kpN_setCell {n₀ bx : Nat} (hb : n₀ ≤ bx) (W : World) (i : Nat) (v : Value) : KpN n₀ bx W (W.setCell ⟨bx, i, none⟩ v) :=
 ⟨(Below.refl _ _).setCell (p := ⟨bx, i, none⟩) hb _, fun k _ hk _ hne => (Below.heap_setCell W ⟨bx, i, none⟩ v k hne).trans hk⟩
end Char
namespace Char
open Go.RowKit Go.Lib Go.Shelf
attribute [local go_sem] Oper.semAt_some
theorem room_none {F : Fence} (hd : F.depth = none) (k : Nat) : F.room k := fun d h => by rw [hd] at h; cases h
theorem roundIn_any {F : Fence} (hd : F.depth = none) {m m' : Nat} {P : Program} {l : Nat} {f : FuncId} {tmps : Array Value} {assign body : Code} {w : World} {R : Ending → World → Prop}
  (h : RoundIn F m P l f tmps assign body w R) : RoundIn F m' P l f tmps assign body w R := ⟨h.1, fun c cs _ => h.2 c cs (room_none hd _)⟩
theorem yieldAt_any {F : Fence} (hd : F.depth = none) {m : Nat} (m' : Nat) {P : Program} {l : Nat} {args : Array Value} {W : World} {R : Ending → World → Prop} (h : YieldAt F m P l args W R) : YieldAt F m' P l args W R := by
 obtain ⟨fn, tmps, assign, body, hy, hR⟩ := h
 exact ⟨fn, tmps, assign, body, hy, roundIn_any hd hR⟩
theorem all_in (F : Fence) (n : Nat) (hf : F.fn 26) (hro : F.round = none) (t : Tr) (va vk : Value) (hva : ∃ o i j, va = .slice o i j) (hvk : ∃ o i j, vk = .slice o i j) (w : World) :
  CallsIn F n Tryz.prog 26 #[ndV t va vk] w fun e w' => e = .returned (.func (.func 35) #[] #[.pointer (some ⟨w.heap.size, 0, none⟩)]) ∧ w' = w.alloc (.cells #[.int .i64 t.kd, .string (bs t.nm), .string (bs t.tx), va, vk] 25) := by
 obtain ⟨_, _, _, rfl⟩ := hva
 obtain ⟨_, _, _, rfl⟩ := hvk
 unfold ndV
 have hmf : ∀ (fn : Fn) (first cap : Array Value) (w : World), (Instr.makeFunc fn first cap).run Tryz.prog w = .ok (.func fn first cap) w := fun _ _ _ _ => rfl
 refine callsIn_of_wp Tryz.func26 rfl hf ?_ hro
 simp only [Tryz.ntmps26, List.size_toArray, List.length_cons, List.length_nil, Nat.reduceAdd, Nat.reduceSub, Array.replicate_succ, Array.replicate_zero, List.push_toArray, List.append_toArray, List.nil_append, List.cons_append]
 gi_wp2
 go_ret
 exact ⟨rfl, rfl⟩
end Char
namespace Char
open Go.RowKit Go.Lib
end Char
namespace Char
open Go.RowKit Go.Lib
mutual
def szT : Tr → Nat
 | .mk kd _ _ ats ks => if kd = 2 then 1 + ats.length + szK ks else 1
def szK : List Tr → Nat
 | [] => 0
 | k :: ks => szT k + szK ks
end
theorem szT_elem {t : Tr} (h : t.kd = 2) : szT t = 1 + t.ats.length + szK t.ks := by
 obtain ⟨kd, nm, tx, ats, ks⟩ := t
 replace h : kd = 2 := h
 rw [szT, if_pos h]
 rfl
theorem szT_leaf {t : Tr} (h : t.kd ≠ 2) : szT t = 1 := by
 obtain ⟨kd, nm, tx, ats, ks⟩ := t
 replace h : kd ≠ 2 := h
 rw [szT, if_neg h]
end Char
namespace Char
open Go.RowKit Go.Lib Go.Shelf
attribute [local go_sem] Oper.semAt_some
def NdP (w0 : World) (n₀ : Nat) (Pd : Tr → Prop) : Type := { x : Nat × NdV // NdOn w0 (fun b => b < n₀) x.2.1 x.2.2.1 x.2.2.2 ∧ Pd x.2.1 }
def NdP.key {w0 : World} {n₀ : Nat} {Pd : Tr → Prop} (x : NdP w0 n₀ Pd) : Nat × Tr := (x.1.1, x.1.2.1)
def NdP.enc {w0 : World} {n₀ : Nat} {Pd : Tr → Prop} (x : NdP w0 n₀ Pd) : Array Value := #[.int .i64 (x.1.1 : Int), ndV x.1.2.1 x.1.2.2.1 x.1.2.2.2]
theorem tellP_in (Pd : Tr → Prop) (F : Fence) (hd : F.depth = none) (hf : F.fn 36) (hro : F.round = none) (l n₀ bx N : Nat) (w0 : World) (hn₀ : n₀ ≤ bx) (J Jx : List (NdP w0 n₀ Pd) → World → Prop)
  (hJ : ∀ pre W o, J pre W → J pre (W.alloc o))
  (hY : ∀ m pre x W, J pre W → pre.length < N → YieldAt F m Tryz.prog l x.enc W fun e W' =>
   (e = .returned (.bool true) ∧ J (pre ++ [x]) W' ∧ KpN n₀ bx W W') ∨ (e = .returned (.bool false) ∧ Jx (pre ++ [x]) W')) :
  ∀ (c : Nat) (t : Tr) (n : Nat) (va vk : Value) (lv : Nat) (pre : List (NdP w0 n₀ Pd)) (W : World), cntT t ≤ c → (∀ y, y ∈ seqT lv t → Pd y.2) → NdOn w0 (fun b => b < n₀) t va vk → Below n₀ w0 W → bx < W.heap.size → J pre W → pre.length + (seqT lv t).length ≤ N → lv + cntT t ≤ 1000000 →
   CallsIn F n Tryz.prog 36 #[ndV t va vk, .int .i64 (lv : Int), .func (.yield l) #[] #[]] W fun e W' =>
    (e = .returned (.bool true) ∧ KpN n₀ bx W W' ∧ ∃ ys, ys.map NdP.key = seqT lv t ∧ J (pre ++ ys) W') ∨ (e = .returned (.bool false) ∧ ∃ ys, ys.map NdP.key <+: seqT lv t ∧ Jx (pre ++ ys) W') := by
 intro c
 induction c with
 | zero => intro t n va vk lv pre W hc; have := cntT_pos t; omega
 | succ c ih =>
  intro t n va vk lv pre W hc hpd hn hb hbx hj hN hlv
  have hdd : ∀ k : Nat, (F.depth.isSome = true → 1 ≤ k) := fun k h => by rw [hd] at h; cases h
  obtain ⟨oa, ja, ok, jk, rfl, rfl⟩ := hn.form
  obtain ⟨W1, hW1⟩ : ∃ W1, W1 = W.alloc (.cells #[.int .i64 t.kd, .string (bs t.nm), .string (bs t.tx), .slice oa t.ats.length ja, .slice ok t.ks.length jk] 25) := ⟨_, rfl⟩
  have b1 : Below W.heap.size W W1 := by rw [hW1]; exact (Below.refl _ _).alloc (Nat.le_refl _) _
  have s1 : W1.heap.size = W.heap.size + 1 := by rw [hW1]; simp
  have j1 : J pre W1 := by rw [hW1]; exact hJ _ _ _ hj
  have d0 : W1.cell? ⟨W.heap.size, 0, none⟩ = some (.int .i64 t.kd) := by rw [hW1]; go_simp
  have d1 : W1.cell? ⟨W.heap.size, 1, none⟩ = some (.string (bs t.nm)) := by rw [hW1]; go_simp
  have d2 : W1.cell? ⟨W.heap.size, 2, none⟩ = some (.string (bs t.tx)) := by rw [hW1]; go_simp
  have d3 : W1.cell? ⟨W.heap.size, 3, none⟩ = some (.slice oa t.ats.length ja) := by rw [hW1]; go_simp
  have d4 : W1.cell? ⟨W.heap.size, 4, none⟩ = some (.slice ok t.ks.length jk) := by rw [hW1]; go_simp
  have k1 : KpN n₀ bx W W1 := kpN_grow (by omega) b1
  by_cases h2 : t.kd = 2
  ·rw [seqT_elem h2] at hN hpd ⊢
   have HPD := hid hpd
   rw [List.length_cons] at hN
   have hcn := cnt_eq t
   have hcl := cntK_len t.ks
   obtain ⟨o9, i9, j9, hv9, hi9, hkids⟩ := hn.kids
   simp only [Value.slice.injEq] at hv9
   obtain ⟨rfl, rfl, rfl⟩ := hv9
   obtain ⟨x, hxk, hxe⟩ : ∃ x : NdP w0 n₀ Pd, x.key = (lv + 1, t) ∧ x.enc = #[.int .i64 ((lv : Int) + 1), .agg #[.int .i64 t.kd, .string (bs t.nm), .string (bs t.tx), .slice oa t.ats.length ja, .slice ok t.ks.length jk]] := ⟨⟨(lv + 1, t, .slice oa t.ats.length ja, .slice ok t.ks.length jk), hn, hpd (lv + 1, t) (by simp)⟩, rfl, by simp [NdP.enc, ndV]⟩
   obtain ⟨fn, tmps, assign, body, hy, hR⟩ := hY (n - 1) pre x W1 j1 (by omega)
   rw [hxe, hW1, h2] at hy
   rw [hW1, h2] at hR
   have hk1 := k1
   rw [hW1, h2] at hk1
   have HXK := hid hxk
   have HK1 := hid hk1
   have HJ := hid hJ
   have HIH := hid ih
   have HKD := hid hkids
   have hblk : W1.heap[W.heap.size]? = some (.cells #[.int .i64 t.kd, .string (bs t.nm), .string (bs t.tx), .slice oa t.ats.length ja, .slice ok t.ks.length jk] 25 (0, 0)) := by rw [hW1]; exact World.alloc_heap_new W _
   rw [hW1, h2] at hblk
   have HBL := hid hblk
   have HB := hid hb
   clear hW1 b1 j1 hj hn ih hY hJ k1 hk1 hxk hxe hpd d0 d1 d2 d3 d4 hkids hblk hb
   unfold ndV
   rw [h2]
   refine callsIn_of_wp Tryz.func36 rfl hf ?_ hro
   simp only [Tryz.ntmps36, List.size_toArray, List.length_cons, List.length_nil, Nat.reduceAdd, Nat.reduceSub, Array.replicate_succ, Array.replicate_zero, List.push_toArray, List.append_toArray, List.nil_append, List.cons_append]
   have hbxn : W.heap.size ≠ bx := by omega
   have hR2 := hR.mono (R' := fun e W' => (e = .returned (.bool true) ∧ J (pre ++ [x]) W' ∧ KpN n₀ bx (W.alloc (.cells #[.int .i64 2, .string (bs t.nm), .string (bs t.tx), .slice oa t.ats.length ja, .slice ok t.ks.length jk] 25)) W' ∧ W'.cell? ⟨W.heap.size, 4, none⟩ = some (.slice ok t.ks.length jk)) ∨ (e = .returned (.bool false) ∧ Jx (pre ++ [x]) W'))
    (fun e W' h => h.elim (fun ⟨q1, q2, q3⟩ => .inl ⟨q1, q2, q3, by
     have := q3.2 _ _ HBL.out rfl hbxn
     simp [World.cell?, this]⟩) .inr)
   clear hR
   gi_wp2_with ((try refine ⟨hdd _, ?_⟩); refine hR2.mono ?_; clear hR2; rintro e W2 (⟨rfl, hJ2, hk2, hc2⟩ | ⟨rfl, hx2⟩))
   ·have hWb : W.heap.size < W2.heap.size := cell_lt hc2
    have hk02 := kpN_t HK1.out hk2
    have HK02 := hid hk02
    have HJ2 := hid hJ2
    clear hJ2 hk2 hk02
    gi_loopw [25] (fun v wr => ∃ (k : Nat) (ys : List (NdP w0 n₀ Pd)), v = .int .i64 (k : Int) ∧ k ≤ t.ks.length ∧ KpN n₀ bx W wr ∧ bx < wr.heap.size ∧ J (pre ++ (x :: ys)) wr ∧ Hid (ys.map NdP.key ++ seqK (lv + 1) (t.ks.drop k) = seqK (lv + 1) t.ks)) (fun v _ => t.ks.length - (RowKit.intOf v).toNat)
    case atStart => exact ⟨0, [], rfl, Nat.zero_le _, HK02.out, by omega, HJ2.out, hid rfl⟩
    case round =>
     obtain ⟨k, ys, rfl, hk, hkr, hbr, hjr, HS⟩ := hrel
     by_cases hlt : k < t.ks.length
     ·have hne : t.ks ≠ [] := by intro e; rw [e] at hlt; simp at hlt
      rcases HKD.out with h0 | ⟨g, off, rfl, hg, hks⟩
      ·exact absurd h0 hne
      ·obtain ⟨va, vk, ⟨a0, a1, a2, a3, a4⟩, hnk⟩ := hks.at k hlt
       obtain ⟨oa2, ja2, ok2, jk2, rfl, rfl⟩ := hnk.form
       have hb0 : Below n₀ w0 wr := HB.out.trans hkr.1
       replace a0 := (hb0.cell (p := ⟨g, off + k * 5, none⟩) hg).trans a0
       replace a1 := (hb0.cell (p := ⟨g, off + k * 5 + 1, none⟩) hg).trans a1
       replace a2 := (hb0.cell (p := ⟨g, off + k * 5 + 2, none⟩) hg).trans a2
       replace a3 := (hb0.cell (p := ⟨g, off + k * 5 + 3, none⟩) hg).trans a3
       replace a4 := (hb0.cell (p := ⟨g, off + k * 5 + 4, none⟩) hg).trans a4
       have hkc := cntK_at t.ks k hlt
       have hdr : t.ks.drop k = t.ks[k] :: t.ks.drop (k + 1) := List.drop_eq_getElem_cons hlt
       have hsq : ys.map NdP.key ++ (seqT (lv + 1) t.ks[k] ++ seqK (lv + 1) (t.ks.drop (k + 1))) = seqK (lv + 1) t.ks := by
        have := HS.out
        rw [hdr, seqK] at this
        exact this
       have hsl := congrArg List.length hsq
       rw [List.length_append, List.length_append, List.length_map] at hsl
       generalize t.ks[k] = kid at *
       obtain ⟨W3, hW3⟩ : ∃ W3, W3 = wr.alloc (.cells #[.int .i64 kid.kd, .string (bs kid.nm), .string (bs kid.tx), .slice oa2 kid.ats.length ja2, .slice ok2 kid.ks.length jk2] 25) := ⟨_, rfl⟩
       have b3 : Below wr.heap.size wr W3 := by rw [hW3]; exact (Below.refl _ _).alloc (Nat.le_refl _) _
       have hcall := HIH.out kid (n - 1) _ _ (lv + 1) (pre ++ (x :: ys)) W3 (by omega) (fun y hy => HPD.out y (List.mem_cons_of_mem _ (by rw [← hsq]; exact List.mem_append_right _ (List.mem_append_left _ hy)))) hnk (hb0.trans (b3.mono (by omega))) (Nat.lt_of_lt_of_le hbr b3.size) (by rw [hW3]; exact HJ.out _ _ _ hjr) (by rw [List.length_append, List.length_cons]; omega) (by omega)
       rw [hW3] at hcall
       unfold ndV at hcall
       rw [Int.natCast_add] at hcall
       have HC := hid hcall
       have HSQ := hid hsq
       have hk3 := kpN_t hkr (kpN_grow (bx := bx) (by omega) b3)
       rw [hW3] at hk3
       have HK3 := hid hk3
       clear hcall hsq hks hnk hW3 b3 hk3 hjr hkr
       gi_wp2_with ((try refine ⟨hdd _, ?_⟩); gi_at_call 36; refine HC.out.mono ?_; rintro e W4 (⟨rfl, k4, ys4, y4, j4⟩ | ⟨rfl, ys4, y4, x4⟩))
       ·have hkk := kpN_t HK3.out k4
        have hsz := hkk.1.size
        refine ⟨⟨k + 1, ys ++ ys4, by rw [Int.natCast_add]; rfl, by omega, hkk, by omega, by simpa using j4, hid (by rw [List.map_append, y4, List.append_assoc]; exact HSQ.out)⟩, ?_⟩
        simp [RowKit.intOf]
        omega
       ·go_ret
        obtain ⟨rest, hrest⟩ := y4
        refine .inr ⟨rfl, x :: (ys ++ ys4), ⟨rest ++ seqK (lv + 1) (t.ks.drop (k + 1)), ?_⟩, by simpa using x4⟩
        rw [List.map_cons, HXK.out, List.map_append, List.cons_append, ← HSQ.out, ← hrest]
        simp
     ·have hke : k = t.ks.length := by omega
      have hfin := HS.out
      rw [hke, List.drop_length, seqK, List.append_nil] at hfin
      have HFIN := hid hfin
      have HKR := hid hkr
      have HJR := hid hjr
      clear HS hfin hkr hjr
      gi_wp2
      go_ret
      exact .inl ⟨rfl, HKR.out, x :: ys, by rw [List.map_cons, HXK.out, HFIN.out], HJR.out⟩
   ·go_ret
    exact .inr ⟨rfl, [x], by rw [List.map_cons, List.map_nil, HXK.out]; exact ⟨_, rfl⟩, hx2⟩
  ·have k2 : (t.kd == 2) = false := by simpa using h2
   rw [seqT_leaf h2] at hN hpd ⊢
   have HPD := hid hpd
   obtain ⟨x, hxk, hxe⟩ : ∃ x : NdP w0 n₀ Pd, x.key = (lv, t) ∧ x.enc = #[.int .i64 (lv : Int), .agg #[.int .i64 t.kd, .string (bs t.nm), .string (bs t.tx), .slice oa t.ats.length ja, .slice ok t.ks.length jk]] := ⟨⟨(lv, t, .slice oa t.ats.length ja, .slice ok t.ks.length jk), hn, hpd (lv, t) (by simp)⟩, rfl, rfl⟩
   obtain ⟨fn, tmps, assign, body, hy, hR⟩ := hY (n - 1) pre x W1 j1 (by simp at hN; omega)
   rw [hxe, hW1] at hy
   rw [hW1] at hR
   have HW1 := hid hW1
   have HK1 := hid k1
   have HXK := hid hxk
   clear hW1 b1 j1 hj hn ih hY hJ k1 hxk hxe hpd HPD d0 d1 d2 d3 d4
   unfold ndV
   refine callsIn_of_wp Tryz.func36 rfl hf ?_ hro
   simp only [Tryz.ntmps36, List.size_toArray, List.length_cons, List.length_nil, Nat.reduceAdd, Nat.reduceSub, Array.replicate_succ, Array.replicate_zero, List.push_toArray, List.append_toArray, List.nil_append, List.cons_append]
   gi_wp2_with ((try refine ⟨hdd _, ?_⟩); refine hR.mono ?_; clear hR; rintro e W2 (⟨rfl, hJ2, hk2⟩ | ⟨rfl, hx2⟩))
   ·go_ret
    have hk1 := HK1.out
    rw [HW1.out] at hk1
    exact .inl ⟨rfl, kpN_t hk1 hk2, [x], by rw [List.map_cons, List.map_nil, HXK.out], hJ2⟩
   ·go_ret
    exact .inr ⟨rfl, [x], by rw [List.map_cons, List.map_nil, HXK.out]; exact List.prefix_refl _, hx2⟩
theorem allP1_in (Pd : Tr → Prop) (F : Fence) (hd : F.depth = none) (n : Nat) (h48 : F.fn 35) (hf : F.fn 36) (hro : F.round = none) (l Bt n₀ bx : Nat) (w0 : World) (hn₀ : n₀ ≤ bx) (t : Tr) (va vk : Value) (J Jx : List (NdP w0 n₀ Pd) → World → Prop)
  (hJ : ∀ pre W o, J pre W → J pre (W.alloc o))
  (hY : ∀ pre x W, J pre W → pre.length < (seqT 0 t).length → YieldAt F (n - 1) Tryz.prog l x.enc W fun e W' =>
   (e = .returned (.bool true) ∧ J (pre ++ [x]) W' ∧ KpN n₀ bx W W') ∨ (e = .returned (.bool false) ∧ Jx (pre ++ [x]) W'))
  (W : World) (hBt : W.heap[Bt]? = some (.cells #[.int .i64 t.kd, .string (bs t.nm), .string (bs t.tx), va, vk] 25 (0, 0))) (hpd : ∀ y, y ∈ seqT 0 t → Pd y.2) (hn : NdOn w0 (fun b => b < n₀) t va vk) (hb : Below n₀ w0 W) (hbx : bx < W.heap.size) (hc : cntT t ≤ 1000000) (h0 : J [] W) :
  CallsIn F n Tryz.prog 35 #[.func (.yield l) #[] #[], .pointer (some ⟨Bt, 0, none⟩)] W fun e W' => (∃ v, e = .returned v) ∧
   ((∃ ys : List (NdP w0 n₀ Pd), ys.map NdP.key = seqT 0 t ∧ J ys W') ∨ (∃ pre : List (NdP w0 n₀ Pd), pre.map NdP.key <+: seqT 0 t ∧ Jx pre W')) := by
 have hdd : ∀ k : Nat, (F.depth.isSome = true → 1 ≤ k) := fun k h => by rw [hd] at h; cases h
 have hp := tellP_in Pd F hd hf hro l n₀ bx (seqT 0 t).length w0 hn₀ J Jx hJ (fun m pre x W hj hl => yieldAt_any hd m (hY pre x W hj hl)) (cntT t) t (n - 1) va vk 0 [] W (Nat.le_refl _) hpd hn hb hbx h0 (by simp) (by omega)
 obtain ⟨oa, ja, ok, jk, rfl, rfl⟩ := hn.form
 have c0 : W.cell? ⟨Bt, 0, none⟩ = some (.int .i64 t.kd) := by simp [World.cell?, hBt]
 have c1 : W.cell? ⟨Bt, 1, none⟩ = some (.string (bs t.nm)) := by simp [World.cell?, hBt]
 have c2 : W.cell? ⟨Bt, 2, none⟩ = some (.string (bs t.tx)) := by simp [World.cell?, hBt]
 have c3 : W.cell? ⟨Bt, 3, none⟩ = some (.slice oa t.ats.length ja) := by simp [World.cell?, hBt]
 have c4 : W.cell? ⟨Bt, 4, none⟩ = some (.slice ok t.ks.length jk) := by simp [World.cell?, hBt]
 unfold ndV at hp
 rw [show ((0 : Nat) : Int) = 0 from rfl] at hp
 simp only [List.nil_append] at hp
 have HP := hid hp
 clear hp hY hJ h0 hb hBt hn
 refine callsIn_of_wp Tryz.func35 rfl h48 ?_ hro
 simp only [Tryz.ntmps35, List.size_toArray, List.length_cons, List.length_nil, Nat.reduceAdd, Nat.reduceSub, Array.replicate_succ, Array.replicate_zero, List.push_toArray, List.append_toArray, List.nil_append, List.cons_append]
 gi_wp2_with ((try refine ⟨hdd _, ?_⟩); gi_at_call 36; refine HP.out.mono ?_; clear HP; rintro e W1 (⟨rfl, _, ys, hk, hJ1⟩ | ⟨rfl, q, hq, hx⟩))
 ·go_end0
  exact ⟨⟨_, rfl⟩, .inl ⟨ys, hk, hJ1⟩⟩
 ·go_end0
  exact ⟨⟨_, rfl⟩, .inr ⟨q, hq, hx⟩⟩
theorem allP_stops (Pd : Tr → Prop) (F : Fence) (hd : F.depth = none) (n : Nat) (h48 : F.fn 35) (hf : F.fn 36) (hro : F.round = none) (Bt n₀ bx : Nat) (w0 : World) (hn₀ : n₀ ≤ bx) (t : Tr) (va vk : Value) (w : World) (hbn : bx < w.heap.size)
  (hBt : w.heap[Bt]? = some (.cells #[.int .i64 t.kd, .string (bs t.nm), .string (bs t.tx), va, vk] 25 (0, 0))) (hpd : ∀ y, y ∈ seqT 0 t → Pd y.2) (hn : NdOn w0 (fun b => b < n₀) t va vk) (hb : Below n₀ w0 w) (hc : cntT t ≤ 1000000) :
  SeqStopsK F n Tryz.prog 35 #[.pointer (some ⟨Bt, 0, none⟩)] (NdP.enc (w0 := w0) (n₀ := n₀) (Pd := Pd)) (KpN n₀ bx) (fun ys => ys.map NdP.key = seqT 0 t) (fun pre => pre.map NdP.key <+: seqT 0 t) (seqT 0 t).length w := fun l J Jx W hW hJ _ hY h0 =>
 allP1_in Pd F hd n h48 hf hro l Bt n₀ bx w0 hn₀ t va vk J Jx (fun pre W o h => hJ _ _ _ none h (World.grownBy_alloc W o none) (fun r e => by cases e)) hY W ((hW.block Bt (block_of_heap hBt)).trans hBt) hpd hn (hb.trans (hW.mono (by omega))) (Nat.lt_of_lt_of_le hbn hW.size) hc h0
end Char
end Go.Proofs.YtlmodgnkmlbjhaaGreatDoor
