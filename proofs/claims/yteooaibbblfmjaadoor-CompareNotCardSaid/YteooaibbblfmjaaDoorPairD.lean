/- The iterator over the pairs of two rows of numbers (written by gen_pairs.py). -/
import Derived.Test.YteooaibbblfmjaaDoorPairM
namespace Go.Proofs.YteooaibbblfmjaaDoor.Char
open Go.RowKit Go.Shelf
attribute [local go_sem] Oper.semAt_some

theorem dcells {W : World} {p : Nat} {x y : Value} {T : TypeId} (h : W.heap[p]? = some (.cells #[x, y] T (0, 0))) : W.cell? ⟨p, 0, none⟩ = some x ∧ W.cell? ⟨p, 1, none⟩ = some y := ⟨by simp [World.cell?, h], by simp [World.cell?, h]⟩
/-- what lies in memory of two rows -/
def RowsD (W : World) (bA bB : Nat) (oa ob : Option Addr) (ca cb : Nat) (xs ys : List (Int × Int)) : Prop :=
  W.cell? ⟨bA, 0, none⟩ = some (.slice oa xs.length ca) ∧ W.cell? ⟨bB, 0, none⟩ = some (.slice ob ys.length cb) ∧
  (∀ k (hk : k < xs.length), ∃ g off, oa = some ⟨g, off, none⟩ ∧ W.cell? ⟨g, off + k * 2, none⟩ = some (.int .i64 xs[k].1) ∧ W.cell? ⟨g, off + k * 2 + 1, none⟩ = some (.int .i64 xs[k].2)) ∧ (∀ k (hk : k < ys.length), ∃ g off, ob = some ⟨g, off, none⟩ ∧ W.cell? ⟨g, off + k * 2, none⟩ = some (.int .i64 ys[k].1) ∧ W.cell? ⟨g, off + k * 2 + 1, none⟩ = some (.int .i64 ys[k].2))
set_option maxRecDepth 100000 in
set_option maxHeartbeats 4000000 in
theorem pairsID_in (F : Fence) (n : Nat) (hf : F.fn 40) (hro : F.round = none) (hn : 1 ≤ n) (l n₀ bx bA bB : Nat) (oa ob : Option Addr) (ca cb : Nat) (xs ys : List (Int × Int)) (J Jx : List ((Int × Int) × (Int × Int)) → World → Prop)
    (W : World) (hJ : AbidesFrom W.heap.size J) (hn0 : n₀ ≤ W.heap.size) (hbx : bx < W.heap.size) (hxn : xs.length ≤ 100000) (hyn : ys.length ≤ 100000)
    (hY : ∀ pre x W1, J pre W1 → pre.length < (pairsL xs ys).length → YieldAt F (n - 1) Tryd.prog l #[.agg #[.int .i64 x.1.1, .int .i64 x.1.2], .agg #[.int .i64 x.2.1, .int .i64 x.2.2]] W1 fun e W' =>
      (e = .returned (.bool true) ∧ J (pre ++ [x]) W' ∧ KpN n₀ bx W1 W') ∨ (e = .returned (.bool false) ∧ Jx (pre ++ [x]) W'))
    (hF : ∀ W', KpN n₀ bx W W' → RowsD W' bA bB oa ob ca cb xs ys) (h0 : J [] W) :
    CallsIn F n Tryd.prog 40 #[.func (.yield l) #[] #[], .pointer (some ⟨bA, 0, none⟩), .pointer (some ⟨bB, 0, none⟩)] W fun e W' => (∃ v, e = .returned v) ∧
      ((∃ zs, zs = pairsL xs ys ∧ J zs W') ∨ (∃ pre, pre <+: pairsL xs ys ∧ Jx pre W')) := by
  obtain ⟨hcA, _, _, _⟩ := hF W (kpN_refl _ _ _)
  have HF := Lib.hid hF
  have HY := Lib.hid hY
  have HJ := Lib.hid hJ
  clear hF hY hJ
  refine callsIn_of_wp Tryd.func40 rfl hf ?_ hro
  simp only [Tryd.ntmps40, List.size_toArray, List.length_cons, List.length_nil, Nat.reduceAdd, Nat.reduceSub, Array.replicate_succ, Array.replicate_zero, List.push_toArray, List.append_toArray, List.nil_append, List.cons_append]
  gi_wp2
  gi_loopw [10] (fun p wr => ∃ (k : Nat) (pre : List ((Int × Int) × (Int × Int))), p = .int .i64 (k : Int) ∧ k ≤ xs.length ∧ J pre wr ∧ KpN n₀ bx W wr ∧ W.heap.size ≤ wr.heap.size ∧ Hid (pre ++ pairsL (xs.drop k) ys = pairsL xs ys)) (fun p _ => xs.length - (RowKit.intOf p).toNat)
  case atStart => exact ⟨0, [], rfl, Nat.zero_le _, h0, kpN_refl _ _ _, Nat.le_refl _, Lib.hid rfl⟩
  case round =>
    obtain ⟨k, pre, rfl, hk, hJp, hKp, hWs, HL⟩ := hrel
    obtain ⟨wo, hwo⟩ : ∃ wo, wo = wr := ⟨_, rfl⟩
    subst hwo
    by_cases hlt : k < xs.length
    · obtain ⟨_, hcB, hxs, _⟩ := HF.out wo hKp
      obtain ⟨g, off, rfl, hc⟩ := hxs k hlt
      obtain ⟨hc, hc'⟩ := hc
      have HL2 : Hid (pre ++ (((ys.drop 0).map fun y => (xs[k], y)) ++ pairsL (xs.drop (k + 1)) ys) = pairsL xs ys) := Lib.hid (by rw [← HL.out, List.drop_eq_getElem_cons hlt]; rfl)
      have hlt' : (k : Int) < (xs.length : Int) := by omega
      obtain ⟨x, hx⟩ : ∃ x, x = xs[k] := ⟨_, rfl⟩
      rw [← hx] at HL2 hc hc'
      clear hx hxs
      have hb1 : Below wo.heap.size wo (wo.alloc (.cells #[.int .i64 x.1, .int .i64 x.2] 24)) := below_box _ _
      have hKp1 : KpN n₀ bx W (wo.alloc (.cells #[.int .i64 x.1, .int .i64 x.2] 24)) := kpN_t hKp (kpN_grow (Nat.le_trans hn0 hWs) hb1)
      have hWs1 : W.heap.size ≤ (wo.alloc (.cells #[.int .i64 x.1, .int .i64 x.2] 24)).heap.size := Nat.le_trans hWs hb1.size
      have hJ1 : J pre (wo.alloc (.cells #[.int .i64 x.1, .int .i64 x.2] 24)) := HJ.out pre _ _ none hJp (World.grownBy_alloc wo _ none) (fun r e => by cases e)
      have hX1 : (wo.alloc (.cells #[.int .i64 x.1, .int .i64 x.2] 24)).heap[wo.heap.size]? = some (.cells #[.int .i64 x.1, .int .i64 x.2] 24 (0, 0)) := World.alloc_heap_new wo _
      have hl1 : wo.heap.size < (wo.alloc (.cells #[.int .i64 x.1, .int .i64 x.2] 24)).heap.size := by simp
      have hne : wo.heap.size ≠ bx := by omega
      have HB1 := Lib.hid hb1
      have HCB := Lib.hid hcB
      have hcB1 := (hb1.cell (p := ⟨bB, 0, none⟩) (cell_lt (a := ⟨bB, 0, none⟩) hcB)).trans hcB
      clear hb1
      gi_wp2
      gi_loopw [16] (fun p wr2 => ∃ (j : Nat) (pre : List ((Int × Int) × (Int × Int))), p = .int .i64 (j : Int) ∧ j ≤ ys.length ∧ J pre wr2 ∧ KpN n₀ bx W wr2 ∧ W.heap.size ≤ wr2.heap.size ∧ wo.heap.size < wr2.heap.size ∧ wr2.heap[wo.heap.size]? = some (.cells #[.int .i64 x.1, .int .i64 x.2] 24 (0, 0)) ∧ Hid (pre ++ (((ys.drop j).map fun y => (x, y)) ++ pairsL (xs.drop (k + 1)) ys) = pairsL xs ys)) (fun p _ => ys.length - (RowKit.intOf p).toNat)
      case atStart => exact ⟨0, pre, rfl, Nat.zero_le _, hJ1, hKp1, hWs1, hl1, hX1, HL2⟩
      case round =>
        obtain ⟨j, pre2, rfl, hj, hJ2, hKp2, hWs2, hbl, hbX, HM⟩ := hrel
        by_cases hjl : j < ys.length
        · obtain ⟨_, _, _, hys⟩ := HF.out wr hKp2
          obtain ⟨g2, off2, rfl, hd⟩ := hys j hjl
          obtain ⟨hd, hd'⟩ := hd
          have hjl' : (j : Int) < (ys.length : Int) := by omega
          have hM2 : (pre2 ++ [(x, ys[j])]) ++ (((ys.drop (j + 1)).map fun y => (x, y)) ++ pairsL (xs.drop (k + 1)) ys) = pairsL xs ys := by rw [← HM.out, List.drop_eq_getElem_cons hjl, List.map_cons, List.append_assoc]; rfl
          have hlen : pre2.length < (pairsL xs ys).length := by rw [← hM2]; simp only [List.length_append, List.length_cons, List.length_nil]; omega
          obtain ⟨y, hy⟩ : ∃ y, y = ys[j] := ⟨_, rfl⟩
          rw [← hy] at hM2 hd hd'
          have HM2 := Lib.hid hM2
          clear hM2 hy hys HM
          have hb2 : Below wr.heap.size wr (wr.alloc (.cells #[.int .i64 y.1, .int .i64 y.2] 24)) := below_box _ _
          have hKp3 : KpN n₀ bx W (wr.alloc (.cells #[.int .i64 y.1, .int .i64 y.2] 24)) := kpN_t hKp2 (kpN_grow (Nat.le_trans hn0 hWs2) hb2)
          have hWs3 : W.heap.size ≤ (wr.alloc (.cells #[.int .i64 y.1, .int .i64 y.2] 24)).heap.size := Nat.le_trans hWs2 hb2.size
          have hJ4 : J pre2 (wr.alloc (.cells #[.int .i64 y.1, .int .i64 y.2] 24)) := HJ.out pre2 _ _ none hJ2 (World.grownBy_alloc wr _ none) (fun r e => by cases e)
          have hX2 := (hb2.block _ hbl).trans hbX
          have hY2 : (wr.alloc (.cells #[.int .i64 y.1, .int .i64 y.2] 24)).heap[wr.heap.size]? = some (.cells #[.int .i64 y.1, .int .i64 y.2] 24 (0, 0)) := World.alloc_heap_new wr _
          obtain ⟨a0, a1⟩ := dcells hX2
          obtain ⟨b0, b1⟩ := dcells hY2
          have HX2 := Lib.hid hX2
          have HK3 := Lib.hid hKp3
          have HW3 := Lib.hid hWs3
          clear hX2 hY2 hKp3 hWs3 hb2
          obtain ⟨fn, tmps, assign, body, hyy, hR⟩ := HY.out pre2 (x, y) _ hJ4 hlen
          clear hlen
          simp only at hyy
          gi_wp2
          refine hR.mono ?_
          rintro e W3 (⟨rfl, hJ3, hk3⟩ | ⟨rfl, hJx3⟩)
          · gi_wp2
            go_roundw
            case rel => exact ⟨j + 1, _, by go_num, hjl, hJ3, kpN_t HK3.out hk3, Nat.le_trans HW3.out hk3.1.size, (Array.getElem?_eq_some_iff.1 (kpN_blk hk3 HX2.out hne)).1, kpN_blk hk3 HX2.out hne, HM2⟩
            case measure => simp [RowKit.intOf]; omega
          · gi_wp2
            refine bodyPost_ret (results_none rfl _ _ _) rfl ?_
            exact ⟨⟨_, rfl⟩, .inr ⟨_, ⟨_, HM2.out⟩, hJx3⟩⟩
        · have he : j = ys.length := by omega
          have HE : Hid (pre2 ++ pairsL (xs.drop (k + 1)) ys = pairsL xs ys) := Lib.hid (by rw [← HM.out, he, List.drop_length]; rfl)
          clear he HM
          gi_wp2
          go_roundw
          case rel => exact ⟨k + 1, pre2, by go_num, hlt, hJ2, hKp2, hWs2, HE⟩
          case measure => simp [RowKit.intOf]; omega
    · have he : k = xs.length := by omega
      have HE : Hid (pre = pairsL xs ys) := Lib.hid (by rw [← HL.out, he, List.drop_length]; simp [pairsL])
      clear he HL
      gi_wp2
      go_end0
      exact ⟨⟨_, rfl⟩, .inl ⟨pre, HE.out, hJp⟩⟩
end Go.Proofs.YteooaibbblfmjaaDoor.Char
