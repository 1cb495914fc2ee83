/- TellP RightW -/
import Derived.Test.YtognlnjamlhmhaaGreatDoorPkSeq
import Derived.Test.YtognlnjamlhmhaaGreatDoorPkRtA
/- The walks of tell and all once more (made by gen_tellp.py out of TellW): each node that a loop is handed, with what holds of all of the tree's. -/
namespace Go.Proofs.YtognlnjamlhmhaaGreatDoor.Char
open Go.RowKit Go.Lib Go.Shelf
attribute [local go_sem] Oper.semAt_some

/-- a node that a loop is handed, with what its slices are, and what holds of it -/
def NdP (w0 : World) (n₀ : Nat) (Pd : Tr → Prop) : Type := { x : Nat × NdV // NdOn w0 (fun b => b < n₀) x.2.1 x.2.2.1 x.2.2.2 ∧ Pd x.2.1 }
def NdP.key {w0 : World} {n₀ : Nat} {Pd : Tr → Prop} (x : NdP w0 n₀ Pd) : Nat × Tr := (x.1.1, x.1.2.1)
def NdP.enc {w0 : World} {n₀ : Nat} {Pd : Tr → Prop} (x : NdP w0 n₀ Pd) : Array Value := #[.int .i64 (x.1.1 : Int), ndV x.1.2.1 x.1.2.2.1 x.1.2.2.2]
set_option maxRecDepth 100000 in
set_option maxHeartbeats 4000000 in
theorem tellP_in (Pd : Tr → Prop) (F : Fence) (hd : F.depth = none) (hf : F.fn 49) (hro : F.round = none) (l n₀ bx N : Nat) (w0 : World) (hn₀ : n₀ ≤ bx) (J Jx : List (NdP w0 n₀ Pd) → World → Prop)
    (hJ : ∀ pre W o, J pre W → J pre (W.alloc o))
    (hY : ∀ m pre x W, J pre W → pre.length < N → YieldAt F m Tryz.prog l x.enc W fun e W' =>
      (e = .returned (.bool true) ∧ J (pre ++ [x]) W' ∧ KpN n₀ bx W W') ∨ (e = .returned (.bool false) ∧ Jx (pre ++ [x]) W')) :
    ∀ (c : Nat) (t : Tr) (n : Nat) (va vk : Value) (lv : Nat) (pre : List (NdP w0 n₀ Pd)) (W : World), cntT t ≤ c → (∀ y, y ∈ seqT lv t → Pd y.2) → NdOn w0 (fun b => b < n₀) t va vk → Below n₀ w0 W → bx < W.heap.size → J pre W → pre.length + (seqT lv t).length ≤ N → lv + cntT t ≤ 1000000 →
      CallsIn F n Tryz.prog 49 #[ndV t va vk, .int .i64 (lv : Int), .func (.yield l) #[] #[]] W fun e W' =>
        (e = .returned (.bool true) ∧ KpN n₀ bx W W' ∧ ∃ ys, ys.map NdP.key = seqT lv t ∧ J (pre ++ ys) W') ∨ (e = .returned (.bool false) ∧ ∃ ys, ys.map NdP.key <+: seqT lv t ∧ Jx (pre ++ ys) W') := by
  intro c
  induction c with
  | zero => intro t n va vk lv pre W hc; have := cntT_pos t; omega
  | succ c ih =>
    intro t n va vk lv pre W hc hpd hn hb hbx hj hN hlv
    have hdd : ∀ k : Nat, (F.depth.isSome = true → 1 ≤ k) := fun k h => by rw [hd] at h; cases h
    obtain ⟨oa, ja, ok, jk, rfl, rfl⟩ := hn.form
    obtain ⟨W1, hW1⟩ : ∃ W1, W1 = W.alloc (.cells #[.int .i64 t.kd, .string (bs t.nm), .string (bs t.tx), .slice oa t.ats.length ja, .slice ok t.ks.length jk] 26) := ⟨_, rfl⟩
    have b1 : Below W.heap.size W W1 := by rw [hW1]; exact (Below.refl _ _).alloc (Nat.le_refl _) _
    have s1 : W1.heap.size = W.heap.size + 1 := by rw [hW1]; simp
    have j1 : J pre W1 := by rw [hW1]; exact hJ _ _ _ hj
    have d0 : W1.cell? ⟨W.heap.size, 0, none⟩ = some (.int .i64 t.kd) := by rw [hW1]; go_simp
    have d1 : W1.cell? ⟨W.heap.size, 1, none⟩ = some (.string (bs t.nm)) := by rw [hW1]; go_simp
    have d2 : W1.cell? ⟨W.heap.size, 2, none⟩ = some (.string (bs t.tx)) := by rw [hW1]; go_simp
    have d3 : W1.cell? ⟨W.heap.size, 3, none⟩ = some (.slice oa t.ats.length ja) := by rw [hW1]; go_simp
    have d4 : W1.cell? ⟨W.heap.size, 4, none⟩ = some (.slice ok t.ks.length jk) := by rw [hW1]; go_simp
    have k1 : KpN n₀ bx W W1 := kpN_grow (by omega) b1
    by_cases h2 : t.kd = 2
    · rw [seqT_elem h2] at hN hpd ⊢
      have HPD := Lib.hid hpd
      rw [List.length_cons] at hN
      have hcn := cnt_eq t
      have hcl := cntK_len t.ks
      obtain ⟨o9, i9, j9, hv9, hi9, hkids⟩ := hn.kids
      simp only [Value.slice.injEq] at hv9
      obtain ⟨rfl, rfl, rfl⟩ := hv9
      obtain ⟨x, hxk, hxe⟩ : ∃ x : NdP w0 n₀ Pd, x.key = (lv + 1, t) ∧ x.enc = #[.int .i64 ((lv : Int) + 1), .agg #[.int .i64 t.kd, .string (bs t.nm), .string (bs t.tx), .slice oa t.ats.length ja, .slice ok t.ks.length jk]] := ⟨⟨(lv + 1, t, .slice oa t.ats.length ja, .slice ok t.ks.length jk), hn, hpd (lv + 1, t) (by simp)⟩, rfl, by simp [NdP.enc, ndV]⟩
      obtain ⟨fn, tmps, assign, body, hy, hR⟩ := hY (n - 1) pre x W1 j1 (by omega)
      rw [hxe, hW1, h2] at hy
      rw [hW1, h2] at hR
      have hk1 := k1
      rw [hW1, h2] at hk1
      have HXK := Lib.hid hxk
      have HK1 := Lib.hid hk1
      have HJ := Lib.hid hJ
      have HIH := Lib.hid ih
      have HKD := Lib.hid hkids
      have hblk : W1.heap[W.heap.size]? = some (.cells #[.int .i64 t.kd, .string (bs t.nm), .string (bs t.tx), .slice oa t.ats.length ja, .slice ok t.ks.length jk] 26 (0, 0)) := by rw [hW1]; exact World.alloc_heap_new W _
      rw [hW1, h2] at hblk
      have HBL := Lib.hid hblk
      have HB := Lib.hid hb
      clear hW1 b1 j1 hj hn ih hY hJ k1 hk1 hxk hxe hpd d0 d1 d2 d3 d4 hkids hblk hb
      unfold ndV
      rw [h2]
      refine callsIn_of_wp Tryz.func49 rfl hf ?_ hro
      simp only [Tryz.ntmps49, List.size_toArray, List.length_cons, List.length_nil, Nat.reduceAdd, Nat.reduceSub, Array.replicate_succ, Array.replicate_zero, List.push_toArray, List.append_toArray, List.nil_append, List.cons_append]
      have hbxn : W.heap.size ≠ bx := by omega
      have hR2 := hR.mono (R' := fun e W' => (e = .returned (.bool true) ∧ J (pre ++ [x]) W' ∧ KpN n₀ bx (W.alloc (.cells #[.int .i64 2, .string (bs t.nm), .string (bs t.tx), .slice oa t.ats.length ja, .slice ok t.ks.length jk] 26)) W' ∧ W'.cell? ⟨W.heap.size, 4, none⟩ = some (.slice ok t.ks.length jk)) ∨ (e = .returned (.bool false) ∧ Jx (pre ++ [x]) W'))
        (fun e W' h => h.elim (fun ⟨q1, q2, q3⟩ => .inl ⟨q1, q2, q3, by
          have := q3.2 _ _ HBL.out rfl hbxn
          simp [World.cell?, this]⟩) .inr)
      clear hR
      gi_wp2_with ((try refine ⟨hdd _, ?_⟩); refine hR2.mono ?_; clear hR2; rintro e W2 (⟨rfl, hJ2, hk2, hc2⟩ | ⟨rfl, hx2⟩))
      · have hWb : W.heap.size < W2.heap.size := cell_lt hc2
        have hk02 := kpN_t HK1.out hk2
        have HK02 := Lib.hid hk02
        have HJ2 := Lib.hid hJ2
        clear hJ2 hk2 hk02
        gi_loopw [25] (fun v wr => ∃ (k : Nat) (ys : List (NdP w0 n₀ Pd)), v = .int .i64 (k : Int) ∧ k ≤ t.ks.length ∧ KpN n₀ bx W wr ∧ bx < wr.heap.size ∧ J (pre ++ (x :: ys)) wr ∧ Hid (ys.map NdP.key ++ seqK (lv + 1) (t.ks.drop k) = seqK (lv + 1) t.ks)) (fun v _ => t.ks.length - (RowKit.intOf v).toNat)
        case atStart => exact ⟨0, [], rfl, Nat.zero_le _, HK02.out, by omega, HJ2.out, Lib.hid rfl⟩
        case round =>
          obtain ⟨k, ys, rfl, hk, hkr, hbr, hjr, HS⟩ := hrel
          by_cases hlt : k < t.ks.length
          · have hne : t.ks ≠ [] := by intro e; rw [e] at hlt; simp at hlt
            rcases HKD.out with h0 | ⟨g, off, rfl, hg, hks⟩
            · exact absurd h0 hne
            · obtain ⟨va, vk, ⟨a0, a1, a2, a3, a4⟩, hnk⟩ := hks.at k hlt
              obtain ⟨oa2, ja2, ok2, jk2, rfl, rfl⟩ := hnk.form
              have hb0 : Below n₀ w0 wr := HB.out.trans hkr.1
              replace a0 := (hb0.cell (p := ⟨g, off + k * 5, none⟩) hg).trans a0
              replace a1 := (hb0.cell (p := ⟨g, off + k * 5 + 1, none⟩) hg).trans a1
              replace a2 := (hb0.cell (p := ⟨g, off + k * 5 + 2, none⟩) hg).trans a2
              replace a3 := (hb0.cell (p := ⟨g, off + k * 5 + 3, none⟩) hg).trans a3
              replace a4 := (hb0.cell (p := ⟨g, off + k * 5 + 4, none⟩) hg).trans a4
              have hkc := cntK_at t.ks k hlt
              have hdr : t.ks.drop k = t.ks[k] :: t.ks.drop (k + 1) := List.drop_eq_getElem_cons hlt
              have hsq : ys.map NdP.key ++ (seqT (lv + 1) t.ks[k] ++ seqK (lv + 1) (t.ks.drop (k + 1))) = seqK (lv + 1) t.ks := by
                have := HS.out
                rw [hdr, seqK] at this
                exact this
              have hsl := congrArg List.length hsq
              rw [List.length_append, List.length_append, List.length_map] at hsl
              generalize t.ks[k] = kid at *
              obtain ⟨W3, hW3⟩ : ∃ W3, W3 = wr.alloc (.cells #[.int .i64 kid.kd, .string (bs kid.nm), .string (bs kid.tx), .slice oa2 kid.ats.length ja2, .slice ok2 kid.ks.length jk2] 26) := ⟨_, rfl⟩
              have b3 : Below wr.heap.size wr W3 := by rw [hW3]; exact (Below.refl _ _).alloc (Nat.le_refl _) _
              have hcall := HIH.out kid (n - 1) _ _ (lv + 1) (pre ++ (x :: ys)) W3 (by omega) (fun y hy => HPD.out y (List.mem_cons_of_mem _ (by rw [← hsq]; exact List.mem_append_right _ (List.mem_append_left _ hy)))) hnk (hb0.trans (b3.mono (by omega))) (Nat.lt_of_lt_of_le hbr b3.size) (by rw [hW3]; exact HJ.out _ _ _ hjr) (by rw [List.length_append, List.length_cons]; omega) (by omega)
              rw [hW3] at hcall
              unfold ndV at hcall
              rw [Int.natCast_add] at hcall
              have HC := Lib.hid hcall
              have HSQ := Lib.hid hsq
              have hk3 := kpN_t hkr (kpN_grow (bx := bx) (by omega) b3)
              rw [hW3] at hk3
              have HK3 := Lib.hid hk3
              clear hcall hsq hks hnk hW3 b3 hk3 hjr hkr
              gi_wp2_with ((try refine ⟨hdd _, ?_⟩); gi_at_call 49; refine HC.out.mono ?_; rintro e W4 (⟨rfl, k4, ys4, y4, j4⟩ | ⟨rfl, ys4, y4, x4⟩))
              · have hkk := kpN_t HK3.out k4
                have hsz := hkk.1.size
                refine ⟨⟨k + 1, ys ++ ys4, by rw [Int.natCast_add]; rfl, by omega, hkk, by omega, by simpa using j4, Lib.hid (by rw [List.map_append, y4, List.append_assoc]; exact HSQ.out)⟩, ?_⟩
                simp [RowKit.intOf]
                omega
              · go_ret
                obtain ⟨rest, hrest⟩ := y4
                refine .inr ⟨rfl, x :: (ys ++ ys4), ⟨rest ++ seqK (lv + 1) (t.ks.drop (k + 1)), ?_⟩, by simpa using x4⟩
                rw [List.map_cons, HXK.out, List.map_append, List.cons_append, ← HSQ.out, ← hrest]
                simp
          · have hke : k = t.ks.length := by omega
            have hfin := HS.out
            rw [hke, List.drop_length, seqK, List.append_nil] at hfin
            have HFIN := Lib.hid hfin
            have HKR := Lib.hid hkr
            have HJR := Lib.hid hjr
            clear HS hfin hkr hjr
            gi_wp2
            go_ret
            exact .inl ⟨rfl, HKR.out, x :: ys, by rw [List.map_cons, HXK.out, HFIN.out], HJR.out⟩
      · go_ret
        exact .inr ⟨rfl, [x], by rw [List.map_cons, List.map_nil, HXK.out]; exact ⟨_, rfl⟩, hx2⟩
    · have k2 : (t.kd == 2) = false := by simpa using h2
      rw [seqT_leaf h2] at hN hpd ⊢
      have HPD := Lib.hid hpd
      obtain ⟨x, hxk, hxe⟩ : ∃ x : NdP w0 n₀ Pd, x.key = (lv, t) ∧ x.enc = #[.int .i64 (lv : Int), .agg #[.int .i64 t.kd, .string (bs t.nm), .string (bs t.tx), .slice oa t.ats.length ja, .slice ok t.ks.length jk]] := ⟨⟨(lv, t, .slice oa t.ats.length ja, .slice ok t.ks.length jk), hn, hpd (lv, t) (by simp)⟩, rfl, rfl⟩
      obtain ⟨fn, tmps, assign, body, hy, hR⟩ := hY (n - 1) pre x W1 j1 (by simp at hN; omega)
      rw [hxe, hW1] at hy
      rw [hW1] at hR
      have HW1 := Lib.hid hW1
      have HK1 := Lib.hid k1
      have HXK := Lib.hid hxk
      clear hW1 b1 j1 hj hn ih hY hJ k1 hxk hxe hpd HPD d0 d1 d2 d3 d4
      unfold ndV
      refine callsIn_of_wp Tryz.func49 rfl hf ?_ hro
      simp only [Tryz.ntmps49, List.size_toArray, List.length_cons, List.length_nil, Nat.reduceAdd, Nat.reduceSub, Array.replicate_succ, Array.replicate_zero, List.push_toArray, List.append_toArray, List.nil_append, List.cons_append]
      gi_wp2_with ((try refine ⟨hdd _, ?_⟩); refine hR.mono ?_; clear hR; rintro e W2 (⟨rfl, hJ2, hk2⟩ | ⟨rfl, hx2⟩))
      · go_ret
        have hk1 := HK1.out
        rw [HW1.out] at hk1
        exact .inl ⟨rfl, kpN_t hk1 hk2, [x], by rw [List.map_cons, List.map_nil, HXK.out], hJ2⟩
      · go_ret
        exact .inr ⟨rfl, [x], by rw [List.map_cons, List.map_nil, HXK.out]; exact List.prefix_refl _, hx2⟩
set_option maxRecDepth 100000 in
set_option maxHeartbeats 1000000 in
theorem allP1_in (Pd : Tr → Prop) (F : Fence) (hd : F.depth = none) (n : Nat) (h48 : F.fn 48) (hf : F.fn 49) (hro : F.round = none) (l Bt n₀ bx : Nat) (w0 : World) (hn₀ : n₀ ≤ bx) (t : Tr) (va vk : Value) (J Jx : List (NdP w0 n₀ Pd) → World → Prop)
    (hJ : ∀ pre W o, J pre W → J pre (W.alloc o))
    (hY : ∀ pre x W, J pre W → pre.length < (seqT 0 t).length → YieldAt F (n - 1) Tryz.prog l x.enc W fun e W' =>
      (e = .returned (.bool true) ∧ J (pre ++ [x]) W' ∧ KpN n₀ bx W W') ∨ (e = .returned (.bool false) ∧ Jx (pre ++ [x]) W'))
    (W : World) (hBt : W.heap[Bt]? = some (.cells #[.int .i64 t.kd, .string (bs t.nm), .string (bs t.tx), va, vk] 26 (0, 0))) (hpd : ∀ y, y ∈ seqT 0 t → Pd y.2) (hn : NdOn w0 (fun b => b < n₀) t va vk) (hb : Below n₀ w0 W) (hbx : bx < W.heap.size) (hc : cntT t ≤ 1000000) (h0 : J [] W) :
    CallsIn F n Tryz.prog 48 #[.func (.yield l) #[] #[], .pointer (some ⟨Bt, 0, none⟩)] W fun e W' => (∃ v, e = .returned v) ∧
      ((∃ ys : List (NdP w0 n₀ Pd), ys.map NdP.key = seqT 0 t ∧ J ys W') ∨ (∃ pre : List (NdP w0 n₀ Pd), pre.map NdP.key <+: seqT 0 t ∧ Jx pre W')) := by
  have hdd : ∀ k : Nat, (F.depth.isSome = true → 1 ≤ k) := fun k h => by rw [hd] at h; cases h
  have hp := tellP_in Pd F hd hf hro l n₀ bx (seqT 0 t).length w0 hn₀ J Jx hJ (fun m pre x W hj hl => yieldAt_any hd m (hY pre x W hj hl)) (cntT t) t (n - 1) va vk 0 [] W (Nat.le_refl _) hpd hn hb hbx h0 (by simp) (by omega)
  obtain ⟨oa, ja, ok, jk, rfl, rfl⟩ := hn.form
  have c0 : W.cell? ⟨Bt, 0, none⟩ = some (.int .i64 t.kd) := by simp [World.cell?, hBt]
  have c1 : W.cell? ⟨Bt, 1, none⟩ = some (.string (bs t.nm)) := by simp [World.cell?, hBt]
  have c2 : W.cell? ⟨Bt, 2, none⟩ = some (.string (bs t.tx)) := by simp [World.cell?, hBt]
  have c3 : W.cell? ⟨Bt, 3, none⟩ = some (.slice oa t.ats.length ja) := by simp [World.cell?, hBt]
  have c4 : W.cell? ⟨Bt, 4, none⟩ = some (.slice ok t.ks.length jk) := by simp [World.cell?, hBt]
  unfold ndV at hp
  rw [show ((0 : Nat) : Int) = 0 from rfl] at hp
  simp only [List.nil_append] at hp
  have HP := Lib.hid hp
  clear hp hY hJ h0 hb hBt hn
  refine callsIn_of_wp Tryz.func48 rfl h48 ?_ hro
  simp only [Tryz.ntmps48, List.size_toArray, List.length_cons, List.length_nil, Nat.reduceAdd, Nat.reduceSub, Array.replicate_succ, Array.replicate_zero, List.push_toArray, List.append_toArray, List.nil_append, List.cons_append]
  gi_wp2_with ((try refine ⟨hdd _, ?_⟩); gi_at_call 49; refine HP.out.mono ?_; clear HP; rintro e W1 (⟨rfl, _, ys, hk, hJ1⟩ | ⟨rfl, q, hq, hx⟩))
  · go_end0
    exact ⟨⟨_, rfl⟩, .inl ⟨ys, hk, hJ1⟩⟩
  · go_end0
    exact ⟨⟨_, rfl⟩, .inr ⟨q, hq, hx⟩⟩
/-- what all(n) hands to a loop -/
theorem allP_stops (Pd : Tr → Prop) (F : Fence) (hd : F.depth = none) (n : Nat) (h48 : F.fn 48) (hf : F.fn 49) (hro : F.round = none) (Bt n₀ bx : Nat) (w0 : World) (hn₀ : n₀ ≤ bx) (t : Tr) (va vk : Value) (w : World) (hbn : bx < w.heap.size)
    (hBt : w.heap[Bt]? = some (.cells #[.int .i64 t.kd, .string (bs t.nm), .string (bs t.tx), va, vk] 26 (0, 0))) (hpd : ∀ y, y ∈ seqT 0 t → Pd y.2) (hn : NdOn w0 (fun b => b < n₀) t va vk) (hb : Below n₀ w0 w) (hc : cntT t ≤ 1000000) :
    SeqStopsK F n Tryz.prog 48 #[.pointer (some ⟨Bt, 0, none⟩)] (NdP.enc (w0 := w0) (n₀ := n₀) (Pd := Pd)) (KpN n₀ bx) (fun ys => ys.map NdP.key = seqT 0 t) (fun pre => pre.map NdP.key <+: seqT 0 t) (seqT 0 t).length w := fun l J Jx W hW hJ _ hY h0 =>
  allP1_in Pd F hd n h48 hf hro l Bt n₀ bx w0 hn₀ t va vk J Jx (fun pre W o h => hJ _ _ _ none h (World.grownBy_alloc W o none) (fun r e => by cases e)) hY W ((hW.block Bt (block_of_heap hBt)).trans hBt) hpd hn (hb.trans (hW.mono (by omega))) (Nat.lt_of_lt_of_le hbn hW.size) hc h0
end Go.Proofs.YtognlnjamlhmhaaGreatDoor.Char

/- The walk of Right: node after node, left at the first that is wrong. -/
namespace Go.Proofs.YtognlnjamlhmhaaGreatDoor.Char
open Go.RowKit Go.Lib Go.Shelf
attribute [local go_sem] Oper.semAt_some

theorem wtR_snoc (l : List (Nat × Tr)) (x : Nat × Tr) : wtR (l ++ [x]) = wtR l + (1 + x.2.ats.length) := by simp [wtR]
/-- what is behind nodes that are right -/
def goneR (l : List (Nat × Tr)) : Prop := wtR l ≤ 120 ∧ ∀ rest, runR (l ++ rest) 0 = runR rest (wtR l)
def badR (l : List (Nat × Tr)) : Prop := ∀ rest, runR (l ++ rest) 0 = false
theorem goneR_nil : goneR [] := ⟨by simp [wtR], fun rest => by simp [wtR]⟩
theorem goneR_snoc {l : List (Nat × Tr)} {x : Nat × Tr} (h : goneR l) (h1 : x.1 ≤ 12) (h2 : wtR l + (1 + x.2.ats.length) ≤ 120) (h3 : fitT x.2 = true) : goneR (l ++ [x]) := by
  refine ⟨by rw [wtR_snoc]; exact h2, fun rest => ?_⟩
  rw [List.append_assoc, h.2, wtR_snoc]
  show runR (x :: rest) _ = _
  rw [runR, if_neg]
  · rw [Nat.add_assoc]
  · rintro (h | h | h)
    · omega
    · omega
    · rw [h3] at h; cases h
theorem badR_snoc {l : List (Nat × Tr)} {x : Nat × Tr} (h : goneR l) (h1 : 12 < x.1 ∨ 120 < wtR l + (1 + x.2.ats.length) ∨ fitT x.2 = false) : badR (l ++ [x]) := by
  intro rest
  rw [List.append_assoc, h.2]
  show runR (x :: rest) _ = _
  rw [runR, if_pos]
  rcases h1 with h | h | h
  · exact .inl h
  · exact .inr (.inl (by omega))
  · exact .inr (.inr h)
theorem keeps_below {W W' : World} (h : Below W.heap.size W W') : KeepsOthers W W' := ⟨h.size, fun k _ hk _ => (h.block k (Array.getElem?_eq_some_iff.1 hk).1).trans hk⟩

set_option maxRecDepth 100000 in
set_option maxHeartbeats 4000000 in
theorem right_any (t : Tr) (va vk : Value) (w : World) (hn : NdOn w (fun b => b < w.heap.size) t va vk) (hc : cntT t ≤ 1000000) (hfb : ∀ x, x ∈ seqT 0 t → FitB x.2) (hG : Gl6 w) :
    Calls Tryz.prog 11 #[ndV t va vk] w fun e w' => e = .returned (.bool (rightP t)) ∧ Below w.heap.size w w' := by
  obtain ⟨oa, ja, ok, jk, rfl, rfl⟩ := hn.form
  have HN := Lib.hid hn
  have HG := Lib.hid hG
  have HFB := Lib.hid hfb
  clear hn hG hfb
  have hA := fun (W : World) => all_in (n := 8) Fence.wide trivial rfl t (.slice oa t.ats.length ja) (.slice ok t.ks.length jk) ⟨_, _, _, rfl⟩ ⟨_, _, _, rfl⟩ W
  unfold ndV at hA ⊢
  have HA := fun W => Lib.hid (hA W)
  clear hA
  by_cases h2 : t.kd = 2
  · have k2 : (t.kd != 2) = false := by simp [h2]
    have H2 := Lib.hid h2
    clear h2
    refine (callsIn_wide (n := 9)).1 ?_
    refine callsIn_of_wp_marks Tryz.func11 rfl trivial ?_ rfl
    simp only [Tryz.ntmps11, List.size_toArray, List.length_cons, List.length_nil, Nat.reduceAdd, Nat.reduceSub, Array.replicate_succ, Array.replicate_zero, List.push_toArray, List.append_toArray, List.nil_append, List.cons_append]
    gi_wp2_with (refine ⟨trivial, ?_⟩; gi_at_call 25; refine (HA _).out.mono ?_; rintro e w' ⟨rfl, rfl⟩)
    obtain ⟨WL, hWL⟩ : ∃ WL, WL = (((w.alloc (.cells #[.int .i64 t.kd, .string (bs t.nm), .string (bs t.tx), .slice oa t.ats.length ja, .slice ok t.ks.length jk] 26)).alloc (.cells #[.bool false] 4)).alloc (.cells #[.int .i64 0] 3)).alloc (.cells #[.int .i64 t.kd, .string (bs t.nm), .string (bs t.tx), .slice oa t.ats.length ja, .slice ok t.ks.length jk] 26) := ⟨_, rfl⟩
    rw [← hWL]
    have hB0 : Below w.heap.size w WL := by rw [hWL]; exact ((((Below.refl _ _).alloc (Nat.le_refl _) _).alloc (by simp) _).alloc (by simp; omega) _).alloc (by simp; omega) _
    have hsL : WL.heap.size = w.heap.size + 4 := by rw [hWL]; simp
    have hBt : WL.heap[w.heap.size + 3]? = some (.cells #[.int .i64 t.kd, .string (bs t.nm), .string (bs t.tx), .slice oa t.ats.length ja, .slice ok t.ks.length jk] 26 (0, 0)) := by
      rw [hWL]
      have := World.alloc_heap_new (((w.alloc (.cells #[.int .i64 t.kd, .string (bs t.nm), .string (bs t.tx), .slice oa t.ats.length ja, .slice ok t.ks.length jk] 26)).alloc (.cells #[.bool false] 4)).alloc (.cells #[.int .i64 0] 3)) (.cells #[.int .i64 t.kd, .string (bs t.nm), .string (bs t.tx), .slice oa t.ats.length ja, .slice ok t.ks.length jk] 26)
      simpa using this
    have hbx : WL.cell? ⟨w.heap.size + 2, 0, none⟩ = some (.int .i64 0) ∧ WL.frozen? ⟨w.heap.size + 2, 0, none⟩ = false := by rw [hWL]; exact ⟨by go_simp, by go_simp⟩
    have hrx : WL.cell? ⟨w.heap.size + 1, 0, none⟩ = some (.bool false) ∧ WL.frozen? ⟨w.heap.size + 1, 0, none⟩ = false := by rw [hWL]; exact ⟨by go_simp, by go_simp⟩
    refine wpIn_rangeFunc_ownH (F := Fence.wide) (n := 9) rfl (by omega) (gf := 48) (lb := #[.pointer (some ⟨w.heap.size + 3, 0, none⟩)]) rfl trivial (enters_of Tryz.func48 (by kernel_rfl) rfl)
      (allP_stops FitB Fence.wide rfl (9 - 1) trivial trivial rfl (w.heap.size + 3) w.heap.size (w.heap.size + 2) w (by omega) t _ _ WL (by omega) hBt HFB.out HN.out hB0 hc) kpN_t (fun W l o o' hl => kpN_b (by omega) W l o o' hl) (Below.refl _ _) (fun _ => rfl)
      (fun pre W => ((W.cell? ⟨w.heap.size + 2, 0, none⟩ = some (.int .i64 (wtR (pre.map NdP.key) : Int)) ∧ W.frozen? ⟨w.heap.size + 2, 0, none⟩ = false) ∧ (W.cell? ⟨w.heap.size + 1, 0, none⟩ = some (.bool false) ∧ W.frozen? ⟨w.heap.size + 1, 0, none⟩ = false)) ∧ ((Below w.heap.size w W ∧ WL.heap.size ≤ W.heap.size) ∧ goneR (pre.map NdP.key)))
      (fun c pre W => (W.cell? ⟨w.heap.size + 1, 0, none⟩ = some (.bool false)) ∧ (Below w.heap.size w W ∧ (c = Code.ret ∧ badR (pre.map NdP.key))))
      (OwnFrom.and (Own.from (fun s A B row hs hg hr => ⟨⟨cell_kept hs.1.1 hg hr, (frozen_kept hs.1.1 hg hr).trans hs.1.2⟩, ⟨cell_kept hs.2.1 hg hr, (frozen_kept hs.2.1 hg hr).trans hs.2.2⟩⟩) _) (OwnFrom.and (OwnFrom.and (ownFrom_below (Nat.le_refl _) (by omega)) (fun _ _ _ _ hs hg _ => Nat.le_trans hs hg.size)) (fun _ _ _ _ hs _ _ => hs)))
      (fun c => OwnFrom.and (Own.from (fun s A B row hs hg hr => cell_kept hs hg hr) _) (OwnFrom.and (ownFrom_below (Nat.le_refl _) (by omega)) (fun _ _ _ _ hs _ _ => hs)))
      ⟨⟨⟨hbx.1.trans (by simp [wtR]), hbx.2⟩, hrx⟩, ⟨hB0, Nat.le_refl _⟩, goneR_nil⟩
      (fun x a' W => ∃ Bx, w.heap.size + 2 < Bx ∧ W.heap[Bx]? = some (.cells #[.int .i64 x.1.2.1.kd, .string (bs x.1.2.1.nm), .string (bs x.1.2.1.tx), x.1.2.2.1, x.1.2.2.2] 26 (0, 0)) ∧ a' = { tmps := #[(.agg #[.int .i64 t.kd, .string (bs t.nm), .string (bs t.tx), .slice oa t.ats.length ja, .slice ok t.ks.length jk]), .pointer (some ⟨w.heap.size, 0, none⟩), .pointer (some ⟨w.heap.size + 1, 0, none⟩), .pointer (some ⟨w.heap.size + 2, 0, none⟩), .int .i64 (x.1.1 : Int), .pointer (some ⟨Bx, 0, none⟩), .pointer (some ⟨w.heap.size, 0, none⟩), .int .i64 t.kd, .bool false, (.agg #[.int .i64 t.kd, .string (bs t.nm), .string (bs t.tx), .slice oa t.ats.length ja, .slice ok t.ks.length jk]), .func (.func 48) #[] #[.pointer (some ⟨w.heap.size + 3, 0, none⟩)], .int .i64 (x.1.1 : Int), ndV x.1.2.1 x.1.2.2.1 x.1.2.2.2, undef, undef, undef, undef, undef, undef, undef, undef, undef, undef, undef, undef, undef, undef, undef, undef, undef], defers := [] })
      (fun x a' _ X Y row hs hg hr => by obtain ⟨Bx, e1, e2, e3⟩ := hs; refine ⟨Bx, e1, (hg.block Bx (Array.getElem?_eq_some_iff.1 e2).1 (fun e => ?_)).trans e2, e3⟩; obtain ⟨_, o, ho, hc⟩ := hr Bx e.symm; rw [e2] at ho; cases ho; cases hc)
      ?assign ?body ?done ?stop
    case assign =>
      rintro l pre ⟨⟨lv, t', va', vk'⟩, hx⟩ W K ⟨⟨⟨hc1, hf1⟩, hc2, hf2⟩, ⟨hB, hL⟩, hgn⟩ hK
      have hx' : NdOn w (fun b => b < w.heap.size) t' va' vk' := hx.1
      obtain ⟨oa', ja', ok', jk', rfl, rfl⟩ := hx'.form
      simp only [NdP.enc, ndV] at hK ⊢
      gi_wp2
      refine hK _ _ ((KeepsOthers.alloc _ _).from _) (kpN_grow hB.size ((Below.refl _ W).alloc (Nat.le_refl _) _)) ⟨⟨⟨?_, ?_⟩, ?_, ?_⟩, ⟨hB.alloc hB.size _, by simp; omega⟩, hgn⟩ ⟨W.heap.size, by omega, World.alloc_heap_new W _, rfl⟩
      · rw [World.cell?_alloc_past _ _ _ (by omega)]; exact hc1
      · rw [World.frozen?_alloc_past _ _ _ (by omega)]; exact hf1
      · rw [World.cell?_alloc_past _ _ _ (by omega)]; exact hc2
      · rw [World.frozen?_alloc_past _ _ _ (by omega)]; exact hf2
    case body =>
      rintro l pre ⟨⟨lv, t', va', vk'⟩, hx⟩ a' W hl _ ⟨⟨⟨hc1, hf1⟩, hc2, hf2⟩, ⟨hB, hL⟩, hgn⟩ ⟨Bx, hBx, bX, rfl⟩ hlt
      have hx' : NdOn w (fun b => b < w.heap.size) t' va' vk' := hx.1
      obtain ⟨oa', ja', ok', jk', rfl, rfl⟩ := hx'.form
      have hfb : FitB t' := hx.2
      have hK : List.map NdP.key (pre ++ ([(⟨(lv, t', Value.slice oa' t'.ats.length ja', Value.slice ok' t'.ks.length jk'), hx⟩ : NdP w w.heap.size FitB)] : List (NdP w w.heap.size FitB))) = pre.map NdP.key ++ [(lv, t')] := by rw [List.map_append]; rfl
      have HKY := Lib.hid hK
      have hal := hfb.al
      have hwl := hgn.1
      have HGN := Lib.hid hgn
      generalize hs : wtR (pre.map NdP.key) = sz at *
      have HSZ := Lib.hid hs
      clear hs hgn hK
      simp only [ndV] at bX ⊢
      have z0 : ∀ V : World, V.heap[Bx]? = W.heap[Bx]? → V.cell? ⟨Bx, 0, none⟩ = some (.int .i64 t'.kd) ∧ V.cell? ⟨Bx, 1, none⟩ = some (.string (bs t'.nm)) ∧ V.cell? ⟨Bx, 2, none⟩ = some (.string (bs t'.tx)) ∧ V.cell? ⟨Bx, 3, none⟩ = some (.slice oa' t'.ats.length ja') ∧ V.cell? ⟨Bx, 4, none⟩ = some (.slice ok' t'.ks.length jk') := fun V h => by
        have h := h.trans bX
        exact ⟨by simp [World.cell?, h], by simp [World.cell?, h], by simp [World.cell?, h], by simp [World.cell?, h], by simp [World.cell?, h]⟩
      obtain ⟨c0, c1, c2, c3, c4⟩ := z0 W rfl
      have hw1 : IntKind.i64.wrap (1 + (t'.ats.length : Int)) = 1 + (t'.ats.length : Int) := IntWalk.i64_in _ (by omega)
      have hw2 : IntKind.i64.wrap ((sz : Int) + (1 + (t'.ats.length : Int))) = (sz : Int) + (1 + (t'.ats.length : Int)) := IntWalk.i64_in _ (by omega)
      have hcs : W.setCell ⟨w.heap.size + 2, 0, none⟩ (.int .i64 ((sz : Int) + (1 + (t'.ats.length : Int)))) = W.setCell ⟨w.heap.size + 2, 0, none⟩ (.int .i64 ((sz + (1 + t'.ats.length) : Nat) : Int)) := by push_cast; rfl
      have HCS := Lib.hid hcs
      clear hcs
      by_cases hlv : 12 < lv
      · have hlv' : (12 : Int) < (lv : Int) := by omega
        gi_wp2_with (refine ⟨trivial, ?_⟩)
        refine ⟨((KeepsOthers.setCell _ _ _).from _).trans ((KeepsOthers.setCell _ _ _).from _), ?_, (hB.setCell (p := ⟨w.heap.size + 2, 0, none⟩) (by simp) _).setCell (p := ⟨w.heap.size + 1, 0, none⟩) (by simp) _, rfl, by rw [HKY.out]; exact badR_snoc HGN.out (.inl hlv)⟩
        rw [World.cell?_setCell_same' _ _ _ (by rw [(cell_of_block (heap_set_ne (by omega)) 0).trans hc2]; rfl)]
      · have hlv' : ¬ (12 : Int) < (lv : Int) := by omega
        by_cases hsz : 120 < sz + (1 + t'.ats.length)
        · have hsz' : (120 : Int) < (sz : Int) + (1 + (t'.ats.length : Int)) := by omega
          gi_wp2_with (refine ⟨trivial, ?_⟩)
          refine ⟨((KeepsOthers.setCell _ _ _).from _).trans ((KeepsOthers.setCell _ _ _).from _), ?_, (hB.setCell (p := ⟨w.heap.size + 2, 0, none⟩) (by simp) _).setCell (p := ⟨w.heap.size + 1, 0, none⟩) (by simp) _, rfl, by rw [HKY.out]; exact badR_snoc HGN.out (.inr (.inl (by rw [HSZ.out]; exact hsz)))⟩
          rw [World.cell?_setCell_same' _ _ _ (by rw [(cell_of_block (heap_set_ne (by omega)) 0).trans hc2]; rfl)]
        · have hsz' : ¬ (120 : Int) < (sz : Int) + (1 + (t'.ats.length : Int)) := by omega
          obtain ⟨V, hV⟩ : ∃ V, V = W.setCell ⟨w.heap.size + 2, 0, none⟩ (.int .i64 ((sz : Int) + (1 + (t'.ats.length : Int)))) := ⟨_, rfl⟩
          have hBV : Below w.heap.size w V := by rw [hV]; exact hB.setCell (p := ⟨w.heap.size + 2, 0, none⟩) (by simp) _
          have hsV : V.heap.size = W.heap.size := by rw [hV, World.size_setCell]
          have hv2 : V.cell? ⟨w.heap.size + 2, 0, none⟩ = some (.int .i64 ((sz + (1 + t'.ats.length) : Nat) : Int)) := by rw [hV, HCS.out]; exact World.cell?_setCell_same' _ _ _ (by rw [hc1]; rfl)
          have hv1 : V.cell? ⟨w.heap.size + 1, 0, none⟩ = some (.bool false) := by rw [hV]; exact (cell_of_block (heap_set_ne (by omega)) 0).trans hc2
          have hg2 : V.frozen? ⟨w.heap.size + 2, 0, none⟩ = false := by rw [hV, World.frozen?_setCell]; exact hf1
          have hg1 : V.frozen? ⟨w.heap.size + 1, 0, none⟩ = false := by rw [hV, World.frozen?_setCell]; exact hf2
          have hKV : KpN w.heap.size (w.heap.size + 2) W V := by rw [hV]; exact kpN_setCell (by omega) _ _ _
          have hOV : KeepsOthers W V := by rw [hV]; exact KeepsOthers.setCell _ _ _
          have hnV : NdOn V (fun b => b < V.heap.size) t' (.slice oa' t'.ats.length ja') (.slice ok' t'.ks.length jk') := hx'.move (fun b hb2 _ => ⟨Nat.lt_of_lt_of_le hb2 hBV.size, hBV.block b hb2⟩)
          have hF := fits_any t' _ _ V hfb hnV (HG.out.below hBV)
          unfold ndV at hF
          generalize hft : fitT t' = q at hF
          have HFT := Lib.hid hft
          have hcc : ∀ V2, Below V.heap.size V V2 → (V2.cell? ⟨w.heap.size + 2, 0, none⟩ = some (.int .i64 ((sz + (1 + t'.ats.length) : Nat) : Int)) ∧ V2.frozen? ⟨w.heap.size + 2, 0, none⟩ = false) ∧ V2.cell? ⟨w.heap.size + 1, 0, none⟩ = some (.bool false) ∧ V2.frozen? ⟨w.heap.size + 1, 0, none⟩ = false := fun V2 h2 =>
            ⟨⟨(cell_of_block (h2.block _ (by omega)) 0).trans hv2, (frozen_of_block (h2.block _ (by omega)) 0).trans hg2⟩, (cell_of_block (h2.block _ (by omega)) 0).trans hv1, (frozen_of_block (h2.block _ (by omega)) 0).trans hg1⟩
          rw [hV] at hF hcc
          have HF := Lib.hid hF
          have HCC := Lib.hid hcc
          have HV := Lib.hid hV
          have HBV := Lib.hid hBV
          have HKV := Lib.hid hKV
          have HOV := Lib.hid hOV
          have HSV := Lib.hid hsV
          clear hft hF hV hBV hKV hOV hnV hsV hv2 hv1 hg2 hg1 hx' z0 hcc
          cases q with
          | false =>
            gi_wp2_with (refine ⟨trivial, ?_⟩; gi_at_call 26; refine (CallsIn.inRound l (callsIn_wide.2 HF.out)).mono ?_; rintro e W2 ⟨rfl, hb2⟩; obtain ⟨⟨y1, y2⟩, y3, y4⟩ := HCC.out W2 hb2)
            rw [← HV.out] at hb2
            refine ⟨(HOV.out.from _).trans (((keeps_below hb2).from _).trans ((KeepsOthers.setCell _ _ _).from _)), ?_, ((HBV.out.trans (hb2.mono HBV.out.size)).setCell (p := ⟨w.heap.size + 1, 0, none⟩) (by simp) _), rfl, by rw [HKY.out]; exact badR_snoc HGN.out (.inr (.inr HFT.out))⟩
            rw [World.cell?_setCell_same' _ _ _ (by rw [y3]; rfl)]
          | true =>
            gi_wp2_with (refine ⟨trivial, ?_⟩; gi_at_call 26; refine (CallsIn.inRound l (callsIn_wide.2 HF.out)).mono ?_; rintro e W2 ⟨rfl, hb2⟩; obtain ⟨⟨y1, y2⟩, y3, y4⟩ := HCC.out W2 hb2)
            rw [← HV.out] at hb2
            have hs2 := hb2.size
            have hs3 := HSV.out
            refine ⟨(HOV.out.from _).trans ((keeps_below hb2).from _), kpN_t HKV.out (kpN_grow (by omega) hb2), ⟨⟨?_, y2⟩, y3, y4⟩, ⟨HBV.out.trans (hb2.mono HBV.out.size), by omega⟩, ?_⟩
            · rw [HKY.out, wtR_snoc, HSZ.out]; exact y1
            · rw [HKY.out]; exact goneR_snoc HGN.out (Nat.le_of_not_lt hlv) (by rw [HSZ.out]; exact Nat.le_of_not_lt hsz) HFT.out
    case done =>
      rintro D ys W hD hys ⟨⟨⟨hc1, hf1⟩, hc2, hf2⟩, ⟨hB, hL⟩, hgn⟩ hK
      rw [hys] at hgn
      have hr : rightP t = true := by
        unfold rightP
        rw [decide_eq_true H2.out, Bool.true_and]
        have := hgn.2 []
        rw [List.append_nil] at this
        rw [this, runR]
      have HR := Lib.hid hr
      clear hr hgn hys
      have hDl := (Array.getElem?_eq_some_iff.1 hK).1
      gi_wp2
      have hKs : (W.setCell ⟨w.heap.size + 1, 0, none⟩ (.bool true)).heap[D]? = some (.deferred (some [])) := (heap_set_ne (by omega)).trans hK
      have hce : ((W.setCell ⟨w.heap.size + 1, 0, none⟩ (.bool true)).putObj D (.deferred none)).cell? ⟨w.heap.size + 1, 0, none⟩ = some (.bool true) := (cell_of_block (World.putObj_heap_other (by omega)) 0).trans (World.cell?_setCell_same' _ _ _ (by rw [hc2]; rfl))
      have hBs := hB.setCell (p := ⟨w.heap.size + 1, 0, none⟩) (by simp) (.bool true)
      refine ⟨by simp, .inl ⟨_, _, rfl, run_takeDeferred hKs, ?_⟩⟩
      exact ⟨.bool true, by simp [results, Tryz.results11, go_sem, hce], by rw [HR.out], hBs.trans (belowK_b (w := w) (Nat.le_refl _) _ D _ _ (by omega) hKs rfl rfl)⟩
    case stop =>
      rintro D c pre W hD hpre ⟨hc2, hB, rfl, hbd⟩ hK
      have hr : rightP t = false := by
        obtain ⟨rest, hrest⟩ := hpre
        unfold rightP
        rw [decide_eq_true H2.out, Bool.true_and, ← hrest]
        exact hbd rest
      have HR := Lib.hid hr
      clear hr hbd hpre
      gi_wp2
      have hce : (W.putObj D (.deferred none)).cell? ⟨w.heap.size + 1, 0, none⟩ = some (.bool false) := (cell_of_block (World.putObj_heap_other (by omega)) 0).trans hc2
      refine ⟨by simp, .inl ⟨_, _, rfl, run_takeDeferred hK, ?_⟩⟩
      exact ⟨.bool false, by simp [results, Tryz.results11, go_sem, hce], by rw [HR.out], hB.trans (belowK_b (w := w) (Nat.le_refl _) W D _ _ (by omega) hK rfl rfl)⟩
  · have k2 : (t.kd != 2) = true := by simp [h2]
    have HR := Lib.hid (show rightP t = false by unfold rightP; rw [decide_eq_false h2]; rfl)
    clear h2
    go_enter Tryz.func11, Tryz.ntmps11
    go_wp2_with fail
    exact bodyPost_ret (v := .bool false) (by simp [results, Tryz.results11, go_sem]) rfl ⟨by rw [HR.out], ((Below.refl _ _).alloc (Nat.le_refl _) _).alloc (by simp) _⟩
end Go.Proofs.YtognlnjamlhmhaaGreatDoor.Char
