/- The walk of the document's own Sweep. -/
import Derived.Test.YtpimdmjhnogelaaRefInst
namespace Go.Proofs.Ytpimdmjhnogelaa.Char
open Go.RowKit Go.Lib

def lowP (o : Nat) (id : Int) (y : OnV) : Bool := decide (y.1 = id) && decide (y.2.1 ≤ o)
def goesR (o : Nat) (x : OnV) (r : List OnV) : Bool := decide (x.2.1 ≤ o) && (x.2.2.1.gone || r.any (lowP o x.1))
/-- what a sweep leaves -/
def sweepR (o : Nat) : List OnV → List OnV
  | [] => []
  | x :: r => if goesR o x r then sweepR o r else x :: sweepR o r
theorem sweepR_toOn (o : Nat) : ∀ xs : List OnV, (sweepR o xs).map toOn = sweepL o (xs.map toOn)
  | [] => rfl
  | x :: r => by
    have e : (r.any (lowP o x.1)) = ((r.map toOn).any fun y => y.id == (toOn x).id && decide (y.v.time ≤ o)) := by
      rw [List.any_map]
      congr 1
    rw [sweepR, List.map_cons, sweepL, goesR, e]
    show List.map toOn (if (decide (x.2.1 ≤ o) && (x.2.2.1.gone || _)) = true then _ else _) = if (decide (x.2.1 ≤ o) && (x.2.2.1.gone || _)) = true then _ else _
    split
    · exact sweepR_toOn o r
    · rw [List.map_cons, sweepR_toOn o r]
theorem sweepR_sub (o : Nat) : ∀ xs : List OnV, (sweepR o xs).Sublist xs
  | [] => List.Sublist.slnil
  | x :: r => by
    rw [sweepR]
    split
    · exact (sweepR_sub o r).cons _
    · exact (sweepR_sub o r).cons_cons _
theorem sweepR_drop {o : Nat} {xs : List OnV} {k : Nat} (h : k < xs.length) : sweepR o (xs.drop k) = if goesR o xs[k] (xs.drop (k + 1)) then sweepR o (xs.drop (k + 1)) else xs[k] :: sweepR o (xs.drop (k + 1)) := by
  rw [List.drop_eq_getElem_cons h, sweepR]
theorem any_drop {p : OnV → Bool} {xs : List OnV} {k : Nat} (h : k < xs.length) : (xs.drop k).any p = (p xs[k] || (xs.drop (k + 1)).any p) := by
  rw [List.drop_eq_getElem_cons h, List.any_cons]
theorem OwnsOn.below {B : Nat} {w w' : World} {F : Nat → Prop} {v : Value} {xs : List OnV} (h : OwnsOn B w F v xs) (hb : Below w.heap.size w w') : OwnsOn B w' F v xs :=
  h.move (fun g hg => hb.block g (h.blk hg).2.1) fun b hb0 hF => ⟨hF, hb.block b hb0⟩
theorem cell_row {w : World} {g k : Nat} {cs : Array Value} {T : TypeId} {fz : Nat × Nat} {v : Value} (hg : w.heap[g]? = some (.cells cs T fz)) (hk : cs[k]? = some v) : w.cell? ⟨g, k, none⟩ = some v := by
  simp only [World.cell?, hg]
  exact hk
theorem owns_low {B B' : Nat} {w : World} {e : TypeId} {size n : Nat} {v : Value} {cs : List Value} (h : w.ownsRow B e size v n cs) (hB : B' ≤ B) : w.ownsRow B' e size v n cs := by
  refine ⟨h.1, ?_⟩
  rcases h.2 with h0 | ⟨g, cap, cur, e1, e2, hg, e3⟩
  · exact .inl h0
  · exact .inr ⟨g, cap, cur, e1, Nat.le_trans hB e2, hg, e3⟩
theorem wpList_pushOn {ops : Array Oper} {rest : List Oper} {o : Oper} {a : Act} {Q : Exit → Act → World → Prop} {B : Nat} {W : World} {F : Nat → Prop} {v : Value} {xs : List OnV}
    (hgd : o.guard = none) (s x : Operand) (ho : o.op = .call { callee := .builtin .append, args := #[s, x], argTypes := #[93, 93] })
    (id : Int) (t : Nat) (r : Rc) (ok : Option Addr) (ik jk : Nat) (oa : Option Addr) (ia ja : Nat) (hown : OwnsOn B W F v xs) (hon : RcOn W F (r, .slice ok ik jk, .slice oa ia ja)) (hF : ∀ g, F g → g < B) (hs : a.eval s = v) (hx : a.eval x = .slice (some ⟨W.heap.size, 0, none⟩) 1 1) (hB : B ≤ W.heap.size) (hlen : xs.length ≤ 1000000)
    (h : ∀ p q w1, OwnsOn B w1 F (.slice p (xs.length + 1) q) (xs ++ [(id, t, r, .slice ok ik jk, .slice oa ia ja)]) → Below B W w1 → (∀ k, k < W.heap.size → some k ≠ v.ownBlock → w1.heap[k]? = W.heap[k]?) → wpList Try.prog ops Q rest (a.put o.dst (.slice p (xs.length + 1) q)) w1) :
    wpList Try.prog ops Q (o :: rest) a (W.alloc (.cells #[.int .i64 id, .int .u64 (t : Int), .int .i64 r.kd, .string (bs r.nm), .string (bs r.tx), .int .i64 r.pa, .slice ok ik jk, .slice oa ia ja, .bool r.gone] 92)) := by
  refine wpList_push info_on Try.underlying93 rfl (by decide) (by decide) hgd s x ho (onC (id, t, r, .slice ok ik jk, .slice oa ia ja)) rfl ?_ hown.1 hs hx hB (by omega) fun v' w1 h1 h2 h3 h4 => ?_
  · intro u hu
    simp [onC, veC, rcC] at hu
    rcases hu with rfl | rfl | rfl | rfl | rfl | rfl | rfl | rfl | rfl <;> rfl
  · have ho : OwnsOn B w1 F v' (xs ++ [(id, t, r, .slice ok ik jk, .slice oa ia ja)]) := ⟨by
        rw [List.length_append, onsC_snoc]
        exact h1, fun y hy => by
        rw [List.mem_append, List.mem_singleton] at hy
        have mv : ∀ b, b < W.heap.size → F b → F b ∧ w1.heap[b]? = W.heap[b]? := fun b _ hb => ⟨hb, h2.block b (hF b hb)⟩
        rcases hy with hy | rfl
        · exact (hown.2 y hy).move mv
        · exact hon.move mv⟩
    obtain ⟨p, q, e⟩ := ho.form
    rw [List.length_append, List.length_singleton] at e
    subst e
    exact h p q w1 ho h2 h3
/-- a sweep's loop: what has been kept so far -/
def SwI (B : Nat) (w : World) (t : Nat) (xs : List OnV) (u : Value) (k : Nat) (l : List OnV) (wr : World) : Prop :=
  OwnsOn w.heap.size wr (fun g => g < B) u l ∧ Below w.heap.size w wr ∧ l ++ sweepR t (xs.drop k) = sweepR t xs
theorem SwI.len {B : Nat} {w : World} {t : Nat} {xs : List OnV} {u : Value} {k : Nat} {l : List OnV} {wr : World} (h : SwI B w t xs u k l wr) : l.length ≤ xs.length := by
  have e := congrArg List.length h.2.2
  rw [List.length_append] at e
  have := (sweepR_sub t xs).length_le
  omega
theorem SwI.skip {B : Nat} {w : World} {t : Nat} {xs : List OnV} {u : Value} {k : Nat} {l : List OnV} {wr w1 : World} (h : SwI B w t xs u k l wr) (hb : Below wr.heap.size wr w1) (hlt : k < xs.length) (hg : goesR t xs[k] (xs.drop (k + 1)) = true) : SwI B w t xs u (k + 1) l w1 :=
  ⟨h.1.below hb, h.2.1.trans (hb.mono h.2.1.size), by rw [← h.2.2, sweepR_drop hlt, if_pos hg]⟩
theorem SwI.keep {B : Nat} {w : World} {t : Nat} {xs : List OnV} {u u2 : Value} {k : Nat} {l : List OnV} {wr w0 w1 : World} (h : SwI B w t xs u k l wr) (hb0 : Below wr.heap.size wr w0) (hb : Below w.heap.size w0 w1) (hlt : k < xs.length) (hg : goesR t xs[k] (xs.drop (k + 1)) = false) (ho : OwnsOn w.heap.size w1 (fun g => g < B) u2 (l ++ [xs[k]])) : SwI B w t xs u2 (k + 1) (l ++ [xs[k]]) w1 :=
  ⟨ho, (h.2.1.trans (hb0.mono h.2.1.size)).trans hb, by rw [← h.2.2, sweepR_drop hlt, if_neg (by rw [hg]; simp), List.append_assoc]; rfl⟩
set_option maxRecDepth 100000 in
set_option maxHeartbeats 8000000 in
theorem refSweep_any {B : Nat} {w : World} {b : Nat} {v : Value} {xs : List OnV} {gv lt : Nat} (h : RefS B w b v xs gv lt) (t : Nat) (hl : xs.length ≤ 100000) :
    Calls Try.prog 43 #[.pointer (some ⟨b, 0, none⟩), .int .u64 (t : Int)] w fun e w' => e = .returned (.int .i64 ((xs.length : Int) - ((sweepR t xs).length : Int))) ∧ (∃ v', RefS B w' b v' (sweepR t xs) gv lt ∧ ∀ g, v'.ownBlock = some g → w.heap.size ≤ g) ∧ Only B (ownB b v) w w' := by
  have H := Lib.hid h
  obtain ⟨o, j, rfl⟩ := h.row.form
  have HR := Lib.hid (fun wr (hb : Below w.heap.size w wr) => h.below hb)
  have HBw := Lib.hid (Nat.le_trans h.low (Nat.le_of_lt h.lt))
  clear h
  go_enter Try.func43, Try.ntmps43
  go_wp2_with fail
  go_loopw [5, 6] (fun u i wr => ∃ k : Nat, ∃ l : List OnV, i = .int .i64 (k : Int) ∧ k ≤ xs.length ∧ (∃ p q, u = .slice p l.length q) ∧ Hid (SwI B w t xs u k l wr)) (fun _ v _ => xs.length - (RowKit.intOf v).toNat)
  case atStart => exact ⟨0, [], rfl, Nat.zero_le _, ⟨_, _, rfl⟩, Lib.hid ⟨OwnsOn.nil _ _ _, Below.refl _ _, rfl⟩⟩
  case round =>
    obtain ⟨k, l, rfl, hk, ⟨p, q, rfl⟩, HK⟩ := hrel
    have hS := HR.out _ HK.out.2.1
    obtain ⟨c0, _, _, _⟩ := hS.cells
    by_cases hlt : k < xs.length
    · obtain ⟨g, rfl, hg1, hg2, a0, a1, a2, a3, a4, a5, a6, a7, a8, hon⟩ := hS.row.reads k hlt
      have HSK := Lib.hid (fun w1 hb hg => HK.out.skip (w1 := w1) hb hlt hg)
      have HKE := Lib.hid (fun u2 w0 w1 hb0 hb hg ho => HK.out.keep (u2 := u2) (w0 := w0) (w1 := w1) hb0 hb hlt hg ho)
      have hll := HK.out.len
      obtain ⟨y, hy⟩ : ∃ y, xs[k] = y := ⟨_, rfl⟩
      rw [hy] at a0 a1 a2 a3 a4 a5 a6 a7 a8 hon HSK HKE
      clear hy
      obtain ⟨yi, yt, r, va, vb⟩ := y
      obtain ⟨ok, jk, oa, ja, e1, e2⟩ := hon.form
      dsimp only at e1 e2
      subst e1 e2
      dsimp only at a0 a1 a2 a3 a4 a5 a6 a7 a8
      obtain ⟨W1, hW1⟩ : ∃ W1, W1 = wr.alloc (.cells #[.int .i64 yi, .int .u64 (yt : Int), .int .i64 r.kd, .string (bs r.nm), .string (bs r.tx), .int .i64 r.pa, .slice ok r.ks.length jk, .slice oa r.ats.length ja, .bool r.gone] 92) := ⟨_, rfl⟩
      have hb1 : Below wr.heap.size wr W1 := by rw [hW1]; exact (Below.refl _ _).alloc (Nat.le_refl _) _
      have HW1 := Lib.hid hW1
      have HB1 := Lib.hid hb1
      have HON := Lib.hid (fun W (hb : Below wr.heap.size wr W) => hon.below hb)
      have HOW := Lib.hid (fun W (hb : Below wr.heap.size wr W) => HK.out.1.below hb)
      have hbl := hS.lt
      have HS := Lib.hid hS
      clear hS hon hW1 hb1
      by_cases ht : yt ≤ t
      · have k2 : (yt : Int) ≤ (t : Int) := by omega
        have HG := Lib.hid (show goesR t (yi, yt, r, .slice ok r.ks.length jk, .slice oa r.ats.length ja) (xs.drop (k + 1)) = (r.gone || (xs.drop (k + 1)).any (lowP t yi)) by unfold goesR; rw [decide_eq_true ht]; rfl)
        have HLL := Lib.hid hll
        have hwz := Lib.hid (Nat.le_trans HK.out.2.1.size HB1.out.size)
        have hbx : W1.heap[wr.heap.size]? = some (.cells #[.int .i64 yi, .int .u64 (yt : Int), .int .i64 r.kd, .string (bs r.nm), .string (bs r.tx), .int .i64 r.pa, .slice ok r.ks.length jk, .slice oa r.ats.length ja, .bool r.gone] 92 (0, 0)) := by rw [HW1.out]; exact World.alloc_heap_new _ _
        have hx0 : W1.cell? ⟨wr.heap.size, 0, none⟩ = some (.int .i64 yi) ∧ W1.cell? ⟨wr.heap.size, 1, none⟩ = some (.int .u64 (yt : Int)) ∧ W1.cell? ⟨wr.heap.size, 2, none⟩ = some (.int .i64 r.kd) ∧ W1.cell? ⟨wr.heap.size, 3, none⟩ = some (.string (bs r.nm)) ∧ W1.cell? ⟨wr.heap.size, 4, none⟩ = some (.string (bs r.tx)) ∧ W1.cell? ⟨wr.heap.size, 5, none⟩ = some (.int .i64 r.pa) ∧ W1.cell? ⟨wr.heap.size, 6, none⟩ = some (.slice ok r.ks.length jk) ∧ W1.cell? ⟨wr.heap.size, 7, none⟩ = some (.slice oa r.ats.length ja) ∧ W1.cell? ⟨wr.heap.size, 8, none⟩ = some (.bool r.gone) := ⟨cell_row hbx rfl, cell_row hbx rfl, cell_row hbx rfl, cell_row hbx rfl, cell_row hbx rfl, cell_row hbx rfl, cell_row hbx rfl, cell_row hbx rfl, cell_row hbx rfl⟩
        have HX0 := Lib.hid hx0
        clear hll ht hx0 hbx
        go_wp2_with fail
        rw [← HW1.out]
        go_loopw [8, 9] (fun c i wr' => ∃ m : Nat, ∃ gb : Bool, i = .int .i64 (m : Int) ∧ c = .bool gb ∧ m ≤ xs.length ∧ (∃ n, wr' = W1.drewN n) ∧ Hid ((gb || (xs.drop m).any (lowP t yi)) = (r.gone || (xs.drop (k + 1)).any (lowP t yi)))) (fun _ v _ => xs.length - (RowKit.intOf v).toNat)
        case atStart => exact ⟨k + 1, r.gone, by go_num, rfl, by omega, ⟨0, rfl⟩, Lib.hid rfl⟩
        case round =>
          obtain ⟨m, gb, rfl, rfl, hm, ⟨n, rfl⟩, HM⟩ := hrel
          have hbn : Below wr.heap.size wr (W1.drewN n) := HB1.out.trans (below_drewN _ _ _)
          have hSn := HS.out.below HB1.out
          obtain ⟨c0, _, _, _⟩ := hSn.cells
          obtain ⟨x0, x1, x2, x3, x4, x5, x6, x7, x8⟩ := HX0.out
          by_cases hml : m < xs.length
          · obtain ⟨g', hgg, _, _, b0, b1, _⟩ := hSn.row.reads m hml
            obtain rfl : g' = g := by simpa using hgg.symm
            have hany := any_drop (p := lowP t yi) hml
            have hlp : lowP t yi xs[m] = (decide (xs[m].1 = yi) && decide (xs[m].2.1 ≤ t)) := rfl
            obtain ⟨zi, hzi⟩ : ∃ z, xs[m].1 = z := ⟨_, rfl⟩
            obtain ⟨zt, hzt⟩ : ∃ z, xs[m].2.1 = z := ⟨_, rfl⟩
            rw [hzi] at b0 hlp
            rw [hzt] at b1 hlp
            rw [hlp] at hany
            have hM := HM.out
            rw [hany] at hM
            clear hSn hany hlp hzi hzt HM hgg
            cases gb with
            | true =>
              have HN := Lib.hid (show (true || (xs.drop (m + 1)).any (lowP t yi)) = (r.gone || (xs.drop (k + 1)).any (lowP t yi)) by rw [← hM]; rfl)
              clear hM
              go_wp2_with fail
              go_quiet (fail)
              go_wp2_with fail
              exact ⟨⟨m + 1, true, by go_num, rfl, by omega, ⟨_, rfl⟩, HN⟩, by simp [RowKit.intOf]; omega⟩
            | false =>
              rw [Bool.false_or] at hM
              by_cases hzi : zi = yi
              · have k5 : (zi == yi) = true := by rw [hzi, beq_self_eq_true]
                rw [decide_eq_true hzi, Bool.true_and] at hM
                by_cases hzt : zt ≤ t
                · have k6 : decide ((zt : Int) ≤ (t : Int)) = true := decide_eq_true (by omega)
                  rw [decide_eq_true hzt] at hM
                  have HN := Lib.hid hM
                  have HZ := Lib.hid (decide_eq_true hzt)
                  clear hM hzi hzt
                  go_wp2_with fail
                  go_quiet (fail)
                  go_wp2_with fail
                  exact ⟨⟨m + 1, true, by go_num, by rw [HZ.out], by omega, ⟨_, rfl⟩, HN⟩, by simp [RowKit.intOf]; omega⟩
                · have k6 : decide ((zt : Int) ≤ (t : Int)) = false := decide_eq_false (by omega)
                  rw [decide_eq_false hzt] at hM
                  have HN := Lib.hid hM
                  have HZ := Lib.hid (decide_eq_false hzt)
                  clear hM hzi hzt
                  go_wp2_with fail
                  go_quiet (fail)
                  go_wp2_with fail
                  exact ⟨⟨m + 1, false, by go_num, by rw [HZ.out], by omega, ⟨_, rfl⟩, HN⟩, by simp [RowKit.intOf]; omega⟩
              · have k5 : (zi == yi) = false := beq_eq_false_iff_ne.2 hzi
                rw [decide_eq_false hzi, Bool.false_and] at hM
                have HN := Lib.hid hM
                clear hM hzi
                go_wp2_with fail
                go_quiet (fail)
                go_wp2_with fail
                exact ⟨⟨m + 1, false, by go_num, rfl, by omega, ⟨_, rfl⟩, HN⟩, by simp [RowKit.intOf]; omega⟩
          · have e : m = xs.length := by omega
            subst e
            have hM : gb = (r.gone || (xs.drop (k + 1)).any (lowP t yi)) := by
              have := HM.out
              rwa [List.drop_length, List.any_nil, Bool.or_false] at this
            rw [← hM] at HG
            have HBN := Lib.hid hbn
            clear HM hM hbn hSn
            cases gb with
            | true =>
              go_wp2_with fail
              go_roundw
              case rel => exact ⟨k + 1, l, by go_num, by omega, ⟨_, _, rfl⟩, Lib.hid (HSK.out _ HBN.out HG.out)⟩
              case measure => simp [RowKit.intOf]; omega
            | false =>
              have HOW2 := Lib.hid (HOW.out _ HBN.out)
              have HON2 := Lib.hid (HON.out _ HBN.out)
              go_wp2_with (first | (at_builtin; refine wpList_pushOn rfl _ _ rfl yi yt r ok _ jk oa _ ja HOW2.out HON2.out (fun g hg => Nat.lt_of_lt_of_le hg HBw.out) rfl rfl hwz.out (by have := HLL.out; omega) ?_; intro p2 q2 w2 ho2 hb2 hk2) | go_in)
              go_roundw
              case rel => exact ⟨k + 1, _, by go_num, by omega, ⟨p2, q2, by rw [List.length_append]; rfl⟩, Lib.hid (HKE.out _ _ _ HBN.out hb2 HG.out ho2)⟩
              case measure => simp [RowKit.intOf]; omega
      · have k2 : ¬ (yt : Int) ≤ (t : Int) := by omega
        have HG := Lib.hid (show goesR t (yi, yt, r, .slice ok r.ks.length jk, .slice oa r.ats.length ja) (xs.drop (k + 1)) = false by unfold goesR; rw [decide_eq_false ht]; rfl)
        have HLL := Lib.hid hll
        have hwz := Lib.hid (Nat.le_trans HK.out.2.1.size HB1.out.size)
        clear hll ht
        go_wp2_with (first | (at_builtin; rw [← HW1.out]; refine wpList_pushOn rfl _ _ rfl yi yt r ok _ jk oa _ ja (HOW.out _ HB1.out) (HON.out _ HB1.out) (fun g hg => Nat.lt_of_lt_of_le hg HBw.out) rfl (by rw [HW1.out, World.size_alloc]; rfl) hwz.out (by have := HLL.out; omega) ?_; intro p2 q2 w2 ho2 hb2 hk2) | go_in)
        go_roundw
        case rel => exact ⟨k + 1, _, by go_num, by omega, ⟨p2, q2, by rw [List.length_append]; rfl⟩, Lib.hid (HKE.out _ _ _ HB1.out hb2 HG.out ho2)⟩
        case measure => simp [RowKit.intOf]; omega
    · have e : k = xs.length := by omega
      subst e
      have hle : l = sweepR t xs := by
        have := HK.out.2.2
        rwa [List.drop_length, sweepR, List.append_nil] at this
      have hll := HK.out.len
      obtain ⟨_, _, _, cf⟩ := hS.cells
      have f0 := cf 0
      clear cf
      go_wp2_with fail
      go_ret
      have hc := hS.cell
      have hne : ∀ i, i ≠ b → (wr.setCell ⟨b, 0, none⟩ (.slice p l.length q)).heap[i]? = wr.heap[i]? := fun i hi => heap_set_ne (a := ⟨b, 0, none⟩) hi
      have hnb : ∀ i, (Value.slice p l.length q).ownBlock = some i → i ≠ b := fun i hi e => by
        have h1 := (HK.out.1.blk hi).1
        have h2 := H.out.lt
        omega
      rw [← hle]
      refine ⟨by rw [show wrap64 ((xs.length : Int) - (l.length : Int)) = (xs.length : Int) - (l.length : Int) by unfold wrap64; omega]; rfl, ⟨_, ⟨heap_set_at hc, ?_, hS.low⟩, fun i hi => (HK.out.1.blk hi).1⟩, ?_⟩
      · have ho := HK.out.1
        refine ⟨owns_low ?_ HBw.out, fun y hy => (ho.2 y hy).move fun k _ hk => ⟨hk, hne k (by have := hS.low; omega)⟩⟩
        exact (OwnsOn.move ho (F' := fun _ => True) (fun i hi => hne i (hnb i hi)) fun k _ hF => ⟨trivial, hne k (by have := hS.low; omega)⟩).1
      · exact ⟨((HK.out.2.1.mono HBw.out).setCell (p := ⟨b, 0, none⟩) hS.low _), fun i hi hno => (hne i fun e => hno (.inl e)).trans (HK.out.2.1.block i hi)⟩
end Go.Proofs.Ytpimdmjhnogelaa.Char
