/- The walk of the document's own Install. -/
import Derived.Test.YtpimdmjhnogelaaChOn
import Derived.Test.YtpimdmjhnogelaaPush
import Derived.Test.YtpimdmjhnogelaaRefRight9
import Derived.StillTailTactics
namespace Go.Proofs.Ytpimdmjhnogelaa.Char
open Go.RowKit Go.Lib

def toOnC (t : Nat) (c : ChV) : OnV := (c.1, t, c.2)
theorem step_pushOn {ops : Array Oper} {o : Oper} {a : Act} {K : Act → World → Prop} {Q : Exit → Act → World → Prop} {E : Prop} {B : Nat} {W : World} {v : Value} {xs : List OnV}
    (hgd : o.guard = none) (s x : Operand) (ho : o.op = .call { callee := .builtin .append, args := #[s, x], argTypes := #[93, 93] })
    (id : Int) (t : Nat) (r : Rc) (ok : Option Addr) (ik jk : Nat) (oa : Option Addr) (ia ja : Nat) (H : Nat) (hH : W.heap[H]? = some (.cells #[.int .i64 id, .int .u64 (t : Int), .int .i64 r.kd, .string (bs r.nm), .string (bs r.tx), .int .i64 r.pa, .slice ok ik jk, .slice oa ia ja, .bool r.gone] 92 (0, 0)))
    (hown : OwnsOn B W (fun g => g < B) v xs) (hon : RcOn W (fun g => g < B) (r, .slice ok ik jk, .slice oa ia ja)) (hs : a.eval s = v) (hx : a.eval x = .slice (some ⟨H, 0, none⟩) 1 1) (hB : B ≤ W.heap.size) (hlen : xs.length ≤ 1000000)
    (h : ∀ g cap w1, OwnsOn B w1 (fun g => g < B) (.slice (some ⟨g, 0, none⟩) (xs.length + 1) cap) (xs ++ [(id, t, r, .slice ok ik jk, .slice oa ia ja)]) → Below B W w1 → (∀ k, k < W.heap.size → some k ≠ v.ownBlock → w1.heap[k]? = W.heap[k]?) → (v.ownBlock = some g ∨ W.heap.size ≤ g) → K (a.put o.dst (.slice (some ⟨g, 0, none⟩) (xs.length + 1) cap)) w1) :
    if Region.wanted o (yielded ops a.tmps) = true then Oper.wp Try.prog o a W K Q else E := by
  refine step_push info_on Try.underlying93 rfl (by decide) (by decide) hgd s x ho (onC (id, t, r, .slice ok ik jk, .slice oa ia ja)) rfl ?_ H hH hown.1 hs hx hB (by omega) fun g cap w1 h1 h2 h3 h4 => ?_
  · intro u hu
    simp [onC, veC, rcC] at hu
    rcases hu with rfl | rfl | rfl | rfl | rfl | rfl | rfl | rfl | rfl <;> rfl
  · refine h g cap w1 ⟨?_, fun y hy => ?_⟩ h2 h3 h4
    · rw [List.length_append, onsC_snoc]
      exact h1
    · rw [List.mem_append, List.mem_singleton] at hy
      rcases hy with hy | rfl
      · exact (hown.2 y hy).low h2
      · exact hon.low h2
/-- a version more, laid into the store -/
theorem RefS.push {B : Nat} {W : World} {b : Nat} {v : Value} {ys : List OnV} {gv lt : Nat} (h : RefS B W b v ys gv lt) {w1 : World} {v2 : Value} {y : OnV} (ho : OwnsOn B w1 (fun g => g < B) v2 (ys ++ [y])) (hb : Below B W w1) (hk : ∀ k, k < W.heap.size → some k ≠ v.ownBlock → w1.heap[k]? = W.heap[k]?) (hn : ∀ g, v2.ownBlock = some g → v.ownBlock = some g ∨ W.heap.size ≤ g) :
    RefS B (w1.setCell ⟨b, 0, none⟩ v2) b v2 (ys ++ [y]) gv lt ∧ Only B (ownB b v) W (w1.setCell ⟨b, 0, none⟩ v2) := by
  have hc : w1.heap[b]? = some (.cells #[v, .int .i64 (gv : Int), .int .u64 (lt : Int)] 95 (0, 0)) := (hk b h.lt (fun e => h.ne e.symm)).trans h.cell
  have hne : ∀ k, k ≠ b → (w1.setCell ⟨b, 0, none⟩ v2).heap[k]? = w1.heap[k]? := fun k hk => heap_set_ne (a := ⟨b, 0, none⟩) hk
  refine ⟨⟨heap_set_at hc, ho.move (fun g hg => hne g fun e => ?_) (fun k _ hk => ⟨hk, hne k (by have := h.low; omega)⟩), h.low⟩, hb.setCell (p := ⟨b, 0, none⟩) h.low _, fun k hk' hno => (hne k fun e => hno (.inl e)).trans (hk k hk' fun e => hno (.inr e.symm))⟩
  subst e
  rcases hn g hg with h1 | h1
  · exact h.ne h1
  · have := h.lt; omega
theorem RefS.next {B : Nat} {w wr : World} {b : Nat} {v0 v : Value} {ys : List OnV} {gv lt : Nat} (h : RefS B wr b v ys gv lt) (ho : Only B (ownB b v0) w wr) (hn : ∀ g, v.ownBlock = some g → v0.ownBlock = some g ∨ w.heap.size ≤ g) {bx : Obj} {w1 : World} {g2 n m cap : Nat} {y : OnV} (hB : B ≤ wr.heap.size)
    (hown1 : OwnsOn B w1 (fun g => g < B) (.slice (some ⟨g2, 0, none⟩) m cap) (ys ++ [y])) (hm : m = n) (hb1 : Below B (wr.alloc bx).drew w1) (hk1 : ∀ k, k < (wr.alloc bx).drew.heap.size → some k ≠ v.ownBlock → w1.heap[k]? = (wr.alloc bx).drew.heap[k]?) (hl1 : v.ownBlock = some g2 ∨ (wr.alloc bx).drew.heap.size ≤ g2) :
    RefS B (w1.setCell ⟨b, 0, none⟩ (.slice (some ⟨g2, 0, none⟩) n cap)) b (.slice (some ⟨g2, 0, none⟩) n cap) (ys ++ [y]) gv lt ∧ Only B (ownB b v0) w (w1.setCell ⟨b, 0, none⟩ (.slice (some ⟨g2, 0, none⟩) n cap)) ∧ ∀ g, (Value.slice (some ⟨g2, 0, none⟩) n cap).ownBlock = some g → v0.ownBlock = some g ∨ w.heap.size ≤ g := by
  subst hm
  have hb0 : Below wr.heap.size wr (wr.alloc bx).drew := ((Below.refl _ _).alloc (Nat.le_refl _) _).drew
  have hz : (wr.alloc bx).drew.heap.size = wr.heap.size + 1 := by simp
  have hwz := ho.1.size
  obtain ⟨p1, p2⟩ := (h.below hb0).push hown1 hb1 hk1 (fun g hg => by
    obtain rfl : g2 = g := by simpa [Value.ownBlock] using hg
    exact hl1)
  refine ⟨p1, ?_, fun g hg => ?_⟩
  · refine ho.trans ((Only.of (O := ownB b v) hb0 hB).trans p2 fun i _ hi => hi) fun i hi hoi => ?_
    rcases hoi with rfl | hoi
    · exact .inl rfl
    · rcases hn i hoi with h1 | h1
      · exact .inr h1
      · omega
  · obtain rfl : g2 = g := by simpa [Value.ownBlock] using hg
    rcases hl1 with h1 | h1
    · exact hn _ h1
    · exact .inr (by omega)
theorem RefS.after {B : Nat} {W w1 : World} {b : Nat} {v : Value} {ys : List OnV} {gv lt : Nat} (h : RefS B W b v ys gv lt) (hk : ∀ k, k < W.heap.size → some k ≠ v.ownBlock → w1.heap[k]? = W.heap[k]?) : w1.cell? ⟨b, 0, none⟩ = some v ∧ w1.frozen? ⟨b, 0, none⟩ = false := by
  have hc := (hk b h.lt (fun e => h.ne e.symm)).trans h.cell
  exact ⟨by simp [World.cell?, hc], by simp [World.frozen?, hc]⟩
theorem RefS.stamp {B : Nat} {W : World} {b : Nat} {v : Value} {ys : List OnV} {gv lt : Nat} (h : RefS B W b v ys gv lt) (t : Nat) :
    RefS B (W.setCell ⟨b, 2, none⟩ (.int .u64 (t : Int))) b v ys gv t ∧ Only B (ownB b v) W (W.setCell ⟨b, 2, none⟩ (.int .u64 (t : Int))) := by
  have hne : ∀ k, k ≠ b → (W.setCell ⟨b, 2, none⟩ (.int .u64 (t : Int))).heap[k]? = W.heap[k]? := fun k hk => heap_set_ne (a := ⟨b, 2, none⟩) hk
  exact ⟨⟨heap_set_at h.cell, h.row.move (fun g hg => hne g fun e => h.ne (by rw [← e]; exact hg)) (fun k _ hk => ⟨hk, hne k (by have := h.low; omega)⟩), h.low⟩, (Below.refl _ _).setCell (p := ⟨b, 2, none⟩) h.low _, fun k _ hn => hne k fun e => hn (.inl e)⟩
/-- what becomes of a call of Install that tells E -/
def InstPost (B : Nat) (w : World) (b : Nat) (v : Value) (xs new : List OnV) (gv lt t E : Nat) (e : Ending) (w' : World) : Prop :=
  e = .returned (.int .i64 (E : Int)) ∧ (if E = 0 then ∃ v', RefS B w' b v' (xs ++ new) gv t ∧ ∀ g, v'.ownBlock = some g → v.ownBlock = some g ∨ w.heap.size ≤ g else RefS B w' b v xs gv lt) ∧ Only B (ownB b v) w w'
theorem InstPost.bad {B : Nat} {w w' : World} {b : Nat} {v : Value} {xs new : List OnV} {gv lt t E : Nat} (h : RefS B w b v xs gv lt) (hE : E ≠ 0) (hb : Below w.heap.size w w') : InstPost B w b v xs new gv lt t E (.returned (.int .i64 (E : Int))) w' := by
  refine ⟨rfl, ?_, Only.of hb (Nat.le_trans h.low (Nat.le_of_lt h.lt))⟩
  rw [if_neg hE]
  exact h.below hb
theorem notin_take {cs : List ChV} {j k : Nat} {id : Int} (hk : k ≤ cs.length) (hj : j < k) (h : id ∉ (cs.take j).map (·.1)) (hne : cs[j].1 ≠ id) : id ∉ (cs.take (j + 1)).map (·.1) := by
  rw [List.take_succ_eq_append_getElem (by omega), List.map_append, List.mem_append]
  rintro (h1 | h1)
  · exact h h1
  · simp at h1; exact hne h1.symm
theorem in_take {cs : List ChV} {j k : Nat} (hk : k ≤ cs.length) (hj : j < k) : cs[j].1 ∈ (cs.take k).map (·.1) :=
  List.mem_map.2 ⟨cs[j], by rw [← List.getElem_take (h := by rw [List.length_take]; omega) (xs := cs) (j := k)]; exact List.getElem_mem _, rfl⟩
set_option maxRecDepth 100000 in
set_option maxHeartbeats 8000000 in
theorem refInst_any {B : Nat} {w : World} {b : Nat} {v : Value} {xs : List OnV} {gv lt : Nat} (h : RefS B w b v xs gv lt) (t : Nat) (cs : List ChV) (o : Option Addr) (j : Nat) (hc : ChsOn w (fun g => g < B) (.slice o cs.length j) cs) (hsm : ∀ x, x ∈ cs → RcSm x.2.1) (hcl : cs.length ≤ 2 ^ 62) (hl : xs.length ≤ 100000) (hg : gv ≤ 100000) :
    Calls Try.prog 42 #[.pointer (some ⟨b, 0, none⟩), .int .u64 (t : Int), .slice o cs.length j] w (InstPost B w b v xs (cs.map (toOnC t)) gv lt t (instE ⟨xs.map toOn, gv, lt⟩ t (cs.map toCh))) := by
  obtain ⟨E, hE⟩ : ∃ E, instE ⟨xs.map toOn, gv, lt⟩ t (cs.map toCh) = E := ⟨_, rfl⟩
  rw [hE]
  unfold instE at hE
  dsimp only at hE
  obtain ⟨o0, j0, rfl⟩ := h.row.form
  have c2 := (h.cells).2.2.1
  have H := Lib.hid h
  by_cases ht : t ≤ lt
  · have k1 : (t : Int) ≤ (lt : Int) := by omega
    rw [if_pos ht] at hE
    subst hE
    clear h
    go_enter Try.func42, Try.ntmps42
    go_wp2_with fail
    go_ret
    exact InstPost.bad H.out (by decide) (Below.refl _ _)
  · have k1 : ¬ (t : Int) ≤ (lt : Int) := by omega
    rw [if_neg ht] at hE
    have HR := Lib.hid (fun wr (hb : Below w.heap.size w wr) => h.below hb)
    have HC := Lib.hid (fun wr (hb : Below B w wr) => hc.below hb)
    have HBs := Lib.hid (Nat.le_trans h.low (Nat.le_of_lt h.lt))
    have HSM := Lib.hid hsm
    have HE := Lib.hid hE
    have HT := Lib.hid ht
    clear h hc hsm hE ht
    go_enter Try.func42, Try.ntmps42
    go_wp2_with fail
    go_loopw [7] (fun i wr => ∃ k : Nat, i = .int .i64 (k : Int) ∧ k ≤ cs.length ∧ Hid (Below w.heap.size w wr ∧ badC gv [] (cs.map toCh) = badC gv ((cs.take k).map (·.1)) ((cs.drop k).map toCh))) (fun v _ => cs.length - (RowKit.intOf v).toNat)
    case atStart => exact ⟨0, rfl, Nat.zero_le _, Lib.hid ⟨Below.refl _ _, rfl⟩⟩
    case round =>
      obtain ⟨k, rfl, hk, HK⟩ := hrel
      obtain ⟨_, c1, c2, _⟩ := (HR.out _ HK.out.1).cells
      by_cases hlt : k < cs.length
      · obtain ⟨g, off, rfl, hg1, hat, hon⟩ := (HC.out _ (HK.out.1.mono HBs.out)).reads k hlt
        have hst := HK.out.2.trans (badC_step hlt)
        have hsm := HSM.out _ (List.getElem_mem hlt)
        obtain ⟨Y, hY⟩ : ∃ Y, cs[k] = Y := ⟨_, rfl⟩
        rw [hY] at hat hon hst hsm
        have HY := Lib.hid hY
        clear hY
        obtain ⟨yi, r, va, vb⟩ := Y
        obtain ⟨ok, jk, oa, ja, e1, e2⟩ := hon.form
        dsimp only at e1 e2
        subst e1 e2
        obtain ⟨a0, a1, a2, a3, a4, a5, a6, a7⟩ := hat.cells
        dsimp only at a0 a1 a2 a3 a4 a5 a6 a7 hst
        have HRT := Lib.hid (refRight_any r ok jk oa ja wr.drew (fun g => g < B) (hon.1.move fun b _ hF => ⟨hF, rfl⟩) (hon.2.move fun b _ hF => ⟨hF, rfl⟩) (Nat.le_trans hsm.1 (by decide)) (Nat.le_trans hsm.2 (by decide)))
        clear hat hon hsm
        by_cases h1 : yi < 1
        · have k2 : decide (yi < 1) = true := decide_eq_true h1
          have HE2 := Lib.hid (show E = 2 by rw [← HE.out, hst, k2]; rfl)
          clear hst HRT
          go_wp2_with fail
          go_quiet (fail)
          go_wp2_with fail
          go_ret
          rw [HE2.out]
          exact InstPost.bad H.out (by decide) (HK.out.1.trans (below_drewN _ _ _))
        · have k2 : decide (yi < 1) = false := decide_eq_false h1
          rw [k2, Bool.false_or] at hst
          by_cases h2 : (gv : Int) < yi
          · have k3 : decide ((gv : Int) < yi) = true := decide_eq_true h2
            have HE2 := Lib.hid (show E = 2 by rw [← HE.out, hst, k3]; rfl)
            clear hst HRT
            go_wp2_with fail
            go_quiet (fail)
            go_wp2_with fail
            go_ret
            rw [HE2.out]
            exact InstPost.bad H.out (by decide) (HK.out.1.trans (below_drewN _ _ _))
          · have k3 : decide ((gv : Int) < yi) = false := decide_eq_false h2
            rw [k3, Bool.false_or] at hst
            cases hr : rightR r with
            | false =>
              rw [hr] at hst HRT
              have HE2 := Lib.hid (show E = 2 by rw [← HE.out, hst]; rfl)
              clear hst hr
              go_wp2_with fail
              go_still_tail 24, (by kernel_rfl)
              change wpList _ _ _ _ _ wr.drew
              go_wp2_with fail
              refine HRT.out.mono ?_
              rintro e w2 ⟨rfl, hb2⟩
              have HB2 := Lib.hid (HK.out.1.drew.trans (hb2.mono HK.out.1.drew.size))
              clear hb2
              go_wp2_with fail
              go_ret
              rw [HE2.out]
              exact InstPost.bad H.out (by decide) HB2.out
            | true =>
              rw [hr, Bool.not_true, Bool.false_or] at hst
              rw [hr] at HRT
              have HST := Lib.hid hst
              clear hst hr
              go_wp2_with fail
              go_still_tail 24, (by kernel_rfl)
              change wpList _ _ _ _ _ wr.drew
              go_wp2_with fail
              refine HRT.out.mono ?_
              rintro e w2 ⟨rfl, hb2⟩
              have HB2 := Lib.hid (HK.out.1.drew.trans (hb2.mono HK.out.1.drew.size))
              clear hb2
              go_wp2_with fail
              go_loopw [8] (fun i wr' => ∃ m : Nat, i = .int .i64 (m : Int) ∧ m ≤ k ∧ Hid (Below w.heap.size w wr' ∧ yi ∉ (cs.take m).map (·.1))) (fun v _ => k - (RowKit.intOf v).toNat)
              case atStart => exact ⟨0, rfl, Nat.zero_le _, Lib.hid ⟨HB2.out, by simp⟩⟩
              case round =>
                obtain ⟨m, rfl, hm, HM⟩ := hrel
                by_cases hmk : m < k
                · have hmk1 : (m : Int) < (k : Int) := by omega
                  have hml : m < cs.length := by omega
                  obtain ⟨g', off', hoo, _, hat, _⟩ := (HC.out _ (HM.out.1.mono HBs.out)).reads m hml
                  obtain ⟨rfl, rfl⟩ : g = g' ∧ off = off' := by simpa using hoo
                  obtain ⟨g', off', hoo', _, hat', _⟩ := (HC.out _ (HM.out.1.mono HBs.out)).reads k hlt
                  obtain ⟨rfl, rfl⟩ : g = g' ∧ off = off' := by simpa using hoo'
                  have b0 := hat.1
                  have d0 := hat'.1
                  rw [HY.out] at d0
                  dsimp only at d0
                  have hin := in_take hk hmk
                  have hnot := notin_take hk hmk HM.out.2
                  obtain ⟨z, hz⟩ : ∃ z, cs[m].1 = z := ⟨_, rfl⟩
                  rw [hz] at b0 hin hnot
                  clear hz hat hat' hoo hoo'
                  by_cases hzy : z = yi
                  · have k5 : (z == yi) = true := by rw [hzy, beq_self_eq_true]
                    have HE2 := Lib.hid (show E = 2 by
                      rw [hzy] at hin
                      rw [← HE.out, HST.out, List.contains_iff_mem.2 hin]; rfl)
                    clear hin hnot hzy
                    go_wp2_with fail
                    go_quiet (fail)
                    go_wp2_with fail
                    go_ret
                    rw [HE2.out]
                    exact InstPost.bad H.out (by decide) (HM.out.1.trans (below_drewN _ _ _))
                  · have k5 : (z == yi) = false := beq_eq_false_iff_ne.2 hzy
                    have HN := Lib.hid (hnot hzy)
                    clear hin hnot hzy
                    go_wp2_with fail
                    go_quiet (fail)
                    go_wp2_with fail
                    exact ⟨⟨m + 1, by go_num, by omega, Lib.hid ⟨HM.out.1.trans (below_drewN _ _ _), HN.out⟩⟩, by simp [RowKit.intOf]; omega⟩
                · have e : m = k := by omega
                  subst e
                  have hc2 : ((cs.take m).map (·.1)).contains yi = false := by
                    rw [← Bool.not_eq_true, List.contains_iff_mem]; exact HM.out.2
                  have HX := Lib.hid (show badC gv [] (cs.map toCh) = badC gv ((cs.take (m + 1)).map (·.1)) ((cs.drop (m + 1)).map toCh) by rw [HST.out, hc2, Bool.false_or])
                  clear hc2
                  go_wp2_with fail
                  go_roundw
                  case rel => exact ⟨m + 1, by go_num, by omega, Lib.hid ⟨HM.out.1, HX.out⟩⟩
                  case measure => simp [RowKit.intOf]; omega
      · have e : k = cs.length := by omega
        subst e
        have hE0 : badC gv [] (cs.map toCh) = false := by
          rw [HK.out.2, List.drop_length]; rfl
        have hcl2 := bad_len hE0
        rw [List.length_map] at hcl2
        have HE2 := Lib.hid (show E = 0 by rw [← HE.out, hE0]; rfl)
        have HB1 := HK.out.1
        clear HK hE0 c1 c2
        go_wp2_with fail
        go_loopw [9] (fun i wr' => ∃ k : Nat, ∃ o' j', i = .int .i64 (k : Int) ∧ k ≤ cs.length ∧ Hid (RefS B wr' b (.slice o' (xs.length + k) j') (xs ++ (cs.take k).map (toOnC t)) gv lt ∧ Only B (ownB b (.slice o0 xs.length j0)) w wr' ∧ ∀ g, (Value.slice o' (xs.length + k) j').ownBlock = some g → (Value.slice o0 xs.length j0).ownBlock = some g ∨ w.heap.size ≤ g)) (fun v _ => cs.length - (RowKit.intOf v).toNat)
        case atStart => exact ⟨0, o0, j0, rfl, Nat.zero_le _, Lib.hid ⟨by simpa using HR.out _ HB1, Only.of HB1 HBs.out, fun g hg => .inl hg⟩⟩
        case round =>
          obtain ⟨k, o1, j1, rfl, hk, HK⟩ := hrel
          obtain ⟨c0, _, _, cf⟩ := HK.out.1.cells
          have f0 := cf 0
          have hbl := HK.out.1.lt
          clear cf
          by_cases hlt : k < cs.length
          · obtain ⟨g, off, rfl, hg1, hat, hon⟩ := (HC.out _ HK.out.2.1.1).reads k hlt
            obtain ⟨Y, hY⟩ : ∃ Y, cs[k] = Y := ⟨_, rfl⟩
            rw [hY] at hat hon
            have HY := Lib.hid hY
            clear hY
            obtain ⟨yi, r, va, vb⟩ := Y
            obtain ⟨ok, jk, oa, ja, e1, e2⟩ := hon.form
            dsimp only at e1 e2
            subst e1 e2
            obtain ⟨a0, a1, a2, a3, a4, a5, a6, a7⟩ := hat.cells
            dsimp only at a0 a1 a2 a3 a4 a5 a6 a7
            have HON := Lib.hid hon
            clear hat hon
            go_wp2_with fail
            go_region_law (first
              | (refine step_pushOn rfl (.tmp 75) (.tmp 89) rfl yi t r ok _ jk oa _ ja wr.heap.size (World.alloc_heap_new wr _) (HK.out.1.below ((Below.refl _ _).alloc (Nat.le_refl _) _).drew).row (HON.out.low ((Below.refl _ _).alloc (Nat.le_trans HBs.out HK.out.2.1.1.size) _).drew) rfl rfl (by simp; exact Nat.le_succ_of_le (Nat.le_trans HBs.out HK.out.2.1.1.size)) (by simp; omega) ?_; intro g2 cap w1 hown1 hb1 hk1 hl1; obtain ⟨z0, z1⟩ := (HK.out.1.below ((Below.refl _ _).alloc (Nat.le_refl _) _).drew).after hk1))
            all_goals
              have hnx := HK.out.1.next HK.out.2.1 HK.out.2.2 (n := xs.length + k + 1) (Nat.le_trans HBs.out HK.out.2.1.1.size) hown1 (by simp; omega) hb1 hk1 hl1
              have HNX := Lib.hid hnx
              clear hnx hown1 hb1 hk1 hl1 z0 z1
              go_wp2_with fail
              go_roundw
              case rel => exact ⟨k + 1, _, _, by go_num, by omega, Lib.hid (by
                have e2 : (cs.take (k + 1)).map (toOnC t) = (cs.take k).map (toOnC t) ++ [(yi, t, r, .slice ok r.ks.length jk, .slice oa r.ats.length ja)] := by
                  rw [List.take_succ_eq_append_getElem hlt, List.map_append, HY.out]; rfl
                rw [e2, ← List.append_assoc]
                exact HNX.out)⟩
              case measure => simp [RowKit.intOf]; omega
          · have e : k = cs.length := by omega
            subst e
            rw [List.take_length] at HK
            obtain ⟨_, _, c2, cf⟩ := HK.out.1.cells
            have f2 := cf 2
            clear cf
            go_wp2_with fail
            go_ret
            rw [HE2.out]
            obtain ⟨p1, p2⟩ := HK.out.1.stamp t
            exact ⟨rfl, by rw [if_pos rfl]; exact ⟨_, p1, HK.out.2.2⟩, HK.out.2.1.trans p2 fun i hi hoi => by
              rcases hoi with rfl | hoi
              · exact .inl rfl
              · rcases HK.out.2.2 i hoi with h1 | h1
                · exact .inr h1
                · omega⟩
end Go.Proofs.Ytpimdmjhnogelaa.Char
