/- PlantI PlantV RefG RefV -/
import Derived.Test.YtkackejipgabfaaPk05
import Derived.Deep.CutBlock
import Derived.Deep.DeepCutAuto
import Derived.Test.YtkackejipgabfaaPk01
import Derived.Test.YtkackejipgabfaaPk02
import Derived.Test.YtkackejipgabfaaPk04
/- What the loops of a view's Plant keep. -/
namespace Go.Proofs.Ytkackejipgabfaa.Char
open Go.RowKit Go.Lib

structure PLI (Z Z1 : Nat → Prop) (B : Nat) (w : World) (b sb tm : Nat) (node : Obj) (xb : Nat) (r0 : Rc) (S' : Sto) (own' : Own) (ks as' : List Int) (u v : Value) (wr : World) : Prop where
  vs : ∃ Z', VS Z' Z1 B wr b sb tm S' own' ∧ (∀ g, Z g → Z' g) ∧ (∀ g, Z' g → Z g ∨ w.heap.size ≤ g) ∧ ¬ Z' w.heap.size ∧ ¬ Z' xb ∧ ∀ g, u.ownBlock = some g ∨ v.ownBlock = some g → ¬ Z' g
  only : Only B (fun g => Z g ∨ Z1 g) w wr
  nb : wr.heap[w.heap.size]? = some node
  xo : wr.heap[xb]? = some (rcB (r0, u, v))
  ou : OwnsInt (xb + 1) wr u ks
  ov : OwnsInt (xb + 1) wr v as'
  ne : ∀ g, u.ownBlock = some g → v.ownBlock ≠ some g
  xlt : w.heap.size < xb
  z1 : ∀ g, Z1 g → g < w.heap.size
  bw : B ≤ w.heap.size
section
variable {Z Z1 : Nat → Prop} {B : Nat} {w : World} {b sb tm : Nat} {node : Obj} {xb : Nat} {r0 : Rc} {S' : Sto} {own' : Own} {ks as' : List Int} {u v : Value} {wr : World}
theorem PLI.after (h : PLI Z Z1 B w b sb tm node xb r0 S' own' ks as' u v wr) {Z' Z'' : Nat → Prop} (a1 : ∀ g, Z g → Z' g) (a2 : ∀ g, Z' g → Z g ∨ w.heap.size ≤ g) (a3 : ¬ Z' w.heap.size) (a4 : ¬ Z' xb) (a5 : ∀ g, u.ownBlock = some g ∨ v.ownBlock = some g → ¬ Z' g)
    {w' : World} {S'' : Sto} {own'' : Own} (ho : Only B (fun g => Z' g ∨ Z1 g) wr w') (hvs : VS Z'' Z1 B w' b sb tm S'' own'') (b1 : ∀ g, Z' g → Z'' g) (b2 : ∀ g, Z'' g → Z' g ∨ wr.heap.size ≤ g) : PLI Z Z1 B w b sb tm node xb r0 S'' own'' ks as' u v w' := by
  have hs := h.only.1.size
  have hx : xb < wr.heap.size := (Array.getElem?_eq_some_iff.1 h.xo).1
  have hxl := h.xlt
  have hz1 := h.z1
  have keep : ∀ g, g < wr.heap.size → w.heap.size ≤ g → ¬ Z' g → w'.heap[g]? = wr.heap[g]? := fun g h1 h2 h3 => ho.2 g h1 (fun q => q.elim h3 (fun q => by have := hz1 g q; omega))
  have ku : ∀ g, u.ownBlock = some g ∨ v.ownBlock = some g → g < wr.heap.size ∧ w.heap.size ≤ g := fun g hg => by
    rcases hg with hg | hg
    · have := h.ou.blk hg; omega
    · have := h.ov.blk hg; omega
  have notZ : ∀ g, g < wr.heap.size → ¬ Z' g → ¬ Z'' g := fun g h1 h2 h3 => (b2 g h3).elim h2 (fun q => by omega)
  refine ⟨⟨Z'', hvs, fun g hg => b1 g (a1 g hg), fun g hg => (b2 g hg).elim (a2 g) (fun q => .inr (by omega)), notZ _ (by omega) a3, notZ _ hx a4, fun g hg => notZ g (ku g hg).1 (a5 g hg)⟩, h.only.trans ho fun i hi hoi => ?_, (keep _ (by omega) (Nat.le_refl _) a3).trans h.nb, (keep _ hx (by omega) a4).trans h.xo,
    h.ou.keep fun g hg => keep g (ku g (.inl hg)).1 (ku g (.inl hg)).2 (a5 g (.inl hg)), h.ov.keep fun g hg => keep g (ku g (.inr hg)).1 (ku g (.inr hg)).2 (a5 g (.inr hg)), h.ne, h.xlt, h.z1, h.bw⟩
  rcases hoi with q | q
  · exact (a2 i q).elim .inl (fun q => by omega)
  · exact .inr q
theorem PLI.stay (h : PLI Z Z1 B w b sb tm node xb r0 S' own' ks as' u v wr) {w' : World} (hb : Below wr.heap.size wr w') : PLI Z Z1 B w b sb tm node xb r0 S' own' ks as' u v w' := by
  obtain ⟨Z', q1, q2, q3, q4, q5, q6⟩ := h.vs
  exact h.after q2 q3 q4 q5 q6 (Only.of hb q1.lowB) (q1.below hb) (fun _ h => h) (fun _ h => .inl h)
theorem PLI.pushV (h : PLI Z Z1 B w b sb tm node xb r0 S' own' ks as' u v wr) {w1 : World} {v' : Value} {z : Int} (q1 : OwnsInt (xb + 1) w1 v' (as' ++ [z])) (q2 : Below (xb + 1) wr w1) (q3 : ∀ k, k < wr.heap.size → some k ≠ v.ownBlock → w1.heap[k]? = wr.heap[k]?) (q4 : ∀ g, v'.ownBlock = some g → v.ownBlock = some g ∨ wr.heap.size ≤ g) :
    PLI Z Z1 B w b sb tm node xb r0 S' own' ks (as' ++ [z]) u v' (w1.setCell ⟨xb, 5, none⟩ v') := by
  obtain ⟨Z', a0, a1, a2, a3, a4, a5⟩ := h.vs
  have hs := h.only.1.size
  have hx : xb < wr.heap.size := (Array.getElem?_eq_some_iff.1 h.xo).1
  have hxl := h.xlt
  have hB := a0.lowB
  have hs1 := q2.size
  have hv : ∀ g, v.ownBlock = some g → xb + 1 ≤ g ∧ g < wr.heap.size := fun g hg => h.ov.blk hg
  have keep : ∀ k, k < wr.heap.size → k ≠ xb → v.ownBlock ≠ some k → (w1.setCell ⟨xb, 5, none⟩ v').heap[k]? = wr.heap[k]? := fun k h1 h2 h3 => (heap_set_ne (a := ⟨xb, 5, none⟩) h2).trans (q3 k h1 fun e => h3 e.symm)
  have zl := fun g hg => (a0.zB g hg).2
  have hw0 := h.only.1.size
  have hBw := h.bw
  refine ⟨⟨Z', a0.move (fun g hg => keep g (zl g hg) (fun e => ?_) (fun e => ?_)) (by rw [World.size_setCell]; exact hs1), a1, a2, a3, a4, fun g hg => ?_⟩, ?_, (keep _ (by omega) (by omega) (fun e => by have := hv _ e; omega)).trans h.nb, ?_, h.ou.keep fun g hg => keep g (h.ou.blk hg).2 (fun e => by have := (h.ou.blk hg).1; omega) (h.ne g hg), q1.keep fun g hg => heap_set_ne (a := ⟨xb, 5, none⟩) (by have := (q1.blk hg).1; show g ≠ xb; omega), fun g hg e => ?_, h.xlt, h.z1, h.bw⟩
  · rcases hg with q | q
    · exact a4 (e ▸ q)
    · have := h.z1 g q; omega
  · rcases hg with q | q
    · exact a5 g (.inr e) q
    · have := h.z1 g q; have := hv g e; omega
  · rcases hg with q | q
    · exact a5 g (.inl q)
    · rcases q4 g q with p | p
      · exact a5 g (.inr p)
      · intro hz; have := zl g (.inl hz); omega
  · refine h.only.trans (O' := fun g => g = xb ∨ v.ownBlock = some g) ⟨(q2.mono (Nat.le_trans hBw (by omega : w.heap.size ≤ xb + 1))).setCell (p := ⟨xb, 5, none⟩) (Nat.le_trans hBw (Nat.le_of_lt hxl)) _, fun k h1 h2 => keep k h1 (fun e => h2 (.inl e)) (fun e => h2 (.inr e))⟩ fun i hi ho => ?_
    rcases ho with rfl | ho
    · omega
    · have := hv i ho; omega
  · have hc := (q3 xb hx (fun e => by have := hv xb e.symm; omega)).trans h.xo
    exact rcB_set5 hc v'
  · rcases q4 g e with p | p
    · exact h.ne g hg p
    · have := (h.ou.blk hg).2; omega
theorem PLI.pushU (h : PLI Z Z1 B w b sb tm node xb r0 S' own' ks as' u v wr) {w1 : World} {v' : Value} {z : Int} (q1 : OwnsInt (xb + 1) w1 v' (ks ++ [z])) (q2 : Below (xb + 1) wr w1) (q3 : ∀ k, k < wr.heap.size → some k ≠ u.ownBlock → w1.heap[k]? = wr.heap[k]?) (q4 : ∀ g, v'.ownBlock = some g → u.ownBlock = some g ∨ wr.heap.size ≤ g) :
    PLI Z Z1 B w b sb tm node xb r0 S' own' (ks ++ [z]) as' v' v (w1.setCell ⟨xb, 4, none⟩ v') := by
  obtain ⟨Z', a0, a1, a2, a3, a4, a5⟩ := h.vs
  have hs := h.only.1.size
  have hx : xb < wr.heap.size := (Array.getElem?_eq_some_iff.1 h.xo).1
  have hxl := h.xlt
  have hB := a0.lowB
  have hs1 := q2.size
  have hv : ∀ g, u.ownBlock = some g → xb + 1 ≤ g ∧ g < wr.heap.size := fun g hg => h.ou.blk hg
  have keep : ∀ k, k < wr.heap.size → k ≠ xb → u.ownBlock ≠ some k → (w1.setCell ⟨xb, 4, none⟩ v').heap[k]? = wr.heap[k]? := fun k h1 h2 h3 => (heap_set_ne (a := ⟨xb, 4, none⟩) h2).trans (q3 k h1 fun e => h3 e.symm)
  have zl := fun g hg => (a0.zB g hg).2
  have hw0 := h.only.1.size
  have hBw := h.bw
  refine ⟨⟨Z', a0.move (fun g hg => keep g (zl g hg) (fun e => ?_) (fun e => ?_)) (by rw [World.size_setCell]; exact hs1), a1, a2, a3, a4, fun g hg => ?_⟩, ?_, (keep _ (by omega) (by omega) (fun e => by have := hv _ e; omega)).trans h.nb, ?_, q1.keep fun g hg => heap_set_ne (a := ⟨xb, 4, none⟩) (by have := (q1.blk hg).1; show g ≠ xb; omega), h.ov.keep fun g hg => keep g (h.ov.blk hg).2 (fun e => by have := (h.ov.blk hg).1; omega) (fun e => h.ne g e hg), fun g hg e => ?_, h.xlt, h.z1, h.bw⟩
  · rcases hg with q | q
    · exact a4 (e ▸ q)
    · have := h.z1 g q; omega
  · rcases hg with q | q
    · exact a5 g (.inl e) q
    · have := h.z1 g q; have := hv g e; omega
  · rcases hg with q | q
    · rcases q4 g q with p | p
      · exact a5 g (.inl p)
      · intro hz; have := zl g (.inl hz); omega
    · exact a5 g (.inr q)
  · refine h.only.trans (O' := fun g => g = xb ∨ u.ownBlock = some g) ⟨(q2.mono (Nat.le_trans hBw (by omega : w.heap.size ≤ xb + 1))).setCell (p := ⟨xb, 4, none⟩) (Nat.le_trans hBw (Nat.le_of_lt hxl)) _, fun k h1 h2 => keep k h1 (fun e => h2 (.inl e)) (fun e => h2 (.inr e))⟩ fun i hi ho => ?_
    rcases ho with rfl | ho
    · omega
    · have := hv i ho; omega
  · have hc := (q3 xb hx (fun e => by have := hv xb e.symm; omega)).trans h.xo
    exact rcB_set4 hc v'
  · rcases q4 g hg with p | p
    · exact h.ne g p e
    · have := (h.ov.blk e).2; omega
end
end Go.Proofs.Ytkackejipgabfaa.Char

/- The walk of a view's Plant. -/
namespace Go.Proofs.Ytkackejipgabfaa.Char
open Go.RowKit Go.Lib

set_option maxRecDepth 100000 in
set_option maxHeartbeats 2000000 in
theorem alone_any (k : Int) (w : World) : Calls Try.prog 49 #[.int .i64 k] w fun e w' => e = .returned (.bool (aloneK k)) ∧ w' = w := by
  unfold aloneK
  by_cases h2 : k = 2
  · subst h2
    go_enter Try.func49, Try.ntmps49
    go_wp2_with fail
    go_ret
    exact ⟨rfl, rfl⟩
  · by_cases h4 : k = 4
    · subst h4
      go_enter Try.func49, Try.ntmps49
      go_wp2_with fail
      go_ret
      exact ⟨rfl, rfl⟩
    · by_cases h5 : k = 5
      · subst h5
        go_enter Try.func49, Try.ntmps49
        go_wp2_with fail
        go_ret
        exact ⟨rfl, rfl⟩
      · by_cases h6 : k = 6
        · subst h6
          go_enter Try.func49, Try.ntmps49
          go_wp2_with fail
          go_ret
          exact ⟨rfl, rfl⟩
        · have b2 : (k == 2) = false := beq_eq_false_iff_ne.2 h2
          have b4 : (k == 4) = false := beq_eq_false_iff_ne.2 h4
          have b5 : (k == 5) = false := beq_eq_false_iff_ne.2 h5
          have b6 : (k == 6) = false := beq_eq_false_iff_ne.2 h6
          rw [decide_eq_false h2, decide_eq_false h4, decide_eq_false h5, decide_eq_false h6]
          clear h2 h4 h5 h6
          go_enter Try.func49, Try.ntmps49
          go_wp2_with fail
          go_ret
          exact ⟨rfl, rfl⟩
theorem plantA_snoc (id : Int) (a : At2) : ∀ (l : List At2) (g : Nat) (own : Own), plantA id (l ++ [a]) g own = layO (plantA id l g own) ((g + l.length + 1 : Nat) : Int) (atR3 id a)
  | [], g, own => by rw [List.nil_append, plantA, plantA, plantA]; rfl
  | x :: l, g, own => by
    rw [List.cons_append, plantA, plantA_snoc id a l, plantA, List.length_cons, show g + 1 + l.length + 1 = g + (l.length + 1) + 1 by omega]
theorem atIds_len (g n : Nat) : (atIds g n).length = n := by simp [atIds]
theorem atIds_snoc (g n : Nat) : atIds g (n + 1) = atIds g n ++ [((g + 1 + n : Nat) : Int)] := by
  unfold atIds
  rw [List.range'_concat, List.map_append]
  simp
theorem plantK_snoc (k : Tr) : ∀ (ks : List Tr) (par : Int) (g : Nat) (own : Own), plantK (ks ++ [k]) par g own =
    ((plantK ks par g own).1 ++ (if (plantT k par (plantK ks par g own).2.1 (plantK ks par g own).2.2).1 = 0 then [] else [(plantT k par (plantK ks par g own).2.1 (plantK ks par g own).2.2).1]), (plantT k par (plantK ks par g own).2.1 (plantK ks par g own).2.2).2.1, (plantT k par (plantK ks par g own).2.1 (plantK ks par g own).2.2).2.2)
  | [], par, g, own => by rw [List.nil_append, plantK_cons, plantK, plantK]; simp
  | x :: ks, par, g, own => by
    rw [List.cons_append, plantK_cons, plantK_snoc k ks, plantK_cons]
    simp
theorem totPK_take (ks : List Tr) (k : Nat) (h : k < ks.length) : totPK (ks.take k) + totP ks[k] ≤ totPK ks := by
  induction ks generalizing k with
  | nil => cases h
  | cons x r ih =>
    cases k with
    | zero => simp [totPK]
    | succ k =>
      have := ih k (by simpa using h)
      simp only [List.take_succ_cons, totPK, List.getElem_cons_succ]
      omega
theorem AtsOn.cells2 {w : World} {F : Nat → Prop} {o : Option Addr} {i j : Nat} {qs : List At2} (h : AtsOn w F (.slice o i j) qs) (k : Nat) (hk : k < qs.length) : ∃ g off, o = some ⟨g, off, none⟩ ∧ F g ∧ w.cell? ⟨g, off + k * 2, none⟩ = some (.string (bs qs[k].1)) ∧ w.cell? ⟨g, off + k * 2 + 1, none⟩ = some (.string (bs qs[k].2)) := by
  obtain ⟨o', i', j', e1, e2, e3⟩ := h
  cases e1
  rcases e3 with e3 | ⟨g, off, e4, e5, e6⟩
  · rw [e3] at hk; cases hk
  · have := e6 k hk
    rw [List.getD_eq_getElem?_getD, List.getElem?_eq_getElem hk] at this
    exact ⟨g, off, e4, e5, this⟩
theorem put_ok {own : Own} {id : Int} {r : Rc} (h1 : 1 ≤ id) (h2 : rightR r = true) : putE id r = 0 ∧ putO own id r = layO own id r := by
  unfold putE putO
  rw [decide_eq_false (by omega : ¬ id < 1), h2]
  exact ⟨rfl, rfl⟩
/-- what is behind Plant -/
def PlP (Z Z1 : Nat → Prop) (B : Nat) (w : World) (b sb tm : Nat) (S : Sto) (own : Own) (t : Tr) (par : Int) : Ending → World → Prop := fun e w' =>
  e = .returned (.int .i64 (plantT t par S.given own).1) ∧ Only B (fun g => Z g ∨ Z1 g) w w' ∧ ∃ Z', VS Z' Z1 B w' b sb tm { S with given := (plantT t par S.given own).2.1 } (plantT t par S.given own).2.2 ∧ (∀ g, Z g → Z' g) ∧ ∀ g, Z' g → Z g ∨ w.heap.size ≤ g
theorem wf_7 {z : Int} (h1 : 0 ≤ z) (h2 : z ≤ 100000000) : (Lit.int .i64 z).wf = true := by
  have hm : IntKind.i64.min = -9223372036854775808 := by decide
  have hx : IntKind.i64.max = 9223372036854775807 := by decide
  simp [Lit.wf, hm, hx]
  omega
section
variable {Z1 F : Nat → Prop} {B b sb tm : Nat}
set_option maxRecDepth 100000 in
set_option maxHeartbeats 16000000 in
theorem plantV_any : ∀ (c : Nat) (t : Tr) (va vk : Value) (par : Int) (Z : Nat → Prop) (S : Sto) (own : Own) (w : World), cntT t ≤ c → c ≤ 100000 → NdOn w F t va vk → (∀ g, F g → g < w.heap.size ∧ ¬ (Z g ∨ Z1 g)) → VS Z Z1 B w b sb tm S own → S.given + totP t ≤ 10000000 → own.length + totP t ≤ 10000000 →
    Calls Try.prog 21 #[.pointer (some ⟨b, 0, none⟩), ndV t va vk, .int .i64 par] w (PlP Z Z1 B w b sb tm S own t par) := by
  intro c
  induction c with
  | zero => intro t va vk par Z S own w hc _; have := cntT_pos t; omega
  | succ c ih =>
    intro t va vk par Z S own w hc hc0 hn hF hv hg hl
    have hcn0 := cnt_eq t
    have hkl0 := cntK_len t.ks
    have hkb : t.ks.length ≤ 100000 := by omega
    clear hcn0 hkl0
    obtain ⟨oa, ja, ok, jk, rfl, rfl⟩ := hn.form
    obtain ⟨W1, hW1⟩ : ∃ W1, W1 = w.alloc (.cells #[.int .i64 t.kd, .string (bs t.nm), .string (bs t.tx), .slice oa t.ats.length ja, .slice ok t.ks.length jk] 25) := ⟨_, rfl⟩
    have hb1 : Below w.heap.size w W1 := by rw [hW1]; exact (Below.refl _ _).alloc (Nat.le_refl _) _
    have hs1 : W1.heap.size = w.heap.size + 1 := by rw [hW1]; simp
    have hk1 : W1.heap[w.heap.size]? = some (.cells #[.int .i64 t.kd, .string (bs t.nm), .string (bs t.tx), .slice oa t.ats.length ja, .slice ok t.ks.length jk] 25 (0, 0)) := by rw [hW1]; exact World.alloc_heap_new w _
    have hB := hv.lowB
    have hv1 := hv.below hb1
    have hM := hv1.made
    obtain ⟨cb, hbl⟩ := hv1.sbc
    have n0 : W1.cell? ⟨w.heap.size, 0, none⟩ = some (.int .i64 t.kd) := by simp [World.cell?, hk1]
    have n1 : W1.cell? ⟨w.heap.size, 1, none⟩ = some (.string (bs t.nm)) := by simp [World.cell?, hk1]
    have n2 : W1.cell? ⟨w.heap.size, 2, none⟩ = some (.string (bs t.tx)) := by simp [World.cell?, hk1]
    have HW1 := Lib.hid hW1
    have HB1 := Lib.hid hb1
    have HV := Lib.hid hv
    have HA := Lib.hid (alone_any t.kd W1)
    cases hk : aloneK t.kd with
    | false =>
      rw [hk] at HA
      have hno := plantT_no hk par S.given own
      unfold ndV
      clear ih hn hb1 hW1 hk1 hv hv1
      go_enter Try.func21, Try.ntmps21
      go_wp2_with (first
        | (go_at_call 48; rw [← HW1.out]; refine hM.mono ?_; rintro e w' ⟨rfl, hw'⟩; rw [hw']; clear hw')
        | (go_at_call 49; refine HA.out.mono ?_; rintro e w' ⟨rfl, hw'⟩; rw [hw']; clear hw'))
      go_ret
      refine ⟨by rw [hno]; rfl, Only.of HB1.out hB, Z, ?_, fun _ h => h, fun _ h => .inl h⟩
      rw [hno]
      exact HV.out.below HB1.out
    | true =>
      rw [hk] at HA
      have hyes := plantT_yes hk par S.given own
      have htot := totP_yes hk
      obtain ⟨I, hI⟩ : ∃ I : Int, ((S.given + 1 : Nat) : Int) = I := ⟨_, rfl⟩
      have hfr := vs_fresh hv1 (by omega)
      rw [hI] at hfr
      have hFr := Lib.hid hfr
      have HII := Lib.hid hI
      have HAK := Lib.hid hk
      have HN := Lib.hid hn
      have HYES := Lib.hid hyes
      obtain ⟨mp, hmp⟩ : ∃ mp, max par 0 = mp := ⟨_, rfl⟩
      unfold ndV
      clear hn hb1 hW1 hv hv1 hyes hfr hI
      go_enter Try.func21, Try.ntmps21
      go_wp2_with (first
        | (go_at_call 48; rw [← HW1.out]; refine hM.mono ?_; rintro e w' ⟨rfl, hw'⟩; rw [hw']; clear hw')
        | (go_at_call 49; refine HA.out.mono ?_; rintro e w' ⟨rfl, hw'⟩; rw [hw']; clear hw')
        | (go_at_call 25
           refine hFr.out.mono ?_
           rintro e w2 ⟨rfl, v2, o2⟩
           have nb2 := (o2.2 w.heap.size (by omega) (fun hz => by have := (HV.out.zB _ (.inr hz)).2; omega)).trans hk1
           have m0 : w2.cell? ⟨w.heap.size, 0, none⟩ = some (.int .i64 t.kd) := by simp [World.cell?, nb2]
           have m1 : w2.cell? ⟨w.heap.size, 1, none⟩ = some (.string (bs t.nm)) := by simp [World.cell?, nb2]
           have m2 : w2.cell? ⟨w.heap.size, 2, none⟩ = some (.string (bs t.tx)) := by simp [World.cell?, nb2]
           have m3 : w2.cell? ⟨w.heap.size, 3, none⟩ = some (.slice oa t.ats.length ja) := by simp [World.cell?, nb2]
           have m3a : ∀ ob, (w2.alloc ob).cell? ⟨w.heap.size, 3, none⟩ = some (.slice oa t.ats.length ja) := fun ob => (((Below.refl _ w2).alloc (Nat.le_refl _) ob).cell (p := ⟨w.heap.size, 3, none⟩) (cell_lt m3)).trans m3
           have V2 := Lib.hid v2
           have O2 := Lib.hid o2
           have NB2 := Lib.hid nb2
           clear v2 o2 nb2 n0 n1 n2 hk1))
      have hs2 := O2.out.1.size
      have hnp : ∀ g, Z g ∨ Z1 g → g < w.heap.size := fun g hz => (HV.out.zB g hz).2
      obtain ⟨W3, hW3⟩ : ∃ W3, W3 = w2.alloc (.cells #[.int .i64 t.kd, .string (bs t.nm), .string (bs t.tx), .int .i64 mp, .slice none 0 0, .slice none 0 0, .bool false] 34) := ⟨_, rfl⟩
      rw [← hW3]
      have hb3 : Below w2.heap.size w2 W3 := by rw [hW3]; exact (Below.refl _ _).alloc (Nat.le_refl _) _
      have hs3 : W3.heap.size = w2.heap.size + 1 := by rw [hW3]; simp
      have hbm : Only B (fun g => Z g ∨ Z1 g) w w2 := ((Only.of (O := fun g => Z g ∨ Z1 g) HB1.out hB).trans O2.out fun i _ hi => .inr hi)
      have hw21 : W1.heap.size ≤ w2.heap.size := O2.out.1.size
      have hP : PLI Z Z1 B w b sb tm (.cells #[.int .i64 t.kd, .string (bs t.nm), .string (bs t.tx), .slice oa t.ats.length ja, .slice ok t.ks.length jk] 25 (0, 0)) w2.heap.size ⟨t.kd, t.nm, t.tx, mp, [], [], false⟩ (freshS S) own [] (atIds (S.given + 1) 0) (.slice none 0 0) (.slice none 0 0) W3 :=
        ⟨⟨Z, V2.out.below hb3, fun _ h => h, fun _ h => .inl h, fun h => by have := hnp _ (.inl h); omega, fun h => by have := hnp _ (.inl h); omega, fun g hg => by rcases hg with hg | hg <;> cases hg⟩,
          hbm.trans (Only.of (O := fun g => Z g ∨ Z1 g) hb3 (by omega)) (fun _ _ h => h), (hb3.block _ (by omega)).trans NB2.out, by rw [hW3]; exact World.alloc_heap_new w2 _, OwnsInt.nil _ _, OwnsInt.nil _ _, fun g hg => (by cases hg), by omega, fun g hz => hnp g (.inr hz), hB⟩
      have HP := Lib.hid hP
      clear hP hbm hb3 V2 O2 NB2 m0 m1 m2 m3 m3a HA hM cb hFr hW3 HB1
      obtain ⟨X, hX⟩ : ∃ X, w2.heap.size = X := ⟨_, rfl⟩
      rw [hX] at HP ⊢
      go_loopw [41] (fun v41 wr => ∃ k : Nat, ∃ u v, v41 = .int .i64 (k : Int) ∧ k ≤ t.ats.length ∧ Hid (PLI Z Z1 B w b sb tm (.cells #[.int .i64 t.kd, .string (bs t.nm), .string (bs t.tx), .slice oa t.ats.length ja, .slice ok t.ks.length jk] 25 (0, 0)) X ⟨t.kd, t.nm, t.tx, mp, [], [], false⟩ { S with given := S.given + 1 + k } (plantA I (t.ats.take k) (S.given + 1) own) [] (atIds (S.given + 1) k) u v wr)) (fun v _ => t.ats.length - (RowKit.intOf v).toNat)
      case atStart => exact ⟨0, _, _, rfl, Nat.zero_le _, HP⟩
      case round =>
        obtain ⟨k, u, v, rfl, hk, HK⟩ := hrel
        by_cases hlt : k < t.ats.length
        · obtain ⟨ov, jv, hvv⟩ := HK.out.ov.form
          rw [atIds_len] at hvv
          subst hvv
          obtain ⟨Zk, vk, a1, a2, a3, a4, a5⟩ := HK.out.vs
          have hnr := (NdOn.move (F := F) (F' := F) (w' := wr) (fun g hg hf => ⟨hf, HK.out.only.2 g hg (hF g hf).2⟩) t _ _ HN.out).ats
          obtain ⟨g, off, rfl, _, c0, c1⟩ := hnr.cells2 k hlt
          have htk := List.take_succ_eq_append_getElem hlt
          have hal := plantA_len I (t.ats.take k) (S.given + 1) own
          rw [List.length_take] at hal
          obtain ⟨A, hA⟩ : ∃ A : Int, ((S.given + 1 + k + 1 : Nat) : Int) = A := ⟨_, rfl⟩
          have hnx : plantA I (t.ats.take (k + 1)) (S.given + 1) own = layO (plantA I (t.ats.take k) (S.given + 1) own) A (atR3 I t.ats[k]) := by
            rw [htk, plantA_snoc, List.length_take, Nat.min_eq_left hk, hA]
          have hnx2 : atIds (S.given + 1) (k + 1) = atIds (S.given + 1) k ++ [A] := by rw [atIds_snoc, ← hA]; congr 2; omega
          generalize t.ats[k] = y at *
          have hb4 := fun ob => ((Below.refl _ wr).alloc (Nat.le_refl _) ob : Below wr.heap.size wr (wr.alloc ob))
          have P4 := Lib.hid (fun ob => HK.out.stay (hb4 ob))
          have hfr := fun ob => vs_fresh (vk.below (hb4 ob)) (by show S.given + 1 + k ≤ 10000000; omega)
          have e0 : ((({ S with given := S.given + 1 + k } : Sto).given + 1 : Nat) : Int) = A := hA
          rw [e0] at hfr
          have HFR := Lib.hid hfr
          have cb4 := fun ob => (vk.below (hb4 ob)).sbc.1
          have hxw := (Array.getElem?_eq_some_iff.1 HK.out.xo).1
          have hz0 : (0 : Int) ≤ (k : Int) := by omega
          have hz1 : (k : Int) < (t.ats.length : Int) := by omega
          have hA1 : 1 ≤ A ∧ A ≤ 10000001 := by omega
          have hI1 : 1 ≤ I ∧ I ≤ 10000001 := by have := HII.out; omega
          have VK := Lib.hid vk
          have HNX := Lib.hid hnx
          have HNX2 := Lib.hid hnx2
          have HAA := Lib.hid hA
          have hor : rightR (atR3 I y) = true := by
            unfold rightR atR3
            simp
            omega
          obtain ⟨pe, po⟩ := put_ok (own := plantA I (t.ats.take k) (S.given + 1) own) hA1.1 hor
          have PE := Lib.hid pe
          unfold atR3 at po
          have PO := Lib.hid po
          clear hnr htk hfr e0 vk hnx hnx2 hA hor pe po hb4
          go_wp2_with (first
            | (go_at_call 25
               refine (HFR.out _).mono ?_
               rintro e w5 ⟨rfl, v5, o5⟩
               have P5 := Lib.hid ((P4.out _).after a1 a2 a3 a4 a5 (o5.weak (O' := fun g => Zk g ∨ Z1 g) (fun _ _ h => .inr h)) v5 (fun _ h => h) (fun _ h => .inl h))
               have hs5 := o5.1.size
               rw [World.size_alloc] at hs5
               have kb5 := (o5.2 wr.heap.size (by simp) (fun hz => by have := HK.out.z1 _ hz; have := HK.out.only.1.size; omega)).trans (World.alloc_heap_new wr _)
               have d0 : w5.cell? ⟨wr.heap.size, 0, none⟩ = some (.string (bs y.1)) := by simp [World.cell?, kb5]
               have d1 : w5.cell? ⟨wr.heap.size, 1, none⟩ = some (.string (bs y.2)) := by simp [World.cell?, kb5]
               have hpt := vs_put v5 (by omega) A (wf_7 (by omega) (by omega)) (atR3 I y, .slice none 0 0, .slice none 0 0) (F := fun _ => True) ⟨IntsOn.nil _ _ _ _, IntsOn.nil _ _ _ _⟩ ⟨Nat.zero_le _, Nat.zero_le _⟩
               unfold rcV at hpt
               dsimp only [atR3] at hpt
               have HPT := Lib.hid hpt
               clear v5 o5 kb5 hpt)
            | (go_at_call 23
               refine HPT.out.mono ?_
               rintro e w6 ⟨rfl, o6, Z6, v6, b6, c6⟩
               have P6 := Lib.hid (P5.out.after a1 a2 a3 a4 a5 (o6.weak (O' := fun g => Zk g ∨ Z1 g) (fun _ _ h => .inl h)) v6 b6 c6)
               obtain ⟨⟨_, _, _, _, _, x5, _⟩, xf⟩ := rc_blk P6.out.xo
               have xf5 := xf 5
               have hw6 := (Array.getElem?_eq_some_iff.1 P6.out.xo).1
               clear o6 v6 b6 c6 xf)
            | (at_builtin
               refine wpList_pushInt rfl (.tmp 60) (.tmp 62) rfl A P6.out.ov rfl (by simp [Act.eval]) (by omega) (by rw [atIds_len]; omega) ?_
               intro u7 w7 q1 q2 q3 q4
               have c7 := (World.cell?_of_block (w := w6) (w' := w7) (a := ⟨X, 5, none⟩) (q3 X hw6 (fun e => by have := (P6.out.ov.blk e.symm).1; omega))).trans x5
               have f7 := (World.frozen?_of_block (w := w6) (w' := w7) (a := ⟨X, 5, none⟩) (q3 X hw6 (fun e => by have := (P6.out.ov.blk e.symm).1; omega))).trans xf5
               have P7 := Lib.hid (P6.out.pushV q1 q2 q3 q4)
               obtain ⟨o7, j7, rfl⟩ := q1.form
               rw [List.length_append, List.length_singleton, atIds_len] at P7
               clear q1 q2 q3 q4)
            | go_in)
          have p7 := P7.out
          rw [PO.out] at p7
          refine ⟨⟨k + 1, u, .slice o7 (k + 1) j7, by go_num, by omega, Lib.hid ?_⟩, by simp [RowKit.intOf]; omega⟩
          rw [HNX.out, HNX2.out, atIds_len]
          unfold atR3
          exact p7
        · have ek : k = t.ats.length := by omega
          subst ek
          rw [List.take_length] at HK
          have hal := plantA_len I t.ats (S.given + 1) own
          obtain ⟨own1, hown1⟩ : ∃ own1, plantA I t.ats (S.given + 1) own = own1 := ⟨_, rfl⟩
          obtain ⟨g1, hg1⟩ : ∃ g1, S.given + 1 + t.ats.length = g1 := ⟨_, rfl⟩
          obtain ⟨ai, hai⟩ : ∃ ai, atIds (S.given + 1) t.ats.length = ai := ⟨_, rfl⟩
          rw [hown1, hg1, hai] at HK
          rw [hown1] at hal
          have n4 : wr.cell? ⟨w.heap.size, 4, none⟩ = some (.slice ok t.ks.length jk) := by have := HK.out.nb; simp [World.cell?, this]
          have HOWN1 := Lib.hid hown1
          have HG1 := Lib.hid hg1
          have HAI := Lib.hid hai
          have hl1 : own1.length + totPK t.ks ≤ 10000000 := by omega
          have hgl1 : g1 + totPK t.ks ≤ 10000000 := by omega
          clear hown1 hai
          go_wp2_with fail
          go_loopw [69] (fun v69 wr => ∃ k : Nat, ∃ u v, v69 = .int .i64 (k : Int) ∧ k ≤ t.ks.length ∧ Hid (PLI Z Z1 B w b sb tm (.cells #[.int .i64 t.kd, .string (bs t.nm), .string (bs t.tx), .slice oa t.ats.length ja, .slice ok t.ks.length jk] 25 (0, 0)) X ⟨t.kd, t.nm, t.tx, mp, [], [], false⟩ { S with given := (plantK (t.ks.take k) I g1 own1).2.1 } (plantK (t.ks.take k) I g1 own1).2.2 (plantK (t.ks.take k) I g1 own1).1 ai u v wr)) (fun v _ => t.ks.length - (RowKit.intOf v).toNat)
          case atStart => exact ⟨0, _, _, rfl, Nat.zero_le _, Lib.hid (by rw [List.take_zero, plantK]; exact HK.out)⟩
          case round =>
            clear HK n4
            obtain ⟨k, u, v, rfl, hk2, HK⟩ := hrel
            by_cases hlt : k < t.ks.length
            · obtain ⟨ou, ju, huu⟩ := HK.out.ou.form
              obtain ⟨q, hq⟩ : ∃ q, plantK (t.ks.take k) I g1 own1 = q := ⟨_, rfl⟩
              obtain ⟨s1, s2, s3, s4⟩ := plantK_spec (t.ks.take k) I g1 own1
              have htt := totPK_take t.ks k hlt
              rw [hq] at HK huu s1 s2 s3 s4
              obtain ⟨qi, qg, qo⟩ := q
              dsimp only at HK huu s1 s2 s3 s4
              subst huu
              obtain ⟨Zk, vk, a1, a2, a3, a4, a5⟩ := HK.out.vs
              have hnr := (NdOn.move (F := F) (F' := F) (w' := wr) (fun g hg hf => ⟨hf, HK.out.only.2 g hg (hF g hf).2⟩) t _ _ HN.out)
              obtain ⟨o9, i9, j9, hv9, hi9, hkids⟩ := hnr.kids
              simp only [Value.slice.injEq] at hv9
              obtain ⟨rfl, rfl, rfl⟩ := hv9
              rcases hkids with h0 | ⟨g, off, rfl, hgF, hks⟩
              · rw [h0] at hlt; simp at hlt
              obtain ⟨va2, vk2, ⟨c0, c1, c2, c3, c4⟩, hnk⟩ := hks.at k hlt
              obtain ⟨oa2, ja2, ok2, jk2, rfl, rfl⟩ := hnk.form
              have hcn := cnt_eq t
              have hck := cntK_at t.ks k hlt
              have htk : plantK (t.ks.take (k + 1)) I g1 own1 = (qi ++ (if (plantT t.ks[k] I qg qo).1 = 0 then [] else [(plantT t.ks[k] I qg qo).1]), (plantT t.ks[k] I qg qo).2.1, (plantT t.ks[k] I qg qo).2.2) := by
                rw [List.take_succ_eq_append_getElem hlt, plantK_snoc, hq]
              obtain ⟨e1, e2, e3, e4, _⟩ := plantT_spec t.ks[k] I qg qo
              generalize t.ks[k] = kid at *
              have hb4 := fun ob => ((Below.refl _ wr).alloc (Nat.le_refl _) ob : Below wr.heap.size wr (wr.alloc ob))
              have P4 := Lib.hid (fun ob => HK.out.stay (hb4 ob))
              have hw0 := HK.out.only.1.size
              have hih := fun ob => ih kid _ _ I Zk { S with given := qg } qo (wr.alloc ob) (by omega) (by omega) (hnk.below (hb4 ob)) (fun g hg => ⟨by have := (hF g hg).1; simp; omega, fun h => by
                rcases h with h | h
                · rcases a2 g h with h | h
                  · exact (hF g hg).2 (.inl h)
                  · have := (hF g hg).1; omega
                · exact (hF g hg).2 (.inr h)⟩) (vk.below (hb4 ob)) (by show qg + totP kid ≤ 10000000; omega) (by omega)
              unfold PlP at hih
              obtain ⟨⟨ra, rg, ro⟩, hr⟩ : ∃ r, plantT kid I qg qo = r := ⟨_, rfl⟩
              dsimp only at hih
              rw [hr] at hih htk e1 e2 e3 e4
              dsimp only at hih htk e1 e2 e3 e4
              unfold ndV at hih
              have HIH := Lib.hid hih
              have HTK := Lib.hid htk
              have hxw := (Array.getElem?_eq_some_iff.1 HK.out.xo).1
              have hz0 : (0 : Int) ≤ (k : Int) := by omega
              have hz1 : (k : Int) < (t.ks.length : Int) := by omega
              have hqi : qi.length ≤ 10000000 := by omega
              have HLT := Lib.hid hlt
              clear hnr hks hnk hih vk htk hr hq hb4 hcn hck
              by_cases h0 : ra = 0
              · subst h0
                go_wp2_with (first
                  | (go_at_call 21
                     refine (HIH.out _).mono ?_
                     rintro e w5 ⟨rfl, o5, Z5, v5, b5, d5⟩
                     have P5 := Lib.hid ((P4.out _).after a1 a2 a3 a4 a5 o5 v5 b5 d5)
                     clear o5 v5 b5 d5))
                refine ⟨⟨k + 1, .slice ou qi.length ju, v, by go_num, HLT.out, Lib.hid ?_⟩, by have := HLT.out; simp [RowKit.intOf]; omega⟩
                rw [HTK.out, if_pos (by trivial), List.append_nil]
                exact P5.out
              · have hb0 : (ra == 0) = false := beq_eq_false_iff_ne.2 h0
                have H0 := Lib.hid h0
                clear h0
                go_wp2_with (first
                  | (go_at_call 21
                     refine (HIH.out _).mono ?_
                     rintro e w5 ⟨rfl, o5, Z5, v5, b5, d5⟩
                     have P5 := Lib.hid ((P4.out _).after a1 a2 a3 a4 a5 o5 v5 b5 d5)
                     have hs5 := o5.1.size
                     rw [World.size_alloc] at hs5
                     obtain ⟨⟨_, _, _, _, x4, _, _⟩, xf⟩ := rc_blk P5.out.xo
                     have xf4 := xf 4
                     have hw5 := (Array.getElem?_eq_some_iff.1 P5.out.xo).1
                     clear o5 v5 b5 d5 xf)
                  | (at_builtin
                     refine wpList_pushInt rfl (.tmp 80) (.tmp 82) rfl ra P5.out.ou rfl (by simp [Act.eval]) (by omega) (by omega) ?_
                     intro u7 w7 q1 q2 q3 q4
                     have c7 := (World.cell?_of_block (w := w5) (w' := w7) (a := ⟨X, 4, none⟩) (q3 X hw5 (fun e => by have := (P5.out.ou.blk e.symm).1; omega))).trans x4
                     have f7 := (World.frozen?_of_block (w := w5) (w' := w7) (a := ⟨X, 4, none⟩) (q3 X hw5 (fun e => by have := (P5.out.ou.blk e.symm).1; omega))).trans xf4
                     have P7 := Lib.hid (P5.out.pushU q1 q2 q3 q4)
                     obtain ⟨o7, j7, rfl⟩ := q1.form
                     rw [List.length_append, List.length_singleton] at P7
                     clear q1 q2 q3 q4)
                  | go_in)
                refine ⟨⟨k + 1, .slice o7 (qi.length + 1) j7, v, by go_num, HLT.out, Lib.hid ?_⟩, by have := HLT.out; simp [RowKit.intOf]; omega⟩
                rw [HTK.out, if_neg H0.out]
                exact P7.out
            · have ek : k = t.ks.length := by omega
              subst ek
              rw [List.take_length] at HK
              obtain ⟨q, hq⟩ : ∃ q, plantK t.ks I g1 own1 = q := ⟨_, rfl⟩
              obtain ⟨s1, s2, s3, s4⟩ := plantK_spec t.ks I g1 own1
              rw [hq] at HK s1 s2 s3 s4
              obtain ⟨qi, qg, qo⟩ := q
              dsimp only at HK s1 s2 s3 s4
              obtain ⟨Zk, vk, a1, a2, a3, a4, a5⟩ := HK.out.vs
              obtain ⟨ou, ju, huu⟩ := HK.out.ou.form
              obtain ⟨ov, jv, hvv⟩ := HK.out.ov.form
              subst huu hvv
              obtain ⟨⟨x0, x1, x2, x3, x4, x5, x6⟩, _⟩ := rc_blk HK.out.xo
              dsimp only at x0 x1 x2 x3 x4 x5 x6
              have hail : ai.length = t.ats.length := by rw [← HAI.out, atIds_len]
              have hou := HK.out.ou.on (F := fun _ => True) (fun _ _ => trivial)
              have hov := HK.out.ov.on (F := fun _ => True) (fun _ _ => trivial)
              have hI1 : 1 ≤ I ∧ I ≤ 10000001 := by have := HII.out; omega
              have hpt := vs_put vk (by omega) I (wf_7 (by omega) (by omega)) (⟨t.kd, t.nm, t.tx, mp, qi, ai, false⟩, .slice ou qi.length ju, .slice ov ai.length jv) (F := fun _ => True) ⟨hou, hov⟩ ⟨by show qi.length ≤ 2 ^ 44; omega, by show ai.length ≤ 2 ^ 44; omega⟩
              have hor : rightR ⟨t.kd, t.nm, t.tx, mp, qi, ai, false⟩ = true := by
                unfold rightR
                have k1 : decide (1 ≤ t.kd) = true ∧ decide (t.kd ≤ 6) = true := by
                  have hk := HAK.out
                  unfold aloneK at hk
                  simp at hk
                  exact ⟨decide_eq_true (by omega), decide_eq_true (by omega)⟩
                have k2 : (qi.any fun k => decide (k < 1)) = false := List.any_eq_false.2 fun z hz => by have := s4 z hz; simp; omega
                have k3 : (ai.any fun k => decide (k < 1)) = false := List.any_eq_false.2 fun z hz => by
                  rw [← HAI.out] at hz
                  have := atIds_mem hz
                  simp; omega
                dsimp only
                rw [if_neg (by simp), k1.1, k1.2, k2, k3, decide_eq_true (by omega : 0 ≤ mp)]
                rfl
              obtain ⟨pe, po⟩ := put_ok (own := qo) hI1.1 hor
              unfold rcV at hpt
              dsimp only at hpt
              have HPT := Lib.hid hpt
              have PO := Lib.hid po
              have HQ := Lib.hid hq
              have HONLY := Lib.hid HK.out.only
              clear hpt pe po hor hq vk hou hov hail
              go_wp2_with (first
                | (go_at_call 23
                   refine HPT.out.mono ?_
                   rintro e w6 ⟨rfl, o6, Z6, v6, b6, c6⟩))
              go_ret
              have hY := HYES.out
              rw [HII.out, HOWN1.out, HG1.out, HQ.out, HAI.out, hmp] at hY
              dsimp only at hY
              refine ⟨by rw [hY]; rfl, HONLY.out.trans (o6.weak (O' := fun g => Zk g ∨ Z1 g) (fun _ _ h => .inl h)) fun i hi ho => ?_, Z6, ?_, fun g hg => b6 g (a1 g hg), fun g hg => ?_⟩
              · rcases ho with ho | ho
                · exact (a2 i ho).elim .inl (fun q => by omega)
                · exact .inr ho
              · rw [hY]
                rw [PO.out] at v6
                exact v6
              · rcases c6 g hg with q | q
                · exact a2 g q
                · exact .inr (Nat.le_trans HONLY.out.1.size q)
end
end Go.Proofs.Ytkackejipgabfaa.Char

/- The document's own store in memory, its records' lists in any blocks that are not its own. -/
namespace Go.Proofs.Ytkackejipgabfaa.Char
open Go.RowKit Go.Lib

/-- the document's store at b; its records' lists lie in blocks of which F holds -/
structure RefG (F : Nat → Prop) (B : Nat) (w : World) (b : Nat) (v : Value) (xs : List OnV) (gv lt : Nat) : Prop where
  cell : w.heap[b]? = some (.cells #[v, .int .i64 (gv : Int), .int .u64 (lt : Int)] 153 (0, 0))
  row : OwnsOn B w F v xs
  low : B ≤ b
  sep : ∀ g, F g → ¬ ownB b v g
  fb : ∀ g, F g → g < w.heap.size
section
variable {F : Nat → Prop} {B : Nat} {w : World} {b : Nat} {v : Value} {xs : List OnV} {gv la : Nat}
theorem RefG.ne (h : RefG F B w b v xs gv la) : v.ownBlock ≠ some b := fun e => by
  obtain ⟨_, _, cur, hc⟩ := h.row.blk e
  rw [h.cell] at hc
  simp only [Option.some.injEq, Obj.cells.injEq] at hc
  exact absurd hc.2.1 (by decide)
theorem RefG.lt (h : RefG F B w b v xs gv la) : b < w.heap.size := (Array.getElem?_eq_some_iff.1 h.cell).1
theorem RefG.cells (h : RefG F B w b v xs gv la) :
    w.cell? ⟨b, 0, none⟩ = some v ∧ w.cell? ⟨b, 1, none⟩ = some (.int .i64 (gv : Int)) ∧ w.cell? ⟨b, 2, none⟩ = some (.int .u64 (la : Int)) ∧ ∀ i, w.frozen? ⟨b, i, none⟩ = false :=
  ⟨by simp [World.cell?, h.cell], by simp [World.cell?, h.cell], by simp [World.cell?, h.cell], fun i => by simp [World.frozen?, h.cell]⟩
theorem RefG.move (h : RefG F B w b v xs gv la) {w' : World} (ho : ∀ k, ownB b v k → w'.heap[k]? = w.heap[k]?) (hm : ∀ k, F k → w'.heap[k]? = w.heap[k]?) (hs : w.heap.size ≤ w'.heap.size) : RefG F B w' b v xs gv la :=
  ⟨(ho b (.inl rfl)).trans h.cell, h.row.move (fun g hg => ho g (.inr hg)) (fun k _ hk => ⟨hk, hm k hk⟩), h.low, h.sep, fun g hg => Nat.lt_of_lt_of_le (h.fb g hg) hs⟩
theorem RefG.own (h : RefG F B w b v xs gv la) {k : Nat} (hk : ownB b v k) : B ≤ k ∧ k < w.heap.size := by
  rcases hk with rfl | hk
  · exact ⟨h.low, h.lt⟩
  · exact ⟨(h.row.blk hk).1, (h.row.blk hk).2.1⟩
theorem RefG.below (h : RefG F B w b v xs gv la) {w' : World} (hb : Below w.heap.size w w') : RefG F B w' b v xs gv la :=
  h.move (fun k hk => hb.block k (h.own hk).2) (fun k hk => hb.block k (h.fb k hk)) hb.size
/-- other records may lie elsewhere -/
theorem RefG.weak (h : RefG F B w b v xs gv la) {F' : Nat → Prop} (hF : ∀ g, F g → F' g) (hs : ∀ g, F' g → ¬ ownB b v g) (hb : ∀ g, F' g → g < w.heap.size) : RefG F' B w b v xs gv la :=
  ⟨h.cell, h.row.move (fun _ _ => rfl) (fun k _ hk => ⟨hF k hk, rfl⟩), h.low, hs, hb⟩
theorem RefG.low' (h : RefG F B w b v xs gv la) : B ≤ w.heap.size := Nat.le_trans h.low (Nat.le_of_lt h.lt)
set_option maxRecDepth 100000 in
set_option maxHeartbeats 4000000 in
theorem refG_fresh (h : RefG F B w b v xs gv la) (hg : gv ≤ 100000000) :
    Calls Try.prog 75 #[.pointer (some ⟨b, 0, none⟩)] w fun e w' => e = .returned (.int .i64 ((gv + 1 : Nat) : Int)) ∧ RefG F B w' b v xs (gv + 1) la ∧ w'.heap.size = w.heap.size ∧ Only B (fun k => k = b) w w' := by
  have H := Lib.hid h
  obtain ⟨c0, c1, c2, cf⟩ := h.cells
  have c3 := cf 1
  clear h cf
  go_enter Try.func75, Try.ntmps75
  go_wp2_with fail
  go_ret
  have h := H.out
  have hne : ∀ k, k ≠ b → (w.setCell ⟨b, 1, none⟩ (.int .i64 ((gv : Int) + 1))).heap[k]? = w.heap[k]? := fun k hk => heap_set_ne (a := ⟨b, 1, none⟩) hk
  have hb : Below B w (w.setCell ⟨b, 1, none⟩ (.int .i64 ((gv : Int) + 1))) := (Below.refl _ _).setCell (p := ⟨b, 1, none⟩) h.low _
  refine ⟨rfl, ⟨heap_set_at h.cell, h.row.move (fun g hg => hne g fun e => h.ne (by rw [← e]; exact hg)) (fun k hk hF => ⟨hF, hne k (fun e => h.sep k hF (.inl e))⟩), h.low, h.sep, fun g hg => by rw [World.size_setCell]; exact h.fb g hg⟩, World.size_setCell .., hb, fun k _ hn => hne k fun e => hn e⟩
end
/-- the document's new store -/
theorem RefG.start {B : Nat} {w : World} {b : Nat} {v : Value} {xs : List OnV} {gv lt : Nat} (h : RefS B w b v xs gv lt) : RefG (fun g => g < B) B w b v xs gv lt :=
  ⟨h.cell, h.row, h.low, fun g hg ho => by
    have hg' : g < B := hg
    have := (h.own ho).1; omega, fun g hg => by
    have hg' : g < B := hg
    have := h.low
    have := h.lt; omega⟩
end Go.Proofs.Ytkackejipgabfaa.Char

/- The document's own view in memory; the walk of its Lay. -/
namespace Go.Proofs.Ytkackejipgabfaa.Char
open Go.RowKit Go.Lib

def chC (x : ChV) : List Value := .int .i64 x.1 :: rcC x.2
def chsC (xs : List ChV) : List Value := xs.flatMap chC
theorem chsC_snoc (xs : List ChV) (x : ChV) : chsC (xs ++ [x]) = chsC xs ++ chC x := by simp [chsC]
theorem chsC_at : ∀ (xs : List ChV) (k i : Nat) (h : k < xs.length) (_ : i < 8), (chsC xs)[k * 8 + i]? = (chC xs[k])[i]?
  | [], k, _, h, _ => by simp at h
  | x :: r, 0, i, _, hi => by
    show (chC x ++ chsC r)[0 * 8 + i]? = _
    rw [show 0 * 8 + i = i by omega, List.getElem?_append_left (by show i < 8; exact hi)]
    rfl
  | x :: r, k + 1, i, h, hi => by
    have ih := chsC_at r k i (by simpa using h) hi
    show (chC x ++ chsC r)[(k + 1) * 8 + i]? = _
    rw [List.getElem?_append_right (by show 8 ≤ _; omega), show (k + 1) * 8 + i - (chC x).length = k * 8 + i by show (k + 1) * 8 + i - 8 = _; omega, ih]
    rfl
def OwnsCh (B : Nat) (w : World) (v : Value) (xs : List ChV) : Prop := w.ownsRow B 56 8 v xs.length (chsC xs)
theorem OwnsCh.nil (B : Nat) (w : World) : OwnsCh B w (.slice none 0 0) [] := World.ownsRow_nil _ _ _ _
theorem OwnsCh.keep {B : Nat} {w w' : World} {v : Value} {xs : List ChV} (h : OwnsCh B w v xs) (hk : ∀ g, v.ownBlock = some g → w'.heap[g]? = w.heap[g]?) : OwnsCh B w' v xs := by
  obtain ⟨h1, h2⟩ := h
  refine ⟨h1, ?_⟩
  rcases h2 with h0 | ⟨g, cap, cur, e1, e2, hg, e3⟩
  · exact .inl h0
  · exact .inr ⟨g, cap, cur, e1, e2, (hk g (by rw [e1]; rfl)).trans hg, e3⟩
theorem OwnsCh.blk {B : Nat} {w : World} {v : Value} {xs : List ChV} (h : OwnsCh B w v xs) {g : Nat} (hg : v.ownBlock = some g) : B ≤ g ∧ g < w.heap.size := World.ownsRow.lt h g hg
theorem OwnsCh.cellT {B : Nat} {w : World} {v : Value} {xs : List ChV} (h : OwnsCh B w v xs) {g : Nat} (hg : v.ownBlock = some g) : ∃ cur, w.heap[g]? = some (.cells cur 56 (0, 0)) := by
  rcases h.2 with ⟨h1, _⟩ | ⟨g', cap, cur, e1, e2, hg', e3⟩
  · rw [h1] at hg; cases hg
  · rw [e1] at hg
    obtain rfl : g' = g := by simpa [Value.ownBlock] using hg
    exact ⟨cur, hg'⟩
theorem OwnsCh.form {B : Nat} {w : World} {v : Value} {xs : List ChV} (h : OwnsCh B w v xs) : ∃ o j, v = .slice o xs.length j := by
  rcases h.2 with ⟨h0, h1⟩ | ⟨g, cap, cur, e1, _⟩
  · exact ⟨none, 0, by rw [h0, ← h1]⟩
  · exact ⟨_, _, e1⟩
/-- as changes that can be read -/
theorem OwnsCh.on {B : Nat} {w : World} {F G : Nat → Prop} {v : Value} {xs : List ChV} (h : OwnsCh B w v xs) (hF : ∀ g, v.ownBlock = some g → G g) (hr : ∀ x, x ∈ xs → RcOn w F x.2) (hFG : ∀ g, F g → G g) : ChsOn w G v xs := by
  refine ⟨?_, fun x hx => (hr x hx).move fun g _ hg => ⟨hFG g hg, rfl⟩⟩
  have h0 := h
  rcases h.2 with ⟨h1, h2⟩ | ⟨g, cap, cur, e1, e2, hg, e3⟩
  · exact ⟨none, 0, 0, h1, h2.symm, .inl (List.eq_nil_of_length_eq_zero h2)⟩
  · refine ⟨_, _, _, e1, rfl, .inr ⟨g, 0, rfl, hF g (by rw [e1]; rfl), fun k hk => ?_⟩⟩
    have hc := World.ownsRow.cells h0 (g := g) (by rw [e1]; rfl)
    have key : ∀ n, n < 8 → ∀ u, (chC xs[k])[n]? = some u → w.cell? ⟨g, k * 8 + n, none⟩ = some u := fun n hn u hu => by
      have := hc (k * 8 + n) u ((chsC_at xs k n hk hn).trans hu)
      rwa [Addr.add_lit, Nat.zero_add] at this
    rw [Nat.zero_add]
    exact ⟨key 0 (by omega) _ rfl, key 1 (by omega) _ rfl, key 2 (by omega) _ rfl, key 3 (by omega) _ rfl, key 4 (by omega) _ rfl, key 5 (by omega) _ rfl, key 6 (by omega) _ rfl, key 7 (by omega) _ rfl⟩
theorem info_chg : (Try.prog.info? 56).map (fun i => (i.zero, i.size, i.bytes)) = some (some (.agg #[.int .i64 0, .int .i64 0, .string ⟨#[]⟩, .string ⟨#[]⟩, .int .i64 0, .slice none 0 0, .slice none 0 0, .bool false]), 8, 112) := by kernel_rfl
/-- one change more, behind what one's own slice holds -/
theorem wpList_pushCh {ops : Array Oper} {rest : List Oper} {o : Oper} {a : Act} {Q : Exit → Act → World → Prop} {B : Nat} {W : World} {v : Value} {xs : List ChV}
    (hgd : o.guard = none) (s x : Operand) (ho : o.op = .call { callee := .builtin .append, args := #[s, x], argTypes := #[50, 50] })
    (id : Int) (r : Rc) (ok : Option Addr) (ik jk : Nat) (oa : Option Addr) (ia ja : Nat) (hown : OwnsCh B W v xs) (hs : a.eval s = v) (hx : a.eval x = .slice (some ⟨W.heap.size, 0, none⟩) 1 1) (hB : B ≤ W.heap.size) (hlen : xs.length ≤ 100000000)
    (h : ∀ v' w1, OwnsCh B w1 v' (xs ++ [(id, r, .slice ok ik jk, .slice oa ia ja)]) → Below B W w1 → (∀ k, k < W.heap.size → some k ≠ v.ownBlock → w1.heap[k]? = W.heap[k]?) → (∀ g, v'.ownBlock = some g → v.ownBlock = some g ∨ W.heap.size ≤ g) → wpList Try.prog ops Q rest (a.put o.dst v') w1) :
    wpList Try.prog ops Q (o :: rest) a (W.alloc (.cells #[.int .i64 id, .int .i64 r.kd, .string (bs r.nm), .string (bs r.tx), .int .i64 r.pa, .slice ok ik jk, .slice oa ia ja, .bool r.gone] 56)) := by
  refine wpList_push info_chg Try.underlying50 rfl (by decide) (by decide) hgd s x ho (chC (id, r, .slice ok ik jk, .slice oa ia ja)) rfl ?_ hown hs hx hB (by omega) fun v' w1 h1 h2 h3 h4 => ?_
  · intro u hu
    simp [chC, rcC] at hu
    rcases hu with rfl | rfl | rfl | rfl | rfl | rfl | rfl | rfl <;> rfl
  · refine h v' w1 ?_ h2 h3 h4
    unfold OwnsCh
    rw [List.length_append, chsC_snoc]
    exact h1
/-- the document's view at b, of the store at d, at the time t; its changes stand in a row of its own -/
structure RW (F : Nat → Prop) (B : Nat) (w : World) (b d t : Nat) (v : Value) (cs : List ChV) : Prop where
  cell : w.heap[b]? = some (.cells #[.pointer (some ⟨d, 0, none⟩), .int .u64 (t : Int), v] 94 (0, 0))
  row : OwnsCh B w v cs
  on : ∀ x, x ∈ cs → RcOn w F x.2
  low : B ≤ b
  sep : ∀ g, F g → g ≠ b ∧ v.ownBlock ≠ some g
  fb : ∀ g, F g → g < w.heap.size
section
variable {F : Nat → Prop} {B : Nat} {w : World} {b d t : Nat} {v : Value} {cs : List ChV}
theorem RW.ltb (h : RW F B w b d t v cs) : b < w.heap.size := (Array.getElem?_eq_some_iff.1 h.cell).1
theorem RW.ne (h : RW F B w b d t v cs) : v.ownBlock ≠ some b := fun e => by
  obtain ⟨cur, hc⟩ := h.row.cellT e
  rw [h.cell] at hc
  simp only [Option.some.injEq, Obj.cells.injEq] at hc
  exact absurd hc.2.1 (by decide)
theorem RW.cells (h : RW F B w b d t v cs) : w.cell? ⟨b, 0, none⟩ = some (.pointer (some ⟨d, 0, none⟩)) ∧ w.cell? ⟨b, 1, none⟩ = some (.int .u64 (t : Int)) ∧ w.cell? ⟨b, 2, none⟩ = some v ∧ ∀ i, w.frozen? ⟨b, i, none⟩ = false :=
  ⟨by simp [World.cell?, h.cell], by simp [World.cell?, h.cell], by simp [World.cell?, h.cell], fun i => by simp [World.frozen?, h.cell]⟩
theorem RW.move (h : RW F B w b d t v cs) {w' : World} (hk : ∀ g, g = b ∨ v.ownBlock = some g ∨ F g → w'.heap[g]? = w.heap[g]?) (hs : w.heap.size ≤ w'.heap.size) : RW F B w' b d t v cs :=
  ⟨(hk b (.inl rfl)).trans h.cell, h.row.keep fun g hg => hk g (.inr (.inl hg)), fun x hx => (h.on x hx).move fun g _ hg => ⟨hg, hk g (.inr (.inr hg))⟩, h.low, h.sep, fun g hg => Nat.lt_of_lt_of_le (h.fb g hg) hs⟩
theorem RW.below (h : RW F B w b d t v cs) {w' : World} (hb : Below w.heap.size w w') : RW F B w' b d t v cs := h.move (fun g hg => hb.block g (by
  rcases hg with rfl | hg | hg
  · exact h.ltb
  · exact (h.row.blk hg).2
  · exact h.fb g hg)) hb.size
theorem RW.weak (h : RW F B w b d t v cs) {F' : Nat → Prop} (hF : ∀ g, F g → F' g) (hs : ∀ g, F' g → g ≠ b ∧ v.ownBlock ≠ some g) (hb : ∀ g, F' g → g < w.heap.size) : RW F' B w b d t v cs :=
  ⟨h.cell, h.row, fun x hx => (h.on x hx).move fun g _ hg => ⟨hF g hg, rfl⟩, h.low, hs, hb⟩
end
/-- Lay, change by change: what stands there now, and whether it has been laid -/
def layS (c0 : ChV) (s : List ChV × Bool) (c : ChV) : List ChV × Bool :=
  let s1 := if !s.2 && decide (c0.1 ≤ c.1) then (s.1 ++ [c0], true) else s
  (if c.1 = c0.1 then s1.1 else s1.1 ++ [c], s1.2)
def layF (c0 : ChV) (cs : List ChV) : List ChV × Bool := cs.foldl (layS c0) ([], false)
def layE (c0 : ChV) (cs : List ChV) : List ChV := if (layF c0 cs).2 = true then (layF c0 cs).1 else (layF c0 cs).1 ++ [c0]
theorem layF_snoc (c0 : ChV) (cs : List ChV) (c : ChV) : layF c0 (cs ++ [c]) = layS c0 (layF c0 cs) c := by simp [layF]
theorem layF_spec (c0 : ChV) : ∀ cs : List ChV, (cs.map toCh).Pairwise (fun a b => a.1 < b.1) →
    (layF c0 cs).2 = (cs.any fun c => decide (c0.1 ≤ c.1)) ∧ (layF c0 cs).1 = (cs.filter fun c => decide (c.1 < c0.1)) ++ (if (layF c0 cs).2 = true then c0 :: (cs.filter fun c => decide (c0.1 < c.1)) else []) := by
  intro cs
  induction hn : cs.length generalizing cs with
  | zero => intro _; have := List.eq_nil_of_length_eq_zero hn; subst this; exact ⟨rfl, rfl⟩
  | succ n ih =>
    intro hp
    obtain ⟨ds, c, rfl⟩ : ∃ ds c, cs = ds ++ [c] := ⟨cs.dropLast, cs.getLast (by intro e; rw [e] at hn; cases hn), (List.dropLast_concat_getLast _).symm⟩
    rw [List.length_append, List.length_singleton] at hn
    rw [List.map_append, List.pairwise_append] at hp
    obtain ⟨h1, h2⟩ := ih ds (by omega) hp.1
    have hlast : ∀ x, x ∈ ds → x.1 < c.1 := fun x hx => hp.2.2 (toCh x) (List.mem_map_of_mem hx) (toCh c) (by simp)
    rw [layF_snoc]
    unfold layS
    rw [List.any_append, List.filter_append, List.filter_append]
    obtain ⟨l, bl, hlb⟩ : ∃ l bl, layF c0 ds = (l, bl) := ⟨_, _, rfl⟩
    rw [hlb] at h1 h2 ⊢
    dsimp only at h1 h2 ⊢
    cases bl with
    | true =>
      obtain ⟨y, hy, hyc⟩ := List.any_eq_true.1 h1.symm
      have := hlast y hy
      have hyc := of_decide_eq_true hyc
      have e1 : ¬ c.1 = c0.1 := by omega
      rw [if_pos rfl] at h2
      have q1 : ¬ c.1 < c0.1 := by omega
      have q2 : c0.1 < c.1 := by omega
      rw [if_neg e1, h2, ← h1]
      simp [q1, q2]
    | false =>
      rw [if_neg (by simp), List.append_nil] at h2
      have hno : ∀ x, x ∈ ds → ¬ c0.1 < x.1 := fun x hx hh => by
        have := List.any_eq_false.1 h1.symm x hx
        simp at this
        omega
      have hds : (ds.filter fun c => decide (c0.1 < c.1)) = [] := List.filter_eq_nil_iff.2 fun x hx => by simpa using hno x hx
      rw [hds, h2, ← h1]
      by_cases hc : c0.1 ≤ c.1
      · have q1 : ¬ c.1 < c0.1 := by omega
        by_cases he : c.1 = c0.1
        · have q2 : ¬ c0.1 < c.1 := by omega
          rw [if_pos he]
          simp [hc, q1, q2]
        · have q2 : c0.1 < c.1 := by omega
          rw [if_neg he]
          simp [hc, q1, q2]
      · have he : ¬ c.1 = c0.1 := by omega
        have q1 : c.1 < c0.1 := by omega
        rw [if_neg he]
        simp [hc, q1]
theorem layE_spec (c0 : ChV) (cs : List ChV) (h : upO (cs.map toCh)) : (layE c0 cs).map toCh = layO (cs.map toCh) c0.1 c0.2.1 := by
  obtain ⟨h1, h2⟩ := layF_spec c0 cs h
  unfold layE layO
  rw [List.filter_map, List.filter_map]
  cases hl : (layF c0 cs).2 with
  | true =>
    rw [hl, if_pos rfl] at h2
    rw [if_pos rfl, h2, List.map_append, List.map_cons]
    rfl
  | false =>
    rw [hl, if_neg (by simp), List.append_nil] at h2
    rw [if_neg (by simp), h2, List.map_append]
    have : (cs.filter fun c => decide (c0.1 < c.1)) = [] := List.filter_eq_nil_iff.2 fun x hx => by
      have := List.any_eq_false.1 (h1.symm.trans hl) x hx
      simp at this ⊢
      omega
    show _ = _ ++ _ :: List.map toCh (cs.filter fun c => decide (c0.1 < c.1))
    rw [this]
    rfl
theorem layF_mem (c0 : ChV) : ∀ (cs : List ChV) (x : ChV), x ∈ (layF c0 cs).1 → x = c0 ∨ x ∈ cs := by
  intro cs
  induction hn : cs.length generalizing cs with
  | zero => intro x hx; have := List.eq_nil_of_length_eq_zero hn; subst this; cases hx
  | succ n ih =>
    intro x hx
    obtain ⟨ds, c, rfl⟩ : ∃ ds c, cs = ds ++ [c] := ⟨cs.dropLast, cs.getLast (by intro e; rw [e] at hn; cases hn), (List.dropLast_concat_getLast _).symm⟩
    rw [List.length_append, List.length_singleton] at hn
    have ih := ih ds (by omega)
    rw [layF_snoc] at hx
    unfold layS at hx
    have key : x ∈ (if !(layF c0 ds).2 && decide (c0.1 ≤ c.1) then ((layF c0 ds).1 ++ [c0], true) else layF c0 ds).1 → x = c0 ∨ x ∈ ds ++ [c] := fun h => by
      split at h
      · rcases List.mem_append.1 h with h | h
        · exact (ih x h).imp id (List.mem_append_left _)
        · exact .inl (List.mem_singleton.1 h)
      · exact (ih x h).imp id (List.mem_append_left _)
    dsimp only at hx
    split at hx
    · exact key hx
    · rcases List.mem_append.1 hx with h | h
      · exact key h
      · exact .inr (List.mem_append_right _ h)
theorem layE_mem {c0 : ChV} {cs : List ChV} {x : ChV} (h : x ∈ layE c0 cs) : x = c0 ∨ x ∈ cs := by
  unfold layE at h
  split at h
  · exact layF_mem c0 cs x h
  · rcases List.mem_append.1 h with h | h
    · exact layF_mem c0 cs x h
    · exact .inl (List.mem_singleton.1 h)
theorem layF_len (c0 : ChV) : ∀ cs : List ChV, (layF c0 cs).1.length ≤ 2 * cs.length := by
  intro cs
  induction hn : cs.length generalizing cs with
  | zero => have := List.eq_nil_of_length_eq_zero hn; subst this; exact Nat.le_refl _
  | succ n ih =>
    obtain ⟨ds, c, rfl⟩ : ∃ ds c, cs = ds ++ [c] := ⟨cs.dropLast, cs.getLast (by intro e; rw [e] at hn; cases hn), (List.dropLast_concat_getLast _).symm⟩
    rw [List.length_append, List.length_singleton] at hn
    have ih := ih ds (by omega)
    rw [layF_snoc]
    unfold layS
    dsimp only
    split <;> split <;> simp <;> omega
end Go.Proofs.Ytkackejipgabfaa.Char
