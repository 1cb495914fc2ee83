/- PlantJ PlantW PutW Two WsInst NewV VsInst -/
import Derived.Test.YtkackejipgabfaaPk07
import Derived.Test.YtkackejipgabfaaPk06
import Derived.StillTailTactics
import Derived.Deep.CutBlock
import Derived.Deep.DeepCutAuto
import Derived.Test.YtkackejipgabfaaPk05
/- What the loops of the document's own Plant keep. -/
namespace Go.Proofs.Ytkackejipgabfaa.Char
open Go.RowKit Go.Lib

structure PLD (Z Z1 : Nat → Prop) (B : Nat) (w : World) (b sb tm : Nat) (node : Obj) (xb : Nat) (r0 : Rc) (S' : Sto) (own' : Own) (ks as' : List Int) (u v : Value) (wr : World) : Prop where
  vs : ∃ Z', WS Z' Z1 B wr b sb tm S' own' ∧ (∀ g, Z g → Z' g) ∧ (∀ g, Z' g → Z g ∨ w.heap.size ≤ g) ∧ ¬ Z' w.heap.size ∧ ¬ Z' xb ∧ ∀ g, u.ownBlock = some g ∨ v.ownBlock = some g → ¬ Z' g
  only : Only B (fun g => Z g ∨ Z1 g) w wr
  nb : wr.heap[w.heap.size]? = some node
  xo : wr.heap[xb]? = some (rcB (r0, u, v))
  ou : OwnsInt (xb + 1) wr u ks
  ov : OwnsInt (xb + 1) wr v as'
  ne : ∀ g, u.ownBlock = some g → v.ownBlock ≠ some g
  xlt : w.heap.size < xb
  z1 : ∀ g, Z1 g → g < w.heap.size
  bw : B ≤ w.heap.size
section
variable {Z Z1 : Nat → Prop} {B : Nat} {w : World} {b sb tm : Nat} {node : Obj} {xb : Nat} {r0 : Rc} {S' : Sto} {own' : Own} {ks as' : List Int} {u v : Value} {wr : World}
theorem PLD.after (h : PLD Z Z1 B w b sb tm node xb r0 S' own' ks as' u v wr) {Z' Z'' : Nat → Prop} (a1 : ∀ g, Z g → Z' g) (a2 : ∀ g, Z' g → Z g ∨ w.heap.size ≤ g) (a3 : ¬ Z' w.heap.size) (a4 : ¬ Z' xb) (a5 : ∀ g, u.ownBlock = some g ∨ v.ownBlock = some g → ¬ Z' g)
    {w' : World} {S'' : Sto} {own'' : Own} (ho : Only B (fun g => Z' g ∨ Z1 g) wr w') (hvs : WS Z'' Z1 B w' b sb tm S'' own'') (b1 : ∀ g, Z' g → Z'' g) (b2 : ∀ g, Z'' g → Z' g ∨ wr.heap.size ≤ g) : PLD Z Z1 B w b sb tm node xb r0 S'' own'' ks as' u v w' := by
  have hs := h.only.1.size
  have hx : xb < wr.heap.size := (Array.getElem?_eq_some_iff.1 h.xo).1
  have hxl := h.xlt
  have hz1 := h.z1
  have keep : ∀ g, g < wr.heap.size → w.heap.size ≤ g → ¬ Z' g → w'.heap[g]? = wr.heap[g]? := fun g h1 h2 h3 => ho.2 g h1 (fun q => q.elim h3 (fun q => by have := hz1 g q; omega))
  have ku : ∀ g, u.ownBlock = some g ∨ v.ownBlock = some g → g < wr.heap.size ∧ w.heap.size ≤ g := fun g hg => by
    rcases hg with hg | hg
    · have := h.ou.blk hg; omega
    · have := h.ov.blk hg; omega
  have notZ : ∀ g, g < wr.heap.size → ¬ Z' g → ¬ Z'' g := fun g h1 h2 h3 => (b2 g h3).elim h2 (fun q => by omega)
  refine ⟨⟨Z'', hvs, fun g hg => b1 g (a1 g hg), fun g hg => (b2 g hg).elim (a2 g) (fun q => .inr (by omega)), notZ _ (by omega) a3, notZ _ hx a4, fun g hg => notZ g (ku g hg).1 (a5 g hg)⟩, h.only.trans ho fun i hi hoi => ?_, (keep _ (by omega) (Nat.le_refl _) a3).trans h.nb, (keep _ hx (by omega) a4).trans h.xo,
    h.ou.keep fun g hg => keep g (ku g (.inl hg)).1 (ku g (.inl hg)).2 (a5 g (.inl hg)), h.ov.keep fun g hg => keep g (ku g (.inr hg)).1 (ku g (.inr hg)).2 (a5 g (.inr hg)), h.ne, h.xlt, h.z1, h.bw⟩
  rcases hoi with q | q
  · exact (a2 i q).elim .inl (fun q => by omega)
  · exact .inr q
theorem PLD.stay (h : PLD Z Z1 B w b sb tm node xb r0 S' own' ks as' u v wr) {w' : World} (hb : Below wr.heap.size wr w') : PLD Z Z1 B w b sb tm node xb r0 S' own' ks as' u v w' := by
  obtain ⟨Z', q1, q2, q3, q4, q5, q6⟩ := h.vs
  exact h.after q2 q3 q4 q5 q6 (Only.of hb q1.lowB) (q1.below hb) (fun _ h => h) (fun _ h => .inl h)
theorem PLD.pushV (h : PLD Z Z1 B w b sb tm node xb r0 S' own' ks as' u v wr) {w1 : World} {v' : Value} {z : Int} (q1 : OwnsInt (xb + 1) w1 v' (as' ++ [z])) (q2 : Below (xb + 1) wr w1) (q3 : ∀ k, k < wr.heap.size → some k ≠ v.ownBlock → w1.heap[k]? = wr.heap[k]?) (q4 : ∀ g, v'.ownBlock = some g → v.ownBlock = some g ∨ wr.heap.size ≤ g) :
    PLD Z Z1 B w b sb tm node xb r0 S' own' ks (as' ++ [z]) u v' (w1.setCell ⟨xb, 5, none⟩ v') := by
  obtain ⟨Z', a0, a1, a2, a3, a4, a5⟩ := h.vs
  have hs := h.only.1.size
  have hx : xb < wr.heap.size := (Array.getElem?_eq_some_iff.1 h.xo).1
  have hxl := h.xlt
  have hB := a0.lowB
  have hs1 := q2.size
  have hv : ∀ g, v.ownBlock = some g → xb + 1 ≤ g ∧ g < wr.heap.size := fun g hg => h.ov.blk hg
  have keep : ∀ k, k < wr.heap.size → k ≠ xb → v.ownBlock ≠ some k → (w1.setCell ⟨xb, 5, none⟩ v').heap[k]? = wr.heap[k]? := fun k h1 h2 h3 => (heap_set_ne (a := ⟨xb, 5, none⟩) h2).trans (q3 k h1 fun e => h3 e.symm)
  have zl := fun g hg => (a0.zB g hg).2
  have hw0 := h.only.1.size
  have hBw := h.bw
  refine ⟨⟨Z', a0.move (fun g hg => keep g (zl g hg) (fun e => ?_) (fun e => ?_)) (by rw [World.size_setCell]; exact hs1), a1, a2, a3, a4, fun g hg => ?_⟩, ?_, (keep _ (by omega) (by omega) (fun e => by have := hv _ e; omega)).trans h.nb, ?_, h.ou.keep fun g hg => keep g (h.ou.blk hg).2 (fun e => by have := (h.ou.blk hg).1; omega) (h.ne g hg), q1.keep fun g hg => heap_set_ne (a := ⟨xb, 5, none⟩) (by have := (q1.blk hg).1; show g ≠ xb; omega), fun g hg e => ?_, h.xlt, h.z1, h.bw⟩
  · rcases hg with q | q
    · exact a4 (e ▸ q)
    · have := h.z1 g q; omega
  · rcases hg with q | q
    · exact a5 g (.inr e) q
    · have := h.z1 g q; have := hv g e; omega
  · rcases hg with q | q
    · exact a5 g (.inl q)
    · rcases q4 g q with p | p
      · exact a5 g (.inr p)
      · intro hz; have := zl g (.inl hz); omega
  · refine h.only.trans (O' := fun g => g = xb ∨ v.ownBlock = some g) ⟨(q2.mono (Nat.le_trans hBw (by omega : w.heap.size ≤ xb + 1))).setCell (p := ⟨xb, 5, none⟩) (Nat.le_trans hBw (Nat.le_of_lt hxl)) _, fun k h1 h2 => keep k h1 (fun e => h2 (.inl e)) (fun e => h2 (.inr e))⟩ fun i hi ho => ?_
    rcases ho with rfl | ho
    · omega
    · have := hv i ho; omega
  · have hc := (q3 xb hx (fun e => by have := hv xb e.symm; omega)).trans h.xo
    exact rcB_set5 hc v'
  · rcases q4 g e with p | p
    · exact h.ne g hg p
    · have := (h.ou.blk hg).2; omega
theorem PLD.pushU (h : PLD Z Z1 B w b sb tm node xb r0 S' own' ks as' u v wr) {w1 : World} {v' : Value} {z : Int} (q1 : OwnsInt (xb + 1) w1 v' (ks ++ [z])) (q2 : Below (xb + 1) wr w1) (q3 : ∀ k, k < wr.heap.size → some k ≠ u.ownBlock → w1.heap[k]? = wr.heap[k]?) (q4 : ∀ g, v'.ownBlock = some g → u.ownBlock = some g ∨ wr.heap.size ≤ g) :
    PLD Z Z1 B w b sb tm node xb r0 S' own' (ks ++ [z]) as' v' v (w1.setCell ⟨xb, 4, none⟩ v') := by
  obtain ⟨Z', a0, a1, a2, a3, a4, a5⟩ := h.vs
  have hs := h.only.1.size
  have hx : xb < wr.heap.size := (Array.getElem?_eq_some_iff.1 h.xo).1
  have hxl := h.xlt
  have hB := a0.lowB
  have hs1 := q2.size
  have hv : ∀ g, u.ownBlock = some g → xb + 1 ≤ g ∧ g < wr.heap.size := fun g hg => h.ou.blk hg
  have keep : ∀ k, k < wr.heap.size → k ≠ xb → u.ownBlock ≠ some k → (w1.setCell ⟨xb, 4, none⟩ v').heap[k]? = wr.heap[k]? := fun k h1 h2 h3 => (heap_set_ne (a := ⟨xb, 4, none⟩) h2).trans (q3 k h1 fun e => h3 e.symm)
  have zl := fun g hg => (a0.zB g hg).2
  have hw0 := h.only.1.size
  have hBw := h.bw
  refine ⟨⟨Z', a0.move (fun g hg => keep g (zl g hg) (fun e => ?_) (fun e => ?_)) (by rw [World.size_setCell]; exact hs1), a1, a2, a3, a4, fun g hg => ?_⟩, ?_, (keep _ (by omega) (by omega) (fun e => by have := hv _ e; omega)).trans h.nb, ?_, q1.keep fun g hg => heap_set_ne (a := ⟨xb, 4, none⟩) (by have := (q1.blk hg).1; show g ≠ xb; omega), h.ov.keep fun g hg => keep g (h.ov.blk hg).2 (fun e => by have := (h.ov.blk hg).1; omega) (fun e => h.ne g e hg), fun g hg e => ?_, h.xlt, h.z1, h.bw⟩
  · rcases hg with q | q
    · exact a4 (e ▸ q)
    · have := h.z1 g q; omega
  · rcases hg with q | q
    · exact a5 g (.inl e) q
    · have := h.z1 g q; have := hv g e; omega
  · rcases hg with q | q
    · rcases q4 g q with p | p
      · exact a5 g (.inl p)
      · intro hz; have := zl g (.inl hz); omega
    · exact a5 g (.inr q)
  · refine h.only.trans (O' := fun g => g = xb ∨ u.ownBlock = some g) ⟨(q2.mono (Nat.le_trans hBw (by omega : w.heap.size ≤ xb + 1))).setCell (p := ⟨xb, 4, none⟩) (Nat.le_trans hBw (Nat.le_of_lt hxl)) _, fun k h1 h2 => keep k h1 (fun e => h2 (.inl e)) (fun e => h2 (.inr e))⟩ fun i hi ho => ?_
    rcases ho with rfl | ho
    · omega
    · have := hv i ho; omega
  · have hc := (q3 xb hx (fun e => by have := hv xb e.symm; omega)).trans h.xo
    exact rcB_set4 hc v'
  · rcases q4 g hg with p | p
    · exact h.ne g p e
    · have := (h.ov.blk e).2; omega
end
end Go.Proofs.Ytkackejipgabfaa.Char

/- The walk of the document's own Plant. -/
namespace Go.Proofs.Ytkackejipgabfaa.Char
open Go.RowKit Go.Lib

theorem Only.stay {B : Nat} {O : Nat → Prop} {w w' : World} (h : Only B O w w') (g : Nat) (hg : g < w.heap.size) (hn : g < B ∨ ¬ O g) : w'.heap[g]? = w.heap[g]? := hn.elim (h.1.block g) (h.2 g hg)
/-- what is behind the document's Plant -/
def PlQ (Z Z1 : Nat → Prop) (B : Nat) (w : World) (b sb tm : Nat) (S : Sto) (own : Own) (t : Tr) (par : Int) : Ending → World → Prop := fun e w' =>
  e = .returned (.int .i64 (plantT t par S.given own).1) ∧ Only B (fun g => Z g ∨ Z1 g) w w' ∧ ∃ Z', WS Z' Z1 B w' b sb tm { S with given := (plantT t par S.given own).2.1 } (plantT t par S.given own).2.2 ∧ (∀ g, Z g → Z' g) ∧ ∀ g, Z' g → Z g ∨ w.heap.size ≤ g
section
variable {Z1 F : Nat → Prop} {B b sb tm : Nat}
set_option maxRecDepth 100000 in
set_option maxHeartbeats 16000000 in
theorem plantW_any : ∀ (c : Nat) (t : Tr) (va vk : Value) (par : Int) (Z : Nat → Prop) (S : Sto) (own : Own) (w : World), cntT t ≤ c → c ≤ 100000 → NdOn w F t va vk → (∀ g, F g → g < w.heap.size ∧ (g < B ∨ ¬ (Z g ∨ Z1 g))) → WS Z Z1 B w b sb tm S own → S.given + totP t ≤ 10000000 → own.length + totP t ≤ 10000000 →
    Calls Try.prog 43 #[.pointer (some ⟨b, 0, none⟩), ndV t va vk, .int .i64 par] w (PlQ Z Z1 B w b sb tm S own t par) := by
  intro c
  induction c with
  | zero => intro t va vk par Z S own w hc _; have := cntT_pos t; omega
  | succ c ih =>
    intro t va vk par Z S own w hc hc0 hn hF hv hg hl
    have hcn0 := cnt_eq t
    have hkl0 := cntK_len t.ks
    have hkb : t.ks.length ≤ 100000 := by omega
    clear hcn0 hkl0
    obtain ⟨oa, ja, ok, jk, rfl, rfl⟩ := hn.form
    obtain ⟨K, hK⟩ : ∃ K, t.kd = K := ⟨_, rfl⟩
    have HKD := Lib.hid hK
    obtain ⟨W1, hW1⟩ : ∃ W1, W1 = w.alloc (.cells #[.int .i64 K, .string (bs t.nm), .string (bs t.tx), .slice oa t.ats.length ja, .slice ok t.ks.length jk] 25) := ⟨_, rfl⟩
    have hb1 : Below w.heap.size w W1 := by rw [hW1]; exact (Below.refl _ _).alloc (Nat.le_refl _) _
    have hs1 : W1.heap.size = w.heap.size + 1 := by rw [hW1]; simp
    have hk1 : W1.heap[w.heap.size]? = some (.cells #[.int .i64 K, .string (bs t.nm), .string (bs t.tx), .slice oa t.ats.length ja, .slice ok t.ks.length jk] 25 (0, 0)) := by rw [hW1]; exact World.alloc_heap_new w _
    have hB := hv.lowB
    have hv1 := hv.below hb1
    obtain ⟨cb, hbl⟩ := hv1.sbc
    have n0 : W1.cell? ⟨w.heap.size, 0, none⟩ = some (.int .i64 K) := by simp [World.cell?, hk1]
    have n1 : W1.cell? ⟨w.heap.size, 1, none⟩ = some (.string (bs t.nm)) := by simp [World.cell?, hk1]
    have n2 : W1.cell? ⟨w.heap.size, 2, none⟩ = some (.string (bs t.tx)) := by simp [World.cell?, hk1]
    have HW1 := Lib.hid hW1
    have HB1 := Lib.hid hb1
    have HV := Lib.hid hv
    cases hk : aloneK K with
    | false =>
      have hno := plantT_no (t := t) (by rw [hK]; exact hk) par S.given own
      unfold ndV
      rw [hK]
      clear hK
      clear ih hn hb1 hW1 hk1 hv hv1
      go_enter Try.func43, Try.ntmps43
      go_upto_region 1 with fail
      rw [← HW1.out]
      go_cut [30] (fun s30 wx => s30 = .bool (!aloneK K) ∧ wx = W1)
      case first =>
        clear hk
        by_cases h2 : K = 2
        · subst h2
          go_wp2_with fail
          go_meet
          exact ⟨by unfold aloneK; rfl, rfl⟩
        · by_cases h4 : K = 4
          · subst h4
            clear h2
            go_wp2_with fail
            go_meet
            exact ⟨by unfold aloneK; rfl, rfl⟩
          · by_cases h5 : K = 5
            · subst h5
              clear h2 h4
              go_wp2_with fail
              go_meet
              exact ⟨by unfold aloneK; rfl, rfl⟩
            · by_cases h6 : K = 6
              · subst h6
                clear h2 h4 h5
                go_wp2_with fail
                go_meet
                exact ⟨by unfold aloneK; rfl, rfl⟩
              · have b2 : (K != 2) = true := bne_iff_ne.2 h2
                have b4 : (K != 4) = true := bne_iff_ne.2 h4
                have b5 : (K != 5) = true := bne_iff_ne.2 h5
                have b6 : (K != 6) = true := bne_iff_ne.2 h6
                have HAL : Hid (aloneK K = false) := Lib.hid (by unfold aloneK; rw [decide_eq_false h2, decide_eq_false h4, decide_eq_false h5, decide_eq_false h6]; rfl)
                clear h2 h4 h5 h6
                go_wp2_with fail
                go_meet
                exact ⟨by rw [HAL.out]; rfl, rfl⟩
      case rest =>
        obtain ⟨rfl, rfl⟩ := hcut
        rw [hk]
        go_wp2_with fail
        go_ret
        refine ⟨by rw [hno]; rfl, Only.of HB1.out hB, Z, ?_, fun _ h => h, fun _ h => .inl h⟩
        rw [hno]
        exact HV.out.below HB1.out
    | true =>
      have hyes := plantT_yes (t := t) (by rw [hK]; exact hk) par S.given own
      have htot := totP_yes (t := t) (by rw [hK]; exact hk)
      obtain ⟨I, hI⟩ : ∃ I : Int, ((S.given + 1 : Nat) : Int) = I := ⟨_, rfl⟩
      have hfr := ws_fresh hv1 (by omega)
      rw [hI] at hfr
      have hFr := Lib.hid hfr
      have HII := Lib.hid hI
      have HAK := Lib.hid hk
      have HN := Lib.hid hn
      have HYES := Lib.hid hyes
      obtain ⟨mp, hmp⟩ : ∃ mp, max par 0 = mp := ⟨_, rfl⟩
      unfold ndV
      rw [hK]
      clear hK
      clear hn hb1 hW1 hv hv1 hyes hfr hI
      go_enter Try.func43, Try.ntmps43
      go_upto_region 1 with fail
      rw [← HW1.out]
      go_cut [30] (fun s30 wx => s30 = .bool (!aloneK K) ∧ wx = W1)
      case first =>
        clear hk
        by_cases h2 : K = 2
        · subst h2
          go_wp2_with fail
          go_meet
          exact ⟨by unfold aloneK; rfl, rfl⟩
        · by_cases h4 : K = 4
          · subst h4
            clear h2
            go_wp2_with fail
            go_meet
            exact ⟨by unfold aloneK; rfl, rfl⟩
          · by_cases h5 : K = 5
            · subst h5
              clear h2 h4
              go_wp2_with fail
              go_meet
              exact ⟨by unfold aloneK; rfl, rfl⟩
            · by_cases h6 : K = 6
              · subst h6
                clear h2 h4 h5
                go_wp2_with fail
                go_meet
                exact ⟨by unfold aloneK; rfl, rfl⟩
              · have b2 : (K != 2) = true := bne_iff_ne.2 h2
                have b4 : (K != 4) = true := bne_iff_ne.2 h4
                have b5 : (K != 5) = true := bne_iff_ne.2 h5
                have b6 : (K != 6) = true := bne_iff_ne.2 h6
                have HAL : Hid (aloneK K = false) := Lib.hid (by unfold aloneK; rw [decide_eq_false h2, decide_eq_false h4, decide_eq_false h5, decide_eq_false h6]; rfl)
                clear h2 h4 h5 h6
                go_wp2_with fail
                go_meet
                exact ⟨by rw [HAL.out]; rfl, rfl⟩
      case rest =>
      obtain ⟨rfl, hcw⟩ := hcut
      have hcw := hcw.symm
      subst hcw
      rw [hk]
      go_upto_if 44 with (first
        | (go_at_call 75
           refine hFr.out.mono ?_
           rintro e w2 ⟨rfl, v2, o2⟩
           have nb2 := (o2.2 w.heap.size (by omega) (fun hz => by have := (HV.out.zB _ (.inl hz)).2; omega)).trans hk1
           have m0 : w2.cell? ⟨w.heap.size, 0, none⟩ = some (.int .i64 K) := by simp [World.cell?, nb2]
           have m1 : w2.cell? ⟨w.heap.size, 1, none⟩ = some (.string (bs t.nm)) := by simp [World.cell?, nb2]
           have m2 : w2.cell? ⟨w.heap.size, 2, none⟩ = some (.string (bs t.tx)) := by simp [World.cell?, nb2]
           have V2 := Lib.hid v2
           have O2 := Lib.hid o2
           have NB2 := Lib.hid nb2
           clear v2 o2 nb2 n0 n1 n2 hk1))
      obtain ⟨W3, hW3⟩ : ∃ W3, W3 = w2.alloc (.cells #[.int .i64 K, .string (bs t.nm), .string (bs t.tx), .int .i64 mp, .slice none 0 0, .slice none 0 0, .bool false] 34) := ⟨_, rfl⟩
      have HW3 := Lib.hid hW3
      go_cut [] (fun wx => wx = W3)
      case first =>
        by_cases hp : 0 < par
        · have e1 : mp = par := by omega
          clear hmp hW3
          go_wp2_with fail
          go_meet
          rw [HW3.out, e1]
        · have e1 : mp = 0 := by omega
          clear hmp hW3
          go_wp2_with fail
          go_meet
          rw [HW3.out, e1]
      case rest =>
      have hcw := hcut.symm
      clear hcut
      subst hcw
      have hs2 := O2.out.1.size
      have hnp : ∀ g, Z g ∨ Z1 g → g < w.heap.size := fun g hz => (HV.out.zB g hz).2
      have hb3 : Below w2.heap.size w2 W3 := by rw [hW3]; exact (Below.refl _ _).alloc (Nat.le_refl _) _
      have hs3 : W3.heap.size = w2.heap.size + 1 := by rw [hW3]; simp
      have hbm : Only B (fun g => Z g ∨ Z1 g) w w2 := ((Only.of (O := fun g => Z g ∨ Z1 g) HB1.out hB).trans (O2.out.weak (O' := fun g => Z g ∨ Z1 g) fun _ _ h => .inl h) fun _ _ h => h)
      have hw21 : W1.heap.size ≤ w2.heap.size := O2.out.1.size
      have hP : PLD Z Z1 B w b sb tm (.cells #[.int .i64 K, .string (bs t.nm), .string (bs t.tx), .slice oa t.ats.length ja, .slice ok t.ks.length jk] 25 (0, 0)) w2.heap.size ⟨K, t.nm, t.tx, mp, [], [], false⟩ (freshS S) own [] (atIds (S.given + 1) 0) (.slice none 0 0) (.slice none 0 0) W3 :=
        ⟨⟨Z, V2.out.below hb3, fun _ h => h, fun _ h => .inl h, fun h => by have := hnp _ (.inl h); omega, fun h => by have := hnp _ (.inl h); omega, fun g hg => by rcases hg with hg | hg <;> cases hg⟩,
          hbm.trans (Only.of (O := fun g => Z g ∨ Z1 g) hb3 (by omega)) (fun _ _ h => h), (hb3.block _ (by omega)).trans NB2.out, by rw [hW3]; exact World.alloc_heap_new w2 _, OwnsInt.nil _ _, OwnsInt.nil _ _, fun g hg => (by cases hg), by omega, fun g hz => hnp g (.inr hz), hB⟩
      have HP := Lib.hid hP
      clear hP hbm hb3 V2 O2 NB2 m0 m1 m2 cb hFr hW3 HB1
      obtain ⟨X, hX⟩ : ∃ X, w2.heap.size = X := ⟨_, rfl⟩
      rw [hX] at HP ⊢
      go_wp2_with fail
      go_loopw [9] (fun v9 wr => ∃ k : Nat, ∃ u v, v9 = .int .i64 (k : Int) ∧ k ≤ t.ats.length ∧ Hid (PLD Z Z1 B w b sb tm (.cells #[.int .i64 K, .string (bs t.nm), .string (bs t.tx), .slice oa t.ats.length ja, .slice ok t.ks.length jk] 25 (0, 0)) X ⟨K, t.nm, t.tx, mp, [], [], false⟩ { S with given := S.given + 1 + k } (plantA I (t.ats.take k) (S.given + 1) own) [] (atIds (S.given + 1) k) u v wr)) (fun v _ => t.ats.length - (RowKit.intOf v).toNat)
      case atStart => exact ⟨0, _, _, rfl, Nat.zero_le _, HP⟩
      case round =>
        obtain ⟨k, u, v, rfl, hk, HK⟩ := hrel
        have n3 : wr.cell? ⟨w.heap.size, 3, none⟩ = some (.slice oa t.ats.length ja) := by have := HK.out.nb; simp [World.cell?, this]
        have hab : t.ats.length ≤ 10000000 := by omega
        by_cases hlt : k < t.ats.length
        · obtain ⟨ov, jv, hvv⟩ := HK.out.ov.form
          rw [atIds_len] at hvv
          subst hvv
          obtain ⟨Zk, vk, a1, a2, a3, a4, a5⟩ := HK.out.vs
          have hnr := (NdOn.move (F := F) (F' := F) (w' := wr) (fun g hg hf => ⟨hf, HK.out.only.stay g hg (hF g hf).2⟩) t _ _ HN.out).ats
          obtain ⟨g, off, rfl, gF, c0, c1⟩ := hnr.cells2 k hlt
          have htk := List.take_succ_eq_append_getElem hlt
          have hal := plantA_len I (t.ats.take k) (S.given + 1) own
          rw [List.length_take] at hal
          obtain ⟨A, hA⟩ : ∃ A : Int, ((S.given + 1 + k + 1 : Nat) : Int) = A := ⟨_, rfl⟩
          have hnx : plantA I (t.ats.take (k + 1)) (S.given + 1) own = layO (plantA I (t.ats.take k) (S.given + 1) own) A (atR3 I t.ats[k]) := by
            rw [htk, plantA_snoc, List.length_take, Nat.min_eq_left hk, hA]
          have hnx2 : atIds (S.given + 1) (k + 1) = atIds (S.given + 1) k ++ [A] := by rw [atIds_snoc, ← hA]; congr 2; omega
          generalize t.ats[k] = y at *
          have hfr := ws_fresh vk (by show S.given + 1 + k ≤ 10000000; omega)
          have e0 : ((({ S with given := S.given + 1 + k } : Sto).given + 1 : Nat) : Int) = A := hA
          rw [e0] at hfr
          have HFR := Lib.hid hfr
          have cbr := vk.sbc.1
          have hxw := (Array.getElem?_eq_some_iff.1 HK.out.xo).1
          have hz0 : (0 : Int) ≤ (k : Int) := by omega
          have hz1 : (k : Int) < (t.ats.length : Int) := by omega
          have hA1 : 1 ≤ A ∧ A ≤ 10000001 := by omega
          have HNX := Lib.hid hnx
          have HNX2 := Lib.hid hnx2
          have hgl : g < wr.heap.size := cell_lt c0
          have hgz : g < B ∨ ¬ (Zk g) := (hF g gF).2.imp _root_.id fun hq hz => (a2 g hz).elim (fun q => hq (.inl q)) (fun q => by have := (hF g gF).1; omega)
          have hnbw : w.heap.size < wr.heap.size := (Array.getElem?_eq_some_iff.1 HK.out.nb).1
          have HLT := Lib.hid hlt
          clear hnr htk hfr e0 hnx hnx2 hA
          go_upto_region 11 with (first
            | (go_at_call 75
               refine HFR.out.mono ?_
               rintro e w5 ⟨rfl, v5, o5⟩
               have hb5 : Below w5.heap.size w5 w5.drew := (Below.refl _ _).drew
               have P5 := Lib.hid ((HK.out.after a1 a2 a3 a4 a5 (o5.weak (O' := fun g => Zk g ∨ Z1 g) (fun _ _ h => .inl h)) v5 (fun _ h => h) (fun _ h => .inl h)).stay hb5)
               have kb5 := o5.stay g hgl hgz
               have nb5 := P5.out.nb
               have n3 : w5.drew.cell? ⟨w.heap.size, 3, none⟩ = some (.slice (some ⟨g, off, none⟩) t.ats.length ja) := by simp [World.cell?, nb5]
               have c0 : w5.drew.cell? ⟨g, off + k * 2, none⟩ = _ := (World.cell?_of_block (w := wr) (w' := w5.drew) (a := ⟨g, off + k * 2, none⟩) kb5).trans c0
               have c1 : w5.drew.cell? ⟨g, off + k * 2 + 1, none⟩ = _ := (World.cell?_of_block (w := wr) (w' := w5.drew) (a := ⟨g, off + k * 2 + 1, none⟩) kb5).trans c1
               have hpt := ws_lay (v5.below hb5) (by omega) A (atR3 I y, .slice none 0 0, .slice none 0 0) (G := fun _ => False) ⟨IntsOn.nil _ _ _ _, IntsOn.nil _ _ _ _⟩ (fun g h => h.elim)
               have cb5 := (v5.below hb5).sbc.1
               unfold rcV at hpt
               dsimp only [atR3] at hpt
               have HPT := Lib.hid hpt
               clear v5 o5 kb5 nb5 hpt hb5))
          go_still_tail 16, (by kernel_rfl)
          change wpList _ _ _ _ _ w5.drew
          go_wp2_with (first
            | (go_at_call 76
               refine HPT.out.mono ?_
               rintro e w6 ⟨⟨u6, rfl⟩, o6, Z6, v6, b6, c6⟩
               have P6 := Lib.hid (P5.out.after a1 a2 a3 a4 a5 (o6.weak (O' := fun g => Zk g ∨ Z1 g) (fun _ _ h => .inl h)) v6 b6 (fun g hg => (c6 g hg).elim .inl (fun q => q.elim False.elim .inr)))
               obtain ⟨⟨_, _, _, _, _, x5, _⟩, xf⟩ := rc_blk P6.out.xo
               have xf5 := xf 5
               have hw6 := (Array.getElem?_eq_some_iff.1 P6.out.xo).1
               clear o6 v6 b6 c6 xf)
            | (at_builtin
               refine wpList_pushInt rfl (.tmp 77) (.tmp 79) rfl A P6.out.ov rfl (by simp [Act.eval]) (by omega) (by rw [atIds_len]; omega) ?_
               intro u7 w7 q1 q2 q3 q4
               have c7 := (World.cell?_of_block (w := w6) (w' := w7) (a := ⟨X, 5, none⟩) (q3 X hw6 (fun e => by have := (P6.out.ov.blk e.symm).1; omega))).trans x5
               have f7 := (World.frozen?_of_block (w := w6) (w' := w7) (a := ⟨X, 5, none⟩) (q3 X hw6 (fun e => by have := (P6.out.ov.blk e.symm).1; omega))).trans xf5
               have P7 := Lib.hid (P6.out.pushV q1 q2 q3 q4)
               obtain ⟨o7, j7, rfl⟩ := q1.form
               rw [List.length_append, List.length_singleton, atIds_len] at P7
               clear q1 q2 q3 q4)
            | go_in)
          have p7 := P7.out
          refine ⟨⟨k + 1, u, .slice o7 (k + 1) j7, by go_num, HLT.out, Lib.hid ?_⟩, by have := HLT.out; simp [RowKit.intOf]; omega⟩
          rw [HNX.out, HNX2.out, atIds_len]
          unfold atR3
          exact p7
        · have ek : k = t.ats.length := by omega
          subst ek
          rw [List.take_length] at HK
          have hal := plantA_len I t.ats (S.given + 1) own
          obtain ⟨own1, hown1⟩ : ∃ own1, plantA I t.ats (S.given + 1) own = own1 := ⟨_, rfl⟩
          obtain ⟨g1, hg1⟩ : ∃ g1, S.given + 1 + t.ats.length = g1 := ⟨_, rfl⟩
          obtain ⟨ai, hai⟩ : ∃ ai, atIds (S.given + 1) t.ats.length = ai := ⟨_, rfl⟩
          rw [hown1, hg1, hai] at HK
          rw [hown1] at hal
          have HOWN1 := Lib.hid hown1
          have HG1 := Lib.hid hg1
          have HAI := Lib.hid hai
          have hl1 : own1.length + totPK t.ks ≤ 10000000 := by omega
          have hgl1 : g1 + totPK t.ks ≤ 10000000 := by omega
          clear hown1 hai
          go_wp2_with fail
          clear n3
          go_loopw [11] (fun v11 wr => ∃ k : Nat, ∃ u v, v11 = .int .i64 (k : Int) ∧ k ≤ t.ks.length ∧ Hid (PLD Z Z1 B w b sb tm (.cells #[.int .i64 K, .string (bs t.nm), .string (bs t.tx), .slice oa t.ats.length ja, .slice ok t.ks.length jk] 25 (0, 0)) X ⟨K, t.nm, t.tx, mp, [], [], false⟩ { S with given := (plantK (t.ks.take k) I g1 own1).2.1 } (plantK (t.ks.take k) I g1 own1).2.2 (plantK (t.ks.take k) I g1 own1).1 ai u v wr)) (fun v _ => t.ks.length - (RowKit.intOf v).toNat)
          case atStart => exact ⟨0, _, _, rfl, Nat.zero_le _, Lib.hid (by rw [List.take_zero, plantK]; exact HK.out)⟩
          case round =>
            clear HK
            obtain ⟨k, u, v, rfl, hk2, HK⟩ := hrel
            have n4 : wr.cell? ⟨w.heap.size, 4, none⟩ = some (.slice ok t.ks.length jk) := by have := HK.out.nb; simp [World.cell?, this]
            by_cases hlt : k < t.ks.length
            · obtain ⟨ou, ju, huu⟩ := HK.out.ou.form
              obtain ⟨q, hq⟩ : ∃ q, plantK (t.ks.take k) I g1 own1 = q := ⟨_, rfl⟩
              obtain ⟨s1, s2, s3, s4⟩ := plantK_spec (t.ks.take k) I g1 own1
              have htt := totPK_take t.ks k hlt
              rw [hq] at HK huu s1 s2 s3 s4
              obtain ⟨qi, qg, qo⟩ := q
              dsimp only at HK huu s1 s2 s3 s4
              subst huu
              obtain ⟨Zk, vk, a1, a2, a3, a4, a5⟩ := HK.out.vs
              have hnr := (NdOn.move (F := F) (F' := F) (w' := wr) (fun g hg hf => ⟨hf, HK.out.only.stay g hg (hF g hf).2⟩) t _ _ HN.out)
              obtain ⟨o9, i9, j9, hv9, hi9, hkids⟩ := hnr.kids
              simp only [Value.slice.injEq] at hv9
              obtain ⟨rfl, rfl, rfl⟩ := hv9
              rcases hkids with h0 | ⟨g, off, rfl, hgF, hks⟩
              · rw [h0] at hlt; simp at hlt
              obtain ⟨va2, vk2, ⟨c0, c1, c2, c3, c4⟩, hnk⟩ := hks.at k hlt
              obtain ⟨oa2, ja2, ok2, jk2, rfl, rfl⟩ := hnk.form
              have hcn := cnt_eq t
              have hck := cntK_at t.ks k hlt
              have htk : plantK (t.ks.take (k + 1)) I g1 own1 = (qi ++ (if (plantT t.ks[k] I qg qo).1 = 0 then [] else [(plantT t.ks[k] I qg qo).1]), (plantT t.ks[k] I qg qo).2.1, (plantT t.ks[k] I qg qo).2.2) := by
                rw [List.take_succ_eq_append_getElem hlt, plantK_snoc, hq]
              obtain ⟨e1, e2, e3, e4, _⟩ := plantT_spec t.ks[k] I qg qo
              generalize t.ks[k] = kid at *
              have hw0 := HK.out.only.1.size
              have hih := ih kid _ _ I Zk { S with given := qg } qo wr (by omega) (by omega) hnk (fun g hg => ⟨by have := (hF g hg).1; omega, (hF g hg).2.imp _root_.id fun hq h => by
                rcases h with h | h
                · rcases a2 g h with h | h
                  · exact hq (.inl h)
                  · have := (hF g hg).1; omega
                · exact hq (.inr h)⟩) vk (by show qg + totP kid ≤ 10000000; omega) (by omega)
              unfold PlQ at hih
              obtain ⟨⟨ra, rg, ro⟩, hr⟩ : ∃ r, plantT kid I qg qo = r := ⟨_, rfl⟩
              dsimp only at hih
              rw [hr] at hih htk e1 e2 e3 e4
              dsimp only at hih htk e1 e2 e3 e4
              unfold ndV at hih
              have HIH := Lib.hid hih
              have HTK := Lib.hid htk
              have hxw := (Array.getElem?_eq_some_iff.1 HK.out.xo).1
              have hz0 : (0 : Int) ≤ (k : Int) := by omega
              have hz1 : (k : Int) < (t.ks.length : Int) := by omega
              have hqi : qi.length ≤ 10000000 := by omega
              have HLT := Lib.hid hlt
              have VK := Lib.hid vk
              clear hnr hks hnk hih vk htk hr hq hcn hck
              by_cases h0 : ra = 0
              · subst h0
                go_wp2_with (first
                  | (go_at_call 43
                     refine HIH.out.mono ?_
                     rintro e w5 ⟨rfl, o5, Z5, v5, b5, d5⟩
                     have P5 := Lib.hid (HK.out.after a1 a2 a3 a4 a5 o5 v5 b5 d5)
                     clear o5 v5 b5 d5))
                refine ⟨⟨k + 1, .slice ou qi.length ju, v, by go_num, HLT.out, Lib.hid ?_⟩, by have := HLT.out; simp [RowKit.intOf]; omega⟩
                rw [HTK.out, if_pos (by trivial), List.append_nil]
                exact P5.out
              · have H0 := Lib.hid h0
                have h1 : 0 < ra := by omega
                clear h0
                go_wp2_with (first
                  | (go_at_call 43
                     refine HIH.out.mono ?_
                     rintro e w5 ⟨rfl, o5, Z5, v5, b5, d5⟩
                     have P5 := Lib.hid (HK.out.after a1 a2 a3 a4 a5 o5 v5 b5 d5)
                     obtain ⟨⟨_, _, _, _, x4, _, _⟩, xf⟩ := rc_blk P5.out.xo
                     have xf4 := xf 4
                     have hw5 := (Array.getElem?_eq_some_iff.1 P5.out.xo).1
                     clear o5 v5 b5 d5 xf)
                  | (at_builtin
                     refine wpList_pushInt rfl (.tmp 100) (.tmp 102) rfl ra P5.out.ou rfl (by simp [Act.eval]) (by omega) (by omega) ?_
                     intro u7 w7 q1 q2 q3 q4
                     have c7 := (World.cell?_of_block (w := w5) (w' := w7) (a := ⟨X, 4, none⟩) (q3 X hw5 (fun e => by have := (P5.out.ou.blk e.symm).1; omega))).trans x4
                     have f7 := (World.frozen?_of_block (w := w5) (w' := w7) (a := ⟨X, 4, none⟩) (q3 X hw5 (fun e => by have := (P5.out.ou.blk e.symm).1; omega))).trans xf4
                     have P7 := Lib.hid (P5.out.pushU q1 q2 q3 q4)
                     obtain ⟨o7, j7, rfl⟩ := q1.form
                     rw [List.length_append, List.length_singleton] at P7
                     clear q1 q2 q3 q4)
                  | go_in)
                refine ⟨⟨k + 1, .slice o7 (qi.length + 1) j7, v, by go_num, HLT.out, Lib.hid ?_⟩, by have := HLT.out; simp [RowKit.intOf]; omega⟩
                rw [HTK.out, if_neg H0.out]
                exact P7.out
            · have ek : k = t.ks.length := by omega
              subst ek
              rw [List.take_length] at HK
              obtain ⟨q, hq⟩ : ∃ q, plantK t.ks I g1 own1 = q := ⟨_, rfl⟩
              obtain ⟨s1, s2, s3, s4⟩ := plantK_spec t.ks I g1 own1
              rw [hq] at HK s1 s2 s3 s4
              obtain ⟨qi, qg, qo⟩ := q
              dsimp only at HK s1 s2 s3 s4
              obtain ⟨Zk, vk, a1, a2, a3, a4, a5⟩ := HK.out.vs
              obtain ⟨ou, ju, huu⟩ := HK.out.ou.form
              obtain ⟨ov, jv, hvv⟩ := HK.out.ov.form
              subst huu hvv
              obtain ⟨⟨x0, x1, x2, x3, x4, x5, x6⟩, _⟩ := rc_blk HK.out.xo
              dsimp only at x0 x1 x2 x3 x4 x5 x6
              have hxl := HK.out.xlt
              have hub : ∀ g, (Value.slice ou qi.length ju).ownBlock = some g ∨ (Value.slice ov ai.length jv).ownBlock = some g → w.heap.size ≤ g ∧ g < wr.heap.size := fun g hg => by
                rcases hg with hg | hg
                · have := HK.out.ou.blk hg; omega
                · have := HK.out.ov.blk hg; omega
              have hou := HK.out.ou.on (F := fun g => (Value.slice ou qi.length ju).ownBlock = some g ∨ (Value.slice ov ai.length jv).ownBlock = some g) (fun _ h => .inl h)
              have hov := HK.out.ov.on (F := fun g => (Value.slice ou qi.length ju).ownBlock = some g ∨ (Value.slice ov ai.length jv).ownBlock = some g) (fun _ h => .inr h)
              have hpt := ws_lay vk (by omega) I (⟨K, t.nm, t.tx, mp, qi, ai, false⟩, .slice ou qi.length ju, .slice ov ai.length jv) ⟨hou, hov⟩ (fun g hg => ⟨.inl (a5 g hg), (hub g hg).2⟩)
              have cbr := vk.sbc.1
              unfold rcV at hpt
              dsimp only at hpt
              have HPT := Lib.hid hpt
              have HQ := Lib.hid hq
              have HUB := Lib.hid hub
              have HONLY := Lib.hid HK.out.only
              clear hpt hq vk hou hov hub
              go_wp2_with (first
                | (go_at_call 76
                   refine HPT.out.mono ?_
                   rintro e w6 ⟨⟨u6, rfl⟩, o6, Z6, v6, b6, c6⟩))
              go_ret
              have hY := HYES.out
              rw [HII.out, HOWN1.out, HG1.out, HQ.out, HAI.out, hmp, HKD.out] at hY
              dsimp only at hY
              refine ⟨by rw [hY]; rfl, HONLY.out.trans (o6.weak (O' := fun g => Zk g ∨ Z1 g) (fun _ _ h => .inl h)) fun i hi ho => ?_, Z6, ?_, fun g hg => b6 g (a1 g hg), fun g hg => ?_⟩
              · rcases ho with ho | ho
                · exact (a2 i ho).elim .inl (fun q => by omega)
                · exact .inr ho
              · rw [hY]
                exact v6
              · rcases c6 g hg with q | q | q
                · exact a2 g q
                · exact .inr (HUB.out g q).1
                · exact .inr (Nat.le_trans HONLY.out.1.size q)
end
end Go.Proofs.Ytkackejipgabfaa.Char

/- The walk of the document's own Put. -/
namespace Go.Proofs.Ytkackejipgabfaa.Char
open Go.RowKit Go.Lib

/-- what the document's Put leaves -/
def PutWP (Z Z1 G : Nat → Prop) (B : Nat) (w : World) (b d t : Nat) (S : Sto) (own : Own) (id : Int) (r : Rc) : Ending → World → Prop := fun e w' => e = .returned (.int .i64 (putE id r : Int)) ∧ Only B Z w w' ∧ ∃ Z', WS Z' Z1 B w' b d t S (putO own id r) ∧ (∀ g, Z g → Z' g) ∧ ∀ g, Z' g → Z g ∨ G g ∨ w.heap.size ≤ g
section
variable {Z Z1 : Nat → Prop} {B : Nat} {w : World} {b d t : Nat} {S : Sto} {own : Own}
set_option maxRecDepth 100000 in
set_option maxHeartbeats 2000000 in
theorem ws_put (h : WS Z Z1 B w b d t S own) (hl : own.length ≤ 10000000) (id : Int) (x : RcV) {G : Nat → Prop} (hx : RcOn w G x) (hG : ∀ g, G g → (¬ Z g ∨ g < B) ∧ g < w.heap.size) (hsm : RcSm x.1) :
    Calls Try.prog 44 #[.pointer (some ⟨b, 0, none⟩), .int .i64 id, rcV x] w (PutWP Z Z1 G B w b d t S own id x.1) := by
  obtain ⟨r, va, vb⟩ := x
  obtain ⟨ok, jk, oa, ja, e1, e2⟩ := hx.form
  dsimp only at e1 e2 hsm ⊢
  subst e1 e2
  obtain ⟨W1, hW1⟩ : ∃ W1, W1 = w.alloc (rcB (r, .slice ok r.ks.length jk, .slice oa r.ats.length ja)) := ⟨_, rfl⟩
  have hb1 : Below w.heap.size w W1 := by rw [hW1]; exact (Below.refl _ _).alloc (Nat.le_refl _) _
  have hk1 : W1.heap[w.heap.size]? = some (rcB (r, .slice ok r.ks.length jk, .slice oa r.ats.length ja)) := by rw [hW1]; exact World.alloc_heap_new w _
  have hs1 : W1.heap.size = w.heap.size + 1 := by rw [hW1]; simp
  have hx1 := hx.below hb1
  have HR := Lib.hid (refRight_any r ok jk oa ja W1 G hx1.1 hx1.2 (Nat.le_trans hsm.1 (by decide)) (Nat.le_trans hsm.2 (by decide)))
  have HL := Lib.hid (fun w2 (hb : Below w.heap.size w w2) => ws_lay (h.below hb) hl id (r, .slice ok r.ks.length jk, .slice oa r.ats.length ja) (hx.below hb) (fun g hg => ⟨(hG g hg).1, Nat.lt_of_lt_of_le (hG g hg).2 hb.size⟩))
  obtain ⟨⟨y0, y1, y2, y3, y4, y5, y6⟩, _⟩ := rc_blk hk1
  dsimp only at y0 y1 y2 y3 y4 y5 y6
  have HC := Lib.hid (fun w2 (hb : Below W1.heap.size W1 w2) => (rc_blk ((hb.block w.heap.size (by omega)).trans hk1)).1)
  have HH := Lib.hid h
  have HB1 := Lib.hid hb1
  have HW1 := Lib.hid hW1
  unfold rcB at HW1
  dsimp only at HW1
  unfold rcV
  dsimp only
  have HS1 : w.heap.size ≤ W1.heap.size := by omega
  clear h hx hG hsm hb1 hk1 hs1 hx1 hW1
  go_enter Try.func44, Try.ntmps44
  go_upto_region 1 with fail
  rw [← HW1.out]
  by_cases hi : id < 1
  · have HE : Hid (putE id r = 2 ∧ putO own id r = own) := Lib.hid (by unfold putE putO; rw [decide_eq_true hi]; exact ⟨rfl, rfl⟩)
    go_wp2_with fail
    go_ret
    refine ⟨by rw [HE.out.1]; rfl, Only.of HB1.out HH.out.lowB, Z, ?_, fun _ h => h, fun _ h => .inl h⟩
    rw [HE.out.2]
    exact HH.out.below HB1.out
  · have hid' : decide (id < 1) = false := decide_eq_false hi
    cases hr : rightR r with
    | false =>
      have HE : Hid (putE id r = 2 ∧ putO own id r = own) := Lib.hid (by unfold putE putO; rw [hid', hr]; exact ⟨rfl, rfl⟩)
      rw [hr] at HR
      clear hr hid'
      go_wp2_with (first
        | (go_at_call 77
           refine HR.out.mono ?_
           rintro e w2 ⟨rfl, hb2⟩
           have HB2 := Lib.hid (HB1.out.trans (hb2.mono HS1))
           clear hb2))
      go_ret
      refine ⟨by rw [HE.out.1]; rfl, Only.of HB2.out HH.out.lowB, Z, ?_, fun _ h => h, fun _ h => .inl h⟩
      rw [HE.out.2]
      exact HH.out.below HB2.out
    | true =>
      have HE : Hid (putE id r = 0 ∧ putO own id r = layO own id r) := Lib.hid (by unfold putE putO; rw [hid', hr]; exact ⟨rfl, rfl⟩)
      rw [hr] at HR
      clear hr hid'
      go_wp2_with (first
        | (go_at_call 77
           refine HR.out.mono ?_
           rintro e w2 ⟨rfl, hb2⟩
           have HB2 := Lib.hid (HB1.out.trans (hb2.mono HS1))
           obtain ⟨z0, z1, z2, z3, z4, z5, z6⟩ := HC.out w2 hb2
           dsimp only at z0 z1 z2 z3 z4 z5 z6
           have HLL := Lib.hid (HL.out w2 HB2.out)
           unfold rcV at HLL
           dsimp only at HLL
           clear hb2)
        | (go_at_call 76
           refine HLL.out.mono ?_
           rintro e w3 ⟨⟨u3, rfl⟩, o3, Z3, p3, a3, b3⟩
           have P3 := Lib.hid p3
           have O3 := Lib.hid o3
           clear o3 p3))
      go_ret
      refine ⟨by rw [HE.out.1]; rfl, (Only.of HB2.out HH.out.lowB).trans O3.out (fun _ _ h => h), Z3, ?_, a3, fun g hg => ?_⟩
      · rw [HE.out.2]
        exact P3.out
      · rcases b3 g hg with q | q | q
        · exact .inl q
        · exact .inr (.inl q)
        · exact .inr (.inr (Nat.le_trans HB2.out.size q))
end
end Go.Proofs.Ytkackejipgabfaa.Char

/- The program's view with its store, and the document's, in one memory, apart. -/
namespace Go.Proofs.Ytkackejipgabfaa.Char
open Go.RowKit Go.Lib

structure Two (Z Z1 Y Y1 : Nat → Prop) (B C : Nat) (w : World) (b sb t b2 d t2 : Nat) (S : Sto) (own : Own) (S2 : Sto) (own2 : Own) : Prop where
  vs : VS Z Z1 B w b sb t S own
  ws : WS Y Y1 C w b2 d t2 S2 own2
  ap : ∀ g, Z g ∨ Z1 g → ¬ (Y g ∨ Y1 g)
section
variable {Z Z1 Y Y1 : Nat → Prop} {B C : Nat} {w : World} {b sb t b2 d t2 : Nat} {S S2 : Sto} {own own2 : Own}
theorem Two.move (h : Two Z Z1 Y Y1 B C w b sb t b2 d t2 S own S2 own2) {w' : World} (hz : ∀ g, (Z g ∨ Z1 g) ∨ (Y g ∨ Y1 g) → w'.heap[g]? = w.heap[g]?) (hs : w.heap.size ≤ w'.heap.size) : Two Z Z1 Y Y1 B C w' b sb t b2 d t2 S own S2 own2 :=
  ⟨h.vs.move (fun g hg => hz g (.inl hg)) hs, h.ws.move (fun g hg => hz g (.inr hg)) hs, h.ap⟩
theorem Two.below (h : Two Z Z1 Y Y1 B C w b sb t b2 d t2 S own S2 own2) {w' : World} (hb : Below w.heap.size w w') : Two Z Z1 Y Y1 B C w' b sb t b2 d t2 S own S2 own2 :=
  h.move (fun g hg => hb.block g (hg.elim (fun q => (h.vs.zB g q).2) (fun q => (h.ws.zB g q).2))) hb.size
/-- the program's turned -/
theorem Two.left (h : Two Z Z1 Y Y1 B C w b sb t b2 d t2 S own S2 own2) {w' : World} {Z' : Nat → Prop} {S' : Sto} {own' : Own} (ho : Only B (fun g => Z g ∨ Z1 g) w w') (hv : VS Z' Z1 B w' b sb t S' own') (hn : ∀ g, Z' g → Z g ∨ w.heap.size ≤ g) : Two Z' Z1 Y Y1 B C w' b sb t b2 d t2 S' own' S2 own2 :=
  ⟨hv, h.ws.move (fun g hg => ho.2 g (h.ws.zB g hg).2 (fun hz => h.ap g hz hg)) ho.1.size, fun g hg hy => by
    have hl := (h.ws.zB g hy).2
    rcases hg with hg | hg
    · rcases hn g hg with q | q
      · exact h.ap g (.inl q) hy
      · omega
    · exact h.ap g (.inr hg) hy⟩
/-- the document's turned -/
theorem Two.right (h : Two Z Z1 Y Y1 B C w b sb t b2 d t2 S own S2 own2) {w' : World} {Y' G : Nat → Prop} {S' : Sto} {own' : Own} (ho : Only C (fun g => Y g ∨ Y1 g) w w') (hv : WS Y' Y1 C w' b2 d t2 S' own') (hG : ∀ g, G g → ¬ (Z g ∨ Z1 g)) (hn : ∀ g, Y' g → Y g ∨ G g ∨ w.heap.size ≤ g) : Two Z Z1 Y' Y1 B C w' b sb t b2 d t2 S own S' own' :=
  ⟨h.vs.move (fun g hg => ho.2 g (h.vs.zB g hg).2 (h.ap g hg)) ho.1.size, hv, fun g hg hy => by
    have hl := (h.vs.zB g hg).2
    rcases hy with hy | hy
    · rcases hn g hy with q | q | q
      · exact h.ap g hg (.inl q)
      · exact hG g q hg
      · omega
    · exact h.ap g hg (.inr hy)⟩
theorem two_putV (h : Two Z Z1 Y Y1 B C w b sb t b2 d t2 S own S2 own2) (hl : own.length ≤ 10000000) (id : Int) (hid : (Lit.int .i64 id).wf = true) (x : RcV) {F : Nat → Prop} (hx : RcOn w F x) (hsm : RcSm x.1) :
    Calls Try.prog 23 #[.pointer (some ⟨b, 0, none⟩), .int .i64 id, rcV x] w fun e w' => e = .returned (.int .i64 (putE id x.1 : Int)) ∧ Only B (fun g => Z g ∨ Z1 g) w w' ∧ ∃ Z', Two Z' Z1 Y Y1 B C w' b sb t b2 d t2 S (putO own id x.1) S2 own2 ∧ (∀ g, Z g → Z' g) ∧ ∀ g, Z' g → Z g ∨ w.heap.size ≤ g := by
  refine (vs_put h.vs hl id hid x hx hsm).mono ?_
  rintro e w' ⟨q1, q2, Z', q3, q4, q5⟩
  have ho : Only B (fun g => Z g ∨ Z1 g) w w' := q2.weak fun _ _ q => .inl q
  exact ⟨q1, ho, Z', h.left ho q3 q5, q4, q5⟩
theorem two_putW (h : Two Z Z1 Y Y1 B C w b sb t b2 d t2 S own S2 own2) (hl : own2.length ≤ 10000000) (id : Int) (x : RcV) {G : Nat → Prop} (hx : RcOn w G x) (hG : ∀ g, G g → ¬ (Z g ∨ Z1 g) ∧ (¬ Y g ∨ g < C) ∧ g < w.heap.size) (hsm : RcSm x.1) :
    Calls Try.prog 44 #[.pointer (some ⟨b2, 0, none⟩), .int .i64 id, rcV x] w fun e w' => e = .returned (.int .i64 (putE id x.1 : Int)) ∧ Only C (fun g => Y g ∨ Y1 g) w w' ∧ ∃ Y', Two Z Z1 Y' Y1 B C w' b sb t b2 d t2 S own S2 (putO own2 id x.1) ∧ (∀ g, Y g → Y' g) ∧ ∀ g, Y' g → Y g ∨ G g ∨ w.heap.size ≤ g := by
  refine (ws_put h.ws hl id x hx (fun g hg => (hG g hg).2) hsm).mono ?_
  rintro e w' ⟨q1, q2, Y', q3, q4, q5⟩
  have ho : Only C (fun g => Y g ∨ Y1 g) w w' := q2.weak fun _ _ q => .inl q
  exact ⟨q1, ho, Y', h.right ho q3 (fun g hg => (hG g hg).1) q5, q4, q5⟩
theorem two_plantV (h : Two Z Z1 Y Y1 B C w b sb t b2 d t2 S own S2 own2) {F : Nat → Prop} (n : Tr) (va vk : Value) (par : Int) (hc : cntT n ≤ 100000) (hn : NdOn w F n va vk) (hF : ∀ g, F g → g < w.heap.size ∧ ¬ (Z g ∨ Z1 g)) (hg : S.given + totP n ≤ 10000000) (hl : own.length + totP n ≤ 10000000) :
    Calls Try.prog 21 #[.pointer (some ⟨b, 0, none⟩), ndV n va vk, .int .i64 par] w fun e w' => e = .returned (.int .i64 (plantT n par S.given own).1) ∧ Only B (fun g => Z g ∨ Z1 g) w w' ∧ ∃ Z', Two Z' Z1 Y Y1 B C w' b sb t b2 d t2 { S with given := (plantT n par S.given own).2.1 } (plantT n par S.given own).2.2 S2 own2 ∧ (∀ g, Z g → Z' g) ∧ ∀ g, Z' g → Z g ∨ w.heap.size ≤ g := by
  refine (plantV_any _ n va vk par Z S own w (Nat.le_refl _) hc hn hF h.vs hg hl).mono ?_
  rintro e w' ⟨q1, q2, Z', q3, q4, q5⟩
  exact ⟨q1, q2, Z', h.left q2 q3 q5, q4, q5⟩
theorem two_plantW (h : Two Z Z1 Y Y1 B C w b sb t b2 d t2 S own S2 own2) {F : Nat → Prop} (n : Tr) (va vk : Value) (par : Int) (hc : cntT n ≤ 100000) (hn : NdOn w F n va vk) (hF : ∀ g, F g → g < w.heap.size ∧ (g < C ∨ ¬ (Y g ∨ Y1 g))) (hg : S2.given + totP n ≤ 10000000) (hl : own2.length + totP n ≤ 10000000) :
    Calls Try.prog 43 #[.pointer (some ⟨b2, 0, none⟩), ndV n va vk, .int .i64 par] w fun e w' => e = .returned (.int .i64 (plantT n par S2.given own2).1) ∧ Only C (fun g => Y g ∨ Y1 g) w w' ∧ ∃ Y', Two Z Z1 Y' Y1 B C w' b sb t b2 d t2 S own { S2 with given := (plantT n par S2.given own2).2.1 } (plantT n par S2.given own2).2.2 ∧ (∀ g, Y g → Y' g) ∧ ∀ g, Y' g → Y g ∨ w.heap.size ≤ g := by
  refine (plantW_any _ n va vk par Y S2 own2 w (Nat.le_refl _) hc hn hF h.ws hg hl).mono ?_
  rintro e w' ⟨q1, q2, Y', q3, q4, q5⟩
  exact ⟨q1, q2, Y', h.right (G := fun _ => False) q2 q3 (fun _ q => q.elim) (fun g hg => (q5 g hg).elim .inl (fun q => .inr (.inr q))), q4, q5⟩
end
end Go.Proofs.Ytkackejipgabfaa.Char

/- The document's Install of what a view of it keeps, and a new view of it. -/
namespace Go.Proofs.Ytkackejipgabfaa.Char
open Go.RowKit Go.Lib

section
variable {Z Z1 : Nat → Prop} {B : Nat} {w : World} {b d t : Nat} {S : Sto} {own : Own}
theorem WS.ownV (h : WS Z Z1 B w b d t S own) : ∃ o j, w.cell? ⟨b, 2, none⟩ = some (.slice o own.length j) := by
  obtain ⟨F, v, v2, xs, cs, h1, h2, h3, h4, h5, h6, h7, h8⟩ := h
  obtain ⟨o, j, e⟩ := h3.row.form
  refine ⟨o, j, ?_⟩
  rw [h3.cells.2.2.1, e, ← h4, List.length_map]
theorem ws_inst (h : WS Z Z1 B w b d t S own) (time : Nat) (o : Option Addr) (j : Nat) (ho : w.cell? ⟨b, 2, none⟩ = some (.slice o own.length j)) (hsm : ∀ c, c ∈ own → RcSm c.2) (hcl : own.length ≤ 10000000) (hl : S.L.length ≤ 10000000) (hg : S.given ≤ 10000000) :
    Calls Try.prog 45 #[.pointer (some ⟨d, 0, none⟩), .int .u64 (time : Int), .slice o own.length j] w fun e w' => e = .returned (.int .i64 (instE S time own : Int)) ∧ Only B Z w w' ∧
      ∃ Z', WS Z' Z1 B w' b d t (instS S time own) own ∧ (∀ g, Z g → Z' g) ∧ ∀ g, Z' g → Z g ∨ w.heap.size ≤ g := by
  obtain ⟨F, v, v2, xs, cs, h1, h2, h3, h4, h5, h6, h7, h8⟩ := h
  have hv2 : v2 = .slice o own.length j := by
    have := h3.cells.2.2.1
    rw [ho] at this
    cases this
    rfl
  have hcn : cs.length = own.length := by rw [← h4, List.length_map]
  have hxl : xs.length ≤ 10000000 := by rw [← h2, List.length_map] at hl; exact hl
  have hon := h3.row.on (F := F) (G := fun g => F g ∨ v2.ownBlock = some g) (fun g hg => .inr hg) h3.on (fun g hg => .inl hg)
  rw [hv2, ← hcn] at hon
  have hc := refG_inst h1 time cs o j hon h3.on (fun g hg => hg.elim (h1.sep g) (fun q e => (h5 g e).2 (by rw [hv2, ← hcn]; exact q))) (fun x hx => hsm (toCh x) (by rw [← h4]; exact List.mem_map.2 ⟨x, hx, rfl⟩)) (by rw [hcn]; omega) hxl hg
  rw [hcn, h4, h2] at hc
  refine hc.mono ?_
  rintro e w' ⟨q1, q2, q3⟩
  have hz : ∀ g, ownB d v g → Z g := fun g hg => h6 g (.inl hg)
  have hrw : RW F B w' b d t v2 cs := h3.move (fun g hg => q3.2 g (by
    rcases hg with hg | hg | hg
    · rw [hg]; exact h3.ltb
    · exact (h3.row.blk hg).2
    · exact h3.fb g hg) (fun e => by
    rcases hg with hg | hg | hg
    · exact (h5 g e).1 hg
    · exact (h5 g e).2 hg
    · exact h1.sep g hg e)) q3.1.size
  refine ⟨q1, q3.weak fun g _ e => hz g e, ?_⟩
  unfold instS
  by_cases hE : instE S time own = 0
  · rw [if_pos hE]
    rw [if_pos (by exact hE)] at q2
    obtain ⟨v', p1, p2⟩ := q2
    have hnew : ∀ g, ownB d v' g → ownB d v g ∨ (w.heap.size ≤ g ∧ g < w'.heap.size) := fun g hg => by
      rcases hg with hg | hg
      · exact .inl (.inl hg)
      · rcases p2 g hg with q | q
        · exact .inl (.inr q)
        · exact .inr ⟨q, (p1.own (.inr hg)).2⟩
    refine ⟨fun g => Z g ∨ (w.heap.size ≤ g ∧ g < w'.heap.size), ⟨F, v', v2, xs ++ cs.map (toOnG time), cs, p1, ?_, hrw, h4, fun g hg => ?_, fun g hg => ?_, fun g hg => ?_, h8⟩, fun _ q => .inl q, fun g q => q.elim .inl (fun q => .inr q.1)⟩
    · rw [List.map_append, h2, List.map_map, ← h4]
      unfold layC
      rw [List.map_map]
      rfl
    · rcases hnew g hg with q | q
      · exact h5 g q
      · exact ⟨fun e => by have := h3.ltb; omega, fun e => by have := (h3.row.blk e).2; omega⟩
    · rcases hg with hg | hg
      · exact (hnew g hg).elim (fun q => .inl (hz g q)) .inr
      · exact .inl (h6 g (.inr hg))
    · have hs := q3.1.size
      rcases hg with (hg | hg) | hg
      · have := h7 g (.inl hg); omega
      · exact hg.2
      · have := h7 g (.inr hg); omega
  · rw [if_neg hE]
    rw [if_neg (by exact hE)] at q2
    exact ⟨Z, ⟨F, v, v2, xs, cs, q2, h2, hrw, h4, h5, h6, fun g hg => Nat.lt_of_lt_of_le (h7 g hg) q3.1.size, h8⟩, fun _ q => q, fun _ q => .inl q⟩
/-- a view of the document's store that keeps nothing yet -/
theorem ws_of {F : Nat → Prop} {v : Value} {xs : List OnV} {gv la : Nat} (hs : RefG F B w d v xs gv la) (hc : w.heap[b]? = some (.cells #[.pointer (some ⟨d, 0, none⟩), .int .u64 (t : Int), .slice none 0 0] 94 (0, 0))) (hB : B ≤ b)
    (hn : ∀ g, (ownB d v g ∨ F g) → g ≠ b) (hz : ∀ g, (ownB d v g ∨ g = b ∨ F g) → Z g) (hl : ∀ g, Z g ∨ Z1 g → g < w.heap.size) : WS Z Z1 B w b d t ⟨xs.map toOn, gv, la⟩ [] :=
  ⟨F, v, .slice none 0 0, xs, [], hs, rfl, ⟨hc, OwnsCh.nil _ _, fun _ hx => (by cases hx), hB, fun g hg => ⟨hn g (.inr hg), fun e => (by cases e)⟩, hs.fb⟩, rfl, fun g hg => ⟨hn g (.inl hg), fun e => (by cases e)⟩, fun g hg => hz g (by
    rcases hg with hg | hg | hg | hg
    · exact .inl hg
    · exact .inr (.inl hg)
    · cases hg
    · exact .inr (.inr hg)), hl, List.Pairwise.nil⟩
/-- another view of the same store -/
theorem WS.again (h : WS Z Z1 B w b d t S own) {w' : World} {b' t' : Nat} (hb : Below w.heap.size w w') (hn : w.heap.size ≤ b') (hc : w'.heap[b']? = some (.cells #[.pointer (some ⟨d, 0, none⟩), .int .u64 (t' : Int), .slice none 0 0] 94 (0, 0))) :
    WS (fun g => Z g ∨ g = b') Z1 B w' b' d t' S [] := by
  have hlow := h.lowB
  obtain ⟨F, v, v2, xs, cs, h1, h2, h3, h4, h5, h6, h7, h8⟩ := h
  have hS : S = ⟨xs.map toOn, S.given, S.last⟩ := by rw [h2]
  have hb' : b' < w'.heap.size := (Array.getElem?_eq_some_iff.1 hc).1
  rw [hS]
  refine ws_of (h1.below hb) hc (by omega) (fun g hg => ?_) (fun g hg => ?_) (fun g hg => ?_)
  · rcases hg with hg | hg
    · have := (h1.own hg).2; omega
    · have := h1.fb g hg; omega
  · rcases hg with hg | hg | hg
    · exact .inl (h6 g (.inl hg))
    · exact .inr hg
    · exact .inl (h6 g (.inr (.inr (.inr hg))))
  · have hs := hb.size
    rcases hg with (hg | hg) | hg
    · have := h7 g (.inl hg); omega
    · omega
    · have := h7 g (.inr hg); omega
end
end Go.Proofs.Ytkackejipgabfaa.Char

/- The walks of a view's New and Time. -/
namespace Go.Proofs.Ytkackejipgabfaa.Char
open Go.RowKit Go.Lib Go.Maps

theorem eql_store_nil (s : Nat) (w : World) : (binOp .eql 45 (.pointer (some ⟨s, 0, none⟩)) (.pointer none)).run Try.prog w = .ok (.bool false) w := by
  have h : ∀ d : Nat, (Op.equalIn (d + 1) 45 (.pointer (some ⟨s, 0, none⟩)) (.pointer none)).run Try.prog w = .ok false w := fun d => by
    simp [Op.equalIn, run_underlying Try.underlying45]
  simp only [binOp]
  simp [Op.equal, Op.maxDepth, h 9999]
set_option maxRecDepth 100000 in
set_option maxHeartbeats 4000000 in
theorem newV_any (B : Nat) (sb t : Nat) (w : World) (hB : B ≤ w.heap.size) :
    Calls Try.prog 20 #[.pointer (some ⟨sb, 0, none⟩), .int .u64 (t : Int)] w fun e w' => ∃ b mb, e = .returned (.pointer (some ⟨b, 0, none⟩)) ∧ PV (fun g => w.heap.size ≤ g ∧ g < w'.heap.size) B w' b sb mb t (.map []) [] ∧ Below w.heap.size w w' := by
  have hmk : ∀ w, (Instr.makeMap 61 none).run Try.prog w = .ok (.map (some w.heap.size)) (w.alloc (.map #[] 0)) := fun w => run_makeMap _ w
  have he := eql_store_nil sb w
  obtain ⟨W2, hW2⟩ : ∃ W2, W2 = (w.alloc (.map #[] 0)).alloc (.cells #[.pointer (some ⟨w.heap.size + 1, 0, none⟩), .pointer (some ⟨sb, 0, none⟩), .int .u64 (t : Int), .map (some w.heap.size)] 63) := ⟨_, rfl⟩
  have hs : W2.heap.size = w.heap.size + 2 := by rw [hW2]; simp
  have hb : Below w.heap.size w W2 := by rw [hW2]; exact ((Below.refl _ _).alloc (Nat.le_refl _) _).alloc (by simp) _
  have hc : W2.heap[w.heap.size + 1]? = some (.cells #[.pointer (some ⟨w.heap.size + 1, 0, none⟩), .pointer (some ⟨sb, 0, none⟩), .int .u64 (t : Int), .map (some w.heap.size)] 63 (0, 0)) := by
    rw [hW2]
    have := World.alloc_heap_new (w.alloc (.map #[] 0)) (.cells #[.pointer (some ⟨w.heap.size + 1, 0, none⟩), .pointer (some ⟨sb, 0, none⟩), .int .u64 (t : Int), .map (some w.heap.size)] 63)
    simpa using this
  have hm : W2.ownsMap Try.prog 3 heldE w.heap.size 0 (.map []) := by rw [hW2]; exact World.ownsMap.alloc (World.ownsMap_made w _ _ _) _
  have hP : PV (fun g => w.heap.size ≤ g ∧ g < W2.heap.size) B W2 (w.heap.size + 1) sb w.heap.size t (.map []) [] :=
    ⟨hc, hm, by simp [Maps.size], fun _ => rfl, fun id r hr => (by cases hr), fun id _ => Maps.atKey_of_not_has (D := .map []) (k := kI id) rfl _, fun c hc => (by cases hc), ⟨by omega, by omega⟩, ⟨by omega, by omega⟩, fun g hg => ⟨by omega, hg.2⟩, List.Pairwise.nil, fun c hc => (by cases hc)⟩
  have HB := Lib.hid hb
  have HP := Lib.hid hP
  have HW := Lib.hid hW2
  clear hb hP hm hc hW2 hs
  go_enter Try.func20, Try.ntmps20
  go_wp2_with fail
  go_ret
  rw [← HW.out]
  exact ⟨_, _, rfl, HP.out, HB.out⟩
end Go.Proofs.Ytkackejipgabfaa.Char

/- The program's Install beside a view of the store. -/
namespace Go.Proofs.Ytkackejipgabfaa.Char
open Go.RowKit Go.Lib

section
variable {Z Z1 : Nat → Prop} {B : Nat} {w : World} {b sb t : Nat} {S : Sto} {own : Own}
theorem vs_inst (h : VS Z Z1 B w b sb t S own) (time : Nat) (cs : List ChV) (o : Option Addr) (j : Nat) {F : Nat → Prop} (hF : ∀ g, F g → ¬ Z1 g) (hc : ChsOn w F (.slice o cs.length j) cs) (hsm : ∀ x, x ∈ cs → RcSm x.2.1) (hcl : cs.length ≤ 2 ^ 44) (hg : S.given ≤ 10000000) (hl : S.L.length ≤ 10000000) :
    Calls Try.prog 26 #[.pointer (some ⟨sb, 0, none⟩), .int .u64 (time : Int), .slice o cs.length j] w fun e w' => e = .returned (.int .i64 (instE S time (cs.map toCh) : Int)) ∧ Only B Z1 w w' ∧
      ∃ Z1', VS Z Z1' B w' b sb t (instS S time (cs.map toCh)) own ∧ (∀ g, Z1 g → Z1' g) ∧ ∀ g, Z1' g → Z1 g ∨ w.heap.size ≤ g := by
  obtain ⟨mb, D, h1, h2, h3⟩ := h
  have hB : B ≤ w.heap.size := by have := (h1.zB b h1.zb).1; have := h1.lt; omega
  refine (ps_inst h2 time cs o j hB hF hc hsm hcl hg hl).mono ?_
  rintro e w' ⟨q1, q2, Z1', q3, q4, q5⟩
  refine ⟨q1, q2, Z1', ⟨mb, D, h1.move (fun g hg => q2.2 g (h1.zB g hg).2 (h3 g hg)) q2.1.size, q3, fun g hg hz => ?_⟩, q4, q5⟩
  rcases q5 g hz with q | q
  · exact h3 g hg q
  · have := (h1.zB g hg).2; omega
/-- a new view of the store -/
theorem vs_new (h : PS Z1 B w sb S) (hB : B ≤ w.heap.size) (t : Nat) :
    Calls Try.prog 20 #[.pointer (some ⟨sb, 0, none⟩), .int .u64 (t : Int)] w fun e w' => ∃ b, e = .returned (.pointer (some ⟨b, 0, none⟩)) ∧ VS (fun g => w.heap.size ≤ g ∧ g < w'.heap.size) Z1 B w' b sb t S [] ∧ Below w.heap.size w w' := by
  refine (newV_any B sb t w hB).mono ?_
  rintro e w' ⟨b, mb, q1, q2, q3⟩
  exact ⟨b, q1, ⟨mb, _, q2, h.below q3, fun g hg hz => by have := (h.zB g hz).2; omega⟩, q3⟩
end
end Go.Proofs.Ytkackejipgabfaa.Char
