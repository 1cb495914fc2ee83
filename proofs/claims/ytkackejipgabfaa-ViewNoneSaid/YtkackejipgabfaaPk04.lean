/- Install9 Ties PS9 MadeV CopiedV ViewM -/
import Derived.Test.YtkackejipgabfaaPk02
import Derived.Test.YtkackejipgabfaaPk03
import Derived.Deep.RegionHeld3
import Derived.Test.YtkackejipgabfaaPk01
import Derived.LaidEqlPtr
import Derived.Test.YtkackejipgabfaaPk00
/- The walk of the program's Install. -/
namespace Go.Proofs.Ytkackejipgabfaa.Char
open Go.RowKit Go.Lib Go.Maps

/-- the versions when changes have been laid -/
def layX (X : Int → List VeV) (t : Nat) (ys : List ChV) : Int → List VeV := fun id => X id ++ (ys.filter fun c => c.1 == id).map fun c => (t, c.2)
theorem layX_nil (X : Int → List VeV) (t : Nat) : layX X t [] = X := funext fun id => by simp [layX]
theorem layX_snoc (X : Int → List VeV) (t : Nat) (ys : List ChV) (y : ChV) : layX X t (ys ++ [y]) = setF (layX X t ys) y.1 (layX X t ys y.1 ++ [(t, y.2)]) := funext fun id => by
  unfold layX setF
  rw [List.filter_append]
  by_cases h : id = y.1
  · subst h; simp
  · have h2 : (y.1 == id) = false := beq_eq_false_iff_ne.2 (Ne.symm h)
    simp [h, h2]
theorem layX_new {X : Int → List VeV} {t : Nat} {ys : List ChV} {id : Int} (h : id ∉ ys.map (·.1)) : layX X t ys id = X id := by
  unfold layX
  rw [List.filter_eq_nil_iff.2 fun c hc => by
    have : c.1 ≠ id := fun e => h (e ▸ List.mem_map_of_mem hc)
    simpa using this]
  simp
theorem upX_snoc {xs : List VeV} {y : VeV} (h : upX xs) (hy : ∀ x, x ∈ xs → x.1 < y.1) : upX (xs ++ [y]) :=
  List.pairwise_append.2 ⟨h, List.pairwise_singleton _ _, fun a ha c hc => by rw [List.mem_singleton] at hc; subst hc; exact hy a ha⟩
/-- what Install tells -/
def instN (gv lt t : Nat) (cs : List (Int × Rc)) : Nat := if t ≤ lt then 43 else if badC gv [] cs then 2 else 0
/-- what is behind Install -/
def InsP (Z : Nat → Prop) (B : Nat) (w : World) (b gv t : Nat) (X : Int → List VeV) (cs : List ChV) (E : Nat) : Ending → World → Prop := fun e w' => e = .returned (.int .i64 (E : Int)) ∧
  (E ≠ 0 → Below w.heap.size w w') ∧ (E = 0 → Only B Z w w' ∧ ∃ Z' mb n D V ys, PSt Z' B w' b mb n D V (layX X t ys) gv t ∧ ys.map toCh = cs.map toCh ∧ (∀ g, Z g → Z' g) ∧ ∀ g, Z' g → Z g ∨ w.heap.size ≤ g)
theorem notin_dist {cs : List ChV} (h : (cs.map toCh).Pairwise fun a b => a.1 ≠ b.1) {k : Nat} (hk : k < cs.length) : cs[k].1 ∉ (cs.take k).map (·.1) := fun hm => by
  obtain ⟨c, hc, e⟩ := List.mem_map.1 hm
  obtain ⟨i, hi, rfl⟩ := List.getElem_of_mem hc
  rw [List.length_take] at hi
  have := List.pairwise_iff_getElem.1 h i k (by simp; omega) (by simp; omega) (by omega)
  rw [List.getElem_map, List.getElem_map] at this
  rw [List.getElem_take] at e
  exact this e
/-- the rounds of the laying -/
structure LayI (Z : Nat → Prop) (B : Nat) (w : World) (b mb gv lt t : Nat) (X : Int → List VeV) (cs : List ChV) (W : World) : Prop where
  st : ∃ Z' D V ys, PSt Z' B W b mb gv D V (layX X t ys) gv lt ∧ ys.map toCh = cs.map toCh ∧ (∀ g, Z g → Z' g) ∧ ∀ g, Z' g → Z g ∨ w.heap.size ≤ g
  only : Only B Z w W
set_option maxRecDepth 100000 in
set_option maxHeartbeats 8000000 in
theorem inst_any {Z : Nat → Prop} {B : Nat} {w : World} {b mb n : Nat} {D : DataW Value} {V : Int → Value} {X : Int → List VeV} {gv lt : Nat} (h : PSt Z B w b mb n D V X gv lt) (t : Nat) (cs : List ChV) (o : Option Addr) (j : Nat) (hB : B ≤ w.heap.size) {F : Nat → Prop} (hF : ∀ g, F g → ¬ Z g) (hc : ChsOn w F (.slice o cs.length j) cs) (hsm : ∀ x, x ∈ cs → RcSm x.2.1) (hcl : cs.length ≤ 2 ^ 44) (hg : gv ≤ 10000000)
    (htm : ∀ id x, x ∈ X id → x.1 ≤ lt) (hlx : ∀ id, (X id).length ≤ 10000000) :
    Calls Try.prog 26 #[.pointer (some ⟨b, 0, none⟩), .int .u64 (t : Int), .slice o cs.length j] w (InsP Z B w b gv t X cs (instN gv lt t (cs.map toCh))) := by
  obtain ⟨E, hE⟩ : ∃ E, instN gv lt t (cs.map toCh) = E := ⟨_, rfl⟩
  rw [hE]
  unfold instN at hE
  have hM := made_yes b w h.cells.1
  have c2 := h.cells.2.2.1
  have hFi := fit_any h cs o j hc hsm hcl hg
  have HT0 := Lib.hid h.tight
  clear h
  by_cases ht : t ≤ lt
  · have k1 : (t : Int) ≤ (lt : Int) := by omega
    rw [if_pos ht] at hE
    subst hE
    clear hc hsm htm hlx hFi HT0
    go_enter Try.func26, Try.ntmps26
    go_wp2_with (go_at_call 54; refine hM.mono ?_; rintro e w' ⟨rfl, hw'⟩; rw [hw']; clear hw')
    go_ret
    exact ⟨rfl, fun _ => Below.refl _ _, fun h => by cases h⟩
  · have k1 : ¬ (t : Int) ≤ (lt : Int) := by omega
    rw [if_neg ht] at hE
    cases hb : badC gv [] (cs.map toCh) with
    | true =>
      rw [hb, if_pos rfl] at hE
      rw [hb] at hFi
      subst hE
      clear hc hsm htm hlx HT0 hb
      go_enter Try.func26, Try.ntmps26
      go_wp2_with (first
        | (go_at_call 54; refine hM.mono ?_; rintro e w' ⟨rfl, hw'⟩; rw [hw']; clear hw')
        | (go_at_call 56; refine hFi.mono ?_; rintro e w1 ⟨rfl, hb1⟩))
      go_ret
      exact ⟨rfl, fun _ => hb1, fun h => by cases h⟩
    | false =>
      rw [hb, if_neg (by simp)] at hE
      rw [hb] at hFi
      subst hE
      obtain ⟨hok, hdist⟩ := bad_no hb
      have HOK := Lib.hid hok
      have HDI := Lib.hid hdist
      have HC := Lib.hid (fun wr (hb : Only B Z w wr) => (hc.move fun k hk hF' => ⟨hF', hb.2 k hk (hF k hF')⟩ : ChsOn wr F (.slice o cs.length j) cs))
      have HSM := Lib.hid hsm
      have HTM := Lib.hid htm
      have hbB := (HT0.out.zB b (HT0.out.zo b (.inl rfl)))
      clear hc hsm htm hb hok hdist
      go_enter Try.func26, Try.ntmps26
      go_wp2_with (first
        | (go_at_call 54; refine hM.mono ?_; rintro e w' ⟨rfl, hw'⟩; rw [hw']; clear hw')
        | (go_at_call 56; refine hFi.mono ?_; rintro e w1 ⟨rfl, hb1⟩))
      have hL0 : LayI Z B w b mb gv lt t X [] w1 := ⟨⟨Z, D, V, [], by rw [layX_nil]; exact HT0.out.below hb1, rfl, fun _ h => h, fun _ h => .inl h⟩, Only.of hb1 hB⟩
      have HL0 := Lib.hid hL0
      have hs1 := hb1.size
      clear hL0 hb1 hFi hM c2
      go_loopw [27] (fun i wr => ∃ k : Nat, i = .int .i64 (k : Int) ∧ k ≤ cs.length ∧ w.heap.size ≤ wr.heap.size ∧ Hid (LayI Z B w b mb gv lt t X (cs.take k) wr)) (fun v _ => cs.length - (RowKit.intOf v).toNat)
      case atStart => exact ⟨0, rfl, Nat.zero_le _, hs1, HL0⟩
      case round =>
        obtain ⟨k, rfl, hk, hwr, HK⟩ := hrel
        by_cases hlt : k < cs.length
        · obtain ⟨g, off, rfl, hg1, hat, hon⟩ := (HC.out _ HK.out.only).reads k hlt
          have hmem : toCh cs[k] ∈ cs.map toCh := List.mem_map_of_mem (List.getElem_mem hlt)
          have hsx := HSM.out _ (List.getElem_mem hlt)
          have htk := List.take_succ_eq_append_getElem hlt
          have hdk : cs[k].1 ∉ (cs.take k).map (·.1) := notin_dist HDI.out hlt
          obtain ⟨Y, hY⟩ : ∃ Y, cs[k] = Y := ⟨_, rfl⟩
          rw [hY] at hat hon hsx hmem htk hdk
          have HTK := Lib.hid htk
          clear hY htk
          obtain ⟨yi, r, va, vb⟩ := Y
          obtain ⟨ok, jk, oa, ja, e1, e2⟩ := hon.form
          dsimp only at e1 e2 hsx hdk
          subst e1 e2
          obtain ⟨a0, a1, a2, a3, a4, a5, a6, a7⟩ := hat.cells
          dsimp only at a0 a1 a2 a3 a4 a5 a6 a7
          obtain ⟨y1, y2, _⟩ := HOK.out _ hmem
          have y1 : 1 ≤ yi := y1
          have y2 : yi ≤ (gv : Int) := y2
          have hwf := wf_small y1 (by omega)
          obtain ⟨Zk, Dk, Vk, ys, p1, p2, p3, p4⟩ := HK.out.st
          have hyn : yi ∉ ys.map (·.1) := by
            have : ys.map (·.1) = (cs.take k).map (·.1) := by
              have := congrArg (List.map (·.1)) p2
              rw [List.map_map, List.map_map] at this
              exact this
            rw [this]
            exact hdk
          obtain ⟨o1, j1, hV⟩ := p1.form yi
          obtain ⟨W1, hW1⟩ : ∃ W1, W1 = wr.alloc (vB 56 (.int .i64 yi) (r, .slice ok r.ks.length jk, .slice oa r.ats.length ja)) := ⟨_, rfl⟩
          have hb1 : Below wr.heap.size wr W1 := by rw [hW1]; exact (Below.refl _ _).alloc (Nat.le_refl _) _
          have hs1 : W1.heap.size = wr.heap.size + 1 := by rw [hW1]; simp
          have hk1 : W1.heap[wr.heap.size]? = some (vB 56 (.int .i64 yi) (r, .slice ok r.ks.length jk, .slice oa r.ats.length ja)) := by rw [hW1]; exact World.alloc_heap_new wr _
          obtain ⟨⟨d0, d1, d2, d3, d4, d5, d6, d7⟩, _⟩ := vB_blk hk1
          dsimp only at d0 d1 d2 d3 d4 d5 d6 d7
          have hbl := p1.lt'
          have hP1 := p1.below hb1
          have c3 := hP1.cells.2.2.2.1
          have hlk := hP1.look hwf
          rw [hV, layX_new hyn] at hlk
          have HLK := Lib.hid (fun (W : World) (hbW : Below wr.heap.size wr W) => (p1.below hbW).look hwf)
          have HCO := fun w' (hb : Below W1.heap.size W1 w') => Lib.hid (copied_any (r, .slice ok r.ks.length jk, .slice oa r.ats.length ja) F w' ((hon.below hb1).below hb) hsx)
          have KS := Lib.hid (fun (W : World) (hb : ∀ q, q = b ∨ q = wr.heap.size → W.heap[q]? = W1.heap[q]?) => (⟨(World.cell?_of_block (w := W1) (a := ⟨b, 3, none⟩) (hb b (.inl rfl))).trans c3, (World.cell?_of_block (w := W1) (a := ⟨wr.heap.size, 0, none⟩) (hb _ (.inr rfl))).trans d0, (World.cell?_of_block (w := W1) (a := ⟨wr.heap.size, 1, none⟩) (hb _ (.inr rfl))).trans d1, (World.cell?_of_block (w := W1) (a := ⟨wr.heap.size, 2, none⟩) (hb _ (.inr rfl))).trans d2, (World.cell?_of_block (w := W1) (a := ⟨wr.heap.size, 3, none⟩) (hb _ (.inr rfl))).trans d3, (World.cell?_of_block (w := W1) (a := ⟨wr.heap.size, 4, none⟩) (hb _ (.inr rfl))).trans d4, (World.cell?_of_block (w := W1) (a := ⟨wr.heap.size, 5, none⟩) (hb _ (.inr rfl))).trans d5, (World.cell?_of_block (w := W1) (a := ⟨wr.heap.size, 6, none⟩) (hb _ (.inr rfl))).trans d6, (World.cell?_of_block (w := W1) (a := ⟨wr.heap.size, 7, none⟩) (hb _ (.inr rfl))).trans d7⟩ : W.cell? ⟨b, 3, none⟩ = some (.map (some mb)) ∧ W.cell? ⟨wr.heap.size, 0, none⟩ = some (.int .i64 yi) ∧ W.cell? ⟨wr.heap.size, 1, none⟩ = some (.int .i64 r.kd) ∧ W.cell? ⟨wr.heap.size, 2, none⟩ = some (.string (bs r.nm)) ∧ W.cell? ⟨wr.heap.size, 3, none⟩ = some (.string (bs r.tx)) ∧ W.cell? ⟨wr.heap.size, 4, none⟩ = some (.int .i64 r.pa) ∧ W.cell? ⟨wr.heap.size, 5, none⟩ = some (.slice ok r.ks.length jk) ∧ W.cell? ⟨wr.heap.size, 6, none⟩ = some (.slice oa r.ats.length ja) ∧ W.cell? ⟨wr.heap.size, 7, none⟩ = some (.bool r.gone)))
          have hrow := p1.row yi
          rw [layX_new hyn] at hV
          rw [hV, layX_new hyn] at hrow
          unfold rcV at HCO
          dsimp only at HCO
          have HW1 := Lib.hid hW1
          have HB1 := Lib.hid hb1
          have HP := Lib.hid p1
          have HROW := Lib.hid hrow
          have HV := Lib.hid hV
          have HP2 := Lib.hid p2
          have HP3 := Lib.hid p3
          have HP4 := Lib.hid p4
          have HYN := Lib.hid hyn
          have HSX := Lib.hid hsx
          have hlx1 := hlx yi
          have hneb := p1.ne_b yi
          unfold vB at HW1
          dsimp only at HW1
          clear hat hon hsx hmem hb1 hW1 hk1 p1 p2 p3 p4 hrow hyn hdk hP1
          go_wp2_with fail
          rw [← HW1.out]
          have hlkd : (Instr.lookup 110 (.map (some mb)) (.int .i64 yi) false).run Try.prog W1.drew = .ok (.slice o1 (X yi).length j1) W1.drew := by
            have := HLK.out W1.drew HB1.out.drew
            rwa [HV.out] at this
          have s1 := KS.out W1.drew (fun _ _ => rfl)
          go_region_held3 (fun w' => w'.cell? ⟨b, 3, none⟩ = some (.map (some mb)) ∧ w'.cell? ⟨wr.heap.size, 0, none⟩ = some (.int .i64 yi) ∧ w'.cell? ⟨wr.heap.size, 1, none⟩ = some (.int .i64 r.kd) ∧ w'.cell? ⟨wr.heap.size, 2, none⟩ = some (.string (bs r.nm)) ∧ w'.cell? ⟨wr.heap.size, 3, none⟩ = some (.string (bs r.tx)) ∧ w'.cell? ⟨wr.heap.size, 4, none⟩ = some (.int .i64 r.pa) ∧ w'.cell? ⟨wr.heap.size, 5, none⟩ = some (.slice ok r.ks.length jk) ∧ w'.cell? ⟨wr.heap.size, 6, none⟩ = some (.slice oa r.ats.length ja) ∧ w'.cell? ⟨wr.heap.size, 7, none⟩ = some (.bool r.gone))
            (first | exact s1 | exact s3 | exact s3a _ | exact s4 | exact s5)
            (first
              | (go_at_call 57
                 refine (HCO _ (by first | exact (Below.refl _ _).drew | exact Below.refl _ _)).out.mono ?_
                 rintro e w3 ⟨⟨r', va', vb'⟩, q1, rfl, q3, q4⟩
                 dsimp only at q1
                 subst q1
                 obtain ⟨ok2, jk2, oa2, ja2, e1, e2⟩ := q3.form
                 dsimp only at e1 e2
                 subst e1 e2
                 have hb3 : Below W1.heap.size W1 w3 := ((Below.refl _ _).drew).trans q4
                 have hb30 : Below wr.heap.size wr w3 := HB1.out.trans (hb3.mono (by omega))
                 have s3 := KS.out w3 (fun q hq => hb3.block q (by rcases hq with rfl | rfl <;> omega))
                 have s3a := fun o => KS.out (w3.alloc o) (fun q hq => (hb3.alloc (Nat.le_trans (Nat.le_refl _) hb3.size) o).block q (by rcases hq with rfl | rfl <;> omega))
                 have hlk3 : (Instr.lookup 110 (.map (some mb)) (.int .i64 yi) false).run Try.prog w3 = .ok (.slice o1 (X yi).length j1) w3 := by
                   have := HLK.out w3 hb30
                   rwa [HV.out] at this
                 have hlk3a : ∀ o, (Instr.lookup 110 (.map (some mb)) (.int .i64 yi) false).run Try.prog (w3.alloc o) = .ok (.slice o1 (X yi).length j1) (w3.alloc o) := fun o => by
                   have := HLK.out (w3.alloc o) (hb30.alloc hb30.size o)
                   rwa [HV.out] at this
                 have HB30 := Lib.hid hb30
                 have HQ3 := Lib.hid q3
                 have HB3 := Lib.hid hb3
                 clear q3 q4 hb3 hb30
                 unfold rcV
                 dsimp only)
              | (refine step_pushVe rfl (.tmp 43) (.tmp 49) rfl t (r', .slice ok2 r'.ks.length jk2, .slice oa2 r'.ats.length ja2) ⟨_, _, _, _, _, _, rfl, rfl⟩ w3.heap.size (World.alloc_heap_new w3 _) (OwnsVe.keep HROW.out (fun q hq => (HB30.out.alloc HB30.out.size _).block q (HROW.out.blk hq).2)) rfl rfl (by have := HB30.out.size; simp; omega) (by omega) ?_
                 intro g2 cap w4 hown4 hb4 hk4 hl4
                 have hs34 := HB30.out.size
                 have hrb : ∀ q, (Value.slice o1 (X yi).length j1).ownBlock = some q → q < wr.heap.size ∧ q ≠ b ∧ q ≠ mb := fun q hq => ⟨(HROW.out.blk hq).2, fun e => by rw [HV.out] at hneb; exact hneb (e ▸ hq), fun e => HP.out.ne_m yi (by rw [HV.out]; exact e ▸ hq)⟩
                 have hf4 : ∀ q, q < wr.heap.size → some q ≠ (Value.slice o1 (X yi).length j1).ownBlock → w4.heap[q]? = wr.heap[q]? := fun q q1 q2 => (hk4 q (by simp; omega) q2).trans ((HB30.out.alloc HB30.out.size _).block q q1)
                 have hw4 : ∀ q, q = b ∨ q = wr.heap.size → w4.heap[q]? = W1.heap[q]? := fun q hq => (hk4 q (by rcases hq with rfl | rfl <;> simp <;> omega) (fun e => by
                   have := hrb q e.symm
                   rcases hq with rfl | rfl
                   · exact this.2.1 rfl
                   · omega)).trans ((HB3.out.alloc HB3.out.size _).block q (by rcases hq with rfl | rfl <;> omega))
                 have s4 := KS.out w4 hw4
                 have hs44 : wr.heap.size < w4.heap.size := by have := hb4.size; simp at this; omega
                 have hmz := (HP.out.zB mb (HP.out.zo mb (.inr (.inl rfl)))).2
                 have hbm := HP.out.b_ne_m
                 obtain ⟨es, clock, u0, u1, u2, u3⟩ := HP.out.own
                 have own4 : w4.ownsMap Try.prog 3 heldE mb gv Dk := ⟨es, clock, (hf4 mb hmz (fun e => (hrb mb e.symm).2.2 rfl)).trans u0, u1, u2, u3⟩
                 obtain ⟨w5, hrun, how, hturn⟩ := own4.store law_int Try.underlying110 (by unfold maxLen; omega) (key_int hwf) (show heldE (.slice (some ⟨g2, 0, none⟩) ((X yi).length + 1) cap) = some (.held (.slice (some ⟨g2, 0, none⟩) ((X yi).length + 1) cap), []) from rfl)
                 have s5 := KS.out w5 (fun q hq => (hturn.grown.block q (by rcases hq with rfl | rfl <;> omega) (fun e => by
                   have e2 := Option.some.inj e
                   rcases hq with rfl | rfl
                   · exact hbm e2
                   · omega)).trans (hw4 q hq))
                 have HO4 := Lib.hid hown4
                 have HB4 := Lib.hid hb4
                 have HK4 := Lib.hid hk4
                 have HL4 := Lib.hid hl4
                 have HF4 := Lib.hid hf4
                 have HHOW := Lib.hid how
                 have HTU := Lib.hid hturn
                 clear hown4 hb4 hk4 hl4 hf4 u0 u1 u2 u3 own4 how hturn))
          all_goals
            have HNX : Hid (LayI Z B w b mb gv lt t X (cs.take (k + 1)) w5) := Lib.hid (by
              have hg5 := HTU.out.grown
              have hs5 := hg5.size
              have hz1 := HB30.out.size
              have hz2 := HB3.out.size
              have hz4 : w3.heap.size + 1 ≤ w4.heap.size := by have := HB4.out.size; simpa using this
              have hown := HO4.out
              have hblk : ∀ q, (Value.slice (some ⟨g2, 0, none⟩) ((X yi).length + 1) cap).ownBlock = some q → q = g2 := fun q hq => by simpa [Value.ownBlock] using hq.symm
              have hg2 : g2 < w4.heap.size := (hown.blk (g := g2) rfl).2
              have hl4 : (Value.slice o1 (X yi).length j1).ownBlock = some g2 ∨ w3.heap.size + 1 ≤ g2 := by have := HL4.out; simpa using this
              have ht := HP.out.turn (Z' := fun q => Zk q ∨ (wr.heap.size ≤ q ∧ q < w5.heap.size)) (w1 := w4) (w2 := w5) (id := yi) (v1 := .slice (some ⟨g2, 0, none⟩) ((X yi).length + 1) cap) (ys := X yi ++ [(t, r', .slice ok2 r'.ks.length jk2, .slice oa2 r'.ats.length ja2)]) hown
                (fun q q1 q2 => HF4.out q q1 (by rw [HV.out] at q2; exact q2)) (by omega)
                (fun q hq => by
                  rw [hblk q hq, HV.out]
                  rcases hl4 with h1 | h1
                  · exact .inl h1
                  · exact .inr ⟨by omega, .inr ⟨by omega, by omega⟩⟩)
                (fun q hq => .inl hq) (fun q hq => by
                  rcases hq with h1 | h1
                  · have := HP.out.zB q h1; exact ⟨this.1, by omega⟩
                  · exact ⟨by omega, h1.2⟩)
                (fun x hx => by
                  rw [List.mem_append, List.mem_singleton] at hx
                  rcases hx with hx | rfl
                  · exact .inl (by rw [layX_new HYN.out]; exact hx)
                  · refine .inr ⟨HQ3.out.move fun q hq hF => ?_, HSX.out⟩
                    have hF' : W1.heap.size ≤ q := hF
                    refine ⟨⟨by omega, .inr ⟨by omega, by omega⟩, fun e => ?_⟩, ?_⟩
                    · have := hblk q e
                      rcases hl4 with h1 | h1
                      · have := (hrb g2 h1).1; omega
                      · omega
                    · exact (HK4.out q (by simp; omega) (fun e => by have := (hrb q e.symm).1; omega)).trans (Below.heap_alloc w3 _ q hq))
                (upX_snoc (by have := HP.out.ups yi; rwa [layX_new HYN.out] at this) (fun x hx => by have := HTM.out yi x hx; show x.1 < t; omega)) (fun _ => ⟨y1, y2⟩) HHOW.out
                (fun q => by
                  rw [has_put HP.out.own.isMap]
                  have he : (X yi ++ [((t, r', Value.slice ok2 r'.ks.length jk2, Value.slice oa2 r'.ats.length ja2) : VeV)]).isEmpty = false := by cases X yi <;> rfl
                  rw [he]; rfl) (fun q => by rw [val_put HP.out.own.isMap]) (fun q q1 q2 => hg5.block q q1 (fun e => q2 (by cases e; rfl)))
              have hB5 : Below B wr w5 := (((HB30.out.mono (by omega)).alloc (by omega) _).trans HB4.out).grown hg5 (by omega) (fun q hq => by cases hq; exact (HP.out.zB mb (HP.out.zo mb (.inr (.inl rfl)))).1)
              have hst := ht.tight
              have hX : setF (layX X t ys) yi (X yi ++ [(t, r', Value.slice ok2 r'.ks.length jk2, Value.slice oa2 r'.ats.length ja2)]) = layX X t (ys ++ [((yi, r', Value.slice ok2 r'.ks.length jk2, Value.slice oa2 r'.ats.length ja2) : ChV)]) := by rw [layX_snoc, layX_new HYN.out]
              rw [hX] at hst
              refine ⟨⟨_, _, _, ys ++ [((yi, r', Value.slice ok2 r'.ks.length jk2, Value.slice oa2 r'.ats.length ja2) : ChV)], hst, ?_, fun q hq => .inl (HP3.out q hq), fun q hq => ?_⟩, HK.out.only.1.trans hB5, fun q q1 q2 => ?_⟩
              · rw [List.map_append, HP2.out, HTK.out, List.map_append]
                rfl
              · rcases hq with h1 | h1
                · exact HP4.out q h1
                · exact .inr (by omega)
              · have hqm : q ≠ mb := fun e => q2 (by rw [e]; exact HT0.out.zo mb (.inr (.inl rfl)))
                have hqr : some q ≠ (Value.slice o1 (X yi).length j1).ownBlock := fun e => by
                  rcases HP4.out q (HP.out.zo q (.inr (.inr ⟨yi, by rw [HV.out]; exact e.symm⟩))) with h1 | h1
                  · exact q2 h1
                  · omega
                exact ((hg5.block q (by omega) (fun e => hqm (by cases e; rfl))).trans (HF4.out q (by omega) hqr)).trans (HK.out.only.2 q q1 q2))
            have hs5 : w.heap.size ≤ w5.heap.size := HNX.out.only.1.size
            go_wp2_with fail
            go_roundw
            case rel => exact ⟨k + 1, by go_num, by omega, hs5, HNX⟩
            case measure => simp [RowKit.intOf]; omega
        · have hke : k = cs.length := by omega
          subst hke
          rw [List.take_length] at HK
          obtain ⟨Z', D', V', ys, h1, h2, h3, h4⟩ := HK.out.st
          have c2 := h1.cells.2.2.1
          have f2 := h1.cells.2.2.2.2 2
          have HST := Lib.hid h1
          clear h1
          go_wp2_with fail
          go_ret
          have hc := heap_set_at (i := 2) (u := .int .u64 (t : Int)) HST.out.cell
          refine ⟨rfl, fun h => absurd rfl h, fun _ => ⟨⟨HK.out.only.1.setCell (p := ⟨b, 2, none⟩) hbB.1 _, fun q q1 q2 => (heap_set_ne (fun e => q2 (by rw [e]; exact HT0.out.zo b (.inl rfl)))).trans (HK.out.only.2 q q1 q2)⟩, Z', mb, gv, D', V', ys, ?_, h2, h3, h4⟩⟩
          exact HST.out.turn_b (hc.trans (by simp)) (fun q hq => heap_set_ne hq) (by rw [World.size_setCell]; exact Nat.le_refl _) (Nat.le_refl _)
end Go.Proofs.Ytkackejipgabfaa.Char

/- Mathematics: the program's map of rows, and the document's one list. -/
namespace Go.Proofs.Ytkackejipgabfaa.Char
open Go.RowKit Go.Lib

/-- rows by nodes hold what one list holds -/
def Tied (X : Int → List VeV) (L : List On) : Prop := ∀ id, (X id).map toVe = versL L id
theorem Tied.len {X : Int → List VeV} {L : List On} (h : Tied X L) (id : Int) : (X id).length = (versL L id).length := by rw [← h id, List.length_map]
theorem versL_le (L : List On) (id : Int) : (versL L id).length ≤ L.length := by
  unfold versL
  rw [List.length_map]
  exact List.length_filter_le _ _
theorem Tied.empty {X : Int → List VeV} {L : List On} (h : Tied X L) (id : Int) : (X id).isEmpty = (versL L id).isEmpty := by
  have := h.len id
  cases hX : X id <;> cases hv : versL L id <;> simp_all
/-- the sum over the nodes that have a version is that over all -/
theorem cnt_all (X : Int → List VeV) (f : Int → Nat) (hf : ∀ id, X id = [] → f id = 0) (g : Nat) : ((idsX g X).map f).sum = ((List.range' 1 g).map fun id : Nat => f (id : Int)).sum := by
  unfold idsX
  have key : ∀ l : List Nat, (((l.filter fun id : Nat => !(X (id : Int)).isEmpty).map Int.ofNat).map f).sum = (l.map fun id : Nat => f (id : Int)).sum := by
    intro l
    induction l with
    | nil => rfl
    | cons a r ih =>
      rw [List.filter_cons]
      by_cases h : X (a : Int) = []
      · rw [if_neg (by simp [h]), ih, List.map_cons, List.sum_cons, hf _ h, Nat.zero_add]
      · rw [if_pos (by simpa using h), List.map_cons, List.map_cons, List.sum_cons, ih, List.map_cons, List.sum_cons]
        rfl
  exact key _
theorem cnt_len {X : Int → List VeV} {S : Sto} (h : Tied X S.L) (hi : InvS S) : cntL X (idsX S.given X) = S.L.length := by
  unfold cntL
  rw [cnt_all X (fun id => (X id).length) (fun id hid => by rw [hid]; rfl), ← count_range S.given S.L hi.ids]
  congr 1
  exact List.map_congr_left fun id _ => h.len _
theorem layC_vers (t : Nat) (cs : List (Int × Rc)) (id : Int) : versL (layC t cs) id = (cs.filter fun c => c.1 == id).map fun c => ⟨t, c.2⟩ := by
  unfold versL layC
  rw [List.filter_map, List.map_map]
  rfl
theorem Tied.lay {X : Int → List VeV} {L : List On} {t : Nat} {ys : List ChV} {cs : List (Int × Rc)} (h : Tied X L) (hy : ys.map toCh = cs) : Tied (layX X t ys) (L ++ layC t cs) := fun id => by
  unfold layX
  rw [List.map_append, h id, versL_app, layC_vers, ← hy, List.filter_map, List.map_map, List.map_map]
  rfl
theorem Tied.start : Tied X1 newS.L := fun id => by
  unfold X1 newS
  by_cases h : id = 1
  · subst h; rfl
  · rw [if_neg h, versL_cons, if_neg (fun e => h e.symm)]; rfl
theorem Tied.times {X : Int → List VeV} {S : Sto} (h : Tied X S.L) (hi : InvS S) (id : Int) (x : VeV) (hx : x ∈ X id) : x.1 ≤ S.last := by
  have : toVe x ∈ versL S.L id := by rw [← h id]; exact List.mem_map_of_mem hx
  unfold versL at this
  obtain ⟨y, hy, e⟩ := List.mem_map.1 this
  have h2 := hi.tms y (List.mem_filter.1 hy).1
  rw [e] at h2
  exact h2
/-- the document's way of asking is asking one node's versions -/
theorem at_tie (id : Int) (t : Nat) (xs : List OnV) : atV (versL (xs.map toOn) id) t = if (atR (atL id t xs)).2 = true then some (atR (atL id t xs)).1.1 else none := by
  have e : ((versL (xs.map toOn) id).filter fun x => decide (x.time ≤ t)) = (xs.filter (atF id t)).map fun x => toVe x.2 := by
    unfold versL
    rw [List.filter_map, List.filter_filter, List.filter_map, List.map_map]
    congr 1
    refine List.filter_congr fun x _ => ?_
    unfold atF
    show (decide ((toOn x).v.time ≤ t) && ((toOn x).id == id)) = _
    unfold toOn toVe
    dsimp only
    by_cases h1 : x.1 = id <;> by_cases h2 : x.2.1 ≤ t <;> simp [h1, h2]
  unfold atV atL
  rw [e, List.getLast?_map]
  cases (xs.filter (atF id t)).getLast? with
  | none => rfl
  | some x =>
    show (if (toVe x.2).r.gone = true then none else some (toVe x.2).r) = _
    unfold atR toVe
    dsimp only
    by_cases hg : x.2.2.1.gone = true
    · simp [hg]
    · simp [hg]
theorem atR_none {c : Option OnV} (h : (atR c).2 = false) : (atR c).1 = rcV0 := by
  unfold atR at h ⊢
  cases c with
  | none => rfl
  | some x =>
    dsimp only at h ⊢
    split at h
    · rename_i hg; rw [if_pos hg]
    · cases h
end Go.Proofs.Ytkackejipgabfaa.Char

/- The program's store and the document's, side by side: what each call does. -/
namespace Go.Proofs.Ytkackejipgabfaa.Char
open Go.RowKit Go.Lib

/-- the program's store at b is the document's S; its blocks are Z -/
def PS (Z : Nat → Prop) (B : Nat) (w : World) (b : Nat) (S : Sto) : Prop := ∃ mb n D V X, PSt Z B w b mb n D V X S.given S.last ∧ Tied X S.L ∧ InvS S
section
variable {Z : Nat → Prop} {B : Nat} {w : World} {b : Nat} {S : Sto}
theorem PS.below (h : PS Z B w b S) {w' : World} (hb : Below w.heap.size w w') : PS Z B w' b S := by
  obtain ⟨mb, n, D, V, X, h1, h2, h3⟩ := h
  exact ⟨mb, n, D, V, X, h1.below hb, h2, h3⟩
theorem PS.move (h : PS Z B w b S) {w' : World} (hz : ∀ g, Z g → w'.heap[g]? = w.heap[g]?) (hs : w.heap.size ≤ w'.heap.size) : PS Z B w' b S := by
  obtain ⟨mb, n, D, V, X, h1, h2, h3⟩ := h
  exact ⟨mb, n, D, V, X, h1.move hz hs, h2, h3⟩
theorem PS.zB (h : PS Z B w b S) : ∀ g, Z g → B ≤ g ∧ g < w.heap.size := by
  obtain ⟨mb, n, D, V, X, h1, _⟩ := h
  exact h1.zB
theorem PS.inv (h : PS Z B w b S) : InvS S := by
  obtain ⟨mb, n, D, V, X, _, _, h3⟩ := h
  exact h3
theorem ps_new (B : Nat) (w : World) (hB : B ≤ w.heap.size) :
    Calls Try.prog 19 #[] w fun e w' => ∃ b, e = .returned (.pointer (some ⟨b, 0, none⟩)) ∧ PS (fun g => w.heap.size ≤ g ∧ g < w'.heap.size) B w' b newS ∧ Below w.heap.size w w' :=
  (new_any B w hB).mono fun _ _ ⟨b, mb, n, D, V, h1, h2, h3⟩ => ⟨b, h1, ⟨mb, n, D, V, X1, h2, Tied.start, InvS.new⟩, h3⟩
theorem ps_fresh (h : PS Z B w b S) (hg : S.given ≤ 10000000) :
    Calls Try.prog 25 #[.pointer (some ⟨b, 0, none⟩)] w fun e w' => e = .returned (.int .i64 ((S.given + 1 : Nat) : Int)) ∧ PS Z B w' b (freshS S) ∧ Only B Z w w' := by
  obtain ⟨mb, n, D, V, X, h1, h2, h3⟩ := h
  exact (fresh_any h1 hg).mono fun e w' ⟨q1, q2, q3⟩ => ⟨q1, ⟨mb, n, D, V, X, q2, h2, h3.fresh⟩, q3⟩
theorem ps_at (h : PS Z B w b S) (id : Int) (hid : (Lit.int .i64 id).wf = true) (t : Nat) (hl : S.L.length ≤ 10000000) :
    Calls Try.prog 89 #[.pointer (some ⟨b, 0, none⟩), .int .i64 id, .int .u64 (t : Int)] w (AtPost w (atV (versL S.L id) t)) := by
  obtain ⟨mb, n, D, V, X, h1, h2, h3⟩ := h
  have := at_any h1 id hid t (by rw [h2.len]; exact Nat.le_trans (versL_le _ _) (by omega))
  rwa [atX_eq (h1.ups id), h2 id] at this
theorem ps_count (h : PS Z B w b S) (hg : S.given ≤ 10000000) (hl : S.L.length ≤ 10000000) :
    Calls Try.prog 24 #[.pointer (some ⟨b, 0, none⟩)] w fun e w' => e = .returned (.int .i64 (S.L.length : Int)) ∧ Below w.heap.size w w' := by
  obtain ⟨mb, n, D, V, X, h1, h2, h3⟩ := h
  have hc := cnt_len h2 h3
  have := count_any h1 hg (by rw [hc]; omega)
  rwa [hc] at this
theorem ps_inst (h : PS Z B w b S) (t : Nat) (cs : List ChV) (o : Option Addr) (j : Nat) (hB : B ≤ w.heap.size) {F : Nat → Prop} (hF : ∀ g, F g → ¬ Z g) (hc : ChsOn w F (.slice o cs.length j) cs) (hsm : ∀ x, x ∈ cs → RcSm x.2.1) (hcl : cs.length ≤ 2 ^ 44) (hg : S.given ≤ 10000000) (hl : S.L.length ≤ 10000000) :
    Calls Try.prog 26 #[.pointer (some ⟨b, 0, none⟩), .int .u64 (t : Int), .slice o cs.length j] w fun e w' => e = .returned (.int .i64 (instE S t (cs.map toCh) : Int)) ∧ Only B Z w w' ∧
      ∃ Z', PS Z' B w' b (instS S t (cs.map toCh)) ∧ (∀ g, Z g → Z' g) ∧ ∀ g, Z' g → Z g ∨ w.heap.size ≤ g := by
  obtain ⟨mb, n, D, V, X, h1, h2, h3⟩ := h
  refine (inst_any h1 t cs o j hB hF hc hsm hcl hg (h2.times h3) (fun id => by rw [h2.len]; exact Nat.le_trans (versL_le _ _) hl)).mono fun e w' ⟨q1, q2, q3⟩ => ?_
  have he : instN S.given S.last t (cs.map toCh) = instE S t (cs.map toCh) := rfl
  rw [he] at q1 q2 q3
  refine ⟨q1, ?_⟩
  by_cases h0 : instE S t (cs.map toCh) = 0
  · obtain ⟨r1, Z', mb', n', D', V', ys, r2, r3, r4, r5⟩ := q3 h0
    refine ⟨r1, Z', ⟨mb', n', D', V', layX X t ys, ?_, ?_, h3.inst t (cs.map toCh)⟩, r4, r5⟩
    · unfold instS
      rw [if_pos h0]
      exact r2
    · unfold instS
      rw [if_pos h0]
      exact h2.lay r3
  · have hb := q2 h0
    refine ⟨Only.of hb hB, Z, ⟨mb, n, D, V, X, ?_, ?_, h3.inst t (cs.map toCh)⟩, fun _ h => h, fun _ h => .inl h⟩
    · unfold instS
      rw [if_neg h0]
      exact h1.below hb
    · unfold instS
      rw [if_neg h0]
      exact h2
end
theorem PS.sm {Z : Nat → Prop} {B : Nat} {w : World} {b : Nat} {S : Sto} (h : PS Z B w b S) {id : Int} {t : Nat} {r : Rc} (hr : atV (versL S.L id) t = some r) : RcSm r := by
  obtain ⟨mb, n, D, V, X, h1, h2, _⟩ := h
  unfold atV at hr
  cases hl : ((versL S.L id).filter fun x => decide (x.time ≤ t)).getLast? with
  | none => rw [hl] at hr; cases hr
  | some x =>
    rw [hl] at hr
    dsimp only at hr
    split at hr
    · cases hr
    · cases hr
      have hm : x ∈ (X id).map toVe := by rw [h2 id]; exact (List.mem_filter.1 (List.mem_of_getLast? hl)).1
      obtain ⟨y, hy, rfl⟩ := List.mem_map.1 hm
      exact h1.sm id y hy
end Go.Proofs.Ytkackejipgabfaa.Char

/- The walks of a view's made. -/
namespace Go.Proofs.Ytkackejipgabfaa.Char
open Go.RowKit Go.Lib

theorem eql_view_same (b : Nat) (w : World) : (binOp .eql 38 (.pointer (some ⟨b, 0, none⟩)) (.pointer (some ⟨b, 0, none⟩))).run Try.prog w = .ok (.bool true) w := by
  obtain ⟨j, hj⟩ := Option.isSome_iff_exists.1 (show (Try.prog.info? 63).isSome = true by kernel_rfl)
  exact run_eql_ptr_same w _ Try.underlying38 hj
theorem eql_view_none (b : Nat) (w : World) : (binOp .eql 38 (.pointer none) (.pointer (some ⟨b, 0, none⟩))).run Try.prog w = .ok (.bool false) w := by
  have h : ∀ d : Nat, (Op.equalIn (d + 1) 38 (.pointer none) (.pointer (some ⟨b, 0, none⟩))).run Try.prog w = .ok false w := fun d => by
    simp [Op.equalIn, run_underlying Try.underlying38]
  simp only [binOp]
  simp [Op.equal, Op.maxDepth, h 9999]
set_option maxRecDepth 100000 in
set_option maxHeartbeats 2000000 in
theorem vmade_yes (b : Nat) (w : World) (h : w.cell? ⟨b, 0, none⟩ = some (.pointer (some ⟨b, 0, none⟩))) :
    Calls Try.prog 48 #[.pointer (some ⟨b, 0, none⟩)] w fun e w' => e = .returned (.bool true) ∧ w' = w := by
  have he := eql_view_same b w
  go_enter Try.func48, Try.ntmps48
  go_wp2
  go_ret
  exact ⟨rfl, rfl⟩
set_option maxRecDepth 100000 in
set_option maxHeartbeats 2000000 in
theorem vmade_none (w : World) :
    Calls Try.prog 48 #[.pointer none] w fun e w' => e = .returned (.bool false) ∧ w' = w := by
  go_enter Try.func48, Try.ntmps48
  go_wp2_with fail
  go_ret
  exact ⟨rfl, rfl⟩
set_option maxRecDepth 100000 in
set_option maxHeartbeats 2000000 in
theorem vmade_zero (b : Nat) (w : World) (h : w.cell? ⟨b, 0, none⟩ = some (.pointer none)) :
    Calls Try.prog 48 #[.pointer (some ⟨b, 0, none⟩)] w fun e w' => e = .returned (.bool false) ∧ w' = w := by
  have he := eql_view_none b w
  go_enter Try.func48, Try.ntmps48
  go_wp2
  go_ret
  exact ⟨rfl, rfl⟩
end Go.Proofs.Ytkackejipgabfaa.Char

/- The walk of a view's copied. -/
namespace Go.Proofs.Ytkackejipgabfaa.Char
open Go.RowKit Go.Lib

set_option maxRecDepth 100000 in
set_option maxHeartbeats 4000000 in
theorem copiedV_any (x : RcV) (F : Nat → Prop) (w : World) (h : RcOn w F x) (hs : RcSm x.1) :
    Calls Try.prog 52 #[rcV x] w (CopPost w x.1) := by
  obtain ⟨r, va, vb⟩ := x
  obtain ⟨ok, jk, oa, ja, e1, e2⟩ := h.form
  dsimp only at e1 e2
  subst e1 e2
  obtain ⟨W0, hW0⟩ : ∃ W0, W0 = (w.alloc (rcB (r, .slice ok r.ks.length jk, .slice oa r.ats.length ja))).alloc (rcB rcV0) := ⟨_, rfl⟩
  have b0 : Below w.heap.size w W0 := by rw [hW0]; exact ((Below.refl _ _).alloc (Nat.le_refl _) _).alloc (by simp) _
  have s0 : W0.heap.size = w.heap.size + 2 := by rw [hW0]; simp
  have k1 : W0.heap[w.heap.size]? = some (rcB (r, .slice ok r.ks.length jk, .slice oa r.ats.length ja)) := by
    rw [hW0, Below.heap_alloc _ _ _ (by simp)]; exact World.alloc_heap_new w _
  have k2 : W0.heap[w.heap.size + 1]? = some (rcB rcV0) := by
    rw [hW0]; have := World.alloc_heap_new (w.alloc (rcB (r, .slice ok r.ks.length jk, .slice oa r.ats.length ja))) (rcB rcV0); simpa using this
  have HW0 := Lib.hid hW0
  have i1 : IntsOn W0 F (.slice ok r.ks.length jk) r.ks := h.1.move fun b hb hF => ⟨hF, b0.block b hb⟩
  have HI2 := Lib.hid (fun (W : World) (hb : Below w.heap.size w W) => (h.2.move fun b hb' hF => ⟨hF, hb.block b hb'⟩ : IntsOn W F (.slice oa r.ats.length ja) r.ats))
  have hs1 := hs.1
  have hs2 := hs.2
  dsimp only at hs1 hs2
  have HI1 := Lib.hid i1
  have HK1 := Lib.hid k1
  have HK2 := Lib.hid k2
  have HB0 := Lib.hid b0
  clear h hs i1 k1 k2 b0 hW0
  unfold rcB rcV0 rc0 at HW0
  dsimp only at HW0
  unfold rcV
  dsimp only
  go_enter Try.func52, Try.ntmps52
  go_wp2_with (first
    | (refine wpList_dup w.heap.size _ (by simp; omega) r.ks F ok jk (HW0.out ▸ HI1.out) hs1 rfl (.const (.slice none 0 0)) (.tmp 4) rfl rfl rfl ?_
       rw [show (⟨#[]⟩ : ByteArray) = bs [] from rfl, ← HW0.out]
       intro q1 j1 w1 g1 b1 m1
       have n1 := (m1 _ (by omega)).trans HK1.out
       have n2 := (m1 _ (by omega)).trans HK2.out
       have hb1 := HB0.out.trans b1
       obtain ⟨⟨_, _, _, _, x4, x5, _⟩, xf⟩ := rc_blk n1
       dsimp only at x4 x5
       have z4 := xf 4
       obtain ⟨W2, hW2⟩ : ∃ W2, W2 = w1.setCell ⟨w.heap.size, 4, none⟩ (.slice q1 r.ks.length j1) := ⟨_, rfl⟩
       have p1 : W2.heap[w.heap.size]? = some (rcB (r, .slice q1 r.ks.length j1, .slice oa r.ats.length ja)) := by rw [hW2]; exact rcB_set4 n1 _
       have p2 : W2.heap[w.heap.size + 1]? = some (rcB rcV0) := by rw [hW2, heap_set_ne (by simp)]; exact n2
       have pb : Below w.heap.size w W2 := by rw [hW2]; exact hb1.setCell (p := ⟨w.heap.size, 4, none⟩) (Nat.le_refl _) _
       have pi := HI2.out W2 pb
       have pg : IntsOn W2 (fun g => w.heap.size + 2 ≤ g) (.slice q1 r.ks.length j1) r.ks := g1.move fun b hb hF => by
         have hF' : W0.heap.size ≤ b := hF
         exact ⟨(by omega : w.heap.size + 2 ≤ b), by rw [hW2]; exact heap_set_ne (by simp; omega)⟩
       have s1 : w.heap.size + 2 ≤ W2.heap.size := by rw [hW2, World.size_setCell, ← s0]; exact b1.size
       obtain ⟨⟨_, _, _, _, _, y5, _⟩, _⟩ := rc_blk p1
       dsimp only at y5
       have HW2 := Lib.hid hW2
       have HP1 := Lib.hid p1
       have HP2 := Lib.hid p2
       have HPB := Lib.hid pb
       have HPI := Lib.hid pi
       have HPG := Lib.hid pg
       clear hW2 p1 p2 pb pi pg g1 b1 m1 n1 n2 hb1 xf)
    | (refine wpList_dup w.heap.size _ (by rw [World.size_setCell]; have := HPB.out.size; rw [HW2.out, World.size_setCell] at this; exact this) r.ats F oa ja (HW2.out ▸ HPI.out) hs2 rfl (.const (.slice none 0 0)) (.tmp 8) rfl rfl rfl ?_
       rw [← HW2.out]
       intro q2 j2 w3 g2 b2 m2
       have n1 := (m2 _ (by omega)).trans HP1.out
       have n2 := (m2 _ (by omega)).trans HP2.out
       have hb2 := HPB.out.trans b2
       obtain ⟨⟨c0, c1, c2, c3, c4, c5, c6⟩, xf⟩ := rc_blk n1
       dsimp only at c0 c1 c2 c3 c4 c5 c6
       have z5 := xf 5
       obtain ⟨W4, hW4⟩ : ∃ W4, W4 = w3.setCell ⟨w.heap.size, 5, none⟩ (.slice q2 r.ats.length j2) := ⟨_, rfl⟩
       have p1 : W4.heap[w.heap.size]? = some (rcB (r, .slice q1 r.ks.length j1, .slice q2 r.ats.length j2)) := by rw [hW4]; exact rcB_set5 n1 _
       have p2 : W4.heap[w.heap.size + 1]? = some (rcB rcV0) := by rw [hW4, heap_set_ne (by simp)]; exact n2
       have pb : Below w.heap.size w W4 := by rw [hW4]; exact hb2.setCell (p := ⟨w.heap.size, 5, none⟩) (Nat.le_refl _) _
       have pg : IntsOn W4 (fun g => w.heap.size + 2 ≤ g) (.slice q2 r.ats.length j2) r.ats := g2.move fun b hb hF => by
         have hF' : W2.heap.size ≤ b := hF
         exact ⟨(by omega : w.heap.size + 2 ≤ b), by rw [hW4]; exact heap_set_ne (by simp; omega)⟩
       have pg1 : IntsOn W4 (fun g => w.heap.size + 2 ≤ g) (.slice q1 r.ks.length j1) r.ks := HPG.out.move fun b hb hF => by
         have hF' : w.heap.size + 2 ≤ b := hF
         exact ⟨hF', by rw [hW4]; exact (heap_set_ne (by simp; omega)).trans (m2 _ hb)⟩
       obtain ⟨⟨d0, d1, d2, d3, d4, d5, d6⟩, df⟩ := rc_blk n2
       have f0 := df 0
       have f1 := df 1
       have f2 := df 2
       have f3 := df 3
       have f4 := df 4
       have f5 := df 5
       have f6 := df 6
       dsimp only [rcV0, rc0] at d0 d1 d2 d3 d4 d5 d6
       have HW4 := Lib.hid hW4
       have HQ2 := Lib.hid p2
       have HQB := Lib.hid pb
       have HQG := Lib.hid pg
       have HQG1 := Lib.hid pg1
       clear hW4 p1 p2 pb pg pg1 g2 b2 m2 n1 n2 hb2 xf df)
    | fail)
  rw [← HW4.out]
  have hq : (set7 W4 (w.heap.size + 1) (r, .slice q1 r.ks.length j1, .slice q2 r.ats.length j2)).heap[w.heap.size + 1]? = some (rcB (r, .slice q1 r.ks.length j1, .slice q2 r.ats.length j2)) := set7_at (x := (r, .slice q1 r.ks.length j1, .slice q2 r.ats.length j2)) HQ2.out
  refine end_rc1 Try.results52 _ (w.heap.size + 1) (x := (r, .slice q1 r.ks.length j1, .slice q2 r.ats.length j2)) hq ⟨_, _, _, _, _, _, rfl, rfl⟩ rfl rfl ?_
  refine ⟨(r, .slice q1 r.ks.length j1, .slice q2 r.ats.length j2), rfl, rfl, ⟨HQG1.out.move fun b _ hF => ?_, HQG.out.move fun b _ hF => ?_⟩, set7_below (x := (r, .slice q1 r.ks.length j1, .slice q2 r.ats.length j2)) HQB.out (Nat.le_succ _)⟩
  · have hF' : w.heap.size + 2 ≤ b := hF
    exact ⟨(by omega : w.heap.size ≤ b), set7_ne (x := (r, .slice q1 r.ks.length j1, .slice q2 r.ats.length j2)) (by omega)⟩
  · have hF' : w.heap.size + 2 ≤ b := hF
    exact ⟨(by omega : w.heap.size ≤ b), set7_ne (x := (r, .slice q1 r.ks.length j1, .slice q2 r.ats.length j2)) (by omega)⟩
end Go.Proofs.Ytkackejipgabfaa.Char

/- Mathematics without a program: a view's changes by numbers, what it tells of a node, and what is gone through from one. -/
namespace Go.Proofs.Ytkackejipgabfaa.Char

/-- a view's own changes, by numbers rising -/
abbrev Own := List (Int × Rc)
def upO (own : Own) : Prop := own.Pairwise fun a b => a.1 < b.1
/-- a change laid -/
def layO (own : Own) (id : Int) (r : Rc) : Own := (own.filter fun c => decide (c.1 < id)) ++ (id, r) :: own.filter fun c => decide (id < c.1)
theorem layO_mem {own : Own} {id : Int} {r : Rc} {c : Int × Rc} (h : c ∈ layO own id r) : c = (id, r) ∨ (c ∈ own ∧ c.1 ≠ id) := by
  unfold layO at h
  rw [List.mem_append, List.mem_cons, List.mem_filter, List.mem_filter] at h
  rcases h with ⟨h1, h2⟩ | h | ⟨h1, h2⟩
  · exact .inr ⟨h1, by have := of_decide_eq_true h2; omega⟩
  · exact .inl h
  · exact .inr ⟨h1, by have := of_decide_eq_true h2; omega⟩
theorem upO.lay {own : Own} (h : upO own) (id : Int) (r : Rc) : upO (layO own id r) := by
  unfold upO layO
  refine List.pairwise_append.2 ⟨h.filter _, List.pairwise_cons.2 ⟨fun c hc => of_decide_eq_true (List.mem_filter.1 hc).2, h.filter _⟩, fun a ha b hb => ?_⟩
  have h1 := of_decide_eq_true (List.mem_filter.1 ha).2
  rcases List.mem_cons.1 hb with rfl | hb
  · exact h1
  · have := of_decide_eq_true (List.mem_filter.1 hb).2
    omega
theorem layO_len (own : Own) (id : Int) (r : Rc) : (layO own id r).length ≤ own.length + 1 := by
  unfold layO
  rw [List.length_append, List.length_cons]
  have key : ∀ l : Own, (l.filter fun c => decide (c.1 < id)).length + (l.filter fun c => decide (id < c.1)).length ≤ l.length := by
    intro l
    induction l with
    | nil => exact Nat.le_refl _
    | cons c l ih =>
      rw [List.filter_cons, List.filter_cons, List.length_cons]
      by_cases h1 : c.1 < id
      · rw [if_pos (decide_eq_true h1), if_neg (by simp; omega), List.length_cons]; omega
      · rw [if_neg (by simpa using h1)]
        split
        · rw [List.length_cons]; omega
        · omega
  have := key own
  omega
/-- the change of a node -/
def ownAt (own : Own) (id : Int) : Option Rc := (own.find? fun c => c.1 == id).map (·.2)
theorem ownAt_nil (id : Int) : ownAt [] id = none := rfl
theorem ownAt_none {own : Own} {id : Int} : ownAt own id = none ↔ ∀ c, c ∈ own → c.1 ≠ id := by
  unfold ownAt
  rw [Option.map_eq_none_iff, List.find?_eq_none]
  exact ⟨fun h c hc => by simpa using h c hc, fun h c hc => by simpa using h c hc⟩
theorem ownAt_mem {own : Own} (h : upO own) {id : Int} {r : Rc} : ownAt own id = some r ↔ (id, r) ∈ own := by
  induction own with
  | nil => simp [ownAt]
  | cons c own ih =>
    obtain ⟨h1, h2⟩ := List.pairwise_cons.1 h
    obtain ⟨ci, cr⟩ := c
    unfold ownAt at ih ⊢
    rw [List.find?_cons]
    by_cases hc : ci = id
    · subst hc
      rw [show ((ci, cr).1 == ci) = true from beq_self_eq_true ci]
      rw [List.mem_cons]
      constructor
      · intro e
        refine .inl ?_
        have : cr = r := by simpa using e
        rw [this]
      · rintro (e | e)
        · rw [Prod.mk.injEq] at e; simp [e.2]
        · have := h1 _ e; exact absurd this (by simp)
    · rw [show ((ci, cr).1 == id) = false from beq_eq_false_iff_ne.2 hc]
      rw [List.mem_cons]
      dsimp only
      rw [ih h2]
      exact ⟨.inr, fun e => e.resolve_left fun e => hc (by rw [Prod.mk.injEq] at e; exact e.1.symm)⟩
theorem ownAt_lay {own : Own} (h : upO own) (id : Int) (r : Rc) (j : Int) : ownAt (layO own id r) j = if j = id then some r else ownAt own j := by
  have hu := h.lay id r
  by_cases hj : j = id
  · rw [if_pos hj, ownAt_mem hu, hj]
    unfold layO
    simp
  · rw [if_neg hj]
    cases ho : ownAt own j with
    | none =>
      rw [ownAt_none] at ho ⊢
      intro c hc
      rcases layO_mem hc with rfl | ⟨h1, _⟩
      · exact fun e => hj e.symm
      · exact ho c h1
    | some x =>
      rw [ownAt_mem h] at ho
      rw [ownAt_mem hu]
      unfold layO
      rw [List.mem_append, List.mem_cons, List.mem_filter, List.mem_filter]
      rcases Int.lt_or_gt_of_ne hj with q | q
      · exact .inl ⟨ho, decide_eq_true q⟩
      · exact .inr (.inr ⟨ho, decide_eq_true q⟩)
/-- what a view tells of a node -/
def lookV (L : List On) (t : Nat) (own : Own) (id : Int) : Option Rc := match ownAt own id with
  | some r => if r.gone = true then none else some r
  | none => atV (versL L id) t
/-- the nodes that may be there -/
def domV (L : List On) (own : Own) : List Int := own.map (·.1) ++ L.map (·.id)
theorem lookV_dom {L : List On} {t : Nat} {own : Own} {id : Int} {r : Rc} (h : lookV L t own id = some r) : id ∈ domV L own := by
  unfold lookV at h
  unfold domV
  rw [List.mem_append]
  cases ho : ownAt own id with
  | some x =>
    refine .inl ?_
    unfold ownAt at ho
    cases hf : own.find? fun c => c.1 == id with
    | none => rw [hf] at ho; cases ho
    | some c =>
      have h1 := List.find?_some hf
      have h2 := List.mem_of_find?_eq_some hf
      exact List.mem_map.2 ⟨c, h2, by simpa using h1⟩
  | none =>
    rw [ho] at h
    refine .inr ?_
    have h' : atV (versL L id) t = some r := h
    unfold atV at h'
    cases hl : ((versL L id).filter fun x => decide (x.time ≤ t)).getLast? with
    | none => rw [hl] at h'; cases h'
    | some x =>
      have hm := (List.mem_filter.1 (List.mem_of_getLast? hl)).1
      unfold versL at hm
      obtain ⟨y, hy, _⟩ := List.mem_map.1 hm
      obtain ⟨hy1, hy2⟩ := List.mem_filter.1 hy
      exact List.mem_map.2 ⟨y, hy1, by simpa using hy2⟩
/-- a node that is gone through: its number, whether it is told as an attribute or stands in one, its record -/
abbrev Gn := Int × Bool × Rc
def hasG (acc : List Gn) (id : Int) : Bool := acc.any fun x => x.1 == id
def goL (g : Int → Bool → List Gn → Option (List Gn)) : List Int → Bool → List Gn → Option (List Gn)
  | [], _, acc => some acc
  | k :: ks, a, acc => match g k a acc with
    | none => none
    | some acc' => goL g ks a acc'
/-- to go through a node, acc having been gone through; fuel ends it -/
def goF (look : Int → Option Rc) : Nat → Int → Bool → List Gn → Option (List Gn)
  | 0, _, _, _ => none
  | f + 1, id, a, acc => match look id with
    | none => some acc
    | some r => if hasG acc id = true then some acc else match goL (goF look f) r.ats true (acc ++ [(id, a, r)]) with
      | none => none
      | some acc' => goL (goF look f) r.ks a acc'
theorem goL_ext {g : Int → Bool → List Gn → Option (List Gn)} (hg : ∀ k a acc acc', g k a acc = some acc' → ∃ ys, acc' = acc ++ ys) : ∀ (ks : List Int) (a : Bool) (acc acc' : List Gn), goL g ks a acc = some acc' → ∃ ys, acc' = acc ++ ys
  | [], _, acc, acc', h => ⟨[], by rw [goL] at h; cases h; simp⟩
  | k :: ks, a, acc, acc', h => by
    rw [goL] at h
    cases h1 : g k a acc with
    | none => rw [h1] at h; cases h
    | some b =>
      rw [h1] at h
      obtain ⟨ys, rfl⟩ := hg _ _ _ _ h1
      obtain ⟨zs, rfl⟩ := goL_ext hg ks a _ _ h
      exact ⟨ys ++ zs, by simp⟩
theorem goF_ext (look : Int → Option Rc) : ∀ (f : Nat) (id : Int) (a : Bool) (acc acc' : List Gn), goF look f id a acc = some acc' → ∃ ys, acc' = acc ++ ys
  | 0, _, _, _, _, h => by cases h
  | f + 1, id, a, acc, acc', h => by
    have ih := goF_ext look f
    rw [goF] at h
    cases hl : look id with
    | none => rw [hl] at h; cases h; exact ⟨[], by simp⟩
    | some r =>
      rw [hl] at h
      dsimp only at h
      split at h
      · cases h; exact ⟨[], by simp⟩
      · cases h1 : goL (goF look f) r.ats true (acc ++ [(id, a, r)]) with
        | none => rw [h1] at h; cases h
        | some b =>
          rw [h1] at h
          obtain ⟨ys, rfl⟩ := goL_ext ih _ _ _ _ h1
          obtain ⟨zs, rfl⟩ := goL_ext ih _ _ _ _ h
          exact ⟨[(id, a, r)] ++ (ys ++ zs), by simp⟩
/-- how many of a list have not been gone through -/
def leftG (ds : List Int) (acc : List Gn) : Nat := (ds.filter fun d => !hasG acc d).length
theorem hasG_app (acc ys : List Gn) (d : Int) : hasG (acc ++ ys) d = (hasG acc d || hasG ys d) := by unfold hasG; rw [List.any_append]
theorem leftG_le (ds : List Int) (acc ys : List Gn) : leftG ds (acc ++ ys) ≤ leftG ds acc := by
  unfold leftG
  induction ds with
  | nil => exact Nat.le_refl _
  | cons d ds ih =>
    rw [List.filter_cons, List.filter_cons, hasG_app]
    cases hasG acc d <;> cases hasG ys d <;> simp <;> omega
theorem leftG_lt {ds : List Int} {acc : List Gn} {id : Int} (h : id ∈ ds) (hn : hasG acc id = false) (a : Bool) (r : Rc) : leftG ds (acc ++ [(id, a, r)]) < leftG ds acc := by
  unfold leftG
  induction ds with
  | nil => cases h
  | cons d ds ih =>
    rw [List.filter_cons, List.filter_cons, hasG_app]
    have h1 : hasG [(id, a, r)] d = (id == d) := by simp [hasG]
    by_cases hd : id = d
    · subst hd
      have hle := leftG_le ds acc [(id, a, r)]
      unfold leftG at hle
      rw [hn, h1, beq_self_eq_true]
      simp
      omega
    · have := ih ((List.mem_cons.1 h).resolve_left hd)
      rw [h1, beq_eq_false_iff_ne.2 hd, Bool.or_false]
      cases hasG acc d <;> simp <;> omega
theorem goL_some {g : Int → Bool → List Gn → Option (List Gn)} {ds : List Int} {f : Nat} (hx : ∀ k a acc acc', g k a acc = some acc' → ∃ ys, acc' = acc ++ ys) (hg : ∀ k a acc, leftG ds acc < f → ∃ acc', g k a acc = some acc') :
    ∀ (ks : List Int) (a : Bool) (acc : List Gn), leftG ds acc < f → ∃ acc', goL g ks a acc = some acc'
  | [], _, acc, _ => ⟨acc, rfl⟩
  | k :: ks, a, acc, h => by
    obtain ⟨b, hb⟩ := hg k a acc h
    obtain ⟨ys, rfl⟩ := hx _ _ _ _ hb
    obtain ⟨c, hc⟩ := goL_some hx hg ks a (acc ++ ys) (Nat.lt_of_le_of_lt (leftG_le _ _ _) h)
    exact ⟨c, by rw [goL, hb]; exact hc⟩
/-- with fuel for all that are left it ends -/
theorem goF_some {look : Int → Option Rc} {ds : List Int} (hd : ∀ id r, look id = some r → id ∈ ds) : ∀ (f : Nat) (id : Int) (a : Bool) (acc : List Gn), leftG ds acc < f → ∃ acc', goF look f id a acc = some acc'
  | 0, _, _, _, h => absurd h (Nat.not_lt_zero _)
  | f + 1, id, a, acc, h => by
    have ih := goF_some hd f
    rw [goF]
    cases hl : look id with
    | none => exact ⟨acc, rfl⟩
    | some r =>
      dsimp only
      cases hh : hasG acc id with
      | true => exact ⟨acc, by rw [if_pos rfl]⟩
      | false =>
        rw [if_neg (by simp)]
        have h1 : leftG ds (acc ++ [(id, a, r)]) < f := by have := leftG_lt (hd id r hl) hh a r; omega
        obtain ⟨b, hb⟩ := goL_some (goF_ext look f) ih r.ats true _ h1
        obtain ⟨ys, rfl⟩ := goL_ext (goF_ext look f) _ _ _ _ hb
        rw [hb]
        exact goL_some (goF_ext look f) ih r.ks a _ (Nat.lt_of_le_of_lt (leftG_le _ _ _) h1)
/-- what is gone through from a node on -/
def goV (L : List On) (t : Nat) (own : Own) (id : Int) : List Gn := (goF (lookV L t own) ((domV L own).length + 1) id false []).getD []
theorem goV_eq (L : List On) (t : Nat) (own : Own) (id : Int) : goF (lookV L t own) ((domV L own).length + 1) id false [] = some (goV L t own id) := by
  obtain ⟨b, hb⟩ := goF_some (ds := domV L own) (fun id r => lookV_dom) ((domV L own).length + 1) id false [] (Nat.lt_succ_of_le (List.length_filter_le _ _))
  unfold goV
  rw [hb]
  rfl
/-- each is there, and is told once -/
def onceG (look : Int → Option Rc) (acc : List Gn) : Prop := (acc.map (·.1)).Nodup ∧ ∀ x, x ∈ acc → look x.1 = some x.2.2
theorem hasG_mem {acc : List Gn} {id : Int} : hasG acc id = true ↔ id ∈ acc.map (·.1) := by
  unfold hasG
  rw [List.any_eq_true, List.mem_map]
  exact ⟨fun ⟨x, h1, h2⟩ => ⟨x, h1, by simpa using h2⟩, fun ⟨x, h1, h2⟩ => ⟨x, h1, by simpa using h2⟩⟩
theorem goL_once {look : Int → Option Rc} {g : Int → Bool → List Gn → Option (List Gn)} (hg : ∀ k a acc acc', onceG look acc → g k a acc = some acc' → onceG look acc') : ∀ (ks : List Int) (a : Bool) (acc acc' : List Gn), onceG look acc → goL g ks a acc = some acc' → onceG look acc'
  | [], _, acc, acc', h0, h => by rw [goL] at h; cases h; exact h0
  | k :: ks, a, acc, acc', h0, h => by
    rw [goL] at h
    cases h1 : g k a acc with
    | none => rw [h1] at h; cases h
    | some b => rw [h1] at h; exact goL_once hg ks a _ _ (hg _ _ _ _ h0 h1) h
theorem goF_once (look : Int → Option Rc) : ∀ (f : Nat) (id : Int) (a : Bool) (acc acc' : List Gn), onceG look acc → goF look f id a acc = some acc' → onceG look acc'
  | 0, _, _, _, _, _, h => by cases h
  | f + 1, id, a, acc, acc', h0, h => by
    have ih := goF_once look f
    rw [goF] at h
    cases hl : look id with
    | none => rw [hl] at h; cases h; exact h0
    | some r =>
      rw [hl] at h
      dsimp only at h
      split at h
      · cases h; exact h0
      · rename_i hn
        have h2 : onceG look (acc ++ [(id, a, r)]) := by
          refine ⟨?_, fun x hx => ?_⟩
          · rw [List.map_append, List.nodup_append]
            refine ⟨h0.1, by simp, fun p hp q hq => ?_⟩
            have : q = id := by simpa using hq
            subst this
            intro e
            subst e
            exact hn (hasG_mem.2 hp)
          · rw [List.mem_append, List.mem_singleton] at hx
            rcases hx with hx | rfl
            · exact h0.2 x hx
            · exact hl
        cases h1 : goL (goF look f) r.ats true (acc ++ [(id, a, r)]) with
        | none => rw [h1] at h; cases h
        | some b => rw [h1] at h; exact goL_once ih _ _ _ _ (goL_once ih _ _ _ _ h2 h1) h
theorem goV_once (L : List On) (t : Nat) (own : Own) (id : Int) : onceG (lookV L t own) (goV L t own id) :=
  goF_once _ _ _ _ _ _ ⟨by simp, fun x hx => by cases hx⟩ (goV_eq L t own id)
theorem nodup_len : ∀ {a b : List Int}, a.Nodup → (∀ i, i ∈ a → i ∈ b) → a.length ≤ b.length
  | [], _, _, _ => Nat.zero_le _
  | x :: a, b, h, hs => by
    obtain ⟨h1, h2⟩ := List.nodup_cons.1 h
    have hx : x ∈ b := hs x List.mem_cons_self
    have := nodup_len (a := a) (b := b.erase x) h2 fun i hi => (List.mem_erase_of_ne (fun e : i = x => h1 (by rw [← e]; exact hi))).2 (hs i (List.mem_cons_of_mem _ hi))
    rw [List.length_erase_of_mem hx] at this
    have := List.length_pos_of_mem hx
    rw [List.length_cons]
    omega
theorem goV_len (L : List On) (t : Nat) (own : Own) (id : Int) : (goV L t own id).length ≤ L.length + own.length := by
  obtain ⟨h1, h2⟩ := goV_once L t own id
  have h3 : ∀ i, i ∈ (goV L t own id).map (·.1) → i ∈ domV L own := fun i hi => by
    obtain ⟨x, hx, rfl⟩ := List.mem_map.1 hi
    exact lookV_dom (h2 x hx)
  have h4 := nodup_len h1 h3
  rw [List.length_map] at h4
  unfold domV at h4
  rw [List.length_append, List.length_map, List.length_map] at h4
  omega
end Go.Proofs.Ytkackejipgabfaa.Char
